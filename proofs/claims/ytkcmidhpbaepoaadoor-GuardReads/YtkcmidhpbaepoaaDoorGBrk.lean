/-
  Takes, yes and no; a name in brackets.
-/
import Derived.Test.YtkcmidhpbaepoaaDoorGNeg
namespace Go.Proofs.YtkcmidhpbaepoaaDoor.G
open Go.RowKit Go.WideShapes Go.Joins

set_option maxHeartbeats 1000000 in
set_option maxRecDepth 8000 in
theorem takes_no (S : ByteArray) (b : Nat) (t : Tk) (ht : Vt t) (K : ByteArray) (hK : what t = K) (σ : St) (w : World) (h : PIn w b S σ) (hf : (σ.take (numsOf S) t).2 = false) :
    Calls Tryd.prog 23 #[rp b, .string K] w fun e w' => e = .returned (.bool false) ∧ w' = w := by
  cases σ with
  | dead p =>
    obtain ⟨u, x, tt, n, hB⟩ := h.ded p rfl
    obtain ⟨⟨c0, c1, c2, c3, c4, c5, c6⟩, _, _, _, _, _, _⟩ := row7_cells hB
    clear hB h hK ht hf
    unfold rp
    go_enter Tryd.func23, Tryd.ntmps23
    go_wp2_with fail
    go_ret
    exact ⟨rfl, rfl⟩
  | live p =>
    have hB := h.liv p rfl
    have hw := what_same (vt_at (numsOf S) p) ht
    rw [hK] at hw
    have hc : ¬ sameC (tkAt (numsOf S) p) t = true := fun h9 => by
      simp only [St.take, h9, if_true] at hf
      cases hf
    have e1 : ((what (tkAt (numsOf S) p)).toList == K.toList) = false := (Lib.bytes_beq_false_iff _ _).2 fun e => hc (hw.1 e)
    obtain ⟨⟨c0, c1, c2, c3, c4, c5, c6⟩, _, _, _, _, _, _⟩ := row7_cells hB
    generalize what (tkAt (numsOf S) p) = U at e1 c1
    clear hB h hK ht hw hc hf
    unfold rp
    go_enter Tryd.func23, Tryd.ntmps23
    go_wp2_with fail
    go_ret
    exact ⟨rfl, rfl⟩
theorem takes_yes (S : ByteArray) (b : Nat) (t : Tk) (ht : Vt t) (K : ByteArray) (hK : what t = K) (p : Nat) (w : World) (hE : Env w b) (h : PIn w b S (.live p)) (hf : sameC (tkAt (numsOf S) p) t = true) :
    Calls Tryd.prog 23 #[rp b, .string K] w fun e w' => e = .returned (.bool true) ∧ PIn w' b S (.live (nx (numsOf S) p)) ∧ w.grownBy w' (some b) := by
  refine (takes_any S b t ht K hK (.live p) w hE h).mono ?_
  rintro e w' ⟨rfl, hP, hg⟩
  have e1 : St.take (numsOf S) t (.live p) = (.live (nx (numsOf S) p), true) := by simp only [St.take, hf, if_true]
  rw [e1] at hP ⊢
  exact ⟨rfl, hP, hg⟩
theorem PIn.word {w : World} {b : Nat} {S : ByteArray} {σ : St} (h : PIn w b S σ) : ∃ u, w.cell? ⟨b, 4, none⟩ = some (.string u) ∧ ∀ p, σ = .live p → u = txt (tkAt (numsOf S) p) := by
  cases σ with
  | live p =>
    refine ⟨_, (row7_cells (h.liv p rfl)).1.2.2.2.2.1, fun q e => ?_⟩
    cases e
    rfl
  | dead p =>
    obtain ⟨u, x, tt, n, hB⟩ := h.ded p rfl
    exact ⟨_, (row7_cells hB).1.2.2.2.2.1, fun q e => by cases e⟩
/-- what bracketed answers -/
structure BrP (S : ByteArray) (p b : Nat) (w : World) (e : Ending) (w' : World) : Prop where
  ex : ∃ (u : ByteArray) (σ' : St), e = .returned (.string u) ∧ PIn w' b S σ' ∧ w.grownBy w' (some b) ∧
    ∀ k, (match (brk (numsOf S) k p).2 with | none => σ' = .dead (brk (numsOf S) k p).1 | some v => σ' = .live (brk (numsOf S) k p).1 ∧ v = .mk k 0 u [] ∧ p < (brk (numsOf S) k p).1)
theorem sg_same (t : Tk) (c : Nat) : sameC t (.sg c) = true ↔ t = .sg c := by
  cases t <;> simp [sameC]
theorem nm_same (t : Tk) : sameC t (.nm []) = true ↔ ∃ w, t = .nm w := by
  cases t <;> simp [sameC]
theorem brk_must {S : List Nat} {p : Nat} {u : ByteArray} {σ1 σ2 σ3 : St} (hp : p ≤ S.length) (h1 : σ1 = (St.live p).must S (.sg 40)) (h2 : σ2 = σ1.must S (.nm [])) (h3 : σ3 = σ2.must S (.sg 41)) (hu : ∀ q, σ1 = .live q → u = txt (tkAt S q)) (k : Nat) :
    match (brk S k p).2 with | none => σ3 = .dead (brk S k p).1 | some v => σ3 = .live (brk S k p).1 ∧ v = .mk k 0 u [] ∧ p < (brk S k p).1 := by
  have lt1 : ∀ {q : Nat} {c : Nat}, q ≤ S.length → tkAt S q = .sg c → q < nx S q := fun hq h => nx_lt hq (by rw [h]; simp) (by rw [h]; simp)
  by_cases e1 : tkAt S p = .sg 40
  · have hs1 : σ1 = .live (nx S p) := by rw [h1]; simp only [St.must, (sg_same _ _).2 e1, if_true]
    have l1 := lt1 hp e1
    have l1' := (nx_le hp).2
    have hu' := hu _ hs1
    by_cases e2 : ∃ w, tkAt S (nx S p) = .nm w
    · have hs2 : σ2 = .live (nx S (nx S p)) := by rw [h2, hs1]; simp only [St.must, (nm_same _).2 e2, if_true]
      obtain ⟨wd, e2⟩ := e2
      have l2 := (nx_le l1').1
      have l2' := (nx_le l1').2
      by_cases e3 : tkAt S (nx S (nx S p)) = .sg 41
      · have hs3 : σ3 = .live (nx S (nx S (nx S p))) := by rw [h3, hs2]; simp only [St.must, (sg_same _ _).2 e3, if_true]
        have l3 := (nx_le l2').1
        simp only [brk, e1, e2, e3]
        rw [e2] at hu'
        exact ⟨hs3, by rw [hu']; rfl, by omega⟩
      · have hs3 : σ3 = .dead (nx S (nx S p)) := by
          rw [h3, hs2]
          simp only [St.must]
          rw [if_neg (fun h9 => e3 ((sg_same _ _).1 h9))]
        have : brk S k p = (nx S (nx S p), none) := by
          simp only [brk, e1, e2]
          all_goals (split <;> first | rfl | (rename_i h9; exact absurd h9 e3))
        rw [this]
        exact hs3
    · have hs2 : σ2 = .dead (nx S p) := by
        rw [h2, hs1]
        simp only [St.must]
        rw [if_neg (fun h9 => e2 ((nm_same _).1 h9))]
      have hs3 : σ3 = .dead (nx S p) := by rw [h3, hs2]; rfl
      have : brk S k p = (nx S p, none) := by
        simp only [brk, e1]
        split
        · rename_i w9 h9; exact absurd ⟨w9, h9⟩ e2
        · rfl
      rw [this]
      exact hs3
  · have hs1 : σ1 = .dead p := by
      rw [h1]
      simp only [St.must]
      rw [if_neg (fun h9 => e1 ((sg_same _ _).1 h9))]
    have hs3 : σ3 = .dead p := by rw [h3, h2, hs1]; rfl
    have : brk S k p = (p, none) := by
      unfold brk
      split
      · rename_i h9; exact absurd h9 e1
      · rfl
    rw [this]
    exact hs3
set_option maxHeartbeats 1000000 in
set_option maxRecDepth 8000 in
theorem bracketed_any (S : ByteArray) (b p : Nat) (w : World) (hE : Env w b) (h : PIn w b S (.live p)) :
    Calls Tryd.prog 69 #[rp b] w fun e w' => BrP S p b w e w' := by
  have M1 := must_any S b (.sg 40) (vt_sg rfl) ⟨#[40]⟩ (by decide) (.live p) w hE h
  have HE : Hid (Env w b) := hE
  have HL : Hid (p ≤ (numsOf S).length) := by show p ≤ (numsOf S).length; rw [numsOf_len]; exact h.le
  clear hE h
  unfold rp at M1 ⊢
  go_enter Tryd.func69, Tryd.ntmps69
  go_wp2_with fail
  refine M1.mono ?_
  rintro e w1 ⟨rfl, hP1, hg1⟩
  obtain ⟨σ1, hσ1⟩ : ∃ σ1, (St.live p).must (numsOf S) (.sg 40) = σ1 := ⟨_, rfl⟩
  rw [hσ1] at hP1
  obtain ⟨u, c4, hu⟩ := hP1.word
  have M2 := must_any S b (.nm []) trivial wName rfl σ1 w1 (HE.out.grown hg1) hP1
  have H1 : Hid ((St.live p).must (numsOf S) (.sg 40) = σ1 ∧ w.grownBy w1 (some b) ∧ ∀ q, σ1 = .live q → u = txt (tkAt (numsOf S) q)) := ⟨hσ1, hg1, hu⟩
  unfold rp wName at M2
  clear M1 hP1 hg1 hσ1 hu
  simp only []
  go_wp2_with fail
  refine M2.mono ?_
  rintro e w2 ⟨rfl, hP2, hg2⟩
  obtain ⟨σ2, hσ2⟩ : ∃ σ2, σ1.must (numsOf S) (.nm []) = σ2 := ⟨_, rfl⟩
  rw [hσ2] at hP2
  have hgg := grown_trans H1.out.2.1 hg2
  have M3 := must_any S b (.sg 41) (vt_sg rfl) ⟨#[41]⟩ (by decide) σ2 w2 (HE.out.grown hgg) hP2
  have H2 : Hid (σ1.must (numsOf S) (.nm []) = σ2 ∧ w.grownBy w2 (some b)) := ⟨hσ2, hgg⟩
  unfold rp at M3
  clear M2 hP2 hg2 hσ2 hgg c4
  simp only []
  go_wp2_with fail
  refine M3.mono ?_
  rintro e w3 ⟨rfl, hP3, hg3⟩
  have HF : Hid (BrP S p b w (.returned (.string u)) w3) := ⟨u, _, rfl, hP3, grown_trans H2.out.2 hg3, fun k => brk_must HL.out H1.out.1.symm H2.out.1.symm rfl H1.out.2.2 k⟩
  clear M3 hP3 hg3
  simp only []
  go_wp2_with fail
  go_ret
  exact HF.out
end Go.Proofs.YtkcmidhpbaepoaaDoor.G
