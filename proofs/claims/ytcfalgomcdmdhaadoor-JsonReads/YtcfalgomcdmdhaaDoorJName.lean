/-
  The reader: names.
-/
import Derived.Test.YtcfalgomcdmdhaaDoorJMore
namespace Go.Proofs.YtcfalgomcdmdhaaDoor
open Go.RowKit Go.WideShapes Go.Joins

theorem contains_any (q : Option Addr) (c : Nat) (ss : List ByteArray) (x : ByteArray) (Z : Nat → Prop) (w : World) (h : SsIn w Z q ss) (hn : ss.length ≤ 1000000) :
    Calls Tryd.prog 85 #[.slice q ss.length c, .string x] w fun e w' => e = .returned (.bool (Lib.containsS ss x)) ∧ w' = w := by
  by_cases h0 : 0 < ss.length
  · obtain ⟨b, o, rfl, _, hc⟩ := h h0
    refine (Any.slices_Contains_string lays110 b o ss.length c ss x w (Nat.le_refl _) (by omega) (fun j hj => ?_)).mono ?_
    · have := hc j ss[j] (List.getElem?_eq_getElem hj)
      rw [this, List.getD_eq_getElem?_getD, List.getElem?_eq_getElem hj]; rfl
    · rintro e w' ⟨rfl, rfl⟩
      rw [List.take_length]
      exact ⟨rfl, rfl⟩
  · have : ss = [] := List.length_eq_zero_iff.1 (by omega)
    subst this
    refine (Any.slices_Contains_string_empty lays110 q c x w).mono ?_
    rintro e w' ⟨rfl, rfl⟩
    exact ⟨rfl, rfl⟩
theorem charsN_suf : ∀ (n : Nat) (o l : List Nat) (v r : List Nat), charsN n o l = .ok v r → ∃ a, l = a ++ r
  | 0, o, l, v, r, h => by cases h
  | n + 1, o, l, v, r, h => by
    cases l with
    | nil => cases h
    | cons c l =>
      by_cases h1 : c < 32
      · simp only [charsN, J.sw, h1, if_true] at h; cases h
      by_cases h2 : c = 34
      · subst h2
        simp only [charsN, J.sw, (by decide : ¬ 34 < 32), if_false, if_true] at h
        cases h; exact ⟨[], rfl⟩
      by_cases h3 : c = 92
      · subst h3
        simp only [charsN, J.sw, (by decide : ¬ 92 < 32), (by decide : ¬ (92 = 34)), if_false, if_true] at h
        obtain ⟨x, m, e1, e2⟩ := J.then_ok h
        obtain ⟨a, rfl⟩ := J.Good.escaped.okS _ _ _ e1
        obtain ⟨a', rfl⟩ := charsN_suf n _ _ _ _ e2
        exact ⟨92 :: (a ++ a'), by simp⟩
      · simp only [charsN, J.sw, h1, h2, h3, if_false] at h
        obtain ⟨x, m, e1, e2⟩ := J.then_ok h
        obtain ⟨a, ha⟩ := chrR_suf _ _ _ e1
        obtain ⟨a', rfl⟩ := charsN_suf n _ _ _ _ e2
        exact ⟨a ++ a', by rw [ha]; simp⟩
theorem charsR_suf (F : Nat) : ∀ l v r, charsR F l = .ok v r → ∃ a, l = a ++ r := by
  intro l v r h
  obtain ⟨x, m, e1, e2⟩ := J.then_ok h
  obtain ⟨a, rfl⟩ := (J.Good.need 34 34).okS _ _ _ e1
  obtain ⟨a', rfl⟩ := charsN_suf F _ _ _ _ e2
  exact ⟨a ++ a', by simp⟩
theorem close_yes {ns : List (List Nat)} {o : List Nat} (h : o ∈ ns) {σ : RS} (ho : σ.ok) : goR (closeN ns o) σ = (σ.refuse 160, none) := by
  unfold closeN
  refine sw_stop ho fun s i _ _ => ?_
  by_cases hc : σ.pk = 34
  · simp only [hc, if_true, h]
  · simp only [hc, if_false]
theorem close_no {ns : List (List Nat)} {o : List Nat} (h : o ∉ ns) {σ : RS} (ho : σ.ok) : (goR (closeN ns o) σ).1 = σ.must (oneS 34) ∧ Gives (closeN ns o) σ o := by
  cases σ with
  | dead s e => exact ⟨by simp [RS.must, has_dead, RS.refuse, goR_dead], fun v hv => by cases hv⟩
  | live s i =>
    have hc := has_iff s i (oneS 34)
    rw [oneS_nums (by decide), List.mem_singleton] at hc
    unfold Gives
    by_cases hx : (RS.live s i).has (oneS 34) = true
    · obtain ⟨hi, hq⟩ := hc.1 hx
      have hb : goR (closeN ns o) (.live s i) = (.live s (i + 1), some o) := by
        unfold closeN
        rw [goR_sw _ _ hi]
        simp only [hq, if_true, h, if_false]
        exact goR_pure _ (by omega)
      rw [hb]
      unfold RS.must
      rw [hx, if_pos rfl]
      exact ⟨rfl, fun v hv => by cases hv; rfl⟩
    · have hb : goR (closeN ns o) (.live s i) = ((RS.live s i).refuse 160, none) := by
        unfold closeN
        refine sw_stop ho fun s' i' e' hi' => ?_
        cases e'
        have : (RS.live s i).pk ≠ 34 := by
          rw [pk_in s i hi']
          intro hq
          exact hx (hc.2 ⟨hi', hq⟩)
        simp only [this, if_false]
      rw [hb]
      unfold RS.must
      rw [if_neg hx]
      exact ⟨rfl, fun v hv => by cases hv⟩
/-- a name and its colon -/
def nameG (F : Nat) (ns : List (List Nat)) : J.Rd (List Nat) :=
  J.blanks.then fun _ => (charsR F).then fun s => (closeN ns s).then fun s => J.blanks.then fun _ => (J.need 58 58).then fun _ => J.Rd.pure s
theorem closeN_suf (ns : List (List Nat)) (o : List Nat) : ∀ l v r, closeN ns o l = .ok v r → ∃ a, l = a ++ r := by
  intro l v r h
  unfold closeN at h
  cases l with
  | nil => cases h
  | cons c l =>
    simp only [J.sw] at h
    split at h
    · rename_i q hq
      split at hq
      · split at hq <;> cases hq
        cases h; exact ⟨[c], rfl⟩
      · cases hq
    · rename_i q hq
      split at hq
      · split at hq <;> cases hq
      · cases hq
    · cases h
structure NameP (F b : Nat) (ns : List (List Nat)) (σ : RS) (w : World) (e : Ending) (w' : World) : Prop where
  ex : ∃ str : ByteArray, e = .returned (.string str) ∧ (∀ v, (goR (nameG F ns) σ).2 = some v → numsOf str = v) ∧ RIn w' b (goR (nameG F ns) σ).1 ∧ w.grownBy w' (some b)
theorem goR_thenV' {α β : Type} {p : J.Rd α} {q : α → J.Rd β} (hs : ∀ l v r, p l = .ok v r → ∃ a, l = a ++ r) {σ : RS} {V : α} (h : Gives p σ V) : goR (p.then q) σ = goR (q V) (goR p σ).1 :=
  goR_thenF (f := fun x => x) (q := q) hs (fun x hx => (h x hx).symm)
set_option maxHeartbeats 2000000 in
set_option maxRecDepth 4000 in
theorem name_any (F b : Nat) (hF : 20000 ≤ F) (q : Option Addr) (c : Nat) (ss : List ByteArray) (Z : Nat → Prop) (σ : RS) (w : World) (h : RIn w b σ) (h8 : 8 ≤ b) (hL : Laid w) (hs : SsIn w Z q ss) (hz : ∀ k, Z k → k ≠ b) (hn : ss.length ≤ 1000000) :
    Calls Tryd.prog 60 #[rp b, .slice q ss.length c] w fun e w' => NameP F b (ss.map numsOf) σ w e w' := by
  have HS : Hid (∀ w', w.grownBy w' (some b) → SsIn w' Z q ss ∧ Laid w') := fun w' hg =>
    ⟨hs.mono fun a v z hc => ⟨by
      have hlt := World.block_lt_of_cell? _ _ hc
      unfold World.cell? at hc ⊢
      rw [hg.block a.block hlt (fun e => hz _ z (Option.some.inj e))]; exact hc, z⟩, hL.grown hg h8 h.lt⟩
  have Bk := blanks_any b σ w h
  have o1 : (goR J.blanks σ).1.ok := goR_ok blanks_errs h.ok
  have e1 : ∀ q' : J.Rd (List Nat), goR (J.blanks.then fun _ => q') σ = goR q' (goR J.blanks σ).1 := fun q' => unit_then' J.Good.blanks q' σ
  have hG := e1 ((charsR F).then fun s => (closeN (ss.map numsOf) s).then fun s => J.blanks.then fun _ => (J.need 58 58).then fun _ => J.Rd.pure s)
  generalize (goR J.blanks σ).1 = σ1 at Bk hG o1
  have HG : Hid (goR (nameG F (ss.map numsOf)) σ = goR ((charsR F).then fun s => (closeN (ss.map numsOf) s).then fun s => J.blanks.then fun _ => (J.need 58 58).then fun _ => J.Rd.pure s) σ1) := hG
  clear h hs hL hG e1
  unfold rp at Bk ⊢
  go_enter Tryd.func60, Tryd.ntmps60
  go_wp2_with fail
  refine Bk.mono ?_
  rintro e w1 ⟨rfl, h1, g1⟩
  simp only []
  have C := chars_any F b hF σ1 w1 h1 h8 (HS.out w1 g1).2
  unfold rp at C
  clear Bk
  go_wp2_with fail
  refine C.mono ?_
  rintro e w2 ⟨str, rfl, hv, h2, g2⟩
  simp only []
  have hG2 := goR_thenV' (q := fun s => (closeN (ss.map numsOf) s).then fun s => J.blanks.then fun _ => (J.need 58 58).then fun _ => J.Rd.pure s) (charsR_suf F) (V := numsOf str) (fun v hx => (hv v hx).symm)
  generalize (goR (charsR F) σ1).1 = σ2 at h2 hG2
  have HG2 : Hid (goR (nameG F (ss.map numsOf)) σ = goR ((closeN (ss.map numsOf) (numsOf str)).then fun s => J.blanks.then fun _ => (J.need 58 58).then fun _ => J.Rd.pure s) σ2) := by show _ = _; rw [HG.out, hG2]
  have H12 := grown_trans g1 g2
  have CT := contains_any q c ss str Z w2 (HS.out w2 H12).1 hn
  have hmem : numsOf str ∈ ss.map numsOf ↔ str ∈ ss := by
    constructor
    · intro hm
      obtain ⟨y, hy, e⟩ := List.mem_map.1 hm
      rw [← numsOf_inj e]; exact hy
    · exact fun hm => List.mem_map_of_mem hm
  have H3 : Hid (RIn w2 b σ2 ∧ w.grownBy w2 (some b)) := ⟨h2, H12⟩
  clear HG hG2 hv C h1 g1 g2 H12
  -- the end, behind the closing quote
  have fin : Hid (∀ (w3 : World) (σ3 : RS), RIn w3 b σ3 → w.grownBy w3 (some b) → goR (nameG F (ss.map numsOf)) σ = goR (J.blanks.then fun _ => (J.need 58 58).then fun _ => J.Rd.pure (numsOf str)) σ3 →
      (∀ w4, RIn w4 b (goR J.blanks σ3).1 → w3.grownBy w4 (some b) → ∀ w5, RIn w5 b ((goR J.blanks σ3).1.must (oneS 58)) → w4.grownBy w5 (some b) → NameP F b (ss.map numsOf) σ w (.returned (.string str)) w5)) := by
    intro w3 σ3 h3 g3 hg w4 h4 g4 w5 h5 g5
    have o4 := h4.ok
    rw [unit_then' J.Good.blanks] at hg
    rw [need_step 58 (by decide) _ _ o4] at hg
    have hp := goR_pureV (numsOf str) h5.ok
    refine ⟨str, rfl, fun v hv => ?_, ?_, grown_trans (grown_trans g3 g4) g5⟩
    · rw [hg] at hv; exact (hp.2 v hv).symm
    · rw [hg, hp.1]; exact h5
  by_cases hm : str ∈ ss
  · rw [(Lib.containsS_iff ss str).2 hm] at CT
    have R := fun w' (hw : RIn w' b σ2) => refuse_any b σ2 160 ⟨by decide, by decide⟩ w' hw
    obtain ⟨s', e', hq⟩ : ∃ s e, σ2.refuse 160 = .dead s e := by cases σ2 <;> exact ⟨_, _, rfl⟩
    have hcl : goR (nameG F (ss.map numsOf)) σ = (.dead s' e', none) := by
      rw [HG2.out, goR_thenV' (closeN_suf _ _) (V := numsOf str) (fun v hv => by rw [close_yes (hmem.2 hm) h2.ok] at hv; cases hv), close_yes (hmem.2 hm) h2.ok, hq]
      rfl
    rw [hq] at R
    have HC : Hid (goR (nameG F (ss.map numsOf)) σ = (.dead s' e', none)) := hcl
    have M1 := fun w' (hw : RIn w' b (.dead s' e')) => must_any b (.dead s' e') (oneS 34) w' hw
    have M2 := fun w' (hw : RIn w' b (.dead s' e')) => must_any b (.dead s' e') (oneS 58) w' hw
    have BK := fun w' (hw : RIn w' b (.dead s' e')) => blanks_any b (.dead s' e') w' hw
    have hdm : ∀ t, (RS.dead s' e').must t = .dead s' e' := fun t => by unfold RS.must; rw [has_dead]; rfl
    simp only [has_dead, hdm] at M1 M2
    simp only [goR_dead] at BK
    unfold rp at R M1 M2 BK
    rw [show oneS 34 = ⟨#[34]⟩ from rfl] at M1
    rw [show oneS 58 = ⟨#[58]⟩ from rfl] at M2
    clear hcl hm hmem fin hq h2
    go_wp2_with fail
    refine CT.mono ?_
    rintro e w3 ⟨rfl, hw3⟩
    rw [hw3]
    clear hw3
    simp only []
    have R' := R w2 H3.out.1
    go_wp2_with fail
    refine R'.mono ?_
    rintro e w4 ⟨rfl, h4, g4⟩
    simp only []
    have M1' := M1 w4 h4
    go_wp2_with fail
    refine M1'.mono ?_
    rintro e w5 ⟨rfl, h5, g5⟩
    simp only []
    have B' := BK w5 h5
    go_wp2_with fail
    refine B'.mono ?_
    rintro e w6 ⟨rfl, h6, g6⟩
    simp only []
    have M2' := M2 w6 h6
    go_wp2_with fail
    refine M2'.mono ?_
    rintro e w7 ⟨rfl, h7, g7⟩
    simp only []
    go_wp2
    go_ret
    refine ⟨str, rfl, fun v hv => ?_, ?_, grown_trans (grown_trans (grown_trans (grown_trans H3.out.2 g4) g5) g6) g7⟩
    · rw [HC.out] at hv; cases hv
    · rw [HC.out]; exact h7
  · rw [show Lib.containsS ss str = false from by
      cases hk : Lib.containsS ss str with
      | false => rfl
      | true => exact absurd ((Lib.containsS_iff ss str).1 hk) hm] at CT
    have hcl := close_no (ns := ss.map numsOf) (o := numsOf str) (fun hx => hm (hmem.1 hx)) h2.ok
    have M1 := must_any b σ2 (oneS 34) w2 h2
    have HC : Hid (goR (nameG F (ss.map numsOf)) σ = goR (J.blanks.then fun _ => (J.need 58 58).then fun _ => J.Rd.pure (numsOf str)) (σ2.must (oneS 34))) := by
      show _ = _
      rw [HG2.out, goR_thenV' (closeN_suf _ _) hcl.2, hcl.1]
    generalize σ2.must (oneS 34) = σ3 at M1 HC
    generalize σ2.has (oneS 34) = B1 at M1
    have BK := fun w' (hw : RIn w' b σ3) => blanks_any b σ3 w' hw
    have M2 := fun w' (hw : RIn w' b (goR J.blanks σ3).1) => must_any b (goR J.blanks σ3).1 (oneS 58) w' hw
    generalize (goR J.blanks σ3).1.has (oneS 58) = B2 at M2
    unfold rp at M1 M2 BK
    rw [show oneS 34 = ⟨#[34]⟩ from rfl] at M1
    rw [show oneS 58 = ⟨#[58]⟩ from rfl] at M2 fin
    clear hcl hm hmem h2
    go_wp2_with fail
    refine CT.mono ?_
    rintro e w3 ⟨rfl, hw3⟩
    rw [hw3]
    clear hw3
    simp only []
    go_wp2_with fail
    refine M1.mono ?_
    rintro e w5 ⟨rfl, h5, g5⟩
    simp only []
    have B' := BK w5 h5
    go_wp2_with fail
    refine B'.mono ?_
    rintro e w6 ⟨rfl, h6, g6⟩
    simp only []
    have M2' := M2 w6 h6
    go_wp2_with fail
    refine M2'.mono ?_
    rintro e w7 ⟨rfl, h7, g7⟩
    simp only []
    go_wp2
    go_ret
    exact fin.out w5 σ3 h5 (grown_trans H3.out.2 g5) HC.out w6 h6 g6 w7 h7 g7
end Go.Proofs.YtcfalgomcdmdhaaDoor
