/-
  The reader: values without items.
-/
import Derived.Test.YtcfalgomcdmdhaaDoorJRow
namespace Go.Proofs.YtcfalgomcdmdhaaDoor
open Go.RowKit Go.WideShapes Go.Joins

def pp (k : Nat) : Value := .pointer (some ⟨k, 0, none⟩)
def cloV (pr pv : Nat) : Value := .func (.func 52) #[] #[pp pr, pp pv]
/-- What a value's reading finds around it. -/
structure Env (w : World) (b pr pv : Nat) : Prop where
  r : w.cell? ⟨pr, 0, none⟩ = some (rp b)
  v : w.cell? ⟨pv, 0, none⟩ = some (cloV pr pv)
  nr : pr ≠ b
  nv : pv ≠ b
  h8 : 8 ≤ b
  laid : Laid w
theorem Env.kept {w w' : World} {b pr pv : Nat} (h : Env w b pr pv) {row : Option Nat} (hg : w.grownBy w' row) (hr : some pr ≠ row) (hv : some pv ≠ row) (hl : ∀ k, row = some k → 8 ≤ k) (h8 : 8 ≤ w.heap.size) : Env w' b pr pv := by
  have a1 := World.block_lt_of_cell? _ _ h.r
  have a2 := World.block_lt_of_cell? _ _ h.v
  refine ⟨?_, ?_, h.nr, h.nv, h.h8, h.laid.kept fun k hk => hg.block k (by omega) (fun e => by have := hl k e.symm; omega)⟩
  · have := h.r
    unfold World.cell? at this ⊢
    rw [hg.block pr a1 hr]; exact this
  · have := h.v
    unfold World.cell? at this ⊢
    rw [hg.block pv a2 hv]; exact this
theorem Env.below {w w' : World} {b pr pv : Nat} (h : Env w b pr pv) (hb : Below w.heap.size w w') (h8 : 8 ≤ w.heap.size) : Env w' b pr pv :=
  h.kept (row := none) (grown_below hb none) (by simp) (by simp) (by simp) h8
theorem Env.grown {w w' : World} {b pr pv : Nat} (h : Env w b pr pv) (hg : w.grownBy w' (some b)) (h8 : 8 ≤ w.heap.size) : Env w' b pr pv :=
  h.kept hg (fun e => h.nr (Option.some.inj e)) (fun e => h.nv (Option.some.inj e)) (fun k e => by cases e; exact h.h8) h8
/-- What a value's reading answers. -/
structure ValP (p : J.Rd J.JV) (b : Nat) (σ : RS) (w : World) (e : Ending) (w' : World) : Prop where
  ex : ∃ (A : Array Value) (x : JB), e = .returned (.agg A) ∧ JIn w' (fun k => w.heap.size ≤ k) A x ∧ (∀ v, (goR p σ).2 = some v → x.toJ = v) ∧ RIn w' b (goR p σ).1 ∧ w.grownBy w' (some b)
theorem val_flat {p : J.Rd J.JV} {b : Nat} {σ : RS} {w w' : World} (k : Nat) (bb : Bool) (n : Int) (t : ByteArray) (hk : k < 256) (hn : J.Rng n) (hv : ∀ v, (goR p σ).2 = some v → v = .mk k bb n (numsOf t) [] []) (hr : RIn w' b (goR p σ).1) (hg : w.grownBy w' (some b)) :
    ValP p b σ w (.returned (.agg (flatA k bb n t))) w' :=
  ⟨_, .mk k bb n t [] [], rfl, jin_flat _ _ k bb n t hk hn, fun v h => by rw [hv v h]; simp [JB.toJ, toJs], hr, hg⟩
def valR (F : Nat) (g : Option (J.Rd J.JV)) : J.Rd J.JV := J.blanks.then fun _ => J.valueB F g
theorem valR_is (F : Nat) (g : Option (J.Rd J.JV)) (σ : RS) : goR (valR F g) σ = goR (J.valueB F g) (goR J.blanks σ).1 := unit_then' J.Good.blanks _ σ
theorem end_box {w wE wG : World} {b : Nat} {σ' : RS} {a1 a2 a3 a4 a5 a6 : Value} (hlt : b < w.heap.size) (h : RIn wE b σ') (hg : w.grownBy wE (some b)) (hb : Below wE.heap.size wE wG) :
    RIn (set6 wG w.heap.size a1 a2 a3 a4 a5 a6) b σ' ∧ w.grownBy (set6 wG w.heap.size a1 a2 a3 a4 a5 a6) (some b) := by
  have g6 := set6_grown wG w.heap.size a1 a2 a3 a4 a5 a6
  have hg2 := grown_trans hg (grown_below hb (some b))
  have hlE := (h.below hb).lt
  exact ⟨(h.below hb).at (g6.block b hlE (fun e => by cases e; omega)), ⟨g6.os.trans hg2.os, g6.tape.trans hg2.tape, g6.output.trans hg2.output, Nat.le_trans hg2.size g6.size, fun i hi hne => (g6.block i (Nat.lt_of_lt_of_le hi hg2.size) (fun e => by cases e; omega)).trans (hg2.block i hi hne)⟩⟩
theorem must_next {σ : RS} {c : Nat} (hc : c < 256) (h0 : c ≠ 0) (h : σ.pk = c) : σ.must (oneS c) = σ.next := by
  obtain ⟨s, i, rfl, hi⟩ := pk_pos (σ := σ) (by omega)
  unfold RS.must
  rw [(has_iff s i (oneS c)).2 ⟨hi, by rw [oneS_nums hc, List.mem_singleton, ← pk_in s i hi]; exact h⟩, if_pos rfl]
/-- a word ahead -/
theorem valueB_word {F : Nat} {g : Option (J.Rd J.JV)} {σ : RS} {c : Nat} {u : List Nat} {V : J.JV} (hc : c < 256) (h0 : c ≠ 0) (h : σ.pk = c) (ho : σ.ok)
    (hf : ∀ l, J.valueB F g (c :: l) = ((J.word u).then fun _ => J.Rd.pure V) l) (hw : (goR (J.word (c :: u)) σ).1.ok) :
    (goR (J.valueB F g) σ).1 = (goR (J.word (c :: u)) σ).1 ∧ ∀ v, (goR (J.valueB F g) σ).2 = some v → v = V := by
  have e1 := word_step c hc u σ ho
  rw [must_next hc h0 h] at e1
  obtain ⟨s, i, rfl, hi⟩ := pk_pos (σ := σ) (by omega)
  have e2 : goR (J.valueB F g) (.live s i) = goR ((J.word u).then fun _ => J.Rd.pure V) (.live s (i + 1)) := by
    have hcons := rest_cons hi
    rw [pk_in s i hi] at h
    rw [h] at hcons
    simp only [goR, hcons, hf]
  rw [e2, unit_then' (J.Good.word u)]
  have hw' : (goR (J.word u) (RS.live s (i + 1))).1.ok := by rw [e1] at hw; exact hw
  have hp := goR_pureV V hw'
  exact ⟨by rw [hp.1, e1]; rfl, fun v hv => hp.2 v hv⟩
/-- a text ahead -/
theorem valueB_text {F : Nat} {g : Option (J.Rd J.JV)} {σ : RS} (h : σ.pk = 34) (ho : σ.ok) (str : ByteArray) (hv : ∀ v, (goR (charsR F) σ).2 = some v → numsOf str = v) (hw : (goR (charsR F) σ).1.ok) (hw2 : ((goR (charsR F) σ).1.must (oneS 34)).ok) :
    (goR (J.valueB F g) σ).1 = (goR (charsR F) σ).1.must (oneS 34) ∧ ∀ v, (goR (J.valueB F g) σ).2 = some v → v = .mk 4 false 0 (numsOf str) [] [] := by
  have e1 : goR (charsR F) σ = goR (charsN F []) (σ.must (oneS 34)) := need_step 34 (by decide) _ σ ho
  rw [must_next (by decide) (by decide) h] at e1
  obtain ⟨s, i, rfl, hi⟩ := pk_pos (σ := σ) (by omega)
  have e2 : goR (J.valueB F g) (.live s i) = goR ((J.textN [] F []).then fun s => J.Rd.pure (.mk 4 false 0 s [] [])) (.live s (i + 1)) := by
    have hcons := rest_cons hi
    rw [pk_in s i hi] at h
    rw [h] at hcons
    simp only [goR, hcons]
    rfl
  have hn : (goR (charsN F []) (RS.live s (i + 1))) = goR (charsR F) (.live s i) := e1.symm
  rw [e2, textN_chars, then_assoc, goR_thenV' (charsN_suf F []) (V := numsOf str) (fun v hx => (hv v (by rw [← hn]; exact hx)).symm), hn]
  have hc := close_no (ns := []) (o := numsOf str) (by simp) hw
  rw [goR_thenV' (closeN_suf _ _) hc.2, hc.1]
  have hp := goR_pureV (J.JV.mk 4 false 0 (numsOf str) [] []) hw2
  exact ⟨hp.1, fun v hv' => hp.2 v hv'⟩
/-- a number ahead, or nothing that may be -/
theorem valueB_num {F : Nat} {g : Option (J.Rd J.JV)} {σ : RS} (ho : σ.ok) (h : σ.pk ≠ 91 ∧ σ.pk ≠ 123 ∧ σ.pk ≠ 34 ∧ σ.pk ≠ 110 ∧ σ.pk ≠ 116 ∧ σ.pk ≠ 102) : goR (J.valueB F g) σ = goR J.number σ := by
  cases σ with
  | dead s e => rfl
  | live s i =>
    by_cases hi : i < s.size
    · rw [pk_in s i hi] at h
      unfold J.valueB
      rw [goR_sw _ _ hi]
      simp only [h.1, h.2.1, h.2.2.1, h.2.2.2.1, h.2.2.2.2.1, h.2.2.2.2.2, if_false]
    · have e1 : goR (J.valueB F g) (.live s i) = (.dead s 160, none) := goR_end _ hi
      have e2 : goR J.number (.live s i) = (.dead s 160, none) := by
        simp only [goR, rest_nil hi, J.number_nil, List.length_nil, Nat.sub_zero, cutS_all]
      rw [e1, e2]
end Go.Proofs.YtcfalgomcdmdhaaDoor
