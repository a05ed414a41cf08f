/-
  The program's whole.
-/
import Derived.Test.YtkcmidhpbaepoaaDoorGWf
namespace Go.Proofs.YtkcmidhpbaepoaaDoor.G
open Go.RowKit Go.WideShapes Go.Joins

/-- how a reader stands behind a whole text -/
def WhSt (S : List Nat) (g : GB) (σ : St) : Prop := ∃ p r, Wh S p r ∧ match r with | none => σ = .dead p | some v => g = v ∧ ∃ q, σ = .live q
theorem wh_of {S : List Nat} {g : GB} {σ : St} (h : Fin S (.lv .ors) (.live (skip S 0)) g σ) : WhSt S g (σ.must S .fin) := by
  obtain ⟨p', r, hR, hr⟩ := h
  cases r with
  | none =>
    have hr : σ = .dead p' := hr
    subst hr
    exact ⟨p', none, .no hR, rfl⟩
  | some v =>
    obtain ⟨rfl, rfl, _⟩ := hr
    cases ht : tkAt S p' with
    | fin => exact ⟨p', some g, .ok hR ht, rfl, nx S p', by simp only [St.must, ht, sameC, if_true]⟩
    | sg c => exact ⟨p', none, .more hR (by rw [ht]; simp), by simp [St.must, ht, sameC]⟩
    | wd c => exact ⟨p', none, .more hR (by rw [ht]; simp), by simp [St.must, ht, sameC]⟩
    | nm c => exact ⟨p', none, .more hR (by rw [ht]; simp), by simp [St.must, ht, sameC]⟩
    | nu c => exact ⟨p', none, .more hR (by rw [ht]; simp), by simp [St.must, ht, sameC]⟩
    | tx c => exact ⟨p', none, .more hR (by rw [ht]; simp), by simp [St.must, ht, sameC]⟩
    | non => exact ⟨p', none, .more hR (by rw [ht]; simp), by simp [St.must, ht, sameC]⟩
/-- what whole answers -/
structure WhP (S : ByteArray) (b : Nat) (w : World) (e : Ending) (w' : World) : Prop where
  ex : ∃ (k : Nat) (n : Int) (t : ByteArray) (q : Option Addr) (l c : Nat) (g : GB) (σ' : St), e = .returned (.agg (gA k n t q l c)) ∧ GIn w' (fun i => w.heap.size ≤ i) (gA k n t q l c) g ∧ PIn w' b S σ' ∧ w.grownBy w' (some b) ∧ WhSt (numsOf S) g σ'
theorem left_le (S : ByteArray) (σ : St) : σ.left S ≤ S.size := by
  cases σ with
  | live p => show S.size - p ≤ S.size; omega
  | dead p => exact Nat.zero_le _
set_option maxHeartbeats 1000000 in
set_option maxRecDepth 8000 in
theorem whole_any (S : ByteArray) (b : Nat) (hs : S.size ≤ 16384) (w : World) (hE : Env w b)
    (hB : w.heap[b]? = some (.cells #[.string S, .string ⟨#[]⟩, .int .i64 0, .int .i64 0, .string ⟨#[]⟩, .int .i64 0, .bool false] 35 (0, 0))) :
    Calls Tryd.prog 7 #[rp b] w fun e w' => WhP S b w e w' := by
  have b0 := below_new w (.cells gz 24)
  have AD := advance_any S 0 b (Nat.zero_le _) hs ⟨#[]⟩ ⟨#[]⟩ 0 0 _ (hE.below b0) (box_below hB b0)
  have HG : Hid (∀ w2, (w.alloc (.cells gz 24)).grownBy w2 (some b) → PIn w2 b S (.live (skip (numsOf S) 0)) → Calls Tryd.prog 14 #[rp b] w2 fun e w' => GrP S (.lv .ors) (.live (skip (numsOf S) 0)) b w2 e w') :=
    fun w2 hg hP => (guard_all S b S.size).1 _ w2 (left_le S _) ((hE.below b0).grown hg) hP
  have HE : Hid (Env w b ∧ b < w.heap.size) := ⟨hE, hE.lt⟩
  have HFI : Hid (∀ (w1 : World) (k : Nat) (n : Int) (t : ByteArray) (q : Option Addr) (l c : Nat) (g : GB), GIn w1 (fun i => (w.alloc (.cells gz 24)).heap.size ≤ i) (gA k n t q l c) g → (w.alloc (.cells gz 24)).grownBy w1 (some b) → LvS S b w1.heap.size w (w1.alloc (.cells (gA k n t q l c) 24)) (gA k n t q l c) g ∧ w.heap.size < w1.heap.size) := fun w1 k n t q l c g h1 h2 => LvS.first h1 h2 hE.lt
  clear hs hE hB b0
  unfold gz gA at HFI
  unfold gz at AD HG
  unfold rp at AD HG ⊢
  go_enter Tryd.func7, Tryd.ntmps7
  go_wp2_with fail
  refine AD.mono ?_
  rintro e w2 ⟨rfl, hP2, hg2⟩
  have GC := HG.out w2 hg2 hP2
  have H2 : Hid ((w.alloc (.cells gz 24)).grownBy w2 (some b)) := hg2
  clear AD HG hP2 hg2
  simp only []
  go_wp2_with fail
  refine GC.mono ?_
  rintro e w3 ⟨k1, n1, t1, q1, l1, c1, g, σ1, rfl, hG, hP3, hg3, hF⟩
  have hg03 := grown_trans H2.out hg3
  obtain ⟨hS, hlt⟩ := HFI.out w3 k1 n1 t1 q1 l1 c1 g (by unfold gA at hG; exact hG.wk fun i hi => Nat.le_trans H2.out.size hi) hg03
  have hP4 := hP3.below (below_new w3 (.cells (gA k1 n1 t1 q1 l1 c1) 24))
  have hS' : LvS S b w3.heap.size w (w3.alloc (.cells (gA k1 n1 t1 q1 l1 c1) 24)) (gA k1 n1 t1 q1 l1 c1) g := by unfold gA; exact hS
  have MU := must_any S b .fin trivial ⟨#[116, 104, 101, 32, 101, 110, 100]⟩ (by decide) σ1 _ (HE.out.1.grown hS'.hg) hP4
  have HS : Hid (LvS S b w3.heap.size w (w3.alloc (.cells (gA k1 n1 t1 q1 l1 c1) 24)) (gA k1 n1 t1 q1 l1 c1) g ∧ w.heap.size < w3.heap.size ∧ WhSt (numsOf S) g (σ1.must (numsOf S) .fin)) := ⟨hS', hlt, wh_of hF⟩
  clear GC hG hP3 hg3 hF hg03 hS hlt hP4 hS' HFI H2
  unfold gA at MU ⊢
  unfold rp at MU
  simp only []
  go_wp2_with fail
  refine MU.mono ?_
  rintro e w5 ⟨rfl, hP5, hg5⟩
  have hS5 := HS.out.1.go HE.out.2 HS.out.2.1 hg5
  have HB : Hid (w3.heap.size = w3.heap.size) := rfl
  obtain ⟨B, hBe⟩ : ∃ B, w3.heap.size = B := ⟨_, rfl⟩
  rw [hBe] at hS5
  have H5 : Hid (LvS S b B w w5 (gA k1 n1 t1 q1 l1 c1) g ∧ PIn w5 b S (σ1.must (numsOf S) .fin)) := ⟨hS5, hP5⟩
  obtain ⟨x0, x1, x2, x3⟩ := box_of hS5.hB
  have hz := hS5.hz
  unfold gz at hz
  obtain ⟨⟨y0, y1, y2, y3⟩, f0, f1, f2, f3⟩ := row4_cells hz
  have HZ : Hid (w5.heap[w.heap.size]? = _) := hz
  clear MU hP5 hg5 hS5 hz HB
  simp only [hBe]
  go_wp2_with fail
  refine bodyPost_ret (results_cell_row rfl _ _ w.heap.size 24 (gA k1 n1 t1 q1 l1 c1) (0, 0) _ rfl (set4_heap HZ.out _ _ _ _) Tryd.underlying24 rfl size_guard) rfl ?_
  have hb := HE.out.2
  exact ⟨k1, n1, t1, q1, l1, c1, g, _, rfl, (H5.out.1.hG.grown (set4_grown _ _ _ _ _ _) (fun i hi => by omega)).wk (fun i hi => by omega), H5.out.2.aside (set4_grown _ _ _ _ _ _) (by omega), grown_new H5.out.1.hg (set4_grown _ _ _ _ _ _) (Nat.le_refl _), HS.out.2.2⟩
end Go.Proofs.YtkcmidhpbaepoaaDoor.G
