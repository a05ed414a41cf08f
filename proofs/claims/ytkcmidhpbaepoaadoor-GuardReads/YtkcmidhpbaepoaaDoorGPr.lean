/-
  The program's pair; what the grammar's functions answer.
-/
import Derived.Test.YtkcmidhpbaepoaaDoorGRd
namespace Go.Proofs.YtkcmidhpbaepoaaDoor.G
open Go.RowKit Go.WideShapes Go.Joins

def gz : Array Value := #[.int .u8 0, .int .i64 0, .string ⟨#[]⟩, .slice none 0 0]
def set4 (w : World) (g : Nat) (a b c d : Value) : World := (((w.setCell ⟨g, 0, none⟩ a).setCell ⟨g, 1, none⟩ b).setCell ⟨g, 2, none⟩ c).setCell ⟨g, 3, none⟩ d
theorem set4_heap {w : World} {g : Nat} {x0 x1 x2 x3 : Value} (h : w.heap[g]? = some (.cells #[x0, x1, x2, x3] 24 (0, 0))) (a b c d : Value) : (set4 w g a b c d).heap[g]? = some (.cells #[a, b, c, d] 24 (0, 0)) := by
  have h1 := block_setCell (i := 0) h a
  have h2 := block_setCell (i := 1) h1 b
  have h3 := block_setCell (i := 2) h2 c
  have h4 := block_setCell (i := 3) h3 d
  exact h4
theorem set4_grown (w : World) (g : Nat) (a b c d : Value) : w.grownBy (set4 w g a b c d) (some g) :=
  grown_trans (grown_trans (grown_trans (grown_set _ _ _ _) (grown_set _ _ _ _)) (grown_set _ _ _ _)) (grown_set _ _ _ _)
theorem below_set4 {B g : Nat} (hg : B ≤ g) {a w : World} (h : Below B a w) (x0 x1 x2 x3 : Value) : Below B a (set4 w g x0 x1 x2 x3) :=
  below_set hg (below_set hg (below_set hg (below_set hg h 0 x0) 1 x1) 2 x2) 3 x3
/-- a result's box, and what is new -/
theorem grown_new {w w' w'' : World} {b g : Nat} (h : w.grownBy w' (some b)) (hg : w'.grownBy w'' (some g)) (hlt : w.heap.size ≤ g) : w.grownBy w'' (some b) :=
  ⟨hg.os.trans h.os, hg.tape.trans h.tape, hg.output.trans h.output, Nat.le_trans h.size hg.size, fun k hk hn => (hg.block k (Nat.lt_of_lt_of_le hk h.size) (fun e => by cases e; omega)).trans (h.block k hk hn)⟩
/-- what pair answers -/
structure PrP (Z : Nat → Prop) (g : GB) (w : World) (e : Ending) (w' : World) : Prop where
  ex : ∃ (k : Nat) (n : Int) (t : ByteArray) (q : Option Addr) (l c : Nat), e = .returned (.agg (gA k n t q l c)) ∧ GIn w' Z (gA k n t q l c) g ∧ Below w.heap.size w w'
set_option maxHeartbeats 1000000 in
set_option maxRecDepth 8000 in
theorem pair_any (k : Nat) (hk : k < 256) (Z : Nat → Prop) (a b : GB) (k1 k2 : Nat) (n1 n2 : Int) (t1 t2 : ByteArray) (q1 q2 : Option Addr) (l1 c1 l2 c2 : Nat) (w : World) (h1 : GIn w Z (gA k1 n1 t1 q1 l1 c1) a) (h2 : GIn w Z (gA k2 n2 t2 q2 l2 c2) b) (hZ : ∀ i, w.heap.size ≤ i → Z i) :
    Calls Tryd.prog 24 #[.int .u8 (k : Int), .agg (gA k1 n1 t1 q1 l1 c1), .agg (gA k2 n2 t2 q2 l2 c2)] w fun e w' => PrP Z (pair k a b) w e w' := by
  have b1 := below_new w (.cells (gA k1 n1 t1 q1 l1 c1) 24)
  have m1 := _root_.Go.heap_alloc_new w (.cells (gA k1 n1 t1 q1 l1 c1) 24)
  have b2 := below_new (w.alloc (.cells (gA k1 n1 t1 q1 l1 c1) 24)) (.cells (gA k2 n2 t2 q2 l2 c2) 24)
  have m2 := _root_.Go.heap_alloc_new (w.alloc (.cells (gA k1 n1 t1 q1 l1 c1) 24)) (.cells (gA k2 n2 t2 q2 l2 c2) 24)
  have b3 := below_new ((w.alloc (.cells (gA k1 n1 t1 q1 l1 c1) 24)).alloc (.cells (gA k2 n2 t2 q2 l2 c2) 24)) (.cells gz 24)
  have m3 := _root_.Go.heap_alloc_new ((w.alloc (.cells (gA k1 n1 t1 q1 l1 c1) 24)).alloc (.cells (gA k2 n2 t2 q2 l2 c2) 24)) (.cells gz 24)
  simp only [World.size_alloc] at m2 m3
  have HW : Hid (∀ W, W = ((w.alloc (.cells (gA k1 n1 t1 q1 l1 c1) 24)).alloc (.cells (gA k2 n2 t2 q2 l2 c2) 24)).alloc (.cells gz 24) → W.heap[w.heap.size]? = some (.cells (gA k1 n1 t1 q1 l1 c1) 24 (0, 0)) ∧ W.heap[w.heap.size + 1]? = some (.cells (gA k2 n2 t2 q2 l2 c2) 24 (0, 0)) ∧ W.heap[w.heap.size + 1 + 1]? = some (.cells gz 24 (0, 0)) ∧ Below w.heap.size w W ∧ W.heap.size = w.heap.size + 3) := by
    rintro W rfl
    refine ⟨box_below (box_below m1 b2) b3, box_below m2 b3, m3, below_more (below_more b1 b2) b3, by simp⟩
  have HI : Hid (GIn w Z (gA k1 n1 t1 q1 l1 c1) a ∧ GIn w Z (gA k2 n2 t2 q2 l2 c2) b ∧ (∀ i, w.heap.size ≤ i → Z i) ∧ k < 256) := ⟨h1, h2, hZ, hk⟩
  unfold gz gA at HW
  unfold gA
  clear b1 m1 b2 m2 b3 m3 h1 h2 hZ hk
  go_enter Tryd.func24, Tryd.ntmps24
  go_upto_region 1 with fail
  refine wp_at (fun W => W.heap[w.heap.size]? = _ ∧ W.heap[w.heap.size + 1]? = _ ∧ W.heap[w.heap.size + 1 + 1]? = _ ∧ Below w.heap.size w W ∧ W.heap.size = w.heap.size + 3) (HW.out _ rfl) (fun w1 H1 => ?_)
  obtain ⟨x1, x2, x3, hb, hsz⟩ := H1
  obtain ⟨⟨p0, p1, p2, p3⟩, _, _, _, _⟩ := row4_cells x1
  obtain ⟨⟨r0, r1, r2, r3⟩, _, _, _, _⟩ := row4_cells x2
  have hz : w1.heap.size = w.heap.size + 3 := hsz
  obtain ⟨⟨s0, s1, s2, s3⟩, f0, f1, f2, f3⟩ := row4_cells x3
  have HF : Hid (w1.heap[w.heap.size + 1 + 1]? = _ ∧ Below w.heap.size w w1 ∧ w1.heap.size = w.heap.size + 3) := ⟨x3, hb, hsz⟩
  clear HW x1 x2 x3 hb hsz
  go_wp2_with fail
  have hsz4 : ∀ a b c d, (set4 w1 (w.heap.size + 1 + 1) a b c d).heap.size = w.heap.size + 3 := fun a b c d => by rw [← HF.out.2.2]; simp [set4]
  have B4 := below_set4 (show w.heap.size ≤ w.heap.size + 1 + 1 by omega) HF.out.2.1 (.int .u8 (k : Int)) (.int .i64 0) (.string ⟨#[]⟩) (.slice (some ⟨w.heap.size + 3, 0, none⟩) 2 2)
  have G4 := gin_pair (HI.out.1.bel B4) (HI.out.2.1.bel B4) k HI.out.2.2.2 (HI.out.2.2.1 _ B4.size)
  rw [hsz4] at G4
  refine bodyPost_ret (results_cell_row rfl _ _ (w.heap.size + 1 + 1) 24 (gA k 0 ByteArray.empty (some ⟨w.heap.size + 3, 0, none⟩) 2 2) (0, 0) _ rfl (box_below (set4_heap HF.out.1 _ _ _ _) (below_new _ _)) Tryd.underlying24 rfl size_guard) rfl ?_
  exact ⟨k, 0, ByteArray.empty, some ⟨w.heap.size + 3, 0, none⟩, 2, 2, rfl, G4, below_more B4 (below_new _ _)⟩
end Go.Proofs.YtkcmidhpbaepoaaDoor.G
