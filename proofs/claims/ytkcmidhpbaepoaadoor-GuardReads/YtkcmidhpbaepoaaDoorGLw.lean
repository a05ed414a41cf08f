/-
  GuardReads: the walk.
-/
import Derived.Test.YtkcmidhpbaepoaaDoorGSm
namespace Go.Proofs.YtkcmidhpbaepoaaDoor.G
open Go.RowKit Go.WideShapes Go.Joins

set_option maxHeartbeats 4000000 in
set_option maxRecDepth 8000 in
theorem reads_walk (s : ByteArray) (W : World) (hL : 6 ≤ W.heap.size ∧ Laid W) (_ : s.size ≤ maxLen) :
    Calls Tryd.prog 3 #[.string s] W fun e W' => e = .returned (.bool true) ∧ Below W.heap.size W W' := by
  have R1 := Read_any s W hL.1 hL.2
  clear hL
  by_cases hlong : 17000 < s.size
  · have q1 : (17000 : Int) < (s.size : Int) := by omega
    clear hlong R1
    go_enter Tryd.func3, Tryd.ntmps3
    go_wp2_with fail
    go_ret
    exact ⟨rfl, Below.refl _ _⟩
  have q1 : ¬ (17000 : Int) < (s.size : Int) := by omega
  clear hlong
  go_enter Tryd.func3, Tryd.ntmps3
  go_wp2_with fail
  refine R1.mono ?_
  rintro e w1 ⟨A1, x1, n1, k1, rfl, hJ1, hb1, hR1⟩
  obtain ⟨ka, ma, ta, qa, la, ca, rfl⟩ := gin_form hJ1
  have nb := below_new w1 (.cells (gA ka ma ta qa la ca) 24)
  have HX : Hid (∀ w', Below (w1.alloc (.cells (gA ka ma ta qa la ca) 24)).heap.size (w1.alloc (.cells (gA ka ma ta qa la ca) 24)) w' → w'.heap[w1.heap.size]? = some (.cells (gA ka ma ta qa la ca) 24 (0, 0)) ∧ GIn w' (fun _ => True) (gA ka ma ta qa la ca) x1 ∧ Below W.heap.size W w') := fun w' hb =>
    ⟨box_below (_root_.Go.heap_alloc_new _ _) hb, (hJ1.wk fun _ _ => trivial).bel nb |>.bel hb, below_more hb1 (below_more nb hb)⟩
  have R2 := dRead_any s (w1.alloc (.cells (gA ka ma ta qa la ca) 24))
  have HA : Hid (RdIs (numsOf s) x1 n1 k1) := hR1
  unfold gA at R2 HX ⊢
  clear R1 hJ1 hb1 hR1 nb
  simp only []
  go_wp2_with fail
  refine R2.mono ?_
  rintro e w2 ⟨A2, x2, n2, k2, rfl, hJ2, hb2, hR2⟩
  obtain ⟨kb, mb, tb, qb, lb, cb, rfl⟩ := gin_form hJ2
  obtain ⟨rfl, rfl, rfl⟩ := RdIs_one HA.out hR2
  have nb := below_new w2 (.cells (gA kb mb tb qb lb cb) 24)
  obtain ⟨G1, J1, B1⟩ := HX.out _ (below_more hb2 nb)
  have G2 := _root_.Go.heap_alloc_new w2 (.cells (gA kb mb tb qb lb cb) 24)
  have SM := dSame_yes J1 _ _ _ (Below.refl _ _) (hJ2.bel nb)
  have HB : Hid (Below W.heap.size W (w2.alloc (.cells (gA kb mb tb qb lb cb) 24))) := B1
  obtain ⟨⟨z0, z1, z2, z3⟩, _, _, _, _⟩ := row4_cells G1
  unfold gA at G2 SM HB z0 z1 z2 z3 ⊢
  obtain ⟨⟨y0, y1, y2, y3⟩, _, _, _, _⟩ := row4_cells G2
  clear R2 hJ2 hb2 hR2 nb G1 G2 J1 B1 HX
  simp only []
  go_wp2_with (first | (go_at_call 6; refine SM.mono ?_; rintro e w5 ⟨rfl, hb5⟩) | fail)
  go_ret
  exact ⟨rfl, below_more HB.out hb5⟩
end Go.Proofs.YtkcmidhpbaepoaaDoor.G
