/-
  alive: what the boss comes to.
-/
import Derived.Test.YtompcdmjbigigaaRLawB
namespace Go.Proofs.Ytompcdmjbigigaa
open Go.RowKit Go.WideShapes Go.Joins Go.Maps

theorem row_in {w : World} {b : Nat} {l : List ByteArray} (h : w.heap[b]? = some (.cells (l.map Value.string).toArray 9 (0, 0))) (hs : ∀ s ∈ l, s.size ≤ maxLen) (hl : l.length ≤ maxLen) : StrsIn w (some ⟨b, 0, none⟩) l l.length :=
  ⟨fun _ => ⟨b, 0, rfl, fun i hi => own_cell h (by rw [Nat.mul_one]; simp [List.take_of_length_le]) hi⟩, hs, Nat.le_refl _, hl, fun e => by cases e⟩
set_option maxHeartbeats 4000000 in
set_option maxRecDepth 8000 in
theorem alive_any (w : World) : Calls Try.prog 12 #[] w fun e w' => e = .returned (.bool true) ∧ Below w.heap.size w w' := by
  have TW := two_any w
  go_enter Try.func12, Try.ntmps12
  go_wp2_with fail
  refine TW.mono ?_
  rintro e w1 ⟨q, c, rfl, hR, hb1⟩
  simp only []
  have n2 := _root_.Go.heap_alloc_new w1 (.cells ([sBoss, sNobody].map Value.string).toArray 9)
  have b2 := below_new w1 (.cells ([sBoss, sNobody].map Value.string).toArray 9)
  have CL := Closed_any q c lTwo (some ⟨w1.heap.size, 0, none⟩) 2 [sBoss, sNobody] _ (hR.below b2) (row_in n2 (by decide) (by unfold maxLen; simp))
  have HB : Hid _ := below_more hb1 b2
  rw [two_names _ (by simp)] at CL
  clear TW n2 b2 hR hb1
  go_wp2_with fail
  refine CL.mono ?_
  rintro e w3 ⟨v, out, rfl, ho, hA, hb3⟩
  obtain rfl : out = [sBoss, sClerk] := ((hA.ok (two_names _ (by simp))).one (two_boss _ (by simp)))
  obtain ⟨q2, c2, rfl, hS, -⟩ := ho.read
  obtain ⟨g, o, rfl⟩ := hS.addr (by simp)
  have c0 : w3.cell? ⟨g, o, none⟩ = some (.string ⟨#[98, 111, 115, 115]⟩) := hS.at (i := 0) (by simp)
  have c1 : w3.cell? ⟨g, o + 1, none⟩ = some (.string ⟨#[99, 108, 101, 114, 107]⟩) := hS.at (i := 1) (by simp)
  have HB3 : Hid _ := below_more HB.out hb3
  simp only []
  clear CL ho hA hS hb3
  go_wp2_with fail
  go_ret
  exact ⟨rfl, HB3.out⟩
end Go.Proofs.Ytompcdmjbigigaa
