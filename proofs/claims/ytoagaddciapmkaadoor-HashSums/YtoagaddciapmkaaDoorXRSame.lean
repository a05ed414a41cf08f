/-
  Same: the document's.
-/
import Derived.Test.YtoagaddciapmkaaDoorXStr
import Derived.Test.YtoagaddciapmkaaDoorXSame
namespace Go.Proofs.YtoagaddciapmkaaDoor
open Go.RowKit Go.WideShapes Go.Maps

theorem str_eqH {xs ys : List Nat} (hx : ∀ c ∈ xs, c < 256) (hy : ∀ c ∈ ys, c < 256) : ((strOf xs).toList == (strOf ys).toList) = decide (xs = ys) := by
  rw [ByteArray.toList_eq, ByteArray.toList_eq, Bool.eq_iff_iff]
  simp only [decide_eq_true_eq, beq_iff_eq]
  exact strOf_eq hx hy
theorem rsame_any (p q : Option Addr) (c d : Nat) (xs ys : List Nat) (w : World) (hx : BIn w p xs) (hy : BIn w q ys) :
    Calls Tryd.prog 15 #[.slice p xs.length c, .slice q ys.length d] w fun e w' => e = .returned (.bool (decide (xs = ys))) ∧ Below w.heap.size w w' := by
  have C1 := fun n c (h : n = xs.length) => conv_at (c := c) hx h
  have C2 := fun n c (h : n = ys.length) => conv_at (c := c) hy h
  have c1 := C1 _ c rfl
  have c2 := C2 _ d rfl
  clear C1 C2
  have HE : Hid (((strOf xs).toList == (strOf ys).toList) = decide (xs = ys)) := str_eqH hx.2 hy.2
  go_enter Tryd.func15, Tryd.ntmps15
  go_wp2
  go_ret
  refine ⟨?_, Below.refl _ _⟩
  show Ending.returned (Value.bool ((strOf xs).toList == (strOf ys).toList)) = _
  rw [HE.out]
end Go.Proofs.YtoagaddciapmkaaDoor
