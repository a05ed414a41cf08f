/-
  A world that meets the row's condition on the program's variables: the settled one, the four variables laid.
-/
import Derived.Test.YtkgmhmhphgaclabGreatDoorRows
import Derived.Test.YtkgmhmhphgaclabGreatDoorJ08
import Derived.LaidSub
import Derived.LaidHandle
import Derived.LaidLaws
import Derived.RowKitTokens
import Derived.Lib.LaidTab
import Derived.Test.YtkgmhmhphgaclabGreatDoorChecked
import Derived.ChangeSame
import Derived.ChangeVars
import Derived.JoinedOf
import Derived.RowKit
import Derived.Stop.Joined
namespace Go.Proofs.YtkgmhmhphgaclabGreatDoor
open Go.RowKit Go.WideShapes Rm

theorem lh.rt : (Tryz.prog.cutTypes.find? (·.1 == "internal/reflectlite.rtype")).map (·.2) = some 167 := by kernel_rfl
theorem lh.et : Tryz.prog.globalNamed "errors.errorType" = some 0 := by kernel_rfl
theorem lh.size : Tryz.prog.types.size = 272 := by kernel_rfl
theorem lh.oneRow : ((List.range 272).filter fun t => Tryz.prog.rowNamed t [101, 114, 114, 111, 114]) = [63] := by kernel_rfl
theorem lh.handle : typeHandle Tryz.prog 63 = .pointer (some ⟨5, 63, none⟩) := by kernel_rfl
def laidL : List (String × DataW Unit) := [("math/bits.deBruijn32tab", Rows.laid_math_bits_deBruijn32tab), ("math/bits.deBruijn64tab", Rows.laid_math_bits_deBruijn64tab), ("internal/strconv.uint64pow10", Rows.laid_internal_strconv_uint64pow10), ("errors.errorType", Rows.laid_errors_errorType)]
theorem errT_of {W : World} (h : handlesMet Tryz.prog [("errors.errorType", Rows.laid_errors_errorType)] W) : ErrT W := by
  obtain ⟨name, u, ty, e1, e2, e3, e4, e5⟩ := h _ (List.mem_singleton.2 rfl)
  have en : name = [101, 114, 114, 111, 114] := (Option.some.inj e1).symm
  subst en
  obtain rfl := Option.some.inj (lh.rt.symm.trans e2)
  have hm : ty ∈ (List.range 272).filter fun t => Tryz.prog.rowNamed t [101, 114, 114, 111, 114] := List.mem_filter.2 ⟨List.mem_range.2 (by rw [← lh.size]; exact e3), e4⟩
  rw [lh.oneRow] at hm
  obtain rfl := List.mem_singleton.1 hm
  rw [lh.handle] at e5
  simpa [ErrT] using World.var?_cell lh.et e5 0
theorem tab_of {W : World} (h : laidMet Tryz.prog [("internal/strconv.uint64pow10", Rows.laid_internal_strconv_uint64pow10)] W) : Lib.TabIs Tryz.prog W "internal/strconv.uint64pow10" .u64 Lib.pow10Tab :=
  Lib.tabIs_of_head (rest := []) g_pow (t := 236) (e := 145) (n := 20) (by kernel_rfl) Tryz.underlying236 Tryz.underlying145 (by kernel_rfl) (by kernel_rfl) h
theorem laid_of {W : World} (h : laidMetH Tryz.prog laidL W) : Laid W := by
  obtain ⟨h1, h2⟩ := laidMetH_iff.1 h
  refine ⟨errT_of fun x hx => h2 x ?_, tab_of ?_⟩
  · rw [List.mem_singleton.1 hx]
    exact List.mem_filter.2 ⟨by simp [laidL], by rfl⟩
  · have h3 := h1.filter (fun x => x.1 == "internal/strconv.uint64pow10")
    exact h3
end Go.Proofs.YtkgmhmhphgaclabGreatDoor
namespace Go.Proofs.YtkgmhmhphgaclabGreatDoor
open Go.RowKit

noncomputable def tabCells : DataW Unit → Array Value
  | .agg l => (l.map fun | .lit (.int k z) => .int k z | _ => .nilIface).toArray
  | _ => #[]
noncomputable def layCells (cs : Array Value) : Obj → Obj
  | .cells _ t frozen => .cells cs t frozen
  | o => o
noncomputable def gIx (s : String) : Nat := (Tryz.prog.globalNamed s).getD 0
noncomputable def laidWorld (os : Os) : World :=
  let w0 := World.holding Tryz.prog os ⟨#[], #[], []⟩
  { w0 with heap := ((((w0.heap.modify (gIx "math/bits.deBruijn32tab") (layCells (tabCells Rows.laid_math_bits_deBruijn32tab))).modify (gIx "math/bits.deBruijn64tab") (layCells (tabCells Rows.laid_math_bits_deBruijn64tab))).modify (gIx "internal/strconv.uint64pow10") (layCells (tabCells Rows.laid_internal_strconv_uint64pow10))).modify (gIx "errors.errorType") (layCells #[.iface 167 (.agg #[.pointer (some ⟨5, 63, none⟩)])])) }
def laidLs : List (String × DataW Unit) := [("math/bits.deBruijn32tab", Rows.laid_math_bits_deBruijn32tab), ("math/bits.deBruijn64tab", Rows.laid_math_bits_deBruijn64tab), ("internal/strconv.uint64pow10", Rows.laid_internal_strconv_uint64pow10), ("errors.errorType", Rows.laid_errors_errorType)]
theorem laidWorld_met (os : Os) (args : Array Value) : laidMetH Tryz.prog laidLs ((laidWorld os).forCall (fun _ _ => 0) ⟨#[], args, []⟩).memory :=
  laidMetH_of_parts (laidMet_of_run' 8 (by kernel_rfl) (by kernel_rfl)) (by kernel_rfl)
end Go.Proofs.YtkgmhmhphgaclabGreatDoor
