/-
  A world that meets the rows' condition on the program's variables; what that condition gives a walk.
-/
import Derived.Test.YtoagaddciapmkaaDoorRows
import Derived.Test.YtoagaddciapmkaaDoorChecked
import Derived.Test.YtoagaddciapmkaaDoorXMixed
import Derived.ChangeSame
import Derived.ChangeVars
import Derived.JoinedOf
import Derived.RowKit
import Derived.RowKitTokens
import Derived.LaidSub
import Derived.LaidLaws
import Derived.LaidHandle
import Derived.Lib.LaidTab
import Derived.Stop.Joined
namespace Go.Proofs.YtoagaddciapmkaaDoor
open Go.RowKit

noncomputable def tabCells : DataW Unit → Array Value
  | .agg l => (l.map fun | .lit (.int k z) => .int k z | _ => .nilIface).toArray
  | _ => #[]
noncomputable def layCells (cs : Array Value) : Obj → Obj
  | .cells _ t frozen => .cells cs t frozen
  | o => o
noncomputable def gIx (s : String) : Nat := (Tryd.prog.globalNamed s).getD 0
noncomputable def laidWorld (os : Os) : World :=
  let w0 := World.holding Tryd.prog os ⟨#[], #[], []⟩
  { w0 with heap := w0.heap.modify (gIx "docket/hash.constants") (layCells (tabCells Rows.laid_docket_hash_constants)) }
def laidLs : List (String × DataW Unit) := [("docket/hash.constants", Rows.laid_docket_hash_constants)]
theorem laidWorld_met (os : Os) (args : Array Value) : laidMetH Tryd.prog laidLs ((laidWorld os).forCall (fun _ _ => 0) ⟨#[], args, []⟩).memory :=
  laidMetH_of_parts (laidMet_of_run' 8 (by kernel_rfl) (by kernel_rfl)) (by kernel_rfl)
def conL : List Int := stepsK.map fun n : Nat => (n : Int)
theorem g_con : Tryd.prog.globalNamed "docket/hash.constants" = some 0 := by kernel_rfl
theorem tab_of {W : World} (h : laidMet Tryd.prog [("docket/hash.constants", Rows.laid_docket_hash_constants)] W) : Lib.TabIs Tryd.prog W "docket/hash.constants" .u32 conL :=
  Lib.tabIs_of_head (rest := []) g_con (t := 116) (e := 88) (n := 64) (by kernel_rfl) Tryd.underlying116 Tryd.underlying88 (by kernel_rfl) (by kernel_rfl) h
theorem laid_of {W : World} (h : laidMetH Tryd.prog laidLs W) : KOn W := by
  obtain ⟨h1, _⟩ := laidMetH_iff.1 h
  have h3 := tab_of h1
  intro j hj
  refine (World.var?_cell g_con h3 j).trans ?_
  have hl : j < stepsK.length := hj
  rw [List.getElem?_toArray, List.getElem?_map]
  unfold conL
  rw [List.getElem?_map, List.getElem?_eq_getElem hl, List.getD_eq_getElem?_getD, List.getElem?_eq_getElem hl]
  rfl
end Go.Proofs.YtoagaddciapmkaaDoor
