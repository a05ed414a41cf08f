import Derived.Test.YtghcmllmbpoidaaGreatDoorRows
import Derived.Test.YtghcmllmbpoidaaGreatDoorChecked
import Derived.JoinedOf
namespace Go.Proofs.YtghcmllmbpoidaaGreatDoor
open Go
set_option maxRecDepth 100000
theorem jf0 : (Rows.treeBackRow.wf (OpenSpec.ofChange Rows.treeBackSpec)) = true := by kernel_rfl
theorem jf1 : (laidOutB Tryz.prog) = true := by kernel_rfl
theorem jf2 : (mapsRowed Tryz.prog) = true := by kernel_rfl
theorem jf3 : (Tryz.f3.params.all (Tryz.prog.readableRec ·)) = true := by kernel_rfl
theorem jf4 : (namedTie Tryz.prog Rows.treeBackRow.named Rows.treeBackSpec.vars) = true := by kernel_rfl
theorem jf5 : ((Rows.treeBackRow.stops == [])) = true := by kernel_rfl
theorem jf6 : ((Tryz.prog.stops == [])) = true := by kernel_rfl
theorem jf7 : ((Rows.treeBackRow.knobs == [])) = true := by kernel_rfl
theorem jf8 : ((Tryz.prog.stopKnobs == [])) = true := by kernel_rfl
end Go.Proofs.YtghcmllmbpoidaaGreatDoor
