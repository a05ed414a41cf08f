import Derived.Test.YtghcmllmbpoidaaGreatDoorRows
import Derived.Test.YtghcmllmbpoidaaGreatDoorChecked
import Derived.JoinedOf
namespace Go.Proofs.YtghcmllmbpoidaaGreatDoor
open Go
set_option maxRecDepth 100000
theorem jf11 : ((Rows.treeBackRow.recurses == Tryz.prog.recurses 3)) = true := by kernel_rfl
theorem jf12 : ((Rows.treeBackRow.named == Tryz.prog.varsNamed 3)) = true := by kernel_rfl
end Go.Proofs.YtghcmllmbpoidaaGreatDoor
