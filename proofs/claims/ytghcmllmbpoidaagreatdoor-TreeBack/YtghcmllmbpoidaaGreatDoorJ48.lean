import Derived.Test.YtghcmllmbpoidaaGreatDoorRows
import Derived.Test.YtghcmllmbpoidaaGreatDoorChecked
import Derived.JoinedOf
namespace Go.Proofs.YtghcmllmbpoidaaGreatDoor
open Go
set_option maxRecDepth 100000
theorem jf9 : ((Rows.treeBackRow.inPlace == Tryz.prog.inPlace 3)) = true := by kernel_rfl
theorem jf10 : ((Rows.treeBackRow.unfollowed == Tryz.prog.unfollowed 3)) = true := by kernel_rfl
end Go.Proofs.YtghcmllmbpoidaaGreatDoor
