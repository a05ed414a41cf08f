import Derived.Test.YtghcmllmbpoidaaGreatDoorRows
import Derived.Test.YtghcmllmbpoidaaGreatDoorChecked
import Derived.JoinedOf
import Derived.SevenTiedAt
import Derived.Test.YtghcmllmbpoidaaGreatDoorCards
namespace Go.Proofs.YtghcmllmbpoidaaGreatDoor
open Go
set_option maxRecDepth 100000
theorem jg_name : Tryz.prog.funcNamed "docket/docketlaw12.TreeBack" = some 3 := by kernel_rfl
theorem jg_text : Rows.treeBackRow.wfByText (OpenSpec.ofChange Rows.treeBackSpec) = true := by kernel_rfl
theorem jg_main : Tryz.prog.mainIs = some (true, "1ed0226f158b7c8dd090ce99d8b2a3b6081a6317624a3cc30359feecfa745415".toList) := by kernel_rfl
theorem jg_looks : true = Tryz.prog.looks [] := by kernel_rfl
theorem jg_goes : false = Rows.treeBackRow.goesBy Tryz.prog := by kernel_rfl
theorem jg_c : Tryz.prog.wantsStandIn 22 = false := by kernel_rfl
theorem jg_i : Tryz.prog.wantsStandIn 3 = false := by kernel_rfl
theorem jg_s : Tryz.prog.wantsStandIn 9 = false := by kernel_rfl
end Go.Proofs.YtghcmllmbpoidaaGreatDoor
