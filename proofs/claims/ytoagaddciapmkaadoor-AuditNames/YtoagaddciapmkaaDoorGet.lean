/-
  Contract of Get.
-/
import Derived.Test.YtoagaddciapmkaaDoorPut
namespace Go.Proofs.YtoagaddciapmkaaDoor.Bt
open Go.RowKit Go.WideShapes

end Go.Proofs.YtoagaddciapmkaaDoor.Bt
