/-
  The law of one time more, over what a caller hands in.
-/
import Derived.Test.YtiimabaadehkiaaDoorJ27
namespace Go.Proofs.YtiimabaadehkiaaDoor
open Go.RowKit Go.WideShapes

theorem chains_w (a b : ByteArray) (t : Int) (w : World) (hk : KOn w) (_ : a.size ≤ maxLen) (_ : b.size ≤ maxLen) (_ : (Lit.int .i64 t).wf = true) : Calls Tryd.prog 7 #[.string a, .string b, .int .i64 t] w fun e w' => e = .returned (.bool true) ∧ Below w.heap.size w w' :=
  law_chains a b t w hk
end Go.Proofs.YtiimabaadehkiaaDoor
