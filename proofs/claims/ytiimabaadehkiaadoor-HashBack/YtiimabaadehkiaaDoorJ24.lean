/-
  The law of what is read back, over what a caller hands in.
-/
import Derived.Test.YtiimabaadehkiaaDoorJ23
namespace Go.Proofs.YtiimabaadehkiaaDoor
open Go.RowKit Go.WideShapes

theorem back_w (v : Value) (xs : List Nat) (s : ByteArray) (w : World) (hk : KOn w) (hr : Row w v xs) (_ : s.size ≤ maxLen) : Calls Tryd.prog 6 #[v, .string s] w fun e w' => e = .returned (.bool true) ∧ Below w.heap.size w w' := by
  obtain ⟨p, c, rfl, hb, _⟩ := hr.lies
  exact law_back p c xs s w hk hb
end Go.Proofs.YtiimabaadehkiaaDoor
