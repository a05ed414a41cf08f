import Derived.Test.YtcfalgomcdmdhaaDoorJGrp
namespace Go.Proofs.YtcfalgomcdmdhaaDoor
open Go.RowKit Go.WideShapes Go.Joins
theorem below_new (w : World) (o : Obj) : Below w.heap.size w (w.alloc o) := (Below.refl _ _).alloc (Nat.le_refl _) o
theorem jin_form {w : World} {Z : Nat → Prop} {A : Array Value} {x : JB} (h : JIn w Z A x) : ∃ k bb n t nq nl nc iq il ic, A = jA k bb n t nq nl nc iq il ic := by
  cases h
  exact ⟨_, _, _, _, _, _, _, _, _, _, rfl⟩
end Go.Proofs.YtcfalgomcdmdhaaDoor
