import Derived.Test.YtcfalgomcdmdhaaDoorJRow
namespace Go.Proofs.YtcfalgomcdmdhaaDoor
open Go.RowKit Go.WideShapes Go.Joins
theorem set6_heap' {w : World} {g : Nat} {x0 x1 x2 x3 x4 x5 : Value} (h : w.heap[g]? = some (.cells #[x0, x1, x2, x3, x4, x5] 25 (0, 0))) (a b c d e f : Value) : (set6 w g a b c d e f).heap[g]? = some (.cells #[a, b, c, d, e, f] 25 (0, 0)) := by
  have h1 := block_setCell (i := 0) h a
  have h2 := block_setCell (i := 1) h1 b
  have h3 := block_setCell (i := 2) h2 c
  have h4 := block_setCell (i := 3) h3 d
  have h5 := block_setCell (i := 4) h4 e
  have h6 := block_setCell (i := 5) h5 f
  exact h6
end Go.Proofs.YtcfalgomcdmdhaaDoor
