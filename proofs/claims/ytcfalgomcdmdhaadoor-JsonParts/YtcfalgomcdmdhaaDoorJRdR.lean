import Derived.Test.YtcfalgomcdmdhaaDoorJValL
import Derived.Laws.EntriesVeiled
namespace Go.Proofs.YtcfalgomcdmdhaaDoor
open Go.RowKit Go.WideShapes Go.Joins
theorem below_of_grown {w w0 w' : World} {b : Nat} (h0 : Below w.heap.size w w0) (hg : w0.grownBy w' (some b)) (hb : w.heap.size ≤ b) : Below w.heap.size w w' :=
  ⟨hg.os.trans h0.os, hg.tape.trans h0.tape, hg.output.trans h0.output, Nat.le_trans h0.size hg.size, fun i hi => (hg.block i (Nat.lt_of_lt_of_le hi h0.size) (fun e => by cases e; omega)).trans (h0.block i hi)⟩
end Go.Proofs.YtcfalgomcdmdhaaDoor
