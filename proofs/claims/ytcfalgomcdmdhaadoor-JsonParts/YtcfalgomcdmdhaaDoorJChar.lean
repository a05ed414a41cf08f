import Derived.Test.YtcfalgomcdmdhaaDoorJLaid
import Derived.Test.YtcfalgomcdmdhaaDoorJUtf
namespace Go.Proofs.YtcfalgomcdmdhaaDoor
open Go.RowKit Go.WideShapes Go.Joins
theorem below_more {w0 w1 w2 : World} (h : Below w0.heap.size w0 w1) (k : Below w1.heap.size w1 w2) : Below w0.heap.size w0 w2 := h.trans (k.mono h.size)
theorem nums_byte' (s : ByteArray) (k : Nat) (h : k < s.size) : (numsOf s).getD k 0 < 256 := by
  refine numsOf_lt s _ ?_
  rw [List.getD_eq_getElem?_getD, List.getElem?_eq_getElem (by rw [numsOf_len]; exact h)]
  exact List.getElem_mem _
end Go.Proofs.YtcfalgomcdmdhaaDoor
