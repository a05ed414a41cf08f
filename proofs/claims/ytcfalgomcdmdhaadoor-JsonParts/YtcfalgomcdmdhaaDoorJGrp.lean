import Derived.Test.YtcfalgomcdmdhaaDoorJLst
namespace Go.Proofs.YtcfalgomcdmdhaaDoor
open Go.RowKit Go.WideShapes Go.Joins
variable {F : Nat} {f : J.Rd J.JV} {obj : Bool} {T : RS × Option (List (List Nat) × List J.JV)} {b pr pv : Nat} {w : World} {σ σ2 : RS} {As : List (Array Value)} {Js : List JB} {ss : List ByteArray} {nv iv : Value}
theorem box_at {w w' : World} {row : Option Nat} {g : Nat} {o : Obj} (hg : w.grownBy w' row) (h : w.heap[g]? = some o) (hne : some g ≠ row) : w'.heap[g]? = some o := by
  have hlt : g < w.heap.size := by
    rcases Nat.lt_or_ge g w.heap.size with h' | h'
    · exact h'
    · rw [Array.getElem?_eq_none h'] at h; cases h
  rw [hg.block g hlt hne]; exact h
end Go.Proofs.YtcfalgomcdmdhaaDoor
