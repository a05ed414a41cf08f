/-
  Contracts of sumStep and Sum.
-/
import Derived.Test.YtoagaddciapmkaaDoorProg
import Derived.Test.YtoagaddciapmkaaDoorLie
import Derived.WalkKit
import Derived.WalkSpells
import Derived.WalkLawsBesides
namespace Go.Proofs.YtoagaddciapmkaaDoor.Bt
open Go.RowKit Go.WideShapes

theorem BIn.conv {w : World} {p : Option Addr} {xs : List Nat} (h : BIn w p xs) (c : Nat) :
    (convert 22 9 (.slice p xs.length c)).run Tryd.prog w = .ok (.string (strOf xs)) w := by
  rcases Nat.eq_zero_or_pos xs.length with hn | hn
  · obtain rfl : xs = [] := List.eq_nil_of_length_eq_zero hn
    show (convert 22 9 (.slice p 0 c)).run Tryd.prog w = _
    rw [run_convert_bytes_string w 22 9 5 _ 0 c Tryd.underlying22 Tryd.underlying5 Tryd.underlying9]
    cases p <;> simp [Conv.bytesToString, loadCells]
    all_goals rfl
  · obtain ⟨b, o, rfl, hc⟩ := h.1 hn
    exact run_convert_bytes_arg w 22 5 Tryd.underlying22 Tryd.underlying5 b o xs.length c (xs.map fun n : Nat => (n : Int)) (by simp) (fun i hi => by rw [hc i hi]; simp [List.getD, List.getElem?_map]; cases xs[i]? <;> rfl) 9 Tryd.underlying9
end Go.Proofs.YtoagaddciapmkaaDoor.Bt
