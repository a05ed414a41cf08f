/-
  NARROWER THAN 'FOR EVERY INPUT', by the rows' own cells (each row's printed sentence says how): FreshNames: laid · FreshRows: laid · FreshNewest: laid · FreshAnyhow: laid · FreshAlike: laid.
  DERIVED. THE GIVEN ROWS OF THIS SEAT. 5 by the template 'for every input the law returns true; each argument reads behind the call as it read before'; 0 by the template 'total and deterministic' (their statements: YtbeoijlkhpbdjaaDoorTotals.lean).
  GIVEN WITH THE SEED: the statements are not yours to turn. If you find one false, say at which input.
  Laid BY PROGRAM, IN A SANDBOX (cutbox-rows.mjs): the forced cells as the released guide's own fill.sh prints them over the translation b0117ca9f83211a5… (all of the seat's roots in one cut). By AI agents, Wed Nov 11 2026. No macro, syntax, notation, axiom, sorry.
-/
import Derived.Test.YtbeoijlkhpbdjaaDoorChecked
import GoSem.Claim
import GoSem.ClaimJoined
import GoSem.ClaimMapViews
import Derived.JoinedTies
import Derived.KernelRfl
namespace Go.Proofs.YtbeoijlkhpbdjaaDoor
/- THE CELL 'sum', in the pinned program and in every row, IS THE sha256 OF THE DUMP (.gsa) THAT YtbeoijlkhpbdjaaDoorProg.lean LOADS. Nothing in Lean hashes anything: it is a label: what it is worth is what the hold of that sum in a sandbox is worth. -/
noncomputable def Tryd.pinned : Pinned := { name := "ytbeoijlkhpbdjaadoor", sum := "b0117ca9f83211a5be5ae0dcf24b26aecaa9cc3e8ee216426d9b734864777178", checked := Tryd.checked }
namespace Rows
def none {H : Type} : Left H := { results := [], args := [] }

/- WHAT THE LISTED PACKAGE-LEVEL VARIABLES READ AS WHEN THE CALL BEGINS. Each datum BY PROGRAM (the guide's laid-datum.mjs) off the statement by which the dump's own 'gosem.cut.vars' lays the variable. In a bare row this is a premise. The card (YtbeoijlkhpbdjaaDoorCards.lean) ties it to the program's text. -/
def laid_math_bits_deBruijn32tab {H : Type} : DataW H := .agg [.lit (.int .u8 0), .lit (.int .u8 1), .lit (.int .u8 28), .lit (.int .u8 2), .lit (.int .u8 29), .lit (.int .u8 14), .lit (.int .u8 24), .lit (.int .u8 3), .lit (.int .u8 30), .lit (.int .u8 22), .lit (.int .u8 20), .lit (.int .u8 15), .lit (.int .u8 25), .lit (.int .u8 17), .lit (.int .u8 4), .lit (.int .u8 8), .lit (.int .u8 31), .lit (.int .u8 27), .lit (.int .u8 13), .lit (.int .u8 23), .lit (.int .u8 21), .lit (.int .u8 19), .lit (.int .u8 16), .lit (.int .u8 7), .lit (.int .u8 26), .lit (.int .u8 12), .lit (.int .u8 18), .lit (.int .u8 6), .lit (.int .u8 11), .lit (.int .u8 5), .lit (.int .u8 10), .lit (.int .u8 9)]
def laid_math_bits_deBruijn64tab {H : Type} : DataW H := .agg [.lit (.int .u8 0), .lit (.int .u8 1), .lit (.int .u8 56), .lit (.int .u8 2), .lit (.int .u8 57), .lit (.int .u8 49), .lit (.int .u8 28), .lit (.int .u8 3), .lit (.int .u8 61), .lit (.int .u8 58), .lit (.int .u8 42), .lit (.int .u8 50), .lit (.int .u8 38), .lit (.int .u8 29), .lit (.int .u8 17), .lit (.int .u8 4), .lit (.int .u8 62), .lit (.int .u8 47), .lit (.int .u8 59), .lit (.int .u8 36), .lit (.int .u8 45), .lit (.int .u8 43), .lit (.int .u8 51), .lit (.int .u8 22), .lit (.int .u8 53), .lit (.int .u8 39), .lit (.int .u8 33), .lit (.int .u8 30), .lit (.int .u8 24), .lit (.int .u8 18), .lit (.int .u8 12), .lit (.int .u8 5), .lit (.int .u8 63), .lit (.int .u8 55), .lit (.int .u8 48), .lit (.int .u8 27), .lit (.int .u8 60), .lit (.int .u8 41), .lit (.int .u8 37), .lit (.int .u8 16), .lit (.int .u8 46), .lit (.int .u8 35), .lit (.int .u8 44), .lit (.int .u8 21), .lit (.int .u8 52), .lit (.int .u8 32), .lit (.int .u8 23), .lit (.int .u8 11), .lit (.int .u8 54), .lit (.int .u8 26), .lit (.int .u8 40), .lit (.int .u8 15), .lit (.int .u8 34), .lit (.int .u8 20), .lit (.int .u8 31), .lit (.int .u8 10), .lit (.int .u8 25), .lit (.int .u8 14), .lit (.int .u8 19), .lit (.int .u8 9), .lit (.int .u8 13), .lit (.int .u8 8), .lit (.int .u8 7), .lit (.int .u8 6)]

/-- 'docketlaw10.FreshNames': WHATEVER THE INPUT: true; the input reads as it did. -/
def freshNamesSpec : ChangeSpec := { name := "freshNames", fn := fun _ => fun
  | [] => { results := [.lit (.bool true)], args := [] }
  | _ => none }
def freshNamesRow : OpenClaim := { program := "ytbeoijlkhpbdjaadoor", sum := "b0117ca9f83211a5be5ae0dcf24b26aecaa9cc3e8ee216426d9b734864777178", func := "docket/docketlaw10.FreshNames", spec := "freshNames", unfollowed := true, recurses := true, named := ["math/bits.deBruijn32tab", "math/bits.deBruijn64tab"], apart := false, laid := [("math/bits.deBruijn32tab", laid_math_bits_deBruijn32tab), ("math/bits.deBruijn64tab", laid_math_bits_deBruijn64tab)] }
def FreshNamesSaid : Prop := freshNamesRow.holds Tryd.pinned (OpenSpec.ofChange freshNamesSpec)

/-- ITS FALSE NEIGHBOUR: 'it returns false'. Refute it at one input. -/
def freshNamesWrong : ChangeSpec := { name := "freshNames", fn := fun _ => fun
  | [] => { results := [.lit (.bool false)], args := [] }
  | _ => none }
def FreshNamesWrongFalsely : Prop := freshNamesRow.holds Tryd.pinned (OpenSpec.ofChange freshNamesWrong)

/-- 'docketlaw10.FreshRows': WHATEVER THE INPUT: true; the input reads as it did. -/
def freshRowsSpec : ChangeSpec := { name := "freshRows", fn := fun _ => fun
  | [d1, d2, d3] => { results := [.lit (.bool true)], args := [d1, d2, d3] }
  | _ => none }
def freshRowsRow : OpenClaim := { program := "ytbeoijlkhpbdjaadoor", sum := "b0117ca9f83211a5be5ae0dcf24b26aecaa9cc3e8ee216426d9b734864777178", func := "docket/docketlaw10.FreshRows", spec := "freshRows", named := ["math/bits.deBruijn32tab", "math/bits.deBruijn64tab"], apart := false, laid := [("math/bits.deBruijn32tab", laid_math_bits_deBruijn32tab), ("math/bits.deBruijn64tab", laid_math_bits_deBruijn64tab)] }
def FreshRowsSaid : Prop := freshRowsRow.holds Tryd.pinned (OpenSpec.ofChange freshRowsSpec)

/-- ITS FALSE NEIGHBOUR: 'it returns false'. Refute it at one input. -/
def freshRowsWrong : ChangeSpec := { name := "freshRows", fn := fun _ => fun
  | [d1, d2, d3] => { results := [.lit (.bool false)], args := [d1, d2, d3] }
  | _ => none }
def FreshRowsWrongFalsely : Prop := freshRowsRow.holds Tryd.pinned (OpenSpec.ofChange freshRowsWrong)

/-- 'docketlaw10.FreshNewest': WHATEVER THE INPUT: true; the input reads as it did. -/
def freshNewestSpec : ChangeSpec := { name := "freshNewest", fn := fun _ => fun
  | [d1, d2, d3] => { results := [.lit (.bool true)], args := [d1, d2, d3] }
  | _ => none }
def freshNewestRow : OpenClaim := { program := "ytbeoijlkhpbdjaadoor", sum := "b0117ca9f83211a5be5ae0dcf24b26aecaa9cc3e8ee216426d9b734864777178", func := "docket/docketlaw10.FreshNewest", spec := "freshNewest", unfollowed := true, recurses := true, named := ["math/bits.deBruijn32tab", "math/bits.deBruijn64tab"], apart := false, laid := [("math/bits.deBruijn32tab", laid_math_bits_deBruijn32tab), ("math/bits.deBruijn64tab", laid_math_bits_deBruijn64tab)] }
def FreshNewestSaid : Prop := freshNewestRow.holds Tryd.pinned (OpenSpec.ofChange freshNewestSpec)

/-- ITS FALSE NEIGHBOUR: 'it returns false'. Refute it at one input. -/
def freshNewestWrong : ChangeSpec := { name := "freshNewest", fn := fun _ => fun
  | [d1, d2, d3] => { results := [.lit (.bool false)], args := [d1, d2, d3] }
  | _ => none }
def FreshNewestWrongFalsely : Prop := freshNewestRow.holds Tryd.pinned (OpenSpec.ofChange freshNewestWrong)

/-- 'docketlaw10.FreshAnyhow': WHATEVER THE INPUT: true; the input reads as it did. -/
def freshAnyhowSpec : ChangeSpec := { name := "freshAnyhow", fn := fun _ => fun
  | [d] => { results := [.lit (.bool true)], args := [d] }
  | _ => none }
def freshAnyhowRow : OpenClaim := { program := "ytbeoijlkhpbdjaadoor", sum := "b0117ca9f83211a5be5ae0dcf24b26aecaa9cc3e8ee216426d9b734864777178", func := "docket/docketlaw10.FreshAnyhow", spec := "freshAnyhow", unfollowed := true, recurses := true, named := ["math/bits.deBruijn32tab", "math/bits.deBruijn64tab"], apart := false, laid := [("math/bits.deBruijn32tab", laid_math_bits_deBruijn32tab), ("math/bits.deBruijn64tab", laid_math_bits_deBruijn64tab)] }
def FreshAnyhowSaid : Prop := freshAnyhowRow.holds Tryd.pinned (OpenSpec.ofChange freshAnyhowSpec)

/-- ITS FALSE NEIGHBOUR: 'it returns false'. Refute it at one input. -/
def freshAnyhowWrong : ChangeSpec := { name := "freshAnyhow", fn := fun _ => fun
  | [d] => { results := [.lit (.bool false)], args := [d] }
  | _ => none }
def FreshAnyhowWrongFalsely : Prop := freshAnyhowRow.holds Tryd.pinned (OpenSpec.ofChange freshAnyhowWrong)

/-- 'docketlaw10.FreshAlike': WHATEVER THE INPUT: true; the input reads as it did. -/
def freshAlikeSpec : ChangeSpec := { name := "freshAlike", fn := fun _ => fun
  | [d1, d2, d3] => { results := [.lit (.bool true)], args := [d1, d2, d3] }
  | _ => none }
def freshAlikeRow : OpenClaim := { program := "ytbeoijlkhpbdjaadoor", sum := "b0117ca9f83211a5be5ae0dcf24b26aecaa9cc3e8ee216426d9b734864777178", func := "docket/docketlaw10.FreshAlike", spec := "freshAlike", unfollowed := true, recurses := true, named := ["math/bits.deBruijn32tab", "math/bits.deBruijn64tab"], apart := false, laid := [("math/bits.deBruijn32tab", laid_math_bits_deBruijn32tab), ("math/bits.deBruijn64tab", laid_math_bits_deBruijn64tab)] }
def FreshAlikeSaid : Prop := freshAlikeRow.holds Tryd.pinned (OpenSpec.ofChange freshAlikeSpec)

/-- ITS FALSE NEIGHBOUR: 'it returns false'. Refute it at one input. -/
def freshAlikeWrong : ChangeSpec := { name := "freshAlike", fn := fun _ => fun
  | [d1, d2, d3] => { results := [.lit (.bool false)], args := [d1, d2, d3] }
  | _ => none }
def FreshAlikeWrongFalsely : Prop := freshAlikeRow.holds Tryd.pinned (OpenSpec.ofChange freshAlikeWrong)

/- THE SECOND FORM. 'bulk': how many values and letters a reading holds, each counted each time it is reached (what is shared counts as often as it is met; a slice's spare places count too). A statement '..UptoSaid' is the law's where the arguments, and the package variables that the reading takes, are together of bulk at most 1048576: NARROWER than '..Said'. Prove '..Said' where nothing that the law and all that it calls make is longer than what came in: it says more and counts as full. Else prove '..UptoSaid'. A law counts once. -/
mutual
def uptoBulk {H : Type} : DataW H → Nat
  | .lit (.string bytes) => bytes.length + 1
  | .lit _ => 1
  | .nil => 1
  | .ptr d => uptoBulk d + 1
  | .slice elems spare => uptoBulkAll elems + uptoBulkAll spare + 1
  | .agg parts => uptoBulkAll parts + 1
  | .iface _ d => uptoBulk d + 1
  | .map entries => uptoBulkEntries entries + 1
  | .held _ => 1
def uptoBulkAll {H : Type} : List (DataW H) → Nat
  | [] => 0
  | d :: r => uptoBulk d + uptoBulkAll r
def uptoBulkEntries {H : Type} : List (Lit × DataW H) → Nat
  | [] => 0
  | x :: r => uptoBulkEntry x + uptoBulkEntries r
def uptoBulkEntry {H : Type} : Lit × DataW H → Nat
  | (.string bytes, d) => bytes.length + uptoBulk d + 1
  | (_, d) => uptoBulk d + 1
 end
def uptoSmall : (H : Type) → List (DataW H) → Bool := fun _ ds => decide (uptoBulkAll ds ≤ 1048576)
def OpenSpec.upto (s : _root_.Go.ChangeSpec) : _root_.Go.OpenSpec := { _root_.Go.OpenSpec.ofChange s with cond := some uptoSmall }

/-- 'docketlaw10.FreshNames', WHERE WHAT IT READS IS OF BULK AT MOST 1048576: true; the input reads as it did. -/
def freshNamesUptoRow : OpenClaim := { program := "ytbeoijlkhpbdjaadoor", sum := "b0117ca9f83211a5be5ae0dcf24b26aecaa9cc3e8ee216426d9b734864777178", func := "docket/docketlaw10.FreshNames", spec := "freshNames", unfollowed := true, recurses := true, named := ["math/bits.deBruijn32tab", "math/bits.deBruijn64tab"], apart := false, laid := [("math/bits.deBruijn32tab", laid_math_bits_deBruijn32tab), ("math/bits.deBruijn64tab", laid_math_bits_deBruijn64tab)], narrowed := true }
def FreshNamesUptoSaid : Prop := freshNamesUptoRow.holds Tryd.pinned (OpenSpec.upto freshNamesSpec)

/-- 'docketlaw10.FreshRows', WHERE WHAT IT READS IS OF BULK AT MOST 1048576: true; the input reads as it did. -/
def freshRowsUptoRow : OpenClaim := { program := "ytbeoijlkhpbdjaadoor", sum := "b0117ca9f83211a5be5ae0dcf24b26aecaa9cc3e8ee216426d9b734864777178", func := "docket/docketlaw10.FreshRows", spec := "freshRows", named := ["math/bits.deBruijn32tab", "math/bits.deBruijn64tab"], apart := false, laid := [("math/bits.deBruijn32tab", laid_math_bits_deBruijn32tab), ("math/bits.deBruijn64tab", laid_math_bits_deBruijn64tab)], narrowed := true }
def FreshRowsUptoSaid : Prop := freshRowsUptoRow.holds Tryd.pinned (OpenSpec.upto freshRowsSpec)

/-- 'docketlaw10.FreshNewest', WHERE WHAT IT READS IS OF BULK AT MOST 1048576: true; the input reads as it did. -/
def freshNewestUptoRow : OpenClaim := { program := "ytbeoijlkhpbdjaadoor", sum := "b0117ca9f83211a5be5ae0dcf24b26aecaa9cc3e8ee216426d9b734864777178", func := "docket/docketlaw10.FreshNewest", spec := "freshNewest", unfollowed := true, recurses := true, named := ["math/bits.deBruijn32tab", "math/bits.deBruijn64tab"], apart := false, laid := [("math/bits.deBruijn32tab", laid_math_bits_deBruijn32tab), ("math/bits.deBruijn64tab", laid_math_bits_deBruijn64tab)], narrowed := true }
def FreshNewestUptoSaid : Prop := freshNewestUptoRow.holds Tryd.pinned (OpenSpec.upto freshNewestSpec)

/-- 'docketlaw10.FreshAnyhow', WHERE WHAT IT READS IS OF BULK AT MOST 1048576: true; the input reads as it did. -/
def freshAnyhowUptoRow : OpenClaim := { program := "ytbeoijlkhpbdjaadoor", sum := "b0117ca9f83211a5be5ae0dcf24b26aecaa9cc3e8ee216426d9b734864777178", func := "docket/docketlaw10.FreshAnyhow", spec := "freshAnyhow", unfollowed := true, recurses := true, named := ["math/bits.deBruijn32tab", "math/bits.deBruijn64tab"], apart := false, laid := [("math/bits.deBruijn32tab", laid_math_bits_deBruijn32tab), ("math/bits.deBruijn64tab", laid_math_bits_deBruijn64tab)], narrowed := true }
def FreshAnyhowUptoSaid : Prop := freshAnyhowUptoRow.holds Tryd.pinned (OpenSpec.upto freshAnyhowSpec)

/-- 'docketlaw10.FreshAlike', WHERE WHAT IT READS IS OF BULK AT MOST 1048576: true; the input reads as it did. -/
def freshAlikeUptoRow : OpenClaim := { program := "ytbeoijlkhpbdjaadoor", sum := "b0117ca9f83211a5be5ae0dcf24b26aecaa9cc3e8ee216426d9b734864777178", func := "docket/docketlaw10.FreshAlike", spec := "freshAlike", unfollowed := true, recurses := true, named := ["math/bits.deBruijn32tab", "math/bits.deBruijn64tab"], apart := false, laid := [("math/bits.deBruijn32tab", laid_math_bits_deBruijn32tab), ("math/bits.deBruijn64tab", laid_math_bits_deBruijn64tab)], narrowed := true }
def FreshAlikeUptoSaid : Prop := freshAlikeUptoRow.holds Tryd.pinned (OpenSpec.upto freshAlikeSpec)

end Rows
end Go.Proofs.YtbeoijlkhpbdjaaDoor
