/-
  DERIVED. GIVEN WITH THE SEED: THE CARDS: each row of YtkecajgdmompcaaDoorRows.lean that lists a variable, with what it lists TIED to the program's text (the seventh form; the later family's looks); each row that meets fmt, with fmt's text TOLD by the authors' own Lean function (tested against real Go, not proved from fmt's source: count such statements apart). THE CARD IS WHAT COUNTS. Prove the row's statement (the work); the ties are given (YtkecajgdmompcaaDoorTie.lean); close each card by the builder's one call (the guide's Derived/Test/ToyasCard.lean, 'card_holds'). Laid BY PROGRAM, IN A SANDBOX (cutbox-door.mjs). By AI agents, Wed Nov 11 2026. No macro, syntax, notation, axiom, sorry.
-/
import Derived.Test.YtkecajgdmompcaaDoorRows
import GoSem.ClaimSeven
namespace Go.Proofs.YtkecajgdmompcaaDoor
namespace Rows

/-- THE TIED CARD OF 'docketlaw12.TreeRecords'. -/
def treeRecordsCard : Claim7 := { stood := { row := treeRecordsRow, standIns := [], harness := (true, "458c1335d7e22f550005dce928f7f5e8f117314a08158601a7953017a03fdf7b"), looks := true }, kinds := [], alts := [], laidByText := true, laidKinds := [.data, .data, .data], laidTests := true, laidLooks := .later }
def TreeRecordsCardSaid : Prop := Claim7.holds Tryd.pinned (.plain (OpenSpec.ofChange treeRecordsSpec)) treeRecordsCard

/-- THE SECOND FORM's CARD OF 'docketlaw12.TreeRecords'. -/
def treeRecordsUptoCard : Claim7 := { stood := { row := treeRecordsUptoRow, standIns := [], harness := (true, "458c1335d7e22f550005dce928f7f5e8f117314a08158601a7953017a03fdf7b"), looks := true }, kinds := [], alts := [], laidByText := true, laidKinds := [.data, .data, .data], laidTests := true, laidLooks := .later }
def TreeRecordsUptoCardSaid : Prop := Claim7.holds Tryd.pinned (.plain (OpenSpec.upto treeRecordsSpec)) treeRecordsUptoCard
end Rows
end Go.Proofs.YtkecajgdmompcaaDoor
