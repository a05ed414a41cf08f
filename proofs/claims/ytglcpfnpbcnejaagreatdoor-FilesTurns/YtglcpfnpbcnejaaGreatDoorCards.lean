/-
  DERIVED. GIVEN WITH THE SEED: THE CARDS: each row of YtglcpfnpbcnejaaGreatDoorRows.lean that lists a variable, with what it lists TIED to the program's text (the seventh form; the later family's looks); each row that meets fmt, with fmt's text TOLD by the authors' own Lean function (tested against real Go, not proved from fmt's source: count such statements apart). THE CARD IS WHAT COUNTS. Prove the row's statement (the work); the ties are given (YtglcpfnpbcnejaaGreatDoorTie.lean); close each card by the builder's one call (the guide's Derived/Test/ToyasCard.lean, 'card_holds'). Laid BY PROGRAM, IN A SANDBOX (cutbox-door.mjs). By AI agents, Wed Nov 11 2026. No macro, syntax, notation, axiom, sorry.
-/
import Derived.Test.YtglcpfnpbcnejaaGreatDoorRows
import GoSem.ClaimSeven
namespace Go.Proofs.YtglcpfnpbcnejaaGreatDoor
namespace Rows

/-- THE TIED CARD OF 'docketlaw04.FilesNames'. -/
def filesNamesCard : Claim7 := { stood := { row := filesNamesRow, standIns := [], harness := (true, "96e54f05388ec2c7cf29c792424581df8007470120194ea4b19644fcc8b91be6"), looks := true }, kinds := [], alts := [], laidByText := true, laidKinds := [.data, .data, .data, .handle], laidTests := true, laidLooks := .later }
def FilesNamesCardSaid : Prop := Claim7.holds Tryz.pinned (.plain (OpenSpec.ofChange filesNamesSpec)) filesNamesCard

/-- THE TIED CARD OF 'docketlaw04.FilesTurns'. -/
def filesTurnsCard : Claim7 := { stood := { row := filesTurnsRow, standIns := [], harness := (true, "96e54f05388ec2c7cf29c792424581df8007470120194ea4b19644fcc8b91be6"), looks := true }, kinds := [], alts := [], laidByText := true, laidKinds := [.data, .data, .data, .handle], laidTests := true, laidLooks := .later }
def FilesTurnsCardSaid : Prop := Claim7.holds Tryz.pinned (.plain (OpenSpec.ofChange filesTurnsSpec)) filesTurnsCard

/-- THE TIED CARD OF 'docketlaw04.FilesDone'. -/
def filesDoneCard : Claim7 := { stood := { row := filesDoneRow, standIns := [], harness := (true, "96e54f05388ec2c7cf29c792424581df8007470120194ea4b19644fcc8b91be6"), looks := true }, kinds := [], alts := [], laidByText := true, laidKinds := [.data, .data, .data, .handle], laidTests := true, laidLooks := .later }
def FilesDoneCardSaid : Prop := Claim7.holds Tryz.pinned (.plain (OpenSpec.ofChange filesDoneSpec)) filesDoneCard

/-- THE TIED CARD OF 'docketlaw04.FilesCrash'. -/
def filesCrashCard : Claim7 := { stood := { row := filesCrashRow, standIns := [], harness := (true, "96e54f05388ec2c7cf29c792424581df8007470120194ea4b19644fcc8b91be6"), looks := true }, kinds := [], alts := [], laidByText := true, laidKinds := [.data, .data, .data, .handle], laidTests := true, laidLooks := .later }
def FilesCrashCardSaid : Prop := Claim7.holds Tryz.pinned (.plain (OpenSpec.ofChange filesCrashSpec)) filesCrashCard

/-- THE TIED CARD OF 'docketlaw04.FilesTwice'. -/
def filesTwiceCard : Claim7 := { stood := { row := filesTwiceRow, standIns := [], harness := (true, "96e54f05388ec2c7cf29c792424581df8007470120194ea4b19644fcc8b91be6"), looks := true }, kinds := [], alts := [], laidByText := true, laidKinds := [.data, .data, .data, .handle], laidTests := true, laidLooks := .later }
def FilesTwiceCardSaid : Prop := Claim7.holds Tryz.pinned (.plain (OpenSpec.ofChange filesTwiceSpec)) filesTwiceCard

/-- THE SECOND FORM's CARD OF 'docketlaw04.FilesNames'. -/
def filesNamesUptoCard : Claim7 := { stood := { row := filesNamesUptoRow, standIns := [], harness := (true, "96e54f05388ec2c7cf29c792424581df8007470120194ea4b19644fcc8b91be6"), looks := true }, kinds := [], alts := [], laidByText := true, laidKinds := [.data, .data, .data, .handle], laidTests := true, laidLooks := .later }
def FilesNamesUptoCardSaid : Prop := Claim7.holds Tryz.pinned (.plain (OpenSpec.upto filesNamesSpec)) filesNamesUptoCard

/-- THE SECOND FORM's CARD OF 'docketlaw04.FilesTurns'. -/
def filesTurnsUptoCard : Claim7 := { stood := { row := filesTurnsUptoRow, standIns := [], harness := (true, "96e54f05388ec2c7cf29c792424581df8007470120194ea4b19644fcc8b91be6"), looks := true }, kinds := [], alts := [], laidByText := true, laidKinds := [.data, .data, .data, .handle], laidTests := true, laidLooks := .later }
def FilesTurnsUptoCardSaid : Prop := Claim7.holds Tryz.pinned (.plain (OpenSpec.upto filesTurnsSpec)) filesTurnsUptoCard

/-- THE SECOND FORM's CARD OF 'docketlaw04.FilesDone'. -/
def filesDoneUptoCard : Claim7 := { stood := { row := filesDoneUptoRow, standIns := [], harness := (true, "96e54f05388ec2c7cf29c792424581df8007470120194ea4b19644fcc8b91be6"), looks := true }, kinds := [], alts := [], laidByText := true, laidKinds := [.data, .data, .data, .handle], laidTests := true, laidLooks := .later }
def FilesDoneUptoCardSaid : Prop := Claim7.holds Tryz.pinned (.plain (OpenSpec.upto filesDoneSpec)) filesDoneUptoCard

/-- THE SECOND FORM's CARD OF 'docketlaw04.FilesCrash'. -/
def filesCrashUptoCard : Claim7 := { stood := { row := filesCrashUptoRow, standIns := [], harness := (true, "96e54f05388ec2c7cf29c792424581df8007470120194ea4b19644fcc8b91be6"), looks := true }, kinds := [], alts := [], laidByText := true, laidKinds := [.data, .data, .data, .handle], laidTests := true, laidLooks := .later }
def FilesCrashUptoCardSaid : Prop := Claim7.holds Tryz.pinned (.plain (OpenSpec.upto filesCrashSpec)) filesCrashUptoCard

/-- THE SECOND FORM's CARD OF 'docketlaw04.FilesTwice'. -/
def filesTwiceUptoCard : Claim7 := { stood := { row := filesTwiceUptoRow, standIns := [], harness := (true, "96e54f05388ec2c7cf29c792424581df8007470120194ea4b19644fcc8b91be6"), looks := true }, kinds := [], alts := [], laidByText := true, laidKinds := [.data, .data, .data, .handle], laidTests := true, laidLooks := .later }
def FilesTwiceUptoCardSaid : Prop := Claim7.holds Tryz.pinned (.plain (OpenSpec.upto filesTwiceSpec)) filesTwiceUptoCard
end Rows
end Go.Proofs.YtglcpfnpbcnejaaGreatDoor
