/-
  DERIVED. GIVEN WITH THE SEED: THE CARDS: each row of YtkgmhmhphgaclabGreatDoorRows.lean that lists a variable, with what it lists TIED to the program's text (the seventh form; the later family's looks); each row that meets fmt, with fmt's text TOLD by the authors' own Lean function (tested against real Go, not proved from fmt's source: count such statements apart). THE CARD IS WHAT COUNTS. Prove the row's statement (the work); the ties are given (YtkgmhmhphgaclabGreatDoorTie.lean); close each card by the builder's one call (the guide's Derived/Test/ToyasCard.lean, 'card_holds'). Laid BY PROGRAM, IN A SANDBOX (cutbox-door.mjs). By AI agents, Wed Nov 11 2026. No macro, syntax, notation, axiom, sorry.
-/
import Derived.Test.YtkgmhmhphgaclabGreatDoorRows
import GoSem.ClaimSeven
namespace Go.Proofs.YtkgmhmhphgaclabGreatDoor
namespace Rows

/-- THE TIED CARD OF 'docketlaw04.FilesTwice'. -/
def filesTwiceCard : Claim7 := { stood := { row := filesTwiceRow, standIns := [], harness := (true, "9b7a2a07f52e688b9f353f74e89d684731c9f0d462c72d7175b52160485be765"), looks := true }, kinds := [], alts := [], laidByText := true, laidKinds := [.data, .data, .data, .handle], laidTests := true, laidLooks := .later }
def FilesTwiceCardSaid : Prop := Claim7.holds Tryz.pinned (.plain (OpenSpec.ofChange filesTwiceSpec)) filesTwiceCard

/-- THE TIED CARD OF 'docketlaw04.FilesRoom'. -/
def filesRoomCard : Claim7 := { stood := { row := filesRoomRow, standIns := [], harness := (true, "9b7a2a07f52e688b9f353f74e89d684731c9f0d462c72d7175b52160485be765"), looks := true }, kinds := [], alts := [], laidByText := true, laidKinds := [.data, .data, .data, .handle], laidTests := true, laidLooks := .later }
def FilesRoomCardSaid : Prop := Claim7.holds Tryz.pinned (.plain (OpenSpec.ofChange filesRoomSpec)) filesRoomCard

/-- THE TIED CARD OF 'docketlaw04.FilesBack'. -/
def filesBackCard : Claim7 := { stood := { row := filesBackRow, standIns := [], harness := (true, "9b7a2a07f52e688b9f353f74e89d684731c9f0d462c72d7175b52160485be765"), looks := true }, kinds := [], alts := [], laidByText := true, laidKinds := [.data, .data, .data, .handle], laidTests := true, laidLooks := .later }
def FilesBackCardSaid : Prop := Claim7.holds Tryz.pinned (.plain (OpenSpec.ofChange filesBackSpec)) filesBackCard

/-- THE SECOND FORM's CARD OF 'docketlaw04.FilesTwice'. -/
def filesTwiceUptoCard : Claim7 := { stood := { row := filesTwiceUptoRow, standIns := [], harness := (true, "9b7a2a07f52e688b9f353f74e89d684731c9f0d462c72d7175b52160485be765"), looks := true }, kinds := [], alts := [], laidByText := true, laidKinds := [.data, .data, .data, .handle], laidTests := true, laidLooks := .later }
def FilesTwiceUptoCardSaid : Prop := Claim7.holds Tryz.pinned (.plain (OpenSpec.upto filesTwiceSpec)) filesTwiceUptoCard

/-- THE SECOND FORM's CARD OF 'docketlaw04.FilesRoom'. -/
def filesRoomUptoCard : Claim7 := { stood := { row := filesRoomUptoRow, standIns := [], harness := (true, "9b7a2a07f52e688b9f353f74e89d684731c9f0d462c72d7175b52160485be765"), looks := true }, kinds := [], alts := [], laidByText := true, laidKinds := [.data, .data, .data, .handle], laidTests := true, laidLooks := .later }
def FilesRoomUptoCardSaid : Prop := Claim7.holds Tryz.pinned (.plain (OpenSpec.upto filesRoomSpec)) filesRoomUptoCard

/-- THE SECOND FORM's CARD OF 'docketlaw04.FilesBack'. -/
def filesBackUptoCard : Claim7 := { stood := { row := filesBackUptoRow, standIns := [], harness := (true, "9b7a2a07f52e688b9f353f74e89d684731c9f0d462c72d7175b52160485be765"), looks := true }, kinds := [], alts := [], laidByText := true, laidKinds := [.data, .data, .data, .handle], laidTests := true, laidLooks := .later }
def FilesBackUptoCardSaid : Prop := Claim7.holds Tryz.pinned (.plain (OpenSpec.upto filesBackSpec)) filesBackUptoCard
end Rows
end Go.Proofs.YtkgmhmhphgaclabGreatDoor
