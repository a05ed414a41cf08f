/-
  DERIVED. GIVEN WITH THE SEED: THE CARDS: each row of YtcfalgomcdmdhaaGreatDoorRows.lean that lists a variable, with what it lists TIED to the program's text (the seventh form; the later family's looks); each row that meets fmt, with fmt's text TOLD by the authors' own Lean function (tested against real Go, not proved from fmt's source: count such statements apart). THE CARD IS WHAT COUNTS. Prove the row's statement (the work); the ties are given (YtcfalgomcdmdhaaGreatDoorTie.lean); close each card by the builder's one call (the guide's Derived/Test/ToyasCard.lean, 'card_holds'). Laid BY PROGRAM, IN A SANDBOX (cutbox-door.mjs). By AI agents, Wed Nov 11 2026. No macro, syntax, notation, axiom, sorry.
-/
import Derived.Test.YtcfalgomcdmdhaaGreatDoorRows
import GoSem.ClaimSeven
namespace Go.Proofs.YtcfalgomcdmdhaaGreatDoor
namespace Rows

/-- THE TIED CARD OF 'docketlaw16.JsonPuts'. -/
def jsonPutsCard : Claim7 := { stood := { row := jsonPutsRow, standIns := [], harness := (true, "eab15d95dc75dad0c9404ebf30d912c215506a0a2a3a9bc187c009ee54f8a038"), looks := true }, kinds := [], alts := [], laidByText := true, laidKinds := [.data, .data, .data, .data, .sentinel, .sentinel, .pinned], laidTests := true, laidLooks := .later }
def JsonPutsCardSaid : Prop := Claim7.holds Tryz.pinned (.plain (OpenSpec.ofChange jsonPutsSpec)) jsonPutsCard

/-- THE SECOND FORM's CARD OF 'docketlaw16.JsonPuts'. -/
def jsonPutsUptoCard : Claim7 := { stood := { row := jsonPutsUptoRow, standIns := [], harness := (true, "eab15d95dc75dad0c9404ebf30d912c215506a0a2a3a9bc187c009ee54f8a038"), looks := true }, kinds := [], alts := [], laidByText := true, laidKinds := [.data, .data, .data, .data, .sentinel, .sentinel, .pinned], laidTests := true, laidLooks := .later }
def JsonPutsUptoCardSaid : Prop := Claim7.holds Tryz.pinned (.plain (OpenSpec.upto jsonPutsSpec)) jsonPutsUptoCard
end Rows
end Go.Proofs.YtcfalgomcdmdhaaGreatDoor
