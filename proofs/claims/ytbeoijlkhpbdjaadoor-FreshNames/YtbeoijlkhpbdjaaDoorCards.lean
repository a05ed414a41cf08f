/-
  DERIVED. GIVEN WITH THE SEED: THE CARDS: each row of YtbeoijlkhpbdjaaDoorRows.lean that lists a variable, with what it lists TIED to the program's text (the seventh form; the later family's looks); each row that meets fmt, with fmt's text TOLD by the authors' own Lean function (tested against real Go, not proved from fmt's source: count such statements apart). THE CARD IS WHAT COUNTS. Prove the row's statement (the work); the ties are given (YtbeoijlkhpbdjaaDoorTie.lean); close each card by the builder's one call (the guide's Derived/Test/ToyasCard.lean, 'card_holds'). Laid BY PROGRAM, IN A SANDBOX (cutbox-door.mjs). By AI agents, Wed Nov 11 2026. No macro, syntax, notation, axiom, sorry.
-/
import Derived.Test.YtbeoijlkhpbdjaaDoorRows
import GoSem.ClaimSeven
namespace Go.Proofs.YtbeoijlkhpbdjaaDoor
namespace Rows

/-- THE TIED CARD OF 'docketlaw10.FreshNames'. -/
def freshNamesCard : Claim7 := { stood := { row := freshNamesRow, standIns := [], harness := (true, "1bc8f0705ab44bb7a2a0f148c5f08ef8bf3cf4a3f0089facf2d99ec70e84e4ce"), looks := false }, kinds := [], alts := [], laidByText := true, laidKinds := [.data, .data], laidTests := true, laidLooks := .later }
def FreshNamesCardSaid : Prop := Claim7.holds Tryd.pinned (.plain (OpenSpec.ofChange freshNamesSpec)) freshNamesCard

/-- THE TIED CARD OF 'docketlaw10.FreshRows'. -/
def freshRowsCard : Claim7 := { stood := { row := freshRowsRow, standIns := [], harness := (true, "1bc8f0705ab44bb7a2a0f148c5f08ef8bf3cf4a3f0089facf2d99ec70e84e4ce"), looks := false }, kinds := [], alts := [], laidByText := true, laidKinds := [.data, .data], laidTests := true, laidLooks := .later }
def FreshRowsCardSaid : Prop := Claim7.holds Tryd.pinned (.plain (OpenSpec.ofChange freshRowsSpec)) freshRowsCard

/-- THE TIED CARD OF 'docketlaw10.FreshNewest'. -/
def freshNewestCard : Claim7 := { stood := { row := freshNewestRow, standIns := [], harness := (true, "1bc8f0705ab44bb7a2a0f148c5f08ef8bf3cf4a3f0089facf2d99ec70e84e4ce"), looks := false }, kinds := [], alts := [], laidByText := true, laidKinds := [.data, .data], laidTests := true, laidLooks := .later }
def FreshNewestCardSaid : Prop := Claim7.holds Tryd.pinned (.plain (OpenSpec.ofChange freshNewestSpec)) freshNewestCard

/-- THE TIED CARD OF 'docketlaw10.FreshAnyhow'. -/
def freshAnyhowCard : Claim7 := { stood := { row := freshAnyhowRow, standIns := [], harness := (true, "1bc8f0705ab44bb7a2a0f148c5f08ef8bf3cf4a3f0089facf2d99ec70e84e4ce"), looks := false }, kinds := [], alts := [], laidByText := true, laidKinds := [.data, .data], laidTests := true, laidLooks := .later }
def FreshAnyhowCardSaid : Prop := Claim7.holds Tryd.pinned (.plain (OpenSpec.ofChange freshAnyhowSpec)) freshAnyhowCard

/-- THE TIED CARD OF 'docketlaw10.FreshAlike'. -/
def freshAlikeCard : Claim7 := { stood := { row := freshAlikeRow, standIns := [], harness := (true, "1bc8f0705ab44bb7a2a0f148c5f08ef8bf3cf4a3f0089facf2d99ec70e84e4ce"), looks := false }, kinds := [], alts := [], laidByText := true, laidKinds := [.data, .data], laidTests := true, laidLooks := .later }
def FreshAlikeCardSaid : Prop := Claim7.holds Tryd.pinned (.plain (OpenSpec.ofChange freshAlikeSpec)) freshAlikeCard

/-- THE SECOND FORM's CARD OF 'docketlaw10.FreshNames'. -/
def freshNamesUptoCard : Claim7 := { stood := { row := freshNamesUptoRow, standIns := [], harness := (true, "1bc8f0705ab44bb7a2a0f148c5f08ef8bf3cf4a3f0089facf2d99ec70e84e4ce"), looks := false }, kinds := [], alts := [], laidByText := true, laidKinds := [.data, .data], laidTests := true, laidLooks := .later }
def FreshNamesUptoCardSaid : Prop := Claim7.holds Tryd.pinned (.plain (OpenSpec.upto freshNamesSpec)) freshNamesUptoCard

/-- THE SECOND FORM's CARD OF 'docketlaw10.FreshRows'. -/
def freshRowsUptoCard : Claim7 := { stood := { row := freshRowsUptoRow, standIns := [], harness := (true, "1bc8f0705ab44bb7a2a0f148c5f08ef8bf3cf4a3f0089facf2d99ec70e84e4ce"), looks := false }, kinds := [], alts := [], laidByText := true, laidKinds := [.data, .data], laidTests := true, laidLooks := .later }
def FreshRowsUptoCardSaid : Prop := Claim7.holds Tryd.pinned (.plain (OpenSpec.upto freshRowsSpec)) freshRowsUptoCard

/-- THE SECOND FORM's CARD OF 'docketlaw10.FreshNewest'. -/
def freshNewestUptoCard : Claim7 := { stood := { row := freshNewestUptoRow, standIns := [], harness := (true, "1bc8f0705ab44bb7a2a0f148c5f08ef8bf3cf4a3f0089facf2d99ec70e84e4ce"), looks := false }, kinds := [], alts := [], laidByText := true, laidKinds := [.data, .data], laidTests := true, laidLooks := .later }
def FreshNewestUptoCardSaid : Prop := Claim7.holds Tryd.pinned (.plain (OpenSpec.upto freshNewestSpec)) freshNewestUptoCard

/-- THE SECOND FORM's CARD OF 'docketlaw10.FreshAnyhow'. -/
def freshAnyhowUptoCard : Claim7 := { stood := { row := freshAnyhowUptoRow, standIns := [], harness := (true, "1bc8f0705ab44bb7a2a0f148c5f08ef8bf3cf4a3f0089facf2d99ec70e84e4ce"), looks := false }, kinds := [], alts := [], laidByText := true, laidKinds := [.data, .data], laidTests := true, laidLooks := .later }
def FreshAnyhowUptoCardSaid : Prop := Claim7.holds Tryd.pinned (.plain (OpenSpec.upto freshAnyhowSpec)) freshAnyhowUptoCard

/-- THE SECOND FORM's CARD OF 'docketlaw10.FreshAlike'. -/
def freshAlikeUptoCard : Claim7 := { stood := { row := freshAlikeUptoRow, standIns := [], harness := (true, "1bc8f0705ab44bb7a2a0f148c5f08ef8bf3cf4a3f0089facf2d99ec70e84e4ce"), looks := false }, kinds := [], alts := [], laidByText := true, laidKinds := [.data, .data], laidTests := true, laidLooks := .later }
def FreshAlikeUptoCardSaid : Prop := Claim7.holds Tryd.pinned (.plain (OpenSpec.upto freshAlikeSpec)) freshAlikeUptoCard
end Rows
end Go.Proofs.YtbeoijlkhpbdjaaDoor
