/-
  DERIVED. GIVEN WITH THE SEED: THE CARDS: each row of YtoagaddciapmkaaDoorRows.lean that lists a variable, with what it lists TIED to the program's text (the seventh form; the later family's looks); each row that meets fmt, with fmt's text TOLD by the authors' own Lean function (tested against real Go, not proved from fmt's source: count such statements apart). THE CARD IS WHAT COUNTS. Prove the row's statement (the work); the ties are given (YtoagaddciapmkaaDoorTie.lean); close each card by the builder's one call (the guide's Derived/Test/ToyasCard.lean, 'card_holds'). Laid BY PROGRAM, IN A SANDBOX (cutbox-door.mjs). By AI agents, Wed Nov 11 2026. No macro, syntax, notation, axiom, sorry.
-/
import Derived.Test.YtoagaddciapmkaaDoorRows
import GoSem.ClaimSeven
namespace Go.Proofs.YtoagaddciapmkaaDoor
namespace Rows

/-- THE TIED CARD OF 'docketlaw14.HashSums'. -/
def hashSumsCard : Claim7 := { stood := { row := hashSumsRow, standIns := [], harness := (true, "0920a87e7639d185643d9adb79be779b95893ac78e09329d9cb30a4c3cdfdbb4"), looks := false }, kinds := [], alts := [], laidByText := true, laidKinds := [.data], laidTests := true, laidLooks := .later }
def HashSumsCardSaid : Prop := Claim7.holds Tryd.pinned (.plain (OpenSpec.ofChange hashSumsSpec)) hashSumsCard

/-- THE TIED CARD OF 'docketlaw14.HashPass'. -/
def hashPassCard : Claim7 := { stood := { row := hashPassRow, standIns := [], harness := (true, "0920a87e7639d185643d9adb79be779b95893ac78e09329d9cb30a4c3cdfdbb4"), looks := false }, kinds := [], alts := [], laidByText := true, laidKinds := [.data], laidTests := true, laidLooks := .later }
def HashPassCardSaid : Prop := Claim7.holds Tryd.pinned (.plain (OpenSpec.ofChange hashPassSpec)) hashPassCard

/-- THE TIED CARD OF 'docketlaw15.AuditNames'. -/
def auditNamesCard : Claim7 := { stood := { row := auditNamesRow, standIns := [], harness := (true, "0920a87e7639d185643d9adb79be779b95893ac78e09329d9cb30a4c3cdfdbb4"), looks := false }, kinds := [], alts := [], laidByText := true, laidKinds := [.data], laidTests := true, laidLooks := .later }
def AuditNamesCardSaid : Prop := Claim7.holds Tryd.pinned (.plain (OpenSpec.ofChange auditNamesSpec)) auditNamesCard

/-- THE TIED CARD OF 'docketlaw15.AuditTells'. -/
def auditTellsCard : Claim7 := { stood := { row := auditTellsRow, standIns := [], harness := (true, "0920a87e7639d185643d9adb79be779b95893ac78e09329d9cb30a4c3cdfdbb4"), looks := false }, kinds := [], alts := [], laidByText := true, laidKinds := [.data], laidTests := true, laidLooks := .later }
def AuditTellsCardSaid : Prop := Claim7.holds Tryd.pinned (.plain (OpenSpec.ofChange auditTellsSpec)) auditTellsCard

/-- THE TIED CARD OF 'docketlaw15.AuditGoesOn'. -/
def auditGoesOnCard : Claim7 := { stood := { row := auditGoesOnRow, standIns := [], harness := (true, "0920a87e7639d185643d9adb79be779b95893ac78e09329d9cb30a4c3cdfdbb4"), looks := false }, kinds := [], alts := [], laidByText := true, laidKinds := [.data], laidTests := true, laidLooks := .later }
def AuditGoesOnCardSaid : Prop := Claim7.holds Tryd.pinned (.plain (OpenSpec.ofChange auditGoesOnSpec)) auditGoesOnCard

/-- THE TIED CARD OF 'docketlaw15.AuditGrows'. -/
def auditGrowsCard : Claim7 := { stood := { row := auditGrowsRow, standIns := [], harness := (true, "0920a87e7639d185643d9adb79be779b95893ac78e09329d9cb30a4c3cdfdbb4"), looks := false }, kinds := [], alts := [], laidByText := true, laidKinds := [.data], laidTests := true, laidLooks := .later }
def AuditGrowsCardSaid : Prop := Claim7.holds Tryd.pinned (.plain (OpenSpec.ofChange auditGrowsSpec)) auditGrowsCard

/-- THE TIED CARD OF 'docketlaw15.AuditTurned'. -/
def auditTurnedCard : Claim7 := { stood := { row := auditTurnedRow, standIns := [], harness := (true, "0920a87e7639d185643d9adb79be779b95893ac78e09329d9cb30a4c3cdfdbb4"), looks := false }, kinds := [], alts := [], laidByText := true, laidKinds := [.data], laidTests := true, laidLooks := .later }
def AuditTurnedCardSaid : Prop := Claim7.holds Tryd.pinned (.plain (OpenSpec.ofChange auditTurnedSpec)) auditTurnedCard

/-- THE SECOND FORM's CARD OF 'docketlaw14.HashSums'. -/
def hashSumsUptoCard : Claim7 := { stood := { row := hashSumsUptoRow, standIns := [], harness := (true, "0920a87e7639d185643d9adb79be779b95893ac78e09329d9cb30a4c3cdfdbb4"), looks := false }, kinds := [], alts := [], laidByText := true, laidKinds := [.data], laidTests := true, laidLooks := .later }
def HashSumsUptoCardSaid : Prop := Claim7.holds Tryd.pinned (.plain (OpenSpec.upto hashSumsSpec)) hashSumsUptoCard

/-- THE SECOND FORM's CARD OF 'docketlaw14.HashPass'. -/
def hashPassUptoCard : Claim7 := { stood := { row := hashPassUptoRow, standIns := [], harness := (true, "0920a87e7639d185643d9adb79be779b95893ac78e09329d9cb30a4c3cdfdbb4"), looks := false }, kinds := [], alts := [], laidByText := true, laidKinds := [.data], laidTests := true, laidLooks := .later }
def HashPassUptoCardSaid : Prop := Claim7.holds Tryd.pinned (.plain (OpenSpec.upto hashPassSpec)) hashPassUptoCard

/-- THE SECOND FORM's CARD OF 'docketlaw15.AuditNames'. -/
def auditNamesUptoCard : Claim7 := { stood := { row := auditNamesUptoRow, standIns := [], harness := (true, "0920a87e7639d185643d9adb79be779b95893ac78e09329d9cb30a4c3cdfdbb4"), looks := false }, kinds := [], alts := [], laidByText := true, laidKinds := [.data], laidTests := true, laidLooks := .later }
def AuditNamesUptoCardSaid : Prop := Claim7.holds Tryd.pinned (.plain (OpenSpec.upto auditNamesSpec)) auditNamesUptoCard

/-- THE SECOND FORM's CARD OF 'docketlaw15.AuditTells'. -/
def auditTellsUptoCard : Claim7 := { stood := { row := auditTellsUptoRow, standIns := [], harness := (true, "0920a87e7639d185643d9adb79be779b95893ac78e09329d9cb30a4c3cdfdbb4"), looks := false }, kinds := [], alts := [], laidByText := true, laidKinds := [.data], laidTests := true, laidLooks := .later }
def AuditTellsUptoCardSaid : Prop := Claim7.holds Tryd.pinned (.plain (OpenSpec.upto auditTellsSpec)) auditTellsUptoCard

/-- THE SECOND FORM's CARD OF 'docketlaw15.AuditGoesOn'. -/
def auditGoesOnUptoCard : Claim7 := { stood := { row := auditGoesOnUptoRow, standIns := [], harness := (true, "0920a87e7639d185643d9adb79be779b95893ac78e09329d9cb30a4c3cdfdbb4"), looks := false }, kinds := [], alts := [], laidByText := true, laidKinds := [.data], laidTests := true, laidLooks := .later }
def AuditGoesOnUptoCardSaid : Prop := Claim7.holds Tryd.pinned (.plain (OpenSpec.upto auditGoesOnSpec)) auditGoesOnUptoCard

/-- THE SECOND FORM's CARD OF 'docketlaw15.AuditGrows'. -/
def auditGrowsUptoCard : Claim7 := { stood := { row := auditGrowsUptoRow, standIns := [], harness := (true, "0920a87e7639d185643d9adb79be779b95893ac78e09329d9cb30a4c3cdfdbb4"), looks := false }, kinds := [], alts := [], laidByText := true, laidKinds := [.data], laidTests := true, laidLooks := .later }
def AuditGrowsUptoCardSaid : Prop := Claim7.holds Tryd.pinned (.plain (OpenSpec.upto auditGrowsSpec)) auditGrowsUptoCard

/-- THE SECOND FORM's CARD OF 'docketlaw15.AuditTurned'. -/
def auditTurnedUptoCard : Claim7 := { stood := { row := auditTurnedUptoRow, standIns := [], harness := (true, "0920a87e7639d185643d9adb79be779b95893ac78e09329d9cb30a4c3cdfdbb4"), looks := false }, kinds := [], alts := [], laidByText := true, laidKinds := [.data], laidTests := true, laidLooks := .later }
def AuditTurnedUptoCardSaid : Prop := Claim7.holds Tryd.pinned (.plain (OpenSpec.upto auditTurnedSpec)) auditTurnedUptoCard
end Rows
end Go.Proofs.YtoagaddciapmkaaDoor
