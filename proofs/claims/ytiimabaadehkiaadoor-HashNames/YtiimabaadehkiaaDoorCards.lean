/-
  DERIVED. GIVEN WITH THE SEED: THE CARDS: each row of YtiimabaadehkiaaDoorRows.lean that lists a variable, with what it lists TIED to the program's text (the seventh form; the later family's looks); each row that meets fmt, with fmt's text TOLD by the authors' own Lean function (tested against real Go, not proved from fmt's source: count such statements apart). THE CARD IS WHAT COUNTS. Prove the row's statement (the work); the ties are given (YtiimabaadehkiaaDoorTie.lean); close each card by the builder's one call (the guide's Derived/Test/ToyasCard.lean, 'card_holds'). Laid BY PROGRAM, IN A SANDBOX (cutbox-door.mjs). By AI agents, Wed Nov 11 2026. No macro, syntax, notation, axiom, sorry.
-/
import Derived.Test.YtiimabaadehkiaaDoorRows
import GoSem.ClaimSeven
namespace Go.Proofs.YtiimabaadehkiaaDoor
namespace Rows

/-- THE TIED CARD OF 'docketlaw14.HashNames'. -/
def hashNamesCard : Claim7 := { stood := { row := hashNamesRow, standIns := [], harness := (true, "1190b3848912f222900cfb4c1cc368422c5a21cf7ce8d1d78bc4d2fb9c2e1f5c"), looks := false }, kinds := [], alts := [], laidByText := true, laidKinds := [.data], laidTests := true, laidLooks := .later }
def HashNamesCardSaid : Prop := Claim7.holds Tryd.pinned (.plain (OpenSpec.ofChange hashNamesSpec)) hashNamesCard

/-- THE TIED CARD OF 'docketlaw14.HashSums'. -/
def hashSumsCard : Claim7 := { stood := { row := hashSumsRow, standIns := [], harness := (true, "1190b3848912f222900cfb4c1cc368422c5a21cf7ce8d1d78bc4d2fb9c2e1f5c"), looks := false }, kinds := [], alts := [], laidByText := true, laidKinds := [.data], laidTests := true, laidLooks := .later }
def HashSumsCardSaid : Prop := Claim7.holds Tryd.pinned (.plain (OpenSpec.ofChange hashSumsSpec)) hashSumsCard

/-- THE TIED CARD OF 'docketlaw14.HashPass'. -/
def hashPassCard : Claim7 := { stood := { row := hashPassRow, standIns := [], harness := (true, "1190b3848912f222900cfb4c1cc368422c5a21cf7ce8d1d78bc4d2fb9c2e1f5c"), looks := false }, kinds := [], alts := [], laidByText := true, laidKinds := [.data], laidTests := true, laidLooks := .later }
def HashPassCardSaid : Prop := Claim7.holds Tryd.pinned (.plain (OpenSpec.ofChange hashPassSpec)) hashPassCard

/-- THE TIED CARD OF 'docketlaw14.HashBack'. -/
def hashBackCard : Claim7 := { stood := { row := hashBackRow, standIns := [], harness := (true, "1190b3848912f222900cfb4c1cc368422c5a21cf7ce8d1d78bc4d2fb9c2e1f5c"), looks := false }, kinds := [], alts := [], laidByText := true, laidKinds := [.data], laidTests := true, laidLooks := .later }
def HashBackCardSaid : Prop := Claim7.holds Tryd.pinned (.plain (OpenSpec.ofChange hashBackSpec)) hashBackCard

/-- THE TIED CARD OF 'docketlaw14.HashChains'. -/
def hashChainsCard : Claim7 := { stood := { row := hashChainsRow, standIns := [], harness := (true, "1190b3848912f222900cfb4c1cc368422c5a21cf7ce8d1d78bc4d2fb9c2e1f5c"), looks := false }, kinds := [], alts := [], laidByText := true, laidKinds := [.data], laidTests := true, laidLooks := .later }
def HashChainsCardSaid : Prop := Claim7.holds Tryd.pinned (.plain (OpenSpec.ofChange hashChainsSpec)) hashChainsCard

/-- THE SECOND FORM's CARD OF 'docketlaw14.HashNames'. -/
def hashNamesUptoCard : Claim7 := { stood := { row := hashNamesUptoRow, standIns := [], harness := (true, "1190b3848912f222900cfb4c1cc368422c5a21cf7ce8d1d78bc4d2fb9c2e1f5c"), looks := false }, kinds := [], alts := [], laidByText := true, laidKinds := [.data], laidTests := true, laidLooks := .later }
def HashNamesUptoCardSaid : Prop := Claim7.holds Tryd.pinned (.plain (OpenSpec.upto hashNamesSpec)) hashNamesUptoCard

/-- THE SECOND FORM's CARD OF 'docketlaw14.HashSums'. -/
def hashSumsUptoCard : Claim7 := { stood := { row := hashSumsUptoRow, standIns := [], harness := (true, "1190b3848912f222900cfb4c1cc368422c5a21cf7ce8d1d78bc4d2fb9c2e1f5c"), looks := false }, kinds := [], alts := [], laidByText := true, laidKinds := [.data], laidTests := true, laidLooks := .later }
def HashSumsUptoCardSaid : Prop := Claim7.holds Tryd.pinned (.plain (OpenSpec.upto hashSumsSpec)) hashSumsUptoCard

/-- THE SECOND FORM's CARD OF 'docketlaw14.HashPass'. -/
def hashPassUptoCard : Claim7 := { stood := { row := hashPassUptoRow, standIns := [], harness := (true, "1190b3848912f222900cfb4c1cc368422c5a21cf7ce8d1d78bc4d2fb9c2e1f5c"), looks := false }, kinds := [], alts := [], laidByText := true, laidKinds := [.data], laidTests := true, laidLooks := .later }
def HashPassUptoCardSaid : Prop := Claim7.holds Tryd.pinned (.plain (OpenSpec.upto hashPassSpec)) hashPassUptoCard

/-- THE SECOND FORM's CARD OF 'docketlaw14.HashBack'. -/
def hashBackUptoCard : Claim7 := { stood := { row := hashBackUptoRow, standIns := [], harness := (true, "1190b3848912f222900cfb4c1cc368422c5a21cf7ce8d1d78bc4d2fb9c2e1f5c"), looks := false }, kinds := [], alts := [], laidByText := true, laidKinds := [.data], laidTests := true, laidLooks := .later }
def HashBackUptoCardSaid : Prop := Claim7.holds Tryd.pinned (.plain (OpenSpec.upto hashBackSpec)) hashBackUptoCard

/-- THE SECOND FORM's CARD OF 'docketlaw14.HashChains'. -/
def hashChainsUptoCard : Claim7 := { stood := { row := hashChainsUptoRow, standIns := [], harness := (true, "1190b3848912f222900cfb4c1cc368422c5a21cf7ce8d1d78bc4d2fb9c2e1f5c"), looks := false }, kinds := [], alts := [], laidByText := true, laidKinds := [.data], laidTests := true, laidLooks := .later }
def HashChainsUptoCardSaid : Prop := Claim7.holds Tryd.pinned (.plain (OpenSpec.upto hashChainsSpec)) hashChainsUptoCard
end Rows
end Go.Proofs.YtiimabaadehkiaaDoor
