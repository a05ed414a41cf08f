/-
  NARROWER THAN 'FOR EVERY INPUT', by the rows' own cells (each row's printed sentence says how): HashSums: laid · HashPass: laid · AuditNames: laid · AuditTells: laid · AuditGoesOn: laid · AuditGrows: laid · AuditTurned: laid.
  DERIVED. THE GIVEN ROWS OF THIS SEAT. 7 by the template 'for every input the law returns true; each argument reads behind the call as it read before'; 0 by the template 'total and deterministic' (their statements: YtoagaddciapmkaaDoorTotals.lean).
  GIVEN WITH THE SEED: the statements are not yours to turn. If you find one false, say at which input.
  Laid BY PROGRAM, IN A SANDBOX (cutbox-rows.mjs): the forced cells as the released guide's own fill.sh prints them over the translation 45f5705a95a0098f… (all of the seat's roots in one cut). By AI agents, Wed Nov 11 2026. No macro, syntax, notation, axiom, sorry.
-/
import Derived.Test.YtoagaddciapmkaaDoorChecked
import GoSem.Claim
import GoSem.ClaimJoined
import GoSem.ClaimMapViews
import Derived.JoinedTies
import Derived.KernelRfl
namespace Go.Proofs.YtoagaddciapmkaaDoor
/- THE CELL 'sum', in the pinned program and in every row, IS THE sha256 OF THE DUMP (.gsa) THAT YtoagaddciapmkaaDoorProg.lean LOADS. Nothing in Lean hashes anything: it is a label: what it is worth is what the hold of that sum in a sandbox is worth. -/
noncomputable def Tryd.pinned : Pinned := { name := "ytoagaddciapmkaadoor", sum := "45f5705a95a0098fc45272f0c46a439edb6b248faa5ba0e688f22b91dd3982a6", checked := Tryd.checked }
namespace Rows
def none {H : Type} : Left H := { results := [], args := [] }

/- WHAT THE LISTED PACKAGE-LEVEL VARIABLES READ AS WHEN THE CALL BEGINS. Each datum BY PROGRAM (the guide's laid-datum.mjs) off the statement by which the dump's own 'gosem.cut.vars' lays the variable. In a bare row this is a premise. The card (YtoagaddciapmkaaDoorCards.lean) ties it to the program's text. -/
def laid_docket_hash_constants {H : Type} : DataW H := .agg [.lit (.int .u32 1116352408), .lit (.int .u32 1899447441), .lit (.int .u32 3049323471), .lit (.int .u32 3921009573), .lit (.int .u32 961987163), .lit (.int .u32 1508970993), .lit (.int .u32 2453635748), .lit (.int .u32 2870763221), .lit (.int .u32 3624381080), .lit (.int .u32 310598401), .lit (.int .u32 607225278), .lit (.int .u32 1426881987), .lit (.int .u32 1925078388), .lit (.int .u32 2162078206), .lit (.int .u32 2614888103), .lit (.int .u32 3248222580), .lit (.int .u32 3835390401), .lit (.int .u32 4022224774), .lit (.int .u32 264347078), .lit (.int .u32 604807628), .lit (.int .u32 770255983), .lit (.int .u32 1249150122), .lit (.int .u32 1555081692), .lit (.int .u32 1996064986), .lit (.int .u32 2554220882), .lit (.int .u32 2821834349), .lit (.int .u32 2952996808), .lit (.int .u32 3210313671), .lit (.int .u32 3336571891), .lit (.int .u32 3584528711), .lit (.int .u32 113926993), .lit (.int .u32 338241895), .lit (.int .u32 666307205), .lit (.int .u32 773529912), .lit (.int .u32 1294757372), .lit (.int .u32 1396182291), .lit (.int .u32 1695183700), .lit (.int .u32 1986661051), .lit (.int .u32 2177026350), .lit (.int .u32 2456956037), .lit (.int .u32 2730485921), .lit (.int .u32 2820302411), .lit (.int .u32 3259730800), .lit (.int .u32 3345764771), .lit (.int .u32 3516065817), .lit (.int .u32 3600352804), .lit (.int .u32 4094571909), .lit (.int .u32 275423344), .lit (.int .u32 430227734), .lit (.int .u32 506948616), .lit (.int .u32 659060556), .lit (.int .u32 883997877), .lit (.int .u32 958139571), .lit (.int .u32 1322822218), .lit (.int .u32 1537002063), .lit (.int .u32 1747873779), .lit (.int .u32 1955562222), .lit (.int .u32 2024104815), .lit (.int .u32 2227730452), .lit (.int .u32 2361852424), .lit (.int .u32 2428436474), .lit (.int .u32 2756734187), .lit (.int .u32 3204031479), .lit (.int .u32 3329325298)]

/-- 'docketlaw14.HashSums': WHATEVER THE INPUT: true; the input reads as it did. -/
def hashSumsSpec : ChangeSpec := { name := "hashSums", fn := fun _ => fun
  | [d1, d2] => { results := [.lit (.bool true)], args := [d1, d2] }
  | _ => none }
def hashSumsRow : OpenClaim := { program := "ytoagaddciapmkaadoor", sum := "45f5705a95a0098fc45272f0c46a439edb6b248faa5ba0e688f22b91dd3982a6", func := "docket/docketlaw14.HashSums", spec := "hashSums", named := ["docket/hash.constants"], apart := false, laid := [("docket/hash.constants", laid_docket_hash_constants)] }
def HashSumsSaid : Prop := hashSumsRow.holds Tryd.pinned (OpenSpec.ofChange hashSumsSpec)

/-- ITS FALSE NEIGHBOUR: 'it returns false'. Refute it at one input. -/
def hashSumsWrong : ChangeSpec := { name := "hashSums", fn := fun _ => fun
  | [d1, d2] => { results := [.lit (.bool false)], args := [d1, d2] }
  | _ => none }
def HashSumsWrongFalsely : Prop := hashSumsRow.holds Tryd.pinned (OpenSpec.ofChange hashSumsWrong)

/-- 'docketlaw14.HashPass': WHATEVER THE INPUT: true; the input reads as it did. -/
def hashPassSpec : ChangeSpec := { name := "hashPass", fn := fun _ => fun
  | [d1, d2, d3] => { results := [.lit (.bool true)], args := [d1, d2, d3] }
  | _ => none }
def hashPassRow : OpenClaim := { program := "ytoagaddciapmkaadoor", sum := "45f5705a95a0098fc45272f0c46a439edb6b248faa5ba0e688f22b91dd3982a6", func := "docket/docketlaw14.HashPass", spec := "hashPass", inPlace := ["internal/abi.NoEscape", "internal/bytealg.MakeNoZero"], named := ["docket/hash.constants"], apart := false, laid := [("docket/hash.constants", laid_docket_hash_constants)] }
def HashPassSaid : Prop := hashPassRow.holds Tryd.pinned (OpenSpec.ofChange hashPassSpec)

/-- ITS FALSE NEIGHBOUR: 'it returns false'. Refute it at one input. -/
def hashPassWrong : ChangeSpec := { name := "hashPass", fn := fun _ => fun
  | [d1, d2, d3] => { results := [.lit (.bool false)], args := [d1, d2, d3] }
  | _ => none }
def HashPassWrongFalsely : Prop := hashPassRow.holds Tryd.pinned (OpenSpec.ofChange hashPassWrong)

/-- 'docketlaw15.AuditNames': WHATEVER THE INPUT: true; the input reads as it did. -/
def auditNamesSpec : ChangeSpec := { name := "auditNames", fn := fun _ => fun
  | [] => { results := [.lit (.bool true)], args := [] }
  | _ => none }
def auditNamesRow : OpenClaim := { program := "ytoagaddciapmkaadoor", sum := "45f5705a95a0098fc45272f0c46a439edb6b248faa5ba0e688f22b91dd3982a6", func := "docket/docketlaw15.AuditNames", spec := "auditNames", inPlace := ["internal/bytealg.IndexByteString", "internal/abi.NoEscape", "internal/bytealg.MakeNoZero"], named := ["docket/hash.constants"], apart := false, laid := [("docket/hash.constants", laid_docket_hash_constants)] }
def AuditNamesSaid : Prop := auditNamesRow.holds Tryd.pinned (OpenSpec.ofChange auditNamesSpec)

/-- ITS FALSE NEIGHBOUR: 'it returns false'. Refute it at one input. -/
def auditNamesWrong : ChangeSpec := { name := "auditNames", fn := fun _ => fun
  | [] => { results := [.lit (.bool false)], args := [] }
  | _ => none }
def AuditNamesWrongFalsely : Prop := auditNamesRow.holds Tryd.pinned (OpenSpec.ofChange auditNamesWrong)

/-- 'docketlaw15.AuditTells': WHATEVER THE INPUT: true; the input reads as it did. -/
def auditTellsSpec : ChangeSpec := { name := "auditTells", fn := fun _ => fun
  | [d1, d2, d3, d4, d5] => { results := [.lit (.bool true)], args := [d1, d2, d3, d4, d5] }
  | _ => none }
def auditTellsRow : OpenClaim := { program := "ytoagaddciapmkaadoor", sum := "45f5705a95a0098fc45272f0c46a439edb6b248faa5ba0e688f22b91dd3982a6", func := "docket/docketlaw15.AuditTells", spec := "auditTells", inPlace := ["internal/bytealg.IndexByteString", "internal/abi.NoEscape", "internal/bytealg.MakeNoZero"], named := ["docket/hash.constants"], apart := false, laid := [("docket/hash.constants", laid_docket_hash_constants)] }
def AuditTellsSaid : Prop := auditTellsRow.holds Tryd.pinned (OpenSpec.ofChange auditTellsSpec)

/-- ITS FALSE NEIGHBOUR: 'it returns false'. Refute it at one input. -/
def auditTellsWrong : ChangeSpec := { name := "auditTells", fn := fun _ => fun
  | [d1, d2, d3, d4, d5] => { results := [.lit (.bool false)], args := [d1, d2, d3, d4, d5] }
  | _ => none }
def AuditTellsWrongFalsely : Prop := auditTellsRow.holds Tryd.pinned (OpenSpec.ofChange auditTellsWrong)

/-- 'docketlaw15.AuditGoesOn': WHATEVER THE INPUT: true; the input reads as it did. -/
def auditGoesOnSpec : ChangeSpec := { name := "auditGoesOn", fn := fun _ => fun
  | [d1, d2, d3, d4, d5] => { results := [.lit (.bool true)], args := [d1, d2, d3, d4, d5] }
  | _ => none }
def auditGoesOnRow : OpenClaim := { program := "ytoagaddciapmkaadoor", sum := "45f5705a95a0098fc45272f0c46a439edb6b248faa5ba0e688f22b91dd3982a6", func := "docket/docketlaw15.AuditGoesOn", spec := "auditGoesOn", inPlace := ["internal/bytealg.IndexByteString", "internal/abi.NoEscape", "internal/bytealg.MakeNoZero"], named := ["docket/hash.constants"], apart := false, laid := [("docket/hash.constants", laid_docket_hash_constants)] }
def AuditGoesOnSaid : Prop := auditGoesOnRow.holds Tryd.pinned (OpenSpec.ofChange auditGoesOnSpec)

/-- ITS FALSE NEIGHBOUR: 'it returns false'. Refute it at one input. -/
def auditGoesOnWrong : ChangeSpec := { name := "auditGoesOn", fn := fun _ => fun
  | [d1, d2, d3, d4, d5] => { results := [.lit (.bool false)], args := [d1, d2, d3, d4, d5] }
  | _ => none }
def AuditGoesOnWrongFalsely : Prop := auditGoesOnRow.holds Tryd.pinned (OpenSpec.ofChange auditGoesOnWrong)

/-- 'docketlaw15.AuditGrows': WHATEVER THE INPUT: true; the input reads as it did. -/
def auditGrowsSpec : ChangeSpec := { name := "auditGrows", fn := fun _ => fun
  | [d1, d2, d3, d4, d5] => { results := [.lit (.bool true)], args := [d1, d2, d3, d4, d5] }
  | _ => none }
def auditGrowsRow : OpenClaim := { program := "ytoagaddciapmkaadoor", sum := "45f5705a95a0098fc45272f0c46a439edb6b248faa5ba0e688f22b91dd3982a6", func := "docket/docketlaw15.AuditGrows", spec := "auditGrows", inPlace := ["internal/bytealg.IndexByteString", "internal/abi.NoEscape", "internal/bytealg.MakeNoZero"], named := ["docket/hash.constants"], apart := false, laid := [("docket/hash.constants", laid_docket_hash_constants)] }
def AuditGrowsSaid : Prop := auditGrowsRow.holds Tryd.pinned (OpenSpec.ofChange auditGrowsSpec)

/-- ITS FALSE NEIGHBOUR: 'it returns false'. Refute it at one input. -/
def auditGrowsWrong : ChangeSpec := { name := "auditGrows", fn := fun _ => fun
  | [d1, d2, d3, d4, d5] => { results := [.lit (.bool false)], args := [d1, d2, d3, d4, d5] }
  | _ => none }
def AuditGrowsWrongFalsely : Prop := auditGrowsRow.holds Tryd.pinned (OpenSpec.ofChange auditGrowsWrong)

/-- 'docketlaw15.AuditTurned': WHATEVER THE INPUT: true; the input reads as it did. -/
def auditTurnedSpec : ChangeSpec := { name := "auditTurned", fn := fun _ => fun
  | [d1, d2, d3, d4, d5, d6] => { results := [.lit (.bool true)], args := [d1, d2, d3, d4, d5, d6] }
  | _ => none }
def auditTurnedRow : OpenClaim := { program := "ytoagaddciapmkaadoor", sum := "45f5705a95a0098fc45272f0c46a439edb6b248faa5ba0e688f22b91dd3982a6", func := "docket/docketlaw15.AuditTurned", spec := "auditTurned", inPlace := ["internal/bytealg.IndexByteString", "internal/abi.NoEscape", "internal/bytealg.MakeNoZero"], named := ["docket/hash.constants"], apart := false, laid := [("docket/hash.constants", laid_docket_hash_constants)] }
def AuditTurnedSaid : Prop := auditTurnedRow.holds Tryd.pinned (OpenSpec.ofChange auditTurnedSpec)

/-- ITS FALSE NEIGHBOUR: 'it returns false'. Refute it at one input. -/
def auditTurnedWrong : ChangeSpec := { name := "auditTurned", fn := fun _ => fun
  | [d1, d2, d3, d4, d5, d6] => { results := [.lit (.bool false)], args := [d1, d2, d3, d4, d5, d6] }
  | _ => none }
def AuditTurnedWrongFalsely : Prop := auditTurnedRow.holds Tryd.pinned (OpenSpec.ofChange auditTurnedWrong)

/- THE SECOND FORM. 'bulk': how many values and letters a reading holds, each counted each time it is reached (what is shared counts as often as it is met; a slice's spare places count too). A statement '..UptoSaid' is the law's where the arguments, and the package variables that the reading takes, are together of bulk at most 1048576: NARROWER than '..Said'. Prove '..Said' where nothing that the law and all that it calls make is longer than what came in: it says more and counts as full. Else prove '..UptoSaid'. A law counts once. -/
mutual
def uptoBulk {H : Type} : DataW H → Nat
  | .lit (.string bytes) => bytes.length + 1
  | .lit _ => 1
  | .nil => 1
  | .ptr d => uptoBulk d + 1
  | .slice elems spare => uptoBulkAll elems + uptoBulkAll spare + 1
  | .agg parts => uptoBulkAll parts + 1
  | .iface _ d => uptoBulk d + 1
  | .map entries => uptoBulkEntries entries + 1
  | .held _ => 1
def uptoBulkAll {H : Type} : List (DataW H) → Nat
  | [] => 0
  | d :: r => uptoBulk d + uptoBulkAll r
def uptoBulkEntries {H : Type} : List (Lit × DataW H) → Nat
  | [] => 0
  | x :: r => uptoBulkEntry x + uptoBulkEntries r
def uptoBulkEntry {H : Type} : Lit × DataW H → Nat
  | (.string bytes, d) => bytes.length + uptoBulk d + 1
  | (_, d) => uptoBulk d + 1
 end
def uptoSmall : (H : Type) → List (DataW H) → Bool := fun _ ds => decide (uptoBulkAll ds ≤ 1048576)
def OpenSpec.upto (s : _root_.Go.ChangeSpec) : _root_.Go.OpenSpec := { _root_.Go.OpenSpec.ofChange s with cond := some uptoSmall }

/-- 'docketlaw14.HashSums', WHERE WHAT IT READS IS OF BULK AT MOST 1048576: true; the input reads as it did. -/
def hashSumsUptoRow : OpenClaim := { program := "ytoagaddciapmkaadoor", sum := "45f5705a95a0098fc45272f0c46a439edb6b248faa5ba0e688f22b91dd3982a6", func := "docket/docketlaw14.HashSums", spec := "hashSums", named := ["docket/hash.constants"], apart := false, laid := [("docket/hash.constants", laid_docket_hash_constants)], narrowed := true }
def HashSumsUptoSaid : Prop := hashSumsUptoRow.holds Tryd.pinned (OpenSpec.upto hashSumsSpec)

/-- 'docketlaw14.HashPass', WHERE WHAT IT READS IS OF BULK AT MOST 1048576: true; the input reads as it did. -/
def hashPassUptoRow : OpenClaim := { program := "ytoagaddciapmkaadoor", sum := "45f5705a95a0098fc45272f0c46a439edb6b248faa5ba0e688f22b91dd3982a6", func := "docket/docketlaw14.HashPass", spec := "hashPass", inPlace := ["internal/abi.NoEscape", "internal/bytealg.MakeNoZero"], named := ["docket/hash.constants"], apart := false, laid := [("docket/hash.constants", laid_docket_hash_constants)], narrowed := true }
def HashPassUptoSaid : Prop := hashPassUptoRow.holds Tryd.pinned (OpenSpec.upto hashPassSpec)

/-- 'docketlaw15.AuditNames', WHERE WHAT IT READS IS OF BULK AT MOST 1048576: true; the input reads as it did. -/
def auditNamesUptoRow : OpenClaim := { program := "ytoagaddciapmkaadoor", sum := "45f5705a95a0098fc45272f0c46a439edb6b248faa5ba0e688f22b91dd3982a6", func := "docket/docketlaw15.AuditNames", spec := "auditNames", inPlace := ["internal/bytealg.IndexByteString", "internal/abi.NoEscape", "internal/bytealg.MakeNoZero"], named := ["docket/hash.constants"], apart := false, laid := [("docket/hash.constants", laid_docket_hash_constants)], narrowed := true }
def AuditNamesUptoSaid : Prop := auditNamesUptoRow.holds Tryd.pinned (OpenSpec.upto auditNamesSpec)

/-- 'docketlaw15.AuditTells', WHERE WHAT IT READS IS OF BULK AT MOST 1048576: true; the input reads as it did. -/
def auditTellsUptoRow : OpenClaim := { program := "ytoagaddciapmkaadoor", sum := "45f5705a95a0098fc45272f0c46a439edb6b248faa5ba0e688f22b91dd3982a6", func := "docket/docketlaw15.AuditTells", spec := "auditTells", inPlace := ["internal/bytealg.IndexByteString", "internal/abi.NoEscape", "internal/bytealg.MakeNoZero"], named := ["docket/hash.constants"], apart := false, laid := [("docket/hash.constants", laid_docket_hash_constants)], narrowed := true }
def AuditTellsUptoSaid : Prop := auditTellsUptoRow.holds Tryd.pinned (OpenSpec.upto auditTellsSpec)

/-- 'docketlaw15.AuditGoesOn', WHERE WHAT IT READS IS OF BULK AT MOST 1048576: true; the input reads as it did. -/
def auditGoesOnUptoRow : OpenClaim := { program := "ytoagaddciapmkaadoor", sum := "45f5705a95a0098fc45272f0c46a439edb6b248faa5ba0e688f22b91dd3982a6", func := "docket/docketlaw15.AuditGoesOn", spec := "auditGoesOn", inPlace := ["internal/bytealg.IndexByteString", "internal/abi.NoEscape", "internal/bytealg.MakeNoZero"], named := ["docket/hash.constants"], apart := false, laid := [("docket/hash.constants", laid_docket_hash_constants)], narrowed := true }
def AuditGoesOnUptoSaid : Prop := auditGoesOnUptoRow.holds Tryd.pinned (OpenSpec.upto auditGoesOnSpec)

/-- 'docketlaw15.AuditGrows', WHERE WHAT IT READS IS OF BULK AT MOST 1048576: true; the input reads as it did. -/
def auditGrowsUptoRow : OpenClaim := { program := "ytoagaddciapmkaadoor", sum := "45f5705a95a0098fc45272f0c46a439edb6b248faa5ba0e688f22b91dd3982a6", func := "docket/docketlaw15.AuditGrows", spec := "auditGrows", inPlace := ["internal/bytealg.IndexByteString", "internal/abi.NoEscape", "internal/bytealg.MakeNoZero"], named := ["docket/hash.constants"], apart := false, laid := [("docket/hash.constants", laid_docket_hash_constants)], narrowed := true }
def AuditGrowsUptoSaid : Prop := auditGrowsUptoRow.holds Tryd.pinned (OpenSpec.upto auditGrowsSpec)

/-- 'docketlaw15.AuditTurned', WHERE WHAT IT READS IS OF BULK AT MOST 1048576: true; the input reads as it did. -/
def auditTurnedUptoRow : OpenClaim := { program := "ytoagaddciapmkaadoor", sum := "45f5705a95a0098fc45272f0c46a439edb6b248faa5ba0e688f22b91dd3982a6", func := "docket/docketlaw15.AuditTurned", spec := "auditTurned", inPlace := ["internal/bytealg.IndexByteString", "internal/abi.NoEscape", "internal/bytealg.MakeNoZero"], named := ["docket/hash.constants"], apart := false, laid := [("docket/hash.constants", laid_docket_hash_constants)], narrowed := true }
def AuditTurnedUptoSaid : Prop := auditTurnedUptoRow.holds Tryd.pinned (OpenSpec.upto auditTurnedSpec)

end Rows
end Go.Proofs.YtoagaddciapmkaaDoor
