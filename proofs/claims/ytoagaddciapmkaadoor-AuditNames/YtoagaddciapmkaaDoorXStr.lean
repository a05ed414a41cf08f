/-
  Strings as numbers; what serves Hex and Unhex.
-/
import Derived.Test.YtoagaddciapmkaaDoorXNum
import Derived.Test.YtoagaddciapmkaaDoorLie
import Derived.Test.YtoagaddciapmkaaDoorProg
import Derived.Test.YtoagaddciapmkaaDoorXShelf
import Derived.WalkLawsBesides
import Derived.WalkSpells
namespace Go.Proofs.YtoagaddciapmkaaDoor
open Go.RowKit Go.WideShapes

theorem str_at (s : ByteArray) (k : Nat) (h : k < s.size) (w : World) : (Instr.index 9 (.string s) (.int .i64 (k : Int))).run Tryd.prog w = .ok (.int .u8 ((numsOf s).getD k 0 : Nat)) w := by
  rw [run_index_string w 9 s .i64 k Tryd.underlying9, dif_pos ⟨by omega, by omega⟩]
  have h2 : k < (numsOf s).length := by rw [numsOf_len]; exact h
  rw [List.getD_eq_getElem?_getD, List.getElem?_eq_getElem h2]
  simp [numsOf, ByteArray.getElem_eq_getElem_data]
theorem conv_at {w : World} {p : Option Addr} {xs : List Nat} {n c : Nat} (h : BIn w p xs) (hn : n = xs.length) : (convert 22 9 (.slice p n c)).run Tryd.prog w = .ok (.string (strOf xs)) w := bin_conv Tryd.underlying22 Tryd.underlying5 Tryd.underlying9 h hn c
/-- The sixteens. -/
def sixS : ByteArray := ⟨#[48, 49, 50, 51, 52, 53, 54, 55, 56, 57, 97, 98, 99, 100, 101, 102]⟩
theorem six_at (n : Nat) (h : n < 16) (w : World) : (Instr.index 9 (.string sixS) (.int .u8 (n : Int))).run Tryd.prog w = .ok (.int .u8 ((hexC n : Nat) : Int)) w := by
  rw [run_index_string w 9 sixS .u8 n Tryd.underlying9, dif_pos ⟨by omega, by show (n : Int) < 16; omega⟩]
  have key : ∀ k : Fin 16, ((sixS[((k.val : Nat) : Int).toNat]'(by show k.val < 16; exact k.isLt)).toNat : Int) = ((hexC k.val : Nat) : Int) := by decide
  exact congrArg (fun z => Result.ok (Value.int IntKind.u8 z) w) (key ⟨n, h⟩)
def worthN (c : Nat) : Int := match halfN c with | some x => (x : Int) | none => -1
theorem worth_some {c x : Nat} (h : halfN c = some x) : worthN c = (x : Int) := by unfold worthN; rw [h]
theorem worth_none {c : Nat} (h : halfN c = none) : worthN c = -1 := by unfold worthN; rw [h]
theorem index_half : ∀ c : Fin 256, Lib.indexByte sixS.data.toList (c.val).toUInt8 = worthN c.val := by decide +kernel
/-- A sixteen's worth: the program's. -/
theorem worth_any (c : Nat) (hc : c < 256) (w : World) : Calls Tryd.prog 76 #[.int .u8 (c : Int)] w fun e w' => e = .returned (.int .i64 (worthN c)) ∧ w' = w := by
  have HC := Any.strings_IndexByte lays137 sixS (c : Int) w
  rw [show ((c : Int).toNat.toUInt8) = c.toUInt8 from by simp, index_half ⟨c, hc⟩] at HC
  go_enter Tryd.func76, Tryd.ntmps76
  go_wp2_with (go_at_call 86; refine HC.mono ?_; rintro e w1 ⟨rfl, rfl⟩)
  go_ret
  exact ⟨rfl, rfl⟩
end Go.Proofs.YtoagaddciapmkaaDoor
