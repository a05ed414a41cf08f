/-
  Bytes in sixteens: the program's.
-/
import Derived.Shelf.Strings.Builder2
import Derived.Shelf.Small.Strs
import Derived.Ground.NamesProg
import Derived.Test.YtoagaddciapmkaaDoorProg
import Derived.Test.YtoagaddciapmkaaDoorJ06
import Derived.Test.YtoagaddciapmkaaDoorJ02
import Derived.WalkLawsBesides
import Derived.WalkSpells
namespace Go.Proofs.YtoagaddciapmkaaDoor
open Go.Shelf
def lays165_ren : Go.Shelf.Ren := ⟨fun | 165 => 49 | 240 => 70 | 241 => 71 | 276 => 80 | 277 => 81 | n => n, fun | 70 => 77 | 3 => 3 | 0 => 0 | 4 => 4 | 9 => 9 | 20 => 20 | 72 => 79 | 37 => 22 | 164 => 113 | 5 => 5 | n => n, fun | n => n⟩
theorem lays165 : Go.Proofs.Lays.n165 Tryd.prog lays165_ren := {
  mixed := by kernel_rfl
  f165 := Tryd.func49.trans (congrArg some (by kernel_rfl))
  f240 := Tryd.func70.trans (congrArg some (by kernel_rfl))
  f241 := Tryd.func71.trans (congrArg some (by kernel_rfl))
  f276 := Tryd.func80.trans (congrArg some (by kernel_rfl))
  f277 := Tryd.func81.trans (congrArg some (by kernel_rfl))
  t0 := Tryd.underlying0
  a0 := Tryd.isAgg0
  z0 := Tryd.sizeOf0
  v0 := Tryd.zeroValue0
  t3 := Tryd.underlying3
  a3 := Tryd.isAgg3
  z3 := Tryd.sizeOf3
  v3 := Tryd.zeroValue3
  t4 := Tryd.underlying4
  a4 := Tryd.isAgg4
  z4 := Tryd.sizeOf4
  v4 := Tryd.zeroValue4
  t9 := Tryd.underlying9
  a9 := Tryd.isAgg9
  z9 := Tryd.sizeOf9
  v9 := Tryd.zeroValue9
  t20 := Tryd.underlying20
  a20 := Tryd.isAgg20
  z20 := Tryd.sizeOf20
  v20 := Tryd.zeroValue20
  t37 := Tryd.underlying22
  a37 := Tryd.isAgg22
  z37 := Tryd.sizeOf22
  v37 := Tryd.zeroValue22
  t70 := Tryd.underlying77
  a70 := Tryd.isAgg77
  z70 := Tryd.sizeOf77
  v70 := Tryd.zeroValue77
  t72 := Tryd.underlying79
  a72 := Tryd.isAgg79
  z72 := Tryd.sizeOf79
  v72 := Tryd.zeroValue79
  t164 := Tryd.underlying113
  a164 := Tryd.isAgg113
  z164 := Tryd.sizeOf113
  v164 := Tryd.zeroValue113 }
def lays169_ren : Go.Shelf.Ren := ⟨fun | 169 => 51 | n => n, fun | 70 => 77 | 9 => 9 | 0 => 0 | 72 => 79 | 37 => 22 | 127 => 104 | 3 => 3 | 5 => 5 | n => n, fun | n => n⟩
theorem lays169 : Go.Proofs.Lays.n169 Tryd.prog lays169_ren := {
  mixed := by kernel_rfl
  f169 := Tryd.func51.trans (congrArg some (by kernel_rfl))
  t0 := Tryd.underlying0
  a0 := Tryd.isAgg0
  z0 := Tryd.sizeOf0
  v0 := Tryd.zeroValue0
  t3 := Tryd.underlying3
  a3 := Tryd.isAgg3
  z3 := Tryd.sizeOf3
  v3 := Tryd.zeroValue3
  t9 := Tryd.underlying9
  a9 := Tryd.isAgg9
  z9 := Tryd.sizeOf9
  v9 := Tryd.zeroValue9
  t37 := Tryd.underlying22
  a37 := Tryd.isAgg22
  z37 := Tryd.sizeOf22
  v37 := Tryd.zeroValue22
  t70 := Tryd.underlying77
  a70 := Tryd.isAgg77
  z70 := Tryd.sizeOf77
  v70 := Tryd.zeroValue77
  t72 := Tryd.underlying79
  a72 := Tryd.isAgg79
  z72 := Tryd.sizeOf79
  v72 := Tryd.zeroValue79
  t127 := Tryd.underlying104
  a127 := Tryd.isAgg104
  z127 := Tryd.sizeOf104
  v127 := Tryd.zeroValue104 }
def lays137_ren : Go.Shelf.Ren := ⟨fun | 137 => 86 | 217 => 87 | 266 => 88 | n => n, fun | 9 => 9 | 5 => 5 | 3 => 3 | n => n, fun | n => n⟩
theorem lays137 : Go.Proofs.Lays.n137 Tryd.prog lays137_ren := {
  mixed := by kernel_rfl
  f137 := Tryd.func86.trans (congrArg some (by kernel_rfl))
  f217 := Tryd.func87.trans (congrArg some (by kernel_rfl))
  f266 := Tryd.func88.trans (congrArg some (by kernel_rfl))
  t3 := Tryd.underlying3
  a3 := Tryd.isAgg3
  z3 := Tryd.sizeOf3
  v3 := Tryd.zeroValue3
  t5 := Tryd.underlying5
  a5 := Tryd.isAgg5
  z5 := Tryd.sizeOf5
  v5 := Tryd.zeroValue5
  t9 := Tryd.underlying9
  a9 := Tryd.isAgg9
  z9 := Tryd.sizeOf9
  v9 := Tryd.zeroValue9 }
def lays167_ren : Go.Shelf.Ren := ⟨fun | 167 => 50 | 240 => 70 | 276 => 80 | n => n, fun | 70 => 77 | 3 => 3 | 0 => 0 | 4 => 4 | 9 => 9 | 20 => 20 | 72 => 79 | 37 => 22 | 164 => 113 | 5 => 5 | 75 => 82 | 80 => 85 | n => n, fun | n => n⟩
theorem lays167 : Go.Proofs.Lays.n167 Tryd.prog lays167_ren := {
  mixed := by kernel_rfl
  f167 := Tryd.func50.trans (congrArg some (by kernel_rfl))
  f240 := Tryd.func70.trans (congrArg some (by kernel_rfl))
  f276 := Tryd.func80.trans (congrArg some (by kernel_rfl))
  t0 := Tryd.underlying0
  a0 := Tryd.isAgg0
  z0 := Tryd.sizeOf0
  v0 := Tryd.zeroValue0
  t4 := Tryd.underlying4
  a4 := Tryd.isAgg4
  z4 := Tryd.sizeOf4
  v4 := Tryd.zeroValue4
  t5 := Tryd.underlying5
  a5 := Tryd.isAgg5
  z5 := Tryd.sizeOf5
  v5 := Tryd.zeroValue5
  t9 := Tryd.underlying9
  a9 := Tryd.isAgg9
  z9 := Tryd.sizeOf9
  v9 := Tryd.zeroValue9
  t20 := Tryd.underlying20
  a20 := Tryd.isAgg20
  z20 := Tryd.sizeOf20
  v20 := Tryd.zeroValue20
  t37 := Tryd.underlying22
  a37 := Tryd.isAgg22
  z37 := Tryd.sizeOf22
  v37 := Tryd.zeroValue22
  t70 := Tryd.underlying77
  a70 := Tryd.isAgg77
  z70 := Tryd.sizeOf77
  v70 := Tryd.zeroValue77
  t72 := Tryd.underlying79
  a72 := Tryd.isAgg79
  z72 := Tryd.sizeOf79
  v72 := Tryd.zeroValue79
  t75 := Tryd.underlying82
  a75 := Tryd.isAgg82
  z75 := Tryd.sizeOf82
  v75 := Tryd.zeroValue82
  t164 := Tryd.underlying113
  a164 := Tryd.isAgg113
  z164 := Tryd.sizeOf113
  v164 := Tryd.zeroValue113
}
theorem extra165 : Go.Proofs.Builder.Extra Tryd.prog lays165_ren where
  sizeBuilder := by kernel_rfl
  liesBuilder := by kernel_rfl
  t5 := Tryd.underlying5
  a5 := Tryd.isAgg5
  z5 := Tryd.sizeOf5
  v5 := Tryd.zeroValue5
  infoByte := by kernel_rfl
  cellsByte := by kernel_rfl
  sizeByte := by kernel_rfl
  neB5 := by decide
theorem extra167 : Go.Proofs.Builder.Extra Tryd.prog lays167_ren where
  sizeBuilder := by kernel_rfl
  liesBuilder := by kernel_rfl
  t5 := Tryd.underlying5
  a5 := Tryd.isAgg5
  z5 := Tryd.sizeOf5
  v5 := Tryd.zeroValue5
  infoByte := by kernel_rfl
  cellsByte := by kernel_rfl
  sizeByte := by kernel_rfl
  neB5 := by decide
theorem extra169 : Go.Proofs.Builder.Extra Tryd.prog lays169_ren where
  sizeBuilder := by kernel_rfl
  liesBuilder := by kernel_rfl
  t5 := Tryd.underlying5
  a5 := Tryd.isAgg5
  z5 := Tryd.sizeOf5
  v5 := Tryd.zeroValue5
  infoByte := by kernel_rfl
  cellsByte := by kernel_rfl
  sizeByte := by kernel_rfl
  neB5 := by decide
end Go.Proofs.YtoagaddciapmkaaDoor
namespace Go.Proofs.YtoagaddciapmkaaDoor
open Go.RowKit Go.WideShapes

theorem str_at (s : ByteArray) (k : Nat) (h : k < s.size) (w : World) : (Instr.index 9 (.string s) (.int .i64 (k : Int))).run Tryd.prog w = .ok (.int .u8 ((numsOf s).getD k 0 : Nat)) w := by
  rw [run_index_string w 9 s .i64 k Tryd.underlying9, dif_pos ⟨by omega, by omega⟩]
  have h2 : k < (numsOf s).length := by rw [numsOf_len]; exact h
  rw [List.getD_eq_getElem?_getD, List.getElem?_eq_getElem h2]
  simp [numsOf, ByteArray.getElem_eq_getElem_data]
theorem conv_at {w : World} {p : Option Addr} {xs : List Nat} {n c : Nat} (h : BIn w p xs) (hn : n = xs.length) : (convert 22 9 (.slice p n c)).run Tryd.prog w = .ok (.string (strOf xs)) w := bin_conv Tryd.underlying22 Tryd.underlying5 Tryd.underlying9 h hn c
/-- The sixteens. -/
def sixS : ByteArray := ⟨#[48, 49, 50, 51, 52, 53, 54, 55, 56, 57, 97, 98, 99, 100, 101, 102]⟩
theorem six_at (n : Nat) (h : n < 16) (w : World) : (Instr.index 9 (.string sixS) (.int .u8 (n : Int))).run Tryd.prog w = .ok (.int .u8 ((hexC n : Nat) : Int)) w := by
  rw [run_index_string w 9 sixS .u8 n Tryd.underlying9, dif_pos ⟨by omega, by show (n : Int) < 16; omega⟩]
  have key : ∀ k : Fin 16, ((sixS[((k.val : Nat) : Int).toNat]'(by show k.val < 16; exact k.isLt)).toNat : Int) = ((hexC k.val : Nat) : Int) := by decide
  exact congrArg (fun z => Result.ok (Value.int IntKind.u8 z) w) (key ⟨n, h⟩)
def worthN (c : Nat) : Int := match halfN c with | some x => (x : Int) | none => -1
theorem worth_some {c x : Nat} (h : halfN c = some x) : worthN c = (x : Int) := by unfold worthN; rw [h]
theorem worth_none {c : Nat} (h : halfN c = none) : worthN c = -1 := by unfold worthN; rw [h]
theorem index_half : ∀ c : Fin 256, Lib.indexByte sixS.data.toList (c.val).toUInt8 = worthN c.val := by decide +kernel
/-- A sixteen's worth: the program's. -/
theorem worth_any (c : Nat) (hc : c < 256) (w : World) : Calls Tryd.prog 76 #[.int .u8 (c : Int)] w fun e w' => e = .returned (.int .i64 (worthN c)) ∧ w' = w := by
  have HC := Any.strings_IndexByte lays137 sixS (c : Int) w
  rw [show ((c : Int).toNat.toUInt8) = c.toUInt8 from by simp, index_half ⟨c, hc⟩] at HC
  go_enter Tryd.func76, Tryd.ntmps76
  go_wp2_with (go_at_call 86; refine HC.mono ?_; rintro e w1 ⟨rfl, rfl⟩)
  go_ret
  exact ⟨rfl, rfl⟩

theorem byteCells_Bs {l : List Nat} (h : ∀ c ∈ l, c < 256) : Lib.byteCells (l.map UInt8.ofNat) = Bs l := by
  unfold Lib.byteCells Bs
  rw [List.map_map]
  apply List.map_congr_left
  intro c hc
  simp [Nat.mod_eq_of_lt (h c hc)]
theorem low_bits (x : Nat) (h : x < 256) : bits BinOp.and IntKind.u8 (x : Int) 15 = ((x % 16 : Nat) : Int) := by
  have := u8_and_nat x 15 h (by decide)
  rw [show ((15 : Nat) : Int) = 15 from rfl] at this
  rw [this, show (15 : Nat) = 2 ^ 4 - 1 from rfl, Nat.and_two_pow_sub_one_eq_mod]
theorem hexN_take (l : List Nat) (k : Nat) (hk : k < l.length) : hexN (l.take (k + 1)) = (hexN (l.take k) ++ [hexC (l.getD k 0 / 16)]) ++ [hexC (l.getD k 0 % 16)] := by
  rw [List.take_add_one, hexN_app, List.getElem?_eq_getElem hk, List.append_assoc]
  simp [hexN, List.getD, List.getElem?_eq_getElem hk]
theorem take_byte {l : List Nat} (h : ∀ c ∈ l, c < 256) (k : Nat) : ∀ c ∈ l.take k, c < 256 := fun c hc => h c (List.mem_of_mem_take hc)
/-- Between the bytes. -/
inductive HexI (w : World) (xs : List Nat) (t : Value) (wr : World) : Prop where
  | intro (k : Nat) (hk : k ≤ xs.length) (ht : t = .int .i64 (k : Int)) (hB : Lib.IsBuilder 79 5 w.heap.size w.heap.size (Bs (hexN (xs.take k))) wr) (hb : Below w.heap.size w wr)
set_option maxHeartbeats 1000000 in
set_option maxRecDepth 100000 in
theorem hex_any (p : Option Addr) (c : Nat) (xs : List Nat) (w : World) (hb : BIn w p xs) (hsz : xs.length ≤ 1000000) :
    Calls Tryd.prog 22 #[.slice p xs.length c] w fun e w' => e = .returned (.string (strOf (hexN xs))) ∧ Below w.heap.size w w' := by
  obtain ⟨m, hm⟩ : ∃ m, 2 * xs.length = m := ⟨_, rfl⟩
  have GR := Any.Builder_Grow_fresh lays165 extra165 w.heap.size w.heap.size m (w.alloc (Obj.cells #[.pointer none, .slice none 0 0] 79)) (Nat.le_refl _) (_root_.Go.heap_alloc_new _ _) (by simp) (by omega)
  have hmI : 2 * (xs.length : Int) = (m : Int) := by omega
  have hm6 : m ≤ 2000000 := by omega
  clear hm
  go_enter Tryd.func22, Tryd.ntmps22
  go_wp2_with (go_at_call 49; refine GR.mono ?_; rintro e w1 ⟨rfl, hB1, hb1⟩)
  have BW : Below w.heap.size w w1 := ((Below.refl _ _).alloc (Nat.le_refl _) _).trans hb1
  clear GR hb1
  clear hmI
  go_loopw [12] (fun t wr => HexI w xs t wr) (fun t _ => xs.length - (intOf t).toNat)
  case atStart => exact ⟨0, by omega, rfl, .inr hB1, BW⟩
  case round =>
    clear hB1 BW
    obtain ⟨k, hk, rfl, hB, BW⟩ := hrel
    have hsw := BW.size
    by_cases hlt : k < xs.length
    · have hb2 := hb.below ⟨BW.os, BW.tape, BW.output, BW.size, BW.block⟩
      obtain ⟨b, o, rfl, hcell⟩ := hb2.1 (by omega)
      have hck := hcell k hlt
      have hx := getD_lt hb.2 k
      have HT : Hid _ := hexN_take xs k hlt
      have hlen : (hexN (xs.take k)).length ≤ 2000000 := by rw [hexN_len, List.length_take]; omega
      have hkI : (k : Int) < (xs.length : Int) := by omega
      generalize xs.getD k 0 = x at hck hx HT
      have hlo := low_bits x hx
      have s1 := six_at (x / 16) (by omega)
      have s2 := six_at (x % 16) (by omega)
      have c1 := hexC_byte (n := x / 16) (by omega)
      have c2 := hexC_byte (n := x % 16) (by omega)
      obtain ⟨xh, hxh⟩ : ∃ xh, x / 16 = xh := ⟨_, rfl⟩
      obtain ⟨xl, hxl⟩ : ∃ xl, x % 16 = xl := ⟨_, rfl⟩
      have hdI : (x : Int) / 16 = (xh : Int) := by omega
      rw [hxh] at s1 HT c1
      rw [hxl] at s2 HT hlo c2
      unfold sixS at s1 s2
      generalize hexC xh = ch at s1 HT c1
      generalize hexC xl = cl at s2 HT c2
      generalize hexN (xs.take k) = ys at hB HT hlen
      have Hb : Hid _ := hb
      have Hc : Hid _ := hcell
      clear hxh hxl hb hb2 hcell
      have BL : (Bs ys).length ≤ 2000000 := by rw [Bs_len]; exact hlen
      have BL2 : (Bs ys ++ [Value.int .u8 (ch : Int)]).length ≤ 2000001 := by rw [List.length_append]; simp only [List.length_singleton]; omega
      have P1 := Any.Builder_WriteByte lays167 extra167 w.heap.size w.heap.size (Bs ys) (ch : Int) wr hB (by omega) hsw
      clear hB
      go_wp2_with fail
      refine P1.mono ?_
      rintro e w2 ⟨rfl, hA2, hb2⟩
      have P2 := Any.Builder_WriteByte lays167 extra167 w.heap.size w.heap.size _ (cl : Int) w2 (.inr hA2) (by omega) (by have := hb2.size; omega)
      clear hA2 P1
      simp only []
      go_wp2_with fail
      refine P2.mono ?_
      rintro e w3 ⟨rfl, hA3, hb3⟩
      clear P2
      simp only []
      go_wp2
      go_roundw
      case rel =>
        refine ⟨k + 1, by omega, rfl, ?_, (BW.trans hb2).trans hb3⟩
        rw [HT.out, Bs_app, Bs_app]
        exact .inr hA3
      case measure => simp [intOf]; omega
    · obtain rfl : k = xs.length := by omega
      rw [List.take_length] at hB
      have hby := hexN_byte hb.2
      have HS := Any.Builder_String_any lays169 extra169 w.heap.size w.heap.size ((hexN xs).map UInt8.ofNat) wr (by rw [byteCells_Bs hby]; exact hB) hsw
      have hst : (⟨((hexN xs).map UInt8.ofNat).toArray⟩ : ByteArray) = strOf (hexN xs) := by
        apply bytes_inj; rw [strOf_list]
      rw [hst] at HS
      have Hb : Hid _ := hb
      clear hB hby hst hb
      go_wp2_with (go_at_call 51; refine HS.mono ?_; rintro e w2 ⟨rfl, hb2⟩)
      go_ret
      exact ⟨rfl, BW.trans hb2⟩
end Go.Proofs.YtoagaddciapmkaaDoor
