/-
  Bytes in sixteens: the program's.
-/
import Derived.Test.YtoagaddciapmkaaDoorXStr
namespace Go.Proofs.YtoagaddciapmkaaDoor
open Go.RowKit Go.WideShapes

theorem byteCells_Bs {l : List Nat} (h : ∀ c ∈ l, c < 256) : Lib.byteCells (l.map UInt8.ofNat) = Bs l := by
  unfold Lib.byteCells Bs
  rw [List.map_map]
  apply List.map_congr_left
  intro c hc
  simp [Nat.mod_eq_of_lt (h c hc)]
theorem low_bits (x : Nat) (h : x < 256) : bits BinOp.and IntKind.u8 (x : Int) 15 = ((x % 16 : Nat) : Int) := by
  have := u8_and_nat x 15 h (by decide)
  rw [show ((15 : Nat) : Int) = 15 from rfl] at this
  rw [this, show (15 : Nat) = 2 ^ 4 - 1 from rfl, Nat.and_two_pow_sub_one_eq_mod]
theorem hexN_take (l : List Nat) (k : Nat) (hk : k < l.length) : hexN (l.take (k + 1)) = (hexN (l.take k) ++ [hexC (l.getD k 0 / 16)]) ++ [hexC (l.getD k 0 % 16)] := by
  rw [List.take_add_one, hexN_app, List.getElem?_eq_getElem hk, List.append_assoc]
  simp [hexN, List.getD, List.getElem?_eq_getElem hk]
theorem take_byte {l : List Nat} (h : ∀ c ∈ l, c < 256) (k : Nat) : ∀ c ∈ l.take k, c < 256 := fun c hc => h c (List.mem_of_mem_take hc)
/-- Between the bytes. -/
inductive HexI (w : World) (xs : List Nat) (t : Value) (wr : World) : Prop where
  | intro (k : Nat) (hk : k ≤ xs.length) (ht : t = .int .i64 (k : Int)) (hB : Lib.IsBuilder 79 5 w.heap.size w.heap.size (Bs (hexN (xs.take k))) wr) (hb : Below w.heap.size w wr)
set_option maxHeartbeats 1000000 in
set_option maxRecDepth 100000 in
theorem hex_any (p : Option Addr) (c : Nat) (xs : List Nat) (w : World) (hb : BIn w p xs) (hsz : xs.length ≤ 1000000) :
    Calls Tryd.prog 22 #[.slice p xs.length c] w fun e w' => e = .returned (.string (strOf (hexN xs))) ∧ Below w.heap.size w w' := by
  obtain ⟨m, hm⟩ : ∃ m, 2 * xs.length = m := ⟨_, rfl⟩
  have GR := Any.Builder_Grow_fresh lays165 extra165 w.heap.size w.heap.size m (w.alloc (Obj.cells #[.pointer none, .slice none 0 0] 79)) (Nat.le_refl _) (_root_.Go.heap_alloc_new _ _) (by simp) (by omega)
  have hmI : 2 * (xs.length : Int) = (m : Int) := by omega
  have hm6 : m ≤ 2000000 := by omega
  clear hm
  go_enter Tryd.func22, Tryd.ntmps22
  go_wp2_with (go_at_call 49; refine GR.mono ?_; rintro e w1 ⟨rfl, hB1, hb1⟩)
  have BW : Below w.heap.size w w1 := ((Below.refl _ _).alloc (Nat.le_refl _) _).trans hb1
  clear GR hb1
  clear hmI
  go_loopw [12] (fun t wr => HexI w xs t wr) (fun t _ => xs.length - (intOf t).toNat)
  case atStart => exact ⟨0, by omega, rfl, .inr hB1, BW⟩
  case round =>
    clear hB1 BW
    obtain ⟨k, hk, rfl, hB, BW⟩ := hrel
    have hsw := BW.size
    by_cases hlt : k < xs.length
    · have hb2 := hb.below ⟨BW.os, BW.tape, BW.output, BW.size, BW.block⟩
      obtain ⟨b, o, rfl, hcell⟩ := hb2.1 (by omega)
      have hck := hcell k hlt
      have hx := getD_lt hb.2 k
      have HT : Hid _ := hexN_take xs k hlt
      have hlen : (hexN (xs.take k)).length ≤ 2000000 := by rw [hexN_len, List.length_take]; omega
      have hkI : (k : Int) < (xs.length : Int) := by omega
      generalize xs.getD k 0 = x at hck hx HT
      have hlo := low_bits x hx
      have s1 := six_at (x / 16) (by omega)
      have s2 := six_at (x % 16) (by omega)
      have c1 := hexC_byte (n := x / 16) (by omega)
      have c2 := hexC_byte (n := x % 16) (by omega)
      obtain ⟨xh, hxh⟩ : ∃ xh, x / 16 = xh := ⟨_, rfl⟩
      obtain ⟨xl, hxl⟩ : ∃ xl, x % 16 = xl := ⟨_, rfl⟩
      have hdI : (x : Int) / 16 = (xh : Int) := by omega
      rw [hxh] at s1 HT c1
      rw [hxl] at s2 HT hlo c2
      unfold sixS at s1 s2
      generalize hexC xh = ch at s1 HT c1
      generalize hexC xl = cl at s2 HT c2
      generalize hexN (xs.take k) = ys at hB HT hlen
      have Hb : Hid _ := hb
      have Hc : Hid _ := hcell
      clear hxh hxl hb hb2 hcell
      have BL : (Bs ys).length ≤ 2000000 := by rw [Bs_len]; exact hlen
      have BL2 : (Bs ys ++ [Value.int .u8 (ch : Int)]).length ≤ 2000001 := by rw [List.length_append]; simp only [List.length_singleton]; omega
      have P1 := Any.Builder_WriteByte lays167 extra167 w.heap.size w.heap.size (Bs ys) (ch : Int) wr hB (by omega) hsw
      clear hB
      go_wp2_with fail
      refine P1.mono ?_
      rintro e w2 ⟨rfl, hA2, hb2⟩
      have P2 := Any.Builder_WriteByte lays167 extra167 w.heap.size w.heap.size _ (cl : Int) w2 (.inr hA2) (by omega) (by have := hb2.size; omega)
      clear hA2 P1
      simp only []
      go_wp2_with fail
      refine P2.mono ?_
      rintro e w3 ⟨rfl, hA3, hb3⟩
      clear P2
      simp only []
      go_wp2
      go_roundw
      case rel =>
        refine ⟨k + 1, by omega, rfl, ?_, (BW.trans hb2).trans hb3⟩
        rw [HT.out, Bs_app, Bs_app]
        exact .inr hA3
      case measure => simp [intOf]; omega
    · obtain rfl : k = xs.length := by omega
      rw [List.take_length] at hB
      have hby := hexN_byte hb.2
      have HS := Any.Builder_String_any lays169 extra169 w.heap.size w.heap.size ((hexN xs).map UInt8.ofNat) wr (by rw [byteCells_Bs hby]; exact hB) hsw
      have hst : (⟨((hexN xs).map UInt8.ofNat).toArray⟩ : ByteArray) = strOf (hexN xs) := by
        apply bytes_inj; rw [strOf_list]
      rw [hst] at HS
      have Hb : Hid _ := hb
      clear hB hby hst hb
      go_wp2_with (go_at_call 51; refine HS.mono ?_; rintro e w2 ⟨rfl, hb2⟩)
      go_ret
      exact ⟨rfl, BW.trans hb2⟩
end Go.Proofs.YtoagaddciapmkaaDoor
