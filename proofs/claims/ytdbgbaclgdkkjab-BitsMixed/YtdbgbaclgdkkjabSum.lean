/-
  Contracts of the calls sumStep, Sum and same of the package bits and of the laws: what each answers, and that it leaves memory as it was.
-/
import Derived.Test.YtdbgbaclgdkkjabProg
import Derived.Test.YtdbgbaclgdkkjabMath
import Derived.WalkKit
import Derived.WalkSpells
import Derived.WalkLawsBesides
namespace Go.Proofs.Ytdbgbaclgdkkjab
open Go.RowKit

/-- A []byte of the numbers xs: where it has a byte, at an address with its cells. -/
def BIn (w : World) (p : Option Addr) (xs : List Nat) : Prop :=
  (0 < xs.length → ∃ b o, p = some ⟨b, o, none⟩ ∧ ∀ i, i < xs.length → w.cell? ⟨b, o + i, none⟩ = some (.int .u8 (xs.getD i 0 : Nat))) ∧ ∀ c ∈ xs, c < 256

set_option maxHeartbeats 400000 in
theorem sumStep_any (r : Nat) (w : World) (h1 : r < 4294967296) :
    Calls Try.prog 9 #[.int .u32 r] w fun e w' => e = .returned (.int .u32 (crcBits 8 r : Nat)) ∧ w' = w := by
  go_enter Try.func9, Try.ntmps9
  go_wp2
  go_loop [0, 4] (fun t i => ∃ k : Nat, k ≤ 8 ∧ i = .int .i64 k ∧ t = .int .u32 (crcBits k r : Nat)) (fun _ i => 8 - (intOf i).toNat)
  case atStart => exact ⟨0, by omega, rfl, rfl⟩
  case round =>
    obtain ⟨k, hk, rfl, rfl⟩ := hrel
    have hr := crcBits_lt k r h1
    have H : Hid (crcBits (k + 1) r = crcBit (crcBits k r)) := rfl
    by_cases hlt : k < 8
    · generalize crcBits k r = q at *
      have ho := bit_odd q hr
      have hx := bit_xor (q / 2) (by omega)
      rw [show ((q / 2 : Nat) : Int) = (q : Int) / 2 from by omega] at hx
      by_cases hodd : q % 2 = 1
      · have ho' : (bits BinOp.and IntKind.u32 (q : Int) 1 == 1) = true := by rw [ho]; simp [hodd]
        clear ho
        go_wp2
        go_round
        case rel => exact ⟨k + 1, by omega, by go_num, by rw [H.out]; simp [crcBit, hodd]⟩
        case measure => simp [intOf]; omega
      · have ho' : (bits BinOp.and IntKind.u32 (q : Int) 1 == 1) = false := by rw [ho]; simp [hodd]
        clear ho
        go_wp2
        go_round
        case rel => exact ⟨k + 1, by omega, by go_num, by rw [H.out]; simp [crcBit, hodd]⟩
        case measure => simp [intOf]; omega
    · have e : k = 8 := by omega
      subst e
      clear H
      go_wp2
      go_ret
      exact ⟨rfl, rfl⟩

theorem BIn.cell {w : World} {b o : Nat} {xs : List Nat} (h : BIn w (some ⟨b, o, none⟩) xs) (i : Nat) (hi : i < xs.length) : w.cell? ⟨b, o + i, none⟩ = some (.int .u8 (xs.getD i 0 : Nat)) := by
  obtain ⟨b', o', e, hc⟩ := h.1 (by omega)
  simp at e
  obtain ⟨rfl, rfl⟩ := e
  exact hc i hi
set_option maxHeartbeats 400000 in
theorem sum_any (p : Option Addr) (cap : Nat) (xs : List Nat) (w : World) (hb : BIn w p xs) (hm : xs.length ≤ maxLen) :
    Calls Try.prog 6 #[.slice p xs.length cap] w fun e w' => e = .returned (.int .u32 (sumN xs : Nat)) ∧ w' = w := by
  unfold maxLen at hm
  have hlt := hb.2
  go_enter Try.func6, Try.ntmps6
  go_wp2
  go_loop [3, 8] (fun t i => ∃ k : Nat, k ≤ xs.length ∧ i = .int .i64 k ∧ t = .int .u32 (crc 4294967295 (xs.take k) : Nat)) (fun _ i => xs.length - (intOf i).toNat)
  case atStart => exact ⟨0, by omega, rfl, rfl⟩
  case round =>
    obtain ⟨k, hk, rfl, rfl⟩ := hrel
    have hr := crc_lt (xs.take k) 4294967295 (by decide) (fun c hc => hlt c (List.mem_of_mem_take hc))
    by_cases hkl : k < xs.length
    · obtain ⟨b, o, rfl, hc⟩ := hb.1 (by omega)
      have hck := hc k hkl
      have H : Hid _ := crc_take 4294967295 xs k hkl
      have hb8 := getD_lt hlt k
      have hx := byte_xor (crc 4294967295 (xs.take k)) (xs.getD k 0) hr hb8
      generalize crc 4294967295 (xs.take k) = q at *
      generalize xs.getD k 0 = c at *
      clear hc hlt
      go_wp2_with (go_at_call 9; refine (sumStep_any (q ^^^ c) _ (Nat.xor_lt_two_pow (n := 32) (by omega) (by omega))).mono ?_; rintro e w' ⟨rfl, rfl⟩)
      go_round
      case rel => exact ⟨k + 1, by omega, by go_num, by rw [H.out]⟩
      case measure => simp [intOf]; omega
    · have e : k = xs.length := by omega
      subst e
      rw [List.take_length] at hr ⊢
      have hn := sum_not xs hr
      go_wp2
      go_ret
      exact ⟨rfl, rfl⟩

theorem BIn.conv {w : World} {p : Option Addr} {xs : List Nat} (h : BIn w p xs) (c : Nat) :
    (convert 22 9 (.slice p xs.length c)).run Try.prog w = .ok (.string (strOf xs)) w := by
  rcases Nat.eq_zero_or_pos xs.length with hn | hn
  · obtain rfl : xs = [] := List.eq_nil_of_length_eq_zero hn
    show (convert 22 9 (.slice p 0 c)).run Try.prog w = _
    rw [run_convert_bytes_string w 22 9 5 _ 0 c Try.underlying22 Try.underlying5 Try.underlying9]
    cases p <;> simp [Conv.bytesToString, loadCells]
    all_goals rfl
  · obtain ⟨b, o, rfl, hc⟩ := h.1 hn
    exact run_convert_bytes_arg w 22 5 Try.underlying22 Try.underlying5 b o xs.length c (xs.map fun n : Nat => (n : Int)) (by simp) (fun i hi => by rw [hc i hi]; simp [List.getD, List.getElem?_map]; cases xs[i]? <;> rfl) 9 Try.underlying9

set_option maxHeartbeats 400000 in
theorem same_any (p q : Option Addr) (c d : Nat) (xs ys : List Nat) (w : World) (hx : BIn w p xs) (hy : BIn w q ys) :
    Calls Try.prog 7 #[.slice p xs.length c, .slice q ys.length d] w fun e w' => e = .returned (.bool (decide (xs = ys))) ∧ w' = w := by
  have h1 := hx.conv c
  have h2 := hy.conv d
  go_enter Try.func7, Try.ntmps7
  go_wp2
  go_ret
  refine ⟨?_, rfl⟩
  have e : ((strOf xs).toList == (strOf ys).toList) = decide (xs = ys) := by
    rw [ByteArray.toList_eq, ByteArray.toList_eq, Bool.eq_iff_iff]
    simp only [beq_iff_eq, decide_eq_true_eq]
    exact strOf_eq hx.2 hy.2
  show Ending.returned (.bool ((strOf xs).toList == (strOf ys).toList)) = _
  rw [e]
end Go.Proofs.Ytdbgbaclgdkkjab
