/-
  Contract of the call Read: the number of the small bytes at the head, and how many they are; or the error.
-/
import Derived.Test.YtdbgbaclgdkkjaaGet
namespace Go.Proofs.Ytdbgbaclgdkkjaa
open Go.RowKit

theorem pow7 (k : Nat) (hk : k ≤ 9) : 2 ^ (7 * k) ≤ 9223372036854775808 := by
  have : (2 : Nat) ^ (7 * k) ≤ 2 ^ 63 := Nat.pow_le_pow_right (by decide) (by omega)
  exact this
theorem read_fits (k acc c : Nat) (hk : k ≤ 9) (hacc : acc < 2 ^ (7 * k)) (hc : k = 9 → c ≤ 1) : c % 128 * 2 ^ (7 * k) + acc < 18446744073709551616 := by
  by_cases h : k = 9
  · have := hc h; subst h; simp only [Nat.reduceMul, Nat.reducePow] at *; omega
  · have h1 : (2 : Nat) ^ (7 * k) ≤ 2 ^ 56 := Nat.pow_le_pow_right (by decide) (by omega)
    have h2 : c % 128 * 2 ^ (7 * k) ≤ 127 * 2 ^ 56 := Nat.mul_le_mul (by omega) h1
    have h3 : (127 : Nat) * 2 ^ 56 = 9151314442816847872 := by decide
    have h4 : (2 : Nat) ^ 56 = 72057594037927936 := by decide
    omega
theorem or_read (k acc c : Nat) (hk : k ≤ 9) (hacc : acc < 2 ^ (7 * k)) (hc : k = 9 → c ≤ 1) :
    bits BinOp.or IntKind.u64 (acc : Int) (IntKind.u64.wrap ((c : Int) % 128 * 2 ^ (7 * k))) = ((c % 128 * 2 ^ (7 * k) + acc : Nat) : Int) := by
  have hf := read_fits k acc c hk hacc hc
  refine or_join (7 * k) acc (c % 128) _ hacc hf _ ?_ rfl
  rw [IntKind.wrap_u64]
  have e : ((c % 128 * 2 ^ (7 * k) : Nat) : Int) = (c : Int) % 128 * 2 ^ (7 * k) := by simp
  rw [← e]
  omega
theorem acc_lt (k acc c : Nat) (hacc : acc < 2 ^ (7 * k)) : c % 128 * 2 ^ (7 * k) + acc < 2 ^ (7 * (k + 1)) := by
  rw [show 7 * (k + 1) = 7 * k + 7 from by omega, Nat.pow_add]
  have : c % 128 * 2 ^ (7 * k) ≤ 127 * 2 ^ (7 * k) := Nat.mul_le_mul_right _ (by omega)
  omega
theorem aux_hi {k acc c : Nat} {ys : List Nat} (h9 : ¬ (k = 9 ∧ 1 < c)) (h : 128 ≤ c) : readAux k acc (c :: ys) = readAux (k + 1) (c % 128 * 2 ^ (7 * k) + acc) ys := by rw [readAux, if_neg h9, if_pos h]
theorem aux_big {k acc c : Nat} {ys : List Nat} (h9 : k = 9 ∧ 1 < c) : readAux k acc (c :: ys) = none := by rw [readAux, if_pos h9]
theorem aux_zero {k acc c : Nat} {ys : List Nat} (h9 : ¬ (k = 9 ∧ 1 < c)) (h : ¬ 128 ≤ c) (h0 : c = 0 ∧ 0 < k) : readAux k acc (c :: ys) = none := by rw [readAux, if_neg h9, if_neg h, if_pos h0]
theorem aux_end {k acc c : Nat} {ys : List Nat} (h9 : ¬ (k = 9 ∧ 1 < c)) (h : ¬ 128 ≤ c) (h0 : ¬ (c = 0 ∧ 0 < k)) : readAux k acc (c :: ys) = some (c % 128 * 2 ^ (7 * k) + acc, k + 1) := by
  rw [readAux, if_neg h9, if_neg h, if_neg h0, Nat.mod_eq_of_lt (by omega)]
theorem drop_at (xs : List Nat) (k : Nat) (h : k < xs.length) : xs.drop k = xs.getD k 0 :: xs.drop (k + 1) := by
  rw [List.drop_eq_getElem_cons h]; simp [List.getD, List.getElem?_eq_getElem h]

/-- What Read answers. -/
def readV : Option (Nat × Nat) → Value
  | some (n, k) => .tuple #[.int .u64 n, .int .i64 k, .int .i64 0]
  | none => .tuple #[.int .u64 0, .int .i64 0, .int .i64 8]

set_option maxHeartbeats 400000 in
set_option maxRecDepth 100000 in
theorem read_any (p : Option Addr) (cap : Nat) (xs : List Nat) (w : World) (hb : BIn w p xs) (hm : xs.length ≤ maxLen) :
    Calls Try.prog 9 #[.slice p xs.length cap] w fun e w' => e = .returned (readV (readN xs)) ∧ w' = w := by
  unfold maxLen at hm
  have hlt := hb.2
  go_enter Try.func9, Try.ntmps9
  go_wp2
  go_loop [5, 10] (fun t i => ∃ k acc : Nat, k ≤ xs.length ∧ k ≤ 9 ∧ acc < 2 ^ (7 * k) ∧ i = .int .i64 k ∧ t = .int .u64 acc ∧ readN xs = readAux k acc (xs.drop k)) (fun _ i => xs.length - (intOf i).toNat)
  case atStart => exact ⟨0, 0, by omega, by omega, by decide, rfl, rfl, rfl⟩
  case round =>
    obtain ⟨k, acc, hk, hk9, hacc, rfl, rfl, hR⟩ := hrel
    have HR : Hid _ := hR
    clear hR
    have HA : Hid (acc < 2 ^ (7 * k)) := hacc
    clear hacc
    by_cases hkl : k < xs.length
    · obtain ⟨b, o, rfl, hc⟩ := hb.1 (by omega)
      have hck := hc k hkl
      have hb8 := getD_lt hlt k
      have HD : Hid _ := drop_at xs k hkl
      have ha := and127 (xs.getD k 0) hb8
      generalize xs.getD k 0 = c at *
      clear hc hlt
      by_cases h9 : k = 9 ∧ 1 < c
      · have e : Hid (readN xs = none) := by show _ = _; rw [HR.out, HD.out, aux_big h9]
        obtain ⟨rfl, h1⟩ := h9
        go_wp2
        go_ret3
        exact ⟨by rw [e.out]; rfl, rfl⟩
      · have hor := or_read k acc c hk9 HA.out (by omega)
        have hfit := read_fits k acc c hk9 HA.out (by omega)
        have hal : Hid _ := acc_lt k acc c HA.out
        by_cases hc128 : 128 ≤ c
        · have e : Hid _ := HD.out ▸ aux_hi (acc := acc) (ys := xs.drop (k + 1)) h9 hc128
          have h9' : k ≤ 8 := by omega
          have h9b : ((k : Int) == 9) = false := by simp; omega
          generalize c % 128 * 2 ^ (7 * k) + acc = z at *
          go_wp2
          go_round
          case rel => exact ⟨k + 1, z, by omega, by omega, hal.out, by go_num, rfl, by rw [HR.out, e.out]⟩
          case measure => simp [intOf]; omega
        · have h9b : ∃ t, ((k : Int) == 9) = t := ⟨_, rfl⟩
          have h0b : ∃ t, ((c : Int) == 0) = t := ⟨_, rfl⟩
          have h1b : ¬ ((k : Int) == 9) = true ∨ (c : Int) ≤ 1 := by simp; omega
          by_cases h0 : c = 0 ∧ 0 < k
          · have e : Hid _ := HD.out ▸ aux_zero (acc := acc) (ys := xs.drop (k + 1)) h9 hc128 h0
            generalize c % 128 * 2 ^ (7 * k) + acc = z at *
            have hc0 : ((c : Int) == 0) = true := by simp; omega
            have hk0 : 0 < k := h0.2
            have hc1 : c ≤ 1 := by omega
            clear h0 h0b h9 h1b
            obtain ⟨t, ht⟩ := h9b
            cases t
            all_goals
              go_wp2
              go_ret3
              exact ⟨by rw [HR.out, e.out]; rfl, rfl⟩
          · have e : Hid _ := HD.out ▸ aux_end (acc := acc) (ys := xs.drop (k + 1)) h9 hc128 h0
            generalize c % 128 * 2 ^ (7 * k) + acc = z at *
            obtain ⟨t, ht⟩ := h9b
            obtain ⟨u, hu⟩ := h0b
            cases t
            · cases u
              · clear h0 h9 h1b
                go_wp2
                go_ret3
                exact ⟨by rw [HR.out, e.out]; rfl, rfl⟩
              · have hk0 : k ≤ 0 := by simp at hu; omega
                clear h0 h9 h1b
                go_wp2
                go_ret3
                exact ⟨by rw [HR.out, e.out]; rfl, rfl⟩
            · have hc1 : c ≤ 1 := by simp [ht] at h1b; omega
              have hk0 : 0 < k := by simp at ht; omega
              cases u
              · clear h0 h9 h1b
                go_wp2
                go_ret3
                exact ⟨by rw [HR.out, e.out]; rfl, rfl⟩
              · exact absurd ⟨by simpa using hu, hk0⟩ h0
    · have e : k = xs.length := by omega
      subst e
      have e : Hid (readN xs = none) := by show _ = _; rw [HR.out, List.drop_length]; rfl
      go_wp2
      go_ret3
      exact ⟨by rw [e.out]; rfl, rfl⟩
end Go.Proofs.Ytdbgbaclgdkkjaa
