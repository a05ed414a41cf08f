/-
  Contract of Read.
-/
import Derived.Test.YtoagaddciapmkaaDoorGet
namespace Go.Proofs.YtoagaddciapmkaaDoor.Bt
open Go.RowKit Go.WideShapes

theorem pow7 (k : Nat) (hk : k ≤ 9) : 2 ^ (7 * k) ≤ 9223372036854775808 := by
  have : (2 : Nat) ^ (7 * k) ≤ 2 ^ 63 := Nat.pow_le_pow_right (by decide) (by omega)
  exact this
theorem read_fits (k acc c : Nat) (hk : k ≤ 9) (hacc : acc < 2 ^ (7 * k)) (hc : k = 9 → c ≤ 1) : c % 128 * 2 ^ (7 * k) + acc < 18446744073709551616 := by
  by_cases h : k = 9
  · have := hc h; subst h; simp only [Nat.reduceMul, Nat.reducePow] at *; omega
  · have h1 : (2 : Nat) ^ (7 * k) ≤ 2 ^ 56 := Nat.pow_le_pow_right (by decide) (by omega)
    have h2 : c % 128 * 2 ^ (7 * k) ≤ 127 * 2 ^ 56 := Nat.mul_le_mul (by omega) h1
    have h3 : (127 : Nat) * 2 ^ 56 = 9151314442816847872 := by decide
    have h4 : (2 : Nat) ^ 56 = 72057594037927936 := by decide
    omega
theorem or_read (k acc c : Nat) (hk : k ≤ 9) (hacc : acc < 2 ^ (7 * k)) (hc : k = 9 → c ≤ 1) :
    bits BinOp.or IntKind.u64 (acc : Int) (IntKind.u64.wrap ((c : Int) % 128 * 2 ^ (7 * k))) = ((c % 128 * 2 ^ (7 * k) + acc : Nat) : Int) := by
  have hf := read_fits k acc c hk hacc hc
  refine or_join (7 * k) acc (c % 128) _ hacc hf _ ?_ rfl
  rw [IntKind.wrap_u64]
  have e : ((c % 128 * 2 ^ (7 * k) : Nat) : Int) = (c : Int) % 128 * 2 ^ (7 * k) := by simp
  rw [← e]
  omega
theorem acc_lt (k acc c : Nat) (hacc : acc < 2 ^ (7 * k)) : c % 128 * 2 ^ (7 * k) + acc < 2 ^ (7 * (k + 1)) := by
  rw [show 7 * (k + 1) = 7 * k + 7 from by omega, Nat.pow_add]
  have : c % 128 * 2 ^ (7 * k) ≤ 127 * 2 ^ (7 * k) := Nat.mul_le_mul_right _ (by omega)
  omega
theorem aux_hi {k acc c : Nat} {ys : List Nat} (h9 : ¬ (k = 9 ∧ 1 < c)) (h : 128 ≤ c) : readAux k acc (c :: ys) = readAux (k + 1) (c % 128 * 2 ^ (7 * k) + acc) ys := by rw [readAux, if_neg h9, if_pos h]
theorem aux_big {k acc c : Nat} {ys : List Nat} (h9 : k = 9 ∧ 1 < c) : readAux k acc (c :: ys) = none := by rw [readAux, if_pos h9]
theorem aux_zero {k acc c : Nat} {ys : List Nat} (h9 : ¬ (k = 9 ∧ 1 < c)) (h : ¬ 128 ≤ c) (h0 : c = 0 ∧ 0 < k) : readAux k acc (c :: ys) = none := by rw [readAux, if_neg h9, if_neg h, if_pos h0]
theorem aux_end {k acc c : Nat} {ys : List Nat} (h9 : ¬ (k = 9 ∧ 1 < c)) (h : ¬ 128 ≤ c) (h0 : ¬ (c = 0 ∧ 0 < k)) : readAux k acc (c :: ys) = some (c % 128 * 2 ^ (7 * k) + acc, k + 1) := by
  rw [readAux, if_neg h9, if_neg h, if_neg h0, Nat.mod_eq_of_lt (by omega)]
theorem drop_at (xs : List Nat) (k : Nat) (h : k < xs.length) : xs.drop k = xs.getD k 0 :: xs.drop (k + 1) := by
  rw [List.drop_eq_getElem_cons h]; simp [List.getD, List.getElem?_eq_getElem h]

/-- What Read answers. -/
def readV : Option (Nat × Nat) → Value
  | some (n, k) => .tuple #[.int .u64 n, .int .i64 k, .int .i64 0]
  | none => .tuple #[.int .u64 0, .int .i64 0, .int .i64 8]

end Go.Proofs.YtoagaddciapmkaaDoor.Bt
