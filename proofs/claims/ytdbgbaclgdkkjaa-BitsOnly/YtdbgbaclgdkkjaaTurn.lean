/-
  Plain arithmetic: small bytes are read back as their number, whatever stands behind; and nothing is written in two ways.
-/
import Derived.Test.YtdbgbaclgdkkjaaRead
namespace Go.Proofs.Ytdbgbaclgdkkjaa
open Go.RowKit

theorem pow_step (i : Nat) : 2 ^ (7 * (i + 1)) = 128 * 2 ^ (7 * i) := by
  rw [show 7 * (i + 1) = 7 * i + 7 from by omega, Nat.pow_add, Nat.mul_comm]
theorem aux_back (rest : List Nat) (m : Nat) : ∀ i acc, i ≤ 9 → m * 2 ^ (7 * i) < 18446744073709551616 → (0 < i → 0 < m) → readAux i acc (smallN m ++ rest) = some (m * 2 ^ (7 * i) + acc, i + (smallN m).length) := by
  induction m using Nat.strongRecOn with
  | _ m ih =>
    intro i acc hi hm h0
    by_cases hlt : m < 128
    · rw [smallN_lo hlt]
      have h9 : ¬ (i = 9 ∧ 1 < m) := by
        rintro ⟨rfl, h1⟩
        simp only [Nat.reduceMul, Nat.reducePow] at hm
        omega
      have := aux_end (acc := acc) (ys := rest) h9 (by omega) (show ¬ (m = 0 ∧ 0 < i) from by omega)
      simp only [List.cons_append, List.nil_append, List.length_cons, List.length_nil]
      rw [this, Nat.mod_eq_of_lt hlt]
    · rw [smallN_hi hlt]
      have h9 : ¬ (i = 9 ∧ 1 < m % 128 + 128) := by
        rintro ⟨rfl, _⟩
        simp only [Nat.reduceMul, Nat.reducePow] at hm
        omega
      have hd : m = 128 * (m / 128) + m % 128 := by omega
      have e : m / 128 * 2 ^ (7 * (i + 1)) + ((m % 128 + 128) % 128 * 2 ^ (7 * i) + acc) = m * 2 ^ (7 * i) + acc := by
        rw [pow_step, show (m % 128 + 128) % 128 = m % 128 from by omega, ← Nat.mul_assoc, ← Nat.add_assoc, ← Nat.add_mul, Nat.mul_comm (m / 128) 128, ← hd]
      have hm' : m / 128 * 2 ^ (7 * (i + 1)) < 18446744073709551616 := by
        have : m / 128 * 2 ^ (7 * (i + 1)) ≤ m * 2 ^ (7 * i) := by
          rw [pow_step, ← Nat.mul_assoc]
          exact Nat.mul_le_mul_right _ (by omega)
        omega
      have hi8 : i + 1 ≤ 9 := by
        rcases Nat.lt_or_ge i 9 with h | h
        · omega
        · obtain rfl : i = 9 := by omega
          exact absurd ⟨rfl, by omega⟩ h9
      have := aux_hi (acc := acc) (ys := smallN (m / 128) ++ rest) h9 (by omega)
      rw [List.cons_append, this, ih (m / 128) (by omega) (i + 1) _ hi8 hm' (by omega), e]
      simp; omega
theorem read_back (n : Nat) (rest : List Nat) (hn : n < 18446744073709551616) : readN (smallN n ++ rest) = some (n, (smallN n).length) := by
  have := aux_back rest n 0 0 (by omega) (by simpa using hn) (by omega)
  simpa [readN] using this
theorem aux_only (ys : List Nat) : ∀ {i acc n k : Nat}, (∀ c ∈ ys, c < 256) → readAux i acc ys = some (n, k) → ∃ m, n = m * 2 ^ (7 * i) + acc ∧ i < k ∧ ys.take (k - i) = smallN m ∧ (0 < i → 0 < m) := by
  induction ys with
  | nil => intro i acc n k _ h; simp [readAux] at h
  | cons c ys ih =>
    intro i acc n k hy h
    have hc256 := hy c (by simp)
    by_cases h9 : i = 9 ∧ 1 < c
    · rw [aux_big h9] at h; cases h
    · by_cases hc : 128 ≤ c
      · rw [aux_hi h9 hc] at h
        obtain ⟨m, hn, hk, ht, h0⟩ := ih (fun c hc => hy c (by simp [hc])) h
        have hm0 := h0 (by omega)
        refine ⟨128 * m + c % 128, ?_, by omega, ?_, by omega⟩
        · rw [hn, pow_step, ← Nat.mul_assoc, ← Nat.add_assoc, ← Nat.add_mul, Nat.mul_comm m 128]
        · rw [smallN_hi (by omega), show (128 * m + c % 128) / 128 = m from by omega, show (128 * m + c % 128) % 128 + 128 = c from by omega, ← ht, show k - i = (k - (i + 1)) + 1 from by omega, List.take_succ_cons]
      · by_cases h0 : c = 0 ∧ 0 < i
        · rw [aux_zero h9 hc h0] at h; cases h
        · rw [aux_end h9 hc h0] at h
          simp only [Option.some.injEq, Prod.mk.injEq] at h
          refine ⟨c, ?_, by omega, ?_, by omega⟩
          · rw [← h.1, Nat.mod_eq_of_lt (by omega)]
          · rw [← h.2, show i + 1 - i = 1 from by omega, smallN_lo (by omega)]; simp
theorem read_only {xs : List Nat} {n k : Nat} (hx : ∀ c ∈ xs, c < 256) (h : readN xs = some (n, k)) : xs.take k = smallN n := by
  obtain ⟨m, hn, _, ht, _⟩ := aux_only xs hx h
  obtain rfl : n = m := by simpa using hn
  simpa using ht
end Go.Proofs.Ytdbgbaclgdkkjaa
