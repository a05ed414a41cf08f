/-
  The words of a block, as the program lays them: numbers alone.
-/
import Derived.Test.YtoagaddciapmkaaDoorXFirst
namespace Go.Proofs.YtoagaddciapmkaaDoor
open Go.RowKit Go.WideShapes

theorem wordsK_succ (b : List Nat) (k : Nat) : wordsK b (k + 1) = wordsK b k ++ [if k < 16 then wordB b (4 * k) else moreW (wordsK b k) k] := rfl
theorem wordsK_take (b : List Nat) : ∀ (n k : Nat), k ≤ n → (wordsK b n).take k = wordsK b k
  | 0, k, h => by obtain rfl : k = 0 := by omega
                  rfl
  | n + 1, k, h => by
    by_cases e : k = n + 1
    · subst e; exact List.take_of_length_le (by rw [wordsK_len]; omega)
    · rw [wordsK_succ, List.take_append_of_le_length (by rw [wordsK_len]; omega)]
      exact wordsK_take b n k (by omega)
theorem wordsK_at (b : List Nat) (n k : Nat) (h : k < n) : (wordsK b n).getD k 0 = if k < 16 then wordB b (4 * k) else moreW (wordsK b k) k := by
  have e := wordsK_take b n (k + 1) (by omega)
  have e2 : ((wordsK b n).take (k + 1)).getD k 0 = (wordsK b n).getD k 0 := by
    unfold List.getD; rw [List.getElem?_take_of_lt (by omega)]
  rw [← e2, e, wordsK_succ]
  unfold List.getD
  rw [List.getElem?_append_right (by rw [wordsK_len]; omega), wordsK_len]
  simp
theorem wordsK_lt (b : List Nat) (hb : ∀ x ∈ b, x < 256) : ∀ n, ∀ x ∈ wordsK b n, x < 4294967296
  | 0, x, h => by cases h
  | n + 1, x, h => by
    rw [wordsK_succ] at h
    rcases List.mem_append.1 h with h | h
    · exact wordsK_lt b hb n x h
    · simp only [List.mem_singleton] at h
      subst h
      split
      · unfold wordB
        have h0 := getD_lt' hb (4 * n); have h1 := getD_lt' hb (4 * n + 1); have h2 := getD_lt' hb (4 * n + 2); have h3 := getD_lt' hb (4 * n + 3)
        omega
      · unfold moreW M32; exact Nat.mod_lt _ (by decide)
theorem fill_at {T : List Nat} {n k j : Nat} (hT : T.length = n) (hk : k ≤ n) (hj : j < k) : (fillN T n k).getD j 0 = T.getD j 0 := by
  unfold fillN List.getD
  rw [List.getElem?_append_left (by rw [List.length_take]; omega), List.getElem?_take_of_lt hj]
theorem fill_at0 {T : List Nat} {n k j : Nat} (hT : T.length = n) (hk : k ≤ n) (hj : k ≤ j) : (fillN T n k).getD j 0 = 0 := by
  unfold fillN List.getD
  rw [List.getElem?_append_right (by rw [List.length_take]; omega), List.getElem?_replicate]
  split <;> rfl
/-- What stands in the row behind k bytes. -/
def schA (b : List Nat) : Nat → List Nat
  | 0 => List.replicate 64 0
  | k + 1 => (schA b k).set (k / 4) (((schA b k).getD (k / 4) 0 * 256 % 4294967296) ||| b.getD k 0)
theorem schA_len (b : List Nat) : ∀ k, (schA b k).length = 64
  | 0 => by simp [schA]
  | k + 1 => by rw [schA, List.length_set, schA_len b k]
theorem schA_lt (b : List Nat) (hb : ∀ x ∈ b, x < 256) : ∀ k, ∀ x ∈ schA b k, x < 4294967296
  | 0, x, h => by
    rw [schA] at h
    have := List.eq_of_mem_replicate h
    omega
  | k + 1, x, h => by
    rw [schA] at h
    rcases List.mem_or_eq_of_mem_set h with h | rfl
    · exact schA_lt b hb k x h
    · have := getD_lt' hb k
      exact Nat.or_lt_two_pow (n := 32) (Nat.mod_lt _ (by decide)) (by omega)
theorem or_low (x c : Nat) (hc : c < 256) : (x * 256) ||| c = x * 256 + c := by
  have := Nat.two_pow_add_eq_or_of_lt (i := 8) (b := c) (by simpa using hc) x
  rw [Nat.mul_comm x 256]
  exact this.symm
theorem or_mod (x c : Nat) (hx : x < 16777216) (hc : c < 256) : x * 256 % 4294967296 ||| c = x * 256 + c := by
  rw [Nat.mod_eq_of_lt (by omega), or_low x c hc]
theorem set_getD (l : List Nat) (j v : Nat) (h : j < l.length) : (l.set j v).getD j 0 = v := by
  unfold List.getD; rw [List.getElem?_set_self h]; rfl
theorem schA_four (b : List Nat) (hb : ∀ x ∈ b, x < 256) (j : Nat) (hj : j < 64) (h0 : (schA b (4 * j)).getD j 0 = 0) : schA b (4 * (j + 1)) = (schA b (4 * j)).set j (wordB b (4 * j)) := by
  have hl := schA_len b (4 * j)
  have b0 := getD_lt' hb (4 * j); have b1 := getD_lt' hb (4 * j + 1); have b2 := getD_lt' hb (4 * j + 2); have b3 := getD_lt' hb (4 * j + 3)
  rw [show 4 * (j + 1) = 4 * j + 3 + 1 by omega]
  simp only [schA]
  rw [show (4 * j + 3) / 4 = j by omega, show (4 * j + 2) / 4 = j by omega, show (4 * j + 1) / 4 = j by omega, show (4 * j) / 4 = j by omega, h0]
  simp only [List.set_set, set_getD _ _ _ (show j < (schA b (4 * j)).length by omega)]
  congr 1
  unfold wordB
  generalize b.getD (4 * j) 0 = c0 at *
  generalize b.getD (4 * j + 1) 0 = c1 at *
  generalize b.getD (4 * j + 2) 0 = c2 at *
  generalize b.getD (4 * j + 3) 0 = c3 at *
  rw [or_mod 0 c0 (by omega) b0, Nat.zero_mul, Nat.zero_add, or_mod c0 c1 (by omega) b1, or_mod _ c2 (by omega) b2, or_mod _ c3 (by omega) b3]
theorem schA_words (b : List Nat) (hb : ∀ x ∈ b, x < 256) : ∀ j, j ≤ 16 → schA b (4 * j) = fillN (wordsK b 64) 64 j
  | 0, _ => by rw [fill_zero]; rfl
  | j + 1, h => by
    have ih := schA_words b hb j (by omega)
    have hT := wordsK_len b 64
    rw [schA_four b hb j (by omega) (by rw [ih]; exact fill_at0 hT (by omega) (Nat.le_refl _)), ih, ← fill_set hT (by omega), wordsK_at b 64 j (by omega), if_pos (by omega)]
theorem wordsK_getD (b : List Nat) (n k j : Nat) (hn : n ≤ 64) (hk : k ≤ n) (hj : j < k) : (wordsK b k).getD j 0 = (wordsK b 64).getD j 0 := by
  rw [wordsK_at b k j hj, wordsK_at b 64 j (by omega)]
end Go.Proofs.YtoagaddciapmkaaDoor
