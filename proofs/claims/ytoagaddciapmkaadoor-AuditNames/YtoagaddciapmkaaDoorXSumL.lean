/-
  A digest has 32 bytes; so has a seal; one time more is one seal more: numbers alone, no program.
-/
import Derived.Test.YtoagaddciapmkaaDoorXSum
namespace Go.Proofs.YtoagaddciapmkaaDoor

theorem be4_len (n : Nat) : (be4 n).length = 4 := rfl
theorem be4_byte (n : Nat) : ∀ b ∈ be4 n, b < 256 := by
  intro b hb
  simp only [be4, List.mem_cons, List.not_mem_nil, or_false] at hb
  rcases hb with h | h | h | h <;> subst h <;> exact Nat.mod_lt _ (by decide)
theorem be8_len (n : Nat) : (be8 n).length = 8 := rfl
theorem be8_byte (n : Nat) : ∀ b ∈ be8 n, b < 256 := by
  intro b hb
  simp only [be8, List.mem_map] at hb
  obtain ⟨i, -, h⟩ := hb
  subst h; exact Nat.mod_lt _ (by decide)
theorem roundN_len {h : List Nat} (b : List Nat) (hl : h.length = 8) : (roundN h b).length = 8 := by
  simp [roundN, to8, hl]
theorem roundN_word {h b : List Nat} : ∀ x ∈ roundN h b, x < M32 := by
  intro x hx
  simp only [roundN, List.mem_map] at hx
  obtain ⟨p, -, h⟩ := hx
  subst h; exact Nat.mod_lt _ (by decide)
theorem roundsN_len (all : List Nat) : ∀ k, (roundsN firstH all k).length = 8
  | 0 => rfl
  | k + 1 => roundN_len _ (roundsN_len all k)
theorem firstH_word : ∀ x ∈ firstH, x < M32 := by decide
theorem roundsN_word (all : List Nat) : ∀ k, ∀ x ∈ roundsN firstH all k, x < M32
  | 0 => firstH_word
  | _ + 1 => roundN_word
theorem flat4_len : ∀ l : List Nat, (l.flatMap be4).length = 4 * l.length
  | [] => rfl
  | x :: l => by
    simp only [List.flatMap_cons, List.length_append, be4_len, List.length_cons, flat4_len l]; omega
theorem digN_len (b : List Nat) : (digN b).length = 32 := by
  simp only [digN, flat4_len, roundsN_len]
theorem digN_byte (b : List Nat) : ∀ x ∈ digN b, x < 256 := by
  intro x hx
  simp only [digN, List.mem_flatMap] at hx
  obtain ⟨n, -, h⟩ := hx
  exact be4_byte n x h
theorem longerN_len (b : List Nat) : (longerN b).length % 64 = 0 := by
  simp only [longerN, List.length_append, List.length_cons, List.length_replicate, be8_len]; omega
theorem longerN_byte {b : List Nat} (hb : ∀ x ∈ b, x < 256) : ∀ x ∈ longerN b, x < 256 := by
  intro x hx
  simp only [longerN, List.mem_append, List.mem_cons, List.mem_replicate] at hx
  rcases hx with (h | h | h) | h
  · exact hb x h
  · omega
  · omega
  · exact be8_byte _ x h
theorem keyN_len (s : List Nat) : (keyN s).length = 64 := by
  unfold keyN
  by_cases h : 64 < s.length
  · simp only [if_pos h, List.length_append, List.length_replicate, digN_len]
  · simp only [if_neg h, List.length_append, List.length_replicate]; omega
theorem sealN_len (s b : List Nat) : (sealN s b).length = 32 := digN_len _
theorem sealN_byte (s b : List Nat) : ∀ x ∈ sealN s b, x < 256 := digN_byte _
theorem passN_more (s b : List Nat) (k : Nat) : passN s b (k + 1) = sealN s (passN s b k) := rfl
theorem passN_len (s b : List Nat) (k : Nat) : (passN s b (k + 1)).length = 32 := sealN_len _ _
theorem wordsK_len (b : List Nat) : ∀ k, (wordsK b k).length = k
  | 0 => rfl
  | k + 1 => by simp only [wordsK, List.length_append, wordsK_len b k, List.length_cons, List.length_nil]
end Go.Proofs.YtoagaddciapmkaaDoor
