/-
  Sixteens: written, read, there and back. No program.
-/
import Derived.Test.YtkcmidhpbaepoaaDoorMath
namespace Go.Proofs.YtkcmidhpbaepoaaDoor

/-- A sixteen's byte. -/
def hexC (n : Nat) : Nat := if n < 10 then 48 + n else 87 + n
def hexN : List Nat → List Nat
  | [] => []
  | b :: l => hexC (b / 16) :: hexC (b % 16) :: hexN l
/-- A sixteen's worth. -/
def halfN (c : Nat) : Option Nat := if 48 ≤ c ∧ c ≤ 57 then some (c - 48) else if 97 ≤ c ∧ c ≤ 102 then some (c - 87) else none
def unhexN : List Nat → Option (List Nat)
  | [] => some []
  | [_] => none
  | a :: b :: l => match halfN a, halfN b, unhexN l with
    | some x, some y, some r => some ((16 * x + y) :: r)
    | _, _, _ => none
theorem half_hex {n : Nat} (h : n < 16) : halfN (hexC n) = some n := by
  unfold halfN hexC
  by_cases h1 : n < 10
  · rw [if_pos h1, if_pos ⟨by omega, by omega⟩]
    congr 1
    omega
  · rw [if_neg h1, if_neg (by omega), if_pos ⟨by omega, by omega⟩]
    congr 1
    omega
theorem hex_half {c x : Nat} (h : halfN c = some x) : hexC x = c ∧ x < 16 := by
  unfold halfN at h
  by_cases h1 : 48 ≤ c ∧ c ≤ 57
  · rw [if_pos h1] at h
    have := Option.some.inj h
    unfold hexC
    rw [if_pos (by omega)]
    omega
  · rw [if_neg h1] at h
    by_cases h2 : 97 ≤ c ∧ c ≤ 102
    · rw [if_pos h2] at h
      have := Option.some.inj h
      unfold hexC
      rw [if_neg (by omega)]
      omega
    · rw [if_neg h2] at h
      cases h
theorem hexN_len (l : List Nat) : (hexN l).length = 2 * l.length := by
  induction l with
  | nil => rfl
  | cons b l ih => simp only [hexN, List.length_cons, ih]; omega
theorem hexN_app (l m : List Nat) : hexN (l ++ m) = hexN l ++ hexN m := by
  induction l with
  | nil => rfl
  | cons b l ih => simp only [List.cons_append, hexN, ih]
theorem hexC_byte {n : Nat} (h : n < 16) : hexC n < 128 := by
  unfold hexC
  split <;> omega
theorem hexN_byte : ∀ {l : List Nat}, (∀ b ∈ l, b < 256) → ∀ c ∈ hexN l, c < 256
  | [], _, c, hc => by cases hc
  | b :: l, h, c, hc => by
    have hb := h b (by simp)
    simp only [hexN, List.mem_cons] at hc
    rcases hc with rfl | rfl | hc
    · have := hexC_byte (n := b / 16) (by omega); omega
    · have := hexC_byte (n := b % 16) (by omega); omega
    · exact hexN_byte (fun x hx => h x (by simp [hx])) c hc
theorem unhex_hex : ∀ {l : List Nat}, (∀ b ∈ l, b < 256) → unhexN (hexN l) = some l
  | [], _ => rfl
  | b :: l, h => by
    have hb := h b (by simp)
    simp only [hexN, unhexN, half_hex (n := b / 16) (by omega), half_hex (n := b % 16) (by omega), unhex_hex (l := l) (fun x hx => h x (by simp [hx]))]
    congr 2
    omega
theorem hex_unhex : ∀ {s r : List Nat}, unhexN s = some r → hexN r = s ∧ ∀ b ∈ r, b < 256
  | [], r, h => by
    obtain rfl := Option.some.inj h
    exact ⟨rfl, fun b hb => by cases hb⟩
  | [_], r, h => by cases h
  | a :: b :: l, r, h => by
    unfold unhexN at h
    split at h
    · rename_i x y t hx hy ht
      obtain rfl := Option.some.inj h
      obtain ⟨e1, l1⟩ := hex_half hx
      obtain ⟨e2, l2⟩ := hex_half hy
      obtain ⟨e3, l3⟩ := hex_unhex ht
      refine ⟨?_, fun c hc => ?_⟩
      · simp only [hexN]
        rw [show (16 * x + y) / 16 = x by omega, show (16 * x + y) % 16 = y by omega, e1, e2, e3]
      · rcases List.mem_cons.1 hc with rfl | hc
        · omega
        · exact l3 c hc
    · cases h
theorem unhex_odd : ∀ {s : List Nat}, s.length % 2 = 1 → unhexN s = none
  | [], h => by simp at h
  | [_], _ => rfl
  | a :: b :: l, h => by
    have hl : l.length % 2 = 1 := by simp only [List.length_cons] at h; omega
    unfold unhexN
    rw [unhex_odd hl]
    split
    · rename_i h1; cases h1
    · rfl
theorem unhex_len : ∀ {s r : List Nat}, unhexN s = some r → s.length = 2 * r.length := by
  intro s r h
  rw [← (hex_unhex h).1, hexN_len]
end Go.Proofs.YtkcmidhpbaepoaaDoor
