/-
  A digest under way: what its words and its block are behind some bytes. Numbers alone.
-/
import Derived.Test.YtoagaddciapmkaaDoorXBehind
namespace Go.Proofs.YtoagaddciapmkaaDoor
open Go.RowKit Go.WideShapes

structure RunOk (X H blk : List Nat) : Prop where
  len : blk.length = 64
  byt : ∀ x ∈ blk, x < 256
  words : H = roundsN firstH X (X.length / 64)
  pre : blk.take (X.length % 64) = X.drop (X.length / 64 * 64)
theorem roundsN_pre (h l t : List Nat) : ∀ k, k * 64 ≤ l.length → roundsN h (l ++ t) k = roundsN h l k
  | 0, _ => rfl
  | k + 1, hk => by
    have hk' : k * 64 + 64 ≤ l.length := by omega
    rw [roundsN, roundsN, roundsN_pre h l t k (by omega), List.drop_append_of_le_length (by omega), List.take_append_of_le_length (by rw [List.length_drop]; omega)]
theorem RunOk.hlen {X H blk : List Nat} (h : RunOk X H blk) : H.length = 8 := by rw [h.words]; exact roundsN_len _ _
theorem RunOk.hword {X H blk : List Nat} (h : RunOk X H blk) : ∀ x ∈ H, x < 4294967296 := by rw [h.words]; exact roundsN_word _ _
theorem runOk_none : RunOk [] firstH (List.replicate 64 0) := ⟨by simp, fun x hx => by have := List.eq_of_mem_replicate hx; omega, rfl, rfl⟩
/-- The block with c bytes more. -/
def blkN (blk ys : List Nat) (m c : Nat) : List Nat := blk.take m ++ ys.take c ++ blk.drop (m + c)
theorem blkN_len {blk ys : List Nat} {m c : Nat} (hb : blk.length = 64) (hc : c ≤ ys.length) (hm : m + c ≤ 64) : (blkN blk ys m c).length = 64 := by
  unfold blkN
  rw [List.length_append, List.length_append, List.length_take, List.length_take, List.length_drop]
  omega
theorem blkN_byte {blk ys : List Nat} {m c : Nat} (hb : ∀ x ∈ blk, x < 256) (hy : ∀ x ∈ ys, x < 256) : ∀ x ∈ blkN blk ys m c, x < 256 := by
  intro x hx
  unfold blkN at hx
  rcases List.mem_append.1 hx with h | h
  · rcases List.mem_append.1 h with h | h
    · exact hb x (List.mem_of_mem_take h)
    · exact hy x (List.mem_of_mem_take h)
  · exact hb x (List.mem_of_mem_drop h)
theorem blkN_take {blk ys : List Nat} {m c : Nat} (hb : blk.length = 64) (hc : c ≤ ys.length) (hm : m + c ≤ 64) : (blkN blk ys m c).take (m + c) = blk.take m ++ ys.take c := by
  unfold blkN
  rw [List.take_append_of_le_length (by rw [List.length_append, List.length_take, List.length_take]; omega), List.take_of_length_le (by rw [List.length_append, List.length_take, List.length_take]; omega)]
theorem RunOk.part {X H blk ys : List Nat} {c : Nat} (h : RunOk X H blk) (hy : ∀ x ∈ ys, x < 256) (hc : c ≤ ys.length) (hm : X.length % 64 + c < 64) : RunOk (X ++ ys.take c) H (blkN blk ys (X.length % 64) c) := by
  have hl : (X ++ ys.take c).length = X.length + c := by rw [List.length_append, List.length_take]; omega
  have h1 : (X.length + c) / 64 = X.length / 64 := by omega
  have h2 : (X.length + c) % 64 = X.length % 64 + c := by omega
  refine ⟨blkN_len h.len hc (by omega), blkN_byte h.byt hy, ?_, ?_⟩
  · rw [hl, h1, roundsN_pre _ _ _ _ (by omega)]; exact h.words
  · rw [hl, h1, h2, blkN_take h.len hc (by omega), h.pre, List.drop_append_of_le_length (by omega)]
theorem RunOk.full {X H blk ys : List Nat} {c : Nat} (h : RunOk X H blk) (hy : ∀ x ∈ ys, x < 256) (hc : c ≤ ys.length) (hm : X.length % 64 + c = 64) : RunOk (X ++ ys.take c) (roundN H (blkN blk ys (X.length % 64) c)) (blkN blk ys (X.length % 64) c) := by
  have hl : (X ++ ys.take c).length = X.length + c := by rw [List.length_append, List.length_take]; omega
  have h1 : (X.length + c) / 64 = X.length / 64 + 1 := by omega
  have h2 : (X.length + c) % 64 = 0 := by omega
  have hb : blkN blk ys (X.length % 64) c = (X ++ ys.take c).drop (X.length / 64 * 64) := by
    rw [List.drop_append_of_le_length (by omega), ← h.pre]
    have := blkN_take (m := X.length % 64) h.len hc (by omega)
    rw [hm, List.take_of_length_le (by rw [blkN_len h.len hc (by omega)]; omega)] at this
    exact this
  refine ⟨blkN_len h.len hc (by omega), blkN_byte h.byt hy, ?_, ?_⟩
  · rw [hl, h1, roundsN, roundsN_pre _ _ _ _ (by omega), ← h.words]
    congr 1
    rw [hb]
    exact (List.take_of_length_le (by rw [List.length_drop, hl]; omega)).symm
  · rw [hl, h1, h2, List.take_zero, List.drop_of_length_le (by rw [hl]; omega)]
/-- A digest under way as it lies in memory. -/
def rowR (H blk : List Nat) (n : Nat) : List Value := Ws H ++ Bs blk ++ [.int .u64 (n : Int)]
theorem rowR_len {H blk : List Nat} (n : Nat) (hH : H.length = 8) (hb : blk.length = 64) : (rowR H blk n).length = 73 := by simp [rowR, Ws, Bs, hH, hb]
theorem rowR_copy {H blk ys : List Nat} {n m c : Nat} (hH : H.length = 8) (hb : blk.length = 64) (hm : m + c ≤ 64) : (rowR H blk n).take (8 + m) ++ Bs (ys.take c) ++ (rowR H blk n).drop (8 + m + c) = rowR H (blkN blk ys m c) n := by
  have e1 : (rowR H blk n).take (8 + m) = Ws H ++ Bs (blk.take m) := by
    unfold rowR
    rw [List.append_assoc, List.take_append, List.take_of_length_le (by simp [Ws, hH]), show 8 + m - (Ws H).length = m from by simp [Ws, hH], List.take_append_of_le_length (by simp [Bs, hb]; omega)]
    simp [Bs]
  have e2 : (rowR H blk n).drop (8 + m + c) = Bs (blk.drop (m + c)) ++ [.int .u64 (n : Int)] := by
    unfold rowR
    rw [List.append_assoc, List.drop_append, List.drop_of_length_le (by simp [Ws, hH]; omega), show 8 + m + c - (Ws H).length = m + c from by simp [Ws, hH]; omega, List.nil_append, List.drop_append_of_le_length (by simp [Bs, hb]; omega)]
    simp [Bs]
  rw [e1, e2]
  unfold rowR blkN
  simp [Bs, List.append_assoc]
theorem rowR_words {H H' blk : List Nat} {n : Nat} (hH : H.length = 8) (hH' : H'.length = 8) : (rowR H blk n).take 0 ++ Ws H' ++ (rowR H blk n).drop (0 + (Ws H').length) = rowR H' blk n := by
  unfold rowR
  rw [List.append_assoc (Ws H), List.drop_append_of_le_length (by simp [Ws, hH, hH']), List.drop_of_length_le (by simp [Ws, hH, hH'])]
  simp
theorem rowR_size {H blk : List Nat} {n n' : Nat} (hH : H.length = 8) (hb : blk.length = 64) : (rowR H blk n).toArray.setIfInBounds 72 (.int .u64 (n' : Int)) = (rowR H blk n').toArray := by
  unfold rowR
  rw [List.setIfInBounds_toArray, List.set_append_right _ _ (by simp [Ws, Bs, hH, hb])]
  simp [Ws, Bs, hH, hb]
theorem rowR_at72 {H blk : List Nat} {n : Nat} (hH : H.length = 8) (hb : blk.length = 64) : (rowR H blk n).toArray[72]? = some (.int .u64 (n : Int)) := by
  unfold rowR
  rw [List.getElem?_toArray, List.getElem?_append_right (by simp [Ws, Bs, hH, hb])]
  simp [Ws, Bs, hH, hb]
theorem rowR_atW {H blk : List Nat} {n j : Nat} {v : Value} (h : (Ws H)[j]? = some v) : (rowR H blk n).toArray[j]? = some v := by
  unfold rowR
  have hj : j < (Ws H).length := (List.getElem?_eq_some_iff.1 h).1
  rw [List.getElem?_toArray, List.append_assoc, List.getElem?_append_left hj]; exact h
theorem rowR_atB {H blk : List Nat} {n j : Nat} {v : Value} (hH : H.length = 8) (h : (Bs blk)[j]? = some v) : (rowR H blk n).toArray[8 + j]? = some v := by
  unfold rowR
  have hj : j < (Bs blk).length := (List.getElem?_eq_some_iff.1 h).1
  rw [List.getElem?_toArray, List.append_assoc, List.getElem?_append_right (by simp [Ws, hH]), show 8 + j - (Ws H).length = j from by simp [Ws, hH], List.getElem?_append_left hj]; exact h
/-- In memory: behind the bytes X. -/
def RunX (w : World) (g : Nat) (X : List Nat) : Prop := ∃ H blk, RunOk X H blk ∧ w.heap[g]? = some (.cells (rowR H blk X.length).toArray 93 (0, 0))
end Go.Proofs.YtoagaddciapmkaaDoor
