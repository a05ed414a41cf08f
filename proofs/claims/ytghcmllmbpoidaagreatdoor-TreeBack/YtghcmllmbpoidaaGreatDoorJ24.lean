import Derived.Test.YtghcmllmbpoidaaGreatDoorJ01
import Derived.Test.YtghcmllmbpoidaaGreatDoorJ02
import Derived.Test.YtghcmllmbpoidaaGreatDoorJ14
import Derived.Laws.CopyOwn
import Derived.BigQuiet
import Derived.Lib.BufferWrite
import Derived.Laws.MakeOwn
namespace Go.Proofs.YtghcmllmbpoidaaGreatDoor.Lg
def le4 (n : Nat) : List Nat := [n % 256, n / 256 % 256, n / 65536 % 256, n / 16777216 % 256]
def join4 (a b c d : Nat) : Nat := a + 256 * (b + 256 * (c + 256 * d))
def markL (e s p i n k : Nat) : List Nat := le4 e ++ (le4 s ++ (le4 p ++ [i % 256, n % 256, k % 256, k / 256 % 256]))
def secL (e s p i n : Nat) (x : List Nat) : List Nat := markL e s p i n x.length ++ (x ++ List.replicate (112 - x.length) 0)
def needsN (k : Nat) : Nat := max 1 ((k + 111) / 112)
def pieceL (r : List Nat) (i : Nat) : List Nat := (r.drop (i * 112)).take 112
def framesK (e s p n : Nat) (r : List Nat) (k : Nat) : List Nat := (List.range k).flatMap fun i => secL e s p i n (pieceL r i)
def frameN (e s p : Nat) (r : List Nat) : List Nat := framesK e s p (needsN r.length) r (needsN r.length)
def numAt (b : List Nat) (k : Nat) : Nat := join4 (b.getD k 0) (b.getD (k + 1) 0) (b.getD (k + 2) 0) (b.getD (k + 3) 0)
def sizeOf2 (x : List Nat) : Nat := x.getD 14 0 + 256 * x.getD 15 0
def secAt (b : List Nat) (i : Nat) : List Nat := (b.drop (i * 128)).take 128
def bodyOf (x : List Nat) : List Nat := (x.drop 16).take (sizeOf2 x)
def decK (b : List Nat) (k : Nat) : List Nat := (List.range k).flatMap fun i => bodyOf (secAt b i)
structure IsRec (e p : Nat) (b : List Nat) (s : Nat) (r : List Nat) : Prop where
  salt0 : s ≠ 0
  salt : s < 4294967296
  len : r.length ≤ 4096
  byte : ∀ c ∈ r, c < 256
  pre : b.take (needsN r.length * 128) = frameN e s p r
structure OkSec (e s p i n : Nat) (x : List Nat) : Prop where
  he : numAt x 0 = e
  hs : numAt x 4 = s
  hp : numAt x 8 = p
  hi : x.getD 12 0 = i
  hn : x.getD 13 0 = n
  full : i + 1 < n → 112 ≤ sizeOf2 x
  some : 0 < i → sizeOf2 x ≠ 0
  le : sizeOf2 x ≤ 112
  rest : ∀ c ∈ x.drop (16 + sizeOf2 x), c = 0
theorem le4_len (n : Nat) : (le4 n).length = 4 := rfl
theorem join_le4 (n : Nat) (h : n < 4294967296) : join4 (n % 256) (n / 256 % 256) (n / 65536 % 256) (n / 16777216 % 256) = n := by unfold join4; omega
theorem le4_join {a b c d : Nat} (ha : a < 256) (hb : b < 256) (hc : c < 256) (hd : d < 256) : le4 (join4 a b c d) = [a, b, c, d] := by
  unfold le4 join4
  simp only [List.cons.injEq, and_true]
  omega
theorem join4_lt {a b c d : Nat} (ha : a < 256) (hb : b < 256) (hc : c < 256) (hd : d < 256) : join4 a b c d < 4294967296 := by unfold join4; omega
theorem numAt_lt {b : List Nat} (h : ∀ c ∈ b, c < 256) (k : Nat) : numAt b k < 4294967296 := join4_lt (getD_lt h _) (getD_lt h _) (getD_lt h _) (getD_lt h _)
theorem markL_len (e s p i n k : Nat) : (markL e s p i n k).length = 16 := rfl
theorem markL_byte (e s p i n k : Nat) : ∀ c ∈ markL e s p i n k, c < 256 := by
  intro c hc
  simp only [markL, le4, List.mem_append, List.mem_cons, List.not_mem_nil, or_false] at hc
  omega
theorem secL_len {e s p i n : Nat} {x : List Nat} (h : x.length ≤ 112) : (secL e s p i n x).length = 128 := by
  unfold secL; simp only [List.length_append, markL_len, List.length_replicate]; omega
theorem secL_byte {e s p i n : Nat} {x : List Nat} (h : ∀ c ∈ x, c < 256) : ∀ c ∈ secL e s p i n x, c < 256 := by
  intro c hc
  rcases List.mem_append.1 hc with h1 | h1
  · exact markL_byte _ _ _ _ _ _ c h1
  · rcases List.mem_append.1 h1 with h1 | h1
    · exact h c h1
    · have := (List.mem_replicate.1 h1).2; omega
theorem pieceL_len (r : List Nat) (i : Nat) : (pieceL r i).length = min 112 (r.length - i * 112) := by simp [pieceL]
theorem pieceL_le (r : List Nat) (i : Nat) : (pieceL r i).length ≤ 112 := by rw [pieceL_len]; omega
theorem pieceL_byte {r : List Nat} (h : ∀ c ∈ r, c < 256) (i : Nat) : ∀ c ∈ pieceL r i, c < 256 := fun c hc => h c (List.mem_of_mem_drop (List.mem_of_mem_take hc))
theorem framesK_snoc (e s p n : Nat) (r : List Nat) (k : Nat) : framesK e s p n r (k + 1) = framesK e s p n r k ++ secL e s p k n (pieceL r k) := by
  unfold framesK; rw [List.range_succ, List.flatMap_append]; simp
theorem framesK_len (e s p n : Nat) (r : List Nat) (k : Nat) : (framesK e s p n r k).length = k * 128 := by
  induction k with
  | zero => rfl
  | succ k ih => rw [framesK_snoc, List.length_append, ih, secL_len (pieceL_le r k)]; omega
theorem framesK_byte {e s p n : Nat} {r : List Nat} (h : ∀ c ∈ r, c < 256) (k : Nat) : ∀ c ∈ framesK e s p n r k, c < 256 := by
  intro c hc
  obtain ⟨i, _, hi⟩ := List.mem_flatMap.1 hc
  exact secL_byte (pieceL_byte h i) c hi
theorem frameN_len (e s p : Nat) (r : List Nat) : (frameN e s p r).length = needsN r.length * 128 := framesK_len _ _ _ _ _ _
theorem frameN_byte {e s p : Nat} {r : List Nat} (h : ∀ c ∈ r, c < 256) : ∀ c ∈ frameN e s p r, c < 256 := framesK_byte h _
theorem needsN_pos (k : Nat) : 0 < needsN k := by unfold needsN; omega
theorem needsN_le {k : Nat} (h : k ≤ 4096) : needsN k ≤ 37 := by unfold needsN; omega
theorem decK_snoc (b : List Nat) (k : Nat) : decK b (k + 1) = decK b k ++ bodyOf (secAt b k) := by
  unfold decK; rw [List.range_succ, List.flatMap_append]; simp
theorem secAt_len {b : List Nat} {i : Nat} (h : (i + 1) * 128 ≤ b.length) : (secAt b i).length = 128 := by simp [secAt]; omega
theorem secAt_byte {b : List Nat} (h : ∀ c ∈ b, c < 256) (i : Nat) : ∀ c ∈ secAt b i, c < 256 := fun c hc => h c (List.mem_of_mem_drop (List.mem_of_mem_take hc))
theorem bodyOf_byte {x : List Nat} (h : ∀ c ∈ x, c < 256) : ∀ c ∈ bodyOf x, c < 256 := fun c hc => h c (List.mem_of_mem_drop (List.mem_of_mem_take hc))
theorem decK_byte {b : List Nat} (h : ∀ c ∈ b, c < 256) (k : Nat) : ∀ c ∈ decK b k, c < 256 := by
  intro c hc
  obtain ⟨i, _, hi⟩ := List.mem_flatMap.1 hc
  exact bodyOf_byte (secAt_byte h i) c hi
theorem take_secs {b : List Nat} (k : Nat) (h : k * 128 ≤ b.length) : b.take (k * 128) = (List.range k).flatMap (secAt b) := by
  induction k with
  | zero => simp
  | succ k ih =>
    rw [List.range_succ, List.flatMap_append, ← ih (by omega), Nat.succ_mul, List.take_add]
    simp [secAt]
theorem secAt_take {b : List Nat} {m i : Nat} (h : i < m) : secAt (b.take (m * 128)) i = secAt b i := by
  unfold secAt
  rw [List.drop_take, List.take_take]
  congr 1
  have : (m - i) * 128 = m * 128 - i * 128 := Nat.sub_mul _ _ _
  omega
theorem secAt_frames {e s p n : Nat} {r : List Nat} (k i : Nat) (h : i < k) : secAt (framesK e s p n r k) i = secL e s p i n (pieceL r i) := by
  induction k with
  | zero => omega
  | succ k ih =>
    rw [framesK_snoc]
    by_cases hi : i = k
    · subst hi
      unfold secAt
      rw [List.drop_append_of_le_length (by rw [framesK_len]; omega), List.drop_eq_nil_of_le (by rw [framesK_len]; omega), List.nil_append, List.take_of_length_le (by rw [secL_len (pieceL_le r i)]; omega)]
    · have := ih (by omega)
      unfold secAt at this ⊢
      rw [List.drop_append_of_le_length (by rw [framesK_len]; omega), List.take_append_of_le_length (by rw [List.length_drop, framesK_len]; omega)]
      exact this
theorem sec_at {e s p i n : Nat} {x : List Nat} (he : e < 4294967296) (hs : s < 4294967296) (hp : p < 4294967296) (hi : i < 256) (hn : n < 256) (hx : x.length ≤ 112) :
    numAt (secL e s p i n x) 0 = e ∧ numAt (secL e s p i n x) 4 = s ∧ numAt (secL e s p i n x) 8 = p ∧ (secL e s p i n x).getD 12 0 = i ∧ (secL e s p i n x).getD 13 0 = n ∧ sizeOf2 (secL e s p i n x) = x.length ∧ bodyOf (secL e s p i n x) = x ∧ (secL e s p i n x).drop (16 + sizeOf2 (secL e s p i n x)) = List.replicate (112 - x.length) 0 := by
  have h6 : sizeOf2 (secL e s p i n x) = x.length := by
    show x.length % 256 + 256 * (x.length / 256 % 256) = x.length
    omega
  have d16 : (secL e s p i n x).drop 16 = x ++ List.replicate (112 - x.length) 0 := by
    unfold secL
    rw [List.drop_append_of_le_length (by rw [markL_len]; omega), List.drop_eq_nil_of_le (by rw [markL_len]; omega), List.nil_append]
  refine ⟨join_le4 e he, join_le4 s hs, join_le4 p hp, ?_, ?_, h6, ?_, ?_⟩
  · show i % 256 = i; omega
  · show n % 256 = n; omega
  · unfold bodyOf
    rw [h6, d16, List.take_left']
    rfl
  · rw [h6, ← List.drop_drop, d16, List.drop_left']
    rfl
theorem sixteen {x : List Nat} (h : 16 ≤ x.length) : ∃ a0 a1 a2 a3 a4 a5 a6 a7 a8 a9 b0 b1 b2 b3 b4 b5 t, x = a0 :: a1 :: a2 :: a3 :: a4 :: a5 :: a6 :: a7 :: a8 :: a9 :: b0 :: b1 :: b2 :: b3 :: b4 :: b5 :: t := by
  match x, h with
  | a0 :: a1 :: a2 :: a3 :: a4 :: a5 :: a6 :: a7 :: a8 :: a9 :: b0 :: b1 :: b2 :: b3 :: b4 :: b5 :: t, _ => exact ⟨a0, a1, a2, a3, a4, a5, a6, a7, a8, a9, b0, b1, b2, b3, b4, b5, t, rfl⟩
theorem sec_of {e s p i n : Nat} {x : List Nat} (h : OkSec e s p i n x) (hx : x.length = 128) (hb : ∀ c ∈ x, c < 256) : x = secL e s p i n (bodyOf x) ∧ (bodyOf x).length = sizeOf2 x := by
  have hl : (bodyOf x).length = sizeOf2 x := by have := h.le; simp [bodyOf]; omega
  refine ⟨?_, hl⟩
  have hz : x.drop (16 + sizeOf2 x) = List.replicate (112 - sizeOf2 x) 0 := by
    rw [List.eq_replicate_iff]
    exact ⟨by rw [List.length_drop, hx]; omega, h.rest⟩
  have hd : x.drop 16 = bodyOf x ++ List.replicate (112 - (bodyOf x).length) 0 := by
    rw [hl, ← hz, ← List.drop_drop]
    exact (List.take_append_drop (sizeOf2 x) (x.drop 16)).symm
  unfold secL
  rw [← hd, hl]
  have h1 := h.he; have h2 := h.hs; have h3 := h.hp; have h4 := h.hi; have h5 := h.hn; have hle := h.le
  obtain ⟨a0, a1, a2, a3, a4, a5, a6, a7, a8, a9, b0, b1, b2, b3, b4, b5, t, rfl⟩ := sixteen (x := x) (by omega)
  have e1 : join4 a0 a1 a2 a3 = e := h1
  have e2 : join4 a4 a5 a6 a7 = s := h2
  have e3 : join4 a8 a9 b0 b1 = p := h3
  have e4 : b2 = i := h4
  have e5 : b3 = n := h5
  have e6 : sizeOf2 (a0 :: a1 :: a2 :: a3 :: a4 :: a5 :: a6 :: a7 :: a8 :: a9 :: b0 :: b1 :: b2 :: b3 :: b4 :: b5 :: t) = b4 + 256 * b5 := rfl
  rw [e6] at hle ⊢
  have hB : ∀ c ∈ [a0, a1, a2, a3, a4, a5, a6, a7, a8, a9, b0, b1, b2, b3, b4, b5], c < 256 := fun c hc => hb c (List.mem_append_left t hc)
  simp only [List.forall_mem_cons, List.not_mem_nil, false_implies, implies_true, and_true] at hB
  obtain ⟨q0, q1, q2, q3, q4, q5, q6, q7, q8, q9, r0, r1, r2, r3, r4, r5⟩ := hB
  unfold markL
  rw [← e1, ← e2, ← e3, le4_join q0 q1 q2 q3, le4_join q4 q5 q6 q7, le4_join q8 q9 r0 r1]
  simp only [List.cons_append, List.nil_append, List.drop_succ_cons, List.drop_zero, List.cons.injEq, and_true, true_and]
  omega
theorem rec_secs {e p s : Nat} {b r : List Nat} (h : IsRec e p b s r) {i : Nat} (hi : i < needsN r.length) : secAt b i = secL e s p i (needsN r.length) (pieceL r i) := by
  rw [← secAt_frames (e := e) (s := s) (p := p) (n := needsN r.length) (r := r) (needsN r.length) i hi, ← secAt_take (b := b) hi, h.pre]
  rfl
theorem rec_len {e p s : Nat} {b r : List Nat} (h : IsRec e p b s r) : needsN r.length * 128 ≤ b.length := by
  have := congrArg List.length h.pre
  rw [frameN_len, List.length_take] at this
  omega
theorem pieces_all (r : List Nat) : ∀ k, (List.range k).flatMap (pieceL r) = r.take (k * 112) := by
  intro k
  induction k with
  | zero => simp
  | succ k ih => rw [List.range_succ, List.flatMap_append, ih, Nat.succ_mul, List.take_add]; simp [pieceL]
theorem needsN_ge (k : Nat) : k ≤ needsN k * 112 := by unfold needsN; omega
theorem needsN_of {k n : Nat} (hn : 0 < n) (h1 : k ≤ n * 112) (h2 : n = 1 ∨ (n - 1) * 112 < k) : needsN k = n := by unfold needsN; omega
theorem getD_sec (b : List Nat) (k : Nat) (hk : k < 128) : (secAt b 0).getD k 0 = b.getD k 0 := by
  simp [secAt, List.getD, hk]
theorem rec_dec {e p s : Nat} {b r : List Nat} (he : e < 4294967296) (hp : p < 4294967296) (h : IsRec e p b s r) :
    numAt b 4 = s ∧ b.getD 13 0 = needsN r.length ∧ decK b (needsN r.length) = r ∧ ∀ i, i < needsN r.length → OkSec e s p i (needsN r.length) (secAt b i) := by
  have hn := needsN_le h.len
  have hp0 := needsN_pos r.length
  have key : ∀ i, i < needsN r.length → OkSec e s p i (needsN r.length) (secAt b i) ∧ bodyOf (secAt b i) = pieceL r i := by
    intro i hi
    rw [rec_secs h hi]
    obtain ⟨h1, h2, h3, h4, h5, h6, h7, h8⟩ := sec_at (x := pieceL r i) he h.salt hp (show i < 256 by omega) (show needsN r.length < 256 by omega) (pieceL_le r i)
    have hl := pieceL_len r i
    refine ⟨⟨h1, h2, h3, h4, h5, fun hf => ?_, fun hf => ?_, ?_, fun c hc => ?_⟩, h7⟩
    · rw [h6, hl]; unfold needsN at hf; omega
    · rw [h6, hl]; unfold needsN at hi; omega
    · rw [h6]; exact pieceL_le r i
    · rw [h8] at hc; exact (List.mem_replicate.1 hc).2
  obtain ⟨k0, _⟩ := key 0 hp0
  refine ⟨?_, ?_, ?_, fun i hi => (key i hi).1⟩
  · have := k0.hs
    unfold numAt at this ⊢
    rwa [getD_sec b 4 (by omega), getD_sec b 5 (by omega), getD_sec b 6 (by omega), getD_sec b 7 (by omega)] at this
  · rw [← getD_sec b 13 (by omega)]; exact k0.hn
  · have : decK b (needsN r.length) = (List.range (needsN r.length)).flatMap (pieceL r) := by
      unfold decK
      rw [List.flatMap_def, List.flatMap_def]
      congr 1
      apply List.map_congr_left
      intro i hi
      exact (key i (List.mem_range.1 hi)).2
    rw [this, pieces_all, List.take_of_length_le (needsN_ge _)]
theorem rec_only {e p s s' : Nat} {b r r' : List Nat} (he : e < 4294967296) (hp : p < 4294967296) (h : IsRec e p b s r) (h' : IsRec e p b s' r') : s = s' ∧ r = r' := by
  obtain ⟨a1, a2, a3, _⟩ := rec_dec he hp h
  obtain ⟨b1, b2, b3, _⟩ := rec_dec he hp h'
  refine ⟨a1.symm.trans b1, ?_⟩
  rw [← a3, ← b3, ← a2, ← b2]
theorem dec_full {e s p n : Nat} {b : List Nat} (hb : ∀ c ∈ b, c < 256) (hl : n * 128 ≤ b.length) (h : ∀ i, i < n → OkSec e s p i n (secAt b i)) : ∀ k, k + 1 ≤ n → (decK b k).length = k * 112 ∧ ∀ i, i < k → pieceL (decK b k) i = bodyOf (secAt b i) := by
  intro k
  induction k with
  | zero => intro _; exact ⟨rfl, fun i hi => by omega⟩
  | succ k ih =>
    intro hk
    obtain ⟨l1, l2⟩ := ih (by omega)
    have hs : (bodyOf (secAt b k)).length = 112 := by
      have := h k (by omega)
      rw [(sec_of this (secAt_len (by omega)) (secAt_byte hb k)).2]
      have h1 := this.full (by omega)
      have h2 := this.le
      omega
    rw [decK_snoc]
    refine ⟨by rw [List.length_append, l1, hs]; omega, fun i hi => ?_⟩
    by_cases hik : i = k
    · subst hik
      unfold pieceL
      rw [List.drop_append_of_le_length (by rw [l1]; omega), List.drop_eq_nil_of_le (by rw [l1]; omega), List.nil_append, List.take_of_length_le (by rw [hs]; omega)]
    · rw [← l2 i (by omega)]
      unfold pieceL
      rw [List.drop_append_of_le_length (by rw [l1]; omega), List.take_append_of_le_length (by rw [List.length_drop, l1]; omega)]
theorem rec_of {e s p n : Nat} {b : List Nat} (hb : ∀ c ∈ b, c < 256) (hn : 0 < n) (hs0 : s ≠ 0) (hs : s < 4294967296) (hl : n * 128 ≤ b.length) (h : ∀ i, i < n → OkSec e s p i n (secAt b i)) (hr : (decK b n).length ≤ 4096) : IsRec e p b s (decK b n) := by
  obtain ⟨m, rfl⟩ : ∃ m, n = m + 1 := ⟨n - 1, by omega⟩
  obtain ⟨l1, l2⟩ := dec_full hb hl h m (Nat.le_refl _)
  have hm := h m (by omega)
  obtain ⟨x1, x2⟩ := sec_of hm (secAt_len (by omega)) (secAt_byte hb m)
  have hle := hm.le
  have hlen : (decK b (m + 1)).length = m * 112 + sizeOf2 (secAt b m) := by rw [decK_snoc, List.length_append, l1, x2]
  have hneed : needsN (decK b (m + 1)).length = m + 1 := by
    refine needsN_of (by omega) (by rw [hlen]; omega) ?_
    by_cases h0 : m = 0
    · exact .inl (by omega)
    · have := hm.some (by omega)
      exact .inr (by rw [hlen]; omega)
  refine ⟨hs0, hs, hr, decK_byte hb _, ?_⟩
  unfold frameN framesK
  rw [hneed, take_secs _ hl, List.flatMap_def, List.flatMap_def]
  congr 1
  apply List.map_congr_left
  intro i hi
  have hi' : i < m + 1 := List.mem_range.1 hi
  rw [(sec_of (h i hi') (secAt_len (by omega)) (secAt_byte hb i)).1]
  congr 1
  rw [decK_snoc]
  by_cases hik : i = m
  · subst hik
    unfold pieceL
    rw [List.drop_append_of_le_length (by rw [l1]; omega), List.drop_eq_nil_of_le (by rw [l1]; omega), List.nil_append, List.take_of_length_le (by rw [x2]; exact hle)]
  · rw [← l2 i (by omega)]
    unfold pieceL
    rw [List.drop_append_of_le_length (by rw [l1]; omega), List.take_append_of_le_length (by rw [List.length_drop, l1]; omega)]
end Go.Proofs.YtghcmllmbpoidaaGreatDoor.Lg
namespace Go.Proofs.YtghcmllmbpoidaaGreatDoor.Lg
open Go.RowKit Go.WideShapes
theorem below_alloc (w : World) (o : Obj) : Below w.heap.size w (w.alloc o) := (Below.refl _ _).alloc (Nat.le_refl _) o
theorem lt_heap {w : World} {b : Nat} {o : Obj} (h : w.heap[b]? = some o) : b < w.heap.size := (Array.getElem?_eq_some_iff.1 h).1
theorem below_bt {a b c : World} (h1 : Below a.heap.size a b) (h2 : Below b.heap.size b c) : Below a.heap.size a c := h1.trans (h2.mono h1.size)
abbrev Box := Nat × Array Value × TypeId
structure St (w : World) (bx : List Box) (wc : World) (v : Value) (xs : List Nat) : Prop where
  own : wc.ownsRow w.heap.size 5 1 v xs.length (Bs xs)
  bel : Below w.heap.size w wc
  box : ∀ p ∈ bx, wc.heap[p.1]? = some (.cells p.2.1 p.2.2 (0, 0)) ∧ p.2.2 ≠ 5
theorem own_form {w : World} {base n : Nat} {e : TypeId} {s : Nat} {v : Value} {xs : List Value} (h : w.ownsRow base e s v n xs) : ∃ q m, v = .slice q n m ∧ n ≤ m ∧ m ≤ maxLen ∧ (q = none → m = 0) := by
  rcases h.2 with ⟨hv, hn⟩ | ⟨g, cap, cur, hv, _, _, h1, h2, _⟩
  · exact ⟨none, 0, by rw [hv, hn], by omega, by unfold maxLen; omega, fun _ => rfl⟩
  · exact ⟨_, cap, hv, h1, h2, fun h => by cases h⟩
theorem blk_grown {w w' : World} {base n : Nat} {v : Value} {xs : List Value} (h : w.ownsRow base 5 1 v n xs) (hg : w.grownBy w' v.ownBlock) {B : Nat} {C : Array Value} {t : TypeId} {fr : Nat × Nat} (hB : w.heap[B]? = some (.cells C t fr)) (ht : t ≠ 5) : w'.heap[B]? = some (.cells C t fr) := by
  rw [hg.block B (lt_heap hB) ?_]
  · exact hB
  · intro e
    rcases h.2 with ⟨hv, _⟩ | ⟨g, cap, cur, hv, _, hgg, _⟩
    · rw [hv] at e; cases e
    · rw [hv] at e
      simp only [Value.ownBlock, Option.some.injEq] at e
      subst e
      rw [hB] at hgg
      simp only [Option.some.injEq, Obj.cells.injEq] at hgg
      exact ht hgg.2.1
theorem St.start {w : World} {bx : List Box} (hb : ∀ p ∈ bx, w.heap[p.1]? = some (.cells p.2.1 p.2.2 (0, 0)) ∧ p.2.2 ≠ 5) : St w bx w (.slice none 0 0) [] := ⟨World.ownsRow_nil _ _ _ _, Below.refl _ _, hb⟩
theorem St.call {w : World} {bx : List Box} {wc w1 : World} {v : Value} {xs : List Nat} (h : St w bx wc v xs) (hb : Below wc.heap.size wc w1) : St w bx w1 v xs :=
  ⟨own_below h.own hb, h.bel.trans (hb.mono h.bel.size), fun p hp => ⟨(hb.block _ (lt_heap (h.box p hp).1)).trans (h.box p hp).1, (h.box p hp).2⟩⟩
theorem St.app {w : World} {bx : List Box} {wc w2 : World} {v v2 : Value} {xs ys : List Nat} (h : St w bx wc v xs) (ho : w2.ownsRow w.heap.size 5 1 v2 (xs ++ ys).length (Bs (xs ++ ys))) (hg : wc.grownBy w2 v.ownBlock) : St w bx w2 v2 (xs ++ ys) :=
  ⟨ho, h.bel.grown hg h.bel.size (fun k hk => (h.own.lt k hk).1), fun p hp => ⟨blk_grown h.own hg (h.box p hp).1 (h.box p hp).2, (h.box p hp).2⟩⟩
theorem St.alloc {w : World} {bx : List Box} {wc : World} {v : Value} {xs : List Nat} (h : St w bx wc v xs) (C : Array Value) (t : TypeId) (ht : t ≠ 5) : St w ((wc.heap.size, C, t) :: bx) (wc.alloc (.cells C t)) v xs := by
  have h1 := h.call (below_alloc wc (.cells C t))
  refine ⟨h1.own, h1.bel, fun p hp => ?_⟩
  rcases List.mem_cons.1 hp with rfl | hp
  · exact ⟨heap_alloc_new wc _, ht⟩
  · exact h1.box p hp
theorem St.drop {w : World} {b : Box} {bx : List Box} {wc : World} {v : Value} {xs : List Nat} (h : St w (b :: bx) wc v xs) : St w bx wc v xs := ⟨h.own, h.bel, fun p hp => h.box p (by simp [hp])⟩
theorem St.eq {w : World} {bx : List Box} {wc : World} {v : Value} {xs ys : List Nat} (h : St w bx wc v xs) (e : xs = ys) : St w bx wc v ys := e ▸ h
theorem St.cell {w : World} {bx : List Box} {wc : World} {v : Value} {xs : List Nat} (h : St w bx wc v xs) {B : Nat} {C : Array Value} {t : TypeId} (hm : (B, C, t) ∈ bx) (i : Nat) : wc.cell? ⟨B, i, none⟩ = C[i]? := cell_of_row wc B i C t (0, 0) (h.box _ hm).1
theorem St.size {w : World} {bx : List Box} {wc : World} {v : Value} {xs : List Nat} (h : St w bx wc v xs) : w.heap.size ≤ wc.heap.size := h.bel.size
theorem own_in {w : World} {base : Nat} {p : Option Addr} {m c : Nat} {xs : List Nat} (h : w.ownsRow base 5 1 (.slice p m c) xs.length (Bs xs)) (hx : ∀ c ∈ xs, c < 256) : BIn w p xs := (own_bin h hx).1
theorem results_cell1 {fn : Func} {p : Tmp} {ty : TypeId} (h : fn.results = #[.cell p ty]) (tmps : Array Value) (P : Program) (w : World) :
    (results fn tmps).run P w = ((asAddr (tmps.getD p undef)).run P w).andThen fun a w₁ => (loadVar ty a).run P w₁ := by
  simp only [results, h]
  simp [Sem.run_bind, Result.andThen]
theorem size5 : (Tryz.prog.info? 5).map (·.size) = some 1 := by kernel_rfl
theorem bin_row {w : World} {g : Nat} {t : TypeId} {fr : Nat × Nat} {ys : List Nat} (h : w.heap[g]? = some (.cells (Bs ys).toArray t fr)) (hy : ∀ c ∈ ys, c < 256) : BIn w (some ⟨g, 0, none⟩) ys := by
  refine ⟨fun _ => ⟨g, 0, rfl, fun i hi => ?_⟩, hy⟩
  rw [cell_of_row w g (0 + i) _ t fr h]
  simp [Bs, List.getD, hi]
theorem Bs_splice (L : List Nat) (k : Nat) (xs : List Nat) : splice (Bs L) k (Bs xs) = Bs (L.take k ++ (xs ++ L.drop (k + xs.length))) := by simp [splice, Bs]
theorem ret_int {k : IntKind} {a b : Int} (h : a = b) : Ending.returned (.int k a) = .returned (.int k b) := by rw [h]
def z8 : List Nat := [0, 0, 0, 0, 0, 0, 0, 0]
theorem join8 (a b c d : Nat) : joinN a b c d 0 0 0 0 = join4 a b c d := by unfold joinN join4; omega
set_option maxRecDepth 8000 in
set_option maxHeartbeats 1000000 in
theorem four_any (p : Option Addr) (xs : List Nat) (n c : Nat) (w : World) (hn : n = xs.length) (h4 : 4 ≤ xs.length) (hb : BIn w p xs) :
    Calls Tryz.prog 99 #[.slice p n c] w fun e w' => e = .returned (.int .u32 (numAt xs 0 : Nat)) ∧ Below w.heap.size w w' := by
  have h4' : 4 ≤ n := by omega
  obtain ⟨a0, a1, a2, a3, ys, rfl⟩ : ∃ a0 a1 a2 a3 ys, xs = a0 :: a1 :: a2 :: a3 :: ys := by
    match xs, h4 with
    | a0 :: a1 :: a2 :: a3 :: ys, _ => exact ⟨a0, a1, a2, a3, ys, rfl⟩
  have hlt : Hid (numAt (a0 :: a1 :: a2 :: a3 :: ys) 0 < 4294967296) := numAt_lt hb.2 0
  have e1 : joinN a0 a1 a2 a3 0 0 0 0 = numAt (a0 :: a1 :: a2 :: a3 :: ys) 0 := join8 _ _ _ _
  have hbb := hb.2
  obtain ⟨b, o, rfl, _⟩ := hb.1 (by simp)
  have h0 : (Bs z8).toArray = #[.int .u8 0, .int .u8 0, .int .u8 0, .int .u8 0, .int .u8 0, .int .u8 0, .int .u8 0, .int .u8 0] := rfl
  have hsrc : Hid (∀ j v, (Bs [a0, a1, a2, a3])[j]? = some v → (w.alloc (.cells #[.int .u8 0, .int .u8 0, .int .u8 0, .int .u8 0, .int .u8 0, .int .u8 0, .int .u8 0, .int .u8 0] 133)).cell? ((⟨b, o, none⟩ : Addr).add j) = some v) := bin_cells ((hb.alloc _).take' 4)
  have HR : Hid ((w.alloc (.cells #[.int .u8 0, .int .u8 0, .int .u8 0, .int .u8 0, .int .u8 0, .int .u8 0, .int .u8 0, .int .u8 0] 133)).heap[w.heap.size]? = some (.cells (Bs z8).toArray 133 (0, 0))) := by show _ = _; rw [h0]; exact heap_alloc_new _ _
  have HL : Hid ((Bs [a0, a1, a2, a3]).length = Nat.min n 4) := by show _ = _; rw [Bs_len]; exact (Nat.min_eq_right h4').symm
  have HF : Hid (0 + (Bs [a0, a1, a2, a3]).length ≤ (Bs z8).length) := by show _ ≤ _; simp [Bs, z8]
  have hb1 : Hid (Below w.heap.size w (w.alloc (.cells #[.int .u8 0, .int .u8 0, .int .u8 0, .int .u8 0, .int .u8 0, .int .u8 0, .int .u8 0, .int .u8 0] 133))) := below_alloc _ _
  obtain ⟨cs, HC⟩ : ∃ cs, Hid (cs = Bs [a0, a1, a2, a3]) := ⟨_, rfl⟩
  rw [← HC.out] at hsrc HL HF
  have HO : Hid (∀ v ∈ cs, v.oneCell' = true) := by show ∀ v ∈ cs, _; rw [HC.out]; exact Bs_one _
  have HN : Hid (n = (a0 :: a1 :: a2 :: a3 :: ys).length) := hn
  clear hb hn h4 h4'
  go_enter Tryz.func99, Tryz.ntmps99
  go_wp2_with (refine wpList_copy_splice (o := ⟨some 8, _, _, _, _, _⟩) rfl (.tmp 6) (.tmp 7) 32 32 rfl 5 Tryz.underlying32 size5 (some ⟨w.heap.size, 0, none⟩) (some ⟨b, o, none⟩) 4 8 n c rfl rfl w.heap.size 0 (Bs z8) 133 HR.out cs HL.out (fun _ => ⟨rfl, _, rfl, hsrc.out⟩) HF.out HO.out w.heap.size w hb1.out (Nat.le_refl _) ?_)
  intro w2 hrow2 hb2
  have hr2 : w2.heap[w.heap.size]? = some (.cells (Bs [a0, a1, a2, a3, 0, 0, 0, 0]).toArray 133 (0, 0)) := by rw [hrow2.out, HC.out, Bs_splice]; rfl
  have hB : Hid (BIn w2 (some ⟨w.heap.size, 0, none⟩) [a0, a1, a2, a3, 0, 0, 0, 0]) := bin_row hr2 (by
    intro c hc
    have : c ∈ [a0, a1, a2, a3] ∨ c = 0 := by simp only [List.mem_cons, List.not_mem_nil, or_false] at hc ⊢; omega
    rcases this with h | rfl
    · exact hbb c (List.mem_append_left ys h)
    · omega)
  have hsz := hb2.size
  have HB2 : Hid (Below w.heap.size w w2) := hb2
  clear hr2 hrow2 HR HL HF hsrc hb1 h0 hb2 hbb HC HO
  go_wp2_with (go_at_call 97; refine (get_ok _ _ a0 a1 a2 a3 0 0 0 0 _ hB.out).mono ?_; rintro e w3 ⟨rfl, hb3⟩)
  go_ret
  refine ⟨?_, HB2.out.trans (hb3.mono hsz)⟩
  have hlt := hlt.out
  exact ret_int (by omega)
def markV (e s p i n k : Nat) : Value := .agg #[.int .u32 e, .int .u32 s, .int .u32 p, .int .i64 i, .int .i64 n, .int .i64 k]
def markOfN (xs : List Nat) : Value := markV (numAt xs 0) (numAt xs 4) (numAt xs 8) (xs.getD 12 0) (xs.getD 13 0) (sizeOf2 xs)
theorem numAt_drop (xs : List Nat) (k : Nat) : numAt (xs.drop k) 0 = numAt xs k := by simp [numAt, List.getD]
theorem wrap_small {a : Nat} (h : a < 65536) : IntKind.i64.wrap (a : Int) = a := by rw [IntKind.wrap_i64]; omega
theorem or8 (a b : Nat) (ha : a < 256) (hb : b < 256) : bits BinOp.or IntKind.i64 (a : Int) (256 * (b : Int)) = (a : Int) + 256 * (b : Int) := by
  have e : (256 * (b : Int)) = ((256 * b : Nat) : Int) := by omega
  rw [e]
  show IntKind.i64.wrap ((BitVec.ofInt 64 (a : Int) ||| BitVec.ofInt 64 ((256 * b : Nat) : Int)).toNat : Int) = _
  have h1 : (BitVec.ofInt 64 (a : Int)).toNat = a := by rw [BitVec.toNat_ofInt]; omega
  have h2 : (BitVec.ofInt 64 ((256 * b : Nat) : Int)).toNat = 256 * b := by rw [BitVec.toNat_ofInt]; omega
  have h3 : a ||| 256 * b = 256 * b + a := by rw [Nat.or_comm]; exact (Nat.two_pow_add_eq_or_of_lt (i := 8) (by omega) b).symm
  rw [BitVec.toNat_or, h1, h2, h3, IntKind.wrap_i64]
  omega
abbrev MC (w' : World) (b o a12 a13 a14 a15 : Nat) : Prop := w'.cell? ⟨b, o + 12, none⟩ = some (.int .u8 (a12 : Nat)) ∧ w'.cell? ⟨b, o + 13, none⟩ = some (.int .u8 (a13 : Nat)) ∧ w'.cell? ⟨b, o + 14, none⟩ = some (.int .u8 (a14 : Nat)) ∧ w'.cell? ⟨b, o + 15, none⟩ = some (.int .u8 (a15 : Nat))
def cellAt (w : World) (a : Addr) : Value := (w.cell? a).getD undef
abbrev MT (w' : World) (g : Nat) : Prop := (w'.cell? ⟨g, 0, none⟩ = some (cellAt w' ⟨g, 0, none⟩) ∧ w'.frozen? ⟨g, 0, none⟩ = false) ∧ (w'.cell? ⟨g, 1, none⟩ = some (cellAt w' ⟨g, 1, none⟩) ∧ w'.frozen? ⟨g, 1, none⟩ = false) ∧ (w'.cell? ⟨g, 2, none⟩ = some (cellAt w' ⟨g, 2, none⟩) ∧ w'.frozen? ⟨g, 2, none⟩ = false) ∧ (w'.cell? ⟨g, 3, none⟩ = some (cellAt w' ⟨g, 3, none⟩) ∧ w'.frozen? ⟨g, 3, none⟩ = false) ∧ (w'.cell? ⟨g, 4, none⟩ = some (cellAt w' ⟨g, 4, none⟩) ∧ w'.frozen? ⟨g, 4, none⟩ = false) ∧ (w'.cell? ⟨g, 5, none⟩ = some (cellAt w' ⟨g, 5, none⟩) ∧ w'.frozen? ⟨g, 5, none⟩ = false)
theorem mt_box {w' : World} {g : Nat} {C : Array Value} {t : TypeId} (h : w'.heap[g]? = some (.cells C t (0, 0))) (hC : C.size = 6) : MT w' g := by
  have hc : ∀ i, i < 6 → w'.cell? ⟨g, i, none⟩ = some (cellAt w' ⟨g, i, none⟩) ∧ w'.frozen? ⟨g, i, none⟩ = false := by
    intro i hi
    refine ⟨?_, ?_⟩
    · have e := cell_of_row w' g i C t (0, 0) h
      rw [Array.getElem?_eq_getElem (by omega)] at e
      unfold cellAt; rw [e]; rfl
    · simp [World.frozen?, h]
  exact ⟨hc 0 (by omega), hc 1 (by omega), hc 2 (by omega), hc 3 (by omega), hc 4 (by omega), hc 5 (by omega)⟩
theorem mt_below {w' w1 : World} {g : Nat} (h : MT w' g) (hb : Below w'.heap.size w' w1) : MT w1 g := by
  have hg : g < w'.heap.size := by
    exact World.block_lt_of_cell? _ _ h.1.1
  have e := hb.block g hg
  unfold MT cellAt World.cell? World.frozen? at *
  simp only [e]
  exact h
theorem mt_set {w' : World} {g : Nat} (h : MT w' g) (i : Nat) (v : Value) : MT (w'.setCell ⟨g, i, none⟩ v) g := by
  have key : ∀ j, w'.cell? ⟨g, j, none⟩ = some (cellAt w' ⟨g, j, none⟩) ∧ w'.frozen? ⟨g, j, none⟩ = false → (w'.setCell ⟨g, i, none⟩ v).cell? ⟨g, j, none⟩ = some (cellAt (w'.setCell ⟨g, i, none⟩ v) ⟨g, j, none⟩) ∧ (w'.setCell ⟨g, i, none⟩ v).frozen? ⟨g, j, none⟩ = false := by
    intro j ⟨h1, h2⟩
    refine ⟨?_, ?_⟩
    · have : ∃ u, (w'.setCell ⟨g, i, none⟩ v).cell? ⟨g, j, none⟩ = some u := by
        by_cases hij : i = j
        · subst hij; exact ⟨v, World.cell?_setCell_same w' _ v h1⟩
        · exact ⟨_, (World.cell?_setCell_other w' _ _ v (by simp)).trans h1⟩
      obtain ⟨u, hu⟩ := this
      unfold cellAt; rw [hu]; rfl
    · have := World.frozen?_setCells g [v] i w' ⟨g, j, none⟩
      simpa [World.setCells] using this.trans h2
  exact ⟨key 0 h.1, key 1 h.2.1, key 2 h.2.2.1, key 3 h.2.2.2.1, key 4 h.2.2.2.2.1, key 5 h.2.2.2.2.2⟩
def B4 (xs : List Nat) (a12 a13 a14 a15 : Nat) : Prop := xs.getD 12 0 = a12 ∧ xs.getD 13 0 = a13 ∧ xs.getD 14 0 = a14 ∧ xs.getD 15 0 = a15
theorem ms_of {w w' : World} {b o a12 a13 a14 a15 : Nat} {xs : List Nat} (h4 : B4 xs a12 a13 a14 a15) (hb : BIn w (some ⟨b, o, none⟩) xs) (h : 16 ≤ xs.length) (hw : Below w.heap.size w w') (ht : MT w' w.heap.size) : MC w' b o a12 a13 a14 a15 ∧ Below w.heap.size w w' ∧ MT w' w.heap.size := by
  have hb' := hb.below hw
  obtain ⟨rfl, rfl, rfl, rfl⟩ := h4
  exact ⟨⟨hb'.cell 12 (by omega), hb'.cell 13 (by omega), hb'.cell 14 (by omega), hb'.cell 15 (by omega)⟩, hw, ht⟩
theorem ms_set6 {w w' : World} {b o a12 a13 a14 a15 : Nat} {xs : List Nat} (h4 : B4 xs a12 a13 a14 a15) (hb : BIn w (some ⟨b, o, none⟩) xs) (h : 16 ≤ xs.length) (hS : MC w' b o a12 a13 a14 a15 ∧ Below w.heap.size w w' ∧ MT w' w.heap.size) (v0 v1 v2 v3 v4 v5 : Value) :
    let W := (((((w'.setCell ⟨w.heap.size, 0, none⟩ v0).setCell ⟨w.heap.size, 1, none⟩ v1).setCell ⟨w.heap.size, 2, none⟩ v2).setCell ⟨w.heap.size, 3, none⟩ v3).setCell ⟨w.heap.size, 4, none⟩ v4).setCell ⟨w.heap.size, 5, none⟩ v5
    MC W b o a12 a13 a14 a15 ∧ Below w.heap.size w W ∧ MT W w.heap.size :=
  ms_of h4 hb h ((((((hS.2.1.setCell (Nat.le_refl _) _).setCell (Nat.le_refl _) _).setCell (Nat.le_refl _) _).setCell (Nat.le_refl _) _).setCell (Nat.le_refl _) _).setCell (Nat.le_refl _) _) (mt_set (mt_set (mt_set (mt_set (mt_set (mt_set hS.2.2 0 _) 1 _) 2 _) 3 _) 4 _) 5 _)
theorem four_ms (k : Nat) {w w' : World} {b o q a12 a13 a14 a15 : Nat} {xs : List Nat} {m c : Nat} (hS : MC w' b o a12 a13 a14 a15 ∧ Below w.heap.size w w' ∧ MT w' w.heap.size) (hb : BIn w (some ⟨b, o, none⟩) xs) (hq : q = o + k) (hm : m = xs.length - k) (hk : k + 4 ≤ xs.length) :
    Calls Tryz.prog 99 #[.slice (some ⟨b, q, none⟩) m c] w' fun e w1 => e = .returned (.int .u32 (numAt xs k : Nat)) ∧ Below w'.heap.size w' w1 := by
  subst hq
  have := four_any (some ⟨b, o + k, none⟩) (xs.drop k) m c w' (by rw [List.length_drop]; exact hm) (by rw [List.length_drop]; omega) ((hb.below hS.2.1).drop' k)
  rw [numAt_drop] at this
  exact this
set_option maxRecDepth 8000 in
set_option maxHeartbeats 4000000 in
theorem markOf_any (p : Option Addr) (xs : List Nat) (n c : Nat) (w : World) (hn : n = xs.length) (h16 : 16 ≤ xs.length) (hnc : n ≤ c) (hb : BIn w p xs) :
    Calls Tryz.prog 68 #[.slice p n c] w fun e w' => e = .returned (markOfN xs) ∧ Below w.heap.size w w' := by
  obtain ⟨b, o, rfl⟩ := hb.addr (by omega)
  have hbl : b < w.heap.size := World.block_lt_of_cell? _ _ (hb.cell 0 (by omega))
  obtain ⟨a12, e12⟩ : ∃ a, xs.getD 12 0 = a := ⟨_, rfl⟩
  obtain ⟨a13, e13⟩ : ∃ a, xs.getD 13 0 = a := ⟨_, rfl⟩
  obtain ⟨a14, e14⟩ : ∃ a, xs.getD 14 0 = a := ⟨_, rfl⟩
  obtain ⟨a15, e15⟩ : ∃ a, xs.getD 15 0 = a := ⟨_, rfl⟩
  have H4 : Hid (B4 xs a12 a13 a14 a15) := ⟨e12, e13, e14, e15⟩
  have b12 := getD_lt hb.2 12
  have b13 := getD_lt hb.2 13
  have b14 := getD_lt hb.2 14
  have b15 := getD_lt hb.2 15
  rw [e12] at b12; rw [e13] at b13; rw [e14] at b14; rw [e15] at b15
  have HV : Hid (markOfN xs = markV (numAt xs 0) (numAt xs 4) (numAt xs 8) a12 a13 (a14 + 256 * a15)) := by show _ = _; unfold markOfN sizeOf2; rw [e12, e13, e14, e15]
  have k12 : IntKind.i64.wrap (a12 : Int) = a12 := wrap_small (by omega)
  have k13 : IntKind.i64.wrap (a13 : Int) = a13 := wrap_small (by omega)
  have k14 : IntKind.i64.wrap (a14 : Int) = a14 := wrap_small (by omega)
  have k15 : IntKind.i64.wrap (a15 : Int) = a15 := wrap_small (by omega)
  have k256 : IntKind.i64.wrap ((a15 : Int) * 256) = 256 * (a15 : Int) := by rw [IntKind.wrap_i64]; omega
  have kor := or8 a14 a15 b14 b15
  clear e12 e13 e14 e15 b12 b13 b14 b15
  have HB : Hid (BIn w (some ⟨b, o, none⟩) xs) := hb
  have HN : Hid (n = xs.length) := hn
  have h4n : (4 : Int) ≤ n := by omega
  have h8n : (8 : Int) ≤ n := by omega
  have h4c : (4 : Int) < c := by omega
  have h8c : (8 : Int) < c := by omega
  have hncI : (n : Int) ≤ c := by omega
  have h12n : (12 : Int) < n := by omega
  have h13n : (13 : Int) < n := by omega
  have h14n : (14 : Int) < n := by omega
  have h15n : (15 : Int) < n := by omega
  have H16 : Hid (16 ≤ xs.length) := h16
  clear hb hn h16
  go_enter Tryz.func68, Tryz.ntmps68
  go_wp2
  go_region_held3 (fun w' => (w'.cell? ⟨b, o + 12, none⟩ = some (.int .u8 (a12 : Nat)) ∧ w'.cell? ⟨b, o + 13, none⟩ = some (.int .u8 (a13 : Nat)) ∧ w'.cell? ⟨b, o + 14, none⟩ = some (.int .u8 (a14 : Nat)) ∧ w'.cell? ⟨b, o + 15, none⟩ = some (.int .u8 (a15 : Nat))) ∧ Below w.heap.size w w' ∧ (w'.cell? ⟨w.heap.size, 0, none⟩ = some (cellAt w' ⟨w.heap.size, 0, none⟩) ∧ w'.frozen? ⟨w.heap.size, 0, none⟩ = false) ∧ (w'.cell? ⟨w.heap.size, 1, none⟩ = some (cellAt w' ⟨w.heap.size, 1, none⟩) ∧ w'.frozen? ⟨w.heap.size, 1, none⟩ = false) ∧ (w'.cell? ⟨w.heap.size, 2, none⟩ = some (cellAt w' ⟨w.heap.size, 2, none⟩) ∧ w'.frozen? ⟨w.heap.size, 2, none⟩ = false) ∧ (w'.cell? ⟨w.heap.size, 3, none⟩ = some (cellAt w' ⟨w.heap.size, 3, none⟩) ∧ w'.frozen? ⟨w.heap.size, 3, none⟩ = false) ∧ (w'.cell? ⟨w.heap.size, 4, none⟩ = some (cellAt w' ⟨w.heap.size, 4, none⟩) ∧ w'.frozen? ⟨w.heap.size, 4, none⟩ = false) ∧ (w'.cell? ⟨w.heap.size, 5, none⟩ = some (cellAt w' ⟨w.heap.size, 5, none⟩) ∧ w'.frozen? ⟨w.heap.size, 5, none⟩ = false)) (first | with_reducible exact ms_set6 H4.out HB.out H16.out (by assumption) _ _ _ _ _ _ | with_reducible exact ms_of H4.out HB.out H16.out (below_bt (And.left (And.right (by assumption))) hb8) (mt_below (And.right (And.right (by assumption))) hb8) | with_reducible exact ms_of H4.out HB.out H16.out (below_bt (And.left (And.right (by assumption))) hb4) (mt_below (And.right (And.right (by assumption))) hb4) | with_reducible exact ms_of H4.out HB.out H16.out (below_bt (And.left (And.right (by assumption))) hb1) (mt_below (And.right (And.right (by assumption))) hb1) | exact ms_of H4.out HB.out H16.out ((below_alloc _ _).drew) (mt_box (heap_alloc_new w _) rfl) | fail)
    (first | (go_at_call 99; refine (four_ms (w := w) (o := o) (xs := xs) 0 (by assumption) HB.out (by omega) (by have := HN.out; omega) (by have := H16.out; omega)).mono ?_; rintro e w1 ⟨rfl, hb1⟩) | (go_at_call 99; refine (four_ms (w := w) (o := o) (xs := xs) 4 (by assumption) HB.out (by omega) (by have := HN.out; omega) (by have := H16.out; omega)).mono ?_; rintro e w4 ⟨rfl, hb4⟩) | (go_at_call 99; refine (four_ms (w := w) (o := o) (xs := xs) 8 (by assumption) HB.out (by omega) (by have := HN.out; omega) (by have := H16.out; omega)).mono ?_; rintro e w8 ⟨rfl, hb8⟩) | fail)
  go_wp2
  (try simp only [Exit.inBlock, Exit.then])
  rename_i hh
  have hbel := hh.2.1
  clear hh
  refine bodyPost_ret (v := markOfN xs) ?_ rfl ⟨rfl, hbel⟩
  have hT0 : MT ((w.alloc (.cells #[.int .u32 0, .int .u32 0, .int .u32 0, .int .i64 0, .int .i64 0, .int .i64 0] 131)).drew) w.heap.size := mt_box (heap_alloc_new w _) rfl
  have hT := mt_below (mt_below (mt_below hT0 hb1) hb4) hb8
  clear hT0
  rw [results_cell1 rfl, HV.out]
  obtain ⟨⟨t0, _⟩, ⟨t1, _⟩, ⟨t2, _⟩, ⟨t3, _⟩, ⟨t4, _⟩, t5, _⟩ := hT
  clear hbel hb1 hb4 hb8
  go_simp
  rfl
def placeN (i n : Nat) : Nat := if i + 1 < n then 0 else if 0 < i then 1 else 2
theorem place_any (e s p i n k r : Nat) (w : World) (hi : i < 256) (hn : n < 256) (hr : placeN i n = r) :
    Calls Tryz.prog 174 #[markV e s p i n k] w fun x w' => x = .returned (.int .i64 r) ∧ Below w.heap.size w w' := by
  have HR : Hid (placeN i n = r) := hr
  clear hr
  have k1 : IntKind.i64.wrap ((n : Int) - 1) = (n : Int) - 1 := by rw [IntKind.wrap_i64]; omega
  unfold markV
  by_cases h1 : i + 1 < n
  · have g1 : decide ((i : Int) < (n : Int) - 1) = true := decide_eq_true (by omega)
    go_enter Tryz.func174, Tryz.ntmps174
    go_wp2
    go_ret
    exact ⟨by rw [← HR.out]; unfold placeN; rw [if_pos h1]; rfl, below_alloc _ _⟩
  · have g1 : decide ((i : Int) < (n : Int) - 1) = false := decide_eq_false (by omega)
    by_cases h2 : 0 < i
    · have g2 : decide (0 < (i : Int)) = true := decide_eq_true (by omega)
      go_enter Tryz.func174, Tryz.ntmps174
      go_wp2
      go_ret
      exact ⟨by rw [← HR.out]; unfold placeN; rw [if_neg h1, if_pos h2]; rfl, below_alloc _ _⟩
    · have g2 : decide (0 < (i : Int)) = false := decide_eq_false (by omega)
      go_enter Tryz.func174, Tryz.ntmps174
      go_wp2
      go_ret
      exact ⟨by rw [← HR.out]; unfold placeN; rw [if_neg h1, if_neg h2]; rfl, below_alloc _ _⟩
set_option maxHeartbeats 1000000 in
theorem noughts_any (p : Option Addr) (xs : List Nat) (m c : Nat) (r : Bool) (w : World) (hm : m = xs.length) (hmc : m ≤ c) (hcm : c ≤ maxLen) (hb : BIn w p xs) (hr : decide (∀ c ∈ xs, c = 0) = r) :
    Calls Tryz.prog 98 #[.slice p m c] w fun e w' => e = .returned (.bool r) ∧ w' = w := by
  have HR : Hid (decide (∀ c ∈ xs, c = 0) = r) := hr
  have HB : Hid (BIn w p xs) := hb
  have HM : Hid (m = xs.length) := hm
  unfold maxLen at hcm
  have hmx : (m : Int) ≤ 9223372036854775807 := by omega
  have HK : Hid (m ≤ c) := hmc
  clear hr hb hm hcm hmc
  go_enter Tryz.func98, Tryz.ntmps98
  go_wp2
  go_loop [7] (fun i => ∃ k : Nat, k ≤ m ∧ i = .int .i64 k ∧ Hid (∀ j, j < k → xs.getD j 0 = 0)) (fun i => m - (intOf i).toNat)
  case atStart => exact ⟨0, by omega, rfl, fun j hj => absurd hj (by omega)⟩
  case round =>
    obtain ⟨k, hk, rfl, hall⟩ := hrel
    by_cases hkl : k < m
    · obtain ⟨b, o, rfl⟩ := HB.out.addr (by have := HM.out; omega)
      have cx := HB.out.cell k (by have := HM.out; omega)
      have hlt := getD_lt HB.out.2 k
      have HD : Hid (xs.getD k 0 ∈ xs) := by
        have := HM.out
        show _ ∈ _
        rw [List.getD_eq_getElem?_getD, List.getElem?_eq_getElem (by omega)]
        exact List.getElem_mem _
      have HT : Hid (xs.getD k 0 = 0 → ∀ j, j < k + 1 → xs.getD j 0 = 0) := fun h j hj => by
        rcases Nat.lt_or_ge j k with h' | h'
        · exact hall.out j h'
        · obtain rfl : j = k := by omega
          exact h
      clear hall
      generalize hcd : xs.getD k 0 = cc at *
      have hkI : (k : Int) < (m : Int) := by omega
      by_cases h0 : cc = 0
      · subst h0
        have HT2 : Hid _ := HT.out rfl
        clear HT HD
        go_wp2
        go_round
        case rel => exact ⟨k + 1, by omega, by go_num, HT2.out⟩
        case measure => simp [intOf]; omega
      · have g0 : ((cc : Int) != 0) = true := by simp; exact h0
        have HN : Hid (¬ ∀ c ∈ xs, c = 0) := fun h => h0 (h _ HD.out)
        clear HT HD
        go_wp2
        go_ret
        exact ⟨by rw [← HR.out, decide_eq_false HN.out]; rfl, rfl⟩
    · obtain rfl : k = m := by omega
      have HT : Hid (∀ c ∈ xs, c = 0) := fun c hc => by
        obtain ⟨j, hj, rfl⟩ := List.getElem_of_mem hc
        have := hall.out j (by have := HM.out; omega)
        rwa [List.getD_eq_getElem?_getD, List.getElem?_eq_getElem hj] at this
      clear hall
      go_wp2
      go_ret
      exact ⟨by rw [← HR.out, decide_eq_true HT.out]; rfl, rfl⟩
theorem needs_div (n : Nat) (h : n ≤ 10000) : wrap64 (((n : Int) + 112 - 1).tdiv 112) = (((n + 111) / 112 : Nat) : Int) := by
  rw [Int.tdiv_eq_ediv_of_nonneg (by omega)]
  unfold wrap64
  omega
set_option maxRecDepth 8000 in
theorem needs_any (s : ByteArray) (r : Nat) (w : World) (hs : s.size ≤ 10000) (hr : needsN s.size = r) :
    Calls Tryz.prog 127 #[.string s] w fun e w' => e = .returned (.int .i64 r) ∧ w' = w := by
  have HR : Hid (needsN s.size = r) := hr
  clear hr
  have k1 : IntKind.i64.wrap ((s.size : Int) + 112) = (s.size : Int) + 112 := by rw [IntKind.wrap_i64]; omega
  have k2 : IntKind.i64.wrap ((s.size : Int) + 112 - 1) = (s.size : Int) + 112 - 1 := by rw [IntKind.wrap_i64]; omega
  have HS : Hid (s.size ≤ 10000) := hs
  clear hs
  go_enter Tryz.func127, Tryz.ntmps127
  go_wp2
  all_goals
    go_ret
    refine ⟨?_, rfl⟩
    rw [← HR.out]
    unfold needsN
    refine ret_int ?_
    have e := needs_div s.size HS.out
    omega
theorem three_at (e s p j : Nat) (h : j < 3) : (#[Value.int .u32 (e : Int), Value.int .u32 (s : Int), Value.int .u32 (p : Int)] : Array Value)[j]? = some (.int .u32 (([e, s, p].getD j 0 : Nat) : Int)) := by
  rcases j with _ | _ | _ | j
  · rfl
  · rfl
  · rfl
  · omega
theorem three_lt {e s p : Nat} (h : e < 4294967296 ∧ s < 4294967296 ∧ p < 4294967296) (j : Nat) : [e, s, p].getD j 0 < 4294967296 := by
  rcases j with _ | _ | _ | j
  · exact h.1
  · exact h.2.1
  · exact h.2.2
  · show 0 < _; omega
theorem three_step (e s p j : Nat) (h : j < 3) : ([e, s, p].take (j + 1)).flatMap le4 = ([e, s, p].take j).flatMap le4 ++ le4 ([e, s, p].getD j 0) := by
  rcases j with _ | _ | _ | j
  · rfl
  · rfl
  · rfl
  · omega
theorem three_len (e s p j : Nat) : (([e, s, p].take j).flatMap le4).length ≤ 12 := by
  rcases j with _ | _ | _ | j <;> simp [List.take, le4]
set_option maxRecDepth 8000 in
set_option maxHeartbeats 2000000 in
theorem bytes_any (e s p i n k : Nat) (w : World) (he : e < 4294967296) (hs : s < 4294967296) (hp : p < 4294967296) (hi : i < 256) (hn : n < 256) (hk : k ≤ 112) :
    Calls Tryz.prog 162 #[markV e s p i n k] w fun x w' => ∃ v, x = .returned v ∧ w'.ownsRow w.heap.size 5 1 v (markL e s p i n k).length (Bs (markL e s p i n k)) ∧ Below w.heap.size w w' := by
  have HE : Hid (e < 4294967296 ∧ s < 4294967296 ∧ p < 4294967296) := ⟨he, hs, hp⟩
  have k3 : IntKind.u8.wrap (i : Int) = i := by rw [IntKind.wrap_u8']; omega
  have k4 : IntKind.u8.wrap (n : Int) = n := by rw [IntKind.wrap_u8']; omega
  have k5 : IntKind.u8.wrap (k : Int) = k := by rw [IntKind.wrap_u8']; omega
  have HI : Hid (i < 256 ∧ n < 256 ∧ k ≤ 112) := ⟨hi, hn, hk⟩
  clear he hs hp hi hn hk
  unfold markV
  go_enter Tryz.func162, Tryz.ntmps162
  go_wp2
  have S0 : St w [(w.heap.size + 1, #[.int .u32 e, .int .u32 s, .int .u32 p], 128), (w.heap.size, #[.int .u32 e, .int .u32 s, .int .u32 p, .int .i64 i, .int .i64 n, .int .i64 k], 131)] ((w.alloc (.cells #[.int .u32 e, .int .u32 s, .int .u32 p, .int .i64 i, .int .i64 n, .int .i64 k] 131)).alloc (.cells #[.int .u32 e, .int .u32 s, .int .u32 p] 128)) (.slice none 0 0) [] := by
    have h1 := (St.start (w := w) (bx := []) (fun p hp => by simp at hp)).alloc #[.int .u32 e, .int .u32 s, .int .u32 p, .int .i64 i, .int .i64 n, .int .i64 k] 131 (by decide)
    have h2 := h1.alloc #[.int .u32 e, .int .u32 s, .int .u32 p] 128 (by decide)
    simpa using h2
  go_loopw [3, 14] (fun m i' wr => ∃ j : Nat, j ≤ 3 ∧ i' = .int .i64 j ∧ St w [(w.heap.size + 1, #[.int .u32 e, .int .u32 s, .int .u32 p], 128), (w.heap.size, #[.int .u32 e, .int .u32 s, .int .u32 p, .int .i64 i, .int .i64 n, .int .i64 k], 131)] wr m (([e, s, p].take j).flatMap le4)) (fun _ i' _ => 3 - (intOf i').toNat)
  case atStart => exact ⟨0, by omega, rfl, S0⟩
  case round =>
    obtain ⟨j, hj, rfl, hst⟩ := hrel
    clear S0
    by_cases hj3 : j < 3
    · have cx := hst.cell (List.Mem.head _) j
      rw [three_at e s p j hj3] at cx
      have HLT := three_lt HE.out j
      have HST : Hid (([e, s, p].take (j + 1)).flatMap le4 = ([e, s, p].take j).flatMap le4 ++ le4 ([e, s, p].getD j 0)) := three_step e s p j hj3
      have HLN : Hid ((([e, s, p].take j).flatMap le4).length ≤ 12) := three_len e s p j
      have HS : Hid _ := hst
      clear hst
      generalize [e, s, p].getD j 0 = u at *
      have hu : IntKind.u64.wrap (u : Int) = u := by rw [IntKind.wrap_u64]; omega
      have HU : Hid (u < 4294967296) := HLT
      have hjI : (j : Int) < 3 := by omega
      clear HLT
      go_wp2_with fail
      refine (put_any u _ (by have := HU.out; omega)).mono ?_
      rintro x w2 ⟨w1, rfl, hw2, hb1⟩
      have hin : BIn w2 (some ⟨w1.heap.size, 0, none⟩) (le4 u) := by rw [hw2]; exact (bin_alloc w1 (putN u) _ (putN_bytes u (by have := HU.out; omega))).take' 4
      have hb2 : Below wr.heap.size wr w2 := by rw [hw2]; exact hb1.alloc hb1.size _
      have HI2 : Hid _ := hin
      have S2 := HS.out.call hb2
      have hsz2 := S2.size
      have HS2 : Hid _ := S2
      clear hin hb2 hb1 HS S2 hw2
      go_wp2_with (at_builtin; refine wpList_append_bytes _ rfl _ _ rfl w.heap.size _ _ (le4 u) (some ⟨w1.heap.size, 0, none⟩) _ 8 rfl rfl rfl HS2.out.own HI2.out (fun h => by cases h) (by have := HLN.out; have := le4_len u; omega) hsz2 ?_; intro v3 w3 ho3 hg3; have S3 := HS2.out.app ho3 hg3)
      have HS3 : Hid _ := S3.eq HST.out.symm
      clear S3 ho3 hg3
      go_roundw
      case rel => exact ⟨j + 1, by omega, by go_num, HS3.out⟩
      case measure => simp [intOf]; omega
    · obtain rfl : j = 3 := by omega
      have h1 := hst.eq (show ([e, s, p].take 3).flatMap le4 = le4 e ++ (le4 s ++ le4 p) from rfl)
      have d3 : wr.cell? ⟨w.heap.size, 3, none⟩ = some (.int .i64 i) := h1.cell (List.Mem.tail _ (List.Mem.head _)) 3
      have d4 : wr.cell? ⟨w.heap.size, 4, none⟩ = some (.int .i64 n) := h1.cell (List.Mem.tail _ (List.Mem.head _)) 4
      have d5 : wr.cell? ⟨w.heap.size, 5, none⟩ = some (.int .i64 k) := h1.cell (List.Mem.tail _ (List.Mem.head _)) 5
      have h2 := h1.call (below_alloc wr (.cells #[.int .u8 i, .int .u8 n, .int .u8 k, .int .u8 (k / 256 % 256)] 5))
      have HS : Hid _ := h2
      have hsz := h2.size
      have hin : Hid (BIn (wr.alloc (.cells #[.int .u8 i, .int .u8 n, .int .u8 k, .int .u8 (k / 256 % 256)] 5)) (some ⟨wr.heap.size, 0, none⟩) [i, n, k, k / 256 % 256]) := bin_lit wr _ _ 5 _ _ rfl (by simp [Bs]) (by
        have := HI.out
        intro c hc
        simp only [List.mem_cons, List.not_mem_nil, or_false] at hc
        omega)
      have HM : Hid (le4 e ++ (le4 s ++ le4 p) ++ [i, n, k, k / 256 % 256] = markL e s p i n k) := by
        have := HI.out
        show _ = _
        unfold markL
        rw [show i % 256 = i by omega, show n % 256 = n by omega, show k % 256 = k by omega, List.append_assoc, List.append_assoc]
      clear hst h1 h2
      go_wp2_with (at_builtin; refine wpList_append_bytes _ rfl _ _ rfl w.heap.size _ _ [i, n, k, k / 256 % 256] (some ⟨wr.heap.size, 0, none⟩) _ 4 rfl rfl rfl HS.out.own hin.out (fun h => by cases h) (by simp [le4]) hsz ?_; intro v3 w3 ho3 hg3; have S3 := HS.out.app ho3 hg3)
      go_ret
      have S4 := S3.eq HM.out
      exact ⟨_, rfl, S4.own, S4.bel⟩
theorem row_full' {w : World} {base e g n : Nat} {xs : List Value} (h : w.ownsRow base e 1 (.slice (some ⟨g, 0, none⟩) n n) n xs) : w.heap[g]? = some (.cells xs.toArray e (0, 0)) := by
  rcases h.2 with ⟨h, _⟩ | ⟨g', cap, cur, hv, _, hg, _, _, hs, ht⟩
  · cases h
  · simp only [Value.slice.injEq, Option.some.injEq, Addr.mk.injEq, and_true, true_and] at hv
    obtain ⟨rfl, rfl⟩ := hv
    rw [hg]
    rw [List.take_of_length_le (by simp; omega)] at ht
    rw [← ht]
theorem zeros_made (n : Nat) : (madeCells #[Value.int .u8 0] n).toList = Bs (List.replicate n 0) := by
  rw [toList_madeCells_one]
  simp [Bs]
theorem byteCells_Bs (s : ByteArray) : Lib.byteCells s.data.toList = Bs (numsOf s) := by unfold Lib.byteCells Bs numsOf; rw [List.map_map]; rfl
theorem wpList_copy_str {P : Program} {w : World} {ops : Array Oper} {rest : List Oper} {o : Oper} {a : Act} {Q : Exit → Act → World → Prop} (hgd : o.guard = none) (d s : Operand) (dT sT : TypeId)
    (ho : o.op = .call { callee := .builtin .copy, args := #[d, s], argTypes := #[dT, sT] }) (elem : TypeId) (hu : P.underlying dT = some (.slice elem)) (hsz : (P.info? elem).map (·.size) = some 1)
    (g off dLen dCap : Nat) (str : ByteArray) (hd : a.eval d = .slice (some ⟨g, off, none⟩) dLen dCap) (hs : a.eval s = .string str)
    (cur : List Value) (t : TypeId) (hg : w.heap[g]? = some (.cells cur.toArray t (0, 0))) (hle : str.size ≤ dLen) (hfit : off + str.size ≤ cur.length) (B : Nat) (w0 : World) (hb : Below B w0 w) (hBg : B ≤ g)
    (h : ∀ w', Hid (w'.heap[g]? = some (.cells (splice cur off (Bs (numsOf str))).toArray t (0, 0))) → Below B w0 w' → wpList P ops Q rest (a.put o.dst (goInt str.size)) w') : wpList P ops Q (o :: rest) a w := by
  refine wpList_plain hgd fun K hK => ?_
  have hrun := Lib.run_copy_row_string (P := P) w dT sT o.type elem g off dLen dCap str cur.toArray t hu hsz hg hle (by simpa using hfit)
  unfold Oper.wp
  simp [execOp, ho, resolve, invoke, builtin, hd, hs, hrun, Result.andThen]
  refine hK _ _ (h _ ?_ (below_setRow hb hBg _))
  have e : (splice cur off (Bs (numsOf str))) = cur.take off ++ Lib.byteCells str.data.toList ++ cur.drop (off + str.size) := by
    unfold splice; rw [byteCells_Bs, Bs_len, numsOf_len, List.append_assoc]
  show _ = _
  rw [e]
  simpa using setRow_heap w g _ _ t _ hg
def z128 : List Nat := List.replicate 128 0
theorem sec_splice {y1 mk x : List Nat} (h1 : y1 = mk ++ List.replicate 112 0) (h2 : mk.length = 16) (h3 : x.length ≤ 112) : y1.take 16 ++ (x ++ y1.drop (16 + x.length)) = mk ++ (x ++ List.replicate (112 - x.length) 0) := by
  subst h1
  rw [List.take_append_of_le_length (by omega), List.take_of_length_le (by omega), ← h2, List.drop_append, List.drop_replicate]
  congr 2
  rw [List.drop_eq_nil_of_le (by omega), List.nil_append]
  congr 1
  omega
def strPiece (r : ByteArray) (k : Nat) : ByteArray := r.extract (k * 112) (min ((k + 1) * 112) r.size)
theorem numsOf_extract (r : ByteArray) (a b : Nat) : numsOf (r.extract a b) = ((numsOf r).drop a).take (b - a) := by
  unfold numsOf
  rw [ByteArray.data_extract, Array.toList_extract]
  simp [List.map_drop, List.map_take]
theorem strPiece_nums (r : ByteArray) (k : Nat) : numsOf (strPiece r k) = pieceL (numsOf r) k := by
  unfold strPiece pieceL
  rw [numsOf_extract]
  by_cases h : (k + 1) * 112 ≤ r.size
  · rw [Nat.min_eq_left h]; congr 1; omega
  · rw [Nat.min_eq_right (by omega)]
    rw [List.take_of_length_le (by rw [List.length_drop, numsOf_len]; omega), List.take_of_length_le (by rw [List.length_drop, numsOf_len]; omega)]
set_option maxRecDepth 8000 in
set_option maxHeartbeats 4000000 in
theorem frame_any (e s p : Nat) (r : ByteArray) (w : World) (he : e < 4294967296) (hs : s < 4294967296) (hp : p < 4294967296) (hr : r.size ≤ 4096) :
    Calls Tryz.prog 128 #[.int .u32 e, .int .u32 s, .int .u32 p, .string r] w fun x w' => ∃ v, x = .returned v ∧ w'.ownsRow w.heap.size 5 1 v (frameN e s p (numsOf r)).length (Bs (frameN e s p (numsOf r))) ∧ Below w.heap.size w w' := by
  obtain ⟨i0, hi, hz0, hz1, hz2⟩ := info_parts info5
  have HE : Hid (e < 4294967296 ∧ s < 4294967296 ∧ p < 4294967296) := ⟨he, hs, hp⟩
  have HR : Hid (r.size ≤ 4096) := hr
  have hrI : (r.size : Int) ≤ 1000000 := by omega
  obtain ⟨n, hn⟩ : ∃ n, needsN r.size = n := ⟨_, rfl⟩
  have HN : Hid (needsN r.size = n) := hn
  have hn37 : (n : Int) ≤ 200 := by have := needsN_le hr; omega
  clear he hs hp hr hn
  go_enter Tryz.func128, Tryz.ntmps128
  go_wp2_with (go_at_call 127; refine (needs_any r n _ (by have := HR.out; omega) HN.out).mono ?_; rintro x w1 ⟨rfl, rfl⟩)
  go_loopw [9, 18] (fun m i wr => ∃ k : Nat, k ≤ n ∧ i = .int .i64 k ∧ St w1 [] wr m (framesK e s p n (numsOf r) k)) (fun _ i _ => n - (intOf i).toNat)
  case atStart => exact ⟨0, by omega, rfl, St.start (fun p hp => by simp at hp)⟩
  case round =>
    obtain ⟨k, hk, rfl, hst⟩ := hrel
    have HS : Hid _ := hst
    clear hst
    by_cases hkn : k < n
    · have hkI : (k : Int) < (n : Int) := by omega
      have k1 : IntKind.i64.wrap ((k : Int) * 112) = (k : Int) * 112 := by rw [IntKind.wrap_i64]; omega
      have k2 : IntKind.i64.wrap ((k : Int) + 1) = (k : Int) + 1 := by rw [IntKind.wrap_i64]; omega
      have k3 : IntKind.i64.wrap (((k : Int) + 1) * 112) = ((k : Int) + 1) * 112 := by rw [IntKind.wrap_i64]; omega
      have hlo : (k : Int) * 112 ≤ (r.size : Int) := by have := HN.out; unfold needsN at this; omega
      by_cases hfull : (k + 1) * 112 ≤ r.size
      · have g1 : ((k : Int) + 1) * 112 ≤ (r.size : Int) := by omega
        go_wp2_with (at_make; refine wpList_make_full _ rfl _ _ 32 rfl (wr.heap.size + 1) 5 i0 (.int .u8 0) 1 Tryz.underlying32 hi hz0 hz1 .i64 .i64 _ _ 128 rfl rfl rfl rfl (by rw [hz2]; decide) (by decide) (by simp) ?_)
        intro w2 hown hgrow
        generalize hps : r.extract (k * 112) ((k + 1) * 112) = ps
        generalize hpl : (k + 1) * 112 - k * 112 = pl at hgrow ⊢
        have HX : Hid (numsOf ps = pieceL (numsOf r) k ∧ ps.size = pl ∧ pl ≤ 112) := by
          have e1 : numsOf ps = pieceL (numsOf r) k := by rw [← hps, ← strPiece_nums]; unfold strPiece; rw [Nat.min_eq_left hfull]
          have e2 : ps.size = pl := by rw [← numsOf_len, e1, pieceL_len, numsOf_len]; omega
          exact ⟨e1, e2, by omega⟩
        clear hps hpl k1 k2 k3 hlo hfull g1
        have hsa := HS.out.alloc #[.int .u32 e, .int .u32 s, .int .u32 p, .int .i64 k, .int .i64 n, .int .i64 pl] 131 (by decide)
        have HSA : Hid _ := hsa
        have hsz0 := hsa.size
        have hb2 : Below (wr.alloc (.cells #[.int .u32 e, .int .u32 s, .int .u32 p, .int .i64 k, .int .i64 n, .int .i64 pl] 131)).heap.size (wr.alloc (.cells #[.int .u32 e, .int .u32 s, .int .u32 p, .int .i64 k, .int .i64 n, .int .i64 pl] 131)) w2 := (Below.refl _ _).grown hgrow (Nat.le_refl _) (fun k hk => by cases hk)
        have hbx := (hsa.call hb2).box _ (List.Mem.head _)
        have hrow := row_full' hown
        rw [zeros_made] at hrow
        simp only at hbx
        have q0 : w2.cell? ⟨wr.heap.size, 0, none⟩ = some (.int .u32 e) := cell_of_row w2 _ 0 _ _ _ hbx.1
        have q1 : w2.cell? ⟨wr.heap.size, 1, none⟩ = some (.int .u32 s) := cell_of_row w2 _ 1 _ _ _ hbx.1
        have q2 : w2.cell? ⟨wr.heap.size, 2, none⟩ = some (.int .u32 p) := cell_of_row w2 _ 2 _ _ _ hbx.1
        have q3 : w2.cell? ⟨wr.heap.size, 3, none⟩ = some (.int .i64 k) := cell_of_row w2 _ 3 _ _ _ hbx.1
        have q4 : w2.cell? ⟨wr.heap.size, 4, none⟩ = some (.int .i64 n) := cell_of_row w2 _ 4 _ _ _ hbx.1
        have q5 : w2.cell? ⟨wr.heap.size, 5, none⟩ = some (.int .i64 pl) := cell_of_row w2 _ 5 _ _ _ hbx.1
        have HB2 : Hid (Below (wr.heap.size + 1) (wr.alloc (.cells #[.int .u32 e, .int .u32 s, .int .u32 p, .int .i64 k, .int .i64 n, .int .i64 pl] 131)) w2) := by
          have h := hb2
          rw [show (wr.alloc (.cells #[.int .u32 e, .int .u32 s, .int .u32 p, .int .i64 k, .int .i64 n, .int .i64 pl] 131)).heap.size = wr.heap.size + 1 by simp] at h
          exact h
        have HR2 : Hid (w2.heap[wr.heap.size + 1]? = some (.cells (Bs z128).toArray 5 (0, 0))) := hrow
        have hlt2 := lt_heap hrow
        clear hsa HS hb2 hrow hbx hown hgrow
        go_wp2_with fail
        refine (bytes_any e s p k n pl w2 HE.out.1 HE.out.2.1 HE.out.2.2 (by omega) (by omega) HX.out.2.2).mono ?_
        rintro x w3 ⟨v3, rfl, ho3, hb3⟩
        obtain ⟨pq3, m3, rfl, _, _, hn3⟩ := own_form ho3
        have hi3 := own_in ho3 (markL_byte _ _ _ _ _ _)
        have HR3 : Hid (w3.heap[wr.heap.size + 1]? = some (.cells (Bs z128).toArray 5 (0, 0))) := (hb3.block _ hlt2).trans HR2.out
        have HB3 : Hid (Below (wr.heap.size + 1) (wr.alloc (.cells #[.int .u32 e, .int .u32 s, .int .u32 p, .int .i64 k, .int .i64 n, .int .i64 pl] 131)) w3) := HB2.out.trans (hb3.mono (by omega))
        obtain ⟨mk, HMK⟩ : ∃ mk, Hid (mk = markL e s p k n pl) := ⟨_, rfl⟩
        have HML : Hid (mk.length = 16) := by show _ = _; rw [HMK.out]; rfl
        rw [← HMK.out] at hi3
        have HI3 : Hid (0 < (Bs mk).length → ∃ ad, pq3 = some ad ∧ ∀ j v, (Bs mk)[j]? = some v → w3.cell? (ad.add j) = some v) := by
          intro h
          obtain ⟨b, o, rfl⟩ := hi3.addr (by rw [Bs_len] at h; exact h)
          exact ⟨_, rfl, bin_cells hi3⟩
        have HL3 : Hid ((Bs mk).length = Nat.min (markL e s p k n pl).length 128) := by show _ = _; rw [Bs_len, HML.out]; rfl
        have HF3 : Hid (0 + (Bs mk).length ≤ (Bs z128).length) := by show _ ≤ _; rw [Bs_len, HML.out, Bs_len]; decide
        clear hi3 ho3 hb3 HR2 HB2 hlt2 q0 q1 q2 q3 q4 q5
        go_wp2_with (refine wpList_copy_splice (o := ⟨some 43, _, _, _, _, _⟩) rfl (.tmp 40) (.tmp 42) 32 32 rfl 5 Tryz.underlying32 size5 (some ⟨wr.heap.size + 1, 0, none⟩) pq3 128 128 (markL e s p k n pl).length m3 rfl rfl (wr.heap.size + 1) 0 (Bs z128) 5 HR3.out (Bs mk) HL3.out (fun h => ⟨rfl, HI3.out h⟩) HF3.out (Bs_one _) (wr.heap.size + 1) (wr.alloc (.cells #[.int .u32 e, .int .u32 s, .int .u32 p, .int .i64 k, .int .i64 n, .int .i64 pl] 131)) HB3.out (Nat.le_refl _) ?_)
        intro w4 hrow4 hb4
        obtain ⟨y1, HY1⟩ : ∃ y1, Hid (y1 = mk ++ List.replicate 112 0) := ⟨mk ++ List.replicate 112 0, (rfl : mk ++ List.replicate 112 0 = _)⟩
        have HR4 : Hid (w4.heap[wr.heap.size + 1]? = some (.cells (Bs y1).toArray 5 (0, 0))) := by
          show _ = _
          rw [hrow4.out, Bs_splice, HY1.out, HML.out]
          rfl
        have HB4 : Hid (Below (wr.heap.size + 1) (wr.alloc (.cells #[.int .u32 e, .int .u32 s, .int .u32 p, .int .i64 k, .int .i64 n, .int .i64 pl] 131)) w4) := hb4
        have HF4 : Hid (16 + ps.size ≤ (Bs y1).length) := by
          have h := HX.out.2
          have hm := HML.out
          show _ ≤ _
          rw [Bs_len, HY1.out, List.length_append, List.length_replicate]
          omega
        have HPS : Hid (ps.size ≤ 112) := by have h := HX.out.2; show _ ≤ _; omega
        clear hrow4 hb4 HR3 HB3 HI3 HL3 HF3 hn3
        go_wp2_with (refine wpList_copy_str (o := ⟨some 47, _, _, _, _, _⟩) rfl (.tmp 45) (.tmp 46) 32 9 rfl 5 Tryz.underlying32 size5 (wr.heap.size + 1) 16 112 112 ps rfl rfl (Bs y1) 5 HR4.out HPS.out HF4.out (wr.heap.size + 1) (wr.alloc (.cells #[.int .u32 e, .int .u32 s, .int .u32 p, .int .i64 k, .int .i64 n, .int .i64 pl] 131)) HB4.out (Nat.le_refl _) ?_)
        intro w5 hrow5 hb5
        have HR5 : w5.heap[wr.heap.size + 1]? = some (.cells (Bs (secL e s p k n (pieceL (numsOf r) k))).toArray 5 (0, 0)) := by
          have h := HX.out
          rw [hrow5.out, Bs_splice, sec_splice (by rw [HY1.out]) HML.out (by rw [h.1]; exact pieceL_le _ _), h.1, HMK.out]
          unfold secL
          rw [show pl = (pieceL (numsOf r) k).length by rw [← h.1, numsOf_len]; exact h.2.1.symm]
        have HI5 : Hid (BIn w5 (some ⟨wr.heap.size + 1, 0, none⟩) (secL e s p k n (pieceL (numsOf r) k))) := bin_row HR5 (secL_byte (pieceL_byte (numsOf_lt r) k))
        have hb5' : Below (wr.alloc (.cells #[.int .u32 e, .int .u32 s, .int .u32 p, .int .i64 k, .int .i64 n, .int .i64 pl] 131)).heap.size (wr.alloc (.cells #[.int .u32 e, .int .u32 s, .int .u32 p, .int .i64 k, .int .i64 n, .int .i64 pl] 131)) w5 := by
          rw [show (wr.alloc (.cells #[.int .u32 e, .int .u32 s, .int .u32 p, .int .i64 k, .int .i64 n, .int .i64 pl] 131)).heap.size = wr.heap.size + 1 by simp]
          exact hb5
        have hs5 := (HSA.out.call hb5').drop
        have HS5 : Hid _ := hs5
        have hsz5 := hs5.size
        have HLS : Hid (128 = (secL e s p k n (pieceL (numsOf r) k)).length) := (secL_len (pieceL_le _ _)).symm
        have HLF : Hid ((framesK e s p n (numsOf r) k).length + (secL e s p k n (pieceL (numsOf r) k)).length ≤ 140737488355328) := by
          show _ ≤ _
          rw [framesK_len, secL_len (pieceL_le _ _)]
          omega
        clear hs5 hb5' HR5 hrow5 hb5 HR4 HB4 HF4 HPS HSA
        go_wp2_with (at_builtin; refine wpList_append_bytes _ rfl _ _ rfl w1.heap.size _ _ (secL e s p k n (pieceL (numsOf r) k)) (some ⟨wr.heap.size + 1, 0, none⟩) _ 128 rfl rfl HLS.out HS5.out.own HI5.out (fun h => by cases h) HLF.out hsz5 ?_; intro v6 w6 ho6 hg6; have S6 := HS5.out.app ho6 hg6)
        have HS6 : Hid _ := S6.eq (framesK_snoc e s p n (numsOf r) k).symm
        clear S6 ho6 hg6
        go_roundw
        case rel => exact ⟨k + 1, by omega, by go_num, HS6.out⟩
        case measure => simp [intOf]; omega
      · have g1 : (r.size : Int) < ((k : Int) + 1) * 112 := by omega
        go_wp2_with (at_make; refine wpList_make_full _ rfl _ _ 32 rfl (wr.heap.size + 1) 5 i0 (.int .u8 0) 1 Tryz.underlying32 hi hz0 hz1 .i64 .i64 _ _ 128 rfl rfl rfl rfl (by rw [hz2]; decide) (by decide) (by simp) ?_)
        intro w2 hown hgrow
        generalize hps : r.extract (k * 112) r.size = ps
        generalize hpl : r.size - k * 112 = pl at hgrow ⊢
        have HX : Hid (numsOf ps = pieceL (numsOf r) k ∧ ps.size = pl ∧ pl ≤ 112) := by
          have e1 : numsOf ps = pieceL (numsOf r) k := by rw [← hps, ← strPiece_nums]; unfold strPiece; rw [Nat.min_eq_right (by omega)]
          have e2 : ps.size = pl := by rw [← numsOf_len, e1, pieceL_len, numsOf_len]; omega
          exact ⟨e1, e2, by omega⟩
        clear hps hpl k1 k2 k3 hlo hfull g1
        have hsa := HS.out.alloc #[.int .u32 e, .int .u32 s, .int .u32 p, .int .i64 k, .int .i64 n, .int .i64 pl] 131 (by decide)
        have HSA : Hid _ := hsa
        have hsz0 := hsa.size
        have hb2 : Below (wr.alloc (.cells #[.int .u32 e, .int .u32 s, .int .u32 p, .int .i64 k, .int .i64 n, .int .i64 pl] 131)).heap.size (wr.alloc (.cells #[.int .u32 e, .int .u32 s, .int .u32 p, .int .i64 k, .int .i64 n, .int .i64 pl] 131)) w2 := (Below.refl _ _).grown hgrow (Nat.le_refl _) (fun k hk => by cases hk)
        have hbx := (hsa.call hb2).box _ (List.Mem.head _)
        have hrow := row_full' hown
        rw [zeros_made] at hrow
        simp only at hbx
        have q0 : w2.cell? ⟨wr.heap.size, 0, none⟩ = some (.int .u32 e) := cell_of_row w2 _ 0 _ _ _ hbx.1
        have q1 : w2.cell? ⟨wr.heap.size, 1, none⟩ = some (.int .u32 s) := cell_of_row w2 _ 1 _ _ _ hbx.1
        have q2 : w2.cell? ⟨wr.heap.size, 2, none⟩ = some (.int .u32 p) := cell_of_row w2 _ 2 _ _ _ hbx.1
        have q3 : w2.cell? ⟨wr.heap.size, 3, none⟩ = some (.int .i64 k) := cell_of_row w2 _ 3 _ _ _ hbx.1
        have q4 : w2.cell? ⟨wr.heap.size, 4, none⟩ = some (.int .i64 n) := cell_of_row w2 _ 4 _ _ _ hbx.1
        have q5 : w2.cell? ⟨wr.heap.size, 5, none⟩ = some (.int .i64 pl) := cell_of_row w2 _ 5 _ _ _ hbx.1
        have HB2 : Hid (Below (wr.heap.size + 1) (wr.alloc (.cells #[.int .u32 e, .int .u32 s, .int .u32 p, .int .i64 k, .int .i64 n, .int .i64 pl] 131)) w2) := by
          have h := hb2
          rw [show (wr.alloc (.cells #[.int .u32 e, .int .u32 s, .int .u32 p, .int .i64 k, .int .i64 n, .int .i64 pl] 131)).heap.size = wr.heap.size + 1 by simp] at h
          exact h
        have HR2 : Hid (w2.heap[wr.heap.size + 1]? = some (.cells (Bs z128).toArray 5 (0, 0))) := hrow
        have hlt2 := lt_heap hrow
        clear hsa HS hb2 hrow hbx hown hgrow
        go_wp2_with fail
        refine (bytes_any e s p k n pl w2 HE.out.1 HE.out.2.1 HE.out.2.2 (by omega) (by omega) HX.out.2.2).mono ?_
        rintro x w3 ⟨v3, rfl, ho3, hb3⟩
        obtain ⟨pq3, m3, rfl, _, _, hn3⟩ := own_form ho3
        have hi3 := own_in ho3 (markL_byte _ _ _ _ _ _)
        have HR3 : Hid (w3.heap[wr.heap.size + 1]? = some (.cells (Bs z128).toArray 5 (0, 0))) := (hb3.block _ hlt2).trans HR2.out
        have HB3 : Hid (Below (wr.heap.size + 1) (wr.alloc (.cells #[.int .u32 e, .int .u32 s, .int .u32 p, .int .i64 k, .int .i64 n, .int .i64 pl] 131)) w3) := HB2.out.trans (hb3.mono (by omega))
        obtain ⟨mk, HMK⟩ : ∃ mk, Hid (mk = markL e s p k n pl) := ⟨_, rfl⟩
        have HML : Hid (mk.length = 16) := by show _ = _; rw [HMK.out]; rfl
        rw [← HMK.out] at hi3
        have HI3 : Hid (0 < (Bs mk).length → ∃ ad, pq3 = some ad ∧ ∀ j v, (Bs mk)[j]? = some v → w3.cell? (ad.add j) = some v) := by
          intro h
          obtain ⟨b, o, rfl⟩ := hi3.addr (by rw [Bs_len] at h; exact h)
          exact ⟨_, rfl, bin_cells hi3⟩
        have HL3 : Hid ((Bs mk).length = Nat.min (markL e s p k n pl).length 128) := by show _ = _; rw [Bs_len, HML.out]; rfl
        have HF3 : Hid (0 + (Bs mk).length ≤ (Bs z128).length) := by show _ ≤ _; rw [Bs_len, HML.out, Bs_len]; decide
        clear hi3 ho3 hb3 HR2 HB2 hlt2 q0 q1 q2 q3 q4 q5
        go_wp2_with (refine wpList_copy_splice (o := ⟨some 43, _, _, _, _, _⟩) rfl (.tmp 40) (.tmp 42) 32 32 rfl 5 Tryz.underlying32 size5 (some ⟨wr.heap.size + 1, 0, none⟩) pq3 128 128 (markL e s p k n pl).length m3 rfl rfl (wr.heap.size + 1) 0 (Bs z128) 5 HR3.out (Bs mk) HL3.out (fun h => ⟨rfl, HI3.out h⟩) HF3.out (Bs_one _) (wr.heap.size + 1) (wr.alloc (.cells #[.int .u32 e, .int .u32 s, .int .u32 p, .int .i64 k, .int .i64 n, .int .i64 pl] 131)) HB3.out (Nat.le_refl _) ?_)
        intro w4 hrow4 hb4
        obtain ⟨y1, HY1⟩ : ∃ y1, Hid (y1 = mk ++ List.replicate 112 0) := ⟨mk ++ List.replicate 112 0, (rfl : mk ++ List.replicate 112 0 = _)⟩
        have HR4 : Hid (w4.heap[wr.heap.size + 1]? = some (.cells (Bs y1).toArray 5 (0, 0))) := by
          show _ = _
          rw [hrow4.out, Bs_splice, HY1.out, HML.out]
          rfl
        have HB4 : Hid (Below (wr.heap.size + 1) (wr.alloc (.cells #[.int .u32 e, .int .u32 s, .int .u32 p, .int .i64 k, .int .i64 n, .int .i64 pl] 131)) w4) := hb4
        have HF4 : Hid (16 + ps.size ≤ (Bs y1).length) := by
          have h := HX.out.2
          have hm := HML.out
          show _ ≤ _
          rw [Bs_len, HY1.out, List.length_append, List.length_replicate]
          omega
        have HPS : Hid (ps.size ≤ 112) := by have h := HX.out.2; show _ ≤ _; omega
        clear hrow4 hb4 HR3 HB3 HI3 HL3 HF3 hn3
        go_wp2_with (refine wpList_copy_str (o := ⟨some 47, _, _, _, _, _⟩) rfl (.tmp 45) (.tmp 46) 32 9 rfl 5 Tryz.underlying32 size5 (wr.heap.size + 1) 16 112 112 ps rfl rfl (Bs y1) 5 HR4.out HPS.out HF4.out (wr.heap.size + 1) (wr.alloc (.cells #[.int .u32 e, .int .u32 s, .int .u32 p, .int .i64 k, .int .i64 n, .int .i64 pl] 131)) HB4.out (Nat.le_refl _) ?_)
        intro w5 hrow5 hb5
        have HR5 : w5.heap[wr.heap.size + 1]? = some (.cells (Bs (secL e s p k n (pieceL (numsOf r) k))).toArray 5 (0, 0)) := by
          have h := HX.out
          rw [hrow5.out, Bs_splice, sec_splice (by rw [HY1.out]) HML.out (by rw [h.1]; exact pieceL_le _ _), h.1, HMK.out]
          unfold secL
          rw [show pl = (pieceL (numsOf r) k).length by rw [← h.1, numsOf_len]; exact h.2.1.symm]
        have HI5 : Hid (BIn w5 (some ⟨wr.heap.size + 1, 0, none⟩) (secL e s p k n (pieceL (numsOf r) k))) := bin_row HR5 (secL_byte (pieceL_byte (numsOf_lt r) k))
        have hb5' : Below (wr.alloc (.cells #[.int .u32 e, .int .u32 s, .int .u32 p, .int .i64 k, .int .i64 n, .int .i64 pl] 131)).heap.size (wr.alloc (.cells #[.int .u32 e, .int .u32 s, .int .u32 p, .int .i64 k, .int .i64 n, .int .i64 pl] 131)) w5 := by
          rw [show (wr.alloc (.cells #[.int .u32 e, .int .u32 s, .int .u32 p, .int .i64 k, .int .i64 n, .int .i64 pl] 131)).heap.size = wr.heap.size + 1 by simp]
          exact hb5
        have hs5 := (HSA.out.call hb5').drop
        have HS5 : Hid _ := hs5
        have hsz5 := hs5.size
        have HLS : Hid (128 = (secL e s p k n (pieceL (numsOf r) k)).length) := (secL_len (pieceL_le _ _)).symm
        have HLF : Hid ((framesK e s p n (numsOf r) k).length + (secL e s p k n (pieceL (numsOf r) k)).length ≤ 140737488355328) := by
          show _ ≤ _
          rw [framesK_len, secL_len (pieceL_le _ _)]
          omega
        clear hs5 hb5' HR5 hrow5 hb5 HR4 HB4 HF4 HPS HSA
        go_wp2_with (at_builtin; refine wpList_append_bytes _ rfl _ _ rfl w1.heap.size _ _ (secL e s p k n (pieceL (numsOf r) k)) (some ⟨wr.heap.size + 1, 0, none⟩) _ 128 rfl rfl HLS.out HS5.out.own HI5.out (fun h => by cases h) HLF.out hsz5 ?_; intro v6 w6 ho6 hg6; have S6 := HS5.out.app ho6 hg6)
        have HS6 : Hid _ := S6.eq (framesK_snoc e s p n (numsOf r) k).symm
        clear S6 ho6 hg6
        go_roundw
        case rel => exact ⟨k + 1, by omega, by go_num, HS6.out⟩
        case measure => simp [intOf]; omega
    · obtain rfl : k = n := by omega
      go_wp2
      go_ret
      have h := HS.out.eq (show framesK e s p k (numsOf r) k = frameN e s p (numsOf r) by unfold frameN; rw [numsOf_len, HN.out])
      exact ⟨_, rfl, h.own, h.bel⟩
end Go.Proofs.YtghcmllmbpoidaaGreatDoor.Lg
