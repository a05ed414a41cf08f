/-
  Plain arithmetic: the sum of three lists' exclusive or is their sums' exclusive or.
-/
import Derived.Test.YtdbgbaclgdkkjabCrc
namespace Go.Proofs.Ytdbgbaclgdkkjab
open Go.RowKit

theorem crc_zip : ∀ (a b : List Nat) (r s : Nat), a.length = b.length → crc (r ^^^ s) (List.zipWith (· ^^^ ·) a b) = crc r a ^^^ crc s b
  | [], [], _, _, _ => rfl
  | [], _ :: _, _, _, h => by simp at h
  | _ :: _, [], _, _, h => by simp at h
  | x :: a, y :: b, r, s, h => by
    show crc (crcBits 8 (r ^^^ s ^^^ (x ^^^ y))) (List.zipWith (· ^^^ ·) a b) = crc (crcBits 8 (r ^^^ x)) a ^^^ crc (crcBits 8 (s ^^^ y)) b
    rw [show r ^^^ s ^^^ (x ^^^ y) = (r ^^^ x) ^^^ (s ^^^ y) from by rw [Nat.xor_assoc, ← Nat.xor_assoc s, Nat.xor_comm s x, Nat.xor_assoc x, ← Nat.xor_assoc], crcBits_xor]
    exact crc_zip a b _ _ (by simpa using h)
/-- The exclusive or of three lists, put in place by place. -/
def mixK (n : Nat) (xs ys zs : List Nat) : Nat → List Nat
  | 0 => List.replicate n 0
  | k + 1 => (mixK n xs ys zs k).set k (xs.getD k 0 ^^^ ys.getD k 0 ^^^ zs.getD k 0)
theorem mixK_len (n : Nat) (xs ys zs : List Nat) (k : Nat) : (mixK n xs ys zs k).length = n := by
  induction k with
  | zero => simp [mixK]
  | succ k ih => rw [mixK, List.length_set, ih]
theorem mixK_bytes (n : Nat) {xs ys zs : List Nat} (hx : ∀ c ∈ xs, c < 256) (hy : ∀ c ∈ ys, c < 256) (hz : ∀ c ∈ zs, c < 256) (k : Nat) : ∀ c ∈ mixK n xs ys zs k, c < 256 := by
  induction k with
  | zero => intro c hc; simp only [mixK, List.mem_replicate] at hc; omega
  | succ k ih =>
    intro c hc
    rcases List.mem_or_eq_of_mem_set hc with h | h
    · exact ih c h
    · rw [h]; exact Nat.xor_lt_two_pow (n := 8) (Nat.xor_lt_two_pow (n := 8) (getD_lt hx _) (getD_lt hy _)) (getD_lt hz _)
theorem mixK_get (n : Nat) (xs ys zs : List Nat) (k i : Nat) (hi : i < n) : (mixK n xs ys zs k).getD i 0 = if i < k then xs.getD i 0 ^^^ ys.getD i 0 ^^^ zs.getD i 0 else 0 := by
  induction k with
  | zero => simp [mixK, List.getD, hi]
  | succ k ih =>
    rw [mixK, List.getD, List.getElem?_set]
    by_cases h : k = i
    · subst h
      rw [if_pos rfl, if_pos (by rw [mixK_len]; exact hi), if_pos (by omega)]; rfl
    · rw [if_neg h]
      have := ih
      rw [List.getD] at this
      rw [this]
      by_cases h2 : i < k
      · rw [if_pos h2, if_pos (by omega)]
      · rw [if_neg h2, if_neg (by omega)]
theorem mixK_all {n : Nat} {xs ys zs : List Nat} (hx : n ≤ xs.length) (hy : n ≤ ys.length) (hz : n ≤ zs.length) :
    mixK n xs ys zs n = List.zipWith (· ^^^ ·) (List.zipWith (· ^^^ ·) (xs.take n) (ys.take n)) (zs.take n) := by
  apply List.ext_getElem
  · simp [mixK_len]; omega
  · intro i h1 h2
    have hi : i < n := by rw [mixK_len] at h1; exact h1
    have g := mixK_get n xs ys zs n i hi
    rw [if_pos hi, List.getD, List.getElem?_eq_getElem h1] at g
    simp only [Option.getD_some] at g
    rw [g]
    simp [List.getD, List.getElem?_eq_getElem (show i < xs.length from by omega), List.getElem?_eq_getElem (show i < ys.length from by omega), List.getElem?_eq_getElem (show i < zs.length from by omega)]
theorem sum_mix {n : Nat} {xs ys zs : List Nat} (hx : n ≤ xs.length) (hy : n ≤ ys.length) (hz : n ≤ zs.length) : sumN (mixK n xs ys zs n) = sumN (xs.take n) ^^^ sumN (ys.take n) ^^^ sumN (zs.take n) := by
  rw [mixK_all hx hy hz]
  unfold sumN
  have e : crc 4294967295 (List.zipWith (· ^^^ ·) (List.zipWith (· ^^^ ·) (xs.take n) (ys.take n)) (zs.take n)) = crc 4294967295 (xs.take n) ^^^ crc 4294967295 (ys.take n) ^^^ crc 4294967295 (zs.take n) := by
    have h1 := crc_zip (List.zipWith (· ^^^ ·) (xs.take n) (ys.take n)) (zs.take n) (4294967295 ^^^ 4294967295) 4294967295 (by simp; omega)
    have h2 := crc_zip (xs.take n) (ys.take n) 4294967295 4294967295 (by simp; omega)
    rw [h2, Nat.xor_self, Nat.zero_xor] at h1
    exact h1
  rw [e]
  generalize crc 4294967295 (xs.take n) = A
  generalize crc 4294967295 (ys.take n) = B
  generalize crc 4294967295 (zs.take n) = C
  generalize (4294967295 : Nat) = F
  have : F ^^^ A ^^^ (F ^^^ B) = A ^^^ B := by
    rw [Nat.xor_comm F A, Nat.xor_assoc, ← Nat.xor_assoc F F, Nat.xor_self, Nat.zero_xor]
  rw [this, ← Nat.xor_assoc F, Nat.xor_comm F (A ^^^ B), Nat.xor_assoc]
theorem sumN_lt {xs : List Nat} (h : ∀ c ∈ xs, c < 256) : sumN xs < 4294967296 := Nat.xor_lt_two_pow (n := 32) (by decide) (crc_lt xs _ (by decide) h)
theorem sum_xor {a b : Nat} (ha : a < 4294967296) (hb : b < 4294967296) : bits BinOp.xor IntKind.u32 (a : Int) (b : Int) = ((a ^^^ b : Nat) : Int) := u32_xor_nat a b ha hb
end Go.Proofs.Ytdbgbaclgdkkjab
