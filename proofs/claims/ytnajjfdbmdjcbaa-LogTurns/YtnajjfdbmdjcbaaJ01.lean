/-
  Contract of Read.
-/
import Derived.WalkKit
import Derived.Laws.BitsAllLaws
import Derived.Laws.BytesArg
import Derived.WideShapes
import Derived.OpenShut
import Derived.ProofKit
import Derived.Lib.SmallJoins
import Derived.Deep.SlicePairs
import Derived.Laws.AppendOwnNone
import Derived.Test.YtnajjfdbmdjcbaaProg
import Derived.WalkSpells
import Derived.WalkLawsBesides
namespace Go.Proofs.Ytnajjfdbmdjcbaa
open Go.RowKit Go.WideShapes

/-- One bit of the cyclic sum. -/
def crcBit (r : Nat) : Nat := if r % 2 = 1 then r / 2 ^^^ 3988292384 else r / 2
def crcBits : Nat → Nat → Nat
  | 0, r => r
  | k + 1, r => crcBit (crcBits k r)
def crc (r : Nat) (xs : List Nat) : Nat := xs.foldl (fun r c => crcBits 8 (r ^^^ c)) r
def sumN (xs : List Nat) : Nat := 4294967295 ^^^ crc 4294967295 xs

theorem crcBit_lt (r : Nat) (h : r < 4294967296) : crcBit r < 4294967296 := by
  unfold crcBit
  split
  · exact Nat.xor_lt_two_pow (n := 32) (by omega) (by omega)
  · omega
theorem crcBits_lt (k r : Nat) (h : r < 4294967296) : crcBits k r < 4294967296 := by
  induction k with
  | zero => exact h
  | succ k ih => exact crcBit_lt _ ih
theorem crc_lt (xs : List Nat) : ∀ r, r < 4294967296 → (∀ c ∈ xs, c < 256) → crc r xs < 4294967296 := by
  induction xs with
  | nil => intro r h _; exact h
  | cons c xs ih =>
    intro r h hx
    have hc := hx c (by simp)
    exact ih _ (crcBits_lt 8 _ (Nat.xor_lt_two_pow (n := 32) (by omega) (by omega))) (fun c hc => hx c (by simp [hc]))
theorem crc_snoc (r : Nat) (xs : List Nat) (c : Nat) : crc r (xs ++ [c]) = crcBits 8 (crc r xs ^^^ c) := by simp [crc, List.foldl_append]
theorem crc_take (r : Nat) (xs : List Nat) (k : Nat) (h : k < xs.length) : crc r (xs.take (k + 1)) = crcBits 8 (crc r (xs.take k) ^^^ xs.getD k 0) := by
  rw [List.take_succ_eq_append_getElem h, crc_snoc]; simp [List.getD, List.getElem?_eq_getElem h]
theorem bit_odd (r : Nat) (h : r < 4294967296) : (bits BinOp.and IntKind.u32 (r : Int) 1 == 1) = decide (r % 2 = 1) := by
  have e : bits BinOp.and IntKind.u32 (r : Int) 1 = ((r % 2 : Nat) : Int) := by
    rw [show (1 : Int) = ((1 : Nat) : Int) from rfl, u32_and_nat r 1 h (by decide), Nat.and_one_is_mod]
  rw [e]
  rcases Nat.mod_two_eq_zero_or_one r with h | h <;> simp [h]
theorem bit_xor (r : Nat) (h : r < 4294967296) : bits BinOp.xor IntKind.u32 (r : Int) 3988292384 = ((r ^^^ 3988292384 : Nat) : Int) := u32_xor_nat r 3988292384 h (by decide)
theorem byte_xor (r c : Nat) (h : r < 4294967296) (hc : c < 256) : bits BinOp.xor IntKind.u32 (r : Int) (c : Int) = ((r ^^^ c : Nat) : Int) := u32_xor_nat r c h (by omega)
theorem sum_not (xs : List Nat) (h : crc 4294967295 xs < 4294967296) : bits BinOp.xor IntKind.u32 IntKind.u32.max (crc 4294967295 xs : Nat) = ((sumN xs : Nat) : Int) := by
  rw [show IntKind.u32.max = ((4294967295 : Nat) : Int) from rfl]
  exact u32_xor_nat 4294967295 _ (by decide) h
theorem getD_lt {xs : List Nat} (h : ∀ c ∈ xs, c < 256) (k : Nat) : xs.getD k 0 < 256 := by
  rcases Nat.lt_or_ge k xs.length with hk | hk
  · rw [List.getD, List.getElem?_eq_getElem hk]; exact h _ (List.getElem_mem hk)
  · simp [List.getD, List.getElem?_eq_none hk]
/-- The string of a list of bytes. -/
def strOf (xs : List Nat) : ByteArray := strOfNums (xs.map fun n : Nat => (n : Int))
theorem strOf_list (xs : List Nat) : (strOf xs).data.toList = xs.map UInt8.ofNat := by
  simp [strOf, strOfNums_data, Function.comp_def]
theorem strOf_size (xs : List Nat) : (strOf xs).size = xs.length := by simp [strOf, strOfNums_size]
theorem map_ofNat_inj : ∀ {xs ys : List Nat}, (∀ c ∈ xs, c < 256) → (∀ c ∈ ys, c < 256) → xs.map UInt8.ofNat = ys.map UInt8.ofNat → xs = ys
  | [], [], _, _, _ => rfl
  | [], _ :: _, _, _, h => by simp at h
  | _ :: _, [], _, _, h => by simp at h
  | x :: xs, y :: ys, hx, hy, h => by
    simp only [List.map_cons, List.cons.injEq] at h
    have h1 := congrArg UInt8.toNat h.1
    have a := hx x (by simp)
    have b := hy y (by simp)
    simp only [UInt8.toNat_ofNat'] at h1
    have e : x = y := by omega
    rw [e, map_ofNat_inj (fun c hc => hx c (by simp [hc])) (fun c hc => hy c (by simp [hc])) h.2]
theorem strOf_eq {xs ys : List Nat} (hx : ∀ c ∈ xs, c < 256) (hy : ∀ c ∈ ys, c < 256) : (strOf xs).data.toList = (strOf ys).data.toList ↔ xs = ys := by
  rw [strOf_list, strOf_list]
  exact ⟨fun h => map_ofNat_inj hx hy h, fun h => by rw [h]⟩

/-- Small bytes of a number. -/
def smallN (n : Nat) : List Nat := if n < 128 then [n] else (n % 128 + 128) :: smallN (n / 128)
termination_by n
decreasing_by omega
theorem smallN_lo {n : Nat} (h : n < 128) : smallN n = [n] := by rw [smallN, if_pos h]
theorem smallN_hi {n : Nat} (h : ¬ n < 128) : smallN n = (n % 128 + 128) :: smallN (n / 128) := by rw [smallN, if_neg h]
theorem smallN_len (k : Nat) : ∀ n, n < 128 ^ (k + 1) → (smallN n).length ≤ k + 1 := by
  induction k with
  | zero => intro n h; rw [smallN_lo (by simpa using h)]; simp
  | succ k ih =>
    intro n h
    by_cases hn : n < 128
    · rw [smallN_lo hn]; simp
    · rw [smallN_hi hn]
      have := ih (n / 128) (by rw [Nat.div_lt_iff_lt_mul (by decide)]; rwa [Nat.pow_succ] at h)
      simp; omega
theorem smallN_ten (n : Nat) (h : n < 18446744073709551616) : (smallN n).length ≤ 10 := smallN_len 9 n (by omega)
theorem smallN_pos (n : Nat) : 0 < (smallN n).length := by rw [smallN]; split <;> simp
theorem smallN_bytes (n : Nat) : ∀ c ∈ smallN n, c < 256 := by
  induction n using Nat.strongRecOn with
  | _ n ih =>
    by_cases hn : n < 128
    · rw [smallN_lo hn]; simp; omega
    · rw [smallN_hi hn]
      intro c hc
      rcases List.mem_cons.1 hc with h | h
      · omega
      · exact ih (n / 128) (by omega) c h
/-- Cells of bytes. -/
def Bs (xs : List Nat) : List Value := xs.map fun n : Nat => Value.int .u8 (n : Int)
theorem Bs_len (xs : List Nat) : (Bs xs).length = xs.length := by simp [Bs]
theorem Bs_app (xs ys : List Nat) : Bs (xs ++ ys) = Bs xs ++ Bs ys := by simp [Bs]
theorem or128 (m : Nat) : bits BinOp.or IntKind.u8 ((m : Int) % 256) 128 = ((m % 128 + 128 : Nat) : Int) := by
  rw [show ((m : Int) % 256) = ((m % 256 : Nat) : Int) from by omega, show (128 : Int) = ((128 : Nat) : Int) from rfl, u8_or_nat (m % 256) 128 (by omega) (by decide)]
  congr 1
  have : ∀ x, x < 256 → x ||| 128 = x % 128 + 128 := by decide +kernel
  rw [this _ (by omega)]; omega

/-- Two numbers of which one has the low bits alone, the other the high ones. -/
theorem or_join (k x y z : Nat) (hx : x < 2 ^ k) (hz : y * 2 ^ k + x < 18446744073709551616) (m : Int) (hm : m = ((y * 2 ^ k : Nat) : Int)) (he : z = y * 2 ^ k + x) : bits BinOp.or IntKind.u64 (x : Int) m = (z : Int) := by
  subst hm he
  rw [u64_or_nat x (y * 2 ^ k) (by omega) (by omega), Nat.or_comm, Nat.mul_comm y, ← Nat.two_pow_add_eq_or_of_lt hx]
/-- Eight bytes as a number, the lowest first; and the bytes of a number. -/
def joinN (a0 a1 a2 a3 a4 a5 a6 a7 : Nat) : Nat := a0 + 256 * (a1 + 256 * (a2 + 256 * (a3 + 256 * (a4 + 256 * (a5 + 256 * (a6 + 256 * a7))))))
def putN (n : Nat) : List Nat := [n % 256, n / 256 % 256, n / 65536 % 256, n / 16777216 % 256, n / 4294967296 % 256, n / 1099511627776 % 256, n / 281474976710656 % 256, n / 72057594037927936]
theorem putN_bytes (n : Nat) (h : n < 18446744073709551616) : ∀ c ∈ putN n, c < 256 := by
  intro c hc
  simp only [putN, List.mem_cons, List.not_mem_nil, or_false] at hc
  rcases hc with h | h | h | h | h | h | h | h <;> omega
theorem join_put (n : Nat) (h : n < 18446744073709551616) : joinN (n % 256) (n / 256 % 256) (n / 65536 % 256) (n / 16777216 % 256) (n / 4294967296 % 256) (n / 1099511627776 % 256) (n / 281474976710656 % 256) (n / 72057594037927936) = n := by
  unfold joinN; omega

/-- Small bytes read, from the place i on, with the number so far. -/
def readAux : Nat → Nat → List Nat → Option (Nat × Nat)
  | _, _, [] => none
  | i, acc, c :: xs => if i = 9 ∧ 1 < c then none else if 128 ≤ c then readAux (i + 1) (c % 128 * 2 ^ (7 * i) + acc) xs else if c = 0 ∧ 0 < i then none else some (c * 2 ^ (7 * i) + acc, i + 1)
def readN (xs : List Nat) : Option (Nat × Nat) := readAux 0 0 xs
theorem and127 (c : Nat) (h : c < 256) : bits BinOp.and IntKind.u8 (c : Int) 127 = ((c % 128 : Nat) : Int) := by
  rw [show (127 : Int) = ((127 : Nat) : Int) from rfl, u8_and_nat c 127 h (by decide)]
  congr 1
  exact Nat.and_two_pow_sub_one_eq_mod c 7
end Go.Proofs.Ytnajjfdbmdjcbaa
namespace Go.Proofs.Ytnajjfdbmdjcbaa

def le4 (n : Nat) : List Nat := [n % 256, n / 256 % 256, n / 65536 % 256, n / 16777216 % 256]
def join4 (a b c d : Nat) : Nat := a + 256 * (b + 256 * (c + 256 * d))
def markL (e s p i n k : Nat) : List Nat := le4 e ++ (le4 s ++ (le4 p ++ [i % 256, n % 256, k % 256, k / 256 % 256]))
def secL (e s p i n : Nat) (x : List Nat) : List Nat := markL e s p i n x.length ++ (x ++ List.replicate (112 - x.length) 0)
def needsN (k : Nat) : Nat := max 1 ((k + 111) / 112)
def pieceL (r : List Nat) (i : Nat) : List Nat := (r.drop (i * 112)).take 112
def framesK (e s p n : Nat) (r : List Nat) (k : Nat) : List Nat := (List.range k).flatMap fun i => secL e s p i n (pieceL r i)
def frameN (e s p : Nat) (r : List Nat) : List Nat := framesK e s p (needsN r.length) r (needsN r.length)
def numAt (b : List Nat) (k : Nat) : Nat := join4 (b.getD k 0) (b.getD (k + 1) 0) (b.getD (k + 2) 0) (b.getD (k + 3) 0)
def sizeOf2 (x : List Nat) : Nat := x.getD 14 0 + 256 * x.getD 15 0
def secAt (b : List Nat) (i : Nat) : List Nat := (b.drop (i * 128)).take 128
def bodyOf (x : List Nat) : List Nat := (x.drop 16).take (sizeOf2 x)
def decK (b : List Nat) (k : Nat) : List Nat := (List.range k).flatMap fun i => bodyOf (secAt b i)
/-- b begins with the sectors of the record r, whose salt is s. -/
structure IsRec (e p : Nat) (b : List Nat) (s : Nat) (r : List Nat) : Prop where
  salt0 : s ≠ 0
  salt : s < 4294967296
  len : r.length ≤ 4096
  byte : ∀ c ∈ r, c < 256
  pre : b.take (needsN r.length * 128) = frameN e s p r
/-- A sector that may be the number i of n. -/
structure OkSec (e s p i n : Nat) (x : List Nat) : Prop where
  he : numAt x 0 = e
  hs : numAt x 4 = s
  hp : numAt x 8 = p
  hi : x.getD 12 0 = i
  hn : x.getD 13 0 = n
  full : i + 1 < n → 112 ≤ sizeOf2 x
  some : 0 < i → sizeOf2 x ≠ 0
  le : sizeOf2 x ≤ 112
  rest : ∀ c ∈ x.drop (16 + sizeOf2 x), c = 0

theorem le4_len (n : Nat) : (le4 n).length = 4 := rfl
theorem le4_byte (n : Nat) : ∀ c ∈ le4 n, c < 256 := by
  intro c hc
  simp only [le4, List.mem_cons, List.not_mem_nil, or_false] at hc
  omega
theorem le4_put (n : Nat) (_h : n < 4294967296) : (putN n).take 4 = le4 n := rfl
theorem join_le4 (n : Nat) (h : n < 4294967296) : join4 (n % 256) (n / 256 % 256) (n / 65536 % 256) (n / 16777216 % 256) = n := by unfold join4; omega
theorem le4_join {a b c d : Nat} (ha : a < 256) (hb : b < 256) (hc : c < 256) (hd : d < 256) : le4 (join4 a b c d) = [a, b, c, d] := by
  unfold le4 join4
  simp only [List.cons.injEq, and_true]
  omega
theorem join4_lt {a b c d : Nat} (ha : a < 256) (hb : b < 256) (hc : c < 256) (hd : d < 256) : join4 a b c d < 4294967296 := by unfold join4; omega
theorem numAt_lt {b : List Nat} (h : ∀ c ∈ b, c < 256) (k : Nat) : numAt b k < 4294967296 := join4_lt (getD_lt h _) (getD_lt h _) (getD_lt h _) (getD_lt h _)
theorem markL_len (e s p i n k : Nat) : (markL e s p i n k).length = 16 := rfl
theorem markL_byte (e s p i n k : Nat) : ∀ c ∈ markL e s p i n k, c < 256 := by
  intro c hc
  simp only [markL, le4, List.mem_append, List.mem_cons, List.not_mem_nil, or_false] at hc
  omega
theorem secL_len {e s p i n : Nat} {x : List Nat} (h : x.length ≤ 112) : (secL e s p i n x).length = 128 := by
  unfold secL; simp only [List.length_append, markL_len, List.length_replicate]; omega
theorem secL_byte {e s p i n : Nat} {x : List Nat} (h : ∀ c ∈ x, c < 256) : ∀ c ∈ secL e s p i n x, c < 256 := by
  intro c hc
  rcases List.mem_append.1 hc with h1 | h1
  · exact markL_byte _ _ _ _ _ _ c h1
  · rcases List.mem_append.1 h1 with h1 | h1
    · exact h c h1
    · have := (List.mem_replicate.1 h1).2; omega
theorem pieceL_len (r : List Nat) (i : Nat) : (pieceL r i).length = min 112 (r.length - i * 112) := by simp [pieceL]
theorem pieceL_le (r : List Nat) (i : Nat) : (pieceL r i).length ≤ 112 := by rw [pieceL_len]; omega
theorem pieceL_byte {r : List Nat} (h : ∀ c ∈ r, c < 256) (i : Nat) : ∀ c ∈ pieceL r i, c < 256 := fun c hc => h c (List.mem_of_mem_drop (List.mem_of_mem_take hc))
theorem framesK_snoc (e s p n : Nat) (r : List Nat) (k : Nat) : framesK e s p n r (k + 1) = framesK e s p n r k ++ secL e s p k n (pieceL r k) := by
  unfold framesK; rw [List.range_succ, List.flatMap_append]; simp
theorem framesK_len (e s p n : Nat) (r : List Nat) (k : Nat) : (framesK e s p n r k).length = k * 128 := by
  induction k with
  | zero => rfl
  | succ k ih => rw [framesK_snoc, List.length_append, ih, secL_len (pieceL_le r k)]; omega
theorem framesK_byte {e s p n : Nat} {r : List Nat} (h : ∀ c ∈ r, c < 256) (k : Nat) : ∀ c ∈ framesK e s p n r k, c < 256 := by
  intro c hc
  obtain ⟨i, _, hi⟩ := List.mem_flatMap.1 hc
  exact secL_byte (pieceL_byte h i) c hi
theorem frameN_len (e s p : Nat) (r : List Nat) : (frameN e s p r).length = needsN r.length * 128 := framesK_len _ _ _ _ _ _
theorem frameN_byte {e s p : Nat} {r : List Nat} (h : ∀ c ∈ r, c < 256) : ∀ c ∈ frameN e s p r, c < 256 := framesK_byte h _
theorem needsN_pos (k : Nat) : 0 < needsN k := by unfold needsN; omega
theorem needsN_le {k : Nat} (h : k ≤ 4096) : needsN k ≤ 37 := by unfold needsN; omega
theorem decK_snoc (b : List Nat) (k : Nat) : decK b (k + 1) = decK b k ++ bodyOf (secAt b k) := by
  unfold decK; rw [List.range_succ, List.flatMap_append]; simp
theorem secAt_len {b : List Nat} {i : Nat} (h : (i + 1) * 128 ≤ b.length) : (secAt b i).length = 128 := by simp [secAt]; omega
theorem secAt_byte {b : List Nat} (h : ∀ c ∈ b, c < 256) (i : Nat) : ∀ c ∈ secAt b i, c < 256 := fun c hc => h c (List.mem_of_mem_drop (List.mem_of_mem_take hc))
theorem bodyOf_byte {x : List Nat} (h : ∀ c ∈ x, c < 256) : ∀ c ∈ bodyOf x, c < 256 := fun c hc => h c (List.mem_of_mem_drop (List.mem_of_mem_take hc))
theorem decK_byte {b : List Nat} (h : ∀ c ∈ b, c < 256) (k : Nat) : ∀ c ∈ decK b k, c < 256 := by
  intro c hc
  obtain ⟨i, _, hi⟩ := List.mem_flatMap.1 hc
  exact bodyOf_byte (secAt_byte h i) c hi
theorem take_secs {b : List Nat} (k : Nat) (h : k * 128 ≤ b.length) : b.take (k * 128) = (List.range k).flatMap (secAt b) := by
  induction k with
  | zero => simp
  | succ k ih =>
    rw [List.range_succ, List.flatMap_append, ← ih (by omega), Nat.succ_mul, List.take_add]
    simp [secAt]
theorem secAt_take {b : List Nat} {m i : Nat} (h : i < m) : secAt (b.take (m * 128)) i = secAt b i := by
  unfold secAt
  rw [List.drop_take, List.take_take]
  congr 1
  have : (m - i) * 128 = m * 128 - i * 128 := Nat.sub_mul _ _ _
  omega
theorem secAt_frames {e s p n : Nat} {r : List Nat} (k i : Nat) (h : i < k) : secAt (framesK e s p n r k) i = secL e s p i n (pieceL r i) := by
  induction k with
  | zero => omega
  | succ k ih =>
    rw [framesK_snoc]
    by_cases hi : i = k
    · subst hi
      unfold secAt
      rw [List.drop_append_of_le_length (by rw [framesK_len]; omega), List.drop_eq_nil_of_le (by rw [framesK_len]; omega), List.nil_append, List.take_of_length_le (by rw [secL_len (pieceL_le r i)]; omega)]
    · have := ih (by omega)
      unfold secAt at this ⊢
      rw [List.drop_append_of_le_length (by rw [framesK_len]; omega), List.take_append_of_le_length (by rw [List.length_drop, framesK_len]; omega)]
      exact this
/-! ### One sector -/
theorem sec_at {e s p i n : Nat} {x : List Nat} (he : e < 4294967296) (hs : s < 4294967296) (hp : p < 4294967296) (hi : i < 256) (hn : n < 256) (hx : x.length ≤ 112) :
    numAt (secL e s p i n x) 0 = e ∧ numAt (secL e s p i n x) 4 = s ∧ numAt (secL e s p i n x) 8 = p ∧ (secL e s p i n x).getD 12 0 = i ∧ (secL e s p i n x).getD 13 0 = n ∧ sizeOf2 (secL e s p i n x) = x.length ∧ bodyOf (secL e s p i n x) = x ∧ (secL e s p i n x).drop (16 + sizeOf2 (secL e s p i n x)) = List.replicate (112 - x.length) 0 := by
  have h6 : sizeOf2 (secL e s p i n x) = x.length := by
    show x.length % 256 + 256 * (x.length / 256 % 256) = x.length
    omega
  have d16 : (secL e s p i n x).drop 16 = x ++ List.replicate (112 - x.length) 0 := by
    unfold secL
    rw [List.drop_append_of_le_length (by rw [markL_len]; omega), List.drop_eq_nil_of_le (by rw [markL_len]; omega), List.nil_append]
  refine ⟨join_le4 e he, join_le4 s hs, join_le4 p hp, ?_, ?_, h6, ?_, ?_⟩
  · show i % 256 = i; omega
  · show n % 256 = n; omega
  · unfold bodyOf
    rw [h6, d16, List.take_left']
    rfl
  · rw [h6, ← List.drop_drop, d16, List.drop_left']
    rfl
theorem sixteen {x : List Nat} (h : 16 ≤ x.length) : ∃ a0 a1 a2 a3 a4 a5 a6 a7 a8 a9 b0 b1 b2 b3 b4 b5 t, x = a0 :: a1 :: a2 :: a3 :: a4 :: a5 :: a6 :: a7 :: a8 :: a9 :: b0 :: b1 :: b2 :: b3 :: b4 :: b5 :: t := by
  match x, h with
  | a0 :: a1 :: a2 :: a3 :: a4 :: a5 :: a6 :: a7 :: a8 :: a9 :: b0 :: b1 :: b2 :: b3 :: b4 :: b5 :: t, _ => exact ⟨a0, a1, a2, a3, a4, a5, a6, a7, a8, a9, b0, b1, b2, b3, b4, b5, t, rfl⟩
theorem sec_of {e s p i n : Nat} {x : List Nat} (h : OkSec e s p i n x) (hx : x.length = 128) (hb : ∀ c ∈ x, c < 256) : x = secL e s p i n (bodyOf x) ∧ (bodyOf x).length = sizeOf2 x := by
  have hl : (bodyOf x).length = sizeOf2 x := by have := h.le; simp [bodyOf]; omega
  refine ⟨?_, hl⟩
  have hz : x.drop (16 + sizeOf2 x) = List.replicate (112 - sizeOf2 x) 0 := by
    rw [List.eq_replicate_iff]
    exact ⟨by rw [List.length_drop, hx]; omega, h.rest⟩
  have hd : x.drop 16 = bodyOf x ++ List.replicate (112 - (bodyOf x).length) 0 := by
    rw [hl, ← hz, ← List.drop_drop]
    exact (List.take_append_drop (sizeOf2 x) (x.drop 16)).symm
  unfold secL
  rw [← hd, hl]
  have h1 := h.he; have h2 := h.hs; have h3 := h.hp; have h4 := h.hi; have h5 := h.hn; have hle := h.le
  obtain ⟨a0, a1, a2, a3, a4, a5, a6, a7, a8, a9, b0, b1, b2, b3, b4, b5, t, rfl⟩ := sixteen (x := x) (by omega)
  have e1 : join4 a0 a1 a2 a3 = e := h1
  have e2 : join4 a4 a5 a6 a7 = s := h2
  have e3 : join4 a8 a9 b0 b1 = p := h3
  have e4 : b2 = i := h4
  have e5 : b3 = n := h5
  have e6 : sizeOf2 (a0 :: a1 :: a2 :: a3 :: a4 :: a5 :: a6 :: a7 :: a8 :: a9 :: b0 :: b1 :: b2 :: b3 :: b4 :: b5 :: t) = b4 + 256 * b5 := rfl
  rw [e6] at hle ⊢
  have hB : ∀ c ∈ [a0, a1, a2, a3, a4, a5, a6, a7, a8, a9, b0, b1, b2, b3, b4, b5], c < 256 := fun c hc => hb c (List.mem_append_left t hc)
  simp only [List.forall_mem_cons, List.not_mem_nil, false_implies, implies_true, and_true] at hB
  obtain ⟨q0, q1, q2, q3, q4, q5, q6, q7, q8, q9, r0, r1, r2, r3, r4, r5⟩ := hB
  unfold markL
  rw [← e1, ← e2, ← e3, le4_join q0 q1 q2 q3, le4_join q4 q5 q6 q7, le4_join q8 q9 r0 r1]
  simp only [List.cons_append, List.nil_append, List.drop_succ_cons, List.drop_zero, List.cons.injEq, and_true, true_and]
  omega
/-! ### The whole -/
theorem rec_secs {e p s : Nat} {b r : List Nat} (h : IsRec e p b s r) {i : Nat} (hi : i < needsN r.length) : secAt b i = secL e s p i (needsN r.length) (pieceL r i) := by
  rw [← secAt_frames (e := e) (s := s) (p := p) (n := needsN r.length) (r := r) (needsN r.length) i hi, ← secAt_take (b := b) hi, h.pre]
  rfl
theorem rec_len {e p s : Nat} {b r : List Nat} (h : IsRec e p b s r) : needsN r.length * 128 ≤ b.length := by
  have := congrArg List.length h.pre
  rw [frameN_len, List.length_take] at this
  omega
theorem pieces_all (r : List Nat) : ∀ k, (List.range k).flatMap (pieceL r) = r.take (k * 112) := by
  intro k
  induction k with
  | zero => simp
  | succ k ih => rw [List.range_succ, List.flatMap_append, ih, Nat.succ_mul, List.take_add]; simp [pieceL]
theorem needsN_ge (k : Nat) : k ≤ needsN k * 112 := by unfold needsN; omega
theorem needsN_of {k n : Nat} (hn : 0 < n) (h1 : k ≤ n * 112) (h2 : n = 1 ∨ (n - 1) * 112 < k) : needsN k = n := by unfold needsN; omega
theorem getD_sec (b : List Nat) (k : Nat) (hk : k < 128) : (secAt b 0).getD k 0 = b.getD k 0 := by
  simp [secAt, List.getD, hk]
theorem rec_dec {e p s : Nat} {b r : List Nat} (he : e < 4294967296) (hp : p < 4294967296) (h : IsRec e p b s r) :
    numAt b 4 = s ∧ b.getD 13 0 = needsN r.length ∧ decK b (needsN r.length) = r ∧ ∀ i, i < needsN r.length → OkSec e s p i (needsN r.length) (secAt b i) := by
  have hn := needsN_le h.len
  have hp0 := needsN_pos r.length
  have key : ∀ i, i < needsN r.length → OkSec e s p i (needsN r.length) (secAt b i) ∧ bodyOf (secAt b i) = pieceL r i := by
    intro i hi
    rw [rec_secs h hi]
    obtain ⟨h1, h2, h3, h4, h5, h6, h7, h8⟩ := sec_at (x := pieceL r i) he h.salt hp (show i < 256 by omega) (show needsN r.length < 256 by omega) (pieceL_le r i)
    have hl := pieceL_len r i
    refine ⟨⟨h1, h2, h3, h4, h5, fun hf => ?_, fun hf => ?_, ?_, fun c hc => ?_⟩, h7⟩
    · rw [h6, hl]; unfold needsN at hf; omega
    · rw [h6, hl]; unfold needsN at hi; omega
    · rw [h6]; exact pieceL_le r i
    · rw [h8] at hc; exact (List.mem_replicate.1 hc).2
  obtain ⟨k0, _⟩ := key 0 hp0
  refine ⟨?_, ?_, ?_, fun i hi => (key i hi).1⟩
  · have := k0.hs
    unfold numAt at this ⊢
    rwa [getD_sec b 4 (by omega), getD_sec b 5 (by omega), getD_sec b 6 (by omega), getD_sec b 7 (by omega)] at this
  · rw [← getD_sec b 13 (by omega)]; exact k0.hn
  · have : decK b (needsN r.length) = (List.range (needsN r.length)).flatMap (pieceL r) := by
      unfold decK
      rw [List.flatMap_def, List.flatMap_def]
      congr 1
      apply List.map_congr_left
      intro i hi
      exact (key i (List.mem_range.1 hi)).2
    rw [this, pieces_all, List.take_of_length_le (needsN_ge _)]
theorem rec_only {e p s s' : Nat} {b r r' : List Nat} (he : e < 4294967296) (hp : p < 4294967296) (h : IsRec e p b s r) (h' : IsRec e p b s' r') : s = s' ∧ r = r' := by
  obtain ⟨a1, a2, a3, _⟩ := rec_dec he hp h
  obtain ⟨b1, b2, b3, _⟩ := rec_dec he hp h'
  refine ⟨a1.symm.trans b1, ?_⟩
  rw [← a3, ← b3, ← a2, ← b2]
theorem dec_full {e s p n : Nat} {b : List Nat} (hb : ∀ c ∈ b, c < 256) (hl : n * 128 ≤ b.length) (h : ∀ i, i < n → OkSec e s p i n (secAt b i)) : ∀ k, k + 1 ≤ n → (decK b k).length = k * 112 ∧ ∀ i, i < k → pieceL (decK b k) i = bodyOf (secAt b i) := by
  intro k
  induction k with
  | zero => intro _; exact ⟨rfl, fun i hi => by omega⟩
  | succ k ih =>
    intro hk
    obtain ⟨l1, l2⟩ := ih (by omega)
    have hs : (bodyOf (secAt b k)).length = 112 := by
      have := h k (by omega)
      rw [(sec_of this (secAt_len (by omega)) (secAt_byte hb k)).2]
      have h1 := this.full (by omega)
      have h2 := this.le
      omega
    rw [decK_snoc]
    refine ⟨by rw [List.length_append, l1, hs]; omega, fun i hi => ?_⟩
    by_cases hik : i = k
    · subst hik
      unfold pieceL
      rw [List.drop_append_of_le_length (by rw [l1]; omega), List.drop_eq_nil_of_le (by rw [l1]; omega), List.nil_append, List.take_of_length_le (by rw [hs]; omega)]
    · rw [← l2 i (by omega)]
      unfold pieceL
      rw [List.drop_append_of_le_length (by rw [l1]; omega), List.take_append_of_le_length (by rw [List.length_drop, l1]; omega)]
theorem rec_of {e s p n : Nat} {b : List Nat} (hb : ∀ c ∈ b, c < 256) (hn : 0 < n) (hs0 : s ≠ 0) (hs : s < 4294967296) (hl : n * 128 ≤ b.length) (h : ∀ i, i < n → OkSec e s p i n (secAt b i)) (hr : (decK b n).length ≤ 4096) : IsRec e p b s (decK b n) := by
  obtain ⟨m, rfl⟩ : ∃ m, n = m + 1 := ⟨n - 1, by omega⟩
  obtain ⟨l1, l2⟩ := dec_full hb hl h m (Nat.le_refl _)
  have hm := h m (by omega)
  obtain ⟨x1, x2⟩ := sec_of hm (secAt_len (by omega)) (secAt_byte hb m)
  have hle := hm.le
  have hlen : (decK b (m + 1)).length = m * 112 + sizeOf2 (secAt b m) := by rw [decK_snoc, List.length_append, l1, x2]
  have hneed : needsN (decK b (m + 1)).length = m + 1 := by
    refine needsN_of (by omega) (by rw [hlen]; omega) ?_
    by_cases h0 : m = 0
    · exact .inl (by omega)
    · have := hm.some (by omega)
      exact .inr (by rw [hlen]; omega)
  refine ⟨hs0, hs, hr, decK_byte hb _, ?_⟩
  unfold frameN framesK
  rw [hneed, take_secs _ hl, List.flatMap_def, List.flatMap_def]
  congr 1
  apply List.map_congr_left
  intro i hi
  have hi' : i < m + 1 := List.mem_range.1 hi
  rw [(sec_of (h i hi') (secAt_len (by omega)) (secAt_byte hb i)).1]
  congr 1
  rw [decK_snoc]
  by_cases hik : i = m
  · subst hik
    unfold pieceL
    rw [List.drop_append_of_le_length (by rw [l1]; omega), List.drop_eq_nil_of_le (by rw [l1]; omega), List.nil_append, List.take_of_length_le (by rw [x2]; exact hle)]
  · rw [← l2 i (by omega)]
    unfold pieceL
    rw [List.drop_append_of_le_length (by rw [l1]; omega), List.take_append_of_le_length (by rw [List.length_drop, l1]; omega)]
end Go.Proofs.Ytnajjfdbmdjcbaa
namespace Go.Proofs.Ytnajjfdbmdjcbaa
open Go.RowKit Go.WideShapes Go.ChangeShapes Go.Deep Go.Joins

/-- A []byte of the numbers xs: where it has a byte, at an address with its cells. -/
def BIn (w : World) (p : Option Addr) (xs : List Nat) : Prop :=
  (0 < xs.length → ∃ b o, p = some ⟨b, o, none⟩ ∧ ∀ i, i < xs.length → w.cell? ⟨b, o + i, none⟩ = some (.int .u8 (xs.getD i 0 : Nat))) ∧ ∀ c ∈ xs, c < 256
/-- A []byte value: its address, how long, its room. -/
structure Row (w : World) (v : Value) (xs : List Nat) : Prop where
  lies : ∃ p c, v = .slice p xs.length c ∧ BIn w p xs ∧ xs.length ≤ c ∧ c ≤ maxLen ∧ (p = none → c = 0)
/-- A []Put: sectors that are written, each with its bytes. -/
def PutsIn (w : World) (q : Option Addr) (ws : List (Int × List Nat)) : Prop :=
  0 < ws.length → ∃ b o, q = some ⟨b, o, none⟩ ∧ ∀ i, i < ws.length → w.cell? ⟨b, o + i * 2, none⟩ = some (.int .i64 (ws.getD i (0, [])).1) ∧ ∃ v, w.cell? ⟨b, o + (i * 2 + 1), none⟩ = some v ∧ Row w v (ws.getD i (0, [])).2

section
variable {P : Program} {w : World} {H : Type} {enc : TypeId × Value → H}

theorem open_bytes {t e : TypeId} {n : Nat} {v : Value} {x : DataW H × List MemPlace} (ht : P.underlying t = some (.slice e)) (he : P.underlying e = some (.int .u8)) (hc : P.cellsOf e = 1)
    (h : DataW.trod enc P w 0 (fun _ => true) true n t [v] = some x) : ∃ xs, Row w v xs := by
  rcases open_ints ht he hc h with ⟨hcs, _⟩ | ⟨a, len, cap, zs, hcs, _, hl, hm, hz, _, hcell, hwz⟩
  · simp only [List.cons.injEq, and_true] at hcs
    exact ⟨[], ⟨none, 0, hcs, ⟨fun h => absurd h (by simp), by simp⟩, by simp, by unfold maxLen; omega, fun _ => rfl⟩⟩
  · simp only [List.cons.injEq, and_true] at hcs
    have hz' : zs.length = cap := by simpa using hz
    have hb : ∀ n ∈ zs, 0 ≤ n ∧ n ≤ 255 := fun n hn => bounds_u8 (hwz n hn)
    have hlen : ((zs.take len).map Int.toNat).length = len := by simp; omega
    refine ⟨(zs.take len).map Int.toNat, ⟨some a, cap, by rw [hlen]; exact hcs, ⟨fun hp => ?_, ?_⟩, by rw [hlen]; exact hl, hm, by simp⟩⟩
    · rw [hlen] at hp
      obtain ⟨b, o, s⟩ := a
      obtain rfl : s = none := by simpa [Addr.add] using World.cell?_spot (hcell 0 (by omega))
      refine ⟨b, o, rfl, fun i hi => ?_⟩
      rw [hlen] at hi
      rw [← add_plain, hcell i (by omega)]
      have hi' : i < zs.length := by omega
      have := hb _ (List.getElem_mem hi')
      simp [List.getD, List.getElem?_map, hi, List.getElem?_eq_getElem hi', Int.toNat_of_nonneg this.1]
    · intro c hc
      simp only [List.mem_map] at hc
      obtain ⟨n, hn, rfl⟩ := hc
      have := hb n (List.mem_of_mem_take hn)
      omega

theorem open_puts {t e tb eb : TypeId} {f0 f1 : Field} {n : Nat} {v : Value} {x : DataW H × List MemPlace} (ht : P.underlying t = some (.slice e)) (he : P.underlying e = some (.struct #[f0, f1])) (ce : P.cellsOf e = 2) (o0 : f0.offset = 0) (o1 : f1.offset = 1)
    (c0 : P.cellsOf f0.type = 1) (c1 : P.cellsOf f1.type = 1) (k0 : P.underlying f0.type = some (.int .i64)) (k1 : f1.type = tb) (hb : P.underlying tb = some (.slice eb)) (heb : P.underlying eb = some (.int .u8)) (hceb : P.cellsOf eb = 1)
    (h : DataW.trod enc P w 0 (fun _ => true) true n t [v] = some x) :
    ∃ q ws c, v = .slice q (List.length (α := Int × List Nat) ws) c ∧ PutsIn w q ws ∧ ws.length ≤ c ∧ c ≤ maxLen ∧ (q = none → c = 0) ∧ ∀ y ∈ ws, (Lit.int .i64 y.1).wf = true := by
  subst k1
  rcases open_slice_pairs ht he ce o0 o1 c0 c1 h with ⟨hcs, _⟩ | ⟨a, len, cap, m, k, V0, V1, D0, D1, P0, P1, hcs, _, hl, hm, hmm, _, hel⟩
  · simp only [List.cons.injEq, and_true] at hcs
    exact ⟨none, [], 0, hcs, fun h => absurd h (by simp), by simp, by unfold maxLen; omega, fun _ => rfl, by simp⟩
  · simp only [List.cons.injEq, and_true] at hcs
    have hmc : m = cap := by simpa using hmm
    have each : ∀ i, i < len → ∃ y : Int × List Nat, V0 i = .int .i64 y.1 ∧ (Lit.int .i64 y.1).wf = true ∧ Row w (V1 i) y.2 := by
      intro i hi
      obtain ⟨_, _, t0, t1⟩ := hel i (by omega)
      obtain ⟨z, hz, _, wz⟩ := DataW.trod_int k0 t0
      obtain ⟨xs, hx⟩ := open_bytes hb heb hceb t1
      simp only [List.cons.injEq, and_true] at hz
      exact ⟨(z, xs), hz, wz, hx⟩
    obtain ⟨f, hf⟩ := choose_lt each
    have hlen : ((List.range len).map f).length = len := by simp
    have hget : ∀ i, i < len → ((List.range len).map f).getD i (0, []) = f i := by intro i hi; simp [List.getD, hi]
    refine ⟨some a, (List.range len).map f, cap, by rw [hlen]; exact hcs, fun hp => ?_, by rw [hlen]; exact hl, hm, by simp, ?_⟩
    · rw [hlen] at hp
      obtain ⟨b, o, s⟩ := a
      obtain rfl : s = none := by
        have := World.cell?_spot (hel 0 (by omega)).1
        simpa [Addr.add] using this
      refine ⟨b, o, rfl, fun i hi => ?_⟩
      rw [hlen] at hi
      obtain ⟨e0, e1, _, _⟩ := hel i (by omega)
      obtain ⟨g0, _, g2⟩ := hf i hi
      rw [hget i hi]
      rw [add_plain] at e0 e1
      exact ⟨by rw [e0, g0], V1 i, e1, g2⟩
    · intro y hy
      simp only [List.mem_map, List.mem_range] at hy
      obtain ⟨i, hi, rfl⟩ := hy
      exact (hf i hi).2.1

/-- A disk by value: its count, its bytes, the writes that wait. -/
structure DiskIn (w : World) (v : Value) (count : Int) (data : List Nat) (ws : List (Int × List Nat)) : Prop where
  lies : ∃ dv q c, v = .agg #[.int .i64 count, dv, .slice q ws.length c] ∧ Row w dv data ∧ PutsIn w q ws ∧ ws.length ≤ c ∧ c ≤ maxLen ∧ (q = none → c = 0)
  count_wf : (Lit.int .i64 count).wf = true
  puts_wf : ∀ y ∈ ws, (Lit.int .i64 y.1).wf = true

theorem open_disk {tD t e tb eb : TypeId} {d0 d1 d2 f0 f1 : Field} {r : Reach} {b0 : Nat} {v : Value} {d : DataW H} {p : List MemPlace}
    (hD : P.underlying tD = some (.struct #[d0, d1, d2])) (hone : oneCellFields P #[d0, d1, d2] = true) (hC : P.cellsOf tD = 3)
    (kd0 : P.underlying d0.type = some (.int .i64)) (kd1 : d1.type = tb) (kd2 : d2.type = t)
    (ht : P.underlying t = some (.slice e)) (he : P.underlying e = some (.struct #[f0, f1])) (ce : P.cellsOf e = 2) (o0 : f0.offset = 0) (o1 : f1.offset = 1)
    (c0 : P.cellsOf f0.type = 1) (c1 : P.cellsOf f1.type = 1) (k0 : P.underlying f0.type = some (.int .i64)) (k1 : f1.type = tb) (hb : P.underlying tb = some (.slice eb)) (heb : P.underlying eb = some (.int .u8)) (hceb : P.cellsOf eb = 1)
    (hv : Value.okWide P w r b0 tD v) (h : DataW.Trod enc P w 0 (fun _ => true) true tD v d p) : ∃ count data ws, DiskIn w v count data ws := by
  obtain ⟨v0, v1, v2, y0, y1, y2, n, rfl, _, _, h0, h1, h2⟩ := open_agg3 hD hone hC hv h
  obtain ⟨z, hz, _, wz⟩ := DataW.trod_int kd0 h0
  simp only [List.cons.injEq, and_true] at hz
  subst hz
  rw [kd1] at h1
  rw [kd2] at h2
  obtain ⟨xs, hx⟩ := open_bytes hb heb hceb h1
  obtain ⟨q, ws, c, rfl, g1, g2, g3, g4, g5⟩ := open_puts ht he ce o0 o1 c0 c1 k0 k1 hb heb hceb h2
  exact ⟨z, xs, ws, ⟨v1, q, c, rfl, hx, g1, g2, g3, g4⟩, wz, g5⟩

/-- A []bool. -/
def BoolsIn (w : World) (p : Option Addr) (bs : List Bool) : Prop :=
  0 < bs.length → ∃ b o, p = some ⟨b, o, none⟩ ∧ ∀ i, i < bs.length → w.cell? ⟨b, o + i, none⟩ = some (.bool (bs.getD i false))
theorem open_bools {t e : TypeId} {n : Nat} {v : Value} {x : DataW H × List MemPlace} (ht : P.underlying t = some (.slice e)) (he : P.underlying e = some .bool) (hc : P.cellsOf e = 1)
    (h : DataW.trod enc P w 0 (fun _ => true) true n t [v] = some x) : ∃ p bs c, v = .slice p (List.length (α := Bool) bs) c ∧ BoolsIn w p bs ∧ bs.length ≤ c ∧ c ≤ maxLen ∧ (p = none → c = 0) := by
  rcases open_slice1 ht hc h with ⟨hcs, _⟩ | ⟨a, len, cap, m, k, V, D, Pl, hcs, _, hl, hm, hmm, _, hel⟩
  · simp only [List.cons.injEq, and_true] at hcs
    exact ⟨none, [], 0, hcs, fun h => absurd h (by simp), by simp, by unfold maxLen; omega, fun _ => rfl⟩
  · simp only [List.cons.injEq, and_true] at hcs
    have hmc : m = cap := by simpa using hmm
    have each : ∀ i, i < len → ∃ y : Bool, V i = .bool y := by
      intro i hi
      obtain ⟨_, t0⟩ := hel i (by omega)
      obtain ⟨z, hz, _⟩ := DataW.trod_bool he t0
      simp only [List.cons.injEq, and_true] at hz
      exact ⟨z, hz⟩
    obtain ⟨f, hf⟩ := choose_lt each
    have hlen : ((List.range len).map f).length = len := by simp
    refine ⟨some a, (List.range len).map f, cap, by rw [hlen]; exact hcs, fun hp => ?_, by rw [hlen]; exact hl, hm, by simp⟩
    rw [hlen] at hp
    obtain ⟨b, o, s⟩ := a
    obtain rfl : s = none := by simpa [Addr.add] using World.cell?_spot (hel 0 (by omega)).1
    refine ⟨b, o, rfl, fun i hi => ?_⟩
    rw [hlen] at hi
    have e0 := (hel i (by omega)).1
    rw [add_plain] at e0
    rw [e0, hf i hi]
    simp [List.getD, hi]

/-- A []Act: three cells each: whether it flushes, its sector, its bytes. -/
def ActsIn (w : World) (q : Option Addr) (l : List (Bool × Int × List Nat)) : Prop :=
  0 < l.length → ∃ b o, q = some ⟨b, o, none⟩ ∧ ∀ i, i < l.length → w.cell? ⟨b, o + i * 3, none⟩ = some (.bool (l.getD i (false, 0, [])).1) ∧ w.cell? ⟨b, o + (i * 3 + 1), none⟩ = some (.int .i64 (l.getD i (false, 0, [])).2.1) ∧
    ∃ v, w.cell? ⟨b, o + (i * 3 + 2), none⟩ = some v ∧ Row w v (l.getD i (false, 0, [])).2.2
theorem open_acts {t e ep tb eb : TypeId} {a0 a1 f0 f1 : Field} {n : Nat} {v : Value} {x : DataW H × List MemPlace} (ht : P.underlying t = some (.slice e)) (he : P.underlying e = some (.struct #[a0, a1])) (ce : P.cellsOf e = 3) (oa0 : a0.offset = 0) (oa1 : a1.offset = 1)
    (ca0 : P.cellsOf a0.type = 1) (ka0 : P.underlying a0.type = some .bool) (ka1 : a1.type = ep) (hep : P.underlying ep = some (.struct #[f0, f1])) (cep : P.cellsOf ep = 2) (o0 : f0.offset = 0) (o1 : f1.offset = 1)
    (c0 : P.cellsOf f0.type = 1) (c1 : P.cellsOf f1.type = 1) (k0 : P.underlying f0.type = some (.int .i64)) (k1 : f1.type = tb) (hb : P.underlying tb = some (.slice eb)) (heb : P.underlying eb = some (.int .u8)) (hceb : P.cellsOf eb = 1)
    (h : DataW.trod enc P w 0 (fun _ => true) true n t [v] = some x) :
    ∃ q l c, v = .slice q (List.length (α := Bool × Int × List Nat) l) c ∧ ActsIn w q l ∧ l.length ≤ c ∧ c ≤ maxLen ∧ (q = none → c = 0) ∧ ∀ y ∈ l, (Lit.int .i64 y.2.1).wf = true := by
  subst ka1 k1
  rcases open_slice ht h with ⟨hcs, _⟩ | ⟨a, len, cap, m, k, D, Pl, hcs, _, hl, hm, hmm, _, hel⟩
  · simp only [List.cons.injEq, and_true] at hcs
    exact ⟨none, [], 0, hcs, fun h => absurd h (by simp), by simp, by unfold maxLen; omega, fun _ => rfl, by simp⟩
  · simp only [List.cons.injEq, and_true] at hcs
    have hmc : m = cap := by simpa using hmm
    have each : ∀ i, i < len → ∃ y : Bool × Int × List Nat, w.cell? (a.add (i * 3)) = some (.bool y.1) ∧ w.cell? (a.add (i * 3 + 1)) = some (.int .i64 y.2.1) ∧ (Lit.int .i64 y.2.1).wf = true ∧ ∃ v, w.cell? (a.add (i * 3 + 2)) = some v ∧ Row w v y.2.2 := by
      intro i hi
      obtain ⟨cs', h1, h2⟩ := hel i (by omega)
      rw [ce] at h1
      obtain ⟨_, hlen, hcell⟩ := World.cells?_some h1
      obtain ⟨y0, y1, n1, _, _, g0, g1⟩ := trod_struct2 he h2
      match cs', hlen with
      | [v0, v1, v2], _ =>
        simp only [oa0, oa1, ca0, cep, List.drop_zero, List.drop_succ_cons, List.take_succ_cons, List.take_zero] at g0 g1
        obtain ⟨z, hz, _⟩ := DataW.trod_bool ka0 g0
        obtain ⟨u0, u1, n2, _, _, p0, p1⟩ := trod_struct2 hep g1
        simp only [o0, o1, c0, c1, List.drop_zero, List.drop_succ_cons, List.take_succ_cons, List.take_zero] at p0 p1
        obtain ⟨zi, hzi, _, wzi⟩ := DataW.trod_int k0 p0
        obtain ⟨xs, hx⟩ := open_bytes hb heb hceb p1
        simp only [List.cons.injEq, and_true] at hz hzi
        have e0 := hcell 0 (by omega)
        have e1 := hcell 1 (by omega)
        have e2 := hcell 2 (by omega)
        rw [add_add] at e0 e1 e2
        refine ⟨(z, zi, xs), ?_, ?_, wzi, v2, by simpa using e2, hx⟩
        · rw [← hz]; simpa using e0
        · rw [← hzi]; simpa using e1
    obtain ⟨f, hf⟩ := choose_lt each
    have hlen : ((List.range len).map f).length = len := by simp
    have hget : ∀ i, i < len → ((List.range len).map f).getD i (false, 0, []) = f i := by intro i hi; simp [List.getD, hi]
    refine ⟨some a, (List.range len).map f, cap, by rw [hlen]; exact hcs, fun hp => ?_, by rw [hlen]; exact hl, hm, by simp, ?_⟩
    · rw [hlen] at hp
      obtain ⟨b, o, s⟩ := a
      obtain rfl : s = none := by simpa [Addr.add] using World.cell?_spot (hf 0 hp).1
      refine ⟨b, o, rfl, fun i hi => ?_⟩
      rw [hlen] at hi
      obtain ⟨g0, g1, _, vv, g2, g3⟩ := hf i hi
      rw [hget i hi]
      rw [add_plain] at g0 g1 g2
      exact ⟨g0, g1, vv, g2, g3⟩
    · intro y hy
      simp only [List.mem_map, List.mem_range] at hy
      obtain ⟨i, hi, rfl⟩ := hy
      exact (hf i hi).2.2.1
/-! ### What is read again; string(b); appending bytes: over any program -/
theorem BIn.cell {b o : Nat} {xs : List Nat} (h : BIn w (some ⟨b, o, none⟩) xs) (i : Nat) (hi : i < xs.length) : w.cell? ⟨b, o + i, none⟩ = some (.int .u8 (xs.getD i 0 : Nat)) := by
  obtain ⟨b', o', e, hc⟩ := h.1 (by omega)
  simp at e
  obtain ⟨rfl, rfl⟩ := e
  exact hc i hi
theorem BIn.alloc {p : Option Addr} {xs : List Nat} (h : BIn w p xs) (o : Obj) : BIn (w.alloc o) p xs := by
  refine ⟨fun hx => ?_, h.2⟩
  obtain ⟨b, o', rfl, hc⟩ := h.1 hx
  exact ⟨b, o', rfl, fun i hi => (World.cell?_alloc_past o b _ (World.block_lt_of_cell? _ _ (hc i hi))).trans (hc i hi)⟩
theorem BIn.below {w' : World} {p : Option Addr} {xs : List Nat} (h : BIn w p xs) (hb : Below w.heap.size w w') : BIn w' p xs := by
  refine ⟨fun hx => ?_, h.2⟩
  obtain ⟨b, o', rfl, hc⟩ := h.1 hx
  exact ⟨b, o', rfl, fun i hi => (hb.cell (World.block_lt_of_cell? _ _ (hc i hi))).trans (hc i hi)⟩
theorem Row.below {w' : World} {v : Value} {xs : List Nat} (h : Row w v xs) (hb : Below w.heap.size w w') : Row w' v xs := by
  obtain ⟨p, c, h1, h2, h3⟩ := h.lies
  exact ⟨p, c, h1, h2.below hb, h3⟩
theorem PutsIn.below {w' : World} {q : Option Addr} {ws : List (Int × List Nat)} (h : PutsIn w q ws) (hb : Below w.heap.size w w') : PutsIn w' q ws := by
  intro hp
  obtain ⟨b, o, rfl, hc⟩ := h hp
  refine ⟨b, o, rfl, fun i hi => ?_⟩
  obtain ⟨e0, v, e1, hr⟩ := hc i hi
  exact ⟨(hb.cell (World.block_lt_of_cell? _ _ e0)).trans e0, v, (hb.cell (World.block_lt_of_cell? _ _ e1)).trans e1, hr.below hb⟩
theorem DiskIn.below {w' : World} {v : Value} {count : Int} {data : List Nat} {ws : List (Int × List Nat)} (h : DiskIn w v count data ws) (hb : Below w.heap.size w w') : DiskIn w' v count data ws := by
  obtain ⟨dv, q, c, h1, h2, h3, h4⟩ := h.lies
  exact ⟨⟨dv, q, c, h1, h2.below hb, h3.below hb, h4⟩, h.count_wf, h.puts_wf⟩
theorem BoolsIn.below {w' : World} {p : Option Addr} {bs : List Bool} (h : BoolsIn w p bs) (hb : Below w.heap.size w w') : BoolsIn w' p bs := by
  intro hp
  obtain ⟨b, o, rfl, hc⟩ := h hp
  exact ⟨b, o, rfl, fun i hi => (hb.cell (World.block_lt_of_cell? _ _ (hc i hi))).trans (hc i hi)⟩
theorem ActsIn.below {w' : World} {q : Option Addr} {l : List (Bool × Int × List Nat)} (h : ActsIn w q l) (hb : Below w.heap.size w w') : ActsIn w' q l := by
  intro hp
  obtain ⟨b, o, rfl, hc⟩ := h hp
  refine ⟨b, o, rfl, fun i hi => ?_⟩
  obtain ⟨e0, e1, v, e2, hr⟩ := hc i hi
  exact ⟨(hb.cell (World.block_lt_of_cell? _ _ e0)).trans e0, (hb.cell (World.block_lt_of_cell? _ _ e1)).trans e1, v, (hb.cell (World.block_lt_of_cell? _ _ e2)).trans e2, hr.below hb⟩
theorem bin_conv {tb eb ts : TypeId} (htb : P.underlying tb = some (.slice eb)) (heb : P.underlying eb = some (.int .u8)) (hts : P.underlying ts = some .string) {p : Option Addr} {xs : List Nat} {n : Nat} (h : BIn w p xs) (hn : n = xs.length) (c : Nat) :
    (convert tb ts (.slice p n c)).run P w = .ok (.string (strOf xs)) w := by
  subst hn
  rcases Nat.eq_zero_or_pos xs.length with hn | hn
  · obtain rfl : xs = [] := List.eq_nil_of_length_eq_zero hn
    show (convert tb ts (.slice p 0 c)).run P w = _
    rw [run_convert_bytes_string w tb ts eb _ 0 c htb heb hts]
    cases p <;> simp [Conv.bytesToString, loadCells]
    all_goals rfl
  · obtain ⟨b, o, rfl, hc⟩ := h.1 hn
    exact run_convert_bytes_arg w tb eb htb heb b o xs.length c (xs.map fun n : Nat => (n : Int)) (by simp) (fun i hi => by rw [hc i hi]; simp [List.getD, List.getElem?_map]; cases xs[i]? <;> rfl) ts hts
theorem bin_news {b o : Nat} {ys : List Nat} (h : BIn w (some ⟨b, o, none⟩) ys) : ∀ j u, (Bs ys)[j]? = some u → w.cell? ((⟨b, o, none⟩ : Addr).add j) = some u := by
  intro j u hu
  have hj : j < ys.length := by
    rcases Nat.lt_or_ge j ys.length with h | h
    · exact h
    · simp [Bs, List.getElem?_eq_none h] at hu
  rw [add_plain, h.cell j hj]
  simp [Bs, List.getElem?_eq_getElem hj] at hu
  simp [List.getD, List.getElem?_eq_getElem hj, ← hu]
theorem Bs_oneCell (ys : List Nat) : ∀ u ∈ Bs ys, u.oneCell' = true := by
  intro u hu
  simp only [Bs, List.mem_map] at hu
  obtain ⟨b, _, rfl⟩ := hu
  rfl
/-- Appending bytes, wherever they lie (nil, none, a row), to a row of one's own. -/
theorem run_append_row {tb eb : TypeId} {i0 : TypeInfo} (htb : P.underlying tb = some (.slice eb)) (hi : P.info? eb = some i0) (hz0 : i0.zero = some (.int .u8 0)) (hz1 : i0.size = 1) (hz2 : i0.bytes = 1)
    (base : Nat) (ty : TypeId) (v : Value) (xs ys : List Nat) (p : Option Addr) (c : Nat) (hown : w.ownsRow base eb 1 v xs.length (Bs xs)) (hin : BIn w p ys) (hp : p = none → c = 0)
    (hlen : xs.length + ys.length ≤ 140737488355328) (hbase : base ≤ w.heap.size) :
    ∃ v' w', (Builtin.append_ #[tb, tb] ty #[v, .slice p ys.length c]).run P w = .ok v' w' ∧ w'.ownsRow base eb 1 v' (xs ++ ys).length (Bs (xs ++ ys)) ∧ w.grownBy w' v.ownBlock := by
  have hmax : xs.length + ys.length ≤ maxLen := by unfold maxLen; omega
  cases p with
  | none =>
    obtain rfl : ys = [] := by
      cases ys with
      | nil => rfl
      | cons y ys => obtain ⟨b, o, e, _⟩ := hin.1 (by simp); cases e
    obtain rfl := hp rfl
    exact ⟨v, w, run_append_owned_none (P := P) w base tb ty eb i0 1 htb hi v xs.length (Bs xs) hown, by simpa using hown, ⟨rfl, rfl, rfl, Nat.le_refl _, fun _ _ _ => rfl⟩⟩
  | some ad =>
    have hc : ∀ j u, (Bs ys)[j]? = some u → w.cell? (ad.add j) = some u := by
      intro j u hu
      have hpos : 0 < ys.length := by
        cases ys with
        | nil => simp [Bs] at hu
        | cons y ys => simp
      obtain ⟨b, o, e, _⟩ := hin.1 hpos
      simp at e
      subst e
      exact bin_news hin j u hu
    obtain ⟨v', w', h1, h2, h3, _⟩ := run_append_own (P := P) w base tb ty eb i0 (.int .u8 0) 1 1 htb hi hz0 hz1 hz2 rfl (by decide) v xs.length (Bs xs) hown ad ys.length c (Bs ys) (by simp [Bs]) hc (Bs_oneCell ys) hmax (by omega) hbase
    exact ⟨v', w', h1, by simpa [Bs_app] using h2, h3⟩
end
end Go.Proofs.Ytnajjfdbmdjcbaa
namespace Go.Proofs.Ytnajjfdbmdjcbaa
open Go.RowKit Go.WideShapes

theorem BIn.conv {w : World} {p : Option Addr} {xs : List Nat} (h : BIn w p xs) (c : Nat) :
    (convert 22 9 (.slice p xs.length c)).run Try.prog w = .ok (.string (strOf xs)) w := by
  rcases Nat.eq_zero_or_pos xs.length with hn | hn
  · obtain rfl : xs = [] := List.eq_nil_of_length_eq_zero hn
    show (convert 22 9 (.slice p 0 c)).run Try.prog w = _
    rw [run_convert_bytes_string w 22 9 5 _ 0 c Try.underlying22 Try.underlying5 Try.underlying9]
    cases p <;> simp [Conv.bytesToString, loadCells]
    all_goals rfl
  · obtain ⟨b, o, rfl, hc⟩ := h.1 hn
    exact run_convert_bytes_arg w 22 5 Try.underlying22 Try.underlying5 b o xs.length c (xs.map fun n : Nat => (n : Int)) (by simp) (fun i hi => by rw [hc i hi]; simp [List.getD, List.getElem?_map]; cases xs[i]? <;> rfl) 9 Try.underlying9
end Go.Proofs.Ytnajjfdbmdjcbaa
namespace Go.Proofs.Ytnajjfdbmdjcbaa
open Go.RowKit Go.WideShapes

theorem info5 : (Try.prog.info? 5).map (fun i => (i.zero, i.size, i.bytes)) = some (some (.int .u8 0), 1, 1) := by kernel_rfl

theorem rel_push {B : Nat} {w wr w1 : World} {v v' : Value} {o : Obj} {xs : List Nat} {c : Nat} {z : Int} (hz : z = (c : Int)) (hown : wr.ownsRow B 5 1 v xs.length (Bs xs)) (hnx : Below B w wr) (hB : B ≤ wr.heap.size)
    (hown' : w1.ownsRow B 5 1 v' (xs.length + 1) (Bs xs ++ [.int .u8 z])) (hgrow : (wr.alloc o).grownBy w1 v.ownBlock) :
    w1.ownsRow B 5 1 v' (xs ++ [c]).length (Bs (xs ++ [c])) ∧ Below B w w1 := by
  subst hz
  refine ⟨by simpa [Bs_app, Bs] using hown', (hnx.alloc hB o).grown hgrow (by simp; omega) (fun k hk => (hown.lt k hk).1)⟩

end Go.Proofs.Ytnajjfdbmdjcbaa
namespace Go.Proofs.Ytnajjfdbmdjcbaa
open Go.RowKit Go.WideShapes

set_option maxHeartbeats 1000000 in
theorem split_any (n : Nat) (w : World) (hn : n < 18446744073709551616) :
    Calls Try.prog 63 #[.int .u64 n] w fun e w' => e = .returned (.agg #[.int .u8 (n % 256), .int .u8 (n / 256 % 256), .int .u8 (n / 65536 % 256), .int .u8 (n / 16777216 % 256), .int .u8 (n / 4294967296 % 256), .int .u8 (n / 1099511627776 % 256), .int .u8 (n / 281474976710656 % 256), .int .u8 (n / 72057594037927936)]) ∧ Below w.heap.size w w' := by
  go_enter Try.func63, Try.ntmps63
  go_wp2
  refine wp_loop_rounds 9 ?_
  iterate 9 (rw [rounds_succ]; go_wp2)
  refine bodyPost_ret (v := .agg #[.int .u8 (n % 256), .int .u8 (n / 256 % 256), .int .u8 (n / 65536 % 256), .int .u8 (n / 16777216 % 256), .int .u8 (n / 4294967296 % 256), .int .u8 (n / 1099511627776 % 256), .int .u8 (n / 281474976710656 % 256), .int .u8 (n / 72057594037927936)]) (by simp [results, Try.results63, go_sem]) rfl ⟨rfl, ?_⟩
  exact ((Below.refl _ _).alloc (Nat.le_refl _) _).alloc (by simp) _

theorem bin_alloc (w : World) (xs : List Nat) (e : TypeId) (hx : ∀ c ∈ xs, c < 256) : BIn (w.alloc (.cells (Bs xs).toArray e)) (some ⟨w.heap.size, 0, none⟩) xs := by
  refine ⟨fun _ => ⟨w.heap.size, 0, rfl, fun i hi => ?_⟩, hx⟩
  rw [cell_of_row (w.alloc (.cells (Bs xs).toArray e)) w.heap.size (0 + i) (Bs xs).toArray e (0, 0) (heap_alloc_new w _)]
  simp [Bs, List.getD, List.getElem?_eq_getElem hi]

theorem putN_cells (n : Nat) : (Bs (putN n)).toArray = #[.int .u8 (n % 256), .int .u8 (n / 256 % 256), .int .u8 (n / 65536 % 256), .int .u8 (n / 16777216 % 256), .int .u8 (n / 4294967296 % 256), .int .u8 (n / 1099511627776 % 256), .int .u8 (n / 281474976710656 % 256), .int .u8 (n / 72057594037927936)] := by
  simp [Bs, putN]

set_option maxHeartbeats 1000000 in
theorem put_any (n : Nat) (w : World) (hn : n < 18446744073709551616) :
    Calls Try.prog 39 #[.int .u64 n] w fun e w' => ∃ w1, e = .returned (.slice (some ⟨w1.heap.size, 0, none⟩) 8 8) ∧ w' = w1.alloc (.cells (Bs (putN n)).toArray 118) ∧ Below w.heap.size w w1 := by
  go_enter Try.func39, Try.ntmps39
  go_wp2_with (go_at_call 63; refine (split_any n _ hn).mono ?_; rintro e w1 ⟨rfl, hb⟩)
  go_ret
  exact ⟨w1, rfl, by rw [putN_cells], hb⟩

set_option maxHeartbeats 1000000 in
theorem join_any (a0 a1 a2 a3 a4 a5 a6 a7 : Nat) (w : World) (b0 : a0 < 256) (b1 : a1 < 256) (b2 : a2 < 256) (b3 : a3 < 256) (b4 : a4 < 256) (b5 : a5 < 256) (b6 : a6 < 256) (b7 : a7 < 256) :
    Calls Try.prog 76 #[.agg #[.int .u8 a0, .int .u8 a1, .int .u8 a2, .int .u8 a3, .int .u8 a4, .int .u8 a5, .int .u8 a6, .int .u8 a7]] w fun e w' => e = .returned (.int .u64 (joinN a0 a1 a2 a3 a4 a5 a6 a7 : Nat)) ∧ Below w.heap.size w w' := by
  have i0 : ∀ w, (Instr.index 118 (.agg #[.int .u8 a0, .int .u8 a1, .int .u8 a2, .int .u8 a3, .int .u8 a4, .int .u8 a5, .int .u8 a6, .int .u8 a7]) (.int .i64 0)).run Try.prog w = .ok (.int .u8 a0) w := fun _ => by kernel_rfl
  have i1 : ∀ w, (Instr.index 118 (.agg #[.int .u8 a0, .int .u8 a1, .int .u8 a2, .int .u8 a3, .int .u8 a4, .int .u8 a5, .int .u8 a6, .int .u8 a7]) (.int .i64 1)).run Try.prog w = .ok (.int .u8 a1) w := fun _ => by kernel_rfl
  have i2 : ∀ w, (Instr.index 118 (.agg #[.int .u8 a0, .int .u8 a1, .int .u8 a2, .int .u8 a3, .int .u8 a4, .int .u8 a5, .int .u8 a6, .int .u8 a7]) (.int .i64 2)).run Try.prog w = .ok (.int .u8 a2) w := fun _ => by kernel_rfl
  have i3 : ∀ w, (Instr.index 118 (.agg #[.int .u8 a0, .int .u8 a1, .int .u8 a2, .int .u8 a3, .int .u8 a4, .int .u8 a5, .int .u8 a6, .int .u8 a7]) (.int .i64 3)).run Try.prog w = .ok (.int .u8 a3) w := fun _ => by kernel_rfl
  have i4 : ∀ w, (Instr.index 118 (.agg #[.int .u8 a0, .int .u8 a1, .int .u8 a2, .int .u8 a3, .int .u8 a4, .int .u8 a5, .int .u8 a6, .int .u8 a7]) (.int .i64 4)).run Try.prog w = .ok (.int .u8 a4) w := fun _ => by kernel_rfl
  have i5 : ∀ w, (Instr.index 118 (.agg #[.int .u8 a0, .int .u8 a1, .int .u8 a2, .int .u8 a3, .int .u8 a4, .int .u8 a5, .int .u8 a6, .int .u8 a7]) (.int .i64 5)).run Try.prog w = .ok (.int .u8 a5) w := fun _ => by kernel_rfl
  have i6 : ∀ w, (Instr.index 118 (.agg #[.int .u8 a0, .int .u8 a1, .int .u8 a2, .int .u8 a3, .int .u8 a4, .int .u8 a5, .int .u8 a6, .int .u8 a7]) (.int .i64 6)).run Try.prog w = .ok (.int .u8 a6) w := fun _ => by kernel_rfl
  have i7 : ∀ w, (Instr.index 118 (.agg #[.int .u8 a0, .int .u8 a1, .int .u8 a2, .int .u8 a3, .int .u8 a4, .int .u8 a5, .int .u8 a6, .int .u8 a7]) (.int .i64 7)).run Try.prog w = .ok (.int .u8 a7) w := fun _ => by kernel_rfl
  have e0 : bits BinOp.or IntKind.u64 0 (a0 : Int) = (a0 : Int) := by rw [show (0 : Int) = ((0 : Nat) : Int) from rfl]; exact or_join 0 0 a0 a0 (by decide) (by omega) _ (by simp) (by simp)
  obtain ⟨s1, h1⟩ : ∃ s, s = a1 * 256 + a0 := ⟨_, rfl⟩
  have e1 : bits BinOp.or IntKind.u64 (a0 : Int) ((a1 : Int) * 256) = (s1 : Int) := or_join 8 a0 a1 s1 (by omega) (by omega) _ (by omega) (by omega)
  obtain ⟨s2, h2⟩ : ∃ s, s = a2 * 65536 + s1 := ⟨_, rfl⟩
  have e2 : bits BinOp.or IntKind.u64 (s1 : Int) ((a2 : Int) * 65536) = (s2 : Int) := or_join 16 s1 a2 s2 (by omega) (by omega) _ (by omega) (by omega)
  obtain ⟨s3, h3⟩ : ∃ s, s = a3 * 16777216 + s2 := ⟨_, rfl⟩
  have e3 : bits BinOp.or IntKind.u64 (s2 : Int) ((a3 : Int) * 16777216) = (s3 : Int) := or_join 24 s2 a3 s3 (by omega) (by omega) _ (by omega) (by omega)
  obtain ⟨s4, h4⟩ : ∃ s, s = a4 * 4294967296 + s3 := ⟨_, rfl⟩
  have e4 : bits BinOp.or IntKind.u64 (s3 : Int) ((a4 : Int) * 4294967296) = (s4 : Int) := or_join 32 s3 a4 s4 (by omega) (by omega) _ (by omega) (by omega)
  obtain ⟨s5, h5⟩ : ∃ s, s = a5 * 1099511627776 + s4 := ⟨_, rfl⟩
  have e5 : bits BinOp.or IntKind.u64 (s4 : Int) ((a5 : Int) * 1099511627776) = (s5 : Int) := or_join 40 s4 a5 s5 (by omega) (by omega) _ (by omega) (by omega)
  obtain ⟨s6, h6⟩ : ∃ s, s = a6 * 281474976710656 + s5 := ⟨_, rfl⟩
  have e6 : bits BinOp.or IntKind.u64 (s5 : Int) ((a6 : Int) * 281474976710656) = (s6 : Int) := or_join 48 s5 a6 s6 (by omega) (by omega) _ (by omega) (by omega)
  obtain ⟨s7, h7⟩ : ∃ s, s = a7 * 72057594037927936 + s6 := ⟨_, rfl⟩
  have e7 : bits BinOp.or IntKind.u64 (s6 : Int) ((a7 : Int) * 72057594037927936) = (s7 : Int) := or_join 56 s6 a7 s7 (by omega) (by omega) _ (by omega) (by omega)
  have H : Hid (joinN a0 a1 a2 a3 a4 a5 a6 a7 = s7) := by show _ = _; unfold joinN; omega
  clear h1 h2 h3 h4 h5 h6 h7
  go_enter Try.func76, Try.ntmps76
  go_wp2
  refine wp_loop_rounds 9 ?_
  iterate 9 (rw [rounds_succ]; go_wp2)
  go_ret
  exact ⟨by rw [H.out]; rfl, (Below.refl _ _).alloc (Nat.le_refl _) _⟩
end Go.Proofs.Ytnajjfdbmdjcbaa
namespace Go.Proofs.Ytnajjfdbmdjcbaa
open Go.RowKit Go.WideShapes

set_option maxHeartbeats 400000 in
theorem get_bad (p : Option Addr) (n c : Nat) (w : World) (hn : n ≠ 8) :
    Calls Try.prog 71 #[.slice p n c] w fun e w' => e = .returned (.tuple #[.int .u64 0, .int .i64 8]) ∧ w' = w := by

  go_enter Try.func71, Try.ntmps71
  go_wp2
  go_ret2
  exact ⟨rfl, rfl⟩

set_option maxHeartbeats 400000 in
theorem get_ok (p : Option Addr) (c : Nat) (a0 a1 a2 a3 a4 a5 a6 a7 : Nat) (w : World) (hb : BIn w p [a0, a1, a2, a3, a4, a5, a6, a7]) :
    Calls Try.prog 71 #[.slice p 8 c] w fun e w' => e = .returned (.tuple #[.int .u64 (joinN a0 a1 a2 a3 a4 a5 a6 a7 : Nat), .int .i64 0]) ∧ Below w.heap.size w w' := by
  obtain ⟨b, o, rfl, hc⟩ := hb.1 (by simp)
  have c0 : w.cell? ⟨b, o, none⟩ = some (.int .u8 a0) := hc 0 (by simp)
  have c1 : w.cell? ⟨b, o + 1, none⟩ = some (.int .u8 a1) := hc 1 (by simp)
  have c2 : w.cell? ⟨b, o + 2, none⟩ = some (.int .u8 a2) := hc 2 (by simp)
  have c3 : w.cell? ⟨b, o + 3, none⟩ = some (.int .u8 a3) := hc 3 (by simp)
  have c4 : w.cell? ⟨b, o + 4, none⟩ = some (.int .u8 a4) := hc 4 (by simp)
  have c5 : w.cell? ⟨b, o + 5, none⟩ = some (.int .u8 a5) := hc 5 (by simp)
  have c6 : w.cell? ⟨b, o + 6, none⟩ = some (.int .u8 a6) := hc 6 (by simp)
  have c7 : w.cell? ⟨b, o + 7, none⟩ = some (.int .u8 a7) := hc 7 (by simp)
  have hl := hb.2
  simp only [List.mem_cons, List.not_mem_nil, or_false, forall_eq_or_imp, forall_eq] at hl
  obtain ⟨l0, l1, l2, l3, l4, l5, l6, l7⟩ := hl
  clear hb hc
  have hat : ∀ w, (Instr.arrayAt 118 (.slice (some ⟨b, o, none⟩) 8 c)).run Try.prog w = .ok (.pointer (some ⟨b, o, none⟩)) w := fun _ => by kernel_rfl
  go_enter Try.func71, Try.ntmps71
  go_wp2_with (go_at_call 76; refine (join_any a0 a1 a2 a3 a4 a5 a6 a7 _ l0 l1 l2 l3 l4 l5 l6 l7).mono ?_; rintro e w1 ⟨rfl, hb⟩)
  go_ret2
  exact ⟨rfl, hb⟩
end Go.Proofs.Ytnajjfdbmdjcbaa
namespace Go.Proofs.Ytnajjfdbmdjcbaa
open Go.RowKit Go.WideShapes

theorem pow7 (k : Nat) (hk : k ≤ 9) : 2 ^ (7 * k) ≤ 9223372036854775808 := by
  have : (2 : Nat) ^ (7 * k) ≤ 2 ^ 63 := Nat.pow_le_pow_right (by decide) (by omega)
  exact this
theorem read_fits (k acc c : Nat) (hk : k ≤ 9) (hacc : acc < 2 ^ (7 * k)) (hc : k = 9 → c ≤ 1) : c % 128 * 2 ^ (7 * k) + acc < 18446744073709551616 := by
  by_cases h : k = 9
  · have := hc h; subst h; simp only [Nat.reduceMul, Nat.reducePow] at *; omega
  · have h1 : (2 : Nat) ^ (7 * k) ≤ 2 ^ 56 := Nat.pow_le_pow_right (by decide) (by omega)
    have h2 : c % 128 * 2 ^ (7 * k) ≤ 127 * 2 ^ 56 := Nat.mul_le_mul (by omega) h1
    have h3 : (127 : Nat) * 2 ^ 56 = 9151314442816847872 := by decide
    have h4 : (2 : Nat) ^ 56 = 72057594037927936 := by decide
    omega
theorem or_read (k acc c : Nat) (hk : k ≤ 9) (hacc : acc < 2 ^ (7 * k)) (hc : k = 9 → c ≤ 1) :
    bits BinOp.or IntKind.u64 (acc : Int) (IntKind.u64.wrap ((c : Int) % 128 * 2 ^ (7 * k))) = ((c % 128 * 2 ^ (7 * k) + acc : Nat) : Int) := by
  have hf := read_fits k acc c hk hacc hc
  refine or_join (7 * k) acc (c % 128) _ hacc hf _ ?_ rfl
  rw [IntKind.wrap_u64]
  have e : ((c % 128 * 2 ^ (7 * k) : Nat) : Int) = (c : Int) % 128 * 2 ^ (7 * k) := by simp
  rw [← e]
  omega
theorem acc_lt (k acc c : Nat) (hacc : acc < 2 ^ (7 * k)) : c % 128 * 2 ^ (7 * k) + acc < 2 ^ (7 * (k + 1)) := by
  rw [show 7 * (k + 1) = 7 * k + 7 from by omega, Nat.pow_add]
  have : c % 128 * 2 ^ (7 * k) ≤ 127 * 2 ^ (7 * k) := Nat.mul_le_mul_right _ (by omega)
  omega
theorem aux_hi {k acc c : Nat} {ys : List Nat} (h9 : ¬ (k = 9 ∧ 1 < c)) (h : 128 ≤ c) : readAux k acc (c :: ys) = readAux (k + 1) (c % 128 * 2 ^ (7 * k) + acc) ys := by rw [readAux, if_neg h9, if_pos h]
theorem aux_big {k acc c : Nat} {ys : List Nat} (h9 : k = 9 ∧ 1 < c) : readAux k acc (c :: ys) = none := by rw [readAux, if_pos h9]
theorem aux_zero {k acc c : Nat} {ys : List Nat} (h9 : ¬ (k = 9 ∧ 1 < c)) (h : ¬ 128 ≤ c) (h0 : c = 0 ∧ 0 < k) : readAux k acc (c :: ys) = none := by rw [readAux, if_neg h9, if_neg h, if_pos h0]
theorem aux_end {k acc c : Nat} {ys : List Nat} (h9 : ¬ (k = 9 ∧ 1 < c)) (h : ¬ 128 ≤ c) (h0 : ¬ (c = 0 ∧ 0 < k)) : readAux k acc (c :: ys) = some (c % 128 * 2 ^ (7 * k) + acc, k + 1) := by
  rw [readAux, if_neg h9, if_neg h, if_neg h0, Nat.mod_eq_of_lt (by omega)]
theorem drop_at (xs : List Nat) (k : Nat) (h : k < xs.length) : xs.drop k = xs.getD k 0 :: xs.drop (k + 1) := by
  rw [List.drop_eq_getElem_cons h]; simp [List.getD, List.getElem?_eq_getElem h]

/-- What Read answers. -/
def readV : Option (Nat × Nat) → Value
  | some (n, k) => .tuple #[.int .u64 n, .int .i64 k, .int .i64 0]
  | none => .tuple #[.int .u64 0, .int .i64 0, .int .i64 8]

end Go.Proofs.Ytnajjfdbmdjcbaa
