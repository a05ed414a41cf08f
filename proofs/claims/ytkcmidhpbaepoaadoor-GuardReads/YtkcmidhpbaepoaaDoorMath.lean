/-
  Plain arithmetic for the package bits; no program is named here.
-/
import Derived.WalkKit
import Derived.Laws.BitsAllLaws
import Derived.Laws.BytesArg
import Derived.WideShapes
namespace Go.Proofs.YtkcmidhpbaepoaaDoor
open Go.RowKit Go.WideShapes

/-- One bit of the cyclic sum. -/
def crcBit (r : Nat) : Nat := if r % 2 = 1 then r / 2 ^^^ 3988292384 else r / 2
def crcBits : Nat → Nat → Nat
  | 0, r => r
  | k + 1, r => crcBit (crcBits k r)
def crc (r : Nat) (xs : List Nat) : Nat := xs.foldl (fun r c => crcBits 8 (r ^^^ c)) r
def sumN (xs : List Nat) : Nat := 4294967295 ^^^ crc 4294967295 xs

theorem crcBit_lt (r : Nat) (h : r < 4294967296) : crcBit r < 4294967296 := by
  unfold crcBit
  split
  · exact Nat.xor_lt_two_pow (n := 32) (by omega) (by omega)
  · omega
theorem crcBits_lt (k r : Nat) (h : r < 4294967296) : crcBits k r < 4294967296 := by
  induction k with
  | zero => exact h
  | succ k ih => exact crcBit_lt _ ih
theorem crc_lt (xs : List Nat) : ∀ r, r < 4294967296 → (∀ c ∈ xs, c < 256) → crc r xs < 4294967296 := by
  induction xs with
  | nil => intro r h _; exact h
  | cons c xs ih =>
    intro r h hx
    have hc := hx c (by simp)
    exact ih _ (crcBits_lt 8 _ (Nat.xor_lt_two_pow (n := 32) (by omega) (by omega))) (fun c hc => hx c (by simp [hc]))
theorem crc_snoc (r : Nat) (xs : List Nat) (c : Nat) : crc r (xs ++ [c]) = crcBits 8 (crc r xs ^^^ c) := by simp [crc, List.foldl_append]
theorem crc_take (r : Nat) (xs : List Nat) (k : Nat) (h : k < xs.length) : crc r (xs.take (k + 1)) = crcBits 8 (crc r (xs.take k) ^^^ xs.getD k 0) := by
  rw [List.take_succ_eq_append_getElem h, crc_snoc]; simp [List.getD, List.getElem?_eq_getElem h]
theorem bit_odd (r : Nat) (h : r < 4294967296) : (bits BinOp.and IntKind.u32 (r : Int) 1 == 1) = decide (r % 2 = 1) := by
  have e : bits BinOp.and IntKind.u32 (r : Int) 1 = ((r % 2 : Nat) : Int) := by
    rw [show (1 : Int) = ((1 : Nat) : Int) from rfl, u32_and_nat r 1 h (by decide), Nat.and_one_is_mod]
  rw [e]
  rcases Nat.mod_two_eq_zero_or_one r with h | h <;> simp [h]
theorem bit_xor (r : Nat) (h : r < 4294967296) : bits BinOp.xor IntKind.u32 (r : Int) 3988292384 = ((r ^^^ 3988292384 : Nat) : Int) := u32_xor_nat r 3988292384 h (by decide)
theorem byte_xor (r c : Nat) (h : r < 4294967296) (hc : c < 256) : bits BinOp.xor IntKind.u32 (r : Int) (c : Int) = ((r ^^^ c : Nat) : Int) := u32_xor_nat r c h (by omega)
theorem sum_not (xs : List Nat) (h : crc 4294967295 xs < 4294967296) : bits BinOp.xor IntKind.u32 IntKind.u32.max (crc 4294967295 xs : Nat) = ((sumN xs : Nat) : Int) := by
  rw [show IntKind.u32.max = ((4294967295 : Nat) : Int) from rfl]
  exact u32_xor_nat 4294967295 _ (by decide) h
theorem getD_lt {xs : List Nat} (h : ∀ c ∈ xs, c < 256) (k : Nat) : xs.getD k 0 < 256 := by
  rcases Nat.lt_or_ge k xs.length with hk | hk
  · rw [List.getD, List.getElem?_eq_getElem hk]; exact h _ (List.getElem_mem hk)
  · simp [List.getD, List.getElem?_eq_none hk]
/-- The string of a list of bytes. -/
def strOf (xs : List Nat) : ByteArray := strOfNums (xs.map fun n : Nat => (n : Int))
theorem strOf_list (xs : List Nat) : (strOf xs).data.toList = xs.map UInt8.ofNat := by
  simp [strOf, strOfNums_data, Function.comp_def]
theorem strOf_size (xs : List Nat) : (strOf xs).size = xs.length := by simp [strOf, strOfNums_size]
theorem map_ofNat_inj : ∀ {xs ys : List Nat}, (∀ c ∈ xs, c < 256) → (∀ c ∈ ys, c < 256) → xs.map UInt8.ofNat = ys.map UInt8.ofNat → xs = ys
  | [], [], _, _, _ => rfl
  | [], _ :: _, _, _, h => by simp at h
  | _ :: _, [], _, _, h => by simp at h
  | x :: xs, y :: ys, hx, hy, h => by
    simp only [List.map_cons, List.cons.injEq] at h
    have h1 := congrArg UInt8.toNat h.1
    have a := hx x (by simp)
    have b := hy y (by simp)
    simp only [UInt8.toNat_ofNat'] at h1
    have e : x = y := by omega
    rw [e, map_ofNat_inj (fun c hc => hx c (by simp [hc])) (fun c hc => hy c (by simp [hc])) h.2]
theorem strOf_eq {xs ys : List Nat} (hx : ∀ c ∈ xs, c < 256) (hy : ∀ c ∈ ys, c < 256) : (strOf xs).data.toList = (strOf ys).data.toList ↔ xs = ys := by
  rw [strOf_list, strOf_list]
  exact ⟨fun h => map_ofNat_inj hx hy h, fun h => by rw [h]⟩

/-- Small bytes of a number. -/
def smallN (n : Nat) : List Nat := if n < 128 then [n] else (n % 128 + 128) :: smallN (n / 128)
termination_by n
decreasing_by omega
theorem smallN_lo {n : Nat} (h : n < 128) : smallN n = [n] := by rw [smallN, if_pos h]
theorem smallN_hi {n : Nat} (h : ¬ n < 128) : smallN n = (n % 128 + 128) :: smallN (n / 128) := by rw [smallN, if_neg h]
theorem smallN_len (k : Nat) : ∀ n, n < 128 ^ (k + 1) → (smallN n).length ≤ k + 1 := by
  induction k with
  | zero => intro n h; rw [smallN_lo (by simpa using h)]; simp
  | succ k ih =>
    intro n h
    by_cases hn : n < 128
    · rw [smallN_lo hn]; simp
    · rw [smallN_hi hn]
      have := ih (n / 128) (by rw [Nat.div_lt_iff_lt_mul (by decide)]; rwa [Nat.pow_succ] at h)
      simp; omega
theorem smallN_ten (n : Nat) (h : n < 18446744073709551616) : (smallN n).length ≤ 10 := smallN_len 9 n (by omega)
theorem smallN_pos (n : Nat) : 0 < (smallN n).length := by rw [smallN]; split <;> simp
theorem smallN_bytes (n : Nat) : ∀ c ∈ smallN n, c < 256 := by
  induction n using Nat.strongRecOn with
  | _ n ih =>
    by_cases hn : n < 128
    · rw [smallN_lo hn]; simp; omega
    · rw [smallN_hi hn]
      intro c hc
      rcases List.mem_cons.1 hc with h | h
      · omega
      · exact ih (n / 128) (by omega) c h
/-- Cells of bytes. -/
def Bs (xs : List Nat) : List Value := xs.map fun n : Nat => Value.int .u8 (n : Int)
theorem Bs_len (xs : List Nat) : (Bs xs).length = xs.length := by simp [Bs]
theorem Bs_app (xs ys : List Nat) : Bs (xs ++ ys) = Bs xs ++ Bs ys := by simp [Bs]
theorem or128 (m : Nat) : bits BinOp.or IntKind.u8 ((m : Int) % 256) 128 = ((m % 128 + 128 : Nat) : Int) := by
  rw [show ((m : Int) % 256) = ((m % 256 : Nat) : Int) from by omega, show (128 : Int) = ((128 : Nat) : Int) from rfl, u8_or_nat (m % 256) 128 (by omega) (by decide)]
  congr 1
  have : ∀ x, x < 256 → x ||| 128 = x % 128 + 128 := by decide +kernel
  rw [this _ (by omega)]; omega

/-- Two numbers of which one has the low bits alone, the other the high ones. -/
theorem or_join (k x y z : Nat) (hx : x < 2 ^ k) (hz : y * 2 ^ k + x < 18446744073709551616) (m : Int) (hm : m = ((y * 2 ^ k : Nat) : Int)) (he : z = y * 2 ^ k + x) : bits BinOp.or IntKind.u64 (x : Int) m = (z : Int) := by
  subst hm he
  rw [u64_or_nat x (y * 2 ^ k) (by omega) (by omega), Nat.or_comm, Nat.mul_comm y, ← Nat.two_pow_add_eq_or_of_lt hx]
/-- Eight bytes as a number, the lowest first; and the bytes of a number. -/
def joinN (a0 a1 a2 a3 a4 a5 a6 a7 : Nat) : Nat := a0 + 256 * (a1 + 256 * (a2 + 256 * (a3 + 256 * (a4 + 256 * (a5 + 256 * (a6 + 256 * a7))))))
def putN (n : Nat) : List Nat := [n % 256, n / 256 % 256, n / 65536 % 256, n / 16777216 % 256, n / 4294967296 % 256, n / 1099511627776 % 256, n / 281474976710656 % 256, n / 72057594037927936]
theorem putN_bytes (n : Nat) (h : n < 18446744073709551616) : ∀ c ∈ putN n, c < 256 := by
  intro c hc
  simp only [putN, List.mem_cons, List.not_mem_nil, or_false] at hc
  rcases hc with h | h | h | h | h | h | h | h <;> omega
theorem join_put (n : Nat) (h : n < 18446744073709551616) : joinN (n % 256) (n / 256 % 256) (n / 65536 % 256) (n / 16777216 % 256) (n / 4294967296 % 256) (n / 1099511627776 % 256) (n / 281474976710656 % 256) (n / 72057594037927936) = n := by
  unfold joinN; omega

/-- Small bytes read, from the place i on, with the number so far. -/
def readAux : Nat → Nat → List Nat → Option (Nat × Nat)
  | _, _, [] => none
  | i, acc, c :: xs => if i = 9 ∧ 1 < c then none else if 128 ≤ c then readAux (i + 1) (c % 128 * 2 ^ (7 * i) + acc) xs else if c = 0 ∧ 0 < i then none else some (c * 2 ^ (7 * i) + acc, i + 1)
def readN (xs : List Nat) : Option (Nat × Nat) := readAux 0 0 xs
theorem and127 (c : Nat) (h : c < 256) : bits BinOp.and IntKind.u8 (c : Int) 127 = ((c % 128 : Nat) : Int) := by
  rw [show (127 : Int) = ((127 : Nat) : Int) from rfl, u8_and_nat c 127 h (by decide)]
  congr 1
  exact Nat.and_two_pow_sub_one_eq_mod c 7
end Go.Proofs.YtkcmidhpbaepoaaDoor
