/-
  Digests, seals, passwords' digests: numbers alone, no program.
-/
import Derived.WalkKit
import Derived.Laws.BitsAllLaws
import Derived.Laws.BytesArg
import Derived.WideShapes
import Derived.KernelRfl
namespace Go.Proofs.YtoagaddciapmkaaDoor
open Go.RowKit Go.WideShapes

/-- One bit of the cyclic sum. -/
def crcBit (r : Nat) : Nat := if r % 2 = 1 then r / 2 ^^^ 3988292384 else r / 2
def crcBits : Nat → Nat → Nat
  | 0, r => r
  | k + 1, r => crcBit (crcBits k r)
def crc (r : Nat) (xs : List Nat) : Nat := xs.foldl (fun r c => crcBits 8 (r ^^^ c)) r
def sumN (xs : List Nat) : Nat := 4294967295 ^^^ crc 4294967295 xs

theorem crcBit_lt (r : Nat) (h : r < 4294967296) : crcBit r < 4294967296 := by
  unfold crcBit
  split
  · exact Nat.xor_lt_two_pow (n := 32) (by omega) (by omega)
  · omega
theorem crcBits_lt (k r : Nat) (h : r < 4294967296) : crcBits k r < 4294967296 := by
  induction k with
  | zero => exact h
  | succ k ih => exact crcBit_lt _ ih
theorem crc_lt (xs : List Nat) : ∀ r, r < 4294967296 → (∀ c ∈ xs, c < 256) → crc r xs < 4294967296 := by
  induction xs with
  | nil => intro r h _; exact h
  | cons c xs ih =>
    intro r h hx
    have hc := hx c (by simp)
    exact ih _ (crcBits_lt 8 _ (Nat.xor_lt_two_pow (n := 32) (by omega) (by omega))) (fun c hc => hx c (by simp [hc]))
theorem crc_snoc (r : Nat) (xs : List Nat) (c : Nat) : crc r (xs ++ [c]) = crcBits 8 (crc r xs ^^^ c) := by simp [crc, List.foldl_append]
theorem crc_take (r : Nat) (xs : List Nat) (k : Nat) (h : k < xs.length) : crc r (xs.take (k + 1)) = crcBits 8 (crc r (xs.take k) ^^^ xs.getD k 0) := by
  rw [List.take_succ_eq_append_getElem h, crc_snoc]; simp [List.getD, List.getElem?_eq_getElem h]
theorem bit_odd (r : Nat) (h : r < 4294967296) : (bits BinOp.and IntKind.u32 (r : Int) 1 == 1) = decide (r % 2 = 1) := by
  have e : bits BinOp.and IntKind.u32 (r : Int) 1 = ((r % 2 : Nat) : Int) := by
    rw [show (1 : Int) = ((1 : Nat) : Int) from rfl, u32_and_nat r 1 h (by decide), Nat.and_one_is_mod]
  rw [e]
  rcases Nat.mod_two_eq_zero_or_one r with h | h <;> simp [h]
theorem bit_xor (r : Nat) (h : r < 4294967296) : bits BinOp.xor IntKind.u32 (r : Int) 3988292384 = ((r ^^^ 3988292384 : Nat) : Int) := u32_xor_nat r 3988292384 h (by decide)
theorem byte_xor (r c : Nat) (h : r < 4294967296) (hc : c < 256) : bits BinOp.xor IntKind.u32 (r : Int) (c : Int) = ((r ^^^ c : Nat) : Int) := u32_xor_nat r c h (by omega)
theorem sum_not (xs : List Nat) (h : crc 4294967295 xs < 4294967296) : bits BinOp.xor IntKind.u32 IntKind.u32.max (crc 4294967295 xs : Nat) = ((sumN xs : Nat) : Int) := by
  rw [show IntKind.u32.max = ((4294967295 : Nat) : Int) from rfl]
  exact u32_xor_nat 4294967295 _ (by decide) h
theorem getD_lt {xs : List Nat} (h : ∀ c ∈ xs, c < 256) (k : Nat) : xs.getD k 0 < 256 := by
  rcases Nat.lt_or_ge k xs.length with hk | hk
  · rw [List.getD, List.getElem?_eq_getElem hk]; exact h _ (List.getElem_mem hk)
  · simp [List.getD, List.getElem?_eq_none hk]
/-- The string of a list of bytes. -/
def strOf (xs : List Nat) : ByteArray := strOfNums (xs.map fun n : Nat => (n : Int))
theorem strOf_list (xs : List Nat) : (strOf xs).data.toList = xs.map UInt8.ofNat := by
  simp [strOf, strOfNums_data, Function.comp_def]
theorem strOf_size (xs : List Nat) : (strOf xs).size = xs.length := by simp [strOf, strOfNums_size]
theorem map_ofNat_inj : ∀ {xs ys : List Nat}, (∀ c ∈ xs, c < 256) → (∀ c ∈ ys, c < 256) → xs.map UInt8.ofNat = ys.map UInt8.ofNat → xs = ys
  | [], [], _, _, _ => rfl
  | [], _ :: _, _, _, h => by simp at h
  | _ :: _, [], _, _, h => by simp at h
  | x :: xs, y :: ys, hx, hy, h => by
    simp only [List.map_cons, List.cons.injEq] at h
    have h1 := congrArg UInt8.toNat h.1
    have a := hx x (by simp)
    have b := hy y (by simp)
    simp only [UInt8.toNat_ofNat'] at h1
    have e : x = y := by omega
    rw [e, map_ofNat_inj (fun c hc => hx c (by simp [hc])) (fun c hc => hy c (by simp [hc])) h.2]
theorem strOf_eq {xs ys : List Nat} (hx : ∀ c ∈ xs, c < 256) (hy : ∀ c ∈ ys, c < 256) : (strOf xs).data.toList = (strOf ys).data.toList ↔ xs = ys := by
  rw [strOf_list, strOf_list]
  exact ⟨fun h => map_ofNat_inj hx hy h, fun h => by rw [h]⟩

/-- Small bytes of a number. -/
def smallN (n : Nat) : List Nat := if n < 128 then [n] else (n % 128 + 128) :: smallN (n / 128)
termination_by n
decreasing_by omega
theorem smallN_lo {n : Nat} (h : n < 128) : smallN n = [n] := by rw [smallN, if_pos h]
theorem smallN_hi {n : Nat} (h : ¬ n < 128) : smallN n = (n % 128 + 128) :: smallN (n / 128) := by rw [smallN, if_neg h]
theorem smallN_len (k : Nat) : ∀ n, n < 128 ^ (k + 1) → (smallN n).length ≤ k + 1 := by
  induction k with
  | zero => intro n h; rw [smallN_lo (by simpa using h)]; simp
  | succ k ih =>
    intro n h
    by_cases hn : n < 128
    · rw [smallN_lo hn]; simp
    · rw [smallN_hi hn]
      have := ih (n / 128) (by rw [Nat.div_lt_iff_lt_mul (by decide)]; rwa [Nat.pow_succ] at h)
      simp; omega
theorem smallN_ten (n : Nat) (h : n < 18446744073709551616) : (smallN n).length ≤ 10 := smallN_len 9 n (by omega)
theorem smallN_pos (n : Nat) : 0 < (smallN n).length := by rw [smallN]; split <;> simp
theorem smallN_bytes (n : Nat) : ∀ c ∈ smallN n, c < 256 := by
  induction n using Nat.strongRecOn with
  | _ n ih =>
    by_cases hn : n < 128
    · rw [smallN_lo hn]; simp; omega
    · rw [smallN_hi hn]
      intro c hc
      rcases List.mem_cons.1 hc with h | h
      · omega
      · exact ih (n / 128) (by omega) c h
/-- Cells of bytes. -/
def Bs (xs : List Nat) : List Value := xs.map fun n : Nat => Value.int .u8 (n : Int)
theorem Bs_len (xs : List Nat) : (Bs xs).length = xs.length := by simp [Bs]
theorem Bs_app (xs ys : List Nat) : Bs (xs ++ ys) = Bs xs ++ Bs ys := by simp [Bs]
theorem or128 (m : Nat) : bits BinOp.or IntKind.u8 ((m : Int) % 256) 128 = ((m % 128 + 128 : Nat) : Int) := by
  rw [show ((m : Int) % 256) = ((m % 256 : Nat) : Int) from by omega, show (128 : Int) = ((128 : Nat) : Int) from rfl, u8_or_nat (m % 256) 128 (by omega) (by decide)]
  congr 1
  have : ∀ x, x < 256 → x ||| 128 = x % 128 + 128 := by decide +kernel
  rw [this _ (by omega)]; omega

/-- Two numbers of which one has the low bits alone, the other the high ones. -/
theorem or_join (k x y z : Nat) (hx : x < 2 ^ k) (hz : y * 2 ^ k + x < 18446744073709551616) (m : Int) (hm : m = ((y * 2 ^ k : Nat) : Int)) (he : z = y * 2 ^ k + x) : bits BinOp.or IntKind.u64 (x : Int) m = (z : Int) := by
  subst hm he
  rw [u64_or_nat x (y * 2 ^ k) (by omega) (by omega), Nat.or_comm, Nat.mul_comm y, ← Nat.two_pow_add_eq_or_of_lt hx]
/-- Eight bytes as a number, the lowest first; and the bytes of a number. -/
def joinN (a0 a1 a2 a3 a4 a5 a6 a7 : Nat) : Nat := a0 + 256 * (a1 + 256 * (a2 + 256 * (a3 + 256 * (a4 + 256 * (a5 + 256 * (a6 + 256 * a7))))))
def putN (n : Nat) : List Nat := [n % 256, n / 256 % 256, n / 65536 % 256, n / 16777216 % 256, n / 4294967296 % 256, n / 1099511627776 % 256, n / 281474976710656 % 256, n / 72057594037927936]
theorem putN_bytes (n : Nat) (h : n < 18446744073709551616) : ∀ c ∈ putN n, c < 256 := by
  intro c hc
  simp only [putN, List.mem_cons, List.not_mem_nil, or_false] at hc
  rcases hc with h | h | h | h | h | h | h | h <;> omega
theorem join_put (n : Nat) (h : n < 18446744073709551616) : joinN (n % 256) (n / 256 % 256) (n / 65536 % 256) (n / 16777216 % 256) (n / 4294967296 % 256) (n / 1099511627776 % 256) (n / 281474976710656 % 256) (n / 72057594037927936) = n := by
  unfold joinN; omega

/-- Small bytes read, from the place i on, with the number so far. -/
def readAux : Nat → Nat → List Nat → Option (Nat × Nat)
  | _, _, [] => none
  | i, acc, c :: xs => if i = 9 ∧ 1 < c then none else if 128 ≤ c then readAux (i + 1) (c % 128 * 2 ^ (7 * i) + acc) xs else if c = 0 ∧ 0 < i then none else some (c * 2 ^ (7 * i) + acc, i + 1)
def readN (xs : List Nat) : Option (Nat × Nat) := readAux 0 0 xs
theorem and127 (c : Nat) (h : c < 256) : bits BinOp.and IntKind.u8 (c : Int) 127 = ((c % 128 : Nat) : Int) := by
  rw [show (127 : Int) = ((127 : Nat) : Int) from rfl, u8_and_nat c 127 h (by decide)]
  congr 1
  exact Nat.and_two_pow_sub_one_eq_mod c 7
end Go.Proofs.YtoagaddciapmkaaDoor
namespace Go.Proofs.YtoagaddciapmkaaDoor

/-- A sixteen's byte. -/
def hexC (n : Nat) : Nat := if n < 10 then 48 + n else 87 + n
def hexN : List Nat → List Nat
  | [] => []
  | b :: l => hexC (b / 16) :: hexC (b % 16) :: hexN l
/-- A sixteen's worth. -/
def halfN (c : Nat) : Option Nat := if 48 ≤ c ∧ c ≤ 57 then some (c - 48) else if 97 ≤ c ∧ c ≤ 102 then some (c - 87) else none
def unhexN : List Nat → Option (List Nat)
  | [] => some []
  | [_] => none
  | a :: b :: l => match halfN a, halfN b, unhexN l with
    | some x, some y, some r => some ((16 * x + y) :: r)
    | _, _, _ => none
theorem half_hex {n : Nat} (h : n < 16) : halfN (hexC n) = some n := by
  unfold halfN hexC
  by_cases h1 : n < 10
  · rw [if_pos h1, if_pos ⟨by omega, by omega⟩]
    congr 1
    omega
  · rw [if_neg h1, if_neg (by omega), if_pos ⟨by omega, by omega⟩]
    congr 1
    omega
theorem hex_half {c x : Nat} (h : halfN c = some x) : hexC x = c ∧ x < 16 := by
  unfold halfN at h
  by_cases h1 : 48 ≤ c ∧ c ≤ 57
  · rw [if_pos h1] at h
    have := Option.some.inj h
    unfold hexC
    rw [if_pos (by omega)]
    omega
  · rw [if_neg h1] at h
    by_cases h2 : 97 ≤ c ∧ c ≤ 102
    · rw [if_pos h2] at h
      have := Option.some.inj h
      unfold hexC
      rw [if_neg (by omega)]
      omega
    · rw [if_neg h2] at h
      cases h
theorem hexN_len (l : List Nat) : (hexN l).length = 2 * l.length := by
  induction l with
  | nil => rfl
  | cons b l ih => simp only [hexN, List.length_cons, ih]; omega
theorem hexN_app (l m : List Nat) : hexN (l ++ m) = hexN l ++ hexN m := by
  induction l with
  | nil => rfl
  | cons b l ih => simp only [List.cons_append, hexN, ih]
theorem hexC_byte {n : Nat} (h : n < 16) : hexC n < 128 := by
  unfold hexC
  split <;> omega
theorem hexN_byte : ∀ {l : List Nat}, (∀ b ∈ l, b < 256) → ∀ c ∈ hexN l, c < 256
  | [], _, c, hc => by cases hc
  | b :: l, h, c, hc => by
    have hb := h b (by simp)
    simp only [hexN, List.mem_cons] at hc
    rcases hc with rfl | rfl | hc
    · have := hexC_byte (n := b / 16) (by omega); omega
    · have := hexC_byte (n := b % 16) (by omega); omega
    · exact hexN_byte (fun x hx => h x (by simp [hx])) c hc
theorem unhex_hex : ∀ {l : List Nat}, (∀ b ∈ l, b < 256) → unhexN (hexN l) = some l
  | [], _ => rfl
  | b :: l, h => by
    have hb := h b (by simp)
    simp only [hexN, unhexN, half_hex (n := b / 16) (by omega), half_hex (n := b % 16) (by omega), unhex_hex (l := l) (fun x hx => h x (by simp [hx]))]
    congr 2
    omega
theorem hex_unhex : ∀ {s r : List Nat}, unhexN s = some r → hexN r = s ∧ ∀ b ∈ r, b < 256
  | [], r, h => by
    obtain rfl := Option.some.inj h
    exact ⟨rfl, fun b hb => by cases hb⟩
  | [_], r, h => by cases h
  | a :: b :: l, r, h => by
    unfold unhexN at h
    split at h
    · rename_i x y t hx hy ht
      obtain rfl := Option.some.inj h
      obtain ⟨e1, l1⟩ := hex_half hx
      obtain ⟨e2, l2⟩ := hex_half hy
      obtain ⟨e3, l3⟩ := hex_unhex ht
      refine ⟨?_, fun c hc => ?_⟩
      · simp only [hexN]
        rw [show (16 * x + y) / 16 = x by omega, show (16 * x + y) % 16 = y by omega, e1, e2, e3]
      · rcases List.mem_cons.1 hc with rfl | hc
        · omega
        · exact l3 c hc
    · cases h
theorem unhex_odd : ∀ {s : List Nat}, s.length % 2 = 1 → unhexN s = none
  | [], h => by simp at h
  | [_], _ => rfl
  | a :: b :: l, h => by
    have hl : l.length % 2 = 1 := by simp only [List.length_cons] at h; omega
    unfold unhexN
    rw [unhex_odd hl]
    split
    · rename_i h1; cases h1
    · rfl
theorem unhex_len : ∀ {s r : List Nat}, unhexN s = some r → s.length = 2 * r.length := by
  intro s r h
  rw [← (hex_unhex h).1, hexN_len]
end Go.Proofs.YtoagaddciapmkaaDoor
namespace Go.Proofs.YtoagaddciapmkaaDoor

def M32 : Nat := 4294967296
/-- Turned right. -/
def turnR (x n : Nat) : Nat := (x >>> n) ||| ((x <<< (32 - n)) % M32)
def firstH : List Nat := [1779033703, 3144134277, 1013904242, 2773480762, 1359893119, 2600822924, 528734635, 1541459225]
def stepsK : List Nat := [1116352408, 1899447441, 3049323471, 3921009573, 961987163, 1508970993, 2453635748, 2870763221, 3624381080, 310598401, 607225278, 1426881987, 1925078388, 2162078206, 2614888103, 3248222580, 3835390401, 4022224774, 264347078, 604807628, 770255983, 1249150122, 1555081692, 1996064986, 2554220882, 2821834349, 2952996808, 3210313671, 3336571891, 3584528711, 113926993, 338241895, 666307205, 773529912, 1294757372, 1396182291, 1695183700, 1986661051, 2177026350, 2456956037, 2730485921, 2820302411, 3259730800, 3345764771, 3516065817, 3600352804, 4094571909, 275423344, 430227734, 506948616, 659060556, 883997877, 958139571, 1322822218, 1537002063, 1747873779, 1955562222, 2024104815, 2227730452, 2361852424, 2428436474, 2756734187, 3204031479, 3329325298]
def wordB (b : List Nat) (i : Nat) : Nat := ((b.getD i 0 * 256 + b.getD (i + 1) 0) * 256 + b.getD (i + 2) 0) * 256 + b.getD (i + 3) 0
/-- The word behind those that are there. -/
def moreW (w : List Nat) (i : Nat) : Nat :=
  let a := w.getD (i - 15) 0; let c := w.getD (i - 2) 0
  (w.getD (i - 16) 0 + (turnR a 7 ^^^ turnR a 18 ^^^ (a >>> 3)) + w.getD (i - 7) 0 + (turnR c 17 ^^^ turnR c 19 ^^^ (c >>> 10))) % M32
def wordsK (b : List Nat) : Nat → List Nat
  | 0 => []
  | k + 1 => let w := wordsK b k; w ++ [if k < 16 then wordB b (4 * k) else moreW w k]
structure W8 where
  a : Nat
  b : Nat
  c : Nat
  d : Nat
  e : Nat
  f : Nat
  g : Nat
  h : Nat
def of8 (l : List Nat) : W8 := ⟨l.getD 0 0, l.getD 1 0, l.getD 2 0, l.getD 3 0, l.getD 4 0, l.getD 5 0, l.getD 6 0, l.getD 7 0⟩
def to8 (x : W8) : List Nat := [x.a, x.b, x.c, x.d, x.e, x.f, x.g, x.h]
def step8 (x : W8) (k w : Nat) : W8 :=
  let t1 := (x.h + (turnR x.e 6 ^^^ turnR x.e 11 ^^^ turnR x.e 25) + ((x.e &&& x.f) ^^^ ((M32 - 1 - x.e) &&& x.g)) + k + w) % M32
  let t2 := ((turnR x.a 2 ^^^ turnR x.a 13 ^^^ turnR x.a 22) + ((x.a &&& x.b) ^^^ (x.a &&& x.c) ^^^ (x.b &&& x.c))) % M32
  ⟨(t1 + t2) % M32, x.a, x.b, x.c, (x.d + t1) % M32, x.e, x.f, x.g⟩
def stepsN (x : W8) : List (Nat × Nat) → W8
  | [] => x
  | p :: l => stepsN (step8 x p.1 p.2) l
def roundN (h : List Nat) (b : List Nat) : List Nat := (h.zip (to8 (stepsN (of8 h) (stepsK.zip (wordsK b 64))))).map fun p => (p.1 + p.2) % M32
def be8 (n : Nat) : List Nat := (List.range 8).map fun i => n / 256 ^ (7 - i) % 256
def longerN (b : List Nat) : List Nat := b ++ 128 :: List.replicate ((119 - b.length % 64) % 64) 0 ++ be8 (b.length * 8)
def roundsN (h : List Nat) (all : List Nat) : Nat → List Nat
  | 0 => h
  | k + 1 => roundN (roundsN h all k) ((all.drop (k * 64)).take 64)
def be4 (n : Nat) : List Nat := [n / 16777216 % 256, n / 65536 % 256, n / 256 % 256, n % 256]
def digN (b : List Nat) : List Nat := (roundsN firstH (longerN b) ((longerN b).length / 64)).flatMap be4
def keyN (s : List Nat) : List Nat := let k := if 64 < s.length then digN s else s; k ++ List.replicate (64 - k.length) 0
def sealN (s b : List Nat) : List Nat := digN ((keyN s).map (· ^^^ 92) ++ digN ((keyN s).map (· ^^^ 54) ++ b))
def passN (s b : List Nat) : Nat → List Nat
  | 0 => b
  | k + 1 => sealN s (passN s b k)
theorem dig_abc : hexN (digN [97, 98, 99]) = [98, 97, 55, 56, 49, 54, 98, 102, 56, 102, 48, 49, 99, 102, 101, 97, 52, 49, 52, 49, 52, 48, 100, 101, 53, 100, 97, 101, 50, 50, 50, 51, 98, 48, 48, 51, 54, 49, 97, 51, 57, 54, 49, 55, 55, 97, 57, 99, 98, 52, 49, 48, 102, 102, 54, 49, 102, 50, 48, 48, 49, 53, 97, 100] := by kernel_rfl
theorem dig_none : hexN (digN []) = [101, 51, 98, 48, 99, 52, 52, 50, 57, 56, 102, 99, 49, 99, 49, 52, 57, 97, 102, 98, 102, 52, 99, 56, 57, 57, 54, 102, 98, 57, 50, 52, 50, 55, 97, 101, 52, 49, 101, 52, 54, 52, 57, 98, 57, 51, 52, 99, 97, 52, 57, 53, 57, 57, 49, 98, 55, 56, 53, 50, 98, 56, 53, 53] := by kernel_rfl
end Go.Proofs.YtoagaddciapmkaaDoor
