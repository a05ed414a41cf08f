/-
  Contracts of sumStep and Sum.
-/
import Derived.Shelf.Strconv.Itoa3
import Derived.Ground.NamesProg
import Derived.Test.YtiakfdhbbkpfhaaGreatDoorProg
import Derived.WalkKit
import Derived.Laws.BitsAllLaws
import Derived.Laws.BytesArg
import Derived.WideShapes
import Derived.OpenShut
import Derived.ProofKit
import Derived.Lib.SmallJoins
import Derived.Deep.SlicePairs
import Derived.Laws.AppendOwnNone
import Derived.WalkSpells
import Derived.WalkLawsBesides
namespace Go.Proofs.YtiakfdhbbkpfhaaGreatDoor
open Go.Shelf
def laysItoa_ren : Go.Shelf.Ren := ⟨fun | 171 => 148 | 243 => 172 | 246 => 183 | 283 => 187 | 284 => 188 | 285 => 189 | 286 => 190 | 129 => 168 | 317 => 199 | 318 => 200 | 319 => 201 | 320 => 202 | 337 => 206 | 338 => 207 | n => n, fun | 3 => 3 | 9 => 9 | 2 => 2 | 4 => 4 | 171 => 266 | 0 => 0 | 53 => 141 | 37 => 22 | 5 => 5 | 173 => 268 | 212 => 276 | 51 => 246 | 20 => 20 | 213 => 277 | 46 => 213 | 232 => 281 | 233 => 282 | n => n, fun | 17 => 2 | 18 => 3 | 19 => 4 | n => n⟩
theorem laysItoa : Go.Proofs.LaysM.n171 Tryz.prog laysItoa_ren := {
  mixed := by kernel_rfl
  f129 := Tryz.func168.trans (congrArg some (by kernel_rfl))
  f171 := Tryz.func148.trans (congrArg some (by kernel_rfl))
  f243 := Tryz.func172.trans (congrArg some (by kernel_rfl))
  f246 := Tryz.func183.trans (congrArg some (by kernel_rfl))
  f283 := Tryz.func187.trans (congrArg some (by kernel_rfl))
  f284 := Tryz.func188.trans (congrArg some (by kernel_rfl))
  f285 := Tryz.func189.trans (congrArg some (by kernel_rfl))
  f286 := Tryz.func190.trans (congrArg some (by kernel_rfl))
  f317 := Tryz.func199.trans (congrArg some (by kernel_rfl))
  f318 := Tryz.func200.trans (congrArg some (by kernel_rfl))
  f319 := Tryz.func201.trans (congrArg some (by kernel_rfl))
  f320 := Tryz.func202.trans (congrArg some (by kernel_rfl))
  f337 := Tryz.func206.trans (congrArg some (by kernel_rfl))
  f338 := Tryz.func207.trans (congrArg some (by kernel_rfl))
  t0 := Tryz.underlying0
  a0 := Tryz.isAgg0
  z0 := Tryz.sizeOf0
  v0 := Tryz.zeroValue0
  t2 := Tryz.underlying2
  a2 := Tryz.isAgg2
  z2 := Tryz.sizeOf2
  v2 := Tryz.zeroValue2
  t3 := Tryz.underlying3
  a3 := Tryz.isAgg3
  z3 := Tryz.sizeOf3
  v3 := Tryz.zeroValue3
  t4 := Tryz.underlying4
  a4 := Tryz.isAgg4
  z4 := Tryz.sizeOf4
  v4 := Tryz.zeroValue4
  t5 := Tryz.underlying5
  a5 := Tryz.isAgg5
  z5 := Tryz.sizeOf5
  v5 := Tryz.zeroValue5
  t9 := Tryz.underlying9
  a9 := Tryz.isAgg9
  z9 := Tryz.sizeOf9
  v9 := Tryz.zeroValue9
  t20 := Tryz.underlying20
  a20 := Tryz.isAgg20
  z20 := Tryz.sizeOf20
  v20 := Tryz.zeroValue20
  t37 := Tryz.underlying22
  a37 := Tryz.isAgg22
  z37 := Tryz.sizeOf22
  v37 := Tryz.zeroValue22
  t46 := Tryz.underlying213
  a46 := Tryz.isAgg213
  z46 := Tryz.sizeOf213
  v46 := Tryz.zeroValue213
  t51 := Tryz.underlying246
  a51 := Tryz.isAgg246
  z51 := Tryz.sizeOf246
  v51 := Tryz.zeroValue246
  t53 := Tryz.underlying141
  a53 := Tryz.isAgg141
  z53 := Tryz.sizeOf141
  v53 := Tryz.zeroValue141
  t171 := Tryz.underlying266
  a171 := Tryz.isAgg266
  z171 := Tryz.sizeOf266
  v171 := Tryz.zeroValue266
  t173 := Tryz.underlying268
  a173 := Tryz.isAgg268
  z173 := Tryz.sizeOf268
  v173 := Tryz.zeroValue268
  t212 := Tryz.underlying276
  a212 := Tryz.isAgg276
  z212 := Tryz.sizeOf276
  v212 := Tryz.zeroValue276
  t213 := Tryz.underlying277
  a213 := Tryz.isAgg277
  z213 := Tryz.sizeOf277
  t232 := Tryz.underlying281
  a232 := Tryz.isAgg281
  z232 := Tryz.sizeOf281
  v232 := Tryz.zeroValue281
  t233 := Tryz.underlying282
  a233 := Tryz.isAgg282
  z233 := Tryz.sizeOf282
  v233 := Tryz.zeroValue282
  g17 := by kernel_rfl
  g18 := by kernel_rfl
  g19 := by kernel_rfl
  i0 := by kernel_rfl
  i2 := by kernel_rfl
  i3 := by kernel_rfl
  i4 := by kernel_rfl
  i5 := by kernel_rfl
  i9 := by kernel_rfl
  i20 := by kernel_rfl
  i37 := by kernel_rfl
  i46 := by kernel_rfl
  i51 := by kernel_rfl
  i53 := by kernel_rfl
  i171 := by kernel_rfl
  i173 := by kernel_rfl
  i212 := by kernel_rfl
  i232 := by kernel_rfl
  i233 := by kernel_rfl
  m17 := by kernel_rfl
  m18 := by kernel_rfl
  m19 := by kernel_rfl }
end Go.Proofs.YtiakfdhbbkpfhaaGreatDoor
namespace Go.Proofs.YtiakfdhbbkpfhaaGreatDoor
open Go.RowKit Go.WideShapes

/-- One bit of the cyclic sum. -/
def crcBit (r : Nat) : Nat := if r % 2 = 1 then r / 2 ^^^ 3988292384 else r / 2
def crcBits : Nat → Nat → Nat
  | 0, r => r
  | k + 1, r => crcBit (crcBits k r)
def crc (r : Nat) (xs : List Nat) : Nat := xs.foldl (fun r c => crcBits 8 (r ^^^ c)) r
def sumN (xs : List Nat) : Nat := 4294967295 ^^^ crc 4294967295 xs

theorem crcBit_lt (r : Nat) (h : r < 4294967296) : crcBit r < 4294967296 := by
  unfold crcBit
  split
  · exact Nat.xor_lt_two_pow (n := 32) (by omega) (by omega)
  · omega
theorem crcBits_lt (k r : Nat) (h : r < 4294967296) : crcBits k r < 4294967296 := by
  induction k with
  | zero => exact h
  | succ k ih => exact crcBit_lt _ ih
theorem crc_lt (xs : List Nat) : ∀ r, r < 4294967296 → (∀ c ∈ xs, c < 256) → crc r xs < 4294967296 := by
  induction xs with
  | nil => intro r h _; exact h
  | cons c xs ih =>
    intro r h hx
    have hc := hx c (by simp)
    exact ih _ (crcBits_lt 8 _ (Nat.xor_lt_two_pow (n := 32) (by omega) (by omega))) (fun c hc => hx c (by simp [hc]))
theorem crc_snoc (r : Nat) (xs : List Nat) (c : Nat) : crc r (xs ++ [c]) = crcBits 8 (crc r xs ^^^ c) := by simp [crc, List.foldl_append]
theorem crc_take (r : Nat) (xs : List Nat) (k : Nat) (h : k < xs.length) : crc r (xs.take (k + 1)) = crcBits 8 (crc r (xs.take k) ^^^ xs.getD k 0) := by
  rw [List.take_succ_eq_append_getElem h, crc_snoc]; simp [List.getD, List.getElem?_eq_getElem h]
theorem bit_odd (r : Nat) (h : r < 4294967296) : (bits BinOp.and IntKind.u32 (r : Int) 1 == 1) = decide (r % 2 = 1) := by
  have e : bits BinOp.and IntKind.u32 (r : Int) 1 = ((r % 2 : Nat) : Int) := by
    rw [show (1 : Int) = ((1 : Nat) : Int) from rfl, u32_and_nat r 1 h (by decide), Nat.and_one_is_mod]
  rw [e]
  rcases Nat.mod_two_eq_zero_or_one r with h | h <;> simp [h]
theorem bit_xor (r : Nat) (h : r < 4294967296) : bits BinOp.xor IntKind.u32 (r : Int) 3988292384 = ((r ^^^ 3988292384 : Nat) : Int) := u32_xor_nat r 3988292384 h (by decide)
theorem byte_xor (r c : Nat) (h : r < 4294967296) (hc : c < 256) : bits BinOp.xor IntKind.u32 (r : Int) (c : Int) = ((r ^^^ c : Nat) : Int) := u32_xor_nat r c h (by omega)
theorem sum_not (xs : List Nat) (h : crc 4294967295 xs < 4294967296) : bits BinOp.xor IntKind.u32 IntKind.u32.max (crc 4294967295 xs : Nat) = ((sumN xs : Nat) : Int) := by
  rw [show IntKind.u32.max = ((4294967295 : Nat) : Int) from rfl]
  exact u32_xor_nat 4294967295 _ (by decide) h
theorem getD_lt {xs : List Nat} (h : ∀ c ∈ xs, c < 256) (k : Nat) : xs.getD k 0 < 256 := by
  rcases Nat.lt_or_ge k xs.length with hk | hk
  · rw [List.getD, List.getElem?_eq_getElem hk]; exact h _ (List.getElem_mem hk)
  · simp [List.getD, List.getElem?_eq_none hk]
/-- The string of a list of bytes. -/
def strOf (xs : List Nat) : ByteArray := strOfNums (xs.map fun n : Nat => (n : Int))
theorem strOf_list (xs : List Nat) : (strOf xs).data.toList = xs.map UInt8.ofNat := by
  simp [strOf, strOfNums_data, Function.comp_def]
theorem strOf_size (xs : List Nat) : (strOf xs).size = xs.length := by simp [strOf, strOfNums_size]
theorem map_ofNat_inj : ∀ {xs ys : List Nat}, (∀ c ∈ xs, c < 256) → (∀ c ∈ ys, c < 256) → xs.map UInt8.ofNat = ys.map UInt8.ofNat → xs = ys
  | [], [], _, _, _ => rfl
  | [], _ :: _, _, _, h => by simp at h
  | _ :: _, [], _, _, h => by simp at h
  | x :: xs, y :: ys, hx, hy, h => by
    simp only [List.map_cons, List.cons.injEq] at h
    have h1 := congrArg UInt8.toNat h.1
    have a := hx x (by simp)
    have b := hy y (by simp)
    simp only [UInt8.toNat_ofNat'] at h1
    have e : x = y := by omega
    rw [e, map_ofNat_inj (fun c hc => hx c (by simp [hc])) (fun c hc => hy c (by simp [hc])) h.2]
theorem strOf_eq {xs ys : List Nat} (hx : ∀ c ∈ xs, c < 256) (hy : ∀ c ∈ ys, c < 256) : (strOf xs).data.toList = (strOf ys).data.toList ↔ xs = ys := by
  rw [strOf_list, strOf_list]
  exact ⟨fun h => map_ofNat_inj hx hy h, fun h => by rw [h]⟩

/-- Small bytes of a number. -/
def smallN (n : Nat) : List Nat := if n < 128 then [n] else (n % 128 + 128) :: smallN (n / 128)
termination_by n
decreasing_by omega
theorem smallN_lo {n : Nat} (h : n < 128) : smallN n = [n] := by rw [smallN, if_pos h]
theorem smallN_hi {n : Nat} (h : ¬ n < 128) : smallN n = (n % 128 + 128) :: smallN (n / 128) := by rw [smallN, if_neg h]
theorem smallN_len (k : Nat) : ∀ n, n < 128 ^ (k + 1) → (smallN n).length ≤ k + 1 := by
  induction k with
  | zero => intro n h; rw [smallN_lo (by simpa using h)]; simp
  | succ k ih =>
    intro n h
    by_cases hn : n < 128
    · rw [smallN_lo hn]; simp
    · rw [smallN_hi hn]
      have := ih (n / 128) (by rw [Nat.div_lt_iff_lt_mul (by decide)]; rwa [Nat.pow_succ] at h)
      simp; omega
theorem smallN_ten (n : Nat) (h : n < 18446744073709551616) : (smallN n).length ≤ 10 := smallN_len 9 n (by omega)
theorem smallN_pos (n : Nat) : 0 < (smallN n).length := by rw [smallN]; split <;> simp
theorem smallN_bytes (n : Nat) : ∀ c ∈ smallN n, c < 256 := by
  induction n using Nat.strongRecOn with
  | _ n ih =>
    by_cases hn : n < 128
    · rw [smallN_lo hn]; simp; omega
    · rw [smallN_hi hn]
      intro c hc
      rcases List.mem_cons.1 hc with h | h
      · omega
      · exact ih (n / 128) (by omega) c h
/-- Cells of bytes. -/
def Bs (xs : List Nat) : List Value := xs.map fun n : Nat => Value.int .u8 (n : Int)
theorem Bs_len (xs : List Nat) : (Bs xs).length = xs.length := by simp [Bs]
theorem Bs_app (xs ys : List Nat) : Bs (xs ++ ys) = Bs xs ++ Bs ys := by simp [Bs]
theorem or128 (m : Nat) : bits BinOp.or IntKind.u8 ((m : Int) % 256) 128 = ((m % 128 + 128 : Nat) : Int) := by
  rw [show ((m : Int) % 256) = ((m % 256 : Nat) : Int) from by omega, show (128 : Int) = ((128 : Nat) : Int) from rfl, u8_or_nat (m % 256) 128 (by omega) (by decide)]
  congr 1
  have : ∀ x, x < 256 → x ||| 128 = x % 128 + 128 := by decide +kernel
  rw [this _ (by omega)]; omega

/-- Two numbers of which one has the low bits alone, the other the high ones. -/
theorem or_join (k x y z : Nat) (hx : x < 2 ^ k) (hz : y * 2 ^ k + x < 18446744073709551616) (m : Int) (hm : m = ((y * 2 ^ k : Nat) : Int)) (he : z = y * 2 ^ k + x) : bits BinOp.or IntKind.u64 (x : Int) m = (z : Int) := by
  subst hm he
  rw [u64_or_nat x (y * 2 ^ k) (by omega) (by omega), Nat.or_comm, Nat.mul_comm y, ← Nat.two_pow_add_eq_or_of_lt hx]
/-- Eight bytes as a number, the lowest first; and the bytes of a number. -/
def joinN (a0 a1 a2 a3 a4 a5 a6 a7 : Nat) : Nat := a0 + 256 * (a1 + 256 * (a2 + 256 * (a3 + 256 * (a4 + 256 * (a5 + 256 * (a6 + 256 * a7))))))
def putN (n : Nat) : List Nat := [n % 256, n / 256 % 256, n / 65536 % 256, n / 16777216 % 256, n / 4294967296 % 256, n / 1099511627776 % 256, n / 281474976710656 % 256, n / 72057594037927936]
theorem putN_bytes (n : Nat) (h : n < 18446744073709551616) : ∀ c ∈ putN n, c < 256 := by
  intro c hc
  simp only [putN, List.mem_cons, List.not_mem_nil, or_false] at hc
  rcases hc with h | h | h | h | h | h | h | h <;> omega
theorem join_put (n : Nat) (h : n < 18446744073709551616) : joinN (n % 256) (n / 256 % 256) (n / 65536 % 256) (n / 16777216 % 256) (n / 4294967296 % 256) (n / 1099511627776 % 256) (n / 281474976710656 % 256) (n / 72057594037927936) = n := by
  unfold joinN; omega

/-- Small bytes read, from the place i on, with the number so far. -/
def readAux : Nat → Nat → List Nat → Option (Nat × Nat)
  | _, _, [] => none
  | i, acc, c :: xs => if i = 9 ∧ 1 < c then none else if 128 ≤ c then readAux (i + 1) (c % 128 * 2 ^ (7 * i) + acc) xs else if c = 0 ∧ 0 < i then none else some (c * 2 ^ (7 * i) + acc, i + 1)
def readN (xs : List Nat) : Option (Nat × Nat) := readAux 0 0 xs
theorem and127 (c : Nat) (h : c < 256) : bits BinOp.and IntKind.u8 (c : Int) 127 = ((c % 128 : Nat) : Int) := by
  rw [show (127 : Int) = ((127 : Nat) : Int) from rfl, u8_and_nat c 127 h (by decide)]
  congr 1
  exact Nat.and_two_pow_sub_one_eq_mod c 7
end Go.Proofs.YtiakfdhbbkpfhaaGreatDoor
namespace Go.Proofs.YtiakfdhbbkpfhaaGreatDoor
open Go.RowKit Go.WideShapes Go.ChangeShapes Go.Deep Go.Joins

/-- A []byte of the numbers xs: where it has a byte, at an address with its cells. -/
def BIn (w : World) (p : Option Addr) (xs : List Nat) : Prop :=
  (0 < xs.length → ∃ b o, p = some ⟨b, o, none⟩ ∧ ∀ i, i < xs.length → w.cell? ⟨b, o + i, none⟩ = some (.int .u8 (xs.getD i 0 : Nat))) ∧ ∀ c ∈ xs, c < 256
/-- A []byte value: its address, how long, its room. -/
structure Row (w : World) (v : Value) (xs : List Nat) : Prop where
  lies : ∃ p c, v = .slice p xs.length c ∧ BIn w p xs ∧ xs.length ≤ c ∧ c ≤ maxLen ∧ (p = none → c = 0)
/-- A []Put: sectors that are written, each with its bytes. -/
def PutsIn (w : World) (q : Option Addr) (ws : List (Int × List Nat)) : Prop :=
  0 < ws.length → ∃ b o, q = some ⟨b, o, none⟩ ∧ ∀ i, i < ws.length → w.cell? ⟨b, o + i * 2, none⟩ = some (.int .i64 (ws.getD i (0, [])).1) ∧ ∃ v, w.cell? ⟨b, o + (i * 2 + 1), none⟩ = some v ∧ Row w v (ws.getD i (0, [])).2

section
variable {P : Program} {w : World} {H : Type} {enc : TypeId × Value → H}

theorem open_bytes {t e : TypeId} {n : Nat} {v : Value} {x : DataW H × List MemPlace} (ht : P.underlying t = some (.slice e)) (he : P.underlying e = some (.int .u8)) (hc : P.cellsOf e = 1)
    (h : DataW.trod enc P w 0 (fun _ => true) true n t [v] = some x) : ∃ xs, Row w v xs := by
  rcases open_ints ht he hc h with ⟨hcs, _⟩ | ⟨a, len, cap, zs, hcs, _, hl, hm, hz, _, hcell, hwz⟩
  · simp only [List.cons.injEq, and_true] at hcs
    exact ⟨[], ⟨none, 0, hcs, ⟨fun h => absurd h (by simp), by simp⟩, by simp, by unfold maxLen; omega, fun _ => rfl⟩⟩
  · simp only [List.cons.injEq, and_true] at hcs
    have hz' : zs.length = cap := by simpa using hz
    have hb : ∀ n ∈ zs, 0 ≤ n ∧ n ≤ 255 := fun n hn => bounds_u8 (hwz n hn)
    have hlen : ((zs.take len).map Int.toNat).length = len := by simp; omega
    refine ⟨(zs.take len).map Int.toNat, ⟨some a, cap, by rw [hlen]; exact hcs, ⟨fun hp => ?_, ?_⟩, by rw [hlen]; exact hl, hm, by simp⟩⟩
    · rw [hlen] at hp
      obtain ⟨b, o, s⟩ := a
      obtain rfl : s = none := by simpa [Addr.add] using World.cell?_spot (hcell 0 (by omega))
      refine ⟨b, o, rfl, fun i hi => ?_⟩
      rw [hlen] at hi
      rw [← add_plain, hcell i (by omega)]
      have hi' : i < zs.length := by omega
      have := hb _ (List.getElem_mem hi')
      simp [List.getD, List.getElem?_map, hi, List.getElem?_eq_getElem hi', Int.toNat_of_nonneg this.1]
    · intro c hc
      simp only [List.mem_map] at hc
      obtain ⟨n, hn, rfl⟩ := hc
      have := hb n (List.mem_of_mem_take hn)
      omega

theorem open_puts {t e tb eb : TypeId} {f0 f1 : Field} {n : Nat} {v : Value} {x : DataW H × List MemPlace} (ht : P.underlying t = some (.slice e)) (he : P.underlying e = some (.struct #[f0, f1])) (ce : P.cellsOf e = 2) (o0 : f0.offset = 0) (o1 : f1.offset = 1)
    (c0 : P.cellsOf f0.type = 1) (c1 : P.cellsOf f1.type = 1) (k0 : P.underlying f0.type = some (.int .i64)) (k1 : f1.type = tb) (hb : P.underlying tb = some (.slice eb)) (heb : P.underlying eb = some (.int .u8)) (hceb : P.cellsOf eb = 1)
    (h : DataW.trod enc P w 0 (fun _ => true) true n t [v] = some x) :
    ∃ q ws c, v = .slice q (List.length (α := Int × List Nat) ws) c ∧ PutsIn w q ws ∧ ws.length ≤ c ∧ c ≤ maxLen ∧ (q = none → c = 0) ∧ ∀ y ∈ ws, (Lit.int .i64 y.1).wf = true := by
  subst k1
  rcases open_slice_pairs ht he ce o0 o1 c0 c1 h with ⟨hcs, _⟩ | ⟨a, len, cap, m, k, V0, V1, D0, D1, P0, P1, hcs, _, hl, hm, hmm, _, hel⟩
  · simp only [List.cons.injEq, and_true] at hcs
    exact ⟨none, [], 0, hcs, fun h => absurd h (by simp), by simp, by unfold maxLen; omega, fun _ => rfl, by simp⟩
  · simp only [List.cons.injEq, and_true] at hcs
    have hmc : m = cap := by simpa using hmm
    have each : ∀ i, i < len → ∃ y : Int × List Nat, V0 i = .int .i64 y.1 ∧ (Lit.int .i64 y.1).wf = true ∧ Row w (V1 i) y.2 := by
      intro i hi
      obtain ⟨_, _, t0, t1⟩ := hel i (by omega)
      obtain ⟨z, hz, _, wz⟩ := DataW.trod_int k0 t0
      obtain ⟨xs, hx⟩ := open_bytes hb heb hceb t1
      simp only [List.cons.injEq, and_true] at hz
      exact ⟨(z, xs), hz, wz, hx⟩
    obtain ⟨f, hf⟩ := choose_lt each
    have hlen : ((List.range len).map f).length = len := by simp
    have hget : ∀ i, i < len → ((List.range len).map f).getD i (0, []) = f i := by intro i hi; simp [List.getD, hi]
    refine ⟨some a, (List.range len).map f, cap, by rw [hlen]; exact hcs, fun hp => ?_, by rw [hlen]; exact hl, hm, by simp, ?_⟩
    · rw [hlen] at hp
      obtain ⟨b, o, s⟩ := a
      obtain rfl : s = none := by
        have := World.cell?_spot (hel 0 (by omega)).1
        simpa [Addr.add] using this
      refine ⟨b, o, rfl, fun i hi => ?_⟩
      rw [hlen] at hi
      obtain ⟨e0, e1, _, _⟩ := hel i (by omega)
      obtain ⟨g0, _, g2⟩ := hf i hi
      rw [hget i hi]
      rw [add_plain] at e0 e1
      exact ⟨by rw [e0, g0], V1 i, e1, g2⟩
    · intro y hy
      simp only [List.mem_map, List.mem_range] at hy
      obtain ⟨i, hi, rfl⟩ := hy
      exact (hf i hi).2.1

/-- A disk by value: its count, its bytes, the writes that wait. -/
structure DiskIn (w : World) (v : Value) (count : Int) (data : List Nat) (ws : List (Int × List Nat)) : Prop where
  lies : ∃ dv q c, v = .agg #[.int .i64 count, dv, .slice q ws.length c] ∧ Row w dv data ∧ PutsIn w q ws ∧ ws.length ≤ c ∧ c ≤ maxLen ∧ (q = none → c = 0)
  count_wf : (Lit.int .i64 count).wf = true
  puts_wf : ∀ y ∈ ws, (Lit.int .i64 y.1).wf = true

theorem open_disk {tD t e tb eb : TypeId} {d0 d1 d2 f0 f1 : Field} {r : Reach} {b0 : Nat} {v : Value} {d : DataW H} {p : List MemPlace}
    (hD : P.underlying tD = some (.struct #[d0, d1, d2])) (hone : oneCellFields P #[d0, d1, d2] = true) (hC : P.cellsOf tD = 3)
    (kd0 : P.underlying d0.type = some (.int .i64)) (kd1 : d1.type = tb) (kd2 : d2.type = t)
    (ht : P.underlying t = some (.slice e)) (he : P.underlying e = some (.struct #[f0, f1])) (ce : P.cellsOf e = 2) (o0 : f0.offset = 0) (o1 : f1.offset = 1)
    (c0 : P.cellsOf f0.type = 1) (c1 : P.cellsOf f1.type = 1) (k0 : P.underlying f0.type = some (.int .i64)) (k1 : f1.type = tb) (hb : P.underlying tb = some (.slice eb)) (heb : P.underlying eb = some (.int .u8)) (hceb : P.cellsOf eb = 1)
    (hv : Value.okWide P w r b0 tD v) (h : DataW.Trod enc P w 0 (fun _ => true) true tD v d p) : ∃ count data ws, DiskIn w v count data ws := by
  obtain ⟨v0, v1, v2, y0, y1, y2, n, rfl, _, _, h0, h1, h2⟩ := open_agg3 hD hone hC hv h
  obtain ⟨z, hz, _, wz⟩ := DataW.trod_int kd0 h0
  simp only [List.cons.injEq, and_true] at hz
  subst hz
  rw [kd1] at h1
  rw [kd2] at h2
  obtain ⟨xs, hx⟩ := open_bytes hb heb hceb h1
  obtain ⟨q, ws, c, rfl, g1, g2, g3, g4, g5⟩ := open_puts ht he ce o0 o1 c0 c1 k0 k1 hb heb hceb h2
  exact ⟨z, xs, ws, ⟨v1, q, c, rfl, hx, g1, g2, g3, g4⟩, wz, g5⟩

/-- A []bool. -/
def BoolsIn (w : World) (p : Option Addr) (bs : List Bool) : Prop :=
  0 < bs.length → ∃ b o, p = some ⟨b, o, none⟩ ∧ ∀ i, i < bs.length → w.cell? ⟨b, o + i, none⟩ = some (.bool (bs.getD i false))
theorem open_bools {t e : TypeId} {n : Nat} {v : Value} {x : DataW H × List MemPlace} (ht : P.underlying t = some (.slice e)) (he : P.underlying e = some .bool) (hc : P.cellsOf e = 1)
    (h : DataW.trod enc P w 0 (fun _ => true) true n t [v] = some x) : ∃ p bs c, v = .slice p (List.length (α := Bool) bs) c ∧ BoolsIn w p bs ∧ bs.length ≤ c ∧ c ≤ maxLen ∧ (p = none → c = 0) := by
  rcases open_slice1 ht hc h with ⟨hcs, _⟩ | ⟨a, len, cap, m, k, V, D, Pl, hcs, _, hl, hm, hmm, _, hel⟩
  · simp only [List.cons.injEq, and_true] at hcs
    exact ⟨none, [], 0, hcs, fun h => absurd h (by simp), by simp, by unfold maxLen; omega, fun _ => rfl⟩
  · simp only [List.cons.injEq, and_true] at hcs
    have hmc : m = cap := by simpa using hmm
    have each : ∀ i, i < len → ∃ y : Bool, V i = .bool y := by
      intro i hi
      obtain ⟨_, t0⟩ := hel i (by omega)
      obtain ⟨z, hz, _⟩ := DataW.trod_bool he t0
      simp only [List.cons.injEq, and_true] at hz
      exact ⟨z, hz⟩
    obtain ⟨f, hf⟩ := choose_lt each
    have hlen : ((List.range len).map f).length = len := by simp
    refine ⟨some a, (List.range len).map f, cap, by rw [hlen]; exact hcs, fun hp => ?_, by rw [hlen]; exact hl, hm, by simp⟩
    rw [hlen] at hp
    obtain ⟨b, o, s⟩ := a
    obtain rfl : s = none := by simpa [Addr.add] using World.cell?_spot (hel 0 (by omega)).1
    refine ⟨b, o, rfl, fun i hi => ?_⟩
    rw [hlen] at hi
    have e0 := (hel i (by omega)).1
    rw [add_plain] at e0
    rw [e0, hf i hi]
    simp [List.getD, hi]

/-- A []Act: three cells each: whether it flushes, its sector, its bytes. -/
def ActsIn (w : World) (q : Option Addr) (l : List (Bool × Int × List Nat)) : Prop :=
  0 < l.length → ∃ b o, q = some ⟨b, o, none⟩ ∧ ∀ i, i < l.length → w.cell? ⟨b, o + i * 3, none⟩ = some (.bool (l.getD i (false, 0, [])).1) ∧ w.cell? ⟨b, o + (i * 3 + 1), none⟩ = some (.int .i64 (l.getD i (false, 0, [])).2.1) ∧
    ∃ v, w.cell? ⟨b, o + (i * 3 + 2), none⟩ = some v ∧ Row w v (l.getD i (false, 0, [])).2.2
theorem open_acts {t e ep tb eb : TypeId} {a0 a1 f0 f1 : Field} {n : Nat} {v : Value} {x : DataW H × List MemPlace} (ht : P.underlying t = some (.slice e)) (he : P.underlying e = some (.struct #[a0, a1])) (ce : P.cellsOf e = 3) (oa0 : a0.offset = 0) (oa1 : a1.offset = 1)
    (ca0 : P.cellsOf a0.type = 1) (ka0 : P.underlying a0.type = some .bool) (ka1 : a1.type = ep) (hep : P.underlying ep = some (.struct #[f0, f1])) (cep : P.cellsOf ep = 2) (o0 : f0.offset = 0) (o1 : f1.offset = 1)
    (c0 : P.cellsOf f0.type = 1) (c1 : P.cellsOf f1.type = 1) (k0 : P.underlying f0.type = some (.int .i64)) (k1 : f1.type = tb) (hb : P.underlying tb = some (.slice eb)) (heb : P.underlying eb = some (.int .u8)) (hceb : P.cellsOf eb = 1)
    (h : DataW.trod enc P w 0 (fun _ => true) true n t [v] = some x) :
    ∃ q l c, v = .slice q (List.length (α := Bool × Int × List Nat) l) c ∧ ActsIn w q l ∧ l.length ≤ c ∧ c ≤ maxLen ∧ (q = none → c = 0) ∧ ∀ y ∈ l, (Lit.int .i64 y.2.1).wf = true := by
  subst ka1 k1
  rcases open_slice ht h with ⟨hcs, _⟩ | ⟨a, len, cap, m, k, D, Pl, hcs, _, hl, hm, hmm, _, hel⟩
  · simp only [List.cons.injEq, and_true] at hcs
    exact ⟨none, [], 0, hcs, fun h => absurd h (by simp), by simp, by unfold maxLen; omega, fun _ => rfl, by simp⟩
  · simp only [List.cons.injEq, and_true] at hcs
    have hmc : m = cap := by simpa using hmm
    have each : ∀ i, i < len → ∃ y : Bool × Int × List Nat, w.cell? (a.add (i * 3)) = some (.bool y.1) ∧ w.cell? (a.add (i * 3 + 1)) = some (.int .i64 y.2.1) ∧ (Lit.int .i64 y.2.1).wf = true ∧ ∃ v, w.cell? (a.add (i * 3 + 2)) = some v ∧ Row w v y.2.2 := by
      intro i hi
      obtain ⟨cs', h1, h2⟩ := hel i (by omega)
      rw [ce] at h1
      obtain ⟨_, hlen, hcell⟩ := World.cells?_some h1
      obtain ⟨y0, y1, n1, _, _, g0, g1⟩ := trod_struct2 he h2
      match cs', hlen with
      | [v0, v1, v2], _ =>
        simp only [oa0, oa1, ca0, cep, List.drop_zero, List.drop_succ_cons, List.take_succ_cons, List.take_zero] at g0 g1
        obtain ⟨z, hz, _⟩ := DataW.trod_bool ka0 g0
        obtain ⟨u0, u1, n2, _, _, p0, p1⟩ := trod_struct2 hep g1
        simp only [o0, o1, c0, c1, List.drop_zero, List.drop_succ_cons, List.take_succ_cons, List.take_zero] at p0 p1
        obtain ⟨zi, hzi, _, wzi⟩ := DataW.trod_int k0 p0
        obtain ⟨xs, hx⟩ := open_bytes hb heb hceb p1
        simp only [List.cons.injEq, and_true] at hz hzi
        have e0 := hcell 0 (by omega)
        have e1 := hcell 1 (by omega)
        have e2 := hcell 2 (by omega)
        rw [add_add] at e0 e1 e2
        refine ⟨(z, zi, xs), ?_, ?_, wzi, v2, by simpa using e2, hx⟩
        · rw [← hz]; simpa using e0
        · rw [← hzi]; simpa using e1
    obtain ⟨f, hf⟩ := choose_lt each
    have hlen : ((List.range len).map f).length = len := by simp
    have hget : ∀ i, i < len → ((List.range len).map f).getD i (false, 0, []) = f i := by intro i hi; simp [List.getD, hi]
    refine ⟨some a, (List.range len).map f, cap, by rw [hlen]; exact hcs, fun hp => ?_, by rw [hlen]; exact hl, hm, by simp, ?_⟩
    · rw [hlen] at hp
      obtain ⟨b, o, s⟩ := a
      obtain rfl : s = none := by simpa [Addr.add] using World.cell?_spot (hf 0 hp).1
      refine ⟨b, o, rfl, fun i hi => ?_⟩
      rw [hlen] at hi
      obtain ⟨g0, g1, _, vv, g2, g3⟩ := hf i hi
      rw [hget i hi]
      rw [add_plain] at g0 g1 g2
      exact ⟨g0, g1, vv, g2, g3⟩
    · intro y hy
      simp only [List.mem_map, List.mem_range] at hy
      obtain ⟨i, hi, rfl⟩ := hy
      exact (hf i hi).2.2.1
/-! ### What is read again; string(b); appending bytes: over any program -/
theorem BIn.cell {b o : Nat} {xs : List Nat} (h : BIn w (some ⟨b, o, none⟩) xs) (i : Nat) (hi : i < xs.length) : w.cell? ⟨b, o + i, none⟩ = some (.int .u8 (xs.getD i 0 : Nat)) := by
  obtain ⟨b', o', e, hc⟩ := h.1 (by omega)
  simp at e
  obtain ⟨rfl, rfl⟩ := e
  exact hc i hi
theorem BIn.alloc {p : Option Addr} {xs : List Nat} (h : BIn w p xs) (o : Obj) : BIn (w.alloc o) p xs := by
  refine ⟨fun hx => ?_, h.2⟩
  obtain ⟨b, o', rfl, hc⟩ := h.1 hx
  exact ⟨b, o', rfl, fun i hi => (World.cell?_alloc_past o b _ (World.block_lt_of_cell? _ _ (hc i hi))).trans (hc i hi)⟩
theorem BIn.below {w' : World} {p : Option Addr} {xs : List Nat} (h : BIn w p xs) (hb : Below w.heap.size w w') : BIn w' p xs := by
  refine ⟨fun hx => ?_, h.2⟩
  obtain ⟨b, o', rfl, hc⟩ := h.1 hx
  exact ⟨b, o', rfl, fun i hi => (hb.cell (World.block_lt_of_cell? _ _ (hc i hi))).trans (hc i hi)⟩
theorem Row.below {w' : World} {v : Value} {xs : List Nat} (h : Row w v xs) (hb : Below w.heap.size w w') : Row w' v xs := by
  obtain ⟨p, c, h1, h2, h3⟩ := h.lies
  exact ⟨p, c, h1, h2.below hb, h3⟩
theorem PutsIn.below {w' : World} {q : Option Addr} {ws : List (Int × List Nat)} (h : PutsIn w q ws) (hb : Below w.heap.size w w') : PutsIn w' q ws := by
  intro hp
  obtain ⟨b, o, rfl, hc⟩ := h hp
  refine ⟨b, o, rfl, fun i hi => ?_⟩
  obtain ⟨e0, v, e1, hr⟩ := hc i hi
  exact ⟨(hb.cell (World.block_lt_of_cell? _ _ e0)).trans e0, v, (hb.cell (World.block_lt_of_cell? _ _ e1)).trans e1, hr.below hb⟩
theorem DiskIn.below {w' : World} {v : Value} {count : Int} {data : List Nat} {ws : List (Int × List Nat)} (h : DiskIn w v count data ws) (hb : Below w.heap.size w w') : DiskIn w' v count data ws := by
  obtain ⟨dv, q, c, h1, h2, h3, h4⟩ := h.lies
  exact ⟨⟨dv, q, c, h1, h2.below hb, h3.below hb, h4⟩, h.count_wf, h.puts_wf⟩
theorem BoolsIn.below {w' : World} {p : Option Addr} {bs : List Bool} (h : BoolsIn w p bs) (hb : Below w.heap.size w w') : BoolsIn w' p bs := by
  intro hp
  obtain ⟨b, o, rfl, hc⟩ := h hp
  exact ⟨b, o, rfl, fun i hi => (hb.cell (World.block_lt_of_cell? _ _ (hc i hi))).trans (hc i hi)⟩
theorem ActsIn.below {w' : World} {q : Option Addr} {l : List (Bool × Int × List Nat)} (h : ActsIn w q l) (hb : Below w.heap.size w w') : ActsIn w' q l := by
  intro hp
  obtain ⟨b, o, rfl, hc⟩ := h hp
  refine ⟨b, o, rfl, fun i hi => ?_⟩
  obtain ⟨e0, e1, v, e2, hr⟩ := hc i hi
  exact ⟨(hb.cell (World.block_lt_of_cell? _ _ e0)).trans e0, (hb.cell (World.block_lt_of_cell? _ _ e1)).trans e1, v, (hb.cell (World.block_lt_of_cell? _ _ e2)).trans e2, hr.below hb⟩
theorem bin_conv {tb eb ts : TypeId} (htb : P.underlying tb = some (.slice eb)) (heb : P.underlying eb = some (.int .u8)) (hts : P.underlying ts = some .string) {p : Option Addr} {xs : List Nat} {n : Nat} (h : BIn w p xs) (hn : n = xs.length) (c : Nat) :
    (convert tb ts (.slice p n c)).run P w = .ok (.string (strOf xs)) w := by
  subst hn
  rcases Nat.eq_zero_or_pos xs.length with hn | hn
  · obtain rfl : xs = [] := List.eq_nil_of_length_eq_zero hn
    show (convert tb ts (.slice p 0 c)).run P w = _
    rw [run_convert_bytes_string w tb ts eb _ 0 c htb heb hts]
    cases p <;> simp [Conv.bytesToString, loadCells]
    all_goals rfl
  · obtain ⟨b, o, rfl, hc⟩ := h.1 hn
    exact run_convert_bytes_arg w tb eb htb heb b o xs.length c (xs.map fun n : Nat => (n : Int)) (by simp) (fun i hi => by rw [hc i hi]; simp [List.getD, List.getElem?_map]; cases xs[i]? <;> rfl) ts hts
theorem bin_news {b o : Nat} {ys : List Nat} (h : BIn w (some ⟨b, o, none⟩) ys) : ∀ j u, (Bs ys)[j]? = some u → w.cell? ((⟨b, o, none⟩ : Addr).add j) = some u := by
  intro j u hu
  have hj : j < ys.length := by
    rcases Nat.lt_or_ge j ys.length with h | h
    · exact h
    · simp [Bs, List.getElem?_eq_none h] at hu
  rw [add_plain, h.cell j hj]
  simp [Bs, List.getElem?_eq_getElem hj] at hu
  simp [List.getD, List.getElem?_eq_getElem hj, ← hu]
theorem Bs_oneCell (ys : List Nat) : ∀ u ∈ Bs ys, u.oneCell' = true := by
  intro u hu
  simp only [Bs, List.mem_map] at hu
  obtain ⟨b, _, rfl⟩ := hu
  rfl
/-- Appending bytes, wherever they lie (nil, none, a row), to a row of one's own. -/
theorem run_append_row {tb eb : TypeId} {i0 : TypeInfo} (htb : P.underlying tb = some (.slice eb)) (hi : P.info? eb = some i0) (hz0 : i0.zero = some (.int .u8 0)) (hz1 : i0.size = 1) (hz2 : i0.bytes = 1)
    (base : Nat) (ty : TypeId) (v : Value) (xs ys : List Nat) (p : Option Addr) (c : Nat) (hown : w.ownsRow base eb 1 v xs.length (Bs xs)) (hin : BIn w p ys) (hp : p = none → c = 0)
    (hlen : xs.length + ys.length ≤ 140737488355328) (hbase : base ≤ w.heap.size) :
    ∃ v' w', (Builtin.append_ #[tb, tb] ty #[v, .slice p ys.length c]).run P w = .ok v' w' ∧ w'.ownsRow base eb 1 v' (xs ++ ys).length (Bs (xs ++ ys)) ∧ w.grownBy w' v.ownBlock := by
  have hmax : xs.length + ys.length ≤ maxLen := by unfold maxLen; omega
  cases p with
  | none =>
    obtain rfl : ys = [] := by
      cases ys with
      | nil => rfl
      | cons y ys => obtain ⟨b, o, e, _⟩ := hin.1 (by simp); cases e
    obtain rfl := hp rfl
    exact ⟨v, w, run_append_owned_none (P := P) w base tb ty eb i0 1 htb hi v xs.length (Bs xs) hown, by simpa using hown, ⟨rfl, rfl, rfl, Nat.le_refl _, fun _ _ _ => rfl⟩⟩
  | some ad =>
    have hc : ∀ j u, (Bs ys)[j]? = some u → w.cell? (ad.add j) = some u := by
      intro j u hu
      have hpos : 0 < ys.length := by
        cases ys with
        | nil => simp [Bs] at hu
        | cons y ys => simp
      obtain ⟨b, o, e, _⟩ := hin.1 hpos
      simp at e
      subst e
      exact bin_news hin j u hu
    obtain ⟨v', w', h1, h2, h3, _⟩ := run_append_own (P := P) w base tb ty eb i0 (.int .u8 0) 1 1 htb hi hz0 hz1 hz2 rfl (by decide) v xs.length (Bs xs) hown ad ys.length c (Bs ys) (by simp [Bs]) hc (Bs_oneCell ys) hmax (by omega) hbase
    exact ⟨v', w', h1, by simpa [Bs_app] using h2, h3⟩
end
end Go.Proofs.YtiakfdhbbkpfhaaGreatDoor
namespace Go.Proofs.YtiakfdhbbkpfhaaGreatDoor
open Go.RowKit Go.WideShapes

theorem BIn.conv {w : World} {p : Option Addr} {xs : List Nat} (h : BIn w p xs) (c : Nat) :
    (convert 22 9 (.slice p xs.length c)).run Tryz.prog w = .ok (.string (strOf xs)) w := by
  rcases Nat.eq_zero_or_pos xs.length with hn | hn
  · obtain rfl : xs = [] := List.eq_nil_of_length_eq_zero hn
    show (convert 22 9 (.slice p 0 c)).run Tryz.prog w = _
    rw [run_convert_bytes_string w 22 9 5 _ 0 c Tryz.underlying22 Tryz.underlying5 Tryz.underlying9]
    cases p <;> simp [Conv.bytesToString, loadCells]
    all_goals rfl
  · obtain ⟨b, o, rfl, hc⟩ := h.1 hn
    exact run_convert_bytes_arg w 22 5 Tryz.underlying22 Tryz.underlying5 b o xs.length c (xs.map fun n : Nat => (n : Int)) (by simp) (fun i hi => by rw [hc i hi]; simp [List.getD, List.getElem?_map]; cases xs[i]? <;> rfl) 9 Tryz.underlying9
end Go.Proofs.YtiakfdhbbkpfhaaGreatDoor
