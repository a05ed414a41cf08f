/-
  Contract of Small.
-/
import Derived.WalkKit
import Derived.Laws.BitsAllLaws
import Derived.Laws.BytesArg
import Derived.WideShapes
import Derived.OpenShut
import Derived.ProofKit
import Derived.Lib.SmallJoins
import Derived.Deep.SlicePairs
import Derived.Laws.AppendOwnNone
import Derived.Test.YtglcpfnpbcnejaaGreatDoorProg
import Derived.WalkSpells
import Derived.WalkLawsBesides
namespace Go.Proofs.YtglcpfnpbcnejaaGreatDoor
open Go.RowKit Go.WideShapes

theorem getD_lt {xs : List Nat} (h : ∀ c ∈ xs, c < 256) (k : Nat) : xs.getD k 0 < 256 := by
  rcases Nat.lt_or_ge k xs.length with hk | hk
  · rw [List.getD, List.getElem?_eq_getElem hk]; exact h _ (List.getElem_mem hk)
  · simp [List.getD, List.getElem?_eq_none hk]
/-- The string of a list of bytes. -/
def strOf (xs : List Nat) : ByteArray := strOfNums (xs.map fun n : Nat => (n : Int))
theorem strOf_list (xs : List Nat) : (strOf xs).data.toList = xs.map UInt8.ofNat := by
  simp [strOf, strOfNums_data, Function.comp_def]
theorem strOf_size (xs : List Nat) : (strOf xs).size = xs.length := by simp [strOf, strOfNums_size]
theorem map_ofNat_inj : ∀ {xs ys : List Nat}, (∀ c ∈ xs, c < 256) → (∀ c ∈ ys, c < 256) → xs.map UInt8.ofNat = ys.map UInt8.ofNat → xs = ys
  | [], [], _, _, _ => rfl
  | [], _ :: _, _, _, h => by simp at h
  | _ :: _, [], _, _, h => by simp at h
  | x :: xs, y :: ys, hx, hy, h => by
    simp only [List.map_cons, List.cons.injEq] at h
    have h1 := congrArg UInt8.toNat h.1
    have a := hx x (by simp)
    have b := hy y (by simp)
    simp only [UInt8.toNat_ofNat'] at h1
    have e : x = y := by omega
    rw [e, map_ofNat_inj (fun c hc => hx c (by simp [hc])) (fun c hc => hy c (by simp [hc])) h.2]
theorem strOf_eq {xs ys : List Nat} (hx : ∀ c ∈ xs, c < 256) (hy : ∀ c ∈ ys, c < 256) : (strOf xs).data.toList = (strOf ys).data.toList ↔ xs = ys := by
  rw [strOf_list, strOf_list]
  exact ⟨fun h => map_ofNat_inj hx hy h, fun h => by rw [h]⟩

/-- Small bytes of a number. -/
def smallN (n : Nat) : List Nat := if n < 128 then [n] else (n % 128 + 128) :: smallN (n / 128)
termination_by n
decreasing_by omega
theorem smallN_lo {n : Nat} (h : n < 128) : smallN n = [n] := by rw [smallN, if_pos h]
theorem smallN_hi {n : Nat} (h : ¬ n < 128) : smallN n = (n % 128 + 128) :: smallN (n / 128) := by rw [smallN, if_neg h]
theorem smallN_len (k : Nat) : ∀ n, n < 128 ^ (k + 1) → (smallN n).length ≤ k + 1 := by
  induction k with
  | zero => intro n h; rw [smallN_lo (by simpa using h)]; simp
  | succ k ih =>
    intro n h
    by_cases hn : n < 128
    · rw [smallN_lo hn]; simp
    · rw [smallN_hi hn]
      have := ih (n / 128) (by rw [Nat.div_lt_iff_lt_mul (by decide)]; rwa [Nat.pow_succ] at h)
      simp; omega
theorem smallN_ten (n : Nat) (h : n < 18446744073709551616) : (smallN n).length ≤ 10 := smallN_len 9 n (by omega)
theorem smallN_pos (n : Nat) : 0 < (smallN n).length := by rw [smallN]; split <;> simp
theorem smallN_bytes (n : Nat) : ∀ c ∈ smallN n, c < 256 := by
  induction n using Nat.strongRecOn with
  | _ n ih =>
    by_cases hn : n < 128
    · rw [smallN_lo hn]; simp; omega
    · rw [smallN_hi hn]
      intro c hc
      rcases List.mem_cons.1 hc with h | h
      · omega
      · exact ih (n / 128) (by omega) c h
/-- Cells of bytes. -/
def Bs (xs : List Nat) : List Value := xs.map fun n : Nat => Value.int .u8 (n : Int)
theorem Bs_len (xs : List Nat) : (Bs xs).length = xs.length := by simp [Bs]
theorem Bs_app (xs ys : List Nat) : Bs (xs ++ ys) = Bs xs ++ Bs ys := by simp [Bs]
theorem or128 (m : Nat) : bits BinOp.or IntKind.u8 ((m : Int) % 256) 128 = ((m % 128 + 128 : Nat) : Int) := by
  rw [show ((m : Int) % 256) = ((m % 256 : Nat) : Int) from by omega, show (128 : Int) = ((128 : Nat) : Int) from rfl, u8_or_nat (m % 256) 128 (by omega) (by decide)]
  congr 1
  have : ∀ x, x < 256 → x ||| 128 = x % 128 + 128 := by decide +kernel
  rw [this _ (by omega)]; omega

/-- Two numbers of which one has the low bits alone, the other the high ones. -/
theorem or_join (k x y z : Nat) (hx : x < 2 ^ k) (hz : y * 2 ^ k + x < 18446744073709551616) (m : Int) (hm : m = ((y * 2 ^ k : Nat) : Int)) (he : z = y * 2 ^ k + x) : bits BinOp.or IntKind.u64 (x : Int) m = (z : Int) := by
  subst hm he
  rw [u64_or_nat x (y * 2 ^ k) (by omega) (by omega), Nat.or_comm, Nat.mul_comm y, ← Nat.two_pow_add_eq_or_of_lt hx]
/-- Eight bytes as a number, the lowest first; and the bytes of a number. -/
def joinN (a0 a1 a2 a3 a4 a5 a6 a7 : Nat) : Nat := a0 + 256 * (a1 + 256 * (a2 + 256 * (a3 + 256 * (a4 + 256 * (a5 + 256 * (a6 + 256 * a7))))))
def putN (n : Nat) : List Nat := [n % 256, n / 256 % 256, n / 65536 % 256, n / 16777216 % 256, n / 4294967296 % 256, n / 1099511627776 % 256, n / 281474976710656 % 256, n / 72057594037927936]
theorem putN_bytes (n : Nat) (h : n < 18446744073709551616) : ∀ c ∈ putN n, c < 256 := by
  intro c hc
  simp only [putN, List.mem_cons, List.not_mem_nil, or_false] at hc
  rcases hc with h | h | h | h | h | h | h | h <;> omega
theorem join_put (n : Nat) (h : n < 18446744073709551616) : joinN (n % 256) (n / 256 % 256) (n / 65536 % 256) (n / 16777216 % 256) (n / 4294967296 % 256) (n / 1099511627776 % 256) (n / 281474976710656 % 256) (n / 72057594037927936) = n := by
  unfold joinN; omega

/-- Small bytes read, from the place i on, with the number so far. -/
def readAux : Nat → Nat → List Nat → Option (Nat × Nat)
  | _, _, [] => none
  | i, acc, c :: xs => if i = 9 ∧ 1 < c then none else if 128 ≤ c then readAux (i + 1) (c % 128 * 2 ^ (7 * i) + acc) xs else if c = 0 ∧ 0 < i then none else some (c * 2 ^ (7 * i) + acc, i + 1)
def readN (xs : List Nat) : Option (Nat × Nat) := readAux 0 0 xs
theorem and127 (c : Nat) (h : c < 256) : bits BinOp.and IntKind.u8 (c : Int) 127 = ((c % 128 : Nat) : Int) := by
  rw [show (127 : Int) = ((127 : Nat) : Int) from rfl, u8_and_nat c 127 h (by decide)]
  congr 1
  exact Nat.and_two_pow_sub_one_eq_mod c 7
end Go.Proofs.YtglcpfnpbcnejaaGreatDoor
namespace Go.Proofs.YtglcpfnpbcnejaaGreatDoor
open Go.RowKit Go.WideShapes Go.ChangeShapes Go.Deep Go.Joins

/-- A []byte of the numbers xs: where it has a byte, at an address with its cells. -/
def BIn (w : World) (p : Option Addr) (xs : List Nat) : Prop :=
  (0 < xs.length → ∃ b o, p = some ⟨b, o, none⟩ ∧ ∀ i, i < xs.length → w.cell? ⟨b, o + i, none⟩ = some (.int .u8 (xs.getD i 0 : Nat))) ∧ ∀ c ∈ xs, c < 256
/-- A []byte value: its address, how long, its room. -/
structure Row (w : World) (v : Value) (xs : List Nat) : Prop where
  lies : ∃ p c, v = .slice p xs.length c ∧ BIn w p xs ∧ xs.length ≤ c ∧ c ≤ maxLen ∧ (p = none → c = 0)
/-- A []Put: sectors that are written, each with its bytes. -/
def PutsIn (w : World) (q : Option Addr) (ws : List (Int × List Nat)) : Prop :=
  0 < ws.length → ∃ b o, q = some ⟨b, o, none⟩ ∧ ∀ i, i < ws.length → w.cell? ⟨b, o + i * 2, none⟩ = some (.int .i64 (ws.getD i (0, [])).1) ∧ ∃ v, w.cell? ⟨b, o + (i * 2 + 1), none⟩ = some v ∧ Row w v (ws.getD i (0, [])).2

section
variable {P : Program} {w : World} {H : Type} {enc : TypeId × Value → H}

theorem open_bytes {t e : TypeId} {n : Nat} {v : Value} {x : DataW H × List MemPlace} (ht : P.underlying t = some (.slice e)) (he : P.underlying e = some (.int .u8)) (hc : P.cellsOf e = 1)
    (h : DataW.trod enc P w 0 (fun _ => true) true n t [v] = some x) : ∃ xs, Row w v xs := by
  rcases open_ints ht he hc h with ⟨hcs, _⟩ | ⟨a, len, cap, zs, hcs, _, hl, hm, hz, _, hcell, hwz⟩
  · simp only [List.cons.injEq, and_true] at hcs
    exact ⟨[], ⟨none, 0, hcs, ⟨fun h => absurd h (by simp), by simp⟩, by simp, by unfold maxLen; omega, fun _ => rfl⟩⟩
  · simp only [List.cons.injEq, and_true] at hcs
    have hz' : zs.length = cap := by simpa using hz
    have hb : ∀ n ∈ zs, 0 ≤ n ∧ n ≤ 255 := fun n hn => bounds_u8 (hwz n hn)
    have hlen : ((zs.take len).map Int.toNat).length = len := by simp; omega
    refine ⟨(zs.take len).map Int.toNat, ⟨some a, cap, by rw [hlen]; exact hcs, ⟨fun hp => ?_, ?_⟩, by rw [hlen]; exact hl, hm, by simp⟩⟩
    · rw [hlen] at hp
      obtain ⟨b, o, s⟩ := a
      obtain rfl : s = none := by simpa [Addr.add] using World.cell?_spot (hcell 0 (by omega))
      refine ⟨b, o, rfl, fun i hi => ?_⟩
      rw [hlen] at hi
      rw [← add_plain, hcell i (by omega)]
      have hi' : i < zs.length := by omega
      have := hb _ (List.getElem_mem hi')
      simp [List.getD, List.getElem?_map, hi, List.getElem?_eq_getElem hi', Int.toNat_of_nonneg this.1]
    · intro c hc
      simp only [List.mem_map] at hc
      obtain ⟨n, hn, rfl⟩ := hc
      have := hb n (List.mem_of_mem_take hn)
      omega

theorem open_puts {t e tb eb : TypeId} {f0 f1 : Field} {n : Nat} {v : Value} {x : DataW H × List MemPlace} (ht : P.underlying t = some (.slice e)) (he : P.underlying e = some (.struct #[f0, f1])) (ce : P.cellsOf e = 2) (o0 : f0.offset = 0) (o1 : f1.offset = 1)
    (c0 : P.cellsOf f0.type = 1) (c1 : P.cellsOf f1.type = 1) (k0 : P.underlying f0.type = some (.int .i64)) (k1 : f1.type = tb) (hb : P.underlying tb = some (.slice eb)) (heb : P.underlying eb = some (.int .u8)) (hceb : P.cellsOf eb = 1)
    (h : DataW.trod enc P w 0 (fun _ => true) true n t [v] = some x) :
    ∃ q ws c, v = .slice q (List.length (α := Int × List Nat) ws) c ∧ PutsIn w q ws ∧ ws.length ≤ c ∧ c ≤ maxLen ∧ (q = none → c = 0) ∧ ∀ y ∈ ws, (Lit.int .i64 y.1).wf = true := by
  subst k1
  rcases open_slice_pairs ht he ce o0 o1 c0 c1 h with ⟨hcs, _⟩ | ⟨a, len, cap, m, k, V0, V1, D0, D1, P0, P1, hcs, _, hl, hm, hmm, _, hel⟩
  · simp only [List.cons.injEq, and_true] at hcs
    exact ⟨none, [], 0, hcs, fun h => absurd h (by simp), by simp, by unfold maxLen; omega, fun _ => rfl, by simp⟩
  · simp only [List.cons.injEq, and_true] at hcs
    have hmc : m = cap := by simpa using hmm
    have each : ∀ i, i < len → ∃ y : Int × List Nat, V0 i = .int .i64 y.1 ∧ (Lit.int .i64 y.1).wf = true ∧ Row w (V1 i) y.2 := by
      intro i hi
      obtain ⟨_, _, t0, t1⟩ := hel i (by omega)
      obtain ⟨z, hz, _, wz⟩ := DataW.trod_int k0 t0
      obtain ⟨xs, hx⟩ := open_bytes hb heb hceb t1
      simp only [List.cons.injEq, and_true] at hz
      exact ⟨(z, xs), hz, wz, hx⟩
    obtain ⟨f, hf⟩ := choose_lt each
    have hlen : ((List.range len).map f).length = len := by simp
    have hget : ∀ i, i < len → ((List.range len).map f).getD i (0, []) = f i := by intro i hi; simp [List.getD, hi]
    refine ⟨some a, (List.range len).map f, cap, by rw [hlen]; exact hcs, fun hp => ?_, by rw [hlen]; exact hl, hm, by simp, ?_⟩
    · rw [hlen] at hp
      obtain ⟨b, o, s⟩ := a
      obtain rfl : s = none := by
        have := World.cell?_spot (hel 0 (by omega)).1
        simpa [Addr.add] using this
      refine ⟨b, o, rfl, fun i hi => ?_⟩
      rw [hlen] at hi
      obtain ⟨e0, e1, _, _⟩ := hel i (by omega)
      obtain ⟨g0, _, g2⟩ := hf i hi
      rw [hget i hi]
      rw [add_plain] at e0 e1
      exact ⟨by rw [e0, g0], V1 i, e1, g2⟩
    · intro y hy
      simp only [List.mem_map, List.mem_range] at hy
      obtain ⟨i, hi, rfl⟩ := hy
      exact (hf i hi).2.1

/-- A disk by value: its count, its bytes, the writes that wait. -/
structure DiskIn (w : World) (v : Value) (count : Int) (data : List Nat) (ws : List (Int × List Nat)) : Prop where
  lies : ∃ dv q c, v = .agg #[.int .i64 count, dv, .slice q ws.length c] ∧ Row w dv data ∧ PutsIn w q ws ∧ ws.length ≤ c ∧ c ≤ maxLen ∧ (q = none → c = 0)
  count_wf : (Lit.int .i64 count).wf = true
  puts_wf : ∀ y ∈ ws, (Lit.int .i64 y.1).wf = true

/-- A []bool. -/
def BoolsIn (w : World) (p : Option Addr) (bs : List Bool) : Prop :=
  0 < bs.length → ∃ b o, p = some ⟨b, o, none⟩ ∧ ∀ i, i < bs.length → w.cell? ⟨b, o + i, none⟩ = some (.bool (bs.getD i false))
/-- A []Act: three cells each: whether it flushes, its sector, its bytes. -/
def ActsIn (w : World) (q : Option Addr) (l : List (Bool × Int × List Nat)) : Prop :=
  0 < l.length → ∃ b o, q = some ⟨b, o, none⟩ ∧ ∀ i, i < l.length → w.cell? ⟨b, o + i * 3, none⟩ = some (.bool (l.getD i (false, 0, [])).1) ∧ w.cell? ⟨b, o + (i * 3 + 1), none⟩ = some (.int .i64 (l.getD i (false, 0, [])).2.1) ∧
    ∃ v, w.cell? ⟨b, o + (i * 3 + 2), none⟩ = some v ∧ Row w v (l.getD i (false, 0, [])).2.2
/-! ### What is read again; string(b); appending bytes: over any program -/
theorem BIn.cell {b o : Nat} {xs : List Nat} (h : BIn w (some ⟨b, o, none⟩) xs) (i : Nat) (hi : i < xs.length) : w.cell? ⟨b, o + i, none⟩ = some (.int .u8 (xs.getD i 0 : Nat)) := by
  obtain ⟨b', o', e, hc⟩ := h.1 (by omega)
  simp at e
  obtain ⟨rfl, rfl⟩ := e
  exact hc i hi
theorem BIn.alloc {p : Option Addr} {xs : List Nat} (h : BIn w p xs) (o : Obj) : BIn (w.alloc o) p xs := by
  refine ⟨fun hx => ?_, h.2⟩
  obtain ⟨b, o', rfl, hc⟩ := h.1 hx
  exact ⟨b, o', rfl, fun i hi => (World.cell?_alloc_past o b _ (World.block_lt_of_cell? _ _ (hc i hi))).trans (hc i hi)⟩
theorem BIn.below {w' : World} {p : Option Addr} {xs : List Nat} (h : BIn w p xs) (hb : Below w.heap.size w w') : BIn w' p xs := by
  refine ⟨fun hx => ?_, h.2⟩
  obtain ⟨b, o', rfl, hc⟩ := h.1 hx
  exact ⟨b, o', rfl, fun i hi => (hb.cell (World.block_lt_of_cell? _ _ (hc i hi))).trans (hc i hi)⟩
theorem Row.below {w' : World} {v : Value} {xs : List Nat} (h : Row w v xs) (hb : Below w.heap.size w w') : Row w' v xs := by
  obtain ⟨p, c, h1, h2, h3⟩ := h.lies
  exact ⟨p, c, h1, h2.below hb, h3⟩
theorem PutsIn.below {w' : World} {q : Option Addr} {ws : List (Int × List Nat)} (h : PutsIn w q ws) (hb : Below w.heap.size w w') : PutsIn w' q ws := by
  intro hp
  obtain ⟨b, o, rfl, hc⟩ := h hp
  refine ⟨b, o, rfl, fun i hi => ?_⟩
  obtain ⟨e0, v, e1, hr⟩ := hc i hi
  exact ⟨(hb.cell (World.block_lt_of_cell? _ _ e0)).trans e0, v, (hb.cell (World.block_lt_of_cell? _ _ e1)).trans e1, hr.below hb⟩
theorem DiskIn.below {w' : World} {v : Value} {count : Int} {data : List Nat} {ws : List (Int × List Nat)} (h : DiskIn w v count data ws) (hb : Below w.heap.size w w') : DiskIn w' v count data ws := by
  obtain ⟨dv, q, c, h1, h2, h3, h4⟩ := h.lies
  exact ⟨⟨dv, q, c, h1, h2.below hb, h3.below hb, h4⟩, h.count_wf, h.puts_wf⟩
theorem BoolsIn.below {w' : World} {p : Option Addr} {bs : List Bool} (h : BoolsIn w p bs) (hb : Below w.heap.size w w') : BoolsIn w' p bs := by
  intro hp
  obtain ⟨b, o, rfl, hc⟩ := h hp
  exact ⟨b, o, rfl, fun i hi => (hb.cell (World.block_lt_of_cell? _ _ (hc i hi))).trans (hc i hi)⟩
theorem ActsIn.below {w' : World} {q : Option Addr} {l : List (Bool × Int × List Nat)} (h : ActsIn w q l) (hb : Below w.heap.size w w') : ActsIn w' q l := by
  intro hp
  obtain ⟨b, o, rfl, hc⟩ := h hp
  refine ⟨b, o, rfl, fun i hi => ?_⟩
  obtain ⟨e0, e1, v, e2, hr⟩ := hc i hi
  exact ⟨(hb.cell (World.block_lt_of_cell? _ _ e0)).trans e0, (hb.cell (World.block_lt_of_cell? _ _ e1)).trans e1, v, (hb.cell (World.block_lt_of_cell? _ _ e2)).trans e2, hr.below hb⟩
theorem bin_conv {tb eb ts : TypeId} (htb : P.underlying tb = some (.slice eb)) (heb : P.underlying eb = some (.int .u8)) (hts : P.underlying ts = some .string) {p : Option Addr} {xs : List Nat} {n : Nat} (h : BIn w p xs) (hn : n = xs.length) (c : Nat) :
    (convert tb ts (.slice p n c)).run P w = .ok (.string (strOf xs)) w := by
  subst hn
  rcases Nat.eq_zero_or_pos xs.length with hn | hn
  · obtain rfl : xs = [] := List.eq_nil_of_length_eq_zero hn
    show (convert tb ts (.slice p 0 c)).run P w = _
    rw [run_convert_bytes_string w tb ts eb _ 0 c htb heb hts]
    cases p <;> simp [Conv.bytesToString, loadCells]
    all_goals rfl
  · obtain ⟨b, o, rfl, hc⟩ := h.1 hn
    exact run_convert_bytes_arg w tb eb htb heb b o xs.length c (xs.map fun n : Nat => (n : Int)) (by simp) (fun i hi => by rw [hc i hi]; simp [List.getD, List.getElem?_map]; cases xs[i]? <;> rfl) ts hts
theorem bin_news {b o : Nat} {ys : List Nat} (h : BIn w (some ⟨b, o, none⟩) ys) : ∀ j u, (Bs ys)[j]? = some u → w.cell? ((⟨b, o, none⟩ : Addr).add j) = some u := by
  intro j u hu
  have hj : j < ys.length := by
    rcases Nat.lt_or_ge j ys.length with h | h
    · exact h
    · simp [Bs, List.getElem?_eq_none h] at hu
  rw [add_plain, h.cell j hj]
  simp [Bs, List.getElem?_eq_getElem hj] at hu
  simp [List.getD, List.getElem?_eq_getElem hj, ← hu]
theorem Bs_oneCell (ys : List Nat) : ∀ u ∈ Bs ys, u.oneCell' = true := by
  intro u hu
  simp only [Bs, List.mem_map] at hu
  obtain ⟨b, _, rfl⟩ := hu
  rfl
/-- Appending bytes, wherever they lie (nil, none, a row), to a row of one's own. -/
theorem run_append_row {tb eb : TypeId} {i0 : TypeInfo} (htb : P.underlying tb = some (.slice eb)) (hi : P.info? eb = some i0) (hz0 : i0.zero = some (.int .u8 0)) (hz1 : i0.size = 1) (hz2 : i0.bytes = 1)
    (base : Nat) (ty : TypeId) (v : Value) (xs ys : List Nat) (p : Option Addr) (c : Nat) (hown : w.ownsRow base eb 1 v xs.length (Bs xs)) (hin : BIn w p ys) (hp : p = none → c = 0)
    (hlen : xs.length + ys.length ≤ 140737488355328) (hbase : base ≤ w.heap.size) :
    ∃ v' w', (Builtin.append_ #[tb, tb] ty #[v, .slice p ys.length c]).run P w = .ok v' w' ∧ w'.ownsRow base eb 1 v' (xs ++ ys).length (Bs (xs ++ ys)) ∧ w.grownBy w' v.ownBlock := by
  have hmax : xs.length + ys.length ≤ maxLen := by unfold maxLen; omega
  cases p with
  | none =>
    obtain rfl : ys = [] := by
      cases ys with
      | nil => rfl
      | cons y ys => obtain ⟨b, o, e, _⟩ := hin.1 (by simp); cases e
    obtain rfl := hp rfl
    exact ⟨v, w, run_append_owned_none (P := P) w base tb ty eb i0 1 htb hi v xs.length (Bs xs) hown, by simpa using hown, ⟨rfl, rfl, rfl, Nat.le_refl _, fun _ _ _ => rfl⟩⟩
  | some ad =>
    have hc : ∀ j u, (Bs ys)[j]? = some u → w.cell? (ad.add j) = some u := by
      intro j u hu
      have hpos : 0 < ys.length := by
        cases ys with
        | nil => simp [Bs] at hu
        | cons y ys => simp
      obtain ⟨b, o, e, _⟩ := hin.1 hpos
      simp at e
      subst e
      exact bin_news hin j u hu
    obtain ⟨v', w', h1, h2, h3, _⟩ := run_append_own (P := P) w base tb ty eb i0 (.int .u8 0) 1 1 htb hi hz0 hz1 hz2 rfl (by decide) v xs.length (Bs xs) hown ad ys.length c (Bs ys) (by simp [Bs]) hc (Bs_oneCell ys) hmax (by omega) hbase
    exact ⟨v', w', h1, by simpa [Bs_app] using h2, h3⟩
end
end Go.Proofs.YtglcpfnpbcnejaaGreatDoor
namespace Go.Proofs.YtglcpfnpbcnejaaGreatDoor
open Go.RowKit Go.WideShapes

theorem BIn.conv {w : World} {p : Option Addr} {xs : List Nat} (h : BIn w p xs) (c : Nat) :
    (convert 22 9 (.slice p xs.length c)).run Tryz.prog w = .ok (.string (strOf xs)) w := by
  rcases Nat.eq_zero_or_pos xs.length with hn | hn
  · obtain rfl : xs = [] := List.eq_nil_of_length_eq_zero hn
    show (convert 22 9 (.slice p 0 c)).run Tryz.prog w = _
    rw [run_convert_bytes_string w 22 9 5 _ 0 c Tryz.underlying22 Tryz.underlying5 Tryz.underlying9]
    cases p <;> simp [Conv.bytesToString, loadCells]
    all_goals rfl
  · obtain ⟨b, o, rfl, hc⟩ := h.1 hn
    exact run_convert_bytes_arg w 22 5 Tryz.underlying22 Tryz.underlying5 b o xs.length c (xs.map fun n : Nat => (n : Int)) (by simp) (fun i hi => by rw [hc i hi]; simp [List.getD, List.getElem?_map]; cases xs[i]? <;> rfl) 9 Tryz.underlying9
end Go.Proofs.YtglcpfnpbcnejaaGreatDoor
namespace Go.Proofs.YtglcpfnpbcnejaaGreatDoor
open Go.RowKit Go.WideShapes

theorem info5 : (Tryz.prog.info? 5).map (fun i => (i.zero, i.size, i.bytes)) = some (some (.int .u8 0), 1, 1) := by kernel_rfl

theorem rel_push {B : Nat} {w wr w1 : World} {v v' : Value} {o : Obj} {xs : List Nat} {c : Nat} {z : Int} (hz : z = (c : Int)) (hown : wr.ownsRow B 5 1 v xs.length (Bs xs)) (hnx : Below B w wr) (hB : B ≤ wr.heap.size)
    (hown' : w1.ownsRow B 5 1 v' (xs.length + 1) (Bs xs ++ [.int .u8 z])) (hgrow : (wr.alloc o).grownBy w1 v.ownBlock) :
    w1.ownsRow B 5 1 v' (xs ++ [c]).length (Bs (xs ++ [c])) ∧ Below B w w1 := by
  subst hz
  refine ⟨by simpa [Bs_app, Bs] using hown', (hnx.alloc hB o).grown hgrow (by simp; omega) (fun k hk => (hown.lt k hk).1)⟩

set_option maxHeartbeats 400000 in
set_option maxRecDepth 100000 in
theorem small_any (n : Nat) (w : World) (hn : n < 18446744073709551616) :
    Calls Tryz.prog 123 #[.int .u64 n] w fun e w' => ∃ v, e = .returned v ∧ w'.ownsRow w.heap.size 5 1 v (smallN n).length (Bs (smallN n)) ∧ Below w.heap.size w w' := by
  obtain ⟨i0, hi, hz0, hz1, hz2⟩ := info_parts info5
  have hten := smallN_ten n hn
  go_enter Tryz.func123, Tryz.ntmps123
  go_wp2
  go_loopw [0, 3] (fun t v wr => ∃ m : Nat, ∃ xs : List Nat, m < 18446744073709551616 ∧ t = .int .u64 m ∧ smallN n = xs ++ smallN m ∧ wr.ownsRow w.heap.size 5 1 v xs.length (Bs xs) ∧ Below w.heap.size w wr)
    (fun t _ _ => (intOf t).toNat)
  case atStart => exact ⟨n, [], hn, rfl, rfl, World.ownsRow_nil _ _ _ _, Below.refl _ _⟩
  case round =>
    obtain ⟨m, xs, hm, rfl, hsm, hown, hnx⟩ := hrel
    have HS : Hid _ := hsm
    clear hsm
    have hpos := smallN_pos m
    have hxl : xs.length + (smallN m).length ≤ 10 := by rw [HS.out] at hten; simpa using hten
    have ho := or128 m
    have hsz := hnx.size
    by_cases hlt : m < 128
    · go_wp2_with (at_builtin; refine wpList_append_own _ rfl _ _ 22 rfl w.heap.size 5 i0 (.int .u8 0) 1 1 Tryz.underlying22 hi hz0 hz1 hz2 rfl (by decide) _ _ _ rfl (hown.alloc _) ⟨wr.heap.size, 0, none⟩ 1 1 [.int .u8 (m : Int)] rfl rfl (cell_one_new _ _ _) ?c2 ?c3 ?c4 ?c5 ?_)
      case c2 => intro u hu; simp at hu; subst hu; rfl
      case c3 => unfold maxLen; omega
      case c4 => omega
      case c5 => simp; omega
      intro v' w1 hown' hgrow _
      have R := rel_push rfl hown hnx hsz hown' hgrow
      have e : smallN n = xs ++ [m] := by rw [HS.out, smallN_lo hlt]
      rw [← e] at R
      clear hown' hgrow hown e
      go_wp2
      go_ret
      exact ⟨v', rfl, R.1, R.2⟩
    · go_wp2_with (at_builtin; refine wpList_append_own _ rfl _ _ 22 rfl w.heap.size 5 i0 (.int .u8 0) 1 1 Tryz.underlying22 hi hz0 hz1 hz2 rfl (by decide) _ _ _ rfl (hown.alloc _) ⟨wr.heap.size, 0, none⟩ 1 1 [.int .u8 ((m : Int) % 128 + 128)] rfl rfl (cell_one_new _ _ _) ?d2 ?d3 ?d4 ?d5 ?_)
      case d2 => intro u hu; simp at hu; subst hu; rfl
      case d3 => unfold maxLen; omega
      case d4 => omega
      case d5 => simp; omega
      intro v' w1 hown' hgrow _
      have R := rel_push (c := m % 128 + 128) (by omega) hown hnx hsz hown' hgrow
      have e : Hid (smallN n = (xs ++ [m % 128 + 128]) ++ smallN (m / 128)) := by show _ = _; rw [HS.out, smallN_hi hlt]; simp
      clear hown' hgrow hown
      go_wp2
      go_roundw
      case rel => exact ⟨m / 128, xs ++ [m % 128 + 128], by omega, by go_num, e.out, R.1, R.2⟩
      case measure => simp [intOf]; omega
end Go.Proofs.YtglcpfnpbcnejaaGreatDoor
