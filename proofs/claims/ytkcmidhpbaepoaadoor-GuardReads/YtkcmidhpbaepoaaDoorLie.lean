/-
  How slices of bytes, of truth values, of sectors that are written, of acts, and disks lie in memory when they come in as arguments: over any program (no translation is named here).
-/
import Derived.Test.YtkcmidhpbaepoaaDoorMath
import Derived.WalkKit
import Derived.WideShapes
import Derived.OpenShut
import Derived.ProofKit
import Derived.Lib.SmallJoins
import Derived.Deep.SlicePairs
import Derived.Laws.AppendOwnNone
namespace Go.Proofs.YtkcmidhpbaepoaaDoor
open Go.RowKit Go.WideShapes Go.ChangeShapes Go.Deep Go.Joins

/-- A []byte of the numbers xs: where it has a byte, at an address with its cells. -/
def BIn (w : World) (p : Option Addr) (xs : List Nat) : Prop :=
  (0 < xs.length → ∃ b o, p = some ⟨b, o, none⟩ ∧ ∀ i, i < xs.length → w.cell? ⟨b, o + i, none⟩ = some (.int .u8 (xs.getD i 0 : Nat))) ∧ ∀ c ∈ xs, c < 256
/-- A []byte value: its address, how long, its room. -/
structure Row (w : World) (v : Value) (xs : List Nat) : Prop where
  lies : ∃ p c, v = .slice p xs.length c ∧ BIn w p xs ∧ xs.length ≤ c ∧ c ≤ maxLen ∧ (p = none → c = 0)
/-- A []Put: sectors that are written, each with its bytes. -/
def PutsIn (w : World) (q : Option Addr) (ws : List (Int × List Nat)) : Prop :=
  0 < ws.length → ∃ b o, q = some ⟨b, o, none⟩ ∧ ∀ i, i < ws.length → w.cell? ⟨b, o + i * 2, none⟩ = some (.int .i64 (ws.getD i (0, [])).1) ∧ ∃ v, w.cell? ⟨b, o + (i * 2 + 1), none⟩ = some v ∧ Row w v (ws.getD i (0, [])).2

section
variable {P : Program} {w : World} {H : Type} {enc : TypeId × Value → H}

theorem open_bytes {t e : TypeId} {n : Nat} {v : Value} {x : DataW H × List MemPlace} (ht : P.underlying t = some (.slice e)) (he : P.underlying e = some (.int .u8)) (hc : P.cellsOf e = 1)
    (h : DataW.trod enc P w 0 (fun _ => true) true n t [v] = some x) : ∃ xs, Row w v xs := by
  rcases open_ints ht he hc h with ⟨hcs, _⟩ | ⟨a, len, cap, zs, hcs, _, hl, hm, hz, _, hcell, hwz⟩
  · simp only [List.cons.injEq, and_true] at hcs
    exact ⟨[], ⟨none, 0, hcs, ⟨fun h => absurd h (by simp), by simp⟩, by simp, by unfold maxLen; omega, fun _ => rfl⟩⟩
  · simp only [List.cons.injEq, and_true] at hcs
    have hz' : zs.length = cap := by simpa using hz
    have hb : ∀ n ∈ zs, 0 ≤ n ∧ n ≤ 255 := fun n hn => bounds_u8 (hwz n hn)
    have hlen : ((zs.take len).map Int.toNat).length = len := by simp; omega
    refine ⟨(zs.take len).map Int.toNat, ⟨some a, cap, by rw [hlen]; exact hcs, ⟨fun hp => ?_, ?_⟩, by rw [hlen]; exact hl, hm, by simp⟩⟩
    · rw [hlen] at hp
      obtain ⟨b, o, s⟩ := a
      obtain rfl : s = none := by simpa [Addr.add] using World.cell?_spot (hcell 0 (by omega))
      refine ⟨b, o, rfl, fun i hi => ?_⟩
      rw [hlen] at hi
      rw [← add_plain, hcell i (by omega)]
      have hi' : i < zs.length := by omega
      have := hb _ (List.getElem_mem hi')
      simp [List.getD, List.getElem?_map, hi, List.getElem?_eq_getElem hi', Int.toNat_of_nonneg this.1]
    · intro c hc
      simp only [List.mem_map] at hc
      obtain ⟨n, hn, rfl⟩ := hc
      have := hb n (List.mem_of_mem_take hn)
      omega

theorem open_puts {t e tb eb : TypeId} {f0 f1 : Field} {n : Nat} {v : Value} {x : DataW H × List MemPlace} (ht : P.underlying t = some (.slice e)) (he : P.underlying e = some (.struct #[f0, f1])) (ce : P.cellsOf e = 2) (o0 : f0.offset = 0) (o1 : f1.offset = 1)
    (c0 : P.cellsOf f0.type = 1) (c1 : P.cellsOf f1.type = 1) (k0 : P.underlying f0.type = some (.int .i64)) (k1 : f1.type = tb) (hb : P.underlying tb = some (.slice eb)) (heb : P.underlying eb = some (.int .u8)) (hceb : P.cellsOf eb = 1)
    (h : DataW.trod enc P w 0 (fun _ => true) true n t [v] = some x) :
    ∃ q ws c, v = .slice q (List.length (α := Int × List Nat) ws) c ∧ PutsIn w q ws ∧ ws.length ≤ c ∧ c ≤ maxLen ∧ (q = none → c = 0) ∧ ∀ y ∈ ws, (Lit.int .i64 y.1).wf = true := by
  subst k1
  rcases open_slice_pairs ht he ce o0 o1 c0 c1 h with ⟨hcs, _⟩ | ⟨a, len, cap, m, k, V0, V1, D0, D1, P0, P1, hcs, _, hl, hm, hmm, _, hel⟩
  · simp only [List.cons.injEq, and_true] at hcs
    exact ⟨none, [], 0, hcs, fun h => absurd h (by simp), by simp, by unfold maxLen; omega, fun _ => rfl, by simp⟩
  · simp only [List.cons.injEq, and_true] at hcs
    have hmc : m = cap := by simpa using hmm
    have each : ∀ i, i < len → ∃ y : Int × List Nat, V0 i = .int .i64 y.1 ∧ (Lit.int .i64 y.1).wf = true ∧ Row w (V1 i) y.2 := by
      intro i hi
      obtain ⟨_, _, t0, t1⟩ := hel i (by omega)
      obtain ⟨z, hz, _, wz⟩ := DataW.trod_int k0 t0
      obtain ⟨xs, hx⟩ := open_bytes hb heb hceb t1
      simp only [List.cons.injEq, and_true] at hz
      exact ⟨(z, xs), hz, wz, hx⟩
    obtain ⟨f, hf⟩ := choose_lt each
    have hlen : ((List.range len).map f).length = len := by simp
    have hget : ∀ i, i < len → ((List.range len).map f).getD i (0, []) = f i := by intro i hi; simp [List.getD, hi]
    refine ⟨some a, (List.range len).map f, cap, by rw [hlen]; exact hcs, fun hp => ?_, by rw [hlen]; exact hl, hm, by simp, ?_⟩
    · rw [hlen] at hp
      obtain ⟨b, o, s⟩ := a
      obtain rfl : s = none := by
        have := World.cell?_spot (hel 0 (by omega)).1
        simpa [Addr.add] using this
      refine ⟨b, o, rfl, fun i hi => ?_⟩
      rw [hlen] at hi
      obtain ⟨e0, e1, _, _⟩ := hel i (by omega)
      obtain ⟨g0, _, g2⟩ := hf i hi
      rw [hget i hi]
      rw [add_plain] at e0 e1
      exact ⟨by rw [e0, g0], V1 i, e1, g2⟩
    · intro y hy
      simp only [List.mem_map, List.mem_range] at hy
      obtain ⟨i, hi, rfl⟩ := hy
      exact (hf i hi).2.1

/-- A disk by value: its count, its bytes, the writes that wait. -/
structure DiskIn (w : World) (v : Value) (count : Int) (data : List Nat) (ws : List (Int × List Nat)) : Prop where
  lies : ∃ dv q c, v = .agg #[.int .i64 count, dv, .slice q ws.length c] ∧ Row w dv data ∧ PutsIn w q ws ∧ ws.length ≤ c ∧ c ≤ maxLen ∧ (q = none → c = 0)
  count_wf : (Lit.int .i64 count).wf = true
  puts_wf : ∀ y ∈ ws, (Lit.int .i64 y.1).wf = true

theorem open_disk {tD t e tb eb : TypeId} {d0 d1 d2 f0 f1 : Field} {r : Reach} {b0 : Nat} {v : Value} {d : DataW H} {p : List MemPlace}
    (hD : P.underlying tD = some (.struct #[d0, d1, d2])) (hone : oneCellFields P #[d0, d1, d2] = true) (hC : P.cellsOf tD = 3)
    (kd0 : P.underlying d0.type = some (.int .i64)) (kd1 : d1.type = tb) (kd2 : d2.type = t)
    (ht : P.underlying t = some (.slice e)) (he : P.underlying e = some (.struct #[f0, f1])) (ce : P.cellsOf e = 2) (o0 : f0.offset = 0) (o1 : f1.offset = 1)
    (c0 : P.cellsOf f0.type = 1) (c1 : P.cellsOf f1.type = 1) (k0 : P.underlying f0.type = some (.int .i64)) (k1 : f1.type = tb) (hb : P.underlying tb = some (.slice eb)) (heb : P.underlying eb = some (.int .u8)) (hceb : P.cellsOf eb = 1)
    (hv : Value.okWide P w r b0 tD v) (h : DataW.Trod enc P w 0 (fun _ => true) true tD v d p) : ∃ count data ws, DiskIn w v count data ws := by
  obtain ⟨v0, v1, v2, y0, y1, y2, n, rfl, _, _, h0, h1, h2⟩ := open_agg3 hD hone hC hv h
  obtain ⟨z, hz, _, wz⟩ := DataW.trod_int kd0 h0
  simp only [List.cons.injEq, and_true] at hz
  subst hz
  rw [kd1] at h1
  rw [kd2] at h2
  obtain ⟨xs, hx⟩ := open_bytes hb heb hceb h1
  obtain ⟨q, ws, c, rfl, g1, g2, g3, g4, g5⟩ := open_puts ht he ce o0 o1 c0 c1 k0 k1 hb heb hceb h2
  exact ⟨z, xs, ws, ⟨v1, q, c, rfl, hx, g1, g2, g3, g4⟩, wz, g5⟩

/-- A []bool. -/
def BoolsIn (w : World) (p : Option Addr) (bs : List Bool) : Prop :=
  0 < bs.length → ∃ b o, p = some ⟨b, o, none⟩ ∧ ∀ i, i < bs.length → w.cell? ⟨b, o + i, none⟩ = some (.bool (bs.getD i false))
theorem open_bools {t e : TypeId} {n : Nat} {v : Value} {x : DataW H × List MemPlace} (ht : P.underlying t = some (.slice e)) (he : P.underlying e = some .bool) (hc : P.cellsOf e = 1)
    (h : DataW.trod enc P w 0 (fun _ => true) true n t [v] = some x) : ∃ p bs c, v = .slice p (List.length (α := Bool) bs) c ∧ BoolsIn w p bs ∧ bs.length ≤ c ∧ c ≤ maxLen ∧ (p = none → c = 0) := by
  rcases open_slice1 ht hc h with ⟨hcs, _⟩ | ⟨a, len, cap, m, k, V, D, Pl, hcs, _, hl, hm, hmm, _, hel⟩
  · simp only [List.cons.injEq, and_true] at hcs
    exact ⟨none, [], 0, hcs, fun h => absurd h (by simp), by simp, by unfold maxLen; omega, fun _ => rfl⟩
  · simp only [List.cons.injEq, and_true] at hcs
    have hmc : m = cap := by simpa using hmm
    have each : ∀ i, i < len → ∃ y : Bool, V i = .bool y := by
      intro i hi
      obtain ⟨_, t0⟩ := hel i (by omega)
      obtain ⟨z, hz, _⟩ := DataW.trod_bool he t0
      simp only [List.cons.injEq, and_true] at hz
      exact ⟨z, hz⟩
    obtain ⟨f, hf⟩ := choose_lt each
    have hlen : ((List.range len).map f).length = len := by simp
    refine ⟨some a, (List.range len).map f, cap, by rw [hlen]; exact hcs, fun hp => ?_, by rw [hlen]; exact hl, hm, by simp⟩
    rw [hlen] at hp
    obtain ⟨b, o, s⟩ := a
    obtain rfl : s = none := by simpa [Addr.add] using World.cell?_spot (hel 0 (by omega)).1
    refine ⟨b, o, rfl, fun i hi => ?_⟩
    rw [hlen] at hi
    have e0 := (hel i (by omega)).1
    rw [add_plain] at e0
    rw [e0, hf i hi]
    simp [List.getD, hi]

/-- A []Act: three cells each: whether it flushes, its sector, its bytes. -/
def ActsIn (w : World) (q : Option Addr) (l : List (Bool × Int × List Nat)) : Prop :=
  0 < l.length → ∃ b o, q = some ⟨b, o, none⟩ ∧ ∀ i, i < l.length → w.cell? ⟨b, o + i * 3, none⟩ = some (.bool (l.getD i (false, 0, [])).1) ∧ w.cell? ⟨b, o + (i * 3 + 1), none⟩ = some (.int .i64 (l.getD i (false, 0, [])).2.1) ∧
    ∃ v, w.cell? ⟨b, o + (i * 3 + 2), none⟩ = some v ∧ Row w v (l.getD i (false, 0, [])).2.2
theorem open_acts {t e ep tb eb : TypeId} {a0 a1 f0 f1 : Field} {n : Nat} {v : Value} {x : DataW H × List MemPlace} (ht : P.underlying t = some (.slice e)) (he : P.underlying e = some (.struct #[a0, a1])) (ce : P.cellsOf e = 3) (oa0 : a0.offset = 0) (oa1 : a1.offset = 1)
    (ca0 : P.cellsOf a0.type = 1) (ka0 : P.underlying a0.type = some .bool) (ka1 : a1.type = ep) (hep : P.underlying ep = some (.struct #[f0, f1])) (cep : P.cellsOf ep = 2) (o0 : f0.offset = 0) (o1 : f1.offset = 1)
    (c0 : P.cellsOf f0.type = 1) (c1 : P.cellsOf f1.type = 1) (k0 : P.underlying f0.type = some (.int .i64)) (k1 : f1.type = tb) (hb : P.underlying tb = some (.slice eb)) (heb : P.underlying eb = some (.int .u8)) (hceb : P.cellsOf eb = 1)
    (h : DataW.trod enc P w 0 (fun _ => true) true n t [v] = some x) :
    ∃ q l c, v = .slice q (List.length (α := Bool × Int × List Nat) l) c ∧ ActsIn w q l ∧ l.length ≤ c ∧ c ≤ maxLen ∧ (q = none → c = 0) ∧ ∀ y ∈ l, (Lit.int .i64 y.2.1).wf = true := by
  subst ka1 k1
  rcases open_slice ht h with ⟨hcs, _⟩ | ⟨a, len, cap, m, k, D, Pl, hcs, _, hl, hm, hmm, _, hel⟩
  · simp only [List.cons.injEq, and_true] at hcs
    exact ⟨none, [], 0, hcs, fun h => absurd h (by simp), by simp, by unfold maxLen; omega, fun _ => rfl, by simp⟩
  · simp only [List.cons.injEq, and_true] at hcs
    have hmc : m = cap := by simpa using hmm
    have each : ∀ i, i < len → ∃ y : Bool × Int × List Nat, w.cell? (a.add (i * 3)) = some (.bool y.1) ∧ w.cell? (a.add (i * 3 + 1)) = some (.int .i64 y.2.1) ∧ (Lit.int .i64 y.2.1).wf = true ∧ ∃ v, w.cell? (a.add (i * 3 + 2)) = some v ∧ Row w v y.2.2 := by
      intro i hi
      obtain ⟨cs', h1, h2⟩ := hel i (by omega)
      rw [ce] at h1
      obtain ⟨_, hlen, hcell⟩ := World.cells?_some h1
      obtain ⟨y0, y1, n1, _, _, g0, g1⟩ := trod_struct2 he h2
      match cs', hlen with
      | [v0, v1, v2], _ =>
        simp only [oa0, oa1, ca0, cep, List.drop_zero, List.drop_succ_cons, List.take_succ_cons, List.take_zero] at g0 g1
        obtain ⟨z, hz, _⟩ := DataW.trod_bool ka0 g0
        obtain ⟨u0, u1, n2, _, _, p0, p1⟩ := trod_struct2 hep g1
        simp only [o0, o1, c0, c1, List.drop_zero, List.drop_succ_cons, List.take_succ_cons, List.take_zero] at p0 p1
        obtain ⟨zi, hzi, _, wzi⟩ := DataW.trod_int k0 p0
        obtain ⟨xs, hx⟩ := open_bytes hb heb hceb p1
        simp only [List.cons.injEq, and_true] at hz hzi
        have e0 := hcell 0 (by omega)
        have e1 := hcell 1 (by omega)
        have e2 := hcell 2 (by omega)
        rw [add_add] at e0 e1 e2
        refine ⟨(z, zi, xs), ?_, ?_, wzi, v2, by simpa using e2, hx⟩
        · rw [← hz]; simpa using e0
        · rw [← hzi]; simpa using e1
    obtain ⟨f, hf⟩ := choose_lt each
    have hlen : ((List.range len).map f).length = len := by simp
    have hget : ∀ i, i < len → ((List.range len).map f).getD i (false, 0, []) = f i := by intro i hi; simp [List.getD, hi]
    refine ⟨some a, (List.range len).map f, cap, by rw [hlen]; exact hcs, fun hp => ?_, by rw [hlen]; exact hl, hm, by simp, ?_⟩
    · rw [hlen] at hp
      obtain ⟨b, o, s⟩ := a
      obtain rfl : s = none := by simpa [Addr.add] using World.cell?_spot (hf 0 hp).1
      refine ⟨b, o, rfl, fun i hi => ?_⟩
      rw [hlen] at hi
      obtain ⟨g0, g1, _, vv, g2, g3⟩ := hf i hi
      rw [hget i hi]
      rw [add_plain] at g0 g1 g2
      exact ⟨g0, g1, vv, g2, g3⟩
    · intro y hy
      simp only [List.mem_map, List.mem_range] at hy
      obtain ⟨i, hi, rfl⟩ := hy
      exact (hf i hi).2.2.1
/-! ### What is read again; string(b); appending bytes: over any program -/
theorem BIn.cell {b o : Nat} {xs : List Nat} (h : BIn w (some ⟨b, o, none⟩) xs) (i : Nat) (hi : i < xs.length) : w.cell? ⟨b, o + i, none⟩ = some (.int .u8 (xs.getD i 0 : Nat)) := by
  obtain ⟨b', o', e, hc⟩ := h.1 (by omega)
  simp at e
  obtain ⟨rfl, rfl⟩ := e
  exact hc i hi
theorem BIn.alloc {p : Option Addr} {xs : List Nat} (h : BIn w p xs) (o : Obj) : BIn (w.alloc o) p xs := by
  refine ⟨fun hx => ?_, h.2⟩
  obtain ⟨b, o', rfl, hc⟩ := h.1 hx
  exact ⟨b, o', rfl, fun i hi => (World.cell?_alloc_past o b _ (World.block_lt_of_cell? _ _ (hc i hi))).trans (hc i hi)⟩
theorem BIn.below {w' : World} {p : Option Addr} {xs : List Nat} (h : BIn w p xs) (hb : Below w.heap.size w w') : BIn w' p xs := by
  refine ⟨fun hx => ?_, h.2⟩
  obtain ⟨b, o', rfl, hc⟩ := h.1 hx
  exact ⟨b, o', rfl, fun i hi => (hb.cell (World.block_lt_of_cell? _ _ (hc i hi))).trans (hc i hi)⟩
theorem Row.below {w' : World} {v : Value} {xs : List Nat} (h : Row w v xs) (hb : Below w.heap.size w w') : Row w' v xs := by
  obtain ⟨p, c, h1, h2, h3⟩ := h.lies
  exact ⟨p, c, h1, h2.below hb, h3⟩
theorem PutsIn.below {w' : World} {q : Option Addr} {ws : List (Int × List Nat)} (h : PutsIn w q ws) (hb : Below w.heap.size w w') : PutsIn w' q ws := by
  intro hp
  obtain ⟨b, o, rfl, hc⟩ := h hp
  refine ⟨b, o, rfl, fun i hi => ?_⟩
  obtain ⟨e0, v, e1, hr⟩ := hc i hi
  exact ⟨(hb.cell (World.block_lt_of_cell? _ _ e0)).trans e0, v, (hb.cell (World.block_lt_of_cell? _ _ e1)).trans e1, hr.below hb⟩
theorem DiskIn.below {w' : World} {v : Value} {count : Int} {data : List Nat} {ws : List (Int × List Nat)} (h : DiskIn w v count data ws) (hb : Below w.heap.size w w') : DiskIn w' v count data ws := by
  obtain ⟨dv, q, c, h1, h2, h3, h4⟩ := h.lies
  exact ⟨⟨dv, q, c, h1, h2.below hb, h3.below hb, h4⟩, h.count_wf, h.puts_wf⟩
theorem BoolsIn.below {w' : World} {p : Option Addr} {bs : List Bool} (h : BoolsIn w p bs) (hb : Below w.heap.size w w') : BoolsIn w' p bs := by
  intro hp
  obtain ⟨b, o, rfl, hc⟩ := h hp
  exact ⟨b, o, rfl, fun i hi => (hb.cell (World.block_lt_of_cell? _ _ (hc i hi))).trans (hc i hi)⟩
theorem ActsIn.below {w' : World} {q : Option Addr} {l : List (Bool × Int × List Nat)} (h : ActsIn w q l) (hb : Below w.heap.size w w') : ActsIn w' q l := by
  intro hp
  obtain ⟨b, o, rfl, hc⟩ := h hp
  refine ⟨b, o, rfl, fun i hi => ?_⟩
  obtain ⟨e0, e1, v, e2, hr⟩ := hc i hi
  exact ⟨(hb.cell (World.block_lt_of_cell? _ _ e0)).trans e0, (hb.cell (World.block_lt_of_cell? _ _ e1)).trans e1, v, (hb.cell (World.block_lt_of_cell? _ _ e2)).trans e2, hr.below hb⟩
theorem bin_conv {tb eb ts : TypeId} (htb : P.underlying tb = some (.slice eb)) (heb : P.underlying eb = some (.int .u8)) (hts : P.underlying ts = some .string) {p : Option Addr} {xs : List Nat} {n : Nat} (h : BIn w p xs) (hn : n = xs.length) (c : Nat) :
    (convert tb ts (.slice p n c)).run P w = .ok (.string (strOf xs)) w := by
  subst hn
  rcases Nat.eq_zero_or_pos xs.length with hn | hn
  · obtain rfl : xs = [] := List.eq_nil_of_length_eq_zero hn
    show (convert tb ts (.slice p 0 c)).run P w = _
    rw [run_convert_bytes_string w tb ts eb _ 0 c htb heb hts]
    cases p <;> simp [Conv.bytesToString, loadCells]
    all_goals rfl
  · obtain ⟨b, o, rfl, hc⟩ := h.1 hn
    exact run_convert_bytes_arg w tb eb htb heb b o xs.length c (xs.map fun n : Nat => (n : Int)) (by simp) (fun i hi => by rw [hc i hi]; simp [List.getD, List.getElem?_map]; cases xs[i]? <;> rfl) ts hts
theorem bin_news {b o : Nat} {ys : List Nat} (h : BIn w (some ⟨b, o, none⟩) ys) : ∀ j u, (Bs ys)[j]? = some u → w.cell? ((⟨b, o, none⟩ : Addr).add j) = some u := by
  intro j u hu
  have hj : j < ys.length := by
    rcases Nat.lt_or_ge j ys.length with h | h
    · exact h
    · simp [Bs, List.getElem?_eq_none h] at hu
  rw [add_plain, h.cell j hj]
  simp [Bs, List.getElem?_eq_getElem hj] at hu
  simp [List.getD, List.getElem?_eq_getElem hj, ← hu]
theorem Bs_oneCell (ys : List Nat) : ∀ u ∈ Bs ys, u.oneCell' = true := by
  intro u hu
  simp only [Bs, List.mem_map] at hu
  obtain ⟨b, _, rfl⟩ := hu
  rfl
/-- Appending bytes, wherever they lie (nil, none, a row), to a row of one's own. -/
theorem run_append_row {tb eb : TypeId} {i0 : TypeInfo} (htb : P.underlying tb = some (.slice eb)) (hi : P.info? eb = some i0) (hz0 : i0.zero = some (.int .u8 0)) (hz1 : i0.size = 1) (hz2 : i0.bytes = 1)
    (base : Nat) (ty : TypeId) (v : Value) (xs ys : List Nat) (p : Option Addr) (c : Nat) (hown : w.ownsRow base eb 1 v xs.length (Bs xs)) (hin : BIn w p ys) (hp : p = none → c = 0)
    (hlen : xs.length + ys.length ≤ 140737488355328) (hbase : base ≤ w.heap.size) :
    ∃ v' w', (Builtin.append_ #[tb, tb] ty #[v, .slice p ys.length c]).run P w = .ok v' w' ∧ w'.ownsRow base eb 1 v' (xs ++ ys).length (Bs (xs ++ ys)) ∧ w.grownBy w' v.ownBlock := by
  have hmax : xs.length + ys.length ≤ maxLen := by unfold maxLen; omega
  cases p with
  | none =>
    obtain rfl : ys = [] := by
      cases ys with
      | nil => rfl
      | cons y ys => obtain ⟨b, o, e, _⟩ := hin.1 (by simp); cases e
    obtain rfl := hp rfl
    exact ⟨v, w, run_append_owned_none (P := P) w base tb ty eb i0 1 htb hi v xs.length (Bs xs) hown, by simpa using hown, ⟨rfl, rfl, rfl, Nat.le_refl _, fun _ _ _ => rfl⟩⟩
  | some ad =>
    have hc : ∀ j u, (Bs ys)[j]? = some u → w.cell? (ad.add j) = some u := by
      intro j u hu
      have hpos : 0 < ys.length := by
        cases ys with
        | nil => simp [Bs] at hu
        | cons y ys => simp
      obtain ⟨b, o, e, _⟩ := hin.1 hpos
      simp at e
      subst e
      exact bin_news hin j u hu
    obtain ⟨v', w', h1, h2, h3, _⟩ := run_append_own (P := P) w base tb ty eb i0 (.int .u8 0) 1 1 htb hi hz0 hz1 hz2 rfl (by decide) v xs.length (Bs xs) hown ad ys.length c (Bs ys) (by simp [Bs]) hc (Bs_oneCell ys) hmax (by omega) hbase
    exact ⟨v', w', h1, by simpa [Bs_app] using h2, h3⟩
end
end Go.Proofs.YtkcmidhpbaepoaaDoor
