/-
  How long the bytes of a disk that is handed in are: within the form's own reach; over any program.
-/
import Derived.Test.YteabacpalnamdaaDMath
import Derived.SizedLaws
namespace Go.Proofs.Yteabacpalnamdaa
open Go.RowKit Go.WideShapes Go.ChangeShapes Go.Deep Go.Joins

section
variable {P : Program} {w : World} {H : Type} {enc : TypeId × Value → H}
theorem open_bytes_sized {t e : TypeId} {n : Nat} {v : Value} {x : DataW H × List MemPlace} (ht : P.underlying t = some (.slice e)) (he : P.underlying e = some (.int .u8)) (hc : P.cellsOf e = 1) (hby : P.bytesOf e = 1)
    (h : DataW.trod enc P w 0 (fun _ => true) true n t [v] = some x) (hw : ∀ k ∈ x.1.weights P t, k ≤ reachBytes) : ∃ xs, Row w v xs ∧ xs.length ≤ reachBytes := by
  obtain ⟨xs, hx⟩ := open_bytes ht he hc h
  refine ⟨xs, hx, ?_⟩
  obtain ⟨p, c, rfl, _⟩ := hx.lies
  rcases open_ints ht he hc h with ⟨hcs, _⟩ | ⟨a, len, cap, zs, hcs, _, hl, hm, hz, rfl, hcell, hwz⟩
  · simp only [List.cons.injEq, Value.slice.injEq, and_true] at hcs
    rw [hcs.2.1]; exact Nat.zero_le _
  · simp only [List.cons.injEq, Value.slice.injEq, and_true] at hcs
    have := hw (((lits .u8 (zs.take len) : List (DataW H)).length + (lits .u8 (zs.drop len) : List (DataW H)).length) * P.bytesOf e) (by simp [DataW.weights, ht])
    rw [hby] at this
    have hz' : zs.length = cap := by simpa using hz
    simp only [lits, List.length_map, List.length_take, List.length_drop] at this
    omega
theorem weightsAll_mem {e : TypeId} {l : List (DataW H)} {d : DataW H} (hd : d ∈ l) {k : Nat} (hk : k ∈ d.weights P e) : k ∈ DataW.weightsAll P e l := by
  induction l with
  | nil => cases hd
  | cons a l ih =>
    simp only [DataW.weightsAll, List.mem_append]
    rcases List.mem_cons.1 hd with rfl | h
    · exact .inl hk
    · exact .inr (ih h)
theorem puts_sized {t e tb eb : TypeId} {f0 f1 : Field} {n : Nat} {v : Value} {x : DataW H × List MemPlace} (ht : P.underlying t = some (.slice e)) (he : P.underlying e = some (.struct #[f0, f1])) (ce : P.cellsOf e = 2) (o0 : f0.offset = 0) (o1 : f1.offset = 1)
    (c0 : P.cellsOf f0.type = 1) (c1 : P.cellsOf f1.type = 1) (k1 : f1.type = tb) (hb : P.underlying tb = some (.slice eb)) (heb : P.underlying eb = some (.int .u8)) (hceb : P.cellsOf eb = 1) (hby : P.bytesOf eb = 1)
    (h : DataW.trod enc P w 0 (fun _ => true) true n t [v] = some x) (hw : ∀ k ∈ x.1.weights P t, k ≤ reachBytes) {q : Option Addr} {c : Nat} {ws : List (Int × List Nat)} (hv : v = .slice q ws.length c) (hp : PutsIn w q ws) : ∀ y ∈ ws, y.2.length ≤ reachBytes := by
  subst k1
  subst hv
  rcases open_slice_pairs ht he ce o0 o1 c0 c1 h with ⟨hcs, _⟩ | ⟨a, len, cap, m, k, V0, V1, D0, D1, P0, P1, hcs, _, hl, hm, hmm, rfl, hel⟩
  · simp only [List.cons.injEq, Value.slice.injEq, and_true] at hcs
    intro y hy
    obtain rfl : ws = [] := List.eq_nil_of_length_eq_zero hcs.2.1
    cases hy
  · simp only [List.cons.injEq, Value.slice.injEq, and_true] at hcs
    obtain ⟨rfl, hlen, rfl⟩ := hcs
    have hmc : m = c := by simpa using hmm
    intro y hy
    obtain ⟨i, hi, rfl⟩ := List.getElem_of_mem hy
    obtain ⟨b, o, e1, hc⟩ := hp (by omega)
    simp only [Option.some.injEq] at e1
    subst e1
    obtain ⟨_, g1, _, t1⟩ := hel i (by omega)
    obtain ⟨_, vv, g2, hr⟩ := hc i hi
    rw [add_plain] at g1
    rw [g1] at g2
    simp only [Option.some.injEq] at g2
    subst g2
    obtain ⟨xs, hx, hxl⟩ := open_bytes_sized hb heb hceb hby t1 (fun k' hk' => hw k' (by
      simp only [DataW.weights, ht, List.mem_cons, List.mem_append]
      refine .inr (.inl (weightsAll_mem (d := .agg [D0 i, D1 i]) (List.mem_map.2 ⟨i, List.mem_range.2 (by omega), rfl⟩) ?_))
      simp only [DataW.weights, he]
      simp only [List.map_cons, List.map_nil, DataW.weightsEach, List.mem_append]
      exact .inr (.inl hk')))
    obtain ⟨p1, c1', e1, _⟩ := hr.lies
    obtain ⟨p2, c2', e2, _⟩ := hx.lies
    rw [e1] at e2
    simp only [Value.slice.injEq] at e2
    have e3 : ws.getD i (0, []) = ws[i] := by simp [List.getD, List.getElem?_eq_getElem hi]
    rw [e3] at e2
    omega
theorem open_disk_sized {tD t e tb eb : TypeId} {d0 d1 d2 f0 f1 : Field} {r : Reach} {b0 : Nat} {v : Value} {d : DataW H} {p : List MemPlace}
    (hD : P.underlying tD = some (.struct #[d0, d1, d2])) (hone : oneCellFields P #[d0, d1, d2] = true) (hC : P.cellsOf tD = 3)
    (kd0 : P.underlying d0.type = some (.int .i64)) (kd1 : d1.type = tb) (kd2 : d2.type = t)
    (ht : P.underlying t = some (.slice e)) (he : P.underlying e = some (.struct #[f0, f1])) (ce : P.cellsOf e = 2) (o0 : f0.offset = 0) (o1 : f1.offset = 1)
    (c0 : P.cellsOf f0.type = 1) (c1 : P.cellsOf f1.type = 1) (k0 : P.underlying f0.type = some (.int .i64)) (k1 : f1.type = tb) (hb : P.underlying tb = some (.slice eb)) (heb : P.underlying eb = some (.int .u8)) (hceb : P.cellsOf eb = 1) (hby : P.bytesOf eb = 1)
    (hv : Value.okWide P w r b0 tD v) (h : DataW.Trod enc P w 0 (fun _ => true) true tD v d p) (hw : ∀ k ∈ d.weights P tD, k ≤ reachBytes) : ∃ count data ws, DiskIn w v count data ws ∧ ∀ y ∈ ws, y.2.length ≤ reachBytes := by
  obtain ⟨v0, v1, v2, y0, y1, y2, n, rfl, rfl, _, h0, h1, h2⟩ := open_agg3 hD hone hC hv h
  obtain ⟨z, hz, _, wz⟩ := DataW.trod_int kd0 h0
  simp only [List.cons.injEq, and_true] at hz
  subst hz
  rw [kd1] at h1
  rw [kd2] at h2
  obtain ⟨xs, hx⟩ := open_bytes hb heb hceb h1
  obtain ⟨q, ws, c, hv2, g1, g2, g3, g4, g5⟩ := open_puts ht he ce o0 o1 c0 c1 k0 k1 hb heb hceb h2
  refine ⟨z, xs, ws, ⟨⟨v1, q, c, by rw [hv2], hx, g1, g2, g3, g4⟩, wz, g5⟩, ?_⟩
  refine puts_sized ht he ce o0 o1 c0 c1 k1 hb heb hceb hby h2 (fun k hk => hw k ?_) hv2 g1
  simp only [DataW.weights, hD]
  simp only [List.map_cons, List.map_nil, DataW.weightsEach, List.mem_append]
  exact .inr (.inr (.inl (by rw [kd2]; exact hk)))
end
end Go.Proofs.Yteabacpalnamdaa
