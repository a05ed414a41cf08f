/-
  One more entry is linked.
-/
import Derived.Test.YtbeoijlkhpbdjaaJ03
import Derived.Laws.Bits64b
import Derived.Laws.MakeOwn
import Derived.Deep.OwnRows
import Derived.Laws.AppendOwnNone
namespace Go.Proofs.Ytbeoijlkhpbdjaa
open Go.RowKit Go.WideShapes

/-- The table of TrailingZeros64: bytes of at most 63. -/
def Laid (w : World) : Prop := ∀ j, j < 64 → ∃ k : Nat, k ≤ 63 ∧ w.cell? ⟨1, j, none⟩ = some (.int .u8 (k : Int))
theorem Laid.below {B : Nat} {w w' : World} (h : Laid w) (hb : Below B w w') (hB : 2 ≤ B) : Laid w' := fun j hj => by
  obtain ⟨k, h1, h2⟩ := h j hj
  exact ⟨k, h1, (hb.cell (by show 1 < B; omega)).trans h2⟩
theorem Laid.size {w : World} (h : Laid w) : 2 ≤ w.heap.size := by
  obtain ⟨k, _, h2⟩ := h 0 (by omega)
  have := World.block_lt_of_cell? _ _ h2
  exact this
theorem wrap_u64z (n : Int) : IntKind.u64.wrap n = n % 18446744073709551616 := by simp [IntKind.wrap, IntKind.signed, IntKind.bits]
def sameE (a b : EntV) : Bool := decide (a.key = b.key) && decide (a.seq = b.seq)
theorem same_any (a b : EntV) (w : World) (r : Bool) (hr : sameE a b = r) : Calls Try.prog 13 #[entV a, entV b] w fun e w' => e = .returned (.bool r) ∧ Below w.heap.size w w' := by
  obtain ⟨ak, av, az, ag⟩ := a
  obtain ⟨bk, bv, bz, bg⟩ := b
  unfold sameE at hr
  rw [entV_def, entV_def]
  rw [← eq_str] at hr
  simp only at hr
  cases h1 : (ak.toList == bk.toList) with
  | false =>
    have HR : Hid (r = false) := by show _ = _; rw [← hr, h1]; rfl
    clear hr
    go_enter Try.func13, Try.ntmps13
    go_wp2
    go_ret
    exact ⟨by rw [HR.out]; rfl, (below_alloc w _).alloc (by simp) _⟩
  | true =>
    have HR : Hid (r = decide (az = bz)) := by show _ = _; rw [← hr, h1]; rfl
    clear hr
    go_enter Try.func13, Try.ntmps13
    go_wp2
    go_ret
    exact ⟨by rw [HR.out]; rfl, (below_alloc w _).alloc (by simp) _⟩
theorem checkE_one (x : EntV) : checkE [x] = oneE x := by
  unfold checkE
  rw [if_neg (by simp)]
  by_cases h : oneE x = 0
  · rw [h]; simp [checkF, h]
  · simp [checkF, h]
theorem four_cells {w : World} {g : Nat} {a b c d : Value} {t : TypeId} {fr : Nat × Nat} (h : w.heap[g]? = some (.cells #[a, b, c, d] t fr)) : w.cell? ⟨g, 0, none⟩ = some a ∧ w.cell? ⟨g, 1, none⟩ = some b ∧ w.cell? ⟨g, 2, none⟩ = some c ∧ w.cell? ⟨g, 3, none⟩ = some d :=
  ⟨Lib.cell_of_heap h 0, Lib.cell_of_heap h 1, Lib.cell_of_heap h 2, Lib.cell_of_heap h 3⟩
theorem ents_box {w : World} {g : Nat} {x : EntV} {t : TypeId} {fr : Nat × Nat} (h : w.heap[g]? = some (.cells #[.string x.key, .string x.val, .int .i64 x.seq, .bool x.gone] t fr)) : EntsL w (some ⟨g, 0, none⟩) 1 [x] := by
  refine ⟨rfl, fun _ => ⟨g, 0, rfl, fun i hi => ?_⟩⟩
  obtain rfl : i = 0 := by simpa using hi
  exact four_cells h
theorem heap_two (w : World) (o o' : Obj) : ((w.alloc o).alloc o').heap[w.heap.size + 1]? = some o' := by
  have h := heap_alloc_new (w.alloc o) o'
  rw [show (w.alloc o).heap.size = w.heap.size + 1 by simp] at h
  exact h
set_option maxHeartbeats 1000000 in
theorem checkOne_any (x : EntV) (w : World) (E : Nat) (hE : oneE x = E) : Calls Try.prog 11 #[entV x] w fun e w' => e = .returned (.int .i64 (E : Int)) ∧ Below w.heap.size w w' := by
  have hC := checkE_one x
  rw [hE] at hC
  obtain ⟨ke, ve, se, ge⟩ := x
  rw [entV_def]
  have HC := fun w' h => Check_any (some ⟨w.heap.size + 1, 0, none⟩) 1 1 [⟨ke, ve, se, ge⟩] w' h E hC
  clear hE hC
  go_enter Try.func11, Try.ntmps11
  go_wp2_with fail
  refine (HC _ (ents_box (heap_two _ _ _))).mono ?_
  rintro e w2 ⟨rfl, hb2⟩
  go_wp2
  go_ret
  exact ⟨rfl, below_bt (below_bt (below_alloc _ _) (below_alloc _ _)) hb2⟩
end Go.Proofs.Ytbeoijlkhpbdjaa
namespace Go.Proofs.Ytbeoijlkhpbdjaa
open Go.RowKit Go.WideShapes

def zP (n : Nat) : Array Value := madeCells #[.pointer none] n
theorem zP_size (n : Nat) : (zP n).size = n := size_madeCells _ _
theorem zP_at {n h : Nat} (hh : h < n) : (zP n)[h]? = some (.pointer none) := by
  unfold zP madeCells
  simp [hh, Nat.mod_one]
def nodC (n : NodV) : Array Value := #[.string n.ent.key, .string n.ent.val, .int .i64 n.ent.seq, .bool n.ent.gone, .slice (some ⟨n.bb, 0, none⟩) n.ht n.ht]
theorem block_below' {w w' : World} {b : Nat} {o : Obj} (h : w.heap[b]? = some o) (hb : Below w.heap.size w w') : w'.heap[b]? = some o := (hb.block _ (lt_heap h)).trans h
def blkV : Value → Nat
  | .pointer (some a) => a.block
  | _ => 0
/-- Where a node stands, told by where it lies. -/
def posN (al : List NodV) (v : Value) : Nat := al.findIdx fun n => n.nb == blkV v
end Go.Proofs.Ytbeoijlkhpbdjaa
namespace Go.Proofs.Ytbeoijlkhpbdjaa
open Go.RowKit Go.WideShapes Go.ChangeShapes Go.Deep Go.Joins

theorem rise_nod {al : List NodV} (hr : RiseE (eosN al)) {a b : Nat} (h0 : 0 < a) (hab : a < b) (hb : b < al.length) : lessE (al.getD a zN).ent (al.getD b zN).ent = true := by
  have ha := eosN_at (al := al) (p := a - 1) (by omega)
  have hb' := eosN_at (al := al) (p := b - 1) (by omega)
  rw [show a - 1 + 1 = a by omega] at ha
  rw [show b - 1 + 1 = b by omega] at hb'
  have la : a - 1 < (eosN al).length := by rw [eosN_len]; omega
  have lb : b - 1 < (eosN al).length := by rw [eosN_len]; omega
  have := List.pairwise_iff_getElem.1 hr (a - 1) (b - 1) la lb (by omega)
  rw [List.getD_eq_getElem?_getD, List.getElem?_eq_getElem la, Option.getD_some] at ha
  rw [List.getD_eq_getElem?_getD, List.getElem?_eq_getElem lb, Option.getD_some] at hb'
  rw [← ha, ← hb']
  exact this
theorem ahead_up {al : List NodV} (hr : RiseE (eosN al)) {x : EntV} {q : Nat} (hq : q < al.length) (hl : lessE (al.getD q zN).ent x = true) : ∀ r, 0 < r → r ≤ q → lessE (al.getD r zN).ent x = true := by
  intro r h0 hrq
  rcases Nat.lt_or_ge r q with h | h
  · exact lessE_trans (rise_nod hr h0 h hq) hl
  · obtain rfl : r = q := by omega
    exact hl
theorem ahead_end {al : List NodV} {x : EntV} {p j : Nat} (hp : p < al.length) (hj : j < (al.getD p zN).ht) (hl : ∀ q, 0 < q → q ≤ p → lessE (al.getD q zN).ent x = true) (hn : ∀ q, p < q → q < al.length → (al.getD q zN).ht ≤ j) : AheadN al x j p :=
  ⟨hp, hj, hl, fun q h1 h2 h3 => by have := hn q h1 h2; omega⟩
theorem ahead_stop {al : List NodV} (hr : RiseE (eosN al)) {x : EntV} {p q j : Nat} (hp : p < al.length) (hj : j < (al.getD p zN).ht) (hl : ∀ q, 0 < q → q ≤ p → lessE (al.getD q zN).ent x = true) (h1 : p < q) (h5 : ∀ r, p < r → r < q → (al.getD r zN).ht ≤ j) (hx : lessE (al.getD q zN).ent x = false) : AheadN al x j p := by
  refine ⟨hp, hj, hl, fun r r1 r2 r3 => ?_⟩
  rcases Nat.lt_trichotomy r q with h | h | h
  · have := h5 r r1 h; omega
  · rw [h]; exact hx
  · rw [Bool.eq_false_iff]
    intro hh
    rw [lessE_trans (rise_nod hr (by omega) h r2) hh] at hx
    cases hx
theorem frozen_row {w : World} {g : Nat} {cs : Array Value} {t : TypeId} (h : w.heap[g]? = some (.cells cs t (0, 0))) (i : Nat) : w.frozen? ⟨g, i, none⟩ = false := by simp [World.frozen?, h]
def nil12 : Array Value := #[.pointer none, .pointer none, .pointer none, .pointer none, .pointer none, .pointer none, .pointer none, .pointer none, .pointer none, .pointer none, .pointer none, .pointer none]
theorem set12 {B g : Nat} {w w' : World} {v0 v1 v2 v3 v4 v5 v6 v7 v8 v9 v10 v11 : Value} (h : Below B w w') (hg : B ≤ g) : Below B w ((((((((((((w'.setCell ⟨g, 0, none⟩ v0).setCell ⟨g, 1, none⟩ v1).setCell ⟨g, 2, none⟩ v2).setCell ⟨g, 3, none⟩ v3).setCell ⟨g, 4, none⟩ v4).setCell ⟨g, 5, none⟩ v5).setCell ⟨g, 6, none⟩ v6).setCell ⟨g, 7, none⟩ v7).setCell ⟨g, 8, none⟩ v8).setCell ⟨g, 9, none⟩ v9).setCell ⟨g, 10, none⟩ v10).setCell ⟨g, 11, none⟩ v11) := ((((((((((((h.setCell (p := ⟨g, 0, none⟩) hg v0).setCell (p := ⟨g, 1, none⟩) hg v1).setCell (p := ⟨g, 2, none⟩) hg v2).setCell (p := ⟨g, 3, none⟩) hg v3).setCell (p := ⟨g, 4, none⟩) hg v4).setCell (p := ⟨g, 5, none⟩) hg v5).setCell (p := ⟨g, 6, none⟩) hg v6).setCell (p := ⟨g, 7, none⟩) hg v7).setCell (p := ⟨g, 8, none⟩) hg v8).setCell (p := ⟨g, 9, none⟩) hg v9).setCell (p := ⟨g, 10, none⟩) hg v10).setCell (p := ⟨g, 11, none⟩) hg v11)
end Go.Proofs.Ytbeoijlkhpbdjaa
namespace Go.Proofs.Ytbeoijlkhpbdjaa
open Go.RowKit Go.WideShapes

end Go.Proofs.Ytbeoijlkhpbdjaa
namespace Go.Proofs.Ytbeoijlkhpbdjaa
open Go.RowKit Go.WideShapes

def cellsE (l : List EntV) : List Value := l.flatMap fun p => [.string p.key, .string p.val, .int .i64 p.seq, .bool p.gone]
theorem cellsE_len (l : List EntV) : (cellsE l).length = l.length * 4 := by
  induction l with
  | nil => rfl
  | cons p l ih => simp only [cellsE, List.flatMap_cons, List.length_append, List.length_cons, List.length_nil] at *; omega
theorem cellsE_app (l m : List EntV) : cellsE (l ++ m) = cellsE l ++ cellsE m := by simp [cellsE]
theorem cellsE_at : ∀ (l : List EntV) (i : Nat), i < l.length → (cellsE l)[i * 4]? = some (.string (l.getD i zeroE).key) ∧ (cellsE l)[i * 4 + 1]? = some (.string (l.getD i zeroE).val) ∧ (cellsE l)[i * 4 + 2]? = some (.int .i64 (l.getD i zeroE).seq) ∧ (cellsE l)[i * 4 + 3]? = some (.bool (l.getD i zeroE).gone)
  | p :: l, 0, _ => ⟨rfl, rfl, rfl, rfl⟩
  | p :: l, i + 1, hi => by
    have := cellsE_at l i (by simpa using hi)
    rw [show (i + 1) * 4 = i * 4 + 1 + 1 + 1 + 1 from by omega]
    simpa [cellsE, List.getD] using this
  | [], _, h => by simp at h
def EOwn (w : World) (base : Nat) (v : Value) (l : List EntV) : Prop := w.ownsRow base 24 4 v l.length (cellsE l)
theorem eown_nil (w : World) (base : Nat) : EOwn w base (.slice none 0 0) [] := World.ownsRow_nil _ _ _ _
theorem EOwn.form {w : World} {base : Nat} {v : Value} {l : List EntV} (h : EOwn w base v l) : ∃ q m, v = .slice q l.length m ∧ l.length ≤ m ∧ m ≤ maxLen ∧ (q = none → m = 0) := own_form h
theorem EOwn.ents {w : World} {base : Nat} {q : Option Addr} {n m : Nat} {l : List EntV} (h : EOwn w base (.slice q n m) l) : EntsIn w q l := by
  intro hp
  rcases h.2 with ⟨_, hn⟩ | ⟨g, cap, cur, hv, hb, hg, hle, hmax, hsz, htk⟩
  · omega
  · simp only [Value.slice.injEq] at hv
    obtain ⟨rfl, rfl, rfl⟩ := hv
    refine ⟨g, 0, rfl, fun i hi => ?_⟩
    obtain ⟨c0, c1, c2, c3⟩ := cellsE_at l i hi
    exact ⟨by rw [Nat.zero_add, World.ownsRow.cellAt h _ (by omega), c0], by rw [Nat.zero_add, World.ownsRow.cellAt h _ (by omega), c1], by rw [Nat.zero_add, World.ownsRow.cellAt h _ (by omega), c2], by rw [Nat.zero_add, World.ownsRow.cellAt h _ (by omega), c3]⟩
theorem EOwn.below {w w' : World} {base : Nat} {v : Value} {l : List EntV} (h : EOwn w base v l) (hb : Below w.heap.size w w') : EOwn w' base v l := own_below h hb
theorem own_neS {w : World} {base n s : Nat} {e : TypeId} {v : Value} {xs : List Value} (h : w.ownsRow base e s v n xs) {B : Nat} {C : Array Value} {t : TypeId} {fr : Nat × Nat} (hB : w.heap[B]? = some (.cells C t fr)) (ht : t ≠ e) : v.ownBlock ≠ some B := by
  intro e
  rcases h.2 with ⟨hv, _⟩ | ⟨g, cap, cur, hv, _, hgg, _⟩
  · rw [hv] at e; cases e
  · rw [hv] at e
    simp only [Value.ownBlock, Option.some.injEq] at e
    subst e
    rw [hB] at hgg
    simp only [Option.some.injEq, Obj.cells.injEq] at hgg
    exact ht hgg.2.1
theorem info_entry : (Try.prog.info? 24).map (fun i => (i.zero, i.size, i.bytes)) = some (some (.agg #[.string ByteArray.empty, .string ByteArray.empty, .int .i64 0, .bool false]), 4, 48) := by kernel_rfl
theorem info_parts' {P : Program} {t : TypeId} {z : Option Value} {s b : Nat} (h : (P.info? t).map (fun i => (i.zero, i.size, i.bytes)) = some (z, s, b)) : ∃ i, P.info? t = some i ∧ i.zero = z ∧ i.size = s ∧ i.bytes = b := by
  cases hi : P.info? t with
  | none => rw [hi] at h; cases h
  | some i => rw [hi] at h; simp at h; exact ⟨i, rfl, h.1, h.2.1, h.2.2⟩
theorem ent_cells (w : World) (a b c d : Value) (t : TypeId) : ∀ j u, [a, b, c, d][j]? = some u → (w.alloc (.cells #[a, b, c, d] t)).cell? ((⟨w.heap.size, 0, none⟩ : Addr).add j) = some u := by
  intro j u hj
  have hh := heap_alloc_new w (.cells #[a, b, c, d] t)
  have e : (⟨w.heap.size, 0, none⟩ : Addr).add j = ⟨w.heap.size, j, none⟩ := by simp [Addr.add]; intro h; omega
  rw [e, Lib.cell_of_heap hh]
  simpa using hj
theorem ent_one (k v : ByteArray) (i : Int) (g : Bool) : ∀ u ∈ [Value.string k, .string v, .int .i64 i, .bool g], u.oneCell' = true := by
  intro u hu
  simp only [List.mem_cons, List.not_mem_nil, or_false] at hu
  rcases hu with rfl | rfl | rfl | rfl <;> rfl
theorem four {w : World} {g : Nat} {a b c d : Value} {t : TypeId} (h : w.heap[g]? = some (.cells #[a, b, c, d] t (0, 0))) : (w.cell? ⟨g, 0, none⟩ = some a ∧ w.cell? ⟨g, 1, none⟩ = some b ∧ w.cell? ⟨g, 2, none⟩ = some c ∧ w.cell? ⟨g, 3, none⟩ = some d) ∧ w.frozen? ⟨g, 0, none⟩ = false ∧ w.frozen? ⟨g, 1, none⟩ = false ∧ w.frozen? ⟨g, 2, none⟩ = false ∧ w.frozen? ⟨g, 3, none⟩ = false :=
  ⟨⟨cell_of_row w _ 0 _ _ _ h, cell_of_row w _ 1 _ _ _ h, cell_of_row w _ 2 _ _ _ h, cell_of_row w _ 3 _ _ _ h⟩, by simp [World.frozen?, h], by simp [World.frozen?, h], by simp [World.frozen?, h], by simp [World.frozen?, h]⟩
theorem set4_at {B g : Nat} {w w' : World} {a b c d : Value} (h : Below B w w') (hg : B ≤ g) : Below B w ((((w'.setCell ⟨g, 0, none⟩ a).setCell ⟨g, 1, none⟩ b).setCell ⟨g, 2, none⟩ c).setCell ⟨g, 3, none⟩ d) := (((h.setCell (p := ⟨g, 0, none⟩) hg a).setCell (p := ⟨g, 1, none⟩) hg b).setCell (p := ⟨g, 2, none⟩) hg c).setCell (p := ⟨g, 3, none⟩) hg d
theorem ents_cells {w : World} {b o : Nat} {l : List EntV} (h : EntsIn w (some ⟨b, o, none⟩) l) : ∀ j u, (cellsE l)[j]? = some u → w.cell? ((⟨b, o, none⟩ : Addr).add j) = some u := by
  intro j u hj
  have hlt : j < l.length * 4 := by rw [← cellsE_len]; exact (List.getElem?_eq_some_iff.1 hj).1
  have hi : j / 4 < l.length := by omega
  obtain ⟨c0, c1, c2, c3⟩ := cellsE_at l (j / 4) hi
  obtain ⟨d0, d1, d2, d3⟩ := h.at hi
  rw [add_plain]
  have hr : j % 4 = 0 ∨ j % 4 = 1 ∨ j % 4 = 2 ∨ j % 4 = 3 := by omega
  rcases hr with hr | hr | hr | hr
  · have e : j = j / 4 * 4 := by omega
    rw [← e] at c0 d0
    rw [c0] at hj; rw [d0, ← Option.some.inj hj]
  · have e : j = j / 4 * 4 + 1 := by omega
    rw [Nat.add_assoc] at d1
    rw [← e] at c1 d1
    rw [c1] at hj; rw [d1, ← Option.some.inj hj]
  · have e : j = j / 4 * 4 + 2 := by omega
    rw [Nat.add_assoc] at d2
    rw [← e] at c2 d2
    rw [c2] at hj; rw [d2, ← Option.some.inj hj]
  · have e : j = j / 4 * 4 + 3 := by omega
    rw [Nat.add_assoc] at d3
    rw [← e] at c3 d3
    rw [c3] at hj; rw [d3, ← Option.some.inj hj]
theorem cellsE_one (l : List EntV) : ∀ u ∈ cellsE l, u.oneCell' = true := by
  intro u hu
  simp only [cellsE, List.mem_flatMap, List.mem_cons, List.not_mem_nil, or_false] at hu
  obtain ⟨p, _, h⟩ := hu
  rcases h with rfl | rfl | rfl | rfl <;> rfl
theorem run_append_ents (w : World) (base : Nat) (ty : TypeId) (l : List EntV) (p : Option Addr) (c : Nat) (hin : EntsIn w p l) (hp : p = none → c = 0) (hlen : l.length ≤ 100000) (hbase : base ≤ w.heap.size) :
    ∃ v' w', (Builtin.append_ #[22, 22] ty #[.slice none 0 0, .slice p l.length c]).run Try.prog w = .ok v' w' ∧ EOwn w' base v' l ∧ w.grownBy w' none := by
  obtain ⟨i0, hi, hz0, hz1, hz2⟩ := info_parts' info_entry
  have hown := eown_nil w base
  have hmax : 0 + l.length ≤ maxLen := by unfold maxLen; omega
  cases p with
  | none =>
    obtain rfl : l = [] := by
      cases l with
      | nil => rfl
      | cons y l => obtain ⟨b, o, e, _⟩ := hin (by simp); cases e
    obtain rfl := hp rfl
    exact ⟨_, w, run_append_owned_none (P := Try.prog) w base 22 ty 24 i0 4 Try.underlying22 hi (.slice none 0 0) 0 [] hown, hown, ⟨rfl, rfl, rfl, Nat.le_refl _, fun _ _ _ => rfl⟩⟩
  | some ad =>
    have hc : ∀ j u, (cellsE l)[j]? = some u → w.cell? (ad.add j) = some u := by
      intro j u hu
      have hpos : 0 < l.length := by
        cases l with
        | nil => simp [cellsE] at hu
        | cons y l => simp
      obtain ⟨b, o, e, _⟩ := hin hpos
      simp at e
      subst e
      exact ents_cells hin j u hu
    obtain ⟨v', w', h1, h2, h3, _⟩ := run_append_own (P := Try.prog) w base 22 ty 24 i0 (.agg #[.string ByteArray.empty, .string ByteArray.empty, .int .i64 0, .bool false]) 4 48 Try.underlying22 hi hz0 hz1 hz2 rfl (by decide) (.slice none 0 0) 0 [] hown ad l.length c (cellsE l) (cellsE_len l) hc (cellsE_one l) hmax (by omega) hbase
    exact ⟨v', w', h1, by simpa [EOwn] using h2, h3⟩
theorem wpList_append_ents (w : World) {ops : Array Oper} {rest : List Oper} {o : Oper} {a : Act} {Q : Exit → Act → World → Prop} (hgd : o.guard = none) (s x : Operand)
    (ho : o.op = .call { callee := .builtin .append, args := #[s, x], argTypes := #[22, 22] }) (base : Nat) (l : List EntV) (p : Option Addr) (m c : Nat) (hs : a.eval s = .slice none 0 0) (hx : a.eval x = .slice p m c) (hm : m = l.length)
    (hin : EntsIn w p l) (hp : p = none → c = 0) (hlen : l.length ≤ 100000) (hbase : base ≤ w.heap.size)
    (h : ∀ v' w', EOwn w' base v' l → w.grownBy w' none → wpList Try.prog ops Q rest (a.put o.dst v') w') : wpList Try.prog ops Q (o :: rest) a w := by
  subst hm
  refine wpList_plain hgd fun K hK => ?_
  obtain ⟨v', w', hr, h2, h3⟩ := run_append_ents w base o.type l p c hin hp hlen hbase
  unfold Oper.wp execOp
  simp only [ho, resolve, invoke, builtin, Sem.run_bind, Sem.run_pure, Result.andThen_ok, List.map_toArray, List.map_cons, List.map_nil, hs, hx, hr]
  exact hK _ _ (h v' w' h2 h3)
theorem run_append_two (w : World) (base : Nat) (ty : TypeId) (v : Value) (l l' : List EntV) (p : Option Addr) (c : Nat) (hown : EOwn w base v l) (hin : EntsIn w p l') (hp : p = none → c = 0) (hlen : l.length + l'.length ≤ 1000000) (hbase : base ≤ w.heap.size) :
    ∃ v' w', (Builtin.append_ #[22, 22] ty #[v, .slice p l'.length c]).run Try.prog w = .ok v' w' ∧ EOwn w' base v' (l ++ l') ∧ w.grownBy w' v.ownBlock := by
  obtain ⟨i0, hi, hz0, hz1, hz2⟩ := info_parts' info_entry
  have hmax : l.length + l'.length ≤ maxLen := by unfold maxLen; omega
  cases p with
  | none =>
    obtain rfl : l' = [] := by
      cases l' with
      | nil => rfl
      | cons y l => obtain ⟨b, o, e, _⟩ := hin (by simp); cases e
    obtain rfl := hp rfl
    exact ⟨_, w, run_append_owned_none (P := Try.prog) w base 22 ty 24 i0 4 Try.underlying22 hi v l.length (cellsE l) hown, by simpa using hown, ⟨rfl, rfl, rfl, Nat.le_refl _, fun _ _ _ => rfl⟩⟩
  | some ad =>
    have hc : ∀ j u, (cellsE l')[j]? = some u → w.cell? (ad.add j) = some u := by
      intro j u hu
      have hpos : 0 < l'.length := by
        cases l' with
        | nil => simp [cellsE] at hu
        | cons y l => simp
      obtain ⟨b, o, e, _⟩ := hin hpos
      simp at e
      subst e
      exact ents_cells hin j u hu
    obtain ⟨v', w', h1, h2, h3, _⟩ := run_append_own (P := Try.prog) w base 22 ty 24 i0 (.agg #[.string ByteArray.empty, .string ByteArray.empty, .int .i64 0, .bool false]) 4 48 Try.underlying22 hi hz0 hz1 hz2 rfl (by decide) v l.length (cellsE l) hown ad l'.length c (cellsE l') (cellsE_len l') hc (cellsE_one l') hmax (by omega) hbase
    refine ⟨v', w', h1, ?_, h3⟩
    unfold EOwn
    rw [cellsE_app, List.length_append]
    exact h2
theorem wpList_append_two (w : World) {ops : Array Oper} {rest : List Oper} {o : Oper} {a : Act} {Q : Exit → Act → World → Prop} (hw : Region.wanted o (yielded ops a.tmps) = true) (s x : Operand)
    (ho : o.op = .call { callee := .builtin .append, args := #[s, x], argTypes := #[22, 22] }) (base : Nat) (v : Value) (l l' : List EntV) (p : Option Addr) (m c : Nat) (hs : a.eval s = v) (hx : a.eval x = .slice p m c) (hm : m = l'.length)
    (hown : EOwn w base v l) (hin : EntsIn w p l') (hp : p = none → c = 0) (hlen : l.length + l'.length ≤ 1000000) (hbase : base ≤ w.heap.size)
    (h : ∀ v' w', EOwn w' base v' (l ++ l') → w.grownBy w' v.ownBlock → wpList Try.prog ops Q rest (a.put o.dst v') w') : wpList Try.prog ops Q (o :: rest) a w := by
  subst hm
  refine wpList_step fun K hK => ?_
  rw [if_pos hw]
  obtain ⟨v', w', hr, h2, h3⟩ := run_append_two w base o.type v l l' p c hown hin hp hlen hbase
  unfold Oper.wp execOp
  simp only [ho, resolve, invoke, builtin, Sem.run_bind, Sem.run_pure, Result.andThen_ok, List.map_toArray, List.map_cons, List.map_nil, hs, hx, hr]
  exact hK _ _ (h v' w' h2 h3)
/-- Two rows of one's own, the one older than the other's beginning. -/
theorem own_apart {w w' : World} {B1 B2 : Nat} {v1 v2 : Value} {l1 l2 : List EntV} (h1 : EOwn w B1 v1 l1) (h2 : EOwn w' B2 v2 l2) (h : w.heap.size ≤ B2) : v2.ownBlock = none ∨ v2.ownBlock ≠ v1.ownBlock := by
  cases h3 : v2.ownBlock with
  | none => exact .inl rfl
  | some k =>
    right
    intro e
    have a := (World.ownsRow.lt h1 k e.symm).2
    have b := (World.ownsRow.lt h2 k h3).1
    omega
theorem own_apart' {w w' : World} {B1 B2 : Nat} {v1 v2 : Value} {l1 l2 : List EntV} (h1 : EOwn w B1 v1 l1) (h2 : EOwn w' B2 v2 l2) (h : w.heap.size ≤ B2) : v1.ownBlock = none ∨ v1.ownBlock ≠ v2.ownBlock := by
  cases h3 : v1.ownBlock with
  | none => exact .inl rfl
  | some k =>
    right
    intro e
    have a := (World.ownsRow.lt h1 k h3).2
    have b := (World.ownsRow.lt h2 k e.symm).1
    omega
theorem ents_grownE {w w' : World} {base : Nat} {v : Value} {l : List EntV} (h : EOwn w base v l) (hg : w.grownBy w' v.ownBlock) {w0 : World} (h0 : Below w0.heap.size w0 w) (hb : w0.heap.size ≤ base) : Below w0.heap.size w0 w' := h0.grown hg h0.size (fun k hk => by have := (World.ownsRow.lt h k hk).1; omega)
theorem results_cell_tmp2 {fn : Func} {p u x : Tmp} {ty : TypeId} (h : fn.results = #[.cell p ty, .tmp u, .tmp x]) (tmps : Array Value) (P : Program) (w : World) :
    (results fn tmps).run P w = ((asAddr (tmps.getD p undef)).run P w).andThen fun a w₁ => ((loadVar ty a).run P w₁).andThen fun v w₂ => .ok (.tuple #[v, tmps.getD u undef, tmps.getD x undef]) w₂ := by
  simp only [results, h]
  simp [Sem.run_bind, Result.andThen]
structure OnB (w : World) (v : Value) (l : List EntV) (wr : World) : Prop where
  own : EOwn wr w.heap.size v l
  bel : Below w.heap.size w wr
theorem OnB.next {w wr w' : World} {v : Value} {l : List EntV} (h : OnB w v l wr) (hb : Below wr.heap.size wr w') : OnB w v l w' := ⟨h.own.below hb, below_bt h.bel hb⟩
theorem OnB.app {w wr w' : World} {q : Option Addr} {c : Nat} {v' : Value} {l : List EntV} {k s : ByteArray} {i : Int} {g : Bool} (h : OnB w (.slice q l.length c) l wr) (hg : wr.grownBy w' (Value.slice q l.length c).ownBlock) (ho : w'.ownsRow w.heap.size 24 4 v' (l.length + 1) (cellsE l ++ [.string k, .string s, .int .i64 i, .bool g])) : OnB w v' (l ++ [⟨k, s, i, g⟩]) w' := by
  refine ⟨?_, h.bel.grown hg h.bel.size (fun k hk => (World.ownsRow.lt h.own k hk).1)⟩
  unfold EOwn
  rw [cellsE_app, List.length_append]
  exact ho
theorem ent_cells2 (w : World) (a b c d : Value) (t : TypeId) : ∀ j u, [a, b, c, d][j]? = some u → ((w.alloc (.cells #[a, b, c, d] t)).alloc (.cells #[a, b, c, d] t)).cell? ((⟨w.heap.size + 1, 0, none⟩ : Addr).add j) = some u := by
  have h := ent_cells (w.alloc (.cells #[a, b, c, d] t)) a b c d t
  rw [show (w.alloc (.cells #[a, b, c, d] t)).heap.size = w.heap.size + 1 by simp] at h
  exact h
end Go.Proofs.Ytbeoijlkhpbdjaa
namespace Go.Proofs.Ytbeoijlkhpbdjaa
open Go.RowKit Go.WideShapes

def leftN (al : List NodV) : Value → Nat
  | .pointer (some a) => al.length - posN al (.pointer (some a))
  | _ => 0
theorem make_ents (w : World) (c : Nat) (hc : c ≤ 5000) : ∃ w', (Instr.makeSlice 22 (.int .i64 0) (.int .i64 (c : Int))).run Try.prog w = .ok (.slice (some ⟨w.heap.size, 0, none⟩) 0 c) w' ∧ OnB w (.slice (some ⟨w.heap.size, 0, none⟩) 0 c) [] w' := by
  obtain ⟨i0, hi, hz0, hz1, hz2⟩ := info_parts' info_entry
  obtain ⟨w', h1, h2, h3⟩ := run_make_own (P := Try.prog) w w.heap.size 22 24 i0 _ 4 Try.underlying22 hi hz0 hz1 .i64 .i64 c (by rw [hz2]; omega) (by unfold maxLen; omega) (Nat.le_refl _)
  exact ⟨w', h1, ⟨h2, (Below.refl _ _).grown h3 (Nat.le_refl _) (fun k hk => by cases hk)⟩⟩
end Go.Proofs.Ytbeoijlkhpbdjaa
namespace Go.Proofs.Ytbeoijlkhpbdjaa
open Go.RowKit Go.WideShapes

def adO : Option NodV → Option Addr
  | none => none
  | some n => some ⟨n.nb, 0, none⟩
theorem ptO_eq (o : Option NodV) : ptO o = .pointer (adO o) := by cases o <;> rfl
theorem set_typ {w : World} {b o : Nat} {cs : Array Value} {t : TypeId} {fr : Nat × Nat} {b' : Nat} {cs' : Array Value} {t' : TypeId} {fr' : Nat × Nat} (h : w.heap[b]? = some (.cells cs t fr)) (h' : w.heap[b']? = some (.cells cs' t' fr')) (ht : t' ≠ t) (v : Value) : (w.setCell ⟨b, o, none⟩ v).heap[b']? = some (.cells cs' t' fr') := by
  refine (heap_setCell_other w ⟨b, o, none⟩ b' v ?_).trans h'
  intro e
  have e' : b' = b := e
  subst e'
  rw [h] at h'
  simp only [Option.some.injEq, Obj.cells.injEq] at h'
  exact ht h'.2.1.symm
theorem set_num {w : World} {b o b' : Nat} {x : Obj} (h' : w.heap[b']? = some x) (ht : b' ≠ b) (v : Value) : (w.setCell ⟨b, o, none⟩ v).heap[b']? = some x := (heap_setCell_other w ⟨b, o, none⟩ b' v ht).trans h'
end Go.Proofs.Ytbeoijlkhpbdjaa
namespace Go.Proofs.Ytbeoijlkhpbdjaa
open Go.RowKit Go.WideShapes

def agA (b : Nat → Nat) : Array Value := #[.pointer (some ⟨b 0, 0, none⟩), .pointer (some ⟨b 1, 0, none⟩), .pointer (some ⟨b 2, 0, none⟩), .pointer (some ⟨b 3, 0, none⟩), .pointer (some ⟨b 4, 0, none⟩), .pointer (some ⟨b 5, 0, none⟩), .pointer (some ⟨b 6, 0, none⟩), .pointer (some ⟨b 7, 0, none⟩), .pointer (some ⟨b 8, 0, none⟩), .pointer (some ⟨b 9, 0, none⟩), .pointer (some ⟨b 10, 0, none⟩), .pointer (some ⟨b 11, 0, none⟩)]
theorem agA_at {b : Nat → Nat} {j : Nat} (h : j < 12) : (agA b)[j]? = some (.pointer (some ⟨b j, 0, none⟩)) := by
  have hc : j = 0 ∨ j = 1 ∨ j = 2 ∨ j = 3 ∨ j = 4 ∨ j = 5 ∨ j = 6 ∨ j = 7 ∨ j = 8 ∨ j = 9 ∨ j = 10 ∨ j = 11 := by omega
  rcases hc with rfl | rfl | rfl | rfl | rfl | rfl | rfl | rfl | rfl | rfl | rfl | rfl <;> rfl
def putR (l : List EntV) (x : EntV) : List EntV × Nat :=
  if placeE l x < l.length ∧ sameE (l.getD (placeE l x) zeroE) x = true then (l, 100) else if 4096 ≤ l.length then (l, 4) else (insE l x, 0)
end Go.Proofs.Ytbeoijlkhpbdjaa
