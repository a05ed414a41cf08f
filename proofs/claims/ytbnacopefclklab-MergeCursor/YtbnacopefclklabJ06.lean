/-
  A row goes up in a heap.
-/
import Derived.Test.YtbnacopefclklabJ02
import Derived.Test.YtbnacopefclklabJ03
import Derived.Test.YtbnacopefclklabJ05
import Derived.Test.YtbnacopefclklabJ04
import Derived.Laws.OwnMore
namespace Go.Proofs.Ytbnacopefclklab
open Go.RowKit Go.WideShapes


/-- The lowest k bytes of a number. -/
def putK : Nat → Nat → List Nat
  | 0, _ => []
  | k + 1, m => (m % 256) :: putK k (m / 256)
theorem putK_8 (n : Nat) (h : n < 18446744073709551616) : putK 8 n = putN n := by
  simp only [putK, putN, Nat.div_div_eq_div_mul, Nat.reduceMul]
  have : n / 72057594037927936 % 256 = n / 72057594037927936 := by omega
  rw [this]
theorem putK_step (k m : Nat) (h : k < 8) : putK (8 - k) m = (m % 256) :: putK (8 - (k + 1)) (m / 256) := by
  rw [show 8 - k = (8 - (k + 1)) + 1 from by omega]; rfl

theorem ret_two {a b : Int} {k1 k2 : IntKind} {c : Int} (h : a = b) : Ending.returned (.tuple #[.int k1 a, .int k2 c]) = .returned (.tuple #[.int k1 b, .int k2 c]) := by rw [h]
end Go.Proofs.Ytbnacopefclklab
namespace Go.Proofs.Ytbnacopefclklab
open Go.RowKit Go.WideShapes

theorem bl_irrefl : ∀ (a : List UInt8), Op.bytesLess a a = false
  | [] => rfl
  | x :: a => by
    unfold Op.bytesLess
    simp [UInt8.lt_irrefl x, bl_irrefl a]
end Go.Proofs.Ytbnacopefclklab
namespace Go.Proofs.Ytbnacopefclklab
open Go.RowKit Go.WideShapes

end Go.Proofs.Ytbnacopefclklab
namespace Go.Proofs.Ytbnacopefclklab
open Go.RowKit Go.WideShapes

abbrev zE : Array Value := #[.string ⟨#[]⟩, .string ⟨#[]⟩, .int .i64 0, .bool false]
end Go.Proofs.Ytbnacopefclklab
namespace Go.Proofs.Ytbnacopefclklab
open Go.RowKit Go.WideShapes

/-- A row as a value, and its entries. -/
structure RV where
  q : Option Addr
  n : Nat
  c : Nat
  l : List EntV
def zR : RV := ⟨none, 0, 0, []⟩
def rvV (r : RV) : Value := .slice r.q r.n r.c
def headR (r : RV) : EntV := r.l.getD 0 zeroE
def ltR (a b : RV) : Bool := lessE (headR a) (headR b)
theorem lessE_irr (a : EntV) : lessE a a = false := lessE_same ⟨rfl, rfl⟩
theorem ltR_asym (a b : RV) (h : ltR a b = true) : ltR b a = false := lessE_asymm h
theorem ltR_trans (a b c : RV) (h1 : ltR b a = false) (h2 : ltR c b = false) : ltR c a = false := weak_trans h1 h2
theorem ltR_irr (a : RV) : ltR a a = false := lessE_irr _
structure RowOk (w : World) (r : RV) : Prop where
  n : r.n = r.l.length
  lies : EntsIn w r.q r.l
  nc : r.n ≤ r.c
  c : r.c ≤ maxLen
  q : r.q = none → r.c = 0
theorem RowOk.below {w w' : World} {r : RV} (h : RowOk w r) (hb : Below w.heap.size w w') : RowOk w' r := ⟨h.n, h.lies.below hb, h.nc, h.c, h.q⟩
/-- What is left as it was: all memory but that of rows. -/
structure KeptR (w w' : World) : Prop where
  size : w.heap.size ≤ w'.heap.size
  typ : ∀ (b : Nat) (cs : Array Value) (t : TypeId) (fr : Nat × Nat), w.heap[b]? = some (.cells cs t fr) → t ≠ 25 → t ≠ 52 → w'.heap[b]? = some (.cells cs t fr)
theorem KeptR.refl (w : World) : KeptR w w := ⟨Nat.le_refl _, fun _ _ _ _ h _ _ => h⟩
theorem KeptR.trans {a b c : World} (h : KeptR a b) (k : KeptR b c) : KeptR a c := ⟨Nat.le_trans h.size k.size, fun _ _ _ _ e h1 h2 => k.typ _ _ _ _ (h.typ _ _ _ _ e h1 h2) h1 h2⟩
theorem block_belowR {w w' : World} {b : Nat} {o : Obj} (h : w.heap[b]? = some o) (hb : Below w.heap.size w w') : w'.heap[b]? = some o := (hb.block _ (lt_heap h)).trans h
theorem keptR_below {w w' : World} (h : Below w.heap.size w w') : KeptR w w' := ⟨h.size, fun _ _ _ _ e _ _ => block_belowR e h⟩
theorem keptR_set {w : World} {b o : Nat} {cs : Array Value} {t : TypeId} {fr : Nat × Nat} (h : w.heap[b]? = some (.cells cs t fr)) (ht : t = 25 ∨ t = 52) (v : Value) : KeptR w (w.setCell ⟨b, o, none⟩ v) := by
  have h0 : Below b w (w.setCell ⟨b, o, none⟩ v) := (Below.refl b w).setCell (p := ⟨b, o, none⟩) (Nat.le_refl b) v
  refine ⟨h0.size, fun b' cs' t' fr' e h1 h2 => (heap_setCell_other w ⟨b, o, none⟩ b' v ?_).trans e⟩
  intro hbb
  have hbb' : b' = b := hbb
  subst hbb'
  rw [h] at e
  simp only [Option.some.injEq, Obj.cells.injEq] at e
  rcases ht with ht | ht
  · exact h1 (e.2.1.symm.trans ht)
  · exact h2 (e.2.1.symm.trans ht)
/-- A heap of rows behind a pointer. -/
structure Hp (w0 : World) (bh : Nat) (hv : Value) (R : List RV) (w : World) : Prop where
  bel : Below w0.heap.size w0 w
  bhb : w0.heap.size ≤ bh
  ptr : w.heap[bh]? = some (.cells #[hv] 52 (0, 0))
  own : w.ownsRow w0.heap.size 25 1 hv R.length (R.map rvV)
  rows : ∀ r ∈ R, RowOk w0 r ∧ 0 < r.l.length
theorem Hp.next {w0 w w' : World} {bh : Nat} {hv : Value} {R : List RV} (h : Hp w0 bh hv R w) (hb : Below w.heap.size w w') : Hp w0 bh hv R w' := ⟨below_bt h.bel hb, h.bhb, block_belowR h.ptr hb, own_below h.own hb, h.rows⟩
theorem Hp.drew {w0 w : World} {bh : Nat} {hv : Value} {R : List RV} (h : Hp w0 bh hv R w) : Hp w0 bh hv R w.drew := h.next (Below.refl _ _).drew
theorem getR_mem {R : List RV} {k : Nat} (hk : k < R.length) : R.getD k zR ∈ R := by
  rw [List.getD_eq_getElem?_getD, List.getElem?_eq_getElem hk]; exact List.getElem_mem _
theorem mapR_at {R : List RV} {k : Nat} (hk : k < R.length) : (R.map rvV)[k]? = some (rvV (R.getD k zR)) := by
  rw [List.getElem?_map, List.getD_eq_getElem?_getD, List.getElem?_eq_getElem hk]; rfl
theorem Hp.form {w0 w : World} {bh : Nat} {hv : Value} {R : List RV} (h : Hp w0 bh hv R w) (hp : 0 < R.length) : ∃ g cap cur, hv = .slice (some ⟨g, 0, none⟩) R.length cap ∧ w0.heap.size ≤ g ∧ w.heap[g]? = some (.cells cur 25 (0, 0)) ∧ R.length ≤ cap ∧ cap ≤ maxLen ∧ (∀ i, i < R.length → w.cell? ⟨g, i, none⟩ = some (rvV (R.getD i zR))) ∧ ∀ i, w.frozen? ⟨g, i, none⟩ = false := by
  have h0 := h.own
  rcases h.own.2 with ⟨_, hn⟩ | ⟨g, cap, cur, hv', hb, hg, hle, hmax, hsz, htk⟩
  · omega
  · subst hv'
    exact ⟨g, cap, cur, rfl, hb, hg, hle, hmax, fun i hi => (World.ownsRow.cellAt h0 i (by omega)).trans (mapR_at hi), fun i => World.ownsRow.frozenAt h0 i⟩
theorem Hp.row {w0 w : World} {bh : Nat} {hv : Value} {R : List RV} (h : Hp w0 bh hv R w) {i : Nat} (hi : i < R.length) : ∃ (b o n c : Nat) (k v : ByteArray) (s : Int) (d : Bool), rvV (R.getD i zR) = .slice (some ⟨b, o, none⟩) n c ∧ 0 < n ∧ headR (R.getD i zR) = ⟨k, v, s, d⟩ ∧ C4 w b o (.string k) (.string v) (.int .i64 s) (.bool d) := by
  obtain ⟨hr, hp⟩ := h.rows _ (getR_mem hi)
  obtain ⟨⟨q, n, c, l⟩, hR⟩ : ∃ r, R.getD i zR = r := ⟨_, rfl⟩
  rw [hR] at hr hp ⊢
  simp only at hp
  obtain ⟨b, o, rfl⟩ := hr.lies.addr hp
  have h4 := (hr.lies.below h.bel).at (k := 0) hp
  obtain ⟨⟨k, v, s, d⟩, hy⟩ : ∃ y, l.getD 0 zeroE = y := ⟨_, rfl⟩
  rw [hy] at h4
  simp only [Nat.zero_mul, Nat.add_zero] at h4
  exact ⟨b, o, n, c, k, v, s, d, rfl, by have := hr.n; simp only at this; omega, hy, h4⟩
theorem Hp.set {w0 w : World} {bh g cap : Nat} {R : List RV} (h : Hp w0 bh (.slice (some ⟨g, 0, none⟩) R.length cap) R w) {i : Nat} (hi : i < R.length) (r : RV) (hr : RowOk w0 r ∧ 0 < r.l.length) : Hp w0 bh (.slice (some ⟨g, 0, none⟩) R.length cap) (R.set i r) (w.setCell ⟨g, i, none⟩ (rvV r)) := by
  obtain ⟨g', cap', cur, e, hb, hg, _⟩ := h.form (by omega)
  simp only [Value.slice.injEq, Option.some.injEq, Addr.mk.injEq] at e
  obtain ⟨⟨rfl, _⟩, _, rfl⟩ := e
  have hne : bh ≠ g := by
    intro e
    subst e
    have := h.ptr
    rw [hg] at this
    simp at this
  refine ⟨h.bel.setCell (p := ⟨g, i, none⟩) hb _, h.bhb, ?_, ?_, fun x hx => ?_⟩
  · rw [heap_setCell_other w ⟨g, i, none⟩ bh _ hne]; exact h.ptr
  · have := World.ownsRow.stored h.own i (rvV r)
    rw [List.length_set, List.map_set]
    exact this.1
  · rcases List.mem_or_eq_of_mem_set hx with hx | rfl
    · exact h.rows x hx
    · exact hr
theorem Hp.swap {w0 w : World} {bh g cap : Nat} {R : List RV} (h : Hp w0 bh (.slice (some ⟨g, 0, none⟩) R.length cap) R w) {i j : Nat} (hi : i < R.length) (hj : j < R.length) : Hp w0 bh (.slice (some ⟨g, 0, none⟩) R.length cap) (swp zR R i j) ((w.setCell ⟨g, i, none⟩ (rvV (R.getD j zR))).setCell ⟨g, j, none⟩ (rvV (R.getD i zR))) := by
  have h1 := h.set hi (R.getD j zR) (h.rows _ (getR_mem hj))
  have e : (R.set i (R.getD j zR)).length = R.length := List.length_set
  rw [← e] at h1
  have h2 := h1.set (i := j) (by rw [e]; exact hj) (R.getD i zR) (h.rows _ (getR_mem hi))
  rw [e] at h2
  exact h2
theorem Hp.keptS {w0 w : World} {bh g cap : Nat} {R : List RV} (h : Hp w0 bh (.slice (some ⟨g, 0, none⟩) R.length cap) R w) (hp : 0 < R.length) (i : Nat) (v : Value) : KeptR w (w.setCell ⟨g, i, none⟩ v) := by
  obtain ⟨g', cap', cur, e, hb, hg, _⟩ := h.form hp
  simp only [Value.slice.injEq, Option.some.injEq, Addr.mk.injEq] at e
  obtain ⟨⟨rfl, _⟩, _, rfl⟩ := e
  exact keptR_set hg (.inl rfl) v
end Go.Proofs.Ytbnacopefclklab
namespace Go.Proofs.Ytbnacopefclklab
open Go.RowKit Go.WideShapes

theorem cell_below {w w' : World} {a : Addr} {v : Value} (h : w.cell? a = some v) (hb : Below w.heap.size w w') : w'.cell? a = some v := (hb.cell (World.block_lt_of_cell? _ _ h)).trans h
set_option maxHeartbeats 1000000 in
theorem hLess_any (w0 : World) (bh : Nat) (hv : Value) (R : List RV) (w : World) (h : Hp w0 bh hv R w) (i j : Nat) (hi : i < R.length) (hj : j < R.length) (r : Bool) (hr : ltR (R.getD i zR) (R.getD j zR) = r) :
    Calls Try.prog 45 #[hv, .int .i64 (i : Int), .int .i64 (j : Int)] w fun e w' => e = .returned (.bool r) ∧ Below w.heap.size w w' := by
  obtain ⟨g, cap, cur, rfl, hgb, hg, hle, hmax, hc, hf⟩ := h.form (by omega)
  obtain ⟨b1, o1, n1, c1, k1, v1, s1, d1, e1, p1, y1, q1⟩ := h.row hi
  obtain ⟨b2, o2, n2, c2, k2, v2, s2, d2, e2, p2, y2, q2⟩ := h.row hj
  have HLE := fun w' => less_any ⟨k1, v1, s1, d1⟩ ⟨k2, v2, s2, d2⟩ w'
  have h1 := hc i hi
  have h2 := hc j hj
  rw [e1] at h1
  rw [e2] at h2
  unfold ltR at hr
  rw [y1, y2] at hr
  rw [hr, entV_def, entV_def] at HLE
  obtain ⟨m, hm⟩ : ∃ m, R.length = m := ⟨_, rfl⟩
  have i0 : (0 : Int) ≤ (i : Int) := by omega
  have j0 : (0 : Int) ≤ (j : Int) := by omega
  rw [hm] at hi hj ⊢
  have i1 : (i : Int) < (m : Int) := by omega
  have j1 : (j : Int) < (m : Int) := by omega
  have n1' : (0 : Int) < (n1 : Int) := by omega
  have n2' : (0 : Int) < (n2 : Int) := by omega
  have H1 : Hid (w.cell? ⟨g, i, none⟩ = some (.slice (some ⟨b1, o1, none⟩) n1 c1)) := h1
  have H2 : Hid (w.cell? ⟨g, j, none⟩ = some (.slice (some ⟨b2, o2, none⟩) n2 c2)) := h2
  have Q1 : Hid (C4 w b1 o1 (.string k1) (.string v1) (.int .i64 s1) (.bool d1)) := q1
  have Q2 : Hid (C4 w b2 o2 (.string k2) (.string v2) (.int .i64 s2) (.bool d2)) := q2
  clear h1 h2 q1 q2 e1 e2 y1 y2 hr hc hf hg h hle hmax hgb hm hi hj
  go_enter Try.func45, Try.ntmps45
  go_wp2
  go_region_held3 (fun w' => (w'.cell? ⟨g, i, none⟩ = some (.slice (some ⟨b1, o1, none⟩) n1 c1)) ∧ (w'.cell? ⟨g, j, none⟩ = some (.slice (some ⟨b2, o2, none⟩) n2 c2)) ∧ (w'.cell? ⟨b1, o1, none⟩ = some (.string k1) ∧ w'.cell? ⟨b1, o1 + 1, none⟩ = some (.string v1) ∧ w'.cell? ⟨b1, o1 + 2, none⟩ = some (.int .i64 s1) ∧ w'.cell? ⟨b1, o1 + 3, none⟩ = some (.bool d1)) ∧ (w'.cell? ⟨b2, o2, none⟩ = some (.string k2) ∧ w'.cell? ⟨b2, o2 + 1, none⟩ = some (.string v2) ∧ w'.cell? ⟨b2, o2 + 2, none⟩ = some (.int .i64 s2) ∧ w'.cell? ⟨b2, o2 + 3, none⟩ = some (.bool d2)) ∧ Below w.heap.size w w')
    (with_reducible first | exact ⟨H1.out, H2.out, Q1.out, Q2.out, Below.refl _ _⟩ | exact ⟨cell_below H1.out (Below.refl _ _).drew, cell_below H2.out (Below.refl _ _).drew, c4_below Q1.out (Below.refl _ _).drew, c4_below Q2.out (Below.refl _ _).drew, (Below.refl _ _).drew⟩ | exact ⟨cell_below H1.out (below_dw (by assumption)), cell_below H2.out (below_dw (by assumption)), c4_below Q1.out (below_dw (by assumption)), c4_below Q2.out (below_dw (by assumption)), below_dw (by assumption)⟩ | assumption)
    (first
      | (go_at_call 18; refine (HLE _).mono ?_; rintro e w3 ⟨rfl, hb3⟩)
      | fail)
  rename_i hh
  have HB3 : Hid (Below w.heap.size w w3) := hh.2.2.2.2
  clear hh
  go_wp2
  go_ret
  exact ⟨rfl, HB3.out⟩
set_option maxHeartbeats 1000000 in
theorem hSwap_any (w0 : World) (bh : Nat) (hv : Value) (R : List RV) (w : World) (h : Hp w0 bh hv R w) (i j : Nat) (hi : i < R.length) (hj : j < R.length) :
    Calls Try.prog 48 #[hv, .int .i64 (i : Int), .int .i64 (j : Int)] w fun e w' => e = .returned (.tuple #[]) ∧ Hp w0 bh hv (swp zR R i j) w' ∧ KeptR w w' := by
  obtain ⟨g, cap, cur, rfl, hgb, hg, hle, hmax, hc, hf⟩ := h.form (by omega)
  have h1 := hc i hi
  have h2 := hc j hj
  have f1 := hf i
  have f2 := hf j
  obtain ⟨⟨q1, n1, c1, l1⟩, hV1⟩ : ∃ V, R.getD i zR = V := ⟨_, rfl⟩
  obtain ⟨⟨q2, n2, c2, l2⟩, hV2⟩ : ∃ V, R.getD j zR = V := ⟨_, rfl⟩
  have hX := h.swap hi hj
  rw [hV1, hV2, show rvV ⟨q1, n1, c1, l1⟩ = .slice q1 n1 c1 from rfl, show rvV ⟨q2, n2, c2, l2⟩ = .slice q2 n2 c2 from rfl] at hX
  have HX : Hid (Hp w0 bh (.slice (some ⟨g, 0, none⟩) R.length cap) (swp zR R i j) ((w.setCell ⟨g, i, none⟩ (.slice q2 n2 c2)).setCell ⟨g, j, none⟩ (.slice q1 n1 c1))) := hX
  obtain ⟨m, hm⟩ : ∃ m, R.length = m := ⟨_, rfl⟩
  rw [hV1, show rvV ⟨q1, n1, c1, l1⟩ = .slice q1 n1 c1 from rfl] at h1
  rw [hV2, show rvV ⟨q2, n2, c2, l2⟩ = .slice q2 n2 c2 from rfl] at h2
  rw [hm] at HX hi hj ⊢
  have i0 : (0 : Int) ≤ (i : Int) := by omega
  have j0 : (0 : Int) ≤ (j : Int) := by omega
  have i1 : (i : Int) < (m : Int) := by omega
  have j1 : (j : Int) < (m : Int) := by omega
  have HG : Hid (w.heap[g]? = some (.cells cur 25 (0, 0))) := hg
  obtain ⟨V3, h3⟩ : ∃ V, (w.setCell ⟨g, i, none⟩ (.slice q2 n2 c2)).cell? ⟨g, j, none⟩ = some V := by
    by_cases e : i = j
    · subst e
      exact ⟨_, World.cell?_setCell_same _ _ _ h1⟩
    · exact ⟨_, (World.cell?_setCell_other _ _ _ _ (fun h => e (by injection h))).trans h2⟩
  have f3 : (w.setCell ⟨g, i, none⟩ (.slice q2 n2 c2)).frozen? ⟨g, j, none⟩ = false := by rw [World.frozen?_setCell]; exact f2
  clear hc hf hV1 hV2 hm hi hj h hg hle hmax hgb hX
  go_enter Try.func48, Try.ntmps48
  go_wp2
  go_region
  all_goals go_wp2
  all_goals go_end0
  all_goals exact ⟨rfl, HX.out.drew, (keptR_set HG.out (.inl rfl) _).trans ((keptR_set (heap_setCell_same w g i cur _ _ HG.out) (.inl rfl) _).trans (keptR_below (Below.refl _ _).drew))⟩
end Go.Proofs.Ytbnacopefclklab
namespace Go.Proofs.Ytbnacopefclklab
open Go.RowKit Go.WideShapes

theorem meth_less0 (a : Addr) (w : World) : (Go.method 182 51 (.pointer (some a)) "Less").run Try.prog w = ((receiverAt 51 (.val (.pointer (some a))) false (some "Less")) >>= fun r => pure (45, r)).run Try.prog w := by kernel_rfl
theorem meth_swap0 (a : Addr) (w : World) : (Go.method 182 51 (.pointer (some a)) "Swap").run Try.prog w = ((receiverAt 51 (.val (.pointer (some a))) false (some "Swap")) >>= fun r => pure (48, r)).run Try.prog w := by kernel_rfl
theorem meth_len0 (a : Addr) (w : World) : (Go.method 182 51 (.pointer (some a)) "Len").run Try.prog w = ((receiverAt 51 (.val (.pointer (some a))) false (some "Len")) >>= fun r => pure (21, r)).run Try.prog w := by kernel_rfl
theorem meth_push (a : Addr) (w : World) : (Go.method 182 51 (.pointer (some a)) "Push").run Try.prog w = .ok (47, .pointer (some a)) w := by kernel_rfl
theorem meth_pop (a : Addr) (w : World) : (Go.method 182 51 (.pointer (some a)) "Pop").run Try.prog w = .ok (46, .pointer (some a)) w := by kernel_rfl
theorem load_heads (q : Option Addr) (n c b : Nat) (w : World) (h : w.cell? ⟨b, 0, none⟩ = some (.slice q n c)) : (loadVar 52 ⟨b, 0, none⟩).run Try.prog w = .ok (.slice q n c) w := by
  go_simp
theorem recv_heads (q : Option Addr) (n c b : Nat) (w : World) (nm : String) (h : w.cell? ⟨b, 0, none⟩ = some (.slice q n c)) : (receiverAt 51 (.val (.pointer (some ⟨b, 0, none⟩))) false (some nm)).run Try.prog w = .ok (.slice q n c) w := by
  unfold receiverAt
  go_simp
  rw [show (Sem.run Try.prog (Place.get 51 (Place.val (Value.pointer (some ⟨b, 0, none⟩)))) w) = .ok (Value.pointer (some ⟨b, 0, none⟩)) w from rfl]
  simp only [Result.andThen_ok]
  rw [show (Sem.run Try.prog (Builtin.ssaWrapNilChk_ #[51] 51 #[Value.pointer (some ⟨b, 0, none⟩), strVal "", strVal nm]) w) = .ok (Value.pointer (some ⟨b, 0, none⟩)) w from rfl]
  simp only [Result.andThen_ok, Sem.run_pure, h]
theorem meth_less (q : Option Addr) (n c b : Nat) (w : World) (h : w.cell? ⟨b, 0, none⟩ = some (.slice q n c)) : (Go.method 182 51 (.pointer (some ⟨b, 0, none⟩)) "Less").run Try.prog w = .ok (45, .slice q n c) w := by rw [meth_less0, Sem.run_bind, recv_heads q n c b w _ h]; rfl
theorem meth_swap (q : Option Addr) (n c b : Nat) (w : World) (h : w.cell? ⟨b, 0, none⟩ = some (.slice q n c)) : (Go.method 182 51 (.pointer (some ⟨b, 0, none⟩)) "Swap").run Try.prog w = .ok (48, .slice q n c) w := by rw [meth_swap0, Sem.run_bind, recv_heads q n c b w _ h]; rfl
theorem meth_len (q : Option Addr) (n c b : Nat) (w : World) (h : w.cell? ⟨b, 0, none⟩ = some (.slice q n c)) : (Go.method 182 51 (.pointer (some ⟨b, 0, none⟩)) "Len").run Try.prog w = .ok (21, .slice q n c) w := by rw [meth_len0, Sem.run_bind, recv_heads q n c b w _ h]; rfl
theorem Hp.val {w0 w : World} {bh : Nat} {hv : Value} {R : List RV} (h : Hp w0 bh hv R w) : ∃ q c, hv = .slice q R.length c ∧ R.length ≤ c ∧ c ≤ maxLen := by
  obtain ⟨q, m, h1, h2, h3, _⟩ := own_form h.own
  exact ⟨q, m, h1, h2, h3⟩
end Go.Proofs.Ytbnacopefclklab
namespace Go.Proofs.Ytbnacopefclklab
open Go.RowKit Go.WideShapes

set_option maxHeartbeats 1000000 in
theorem up_any (w0 : World) (bh : Nat) (hv : Value) (R : List RV) (w : World) (h : Hp w0 bh hv R w) (j : Nat) (hj : j < R.length) (hu : UpOk zR ltR R j) (hlen : R.length ≤ 1000) :
    Calls Try.prog 25 #[.iface 51 (.pointer (some ⟨bh, 0, none⟩)), .int .i64 (j : Int)] w fun e w' => e = .returned (.tuple #[]) ∧ ∃ R', R'.Perm R ∧ Heap zR ltR R' ∧ Hp w0 bh hv R' w' ∧ KeptR w w' := by
  obtain ⟨q, c, rfl, _, _⟩ := h.val
  obtain ⟨m, hm⟩ : ∃ m, R.length = m := ⟨_, rfl⟩
  rw [hm] at h ⊢
  obtain ⟨hv, hhv⟩ : ∃ hv, Value.slice q m c = hv := ⟨_, rfl⟩
  rw [hhv] at h ⊢
  have H0 : Hid (Hp w0 bh hv R w ∧ UpOk zR ltR R j ∧ j < R.length ∧ R.length ≤ 1000) := ⟨h, hu, hj, hlen⟩
  clear h hu hj hlen hm
  go_enter Try.func25, Try.ntmps25
  go_wp2
  go_loopw [1] (fun s1 wr => ∃ (k : Nat) (Rk : List RV), s1 = .int .i64 (k : Int) ∧ k < Rk.length ∧ Rk.Perm R ∧ UpOk zR ltR Rk k ∧ Hp w0 bh hv Rk wr ∧ KeptR w wr) (fun s1 _ => (intOf s1).toNat)
  case atStart => exact ⟨j, R, rfl, H0.out.2.2.1, List.Perm.refl _, H0.out.2.1, H0.out.1, KeptR.refl _⟩
  case round =>
    obtain ⟨k, Rk, rfl, hk, hp, hu, hon, hkp⟩ := hrel
    have HK : Hid (k < Rk.length ∧ Rk.Perm R ∧ UpOk zR ltR Rk k ∧ Rk.length ≤ 1000) := ⟨hk, hp, hu, by rw [hp.length_eq]; exact H0.out.2.2.2⟩
    have HO : Hid (Hp w0 bh hv Rk wr ∧ KeptR w wr) := ⟨hon, hkp⟩
    have kI : (k : Int) ≤ 1000 := by have := HK.out; omega
    clear hk hp hu hkp
    by_cases hk0 : k = 0
    · subst hk0
      clear hon
      rw [show ((0 : Nat) : Int) = 0 from rfl]
      go_wp2
      go_end0
      exact ⟨rfl, Rk, HK.out.2.1, up_end HK.out.2.2.1 (.inl rfl), HO.out⟩
    · have HK0 : Hid (0 < k) := by show _ < _; omega
      obtain ⟨i, hi⟩ : ∃ i, (k - 1) / 2 = i := ⟨_, rfl⟩
      have HI : Hid ((k - 1) / 2 = i) := hi
      have qd : ((k : Int) - 1).tdiv 2 = (i : Int) := by rw [show ((k : Int) - 1) = ((k - 1 : Nat) : Int) by omega, ← hi]; rfl
      have kw1 : IntKind.i64.wrap ((k : Int) - 1) = (k : Int) - 1 := by rw [IntKind.wrap_i64]; omega
      have kw2 : IntKind.i64.wrap (i : Int) = (i : Int) := by rw [IntKind.wrap_i64]; omega
      have kne : ((i : Int) == (k : Int)) = false := by simp; omega
      have kne' : (i == k) = false := by simp; omega
      have hme := meth_less q m c bh wr (by rw [hhv]; exact Lib.cell_of_heap hon.ptr 0)
      rw [hhv] at hme
      obtain ⟨r, hr⟩ : ∃ r, ltR (Rk.getD k zR) (Rk.getD i zR) = r := ⟨_, rfl⟩
      have HLE := hLess_any w0 bh hv Rk wr hon k i HK.out.1 (by have := HK.out; omega) r hr
      have HR : Hid (ltR (Rk.getD k zR) (Rk.getD i zR) = r) := hr
      clear hon hk0 hi hr
      go_wp2_with fail
      refine HLE.mono ?_
      rintro e w2 ⟨rfl, hb2⟩
      have H2 : Hid (Hp w0 bh hv Rk w2 ∧ KeptR w w2) := ⟨HO.out.1.next hb2, HO.out.2.trans (keptR_below hb2)⟩
      clear hb2 HLE hme
      cases r with
      | false =>
        go_wp2
        go_end0
        exact ⟨rfl, Rk, HK.out.2.1, up_end HK.out.2.2.1 (.inr (by rw [HI.out]; exact HR.out)), H2.out⟩
      | true =>
        have hme := meth_swap q m c bh w2 (by rw [hhv]; exact Lib.cell_of_heap H2.out.1.ptr 0)
        rw [hhv] at hme
        have HSW := hSwap_any w0 bh hv Rk w2 H2.out.1 i k (by have := HK.out; have := HI.out; omega) HK.out.1
        go_wp2_with fail
        refine HSW.mono ?_
        rintro e w3 ⟨rfl, h3, k3⟩
        have H3 : Hid (Hp w0 bh hv (swp zR Rk i k) w3 ∧ KeptR w w3) := ⟨h3, H2.out.2.trans k3⟩
        clear h3 k3 HSW hme
        go_wp2
        go_roundw
        case rel =>
          have hik : i < Rk.length := by have := HK.out.1; have := HI.out; omega
          refine ⟨i, swp zR Rk i k, rfl, by rw [swp_length]; exact hik, (swp_perm zR hik HK.out.1).trans HK.out.2.1, ?_, H3.out⟩
          have := up_step ltR_asym ltR_trans HK.out.1 HK0.out HK.out.2.2.1 (by rw [HI.out]; exact HR.out)
          rwa [HI.out] at this
        case measure => have := HI.out; have := HK0.out; simp [intOf]; omega
end Go.Proofs.Ytbnacopefclklab
