import Derived.Test.YtghcmllmbpoidaaGreatDoorJ34
import Derived.Test.YtghcmllmbpoidaaGreatDoorJ33
import Derived.Laws.AppendOwnNone
namespace Go.Proofs.YtghcmllmbpoidaaGreatDoor.Mg
open Go.RowKit Go.WideShapes Go.ChangeShapes Go.Deep Go.Joins
theorem rise_nod {al : List NodV} (hr : RiseE (eosN al)) {a b : Nat} (h0 : 0 < a) (hab : a < b) (hb : b < al.length) : lessE (al.getD a zN).ent (al.getD b zN).ent = true := by
  have ha := eosN_at (al := al) (p := a - 1) (by omega)
  have hb' := eosN_at (al := al) (p := b - 1) (by omega)
  rw [show a - 1 + 1 = a by omega] at ha
  rw [show b - 1 + 1 = b by omega] at hb'
  have la : a - 1 < (eosN al).length := by rw [eosN_len]; omega
  have lb : b - 1 < (eosN al).length := by rw [eosN_len]; omega
  have := List.pairwise_iff_getElem.1 hr (a - 1) (b - 1) la lb (by omega)
  rw [List.getD_eq_getElem?_getD, List.getElem?_eq_getElem la, Option.getD_some] at ha
  rw [List.getD_eq_getElem?_getD, List.getElem?_eq_getElem lb, Option.getD_some] at hb'
  rw [← ha, ← hb']
  exact this
theorem ahead_up {al : List NodV} (hr : RiseE (eosN al)) {x : EntV} {q : Nat} (hq : q < al.length) (hl : lessE (al.getD q zN).ent x = true) : ∀ r, 0 < r → r ≤ q → lessE (al.getD r zN).ent x = true := by
  intro r h0 hrq
  rcases Nat.lt_or_ge r q with h | h
  · exact lessE_trans (rise_nod hr h0 h hq) hl
  · obtain rfl : r = q := by omega
    exact hl
theorem ahead_end {al : List NodV} {x : EntV} {p j : Nat} (hp : p < al.length) (hj : j < (al.getD p zN).ht) (hl : ∀ q, 0 < q → q ≤ p → lessE (al.getD q zN).ent x = true) (hn : ∀ q, p < q → q < al.length → (al.getD q zN).ht ≤ j) : AheadN al x j p :=
  ⟨hp, hj, hl, fun q h1 h2 h3 => by have := hn q h1 h2; omega⟩
theorem ahead_stop {al : List NodV} (hr : RiseE (eosN al)) {x : EntV} {p q j : Nat} (hp : p < al.length) (hj : j < (al.getD p zN).ht) (hl : ∀ q, 0 < q → q ≤ p → lessE (al.getD q zN).ent x = true) (h1 : p < q) (h5 : ∀ r, p < r → r < q → (al.getD r zN).ht ≤ j) (hx : lessE (al.getD q zN).ent x = false) : AheadN al x j p := by
  refine ⟨hp, hj, hl, fun r r1 r2 r3 => ?_⟩
  rcases Nat.lt_trichotomy r q with h | h | h
  · have := h5 r r1 h; omega
  · rw [h]; exact hx
  · rw [Bool.eq_false_iff]
    intro hh
    rw [lessE_trans (rise_nod hr (by omega) h r2) hh] at hx
    cases hx
theorem frozen_row {w : World} {g : Nat} {cs : Array Value} {t : TypeId} (h : w.heap[g]? = some (.cells cs t (0, 0))) (i : Nat) : w.frozen? ⟨g, i, none⟩ = false := by simp [World.frozen?, h]
def nil12 : Array Value := #[.pointer none, .pointer none, .pointer none, .pointer none, .pointer none, .pointer none, .pointer none, .pointer none, .pointer none, .pointer none, .pointer none, .pointer none]
structure OnA (w : World) (al : List NodV) (x : EntV) (k : Nat) (wr : World) : Prop where
  bel : Below w.heap.size w wr
  xb : wr.heap[w.heap.size]? = some (.cells #[.string x.key, .string x.val, .int .i64 x.seq, .bool x.gone] 66 (0, 0))
  rb : wr.heap[w.heap.size + 1]? = some (.cells nil12 330 (0, 0))
  lb : ∃ cs, wr.heap[w.heap.size + 2]? = some (.cells cs 330 (0, 0)) ∧ cs.size = 12 ∧ ∀ h, k ≤ h → h < 12 → ∃ p, cs[h]? = some (ptN (al.getD p zN)) ∧ AheadN al x h p
theorem OnA.next {w wr w' : World} {al : List NodV} {x : EntV} {k : Nat} (h : OnA w al x k wr) (hb : Below wr.heap.size wr w') : OnA w al x k w' := by
  obtain ⟨cs, h1, h2⟩ := h.lb
  exact ⟨below_bt h.bel hb, block_below' h.xb hb, block_below' h.rb hb, cs, block_below' h1 hb, h2⟩
theorem OnA.set {w wr : World} {al : List NodV} {x : EntV} {j p : Nat} (h : OnA w al x (j + 1) wr) (hj : j < 12) (ha : AheadN al x j p) : OnA w al x j (wr.setCell ⟨w.heap.size + 2, j, none⟩ (ptN (al.getD p zN))) := by
  obtain ⟨cs, h1, h2, h3⟩ := h.lb
  refine ⟨h.bel.setCell (p := ⟨w.heap.size + 2, j, none⟩) (by show w.heap.size ≤ w.heap.size + 2; omega) _, (heap_setCell_other wr ⟨w.heap.size + 2, j, none⟩ _ _ (by show w.heap.size ≠ w.heap.size + 2; omega)).trans h.xb, (heap_setCell_other wr ⟨w.heap.size + 2, j, none⟩ _ _ (by show w.heap.size + 1 ≠ w.heap.size + 2; omega)).trans h.rb, _, heap_setCell_same wr _ j _ _ _ h1, by simpa using h2, fun k hk hk2 => ?_⟩
  rcases Nat.lt_or_ge j k with hc | hc
  · obtain ⟨q, h4, h5⟩ := h3 k (by omega) hk2
    exact ⟨q, by rw [Array.getElem?_setIfInBounds]; rw [if_neg (by omega)]; exact h4, h5⟩
  · obtain rfl : k = j := by omega
    exact ⟨p, by rw [Array.getElem?_setIfInBounds, if_pos rfl, if_pos (by omega)], ha⟩
theorem OnA.drewN {w wr : World} {al : List NodV} {x : EntV} {k : Nat} (h : OnA w al x k wr) (n : Nat) : OnA w al x k (wr.drewN n) := ⟨below_drewN h.bel n, h.xb, h.rb, h.lb⟩
theorem set12 {B g : Nat} {w w' : World} {v0 v1 v2 v3 v4 v5 v6 v7 v8 v9 v10 v11 : Value} (h : Below B w w') (hg : B ≤ g) : Below B w ((((((((((((w'.setCell ⟨g, 0, none⟩ v0).setCell ⟨g, 1, none⟩ v1).setCell ⟨g, 2, none⟩ v2).setCell ⟨g, 3, none⟩ v3).setCell ⟨g, 4, none⟩ v4).setCell ⟨g, 5, none⟩ v5).setCell ⟨g, 6, none⟩ v6).setCell ⟨g, 7, none⟩ v7).setCell ⟨g, 8, none⟩ v8).setCell ⟨g, 9, none⟩ v9).setCell ⟨g, 10, none⟩ v10).setCell ⟨g, 11, none⟩ v11) := ((((((((((((h.setCell (p := ⟨g, 0, none⟩) hg v0).setCell (p := ⟨g, 1, none⟩) hg v1).setCell (p := ⟨g, 2, none⟩) hg v2).setCell (p := ⟨g, 3, none⟩) hg v3).setCell (p := ⟨g, 4, none⟩) hg v4).setCell (p := ⟨g, 5, none⟩) hg v5).setCell (p := ⟨g, 6, none⟩) hg v6).setCell (p := ⟨g, 7, none⟩) hg v7).setCell (p := ⟨g, 8, none⟩) hg v8).setCell (p := ⟨g, 9, none⟩) hg v9).setCell (p := ⟨g, 10, none⟩) hg v10).setCell (p := ⟨g, 11, none⟩) hg v11)
set_option maxRecDepth 8000 in
set_option maxHeartbeats 2000000 in
theorem ahead_any (Z : Nat → Prop) (lk : Nat) (al : List NodV) (x : EntV) (w : World) (hs : Skip w Z lk al) (hr : RiseE (eosN al)) :
    Calls Tryz.prog 207 #[.pointer (some ⟨lk, 0, none⟩), entV x] w fun e w' => (∃ f : Nat → Nat, e = .returned (.agg ((List.range 12).map fun h => ptN (al.getD (f h) zN)).toArray) ∧ ∀ h, h < 12 → AheadN al x h (f h)) ∧ Below w.heap.size w w' := by
  have HS : Hid (Skip w Z lk al) := hs
  have HR : Hid (RiseE (eosN al)) := hr
  obtain ⟨h0, h1⟩ := (show w.cell? ⟨lk, 0, none⟩ = some (ptN (al.getD 0 zN)) ∧ w.cell? ⟨lk, 1, none⟩ = some (.int .i64 ((al.length - 1 : Nat) : Int)) from ⟨Lib.cell_of_heap hs.links 0, Lib.cell_of_heap hs.links 1⟩)
  obtain ⟨ke, ve, se, ge⟩ := x
  rw [entV_def]
  obtain ⟨n0, hn0⟩ : ∃ n0, al.getD 0 zN = n0 := ⟨_, rfl⟩
  rw [hn0, show ptN n0 = .pointer (some ⟨n0.nb, 0, none⟩) from rfl] at h0
  have HN0 : Hid (al.getD 0 zN = n0) := hn0
  clear hs h1 hn0 hr
  have hb3 : Below w.heap.size w (((w.alloc (.cells #[.string ke, .string ve, .int .i64 se, .bool ge] 66)).alloc (.cells #[.pointer none, .pointer none, .pointer none, .pointer none, .pointer none, .pointer none, .pointer none, .pointer none, .pointer none, .pointer none, .pointer none, .pointer none] 330)).alloc (.cells #[.pointer none, .pointer none, .pointer none, .pointer none, .pointer none, .pointer none, .pointer none, .pointer none, .pointer none, .pointer none, .pointer none, .pointer none] 330)) := below_bt (below_bt (below_alloc _ _) (below_alloc _ _)) (below_alloc _ _)
  have HST : Hid (OnA w al ⟨ke, ve, se, ge⟩ 12 (((w.alloc (.cells #[.string ke, .string ve, .int .i64 se, .bool ge] 66)).alloc (.cells #[.pointer none, .pointer none, .pointer none, .pointer none, .pointer none, .pointer none, .pointer none, .pointer none, .pointer none, .pointer none, .pointer none, .pointer none] 330)).alloc (.cells #[.pointer none, .pointer none, .pointer none, .pointer none, .pointer none, .pointer none, .pointer none, .pointer none, .pointer none, .pointer none, .pointer none, .pointer none] 330))) := by
    refine ⟨hb3, block_below' (block_below' (heap_alloc_new _ _) (below_alloc _ _)) (below_alloc _ _), block_below' (heap_two _ _ _) (below_alloc _ _), nil12, ?_, rfl, fun h h1 h2 => by omega⟩
    have h := heap_alloc_new ((w.alloc (.cells #[.string ke, .string ve, .int .i64 se, .bool ge] 66)).alloc (.cells nil12 330)) (.cells nil12 330)
    rw [show ((w.alloc (.cells #[.string ke, .string ve, .int .i64 se, .bool ge] 66)).alloc (.cells nil12 330)).heap.size = w.heap.size + 2 by simp] at h
    exact h
  have h0' := (hb3.cell (World.block_lt_of_cell? _ _ h0)).trans h0
  clear h0 hb3
  go_enter Tryz.func207, Tryz.ntmps207
  go_wp2
  go_loopw [6, 7] (fun n h wr => ∃ k p : Nat, k ≤ 12 ∧ h = .int .i64 ((k : Int) - 1) ∧ n = ptN (al.getD p zN) ∧ p < al.length ∧ k ≤ (al.getD p zN).ht ∧ (∀ q, 0 < q → q ≤ p → lessE (al.getD q zN).ent ⟨ke, ve, se, ge⟩ = true) ∧ OnA w al ⟨ke, ve, se, ge⟩ k wr) (fun _ h _ => (intOf h + 1).toNat)
  case atStart => exact ⟨12, 0, Nat.le_refl _, rfl, by rw [HN0.out]; rfl, HS.out.pos, by rw [HS.out.head]; exact Nat.le_refl _, fun q h1 h2 => by omega, HST.out⟩
  case round =>
    obtain ⟨k, p, hk, rfl, rfl, hp, hkt, hless, hon⟩ := hrel
    have HO : Hid (OnA w al ⟨ke, ve, se, ge⟩ k wr) := hon
    have HL : Hid (∀ q, 0 < q → q ≤ p → lessE (al.getD q zN).ent ⟨ke, ve, se, ge⟩ = true) := hless
    have HP : Hid (p < al.length ∧ k ≤ (al.getD p zN).ht ∧ k ≤ 12) := ⟨hp, hkt, hk⟩
    clear hon hless hp hkt hk
    obtain ⟨np, hnp⟩ : ∃ np, al.getD p zN = np := ⟨_, rfl⟩
    rw [hnp, show ptN np = .pointer (some ⟨np.nb, 0, none⟩) from rfl]
    have HNP : Hid (al.getD p zN = np) := hnp
    clear hnp
    rcases k with _ | j
    · obtain ⟨cs, hl, hcs, hfd⟩ := HO.out.lb
      obtain ⟨f, hf⟩ := choose_lt (fun h (hh : h < 12) => hfd h (by omega) hh)
      have HF : Hid (∀ h, h < 12 → AheadN al ⟨ke, ve, se, ge⟩ h (f h)) := fun h hh => (hf h hh).2
      have c0 : wr.cell? ⟨w.heap.size + 1 + 1, 0, none⟩ = some (.pointer (some ⟨(al.getD (f 0) zN).nb, 0, none⟩)) := (cell_of_row wr _ 0 cs _ _ hl).trans (hf 0 (by omega)).1
      have c1 : wr.cell? ⟨w.heap.size + 1 + 1, 1, none⟩ = some (.pointer (some ⟨(al.getD (f 1) zN).nb, 0, none⟩)) := (cell_of_row wr _ 1 cs _ _ hl).trans (hf 1 (by omega)).1
      have c2 : wr.cell? ⟨w.heap.size + 1 + 1, 2, none⟩ = some (.pointer (some ⟨(al.getD (f 2) zN).nb, 0, none⟩)) := (cell_of_row wr _ 2 cs _ _ hl).trans (hf 2 (by omega)).1
      have c3 : wr.cell? ⟨w.heap.size + 1 + 1, 3, none⟩ = some (.pointer (some ⟨(al.getD (f 3) zN).nb, 0, none⟩)) := (cell_of_row wr _ 3 cs _ _ hl).trans (hf 3 (by omega)).1
      have c4 : wr.cell? ⟨w.heap.size + 1 + 1, 4, none⟩ = some (.pointer (some ⟨(al.getD (f 4) zN).nb, 0, none⟩)) := (cell_of_row wr _ 4 cs _ _ hl).trans (hf 4 (by omega)).1
      have c5 : wr.cell? ⟨w.heap.size + 1 + 1, 5, none⟩ = some (.pointer (some ⟨(al.getD (f 5) zN).nb, 0, none⟩)) := (cell_of_row wr _ 5 cs _ _ hl).trans (hf 5 (by omega)).1
      have c6 : wr.cell? ⟨w.heap.size + 1 + 1, 6, none⟩ = some (.pointer (some ⟨(al.getD (f 6) zN).nb, 0, none⟩)) := (cell_of_row wr _ 6 cs _ _ hl).trans (hf 6 (by omega)).1
      have c7 : wr.cell? ⟨w.heap.size + 1 + 1, 7, none⟩ = some (.pointer (some ⟨(al.getD (f 7) zN).nb, 0, none⟩)) := (cell_of_row wr _ 7 cs _ _ hl).trans (hf 7 (by omega)).1
      have c8 : wr.cell? ⟨w.heap.size + 1 + 1, 8, none⟩ = some (.pointer (some ⟨(al.getD (f 8) zN).nb, 0, none⟩)) := (cell_of_row wr _ 8 cs _ _ hl).trans (hf 8 (by omega)).1
      have c9 : wr.cell? ⟨w.heap.size + 1 + 1, 9, none⟩ = some (.pointer (some ⟨(al.getD (f 9) zN).nb, 0, none⟩)) := (cell_of_row wr _ 9 cs _ _ hl).trans (hf 9 (by omega)).1
      have c10 : wr.cell? ⟨w.heap.size + 1 + 1, 10, none⟩ = some (.pointer (some ⟨(al.getD (f 10) zN).nb, 0, none⟩)) := (cell_of_row wr _ 10 cs _ _ hl).trans (hf 10 (by omega)).1
      have c11 : wr.cell? ⟨w.heap.size + 1 + 1, 11, none⟩ = some (.pointer (some ⟨(al.getD (f 11) zN).nb, 0, none⟩)) := (cell_of_row wr _ 11 cs _ _ hl).trans (hf 11 (by omega)).1
      have hrb := HO.out.rb
      have z0 : wr.cell? ⟨w.heap.size + 1, 0, none⟩ = some (.pointer none) := cell_of_row wr _ 0 _ _ _ hrb
      have g0 := frozen_row hrb 0
      have z1 : wr.cell? ⟨w.heap.size + 1, 1, none⟩ = some (.pointer none) := cell_of_row wr _ 1 _ _ _ hrb
      have g1 := frozen_row hrb 1
      have z2 : wr.cell? ⟨w.heap.size + 1, 2, none⟩ = some (.pointer none) := cell_of_row wr _ 2 _ _ _ hrb
      have g2 := frozen_row hrb 2
      have z3 : wr.cell? ⟨w.heap.size + 1, 3, none⟩ = some (.pointer none) := cell_of_row wr _ 3 _ _ _ hrb
      have g3 := frozen_row hrb 3
      have z4 : wr.cell? ⟨w.heap.size + 1, 4, none⟩ = some (.pointer none) := cell_of_row wr _ 4 _ _ _ hrb
      have g4 := frozen_row hrb 4
      have z5 : wr.cell? ⟨w.heap.size + 1, 5, none⟩ = some (.pointer none) := cell_of_row wr _ 5 _ _ _ hrb
      have g5 := frozen_row hrb 5
      have z6 : wr.cell? ⟨w.heap.size + 1, 6, none⟩ = some (.pointer none) := cell_of_row wr _ 6 _ _ _ hrb
      have g6 := frozen_row hrb 6
      have z7 : wr.cell? ⟨w.heap.size + 1, 7, none⟩ = some (.pointer none) := cell_of_row wr _ 7 _ _ _ hrb
      have g7 := frozen_row hrb 7
      have z8 : wr.cell? ⟨w.heap.size + 1, 8, none⟩ = some (.pointer none) := cell_of_row wr _ 8 _ _ _ hrb
      have g8 := frozen_row hrb 8
      have z9 : wr.cell? ⟨w.heap.size + 1, 9, none⟩ = some (.pointer none) := cell_of_row wr _ 9 _ _ _ hrb
      have g9 := frozen_row hrb 9
      have z10 : wr.cell? ⟨w.heap.size + 1, 10, none⟩ = some (.pointer none) := cell_of_row wr _ 10 _ _ _ hrb
      have g10 := frozen_row hrb 10
      have z11 : wr.cell? ⟨w.heap.size + 1, 11, none⟩ = some (.pointer none) := cell_of_row wr _ 11 _ _ _ hrb
      have g11 := frozen_row hrb 11
      clear hf hfd hl hcs hrb
      obtain ⟨a0, ha0⟩ : ∃ a, (al.getD (f 0) zN).nb = a := ⟨_, rfl⟩
      rw [ha0] at c0
      have HA0 : Hid ((al.getD (f 0) zN).nb = a0) := ha0
      clear ha0
      obtain ⟨a1, ha1⟩ : ∃ a, (al.getD (f 1) zN).nb = a := ⟨_, rfl⟩
      rw [ha1] at c1
      have HA1 : Hid ((al.getD (f 1) zN).nb = a1) := ha1
      clear ha1
      obtain ⟨a2, ha2⟩ : ∃ a, (al.getD (f 2) zN).nb = a := ⟨_, rfl⟩
      rw [ha2] at c2
      have HA2 : Hid ((al.getD (f 2) zN).nb = a2) := ha2
      clear ha2
      obtain ⟨a3, ha3⟩ : ∃ a, (al.getD (f 3) zN).nb = a := ⟨_, rfl⟩
      rw [ha3] at c3
      have HA3 : Hid ((al.getD (f 3) zN).nb = a3) := ha3
      clear ha3
      obtain ⟨a4, ha4⟩ : ∃ a, (al.getD (f 4) zN).nb = a := ⟨_, rfl⟩
      rw [ha4] at c4
      have HA4 : Hid ((al.getD (f 4) zN).nb = a4) := ha4
      clear ha4
      obtain ⟨a5, ha5⟩ : ∃ a, (al.getD (f 5) zN).nb = a := ⟨_, rfl⟩
      rw [ha5] at c5
      have HA5 : Hid ((al.getD (f 5) zN).nb = a5) := ha5
      clear ha5
      obtain ⟨a6, ha6⟩ : ∃ a, (al.getD (f 6) zN).nb = a := ⟨_, rfl⟩
      rw [ha6] at c6
      have HA6 : Hid ((al.getD (f 6) zN).nb = a6) := ha6
      clear ha6
      obtain ⟨a7, ha7⟩ : ∃ a, (al.getD (f 7) zN).nb = a := ⟨_, rfl⟩
      rw [ha7] at c7
      have HA7 : Hid ((al.getD (f 7) zN).nb = a7) := ha7
      clear ha7
      obtain ⟨a8, ha8⟩ : ∃ a, (al.getD (f 8) zN).nb = a := ⟨_, rfl⟩
      rw [ha8] at c8
      have HA8 : Hid ((al.getD (f 8) zN).nb = a8) := ha8
      clear ha8
      obtain ⟨a9, ha9⟩ : ∃ a, (al.getD (f 9) zN).nb = a := ⟨_, rfl⟩
      rw [ha9] at c9
      have HA9 : Hid ((al.getD (f 9) zN).nb = a9) := ha9
      clear ha9
      obtain ⟨a10, ha10⟩ : ∃ a, (al.getD (f 10) zN).nb = a := ⟨_, rfl⟩
      rw [ha10] at c10
      have HA10 : Hid ((al.getD (f 10) zN).nb = a10) := ha10
      clear ha10
      obtain ⟨a11, ha11⟩ : ∃ a, (al.getD (f 11) zN).nb = a := ⟨_, rfl⟩
      rw [ha11] at c11
      have HA11 : Hid ((al.getD (f 11) zN).nb = a11) := ha11
      clear ha11
      go_wp2
      (try simp only [Exit.inBlock, Exit.then])
      refine bodyPost_ret (v := .agg #[.pointer (some ⟨a0, 0, none⟩), .pointer (some ⟨a1, 0, none⟩), .pointer (some ⟨a2, 0, none⟩), .pointer (some ⟨a3, 0, none⟩), .pointer (some ⟨a4, 0, none⟩), .pointer (some ⟨a5, 0, none⟩), .pointer (some ⟨a6, 0, none⟩), .pointer (some ⟨a7, 0, none⟩), .pointer (some ⟨a8, 0, none⟩), .pointer (some ⟨a9, 0, none⟩), .pointer (some ⟨a10, 0, none⟩), .pointer (some ⟨a11, 0, none⟩)]) ?_ rfl ⟨⟨f, ?_, HF.out⟩, ?_⟩
      · rw [results_cell1 rfl]
        go_simp
      · rw [← HA0.out, ← HA1.out, ← HA2.out, ← HA3.out, ← HA4.out, ← HA5.out, ← HA6.out, ← HA7.out, ← HA8.out, ← HA9.out, ← HA10.out, ← HA11.out]; rfl
      · exact set12 HO.out.bel (by omega)
    · rw [show ((j + 1 : Nat) : Int) - 1 = (j : Int) by omega]
      have hj : (j : Int) ≤ 11 := by have := HP.out.2.2; omega
      go_wp2
      go_loopw [6] (fun n wr => ∃ p : Nat, n = ptN (al.getD p zN) ∧ p < al.length ∧ j < (al.getD p zN).ht ∧ (∀ q, 0 < q → q ≤ p → lessE (al.getD q zN).ent ⟨ke, ve, se, ge⟩ = true) ∧ OnA w al ⟨ke, ve, se, ge⟩ (j + 1) wr) (fun n _ => al.length - posN al n)
      case atStart => exact ⟨p, by rw [HNP.out]; rfl, HP.out.1, by have := HP.out.2.1; omega, HL.out, HO.out⟩
      case round =>
        obtain ⟨p, rfl, hp, hjt, hless, hon⟩ := hrel
        have HO2 : Hid (OnA w al ⟨ke, ve, se, ge⟩ (j + 1) wr) := hon
        have HL2 : Hid (∀ q, 0 < q → q ≤ p → lessE (al.getD q zN).ent ⟨ke, ve, se, ge⟩ = true) := hless
        have HP2 : Hid (p < al.length ∧ j < (al.getD p zN).ht) := ⟨hp, hjt⟩
        have hsk := HS.out.below hon.bel
        have htI : (j : Int) < (((al.getD p zN).ht : Nat) : Int) := by omega
        obtain ⟨np, hnp⟩ : ∃ np, al.getD p zN = np := ⟨_, rfl⟩
        obtain ⟨_, _, _, _, d4⟩ := hsk.cells hp hnp
        have cn := hsk.next hp hnp (k := j) (by rw [← hnp]; exact hjt)
        obtain ⟨x0, x1, x2, x3⟩ := four_cells hon.xb
        obtain ⟨vl, hvl⟩ : ∃ v, wr.cell? ⟨w.heap.size + 1 + 1, j, none⟩ = some v := by
          obtain ⟨cs, hl, hcs, _⟩ := hon.lb
          exact ⟨cs[j]'(by omega), (cell_of_row wr _ j cs _ _ hl).trans (Array.getElem?_eq_getElem _)⟩
        have hfl : wr.frozen? ⟨w.heap.size + 1 + 1, j, none⟩ = false := by
          obtain ⟨cs, hl, _⟩ := hon.lb
          exact frozen_row hl j
        rw [hnp] at htI
        rw [hnp, show ptN np = .pointer (some ⟨np.nb, 0, none⟩) from rfl]
        have HNP2 : Hid (al.getD p zN = np) := hnp
        rcases nx_cases j al p with ⟨e1, e2⟩ | ⟨q, q1, q2, q3, q4, q5⟩
        · have HA : Hid (AheadN al ⟨ke, ve, se, ge⟩ j p) := ahead_end hp hjt hless e2
          rw [e1] at cn
          have cn' : wr.cell? ⟨np.bb, j, none⟩ = some (.pointer none) := cn
          clear cn e1 e2 hsk hless hon hp hjt hnp x0 x1 x2 x3
          obtain ⟨ne, nb, bb, ht⟩ := np
          simp only at cn' d4 htI
          go_wp2
          go_quiet (fail)
          go_wp2
          go_roundw
          case rel => exact ⟨j, p, by omega, rfl, by rw [HNP2.out]; rfl, HP2.out.1, by have := HP2.out.2; omega, HL2.out, by have hz := (HO2.out.drewN nq).set (by omega) HA.out; rw [HNP2.out] at hz; exact hz⟩
          case measure => simp [intOf]
        · obtain ⟨m, hm⟩ : ∃ m, al.getD q zN = m := ⟨_, rfl⟩
          obtain ⟨y0, y1, y2, y3, _⟩ := hsk.cells q2 hm
          have HUP : Hid (lessE (al.getD q zN).ent ⟨ke, ve, se, ge⟩ = true → ∀ r, 0 < r → r ≤ q → lessE (al.getD r zN).ent ⟨ke, ve, se, ge⟩ = true) := fun h => ahead_up HR.out q2 h
          have HSTP : Hid (lessE (al.getD q zN).ent ⟨ke, ve, se, ge⟩ = false → AheadN al ⟨ke, ve, se, ge⟩ j p) := fun h => ahead_stop HR.out hp hjt hless q1 q5 h
          have HQ : Hid (p < q ∧ q < al.length ∧ j < (al.getD q zN).ht) := ⟨q1, q2, q3⟩
          have HM : Hid (al.getD q zN = m) := hm
          rw [q4, hm] at cn
          have cn' : wr.cell? ⟨np.bb, j, none⟩ = some (.pointer (some ⟨m.nb, 0, none⟩)) := cn
          obtain ⟨r, hr⟩ : ∃ r, lessE (al.getD q zN).ent ⟨ke, ve, se, ge⟩ = r := ⟨_, rfl⟩
          have HRR : Hid (lessE (al.getD q zN).ent ⟨ke, ve, se, ge⟩ = r) := hr
          have HLE := fun w' => less_any m.ent ⟨ke, ve, se, ge⟩ w'
          rw [← hm, hr, hm] at HLE
          have HPM : Hid (Skip wr Z lk al) := hsk
          clear cn hsk hless hon hp hjt hnp q1 q2 q3 q4 q5 hm hr
          obtain ⟨ne, nb, bb, ht⟩ := np
          obtain ⟨⟨kx, vx, sx, gx⟩, mb, mbb, mht⟩ := m
          simp only at cn' d4 htI y0 y1 y2 y3
          simp only [entV_def] at HLE
          have HAL : Hid ((wr.cell? ⟨nb, 4, none⟩ = some (.slice (some ⟨bb, 0, none⟩) ht ht) ∧ wr.cell? ⟨bb, j, none⟩ = some (.pointer (some ⟨mb, 0, none⟩))) ∧ (wr.cell? ⟨mb, 0, none⟩ = some (.string kx) ∧ wr.cell? ⟨mb, 1, none⟩ = some (.string vx) ∧ wr.cell? ⟨mb, 2, none⟩ = some (.int .i64 sx) ∧ wr.cell? ⟨mb, 3, none⟩ = some (.bool gx)) ∧ (wr.cell? ⟨w.heap.size, 0, none⟩ = some (.string ke) ∧ wr.cell? ⟨w.heap.size, 1, none⟩ = some (.string ve) ∧ wr.cell? ⟨w.heap.size, 2, none⟩ = some (.int .i64 se) ∧ wr.cell? ⟨w.heap.size, 3, none⟩ = some (.bool ge)) ∧ Below wr.heap.size wr wr) := ⟨⟨d4, cn'⟩, ⟨y0, y1, y2, y3⟩, ⟨x0, x1, x2, x3⟩, Below.refl _ _⟩
          have HKS : ∀ w', Below wr.heap.size wr w' → (w'.cell? ⟨nb, 4, none⟩ = some (.slice (some ⟨bb, 0, none⟩) ht ht) ∧ w'.cell? ⟨bb, j, none⟩ = some (.pointer (some ⟨mb, 0, none⟩))) ∧ (w'.cell? ⟨mb, 0, none⟩ = some (.string kx) ∧ w'.cell? ⟨mb, 1, none⟩ = some (.string vx) ∧ w'.cell? ⟨mb, 2, none⟩ = some (.int .i64 sx) ∧ w'.cell? ⟨mb, 3, none⟩ = some (.bool gx)) ∧ (w'.cell? ⟨w.heap.size, 0, none⟩ = some (.string ke) ∧ w'.cell? ⟨w.heap.size, 1, none⟩ = some (.string ve) ∧ w'.cell? ⟨w.heap.size, 2, none⟩ = some (.int .i64 se) ∧ w'.cell? ⟨w.heap.size, 3, none⟩ = some (.bool ge)) ∧ Below wr.heap.size wr w' := fun w' hb => ⟨⟨(hb.cell (World.block_lt_of_cell? _ _ d4)).trans d4, (hb.cell (World.block_lt_of_cell? _ _ cn')).trans cn'⟩, ⟨(hb.cell (World.block_lt_of_cell? _ _ y0)).trans y0, (hb.cell (World.block_lt_of_cell? _ _ y1)).trans y1, (hb.cell (World.block_lt_of_cell? _ _ y2)).trans y2, (hb.cell (World.block_lt_of_cell? _ _ y3)).trans y3⟩, ⟨(hb.cell (World.block_lt_of_cell? _ _ x0)).trans x0, (hb.cell (World.block_lt_of_cell? _ _ x1)).trans x1, (hb.cell (World.block_lt_of_cell? _ _ x2)).trans x2, (hb.cell (World.block_lt_of_cell? _ _ x3)).trans x3⟩, hb⟩
          have HKSH : Hid (∀ w', Below wr.heap.size wr w' → (w'.cell? ⟨nb, 4, none⟩ = some (.slice (some ⟨bb, 0, none⟩) ht ht) ∧ w'.cell? ⟨bb, j, none⟩ = some (.pointer (some ⟨mb, 0, none⟩))) ∧ (w'.cell? ⟨mb, 0, none⟩ = some (.string kx) ∧ w'.cell? ⟨mb, 1, none⟩ = some (.string vx) ∧ w'.cell? ⟨mb, 2, none⟩ = some (.int .i64 sx) ∧ w'.cell? ⟨mb, 3, none⟩ = some (.bool gx)) ∧ (w'.cell? ⟨w.heap.size, 0, none⟩ = some (.string ke) ∧ w'.cell? ⟨w.heap.size, 1, none⟩ = some (.string ve) ∧ w'.cell? ⟨w.heap.size, 2, none⟩ = some (.int .i64 se) ∧ w'.cell? ⟨w.heap.size, 3, none⟩ = some (.bool ge)) ∧ Below wr.heap.size wr w') := HKS
          clear HKS
          have kw0 : IntKind.i64.wrap (j : Int) = (j : Int) := by rw [IntKind.wrap_i64]; omega
          have kb0 : (0 : Int) ≤ (j : Int) := by omega
          clear d4 cn' y0 y1 y2 y3 x0 x1 x2 x3
          go_wp2
          go_region_held3 (fun w' => (w'.cell? ⟨nb, 4, none⟩ = some (.slice (some ⟨bb, 0, none⟩) ht ht) ∧ w'.cell? ⟨bb, j, none⟩ = some (.pointer (some ⟨mb, 0, none⟩))) ∧ (w'.cell? ⟨mb, 0, none⟩ = some (.string kx) ∧ w'.cell? ⟨mb, 1, none⟩ = some (.string vx) ∧ w'.cell? ⟨mb, 2, none⟩ = some (.int .i64 sx) ∧ w'.cell? ⟨mb, 3, none⟩ = some (.bool gx)) ∧ (w'.cell? ⟨w.heap.size, 0, none⟩ = some (.string ke) ∧ w'.cell? ⟨w.heap.size, 1, none⟩ = some (.string ve) ∧ w'.cell? ⟨w.heap.size, 2, none⟩ = some (.int .i64 se) ∧ w'.cell? ⟨w.heap.size, 3, none⟩ = some (.bool ge)) ∧ Below wr.heap.size wr w')
            (with_reducible first | exact HAL.out | exact HKSH.out _ (Below.refl _ _).drew | exact HKSH.out _ (below_dw (by assumption)) | assumption)
            (first
              | (go_at_call 50; refine (HLE _).mono ?_; rintro e w3 ⟨rfl, hb3⟩)
              | fail)
          rename_i hh
          obtain ⟨⟨d4, cn'⟩, _, _, hb⟩ := hh
          have HO3 : Hid (OnA w al ⟨ke, ve, se, ge⟩ (j + 1) w3) := HO2.out.next hb
          clear hb hb3 hvl hfl HKSH HAL
          cases r with
          | true =>
            go_wp2
            go_roundw
            case rel => exact ⟨q, by rw [HM.out]; rfl, HQ.out.2.1, HQ.out.2.2, HUP.out HRR.out, HO3.out⟩
            case measure =>
              have e1 := HS.out.posN HQ.out.2.1
              have e2 := HS.out.posN HP2.out.1
              rw [HM.out] at e1
              rw [HNP2.out] at e2
              have e1' : posN al (.pointer (some ⟨mb, 0, none⟩)) = q := e1
              have e2' : posN al (.pointer (some ⟨nb, 0, none⟩)) = p := e2
              rw [e1', e2']
              have := HQ.out
              omega
          | false =>
            obtain ⟨vl, hvl⟩ : ∃ v, w3.cell? ⟨w.heap.size + 1 + 1, j, none⟩ = some v := by
              obtain ⟨cs, hl, hcs, _⟩ := HO3.out.lb
              exact ⟨cs[j]'(by omega), (cell_of_row w3 _ j cs _ _ hl).trans (Array.getElem?_eq_getElem _)⟩
            have hfl : w3.frozen? ⟨w.heap.size + 1 + 1, j, none⟩ = false := by
              obtain ⟨cs, hl, _⟩ := HO3.out.lb
              exact frozen_row hl j
            have HA : Hid (AheadN al ⟨ke, ve, se, ge⟩ j p) := HSTP.out HRR.out
            go_wp2
            go_roundw
            case rel => exact ⟨j, p, by omega, rfl, by rw [HNP2.out]; rfl, HP2.out.1, by have := HP2.out.2; omega, HL2.out, by have hz := HO3.out.set (by omega) HA.out; rw [HNP2.out] at hz; exact hz⟩
            case measure => simp [intOf]
end Go.Proofs.YtghcmllmbpoidaaGreatDoor.Mg
namespace Go.Proofs.YtghcmllmbpoidaaGreatDoor.Mg
open Go.RowKit Go.WideShapes
theorem ahead_agg (Z : Nat → Prop) (lk : Nat) (al : List NodV) (x : EntV) (w : World) (hs : Skip w Z lk al) (hr : RiseE (eosN al)) :
    Calls Tryz.prog 207 #[.pointer (some ⟨lk, 0, none⟩), entV x] w fun e w' => (∃ f : Nat → Nat, e = .returned (.agg #[.pointer (some ⟨(al.getD (f 0) zN).nb, 0, none⟩), .pointer (some ⟨(al.getD (f 1) zN).nb, 0, none⟩), .pointer (some ⟨(al.getD (f 2) zN).nb, 0, none⟩), .pointer (some ⟨(al.getD (f 3) zN).nb, 0, none⟩), .pointer (some ⟨(al.getD (f 4) zN).nb, 0, none⟩), .pointer (some ⟨(al.getD (f 5) zN).nb, 0, none⟩), .pointer (some ⟨(al.getD (f 6) zN).nb, 0, none⟩), .pointer (some ⟨(al.getD (f 7) zN).nb, 0, none⟩), .pointer (some ⟨(al.getD (f 8) zN).nb, 0, none⟩), .pointer (some ⟨(al.getD (f 9) zN).nb, 0, none⟩), .pointer (some ⟨(al.getD (f 10) zN).nb, 0, none⟩), .pointer (some ⟨(al.getD (f 11) zN).nb, 0, none⟩)]) ∧ ∀ h, h < 12 → AheadN al x h (f h)) ∧ Below w.heap.size w w' :=
  (ahead_any Z lk al x w hs hr).mono fun _ _ ⟨⟨f, h1, h2⟩, h3⟩ => ⟨⟨f, h1, h2⟩, h3⟩
def cellsE (l : List EntV) : List Value := l.flatMap fun p => [.string p.key, .string p.val, .int .i64 p.seq, .bool p.gone]
theorem cellsE_len (l : List EntV) : (cellsE l).length = l.length * 4 := by
  induction l with
  | nil => rfl
  | cons p l ih => simp only [cellsE, List.flatMap_cons, List.length_append, List.length_cons, List.length_nil] at *; omega
theorem cellsE_app (l m : List EntV) : cellsE (l ++ m) = cellsE l ++ cellsE m := by simp [cellsE]
theorem cellsE_at : ∀ (l : List EntV) (i : Nat), i < l.length → (cellsE l)[i * 4]? = some (.string (l.getD i zeroE).key) ∧ (cellsE l)[i * 4 + 1]? = some (.string (l.getD i zeroE).val) ∧ (cellsE l)[i * 4 + 2]? = some (.int .i64 (l.getD i zeroE).seq) ∧ (cellsE l)[i * 4 + 3]? = some (.bool (l.getD i zeroE).gone)
  | p :: l, 0, _ => ⟨rfl, rfl, rfl, rfl⟩
  | p :: l, i + 1, hi => by
    have := cellsE_at l i (by simpa using hi)
    rw [show (i + 1) * 4 = i * 4 + 1 + 1 + 1 + 1 from by omega]
    simpa [cellsE, List.getD] using this
  | [], _, h => by simp at h
def EOwn (w : World) (base : Nat) (v : Value) (l : List EntV) : Prop := w.ownsRow base 66 4 v l.length (cellsE l)
theorem eown_nil (w : World) (base : Nat) : EOwn w base (.slice none 0 0) [] := World.ownsRow_nil _ _ _ _
theorem EOwn.form {w : World} {base : Nat} {v : Value} {l : List EntV} (h : EOwn w base v l) : ∃ q m, v = .slice q l.length m ∧ l.length ≤ m ∧ m ≤ maxLen ∧ (q = none → m = 0) := own_form h
theorem EOwn.ents {w : World} {base : Nat} {q : Option Addr} {n m : Nat} {l : List EntV} (h : EOwn w base (.slice q n m) l) : EntsIn w q l := by
  intro hp
  rcases h.2 with ⟨_, hn⟩ | ⟨g, cap, cur, hv, hb, hg, hle, hmax, hsz, htk⟩
  · omega
  · simp only [Value.slice.injEq] at hv
    obtain ⟨rfl, rfl, rfl⟩ := hv
    refine ⟨g, 0, rfl, fun i hi => ?_⟩
    obtain ⟨c0, c1, c2, c3⟩ := cellsE_at l i hi
    exact ⟨by rw [Nat.zero_add, World.ownsRow.cellAt h _ (by omega), c0], by rw [Nat.zero_add, World.ownsRow.cellAt h _ (by omega), c1], by rw [Nat.zero_add, World.ownsRow.cellAt h _ (by omega), c2], by rw [Nat.zero_add, World.ownsRow.cellAt h _ (by omega), c3]⟩
theorem EOwn.below {w w' : World} {base : Nat} {v : Value} {l : List EntV} (h : EOwn w base v l) (hb : Below w.heap.size w w') : EOwn w' base v l := own_below h hb
theorem own_neS {w : World} {base n s : Nat} {e : TypeId} {v : Value} {xs : List Value} (h : w.ownsRow base e s v n xs) {B : Nat} {C : Array Value} {t : TypeId} {fr : Nat × Nat} (hB : w.heap[B]? = some (.cells C t fr)) (ht : t ≠ e) : v.ownBlock ≠ some B := by
  intro e
  rcases h.2 with ⟨hv, _⟩ | ⟨g, cap, cur, hv, _, hgg, _⟩
  · rw [hv] at e; cases e
  · rw [hv] at e
    simp only [Value.ownBlock, Option.some.injEq] at e
    subst e
    rw [hB] at hgg
    simp only [Option.some.injEq, Obj.cells.injEq] at hgg
    exact ht hgg.2.1
theorem info_entry : (Tryz.prog.info? 66).map (fun i => (i.zero, i.size, i.bytes)) = some (some (.agg #[.string ByteArray.empty, .string ByteArray.empty, .int .i64 0, .bool false]), 4, 48) := by kernel_rfl
theorem info_parts' {P : Program} {t : TypeId} {z : Option Value} {s b : Nat} (h : (P.info? t).map (fun i => (i.zero, i.size, i.bytes)) = some (z, s, b)) : ∃ i, P.info? t = some i ∧ i.zero = z ∧ i.size = s ∧ i.bytes = b := by
  cases hi : P.info? t with
  | none => rw [hi] at h; cases h
  | some i => rw [hi] at h; simp at h; exact ⟨i, rfl, h.1, h.2.1, h.2.2⟩
theorem ent_cells (w : World) (a b c d : Value) (t : TypeId) : ∀ j u, [a, b, c, d][j]? = some u → (w.alloc (.cells #[a, b, c, d] t)).cell? ((⟨w.heap.size, 0, none⟩ : Addr).add j) = some u := by
  intro j u hj
  have hh := heap_alloc_new w (.cells #[a, b, c, d] t)
  have e : (⟨w.heap.size, 0, none⟩ : Addr).add j = ⟨w.heap.size, j, none⟩ := by simp [Addr.add]; intro h; omega
  rw [e, Lib.cell_of_heap hh]
  simpa using hj
theorem ent_one (k v : ByteArray) (i : Int) (g : Bool) : ∀ u ∈ [Value.string k, .string v, .int .i64 i, .bool g], u.oneCell' = true := by
  intro u hu
  simp only [List.mem_cons, List.not_mem_nil, or_false] at hu
  rcases hu with rfl | rfl | rfl | rfl <;> rfl
theorem ents_cells {w : World} {b o : Nat} {l : List EntV} (h : EntsIn w (some ⟨b, o, none⟩) l) : ∀ j u, (cellsE l)[j]? = some u → w.cell? ((⟨b, o, none⟩ : Addr).add j) = some u := by
  intro j u hj
  have hlt : j < l.length * 4 := by rw [← cellsE_len]; exact (List.getElem?_eq_some_iff.1 hj).1
  have hi : j / 4 < l.length := by omega
  obtain ⟨c0, c1, c2, c3⟩ := cellsE_at l (j / 4) hi
  obtain ⟨d0, d1, d2, d3⟩ := h.at hi
  rw [add_plain]
  have hr : j % 4 = 0 ∨ j % 4 = 1 ∨ j % 4 = 2 ∨ j % 4 = 3 := by omega
  rcases hr with hr | hr | hr | hr
  · have e : j = j / 4 * 4 := by omega
    rw [← e] at c0 d0
    rw [c0] at hj; rw [d0, ← Option.some.inj hj]
  · have e : j = j / 4 * 4 + 1 := by omega
    rw [Nat.add_assoc] at d1
    rw [← e] at c1 d1
    rw [c1] at hj; rw [d1, ← Option.some.inj hj]
  · have e : j = j / 4 * 4 + 2 := by omega
    rw [Nat.add_assoc] at d2
    rw [← e] at c2 d2
    rw [c2] at hj; rw [d2, ← Option.some.inj hj]
  · have e : j = j / 4 * 4 + 3 := by omega
    rw [Nat.add_assoc] at d3
    rw [← e] at c3 d3
    rw [c3] at hj; rw [d3, ← Option.some.inj hj]
theorem cellsE_one (l : List EntV) : ∀ u ∈ cellsE l, u.oneCell' = true := by
  intro u hu
  simp only [cellsE, List.mem_flatMap, List.mem_cons, List.not_mem_nil, or_false] at hu
  obtain ⟨p, _, h⟩ := hu
  rcases h with rfl | rfl | rfl | rfl <;> rfl
theorem run_append_ents (w : World) (base : Nat) (ty : TypeId) (l : List EntV) (p : Option Addr) (c : Nat) (hin : EntsIn w p l) (hp : p = none → c = 0) (hlen : l.length ≤ 100000) (hbase : base ≤ w.heap.size) :
    ∃ v' w', (Builtin.append_ #[58, 58] ty #[.slice none 0 0, .slice p l.length c]).run Tryz.prog w = .ok v' w' ∧ EOwn w' base v' l ∧ w.grownBy w' none := by
  obtain ⟨i0, hi, hz0, hz1, hz2⟩ := info_parts' info_entry
  have hown := eown_nil w base
  have hmax : 0 + l.length ≤ maxLen := by unfold maxLen; omega
  cases p with
  | none =>
    obtain rfl : l = [] := by
      cases l with
      | nil => rfl
      | cons y l => obtain ⟨b, o, e, _⟩ := hin (by simp); cases e
    obtain rfl := hp rfl
    exact ⟨_, w, run_append_owned_none (P := Tryz.prog) w base 58 ty 66 i0 4 Tryz.underlying58 hi (.slice none 0 0) 0 [] hown, hown, ⟨rfl, rfl, rfl, Nat.le_refl _, fun _ _ _ => rfl⟩⟩
  | some ad =>
    have hc : ∀ j u, (cellsE l)[j]? = some u → w.cell? (ad.add j) = some u := by
      intro j u hu
      have hpos : 0 < l.length := by
        cases l with
        | nil => simp [cellsE] at hu
        | cons y l => simp
      obtain ⟨b, o, e, _⟩ := hin hpos
      simp at e
      subst e
      exact ents_cells hin j u hu
    obtain ⟨v', w', h1, h2, h3, _⟩ := run_append_own (P := Tryz.prog) w base 58 ty 66 i0 (.agg #[.string ByteArray.empty, .string ByteArray.empty, .int .i64 0, .bool false]) 4 48 Tryz.underlying58 hi hz0 hz1 hz2 rfl (by decide) (.slice none 0 0) 0 [] hown ad l.length c (cellsE l) (cellsE_len l) hc (cellsE_one l) hmax (by omega) hbase
    exact ⟨v', w', h1, by simpa [EOwn] using h2, h3⟩
theorem run_append_two (w : World) (base : Nat) (ty : TypeId) (v : Value) (l l' : List EntV) (p : Option Addr) (c : Nat) (hown : EOwn w base v l) (hin : EntsIn w p l') (hp : p = none → c = 0) (hlen : l.length + l'.length ≤ 1000000) (hbase : base ≤ w.heap.size) :
    ∃ v' w', (Builtin.append_ #[58, 58] ty #[v, .slice p l'.length c]).run Tryz.prog w = .ok v' w' ∧ EOwn w' base v' (l ++ l') ∧ w.grownBy w' v.ownBlock := by
  obtain ⟨i0, hi, hz0, hz1, hz2⟩ := info_parts' info_entry
  have hmax : l.length + l'.length ≤ maxLen := by unfold maxLen; omega
  cases p with
  | none =>
    obtain rfl : l' = [] := by
      cases l' with
      | nil => rfl
      | cons y l => obtain ⟨b, o, e, _⟩ := hin (by simp); cases e
    obtain rfl := hp rfl
    exact ⟨_, w, run_append_owned_none (P := Tryz.prog) w base 58 ty 66 i0 4 Tryz.underlying58 hi v l.length (cellsE l) hown, by simpa using hown, ⟨rfl, rfl, rfl, Nat.le_refl _, fun _ _ _ => rfl⟩⟩
  | some ad =>
    have hc : ∀ j u, (cellsE l')[j]? = some u → w.cell? (ad.add j) = some u := by
      intro j u hu
      have hpos : 0 < l'.length := by
        cases l' with
        | nil => simp [cellsE] at hu
        | cons y l => simp
      obtain ⟨b, o, e, _⟩ := hin hpos
      simp at e
      subst e
      exact ents_cells hin j u hu
    obtain ⟨v', w', h1, h2, h3, _⟩ := run_append_own (P := Tryz.prog) w base 58 ty 66 i0 (.agg #[.string ByteArray.empty, .string ByteArray.empty, .int .i64 0, .bool false]) 4 48 Tryz.underlying58 hi hz0 hz1 hz2 rfl (by decide) v l.length (cellsE l) hown ad l'.length c (cellsE l') (cellsE_len l') hc (cellsE_one l') hmax (by omega) hbase
    refine ⟨v', w', h1, ?_, h3⟩
    unfold EOwn
    rw [cellsE_app, List.length_append]
    exact h2
theorem wpList_append_two (w : World) {ops : Array Oper} {rest : List Oper} {o : Oper} {a : Act} {Q : Exit → Act → World → Prop} (hw : Region.wanted o (yielded ops a.tmps) = true) (s x : Operand)
    (ho : o.op = .call { callee := .builtin .append, args := #[s, x], argTypes := #[58, 58] }) (base : Nat) (v : Value) (l l' : List EntV) (p : Option Addr) (m c : Nat) (hs : a.eval s = v) (hx : a.eval x = .slice p m c) (hm : m = l'.length)
    (hown : EOwn w base v l) (hin : EntsIn w p l') (hp : p = none → c = 0) (hlen : l.length + l'.length ≤ 1000000) (hbase : base ≤ w.heap.size)
    (h : ∀ v' w', EOwn w' base v' (l ++ l') → w.grownBy w' v.ownBlock → wpList Tryz.prog ops Q rest (a.put o.dst v') w') : wpList Tryz.prog ops Q (o :: rest) a w := by
  subst hm
  refine wpList_step fun K hK => ?_
  rw [if_pos hw]
  obtain ⟨v', w', hr, h2, h3⟩ := run_append_two w base o.type v l l' p c hown hin hp hlen hbase
  unfold Oper.wp execOp
  simp only [ho, resolve, invoke, builtin, Sem.run_bind, Sem.run_pure, Result.andThen_ok, List.map_toArray, List.map_cons, List.map_nil, hs, hx, hr]
  exact hK _ _ (h v' w' h2 h3)
theorem ents_grownE {w w' : World} {base : Nat} {v : Value} {l : List EntV} (h : EOwn w base v l) (hg : w.grownBy w' v.ownBlock) {w0 : World} (h0 : Below w0.heap.size w0 w) (hb : w0.heap.size ≤ base) : Below w0.heap.size w0 w' := h0.grown hg h0.size (fun k hk => by have := (World.ownsRow.lt h k hk).1; omega)
structure OnB (w : World) (v : Value) (l : List EntV) (wr : World) : Prop where
  own : EOwn wr w.heap.size v l
  bel : Below w.heap.size w wr
theorem OnB.next {w wr w' : World} {v : Value} {l : List EntV} (h : OnB w v l wr) (hb : Below wr.heap.size wr w') : OnB w v l w' := ⟨h.own.below hb, below_bt h.bel hb⟩
theorem OnB.app {w wr w' : World} {q : Option Addr} {c : Nat} {v' : Value} {l : List EntV} {k s : ByteArray} {i : Int} {g : Bool} (h : OnB w (.slice q l.length c) l wr) (hg : wr.grownBy w' (Value.slice q l.length c).ownBlock) (ho : w'.ownsRow w.heap.size 66 4 v' (l.length + 1) (cellsE l ++ [.string k, .string s, .int .i64 i, .bool g])) : OnB w v' (l ++ [⟨k, s, i, g⟩]) w' := by
  refine ⟨?_, h.bel.grown hg h.bel.size (fun k hk => (World.ownsRow.lt h.own k hk).1)⟩
  unfold EOwn
  rw [cellsE_app, List.length_append]
  exact ho
def leftN (al : List NodV) : Value → Nat
  | .pointer (some a) => al.length - posN al (.pointer (some a))
  | _ => 0
theorem make_ents (w : World) (c : Nat) (hc : c ≤ 5000) : ∃ w', (Instr.makeSlice 58 (.int .i64 0) (.int .i64 (c : Int))).run Tryz.prog w = .ok (.slice (some ⟨w.heap.size, 0, none⟩) 0 c) w' ∧ OnB w (.slice (some ⟨w.heap.size, 0, none⟩) 0 c) [] w' := by
  obtain ⟨i0, hi, hz0, hz1, hz2⟩ := info_parts' info_entry
  obtain ⟨w', h1, h2, h3⟩ := run_make_own (P := Tryz.prog) w w.heap.size 58 66 i0 _ 4 Tryz.underlying58 hi hz0 hz1 .i64 .i64 c (by rw [hz2]; omega) (by unfold maxLen; omega) (Nat.le_refl _)
  exact ⟨w', h1, ⟨h2, (Below.refl _ _).grown h3 (Nat.le_refl _) (fun k hk => by cases hk)⟩⟩
set_option maxRecDepth 8000 in
set_option maxHeartbeats 2000000 in
theorem all_any (Z : Nat → Prop) (lk : Nat) (al : List NodV) (w : World) (hs : Skip w Z lk al) (hlen : al.length ≤ 4097) :
    Calls Tryz.prog 151 #[.pointer (some ⟨lk, 0, none⟩)] w fun e w' => (∃ v, e = .returned v ∧ EOwn w' w.heap.size v (eosN al)) ∧ Below w.heap.size w w' := by
  obtain ⟨i0, hi, hz0, hz1, hz2⟩ := info_parts' info_entry
  have HS : Hid (Skip w Z lk al) := hs
  have HLN : Hid (al.length ≤ 4097) := hlen
  obtain ⟨n0, hn0⟩ : ∃ n0, al.getD 0 zN = n0 := ⟨_, rfl⟩
  have h0 : w.cell? ⟨lk, 0, none⟩ = some (.pointer (some ⟨n0.nb, 0, none⟩)) := by rw [← hn0]; exact Lib.cell_of_heap hs.links 0
  have h1 : w.cell? ⟨lk, 1, none⟩ = some (.int .i64 ((al.length - 1 : Nat) : Int)) := Lib.cell_of_heap hs.links 1
  obtain ⟨c, hc⟩ : ∃ c, al.length - 1 = c := ⟨_, rfl⟩
  rw [hc] at h1
  obtain ⟨w1, hmk, hon1⟩ := make_ents w c (by omega)
  have hb1 := hon1.bel
  have h0' := (hb1.cell (World.block_lt_of_cell? _ _ h0)).trans h0
  have hsk1 := hs.below hb1
  obtain ⟨_, _, _, _, d4⟩ := hsk1.cells hs.pos hn0
  have hhi := hs.head
  rw [hn0] at hhi
  have cn := hsk1.next hs.pos hn0 (k := 0) (by omega)
  rw [next0 (fun q hq => (hs.high q hq).1)] at cn
  have htI : ((n0.ht : Nat) : Int) = 12 := by omega
  have htI' : (1 : Int) ≤ ((n0.ht : Nat) : Int) := by omega
  have HON : Hid (OnB w (.slice (some ⟨w.heap.size, 0, none⟩) 0 c) [] w1) := hon1
  obtain ⟨v0, hv0⟩ : ∃ v0, ptO al[0 + 1]? = v0 := ⟨_, rfl⟩
  rw [hv0] at cn
  have HV0 : Hid (v0 = ptO al[1]?) := hv0.symm
  have hv0' : v0 = .pointer none ∨ ∃ b, v0 = .pointer (some ⟨b, 0, none⟩) := by
    rw [← hv0]
    cases al[0 + 1]? with
    | none => exact .inl rfl
    | some m => exact .inr ⟨m.nb, rfl⟩
  clear hs hlen h0 hc hon1 hb1 hsk1 hn0 hhi hv0 htI
  obtain ⟨ne, nb, bb, ht⟩ := n0
  simp only at *
  rcases hv0' with rfl | ⟨b0, rfl⟩
  all_goals
    go_enter Tryz.func151, Tryz.ntmps151
    go_wp2
    go_loopw [3, 4] (fun v n wr => ∃ p : Nat, 1 ≤ p ∧ p ≤ al.length ∧ n = ptO al[p]? ∧ OnB w v ((eosN al).take (p - 1)) wr) (fun _ n _ => leftN al n)
    case atStart => exact ⟨1, by omega, HS.out.pos, HV0.out, HON.out⟩
    case round =>
      obtain ⟨p, hp1, hp2, rfl, hon⟩ := hrel
      have HP : Hid (1 ≤ p ∧ p ≤ al.length) := ⟨hp1, hp2⟩
      obtain ⟨uq, uc, rfl, _, _, _⟩ := hon.own.form
      obtain ⟨M, hM⟩ : ∃ M, (eosN al).take (p - 1) = M := ⟨_, rfl⟩
      rw [hM] at hon ⊢
      have HOJ : Hid (OnB w (.slice uq M.length uc) M wr) := hon
      have HME : Hid ((eosN al).take (p - 1) = M) := hM
      clear hM hon h0' d4 cn HV0
      rcases Nat.lt_or_ge p al.length with hpl | hpl
      · obtain ⟨m, hm⟩ : ∃ m, al.getD p zN = m := ⟨_, rfl⟩
        have hsk := HS.out.below HOJ.out.bel
        obtain ⟨y0, y1, y2, y3, y4⟩ := hsk.cells hpl hm
        have hhm := (hsk.high p hpl).1
        rw [hm] at hhm
        have hmI : (1 : Int) ≤ ((m.ht : Nat) : Int) := by omega
        have HCN : Hid (∀ u, Below w.heap.size w u → u.cell? ⟨m.nb, 4, none⟩ = some (.slice (some ⟨m.bb, 0, none⟩) m.ht m.ht) ∧ u.cell? ⟨m.bb, 0, none⟩ = some (ptO al[p + 1]?)) := fun u hu => by
          have hk := HS.out.below hu
          have e := hk.next hpl hm (k := 0) (by omega)
          rw [next0 (fun q hq => (hk.high q hq).1)] at e
          exact ⟨(hk.cells hpl hm).2.2.2.2, e⟩
        have HGM : Hid (al[p]? = some m) := by show _ = _; rw [List.getElem?_eq_getElem hpl, ← nodD hpl, hm]
        have HM : Hid (al.getD p zN = m) := hm
        rw [show al[p]? = some m from HGM.out, show ptO (some m) = .pointer (some ⟨m.nb, 0, none⟩) from rfl]
        have HLM : Hid (M.length ≤ 5000) := by
          show _ ≤ _
          rw [← HME.out, List.length_take, eosN_len]
          have := HLN.out
          omega
        have HKP : Hid ((eosN al).take p = M ++ [m.ent]) := by
          show _ = _
          have e := eosN_at (al := al) (p := p - 1) (by omega)
          rw [show p - 1 + 1 = p by omega, hm] at e
          have e2 := take_snoc (l := eosN al) (k := p - 1) (by rw [eosN_len]; omega) e
          rw [show p - 1 + 1 = p by omega, HME.out] at e2
          exact e2
        have HPL : Hid (p < al.length) := hpl
        obtain ⟨v2, hv2⟩ : ∃ v2, ptO al[p + 1]? = v2 := ⟨_, rfl⟩
        have HV2 : Hid (v2 = ptO al[p + 1]?) := hv2.symm
        have hv2' : v2 = .pointer none ∨ ∃ b, v2 = .pointer (some ⟨b, 0, none⟩) := by
          rw [← hv2]
          cases al[p + 1]? with
          | none => exact .inl rfl
          | some m => exact .inr ⟨m.nb, rfl⟩
        rw [hv2] at HCN
        clear hsk hm hhm hpl hp1 hp2 hv2
        obtain ⟨⟨ke, ve, se, ge⟩, mb, mbb, mht⟩ := m
        simp only at y0 y1 y2 y3 y4 hmI HCN HKP
        have HOW : Hid (OnB w (.slice uq M.length uc) M (wr.alloc (.cells #[.string ke, .string ve, .int .i64 se, .bool ge] 66))) := HOJ.out.next (below_alloc _ _)
        have HCL : Hid (∀ j u, [Value.string ke, .string ve, .int .i64 se, .bool ge][j]? = some u → (wr.alloc (.cells #[.string ke, .string ve, .int .i64 se, .bool ge] 66)).cell? ((⟨wr.heap.size, 0, none⟩ : Addr).add j) = some u) := ent_cells wr _ _ _ _ _
        rcases hv2' with rfl | ⟨b2, rfl⟩
        all_goals
          go_wp2_with (at_builtin; go_loud (refine wpList_append_own _ rfl _ _ 58 rfl w.heap.size 66 i0 _ 4 48 Tryz.underlying58 hi hz0 hz1 hz2 rfl (by omega) _ _ _ rfl HOW.out.own ⟨wr.heap.size, 0, none⟩ 1 1 [.string ke, .string ve, .int .i64 se, .bool ge] rfl rfl HCL.out (ent_one ke ve se ge) (by have := HLM.out; unfold maxLen; omega) (by have := HLM.out; omega) HOW.out.bel.size ?_); intro va ua hoa hga _; have HNX : Hid (OnB w va (M ++ [⟨ke, ve, se, ge⟩]) ua) := HOW.out.app hga hoa; obtain ⟨f4, fn⟩ := HCN.out ua HNX.out.bel; clear hoa hga y0 y1 y2 y3 y4)
          go_roundw
          case rel => exact ⟨p + 1, by omega, HPL.out, HV2.out, by rw [show p + 1 - 1 = p by omega, HKP.out]; exact HNX.out⟩
          case measure =>
            have e1 := HS.out.posN HPL.out
            rw [HM.out] at e1
            have e1' : posN al (.pointer (some ⟨mb, 0, none⟩)) = p := e1
            have := HPL.out
            show leftN al _ < al.length - posN al (.pointer (some ⟨mb, 0, none⟩))
            rw [e1']
            first
              | (show 0 < al.length - p; omega)
              | (have hlt : p + 1 < al.length := by
                  rcases Nat.lt_or_ge (p + 1) al.length with h | h
                  · exact h
                  · have e := HV2.out; rw [List.getElem?_eq_none h] at e; cases e
                 have e2 := HS.out.posN hlt
                 have e3 := HV2.out
                 rw [List.getElem?_eq_getElem hlt, ← nodD hlt] at e3
                 have e3' : Value.pointer (some ⟨b2, 0, none⟩) = ptN (al.getD (p + 1) zN) := e3
                 show al.length - posN al (.pointer (some ⟨b2, 0, none⟩)) < al.length - p
                 rw [e3', e2]
                 omega)
      · have HGM : Hid (M = eosN al) := by
          show _ = _
          rw [← HME.out, List.take_of_length_le (by rw [eosN_len]; omega)]
        rw [List.getElem?_eq_none hpl, show ptO none = .pointer none from rfl]
        clear hpl hp1 hp2
        go_wp2
        go_ret
        exact ⟨⟨_, rfl, by rw [← HGM.out]; exact HOJ.out.own⟩, HOJ.out.bel⟩
def adO : Option NodV → Option Addr
  | none => none
  | some n => some ⟨n.nb, 0, none⟩
theorem ptO_eq (o : Option NodV) : ptO o = .pointer (adO o) := by cases o <;> rfl
structure InP (Z : Nat → Prop) (lk g : Nat) (al : List NodV) (f : Nat → Nat) (A : Array Value) (m : NodV) (k : Nat) (wr : World) : Prop where
  lkb : wr.heap[lk]? = some (.cells #[ptN (al.getD 0 zN), .int .i64 ((al.length : Nat) : Int)] 329 (0, 0))
  ab : wr.heap[g]? = some (.cells A 330 (0, 0))
  nod : ∀ p, p < al.length → wr.heap[(al.getD p zN).nb]? = some (.cells (nodC (al.getD p zN)) 327 (0, 0))
  nxt : ∀ p, p < al.length → ∃ cs, wr.heap[(al.getD p zN).bb]? = some (.cells cs 324 (0, 0)) ∧ cs.size = (al.getD p zN).ht ∧ ∀ h, h < (al.getD p zN).ht → cs[h]? = some (if h < k ∧ p = f h then ptN m else ptO (nxN h (al.drop (p + 1))))
  new : wr.heap[m.nb]? = some (.cells (nodC m) 327 (0, 0))
  newb : ∃ cs, wr.heap[m.bb]? = some (.cells cs 324 (0, 0)) ∧ cs.size = m.ht ∧ ∀ h, h < k → h < m.ht → cs[h]? = some (ptO (nxN h (al.drop (f h + 1))))
theorem set_typ {w : World} {b o : Nat} {cs : Array Value} {t : TypeId} {fr : Nat × Nat} {b' : Nat} {cs' : Array Value} {t' : TypeId} {fr' : Nat × Nat} (h : w.heap[b]? = some (.cells cs t fr)) (h' : w.heap[b']? = some (.cells cs' t' fr')) (ht : t' ≠ t) (v : Value) : (w.setCell ⟨b, o, none⟩ v).heap[b']? = some (.cells cs' t' fr') := by
  refine (heap_setCell_other w ⟨b, o, none⟩ b' v ?_).trans h'
  intro e
  have e' : b' = b := e
  subst e'
  rw [h] at h'
  simp only [Option.some.injEq, Obj.cells.injEq] at h'
  exact ht h'.2.1.symm
theorem set_num {w : World} {b o b' : Nat} {x : Obj} (h' : w.heap[b']? = some x) (ht : b' ≠ b) (v : Value) : (w.setCell ⟨b, o, none⟩ v).heap[b']? = some x := (heap_setCell_other w ⟨b, o, none⟩ b' v ht).trans h'
theorem InP.step {Z : Nat → Prop} {lk g : Nat} {al : List NodV} {f : Nat → Nat} {A : Array Value} {m : NodV} {k : Nat} {wr : World} (h : InP Z lk g al f A m k wr) (hk : k < m.ht) (hf : f k < al.length) (hh : k < (al.getD (f k) zN).ht)
    (hap : ∀ p q, p < al.length → q < al.length → (al.getD p zN).bb = (al.getD q zN).bb → p = q) (hne : ∀ p, p < al.length → (al.getD p zN).bb ≠ m.bb) :
    InP Z lk g al f A m (k + 1) ((wr.setCell ⟨m.bb, k, none⟩ (ptO (nxN k (al.drop (f k + 1))))).setCell ⟨(al.getD (f k) zN).bb, k, none⟩ (ptN m)) := by
  obtain ⟨cm, m1, m2, m3⟩ := h.newb
  obtain ⟨cf, f1, f2, f3⟩ := h.nxt (f k) hf
  have s1 := heap_setCell_same wr m.bb k _ _ (ptO (nxN k (al.drop (f k + 1)))) m1
  have f1' := set_num (o := k) f1 (hne _ hf) (ptO (nxN k (al.drop (f k + 1))))
  have s2 := heap_setCell_same (wr.setCell ⟨m.bb, k, none⟩ (ptO (nxN k (al.drop (f k + 1))))) (al.getD (f k) zN).bb k _ _ (ptN m) f1'
  refine ⟨set_typ f1' (set_typ m1 h.lkb (by decide) _) (by decide) _, set_typ f1' (set_typ m1 h.ab (by decide) _) (by decide) _, fun p hp => set_typ f1' (set_typ m1 (h.nod p hp) (by decide) _) (by decide) _, fun p hp => ?_, set_typ f1' (set_typ m1 h.new (by decide) _) (by decide) _, ?_⟩
  · obtain ⟨cp, p1, p2, p3⟩ := h.nxt p hp
    by_cases e : p = f k
    · subst e
      rw [f1] at p1
      simp only [Option.some.injEq, Obj.cells.injEq, and_true] at p1
      subst p1
      refine ⟨_, s2, by simpa using f2, fun j hj => ?_⟩
      rw [Array.getElem?_setIfInBounds]
      by_cases e2 : k = j
      · subst e2
        rw [if_pos rfl, if_pos (by omega), if_pos ⟨by omega, rfl⟩]
      · rw [if_neg e2, f3 j hj]
        congr 1
        by_cases e3 : j < k ∧ f k = f j
        · rw [if_pos e3, if_pos ⟨by omega, e3.2⟩]
        · rw [if_neg e3, if_neg (fun hc => e3 ⟨by omega, hc.2⟩)]
    · refine ⟨cp, set_num (set_num p1 (hne p hp) _) (fun hb => e (hap p (f k) hp hf hb)) _, p2, fun j hj => ?_⟩
      rw [p3 j hj]
      congr 1
      by_cases e3 : j < k ∧ p = f j
      · rw [if_pos e3, if_pos ⟨by omega, e3.2⟩]
      · rw [if_neg e3, if_neg]
        rintro ⟨hc, hc2⟩
        rcases Nat.lt_or_ge j k with h1 | h1
        · exact e3 ⟨h1, hc2⟩
        · obtain rfl : j = k := by omega
          exact e hc2
  · refine ⟨_, set_num s1 (fun hb => hne _ hf hb.symm) _, by simpa using m2, fun j hj hj2 => ?_⟩
    rw [Array.getElem?_setIfInBounds]
    by_cases e2 : k = j
    · subst e2
      rw [if_pos rfl, if_pos (by omega)]
    · rw [if_neg e2]
      exact m3 j (by omega) hj2
theorem InP.done {Z : Nat → Prop} {lk g : Nat} {al : List NodV} {f : Nat → Nat} {A : Array Value} {m : NodV} {wr w : World} {x : EntV} (h : InP Z lk g al f A m m.ht wr) (hs : Skip w Z lk al) (hf : ∀ h, h < 12 → AheadN al x h (f h)) (h1 : 1 ≤ m.ht) (h2 : m.ht ≤ 12) (hb : Z m.nb ∧ Z m.bb)
    (hne : ∀ p, p < al.length → (al.getD p zN).bb ≠ m.bb) (hne2 : ∀ p, p < al.length → (al.getD p zN).nb ≠ m.nb) : Skip wr Z lk (insN al (f 0) m) := by
  have h0 := hf 0 (by omega)
  have hlt := h0.lt
  have hlen := insN_len al (f 0) m hlt
  have cs3 : ∀ q, q < (insN al (f 0) m).length → q ≤ f 0 ∨ q = f 0 + 1 ∨ ∃ p, q = p + 1 ∧ f 0 < p ∧ p < al.length := fun q hq => by
    rcases Nat.lt_or_ge (f 0 + 1) q with hc | hc
    · exact .inr (.inr ⟨q - 1, by omega, by omega, by omega⟩)
    · rcases Nat.lt_or_ge q (f 0 + 1) with hd | hd
      · exact .inl (by omega)
      · exact .inr (.inl (by omega))
  have hd : (insN al (f 0) m).getD 0 zN = al.getD 0 zN := (insN_lo hlt (Nat.zero_le _)).1
  refine ⟨by omega, by rw [hd]; exact hs.head, hs.lkb, ?_, fun q hq => ?_, fun q hq => ?_, fun q hq => ?_, ?_, ?_⟩
  · rw [hd, hlen, Nat.add_sub_cancel]
    exact h.lkb
  · rcases cs3 q hq with hc | rfl | ⟨p, rfl, hp, hp2⟩
    · rw [(insN_lo hlt hc).1]
      exact ⟨(hs.nod q (by omega)).1, h.nod q (by omega)⟩
    · rw [(insN_at hlt).1]
      exact ⟨hb.1, h.new⟩
    · rw [(insN_hi hlt hp).1]
      exact ⟨(hs.nod p hp2).1, h.nod p hp2⟩
  · rcases cs3 q hq with hc | rfl | ⟨p, rfl, hp, hp2⟩
    · rw [(insN_lo hlt hc).1]
      obtain ⟨cs, c1, c2, c3⟩ := h.nxt q (by omega)
      refine ⟨(hs.nxt q (by omega)).1, cs, c1, c2, fun j hj => ?_⟩
      rw [c3 j hj, nx_ins_lo (hf j (by have := (hs.high q (by omega)).2; omega)) h0 hc hj]
      by_cases e : j < m.ht ∧ q = f j
      · rw [if_pos e, if_pos e]; rfl
      · rw [if_neg e, if_neg e]
    · rw [(insN_at hlt).1]
      obtain ⟨cs, c1, c2, c3⟩ := h.newb
      refine ⟨hb.2, cs, c1, c2, fun j hj => ?_⟩
      rw [c3 j hj hj, nx_ins_at (hf j (by omega)) h0]
    · rw [(insN_hi hlt hp).1, (insN_hi (m := m) hlt hp).2]
      obtain ⟨cs, c1, c2, c3⟩ := h.nxt p hp2
      refine ⟨(hs.nxt p hp2).1, cs, c1, c2, fun j hj => ?_⟩
      rw [c3 j hj, if_neg]
      rintro ⟨_, he⟩
      have := ahead_le (hf j (by have := (hs.high p hp2).2; omega)) h0
      omega
  · rcases cs3 q hq with hc | rfl | ⟨p, rfl, hp, hp2⟩
    · rw [(insN_lo hlt hc).1]; exact hs.high q (by omega)
    · rw [(insN_at hlt).1]; exact ⟨h1, h2⟩
    · rw [(insN_hi hlt hp).1]; exact hs.high p hp2
  · intro a b ha hb' e
    rcases cs3 a ha with hc | rfl | ⟨p, rfl, hp, hp2⟩
    · rw [(insN_lo hlt hc).1] at e
      rcases cs3 b hb' with hc2 | rfl | ⟨q, rfl, hq, hq2⟩
      · rw [(insN_lo hlt hc2).1] at e; exact hs.apart a b (by omega) (by omega) e
      · rw [(insN_at hlt).1] at e; exact absurd e (hne a (by omega))
      · rw [(insN_hi hlt hq).1] at e; have := hs.apart a q (by omega) hq2 e; omega
    · rw [(insN_at hlt).1] at e
      rcases cs3 b hb' with hc2 | rfl | ⟨q, rfl, hq, hq2⟩
      · rw [(insN_lo hlt hc2).1] at e; exact absurd e.symm (hne b (by omega))
      · rfl
      · rw [(insN_hi hlt hq).1] at e; exact absurd e.symm (hne q hq2)
    · rw [(insN_hi hlt hp).1] at e
      rcases cs3 b hb' with hc2 | rfl | ⟨q, rfl, hq, hq2⟩
      · rw [(insN_lo hlt hc2).1] at e; have := hs.apart p b hp2 (by omega) e; omega
      · rw [(insN_at hlt).1] at e; exact absurd e (hne p hp2)
      · rw [(insN_hi hlt hq).1] at e; have := hs.apart p q hp2 hq2 e; omega
  · intro a b ha hb' e
    rcases cs3 a ha with hc | rfl | ⟨p, rfl, hp, hp2⟩
    · rw [(insN_lo hlt hc).1] at e
      rcases cs3 b hb' with hc2 | rfl | ⟨q, rfl, hq, hq2⟩
      · rw [(insN_lo hlt hc2).1] at e; exact hs.apartn a b (by omega) (by omega) e
      · rw [(insN_at hlt).1] at e; exact absurd e (hne2 a (by omega))
      · rw [(insN_hi hlt hq).1] at e; have := hs.apartn a q (by omega) hq2 e; omega
    · rw [(insN_at hlt).1] at e
      rcases cs3 b hb' with hc2 | rfl | ⟨q, rfl, hq, hq2⟩
      · rw [(insN_lo hlt hc2).1] at e; exact absurd e.symm (hne2 b (by omega))
      · rfl
      · rw [(insN_hi hlt hq).1] at e; exact absurd e.symm (hne2 q hq2)
    · rw [(insN_hi hlt hp).1] at e
      rcases cs3 b hb' with hc2 | rfl | ⟨q, rfl, hq, hq2⟩
      · rw [(insN_lo hlt hc2).1] at e; have := hs.apartn p b hp2 (by omega) e; omega
      · rw [(insN_at hlt).1] at e; exact absurd e (hne2 p hp2)
      · rw [(insN_hi hlt hq).1] at e; have := hs.apartn p q hp2 hq2 e; omega
end Go.Proofs.YtghcmllmbpoidaaGreatDoor.Mg
