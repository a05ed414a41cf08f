/-
  The library's slices.SortFunc and cmp.Compare at this program: the tables of numbers, and that the bodies are those.
-/
import Derived.Test.YtglcpfnpbcnejaaGreatDoorJ04
import Derived.Shelf.SlGeneric
import Derived.Ground.SlgcProg
import Derived.Ground.SlsfProg
import Derived.Shelf.SlicesG.Cmp
import Derived.Shelf.SlSortCmp.WholeK
import Derived.Shelf.SlSortCmp.NoneTotal
import Derived.Test.YtglcpfnpbcnejaaGreatDoorProg
namespace Go.Proofs.YtglcpfnpbcnejaaGreatDoor
open Go.RowKit Go.Extern.Stop Go.Stop Go.Extern Rm

set_option maxHeartbeats 400000 in
theorem number_nil (w : World) : Calls Tryz.prog 30 #[.nilIface] w fun ev w' => ev = .returned (.int .i64 0) ∧ Below w.heap.size w w' := by
  go_enter Tryz.func30, Tryz.ntmps30
  go_wp2
  go_ret
  exact ⟨rfl, below_alloc _ _⟩
set_option maxHeartbeats 400000 in
theorem number_any (v : Value) (e : Int) (hv : Faults v e) (w : World) (hg : ErrT w) : Calls Tryz.prog 30 #[v] w fun ev w' => ev = .returned (.int .i64 e) ∧ Below w.heap.size w w' := by
  have hcall := As_any v e hv ⟨w.heap.size, 0, none⟩ (.int .i64 0) (w.alloc (.cells #[.int .i64 0] 26)) (hg.below (below_alloc _ _)) (by simp) (by simp)
  go_enter Tryz.func30, Tryz.ntmps30
  go_wp2_with fail
  refine hcall.mono ?_
  rintro e1 w1 ⟨rfl, w2, rfl, hb⟩
  have hs := hb.size
  simp at hs
  have hc : w2.cell? ⟨w.heap.size, 0, none⟩ = some (.int .i64 0) := by rw [hb.cell (by simp)]; simp
  have hc2 : (w2.setCell ⟨w.heap.size, 0, none⟩ (.int .i64 e)).cell? ⟨w.heap.size, 0, none⟩ = some (.int .i64 e) := World.cell?_setCell_same _ _ _ hc
  have hb2 : Below w.heap.size w (w2.setCell ⟨w.heap.size, 0, none⟩ (.int .i64 e)) := ((below_alloc w _).trans (hb.mono (by simp))).setCell (by simp) _
  generalize w2.setCell ⟨w.heap.size, 0, none⟩ (.int .i64 e) = w3 at *
  clear hc hs hb hcall
  go_wp2
  go_ret
  exact ⟨rfl, hb2⟩
end Go.Proofs.YtglcpfnpbcnejaaGreatDoor
namespace Go.Proofs.YtglcpfnpbcnejaaGreatDoor.Rm
open Go.RowKit Go.WideShapes

theorem mayCount_any (n : Int) (w : World) : Calls Tryz.prog 137 #[.int .i64 n] w fun e w' => e = .returned (.bool (decide (0 ≤ n ∧ n ≤ 4096))) ∧ w' = w := by
  by_cases h1 : 0 ≤ n
  · go_enter Tryz.func137, Tryz.ntmps137
    go_wp2
    go_ret
    exact ⟨by simp [h1], rfl⟩
  · go_enter Tryz.func137, Tryz.ntmps137
    go_wp2
    go_ret
    exact ⟨by simp; omega, rfl⟩
theorem mayBegin_any (first count : Int) (w : World) : Calls Tryz.prog 136 #[.int .i64 first, .int .i64 count] w fun e w' => e = .returned (.bool (decide ((0 ≤ count ∧ count ≤ 4096) ∧ 0 ≤ first ∧ first ≤ count))) ∧ w' = w := by
  by_cases h1 : 0 ≤ count ∧ count ≤ 4096
  · by_cases h2 : 0 ≤ first
    · go_enter Tryz.func136, Tryz.ntmps136
      go_wp2_with (go_at_call 137; refine (mayCount_any count _).mono ?_; rintro e w1 ⟨rfl, rfl⟩; rw [decide_eq_true h1])
      go_ret
      exact ⟨by simp [h1, h2], rfl⟩
    · go_enter Tryz.func136, Tryz.ntmps136
      go_wp2_with (go_at_call 137; refine (mayCount_any count _).mono ?_; rintro e w1 ⟨rfl, rfl⟩; rw [decide_eq_true h1])
      go_ret
      exact ⟨by simp; omega, rfl⟩
  · go_enter Tryz.func136, Tryz.ntmps136
    go_wp2_with (go_at_call 137; refine (mayCount_any count _).mono ?_; rintro e w1 ⟨rfl, rfl⟩; rw [decide_eq_false h1])
    go_ret
    exact ⟨by simp [h1], rfl⟩
theorem within_any (count a b : Int) (w : World) (hc : 0 ≤ count ∧ count ≤ 4096) (ha : -9223372036854775808 ≤ a ∧ a ≤ 9223372036854775807) :
    Calls Tryz.prog 156 #[.int .i64 count, .agg #[.int .i64 a, .int .i64 b]] w fun e w' => e = .returned (.bool (wnB count (a, b))) ∧ ∃ o, w' = w.alloc o := by
  by_cases h1 : 0 ≤ a
  · by_cases h2 : 1 ≤ b
    · go_enter Tryz.func156, Tryz.ntmps156
      go_wp2
      go_ret
      exact ⟨by simp [wnB, h1, h2], _, rfl⟩
    · go_enter Tryz.func156, Tryz.ntmps156
      go_wp2
      go_ret
      exact ⟨by rw [wnB_no (show ¬ Wn count (a, b) from fun h => by have := h.1; have := h.2.1; simp only at *; omega)]; rfl, _, rfl⟩
  · go_enter Tryz.func156, Tryz.ntmps156
    go_wp2
    go_ret
    exact ⟨by rw [wnB_no (show ¬ Wn count (a, b) from fun h => by have := h.1; have := h.2.1; simp only at *; omega)]; rfl, _, rfl⟩
end Go.Proofs.YtglcpfnpbcnejaaGreatDoor.Rm
namespace Go.Proofs.YtglcpfnpbcnejaaGreatDoor.Rm
open Go.RowKit Go.WideShapes

theorem grown_trans {a b c : World} {r : Option Nat} (h1 : a.grownBy b r) (h2 : b.grownBy c r) : a.grownBy c r :=
  ⟨h2.os.trans h1.os, h2.tape.trans h1.tape, h2.output.trans h1.output, Nat.le_trans h1.size h2.size, fun k hk hn => (h2.block k (Nat.lt_of_lt_of_le hk h1.size) hn).trans (h1.block k hk hn)⟩
theorem grown_drew (w : World) (n : Nat) (r : Option Nat) : w.grownBy (w.drewN n) r := ⟨rfl, rfl, rfl, Nat.le_refl _, fun _ _ _ => rfl⟩
theorem grown_set (w : World) (g i : Nat) (v : Value) : w.grownBy (w.setCell ⟨g, i, none⟩ v) (some g) :=
  ⟨rfl, rfl, rfl, by simp, fun k _ hn => heap_setCell_other w ⟨g, i, none⟩ k v (fun e => hn (by rw [e]))⟩
theorem grown_ad (w : World) (o o' : Obj) (n : Nat) (r : Option Nat) : w.grownBy (((w.alloc o).drewN n).alloc o') r :=
  grown_trans (grown_trans (World.grownBy_alloc w o r) (grown_drew _ n r)) (World.grownBy_alloc _ o' r)
theorem POwn.grown {w w' : World} {base : Nat} {v : Value} {l : Pcs} (h : POwn w base v l) (hg : w.grownBy w' none) : POwn w' base v l :=
  h.kept hg (by cases v.ownBlock <;> simp)
theorem two_one (a b : Int) : ∀ u ∈ [Value.int .i64 a, Value.int .i64 b], u.oneCell' = true := by
  intro u hu
  simp only [List.mem_cons, List.not_mem_nil, or_false] at hu
  rcases hu with rfl | rfl <;> rfl
theorem own_at {w : World} {base k : Nat} {v : Value} {l : Pcs} (hk : l.length = k) (h : POwn w base v l) : w.ownsRow base 53 2 v k (cellsQ l) := by
  subst hk; exact h
/-- A piece laid behind them. -/
theorem pown_push {w : World} {base k : Nat} {v : Value} {l : Pcs} {p : Int × Int} (hk : l.length = k) (h : w.ownsRow base 53 2 v (k + 1) (cellsQ l ++ [.int .i64 p.1, .int .i64 p.2])) : POwn w base v (l ++ [p]) := by
  subst hk
  unfold POwn
  rw [cellsQ_app, cellsQ_one, List.length_append]
  exact h
theorem far_of {H g : Nat} {v v' : Value} {w : World} (hv' : v'.ownBlock = some g) (hH : w.heap.size ≤ H) (h : v.ownBlock = some g ∨ g = H) : ∀ k, k < w.heap.size → some k ≠ v.ownBlock → some k ≠ v'.ownBlock := by
  intro k hk hne e
  rw [hv'] at e
  simp only [Option.some.injEq] at e
  subst e
  rcases h with h | h
  · exact hne h.symm
  · omega
theorem new_at (w : World) (o o' : Obj) (n : Nat) : (((w.alloc o).drewN n).alloc o').heap[w.heap.size + 1]? = some o' := by
  have := heap_alloc_new ((w.alloc o).drewN n) o'
  rwa [show ((w.alloc o).drewN n).heap.size = w.heap.size + 1 from by show (w.alloc o).heap.size = _; simp] at this
theorem pown_set {w : World} {base g n cap : Nat} {t : Pcs} {q : Int × Int} (x : Int) (hn : t.length = n) (h : POwn w base (.slice (some ⟨g, 0, none⟩) (n + 1) cap) (t ++ [q])) : POwn (w.setCell ⟨g, n * 2 + 1, none⟩ (.int .i64 x)) base (.slice (some ⟨g, 0, none⟩) (n + 1) cap) (t ++ [(q.1, x)]) := by
  subst hn
  refine ⟨by rw [cellsQ_len], ?_⟩
  rcases h.2 with ⟨hv, _⟩ | ⟨g', cap', cur, hv, hb, hg, h1, h2, h3, h4⟩
  · cases hv
  · simp only [Value.slice.injEq, Option.some.injEq, Addr.mk.injEq, and_true] at hv
    obtain ⟨rfl, _, rfl⟩ := hv
    simp only [List.length_append, List.length_singleton] at h1 h4
    refine .inr ⟨g, cap, _, by simp, hb, heap_setCell_same w g _ _ _ _ hg, by simpa using h1, h2, by simpa using h3, ?_⟩
    rw [Array.toList_setIfInBounds, List.length_append, List.length_singleton, List.take_set, h4, cellsQ_app, cellsQ_app, cellsQ_one, cellsQ_one, List.set_append_right _ _ (by rw [cellsQ_len]; omega), cellsQ_len, Nat.add_sub_cancel_left]
    rfl
def WithPost (base : Nat) (v : Value) (out : Pcs) (w : World) (e : Ending) (w' : World) : Prop :=
  ∃ v', e = .returned v' ∧ POwn w' base v' out ∧ w.grownBy w' v.ownBlock ∧ ∀ k, k < w.heap.size → some k ≠ v.ownBlock → some k ≠ v'.ownBlock
/-- The last piece of a row of them. -/
theorem POwn.last {w : World} {base : Nat} {v : Value} {t : Pcs} {q : Int × Int} (h : POwn w base v (t ++ [q])) : ∃ g cap cur, v = .slice (some ⟨g, 0, none⟩) (t.length + 1) cap ∧ base ≤ g ∧ g < w.heap.size ∧ w.heap[g]? = some (.cells cur 53 (0, 0)) ∧ t.length + 1 ≤ cap ∧ cap ≤ maxLen ∧ cur.size = cap * 2 ∧ cur.toList.take ((t.length + 1) * 2) = cellsQ t ++ [.int .i64 q.1, .int .i64 q.2] := by
  rcases h.2 with ⟨_, hn⟩ | ⟨g, cap, cur, hv, hb, hg, h1, h2, h3, h4⟩
  · simp at hn
  · simp only [List.length_append, List.length_singleton] at hv h1 h4
    rw [cellsQ_app, cellsQ_one] at h4
    exact ⟨g, cap, cur, hv, hb, lt_heap hg, hg, h1, h2, h3, h4⟩
theorem last_cells {w : World} {g n : Nat} {cur : Array Value} {t : Pcs} {q : Int × Int} {e : TypeId} (hn : t.length = n) (hg : w.heap[g]? = some (.cells cur e (0, 0))) (hs : (n + 1) * 2 ≤ cur.size) (h4 : cur.toList.take ((n + 1) * 2) = cellsQ t ++ [.int .i64 q.1, .int .i64 q.2]) :
    w.cell? ⟨g, n * 2, none⟩ = some (.int .i64 q.1) ∧ w.cell? ⟨g, n * 2 + 1, none⟩ = some (.int .i64 q.2) := by
  subst hn
  have key : ∀ j, j < (t.length + 1) * 2 → cur[j]? = (cellsQ t ++ [.int .i64 q.1, .int .i64 q.2])[j]? := by
    intro j hj
    rw [← h4, List.getElem?_take, if_pos hj]; simp
  have hl := cellsQ_len t
  constructor
  · rw [cell_of_row w g _ _ _ _ hg, key _ (by omega), List.getElem?_append_right (by omega), hl]; simp
  · rw [cell_of_row w g _ _ _ _ hg, key _ (by omega), List.getElem?_append_right (by omega), hl]; simp

set_option maxHeartbeats 2000000 in
theorem with_nil (base : Nat) (v : Value) (p : Int × Int) (w : World) (ho : POwn w base v []) (hbase : base ≤ w.heap.size) :
    Calls Tryz.prog 158 #[v, .agg #[.int .i64 p.1, .int .i64 p.2]] w (WithPost base v (withN [] p) w) := by
  obtain ⟨i0, hi, hz0, hz1, hz2⟩ := info_parts' info_piece
  obtain ⟨q, m, rfl, h1, h2, h3⟩ := ho.form
  have HO : Hid (POwn w base (.slice q 0 m) []) := ho
  clear ho h1 h2 h3
  go_enter Tryz.func158, Tryz.ntmps158
  go_wp2
  go_quiet (fail)
  go_wp2_with (at_builtin; refine wpList_append_lies _ rfl _ _ 49 rfl base 53 i0 _ 2 16 Tryz.underlying49 hi hz0 hz1 hz2 rfl (by omega) (.slice q 0 m) 0 (cellsQ []) rfl (own_at rfl (HO.out.grown (grown_ad w _ _ _ _))) ⟨w.heap.size + 1, 0, none⟩ 1 1 [.int .i64 p.1, .int .i64 p.2] rfl rfl (World.news_of_block (cs := #[.int .i64 p.1, .int .i64 p.2]) (new_at _ _ _ _)) (two_one _ _) (by omega) (by unfold maxLen; omega) (by omega) (by simp; omega) (w.heap.size + 2) (by simp) ?_)
  intro g1 cap1 w1 hown1 hgrow1 hat1 hlt1
  have R : Hid (POwn w1 base (.slice (some ⟨g1, 0, none⟩) (0 + 1) cap1) ([] ++ [p])) := pown_push rfl hown1
  have G : Hid (w.grownBy w1 (Value.ownBlock (.slice q 0 m))) := grown_trans (grown_ad w _ _ _ _) hgrow1
  have F : Hid (∀ k, k < w.heap.size → some k ≠ Value.ownBlock (.slice q 0 m) → some k ≠ Value.ownBlock (.slice (some ⟨g1, 0, none⟩) (0 + 1) cap1)) := far_of rfl (by omega) hat1
  clear hown1 hgrow1 hat1 hlt1 HO
  go_wp2
  go_ret
  exact ⟨_, rfl, R.out, G.out, F.out⟩

set_option maxHeartbeats 2000000 in
theorem with_apart (base : Nat) (v : Value) (t : Pcs) (q p : Int × Int) (w : World) (ho : POwn w base v (t ++ [q])) (hbase : base ≤ w.heap.size) (hn : t.length + 1 ≤ 4096) (hq : 0 ≤ q.1 ∧ 0 ≤ q.2 ∧ q.1 + q.2 ≤ 8192) (hne : q.1 + q.2 ≠ p.1) :
    Calls Tryz.prog 158 #[v, .agg #[.int .i64 p.1, .int .i64 p.2]] w (WithPost base v (withN (t ++ [q]) p) w) := by
  obtain ⟨i0, hi, hz0, hz1, hz2⟩ := info_parts' info_piece
  obtain ⟨g, cap, cur, rfl, hb, hgl, hg, h1, h2, h3, h4⟩ := ho.last
  obtain ⟨c0, c1⟩ := last_cells rfl hg (by omega) h4
  rw [withN_apart _ _ _ hne]
  have HK : Hid ((t ++ [q]).length = t.length + 1) := by show _ = _; simp
  generalize hnn : t.length = n at *
  have HO : Hid (POwn w base (.slice (some ⟨g, 0, none⟩) (n + 1) cap) (t ++ [q])) := ho
  have hc0 : (w.alloc (.cells #[.int .i64 p.1, .int .i64 p.2] 53)).cell? ⟨g, n * 2, none⟩ = some (.int .i64 q.1) := ((below_alloc w _).cell hgl).trans c0
  have hc1 : (w.alloc (.cells #[.int .i64 p.1, .int .i64 p.2] 53)).cell? ⟨g, n * 2 + 1, none⟩ = some (.int .i64 q.2) := ((below_alloc w _).cell hgl).trans c1
  obtain ⟨hp0, hp1⟩ := box2 (Below.refl (w.heap.size + 1) (w.alloc (.cells #[.int .i64 p.1, .int .i64 p.2] 53)))
  unfold maxLen at h2
  clear ho hg h3 h4 c0 c1 hnn hgl
  have hbe : (q.1 + q.2 == p.1) = false := by simpa using hne
  go_enter Tryz.func158, Tryz.ntmps158
  go_wp2
  go_quiet (fail)
  go_wp2_with (at_builtin; refine wpList_append_lies _ rfl _ _ 49 rfl base 53 i0 _ 2 16 Tryz.underlying49 hi hz0 hz1 hz2 rfl (by omega) (.slice (some ⟨g, 0, none⟩) (n + 1) cap) (n + 1) (cellsQ (t ++ [q])) rfl (own_at HK.out (HO.out.grown (grown_ad w _ _ _ _))) ⟨w.heap.size + 1, 0, none⟩ 1 1 [.int .i64 p.1, .int .i64 p.2] rfl rfl (World.news_of_block (cs := #[.int .i64 p.1, .int .i64 p.2]) (new_at _ _ _ _)) (two_one _ _) (by omega) (by unfold maxLen; omega) (by omega) (by simp; omega) (w.heap.size + 2) (by simp) ?_)
  intro g1 cap1 w1 hown1 hgrow1 hat1 hlt1
  have R : Hid (POwn w1 base (.slice (some ⟨g1, 0, none⟩) ((n + 1) + 1) cap1) ((t ++ [q]) ++ [p])) := pown_push HK.out hown1
  have G : Hid (w.grownBy w1 (Value.ownBlock (.slice (some ⟨g, 0, none⟩) (n + 1) cap))) := grown_trans (grown_ad w _ _ _ _) hgrow1
  have F : Hid (∀ k, k < w.heap.size → some k ≠ Value.ownBlock (.slice (some ⟨g, 0, none⟩) (n + 1) cap) → some k ≠ Value.ownBlock (.slice (some ⟨g1, 0, none⟩) ((n + 1) + 1) cap1)) := far_of rfl (by omega) hat1
  clear hown1 hgrow1 hat1 hlt1 HO
  go_wp2
  go_ret
  exact ⟨_, rfl, R.out, G.out, F.out⟩

set_option maxHeartbeats 2000000 in
theorem with_touch (base : Nat) (v : Value) (t : Pcs) (q p : Int × Int) (w : World) (ho : POwn w base v (t ++ [q])) (hn : t.length + 1 ≤ 4096) (hq : 0 ≤ q.1 ∧ 0 ≤ q.2 ∧ q.1 + q.2 ≤ 8192) (hp : 0 ≤ p.2 ∧ p.2 ≤ 8192) (hne : q.1 + q.2 = p.1) :
    Calls Tryz.prog 158 #[v, .agg #[.int .i64 p.1, .int .i64 p.2]] w (WithPost base v (withN (t ++ [q]) p) w) := by
  obtain ⟨g, cap, cur, rfl, hb, hgl, hg, h1, h2, h3, h4⟩ := ho.last
  obtain ⟨c0, c1⟩ := last_cells rfl hg (by omega) h4
  rw [withN_touch _ _ _ hne]
  generalize hnn : t.length = n at *
  have HO : Hid (POwn w base (.slice (some ⟨g, 0, none⟩) (n + 1) cap) (t ++ [q])) := ho
  have hc0 : (w.alloc (.cells #[.int .i64 p.1, .int .i64 p.2] 53)).cell? ⟨g, n * 2, none⟩ = some (.int .i64 q.1) := ((below_alloc w _).cell hgl).trans c0
  have hc1 : (w.alloc (.cells #[.int .i64 p.1, .int .i64 p.2] 53)).cell? ⟨g, n * 2 + 1, none⟩ = some (.int .i64 q.2) := ((below_alloc w _).cell hgl).trans c1
  have hf1 : (w.alloc (.cells #[.int .i64 p.1, .int .i64 p.2] 53)).frozen? ⟨g, n * 2 + 1, none⟩ = false := frozen_of_row _ _ _ _ _ (((below_alloc w _).block g hgl).trans hg)
  have HN : Hid (t.length = n) := hnn
  obtain ⟨hp0, hp1⟩ := box2 (Below.refl (w.heap.size + 1) (w.alloc (.cells #[.int .i64 p.1, .int .i64 p.2] 53)))
  unfold maxLen at h2
  have HGL : Hid (g < w.heap.size) := hgl
  clear ho hg h3 h4 c0 c1 hnn hgl
  have hbe : (q.1 + q.2 == p.1) = true := by simpa using hne
  clear hne
  go_enter Tryz.func158, Tryz.ntmps158
  go_wp2
  go_quiet (fail)
  go_wp2
  go_region
  have R : Hid (POwn (((w.alloc (.cells #[.int .i64 p.1, .int .i64 p.2] 53)).drewN (nq + 1)).setCell ⟨g, n * 2 + 1, none⟩ (.int .i64 (q.2 + p.2))) base (.slice (some ⟨g, 0, none⟩) (n + 1) cap) (t ++ [(q.1, q.2 + p.2)])) := pown_set _ HN.out (HO.out.grown (grown_trans (World.grownBy_alloc w _ _) (grown_drew _ _ _)))
  have G : Hid (w.grownBy (((w.alloc (.cells #[.int .i64 p.1, .int .i64 p.2] 53)).drewN (nq + 1)).setCell ⟨g, n * 2 + 1, none⟩ (.int .i64 (q.2 + p.2))) (some g)) := grown_trans (grown_trans (World.grownBy_alloc w _ _) (grown_drew _ _ _)) (grown_set _ _ _ _)
  clear HO hc0 hc1 hf1 hp0 hp1
  go_wp2
  go_ret
  exact ⟨_, rfl, R.out, G.out, fun k _ h => h⟩
/-- A piece put behind runs. -/
theorem with_any (base : Nat) (v : Value) (out : Pcs) (p : Int × Int) (w : World) (ho : POwn w base v out) (hbase : base ≤ w.heap.size) (hn : out.length ≤ 4096) (hq : ∀ q ∈ out, 0 ≤ q.1 ∧ 0 ≤ q.2 ∧ q.1 + q.2 ≤ 8192) (hp : 0 ≤ p.2 ∧ p.2 ≤ 8192) :
    Calls Tryz.prog 158 #[v, .agg #[.int .i64 p.1, .int .i64 p.2]] w (WithPost base v (withN out p) w) := by
  rcases nil_or_snoc out with rfl | ⟨t, q, rfl⟩
  · exact with_nil base v p w ho hbase
  · have hl : t.length + 1 ≤ 4096 := by simpa using hn
    by_cases e : q.1 + q.2 = p.1
    · exact with_touch base v t q p w ho hl (hq q (by simp)) hp e
    · exact with_apart base v t q p w ho hbase hl (hq q (by simp)) e

end Go.Proofs.YtglcpfnpbcnejaaGreatDoor.Rm
namespace Go.Proofs.YtglcpfnpbcnejaaGreatDoor.Rm
open Go.Shelf
def laysSort_ren : Go.Shelf.Ren := ⟨fun | 6 => 175 | 15 => 141 | 14 => 184 | 28 => 167 | 29 => 168 | 20 => 191 | 21 => 192 | 22 => 193 | 23 => 194 | 24 => 195 | 25 => 196 | 26 => 197 | 27 => 198 | 46 => 203 | 47 => 179 | 48 => 180 | 49 => 204 | 50 => 205 | 57 => 208 | n => n, fun | 22 => 49 | 24 => 53 | 25 => 255 | 3 => 3 | 39 => 213 | 0 => 0 | 53 => 246 | 55 => 141 | 4 => 4 | 46 => 239 | 45 => 238 | 50 => 243 | 5 => 5 | 9 => 9 | 66 => 256 | 70 => 260 | 76 => 264 | 77 => 177 | n => n, fun | n => n⟩
theorem laysSort : Go.Proofs.SlLaysF0.n6 Tryz.prog laysSort_ren := {
  mixed := by kernel_rfl
  f6 := ⟨Tryz.f175.name, by decide, Tryz.func175.trans (congrArg some (by kernel_rfl))⟩
  f14 := ⟨Tryz.f184.name, by decide, Tryz.func184.trans (congrArg some (by kernel_rfl))⟩
  f15 := Tryz.func141.trans (congrArg some (by kernel_rfl))
  f20 := ⟨Tryz.f191.name, by decide, Tryz.func191.trans (congrArg some (by kernel_rfl))⟩
  f21 := ⟨Tryz.f192.name, by decide, Tryz.func192.trans (congrArg some (by kernel_rfl))⟩
  f22 := ⟨Tryz.f193.name, by decide, Tryz.func193.trans (congrArg some (by kernel_rfl))⟩
  f23 := ⟨Tryz.f194.name, by decide, Tryz.func194.trans (congrArg some (by kernel_rfl))⟩
  f24 := ⟨Tryz.f195.name, by decide, Tryz.func195.trans (congrArg some (by kernel_rfl))⟩
  f25 := ⟨Tryz.f196.name, by decide, Tryz.func196.trans (congrArg some (by kernel_rfl))⟩
  f26 := ⟨Tryz.f197.name, by decide, Tryz.func197.trans (congrArg some (by kernel_rfl))⟩
  f27 := ⟨Tryz.f198.name, by decide, Tryz.func198.trans (congrArg some (by kernel_rfl))⟩
  f28 := Tryz.func167.trans (congrArg some (by kernel_rfl))
  f29 := Tryz.func168.trans (congrArg some (by kernel_rfl))
  f46 := ⟨Tryz.f203.name, by decide, Tryz.func203.trans (congrArg some (by kernel_rfl))⟩
  f47 := Tryz.func179.trans (congrArg some (by kernel_rfl))
  f48 := Tryz.func180.trans (congrArg some (by kernel_rfl))
  f49 := ⟨Tryz.f204.name, by decide, Tryz.func204.trans (congrArg some (by kernel_rfl))⟩
  f50 := ⟨Tryz.f205.name, by decide, Tryz.func205.trans (congrArg some (by kernel_rfl))⟩
  f57 := ⟨Tryz.f208.name, by decide, Tryz.func208.trans (congrArg some (by kernel_rfl))⟩
  t0 := Tryz.underlying0
  a0 := Tryz.isAgg0
  z0 := Tryz.sizeOf0
  v0 := Tryz.zeroValue0
  t3 := Tryz.underlying3
  a3 := Tryz.isAgg3
  z3 := Tryz.sizeOf3
  v3 := Tryz.zeroValue3
  t4 := Tryz.underlying4
  a4 := Tryz.isAgg4
  z4 := Tryz.sizeOf4
  v4 := Tryz.zeroValue4
  t5 := Tryz.underlying5
  a5 := Tryz.isAgg5
  z5 := Tryz.sizeOf5
  v5 := Tryz.zeroValue5
  t9 := Tryz.underlying9
  a9 := Tryz.isAgg9
  z9 := Tryz.sizeOf9
  v9 := Tryz.zeroValue9
  t22 := Tryz.underlying49
  a22 := Tryz.isAgg49
  z22 := Tryz.sizeOf49
  v22 := Tryz.zeroValue49
  t25 := Tryz.underlying255
  a25 := Tryz.isAgg255
  z25 := Tryz.sizeOf255
  v25 := Tryz.zeroValue255
  t39 := Tryz.underlying213
  a39 := Tryz.isAgg213
  z39 := Tryz.sizeOf213
  v39 := Tryz.zeroValue213
  t45 := Tryz.underlying238
  a45 := Tryz.isAgg238
  z45 := Tryz.sizeOf238
  v45 := Tryz.zeroValue238
  t46 := Tryz.underlying239
  a46 := Tryz.isAgg239
  z46 := Tryz.sizeOf239
  v46 := Tryz.zeroValue239
  t50 := Tryz.underlying243
  a50 := Tryz.isAgg243
  z50 := Tryz.sizeOf243
  v50 := Tryz.zeroValue243
  t53 := Tryz.underlying246
  a53 := Tryz.isAgg246
  z53 := Tryz.sizeOf246
  v53 := Tryz.zeroValue246
  t55 := Tryz.underlying141
  a55 := Tryz.isAgg141
  z55 := Tryz.sizeOf141
  v55 := Tryz.zeroValue141
  t66 := Tryz.underlying256
  a66 := Tryz.isAgg256
  z66 := Tryz.sizeOf256
  v66 := Tryz.zeroValue256
  t70 := Tryz.underlying260
  a70 := Tryz.isAgg260
  z70 := Tryz.sizeOf260
  v70 := Tryz.zeroValue260
  t76 := Tryz.underlying264
  a76 := Tryz.isAgg264
  z76 := Tryz.sizeOf264
  v76 := Tryz.zeroValue264
  t77 := Tryz.underlying177
  a77 := Tryz.isAgg177
  z77 := Tryz.sizeOf177
  v77 := Tryz.zeroValue177 }
def laysCmp_ren : Go.Shelf.Ren := ⟨fun | 5 => 177 | 7 => 185 | n => n, fun | 22 => 3 | 3 => 3 | 4 => 4 | n => n, fun | n => n⟩
theorem laysCmp : Go.Proofs.SlLaysC2.n5 Tryz.prog laysCmp_ren := {
  mixed := by kernel_rfl
  f5 := ⟨Tryz.f177.name, by decide, Tryz.func177.trans (congrArg some (by kernel_rfl))⟩
  f7 := ⟨Tryz.f185.name, by decide, Tryz.func185.trans (congrArg some (by kernel_rfl))⟩
  t3 := Tryz.underlying3
  a3 := Tryz.isAgg3
  z3 := Tryz.sizeOf3
  v3 := Tryz.zeroValue3
  t4 := Tryz.underlying4
  a4 := Tryz.isAgg4
  z4 := Tryz.sizeOf4
  v4 := Tryz.zeroValue4
  t22 := Tryz.underlying3
  a22 := Tryz.isAgg3
  z22 := Tryz.sizeOf3
  v22 := Tryz.zeroValue3 }
end Go.Proofs.YtglcpfnpbcnejaaGreatDoor.Rm
