/-
  Contract of the call with: a piece put behind runs, in memory of the call's own.
-/
import Derived.Test.YtfplpdnhhefbaaaPSmall
namespace Go.Proofs.Ytfplpdnhhefbaaa
open Go.RowKit Go.WideShapes

theorem grown_trans {a b c : World} {r : Option Nat} (h1 : a.grownBy b r) (h2 : b.grownBy c r) : a.grownBy c r :=
  ⟨h2.os.trans h1.os, h2.tape.trans h1.tape, h2.output.trans h1.output, Nat.le_trans h1.size h2.size, fun k hk hn => (h2.block k (Nat.lt_of_lt_of_le hk h1.size) hn).trans (h1.block k hk hn)⟩
theorem grown_drew (w : World) (n : Nat) (r : Option Nat) : w.grownBy (w.drewN n) r := ⟨rfl, rfl, rfl, Nat.le_refl _, fun _ _ _ => rfl⟩
theorem grown_set (w : World) (g i : Nat) (v : Value) : w.grownBy (w.setCell ⟨g, i, none⟩ v) (some g) :=
  ⟨rfl, rfl, rfl, by simp, fun k _ hn => heap_setCell_other w ⟨g, i, none⟩ k v (fun e => hn (by rw [e]))⟩
theorem grown_ad (w : World) (o o' : Obj) (n : Nat) (r : Option Nat) : w.grownBy (((w.alloc o).drewN n).alloc o') r :=
  grown_trans (grown_trans (World.grownBy_alloc w o r) (grown_drew _ n r)) (World.grownBy_alloc _ o' r)
theorem POwn.grown {w w' : World} {base : Nat} {v : Value} {l : Pcs} (h : POwn w base v l) (hg : w.grownBy w' none) : POwn w' base v l :=
  h.kept hg (by cases v.ownBlock <;> simp)
theorem two_one (a b : Int) : ∀ u ∈ [Value.int .i64 a, Value.int .i64 b], u.oneCell' = true := by
  intro u hu
  simp only [List.mem_cons, List.not_mem_nil, or_false] at hu
  rcases hu with rfl | rfl <;> rfl
theorem own_at {w : World} {base k : Nat} {v : Value} {l : Pcs} (hk : l.length = k) (h : POwn w base v l) : w.ownsRow base 29 2 v k (cellsQ l) := by
  subst hk; exact h
/-- A piece laid behind them. -/
theorem pown_push {w : World} {base k : Nat} {v : Value} {l : Pcs} {p : Int × Int} (hk : l.length = k) (h : w.ownsRow base 29 2 v (k + 1) (cellsQ l ++ [.int .i64 p.1, .int .i64 p.2])) : POwn w base v (l ++ [p]) := by
  subst hk
  unfold POwn
  rw [cellsQ_app, cellsQ_one, List.length_append]
  exact h
theorem far_of {H g : Nat} {v v' : Value} {w : World} (hv' : v'.ownBlock = some g) (hH : w.heap.size ≤ H) (h : v.ownBlock = some g ∨ g = H) : ∀ k, k < w.heap.size → some k ≠ v.ownBlock → some k ≠ v'.ownBlock := by
  intro k hk hne e
  rw [hv'] at e
  simp only [Option.some.injEq] at e
  subst e
  rcases h with h | h
  · exact hne h.symm
  · omega
theorem new_at (w : World) (o o' : Obj) (n : Nat) : (((w.alloc o).drewN n).alloc o').heap[w.heap.size + 1]? = some o' := by
  have := heap_alloc_new ((w.alloc o).drewN n) o'
  rwa [show ((w.alloc o).drewN n).heap.size = w.heap.size + 1 from by show (w.alloc o).heap.size = _; simp] at this
theorem pown_set {w : World} {base g n cap : Nat} {t : Pcs} {q : Int × Int} (x : Int) (hn : t.length = n) (h : POwn w base (.slice (some ⟨g, 0, none⟩) (n + 1) cap) (t ++ [q])) : POwn (w.setCell ⟨g, n * 2 + 1, none⟩ (.int .i64 x)) base (.slice (some ⟨g, 0, none⟩) (n + 1) cap) (t ++ [(q.1, x)]) := by
  subst hn
  refine ⟨by rw [cellsQ_len], ?_⟩
  rcases h.2 with ⟨hv, _⟩ | ⟨g', cap', cur, hv, hb, hg, h1, h2, h3, h4⟩
  · cases hv
  · simp only [Value.slice.injEq, Option.some.injEq, Addr.mk.injEq, and_true] at hv
    obtain ⟨rfl, _, rfl⟩ := hv
    simp only [List.length_append, List.length_singleton] at h1 h4
    refine .inr ⟨g, cap, _, by simp, hb, heap_setCell_same w g _ _ _ _ hg, by simpa using h1, h2, by simpa using h3, ?_⟩
    rw [Array.toList_setIfInBounds, List.length_append, List.length_singleton, List.take_set, h4, cellsQ_app, cellsQ_app, cellsQ_one, cellsQ_one, List.set_append_right _ _ (by rw [cellsQ_len]; omega), cellsQ_len, Nat.add_sub_cancel_left]
    rfl
def WithPost (base : Nat) (v : Value) (out : Pcs) (w : World) (e : Ending) (w' : World) : Prop :=
  ∃ v', e = .returned v' ∧ POwn w' base v' out ∧ w.grownBy w' v.ownBlock ∧ ∀ k, k < w.heap.size → some k ≠ v.ownBlock → some k ≠ v'.ownBlock
/-- The last piece of a row of them. -/
theorem POwn.last {w : World} {base : Nat} {v : Value} {t : Pcs} {q : Int × Int} (h : POwn w base v (t ++ [q])) : ∃ g cap cur, v = .slice (some ⟨g, 0, none⟩) (t.length + 1) cap ∧ base ≤ g ∧ g < w.heap.size ∧ w.heap[g]? = some (.cells cur 29 (0, 0)) ∧ t.length + 1 ≤ cap ∧ cap ≤ maxLen ∧ cur.size = cap * 2 ∧ cur.toList.take ((t.length + 1) * 2) = cellsQ t ++ [.int .i64 q.1, .int .i64 q.2] := by
  rcases h.2 with ⟨_, hn⟩ | ⟨g, cap, cur, hv, hb, hg, h1, h2, h3, h4⟩
  · simp at hn
  · simp only [List.length_append, List.length_singleton] at hv h1 h4
    rw [cellsQ_app, cellsQ_one] at h4
    exact ⟨g, cap, cur, hv, hb, lt_heap hg, hg, h1, h2, h3, h4⟩
theorem last_cells {w : World} {g n : Nat} {cur : Array Value} {t : Pcs} {q : Int × Int} {e : TypeId} (hn : t.length = n) (hg : w.heap[g]? = some (.cells cur e (0, 0))) (hs : (n + 1) * 2 ≤ cur.size) (h4 : cur.toList.take ((n + 1) * 2) = cellsQ t ++ [.int .i64 q.1, .int .i64 q.2]) :
    w.cell? ⟨g, n * 2, none⟩ = some (.int .i64 q.1) ∧ w.cell? ⟨g, n * 2 + 1, none⟩ = some (.int .i64 q.2) := by
  subst hn
  have key : ∀ j, j < (t.length + 1) * 2 → cur[j]? = (cellsQ t ++ [.int .i64 q.1, .int .i64 q.2])[j]? := by
    intro j hj
    rw [← h4, List.getElem?_take, if_pos hj]; simp
  have hl := cellsQ_len t
  constructor
  · rw [cell_of_row w g _ _ _ _ hg, key _ (by omega), List.getElem?_append_right (by omega), hl]; simp
  · rw [cell_of_row w g _ _ _ _ hg, key _ (by omega), List.getElem?_append_right (by omega), hl]; simp

set_option maxHeartbeats 2000000 in
theorem with_nil (base : Nat) (v : Value) (p : Int × Int) (w : World) (ho : POwn w base v []) (hbase : base ≤ w.heap.size) :
    Calls Try.prog 30 #[v, .agg #[.int .i64 p.1, .int .i64 p.2]] w (WithPost base v (withN [] p) w) := by
  obtain ⟨i0, hi, hz0, hz1, hz2⟩ := info_parts' info_piece
  obtain ⟨q, m, rfl, h1, h2, h3⟩ := ho.form
  have HO : Hid (POwn w base (.slice q 0 m) []) := ho
  clear ho h1 h2 h3
  go_enter Try.func30, Try.ntmps30
  go_wp2
  go_quiet (fail)
  go_wp2_with (at_builtin; refine wpList_append_lies _ rfl _ _ 22 rfl base 29 i0 _ 2 16 Try.underlying22 hi hz0 hz1 hz2 rfl (by omega) (.slice q 0 m) 0 (cellsQ []) rfl (own_at rfl (HO.out.grown (grown_ad w _ _ _ _))) ⟨w.heap.size + 1, 0, none⟩ 1 1 [.int .i64 p.1, .int .i64 p.2] rfl rfl (World.news_of_block (cs := #[.int .i64 p.1, .int .i64 p.2]) (new_at _ _ _ _)) (two_one _ _) (by omega) (by unfold maxLen; omega) (by omega) (by simp; omega) (w.heap.size + 2) (by simp) ?_)
  intro g1 cap1 w1 hown1 hgrow1 hat1 hlt1
  have R : Hid (POwn w1 base (.slice (some ⟨g1, 0, none⟩) (0 + 1) cap1) ([] ++ [p])) := pown_push rfl hown1
  have G : Hid (w.grownBy w1 (Value.ownBlock (.slice q 0 m))) := grown_trans (grown_ad w _ _ _ _) hgrow1
  have F : Hid (∀ k, k < w.heap.size → some k ≠ Value.ownBlock (.slice q 0 m) → some k ≠ Value.ownBlock (.slice (some ⟨g1, 0, none⟩) (0 + 1) cap1)) := far_of rfl (by omega) hat1
  clear hown1 hgrow1 hat1 hlt1 HO
  go_wp2
  go_ret
  exact ⟨_, rfl, R.out, G.out, F.out⟩

set_option maxHeartbeats 2000000 in
theorem with_apart (base : Nat) (v : Value) (t : Pcs) (q p : Int × Int) (w : World) (ho : POwn w base v (t ++ [q])) (hbase : base ≤ w.heap.size) (hn : t.length + 1 ≤ 4096) (hq : 0 ≤ q.1 ∧ 0 ≤ q.2 ∧ q.1 + q.2 ≤ 8192) (hne : q.1 + q.2 ≠ p.1) :
    Calls Try.prog 30 #[v, .agg #[.int .i64 p.1, .int .i64 p.2]] w (WithPost base v (withN (t ++ [q]) p) w) := by
  obtain ⟨i0, hi, hz0, hz1, hz2⟩ := info_parts' info_piece
  obtain ⟨g, cap, cur, rfl, hb, hgl, hg, h1, h2, h3, h4⟩ := ho.last
  obtain ⟨c0, c1⟩ := last_cells rfl hg (by omega) h4
  rw [withN_apart _ _ _ hne]
  have HK : Hid ((t ++ [q]).length = t.length + 1) := by show _ = _; simp
  generalize hnn : t.length = n at *
  have HO : Hid (POwn w base (.slice (some ⟨g, 0, none⟩) (n + 1) cap) (t ++ [q])) := ho
  have hc0 : (w.alloc (.cells #[.int .i64 p.1, .int .i64 p.2] 29)).cell? ⟨g, n * 2, none⟩ = some (.int .i64 q.1) := ((below_alloc w _).cell hgl).trans c0
  have hc1 : (w.alloc (.cells #[.int .i64 p.1, .int .i64 p.2] 29)).cell? ⟨g, n * 2 + 1, none⟩ = some (.int .i64 q.2) := ((below_alloc w _).cell hgl).trans c1
  obtain ⟨hp0, hp1⟩ := box2 (Below.refl (w.heap.size + 1) (w.alloc (.cells #[.int .i64 p.1, .int .i64 p.2] 29)))
  unfold maxLen at h2
  clear ho hg h3 h4 c0 c1 hnn hgl
  have hbe : (q.1 + q.2 == p.1) = false := by simpa using hne
  go_enter Try.func30, Try.ntmps30
  go_wp2
  go_quiet (fail)
  go_wp2_with (at_builtin; refine wpList_append_lies _ rfl _ _ 22 rfl base 29 i0 _ 2 16 Try.underlying22 hi hz0 hz1 hz2 rfl (by omega) (.slice (some ⟨g, 0, none⟩) (n + 1) cap) (n + 1) (cellsQ (t ++ [q])) rfl (own_at HK.out (HO.out.grown (grown_ad w _ _ _ _))) ⟨w.heap.size + 1, 0, none⟩ 1 1 [.int .i64 p.1, .int .i64 p.2] rfl rfl (World.news_of_block (cs := #[.int .i64 p.1, .int .i64 p.2]) (new_at _ _ _ _)) (two_one _ _) (by omega) (by unfold maxLen; omega) (by omega) (by simp; omega) (w.heap.size + 2) (by simp) ?_)
  intro g1 cap1 w1 hown1 hgrow1 hat1 hlt1
  have R : Hid (POwn w1 base (.slice (some ⟨g1, 0, none⟩) ((n + 1) + 1) cap1) ((t ++ [q]) ++ [p])) := pown_push HK.out hown1
  have G : Hid (w.grownBy w1 (Value.ownBlock (.slice (some ⟨g, 0, none⟩) (n + 1) cap))) := grown_trans (grown_ad w _ _ _ _) hgrow1
  have F : Hid (∀ k, k < w.heap.size → some k ≠ Value.ownBlock (.slice (some ⟨g, 0, none⟩) (n + 1) cap) → some k ≠ Value.ownBlock (.slice (some ⟨g1, 0, none⟩) ((n + 1) + 1) cap1)) := far_of rfl (by omega) hat1
  clear hown1 hgrow1 hat1 hlt1 HO
  go_wp2
  go_ret
  exact ⟨_, rfl, R.out, G.out, F.out⟩

set_option maxHeartbeats 2000000 in
theorem with_touch (base : Nat) (v : Value) (t : Pcs) (q p : Int × Int) (w : World) (ho : POwn w base v (t ++ [q])) (hn : t.length + 1 ≤ 4096) (hq : 0 ≤ q.1 ∧ 0 ≤ q.2 ∧ q.1 + q.2 ≤ 8192) (hp : 0 ≤ p.2 ∧ p.2 ≤ 8192) (hne : q.1 + q.2 = p.1) :
    Calls Try.prog 30 #[v, .agg #[.int .i64 p.1, .int .i64 p.2]] w (WithPost base v (withN (t ++ [q]) p) w) := by
  obtain ⟨g, cap, cur, rfl, hb, hgl, hg, h1, h2, h3, h4⟩ := ho.last
  obtain ⟨c0, c1⟩ := last_cells rfl hg (by omega) h4
  rw [withN_touch _ _ _ hne]
  generalize hnn : t.length = n at *
  have HO : Hid (POwn w base (.slice (some ⟨g, 0, none⟩) (n + 1) cap) (t ++ [q])) := ho
  have hc0 : (w.alloc (.cells #[.int .i64 p.1, .int .i64 p.2] 29)).cell? ⟨g, n * 2, none⟩ = some (.int .i64 q.1) := ((below_alloc w _).cell hgl).trans c0
  have hc1 : (w.alloc (.cells #[.int .i64 p.1, .int .i64 p.2] 29)).cell? ⟨g, n * 2 + 1, none⟩ = some (.int .i64 q.2) := ((below_alloc w _).cell hgl).trans c1
  have hf1 : (w.alloc (.cells #[.int .i64 p.1, .int .i64 p.2] 29)).frozen? ⟨g, n * 2 + 1, none⟩ = false := frozen_of_row _ _ _ _ _ (((below_alloc w _).block g hgl).trans hg)
  have HN : Hid (t.length = n) := hnn
  obtain ⟨hp0, hp1⟩ := box2 (Below.refl (w.heap.size + 1) (w.alloc (.cells #[.int .i64 p.1, .int .i64 p.2] 29)))
  unfold maxLen at h2
  have HGL : Hid (g < w.heap.size) := hgl
  clear ho hg h3 h4 c0 c1 hnn hgl
  have hbe : (q.1 + q.2 == p.1) = true := by simpa using hne
  clear hne
  go_enter Try.func30, Try.ntmps30
  go_wp2
  go_quiet (fail)
  go_wp2
  go_region
  have R : Hid (POwn (((w.alloc (.cells #[.int .i64 p.1, .int .i64 p.2] 29)).drewN (nq + 1)).setCell ⟨g, n * 2 + 1, none⟩ (.int .i64 (q.2 + p.2))) base (.slice (some ⟨g, 0, none⟩) (n + 1) cap) (t ++ [(q.1, q.2 + p.2)])) := pown_set _ HN.out (HO.out.grown (grown_trans (World.grownBy_alloc w _ _) (grown_drew _ _ _)))
  have G : Hid (w.grownBy (((w.alloc (.cells #[.int .i64 p.1, .int .i64 p.2] 29)).drewN (nq + 1)).setCell ⟨g, n * 2 + 1, none⟩ (.int .i64 (q.2 + p.2))) (some g)) := grown_trans (grown_trans (World.grownBy_alloc w _ _) (grown_drew _ _ _)) (grown_set _ _ _ _)
  clear HO hc0 hc1 hf1 hp0 hp1
  go_wp2
  go_ret
  exact ⟨_, rfl, R.out, G.out, fun k _ h => h⟩
/-- A piece put behind runs. -/
theorem with_any (base : Nat) (v : Value) (out : Pcs) (p : Int × Int) (w : World) (ho : POwn w base v out) (hbase : base ≤ w.heap.size) (hn : out.length ≤ 4096) (hq : ∀ q ∈ out, 0 ≤ q.1 ∧ 0 ≤ q.2 ∧ q.1 + q.2 ≤ 8192) (hp : 0 ≤ p.2 ∧ p.2 ≤ 8192) :
    Calls Try.prog 30 #[v, .agg #[.int .i64 p.1, .int .i64 p.2]] w (WithPost base v (withN out p) w) := by
  rcases nil_or_snoc out with rfl | ⟨t, q, rfl⟩
  · exact with_nil base v p w ho hbase
  · have hl : t.length + 1 ≤ 4096 := by simpa using hn
    by_cases e : q.1 + q.2 = p.1
    · exact with_touch base v t q p w ho hl (hq q (by simp)) hp e
    · exact with_apart base v t q p w ho hbase hl (hq q (by simp)) e

end Go.Proofs.Ytfplpdnhhefbaaa
