/-
  The log's sectors, one behind the other (now), and the epoch that their head holds (epochOf).
-/
import Derived.Test.YtnajjfdbmdjcbaaJ05
import Derived.Laws.ResultCell
import Derived.Test.YtnajjfdbmdjcbaaJ02
import Derived.Deep.Cut
import Derived.Test.YtnajjfdbmdjcbaaJ04
namespace Go.Proofs.Ytnajjfdbmdjcbaa
open Go.RowKit Go.WideShapes
attribute [local go_sem ↓] Go.wp_at_zero Go.wp_at_succ

set_option maxRecDepth 20000 in
set_option maxHeartbeats 2000000 in
theorem wait_range (base B0 gd : Nat) (count : Int) (data : List Nat) (q : Option Addr) (m : Nat) (ws : Puts) (gs : List Nat) (s : Int) (pv : Value) (w : World) (hd : DiskOwn w base B0 gd count data q m ws gs) (hs : ¬ (0 ≤ s ∧ s < count)) :
    Calls Try.prog 48 #[.pointer (some ⟨B0, 0, none⟩), .agg #[.int .i64 s, pv]] w fun e w' => e = .returned (.int .i64 21) ∧ Below w.heap.size w w' := by
  have hlt := lt_heap hd.box
  obtain ⟨hc0, hc1, hc2⟩ := (hd.below (below_alloc w (.cells #[.int .i64 s, pv] 41))).cells
  obtain ⟨hp0, hp1⟩ := put_cells (Below.refl _ (w.alloc (.cells #[.int .i64 s, pv] 41)))
  have hb1 := below_alloc w (.cells #[.int .i64 s, pv] 41)
  clear hd
  go_enter Try.func48, Try.ntmps48
  go_wp2
  obtain ⟨w1, hw1⟩ : ∃ w1, w1 = w.alloc (.cells #[.int .i64 s, pv] 41) := ⟨_, rfl⟩
  rw [← hw1] at hc0 hc1 hc2 hp0 hp1 hb1 ⊢
  have hsz : w.heap.size < w1.heap.size := by rw [hw1]; simp
  clear hw1
  go_region_held3 (fun w' => w'.cell? ⟨B0, 0, none⟩ = some (.int .i64 count) ∧ w'.cell? ⟨B0, 1, none⟩ = some (.slice (some ⟨gd, 0, none⟩) data.length data.length) ∧ w'.cell? ⟨B0, 2, none⟩ = some (.slice q ws.length m) ∧ w'.cell? ⟨w.heap.size, 0, none⟩ = some (.int .i64 s)) (go_keep)
    (first
      | (go_at_call 65; refine (has_any count s _ _ _).mono ?_; rintro e w2 ⟨rfl, ob, rfl⟩; rw [decide_eq_false hs])
      | fail)
  go_wp2
  go_ret
  exact ⟨rfl, (hb1.drew).alloc (by show _ ≤ w1.heap.size; omega) _⟩
set_option maxRecDepth 20000 in
set_option maxHeartbeats 2000000 in
theorem wait_bad (base B0 gd : Nat) (count : Int) (data : List Nat) (q : Option Addr) (m : Nat) (ws : Puts) (gs : List Nat) (s : Int) (pk : Option Addr) (ck : Nat) (xs : List Nat) (w : World) (hd : DiskOwn w base B0 gd count data q m ws gs) (hs : 0 ≤ s ∧ s < count) (hx : xs.length ≠ 128) :
    Calls Try.prog 48 #[.pointer (some ⟨B0, 0, none⟩), .agg #[.int .i64 s, .slice pk xs.length ck]] w fun e w' => e = .returned (.int .i64 8) ∧ Below w.heap.size w w' := by
  have hlt := lt_heap hd.box
  obtain ⟨hc0, hc1, hc2⟩ := (hd.below (below_alloc w (.cells #[.int .i64 s, .slice pk xs.length ck] 41))).cells
  obtain ⟨hp0, hp1⟩ := put_cells (Below.refl _ (w.alloc (.cells #[.int .i64 s, .slice pk xs.length ck] 41)))
  have hb1 := below_alloc w (.cells #[.int .i64 s, .slice pk xs.length ck] 41)
  clear hd
  have hxb : ((xs.length : Int) != 128) = true := by simp; omega
  clear hx
  go_enter Try.func48, Try.ntmps48
  go_wp2
  obtain ⟨w1, hw1⟩ : ∃ w1, w1 = w.alloc (.cells #[.int .i64 s, .slice pk xs.length ck] 41) := ⟨_, rfl⟩
  rw [← hw1] at hc0 hc1 hc2 hp0 hp1 hb1 ⊢
  have hsz : w.heap.size < w1.heap.size := by rw [hw1]; simp
  clear hw1
  go_region_held3 (fun w' => w'.cell? ⟨B0, 0, none⟩ = some (.int .i64 count) ∧ w'.cell? ⟨B0, 1, none⟩ = some (.slice (some ⟨gd, 0, none⟩) data.length data.length) ∧ w'.cell? ⟨B0, 2, none⟩ = some (.slice q ws.length m) ∧ w'.cell? ⟨w.heap.size, 0, none⟩ = some (.int .i64 s)) (go_keep)
    (first
      | (go_at_call 65; refine (has_any count s _ _ _).mono ?_; rintro e w2 ⟨rfl, ob, rfl⟩; rw [decide_eq_true hs])
      | fail)
  go_wp2
  go_ret
  exact ⟨rfl, (hb1.drew).alloc (by show _ ≤ w1.heap.size; omega) _⟩
set_option maxRecDepth 100000 in
set_option maxRecDepth 20000 in
set_option maxHeartbeats 2000000 in
theorem wait_many (base B0 gd : Nat) (count : Int) (data : List Nat) (q : Option Addr) (m : Nat) (ws : Puts) (gs : List Nat) (s : Int) (pk : Option Addr) (ck : Nat) (w : World) (hd : DiskOwn w base B0 gd count data q m ws gs) (hs : 0 ≤ s ∧ s < count) (hm : 4096 ≤ ws.length) :
    Calls Try.prog 48 #[.pointer (some ⟨B0, 0, none⟩), .agg #[.int .i64 s, .slice pk 128 ck]] w fun e w' => e = .returned (.int .i64 4) ∧ Below w.heap.size w w' := by
  have hlt := lt_heap hd.box
  obtain ⟨hc0, hc1, hc2⟩ := (hd.below (below_alloc w (.cells #[.int .i64 s, .slice pk 128 ck] 41))).cells
  obtain ⟨hp0, hp1⟩ := put_cells (Below.refl _ (w.alloc (.cells #[.int .i64 s, .slice pk 128 ck] 41)))
  have hb1 := below_alloc w (.cells #[.int .i64 s, .slice pk 128 ck] 41)
  clear hd
  go_enter Try.func48, Try.ntmps48
  go_wp2
  obtain ⟨w1, hw1⟩ : ∃ w1, w1 = w.alloc (.cells #[.int .i64 s, .slice pk 128 ck] 41) := ⟨_, rfl⟩
  rw [← hw1] at hc0 hc1 hc2 hp0 hp1 hb1 ⊢
  have hsz : w.heap.size < w1.heap.size := by rw [hw1]; simp
  clear hw1
  go_region_held3 (fun w' => w'.cell? ⟨B0, 0, none⟩ = some (.int .i64 count) ∧ w'.cell? ⟨B0, 1, none⟩ = some (.slice (some ⟨gd, 0, none⟩) data.length data.length) ∧ w'.cell? ⟨B0, 2, none⟩ = some (.slice q ws.length m) ∧ w'.cell? ⟨w.heap.size, 0, none⟩ = some (.int .i64 s)) (go_keep)
    (first
      | (go_at_call 65; refine (has_any count s _ _ _).mono ?_; rintro e w2 ⟨rfl, ob, rfl⟩; rw [decide_eq_true hs])
      | fail)
  go_wp2
  go_ret
  exact ⟨rfl, (hb1.drew).alloc (by show _ ≤ w1.heap.size; omega) _⟩
theorem DiskOwn.pushed {w3 w4 : World} {base B0 gd : Nat} {count : Int} {data : List Nat} {q : Option Addr} {m : Nat} {ws : Puts} {gs : List Nat} (h : DiskOwn w3 base B0 gd count data q m ws gs) {s : Int} {xs : List Nat} {g g' cap' : Nat} {o : Obj} (hx : xs.length = 128 ∧ ∀ c ∈ xs, c < 256) (hb : base ≤ g)
    (hg : w3.heap[g]? = some (.cells (Bs xs).toArray 5 (0, 0))) (hne : g ≠ gd) (hown : w4.ownsRow base 41 2 (.slice (some ⟨g', 0, none⟩) (ws.length + 1) cap') (ws.length + 1) (cellsP ws gs ++ [.int .i64 s, .slice (some ⟨g, 0, none⟩) 128 128])) (hgrow : (w3.alloc o).grownBy w4 (Value.slice q ws.length m).ownBlock)
    (hN2 : some B0 ≠ (Value.slice q ws.length m).ownBlock) :
    DiskOwn (w4.setCell ⟨B0, 2, none⟩ (.slice (some ⟨g', 0, none⟩) (ws.length + 1) cap')) base B0 gd count data (some ⟨g', 0, none⟩) cap' (ws ++ [(s, xs)]) (gs ++ [g]) := by
  have ha := h.below (below_alloc w3 o)
  have P4 := ha.puts.push hx hb (((below_alloc w3 o).block _ (lt_heap hg)).trans hg) hown hgrow
  have box4 := (hgrow.block _ (lt_heap ha.box) hN2).trans ha.box
  have d4 : w4.heap[gd]? = some (.cells (Bs data).toArray 5 (0, 0)) := by
    refine (hgrow.block _ (lt_heap ha.drow) ?_).trans ha.drow
    intro e
    rcases ha.puts.row.2 with ⟨hv, _⟩ | ⟨g1, cap, cur, hv, _, h3, _⟩
    · rw [hv] at e; simp [Value.ownBlock] at e
    · rw [hv] at e
      simp only [Value.ownBlock, Option.some.injEq] at e
      subst e
      rw [ha.drow] at h3
      simp at h3
  have hBne : ∀ (k : Nat) (cs : Array Value) (t : TypeId), t ≠ 25 → w4.heap[k]? = some (.cells cs t (0, 0)) → k ≠ B0 := by
    rintro k cs t ht hk rfl
    rw [box4] at hk
    simp only [Option.some.injEq, Obj.cells.injEq] at hk
    exact ht hk.2.1.symm
  refine ⟨?_, h.hB, h.hgd, ?_, ?_, ?_, h.bytes⟩
  · rw [heap_setCell_same w4 B0 2 _ _ _ box4]
    simp
  · rw [heap_setCell_other w4 ⟨B0, 2, none⟩ gd _ (hBne gd _ _ (by decide) d4)]
    exact d4
  · have e : (ws ++ [(s, xs)]).length = ws.length + 1 := by simp
    rw [e]
    exact P4.keep (fun k cur _ hk => heap_setCell_other w4 ⟨B0, 2, none⟩ k _ (hBne k _ _ (by decide) hk)) (fun i hi => heap_setCell_other w4 ⟨B0, 2, none⟩ _ _ (hBne _ _ _ (by decide) (P4.rows i hi).2))
  · intro i hi
    simp only [List.length_append, List.length_singleton] at hi
    rcases Nat.lt_or_ge i ws.length with h' | h'
    · have e1 : (gs ++ [g]).getD i 0 = gs.getD i 0 := by simp [List.getD, List.getElem?_append_left (show i < gs.length by rw [h.puts.len]; exact h')]
      rw [e1]
      exact h.apart i h'
    · obtain rfl : i = ws.length := by omega
      have e1 : (gs ++ [g]).getD ws.length 0 = g := by rw [← h.puts.len]; simp [List.getD]
      rw [e1]
      exact hne
theorem below_undrew {B : Nat} {w w' : World} (h : Below B w.drew w') : Below B w w' := ⟨h.os, h.tape, h.output, h.size, h.block⟩
theorem below_cell_some {w w' : World} {a : Addr} {v : Value} (hb : Below w.heap.size w w') (h : w.cell? a = some v) : w'.cell? a = some v := (hb.cell (World.block_lt_of_cell? _ _ h)).trans h
theorem c2_setCell {w1 : World} {B : Nat} {x y : Value} (h : w1.cell? ⟨B, 0, none⟩ = some x ∧ w1.cell? ⟨B, 1, none⟩ = some y) {a : Addr} (hne : B ≠ a.block) (v : Value) : (w1.setCell a v).cell? ⟨B, 0, none⟩ = some x ∧ (w1.setCell a v).cell? ⟨B, 1, none⟩ = some y :=
  ⟨(World.cell?_of_block (Below.heap_setCell w1 a v B hne)).trans h.1, (World.cell?_of_block (Below.heap_setCell w1 a v B hne)).trans h.2⟩
set_option maxRecDepth 100000 in
set_option maxRecDepth 20000 in
set_option maxHeartbeats 2000000 in
theorem wait_ok (base B0 gd : Nat) (count : Int) (data : List Nat) (q : Option Addr) (m : Nat) (ws : Puts) (gs : List Nat) (s : Int) (pk : Option Addr) (ck : Nat) (xs : List Nat) (w : World) (hd : DiskOwn w base B0 gd count data q m ws gs) (hs : 0 ≤ s ∧ s < count) (hx : xs.length = 128) (hm : ws.length < 4096) (hin : BIn w pk xs) (hbs : base ≤ w.heap.size) :
    Calls Try.prog 48 #[.pointer (some ⟨B0, 0, none⟩), .agg #[.int .i64 s, .slice pk 128 ck]] w fun e w' => e = .returned (.int .i64 0) ∧ (∃ q' m' gs', DiskOwn w' base B0 gd count data q' m' (ws ++ [(s, xs)]) gs') ∧ Below base w w' := by
  have HX : Hid (xs.length = 128) := hx
  clear hx
  have hlt := lt_heap hd.box
  obtain ⟨hc0, hc1, hc2⟩ := (hd.below (below_alloc w (.cells #[.int .i64 s, .slice pk 128 ck] 41))).cells
  obtain ⟨hp0, hp1⟩ := put_cells (Below.refl _ (w.alloc (.cells #[.int .i64 s, .slice pk 128 ck] 41)))
  have hb1 := below_alloc w (.cells #[.int .i64 s, .slice pk 128 ck] 41)
  have HD : Hid _ := hd
  have HI : Hid (BIn w pk xs) := hin
  clear hd hin
  obtain ⟨i0, hi, hz0, hz1, hz2⟩ := info_parts info_put
  go_enter Try.func48, Try.ntmps48
  go_wp2
  obtain ⟨w1, hw1⟩ : ∃ w1, w1 = w.alloc (.cells #[.int .i64 s, .slice pk 128 ck] 41) := ⟨_, rfl⟩
  rw [← hw1] at hc0 hc1 hc2 hp0 hp1 hb1 ⊢
  have hsz : w.heap.size < w1.heap.size := by rw [hw1]; simp
  clear hw1
  go_region_held3 (fun w' => w'.cell? ⟨B0, 0, none⟩ = some (.int .i64 count) ∧ w'.cell? ⟨B0, 1, none⟩ = some (.slice (some ⟨gd, 0, none⟩) data.length data.length) ∧ w'.cell? ⟨B0, 2, none⟩ = some (.slice q ws.length m) ∧ w'.cell? ⟨w.heap.size, 0, none⟩ = some (.int .i64 s)) (go_keep)
    (first
      | (go_at_call 65; refine (has_any count s _ _ _).mono ?_; rintro e w2 ⟨rfl, ob, rfl⟩; rw [decide_eq_true hs])
      | fail)
  go_wp2
  have hd2 : Hid (DiskOwn (w1.alloc ob).drew base B0 gd count data q m ws gs) := by
    have h := (HD.out.below hb1).below (below_alloc w1 ob)
    exact ⟨h.box, h.hB, h.hgd, h.drow, h.puts.below ⟨rfl, rfl, rfl, Nat.le_refl _, fun _ _ => rfl⟩, h.apart, h.bytes⟩
  have hbb2 : Below w.heap.size w (w1.alloc ob).drew := (hb1.alloc (by omega) ob).drew
  have hin2 : Hid (BIn (w1.alloc ob).drew pk xs) := HI.out.below hbb2
  have HC' : Hid ((w1.alloc ob).drew.cell? ⟨w.heap.size, 0, none⟩ = some (.int .i64 s) ∧ (w1.alloc ob).drew.cell? ⟨w.heap.size, 1, none⟩ = some (.slice pk 128 ck)) := c2_alloc ⟨hp0, hp1⟩ ob
  have hsz2 : w.heap.size < (w1.alloc ob).drew.heap.size := by show _ < (w1.alloc ob).heap.size; rw [World.size_alloc]; omega
  clear hp0 hp1 hc0 hc1 hc2 hb1
  generalize (w1.alloc ob).drew = w2 at *
  have HC := HC'.out
  have hc2 := hd2.out.cells.2.2
  have HN : Hid (some w.heap.size ≠ (Value.slice q ws.length m).ownBlock) := by
    intro e
    have := (HD.out.puts.row.lt _ e.symm).2
    omega
  have HN2 : Hid (some B0 ≠ (Value.slice q ws.length m).ownBlock) := by
    intro e
    have h1 := HD.out.box
    rcases HD.out.puts.row.2 with ⟨hv, _⟩ | ⟨g', cap, cur, hv, _, h3, _⟩
    · rw [hv] at e; simp [Value.ownBlock] at e
    · rw [hv] at e
      simp only [Value.ownBlock, Option.some.injEq] at e
      subst e
      rw [h1] at h3
      simp at h3
  refine wp_region_noPanic ?_
  have HT : w2.drew.cell? ⟨w.heap.size, 0, none⟩ = some (.int .i64 s) ∧ w2.drew.cell? ⟨w.heap.size, 1, none⟩ = some (.slice pk 128 ck) := HC
  have HS : w2.drew.cell? ⟨B0, 2, none⟩ = some (.slice q ws.length m) := hc2
  clear HC hc2
  refine beginZ (T := fun w' => w'.cell? ⟨w.heap.size, 0, none⟩ = some (.int .i64 s) ∧ w'.cell? ⟨w.heap.size, 1, none⟩ = some (.slice pk 128 ck)) (S := fun w' => w'.cell? ⟨B0, 2, none⟩ = some (.slice q ws.length m)) 15 (by kernel_rfl) ?_
  refine takeT 0 22 (v := ?_) rfl rfl (by kernel_rfl) (by kernel_rfl) (by kernel_rfl) (by kernel_rfl) (fun _ _ _ h => h) (by rfl) ?_ (by assumption) (by assumption) ?_
  rotate_left
  · intro w hTw; go_simp; first | done | with_reducible rfl
  simp only [Act.put, List.setIfInBounds_toArray, List.set_cons_zero, List.set_cons_succ]
  refine takeT 1 23 (v := ?_) rfl rfl (by kernel_rfl) (by kernel_rfl) (by kernel_rfl) (by kernel_rfl) (fun _ _ _ h => h) (by rfl) ?_ (by assumption) (by assumption) ?_
  rotate_left
  · intro w hTw; go_simp; first | done | with_reducible rfl
  simp only [Act.put, List.setIfInBounds_toArray, List.set_cons_zero, List.set_cons_succ]
  refine takeT 2 24 (v := ?_) rfl rfl (by kernel_rfl) (by kernel_rfl) (by kernel_rfl) (by kernel_rfl) (fun _ _ _ h => h) (by rfl) ?_ (by assumption) (by assumption) ?_
  rotate_left
  · intro w hTw; go_simp; first | done | with_reducible rfl
  simp only [Act.put, List.setIfInBounds_toArray, List.set_cons_zero, List.set_cons_succ]
  refine takeT 3 25 (v := ?_) rfl rfl (by kernel_rfl) (by kernel_rfl) (by kernel_rfl) (by kernel_rfl) (fun _ _ _ h => h) (by rfl) ?_ (by assumption) (by assumption) ?_
  rotate_left
  · intro w hTw; go_simp; first | done | with_reducible rfl
  simp only [Act.put, List.setIfInBounds_toArray, List.set_cons_zero, List.set_cons_succ]
  refine takeZ 4 26 12 (v := ?_) rfl rfl (by kernel_rfl) (by kernel_rfl) (by kernel_rfl) (by kernel_rfl) (by kernel_rfl) (by kernel_rfl) (by kernel_rfl) (fun _ _ _ h => h) (by rfl) ?_ (by assumption) (by assumption) ?_
  rotate_left
  · intro w hTw hSw; go_simp; first | done | with_reducible rfl
  simp only [Act.put, List.setIfInBounds_toArray, List.set_cons_zero, List.set_cons_succ]
  refine takeT 5 27 (v := ?_) rfl rfl (by kernel_rfl) (by kernel_rfl) (by kernel_rfl) (by kernel_rfl) (fun _ _ _ h => h) (by rfl) ?_ (by assumption) (by assumption) ?_
  rotate_left
  · intro w hTw; go_simp; first | done | with_reducible rfl
  simp only [Act.put, List.setIfInBounds_toArray, List.set_cons_zero, List.set_cons_succ]
  refine takeT 6 28 (v := ?_) rfl rfl (by kernel_rfl) (by kernel_rfl) (by kernel_rfl) (by kernel_rfl) (fun _ _ _ h => h) (by rfl) ?_ (by assumption) (by assumption) ?_
  rotate_left
  · intro w hTw; go_simp; first | done | with_reducible rfl
  simp only [Act.put, List.setIfInBounds_toArray, List.set_cons_zero, List.set_cons_succ]
  refine takeT 7 29 (v := ?_) rfl rfl (by kernel_rfl) (by kernel_rfl) (by kernel_rfl) (by kernel_rfl) (fun _ _ _ h => h) (by rfl) ?_ (by assumption) (by assumption) ?_
  rotate_left
  · intro w hTw; go_simp; first | done | with_reducible rfl
  simp only [Act.put, List.setIfInBounds_toArray, List.set_cons_zero, List.set_cons_succ]
  refine takeT 8 30 (v := ?_) rfl rfl (by kernel_rfl) (by kernel_rfl) (by kernel_rfl) (by kernel_rfl) (fun _ _ _ h => h) (by rfl) ?_ (by assumption) (by assumption) ?_
  rotate_left
  · intro w hTw; go_simp; first | done | with_reducible rfl
  simp only [Act.put, List.setIfInBounds_toArray, List.set_cons_zero, List.set_cons_succ]
  refine oneZ 9 (by kernel_rfl) rfl (by rfl) (fun K hK => ?_)
  go_simp
  refine (copyOf_any pk ck xs w2.drew (show BIn w2.drew pk xs from hin2.out) HX.out).mono ?_
  rintro e w3 ⟨g, rfl, hg1, hg2, hb3⟩
  have hc3 := below_cell_some hb3 HS
  have hT3 := c2_below HC'.out hb3
  go_simp
  refine hK.out _ _ hT3 hc3 (fun hTx hSx => ?_)
  clear hK K hT3 hc3 HT HS
  refine takeT 10 32 (v := ?_) rfl rfl (by kernel_rfl) (by kernel_rfl) (by kernel_rfl) (by kernel_rfl) (fun _ _ _ h => h) (by rfl) ?_ (by assumption) (by assumption) ?_
  rotate_left
  · intro w hTw; go_simp; first | done | with_reducible rfl
  simp only [Act.put, List.setIfInBounds_toArray, List.set_cons_zero, List.set_cons_succ]
  refine oneZ 11 (by kernel_rfl) rfl (by rfl) (fun K hK => ?_)
  go_simp
  refine hK.out _ _ (c2_alloc hTx _) (below_cell_some (below_alloc w3 _) hSx) (fun hTy hSy => ?_)
  clear hK K hTx hSx
  refine oneZ 12 (by kernel_rfl) rfl (by rfl) (fun K hK => ?_)
  refine step_append_lies _ (by rfl) (.tmp 26) (.tmp 33) 23 (by rfl) base 41 i0 _ 2 32 Try.underlying23 hi hz0 hz1 hz2 rfl (by omega) (.slice q ws.length m) ws.length (cellsP ws gs) (by rfl) ((hd2.out.puts.below (below_undrew hb3)).row.alloc _) ⟨w3.heap.size, 0, none⟩ 1 1 [.int .i64 s, .slice (some ⟨g, 0, none⟩) 128 128] (by rfl) (by rfl) (World.news_of_block (cs := #[.int .i64 s, .slice (some ⟨g, 0, none⟩) 128 128]) (t := 41) (fr := (0, 0)) (heap_alloc_new w3 _)) (two_oneCell _ _ _ _) (by omega) (by unfold maxLen; omega) (by omega) (by have := hb3.size; have := hbb2.size; rw [World.size_alloc]; simp at *; omega) (w3.heap.size + 1) (by simp) ?_
  intro g' cap' w4 hown4 hgrow hat hlt4
  refine hK.out _ _ (c2_grown hTy hgrow HN.out) (hgrow.cell hSy HN2.out) (fun hTx hSx => ?_)
  clear hK K hTy hSy hat hlt4
  show wpAnyZ _ _ _ _ _ _ _ _ _ (Act.put _ (some 34) _) _
  simp only [Act.put, List.setIfInBounds_toArray, List.set_cons_zero, List.set_cons_succ]
  refine takeT 13 35 (v := ?_) rfl rfl (by kernel_rfl) (by kernel_rfl) (by kernel_rfl) (by kernel_rfl) (fun _ _ _ h => h) (by rfl) ?_ (by assumption) (by assumption) ?_
  rotate_left
  · intro w hTw; go_simp; first | done | with_reducible rfl
  simp only [Act.put, List.setIfInBounds_toArray, List.set_cons_zero, List.set_cons_succ]
  refine takeT 14 36 (v := ?_) rfl rfl (by kernel_rfl) (by kernel_rfl) (by kernel_rfl) (by kernel_rfl) (fun _ _ _ h => h) (by rfl) ?_ (by assumption) (by assumption) ?_
  rotate_left
  · intro w hTw; go_simp; first | done | with_reducible rfl
  simp only [Act.put, List.setIfInBounds_toArray, List.set_cons_zero, List.set_cons_succ]
  have hbox4 := (hgrow.block _ (by rw [World.size_alloc]; have := hb3.size; have := hsz2; show B0 < _; simp at *; omega) HN2.out).trans (((below_alloc w3 (.cells #[.int .i64 s, .slice (some ⟨g, 0, none⟩) 128 128] 41)).block _ (lt_heap ((hb3.block _ (lt_heap hd2.out.box)).trans hd2.out.box))).trans ((hb3.block _ (lt_heap hd2.out.box)).trans hd2.out.box))
  have hfr := frozen_of_row w4 B0 2 _ _ hbox4
  have HBX : Hid _ := hbox4
  clear hbox4
  refine lastZ (by kernel_rfl) rfl (by rfl) (fun K hK => ?_)
  go_simp
  refine hK.out _ _ (c2_setCell hTx (by simp; omega) _) ?_
  clear hK K
  refine doneZ (by kernel_rfl) (NoPanic.normal ?_) _
  go_wp2
  go_ret
  have hd3 := hd2.out.below (below_undrew hb3)
  have z2 := hbb2.size
  have z3 : w2.heap.size ≤ w3.heap.size := hb3.size
  refine ⟨rfl, ⟨_, _, _, hd3.pushed ⟨HX.out, HI.out.2⟩ (Nat.le_trans (show base ≤ w2.heap.size by omega) hg1) hg2 ?_ hown4 hgrow HN2.out⟩, ?_⟩
  · have := lt_heap hd2.out.drow
    have : w2.heap.size ≤ g := hg1
    omega
  · have b3 : Below base w w3 := (hbb2.mono hbs).trans ((below_undrew hb3).mono (show base ≤ w2.heap.size by omega))
    exact ((b3.alloc (by omega) _).grown hgrow (by rw [World.size_alloc]; omega) (fun x hx => (hd3.puts.row.lt x hx).1)).setCell HD.out.hB _
end Go.Proofs.Ytnajjfdbmdjcbaa
namespace Go.Proofs.Ytnajjfdbmdjcbaa
open Go.RowKit Go.WideShapes

/-- A disk of the call's own, by value. -/
structure DiskNew (w : World) (base : Nat) (v : Value) (count : Int) (data : List Nat) (ws : Puts) : Prop where
  lies : ∃ gd q m gs, v = .agg #[.int .i64 count, .slice (some ⟨gd, 0, none⟩) data.length data.length, .slice q ws.length m] ∧ base ≤ gd ∧ w.heap[gd]? = some (.cells (Bs data).toArray 5 (0, 0)) ∧ PutsOwn w base (.slice q ws.length m) ws gs ∧ (∀ i, i < ws.length → gs.getD i 0 ≠ gd)
  bytes : ∀ c ∈ data, c < 256
theorem i64_wf {n : Int} (h1 : -9223372036854775808 ≤ n) (h2 : n ≤ 9223372036854775807) : (Lit.int .i64 n).wf = true := by
  simp [Lit.wf, IntKind.min, IntKind.max, IntKind.signed, IntKind.bits]; omega
theorem DiskNew.toIn {w : World} {base : Nat} {v : Value} {count : Int} {data : List Nat} {ws : Puts} (h : DiskNew w base v count data ws) (ho : Okay count data ws) : DiskIn w v count data ws := by
  obtain ⟨gd, q, m, gs, rfl, _, h2, h3, _⟩ := h.lies
  obtain ⟨_, g2, g3, g4, g5⟩ := h3.lies
  have h1 := ho.lo
  have h2' := ho.hi
  have hl := ho.len
  refine ⟨⟨_, q, m, rfl, ⟨some ⟨gd, 0, none⟩, data.length, rfl, bin_row h2 h.bytes, Nat.le_refl _, by unfold maxLen; omega, fun h => by cases h⟩, g2, g3, g4, g5⟩, i64_wf (by omega) (by omega), fun y hy => ?_⟩
  have := ho.each y hy
  exact i64_wf (by omega) (by omega)

/-- Three cells stored over a block of three. -/
theorem set3_other (w : World) (B k : Nat) (a b c : Value) (h : k ≠ B) : (((w.setCell ⟨B, 0, none⟩ a).setCell ⟨B, 1, none⟩ b).setCell ⟨B, 2, none⟩ c).heap[k]? = w.heap[k]? := by
  rw [heap_setCell_other _ ⟨B, 2, none⟩ k _ h, heap_setCell_other _ ⟨B, 1, none⟩ k _ h, heap_setCell_other _ ⟨B, 0, none⟩ k _ h]
theorem set3_same (w : World) (B : Nat) (x y z a b c : Value) (t : TypeId) (h : w.heap[B]? = some (.cells #[x, y, z] t (0, 0))) : (((w.setCell ⟨B, 0, none⟩ a).setCell ⟨B, 1, none⟩ b).setCell ⟨B, 2, none⟩ c).heap[B]? = some (.cells #[a, b, c] t (0, 0)) := by
  have e0 := heap_setCell_same w B 0 _ _ a h
  have e1 := heap_setCell_same _ B 1 _ _ b e0
  have e2 := heap_setCell_same _ B 2 _ _ c e1
  rw [e2]; rfl
theorem set3_below {base B : Nat} {w0 w : World} (h : Below base w0 w) (hB : base ≤ B) (a b c : Value) : Below base w0 (((w.setCell ⟨B, 0, none⟩ a).setCell ⟨B, 1, none⟩ b).setCell ⟨B, 2, none⟩ c) :=
  ((h.setCell (p := ⟨B, 0, none⟩) hB a).setCell (p := ⟨B, 1, none⟩) hB b).setCell (p := ⟨B, 2, none⟩) hB c
theorem DiskNew.keep {w w' : World} {base : Nat} {v : Value} {count : Int} {data : List Nat} {ws : Puts} (h : DiskNew w base v count data ws) (hk : ∀ (k : Nat) (cs : Array Value) (t : TypeId), t = 5 ∨ t = 41 → w.heap[k]? = some (.cells cs t (0, 0)) → w'.heap[k]? = w.heap[k]?) : DiskNew w' base v count data ws := by
  obtain ⟨gd, q, m, gs, h1, h2, h3, h4, h5⟩ := h.lies
  exact ⟨⟨gd, q, m, gs, h1, h2, (hk _ _ _ (.inl rfl) h3).trans h3, h4.keep (fun g cur _ e => hk _ _ _ (.inr rfl) e) (fun i hi => hk _ _ _ (.inl rfl) (h4.rows i hi).2), h5⟩, h.bytes⟩
theorem DiskNew.below {w w' : World} {base : Nat} {v : Value} {count : Int} {data : List Nat} {ws : Puts} (h : DiskNew w base v count data ws) (hb : Below w.heap.size w w') : DiskNew w' base v count data ws :=
  h.keep fun k _ _ _ e => hb.block k (lt_heap e)
theorem DiskNew.mono {w : World} {base base' : Nat} {v : Value} {count : Int} {data : List Nat} {ws : Puts} (h : DiskNew w base v count data ws) (hb : base' ≤ base) : DiskNew w base' v count data ws := by
  obtain ⟨gd, q, m, gs, h1, h2, h3, h4, h5⟩ := h.lies
  exact ⟨⟨gd, q, m, gs, h1, Nat.le_trans hb h2, h3, h4.mono hb, h5⟩, h.bytes⟩
theorem DiskNew.set3 {w : World} {base B : Nat} {v : Value} {count : Int} {data : List Nat} {ws : Puts} {cs : Array Value} (h : DiskNew w base v count data ws) (hB : w.heap[B]? = some (.cells cs 25 (0, 0))) (a b c : Value) :
    DiskNew (((w.setCell ⟨B, 0, none⟩ a).setCell ⟨B, 1, none⟩ b).setCell ⟨B, 2, none⟩ c) base v count data ws := by
  refine h.keep fun k cs' t ht e => set3_other w B k a b c ?_
  rintro rfl
  rw [hB] at e
  simp only [Option.some.injEq, Obj.cells.injEq] at e
  rcases ht with rfl | rfl
  · exact absurd e.2.1 (by decide)
  · exact absurd e.2.1 (by decide)
theorem box_block {w wr : World} {o : Obj} (h : Below (w.heap.size + 1) (w.alloc o) wr) : wr.heap[w.heap.size]? = some o := (h.block _ (by omega)).trans (heap_alloc_new w _)
theorem box_free {w wr : World} {a b c : Value} {t : TypeId} (h : Below (w.heap.size + 1) (w.alloc (.cells #[a, b, c] t)) wr) :
    wr.frozen? ⟨w.heap.size, 0, none⟩ = false ∧ wr.frozen? ⟨w.heap.size, 1, none⟩ = false ∧ wr.frozen? ⟨w.heap.size, 2, none⟩ = false := by
  have hh : wr.heap[w.heap.size]? = some (.cells #[a, b, c] t (0, 0)) := (h.block _ (by omega)).trans (heap_alloc_new w _)
  exact ⟨frozen_of_row _ _ _ _ _ hh, frozen_of_row _ _ _ _ _ hh, frozen_of_row _ _ _ _ _ hh⟩
set_option maxRecDepth 100000 in
set_option maxRecDepth 20000 in
set_option maxHeartbeats 400000 in
theorem new_bad (count : Int) (w : World) (h : ¬ (1 ≤ count ∧ count ≤ 4096)) :
    Calls Try.prog 9 #[.int .i64 count] w fun e w' => e = .returned (.tuple #[.agg #[.int .i64 0, .slice none 0 0, .slice none 0 0], .int .i64 20]) ∧ Below w.heap.size w w' := by
  go_enter Try.func9, Try.ntmps9
  go_wp2_with (go_at_call 35; refine (mayCount_any count _).mono ?_; rintro e w1 ⟨rfl, rfl⟩; rw [decide_eq_false h])
  (try simp only [Exit.inBlock, Exit.then])
  refine bodyPost_ret (v := .tuple #[.agg #[.int .i64 0, .slice none 0 0, .slice none 0 0], .int .i64 20]) ?_ rfl ⟨rfl, below_alloc _ _⟩
  rw [results_cell_tmp rfl]
  go_simp
set_option maxRecDepth 100000 in
set_option maxRecDepth 20000 in
set_option maxHeartbeats 400000 in
theorem new_ok (n : Nat) (w : World) (h1 : 1 ≤ n) (h2 : n ≤ 4096) :
    Calls Try.prog 9 #[.int .i64 n] w fun e w' => ∃ v, e = .returned (.tuple #[v, .int .i64 0]) ∧ DiskNew w' w.heap.size v n (List.replicate (n * 128) 0) [] ∧ Below w.heap.size w w' := by
  obtain ⟨i0, hi, hz0, hz1, hz2⟩ := info_parts info_u8
  have h : 1 ≤ (n : Int) ∧ (n : Int) ≤ 4096 := by omega
  go_enter Try.func9, Try.ntmps9
  go_wp2_with (first | (go_at_call 35; refine (mayCount_any n _).mono ?_; rintro e w1 ⟨rfl, rfl⟩; rw [decide_eq_true h]) | (at_make; refine wpList_make_full _ rfl _ _ 22 rfl (w.heap.size + 1) 5 i0 (.int .u8 0) 1 Try.underlying22 hi hz0 hz1 .i64 .i64 _ _ (n * 128) rfl rfl (by omega) (by omega) (by rw [hz2]; omega) (by unfold maxLen; omega) (by simp) ?_))
  intro w1 hown hgrow
  have hrow := row_full hown
  rw [zeros_madeD] at hrow
  have hb1 : Below (w.heap.size + 1) (w.alloc (.cells #[.int .i64 0, .slice none 0 0, .slice none 0 0] 25)) w1 := (Below.refl _ _).grown hgrow (by simp) (fun k hk => by cases hk)
  obtain ⟨c0, c1, c2⟩ := box_cells hb1
  obtain ⟨f0, f1, f2⟩ := box_free hb1
  have HR : Hid _ := hrow
  clear hown hgrow hrow
  go_wp2
  (try simp only [Exit.inBlock, Exit.then])
  refine bodyPost_ret (v := .tuple #[.agg #[.int .i64 n, .slice (some ⟨w.heap.size + 1, 0, none⟩) (n * 128) (n * 128), .slice none 0 0], .int .i64 0]) ?_ rfl ⟨_, rfl, ?_, ?_⟩
  · rw [results_cell_tmp rfl]
    go_simp
  · refine DiskNew.set3 ?_ (box_block hb1) _ _ _
    refine ⟨⟨w.heap.size + 1, none, 0, [], by simp, by omega, HR.out, putsOwn_nil _ _, fun i hi => absurd hi (by simp)⟩, ?_⟩
    intro c hc
    rw [(List.mem_replicate.1 hc).2]
    decide
  · exact set3_below (box_below hb1) (Nat.le_refl _) _ _ _
end Go.Proofs.Ytnajjfdbmdjcbaa
namespace Go.Proofs.Ytnajjfdbmdjcbaa
open Go.RowKit Go.WideShapes
attribute [local go_sem ↓] Go.wp_at_zero Go.wp_at_succ

/-- No disk at all. -/
abbrev zeroDisk : Value := .agg #[.int .i64 0, .slice none 0 0, .slice none 0 0]
theorem box2_cells {w wr : World} {a b c a' b' c' : Value} {t t' : TypeId} (h : Below (w.heap.size + 2) ((w.alloc (.cells #[a, b, c] t)).alloc (.cells #[a', b', c'] t')) wr) :
    wr.heap[w.heap.size]? = some (.cells #[a, b, c] t (0, 0)) ∧ wr.heap[w.heap.size + 1]? = some (.cells #[a', b', c'] t' (0, 0)) :=
  ⟨(h.block _ (by omega)).trans (heap_alloc2_old w _ _), (h.block _ (by omega)).trans (heap_alloc2_new w _ _)⟩
theorem box2_below {w wr : World} {o o' : Obj} (h : Below (w.heap.size + 2) ((w.alloc o).alloc o') wr) : Below w.heap.size w wr := ((below_alloc w o).alloc (by simp) o').trans (h.mono (by omega))
theorem box2_size {w wr : World} {o o' : Obj} (h : Below (w.heap.size + 2) ((w.alloc o).alloc o') wr) : w.heap.size + 2 ≤ wr.heap.size := by
  have := h.size
  simp at this
  omega
theorem cells3 {w : World} {B : Nat} {a b c : Value} {t : TypeId} (h : w.heap[B]? = some (.cells #[a, b, c] t (0, 0))) : w.cell? ⟨B, 0, none⟩ = some a ∧ w.cell? ⟨B, 1, none⟩ = some b ∧ w.cell? ⟨B, 2, none⟩ = some c :=
  ⟨cell_of_row _ _ _ _ _ _ h, cell_of_row _ _ _ _ _ _ h, cell_of_row _ _ _ _ _ _ h⟩
theorem free3 {w : World} {B : Nat} {a b c : Value} {t : TypeId} (h : w.heap[B]? = some (.cells #[a, b, c] t (0, 0))) : w.frozen? ⟨B, 0, none⟩ = false ∧ w.frozen? ⟨B, 1, none⟩ = false ∧ w.frozen? ⟨B, 2, none⟩ = false :=
  ⟨frozen_of_row _ _ _ _ _ h, frozen_of_row _ _ _ _ _ h, frozen_of_row _ _ _ _ _ h⟩

set_option maxRecDepth 20000 in
set_option maxHeartbeats 1000000 in
theorem do_bad (v l : Value) (count : Int) (data : List Nat) (ws : Puts) (w : World) (hd : DiskIn w v count data ws) (ho : ¬ Okay count data ws) :
    Calls Try.prog 15 #[v, l] w fun e w' => e = .returned (.tuple #[zeroDisk, .int .i64 20]) ∧ Below w.heap.size w w' := by
  obtain ⟨p, c, q, m, rfl, _⟩ := hd.parts
  have HD : Hid _ := hd
  clear hd
  go_enter Try.func15, Try.ntmps15
  go_wp2_with fail
  refine (check_bad _ count data ws _ (HD.out.below ((below_alloc w _).alloc (by simp) _)) ho).mono ?_
  rintro e w1 ⟨rfl, hb1⟩
  replace hb1 : Below (w.heap.size + 2) ((w.alloc (.cells #[.int .i64 count, .slice p data.length c, .slice q ws.length m] 25)).alloc (.cells #[.int .i64 0, .slice none 0 0, .slice none 0 0] 25)) w1 := by simpa using hb1
  obtain ⟨hB, hR⟩ := box2_cells hb1
  obtain ⟨c0, c1, c2⟩ := cells3 hR
  obtain ⟨f0, f1, f2⟩ := free3 hR
  clear hB hR
  go_wp2
  (try simp only [Exit.inBlock, Exit.then])
  refine bodyPost_ret (v := .tuple #[zeroDisk, .int .i64 20]) ?_ rfl ⟨rfl, ?_⟩
  · rw [results_cell_tmp rfl]
    go_simp
  · exact set3_below (box2_below hb1) (by omega) _ _ _

theorem keepS {W w1 w2 : World} {B H : Nat} {x y z : Value} (hz : B ≤ W.heap.size) (h : (w1.cell? ⟨H, 0, none⟩ = some x ∧ w1.cell? ⟨H, 1, none⟩ = some y ∧ w1.cell? ⟨H, 2, none⟩ = some z) ∧ Hid (Below B W w1)) (hb : Below w1.heap.size w1 w2) :
    (w2.cell? ⟨H, 0, none⟩ = some x ∧ w2.cell? ⟨H, 1, none⟩ = some y ∧ w2.cell? ⟨H, 2, none⟩ = some z) ∧ Hid (Below B W w2) :=
  ⟨⟨below_cell_some hb h.1.1, below_cell_some hb h.1.2.1, below_cell_some hb h.1.2.2⟩, h.2.out.trans (hb.mono (Nat.le_trans hz h.2.out.size))⟩
theorem keepA {W w1 : World} {B H : Nat} {x y z : Value} (hz : B ≤ W.heap.size) (h : (w1.cell? ⟨H, 0, none⟩ = some x ∧ w1.cell? ⟨H, 1, none⟩ = some y ∧ w1.cell? ⟨H, 2, none⟩ = some z) ∧ Hid (Below B W w1)) (o : Obj) :
    ((w1.alloc o).cell? ⟨H, 0, none⟩ = some x ∧ (w1.alloc o).cell? ⟨H, 1, none⟩ = some y ∧ (w1.alloc o).cell? ⟨H, 2, none⟩ = some z) ∧ Hid (Below B W (w1.alloc o)) :=
  keepS hz h (below_alloc w1 o)
theorem alloc_carry {X w2 : World} {a b c : Value} {t : TypeId} (h : Below (X.alloc (.cells #[a, b, c] t)).heap.size (X.alloc (.cells #[a, b, c] t)) w2) : w2.heap[X.heap.size]? = some (.cells #[a, b, c] t (0, 0)) :=
  (h.block _ (by simp)).trans (heap_alloc_new X _)
theorem keep3 {W w1 : World} {B H : Nat} {x y z : Value} (h : (w1.cell? ⟨H, 0, none⟩ = some x ∧ w1.cell? ⟨H, 1, none⟩ = some y ∧ w1.cell? ⟨H, 2, none⟩ = some z) ∧ Hid (Below B W w1)) {G : Nat} (hG : H ≠ G ∧ B ≤ G) (a b c : Value) :
    ((((w1.setCell ⟨G, 0, none⟩ a).setCell ⟨G, 1, none⟩ b).setCell ⟨G, 2, none⟩ c).cell? ⟨H, 0, none⟩ = some x ∧ (((w1.setCell ⟨G, 0, none⟩ a).setCell ⟨G, 1, none⟩ b).setCell ⟨G, 2, none⟩ c).cell? ⟨H, 1, none⟩ = some y ∧ (((w1.setCell ⟨G, 0, none⟩ a).setCell ⟨G, 1, none⟩ b).setCell ⟨G, 2, none⟩ c).cell? ⟨H, 2, none⟩ = some z) ∧ Hid (Below B W (((w1.setCell ⟨G, 0, none⟩ a).setCell ⟨G, 1, none⟩ b).setCell ⟨G, 2, none⟩ c)) :=
  have e := set3_other w1 G H a b c hG.1
  ⟨⟨(World.cell?_of_block e).trans h.1.1, (World.cell?_of_block e).trans h.1.2.1, (World.cell?_of_block e).trans h.1.2.2⟩, set3_below h.2.out hG.2 _ _ _⟩
theorem apart_after {w : World} {base gd : Nat} {v : Value} {ws : Puts} {gs : List Nat} (h : PutsOwn w base v ws gs) (hg : gd < base) : ∀ i, i < ws.length → gs.getD i 0 ≠ gd := fun i hi e => by
  have := (h.rows i hi).1
  omega
theorem apart_before {w : World} {base gd : Nat} {v : Value} {ws : Puts} {gs : List Nat} (h : PutsOwn w base v ws gs) (hg : w.heap.size ≤ gd) : ∀ i, i < ws.length → gs.getD i 0 ≠ gd := fun i hi e => by
  have := lt_heap (h.rows i hi).2
  omega
theorem own_alloc {Y : World} {base gd : Nat} {count : Int} {data : List Nat} {q : Option Addr} {m : Nat} {ws : Puts} {gs : List Nat} (hg : Y.heap[gd]? = some (.cells (Bs data).toArray 5 (0, 0))) (hgb : base ≤ gd) (hp : PutsOwn Y base (.slice q ws.length m) ws gs) (ha : ∀ i, i < ws.length → gs.getD i 0 ≠ gd) (hby : ∀ c ∈ data, c < 256) (hbase : base ≤ Y.heap.size) :
    DiskOwn (Y.alloc (.cells #[.int .i64 count, .slice (some ⟨gd, 0, none⟩) data.length data.length, .slice q ws.length m] 25)) base Y.heap.size gd count data q m ws gs :=
  ⟨heap_alloc_new Y _, hbase, hgb, ((below_alloc Y _).block _ (lt_heap hg)).trans hg, hp.below (below_alloc Y _), ha, hby⟩
theorem own_set3 {Y : World} {base B0 gd : Nat} {x y z : Value} {count : Int} {data : List Nat} {q : Option Addr} {m : Nat} {ws : Puts} {gs : List Nat} (hB : Y.heap[B0]? = some (.cells #[x, y, z] 25 (0, 0))) (hBb : base ≤ B0) (hg : Y.heap[gd]? = some (.cells (Bs data).toArray 5 (0, 0))) (hgb : base ≤ gd) (hp : PutsOwn Y base (.slice q ws.length m) ws gs) (ha : ∀ i, i < ws.length → gs.getD i 0 ≠ gd) (hby : ∀ c ∈ data, c < 256) :
    DiskOwn (((Y.setCell ⟨B0, 0, none⟩ (.int .i64 count)).setCell ⟨B0, 1, none⟩ (.slice (some ⟨gd, 0, none⟩) data.length data.length)).setCell ⟨B0, 2, none⟩ (.slice q ws.length m)) base B0 gd count data q m ws gs := by
  have hne : ∀ (k : Nat) (cs : Array Value) (t : TypeId), t ≠ 25 → Y.heap[k]? = some (.cells cs t (0, 0)) → k ≠ B0 := by
    rintro k cs t ht hk rfl
    rw [hB] at hk
    simp only [Option.some.injEq, Obj.cells.injEq] at hk
    exact ht hk.2.1.symm
  exact ⟨set3_same Y B0 _ _ _ _ _ _ _ hB, hBb, hgb, (set3_other Y B0 gd _ _ _ (hne _ _ _ (by decide) hg)).trans hg, hp.keep (fun k cur _ hk => set3_other Y B0 k _ _ _ (hne _ _ _ (by decide) hk)) (fun i hi => set3_other Y B0 _ _ _ _ (hne _ _ _ (by decide) (hp.rows i hi).2)), ha, hby⟩
theorem DiskOwn.toNew {w : World} {base B0 gd : Nat} {count : Int} {data : List Nat} {q : Option Addr} {m : Nat} {ws : Puts} {gs : List Nat} (h : DiskOwn w base B0 gd count data q m ws gs) : DiskNew w base (.agg #[.int .i64 count, .slice (some ⟨gd, 0, none⟩) data.length data.length, .slice q ws.length m]) count data ws :=
  ⟨⟨gd, q, m, gs, rfl, h.hgd, h.drow, h.puts, h.apart⟩, h.bytes⟩
theorem ActsIn.addr {w : World} {q : Option Addr} {l : Acts} (h : ActsIn w q l) (hw : 0 < l.length) : ∃ b o, q = some ⟨b, o, none⟩ := by
  obtain ⟨b, o, e, _⟩ := h hw
  exact ⟨b, o, e⟩
theorem ActsIn.at {w : World} {b o : Nat} {l : Acts} (h : ActsIn w (some ⟨b, o, none⟩) l) {k : Nat} (hk : k < l.length) :
    w.cell? ⟨b, o + k * 3, none⟩ = some (.bool (l.getD k (false, 0, [])).1) ∧ w.cell? ⟨b, o + k * 3 + 1, none⟩ = some (.int .i64 (l.getD k (false, 0, [])).2.1) ∧ ∃ p c, w.cell? ⟨b, o + k * 3 + 2, none⟩ = some (.slice p (l.getD k (false, 0, [])).2.2.length c) ∧ BIn w p (l.getD k (false, 0, [])).2.2 := by
  obtain ⟨b', o', e, hc⟩ := h (by omega)
  simp only [Option.some.injEq, Addr.mk.injEq, and_true] at e
  obtain ⟨rfl, rfl⟩ := e
  obtain ⟨h1, h2, v, h3, hr⟩ := hc k hk
  obtain ⟨p, c, rfl, g, _⟩ := hr.lies
  exact ⟨h1, by rw [Nat.add_assoc]; exact h2, p, c, by rw [Nat.add_assoc]; exact h3, g⟩
/-- What Do answers: an error and no disk; or the disk then, in memory of its own. -/
inductive DoPost (base : Nat) (count : Int) : Except Int (List Nat × Puts) → Ending → World → Prop
  | err (c : Int) (w' : World) : DoPost base count (.error c) (.returned (.tuple #[zeroDisk, .int .i64 c])) w'
  | ok (data : List Nat) (ws : Puts) (v : Value) (w' : World) : DiskNew w' base v count data ws → DoPost base count (.ok (data, ws)) (.returned (.tuple #[v, .int .i64 0])) w'
set_option maxRecDepth 20000 in
set_option maxHeartbeats 2000000 in
theorem do_ok (v : Value) (count : Int) (data : List Nat) (ws : Puts) (w : World) (hd : DiskIn w v count data ws) (ho : Okay count data ws) (ql : Option Addr) (ml : Nat) (l : Acts) (hl : ActsIn w ql l) (hll : l.length ≤ 9223372036854775807) :
    Calls Try.prog 15 #[v, .slice ql l.length ml] w fun e w' => DoPost w.heap.size count (doN count (data, ws) l) e w' ∧ Below w.heap.size w w' := by
  obtain ⟨p, c, q, m, rfl, hb, _⟩ := hd.parts
  have HBY : Hid (∀ c ∈ data, c < 256) := hb.2
  clear hb
  have HD : Hid _ := hd
  have HO : Hid _ := ho
  clear hd ho
  go_enter Try.func15, Try.ntmps15
  go_wp2_with fail
  refine (check_ok _ count data ws _ (HD.out.below ((below_alloc w _).alloc (by simp) _)) HO.out).mono ?_
  rintro e w1 ⟨rfl, hb1⟩
  replace hb1 : Below (w.heap.size + 2) ((w.alloc (.cells #[.int .i64 count, .slice p data.length c, .slice q ws.length m] 25)).alloc (.cells #[.int .i64 0, .slice none 0 0, .slice none 0 0] 25)) w1 := by simpa using hb1
  have hz1 := box2_size hb1
  obtain ⟨hB, hR⟩ := box2_cells hb1
  obtain ⟨c0, c1, c2⟩ := cells3 hB
  have HR : Hid _ := hR
  have HB : Hid _ := hB
  clear hB hR
  go_wp2
  obtain ⟨W, hW⟩ : ∃ W, W = (w.alloc (.cells #[.int .i64 count, .slice p data.length c, .slice q ws.length m] 25)).alloc (.cells #[.int .i64 0, .slice none 0 0, .slice none 0 0] 25) := ⟨_, rfl⟩
  have HDx : Hid (∀ w', Below (w.heap.size + 2) W w' → DiskIn w' (.agg #[.int .i64 count, .slice p data.length c, .slice q ws.length m]) count data ws) := by
    intro w' h
    rw [hW] at h
    exact HD.out.below (box2_below h)
  rw [← hW] at hb1
  have HS1 : (w1.drew.cell? ⟨w.heap.size, 0, none⟩ = some (.int .i64 count) ∧ w1.drew.cell? ⟨w.heap.size, 1, none⟩ = some (.slice p data.length c) ∧ w1.drew.cell? ⟨w.heap.size, 2, none⟩ = some (.slice q ws.length m)) ∧ Hid (Below (w.heap.size + 2) W w1.drew) := ⟨⟨c0, c1, c2⟩, hb1.drew⟩
  have HWz : Hid (w.heap.size + 2 ≤ W.heap.size) := by show _ ≤ _; rw [hW]; simp
  go_cut [7] from 11 (fun s7 w5 => ∃ B0 gd q' m' gs, s7 = .pointer (some ⟨B0, 0, none⟩) ∧ DiskOwn w5 (w.heap.size + 2) B0 gd count data q' m' ws gs ∧ Below (w.heap.size + 2) W w5)
  case first =>
    refine wp_region_noPanic ?_
    refine wp_region_held_drew (S := fun w' => (w'.cell? ⟨w.heap.size, 0, none⟩ = some (.int .i64 count) ∧ w'.cell? ⟨w.heap.size, 1, none⟩ = some (.slice p data.length c) ∧ w'.cell? ⟨w.heap.size, 2, none⟩ = some (.slice q ws.length m)) ∧ Hid (Below (w.heap.size + 2) W w')) (by kernel_rfl) HS1 (fun hS0 => ?_)
    have sz0 := Nat.le_trans HWz.out hS0.2.out.size
    clear HS1 c0 c1 c2 hb1
    refine takeH 0 17 (v := ?_) rfl rfl (by kernel_rfl) (by kernel_rfl) (by kernel_rfl) (fun _ _ _ h => h) (by rfl) ?_ (by assumption) ?_
    rotate_left
    · intro w hSw; go_simp; first | done | with_reducible rfl
    simp only [Act.put, List.setIfInBounds_toArray, List.set_cons_zero, List.set_cons_succ]
    refine takeH 1 18 (v := ?_) rfl rfl (by kernel_rfl) (by kernel_rfl) (by kernel_rfl) (fun _ _ _ h => h) (by rfl) ?_ (by assumption) ?_
    rotate_left
    · intro w hSw; go_simp; first | done | with_reducible rfl
    simp only [Act.put, List.setIfInBounds_toArray, List.set_cons_zero, List.set_cons_succ]
    refine takeH 2 19 (v := ?_) rfl rfl (by kernel_rfl) (by kernel_rfl) (by kernel_rfl) (fun _ _ _ h => h) (by rfl) ?_ (by assumption) ?_
    rotate_left
    · intro w hSw; go_simp; first | done | with_reducible rfl
    simp only [Act.put, List.setIfInBounds_toArray, List.set_cons_zero, List.set_cons_succ]
    refine takeH 4 21 (v := ?_) rfl rfl (by kernel_rfl) (by kernel_rfl) (by kernel_rfl) (fun _ _ _ h => h) (by rfl) ?_ (by assumption) ?_
    rotate_left
    · intro w hSw; go_simp; first | done | with_reducible rfl
    simp only [Act.put, List.setIfInBounds_toArray, List.set_cons_zero, List.set_cons_succ]
    refine wpAnyH_ready (rs := [3, 7]) (by kernel_rfl) (by simp) ?_
    refine AllReadyH.cons rfl (fun K hK => ?_) (AllReadyH.cons rfl (fun K hK => ?_) AllReadyH.nil)
    · go_simp
      refine (sectors_any _ count data ws _ (HDx.out _ hS0.2.out) HO.out).mono ?_
      rintro e ws1 ⟨gd, rfl, hg1, hg2, hb1⟩
      go_simp
      refine hK.out _ _ (keepS HWz.out hS0 hb1) (fun hS1 => ?_)
      clear hK K
      have sz1 := Nat.le_trans HWz.out hS1.2.out.size
      refine wpAnyH_ready (rs := [5, 7]) (by kernel_rfl) (by simp) ?_
      refine AllReadyH.cons rfl (fun K hK => ?_) (AllReadyH.cons rfl (fun K hK => ?_) AllReadyH.nil)
      · go_simp
        refine (waits_any _ count data ws _ (HDx.out _ hS1.2.out) HO.out).mono ?_
        rintro e ww2 ⟨q', m', gs, rfl, hp, hb2⟩
        go_simp
        refine hK.out _ _ (keepS HWz.out hS1 hb2) (fun hS2 => ?_)
        clear hK K
        have sz2 := Nat.le_trans HWz.out hS2.2.out.size
        refine takeH 6 23 (v := ?_) rfl rfl (by kernel_rfl) (by kernel_rfl) (by kernel_rfl) (fun _ _ _ h => h) (by rfl) ?_ (by assumption) ?_
        rotate_left
        · intro w hSw; go_simp; first | done | with_reducible rfl
        simp only [Act.put, List.setIfInBounds_toArray, List.set_cons_zero, List.set_cons_succ]
        refine wpAnyH_ready (rs := [7]) (by kernel_rfl) (by simp) ?_
        refine AllReadyH.cons rfl (fun K hK => ?_) AllReadyH.nil
        · have hb3 := below_alloc ww2 (.cells #[.int .i64 0, .slice none 0 0, .slice none 0 0] 25)
          go_simp
          refine hK.out _ _ (keepS HWz.out hS2 hb3) (fun hS3 => ?_)
          clear hK K
          have sz3 := Nat.le_trans HWz.out hS3.2.out.size
          refine wpAnyH_ready (rs := [8]) (by kernel_rfl) (by simp) ?_
          refine AllReadyH.cons rfl (fun K hK => ?_) AllReadyH.nil
          go_simp
          refine hK.out _ _ (keepA HWz.out hS2 _) (fun hSz => ?_)
          clear hK K
          refine wpAnyH_done (by kernel_rfl) (NoPanic.normal ?_) _
          go_wp2
          go_meet
          case rel =>
            have gY := ((hb2).block _ (lt_heap hg2)).trans hg2
            have pY := hp
            have aY := apart_after hp (lt_heap hg2)
            exact ⟨_, gd, q', m', gs, rfl, own_alloc gY (Nat.le_trans sz0 hg1) (pY.mono sz1) aY HBY.out sz2, hSz.2.out⟩
      · have hb2 := below_alloc ws1 (.cells #[.int .i64 0, .slice none 0 0, .slice none 0 0] 25)
        go_simp
        refine hK.out _ _ (keepS HWz.out hS1 hb2) (fun hS2 => ?_)
        clear hK K
        have sz2 := Nat.le_trans HWz.out hS2.2.out.size
        refine wpAnyH_ready (rs := [5]) (by kernel_rfl) (by simp) ?_
        refine AllReadyH.cons rfl (fun K hK => ?_) AllReadyH.nil
        · go_simp
          refine (waits_any _ count data ws _ (HDx.out _ hS2.2.out) HO.out).mono ?_
          rintro e ww3 ⟨q', m', gs, rfl, hp, hb3⟩
          go_simp
          refine hK.out _ _ (keepS HWz.out hS2 hb3) (fun hS3 => ?_)
          clear hK K
          have sz3 := Nat.le_trans HWz.out hS3.2.out.size
          refine takeH 6 23 (v := ?_) rfl rfl (by kernel_rfl) (by kernel_rfl) (by kernel_rfl) (fun _ _ _ h => h) (by rfl) ?_ (by assumption) ?_
          rotate_left
          · intro w hSw; go_simp; first | done | with_reducible rfl
          simp only [Act.put, List.setIfInBounds_toArray, List.set_cons_zero, List.set_cons_succ]
          refine wpAnyH_ready (rs := [8]) (by kernel_rfl) (by simp) ?_
          refine AllReadyH.cons rfl (fun K hK => ?_) AllReadyH.nil
          have hZ := ((hb3).block _ (by first | (rw [World.size_alloc]; omega) | (show _ < (w1.alloc _).heap.size; rw [World.size_alloc]; exact Nat.lt_succ_self _))).trans (heap_alloc_new _ _)
          obtain ⟨z0, z1, z2⟩ := cells3 hZ
          obtain ⟨y0, y1, y2⟩ := free3 hZ
          have HZ : Hid _ := hZ
          clear hZ
          go_simp
          refine hK.out _ _ (keep3 hS3 ⟨by have := sz1; omega, by exact sz1⟩ _ _ _) (fun hSz => ?_)
          clear hK K
          refine wpAnyH_done (by kernel_rfl) (NoPanic.normal ?_) _
          go_wp2
          go_meet
          case rel =>
            have gY := (((below_bt hb2 hb3)).block _ (lt_heap hg2)).trans hg2
            have pY := hp
            have aY := apart_after hp (Nat.lt_of_lt_of_le (lt_heap hg2) (hb2).size)
            exact ⟨_, gd, q', m', gs, rfl, own_set3 HZ.out sz1 gY (Nat.le_trans sz0 hg1) (pY.mono sz2) aY HBY.out, hSz.2.out⟩
    · have hb1 := below_alloc w1.drew (.cells #[.int .i64 0, .slice none 0 0, .slice none 0 0] 25)
      go_simp
      refine hK.out _ _ (keepS HWz.out hS0 hb1) (fun hS1 => ?_)
      clear hK K
      have sz1 := Nat.le_trans HWz.out hS1.2.out.size
      refine wpAnyH_ready (rs := [3]) (by kernel_rfl) (by simp) ?_
      refine AllReadyH.cons rfl (fun K hK => ?_) AllReadyH.nil
      · go_simp
        refine (sectors_any _ count data ws _ (HDx.out _ hS1.2.out) HO.out).mono ?_
        rintro e ws2 ⟨gd, rfl, hg1, hg2, hb2⟩
        go_simp
        refine hK.out _ _ (keepS HWz.out hS1 hb2) (fun hS2 => ?_)
        clear hK K
        have sz2 := Nat.le_trans HWz.out hS2.2.out.size
        refine wpAnyH_ready (rs := [5]) (by kernel_rfl) (by simp) ?_
        refine AllReadyH.cons rfl (fun K hK => ?_) AllReadyH.nil
        · go_simp
          refine (waits_any _ count data ws _ (HDx.out _ hS2.2.out) HO.out).mono ?_
          rintro e ww3 ⟨q', m', gs, rfl, hp, hb3⟩
          go_simp
          refine hK.out _ _ (keepS HWz.out hS2 hb3) (fun hS3 => ?_)
          clear hK K
          have sz3 := Nat.le_trans HWz.out hS3.2.out.size
          refine takeH 6 23 (v := ?_) rfl rfl (by kernel_rfl) (by kernel_rfl) (by kernel_rfl) (fun _ _ _ h => h) (by rfl) ?_ (by assumption) ?_
          rotate_left
          · intro w hSw; go_simp; first | done | with_reducible rfl
          simp only [Act.put, List.setIfInBounds_toArray, List.set_cons_zero, List.set_cons_succ]
          refine wpAnyH_ready (rs := [8]) (by kernel_rfl) (by simp) ?_
          refine AllReadyH.cons rfl (fun K hK => ?_) AllReadyH.nil
          have hZ := (((below_bt hb2 hb3)).block _ (by first | (rw [World.size_alloc]; omega) | (show _ < (w1.alloc _).heap.size; rw [World.size_alloc]; exact Nat.lt_succ_self _))).trans (heap_alloc_new _ _)
          obtain ⟨z0, z1, z2⟩ := cells3 hZ
          obtain ⟨y0, y1, y2⟩ := free3 hZ
          have HZ : Hid _ := hZ
          clear hZ
          go_simp
          refine hK.out _ _ (keep3 hS3 ⟨by have := sz0; omega, by exact sz0⟩ _ _ _) (fun hSz => ?_)
          clear hK K
          refine wpAnyH_done (by kernel_rfl) (NoPanic.normal ?_) _
          go_wp2
          go_meet
          case rel =>
            have gY := ((hb3).block _ (lt_heap hg2)).trans hg2
            have pY := hp
            have aY := apart_after hp (lt_heap hg2)
            exact ⟨_, gd, q', m', gs, rfl, own_set3 HZ.out sz0 gY (Nat.le_trans sz1 hg1) (pY.mono sz2) aY HBY.out, hSz.2.out⟩
  case rest =>
    obtain ⟨B0, gd, q', m', gs, rfl, hown, hbc⟩ := hcut
    have HX : Hid (∀ w', Below (w.heap.size + 2) W w' → w'.heap[w.heap.size + 1]? = some (.cells #[.int .i64 0, .slice none 0 0, .slice none 0 0] 25 (0, 0)) ∧ Below w.heap.size w w' ∧ w.heap.size + 2 ≤ w'.heap.size) := by
      intro w' h
      rw [hW] at h
      exact ⟨(box2_cells h).2, box2_below h, box2_size h⟩
    have HO0 : Hid (DiskOwn wc (w.heap.size + 2) B0 gd count data q' m' ws gs) := hown
    clear hown hW HD HDx HS1 HR HB c0 c1 c2 hb1 hz1
    go_wp2
    go_loopw [26] (fun i wr => ∃ k : Nat, ∃ dk wk qk mk gk, k ≤ l.length ∧ i = .int .i64 k ∧ Hid (doN count (data, ws) (l.take k) = .ok (dk, wk)) ∧ DiskOwn wr (w.heap.size + 2) B0 gd count dk qk mk wk gk ∧ Below (w.heap.size + 2) W wr) (fun i _ => l.length - (intOf i).toNat)
    case atStart => exact ⟨0, data, ws, q', m', gs, by omega, rfl, rfl, HO0.out, hbc⟩
    case round =>
      obtain ⟨k, dk, wk, qk, mk, gk, hk, rfl, HN, hok, hbk⟩ := hrel
      obtain ⟨hres, hbw, hsz⟩ := HX.out _ hbk
      by_cases hkl : k < l.length
      · obtain ⟨b, o, rfl⟩ := hl.addr (by omega)
        obtain ⟨e0, e1, pk, ck, e2, hbi⟩ := (hl.below hbw).at hkl
        have HST : Hid (doN count (data, ws) (l.take (k + 1)) = stepA count (dk, wk) (l.getD k (false, 0, []))) := doN_step hkl HN.out
        have hoky : Okay count dk wk := okay_do _ (s := (data, ws)) (s' := (dk, wk)) HO.out HN.out
        generalize l.getD k (false, 0, []) = y at *
        obtain ⟨fl, s, xs⟩ := y
        simp only at e0 e1 e2 hbi
        have HBI : Hid (BIn wr pk xs) := hbi
        have HOK : Hid (DiskOwn wr (w.heap.size + 2) B0 gd count dk qk mk wk gk) := hok
        have HOY : Hid (Okay count dk wk) := hoky
        have HRES : Hid _ := hres
        clear hbi hok hoky hres HN HO0 hl
        cases fl with
        | true =>
          have HE : Hid (stepA count (dk, wk) (true, s, xs) = .ok (settleN dk wk, [])) := rfl
          go_wp2_with fail
          refine (settle_any (w.heap.size + 2) B0 gd count dk qk mk wk gk _ (HOK.out.below (below_alloc wr _)) HOY.out (by simp; omega)).mono ?_
          rintro e w2 ⟨rfl, hd2, hb2⟩
          have hb3 := (hbk.alloc (by omega) _).trans hb2
          clear hb2
          go_wp2
          go_roundw
          case rel => exact ⟨k + 1, _, _, _, _, _, by omega, by go_num, HST.out.trans HE.out, hd2, hb3⟩
          case measure => simp [intOf]; omega
        | false =>
          by_cases g1 : 0 ≤ s ∧ s < count
          · by_cases g2 : xs.length = 128
            · by_cases g3 : wk.length < 4096
              · have HE : Hid (stepA count (dk, wk) (false, s, xs) = .ok (dk, wk ++ [(s, xs)])) := by
                  show stepA _ _ _ = _
                  simp [stepA, g1, g2, show ¬ 4096 ≤ wk.length from by omega]
                have G2 : Hid (xs.length = 128) := g2
                rw [g2] at e2
                clear g2
                go_wp2_with fail
                refine (wait_ok (w.heap.size + 2) B0 gd count dk qk mk wk gk s pk ck xs _ (HOK.out.below (below_alloc wr _)) g1 G2.out g3 (HBI.out.alloc _) (by simp; omega)).mono ?_
                rintro e w2 ⟨rfl, ⟨q2, m2, g2, hd2⟩, hb2⟩
                have hb3 := (hbk.alloc (by omega) _).trans hb2
                clear hb2
                go_wp2
                go_roundw
                case rel => exact ⟨k + 1, _, _, _, _, _, by omega, by go_num, HST.out.trans HE.out, hd2, hb3⟩
                case measure => simp [intOf]; omega
              · have HE : Hid (stepA count (dk, wk) (false, s, xs) = .error 4) := by
                  show stepA _ _ _ = _
                  simp [stepA, g1, g2, show 4096 ≤ wk.length from by omega]
                rw [g2] at e2
                clear g2
                have HF : Hid (doN count (data, ws) l = .error 4) := doN_fail (HST.out.trans HE.out)
                go_wp2_with fail
                refine (wait_many (w.heap.size + 2) B0 gd count dk qk mk wk gk s pk ck _ (HOK.out.below (below_alloc wr _)) g1 (by omega)).mono ?_
                rintro e w2 ⟨rfl, hb2⟩
                have hb3 := (hbk.alloc (by omega) _).trans (hb2.mono (by simp; omega))
                obtain ⟨hres2, hbw2, hsz2⟩ := HX.out _ hb3
                obtain ⟨r0, r1, r2⟩ := cells3 hres2
                obtain ⟨f0, f1, f2⟩ := free3 hres2
                clear hb2 hb3 hres2 HRES
                go_wp2
                (try simp only [Exit.inBlock, Exit.then])
                refine bodyPost_ret (v := .tuple #[zeroDisk, .int .i64 4]) ?_ rfl ⟨?_, ?_⟩
                · rw [results_cell_tmp rfl]
                  go_simp
                · rw [HF.out]
                  exact .err _ _
                · exact set3_below hbw2 (by omega) _ _ _
            · have HE : Hid (stepA count (dk, wk) (false, s, xs) = .error 8) := by
                show stepA _ _ _ = _
                simp [stepA, g1, g2]
              have HF : Hid (doN count (data, ws) l = .error 8) := doN_fail (HST.out.trans HE.out)
              go_wp2_with fail
              refine (wait_bad (w.heap.size + 2) B0 gd count dk qk mk wk gk s pk ck xs _ (HOK.out.below (below_alloc wr _)) g1 g2).mono ?_
              rintro e w2 ⟨rfl, hb2⟩
              have hb3 := (hbk.alloc (by omega) _).trans (hb2.mono (by simp; omega))
              obtain ⟨hres2, hbw2, hsz2⟩ := HX.out _ hb3
              obtain ⟨r0, r1, r2⟩ := cells3 hres2
              obtain ⟨f0, f1, f2⟩ := free3 hres2
              clear hb2 hb3 hres2 HRES
              go_wp2
              (try simp only [Exit.inBlock, Exit.then])
              refine bodyPost_ret (v := .tuple #[zeroDisk, .int .i64 8]) ?_ rfl ⟨?_, ?_⟩
              · rw [results_cell_tmp rfl]
                go_simp
              · rw [HF.out]
                exact .err _ _
              · exact set3_below hbw2 (by omega) _ _ _
          · have HE : Hid (stepA count (dk, wk) (false, s, xs) = .error 21) := by
              show stepA _ _ _ = _
              simp [stepA, g1]
            have HF : Hid (doN count (data, ws) l = .error 21) := doN_fail (HST.out.trans HE.out)
            go_wp2_with fail
            refine (wait_range (w.heap.size + 2) B0 gd count dk qk mk wk gk s (.slice pk xs.length ck) _ (HOK.out.below (below_alloc wr _)) g1).mono ?_
            rintro e w2 ⟨rfl, hb2⟩
            have hb3 := (hbk.alloc (by omega) _).trans (hb2.mono (by simp; omega))
            obtain ⟨hres2, hbw2, hsz2⟩ := HX.out _ hb3
            obtain ⟨r0, r1, r2⟩ := cells3 hres2
            obtain ⟨f0, f1, f2⟩ := free3 hres2
            clear hb2 hb3 hres2 HRES
            go_wp2
            (try simp only [Exit.inBlock, Exit.then])
            refine bodyPost_ret (v := .tuple #[zeroDisk, .int .i64 21]) ?_ rfl ⟨?_, ?_⟩
            · rw [results_cell_tmp rfl]
              go_simp
            · rw [HF.out]
              exact .err _ _
            · exact set3_below hbw2 (by omega) _ _ _
      · obtain rfl : k = l.length := by omega
        obtain ⟨c0, c1, c2⟩ := hok.cells
        obtain ⟨r0, r1, r2⟩ := cells3 hres
        obtain ⟨f0, f1, f2⟩ := free3 hres
        have HN' : Hid (doN count (data, ws) l = .ok (dk, wk)) := by have := HN.out; rwa [List.take_length] at this
        have HF : Hid (DiskNew wr w.heap.size (.agg #[.int .i64 count, .slice (some ⟨gd, 0, none⟩) dk.length dk.length, .slice qk wk.length mk]) count dk wk) := hok.toNew.mono (by omega)
        have HR : Hid _ := hres
        clear hok hres HN HO0 hl
        go_wp2
        (try simp only [Exit.inBlock, Exit.then])
        refine bodyPost_ret (v := .tuple #[.agg #[.int .i64 count, .slice (some ⟨gd, 0, none⟩) dk.length dk.length, .slice qk wk.length mk], .int .i64 0]) ?_ rfl ⟨?_, ?_⟩
        · rw [results_cell_tmp rfl]
          go_simp
        · rw [HN'.out]
          exact .ok _ _ _ _ (HF.out.set3 HR.out _ _ _)
        · exact set3_below hbw (by omega) _ _ _
end Go.Proofs.Ytnajjfdbmdjcbaa
namespace Go.Proofs.Ytnajjfdbmdjcbaa
open Go.RowKit Go.WideShapes

theorem doN_one (count : Int) (s : List Nat × Puts) (a : Bool × Int × List Nat) : doN count s [a] = stepA count s a := by
  simp only [doN]
  cases stepA count s a <;> rfl
/-- One act in a block of its own. -/
theorem acts_one {X : World} {H : Nat} (hH : H = X.heap.size) {f : Bool} {s : Int} {p : Option Addr} {c : Nat} {xs : List Nat} {t : TypeId} (hb : BIn X p xs) (h1 : xs.length ≤ c) (h2 : c ≤ maxLen) (h3 : p = none → c = 0) :
    ActsIn (X.alloc (.cells #[.bool f, .int .i64 s, .slice p xs.length c] t)) (some ⟨H, 0, none⟩) [(f, s, xs)] := by
  subst hH
  intro _
  have hh := heap_alloc_new X (.cells #[.bool f, .int .i64 s, .slice p xs.length c] t)
  refine ⟨X.heap.size, 0, rfl, fun i hi => ?_⟩
  obtain rfl : i = 0 := by simpa using hi
  refine ⟨cell_of_row _ _ _ _ _ _ hh, cell_of_row _ _ _ _ _ _ hh, _, cell_of_row _ _ _ _ _ _ hh, ⟨p, c, rfl, hb.alloc _, h1, h2, h3⟩⟩

end Go.Proofs.Ytnajjfdbmdjcbaa
namespace Go.Proofs.Ytnajjfdbmdjcbaa
open Go.RowKit Go.WideShapes
attribute [local go_sem ↓] Go.wp_at_zero Go.wp_at_succ

set_option maxRecDepth 20000 in
set_option maxHeartbeats 1000000 in
theorem crash_bad (v l : Value) (count : Int) (data : List Nat) (ws : Puts) (w : World) (hd : DiskIn w v count data ws) (ho : ¬ Okay count data ws) :
    Calls Try.prog 33 #[v, l] w fun e w' => e = .returned (.tuple #[zeroDisk, .int .i64 20]) ∧ Below w.heap.size w w' := by
  obtain ⟨p, c, q, m, rfl, _⟩ := hd.parts
  have HD : Hid _ := hd
  clear hd
  go_enter Try.func33, Try.ntmps33
  go_wp2_with fail
  refine (check_bad _ count data ws _ (HD.out.below ((below_alloc w _).alloc (by simp) _)) ho).mono ?_
  rintro e w1 ⟨rfl, hb1⟩
  replace hb1 : Below (w.heap.size + 2) ((w.alloc (.cells #[.int .i64 count, .slice p data.length c, .slice q ws.length m] 25)).alloc (.cells #[.int .i64 0, .slice none 0 0, .slice none 0 0] 25)) w1 := by simpa using hb1
  obtain ⟨hB, hR⟩ := box2_cells hb1
  obtain ⟨c0, c1, c2⟩ := cells3 hR
  obtain ⟨f0, f1, f2⟩ := free3 hR
  clear hB hR
  go_wp2
  (try simp only [Exit.inBlock, Exit.then])
  refine bodyPost_ret (v := .tuple #[zeroDisk, .int .i64 20]) ?_ rfl ⟨rfl, ?_⟩
  · rw [results_cell_tmp rfl]
    go_simp
  · exact set3_below (box2_below hb1) (by omega) _ _ _

theorem BoolsIn.addr {w : World} {q : Option Addr} {l : List Bool} (h : BoolsIn w q l) (hw : 0 < l.length) : ∃ b o, q = some ⟨b, o, none⟩ := by
  obtain ⟨b, o, e, _⟩ := h hw
  exact ⟨b, o, e⟩
theorem BoolsIn.at {w : World} {b o : Nat} {l : List Bool} (h : BoolsIn w (some ⟨b, o, none⟩) l) {k : Nat} (hk : k < l.length) : w.cell? ⟨b, o + k, none⟩ = some (.bool (l.getD k false)) := by
  obtain ⟨b', o', e, hc⟩ := h (by omega)
  simp only [Option.some.injEq, Addr.mk.injEq, and_true] at e
  obtain ⟨rfl, rfl⟩ := e
  exact hc k hk
theorem puts_bytes {w : World} {q : Option Addr} {ws : Puts} (h : PutsIn w q ws) : ∀ y ∈ ws, ∀ c ∈ y.2, c < 256 := by
  intro y hy
  obtain ⟨i, hi, rfl⟩ := List.getElem_of_mem hy
  obtain ⟨b, o, rfl⟩ := h.addr (by omega)
  obtain ⟨_, p, c, _, hb, _⟩ := h.at hi
  have := hb.2
  simpa [List.getD, List.getElem?_eq_getElem hi] using this
/-- The disk that is being made: its block, its sectors. -/
structure Half (w : World) (base B0 gd : Nat) (count : Int) (n : Nat) (data : List Nat) : Prop where
  box : w.heap[B0]? = some (.cells #[.int .i64 count, .slice (some ⟨gd, 0, none⟩) n n, .slice none 0 0] 25 (0, 0))
  hB : base ≤ B0
  hgd : base ≤ gd
  drow : w.heap[gd]? = some (.cells (Bs data).toArray 5 (0, 0))
theorem Half.ne {w : World} {base B0 gd : Nat} {count : Int} {n : Nat} {data : List Nat} (h : Half w base B0 gd count n data) : B0 ≠ gd := by
  intro e
  have h1 := h.box
  rw [e, h.drow] at h1
  simp at h1
theorem Half.below {w w' : World} {base B0 gd : Nat} {count : Int} {n : Nat} {data : List Nat} (h : Half w base B0 gd count n data) (hb : Below w.heap.size w w') : Half w' base B0 gd count n data :=
  ⟨(hb.block _ (lt_heap h.box)).trans h.box, h.hB, h.hgd, (hb.block _ (lt_heap h.drow)).trans h.drow⟩

set_option maxRecDepth 20000 in
set_option maxHeartbeats 2000000 in
theorem crash_ok (v : Value) (count : Int) (data : List Nat) (ws : Puts) (w : World) (hd : DiskIn w v count data ws) (ho : Okay count data ws) (ql : Option Addr) (ml : Nat) (keep : List Bool) (hl : BoolsIn w ql keep) (hll : keep.length ≤ 9223372036854775807) :
    Calls Try.prog 33 #[v, .slice ql keep.length ml] w fun e w' => (∃ v', e = .returned (.tuple #[v', .int .i64 0]) ∧ DiskNew w' w.heap.size v' count (crashN data ws keep) []) ∧ Below w.heap.size w w' := by
  obtain ⟨p, c, q, m, rfl, hb, _, _, _, hqp, hqm, hqmm, _⟩ := hd.parts
  have HBY : Hid (∀ c ∈ data, c < 256) := hb.2
  have HQ : Hid (PutsIn w q ws) := hqp
  have HPB : Hid (∀ y ∈ ws, ∀ c ∈ y.2, c < 256) := puts_bytes hqp
  have hfew := ho.few
  have hhi := ho.hi
  have hlen := ho.len
  have HLEN : Hid ((data.length : Int) = count * 128) := hlen
  clear hb hqp hlen
  have HD : Hid _ := hd
  have HO : Hid _ := ho
  clear hd ho
  go_enter Try.func33, Try.ntmps33
  go_wp2_with fail
  refine (check_ok _ count data ws _ (HD.out.below ((below_alloc w _).alloc (by simp) _)) HO.out).mono ?_
  rintro e w1 ⟨rfl, hb1⟩
  replace hb1 : Below (w.heap.size + 2) ((w.alloc (.cells #[.int .i64 count, .slice p data.length c, .slice q ws.length m] 25)).alloc (.cells #[.int .i64 0, .slice none 0 0, .slice none 0 0] 25)) w1 := by simpa using hb1
  have hz1 := box2_size hb1
  obtain ⟨hB, hR⟩ := box2_cells hb1
  obtain ⟨c0, c1, c2⟩ := cells3 hB
  clear hB hR
  go_wp2
  obtain ⟨W, hW⟩ : ∃ W, W = (w.alloc (.cells #[.int .i64 count, .slice p data.length c, .slice q ws.length m] 25)).alloc (.cells #[.int .i64 0, .slice none 0 0, .slice none 0 0] 25) := ⟨_, rfl⟩
  have HDx : Hid (∀ w', Below (w.heap.size + 2) W w' → DiskIn w' (.agg #[.int .i64 count, .slice p data.length c, .slice q ws.length m]) count data ws) := by
    intro w' h
    rw [hW] at h
    exact HD.out.below (box2_below h)
  rw [← hW] at hb1
  have HS1 : (w1.drew.cell? ⟨w.heap.size, 0, none⟩ = some (.int .i64 count) ∧ w1.drew.cell? ⟨w.heap.size, 1, none⟩ = some (.slice p data.length c) ∧ w1.drew.cell? ⟨w.heap.size, 2, none⟩ = some (.slice q ws.length m)) ∧ Hid (Below (w.heap.size + 2) W w1.drew) := ⟨⟨c0, c1, c2⟩, hb1.drew⟩
  have HWz : Hid (w.heap.size + 2 ≤ W.heap.size) := by show _ ≤ _; rw [hW]; simp
  go_cut [7] from 10 (fun s7 w5 => ∃ B0 gd, s7 = .pointer (some ⟨B0, 0, none⟩) ∧ Half w5 (w.heap.size + 2) B0 gd count data.length data ∧ Below (w.heap.size + 2) W w5)
  case first =>
    refine wp_region_noPanic ?_
    refine wp_region_held_drew (S := fun w' => (w'.cell? ⟨w.heap.size, 0, none⟩ = some (.int .i64 count) ∧ w'.cell? ⟨w.heap.size, 1, none⟩ = some (.slice p data.length c) ∧ w'.cell? ⟨w.heap.size, 2, none⟩ = some (.slice q ws.length m)) ∧ Hid (Below (w.heap.size + 2) W w')) (by kernel_rfl) HS1 (fun hS0 => ?_)
    have sz0 := Nat.le_trans HWz.out hS0.2.out.size
    clear HS1 c0 c1 c2 hb1
    refine takeH 0 16 (v := ?_) rfl rfl (by kernel_rfl) (by kernel_rfl) (by kernel_rfl) (fun _ _ _ h => h) (by rfl) ?_ (by assumption) ?_
    rotate_left
    · intro w hSw; go_simp; first | done | with_reducible rfl
    simp only [Act.put, List.setIfInBounds_toArray, List.set_cons_zero, List.set_cons_succ]
    refine takeH 1 17 (v := ?_) rfl rfl (by kernel_rfl) (by kernel_rfl) (by kernel_rfl) (fun _ _ _ h => h) (by rfl) ?_ (by assumption) ?_
    rotate_left
    · intro w hSw; go_simp; first | done | with_reducible rfl
    simp only [Act.put, List.setIfInBounds_toArray, List.set_cons_zero, List.set_cons_succ]
    refine takeH 2 18 (v := ?_) rfl rfl (by kernel_rfl) (by kernel_rfl) (by kernel_rfl) (fun _ _ _ h => h) (by rfl) ?_ (by assumption) ?_
    rotate_left
    · intro w hSw; go_simp; first | done | with_reducible rfl
    simp only [Act.put, List.setIfInBounds_toArray, List.set_cons_zero, List.set_cons_succ]
    refine wpAnyH_ready (rs := [3, 5]) (by kernel_rfl) (by simp) ?_
    refine AllReadyH.cons rfl (fun K hK => ?_) (AllReadyH.cons rfl (fun K hK => ?_) AllReadyH.nil)
    · go_simp
      refine (sectors_any _ count data ws _ (HDx.out _ hS0.2.out) HO.out).mono ?_
      rintro e ws1 ⟨gd, rfl, hg1, hg2, hb1⟩
      go_simp
      refine hK.out _ _ (keepS HWz.out hS0 hb1) (fun hS1 => ?_)
      clear hK K
      have sz1 := Nat.le_trans HWz.out hS1.2.out.size
      refine takeH 4 20 (v := ?_) rfl rfl (by kernel_rfl) (by kernel_rfl) (by kernel_rfl) (fun _ _ _ h => h) (by rfl) ?_ (by assumption) ?_
      rotate_left
      · intro w hSw; go_simp; first | done | with_reducible rfl
      simp only [Act.put, List.setIfInBounds_toArray, List.set_cons_zero, List.set_cons_succ]
      refine wpAnyH_ready (rs := [5]) (by kernel_rfl) (by simp) ?_
      refine AllReadyH.cons rfl (fun K hK => ?_) AllReadyH.nil
      go_simp
      refine hK.out _ _ (keepS HWz.out hS1 (below_alloc ws1 _)) (fun hS2 => ?_)
      clear hK K
      refine wpAnyH_ready (rs := [6]) (by kernel_rfl) (by simp) ?_
      refine AllReadyH.cons rfl (fun K hK => ?_) AllReadyH.nil
      go_simp
      refine hK.out _ _ (keepA HWz.out hS1 _) (fun hSz => ?_)
      clear hK K
      refine wpAnyH_done (by kernel_rfl) (NoPanic.normal ?_) _
      go_wp2
      go_meet
      case rel =>
        exact ⟨_, gd, rfl, ⟨heap_alloc_new _ _, sz1, Nat.le_trans sz0 hg1, ((below_alloc ws1 _).block _ (lt_heap hg2)).trans hg2⟩, hSz.2.out⟩
    · have hb1 := below_alloc w1.drew (.cells #[.int .i64 0, .slice none 0 0, .slice none 0 0] 25)
      go_simp
      refine hK.out _ _ (keepS HWz.out hS0 hb1) (fun hS1 => ?_)
      clear hK K
      refine wpAnyH_ready (rs := [3]) (by kernel_rfl) (by simp) ?_
      refine AllReadyH.cons rfl (fun K hK => ?_) AllReadyH.nil
      go_simp
      refine (sectors_any _ count data ws _ (HDx.out _ hS1.2.out) HO.out).mono ?_
      rintro e ws2 ⟨gd, rfl, hg1, hg2, hb2⟩
      go_simp
      refine hK.out _ _ (keepS HWz.out hS1 hb2) (fun hS2 => ?_)
      clear hK K
      have sz1 := Nat.le_trans HWz.out hS1.2.out.size
      refine takeH 4 20 (v := ?_) rfl rfl (by kernel_rfl) (by kernel_rfl) (by kernel_rfl) (fun _ _ _ h => h) (by rfl) ?_ (by assumption) ?_
      rotate_left
      · intro w hSw; go_simp; first | done | with_reducible rfl
      simp only [Act.put, List.setIfInBounds_toArray, List.set_cons_zero, List.set_cons_succ]
      refine wpAnyH_ready (rs := [6]) (by kernel_rfl) (by simp) ?_
      refine AllReadyH.cons rfl (fun K hK => ?_) AllReadyH.nil
      have hZ : ws2.heap[w1.heap.size]? = some (.cells #[.int .i64 0, .slice none 0 0, .slice none 0 0] 25 (0, 0)) := (hb2.block _ (by show _ < (w1.alloc _).heap.size; rw [World.size_alloc]; exact Nat.lt_succ_self _)).trans (heap_alloc_new w1 _)
      obtain ⟨z0, z1, z2⟩ := cells3 hZ
      obtain ⟨y0, y1, y2⟩ := free3 hZ
      have HZ : Hid _ := hZ
      clear hZ
      have sz0' : w.heap.size + 2 ≤ w1.heap.size := sz0
      go_simp
      refine hK.out _ _ (keep3 hS2 ⟨by omega, sz0'⟩ _ _ _) (fun hSz => ?_)
      clear hK K
      refine wpAnyH_done (by kernel_rfl) (NoPanic.normal ?_) _
      go_wp2
      go_meet
      case rel =>
        refine ⟨_, gd, rfl, ⟨set3_same _ _ _ _ _ _ _ _ _ HZ.out, sz0', Nat.le_trans sz1 hg1, (set3_other _ _ gd _ _ _ ?_).trans hg2⟩, hSz.2.out⟩
        rintro rfl
        have h2 := HZ.out
        rw [hg2] at h2
        simp at h2
  case rest =>
    obtain ⟨B0, gd, rfl, hhf, hbc⟩ := hcut
    have HX : Hid (∀ w', Below (w.heap.size + 2) W w' → w'.heap[w.heap.size]? = some (.cells #[.int .i64 count, .slice p data.length c, .slice q ws.length m] 25 (0, 0)) ∧ w'.heap[w.heap.size + 1]? = some (.cells #[.int .i64 0, .slice none 0 0, .slice none 0 0] 25 (0, 0)) ∧ Below w.heap.size w w' ∧ w.heap.size + 2 ≤ w'.heap.size) := by
      intro w' h
      rw [hW] at h
      exact ⟨(box2_cells h).1, (box2_cells h).2, box2_below h, box2_size h⟩
    have HO0 : Hid (Half wc (w.heap.size + 2) B0 gd count data.length data) := hhf
    obtain ⟨c0, c1, c2⟩ := cells3 (HX.out _ hbc).1
    clear hhf hW HD HDx HS1 hb1 hz1
    go_wp2
    go_loopw [24] (fun i wr => ∃ k : Nat, k ≤ ws.length ∧ i = .int .i64 k ∧ Half wr (w.heap.size + 2) B0 gd count data.length (crashK data ws keep k) ∧ Below (w.heap.size + 2) W wr) (fun i _ => ws.length - (intOf i).toNat)
    case atStart => exact ⟨0, by omega, rfl, HO0.out, hbc⟩
    case round =>
      obtain ⟨k, hk, rfl, hok, hbk⟩ := hrel
      obtain ⟨hbx, hres, hbw, hsz⟩ := HX.out _ hbk
      obtain ⟨b0, b1, b2⟩ := cells3 hok.box
      by_cases hkl : k < ws.length
      · have hq := HQ.out.below hbw
        obtain ⟨b, o, rfl⟩ := hq.addr (by omega)
        obtain ⟨e1, pk, ck, e2, hbi⟩ := hq.at2 hkl
        have hwt := HO.out.wait hkl
        have HSc : Hid (crashK data ws keep (k + 1) = if keep.getD k false = true then putS (crashK data ws keep k) (ws.getD k (0, [])) else crashK data ws keep k) := rfl
        have HL : Hid ((crashK data ws keep k).length = data.length) := crashK_len HO.out keep k hk
        have hkeep : k < keep.length → ∃ b' o', ql = some ⟨b', o', none⟩ ∧ wr.cell? ⟨b', o' + k, none⟩ = some (.bool (keep.getD k false)) := by
          intro h
          obtain ⟨b', o', rfl⟩ := hl.addr (by omega)
          exact ⟨b', o', rfl, (hl.below hbw).at h⟩
        have hkn : ¬ k < keep.length → keep.getD k false = false := by
          intro h
          simp [List.getD, List.getElem?_eq_none (show keep.length ≤ k by omega)]
        rw [hwt.2.2] at e2
        generalize ws.getD k (0, []) = y at *
        obtain ⟨s, xs⟩ := y
        simp only at e1 e2 hbi hwt
        obtain ⟨hw1, hw2, hw3⟩ := hwt
        obtain ⟨n, rfl⟩ := Int.eq_ofNat_of_zero_le hw1
        have HXL : Hid (xs.length = 128) := hw3
        have hnl : (n + 1) * 128 ≤ data.length := by have := HLEN.out; omega
        have HBI : Hid (BIn wr pk xs) := hbi
        have HOK : Hid (Half wr (w.heap.size + 2) B0 gd count data.length (crashK data ws keep k)) := hok
        clear hq hw3 hbi hok hbx hres HO0 hl
        by_cases hkk : k < keep.length
        · obtain ⟨b', o', rfl, ek⟩ := hkeep hkk
          have hbl : b' < wr.heap.size := World.block_lt_of_cell? _ _ ek
          clear hkeep hkn
          generalize keep.getD k false = kb at *
          cases kb with
          | true =>
            obtain ⟨bp, op, rfl⟩ := HBI.out.addr (by rw [HXL.out]; omega)
            have hlt := lt_heap HOK.out.drow
            have hn1 : some B0 ≠ some gd := fun e => HOK.out.ne (by simpa using e)
            have HWs : Hid (∀ j v, (Bs xs)[j]? = some v → (wr.alloc (.cells #[.int .i64 n, .slice (some ⟨bp, op, none⟩) 128 ck] 41)).drew.cell? ((⟨bp, op, none⟩ : Addr).add j) = some v) := bin_news (HBI.out.alloc _)
            have HC : Hid ((wr.alloc (.cells #[.int .i64 n, .slice (some ⟨bp, op, none⟩) 128 ck] 41)).cell? ⟨wr.heap.size, 0, none⟩ = some (.int .i64 n) ∧ (wr.alloc (.cells #[.int .i64 n, .slice (some ⟨bp, op, none⟩) 128 ck] 41)).cell? ⟨wr.heap.size, 1, none⟩ = some (.slice (some ⟨bp, op, none⟩) 128 ck)) := put_cells (Below.refl _ _)
            have HH : Hid (Half (wr.alloc (.cells #[.int .i64 n, .slice (some ⟨bp, op, none⟩) 128 ck] 41)) (w.heap.size + 2) B0 gd count data.length (crashK data ws keep k)) := HOK.out.below (below_alloc wr _)
            have r1' : Hid ((wr.alloc (.cells #[.int .i64 n, .slice (some ⟨bp, op, none⟩) 128 ck] 41)).cell? ⟨B0, 1, none⟩ = some (.slice (some ⟨gd, 0, none⟩) data.length data.length)) := (cells3 HH.out.box).2.1
            have hl2 : Hid ((Bs xs).length = Nat.min 128 128) := by show _ = _; rw [Bs_len, HXL.out]; rfl
            have hf : Hid (n * 128 + (Bs xs).length ≤ (Bs (crashK data ws keep k)).length) := by show _ ≤ _; rw [Bs_len, Bs_len, HXL.out, HL.out]; omega
            have hs2 : Hid (splice (Bs (crashK data ws keep k)) (n * 128) (Bs xs) = Bs (crashK data ws keep (k + 1))) := by show _ = _; rw [Bs_spliceD, HSc.out]; rfl
            have hn2 : Hid (some wr.heap.size ≠ some gd) := by show _ ≠ _; intro e; simp only [Option.some.injEq] at e; omega
            have hn1' : Hid (some B0 ≠ some gd) := hn1
            have hbk1 : Below (w.heap.size + 2) W (wr.alloc (.cells #[.int .i64 n, .slice (some ⟨bp, op, none⟩) 128 ck] 41)) := hbk.alloc (by omega) _
            clear hn1 HL HSc HBI HOK hbk hbw
            go_wp2
            clear e1 e2 b0 b1 b2 ek
            have hz2 : w.heap.size + 2 ≤ (wr.alloc (.cells #[.int .i64 n, .slice (some ⟨bp, op, none⟩) 128 ck] 41)).heap.size := by rw [World.size_alloc]; omega
            obtain ⟨w2, hw2⟩ : ∃ w2, w2 = wr.alloc (.cells #[.int .i64 n, .slice (some ⟨bp, op, none⟩) 128 ck] 41) := ⟨_, rfl⟩
            rw [← hw2] at HWs HC HH hbk1 r1' hz2 ⊢
            clear hw2
            have HC' := HC
            replace HC := HC.out
            have r1 := r1'.out
            go_region_held3 (fun w' => (w'.cell? ⟨wr.heap.size, 0, none⟩ = some (.int .i64 n) ∧ w'.cell? ⟨wr.heap.size, 1, none⟩ = some (.slice (some ⟨bp, op, none⟩) 128 ck)) ∧ w'.cell? ⟨B0, 1, none⟩ = some (.slice (some ⟨gd, 0, none⟩) data.length data.length)) (first | go_keep | exact ⟨c2_grown HC'.out (grown_trans (grown_drew _ _) hg2) hn2.out, (grown_trans (grown_drew _ _) hg2).cell r1'.out hn1'.out⟩)
              (first
                | (go_at_call 59; refine (sector_any gd 0 data.length data.length n _ (by omega) hnl (by omega)).mono ?_; rintro e w1 ⟨rfl, rfl⟩)
                | (refine step_copy_grown (by rfl) (.tmp 43) (.tmp 45) 22 22 (by rfl) 5 Try.underlying22 size_u8 gd (n * 128) ⟨bp, op, none⟩ 128 (data.length - n * 128) 128 ck (by simp [Act.eval]) (by simp [Act.eval]) (Bs (crashK data ws keep k)) 5 HH.out.drow (Bs xs) hl2.out HWs.out hf.out (Bs_oneCell _) ?_; intro w3 hrow2 hg2)
                | fail)
            have hg3 := grown_trans (grown_drew w2 _) hg2
            have hh3 : Half w3 (w.heap.size + 2) B0 gd count data.length (crashK data ws keep (k + 1)) := ⟨(hg3.block _ (lt_heap HH.out.box) hn1'.out).trans HH.out.box, HH.out.hB, HH.out.hgd, by rw [← hs2.out]; exact hrow2.out⟩
            have hb3 : Below (w.heap.size + 2) W w3 := hbk1.trans (below_of_grown hg3 hz2 HH.out.hgd)
            have HH3 : Hid _ := hh3
            clear hrow2 hg2 hg3 HH HWs hh3
            go_wp2
            go_roundw
            case rel => exact ⟨k + 1, by omega, by go_num, HH3.out, hb3⟩
            case measure => simp [intOf]; omega
          | false =>
            have HE : Hid (crashK data ws keep (k + 1) = crashK data ws keep k) := by show _ = _; rw [HSc.out]; simp
            go_wp2
            go_roundw
            case rel => exact ⟨k + 1, by omega, by go_num, by rw [HE.out]; exact HOK.out.below (below_alloc wr _), hbk.alloc (by omega) _⟩
            case measure => simp [intOf]; omega
        · have hkf := hkn hkk
          have HE : Hid (crashK data ws keep (k + 1) = crashK data ws keep k) := by show _ = _; rw [HSc.out, hkf]; simp
          have hdk : decide ((k : Int) < (keep.length : Int)) = false := by simp; omega
          clear hkeep hkn hkf
          go_wp2
          go_roundw
          case rel => exact ⟨k + 1, by omega, by go_num, by rw [HE.out]; exact HOK.out.below (below_alloc wr _), hbk.alloc (by omega) _⟩
          case measure => simp [intOf]; omega
      · obtain rfl : k = ws.length := by omega
        obtain ⟨r0, r1, r2⟩ := cells3 hres
        obtain ⟨f0, f1, f2⟩ := free3 hres
        have HLc : Hid ((crashN data ws keep).length = data.length) := crashK_len HO.out keep _ (Nat.le_refl _)
        have HF : Hid (DiskNew wr w.heap.size (.agg #[.int .i64 count, .slice (some ⟨gd, 0, none⟩) data.length data.length, .slice none 0 0]) count (crashN data ws keep) []) :=
          ⟨⟨gd, none, 0, [], by rw [HLc.out]; rfl, by have := hok.hgd; omega, hok.drow, putsOwn_nil _ _, fun i hi => absurd hi (by simp)⟩, crashK_bytes HBY.out (fun y hy => HPB.out y hy) _ (Nat.le_refl _)⟩
        have HR : Hid _ := hres
        clear hok hres HO0 hl hbx
        go_wp2
        (try simp only [Exit.inBlock, Exit.then])
        refine bodyPost_ret (v := .tuple #[.agg #[.int .i64 count, .slice (some ⟨gd, 0, none⟩) data.length data.length, .slice none 0 0], .int .i64 0]) ?_ rfl ⟨?_, ?_⟩
        · rw [results_cell_tmp rfl]
          go_simp
        · exact ⟨_, rfl, HF.out.set3 HR.out _ _ _⟩
        · exact set3_below hbw (by omega) _ _ _
end Go.Proofs.Ytnajjfdbmdjcbaa
namespace Go.Proofs.Ytnajjfdbmdjcbaa
open Go.RowKit Go.WideShapes

/-- What is wrong with a disk, a sector. -/
noncomputable def errS (count : Int) (data : List Nat) (ws : Puts) (n : Int) : Int := if errC count data ws = 0 then (if 0 ≤ n ∧ n < count then 0 else 21) else 20
theorem errS_bad {count : Int} {data : List Nat} {ws : Puts} (n : Int) (h : ¬ Okay count data ws) : errS count data ws n = 20 := by simp [errS, errC_bad h]
theorem errS_range {count : Int} {data : List Nat} {ws : Puts} {n : Int} (h : Okay count data ws) (hn : ¬ (0 ≤ n ∧ n < count)) : errS count data ws n = 21 := by simp [errS, errC_ok h, hn]
theorem errS_ok {count : Int} {data : List Nat} {ws : Puts} {n : Int} (h : Okay count data ws) (hn : 0 ≤ n ∧ n < count) : errS count data ws n = 0 := by simp [errS, errC_ok h, hn]

set_option maxRecDepth 20000 in
set_option maxHeartbeats 1000000 in
theorem checkSector_any (v : Value) (n : Int) (count : Int) (data : List Nat) (ws : Puts) (w : World) (hd : DiskIn w v count data ws) :
    Calls Try.prog 73 #[v, .int .i64 n] w fun e w' => e = .returned (.int .i64 (errS count data ws n)) ∧ Below w.heap.size w w' := by
  obtain ⟨p, c, q, m, rfl, _⟩ := hd.parts
  have HD : Hid _ := hd
  clear hd
  by_cases ho : Okay count data ws
  · by_cases hn : 0 ≤ n ∧ n < count
    · have HE : Hid _ := errS_ok ho hn
      go_enter Try.func73, Try.ntmps73
      go_wp2_with fail
      refine (check_ok _ count data ws _ (HD.out.below (below_alloc w _)) ho).mono ?_
      rintro e w1 ⟨rfl, hb1⟩
      replace hb1 : Below (w.heap.size + 1) (w.alloc (.cells #[.int .i64 count, .slice p data.length c, .slice q ws.length m] 25)) w1 := by simpa using hb1
      obtain ⟨c0, c1, c2⟩ := box_cells hb1
      go_wp2_with (go_at_call 65; refine (has_any count n _ _ _).mono ?_; rintro e w2 ⟨rfl, ob, rfl⟩; rw [decide_eq_true hn])
      go_ret
      exact ⟨by rw [HE.out]; rfl, box_below (hb1.alloc (by have := box_size hb1; omega) _)⟩
    · have HE : Hid _ := errS_range ho hn
      go_enter Try.func73, Try.ntmps73
      go_wp2_with fail
      refine (check_ok _ count data ws _ (HD.out.below (below_alloc w _)) ho).mono ?_
      rintro e w1 ⟨rfl, hb1⟩
      replace hb1 : Below (w.heap.size + 1) (w.alloc (.cells #[.int .i64 count, .slice p data.length c, .slice q ws.length m] 25)) w1 := by simpa using hb1
      obtain ⟨c0, c1, c2⟩ := box_cells hb1
      go_wp2_with (go_at_call 65; refine (has_any count n _ _ _).mono ?_; rintro e w2 ⟨rfl, ob, rfl⟩; rw [decide_eq_false hn])
      go_ret
      exact ⟨by rw [HE.out]; rfl, box_below (hb1.alloc (by have := box_size hb1; omega) _)⟩
  · have HE : Hid _ := errS_bad n ho
    go_enter Try.func73, Try.ntmps73
    go_wp2_with fail
    refine (check_bad _ count data ws _ (HD.out.below (below_alloc w _)) ho).mono ?_
    rintro e w1 ⟨rfl, hb1⟩
    replace hb1 : Below (w.heap.size + 1) (w.alloc (.cells #[.int .i64 count, .slice p data.length c, .slice q ws.length m] 25)) w1 := by simpa using hb1
    go_wp2
    go_ret
    exact ⟨by rw [HE.out]; rfl, box_below hb1⟩
theorem sector_fails (v : Value) (n : Int) (count : Int) (data : List Nat) (ws : Puts) (w : World) (hd : DiskIn w v count data ws) (er : Int) (he : errS count data ws n = er) :
    Calls Try.prog 73 #[v, .int .i64 n] w fun e w' => e = .returned (.int .i64 er) ∧ Below w.heap.size w w' := by
  subst he; exact checkSector_any v n count data ws w hd

/-- A sector answered: in a row of its own. -/
def SecNew (w : World) (base : Nat) (v : Value) (xs : List Nat) : Prop := ∃ g, v = .slice (some ⟨g, 0, none⟩) 128 128 ∧ base ≤ g ∧ w.heap[g]? = some (.cells (Bs xs).toArray 5 (0, 0)) ∧ xs.length = 128 ∧ ∀ c ∈ xs, c < 256

set_option maxRecDepth 20000 in
set_option maxHeartbeats 1000000 in
theorem read_err (v : Value) (n : Int) (count : Int) (data : List Nat) (ws : Puts) (w : World) (hd : DiskIn w v count data ws) (er : Int) (hne : er ≠ 0) (he : errS count data ws n = er) :
    Calls Try.prog 61 #[v, .int .i64 n] w fun e w' => e = .returned (.tuple #[.slice none 0 0, .int .i64 er]) ∧ Below w.heap.size w w' := by
  obtain ⟨p, c, q, m, rfl, _⟩ := hd.parts
  have HD : Hid _ := hd
  have HE : Hid (errS count data ws n = er) := he
  have hnb : (er != 0) = true := by simpa using hne
  clear hd he hne
  go_enter Try.func61, Try.ntmps61
  go_wp2_with fail
  refine (sector_fails _ n count data ws _ (HD.out.below (below_alloc w _)) er HE.out).mono ?_
  rintro e w1 ⟨rfl, hb1⟩
  replace hb1 : Below (w.heap.size + 1) (w.alloc (.cells #[.int .i64 count, .slice p data.length c, .slice q ws.length m] 25)) w1 := by simpa using hb1
  go_wp2
  go_ret2
  exact ⟨rfl, box_below hb1⟩
theorem secN_mem {data : List Nat} {n : Nat} (h : ∀ c ∈ data, c < 256) : ∀ c ∈ secN data n, c < 256 := fun c hc => h c (List.mem_of_mem_drop (List.mem_of_mem_take hc))
/-- Where a sector lies among all bytes. -/
theorem bin_sec {w : World} {b o : Nat} {data : List Nat} (h : BIn w (some ⟨b, o, none⟩) data) (n : Nat) : BIn w (some ⟨b, o + n * 128, none⟩) (secN data n) := by
  refine ⟨fun _ => ⟨b, o + n * 128, rfl, fun i hi => ?_⟩, secN_mem h.2⟩
  have := sec_news h n i (.int .u8 ((secN data n).getD i 0 : Nat)) (by simp [Bs, List.getD, List.getElem?_eq_getElem hi])
  rw [add_plain] at this
  exact this

end Go.Proofs.Ytnajjfdbmdjcbaa
namespace Go.Proofs.Ytnajjfdbmdjcbaa
open Go.RowKit Go.WideShapes

theorem nowN_some {data : List Nat} {ws : Puts} {n : Int} {xs : List Nat} (h : nowK ws n ws.length = some xs) : nowN data ws n = xs := by simp [nowN, h]
theorem nowN_none {data : List Nat} {ws : Puts} {n : Nat} (h : nowK ws n ws.length = none) : nowN data ws n = secN data n := by simp [nowN, h]

set_option maxRecDepth 20000 in
set_option maxHeartbeats 1000000 in
theorem read_ok (v : Value) (n : Nat) (count : Int) (data : List Nat) (ws : Puts) (w : World) (hd : DiskIn w v count data ws) (ho : Okay count data ws) (hn : (n : Int) < count) :
    Calls Try.prog 61 #[v, .int .i64 n] w fun e w' => (∃ v', e = .returned (.tuple #[v', .int .i64 0]) ∧ SecNew w' w.heap.size v' (nowN data ws n)) ∧ Below w.heap.size w w' := by
  obtain ⟨p, c, q, m, rfl, hb, hc, _, _, hqp, _⟩ := hd.parts
  have hlen := ho.len
  have hhi := ho.hi
  have hfew := ho.few
  have hnl : (n + 1) * 128 ≤ data.length := by omega
  have HL : Hid ((secN data n).length = 128) := secN_len hnl
  obtain ⟨b, o, rfl⟩ := hb.addr (by omega)
  have HB : Hid (BIn w (some ⟨b, o, none⟩) data) := hb
  have HQ : Hid (PutsIn w q ws) := hqp
  have HO : Hid _ := ho
  have HD : Hid _ := hd
  have HE : Hid (errS count data ws n = 0) := errS_ok ho ⟨by omega, hn⟩
  clear hd ho hlen hb hqp
  go_enter Try.func61, Try.ntmps61
  go_wp2_with fail
  refine (sector_fails _ n count data ws _ (HD.out.below (below_alloc w _)) 0 HE.out).mono ?_
  rintro e w1 ⟨rfl, hb1⟩
  replace hb1 : Below (w.heap.size + 1) (w.alloc (.cells #[.int .i64 count, .slice (some ⟨b, o, none⟩) data.length c, .slice q ws.length m] 25)) w1 := by simpa using hb1
  obtain ⟨c0, c1, c2⟩ := box_cells hb1
  go_wp2
  go_loopw [18] (fun i wr => ∃ k : Nat, k ≤ ws.length ∧ i = .int .i64 k ∧ Hid (nowK ws n ws.length = nowK ws n (ws.length - k)) ∧ Below (w.heap.size + 1) (w.alloc (.cells #[.int .i64 count, .slice (some ⟨b, o, none⟩) data.length c, .slice q ws.length m] 25)) wr) (fun i _ => ws.length - (intOf i).toNat)
  case atStart => exact ⟨0, by omega, rfl, rfl, hb1⟩
  case round =>
    obtain ⟨k, hk, rfl, HN, hbk⟩ := hrel
    obtain ⟨r0, r1, r2⟩ := box_cells hbk
    have hz := box_size hbk
    by_cases hkl : k < ws.length
    · have hq := HQ.out.below (box_below hbk)
      obtain ⟨bq, oq, rfl⟩ := hq.addr (by omega)
      obtain ⟨j, hj⟩ : ∃ j, j = ws.length - 1 - k := ⟨_, rfl⟩
      have hjl : j < ws.length := by omega
      obtain ⟨e1, pk, ck, e2, hbi⟩ := hq.at2 hjl
      have hwt := HO.out.wait hjl
      have HK : Hid (nowK ws n (ws.length - k) = if (ws.getD j (0, [])).1 = n then some (ws.getD j (0, [])).2 else nowK ws n j) := by
        show _ = _
        rw [show ws.length - k = j + 1 from by omega]; rfl
      have hidx : (ws.length : Int) - 1 - (k : Int) = (j : Int) := by omega
      have HJ : Hid (ws.length - (k + 1) = j) := by show _ = _; omega
      rw [hwt.2.2] at e2
      generalize ws.getD j (0, []) = y at *
      obtain ⟨s, xs⟩ := y
      simp only at e1 e2 hbi hwt
      have HX : Hid (xs.length = 128) := hwt.2.2
      have HBI : Hid (BIn wr pk xs) := hbi
      clear hwt hbi hq hj
      by_cases hs : s = n
      · have HF : Hid (nowN data ws n = xs) := nowN_some (by rw [HN.out, HK.out]; simp [hs])
        have hsb : (s == (n : Int)) = true := by simpa using hs
        clear hs
        go_wp2_with fail
        refine (copyOf_any pk ck xs _ (HBI.out.alloc _) HX.out).mono ?_
        rintro e w3 ⟨g, rfl, hg1, hg2, hb3⟩
        have hb4 := (box_below (hbk.alloc (by omega) _)).trans (hb3.mono (by simp; omega))
        have hgz : w.heap.size ≤ g := by simp at hg1; omega
        have HG : Hid _ := hg2
        clear hg2 hg1 hb3
        go_wp2
        go_ret2
        refine ⟨⟨_, rfl, ?_⟩, hb4⟩
        rw [HF.out]
        exact ⟨g, rfl, hgz, HG.out, HX.out, HBI.out.2⟩
      · have HF : Hid (nowK ws n ws.length = nowK ws n (ws.length - (k + 1))) := by show _ = _; rw [HN.out, HK.out, HJ.out]; simp [hs]
        have hsb : (s == (n : Int)) = false := by simpa using hs
        clear hs
        go_wp2
        go_roundw
        case rel => exact ⟨k + 1, by omega, by go_num, HF, hbk.alloc (by omega) _⟩
        case measure => simp [intOf]; omega
    · obtain rfl : k = ws.length := by omega
      have HF : Hid (nowN data ws n = secN data n) := nowN_none (by rw [HN.out, Nat.sub_self]; rfl)
      clear HN
      go_wp2_with (go_at_call 59; refine (sector_any b o data.length c n _ (by omega) hnl hc).mono ?_; rintro e w2 ⟨rfl, rfl⟩)
      refine (copyOf_any _ _ (secN data n) _ (bin_sec (HB.out.below (box_below hbk)) n) HL.out).mono ?_
      rintro e w3 ⟨g, rfl, hg1, hg2, hb3⟩
      have hb4 := (box_below hbk).trans (hb3.mono (by omega))
      have HG : Hid _ := hg2
      clear hg2
      go_wp2
      go_ret2
      refine ⟨⟨_, rfl, ?_⟩, hb4⟩
      rw [HF.out]
      exact ⟨g, rfl, by omega, HG.out, HL.out, secN_mem HB.out.2⟩
end Go.Proofs.Ytnajjfdbmdjcbaa
namespace Go.Proofs.Ytnajjfdbmdjcbaa
open Go.RowKit Go.WideShapes

def logK (data : List Nat) (ws : Puts) (k : Nat) : List Nat := (List.range k).flatMap fun i => nowN data ws ((16 + i : Nat) : Int)
def logN (data : List Nat) (ws : Puts) : List Nat := logK data ws 64
theorem logK_snoc (data : List Nat) (ws : Puts) (k : Nat) : logK data ws (k + 1) = logK data ws k ++ nowN data ws ((16 + k : Nat) : Int) := by
  unfold logK; rw [List.range_succ, List.flatMap_append]; simp
structure LogIs (data : List Nat) (ws : Puts) (k : Nat) : Prop where
  len : (logK data ws k).length = k * 128
  byte : ∀ c ∈ logK data ws k, c < 256
theorem LogIs.next {data : List Nat} {ws : Puts} {k : Nat} (h : LogIs data ws k) (h1 : (nowN data ws ((16 + k : Nat) : Int)).length = 128) (h2 : ∀ c ∈ nowN data ws ((16 + k : Nat) : Int), c < 256) : LogIs data ws (k + 1) := by
  refine ⟨?_, ?_⟩
  · rw [logK_snoc, List.length_append, h.len, h1]; omega
  · intro c hc
    rw [logK_snoc] at hc
    rcases List.mem_append.1 hc with hc | hc
    · exact h.byte c hc
    · exact h2 c hc
theorem now_bad (v : Value) (count : Int) (data : List Nat) (ws : Puts) (w : World) (hd : DiskIn w v count data ws) (ho : ¬ Okay count data ws) :
    Calls Try.prog 37 #[v] w fun e w' => e = .returned (.tuple #[.slice none 0 0, .int .i64 20]) ∧ Below w.heap.size w w' := by
  obtain ⟨p, c, q, m, rfl, _⟩ := hd.parts
  have HD : Hid _ := hd
  have HO : Hid (¬ Okay count data ws) := ho
  clear hd ho
  go_enter Try.func37, Try.ntmps37
  go_wp2_with fail
  refine (check_bad _ count data ws _ (HD.out.below (below_alloc w _)) HO.out).mono ?_
  rintro e w1 ⟨rfl, hb1⟩
  have HB1 : Hid (Below w.heap.size w w1) := below_bt (below_alloc w _) hb1
  clear hb1
  go_wp2
  go_ret2
  exact ⟨rfl, HB1.out⟩
theorem now_few (v : Value) (count : Int) (data : List Nat) (ws : Puts) (w : World) (hd : DiskIn w v count data ws) (ho : Okay count data ws) (hc : count < 80) :
    Calls Try.prog 37 #[v] w fun e w' => e = .returned (.tuple #[.slice none 0 0, .int .i64 50]) ∧ Below w.heap.size w w' := by
  obtain ⟨p, c, q, m, rfl, _⟩ := hd.parts
  have HD : Hid _ := hd
  have HO : Hid (Okay count data ws) := ho
  clear hd ho
  go_enter Try.func37, Try.ntmps37
  go_wp2_with fail
  refine (check_ok _ count data ws _ (HD.out.below (below_alloc w _)) HO.out).mono ?_
  rintro e w1 ⟨rfl, hb1⟩
  have HB1 : Hid (Below w.heap.size w w1) := below_bt (below_alloc w _) hb1
  replace hb1 : Below (w.heap.size + 1) (w.alloc (.cells #[.int .i64 count, .slice p data.length c, .slice q ws.length m] 25)) w1 := by simpa using hb1
  obtain ⟨c0, c1, c2⟩ := box_cells hb1
  clear hb1
  go_wp2
  go_ret2
  exact ⟨rfl, HB1.out⟩
set_option maxRecDepth 8000 in
set_option maxHeartbeats 2000000 in
theorem now_ok (v : Value) (count : Int) (data : List Nat) (ws : Puts) (w : World) (hd : DiskIn w v count data ws) (ho : Okay count data ws) (hc : 80 ≤ count) :
    Calls Try.prog 37 #[v] w fun e w' => ∃ v', e = .returned (.tuple #[v', .int .i64 0]) ∧ w'.ownsRow w.heap.size 5 1 v' (logN data ws).length (Bs (logN data ws)) ∧ LogIs data ws 64 ∧ Below w.heap.size w w' := by
  obtain ⟨p, c, q, m, rfl, _⟩ := hd.parts
  have HD : Hid _ := hd
  have HO : Hid (Okay count data ws) := ho
  clear hd ho
  go_enter Try.func37, Try.ntmps37
  go_wp2_with fail
  refine (check_ok _ count data ws _ (HD.out.below (below_alloc w _)) HO.out).mono ?_
  rintro e w1 ⟨rfl, hb1⟩
  have S1 : St w [(w.heap.size, #[.int .i64 count, .slice p data.length c, .slice q ws.length m], 25)] w1 (.slice none 0 0) [] := by
    have h1 := (St.start (w := w) (bx := []) (fun p hp => by simp at hp)).alloc #[.int .i64 count, .slice p data.length c, .slice q ws.length m] 25 (by decide)
    exact h1.call hb1
  have HS1 : Hid _ := S1
  have c0 : w1.cell? ⟨w.heap.size, 0, none⟩ = some (.int .i64 count) := S1.cell (List.Mem.head _) 0
  clear hb1 S1
  go_wp2
  go_loopw [5, 6] (fun b i wr => ∃ k : Nat, k ≤ 64 ∧ i = .int .i64 ((16 + k : Nat) : Int) ∧ LogIs data ws k ∧ St w [(w.heap.size, #[.int .i64 count, .slice p data.length c, .slice q ws.length m], 25)] wr b (logK data ws k)) (fun _ i _ => 80 - (intOf i).toNat)
  case atStart => exact ⟨0, by omega, rfl, ⟨rfl, fun c hc => by cases hc⟩, HS1.out⟩
  case round =>
    obtain ⟨k, hk, rfl, hli, hst⟩ := hrel
    clear HS1 c0
    have HLI : Hid (LogIs data ws k) := hli
    have HST : Hid _ := hst
    by_cases hk64 : k < 64
    · have hkI : ((16 + k : Nat) : Int) < 80 := by omega
      have r0 : wr.cell? ⟨w.heap.size, 0, none⟩ = some (.int .i64 count) := hst.cell (List.Mem.head _) 0
      have r1 : wr.cell? ⟨w.heap.size, 1, none⟩ = some (.slice p data.length c) := hst.cell (List.Mem.head _) 1
      have r2 : wr.cell? ⟨w.heap.size, 2, none⟩ = some (.slice q ws.length m) := hst.cell (List.Mem.head _) 2
      have HK : Hid (k < 64) := hk64
      clear hli hst hk64
      obtain ⟨j, hj⟩ : ∃ j, 16 + k = j := ⟨_, rfl⟩
      have HJ : Hid (16 + k = j) := hj
      rw [hj] at hkI ⊢
      clear hj
      go_wp2_with fail
      refine (read_ok _ j count data ws _ (HD.out.below HST.out.bel) HO.out (by omega)).mono ?_
      rintro e w2 ⟨⟨v2, rfl, g, rfl, hg1, hg2, hg3, hg4⟩, hb2⟩
      have HI2 : Hid (BIn w2 (some ⟨g, 0, none⟩) (nowN data ws j)) := bin_row hg2 hg4
      have HN : Hid ((nowN data ws j).length = 128 ∧ ∀ c ∈ nowN data ws j, c < 256) := ⟨hg3, hg4⟩
      have S2 := HST.out.call hb2
      have hsz2 := S2.size
      have HS2 : Hid _ := S2
      clear S2 hg1 hg2 hg3 hg4 hb2 HST r0 r1 r2
      go_wp2_with (at_builtin; refine wpList_append_bytes _ rfl _ _ rfl w.heap.size _ _ (nowN data ws j) (some ⟨g, 0, none⟩) _ 128 rfl rfl HN.out.1.symm HS2.out.own HI2.out (fun h => by cases h) (by have := HLI.out.len; have := HN.out.1; have := HK.out; omega) hsz2 ?_; intro v3 w3 ho3 hg3; have S3 := HS2.out.app ho3 hg3; have HS3 : Hid _ := S3; clear S3 ho3 hg3)
      go_roundw
      case rel =>
        have hj := HJ.out
        subst hj
        exact ⟨k + 1, by have := HK.out; omega, by go_num, HLI.out.next HN.out.1 HN.out.2, HS3.out.eq (logK_snoc data ws k).symm⟩
      case measure => simp [intOf]; omega
    · obtain rfl : k = 64 := by omega
      clear hli hst
      go_wp2
      go_ret2
      exact ⟨_, rfl, HST.out.own, HLI.out, HST.out.bel⟩
/-- The epoch that the log's head holds. -/
def epochN (xs : List Nat) : Nat :=
  if joinN (xs.getD 0 0) (xs.getD 1 0) (xs.getD 2 0) (xs.getD 3 0) (xs.getD 4 0) (xs.getD 5 0) (xs.getD 6 0) (xs.getD 7 0) < 4294967296 ∧ ∀ c ∈ (xs.take 128).drop 8, c = 0 then joinN (xs.getD 0 0) (xs.getD 1 0) (xs.getD 2 0) (xs.getD 3 0) (xs.getD 4 0) (xs.getD 5 0) (xs.getD 6 0) (xs.getD 7 0) else 0
theorem epochN_lt (xs : List Nat) : epochN xs < 4294967296 := by
  unfold epochN
  split
  · rename_i h; exact h.1
  · omega
theorem take8 {xs : List Nat} (h : 8 ≤ xs.length) : xs.take 8 = [xs.getD 0 0, xs.getD 1 0, xs.getD 2 0, xs.getD 3 0, xs.getD 4 0, xs.getD 5 0, xs.getD 6 0, xs.getD 7 0] := by
  match xs, h with
  | a0 :: a1 :: a2 :: a3 :: a4 :: a5 :: a6 :: a7 :: ys, _ => rfl
set_option maxRecDepth 8000 in
set_option maxHeartbeats 2000000 in
theorem epochOf_any (b o m c : Nat) (xs : List Nat) (w : World) (r : Nat) (hm : m = xs.length) (h128 : 128 ≤ m) (hmc : m ≤ c) (hcm : c ≤ maxLen) (hb : BIn w (some ⟨b, o, none⟩) xs) (hr : epochN xs = r) :
    Calls Try.prog 60 #[.slice (some ⟨b, o, none⟩) m c] w fun e w' => e = .returned (.int .u32 r) ∧ Below w.heap.size w w' := by
  obtain ⟨J, hJ⟩ : ∃ J, joinN (xs.getD 0 0) (xs.getD 1 0) (xs.getD 2 0) (xs.getD 3 0) (xs.getD 4 0) (xs.getD 5 0) (xs.getD 6 0) (xs.getD 7 0) = J := ⟨_, rfl⟩
  have HB8 : Hid (BIn w (some ⟨b, o, none⟩) [xs.getD 0 0, xs.getD 1 0, xs.getD 2 0, xs.getD 3 0, xs.getD 4 0, xs.getD 5 0, xs.getD 6 0, xs.getD 7 0]) := by
    have := hb.take' 8
    rw [take8 (by omega)] at this
    exact this
  have HB120 : Hid (BIn w (some ⟨b, o + 8, none⟩) ((xs.take 128).drop 8)) := (hb.take' 128).drop' 8
  have HL : Hid (120 = ((xs.take 128).drop 8).length) := by show _ = _; rw [List.length_drop, List.length_take]; omega
  have HC : Hid (128 ≤ c ∧ c ≤ maxLen) := ⟨by omega, hcm⟩
  have hcI : (128 : Int) ≤ c := by omega
  have HR : Hid ((if J < 4294967296 ∧ ∀ c ∈ (xs.take 128).drop 8, c = 0 then J else 0) = r) := by show _ = _; rw [← hr, ← hJ]; rfl
  have HJ : Hid _ := hJ
  clear hJ hm h128 hmc hcm hb hr
  have HG : Hid (∀ w' c', Below w.heap.size w w' → Calls Try.prog 71 #[.slice (some ⟨b, o, none⟩) 8 c'] w' fun e w2 => e = .returned (.tuple #[.int .u64 J, .int .i64 0]) ∧ Below w'.heap.size w' w2) := fun w' c' hb' => by
    have := get_ok (some ⟨b, o, none⟩) c' _ _ _ _ _ _ _ _ w' (HB8.out.below hb')
    rw [HJ.out] at this
    exact this
  clear HB8 HJ
  go_enter Try.func60, Try.ntmps60
  go_wp2_with fail
  refine (HG.out _ _ (Below.refl _ _)).mono ?_
  rintro e w1 ⟨rfl, hb1⟩
  have HB1 : Hid (Below w.heap.size w w1) := hb1
  clear hb1 HG
  by_cases hj : J < 4294967296
  · have g1 : decide ((4294967295 : Int) < (J : Int)) = false := decide_eq_false (by omega)
    have HJL : Hid (J < 4294967296) := hj
    have kw : IntKind.u32.wrap (J : Int) = J := by rw [IntKind.wrap_u32']; omega
    clear hj
    by_cases hz : ∀ c ∈ (xs.take 128).drop 8, c = 0
    · have HZ : Hid (decide (∀ c ∈ (xs.take 128).drop 8, c = 0) = true) := decide_eq_true hz
      have HF : Hid (J = r) := by show _ = _; rw [← HR.out, if_pos ⟨HJL.out, hz⟩]
      clear hz
      go_wp2_with (go_at_call 72; refine (noughts_any _ _ 120 _ true _ HL.out (by have := HC.out; omega) (by have := HC.out; omega) (HB120.out.below HB1.out) HZ.out).mono ?_; rintro e w2 ⟨rfl, rfl⟩)
      go_ret
      exact ⟨by rw [HF.out]; rfl, HB1.out⟩
    · have HZ : Hid (decide (∀ c ∈ (xs.take 128).drop 8, c = 0) = false) := decide_eq_false hz
      have HF : Hid (0 = r) := by show _ = _; rw [← HR.out, if_neg (fun h => hz h.2)]
      clear hz
      go_wp2_with (go_at_call 72; refine (noughts_any _ _ 120 _ false _ HL.out (by have := HC.out; omega) (by have := HC.out; omega) (HB120.out.below HB1.out) HZ.out).mono ?_; rintro e w2 ⟨rfl, rfl⟩)
      go_ret
      exact ⟨by rw [← HF.out]; rfl, HB1.out⟩
  · have g1 : decide ((4294967295 : Int) < (J : Int)) = true := decide_eq_true (by omega)
    have HF : Hid (0 = r) := by show _ = _; rw [← HR.out, if_neg (fun h => hj h.1)]
    clear hj
    go_wp2
    go_ret
    exact ⟨by rw [← HF.out]; rfl, HB1.out⟩
end Go.Proofs.Ytnajjfdbmdjcbaa
