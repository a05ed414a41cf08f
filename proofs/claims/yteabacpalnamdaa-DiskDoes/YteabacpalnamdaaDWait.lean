/-
  Contract of the call wait: a write put behind those that wait, on a disk of the caller's own; or the error.
-/
import Derived.Test.YteabacpalnamdaaDSettle
import Derived.Test.YteabacpalnamdaaHeld
namespace Go.Proofs.Yteabacpalnamdaa
open Go.RowKit Go.WideShapes
attribute [local go_sem ↓] Go.wp_at_zero Go.wp_at_succ

set_option maxHeartbeats 2000000 in
theorem wait_range (base B0 gd : Nat) (count : Int) (data : List Nat) (q : Option Addr) (m : Nat) (ws : Puts) (gs : List Nat) (s : Int) (pv : Value) (w : World) (hd : DiskOwn w base B0 gd count data q m ws gs) (hs : ¬ (0 ≤ s ∧ s < count)) :
    Calls Try.prog 45 #[.pointer (some ⟨B0, 0, none⟩), .agg #[.int .i64 s, pv]] w fun e w' => e = .returned (.int .i64 21) ∧ Below w.heap.size w w' := by
  have hlt := lt_heap hd.box
  obtain ⟨hc0, hc1, hc2⟩ := (hd.below (below_alloc w (.cells #[.int .i64 s, pv] 51))).cells
  obtain ⟨hp0, hp1⟩ := put_cells (Below.refl _ (w.alloc (.cells #[.int .i64 s, pv] 51)))
  have hb1 := below_alloc w (.cells #[.int .i64 s, pv] 51)
  clear hd
  go_enter Try.func45, Try.ntmps45
  go_wp2
  obtain ⟨w1, hw1⟩ : ∃ w1, w1 = w.alloc (.cells #[.int .i64 s, pv] 51) := ⟨_, rfl⟩
  rw [← hw1] at hc0 hc1 hc2 hp0 hp1 hb1 ⊢
  have hsz : w.heap.size < w1.heap.size := by rw [hw1]; simp
  clear hw1
  go_region_held3 (fun w' => w'.cell? ⟨B0, 0, none⟩ = some (.int .i64 count) ∧ w'.cell? ⟨B0, 1, none⟩ = some (.slice (some ⟨gd, 0, none⟩) data.length data.length) ∧ w'.cell? ⟨B0, 2, none⟩ = some (.slice q ws.length m) ∧ w'.cell? ⟨w.heap.size, 0, none⟩ = some (.int .i64 s)) (go_keep)
    (first
      | (go_at_call 37; refine (has_any count s _ _ _).mono ?_; rintro e w2 ⟨rfl, ob, rfl⟩; rw [decide_eq_false hs])
      | fail)
  go_wp2
  go_ret
  exact ⟨rfl, (hb1.drew).alloc (by show _ ≤ w1.heap.size; omega) _⟩
set_option maxHeartbeats 2000000 in
theorem wait_bad (base B0 gd : Nat) (count : Int) (data : List Nat) (q : Option Addr) (m : Nat) (ws : Puts) (gs : List Nat) (s : Int) (pk : Option Addr) (ck : Nat) (xs : List Nat) (w : World) (hd : DiskOwn w base B0 gd count data q m ws gs) (hs : 0 ≤ s ∧ s < count) (hx : xs.length ≠ 128) :
    Calls Try.prog 45 #[.pointer (some ⟨B0, 0, none⟩), .agg #[.int .i64 s, .slice pk xs.length ck]] w fun e w' => e = .returned (.int .i64 8) ∧ Below w.heap.size w w' := by
  have hlt := lt_heap hd.box
  obtain ⟨hc0, hc1, hc2⟩ := (hd.below (below_alloc w (.cells #[.int .i64 s, .slice pk xs.length ck] 51))).cells
  obtain ⟨hp0, hp1⟩ := put_cells (Below.refl _ (w.alloc (.cells #[.int .i64 s, .slice pk xs.length ck] 51)))
  have hb1 := below_alloc w (.cells #[.int .i64 s, .slice pk xs.length ck] 51)
  clear hd
  have hxb : ((xs.length : Int) != 128) = true := by simp; omega
  clear hx
  go_enter Try.func45, Try.ntmps45
  go_wp2
  obtain ⟨w1, hw1⟩ : ∃ w1, w1 = w.alloc (.cells #[.int .i64 s, .slice pk xs.length ck] 51) := ⟨_, rfl⟩
  rw [← hw1] at hc0 hc1 hc2 hp0 hp1 hb1 ⊢
  have hsz : w.heap.size < w1.heap.size := by rw [hw1]; simp
  clear hw1
  go_region_held3 (fun w' => w'.cell? ⟨B0, 0, none⟩ = some (.int .i64 count) ∧ w'.cell? ⟨B0, 1, none⟩ = some (.slice (some ⟨gd, 0, none⟩) data.length data.length) ∧ w'.cell? ⟨B0, 2, none⟩ = some (.slice q ws.length m) ∧ w'.cell? ⟨w.heap.size, 0, none⟩ = some (.int .i64 s)) (go_keep)
    (first
      | (go_at_call 37; refine (has_any count s _ _ _).mono ?_; rintro e w2 ⟨rfl, ob, rfl⟩; rw [decide_eq_true hs])
      | fail)
  go_wp2
  go_ret
  exact ⟨rfl, (hb1.drew).alloc (by show _ ≤ w1.heap.size; omega) _⟩
set_option maxRecDepth 100000 in
set_option maxHeartbeats 2000000 in
theorem wait_many (base B0 gd : Nat) (count : Int) (data : List Nat) (q : Option Addr) (m : Nat) (ws : Puts) (gs : List Nat) (s : Int) (pk : Option Addr) (ck : Nat) (w : World) (hd : DiskOwn w base B0 gd count data q m ws gs) (hs : 0 ≤ s ∧ s < count) (hm : 4096 ≤ ws.length) :
    Calls Try.prog 45 #[.pointer (some ⟨B0, 0, none⟩), .agg #[.int .i64 s, .slice pk 128 ck]] w fun e w' => e = .returned (.int .i64 4) ∧ Below w.heap.size w w' := by
  have hlt := lt_heap hd.box
  obtain ⟨hc0, hc1, hc2⟩ := (hd.below (below_alloc w (.cells #[.int .i64 s, .slice pk 128 ck] 51))).cells
  obtain ⟨hp0, hp1⟩ := put_cells (Below.refl _ (w.alloc (.cells #[.int .i64 s, .slice pk 128 ck] 51)))
  have hb1 := below_alloc w (.cells #[.int .i64 s, .slice pk 128 ck] 51)
  clear hd
  go_enter Try.func45, Try.ntmps45
  go_wp2
  obtain ⟨w1, hw1⟩ : ∃ w1, w1 = w.alloc (.cells #[.int .i64 s, .slice pk 128 ck] 51) := ⟨_, rfl⟩
  rw [← hw1] at hc0 hc1 hc2 hp0 hp1 hb1 ⊢
  have hsz : w.heap.size < w1.heap.size := by rw [hw1]; simp
  clear hw1
  go_region_held3 (fun w' => w'.cell? ⟨B0, 0, none⟩ = some (.int .i64 count) ∧ w'.cell? ⟨B0, 1, none⟩ = some (.slice (some ⟨gd, 0, none⟩) data.length data.length) ∧ w'.cell? ⟨B0, 2, none⟩ = some (.slice q ws.length m) ∧ w'.cell? ⟨w.heap.size, 0, none⟩ = some (.int .i64 s)) (go_keep)
    (first
      | (go_at_call 37; refine (has_any count s _ _ _).mono ?_; rintro e w2 ⟨rfl, ob, rfl⟩; rw [decide_eq_true hs])
      | fail)
  go_wp2
  go_ret
  exact ⟨rfl, (hb1.drew).alloc (by show _ ≤ w1.heap.size; omega) _⟩
theorem DiskOwn.pushed {w3 w4 : World} {base B0 gd : Nat} {count : Int} {data : List Nat} {q : Option Addr} {m : Nat} {ws : Puts} {gs : List Nat} (h : DiskOwn w3 base B0 gd count data q m ws gs) {s : Int} {xs : List Nat} {g g' cap' : Nat} {o : Obj} (hx : xs.length = 128 ∧ ∀ c ∈ xs, c < 256) (hb : base ≤ g)
    (hg : w3.heap[g]? = some (.cells (Bs xs).toArray 5 (0, 0))) (hne : g ≠ gd) (hown : w4.ownsRow base 51 2 (.slice (some ⟨g', 0, none⟩) (ws.length + 1) cap') (ws.length + 1) (cellsP ws gs ++ [.int .i64 s, .slice (some ⟨g, 0, none⟩) 128 128])) (hgrow : (w3.alloc o).grownBy w4 (Value.slice q ws.length m).ownBlock)
    (hN2 : some B0 ≠ (Value.slice q ws.length m).ownBlock) :
    DiskOwn (w4.setCell ⟨B0, 2, none⟩ (.slice (some ⟨g', 0, none⟩) (ws.length + 1) cap')) base B0 gd count data (some ⟨g', 0, none⟩) cap' (ws ++ [(s, xs)]) (gs ++ [g]) := by
  have ha := h.below (below_alloc w3 o)
  have P4 := ha.puts.push hx hb (((below_alloc w3 o).block _ (lt_heap hg)).trans hg) hown hgrow
  have box4 := (hgrow.block _ (lt_heap ha.box) hN2).trans ha.box
  have d4 : w4.heap[gd]? = some (.cells (Bs data).toArray 5 (0, 0)) := by
    refine (hgrow.block _ (lt_heap ha.drow) ?_).trans ha.drow
    intro e
    rcases ha.puts.row.2 with ⟨hv, _⟩ | ⟨g1, cap, cur, hv, _, h3, _⟩
    · rw [hv] at e; simp [Value.ownBlock] at e
    · rw [hv] at e
      simp only [Value.ownBlock, Option.some.injEq] at e
      subst e
      rw [ha.drow] at h3
      simp at h3
  have hBne : ∀ (k : Nat) (cs : Array Value) (t : TypeId), t ≠ 25 → w4.heap[k]? = some (.cells cs t (0, 0)) → k ≠ B0 := by
    rintro k cs t ht hk rfl
    rw [box4] at hk
    simp only [Option.some.injEq, Obj.cells.injEq] at hk
    exact ht hk.2.1.symm
  refine ⟨?_, h.hB, h.hgd, ?_, ?_, ?_, h.bytes⟩
  · rw [heap_setCell_same w4 B0 2 _ _ _ box4]
    simp
  · rw [heap_setCell_other w4 ⟨B0, 2, none⟩ gd _ (hBne gd _ _ (by decide) d4)]
    exact d4
  · have e : (ws ++ [(s, xs)]).length = ws.length + 1 := by simp
    rw [e]
    exact P4.keep (fun k cur _ hk => heap_setCell_other w4 ⟨B0, 2, none⟩ k _ (hBne k _ _ (by decide) hk)) (fun i hi => heap_setCell_other w4 ⟨B0, 2, none⟩ _ _ (hBne _ _ _ (by decide) (P4.rows i hi).2))
  · intro i hi
    simp only [List.length_append, List.length_singleton] at hi
    rcases Nat.lt_or_ge i ws.length with h' | h'
    · have e1 : (gs ++ [g]).getD i 0 = gs.getD i 0 := by simp [List.getD, List.getElem?_append_left (show i < gs.length by rw [h.puts.len]; exact h')]
      rw [e1]
      exact h.apart i h'
    · obtain rfl : i = ws.length := by omega
      have e1 : (gs ++ [g]).getD ws.length 0 = g := by rw [← h.puts.len]; simp [List.getD]
      rw [e1]
      exact hne
theorem below_undrew {B : Nat} {w w' : World} (h : Below B w.drew w') : Below B w w' := ⟨h.os, h.tape, h.output, h.size, h.block⟩
theorem below_cell_some {w w' : World} {a : Addr} {v : Value} (hb : Below w.heap.size w w') (h : w.cell? a = some v) : w'.cell? a = some v := (hb.cell (World.block_lt_of_cell? _ _ h)).trans h
theorem c2_setCell {w1 : World} {B : Nat} {x y : Value} (h : w1.cell? ⟨B, 0, none⟩ = some x ∧ w1.cell? ⟨B, 1, none⟩ = some y) {a : Addr} (hne : B ≠ a.block) (v : Value) : (w1.setCell a v).cell? ⟨B, 0, none⟩ = some x ∧ (w1.setCell a v).cell? ⟨B, 1, none⟩ = some y :=
  ⟨(World.cell?_of_block (Below.heap_setCell w1 a v B hne)).trans h.1, (World.cell?_of_block (Below.heap_setCell w1 a v B hne)).trans h.2⟩
set_option maxRecDepth 100000 in
set_option maxHeartbeats 2000000 in
theorem wait_ok (base B0 gd : Nat) (count : Int) (data : List Nat) (q : Option Addr) (m : Nat) (ws : Puts) (gs : List Nat) (s : Int) (pk : Option Addr) (ck : Nat) (xs : List Nat) (w : World) (hd : DiskOwn w base B0 gd count data q m ws gs) (hs : 0 ≤ s ∧ s < count) (hx : xs.length = 128) (hm : ws.length < 4096) (hin : BIn w pk xs) (hbs : base ≤ w.heap.size) :
    Calls Try.prog 45 #[.pointer (some ⟨B0, 0, none⟩), .agg #[.int .i64 s, .slice pk 128 ck]] w fun e w' => e = .returned (.int .i64 0) ∧ (∃ q' m' gs', DiskOwn w' base B0 gd count data q' m' (ws ++ [(s, xs)]) gs') ∧ Below base w w' := by
  have HX : Hid (xs.length = 128) := hx
  clear hx
  have hlt := lt_heap hd.box
  obtain ⟨hc0, hc1, hc2⟩ := (hd.below (below_alloc w (.cells #[.int .i64 s, .slice pk 128 ck] 51))).cells
  obtain ⟨hp0, hp1⟩ := put_cells (Below.refl _ (w.alloc (.cells #[.int .i64 s, .slice pk 128 ck] 51)))
  have hb1 := below_alloc w (.cells #[.int .i64 s, .slice pk 128 ck] 51)
  have HD : Hid _ := hd
  have HI : Hid (BIn w pk xs) := hin
  clear hd hin
  obtain ⟨i0, hi, hz0, hz1, hz2⟩ := info_parts info_put
  go_enter Try.func45, Try.ntmps45
  go_wp2
  obtain ⟨w1, hw1⟩ : ∃ w1, w1 = w.alloc (.cells #[.int .i64 s, .slice pk 128 ck] 51) := ⟨_, rfl⟩
  rw [← hw1] at hc0 hc1 hc2 hp0 hp1 hb1 ⊢
  have hsz : w.heap.size < w1.heap.size := by rw [hw1]; simp
  clear hw1
  go_region_held3 (fun w' => w'.cell? ⟨B0, 0, none⟩ = some (.int .i64 count) ∧ w'.cell? ⟨B0, 1, none⟩ = some (.slice (some ⟨gd, 0, none⟩) data.length data.length) ∧ w'.cell? ⟨B0, 2, none⟩ = some (.slice q ws.length m) ∧ w'.cell? ⟨w.heap.size, 0, none⟩ = some (.int .i64 s)) (go_keep)
    (first
      | (go_at_call 37; refine (has_any count s _ _ _).mono ?_; rintro e w2 ⟨rfl, ob, rfl⟩; rw [decide_eq_true hs])
      | fail)
  go_wp2
  have hd2 : Hid (DiskOwn (w1.alloc ob).drew base B0 gd count data q m ws gs) := by
    have h := (HD.out.below hb1).below (below_alloc w1 ob)
    exact ⟨h.box, h.hB, h.hgd, h.drow, h.puts.below ⟨rfl, rfl, rfl, Nat.le_refl _, fun _ _ => rfl⟩, h.apart, h.bytes⟩
  have hbb2 : Below w.heap.size w (w1.alloc ob).drew := (hb1.alloc (by omega) ob).drew
  have hin2 : Hid (BIn (w1.alloc ob).drew pk xs) := HI.out.below hbb2
  have HC' : Hid ((w1.alloc ob).drew.cell? ⟨w.heap.size, 0, none⟩ = some (.int .i64 s) ∧ (w1.alloc ob).drew.cell? ⟨w.heap.size, 1, none⟩ = some (.slice pk 128 ck)) := c2_alloc ⟨hp0, hp1⟩ ob
  have hsz2 : w.heap.size < (w1.alloc ob).drew.heap.size := by show _ < (w1.alloc ob).heap.size; rw [World.size_alloc]; omega
  clear hp0 hp1 hc0 hc1 hc2 hb1
  generalize (w1.alloc ob).drew = w2 at *
  have HC := HC'.out
  have hc2 := hd2.out.cells.2.2
  have HN : Hid (some w.heap.size ≠ (Value.slice q ws.length m).ownBlock) := by
    intro e
    have := (HD.out.puts.row.lt _ e.symm).2
    omega
  have HN2 : Hid (some B0 ≠ (Value.slice q ws.length m).ownBlock) := by
    intro e
    have h1 := HD.out.box
    rcases HD.out.puts.row.2 with ⟨hv, _⟩ | ⟨g', cap, cur, hv, _, h3, _⟩
    · rw [hv] at e; simp [Value.ownBlock] at e
    · rw [hv] at e
      simp only [Value.ownBlock, Option.some.injEq] at e
      subst e
      rw [h1] at h3
      simp at h3
  refine wp_region_noPanic ?_
  have HT : w2.drew.cell? ⟨w.heap.size, 0, none⟩ = some (.int .i64 s) ∧ w2.drew.cell? ⟨w.heap.size, 1, none⟩ = some (.slice pk 128 ck) := HC
  have HS : w2.drew.cell? ⟨B0, 2, none⟩ = some (.slice q ws.length m) := hc2
  clear HC hc2
  refine beginZ (T := fun w' => w'.cell? ⟨w.heap.size, 0, none⟩ = some (.int .i64 s) ∧ w'.cell? ⟨w.heap.size, 1, none⟩ = some (.slice pk 128 ck)) (S := fun w' => w'.cell? ⟨B0, 2, none⟩ = some (.slice q ws.length m)) 15 (by kernel_rfl) ?_
  refine takeT 0 22 (v := ?_) rfl rfl (by kernel_rfl) (by kernel_rfl) (by kernel_rfl) (by kernel_rfl) (fun _ _ _ h => h) (by rfl) ?_ (by assumption) (by assumption) ?_
  rotate_left
  · intro w hTw; go_simp; first | done | with_reducible rfl
  simp only [Act.put, List.setIfInBounds_toArray, List.set_cons_zero, List.set_cons_succ]
  refine takeT 1 23 (v := ?_) rfl rfl (by kernel_rfl) (by kernel_rfl) (by kernel_rfl) (by kernel_rfl) (fun _ _ _ h => h) (by rfl) ?_ (by assumption) (by assumption) ?_
  rotate_left
  · intro w hTw; go_simp; first | done | with_reducible rfl
  simp only [Act.put, List.setIfInBounds_toArray, List.set_cons_zero, List.set_cons_succ]
  refine takeT 2 24 (v := ?_) rfl rfl (by kernel_rfl) (by kernel_rfl) (by kernel_rfl) (by kernel_rfl) (fun _ _ _ h => h) (by rfl) ?_ (by assumption) (by assumption) ?_
  rotate_left
  · intro w hTw; go_simp; first | done | with_reducible rfl
  simp only [Act.put, List.setIfInBounds_toArray, List.set_cons_zero, List.set_cons_succ]
  refine takeT 3 25 (v := ?_) rfl rfl (by kernel_rfl) (by kernel_rfl) (by kernel_rfl) (by kernel_rfl) (fun _ _ _ h => h) (by rfl) ?_ (by assumption) (by assumption) ?_
  rotate_left
  · intro w hTw; go_simp; first | done | with_reducible rfl
  simp only [Act.put, List.setIfInBounds_toArray, List.set_cons_zero, List.set_cons_succ]
  refine takeZ 4 26 12 (v := ?_) rfl rfl (by kernel_rfl) (by kernel_rfl) (by kernel_rfl) (by kernel_rfl) (by kernel_rfl) (by kernel_rfl) (by kernel_rfl) (fun _ _ _ h => h) (by rfl) ?_ (by assumption) (by assumption) ?_
  rotate_left
  · intro w hTw hSw; go_simp; first | done | with_reducible rfl
  simp only [Act.put, List.setIfInBounds_toArray, List.set_cons_zero, List.set_cons_succ]
  refine takeT 5 27 (v := ?_) rfl rfl (by kernel_rfl) (by kernel_rfl) (by kernel_rfl) (by kernel_rfl) (fun _ _ _ h => h) (by rfl) ?_ (by assumption) (by assumption) ?_
  rotate_left
  · intro w hTw; go_simp; first | done | with_reducible rfl
  simp only [Act.put, List.setIfInBounds_toArray, List.set_cons_zero, List.set_cons_succ]
  refine takeT 6 28 (v := ?_) rfl rfl (by kernel_rfl) (by kernel_rfl) (by kernel_rfl) (by kernel_rfl) (fun _ _ _ h => h) (by rfl) ?_ (by assumption) (by assumption) ?_
  rotate_left
  · intro w hTw; go_simp; first | done | with_reducible rfl
  simp only [Act.put, List.setIfInBounds_toArray, List.set_cons_zero, List.set_cons_succ]
  refine takeT 7 29 (v := ?_) rfl rfl (by kernel_rfl) (by kernel_rfl) (by kernel_rfl) (by kernel_rfl) (fun _ _ _ h => h) (by rfl) ?_ (by assumption) (by assumption) ?_
  rotate_left
  · intro w hTw; go_simp; first | done | with_reducible rfl
  simp only [Act.put, List.setIfInBounds_toArray, List.set_cons_zero, List.set_cons_succ]
  refine takeT 8 30 (v := ?_) rfl rfl (by kernel_rfl) (by kernel_rfl) (by kernel_rfl) (by kernel_rfl) (fun _ _ _ h => h) (by rfl) ?_ (by assumption) (by assumption) ?_
  rotate_left
  · intro w hTw; go_simp; first | done | with_reducible rfl
  simp only [Act.put, List.setIfInBounds_toArray, List.set_cons_zero, List.set_cons_succ]
  refine oneZ 9 (by kernel_rfl) rfl (by rfl) (fun K hK => ?_)
  go_simp
  refine (copyOf_any pk ck xs w2.drew (show BIn w2.drew pk xs from hin2.out) HX.out).mono ?_
  rintro e w3 ⟨g, rfl, hg1, hg2, hb3⟩
  have hc3 := below_cell_some hb3 HS
  have hT3 := c2_below HC'.out hb3
  go_simp
  refine hK.out _ _ hT3 hc3 (fun hTx hSx => ?_)
  clear hK K hT3 hc3 HT HS
  refine takeT 10 32 (v := ?_) rfl rfl (by kernel_rfl) (by kernel_rfl) (by kernel_rfl) (by kernel_rfl) (fun _ _ _ h => h) (by rfl) ?_ (by assumption) (by assumption) ?_
  rotate_left
  · intro w hTw; go_simp; first | done | with_reducible rfl
  simp only [Act.put, List.setIfInBounds_toArray, List.set_cons_zero, List.set_cons_succ]
  refine oneZ 11 (by kernel_rfl) rfl (by rfl) (fun K hK => ?_)
  go_simp
  refine hK.out _ _ (c2_alloc hTx _) (below_cell_some (below_alloc w3 _) hSx) (fun hTy hSy => ?_)
  clear hK K hTx hSx
  refine oneZ 12 (by kernel_rfl) rfl (by rfl) (fun K hK => ?_)
  refine step_append_lies _ (by rfl) (.tmp 26) (.tmp 33) 23 (by rfl) base 51 i0 _ 2 32 Try.underlying23 hi hz0 hz1 hz2 rfl (by omega) (.slice q ws.length m) ws.length (cellsP ws gs) (by rfl) ((hd2.out.puts.below (below_undrew hb3)).row.alloc _) ⟨w3.heap.size, 0, none⟩ 1 1 [.int .i64 s, .slice (some ⟨g, 0, none⟩) 128 128] (by rfl) (by rfl) (World.news_of_block (cs := #[.int .i64 s, .slice (some ⟨g, 0, none⟩) 128 128]) (t := 51) (fr := (0, 0)) (heap_alloc_new w3 _)) (two_oneCell _ _ _ _) (by omega) (by unfold maxLen; omega) (by omega) (by have := hb3.size; have := hbb2.size; rw [World.size_alloc]; simp at *; omega) (w3.heap.size + 1) (by simp) ?_
  intro g' cap' w4 hown4 hgrow hat hlt4
  refine hK.out _ _ (c2_grown hTy hgrow HN.out) (hgrow.cell hSy HN2.out) (fun hTx hSx => ?_)
  clear hK K hTy hSy hat hlt4
  show wpAnyZ _ _ _ _ _ _ _ _ _ (Act.put _ (some 34) _) _
  simp only [Act.put, List.setIfInBounds_toArray, List.set_cons_zero, List.set_cons_succ]
  refine takeT 13 35 (v := ?_) rfl rfl (by kernel_rfl) (by kernel_rfl) (by kernel_rfl) (by kernel_rfl) (fun _ _ _ h => h) (by rfl) ?_ (by assumption) (by assumption) ?_
  rotate_left
  · intro w hTw; go_simp; first | done | with_reducible rfl
  simp only [Act.put, List.setIfInBounds_toArray, List.set_cons_zero, List.set_cons_succ]
  refine takeT 14 36 (v := ?_) rfl rfl (by kernel_rfl) (by kernel_rfl) (by kernel_rfl) (by kernel_rfl) (fun _ _ _ h => h) (by rfl) ?_ (by assumption) (by assumption) ?_
  rotate_left
  · intro w hTw; go_simp; first | done | with_reducible rfl
  simp only [Act.put, List.setIfInBounds_toArray, List.set_cons_zero, List.set_cons_succ]
  have hbox4 := (hgrow.block _ (by rw [World.size_alloc]; have := hb3.size; have := hsz2; show B0 < _; simp at *; omega) HN2.out).trans (((below_alloc w3 (.cells #[.int .i64 s, .slice (some ⟨g, 0, none⟩) 128 128] 51)).block _ (lt_heap ((hb3.block _ (lt_heap hd2.out.box)).trans hd2.out.box))).trans ((hb3.block _ (lt_heap hd2.out.box)).trans hd2.out.box))
  have hfr := frozen_of_row w4 B0 2 _ _ hbox4
  have HBX : Hid _ := hbox4
  clear hbox4
  refine lastZ (by kernel_rfl) rfl (by rfl) (fun K hK => ?_)
  go_simp
  refine hK.out _ _ (c2_setCell hTx (by simp; omega) _) ?_
  clear hK K
  refine doneZ (by kernel_rfl) (NoPanic.normal ?_) _
  go_wp2
  go_ret
  have hd3 := hd2.out.below (below_undrew hb3)
  have z2 := hbb2.size
  have z3 : w2.heap.size ≤ w3.heap.size := hb3.size
  refine ⟨rfl, ⟨_, _, _, hd3.pushed ⟨HX.out, HI.out.2⟩ (Nat.le_trans (show base ≤ w2.heap.size by omega) hg1) hg2 ?_ hown4 hgrow HN2.out⟩, ?_⟩
  · have := lt_heap hd2.out.drow
    have : w2.heap.size ≤ g := hg1
    omega
  · have b3 : Below base w w3 := (hbb2.mono hbs).trans ((below_undrew hb3).mono (show base ≤ w2.heap.size by omega))
    exact ((b3.alloc (by omega) _).grown hgrow (by rw [World.size_alloc]; omega) (fun x hx => (hd3.puts.row.lt x hx).1)).setCell HD.out.hB _
end Go.Proofs.Yteabacpalnamdaa
