/-
  Contract of the call Do: acts, one behind the other.
-/
import Derived.Test.YtglcpfnpbcnejaaGreatDoorJ17
import Derived.Laws.ResultCell
import Derived.WalkKit
import Derived.WideShapes
import Derived.Deep.RegionHeld3
import Derived.Deep.Cut
namespace Go.Proofs.YtglcpfnpbcnejaaGreatDoor
set_option maxRecDepth 8000
open Go.RowKit Go.WideShapes
attribute [local go_sem ↓] Go.wp_at_zero Go.wp_at_succ

set_option maxHeartbeats 2000000 in
theorem wait_range (base B0 gd : Nat) (count : Int) (data : List Nat) (q : Option Addr) (m : Nat) (ws : Puts) (gs : List Nat) (s : Int) (pv : Value) (w : World) (hd : DiskOwn w base B0 gd count data q m ws gs) (hs : ¬ (0 ≤ s ∧ s < count)) :
    Calls Tryz.prog 43 #[.pointer (some ⟨B0, 0, none⟩), .agg #[.int .i64 s, pv]] w fun e w' => e = .returned (.int .i64 21) ∧ Below w.heap.size w w' := by
  have hlt := lt_heap hd.box
  obtain ⟨hc0, hc1, hc2⟩ := (hd.below (below_alloc w (.cells #[.int .i64 s, pv] 45))).cells
  obtain ⟨hp0, hp1⟩ := put_cells (Below.refl _ (w.alloc (.cells #[.int .i64 s, pv] 45)))
  have hb1 := below_alloc w (.cells #[.int .i64 s, pv] 45)
  clear hd
  go_enter Tryz.func43, Tryz.ntmps43
  go_wp2
  obtain ⟨w1, hw1⟩ : ∃ w1, w1 = w.alloc (.cells #[.int .i64 s, pv] 45) := ⟨_, rfl⟩
  rw [← hw1] at hc0 hc1 hc2 hp0 hp1 hb1 ⊢
  have hsz : w.heap.size < w1.heap.size := by rw [hw1]; simp
  clear hw1
  go_region_held3 (fun w' => w'.cell? ⟨B0, 0, none⟩ = some (.int .i64 count) ∧ w'.cell? ⟨B0, 1, none⟩ = some (.slice (some ⟨gd, 0, none⟩) data.length data.length) ∧ w'.cell? ⟨B0, 2, none⟩ = some (.slice q ws.length m) ∧ w'.cell? ⟨w.heap.size, 0, none⟩ = some (.int .i64 s)) (go_keep)
    (first
      | (go_at_call 75; refine (has_any count s _ _ _).mono ?_; rintro e w2 ⟨rfl, ob, rfl⟩; rw [decide_eq_false hs])
      | fail)
  go_wp2
  go_ret
  exact ⟨rfl, (hb1.drew).alloc (by show _ ≤ w1.heap.size; omega) _⟩
set_option maxHeartbeats 2000000 in
theorem wait_bad (base B0 gd : Nat) (count : Int) (data : List Nat) (q : Option Addr) (m : Nat) (ws : Puts) (gs : List Nat) (s : Int) (pk : Option Addr) (ck : Nat) (xs : List Nat) (w : World) (hd : DiskOwn w base B0 gd count data q m ws gs) (hs : 0 ≤ s ∧ s < count) (hx : xs.length ≠ 128) :
    Calls Tryz.prog 43 #[.pointer (some ⟨B0, 0, none⟩), .agg #[.int .i64 s, .slice pk xs.length ck]] w fun e w' => e = .returned (.int .i64 8) ∧ Below w.heap.size w w' := by
  have hlt := lt_heap hd.box
  obtain ⟨hc0, hc1, hc2⟩ := (hd.below (below_alloc w (.cells #[.int .i64 s, .slice pk xs.length ck] 45))).cells
  obtain ⟨hp0, hp1⟩ := put_cells (Below.refl _ (w.alloc (.cells #[.int .i64 s, .slice pk xs.length ck] 45)))
  have hb1 := below_alloc w (.cells #[.int .i64 s, .slice pk xs.length ck] 45)
  clear hd
  have hxb : ((xs.length : Int) != 128) = true := by simp; omega
  clear hx
  go_enter Tryz.func43, Tryz.ntmps43
  go_wp2
  obtain ⟨w1, hw1⟩ : ∃ w1, w1 = w.alloc (.cells #[.int .i64 s, .slice pk xs.length ck] 45) := ⟨_, rfl⟩
  rw [← hw1] at hc0 hc1 hc2 hp0 hp1 hb1 ⊢
  have hsz : w.heap.size < w1.heap.size := by rw [hw1]; simp
  clear hw1
  go_region_held3 (fun w' => w'.cell? ⟨B0, 0, none⟩ = some (.int .i64 count) ∧ w'.cell? ⟨B0, 1, none⟩ = some (.slice (some ⟨gd, 0, none⟩) data.length data.length) ∧ w'.cell? ⟨B0, 2, none⟩ = some (.slice q ws.length m) ∧ w'.cell? ⟨w.heap.size, 0, none⟩ = some (.int .i64 s)) (go_keep)
    (first
      | (go_at_call 75; refine (has_any count s _ _ _).mono ?_; rintro e w2 ⟨rfl, ob, rfl⟩; rw [decide_eq_true hs])
      | fail)
  go_wp2
  go_ret
  exact ⟨rfl, (hb1.drew).alloc (by show _ ≤ w1.heap.size; omega) _⟩
set_option maxRecDepth 100000 in
set_option maxHeartbeats 2000000 in
theorem wait_many (base B0 gd : Nat) (count : Int) (data : List Nat) (q : Option Addr) (m : Nat) (ws : Puts) (gs : List Nat) (s : Int) (pk : Option Addr) (ck : Nat) (w : World) (hd : DiskOwn w base B0 gd count data q m ws gs) (hs : 0 ≤ s ∧ s < count) (hm : 4096 ≤ ws.length) :
    Calls Tryz.prog 43 #[.pointer (some ⟨B0, 0, none⟩), .agg #[.int .i64 s, .slice pk 128 ck]] w fun e w' => e = .returned (.int .i64 4) ∧ Below w.heap.size w w' := by
  have hlt := lt_heap hd.box
  obtain ⟨hc0, hc1, hc2⟩ := (hd.below (below_alloc w (.cells #[.int .i64 s, .slice pk 128 ck] 45))).cells
  obtain ⟨hp0, hp1⟩ := put_cells (Below.refl _ (w.alloc (.cells #[.int .i64 s, .slice pk 128 ck] 45)))
  have hb1 := below_alloc w (.cells #[.int .i64 s, .slice pk 128 ck] 45)
  clear hd
  go_enter Tryz.func43, Tryz.ntmps43
  go_wp2
  obtain ⟨w1, hw1⟩ : ∃ w1, w1 = w.alloc (.cells #[.int .i64 s, .slice pk 128 ck] 45) := ⟨_, rfl⟩
  rw [← hw1] at hc0 hc1 hc2 hp0 hp1 hb1 ⊢
  have hsz : w.heap.size < w1.heap.size := by rw [hw1]; simp
  clear hw1
  go_region_held3 (fun w' => w'.cell? ⟨B0, 0, none⟩ = some (.int .i64 count) ∧ w'.cell? ⟨B0, 1, none⟩ = some (.slice (some ⟨gd, 0, none⟩) data.length data.length) ∧ w'.cell? ⟨B0, 2, none⟩ = some (.slice q ws.length m) ∧ w'.cell? ⟨w.heap.size, 0, none⟩ = some (.int .i64 s)) (go_keep)
    (first
      | (go_at_call 75; refine (has_any count s _ _ _).mono ?_; rintro e w2 ⟨rfl, ob, rfl⟩; rw [decide_eq_true hs])
      | fail)
  go_wp2
  go_ret
  exact ⟨rfl, (hb1.drew).alloc (by show _ ≤ w1.heap.size; omega) _⟩
theorem DiskOwn.pushed {w3 w4 : World} {base B0 gd : Nat} {count : Int} {data : List Nat} {q : Option Addr} {m : Nat} {ws : Puts} {gs : List Nat} (h : DiskOwn w3 base B0 gd count data q m ws gs) {s : Int} {xs : List Nat} {g g' cap' : Nat} {o : Obj} (hx : xs.length = 128 ∧ ∀ c ∈ xs, c < 256) (hb : base ≤ g)
    (hg : w3.heap[g]? = some (.cells (Bs xs).toArray 5 (0, 0))) (hne : g ≠ gd) (hown : w4.ownsRow base 45 2 (.slice (some ⟨g', 0, none⟩) (ws.length + 1) cap') (ws.length + 1) (cellsP ws gs ++ [.int .i64 s, .slice (some ⟨g, 0, none⟩) 128 128])) (hgrow : (w3.alloc o).grownBy w4 (Value.slice q ws.length m).ownBlock)
    (hN2 : some B0 ≠ (Value.slice q ws.length m).ownBlock) :
    DiskOwn (w4.setCell ⟨B0, 2, none⟩ (.slice (some ⟨g', 0, none⟩) (ws.length + 1) cap')) base B0 gd count data (some ⟨g', 0, none⟩) cap' (ws ++ [(s, xs)]) (gs ++ [g]) := by
  have ha := h.below (below_alloc w3 o)
  have P4 := ha.puts.push hx hb (((below_alloc w3 o).block _ (lt_heap hg)).trans hg) hown hgrow
  have box4 := (hgrow.block _ (lt_heap ha.box) hN2).trans ha.box
  have d4 : w4.heap[gd]? = some (.cells (Bs data).toArray 5 (0, 0)) := by
    refine (hgrow.block _ (lt_heap ha.drow) ?_).trans ha.drow
    intro e
    rcases ha.puts.row.2 with ⟨hv, _⟩ | ⟨g1, cap, cur, hv, _, h3, _⟩
    · rw [hv] at e; simp [Value.ownBlock] at e
    · rw [hv] at e
      simp only [Value.ownBlock, Option.some.injEq] at e
      subst e
      rw [ha.drow] at h3
      simp at h3
  have hBne : ∀ (k : Nat) (cs : Array Value) (t : TypeId), t ≠ 25 → w4.heap[k]? = some (.cells cs t (0, 0)) → k ≠ B0 := by
    rintro k cs t ht hk rfl
    rw [box4] at hk
    simp only [Option.some.injEq, Obj.cells.injEq] at hk
    exact ht hk.2.1.symm
  refine ⟨?_, h.hB, h.hgd, ?_, ?_, ?_, h.bytes⟩
  · rw [heap_setCell_same w4 B0 2 _ _ _ box4]
    simp
  · rw [heap_setCell_other w4 ⟨B0, 2, none⟩ gd _ (hBne gd _ _ (by decide) d4)]
    exact d4
  · have e : (ws ++ [(s, xs)]).length = ws.length + 1 := by simp
    rw [e]
    exact P4.keep (fun k cur _ hk => heap_setCell_other w4 ⟨B0, 2, none⟩ k _ (hBne k _ _ (by decide) hk)) (fun i hi => heap_setCell_other w4 ⟨B0, 2, none⟩ _ _ (hBne _ _ _ (by decide) (P4.rows i hi).2))
  · intro i hi
    simp only [List.length_append, List.length_singleton] at hi
    rcases Nat.lt_or_ge i ws.length with h' | h'
    · have e1 : (gs ++ [g]).getD i 0 = gs.getD i 0 := by simp [List.getD, List.getElem?_append_left (show i < gs.length by rw [h.puts.len]; exact h')]
      rw [e1]
      exact h.apart i h'
    · obtain rfl : i = ws.length := by omega
      have e1 : (gs ++ [g]).getD ws.length 0 = g := by rw [← h.puts.len]; simp [List.getD]
      rw [e1]
      exact hne
theorem below_undrew {B : Nat} {w w' : World} (h : Below B w.drew w') : Below B w w' := ⟨h.os, h.tape, h.output, h.size, h.block⟩
theorem below_cell_some {w w' : World} {a : Addr} {v : Value} (hb : Below w.heap.size w w') (h : w.cell? a = some v) : w'.cell? a = some v := (hb.cell (World.block_lt_of_cell? _ _ h)).trans h
theorem c2_setCell {w1 : World} {B : Nat} {x y : Value} (h : w1.cell? ⟨B, 0, none⟩ = some x ∧ w1.cell? ⟨B, 1, none⟩ = some y) {a : Addr} (hne : B ≠ a.block) (v : Value) : (w1.setCell a v).cell? ⟨B, 0, none⟩ = some x ∧ (w1.setCell a v).cell? ⟨B, 1, none⟩ = some y :=
  ⟨(World.cell?_of_block (Below.heap_setCell w1 a v B hne)).trans h.1, (World.cell?_of_block (Below.heap_setCell w1 a v B hne)).trans h.2⟩
set_option maxRecDepth 100000 in
set_option maxHeartbeats 2000000 in
theorem wait_ok (base B0 gd : Nat) (count : Int) (data : List Nat) (q : Option Addr) (m : Nat) (ws : Puts) (gs : List Nat) (s : Int) (pk : Option Addr) (ck : Nat) (xs : List Nat) (w : World) (hd : DiskOwn w base B0 gd count data q m ws gs) (hs : 0 ≤ s ∧ s < count) (hx : xs.length = 128) (hm : ws.length < 4096) (hin : BIn w pk xs) (hbs : base ≤ w.heap.size) :
    Calls Tryz.prog 43 #[.pointer (some ⟨B0, 0, none⟩), .agg #[.int .i64 s, .slice pk 128 ck]] w fun e w' => e = .returned (.int .i64 0) ∧ (∃ q' m' gs', DiskOwn w' base B0 gd count data q' m' (ws ++ [(s, xs)]) gs') ∧ Below base w w' := by
  have HX : Hid (xs.length = 128) := hx
  clear hx
  have hlt := lt_heap hd.box
  obtain ⟨hc0, hc1, hc2⟩ := (hd.below (below_alloc w (.cells #[.int .i64 s, .slice pk 128 ck] 45))).cells
  obtain ⟨hp0, hp1⟩ := put_cells (Below.refl _ (w.alloc (.cells #[.int .i64 s, .slice pk 128 ck] 45)))
  have hb1 := below_alloc w (.cells #[.int .i64 s, .slice pk 128 ck] 45)
  have HD : Hid _ := hd
  have HI : Hid (BIn w pk xs) := hin
  clear hd hin
  obtain ⟨i0, hi, hz0, hz1, hz2⟩ := info_parts info_put
  go_enter Tryz.func43, Tryz.ntmps43
  go_wp2
  obtain ⟨w1, hw1⟩ : ∃ w1, w1 = w.alloc (.cells #[.int .i64 s, .slice pk 128 ck] 45) := ⟨_, rfl⟩
  rw [← hw1] at hc0 hc1 hc2 hp0 hp1 hb1 ⊢
  have hsz : w.heap.size < w1.heap.size := by rw [hw1]; simp
  clear hw1
  go_region_held3 (fun w' => w'.cell? ⟨B0, 0, none⟩ = some (.int .i64 count) ∧ w'.cell? ⟨B0, 1, none⟩ = some (.slice (some ⟨gd, 0, none⟩) data.length data.length) ∧ w'.cell? ⟨B0, 2, none⟩ = some (.slice q ws.length m) ∧ w'.cell? ⟨w.heap.size, 0, none⟩ = some (.int .i64 s)) (go_keep)
    (first
      | (go_at_call 75; refine (has_any count s _ _ _).mono ?_; rintro e w2 ⟨rfl, ob, rfl⟩; rw [decide_eq_true hs])
      | fail)
  go_wp2
  have hd2 : Hid (DiskOwn (w1.alloc ob).drew base B0 gd count data q m ws gs) := by
    have h := (HD.out.below hb1).below (below_alloc w1 ob)
    exact ⟨h.box, h.hB, h.hgd, h.drow, h.puts.below ⟨rfl, rfl, rfl, Nat.le_refl _, fun _ _ => rfl⟩, h.apart, h.bytes⟩
  have hbb2 : Below w.heap.size w (w1.alloc ob).drew := (hb1.alloc (by omega) ob).drew
  have hin2 : Hid (BIn (w1.alloc ob).drew pk xs) := HI.out.below hbb2
  have HC' : Hid ((w1.alloc ob).drew.cell? ⟨w.heap.size, 0, none⟩ = some (.int .i64 s) ∧ (w1.alloc ob).drew.cell? ⟨w.heap.size, 1, none⟩ = some (.slice pk 128 ck)) := c2_alloc ⟨hp0, hp1⟩ ob
  have hsz2 : w.heap.size < (w1.alloc ob).drew.heap.size := by show _ < (w1.alloc ob).heap.size; rw [World.size_alloc]; omega
  clear hp0 hp1 hc0 hc1 hc2 hb1
  generalize (w1.alloc ob).drew = w2 at *
  have HC := HC'.out
  have hc2 := hd2.out.cells.2.2
  have HN : Hid (some w.heap.size ≠ (Value.slice q ws.length m).ownBlock) := by
    intro e
    have := (HD.out.puts.row.lt _ e.symm).2
    omega
  have HN2 : Hid (some B0 ≠ (Value.slice q ws.length m).ownBlock) := by
    intro e
    have h1 := HD.out.box
    rcases HD.out.puts.row.2 with ⟨hv, _⟩ | ⟨g', cap, cur, hv, _, h3, _⟩
    · rw [hv] at e; simp [Value.ownBlock] at e
    · rw [hv] at e
      simp only [Value.ownBlock, Option.some.injEq] at e
      subst e
      rw [h1] at h3
      simp at h3
  refine wp_region_noPanic ?_
  have HT : w2.drew.cell? ⟨w.heap.size, 0, none⟩ = some (.int .i64 s) ∧ w2.drew.cell? ⟨w.heap.size, 1, none⟩ = some (.slice pk 128 ck) := HC
  have HS : w2.drew.cell? ⟨B0, 2, none⟩ = some (.slice q ws.length m) := hc2
  clear HC hc2
  refine beginZ (T := fun w' => w'.cell? ⟨w.heap.size, 0, none⟩ = some (.int .i64 s) ∧ w'.cell? ⟨w.heap.size, 1, none⟩ = some (.slice pk 128 ck)) (S := fun w' => w'.cell? ⟨B0, 2, none⟩ = some (.slice q ws.length m)) 15 (by kernel_rfl) ?_
  refine takeT 0 22 (v := ?_) rfl rfl (by kernel_rfl) (by kernel_rfl) (by kernel_rfl) (by kernel_rfl) (fun _ _ _ h => h) (by rfl) ?_ (by assumption) (by assumption) ?_
  rotate_left
  · intro w hTw; go_simp; first | done | with_reducible rfl
  simp only [Act.put, List.setIfInBounds_toArray, List.set_cons_zero, List.set_cons_succ]
  refine takeT 1 23 (v := ?_) rfl rfl (by kernel_rfl) (by kernel_rfl) (by kernel_rfl) (by kernel_rfl) (fun _ _ _ h => h) (by rfl) ?_ (by assumption) (by assumption) ?_
  rotate_left
  · intro w hTw; go_simp; first | done | with_reducible rfl
  simp only [Act.put, List.setIfInBounds_toArray, List.set_cons_zero, List.set_cons_succ]
  refine takeT 2 24 (v := ?_) rfl rfl (by kernel_rfl) (by kernel_rfl) (by kernel_rfl) (by kernel_rfl) (fun _ _ _ h => h) (by rfl) ?_ (by assumption) (by assumption) ?_
  rotate_left
  · intro w hTw; go_simp; first | done | with_reducible rfl
  simp only [Act.put, List.setIfInBounds_toArray, List.set_cons_zero, List.set_cons_succ]
  refine takeT 3 25 (v := ?_) rfl rfl (by kernel_rfl) (by kernel_rfl) (by kernel_rfl) (by kernel_rfl) (fun _ _ _ h => h) (by rfl) ?_ (by assumption) (by assumption) ?_
  rotate_left
  · intro w hTw; go_simp; first | done | with_reducible rfl
  simp only [Act.put, List.setIfInBounds_toArray, List.set_cons_zero, List.set_cons_succ]
  refine takeZ 4 26 12 (v := ?_) rfl rfl (by kernel_rfl) (by kernel_rfl) (by kernel_rfl) (by kernel_rfl) (by kernel_rfl) (by kernel_rfl) (by kernel_rfl) (fun _ _ _ h => h) (by rfl) ?_ (by assumption) (by assumption) ?_
  rotate_left
  · intro w hTw hSw; go_simp; first | done | with_reducible rfl
  simp only [Act.put, List.setIfInBounds_toArray, List.set_cons_zero, List.set_cons_succ]
  refine takeT 5 27 (v := ?_) rfl rfl (by kernel_rfl) (by kernel_rfl) (by kernel_rfl) (by kernel_rfl) (fun _ _ _ h => h) (by rfl) ?_ (by assumption) (by assumption) ?_
  rotate_left
  · intro w hTw; go_simp; first | done | with_reducible rfl
  simp only [Act.put, List.setIfInBounds_toArray, List.set_cons_zero, List.set_cons_succ]
  refine takeT 6 28 (v := ?_) rfl rfl (by kernel_rfl) (by kernel_rfl) (by kernel_rfl) (by kernel_rfl) (fun _ _ _ h => h) (by rfl) ?_ (by assumption) (by assumption) ?_
  rotate_left
  · intro w hTw; go_simp; first | done | with_reducible rfl
  simp only [Act.put, List.setIfInBounds_toArray, List.set_cons_zero, List.set_cons_succ]
  refine takeT 7 29 (v := ?_) rfl rfl (by kernel_rfl) (by kernel_rfl) (by kernel_rfl) (by kernel_rfl) (fun _ _ _ h => h) (by rfl) ?_ (by assumption) (by assumption) ?_
  rotate_left
  · intro w hTw; go_simp; first | done | with_reducible rfl
  simp only [Act.put, List.setIfInBounds_toArray, List.set_cons_zero, List.set_cons_succ]
  refine takeT 8 30 (v := ?_) rfl rfl (by kernel_rfl) (by kernel_rfl) (by kernel_rfl) (by kernel_rfl) (fun _ _ _ h => h) (by rfl) ?_ (by assumption) (by assumption) ?_
  rotate_left
  · intro w hTw; go_simp; first | done | with_reducible rfl
  simp only [Act.put, List.setIfInBounds_toArray, List.set_cons_zero, List.set_cons_succ]
  refine oneZ 9 (by kernel_rfl) rfl (by rfl) (fun K hK => ?_)
  go_simp
  refine (copyOf_any pk ck xs w2.drew (show BIn w2.drew pk xs from hin2.out) HX.out).mono ?_
  rintro e w3 ⟨g, rfl, hg1, hg2, hb3⟩
  have hc3 := below_cell_some hb3 HS
  have hT3 := c2_below HC'.out hb3
  go_simp
  refine hK.out _ _ hT3 hc3 (fun hTx hSx => ?_)
  clear hK K hT3 hc3 HT HS
  refine takeT 10 32 (v := ?_) rfl rfl (by kernel_rfl) (by kernel_rfl) (by kernel_rfl) (by kernel_rfl) (fun _ _ _ h => h) (by rfl) ?_ (by assumption) (by assumption) ?_
  rotate_left
  · intro w hTw; go_simp; first | done | with_reducible rfl
  simp only [Act.put, List.setIfInBounds_toArray, List.set_cons_zero, List.set_cons_succ]
  refine oneZ 11 (by kernel_rfl) rfl (by rfl) (fun K hK => ?_)
  go_simp
  refine hK.out _ _ (c2_alloc hTx _) (below_cell_some (below_alloc w3 _) hSx) (fun hTy hSy => ?_)
  clear hK K hTx hSx
  refine oneZ 12 (by kernel_rfl) rfl (by rfl) (fun K hK => ?_)
  refine step_append_lies _ (by rfl) (.tmp 26) (.tmp 33) 23 (by rfl) base 45 i0 _ 2 32 Tryz.underlying23 hi hz0 hz1 hz2 rfl (by omega) (.slice q ws.length m) ws.length (cellsP ws gs) (by rfl) ((hd2.out.puts.below (below_undrew hb3)).row.alloc _) ⟨w3.heap.size, 0, none⟩ 1 1 [.int .i64 s, .slice (some ⟨g, 0, none⟩) 128 128] (by rfl) (by rfl) (World.news_of_block (cs := #[.int .i64 s, .slice (some ⟨g, 0, none⟩) 128 128]) (t := 45) (fr := (0, 0)) (heap_alloc_new w3 _)) (two_oneCell _ _ _ _) (by omega) (by unfold maxLen; omega) (by omega) (by have := hb3.size; have := hbb2.size; rw [World.size_alloc]; simp at *; omega) (w3.heap.size + 1) (by simp) ?_
  intro g' cap' w4 hown4 hgrow hat hlt4
  refine hK.out _ _ (c2_grown hTy hgrow HN.out) (hgrow.cell hSy HN2.out) (fun hTx hSx => ?_)
  clear hK K hTy hSy hat hlt4
  show wpAnyZ _ _ _ _ _ _ _ _ _ (Act.put _ (some 34) _) _
  simp only [Act.put, List.setIfInBounds_toArray, List.set_cons_zero, List.set_cons_succ]
  refine takeT 13 35 (v := ?_) rfl rfl (by kernel_rfl) (by kernel_rfl) (by kernel_rfl) (by kernel_rfl) (fun _ _ _ h => h) (by rfl) ?_ (by assumption) (by assumption) ?_
  rotate_left
  · intro w hTw; go_simp; first | done | with_reducible rfl
  simp only [Act.put, List.setIfInBounds_toArray, List.set_cons_zero, List.set_cons_succ]
  refine takeT 14 36 (v := ?_) rfl rfl (by kernel_rfl) (by kernel_rfl) (by kernel_rfl) (by kernel_rfl) (fun _ _ _ h => h) (by rfl) ?_ (by assumption) (by assumption) ?_
  rotate_left
  · intro w hTw; go_simp; first | done | with_reducible rfl
  simp only [Act.put, List.setIfInBounds_toArray, List.set_cons_zero, List.set_cons_succ]
  have hbox4 := (hgrow.block _ (by rw [World.size_alloc]; have := hb3.size; have := hsz2; show B0 < _; simp at *; omega) HN2.out).trans (((below_alloc w3 (.cells #[.int .i64 s, .slice (some ⟨g, 0, none⟩) 128 128] 45)).block _ (lt_heap ((hb3.block _ (lt_heap hd2.out.box)).trans hd2.out.box))).trans ((hb3.block _ (lt_heap hd2.out.box)).trans hd2.out.box))
  have hfr := frozen_of_row w4 B0 2 _ _ hbox4
  have HBX : Hid _ := hbox4
  clear hbox4
  refine lastZ (by kernel_rfl) rfl (by rfl) (fun K hK => ?_)
  go_simp
  refine hK.out _ _ (c2_setCell hTx (by simp; omega) _) ?_
  clear hK K
  refine doneZ (by kernel_rfl) (NoPanic.normal ?_) _
  go_wp2
  go_ret
  have hd3 := hd2.out.below (below_undrew hb3)
  have z2 := hbb2.size
  have z3 : w2.heap.size ≤ w3.heap.size := hb3.size
  refine ⟨rfl, ⟨_, _, _, hd3.pushed ⟨HX.out, HI.out.2⟩ (Nat.le_trans (show base ≤ w2.heap.size by omega) hg1) hg2 ?_ hown4 hgrow HN2.out⟩, ?_⟩
  · have := lt_heap hd2.out.drow
    have : w2.heap.size ≤ g := hg1
    omega
  · have b3 : Below base w w3 := (hbb2.mono hbs).trans ((below_undrew hb3).mono (show base ≤ w2.heap.size by omega))
    exact ((b3.alloc (by omega) _).grown hgrow (by rw [World.size_alloc]; omega) (fun x hx => (hd3.puts.row.lt x hx).1)).setCell HD.out.hB _
end Go.Proofs.YtglcpfnpbcnejaaGreatDoor
namespace Go.Proofs.YtglcpfnpbcnejaaGreatDoor
set_option maxRecDepth 8000
open Go.RowKit Go.WideShapes

/-- A disk of the call's own, by value. -/
structure DiskNew (w : World) (base : Nat) (v : Value) (count : Int) (data : List Nat) (ws : Puts) : Prop where
  lies : ∃ gd q m gs, v = .agg #[.int .i64 count, .slice (some ⟨gd, 0, none⟩) data.length data.length, .slice q ws.length m] ∧ base ≤ gd ∧ w.heap[gd]? = some (.cells (Bs data).toArray 5 (0, 0)) ∧ PutsOwn w base (.slice q ws.length m) ws gs ∧ (∀ i, i < ws.length → gs.getD i 0 ≠ gd)
  bytes : ∀ c ∈ data, c < 256
theorem i64_wf {n : Int} (h1 : -9223372036854775808 ≤ n) (h2 : n ≤ 9223372036854775807) : (Lit.int .i64 n).wf = true := by
  simp [Lit.wf, IntKind.min, IntKind.max, IntKind.signed, IntKind.bits]; omega
theorem DiskNew.toIn {w : World} {base : Nat} {v : Value} {count : Int} {data : List Nat} {ws : Puts} (h : DiskNew w base v count data ws) (ho : Okay count data ws) : DiskIn w v count data ws := by
  obtain ⟨gd, q, m, gs, rfl, _, h2, h3, _⟩ := h.lies
  obtain ⟨_, g2, g3, g4, g5⟩ := h3.lies
  have h1 := ho.lo
  have h2' := ho.hi
  have hl := ho.len
  refine ⟨⟨_, q, m, rfl, ⟨some ⟨gd, 0, none⟩, data.length, rfl, bin_row h2 h.bytes, Nat.le_refl _, by unfold maxLen; omega, fun h => by cases h⟩, g2, g3, g4, g5⟩, i64_wf (by omega) (by omega), fun y hy => ?_⟩
  have := ho.each y hy
  exact i64_wf (by omega) (by omega)

/-- Three cells stored over a block of three. -/
theorem set3_other (w : World) (B k : Nat) (a b c : Value) (h : k ≠ B) : (((w.setCell ⟨B, 0, none⟩ a).setCell ⟨B, 1, none⟩ b).setCell ⟨B, 2, none⟩ c).heap[k]? = w.heap[k]? := by
  rw [heap_setCell_other _ ⟨B, 2, none⟩ k _ h, heap_setCell_other _ ⟨B, 1, none⟩ k _ h, heap_setCell_other _ ⟨B, 0, none⟩ k _ h]
theorem set3_same (w : World) (B : Nat) (x y z a b c : Value) (t : TypeId) (h : w.heap[B]? = some (.cells #[x, y, z] t (0, 0))) : (((w.setCell ⟨B, 0, none⟩ a).setCell ⟨B, 1, none⟩ b).setCell ⟨B, 2, none⟩ c).heap[B]? = some (.cells #[a, b, c] t (0, 0)) := by
  have e0 := heap_setCell_same w B 0 _ _ a h
  have e1 := heap_setCell_same _ B 1 _ _ b e0
  have e2 := heap_setCell_same _ B 2 _ _ c e1
  rw [e2]; rfl
theorem set3_below {base B : Nat} {w0 w : World} (h : Below base w0 w) (hB : base ≤ B) (a b c : Value) : Below base w0 (((w.setCell ⟨B, 0, none⟩ a).setCell ⟨B, 1, none⟩ b).setCell ⟨B, 2, none⟩ c) :=
  ((h.setCell (p := ⟨B, 0, none⟩) hB a).setCell (p := ⟨B, 1, none⟩) hB b).setCell (p := ⟨B, 2, none⟩) hB c
theorem DiskNew.keep {w w' : World} {base : Nat} {v : Value} {count : Int} {data : List Nat} {ws : Puts} (h : DiskNew w base v count data ws) (hk : ∀ (k : Nat) (cs : Array Value) (t : TypeId), t = 5 ∨ t = 45 → w.heap[k]? = some (.cells cs t (0, 0)) → w'.heap[k]? = w.heap[k]?) : DiskNew w' base v count data ws := by
  obtain ⟨gd, q, m, gs, h1, h2, h3, h4, h5⟩ := h.lies
  exact ⟨⟨gd, q, m, gs, h1, h2, (hk _ _ _ (.inl rfl) h3).trans h3, h4.keep (fun g cur _ e => hk _ _ _ (.inr rfl) e) (fun i hi => hk _ _ _ (.inl rfl) (h4.rows i hi).2), h5⟩, h.bytes⟩
theorem DiskNew.below {w w' : World} {base : Nat} {v : Value} {count : Int} {data : List Nat} {ws : Puts} (h : DiskNew w base v count data ws) (hb : Below w.heap.size w w') : DiskNew w' base v count data ws :=
  h.keep fun k _ _ _ e => hb.block k (lt_heap e)
theorem DiskNew.mono {w : World} {base base' : Nat} {v : Value} {count : Int} {data : List Nat} {ws : Puts} (h : DiskNew w base v count data ws) (hb : base' ≤ base) : DiskNew w base' v count data ws := by
  obtain ⟨gd, q, m, gs, h1, h2, h3, h4, h5⟩ := h.lies
  exact ⟨⟨gd, q, m, gs, h1, Nat.le_trans hb h2, h3, h4.mono hb, h5⟩, h.bytes⟩
theorem DiskNew.set3 {w : World} {base B : Nat} {v : Value} {count : Int} {data : List Nat} {ws : Puts} {cs : Array Value} (h : DiskNew w base v count data ws) (hB : w.heap[B]? = some (.cells cs 25 (0, 0))) (a b c : Value) :
    DiskNew (((w.setCell ⟨B, 0, none⟩ a).setCell ⟨B, 1, none⟩ b).setCell ⟨B, 2, none⟩ c) base v count data ws := by
  refine h.keep fun k cs' t ht e => set3_other w B k a b c ?_
  rintro rfl
  rw [hB] at e
  simp only [Option.some.injEq, Obj.cells.injEq] at e
  rcases ht with rfl | rfl
  · exact absurd e.2.1 (by decide)
  · exact absurd e.2.1 (by decide)
theorem box_block {w wr : World} {o : Obj} (h : Below (w.heap.size + 1) (w.alloc o) wr) : wr.heap[w.heap.size]? = some o := (h.block _ (by omega)).trans (heap_alloc_new w _)
theorem box_free {w wr : World} {a b c : Value} {t : TypeId} (h : Below (w.heap.size + 1) (w.alloc (.cells #[a, b, c] t)) wr) :
    wr.frozen? ⟨w.heap.size, 0, none⟩ = false ∧ wr.frozen? ⟨w.heap.size, 1, none⟩ = false ∧ wr.frozen? ⟨w.heap.size, 2, none⟩ = false := by
  have hh : wr.heap[w.heap.size]? = some (.cells #[a, b, c] t (0, 0)) := (h.block _ (by omega)).trans (heap_alloc_new w _)
  exact ⟨frozen_of_row _ _ _ _ _ hh, frozen_of_row _ _ _ _ _ hh, frozen_of_row _ _ _ _ _ hh⟩
set_option maxRecDepth 100000 in
set_option maxHeartbeats 400000 in
theorem new_bad (count : Int) (w : World) (h : ¬ (1 ≤ count ∧ count ≤ 4096)) :
    Calls Tryz.prog 11 #[.int .i64 count] w fun e w' => e = .returned (.tuple #[.agg #[.int .i64 0, .slice none 0 0, .slice none 0 0], .int .i64 20]) ∧ Below w.heap.size w w' := by
  go_enter Tryz.func11, Tryz.ntmps11
  go_wp2_with (go_at_call 36; refine (mayCount_any count _).mono ?_; rintro e w1 ⟨rfl, rfl⟩; rw [decide_eq_false h])
  (try simp only [Exit.inBlock, Exit.then])
  refine bodyPost_ret (v := .tuple #[.agg #[.int .i64 0, .slice none 0 0, .slice none 0 0], .int .i64 20]) ?_ rfl ⟨rfl, below_alloc _ _⟩
  rw [results_cell_tmp rfl]
  go_simp
set_option maxRecDepth 100000 in
set_option maxHeartbeats 400000 in
theorem new_ok (n : Nat) (w : World) (h1 : 1 ≤ n) (h2 : n ≤ 4096) :
    Calls Tryz.prog 11 #[.int .i64 n] w fun e w' => ∃ v, e = .returned (.tuple #[v, .int .i64 0]) ∧ DiskNew w' w.heap.size v n (List.replicate (n * 128) 0) [] ∧ Below w.heap.size w w' := by
  obtain ⟨i0, hi, hz0, hz1, hz2⟩ := info_parts info_u8
  have h : 1 ≤ (n : Int) ∧ (n : Int) ≤ 4096 := by omega
  go_enter Tryz.func11, Tryz.ntmps11
  go_wp2_with (first | (go_at_call 36; refine (mayCount_any n _).mono ?_; rintro e w1 ⟨rfl, rfl⟩; rw [decide_eq_true h]) | (at_make; refine wpList_make_full _ rfl _ _ 22 rfl (w.heap.size + 1) 5 i0 (.int .u8 0) 1 Tryz.underlying22 hi hz0 hz1 .i64 .i64 _ _ (n * 128) rfl rfl (by omega) (by omega) (by rw [hz2]; omega) (by unfold maxLen; omega) (by simp) ?_))
  intro w1 hown hgrow
  have hrow := row_full hown
  rw [zeros_made] at hrow
  have hb1 : Below (w.heap.size + 1) (w.alloc (.cells #[.int .i64 0, .slice none 0 0, .slice none 0 0] 25)) w1 := (Below.refl _ _).grown hgrow (by simp) (fun k hk => by cases hk)
  obtain ⟨c0, c1, c2⟩ := box_cells hb1
  obtain ⟨f0, f1, f2⟩ := box_free hb1
  have HR : Hid _ := hrow
  clear hown hgrow hrow
  go_wp2
  (try simp only [Exit.inBlock, Exit.then])
  refine bodyPost_ret (v := .tuple #[.agg #[.int .i64 n, .slice (some ⟨w.heap.size + 1, 0, none⟩) (n * 128) (n * 128), .slice none 0 0], .int .i64 0]) ?_ rfl ⟨_, rfl, ?_, ?_⟩
  · rw [results_cell_tmp rfl]
    go_simp
  · refine DiskNew.set3 ?_ (box_block hb1) _ _ _
    refine ⟨⟨w.heap.size + 1, none, 0, [], by simp, by omega, HR.out, putsOwn_nil _ _, fun i hi => absurd hi (by simp)⟩, ?_⟩
    intro c hc
    rw [(List.mem_replicate.1 hc).2]
    decide
  · exact set3_below (box_below hb1) (Nat.le_refl _) _ _ _
end Go.Proofs.YtglcpfnpbcnejaaGreatDoor
namespace Go.Proofs.YtglcpfnpbcnejaaGreatDoor
open Go.RowKit Go.WideShapes

section
variable {P : Program} {ops : Array Oper} {Q : Exit → Act → World → Prop} {md : Region.Mode} {S : World → Prop}

theorem takeH (i d : Nat) {oi : Oper} {v : Value} {fuel : Nat} {listed : Array Bool} {a : Act} {w : World} (hi : ops[i]? = some oi) (hd : oi.dst = some d)
    (hs : Region.noSelect ops = true) (hf : Region.free md ops listed i = true) (hr : (Region.ready md ops listed).contains i = true)
    (hQ : ∀ c a w, Q (.panic c) (a.put oi.dst v) w → Q (.panic c) a w) (hw : Region.wanted oi (yielded ops a.tmps) = true) (hy : ∀ w, S w → (execOp a.eval oi).run P w = .ok (.value v) w) (hS : S w)
    (h : wpAnyH P md ops Q S fuel (listed.setIfInBounds i true) (a.put (some d) v) w) : wpAnyH P md ops Q S (fuel + 1) listed a w :=
  wpAnyH_take hi hs hf hr hQ (Or.inl ⟨hw, hy⟩) hS (by rw [hd]; exact h)
end
end Go.Proofs.YtglcpfnpbcnejaaGreatDoor
namespace Go.Proofs.YtglcpfnpbcnejaaGreatDoor
set_option maxRecDepth 8000
open Go.RowKit Go.WideShapes
attribute [local go_sem ↓] Go.wp_at_zero Go.wp_at_succ

/-- No disk at all. -/
abbrev zeroDisk : Value := .agg #[.int .i64 0, .slice none 0 0, .slice none 0 0]
theorem box2_cells {w wr : World} {a b c a' b' c' : Value} {t t' : TypeId} (h : Below (w.heap.size + 2) ((w.alloc (.cells #[a, b, c] t)).alloc (.cells #[a', b', c'] t')) wr) :
    wr.heap[w.heap.size]? = some (.cells #[a, b, c] t (0, 0)) ∧ wr.heap[w.heap.size + 1]? = some (.cells #[a', b', c'] t' (0, 0)) :=
  ⟨(h.block _ (by omega)).trans (heap_alloc2_old w _ _), (h.block _ (by omega)).trans (heap_alloc2_new w _ _)⟩
theorem box2_below {w wr : World} {o o' : Obj} (h : Below (w.heap.size + 2) ((w.alloc o).alloc o') wr) : Below w.heap.size w wr := ((below_alloc w o).alloc (by simp) o').trans (h.mono (by omega))
theorem box2_size {w wr : World} {o o' : Obj} (h : Below (w.heap.size + 2) ((w.alloc o).alloc o') wr) : w.heap.size + 2 ≤ wr.heap.size := by
  have := h.size
  simp at this
  omega
theorem cells3 {w : World} {B : Nat} {a b c : Value} {t : TypeId} (h : w.heap[B]? = some (.cells #[a, b, c] t (0, 0))) : w.cell? ⟨B, 0, none⟩ = some a ∧ w.cell? ⟨B, 1, none⟩ = some b ∧ w.cell? ⟨B, 2, none⟩ = some c :=
  ⟨cell_of_row _ _ _ _ _ _ h, cell_of_row _ _ _ _ _ _ h, cell_of_row _ _ _ _ _ _ h⟩
theorem free3 {w : World} {B : Nat} {a b c : Value} {t : TypeId} (h : w.heap[B]? = some (.cells #[a, b, c] t (0, 0))) : w.frozen? ⟨B, 0, none⟩ = false ∧ w.frozen? ⟨B, 1, none⟩ = false ∧ w.frozen? ⟨B, 2, none⟩ = false :=
  ⟨frozen_of_row _ _ _ _ _ h, frozen_of_row _ _ _ _ _ h, frozen_of_row _ _ _ _ _ h⟩

set_option maxHeartbeats 1000000 in
theorem do_bad (v l : Value) (count : Int) (data : List Nat) (ws : Puts) (w : World) (hd : DiskIn w v count data ws) (ho : ¬ Okay count data ws) :
    Calls Tryz.prog 15 #[v, l] w fun e w' => e = .returned (.tuple #[zeroDisk, .int .i64 20]) ∧ Below w.heap.size w w' := by
  obtain ⟨p, c, q, m, rfl, _⟩ := hd.parts
  have HD : Hid _ := hd
  clear hd
  go_enter Tryz.func15, Tryz.ntmps15
  go_wp2_with fail
  refine (check_bad _ count data ws _ (HD.out.below ((below_alloc w _).alloc (by simp) _)) ho).mono ?_
  rintro e w1 ⟨rfl, hb1⟩
  replace hb1 : Below (w.heap.size + 2) ((w.alloc (.cells #[.int .i64 count, .slice p data.length c, .slice q ws.length m] 25)).alloc (.cells #[.int .i64 0, .slice none 0 0, .slice none 0 0] 25)) w1 := by simpa using hb1
  obtain ⟨hB, hR⟩ := box2_cells hb1
  obtain ⟨c0, c1, c2⟩ := cells3 hR
  obtain ⟨f0, f1, f2⟩ := free3 hR
  clear hB hR
  go_wp2
  (try simp only [Exit.inBlock, Exit.then])
  refine bodyPost_ret (v := .tuple #[zeroDisk, .int .i64 20]) ?_ rfl ⟨rfl, ?_⟩
  · rw [results_cell_tmp rfl]
    go_simp
  · exact set3_below (box2_below hb1) (by omega) _ _ _

theorem keepS {W w1 w2 : World} {B H : Nat} {x y z : Value} (hz : B ≤ W.heap.size) (h : (w1.cell? ⟨H, 0, none⟩ = some x ∧ w1.cell? ⟨H, 1, none⟩ = some y ∧ w1.cell? ⟨H, 2, none⟩ = some z) ∧ Hid (Below B W w1)) (hb : Below w1.heap.size w1 w2) :
    (w2.cell? ⟨H, 0, none⟩ = some x ∧ w2.cell? ⟨H, 1, none⟩ = some y ∧ w2.cell? ⟨H, 2, none⟩ = some z) ∧ Hid (Below B W w2) :=
  ⟨⟨below_cell_some hb h.1.1, below_cell_some hb h.1.2.1, below_cell_some hb h.1.2.2⟩, h.2.out.trans (hb.mono (Nat.le_trans hz h.2.out.size))⟩
theorem keepA {W w1 : World} {B H : Nat} {x y z : Value} (hz : B ≤ W.heap.size) (h : (w1.cell? ⟨H, 0, none⟩ = some x ∧ w1.cell? ⟨H, 1, none⟩ = some y ∧ w1.cell? ⟨H, 2, none⟩ = some z) ∧ Hid (Below B W w1)) (o : Obj) :
    ((w1.alloc o).cell? ⟨H, 0, none⟩ = some x ∧ (w1.alloc o).cell? ⟨H, 1, none⟩ = some y ∧ (w1.alloc o).cell? ⟨H, 2, none⟩ = some z) ∧ Hid (Below B W (w1.alloc o)) :=
  keepS hz h (below_alloc w1 o)
theorem keep3 {W w1 : World} {B H : Nat} {x y z : Value} (h : (w1.cell? ⟨H, 0, none⟩ = some x ∧ w1.cell? ⟨H, 1, none⟩ = some y ∧ w1.cell? ⟨H, 2, none⟩ = some z) ∧ Hid (Below B W w1)) {G : Nat} (hG : H ≠ G ∧ B ≤ G) (a b c : Value) :
    ((((w1.setCell ⟨G, 0, none⟩ a).setCell ⟨G, 1, none⟩ b).setCell ⟨G, 2, none⟩ c).cell? ⟨H, 0, none⟩ = some x ∧ (((w1.setCell ⟨G, 0, none⟩ a).setCell ⟨G, 1, none⟩ b).setCell ⟨G, 2, none⟩ c).cell? ⟨H, 1, none⟩ = some y ∧ (((w1.setCell ⟨G, 0, none⟩ a).setCell ⟨G, 1, none⟩ b).setCell ⟨G, 2, none⟩ c).cell? ⟨H, 2, none⟩ = some z) ∧ Hid (Below B W (((w1.setCell ⟨G, 0, none⟩ a).setCell ⟨G, 1, none⟩ b).setCell ⟨G, 2, none⟩ c)) :=
  have e := set3_other w1 G H a b c hG.1
  ⟨⟨(World.cell?_of_block e).trans h.1.1, (World.cell?_of_block e).trans h.1.2.1, (World.cell?_of_block e).trans h.1.2.2⟩, set3_below h.2.out hG.2 _ _ _⟩
theorem below_bt {a b c : World} (h : Below a.heap.size a b) (k : Below b.heap.size b c) : Below a.heap.size a c := h.trans (k.mono h.size)
theorem apart_after {w : World} {base gd : Nat} {v : Value} {ws : Puts} {gs : List Nat} (h : PutsOwn w base v ws gs) (hg : gd < base) : ∀ i, i < ws.length → gs.getD i 0 ≠ gd := fun i hi e => by
  have := (h.rows i hi).1
  omega
theorem own_alloc {Y : World} {base gd : Nat} {count : Int} {data : List Nat} {q : Option Addr} {m : Nat} {ws : Puts} {gs : List Nat} (hg : Y.heap[gd]? = some (.cells (Bs data).toArray 5 (0, 0))) (hgb : base ≤ gd) (hp : PutsOwn Y base (.slice q ws.length m) ws gs) (ha : ∀ i, i < ws.length → gs.getD i 0 ≠ gd) (hby : ∀ c ∈ data, c < 256) (hbase : base ≤ Y.heap.size) :
    DiskOwn (Y.alloc (.cells #[.int .i64 count, .slice (some ⟨gd, 0, none⟩) data.length data.length, .slice q ws.length m] 25)) base Y.heap.size gd count data q m ws gs :=
  ⟨heap_alloc_new Y _, hbase, hgb, ((below_alloc Y _).block _ (lt_heap hg)).trans hg, hp.below (below_alloc Y _), ha, hby⟩
theorem own_set3 {Y : World} {base B0 gd : Nat} {x y z : Value} {count : Int} {data : List Nat} {q : Option Addr} {m : Nat} {ws : Puts} {gs : List Nat} (hB : Y.heap[B0]? = some (.cells #[x, y, z] 25 (0, 0))) (hBb : base ≤ B0) (hg : Y.heap[gd]? = some (.cells (Bs data).toArray 5 (0, 0))) (hgb : base ≤ gd) (hp : PutsOwn Y base (.slice q ws.length m) ws gs) (ha : ∀ i, i < ws.length → gs.getD i 0 ≠ gd) (hby : ∀ c ∈ data, c < 256) :
    DiskOwn (((Y.setCell ⟨B0, 0, none⟩ (.int .i64 count)).setCell ⟨B0, 1, none⟩ (.slice (some ⟨gd, 0, none⟩) data.length data.length)).setCell ⟨B0, 2, none⟩ (.slice q ws.length m)) base B0 gd count data q m ws gs := by
  have hne : ∀ (k : Nat) (cs : Array Value) (t : TypeId), t ≠ 25 → Y.heap[k]? = some (.cells cs t (0, 0)) → k ≠ B0 := by
    rintro k cs t ht hk rfl
    rw [hB] at hk
    simp only [Option.some.injEq, Obj.cells.injEq] at hk
    exact ht hk.2.1.symm
  exact ⟨set3_same Y B0 _ _ _ _ _ _ _ hB, hBb, hgb, (set3_other Y B0 gd _ _ _ (hne _ _ _ (by decide) hg)).trans hg, hp.keep (fun k cur _ hk => set3_other Y B0 k _ _ _ (hne _ _ _ (by decide) hk)) (fun i hi => set3_other Y B0 _ _ _ _ (hne _ _ _ (by decide) (hp.rows i hi).2)), ha, hby⟩
theorem DiskOwn.toNew {w : World} {base B0 gd : Nat} {count : Int} {data : List Nat} {q : Option Addr} {m : Nat} {ws : Puts} {gs : List Nat} (h : DiskOwn w base B0 gd count data q m ws gs) : DiskNew w base (.agg #[.int .i64 count, .slice (some ⟨gd, 0, none⟩) data.length data.length, .slice q ws.length m]) count data ws :=
  ⟨⟨gd, q, m, gs, rfl, h.hgd, h.drow, h.puts, h.apart⟩, h.bytes⟩
theorem ActsIn.addr {w : World} {q : Option Addr} {l : Acts} (h : ActsIn w q l) (hw : 0 < l.length) : ∃ b o, q = some ⟨b, o, none⟩ := by
  obtain ⟨b, o, e, _⟩ := h hw
  exact ⟨b, o, e⟩
theorem ActsIn.at {w : World} {b o : Nat} {l : Acts} (h : ActsIn w (some ⟨b, o, none⟩) l) {k : Nat} (hk : k < l.length) :
    w.cell? ⟨b, o + k * 3, none⟩ = some (.bool (l.getD k (false, 0, [])).1) ∧ w.cell? ⟨b, o + k * 3 + 1, none⟩ = some (.int .i64 (l.getD k (false, 0, [])).2.1) ∧ ∃ p c, w.cell? ⟨b, o + k * 3 + 2, none⟩ = some (.slice p (l.getD k (false, 0, [])).2.2.length c) ∧ BIn w p (l.getD k (false, 0, [])).2.2 := by
  obtain ⟨b', o', e, hc⟩ := h (by omega)
  simp only [Option.some.injEq, Addr.mk.injEq, and_true] at e
  obtain ⟨rfl, rfl⟩ := e
  obtain ⟨h1, h2, v, h3, hr⟩ := hc k hk
  obtain ⟨p, c, rfl, g, _⟩ := hr.lies
  exact ⟨h1, by rw [Nat.add_assoc]; exact h2, p, c, by rw [Nat.add_assoc]; exact h3, g⟩
/-- What Do answers: an error and no disk; or the disk then, in memory of its own. -/
inductive DoPost (base : Nat) (count : Int) : Except Int (List Nat × Puts) → Ending → World → Prop
  | err (c : Int) (w' : World) : DoPost base count (.error c) (.returned (.tuple #[zeroDisk, .int .i64 c])) w'
  | ok (data : List Nat) (ws : Puts) (v : Value) (w' : World) : DiskNew w' base v count data ws → DoPost base count (.ok (data, ws)) (.returned (.tuple #[v, .int .i64 0])) w'
set_option maxHeartbeats 2000000 in
theorem do_ok (v : Value) (count : Int) (data : List Nat) (ws : Puts) (w : World) (hd : DiskIn w v count data ws) (ho : Okay count data ws) (ql : Option Addr) (ml : Nat) (l : Acts) (hl : ActsIn w ql l) (hll : l.length ≤ 9223372036854775807) :
    Calls Tryz.prog 15 #[v, .slice ql l.length ml] w fun e w' => DoPost w.heap.size count (doN count (data, ws) l) e w' ∧ Below w.heap.size w w' := by
  obtain ⟨p, c, q, m, rfl, hb, _⟩ := hd.parts
  have HBY : Hid (∀ c ∈ data, c < 256) := hb.2
  clear hb
  have HD : Hid _ := hd
  have HO : Hid _ := ho
  clear hd ho
  go_enter Tryz.func15, Tryz.ntmps15
  go_wp2_with fail
  refine (check_ok _ count data ws _ (HD.out.below ((below_alloc w _).alloc (by simp) _)) HO.out).mono ?_
  rintro e w1 ⟨rfl, hb1⟩
  replace hb1 : Below (w.heap.size + 2) ((w.alloc (.cells #[.int .i64 count, .slice p data.length c, .slice q ws.length m] 25)).alloc (.cells #[.int .i64 0, .slice none 0 0, .slice none 0 0] 25)) w1 := by simpa using hb1
  have hz1 := box2_size hb1
  obtain ⟨hB, hR⟩ := box2_cells hb1
  obtain ⟨c0, c1, c2⟩ := cells3 hB
  have HR : Hid _ := hR
  have HB : Hid _ := hB
  clear hB hR
  go_wp2
  obtain ⟨W, hW⟩ : ∃ W, W = (w.alloc (.cells #[.int .i64 count, .slice p data.length c, .slice q ws.length m] 25)).alloc (.cells #[.int .i64 0, .slice none 0 0, .slice none 0 0] 25) := ⟨_, rfl⟩
  have HDx : Hid (∀ w', Below (w.heap.size + 2) W w' → DiskIn w' (.agg #[.int .i64 count, .slice p data.length c, .slice q ws.length m]) count data ws) := by
    intro w' h
    rw [hW] at h
    exact HD.out.below (box2_below h)
  rw [← hW] at hb1
  have HS1 : (w1.drew.cell? ⟨w.heap.size, 0, none⟩ = some (.int .i64 count) ∧ w1.drew.cell? ⟨w.heap.size, 1, none⟩ = some (.slice p data.length c) ∧ w1.drew.cell? ⟨w.heap.size, 2, none⟩ = some (.slice q ws.length m)) ∧ Hid (Below (w.heap.size + 2) W w1.drew) := ⟨⟨c0, c1, c2⟩, hb1.drew⟩
  have HWz : Hid (w.heap.size + 2 ≤ W.heap.size) := by show _ ≤ _; rw [hW]; simp
  go_cut [7] from 11 (fun s7 w5 => ∃ B0 gd q' m' gs, s7 = .pointer (some ⟨B0, 0, none⟩) ∧ DiskOwn w5 (w.heap.size + 2) B0 gd count data q' m' ws gs ∧ Below (w.heap.size + 2) W w5)
  case first =>
    refine wp_region_noPanic ?_
    refine wp_region_held_drew (S := fun w' => (w'.cell? ⟨w.heap.size, 0, none⟩ = some (.int .i64 count) ∧ w'.cell? ⟨w.heap.size, 1, none⟩ = some (.slice p data.length c) ∧ w'.cell? ⟨w.heap.size, 2, none⟩ = some (.slice q ws.length m)) ∧ Hid (Below (w.heap.size + 2) W w')) (by kernel_rfl) HS1 (fun hS0 => ?_)
    have sz0 := Nat.le_trans HWz.out hS0.2.out.size
    clear HS1 c0 c1 c2 hb1
    refine takeH 0 17 (v := ?_) rfl rfl (by kernel_rfl) (by kernel_rfl) (by kernel_rfl) (fun _ _ _ h => h) (by rfl) ?_ (by assumption) ?_
    rotate_left
    · intro w hSw; go_simp; first | done | with_reducible rfl
    simp only [Act.put, List.setIfInBounds_toArray, List.set_cons_zero, List.set_cons_succ]
    refine takeH 1 18 (v := ?_) rfl rfl (by kernel_rfl) (by kernel_rfl) (by kernel_rfl) (fun _ _ _ h => h) (by rfl) ?_ (by assumption) ?_
    rotate_left
    · intro w hSw; go_simp; first | done | with_reducible rfl
    simp only [Act.put, List.setIfInBounds_toArray, List.set_cons_zero, List.set_cons_succ]
    refine takeH 2 19 (v := ?_) rfl rfl (by kernel_rfl) (by kernel_rfl) (by kernel_rfl) (fun _ _ _ h => h) (by rfl) ?_ (by assumption) ?_
    rotate_left
    · intro w hSw; go_simp; first | done | with_reducible rfl
    simp only [Act.put, List.setIfInBounds_toArray, List.set_cons_zero, List.set_cons_succ]
    refine takeH 4 21 (v := ?_) rfl rfl (by kernel_rfl) (by kernel_rfl) (by kernel_rfl) (fun _ _ _ h => h) (by rfl) ?_ (by assumption) ?_
    rotate_left
    · intro w hSw; go_simp; first | done | with_reducible rfl
    simp only [Act.put, List.setIfInBounds_toArray, List.set_cons_zero, List.set_cons_succ]
    refine wpAnyH_ready (rs := [3, 7]) (by kernel_rfl) (by simp) ?_
    refine AllReadyH.cons rfl (fun K hK => ?_) (AllReadyH.cons rfl (fun K hK => ?_) AllReadyH.nil)
    · go_simp
      refine (sectors_any _ count data ws _ (HDx.out _ hS0.2.out) HO.out).mono ?_
      rintro e ws1 ⟨gd, rfl, hg1, hg2, hb1⟩
      go_simp
      refine hK.out _ _ (keepS HWz.out hS0 hb1) (fun hS1 => ?_)
      clear hK K
      have sz1 := Nat.le_trans HWz.out hS1.2.out.size
      refine wpAnyH_ready (rs := [5, 7]) (by kernel_rfl) (by simp) ?_
      refine AllReadyH.cons rfl (fun K hK => ?_) (AllReadyH.cons rfl (fun K hK => ?_) AllReadyH.nil)
      · go_simp
        refine (waits_any _ count data ws _ (HDx.out _ hS1.2.out) HO.out).mono ?_
        rintro e ww2 ⟨q', m', gs, rfl, hp, hb2⟩
        go_simp
        refine hK.out _ _ (keepS HWz.out hS1 hb2) (fun hS2 => ?_)
        clear hK K
        have sz2 := Nat.le_trans HWz.out hS2.2.out.size
        refine takeH 6 23 (v := ?_) rfl rfl (by kernel_rfl) (by kernel_rfl) (by kernel_rfl) (fun _ _ _ h => h) (by rfl) ?_ (by assumption) ?_
        rotate_left
        · intro w hSw; go_simp; first | done | with_reducible rfl
        simp only [Act.put, List.setIfInBounds_toArray, List.set_cons_zero, List.set_cons_succ]
        refine wpAnyH_ready (rs := [7]) (by kernel_rfl) (by simp) ?_
        refine AllReadyH.cons rfl (fun K hK => ?_) AllReadyH.nil
        · have hb3 := below_alloc ww2 (.cells #[.int .i64 0, .slice none 0 0, .slice none 0 0] 25)
          go_simp
          refine hK.out _ _ (keepS HWz.out hS2 hb3) (fun hS3 => ?_)
          clear hK K
          have sz3 := Nat.le_trans HWz.out hS3.2.out.size
          refine wpAnyH_ready (rs := [8]) (by kernel_rfl) (by simp) ?_
          refine AllReadyH.cons rfl (fun K hK => ?_) AllReadyH.nil
          go_simp
          refine hK.out _ _ (keepA HWz.out hS2 _) (fun hSz => ?_)
          clear hK K
          refine wpAnyH_done (by kernel_rfl) (NoPanic.normal ?_) _
          go_wp2
          go_meet
          case rel =>
            have gY := ((hb2).block _ (lt_heap hg2)).trans hg2
            have pY := hp
            have aY := apart_after hp (lt_heap hg2)
            exact ⟨_, gd, q', m', gs, rfl, own_alloc gY (Nat.le_trans sz0 hg1) (pY.mono sz1) aY HBY.out sz2, hSz.2.out⟩
      · have hb2 := below_alloc ws1 (.cells #[.int .i64 0, .slice none 0 0, .slice none 0 0] 25)
        go_simp
        refine hK.out _ _ (keepS HWz.out hS1 hb2) (fun hS2 => ?_)
        clear hK K
        have sz2 := Nat.le_trans HWz.out hS2.2.out.size
        refine wpAnyH_ready (rs := [5]) (by kernel_rfl) (by simp) ?_
        refine AllReadyH.cons rfl (fun K hK => ?_) AllReadyH.nil
        · go_simp
          refine (waits_any _ count data ws _ (HDx.out _ hS2.2.out) HO.out).mono ?_
          rintro e ww3 ⟨q', m', gs, rfl, hp, hb3⟩
          go_simp
          refine hK.out _ _ (keepS HWz.out hS2 hb3) (fun hS3 => ?_)
          clear hK K
          have sz3 := Nat.le_trans HWz.out hS3.2.out.size
          refine takeH 6 23 (v := ?_) rfl rfl (by kernel_rfl) (by kernel_rfl) (by kernel_rfl) (fun _ _ _ h => h) (by rfl) ?_ (by assumption) ?_
          rotate_left
          · intro w hSw; go_simp; first | done | with_reducible rfl
          simp only [Act.put, List.setIfInBounds_toArray, List.set_cons_zero, List.set_cons_succ]
          refine wpAnyH_ready (rs := [8]) (by kernel_rfl) (by simp) ?_
          refine AllReadyH.cons rfl (fun K hK => ?_) AllReadyH.nil
          have hZ := ((hb3).block _ (by first | (rw [World.size_alloc]; omega) | (show _ < (w1.alloc _).heap.size; rw [World.size_alloc]; exact Nat.lt_succ_self _))).trans (heap_alloc_new _ _)
          obtain ⟨z0, z1, z2⟩ := cells3 hZ
          obtain ⟨y0, y1, y2⟩ := free3 hZ
          have HZ : Hid _ := hZ
          clear hZ
          go_simp
          refine hK.out _ _ (keep3 hS3 ⟨by have := sz1; omega, by exact sz1⟩ _ _ _) (fun hSz => ?_)
          clear hK K
          refine wpAnyH_done (by kernel_rfl) (NoPanic.normal ?_) _
          go_wp2
          go_meet
          case rel =>
            have gY := (((below_bt hb2 hb3)).block _ (lt_heap hg2)).trans hg2
            have pY := hp
            have aY := apart_after hp (Nat.lt_of_lt_of_le (lt_heap hg2) (hb2).size)
            exact ⟨_, gd, q', m', gs, rfl, own_set3 HZ.out sz1 gY (Nat.le_trans sz0 hg1) (pY.mono sz2) aY HBY.out, hSz.2.out⟩
    · have hb1 := below_alloc w1.drew (.cells #[.int .i64 0, .slice none 0 0, .slice none 0 0] 25)
      go_simp
      refine hK.out _ _ (keepS HWz.out hS0 hb1) (fun hS1 => ?_)
      clear hK K
      have sz1 := Nat.le_trans HWz.out hS1.2.out.size
      refine wpAnyH_ready (rs := [3]) (by kernel_rfl) (by simp) ?_
      refine AllReadyH.cons rfl (fun K hK => ?_) AllReadyH.nil
      · go_simp
        refine (sectors_any _ count data ws _ (HDx.out _ hS1.2.out) HO.out).mono ?_
        rintro e ws2 ⟨gd, rfl, hg1, hg2, hb2⟩
        go_simp
        refine hK.out _ _ (keepS HWz.out hS1 hb2) (fun hS2 => ?_)
        clear hK K
        have sz2 := Nat.le_trans HWz.out hS2.2.out.size
        refine wpAnyH_ready (rs := [5]) (by kernel_rfl) (by simp) ?_
        refine AllReadyH.cons rfl (fun K hK => ?_) AllReadyH.nil
        · go_simp
          refine (waits_any _ count data ws _ (HDx.out _ hS2.2.out) HO.out).mono ?_
          rintro e ww3 ⟨q', m', gs, rfl, hp, hb3⟩
          go_simp
          refine hK.out _ _ (keepS HWz.out hS2 hb3) (fun hS3 => ?_)
          clear hK K
          have sz3 := Nat.le_trans HWz.out hS3.2.out.size
          refine takeH 6 23 (v := ?_) rfl rfl (by kernel_rfl) (by kernel_rfl) (by kernel_rfl) (fun _ _ _ h => h) (by rfl) ?_ (by assumption) ?_
          rotate_left
          · intro w hSw; go_simp; first | done | with_reducible rfl
          simp only [Act.put, List.setIfInBounds_toArray, List.set_cons_zero, List.set_cons_succ]
          refine wpAnyH_ready (rs := [8]) (by kernel_rfl) (by simp) ?_
          refine AllReadyH.cons rfl (fun K hK => ?_) AllReadyH.nil
          have hZ := (((below_bt hb2 hb3)).block _ (by first | (rw [World.size_alloc]; omega) | (show _ < (w1.alloc _).heap.size; rw [World.size_alloc]; exact Nat.lt_succ_self _))).trans (heap_alloc_new _ _)
          obtain ⟨z0, z1, z2⟩ := cells3 hZ
          obtain ⟨y0, y1, y2⟩ := free3 hZ
          have HZ : Hid _ := hZ
          clear hZ
          go_simp
          refine hK.out _ _ (keep3 hS3 ⟨by have := sz0; omega, by exact sz0⟩ _ _ _) (fun hSz => ?_)
          clear hK K
          refine wpAnyH_done (by kernel_rfl) (NoPanic.normal ?_) _
          go_wp2
          go_meet
          case rel =>
            have gY := ((hb3).block _ (lt_heap hg2)).trans hg2
            have pY := hp
            have aY := apart_after hp (lt_heap hg2)
            exact ⟨_, gd, q', m', gs, rfl, own_set3 HZ.out sz0 gY (Nat.le_trans sz1 hg1) (pY.mono sz2) aY HBY.out, hSz.2.out⟩
  case rest =>
    obtain ⟨B0, gd, q', m', gs, rfl, hown, hbc⟩ := hcut
    have HX : Hid (∀ w', Below (w.heap.size + 2) W w' → w'.heap[w.heap.size + 1]? = some (.cells #[.int .i64 0, .slice none 0 0, .slice none 0 0] 25 (0, 0)) ∧ Below w.heap.size w w' ∧ w.heap.size + 2 ≤ w'.heap.size) := by
      intro w' h
      rw [hW] at h
      exact ⟨(box2_cells h).2, box2_below h, box2_size h⟩
    have HO0 : Hid (DiskOwn wc (w.heap.size + 2) B0 gd count data q' m' ws gs) := hown
    clear hown hW HD HDx HS1 HR HB c0 c1 c2 hb1 hz1
    go_wp2
    go_loopw [26] (fun i wr => ∃ k : Nat, ∃ dk wk qk mk gk, k ≤ l.length ∧ i = .int .i64 k ∧ Hid (doN count (data, ws) (l.take k) = .ok (dk, wk)) ∧ DiskOwn wr (w.heap.size + 2) B0 gd count dk qk mk wk gk ∧ Below (w.heap.size + 2) W wr) (fun i _ => l.length - (intOf i).toNat)
    case atStart => exact ⟨0, data, ws, q', m', gs, by omega, rfl, rfl, HO0.out, hbc⟩
    case round =>
      obtain ⟨k, dk, wk, qk, mk, gk, hk, rfl, HN, hok, hbk⟩ := hrel
      obtain ⟨hres, hbw, hsz⟩ := HX.out _ hbk
      by_cases hkl : k < l.length
      · obtain ⟨b, o, rfl⟩ := hl.addr (by omega)
        obtain ⟨e0, e1, pk, ck, e2, hbi⟩ := (hl.below hbw).at hkl
        have HST : Hid (doN count (data, ws) (l.take (k + 1)) = stepA count (dk, wk) (l.getD k (false, 0, []))) := doN_step hkl HN.out
        have hoky : Okay count dk wk := okay_do _ (s := (data, ws)) (s' := (dk, wk)) HO.out HN.out
        generalize l.getD k (false, 0, []) = y at *
        obtain ⟨fl, s, xs⟩ := y
        simp only at e0 e1 e2 hbi
        have HBI : Hid (BIn wr pk xs) := hbi
        have HOK : Hid (DiskOwn wr (w.heap.size + 2) B0 gd count dk qk mk wk gk) := hok
        have HOY : Hid (Okay count dk wk) := hoky
        have HRES : Hid _ := hres
        clear hbi hok hoky hres HN HO0 hl
        cases fl with
        | true =>
          have HE : Hid (stepA count (dk, wk) (true, s, xs) = .ok (settleN dk wk, [])) := rfl
          go_wp2_with fail
          refine (settle_any (w.heap.size + 2) B0 gd count dk qk mk wk gk _ (HOK.out.below (below_alloc wr _)) HOY.out (by simp; omega)).mono ?_
          rintro e w2 ⟨rfl, hd2, hb2⟩
          have hb3 := (hbk.alloc (by omega) _).trans hb2
          clear hb2
          go_wp2
          go_roundw
          case rel => exact ⟨k + 1, _, _, _, _, _, by omega, by go_num, HST.out.trans HE.out, hd2, hb3⟩
          case measure => simp [intOf]; omega
        | false =>
          by_cases g1 : 0 ≤ s ∧ s < count
          · by_cases g2 : xs.length = 128
            · by_cases g3 : wk.length < 4096
              · have HE : Hid (stepA count (dk, wk) (false, s, xs) = .ok (dk, wk ++ [(s, xs)])) := by
                  show stepA _ _ _ = _
                  simp [stepA, g1, g2, show ¬ 4096 ≤ wk.length from by omega]
                have G2 : Hid (xs.length = 128) := g2
                rw [g2] at e2
                clear g2
                go_wp2_with fail
                refine (wait_ok (w.heap.size + 2) B0 gd count dk qk mk wk gk s pk ck xs _ (HOK.out.below (below_alloc wr _)) g1 G2.out g3 (HBI.out.alloc _) (by simp; omega)).mono ?_
                rintro e w2 ⟨rfl, ⟨q2, m2, g2, hd2⟩, hb2⟩
                have hb3 := (hbk.alloc (by omega) _).trans hb2
                clear hb2
                go_wp2
                go_roundw
                case rel => exact ⟨k + 1, _, _, _, _, _, by omega, by go_num, HST.out.trans HE.out, hd2, hb3⟩
                case measure => simp [intOf]; omega
              · have HE : Hid (stepA count (dk, wk) (false, s, xs) = .error 4) := by
                  show stepA _ _ _ = _
                  simp [stepA, g1, g2, show 4096 ≤ wk.length from by omega]
                rw [g2] at e2
                clear g2
                have HF : Hid (doN count (data, ws) l = .error 4) := doN_fail (HST.out.trans HE.out)
                go_wp2_with fail
                refine (wait_many (w.heap.size + 2) B0 gd count dk qk mk wk gk s pk ck _ (HOK.out.below (below_alloc wr _)) g1 (by omega)).mono ?_
                rintro e w2 ⟨rfl, hb2⟩
                have hb3 := (hbk.alloc (by omega) _).trans (hb2.mono (by simp; omega))
                obtain ⟨hres2, hbw2, hsz2⟩ := HX.out _ hb3
                obtain ⟨r0, r1, r2⟩ := cells3 hres2
                obtain ⟨f0, f1, f2⟩ := free3 hres2
                clear hb2 hb3 hres2 HRES
                go_wp2
                (try simp only [Exit.inBlock, Exit.then])
                refine bodyPost_ret (v := .tuple #[zeroDisk, .int .i64 4]) ?_ rfl ⟨?_, ?_⟩
                · rw [results_cell_tmp rfl]
                  go_simp
                · rw [HF.out]
                  exact .err _ _
                · exact set3_below hbw2 (by omega) _ _ _
            · have HE : Hid (stepA count (dk, wk) (false, s, xs) = .error 8) := by
                show stepA _ _ _ = _
                simp [stepA, g1, g2]
              have HF : Hid (doN count (data, ws) l = .error 8) := doN_fail (HST.out.trans HE.out)
              go_wp2_with fail
              refine (wait_bad (w.heap.size + 2) B0 gd count dk qk mk wk gk s pk ck xs _ (HOK.out.below (below_alloc wr _)) g1 g2).mono ?_
              rintro e w2 ⟨rfl, hb2⟩
              have hb3 := (hbk.alloc (by omega) _).trans (hb2.mono (by simp; omega))
              obtain ⟨hres2, hbw2, hsz2⟩ := HX.out _ hb3
              obtain ⟨r0, r1, r2⟩ := cells3 hres2
              obtain ⟨f0, f1, f2⟩ := free3 hres2
              clear hb2 hb3 hres2 HRES
              go_wp2
              (try simp only [Exit.inBlock, Exit.then])
              refine bodyPost_ret (v := .tuple #[zeroDisk, .int .i64 8]) ?_ rfl ⟨?_, ?_⟩
              · rw [results_cell_tmp rfl]
                go_simp
              · rw [HF.out]
                exact .err _ _
              · exact set3_below hbw2 (by omega) _ _ _
          · have HE : Hid (stepA count (dk, wk) (false, s, xs) = .error 21) := by
              show stepA _ _ _ = _
              simp [stepA, g1]
            have HF : Hid (doN count (data, ws) l = .error 21) := doN_fail (HST.out.trans HE.out)
            go_wp2_with fail
            refine (wait_range (w.heap.size + 2) B0 gd count dk qk mk wk gk s (.slice pk xs.length ck) _ (HOK.out.below (below_alloc wr _)) g1).mono ?_
            rintro e w2 ⟨rfl, hb2⟩
            have hb3 := (hbk.alloc (by omega) _).trans (hb2.mono (by simp; omega))
            obtain ⟨hres2, hbw2, hsz2⟩ := HX.out _ hb3
            obtain ⟨r0, r1, r2⟩ := cells3 hres2
            obtain ⟨f0, f1, f2⟩ := free3 hres2
            clear hb2 hb3 hres2 HRES
            go_wp2
            (try simp only [Exit.inBlock, Exit.then])
            refine bodyPost_ret (v := .tuple #[zeroDisk, .int .i64 21]) ?_ rfl ⟨?_, ?_⟩
            · rw [results_cell_tmp rfl]
              go_simp
            · rw [HF.out]
              exact .err _ _
            · exact set3_below hbw2 (by omega) _ _ _
      · obtain rfl : k = l.length := by omega
        obtain ⟨c0, c1, c2⟩ := hok.cells
        obtain ⟨r0, r1, r2⟩ := cells3 hres
        obtain ⟨f0, f1, f2⟩ := free3 hres
        have HN' : Hid (doN count (data, ws) l = .ok (dk, wk)) := by have := HN.out; rwa [List.take_length] at this
        have HF : Hid (DiskNew wr w.heap.size (.agg #[.int .i64 count, .slice (some ⟨gd, 0, none⟩) dk.length dk.length, .slice qk wk.length mk]) count dk wk) := hok.toNew.mono (by omega)
        have HR : Hid _ := hres
        clear hok hres HN HO0 hl
        go_wp2
        (try simp only [Exit.inBlock, Exit.then])
        refine bodyPost_ret (v := .tuple #[.agg #[.int .i64 count, .slice (some ⟨gd, 0, none⟩) dk.length dk.length, .slice qk wk.length mk], .int .i64 0]) ?_ rfl ⟨?_, ?_⟩
        · rw [results_cell_tmp rfl]
          go_simp
        · rw [HN'.out]
          exact .ok _ _ _ _ (HF.out.set3 HR.out _ _ _)
        · exact set3_below hbw (by omega) _ _ _
end Go.Proofs.YtglcpfnpbcnejaaGreatDoor
