/-
  Contracts of the calls checkSector, Sure and Read.
-/
import Derived.Test.YtkgmhmhphgaclabGreatDoorJ19
import Derived.Deep.Cut
namespace Go.Proofs.YtkgmhmhphgaclabGreatDoor
set_option maxRecDepth 8000
open Go.RowKit Go.WideShapes
attribute [local go_sem ↓] Go.wp_at_zero Go.wp_at_succ

/-- No disk at all. -/
abbrev zeroDisk : Value := .agg #[.int .i64 0, .slice none 0 0, .slice none 0 0]
theorem box2_cells {w wr : World} {a b c a' b' c' : Value} {t t' : TypeId} (h : Below (w.heap.size + 2) ((w.alloc (.cells #[a, b, c] t)).alloc (.cells #[a', b', c'] t')) wr) :
    wr.heap[w.heap.size]? = some (.cells #[a, b, c] t (0, 0)) ∧ wr.heap[w.heap.size + 1]? = some (.cells #[a', b', c'] t' (0, 0)) :=
  ⟨(h.block _ (by omega)).trans (heap_alloc2_old w _ _), (h.block _ (by omega)).trans (heap_alloc2_new w _ _)⟩
theorem box2_below {w wr : World} {o o' : Obj} (h : Below (w.heap.size + 2) ((w.alloc o).alloc o') wr) : Below w.heap.size w wr := ((below_alloc w o).alloc (by simp) o').trans (h.mono (by omega))
theorem box2_size {w wr : World} {o o' : Obj} (h : Below (w.heap.size + 2) ((w.alloc o).alloc o') wr) : w.heap.size + 2 ≤ wr.heap.size := by
  have := h.size
  simp at this
  omega
theorem cells3 {w : World} {B : Nat} {a b c : Value} {t : TypeId} (h : w.heap[B]? = some (.cells #[a, b, c] t (0, 0))) : w.cell? ⟨B, 0, none⟩ = some a ∧ w.cell? ⟨B, 1, none⟩ = some b ∧ w.cell? ⟨B, 2, none⟩ = some c :=
  ⟨cell_of_row _ _ _ _ _ _ h, cell_of_row _ _ _ _ _ _ h, cell_of_row _ _ _ _ _ _ h⟩
theorem free3 {w : World} {B : Nat} {a b c : Value} {t : TypeId} (h : w.heap[B]? = some (.cells #[a, b, c] t (0, 0))) : w.frozen? ⟨B, 0, none⟩ = false ∧ w.frozen? ⟨B, 1, none⟩ = false ∧ w.frozen? ⟨B, 2, none⟩ = false :=
  ⟨frozen_of_row _ _ _ _ _ h, frozen_of_row _ _ _ _ _ h, frozen_of_row _ _ _ _ _ h⟩

set_option maxHeartbeats 1000000 in
theorem do_bad (v l : Value) (count : Int) (data : List Nat) (ws : Puts) (w : World) (hd : DiskIn w v count data ws) (ho : ¬ Okay count data ws) :
    Calls Tryz.prog 11 #[v, l] w fun e w' => e = .returned (.tuple #[zeroDisk, .int .i64 20]) ∧ Below w.heap.size w w' := by
  obtain ⟨p, c, q, m, rfl, _⟩ := hd.parts
  have HD : Hid _ := hd
  clear hd
  go_enter Tryz.func11, Tryz.ntmps11
  go_wp2_with fail
  refine (check_bad _ count data ws _ (HD.out.below ((below_alloc w _).alloc (by simp) _)) ho).mono ?_
  rintro e w1 ⟨rfl, hb1⟩
  replace hb1 : Below (w.heap.size + 2) ((w.alloc (.cells #[.int .i64 count, .slice p data.length c, .slice q ws.length m] 25)).alloc (.cells #[.int .i64 0, .slice none 0 0, .slice none 0 0] 25)) w1 := by simpa using hb1
  obtain ⟨hB, hR⟩ := box2_cells hb1
  obtain ⟨c0, c1, c2⟩ := cells3 hR
  obtain ⟨f0, f1, f2⟩ := free3 hR
  clear hB hR
  go_wp2
  (try simp only [Exit.inBlock, Exit.then])
  refine bodyPost_ret (v := .tuple #[zeroDisk, .int .i64 20]) ?_ rfl ⟨rfl, ?_⟩
  · rw [results_cell_tmp rfl]
    go_simp
  · exact set3_below (box2_below hb1) (by omega) _ _ _

theorem keepS {W w1 w2 : World} {B H : Nat} {x y z : Value} (hz : B ≤ W.heap.size) (h : (w1.cell? ⟨H, 0, none⟩ = some x ∧ w1.cell? ⟨H, 1, none⟩ = some y ∧ w1.cell? ⟨H, 2, none⟩ = some z) ∧ Hid (Below B W w1)) (hb : Below w1.heap.size w1 w2) :
    (w2.cell? ⟨H, 0, none⟩ = some x ∧ w2.cell? ⟨H, 1, none⟩ = some y ∧ w2.cell? ⟨H, 2, none⟩ = some z) ∧ Hid (Below B W w2) :=
  ⟨⟨below_cell_some hb h.1.1, below_cell_some hb h.1.2.1, below_cell_some hb h.1.2.2⟩, h.2.out.trans (hb.mono (Nat.le_trans hz h.2.out.size))⟩
theorem keepA {W w1 : World} {B H : Nat} {x y z : Value} (hz : B ≤ W.heap.size) (h : (w1.cell? ⟨H, 0, none⟩ = some x ∧ w1.cell? ⟨H, 1, none⟩ = some y ∧ w1.cell? ⟨H, 2, none⟩ = some z) ∧ Hid (Below B W w1)) (o : Obj) :
    ((w1.alloc o).cell? ⟨H, 0, none⟩ = some x ∧ (w1.alloc o).cell? ⟨H, 1, none⟩ = some y ∧ (w1.alloc o).cell? ⟨H, 2, none⟩ = some z) ∧ Hid (Below B W (w1.alloc o)) :=
  keepS hz h (below_alloc w1 o)
theorem alloc_carry {X w2 : World} {a b c : Value} {t : TypeId} (h : Below (X.alloc (.cells #[a, b, c] t)).heap.size (X.alloc (.cells #[a, b, c] t)) w2) : w2.heap[X.heap.size]? = some (.cells #[a, b, c] t (0, 0)) :=
  (h.block _ (by simp)).trans (heap_alloc_new X _)
theorem keep3 {W w1 : World} {B H : Nat} {x y z : Value} (h : (w1.cell? ⟨H, 0, none⟩ = some x ∧ w1.cell? ⟨H, 1, none⟩ = some y ∧ w1.cell? ⟨H, 2, none⟩ = some z) ∧ Hid (Below B W w1)) {G : Nat} (hG : H ≠ G ∧ B ≤ G) (a b c : Value) :
    ((((w1.setCell ⟨G, 0, none⟩ a).setCell ⟨G, 1, none⟩ b).setCell ⟨G, 2, none⟩ c).cell? ⟨H, 0, none⟩ = some x ∧ (((w1.setCell ⟨G, 0, none⟩ a).setCell ⟨G, 1, none⟩ b).setCell ⟨G, 2, none⟩ c).cell? ⟨H, 1, none⟩ = some y ∧ (((w1.setCell ⟨G, 0, none⟩ a).setCell ⟨G, 1, none⟩ b).setCell ⟨G, 2, none⟩ c).cell? ⟨H, 2, none⟩ = some z) ∧ Hid (Below B W (((w1.setCell ⟨G, 0, none⟩ a).setCell ⟨G, 1, none⟩ b).setCell ⟨G, 2, none⟩ c)) :=
  have e := set3_other w1 G H a b c hG.1
  ⟨⟨(World.cell?_of_block e).trans h.1.1, (World.cell?_of_block e).trans h.1.2.1, (World.cell?_of_block e).trans h.1.2.2⟩, set3_below h.2.out hG.2 _ _ _⟩
theorem below_bt {a b c : World} (h : Below a.heap.size a b) (k : Below b.heap.size b c) : Below a.heap.size a c := h.trans (k.mono h.size)
theorem apart_after {w : World} {base gd : Nat} {v : Value} {ws : Puts} {gs : List Nat} (h : PutsOwn w base v ws gs) (hg : gd < base) : ∀ i, i < ws.length → gs.getD i 0 ≠ gd := fun i hi e => by
  have := (h.rows i hi).1
  omega
theorem apart_before {w : World} {base gd : Nat} {v : Value} {ws : Puts} {gs : List Nat} (h : PutsOwn w base v ws gs) (hg : w.heap.size ≤ gd) : ∀ i, i < ws.length → gs.getD i 0 ≠ gd := fun i hi e => by
  have := lt_heap (h.rows i hi).2
  omega
theorem own_alloc {Y : World} {base gd : Nat} {count : Int} {data : List Nat} {q : Option Addr} {m : Nat} {ws : Puts} {gs : List Nat} (hg : Y.heap[gd]? = some (.cells (Bs data).toArray 5 (0, 0))) (hgb : base ≤ gd) (hp : PutsOwn Y base (.slice q ws.length m) ws gs) (ha : ∀ i, i < ws.length → gs.getD i 0 ≠ gd) (hby : ∀ c ∈ data, c < 256) (hbase : base ≤ Y.heap.size) :
    DiskOwn (Y.alloc (.cells #[.int .i64 count, .slice (some ⟨gd, 0, none⟩) data.length data.length, .slice q ws.length m] 25)) base Y.heap.size gd count data q m ws gs :=
  ⟨heap_alloc_new Y _, hbase, hgb, ((below_alloc Y _).block _ (lt_heap hg)).trans hg, hp.below (below_alloc Y _), ha, hby⟩
theorem own_set3 {Y : World} {base B0 gd : Nat} {x y z : Value} {count : Int} {data : List Nat} {q : Option Addr} {m : Nat} {ws : Puts} {gs : List Nat} (hB : Y.heap[B0]? = some (.cells #[x, y, z] 25 (0, 0))) (hBb : base ≤ B0) (hg : Y.heap[gd]? = some (.cells (Bs data).toArray 5 (0, 0))) (hgb : base ≤ gd) (hp : PutsOwn Y base (.slice q ws.length m) ws gs) (ha : ∀ i, i < ws.length → gs.getD i 0 ≠ gd) (hby : ∀ c ∈ data, c < 256) :
    DiskOwn (((Y.setCell ⟨B0, 0, none⟩ (.int .i64 count)).setCell ⟨B0, 1, none⟩ (.slice (some ⟨gd, 0, none⟩) data.length data.length)).setCell ⟨B0, 2, none⟩ (.slice q ws.length m)) base B0 gd count data q m ws gs := by
  have hne : ∀ (k : Nat) (cs : Array Value) (t : TypeId), t ≠ 25 → Y.heap[k]? = some (.cells cs t (0, 0)) → k ≠ B0 := by
    rintro k cs t ht hk rfl
    rw [hB] at hk
    simp only [Option.some.injEq, Obj.cells.injEq] at hk
    exact ht hk.2.1.symm
  exact ⟨set3_same Y B0 _ _ _ _ _ _ _ hB, hBb, hgb, (set3_other Y B0 gd _ _ _ (hne _ _ _ (by decide) hg)).trans hg, hp.keep (fun k cur _ hk => set3_other Y B0 k _ _ _ (hne _ _ _ (by decide) hk)) (fun i hi => set3_other Y B0 _ _ _ _ (hne _ _ _ (by decide) (hp.rows i hi).2)), ha, hby⟩
theorem DiskOwn.toNew {w : World} {base B0 gd : Nat} {count : Int} {data : List Nat} {q : Option Addr} {m : Nat} {ws : Puts} {gs : List Nat} (h : DiskOwn w base B0 gd count data q m ws gs) : DiskNew w base (.agg #[.int .i64 count, .slice (some ⟨gd, 0, none⟩) data.length data.length, .slice q ws.length m]) count data ws :=
  ⟨⟨gd, q, m, gs, rfl, h.hgd, h.drow, h.puts, h.apart⟩, h.bytes⟩
theorem ActsIn.addr {w : World} {q : Option Addr} {l : Acts} (h : ActsIn w q l) (hw : 0 < l.length) : ∃ b o, q = some ⟨b, o, none⟩ := by
  obtain ⟨b, o, e, _⟩ := h hw
  exact ⟨b, o, e⟩
theorem ActsIn.at {w : World} {b o : Nat} {l : Acts} (h : ActsIn w (some ⟨b, o, none⟩) l) {k : Nat} (hk : k < l.length) :
    w.cell? ⟨b, o + k * 3, none⟩ = some (.bool (l.getD k (false, 0, [])).1) ∧ w.cell? ⟨b, o + k * 3 + 1, none⟩ = some (.int .i64 (l.getD k (false, 0, [])).2.1) ∧ ∃ p c, w.cell? ⟨b, o + k * 3 + 2, none⟩ = some (.slice p (l.getD k (false, 0, [])).2.2.length c) ∧ BIn w p (l.getD k (false, 0, [])).2.2 := by
  obtain ⟨b', o', e, hc⟩ := h (by omega)
  simp only [Option.some.injEq, Addr.mk.injEq, and_true] at e
  obtain ⟨rfl, rfl⟩ := e
  obtain ⟨h1, h2, v, h3, hr⟩ := hc k hk
  obtain ⟨p, c, rfl, g, _⟩ := hr.lies
  exact ⟨h1, by rw [Nat.add_assoc]; exact h2, p, c, by rw [Nat.add_assoc]; exact h3, g⟩
/-- What Do answers: an error and no disk; or the disk then, in memory of its own. -/
inductive DoPost (base : Nat) (count : Int) : Except Int (List Nat × Puts) → Ending → World → Prop
  | err (c : Int) (w' : World) : DoPost base count (.error c) (.returned (.tuple #[zeroDisk, .int .i64 c])) w'
  | ok (data : List Nat) (ws : Puts) (v : Value) (w' : World) : DiskNew w' base v count data ws → DoPost base count (.ok (data, ws)) (.returned (.tuple #[v, .int .i64 0])) w'
set_option maxHeartbeats 2000000 in
theorem do_ok (v : Value) (count : Int) (data : List Nat) (ws : Puts) (w : World) (hd : DiskIn w v count data ws) (ho : Okay count data ws) (ql : Option Addr) (ml : Nat) (l : Acts) (hl : ActsIn w ql l) (hll : l.length ≤ 9223372036854775807) :
    Calls Tryz.prog 11 #[v, .slice ql l.length ml] w fun e w' => DoPost w.heap.size count (doN count (data, ws) l) e w' ∧ Below w.heap.size w w' := by
  obtain ⟨p, c, q, m, rfl, hb, _⟩ := hd.parts
  have HBY : Hid (∀ c ∈ data, c < 256) := hb.2
  clear hb
  have HD : Hid _ := hd
  have HO : Hid _ := ho
  clear hd ho
  go_enter Tryz.func11, Tryz.ntmps11
  go_wp2_with fail
  refine (check_ok _ count data ws _ (HD.out.below ((below_alloc w _).alloc (by simp) _)) HO.out).mono ?_
  rintro e w1 ⟨rfl, hb1⟩
  replace hb1 : Below (w.heap.size + 2) ((w.alloc (.cells #[.int .i64 count, .slice p data.length c, .slice q ws.length m] 25)).alloc (.cells #[.int .i64 0, .slice none 0 0, .slice none 0 0] 25)) w1 := by simpa using hb1
  have hz1 := box2_size hb1
  obtain ⟨hB, hR⟩ := box2_cells hb1
  obtain ⟨c0, c1, c2⟩ := cells3 hB
  have HR : Hid _ := hR
  have HB : Hid _ := hB
  clear hB hR
  go_wp2
  obtain ⟨W, hW⟩ : ∃ W, W = (w.alloc (.cells #[.int .i64 count, .slice p data.length c, .slice q ws.length m] 25)).alloc (.cells #[.int .i64 0, .slice none 0 0, .slice none 0 0] 25) := ⟨_, rfl⟩
  have HDx : Hid (∀ w', Below (w.heap.size + 2) W w' → DiskIn w' (.agg #[.int .i64 count, .slice p data.length c, .slice q ws.length m]) count data ws) := by
    intro w' h
    rw [hW] at h
    exact HD.out.below (box2_below h)
  rw [← hW] at hb1
  have HS1 : (w1.drew.cell? ⟨w.heap.size, 0, none⟩ = some (.int .i64 count) ∧ w1.drew.cell? ⟨w.heap.size, 1, none⟩ = some (.slice p data.length c) ∧ w1.drew.cell? ⟨w.heap.size, 2, none⟩ = some (.slice q ws.length m)) ∧ Hid (Below (w.heap.size + 2) W w1.drew) := ⟨⟨c0, c1, c2⟩, hb1.drew⟩
  have HWz : Hid (w.heap.size + 2 ≤ W.heap.size) := by show _ ≤ _; rw [hW]; simp
  go_cut [7] from 11 (fun s7 w5 => ∃ B0 gd q' m' gs, s7 = .pointer (some ⟨B0, 0, none⟩) ∧ DiskOwn w5 (w.heap.size + 2) B0 gd count data q' m' ws gs ∧ Below (w.heap.size + 2) W w5)
  case first =>
    refine wp_region_noPanic ?_
    refine wp_region_held_drew (S := fun w' => (w'.cell? ⟨w.heap.size, 0, none⟩ = some (.int .i64 count) ∧ w'.cell? ⟨w.heap.size, 1, none⟩ = some (.slice p data.length c) ∧ w'.cell? ⟨w.heap.size, 2, none⟩ = some (.slice q ws.length m)) ∧ Hid (Below (w.heap.size + 2) W w')) (by kernel_rfl) HS1 (fun hS0 => ?_)
    have sz0 := Nat.le_trans HWz.out hS0.2.out.size
    clear HS1 c0 c1 c2 hb1
    refine takeH 0 17 (v := ?_) rfl rfl (by kernel_rfl) (by kernel_rfl) (by kernel_rfl) (fun _ _ _ h => h) (by rfl) ?_ (by assumption) ?_
    rotate_left
    · intro w hSw; go_simp; first | done | with_reducible rfl
    simp only [Act.put, List.setIfInBounds_toArray, List.set_cons_zero, List.set_cons_succ]
    refine takeH 1 18 (v := ?_) rfl rfl (by kernel_rfl) (by kernel_rfl) (by kernel_rfl) (fun _ _ _ h => h) (by rfl) ?_ (by assumption) ?_
    rotate_left
    · intro w hSw; go_simp; first | done | with_reducible rfl
    simp only [Act.put, List.setIfInBounds_toArray, List.set_cons_zero, List.set_cons_succ]
    refine takeH 2 19 (v := ?_) rfl rfl (by kernel_rfl) (by kernel_rfl) (by kernel_rfl) (fun _ _ _ h => h) (by rfl) ?_ (by assumption) ?_
    rotate_left
    · intro w hSw; go_simp; first | done | with_reducible rfl
    simp only [Act.put, List.setIfInBounds_toArray, List.set_cons_zero, List.set_cons_succ]
    refine takeH 4 21 (v := ?_) rfl rfl (by kernel_rfl) (by kernel_rfl) (by kernel_rfl) (fun _ _ _ h => h) (by rfl) ?_ (by assumption) ?_
    rotate_left
    · intro w hSw; go_simp; first | done | with_reducible rfl
    simp only [Act.put, List.setIfInBounds_toArray, List.set_cons_zero, List.set_cons_succ]
    refine wpAnyH_ready (rs := [3, 7]) (by kernel_rfl) (by simp) ?_
    refine AllReadyH.cons rfl (fun K hK => ?_) (AllReadyH.cons rfl (fun K hK => ?_) AllReadyH.nil)
    · go_simp
      refine (sectors_any _ count data ws _ (HDx.out _ hS0.2.out) HO.out).mono ?_
      rintro e ws1 ⟨gd, rfl, hg1, hg2, hb1⟩
      go_simp
      refine hK.out _ _ (keepS HWz.out hS0 hb1) (fun hS1 => ?_)
      clear hK K
      have sz1 := Nat.le_trans HWz.out hS1.2.out.size
      refine wpAnyH_ready (rs := [5, 7]) (by kernel_rfl) (by simp) ?_
      refine AllReadyH.cons rfl (fun K hK => ?_) (AllReadyH.cons rfl (fun K hK => ?_) AllReadyH.nil)
      · go_simp
        refine (waits_any _ count data ws _ (HDx.out _ hS1.2.out) HO.out).mono ?_
        rintro e ww2 ⟨q', m', gs, rfl, hp, hb2⟩
        go_simp
        refine hK.out _ _ (keepS HWz.out hS1 hb2) (fun hS2 => ?_)
        clear hK K
        have sz2 := Nat.le_trans HWz.out hS2.2.out.size
        refine takeH 6 23 (v := ?_) rfl rfl (by kernel_rfl) (by kernel_rfl) (by kernel_rfl) (fun _ _ _ h => h) (by rfl) ?_ (by assumption) ?_
        rotate_left
        · intro w hSw; go_simp; first | done | with_reducible rfl
        simp only [Act.put, List.setIfInBounds_toArray, List.set_cons_zero, List.set_cons_succ]
        refine wpAnyH_ready (rs := [7]) (by kernel_rfl) (by simp) ?_
        refine AllReadyH.cons rfl (fun K hK => ?_) AllReadyH.nil
        · have hb3 := below_alloc ww2 (.cells #[.int .i64 0, .slice none 0 0, .slice none 0 0] 25)
          go_simp
          refine hK.out _ _ (keepS HWz.out hS2 hb3) (fun hS3 => ?_)
          clear hK K
          have sz3 := Nat.le_trans HWz.out hS3.2.out.size
          refine wpAnyH_ready (rs := [8]) (by kernel_rfl) (by simp) ?_
          refine AllReadyH.cons rfl (fun K hK => ?_) AllReadyH.nil
          go_simp
          refine hK.out _ _ (keepA HWz.out hS2 _) (fun hSz => ?_)
          clear hK K
          refine wpAnyH_done (by kernel_rfl) (NoPanic.normal ?_) _
          go_wp2
          go_meet
          case rel =>
            have gY := ((hb2).block _ (lt_heap hg2)).trans hg2
            have pY := hp
            have aY := apart_after hp (lt_heap hg2)
            exact ⟨_, gd, q', m', gs, rfl, own_alloc gY (Nat.le_trans sz0 hg1) (pY.mono sz1) aY HBY.out sz2, hSz.2.out⟩
      · have hb2 := below_alloc ws1 (.cells #[.int .i64 0, .slice none 0 0, .slice none 0 0] 25)
        go_simp
        refine hK.out _ _ (keepS HWz.out hS1 hb2) (fun hS2 => ?_)
        clear hK K
        have sz2 := Nat.le_trans HWz.out hS2.2.out.size
        refine wpAnyH_ready (rs := [5]) (by kernel_rfl) (by simp) ?_
        refine AllReadyH.cons rfl (fun K hK => ?_) AllReadyH.nil
        · go_simp
          refine (waits_any _ count data ws _ (HDx.out _ hS2.2.out) HO.out).mono ?_
          rintro e ww3 ⟨q', m', gs, rfl, hp, hb3⟩
          go_simp
          refine hK.out _ _ (keepS HWz.out hS2 hb3) (fun hS3 => ?_)
          clear hK K
          have sz3 := Nat.le_trans HWz.out hS3.2.out.size
          refine takeH 6 23 (v := ?_) rfl rfl (by kernel_rfl) (by kernel_rfl) (by kernel_rfl) (fun _ _ _ h => h) (by rfl) ?_ (by assumption) ?_
          rotate_left
          · intro w hSw; go_simp; first | done | with_reducible rfl
          simp only [Act.put, List.setIfInBounds_toArray, List.set_cons_zero, List.set_cons_succ]
          refine wpAnyH_ready (rs := [8]) (by kernel_rfl) (by simp) ?_
          refine AllReadyH.cons rfl (fun K hK => ?_) AllReadyH.nil
          have hZ := ((hb3).block _ (by first | (rw [World.size_alloc]; omega) | (show _ < (w1.alloc _).heap.size; rw [World.size_alloc]; exact Nat.lt_succ_self _))).trans (heap_alloc_new _ _)
          obtain ⟨z0, z1, z2⟩ := cells3 hZ
          obtain ⟨y0, y1, y2⟩ := free3 hZ
          have HZ : Hid _ := hZ
          clear hZ
          go_simp
          refine hK.out _ _ (keep3 hS3 ⟨by have := sz1; omega, by exact sz1⟩ _ _ _) (fun hSz => ?_)
          clear hK K
          refine wpAnyH_done (by kernel_rfl) (NoPanic.normal ?_) _
          go_wp2
          go_meet
          case rel =>
            have gY := (((below_bt hb2 hb3)).block _ (lt_heap hg2)).trans hg2
            have pY := hp
            have aY := apart_after hp (Nat.lt_of_lt_of_le (lt_heap hg2) (hb2).size)
            exact ⟨_, gd, q', m', gs, rfl, own_set3 HZ.out sz1 gY (Nat.le_trans sz0 hg1) (pY.mono sz2) aY HBY.out, hSz.2.out⟩
    · have hb1 := below_alloc w1.drew (.cells #[.int .i64 0, .slice none 0 0, .slice none 0 0] 25)
      go_simp
      refine hK.out _ _ (keepS HWz.out hS0 hb1) (fun hS1 => ?_)
      clear hK K
      have sz1 := Nat.le_trans HWz.out hS1.2.out.size
      refine wpAnyH_ready (rs := [3]) (by kernel_rfl) (by simp) ?_
      refine AllReadyH.cons rfl (fun K hK => ?_) AllReadyH.nil
      · go_simp
        refine (sectors_any _ count data ws _ (HDx.out _ hS1.2.out) HO.out).mono ?_
        rintro e ws2 ⟨gd, rfl, hg1, hg2, hb2⟩
        go_simp
        refine hK.out _ _ (keepS HWz.out hS1 hb2) (fun hS2 => ?_)
        clear hK K
        have sz2 := Nat.le_trans HWz.out hS2.2.out.size
        refine wpAnyH_ready (rs := [5]) (by kernel_rfl) (by simp) ?_
        refine AllReadyH.cons rfl (fun K hK => ?_) AllReadyH.nil
        · go_simp
          refine (waits_any _ count data ws _ (HDx.out _ hS2.2.out) HO.out).mono ?_
          rintro e ww3 ⟨q', m', gs, rfl, hp, hb3⟩
          go_simp
          refine hK.out _ _ (keepS HWz.out hS2 hb3) (fun hS3 => ?_)
          clear hK K
          have sz3 := Nat.le_trans HWz.out hS3.2.out.size
          refine takeH 6 23 (v := ?_) rfl rfl (by kernel_rfl) (by kernel_rfl) (by kernel_rfl) (fun _ _ _ h => h) (by rfl) ?_ (by assumption) ?_
          rotate_left
          · intro w hSw; go_simp; first | done | with_reducible rfl
          simp only [Act.put, List.setIfInBounds_toArray, List.set_cons_zero, List.set_cons_succ]
          refine wpAnyH_ready (rs := [8]) (by kernel_rfl) (by simp) ?_
          refine AllReadyH.cons rfl (fun K hK => ?_) AllReadyH.nil
          have hZ := (((below_bt hb2 hb3)).block _ (by first | (rw [World.size_alloc]; omega) | (show _ < (w1.alloc _).heap.size; rw [World.size_alloc]; exact Nat.lt_succ_self _))).trans (heap_alloc_new _ _)
          obtain ⟨z0, z1, z2⟩ := cells3 hZ
          obtain ⟨y0, y1, y2⟩ := free3 hZ
          have HZ : Hid _ := hZ
          clear hZ
          go_simp
          refine hK.out _ _ (keep3 hS3 ⟨by have := sz0; omega, by exact sz0⟩ _ _ _) (fun hSz => ?_)
          clear hK K
          refine wpAnyH_done (by kernel_rfl) (NoPanic.normal ?_) _
          go_wp2
          go_meet
          case rel =>
            have gY := ((hb3).block _ (lt_heap hg2)).trans hg2
            have pY := hp
            have aY := apart_after hp (lt_heap hg2)
            exact ⟨_, gd, q', m', gs, rfl, own_set3 HZ.out sz0 gY (Nat.le_trans sz1 hg1) (pY.mono sz2) aY HBY.out, hSz.2.out⟩
  case rest =>
    obtain ⟨B0, gd, q', m', gs, rfl, hown, hbc⟩ := hcut
    have HX : Hid (∀ w', Below (w.heap.size + 2) W w' → w'.heap[w.heap.size + 1]? = some (.cells #[.int .i64 0, .slice none 0 0, .slice none 0 0] 25 (0, 0)) ∧ Below w.heap.size w w' ∧ w.heap.size + 2 ≤ w'.heap.size) := by
      intro w' h
      rw [hW] at h
      exact ⟨(box2_cells h).2, box2_below h, box2_size h⟩
    have HO0 : Hid (DiskOwn wc (w.heap.size + 2) B0 gd count data q' m' ws gs) := hown
    clear hown hW HD HDx HS1 HR HB c0 c1 c2 hb1 hz1
    go_wp2
    go_loopw [26] (fun i wr => ∃ k : Nat, ∃ dk wk qk mk gk, k ≤ l.length ∧ i = .int .i64 k ∧ Hid (doN count (data, ws) (l.take k) = .ok (dk, wk)) ∧ DiskOwn wr (w.heap.size + 2) B0 gd count dk qk mk wk gk ∧ Below (w.heap.size + 2) W wr) (fun i _ => l.length - (intOf i).toNat)
    case atStart => exact ⟨0, data, ws, q', m', gs, by omega, rfl, rfl, HO0.out, hbc⟩
    case round =>
      obtain ⟨k, dk, wk, qk, mk, gk, hk, rfl, HN, hok, hbk⟩ := hrel
      obtain ⟨hres, hbw, hsz⟩ := HX.out _ hbk
      by_cases hkl : k < l.length
      · obtain ⟨b, o, rfl⟩ := hl.addr (by omega)
        obtain ⟨e0, e1, pk, ck, e2, hbi⟩ := (hl.below hbw).at hkl
        have HST : Hid (doN count (data, ws) (l.take (k + 1)) = stepA count (dk, wk) (l.getD k (false, 0, []))) := doN_step hkl HN.out
        have hoky : Okay count dk wk := okay_do _ (s := (data, ws)) (s' := (dk, wk)) HO.out HN.out
        generalize l.getD k (false, 0, []) = y at *
        obtain ⟨fl, s, xs⟩ := y
        simp only at e0 e1 e2 hbi
        have HBI : Hid (BIn wr pk xs) := hbi
        have HOK : Hid (DiskOwn wr (w.heap.size + 2) B0 gd count dk qk mk wk gk) := hok
        have HOY : Hid (Okay count dk wk) := hoky
        have HRES : Hid _ := hres
        clear hbi hok hoky hres HN HO0 hl
        cases fl with
        | true =>
          have HE : Hid (stepA count (dk, wk) (true, s, xs) = .ok (settleN dk wk, [])) := rfl
          go_wp2_with fail
          refine (settle_any (w.heap.size + 2) B0 gd count dk qk mk wk gk _ (HOK.out.below (below_alloc wr _)) HOY.out (by simp; omega)).mono ?_
          rintro e w2 ⟨rfl, hd2, hb2⟩
          have hb3 := (hbk.alloc (by omega) _).trans hb2
          clear hb2
          go_wp2
          go_roundw
          case rel => exact ⟨k + 1, _, _, _, _, _, by omega, by go_num, HST.out.trans HE.out, hd2, hb3⟩
          case measure => simp [intOf]; omega
        | false =>
          by_cases g1 : 0 ≤ s ∧ s < count
          · by_cases g2 : xs.length = 128
            · by_cases g3 : wk.length < 4096
              · have HE : Hid (stepA count (dk, wk) (false, s, xs) = .ok (dk, wk ++ [(s, xs)])) := by
                  show stepA _ _ _ = _
                  simp [stepA, g1, g2, show ¬ 4096 ≤ wk.length from by omega]
                have G2 : Hid (xs.length = 128) := g2
                rw [g2] at e2
                clear g2
                go_wp2_with fail
                refine (wait_ok (w.heap.size + 2) B0 gd count dk qk mk wk gk s pk ck xs _ (HOK.out.below (below_alloc wr _)) g1 G2.out g3 (HBI.out.alloc _) (by simp; omega)).mono ?_
                rintro e w2 ⟨rfl, ⟨q2, m2, g2, hd2⟩, hb2⟩
                have hb3 := (hbk.alloc (by omega) _).trans hb2
                clear hb2
                go_wp2
                go_roundw
                case rel => exact ⟨k + 1, _, _, _, _, _, by omega, by go_num, HST.out.trans HE.out, hd2, hb3⟩
                case measure => simp [intOf]; omega
              · have HE : Hid (stepA count (dk, wk) (false, s, xs) = .error 4) := by
                  show stepA _ _ _ = _
                  simp [stepA, g1, g2, show 4096 ≤ wk.length from by omega]
                rw [g2] at e2
                clear g2
                have HF : Hid (doN count (data, ws) l = .error 4) := doN_fail (HST.out.trans HE.out)
                go_wp2_with fail
                refine (wait_many (w.heap.size + 2) B0 gd count dk qk mk wk gk s pk ck _ (HOK.out.below (below_alloc wr _)) g1 (by omega)).mono ?_
                rintro e w2 ⟨rfl, hb2⟩
                have hb3 := (hbk.alloc (by omega) _).trans (hb2.mono (by simp; omega))
                obtain ⟨hres2, hbw2, hsz2⟩ := HX.out _ hb3
                obtain ⟨r0, r1, r2⟩ := cells3 hres2
                obtain ⟨f0, f1, f2⟩ := free3 hres2
                clear hb2 hb3 hres2 HRES
                go_wp2
                (try simp only [Exit.inBlock, Exit.then])
                refine bodyPost_ret (v := .tuple #[zeroDisk, .int .i64 4]) ?_ rfl ⟨?_, ?_⟩
                · rw [results_cell_tmp rfl]
                  go_simp
                · rw [HF.out]
                  exact .err _ _
                · exact set3_below hbw2 (by omega) _ _ _
            · have HE : Hid (stepA count (dk, wk) (false, s, xs) = .error 8) := by
                show stepA _ _ _ = _
                simp [stepA, g1, g2]
              have HF : Hid (doN count (data, ws) l = .error 8) := doN_fail (HST.out.trans HE.out)
              go_wp2_with fail
              refine (wait_bad (w.heap.size + 2) B0 gd count dk qk mk wk gk s pk ck xs _ (HOK.out.below (below_alloc wr _)) g1 g2).mono ?_
              rintro e w2 ⟨rfl, hb2⟩
              have hb3 := (hbk.alloc (by omega) _).trans (hb2.mono (by simp; omega))
              obtain ⟨hres2, hbw2, hsz2⟩ := HX.out _ hb3
              obtain ⟨r0, r1, r2⟩ := cells3 hres2
              obtain ⟨f0, f1, f2⟩ := free3 hres2
              clear hb2 hb3 hres2 HRES
              go_wp2
              (try simp only [Exit.inBlock, Exit.then])
              refine bodyPost_ret (v := .tuple #[zeroDisk, .int .i64 8]) ?_ rfl ⟨?_, ?_⟩
              · rw [results_cell_tmp rfl]
                go_simp
              · rw [HF.out]
                exact .err _ _
              · exact set3_below hbw2 (by omega) _ _ _
          · have HE : Hid (stepA count (dk, wk) (false, s, xs) = .error 21) := by
              show stepA _ _ _ = _
              simp [stepA, g1]
            have HF : Hid (doN count (data, ws) l = .error 21) := doN_fail (HST.out.trans HE.out)
            go_wp2_with fail
            refine (wait_range (w.heap.size + 2) B0 gd count dk qk mk wk gk s (.slice pk xs.length ck) _ (HOK.out.below (below_alloc wr _)) g1).mono ?_
            rintro e w2 ⟨rfl, hb2⟩
            have hb3 := (hbk.alloc (by omega) _).trans (hb2.mono (by simp; omega))
            obtain ⟨hres2, hbw2, hsz2⟩ := HX.out _ hb3
            obtain ⟨r0, r1, r2⟩ := cells3 hres2
            obtain ⟨f0, f1, f2⟩ := free3 hres2
            clear hb2 hb3 hres2 HRES
            go_wp2
            (try simp only [Exit.inBlock, Exit.then])
            refine bodyPost_ret (v := .tuple #[zeroDisk, .int .i64 21]) ?_ rfl ⟨?_, ?_⟩
            · rw [results_cell_tmp rfl]
              go_simp
            · rw [HF.out]
              exact .err _ _
            · exact set3_below hbw2 (by omega) _ _ _
      · obtain rfl : k = l.length := by omega
        obtain ⟨c0, c1, c2⟩ := hok.cells
        obtain ⟨r0, r1, r2⟩ := cells3 hres
        obtain ⟨f0, f1, f2⟩ := free3 hres
        have HN' : Hid (doN count (data, ws) l = .ok (dk, wk)) := by have := HN.out; rwa [List.take_length] at this
        have HF : Hid (DiskNew wr w.heap.size (.agg #[.int .i64 count, .slice (some ⟨gd, 0, none⟩) dk.length dk.length, .slice qk wk.length mk]) count dk wk) := hok.toNew.mono (by omega)
        have HR : Hid _ := hres
        clear hok hres HN HO0 hl
        go_wp2
        (try simp only [Exit.inBlock, Exit.then])
        refine bodyPost_ret (v := .tuple #[.agg #[.int .i64 count, .slice (some ⟨gd, 0, none⟩) dk.length dk.length, .slice qk wk.length mk], .int .i64 0]) ?_ rfl ⟨?_, ?_⟩
        · rw [results_cell_tmp rfl]
          go_simp
        · rw [HN'.out]
          exact .ok _ _ _ _ (HF.out.set3 HR.out _ _ _)
        · exact set3_below hbw (by omega) _ _ _
end Go.Proofs.YtkgmhmhphgaclabGreatDoor
namespace Go.Proofs.YtkgmhmhphgaclabGreatDoor
set_option maxRecDepth 8000
open Go.RowKit Go.WideShapes

theorem doN_one (count : Int) (s : List Nat × Puts) (a : Bool × Int × List Nat) : doN count s [a] = stepA count s a := by
  simp only [doN]
  cases stepA count s a <;> rfl
/-- One act in a block of its own. -/
theorem acts_one {X : World} {H : Nat} (hH : H = X.heap.size) {f : Bool} {s : Int} {p : Option Addr} {c : Nat} {xs : List Nat} {t : TypeId} (hb : BIn X p xs) (h1 : xs.length ≤ c) (h2 : c ≤ maxLen) (h3 : p = none → c = 0) :
    ActsIn (X.alloc (.cells #[.bool f, .int .i64 s, .slice p xs.length c] t)) (some ⟨H, 0, none⟩) [(f, s, xs)] := by
  subst hH
  intro _
  have hh := heap_alloc_new X (.cells #[.bool f, .int .i64 s, .slice p xs.length c] t)
  refine ⟨X.heap.size, 0, rfl, fun i hi => ?_⟩
  obtain rfl : i = 0 := by simpa using hi
  refine ⟨cell_of_row _ _ _ _ _ _ hh, cell_of_row _ _ _ _ _ _ hh, _, cell_of_row _ _ _ _ _ _ hh, ⟨p, c, rfl, hb.alloc _, h1, h2, h3⟩⟩

end Go.Proofs.YtkgmhmhphgaclabGreatDoor
namespace Go.Proofs.YtkgmhmhphgaclabGreatDoor
set_option maxRecDepth 8000
open Go.RowKit Go.WideShapes
attribute [local go_sem ↓] Go.wp_at_zero Go.wp_at_succ

set_option maxHeartbeats 1000000 in
theorem crash_bad (v l : Value) (count : Int) (data : List Nat) (ws : Puts) (w : World) (hd : DiskIn w v count data ws) (ho : ¬ Okay count data ws) :
    Calls Tryz.prog 12 #[v, l] w fun e w' => e = .returned (.tuple #[zeroDisk, .int .i64 20]) ∧ Below w.heap.size w w' := by
  obtain ⟨p, c, q, m, rfl, _⟩ := hd.parts
  have HD : Hid _ := hd
  clear hd
  go_enter Tryz.func12, Tryz.ntmps12
  go_wp2_with fail
  refine (check_bad _ count data ws _ (HD.out.below ((below_alloc w _).alloc (by simp) _)) ho).mono ?_
  rintro e w1 ⟨rfl, hb1⟩
  replace hb1 : Below (w.heap.size + 2) ((w.alloc (.cells #[.int .i64 count, .slice p data.length c, .slice q ws.length m] 25)).alloc (.cells #[.int .i64 0, .slice none 0 0, .slice none 0 0] 25)) w1 := by simpa using hb1
  obtain ⟨hB, hR⟩ := box2_cells hb1
  obtain ⟨c0, c1, c2⟩ := cells3 hR
  obtain ⟨f0, f1, f2⟩ := free3 hR
  clear hB hR
  go_wp2
  (try simp only [Exit.inBlock, Exit.then])
  refine bodyPost_ret (v := .tuple #[zeroDisk, .int .i64 20]) ?_ rfl ⟨rfl, ?_⟩
  · rw [results_cell_tmp rfl]
    go_simp
  · exact set3_below (box2_below hb1) (by omega) _ _ _

theorem BoolsIn.addr {w : World} {q : Option Addr} {l : List Bool} (h : BoolsIn w q l) (hw : 0 < l.length) : ∃ b o, q = some ⟨b, o, none⟩ := by
  obtain ⟨b, o, e, _⟩ := h hw
  exact ⟨b, o, e⟩
theorem BoolsIn.at {w : World} {b o : Nat} {l : List Bool} (h : BoolsIn w (some ⟨b, o, none⟩) l) {k : Nat} (hk : k < l.length) : w.cell? ⟨b, o + k, none⟩ = some (.bool (l.getD k false)) := by
  obtain ⟨b', o', e, hc⟩ := h (by omega)
  simp only [Option.some.injEq, Addr.mk.injEq, and_true] at e
  obtain ⟨rfl, rfl⟩ := e
  exact hc k hk
theorem puts_bytes {w : World} {q : Option Addr} {ws : Puts} (h : PutsIn w q ws) : ∀ y ∈ ws, ∀ c ∈ y.2, c < 256 := by
  intro y hy
  obtain ⟨i, hi, rfl⟩ := List.getElem_of_mem hy
  obtain ⟨b, o, rfl⟩ := h.addr (by omega)
  obtain ⟨_, p, c, _, hb, _⟩ := h.at hi
  have := hb.2
  simpa [List.getD, List.getElem?_eq_getElem hi] using this
/-- The disk that is being made: its block, its sectors. -/
structure Half (w : World) (base B0 gd : Nat) (count : Int) (n : Nat) (data : List Nat) : Prop where
  box : w.heap[B0]? = some (.cells #[.int .i64 count, .slice (some ⟨gd, 0, none⟩) n n, .slice none 0 0] 25 (0, 0))
  hB : base ≤ B0
  hgd : base ≤ gd
  drow : w.heap[gd]? = some (.cells (Bs data).toArray 5 (0, 0))
theorem Half.ne {w : World} {base B0 gd : Nat} {count : Int} {n : Nat} {data : List Nat} (h : Half w base B0 gd count n data) : B0 ≠ gd := by
  intro e
  have h1 := h.box
  rw [e, h.drow] at h1
  simp at h1
theorem Half.below {w w' : World} {base B0 gd : Nat} {count : Int} {n : Nat} {data : List Nat} (h : Half w base B0 gd count n data) (hb : Below w.heap.size w w') : Half w' base B0 gd count n data :=
  ⟨(hb.block _ (lt_heap h.box)).trans h.box, h.hB, h.hgd, (hb.block _ (lt_heap h.drow)).trans h.drow⟩

set_option maxHeartbeats 2000000 in
theorem crash_ok (v : Value) (count : Int) (data : List Nat) (ws : Puts) (w : World) (hd : DiskIn w v count data ws) (ho : Okay count data ws) (ql : Option Addr) (ml : Nat) (keep : List Bool) (hl : BoolsIn w ql keep) (hll : keep.length ≤ 9223372036854775807) :
    Calls Tryz.prog 12 #[v, .slice ql keep.length ml] w fun e w' => (∃ v', e = .returned (.tuple #[v', .int .i64 0]) ∧ DiskNew w' w.heap.size v' count (crashN data ws keep) []) ∧ Below w.heap.size w w' := by
  obtain ⟨p, c, q, m, rfl, hb, _, _, _, hqp, hqm, hqmm, _⟩ := hd.parts
  have HBY : Hid (∀ c ∈ data, c < 256) := hb.2
  have HQ : Hid (PutsIn w q ws) := hqp
  have HPB : Hid (∀ y ∈ ws, ∀ c ∈ y.2, c < 256) := puts_bytes hqp
  have hfew := ho.few
  have hhi := ho.hi
  have hlen := ho.len
  have HLEN : Hid ((data.length : Int) = count * 128) := hlen
  clear hb hqp hlen
  have HD : Hid _ := hd
  have HO : Hid _ := ho
  clear hd ho
  go_enter Tryz.func12, Tryz.ntmps12
  go_wp2_with fail
  refine (check_ok _ count data ws _ (HD.out.below ((below_alloc w _).alloc (by simp) _)) HO.out).mono ?_
  rintro e w1 ⟨rfl, hb1⟩
  replace hb1 : Below (w.heap.size + 2) ((w.alloc (.cells #[.int .i64 count, .slice p data.length c, .slice q ws.length m] 25)).alloc (.cells #[.int .i64 0, .slice none 0 0, .slice none 0 0] 25)) w1 := by simpa using hb1
  have hz1 := box2_size hb1
  obtain ⟨hB, hR⟩ := box2_cells hb1
  obtain ⟨c0, c1, c2⟩ := cells3 hB
  clear hB hR
  go_wp2
  obtain ⟨W, hW⟩ : ∃ W, W = (w.alloc (.cells #[.int .i64 count, .slice p data.length c, .slice q ws.length m] 25)).alloc (.cells #[.int .i64 0, .slice none 0 0, .slice none 0 0] 25) := ⟨_, rfl⟩
  have HDx : Hid (∀ w', Below (w.heap.size + 2) W w' → DiskIn w' (.agg #[.int .i64 count, .slice p data.length c, .slice q ws.length m]) count data ws) := by
    intro w' h
    rw [hW] at h
    exact HD.out.below (box2_below h)
  rw [← hW] at hb1
  have HS1 : (w1.drew.cell? ⟨w.heap.size, 0, none⟩ = some (.int .i64 count) ∧ w1.drew.cell? ⟨w.heap.size, 1, none⟩ = some (.slice p data.length c) ∧ w1.drew.cell? ⟨w.heap.size, 2, none⟩ = some (.slice q ws.length m)) ∧ Hid (Below (w.heap.size + 2) W w1.drew) := ⟨⟨c0, c1, c2⟩, hb1.drew⟩
  have HWz : Hid (w.heap.size + 2 ≤ W.heap.size) := by show _ ≤ _; rw [hW]; simp
  go_cut [7] from 10 (fun s7 w5 => ∃ B0 gd, s7 = .pointer (some ⟨B0, 0, none⟩) ∧ Half w5 (w.heap.size + 2) B0 gd count data.length data ∧ Below (w.heap.size + 2) W w5)
  case first =>
    refine wp_region_noPanic ?_
    refine wp_region_held_drew (S := fun w' => (w'.cell? ⟨w.heap.size, 0, none⟩ = some (.int .i64 count) ∧ w'.cell? ⟨w.heap.size, 1, none⟩ = some (.slice p data.length c) ∧ w'.cell? ⟨w.heap.size, 2, none⟩ = some (.slice q ws.length m)) ∧ Hid (Below (w.heap.size + 2) W w')) (by kernel_rfl) HS1 (fun hS0 => ?_)
    have sz0 := Nat.le_trans HWz.out hS0.2.out.size
    clear HS1 c0 c1 c2 hb1
    refine takeH 0 16 (v := ?_) rfl rfl (by kernel_rfl) (by kernel_rfl) (by kernel_rfl) (fun _ _ _ h => h) (by rfl) ?_ (by assumption) ?_
    rotate_left
    · intro w hSw; go_simp; first | done | with_reducible rfl
    simp only [Act.put, List.setIfInBounds_toArray, List.set_cons_zero, List.set_cons_succ]
    refine takeH 1 17 (v := ?_) rfl rfl (by kernel_rfl) (by kernel_rfl) (by kernel_rfl) (fun _ _ _ h => h) (by rfl) ?_ (by assumption) ?_
    rotate_left
    · intro w hSw; go_simp; first | done | with_reducible rfl
    simp only [Act.put, List.setIfInBounds_toArray, List.set_cons_zero, List.set_cons_succ]
    refine takeH 2 18 (v := ?_) rfl rfl (by kernel_rfl) (by kernel_rfl) (by kernel_rfl) (fun _ _ _ h => h) (by rfl) ?_ (by assumption) ?_
    rotate_left
    · intro w hSw; go_simp; first | done | with_reducible rfl
    simp only [Act.put, List.setIfInBounds_toArray, List.set_cons_zero, List.set_cons_succ]
    refine wpAnyH_ready (rs := [3, 5]) (by kernel_rfl) (by simp) ?_
    refine AllReadyH.cons rfl (fun K hK => ?_) (AllReadyH.cons rfl (fun K hK => ?_) AllReadyH.nil)
    · go_simp
      refine (sectors_any _ count data ws _ (HDx.out _ hS0.2.out) HO.out).mono ?_
      rintro e ws1 ⟨gd, rfl, hg1, hg2, hb1⟩
      go_simp
      refine hK.out _ _ (keepS HWz.out hS0 hb1) (fun hS1 => ?_)
      clear hK K
      have sz1 := Nat.le_trans HWz.out hS1.2.out.size
      refine takeH 4 20 (v := ?_) rfl rfl (by kernel_rfl) (by kernel_rfl) (by kernel_rfl) (fun _ _ _ h => h) (by rfl) ?_ (by assumption) ?_
      rotate_left
      · intro w hSw; go_simp; first | done | with_reducible rfl
      simp only [Act.put, List.setIfInBounds_toArray, List.set_cons_zero, List.set_cons_succ]
      refine wpAnyH_ready (rs := [5]) (by kernel_rfl) (by simp) ?_
      refine AllReadyH.cons rfl (fun K hK => ?_) AllReadyH.nil
      go_simp
      refine hK.out _ _ (keepS HWz.out hS1 (below_alloc ws1 _)) (fun hS2 => ?_)
      clear hK K
      refine wpAnyH_ready (rs := [6]) (by kernel_rfl) (by simp) ?_
      refine AllReadyH.cons rfl (fun K hK => ?_) AllReadyH.nil
      go_simp
      refine hK.out _ _ (keepA HWz.out hS1 _) (fun hSz => ?_)
      clear hK K
      refine wpAnyH_done (by kernel_rfl) (NoPanic.normal ?_) _
      go_wp2
      go_meet
      case rel =>
        exact ⟨_, gd, rfl, ⟨heap_alloc_new _ _, sz1, Nat.le_trans sz0 hg1, ((below_alloc ws1 _).block _ (lt_heap hg2)).trans hg2⟩, hSz.2.out⟩
    · have hb1 := below_alloc w1.drew (.cells #[.int .i64 0, .slice none 0 0, .slice none 0 0] 25)
      go_simp
      refine hK.out _ _ (keepS HWz.out hS0 hb1) (fun hS1 => ?_)
      clear hK K
      refine wpAnyH_ready (rs := [3]) (by kernel_rfl) (by simp) ?_
      refine AllReadyH.cons rfl (fun K hK => ?_) AllReadyH.nil
      go_simp
      refine (sectors_any _ count data ws _ (HDx.out _ hS1.2.out) HO.out).mono ?_
      rintro e ws2 ⟨gd, rfl, hg1, hg2, hb2⟩
      go_simp
      refine hK.out _ _ (keepS HWz.out hS1 hb2) (fun hS2 => ?_)
      clear hK K
      have sz1 := Nat.le_trans HWz.out hS1.2.out.size
      refine takeH 4 20 (v := ?_) rfl rfl (by kernel_rfl) (by kernel_rfl) (by kernel_rfl) (fun _ _ _ h => h) (by rfl) ?_ (by assumption) ?_
      rotate_left
      · intro w hSw; go_simp; first | done | with_reducible rfl
      simp only [Act.put, List.setIfInBounds_toArray, List.set_cons_zero, List.set_cons_succ]
      refine wpAnyH_ready (rs := [6]) (by kernel_rfl) (by simp) ?_
      refine AllReadyH.cons rfl (fun K hK => ?_) AllReadyH.nil
      have hZ : ws2.heap[w1.heap.size]? = some (.cells #[.int .i64 0, .slice none 0 0, .slice none 0 0] 25 (0, 0)) := (hb2.block _ (by show _ < (w1.alloc _).heap.size; rw [World.size_alloc]; exact Nat.lt_succ_self _)).trans (heap_alloc_new w1 _)
      obtain ⟨z0, z1, z2⟩ := cells3 hZ
      obtain ⟨y0, y1, y2⟩ := free3 hZ
      have HZ : Hid _ := hZ
      clear hZ
      have sz0' : w.heap.size + 2 ≤ w1.heap.size := sz0
      go_simp
      refine hK.out _ _ (keep3 hS2 ⟨by omega, sz0'⟩ _ _ _) (fun hSz => ?_)
      clear hK K
      refine wpAnyH_done (by kernel_rfl) (NoPanic.normal ?_) _
      go_wp2
      go_meet
      case rel =>
        refine ⟨_, gd, rfl, ⟨set3_same _ _ _ _ _ _ _ _ _ HZ.out, sz0', Nat.le_trans sz1 hg1, (set3_other _ _ gd _ _ _ ?_).trans hg2⟩, hSz.2.out⟩
        rintro rfl
        have h2 := HZ.out
        rw [hg2] at h2
        simp at h2
  case rest =>
    obtain ⟨B0, gd, rfl, hhf, hbc⟩ := hcut
    have HX : Hid (∀ w', Below (w.heap.size + 2) W w' → w'.heap[w.heap.size]? = some (.cells #[.int .i64 count, .slice p data.length c, .slice q ws.length m] 25 (0, 0)) ∧ w'.heap[w.heap.size + 1]? = some (.cells #[.int .i64 0, .slice none 0 0, .slice none 0 0] 25 (0, 0)) ∧ Below w.heap.size w w' ∧ w.heap.size + 2 ≤ w'.heap.size) := by
      intro w' h
      rw [hW] at h
      exact ⟨(box2_cells h).1, (box2_cells h).2, box2_below h, box2_size h⟩
    have HO0 : Hid (Half wc (w.heap.size + 2) B0 gd count data.length data) := hhf
    obtain ⟨c0, c1, c2⟩ := cells3 (HX.out _ hbc).1
    clear hhf hW HD HDx HS1 hb1 hz1
    go_wp2
    go_loopw [24] (fun i wr => ∃ k : Nat, k ≤ ws.length ∧ i = .int .i64 k ∧ Half wr (w.heap.size + 2) B0 gd count data.length (crashK data ws keep k) ∧ Below (w.heap.size + 2) W wr) (fun i _ => ws.length - (intOf i).toNat)
    case atStart => exact ⟨0, by omega, rfl, HO0.out, hbc⟩
    case round =>
      obtain ⟨k, hk, rfl, hok, hbk⟩ := hrel
      obtain ⟨hbx, hres, hbw, hsz⟩ := HX.out _ hbk
      obtain ⟨b0, b1, b2⟩ := cells3 hok.box
      by_cases hkl : k < ws.length
      · have hq := HQ.out.below hbw
        obtain ⟨b, o, rfl⟩ := hq.addr (by omega)
        obtain ⟨e1, pk, ck, e2, hbi⟩ := hq.at2 hkl
        have hwt := HO.out.wait hkl
        have HSc : Hid (crashK data ws keep (k + 1) = if keep.getD k false = true then putS (crashK data ws keep k) (ws.getD k (0, [])) else crashK data ws keep k) := rfl
        have HL : Hid ((crashK data ws keep k).length = data.length) := crashK_len HO.out keep k hk
        have hkeep : k < keep.length → ∃ b' o', ql = some ⟨b', o', none⟩ ∧ wr.cell? ⟨b', o' + k, none⟩ = some (.bool (keep.getD k false)) := by
          intro h
          obtain ⟨b', o', rfl⟩ := hl.addr (by omega)
          exact ⟨b', o', rfl, (hl.below hbw).at h⟩
        have hkn : ¬ k < keep.length → keep.getD k false = false := by
          intro h
          simp [List.getD, List.getElem?_eq_none (show keep.length ≤ k by omega)]
        rw [hwt.2.2] at e2
        generalize ws.getD k (0, []) = y at *
        obtain ⟨s, xs⟩ := y
        simp only at e1 e2 hbi hwt
        obtain ⟨hw1, hw2, hw3⟩ := hwt
        obtain ⟨n, rfl⟩ := Int.eq_ofNat_of_zero_le hw1
        have HXL : Hid (xs.length = 128) := hw3
        have hnl : (n + 1) * 128 ≤ data.length := by have := HLEN.out; omega
        have HBI : Hid (BIn wr pk xs) := hbi
        have HOK : Hid (Half wr (w.heap.size + 2) B0 gd count data.length (crashK data ws keep k)) := hok
        clear hq hw3 hbi hok hbx hres HO0 hl
        by_cases hkk : k < keep.length
        · obtain ⟨b', o', rfl, ek⟩ := hkeep hkk
          have hbl : b' < wr.heap.size := World.block_lt_of_cell? _ _ ek
          clear hkeep hkn
          generalize keep.getD k false = kb at *
          cases kb with
          | true =>
            obtain ⟨bp, op, rfl⟩ := HBI.out.addr (by rw [HXL.out]; omega)
            have hlt := lt_heap HOK.out.drow
            have hn1 : some B0 ≠ some gd := fun e => HOK.out.ne (by simpa using e)
            have HWs : Hid (∀ j v, (Bs xs)[j]? = some v → (wr.alloc (.cells #[.int .i64 n, .slice (some ⟨bp, op, none⟩) 128 ck] 71)).drew.cell? ((⟨bp, op, none⟩ : Addr).add j) = some v) := bin_news (HBI.out.alloc _)
            have HC : Hid ((wr.alloc (.cells #[.int .i64 n, .slice (some ⟨bp, op, none⟩) 128 ck] 71)).cell? ⟨wr.heap.size, 0, none⟩ = some (.int .i64 n) ∧ (wr.alloc (.cells #[.int .i64 n, .slice (some ⟨bp, op, none⟩) 128 ck] 71)).cell? ⟨wr.heap.size, 1, none⟩ = some (.slice (some ⟨bp, op, none⟩) 128 ck)) := put_cells (Below.refl _ _)
            have HH : Hid (Half (wr.alloc (.cells #[.int .i64 n, .slice (some ⟨bp, op, none⟩) 128 ck] 71)) (w.heap.size + 2) B0 gd count data.length (crashK data ws keep k)) := HOK.out.below (below_alloc wr _)
            have r1' : Hid ((wr.alloc (.cells #[.int .i64 n, .slice (some ⟨bp, op, none⟩) 128 ck] 71)).cell? ⟨B0, 1, none⟩ = some (.slice (some ⟨gd, 0, none⟩) data.length data.length)) := (cells3 HH.out.box).2.1
            have hl2 : Hid ((Bs xs).length = Nat.min 128 128) := by show _ = _; rw [Bs_len, HXL.out]; rfl
            have hf : Hid (n * 128 + (Bs xs).length ≤ (Bs (crashK data ws keep k)).length) := by show _ ≤ _; rw [Bs_len, Bs_len, HXL.out, HL.out]; omega
            have hs2 : Hid (splice (Bs (crashK data ws keep k)) (n * 128) (Bs xs) = Bs (crashK data ws keep (k + 1))) := by show _ = _; rw [Bs_splice, HSc.out]; rfl
            have hn2 : Hid (some wr.heap.size ≠ some gd) := by show _ ≠ _; intro e; simp only [Option.some.injEq] at e; omega
            have hn1' : Hid (some B0 ≠ some gd) := hn1
            have hbk1 : Below (w.heap.size + 2) W (wr.alloc (.cells #[.int .i64 n, .slice (some ⟨bp, op, none⟩) 128 ck] 71)) := hbk.alloc (by omega) _
            clear hn1 HL HSc HBI HOK hbk hbw
            go_wp2
            clear e1 e2 b0 b1 b2 ek
            have hz2 : w.heap.size + 2 ≤ (wr.alloc (.cells #[.int .i64 n, .slice (some ⟨bp, op, none⟩) 128 ck] 71)).heap.size := by rw [World.size_alloc]; omega
            obtain ⟨w2, hw2⟩ : ∃ w2, w2 = wr.alloc (.cells #[.int .i64 n, .slice (some ⟨bp, op, none⟩) 128 ck] 71) := ⟨_, rfl⟩
            rw [← hw2] at HWs HC HH hbk1 r1' hz2 ⊢
            clear hw2
            have HC' := HC
            replace HC := HC.out
            have r1 := r1'.out
            go_region_held3 (fun w' => (w'.cell? ⟨wr.heap.size, 0, none⟩ = some (.int .i64 n) ∧ w'.cell? ⟨wr.heap.size, 1, none⟩ = some (.slice (some ⟨bp, op, none⟩) 128 ck)) ∧ w'.cell? ⟨B0, 1, none⟩ = some (.slice (some ⟨gd, 0, none⟩) data.length data.length)) (first | go_keep | exact ⟨c2_grown HC'.out (grown_trans (grown_drew _ _) hg2) hn2.out, (grown_trans (grown_drew _ _) hg2).cell r1'.out hn1'.out⟩)
              (first
                | (go_at_call 30; refine (sector_any gd 0 data.length data.length n _ (by omega) hnl (by omega)).mono ?_; rintro e w1 ⟨rfl, rfl⟩)
                | (refine step_copy_grown (by rfl) (.tmp 43) (.tmp 45) 22 22 (by rfl) 5 Tryz.underlying22 size_u8 gd (n * 128) ⟨bp, op, none⟩ 128 (data.length - n * 128) 128 ck (by simp [Act.eval]) (by simp [Act.eval]) (Bs (crashK data ws keep k)) 5 HH.out.drow (Bs xs) hl2.out HWs.out hf.out (Bs_oneCell _) ?_; intro w3 hrow2 hg2)
                | fail)
            have hg3 := grown_trans (grown_drew w2 _) hg2
            have hh3 : Half w3 (w.heap.size + 2) B0 gd count data.length (crashK data ws keep (k + 1)) := ⟨(hg3.block _ (lt_heap HH.out.box) hn1'.out).trans HH.out.box, HH.out.hB, HH.out.hgd, by rw [← hs2.out]; exact hrow2.out⟩
            have hb3 : Below (w.heap.size + 2) W w3 := hbk1.trans (below_of_grown hg3 hz2 HH.out.hgd)
            have HH3 : Hid _ := hh3
            clear hrow2 hg2 hg3 HH HWs hh3
            go_wp2
            go_roundw
            case rel => exact ⟨k + 1, by omega, by go_num, HH3.out, hb3⟩
            case measure => simp [intOf]; omega
          | false =>
            have HE : Hid (crashK data ws keep (k + 1) = crashK data ws keep k) := by show _ = _; rw [HSc.out]; simp
            go_wp2
            go_roundw
            case rel => exact ⟨k + 1, by omega, by go_num, by rw [HE.out]; exact HOK.out.below (below_alloc wr _), hbk.alloc (by omega) _⟩
            case measure => simp [intOf]; omega
        · have hkf := hkn hkk
          have HE : Hid (crashK data ws keep (k + 1) = crashK data ws keep k) := by show _ = _; rw [HSc.out, hkf]; simp
          have hdk : decide ((k : Int) < (keep.length : Int)) = false := by simp; omega
          clear hkeep hkn hkf
          go_wp2
          go_roundw
          case rel => exact ⟨k + 1, by omega, by go_num, by rw [HE.out]; exact HOK.out.below (below_alloc wr _), hbk.alloc (by omega) _⟩
          case measure => simp [intOf]; omega
      · obtain rfl : k = ws.length := by omega
        obtain ⟨r0, r1, r2⟩ := cells3 hres
        obtain ⟨f0, f1, f2⟩ := free3 hres
        have HLc : Hid ((crashN data ws keep).length = data.length) := crashK_len HO.out keep _ (Nat.le_refl _)
        have HF : Hid (DiskNew wr w.heap.size (.agg #[.int .i64 count, .slice (some ⟨gd, 0, none⟩) data.length data.length, .slice none 0 0]) count (crashN data ws keep) []) :=
          ⟨⟨gd, none, 0, [], by rw [HLc.out]; rfl, by have := hok.hgd; omega, hok.drow, putsOwn_nil _ _, fun i hi => absurd hi (by simp)⟩, crashK_bytes HBY.out (fun y hy => HPB.out y hy) _ (Nat.le_refl _)⟩
        have HR : Hid _ := hres
        clear hok hres HO0 hl hbx
        go_wp2
        (try simp only [Exit.inBlock, Exit.then])
        refine bodyPost_ret (v := .tuple #[.agg #[.int .i64 count, .slice (some ⟨gd, 0, none⟩) data.length data.length, .slice none 0 0], .int .i64 0]) ?_ rfl ⟨?_, ?_⟩
        · rw [results_cell_tmp rfl]
          go_simp
        · exact ⟨_, rfl, HF.out.set3 HR.out _ _ _⟩
        · exact set3_below hbw (by omega) _ _ _
end Go.Proofs.YtkgmhmhphgaclabGreatDoor
namespace Go.Proofs.YtkgmhmhphgaclabGreatDoor
set_option maxRecDepth 8000
open Go.RowKit Go.WideShapes

/-- What is wrong with a disk, a sector. -/
noncomputable def errS (count : Int) (data : List Nat) (ws : Puts) (n : Int) : Int := if errC count data ws = 0 then (if 0 ≤ n ∧ n < count then 0 else 21) else 20
theorem errS_bad {count : Int} {data : List Nat} {ws : Puts} (n : Int) (h : ¬ Okay count data ws) : errS count data ws n = 20 := by simp [errS, errC_bad h]
theorem errS_range {count : Int} {data : List Nat} {ws : Puts} {n : Int} (h : Okay count data ws) (hn : ¬ (0 ≤ n ∧ n < count)) : errS count data ws n = 21 := by simp [errS, errC_ok h, hn]
theorem errS_ok {count : Int} {data : List Nat} {ws : Puts} {n : Int} (h : Okay count data ws) (hn : 0 ≤ n ∧ n < count) : errS count data ws n = 0 := by simp [errS, errC_ok h, hn]

set_option maxHeartbeats 1000000 in
theorem checkSector_any (v : Value) (n : Int) (count : Int) (data : List Nat) (ws : Puts) (w : World) (hd : DiskIn w v count data ws) :
    Calls Tryz.prog 119 #[v, .int .i64 n] w fun e w' => e = .returned (.int .i64 (errS count data ws n)) ∧ Below w.heap.size w w' := by
  obtain ⟨p, c, q, m, rfl, _⟩ := hd.parts
  have HD : Hid _ := hd
  clear hd
  by_cases ho : Okay count data ws
  · by_cases hn : 0 ≤ n ∧ n < count
    · have HE : Hid _ := errS_ok ho hn
      go_enter Tryz.func119, Tryz.ntmps119
      go_wp2_with fail
      refine (check_ok _ count data ws _ (HD.out.below (below_alloc w _)) ho).mono ?_
      rintro e w1 ⟨rfl, hb1⟩
      replace hb1 : Below (w.heap.size + 1) (w.alloc (.cells #[.int .i64 count, .slice p data.length c, .slice q ws.length m] 25)) w1 := by simpa using hb1
      obtain ⟨c0, c1, c2⟩ := box_cells hb1
      go_wp2_with (go_at_call 56; refine (has_any count n _ _ _).mono ?_; rintro e w2 ⟨rfl, ob, rfl⟩; rw [decide_eq_true hn])
      go_ret
      exact ⟨by rw [HE.out]; rfl, box_below (hb1.alloc (by have := box_size hb1; omega) _)⟩
    · have HE : Hid _ := errS_range ho hn
      go_enter Tryz.func119, Tryz.ntmps119
      go_wp2_with fail
      refine (check_ok _ count data ws _ (HD.out.below (below_alloc w _)) ho).mono ?_
      rintro e w1 ⟨rfl, hb1⟩
      replace hb1 : Below (w.heap.size + 1) (w.alloc (.cells #[.int .i64 count, .slice p data.length c, .slice q ws.length m] 25)) w1 := by simpa using hb1
      obtain ⟨c0, c1, c2⟩ := box_cells hb1
      go_wp2_with (go_at_call 56; refine (has_any count n _ _ _).mono ?_; rintro e w2 ⟨rfl, ob, rfl⟩; rw [decide_eq_false hn])
      go_ret
      exact ⟨by rw [HE.out]; rfl, box_below (hb1.alloc (by have := box_size hb1; omega) _)⟩
  · have HE : Hid _ := errS_bad n ho
    go_enter Tryz.func119, Tryz.ntmps119
    go_wp2_with fail
    refine (check_bad _ count data ws _ (HD.out.below (below_alloc w _)) ho).mono ?_
    rintro e w1 ⟨rfl, hb1⟩
    replace hb1 : Below (w.heap.size + 1) (w.alloc (.cells #[.int .i64 count, .slice p data.length c, .slice q ws.length m] 25)) w1 := by simpa using hb1
    go_wp2
    go_ret
    exact ⟨by rw [HE.out]; rfl, box_below hb1⟩
theorem sector_fails (v : Value) (n : Int) (count : Int) (data : List Nat) (ws : Puts) (w : World) (hd : DiskIn w v count data ws) (er : Int) (he : errS count data ws n = er) :
    Calls Tryz.prog 119 #[v, .int .i64 n] w fun e w' => e = .returned (.int .i64 er) ∧ Below w.heap.size w w' := by
  subst he; exact checkSector_any v n count data ws w hd

/-- A sector answered: in a row of its own. -/
def SecNew (w : World) (base : Nat) (v : Value) (xs : List Nat) : Prop := ∃ g, v = .slice (some ⟨g, 0, none⟩) 128 128 ∧ base ≤ g ∧ w.heap[g]? = some (.cells (Bs xs).toArray 5 (0, 0)) ∧ xs.length = 128 ∧ ∀ c ∈ xs, c < 256

set_option maxHeartbeats 1000000 in
theorem read_err (v : Value) (n : Int) (count : Int) (data : List Nat) (ws : Puts) (w : World) (hd : DiskIn w v count data ws) (er : Int) (hne : er ≠ 0) (he : errS count data ws n = er) :
    Calls Tryz.prog 100 #[v, .int .i64 n] w fun e w' => e = .returned (.tuple #[.slice none 0 0, .int .i64 er]) ∧ Below w.heap.size w w' := by
  obtain ⟨p, c, q, m, rfl, _⟩ := hd.parts
  have HD : Hid _ := hd
  have HE : Hid (errS count data ws n = er) := he
  have hnb : (er != 0) = true := by simpa using hne
  clear hd he hne
  go_enter Tryz.func100, Tryz.ntmps100
  go_wp2_with fail
  refine (sector_fails _ n count data ws _ (HD.out.below (below_alloc w _)) er HE.out).mono ?_
  rintro e w1 ⟨rfl, hb1⟩
  replace hb1 : Below (w.heap.size + 1) (w.alloc (.cells #[.int .i64 count, .slice p data.length c, .slice q ws.length m] 25)) w1 := by simpa using hb1
  go_wp2
  go_ret2
  exact ⟨rfl, box_below hb1⟩
theorem secN_mem {data : List Nat} {n : Nat} (h : ∀ c ∈ data, c < 256) : ∀ c ∈ secN data n, c < 256 := fun c hc => h c (List.mem_of_mem_drop (List.mem_of_mem_take hc))
/-- Where a sector lies among all bytes. -/
theorem bin_sec {w : World} {b o : Nat} {data : List Nat} (h : BIn w (some ⟨b, o, none⟩) data) (n : Nat) : BIn w (some ⟨b, o + n * 128, none⟩) (secN data n) := by
  refine ⟨fun _ => ⟨b, o + n * 128, rfl, fun i hi => ?_⟩, secN_mem h.2⟩
  have := sec_news h n i (.int .u8 ((secN data n).getD i 0 : Nat)) (by simp [Bs, List.getD, List.getElem?_eq_getElem hi])
  rw [add_plain] at this
  exact this

end Go.Proofs.YtkgmhmhphgaclabGreatDoor
