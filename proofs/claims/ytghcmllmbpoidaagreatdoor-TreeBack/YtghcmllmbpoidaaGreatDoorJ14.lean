import Derived.WalkKit
import Derived.WideShapes
import Derived.Deep.RegionHeld3
import Derived.Test.YtghcmllmbpoidaaGreatDoorJ13
import Derived.Deep.Cut
namespace Go.Proofs.YtghcmllmbpoidaaGreatDoor
open Go.RowKit Go.WideShapes
section
variable {P : Program} {ops : Array Oper} {Q : Exit → Act → World → Prop} {md : Region.Mode} {S : World → Prop}
theorem takeH (i d : Nat) {oi : Oper} {v : Value} {fuel : Nat} {listed : Array Bool} {a : Act} {w : World} (hi : ops[i]? = some oi) (hd : oi.dst = some d)
    (hs : Region.noSelect ops = true) (hf : Region.free md ops listed i = true) (hr : (Region.ready md ops listed).contains i = true)
    (hQ : ∀ c a w, Q (.panic c) (a.put oi.dst v) w → Q (.panic c) a w) (hw : Region.wanted oi (yielded ops a.tmps) = true) (hy : ∀ w, S w → (execOp a.eval oi).run P w = .ok (.value v) w) (hS : S w)
    (h : wpAnyH P md ops Q S fuel (listed.setIfInBounds i true) (a.put (some d) v) w) : wpAnyH P md ops Q S (fuel + 1) listed a w :=
  wpAnyH_take hi hs hf hr hQ (Or.inl ⟨hw, hy⟩) hS (by rw [hd]; exact h)
end
end Go.Proofs.YtghcmllmbpoidaaGreatDoor
namespace Go.Proofs.YtghcmllmbpoidaaGreatDoor
set_option maxRecDepth 8000
open Go.RowKit Go.WideShapes
attribute [local go_sem ↓] Go.wp_at_zero Go.wp_at_succ
abbrev zeroDisk : Value := .agg #[.int .i64 0, .slice none 0 0, .slice none 0 0]
theorem box2_cells {w wr : World} {a b c a' b' c' : Value} {t t' : TypeId} (h : Below (w.heap.size + 2) ((w.alloc (.cells #[a, b, c] t)).alloc (.cells #[a', b', c'] t')) wr) :
    wr.heap[w.heap.size]? = some (.cells #[a, b, c] t (0, 0)) ∧ wr.heap[w.heap.size + 1]? = some (.cells #[a', b', c'] t' (0, 0)) :=
  ⟨(h.block _ (by omega)).trans (heap_alloc2_old w _ _), (h.block _ (by omega)).trans (heap_alloc2_new w _ _)⟩
theorem box2_below {w wr : World} {o o' : Obj} (h : Below (w.heap.size + 2) ((w.alloc o).alloc o') wr) : Below w.heap.size w wr := ((below_alloc w o).alloc (by simp) o').trans (h.mono (by omega))
theorem box2_size {w wr : World} {o o' : Obj} (h : Below (w.heap.size + 2) ((w.alloc o).alloc o') wr) : w.heap.size + 2 ≤ wr.heap.size := by
  have := h.size
  simp at this
  omega
theorem cells3 {w : World} {B : Nat} {a b c : Value} {t : TypeId} (h : w.heap[B]? = some (.cells #[a, b, c] t (0, 0))) : w.cell? ⟨B, 0, none⟩ = some a ∧ w.cell? ⟨B, 1, none⟩ = some b ∧ w.cell? ⟨B, 2, none⟩ = some c :=
  ⟨cell_of_row _ _ _ _ _ _ h, cell_of_row _ _ _ _ _ _ h, cell_of_row _ _ _ _ _ _ h⟩
theorem free3 {w : World} {B : Nat} {a b c : Value} {t : TypeId} (h : w.heap[B]? = some (.cells #[a, b, c] t (0, 0))) : w.frozen? ⟨B, 0, none⟩ = false ∧ w.frozen? ⟨B, 1, none⟩ = false ∧ w.frozen? ⟨B, 2, none⟩ = false :=
  ⟨frozen_of_row _ _ _ _ _ h, frozen_of_row _ _ _ _ _ h, frozen_of_row _ _ _ _ _ h⟩
set_option maxHeartbeats 1000000 in
theorem do_bad (v l : Value) (count : Int) (data : List Nat) (ws : Puts) (w : World) (hd : DiskIn w v count data ws) (ho : ¬ Okay count data ws) :
    Calls Tryz.prog 18 #[v, l] w fun e w' => e = .returned (.tuple #[zeroDisk, .int .i64 20]) ∧ Below w.heap.size w w' := by
  obtain ⟨p, c, q, m, rfl, _⟩ := hd.parts
  have HD : Hid _ := hd
  clear hd
  go_enter Tryz.func18, Tryz.ntmps18
  go_wp2_with fail
  refine (check_bad _ count data ws _ (HD.out.below ((below_alloc w _).alloc (by simp) _)) ho).mono ?_
  rintro e w1 ⟨rfl, hb1⟩
  replace hb1 : Below (w.heap.size + 2) ((w.alloc (.cells #[.int .i64 count, .slice p data.length c, .slice q ws.length m] 35)).alloc (.cells #[.int .i64 0, .slice none 0 0, .slice none 0 0] 35)) w1 := by simpa using hb1
  obtain ⟨hB, hR⟩ := box2_cells hb1
  obtain ⟨c0, c1, c2⟩ := cells3 hR
  obtain ⟨f0, f1, f2⟩ := free3 hR
  clear hB hR
  go_wp2
  (try simp only [Exit.inBlock, Exit.then])
  refine bodyPost_ret (v := .tuple #[zeroDisk, .int .i64 20]) ?_ rfl ⟨rfl, ?_⟩
  · rw [results_cell_tmp rfl]
    go_simp
  · exact set3_below (box2_below hb1) (by omega) _ _ _
theorem keepS {W w1 w2 : World} {B H : Nat} {x y z : Value} (hz : B ≤ W.heap.size) (h : (w1.cell? ⟨H, 0, none⟩ = some x ∧ w1.cell? ⟨H, 1, none⟩ = some y ∧ w1.cell? ⟨H, 2, none⟩ = some z) ∧ Hid (Below B W w1)) (hb : Below w1.heap.size w1 w2) :
    (w2.cell? ⟨H, 0, none⟩ = some x ∧ w2.cell? ⟨H, 1, none⟩ = some y ∧ w2.cell? ⟨H, 2, none⟩ = some z) ∧ Hid (Below B W w2) :=
  ⟨⟨below_cell_some hb h.1.1, below_cell_some hb h.1.2.1, below_cell_some hb h.1.2.2⟩, h.2.out.trans (hb.mono (Nat.le_trans hz h.2.out.size))⟩
theorem keepA {W w1 : World} {B H : Nat} {x y z : Value} (hz : B ≤ W.heap.size) (h : (w1.cell? ⟨H, 0, none⟩ = some x ∧ w1.cell? ⟨H, 1, none⟩ = some y ∧ w1.cell? ⟨H, 2, none⟩ = some z) ∧ Hid (Below B W w1)) (o : Obj) :
    ((w1.alloc o).cell? ⟨H, 0, none⟩ = some x ∧ (w1.alloc o).cell? ⟨H, 1, none⟩ = some y ∧ (w1.alloc o).cell? ⟨H, 2, none⟩ = some z) ∧ Hid (Below B W (w1.alloc o)) :=
  keepS hz h (below_alloc w1 o)
theorem keep3 {W w1 : World} {B H : Nat} {x y z : Value} (h : (w1.cell? ⟨H, 0, none⟩ = some x ∧ w1.cell? ⟨H, 1, none⟩ = some y ∧ w1.cell? ⟨H, 2, none⟩ = some z) ∧ Hid (Below B W w1)) {G : Nat} (hG : H ≠ G ∧ B ≤ G) (a b c : Value) :
    ((((w1.setCell ⟨G, 0, none⟩ a).setCell ⟨G, 1, none⟩ b).setCell ⟨G, 2, none⟩ c).cell? ⟨H, 0, none⟩ = some x ∧ (((w1.setCell ⟨G, 0, none⟩ a).setCell ⟨G, 1, none⟩ b).setCell ⟨G, 2, none⟩ c).cell? ⟨H, 1, none⟩ = some y ∧ (((w1.setCell ⟨G, 0, none⟩ a).setCell ⟨G, 1, none⟩ b).setCell ⟨G, 2, none⟩ c).cell? ⟨H, 2, none⟩ = some z) ∧ Hid (Below B W (((w1.setCell ⟨G, 0, none⟩ a).setCell ⟨G, 1, none⟩ b).setCell ⟨G, 2, none⟩ c)) :=
  have e := set3_other w1 G H a b c hG.1
  ⟨⟨(World.cell?_of_block e).trans h.1.1, (World.cell?_of_block e).trans h.1.2.1, (World.cell?_of_block e).trans h.1.2.2⟩, set3_below h.2.out hG.2 _ _ _⟩
theorem below_bt {a b c : World} (h : Below a.heap.size a b) (k : Below b.heap.size b c) : Below a.heap.size a c := h.trans (k.mono h.size)
theorem apart_after {w : World} {base gd : Nat} {v : Value} {ws : Puts} {gs : List Nat} (h : PutsOwn w base v ws gs) (hg : gd < base) : ∀ i, i < ws.length → gs.getD i 0 ≠ gd := fun i hi e => by
  have := (h.rows i hi).1
  omega
theorem own_alloc {Y : World} {base gd : Nat} {count : Int} {data : List Nat} {q : Option Addr} {m : Nat} {ws : Puts} {gs : List Nat} (hg : Y.heap[gd]? = some (.cells (Bs data).toArray 5 (0, 0))) (hgb : base ≤ gd) (hp : PutsOwn Y base (.slice q ws.length m) ws gs) (ha : ∀ i, i < ws.length → gs.getD i 0 ≠ gd) (hby : ∀ c ∈ data, c < 256) (hbase : base ≤ Y.heap.size) :
    DiskOwn (Y.alloc (.cells #[.int .i64 count, .slice (some ⟨gd, 0, none⟩) data.length data.length, .slice q ws.length m] 35)) base Y.heap.size gd count data q m ws gs :=
  ⟨heap_alloc_new Y _, hbase, hgb, ((below_alloc Y _).block _ (lt_heap hg)).trans hg, hp.below (below_alloc Y _), ha, hby⟩
theorem own_set3 {Y : World} {base B0 gd : Nat} {x y z : Value} {count : Int} {data : List Nat} {q : Option Addr} {m : Nat} {ws : Puts} {gs : List Nat} (hB : Y.heap[B0]? = some (.cells #[x, y, z] 35 (0, 0))) (hBb : base ≤ B0) (hg : Y.heap[gd]? = some (.cells (Bs data).toArray 5 (0, 0))) (hgb : base ≤ gd) (hp : PutsOwn Y base (.slice q ws.length m) ws gs) (ha : ∀ i, i < ws.length → gs.getD i 0 ≠ gd) (hby : ∀ c ∈ data, c < 256) :
    DiskOwn (((Y.setCell ⟨B0, 0, none⟩ (.int .i64 count)).setCell ⟨B0, 1, none⟩ (.slice (some ⟨gd, 0, none⟩) data.length data.length)).setCell ⟨B0, 2, none⟩ (.slice q ws.length m)) base B0 gd count data q m ws gs := by
  have hne : ∀ (k : Nat) (cs : Array Value) (t : TypeId), t ≠ 35 → Y.heap[k]? = some (.cells cs t (0, 0)) → k ≠ B0 := by
    rintro k cs t ht hk rfl
    rw [hB] at hk
    simp only [Option.some.injEq, Obj.cells.injEq] at hk
    exact ht hk.2.1.symm
  exact ⟨set3_same Y B0 _ _ _ _ _ _ _ hB, hBb, hgb, (set3_other Y B0 gd _ _ _ (hne _ _ _ (by decide) hg)).trans hg, hp.keep (fun k cur _ hk => set3_other Y B0 k _ _ _ (hne _ _ _ (by decide) hk)) (fun i hi => set3_other Y B0 _ _ _ _ (hne _ _ _ (by decide) (hp.rows i hi).2)), ha, hby⟩
theorem DiskOwn.toNew {w : World} {base B0 gd : Nat} {count : Int} {data : List Nat} {q : Option Addr} {m : Nat} {ws : Puts} {gs : List Nat} (h : DiskOwn w base B0 gd count data q m ws gs) : DiskNew w base (.agg #[.int .i64 count, .slice (some ⟨gd, 0, none⟩) data.length data.length, .slice q ws.length m]) count data ws :=
  ⟨⟨gd, q, m, gs, rfl, h.hgd, h.drow, h.puts, h.apart⟩, h.bytes⟩
theorem ActsIn.addr {w : World} {q : Option Addr} {l : Acts} (h : ActsIn w q l) (hw : 0 < l.length) : ∃ b o, q = some ⟨b, o, none⟩ := by
  obtain ⟨b, o, e, _⟩ := h hw
  exact ⟨b, o, e⟩
theorem ActsIn.at {w : World} {b o : Nat} {l : Acts} (h : ActsIn w (some ⟨b, o, none⟩) l) {k : Nat} (hk : k < l.length) :
    w.cell? ⟨b, o + k * 3, none⟩ = some (.bool (l.getD k (false, 0, [])).1) ∧ w.cell? ⟨b, o + k * 3 + 1, none⟩ = some (.int .i64 (l.getD k (false, 0, [])).2.1) ∧ ∃ p c, w.cell? ⟨b, o + k * 3 + 2, none⟩ = some (.slice p (l.getD k (false, 0, [])).2.2.length c) ∧ BIn w p (l.getD k (false, 0, [])).2.2 := by
  obtain ⟨b', o', e, hc⟩ := h (by omega)
  simp only [Option.some.injEq, Addr.mk.injEq, and_true] at e
  obtain ⟨rfl, rfl⟩ := e
  obtain ⟨h1, h2, v, h3, hr⟩ := hc k hk
  obtain ⟨p, c, rfl, g, _⟩ := hr.lies
  exact ⟨h1, by rw [Nat.add_assoc]; exact h2, p, c, by rw [Nat.add_assoc]; exact h3, g⟩
inductive DoPost (base : Nat) (count : Int) : Except Int (List Nat × Puts) → Ending → World → Prop
  | err (c : Int) (w' : World) : DoPost base count (.error c) (.returned (.tuple #[zeroDisk, .int .i64 c])) w'
  | ok (data : List Nat) (ws : Puts) (v : Value) (w' : World) : DiskNew w' base v count data ws → DoPost base count (.ok (data, ws)) (.returned (.tuple #[v, .int .i64 0])) w'
set_option maxHeartbeats 2000000 in
theorem do_ok (v : Value) (count : Int) (data : List Nat) (ws : Puts) (w : World) (hd : DiskIn w v count data ws) (ho : Okay count data ws) (ql : Option Addr) (ml : Nat) (l : Acts) (hl : ActsIn w ql l) (hll : l.length ≤ 9223372036854775807) :
    Calls Tryz.prog 18 #[v, .slice ql l.length ml] w fun e w' => DoPost w.heap.size count (doN count (data, ws) l) e w' ∧ Below w.heap.size w w' := by
  obtain ⟨p, c, q, m, rfl, hb, _⟩ := hd.parts
  have HBY : Hid (∀ c ∈ data, c < 256) := hb.2
  clear hb
  have HD : Hid _ := hd
  have HO : Hid _ := ho
  clear hd ho
  go_enter Tryz.func18, Tryz.ntmps18
  go_wp2_with fail
  refine (check_ok _ count data ws _ (HD.out.below ((below_alloc w _).alloc (by simp) _)) HO.out).mono ?_
  rintro e w1 ⟨rfl, hb1⟩
  replace hb1 : Below (w.heap.size + 2) ((w.alloc (.cells #[.int .i64 count, .slice p data.length c, .slice q ws.length m] 35)).alloc (.cells #[.int .i64 0, .slice none 0 0, .slice none 0 0] 35)) w1 := by simpa using hb1
  have hz1 := box2_size hb1
  obtain ⟨hB, hR⟩ := box2_cells hb1
  obtain ⟨c0, c1, c2⟩ := cells3 hB
  have HR : Hid _ := hR
  have HB : Hid _ := hB
  clear hB hR
  go_wp2
  obtain ⟨W, hW⟩ : ∃ W, W = (w.alloc (.cells #[.int .i64 count, .slice p data.length c, .slice q ws.length m] 35)).alloc (.cells #[.int .i64 0, .slice none 0 0, .slice none 0 0] 35) := ⟨_, rfl⟩
  have HDx : Hid (∀ w', Below (w.heap.size + 2) W w' → DiskIn w' (.agg #[.int .i64 count, .slice p data.length c, .slice q ws.length m]) count data ws) := by
    intro w' h
    rw [hW] at h
    exact HD.out.below (box2_below h)
  rw [← hW] at hb1
  have HS1 : (w1.drew.cell? ⟨w.heap.size, 0, none⟩ = some (.int .i64 count) ∧ w1.drew.cell? ⟨w.heap.size, 1, none⟩ = some (.slice p data.length c) ∧ w1.drew.cell? ⟨w.heap.size, 2, none⟩ = some (.slice q ws.length m)) ∧ Hid (Below (w.heap.size + 2) W w1.drew) := ⟨⟨c0, c1, c2⟩, hb1.drew⟩
  have HWz : Hid (w.heap.size + 2 ≤ W.heap.size) := by show _ ≤ _; rw [hW]; simp
  go_cut [7] from 11 (fun s7 w5 => ∃ B0 gd q' m' gs, s7 = .pointer (some ⟨B0, 0, none⟩) ∧ DiskOwn w5 (w.heap.size + 2) B0 gd count data q' m' ws gs ∧ Below (w.heap.size + 2) W w5)
  case first =>
    refine wp_region_noPanic ?_
    refine wp_region_held_drew (S := fun w' => (w'.cell? ⟨w.heap.size, 0, none⟩ = some (.int .i64 count) ∧ w'.cell? ⟨w.heap.size, 1, none⟩ = some (.slice p data.length c) ∧ w'.cell? ⟨w.heap.size, 2, none⟩ = some (.slice q ws.length m)) ∧ Hid (Below (w.heap.size + 2) W w')) (by kernel_rfl) HS1 (fun hS0 => ?_)
    have sz0 := Nat.le_trans HWz.out hS0.2.out.size
    clear HS1 c0 c1 c2 hb1
    refine takeH 0 17 (v := ?_) rfl rfl (by kernel_rfl) (by kernel_rfl) (by kernel_rfl) (fun _ _ _ h => h) (by rfl) ?_ (by assumption) ?_
    rotate_left
    · intro w hSw; go_simp; first | done | with_reducible rfl
    simp only [Act.put, List.setIfInBounds_toArray, List.set_cons_zero, List.set_cons_succ]
    refine takeH 1 18 (v := ?_) rfl rfl (by kernel_rfl) (by kernel_rfl) (by kernel_rfl) (fun _ _ _ h => h) (by rfl) ?_ (by assumption) ?_
    rotate_left
    · intro w hSw; go_simp; first | done | with_reducible rfl
    simp only [Act.put, List.setIfInBounds_toArray, List.set_cons_zero, List.set_cons_succ]
    refine takeH 2 19 (v := ?_) rfl rfl (by kernel_rfl) (by kernel_rfl) (by kernel_rfl) (fun _ _ _ h => h) (by rfl) ?_ (by assumption) ?_
    rotate_left
    · intro w hSw; go_simp; first | done | with_reducible rfl
    simp only [Act.put, List.setIfInBounds_toArray, List.set_cons_zero, List.set_cons_succ]
    refine takeH 4 21 (v := ?_) rfl rfl (by kernel_rfl) (by kernel_rfl) (by kernel_rfl) (fun _ _ _ h => h) (by rfl) ?_ (by assumption) ?_
    rotate_left
    · intro w hSw; go_simp; first | done | with_reducible rfl
    simp only [Act.put, List.setIfInBounds_toArray, List.set_cons_zero, List.set_cons_succ]
    refine wpAnyH_ready (rs := [3, 7]) (by kernel_rfl) (by simp) ?_
    refine AllReadyH.cons rfl (fun K hK => ?_) (AllReadyH.cons rfl (fun K hK => ?_) AllReadyH.nil)
    · go_simp
      refine (sectors_any _ count data ws _ (HDx.out _ hS0.2.out) HO.out).mono ?_
      rintro e ws1 ⟨gd, rfl, hg1, hg2, hb1⟩
      go_simp
      refine hK.out _ _ (keepS HWz.out hS0 hb1) (fun hS1 => ?_)
      clear hK K
      have sz1 := Nat.le_trans HWz.out hS1.2.out.size
      refine wpAnyH_ready (rs := [5, 7]) (by kernel_rfl) (by simp) ?_
      refine AllReadyH.cons rfl (fun K hK => ?_) (AllReadyH.cons rfl (fun K hK => ?_) AllReadyH.nil)
      · go_simp
        refine (waits_any _ count data ws _ (HDx.out _ hS1.2.out) HO.out).mono ?_
        rintro e ww2 ⟨q', m', gs, rfl, hp, hb2⟩
        go_simp
        refine hK.out _ _ (keepS HWz.out hS1 hb2) (fun hS2 => ?_)
        clear hK K
        have sz2 := Nat.le_trans HWz.out hS2.2.out.size
        refine takeH 6 23 (v := ?_) rfl rfl (by kernel_rfl) (by kernel_rfl) (by kernel_rfl) (fun _ _ _ h => h) (by rfl) ?_ (by assumption) ?_
        rotate_left
        · intro w hSw; go_simp; first | done | with_reducible rfl
        simp only [Act.put, List.setIfInBounds_toArray, List.set_cons_zero, List.set_cons_succ]
        refine wpAnyH_ready (rs := [7]) (by kernel_rfl) (by simp) ?_
        refine AllReadyH.cons rfl (fun K hK => ?_) AllReadyH.nil
        · have hb3 := below_alloc ww2 (.cells #[.int .i64 0, .slice none 0 0, .slice none 0 0] 35)
          go_simp
          refine hK.out _ _ (keepS HWz.out hS2 hb3) (fun hS3 => ?_)
          clear hK K
          have sz3 := Nat.le_trans HWz.out hS3.2.out.size
          refine wpAnyH_ready (rs := [8]) (by kernel_rfl) (by simp) ?_
          refine AllReadyH.cons rfl (fun K hK => ?_) AllReadyH.nil
          go_simp
          refine hK.out _ _ (keepA HWz.out hS2 _) (fun hSz => ?_)
          clear hK K
          refine wpAnyH_done (by kernel_rfl) (NoPanic.normal ?_) _
          go_wp2
          go_meet
          case rel =>
            have gY := ((hb2).block _ (lt_heap hg2)).trans hg2
            have pY := hp
            have aY := apart_after hp (lt_heap hg2)
            exact ⟨_, gd, q', m', gs, rfl, own_alloc gY (Nat.le_trans sz0 hg1) (pY.mono sz1) aY HBY.out sz2, hSz.2.out⟩
      · have hb2 := below_alloc ws1 (.cells #[.int .i64 0, .slice none 0 0, .slice none 0 0] 35)
        go_simp
        refine hK.out _ _ (keepS HWz.out hS1 hb2) (fun hS2 => ?_)
        clear hK K
        have sz2 := Nat.le_trans HWz.out hS2.2.out.size
        refine wpAnyH_ready (rs := [5]) (by kernel_rfl) (by simp) ?_
        refine AllReadyH.cons rfl (fun K hK => ?_) AllReadyH.nil
        · go_simp
          refine (waits_any _ count data ws _ (HDx.out _ hS2.2.out) HO.out).mono ?_
          rintro e ww3 ⟨q', m', gs, rfl, hp, hb3⟩
          go_simp
          refine hK.out _ _ (keepS HWz.out hS2 hb3) (fun hS3 => ?_)
          clear hK K
          have sz3 := Nat.le_trans HWz.out hS3.2.out.size
          refine takeH 6 23 (v := ?_) rfl rfl (by kernel_rfl) (by kernel_rfl) (by kernel_rfl) (fun _ _ _ h => h) (by rfl) ?_ (by assumption) ?_
          rotate_left
          · intro w hSw; go_simp; first | done | with_reducible rfl
          simp only [Act.put, List.setIfInBounds_toArray, List.set_cons_zero, List.set_cons_succ]
          refine wpAnyH_ready (rs := [8]) (by kernel_rfl) (by simp) ?_
          refine AllReadyH.cons rfl (fun K hK => ?_) AllReadyH.nil
          have hZ := ((hb3).block _ (by first | (rw [World.size_alloc]; omega) | (show _ < (w1.alloc _).heap.size; rw [World.size_alloc]; exact Nat.lt_succ_self _))).trans (heap_alloc_new _ _)
          obtain ⟨z0, z1, z2⟩ := cells3 hZ
          obtain ⟨y0, y1, y2⟩ := free3 hZ
          have HZ : Hid _ := hZ
          clear hZ
          go_simp
          refine hK.out _ _ (keep3 hS3 ⟨by have := sz1; omega, by exact sz1⟩ _ _ _) (fun hSz => ?_)
          clear hK K
          refine wpAnyH_done (by kernel_rfl) (NoPanic.normal ?_) _
          go_wp2
          go_meet
          case rel =>
            have gY := (((below_bt hb2 hb3)).block _ (lt_heap hg2)).trans hg2
            have pY := hp
            have aY := apart_after hp (Nat.lt_of_lt_of_le (lt_heap hg2) (hb2).size)
            exact ⟨_, gd, q', m', gs, rfl, own_set3 HZ.out sz1 gY (Nat.le_trans sz0 hg1) (pY.mono sz2) aY HBY.out, hSz.2.out⟩
    · have hb1 := below_alloc w1.drew (.cells #[.int .i64 0, .slice none 0 0, .slice none 0 0] 35)
      go_simp
      refine hK.out _ _ (keepS HWz.out hS0 hb1) (fun hS1 => ?_)
      clear hK K
      have sz1 := Nat.le_trans HWz.out hS1.2.out.size
      refine wpAnyH_ready (rs := [3]) (by kernel_rfl) (by simp) ?_
      refine AllReadyH.cons rfl (fun K hK => ?_) AllReadyH.nil
      · go_simp
        refine (sectors_any _ count data ws _ (HDx.out _ hS1.2.out) HO.out).mono ?_
        rintro e ws2 ⟨gd, rfl, hg1, hg2, hb2⟩
        go_simp
        refine hK.out _ _ (keepS HWz.out hS1 hb2) (fun hS2 => ?_)
        clear hK K
        have sz2 := Nat.le_trans HWz.out hS2.2.out.size
        refine wpAnyH_ready (rs := [5]) (by kernel_rfl) (by simp) ?_
        refine AllReadyH.cons rfl (fun K hK => ?_) AllReadyH.nil
        · go_simp
          refine (waits_any _ count data ws _ (HDx.out _ hS2.2.out) HO.out).mono ?_
          rintro e ww3 ⟨q', m', gs, rfl, hp, hb3⟩
          go_simp
          refine hK.out _ _ (keepS HWz.out hS2 hb3) (fun hS3 => ?_)
          clear hK K
          have sz3 := Nat.le_trans HWz.out hS3.2.out.size
          refine takeH 6 23 (v := ?_) rfl rfl (by kernel_rfl) (by kernel_rfl) (by kernel_rfl) (fun _ _ _ h => h) (by rfl) ?_ (by assumption) ?_
          rotate_left
          · intro w hSw; go_simp; first | done | with_reducible rfl
          simp only [Act.put, List.setIfInBounds_toArray, List.set_cons_zero, List.set_cons_succ]
          refine wpAnyH_ready (rs := [8]) (by kernel_rfl) (by simp) ?_
          refine AllReadyH.cons rfl (fun K hK => ?_) AllReadyH.nil
          have hZ := (((below_bt hb2 hb3)).block _ (by first | (rw [World.size_alloc]; omega) | (show _ < (w1.alloc _).heap.size; rw [World.size_alloc]; exact Nat.lt_succ_self _))).trans (heap_alloc_new _ _)
          obtain ⟨z0, z1, z2⟩ := cells3 hZ
          obtain ⟨y0, y1, y2⟩ := free3 hZ
          have HZ : Hid _ := hZ
          clear hZ
          go_simp
          refine hK.out _ _ (keep3 hS3 ⟨by have := sz0; omega, by exact sz0⟩ _ _ _) (fun hSz => ?_)
          clear hK K
          refine wpAnyH_done (by kernel_rfl) (NoPanic.normal ?_) _
          go_wp2
          go_meet
          case rel =>
            have gY := ((hb3).block _ (lt_heap hg2)).trans hg2
            have pY := hp
            have aY := apart_after hp (lt_heap hg2)
            exact ⟨_, gd, q', m', gs, rfl, own_set3 HZ.out sz0 gY (Nat.le_trans sz1 hg1) (pY.mono sz2) aY HBY.out, hSz.2.out⟩
  case rest =>
    obtain ⟨B0, gd, q', m', gs, rfl, hown, hbc⟩ := hcut
    have HX : Hid (∀ w', Below (w.heap.size + 2) W w' → w'.heap[w.heap.size + 1]? = some (.cells #[.int .i64 0, .slice none 0 0, .slice none 0 0] 35 (0, 0)) ∧ Below w.heap.size w w' ∧ w.heap.size + 2 ≤ w'.heap.size) := by
      intro w' h
      rw [hW] at h
      exact ⟨(box2_cells h).2, box2_below h, box2_size h⟩
    have HO0 : Hid (DiskOwn wc (w.heap.size + 2) B0 gd count data q' m' ws gs) := hown
    clear hown hW HD HDx HS1 HR HB c0 c1 c2 hb1 hz1
    go_wp2
    go_loopw [26] (fun i wr => ∃ k : Nat, ∃ dk wk qk mk gk, k ≤ l.length ∧ i = .int .i64 k ∧ Hid (doN count (data, ws) (l.take k) = .ok (dk, wk)) ∧ DiskOwn wr (w.heap.size + 2) B0 gd count dk qk mk wk gk ∧ Below (w.heap.size + 2) W wr) (fun i _ => l.length - (intOf i).toNat)
    case atStart => exact ⟨0, data, ws, q', m', gs, by omega, rfl, rfl, HO0.out, hbc⟩
    case round =>
      obtain ⟨k, dk, wk, qk, mk, gk, hk, rfl, HN, hok, hbk⟩ := hrel
      obtain ⟨hres, hbw, hsz⟩ := HX.out _ hbk
      by_cases hkl : k < l.length
      · obtain ⟨b, o, rfl⟩ := hl.addr (by omega)
        obtain ⟨e0, e1, pk, ck, e2, hbi⟩ := (hl.below hbw).at hkl
        have HST : Hid (doN count (data, ws) (l.take (k + 1)) = stepA count (dk, wk) (l.getD k (false, 0, []))) := doN_step hkl HN.out
        have hoky : Okay count dk wk := okay_do _ (s := (data, ws)) (s' := (dk, wk)) HO.out HN.out
        generalize l.getD k (false, 0, []) = y at *
        obtain ⟨fl, s, xs⟩ := y
        simp only at e0 e1 e2 hbi
        have HBI : Hid (BIn wr pk xs) := hbi
        have HOK : Hid (DiskOwn wr (w.heap.size + 2) B0 gd count dk qk mk wk gk) := hok
        have HOY : Hid (Okay count dk wk) := hoky
        have HRES : Hid _ := hres
        clear hbi hok hoky hres HN HO0 hl
        cases fl with
        | true =>
          have HE : Hid (stepA count (dk, wk) (true, s, xs) = .ok (settleN dk wk, [])) := rfl
          go_wp2_with fail
          refine (settle_any (w.heap.size + 2) B0 gd count dk qk mk wk gk _ (HOK.out.below (below_alloc wr _)) HOY.out (by simp; omega)).mono ?_
          rintro e w2 ⟨rfl, hd2, hb2⟩
          have hb3 := (hbk.alloc (by omega) _).trans hb2
          clear hb2
          go_wp2
          go_roundw
          case rel => exact ⟨k + 1, _, _, _, _, _, by omega, by go_num, HST.out.trans HE.out, hd2, hb3⟩
          case measure => simp [intOf]; omega
        | false =>
          by_cases g1 : 0 ≤ s ∧ s < count
          · by_cases g2 : xs.length = 128
            · by_cases g3 : wk.length < 4096
              · have HE : Hid (stepA count (dk, wk) (false, s, xs) = .ok (dk, wk ++ [(s, xs)])) := by
                  show stepA _ _ _ = _
                  simp [stepA, g1, g2, show ¬ 4096 ≤ wk.length from by omega]
                have G2 : Hid (xs.length = 128) := g2
                rw [g2] at e2
                clear g2
                go_wp2_with fail
                refine (wait_ok (w.heap.size + 2) B0 gd count dk qk mk wk gk s pk ck xs _ (HOK.out.below (below_alloc wr _)) g1 G2.out g3 (HBI.out.alloc _) (by simp; omega)).mono ?_
                rintro e w2 ⟨rfl, ⟨q2, m2, g2, hd2⟩, hb2⟩
                have hb3 := (hbk.alloc (by omega) _).trans hb2
                clear hb2
                go_wp2
                go_roundw
                case rel => exact ⟨k + 1, _, _, _, _, _, by omega, by go_num, HST.out.trans HE.out, hd2, hb3⟩
                case measure => simp [intOf]; omega
              · have HE : Hid (stepA count (dk, wk) (false, s, xs) = .error 4) := by
                  show stepA _ _ _ = _
                  simp [stepA, g1, g2, show 4096 ≤ wk.length from by omega]
                rw [g2] at e2
                clear g2
                have HF : Hid (doN count (data, ws) l = .error 4) := doN_fail (HST.out.trans HE.out)
                go_wp2_with fail
                refine (wait_many (w.heap.size + 2) B0 gd count dk qk mk wk gk s pk ck _ (HOK.out.below (below_alloc wr _)) g1 (by omega)).mono ?_
                rintro e w2 ⟨rfl, hb2⟩
                have hb3 := (hbk.alloc (by omega) _).trans (hb2.mono (by simp; omega))
                obtain ⟨hres2, hbw2, hsz2⟩ := HX.out _ hb3
                obtain ⟨r0, r1, r2⟩ := cells3 hres2
                obtain ⟨f0, f1, f2⟩ := free3 hres2
                clear hb2 hb3 hres2 HRES
                go_wp2
                (try simp only [Exit.inBlock, Exit.then])
                refine bodyPost_ret (v := .tuple #[zeroDisk, .int .i64 4]) ?_ rfl ⟨?_, ?_⟩
                · rw [results_cell_tmp rfl]
                  go_simp
                · rw [HF.out]
                  exact .err _ _
                · exact set3_below hbw2 (by omega) _ _ _
            · have HE : Hid (stepA count (dk, wk) (false, s, xs) = .error 8) := by
                show stepA _ _ _ = _
                simp [stepA, g1, g2]
              have HF : Hid (doN count (data, ws) l = .error 8) := doN_fail (HST.out.trans HE.out)
              go_wp2_with fail
              refine (wait_bad (w.heap.size + 2) B0 gd count dk qk mk wk gk s pk ck xs _ (HOK.out.below (below_alloc wr _)) g1 g2).mono ?_
              rintro e w2 ⟨rfl, hb2⟩
              have hb3 := (hbk.alloc (by omega) _).trans (hb2.mono (by simp; omega))
              obtain ⟨hres2, hbw2, hsz2⟩ := HX.out _ hb3
              obtain ⟨r0, r1, r2⟩ := cells3 hres2
              obtain ⟨f0, f1, f2⟩ := free3 hres2
              clear hb2 hb3 hres2 HRES
              go_wp2
              (try simp only [Exit.inBlock, Exit.then])
              refine bodyPost_ret (v := .tuple #[zeroDisk, .int .i64 8]) ?_ rfl ⟨?_, ?_⟩
              · rw [results_cell_tmp rfl]
                go_simp
              · rw [HF.out]
                exact .err _ _
              · exact set3_below hbw2 (by omega) _ _ _
          · have HE : Hid (stepA count (dk, wk) (false, s, xs) = .error 21) := by
              show stepA _ _ _ = _
              simp [stepA, g1]
            have HF : Hid (doN count (data, ws) l = .error 21) := doN_fail (HST.out.trans HE.out)
            go_wp2_with fail
            refine (wait_range (w.heap.size + 2) B0 gd count dk qk mk wk gk s (.slice pk xs.length ck) _ (HOK.out.below (below_alloc wr _)) g1).mono ?_
            rintro e w2 ⟨rfl, hb2⟩
            have hb3 := (hbk.alloc (by omega) _).trans (hb2.mono (by simp; omega))
            obtain ⟨hres2, hbw2, hsz2⟩ := HX.out _ hb3
            obtain ⟨r0, r1, r2⟩ := cells3 hres2
            obtain ⟨f0, f1, f2⟩ := free3 hres2
            clear hb2 hb3 hres2 HRES
            go_wp2
            (try simp only [Exit.inBlock, Exit.then])
            refine bodyPost_ret (v := .tuple #[zeroDisk, .int .i64 21]) ?_ rfl ⟨?_, ?_⟩
            · rw [results_cell_tmp rfl]
              go_simp
            · rw [HF.out]
              exact .err _ _
            · exact set3_below hbw2 (by omega) _ _ _
      · obtain rfl : k = l.length := by omega
        obtain ⟨c0, c1, c2⟩ := hok.cells
        obtain ⟨r0, r1, r2⟩ := cells3 hres
        obtain ⟨f0, f1, f2⟩ := free3 hres
        have HN' : Hid (doN count (data, ws) l = .ok (dk, wk)) := by have := HN.out; rwa [List.take_length] at this
        have HF : Hid (DiskNew wr w.heap.size (.agg #[.int .i64 count, .slice (some ⟨gd, 0, none⟩) dk.length dk.length, .slice qk wk.length mk]) count dk wk) := hok.toNew.mono (by omega)
        have HR : Hid _ := hres
        clear hok hres HN HO0 hl
        go_wp2
        (try simp only [Exit.inBlock, Exit.then])
        refine bodyPost_ret (v := .tuple #[.agg #[.int .i64 count, .slice (some ⟨gd, 0, none⟩) dk.length dk.length, .slice qk wk.length mk], .int .i64 0]) ?_ rfl ⟨?_, ?_⟩
        · rw [results_cell_tmp rfl]
          go_simp
        · rw [HN'.out]
          exact .ok _ _ _ _ (HF.out.set3 HR.out _ _ _)
        · exact set3_below hbw (by omega) _ _ _
end Go.Proofs.YtghcmllmbpoidaaGreatDoor
namespace Go.Proofs.YtghcmllmbpoidaaGreatDoor
set_option maxRecDepth 8000
open Go.RowKit Go.WideShapes
noncomputable def errS (count : Int) (data : List Nat) (ws : Puts) (n : Int) : Int := if errC count data ws = 0 then (if 0 ≤ n ∧ n < count then 0 else 21) else 20
theorem errS_bad {count : Int} {data : List Nat} {ws : Puts} (n : Int) (h : ¬ Okay count data ws) : errS count data ws n = 20 := by simp [errS, errC_bad h]
theorem errS_range {count : Int} {data : List Nat} {ws : Puts} {n : Int} (h : Okay count data ws) (hn : ¬ (0 ≤ n ∧ n < count)) : errS count data ws n = 21 := by simp [errS, errC_ok h, hn]
theorem errS_ok {count : Int} {data : List Nat} {ws : Puts} {n : Int} (h : Okay count data ws) (hn : 0 ≤ n ∧ n < count) : errS count data ws n = 0 := by simp [errS, errC_ok h, hn]
set_option maxHeartbeats 1000000 in
theorem checkSector_any (v : Value) (n : Int) (count : Int) (data : List Nat) (ws : Puts) (w : World) (hd : DiskIn w v count data ws) :
    Calls Tryz.prog 96 #[v, .int .i64 n] w fun e w' => e = .returned (.int .i64 (errS count data ws n)) ∧ Below w.heap.size w w' := by
  obtain ⟨p, c, q, m, rfl, _⟩ := hd.parts
  have HD : Hid _ := hd
  clear hd
  by_cases ho : Okay count data ws
  · by_cases hn : 0 ≤ n ∧ n < count
    · have HE : Hid _ := errS_ok ho hn
      go_enter Tryz.func96, Tryz.ntmps96
      go_wp2_with fail
      refine (check_ok _ count data ws _ (HD.out.below (below_alloc w _)) ho).mono ?_
      rintro e w1 ⟨rfl, hb1⟩
      replace hb1 : Below (w.heap.size + 1) (w.alloc (.cells #[.int .i64 count, .slice p data.length c, .slice q ws.length m] 35)) w1 := by simpa using hb1
      obtain ⟨c0, c1, c2⟩ := box_cells hb1
      go_wp2_with (go_at_call 71; refine (has_any count n _ _ _).mono ?_; rintro e w2 ⟨rfl, ob, rfl⟩; rw [decide_eq_true hn])
      go_ret
      exact ⟨by rw [HE.out]; rfl, box_below (hb1.alloc (by have := box_size hb1; omega) _)⟩
    · have HE : Hid _ := errS_range ho hn
      go_enter Tryz.func96, Tryz.ntmps96
      go_wp2_with fail
      refine (check_ok _ count data ws _ (HD.out.below (below_alloc w _)) ho).mono ?_
      rintro e w1 ⟨rfl, hb1⟩
      replace hb1 : Below (w.heap.size + 1) (w.alloc (.cells #[.int .i64 count, .slice p data.length c, .slice q ws.length m] 35)) w1 := by simpa using hb1
      obtain ⟨c0, c1, c2⟩ := box_cells hb1
      go_wp2_with (go_at_call 71; refine (has_any count n _ _ _).mono ?_; rintro e w2 ⟨rfl, ob, rfl⟩; rw [decide_eq_false hn])
      go_ret
      exact ⟨by rw [HE.out]; rfl, box_below (hb1.alloc (by have := box_size hb1; omega) _)⟩
  · have HE : Hid _ := errS_bad n ho
    go_enter Tryz.func96, Tryz.ntmps96
    go_wp2_with fail
    refine (check_bad _ count data ws _ (HD.out.below (below_alloc w _)) ho).mono ?_
    rintro e w1 ⟨rfl, hb1⟩
    replace hb1 : Below (w.heap.size + 1) (w.alloc (.cells #[.int .i64 count, .slice p data.length c, .slice q ws.length m] 35)) w1 := by simpa using hb1
    go_wp2
    go_ret
    exact ⟨by rw [HE.out]; rfl, box_below hb1⟩
theorem sector_fails (v : Value) (n : Int) (count : Int) (data : List Nat) (ws : Puts) (w : World) (hd : DiskIn w v count data ws) (er : Int) (he : errS count data ws n = er) :
    Calls Tryz.prog 96 #[v, .int .i64 n] w fun e w' => e = .returned (.int .i64 er) ∧ Below w.heap.size w w' := by
  subst he; exact checkSector_any v n count data ws w hd
def SecNew (w : World) (base : Nat) (v : Value) (xs : List Nat) : Prop := ∃ g, v = .slice (some ⟨g, 0, none⟩) 128 128 ∧ base ≤ g ∧ w.heap[g]? = some (.cells (Bs xs).toArray 5 (0, 0)) ∧ xs.length = 128 ∧ ∀ c ∈ xs, c < 256
theorem secN_mem {data : List Nat} {n : Nat} (h : ∀ c ∈ data, c < 256) : ∀ c ∈ secN data n, c < 256 := fun c hc => h c (List.mem_of_mem_drop (List.mem_of_mem_take hc))
theorem bin_sec {w : World} {b o : Nat} {data : List Nat} (h : BIn w (some ⟨b, o, none⟩) data) (n : Nat) : BIn w (some ⟨b, o + n * 128, none⟩) (secN data n) := by
  refine ⟨fun _ => ⟨b, o + n * 128, rfl, fun i hi => ?_⟩, secN_mem h.2⟩
  have := sec_news h n i (.int .u8 ((secN data n).getD i 0 : Nat)) (by simp [Bs, List.getD, List.getElem?_eq_getElem hi])
  rw [add_plain] at this
  exact this
end Go.Proofs.YtghcmllmbpoidaaGreatDoor
namespace Go.Proofs.YtghcmllmbpoidaaGreatDoor
set_option maxRecDepth 8000
open Go.RowKit Go.WideShapes
theorem nowN_some {data : List Nat} {ws : Puts} {n : Int} {xs : List Nat} (h : nowK ws n ws.length = some xs) : nowN data ws n = xs := by simp [nowN, h]
theorem nowN_none {data : List Nat} {ws : Puts} {n : Nat} (h : nowK ws n ws.length = none) : nowN data ws n = secN data n := by simp [nowN, h]
set_option maxHeartbeats 1000000 in
theorem read_okD (v : Value) (n : Nat) (count : Int) (data : List Nat) (ws : Puts) (w : World) (hd : DiskIn w v count data ws) (ho : Okay count data ws) (hn : (n : Int) < count) :
    Calls Tryz.prog 66 #[v, .int .i64 n] w fun e w' => (∃ v', e = .returned (.tuple #[v', .int .i64 0]) ∧ SecNew w' w.heap.size v' (nowN data ws n)) ∧ Below w.heap.size w w' := by
  obtain ⟨p, c, q, m, rfl, hb, hc, _, _, hqp, _⟩ := hd.parts
  have hlen := ho.len
  have hhi := ho.hi
  have hfew := ho.few
  have hnl : (n + 1) * 128 ≤ data.length := by omega
  have HL : Hid ((secN data n).length = 128) := secN_len hnl
  obtain ⟨b, o, rfl⟩ := hb.addr (by omega)
  have HB : Hid (BIn w (some ⟨b, o, none⟩) data) := hb
  have HQ : Hid (PutsIn w q ws) := hqp
  have HO : Hid _ := ho
  have HD : Hid _ := hd
  have HE : Hid (errS count data ws n = 0) := errS_ok ho ⟨by omega, hn⟩
  clear hd ho hlen hb hqp
  go_enter Tryz.func66, Tryz.ntmps66
  go_wp2_with fail
  refine (sector_fails _ n count data ws _ (HD.out.below (below_alloc w _)) 0 HE.out).mono ?_
  rintro e w1 ⟨rfl, hb1⟩
  replace hb1 : Below (w.heap.size + 1) (w.alloc (.cells #[.int .i64 count, .slice (some ⟨b, o, none⟩) data.length c, .slice q ws.length m] 35)) w1 := by simpa using hb1
  obtain ⟨c0, c1, c2⟩ := box_cells hb1
  go_wp2
  go_loopw [18] (fun i wr => ∃ k : Nat, k ≤ ws.length ∧ i = .int .i64 k ∧ Hid (nowK ws n ws.length = nowK ws n (ws.length - k)) ∧ Below (w.heap.size + 1) (w.alloc (.cells #[.int .i64 count, .slice (some ⟨b, o, none⟩) data.length c, .slice q ws.length m] 35)) wr) (fun i _ => ws.length - (intOf i).toNat)
  case atStart => exact ⟨0, by omega, rfl, rfl, hb1⟩
  case round =>
    obtain ⟨k, hk, rfl, HN, hbk⟩ := hrel
    obtain ⟨r0, r1, r2⟩ := box_cells hbk
    have hz := box_size hbk
    by_cases hkl : k < ws.length
    · have hq := HQ.out.below (box_below hbk)
      obtain ⟨bq, oq, rfl⟩ := hq.addr (by omega)
      obtain ⟨j, hj⟩ : ∃ j, j = ws.length - 1 - k := ⟨_, rfl⟩
      have hjl : j < ws.length := by omega
      obtain ⟨e1, pk, ck, e2, hbi⟩ := hq.at2 hjl
      have hwt := HO.out.wait hjl
      have HK : Hid (nowK ws n (ws.length - k) = if (ws.getD j (0, [])).1 = n then some (ws.getD j (0, [])).2 else nowK ws n j) := by
        show _ = _
        rw [show ws.length - k = j + 1 from by omega]; rfl
      have hidx : (ws.length : Int) - 1 - (k : Int) = (j : Int) := by omega
      have HJ : Hid (ws.length - (k + 1) = j) := by show _ = _; omega
      rw [hwt.2.2] at e2
      generalize ws.getD j (0, []) = y at *
      obtain ⟨s, xs⟩ := y
      simp only at e1 e2 hbi hwt
      have HX : Hid (xs.length = 128) := hwt.2.2
      have HBI : Hid (BIn wr pk xs) := hbi
      clear hwt hbi hq hj
      by_cases hs : s = n
      · have HF : Hid (nowN data ws n = xs) := nowN_some (by rw [HN.out, HK.out]; simp [hs])
        have hsb : (s == (n : Int)) = true := by simpa using hs
        clear hs
        go_wp2_with fail
        refine (copyOf_any pk ck xs _ (HBI.out.alloc _) HX.out).mono ?_
        rintro e w3 ⟨g, rfl, hg1, hg2, hb3⟩
        have hb4 := (box_below (hbk.alloc (by omega) _)).trans (hb3.mono (by simp; omega))
        have hgz : w.heap.size ≤ g := by simp at hg1; omega
        have HG : Hid _ := hg2
        clear hg2 hg1 hb3
        go_wp2
        go_ret2
        refine ⟨⟨_, rfl, ?_⟩, hb4⟩
        rw [HF.out]
        exact ⟨g, rfl, hgz, HG.out, HX.out, HBI.out.2⟩
      · have HF : Hid (nowK ws n ws.length = nowK ws n (ws.length - (k + 1))) := by show _ = _; rw [HN.out, HK.out, HJ.out]; simp [hs]
        have hsb : (s == (n : Int)) = false := by simpa using hs
        clear hs
        go_wp2
        go_roundw
        case rel => exact ⟨k + 1, by omega, by go_num, HF, hbk.alloc (by omega) _⟩
        case measure => simp [intOf]; omega
    · obtain rfl : k = ws.length := by omega
      have HF : Hid (nowN data ws n = secN data n) := nowN_none (by rw [HN.out, Nat.sub_self]; rfl)
      clear HN
      go_wp2_with (go_at_call 72; refine (sector_any b o data.length c n _ (by omega) hnl hc).mono ?_; rintro e w2 ⟨rfl, rfl⟩)
      refine (copyOf_any _ _ (secN data n) _ (bin_sec (HB.out.below (box_below hbk)) n) HL.out).mono ?_
      rintro e w3 ⟨g, rfl, hg1, hg2, hb3⟩
      have hb4 := (box_below hbk).trans (hb3.mono (by omega))
      have HG : Hid _ := hg2
      clear hg2
      go_wp2
      go_ret2
      refine ⟨⟨_, rfl, ?_⟩, hb4⟩
      rw [HF.out]
      exact ⟨g, rfl, by omega, HG.out, HL.out, secN_mem HB.out.2⟩
end Go.Proofs.YtghcmllmbpoidaaGreatDoor
