/-
  Contract of the document's own answer Twin: a disk in new memory.
-/
import Derived.Test.YteabacpalnamdaaRTwin
namespace Go.Proofs.Yteabacpalnamdaa
open Go.RowKit Go.WideShapes
attribute [local go_sem ↓] Go.wp_at_zero Go.wp_at_succ

theorem RowG.set3 {w : World} {base B : Nat} {v : Value} {xs : List Nat} {cs : Array Value} (h : RowG w base v xs) (hB : w.heap[B]? = some (.cells cs 25 (0, 0))) (a b c : Value) :
    RowG (((w.setCell ⟨B, 0, none⟩ a).setCell ⟨B, 1, none⟩ b).setCell ⟨B, 2, none⟩ c) base v xs := by
  refine h.keepB fun k cs' _ e => set3_other w B k a b c ?_
  rintro rfl
  rw [hB] at e
  simp only [Option.some.injEq, Obj.cells.injEq] at e
  exact absurd e.2.1 (by decide)
/-- One write more, and the field that holds them stored. -/
theorem DiskG.pushed {w3 w4 : World} {base B0 : Nat} {count : Int} {dv wv : Value} {data : List Nat} {ws : Puts} {vs : List Value} (h : DiskG w3 base B0 count dv data wv ws vs) {s : Int} {xs : List Nat} {xv : Value} {g' cap' n : Nat} {o : Obj} (hx : RowG w3 base xv xs)
    (hn : n = ws.length + 1) (hown : w4.ownsRow base 51 2 (.slice (some ⟨g', 0, none⟩) n cap') n (cellsV ws vs ++ [.int .i64 s, xv])) (hgrow : (w3.alloc o).grownBy w4 wv.ownBlock) :
    DiskG (w4.setCell ⟨B0, 2, none⟩ (.slice (some ⟨g', 0, none⟩) n cap')) base B0 count dv data (.slice (some ⟨g', 0, none⟩) n cap') (ws ++ [(s, xs)]) (vs ++ [xv]) := by
  subst hn
  have ha := h.below (below_alloc w3 o)
  have P4 := ha.puts.push (hx.below (below_alloc w3 o)) hown hgrow
  have box4 := (hgrow.block _ (lt_heap ha.box) (ha.puts.apart (by decide) ha.box)).trans ha.box
  have D4 : RowG w4 base dv data := ha.data.keepB fun k cur _ e => hgrow.block k (lt_heap e) (ha.puts.apart (by decide) e)
  have hBne : ∀ (k : Nat) (cs : Array Value) (t : TypeId), t ≠ 25 → w4.heap[k]? = some (.cells cs t (0, 0)) → k ≠ B0 := by
    rintro k cs t ht hk rfl
    rw [box4] at hk
    simp only [Option.some.injEq, Obj.cells.injEq] at hk
    exact ht hk.2.1.symm
  refine ⟨?_, h.hB, D4.keepB fun k cur _ e => heap_setCell_other w4 ⟨B0, 2, none⟩ k _ (hBne k _ _ (by decide) e), P4.keepB fun k cur t ht _ e => heap_setCell_other w4 ⟨B0, 2, none⟩ k _ (hBne k _ _ (by rcases ht with rfl | rfl <;> decide) e)⟩
  rw [heap_setCell_same w4 B0 2 _ _ _ box4]
  simp
theorem rowG_at {w : World} {base k : Nat} {v : Value} {ws : Puts} {vs : List Value} (hk : ws.length = k) (h : PutsG w base v ws vs) : w.ownsRow base 51 2 v k (cellsV ws vs) := by
  subst hk; exact h.row
theorem results_cell_one {fn : Func} {p : Tmp} {ty : TypeId} (h : fn.results = #[.cell p ty]) (tmps : Array Value) (P : Program) (w : World) :
    (results fn tmps).run P w = ((asAddr (tmps.getD p undef)).run P w).andThen fun a w₁ => (loadVar ty a).run P w₁ := by
  simp only [results, h]
  simp [Sem.run_bind, Result.andThen]
theorem rowG_oneCell {w : World} {base : Nat} {v : Value} {xs : List Nat} (h : RowG w base v xs) (s : Int) : ∀ u ∈ [Value.int .i64 s, v], u.oneCell' = true := by
  obtain ⟨p, c, rfl, _⟩ := h.form
  exact two_oneCell s p _ c
theorem DiskG.toV {w : World} {base B0 : Nat} {count : Int} {dv wv : Value} {data : List Nat} {ws : Puts} {vs : List Value} (h : DiskG w base B0 count dv data wv ws vs) : DiskV w base (.agg #[.int .i64 count, dv, wv]) count data ws := ⟨⟨dv, wv, vs, rfl, h.data, h.puts⟩⟩

set_option maxRecDepth 4000 in
set_option maxHeartbeats 8000000 in
theorem twin_any (v : Value) (count : Int) (data : List Nat) (ws : Puts) (w : World) (hd : DiskIn w v count data ws) (hdl : data.length ≤ 140737488355328) (hwl : ∀ y ∈ ws, y.2.length ≤ 140737488355328) (hfew : ws.length ≤ 100000) :
    Calls Try.prog 19 #[v] w fun e w' => (∃ v', e = .returned v' ∧ DiskV w' w.heap.size v' count data ws) ∧ Below w.heap.size w w' := by
  obtain ⟨p, c, q, m, rfl, hb, _, _, hpn, hqp, hqm, hqmm, _⟩ := hd.parts
  have HPN : Hid (p = none → c = 0) := hpn
  have HBD : Hid (BIn w p data) := hb
  have HQ : Hid (PutsIn w q ws) := hqp
  have HDL : Hid (data.length ≤ 140737488355328) := hdl
  have HD : Hid _ := hd
  clear hpn hb hqp hdl hd
  have HWL : Hid (∀ y ∈ ws, y.2.length ≤ 140737488355328) := hwl
  clear hwl
  obtain ⟨i0, hi, hz0, hz1, hz2⟩ := info_parts info_put
  go_enter Try.func19, Try.ntmps19
  go_wp2
  obtain ⟨W, hW⟩ : ∃ W, W = (w.alloc (.cells #[.int .i64 count, .slice p data.length c, .slice q ws.length m] 25)).alloc (.cells #[.int .i64 0, .slice none 0 0, .slice none 0 0] 25) := ⟨_, rfl⟩
  have HX : Hid (∀ w', Below (w.heap.size + 2) W w' → w'.heap[w.heap.size]? = some (.cells #[.int .i64 count, .slice p data.length c, .slice q ws.length m] 25 (0, 0)) ∧ w'.heap[w.heap.size + 1]? = some (.cells #[.int .i64 0, .slice none 0 0, .slice none 0 0] 25 (0, 0)) ∧ Below w.heap.size w w' ∧ w.heap.size + 2 ≤ w'.heap.size) := by
    intro w' h
    rw [hW] at h
    exact ⟨(box2_cells h).1, (box2_cells h).2, box2_below h, box2_size h⟩
  have HBW : Hid (∀ w', Below (w.heap.size + 2) W w' → Below w.heap.size w w') := fun w' h => (HX.out w' h).2.2.1
  have HWz : Hid (w.heap.size + 2 ≤ W.heap.size) := by show _ ≤ _; rw [hW]; simp
  have HS1 : (W.drew.cell? ⟨w.heap.size, 0, none⟩ = some (.int .i64 count) ∧ W.drew.cell? ⟨w.heap.size, 1, none⟩ = some (.slice p data.length c) ∧ W.drew.cell? ⟨w.heap.size, 2, none⟩ = some (.slice q ws.length m)) ∧ Hid (Below (w.heap.size + 2) W W.drew) := ⟨cells3 (HX.out _ (Below.refl _ _)).1, (Below.refl _ _).drew⟩
  rw [← hW]
  clear hW
  go_cut [3] from 5 (fun s3 w5 => ∃ B0 pd cd, s3 = .pointer (some ⟨B0, 0, none⟩) ∧ DiskG w5 (w.heap.size + 2) B0 count (.slice pd data.length cd) data (.slice none 0 0) [] [] ∧ Below (w.heap.size + 2) W w5)
  case first =>
    refine wp_region_noPanic ?_
    refine wp_region_held_drew (S := (fun w' => (w'.cell? ⟨w.heap.size, 0, none⟩ = some (.int .i64 count) ∧ w'.cell? ⟨w.heap.size, 1, none⟩ = some (.slice p data.length c) ∧ w'.cell? ⟨w.heap.size, 2, none⟩ = some (.slice q ws.length m)) ∧ Hid (Below (w.heap.size + 2) W w'))) (by kernel_rfl) HS1 (fun hS0 => ?_)
    clear HS1
    refine takeH 0 5 (v := ?_) rfl rfl (by kernel_rfl) (by kernel_rfl) (by kernel_rfl) (fun _ _ _ h => h) (by rfl) ?_ (by assumption) ?_
    rotate_left
    · intro w hSw; go_simp; first | done | with_reducible rfl
    simp only [Act.put, List.setIfInBounds_toArray, List.set_cons_zero, List.set_cons_succ]
    refine takeH 1 6 (v := ?_) rfl rfl (by kernel_rfl) (by kernel_rfl) (by kernel_rfl) (fun _ _ _ h => h) (by rfl) ?_ (by assumption) ?_
    rotate_left
    · intro w hSw; go_simp; first | done | with_reducible rfl
    simp only [Act.put, List.setIfInBounds_toArray, List.set_cons_zero, List.set_cons_succ]
    refine takeH 2 7 (v := ?_) rfl rfl (by kernel_rfl) (by kernel_rfl) (by kernel_rfl) (fun _ _ _ h => h) (by rfl) ?_ (by assumption) ?_
    rotate_left
    · intro w hSw; go_simp; first | done | with_reducible rfl
    simp only [Act.put, List.setIfInBounds_toArray, List.set_cons_zero, List.set_cons_succ]
    refine takeH 3 8 (v := ?_) rfl rfl (by kernel_rfl) (by kernel_rfl) (by kernel_rfl) (fun _ _ _ h => h) (by rfl) ?_ (by assumption) ?_
    rotate_left
    · intro w hSw; go_simp; first | done | with_reducible rfl
    simp only [Act.put, List.setIfInBounds_toArray, List.set_cons_zero, List.set_cons_succ]
    refine wpAnyH_ready (rs := [4, 6]) (by kernel_rfl) (by simp) ?_
    refine AllReadyH.cons rfl (fun K hK => ?_) (AllReadyH.cons rfl (fun K hK => ?_) AllReadyH.nil)
    · go_simp
      refine (rbytes_any p c _ data _ rfl (HBD.out.below (HBW.out _ hS0.2.out)) HPN.out HDL.out).mono ?_
      rintro e ww1 ⟨dv, rfl, hg', hb1⟩
      obtain ⟨pd, cd, rfl, _⟩ := hg'.form
      go_simp
      refine hK.out _ _ (keepS HWz.out hS0 hb1) (fun hS1 => ?_)
      clear hK K
      refine takeH 5 10 (v := ?_) rfl rfl (by kernel_rfl) (by kernel_rfl) (by kernel_rfl) (fun _ _ _ h => h) (by rfl) ?_ (by assumption) ?_
      rotate_left
      · intro w hSw; go_simp; first | done | with_reducible rfl
      simp only [Act.put, List.setIfInBounds_toArray, List.set_cons_zero, List.set_cons_succ]
      refine wpAnyH_ready (rs := [6]) (by kernel_rfl) (by simp) ?_
      refine AllReadyH.cons rfl (fun K hK => ?_) AllReadyH.nil
      have hb2 := below_alloc ww1 (.cells #[.int .i64 0, .slice none 0 0, .slice none 0 0] 25)
      go_simp
      refine hK.out _ _ (keepS HWz.out hS1 hb2) (fun hS2 => ?_)
      clear hK K
      refine wpAnyH_ready (rs := [7]) (by kernel_rfl) (by simp) ?_
      refine AllReadyH.cons rfl (fun K hK => ?_) AllReadyH.nil
      have szB := Nat.le_trans HWz.out hS1.2.out.size
      have szC := Nat.le_trans HWz.out hS0.2.out.size
      go_simp
      refine hK.out _ _ (keepA HWz.out hS1 _) (fun hSz => ?_)
      clear hK K
      refine wpAnyH_done (by kernel_rfl) (NoPanic.normal ?_) _
      go_wp2
      go_meet
      case rel =>
        exact ⟨_, pd, cd, rfl, ⟨heap_alloc_new _ _, szB, (hg'.mono szC).below (below_alloc _ _), putsG_nil _ _⟩, hSz.2.out⟩
    · have hb1 := below_alloc W.drew (.cells #[.int .i64 0, .slice none 0 0, .slice none 0 0] 25)
      go_simp
      refine hK.out _ _ (keepS HWz.out hS0 hb1) (fun hS1 => ?_)
      clear hK K
      refine wpAnyH_ready (rs := [4]) (by kernel_rfl) (by simp) ?_
      refine AllReadyH.cons rfl (fun K hK => ?_) AllReadyH.nil
      go_simp
      refine (rbytes_any p c _ data _ rfl (HBD.out.below (HBW.out _ hS1.2.out)) HPN.out HDL.out).mono ?_
      rintro e ww2 ⟨dv, rfl, hg', hb2⟩
      obtain ⟨pd, cd, rfl, _⟩ := hg'.form
      go_simp
      refine hK.out _ _ (keepS HWz.out hS1 hb2) (fun hS2 => ?_)
      clear hK K
      refine takeH 5 10 (v := ?_) rfl rfl (by kernel_rfl) (by kernel_rfl) (by kernel_rfl) (fun _ _ _ h => h) (by rfl) ?_ (by assumption) ?_
      rotate_left
      · intro w hSw; go_simp; first | done | with_reducible rfl
      simp only [Act.put, List.setIfInBounds_toArray, List.set_cons_zero, List.set_cons_succ]
      refine wpAnyH_ready (rs := [7]) (by kernel_rfl) (by simp) ?_
      refine AllReadyH.cons rfl (fun K hK => ?_) AllReadyH.nil
      have hZ : ww2.heap[W.heap.size]? = some (.cells #[.int .i64 0, .slice none 0 0, .slice none 0 0] 25 (0, 0)) := ((hb2).block _ (by first | (rw [World.size_alloc]; exact Nat.lt_succ_self _) | (show _ < (World.alloc _ _).heap.size; rw [World.size_alloc]; exact Nat.lt_succ_self _))).trans (heap_alloc_new _ _)
      obtain ⟨z0, z1, z2⟩ := cells3 hZ
      obtain ⟨y0, y1, y2⟩ := free3 hZ
      have HZ : Hid _ := hZ
      clear hZ
      have szB := Nat.le_trans HWz.out hS0.2.out.size
      have szC := Nat.le_trans HWz.out hS1.2.out.size
      go_simp
      refine hK.out _ _ (keep3 hS2 ⟨by have := szB; simp at this; omega, szB⟩ _ _ _) (fun hSz => ?_)
      clear hK K
      refine wpAnyH_done (by kernel_rfl) (NoPanic.normal ?_) _
      go_wp2
      go_meet
      case rel =>
        exact ⟨_, pd, cd, rfl, ⟨set3_same _ _ _ _ _ _ _ _ _ HZ.out, szB, (hg'.mono szC).set3 HZ.out _ _ _, putsG_nil _ _⟩, hSz.2.out⟩
  case rest =>
    obtain ⟨B0, pd, cd, rfl, hg0, hbc⟩ := hcut
    have HG0 : Hid _ := hg0
    clear hg0 HS1 HD HBD
    go_wp2
    go_loopw [4] (fun i wr => ∃ k : Nat, ∃ qk mk vk, k ≤ ws.length ∧ i = .int .i64 k ∧ DiskG wr (w.heap.size + 2) B0 count (.slice pd data.length cd) data (.slice qk k mk) (ws.take k) vk ∧ Below (w.heap.size + 2) W wr) (fun i _ => ws.length - (intOf i).toNat)
    case atStart => exact ⟨0, none, 0, [], by omega, rfl, HG0.out, hbc⟩
    case round =>
      obtain ⟨k, qk, mk, vk, hk, rfl, hok, hbk⟩ := hrel
      obtain ⟨hbx, hres, hbw, hsz⟩ := HX.out _ hbk
      obtain ⟨b0, b1, b2⟩ := cells3 hok.box
      obtain ⟨x0, x1, x2⟩ := cells3 hbx
      by_cases hkl : k < ws.length
      · have hq := HQ.out.below hbw
        obtain ⟨b, o, rfl⟩ := hq.addr (by omega)
        obtain ⟨e1, pk, ck, e2, hbi, _, _, hpk⟩ := hq.at hkl
        rw [← Nat.add_assoc] at e2
        have HXL : Hid ((ws.getD k (0, [])).2.length ≤ 140737488355328) := HWL.out _ (getD_mem hkl)
        have HTK : Hid (ws.take (k + 1) = ws.take k ++ [ws.getD k (0, [])]) := take_getD hkl
        have HK : Hid ((ws.take k).length = k) := by show _ = _; simp; omega
        generalize ws.getD k (0, []) = y at *
        obtain ⟨s, xs⟩ := y
        simp only at e1 e2 hbi HXL
        have HBI : Hid (BIn wr pk xs) := hbi
        have HPK : Hid (pk = none → ck = 0) := hpk
        have HOK : Hid (DiskG wr (w.heap.size + 2) B0 count (.slice pd data.length cd) data (.slice qk k mk) (ws.take k) vk) := hok
        have hkk : (0 : Int) ≤ (k : Int) := by omega
        have hkw : (k : Int) < (ws.length : Int) := by omega
        have hob : b < w.heap.size := by
          obtain ⟨e1', _⟩ := HQ.out.at hkl
          exact World.block_lt_of_cell? _ _ e1'
        have HT : Hid (∀ w', Below (w.heap.size + 2) W w' → w'.cell? ⟨w.heap.size, 2, none⟩ = some (.slice (some ⟨b, o, none⟩) ws.length m) ∧ w'.cell? ⟨b, o + k * 2, none⟩ = some (.int .i64 s) ∧ w'.cell? ⟨b, o + k * 2 + 1, none⟩ = some (.slice pk xs.length ck)) := by
          intro w' h
          have hc : ∀ a : Addr, a.block < w.heap.size → w'.cell? a = wr.cell? a := fun a ha => (h.cell (by omega)).trans (hbk.cell (by omega)).symm
          exact ⟨(cells3 (HX.out _ h).1).2.2, by rw [hc _ hob]; exact e1, by rw [hc _ hob]; exact e2⟩
        clear hbi hpk hq hok hbx hres
        go_wp2
        have HT0 := HT.out _ hbk.drew
        have HS : wr.drew.cell? ⟨B0, 2, none⟩ = some (.slice qk k mk) := b2
        clear b0 b1 b2 x0 x1 x2 e1 e2
        refine wp_region_noPanic ?_
        refine beginZ (T := fun w' => w'.cell? ⟨w.heap.size, 2, none⟩ = some (.slice (some ⟨b, o, none⟩) ws.length m) ∧ w'.cell? ⟨b, o + k * 2, none⟩ = some (.int .i64 s) ∧ w'.cell? ⟨b, o + k * 2 + 1, none⟩ = some (.slice pk xs.length ck)) (S := fun w' => w'.cell? ⟨B0, 2, none⟩ = some (.slice qk k mk)) 19 (by kernel_rfl) ?_
        refine takeT 0 18 (v := ?_) rfl rfl (by kernel_rfl) (by kernel_rfl) (by kernel_rfl) (by kernel_rfl) (fun _ _ _ h => h) (by rfl) ?_ (by assumption) (by assumption) ?_
        rotate_left
        · intro w hTw; go_simp; first | done | with_reducible rfl
        simp only [Act.put, List.setIfInBounds_toArray, List.set_cons_zero, List.set_cons_succ]
        refine takeZ 1 19 17 (v := ?_) rfl rfl (by kernel_rfl) (by kernel_rfl) (by kernel_rfl) (by kernel_rfl) (by kernel_rfl) (by kernel_rfl) (by kernel_rfl) (fun _ _ _ h => h) (by rfl) ?_ (by assumption) (by assumption) ?_
        rotate_left
        · intro w hTw hSw; go_simp; first | done | with_reducible rfl
        simp only [Act.put, List.setIfInBounds_toArray, List.set_cons_zero, List.set_cons_succ]
        refine takeT 2 20 (v := ?_) rfl rfl (by kernel_rfl) (by kernel_rfl) (by kernel_rfl) (by kernel_rfl) (fun _ _ _ h => h) (by rfl) ?_ (by assumption) (by assumption) ?_
        rotate_left
        · intro w hTw; go_simp; first | done | with_reducible rfl
        simp only [Act.put, List.setIfInBounds_toArray, List.set_cons_zero, List.set_cons_succ]
        refine takeT 3 21 (v := ?_) rfl rfl (by kernel_rfl) (by kernel_rfl) (by kernel_rfl) (by kernel_rfl) (fun _ _ _ h => h) (by rfl) ?_ (by assumption) (by assumption) ?_
        rotate_left
        · intro w hTw; go_simp; first | done | with_reducible rfl
        simp only [Act.put, List.setIfInBounds_toArray, List.set_cons_zero, List.set_cons_succ]
        refine takeT 4 22 (v := ?_) rfl rfl (by kernel_rfl) (by kernel_rfl) (by kernel_rfl) (by kernel_rfl) (fun _ _ _ h => h) (by rfl) ?_ (by assumption) (by assumption) ?_
        rotate_left
        · intro w hTw; go_simp; first | done | with_reducible rfl
        simp only [Act.put, List.setIfInBounds_toArray, List.set_cons_zero, List.set_cons_succ]
        refine takeT 5 23 (v := ?_) rfl rfl (by kernel_rfl) (by kernel_rfl) (by kernel_rfl) (by kernel_rfl) (fun _ _ _ h => h) (by rfl) ?_ (by assumption) (by assumption) ?_
        rotate_left
        · intro w hTw; go_simp; first | done | with_reducible rfl
        simp only [Act.put, List.setIfInBounds_toArray, List.set_cons_zero, List.set_cons_succ]
        refine takeT 6 24 (v := ?_) rfl rfl (by kernel_rfl) (by kernel_rfl) (by kernel_rfl) (by kernel_rfl) (fun _ _ _ h => h) (by rfl) ?_ (by assumption) (by assumption) ?_
        rotate_left
        · intro w hTw; go_simp; first | done | with_reducible rfl
        simp only [Act.put, List.setIfInBounds_toArray, List.set_cons_zero, List.set_cons_succ]
        refine takeT 7 25 (v := ?_) rfl rfl (by kernel_rfl) (by kernel_rfl) (by kernel_rfl) (by kernel_rfl) (fun _ _ _ h => h) (by rfl) ?_ (by assumption) (by assumption) ?_
        rotate_left
        · intro w hTw; go_simp; first | done | with_reducible rfl
        simp only [Act.put, List.setIfInBounds_toArray, List.set_cons_zero, List.set_cons_succ]
        refine takeT 8 26 (v := ?_) rfl rfl (by kernel_rfl) (by kernel_rfl) (by kernel_rfl) (by kernel_rfl) (fun _ _ _ h => h) (by rfl) ?_ (by assumption) (by assumption) ?_
        rotate_left
        · intro w hTw; go_simp; first | done | with_reducible rfl
        simp only [Act.put, List.setIfInBounds_toArray, List.set_cons_zero, List.set_cons_succ]
        refine takeT 9 27 (v := ?_) rfl rfl (by kernel_rfl) (by kernel_rfl) (by kernel_rfl) (by kernel_rfl) (fun _ _ _ h => h) (by rfl) ?_ (by assumption) (by assumption) ?_
        rotate_left
        · intro w hTw; go_simp; first | done | with_reducible rfl
        simp only [Act.put, List.setIfInBounds_toArray, List.set_cons_zero, List.set_cons_succ]
        refine takeT 10 28 (v := ?_) rfl rfl (by kernel_rfl) (by kernel_rfl) (by kernel_rfl) (by kernel_rfl) (fun _ _ _ h => h) (by rfl) ?_ (by assumption) (by assumption) ?_
        rotate_left
        · intro w hTw; go_simp; first | done | with_reducible rfl
        simp only [Act.put, List.setIfInBounds_toArray, List.set_cons_zero, List.set_cons_succ]
        refine takeT 11 29 (v := ?_) rfl rfl (by kernel_rfl) (by kernel_rfl) (by kernel_rfl) (by kernel_rfl) (fun _ _ _ h => h) (by rfl) ?_ (by assumption) (by assumption) ?_
        rotate_left
        · intro w hTw; go_simp; first | done | with_reducible rfl
        simp only [Act.put, List.setIfInBounds_toArray, List.set_cons_zero, List.set_cons_succ]
        refine takeT 12 30 (v := ?_) rfl rfl (by kernel_rfl) (by kernel_rfl) (by kernel_rfl) (by kernel_rfl) (fun _ _ _ h => h) (by rfl) ?_ (by assumption) (by assumption) ?_
        rotate_left
        · intro w hTw; go_simp; first | done | with_reducible rfl
        simp only [Act.put, List.setIfInBounds_toArray, List.set_cons_zero, List.set_cons_succ]
        refine takeT 13 31 (v := ?_) rfl rfl (by kernel_rfl) (by kernel_rfl) (by kernel_rfl) (by kernel_rfl) (fun _ _ _ h => h) (by rfl) ?_ (by assumption) (by assumption) ?_
        rotate_left
        · intro w hTw; go_simp; first | done | with_reducible rfl
        simp only [Act.put, List.setIfInBounds_toArray, List.set_cons_zero, List.set_cons_succ]
        refine oneZ 14 (by kernel_rfl) rfl (by rfl) (fun K hK => ?_)
        go_simp
        refine (rbytes_any pk ck _ xs _ rfl (show BIn wr.drew pk xs from HBI.out) HPK.out HXL.out).mono ?_
        rintro e w2 ⟨xv, rfl, hxg, hb2⟩
        obtain ⟨px, cx, rfl, _⟩ := hxg.form
        have hbW2 : Below (w.heap.size + 2) W w2 := hbk.trans ((below_undrew hb2).mono hsz)
        go_simp
        refine hK.out _ _ (HT.out _ hbW2) (below_cell_some hb2 HS) (fun hTx hSx => ?_)
        clear hK K HT0 HS
        refine takeT 15 33 (v := ?_) rfl rfl (by kernel_rfl) (by kernel_rfl) (by kernel_rfl) (by kernel_rfl) (fun _ _ _ h => h) (by rfl) ?_ (by assumption) (by assumption) ?_
        rotate_left
        · intro w hTw; go_simp; first | done | with_reducible rfl
        simp only [Act.put, List.setIfInBounds_toArray, List.set_cons_zero, List.set_cons_succ]
        refine oneZ 16 (by kernel_rfl) rfl (by rfl) (fun K hK => ?_)
        go_simp
        refine hK.out _ _ (HT.out _ (hbW2.alloc (by have := hb2.size; simp at *; omega) _)) (below_cell_some (below_alloc w2 _) hSx) (fun hTy hSy => ?_)
        clear hK K hTx hSx
        refine oneZ 17 (by kernel_rfl) rfl (by rfl) (fun K hK => ?_)
        have hok2 := HOK.out.below (below_undrew hb2)
        refine step_append_lies _ (by rfl) (.tmp 19) (.tmp 34) 23 (by rfl) (w.heap.size + 2) 51 i0 _ 2 32 Try.underlying23 hi hz0 hz1 hz2 rfl (by omega) (.slice qk k mk) k (cellsV (ws.take k) vk) (by rfl) (rowG_at HK.out (hok2.puts.below (below_alloc w2 _))) ⟨w2.heap.size, 0, none⟩ 1 1 [.int .i64 s, .slice px xs.length cx] (by rfl) (by rfl) (World.news_of_block (cs := #[.int .i64 s, .slice px xs.length cx]) (t := 51) (fr := (0, 0)) (heap_alloc_new w2 _)) (rowG_oneCell hxg _) (by omega) (by unfold maxLen; omega) (by omega) (by have := hb2.size; rw [World.size_alloc]; simp at *; omega) (w2.heap.size + 1) (by simp) ?_
        intro g' cap' w4 hown4 hgrow hat hlt4
        have hbW4 : Below (w.heap.size + 2) W w4 := (hbW2.alloc (by have := hb2.size; simp at *; omega) _).grown hgrow (by rw [World.size_alloc]; have := hb2.size; simp at *; omega) (fun x hx => (hok2.puts.row.lt x hx).1)
        have HN2 : Hid (some B0 ≠ (Value.slice qk k mk).ownBlock) := HOK.out.puts.apart (by decide) HOK.out.box
        refine hK.out _ _ (HT.out _ hbW4) (hgrow.cell hSy HN2.out) (fun hTx hSx => ?_)
        clear hK K hTy hSy hat hlt4
        show wpAnyZ _ _ _ _ _ _ _ _ _ (Act.put _ (some 35) _) _
        simp only [Act.put, List.setIfInBounds_toArray, List.set_cons_zero, List.set_cons_succ]
        refine takeT 18 36 (v := ?_) rfl rfl (by kernel_rfl) (by kernel_rfl) (by kernel_rfl) (by kernel_rfl) (fun _ _ _ h => h) (by rfl) ?_ (by assumption) (by assumption) ?_
        rotate_left
        · intro w hTw; go_simp; first | done | with_reducible rfl
        simp only [Act.put, List.setIfInBounds_toArray, List.set_cons_zero, List.set_cons_succ]
        refine lastZ (by kernel_rfl) rfl (by rfl) (fun K hK => ?_)
        have hpd := hok2.pushed (s := s) (n := k + 1) (hxg.mono (show w.heap.size + 2 ≤ wr.drew.heap.size from hsz)) (by rw [HK.out]) hown4 hgrow
        have hbx : w4.heap[B0]? = some (.cells #[.int .i64 count, .slice pd data.length cd, .slice qk k mk] 25 (0, 0)) := (hgrow.block _ (by have := lt_heap hok2.box; rw [World.size_alloc]; omega) HN2.out).trans (((below_alloc w2 _).block _ (lt_heap hok2.box)).trans hok2.box)
        have hfr := frozen_of_row w4 B0 2 _ _ hbx
        have HPD : Hid _ := hpd
        clear hbx hpd
        go_simp
        refine hK.out _ _ (HT.out _ (hbW4.setCell HOK.out.hB _)) ?_
        clear hK K
        refine doneZ (by kernel_rfl) (NoPanic.normal ?_) _
        go_wp2
        go_roundw
        case rel => exact ⟨k + 1, _, _, vk ++ [_], by omega, by go_num, by rw [HTK.out]; exact HPD.out, hbW4.setCell HOK.out.hB _⟩
        case measure => simp [intOf]; omega
      · obtain rfl : k = ws.length := by omega
        rw [List.take_length] at hok
        have HV : Hid (DiskV wr w.heap.size (.agg #[.int .i64 count, .slice pd data.length cd, .slice qk ws.length mk]) count data ws) := hok.toV.mono (by omega)
        obtain ⟨r0, r1, r2⟩ := cells3 hres
        obtain ⟨f0, f1, f2⟩ := free3 hres
        have HR : Hid _ := hres
        clear hok hres hbx HG0
        go_wp2
        (try simp only [Exit.inBlock, Exit.then])
        refine bodyPost_ret (v := .agg #[.int .i64 count, .slice pd data.length cd, .slice qk ws.length mk]) ?_ rfl ⟨⟨_, rfl, HV.out.set3 HR.out _ _ _⟩, set3_below hbw (by omega) _ _ _⟩
        rw [results_cell_one rfl]
        go_simp
end Go.Proofs.Yteabacpalnamdaa
