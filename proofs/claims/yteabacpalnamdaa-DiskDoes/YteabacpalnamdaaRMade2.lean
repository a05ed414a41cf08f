/-
  Contract of the document's own 'made'.
-/
import Derived.Test.YteabacpalnamdaaRMade
namespace Go.Proofs.Yteabacpalnamdaa
open Go.RowKit Go.WideShapes
attribute [local go_sem ↓] Go.wp_at_zero Go.wp_at_succ

theorem DiskG.setAt {w : World} {base B0 : Nat} {count : Int} {g cap n : Nat} {data : List Nat} (h : DiskG w base B0 count (.slice (some ⟨g, 0, none⟩) n cap) data (.slice none 0 0) [] []) (i b : Nat) (hb : b < 256) :
    DiskG (w.setCell ⟨g, i, none⟩ (.int .u8 b)) base B0 count (.slice (some ⟨g, 0, none⟩) n cap) (data.set i b) (.slice none 0 0) [] [] := by
  refine ⟨?_, h.hB, h.data.setAt i b hb, putsG_nil _ _⟩
  rcases h.data.own.2 with ⟨hv, _⟩ | ⟨g', cap', cur, hv, _, hh, _⟩
  · cases hv
  · simp only [Value.slice.injEq, Option.some.injEq, Addr.mk.injEq, and_true] at hv
    obtain ⟨rfl, _⟩ := hv
    refine (heap_setCell_other w ⟨g, i, none⟩ B0 _ ?_).trans h.box
    rintro rfl
    have := h.box
    rw [hh] at this
    simp only [Option.some.injEq, Obj.cells.injEq] at this
    exact absurd this.2.1 (by decide)
theorem DiskG.gle {w : World} {base B0 : Nat} {count : Int} {g cap n : Nat} {data : List Nat} {wv : Value} {ws : Puts} {vs : List Value} (h : DiskG w base B0 count (.slice (some ⟨g, 0, none⟩) n cap) data wv ws vs) : base ≤ g ∧ (∀ i, w.frozen? ⟨g, i, none⟩ = false) ∧ ∀ i, i < data.length → ∃ u, w.cell? ⟨g, i, none⟩ = some u := by
  rcases h.data.own.2 with ⟨hv, _⟩ | ⟨g', cap', cur, hv, hb, hh, hle, _, hsz, _⟩
  · cases hv
  · simp only [Value.slice.injEq, Option.some.injEq, Addr.mk.injEq, and_true] at hv
    obtain ⟨rfl, _⟩ := hv
    refine ⟨hb, fun i => frozen_of_row w g i _ _ hh, fun i hi => ⟨cur[i]'(by omega), ?_⟩⟩
    rw [cell_of_row w g i _ _ _ hh]
    exact Array.getElem?_eq_getElem _

set_option maxRecDepth 8000 in
set_option maxHeartbeats 8000000 in
theorem made_any (v : Value) (count : Int) (data : List Nat) (ws : Puts) (w : World) (hd : DiskIn w v count data ws) (ho : Okay count data ws) (all : Bool) (ql : Option Addr) (ml : Nat) (keep : List Bool) (hl : BoolsIn w ql keep) (hll : keep.length ≤ 9223372036854775807) :
    Calls Try.prog 46 #[v, .bool all, .slice ql keep.length ml] w fun e w' => (∃ v', e = .returned v' ∧ DiskV w' w.heap.size v' count (crashN data ws (keptL all keep ws.length)) []) ∧ Below w.heap.size w w' := by
  have hfew := ho.few
  have hlo := ho.lo
  have hhi := ho.hi
  have hlen := ho.len
  have hdl : data.length ≤ 140737488355328 := by omega
  have HO : Hid (Okay count data ws) := ho
  have HL : Hid (BoolsIn w ql keep) := hl
  clear ho hl
  obtain ⟨p, c, q, m, rfl, hb, _, _, hpn, hqp, hqm, hqmm, _⟩ := hd.parts
  have HPN : Hid (p = none → c = 0) := hpn
  have HBD : Hid (BIn w p data) := hb
  have HQ : Hid (PutsIn w q ws) := hqp
  have HDL : Hid (data.length ≤ 140737488355328) := hdl
  have HD : Hid _ := hd
  clear hpn hb hqp hdl hd
  go_enter Try.func46, Try.ntmps46
  go_wp2
  obtain ⟨W, hW⟩ : ∃ W, W = (w.alloc (.cells #[.int .i64 count, .slice p data.length c, .slice q ws.length m] 25)).alloc (.cells #[.int .i64 0, .slice none 0 0, .slice none 0 0] 25) := ⟨_, rfl⟩
  have HX : Hid (∀ w', Below (w.heap.size + 2) W w' → w'.heap[w.heap.size]? = some (.cells #[.int .i64 count, .slice p data.length c, .slice q ws.length m] 25 (0, 0)) ∧ w'.heap[w.heap.size + 1]? = some (.cells #[.int .i64 0, .slice none 0 0, .slice none 0 0] 25 (0, 0)) ∧ Below w.heap.size w w' ∧ w.heap.size + 2 ≤ w'.heap.size) := by
    intro w' h
    rw [hW] at h
    exact ⟨(box2_cells h).1, (box2_cells h).2, box2_below h, box2_size h⟩
  have HBW : Hid (∀ w', Below (w.heap.size + 2) W w' → Below w.heap.size w w') := fun w' h => (HX.out w' h).2.2.1
  have HWz : Hid (w.heap.size + 2 ≤ W.heap.size) := by show _ ≤ _; rw [hW]; simp
  have HS1 : (W.drew.cell? ⟨w.heap.size, 0, none⟩ = some (.int .i64 count) ∧ W.drew.cell? ⟨w.heap.size, 1, none⟩ = some (.slice p data.length c) ∧ W.drew.cell? ⟨w.heap.size, 2, none⟩ = some (.slice q ws.length m)) ∧ Hid (Below (w.heap.size + 2) W W.drew) := ⟨cells3 (HX.out _ (Below.refl _ _)).1, (Below.refl _ _).drew⟩
  rw [← hW]
  clear hW
  go_cut [7] from 10 (fun s3 w5 => ∃ B0 pd cd, s3 = .pointer (some ⟨B0, 0, none⟩) ∧ DiskG w5 (w.heap.size + 2) B0 count (.slice pd data.length cd) data (.slice none 0 0) [] [] ∧ Below (w.heap.size + 2) W w5)
  case first =>
    refine wp_region_noPanic ?_
    refine wp_region_held_drew (S := (fun w' => (w'.cell? ⟨w.heap.size, 0, none⟩ = some (.int .i64 count) ∧ w'.cell? ⟨w.heap.size, 1, none⟩ = some (.slice p data.length c) ∧ w'.cell? ⟨w.heap.size, 2, none⟩ = some (.slice q ws.length m)) ∧ Hid (Below (w.heap.size + 2) W w'))) (by kernel_rfl) HS1 (fun hS0 => ?_)
    clear HS1
    refine takeH 0 10 (v := ?_) rfl rfl (by kernel_rfl) (by kernel_rfl) (by kernel_rfl) (fun _ _ _ h => h) (by rfl) ?_ (by assumption) ?_
    rotate_left
    · intro w hSw; go_simp; first | done | with_reducible rfl
    simp only [Act.put, List.setIfInBounds_toArray, List.set_cons_zero, List.set_cons_succ]
    refine takeH 1 11 (v := ?_) rfl rfl (by kernel_rfl) (by kernel_rfl) (by kernel_rfl) (fun _ _ _ h => h) (by rfl) ?_ (by assumption) ?_
    rotate_left
    · intro w hSw; go_simp; first | done | with_reducible rfl
    simp only [Act.put, List.setIfInBounds_toArray, List.set_cons_zero, List.set_cons_succ]
    refine takeH 2 12 (v := ?_) rfl rfl (by kernel_rfl) (by kernel_rfl) (by kernel_rfl) (fun _ _ _ h => h) (by rfl) ?_ (by assumption) ?_
    rotate_left
    · intro w hSw; go_simp; first | done | with_reducible rfl
    simp only [Act.put, List.setIfInBounds_toArray, List.set_cons_zero, List.set_cons_succ]
    refine takeH 3 13 (v := ?_) rfl rfl (by kernel_rfl) (by kernel_rfl) (by kernel_rfl) (fun _ _ _ h => h) (by rfl) ?_ (by assumption) ?_
    rotate_left
    · intro w hSw; go_simp; first | done | with_reducible rfl
    simp only [Act.put, List.setIfInBounds_toArray, List.set_cons_zero, List.set_cons_succ]
    refine wpAnyH_ready (rs := [4, 6]) (by kernel_rfl) (by simp) ?_
    refine AllReadyH.cons rfl (fun K hK => ?_) (AllReadyH.cons rfl (fun K hK => ?_) AllReadyH.nil)
    · go_simp
      refine (rbytes_any p c _ data _ rfl (HBD.out.below (HBW.out _ hS0.2.out)) HPN.out HDL.out).mono ?_
      rintro e ww1 ⟨dv, rfl, hg', hb1⟩
      obtain ⟨pd, cd, rfl, _⟩ := hg'.form
      go_simp
      refine hK.out _ _ (keepS HWz.out hS0 hb1) (fun hS1 => ?_)
      clear hK K
      refine takeH 5 15 (v := ?_) rfl rfl (by kernel_rfl) (by kernel_rfl) (by kernel_rfl) (fun _ _ _ h => h) (by rfl) ?_ (by assumption) ?_
      rotate_left
      · intro w hSw; go_simp; first | done | with_reducible rfl
      simp only [Act.put, List.setIfInBounds_toArray, List.set_cons_zero, List.set_cons_succ]
      refine wpAnyH_ready (rs := [6]) (by kernel_rfl) (by simp) ?_
      refine AllReadyH.cons rfl (fun K hK => ?_) AllReadyH.nil
      have hb2 := below_alloc ww1 (.cells #[.int .i64 0, .slice none 0 0, .slice none 0 0] 25)
      go_simp
      refine hK.out _ _ (keepS HWz.out hS1 hb2) (fun hS2 => ?_)
      clear hK K
      refine wpAnyH_ready (rs := [7]) (by kernel_rfl) (by simp) ?_
      refine AllReadyH.cons rfl (fun K hK => ?_) AllReadyH.nil
      have szB := Nat.le_trans HWz.out hS1.2.out.size
      have szC := Nat.le_trans HWz.out hS0.2.out.size
      go_simp
      refine hK.out _ _ (keepA HWz.out hS1 _) (fun hSz => ?_)
      clear hK K
      refine wpAnyH_done (by kernel_rfl) (NoPanic.normal ?_) _
      go_wp2
      go_meet
      case rel =>
        exact ⟨_, pd, cd, rfl, ⟨heap_alloc_new _ _, szB, (hg'.mono szC).below (below_alloc _ _), putsG_nil _ _⟩, hSz.2.out⟩
    · have hb1 := below_alloc W.drew (.cells #[.int .i64 0, .slice none 0 0, .slice none 0 0] 25)
      go_simp
      refine hK.out _ _ (keepS HWz.out hS0 hb1) (fun hS1 => ?_)
      clear hK K
      refine wpAnyH_ready (rs := [4]) (by kernel_rfl) (by simp) ?_
      refine AllReadyH.cons rfl (fun K hK => ?_) AllReadyH.nil
      go_simp
      refine (rbytes_any p c _ data _ rfl (HBD.out.below (HBW.out _ hS1.2.out)) HPN.out HDL.out).mono ?_
      rintro e ww2 ⟨dv, rfl, hg', hb2⟩
      obtain ⟨pd, cd, rfl, _⟩ := hg'.form
      go_simp
      refine hK.out _ _ (keepS HWz.out hS1 hb2) (fun hS2 => ?_)
      clear hK K
      refine takeH 5 15 (v := ?_) rfl rfl (by kernel_rfl) (by kernel_rfl) (by kernel_rfl) (fun _ _ _ h => h) (by rfl) ?_ (by assumption) ?_
      rotate_left
      · intro w hSw; go_simp; first | done | with_reducible rfl
      simp only [Act.put, List.setIfInBounds_toArray, List.set_cons_zero, List.set_cons_succ]
      refine wpAnyH_ready (rs := [7]) (by kernel_rfl) (by simp) ?_
      refine AllReadyH.cons rfl (fun K hK => ?_) AllReadyH.nil
      have hZ : ww2.heap[W.heap.size]? = some (.cells #[.int .i64 0, .slice none 0 0, .slice none 0 0] 25 (0, 0)) := ((hb2).block _ (by first | (rw [World.size_alloc]; exact Nat.lt_succ_self _) | (show _ < (World.alloc _ _).heap.size; rw [World.size_alloc]; exact Nat.lt_succ_self _))).trans (heap_alloc_new _ _)
      obtain ⟨z0, z1, z2⟩ := cells3 hZ
      obtain ⟨y0, y1, y2⟩ := free3 hZ
      have HZ : Hid _ := hZ
      clear hZ
      have szB := Nat.le_trans HWz.out hS0.2.out.size
      have szC := Nat.le_trans HWz.out hS1.2.out.size
      go_simp
      refine hK.out _ _ (keep3 hS2 ⟨by have := szB; simp at this; omega, szB⟩ _ _ _) (fun hSz => ?_)
      clear hK K
      refine wpAnyH_done (by kernel_rfl) (NoPanic.normal ?_) _
      go_wp2
      go_meet
      case rel =>
        exact ⟨_, pd, cd, rfl, ⟨set3_same _ _ _ _ _ _ _ _ _ HZ.out, szB, (hg'.mono szC).set3 HZ.out _ _ _, putsG_nil _ _⟩, hSz.2.out⟩
  case rest =>
    obtain ⟨B0, pd, cd, rfl, hg0, hbc⟩ := hcut
    clear HS1 HD HBD
    obtain ⟨g, rfl⟩ : ∃ g, pd = some ⟨g, 0, none⟩ := by
      rcases hg0.data.own.2 with ⟨hv, hn⟩ | ⟨g, cap, cur, hv, _⟩
      · omega
      · simp only [Value.slice.injEq] at hv
        exact ⟨g, hv.1⟩
    have HG0 : Hid _ := hg0
    clear hg0
    go_wp2
    go_loopw [8, 9] (fun i k9 wr => ∃ k : Nat, k ≤ ws.length ∧ i = .int .i64 k ∧ DiskG wr (w.heap.size + 2) B0 count (.slice (some ⟨g, 0, none⟩) data.length cd) (crashK data ws (keptL all keep ws.length) k) (.slice none 0 0) [] [] ∧ Below (w.heap.size + 2) W wr) (fun i _ _ => ws.length - (intOf i).toNat)
    case atStart => exact ⟨0, by omega, rfl, HG0.out, hbc⟩
    case round =>
      obtain ⟨k, hk, rfl, hok, hbk⟩ := hrel
      obtain ⟨hbx, hres, hbw, hsz⟩ := HX.out _ hbk
      obtain ⟨b0, b1, b2⟩ := cells3 hok.box
      obtain ⟨x0, x1, x2⟩ := cells3 hbx
      have hDl := crashK_len HO.out (keptL all keep ws.length) k hk
      by_cases hkl : k < ws.length
      · have hka := kept_at all keep ws.length k hkl
        have HY : Hid ((keptL all keep ws.length).getD k false = true → crashK data ws (keptL all keep ws.length) (k + 1) = putS (crashK data ws (keptL all keep ws.length) k) (ws.getD k (0, []))) := fun h => crashK_yes h
        have HN : Hid ((keptL all keep ws.length).getD k false = false → crashK data ws (keptL all keep ws.length) (k + 1) = crashK data ws (keptL all keep ws.length) k) := fun h => crashK_no h
        have hby := puts_bytes HQ.out _ (getD_mem hkl)
        obtain ⟨hs0, hs1, hyl⟩ := HO.out.wait hkl
        obtain ⟨b, o, rfl⟩ := HQ.out.addr (by omega)
        obtain ⟨e1, pk, ck, e2, hbi, hyc, hcm, _⟩ := HQ.out.at hkl
        rw [← Nat.add_assoc] at e2
        generalize ws.getD k (0, []) = y at *
        obtain ⟨s, ys⟩ := y
        simp only at hby hs0 hs1 hyl e1 e2 hbi hyc
        obtain ⟨sn, rfl⟩ := Int.eq_ofNat_of_zero_le hs0
        rw [hyl] at e2
        obtain ⟨pb, po, rfl, hcell⟩ := hbi.1 (by omega)
        have HOK : Hid _ := hok
        have HT : Hid (∀ (j : Nat) (w' : World), j < 128 → Below (w.heap.size + 2) W w' → w'.cell? ⟨w.heap.size, 2, none⟩ = some (.slice (some ⟨b, o, none⟩) ws.length m) ∧ w'.cell? ⟨b, o + k * 2, none⟩ = some (.int .i64 (sn : Int)) ∧ w'.cell? ⟨b, o + k * 2 + 1, none⟩ = some (.slice (some ⟨pb, po, none⟩) 128 ck) ∧ w'.cell? ⟨pb, po + j, none⟩ = some (.int .u8 (ys.getD j 0 : Nat))) := by
          intro j w' hj h
          have hw' := (HX.out _ h).2.2.1
          have hc : ∀ (a : Addr) (u : Value), w.cell? a = some u → w'.cell? a = some u := fun a u ha => (hw'.cell (World.block_lt_of_cell? _ _ ha)).trans ha
          exact ⟨(cells3 (HX.out _ h).1).2.2, hc _ _ e1, hc _ _ e2, hc _ _ (by simpa using hcell j (by omega))⟩
        clear hbi hcell hok hbx hres e1 e2 b0 b1 b2 x0 x1
        cases all with
        | true =>
          have hke : (keptL true keep ws.length).getD k false = true := by rw [hka]; rfl
          go_wp2
          go_loopw [9] (fun i wr => ∃ j : Nat, j ≤ 128 ∧ i = .int .i64 j ∧ DiskG wr (w.heap.size + 2) B0 count (.slice (some ⟨g, 0, none⟩) data.length cd) (splice (crashK data ws (keptL true keep ws.length) k) (sn * 128) (ys.take j)) (.slice none 0 0) [] [] ∧ Below (w.heap.size + 2) W wr) (fun i _ => 128 - (intOf i).toNat)
          case atStart => exact ⟨0, by omega, rfl, by rw [List.take_zero, splice_zero]; exact HOK.out, hbk⟩
          case round =>
            obtain ⟨j, hj, rfl, hok2, hbj⟩ := hrel
            by_cases hj1 : j < 128
            · have hT := HT.out j _ hj1 hbj.drew
              obtain ⟨_, b1, _⟩ := cells3 hok2.box
              have HT0 : wr.drew.cell? ⟨w.heap.size, 2, none⟩ = some (.slice (some ⟨b, o, none⟩) ws.length m) ∧ wr.drew.cell? ⟨b, o + k * 2, none⟩ = some (.int .i64 (sn : Int)) ∧ wr.drew.cell? ⟨b, o + k * 2 + 1, none⟩ = some (.slice (some ⟨pb, po, none⟩) 128 ck) ∧ wr.drew.cell? ⟨B0, 1, none⟩ = some (.slice (some ⟨g, 0, none⟩) data.length cd) ∧ wr.drew.cell? ⟨pb, po + j, none⟩ = some (.int .u8 (ys.getD j 0 : Nat)) := ⟨hT.1, hT.2.1, hT.2.2.1, b1, hT.2.2.2⟩
              have HS0 : True := trivial
              have hyb : ys.getD j 0 < 256 := hby _ (by rw [List.getD_eq_getElem?_getD, List.getElem?_eq_getElem (by omega)]; exact List.getElem_mem _)
              have HST : Hid _ := hok2.setAt (sn * 128 + j) (ys.getD j 0) hyb
              obtain ⟨hgle, hfz, hcs⟩ := hok2.gle
              have hln : (splice (crashK data ws (keptL true keep ws.length) k) (sn * 128) (ys.take j)).length = data.length := by rw [length_splice _ _ _ (by rw [List.length_take]; omega)]; exact hDl
              obtain ⟨old, hold⟩ := hcs (sn * 128 + j) (by omega)
              have hfr := hfz (sn * 128 + j)
              have HSP : Hid _ := splice_step (crashK data ws (keptL true keep ws.length) k) (sn * 128) ys j (by omega) (by omega)
              have HB2 : Hid (Below (w.heap.size + 2) W (wr.setCell ⟨g, sn * 128 + j, none⟩ (.int .u8 (ys.getD j 0 : Nat)))) := hbj.setCell hgle _
              have hkk0 : (0 : Int) ≤ (k : Int) := by omega
              have hkw : (k : Int) < (ws.length : Int) := by omega
              have hjj : (0 : Int) ≤ (j : Int) := by omega
              have hj8 : (j : Int) < 128 := by omega
              have hi0 : (0 : Int) ≤ (sn : Int) * 128 + (j : Int) := by omega
              have hi1 : (sn : Int) * 128 + (j : Int) < (data.length : Int) := by omega
              have hi2 : ((sn : Int) * 128 + (j : Int)).toNat = sn * 128 + j := by omega
              have hi3 : (sn : Int) * 128 + (j : Int) < count * 128 := by omega
              have hw1 : IntKind.i64.wrap ((sn : Int) * 128) = (sn : Int) * 128 := by simp [IntKind.wrap, IntKind.bits, IntKind.signed]; omega
              have hw2 : IntKind.i64.wrap ((sn : Int) * 128 + (j : Int)) = (sn : Int) * 128 + (j : Int) := by simp [IntKind.wrap, IntKind.bits, IntKind.signed]; omega
              have HT2 : Hid ((wr.setCell ⟨g, sn * 128 + j, none⟩ (.int .u8 (ys.getD j 0 : Nat))).drew.cell? ⟨w.heap.size, 2, none⟩ = some (.slice (some ⟨b, o, none⟩) ws.length m) ∧ (wr.setCell ⟨g, sn * 128 + j, none⟩ (.int .u8 (ys.getD j 0 : Nat))).drew.cell? ⟨b, o + k * 2, none⟩ = some (.int .i64 (sn : Int)) ∧ (wr.setCell ⟨g, sn * 128 + j, none⟩ (.int .u8 (ys.getD j 0 : Nat))).drew.cell? ⟨b, o + k * 2 + 1, none⟩ = some (.slice (some ⟨pb, po, none⟩) 128 ck) ∧ (wr.setCell ⟨g, sn * 128 + j, none⟩ (.int .u8 (ys.getD j 0 : Nat))).drew.cell? ⟨B0, 1, none⟩ = some (.slice (some ⟨g, 0, none⟩) data.length cd) ∧ (wr.setCell ⟨g, sn * 128 + j, none⟩ (.int .u8 (ys.getD j 0 : Nat))).drew.cell? ⟨pb, po + j, none⟩ = some (.int .u8 (ys.getD j 0 : Nat))) := ⟨(HT.out j _ hj1 HB2.out.drew).1, (HT.out j _ hj1 HB2.out.drew).2.1, (HT.out j _ hj1 HB2.out.drew).2.2.1, (cells3 HST.out.box).2.1, (HT.out j _ hj1 HB2.out.drew).2.2.2⟩
              clear hok2 hfz hT b1 hcs hln
              generalize hyg : ys.getD j 0 = yb at *
              go_wp2
              refine wp_region_noPanic ?_
              refine beginZ (T := fun w' => w'.cell? ⟨w.heap.size, 2, none⟩ = some (.slice (some ⟨b, o, none⟩) ws.length m) ∧ w'.cell? ⟨b, o + k * 2, none⟩ = some (.int .i64 (sn : Int)) ∧ w'.cell? ⟨b, o + k * 2 + 1, none⟩ = some (.slice (some ⟨pb, po, none⟩) 128 ck) ∧ w'.cell? ⟨B0, 1, none⟩ = some (.slice (some ⟨g, 0, none⟩) data.length cd) ∧ w'.cell? ⟨pb, po + j, none⟩ = some (.int .u8 (yb : Nat))) (S := fun _ => True) 21 (by kernel_rfl) ?_
              refine takeT 0 40 (v := ?_) rfl rfl (by kernel_rfl) (by kernel_rfl) (by kernel_rfl) (by kernel_rfl) (fun _ _ _ h => h) (by rfl) ?_ (by assumption) (by assumption) ?_
              rotate_left
              · intro w hTw; go_simp; first | done | with_reducible rfl
              simp only [Act.put, List.setIfInBounds_toArray, List.set_cons_zero, List.set_cons_succ]
              refine takeT 1 41 (v := ?_) rfl rfl (by kernel_rfl) (by kernel_rfl) (by kernel_rfl) (by kernel_rfl) (fun _ _ _ h => h) (by rfl) ?_ (by assumption) (by assumption) ?_
              rotate_left
              · intro w hTw; go_simp; first | done | with_reducible rfl
              simp only [Act.put, List.setIfInBounds_toArray, List.set_cons_zero, List.set_cons_succ]
              refine takeT 2 42 (v := ?_) rfl rfl (by kernel_rfl) (by kernel_rfl) (by kernel_rfl) (by kernel_rfl) (fun _ _ _ h => h) (by rfl) ?_ (by assumption) (by assumption) ?_
              rotate_left
              · intro w hTw; go_simp; first | done | with_reducible rfl
              simp only [Act.put, List.setIfInBounds_toArray, List.set_cons_zero, List.set_cons_succ]
              refine takeT 3 43 (v := ?_) rfl rfl (by kernel_rfl) (by kernel_rfl) (by kernel_rfl) (by kernel_rfl) (fun _ _ _ h => h) (by rfl) ?_ (by assumption) (by assumption) ?_
              rotate_left
              · intro w hTw; go_simp; first | done | with_reducible rfl
              simp only [Act.put, List.setIfInBounds_toArray, List.set_cons_zero, List.set_cons_succ]
              refine takeT 4 44 (v := ?_) rfl rfl (by kernel_rfl) (by kernel_rfl) (by kernel_rfl) (by kernel_rfl) (fun _ _ _ h => h) (by rfl) ?_ (by assumption) (by assumption) ?_
              rotate_left
              · intro w hTw; go_simp; first | done | with_reducible rfl
              simp only [Act.put, List.setIfInBounds_toArray, List.set_cons_zero, List.set_cons_succ]
              refine takeT 5 45 (v := ?_) rfl rfl (by kernel_rfl) (by kernel_rfl) (by kernel_rfl) (by kernel_rfl) (fun _ _ _ h => h) (by rfl) ?_ (by assumption) (by assumption) ?_
              rotate_left
              · intro w hTw; go_simp; first | done | with_reducible rfl
              simp only [Act.put, List.setIfInBounds_toArray, List.set_cons_zero, List.set_cons_succ]
              refine takeT 6 46 (v := ?_) rfl rfl (by kernel_rfl) (by kernel_rfl) (by kernel_rfl) (by kernel_rfl) (fun _ _ _ h => h) (by rfl) ?_ (by assumption) (by assumption) ?_
              rotate_left
              · intro w hTw; go_simp; first | done | with_reducible rfl
              simp only [Act.put, List.setIfInBounds_toArray, List.set_cons_zero, List.set_cons_succ]
              refine takeT 7 47 (v := ?_) rfl rfl (by kernel_rfl) (by kernel_rfl) (by kernel_rfl) (by kernel_rfl) (fun _ _ _ h => h) (by rfl) ?_ (by assumption) (by assumption) ?_
              rotate_left
              · intro w hTw; go_simp; first | done | with_reducible rfl
              simp only [Act.put, List.setIfInBounds_toArray, List.set_cons_zero, List.set_cons_succ]
              refine takeT 8 48 (v := ?_) rfl rfl (by kernel_rfl) (by kernel_rfl) (by kernel_rfl) (by kernel_rfl) (fun _ _ _ h => h) (by rfl) ?_ (by assumption) (by assumption) ?_
              rotate_left
              · intro w hTw; go_simp; first | done | with_reducible rfl
              simp only [Act.put, List.setIfInBounds_toArray, List.set_cons_zero, List.set_cons_succ]
              refine takeT 9 49 (v := ?_) rfl rfl (by kernel_rfl) (by kernel_rfl) (by kernel_rfl) (by kernel_rfl) (fun _ _ _ h => h) (by rfl) ?_ (by assumption) (by assumption) ?_
              rotate_left
              · intro w hTw; go_simp; first | done | with_reducible rfl
              simp only [Act.put, List.setIfInBounds_toArray, List.set_cons_zero, List.set_cons_succ]
              refine takeT 10 50 (v := ?_) rfl rfl (by kernel_rfl) (by kernel_rfl) (by kernel_rfl) (by kernel_rfl) (fun _ _ _ h => h) (by rfl) ?_ (by assumption) (by assumption) ?_
              rotate_left
              · intro w hTw; go_simp; first | done | with_reducible rfl
              simp only [Act.put, List.setIfInBounds_toArray, List.set_cons_zero, List.set_cons_succ]
              refine takeT 11 51 (v := ?_) rfl rfl (by kernel_rfl) (by kernel_rfl) (by kernel_rfl) (by kernel_rfl) (fun _ _ _ h => h) (by rfl) ?_ (by assumption) (by assumption) ?_
              rotate_left
              · intro w hTw; go_simp; first | done | with_reducible rfl
              simp only [Act.put, List.setIfInBounds_toArray, List.set_cons_zero, List.set_cons_succ]
              refine takeT 12 52 (v := ?_) rfl rfl (by kernel_rfl) (by kernel_rfl) (by kernel_rfl) (by kernel_rfl) (fun _ _ _ h => h) (by rfl) ?_ (by assumption) (by assumption) ?_
              rotate_left
              · intro w hTw; go_simp; first | done | with_reducible rfl
              simp only [Act.put, List.setIfInBounds_toArray, List.set_cons_zero, List.set_cons_succ]
              refine takeT 13 53 (v := ?_) rfl rfl (by kernel_rfl) (by kernel_rfl) (by kernel_rfl) (by kernel_rfl) (fun _ _ _ h => h) (by rfl) ?_ (by assumption) (by assumption) ?_
              rotate_left
              · intro w hTw; go_simp; first | done | with_reducible rfl
              simp only [Act.put, List.setIfInBounds_toArray, List.set_cons_zero, List.set_cons_succ]
              refine takeT 14 54 (v := ?_) rfl rfl (by kernel_rfl) (by kernel_rfl) (by kernel_rfl) (by kernel_rfl) (fun _ _ _ h => h) (by rfl) ?_ (by assumption) (by assumption) ?_
              rotate_left
              · intro w hTw; go_simp; first | done | with_reducible rfl
              simp only [Act.put, List.setIfInBounds_toArray, List.set_cons_zero, List.set_cons_succ]
              refine takeT 15 55 (v := ?_) rfl rfl (by kernel_rfl) (by kernel_rfl) (by kernel_rfl) (by kernel_rfl) (fun _ _ _ h => h) (by rfl) ?_ (by assumption) (by assumption) ?_
              rotate_left
              · intro w hTw; go_simp; first | done | with_reducible rfl
              simp only [Act.put, List.setIfInBounds_toArray, List.set_cons_zero, List.set_cons_succ]
              refine takeT 16 56 (v := ?_) rfl rfl (by kernel_rfl) (by kernel_rfl) (by kernel_rfl) (by kernel_rfl) (fun _ _ _ h => h) (by rfl) ?_ (by assumption) (by assumption) ?_
              rotate_left
              · intro w hTw; go_simp; first | done | with_reducible rfl
              simp only [Act.put, List.setIfInBounds_toArray, List.set_cons_zero, List.set_cons_succ]
              refine takeT 17 57 (v := ?_) rfl rfl (by kernel_rfl) (by kernel_rfl) (by kernel_rfl) (by kernel_rfl) (fun _ _ _ h => h) (by rfl) ?_ (by assumption) (by assumption) ?_
              rotate_left
              · intro w hTw; go_simp; first | done | with_reducible rfl
              simp only [Act.put, List.setIfInBounds_toArray, List.set_cons_zero, List.set_cons_succ]
              refine takeT 18 58 (v := ?_) rfl rfl (by kernel_rfl) (by kernel_rfl) (by kernel_rfl) (by kernel_rfl) (fun _ _ _ h => h) (by rfl) ?_ (by assumption) (by assumption) ?_
              rotate_left
              · intro w hTw; go_simp; first | done | with_reducible rfl
              simp only [Act.put, List.setIfInBounds_toArray, List.set_cons_zero, List.set_cons_succ]
              refine takeT 19 59 (v := ?_) rfl rfl (by kernel_rfl) (by kernel_rfl) (by kernel_rfl) (by kernel_rfl) (fun _ _ _ h => h) (by rfl) ?_ (by assumption) (by assumption) ?_
              rotate_left
              · intro w hTw; go_simp; first | done | with_reducible rfl
              simp only [Act.put, List.setIfInBounds_toArray, List.set_cons_zero, List.set_cons_succ]
              refine takeT 20 60 (v := ?_) rfl rfl (by kernel_rfl) (by kernel_rfl) (by kernel_rfl) (by kernel_rfl) (fun _ _ _ h => h) (by rfl) ?_ (by assumption) (by assumption) ?_
              rotate_left
              · intro w hTw; go_simp; first | done | with_reducible rfl
              simp only [Act.put, List.setIfInBounds_toArray, List.set_cons_zero, List.set_cons_succ]
              refine lastZ (by kernel_rfl) rfl (by rfl) (fun K hK => ?_)
              go_simp
              refine hK.out _ _ HT2.out ?_
              clear hK K
              refine doneZ (by kernel_rfl) (NoPanic.normal ?_) _
              go_wp2
              go_roundw
              case rel => exact ⟨j + 1, by omega, by go_num, by rw [← HSP.out]; exact HST.out.below (Below.refl _ _).drew, HB2.out.drew⟩
              case measure => simp [intOf]; omega
            · obtain rfl : j = 128 := by omega
              have hty : ys.take 128 = ys := by rw [← hyl]; exact List.take_length
              rw [hty] at hok2
              have HK2 : Hid _ := hok2
              clear hok2
              go_wp2
              go_roundw
              case rel => exact ⟨k + 1, by omega, by go_num, by rw [HY.out hke]; exact HK2.out, hbj⟩
              case measure => simp [intOf]; omega
        | false =>
          by_cases hkk : k < keep.length
          · obtain ⟨lb, lo, rfl⟩ := HL.out.addr (by omega)
            have hkc := (hbw.cell (World.block_lt_of_cell? _ _ (HL.out.at hkk))).trans (HL.out.at hkk)
            have hkz : (0 : Int) ≤ (k : Int) := by omega
            have hkd : (k : Int) < (keep.length : Int) := by omega
            cases hkb : keep.getD k false with
            | true =>
              rw [hkb] at hkc
              have hke : (keptL false keep ws.length).getD k false = true := by rw [hka, hkb]; rfl
              go_wp2
              go_loopw [9] (fun i wr => ∃ j : Nat, j ≤ 128 ∧ i = .int .i64 j ∧ DiskG wr (w.heap.size + 2) B0 count (.slice (some ⟨g, 0, none⟩) data.length cd) (splice (crashK data ws (keptL false keep ws.length) k) (sn * 128) (ys.take j)) (.slice none 0 0) [] [] ∧ Below (w.heap.size + 2) W wr) (fun i _ => 128 - (intOf i).toNat)
              case atStart => exact ⟨0, by omega, rfl, by rw [List.take_zero, splice_zero]; exact HOK.out, hbk⟩
              case round =>
                obtain ⟨j, hj, rfl, hok2, hbj⟩ := hrel
                by_cases hj1 : j < 128
                · have hT := HT.out j _ hj1 hbj.drew
                  obtain ⟨_, b1, _⟩ := cells3 hok2.box
                  have HT0 : wr.drew.cell? ⟨w.heap.size, 2, none⟩ = some (.slice (some ⟨b, o, none⟩) ws.length m) ∧ wr.drew.cell? ⟨b, o + k * 2, none⟩ = some (.int .i64 (sn : Int)) ∧ wr.drew.cell? ⟨b, o + k * 2 + 1, none⟩ = some (.slice (some ⟨pb, po, none⟩) 128 ck) ∧ wr.drew.cell? ⟨B0, 1, none⟩ = some (.slice (some ⟨g, 0, none⟩) data.length cd) ∧ wr.drew.cell? ⟨pb, po + j, none⟩ = some (.int .u8 (ys.getD j 0 : Nat)) := ⟨hT.1, hT.2.1, hT.2.2.1, b1, hT.2.2.2⟩
                  have HS0 : True := trivial
                  have hyb : ys.getD j 0 < 256 := hby _ (by rw [List.getD_eq_getElem?_getD, List.getElem?_eq_getElem (by omega)]; exact List.getElem_mem _)
                  have HST : Hid _ := hok2.setAt (sn * 128 + j) (ys.getD j 0) hyb
                  obtain ⟨hgle, hfz, hcs⟩ := hok2.gle
                  have hln : (splice (crashK data ws (keptL false keep ws.length) k) (sn * 128) (ys.take j)).length = data.length := by rw [length_splice _ _ _ (by rw [List.length_take]; omega)]; exact hDl
                  obtain ⟨old, hold⟩ := hcs (sn * 128 + j) (by omega)
                  have hfr := hfz (sn * 128 + j)
                  have HSP : Hid _ := splice_step (crashK data ws (keptL false keep ws.length) k) (sn * 128) ys j (by omega) (by omega)
                  have HB2 : Hid (Below (w.heap.size + 2) W (wr.setCell ⟨g, sn * 128 + j, none⟩ (.int .u8 (ys.getD j 0 : Nat)))) := hbj.setCell hgle _
                  have hkk0 : (0 : Int) ≤ (k : Int) := by omega
                  have hkw : (k : Int) < (ws.length : Int) := by omega
                  have hjj : (0 : Int) ≤ (j : Int) := by omega
                  have hj8 : (j : Int) < 128 := by omega
                  have hi0 : (0 : Int) ≤ (sn : Int) * 128 + (j : Int) := by omega
                  have hi1 : (sn : Int) * 128 + (j : Int) < (data.length : Int) := by omega
                  have hi2 : ((sn : Int) * 128 + (j : Int)).toNat = sn * 128 + j := by omega
                  have hi3 : (sn : Int) * 128 + (j : Int) < count * 128 := by omega
                  have hw1 : IntKind.i64.wrap ((sn : Int) * 128) = (sn : Int) * 128 := by simp [IntKind.wrap, IntKind.bits, IntKind.signed]; omega
                  have hw2 : IntKind.i64.wrap ((sn : Int) * 128 + (j : Int)) = (sn : Int) * 128 + (j : Int) := by simp [IntKind.wrap, IntKind.bits, IntKind.signed]; omega
                  have HT2 : Hid ((wr.setCell ⟨g, sn * 128 + j, none⟩ (.int .u8 (ys.getD j 0 : Nat))).drew.cell? ⟨w.heap.size, 2, none⟩ = some (.slice (some ⟨b, o, none⟩) ws.length m) ∧ (wr.setCell ⟨g, sn * 128 + j, none⟩ (.int .u8 (ys.getD j 0 : Nat))).drew.cell? ⟨b, o + k * 2, none⟩ = some (.int .i64 (sn : Int)) ∧ (wr.setCell ⟨g, sn * 128 + j, none⟩ (.int .u8 (ys.getD j 0 : Nat))).drew.cell? ⟨b, o + k * 2 + 1, none⟩ = some (.slice (some ⟨pb, po, none⟩) 128 ck) ∧ (wr.setCell ⟨g, sn * 128 + j, none⟩ (.int .u8 (ys.getD j 0 : Nat))).drew.cell? ⟨B0, 1, none⟩ = some (.slice (some ⟨g, 0, none⟩) data.length cd) ∧ (wr.setCell ⟨g, sn * 128 + j, none⟩ (.int .u8 (ys.getD j 0 : Nat))).drew.cell? ⟨pb, po + j, none⟩ = some (.int .u8 (ys.getD j 0 : Nat))) := ⟨(HT.out j _ hj1 HB2.out.drew).1, (HT.out j _ hj1 HB2.out.drew).2.1, (HT.out j _ hj1 HB2.out.drew).2.2.1, (cells3 HST.out.box).2.1, (HT.out j _ hj1 HB2.out.drew).2.2.2⟩
                  clear hok2 hfz hT b1 hcs hln
                  generalize hyg : ys.getD j 0 = yb at *
                  go_wp2
                  refine wp_region_noPanic ?_
                  refine beginZ (T := fun w' => w'.cell? ⟨w.heap.size, 2, none⟩ = some (.slice (some ⟨b, o, none⟩) ws.length m) ∧ w'.cell? ⟨b, o + k * 2, none⟩ = some (.int .i64 (sn : Int)) ∧ w'.cell? ⟨b, o + k * 2 + 1, none⟩ = some (.slice (some ⟨pb, po, none⟩) 128 ck) ∧ w'.cell? ⟨B0, 1, none⟩ = some (.slice (some ⟨g, 0, none⟩) data.length cd) ∧ w'.cell? ⟨pb, po + j, none⟩ = some (.int .u8 (yb : Nat))) (S := fun _ => True) 21 (by kernel_rfl) ?_
                  refine takeT 0 40 (v := ?_) rfl rfl (by kernel_rfl) (by kernel_rfl) (by kernel_rfl) (by kernel_rfl) (fun _ _ _ h => h) (by rfl) ?_ (by assumption) (by assumption) ?_
                  rotate_left
                  · intro w hTw; go_simp; first | done | with_reducible rfl
                  simp only [Act.put, List.setIfInBounds_toArray, List.set_cons_zero, List.set_cons_succ]
                  refine takeT 1 41 (v := ?_) rfl rfl (by kernel_rfl) (by kernel_rfl) (by kernel_rfl) (by kernel_rfl) (fun _ _ _ h => h) (by rfl) ?_ (by assumption) (by assumption) ?_
                  rotate_left
                  · intro w hTw; go_simp; first | done | with_reducible rfl
                  simp only [Act.put, List.setIfInBounds_toArray, List.set_cons_zero, List.set_cons_succ]
                  refine takeT 2 42 (v := ?_) rfl rfl (by kernel_rfl) (by kernel_rfl) (by kernel_rfl) (by kernel_rfl) (fun _ _ _ h => h) (by rfl) ?_ (by assumption) (by assumption) ?_
                  rotate_left
                  · intro w hTw; go_simp; first | done | with_reducible rfl
                  simp only [Act.put, List.setIfInBounds_toArray, List.set_cons_zero, List.set_cons_succ]
                  refine takeT 3 43 (v := ?_) rfl rfl (by kernel_rfl) (by kernel_rfl) (by kernel_rfl) (by kernel_rfl) (fun _ _ _ h => h) (by rfl) ?_ (by assumption) (by assumption) ?_
                  rotate_left
                  · intro w hTw; go_simp; first | done | with_reducible rfl
                  simp only [Act.put, List.setIfInBounds_toArray, List.set_cons_zero, List.set_cons_succ]
                  refine takeT 4 44 (v := ?_) rfl rfl (by kernel_rfl) (by kernel_rfl) (by kernel_rfl) (by kernel_rfl) (fun _ _ _ h => h) (by rfl) ?_ (by assumption) (by assumption) ?_
                  rotate_left
                  · intro w hTw; go_simp; first | done | with_reducible rfl
                  simp only [Act.put, List.setIfInBounds_toArray, List.set_cons_zero, List.set_cons_succ]
                  refine takeT 5 45 (v := ?_) rfl rfl (by kernel_rfl) (by kernel_rfl) (by kernel_rfl) (by kernel_rfl) (fun _ _ _ h => h) (by rfl) ?_ (by assumption) (by assumption) ?_
                  rotate_left
                  · intro w hTw; go_simp; first | done | with_reducible rfl
                  simp only [Act.put, List.setIfInBounds_toArray, List.set_cons_zero, List.set_cons_succ]
                  refine takeT 6 46 (v := ?_) rfl rfl (by kernel_rfl) (by kernel_rfl) (by kernel_rfl) (by kernel_rfl) (fun _ _ _ h => h) (by rfl) ?_ (by assumption) (by assumption) ?_
                  rotate_left
                  · intro w hTw; go_simp; first | done | with_reducible rfl
                  simp only [Act.put, List.setIfInBounds_toArray, List.set_cons_zero, List.set_cons_succ]
                  refine takeT 7 47 (v := ?_) rfl rfl (by kernel_rfl) (by kernel_rfl) (by kernel_rfl) (by kernel_rfl) (fun _ _ _ h => h) (by rfl) ?_ (by assumption) (by assumption) ?_
                  rotate_left
                  · intro w hTw; go_simp; first | done | with_reducible rfl
                  simp only [Act.put, List.setIfInBounds_toArray, List.set_cons_zero, List.set_cons_succ]
                  refine takeT 8 48 (v := ?_) rfl rfl (by kernel_rfl) (by kernel_rfl) (by kernel_rfl) (by kernel_rfl) (fun _ _ _ h => h) (by rfl) ?_ (by assumption) (by assumption) ?_
                  rotate_left
                  · intro w hTw; go_simp; first | done | with_reducible rfl
                  simp only [Act.put, List.setIfInBounds_toArray, List.set_cons_zero, List.set_cons_succ]
                  refine takeT 9 49 (v := ?_) rfl rfl (by kernel_rfl) (by kernel_rfl) (by kernel_rfl) (by kernel_rfl) (fun _ _ _ h => h) (by rfl) ?_ (by assumption) (by assumption) ?_
                  rotate_left
                  · intro w hTw; go_simp; first | done | with_reducible rfl
                  simp only [Act.put, List.setIfInBounds_toArray, List.set_cons_zero, List.set_cons_succ]
                  refine takeT 10 50 (v := ?_) rfl rfl (by kernel_rfl) (by kernel_rfl) (by kernel_rfl) (by kernel_rfl) (fun _ _ _ h => h) (by rfl) ?_ (by assumption) (by assumption) ?_
                  rotate_left
                  · intro w hTw; go_simp; first | done | with_reducible rfl
                  simp only [Act.put, List.setIfInBounds_toArray, List.set_cons_zero, List.set_cons_succ]
                  refine takeT 11 51 (v := ?_) rfl rfl (by kernel_rfl) (by kernel_rfl) (by kernel_rfl) (by kernel_rfl) (fun _ _ _ h => h) (by rfl) ?_ (by assumption) (by assumption) ?_
                  rotate_left
                  · intro w hTw; go_simp; first | done | with_reducible rfl
                  simp only [Act.put, List.setIfInBounds_toArray, List.set_cons_zero, List.set_cons_succ]
                  refine takeT 12 52 (v := ?_) rfl rfl (by kernel_rfl) (by kernel_rfl) (by kernel_rfl) (by kernel_rfl) (fun _ _ _ h => h) (by rfl) ?_ (by assumption) (by assumption) ?_
                  rotate_left
                  · intro w hTw; go_simp; first | done | with_reducible rfl
                  simp only [Act.put, List.setIfInBounds_toArray, List.set_cons_zero, List.set_cons_succ]
                  refine takeT 13 53 (v := ?_) rfl rfl (by kernel_rfl) (by kernel_rfl) (by kernel_rfl) (by kernel_rfl) (fun _ _ _ h => h) (by rfl) ?_ (by assumption) (by assumption) ?_
                  rotate_left
                  · intro w hTw; go_simp; first | done | with_reducible rfl
                  simp only [Act.put, List.setIfInBounds_toArray, List.set_cons_zero, List.set_cons_succ]
                  refine takeT 14 54 (v := ?_) rfl rfl (by kernel_rfl) (by kernel_rfl) (by kernel_rfl) (by kernel_rfl) (fun _ _ _ h => h) (by rfl) ?_ (by assumption) (by assumption) ?_
                  rotate_left
                  · intro w hTw; go_simp; first | done | with_reducible rfl
                  simp only [Act.put, List.setIfInBounds_toArray, List.set_cons_zero, List.set_cons_succ]
                  refine takeT 15 55 (v := ?_) rfl rfl (by kernel_rfl) (by kernel_rfl) (by kernel_rfl) (by kernel_rfl) (fun _ _ _ h => h) (by rfl) ?_ (by assumption) (by assumption) ?_
                  rotate_left
                  · intro w hTw; go_simp; first | done | with_reducible rfl
                  simp only [Act.put, List.setIfInBounds_toArray, List.set_cons_zero, List.set_cons_succ]
                  refine takeT 16 56 (v := ?_) rfl rfl (by kernel_rfl) (by kernel_rfl) (by kernel_rfl) (by kernel_rfl) (fun _ _ _ h => h) (by rfl) ?_ (by assumption) (by assumption) ?_
                  rotate_left
                  · intro w hTw; go_simp; first | done | with_reducible rfl
                  simp only [Act.put, List.setIfInBounds_toArray, List.set_cons_zero, List.set_cons_succ]
                  refine takeT 17 57 (v := ?_) rfl rfl (by kernel_rfl) (by kernel_rfl) (by kernel_rfl) (by kernel_rfl) (fun _ _ _ h => h) (by rfl) ?_ (by assumption) (by assumption) ?_
                  rotate_left
                  · intro w hTw; go_simp; first | done | with_reducible rfl
                  simp only [Act.put, List.setIfInBounds_toArray, List.set_cons_zero, List.set_cons_succ]
                  refine takeT 18 58 (v := ?_) rfl rfl (by kernel_rfl) (by kernel_rfl) (by kernel_rfl) (by kernel_rfl) (fun _ _ _ h => h) (by rfl) ?_ (by assumption) (by assumption) ?_
                  rotate_left
                  · intro w hTw; go_simp; first | done | with_reducible rfl
                  simp only [Act.put, List.setIfInBounds_toArray, List.set_cons_zero, List.set_cons_succ]
                  refine takeT 19 59 (v := ?_) rfl rfl (by kernel_rfl) (by kernel_rfl) (by kernel_rfl) (by kernel_rfl) (fun _ _ _ h => h) (by rfl) ?_ (by assumption) (by assumption) ?_
                  rotate_left
                  · intro w hTw; go_simp; first | done | with_reducible rfl
                  simp only [Act.put, List.setIfInBounds_toArray, List.set_cons_zero, List.set_cons_succ]
                  refine takeT 20 60 (v := ?_) rfl rfl (by kernel_rfl) (by kernel_rfl) (by kernel_rfl) (by kernel_rfl) (fun _ _ _ h => h) (by rfl) ?_ (by assumption) (by assumption) ?_
                  rotate_left
                  · intro w hTw; go_simp; first | done | with_reducible rfl
                  simp only [Act.put, List.setIfInBounds_toArray, List.set_cons_zero, List.set_cons_succ]
                  refine lastZ (by kernel_rfl) rfl (by rfl) (fun K hK => ?_)
                  go_simp
                  refine hK.out _ _ HT2.out ?_
                  clear hK K
                  refine doneZ (by kernel_rfl) (NoPanic.normal ?_) _
                  go_wp2
                  go_roundw
                  case rel => exact ⟨j + 1, by omega, by go_num, by rw [← HSP.out]; exact HST.out.below (Below.refl _ _).drew, HB2.out.drew⟩
                  case measure => simp [intOf]; omega
                · obtain rfl : j = 128 := by omega
                  have hty : ys.take 128 = ys := by rw [← hyl]; exact List.take_length
                  rw [hty] at hok2
                  have HK2 : Hid _ := hok2
                  clear hok2
                  go_wp2
                  go_roundw
                  case rel => exact ⟨k + 1, by omega, by go_num, by rw [HY.out hke]; exact HK2.out, hbj⟩
                  case measure => simp [intOf]; omega
            | false =>
              rw [hkb] at hkc
              have hke : (keptL false keep ws.length).getD k false = false := by rw [hka, hkb]; rfl
              go_wp2
              go_roundw
              case rel => exact ⟨k + 1, by omega, by go_num, by rw [HN.out hke]; exact HOK.out, hbk⟩
              case measure => simp [intOf]; omega
          · have hke : (keptL false keep ws.length).getD k false = false := by rw [hka]; simp [List.getD, hkk]
            have hkd : decide ((k : Int) < (keep.length : Int)) = false := decide_eq_false (by omega)
            go_wp2
            go_roundw
            case rel => exact ⟨k + 1, by omega, by go_num, by rw [HN.out hke]; exact HOK.out, hbk⟩
            case measure => simp [intOf]; omega
      · obtain rfl : k = ws.length := by omega
        have HV : Hid (DiskV wr w.heap.size (.agg #[.int .i64 count, .slice (some ⟨g, 0, none⟩) data.length cd, .slice none 0 0]) count (crashN data ws (keptL all keep ws.length)) []) := hok.toV.mono (by omega)
        obtain ⟨r0, r1, r2⟩ := cells3 hres
        obtain ⟨f0, f1, f2⟩ := free3 hres
        have HR : Hid _ := hres
        clear hok hres hbx HG0
        go_wp2
        (try simp only [Exit.inBlock, Exit.then])
        refine bodyPost_ret (v := .agg #[.int .i64 count, .slice (some ⟨g, 0, none⟩) data.length cd, .slice none 0 0]) ?_ rfl ⟨⟨_, rfl, HV.out.set3 HR.out _ _ _⟩, set3_below hbw (by omega) _ _ _⟩
        rw [results_cell_one rfl]
        go_simp
end Go.Proofs.Yteabacpalnamdaa
