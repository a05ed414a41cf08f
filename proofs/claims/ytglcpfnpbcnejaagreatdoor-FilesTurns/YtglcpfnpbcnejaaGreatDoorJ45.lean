/-
  A world that meets the row's condition on the program's variables: the settled one, the four variables laid.
-/
import Derived.Test.YtglcpfnpbcnejaaGreatDoorJ44
import Derived.Deep.RegionWith
import Derived.Test.YtglcpfnpbcnejaaGreatDoorRows
import Derived.Test.YtglcpfnpbcnejaaGreatDoorJ09
import Derived.LaidSub
import Derived.LaidHandle
import Derived.LaidLaws
import Derived.RowKitTokens
import Derived.Lib.LaidTab
import Derived.Test.YtglcpfnpbcnejaaGreatDoorJ16
import Derived.SizedLaws
import Derived.Test.YtglcpfnpbcnejaaGreatDoorChecked
import Derived.ChangeSame
import Derived.ChangeVars
import Derived.JoinedOf
import Derived.RowKit
import Derived.Stop.Joined
namespace Go.Proofs.YtglcpfnpbcnejaaGreatDoor
open Go.RowKit Go.WideShapes Rm

theorem carryB {a b : World} {k : Nat} {o : Obj} (hb : Below a.heap.size a b) (h : a.heap[k]? = some o) : b.heap[k]? = some o := (hb.block _ (lt_heap h)).trans h
set_option maxRecDepth 20000 in
set_option maxHeartbeats 16000000 in
theorem law_turns (cn : Int) (v : Value) (count : Int) (data : List Nat) (ws : Puts) (lq : Option Addr) (ln lc : Nat) (l : List CV) (w : World) (hL : Laid w) (_hni : (Lit.int .i64 cn).wf = true) (hd : DiskIn w v count data ws) (hsz : ∀ y ∈ ws, y.2.length ≤ 140737488355328) (hl : ChgIn w lq ln lc l) (hvs : ∀ y ∈ l, (y.val.size : Int) ≤ 9223372036854775807) (hq0 : lq = none → lc = 0) :
    Calls Tryz.prog 4 #[.int .i64 cn, v, .slice lq ln lc] w fun e w' => e = .returned (.bool true) ∧ Below w.heap.size w w' := by
  obtain ⟨p, c, q, m, rfl, _⟩ := hd.parts
  have HL : Hid (Laid w) := hL
  have HD : Hid (DiskIn w (.agg #[.int .i64 count, .slice p data.length c, .slice q ws.length m]) count data ws) := hd
  have HCW : Hid ((Lit.int .i64 count).wf = true) := hd.count_wf
  have HPW : Hid (∀ y ∈ ws, (Lit.int .i64 y.1).wf = true) := hd.puts_wf
  have HSZ : Hid (∀ y ∈ ws, y.2.length ≤ 140737488355328) := hsz
  have HCH : Hid (ChgIn w lq ln lc l ∧ (lq = none → lc = 0)) := ⟨hl, hq0⟩
  have HVS : Hid (∀ y ∈ l, (y.val.size : Int) ≤ 9223372036854775807) := hvs
  obtain ⟨r, n, hm⟩ := mountIs_ex count data ws
  have HM : Hid (MountIs count data ws r n) := hm
  obtain ⟨dl, hdl⟩ : ∃ k, data.length = k := ⟨_, rfl⟩
  obtain ⟨wl, hwl⟩ : ∃ k, ws.length = k := ⟨_, rfl⟩
  rw [hdl, hwl] at HD ⊢
  have HWL : Hid (data.length = dl ∧ ws.length = wl) := ⟨hdl, hwl⟩
  obtain ⟨w0, hw0⟩ : ∃ w0, w.alloc (.cells #[.int .i64 count, .slice p dl c, .slice q wl m] 25) = w0 := ⟨_, rfl⟩
  have HB0 : Hid (Below w.heap.size w w0) := by show Below _ _ _; rw [← hw0]; exact below_alloc _ _
  have HX0 : Hid (w0.heap[w.heap.size]? = some (.cells #[.int .i64 count, .slice p dl c, .slice q wl m] 25 (0, 0))) := by show _ = _; rw [← hw0]; exact heap_alloc_new _ _
  have hlg := large4_any _ count data ws w0 (HD.out.below HB0.out)
  clear hd hL hm hdl hwl hl hvs hsz hq0
  go_enter Tryz.func4, Tryz.ntmps4
  go_upto_region 1 with fail
  (try rw [hw0])
  clear hw0
  obtain ⟨d0, d1, d2⟩ := three_cells HX0.out
  go_wp2_with fail
  refine hlg.mono ?_
  rintro e w2 ⟨rfl, hb2⟩
  have HB2 : Hid (Below w.heap.size w w2) := below_bt HB0.out hb2
  have HX2 : Hid (w2.heap[w.heap.size]? = some (.cells #[.int .i64 count, .slice p dl c, .slice q wl m] 25 (0, 0))) := (hb2.block _ (lt_heap HX0.out)).trans HX0.out
  clear hlg hb2 d0 d1 d2
  by_cases hlarge : largeL count data ws
  · have e1 : decide (largeL count data ws) = true := by simpa using hlarge
    rw [e1]
    clear e1 hlarge
    go_wp2
    go_ret
    exact ⟨rfl, HB2.out⟩
  · have e1 : decide (largeL count data ws) = false := by simpa using hlarge
    rw [e1]
    have HNL : Hid (¬ largeL count data ws) := hlarge
    clear hlarge e1
    have hhv := heavy_any lq ln lc l w2 HCH.out.1.len (HCH.out.1.below HB2.out).lies HCH.out.1.fits HVS.out
    go_wp2_with fail
    refine hhv.mono ?_
    rintro e w3 ⟨hr, rfl, hfew, hb3⟩
    have HB3 : Hid (Below w.heap.size w w3) := below_bt HB2.out hb3
    have HX3 : Hid (w3.heap[w.heap.size]? = some (.cells #[.int .i64 count, .slice p dl c, .slice q wl m] 25 (0, 0))) := (hb3.block _ (lt_heap HX2.out)).trans HX2.out
    clear hhv hb3
    cases hr with
    | true =>
      clear hfew
      go_wp2
      go_ret
      exact ⟨rfl, HB3.out⟩
    | false =>
      have HFW : Hid (l.length ≤ 200 ∧ ∀ y ∈ l, y.val.size ≤ 700000) := hfew rfl
      clear hfew
      by_cases hbth : 300 < cn ∧ cn ≤ 4095
      · obtain ⟨i1, i2⟩ := hbth
        go_wp2
        go_ret
        exact ⟨rfl, HB3.out⟩
      obtain ⟨E, cX, DX, hfx, hfy⟩ := format_x cn
      have HFX : Hid _ := hfx
      have HFY : Hid _ := hfy
      clear hfx hfy
      obtain ⟨xl, hxl⟩ : ∃ k, DX.length = k := ⟨_, rfl⟩
      have HXL : Hid (DX.length = xl) := hxl
      clear hxl
      obtain ⟨X, hX⟩ : ∃ X, dirR r = X := ⟨_, rfl⟩
      have HXR : Hid (dirR r = X) := hX
      clear hX
      obtain ⟨gX, hgX⟩ : ∃ g, X.gen = g := ⟨_, rfl⟩
      have HGX : Hid (X.gen = gX) := hgX
      clear hgX
      obtain ⟨d0, d1, d2⟩ := three_cells HX3.out
      by_cases i1 : 300 < cn
      all_goals
        first
          | (have i2 : 4095 < cn := by omega)
          | (have i2 : cn ≤ 300 := by omega)
        clear hbth
        (try clear i1)
        (try have i1 : 300 < cn := by omega)
        go_wp2_with fail
        refine (twin_any _ count data ws w3 (HD.out.below HB3.out) (by have := HNL.out; unfold largeL at this; omega) HSZ.out (by have := HNL.out; unfold largeL at this; omega)).mono ?_
        rintro e w4 ⟨⟨vT, rfl, hvT⟩, hb4⟩
        have hnT := hvT.toIn HCW.out HPW.out
        obtain ⟨pT, cT, qT, mT, rfl, _⟩ := hnT.parts
        rw [HWL.out.1, HWL.out.2] at hnT ⊢
        have HT4 : Hid (DiskIn w4 (.agg #[.int .i64 count, .slice pT dl cT, .slice qT wl mT]) count data ws) := hnT
        have HX4 : Hid (w4.heap[w.heap.size]? = some (.cells #[.int .i64 count, .slice p dl c, .slice q wl m] 25 (0, 0))) := carryB hb4 HX3.out
        have HB4 : Hid (Below w.heap.size w w4) := below_bt HB3.out hb4
        clear hb4 hnT hvT d0 d1 d2
        have hbA : Below w4.heap.size w4 (w4.alloc (.cells #[.int .i64 count, .slice pT dl cT, .slice qT wl mT] 25)) := below_alloc _ _
        go_wp2_with (at_builtin; refine wpList_append_changes _ rfl _ _ rfl (w4.alloc (.cells #[.int .i64 count, .slice pT dl cT, .slice qT wl mT] 25)).heap.size (.slice none 0 0) [] l lq ln lc rfl rfl HCH.out.1.len (cown_nil _ _) (HCH.out.1.lies.below (below_bt HB4.out hbA)) HCH.out.2 (by have := HFW.out.1; simp; omega) (Nat.le_refl _) ?_; intro v6 w6 ho6 hg6)
        have hb6 : Below w4.heap.size w4 w6 := below_bt hbA ((Below.refl _ _).grown hg6 (Nat.le_refl _) (fun k hk => by cases hk))
        rw [List.nil_append] at ho6
        obtain ⟨iq, im, rfl, hi1, hi2, _⟩ := own_form ho6
        have hI6 := COwn.cs ho6
        rw [← HCH.out.1.len] at hi1 ⊢
        have HI6 : Hid (ChgIn w6 iq ln im l) := ⟨hI6, HCH.out.1.len, hi1, HCH.out.1.fits, HCH.out.1.keys⟩
        have HX6 : Hid (w6.heap[w.heap.size]? = some (.cells #[.int .i64 count, .slice p dl c, .slice q wl m] 25 (0, 0))) := carryB hb6 HX4.out
        have HO6 : Hid (w6.heap[w4.heap.size]? = some (.cells #[.int .i64 count, .slice pT dl cT, .slice qT wl mT] 25 (0, 0))) := carryB ((Below.refl _ _).grown hg6 (Nat.le_refl _) (fun k hk => by cases hk)) (heap_alloc_new w4 _)
        have HB6 : Hid (Below w.heap.size w w6) := below_bt HB4.out hb6
        have HT6 : Hid (DiskIn w6 (.agg #[.int .i64 count, .slice pT dl cT, .slice qT wl mT]) count data ws) := HT4.out.below hb6
        clear ho6 hg6 hb6 hI6 hbA hi1
        unfold maxLen at hi2
        go_wp2_with fail
        refine (HFX.out w6 (HL.out.below HB6.out)).mono ?_
        rintro e w7 ⟨px, kx, qx, mx, rfl, hIx, hb7⟩
        rw [HXL.out] at hIx ⊢
        have hb7a : Below w6.heap.size w6 (w7.alloc (.cells #[.int .i64 cX, .slice px xl kx, .slice qx 0 mx] 25)) := below_bt hb7 (below_alloc _ _)
        have HX7 : Hid ((w7.alloc (.cells #[.int .i64 cX, .slice px xl kx, .slice qx 0 mx] 25)).heap[w.heap.size]? = some (.cells #[.int .i64 count, .slice p dl c, .slice q wl m] 25 (0, 0))) := carryB hb7a HX6.out
        have HO7 : Hid ((w7.alloc (.cells #[.int .i64 cX, .slice px xl kx, .slice qx 0 mx] 25)).heap[w4.heap.size]? = some (.cells #[.int .i64 count, .slice pT dl cT, .slice qT wl mT] 25 (0, 0))) := carryB hb7a HO6.out
        have HP7 : Hid ((w7.alloc (.cells #[.int .i64 cX, .slice px xl kx, .slice qx 0 mx] 25)).heap[w7.heap.size]? = some (.cells #[.int .i64 cX, .slice px xl kx, .slice qx 0 mx] 25 (0, 0))) := heap_alloc_new _ _
        have HC7 : Hid (Below w6.heap.size w6 (w7.alloc (.cells #[.int .i64 cX, .slice px xl kx, .slice qx 0 mx] 25))) := hb7a
        have HIX : Hid (DiskIn (w7.alloc (.cells #[.int .i64 cX, .slice px xl kx, .slice qx 0 mx] 25)) (.agg #[.int .i64 cX, .slice px xl kx, .slice qx 0 mx]) cX DX []) := hIx.below (below_alloc _ _)
        clear hIx hb7 hb7a
        go_wp2_with fail
        refine (HFY.out _).mono ?_
        rintro e w8 ⟨py, ky, qy, my, rfl, hIy, hb8⟩
        rw [HXL.out] at hIy ⊢
        have hb8a := below_bt hb8 (below_alloc w8 (.cells #[.int .i64 cX, .slice py xl ky, .slice qy 0 my] 25))
        have HX8 : Hid ((w8.alloc (.cells #[.int .i64 cX, .slice py xl ky, .slice qy 0 my] 25)).heap[w.heap.size]? = some (.cells #[.int .i64 count, .slice p dl c, .slice q wl m] 25 (0, 0))) := carryB hb8a HX7.out
        have HO8 : Hid ((w8.alloc (.cells #[.int .i64 cX, .slice py xl ky, .slice qy 0 my] 25)).heap[w4.heap.size]? = some (.cells #[.int .i64 count, .slice pT dl cT, .slice qT wl mT] 25 (0, 0))) := carryB hb8a HO7.out
        have HP8 : Hid ((w8.alloc (.cells #[.int .i64 cX, .slice py xl ky, .slice qy 0 my] 25)).heap[w7.heap.size]? = some (.cells #[.int .i64 cX, .slice px xl kx, .slice qx 0 mx] 25 (0, 0))) := carryB hb8a HP7.out
        have HQ8 : Hid ((w8.alloc (.cells #[.int .i64 cX, .slice py xl ky, .slice qy 0 my] 25)).heap[w8.heap.size]? = some (.cells #[.int .i64 cX, .slice py xl ky, .slice qy 0 my] 25 (0, 0))) := heap_alloc_new _ _
        have HC8 : Hid (Below w6.heap.size w6 (w8.alloc (.cells #[.int .i64 cX, .slice py xl ky, .slice qy 0 my] 25))) := below_bt HC7.out hb8a
        have HIX8 : Hid (DiskIn (w8.alloc (.cells #[.int .i64 cX, .slice py xl ky, .slice qy 0 my] 25)) (.agg #[.int .i64 cX, .slice px xl kx, .slice qx 0 mx]) cX DX []) := HIX.out.below hb8a
        have HIY8 : Hid (DiskIn (w8.alloc (.cells #[.int .i64 cX, .slice py xl ky, .slice qy 0 my] 25)) (.agg #[.int .i64 cX, .slice py xl ky, .slice qy 0 my]) cX DX []) := hIy.below (below_alloc _ _)
        clear hIy hb8 hb8a HIX HP7 HO7 HX7 HC7
        obtain ⟨o0, o1, o2⟩ := three_cells HO8.out
        go_wp2_with fail
        refine (mount_x _ count data ws _ (HL.out.below (below_bt HB6.out HC8.out)) (HT6.out.below HC8.out) r n HM.out).mono ?_
        rintro e w9 ⟨mq, mz, mm, rfl, hIm, hb9⟩
        rw [HXR.out] at hIm ⊢
        rw [HGX.out] at hIm ⊢
        clear o0 o1 o2
        have hb9a := below_bt hb9 (below_alloc w9 (.cells #[.int .i64 gX, .slice mq mz mm] 31))
        have HX9 : Hid ((w9.alloc (.cells #[.int .i64 gX, .slice mq mz mm] 31)).heap[w.heap.size]? = some (.cells #[.int .i64 count, .slice p dl c, .slice q wl m] 25 (0, 0))) := carryB hb9a HX8.out
        have HM9 : Hid ((w9.alloc (.cells #[.int .i64 gX, .slice mq mz mm] 31)).heap[w9.heap.size]? = some (.cells #[.int .i64 gX, .slice mq mz mm] 31 (0, 0))) := heap_alloc_new _ _
        have HC9 : Hid (Below (w8.alloc (.cells #[.int .i64 cX, .slice py xl ky, .slice qy 0 my] 25)).heap.size (w8.alloc (.cells #[.int .i64 cX, .slice py xl ky, .slice qy 0 my] 25)) (w9.alloc (.cells #[.int .i64 gX, .slice mq mz mm] 31))) := hb9a
        have HIM9 : Hid (DirIn (w9.alloc (.cells #[.int .i64 gX, .slice mq mz mm] 31)) (.agg #[.int .i64 gX, .slice mq mz mm]) X) := hIm.below (below_alloc _ _)
        clear hIm hb9 hb9a
        obtain ⟨d0, d1, d2⟩ := three_cells HX9.out
        go_wp2_with fail
        refine (rmount_x _ count data ws _ (HD.out.below (below_bt (below_bt HB6.out HC8.out) HC9.out)) r n HM.out).mono ?_
        rintro e w10 ⟨nq, nz, nm, rfl, hIn, hb10⟩
        rw [HXR.out] at hIn ⊢
        rw [HGX.out] at hIn ⊢
        clear d0 d1 d2
        have hb10a := below_bt hb10 (below_alloc w10 (.cells #[.int .i64 gX, .slice nq nz nm] 31))
        obtain ⟨wA, hwA⟩ : ∃ wA, (w10.alloc (.cells #[.int .i64 gX, .slice nq nz nm] 31)) = wA := ⟨_, rfl⟩
        have HCA : Hid (Below (w8.alloc (.cells #[.int .i64 cX, .slice py xl ky, .slice qy 0 my] 25)).heap.size (w8.alloc (.cells #[.int .i64 cX, .slice py xl ky, .slice qy 0 my] 25)) wA) := by show Below _ _ _; rw [← hwA]; exact below_bt HC9.out hb10a
        have HNA : Hid (wA.heap[w10.heap.size]? = some (.cells #[.int .i64 gX, .slice nq nz nm] 31 (0, 0))) := by show _ = _; rw [← hwA]; exact heap_alloc_new _ _
        have HINA : Hid (DirIn wA (.agg #[.int .i64 gX, .slice nq nz nm]) X) := by show DirIn _ _ _; rw [← hwA]; exact hIn.below (below_alloc _ _)
        have HMA : Hid (wA.heap[w9.heap.size]? = some (.cells #[.int .i64 gX, .slice mq mz mm] 31 (0, 0)) ∧ DirIn wA (.agg #[.int .i64 gX, .slice mq mz mm]) X) := by show _ ∧ _; rw [← hwA]; exact ⟨carryB hb10a HM9.out, HIM9.out.below hb10a⟩
        have HBX : Hid (wA.heap[w.heap.size]? = some (.cells #[.int .i64 count, .slice p dl c, .slice q wl m] 25 (0, 0)) ∧ wA.heap[w4.heap.size]? = some (.cells #[.int .i64 count, .slice pT dl cT, .slice qT wl mT] 25 (0, 0)) ∧ wA.heap[w7.heap.size]? = some (.cells #[.int .i64 cX, .slice px xl kx, .slice qx 0 mx] 25 (0, 0)) ∧ wA.heap[w8.heap.size]? = some (.cells #[.int .i64 cX, .slice py xl ky, .slice qy 0 my] 25 (0, 0))) := ⟨carryB HCA.out HX8.out, carryB HCA.out HO8.out, carryB HCA.out HP8.out, carryB HCA.out HQ8.out⟩
        have HBA : Hid (Below w.heap.size w wA ∧ Below w6.heap.size w6 wA) := ⟨below_bt (below_bt HB6.out HC8.out) HCA.out, below_bt HC8.out HCA.out⟩
        have HDA : Hid (DiskIn wA (.agg #[.int .i64 cX, .slice px xl kx, .slice qx 0 mx]) cX DX [] ∧ DiskIn wA (.agg #[.int .i64 cX, .slice py xl ky, .slice qy 0 my]) cX DX []) := ⟨HIX8.out.below HCA.out, HIY8.out.below HCA.out⟩
        clear hIn hb10 hb10a HM9 HIM9 HX8 HO8 HP8 HQ8 HX9 HC9 HC8 HCA HIX8 HIY8 HX6 HO6 HX4 HT4 HX3 HX2 HX0
        obtain ⟨o0, o1, o2⟩ := three_cells HBX.out.2.1
        go_wp2_with fail
        (try rw [hwA])
        clear hwA
        refine (Turn_any _ count data ws iq ln im l wA (HL.out.below HBA.out.1) (HT6.out.below HBA.out.2) r n HM.out (HI6.out.below HBA.out.2) (fun y hy => by have := HFW.out.2 y hy; omega)).mono ?_
        rintro e w11 ⟨mt, A, av, L, hS, rfl, hown, hLA, hb11⟩
        have HTV : Hid (turnV count data ws r n l = (mt, A) ∧ A.length ≤ 5000) := ⟨turnIs_V HM.out hS, turn_few HM.out hS⟩
        obtain ⟨aq, am, rfl, ham1, ham2, _⟩ := hown.form
        obtain ⟨al, hal⟩ : ∃ k, L.length = k := ⟨_, rfl⟩
        have HAL : Hid (L.length = al ∧ L.map Prod.fst = A) := ⟨hal, hLA⟩
        rw [hal] at hown ham1 ⊢
        unfold maxLen at ham2
        have HAO : Hid (AOwn w11 wA.heap.size (.slice aq al am) L) := hown
        have HB11 : Hid (Below wA.heap.size wA w11) := hb11
        obtain ⟨d0, d1, d2⟩ := three_cells (carryB hb11 HBX.out.1)
        clear hb11 hown hal hLA hS o0 o1 o2
        go_wp2_with fail
        refine (rTurn_any _ count data ws lq ln lc l w11 (HD.out.below (below_bt HBA.out.1 HB11.out)) r n HM.out (HCH.out.1.below (below_bt HBA.out.1 HB11.out)) (fun y hy => by have := HFW.out.2 y hy; omega)).mono ?_
        rintro e w12 ⟨bv, L2, rfl, hmix, hL2, hb12⟩
        rw [HTV.out.1] at hL2 ⊢
        obtain ⟨bq, bm, rfl, hbm1, hbm2, _⟩ := hmix.form
        have hl2 : L2.length = al := by rw [← HAL.out.1]; have h1 := congrArg List.length hL2; have h2 := congrArg List.length HAL.out.2; simp only [List.length_map] at h1 h2; omega
        rw [hl2] at hmix ⊢
        have HLA : Hid (al = A.length ∧ L2.map Prod.fst = A) := ⟨by have h2 := congrArg List.length HAL.out.2; have := HAL.out.1; simp only [List.length_map] at h2; omega, hL2⟩
        have HMX : Hid (AMix w12 w11.heap.size (.slice bq al bm) L2) := hmix
        have HAO2 : Hid (AOwn w12 wA.heap.size (.slice aq al am) L) := HAO.out.below hb12
        have HB12 : Hid (Below wA.heap.size wA w12) := below_bt HB11.out hb12
        have hla : (al : Int) ≤ 5000 := by have := HLA.out.1; have := HTV.out.2; omega
        obtain ⟨x0, x1, x2⟩ := three_cells (carryB HB12.out HBX.out.2.2.1)
        obtain ⟨y0, y1, y2⟩ := three_cells (carryB HB12.out HBX.out.2.2.2)
        clear hb12 hmix hL2 hl2 hbm1 hbm2 d0 d1 d2 HAO HB11
        go_wp2_with fail
        refine (rsame_any _ _ cX cX DX DX [] [] w12 (HDA.out.1.below HB12.out) (HDA.out.2.below HB12.out) true ⟨fun _ => ⟨rfl, rfl, rfl⟩, fun _ => rfl⟩).mono ?_
        rintro e w13 ⟨rfl, hb13⟩
        have HB13 : Hid (Below wA.heap.size wA w13) := below_bt HB12.out hb13
        have HMX3 : Hid (AMix w13 w11.heap.size (.slice bq al bm) L2) := HMX.out.below hb13
        have HAO3 : Hid (AOwn w13 wA.heap.size (.slice aq al am) L) := HAO2.out.below hb13
        obtain ⟨m0, m1⟩ := two_cells (carryB HB13.out HMA.out.1)
        obtain ⟨n0, n1⟩ := two_cells (carryB HB13.out HNA.out)
        clear hb13 x0 x1 x2 y0 y1 y2 HAO2 HMX HB12
        go_wp2_with fail
        refine (sameDir_yes _ _ X w13 (HMA.out.2.below HB13.out) (HINA.out.below HB13.out)).mono ?_
        rintro e w14 ⟨rfl, hb14⟩
        have HB14 : Hid (Below wA.heap.size wA w14) := below_bt HB13.out hb14
        have HMX4 : Hid (AMix w14 w11.heap.size (.slice bq al bm) L2) := HMX3.out.below hb14
        have HAO4 : Hid (AOwn w14 wA.heap.size (.slice aq al am) L) := HAO3.out.below hb14
        clear hb14 m0 m1 n0 n1 HAO3 HMX3 HB13
        go_wp2_with fail
        refine (rsameActs_yes aq bq al am bm A w14 HLA.out.1 (by have h := HAO4.out.lies.2.1; rw [HAL.out.2] at h; exact h) (by have h := HMX4.out.lies.2.1; rw [HLA.out.2] at h; exact h) (by omega)).mono ?_
        rintro e w15 ⟨rfl, hb15⟩
        have HB15 : Hid (Below wA.heap.size wA w15) := below_bt HB14.out hb15
        have HAO5 : Hid (AOwn w15 wA.heap.size (.slice aq al am) L) := HAO4.out.below hb15
        clear hb15 HAO4 HMX4 HB14
        have HAW : Hid (AW w15 wA.heap.size aq al am L) := aw_own HAO5.out
        have hln : (ln : Int) ≤ 9223372036854775807 := HCH.out.1.fits
        clear HAO5
        go_wp2
        go_loopw [21] (fun i wr => ∃ k : Nat, k ≤ al ∧ i = .int .i64 (k : Int) ∧ AW wr wA.heap.size aq al am L ∧ Below wA.heap.size wA wr) (fun i _ => al - (intOf i).toNat)
        case atStart => exact ⟨0, by omega, rfl, HAW.out, HB15.out⟩
        case round =>
          obtain ⟨k, hk, rfl, haw, hbw⟩ := hrel
          have HKA : Hid (AW wr wA.heap.size aq al am L) := haw
          have HBW : Hid (Below wA.heap.size wA wr) := hbw
          clear haw hbw HAW HB15
          by_cases hkl : k < al
          · have hkI : (k : Int) < (al : Int) := by omega
            have k0 : (0 : Int) ≤ (k : Int) := by omega
            have HKL : Hid (k < al) := hkl
            obtain ⟨g, dq, dn, dm, cur, rfl, hrow, hcur, hu, hdn⟩ := HKA.out.at (k := k) (by have := HAL.out.1; omega)
            have HCUR : Hid (cur[k * 3 + 2]? = some (.slice dq dn dm)) := hcur
            have HUR : Hid (U8X wr wA.heap.size dn dq ∧ wr.heap[g]? = some (.cells cur 47 (0, 0))) := ⟨hu, hrow⟩
            have z2 : wr.cell? ⟨g, k * 3 + 2, none⟩ = some (.slice dq dn dm) := by rw [cell_of_row wr g (k * 3 + 2) cur _ _ hrow]; exact hcur
            clear hu hcur hrow hkl hk z2
            go_wp2
            go_loopw [22] (fun i wz => ∃ z : Nat, z ≤ dn ∧ i = .int .i64 (z : Int) ∧ AW wz wA.heap.size (some ⟨g, 0, none⟩) al am L ∧ Below wA.heap.size wA wz ∧ U8X wz wA.heap.size dn dq ∧ wz.heap[g]? = some (.cells cur 47 (0, 0))) (fun i _ => dn - (intOf i).toNat)
            case atStart => exact ⟨0, by omega, rfl, HKA.out, HBW.out, HUR.out⟩
            case round =>
              obtain ⟨z, hz, rfl, haw, hbw, hu, hrow⟩ := hrel
              have HAZ : Hid (AW wr wA.heap.size (some ⟨g, 0, none⟩) al am L ∧ Below wA.heap.size wA wr) := ⟨haw, hbw⟩
              have z2 : wr.cell? ⟨g, k * 3 + 2, none⟩ = some (.slice dq dn dm) := by rw [cell_of_row wr g (k * 3 + 2) cur _ _ hrow]; exact HCUR.out
              have HRW : Hid (wr.heap[g]? = some (.cells cur 47 (0, 0))) := hrow
              clear haw hbw hrow
              by_cases hzl : z < dn
              · have hzI : (z : Int) < (dn : Int) := by omega
                have hz0 : (0 : Int) ≤ (z : Int) := by omega
                have HZL : Hid (z < dn) := hzl
                rcases dq with _ | a
                · exact absurd (show dn = 0 from hu) (by omega)
                · have HUU : Hid (U8X wr wA.heap.size dn (some a)) := hu
                  obtain ⟨gg, rfl, hgb, cs, hgg, hn, hc⟩ := hu
                  obtain ⟨xx, hx⟩ := hc z hzl
                  have hcell := cell_of_row wr gg z _ _ _ hgg
                  rw [hx] at hcell
                  have hf := frozen_of_row wr gg z _ _ hgg
                  have hne : g ≠ gg := by
                    rintro rfl
                    have h := HRW.out
                    rw [hgg] at h
                    cases h
                  have HN : Hid (AW (wr.setCell ⟨gg, z, none⟩ (.int .u8 77)) wA.heap.size (some ⟨g, 0, none⟩) al am L ∧ Below wA.heap.size wA (wr.setCell ⟨gg, z, none⟩ (.int .u8 77)) ∧ U8X (wr.setCell ⟨gg, z, none⟩ (.int .u8 77)) wA.heap.size dn (some ⟨gg, 0, none⟩) ∧ (wr.setCell ⟨gg, z, none⟩ (.int .u8 77)).heap[g]? = some (.cells cur 47 (0, 0))) := ⟨HAZ.out.1.set gg z 77 hgg, HAZ.out.2.setCell hgb _, HUU.out.set gg z 77, (set_keep hne).trans HRW.out⟩
                  clear hgg hc hx hzl hz hn hne hgb
                  go_wp2
                  go_roundw
                  case rel => exact ⟨z + 1, HZL.out, by go_num, HN.out⟩
                  case measure => have := HZL.out; simp [intOf]; omega
              · have hzI : (dn : Int) ≤ (z : Int) := by omega
                clear hzl hz hu
                go_wp2
                go_roundw
                case rel => exact ⟨k + 1, HKL.out, by go_num, HAZ.out⟩
                case measure => have := HKL.out; simp [intOf]; omega
          · have hkI : (al : Int) ≤ (k : Int) := by omega
            have HBZ : Hid (Below w.heap.size w wr ∧ Below w6.heap.size w6 wr) := ⟨below_bt HBA.out.1 HBW.out, below_bt HBA.out.2 HBW.out⟩
            have HBX2 : Hid (wr.heap[w.heap.size]? = some (.cells #[.int .i64 count, .slice p dl c, .slice q wl m] 25 (0, 0)) ∧ wr.heap[w4.heap.size]? = some (.cells #[.int .i64 count, .slice pT dl cT, .slice qT wl mT] 25 (0, 0))) := ⟨carryB HBW.out HBX.out.1, carryB HBW.out HBX.out.2.1⟩
            have HCI : Hid (CsIn wr iq l ∧ CsIn wr lq l ∧ ln = l.length) := ⟨(HI6.out.below HBZ.out.2).lies, (HCH.out.1.below HBZ.out.1).lies, HCH.out.1.len⟩
            clear hkl hk HKA HBX HMA HNA HINA HDA HTV HAL HLA hla ham1 ham2 hi2
            go_wp2
            go_loopw [23] (fun i wx => ∃ k : Nat, k ≤ ln ∧ i = .int .i64 (k : Int) ∧ Below wr.heap.size wr wx) (fun i _ => ln - (intOf i).toNat)
            case atStart => exact ⟨0, by omega, rfl, Below.refl _ _⟩
            case round =>
              obtain ⟨j, hj, rfl, hbx⟩ := hrel
              have HBXX : Hid (Below _ _ wr) := hbx
              by_cases hjl : j < ln
              · have hjI : (j : Int) < (ln : Int) := by omega
                have hj0 : (0 : Int) ≤ (j : Int) := by omega
                have HJL : Hid (j < ln) := hjl
                have hjm : (ln : Int) ≤ (ln : Int) := Int.le_refl _
                have hjl2 : j < l.length := by have := HCI.out.2.2; omega
                obtain ⟨b1, o1, rfl⟩ := HCI.out.1.addr (by omega)
                obtain ⟨b2, o2, rfl⟩ := HCI.out.2.1.addr (by omega)
                obtain ⟨z0, z1, z2⟩ := (HCI.out.1.below hbx).at hjl2
                obtain ⟨t0, t1, t2⟩ := (HCI.out.2.1.below hbx).at hjl2
                generalize l.getD j zeroCV = y at *
                obtain ⟨ck, cv, cg⟩ := y
                simp only at z0 z1 z2 t0 t1 t2
                clear hjl hjl2 hj hbx
                go_wp2
                go_quiet (fail)
                have HD2 : Hid (Below _ _ (wr.drewN nq)) := below_drewN HBXX.out _
                go_wp2
                go_roundw
                case rel => exact ⟨j + 1, HJL.out, by go_num, HD2.out⟩
                case measure => have := HJL.out; simp [intOf]; omega
              · have hjI : (ln : Int) ≤ (j : Int) := by omega
                have hbZ := HBZ.out
                obtain ⟨o0, o1, o2⟩ := three_cells (carryB hbx HBX2.out.2)
                obtain ⟨d0, d1, d2⟩ := three_cells (carryB hbx HBX2.out.1)
                have hsm := rsame_any _ _ count count data data ws ws wr (HT6.out.below (below_bt HBZ.out.2 hbx)) (HD.out.below (below_bt HBZ.out.1 hbx)) true ⟨fun _ => ⟨rfl, rfl, rfl⟩, fun _ => rfl⟩
                have HBF : Hid (Below w.heap.size w wr) := below_bt HBZ.out.1 hbx
                clear hjl hj hbx hbZ
                go_wp2_with fail
                refine hsm.mono ?_
                rintro e wz ⟨rfl, hbz⟩
                have HBZZ : Hid (Below w.heap.size w wz) := below_bt HBF.out hbz
                clear hbz hsm o0 o1 o2 d0 d1 d2
                go_wp2
                go_ret
                exact ⟨rfl, HBZZ.out⟩
end Go.Proofs.YtglcpfnpbcnejaaGreatDoor
namespace Go.Proofs.YtglcpfnpbcnejaaGreatDoor
open Go.RowKit Go.WideShapes Rm

theorem lh.rt : (Tryz.prog.cutTypes.find? (·.1 == "internal/reflectlite.rtype")).map (·.2) = some 181 := by kernel_rfl
theorem lh.et : Tryz.prog.globalNamed "errors.errorType" = some 0 := by kernel_rfl
theorem lh.size : Tryz.prog.types.size = 312 := by kernel_rfl
theorem lh.oneRow : ((List.range 312).filter fun t => Tryz.prog.rowNamed t [101, 114, 114, 111, 114]) = [76] := by kernel_rfl
theorem lh.handle : typeHandle Tryz.prog 76 = .pointer (some ⟨5, 76, none⟩) := by kernel_rfl
def laidL : List (String × DataW Unit) := [("math/bits.deBruijn32tab", Rows.laid_math_bits_deBruijn32tab), ("math/bits.deBruijn64tab", Rows.laid_math_bits_deBruijn64tab), ("internal/strconv.uint64pow10", Rows.laid_internal_strconv_uint64pow10), ("errors.errorType", Rows.laid_errors_errorType)]
theorem errT_of {W : World} (h : handlesMet Tryz.prog [("errors.errorType", Rows.laid_errors_errorType)] W) : ErrT W := by
  obtain ⟨name, u, ty, e1, e2, e3, e4, e5⟩ := h _ (List.mem_singleton.2 rfl)
  have en : name = [101, 114, 114, 111, 114] := (Option.some.inj e1).symm
  subst en
  obtain rfl := Option.some.inj (lh.rt.symm.trans e2)
  have hm : ty ∈ (List.range 312).filter fun t => Tryz.prog.rowNamed t [101, 114, 114, 111, 114] := List.mem_filter.2 ⟨List.mem_range.2 (by rw [← lh.size]; exact e3), e4⟩
  rw [lh.oneRow] at hm
  obtain rfl := List.mem_singleton.1 hm
  rw [lh.handle] at e5
  simpa [ErrT] using World.var?_cell lh.et e5 0
theorem tab_of {W : World} (h : laidMet Tryz.prog [("internal/strconv.uint64pow10", Rows.laid_internal_strconv_uint64pow10)] W) : Lib.TabIs Tryz.prog W "internal/strconv.uint64pow10" .u64 Lib.pow10Tab :=
  Lib.tabIs_of_head (rest := []) g_pow (t := 276) (e := 141) (n := 20) (by kernel_rfl) Tryz.underlying276 Tryz.underlying141 (by kernel_rfl) (by kernel_rfl) h
theorem laid_of {W : World} (h : laidMetH Tryz.prog laidL W) : Laid W := by
  obtain ⟨h1, h2⟩ := laidMetH_iff.1 h
  refine ⟨errT_of fun x hx => h2 x ?_, tab_of ?_⟩
  · rw [List.mem_singleton.1 hx]
    exact List.mem_filter.2 ⟨by simp [laidL], by rfl⟩
  · have h3 := h1.filter (fun x => x.1 == "internal/strconv.uint64pow10")
    exact h3
end Go.Proofs.YtglcpfnpbcnejaaGreatDoor
namespace Go.Proofs.YtglcpfnpbcnejaaGreatDoor
set_option maxRecDepth 8000
open Go.RowKit Go.WideShapes Go.ChangeShapes Go.Deep Go.Joins

section
variable {P : Program} {w : World} {H : Type} {enc : TypeId × Value → H}
theorem open_bytes_sized {t e : TypeId} {n : Nat} {v : Value} {x : DataW H × List MemPlace} (ht : P.underlying t = some (.slice e)) (he : P.underlying e = some (.int .u8)) (hc : P.cellsOf e = 1) (hby : P.bytesOf e = 1)
    (h : DataW.trod enc P w 0 (fun _ => true) true n t [v] = some x) (hw : ∀ k ∈ x.1.weights P t, k ≤ reachBytes) : ∃ xs, Row w v xs ∧ xs.length ≤ reachBytes := by
  obtain ⟨xs, hx⟩ := open_bytes ht he hc h
  refine ⟨xs, hx, ?_⟩
  obtain ⟨p, c, rfl, _⟩ := hx.lies
  rcases open_ints ht he hc h with ⟨hcs, _⟩ | ⟨a, len, cap, zs, hcs, _, hl, hm, hz, rfl, hcell, hwz⟩
  · simp only [List.cons.injEq, Value.slice.injEq, and_true] at hcs
    rw [hcs.2.1]; exact Nat.zero_le _
  · simp only [List.cons.injEq, Value.slice.injEq, and_true] at hcs
    have := hw (((lits .u8 (zs.take len) : List (DataW H)).length + (lits .u8 (zs.drop len) : List (DataW H)).length) * P.bytesOf e) (by simp [DataW.weights, ht])
    rw [hby] at this
    have hz' : zs.length = cap := by simpa using hz
    simp only [lits, List.length_map, List.length_take, List.length_drop] at this
    omega
theorem weightsAll_mem {e : TypeId} {l : List (DataW H)} {d : DataW H} (hd : d ∈ l) {k : Nat} (hk : k ∈ d.weights P e) : k ∈ DataW.weightsAll P e l := by
  induction l with
  | nil => cases hd
  | cons a l ih =>
    simp only [DataW.weightsAll, List.mem_append]
    rcases List.mem_cons.1 hd with rfl | h
    · exact .inl hk
    · exact .inr (ih h)
theorem puts_sized {t e tb eb : TypeId} {f0 f1 : Field} {n : Nat} {v : Value} {x : DataW H × List MemPlace} (ht : P.underlying t = some (.slice e)) (he : P.underlying e = some (.struct #[f0, f1])) (ce : P.cellsOf e = 2) (o0 : f0.offset = 0) (o1 : f1.offset = 1)
    (c0 : P.cellsOf f0.type = 1) (c1 : P.cellsOf f1.type = 1) (k1 : f1.type = tb) (hb : P.underlying tb = some (.slice eb)) (heb : P.underlying eb = some (.int .u8)) (hceb : P.cellsOf eb = 1) (hby : P.bytesOf eb = 1)
    (h : DataW.trod enc P w 0 (fun _ => true) true n t [v] = some x) (hw : ∀ k ∈ x.1.weights P t, k ≤ reachBytes) {q : Option Addr} {c : Nat} {ws : List (Int × List Nat)} (hv : v = .slice q ws.length c) (hp : PutsIn w q ws) : ∀ y ∈ ws, y.2.length ≤ reachBytes := by
  subst k1
  subst hv
  rcases open_slice_pairs ht he ce o0 o1 c0 c1 h with ⟨hcs, _⟩ | ⟨a, len, cap, m, k, V0, V1, D0, D1, P0, P1, hcs, _, hl, hm, hmm, rfl, hel⟩
  · simp only [List.cons.injEq, Value.slice.injEq, and_true] at hcs
    intro y hy
    obtain rfl : ws = [] := List.eq_nil_of_length_eq_zero hcs.2.1
    cases hy
  · simp only [List.cons.injEq, Value.slice.injEq, and_true] at hcs
    obtain ⟨rfl, hlen, rfl⟩ := hcs
    have hmc : m = c := by simpa using hmm
    intro y hy
    obtain ⟨i, hi, rfl⟩ := List.getElem_of_mem hy
    obtain ⟨b, o, e1, hc⟩ := hp (by omega)
    simp only [Option.some.injEq] at e1
    subst e1
    obtain ⟨_, g1, _, t1⟩ := hel i (by omega)
    obtain ⟨_, vv, g2, hr⟩ := hc i hi
    rw [add_plain] at g1
    rw [g1] at g2
    simp only [Option.some.injEq] at g2
    subst g2
    obtain ⟨xs, hx, hxl⟩ := open_bytes_sized hb heb hceb hby t1 (fun k' hk' => hw k' (by
      simp only [DataW.weights, ht, List.mem_cons, List.mem_append]
      refine .inr (.inl (weightsAll_mem (d := .agg [D0 i, D1 i]) (List.mem_map.2 ⟨i, List.mem_range.2 (by omega), rfl⟩) ?_))
      simp only [DataW.weights, he]
      simp only [List.map_cons, List.map_nil, DataW.weightsEach, List.mem_append]
      exact .inr (.inl hk')))
    obtain ⟨p1, c1', e1, _⟩ := hr.lies
    obtain ⟨p2, c2', e2, _⟩ := hx.lies
    rw [e1] at e2
    simp only [Value.slice.injEq] at e2
    have e3 : ws.getD i (0, []) = ws[i] := by simp [List.getD, List.getElem?_eq_getElem hi]
    rw [e3] at e2
    omega
theorem open_disk_sized {tD t e tb eb : TypeId} {d0 d1 d2 f0 f1 : Field} {r : Reach} {b0 : Nat} {v : Value} {d : DataW H} {p : List MemPlace}
    (hD : P.underlying tD = some (.struct #[d0, d1, d2])) (hone : oneCellFields P #[d0, d1, d2] = true) (hC : P.cellsOf tD = 3)
    (kd0 : P.underlying d0.type = some (.int .i64)) (kd1 : d1.type = tb) (kd2 : d2.type = t)
    (ht : P.underlying t = some (.slice e)) (he : P.underlying e = some (.struct #[f0, f1])) (ce : P.cellsOf e = 2) (o0 : f0.offset = 0) (o1 : f1.offset = 1)
    (c0 : P.cellsOf f0.type = 1) (c1 : P.cellsOf f1.type = 1) (k0 : P.underlying f0.type = some (.int .i64)) (k1 : f1.type = tb) (hb : P.underlying tb = some (.slice eb)) (heb : P.underlying eb = some (.int .u8)) (hceb : P.cellsOf eb = 1) (hby : P.bytesOf eb = 1)
    (hv : Value.okWide P w r b0 tD v) (h : DataW.Trod enc P w 0 (fun _ => true) true tD v d p) (hw : ∀ k ∈ d.weights P tD, k ≤ reachBytes) : ∃ count data ws, DiskIn w v count data ws ∧ ∀ y ∈ ws, y.2.length ≤ reachBytes := by
  obtain ⟨v0, v1, v2, y0, y1, y2, n, rfl, rfl, _, h0, h1, h2⟩ := open_agg3 hD hone hC hv h
  obtain ⟨z, hz, _, wz⟩ := DataW.trod_int kd0 h0
  simp only [List.cons.injEq, and_true] at hz
  subst hz
  rw [kd1] at h1
  rw [kd2] at h2
  obtain ⟨xs, hx⟩ := open_bytes hb heb hceb h1
  obtain ⟨q, ws, c, hv2, g1, g2, g3, g4, g5⟩ := open_puts ht he ce o0 o1 c0 c1 k0 k1 hb heb hceb h2
  refine ⟨z, xs, ws, ⟨⟨v1, q, c, by rw [hv2], hx, g1, g2, g3, g4⟩, wz, g5⟩, ?_⟩
  refine puts_sized ht he ce o0 o1 c0 c1 k1 hb heb hceb hby h2 (fun k hk => hw k ?_) hv2 g1
  simp only [DataW.weights, hD]
  simp only [List.map_cons, List.map_nil, DataW.weightsEach, List.mem_append]
  exact .inr (.inr (.inl (by rw [kd2]; exact hk)))
end
end Go.Proofs.YtglcpfnpbcnejaaGreatDoor
namespace Go.Proofs.YtglcpfnpbcnejaaGreatDoor
open Go.RowKit

noncomputable def tabCells : DataW Unit → Array Value
  | .agg l => (l.map fun | .lit (.int k z) => .int k z | _ => .nilIface).toArray
  | _ => #[]
noncomputable def layCells (cs : Array Value) : Obj → Obj
  | .cells _ t frozen => .cells cs t frozen
  | o => o
noncomputable def gIx (s : String) : Nat := (Tryz.prog.globalNamed s).getD 0
noncomputable def laidWorld (os : Os) : World :=
  let w0 := World.holding Tryz.prog os ⟨#[], #[], []⟩
  { w0 with heap := ((((w0.heap.modify (gIx "math/bits.deBruijn32tab") (layCells (tabCells Rows.laid_math_bits_deBruijn32tab))).modify (gIx "math/bits.deBruijn64tab") (layCells (tabCells Rows.laid_math_bits_deBruijn64tab))).modify (gIx "internal/strconv.uint64pow10") (layCells (tabCells Rows.laid_internal_strconv_uint64pow10))).modify (gIx "errors.errorType") (layCells #[.iface 181 (.agg #[.pointer (some ⟨5, 76, none⟩)])])) }
def laidLs : List (String × DataW Unit) := [("math/bits.deBruijn32tab", Rows.laid_math_bits_deBruijn32tab), ("math/bits.deBruijn64tab", Rows.laid_math_bits_deBruijn64tab), ("internal/strconv.uint64pow10", Rows.laid_internal_strconv_uint64pow10), ("errors.errorType", Rows.laid_errors_errorType)]
theorem laidWorld_met (os : Os) (args : Array Value) : laidMetH Tryz.prog laidLs ((laidWorld os).forCall (fun _ _ => 0) ⟨#[], args, []⟩).memory :=
  laidMetH_of_parts (laidMet_of_run' 8 (by kernel_rfl) (by kernel_rfl)) (by kernel_rfl)
end Go.Proofs.YtglcpfnpbcnejaaGreatDoor
