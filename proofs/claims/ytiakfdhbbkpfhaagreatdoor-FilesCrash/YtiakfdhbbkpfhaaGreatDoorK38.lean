/-
  The law FilesCrash walked.
-/
import Derived.Test.YtiakfdhbbkpfhaaGreatDoorJ34
import Derived.Test.YtiakfdhbbkpfhaaGreatDoorJ24
import Derived.Deep.CutRange
import Derived.Test.YtiakfdhbbkpfhaaGreatDoorJ36
import Derived.Deep.RegionWith
namespace Go.Proofs.YtiakfdhbbkpfhaaGreatDoor
open Go.RowKit Go.WideShapes Rm

/-- A disk in a box of the call's own. -/
structure Boxed (w0 w : World) (B : Nat) (count : Int) (p : Option Addr) (D c : Nat) (q : Option Addr) (z m : Nat) (data : List Nat) (ws : Puts) : Prop where
  box : w.heap[B]? = some (.cells #[.int .i64 count, .slice p D c, .slice q z m] 25 (0, 0))
  disk : DiskIn w (.agg #[.int .i64 count, .slice p D c, .slice q z m]) count data ws
  below : Below w0.heap.size w0 w
def zd : Array Value := #[.int .i64 0, .slice none 0 0, .slice none 0 0]
theorem boxz3 (w1 : World) {W w2 : World} (h : Below W.heap.size W w2) (hW : W.heap[w1.heap.size]? = some (.cells zd 25 (0, 0))) :
    Hid (w2.heap[w1.heap.size]? = some (.cells zd 25 (0, 0))) ∧ w2.cell? ⟨w1.heap.size, 0, none⟩ = some (.int .i64 0) ∧ w2.cell? ⟨w1.heap.size, 1, none⟩ = some (.slice none 0 0) ∧ w2.cell? ⟨w1.heap.size, 2, none⟩ = some (.slice none 0 0) ∧ w2.frozen? ⟨w1.heap.size, 0, none⟩ = false ∧ w2.frozen? ⟨w1.heap.size, 1, none⟩ = false ∧ w2.frozen? ⟨w1.heap.size, 2, none⟩ = false := by
  have hh := (h.block _ (lt_heap hW)).trans hW
  exact ⟨hh, cell_of_row _ _ 0 _ _ _ hh, cell_of_row _ _ 1 _ _ _ hh, cell_of_row _ _ 2 _ _ _ hh, frozen_of_row _ _ _ _ _ hh, frozen_of_row _ _ _ _ _ hh, frozen_of_row _ _ _ _ _ hh⟩
/-- The disk that Do answered, laid down. -/
theorem boxed_behind {w1 w2 : World} {count : Int} {p q : Option Addr} {D c z m base : Nat} {data : List Nat} {ws : Puts} (hf : DiskF base w2 (.agg #[.int .i64 count, .slice p D c, .slice q z m]) count data ws) (hb : Below w1.heap.size w1 w2) :
    Boxed w1 (w2.alloc (.cells #[.int .i64 count, .slice p D c, .slice q z m] 25)) w2.heap.size count p D c q z m data ws :=
  ⟨heap_alloc_new _ _, hf.below (below_alloc _ _), below_bt hb (below_alloc _ _)⟩
theorem boxed_ahead {w1 w2 : World} {count : Int} {p q : Option Addr} {D c z m base : Nat} {data : List Nat} {ws : Puts} (hf : DiskF base w2 (.agg #[.int .i64 count, .slice p D c, .slice q z m]) count data ws) (hlt : w1.heap.size < base) (hb : Below w1.heap.size w1 w2) (hz : w2.heap[w1.heap.size]? = some (.cells zd 25 (0, 0))) :
    Boxed w1 (((w2.setCell ⟨w1.heap.size, 0, none⟩ (.int .i64 count)).setCell ⟨w1.heap.size, 1, none⟩ (.slice p D c)).setCell ⟨w1.heap.size, 2, none⟩ (.slice q z m)) w1.heap.size count p D c q z m data ws :=
  ⟨set3_same w2 w1.heap.size _ _ _ _ _ _ _ hz, hf.set3 hlt _ _ _, set3_below hb (Nat.le_refl _) _ _ _⟩
theorem Boxed.drew {w0 w : World} {B : Nat} {count : Int} {p q : Option Addr} {D c z m : Nat} {data : List Nat} {ws : Puts} (h : Boxed w0 w B count p D c q z m data ws) : Boxed w0 w.drew B count p D c q z m data ws :=
  ⟨h.box, h.disk.below (by exact (Below.refl _ _).drew), h.below.drew⟩
end Go.Proofs.YtiakfdhbbkpfhaaGreatDoor
namespace Go.Proofs.YtiakfdhbbkpfhaaGreatDoor
open Go.RowKit Go.WideShapes Rm

set_option maxRecDepth 20000 in
set_option maxHeartbeats 4000000 in
theorem law_crash (v : Value) (count : Int) (data : List Nat) (ws : Puts) (lq : Option Addr) (ln lc : Nat) (l : List CV) (nn : Int) (kq : Option Addr) (keep : List Bool) (kc : Nat) (w : World) (hL : Laid w) (hd : DiskIn w v count data ws) (hl : ChgIn w lq ln lc l) (hvs : ∀ y ∈ l, (y.val.size : Int) ≤ 9223372036854775807) (hni : (Lit.int .i64 nn).wf = true) (hke : BoolsIn w kq keep) (hkl : keep.length ≤ 9223372036854775807) :
    Calls Tryz.prog 6 #[v, .slice lq ln lc, .int .i64 nn, .slice kq keep.length kc] w fun e w' => e = .returned (.bool true) ∧ Below w.heap.size w w' := by
  obtain ⟨p, c, q, m, rfl, _⟩ := hd.parts
  have HL : Hid (Laid w) := hL
  have HD : Hid (DiskIn w (.agg #[.int .i64 count, .slice p data.length c, .slice q ws.length m]) count data ws) := hd
  have HCH : Hid (ChgIn w lq ln lc l) := hl
  have HVS : Hid (∀ y ∈ l, (y.val.size : Int) ≤ 9223372036854775807) := hvs
  obtain ⟨r, n, hm⟩ := mountIs_ex count data ws
  have HM : Hid (MountIs count data ws r n) := hm
  obtain ⟨dl, hdl⟩ : ∃ k, data.length = k := ⟨_, rfl⟩
  obtain ⟨wl, hwl⟩ : ∃ k, ws.length = k := ⟨_, rfl⟩
  rw [hdl, hwl] at HD ⊢
  have HWL : Hid (ws.length = wl) := hwl
  obtain ⟨kl, hkle⟩ : ∃ k, keep.length = k := ⟨_, rfl⟩
  have HKE : Hid (BoolsIn w kq keep ∧ keep.length = kl ∧ kl ≤ 9223372036854775807) := ⟨hke, hkle, by omega⟩
  rw [hkle]
  have hklI : (kl : Int) ≤ 9223372036854775807 := by omega
  obtain ⟨w0, hw0⟩ : ∃ w0, w.alloc (.cells #[.int .i64 count, .slice p dl c, .slice q wl m] 25) = w0 := ⟨_, rfl⟩
  have HB0 : Hid (Below w.heap.size w w0) := by show Below _ _ _; rw [← hw0]; exact below_alloc _ _
  have HX0 : Hid (w0.heap[w.heap.size]? = some (.cells #[.int .i64 count, .slice p dl c, .slice q wl m] 25 (0, 0))) := by show _ = _; rw [← hw0]; exact heap_alloc_new _ _
  have hal := alive_t w0 (HL.out.below HB0.out)
  clear hd hL hm hdl hwl hl hvs hke hkl hkle
  go_enter Tryz.func6, Tryz.ntmps6
  go_upto_region 1 with fail
  (try rw [hw0])
  clear hw0
  go_wp2_with fail
  refine hal.mono ?_
  rintro e w1 ⟨rfl, hb1⟩
  have HB1 : Hid (Below w.heap.size w w1) := below_bt HB0.out hb1
  have HX1 : Hid (w1.heap[w.heap.size]? = some (.cells #[.int .i64 count, .slice p dl c, .slice q wl m] 25 (0, 0))) := (hb1.block _ (lt_heap HX0.out)).trans HX0.out
  obtain ⟨d0, d1, d2⟩ := three_cells HX1.out
  clear hal hb1
  have hlg := large4_any _ count data ws w1 (HD.out.below HB1.out)
  go_wp2_with fail
  refine hlg.mono ?_
  rintro e w2 ⟨rfl, hb2⟩
  have HB2 : Hid (Below w.heap.size w w2) := below_bt HB1.out hb2
  have HX2 : Hid (w2.heap[w.heap.size]? = some (.cells #[.int .i64 count, .slice p dl c, .slice q wl m] 25 (0, 0))) := (hb2.block _ (lt_heap HX1.out)).trans HX1.out
  clear hlg hb2 d0 d1 d2
  by_cases hlarge : largeL count data ws
  · have e1 : decide (largeL count data ws) = true := by simpa using hlarge
    rw [e1]
    clear e1 hlarge
    go_wp2
    go_ret
    exact ⟨rfl, HB2.out⟩
  · have e1 : decide (largeL count data ws) = false := by simpa using hlarge
    rw [e1]
    have HNL : Hid (¬ largeL count data ws) := hlarge
    clear hlarge e1
    have hhv := heavy_any lq ln lc l w2 HCH.out.len (HCH.out.below HB2.out).lies HCH.out.fits HVS.out
    go_wp2_with fail
    refine hhv.mono ?_
    rintro e w3 ⟨hr, rfl, hfew, hb3⟩
    have HB3 : Hid (Below w.heap.size w w3) := below_bt HB2.out hb3
    have HX3 : Hid (w3.heap[w.heap.size]? = some (.cells #[.int .i64 count, .slice p dl c, .slice q wl m] 25 (0, 0))) := (hb3.block _ (lt_heap HX2.out)).trans HX2.out
    clear hhv hb3
    cases hr with
    | true =>
      clear hfew hni
      go_wp2
      go_ret
      exact ⟨rfl, HB3.out⟩
    | false =>
      have HFW : Hid (l.length ≤ 200 ∧ ∀ y ∈ l, y.val.size ≤ 700000) := hfew rfl
      clear hfew
      obtain ⟨d0, d1, d2⟩ := three_cells HX3.out
      by_cases hw0 : wl = 0
      · subst hw0
        have hws : ws = [] := List.eq_nil_of_length_eq_zero HWL.out
        subst hws
        by_cases hk1 : kl ≤ 10000
        · have hk1I : (kl : Int) ≤ 10000 := by omega
          have HK1 : Hid (kl ≤ 10000) := hk1
          clear hk1
          have hT := Turn_any _ count data [] lq ln lc l w3 (HL.out.below HB3.out) (HD.out.below HB3.out) r n HM.out (HCH.out.below HB3.out) (fun y hy => by have := HFW.out.2 y hy; omega)
          go_wp2_with fail
          refine hT.mono ?_
          rintro e w4 ⟨mm, A, av, L, hS, rfl, hown, hLA, hb4⟩
          have HS : Hid (TurnIs count data [] r n l mm A) := hS
          obtain ⟨aq, am, rfl, _, _, _⟩ := hown.form
          have HB4 : Hid (Below w.heap.size w w4) := below_bt HB3.out hb4
          have HX4 : Hid (w4.heap[w.heap.size]? = some (.cells #[.int .i64 count, .slice p dl c, .slice q 0 m] 25 (0, 0))) := (hb4.block _ (lt_heap HX3.out)).trans HX3.out
          have hlies := hown.lies
          have HLI : Hid (L.length = A.length ∧ ActsIn w4 aq A ∧ L.length ≤ am ∧ am ≤ maxLen) := ⟨by rw [← hLA, List.length_map], by rw [← hLA]; exact hlies.2.1, hlies.2.2.1, hlies.2.2.2⟩
          obtain ⟨al, hal2⟩ : ∃ k, L.length = k := ⟨_, rfl⟩
          rw [hal2] at HLI ⊢
          clear hT hb4 hown hLA hS hlies d0 d1 d2 hal2
          by_cases hm0 : mm = 0
          · subst hm0
            have halI : (al : Int) ≤ 9223372036854775807 := by have := HLI.out.2.2; unfold maxLen at this; omega
            by_cases hn0 : nn < 0
            · clear hni
              go_wp2
              go_ret
              exact ⟨rfl, HB4.out⟩
            · by_cases hna : (al : Int) < nn
              · clear hni
                go_wp2
                go_ret
                exact ⟨rfl, HB4.out⟩
              · obtain ⟨k, rfl⟩ : ∃ k : Nat, nn = (k : Int) := ⟨nn.toNat, by omega⟩
                have hka : k ≤ al := by omega
                have HKA : Hid (k ≤ al) := hka
                have hk0 : (0 : Int) ≤ (k : Int) := by omega
                have hkaI : (k : Int) ≤ (al : Int) := by omega
                have ham : al ≤ am := HLI.out.2.2.1
                have hamI : (k : Int) ≤ (am : Int) := by omega
                have hamM : (am : Int) ≤ 9223372036854775807 := by have := HLI.out.2.2.2; unfold maxLen at this; omega
                have hok : Okay count data [] := by
                  obtain ⟨x, y, a, o, fs, _, hk⟩ := turnIs_ok HM.out HS.out
                  exact hk.ho
                obtain ⟨D, W, z, s, hdo, hokD, hmz, hor⟩ := turn_crashM HD.out HM.out HS.out (count_few hok HNL.out).1 k (by have := HLI.out.1; omega) keep
                have HC : Hid (doAny count data [] (A.take k) = .ok (D, W) ∧ Okay count D W) := ⟨hdo, hokD⟩
                have HMZ : Hid (MountIs count (crashN D W keep) [] (some (z, s)) 0) := hmz
                have HOR : Hid (HasAll (crashN D W keep) [] (some (z, s)) 0 (map2L l (startC data [] r n)) ∨ (k < al ∧ HasAll (crashN D W keep) [] (some (z, s)) 0 (map2L [] (startC data [] r n)))) := by
                  rcases hor with h | ⟨h1, h2⟩
                  · exact .inl h
                  · exact .inr ⟨by have := HLI.out.1; omega, h2⟩
                have HDO : Hid (∀ w', Below w4.heap.size w4 w' → Calls Tryz.prog 15 #[.agg #[.int .i64 count, .slice p dl c, .slice q 0 m], .slice aq k am] w' fun e w2 => ∃ p7 D7 c7 q7 z7 m7, e = .returned (.tuple #[.agg #[.int .i64 count, .slice p7 D7 c7, .slice q7 z7 m7], .int .i64 0]) ∧ DiskF w'.heap.size w2 (.agg #[.int .i64 count, .slice p7 D7 c7, .slice q7 z7 m7]) count D W ∧ Below w'.heap.size w' w2) := fun w' hb' => by
                  have hlen : k = (A.take k).length := by rw [List.length_take]; have := HLI.out.1; omega
                  refine (do_all _ count data [] w' ((HD.out.below HB4.out).below hb') aq k am (A.take k) hlen (acts_take (HLI.out.2.1.below hb') k) (by rw [← hlen]; omega) _ HC.out.1).mono ?_
                  rintro e w2 ⟨⟨v', he, hf⟩, hb⟩
                  simp only [resE, resC, resD, resW] at he hf
                  obtain ⟨p7, c7, q7, m7, rfl, _⟩ := hf.self.parts
                  exact ⟨p7, _, c7, q7, _, m7, he, hf, hb⟩
                clear hdo hokD hmz hor hok hka hna hn0 hni ham
                have hnew : ∀ o, (w4.alloc o).drew.heap[w4.heap.size]? = some o := fun o => heap_alloc_new w4 o
                have hlt4 : w.heap.size < w4.heap.size := lt_heap HX4.out
                obtain ⟨c0, c1, c2⟩ := three_cells HX4.out
                go_upto_region 9 with fail
                go_cut [12, 13] from 16 (fun s12 s13 wx => ∃ B' p7 D7 c7 q7 z7 m7, s12 = .pointer (some ⟨B', 0, none⟩) ∧ s13 = .int .i64 0 ∧ Boxed w4 wx B' count p7 D7 c7 q7 z7 m7 D W)
                case first =>
                  go_region_with (go_at_call 15; refine (HDO.out _ ?_).mono ?_; (first | exact (Below.refl _ _).drew | exact ((Below.refl _ _).drew).alloc (by simp) _); rintro e w5 ⟨p7, D7, c7, q7, z7, m7, rfl, hf5, hb5⟩; have hz := boxz3 w4 hb5; try (simp only [hnew] at hz; obtain ⟨HZ, z0, z1, z2, y0, y1, y2⟩ := hz rfl))
                  all_goals
                    go_wp2
                    go_meet
                    case rel =>
                      first
                        | exact ⟨_, p7, D7, c7, q7, z7, m7, rfl, rfl, boxed_behind hf5 (below_drC hb5)⟩
                        | exact ⟨_, p7, D7, c7, q7, z7, m7, rfl, rfl, boxed_ahead hf5 (by simp) (((Below.refl w4.heap.size w4).alloc (Nat.le_refl _) _).drew.trans (hb5.mono (by simp))) HZ.out⟩
                case rest =>
                  obtain ⟨B', p7, D7, c7, q7, z7, m7, rfl, rfl, hbx⟩ := hcut
                  have HBX : Hid (Boxed w4 wc B' count p7 D7 c7 q7 z7 m7 D W) := hbx
                  have HB7 : Hid (Below w.heap.size w wc) := below_bt HB4.out hbx.below
                  have HX7 : Hid (wc.heap[w.heap.size]? = some (.cells #[.int .i64 count, .slice p dl c, .slice q 0 m] 25 (0, 0))) := (hbx.below.block _ (lt_heap HX4.out)).trans HX4.out
                  clear hbx hnew c0 c1 c2 HDO hlt4
                  obtain ⟨c0, c1, c2⟩ := three_cells HBX.out.box
                  have HCR : Hid (Calls Tryz.prog 28 #[.agg #[.int .i64 count, .slice p7 D7 c7, .slice q7 z7 m7], .slice kq kl kc] wc fun e w2 => ∃ p8 D8 c8 q8 z8 m8, e = .returned (.tuple #[.agg #[.int .i64 count, .slice p8 D8 c8, .slice q8 z8 m8], .int .i64 0]) ∧ (∀ w3, Below w2.heap.size w2 w3 → DiskIn w3 (.agg #[.int .i64 count, .slice p8 D8 c8, .slice q8 z8 m8]) count (crashN D W keep) []) ∧ Below wc.heap.size wc w2) := by
                    have h1 := crash_ok _ count D W wc HBX.out.disk HC.out.2 kq kc keep (HKE.out.1.below HB7.out) (by have := HKE.out.2; omega)
                    rw [HKE.out.2.1] at h1
                    refine h1.mono ?_
                    rintro e w2 ⟨⟨v', he, hf⟩, hb⟩
                    have hin := hf.toIn (okay_crashed HC.out.2 keep)
                    obtain ⟨p8, c8, q8, m8, rfl, _⟩ := hin.parts
                    exact ⟨p8, _, c8, q8, _, m8, he, fun w3 h3 => hin.below h3, hb⟩
                  go_wp2_with fail
                  refine HCR.out.mono ?_
                  rintro e w6 ⟨p8, D8, c8, q8, z8, m8, rfl, hin8, hb6⟩
                  obtain ⟨w8, hw8⟩ : ∃ w8, w6.alloc (.cells #[.int .i64 count, .slice p8 D8 c8, .slice q8 z8 m8] 25) = w8 := ⟨_, rfl⟩
                  have HI8 : Hid (DiskIn w8 (.agg #[.int .i64 count, .slice p8 D8 c8, .slice q8 z8 m8]) count (crashN D W keep) []) := hin8 _ (by rw [← hw8]; exact below_alloc _ _)
                  have hb68 : Below wc.heap.size wc w8 := by rw [← hw8]; exact below_bt hb6 (below_alloc _ _)
                  have HB8 : Hid (Below w.heap.size w w8) := below_bt HB7.out hb68
                  have HX8 : Hid (w8.heap[w.heap.size]? = some (.cells #[.int .i64 count, .slice p dl c, .slice q 0 m] 25 (0, 0))) := (hb68.block _ (lt_heap HX7.out)).trans HX7.out
                  have HY8 : Hid (w8.heap[w6.heap.size]? = some (.cells #[.int .i64 count, .slice p8 D8 c8, .slice q8 z8 m8] 25 (0, 0))) := by show _ = _; rw [← hw8]; exact heap_alloc_new _ _
                  clear hin8 hb6 hb68 c0 c1 c2 HCR
                  go_upto_region 13 with fail
                  (try rw [hw8])
                  clear hw8
                  obtain ⟨c0, c1, c2⟩ := three_cells HX8.out
                  obtain ⟨f0, f1, f2⟩ := three_cells HY8.out
                  have hho := holds_any _ _ count count (crashN D W keep) data [] [] lq ln lc l w8 (HL.out.below HB8.out) HI8.out (HD.out.below HB8.out) _ 0 HMZ.out r n HM.out (HCH.out.below HB8.out) (by have := HFW.out.1; have := HCH.out.len; omega)
                  go_wp2_with fail
                  refine hho.mono ?_
                  rintro e w9 ⟨hb, rfl, hyes, hb9⟩
                  have HB9 : Hid (Below w.heap.size w w9) := below_bt HB8.out hb9
                  have HYES : Hid (HasAll (crashN D W keep) [] (some (z, s)) 0 (map2L l (startC data [] r n)) → hb = true) := hyes
                  have HX9 : Hid (w9.heap[w.heap.size]? = some (.cells #[.int .i64 count, .slice p dl c, .slice q 0 m] 25 (0, 0))) := (hb9.block _ (lt_heap HX8.out)).trans HX8.out
                  have HY9 : Hid (w9.heap[w6.heap.size]? = some (.cells #[.int .i64 count, .slice p8 D8 c8, .slice q8 z8 m8] 25 (0, 0))) := (hb9.block _ (lt_heap HY8.out)).trans HY8.out
                  have HI9 : Hid (DiskIn w9 (.agg #[.int .i64 count, .slice p8 D8 c8, .slice q8 z8 m8]) count (crashN D W keep) []) := HI8.out.below hb9
                  clear hho hb9 hyes c0 c1 c2 f0 f1 f2
                  cases hb with
                  | true =>
                    go_wp2
                    go_ret
                    exact ⟨rfl, HB9.out⟩
                  | false =>
                    have hlast : k < al ∧ HasAll (crashN D W keep) [] (some (z, s)) 0 (map2L [] (startC data [] r n)) := by
                      rcases HOR.out with h | h
                      · exact absurd (HYES.out h) (by decide)
                      · exact h
                    have HLA : Hid (HasAll (crashN D W keep) [] (some (z, s)) 0 (map2L [] (startC data [] r n))) := hlast.2
                    have hkal : (k : Int) < (al : Int) := by have := hlast.1; omega
                    have hkd : decide (k < al) = true := decide_eq_true hlast.1
                    clear hlast
                    obtain ⟨c0, c1, c2⟩ := three_cells HX9.out
                    obtain ⟨f0, f1, f2⟩ := three_cells HY9.out
                    have hho := holds_any _ _ count count (crashN D W keep) data [] [] none 0 0 [] w9 (HL.out.below HB9.out) HI9.out (HD.out.below HB9.out) _ 0 HMZ.out r n HM.out ⟨fun h => absurd h (by simp), rfl, Nat.le_refl _, by decide, fun y hy => by cases hy⟩ (by decide)
                    go_wp2_with fail
                    refine hho.mono ?_
                    rintro e wz ⟨hb, rfl, hyes, hbz⟩
                    obtain rfl : hb = true := hyes HLA.out
                    have HBZ : Hid (Below w.heap.size w wz) := below_bt HB9.out hbz
                    clear hho hbz hyes c0 c1 c2 f0 f1 f2
                    go_wp2
                    go_ret
                    exact ⟨rfl, HBZ.out⟩
          · have hmb : (mm == 0) = false := by simpa using hm0
            have hmc : (mm != 0) = true := by simpa using hm0
            clear hm0 hni
            go_wp2
            go_ret
            exact ⟨rfl, HB4.out⟩
        · have hk1I : (10000 : Int) < (kl : Int) := by omega
          clear hk1 hni
          go_wp2
          go_ret
          exact ⟨rfl, HB3.out⟩
      · have hw1 : (0 : Int) < (wl : Int) := by omega
        clear hw0 hni
        go_wp2
        go_ret
        exact ⟨rfl, HB3.out⟩
end Go.Proofs.YtiakfdhbbkpfhaaGreatDoor
