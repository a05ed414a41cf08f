/-
  The law FilesTwice walked.
-/
import Derived.Test.YtiakfdhbbkpfhaaGreatDoorJ34
import Derived.Test.YtiakfdhbbkpfhaaGreatDoorJ24
import Derived.Deep.CutRange
import Derived.Test.YtiakfdhbbkpfhaaGreatDoorJ36
import Derived.Deep.RegionWith
namespace Go.Proofs.YtiakfdhbbkpfhaaGreatDoor
open Go.RowKit Go.WideShapes Rm

/-- What turned answers, the disk of before too where it answers an error. -/
structure TdQ (w : World) (count : Int) (data : List Nat) (ws : Puts) (S : Int → Acts → Prop) (e : Ending) (w' : World) : Prop where
  ex : ∃ m A c0 q1 n1 m1 q2 n2 m2 E, S m A ∧ e = .returned (.tuple #[.agg #[.int .i64 c0, .slice q1 n1 m1, .slice q2 n2 m2], .int .i64 E]) ∧ Below w.heap.size w w' ∧
    ((m ≠ 0 ∧ E = m ∧ DiskIn w' (.agg #[.int .i64 c0, .slice q1 n1 m1, .slice q2 n2 m2]) count data ws) ∨ (m = 0 ∧ E = resE (doAny count data ws A) ∧ DiskF w.heap.size w' (.agg #[.int .i64 c0, .slice q1 n1 m1, .slice q2 n2 m2]) (resC count (doAny count data ws A)) (resD (doAny count data ws A)) (resW (doAny count data ws A))))
set_option maxRecDepth 8000 in
set_option maxHeartbeats 4000000 in
theorem turned_any2 (v : Value) (count : Int) (data : List Nat) (ws : Puts) (lq : Option Addr) (ln lc : Nat) (l : List CV) (w : World) (hL : Laid w) (hd : DiskIn w v count data ws) (r : Option (DirV × Int)) (n : Int) (hm : MountIs count data ws r n)
    (hl : ChgIn w lq ln lc l) (hvs : ∀ y ∈ l, (y.val.size : Int) ≤ 9223372036854775000) :
    Calls Tryz.prog 16 #[v, .slice lq ln lc] w fun e w' => TdQ w count data ws (TurnIs count data ws r n l) e w' := by
  obtain ⟨p, c, q, m, rfl, _⟩ := hd.parts
  obtain ⟨dl, hdl⟩ : ∃ k, data.length = k := ⟨_, rfl⟩
  obtain ⟨wl, hwl⟩ : ∃ k, ws.length = k := ⟨_, rfl⟩
  rw [hdl, hwl] at hd ⊢
  obtain ⟨W2, hW2⟩ : ∃ W2, (w.alloc (.cells #[.int .i64 count, .slice p dl c, .slice q wl m] 25)).alloc (.cells #[.int .i64 0, .slice none 0 0, .slice none 0 0] 25) = W2 := ⟨_, rfl⟩
  have hB2 : Below w.heap.size w W2 := by rw [← hW2]; exact below_bt (below_alloc _ _) (below_alloc _ _)
  have HX : Hid (∀ w', Below W2.heap.size W2 w' → w'.heap[w.heap.size]? = some (.cells #[.int .i64 count, .slice p dl c, .slice q wl m] 25 (0, 0)) ∧ w'.heap[w.heap.size + 1]? = some (.cells #[.int .i64 0, .slice none 0 0, .slice none 0 0] 25 (0, 0))) := by
    intro w' hb
    have h1 : W2.heap[w.heap.size]? = some (.cells #[.int .i64 count, .slice p dl c, .slice q wl m] 25 (0, 0)) := by
      rw [← hW2]
      exact ((below_alloc (w.alloc _) _).block _ (by simp)).trans (heap_alloc_new w _)
    have h2 : W2.heap[w.heap.size + 1]? = some (.cells #[.int .i64 0, .slice none 0 0, .slice none 0 0] 25 (0, 0)) := by
      rw [← hW2]
      have := heap_alloc_new (w.alloc (.cells #[.int .i64 count, .slice p dl c, .slice q wl m] 25)) (.cells #[.int .i64 0, .slice none 0 0, .slice none 0 0] 25)
      simpa using this
    exact ⟨(hb.block _ (lt_heap h1)).trans h1, (hb.block _ (lt_heap h2)).trans h2⟩
  have hT := Turn_any _ count data ws lq ln lc l W2 (hL.below hB2) (hd.below hB2) r n hm ⟨hl.lies.below hB2, hl.len, hl.cap, hl.fits, hl.keys⟩ hvs
  have HB2 : Hid (Below w.heap.size w W2) := hB2
  have HD : Hid (DiskIn w (.agg #[.int .i64 count, .slice p dl c, .slice q wl m]) count data ws) := hd
  have HSZ : Hid (W2.heap.size = w.heap.size + 2) := by show _ = _; rw [← hW2]; simp
  obtain ⟨⟨x0, x1, x2⟩, xf0, xf1, xf2⟩ := cells3f (HX.out W2 (Below.refl _ _)).1
  clear hd hL hm hl hvs hB2 hdl hwl
  go_enter Tryz.func16, Tryz.ntmps16
  go_upto_region 1 with fail
  (try rw [hW2])
  clear hW2
  go_wp2_with fail
  refine hT.mono ?_
  rintro e w3 ⟨mm, A, av, L, hS, rfl, hown, hLA, hb3⟩
  have HS : Hid (TurnIs count data ws r n l mm A) := hS
  obtain ⟨aq, am, rfl, _, _, _⟩ := hown.form
  have hlies := hown.lies
  have HB3 : Hid (Below w.heap.size w w3) := below_bt HB2.out hb3
  have HX3 : Hid _ := HX.out w3 hb3
  obtain ⟨⟨y0, y1, y2⟩, yf0, yf1, yf2⟩ := cells3f HX3.out.1
  obtain ⟨⟨z0, z1, z2⟩, zf0, zf1, zf2⟩ := cells3f HX3.out.2
  have hne : w.heap.size ≠ w.heap.size + 1 := by omega
  have hne2 : w.heap.size + 1 ≠ w.heap.size := by omega
  by_cases hm0 : mm = 0
  · subst hm0
    have hdo := do_all _ count data ws w3 (HD.out.below HB3.out) aq L.length am A (by rw [← hLA, List.length_map]) (by rw [← hLA]; exact hlies.2.1) (by rw [← hLA, List.length_map]; have := hlies.2.2; unfold maxLen at this; omega) _ rfl
    obtain ⟨R, hR⟩ : ∃ R, doAny count data ws A = R := ⟨_, rfl⟩
    have HR : Hid (doAny count data ws A = R) := hR
    rw [hR] at hdo
    have HL3 : Hid (w.heap.size + 1 < w3.heap.size) := by have := hb3.size; have := HSZ.out; show _ < _; omega
    clear hT hb3 hown hlies hLA hS hR x0 x1 x2 xf0 xf1 xf2
    go_wp2_with fail
    refine hdo.mono ?_
    rintro e w4 ⟨⟨v4, rfl, hF4⟩, hb4⟩
    have HB4 : Hid (Below w.heap.size w w4) := below_bt HB3.out hb4
    have hI4 := hF4.self
    obtain ⟨p4, c4, q4, m4, rfl, _⟩ := hI4.parts
    obtain ⟨d4, hd4⟩ : ∃ k, (resD R).length = k := ⟨_, rfl⟩
    obtain ⟨u4, hu4⟩ : ∃ k, (resW R).length = k := ⟨_, rfl⟩
    rw [hd4, hu4] at hF4 ⊢
    obtain ⟨E4, hE4⟩ : ∃ k, resE R = k := ⟨_, rfl⟩
    obtain ⟨C4, hC4⟩ : ∃ k, resC count R = k := ⟨_, rfl⟩
    have HE4 : Hid (resE R = E4 ∧ resC count R = C4) := ⟨hE4, hC4⟩
    rw [hE4, hC4]
    rw [hC4] at hF4
    have HF4 : Hid (DiskF w3.heap.size w4 (.agg #[.int .i64 C4, .slice p4 d4 c4, .slice q4 u4 m4]) C4 (resD R) (resW R) ∧ w3.heap.size ≤ w4.heap.size) := ⟨hF4, hb4.size⟩
    have HX4 : Hid (w4.heap[w.heap.size + 1]? = some (.cells #[.int .i64 0, .slice none 0 0, .slice none 0 0] 25 (0, 0))) := (hb4.block _ (lt_heap HX3.out.2)).trans HX3.out.2
    have HX5 : Hid ((w4.alloc (.cells #[.int .i64 C4, .slice p4 d4 c4, .slice q4 u4 m4] 25)).heap[w.heap.size + 1]? = some (.cells #[.int .i64 0, .slice none 0 0, .slice none 0 0] 25 (0, 0))) := ((below_alloc w4 _).block _ (lt_heap HX4.out)).trans HX4.out
    obtain ⟨⟨s0, s1, s2⟩, sf0, sf1, sf2⟩ := cells3f HX5.out
    clear hdo hF4 hb4 hI4 hd4 hu4 hE4 hC4 y0 y1 y2 yf0 yf1 yf2 z0 z1 z2 zf0 zf1 zf2
    go_wp2
    (try simp only [Exit.inBlock, Exit.then])
    refine bodyPost_ret (v := .tuple #[.agg #[.int .i64 C4, .slice p4 d4 c4, .slice q4 u4 m4], .int .i64 E4]) ?_ rfl ?_
    · rw [results_cell_tmp rfl]
      go_simp
    · refine ⟨⟨0, A, _, _, _, _, _, _, _, _, HS.out, rfl, ?_, .inr ⟨rfl, by rw [HR.out, HE4.out.1], ?_⟩⟩⟩
      · repeat' first
          | exact below_bt HB4.out (below_alloc _ _)
          | refine below_setR _ _ ?_ (Nat.le_succ w.heap.size)
      · rw [HR.out, HE4.out.2]
        refine fun w5 h5 => HF4.out.1 _ (fun k k1 k2 => (h5 k (by have := HL3.out; omega) (by simp only [World.size_setCell, World.size_alloc]; omega)).trans ?_)
        have e1 : k ≠ w.heap.size + 1 := by have := HL3.out; omega
        repeat' first
          | refine (set_keep e1).trans ?_
          | exact alloc_keep k2
  · have hmb : (mm == 0) = false := by simpa using hm0
    have HM : Hid (mm ≠ 0) := hm0
    clear hT hb3 hown hlies hLA hS x0 x1 x2 xf0 xf1 xf2
    go_wp2
    (try simp only [Exit.inBlock, Exit.then])
    refine bodyPost_ret (v := .tuple #[.agg #[.int .i64 count, .slice p dl c, .slice q wl m], .int .i64 mm]) ?_ rfl ?_
    · rw [results_cell_tmp rfl]
      go_simp
    · have hbl : ∀ w4 : World, Below w.heap.size w w4 → TdQ w count data ws (TurnIs count data ws r n l) (.returned (.tuple #[.agg #[.int .i64 count, .slice p dl c, .slice q wl m], .int .i64 mm])) w4 := fun w4 hb4 => ⟨⟨mm, A, _, _, _, _, _, _, _, _, HS.out, rfl, hb4, .inl ⟨HM.out, rfl, HD.out.below hb4⟩⟩⟩
      refine hbl _ ?_
      repeat' first
        | exact HB3.out
        | refine below_setR _ _ ?_ (Nat.le_succ w.heap.size)
end Go.Proofs.YtiakfdhbbkpfhaaGreatDoor
namespace Go.Proofs.YtiakfdhbbkpfhaaGreatDoor
open Go.RowKit Go.WideShapes Rm

/-- A disk in a box of the call's own. -/
structure Boxed (w0 w : World) (B : Nat) (count : Int) (p : Option Addr) (D c : Nat) (q : Option Addr) (z m : Nat) (data : List Nat) (ws : Puts) : Prop where
  box : w.heap[B]? = some (.cells #[.int .i64 count, .slice p D c, .slice q z m] 25 (0, 0))
  disk : DiskIn w (.agg #[.int .i64 count, .slice p D c, .slice q z m]) count data ws
  below : Below w0.heap.size w0 w
def zd : Array Value := #[.int .i64 0, .slice none 0 0, .slice none 0 0]
theorem boxz3 (w1 : World) {W w2 : World} (h : Below W.heap.size W w2) (hW : W.heap[w1.heap.size]? = some (.cells zd 25 (0, 0))) :
    Hid (w2.heap[w1.heap.size]? = some (.cells zd 25 (0, 0))) ∧ w2.cell? ⟨w1.heap.size, 0, none⟩ = some (.int .i64 0) ∧ w2.cell? ⟨w1.heap.size, 1, none⟩ = some (.slice none 0 0) ∧ w2.cell? ⟨w1.heap.size, 2, none⟩ = some (.slice none 0 0) ∧ w2.frozen? ⟨w1.heap.size, 0, none⟩ = false ∧ w2.frozen? ⟨w1.heap.size, 1, none⟩ = false ∧ w2.frozen? ⟨w1.heap.size, 2, none⟩ = false := by
  have hh := (h.block _ (lt_heap hW)).trans hW
  exact ⟨hh, cell_of_row _ _ 0 _ _ _ hh, cell_of_row _ _ 1 _ _ _ hh, cell_of_row _ _ 2 _ _ _ hh, frozen_of_row _ _ _ _ _ hh, frozen_of_row _ _ _ _ _ hh, frozen_of_row _ _ _ _ _ hh⟩
/-- The disk that Do answered, laid down. -/
theorem boxed_behind {w1 w2 : World} {count : Int} {p q : Option Addr} {D c z m base : Nat} {data : List Nat} {ws : Puts} (hf : DiskF base w2 (.agg #[.int .i64 count, .slice p D c, .slice q z m]) count data ws) (hb : Below w1.heap.size w1 w2) :
    Boxed w1 (w2.alloc (.cells #[.int .i64 count, .slice p D c, .slice q z m] 25)) w2.heap.size count p D c q z m data ws :=
  ⟨heap_alloc_new _ _, hf.below (below_alloc _ _), below_bt hb (below_alloc _ _)⟩
theorem boxed_ahead {w1 w2 : World} {count : Int} {p q : Option Addr} {D c z m base : Nat} {data : List Nat} {ws : Puts} (hf : DiskF base w2 (.agg #[.int .i64 count, .slice p D c, .slice q z m]) count data ws) (hlt : w1.heap.size < base) (hb : Below w1.heap.size w1 w2) (hz : w2.heap[w1.heap.size]? = some (.cells zd 25 (0, 0))) :
    Boxed w1 (((w2.setCell ⟨w1.heap.size, 0, none⟩ (.int .i64 count)).setCell ⟨w1.heap.size, 1, none⟩ (.slice p D c)).setCell ⟨w1.heap.size, 2, none⟩ (.slice q z m)) w1.heap.size count p D c q z m data ws :=
  ⟨set3_same w2 w1.heap.size _ _ _ _ _ _ _ hz, hf.set3 hlt _ _ _, set3_below hb (Nat.le_refl _) _ _ _⟩
theorem Boxed.drew {w0 w : World} {B : Nat} {count : Int} {p q : Option Addr} {D c z m : Nat} {data : List Nat} {ws : Puts} (h : Boxed w0 w B count p D c q z m data ws) : Boxed w0 w.drew B count p D c q z m data ws :=
  ⟨h.box, h.disk.below (by exact (Below.refl _ _).drew), h.below.drew⟩
end Go.Proofs.YtiakfdhbbkpfhaaGreatDoor
namespace Go.Proofs.YtiakfdhbbkpfhaaGreatDoor
open Go.RowKit Go.WideShapes Rm

set_option maxRecDepth 20000 in
set_option maxHeartbeats 4000000 in
theorem law_twice (v : Value) (count : Int) (data : List Nat) (ws : Puts) (lq : Option Addr) (ln lc : Nat) (l : List CV) (uq : Option Addr) (un uc : Nat) (u : List CV) (nn : Int) (kq : Option Addr) (keep : List Bool) (kc : Nat) (w : World) (hL : Laid w) (hd : DiskIn w v count data ws) (hl : ChgIn w lq ln lc l) (hvs : ∀ y ∈ l, (y.val.size : Int) ≤ 9223372036854775807) (hu : ChgIn w uq un uc u) (hus : ∀ y ∈ u, (y.val.size : Int) ≤ 9223372036854775807) (hni : (Lit.int .i64 nn).wf = true) (hke : BoolsIn w kq keep) (hkl : keep.length ≤ 9223372036854775807) :
    Calls Tryz.prog 7 #[v, .slice lq ln lc, .slice uq un uc, .int .i64 nn, .slice kq keep.length kc] w fun e w' => e = .returned (.bool true) ∧ Below w.heap.size w w' := by
  obtain ⟨p, c, q, m, rfl, _⟩ := hd.parts
  have HL : Hid (Laid w) := hL
  have HD : Hid (DiskIn w (.agg #[.int .i64 count, .slice p data.length c, .slice q ws.length m]) count data ws) := hd
  have HCH : Hid (ChgIn w lq ln lc l) := hl
  have HUH : Hid (ChgIn w uq un uc u) := hu
  have HUS : Hid (∀ y ∈ u, (y.val.size : Int) ≤ 9223372036854775807) := hus
  have HVS : Hid (∀ y ∈ l, (y.val.size : Int) ≤ 9223372036854775807) := hvs
  obtain ⟨r, n, hm⟩ := mountIs_ex count data ws
  have HM : Hid (MountIs count data ws r n) := hm
  obtain ⟨dl, hdl⟩ : ∃ k, data.length = k := ⟨_, rfl⟩
  obtain ⟨wl, hwl⟩ : ∃ k, ws.length = k := ⟨_, rfl⟩
  rw [hdl, hwl] at HD ⊢
  have HWL : Hid (ws.length = wl) := hwl
  obtain ⟨kl, hkle⟩ : ∃ k, keep.length = k := ⟨_, rfl⟩
  have HKE : Hid (BoolsIn w kq keep ∧ keep.length = kl ∧ kl ≤ 9223372036854775807) := ⟨hke, hkle, by omega⟩
  rw [hkle]
  have hklI : (kl : Int) ≤ 9223372036854775807 := by omega
  obtain ⟨w0, hw0⟩ : ∃ w0, w.alloc (.cells #[.int .i64 count, .slice p dl c, .slice q wl m] 25) = w0 := ⟨_, rfl⟩
  have HB0 : Hid (Below w.heap.size w w0) := by show Below _ _ _; rw [← hw0]; exact below_alloc _ _
  have HX0 : Hid (w0.heap[w.heap.size]? = some (.cells #[.int .i64 count, .slice p dl c, .slice q wl m] 25 (0, 0))) := by show _ = _; rw [← hw0]; exact heap_alloc_new _ _
  have hal := alive_t w0 (HL.out.below HB0.out)
  clear hd hL hm hdl hwl hl hvs hke hkl hkle hu hus
  go_enter Tryz.func7, Tryz.ntmps7
  go_upto_region 1 with fail
  (try rw [hw0])
  clear hw0
  go_wp2_with fail
  refine hal.mono ?_
  rintro e w1 ⟨rfl, hb1⟩
  have HB1 : Hid (Below w.heap.size w w1) := below_bt HB0.out hb1
  have HX1 : Hid (w1.heap[w.heap.size]? = some (.cells #[.int .i64 count, .slice p dl c, .slice q wl m] 25 (0, 0))) := (hb1.block _ (lt_heap HX0.out)).trans HX0.out
  obtain ⟨d0, d1, d2⟩ := three_cells HX1.out
  clear hal hb1
  have hlg := large4_any _ count data ws w1 (HD.out.below HB1.out)
  go_wp2_with fail
  refine hlg.mono ?_
  rintro e w2 ⟨rfl, hb2⟩
  have HB2 : Hid (Below w.heap.size w w2) := below_bt HB1.out hb2
  have HX2 : Hid (w2.heap[w.heap.size]? = some (.cells #[.int .i64 count, .slice p dl c, .slice q wl m] 25 (0, 0))) := (hb2.block _ (lt_heap HX1.out)).trans HX1.out
  clear hlg hb2 d0 d1 d2
  by_cases hlarge : largeL count data ws
  · have e1 : decide (largeL count data ws) = true := by simpa using hlarge
    rw [e1]
    clear e1 hlarge
    go_wp2
    go_ret
    exact ⟨rfl, HB2.out⟩
  · have e1 : decide (largeL count data ws) = false := by simpa using hlarge
    rw [e1]
    have HNL : Hid (¬ largeL count data ws) := hlarge
    clear hlarge e1
    have hhv := heavy_any lq ln lc l w2 HCH.out.len (HCH.out.below HB2.out).lies HCH.out.fits HVS.out
    go_wp2_with fail
    refine hhv.mono ?_
    rintro e w3 ⟨hr, rfl, hfew, hb3⟩
    have HB3 : Hid (Below w.heap.size w w3) := below_bt HB2.out hb3
    have HX3 : Hid (w3.heap[w.heap.size]? = some (.cells #[.int .i64 count, .slice p dl c, .slice q wl m] 25 (0, 0))) := (hb3.block _ (lt_heap HX2.out)).trans HX2.out
    clear hhv hb3
    cases hr with
    | true =>
      clear hfew hni
      go_wp2
      go_ret
      exact ⟨rfl, HB3.out⟩
    | false =>
      have HFW : Hid (l.length ≤ 200 ∧ ∀ y ∈ l, y.val.size ≤ 700000) := hfew rfl
      clear hfew
      have hhv := heavy_any uq un uc u w3 HUH.out.len (HUH.out.below HB3.out).lies HUH.out.fits HUS.out
      go_wp2_with fail
      refine hhv.mono ?_
      rintro e wu ⟨hr, rfl, hfew, hbu⟩
      have HBU : Hid (Below w.heap.size w wu) := below_bt HB3.out hbu
      have HXU : Hid (wu.heap[w.heap.size]? = some (.cells #[.int .i64 count, .slice p dl c, .slice q wl m] 25 (0, 0))) := (hbu.block _ (lt_heap HX3.out)).trans HX3.out
      clear hhv hbu
      cases hr with
      | true =>
        clear hfew hni
        go_wp2
        go_ret
        exact ⟨rfl, HBU.out⟩
      | false =>
      have HUW : Hid (u.length ≤ 200 ∧ ∀ y ∈ u, y.val.size ≤ 700000) := hfew rfl
      clear hfew
      obtain ⟨d0, d1, d2⟩ := three_cells HXU.out
      by_cases hw0 : wl = 0
      · subst hw0
        have hws : ws = [] := List.eq_nil_of_length_eq_zero HWL.out
        subst hws
        by_cases hk1 : kl ≤ 10000
        · have hk1I : (kl : Int) ≤ 10000 := by omega
          have HK1 : Hid (kl ≤ 10000) := hk1
          clear hk1
          have hT := turned_any2 _ count data [] lq ln lc l wu (HL.out.below HBU.out) (HD.out.below HBU.out) r n HM.out (HCH.out.below HBU.out) (fun y hy => by have := HFW.out.2 y hy; omega)
          go_wp2_with fail
          refine hT.mono ?_
          rintro e w4 ⟨mm, A, c0', q1, n1, m1, q2, n2, m2, E, hS, rfl, hb4, hcase⟩
          have HB4 : Hid (Below w.heap.size w w4) := below_bt HBU.out hb4
          have HX4 : Hid (w4.heap[w.heap.size]? = some (.cells #[.int .i64 count, .slice p dl c, .slice q 0 m] 25 (0, 0))) := (hb4.block _ (lt_heap HXU.out)).trans HXU.out
          clear hT hb4 d0 d1 d2
          by_cases hm0 : mm = 0
          · subst hm0
            obtain ⟨D1, y1, s1, hdo1, hok1, hmy1, hall1⟩ := turn_doneM HD.out HM.out hS HNL.out
            obtain ⟨hE, hdi⟩ : E = 0 ∧ DiskF wu.heap.size w4 (.agg #[.int .i64 c0', .slice q1 n1 m1, .slice q2 n2 m2]) count D1 [] := by
              rcases hcase with ⟨h0, _⟩ | ⟨_, h1, h2⟩
              · exact absurd rfl h0
              · rw [hdo1] at h1 h2
                exact ⟨h1, h2⟩
            subst hE
            have hcc := hdi.self
            obtain ⟨p', cc', q', m', hpe, _⟩ := hcc.parts
            have hce : c0' = count := by
              simp only [Value.agg.injEq] at hpe
              have := congrArg (fun a : Array Value => a[0]?) hpe
              simpa using this
            subst hce
            clear hpe hcc hcase
            have HT1 : Hid (TurnIs c0' data [] r n l 0 A ∧ doAny c0' data [] A = .ok (D1, [])) := ⟨hS, hdo1⟩
            have HMY : Hid (MountIs c0' D1 [] (some (y1, s1)) 0) := hmy1
            have hok0 : Okay c0' data [] := by
              obtain ⟨x, y, a, o, fs, _, hk⟩ := turnIs_ok HM.out hS
              exact hk.ho
            have HC3 : Hid (c0' ≤ 312) := (count_few hok0 HNL.out).1
            obtain ⟨W5, hW5⟩ : ∃ W5, w4.alloc (.cells #[.int .i64 c0', .slice q1 n1 m1, .slice q2 n2 m2] 25) = W5 := ⟨_, rfl⟩
            have HB5 : Hid (Below w.heap.size w W5) := by show Below _ _ _; rw [← hW5]; exact below_bt HB4.out (below_alloc _ _)
            have HX5 : Hid (W5.heap[w.heap.size]? = some (.cells #[.int .i64 c0', .slice p dl c, .slice q 0 m] 25 (0, 0))) := by show _ = _; rw [← hW5]; exact ((below_alloc _ _).block _ (lt_heap HX4.out)).trans HX4.out
            have HY5 : Hid (W5.heap[w4.heap.size]? = some (.cells #[.int .i64 c0', .slice q1 n1 m1, .slice q2 n2 m2] 25 (0, 0))) := by show _ = _; rw [← hW5]; exact heap_alloc_new _ _
            have HI5 : Hid (DiskIn W5 (.agg #[.int .i64 c0', .slice q1 n1 m1, .slice q2 n2 m2]) c0' D1 []) := by show DiskIn _ _ _ _ _; rw [← hW5]; exact hdi.below (below_alloc _ _)
            clear hdi hdo1 hok1 hmy1 hall1 hS hok0
            obtain ⟨f0, f1, f2⟩ := three_cells HY5.out
            have hT2 := Turn_any _ c0' D1 [] uq un uc u W5 (HL.out.below HB5.out) HI5.out _ 0 HMY.out (HUH.out.below HB5.out) (fun y hy => by have := HUW.out.2 y hy; omega)
            go_upto_region 7 with fail
            (try rw [hW5])
            clear hW5
            go_wp2_with fail
            refine hT2.mono ?_
            rintro e w6 ⟨mm2, A2, av, L, hS2, rfl, hown, hLA, hb6⟩
            have HS2 : Hid (TurnIs c0' D1 [] (some (y1, s1)) 0 u mm2 A2) := hS2
            obtain ⟨aq, am, rfl, _, _, _⟩ := hown.form
            have HB6 : Hid (Below w.heap.size w w6) := below_bt HB5.out hb6
            have HX6 : Hid (w6.heap[w.heap.size]? = some (.cells #[.int .i64 c0', .slice p dl c, .slice q 0 m] 25 (0, 0))) := (hb6.block _ (lt_heap HX5.out)).trans HX5.out
            have HY6 : Hid (w6.heap[w4.heap.size]? = some (.cells #[.int .i64 c0', .slice q1 n1 m1, .slice q2 n2 m2] 25 (0, 0))) := (hb6.block _ (lt_heap HY5.out)).trans HY5.out
            have HI6 : Hid (DiskIn w6 (.agg #[.int .i64 c0', .slice q1 n1 m1, .slice q2 n2 m2]) c0' D1 []) := HI5.out.below hb6
            have hlies := hown.lies
            have HLI : Hid (L.length = A2.length ∧ ActsIn w6 aq A2 ∧ L.length ≤ am ∧ am ≤ maxLen) := ⟨by rw [← hLA, List.length_map], by rw [← hLA]; exact hlies.2.1, hlies.2.2.1, hlies.2.2.2⟩
            obtain ⟨al, hal2⟩ : ∃ k, L.length = k := ⟨_, rfl⟩
            rw [hal2] at HLI ⊢
            clear hT2 hb6 hown hLA hS2 hlies f0 f1 f2 hal2
            by_cases hm2 : mm2 = 0
            · subst hm2
              have halI : (al : Int) ≤ 9223372036854775807 := by have := HLI.out.2.2; unfold maxLen at this; omega
              by_cases hn0 : nn < 0
              · clear hni
                go_wp2
                go_ret
                exact ⟨rfl, HB6.out⟩
              · by_cases hna : (al : Int) < nn
                · clear hni
                  go_wp2
                  go_ret
                  exact ⟨rfl, HB6.out⟩
                · obtain ⟨k, rfl⟩ : ∃ k : Nat, nn = (k : Int) := ⟨nn.toNat, by omega⟩
                  have hka : k ≤ al := by omega
                  have hk0 : (0 : Int) ≤ (k : Int) := by omega
                  have hkaI : (k : Int) ≤ (al : Int) := by omega
                  have ham : al ≤ am := HLI.out.2.2.1
                  have hamI : (k : Int) ≤ (am : Int) := by omega
                  have hamM : (am : Int) ≤ 9223372036854775807 := by have := HLI.out.2.2.2; unfold maxLen at this; omega
                  obtain ⟨D, W, z, s, hdo, hokD, hmz, hor⟩ := turn_twiceM HD.out HM.out HT1.out.1 HC3.out HT1.out.2 HMY.out HI6.out HS2.out k (by have := HLI.out.1; omega) keep
                  have HC : Hid (doAny c0' D1 [] (A2.take k) = .ok (D, W) ∧ Okay c0' D W) := ⟨hdo, hokD⟩
                  have HMZ : Hid (MountIs c0' (crashN D W keep) [] (some (z, s)) 0) := hmz
                  have HOR : Hid (HasAll (crashN D W keep) [] (some (z, s)) 0 (map2L u (startC D1 [] (some (y1, s1)) 0)) ∨ (k < al ∧ HasAll (crashN D W keep) [] (some (z, s)) 0 (map2L l (startC data [] r n)))) := by
                    rcases hor with h | ⟨h1, h2⟩
                    · exact .inl h
                    · exact .inr ⟨by have := HLI.out.1; omega, h2⟩
                  have HDO : Hid (∀ w', Below w6.heap.size w6 w' → Calls Tryz.prog 15 #[.agg #[.int .i64 c0', .slice q1 n1 m1, .slice q2 n2 m2], .slice aq k am] w' fun e w2 => ∃ p7 D7 c7 q7 z7 m7, e = .returned (.tuple #[.agg #[.int .i64 c0', .slice p7 D7 c7, .slice q7 z7 m7], .int .i64 0]) ∧ DiskF w'.heap.size w2 (.agg #[.int .i64 c0', .slice p7 D7 c7, .slice q7 z7 m7]) c0' D W ∧ Below w'.heap.size w' w2) := fun w' hb' => by
                    have hlen : k = (A2.take k).length := by rw [List.length_take]; have := HLI.out.1; omega
                    refine (do_all _ c0' D1 [] w' (HI6.out.below hb') aq k am (A2.take k) hlen (acts_take (HLI.out.2.1.below hb') k) (by rw [← hlen]; omega) _ HC.out.1).mono ?_
                    rintro e w2 ⟨⟨v', he, hf⟩, hb⟩
                    simp only [resE, resC, resD, resW] at he hf
                    obtain ⟨p7, c7, q7, m7, rfl, _⟩ := hf.self.parts
                    exact ⟨p7, _, c7, q7, _, m7, he, hf, hb⟩
                  clear hdo hokD hmz hor hka hna hn0 hni ham
                  have hnew : ∀ o, (w6.alloc o).drew.heap[w6.heap.size]? = some o := fun o => heap_alloc_new w6 o
                  have hlt4 : w4.heap.size < w6.heap.size := lt_heap HY6.out
                  obtain ⟨c0, c1, c2⟩ := three_cells HY6.out
                  go_upto_region 12 with fail
                  go_cut [16, 17] from 20 (fun s16 s17 wx => ∃ B' p7 D7 c7 q7 z7 m7, s16 = .pointer (some ⟨B', 0, none⟩) ∧ s17 = .int .i64 0 ∧ Boxed w6 wx B' c0' p7 D7 c7 q7 z7 m7 D W)
                  case first =>
                    go_region_with (go_at_call 15; refine (HDO.out _ ?_).mono ?_; (first | exact (Below.refl _ _).drew | exact ((Below.refl _ _).drew).alloc (by simp) _); rintro e w5 ⟨p7, D7, c7, q7, z7, m7, rfl, hf5, hb5⟩; have hz := boxz3 w6 hb5; try (simp only [hnew] at hz; obtain ⟨HZ, z0, z1, z2, y0, y1, y2⟩ := hz rfl))
                    all_goals
                      go_wp2
                      go_meet
                      case rel =>
                        first
                          | exact ⟨_, p7, D7, c7, q7, z7, m7, rfl, rfl, boxed_behind hf5 (below_drC hb5)⟩
                          | exact ⟨_, p7, D7, c7, q7, z7, m7, rfl, rfl, boxed_ahead hf5 (by simp) (((Below.refl w6.heap.size w6).alloc (Nat.le_refl _) _).drew.trans (hb5.mono (by simp))) HZ.out⟩
                  case rest =>
                    obtain ⟨B', p7, D7, c7, q7, z7, m7, rfl, rfl, hbx⟩ := hcut
                    have HBX : Hid (Boxed w6 wc B' c0' p7 D7 c7 q7 z7 m7 D W) := hbx
                    have HB7 : Hid (Below w.heap.size w wc) := below_bt HB6.out hbx.below
                    have HX7 : Hid (wc.heap[w.heap.size]? = some (.cells #[.int .i64 c0', .slice p dl c, .slice q 0 m] 25 (0, 0))) := (hbx.below.block _ (lt_heap HX6.out)).trans HX6.out
                    have HY7 : Hid (wc.heap[w4.heap.size]? = some (.cells #[.int .i64 c0', .slice q1 n1 m1, .slice q2 n2 m2] 25 (0, 0))) := (hbx.below.block _ (lt_heap HY6.out)).trans HY6.out
                    have HI7 : Hid (DiskIn wc (.agg #[.int .i64 c0', .slice q1 n1 m1, .slice q2 n2 m2]) c0' D1 []) := HI6.out.below hbx.below
                    clear hbx hnew c0 c1 c2 HDO hlt4
                    obtain ⟨c0, c1, c2⟩ := three_cells HBX.out.box
                    have HCR : Hid (Calls Tryz.prog 28 #[.agg #[.int .i64 c0', .slice p7 D7 c7, .slice q7 z7 m7], .slice kq kl kc] wc fun e w2 => ∃ p8 D8 c8 q8 z8 m8, e = .returned (.tuple #[.agg #[.int .i64 c0', .slice p8 D8 c8, .slice q8 z8 m8], .int .i64 0]) ∧ (∀ w3, Below w2.heap.size w2 w3 → DiskIn w3 (.agg #[.int .i64 c0', .slice p8 D8 c8, .slice q8 z8 m8]) c0' (crashN D W keep) []) ∧ Below wc.heap.size wc w2) := by
                      have h1 := crash_ok _ c0' D W wc HBX.out.disk HC.out.2 kq kc keep (HKE.out.1.below HB7.out) (by have := HKE.out.2; omega)
                      rw [HKE.out.2.1] at h1
                      refine h1.mono ?_
                      rintro e w2 ⟨⟨v', he, hf⟩, hb⟩
                      have hin := hf.toIn (okay_crashed HC.out.2 keep)
                      obtain ⟨p8, c8, q8, m8, rfl, _⟩ := hin.parts
                      exact ⟨p8, _, c8, q8, _, m8, he, fun w3 h3 => hin.below h3, hb⟩
                    go_wp2_with fail
                    refine HCR.out.mono ?_
                    rintro e w7 ⟨p8, D8, c8, q8, z8, m8, rfl, hin8, hb7⟩
                    obtain ⟨w8, hw8⟩ : ∃ w8, w7.alloc (.cells #[.int .i64 c0', .slice p8 D8 c8, .slice q8 z8 m8] 25) = w8 := ⟨_, rfl⟩
                    have HI8 : Hid (DiskIn w8 (.agg #[.int .i64 c0', .slice p8 D8 c8, .slice q8 z8 m8]) c0' (crashN D W keep) []) := hin8 _ (by rw [← hw8]; exact below_alloc _ _)
                    have hb78 : Below wc.heap.size wc w8 := by rw [← hw8]; exact below_bt hb7 (below_alloc _ _)
                    have HB8 : Hid (Below w.heap.size w w8) := below_bt HB7.out hb78
                    have HX8 : Hid (w8.heap[w.heap.size]? = some (.cells #[.int .i64 c0', .slice p dl c, .slice q 0 m] 25 (0, 0))) := (hb78.block _ (lt_heap HX7.out)).trans HX7.out
                    have HY8 : Hid (w8.heap[w4.heap.size]? = some (.cells #[.int .i64 c0', .slice q1 n1 m1, .slice q2 n2 m2] 25 (0, 0))) := (hb78.block _ (lt_heap HY7.out)).trans HY7.out
                    have HQ8 : Hid (DiskIn w8 (.agg #[.int .i64 c0', .slice q1 n1 m1, .slice q2 n2 m2]) c0' D1 []) := HI7.out.below hb78
                    have HZ8 : Hid (w8.heap[w7.heap.size]? = some (.cells #[.int .i64 c0', .slice p8 D8 c8, .slice q8 z8 m8] 25 (0, 0))) := by show _ = _; rw [← hw8]; exact heap_alloc_new _ _
                    clear hin8 hb7 hb78 c0 c1 c2 HCR
                    go_upto_region 14 with fail
                    (try rw [hw8])
                    clear hw8
                    obtain ⟨c0, c1, c2⟩ := three_cells HY8.out
                    obtain ⟨f0, f1, f2⟩ := three_cells HZ8.out
                    have hho := holds_any _ _ c0' c0' (crashN D W keep) D1 [] [] uq un uc u w8 (HL.out.below HB8.out) HI8.out HQ8.out _ 0 HMZ.out _ 0 HMY.out (HUH.out.below HB8.out) (by have := HUW.out.1; have := HUH.out.len; omega)
                    go_wp2_with fail
                    refine hho.mono ?_
                    rintro e w9 ⟨hb, rfl, hyes, hb9⟩
                    have HB9 : Hid (Below w.heap.size w w9) := below_bt HB8.out hb9
                    have HYES : Hid (HasAll (crashN D W keep) [] (some (z, s)) 0 (map2L u (startC D1 [] (some (y1, s1)) 0)) → hb = true) := hyes
                    have HX9 : Hid (w9.heap[w.heap.size]? = some (.cells #[.int .i64 c0', .slice p dl c, .slice q 0 m] 25 (0, 0))) := (hb9.block _ (lt_heap HX8.out)).trans HX8.out
                    have HZ9 : Hid (w9.heap[w7.heap.size]? = some (.cells #[.int .i64 c0', .slice p8 D8 c8, .slice q8 z8 m8] 25 (0, 0))) := (hb9.block _ (lt_heap HZ8.out)).trans HZ8.out
                    have HI9 : Hid (DiskIn w9 (.agg #[.int .i64 c0', .slice p8 D8 c8, .slice q8 z8 m8]) c0' (crashN D W keep) []) := HI8.out.below hb9
                    clear hho hb9 hyes c0 c1 c2 f0 f1 f2
                    cases hb with
                    | true =>
                      go_wp2
                      go_ret
                      exact ⟨rfl, HB9.out⟩
                    | false =>
                      have hlast : k < al ∧ HasAll (crashN D W keep) [] (some (z, s)) 0 (map2L l (startC data [] r n)) := by
                        rcases HOR.out with h | h
                        · exact absurd (HYES.out h) (by decide)
                        · exact h
                      have HLA : Hid (HasAll (crashN D W keep) [] (some (z, s)) 0 (map2L l (startC data [] r n))) := hlast.2
                      have hkal : (k : Int) < (al : Int) := by have := hlast.1; omega
                      have hkd : decide (k < al) = true := decide_eq_true hlast.1
                      clear hlast
                      obtain ⟨c0, c1, c2⟩ := three_cells HX9.out
                      obtain ⟨f0, f1, f2⟩ := three_cells HZ9.out
                      have hho := holds_any _ _ c0' c0' (crashN D W keep) data [] [] lq ln lc l w9 (HL.out.below HB9.out) HI9.out (HD.out.below HB9.out) _ 0 HMZ.out r n HM.out (HCH.out.below HB9.out) (by have := HFW.out.1; have := HCH.out.len; omega)
                      go_wp2_with fail
                      refine hho.mono ?_
                      rintro e wz ⟨hb, rfl, hyes, hbz⟩
                      obtain rfl : hb = true := hyes HLA.out
                      have HBZ : Hid (Below w.heap.size w wz) := below_bt HB9.out hbz
                      clear hho hbz hyes c0 c1 c2 f0 f1 f2
                      go_wp2
                      go_ret
                      exact ⟨rfl, HBZ.out⟩
            · have hmb : (mm2 == 0) = false := by simpa using hm2
              have hmc : (mm2 != 0) = true := by simpa using hm2
              clear hm2 hni
              go_wp2
              go_ret
              exact ⟨rfl, HB6.out⟩
          · have hE : E ≠ 0 := by
              rcases hcase with ⟨h0, rfl, _⟩ | ⟨h0, _, _⟩
              · exact h0
              · exact absurd h0 hm0
            have hmb : (E == 0) = false := by simpa using hE
            have hmc : (E != 0) = true := by simpa using hE
            have HBE : Hid (Below w.heap.size w (w4.alloc (.cells #[.int .i64 c0', .slice q1 n1 m1, .slice q2 n2 m2] 25))) := below_bt HB4.out (below_alloc _ _)
            clear hm0 hni hcase hE hS
            go_wp2
            go_ret
            exact ⟨rfl, HBE.out⟩
        · have hk1I : (10000 : Int) < (kl : Int) := by omega
          clear hk1 hni
          go_wp2
          go_ret
          exact ⟨rfl, HBU.out⟩
      · have hw1 : (0 : Int) < (wl : Int) := by omega
        clear hw0 hni
        go_wp2
        go_ret
        exact ⟨rfl, HBU.out⟩
end Go.Proofs.YtiakfdhbbkpfhaaGreatDoor
