/-
  Contract of the document's own answer Write.
-/
import Derived.Test.YteabacpalnamdaaRSame
namespace Go.Proofs.Yteabacpalnamdaa
open Go.RowKit Go.WideShapes
attribute [local go_sem ↓] Go.wp_at_zero Go.wp_at_succ

theorem box2_of {w w1 : World} {o o' : Obj} (h : Below ((w.alloc o).alloc o').heap.size ((w.alloc o).alloc o') w1) : Below (w.heap.size + 2) ((w.alloc o).alloc o') w1 := by simpa using h
set_option maxRecDepth 100000 in
set_option maxHeartbeats 4000000 in
theorem rwrite_err (v : Value) (n : Int) (pb : Option Addr) (lb cb : Nat) (count : Int) (data : List Nat) (ws : Puts) (w : World) (hd : DiskIn w v count data ws) (er : Int) (hne : er ≠ 0) (he : errS count data ws n = er) :
    Calls Try.prog 23 #[v, .int .i64 n, .slice pb lb cb] w fun e w' => e = .returned (.tuple #[zeroDisk, .int .i64 er]) ∧ Below w.heap.size w w' := by
  obtain ⟨pd, cd, q, m, rfl, _, _, _, _, _, hqm, hqmm, _⟩ := hd.parts
  have HD : Hid _ := hd
  clear hd
  have HE : Hid (errS count data ws n = er) := he
  have hnb : (er != 0) = true := by simpa using hne
  clear he hne
  go_enter Try.func23, Try.ntmps23
  go_wp2_with fail
  refine (asked_fails _ n count data ws _ (HD.out.below ((below_alloc w _).alloc (by simp) _)) er HE.out).mono ?_
  rintro e w1 ⟨rfl, hb1⟩
  replace hb1 := box2_of hb1
  obtain ⟨hB, hR⟩ := box2_cells hb1
  obtain ⟨x0, x1, x2⟩ := cells3 hB
  obtain ⟨r0, r1, r2⟩ := cells3 hR
  obtain ⟨f0, f1, f2⟩ := free3 hR
  have hsz := box2_size hb1
  have hbw := box2_below hb1
  clear hB hR
  go_wp2
  (try simp only [Exit.inBlock, Exit.then])
  refine bodyPost_ret (v := .tuple #[zeroDisk, .int .i64 er]) ?_ rfl ⟨rfl, set3_below hbw (by omega) _ _ _⟩
  rw [results_cell_tmp rfl]
  go_simp
set_option maxRecDepth 100000 in
set_option maxHeartbeats 4000000 in
theorem rwrite_len (v : Value) (n : Int) (pb : Option Addr) (lb cb : Nat) (count : Int) (data : List Nat) (ws : Puts) (w : World) (hd : DiskIn w v count data ws) (he : errS count data ws n = 0) (hx : ((lb : Int) != 128) = true) :
    Calls Try.prog 23 #[v, .int .i64 n, .slice pb lb cb] w fun e w' => e = .returned (.tuple #[zeroDisk, .int .i64 8]) ∧ Below w.heap.size w w' := by
  obtain ⟨pd, cd, q, m, rfl, _, _, _, _, _, hqm, hqmm, _⟩ := hd.parts
  have HD : Hid _ := hd
  clear hd
  have HE : Hid (errS count data ws n = 0) := he
  clear he
  go_enter Try.func23, Try.ntmps23
  go_wp2_with fail
  refine (asked_fails _ n count data ws _ (HD.out.below ((below_alloc w _).alloc (by simp) _)) 0 HE.out).mono ?_
  rintro e w1 ⟨rfl, hb1⟩
  replace hb1 := box2_of hb1
  obtain ⟨hB, hR⟩ := box2_cells hb1
  obtain ⟨x0, x1, x2⟩ := cells3 hB
  obtain ⟨r0, r1, r2⟩ := cells3 hR
  obtain ⟨f0, f1, f2⟩ := free3 hR
  have hsz := box2_size hb1
  have hbw := box2_below hb1
  clear hB hR
  go_wp2
  (try simp only [Exit.inBlock, Exit.then])
  refine bodyPost_ret (v := .tuple #[zeroDisk, .int .i64 8]) ?_ rfl ⟨rfl, set3_below hbw (by omega) _ _ _⟩
  rw [results_cell_tmp rfl]
  go_simp
set_option maxRecDepth 100000 in
set_option maxHeartbeats 4000000 in
theorem rwrite_many (v : Value) (n : Int) (pb : Option Addr) (lb cb : Nat) (count : Int) (data : List Nat) (ws : Puts) (w : World) (hd : DiskIn w v count data ws) (he : errS count data ws n = 0) (hx : ((lb : Int) != 128) = false) (hm : (4096 : Int) ≤ (ws.length : Int)) :
    Calls Try.prog 23 #[v, .int .i64 n, .slice pb lb cb] w fun e w' => e = .returned (.tuple #[zeroDisk, .int .i64 4]) ∧ Below w.heap.size w w' := by
  obtain ⟨pd, cd, q, m, rfl, _, _, _, _, _, hqm, hqmm, _⟩ := hd.parts
  have HD : Hid _ := hd
  clear hd
  have HE : Hid (errS count data ws n = 0) := he
  clear he
  go_enter Try.func23, Try.ntmps23
  go_wp2_with fail
  refine (asked_fails _ n count data ws _ (HD.out.below ((below_alloc w _).alloc (by simp) _)) 0 HE.out).mono ?_
  rintro e w1 ⟨rfl, hb1⟩
  replace hb1 := box2_of hb1
  obtain ⟨hB, hR⟩ := box2_cells hb1
  obtain ⟨x0, x1, x2⟩ := cells3 hB
  obtain ⟨r0, r1, r2⟩ := cells3 hR
  obtain ⟨f0, f1, f2⟩ := free3 hR
  have hsz := box2_size hb1
  have hbw := box2_below hb1
  clear hB hR
  go_wp2
  (try simp only [Exit.inBlock, Exit.then])
  refine bodyPost_ret (v := .tuple #[zeroDisk, .int .i64 4]) ?_ rfl ⟨rfl, set3_below hbw (by omega) _ _ _⟩
  rw [results_cell_tmp rfl]
  go_simp
set_option maxRecDepth 100000 in
set_option maxHeartbeats 4000000 in
theorem rwrite_ok (v : Value) (n : Int) (pb : Option Addr) (lb cb : Nat) (count : Int) (data : List Nat) (ws : Puts) (w : World) (hd : DiskIn w v count data ws) (xs : List Nat) (ho : Okay count data ws) (hn : 0 ≤ n ∧ n < count) (hx : lb = xs.length) (hx8 : xs.length = 128) (hm : (ws.length : Int) < 4096) (hb : BIn w pb xs) (hp : pb = none → cb = 0) :
    Calls Try.prog 23 #[v, .int .i64 n, .slice pb lb cb] w fun e w' => (∃ v', e = .returned (.tuple #[v', .int .i64 0]) ∧ DiskV w' w.heap.size v' count data (ws ++ [(n, xs)])) ∧ Below w.heap.size w w' := by
  obtain ⟨pd, cd, q, m, rfl, _, _, _, _, _, hqm, hqmm, _⟩ := hd.parts
  have HD : Hid _ := hd
  clear hd
  have HE : Hid (errS count data ws n = 0) := errS_ok ho hn
  have HO : Hid (Okay count data ws) := ho
  have HXL : Hid (lb = xs.length) := hx
  have HX8 : Hid (xs.length = 128) := hx8
  have hlb : ((lb : Int) != 128) = false := by simp; omega
  have HBX0 : Hid (BIn w pb xs) := hb
  have HPB : Hid (pb = none → cb = 0) := hp
  have hdl : data.length ≤ 140737488355328 := by have := ho.len; have := ho.hi; omega
  have HDL : Hid (data.length ≤ 140737488355328) := hdl
  have HWL : Hid (∀ y ∈ ws, y.2.length ≤ 140737488355328) := fun y hy => by rw [(ho.each y hy).2.2]; omega
  obtain ⟨i0, hi, hz0, hz1, hz2⟩ := info_parts info_put
  clear ho hx hx8 hb hp hdl
  go_enter Try.func23, Try.ntmps23
  go_wp2_with fail
  refine (asked_fails _ n count data ws _ (HD.out.below ((below_alloc w _).alloc (by simp) _)) 0 HE.out).mono ?_
  rintro e w1 ⟨rfl, hb1⟩
  replace hb1 := box2_of hb1
  obtain ⟨hB, hR⟩ := box2_cells hb1
  obtain ⟨x0, x1, x2⟩ := cells3 hB
  obtain ⟨r0, r1, r2⟩ := cells3 hR
  obtain ⟨f0, f1, f2⟩ := free3 hR
  have hsz := box2_size hb1
  have hbw := box2_below hb1
  obtain ⟨W, hW⟩ : ∃ W, W = ((w.alloc (.cells #[.int .i64 count, .slice pd data.length cd, .slice q ws.length m] 25)).alloc (.cells #[.int .i64 0, .slice none 0 0, .slice none 0 0] 25)) := ⟨_, rfl⟩
  have HX : Hid (∀ w', Below (w.heap.size + 2) W w' → w'.heap[w.heap.size]? = some (.cells #[.int .i64 count, .slice pd data.length cd, .slice q ws.length m] 25 (0, 0)) ∧ w'.heap[w.heap.size + 1]? = some (.cells #[.int .i64 0, .slice none 0 0, .slice none 0 0] 25 (0, 0)) ∧ Below w.heap.size w w' ∧ w.heap.size + 2 ≤ w'.heap.size) := by
    intro w' h
    rw [hW] at h
    exact ⟨(box2_cells h).1, (box2_cells h).2, box2_below h, box2_size h⟩
  rw [← hW] at hb1
  clear hW hB hR r0 r1 r2 f0 f1 f2
  go_wp2_with fail
  refine (twin_any _ count data ws _ (HD.out.below hbw) HDL.out HWL.out (by omega)).mono ?_
  rintro e w2 ⟨⟨v2, rfl, hv2⟩, hb2⟩
  obtain ⟨dv, wv, vs, rfl, hdv, hwv⟩ := hv2.lies
  obtain ⟨pv, cv, rfl, _⟩ := hdv.form
  obtain ⟨qv, mv, rfl, _⟩ := hwv.lies
  have hz2' := hb2.size
  have HOK0 : Hid (DiskG (w2.alloc (.cells #[.int .i64 count, .slice pv data.length cv, .slice qv ws.length mv] 25)) (w.heap.size + 2) w2.heap.size count (.slice pv data.length cv) data (.slice qv ws.length mv) ws vs) := ⟨heap_alloc_new _ _, by omega, (hdv.mono (by omega)).below (below_alloc _ _), (hwv.mono (by omega)).below (below_alloc _ _)⟩
  have HBW0 : Hid (Below (w.heap.size + 2) W (w2.alloc (.cells #[.int .i64 count, .slice pv data.length cv, .slice qv ws.length mv] 25))) := (hb1.trans (hb2.mono (by omega))).alloc (by omega) _
  have HBX1 : Hid (BIn (w2.alloc (.cells #[.int .i64 count, .slice pv data.length cv, .slice qv ws.length mv] 25)) pb xs) := HBX0.out.below ((hbw.trans (hb2.mono (by omega))).alloc (by omega) _)
  clear hv2 hdv hwv x0 x1 x2
  go_wp2
  obtain ⟨W3, hW3⟩ : ∃ W3, W3 = w2.alloc (.cells #[.int .i64 count, .slice pv data.length cv, .slice qv ws.length mv] 25) := ⟨_, rfl⟩
  obtain ⟨B0, hB0⟩ : ∃ B0, B0 = w2.heap.size := ⟨_, rfl⟩
  rw [← hW3, ← hB0] at HOK0 ⊢
  rw [← hW3] at HBW0 HBX1
  have hs3 : w.heap.size + 2 ≤ W3.heap.size := by rw [hW3, World.size_alloc]; omega
  clear hW3 hB0
  have HOK : Hid (DiskG W3 (w.heap.size + 2) B0 count (.slice pv data.length cv) data (.slice qv ws.length mv) ws vs) := HOK0
  have HBW3 : Hid (Below (w.heap.size + 2) W W3) := HBW0
  have HBX : Hid (BIn W3 pb xs) := HBX1
  have HS : W3.drew.cell? ⟨B0, 2, none⟩ = some (.slice qv ws.length mv) := (cells3 HOK.out.box).2.2
  have HT0 : True := trivial
  clear HOK0 HBW0 HBX1
  refine wp_region_noPanic ?_
  refine beginZ (T := fun _ => True) (S := fun w' => w'.cell? ⟨B0, 2, none⟩ = some (.slice qv ws.length mv)) 9 (by kernel_rfl) ?_
  refine takeT 0 28 (v := ?_) rfl rfl (by kernel_rfl) (by kernel_rfl) (by kernel_rfl) (by kernel_rfl) (fun _ _ _ h => h) (by rfl) ?_ (by assumption) (by assumption) ?_
  rotate_left
  · intro w hTw; go_simp; first | done | with_reducible rfl
  simp only [Act.put, List.setIfInBounds_toArray, List.set_cons_zero, List.set_cons_succ]
  refine takeZ 1 29 7 (v := ?_) rfl rfl (by kernel_rfl) (by kernel_rfl) (by kernel_rfl) (by kernel_rfl) (by kernel_rfl) (by kernel_rfl) (by kernel_rfl) (fun _ _ _ h => h) (by rfl) ?_ (by assumption) (by assumption) ?_
  rotate_left
  · intro w hTw hSw; go_simp; first | done | with_reducible rfl
  simp only [Act.put, List.setIfInBounds_toArray, List.set_cons_zero, List.set_cons_succ]
  refine takeT 2 30 (v := ?_) rfl rfl (by kernel_rfl) (by kernel_rfl) (by kernel_rfl) (by kernel_rfl) (fun _ _ _ h => h) (by rfl) ?_ (by assumption) (by assumption) ?_
  rotate_left
  · intro w hTw; go_simp; first | done | with_reducible rfl
  simp only [Act.put, List.setIfInBounds_toArray, List.set_cons_zero, List.set_cons_succ]
  refine takeT 3 31 (v := ?_) rfl rfl (by kernel_rfl) (by kernel_rfl) (by kernel_rfl) (by kernel_rfl) (fun _ _ _ h => h) (by rfl) ?_ (by assumption) (by assumption) ?_
  rotate_left
  · intro w hTw; go_simp; first | done | with_reducible rfl
  simp only [Act.put, List.setIfInBounds_toArray, List.set_cons_zero, List.set_cons_succ]
  refine oneZ 4 (by kernel_rfl) rfl (by rfl) (fun K hK => ?_)
  go_simp
  refine (rbytes_any pb cb _ xs _ HXL.out (show BIn W3.drew pb xs from HBX.out) HPB.out (by rw [HX8.out]; omega)).mono ?_
  rintro e w4 ⟨xv, rfl, hxg, hb4⟩
  obtain ⟨px, cx, rfl, _⟩ := hxg.form
  rw [HX8.out]
  go_simp
  refine hK.out _ _ trivial (below_cell_some hb4 HS) (fun hTx hSx => ?_)
  clear hK K HS
  refine takeT 5 33 (v := ?_) rfl rfl (by kernel_rfl) (by kernel_rfl) (by kernel_rfl) (by kernel_rfl) (fun _ _ _ h => h) (by rfl) ?_ (by assumption) (by assumption) ?_
  rotate_left
  · intro w hTw; go_simp; first | done | with_reducible rfl
  simp only [Act.put, List.setIfInBounds_toArray, List.set_cons_zero, List.set_cons_succ]
  refine oneZ 6 (by kernel_rfl) rfl (by rfl) (fun K hK => ?_)
  go_simp
  refine hK.out _ _ trivial (below_cell_some (below_alloc w4 _) hSx) (fun hTy hSy => ?_)
  clear hK K hTx hSx
  refine oneZ 7 (by kernel_rfl) rfl (by rfl) (fun K hK => ?_)
  have hok4 := HOK.out.below (below_undrew hb4)
  refine step_append_lies _ (by rfl) (.tmp 29) (.tmp 34) 23 (by rfl) (w.heap.size + 2) 51 i0 _ 2 32 Try.underlying23 hi hz0 hz1 hz2 rfl (by omega) (.slice qv ws.length mv) ws.length (cellsV ws vs) (by rfl) ((hok4.puts.below (below_alloc w4 _)).row) ⟨w4.heap.size, 0, none⟩ 1 1 [.int .i64 n, .slice px 128 cx] (by rfl) (by rfl) (World.news_of_block (cs := #[.int .i64 n, .slice px 128 cx]) (t := 51) (fr := (0, 0)) (heap_alloc_new w4 _)) (two_oneCell _ _ _ _) (by omega) (by unfold maxLen; omega) (by omega) (by have := hb4.size; rw [World.size_alloc]; simp at *; omega) (w4.heap.size + 1) (by simp) ?_
  intro g' cap' w5 hown5 hgrow hat hlt5
  have HN2 : Hid (some B0 ≠ (Value.slice qv ws.length mv).ownBlock) := HOK.out.puts.apart (by decide) HOK.out.box
  refine hK.out _ _ trivial (hgrow.cell hSy HN2.out) (fun hTx hSx => ?_)
  clear hK K hTy hSy hat hlt5
  show wpAnyZ _ _ _ _ _ _ _ _ _ (Act.put _ (some 35) _) _
  simp only [Act.put, List.setIfInBounds_toArray, List.set_cons_zero, List.set_cons_succ]
  refine takeT 8 36 (v := ?_) rfl rfl (by kernel_rfl) (by kernel_rfl) (by kernel_rfl) (by kernel_rfl) (fun _ _ _ h => h) (by rfl) ?_ (by assumption) (by assumption) ?_
  rotate_left
  · intro w hTw; go_simp; first | done | with_reducible rfl
  simp only [Act.put, List.setIfInBounds_toArray, List.set_cons_zero, List.set_cons_succ]
  refine lastZ (by kernel_rfl) rfl (by rfl) (fun K hK => ?_)
  have hpd := hok4.pushed (s := n) (n := ws.length + 1) (xs := xs) (xv := .slice px 128 cx) (by have := hxg.mono (show w.heap.size + 2 ≤ W3.drew.heap.size from hs3); rwa [HX8.out] at this) rfl hown5 hgrow
  have hbx : w5.heap[B0]? = some (.cells #[.int .i64 count, .slice pv data.length cv, .slice qv ws.length mv] 25 (0, 0)) := (hgrow.block _ (by have := lt_heap hok4.box; rw [World.size_alloc]; omega) HN2.out).trans (((below_alloc w4 _).block _ (lt_heap hok4.box)).trans hok4.box)
  have hfr := frozen_of_row w5 B0 2 _ _ hbx
  have hbW5 : Below (w.heap.size + 2) W w5 := (((HBW3.out.trans ((below_undrew hb4).mono hs3)).alloc (by have := hb4.size; simp at *; omega) _)).grown hgrow (by rw [World.size_alloc]; have := hb4.size; simp at *; omega) (fun x hx => (hok4.puts.row.lt x hx).1)
  have HPD : Hid _ := hpd
  clear hbx hpd
  go_simp
  refine hK.out _ _ trivial ?_
  clear hK K
  refine doneZ (by kernel_rfl) (NoPanic.normal ?_) _
  have hbf := hbW5.setCell (p := ⟨B0, 2, none⟩) HOK.out.hB (.slice (some ⟨g', 0, none⟩) (ws.length + 1) cap')
  have hgf := HPD.out
  obtain ⟨b0, b1, b2⟩ := cells3 hgf.box
  obtain ⟨_, hR2, hbw2, hsz2⟩ := HX.out _ hbf
  obtain ⟨r0, r1, r2⟩ := cells3 hR2
  obtain ⟨f0, f1, f2⟩ := free3 hR2
  have HV : Hid _ := hgf.toV.mono (show w.heap.size ≤ w.heap.size + 2 by omega)
  have HR2 : Hid _ := hR2
  generalize (w5.setCell ⟨B0, 2, none⟩ (.slice (some ⟨g', 0, none⟩) (ws.length + 1) cap')) = w6 at *
  clear hgf hR2 HPD
  go_wp2
  (try simp only [Exit.inBlock, Exit.then])
  refine bodyPost_ret (v := .tuple #[.agg #[.int .i64 count, .slice pv data.length cv, .slice (some ⟨g', 0, none⟩) (ws.length + 1) cap'], .int .i64 0]) ?_ rfl ⟨⟨_, rfl, HV.out.set3 HR2.out _ _ _⟩, set3_below hbw2 (by omega) _ _ _⟩
  rw [results_cell_tmp rfl]
  go_simp
end Go.Proofs.Yteabacpalnamdaa
