/-
  Contracts of the calls Write and Flush: each is Do of one act.
-/
import Derived.Test.YteabacpalnamdaaDDo
namespace Go.Proofs.Yteabacpalnamdaa
open Go.RowKit Go.WideShapes

theorem doN_one (count : Int) (s : List Nat × Puts) (a : Bool × Int × List Nat) : doN count s [a] = stepA count s a := by
  simp only [doN]
  cases stepA count s a <;> rfl
/-- One act in a block of its own. -/
theorem acts_one {X : World} {H : Nat} (hH : H = X.heap.size) {f : Bool} {s : Int} {p : Option Addr} {c : Nat} {xs : List Nat} {t : TypeId} (hb : BIn X p xs) (h1 : xs.length ≤ c) (h2 : c ≤ maxLen) (h3 : p = none → c = 0) :
    ActsIn (X.alloc (.cells #[.bool f, .int .i64 s, .slice p xs.length c] t)) (some ⟨H, 0, none⟩) [(f, s, xs)] := by
  subst hH
  intro _
  have hh := heap_alloc_new X (.cells #[.bool f, .int .i64 s, .slice p xs.length c] t)
  refine ⟨X.heap.size, 0, rfl, fun i hi => ?_⟩
  obtain rfl : i = 0 := by simpa using hi
  refine ⟨cell_of_row _ _ _ _ _ _ hh, cell_of_row _ _ _ _ _ _ hh, _, cell_of_row _ _ _ _ _ _ hh, ⟨p, c, rfl, hb.alloc _, h1, h2, h3⟩⟩

set_option maxHeartbeats 1000000 in
theorem write_bad (v : Value) (n : Int) (p : Option Addr) (c : Nat) (xs : List Nat) (count : Int) (data : List Nat) (ws : Puts) (w : World) (hd : DiskIn w v count data ws) (ho : ¬ Okay count data ws) :
    Calls Try.prog 10 #[v, .int .i64 n, .slice p xs.length c] w fun e w' => e = .returned (.tuple #[zeroDisk, .int .i64 20]) ∧ Below w.heap.size w w' := by
  obtain ⟨pd, cd, q, m, rfl, _⟩ := hd.parts
  have HD : Hid _ := hd
  clear hd
  go_enter Try.func10, Try.ntmps10
  go_wp2_with fail
  refine (do_bad _ _ count data ws _ (HD.out.below (((below_alloc w _).alloc (by simp) _).alloc (by simp; omega) _)) ho).mono ?_
  rintro e w1 ⟨rfl, hb1⟩
  have hb2 : Below (w.heap.size + 2) ((w.alloc (.cells #[.int .i64 count, .slice pd data.length cd, .slice q ws.length m] 25)).alloc (.cells #[.int .i64 0, .slice none 0 0, .slice none 0 0] 25)) w1 := (below_alloc _ _).mono (by simp) |>.trans (hb1.mono (by simp))
  obtain ⟨_, hR⟩ := box2_cells hb2
  obtain ⟨r0, r1, r2⟩ := cells3 hR
  obtain ⟨f0, f1, f2⟩ := free3 hR
  have HR : Hid _ := hR
  have hbw := box2_below hb2
  clear hR hb1 hb2
  go_wp2
  (try simp only [Exit.inBlock, Exit.then])
  refine bodyPost_ret (v := .tuple #[zeroDisk, .int .i64 20]) ?_ rfl ⟨?_, set3_below hbw (by omega) _ _ _⟩
  · rw [results_cell_tmp rfl]
    go_simp
  · rfl
set_option maxHeartbeats 1000000 in
theorem write_ok (v : Value) (n : Int) (p : Option Addr) (c : Nat) (xs : List Nat) (count : Int) (data : List Nat) (ws : Puts) (w : World) (hd : DiskIn w v count data ws) (ho : Okay count data ws) (hb : BIn w p xs) (h1 : xs.length ≤ c) (h2 : c ≤ maxLen) (h3 : p = none → c = 0) :
    Calls Try.prog 10 #[v, .int .i64 n, .slice p xs.length c] w fun e w' => DoPost w.heap.size count (stepA count (data, ws) (false, n, xs)) e w' ∧ Below w.heap.size w w' := by
  obtain ⟨pd, cd, q, m, rfl, _⟩ := hd.parts
  have HD : Hid _ := hd
  clear hd
  have HB : Hid (BIn w p xs) := hb
  have H3 : Hid (p = none → c = 0) := h3
  clear hb h3
  go_enter Try.func10, Try.ntmps10
  go_wp2_with fail
  have HA : Hid _ := acts_one (H := w.heap.size + 1 + 1) (X := ((w.alloc (.cells #[.int .i64 count, .slice pd data.length cd, .slice q ws.length m] 25)).alloc (.cells #[.int .i64 0, .slice none 0 0, .slice none 0 0] 25))) (f := false) (s := n) (t := 53) (by simp) (HB.out.below ((below_alloc w _).alloc (by simp) _)) h1 h2 H3.out
  refine (do_ok _ count data ws _ (HD.out.below (((below_alloc w _).alloc (by simp) _).alloc (by simp; omega) _)) ho (some ⟨w.heap.size + 1 + 1, 0, none⟩) 1 [(false, n, xs)] HA.out (by simp)).mono ?_
  rintro e w1 ⟨hpost, hb1⟩
  have hb2 : Below (w.heap.size + 2) ((w.alloc (.cells #[.int .i64 count, .slice pd data.length cd, .slice q ws.length m] 25)).alloc (.cells #[.int .i64 0, .slice none 0 0, .slice none 0 0] 25)) w1 := (below_alloc _ _).mono (by simp) |>.trans (hb1.mono (by simp))
  obtain ⟨_, hR⟩ := box2_cells hb2
  obtain ⟨r0, r1, r2⟩ := cells3 hR
  obtain ⟨f0, f1, f2⟩ := free3 hR
  have HR : Hid _ := hR
  have hbw := box2_below hb2
  clear hR hb1 hb2
  rw [doN_one] at hpost
  generalize hr : stepA count (data, ws) (false, n, xs) = r at hpost
  have HRR : Hid (stepA count (data, ws) (false, n, xs) = r) := hr
  clear hr
  cases hpost with
  | err cc =>
    go_wp2
    (try simp only [Exit.inBlock, Exit.then])
    refine bodyPost_ret (v := .tuple #[zeroDisk, .int .i64 cc]) ?_ rfl ⟨?_, set3_below hbw (by omega) _ _ _⟩
    · rw [results_cell_tmp rfl]
      go_simp
    · rw [HRR.out]; exact .err _ _
  | ok dk wk v' _ hnew =>
    obtain ⟨gd, q2, m2, gs, rfl, hx⟩ := hnew.lies
    have HN : Hid _ := hnew
    have HW := hnew.mono (show w.heap.size ≤ _ by simp; omega)
    have HW' : Hid _ := HW
    clear hnew hx HW HN
    go_wp2
    (try simp only [Exit.inBlock, Exit.then])
    refine bodyPost_ret (v := .tuple #[.agg #[.int .i64 count, .slice (some ⟨gd, 0, none⟩) dk.length dk.length, .slice q2 wk.length m2], .int .i64 0]) ?_ rfl ⟨?_, set3_below hbw (by omega) _ _ _⟩
    · rw [results_cell_tmp rfl]
      go_simp
    · rw [HRR.out]; exact .ok _ _ _ _ (HW'.out.set3 HR.out _ _ _)
set_option maxHeartbeats 1000000 in
theorem flush_bad (v : Value) (count : Int) (data : List Nat) (ws : Puts) (w : World) (hd : DiskIn w v count data ws) (ho : ¬ Okay count data ws) :
    Calls Try.prog 12 #[v] w fun e w' => e = .returned (.tuple #[zeroDisk, .int .i64 20]) ∧ Below w.heap.size w w' := by
  obtain ⟨pd, cd, q, m, rfl, _⟩ := hd.parts
  have HD : Hid _ := hd
  clear hd
  go_enter Try.func12, Try.ntmps12
  go_wp2_with fail
  refine (do_bad _ _ count data ws _ (HD.out.below (((below_alloc w _).alloc (by simp) _).alloc (by simp; omega) _)) ho).mono ?_
  rintro e w1 ⟨rfl, hb1⟩
  have hb2 : Below (w.heap.size + 2) ((w.alloc (.cells #[.int .i64 count, .slice pd data.length cd, .slice q ws.length m] 25)).alloc (.cells #[.int .i64 0, .slice none 0 0, .slice none 0 0] 25)) w1 := (below_alloc _ _).mono (by simp) |>.trans (hb1.mono (by simp))
  obtain ⟨_, hR⟩ := box2_cells hb2
  obtain ⟨r0, r1, r2⟩ := cells3 hR
  obtain ⟨f0, f1, f2⟩ := free3 hR
  have HR : Hid _ := hR
  have hbw := box2_below hb2
  clear hR hb1 hb2
  go_wp2
  (try simp only [Exit.inBlock, Exit.then])
  refine bodyPost_ret (v := .tuple #[zeroDisk, .int .i64 20]) ?_ rfl ⟨?_, set3_below hbw (by omega) _ _ _⟩
  · rw [results_cell_tmp rfl]
    go_simp
  · rfl
set_option maxHeartbeats 1000000 in
theorem flush_ok (v : Value) (count : Int) (data : List Nat) (ws : Puts) (w : World) (hd : DiskIn w v count data ws) (ho : Okay count data ws) :
    Calls Try.prog 12 #[v] w fun e w' => DoPost w.heap.size count (.ok (settleN data ws, [])) e w' ∧ Below w.heap.size w w' := by
  obtain ⟨pd, cd, q, m, rfl, _⟩ := hd.parts
  have HD : Hid _ := hd
  clear hd
  go_enter Try.func12, Try.ntmps12
  go_wp2_with fail
  have HA : Hid _ := acts_one (H := w.heap.size + 1 + 1) (X := ((w.alloc (.cells #[.int .i64 count, .slice pd data.length cd, .slice q ws.length m] 25)).alloc (.cells #[.int .i64 0, .slice none 0 0, .slice none 0 0] 25))) (f := true) (s := 0) (p := none) (c := 0) (xs := []) (t := 53) (by simp) ⟨fun h => absurd h (by simp), by simp⟩ (by simp) (by unfold maxLen; omega) (fun _ => rfl)
  refine (do_ok _ count data ws _ (HD.out.below (((below_alloc w _).alloc (by simp) _).alloc (by simp; omega) _)) ho (some ⟨w.heap.size + 1 + 1, 0, none⟩) 1 [(true, 0, [])] HA.out (by simp)).mono ?_
  rintro e w1 ⟨hpost, hb1⟩
  have hb2 : Below (w.heap.size + 2) ((w.alloc (.cells #[.int .i64 count, .slice pd data.length cd, .slice q ws.length m] 25)).alloc (.cells #[.int .i64 0, .slice none 0 0, .slice none 0 0] 25)) w1 := (below_alloc _ _).mono (by simp) |>.trans (hb1.mono (by simp))
  obtain ⟨_, hR⟩ := box2_cells hb2
  obtain ⟨r0, r1, r2⟩ := cells3 hR
  obtain ⟨f0, f1, f2⟩ := free3 hR
  have HR : Hid _ := hR
  have hbw := box2_below hb2
  clear hR hb1 hb2
  rw [doN_one] at hpost
  have hst : stepA count (data, ws) (true, 0, []) = .ok (settleN data ws, []) := rfl
  rw [hst] at hpost
  clear hst
  generalize hdk : settleN data ws = dk at hpost
  have HDK : Hid (settleN data ws = dk) := hdk
  clear hdk
  cases hpost with
  | ok _ _ v' _ hnew =>
    obtain ⟨gd, q2, m2, gs, rfl, hx⟩ := hnew.lies
    have HW := hnew.mono (show w.heap.size ≤ _ by simp; omega)
    have HW' : Hid _ := HW
    clear hnew hx HW
    go_wp2
    (try simp only [Exit.inBlock, Exit.then])
    refine bodyPost_ret (v := .tuple #[.agg #[.int .i64 count, .slice (some ⟨gd, 0, none⟩) dk.length dk.length, .slice q2 0 m2], .int .i64 0]) ?_ rfl ⟨?_, set3_below hbw (by omega) _ _ _⟩
    · rw [results_cell_tmp rfl]
      go_simp
    · rw [HDK.out]; exact .ok _ _ _ _ (HW'.out.set3 HR.out _ _ _)
end Go.Proofs.Yteabacpalnamdaa
