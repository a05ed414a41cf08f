/-
  Proved: for every disk, two sectors and bytes the law DiskLast answers true: what was written is read, all other sectors are read as they were, and a flush changes nothing that is read.
  Conditions: none (every disk, int and []byte that can be read).
-/
import Derived.Test.YtmpeeojeifmbfaaRows
import Derived.Test.YtmpeeojeifmbfaaDMore
import Derived.WalkKit
import Derived.ProofKit
import Derived.OpenShut
import Derived.ShutString
import Derived.ChangeOld
import Derived.Below
namespace Go.Proofs.Ytmpeeojeifmbfaa.diskLast
open Go.ChangeShapes Go.WideShapes Go.ChangeAt Go.RowKit
open Go.ChangeMaps (open_string shut_string)
set_option linter.unusedVariables false

theorem own : ownKnob Try.prog.godebug = none := by kernel_rfl
theorem laidOut : laidOutB Try.prog = true := by kernel_rfl

open Go.Joins
theorem write_bad' (v : Value) (n : Int) (p : Option Addr) (c len : Nat) (xs : List Nat) (hl : len = xs.length) (count : Int) (data : List Nat) (ws : Puts) (w : World) (hd : DiskIn w v count data ws) (ho : ¬ Okay count data ws) :
    Calls Try.prog 10 #[v, .int .i64 n, .slice p len c] w fun e w' => e = .returned (.tuple #[zeroDisk, .int .i64 20]) ∧ Below w.heap.size w w' := by
  subst hl; exact write_bad v n p c xs count data ws w hd ho
theorem form0 {w : World} {base : Nat} {v : Value} {count : Int} {data : List Nat} (h : DiskNew w base v count data []) : ∃ gd L q m, v = .agg #[.int .i64 count, .slice (some ⟨gd, 0, none⟩) L L, .slice q 0 m] := by
  obtain ⟨gd, q, m, gs, h1, _⟩ := h.lies
  exact ⟨gd, _, q, m, h1⟩
theorem last_sure {count : Int} {data : List Nat} {ws : Puts} {n : Nat} {xs : List Nat} (h : Okay count data (ws ++ [((n : Int), xs)])) (hn : (n : Int) < count) : secN (settleN data (ws ++ [((n : Int), xs)])) n = xs := by
  have e1 := sec_settle h hn _ (Nat.le_refl _)
  have e2 : nowN data (ws ++ [((n : Int), xs)]) (n : Int) = xs := by rw [now_written, if_pos rfl]
  rw [settleN, e1]
  simpa [nowN] using e2
theorem nil_bin (w : World) : BIn w none [] := ⟨fun h => absurd h (by simp), by simp⟩
set_option maxRecDepth 4000 in
set_option maxHeartbeats 8000000 in
theorem walk_large (v : Value) (count : Int) (data : List Nat) (ws : Puts) (n m0 : Int) (pb : Option Addr) (lb cb : Nat) (w : World) (hd : DiskIn w v count data ws) (hl : largeN count data ws) :
    Calls Try.prog 6 #[v, .int .i64 n, .int .i64 m0, .slice pb lb cb] w fun e w' => e = .returned (.bool true) ∧ Below w.heap.size w w' := by
  obtain ⟨p, c, q, m, rfl, hbD, hcD, _, _, hqp, hqm, hqmm, _⟩ := hd.parts
  have HD0 : Hid _ := hd
  clear hd hbD hqp
  go_enter Try.func6, Try.ntmps6
  go_wp2_with fail
  refine (alive_any _).mono ?_
  rintro e w1 ⟨rfl, hb1⟩
  have HB : Hid (w1.heap[w.heap.size]? = some (.cells #[.int .i64 count, .slice p data.length c, .slice q ws.length m] 25 (0, 0))) := (hb1.block _ (by rw [World.size_alloc]; exact Nat.lt_succ_self _)).trans (heap_alloc_new w _)
  have hbc : Below w.heap.size w w1 := below_bt (below_alloc w _) hb1
  have HD : Hid (DiskIn w1 (.agg #[.int .i64 count, .slice p data.length c, .slice q ws.length m]) count data ws) := HD0.out.below hbc
  clear HD0 hb1
  obtain ⟨x0, x1, x2⟩ := cells3 HB.out
  have xlt := lt_heap HB.out
  go_wp2_with fail
  refine (large_any _ count data ws _ HD.out).mono ?_
  rintro e w2 ⟨rfl, hb2⟩
  rw [decide_eq_true hl]
  clear x0 x1 x2 xlt
  have bb1 : Below w1.heap.size w1 w2 := hb2
  replace HB : Hid (w2.heap[w.heap.size]? = some (.cells #[.int .i64 count, .slice p data.length c, .slice q ws.length m] 25 (0, 0))) := (bb1.block _ (lt_heap HB.out)).trans HB.out
  replace HD : Hid (DiskIn w2 (.agg #[.int .i64 count, .slice p data.length c, .slice q ws.length m]) count data ws) := HD.out.below bb1
  replace hbc : Below w.heap.size w w2 := below_bt hbc bb1
  clear bb1 hb2
  go_wp2
  go_ret
  exact ⟨rfl, hbc⟩
set_option maxRecDepth 4000 in
set_option maxHeartbeats 8000000 in
theorem walk_len (v : Value) (count : Int) (data : List Nat) (ws : Puts) (n m0 : Int) (pb : Option Addr) (lb cb : Nat) (w : World) (hd : DiskIn w v count data ws) (hl : ¬ largeN count data ws) (hb : ((lb : Int) != 128) = true) :
    Calls Try.prog 6 #[v, .int .i64 n, .int .i64 m0, .slice pb lb cb] w fun e w' => e = .returned (.bool true) ∧ Below w.heap.size w w' := by
  obtain ⟨p, c, q, m, rfl, hbD, hcD, _, _, hqp, hqm, hqmm, _⟩ := hd.parts
  have HD0 : Hid _ := hd
  clear hd hbD hqp
  go_enter Try.func6, Try.ntmps6
  go_wp2_with fail
  refine (alive_any _).mono ?_
  rintro e w1 ⟨rfl, hb1⟩
  have HB : Hid (w1.heap[w.heap.size]? = some (.cells #[.int .i64 count, .slice p data.length c, .slice q ws.length m] 25 (0, 0))) := (hb1.block _ (by rw [World.size_alloc]; exact Nat.lt_succ_self _)).trans (heap_alloc_new w _)
  have hbc : Below w.heap.size w w1 := below_bt (below_alloc w _) hb1
  have HD : Hid (DiskIn w1 (.agg #[.int .i64 count, .slice p data.length c, .slice q ws.length m]) count data ws) := HD0.out.below hbc
  clear HD0 hb1
  obtain ⟨x0, x1, x2⟩ := cells3 HB.out
  have xlt := lt_heap HB.out
  go_wp2_with fail
  refine (large_any _ count data ws _ HD.out).mono ?_
  rintro e w2 ⟨rfl, hb2⟩
  rw [decide_eq_false hl]
  clear x0 x1 x2 xlt
  have bb1 : Below w1.heap.size w1 w2 := hb2
  replace HB : Hid (w2.heap[w.heap.size]? = some (.cells #[.int .i64 count, .slice p data.length c, .slice q ws.length m] 25 (0, 0))) := (bb1.block _ (lt_heap HB.out)).trans HB.out
  replace HD : Hid (DiskIn w2 (.agg #[.int .i64 count, .slice p data.length c, .slice q ws.length m]) count data ws) := HD.out.below bb1
  replace hbc : Below w.heap.size w w2 := below_bt hbc bb1
  clear bb1 hb2
  go_wp2
  go_ret
  exact ⟨rfl, hbc⟩
set_option maxRecDepth 4000 in
set_option maxHeartbeats 8000000 in
theorem walk_bad (v : Value) (count : Int) (data : List Nat) (ws : Puts) (n m0 : Int) (pb : Option Addr) (cb : Nat) (xs : List Nat) (w : World) (hd : DiskIn w v count data ws) (hl : ¬ largeN count data ws) (hb : BIn w pb xs) (hx : 128 = xs.length) (h1 : 128 ≤ cb) (h2 : cb ≤ maxLen) (h3 : pb = none → cb = 0) (ho : ¬ Okay count data ws) :
    Calls Try.prog 6 #[v, .int .i64 n, .int .i64 m0, .slice pb 128 cb] w fun e w' => e = .returned (.bool true) ∧ Below w.heap.size w w' := by
  obtain ⟨p, c, q, m, rfl, hbD, hcD, _, _, hqp, hqm, hqmm, _⟩ := hd.parts
  have HD0 : Hid _ := hd
  clear hd hbD hqp
  go_enter Try.func6, Try.ntmps6
  go_wp2_with fail
  refine (alive_any _).mono ?_
  rintro e w1 ⟨rfl, hb1⟩
  have HB : Hid (w1.heap[w.heap.size]? = some (.cells #[.int .i64 count, .slice p data.length c, .slice q ws.length m] 25 (0, 0))) := (hb1.block _ (by rw [World.size_alloc]; exact Nat.lt_succ_self _)).trans (heap_alloc_new w _)
  have hbc : Below w.heap.size w w1 := below_bt (below_alloc w _) hb1
  have HD : Hid (DiskIn w1 (.agg #[.int .i64 count, .slice p data.length c, .slice q ws.length m]) count data ws) := HD0.out.below hbc
  clear HD0 hb1
  have HXL : Hid (128 = xs.length) := hx
  have H3 : Hid (pb = none → cb = 0) := h3
  clear hx h3
  have HBX : Hid (BIn w1 pb xs) := hb.below hbc
  clear hb
  obtain ⟨x0, x1, x2⟩ := cells3 HB.out
  have xlt := lt_heap HB.out
  go_wp2_with fail
  refine (large_any _ count data ws _ HD.out).mono ?_
  rintro e w2 ⟨rfl, hb2⟩
  rw [decide_eq_false hl]
  clear x0 x1 x2 xlt
  have bb1 : Below w1.heap.size w1 w2 := hb2
  replace HB : Hid (w2.heap[w.heap.size]? = some (.cells #[.int .i64 count, .slice p data.length c, .slice q ws.length m] 25 (0, 0))) := (bb1.block _ (lt_heap HB.out)).trans HB.out
  replace HD : Hid (DiskIn w2 (.agg #[.int .i64 count, .slice p data.length c, .slice q ws.length m]) count data ws) := HD.out.below bb1
  replace HBX : Hid (BIn w2 pb xs) := HBX.out.below bb1
  replace hbc : Below w.heap.size w w2 := below_bt hbc bb1
  clear bb1 hb2
  obtain ⟨x0, x1, x2⟩ := cells3 HB.out
  have xlt := lt_heap HB.out
  go_wp2_with fail
  refine (write_bad' _ n pb cb 128 xs HXL.out count data ws _ HD.out ho).mono ?_
  rintro e w3 ⟨rfl, hb3⟩
  clear x0 x1 x2 xlt
  have bb2 : Below w2.heap.size w2 w3 := hb3
  replace HB : Hid (w3.heap[w.heap.size]? = some (.cells #[.int .i64 count, .slice p data.length c, .slice q ws.length m] 25 (0, 0))) := (bb2.block _ (lt_heap HB.out)).trans HB.out
  replace HD : Hid (DiskIn w3 (.agg #[.int .i64 count, .slice p data.length c, .slice q ws.length m]) count data ws) := HD.out.below bb2
  replace HBX : Hid (BIn w3 pb xs) := HBX.out.below bb2
  replace hbc : Below w.heap.size w w3 := below_bt hbc bb2
  clear bb2 hb3
  go_wp2
  go_ret
  refine ⟨rfl, ?_⟩
  exact hbc.alloc hbc.size _
set_option maxRecDepth 4000 in
set_option maxHeartbeats 8000000 in
theorem walk_err (v : Value) (count : Int) (data : List Nat) (ws : Puts) (n m0 : Int) (pb : Option Addr) (cb : Nat) (xs : List Nat) (w : World) (hd : DiskIn w v count data ws) (hl : ¬ largeN count data ws) (hb : BIn w pb xs) (hx : 128 = xs.length) (h1 : 128 ≤ cb) (h2 : cb ≤ maxLen) (h3 : pb = none → cb = 0) (ho : Okay count data ws) (er : Int) (hne : (er != 0) = true) (hs : stepA count (data, ws) (false, n, xs) = .error er) :
    Calls Try.prog 6 #[v, .int .i64 n, .int .i64 m0, .slice pb 128 cb] w fun e w' => e = .returned (.bool true) ∧ Below w.heap.size w w' := by
  obtain ⟨p, c, q, m, rfl, hbD, hcD, _, _, hqp, hqm, hqmm, _⟩ := hd.parts
  have HD0 : Hid _ := hd
  clear hd hbD hqp
  go_enter Try.func6, Try.ntmps6
  go_wp2_with fail
  refine (alive_any _).mono ?_
  rintro e w1 ⟨rfl, hb1⟩
  have HB : Hid (w1.heap[w.heap.size]? = some (.cells #[.int .i64 count, .slice p data.length c, .slice q ws.length m] 25 (0, 0))) := (hb1.block _ (by rw [World.size_alloc]; exact Nat.lt_succ_self _)).trans (heap_alloc_new w _)
  have hbc : Below w.heap.size w w1 := below_bt (below_alloc w _) hb1
  have HD : Hid (DiskIn w1 (.agg #[.int .i64 count, .slice p data.length c, .slice q ws.length m]) count data ws) := HD0.out.below hbc
  clear HD0 hb1
  have HXL : Hid (128 = xs.length) := hx
  have H3 : Hid (pb = none → cb = 0) := h3
  clear hx h3
  have HBX : Hid (BIn w1 pb xs) := hb.below hbc
  clear hb
  obtain ⟨x0, x1, x2⟩ := cells3 HB.out
  have xlt := lt_heap HB.out
  go_wp2_with fail
  refine (large_any _ count data ws _ HD.out).mono ?_
  rintro e w2 ⟨rfl, hb2⟩
  rw [decide_eq_false hl]
  clear x0 x1 x2 xlt
  have bb1 : Below w1.heap.size w1 w2 := hb2
  replace HB : Hid (w2.heap[w.heap.size]? = some (.cells #[.int .i64 count, .slice p data.length c, .slice q ws.length m] 25 (0, 0))) := (bb1.block _ (lt_heap HB.out)).trans HB.out
  replace HD : Hid (DiskIn w2 (.agg #[.int .i64 count, .slice p data.length c, .slice q ws.length m]) count data ws) := HD.out.below bb1
  replace HBX : Hid (BIn w2 pb xs) := HBX.out.below bb1
  replace hbc : Below w.heap.size w w2 := below_bt hbc bb1
  clear bb1 hb2
  obtain ⟨x0, x1, x2⟩ := cells3 HB.out
  have xlt := lt_heap HB.out
  go_wp2_with fail
  have HS : Hid _ := hs
  clear hs
  refine (write_fails _ n pb 128 cb xs count data ws _ HD.out ho HBX.out HXL.out h1 h2 H3.out er HS.out).mono ?_
  rintro e w3 ⟨rfl, hb3⟩
  clear x0 x1 x2 xlt
  have bb2 : Below w2.heap.size w2 w3 := hb3
  replace HB : Hid (w3.heap[w.heap.size]? = some (.cells #[.int .i64 count, .slice p data.length c, .slice q ws.length m] 25 (0, 0))) := (bb2.block _ (lt_heap HB.out)).trans HB.out
  replace HD : Hid (DiskIn w3 (.agg #[.int .i64 count, .slice p data.length c, .slice q ws.length m]) count data ws) := HD.out.below bb2
  replace HBX : Hid (BIn w3 pb xs) := HBX.out.below bb2
  replace hbc : Below w.heap.size w w3 := below_bt hbc bb2
  clear bb2 hb3
  go_wp2
  go_ret
  refine ⟨rfl, ?_⟩
  exact hbc.alloc hbc.size _
set_option maxRecDepth 4000 in
set_option maxHeartbeats 8000000 in
theorem walk_in (v : Value) (count : Int) (data : List Nat) (ws : Puts) (n mm : Nat) (pb : Option Addr) (cb : Nat) (xs : List Nat) (w : World) (hd : DiskIn w v count data ws) (hl : ¬ largeN count data ws) (hb : BIn w pb xs) (hx : 128 = xs.length) (h1 : 128 ≤ cb) (h2 : cb ≤ maxLen) (h3 : pb = none → cb = 0) (ho : Okay count data ws) (hn : (n : Int) < count) (hs : stepA count (data, ws) (false, n, xs) = .ok (data, ws ++ [((n : Int), xs)])) (hmc : (mm : Int) < count) :
    Calls Try.prog 6 #[v, .int .i64 n, .int .i64 mm, .slice pb 128 cb] w fun e w' => e = .returned (.bool true) ∧ Below w.heap.size w w' := by
  obtain ⟨p, c, q, m, rfl, hbD, hcD, _, _, hqp, hqm, hqmm, _⟩ := hd.parts
  have HD0 : Hid _ := hd
  clear hd hbD hqp
  go_enter Try.func6, Try.ntmps6
  go_wp2_with fail
  refine (alive_any _).mono ?_
  rintro e w1 ⟨rfl, hb1⟩
  have HB : Hid (w1.heap[w.heap.size]? = some (.cells #[.int .i64 count, .slice p data.length c, .slice q ws.length m] 25 (0, 0))) := (hb1.block _ (by rw [World.size_alloc]; exact Nat.lt_succ_self _)).trans (heap_alloc_new w _)
  have hbc : Below w.heap.size w w1 := below_bt (below_alloc w _) hb1
  have HD : Hid (DiskIn w1 (.agg #[.int .i64 count, .slice p data.length c, .slice q ws.length m]) count data ws) := HD0.out.below hbc
  clear HD0 hb1
  have HXL : Hid (128 = xs.length) := hx
  have H3 : Hid (pb = none → cb = 0) := h3
  clear hx h3
  have HBX : Hid (BIn w1 pb xs) := hb.below hbc
  clear hb
  obtain ⟨x0, x1, x2⟩ := cells3 HB.out
  have xlt := lt_heap HB.out
  go_wp2_with fail
  refine (large_any _ count data ws _ HD.out).mono ?_
  rintro e w2 ⟨rfl, hb2⟩
  rw [decide_eq_false hl]
  clear x0 x1 x2 xlt
  have bb1 : Below w1.heap.size w1 w2 := hb2
  replace HB : Hid (w2.heap[w.heap.size]? = some (.cells #[.int .i64 count, .slice p data.length c, .slice q ws.length m] 25 (0, 0))) := (bb1.block _ (lt_heap HB.out)).trans HB.out
  replace HD : Hid (DiskIn w2 (.agg #[.int .i64 count, .slice p data.length c, .slice q ws.length m]) count data ws) := HD.out.below bb1
  replace HBX : Hid (BIn w2 pb xs) := HBX.out.below bb1
  replace hbc : Below w.heap.size w w2 := below_bt hbc bb1
  clear bb1 hb2
  obtain ⟨x0, x1, x2⟩ := cells3 HB.out
  have xlt := lt_heap HB.out
  go_wp2_with fail
  have HS : Hid _ := hs
  have HO : Hid (Okay count data ws) := ho
  have HO2 : Hid (Okay count data (ws ++ [((n : Int), xs)])) := okay_step (s := (data, ws)) (s' := (data, ws ++ [((n : Int), xs)])) ho hs
  clear hs ho
  refine (write_at _ n pb 128 cb xs count data ws _ HD.out HO.out HBX.out HXL.out h1 h2 H3.out _ _ HS.out).mono ?_
  rintro e w3 ⟨⟨v3, rfl, hn3⟩, hb3⟩
  have hnx := hn3.toIn HO2.out
  obtain ⟨gx, Lx, qx, Mx, mx, rfl⟩ := hn3.form
  clear x0 x1 x2 xlt hn3
  have bb2 : Below w2.heap.size w2 w3 := hb3
  replace HB : Hid (w3.heap[w.heap.size]? = some (.cells #[.int .i64 count, .slice p data.length c, .slice q ws.length m] 25 (0, 0))) := (bb2.block _ (lt_heap HB.out)).trans HB.out
  replace HD : Hid (DiskIn w3 (.agg #[.int .i64 count, .slice p data.length c, .slice q ws.length m]) count data ws) := HD.out.below bb2
  replace HBX : Hid (BIn w3 pb xs) := HBX.out.below bb2
  replace hbc : Below w.heap.size w w3 := below_bt hbc bb2
  clear bb2 hb3
  have HDX : Hid (DiskIn w3 (.agg #[.int .i64 count, .slice (some ⟨gx, 0, none⟩) Lx Lx, .slice qx Mx mx]) count data (ws ++ [((n : Int), xs)])) := hnx
  clear hnx
  go_wp2_with fail
  refine (read_ok _ n count data (ws ++ [((n : Int), xs)]) _ (HDX.out.below (below_alloc w3 (.cells #[.int .i64 count, .slice (some ⟨gx, 0, none⟩) Lx Lx, .slice qx Mx mx] 25))) HO2.out hn).mono ?_
  rintro e w4 ⟨⟨v4, rfl, hs4⟩, hb4⟩
  rw [now_written, if_pos rfl] at hs4
  obtain ⟨g4, rfl, _, hi4, hl4⟩ := hs4.form
  clear hs4
  have HXB : Hid (w4.heap[w3.heap.size]? = some (.cells #[.int .i64 count, .slice (some ⟨gx, 0, none⟩) Lx Lx, .slice qx Mx mx] 25 (0, 0))) := (hb4.block _ (by rw [World.size_alloc]; exact Nat.lt_succ_self _)).trans (heap_alloc_new w3 _)
  have bb3 : Below w3.heap.size w3 w4 := (below_bt (below_alloc w3 (.cells #[.int .i64 count, .slice (some ⟨gx, 0, none⟩) Lx Lx, .slice qx Mx mx] 25)) hb4)
  replace HB : Hid (w4.heap[w.heap.size]? = some (.cells #[.int .i64 count, .slice p data.length c, .slice q ws.length m] 25 (0, 0))) := (bb3.block _ (lt_heap HB.out)).trans HB.out
  replace HD : Hid (DiskIn w4 (.agg #[.int .i64 count, .slice p data.length c, .slice q ws.length m]) count data ws) := HD.out.below bb3
  replace HBX : Hid (BIn w4 pb xs) := HBX.out.below bb3
  replace HDX : Hid (DiskIn w4 (.agg #[.int .i64 count, .slice (some ⟨gx, 0, none⟩) Lx Lx, .slice qx Mx mx]) count data (ws ++ [((n : Int), xs)])) := HDX.out.below bb3
  replace hbc : Below w.heap.size w w4 := below_bt hbc bb3
  clear bb3 hb4
  have HI4 : Hid (BIn w4 (some ⟨g4, 0, none⟩) xs) := hi4
  clear hi4
  obtain ⟨x0, x1, x2⟩ := cells3 HB.out
  have xlt := lt_heap HB.out
  go_wp2_with fail
  refine (read_ok _ mm count data ws _ HD.out HO.out hmc).mono ?_
  rintro e w5 ⟨⟨v5, rfl, hs5⟩, hb5⟩
  obtain ⟨g5, rfl, _, hi5, hl5⟩ := hs5.form
  clear x0 x1 x2 xlt hs5
  have bb4 : Below w4.heap.size w4 w5 := hb5
  replace HB : Hid (w5.heap[w.heap.size]? = some (.cells #[.int .i64 count, .slice p data.length c, .slice q ws.length m] 25 (0, 0))) := (bb4.block _ (lt_heap HB.out)).trans HB.out
  replace HD : Hid (DiskIn w5 (.agg #[.int .i64 count, .slice p data.length c, .slice q ws.length m]) count data ws) := HD.out.below bb4
  replace HBX : Hid (BIn w5 pb xs) := HBX.out.below bb4
  replace HDX : Hid (DiskIn w5 (.agg #[.int .i64 count, .slice (some ⟨gx, 0, none⟩) Lx Lx, .slice qx Mx mx]) count data (ws ++ [((n : Int), xs)])) := HDX.out.below bb4
  replace HXB : Hid (w5.heap[w3.heap.size]? = some (.cells #[.int .i64 count, .slice (some ⟨gx, 0, none⟩) Lx Lx, .slice qx Mx mx] 25 (0, 0))) := (bb4.block _ (lt_heap HXB.out)).trans HXB.out
  replace HI4 : Hid (BIn w5 (some ⟨g4, 0, none⟩) xs) := HI4.out.below bb4
  replace hbc : Below w.heap.size w w5 := below_bt hbc bb4
  clear bb4 hb5
  have HI5 : Hid (BIn w5 (some ⟨g5, 0, none⟩) (nowN data ws mm)) := hi5
  clear hi5
  obtain ⟨x0, x1, x2⟩ := cells3 HXB.out
  have xlt := lt_heap HXB.out
  go_wp2_with fail
  refine (read_ok _ mm count data (ws ++ [((n : Int), xs)]) _ HDX.out HO2.out hmc).mono ?_
  rintro e w6 ⟨⟨v6, rfl, hs6⟩, hb6⟩
  obtain ⟨g6, rfl, _, hi6, hl6⟩ := hs6.form
  clear x0 x1 x2 xlt hs6
  have bb5 : Below w5.heap.size w5 w6 := hb6
  replace HB : Hid (w6.heap[w.heap.size]? = some (.cells #[.int .i64 count, .slice p data.length c, .slice q ws.length m] 25 (0, 0))) := (bb5.block _ (lt_heap HB.out)).trans HB.out
  replace HD : Hid (DiskIn w6 (.agg #[.int .i64 count, .slice p data.length c, .slice q ws.length m]) count data ws) := HD.out.below bb5
  replace HBX : Hid (BIn w6 pb xs) := HBX.out.below bb5
  replace HDX : Hid (DiskIn w6 (.agg #[.int .i64 count, .slice (some ⟨gx, 0, none⟩) Lx Lx, .slice qx Mx mx]) count data (ws ++ [((n : Int), xs)])) := HDX.out.below bb5
  replace HXB : Hid (w6.heap[w3.heap.size]? = some (.cells #[.int .i64 count, .slice (some ⟨gx, 0, none⟩) Lx Lx, .slice qx Mx mx] 25 (0, 0))) := (bb5.block _ (lt_heap HXB.out)).trans HXB.out
  replace HI4 : Hid (BIn w6 (some ⟨g4, 0, none⟩) xs) := HI4.out.below bb5
  replace HI5 : Hid (BIn w6 (some ⟨g5, 0, none⟩) (nowN data ws mm)) := HI5.out.below bb5
  replace hbc : Below w.heap.size w w6 := below_bt hbc bb5
  clear bb5 hb6
  have HI6 : Hid (BIn w6 (some ⟨g6, 0, none⟩) (nowN data (ws ++ [((n : Int), xs)]) mm)) := hi6
  clear hi6
  obtain ⟨x0, x1, x2⟩ := cells3 HXB.out
  have xlt := lt_heap HXB.out
  go_wp2_with fail
  refine (flush_at _ count data (ws ++ [((n : Int), xs)]) _ HDX.out HO2.out).mono ?_
  rintro e w7 ⟨⟨v7, rfl, hn7⟩, hb7⟩
  have hny := hn7.toIn (okay_settled HO2.out)
  obtain ⟨gy, Ly, qy, my, hv7⟩ := form0 hn7
  rw [hv7] at hny ⊢
  clear x0 x1 x2 xlt hn7 hv7
  have bb6 : Below w6.heap.size w6 w7 := hb7
  replace HB : Hid (w7.heap[w.heap.size]? = some (.cells #[.int .i64 count, .slice p data.length c, .slice q ws.length m] 25 (0, 0))) := (bb6.block _ (lt_heap HB.out)).trans HB.out
  replace HD : Hid (DiskIn w7 (.agg #[.int .i64 count, .slice p data.length c, .slice q ws.length m]) count data ws) := HD.out.below bb6
  replace HBX : Hid (BIn w7 pb xs) := HBX.out.below bb6
  replace HDX : Hid (DiskIn w7 (.agg #[.int .i64 count, .slice (some ⟨gx, 0, none⟩) Lx Lx, .slice qx Mx mx]) count data (ws ++ [((n : Int), xs)])) := HDX.out.below bb6
  replace HXB : Hid (w7.heap[w3.heap.size]? = some (.cells #[.int .i64 count, .slice (some ⟨gx, 0, none⟩) Lx Lx, .slice qx Mx mx] 25 (0, 0))) := (bb6.block _ (lt_heap HXB.out)).trans HXB.out
  replace HI4 : Hid (BIn w7 (some ⟨g4, 0, none⟩) xs) := HI4.out.below bb6
  replace HI5 : Hid (BIn w7 (some ⟨g5, 0, none⟩) (nowN data ws mm)) := HI5.out.below bb6
  replace HI6 : Hid (BIn w7 (some ⟨g6, 0, none⟩) (nowN data (ws ++ [((n : Int), xs)]) mm)) := HI6.out.below bb6
  replace hbc : Below w.heap.size w w7 := below_bt hbc bb6
  clear bb6 hb7
  have HDY : Hid (DiskIn w7 (.agg #[.int .i64 count, .slice (some ⟨gy, 0, none⟩) Ly Ly, .slice qy 0 my]) count (settleN data (ws ++ [((n : Int), xs)])) []) := hny
  clear hny
  go_wp2_with fail
  refine (sure_ok _ n count (settleN data (ws ++ [((n : Int), xs)])) [] _ (HDY.out.below (below_alloc w7 (.cells #[.int .i64 count, .slice (some ⟨gy, 0, none⟩) Ly Ly, .slice qy 0 my] 25))) (okay_settled HO2.out) hn).mono ?_
  rintro e w8 ⟨⟨v8, rfl, hs8⟩, hb8⟩
  rw [last_sure HO2.out hn] at hs8
  obtain ⟨g8, rfl, _, hi8, hl8⟩ := hs8.form
  clear hs8
  have HYB : Hid (w8.heap[w7.heap.size]? = some (.cells #[.int .i64 count, .slice (some ⟨gy, 0, none⟩) Ly Ly, .slice qy 0 my] 25 (0, 0))) := (hb8.block _ (by rw [World.size_alloc]; exact Nat.lt_succ_self _)).trans (heap_alloc_new w7 _)
  have bb7 : Below w7.heap.size w7 w8 := (below_bt (below_alloc w7 (.cells #[.int .i64 count, .slice (some ⟨gy, 0, none⟩) Ly Ly, .slice qy 0 my] 25)) hb8)
  replace HB : Hid (w8.heap[w.heap.size]? = some (.cells #[.int .i64 count, .slice p data.length c, .slice q ws.length m] 25 (0, 0))) := (bb7.block _ (lt_heap HB.out)).trans HB.out
  replace HD : Hid (DiskIn w8 (.agg #[.int .i64 count, .slice p data.length c, .slice q ws.length m]) count data ws) := HD.out.below bb7
  replace HBX : Hid (BIn w8 pb xs) := HBX.out.below bb7
  replace HDX : Hid (DiskIn w8 (.agg #[.int .i64 count, .slice (some ⟨gx, 0, none⟩) Lx Lx, .slice qx Mx mx]) count data (ws ++ [((n : Int), xs)])) := HDX.out.below bb7
  replace HXB : Hid (w8.heap[w3.heap.size]? = some (.cells #[.int .i64 count, .slice (some ⟨gx, 0, none⟩) Lx Lx, .slice qx Mx mx] 25 (0, 0))) := (bb7.block _ (lt_heap HXB.out)).trans HXB.out
  replace HI4 : Hid (BIn w8 (some ⟨g4, 0, none⟩) xs) := HI4.out.below bb7
  replace HI5 : Hid (BIn w8 (some ⟨g5, 0, none⟩) (nowN data ws mm)) := HI5.out.below bb7
  replace HI6 : Hid (BIn w8 (some ⟨g6, 0, none⟩) (nowN data (ws ++ [((n : Int), xs)]) mm)) := HI6.out.below bb7
  replace HDY : Hid (DiskIn w8 (.agg #[.int .i64 count, .slice (some ⟨gy, 0, none⟩) Ly Ly, .slice qy 0 my]) count (settleN data (ws ++ [((n : Int), xs)])) []) := HDY.out.below bb7
  replace hbc : Below w.heap.size w w8 := below_bt hbc bb7
  clear bb7 hb8
  have HI8 : Hid (BIn w8 (some ⟨g8, 0, none⟩) xs) := hi8
  clear hi8
  have cv4 := conv_at (c := 128) HI4.out hl4.symm
  have cv8 := conv_at (c := 128) HI8.out hl8.symm
  have cvb := conv_at (c := cb) HBX.out HXL.out
  have cv5 := conv_at (c := 128) HI5.out hl5.symm
  have cv6 := conv_at (c := 128) HI6.out hl6.symm
  have HL6 : Hid _ := hl6
  clear hl4 hl5 hl6 hl8
  have hxx : ((strOf xs).toList != (strOf xs).toList) = false := by simp
  have HNW : Hid (nowN data (ws ++ [((n : Int), xs)]) mm = if (n : Int) = (mm : Int) then xs else nowN data ws mm) := now_written
  have HST : Hid (nowN (settleN data (ws ++ [((n : Int), xs)])) [] mm = nowN data (ws ++ [((n : Int), xs)]) mm) := now_settled HO2.out hmc
  obtain ⟨x0, x1, x2⟩ := cells3 HYB.out
  have xlt := lt_heap HYB.out
  by_cases hmn : (mm : Int) = (n : Int)
  · have hmb : ((mm : Int) != (n : Int)) = false := by simpa using hmn
    clear hmn
    go_wp2_with fail
    refine (read_ok _ mm count (settleN data (ws ++ [((n : Int), xs)])) [] _ HDY.out (okay_settled HO2.out) hmc).mono ?_
    rintro e w9 ⟨⟨v9, rfl, hs9⟩, hb9⟩
    rw [HST.out] at hs9
    obtain ⟨g9, rfl, _, hi9, hl9⟩ := hs9.form
    clear x0 x1 x2 xlt hs9
    have bb8 : Below w8.heap.size w8 w9 := hb9
    replace HB : Hid (w9.heap[w.heap.size]? = some (.cells #[.int .i64 count, .slice p data.length c, .slice q ws.length m] 25 (0, 0))) := (bb8.block _ (lt_heap HB.out)).trans HB.out
    replace HD : Hid (DiskIn w9 (.agg #[.int .i64 count, .slice p data.length c, .slice q ws.length m]) count data ws) := HD.out.below bb8
    replace HBX : Hid (BIn w9 pb xs) := HBX.out.below bb8
    replace HDX : Hid (DiskIn w9 (.agg #[.int .i64 count, .slice (some ⟨gx, 0, none⟩) Lx Lx, .slice qx Mx mx]) count data (ws ++ [((n : Int), xs)])) := HDX.out.below bb8
    replace HXB : Hid (w9.heap[w3.heap.size]? = some (.cells #[.int .i64 count, .slice (some ⟨gx, 0, none⟩) Lx Lx, .slice qx Mx mx] 25 (0, 0))) := (bb8.block _ (lt_heap HXB.out)).trans HXB.out
    replace HI4 : Hid (BIn w9 (some ⟨g4, 0, none⟩) xs) := HI4.out.below bb8
    replace HI5 : Hid (BIn w9 (some ⟨g5, 0, none⟩) (nowN data ws mm)) := HI5.out.below bb8
    replace HI6 : Hid (BIn w9 (some ⟨g6, 0, none⟩) (nowN data (ws ++ [((n : Int), xs)]) mm)) := HI6.out.below bb8
    replace HDY : Hid (DiskIn w9 (.agg #[.int .i64 count, .slice (some ⟨gy, 0, none⟩) Ly Ly, .slice qy 0 my]) count (settleN data (ws ++ [((n : Int), xs)])) []) := HDY.out.below bb8
    replace HYB : Hid (w9.heap[w7.heap.size]? = some (.cells #[.int .i64 count, .slice (some ⟨gy, 0, none⟩) Ly Ly, .slice qy 0 my] 25 (0, 0))) := (bb8.block _ (lt_heap HYB.out)).trans HYB.out
    replace HI8 : Hid (BIn w9 (some ⟨g8, 0, none⟩) xs) := HI8.out.below bb8
    replace hbc : Below w.heap.size w w9 := below_bt hbc bb8
    clear bb8 hb9
    have cv9 := conv_at (c := 128) hi9 hl9.symm
    have cv6' := conv_at (c := 128) HI6.out HL6.out.symm
    have hqq : ((strOf (nowN data (ws ++ [((n : Int), xs)]) mm)).toList == (strOf (nowN data (ws ++ [((n : Int), xs)]) mm)).toList) = true := by simp
    clear hi9 hl9
    obtain ⟨x0, x1, x2⟩ := cells3 HYB.out
    have xlt := lt_heap HYB.out
    go_wp2
    go_ret
    exact ⟨rfl, hbc⟩
  · have hmb : ((mm : Int) != (n : Int)) = true := by simpa using hmn
    have HE : Hid (nowN data (ws ++ [((n : Int), xs)]) mm = nowN data ws mm) := by show _ = _; rw [HNW.out, if_neg (fun h => hmn h.symm)]
    rw [← HE.out] at cv5
    clear hmn HE
    go_wp2_with fail
    refine (read_ok _ mm count (settleN data (ws ++ [((n : Int), xs)])) [] _ HDY.out (okay_settled HO2.out) hmc).mono ?_
    rintro e w9 ⟨⟨v9, rfl, hs9⟩, hb9⟩
    rw [HST.out] at hs9
    obtain ⟨g9, rfl, _, hi9, hl9⟩ := hs9.form
    clear x0 x1 x2 xlt hs9
    have bb8 : Below w8.heap.size w8 w9 := hb9
    replace HB : Hid (w9.heap[w.heap.size]? = some (.cells #[.int .i64 count, .slice p data.length c, .slice q ws.length m] 25 (0, 0))) := (bb8.block _ (lt_heap HB.out)).trans HB.out
    replace HD : Hid (DiskIn w9 (.agg #[.int .i64 count, .slice p data.length c, .slice q ws.length m]) count data ws) := HD.out.below bb8
    replace HBX : Hid (BIn w9 pb xs) := HBX.out.below bb8
    replace HDX : Hid (DiskIn w9 (.agg #[.int .i64 count, .slice (some ⟨gx, 0, none⟩) Lx Lx, .slice qx Mx mx]) count data (ws ++ [((n : Int), xs)])) := HDX.out.below bb8
    replace HXB : Hid (w9.heap[w3.heap.size]? = some (.cells #[.int .i64 count, .slice (some ⟨gx, 0, none⟩) Lx Lx, .slice qx Mx mx] 25 (0, 0))) := (bb8.block _ (lt_heap HXB.out)).trans HXB.out
    replace HI4 : Hid (BIn w9 (some ⟨g4, 0, none⟩) xs) := HI4.out.below bb8
    replace HI5 : Hid (BIn w9 (some ⟨g5, 0, none⟩) (nowN data ws mm)) := HI5.out.below bb8
    replace HI6 : Hid (BIn w9 (some ⟨g6, 0, none⟩) (nowN data (ws ++ [((n : Int), xs)]) mm)) := HI6.out.below bb8
    replace HDY : Hid (DiskIn w9 (.agg #[.int .i64 count, .slice (some ⟨gy, 0, none⟩) Ly Ly, .slice qy 0 my]) count (settleN data (ws ++ [((n : Int), xs)])) []) := HDY.out.below bb8
    replace HYB : Hid (w9.heap[w7.heap.size]? = some (.cells #[.int .i64 count, .slice (some ⟨gy, 0, none⟩) Ly Ly, .slice qy 0 my] 25 (0, 0))) := (bb8.block _ (lt_heap HYB.out)).trans HYB.out
    replace HI8 : Hid (BIn w9 (some ⟨g8, 0, none⟩) xs) := HI8.out.below bb8
    replace hbc : Below w.heap.size w w9 := below_bt hbc bb8
    clear bb8 hb9
    have cv9 := conv_at (c := 128) hi9 hl9.symm
    have cv6' := conv_at (c := 128) HI6.out HL6.out.symm
    have hqq : ((strOf (nowN data (ws ++ [((n : Int), xs)]) mm)).toList == (strOf (nowN data (ws ++ [((n : Int), xs)]) mm)).toList) = true := by simp
    clear hi9 hl9
    obtain ⟨x0, x1, x2⟩ := cells3 HYB.out
    have xlt := lt_heap HYB.out
    go_wp2
    go_ret
    exact ⟨rfl, hbc⟩
set_option maxRecDepth 4000 in
set_option maxHeartbeats 8000000 in
theorem walk_out (v : Value) (count : Int) (data : List Nat) (ws : Puts) (n : Nat) (m0 : Int) (pb : Option Addr) (cb : Nat) (xs : List Nat) (w : World) (hd : DiskIn w v count data ws) (hl : ¬ largeN count data ws) (hb : BIn w pb xs) (hx : 128 = xs.length) (h1 : 128 ≤ cb) (h2 : cb ≤ maxLen) (h3 : pb = none → cb = 0) (ho : Okay count data ws) (hn : (n : Int) < count) (hs : stepA count (data, ws) (false, n, xs) = .ok (data, ws ++ [((n : Int), xs)])) (hmr : ¬ (0 ≤ m0 ∧ m0 < count)) :
    Calls Try.prog 6 #[v, .int .i64 n, .int .i64 m0, .slice pb 128 cb] w fun e w' => e = .returned (.bool true) ∧ Below w.heap.size w w' := by
  obtain ⟨p, c, q, m, rfl, hbD, hcD, _, _, hqp, hqm, hqmm, _⟩ := hd.parts
  have HD0 : Hid _ := hd
  clear hd hbD hqp
  go_enter Try.func6, Try.ntmps6
  go_wp2_with fail
  refine (alive_any _).mono ?_
  rintro e w1 ⟨rfl, hb1⟩
  have HB : Hid (w1.heap[w.heap.size]? = some (.cells #[.int .i64 count, .slice p data.length c, .slice q ws.length m] 25 (0, 0))) := (hb1.block _ (by rw [World.size_alloc]; exact Nat.lt_succ_self _)).trans (heap_alloc_new w _)
  have hbc : Below w.heap.size w w1 := below_bt (below_alloc w _) hb1
  have HD : Hid (DiskIn w1 (.agg #[.int .i64 count, .slice p data.length c, .slice q ws.length m]) count data ws) := HD0.out.below hbc
  clear HD0 hb1
  have HXL : Hid (128 = xs.length) := hx
  have H3 : Hid (pb = none → cb = 0) := h3
  clear hx h3
  have HBX : Hid (BIn w1 pb xs) := hb.below hbc
  clear hb
  obtain ⟨x0, x1, x2⟩ := cells3 HB.out
  have xlt := lt_heap HB.out
  go_wp2_with fail
  refine (large_any _ count data ws _ HD.out).mono ?_
  rintro e w2 ⟨rfl, hb2⟩
  rw [decide_eq_false hl]
  clear x0 x1 x2 xlt
  have bb1 : Below w1.heap.size w1 w2 := hb2
  replace HB : Hid (w2.heap[w.heap.size]? = some (.cells #[.int .i64 count, .slice p data.length c, .slice q ws.length m] 25 (0, 0))) := (bb1.block _ (lt_heap HB.out)).trans HB.out
  replace HD : Hid (DiskIn w2 (.agg #[.int .i64 count, .slice p data.length c, .slice q ws.length m]) count data ws) := HD.out.below bb1
  replace HBX : Hid (BIn w2 pb xs) := HBX.out.below bb1
  replace hbc : Below w.heap.size w w2 := below_bt hbc bb1
  clear bb1 hb2
  obtain ⟨x0, x1, x2⟩ := cells3 HB.out
  have xlt := lt_heap HB.out
  go_wp2_with fail
  have HS : Hid _ := hs
  have HO : Hid (Okay count data ws) := ho
  have HO2 : Hid (Okay count data (ws ++ [((n : Int), xs)])) := okay_step (s := (data, ws)) (s' := (data, ws ++ [((n : Int), xs)])) ho hs
  clear hs ho
  refine (write_at _ n pb 128 cb xs count data ws _ HD.out HO.out HBX.out HXL.out h1 h2 H3.out _ _ HS.out).mono ?_
  rintro e w3 ⟨⟨v3, rfl, hn3⟩, hb3⟩
  have hnx := hn3.toIn HO2.out
  obtain ⟨gx, Lx, qx, Mx, mx, rfl⟩ := hn3.form
  clear x0 x1 x2 xlt hn3
  have bb2 : Below w2.heap.size w2 w3 := hb3
  replace HB : Hid (w3.heap[w.heap.size]? = some (.cells #[.int .i64 count, .slice p data.length c, .slice q ws.length m] 25 (0, 0))) := (bb2.block _ (lt_heap HB.out)).trans HB.out
  replace HD : Hid (DiskIn w3 (.agg #[.int .i64 count, .slice p data.length c, .slice q ws.length m]) count data ws) := HD.out.below bb2
  replace HBX : Hid (BIn w3 pb xs) := HBX.out.below bb2
  replace hbc : Below w.heap.size w w3 := below_bt hbc bb2
  clear bb2 hb3
  have HDX : Hid (DiskIn w3 (.agg #[.int .i64 count, .slice (some ⟨gx, 0, none⟩) Lx Lx, .slice qx Mx mx]) count data (ws ++ [((n : Int), xs)])) := hnx
  clear hnx
  go_wp2_with fail
  refine (read_ok _ n count data (ws ++ [((n : Int), xs)]) _ (HDX.out.below (below_alloc w3 (.cells #[.int .i64 count, .slice (some ⟨gx, 0, none⟩) Lx Lx, .slice qx Mx mx] 25))) HO2.out hn).mono ?_
  rintro e w4 ⟨⟨v4, rfl, hs4⟩, hb4⟩
  rw [now_written, if_pos rfl] at hs4
  obtain ⟨g4, rfl, _, hi4, hl4⟩ := hs4.form
  clear hs4
  have HXB : Hid (w4.heap[w3.heap.size]? = some (.cells #[.int .i64 count, .slice (some ⟨gx, 0, none⟩) Lx Lx, .slice qx Mx mx] 25 (0, 0))) := (hb4.block _ (by rw [World.size_alloc]; exact Nat.lt_succ_self _)).trans (heap_alloc_new w3 _)
  have bb3 : Below w3.heap.size w3 w4 := (below_bt (below_alloc w3 (.cells #[.int .i64 count, .slice (some ⟨gx, 0, none⟩) Lx Lx, .slice qx Mx mx] 25)) hb4)
  replace HB : Hid (w4.heap[w.heap.size]? = some (.cells #[.int .i64 count, .slice p data.length c, .slice q ws.length m] 25 (0, 0))) := (bb3.block _ (lt_heap HB.out)).trans HB.out
  replace HD : Hid (DiskIn w4 (.agg #[.int .i64 count, .slice p data.length c, .slice q ws.length m]) count data ws) := HD.out.below bb3
  replace HBX : Hid (BIn w4 pb xs) := HBX.out.below bb3
  replace HDX : Hid (DiskIn w4 (.agg #[.int .i64 count, .slice (some ⟨gx, 0, none⟩) Lx Lx, .slice qx Mx mx]) count data (ws ++ [((n : Int), xs)])) := HDX.out.below bb3
  replace hbc : Below w.heap.size w w4 := below_bt hbc bb3
  clear bb3 hb4
  have HI4 : Hid (BIn w4 (some ⟨g4, 0, none⟩) xs) := hi4
  clear hi4
  obtain ⟨x0, x1, x2⟩ := cells3 HB.out
  have xlt := lt_heap HB.out
  go_wp2_with fail
  refine (read_err _ m0 count data ws _ HD.out 21 (by decide) (errS_range HO.out hmr)).mono ?_
  rintro e w5 ⟨rfl, hb5⟩
  clear x0 x1 x2 xlt
  have bb4 : Below w4.heap.size w4 w5 := hb5
  replace HB : Hid (w5.heap[w.heap.size]? = some (.cells #[.int .i64 count, .slice p data.length c, .slice q ws.length m] 25 (0, 0))) := (bb4.block _ (lt_heap HB.out)).trans HB.out
  replace HD : Hid (DiskIn w5 (.agg #[.int .i64 count, .slice p data.length c, .slice q ws.length m]) count data ws) := HD.out.below bb4
  replace HBX : Hid (BIn w5 pb xs) := HBX.out.below bb4
  replace HDX : Hid (DiskIn w5 (.agg #[.int .i64 count, .slice (some ⟨gx, 0, none⟩) Lx Lx, .slice qx Mx mx]) count data (ws ++ [((n : Int), xs)])) := HDX.out.below bb4
  replace HXB : Hid (w5.heap[w3.heap.size]? = some (.cells #[.int .i64 count, .slice (some ⟨gx, 0, none⟩) Lx Lx, .slice qx Mx mx] 25 (0, 0))) := (bb4.block _ (lt_heap HXB.out)).trans HXB.out
  replace HI4 : Hid (BIn w5 (some ⟨g4, 0, none⟩) xs) := HI4.out.below bb4
  replace hbc : Below w.heap.size w w5 := below_bt hbc bb4
  clear bb4 hb5
  obtain ⟨x0, x1, x2⟩ := cells3 HXB.out
  have xlt := lt_heap HXB.out
  go_wp2_with fail
  refine (read_err _ m0 count data (ws ++ [((n : Int), xs)]) _ HDX.out 21 (by decide) (errS_range HO2.out hmr)).mono ?_
  rintro e w6 ⟨rfl, hb6⟩
  clear x0 x1 x2 xlt
  have bb5 : Below w5.heap.size w5 w6 := hb6
  replace HB : Hid (w6.heap[w.heap.size]? = some (.cells #[.int .i64 count, .slice p data.length c, .slice q ws.length m] 25 (0, 0))) := (bb5.block _ (lt_heap HB.out)).trans HB.out
  replace HD : Hid (DiskIn w6 (.agg #[.int .i64 count, .slice p data.length c, .slice q ws.length m]) count data ws) := HD.out.below bb5
  replace HBX : Hid (BIn w6 pb xs) := HBX.out.below bb5
  replace HDX : Hid (DiskIn w6 (.agg #[.int .i64 count, .slice (some ⟨gx, 0, none⟩) Lx Lx, .slice qx Mx mx]) count data (ws ++ [((n : Int), xs)])) := HDX.out.below bb5
  replace HXB : Hid (w6.heap[w3.heap.size]? = some (.cells #[.int .i64 count, .slice (some ⟨gx, 0, none⟩) Lx Lx, .slice qx Mx mx] 25 (0, 0))) := (bb5.block _ (lt_heap HXB.out)).trans HXB.out
  replace HI4 : Hid (BIn w6 (some ⟨g4, 0, none⟩) xs) := HI4.out.below bb5
  replace hbc : Below w.heap.size w w6 := below_bt hbc bb5
  clear bb5 hb6
  obtain ⟨x0, x1, x2⟩ := cells3 HXB.out
  have xlt := lt_heap HXB.out
  go_wp2_with fail
  refine (flush_at _ count data (ws ++ [((n : Int), xs)]) _ HDX.out HO2.out).mono ?_
  rintro e w7 ⟨⟨v7, rfl, hn7⟩, hb7⟩
  have hny := hn7.toIn (okay_settled HO2.out)
  obtain ⟨gy, Ly, qy, my, hv7⟩ := form0 hn7
  rw [hv7] at hny ⊢
  clear x0 x1 x2 xlt hn7 hv7
  have bb6 : Below w6.heap.size w6 w7 := hb7
  replace HB : Hid (w7.heap[w.heap.size]? = some (.cells #[.int .i64 count, .slice p data.length c, .slice q ws.length m] 25 (0, 0))) := (bb6.block _ (lt_heap HB.out)).trans HB.out
  replace HD : Hid (DiskIn w7 (.agg #[.int .i64 count, .slice p data.length c, .slice q ws.length m]) count data ws) := HD.out.below bb6
  replace HBX : Hid (BIn w7 pb xs) := HBX.out.below bb6
  replace HDX : Hid (DiskIn w7 (.agg #[.int .i64 count, .slice (some ⟨gx, 0, none⟩) Lx Lx, .slice qx Mx mx]) count data (ws ++ [((n : Int), xs)])) := HDX.out.below bb6
  replace HXB : Hid (w7.heap[w3.heap.size]? = some (.cells #[.int .i64 count, .slice (some ⟨gx, 0, none⟩) Lx Lx, .slice qx Mx mx] 25 (0, 0))) := (bb6.block _ (lt_heap HXB.out)).trans HXB.out
  replace HI4 : Hid (BIn w7 (some ⟨g4, 0, none⟩) xs) := HI4.out.below bb6
  replace hbc : Below w.heap.size w w7 := below_bt hbc bb6
  clear bb6 hb7
  have HDY : Hid (DiskIn w7 (.agg #[.int .i64 count, .slice (some ⟨gy, 0, none⟩) Ly Ly, .slice qy 0 my]) count (settleN data (ws ++ [((n : Int), xs)])) []) := hny
  clear hny
  go_wp2_with fail
  refine (sure_ok _ n count (settleN data (ws ++ [((n : Int), xs)])) [] _ (HDY.out.below (below_alloc w7 (.cells #[.int .i64 count, .slice (some ⟨gy, 0, none⟩) Ly Ly, .slice qy 0 my] 25))) (okay_settled HO2.out) hn).mono ?_
  rintro e w8 ⟨⟨v8, rfl, hs8⟩, hb8⟩
  rw [last_sure HO2.out hn] at hs8
  obtain ⟨g8, rfl, _, hi8, hl8⟩ := hs8.form
  clear hs8
  have HYB : Hid (w8.heap[w7.heap.size]? = some (.cells #[.int .i64 count, .slice (some ⟨gy, 0, none⟩) Ly Ly, .slice qy 0 my] 25 (0, 0))) := (hb8.block _ (by rw [World.size_alloc]; exact Nat.lt_succ_self _)).trans (heap_alloc_new w7 _)
  have bb7 : Below w7.heap.size w7 w8 := (below_bt (below_alloc w7 (.cells #[.int .i64 count, .slice (some ⟨gy, 0, none⟩) Ly Ly, .slice qy 0 my] 25)) hb8)
  replace HB : Hid (w8.heap[w.heap.size]? = some (.cells #[.int .i64 count, .slice p data.length c, .slice q ws.length m] 25 (0, 0))) := (bb7.block _ (lt_heap HB.out)).trans HB.out
  replace HD : Hid (DiskIn w8 (.agg #[.int .i64 count, .slice p data.length c, .slice q ws.length m]) count data ws) := HD.out.below bb7
  replace HBX : Hid (BIn w8 pb xs) := HBX.out.below bb7
  replace HDX : Hid (DiskIn w8 (.agg #[.int .i64 count, .slice (some ⟨gx, 0, none⟩) Lx Lx, .slice qx Mx mx]) count data (ws ++ [((n : Int), xs)])) := HDX.out.below bb7
  replace HXB : Hid (w8.heap[w3.heap.size]? = some (.cells #[.int .i64 count, .slice (some ⟨gx, 0, none⟩) Lx Lx, .slice qx Mx mx] 25 (0, 0))) := (bb7.block _ (lt_heap HXB.out)).trans HXB.out
  replace HI4 : Hid (BIn w8 (some ⟨g4, 0, none⟩) xs) := HI4.out.below bb7
  replace HDY : Hid (DiskIn w8 (.agg #[.int .i64 count, .slice (some ⟨gy, 0, none⟩) Ly Ly, .slice qy 0 my]) count (settleN data (ws ++ [((n : Int), xs)])) []) := HDY.out.below bb7
  replace hbc : Below w.heap.size w w8 := below_bt hbc bb7
  clear bb7 hb8
  have HI8 : Hid (BIn w8 (some ⟨g8, 0, none⟩) xs) := hi8
  clear hi8
  have cv4 := conv_at (c := 128) HI4.out hl4.symm
  have cv8 := conv_at (c := 128) HI8.out hl8.symm
  have cvb := conv_at (c := cb) HBX.out HXL.out
  clear hl4 hl8
  have hmb : (m0 != (n : Int)) = true := by simp; rintro rfl; exact hmr ⟨by omega, hn⟩
  have cvn := conv_at (w := w8) (c := 0) (nil_bin w8) (show 0 = List.length [] from rfl)
  have hnn : ((strOf []).toList != (strOf []).toList) = false := by simp
  have hnn' : ((strOf []).toList == (strOf []).toList) = true := by simp
  have hxx : ((strOf xs).toList != (strOf xs).toList) = false := by simp
  obtain ⟨x0, x1, x2⟩ := cells3 HYB.out
  have xlt := lt_heap HYB.out
  go_wp2_with fail
  refine (read_err _ m0 count (settleN data (ws ++ [((n : Int), xs)])) [] _ HDY.out 21 (by decide) (errS_range (okay_settled HO2.out) hmr)).mono ?_
  rintro e w9 ⟨rfl, hb9⟩
  clear x0 x1 x2 xlt
  have bb8 : Below w8.heap.size w8 w9 := hb9
  replace HB : Hid (w9.heap[w.heap.size]? = some (.cells #[.int .i64 count, .slice p data.length c, .slice q ws.length m] 25 (0, 0))) := (bb8.block _ (lt_heap HB.out)).trans HB.out
  replace HD : Hid (DiskIn w9 (.agg #[.int .i64 count, .slice p data.length c, .slice q ws.length m]) count data ws) := HD.out.below bb8
  replace HBX : Hid (BIn w9 pb xs) := HBX.out.below bb8
  replace HDX : Hid (DiskIn w9 (.agg #[.int .i64 count, .slice (some ⟨gx, 0, none⟩) Lx Lx, .slice qx Mx mx]) count data (ws ++ [((n : Int), xs)])) := HDX.out.below bb8
  replace HXB : Hid (w9.heap[w3.heap.size]? = some (.cells #[.int .i64 count, .slice (some ⟨gx, 0, none⟩) Lx Lx, .slice qx Mx mx] 25 (0, 0))) := (bb8.block _ (lt_heap HXB.out)).trans HXB.out
  replace HI4 : Hid (BIn w9 (some ⟨g4, 0, none⟩) xs) := HI4.out.below bb8
  replace HDY : Hid (DiskIn w9 (.agg #[.int .i64 count, .slice (some ⟨gy, 0, none⟩) Ly Ly, .slice qy 0 my]) count (settleN data (ws ++ [((n : Int), xs)])) []) := HDY.out.below bb8
  replace HYB : Hid (w9.heap[w7.heap.size]? = some (.cells #[.int .i64 count, .slice (some ⟨gy, 0, none⟩) Ly Ly, .slice qy 0 my] 25 (0, 0))) := (bb8.block _ (lt_heap HYB.out)).trans HYB.out
  replace HI8 : Hid (BIn w9 (some ⟨g8, 0, none⟩) xs) := HI8.out.below bb8
  replace hbc : Below w.heap.size w w9 := below_bt hbc bb8
  clear bb8 hb9
  have cvn9 := conv_at (w := w9) (c := 0) (nil_bin w9) (show 0 = List.length [] from rfl)
  obtain ⟨x0, x1, x2⟩ := cells3 HYB.out
  have xlt := lt_heap HYB.out
  go_wp2
  go_ret
  exact ⟨rfl, hbc⟩
theorem walk (v : Value) (count : Int) (data : List Nat) (ws : Puts) (n m0 : Int) (bv : Value) (xs : List Nat) (w : World) (hd : DiskIn w v count data ws) (wn : (Lit.int .i64 n).wf = true) (wm : (Lit.int .i64 m0).wf = true) (hb : Row w bv xs) :
    Calls Try.prog 6 #[v, .int .i64 n, .int .i64 m0, bv] w fun e w' => e = .returned (.bool true) ∧ Below w.heap.size w w' := by
  obtain ⟨pb, cb, rfl, hbb, h1, h2, h3⟩ := hb.lies
  by_cases hl : largeN count data ws
  · exact walk_large v count data ws n m0 pb _ cb w hd hl
  · by_cases hx : xs.length = 128
    · rw [hx] at h1 ⊢
      by_cases ho : Okay count data ws
      · cases hs : stepA count (data, ws) (false, n, xs) with
        | error er =>
          refine walk_err v count data ws n m0 pb cb xs w hd hl hbb hx.symm h1 h2 h3 ho er ?_ hs
          simp only [stepA] at hs
          repeat' (split at hs)
          all_goals first | (cases hs; rfl) | (cases hs)
        | ok s' =>
          have hn : 0 ≤ n ∧ n < count := by
            simp only [stepA] at hs
            by_cases h : 0 ≤ n ∧ n < count
            · exact h
            · simp [h] at hs
          obtain ⟨k, rfl⟩ := Int.eq_ofNat_of_zero_le hn.1
          have hs' : stepA count (data, ws) (false, (k : Int), xs) = .ok (data, ws ++ [((k : Int), xs)]) := by
            by_cases hf : 4096 ≤ ws.length
            · simp [stepA, hn, hx, hf] at hs
            · simp [stepA, hn, hx, hf]
          by_cases hm : 0 ≤ m0 ∧ m0 < count
          · obtain ⟨mm, rfl⟩ := Int.eq_ofNat_of_zero_le hm.1
            exact walk_in v count data ws k mm pb cb xs w hd hl hbb hx.symm h1 h2 h3 ho hn.2 hs' hm.2
          · exact walk_out v count data ws k m0 pb cb xs w hd hl hbb hx.symm h1 h2 h3 ho hn.2 hs' hm
      · exact walk_bad v count data ws n m0 pb cb xs w hd hl hbb hx.symm h1 h2 h3 ho
    · exact walk_len v count data ws n m0 pb _ cb w hd hl (by simp; omega)

/-! ### THE ROW's STEP -/
set_option maxRecDepth 100000 in
theorem lifted (os : Os) (started : os.Started) (H : Type) (enc : TypeId × Value → H) :
    ReturnsInHanded {} Try.checked os 6 .any (Rows.diskLastSpec.pre6 enc Try.prog Try.f6 Rows.diskLastRow.domain false) (Rows.diskLastSpec.post enc Try.prog Try.f6 false true false false) := by
  refine returnsInHanded_of_change (C := Try.checked) own started (by kernel_rfl) Try.func6
    (ChangeSpec.witness6 (enc := enc) (C := Try.checked) false ⟨#[], #[.agg #[.int .i64 0, .slice none 0 0, .slice none 0 0], .int .i64 0, .int .i64 0, .slice none 0 0], []⟩ 8 (by kernel_rfl) (by kernel_rfl) (by kernel_rfl) (by kernel_rfl)) ?_
  intro W base args ds gs before hval0 hW hcnd _
  have hval : ∀ (j : Nat) t v, Try.f6.params[j]? = some t → args[j]? = some v → Value.okWide Try.prog W .any base t v := hval0
  have hW' := hW
  obtain ⟨p, q, hA0, hV, rfl, hfz, hnd⟩ := hW
  have hA : DataW.TrodAll enc Try.prog W 0 (fun _ => true) true Try.f6.params.toList args.toList ds p := hA0
  rw [Try.params6] at hA hval
  obtain ⟨v0, vs0, d0, ds0, p0, q0, hargs, rfl, rfl, h0, r0⟩ := trodAll_cons hA
  obtain ⟨v1, vs1, d1, ds1, p1, q1, rfl, rfl, rfl, h1, r1⟩ := trodAll_cons r0
  obtain ⟨v2, vs2, d2, ds2, p2, q2, rfl, rfl, rfl, h2, r2⟩ := trodAll_cons r1
  obtain ⟨v3, vs3, d3, ds3, p3, q3, rfl, rfl, rfl, h3, r3⟩ := trodAll_cons r2
  obtain ⟨rfl, rfl, rfl⟩ := trodAll_nil r3
  obtain rfl : args = #[v0, v1, v2, v3] := by cases args; simp_all
  obtain ⟨rfl, rfl⟩ := trodVars_none hV
  have k0 := h0
  have lt0 : ∀ x ∈ p0, x.block < W.heap.size := by obtain ⟨m, hm⟩ := k0; exact DataW.trod_lt m _ _ _ hm
  obtain ⟨count0, data0, ws0, w0⟩ := open_disk (tD := 25) (t := 23) (e := 51) (tb := 22) (eb := 5) Try.underlying25 (by kernel_rfl) (by kernel_rfl) Try.underlying3 rfl rfl Try.underlying23 Try.underlying51 (by kernel_rfl) rfl rfl (by kernel_rfl) (by kernel_rfl) Try.underlying3 rfl Try.underlying22 Try.underlying5 (by kernel_rfl) (hval 0 25 v0 rfl rfl) h0
  obtain ⟨a1, rfl, rfl, rfl, w1⟩ := open_int Try.underlying3 (hval 1 3 v1 rfl rfl) h1
  obtain ⟨a2, rfl, rfl, rfl, w2⟩ := open_int Try.underlying3 (hval 2 3 v2 rfl rfl) h2
  have k3 := h3
  have lt3 : ∀ x ∈ p3, x.block < W.heap.size := by obtain ⟨m, hm⟩ := k3; exact DataW.trod_lt m _ _ _ hm
  obtain ⟨qa3, la3, ca3, rfl⟩ := okWide_slice Try.underlying22 (hval 3 22 v3 rfl rfl)
  obtain ⟨fu3, hf3⟩ := h3
  obtain ⟨xs3, w3⟩ := open_bytes Try.underlying22 Try.underlying5 (by kernel_rfl) hf3
  clear hA0 hval0
  refine (walk v0 count0 data0 ws0 a1 a2 (.slice qa3 la3 ca3) xs3 W w0 w1 w2 w3).mono fun e W' ⟨he, bel⟩ => ?_
  subst he
  exact ⟨_, rfl, _, _, _, [], _, [], hW', trodAll_mk1 (shut_bool Try.underlying4 _), (trodAll_cons_mk (Below.trod laidOut (by kernel_rfl) (of_decide_eq_true (by kernel_rfl)) k0 bel lt0) (trodAll_cons_mk (shut_int Try.underlying3 w1) (trodAll_cons_mk (shut_int Try.underlying3 w2) (trodAll_cons_mk (Below.trod laidOut (by kernel_rfl) (of_decide_eq_true (by kernel_rfl)) k3 bel lt3) trodAll_mk0)))), rfl, bel.frame _, fun h => by cases h⟩

theorem over : Rows.diskLastRow.holds Try.pinned (OpenSpec.ofChange Rows.diskLastSpec) :=
  OpenClaim.holds_of_wide 6 Try.f6 rfl rfl rfl rfl rfl rfl rfl ⟨rfl, rfl, rfl, rfl, rfl⟩ rfl rfl rfl rfl rfl (by kernel_rfl) Try.func6 (by kernel_rfl)
    (of_decide_eq_true (by kernel_rfl)) (by unfold Func.isWrapper; first | (rw [if_pos (by decide +kernel)]; kernel_rfl) | (rw [if_neg (by decide +kernel)]; exact ⟨rfl, rfl⟩))
    (fun os started H enc _ => lifted os started H enc)

theorem proved : Rows.DiskLastSaid := over
end Go.Proofs.Ytmpeeojeifmbfaa.diskLast
namespace Go.Proofs.Ytmpeeojeifmbfaa
theorem diskLast_holds : Rows.DiskLastSaid := diskLast.proved
#print axioms diskLast_holds
end Go.Proofs.Ytmpeeojeifmbfaa
