/-
  Proved: for every disk the law DiskAll answers true: a loss of power that keeps every write is a flush, one that keeps none leaves what was sure, and a disk is the same as itself alone.
  Conditions: none (every disk that can be read).
-/
import Derived.Test.YtmpeeojeifmbfabRows
import Derived.Test.YtmpeeojeifmbfabDMore
import Derived.WalkKit
import Derived.ProofKit
import Derived.OpenShut
import Derived.ShutString
import Derived.ChangeOld
import Derived.Below
namespace Go.Proofs.Ytmpeeojeifmbfab.diskAll
open Go.ChangeShapes Go.WideShapes Go.ChangeAt Go.RowKit
open Go.ChangeMaps (open_string shut_string)
set_option linter.unusedVariables false

theorem own : ownKnob Try.prog.godebug = none := by kernel_rfl
theorem laidOut : laidOutB Try.prog = true := by kernel_rfl

open Go.Joins
/-- Cells of truth values. -/
def Cb (bs : List Bool) : List Value := bs.map Value.bool
def keepK (n k : Nat) : List Bool := List.replicate k true ++ List.replicate (n - k) false
theorem keepK_len (n k : Nat) (h : k ≤ n) : (keepK n k).length = n := by simp [keepK]; omega
theorem keepK_step (n k : Nat) (h : k < n) : (keepK n k).set k true = keepK n (k + 1) := by
  unfold keepK
  rw [List.set_append_right _ _ (by simp), List.length_replicate, Nat.sub_self, show n - k = (n - (k + 1)) + 1 from by omega, List.replicate_succ, List.set_cons_zero, List.replicate_succ', List.append_assoc]
  rfl
theorem Cb_set (bs : List Bool) (k : Nat) (x : Bool) : (Cb bs).toArray.setIfInBounds k (.bool x) = (Cb (bs.set k x)).toArray := by
  simp [Cb, List.map_set]
theorem info_bool : (Try.prog.info? 4).map (fun i => (i.zero, i.size, i.bytes)) = some (some (.bool false), 1, 1) := by kernel_rfl
theorem falses_made (n : Nat) : (madeCells #[Value.bool false] n).toList = Cb (keepK n 0) := by
  rw [toList_madeCells_one]
  simp [Cb, keepK]
theorem bools_row {w : World} {g t n : Nat} (h : w.heap[g]? = some (.cells (Cb (keepK n n)).toArray t (0, 0))) : BoolsIn w (some ⟨g, 0, none⟩) (keepK n n) := by
  intro _
  refine ⟨g, 0, rfl, fun i hi => ?_⟩
  rw [Nat.zero_add, cell_of_row w g i _ _ _ h]
  simp [Cb, List.getD, List.getElem?_eq_getElem hi]
theorem keepK_all (n k : Nat) (h : k < n) : (keepK n n).getD k false = true := by
  simp [keepK, List.getD, h]
theorem diskIn_bytes {w : World} {count : Int} {data : List Nat} {ws : Puts} {p q : Option Addr} {n c M m : Nat} (h : DiskIn w (.agg #[.int .i64 count, .slice p n c, .slice q M m]) count data ws) : BIn w p data ∧ n = data.length := by
  obtain ⟨p', c', q', m', e, hb, _⟩ := h.parts
  simp only [Value.agg.injEq, Array.mk.injEq, List.cons.injEq, Value.slice.injEq, and_true, true_and] at e
  rw [e.1.1]
  exact ⟨hb, e.1.2.1⟩
theorem crash_at (v : Value) (count : Int) (data : List Nat) (ws : Puts) (w : World) (hd : DiskIn w v count data ws) (ho : Okay count data ws) (ql : Option Addr) (n ml : Nat) (keep : List Bool) (hn : n = keep.length) (hl : BoolsIn w ql keep) (hll : keep.length ≤ 9223372036854775807) :
    Calls Try.prog 7 #[v, .slice ql n ml] w fun e w' => (∃ v', e = .returned (.tuple #[v', .int .i64 0]) ∧ DiskNew w' w.heap.size v' count (crashN data ws keep) []) ∧ Below w.heap.size w w' := by
  subst hn; exact crash_ok v count data ws w hd ho ql ml keep hl hll
theorem all_x {data : List Nat} {ws : Puts} : crashN data ws (keepK ws.length ws.length) = settleN data ws := crash_all (fun k hk => keepK_all _ k hk) _ (Nat.le_refl _)
theorem all_z {data : List Nat} {ws : Puts} : crashN data ws [] = data := crash_none _
theorem form0 {w : World} {base : Nat} {v : Value} {count : Int} {data : List Nat} (h : DiskNew w base v count data []) : ∃ gd L q m, v = .agg #[.int .i64 count, .slice (some ⟨gd, 0, none⟩) L L, .slice q 0 m] := by
  obtain ⟨gd, q, m, gs, h1, _⟩ := h.lies
  exact ⟨gd, _, q, m, h1⟩
attribute [local go_sem ↓] Go.wp_at_zero Go.wp_at_succ
set_option maxRecDepth 4000 in
set_option maxHeartbeats 8000000 in
theorem walk_large (v : Value) (count : Int) (data : List Nat) (ws : Puts) (w : World) (hd : DiskIn w v count data ws) (hl : largeN count data ws) :
    Calls Try.prog 3 #[v] w fun e w' => e = .returned (.bool true) ∧ Below w.heap.size w w' := by
  obtain ⟨p, c, q, m, rfl, hbD, hcD, _, _, hqp, hqm, hqmm, _⟩ := hd.parts
  have HD0 : Hid _ := hd
  clear hd hbD hqp
  go_enter Try.func3, Try.ntmps3
  go_wp2_with fail
  refine (alive_any _).mono ?_
  rintro e w1 ⟨rfl, hb1⟩
  have HB : Hid (w1.heap[w.heap.size]? = some (.cells #[.int .i64 count, .slice p data.length c, .slice q ws.length m] 25 (0, 0))) := (hb1.block _ (by rw [World.size_alloc]; exact Nat.lt_succ_self _)).trans (heap_alloc_new w _)
  have hbc : Below w.heap.size w w1 := below_bt (below_alloc w _) hb1
  have HD : Hid (DiskIn w1 (.agg #[.int .i64 count, .slice p data.length c, .slice q ws.length m]) count data ws) := HD0.out.below hbc
  clear HD0 hb1
  obtain ⟨x0, x1, x2⟩ := cells3 HB.out
  have xlt := lt_heap HB.out
  go_wp2_with fail
  refine (large_any _ count data ws _ HD.out).mono ?_
  rintro e w2 ⟨rfl, hb2⟩
  rw [decide_eq_true hl]
  clear x0 x1 x2 xlt
  have bb1 : Below w1.heap.size w1 w2 := hb2
  replace HB : Hid (w2.heap[w.heap.size]? = some (.cells #[.int .i64 count, .slice p data.length c, .slice q ws.length m] 25 (0, 0))) := (bb1.block _ (lt_heap HB.out)).trans HB.out
  replace HD : Hid (DiskIn w2 (.agg #[.int .i64 count, .slice p data.length c, .slice q ws.length m]) count data ws) := HD.out.below bb1
  replace hbc : Below w.heap.size w w2 := below_bt hbc bb1
  clear bb1 hb2
  go_wp2
  go_ret
  exact ⟨rfl, hbc⟩
set_option maxRecDepth 4000 in
set_option maxHeartbeats 8000000 in
theorem walk_bad (v : Value) (count : Int) (data : List Nat) (ws : Puts) (w : World) (hd : DiskIn w v count data ws) (hl : ¬ largeN count data ws) (ho : ¬ Okay count data ws) :
    Calls Try.prog 3 #[v] w fun e w' => e = .returned (.bool true) ∧ Below w.heap.size w w' := by
  obtain ⟨p, c, q, m, rfl, hbD, hcD, _, _, hqp, hqm, hqmm, _⟩ := hd.parts
  have HD0 : Hid _ := hd
  clear hd hbD hqp
  go_enter Try.func3, Try.ntmps3
  go_wp2_with fail
  refine (alive_any _).mono ?_
  rintro e w1 ⟨rfl, hb1⟩
  have HB : Hid (w1.heap[w.heap.size]? = some (.cells #[.int .i64 count, .slice p data.length c, .slice q ws.length m] 25 (0, 0))) := (hb1.block _ (by rw [World.size_alloc]; exact Nat.lt_succ_self _)).trans (heap_alloc_new w _)
  have hbc : Below w.heap.size w w1 := below_bt (below_alloc w _) hb1
  have HD : Hid (DiskIn w1 (.agg #[.int .i64 count, .slice p data.length c, .slice q ws.length m]) count data ws) := HD0.out.below hbc
  clear HD0 hb1
  obtain ⟨x0, x1, x2⟩ := cells3 HB.out
  have xlt := lt_heap HB.out
  go_wp2_with fail
  refine (large_any _ count data ws _ HD.out).mono ?_
  rintro e w2 ⟨rfl, hb2⟩
  rw [decide_eq_false hl]
  clear x0 x1 x2 xlt
  have bb1 : Below w1.heap.size w1 w2 := hb2
  replace HB : Hid (w2.heap[w.heap.size]? = some (.cells #[.int .i64 count, .slice p data.length c, .slice q ws.length m] 25 (0, 0))) := (bb1.block _ (lt_heap HB.out)).trans HB.out
  replace HD : Hid (DiskIn w2 (.agg #[.int .i64 count, .slice p data.length c, .slice q ws.length m]) count data ws) := HD.out.below bb1
  replace hbc : Below w.heap.size w w2 := below_bt hbc bb1
  clear bb1 hb2
  obtain ⟨x0, x1, x2⟩ := cells3 HB.out
  have xlt := lt_heap HB.out
  go_wp2_with fail
  refine (check_bad _ count data ws _ HD.out ho).mono ?_
  rintro e w3 ⟨rfl, hb3⟩
  clear x0 x1 x2 xlt
  have bb2 : Below w2.heap.size w2 w3 := hb3
  replace HB : Hid (w3.heap[w.heap.size]? = some (.cells #[.int .i64 count, .slice p data.length c, .slice q ws.length m] 25 (0, 0))) := (bb2.block _ (lt_heap HB.out)).trans HB.out
  replace HD : Hid (DiskIn w3 (.agg #[.int .i64 count, .slice p data.length c, .slice q ws.length m]) count data ws) := HD.out.below bb2
  replace hbc : Below w.heap.size w w3 := below_bt hbc bb2
  clear bb2 hb3
  go_wp2
  go_ret
  exact ⟨rfl, hbc⟩
set_option maxRecDepth 4000 in
set_option maxHeartbeats 8000000 in
theorem walk_main (v : Value) (count : Int) (data : List Nat) (ws : Puts) (w : World) (hd : DiskIn w v count data ws) (hl : ¬ largeN count data ws) (ho : Okay count data ws) :
    Calls Try.prog 3 #[v] w fun e w' => e = .returned (.bool true) ∧ Below w.heap.size w w' := by
  obtain ⟨p, c, q, m, rfl, hbD, hcD, _, _, hqp, hqm, hqmm, _⟩ := hd.parts
  have HD0 : Hid _ := hd
  clear hd hbD hqp
  go_enter Try.func3, Try.ntmps3
  go_wp2_with fail
  refine (alive_any _).mono ?_
  rintro e w1 ⟨rfl, hb1⟩
  have HB : Hid (w1.heap[w.heap.size]? = some (.cells #[.int .i64 count, .slice p data.length c, .slice q ws.length m] 25 (0, 0))) := (hb1.block _ (by rw [World.size_alloc]; exact Nat.lt_succ_self _)).trans (heap_alloc_new w _)
  have hbc : Below w.heap.size w w1 := below_bt (below_alloc w _) hb1
  have HD : Hid (DiskIn w1 (.agg #[.int .i64 count, .slice p data.length c, .slice q ws.length m]) count data ws) := HD0.out.below hbc
  clear HD0 hb1
  have HO : Hid (Okay count data ws) := ho
  have hfew := ho.few
  clear ho
  have HOZ : Hid (Okay count data []) := ⟨HO.out.lo, HO.out.hi, HO.out.len, by simp, by simp⟩
  obtain ⟨i0, hi, hz0, hz1, hz2⟩ := info_parts info_bool
  obtain ⟨x0, x1, x2⟩ := cells3 HB.out
  have xlt := lt_heap HB.out
  go_wp2_with fail
  refine (large_any _ count data ws _ HD.out).mono ?_
  rintro e w2 ⟨rfl, hb2⟩
  rw [decide_eq_false hl]
  clear x0 x1 x2 xlt
  have bb1 : Below w1.heap.size w1 w2 := hb2
  replace HB : Hid (w2.heap[w.heap.size]? = some (.cells #[.int .i64 count, .slice p data.length c, .slice q ws.length m] 25 (0, 0))) := (bb1.block _ (lt_heap HB.out)).trans HB.out
  replace HD : Hid (DiskIn w2 (.agg #[.int .i64 count, .slice p data.length c, .slice q ws.length m]) count data ws) := HD.out.below bb1
  replace hbc : Below w.heap.size w w2 := below_bt hbc bb1
  clear bb1 hb2
  obtain ⟨x0, x1, x2⟩ := cells3 HB.out
  have xlt := lt_heap HB.out
  go_wp2_with fail
  refine (check_ok _ count data ws _ HD.out HO.out).mono ?_
  rintro e w3 ⟨rfl, hb3⟩
  clear x0 x1 x2 xlt
  have bb2 : Below w2.heap.size w2 w3 := hb3
  replace HB : Hid (w3.heap[w.heap.size]? = some (.cells #[.int .i64 count, .slice p data.length c, .slice q ws.length m] 25 (0, 0))) := (bb2.block _ (lt_heap HB.out)).trans HB.out
  replace HD : Hid (DiskIn w3 (.agg #[.int .i64 count, .slice p data.length c, .slice q ws.length m]) count data ws) := HD.out.below bb2
  replace hbc : Below w.heap.size w w3 := below_bt hbc bb2
  clear bb2 hb3
  obtain ⟨x0, x1, x2⟩ := cells3 HB.out
  have xlt := lt_heap HB.out
  go_wp2_with (at_make; refine wpList_make_full _ rfl _ _ 30 rfl w3.heap.size 4 i0 (.bool false) 1 Try.underlying30 hi hz0 hz1 .i64 .i64 _ _ ws.length rfl rfl rfl rfl (by rw [hz2]; omega) (by unfold maxLen; omega) (Nat.le_refl _) ?_)
  intro w4 hown hgrow
  have hrow := row_full hown
  rw [falses_made] at hrow
  have hb4 : Below w3.heap.size w3 w4 := (Below.refl _ _).grown hgrow (Nat.le_refl _) (fun k hk => by cases hk)
  have HR : Hid (w4.heap[w3.heap.size]? = some (.cells (Cb (keepK ws.length 0)).toArray 4 (0, 0))) := hrow
  clear hown hgrow hrow x0 x1 x2 xlt
  have hb40 := hb4
  have HB3 : Hid (w3.heap[w.heap.size]? = some (.cells #[.int .i64 count, .slice p data.length c, .slice q ws.length m] 25 (0, 0))) := HB
  have HD3 : Hid (DiskIn w3 (.agg #[.int .i64 count, .slice p data.length c, .slice q ws.length m]) count data ws) := HD
  have HSZ : w.heap.size ≤ w3.heap.size := hbc.size
  have bb3 : Below w3.heap.size w3 w4 := hb4
  replace HB : Hid (w4.heap[w.heap.size]? = some (.cells #[.int .i64 count, .slice p data.length c, .slice q ws.length m] 25 (0, 0))) := (bb3.block _ (lt_heap HB.out)).trans HB.out
  replace HD : Hid (DiskIn w4 (.agg #[.int .i64 count, .slice p data.length c, .slice q ws.length m]) count data ws) := HD.out.below bb3
  replace hbc : Below w.heap.size w w4 := below_bt hbc bb3
  clear bb3 hb4
  go_wp2
  go_loopw [5] (fun i wr => ∃ k : Nat, k ≤ ws.length ∧ i = .int .i64 k ∧ Hid (wr.heap[w3.heap.size]? = some (.cells (Cb (keepK ws.length k)).toArray 4 (0, 0))) ∧ Below w3.heap.size w4 wr) (fun i _ => ws.length - (intOf i).toNat)
  case atStart => exact ⟨0, by omega, rfl, HR, Below.refl _ _⟩
  case round =>
    obtain ⟨k, hk, rfl, HK, hbk⟩ := hrel
    by_cases hkl : k < ws.length
    · have hc := cell_of_row wr w3.heap.size k _ _ _ HK.out
      rw [show (Cb (keepK ws.length k)).toArray[k]? = some (.bool ((keepK ws.length k).getD k false)) from by simp [Cb, List.getD, List.getElem?_eq_getElem (show k < (keepK ws.length k).length by rw [keepK_len _ _ hk]; exact hkl)]] at hc
      have hf := frozen_of_row wr w3.heap.size k _ _ HK.out
      have HS : Hid ((wr.setCell ⟨w3.heap.size, k, none⟩ (.bool true)).heap[w3.heap.size]? = some (.cells (Cb (keepK ws.length (k + 1))).toArray 4 (0, 0))) := by
        show _ = _
        rw [heap_setCell_same wr _ k _ _ _ HK.out, Cb_set, keepK_step _ k hkl]
      generalize (keepK ws.length k).getD k false = cc at *
      go_wp2
      go_roundw
      case rel => exact ⟨k + 1, by omega, by go_num, HS, hbk.setCell (Nat.le_refl _) _⟩
      case measure => simp [intOf]; omega
    · obtain rfl : k = ws.length := by omega
      have hb3r : Below w3.heap.size w3 wr := hb40.trans hbk
      have hbw : Below w.heap.size w wr := hbc.trans (hbk.mono HSZ)
      have HBr : Hid (wr.heap[w.heap.size]? = some (.cells #[.int .i64 count, .slice p data.length c, .slice q ws.length m] 25 (0, 0))) := (hb3r.block _ (lt_heap HB3.out)).trans HB3.out
      have HDr : Hid (DiskIn wr (.agg #[.int .i64 count, .slice p data.length c, .slice q ws.length m]) count data ws) := HD3.out.below hb3r
      have HKB : Hid (BoolsIn wr (some ⟨w3.heap.size, 0, none⟩) (keepK ws.length ws.length)) := bools_row HK.out
      have HKL : Hid (ws.length = (keepK ws.length ws.length).length) := (keepK_len _ _ (Nat.le_refl _)).symm
      clear HB HD HB3 HD3 hbc hb40 hbk hb3r HK HR
      obtain ⟨x0, x1, x2⟩ := cells3 HBr.out
      have xlt := lt_heap HBr.out
      go_wp2_with fail
      refine (crash_at _ count data ws _ HDr.out HO.out _ ws.length ws.length (keepK ws.length ws.length) HKL.out HKB.out (by rw [← HKL.out]; omega)).mono ?_
      rintro e w5 ⟨⟨vx, rfl, hnx⟩, hbx⟩
      rw [all_x] at hnx
      have hnn := hnx.toIn (okay_settled HO.out)
      obtain ⟨gx, Lx, qx, mx, hv⟩ := form0 hnx
      rw [hv] at hnn ⊢
      clear x0 x1 x2 xlt hv hnx
      have bb1 : Below wr.heap.size wr w5 := hbx
      replace HBr : Hid (w5.heap[w.heap.size]? = some (.cells #[.int .i64 count, .slice p data.length c, .slice q ws.length m] 25 (0, 0))) := (bb1.block _ (lt_heap HBr.out)).trans HBr.out
      replace HDr : Hid (DiskIn w5 (.agg #[.int .i64 count, .slice p data.length c, .slice q ws.length m]) count data ws) := HDr.out.below bb1
      replace hbw : Below w.heap.size w w5 := below_bt hbw bb1
      clear bb1 hbx
      have HDX : Hid (DiskIn w5 (.agg #[.int .i64 count, .slice (some ⟨gx, 0, none⟩) Lx Lx, .slice qx 0 mx]) count (settleN data ws) []) := hnn
      clear hnn
      obtain ⟨x0, x1, x2⟩ := cells3 HBr.out
      have xlt := lt_heap HBr.out
      go_wp2_with fail
      refine (flush_at _ count data ws _ (HDr.out.below (below_alloc w5 (.cells #[.int .i64 count, .slice (some ⟨gx, 0, none⟩) Lx Lx, .slice qx 0 mx] 25))) HO.out).mono ?_
      rintro e w6 ⟨⟨vy, rfl, hny⟩, hby⟩
      have hnn := hny.toIn (okay_settled HO.out)
      obtain ⟨gy, Ly, qy, my, hv⟩ := form0 hny
      rw [hv] at hnn ⊢
      clear x0 x1 x2 xlt hv hny
      have HXB : Hid (w6.heap[w5.heap.size]? = some (.cells #[.int .i64 count, .slice (some ⟨gx, 0, none⟩) Lx Lx, .slice qx 0 mx] 25 (0, 0))) := (hby.block _ (by rw [World.size_alloc]; exact Nat.lt_succ_self _)).trans (heap_alloc_new w5 _)
      have bb2 : Below w5.heap.size w5 w6 := (below_bt (below_alloc w5 (.cells #[.int .i64 count, .slice (some ⟨gx, 0, none⟩) Lx Lx, .slice qx 0 mx] 25)) hby)
      replace HBr : Hid (w6.heap[w.heap.size]? = some (.cells #[.int .i64 count, .slice p data.length c, .slice q ws.length m] 25 (0, 0))) := (bb2.block _ (lt_heap HBr.out)).trans HBr.out
      replace HDr : Hid (DiskIn w6 (.agg #[.int .i64 count, .slice p data.length c, .slice q ws.length m]) count data ws) := HDr.out.below bb2
      replace HDX : Hid (DiskIn w6 (.agg #[.int .i64 count, .slice (some ⟨gx, 0, none⟩) Lx Lx, .slice qx 0 mx]) count (settleN data ws) []) := HDX.out.below bb2
      replace hbw : Below w.heap.size w w6 := below_bt hbw bb2
      clear bb2 hby
      have HDY : Hid (DiskIn w6 (.agg #[.int .i64 count, .slice (some ⟨gy, 0, none⟩) Ly Ly, .slice qy 0 my]) count (settleN data ws) []) := hnn
      clear hnn
      obtain ⟨x0, x1, x2⟩ := cells3 HBr.out
      have xlt := lt_heap HBr.out
      go_wp2_with fail
      refine (crash_ok _ count data ws _ (HDr.out.below (below_alloc w6 (.cells #[.int .i64 count, .slice (some ⟨gy, 0, none⟩) Ly Ly, .slice qy 0 my] 25))) HO.out none 0 [] (fun h => absurd h (by simp)) (by simp)).mono ?_
      rintro e w7 ⟨⟨vz, rfl, hnz⟩, hbz⟩
      rw [all_z] at hnz
      have hnn := hnz.toIn HOZ.out
      obtain ⟨gz, Lz, qz, mz, hv⟩ := form0 hnz
      rw [hv] at hnn ⊢
      clear x0 x1 x2 xlt hv hnz
      have HYB : Hid (w7.heap[w6.heap.size]? = some (.cells #[.int .i64 count, .slice (some ⟨gy, 0, none⟩) Ly Ly, .slice qy 0 my] 25 (0, 0))) := (hbz.block _ (by rw [World.size_alloc]; exact Nat.lt_succ_self _)).trans (heap_alloc_new w6 _)
      have bb3 : Below w6.heap.size w6 w7 := (below_bt (below_alloc w6 (.cells #[.int .i64 count, .slice (some ⟨gy, 0, none⟩) Ly Ly, .slice qy 0 my] 25)) hbz)
      replace HBr : Hid (w7.heap[w.heap.size]? = some (.cells #[.int .i64 count, .slice p data.length c, .slice q ws.length m] 25 (0, 0))) := (bb3.block _ (lt_heap HBr.out)).trans HBr.out
      replace HDr : Hid (DiskIn w7 (.agg #[.int .i64 count, .slice p data.length c, .slice q ws.length m]) count data ws) := HDr.out.below bb3
      replace HDX : Hid (DiskIn w7 (.agg #[.int .i64 count, .slice (some ⟨gx, 0, none⟩) Lx Lx, .slice qx 0 mx]) count (settleN data ws) []) := HDX.out.below bb3
      replace HXB : Hid (w7.heap[w5.heap.size]? = some (.cells #[.int .i64 count, .slice (some ⟨gx, 0, none⟩) Lx Lx, .slice qx 0 mx] 25 (0, 0))) := (bb3.block _ (lt_heap HXB.out)).trans HXB.out
      replace HDY : Hid (DiskIn w7 (.agg #[.int .i64 count, .slice (some ⟨gy, 0, none⟩) Ly Ly, .slice qy 0 my]) count (settleN data ws) []) := HDY.out.below bb3
      replace hbw : Below w.heap.size w w7 := below_bt hbw bb3
      clear bb3 hbz
      have HDZ : Hid (DiskIn w7 (.agg #[.int .i64 count, .slice (some ⟨gz, 0, none⟩) Lz Lz, .slice qz 0 mz]) count data []) := hnn
      clear hnn
      go_wp2
      obtain ⟨W, hW⟩ : ∃ W, W = w7.alloc (.cells #[.int .i64 count, .slice (some ⟨gz, 0, none⟩) Lz Lz, .slice qz 0 mz] 25) := ⟨_, rfl⟩
      have hbW := below_alloc w7 (.cells #[.int .i64 count, .slice (some ⟨gz, 0, none⟩) Lz Lz, .slice qz 0 mz] 25)
      have HZB : Hid (W.heap[w7.heap.size]? = some (.cells #[.int .i64 count, .slice (some ⟨gz, 0, none⟩) Lz Lz, .slice qz 0 mz] 25 (0, 0))) := by rw [hW]; exact heap_alloc_new _ _
      rw [← hW] at hbW ⊢
      clear hW
      have bb4 : Below w7.heap.size w7 W := hbW
      replace HBr : Hid (W.heap[w.heap.size]? = some (.cells #[.int .i64 count, .slice p data.length c, .slice q ws.length m] 25 (0, 0))) := (bb4.block _ (lt_heap HBr.out)).trans HBr.out
      replace HDr : Hid (DiskIn W (.agg #[.int .i64 count, .slice p data.length c, .slice q ws.length m]) count data ws) := HDr.out.below bb4
      replace HDX : Hid (DiskIn W (.agg #[.int .i64 count, .slice (some ⟨gx, 0, none⟩) Lx Lx, .slice qx 0 mx]) count (settleN data ws) []) := HDX.out.below bb4
      replace HXB : Hid (W.heap[w5.heap.size]? = some (.cells #[.int .i64 count, .slice (some ⟨gx, 0, none⟩) Lx Lx, .slice qx 0 mx] 25 (0, 0))) := (bb4.block _ (lt_heap HXB.out)).trans HXB.out
      replace HDY : Hid (DiskIn W (.agg #[.int .i64 count, .slice (some ⟨gy, 0, none⟩) Ly Ly, .slice qy 0 my]) count (settleN data ws) []) := HDY.out.below bb4
      replace HYB : Hid (W.heap[w6.heap.size]? = some (.cells #[.int .i64 count, .slice (some ⟨gy, 0, none⟩) Ly Ly, .slice qy 0 my] 25 (0, 0))) := (bb4.block _ (lt_heap HYB.out)).trans HYB.out
      replace HDZ : Hid (DiskIn W (.agg #[.int .i64 count, .slice (some ⟨gz, 0, none⟩) Lz Lz, .slice qz 0 mz]) count data []) := HDZ.out.below bb4
      replace hbw : Below w.heap.size w W := below_bt hbw bb4
      clear bb4 hbW
      obtain ⟨hzb, hzl⟩ := diskIn_bytes HDZ.out
      have HZI : Hid (BIn W (some ⟨gz, 0, none⟩) data) := hzb
      have HZL : Hid (Lz = data.length) := hzl
      have HPI : Hid (BIn W p data) := (diskIn_bytes HDr.out).1
      clear hzb hzl
      have HKeep : Hid (∀ w', Below W.heap.size W w' → (w'.cell? ⟨w5.heap.size, 0, none⟩ = some (.int .i64 count) ∧ w'.cell? ⟨w5.heap.size, 1, none⟩ = some (.slice (some ⟨gx, 0, none⟩) Lx Lx) ∧ w'.cell? ⟨w5.heap.size, 2, none⟩ = some (.slice qx 0 mx)) ∧ (w'.cell? ⟨w6.heap.size, 0, none⟩ = some (.int .i64 count) ∧ w'.cell? ⟨w6.heap.size, 1, none⟩ = some (.slice (some ⟨gy, 0, none⟩) Ly Ly) ∧ w'.cell? ⟨w6.heap.size, 2, none⟩ = some (.slice qy 0 my)) ∧ (w'.cell? ⟨w7.heap.size, 0, none⟩ = some (.int .i64 count) ∧ w'.cell? ⟨w7.heap.size, 1, none⟩ = some (.slice (some ⟨gz, 0, none⟩) Lz Lz) ∧ w'.cell? ⟨w7.heap.size, 2, none⟩ = some (.slice qz 0 mz)) ∧ (w'.cell? ⟨w.heap.size, 0, none⟩ = some (.int .i64 count) ∧ w'.cell? ⟨w.heap.size, 1, none⟩ = some (.slice p data.length c) ∧ w'.cell? ⟨w.heap.size, 2, none⟩ = some (.slice q ws.length m)) ∧ (convert 22 9 (.slice (some ⟨gz, 0, none⟩) Lz Lz)).run Try.prog w' = .ok (.string (strOf data)) w' ∧ (convert 22 9 (.slice p data.length c)).run Try.prog w' = .ok (.string (strOf data)) w' ∧ Hid (Below W.heap.size W w')) := by
        intro w' hb
        exact ⟨cells3 ((hb.block _ (lt_heap HXB.out)).trans HXB.out), cells3 ((hb.block _ (lt_heap HYB.out)).trans HYB.out), cells3 ((hb.block _ (lt_heap HZB.out)).trans HZB.out), cells3 ((hb.block _ (lt_heap HBr.out)).trans HBr.out), conv_at (HZI.out.below hb) HZL.out, conv_at (HPI.out.below hb) rfl, hb⟩
      refine wp_region_noPanic ?_
      refine wp_region_held_drew (S := fun w' => (w'.cell? ⟨w5.heap.size, 0, none⟩ = some (.int .i64 count) ∧ w'.cell? ⟨w5.heap.size, 1, none⟩ = some (.slice (some ⟨gx, 0, none⟩) Lx Lx) ∧ w'.cell? ⟨w5.heap.size, 2, none⟩ = some (.slice qx 0 mx)) ∧ (w'.cell? ⟨w6.heap.size, 0, none⟩ = some (.int .i64 count) ∧ w'.cell? ⟨w6.heap.size, 1, none⟩ = some (.slice (some ⟨gy, 0, none⟩) Ly Ly) ∧ w'.cell? ⟨w6.heap.size, 2, none⟩ = some (.slice qy 0 my)) ∧ (w'.cell? ⟨w7.heap.size, 0, none⟩ = some (.int .i64 count) ∧ w'.cell? ⟨w7.heap.size, 1, none⟩ = some (.slice (some ⟨gz, 0, none⟩) Lz Lz) ∧ w'.cell? ⟨w7.heap.size, 2, none⟩ = some (.slice qz 0 mz)) ∧ (w'.cell? ⟨w.heap.size, 0, none⟩ = some (.int .i64 count) ∧ w'.cell? ⟨w.heap.size, 1, none⟩ = some (.slice p data.length c) ∧ w'.cell? ⟨w.heap.size, 2, none⟩ = some (.slice q ws.length m)) ∧ (convert 22 9 (.slice (some ⟨gz, 0, none⟩) Lz Lz)).run Try.prog w' = .ok (.string (strOf data)) w' ∧ (convert 22 9 (.slice p data.length c)).run Try.prog w' = .ok (.string (strOf data)) w' ∧ Hid (Below W.heap.size W w')) (by kernel_rfl) (HKeep.out _ ((Below.refl _ _).drew)) (fun hS0 => ?_)
      have HWE : Hid (decide (ws = []) = ((ws.length : Int) == 0)) := by show _ = _; rw [Bool.eq_iff_iff]; simp
      refine takeH 0 52 (v := ?_) rfl rfl (by kernel_rfl) (by kernel_rfl) (by kernel_rfl) (fun _ _ _ h => h) (by rfl) ?_ (by assumption) ?_
      rotate_left
      · intro w hSw; go_simp; first | done | with_reducible rfl
      simp only [Act.put, List.setIfInBounds_toArray, List.set_cons_zero, List.set_cons_succ]
      refine takeH 1 53 (v := ?_) rfl rfl (by kernel_rfl) (by kernel_rfl) (by kernel_rfl) (fun _ _ _ h => h) (by rfl) ?_ (by assumption) ?_
      rotate_left
      · intro w hSw; go_simp; first | done | with_reducible rfl
      simp only [Act.put, List.setIfInBounds_toArray, List.set_cons_zero, List.set_cons_succ]
      refine takeH 2 54 (v := ?_) rfl rfl (by kernel_rfl) (by kernel_rfl) (by kernel_rfl) (fun _ _ _ h => h) (by rfl) ?_ (by assumption) ?_
      rotate_left
      · intro w hSw; go_simp; first | done | with_reducible rfl
      simp only [Act.put, List.setIfInBounds_toArray, List.set_cons_zero, List.set_cons_succ]
      refine takeH 3 55 (v := ?_) rfl rfl (by kernel_rfl) (by kernel_rfl) (by kernel_rfl) (fun _ _ _ h => h) (by rfl) ?_ (by assumption) ?_
      rotate_left
      · intro w hSw; go_simp; first | done | with_reducible rfl
      simp only [Act.put, List.setIfInBounds_toArray, List.set_cons_zero, List.set_cons_succ]
      refine takeH 4 56 (v := ?_) rfl rfl (by kernel_rfl) (by kernel_rfl) (by kernel_rfl) (fun _ _ _ h => h) (by rfl) ?_ (by assumption) ?_
      rotate_left
      · intro w hSw; go_simp; first | done | with_reducible rfl
      simp only [Act.put, List.setIfInBounds_toArray, List.set_cons_zero, List.set_cons_succ]
      refine takeH 5 57 (v := ?_) rfl rfl (by kernel_rfl) (by kernel_rfl) (by kernel_rfl) (fun _ _ _ h => h) (by rfl) ?_ (by assumption) ?_
      rotate_left
      · intro w hSw; go_simp; first | done | with_reducible rfl
      simp only [Act.put, List.setIfInBounds_toArray, List.set_cons_zero, List.set_cons_succ]
      refine takeH 6 58 (v := ?_) rfl rfl (by kernel_rfl) (by kernel_rfl) (by kernel_rfl) (fun _ _ _ h => h) (by rfl) ?_ (by assumption) ?_
      rotate_left
      · intro w hSw; go_simp; first | done | with_reducible rfl
      simp only [Act.put, List.setIfInBounds_toArray, List.set_cons_zero, List.set_cons_succ]
      refine takeH 7 59 (v := ?_) rfl rfl (by kernel_rfl) (by kernel_rfl) (by kernel_rfl) (fun _ _ _ h => h) (by rfl) ?_ (by assumption) ?_
      rotate_left
      · intro w hSw; go_simp; first | done | with_reducible rfl
      simp only [Act.put, List.setIfInBounds_toArray, List.set_cons_zero, List.set_cons_succ]
      refine takeH 8 60 (v := ?_) rfl rfl (by kernel_rfl) (by kernel_rfl) (by kernel_rfl) (fun _ _ _ h => h) (by rfl) ?_ (by assumption) ?_
      rotate_left
      · intro w hSw; go_simp; first | done | with_reducible rfl
      simp only [Act.put, List.setIfInBounds_toArray, List.set_cons_zero, List.set_cons_succ]
      refine takeH 9 61 (v := ?_) rfl rfl (by kernel_rfl) (by kernel_rfl) (by kernel_rfl) (fun _ _ _ h => h) (by rfl) ?_ (by assumption) ?_
      rotate_left
      · intro w hSw; go_simp; first | done | with_reducible rfl
      simp only [Act.put, List.setIfInBounds_toArray, List.set_cons_zero, List.set_cons_succ]
      refine takeH 10 62 (v := ?_) rfl rfl (by kernel_rfl) (by kernel_rfl) (by kernel_rfl) (fun _ _ _ h => h) (by rfl) ?_ (by assumption) ?_
      rotate_left
      · intro w hSw; go_simp; first | done | with_reducible rfl
      simp only [Act.put, List.setIfInBounds_toArray, List.set_cons_zero, List.set_cons_succ]
      refine takeH 11 63 (v := ?_) rfl rfl (by kernel_rfl) (by kernel_rfl) (by kernel_rfl) (fun _ _ _ h => h) (by rfl) ?_ (by assumption) ?_
      rotate_left
      · intro w hSw; go_simp; first | done | with_reducible rfl
      simp only [Act.put, List.setIfInBounds_toArray, List.set_cons_zero, List.set_cons_succ]
      refine takeH 12 64 (v := ?_) rfl rfl (by kernel_rfl) (by kernel_rfl) (by kernel_rfl) (fun _ _ _ h => h) (by rfl) ?_ (by assumption) ?_
      rotate_left
      · intro w hSw; go_simp; first | done | with_reducible rfl
      simp only [Act.put, List.setIfInBounds_toArray, List.set_cons_zero, List.set_cons_succ]
      refine takeH 13 65 (v := ?_) rfl rfl (by kernel_rfl) (by kernel_rfl) (by kernel_rfl) (fun _ _ _ h => h) (by rfl) ?_ (by assumption) ?_
      rotate_left
      · intro w hSw; go_simp; first | done | with_reducible rfl
      simp only [Act.put, List.setIfInBounds_toArray, List.set_cons_zero, List.set_cons_succ]
      refine takeH 14 66 (v := ?_) rfl rfl (by kernel_rfl) (by kernel_rfl) (by kernel_rfl) (fun _ _ _ h => h) (by rfl) ?_ (by assumption) ?_
      rotate_left
      · intro w hSw; go_simp; first | done | with_reducible rfl
      simp only [Act.put, List.setIfInBounds_toArray, List.set_cons_zero, List.set_cons_succ]
      refine takeH 15 67 (v := ?_) rfl rfl (by kernel_rfl) (by kernel_rfl) (by kernel_rfl) (fun _ _ _ h => h) (by rfl) ?_ (by assumption) ?_
      rotate_left
      · intro w hSw; go_simp; first | done | with_reducible rfl
      simp only [Act.put, List.setIfInBounds_toArray, List.set_cons_zero, List.set_cons_succ]
      refine wpAnyH_ready (rs := [16]) (by kernel_rfl) (by simp) ?_
      refine AllReadyH.cons rfl (fun K hK => ?_) AllReadyH.nil
      go_simp
      refine (same_any _ _ count count (settleN data ws) (settleN data ws) [] [] _ (HDX.out.below hS0.2.2.2.2.2.2.out) (HDY.out.below hS0.2.2.2.2.2.2.out) true ⟨fun _ => ⟨rfl, rfl, rfl⟩, fun _ => rfl⟩).mono ?_
      rintro e wl1 ⟨rfl, hb1⟩
      go_simp
      refine hK.out _ _ (HKeep.out _ (below_bt hS0.2.2.2.2.2.2.out hb1)) (fun hS1 => ?_)
      clear hK K
      refine takeH 17 69 (v := ?_) rfl rfl (by kernel_rfl) (by kernel_rfl) (by kernel_rfl) (fun _ _ _ h => h) (by rfl) ?_ (by assumption) ?_
      rotate_left
      · intro w hSw; go_simp; first | done | with_reducible rfl
      simp only [Act.put, List.setIfInBounds_toArray, List.set_cons_zero, List.set_cons_succ]
      refine takeH 18 70 (v := ?_) rfl rfl (by kernel_rfl) (by kernel_rfl) (by kernel_rfl) (fun _ _ _ h => h) (by rfl) ?_ (by assumption) ?_
      rotate_left
      · intro w hSw; go_simp; first | done | with_reducible rfl
      simp only [Act.put, List.setIfInBounds_toArray, List.set_cons_zero, List.set_cons_succ]
      refine takeH 19 71 (v := ?_) rfl rfl (by kernel_rfl) (by kernel_rfl) (by kernel_rfl) (fun _ _ _ h => h) (by rfl) ?_ (by assumption) ?_
      rotate_left
      · intro w hSw; go_simp; first | done | with_reducible rfl
      simp only [Act.put, List.setIfInBounds_toArray, List.set_cons_zero, List.set_cons_succ]
      refine takeH 20 72 (v := ?_) rfl rfl (by kernel_rfl) (by kernel_rfl) (by kernel_rfl) (fun _ _ _ h => h) (by rfl) ?_ (by assumption) ?_
      rotate_left
      · intro w hSw; go_simp; first | done | with_reducible rfl
      simp only [Act.put, List.setIfInBounds_toArray, List.set_cons_zero, List.set_cons_succ]
      refine takeH 21 73 (v := ?_) rfl rfl (by kernel_rfl) (by kernel_rfl) (by kernel_rfl) (fun _ _ _ h => h) (by rfl) ?_ (by assumption) ?_
      rotate_left
      · intro w hSw; go_simp; first | done | with_reducible rfl
      simp only [Act.put, List.setIfInBounds_toArray, List.set_cons_zero, List.set_cons_succ]
      refine takeH 22 74 (v := ?_) rfl rfl (by kernel_rfl) (by kernel_rfl) (by kernel_rfl) (fun _ _ _ h => h) (by rfl) ?_ (by assumption) ?_
      rotate_left
      · intro w hSw; go_simp; first | done | with_reducible rfl
      simp only [Act.put, List.setIfInBounds_toArray, List.set_cons_zero, List.set_cons_succ]
      refine takeH 23 75 (v := ?_) rfl rfl (by kernel_rfl) (by kernel_rfl) (by kernel_rfl) (fun _ _ _ h => h) (by rfl) ?_ (by assumption) ?_
      rotate_left
      · intro w hSw; go_simp; first | done | with_reducible rfl
      simp only [Act.put, List.setIfInBounds_toArray, List.set_cons_zero, List.set_cons_succ]
      refine takeH 24 76 (v := ?_) rfl rfl (by kernel_rfl) (by kernel_rfl) (by kernel_rfl) (fun _ _ _ h => h) (by rfl) ?_ (by assumption) ?_
      rotate_left
      · intro w hSw; go_simp; first | done | with_reducible rfl
      simp only [Act.put, List.setIfInBounds_toArray, List.set_cons_zero, List.set_cons_succ]
      refine takeH 25 77 (v := ?_) rfl rfl (by kernel_rfl) (by kernel_rfl) (by kernel_rfl) (fun _ _ _ h => h) (by rfl) ?_ (by assumption) ?_
      rotate_left
      · intro w hSw; go_simp; first | done | with_reducible rfl
      simp only [Act.put, List.setIfInBounds_toArray, List.set_cons_zero, List.set_cons_succ]
      refine takeH 26 78 (v := ?_) rfl rfl (by kernel_rfl) (by kernel_rfl) (by kernel_rfl) (fun _ _ _ h => h) (by rfl) ?_ (by assumption) ?_
      rotate_left
      · intro w hSw; go_simp; first | done | with_reducible rfl
      simp only [Act.put, List.setIfInBounds_toArray, List.set_cons_zero, List.set_cons_succ]
      refine takeH 27 79 (v := ?_) rfl rfl (by kernel_rfl) (by kernel_rfl) (by kernel_rfl) (fun _ _ _ h => h) (by rfl) ?_ (by assumption) ?_
      rotate_left
      · intro w hSw; go_simp; first | done | with_reducible rfl
      simp only [Act.put, List.setIfInBounds_toArray, List.set_cons_zero, List.set_cons_succ]
      refine takeH 28 80 (v := ?_) rfl rfl (by kernel_rfl) (by kernel_rfl) (by kernel_rfl) (fun _ _ _ h => h) (by rfl) ?_ (by assumption) ?_
      rotate_left
      · intro w hSw; go_simp; first | done | with_reducible rfl
      simp only [Act.put, List.setIfInBounds_toArray, List.set_cons_zero, List.set_cons_succ]
      refine takeH 29 81 (v := ?_) rfl rfl (by kernel_rfl) (by kernel_rfl) (by kernel_rfl) (fun _ _ _ h => h) (by rfl) ?_ (by assumption) ?_
      rotate_left
      · intro w hSw; go_simp; first | done | with_reducible rfl
      simp only [Act.put, List.setIfInBounds_toArray, List.set_cons_zero, List.set_cons_succ]
      refine wpAnyH_ready (rs := [30]) (by kernel_rfl) (by simp) ?_
      refine AllReadyH.cons rfl (fun K hK => ?_) AllReadyH.nil
      go_simp
      refine (same_any _ _ count count data data ws ws _ (HDr.out.below hS1.2.2.2.2.2.2.out) (HDr.out.below hS1.2.2.2.2.2.2.out) true ⟨fun _ => ⟨rfl, rfl, rfl⟩, fun _ => rfl⟩).mono ?_
      rintro e wl2 ⟨rfl, hb2⟩
      go_simp
      refine hK.out _ _ (HKeep.out _ (below_bt hS1.2.2.2.2.2.2.out hb2)) (fun hS2 => ?_)
      clear hK K
      refine takeH 31 83 (v := ?_) rfl rfl (by kernel_rfl) (by kernel_rfl) (by kernel_rfl) (fun _ _ _ h => h) (by rfl) ?_ (by assumption) ?_
      rotate_left
      · intro w hSw; go_simp; first | done | with_reducible rfl
      simp only [Act.put, List.setIfInBounds_toArray, List.set_cons_zero, List.set_cons_succ]
      refine takeH 32 84 (v := ?_) rfl rfl (by kernel_rfl) (by kernel_rfl) (by kernel_rfl) (fun _ _ _ h => h) (by rfl) ?_ (by assumption) ?_
      rotate_left
      · intro w hSw; go_simp; first | done | with_reducible rfl
      simp only [Act.put, List.setIfInBounds_toArray, List.set_cons_zero, List.set_cons_succ]
      refine takeH 33 85 (v := ?_) rfl rfl (by kernel_rfl) (by kernel_rfl) (by kernel_rfl) (fun _ _ _ h => h) (by rfl) ?_ (by assumption) ?_
      rotate_left
      · intro w hSw; go_simp; first | done | with_reducible rfl
      simp only [Act.put, List.setIfInBounds_toArray, List.set_cons_zero, List.set_cons_succ]
      refine takeH 34 86 (v := ?_) rfl rfl (by kernel_rfl) (by kernel_rfl) (by kernel_rfl) (fun _ _ _ h => h) (by rfl) ?_ (by assumption) ?_
      rotate_left
      · intro w hSw; go_simp; first | done | with_reducible rfl
      simp only [Act.put, List.setIfInBounds_toArray, List.set_cons_zero, List.set_cons_succ]
      refine takeH 36 88 (v := ?_) rfl rfl (by kernel_rfl) (by kernel_rfl) (by kernel_rfl) (fun _ _ _ h => h) (by rfl) ?_ (by assumption) ?_
      rotate_left
      · intro w hSw; go_simp; first | done | with_reducible rfl
      simp only [Act.put, List.setIfInBounds_toArray, List.set_cons_zero, List.set_cons_succ]
      refine takeH 37 89 (v := ?_) rfl rfl (by kernel_rfl) (by kernel_rfl) (by kernel_rfl) (fun _ _ _ h => h) (by rfl) ?_ (by assumption) ?_
      rotate_left
      · intro w hSw; go_simp; first | done | with_reducible rfl
      simp only [Act.put, List.setIfInBounds_toArray, List.set_cons_zero, List.set_cons_succ]
      refine takeH 38 90 (v := ?_) rfl rfl (by kernel_rfl) (by kernel_rfl) (by kernel_rfl) (fun _ _ _ h => h) (by rfl) ?_ (by assumption) ?_
      rotate_left
      · intro w hSw; go_simp; first | done | with_reducible rfl
      simp only [Act.put, List.setIfInBounds_toArray, List.set_cons_zero, List.set_cons_succ]
      refine takeH 39 91 (v := ?_) rfl rfl (by kernel_rfl) (by kernel_rfl) (by kernel_rfl) (fun _ _ _ h => h) (by rfl) ?_ (by assumption) ?_
      rotate_left
      · intro w hSw; go_simp; first | done | with_reducible rfl
      simp only [Act.put, List.setIfInBounds_toArray, List.set_cons_zero, List.set_cons_succ]
      refine wpAnyH_ready (rs := [35]) (by kernel_rfl) (by simp) ?_
      refine AllReadyH.cons rfl (fun K hK => ?_) AllReadyH.nil
      go_simp
      refine (same_any _ _ count count data data ws [] _ (HDr.out.below hS2.2.2.2.2.2.2.out) (HDZ.out.below hS2.2.2.2.2.2.2.out) (decide (ws = [])) ⟨fun h => ⟨rfl, rfl, of_decide_eq_true h⟩, fun h => decide_eq_true h.2.2⟩).mono ?_
      rintro e wl3 ⟨rfl, hb3⟩
      go_simp
      refine hK.out _ _ (HKeep.out _ (below_bt hS2.2.2.2.2.2.2.out hb3)) (fun hS3 => ?_)
      clear hK K
      refine takeH 40 92 (v := ?_) rfl rfl (by kernel_rfl) (by kernel_rfl) (by kernel_rfl) (fun _ _ _ h => h) (by rfl) ?_ (by assumption) ?_
      rotate_left
      · intro w hSw; go_simp; first | done | with_reducible rfl
      simp only [Act.put, List.setIfInBounds_toArray, List.set_cons_zero, List.set_cons_succ]
      refine takeH 41 93 (v := ?_) rfl rfl (by kernel_rfl) (by kernel_rfl) (by kernel_rfl) (fun _ _ _ h => h) (by rfl) ?_ (by assumption) ?_
      rotate_left
      · intro w hSw; go_simp; first | done | with_reducible rfl
      simp only [Act.put, List.setIfInBounds_toArray, List.set_cons_zero, List.set_cons_succ]
      refine takeH 42 2 (v := ?_) rfl rfl (by kernel_rfl) (by kernel_rfl) (by kernel_rfl) (fun _ _ _ h => h) (by rfl) ?_ (by assumption) ?_
      rotate_left
      · intro w hSw; go_simp; first | done | with_reducible rfl
      simp only [Act.put, List.setIfInBounds_toArray, List.set_cons_zero, List.set_cons_succ]
      refine wpAnyH_done (by kernel_rfl) (NoPanic.normal ?_) _
      go_wp2
      go_ret
      refine ⟨?_, below_bt hbw hS3.2.2.2.2.2.2.out⟩
      first | rfl | (have := HWE.out; simp_all) | (show Ending.returned (.bool _) = _; rw [HWE.out]; simp)
theorem walk (v : Value) (count : Int) (data : List Nat) (ws : Puts) (w : World) (hd : DiskIn w v count data ws) :
    Calls Try.prog 3 #[v] w fun e w' => e = .returned (.bool true) ∧ Below w.heap.size w w' := by
  by_cases hl : largeN count data ws
  · exact walk_large v count data ws w hd hl
  · by_cases ho : Okay count data ws
    · exact walk_main v count data ws w hd hl ho
    · exact walk_bad v count data ws w hd hl ho

/-! ### THE ROW's STEP -/
set_option maxRecDepth 100000 in
theorem lifted (os : Os) (started : os.Started) (H : Type) (enc : TypeId × Value → H) :
    ReturnsInHanded {} Try.checked os 3 .any (Rows.diskAllSpec.pre6 enc Try.prog Try.f3 Rows.diskAllRow.domain false) (Rows.diskAllSpec.post enc Try.prog Try.f3 false true false false) := by
  refine returnsInHanded_of_change (C := Try.checked) own started (by kernel_rfl) Try.func3
    (ChangeSpec.witness6 (enc := enc) (C := Try.checked) false ⟨#[], #[.agg #[.int .i64 0, .slice none 0 0, .slice none 0 0]], []⟩ 8 (by kernel_rfl) (by kernel_rfl) (by kernel_rfl) (by kernel_rfl)) ?_
  intro W base args ds gs before hval0 hW hcnd _
  have hval : ∀ (j : Nat) t v, Try.f3.params[j]? = some t → args[j]? = some v → Value.okWide Try.prog W .any base t v := hval0
  have hW' := hW
  obtain ⟨p, q, hA0, hV, rfl, hfz, hnd⟩ := hW
  have hA : DataW.TrodAll enc Try.prog W 0 (fun _ => true) true Try.f3.params.toList args.toList ds p := hA0
  rw [Try.params3] at hA hval
  obtain ⟨v0, vs0, d0, ds0, p0, q0, hargs, rfl, rfl, h0, r0⟩ := trodAll_cons hA
  obtain ⟨rfl, rfl, rfl⟩ := trodAll_nil r0
  obtain rfl : args = #[v0] := by cases args; simp_all
  obtain ⟨rfl, rfl⟩ := trodVars_none hV
  have k0 := h0
  have lt0 : ∀ x ∈ p0, x.block < W.heap.size := by obtain ⟨m, hm⟩ := k0; exact DataW.trod_lt m _ _ _ hm
  obtain ⟨count0, data0, ws0, w0⟩ := open_disk (tD := 25) (t := 23) (e := 42) (tb := 22) (eb := 5) Try.underlying25 (by kernel_rfl) (by kernel_rfl) Try.underlying3 rfl rfl Try.underlying23 Try.underlying42 (by kernel_rfl) rfl rfl (by kernel_rfl) (by kernel_rfl) Try.underlying3 rfl Try.underlying22 Try.underlying5 (by kernel_rfl) (hval 0 25 v0 rfl rfl) h0
  clear hA0 hval0
  refine (walk v0 count0 data0 ws0 W w0).mono fun e W' ⟨he, bel⟩ => ?_
  subst he
  exact ⟨_, rfl, _, _, _, [], _, [], hW', trodAll_mk1 (shut_bool Try.underlying4 _), (trodAll_cons_mk (Below.trod laidOut (by kernel_rfl) (of_decide_eq_true (by kernel_rfl)) k0 bel lt0) trodAll_mk0), rfl, bel.frame _, fun h => by cases h⟩

theorem over : Rows.diskAllRow.holds Try.pinned (OpenSpec.ofChange Rows.diskAllSpec) :=
  OpenClaim.holds_of_wide 3 Try.f3 rfl rfl rfl rfl rfl rfl rfl ⟨rfl, rfl, rfl, rfl, rfl⟩ rfl rfl rfl rfl rfl (by kernel_rfl) Try.func3 (by kernel_rfl)
    (of_decide_eq_true (by kernel_rfl)) (by unfold Func.isWrapper; first | (rw [if_pos (by decide +kernel)]; kernel_rfl) | (rw [if_neg (by decide +kernel)]; exact ⟨rfl, rfl⟩))
    (fun os started H enc _ => lifted os started H enc)

theorem proved : Rows.DiskAllSaid := over
end Go.Proofs.Ytmpeeojeifmbfab.diskAll
namespace Go.Proofs.Ytmpeeojeifmbfab
theorem diskAll_holds : Rows.DiskAllSaid := diskAll.proved
#print axioms diskAll_holds
end Go.Proofs.Ytmpeeojeifmbfab
