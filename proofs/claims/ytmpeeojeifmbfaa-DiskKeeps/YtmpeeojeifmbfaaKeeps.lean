/-
  Proved: for every disk and every choice of what stays the law DiskKeeps answers true: after a loss of power each sector is what it was for sure, or one of the writes of it that waited, and none waits any more.
  Conditions: none (every disk, every []bool that can be read).
-/
import Derived.Test.YtmpeeojeifmbfaaRows
import Derived.Test.YtmpeeojeifmbfaaDMore
import Derived.WalkKit
import Derived.ProofKit
import Derived.OpenShut
import Derived.ShutString
import Derived.ChangeOld
import Derived.Below
namespace Go.Proofs.Ytmpeeojeifmbfaa.diskKeeps
open Go.ChangeShapes Go.WideShapes Go.ChangeAt Go.RowKit
open Go.ChangeMaps (open_string shut_string)
set_option linter.unusedVariables false

theorem own : ownKnob Try.prog.godebug = none := by kernel_rfl
theorem laidOut : laidOutB Try.prog = true := by kernel_rfl

open Go.Joins
set_option maxRecDepth 4000 in
set_option maxHeartbeats 8000000 in
theorem walk_large (v : Value) (count : Int) (data : List Nat) (ws : Puts) (lv : Value) (w : World) (hd : DiskIn w v count data ws) (hl : largeN count data ws) :
    Calls Try.prog 7 #[v, lv] w fun e w' => e = .returned (.bool true) ∧ Below w.heap.size w w' := by
  obtain ⟨p, c, q, m, rfl, hbD, hcD, _, _, hqp, hqm, hqmm, _⟩ := hd.parts
  have HD0 : Hid _ := hd
  clear hd hbD hqp
  go_enter Try.func7, Try.ntmps7
  go_wp2_with fail
  refine (alive_any _).mono ?_
  rintro e w1 ⟨rfl, hb1⟩
  have HB : Hid (w1.heap[w.heap.size]? = some (.cells #[.int .i64 count, .slice p data.length c, .slice q ws.length m] 25 (0, 0))) := (hb1.block _ (by rw [World.size_alloc]; exact Nat.lt_succ_self _)).trans (heap_alloc_new w _)
  have hbc : Below w.heap.size w w1 := below_bt (below_alloc w _) hb1
  have HD : Hid (DiskIn w1 (.agg #[.int .i64 count, .slice p data.length c, .slice q ws.length m]) count data ws) := HD0.out.below hbc
  clear HD0 hb1
  obtain ⟨x0, x1, x2⟩ := cells3 HB.out
  have xlt := lt_heap HB.out
  go_wp2_with fail
  refine (large_any _ count data ws _ HD.out).mono ?_
  rintro e w2 ⟨rfl, hb2⟩
  rw [decide_eq_true hl]
  clear x0 x1 x2 xlt
  have bb1 : Below w1.heap.size w1 w2 := hb2
  replace HB : Hid (w2.heap[w.heap.size]? = some (.cells #[.int .i64 count, .slice p data.length c, .slice q ws.length m] 25 (0, 0))) := (bb1.block _ (lt_heap HB.out)).trans HB.out
  replace HD : Hid (DiskIn w2 (.agg #[.int .i64 count, .slice p data.length c, .slice q ws.length m]) count data ws) := HD.out.below bb1
  replace hbc : Below w.heap.size w w2 := below_bt hbc bb1
  clear bb1 hb2
  go_wp2
  go_ret
  exact ⟨rfl, hbc⟩
set_option maxRecDepth 4000 in
set_option maxHeartbeats 8000000 in
theorem walk_bad (v : Value) (count : Int) (data : List Nat) (ws : Puts) (lv : Value) (w : World) (hd : DiskIn w v count data ws) (hl : ¬ largeN count data ws) (ho : ¬ Okay count data ws) :
    Calls Try.prog 7 #[v, lv] w fun e w' => e = .returned (.bool true) ∧ Below w.heap.size w w' := by
  obtain ⟨p, c, q, m, rfl, hbD, hcD, _, _, hqp, hqm, hqmm, _⟩ := hd.parts
  have HD0 : Hid _ := hd
  clear hd hbD hqp
  go_enter Try.func7, Try.ntmps7
  go_wp2_with fail
  refine (alive_any _).mono ?_
  rintro e w1 ⟨rfl, hb1⟩
  have HB : Hid (w1.heap[w.heap.size]? = some (.cells #[.int .i64 count, .slice p data.length c, .slice q ws.length m] 25 (0, 0))) := (hb1.block _ (by rw [World.size_alloc]; exact Nat.lt_succ_self _)).trans (heap_alloc_new w _)
  have hbc : Below w.heap.size w w1 := below_bt (below_alloc w _) hb1
  have HD : Hid (DiskIn w1 (.agg #[.int .i64 count, .slice p data.length c, .slice q ws.length m]) count data ws) := HD0.out.below hbc
  clear HD0 hb1
  obtain ⟨x0, x1, x2⟩ := cells3 HB.out
  have xlt := lt_heap HB.out
  go_wp2_with fail
  refine (large_any _ count data ws _ HD.out).mono ?_
  rintro e w2 ⟨rfl, hb2⟩
  rw [decide_eq_false hl]
  clear x0 x1 x2 xlt
  have bb1 : Below w1.heap.size w1 w2 := hb2
  replace HB : Hid (w2.heap[w.heap.size]? = some (.cells #[.int .i64 count, .slice p data.length c, .slice q ws.length m] 25 (0, 0))) := (bb1.block _ (lt_heap HB.out)).trans HB.out
  replace HD : Hid (DiskIn w2 (.agg #[.int .i64 count, .slice p data.length c, .slice q ws.length m]) count data ws) := HD.out.below bb1
  replace hbc : Below w.heap.size w w2 := below_bt hbc bb1
  clear bb1 hb2
  obtain ⟨x0, x1, x2⟩ := cells3 HB.out
  have xlt := lt_heap HB.out
  go_wp2_with fail
  refine (check_bad _ count data ws _ HD.out ho).mono ?_
  rintro e w3 ⟨rfl, hb3⟩
  clear x0 x1 x2 xlt
  have bb2 : Below w2.heap.size w2 w3 := hb3
  replace HB : Hid (w3.heap[w.heap.size]? = some (.cells #[.int .i64 count, .slice p data.length c, .slice q ws.length m] 25 (0, 0))) := (bb2.block _ (lt_heap HB.out)).trans HB.out
  replace HD : Hid (DiskIn w3 (.agg #[.int .i64 count, .slice p data.length c, .slice q ws.length m]) count data ws) := HD.out.below bb2
  replace hbc : Below w.heap.size w w3 := below_bt hbc bb2
  clear bb2 hb3
  go_wp2
  go_ret
  exact ⟨rfl, hbc⟩
/-- Is the sector what it was, or one of the first k writes of it? -/
def isB (was now : List Nat) (ws : Puts) (n : Int) : Nat → Bool
  | 0 => decide (now = was)
  | k + 1 => isB was now ws n k || (decide ((ws.getD k (0, [])).1 = n) && decide ((ws.getD k (0, [])).2 = now))
theorem isB_zero (was now : List Nat) (ws : Puts) (n : Int) : isB was now ws n 0 = decide (now = was) := rfl
theorem isB_keep {was now : List Nat} {ws : Puts} {n : Int} {k : Nat} (h : isB was now ws n k = true) : isB was now ws n (k + 1) = true := by
  rw [isB, h, Bool.true_or]
theorem isB_step {was now : List Nat} {ws : Puts} {n : Int} {k : Nat} (h : isB was now ws n k = false) : isB was now ws n (k + 1) = (decide ((ws.getD k (0, [])).1 = n) && decide ((ws.getD k (0, [])).2 = now)) := by
  rw [isB, h, Bool.false_or]
theorem isB_first {was now : List Nat} {ws : Puts} {n : Int} (h : now = was) : ∀ k, isB was now ws n k = true
  | 0 => decide_eq_true h
  | k + 1 => isB_keep (isB_first h k)
theorem isB_some {was now : List Nat} {ws : Puts} {n : Int} {i : Nat} (h1 : (ws.getD i (0, [])).1 = n) (h2 : (ws.getD i (0, [])).2 = now) : ∀ k, i < k → isB was now ws n k = true
  | 0, h => absurd h (by omega)
  | k + 1, h => by
    rcases Nat.lt_or_ge i k with h' | h'
    · exact isB_keep (isB_some h1 h2 k h')
    · obtain rfl : i = k := by omega
      rw [isB, decide_eq_true h1, decide_eq_true h2]
      simp
theorem isB_all {count : Int} {data : List Nat} {ws : Puts} (ho : Okay count data ws) (keep : List Bool) {n : Nat} (hn : (n : Int) < count) : isB (secN data n) (nowN (crashN data ws keep) [] n) ws n ws.length = true := by
  have e : nowN (crashN data ws keep) [] (n : Int) = secN (crashN data ws keep) n := by simp [nowN, nowK]
  rw [e]
  rcases sec_crash ho keep hn ws.length (Nat.le_refl _) with h | ⟨y, hy, h1, h2⟩
  · exact isB_first h _
  · obtain ⟨i, hi, rfl⟩ := List.getElem_of_mem hy
    exact isB_some (i := i) (by simpa [List.getD, List.getElem?_eq_getElem hi] using h1) (by simpa [List.getD, List.getElem?_eq_getElem hi, crashN] using h2) _ hi
set_option maxRecDepth 4000 in
set_option maxHeartbeats 8000000 in
theorem walk_main (v : Value) (count : Int) (data : List Nat) (ws : Puts) (ql : Option Addr) (ml : Nat) (keep : List Bool) (w : World) (hd : DiskIn w v count data ws) (hl : ¬ largeN count data ws) (ho : Okay count data ws) (hk : BoolsIn w ql keep) (hkl : keep.length ≤ 9223372036854775807) :
    Calls Try.prog 7 #[v, .slice ql keep.length ml] w fun e w' => e = .returned (.bool true) ∧ Below w.heap.size w w' := by
  obtain ⟨p, c, q, m, rfl, hbD, hcD, _, _, hqp, hqm, hqmm, _⟩ := hd.parts
  have HD0 : Hid _ := hd
  clear hd hbD hqp
  go_enter Try.func7, Try.ntmps7
  go_wp2_with fail
  refine (alive_any _).mono ?_
  rintro e w1 ⟨rfl, hb1⟩
  have HB : Hid (w1.heap[w.heap.size]? = some (.cells #[.int .i64 count, .slice p data.length c, .slice q ws.length m] 25 (0, 0))) := (hb1.block _ (by rw [World.size_alloc]; exact Nat.lt_succ_self _)).trans (heap_alloc_new w _)
  have hbc : Below w.heap.size w w1 := below_bt (below_alloc w _) hb1
  have HD : Hid (DiskIn w1 (.agg #[.int .i64 count, .slice p data.length c, .slice q ws.length m]) count data ws) := HD0.out.below hbc
  clear HD0 hb1
  have HK0 : Hid (BoolsIn w ql keep) := hk
  have HO : Hid (Okay count data ws) := ho
  have hlo := ho.lo
  have hhi := ho.hi
  have hfew := ho.few
  clear hk ho
  obtain ⟨x0, x1, x2⟩ := cells3 HB.out
  have xlt := lt_heap HB.out
  go_wp2_with fail
  refine (large_any _ count data ws _ HD.out).mono ?_
  rintro e w2 ⟨rfl, hb2⟩
  rw [decide_eq_false hl]
  clear x0 x1 x2 xlt
  have bb1 : Below w1.heap.size w1 w2 := hb2
  replace HB : Hid (w2.heap[w.heap.size]? = some (.cells #[.int .i64 count, .slice p data.length c, .slice q ws.length m] 25 (0, 0))) := (bb1.block _ (lt_heap HB.out)).trans HB.out
  replace HD : Hid (DiskIn w2 (.agg #[.int .i64 count, .slice p data.length c, .slice q ws.length m]) count data ws) := HD.out.below bb1
  replace hbc : Below w.heap.size w w2 := below_bt hbc bb1
  clear bb1 hb2
  obtain ⟨x0, x1, x2⟩ := cells3 HB.out
  have xlt := lt_heap HB.out
  go_wp2_with fail
  refine (check_ok _ count data ws _ HD.out HO.out).mono ?_
  rintro e w3 ⟨rfl, hb3⟩
  clear x0 x1 x2 xlt
  have bb2 : Below w2.heap.size w2 w3 := hb3
  replace HB : Hid (w3.heap[w.heap.size]? = some (.cells #[.int .i64 count, .slice p data.length c, .slice q ws.length m] 25 (0, 0))) := (bb2.block _ (lt_heap HB.out)).trans HB.out
  replace HD : Hid (DiskIn w3 (.agg #[.int .i64 count, .slice p data.length c, .slice q ws.length m]) count data ws) := HD.out.below bb2
  replace hbc : Below w.heap.size w w3 := below_bt hbc bb2
  clear bb2 hb3
  obtain ⟨x0, x1, x2⟩ := cells3 HB.out
  have xlt := lt_heap HB.out
  go_wp2_with fail
  refine (crash_ok _ count data ws _ HD.out HO.out ql ml keep (HK0.out.below hbc) hkl).mono ?_
  rintro e w4 ⟨⟨v4, rfl, hn4⟩, hb4⟩
  have hnx := hn4.toIn (okay_crashed HO.out keep)
  obtain ⟨gx, qx, mx, gsx, rfl, _⟩ := hn4.lies
  clear x0 x1 x2 xlt hn4
  have bb3 : Below w3.heap.size w3 w4 := hb4
  replace HB : Hid (w4.heap[w.heap.size]? = some (.cells #[.int .i64 count, .slice p data.length c, .slice q ws.length m] 25 (0, 0))) := (bb3.block _ (lt_heap HB.out)).trans HB.out
  replace HD : Hid (DiskIn w4 (.agg #[.int .i64 count, .slice p data.length c, .slice q ws.length m]) count data ws) := HD.out.below bb3
  replace hbc : Below w.heap.size w w4 := below_bt hbc bb3
  clear bb3 hb4
  have HLX : Hid ((crashN data ws keep).length = data.length) := crashK_len HO.out keep _ (Nat.le_refl _)
  rw [HLX.out] at hnx ⊢
  have HDX : Hid (DiskIn w4 (.agg #[.int .i64 count, .slice (some ⟨gx, 0, none⟩) data.length data.length, .slice qx 0 mx]) count (crashN data ws keep) []) := hnx
  clear hnx
  obtain ⟨x0, x1, x2⟩ := cells3 HB.out
  have xlt := lt_heap HB.out
  have hcc : (count != count) = false := by simp
  go_wp2_with fail
  refine (check_ok _ count (crashN data ws keep) [] _ (HDX.out.below (below_alloc w4 (.cells #[.int .i64 count, .slice (some ⟨gx, 0, none⟩) data.length data.length, .slice qx 0 mx] 25))) (okay_crashed HO.out keep)).mono ?_
  rintro e w5 ⟨rfl, hb5⟩
  clear x0 x1 x2 xlt hcc
  have HXB : Hid (w5.heap[w4.heap.size]? = some (.cells #[.int .i64 count, .slice (some ⟨gx, 0, none⟩) data.length data.length, .slice qx 0 mx] 25 (0, 0))) := (hb5.block _ (by rw [World.size_alloc]; exact Nat.lt_succ_self _)).trans (heap_alloc_new w4 _)
  have bb4 : Below w4.heap.size w4 w5 := (below_bt (below_alloc w4 (.cells #[.int .i64 count, .slice (some ⟨gx, 0, none⟩) data.length data.length, .slice qx 0 mx] 25)) hb5)
  replace HB : Hid (w5.heap[w.heap.size]? = some (.cells #[.int .i64 count, .slice p data.length c, .slice q ws.length m] 25 (0, 0))) := (bb4.block _ (lt_heap HB.out)).trans HB.out
  replace HD : Hid (DiskIn w5 (.agg #[.int .i64 count, .slice p data.length c, .slice q ws.length m]) count data ws) := HD.out.below bb4
  replace HDX : Hid (DiskIn w5 (.agg #[.int .i64 count, .slice (some ⟨gx, 0, none⟩) data.length data.length, .slice qx 0 mx]) count (crashN data ws keep) []) := HDX.out.below bb4
  replace hbc : Below w.heap.size w w5 := below_bt hbc bb4
  clear bb4 hb5
  obtain ⟨N, hN⟩ := Int.eq_ofNat_of_zero_le (show 0 ≤ count by omega)
  have HNN : Hid (count = (N : Int)) := hN
  have hN1 : count ≤ (N : Int) := by omega
  have hN2 : (N : Int) ≤ count := by omega
  clear hN
  go_wp2
  go_loopw [8] (fun i wr => ∃ n : Nat, n ≤ N ∧ i = .int .i64 n ∧ Below w5.heap.size w5 wr) (fun i _ => N - (intOf i).toNat)
  case atStart => exact ⟨0, by omega, rfl, Below.refl _ _⟩
  case round =>
    obtain ⟨n, hn, rfl, hbr⟩ := hrel
    replace HB : Hid (wr.heap[w.heap.size]? = some (.cells #[.int .i64 count, .slice p data.length c, .slice q ws.length m] 25 (0, 0))) := (hbr.block _ (lt_heap HB.out)).trans HB.out
    replace HXB : Hid (wr.heap[w4.heap.size]? = some (.cells #[.int .i64 count, .slice (some ⟨gx, 0, none⟩) data.length data.length, .slice qx 0 mx] 25 (0, 0))) := (hbr.block _ (lt_heap HXB.out)).trans HXB.out
    replace HD : Hid (DiskIn wr (.agg #[.int .i64 count, .slice p data.length c, .slice q ws.length m]) count data ws) := HD.out.below hbr
    replace HDX : Hid (DiskIn wr (.agg #[.int .i64 count, .slice (some ⟨gx, 0, none⟩) data.length data.length, .slice qx 0 mx]) count (crashN data ws keep) []) := HDX.out.below hbr
    replace hbc : Below w.heap.size w wr := below_bt hbc hbr
    by_cases hnN : n < N
    · have hnc : (n : Int) < count := by omega
      obtain ⟨x0, x1, x2⟩ := cells3 HB.out
      have xlt := lt_heap HB.out
      go_wp2_with fail
      refine (sure_ok _ n count data ws _ HD.out HO.out hnc).mono ?_
      rintro e wa ⟨⟨va, rfl, hsa⟩, hba⟩
      have hba0 := hba
      obtain ⟨ga, rfl, _, hia, hla⟩ := hsa.form
      clear x0 x1 x2 xlt hsa
      have bb1 : Below wr.heap.size wr wa := hba
      replace HB : Hid (wa.heap[w.heap.size]? = some (.cells #[.int .i64 count, .slice p data.length c, .slice q ws.length m] 25 (0, 0))) := (bb1.block _ (lt_heap HB.out)).trans HB.out
      replace HD : Hid (DiskIn wa (.agg #[.int .i64 count, .slice p data.length c, .slice q ws.length m]) count data ws) := HD.out.below bb1
      replace HDX : Hid (DiskIn wa (.agg #[.int .i64 count, .slice (some ⟨gx, 0, none⟩) data.length data.length, .slice qx 0 mx]) count (crashN data ws keep) []) := HDX.out.below bb1
      replace HXB : Hid (wa.heap[w4.heap.size]? = some (.cells #[.int .i64 count, .slice (some ⟨gx, 0, none⟩) data.length data.length, .slice qx 0 mx] 25 (0, 0))) := (bb1.block _ (lt_heap HXB.out)).trans HXB.out
      replace hbc : Below w.heap.size w wa := below_bt hbc bb1
      clear bb1 hba
      have HIA : Hid (BIn wa (some ⟨ga, 0, none⟩) (secN data n)) := hia
      clear hia
      obtain ⟨x0, x1, x2⟩ := cells3 HXB.out
      have xlt := lt_heap HXB.out
      go_wp2_with fail
      refine (read_ok _ n count (crashN data ws keep) [] _ HDX.out (okay_crashed HO.out keep) hnc).mono ?_
      rintro e wb ⟨⟨vb, rfl, hsb⟩, hbb⟩
      have hbb0 := hbb
      obtain ⟨gb, rfl, _, hib, hlb⟩ := hsb.form
      clear x0 x1 x2 xlt hsb
      have bb2 : Below wa.heap.size wa wb := hbb
      replace HB : Hid (wb.heap[w.heap.size]? = some (.cells #[.int .i64 count, .slice p data.length c, .slice q ws.length m] 25 (0, 0))) := (bb2.block _ (lt_heap HB.out)).trans HB.out
      replace HD : Hid (DiskIn wb (.agg #[.int .i64 count, .slice p data.length c, .slice q ws.length m]) count data ws) := HD.out.below bb2
      replace HDX : Hid (DiskIn wb (.agg #[.int .i64 count, .slice (some ⟨gx, 0, none⟩) data.length data.length, .slice qx 0 mx]) count (crashN data ws keep) []) := HDX.out.below bb2
      replace HXB : Hid (wb.heap[w4.heap.size]? = some (.cells #[.int .i64 count, .slice (some ⟨gx, 0, none⟩) data.length data.length, .slice qx 0 mx] 25 (0, 0))) := (bb2.block _ (lt_heap HXB.out)).trans HXB.out
      replace HIA : Hid (BIn wb (some ⟨ga, 0, none⟩) (secN data n)) := HIA.out.below bb2
      replace hbc : Below w.heap.size w wb := below_bt hbc bb2
      clear bb2 hbb
      have HIB : Hid (BIn wb (some ⟨gb, 0, none⟩) (nowN (crashN data ws keep) [] n)) := hib
      clear hib
      have hb5 : Below w5.heap.size w5 wb := below_bt (below_bt hbr hba0) hbb0
      clear hba0 hbb0 hbr
      have HALL : Hid (isB (secN data n) (nowN (crashN data ws keep) [] n) ws n ws.length = true) := isB_all HO.out keep hnc
      have HZ : Hid (isB (secN data n) (nowN (crashN data ws keep) [] n) ws n 0 = decide (nowN (crashN data ws keep) [] n = secN data n)) := isB_zero _ _ _ _
      have HEQ : Hid (((strOf (nowN (crashN data ws keep) [] n)).toList == (strOf (secN data n)).toList) = decide (nowN (crashN data ws keep) [] n = secN data n)) := str_eq HIB.out.2 HIA.out.2
      have cva := conv_at (c := 128) HIA.out hla.symm
      have cvb := conv_at (c := 128) HIB.out hlb.symm
      have HLB : Hid ((nowN (crashN data ws keep) [] n).length = 128) := hlb
      clear hla hlb
      have HPB : Hid (PutsIn wb q ws) := diskIn_puts HD.out
      generalize hnow : nowN (crashN data ws keep) [] (n : Int) = now at *
      generalize hwas : secN data n = was at *
      clear hnow hwas
      obtain ⟨x0, x1, x2⟩ := cells3 HB.out
      have xlt := lt_heap HB.out
      go_wp2
      clear cva
      go_loopw [13, 14] (fun b i wr => ∃ k : Nat, k ≤ ws.length ∧ i = .int .i64 k ∧ b = .bool (isB was now ws n k) ∧ Below wb.heap.size wb wr) (fun _ i _ => ws.length - (intOf i).toNat)
      case atStart => exact ⟨0, by omega, rfl, by rw [HZ.out, ← HEQ.out], Below.refl _ _⟩
      case round =>
        obtain ⟨k, hk, rfl, rfl, hbw⟩ := hrel
        have hbox := (hbw.block _ (lt_heap HB.out)).trans HB.out
        obtain ⟨y0, y1, y2⟩ := cells3 hbox
        clear hbox
        by_cases hkl : k < ws.length
        · have hq := HPB.out.below hbw
          obtain ⟨bq, oq, rfl⟩ := hq.addr (by omega)
          obtain ⟨e1, pk, ck, e2, hbi⟩ := hq.at2 hkl
          have HKP := isB_keep (was := was) (now := now) (ws := ws) (n := (n : Int)) (k := k)
          have HSP := isB_step (was := was) (now := now) (ws := ws) (n := (n : Int)) (k := k)
          have hkk : (0 : Int) ≤ (k : Int) := by omega
          have hkw : (k : Int) < (ws.length : Int) := by omega
          have HLW : Hid ((ws.getD k (0, [])).2.length = 128) := (HO.out.wait hkl).2.2
          generalize ws.getD k (0, []) = y at *
          obtain ⟨s, xs⟩ := y
          simp only at e1 e2 hbi HSP HLW
          have cvx := fun n => conv_at (w := wr.drewN n) (c := ck) (show BIn (wr.drewN n) pk xs from hbi) rfl
          have cvn := fun n => conv_at (w := wr.drewN n) (c := 128) (show BIn (wr.drewN n) (some ⟨gb, 0, none⟩) now from HIB.out.below (below_drewN hbw n)) HLB.out.symm
          have HXE : Hid (((strOf xs).toList == (strOf now).toList) = decide (xs = now)) := str_eq hbi.2 HIB.out.2
          have hbx : Hid (BIn wr pk xs) := hbi
          clear hbi hq HALL HZ HEQ cvb x0 x1 x2
          cases hib : isB was now ws n k with
          | true =>
            have HN2 : Hid (isB was now ws n (k + 1) = true) := HKP hib
            clear HKP HSP hib e1 e2 cvx cvn
            go_wp2
            go_quiet (fail)
            go_wp2
            go_roundw
            case rel => exact ⟨k + 1, by omega, by go_num, by rw [HN2.out], below_drewN hbw nq⟩
            case measure => simp [intOf]; omega
          | false =>
            have HN2 : Hid (isB was now ws n (k + 1) = (decide (s = (n : Int)) && decide (xs = now))) := HSP hib
            clear HKP HSP hib
            by_cases hs : s = (n : Int)
            · have hsb : (s == (n : Int)) = true := by simpa using hs
              have HN3 : Hid (isB was now ws n (k + 1) = decide (xs = now)) := by show _ = _; rw [HN2.out, decide_eq_true hs, Bool.true_and]
              clear hs HN2
              go_wp2
              go_quiet (fail)
              go_wp2
              go_roundw
              case rel => exact ⟨k + 1, by omega, by go_num, by rw [HN3.out, ← HXE.out], below_drewN hbw nq⟩
              case measure => simp [intOf]; omega
            · have hsb : (s == (n : Int)) = false := by simpa using hs
              have HN3 : Hid (isB was now ws n (k + 1) = false) := by show _ = _; rw [HN2.out, decide_eq_false hs, Bool.false_and]
              clear hs HN2 cvx cvn
              go_wp2
              go_quiet (fail)
              go_wp2
              go_roundw
              case rel => exact ⟨k + 1, by omega, by go_num, by rw [HN3.out], below_drewN hbw nq⟩
              case measure => simp [intOf]; omega
        · obtain rfl : k = ws.length := by omega
          rw [HALL.out]
          go_wp2
          go_roundw
          case rel => exact ⟨n + 1, by omega, by go_num, below_bt hb5 hbw⟩
          case measure => simp [intOf]; omega
    · obtain rfl : n = N := by omega
      obtain ⟨x0, x1, x2⟩ := cells3 HB.out
      have xlt := lt_heap HB.out
      go_wp2
      go_ret
      exact ⟨rfl, hbc⟩
theorem walk (v : Value) (count : Int) (data : List Nat) (ws : Puts) (lv : Value) (q : Option Addr) (keep : List Bool) (c : Nat) (w : World) (hd : DiskIn w v count data ws) (e0 : lv = .slice q (List.length (α := Bool) keep) c) (hk : BoolsIn w q keep) (h1 : keep.length ≤ c) (h2 : c ≤ maxLen) :
    Calls Try.prog 7 #[v, lv] w fun e w' => e = .returned (.bool true) ∧ Below w.heap.size w w' := by
  by_cases hl : largeN count data ws
  · exact walk_large v count data ws lv w hd hl
  · by_cases ho : Okay count data ws
    · subst e0
      unfold maxLen at h2
      exact walk_main v count data ws q c keep w hd hl ho hk (by omega)
    · exact walk_bad v count data ws lv w hd hl ho

/-! ### THE ROW's STEP -/
set_option maxRecDepth 100000 in
theorem lifted (os : Os) (started : os.Started) (H : Type) (enc : TypeId × Value → H) :
    ReturnsInHanded {} Try.checked os 7 .any (Rows.diskKeepsSpec.pre6 enc Try.prog Try.f7 Rows.diskKeepsRow.domain false) (Rows.diskKeepsSpec.post enc Try.prog Try.f7 false true false false) := by
  refine returnsInHanded_of_change (C := Try.checked) own started (by kernel_rfl) Try.func7
    (ChangeSpec.witness6 (enc := enc) (C := Try.checked) false ⟨#[], #[.agg #[.int .i64 0, .slice none 0 0, .slice none 0 0], .slice none 0 0], []⟩ 8 (by kernel_rfl) (by kernel_rfl) (by kernel_rfl) (by kernel_rfl)) ?_
  intro W base args ds gs before hval0 hW hcnd _
  have hval : ∀ (j : Nat) t v, Try.f7.params[j]? = some t → args[j]? = some v → Value.okWide Try.prog W .any base t v := hval0
  have hW' := hW
  obtain ⟨p, q, hA0, hV, rfl, hfz, hnd⟩ := hW
  have hA : DataW.TrodAll enc Try.prog W 0 (fun _ => true) true Try.f7.params.toList args.toList ds p := hA0
  rw [Try.params7] at hA hval
  obtain ⟨v0, vs0, d0, ds0, p0, q0, hargs, rfl, rfl, h0, r0⟩ := trodAll_cons hA
  obtain ⟨v1, vs1, d1, ds1, p1, q1, rfl, rfl, rfl, h1, r1⟩ := trodAll_cons r0
  obtain ⟨rfl, rfl, rfl⟩ := trodAll_nil r1
  obtain rfl : args = #[v0, v1] := by cases args; simp_all
  obtain ⟨rfl, rfl⟩ := trodVars_none hV
  have k0 := h0
  have lt0 : ∀ x ∈ p0, x.block < W.heap.size := by obtain ⟨m, hm⟩ := k0; exact DataW.trod_lt m _ _ _ hm
  obtain ⟨count0, data0, ws0, w0⟩ := open_disk (tD := 25) (t := 23) (e := 51) (tb := 22) (eb := 5) Try.underlying25 (by kernel_rfl) (by kernel_rfl) Try.underlying3 rfl rfl Try.underlying23 Try.underlying51 (by kernel_rfl) rfl rfl (by kernel_rfl) (by kernel_rfl) Try.underlying3 rfl Try.underlying22 Try.underlying5 (by kernel_rfl) (hval 0 25 v0 rfl rfl) h0
  have k1 := h1
  have lt1 : ∀ x ∈ p1, x.block < W.heap.size := by obtain ⟨m, hm⟩ := k1; exact DataW.trod_lt m _ _ _ hm
  obtain ⟨qa1, la1, ca1, rfl⟩ := okWide_slice Try.underlying33 (hval 1 33 v1 rfl rfl)
  obtain ⟨fu1, hf1⟩ := h1
  obtain ⟨q1b, bs1, c1b, e1, w1a, w1b, w1c, w1d⟩ := open_bools Try.underlying33 Try.underlying4 (by kernel_rfl) hf1
  clear hA0 hval0
  refine (walk v0 count0 data0 ws0 (.slice qa1 la1 ca1) q1b bs1 c1b W w0 e1 w1a w1b w1c).mono fun e W' ⟨he, bel⟩ => ?_
  subst he
  exact ⟨_, rfl, _, _, _, [], _, [], hW', trodAll_mk1 (shut_bool Try.underlying4 _), (trodAll_cons_mk (Below.trod laidOut (by kernel_rfl) (of_decide_eq_true (by kernel_rfl)) k0 bel lt0) (trodAll_cons_mk (Below.trod laidOut (by kernel_rfl) (of_decide_eq_true (by kernel_rfl)) k1 bel lt1) trodAll_mk0)), rfl, bel.frame _, fun h => by cases h⟩

theorem over : Rows.diskKeepsRow.holds Try.pinned (OpenSpec.ofChange Rows.diskKeepsSpec) :=
  OpenClaim.holds_of_wide 7 Try.f7 rfl rfl rfl rfl rfl rfl rfl ⟨rfl, rfl, rfl, rfl, rfl⟩ rfl rfl rfl rfl rfl (by kernel_rfl) Try.func7 (by kernel_rfl)
    (of_decide_eq_true (by kernel_rfl)) (by unfold Func.isWrapper; first | (rw [if_pos (by decide +kernel)]; kernel_rfl) | (rw [if_neg (by decide +kernel)]; exact ⟨rfl, rfl⟩))
    (fun os started H enc _ => lifted os started H enc)

theorem proved : Rows.DiskKeepsSaid := over
end Go.Proofs.Ytmpeeojeifmbfaa.diskKeeps
namespace Go.Proofs.Ytmpeeojeifmbfaa
theorem diskKeeps_holds : Rows.DiskKeepsSaid := diskKeeps.proved
#print axioms diskKeeps_holds
end Go.Proofs.Ytmpeeojeifmbfaa
