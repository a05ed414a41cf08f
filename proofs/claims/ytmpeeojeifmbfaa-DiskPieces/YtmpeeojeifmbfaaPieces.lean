/-
  Proved: for every disk, acts and place to part them the law DiskPieces answers true: acts done in pieces come to what they come to at once.
  Conditions: none (every disk, []Act and int that can be read).
-/
import Derived.Test.YtmpeeojeifmbfaaRows
import Derived.Test.YtmpeeojeifmbfaaDDoAll
import Derived.WalkKit
import Derived.ProofKit
import Derived.OpenShut
import Derived.ShutString
import Derived.ChangeOld
import Derived.Below
namespace Go.Proofs.Ytmpeeojeifmbfaa.diskPieces
open Go.ChangeShapes Go.WideShapes Go.ChangeAt Go.RowKit
open Go.ChangeMaps (open_string shut_string)
set_option linter.unusedVariables false

theorem own : ownKnob Try.prog.godebug = none := by kernel_rfl
theorem laidOut : laidOutB Try.prog = true := by kernel_rfl

open Go.Joins
attribute [local go_sem ↓] Go.wp_at_zero Go.wp_at_succ
theorem nil_acts (w : World) (q : Option Addr) : ActsIn w q [] := fun h => absurd h (by simp)
set_option maxRecDepth 4000 in
set_option maxHeartbeats 8000000 in
theorem walk_large (v : Value) (count : Int) (data : List Nat) (ws : Puts) (ql : Option Addr) (n ml : Nat) (at0 : Int) (w : World) (hd : DiskIn w v count data ws) (hl : largeN count data ws) :
    Calls Try.prog 8 #[v, .slice ql n ml, .int .i64 at0] w fun e w' => e = .returned (.bool true) ∧ Below w.heap.size w w' := by
  obtain ⟨p, c, q, m, rfl, hbD, hcD, _, _, hqp, hqm, hqmm, _⟩ := hd.parts
  have HD0 : Hid _ := hd
  clear hd hbD hqp
  go_enter Try.func8, Try.ntmps8
  go_wp2_with fail
  refine (alive_any _).mono ?_
  rintro e w1 ⟨rfl, hb1⟩
  have HB : Hid (w1.heap[w.heap.size]? = some (.cells #[.int .i64 count, .slice p data.length c, .slice q ws.length m] 25 (0, 0))) := (hb1.block _ (by rw [World.size_alloc]; exact Nat.lt_succ_self _)).trans (heap_alloc_new w _)
  have hbc : Below w.heap.size w w1 := below_bt (below_alloc w _) hb1
  have HD : Hid (DiskIn w1 (.agg #[.int .i64 count, .slice p data.length c, .slice q ws.length m]) count data ws) := HD0.out.below hbc
  clear HD0 hb1
  obtain ⟨x0, x1, x2⟩ := cells3 HB.out
  have xlt := lt_heap HB.out
  go_wp2_with fail
  refine (large_any _ count data ws _ HD.out).mono ?_
  rintro e w2 ⟨rfl, hb2⟩
  rw [decide_eq_true hl]
  clear x0 x1 x2 xlt
  have bb1 : Below w1.heap.size w1 w2 := hb2
  replace HB : Hid (w2.heap[w.heap.size]? = some (.cells #[.int .i64 count, .slice p data.length c, .slice q ws.length m] 25 (0, 0))) := (bb1.block _ (lt_heap HB.out)).trans HB.out
  replace HD : Hid (DiskIn w2 (.agg #[.int .i64 count, .slice p data.length c, .slice q ws.length m]) count data ws) := HD.out.below bb1
  replace hbc : Below w.heap.size w w2 := below_bt hbc bb1
  clear bb1 hb2
  go_wp2
  go_ret
  exact ⟨rfl, hbc⟩
set_option maxRecDepth 4000 in
set_option maxHeartbeats 8000000 in
theorem walk_long (v : Value) (count : Int) (data : List Nat) (ws : Puts) (ql : Option Addr) (n ml : Nat) (at0 : Int) (w : World) (hd : DiskIn w v count data ws) (hl : ¬ largeN count data ws) (h : (300 : Int) < (n : Int)) :
    Calls Try.prog 8 #[v, .slice ql n ml, .int .i64 at0] w fun e w' => e = .returned (.bool true) ∧ Below w.heap.size w w' := by
  obtain ⟨p, c, q, m, rfl, hbD, hcD, _, _, hqp, hqm, hqmm, _⟩ := hd.parts
  have HD0 : Hid _ := hd
  clear hd hbD hqp
  go_enter Try.func8, Try.ntmps8
  go_wp2_with fail
  refine (alive_any _).mono ?_
  rintro e w1 ⟨rfl, hb1⟩
  have HB : Hid (w1.heap[w.heap.size]? = some (.cells #[.int .i64 count, .slice p data.length c, .slice q ws.length m] 25 (0, 0))) := (hb1.block _ (by rw [World.size_alloc]; exact Nat.lt_succ_self _)).trans (heap_alloc_new w _)
  have hbc : Below w.heap.size w w1 := below_bt (below_alloc w _) hb1
  have HD : Hid (DiskIn w1 (.agg #[.int .i64 count, .slice p data.length c, .slice q ws.length m]) count data ws) := HD0.out.below hbc
  clear HD0 hb1
  obtain ⟨x0, x1, x2⟩ := cells3 HB.out
  have xlt := lt_heap HB.out
  go_wp2_with fail
  refine (large_any _ count data ws _ HD.out).mono ?_
  rintro e w2 ⟨rfl, hb2⟩
  rw [decide_eq_false hl]
  clear x0 x1 x2 xlt
  have bb1 : Below w1.heap.size w1 w2 := hb2
  replace HB : Hid (w2.heap[w.heap.size]? = some (.cells #[.int .i64 count, .slice p data.length c, .slice q ws.length m] 25 (0, 0))) := (bb1.block _ (lt_heap HB.out)).trans HB.out
  replace HD : Hid (DiskIn w2 (.agg #[.int .i64 count, .slice p data.length c, .slice q ws.length m]) count data ws) := HD.out.below bb1
  replace hbc : Below w.heap.size w w2 := below_bt hbc bb1
  clear bb1 hb2
  go_wp2
  go_ret
  exact ⟨rfl, hbc⟩
set_option maxRecDepth 4000 in
set_option maxHeartbeats 8000000 in
theorem walk_neg (v : Value) (count : Int) (data : List Nat) (ws : Puts) (ql : Option Addr) (n ml : Nat) (at0 : Int) (w : World) (hd : DiskIn w v count data ws) (hl : ¬ largeN count data ws) (h0 : (n : Int) ≤ 300) (h : at0 < 0) :
    Calls Try.prog 8 #[v, .slice ql n ml, .int .i64 at0] w fun e w' => e = .returned (.bool true) ∧ Below w.heap.size w w' := by
  obtain ⟨p, c, q, m, rfl, hbD, hcD, _, _, hqp, hqm, hqmm, _⟩ := hd.parts
  have HD0 : Hid _ := hd
  clear hd hbD hqp
  go_enter Try.func8, Try.ntmps8
  go_wp2_with fail
  refine (alive_any _).mono ?_
  rintro e w1 ⟨rfl, hb1⟩
  have HB : Hid (w1.heap[w.heap.size]? = some (.cells #[.int .i64 count, .slice p data.length c, .slice q ws.length m] 25 (0, 0))) := (hb1.block _ (by rw [World.size_alloc]; exact Nat.lt_succ_self _)).trans (heap_alloc_new w _)
  have hbc : Below w.heap.size w w1 := below_bt (below_alloc w _) hb1
  have HD : Hid (DiskIn w1 (.agg #[.int .i64 count, .slice p data.length c, .slice q ws.length m]) count data ws) := HD0.out.below hbc
  clear HD0 hb1
  obtain ⟨x0, x1, x2⟩ := cells3 HB.out
  have xlt := lt_heap HB.out
  go_wp2_with fail
  refine (large_any _ count data ws _ HD.out).mono ?_
  rintro e w2 ⟨rfl, hb2⟩
  rw [decide_eq_false hl]
  clear x0 x1 x2 xlt
  have bb1 : Below w1.heap.size w1 w2 := hb2
  replace HB : Hid (w2.heap[w.heap.size]? = some (.cells #[.int .i64 count, .slice p data.length c, .slice q ws.length m] 25 (0, 0))) := (bb1.block _ (lt_heap HB.out)).trans HB.out
  replace HD : Hid (DiskIn w2 (.agg #[.int .i64 count, .slice p data.length c, .slice q ws.length m]) count data ws) := HD.out.below bb1
  replace hbc : Below w.heap.size w w2 := below_bt hbc bb1
  clear bb1 hb2
  go_wp2
  go_ret
  exact ⟨rfl, hbc⟩
set_option maxRecDepth 4000 in
set_option maxHeartbeats 8000000 in
theorem walk_past (v : Value) (count : Int) (data : List Nat) (ws : Puts) (ql : Option Addr) (n ml : Nat) (at0 : Int) (w : World) (hd : DiskIn w v count data ws) (hl : ¬ largeN count data ws) (h0 : (n : Int) ≤ 300) (h1 : 0 ≤ at0) (h : (n : Int) < at0) :
    Calls Try.prog 8 #[v, .slice ql n ml, .int .i64 at0] w fun e w' => e = .returned (.bool true) ∧ Below w.heap.size w w' := by
  obtain ⟨p, c, q, m, rfl, hbD, hcD, _, _, hqp, hqm, hqmm, _⟩ := hd.parts
  have HD0 : Hid _ := hd
  clear hd hbD hqp
  go_enter Try.func8, Try.ntmps8
  go_wp2_with fail
  refine (alive_any _).mono ?_
  rintro e w1 ⟨rfl, hb1⟩
  have HB : Hid (w1.heap[w.heap.size]? = some (.cells #[.int .i64 count, .slice p data.length c, .slice q ws.length m] 25 (0, 0))) := (hb1.block _ (by rw [World.size_alloc]; exact Nat.lt_succ_self _)).trans (heap_alloc_new w _)
  have hbc : Below w.heap.size w w1 := below_bt (below_alloc w _) hb1
  have HD : Hid (DiskIn w1 (.agg #[.int .i64 count, .slice p data.length c, .slice q ws.length m]) count data ws) := HD0.out.below hbc
  clear HD0 hb1
  obtain ⟨x0, x1, x2⟩ := cells3 HB.out
  have xlt := lt_heap HB.out
  go_wp2_with fail
  refine (large_any _ count data ws _ HD.out).mono ?_
  rintro e w2 ⟨rfl, hb2⟩
  rw [decide_eq_false hl]
  clear x0 x1 x2 xlt
  have bb1 : Below w1.heap.size w1 w2 := hb2
  replace HB : Hid (w2.heap[w.heap.size]? = some (.cells #[.int .i64 count, .slice p data.length c, .slice q ws.length m] 25 (0, 0))) := (bb1.block _ (lt_heap HB.out)).trans HB.out
  replace HD : Hid (DiskIn w2 (.agg #[.int .i64 count, .slice p data.length c, .slice q ws.length m]) count data ws) := HD.out.below bb1
  replace hbc : Below w.heap.size w w2 := below_bt hbc bb1
  clear bb1 hb2
  go_wp2
  go_ret
  exact ⟨rfl, hbc⟩
set_option maxRecDepth 4000 in
set_option maxHeartbeats 8000000 in
theorem walk_some (v : Value) (count : Int) (data : List Nat) (ws : Puts) (b o : Nat) (ml : Nat) (l : Acts) (k : Nat) (w : World) (hd : DiskIn w v count data ws) (hl : ¬ largeN count data ws) (ha : ActsIn w (some ⟨b, o, none⟩) l) (h0 : l.length ≤ 300) (hk : k ≤ l.length) (hml : l.length ≤ ml) :
    Calls Try.prog 8 #[v, .slice (some ⟨b, o, none⟩) l.length ml, .int .i64 k] w fun e w' => e = .returned (.bool true) ∧ Below w.heap.size w w' := by
  obtain ⟨p, c, q, m, rfl, hbD, hcD, _, _, hqp, hqm, hqmm, _⟩ := hd.parts
  have HD0 : Hid _ := hd
  clear hd hbD hqp
  go_enter Try.func8, Try.ntmps8
  go_wp2_with fail
  refine (alive_any _).mono ?_
  rintro e w1 ⟨rfl, hb1⟩
  have HB : Hid (w1.heap[w.heap.size]? = some (.cells #[.int .i64 count, .slice p data.length c, .slice q ws.length m] 25 (0, 0))) := (hb1.block _ (by rw [World.size_alloc]; exact Nat.lt_succ_self _)).trans (heap_alloc_new w _)
  have hbc : Below w.heap.size w w1 := below_bt (below_alloc w _) hb1
  have HD : Hid (DiskIn w1 (.agg #[.int .i64 count, .slice p data.length c, .slice q ws.length m]) count data ws) := HD0.out.below hbc
  clear HD0 hb1
  have HA0 : Hid (ActsIn w (some ⟨b, o, none⟩) l) := ha
  clear ha
  obtain ⟨x0, x1, x2⟩ := cells3 HB.out
  have xlt := lt_heap HB.out
  go_wp2_with fail
  refine (large_any _ count data ws _ HD.out).mono ?_
  rintro e w2 ⟨rfl, hb2⟩
  rw [decide_eq_false hl]
  clear x0 x1 x2 xlt
  have bb1 : Below w1.heap.size w1 w2 := hb2
  replace HB : Hid (w2.heap[w.heap.size]? = some (.cells #[.int .i64 count, .slice p data.length c, .slice q ws.length m] 25 (0, 0))) := (bb1.block _ (lt_heap HB.out)).trans HB.out
  replace HD : Hid (DiskIn w2 (.agg #[.int .i64 count, .slice p data.length c, .slice q ws.length m]) count data ws) := HD.out.below bb1
  replace hbc : Below w.heap.size w w2 := below_bt hbc bb1
  clear bb1 hb2
  have hk0 : (0 : Int) ≤ (k : Int) := by omega
  have hk1 : (k : Int) ≤ (l.length : Int) := by omega
  have hk2 : (k : Int) ≤ (ml : Int) := by omega
  have hk3 : (l.length : Int) ≤ 300 := by omega
  have hk4 : (l.length : Int) ≤ (ml : Int) := by omega
  have HKL : Hid (k = (l.take k).length) := by show _ = _; simp; omega
  have HKD : Hid (l.length - k = (l.drop k).length) := by show _ = _; simp
  obtain ⟨A2, hA2⟩ : ∃ A2, (if ml = k then some (⟨b, o, none⟩ : Addr) else some ⟨b, o + k * 3, none⟩) = A2 := ⟨_, rfl⟩
  have HA2x : Hid (k < l.length → A2 = some ⟨b, o + k * 3, none⟩) := by intro h; rw [← hA2, if_neg (by omega)]
  obtain ⟨x0, x1, x2⟩ := cells3 HB.out
  have xlt := lt_heap HB.out
  go_wp2_with fail
  obtain ⟨r, hr⟩ : ∃ r, doAny count data ws l = r := ⟨_, rfl⟩
  have HR : Hid (doAny count data ws l = r) := hr
  clear hr
  refine (do_all _ count data ws _ HD.out (some ⟨b, o, none⟩) l.length ml l rfl (HA0.out.below hbc) (by omega) r HR.out).mono ?_
  rintro e w3 ⟨⟨v3, rfl, hf3⟩, hb3⟩
  have hnx := hf3.self
  obtain ⟨pX, kX, qX, mX, rfl, _⟩ := hnx.parts
  clear x0 x1 x2 xlt hf3
  have bb2 : Below w2.heap.size w2 w3 := hb3
  replace HB : Hid (w3.heap[w.heap.size]? = some (.cells #[.int .i64 count, .slice p data.length c, .slice q ws.length m] 25 (0, 0))) := (bb2.block _ (lt_heap HB.out)).trans HB.out
  replace HD : Hid (DiskIn w3 (.agg #[.int .i64 count, .slice p data.length c, .slice q ws.length m]) count data ws) := HD.out.below bb2
  replace hbc : Below w.heap.size w w3 := below_bt hbc bb2
  clear bb2 hb3
  have HDX : Hid (DiskIn w3 (.agg #[.int .i64 (resC count r), .slice pX (resD r).length kX, .slice qX (resW r).length mX]) (resC count r) (resD r) (resW r)) := hnx
  clear hnx
  go_wp2
  obtain ⟨W, hW⟩ : ∃ W, W = w3.alloc (.cells #[.int .i64 (resC count r), .slice pX (resD r).length kX, .slice qX (resW r).length mX] 25) := ⟨_, rfl⟩
  have hbW := below_alloc w3 (.cells #[.int .i64 (resC count r), .slice pX (resD r).length kX, .slice qX (resW r).length mX] 25)
  have HXB : Hid (W.heap[w3.heap.size]? = some (.cells #[.int .i64 (resC count r), .slice pX (resD r).length kX, .slice qX (resW r).length mX] 25 (0, 0))) := by rw [hW]; exact heap_alloc_new _ _
  rw [← hW] at hbW ⊢
  clear hW
  have bb3 : Below w3.heap.size w3 W := hbW
  replace HB : Hid (W.heap[w.heap.size]? = some (.cells #[.int .i64 count, .slice p data.length c, .slice q ws.length m] 25 (0, 0))) := (bb3.block _ (lt_heap HB.out)).trans HB.out
  replace HD : Hid (DiskIn W (.agg #[.int .i64 count, .slice p data.length c, .slice q ws.length m]) count data ws) := HD.out.below bb3
  replace HDX : Hid (DiskIn W (.agg #[.int .i64 (resC count r), .slice pX (resD r).length kX, .slice qX (resW r).length mX]) (resC count r) (resD r) (resW r)) := HDX.out.below bb3
  replace hbc : Below w.heap.size w W := below_bt hbc bb3
  clear bb3 hbW
  obtain ⟨r1, hr1⟩ : ∃ r1, doAny count data ws (l.take k) = r1 := ⟨_, rfl⟩
  have HR1 : Hid (doAny count data ws (l.take k) = r1) := hr1
  clear hr1
  have HA1 : Hid (ActsIn W (some ⟨b, o, none⟩) (l.take k)) := (acts_take (HA0.out.below hbc) k)
  have HS1 : (W.drew.cell? ⟨w.heap.size, 0, none⟩ = some (.int .i64 count) ∧ W.drew.cell? ⟨w.heap.size, 1, none⟩ = some (.slice p data.length c) ∧ W.drew.cell? ⟨w.heap.size, 2, none⟩ = some (.slice q ws.length m)) ∧ Hid (Below W.heap.size W W.drew) := ⟨cells3 HB.out, (Below.refl _ _).drew⟩
  go_cut [10, 11] from 14 (fun s10 s11 w5 => ∃ B pY kY qY mY, s10 = .pointer (some ⟨B, 0, none⟩) ∧ s11 = .int .i64 (resE r1) ∧ w5.heap[B]? = some (.cells #[.int .i64 (resC count r1), .slice pY (resD r1).length kY, .slice qY (resW r1).length mY] 25 (0, 0)) ∧ DiskIn w5 (.agg #[.int .i64 (resC count r1), .slice pY (resD r1).length kY, .slice qY (resW r1).length mY]) (resC count r1) (resD r1) (resW r1) ∧ Below W.heap.size W w5)
  case first =>
    refine wp_region_noPanic ?_
    refine wp_region_held_drew (S := (fun w' => (w'.cell? ⟨w.heap.size, 0, none⟩ = some (.int .i64 count) ∧ w'.cell? ⟨w.heap.size, 1, none⟩ = some (.slice p data.length c) ∧ w'.cell? ⟨w.heap.size, 2, none⟩ = some (.slice q ws.length m)) ∧ Hid (Below W.heap.size W w'))) (by kernel_rfl) HS1 (fun hS0 => ?_)
    clear HS1
    refine takeH 0 42 (v := ?_) rfl rfl (by kernel_rfl) (by kernel_rfl) (by kernel_rfl) (fun _ _ _ h => h) (by rfl) ?_ (by assumption) ?_
    rotate_left
    · intro w hSw; go_simp; first | done | with_reducible rfl
    simp only [Act.put, List.setIfInBounds_toArray, List.set_cons_zero, List.set_cons_succ]
    refine takeH 1 43 (v := ?_) rfl rfl (by kernel_rfl) (by kernel_rfl) (by kernel_rfl) (fun _ _ _ h => h) (by rfl) ?_ (by assumption) ?_
    rotate_left
    · intro w hSw; go_simp; first | done | with_reducible rfl
    simp only [Act.put, List.setIfInBounds_toArray, List.set_cons_zero, List.set_cons_succ]
    refine takeH 2 44 (v := ?_) rfl rfl (by kernel_rfl) (by kernel_rfl) (by kernel_rfl) (fun _ _ _ h => h) (by rfl) ?_ (by assumption) ?_
    rotate_left
    · intro w hSw; go_simp; first | done | with_reducible rfl
    simp only [Act.put, List.setIfInBounds_toArray, List.set_cons_zero, List.set_cons_succ]
    refine takeH 3 45 (v := ?_) rfl rfl (by kernel_rfl) (by kernel_rfl) (by kernel_rfl) (fun _ _ _ h => h) (by rfl) ?_ (by assumption) ?_
    rotate_left
    · intro w hSw; go_simp; first | done | with_reducible rfl
    simp only [Act.put, List.setIfInBounds_toArray, List.set_cons_zero, List.set_cons_succ]
    refine wpAnyH_ready (rs := [4, 8]) (by kernel_rfl) (by simp) ?_
    refine AllReadyH.cons rfl (fun K hK => ?_) (AllReadyH.cons rfl (fun K hK => ?_) AllReadyH.nil)
    · go_simp
      refine (do_all _ count data ws _ (HD.out.below hS0.2.out) (some ⟨b, o, none⟩) k ml (l.take k) HKL.out (HA1.out.below hS0.2.out) (by simp; omega) r1 HR1.out).mono ?_
      rintro e ww1 ⟨⟨v', rfl, hf'⟩, hb1⟩
      obtain ⟨pY, kY, qY, mY, rfl, _⟩ := hf'.self.parts
      go_simp
      refine hK.out _ _ (keepS (Nat.le_refl _) hS0 hb1) (fun hS1 => ?_)
      clear hK K
      refine takeH 5 41 (v := ?_) rfl rfl (by kernel_rfl) (by kernel_rfl) (by kernel_rfl) (fun _ _ _ h => h) (by rfl) ?_ (by assumption) ?_
      rotate_left
      · intro w hSw; go_simp; first | done | with_reducible rfl
      simp only [Act.put, List.setIfInBounds_toArray, List.set_cons_zero, List.set_cons_succ]
      refine takeH 6 47 (v := ?_) rfl rfl (by kernel_rfl) (by kernel_rfl) (by kernel_rfl) (fun _ _ _ h => h) (by rfl) ?_ (by assumption) ?_
      rotate_left
      · intro w hSw; go_simp; first | done | with_reducible rfl
      simp only [Act.put, List.setIfInBounds_toArray, List.set_cons_zero, List.set_cons_succ]
      refine takeH 7 48 (v := ?_) rfl rfl (by kernel_rfl) (by kernel_rfl) (by kernel_rfl) (fun _ _ _ h => h) (by rfl) ?_ (by assumption) ?_
      rotate_left
      · intro w hSw; go_simp; first | done | with_reducible rfl
      simp only [Act.put, List.setIfInBounds_toArray, List.set_cons_zero, List.set_cons_succ]
      refine wpAnyH_ready (rs := [8]) (by kernel_rfl) (by simp) ?_
      refine AllReadyH.cons rfl (fun K hK => ?_) AllReadyH.nil
      have hb2 := below_alloc ww1 (.cells #[.int .i64 0, .slice none 0 0, .slice none 0 0] 25)
      go_simp
      refine hK.out _ _ (keepS (Nat.le_refl _) hS1 hb2) (fun hS2 => ?_)
      clear hK K
      refine wpAnyH_ready (rs := [9]) (by kernel_rfl) (by simp) ?_
      refine AllReadyH.cons rfl (fun K hK => ?_) AllReadyH.nil
      go_simp
      refine hK.out _ _ (keepA (Nat.le_refl _) hS1 _) (fun hSz => ?_)
      clear hK K
      refine takeH 10 11 (v := ?_) rfl rfl (by kernel_rfl) (by kernel_rfl) (by kernel_rfl) (fun _ _ _ h => h) (by rfl) ?_ (by assumption) ?_
      rotate_left
      · intro w hSw; go_simp; first | done | with_reducible rfl
      simp only [Act.put, List.setIfInBounds_toArray, List.set_cons_zero, List.set_cons_succ]
      refine wpAnyH_done (by kernel_rfl) (NoPanic.normal ?_) _
      go_wp2
      go_meet
      case rel =>
        exact ⟨_, pY, kY, qY, mY, rfl, rfl, heap_alloc_new _ _, hf'.below (below_alloc _ _), hSz.2.out⟩
    · have hb1 := below_alloc W.drew (.cells #[.int .i64 0, .slice none 0 0, .slice none 0 0] 25)
      go_simp
      refine hK.out _ _ (keepS (Nat.le_refl _) hS0 hb1) (fun hS1 => ?_)
      clear hK K
      refine wpAnyH_ready (rs := [4]) (by kernel_rfl) (by simp) ?_
      refine AllReadyH.cons rfl (fun K hK => ?_) AllReadyH.nil
      go_simp
      refine (do_all _ count data ws _ (HD.out.below hS1.2.out) (some ⟨b, o, none⟩) k ml (l.take k) HKL.out (HA1.out.below hS1.2.out) (by simp; omega) r1 HR1.out).mono ?_
      rintro e ww2 ⟨⟨v', rfl, hf'⟩, hb2⟩
      obtain ⟨pY, kY, qY, mY, rfl, _⟩ := hf'.self.parts
      go_simp
      refine hK.out _ _ (keepS (Nat.le_refl _) hS1 hb2) (fun hS2 => ?_)
      clear hK K
      refine takeH 5 41 (v := ?_) rfl rfl (by kernel_rfl) (by kernel_rfl) (by kernel_rfl) (fun _ _ _ h => h) (by rfl) ?_ (by assumption) ?_
      rotate_left
      · intro w hSw; go_simp; first | done | with_reducible rfl
      simp only [Act.put, List.setIfInBounds_toArray, List.set_cons_zero, List.set_cons_succ]
      refine takeH 6 47 (v := ?_) rfl rfl (by kernel_rfl) (by kernel_rfl) (by kernel_rfl) (fun _ _ _ h => h) (by rfl) ?_ (by assumption) ?_
      rotate_left
      · intro w hSw; go_simp; first | done | with_reducible rfl
      simp only [Act.put, List.setIfInBounds_toArray, List.set_cons_zero, List.set_cons_succ]
      refine takeH 7 48 (v := ?_) rfl rfl (by kernel_rfl) (by kernel_rfl) (by kernel_rfl) (fun _ _ _ h => h) (by rfl) ?_ (by assumption) ?_
      rotate_left
      · intro w hSw; go_simp; first | done | with_reducible rfl
      simp only [Act.put, List.setIfInBounds_toArray, List.set_cons_zero, List.set_cons_succ]
      refine wpAnyH_ready (rs := [9]) (by kernel_rfl) (by simp) ?_
      refine AllReadyH.cons rfl (fun K hK => ?_) AllReadyH.nil
      have hZ : ww2.heap[W.heap.size]? = some (.cells #[.int .i64 0, .slice none 0 0, .slice none 0 0] 25 (0, 0)) := ((hb2).block _ (by first | (rw [World.size_alloc]; exact Nat.lt_succ_self _) | (show _ < (World.alloc _ _).heap.size; rw [World.size_alloc]; exact Nat.lt_succ_self _))).trans (heap_alloc_new _ _)
      obtain ⟨z0, z1, z2⟩ := cells3 hZ
      obtain ⟨y0, y1, y2⟩ := free3 hZ
      have HZ : Hid _ := hZ
      clear hZ
      have szB := hS0.2.out.size
      have szX := lt_heap HB.out
      go_simp
      refine hK.out _ _ (keep3 hS2 ⟨Nat.ne_of_lt (Nat.lt_of_lt_of_le szX szB), szB⟩ _ _ _) (fun hSz => ?_)
      clear hK K
      refine takeH 10 11 (v := ?_) rfl rfl (by kernel_rfl) (by kernel_rfl) (by kernel_rfl) (fun _ _ _ h => h) (by rfl) ?_ (by assumption) ?_
      rotate_left
      · intro w hSw; go_simp; first | done | with_reducible rfl
      simp only [Act.put, List.setIfInBounds_toArray, List.set_cons_zero, List.set_cons_succ]
      refine wpAnyH_done (by kernel_rfl) (NoPanic.normal ?_) _
      go_wp2
      go_meet
      case rel =>
        exact ⟨_, pY, kY, qY, mY, rfl, rfl, set3_same _ _ _ _ _ _ _ _ _ HZ.out, hf'.set3 (by first | (rw [World.size_alloc]; exact Nat.lt_succ_self _) | (show _ < (World.alloc _ _).heap.size; rw [World.size_alloc]; exact Nat.lt_succ_self _)) _ _ _, hSz.2.out⟩
  case rest =>
    obtain ⟨B, pY, kY, qY, mY, rfl, rfl, hyb, hyd, hb5⟩ := hcut
    have HYB : Hid (wc.heap[B]? = some (.cells #[.int .i64 (resC count r1), .slice pY (resD r1).length kY, .slice qY (resW r1).length mY] 25 (0, 0))) := hyb
    have HDY : Hid (DiskIn wc (.agg #[.int .i64 (resC count r1), .slice pY (resD r1).length kY, .slice qY (resW r1).length mY]) (resC count r1) (resD r1) (resW r1)) := hyd
    clear hyb hyd HS1 HA1
    have bb4 : Below W.heap.size W wc := hb5
    replace HB : Hid (wc.heap[w.heap.size]? = some (.cells #[.int .i64 count, .slice p data.length c, .slice q ws.length m] 25 (0, 0))) := (bb4.block _ (lt_heap HB.out)).trans HB.out
    replace HD : Hid (DiskIn wc (.agg #[.int .i64 count, .slice p data.length c, .slice q ws.length m]) count data ws) := HD.out.below bb4
    replace HDX : Hid (DiskIn wc (.agg #[.int .i64 (resC count r), .slice pX (resD r).length kX, .slice qX (resW r).length mX]) (resC count r) (resD r) (resW r)) := HDX.out.below bb4
    replace HXB : Hid (wc.heap[w3.heap.size]? = some (.cells #[.int .i64 (resC count r), .slice pX (resD r).length kX, .slice qX (resW r).length mX] 25 (0, 0))) := (bb4.block _ (lt_heap HXB.out)).trans HXB.out
    replace hbc : Below w.heap.size w wc := below_bt hbc bb4
    clear bb4 hb5
    cases r1 with
    | error cc =>
      have HRR : Hid (r = .error cc) := HR.out.symm.trans (doAny_fail HR1.out)
      have hcc : cc ≠ 0 := doAny_err HR1.out
      have hcb : (cc != 0) = true := by simpa using hcc
      have her : (resE r == cc) = true := by rw [HRR.out]; simp [resE]
      have hee : resE (.error cc) = cc := rfl
      rw [hee]
      clear hcc hee HRR
      go_wp2
      go_ret
      exact ⟨rfl, hbc⟩
    | ok s1 =>
      obtain ⟨d1, w1'⟩ := s1
      have HR2 : Hid (doAny count d1 w1' (l.drop k) = r) := (doAny_cut HR1.out).trans HR.out
      replace HYB : Hid (wc.heap[B]? = some (.cells #[.int .i64 count, .slice pY d1.length kY, .slice qY w1'.length mY] 25 (0, 0))) := HYB
      replace HDY : Hid (DiskIn wc (.agg #[.int .i64 count, .slice pY d1.length kY, .slice qY w1'.length mY]) count d1 w1') := HDY
      rw [show resE (.ok (d1, w1')) = 0 from rfl]
      have HA2 : Hid (ActsIn wc A2 (l.drop k)) := acts_drop (HA0.out.below hbc) k A2 HA2x.out
      have HS2 : (wc.drew.cell? ⟨B, 0, none⟩ = some (.int .i64 count) ∧ wc.drew.cell? ⟨B, 1, none⟩ = some (.slice pY d1.length kY) ∧ wc.drew.cell? ⟨B, 2, none⟩ = some (.slice qY w1'.length mY)) ∧ Hid (Below wc.heap.size wc wc.drew) := ⟨cells3 HYB.out, (Below.refl _ _).drew⟩
      clear HR1
      go_wp2
      go_cut [12, 13] from 14 (fun s12 s13 w5 => ∃ B pZ kZ qZ mZ, s12 = .pointer (some ⟨B, 0, none⟩) ∧ s13 = .int .i64 (resE r) ∧ w5.heap[B]? = some (.cells #[.int .i64 (resC count r), .slice pZ (resD r).length kZ, .slice qZ (resW r).length mZ] 25 (0, 0)) ∧ DiskIn w5 (.agg #[.int .i64 (resC count r), .slice pZ (resD r).length kZ, .slice qZ (resW r).length mZ]) (resC count r) (resD r) (resW r) ∧ Below wc.heap.size wc w5)
      case first =>
        refine wp_region_noPanic ?_
        refine wp_region_held_drew (S := (fun w' => (w'.cell? ⟨B, 0, none⟩ = some (.int .i64 count) ∧ w'.cell? ⟨B, 1, none⟩ = some (.slice pY d1.length kY) ∧ w'.cell? ⟨B, 2, none⟩ = some (.slice qY w1'.length mY)) ∧ Hid (Below wc.heap.size wc w'))) (by kernel_rfl) HS2 (fun hS0 => ?_)
        clear HS2
        refine takeH 0 58 (v := ?_) rfl rfl (by kernel_rfl) (by kernel_rfl) (by kernel_rfl) (fun _ _ _ h => h) (by rfl) ?_ (by assumption) ?_
        rotate_left
        · intro w hSw; go_simp; first | done | with_reducible rfl
        simp only [Act.put, List.setIfInBounds_toArray, List.set_cons_zero, List.set_cons_succ]
        refine takeH 1 59 (v := ?_) rfl rfl (by kernel_rfl) (by kernel_rfl) (by kernel_rfl) (fun _ _ _ h => h) (by rfl) ?_ (by assumption) ?_
        rotate_left
        · intro w hSw; go_simp; first | done | with_reducible rfl
        simp only [Act.put, List.setIfInBounds_toArray, List.set_cons_zero, List.set_cons_succ]
        refine takeH 2 60 (v := ?_) rfl rfl (by kernel_rfl) (by kernel_rfl) (by kernel_rfl) (fun _ _ _ h => h) (by rfl) ?_ (by assumption) ?_
        rotate_left
        · intro w hSw; go_simp; first | done | with_reducible rfl
        simp only [Act.put, List.setIfInBounds_toArray, List.set_cons_zero, List.set_cons_succ]
        refine takeH 3 61 (v := ?_) rfl rfl (by kernel_rfl) (by kernel_rfl) (by kernel_rfl) (fun _ _ _ h => h) (by rfl) ?_ (by assumption) ?_
        rotate_left
        · intro w hSw; go_simp; first | done | with_reducible rfl
        simp only [Act.put, List.setIfInBounds_toArray, List.set_cons_zero, List.set_cons_succ]
        refine wpAnyH_ready (rs := [4, 8]) (by kernel_rfl) (by simp) ?_
        refine AllReadyH.cons rfl (fun K hK => ?_) (AllReadyH.cons rfl (fun K hK => ?_) AllReadyH.nil)
        · go_simp
          refine (do_all _ count d1 w1' _ (HDY.out.below hS0.2.out) A2 (l.length - k) (ml - k) (l.drop k) HKD.out (HA2.out.below hS0.2.out) (by simp; omega) r HR2.out).mono ?_
          rintro e ww1 ⟨⟨v', rfl, hf'⟩, hb1⟩
          obtain ⟨pZ, kZ, qZ, mZ, rfl, _⟩ := hf'.self.parts
          go_simp
          refine hK.out _ _ (keepS (Nat.le_refl _) hS0 hb1) (fun hS1 => ?_)
          clear hK K
          refine takeH 5 57 (v := ?_) rfl rfl (by kernel_rfl) (by kernel_rfl) (by kernel_rfl) (fun _ _ _ h => h) (by rfl) ?_ (by assumption) ?_
          rotate_left
          · intro w hSw; go_simp; first | done | with_reducible rfl
          simp only [Act.put, List.setIfInBounds_toArray, List.set_cons_zero, List.set_cons_succ]
          refine takeH 6 63 (v := ?_) rfl rfl (by kernel_rfl) (by kernel_rfl) (by kernel_rfl) (fun _ _ _ h => h) (by rfl) ?_ (by assumption) ?_
          rotate_left
          · intro w hSw; go_simp; first | done | with_reducible rfl
          simp only [Act.put, List.setIfInBounds_toArray, List.set_cons_zero, List.set_cons_succ]
          refine takeH 7 64 (v := ?_) rfl rfl (by kernel_rfl) (by kernel_rfl) (by kernel_rfl) (fun _ _ _ h => h) (by rfl) ?_ (by assumption) ?_
          rotate_left
          · intro w hSw; go_simp; first | done | with_reducible rfl
          simp only [Act.put, List.setIfInBounds_toArray, List.set_cons_zero, List.set_cons_succ]
          refine wpAnyH_ready (rs := [8]) (by kernel_rfl) (by simp) ?_
          refine AllReadyH.cons rfl (fun K hK => ?_) AllReadyH.nil
          have hb2 := below_alloc ww1 (.cells #[.int .i64 0, .slice none 0 0, .slice none 0 0] 25)
          go_simp
          refine hK.out _ _ (keepS (Nat.le_refl _) hS1 hb2) (fun hS2 => ?_)
          clear hK K
          refine wpAnyH_ready (rs := [9]) (by kernel_rfl) (by simp) ?_
          refine AllReadyH.cons rfl (fun K hK => ?_) AllReadyH.nil
          go_simp
          refine hK.out _ _ (keepA (Nat.le_refl _) hS1 _) (fun hSz => ?_)
          clear hK K
          refine takeH 10 13 (v := ?_) rfl rfl (by kernel_rfl) (by kernel_rfl) (by kernel_rfl) (fun _ _ _ h => h) (by rfl) ?_ (by assumption) ?_
          rotate_left
          · intro w hSw; go_simp; first | done | with_reducible rfl
          simp only [Act.put, List.setIfInBounds_toArray, List.set_cons_zero, List.set_cons_succ]
          refine wpAnyH_done (by kernel_rfl) (NoPanic.normal ?_) _
          go_wp2
          go_meet
          case rel =>
            exact ⟨_, pZ, kZ, qZ, mZ, rfl, rfl, heap_alloc_new _ _, hf'.below (below_alloc _ _), hSz.2.out⟩
        · have hb1 := below_alloc wc.drew (.cells #[.int .i64 0, .slice none 0 0, .slice none 0 0] 25)
          go_simp
          refine hK.out _ _ (keepS (Nat.le_refl _) hS0 hb1) (fun hS1 => ?_)
          clear hK K
          refine wpAnyH_ready (rs := [4]) (by kernel_rfl) (by simp) ?_
          refine AllReadyH.cons rfl (fun K hK => ?_) AllReadyH.nil
          go_simp
          refine (do_all _ count d1 w1' _ (HDY.out.below hS1.2.out) A2 (l.length - k) (ml - k) (l.drop k) HKD.out (HA2.out.below hS1.2.out) (by simp; omega) r HR2.out).mono ?_
          rintro e ww2 ⟨⟨v', rfl, hf'⟩, hb2⟩
          obtain ⟨pZ, kZ, qZ, mZ, rfl, _⟩ := hf'.self.parts
          go_simp
          refine hK.out _ _ (keepS (Nat.le_refl _) hS1 hb2) (fun hS2 => ?_)
          clear hK K
          refine takeH 5 57 (v := ?_) rfl rfl (by kernel_rfl) (by kernel_rfl) (by kernel_rfl) (fun _ _ _ h => h) (by rfl) ?_ (by assumption) ?_
          rotate_left
          · intro w hSw; go_simp; first | done | with_reducible rfl
          simp only [Act.put, List.setIfInBounds_toArray, List.set_cons_zero, List.set_cons_succ]
          refine takeH 6 63 (v := ?_) rfl rfl (by kernel_rfl) (by kernel_rfl) (by kernel_rfl) (fun _ _ _ h => h) (by rfl) ?_ (by assumption) ?_
          rotate_left
          · intro w hSw; go_simp; first | done | with_reducible rfl
          simp only [Act.put, List.setIfInBounds_toArray, List.set_cons_zero, List.set_cons_succ]
          refine takeH 7 64 (v := ?_) rfl rfl (by kernel_rfl) (by kernel_rfl) (by kernel_rfl) (fun _ _ _ h => h) (by rfl) ?_ (by assumption) ?_
          rotate_left
          · intro w hSw; go_simp; first | done | with_reducible rfl
          simp only [Act.put, List.setIfInBounds_toArray, List.set_cons_zero, List.set_cons_succ]
          refine wpAnyH_ready (rs := [9]) (by kernel_rfl) (by simp) ?_
          refine AllReadyH.cons rfl (fun K hK => ?_) AllReadyH.nil
          have hZ : ww2.heap[wc.heap.size]? = some (.cells #[.int .i64 0, .slice none 0 0, .slice none 0 0] 25 (0, 0)) := ((hb2).block _ (by first | (rw [World.size_alloc]; exact Nat.lt_succ_self _) | (show _ < (World.alloc _ _).heap.size; rw [World.size_alloc]; exact Nat.lt_succ_self _))).trans (heap_alloc_new _ _)
          obtain ⟨z0, z1, z2⟩ := cells3 hZ
          obtain ⟨y0, y1, y2⟩ := free3 hZ
          have HZ : Hid _ := hZ
          clear hZ
          have szB := hS0.2.out.size
          have szX := lt_heap HYB.out
          go_simp
          refine hK.out _ _ (keep3 hS2 ⟨Nat.ne_of_lt (Nat.lt_of_lt_of_le szX szB), szB⟩ _ _ _) (fun hSz => ?_)
          clear hK K
          refine takeH 10 13 (v := ?_) rfl rfl (by kernel_rfl) (by kernel_rfl) (by kernel_rfl) (fun _ _ _ h => h) (by rfl) ?_ (by assumption) ?_
          rotate_left
          · intro w hSw; go_simp; first | done | with_reducible rfl
          simp only [Act.put, List.setIfInBounds_toArray, List.set_cons_zero, List.set_cons_succ]
          refine wpAnyH_done (by kernel_rfl) (NoPanic.normal ?_) _
          go_wp2
          go_meet
          case rel =>
            exact ⟨_, pZ, kZ, qZ, mZ, rfl, rfl, set3_same _ _ _ _ _ _ _ _ _ HZ.out, hf'.set3 (by first | (rw [World.size_alloc]; exact Nat.lt_succ_self _) | (show _ < (World.alloc _ _).heap.size; rw [World.size_alloc]; exact Nat.lt_succ_self _)) _ _ _, hSz.2.out⟩
      case rest =>
        obtain ⟨BZ, pZ, kZ, qZ, mZ, rfl, rfl, hzb, hzd, hb6⟩ := hcut
        have HZB : Hid (wc.heap[BZ]? = some (.cells #[.int .i64 (resC count r), .slice pZ (resD r).length kZ, .slice qZ (resW r).length mZ] 25 (0, 0))) := hzb
        have HDZ : Hid (DiskIn wc (.agg #[.int .i64 (resC count r), .slice pZ (resD r).length kZ, .slice qZ (resW r).length mZ]) (resC count r) (resD r) (resW r)) := hzd
        clear hzb hzd HS2 HA2
        have HXB2 : Hid (wc.heap[w3.heap.size]? = some (.cells #[.int .i64 (resC count r), .slice pX (resD r).length kX, .slice qX (resW r).length mX] 25 (0, 0))) := (hb6.block _ (lt_heap HXB.out)).trans HXB.out
        have HDX2 := HDX.out.below hb6
        have hbf := below_bt hbc hb6
        obtain ⟨x0, x1, x2⟩ := cells3 HXB2.out
        obtain ⟨z0, z1, z2⟩ := cells3 HZB.out
        have hee : (resE r == resE r) = true := by simp
        have HX3 : Hid _ := HDX2
        clear HDX2 HXB HXB2 HDX
        go_wp2_with fail
        refine (same_any _ _ _ _ _ _ _ _ _ HX3.out HDZ.out true ⟨fun _ => ⟨rfl, rfl, rfl⟩, fun _ => rfl⟩).mono ?_
        rintro e w9 ⟨rfl, hb9⟩
        go_wp2
        go_ret
        exact ⟨rfl, below_bt hbf hb9⟩
set_option maxRecDepth 4000 in
set_option maxHeartbeats 8000000 in
theorem walk_null (v : Value) (count : Int) (data : List Nat) (ws : Puts)  (w : World) (hd : DiskIn w v count data ws) (hl : ¬ largeN count data ws) :
    Calls Try.prog 8 #[v, .slice none 0 0, .int .i64 0] w fun e w' => e = .returned (.bool true) ∧ Below w.heap.size w w' := by
  obtain ⟨p, c, q, m, rfl, hbD, hcD, _, _, hqp, hqm, hqmm, _⟩ := hd.parts
  have HD0 : Hid _ := hd
  clear hd hbD hqp
  go_enter Try.func8, Try.ntmps8
  go_wp2_with fail
  refine (alive_any _).mono ?_
  rintro e w1 ⟨rfl, hb1⟩
  have HB : Hid (w1.heap[w.heap.size]? = some (.cells #[.int .i64 count, .slice p data.length c, .slice q ws.length m] 25 (0, 0))) := (hb1.block _ (by rw [World.size_alloc]; exact Nat.lt_succ_self _)).trans (heap_alloc_new w _)
  have hbc : Below w.heap.size w w1 := below_bt (below_alloc w _) hb1
  have HD : Hid (DiskIn w1 (.agg #[.int .i64 count, .slice p data.length c, .slice q ws.length m]) count data ws) := HD0.out.below hbc
  clear HD0 hb1
  obtain ⟨x0, x1, x2⟩ := cells3 HB.out
  have xlt := lt_heap HB.out
  go_wp2_with fail
  refine (large_any _ count data ws _ HD.out).mono ?_
  rintro e w2 ⟨rfl, hb2⟩
  rw [decide_eq_false hl]
  clear x0 x1 x2 xlt
  have bb1 : Below w1.heap.size w1 w2 := hb2
  replace HB : Hid (w2.heap[w.heap.size]? = some (.cells #[.int .i64 count, .slice p data.length c, .slice q ws.length m] 25 (0, 0))) := (bb1.block _ (lt_heap HB.out)).trans HB.out
  replace HD : Hid (DiskIn w2 (.agg #[.int .i64 count, .slice p data.length c, .slice q ws.length m]) count data ws) := HD.out.below bb1
  replace hbc : Below w.heap.size w w2 := below_bt hbc bb1
  clear bb1 hb2
  obtain ⟨x0, x1, x2⟩ := cells3 HB.out
  have xlt := lt_heap HB.out
  go_wp2_with fail
  obtain ⟨r, hr⟩ : ∃ r, doAny count data ws [] = r := ⟨_, rfl⟩
  have HR : Hid (doAny count data ws [] = r) := hr
  clear hr
  refine (do_all _ count data ws _ HD.out none 0 0 [] rfl (nil_acts _ _) (by simp) r HR.out).mono ?_
  rintro e w3 ⟨⟨v3, rfl, hf3⟩, hb3⟩
  have hnx := hf3.self
  obtain ⟨pX, kX, qX, mX, rfl, _⟩ := hnx.parts
  clear x0 x1 x2 xlt hf3
  have bb2 : Below w2.heap.size w2 w3 := hb3
  replace HB : Hid (w3.heap[w.heap.size]? = some (.cells #[.int .i64 count, .slice p data.length c, .slice q ws.length m] 25 (0, 0))) := (bb2.block _ (lt_heap HB.out)).trans HB.out
  replace HD : Hid (DiskIn w3 (.agg #[.int .i64 count, .slice p data.length c, .slice q ws.length m]) count data ws) := HD.out.below bb2
  replace hbc : Below w.heap.size w w3 := below_bt hbc bb2
  clear bb2 hb3
  have HDX : Hid (DiskIn w3 (.agg #[.int .i64 (resC count r), .slice pX (resD r).length kX, .slice qX (resW r).length mX]) (resC count r) (resD r) (resW r)) := hnx
  clear hnx
  go_wp2
  obtain ⟨W, hW⟩ : ∃ W, W = w3.alloc (.cells #[.int .i64 (resC count r), .slice pX (resD r).length kX, .slice qX (resW r).length mX] 25) := ⟨_, rfl⟩
  have hbW := below_alloc w3 (.cells #[.int .i64 (resC count r), .slice pX (resD r).length kX, .slice qX (resW r).length mX] 25)
  have HXB : Hid (W.heap[w3.heap.size]? = some (.cells #[.int .i64 (resC count r), .slice pX (resD r).length kX, .slice qX (resW r).length mX] 25 (0, 0))) := by rw [hW]; exact heap_alloc_new _ _
  rw [← hW] at hbW ⊢
  clear hW
  have bb3 : Below w3.heap.size w3 W := hbW
  replace HB : Hid (W.heap[w.heap.size]? = some (.cells #[.int .i64 count, .slice p data.length c, .slice q ws.length m] 25 (0, 0))) := (bb3.block _ (lt_heap HB.out)).trans HB.out
  replace HD : Hid (DiskIn W (.agg #[.int .i64 count, .slice p data.length c, .slice q ws.length m]) count data ws) := HD.out.below bb3
  replace HDX : Hid (DiskIn W (.agg #[.int .i64 (resC count r), .slice pX (resD r).length kX, .slice qX (resW r).length mX]) (resC count r) (resD r) (resW r)) := HDX.out.below bb3
  replace hbc : Below w.heap.size w W := below_bt hbc bb3
  clear bb3 hbW
  obtain ⟨r1, hr1⟩ : ∃ r1, doAny count data ws [] = r1 := ⟨_, rfl⟩
  have HR1 : Hid (doAny count data ws [] = r1) := hr1
  clear hr1
  have HS1 : (W.drew.cell? ⟨w.heap.size, 0, none⟩ = some (.int .i64 count) ∧ W.drew.cell? ⟨w.heap.size, 1, none⟩ = some (.slice p data.length c) ∧ W.drew.cell? ⟨w.heap.size, 2, none⟩ = some (.slice q ws.length m)) ∧ Hid (Below W.heap.size W W.drew) := ⟨cells3 HB.out, (Below.refl _ _).drew⟩
  go_cut [10, 11] from 14 (fun s10 s11 w5 => ∃ B pY kY qY mY, s10 = .pointer (some ⟨B, 0, none⟩) ∧ s11 = .int .i64 (resE r1) ∧ w5.heap[B]? = some (.cells #[.int .i64 (resC count r1), .slice pY (resD r1).length kY, .slice qY (resW r1).length mY] 25 (0, 0)) ∧ DiskIn w5 (.agg #[.int .i64 (resC count r1), .slice pY (resD r1).length kY, .slice qY (resW r1).length mY]) (resC count r1) (resD r1) (resW r1) ∧ Below W.heap.size W w5)
  case first =>
    refine wp_region_noPanic ?_
    refine wp_region_held_drew (S := (fun w' => (w'.cell? ⟨w.heap.size, 0, none⟩ = some (.int .i64 count) ∧ w'.cell? ⟨w.heap.size, 1, none⟩ = some (.slice p data.length c) ∧ w'.cell? ⟨w.heap.size, 2, none⟩ = some (.slice q ws.length m)) ∧ Hid (Below W.heap.size W w'))) (by kernel_rfl) HS1 (fun hS0 => ?_)
    clear HS1
    refine takeH 0 42 (v := ?_) rfl rfl (by kernel_rfl) (by kernel_rfl) (by kernel_rfl) (fun _ _ _ h => h) (by rfl) ?_ (by assumption) ?_
    rotate_left
    · intro w hSw; go_simp; first | done | with_reducible rfl
    simp only [Act.put, List.setIfInBounds_toArray, List.set_cons_zero, List.set_cons_succ]
    refine takeH 1 43 (v := ?_) rfl rfl (by kernel_rfl) (by kernel_rfl) (by kernel_rfl) (fun _ _ _ h => h) (by rfl) ?_ (by assumption) ?_
    rotate_left
    · intro w hSw; go_simp; first | done | with_reducible rfl
    simp only [Act.put, List.setIfInBounds_toArray, List.set_cons_zero, List.set_cons_succ]
    refine takeH 2 44 (v := ?_) rfl rfl (by kernel_rfl) (by kernel_rfl) (by kernel_rfl) (fun _ _ _ h => h) (by rfl) ?_ (by assumption) ?_
    rotate_left
    · intro w hSw; go_simp; first | done | with_reducible rfl
    simp only [Act.put, List.setIfInBounds_toArray, List.set_cons_zero, List.set_cons_succ]
    refine takeH 3 45 (v := ?_) rfl rfl (by kernel_rfl) (by kernel_rfl) (by kernel_rfl) (fun _ _ _ h => h) (by rfl) ?_ (by assumption) ?_
    rotate_left
    · intro w hSw; go_simp; first | done | with_reducible rfl
    simp only [Act.put, List.setIfInBounds_toArray, List.set_cons_zero, List.set_cons_succ]
    refine wpAnyH_ready (rs := [4, 8]) (by kernel_rfl) (by simp) ?_
    refine AllReadyH.cons rfl (fun K hK => ?_) (AllReadyH.cons rfl (fun K hK => ?_) AllReadyH.nil)
    · go_simp
      refine (do_all _ count data ws _ (HD.out.below hS0.2.out) _ 0 _ [] rfl (nil_acts _ _) (by simp) r1 HR1.out).mono ?_
      rintro e ww1 ⟨⟨v', rfl, hf'⟩, hb1⟩
      obtain ⟨pY, kY, qY, mY, rfl, _⟩ := hf'.self.parts
      go_simp
      refine hK.out _ _ (keepS (Nat.le_refl _) hS0 hb1) (fun hS1 => ?_)
      clear hK K
      refine takeH 5 41 (v := ?_) rfl rfl (by kernel_rfl) (by kernel_rfl) (by kernel_rfl) (fun _ _ _ h => h) (by rfl) ?_ (by assumption) ?_
      rotate_left
      · intro w hSw; go_simp; first | done | with_reducible rfl
      simp only [Act.put, List.setIfInBounds_toArray, List.set_cons_zero, List.set_cons_succ]
      refine takeH 6 47 (v := ?_) rfl rfl (by kernel_rfl) (by kernel_rfl) (by kernel_rfl) (fun _ _ _ h => h) (by rfl) ?_ (by assumption) ?_
      rotate_left
      · intro w hSw; go_simp; first | done | with_reducible rfl
      simp only [Act.put, List.setIfInBounds_toArray, List.set_cons_zero, List.set_cons_succ]
      refine takeH 7 48 (v := ?_) rfl rfl (by kernel_rfl) (by kernel_rfl) (by kernel_rfl) (fun _ _ _ h => h) (by rfl) ?_ (by assumption) ?_
      rotate_left
      · intro w hSw; go_simp; first | done | with_reducible rfl
      simp only [Act.put, List.setIfInBounds_toArray, List.set_cons_zero, List.set_cons_succ]
      refine wpAnyH_ready (rs := [8]) (by kernel_rfl) (by simp) ?_
      refine AllReadyH.cons rfl (fun K hK => ?_) AllReadyH.nil
      have hb2 := below_alloc ww1 (.cells #[.int .i64 0, .slice none 0 0, .slice none 0 0] 25)
      go_simp
      refine hK.out _ _ (keepS (Nat.le_refl _) hS1 hb2) (fun hS2 => ?_)
      clear hK K
      refine wpAnyH_ready (rs := [9]) (by kernel_rfl) (by simp) ?_
      refine AllReadyH.cons rfl (fun K hK => ?_) AllReadyH.nil
      go_simp
      refine hK.out _ _ (keepA (Nat.le_refl _) hS1 _) (fun hSz => ?_)
      clear hK K
      refine takeH 10 11 (v := ?_) rfl rfl (by kernel_rfl) (by kernel_rfl) (by kernel_rfl) (fun _ _ _ h => h) (by rfl) ?_ (by assumption) ?_
      rotate_left
      · intro w hSw; go_simp; first | done | with_reducible rfl
      simp only [Act.put, List.setIfInBounds_toArray, List.set_cons_zero, List.set_cons_succ]
      refine wpAnyH_done (by kernel_rfl) (NoPanic.normal ?_) _
      go_wp2
      go_meet
      case rel =>
        exact ⟨_, pY, kY, qY, mY, rfl, rfl, heap_alloc_new _ _, hf'.below (below_alloc _ _), hSz.2.out⟩
    · have hb1 := below_alloc W.drew (.cells #[.int .i64 0, .slice none 0 0, .slice none 0 0] 25)
      go_simp
      refine hK.out _ _ (keepS (Nat.le_refl _) hS0 hb1) (fun hS1 => ?_)
      clear hK K
      refine wpAnyH_ready (rs := [4]) (by kernel_rfl) (by simp) ?_
      refine AllReadyH.cons rfl (fun K hK => ?_) AllReadyH.nil
      go_simp
      refine (do_all _ count data ws _ (HD.out.below hS1.2.out) _ 0 _ [] rfl (nil_acts _ _) (by simp) r1 HR1.out).mono ?_
      rintro e ww2 ⟨⟨v', rfl, hf'⟩, hb2⟩
      obtain ⟨pY, kY, qY, mY, rfl, _⟩ := hf'.self.parts
      go_simp
      refine hK.out _ _ (keepS (Nat.le_refl _) hS1 hb2) (fun hS2 => ?_)
      clear hK K
      refine takeH 5 41 (v := ?_) rfl rfl (by kernel_rfl) (by kernel_rfl) (by kernel_rfl) (fun _ _ _ h => h) (by rfl) ?_ (by assumption) ?_
      rotate_left
      · intro w hSw; go_simp; first | done | with_reducible rfl
      simp only [Act.put, List.setIfInBounds_toArray, List.set_cons_zero, List.set_cons_succ]
      refine takeH 6 47 (v := ?_) rfl rfl (by kernel_rfl) (by kernel_rfl) (by kernel_rfl) (fun _ _ _ h => h) (by rfl) ?_ (by assumption) ?_
      rotate_left
      · intro w hSw; go_simp; first | done | with_reducible rfl
      simp only [Act.put, List.setIfInBounds_toArray, List.set_cons_zero, List.set_cons_succ]
      refine takeH 7 48 (v := ?_) rfl rfl (by kernel_rfl) (by kernel_rfl) (by kernel_rfl) (fun _ _ _ h => h) (by rfl) ?_ (by assumption) ?_
      rotate_left
      · intro w hSw; go_simp; first | done | with_reducible rfl
      simp only [Act.put, List.setIfInBounds_toArray, List.set_cons_zero, List.set_cons_succ]
      refine wpAnyH_ready (rs := [9]) (by kernel_rfl) (by simp) ?_
      refine AllReadyH.cons rfl (fun K hK => ?_) AllReadyH.nil
      have hZ : ww2.heap[W.heap.size]? = some (.cells #[.int .i64 0, .slice none 0 0, .slice none 0 0] 25 (0, 0)) := ((hb2).block _ (by first | (rw [World.size_alloc]; exact Nat.lt_succ_self _) | (show _ < (World.alloc _ _).heap.size; rw [World.size_alloc]; exact Nat.lt_succ_self _))).trans (heap_alloc_new _ _)
      obtain ⟨z0, z1, z2⟩ := cells3 hZ
      obtain ⟨y0, y1, y2⟩ := free3 hZ
      have HZ : Hid _ := hZ
      clear hZ
      have szB := hS0.2.out.size
      have szX := lt_heap HB.out
      go_simp
      refine hK.out _ _ (keep3 hS2 ⟨Nat.ne_of_lt (Nat.lt_of_lt_of_le szX szB), szB⟩ _ _ _) (fun hSz => ?_)
      clear hK K
      refine takeH 10 11 (v := ?_) rfl rfl (by kernel_rfl) (by kernel_rfl) (by kernel_rfl) (fun _ _ _ h => h) (by rfl) ?_ (by assumption) ?_
      rotate_left
      · intro w hSw; go_simp; first | done | with_reducible rfl
      simp only [Act.put, List.setIfInBounds_toArray, List.set_cons_zero, List.set_cons_succ]
      refine wpAnyH_done (by kernel_rfl) (NoPanic.normal ?_) _
      go_wp2
      go_meet
      case rel =>
        exact ⟨_, pY, kY, qY, mY, rfl, rfl, set3_same _ _ _ _ _ _ _ _ _ HZ.out, hf'.set3 (by first | (rw [World.size_alloc]; exact Nat.lt_succ_self _) | (show _ < (World.alloc _ _).heap.size; rw [World.size_alloc]; exact Nat.lt_succ_self _)) _ _ _, hSz.2.out⟩
  case rest =>
    obtain ⟨B, pY, kY, qY, mY, rfl, rfl, hyb, hyd, hb5⟩ := hcut
    have HYB : Hid (wc.heap[B]? = some (.cells #[.int .i64 (resC count r1), .slice pY (resD r1).length kY, .slice qY (resW r1).length mY] 25 (0, 0))) := hyb
    have HDY : Hid (DiskIn wc (.agg #[.int .i64 (resC count r1), .slice pY (resD r1).length kY, .slice qY (resW r1).length mY]) (resC count r1) (resD r1) (resW r1)) := hyd
    clear hyb hyd HS1
    have bb4 : Below W.heap.size W wc := hb5
    replace HB : Hid (wc.heap[w.heap.size]? = some (.cells #[.int .i64 count, .slice p data.length c, .slice q ws.length m] 25 (0, 0))) := (bb4.block _ (lt_heap HB.out)).trans HB.out
    replace HD : Hid (DiskIn wc (.agg #[.int .i64 count, .slice p data.length c, .slice q ws.length m]) count data ws) := HD.out.below bb4
    replace HDX : Hid (DiskIn wc (.agg #[.int .i64 (resC count r), .slice pX (resD r).length kX, .slice qX (resW r).length mX]) (resC count r) (resD r) (resW r)) := HDX.out.below bb4
    replace HXB : Hid (wc.heap[w3.heap.size]? = some (.cells #[.int .i64 (resC count r), .slice pX (resD r).length kX, .slice qX (resW r).length mX] 25 (0, 0))) := (bb4.block _ (lt_heap HXB.out)).trans HXB.out
    replace hbc : Below w.heap.size w wc := below_bt hbc bb4
    clear bb4 hb5
    cases r1 with
    | error cc =>
      have HRR : Hid (r = .error cc) := HR.out.symm.trans (doAny_fail (l := []) (k := 0) HR1.out)
      have hcc : cc ≠ 0 := doAny_err HR1.out
      have hcb : (cc != 0) = true := by simpa using hcc
      have her : (resE r == cc) = true := by rw [HRR.out]; simp [resE]
      have hee : resE (.error cc) = cc := rfl
      rw [hee]
      clear hcc hee HRR
      go_wp2
      go_ret
      exact ⟨rfl, hbc⟩
    | ok s1 =>
      obtain ⟨d1, w1'⟩ := s1
      have HR2 : Hid (doAny count d1 w1' [] = r) := (doAny_cut (l := []) (k := 0) HR1.out).trans HR.out
      replace HYB : Hid (wc.heap[B]? = some (.cells #[.int .i64 count, .slice pY d1.length kY, .slice qY w1'.length mY] 25 (0, 0))) := HYB
      replace HDY : Hid (DiskIn wc (.agg #[.int .i64 count, .slice pY d1.length kY, .slice qY w1'.length mY]) count d1 w1') := HDY
      rw [show resE (.ok (d1, w1')) = 0 from rfl]
      have HS2 : (wc.drew.cell? ⟨B, 0, none⟩ = some (.int .i64 count) ∧ wc.drew.cell? ⟨B, 1, none⟩ = some (.slice pY d1.length kY) ∧ wc.drew.cell? ⟨B, 2, none⟩ = some (.slice qY w1'.length mY)) ∧ Hid (Below wc.heap.size wc wc.drew) := ⟨cells3 HYB.out, (Below.refl _ _).drew⟩
      clear HR1
      go_wp2
      go_cut [12, 13] from 14 (fun s12 s13 w5 => ∃ B pZ kZ qZ mZ, s12 = .pointer (some ⟨B, 0, none⟩) ∧ s13 = .int .i64 (resE r) ∧ w5.heap[B]? = some (.cells #[.int .i64 (resC count r), .slice pZ (resD r).length kZ, .slice qZ (resW r).length mZ] 25 (0, 0)) ∧ DiskIn w5 (.agg #[.int .i64 (resC count r), .slice pZ (resD r).length kZ, .slice qZ (resW r).length mZ]) (resC count r) (resD r) (resW r) ∧ Below wc.heap.size wc w5)
      case first =>
        refine wp_region_noPanic ?_
        refine wp_region_held_drew (S := (fun w' => (w'.cell? ⟨B, 0, none⟩ = some (.int .i64 count) ∧ w'.cell? ⟨B, 1, none⟩ = some (.slice pY d1.length kY) ∧ w'.cell? ⟨B, 2, none⟩ = some (.slice qY w1'.length mY)) ∧ Hid (Below wc.heap.size wc w'))) (by kernel_rfl) HS2 (fun hS0 => ?_)
        clear HS2
        refine takeH 0 58 (v := ?_) rfl rfl (by kernel_rfl) (by kernel_rfl) (by kernel_rfl) (fun _ _ _ h => h) (by rfl) ?_ (by assumption) ?_
        rotate_left
        · intro w hSw; go_simp; first | done | with_reducible rfl
        simp only [Act.put, List.setIfInBounds_toArray, List.set_cons_zero, List.set_cons_succ]
        refine takeH 1 59 (v := ?_) rfl rfl (by kernel_rfl) (by kernel_rfl) (by kernel_rfl) (fun _ _ _ h => h) (by rfl) ?_ (by assumption) ?_
        rotate_left
        · intro w hSw; go_simp; first | done | with_reducible rfl
        simp only [Act.put, List.setIfInBounds_toArray, List.set_cons_zero, List.set_cons_succ]
        refine takeH 2 60 (v := ?_) rfl rfl (by kernel_rfl) (by kernel_rfl) (by kernel_rfl) (fun _ _ _ h => h) (by rfl) ?_ (by assumption) ?_
        rotate_left
        · intro w hSw; go_simp; first | done | with_reducible rfl
        simp only [Act.put, List.setIfInBounds_toArray, List.set_cons_zero, List.set_cons_succ]
        refine takeH 3 61 (v := ?_) rfl rfl (by kernel_rfl) (by kernel_rfl) (by kernel_rfl) (fun _ _ _ h => h) (by rfl) ?_ (by assumption) ?_
        rotate_left
        · intro w hSw; go_simp; first | done | with_reducible rfl
        simp only [Act.put, List.setIfInBounds_toArray, List.set_cons_zero, List.set_cons_succ]
        refine wpAnyH_ready (rs := [4, 8]) (by kernel_rfl) (by simp) ?_
        refine AllReadyH.cons rfl (fun K hK => ?_) (AllReadyH.cons rfl (fun K hK => ?_) AllReadyH.nil)
        · go_simp
          refine (do_all _ count d1 w1' _ (HDY.out.below hS0.2.out) _ 0 _ [] rfl (nil_acts _ _) (by simp) r HR2.out).mono ?_
          rintro e ww1 ⟨⟨v', rfl, hf'⟩, hb1⟩
          obtain ⟨pZ, kZ, qZ, mZ, rfl, _⟩ := hf'.self.parts
          go_simp
          refine hK.out _ _ (keepS (Nat.le_refl _) hS0 hb1) (fun hS1 => ?_)
          clear hK K
          refine takeH 5 57 (v := ?_) rfl rfl (by kernel_rfl) (by kernel_rfl) (by kernel_rfl) (fun _ _ _ h => h) (by rfl) ?_ (by assumption) ?_
          rotate_left
          · intro w hSw; go_simp; first | done | with_reducible rfl
          simp only [Act.put, List.setIfInBounds_toArray, List.set_cons_zero, List.set_cons_succ]
          refine takeH 6 63 (v := ?_) rfl rfl (by kernel_rfl) (by kernel_rfl) (by kernel_rfl) (fun _ _ _ h => h) (by rfl) ?_ (by assumption) ?_
          rotate_left
          · intro w hSw; go_simp; first | done | with_reducible rfl
          simp only [Act.put, List.setIfInBounds_toArray, List.set_cons_zero, List.set_cons_succ]
          refine takeH 7 64 (v := ?_) rfl rfl (by kernel_rfl) (by kernel_rfl) (by kernel_rfl) (fun _ _ _ h => h) (by rfl) ?_ (by assumption) ?_
          rotate_left
          · intro w hSw; go_simp; first | done | with_reducible rfl
          simp only [Act.put, List.setIfInBounds_toArray, List.set_cons_zero, List.set_cons_succ]
          refine wpAnyH_ready (rs := [8]) (by kernel_rfl) (by simp) ?_
          refine AllReadyH.cons rfl (fun K hK => ?_) AllReadyH.nil
          have hb2 := below_alloc ww1 (.cells #[.int .i64 0, .slice none 0 0, .slice none 0 0] 25)
          go_simp
          refine hK.out _ _ (keepS (Nat.le_refl _) hS1 hb2) (fun hS2 => ?_)
          clear hK K
          refine wpAnyH_ready (rs := [9]) (by kernel_rfl) (by simp) ?_
          refine AllReadyH.cons rfl (fun K hK => ?_) AllReadyH.nil
          go_simp
          refine hK.out _ _ (keepA (Nat.le_refl _) hS1 _) (fun hSz => ?_)
          clear hK K
          refine takeH 10 13 (v := ?_) rfl rfl (by kernel_rfl) (by kernel_rfl) (by kernel_rfl) (fun _ _ _ h => h) (by rfl) ?_ (by assumption) ?_
          rotate_left
          · intro w hSw; go_simp; first | done | with_reducible rfl
          simp only [Act.put, List.setIfInBounds_toArray, List.set_cons_zero, List.set_cons_succ]
          refine wpAnyH_done (by kernel_rfl) (NoPanic.normal ?_) _
          go_wp2
          go_meet
          case rel =>
            exact ⟨_, pZ, kZ, qZ, mZ, rfl, rfl, heap_alloc_new _ _, hf'.below (below_alloc _ _), hSz.2.out⟩
        · have hb1 := below_alloc wc.drew (.cells #[.int .i64 0, .slice none 0 0, .slice none 0 0] 25)
          go_simp
          refine hK.out _ _ (keepS (Nat.le_refl _) hS0 hb1) (fun hS1 => ?_)
          clear hK K
          refine wpAnyH_ready (rs := [4]) (by kernel_rfl) (by simp) ?_
          refine AllReadyH.cons rfl (fun K hK => ?_) AllReadyH.nil
          go_simp
          refine (do_all _ count d1 w1' _ (HDY.out.below hS1.2.out) _ 0 _ [] rfl (nil_acts _ _) (by simp) r HR2.out).mono ?_
          rintro e ww2 ⟨⟨v', rfl, hf'⟩, hb2⟩
          obtain ⟨pZ, kZ, qZ, mZ, rfl, _⟩ := hf'.self.parts
          go_simp
          refine hK.out _ _ (keepS (Nat.le_refl _) hS1 hb2) (fun hS2 => ?_)
          clear hK K
          refine takeH 5 57 (v := ?_) rfl rfl (by kernel_rfl) (by kernel_rfl) (by kernel_rfl) (fun _ _ _ h => h) (by rfl) ?_ (by assumption) ?_
          rotate_left
          · intro w hSw; go_simp; first | done | with_reducible rfl
          simp only [Act.put, List.setIfInBounds_toArray, List.set_cons_zero, List.set_cons_succ]
          refine takeH 6 63 (v := ?_) rfl rfl (by kernel_rfl) (by kernel_rfl) (by kernel_rfl) (fun _ _ _ h => h) (by rfl) ?_ (by assumption) ?_
          rotate_left
          · intro w hSw; go_simp; first | done | with_reducible rfl
          simp only [Act.put, List.setIfInBounds_toArray, List.set_cons_zero, List.set_cons_succ]
          refine takeH 7 64 (v := ?_) rfl rfl (by kernel_rfl) (by kernel_rfl) (by kernel_rfl) (fun _ _ _ h => h) (by rfl) ?_ (by assumption) ?_
          rotate_left
          · intro w hSw; go_simp; first | done | with_reducible rfl
          simp only [Act.put, List.setIfInBounds_toArray, List.set_cons_zero, List.set_cons_succ]
          refine wpAnyH_ready (rs := [9]) (by kernel_rfl) (by simp) ?_
          refine AllReadyH.cons rfl (fun K hK => ?_) AllReadyH.nil
          have hZ : ww2.heap[wc.heap.size]? = some (.cells #[.int .i64 0, .slice none 0 0, .slice none 0 0] 25 (0, 0)) := ((hb2).block _ (by first | (rw [World.size_alloc]; exact Nat.lt_succ_self _) | (show _ < (World.alloc _ _).heap.size; rw [World.size_alloc]; exact Nat.lt_succ_self _))).trans (heap_alloc_new _ _)
          obtain ⟨z0, z1, z2⟩ := cells3 hZ
          obtain ⟨y0, y1, y2⟩ := free3 hZ
          have HZ : Hid _ := hZ
          clear hZ
          have szB := hS0.2.out.size
          have szX := lt_heap HYB.out
          go_simp
          refine hK.out _ _ (keep3 hS2 ⟨Nat.ne_of_lt (Nat.lt_of_lt_of_le szX szB), szB⟩ _ _ _) (fun hSz => ?_)
          clear hK K
          refine takeH 10 13 (v := ?_) rfl rfl (by kernel_rfl) (by kernel_rfl) (by kernel_rfl) (fun _ _ _ h => h) (by rfl) ?_ (by assumption) ?_
          rotate_left
          · intro w hSw; go_simp; first | done | with_reducible rfl
          simp only [Act.put, List.setIfInBounds_toArray, List.set_cons_zero, List.set_cons_succ]
          refine wpAnyH_done (by kernel_rfl) (NoPanic.normal ?_) _
          go_wp2
          go_meet
          case rel =>
            exact ⟨_, pZ, kZ, qZ, mZ, rfl, rfl, set3_same _ _ _ _ _ _ _ _ _ HZ.out, hf'.set3 (by first | (rw [World.size_alloc]; exact Nat.lt_succ_self _) | (show _ < (World.alloc _ _).heap.size; rw [World.size_alloc]; exact Nat.lt_succ_self _)) _ _ _, hSz.2.out⟩
      case rest =>
        obtain ⟨BZ, pZ, kZ, qZ, mZ, rfl, rfl, hzb, hzd, hb6⟩ := hcut
        have HZB : Hid (wc.heap[BZ]? = some (.cells #[.int .i64 (resC count r), .slice pZ (resD r).length kZ, .slice qZ (resW r).length mZ] 25 (0, 0))) := hzb
        have HDZ : Hid (DiskIn wc (.agg #[.int .i64 (resC count r), .slice pZ (resD r).length kZ, .slice qZ (resW r).length mZ]) (resC count r) (resD r) (resW r)) := hzd
        clear hzb hzd HS2
        have HXB2 : Hid (wc.heap[w3.heap.size]? = some (.cells #[.int .i64 (resC count r), .slice pX (resD r).length kX, .slice qX (resW r).length mX] 25 (0, 0))) := (hb6.block _ (lt_heap HXB.out)).trans HXB.out
        have HDX2 := HDX.out.below hb6
        have hbf := below_bt hbc hb6
        obtain ⟨x0, x1, x2⟩ := cells3 HXB2.out
        obtain ⟨z0, z1, z2⟩ := cells3 HZB.out
        have hee : (resE r == resE r) = true := by simp
        have HX3 : Hid _ := HDX2
        clear HDX2 HXB HXB2 HDX
        go_wp2_with fail
        refine (same_any _ _ _ _ _ _ _ _ _ HX3.out HDZ.out true ⟨fun _ => ⟨rfl, rfl, rfl⟩, fun _ => rfl⟩).mono ?_
        rintro e w9 ⟨rfl, hb9⟩
        go_wp2
        go_ret
        exact ⟨rfl, below_bt hbf hb9⟩
set_option maxRecDepth 4000 in
set_option maxHeartbeats 8000000 in
theorem walk_void (v : Value) (count : Int) (data : List Nat) (ws : Puts) (ad : Addr) (ml : Nat) (w : World) (hd : DiskIn w v count data ws) (hl : ¬ largeN count data ws) :
    Calls Try.prog 8 #[v, .slice (some ad) 0 ml, .int .i64 0] w fun e w' => e = .returned (.bool true) ∧ Below w.heap.size w w' := by
  obtain ⟨p, c, q, m, rfl, hbD, hcD, _, _, hqp, hqm, hqmm, _⟩ := hd.parts
  have HD0 : Hid _ := hd
  clear hd hbD hqp
  go_enter Try.func8, Try.ntmps8
  go_wp2_with fail
  refine (alive_any _).mono ?_
  rintro e w1 ⟨rfl, hb1⟩
  have HB : Hid (w1.heap[w.heap.size]? = some (.cells #[.int .i64 count, .slice p data.length c, .slice q ws.length m] 25 (0, 0))) := (hb1.block _ (by rw [World.size_alloc]; exact Nat.lt_succ_self _)).trans (heap_alloc_new w _)
  have hbc : Below w.heap.size w w1 := below_bt (below_alloc w _) hb1
  have HD : Hid (DiskIn w1 (.agg #[.int .i64 count, .slice p data.length c, .slice q ws.length m]) count data ws) := HD0.out.below hbc
  clear HD0 hb1
  obtain ⟨x0, x1, x2⟩ := cells3 HB.out
  have xlt := lt_heap HB.out
  go_wp2_with fail
  refine (large_any _ count data ws _ HD.out).mono ?_
  rintro e w2 ⟨rfl, hb2⟩
  rw [decide_eq_false hl]
  clear x0 x1 x2 xlt
  have bb1 : Below w1.heap.size w1 w2 := hb2
  replace HB : Hid (w2.heap[w.heap.size]? = some (.cells #[.int .i64 count, .slice p data.length c, .slice q ws.length m] 25 (0, 0))) := (bb1.block _ (lt_heap HB.out)).trans HB.out
  replace HD : Hid (DiskIn w2 (.agg #[.int .i64 count, .slice p data.length c, .slice q ws.length m]) count data ws) := HD.out.below bb1
  replace hbc : Below w.heap.size w w2 := below_bt hbc bb1
  clear bb1 hb2
  obtain ⟨x0, x1, x2⟩ := cells3 HB.out
  have xlt := lt_heap HB.out
  go_wp2_with fail
  obtain ⟨r, hr⟩ : ∃ r, doAny count data ws [] = r := ⟨_, rfl⟩
  have HR : Hid (doAny count data ws [] = r) := hr
  clear hr
  refine (do_all _ count data ws _ HD.out (some ad) 0 ml [] rfl (nil_acts _ _) (by simp) r HR.out).mono ?_
  rintro e w3 ⟨⟨v3, rfl, hf3⟩, hb3⟩
  have hnx := hf3.self
  obtain ⟨pX, kX, qX, mX, rfl, _⟩ := hnx.parts
  clear x0 x1 x2 xlt hf3
  have bb2 : Below w2.heap.size w2 w3 := hb3
  replace HB : Hid (w3.heap[w.heap.size]? = some (.cells #[.int .i64 count, .slice p data.length c, .slice q ws.length m] 25 (0, 0))) := (bb2.block _ (lt_heap HB.out)).trans HB.out
  replace HD : Hid (DiskIn w3 (.agg #[.int .i64 count, .slice p data.length c, .slice q ws.length m]) count data ws) := HD.out.below bb2
  replace hbc : Below w.heap.size w w3 := below_bt hbc bb2
  clear bb2 hb3
  have HDX : Hid (DiskIn w3 (.agg #[.int .i64 (resC count r), .slice pX (resD r).length kX, .slice qX (resW r).length mX]) (resC count r) (resD r) (resW r)) := hnx
  clear hnx
  go_wp2
  obtain ⟨W, hW⟩ : ∃ W, W = w3.alloc (.cells #[.int .i64 (resC count r), .slice pX (resD r).length kX, .slice qX (resW r).length mX] 25) := ⟨_, rfl⟩
  have hbW := below_alloc w3 (.cells #[.int .i64 (resC count r), .slice pX (resD r).length kX, .slice qX (resW r).length mX] 25)
  have HXB : Hid (W.heap[w3.heap.size]? = some (.cells #[.int .i64 (resC count r), .slice pX (resD r).length kX, .slice qX (resW r).length mX] 25 (0, 0))) := by rw [hW]; exact heap_alloc_new _ _
  rw [← hW] at hbW ⊢
  clear hW
  have bb3 : Below w3.heap.size w3 W := hbW
  replace HB : Hid (W.heap[w.heap.size]? = some (.cells #[.int .i64 count, .slice p data.length c, .slice q ws.length m] 25 (0, 0))) := (bb3.block _ (lt_heap HB.out)).trans HB.out
  replace HD : Hid (DiskIn W (.agg #[.int .i64 count, .slice p data.length c, .slice q ws.length m]) count data ws) := HD.out.below bb3
  replace HDX : Hid (DiskIn W (.agg #[.int .i64 (resC count r), .slice pX (resD r).length kX, .slice qX (resW r).length mX]) (resC count r) (resD r) (resW r)) := HDX.out.below bb3
  replace hbc : Below w.heap.size w W := below_bt hbc bb3
  clear bb3 hbW
  obtain ⟨r1, hr1⟩ : ∃ r1, doAny count data ws [] = r1 := ⟨_, rfl⟩
  have HR1 : Hid (doAny count data ws [] = r1) := hr1
  clear hr1
  have HS1 : (W.drew.cell? ⟨w.heap.size, 0, none⟩ = some (.int .i64 count) ∧ W.drew.cell? ⟨w.heap.size, 1, none⟩ = some (.slice p data.length c) ∧ W.drew.cell? ⟨w.heap.size, 2, none⟩ = some (.slice q ws.length m)) ∧ Hid (Below W.heap.size W W.drew) := ⟨cells3 HB.out, (Below.refl _ _).drew⟩
  go_cut [10, 11] from 14 (fun s10 s11 w5 => ∃ B pY kY qY mY, s10 = .pointer (some ⟨B, 0, none⟩) ∧ s11 = .int .i64 (resE r1) ∧ w5.heap[B]? = some (.cells #[.int .i64 (resC count r1), .slice pY (resD r1).length kY, .slice qY (resW r1).length mY] 25 (0, 0)) ∧ DiskIn w5 (.agg #[.int .i64 (resC count r1), .slice pY (resD r1).length kY, .slice qY (resW r1).length mY]) (resC count r1) (resD r1) (resW r1) ∧ Below W.heap.size W w5)
  case first =>
    refine wp_region_noPanic ?_
    refine wp_region_held_drew (S := (fun w' => (w'.cell? ⟨w.heap.size, 0, none⟩ = some (.int .i64 count) ∧ w'.cell? ⟨w.heap.size, 1, none⟩ = some (.slice p data.length c) ∧ w'.cell? ⟨w.heap.size, 2, none⟩ = some (.slice q ws.length m)) ∧ Hid (Below W.heap.size W w'))) (by kernel_rfl) HS1 (fun hS0 => ?_)
    clear HS1
    refine takeH 0 42 (v := ?_) rfl rfl (by kernel_rfl) (by kernel_rfl) (by kernel_rfl) (fun _ _ _ h => h) (by rfl) ?_ (by assumption) ?_
    rotate_left
    · intro w hSw; go_simp; first | done | with_reducible rfl
    simp only [Act.put, List.setIfInBounds_toArray, List.set_cons_zero, List.set_cons_succ]
    refine takeH 1 43 (v := ?_) rfl rfl (by kernel_rfl) (by kernel_rfl) (by kernel_rfl) (fun _ _ _ h => h) (by rfl) ?_ (by assumption) ?_
    rotate_left
    · intro w hSw; go_simp; first | done | with_reducible rfl
    simp only [Act.put, List.setIfInBounds_toArray, List.set_cons_zero, List.set_cons_succ]
    refine takeH 2 44 (v := ?_) rfl rfl (by kernel_rfl) (by kernel_rfl) (by kernel_rfl) (fun _ _ _ h => h) (by rfl) ?_ (by assumption) ?_
    rotate_left
    · intro w hSw; go_simp; first | done | with_reducible rfl
    simp only [Act.put, List.setIfInBounds_toArray, List.set_cons_zero, List.set_cons_succ]
    refine takeH 3 45 (v := ?_) rfl rfl (by kernel_rfl) (by kernel_rfl) (by kernel_rfl) (fun _ _ _ h => h) (by rfl) ?_ (by assumption) ?_
    rotate_left
    · intro w hSw; go_simp; first | done | with_reducible rfl
    simp only [Act.put, List.setIfInBounds_toArray, List.set_cons_zero, List.set_cons_succ]
    refine wpAnyH_ready (rs := [4, 8]) (by kernel_rfl) (by simp) ?_
    refine AllReadyH.cons rfl (fun K hK => ?_) (AllReadyH.cons rfl (fun K hK => ?_) AllReadyH.nil)
    · go_simp
      refine (do_all _ count data ws _ (HD.out.below hS0.2.out) _ 0 _ [] rfl (nil_acts _ _) (by simp) r1 HR1.out).mono ?_
      rintro e ww1 ⟨⟨v', rfl, hf'⟩, hb1⟩
      obtain ⟨pY, kY, qY, mY, rfl, _⟩ := hf'.self.parts
      go_simp
      refine hK.out _ _ (keepS (Nat.le_refl _) hS0 hb1) (fun hS1 => ?_)
      clear hK K
      refine takeH 5 41 (v := ?_) rfl rfl (by kernel_rfl) (by kernel_rfl) (by kernel_rfl) (fun _ _ _ h => h) (by rfl) ?_ (by assumption) ?_
      rotate_left
      · intro w hSw; go_simp; first | done | with_reducible rfl
      simp only [Act.put, List.setIfInBounds_toArray, List.set_cons_zero, List.set_cons_succ]
      refine takeH 6 47 (v := ?_) rfl rfl (by kernel_rfl) (by kernel_rfl) (by kernel_rfl) (fun _ _ _ h => h) (by rfl) ?_ (by assumption) ?_
      rotate_left
      · intro w hSw; go_simp; first | done | with_reducible rfl
      simp only [Act.put, List.setIfInBounds_toArray, List.set_cons_zero, List.set_cons_succ]
      refine takeH 7 48 (v := ?_) rfl rfl (by kernel_rfl) (by kernel_rfl) (by kernel_rfl) (fun _ _ _ h => h) (by rfl) ?_ (by assumption) ?_
      rotate_left
      · intro w hSw; go_simp; first | done | with_reducible rfl
      simp only [Act.put, List.setIfInBounds_toArray, List.set_cons_zero, List.set_cons_succ]
      refine wpAnyH_ready (rs := [8]) (by kernel_rfl) (by simp) ?_
      refine AllReadyH.cons rfl (fun K hK => ?_) AllReadyH.nil
      have hb2 := below_alloc ww1 (.cells #[.int .i64 0, .slice none 0 0, .slice none 0 0] 25)
      go_simp
      refine hK.out _ _ (keepS (Nat.le_refl _) hS1 hb2) (fun hS2 => ?_)
      clear hK K
      refine wpAnyH_ready (rs := [9]) (by kernel_rfl) (by simp) ?_
      refine AllReadyH.cons rfl (fun K hK => ?_) AllReadyH.nil
      go_simp
      refine hK.out _ _ (keepA (Nat.le_refl _) hS1 _) (fun hSz => ?_)
      clear hK K
      refine takeH 10 11 (v := ?_) rfl rfl (by kernel_rfl) (by kernel_rfl) (by kernel_rfl) (fun _ _ _ h => h) (by rfl) ?_ (by assumption) ?_
      rotate_left
      · intro w hSw; go_simp; first | done | with_reducible rfl
      simp only [Act.put, List.setIfInBounds_toArray, List.set_cons_zero, List.set_cons_succ]
      refine wpAnyH_done (by kernel_rfl) (NoPanic.normal ?_) _
      go_wp2
      go_meet
      case rel =>
        exact ⟨_, pY, kY, qY, mY, rfl, rfl, heap_alloc_new _ _, hf'.below (below_alloc _ _), hSz.2.out⟩
    · have hb1 := below_alloc W.drew (.cells #[.int .i64 0, .slice none 0 0, .slice none 0 0] 25)
      go_simp
      refine hK.out _ _ (keepS (Nat.le_refl _) hS0 hb1) (fun hS1 => ?_)
      clear hK K
      refine wpAnyH_ready (rs := [4]) (by kernel_rfl) (by simp) ?_
      refine AllReadyH.cons rfl (fun K hK => ?_) AllReadyH.nil
      go_simp
      refine (do_all _ count data ws _ (HD.out.below hS1.2.out) _ 0 _ [] rfl (nil_acts _ _) (by simp) r1 HR1.out).mono ?_
      rintro e ww2 ⟨⟨v', rfl, hf'⟩, hb2⟩
      obtain ⟨pY, kY, qY, mY, rfl, _⟩ := hf'.self.parts
      go_simp
      refine hK.out _ _ (keepS (Nat.le_refl _) hS1 hb2) (fun hS2 => ?_)
      clear hK K
      refine takeH 5 41 (v := ?_) rfl rfl (by kernel_rfl) (by kernel_rfl) (by kernel_rfl) (fun _ _ _ h => h) (by rfl) ?_ (by assumption) ?_
      rotate_left
      · intro w hSw; go_simp; first | done | with_reducible rfl
      simp only [Act.put, List.setIfInBounds_toArray, List.set_cons_zero, List.set_cons_succ]
      refine takeH 6 47 (v := ?_) rfl rfl (by kernel_rfl) (by kernel_rfl) (by kernel_rfl) (fun _ _ _ h => h) (by rfl) ?_ (by assumption) ?_
      rotate_left
      · intro w hSw; go_simp; first | done | with_reducible rfl
      simp only [Act.put, List.setIfInBounds_toArray, List.set_cons_zero, List.set_cons_succ]
      refine takeH 7 48 (v := ?_) rfl rfl (by kernel_rfl) (by kernel_rfl) (by kernel_rfl) (fun _ _ _ h => h) (by rfl) ?_ (by assumption) ?_
      rotate_left
      · intro w hSw; go_simp; first | done | with_reducible rfl
      simp only [Act.put, List.setIfInBounds_toArray, List.set_cons_zero, List.set_cons_succ]
      refine wpAnyH_ready (rs := [9]) (by kernel_rfl) (by simp) ?_
      refine AllReadyH.cons rfl (fun K hK => ?_) AllReadyH.nil
      have hZ : ww2.heap[W.heap.size]? = some (.cells #[.int .i64 0, .slice none 0 0, .slice none 0 0] 25 (0, 0)) := ((hb2).block _ (by first | (rw [World.size_alloc]; exact Nat.lt_succ_self _) | (show _ < (World.alloc _ _).heap.size; rw [World.size_alloc]; exact Nat.lt_succ_self _))).trans (heap_alloc_new _ _)
      obtain ⟨z0, z1, z2⟩ := cells3 hZ
      obtain ⟨y0, y1, y2⟩ := free3 hZ
      have HZ : Hid _ := hZ
      clear hZ
      have szB := hS0.2.out.size
      have szX := lt_heap HB.out
      go_simp
      refine hK.out _ _ (keep3 hS2 ⟨Nat.ne_of_lt (Nat.lt_of_lt_of_le szX szB), szB⟩ _ _ _) (fun hSz => ?_)
      clear hK K
      refine takeH 10 11 (v := ?_) rfl rfl (by kernel_rfl) (by kernel_rfl) (by kernel_rfl) (fun _ _ _ h => h) (by rfl) ?_ (by assumption) ?_
      rotate_left
      · intro w hSw; go_simp; first | done | with_reducible rfl
      simp only [Act.put, List.setIfInBounds_toArray, List.set_cons_zero, List.set_cons_succ]
      refine wpAnyH_done (by kernel_rfl) (NoPanic.normal ?_) _
      go_wp2
      go_meet
      case rel =>
        exact ⟨_, pY, kY, qY, mY, rfl, rfl, set3_same _ _ _ _ _ _ _ _ _ HZ.out, hf'.set3 (by first | (rw [World.size_alloc]; exact Nat.lt_succ_self _) | (show _ < (World.alloc _ _).heap.size; rw [World.size_alloc]; exact Nat.lt_succ_self _)) _ _ _, hSz.2.out⟩
  case rest =>
    obtain ⟨B, pY, kY, qY, mY, rfl, rfl, hyb, hyd, hb5⟩ := hcut
    have HYB : Hid (wc.heap[B]? = some (.cells #[.int .i64 (resC count r1), .slice pY (resD r1).length kY, .slice qY (resW r1).length mY] 25 (0, 0))) := hyb
    have HDY : Hid (DiskIn wc (.agg #[.int .i64 (resC count r1), .slice pY (resD r1).length kY, .slice qY (resW r1).length mY]) (resC count r1) (resD r1) (resW r1)) := hyd
    clear hyb hyd HS1
    have bb4 : Below W.heap.size W wc := hb5
    replace HB : Hid (wc.heap[w.heap.size]? = some (.cells #[.int .i64 count, .slice p data.length c, .slice q ws.length m] 25 (0, 0))) := (bb4.block _ (lt_heap HB.out)).trans HB.out
    replace HD : Hid (DiskIn wc (.agg #[.int .i64 count, .slice p data.length c, .slice q ws.length m]) count data ws) := HD.out.below bb4
    replace HDX : Hid (DiskIn wc (.agg #[.int .i64 (resC count r), .slice pX (resD r).length kX, .slice qX (resW r).length mX]) (resC count r) (resD r) (resW r)) := HDX.out.below bb4
    replace HXB : Hid (wc.heap[w3.heap.size]? = some (.cells #[.int .i64 (resC count r), .slice pX (resD r).length kX, .slice qX (resW r).length mX] 25 (0, 0))) := (bb4.block _ (lt_heap HXB.out)).trans HXB.out
    replace hbc : Below w.heap.size w wc := below_bt hbc bb4
    clear bb4 hb5
    cases r1 with
    | error cc =>
      have HRR : Hid (r = .error cc) := HR.out.symm.trans (doAny_fail (l := []) (k := 0) HR1.out)
      have hcc : cc ≠ 0 := doAny_err HR1.out
      have hcb : (cc != 0) = true := by simpa using hcc
      have her : (resE r == cc) = true := by rw [HRR.out]; simp [resE]
      have hee : resE (.error cc) = cc := rfl
      rw [hee]
      clear hcc hee HRR
      go_wp2
      go_ret
      exact ⟨rfl, hbc⟩
    | ok s1 =>
      obtain ⟨d1, w1'⟩ := s1
      have HR2 : Hid (doAny count d1 w1' [] = r) := (doAny_cut (l := []) (k := 0) HR1.out).trans HR.out
      replace HYB : Hid (wc.heap[B]? = some (.cells #[.int .i64 count, .slice pY d1.length kY, .slice qY w1'.length mY] 25 (0, 0))) := HYB
      replace HDY : Hid (DiskIn wc (.agg #[.int .i64 count, .slice pY d1.length kY, .slice qY w1'.length mY]) count d1 w1') := HDY
      rw [show resE (.ok (d1, w1')) = 0 from rfl]
      have HS2 : (wc.drew.cell? ⟨B, 0, none⟩ = some (.int .i64 count) ∧ wc.drew.cell? ⟨B, 1, none⟩ = some (.slice pY d1.length kY) ∧ wc.drew.cell? ⟨B, 2, none⟩ = some (.slice qY w1'.length mY)) ∧ Hid (Below wc.heap.size wc wc.drew) := ⟨cells3 HYB.out, (Below.refl _ _).drew⟩
      clear HR1
      go_wp2
      go_cut [12, 13] from 14 (fun s12 s13 w5 => ∃ B pZ kZ qZ mZ, s12 = .pointer (some ⟨B, 0, none⟩) ∧ s13 = .int .i64 (resE r) ∧ w5.heap[B]? = some (.cells #[.int .i64 (resC count r), .slice pZ (resD r).length kZ, .slice qZ (resW r).length mZ] 25 (0, 0)) ∧ DiskIn w5 (.agg #[.int .i64 (resC count r), .slice pZ (resD r).length kZ, .slice qZ (resW r).length mZ]) (resC count r) (resD r) (resW r) ∧ Below wc.heap.size wc w5)
      case first =>
        refine wp_region_noPanic ?_
        refine wp_region_held_drew (S := (fun w' => (w'.cell? ⟨B, 0, none⟩ = some (.int .i64 count) ∧ w'.cell? ⟨B, 1, none⟩ = some (.slice pY d1.length kY) ∧ w'.cell? ⟨B, 2, none⟩ = some (.slice qY w1'.length mY)) ∧ Hid (Below wc.heap.size wc w'))) (by kernel_rfl) HS2 (fun hS0 => ?_)
        clear HS2
        refine takeH 0 58 (v := ?_) rfl rfl (by kernel_rfl) (by kernel_rfl) (by kernel_rfl) (fun _ _ _ h => h) (by rfl) ?_ (by assumption) ?_
        rotate_left
        · intro w hSw; go_simp; first | done | with_reducible rfl
        simp only [Act.put, List.setIfInBounds_toArray, List.set_cons_zero, List.set_cons_succ]
        refine takeH 1 59 (v := ?_) rfl rfl (by kernel_rfl) (by kernel_rfl) (by kernel_rfl) (fun _ _ _ h => h) (by rfl) ?_ (by assumption) ?_
        rotate_left
        · intro w hSw; go_simp; first | done | with_reducible rfl
        simp only [Act.put, List.setIfInBounds_toArray, List.set_cons_zero, List.set_cons_succ]
        refine takeH 2 60 (v := ?_) rfl rfl (by kernel_rfl) (by kernel_rfl) (by kernel_rfl) (fun _ _ _ h => h) (by rfl) ?_ (by assumption) ?_
        rotate_left
        · intro w hSw; go_simp; first | done | with_reducible rfl
        simp only [Act.put, List.setIfInBounds_toArray, List.set_cons_zero, List.set_cons_succ]
        refine takeH 3 61 (v := ?_) rfl rfl (by kernel_rfl) (by kernel_rfl) (by kernel_rfl) (fun _ _ _ h => h) (by rfl) ?_ (by assumption) ?_
        rotate_left
        · intro w hSw; go_simp; first | done | with_reducible rfl
        simp only [Act.put, List.setIfInBounds_toArray, List.set_cons_zero, List.set_cons_succ]
        refine wpAnyH_ready (rs := [4, 8]) (by kernel_rfl) (by simp) ?_
        refine AllReadyH.cons rfl (fun K hK => ?_) (AllReadyH.cons rfl (fun K hK => ?_) AllReadyH.nil)
        · go_simp
          refine (do_all _ count d1 w1' _ (HDY.out.below hS0.2.out) _ 0 _ [] rfl (nil_acts _ _) (by simp) r HR2.out).mono ?_
          rintro e ww1 ⟨⟨v', rfl, hf'⟩, hb1⟩
          obtain ⟨pZ, kZ, qZ, mZ, rfl, _⟩ := hf'.self.parts
          go_simp
          refine hK.out _ _ (keepS (Nat.le_refl _) hS0 hb1) (fun hS1 => ?_)
          clear hK K
          refine takeH 5 57 (v := ?_) rfl rfl (by kernel_rfl) (by kernel_rfl) (by kernel_rfl) (fun _ _ _ h => h) (by rfl) ?_ (by assumption) ?_
          rotate_left
          · intro w hSw; go_simp; first | done | with_reducible rfl
          simp only [Act.put, List.setIfInBounds_toArray, List.set_cons_zero, List.set_cons_succ]
          refine takeH 6 63 (v := ?_) rfl rfl (by kernel_rfl) (by kernel_rfl) (by kernel_rfl) (fun _ _ _ h => h) (by rfl) ?_ (by assumption) ?_
          rotate_left
          · intro w hSw; go_simp; first | done | with_reducible rfl
          simp only [Act.put, List.setIfInBounds_toArray, List.set_cons_zero, List.set_cons_succ]
          refine takeH 7 64 (v := ?_) rfl rfl (by kernel_rfl) (by kernel_rfl) (by kernel_rfl) (fun _ _ _ h => h) (by rfl) ?_ (by assumption) ?_
          rotate_left
          · intro w hSw; go_simp; first | done | with_reducible rfl
          simp only [Act.put, List.setIfInBounds_toArray, List.set_cons_zero, List.set_cons_succ]
          refine wpAnyH_ready (rs := [8]) (by kernel_rfl) (by simp) ?_
          refine AllReadyH.cons rfl (fun K hK => ?_) AllReadyH.nil
          have hb2 := below_alloc ww1 (.cells #[.int .i64 0, .slice none 0 0, .slice none 0 0] 25)
          go_simp
          refine hK.out _ _ (keepS (Nat.le_refl _) hS1 hb2) (fun hS2 => ?_)
          clear hK K
          refine wpAnyH_ready (rs := [9]) (by kernel_rfl) (by simp) ?_
          refine AllReadyH.cons rfl (fun K hK => ?_) AllReadyH.nil
          go_simp
          refine hK.out _ _ (keepA (Nat.le_refl _) hS1 _) (fun hSz => ?_)
          clear hK K
          refine takeH 10 13 (v := ?_) rfl rfl (by kernel_rfl) (by kernel_rfl) (by kernel_rfl) (fun _ _ _ h => h) (by rfl) ?_ (by assumption) ?_
          rotate_left
          · intro w hSw; go_simp; first | done | with_reducible rfl
          simp only [Act.put, List.setIfInBounds_toArray, List.set_cons_zero, List.set_cons_succ]
          refine wpAnyH_done (by kernel_rfl) (NoPanic.normal ?_) _
          go_wp2
          go_meet
          case rel =>
            exact ⟨_, pZ, kZ, qZ, mZ, rfl, rfl, heap_alloc_new _ _, hf'.below (below_alloc _ _), hSz.2.out⟩
        · have hb1 := below_alloc wc.drew (.cells #[.int .i64 0, .slice none 0 0, .slice none 0 0] 25)
          go_simp
          refine hK.out _ _ (keepS (Nat.le_refl _) hS0 hb1) (fun hS1 => ?_)
          clear hK K
          refine wpAnyH_ready (rs := [4]) (by kernel_rfl) (by simp) ?_
          refine AllReadyH.cons rfl (fun K hK => ?_) AllReadyH.nil
          go_simp
          refine (do_all _ count d1 w1' _ (HDY.out.below hS1.2.out) _ 0 _ [] rfl (nil_acts _ _) (by simp) r HR2.out).mono ?_
          rintro e ww2 ⟨⟨v', rfl, hf'⟩, hb2⟩
          obtain ⟨pZ, kZ, qZ, mZ, rfl, _⟩ := hf'.self.parts
          go_simp
          refine hK.out _ _ (keepS (Nat.le_refl _) hS1 hb2) (fun hS2 => ?_)
          clear hK K
          refine takeH 5 57 (v := ?_) rfl rfl (by kernel_rfl) (by kernel_rfl) (by kernel_rfl) (fun _ _ _ h => h) (by rfl) ?_ (by assumption) ?_
          rotate_left
          · intro w hSw; go_simp; first | done | with_reducible rfl
          simp only [Act.put, List.setIfInBounds_toArray, List.set_cons_zero, List.set_cons_succ]
          refine takeH 6 63 (v := ?_) rfl rfl (by kernel_rfl) (by kernel_rfl) (by kernel_rfl) (fun _ _ _ h => h) (by rfl) ?_ (by assumption) ?_
          rotate_left
          · intro w hSw; go_simp; first | done | with_reducible rfl
          simp only [Act.put, List.setIfInBounds_toArray, List.set_cons_zero, List.set_cons_succ]
          refine takeH 7 64 (v := ?_) rfl rfl (by kernel_rfl) (by kernel_rfl) (by kernel_rfl) (fun _ _ _ h => h) (by rfl) ?_ (by assumption) ?_
          rotate_left
          · intro w hSw; go_simp; first | done | with_reducible rfl
          simp only [Act.put, List.setIfInBounds_toArray, List.set_cons_zero, List.set_cons_succ]
          refine wpAnyH_ready (rs := [9]) (by kernel_rfl) (by simp) ?_
          refine AllReadyH.cons rfl (fun K hK => ?_) AllReadyH.nil
          have hZ : ww2.heap[wc.heap.size]? = some (.cells #[.int .i64 0, .slice none 0 0, .slice none 0 0] 25 (0, 0)) := ((hb2).block _ (by first | (rw [World.size_alloc]; exact Nat.lt_succ_self _) | (show _ < (World.alloc _ _).heap.size; rw [World.size_alloc]; exact Nat.lt_succ_self _))).trans (heap_alloc_new _ _)
          obtain ⟨z0, z1, z2⟩ := cells3 hZ
          obtain ⟨y0, y1, y2⟩ := free3 hZ
          have HZ : Hid _ := hZ
          clear hZ
          have szB := hS0.2.out.size
          have szX := lt_heap HYB.out
          go_simp
          refine hK.out _ _ (keep3 hS2 ⟨Nat.ne_of_lt (Nat.lt_of_lt_of_le szX szB), szB⟩ _ _ _) (fun hSz => ?_)
          clear hK K
          refine takeH 10 13 (v := ?_) rfl rfl (by kernel_rfl) (by kernel_rfl) (by kernel_rfl) (fun _ _ _ h => h) (by rfl) ?_ (by assumption) ?_
          rotate_left
          · intro w hSw; go_simp; first | done | with_reducible rfl
          simp only [Act.put, List.setIfInBounds_toArray, List.set_cons_zero, List.set_cons_succ]
          refine wpAnyH_done (by kernel_rfl) (NoPanic.normal ?_) _
          go_wp2
          go_meet
          case rel =>
            exact ⟨_, pZ, kZ, qZ, mZ, rfl, rfl, set3_same _ _ _ _ _ _ _ _ _ HZ.out, hf'.set3 (by first | (rw [World.size_alloc]; exact Nat.lt_succ_self _) | (show _ < (World.alloc _ _).heap.size; rw [World.size_alloc]; exact Nat.lt_succ_self _)) _ _ _, hSz.2.out⟩
      case rest =>
        obtain ⟨BZ, pZ, kZ, qZ, mZ, rfl, rfl, hzb, hzd, hb6⟩ := hcut
        have HZB : Hid (wc.heap[BZ]? = some (.cells #[.int .i64 (resC count r), .slice pZ (resD r).length kZ, .slice qZ (resW r).length mZ] 25 (0, 0))) := hzb
        have HDZ : Hid (DiskIn wc (.agg #[.int .i64 (resC count r), .slice pZ (resD r).length kZ, .slice qZ (resW r).length mZ]) (resC count r) (resD r) (resW r)) := hzd
        clear hzb hzd HS2
        have HXB2 : Hid (wc.heap[w3.heap.size]? = some (.cells #[.int .i64 (resC count r), .slice pX (resD r).length kX, .slice qX (resW r).length mX] 25 (0, 0))) := (hb6.block _ (lt_heap HXB.out)).trans HXB.out
        have HDX2 := HDX.out.below hb6
        have hbf := below_bt hbc hb6
        obtain ⟨x0, x1, x2⟩ := cells3 HXB2.out
        obtain ⟨z0, z1, z2⟩ := cells3 HZB.out
        have hee : (resE r == resE r) = true := by simp
        have HX3 : Hid _ := HDX2
        clear HDX2 HXB HXB2 HDX
        go_wp2_with fail
        refine (same_any _ _ _ _ _ _ _ _ _ HX3.out HDZ.out true ⟨fun _ => ⟨rfl, rfl, rfl⟩, fun _ => rfl⟩).mono ?_
        rintro e w9 ⟨rfl, hb9⟩
        go_wp2
        go_ret
        exact ⟨rfl, below_bt hbf hb9⟩
theorem walk (v : Value) (count : Int) (data : List Nat) (ws : Puts) (lv : Value) (q : Option Addr) (l : Acts) (c : Nat) (at0 : Int) (w : World) (hd : DiskIn w v count data ws) (e0 : lv = .slice q (List.length (α := Bool × Int × List Nat) l) c) (ha : ActsIn w q l) (h1 : l.length ≤ c) (h2 : c ≤ maxLen) (hq : q = none → c = 0) (h3 : ∀ y ∈ l, (Lit.int .i64 y.2.1).wf = true) (wa : (Lit.int .i64 at0).wf = true) :
    Calls Try.prog 8 #[v, lv, .int .i64 at0] w fun e w' => e = .returned (.bool true) ∧ Below w.heap.size w w' := by
  subst e0
  by_cases hl : largeN count data ws
  · exact walk_large v count data ws q _ c at0 w hd hl
  · by_cases h4 : (l.length : Int) ≤ 300
    · by_cases h5 : at0 < 0
      · exact walk_neg v count data ws q _ c at0 w hd hl h4 h5
      · by_cases h6 : (l.length : Int) < at0
        · exact walk_past v count data ws q _ c at0 w hd hl h4 (by omega) h6
        · obtain ⟨k, rfl⟩ := Int.eq_ofNat_of_zero_le (show 0 ≤ at0 by omega)
          by_cases h7 : 0 < l.length
          · obtain ⟨b, o, rfl⟩ := ha.addr h7
            exact walk_some v count data ws b o c l k w hd hl ha (by omega) (by omega) h1
          · obtain rfl : l = [] := List.eq_nil_of_length_eq_zero (by omega)
            obtain rfl : k = 0 := by simp at h6; omega
            cases q with
            | none =>
              obtain rfl := hq rfl
              exact walk_null v count data ws w hd hl
            | some ad => exact walk_void v count data ws ad c w hd hl
    · exact walk_long v count data ws q _ c at0 w hd hl (by omega)

/-! ### THE ROW's STEP -/
set_option maxRecDepth 100000 in
theorem lifted (os : Os) (started : os.Started) (H : Type) (enc : TypeId × Value → H) :
    ReturnsInHanded {} Try.checked os 8 .any (Rows.diskPiecesSpec.pre6 enc Try.prog Try.f8 Rows.diskPiecesRow.domain false) (Rows.diskPiecesSpec.post enc Try.prog Try.f8 false true false false) := by
  refine returnsInHanded_of_change (C := Try.checked) own started (by kernel_rfl) Try.func8
    (ChangeSpec.witness6 (enc := enc) (C := Try.checked) false ⟨#[], #[.agg #[.int .i64 0, .slice none 0 0, .slice none 0 0], .slice none 0 0, .int .i64 0], []⟩ 8 (by kernel_rfl) (by kernel_rfl) (by kernel_rfl) (by kernel_rfl)) ?_
  intro W base args ds gs before hval0 hW hcnd _
  have hval : ∀ (j : Nat) t v, Try.f8.params[j]? = some t → args[j]? = some v → Value.okWide Try.prog W .any base t v := hval0
  have hW' := hW
  obtain ⟨p, q, hA0, hV, rfl, hfz, hnd⟩ := hW
  have hA : DataW.TrodAll enc Try.prog W 0 (fun _ => true) true Try.f8.params.toList args.toList ds p := hA0
  rw [Try.params8] at hA hval
  obtain ⟨v0, vs0, d0, ds0, p0, q0, hargs, rfl, rfl, h0, r0⟩ := trodAll_cons hA
  obtain ⟨v1, vs1, d1, ds1, p1, q1, rfl, rfl, rfl, h1, r1⟩ := trodAll_cons r0
  obtain ⟨v2, vs2, d2, ds2, p2, q2, rfl, rfl, rfl, h2, r2⟩ := trodAll_cons r1
  obtain ⟨rfl, rfl, rfl⟩ := trodAll_nil r2
  obtain rfl : args = #[v0, v1, v2] := by cases args; simp_all
  obtain ⟨rfl, rfl⟩ := trodVars_none hV
  have k0 := h0
  have lt0 : ∀ x ∈ p0, x.block < W.heap.size := by obtain ⟨m, hm⟩ := k0; exact DataW.trod_lt m _ _ _ hm
  obtain ⟨count0, data0, ws0, w0⟩ := open_disk (tD := 25) (t := 23) (e := 51) (tb := 22) (eb := 5) Try.underlying25 (by kernel_rfl) (by kernel_rfl) Try.underlying3 rfl rfl Try.underlying23 Try.underlying51 (by kernel_rfl) rfl rfl (by kernel_rfl) (by kernel_rfl) Try.underlying3 rfl Try.underlying22 Try.underlying5 (by kernel_rfl) (hval 0 25 v0 rfl rfl) h0
  have k1 := h1
  have lt1 : ∀ x ∈ p1, x.block < W.heap.size := by obtain ⟨m, hm⟩ := k1; exact DataW.trod_lt m _ _ _ hm
  obtain ⟨qa1, la1, ca1, rfl⟩ := okWide_slice Try.underlying49 (hval 1 49 v1 rfl rfl)
  obtain ⟨fu1, hf1⟩ := h1
  obtain ⟨q1b, l1, c1b, e1, w1a, w1b, w1c, w1d, w1e⟩ := open_acts (t := 49) (e := 53) (ep := 51) (tb := 22) (eb := 5) Try.underlying49 Try.underlying53 (by kernel_rfl) rfl rfl (by kernel_rfl) Try.underlying4 rfl Try.underlying51 (by kernel_rfl) rfl rfl (by kernel_rfl) (by kernel_rfl) Try.underlying3 rfl Try.underlying22 Try.underlying5 (by kernel_rfl) hf1
  obtain ⟨a2, rfl, rfl, rfl, w2⟩ := open_int Try.underlying3 (hval 2 3 v2 rfl rfl) h2
  clear hA0 hval0
  refine (walk v0 count0 data0 ws0 (.slice qa1 la1 ca1) q1b l1 c1b a2 W w0 e1 w1a w1b w1c w1d w1e w2).mono fun e W' ⟨he, bel⟩ => ?_
  subst he
  exact ⟨_, rfl, _, _, _, [], _, [], hW', trodAll_mk1 (shut_bool Try.underlying4 _), (trodAll_cons_mk (Below.trod laidOut (by kernel_rfl) (of_decide_eq_true (by kernel_rfl)) k0 bel lt0) (trodAll_cons_mk (Below.trod laidOut (by kernel_rfl) (of_decide_eq_true (by kernel_rfl)) k1 bel lt1) (trodAll_cons_mk (shut_int Try.underlying3 w2) trodAll_mk0))), rfl, bel.frame _, fun h => by cases h⟩

theorem over : Rows.diskPiecesRow.holds Try.pinned (OpenSpec.ofChange Rows.diskPiecesSpec) :=
  OpenClaim.holds_of_wide 8 Try.f8 rfl rfl rfl rfl rfl rfl rfl ⟨rfl, rfl, rfl, rfl, rfl⟩ rfl rfl rfl rfl rfl (by kernel_rfl) Try.func8 (by kernel_rfl)
    (of_decide_eq_true (by kernel_rfl)) (by unfold Func.isWrapper; first | (rw [if_pos (by decide +kernel)]; kernel_rfl) | (rw [if_neg (by decide +kernel)]; exact ⟨rfl, rfl⟩))
    (fun os started H enc _ => lifted os started H enc)

theorem proved : Rows.DiskPiecesSaid := over
end Go.Proofs.Ytmpeeojeifmbfaa.diskPieces
namespace Go.Proofs.Ytmpeeojeifmbfaa
theorem diskPieces_holds : Rows.DiskPiecesSaid := diskPieces.proved
#print axioms diskPieces_holds
end Go.Proofs.Ytmpeeojeifmbfaa
