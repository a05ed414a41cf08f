/-
  Pieces put together have the same sectors, rise, and do not touch, and put together again they stay: any list of pieces. No condition.
-/
import Derived.Test.YtfplpdnhhefbaaaRows
import Derived.Test.YtfplpdnhhefbaaaPJoined
import Derived.WalkKit
import Derived.ProofKit
import Derived.OpenShut
import Derived.ShutString
import Derived.ChangeOld
import Derived.Below
namespace Go.Proofs.Ytfplpdnhhefbaaa.roomJoined
open Go.ChangeShapes Go.WideShapes Go.ChangeAt Go.RowKit
open Go.ChangeMaps (open_string shut_string)
set_option linter.unusedVariables false

theorem own : ownKnob Try.prog.godebug = none := by kernel_rfl
theorem laidOut : laidOutB Try.prog = true := by kernel_rfl

open Go.Joins

set_option maxHeartbeats 1000000 in
theorem walk_bad (q : Option Addr) (l : Pcs) (c : Nat) (w : World) (HL : Hid (PIn w (.slice q l.length c) l)) (h2 : errK 4096 l ≠ 0) :
    Calls Try.prog 8 #[.slice q l.length c] w fun e w' => e = .returned (.bool true) ∧ Below w.heap.size w w' := by
  have hne : (errK 4096 l != 0) = true := by simpa using h2
  have HJ : Hid (∀ w1, PIn w1 (.slice q l.length c) l → Calls Try.prog 11 #[.slice q l.length c] w1 (ListPost [] (errK 4096 l) w1)) := by
    intro w1 h1
    have := join_any _ l w1 h1
    rwa [show resJ l = [] from by unfold resJ; rw [if_neg h2]] at this
  have HM : Hid (∀ w1, PIn w1 (.slice q l.length c) l → Calls Try.prog 21 #[.slice q l.length c] w1 fun e w' => e = .returned (.tuple #[.int .i64 (manyN l), .int .i64 (errK 4096 l)]) ∧ Below w1.heap.size w1 w') := fun w1 h1 => many_any _ l w1 h1
  clear h2
  generalize errK 4096 l = E at *
  have hee : (E == E) = true := by simp
  go_enter Try.func8, Try.ntmps8
  go_wp2_with fail
  refine (alive_any _).mono ?_
  rintro e w1 ⟨rfl, hb1⟩
  replace HL : Hid (PIn w1 (.slice q l.length c) l) := HL.out.below hb1
  have bel : Below w.heap.size w w1 := hb1
  go_wp2_with fail
  refine (HJ.out _ HL.out).mono ?_
  rintro e w2 ⟨qj, cj, rfl, hoj, hb2⟩
  replace HL : Hid (PIn w2 (.slice q l.length c) l) := HL.out.below hb2
  replace bel : Below w.heap.size w w2 := below_bt bel hb2
  have FJ : Hid (PIn w2 (.slice qj (List.length (α := Int × Int) []) cj) []) := hoj.pin wf_nil
  clear hoj
  go_wp2_with fail
  refine (HM.out _ HL.out).mono ?_
  rintro e w3 ⟨rfl, hb3⟩
  replace HL : Hid (PIn w3 (.slice q l.length c) l) := HL.out.below hb3
  replace FJ : Hid (PIn w3 (.slice qj (List.length (α := Int × Int) []) cj) []) := FJ.out.below hb3
  replace bel : Below w.heap.size w w3 := below_bt bel hb3
  go_wp2_with fail
  refine (many_any _ [] _ FJ.out).mono ?_
  rintro e w4 ⟨rfl, hb4⟩
  replace HL : Hid (PIn w4 (.slice q l.length c) l) := HL.out.below hb4
  replace FJ : Hid (PIn w4 (.slice qj (List.length (α := Int × Int) []) cj) []) := FJ.out.below hb4
  replace bel : Below w.heap.size w w4 := below_bt bel hb4
  clear HJ HM HL FJ
  generalize manyN [] = m0 at *
  generalize errK 4096 [] = e0 at *
  go_wp2
  go_ret
  exact ⟨rfl, bel⟩

set_option maxRecDepth 4000 in
set_option maxHeartbeats 1500000 in
theorem walk_ok (q : Option Addr) (l : Pcs) (c : Nat) (w : World) (HL : Hid (PIn w (.slice q l.length c) l)) (h2 : errK 4096 l = 0) :
    Calls Try.prog 8 #[.slice q l.length c] w fun e w' => e = .returned (.bool true) ∧ Below w.heap.size w w' := by
  have hz := errK_zero h2
  have hg := hz.2.2
  have hln := hz.2.1
  obtain ⟨i0, hi, hz0, hz1, hz2⟩ := info_parts' info_int
  have HJ : Hid (∀ w1, PIn w1 (.slice q l.length c) l → Calls Try.prog 11 #[.slice q l.length c] w1 (ListPost (joinN l) 0 w1)) := by
    intro w1 h1
    have := join_any _ l w1 h1
    rwa [show resJ l = joinN l from by unfold resJ; rw [if_pos h2], h2] at this
  have hm1 := many_good hg hln
  have hm2 := many_good (join_good l) (join_len l)
  have HM1 : Hid (∀ w1, PIn w1 (.slice q l.length c) l → Calls Try.prog 21 #[.slice q l.length c] w1 fun e w' => e = .returned (.tuple #[.int .i64 (sumP l), .int .i64 0]) ∧ Below w1.heap.size w1 w') := by
    intro w1 h1
    have := many_any _ l w1 h1
    rwa [hm1.1, hm1.2] at this
  have HM2 : Hid (∀ w1 v, PIn w1 v (joinN l) → Calls Try.prog 21 #[v] w1 fun e w' => e = .returned (.tuple #[.int .i64 (sumP l), .int .i64 0]) ∧ Below w1.heap.size w1 w') := by
    intro w1 v h1
    have := many_any v _ w1 h1
    rwa [hm2.1, hm2.2, join_sum hg] at this
  have HJ2 : Hid (∀ w1 v, PIn w1 v (joinN l) → Calls Try.prog 11 #[v] w1 (ListPost (joinN l) 0 w1)) := by
    intro w1 v h1
    have := join_any v _ w1 h1
    rwa [show resJ (joinN l) = joinN l from by unfold resJ; rw [if_pos hm2.2, join_twice], hm2.2] at this
  have HCN : Hid (∀ n : Nat, n < 4096 → addC (fun _ => 0) (secs (joinN l)) n = addC (fun _ => 0) (secs l) n) := fun n hn => join_count hg _ _ (by omega)
  have HAP : Hid (∀ k, k + 1 < (joinN l).length → ((joinN l).getD k (0, 0)).1 + ((joinN l).getD k (0, 0)).2 < ((joinN l).getD (k + 1) (0, 0)).1) := fun k hk => join_apart l hk
  have HJW : Hid (∀ p ∈ joinN l, Wn ((4096 : Nat) : Int) p) := join_wn l
  have HLW : Hid (∀ p ∈ l, Wn ((4096 : Nat) : Int) p) := hg.wn
  have HWF : Hid (Wf (joinN l)) := (join_good l).wf (by omega)
  have hjl := join_len l
  clear hz hg h2 hm1 hm2
  generalize joinN l = J at *
  have hss : (sumP l != sumP l) = false := by simp
  generalize sumP l = S at *
  go_enter Try.func8, Try.ntmps8
  go_wp2_with fail
  refine (alive_any _).mono ?_
  rintro e w1 ⟨rfl, hb1⟩
  replace HL : Hid (PIn w1 (.slice q l.length c) l) := HL.out.below hb1
  have bel : Below w.heap.size w w1 := hb1
  go_wp2_with fail
  refine (HJ.out _ HL.out).mono ?_
  rintro e w2 ⟨qj, cj, rfl, hoj, hb2⟩
  replace HL : Hid (PIn w2 (.slice q l.length c) l) := HL.out.below hb2
  replace bel : Below w.heap.size w w2 := below_bt bel hb2
  have FJ : Hid (PIn w2 (.slice qj (List.length (α := Int × Int) J) cj) J) := hoj.pin HWF.out
  clear hoj
  go_wp2_with fail
  refine (HM1.out _ HL.out).mono ?_
  rintro e w3 ⟨rfl, hb3⟩
  replace HL : Hid (PIn w3 (.slice q l.length c) l) := HL.out.below hb3
  replace FJ : Hid (PIn w3 (.slice qj (List.length (α := Int × Int) J) cj) J) := FJ.out.below hb3
  replace bel : Below w.heap.size w w3 := below_bt bel hb3
  go_wp2_with fail
  refine (HM2.out _ _ FJ.out).mono ?_
  rintro e w4 ⟨rfl, hb4⟩
  replace HL : Hid (PIn w4 (.slice q l.length c) l) := HL.out.below hb4
  replace FJ : Hid (PIn w4 (.slice qj (List.length (α := Int × Int) J) cj) J) := FJ.out.below hb4
  replace bel : Below w.heap.size w w4 := below_bt bel hb4
  go_wp2
  go_cut [10, 11] from 58 (fun s10 s11 w5 => ∃ ga gb N, 4096 ≤ N ∧ N ≤ 4096 ∧ s10 = .slice (some ⟨ga, 0, none⟩) N N ∧ s11 = .slice (some ⟨gb, 0, none⟩) N N ∧ Two w4 N ga gb w5)
  case first =>
    refine wp_region_noPanic ?_
    refine wp_region_held_drew (S := fun _ => True) (by kernel_rfl) trivial (fun hS0 => ?_)
    refine wpAnyH_ready (rs := [0, 1]) (by kernel_rfl) (by simp) ?_
    refine AllReadyH.cons rfl (fun K hK => ?_) (AllReadyH.cons rfl (fun K hK => ?_) AllReadyH.nil)
    · refine step_make (by rfl) (.const (.int .i64 4096)) (.const (.int .i64 4096)) 30 (by rfl) w4.drew.heap.size 3 i0 (.int .i64 0) 1 Try.underlying30 hi hz0 hz1 .i64 .i64 4096 4096 4096 (by rfl) (by rfl) rfl rfl (by rw [hz2]; decide) (by unfold maxLen; decide) (Nat.le_refl _) ?_
      intro y1 ho1 hg1
      have ra1 := made_row ho1
      have hby1 : Below w4.drew.heap.size w4.drew y1 := (Below.refl _ _).grown hg1 (Nat.le_refl _) (fun k hk => by cases hk)
      have lt1 := (ho1.lt _ rfl).2
      clear ho1 hg1
      refine hK.out _ _ (show True from trivial) (fun hS1 => ?_)
      clear hK K
      show wpAnyH _ _ _ _ _ _ _ (Act.put _ (some 58) _) _
      simp only [Act.put, List.setIfInBounds_toArray, List.set_cons_zero, List.set_cons_succ]
      refine takeH 2 10 (v := ?_) rfl rfl (by kernel_rfl) (by kernel_rfl) (by kernel_rfl) (fun _ _ _ h => h) (by rfl) ?_ (by assumption) ?_
      rotate_left
      · intro w hSw; go_simp; first | done | with_reducible rfl
      simp only [Act.put, List.setIfInBounds_toArray, List.set_cons_zero, List.set_cons_succ]
      refine wpAnyH_ready (rs := [1]) (by kernel_rfl) (by simp) ?_
      refine AllReadyH.cons rfl (fun K hK => ?_) AllReadyH.nil
      refine step_make (by rfl) (.const (.int .i64 4096)) (.const (.int .i64 4096)) 30 (by rfl) y1.heap.size 3 i0 (.int .i64 0) 1 Try.underlying30 hi hz0 hz1 .i64 .i64 4096 4096 4096 (by rfl) (by rfl) rfl rfl (by rw [hz2]; decide) (by unfold maxLen; decide) (Nat.le_refl _) ?_
      intro y2 ho2 hg2
      have ra2 := made_row ho2
      have hby2 : Below y1.heap.size y1 y2 := (Below.refl _ _).grown hg2 (Nat.le_refl _) (fun k hk => by cases hk)
      have lt2 := (ho2.lt _ rfl).2
      clear ho2 hg2
      refine hK.out _ _ (show True from trivial) (fun hS2 => ?_)
      clear hK K
      show wpAnyH _ _ _ _ _ _ _ (Act.put _ (some 59) _) _
      simp only [Act.put, List.setIfInBounds_toArray, List.set_cons_zero, List.set_cons_succ]
      refine takeH 3 11 (v := ?_) rfl rfl (by kernel_rfl) (by kernel_rfl) (by kernel_rfl) (fun _ _ _ h => h) (by rfl) ?_ (by assumption) ?_
      rotate_left
      · intro w hSw; go_simp; first | done | with_reducible rfl
      simp only [Act.put, List.setIfInBounds_toArray, List.set_cons_zero, List.set_cons_succ]
      refine wpAnyH_done (by kernel_rfl) (NoPanic.normal ?_) _
      have hs1 := hby1.size
      go_wp2
      go_meet
      case rel =>
        exact ⟨w4.drew.heap.size, y1.heap.size, 4096, Nat.le_refl _, Nat.le_refl _, rfl, rfl, ⟨by simp only [World.drew] at *; omega, by simp only [World.drew] at *; omega, by simp only [World.drew] at *; omega, (ra1.below hby2), ra2, below_bt (show Below w4.heap.size w4 w4.drew from (Below.refl _ _).drew) (below_bt hby1 hby2)⟩⟩
    · refine step_make (by rfl) (.const (.int .i64 4096)) (.const (.int .i64 4096)) 30 (by rfl) w4.drew.heap.size 3 i0 (.int .i64 0) 1 Try.underlying30 hi hz0 hz1 .i64 .i64 4096 4096 4096 (by rfl) (by rfl) rfl rfl (by rw [hz2]; decide) (by unfold maxLen; decide) (Nat.le_refl _) ?_
      intro y1 ho1 hg1
      have ra1 := made_row ho1
      have hby1 : Below w4.drew.heap.size w4.drew y1 := (Below.refl _ _).grown hg1 (Nat.le_refl _) (fun k hk => by cases hk)
      have lt1 := (ho1.lt _ rfl).2
      clear ho1 hg1
      refine hK.out _ _ (show True from trivial) (fun hS1 => ?_)
      clear hK K
      show wpAnyH _ _ _ _ _ _ _ (Act.put _ (some 59) _) _
      simp only [Act.put, List.setIfInBounds_toArray, List.set_cons_zero, List.set_cons_succ]
      refine wpAnyH_ready (rs := [0]) (by kernel_rfl) (by simp) ?_
      refine AllReadyH.cons rfl (fun K hK => ?_) AllReadyH.nil
      refine step_make (by rfl) (.const (.int .i64 4096)) (.const (.int .i64 4096)) 30 (by rfl) y1.heap.size 3 i0 (.int .i64 0) 1 Try.underlying30 hi hz0 hz1 .i64 .i64 4096 4096 4096 (by rfl) (by rfl) rfl rfl (by rw [hz2]; decide) (by unfold maxLen; decide) (Nat.le_refl _) ?_
      intro y2 ho2 hg2
      have ra2 := made_row ho2
      have hby2 : Below y1.heap.size y1 y2 := (Below.refl _ _).grown hg2 (Nat.le_refl _) (fun k hk => by cases hk)
      have lt2 := (ho2.lt _ rfl).2
      clear ho2 hg2
      refine hK.out _ _ (show True from trivial) (fun hS2 => ?_)
      clear hK K
      show wpAnyH _ _ _ _ _ _ _ (Act.put _ (some 58) _) _
      simp only [Act.put, List.setIfInBounds_toArray, List.set_cons_zero, List.set_cons_succ]
      refine takeH 2 10 (v := ?_) rfl rfl (by kernel_rfl) (by kernel_rfl) (by kernel_rfl) (fun _ _ _ h => h) (by rfl) ?_ (by assumption) ?_
      rotate_left
      · intro w hSw; go_simp; first | done | with_reducible rfl
      simp only [Act.put, List.setIfInBounds_toArray, List.set_cons_zero, List.set_cons_succ]
      refine takeH 3 11 (v := ?_) rfl rfl (by kernel_rfl) (by kernel_rfl) (by kernel_rfl) (fun _ _ _ h => h) (by rfl) ?_ (by assumption) ?_
      rotate_left
      · intro w hSw; go_simp; first | done | with_reducible rfl
      simp only [Act.put, List.setIfInBounds_toArray, List.set_cons_zero, List.set_cons_succ]
      refine wpAnyH_done (by kernel_rfl) (NoPanic.normal ?_) _
      have hs1 := hby1.size
      go_wp2
      go_meet
      case rel =>
        exact ⟨y1.heap.size, w4.drew.heap.size, 4096, Nat.le_refl _, Nat.le_refl _, rfl, rfl, ⟨by simp only [World.drew] at *; omega, by simp only [World.drew] at *; omega, by simp only [World.drew] at *; omega, ra2, (ra1.below hby2), below_bt (show Below w4.heap.size w4 w4.drew from (Below.refl _ _).drew) (below_bt hby1 hby2)⟩⟩
  case rest =>
    obtain ⟨ga, gb, N, hN1, hN2, rfl, rfl, hT⟩ := hcut
    have HT : Hid (Two w4 N ga gb wc) := hT
    have HNN : Hid ((N : Int) = ((4096 : Nat) : Int)) := by show _ = _; omega
    replace HJW : Hid (∀ p ∈ J, Wn (N : Int) p) := by show ∀ p ∈ J, Wn (N : Int) p; rw [HNN.out]; exact HJW.out
    replace HLW : Hid (∀ p ∈ l, Wn (N : Int) p) := by show ∀ p ∈ l, Wn (N : Int) p; rw [HNN.out]; exact HLW.out
    clear hT
    have HKa : Hid (∀ w', wc.grownBy w' (some ga) → Below w4.heap.size w4 w') := fun w' hg => HT.out.bel.grown hg HT.out.bel.size (fun k hk => by simp only [Option.some.injEq] at hk; subst hk; exact HT.out.la)
    go_wp2_with fail
    refine (marks_any ga N (fun _ => 0) _ l wc (HL.out.below HT.out.bel) (fun w' hg => HL.out.below (HKa.out w' hg)) HT.out.ra HLW.out hln hN2 (fun _ => by simp)).mono ?_
    rintro e w5 ⟨rfl, ha5, hg5⟩
    have A5 : Hid (IAt w5 ga (addC (fun _ => 0) (secs l)) N) := ha5
    have B5 : Hid (IAt w5 gb (fun _ => 0) N) := HT.out.rb.grown hg5 (fun e => HT.out.ne (by simpa using e.symm))
    have K5 : Hid (Below w4.heap.size w4 w5) := HKa.out _ hg5
    have HKb : Hid (∀ w', w5.grownBy w' (some gb) → Below w4.heap.size w4 w') := fun w' hg => K5.out.grown hg K5.out.size (fun k hk => by simp only [Option.some.injEq] at hk; subst hk; exact HT.out.lb)
    clear ha5 hg5 HKa HL
    go_wp2_with fail
    refine (marks_any gb N (fun _ => 0) _ J w5 (FJ.out.below K5.out) (fun w' hg => FJ.out.below (HKb.out w' hg)) B5.out HJW.out hjl hN2 (fun _ => by simp)).mono ?_
    rintro e w6 ⟨rfl, hb6, hg6⟩
    have B6 : Hid (IAt w6 gb (addC (fun _ => 0) (secs J)) N) := hb6
    have A6 : Hid (IAt w6 ga (addC (fun _ => 0) (secs l)) N) := A5.out.grown hg6 (fun e => HT.out.ne (by simpa using e))
    have K6 : Hid (Below w4.heap.size w4 w6) := HKb.out _ hg6
    have F6 : Hid (PIn w6 (.slice qj (List.length (α := Int × Int) J) cj) J) := FJ.out.below K6.out
    clear hb6 hg6 HKb A5 B5 K5 FJ HT
    go_wp2
    go_loopw [12] (fun i wr => ∃ k : Nat, k ≤ N ∧ i = .int .i64 k ∧ Below w6.heap.size w6 wr) (fun i _ => N - (intOf i).toNat)
    case atStart => exact ⟨0, by omega, rfl, Below.refl _ _⟩
    case round =>
      obtain ⟨k, hk, rfl, hbel⟩ := hrel
      by_cases hkl : k < N
      · have hki : (k : Int) < 4096 := by omega
        have x1 := (A6.out.below hbel).cell (i := k) (by omega)
        have x2 := (B6.out.below hbel).cell (i := k) (by omega)
        rw [HCN.out k (by omega)] at x2
        generalize addC (fun _ => 0) (secs l) (k : Nat) = X at *
        have hxx : (X != X) = false := by simp
        have HB2 : Hid (∀ m, Below w6.heap.size w6 (wr.drewN m)) := fun m => hbel.grown (grown_drew _ _ none) hbel.size (fun k hk => by cases hk)
        clear A6 B6 hbel HCN
        go_wp2
        go_quiet (fail)
        go_wp2
        go_roundw
        case rel => exact ⟨k + 1, by omega, by go_num, HB2.out _⟩
        case measure => simp [intOf]; omega
      · obtain rfl : k = N := by omega
        have hki : ¬ ((k : Int) < 4096) := by omega
        have B7 : Hid (Below w6.heap.size w6 wr) := hbel
        clear hbel HCN A6 B6
        go_wp2
        go_loopw [13] (fun i wx => ∃ j : Nat, i = .int .i64 ((j : Int) + 1) ∧ (j < J.length ∨ j = 0) ∧ Below w6.heap.size w6 wx) (fun i _ => J.length + 1 - (intOf i).toNat)
        case atStart => exact ⟨0, rfl, .inr rfl, B7.out⟩
        case round =>
          clear B7
          obtain ⟨j, rfl, hj, hbel⟩ := hrel
          obtain ⟨q', c', e', hq', hc', hm', _⟩ := (F6.out.below hbel).lies
          simp only [Value.slice.injEq] at e'
          obtain ⟨rfl, _, rfl⟩ := e'
          unfold maxLen at hm'
          by_cases hjl : j + 1 < J.length
          · obtain ⟨b, o, rfl⟩ := hq'.addr (by omega)
            obtain ⟨x1, x2⟩ := hq'.at (k := j) (by omega)
            obtain ⟨y1, y2⟩ := hq'.at (k := j + 1) hjl
            have r5 := HAP.out j hjl
            have s1 := HJW.out _ (getD_mem' (d := (0, 0)) (show j < J.length by omega))
            have HB2 : Hid (∀ m, Below w6.heap.size w6 (wr.drewN m)) := fun m => hbel.grown (grown_drew _ _ none) hbel.size (fun k hk => by cases hk)
            clear hq' hbel
            generalize J.getD (j + 1) (0, 0) = y at *
            generalize J.getD j (0, 0) = z at *
            obtain ⟨a, m⟩ := y
            obtain ⟨a0, m0⟩ := z
            unfold Wn at s1
            simp only at x1 x2 y1 y2 r5 s1
            have d3 : decide (a ≤ a0 + m0) = false := decide_eq_false (by omega)
            go_wp2
            go_quiet (fail)
            go_wp2
            go_roundw
            case rel => exact ⟨j + 1, by go_num, .inl hjl, HB2.out _⟩
            case measure => simp [intOf]; omega
          · have B8 : Hid (Below w6.heap.size w6 wr) := hbel
            have F8 : Hid (PIn wr (.slice qj (List.length (α := Int × Int) J) cj) J) := F6.out.below hbel
            clear hq' hbel HAP F6
            go_wp2_with fail
            refine (HJ2.out _ _ F8.out).mono ?_
            rintro e w9 ⟨q9, c9, rfl, ho9, hb9⟩
            have F9 : Hid (PIn w9 (.slice q9 (List.length (α := Int × Int) J) c9) J) := ho9.pin HWF.out
            have G9 : Hid (PIn w9 (.slice qj (List.length (α := Int × Int) J) cj) J) := F8.out.below hb9
            clear ho9 F8
            go_wp2_with fail
            refine (same_any _ _ J J _ F9.out G9.out).mono ?_
            rintro e wz ⟨rfl, hbz⟩
            rw [sameB_yes rfl]
            go_wp2
            go_ret
            exact ⟨rfl, below_bt bel (below_bt K6.out (below_bt B8.out (below_bt hb9 hbz)))⟩

theorem walk (v : Value) (l : Pcs) (w : World) (hl : PIn w v l) :
    Calls Try.prog 8 #[v] w fun e w' => e = .returned (.bool true) ∧ Below w.heap.size w w' := by
  obtain ⟨q, c, rfl, _⟩ := hl.lies
  by_cases h2 : errK 4096 l = 0
  · exact walk_ok q l c w hl h2
  · exact walk_bad q l c w hl h2

/-! ### THE ROW's STEP -/
set_option maxRecDepth 100000 in
theorem lifted (os : Os) (started : os.Started) (H : Type) (enc : TypeId × Value → H) :
    ReturnsInHanded {} Try.checked os 8 .any (Rows.roomJoinedSpec.pre6 enc Try.prog Try.f8 Rows.roomJoinedRow.domain false) (Rows.roomJoinedSpec.post enc Try.prog Try.f8 false true false false) := by
  refine returnsInHanded_of_change (C := Try.checked) own started (by kernel_rfl) Try.func8
    (ChangeSpec.witness6 (enc := enc) (C := Try.checked) false ⟨#[], #[.slice none 0 0], []⟩ 8 (by kernel_rfl) (by kernel_rfl) (by kernel_rfl) (by kernel_rfl)) ?_
  intro W base args ds gs before hval0 hW hcnd _
  have hval : ∀ (j : Nat) t v, Try.f8.params[j]? = some t → args[j]? = some v → Value.okWide Try.prog W .any base t v := hval0
  have hW' := hW
  obtain ⟨p, q, hA0, hV, rfl, hfz, hnd⟩ := hW
  have hA : DataW.TrodAll enc Try.prog W 0 (fun _ => true) true Try.f8.params.toList args.toList ds p := hA0
  rw [Try.params8] at hA hval
  obtain ⟨v0, vs0, d0, ds0, p0, q0, hargs, rfl, rfl, h0, r0⟩ := trodAll_cons hA
  obtain ⟨rfl, rfl, rfl⟩ := trodAll_nil r0
  obtain rfl : args = #[v0] := by cases args; simp_all
  obtain ⟨rfl, rfl⟩ := trodVars_none hV
  have k0 := h0
  have lt0 : ∀ x ∈ p0, x.block < W.heap.size := by obtain ⟨m, hm⟩ := k0; exact DataW.trod_lt m _ _ _ hm
  obtain ⟨qa0, la0, ca0, rfl⟩ := okWide_slice Try.underlying22 (hval 0 22 v0 rfl rfl)
  obtain ⟨fu0, hf0⟩ := h0
  obtain ⟨l0, w0⟩ := open_pcs Try.underlying22 Try.underlying29 (by kernel_rfl) rfl rfl (by kernel_rfl) (by kernel_rfl) Try.underlying3 Try.underlying3 hf0
  clear hA0 hval0
  refine (walk (.slice qa0 la0 ca0) l0 W w0).mono fun e W' ⟨he, bel⟩ => ?_
  subst he
  exact ⟨_, rfl, _, _, _, [], _, [], hW', trodAll_mk1 (shut_bool Try.underlying4 _), (trodAll_cons_mk (Below.trod laidOut (by kernel_rfl) (of_decide_eq_true (by kernel_rfl)) k0 bel lt0) trodAll_mk0), rfl, bel.frame _, fun h => by cases h⟩

theorem over : Rows.roomJoinedRow.holds Try.pinned (OpenSpec.ofChange Rows.roomJoinedSpec) :=
  OpenClaim.holds_of_wide 8 Try.f8 rfl rfl rfl rfl rfl rfl rfl ⟨rfl, rfl, rfl, rfl, rfl⟩ rfl rfl rfl rfl rfl (by kernel_rfl) Try.func8 (by kernel_rfl)
    (of_decide_eq_true (by kernel_rfl)) (by unfold Func.isWrapper; first | (rw [if_pos (by decide +kernel)]; kernel_rfl) | (rw [if_neg (by decide +kernel)]; exact ⟨rfl, rfl⟩))
    (fun os started H enc _ => lifted os started H enc)

theorem proved : Rows.RoomJoinedSaid := over
end Go.Proofs.Ytfplpdnhhefbaaa.roomJoined
namespace Go.Proofs.Ytfplpdnhhefbaaa
theorem roomJoined_holds : Rows.RoomJoinedSaid := roomJoined.proved
#print axioms roomJoined_holds
end Go.Proofs.Ytfplpdnhhefbaaa
