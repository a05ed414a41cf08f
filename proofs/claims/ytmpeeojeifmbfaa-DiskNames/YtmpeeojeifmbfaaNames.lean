/-
  Proved: the law DiskNames answers true: the limits and errors have their numbers, and the chapter's examples are so.
  Conditions: none (it takes no input).
-/
import Derived.Test.YtmpeeojeifmbfaaRows
import Derived.Test.YtmpeeojeifmbfaaDMore
import Derived.WalkKit
import Derived.ProofKit
import Derived.OpenShut
import Derived.ShutString
import Derived.ChangeOld
import Derived.Below
namespace Go.Proofs.Ytmpeeojeifmbfaa.diskNames
open Go.ChangeShapes Go.WideShapes Go.ChangeAt Go.RowKit
open Go.ChangeMaps (open_string shut_string)
set_option linter.unusedVariables false

theorem own : ownKnob Try.prog.godebug = none := by kernel_rfl
theorem laidOut : laidOutB Try.prog = true := by kernel_rfl

open Go.Joins
/-- Three sectors that were read, read as strings. -/
theorem keepN {WS w' : World} {g6 g7 g8 : Nat} {x y z : Nat} (h6 : BIn WS (some ⟨g6, 0, none⟩) (onesL x)) (h7 : BIn WS (some ⟨g7, 0, none⟩) (onesL y)) (h8 : BIn WS (some ⟨g8, 0, none⟩) (onesL z)) (hb : Below WS.heap.size WS w') :
    (convert 22 9 (.slice (some ⟨g6, 0, none⟩) 128 128)).run Try.prog w' = .ok (.string (strOf (onesL x))) w' ∧ (convert 22 9 (.slice (some ⟨g7, 0, none⟩) 128 128)).run Try.prog w' = .ok (.string (strOf (onesL y))) w' ∧ (convert 22 9 (.slice (some ⟨g8, 0, none⟩) 128 128)).run Try.prog w' = .ok (.string (strOf (onesL z))) w' ∧ Hid (Below WS.heap.size WS w') :=
  ⟨conv_at (h6.below hb) (onesL_len x), conv_at (h7.below hb) (onesL_len y), conv_at (h8.below hb) (onesL_len z), hb⟩
def zero127 : List Nat := List.replicate 127 0
theorem zeros127 : (madeCells (Value.int .u8 0).cells (127 * 1)).toList = Bs zero127 := by
  rw [Nat.mul_one]
  exact zeros_made 127
theorem zero127_len : 127 = zero127.length := by simp only [zero127, List.length_replicate]
theorem zero127_mem : ∀ c ∈ zero127, c < 256 := fun c hc => by rw [(List.mem_replicate.1 hc).2]; decide
theorem names_bad : stepA 2 (zeroL 2, [(1, onesL 1)]) (false, 0, zero127) = .error 8 := by
  simp [stepA, ← zero127_len]
theorem zero_in (w : World) : DiskIn w zeroDisk 0 [] [] :=
  ⟨⟨_, none, 0, rfl, ⟨none, 0, rfl, ⟨fun h => absurd h (by simp), by simp⟩, by simp, by unfold maxLen; omega, fun _ => rfl⟩, fun h => absurd h (by simp), by simp, by unfold maxLen; omega, fun _ => rfl⟩, by decide, by simp⟩
theorem zero_bad : ¬ Okay 0 [] [] := fun h => absurd h.lo (by decide)
attribute [local go_sem ↓] Go.wp_at_zero Go.wp_at_succ
set_option maxRecDepth 4000 in
set_option maxHeartbeats 8000000 in
theorem walk (w : World) : Calls Try.prog 3 #[] w fun e w' => e = .returned (.bool true) ∧ Below w.heap.size w w' := by
  go_enter Try.func3, Try.ntmps3
  go_wp2_with fail
  refine (new_at 2 _ (by decide) (by decide)).mono ?_
  rintro e w1 ⟨v1, rfl, hn1, hb1⟩
  obtain ⟨g1, L1, q1, M1, m1, rfl⟩ := hn1.form
  have HN1 : Hid _ := hn1
  clear hn1
  go_wp2
  obtain ⟨W, hW⟩ : ∃ W, W = w1.alloc (.cells #[.int .i64 2, .slice (some ⟨g1, 0, none⟩) L1 L1, .slice q1 M1 m1] 25) := ⟨_, rfl⟩
  have HH : Hid (W.heap[w1.heap.size]? = some (.cells #[.int .i64 2, .slice (some ⟨g1, 0, none⟩) L1 L1, .slice q1 M1 m1] 25 (0, 0))) := by rw [hW]; exact heap_alloc_new _ _
  have HDx : Hid (∀ w', Below W.heap.size W w' → DiskIn w' (.agg #[.int .i64 2, .slice (some ⟨g1, 0, none⟩) L1 L1, .slice q1 M1 m1]) 2 (zeroL 2) []) := by
    intro w' h
    rw [hW] at h
    exact ((HN1.out.below (below_alloc _ _)).below h).toIn (okay_new 2 (by decide) (by decide))
  have HBW : Hid (∀ w', Below W.heap.size W w' → Below w.heap.size w w') := by
    intro w' h
    rw [hW] at h
    exact (hb1.alloc hb1.size _).trans (h.mono (by rw [World.size_alloc]; have := hb1.size; omega))
  rw [← hW]
  clear hW HN1
  have HOK : Hid _ := okay_new 2 (by decide) (by decide)
  have HST : Hid _ := alive_step
  have HS1 : (W.drew.cell? ⟨w1.heap.size, 0, none⟩ = some (.int .i64 2) ∧ W.drew.cell? ⟨w1.heap.size, 1, none⟩ = some (.slice (some ⟨g1, 0, none⟩) L1 L1) ∧ W.drew.cell? ⟨w1.heap.size, 2, none⟩ = some (.slice q1 M1 m1)) ∧ Hid (Below W.heap.size W W.drew) := ⟨cells3 HH.out, (Below.refl _ _).drew⟩
  go_cut [3, 4] from 25 (fun s3 s4 w5 => ∃ B gd L q M m, s3 = .pointer (some ⟨B, 0, none⟩) ∧ s4 = .int .i64 0 ∧ w5.heap[B]? = some (.cells #[.int .i64 2, .slice (some ⟨gd, 0, none⟩) L L, .slice q M m] 25 (0, 0)) ∧ DiskNew w5 0 (.agg #[.int .i64 2, .slice (some ⟨gd, 0, none⟩) L L, .slice q M m]) 2 (zeroL 2) [(1, onesL 1)] ∧ Below w.heap.size w w5)
  case first =>
    refine wp_region_noPanic ?_
    refine wp_region_held_drew (S := (fun w' => (w'.cell? ⟨w1.heap.size, 0, none⟩ = some (.int .i64 2) ∧ w'.cell? ⟨w1.heap.size, 1, none⟩ = some (.slice (some ⟨g1, 0, none⟩) L1 L1) ∧ w'.cell? ⟨w1.heap.size, 2, none⟩ = some (.slice q1 M1 m1)) ∧ Hid (Below W.heap.size W w'))) (by kernel_rfl) HS1 (fun hS0 => ?_)
    clear HS1
    refine takeH 0 30 (v := ?_) rfl rfl (by kernel_rfl) (by kernel_rfl) (by kernel_rfl) (fun _ _ _ h => h) (by rfl) ?_ (by assumption) ?_
    rotate_left
    · intro w hSw; go_simp; first | done | with_reducible rfl
    simp only [Act.put, List.setIfInBounds_toArray, List.set_cons_zero, List.set_cons_succ]
    refine wpAnyH_ready (rs := [1, 6]) (by kernel_rfl) (by simp) ?_
    refine AllReadyH.cons rfl (fun K hK => ?_) (AllReadyH.cons rfl (fun K hK => ?_) AllReadyH.nil)
    · go_simp
      refine (ones_at 1 _).mono ?_
      rintro e wo1 ⟨go, rfl, hgo, hro, hb1⟩
      go_simp
      refine hK.out _ _ (keepS (Nat.le_refl _) hS0 hb1) (fun hS1 => ?_)
      clear hK K
      refine wpAnyH_ready (rs := [2, 6]) (by kernel_rfl) (by simp) ?_
      refine AllReadyH.cons rfl (fun K hK => ?_) (AllReadyH.cons rfl (fun K hK => ?_) AllReadyH.nil)
      · go_simp
        refine (write_at _ 1 (some ⟨go, 0, none⟩) 128 128 (onesL 1) 2 (zeroL 2) [] _ (HDx.out _ hS1.2.out) HOK.out (bin_row hro (onesL_mem 1 (by decide))) (onesL_len 1) (by decide) (by unfold maxLen; decide) (fun h => by cases h) _ _ HST.out).mono ?_
        rintro e ww2 ⟨⟨v', rfl, hnew⟩, hb2⟩
        obtain ⟨gd, L, q, M, m, rfl⟩ := hnew.form
        go_simp
        refine hK.out _ _ (keepS (Nat.le_refl _) hS1 hb2) (fun hS2 => ?_)
        clear hK K
        refine takeH 3 29 (v := ?_) rfl rfl (by kernel_rfl) (by kernel_rfl) (by kernel_rfl) (fun _ _ _ h => h) (by rfl) ?_ (by assumption) ?_
        rotate_left
        · intro w hSw; go_simp; first | done | with_reducible rfl
        simp only [Act.put, List.setIfInBounds_toArray, List.set_cons_zero, List.set_cons_succ]
        refine takeH 4 33 (v := ?_) rfl rfl (by kernel_rfl) (by kernel_rfl) (by kernel_rfl) (fun _ _ _ h => h) (by rfl) ?_ (by assumption) ?_
        rotate_left
        · intro w hSw; go_simp; first | done | with_reducible rfl
        simp only [Act.put, List.setIfInBounds_toArray, List.set_cons_zero, List.set_cons_succ]
        refine takeH 5 34 (v := ?_) rfl rfl (by kernel_rfl) (by kernel_rfl) (by kernel_rfl) (fun _ _ _ h => h) (by rfl) ?_ (by assumption) ?_
        rotate_left
        · intro w hSw; go_simp; first | done | with_reducible rfl
        simp only [Act.put, List.setIfInBounds_toArray, List.set_cons_zero, List.set_cons_succ]
        refine wpAnyH_ready (rs := [6]) (by kernel_rfl) (by simp) ?_
        refine AllReadyH.cons rfl (fun K hK => ?_) AllReadyH.nil
        have hb3 := below_alloc ww2 (.cells #[.int .i64 0, .slice none 0 0, .slice none 0 0] 25)
        go_simp
        refine hK.out _ _ (keepS (Nat.le_refl _) hS2 hb3) (fun hS3 => ?_)
        clear hK K
        refine wpAnyH_ready (rs := [7]) (by kernel_rfl) (by simp) ?_
        refine AllReadyH.cons rfl (fun K hK => ?_) AllReadyH.nil
        go_simp
        refine hK.out _ _ (keepA (Nat.le_refl _) hS2 _) (fun hSz => ?_)
        clear hK K
        refine takeH 8 4 (v := ?_) rfl rfl (by kernel_rfl) (by kernel_rfl) (by kernel_rfl) (fun _ _ _ h => h) (by rfl) ?_ (by assumption) ?_
        rotate_left
        · intro w hSw; go_simp; first | done | with_reducible rfl
        simp only [Act.put, List.setIfInBounds_toArray, List.set_cons_zero, List.set_cons_succ]
        refine wpAnyH_done (by kernel_rfl) (NoPanic.normal ?_) _
        go_wp2
        go_meet
        case rel =>
          exact ⟨_, gd, L, q, M, m, rfl, rfl, heap_alloc_new _ _, ((hnew).below (below_alloc _ _)).mono (Nat.zero_le _), HBW.out _ hSz.2.out⟩
      · have hb2 := below_alloc wo1 (.cells #[.int .i64 0, .slice none 0 0, .slice none 0 0] 25)
        go_simp
        refine hK.out _ _ (keepS (Nat.le_refl _) hS1 hb2) (fun hS2 => ?_)
        clear hK K
        refine wpAnyH_ready (rs := [2]) (by kernel_rfl) (by simp) ?_
        refine AllReadyH.cons rfl (fun K hK => ?_) AllReadyH.nil
        go_simp
        refine (write_at _ 1 (some ⟨go, 0, none⟩) 128 128 (onesL 1) 2 (zeroL 2) [] _ (HDx.out _ hS2.2.out) HOK.out (bin_row (((hb2).block _ (lt_heap hro)).trans hro) (onesL_mem 1 (by decide))) (onesL_len 1) (by decide) (by unfold maxLen; decide) (fun h => by cases h) _ _ HST.out).mono ?_
        rintro e ww3 ⟨⟨v', rfl, hnew⟩, hb3⟩
        obtain ⟨gd, L, q, M, m, rfl⟩ := hnew.form
        go_simp
        refine hK.out _ _ (keepS (Nat.le_refl _) hS2 hb3) (fun hS3 => ?_)
        clear hK K
        refine takeH 3 29 (v := ?_) rfl rfl (by kernel_rfl) (by kernel_rfl) (by kernel_rfl) (fun _ _ _ h => h) (by rfl) ?_ (by assumption) ?_
        rotate_left
        · intro w hSw; go_simp; first | done | with_reducible rfl
        simp only [Act.put, List.setIfInBounds_toArray, List.set_cons_zero, List.set_cons_succ]
        refine takeH 4 33 (v := ?_) rfl rfl (by kernel_rfl) (by kernel_rfl) (by kernel_rfl) (fun _ _ _ h => h) (by rfl) ?_ (by assumption) ?_
        rotate_left
        · intro w hSw; go_simp; first | done | with_reducible rfl
        simp only [Act.put, List.setIfInBounds_toArray, List.set_cons_zero, List.set_cons_succ]
        refine takeH 5 34 (v := ?_) rfl rfl (by kernel_rfl) (by kernel_rfl) (by kernel_rfl) (fun _ _ _ h => h) (by rfl) ?_ (by assumption) ?_
        rotate_left
        · intro w hSw; go_simp; first | done | with_reducible rfl
        simp only [Act.put, List.setIfInBounds_toArray, List.set_cons_zero, List.set_cons_succ]
        refine wpAnyH_ready (rs := [7]) (by kernel_rfl) (by simp) ?_
        refine AllReadyH.cons rfl (fun K hK => ?_) AllReadyH.nil
        have hZ : ww3.heap[wo1.heap.size]? = some (.cells #[.int .i64 0, .slice none 0 0, .slice none 0 0] 25 (0, 0)) := ((hb3).block _ (by first | (rw [World.size_alloc]; exact Nat.lt_succ_self _) | (show _ < (World.alloc _ _).heap.size; rw [World.size_alloc]; exact Nat.lt_succ_self _))).trans (heap_alloc_new _ _)
        obtain ⟨z0, z1, z2⟩ := cells3 hZ
        obtain ⟨y0, y1, y2⟩ := free3 hZ
        have HZ : Hid _ := hZ
        clear hZ
        have szB := hS1.2.out.size
        have szX := lt_heap HH.out
        go_simp
        refine hK.out _ _ (keep3 hS3 ⟨Nat.ne_of_lt (Nat.lt_of_lt_of_le szX szB), szB⟩ _ _ _) (fun hSz => ?_)
        clear hK K
        refine takeH 8 4 (v := ?_) rfl rfl (by kernel_rfl) (by kernel_rfl) (by kernel_rfl) (fun _ _ _ h => h) (by rfl) ?_ (by assumption) ?_
        rotate_left
        · intro w hSw; go_simp; first | done | with_reducible rfl
        simp only [Act.put, List.setIfInBounds_toArray, List.set_cons_zero, List.set_cons_succ]
        refine wpAnyH_done (by kernel_rfl) (NoPanic.normal ?_) _
        go_wp2
        go_meet
        case rel =>
          exact ⟨_, gd, L, q, M, m, rfl, rfl, set3_same _ _ _ _ _ _ _ _ _ HZ.out, ((hnew).set3 HZ.out _ _ _).mono (Nat.zero_le _), HBW.out _ hSz.2.out⟩
    · have hb1 := below_alloc W.drew (.cells #[.int .i64 0, .slice none 0 0, .slice none 0 0] 25)
      go_simp
      refine hK.out _ _ (keepS (Nat.le_refl _) hS0 hb1) (fun hS1 => ?_)
      clear hK K
      refine wpAnyH_ready (rs := [1]) (by kernel_rfl) (by simp) ?_
      refine AllReadyH.cons rfl (fun K hK => ?_) AllReadyH.nil
      go_simp
      refine (ones_at 1 _).mono ?_
      rintro e wo2 ⟨go, rfl, hgo, hro, hb2⟩
      go_simp
      refine hK.out _ _ (keepS (Nat.le_refl _) hS1 hb2) (fun hS2 => ?_)
      clear hK K
      refine wpAnyH_ready (rs := [2]) (by kernel_rfl) (by simp) ?_
      refine AllReadyH.cons rfl (fun K hK => ?_) AllReadyH.nil
      go_simp
      refine (write_at _ 1 (some ⟨go, 0, none⟩) 128 128 (onesL 1) 2 (zeroL 2) [] _ (HDx.out _ hS2.2.out) HOK.out (bin_row hro (onesL_mem 1 (by decide))) (onesL_len 1) (by decide) (by unfold maxLen; decide) (fun h => by cases h) _ _ HST.out).mono ?_
      rintro e ww3 ⟨⟨v', rfl, hnew⟩, hb3⟩
      obtain ⟨gd, L, q, M, m, rfl⟩ := hnew.form
      go_simp
      refine hK.out _ _ (keepS (Nat.le_refl _) hS2 hb3) (fun hS3 => ?_)
      clear hK K
      refine takeH 3 29 (v := ?_) rfl rfl (by kernel_rfl) (by kernel_rfl) (by kernel_rfl) (fun _ _ _ h => h) (by rfl) ?_ (by assumption) ?_
      rotate_left
      · intro w hSw; go_simp; first | done | with_reducible rfl
      simp only [Act.put, List.setIfInBounds_toArray, List.set_cons_zero, List.set_cons_succ]
      refine takeH 4 33 (v := ?_) rfl rfl (by kernel_rfl) (by kernel_rfl) (by kernel_rfl) (fun _ _ _ h => h) (by rfl) ?_ (by assumption) ?_
      rotate_left
      · intro w hSw; go_simp; first | done | with_reducible rfl
      simp only [Act.put, List.setIfInBounds_toArray, List.set_cons_zero, List.set_cons_succ]
      refine takeH 5 34 (v := ?_) rfl rfl (by kernel_rfl) (by kernel_rfl) (by kernel_rfl) (fun _ _ _ h => h) (by rfl) ?_ (by assumption) ?_
      rotate_left
      · intro w hSw; go_simp; first | done | with_reducible rfl
      simp only [Act.put, List.setIfInBounds_toArray, List.set_cons_zero, List.set_cons_succ]
      refine wpAnyH_ready (rs := [7]) (by kernel_rfl) (by simp) ?_
      refine AllReadyH.cons rfl (fun K hK => ?_) AllReadyH.nil
      have hZ : ww3.heap[W.heap.size]? = some (.cells #[.int .i64 0, .slice none 0 0, .slice none 0 0] 25 (0, 0)) := (((below_bt hb2 hb3)).block _ (by first | (rw [World.size_alloc]; exact Nat.lt_succ_self _) | (show _ < (World.alloc _ _).heap.size; rw [World.size_alloc]; exact Nat.lt_succ_self _))).trans (heap_alloc_new _ _)
      obtain ⟨z0, z1, z2⟩ := cells3 hZ
      obtain ⟨y0, y1, y2⟩ := free3 hZ
      have HZ : Hid _ := hZ
      clear hZ
      have szB := hS0.2.out.size
      have szX := lt_heap HH.out
      go_simp
      refine hK.out _ _ (keep3 hS3 ⟨Nat.ne_of_lt (Nat.lt_of_lt_of_le szX szB), szB⟩ _ _ _) (fun hSz => ?_)
      clear hK K
      refine takeH 8 4 (v := ?_) rfl rfl (by kernel_rfl) (by kernel_rfl) (by kernel_rfl) (fun _ _ _ h => h) (by rfl) ?_ (by assumption) ?_
      rotate_left
      · intro w hSw; go_simp; first | done | with_reducible rfl
      simp only [Act.put, List.setIfInBounds_toArray, List.set_cons_zero, List.set_cons_succ]
      refine wpAnyH_done (by kernel_rfl) (NoPanic.normal ?_) _
      go_wp2
      go_meet
      case rel =>
        exact ⟨_, gd, L, q, M, m, rfl, rfl, set3_same _ _ _ _ _ _ _ _ _ HZ.out, ((hnew).set3 HZ.out _ _ _).mono (Nat.zero_le _), HBW.out _ hSz.2.out⟩
  case rest =>
    obtain ⟨B, gd, L, q, M, m, rfl, rfl, hbox, hnew, hbc⟩ := hcut
    have HX : Hid (wc.heap[B]? = some (.cells #[.int .i64 2, .slice (some ⟨gd, 0, none⟩) L L, .slice q M m] 25 (0, 0))) := hbox
    have HDX : Hid (DiskIn wc (.agg #[.int .i64 2, .slice (some ⟨gd, 0, none⟩) L L, .slice q M m]) 2 (zeroL 2) [(1, onesL 1)]) := hnew.toIn alive_okay
    clear hbox hnew HS1 HDx HBW HH HOK HST hb1
    obtain ⟨x0, x1, x2⟩ := cells3 HX.out
    have xlt := lt_heap HX.out
    go_wp2_with fail
    refine (flush_at _ 2 (zeroL 2) [(1, onesL 1)] _ HDX.out alive_okay).mono ?_
    rintro e w2 ⟨⟨v2, rfl, hn2⟩, hb2⟩
    obtain ⟨gda, La, qa, Ma, ma, rfl⟩ := hn2.form
    clear x0 x1 x2 xlt
    have bb1 : Below wc.heap.size wc w2 := hb2
    replace HX : Hid (w2.heap[B]? = some (.cells #[.int .i64 2, .slice (some ⟨gd, 0, none⟩) L L, .slice q M m] 25 (0, 0))) := (bb1.block _ (lt_heap HX.out)).trans HX.out
    replace HDX : Hid (DiskIn w2 (.agg #[.int .i64 2, .slice (some ⟨gd, 0, none⟩) L L, .slice q M m]) 2 (zeroL 2) [(1, onesL 1)]) := HDX.out.below bb1
    replace hbc : Below w.heap.size w w2 := below_bt hbc bb1
    clear bb1 hb2
    have HDA : Hid (DiskIn w2 (.agg #[.int .i64 2, .slice (some ⟨gda, 0, none⟩) La La, .slice qa Ma ma]) 2 (settleN (zeroL 2) [(1, onesL 1)]) []) := hn2.toIn (okay_settled alive_okay)
    clear hn2
    obtain ⟨x0, x1, x2⟩ := cells3 HX.out
    have xlt := lt_heap HX.out
    go_wp2_with fail
    refine (crash_ok _ 2 (zeroL 2) [(1, onesL 1)] _ (HDX.out.below (below_bt (below_alloc w2 (.cells #[.int .i64 2, .slice (some ⟨gda, 0, none⟩) La La, .slice qa Ma ma] 25)) (below_alloc (w2.alloc (.cells #[.int .i64 2, .slice (some ⟨gda, 0, none⟩) La La, .slice qa Ma ma] 25)) (.cells #[.bool true] 4)))) alive_okay (some ⟨w2.heap.size + 1, 0, none⟩) 1 [true] (bools_one (by simp)) (by simp)).mono ?_
    rintro e w3 ⟨⟨v3, rfl, hn3⟩, hb3⟩
    obtain ⟨gdb, Lb, qb, Mb, mb, rfl⟩ := hn3.form
    clear x0 x1 x2 xlt
    have HBA0 : Hid ((((w2.alloc (.cells #[.int .i64 2, .slice (some ⟨gda, 0, none⟩) La La, .slice qa Ma ma] 25)).alloc (.cells #[.bool true] 4))).heap[w2.heap.size]? = some (.cells #[.int .i64 2, .slice (some ⟨gda, 0, none⟩) La La, .slice qa Ma ma] 25 (0, 0))) := ((below_alloc (w2.alloc (.cells #[.int .i64 2, .slice (some ⟨gda, 0, none⟩) La La, .slice qa Ma ma] 25)) (.cells #[.bool true] 4)).block _ (by rw [World.size_alloc]; exact Nat.lt_succ_self _)).trans (heap_alloc_new w2 _)
    have HBA : Hid (w3.heap[w2.heap.size]? = some (.cells #[.int .i64 2, .slice (some ⟨gda, 0, none⟩) La La, .slice qa Ma ma] 25 (0, 0))) := (hb3.block _ (lt_heap HBA0.out)).trans HBA0.out
    clear HBA0
    have bb2 : Below w2.heap.size w2 w3 := (below_bt (below_bt (below_alloc w2 (.cells #[.int .i64 2, .slice (some ⟨gda, 0, none⟩) La La, .slice qa Ma ma] 25)) (below_alloc (w2.alloc (.cells #[.int .i64 2, .slice (some ⟨gda, 0, none⟩) La La, .slice qa Ma ma] 25)) (.cells #[.bool true] 4))) hb3)
    replace HX : Hid (w3.heap[B]? = some (.cells #[.int .i64 2, .slice (some ⟨gd, 0, none⟩) L L, .slice q M m] 25 (0, 0))) := (bb2.block _ (lt_heap HX.out)).trans HX.out
    replace HDX : Hid (DiskIn w3 (.agg #[.int .i64 2, .slice (some ⟨gd, 0, none⟩) L L, .slice q M m]) 2 (zeroL 2) [(1, onesL 1)]) := HDX.out.below bb2
    replace HDA : Hid (DiskIn w3 (.agg #[.int .i64 2, .slice (some ⟨gda, 0, none⟩) La La, .slice qa Ma ma]) 2 (settleN (zeroL 2) [(1, onesL 1)]) []) := HDA.out.below bb2
    replace hbc : Below w.heap.size w w3 := below_bt hbc bb2
    clear bb2 hb3
    have HDB : Hid (DiskIn w3 (.agg #[.int .i64 2, .slice (some ⟨gdb, 0, none⟩) Lb Lb, .slice qb Mb mb]) 2 (crashN (zeroL 2) [(1, onesL 1)] [true]) []) := hn3.toIn (okay_crashed alive_okay _)
    clear hn3
    obtain ⟨x0, x1, x2⟩ := cells3 HX.out
    have xlt := lt_heap HX.out
    go_wp2_with fail
    refine (crash_ok _ 2 (zeroL 2) [(1, onesL 1)] _ (HDX.out.below (below_alloc w3 (.cells #[.int .i64 2, .slice (some ⟨gdb, 0, none⟩) Lb Lb, .slice qb Mb mb] 25))) alive_okay none 0 [] (fun h => absurd h (by simp)) (by simp)).mono ?_
    rintro e w4 ⟨⟨v4, rfl, hn4⟩, hb4⟩
    obtain ⟨gdc, Lc, qc, Mc, mc, rfl⟩ := hn4.form
    clear x0 x1 x2 xlt
    have HBB : Hid (w4.heap[w3.heap.size]? = some (.cells #[.int .i64 2, .slice (some ⟨gdb, 0, none⟩) Lb Lb, .slice qb Mb mb] 25 (0, 0))) := (hb4.block _ (by rw [World.size_alloc]; exact Nat.lt_succ_self _)).trans (heap_alloc_new w3 _)
    have bb3 : Below w3.heap.size w3 w4 := (below_bt (below_alloc w3 (.cells #[.int .i64 2, .slice (some ⟨gdb, 0, none⟩) Lb Lb, .slice qb Mb mb] 25)) hb4)
    replace HX : Hid (w4.heap[B]? = some (.cells #[.int .i64 2, .slice (some ⟨gd, 0, none⟩) L L, .slice q M m] 25 (0, 0))) := (bb3.block _ (lt_heap HX.out)).trans HX.out
    replace HDX : Hid (DiskIn w4 (.agg #[.int .i64 2, .slice (some ⟨gd, 0, none⟩) L L, .slice q M m]) 2 (zeroL 2) [(1, onesL 1)]) := HDX.out.below bb3
    replace HDA : Hid (DiskIn w4 (.agg #[.int .i64 2, .slice (some ⟨gda, 0, none⟩) La La, .slice qa Ma ma]) 2 (settleN (zeroL 2) [(1, onesL 1)]) []) := HDA.out.below bb3
    replace HBA : Hid (w4.heap[w2.heap.size]? = some (.cells #[.int .i64 2, .slice (some ⟨gda, 0, none⟩) La La, .slice qa Ma ma] 25 (0, 0))) := (bb3.block _ (lt_heap HBA.out)).trans HBA.out
    replace HDB : Hid (DiskIn w4 (.agg #[.int .i64 2, .slice (some ⟨gdb, 0, none⟩) Lb Lb, .slice qb Mb mb]) 2 (crashN (zeroL 2) [(1, onesL 1)] [true]) []) := HDB.out.below bb3
    replace hbc : Below w.heap.size w w4 := below_bt hbc bb3
    clear bb3 hb4
    have HDC : Hid (DiskIn w4 (.agg #[.int .i64 2, .slice (some ⟨gdc, 0, none⟩) Lc Lc, .slice qc Mc mc]) 2 (crashN (zeroL 2) [(1, onesL 1)] []) []) := hn4.toIn (okay_crashed alive_okay _)
    clear hn4
    obtain ⟨x0, x1, x2⟩ := cells3 HBA.out
    have xlt := lt_heap HBA.out
    go_wp2_with fail
    refine (sure_ok _ 1 2 (settleN (zeroL 2) [(1, onesL 1)]) [] _ (HDA.out.below (below_alloc w4 (.cells #[.int .i64 2, .slice (some ⟨gdc, 0, none⟩) Lc Lc, .slice qc Mc mc] 25))) (okay_settled alive_okay) (by decide)).mono ?_
    rintro e w6 ⟨⟨v6, rfl, hs6⟩, hb6⟩
    rw [names_a] at hs6
    obtain ⟨g6, rfl, _, hi6, _⟩ := hs6.form
    clear x0 x1 x2 xlt hs6
    have HBC : Hid (w6.heap[w4.heap.size]? = some (.cells #[.int .i64 2, .slice (some ⟨gdc, 0, none⟩) Lc Lc, .slice qc Mc mc] 25 (0, 0))) := (hb6.block _ (by rw [World.size_alloc]; exact Nat.lt_succ_self _)).trans (heap_alloc_new w4 _)
    have bb4 : Below w4.heap.size w4 w6 := (below_bt (below_alloc w4 (.cells #[.int .i64 2, .slice (some ⟨gdc, 0, none⟩) Lc Lc, .slice qc Mc mc] 25)) hb6)
    replace HX : Hid (w6.heap[B]? = some (.cells #[.int .i64 2, .slice (some ⟨gd, 0, none⟩) L L, .slice q M m] 25 (0, 0))) := (bb4.block _ (lt_heap HX.out)).trans HX.out
    replace HDX : Hid (DiskIn w6 (.agg #[.int .i64 2, .slice (some ⟨gd, 0, none⟩) L L, .slice q M m]) 2 (zeroL 2) [(1, onesL 1)]) := HDX.out.below bb4
    replace HDA : Hid (DiskIn w6 (.agg #[.int .i64 2, .slice (some ⟨gda, 0, none⟩) La La, .slice qa Ma ma]) 2 (settleN (zeroL 2) [(1, onesL 1)]) []) := HDA.out.below bb4
    replace HBA : Hid (w6.heap[w2.heap.size]? = some (.cells #[.int .i64 2, .slice (some ⟨gda, 0, none⟩) La La, .slice qa Ma ma] 25 (0, 0))) := (bb4.block _ (lt_heap HBA.out)).trans HBA.out
    replace HDB : Hid (DiskIn w6 (.agg #[.int .i64 2, .slice (some ⟨gdb, 0, none⟩) Lb Lb, .slice qb Mb mb]) 2 (crashN (zeroL 2) [(1, onesL 1)] [true]) []) := HDB.out.below bb4
    replace HBB : Hid (w6.heap[w3.heap.size]? = some (.cells #[.int .i64 2, .slice (some ⟨gdb, 0, none⟩) Lb Lb, .slice qb Mb mb] 25 (0, 0))) := (bb4.block _ (lt_heap HBB.out)).trans HBB.out
    replace HDC : Hid (DiskIn w6 (.agg #[.int .i64 2, .slice (some ⟨gdc, 0, none⟩) Lc Lc, .slice qc Mc mc]) 2 (crashN (zeroL 2) [(1, onesL 1)] []) []) := HDC.out.below bb4
    replace hbc : Below w.heap.size w w6 := below_bt hbc bb4
    clear bb4 hb6
    have HI6 : Hid (BIn w6 (some ⟨g6, 0, none⟩) (onesL 1)) := hi6
    clear hi6
    clear HBA HDA
    obtain ⟨x0, x1, x2⟩ := cells3 HBB.out
    have xlt := lt_heap HBB.out
    go_wp2_with fail
    refine (sure_ok _ 1 2 (crashN (zeroL 2) [(1, onesL 1)] [true]) [] _ HDB.out (okay_crashed alive_okay _) (by decide)).mono ?_
    rintro e w7 ⟨⟨v7, rfl, hs7⟩, hb7⟩
    rw [names_b] at hs7
    obtain ⟨g7, rfl, _, hi7, _⟩ := hs7.form
    clear x0 x1 x2 xlt hs7
    have bb5 : Below w6.heap.size w6 w7 := hb7
    replace HX : Hid (w7.heap[B]? = some (.cells #[.int .i64 2, .slice (some ⟨gd, 0, none⟩) L L, .slice q M m] 25 (0, 0))) := (bb5.block _ (lt_heap HX.out)).trans HX.out
    replace HDX : Hid (DiskIn w7 (.agg #[.int .i64 2, .slice (some ⟨gd, 0, none⟩) L L, .slice q M m]) 2 (zeroL 2) [(1, onesL 1)]) := HDX.out.below bb5
    replace HDB : Hid (DiskIn w7 (.agg #[.int .i64 2, .slice (some ⟨gdb, 0, none⟩) Lb Lb, .slice qb Mb mb]) 2 (crashN (zeroL 2) [(1, onesL 1)] [true]) []) := HDB.out.below bb5
    replace HBB : Hid (w7.heap[w3.heap.size]? = some (.cells #[.int .i64 2, .slice (some ⟨gdb, 0, none⟩) Lb Lb, .slice qb Mb mb] 25 (0, 0))) := (bb5.block _ (lt_heap HBB.out)).trans HBB.out
    replace HDC : Hid (DiskIn w7 (.agg #[.int .i64 2, .slice (some ⟨gdc, 0, none⟩) Lc Lc, .slice qc Mc mc]) 2 (crashN (zeroL 2) [(1, onesL 1)] []) []) := HDC.out.below bb5
    replace HBC : Hid (w7.heap[w4.heap.size]? = some (.cells #[.int .i64 2, .slice (some ⟨gdc, 0, none⟩) Lc Lc, .slice qc Mc mc] 25 (0, 0))) := (bb5.block _ (lt_heap HBC.out)).trans HBC.out
    replace HI6 : Hid (BIn w7 (some ⟨g6, 0, none⟩) (onesL 1)) := HI6.out.below bb5
    replace hbc : Below w.heap.size w w7 := below_bt hbc bb5
    clear bb5 hb7
    have HI7 : Hid (BIn w7 (some ⟨g7, 0, none⟩) (onesL 1)) := hi7
    clear hi7
    clear HBB HDB
    obtain ⟨x0, x1, x2⟩ := cells3 HBC.out
    have xlt := lt_heap HBC.out
    go_wp2_with fail
    refine (sure_ok _ 1 2 (crashN (zeroL 2) [(1, onesL 1)] []) [] _ HDC.out (okay_crashed alive_okay _) (by decide)).mono ?_
    rintro e w8 ⟨⟨v8, rfl, hs8⟩, hb8⟩
    rw [names_c] at hs8
    obtain ⟨g8, rfl, _, hi8, _⟩ := hs8.form
    clear x0 x1 x2 xlt hs8
    have bb6 : Below w7.heap.size w7 w8 := hb8
    replace HX : Hid (w8.heap[B]? = some (.cells #[.int .i64 2, .slice (some ⟨gd, 0, none⟩) L L, .slice q M m] 25 (0, 0))) := (bb6.block _ (lt_heap HX.out)).trans HX.out
    replace HDX : Hid (DiskIn w8 (.agg #[.int .i64 2, .slice (some ⟨gd, 0, none⟩) L L, .slice q M m]) 2 (zeroL 2) [(1, onesL 1)]) := HDX.out.below bb6
    replace HDC : Hid (DiskIn w8 (.agg #[.int .i64 2, .slice (some ⟨gdc, 0, none⟩) Lc Lc, .slice qc Mc mc]) 2 (crashN (zeroL 2) [(1, onesL 1)] []) []) := HDC.out.below bb6
    replace HBC : Hid (w8.heap[w4.heap.size]? = some (.cells #[.int .i64 2, .slice (some ⟨gdc, 0, none⟩) Lc Lc, .slice qc Mc mc] 25 (0, 0))) := (bb6.block _ (lt_heap HBC.out)).trans HBC.out
    replace HI6 : Hid (BIn w8 (some ⟨g6, 0, none⟩) (onesL 1)) := HI6.out.below bb6
    replace HI7 : Hid (BIn w8 (some ⟨g7, 0, none⟩) (onesL 1)) := HI7.out.below bb6
    replace hbc : Below w.heap.size w w8 := below_bt hbc bb6
    clear bb6 hb8
    have HI8 : Hid (BIn w8 (some ⟨g8, 0, none⟩) (onesL 0)) := hi8
    clear hi8
    clear HBC HDC
    go_wp2_with fail
    refine (new_bad 0 _ (by decide)).mono ?_
    rintro e w9 ⟨rfl, hb9⟩
    have bb7 : Below w8.heap.size w8 w9 := hb9
    replace HX : Hid (w9.heap[B]? = some (.cells #[.int .i64 2, .slice (some ⟨gd, 0, none⟩) L L, .slice q M m] 25 (0, 0))) := (bb7.block _ (lt_heap HX.out)).trans HX.out
    replace HDX : Hid (DiskIn w9 (.agg #[.int .i64 2, .slice (some ⟨gd, 0, none⟩) L L, .slice q M m]) 2 (zeroL 2) [(1, onesL 1)]) := HDX.out.below bb7
    replace HI6 : Hid (BIn w9 (some ⟨g6, 0, none⟩) (onesL 1)) := HI6.out.below bb7
    replace HI7 : Hid (BIn w9 (some ⟨g7, 0, none⟩) (onesL 1)) := HI7.out.below bb7
    replace HI8 : Hid (BIn w9 (some ⟨g8, 0, none⟩) (onesL 0)) := HI8.out.below bb7
    replace hbc : Below w.heap.size w w9 := below_bt hbc bb7
    clear bb7 hb9
    go_wp2_with fail
    refine (new_bad 4097 _ (by decide)).mono ?_
    rintro e w10 ⟨rfl, hb10⟩
    have bb8 : Below w9.heap.size w9 w10 := (below_bt (below_alloc w9 (.cells #[.int .i64 0, .slice none 0 0, .slice none 0 0] 25)) hb10)
    replace HX : Hid (w10.heap[B]? = some (.cells #[.int .i64 2, .slice (some ⟨gd, 0, none⟩) L L, .slice q M m] 25 (0, 0))) := (bb8.block _ (lt_heap HX.out)).trans HX.out
    replace HDX : Hid (DiskIn w10 (.agg #[.int .i64 2, .slice (some ⟨gd, 0, none⟩) L L, .slice q M m]) 2 (zeroL 2) [(1, onesL 1)]) := HDX.out.below bb8
    replace HI6 : Hid (BIn w10 (some ⟨g6, 0, none⟩) (onesL 1)) := HI6.out.below bb8
    replace HI7 : Hid (BIn w10 (some ⟨g7, 0, none⟩) (onesL 1)) := HI7.out.below bb8
    replace HI8 : Hid (BIn w10 (some ⟨g8, 0, none⟩) (onesL 0)) := HI8.out.below bb8
    replace hbc : Below w.heap.size w w10 := below_bt hbc bb8
    clear bb8 hb10
    obtain ⟨x0, x1, x2⟩ := cells3 HX.out
    have xlt := lt_heap HX.out
    go_wp2_with fail
    refine (read_err _ 2 2 (zeroL 2) [(1, onesL 1)] _ (HDX.out.below (below_alloc w10 (.cells #[.int .i64 0, .slice none 0 0, .slice none 0 0] 25))) 21 (by decide) (errS_range alive_okay (by decide))).mono ?_
    rintro e w11 ⟨rfl, hb11⟩
    clear x0 x1 x2 xlt
    have bb9 : Below w10.heap.size w10 w11 := (below_bt (below_alloc w10 (.cells #[.int .i64 0, .slice none 0 0, .slice none 0 0] 25)) hb11)
    replace HX : Hid (w11.heap[B]? = some (.cells #[.int .i64 2, .slice (some ⟨gd, 0, none⟩) L L, .slice q M m] 25 (0, 0))) := (bb9.block _ (lt_heap HX.out)).trans HX.out
    replace HDX : Hid (DiskIn w11 (.agg #[.int .i64 2, .slice (some ⟨gd, 0, none⟩) L L, .slice q M m]) 2 (zeroL 2) [(1, onesL 1)]) := HDX.out.below bb9
    replace HI6 : Hid (BIn w11 (some ⟨g6, 0, none⟩) (onesL 1)) := HI6.out.below bb9
    replace HI7 : Hid (BIn w11 (some ⟨g7, 0, none⟩) (onesL 1)) := HI7.out.below bb9
    replace HI8 : Hid (BIn w11 (some ⟨g8, 0, none⟩) (onesL 0)) := HI8.out.below bb9
    replace hbc : Below w.heap.size w w11 := below_bt hbc bb9
    clear bb9 hb11
    have HS14 : (w11.drew.cell? ⟨B, 0, none⟩ = some (.int .i64 2) ∧ w11.drew.cell? ⟨B, 1, none⟩ = some (.slice (some ⟨gd, 0, none⟩) L L) ∧ w11.drew.cell? ⟨B, 2, none⟩ = some (.slice q M m)) ∧ Hid (Below w11.heap.size w11 w11.drew) := ⟨cells3 HX.out, (Below.refl _ _).drew⟩
    obtain ⟨i0, hi, hz0, hz1, hz2⟩ := info_parts info_u8
    go_wp2
    go_cut [24] from 25 (fun s24 w12 => s24 = .int .i64 8 ∧ Below w11.heap.size w11 w12)
    case first =>
      refine wp_region_noPanic ?_
      refine wp_region_held_drew (S := (fun w' => (w'.cell? ⟨B, 0, none⟩ = some (.int .i64 2) ∧ w'.cell? ⟨B, 1, none⟩ = some (.slice (some ⟨gd, 0, none⟩) L L) ∧ w'.cell? ⟨B, 2, none⟩ = some (.slice q M m)) ∧ Hid (Below w11.heap.size w11 w'))) (by kernel_rfl) HS14 (fun hS0 => ?_)
      clear HS14
      refine takeH 0 90 (v := ?_) rfl rfl (by kernel_rfl) (by kernel_rfl) (by kernel_rfl) (fun _ _ _ h => h) (by rfl) ?_ (by assumption) ?_
      rotate_left
      · intro w hSw; go_simp; first | done | with_reducible rfl
      simp only [Act.put, List.setIfInBounds_toArray, List.set_cons_zero, List.set_cons_succ]
      refine wpAnyH_ready (rs := [1, 6]) (by kernel_rfl) (by simp) ?_
      refine AllReadyH.cons rfl (fun K hK => ?_) (AllReadyH.cons rfl (fun K hK => ?_) AllReadyH.nil)
      · refine step_make (by rfl) (.const (.int .i64 127)) (.const (.int .i64 127)) 22 (by rfl) w11.drew.heap.size 5 i0 (.int .u8 0) 1 Try.underlying22 hi hz0 hz1 .i64 .i64 127 127 127 (by rfl) (by rfl) rfl rfl (by rw [hz2]; decide) (by decide) (Nat.le_refl _) ?_
        intro wm1 hown1 hgr1
        have hro := row_full hown1
        rw [zeros127] at hro
        have hb1 : Below w11.drew.heap.size w11.drew wm1 := (Below.refl _ _).grown hgr1 (Nat.le_refl _) (fun k hk => by cases hk)
        clear hown1 hgr1
        refine hK.out _ _ (keepS (Nat.le_refl _) hS0 hb1) (fun hS1 => ?_)
        clear hK K
        show wpAnyH _ _ _ _ _ _ _ (Act.put _ (some 91) _) _
        simp only [Act.put, List.setIfInBounds_toArray, List.set_cons_zero, List.set_cons_succ]
        refine wpAnyH_ready (rs := [2, 6]) (by kernel_rfl) (by simp) ?_
        refine AllReadyH.cons rfl (fun K hK => ?_) (AllReadyH.cons rfl (fun K hK => ?_) AllReadyH.nil)
        · go_simp
          refine (write_fails _ 0 (some ⟨w11.drew.heap.size, 0, none⟩) 127 127 zero127 2 (zeroL 2) [(1, onesL 1)] _ (HDX.out.below hS1.2.out) alive_okay (bin_row hro zero127_mem) zero127_len (by decide) (by unfold maxLen; decide) (fun h => by cases h) 8 names_bad).mono ?_
          rintro e ww2 ⟨rfl, hb2⟩
          go_simp
          refine hK.out _ _ (keepS (Nat.le_refl _) hS1 hb2) (fun hS2 => ?_)
          clear hK K
          refine takeH 3 89 (v := ?_) rfl rfl (by kernel_rfl) (by kernel_rfl) (by kernel_rfl) (fun _ _ _ h => h) (by rfl) ?_ (by assumption) ?_
          rotate_left
          · intro w hSw; go_simp; first | done | with_reducible rfl
          simp only [Act.put, List.setIfInBounds_toArray, List.set_cons_zero, List.set_cons_succ]
          refine takeH 4 93 (v := ?_) rfl rfl (by kernel_rfl) (by kernel_rfl) (by kernel_rfl) (fun _ _ _ h => h) (by rfl) ?_ (by assumption) ?_
          rotate_left
          · intro w hSw; go_simp; first | done | with_reducible rfl
          simp only [Act.put, List.setIfInBounds_toArray, List.set_cons_zero, List.set_cons_succ]
          refine takeH 5 94 (v := ?_) rfl rfl (by kernel_rfl) (by kernel_rfl) (by kernel_rfl) (fun _ _ _ h => h) (by rfl) ?_ (by assumption) ?_
          rotate_left
          · intro w hSw; go_simp; first | done | with_reducible rfl
          simp only [Act.put, List.setIfInBounds_toArray, List.set_cons_zero, List.set_cons_succ]
          refine wpAnyH_ready (rs := [6]) (by kernel_rfl) (by simp) ?_
          refine AllReadyH.cons rfl (fun K hK => ?_) AllReadyH.nil
          have hb3 := below_alloc ww2 (.cells #[.int .i64 0, .slice none 0 0, .slice none 0 0] 25)
          go_simp
          refine hK.out _ _ (keepS (Nat.le_refl _) hS2 hb3) (fun hS3 => ?_)
          clear hK K
          refine wpAnyH_ready (rs := [7]) (by kernel_rfl) (by simp) ?_
          refine AllReadyH.cons rfl (fun K hK => ?_) AllReadyH.nil
          go_simp
          refine hK.out _ _ (keepA (Nat.le_refl _) hS2 _) (fun hSz => ?_)
          clear hK K
          refine takeH 8 24 (v := ?_) rfl rfl (by kernel_rfl) (by kernel_rfl) (by kernel_rfl) (fun _ _ _ h => h) (by rfl) ?_ (by assumption) ?_
          rotate_left
          · intro w hSw; go_simp; first | done | with_reducible rfl
          simp only [Act.put, List.setIfInBounds_toArray, List.set_cons_zero, List.set_cons_succ]
          refine wpAnyH_done (by kernel_rfl) (NoPanic.normal ?_) _
          go_wp2
          go_meet
          case rel => exact ⟨rfl, hSz.2.out⟩
        · have hb2 := below_alloc wm1 (.cells #[.int .i64 0, .slice none 0 0, .slice none 0 0] 25)
          go_simp
          refine hK.out _ _ (keepS (Nat.le_refl _) hS1 hb2) (fun hS2 => ?_)
          clear hK K
          refine wpAnyH_ready (rs := [2]) (by kernel_rfl) (by simp) ?_
          refine AllReadyH.cons rfl (fun K hK => ?_) AllReadyH.nil
          go_simp
          refine (write_fails _ 0 (some ⟨w11.drew.heap.size, 0, none⟩) 127 127 zero127 2 (zeroL 2) [(1, onesL 1)] _ (HDX.out.below hS2.2.out) alive_okay (bin_row (((hb2).block _ (lt_heap hro)).trans hro) zero127_mem) zero127_len (by decide) (by unfold maxLen; decide) (fun h => by cases h) 8 names_bad).mono ?_
          rintro e ww3 ⟨rfl, hb3⟩
          go_simp
          refine hK.out _ _ (keepS (Nat.le_refl _) hS2 hb3) (fun hS3 => ?_)
          clear hK K
          refine takeH 3 89 (v := ?_) rfl rfl (by kernel_rfl) (by kernel_rfl) (by kernel_rfl) (fun _ _ _ h => h) (by rfl) ?_ (by assumption) ?_
          rotate_left
          · intro w hSw; go_simp; first | done | with_reducible rfl
          simp only [Act.put, List.setIfInBounds_toArray, List.set_cons_zero, List.set_cons_succ]
          refine takeH 4 93 (v := ?_) rfl rfl (by kernel_rfl) (by kernel_rfl) (by kernel_rfl) (fun _ _ _ h => h) (by rfl) ?_ (by assumption) ?_
          rotate_left
          · intro w hSw; go_simp; first | done | with_reducible rfl
          simp only [Act.put, List.setIfInBounds_toArray, List.set_cons_zero, List.set_cons_succ]
          refine takeH 5 94 (v := ?_) rfl rfl (by kernel_rfl) (by kernel_rfl) (by kernel_rfl) (fun _ _ _ h => h) (by rfl) ?_ (by assumption) ?_
          rotate_left
          · intro w hSw; go_simp; first | done | with_reducible rfl
          simp only [Act.put, List.setIfInBounds_toArray, List.set_cons_zero, List.set_cons_succ]
          refine wpAnyH_ready (rs := [7]) (by kernel_rfl) (by simp) ?_
          refine AllReadyH.cons rfl (fun K hK => ?_) AllReadyH.nil
          have hZ : ww3.heap[wm1.heap.size]? = some (.cells #[.int .i64 0, .slice none 0 0, .slice none 0 0] 25 (0, 0)) := ((hb3).block _ (by first | (rw [World.size_alloc]; exact Nat.lt_succ_self _) | (show _ < (World.alloc _ _).heap.size; rw [World.size_alloc]; exact Nat.lt_succ_self _))).trans (heap_alloc_new _ _)
          obtain ⟨z0, z1, z2⟩ := cells3 hZ
          obtain ⟨y0, y1, y2⟩ := free3 hZ
          clear hZ
          have szB := hS1.2.out.size
          have szX := lt_heap HX.out
          go_simp
          refine hK.out _ _ (keep3 hS3 ⟨Nat.ne_of_lt (Nat.lt_of_lt_of_le szX szB), szB⟩ _ _ _) (fun hSz => ?_)
          clear hK K
          refine takeH 8 24 (v := ?_) rfl rfl (by kernel_rfl) (by kernel_rfl) (by kernel_rfl) (fun _ _ _ h => h) (by rfl) ?_ (by assumption) ?_
          rotate_left
          · intro w hSw; go_simp; first | done | with_reducible rfl
          simp only [Act.put, List.setIfInBounds_toArray, List.set_cons_zero, List.set_cons_succ]
          refine wpAnyH_done (by kernel_rfl) (NoPanic.normal ?_) _
          go_wp2
          go_meet
          case rel => exact ⟨rfl, hSz.2.out⟩
      · have hb1 := below_alloc w11.drew (.cells #[.int .i64 0, .slice none 0 0, .slice none 0 0] 25)
        go_simp
        refine hK.out _ _ (keepS (Nat.le_refl _) hS0 hb1) (fun hS1 => ?_)
        clear hK K
        refine wpAnyH_ready (rs := [1]) (by kernel_rfl) (by simp) ?_
        refine AllReadyH.cons rfl (fun K hK => ?_) AllReadyH.nil
        refine step_make (by rfl) (.const (.int .i64 127)) (.const (.int .i64 127)) 22 (by rfl) (w11.drew.alloc (.cells #[.int .i64 0, .slice none 0 0, .slice none 0 0] 25)).heap.size 5 i0 (.int .u8 0) 1 Try.underlying22 hi hz0 hz1 .i64 .i64 127 127 127 (by rfl) (by rfl) rfl rfl (by rw [hz2]; decide) (by decide) (Nat.le_refl _) ?_
        intro wm2 hown2 hgr2
        have hro := row_full hown2
        rw [zeros127] at hro
        have hb2 : Below (w11.drew.alloc (.cells #[.int .i64 0, .slice none 0 0, .slice none 0 0] 25)).heap.size (w11.drew.alloc (.cells #[.int .i64 0, .slice none 0 0, .slice none 0 0] 25)) wm2 := (Below.refl _ _).grown hgr2 (Nat.le_refl _) (fun k hk => by cases hk)
        clear hown2 hgr2
        rw [show (w11.alloc (.cells #[.int .i64 0, .slice none 0 0, .slice none 0 0] 25)).drew.heap.size = w11.heap.size + 1 from World.size_alloc w11 _] at hro
        refine hK.out _ _ (keepS (Nat.le_refl _) hS1 hb2) (fun hS2 => ?_)
        clear hK K
        show wpAnyH _ _ _ _ _ _ _ (Act.put _ (some 91) _) _
        simp only [Act.put, List.setIfInBounds_toArray, List.set_cons_zero, List.set_cons_succ]
        refine wpAnyH_ready (rs := [2]) (by kernel_rfl) (by simp) ?_
        refine AllReadyH.cons rfl (fun K hK => ?_) AllReadyH.nil
        go_simp
        refine (write_fails _ 0 (some ⟨w11.heap.size + 1, 0, none⟩) 127 127 zero127 2 (zeroL 2) [(1, onesL 1)] _ (HDX.out.below hS2.2.out) alive_okay (bin_row hro zero127_mem) zero127_len (by decide) (by unfold maxLen; decide) (fun h => by cases h) 8 names_bad).mono ?_
        rintro e ww3 ⟨rfl, hb3⟩
        go_simp
        refine hK.out _ _ (keepS (Nat.le_refl _) hS2 hb3) (fun hS3 => ?_)
        clear hK K
        refine takeH 3 89 (v := ?_) rfl rfl (by kernel_rfl) (by kernel_rfl) (by kernel_rfl) (fun _ _ _ h => h) (by rfl) ?_ (by assumption) ?_
        rotate_left
        · intro w hSw; go_simp; first | done | with_reducible rfl
        simp only [Act.put, List.setIfInBounds_toArray, List.set_cons_zero, List.set_cons_succ]
        refine takeH 4 93 (v := ?_) rfl rfl (by kernel_rfl) (by kernel_rfl) (by kernel_rfl) (fun _ _ _ h => h) (by rfl) ?_ (by assumption) ?_
        rotate_left
        · intro w hSw; go_simp; first | done | with_reducible rfl
        simp only [Act.put, List.setIfInBounds_toArray, List.set_cons_zero, List.set_cons_succ]
        refine takeH 5 94 (v := ?_) rfl rfl (by kernel_rfl) (by kernel_rfl) (by kernel_rfl) (fun _ _ _ h => h) (by rfl) ?_ (by assumption) ?_
        rotate_left
        · intro w hSw; go_simp; first | done | with_reducible rfl
        simp only [Act.put, List.setIfInBounds_toArray, List.set_cons_zero, List.set_cons_succ]
        refine wpAnyH_ready (rs := [7]) (by kernel_rfl) (by simp) ?_
        refine AllReadyH.cons rfl (fun K hK => ?_) AllReadyH.nil
        have hZ : ww3.heap[w11.heap.size]? = some (.cells #[.int .i64 0, .slice none 0 0, .slice none 0 0] 25 (0, 0)) := (((below_bt hb2 hb3)).block _ (by first | (rw [World.size_alloc]; exact Nat.lt_succ_self _) | (show _ < (World.alloc _ _).heap.size; rw [World.size_alloc]; exact Nat.lt_succ_self _))).trans (heap_alloc_new _ _)
        obtain ⟨z0, z1, z2⟩ := cells3 hZ
        obtain ⟨y0, y1, y2⟩ := free3 hZ
        clear hZ
        have szB := hS0.2.out.size
        have szX := lt_heap HX.out
        go_simp
        refine hK.out _ _ (keep3 hS3 ⟨Nat.ne_of_lt (Nat.lt_of_lt_of_le szX szB), szB⟩ _ _ _) (fun hSz => ?_)
        clear hK K
        refine takeH 8 24 (v := ?_) rfl rfl (by kernel_rfl) (by kernel_rfl) (by kernel_rfl) (fun _ _ _ h => h) (by rfl) ?_ (by assumption) ?_
        rotate_left
        · intro w hSw; go_simp; first | done | with_reducible rfl
        simp only [Act.put, List.setIfInBounds_toArray, List.set_cons_zero, List.set_cons_succ]
        refine wpAnyH_done (by kernel_rfl) (NoPanic.normal ?_) _
        go_wp2
        go_meet
        case rel => exact ⟨rfl, hSz.2.out⟩
    case rest =>
      obtain ⟨rfl, hb12⟩ := hcut
      clear HS14 HX HDX
      replace HI6 : Hid (BIn wc (some ⟨g6, 0, none⟩) (onesL 1)) := HI6.out.below hb12
      replace HI7 : Hid (BIn wc (some ⟨g7, 0, none⟩) (onesL 1)) := HI7.out.below hb12
      replace HI8 : Hid (BIn wc (some ⟨g8, 0, none⟩) (onesL 0)) := HI8.out.below hb12
      go_wp2
      --STOP
      refine wp_region_noPanic ?_
      refine wp_region_held_drew (S := fun w' => (convert 22 9 (.slice (some ⟨g6, 0, none⟩) 128 128)).run Try.prog w' = .ok (.string (strOf (onesL 1))) w' ∧ (convert 22 9 (.slice (some ⟨g7, 0, none⟩) 128 128)).run Try.prog w' = .ok (.string (strOf (onesL 1))) w' ∧ (convert 22 9 (.slice (some ⟨g8, 0, none⟩) 128 128)).run Try.prog w' = .ok (.string (strOf (onesL 0))) w' ∧ Hid (Below wc.heap.size wc w')) (by kernel_rfl) (keepN HI6.out HI7.out HI8.out ((Below.refl _ _).drew)) (fun hS0 => ?_)
      refine takeH 0 95 (v := ?_) rfl rfl (by kernel_rfl) (by kernel_rfl) (by kernel_rfl) (fun _ _ _ h => h) (by rfl) ?_ (by assumption) ?_
      rotate_left
      · intro w hSw; go_simp; first | done | with_reducible rfl
      simp only [Act.put, List.setIfInBounds_toArray, List.set_cons_zero, List.set_cons_succ]
      refine wpAnyH_ready (rs := [1]) (by kernel_rfl) (by simp) ?_
      refine AllReadyH.cons rfl (fun K hK => ?_) AllReadyH.nil
      go_simp
      refine (alive_any _).mono ?_
      rintro e wl1 ⟨rfl, hb1⟩
      go_simp
      refine hK.out _ _ (keepN HI6.out HI7.out HI8.out (below_bt hS0.2.2.2.out hb1)) (fun hS1 => ?_)
      clear hK K
      refine takeH 2 97 (v := ?_) rfl rfl (by kernel_rfl) (by kernel_rfl) (by kernel_rfl) (fun _ _ _ h => h) (by rfl) ?_ (by assumption) ?_
      rotate_left
      · intro w hSw; go_simp; first | done | with_reducible rfl
      simp only [Act.put, List.setIfInBounds_toArray, List.set_cons_zero, List.set_cons_succ]
      refine takeH 3 98 (v := ?_) rfl rfl (by kernel_rfl) (by kernel_rfl) (by kernel_rfl) (fun _ _ _ h => h) (by rfl) ?_ (by assumption) ?_
      rotate_left
      · intro w hSw; go_simp; first | done | with_reducible rfl
      simp only [Act.put, List.setIfInBounds_toArray, List.set_cons_zero, List.set_cons_succ]
      refine takeH 4 99 (v := ?_) rfl rfl (by kernel_rfl) (by kernel_rfl) (by kernel_rfl) (fun _ _ _ h => h) (by rfl) ?_ (by assumption) ?_
      rotate_left
      · intro w hSw; go_simp; first | done | with_reducible rfl
      simp only [Act.put, List.setIfInBounds_toArray, List.set_cons_zero, List.set_cons_succ]
      refine takeH 5 100 (v := ?_) rfl rfl (by kernel_rfl) (by kernel_rfl) (by kernel_rfl) (fun _ _ _ h => h) (by rfl) ?_ (by assumption) ?_
      rotate_left
      · intro w hSw; go_simp; first | done | with_reducible rfl
      simp only [Act.put, List.setIfInBounds_toArray, List.set_cons_zero, List.set_cons_succ]
      refine wpAnyH_ready (rs := [6]) (by kernel_rfl) (by simp) ?_
      refine AllReadyH.cons rfl (fun K hK => ?_) AllReadyH.nil
      go_simp
      refine (ones_at 1 _).mono ?_
      rintro e wl2 ⟨go2, rfl, hgo2, hro2, hb2⟩
      have hcv2 := conv_at (c := 128) (bin_row hro2 (onesL_mem 1 (by decide))) (onesL_len 1)
      go_simp
      refine hK.out _ _ (keepN HI6.out HI7.out HI8.out (below_bt hS1.2.2.2.out hb2)) (fun hS2 => ?_)
      clear hK K hro2
      refine wpAnyH_ready (rs := [7]) (by kernel_rfl) (by simp) ?_
      refine AllReadyH.cons rfl (fun K hK => ?_) AllReadyH.nil
      go_simp
      refine hK.out _ _ hS2 (fun hS3 => ?_)
      clear hK K
      refine takeH 8 103 (v := ?_) rfl rfl (by kernel_rfl) (by kernel_rfl) (by kernel_rfl) (fun _ _ _ h => h) (by rfl) ?_ (by assumption) ?_
      rotate_left
      · intro w hSw; go_simp; first | done | with_reducible rfl
      simp only [Act.put, List.setIfInBounds_toArray, List.set_cons_zero, List.set_cons_succ]
      refine takeH 9 104 (v := ?_) rfl rfl (by kernel_rfl) (by kernel_rfl) (by kernel_rfl) (fun _ _ _ h => h) (by rfl) ?_ (by assumption) ?_
      rotate_left
      · intro w hSw; go_simp; first | done | with_reducible rfl
      simp only [Act.put, List.setIfInBounds_toArray, List.set_cons_zero, List.set_cons_succ]
      refine takeH 10 105 (v := ?_) rfl rfl (by kernel_rfl) (by kernel_rfl) (by kernel_rfl) (fun _ _ _ h => h) (by rfl) ?_ (by assumption) ?_
      rotate_left
      · intro w hSw; go_simp; first | done | with_reducible rfl
      simp only [Act.put, List.setIfInBounds_toArray, List.set_cons_zero, List.set_cons_succ]
      refine takeH 11 106 (v := ?_) rfl rfl (by kernel_rfl) (by kernel_rfl) (by kernel_rfl) (fun _ _ _ h => h) (by rfl) ?_ (by assumption) ?_
      rotate_left
      · intro w hSw; go_simp; first | done | with_reducible rfl
      simp only [Act.put, List.setIfInBounds_toArray, List.set_cons_zero, List.set_cons_succ]
      refine takeH 12 107 (v := ?_) rfl rfl (by kernel_rfl) (by kernel_rfl) (by kernel_rfl) (fun _ _ _ h => h) (by rfl) ?_ (by assumption) ?_
      rotate_left
      · intro w hSw; go_simp; first | done | with_reducible rfl
      simp only [Act.put, List.setIfInBounds_toArray, List.set_cons_zero, List.set_cons_succ]
      refine takeH 13 108 (v := ?_) rfl rfl (by kernel_rfl) (by kernel_rfl) (by kernel_rfl) (fun _ _ _ h => h) (by rfl) ?_ (by assumption) ?_
      rotate_left
      · intro w hSw; go_simp; first | done | with_reducible rfl
      simp only [Act.put, List.setIfInBounds_toArray, List.set_cons_zero, List.set_cons_succ]
      refine takeH 14 109 (v := ?_) rfl rfl (by kernel_rfl) (by kernel_rfl) (by kernel_rfl) (fun _ _ _ h => h) (by rfl) ?_ (by assumption) ?_
      rotate_left
      · intro w hSw; go_simp; first | done | with_reducible rfl
      simp only [Act.put, List.setIfInBounds_toArray, List.set_cons_zero, List.set_cons_succ]
      refine takeH 15 110 (v := ?_) rfl rfl (by kernel_rfl) (by kernel_rfl) (by kernel_rfl) (fun _ _ _ h => h) (by rfl) ?_ (by assumption) ?_
      rotate_left
      · intro w hSw; go_simp; first | done | with_reducible rfl
      simp only [Act.put, List.setIfInBounds_toArray, List.set_cons_zero, List.set_cons_succ]
      refine takeH 16 111 (v := ?_) rfl rfl (by kernel_rfl) (by kernel_rfl) (by kernel_rfl) (fun _ _ _ h => h) (by rfl) ?_ (by assumption) ?_
      rotate_left
      · intro w hSw; go_simp; first | done | with_reducible rfl
      simp only [Act.put, List.setIfInBounds_toArray, List.set_cons_zero, List.set_cons_succ]
      refine takeH 17 112 (v := ?_) rfl rfl (by kernel_rfl) (by kernel_rfl) (by kernel_rfl) (fun _ _ _ h => h) (by rfl) ?_ (by assumption) ?_
      rotate_left
      · intro w hSw; go_simp; first | done | with_reducible rfl
      simp only [Act.put, List.setIfInBounds_toArray, List.set_cons_zero, List.set_cons_succ]
      refine takeH 18 113 (v := ?_) rfl rfl (by kernel_rfl) (by kernel_rfl) (by kernel_rfl) (fun _ _ _ h => h) (by rfl) ?_ (by assumption) ?_
      rotate_left
      · intro w hSw; go_simp; first | done | with_reducible rfl
      simp only [Act.put, List.setIfInBounds_toArray, List.set_cons_zero, List.set_cons_succ]
      refine takeH 19 114 (v := ?_) rfl rfl (by kernel_rfl) (by kernel_rfl) (by kernel_rfl) (fun _ _ _ h => h) (by rfl) ?_ (by assumption) ?_
      rotate_left
      · intro w hSw; go_simp; first | done | with_reducible rfl
      simp only [Act.put, List.setIfInBounds_toArray, List.set_cons_zero, List.set_cons_succ]
      refine wpAnyH_ready (rs := [20]) (by kernel_rfl) (by simp) ?_
      refine AllReadyH.cons rfl (fun K hK => ?_) AllReadyH.nil
      go_simp
      refine (ones_at 0 _).mono ?_
      rintro e wl4 ⟨go4, rfl, hgo4, hro4, hb4⟩
      have hcv4 := conv_at (c := 128) (bin_row hro4 (onesL_mem 0 (by decide))) (onesL_len 0)
      go_simp
      refine hK.out _ _ (keepN HI6.out HI7.out HI8.out (below_bt hS3.2.2.2.out hb4)) (fun hS4 => ?_)
      clear hK K hro4
      refine wpAnyH_ready (rs := [21]) (by kernel_rfl) (by simp) ?_
      refine AllReadyH.cons rfl (fun K hK => ?_) AllReadyH.nil
      go_simp
      refine hK.out _ _ hS4 (fun hS5 => ?_)
      clear hK K
      refine takeH 22 117 (v := ?_) rfl rfl (by kernel_rfl) (by kernel_rfl) (by kernel_rfl) (fun _ _ _ h => h) (by rfl) ?_ (by assumption) ?_
      rotate_left
      · intro w hSw; go_simp; first | done | with_reducible rfl
      simp only [Act.put, List.setIfInBounds_toArray, List.set_cons_zero, List.set_cons_succ]
      refine takeH 23 118 (v := ?_) rfl rfl (by kernel_rfl) (by kernel_rfl) (by kernel_rfl) (fun _ _ _ h => h) (by rfl) ?_ (by assumption) ?_
      rotate_left
      · intro w hSw; go_simp; first | done | with_reducible rfl
      simp only [Act.put, List.setIfInBounds_toArray, List.set_cons_zero, List.set_cons_succ]
      refine takeH 24 119 (v := ?_) rfl rfl (by kernel_rfl) (by kernel_rfl) (by kernel_rfl) (fun _ _ _ h => h) (by rfl) ?_ (by assumption) ?_
      rotate_left
      · intro w hSw; go_simp; first | done | with_reducible rfl
      simp only [Act.put, List.setIfInBounds_toArray, List.set_cons_zero, List.set_cons_succ]
      refine takeH 25 120 (v := ?_) rfl rfl (by kernel_rfl) (by kernel_rfl) (by kernel_rfl) (fun _ _ _ h => h) (by rfl) ?_ (by assumption) ?_
      rotate_left
      · intro w hSw; go_simp; first | done | with_reducible rfl
      simp only [Act.put, List.setIfInBounds_toArray, List.set_cons_zero, List.set_cons_succ]
      refine takeH 26 121 (v := ?_) rfl rfl (by kernel_rfl) (by kernel_rfl) (by kernel_rfl) (fun _ _ _ h => h) (by rfl) ?_ (by assumption) ?_
      rotate_left
      · intro w hSw; go_simp; first | done | with_reducible rfl
      simp only [Act.put, List.setIfInBounds_toArray, List.set_cons_zero, List.set_cons_succ]
      refine takeH 27 122 (v := ?_) rfl rfl (by kernel_rfl) (by kernel_rfl) (by kernel_rfl) (fun _ _ _ h => h) (by rfl) ?_ (by assumption) ?_
      rotate_left
      · intro w hSw; go_simp; first | done | with_reducible rfl
      simp only [Act.put, List.setIfInBounds_toArray, List.set_cons_zero, List.set_cons_succ]
      refine takeH 28 123 (v := ?_) rfl rfl (by kernel_rfl) (by kernel_rfl) (by kernel_rfl) (fun _ _ _ h => h) (by rfl) ?_ (by assumption) ?_
      rotate_left
      · intro w hSw; go_simp; first | done | with_reducible rfl
      simp only [Act.put, List.setIfInBounds_toArray, List.set_cons_zero, List.set_cons_succ]
      refine takeH 29 124 (v := ?_) rfl rfl (by kernel_rfl) (by kernel_rfl) (by kernel_rfl) (fun _ _ _ h => h) (by rfl) ?_ (by assumption) ?_
      rotate_left
      · intro w hSw; go_simp; first | done | with_reducible rfl
      simp only [Act.put, List.setIfInBounds_toArray, List.set_cons_zero, List.set_cons_succ]
      refine takeH 30 125 (v := ?_) rfl rfl (by kernel_rfl) (by kernel_rfl) (by kernel_rfl) (fun _ _ _ h => h) (by rfl) ?_ (by assumption) ?_
      rotate_left
      · intro w hSw; go_simp; first | done | with_reducible rfl
      simp only [Act.put, List.setIfInBounds_toArray, List.set_cons_zero, List.set_cons_succ]
      refine takeH 31 126 (v := ?_) rfl rfl (by kernel_rfl) (by kernel_rfl) (by kernel_rfl) (fun _ _ _ h => h) (by rfl) ?_ (by assumption) ?_
      rotate_left
      · intro w hSw; go_simp; first | done | with_reducible rfl
      simp only [Act.put, List.setIfInBounds_toArray, List.set_cons_zero, List.set_cons_succ]
      refine takeH 32 127 (v := ?_) rfl rfl (by kernel_rfl) (by kernel_rfl) (by kernel_rfl) (fun _ _ _ h => h) (by rfl) ?_ (by assumption) ?_
      rotate_left
      · intro w hSw; go_simp; first | done | with_reducible rfl
      simp only [Act.put, List.setIfInBounds_toArray, List.set_cons_zero, List.set_cons_succ]
      refine takeH 33 128 (v := ?_) rfl rfl (by kernel_rfl) (by kernel_rfl) (by kernel_rfl) (fun _ _ _ h => h) (by rfl) ?_ (by assumption) ?_
      rotate_left
      · intro w hSw; go_simp; first | done | with_reducible rfl
      simp only [Act.put, List.setIfInBounds_toArray, List.set_cons_zero, List.set_cons_succ]
      refine takeH 34 129 (v := ?_) rfl rfl (by kernel_rfl) (by kernel_rfl) (by kernel_rfl) (fun _ _ _ h => h) (by rfl) ?_ (by assumption) ?_
      rotate_left
      · intro w hSw; go_simp; first | done | with_reducible rfl
      simp only [Act.put, List.setIfInBounds_toArray, List.set_cons_zero, List.set_cons_succ]
      refine takeH 35 130 (v := ?_) rfl rfl (by kernel_rfl) (by kernel_rfl) (by kernel_rfl) (fun _ _ _ h => h) (by rfl) ?_ (by assumption) ?_
      rotate_left
      · intro w hSw; go_simp; first | done | with_reducible rfl
      simp only [Act.put, List.setIfInBounds_toArray, List.set_cons_zero, List.set_cons_succ]
      refine takeH 36 131 (v := ?_) rfl rfl (by kernel_rfl) (by kernel_rfl) (by kernel_rfl) (fun _ _ _ h => h) (by rfl) ?_ (by assumption) ?_
      rotate_left
      · intro w hSw; go_simp; first | done | with_reducible rfl
      simp only [Act.put, List.setIfInBounds_toArray, List.set_cons_zero, List.set_cons_succ]
      refine takeH 37 132 (v := ?_) rfl rfl (by kernel_rfl) (by kernel_rfl) (by kernel_rfl) (fun _ _ _ h => h) (by rfl) ?_ (by assumption) ?_
      rotate_left
      · intro w hSw; go_simp; first | done | with_reducible rfl
      simp only [Act.put, List.setIfInBounds_toArray, List.set_cons_zero, List.set_cons_succ]
      refine takeH 38 133 (v := ?_) rfl rfl (by kernel_rfl) (by kernel_rfl) (by kernel_rfl) (fun _ _ _ h => h) (by rfl) ?_ (by assumption) ?_
      rotate_left
      · intro w hSw; go_simp; first | done | with_reducible rfl
      simp only [Act.put, List.setIfInBounds_toArray, List.set_cons_zero, List.set_cons_succ]
      refine takeH 39 134 (v := ?_) rfl rfl (by kernel_rfl) (by kernel_rfl) (by kernel_rfl) (fun _ _ _ h => h) (by rfl) ?_ (by assumption) ?_
      rotate_left
      · intro w hSw; go_simp; first | done | with_reducible rfl
      simp only [Act.put, List.setIfInBounds_toArray, List.set_cons_zero, List.set_cons_succ]
      refine takeH 40 135 (v := ?_) rfl rfl (by kernel_rfl) (by kernel_rfl) (by kernel_rfl) (fun _ _ _ h => h) (by rfl) ?_ (by assumption) ?_
      rotate_left
      · intro w hSw; go_simp; first | done | with_reducible rfl
      simp only [Act.put, List.setIfInBounds_toArray, List.set_cons_zero, List.set_cons_succ]
      refine takeH 41 136 (v := ?_) rfl rfl (by kernel_rfl) (by kernel_rfl) (by kernel_rfl) (fun _ _ _ h => h) (by rfl) ?_ (by assumption) ?_
      rotate_left
      · intro w hSw; go_simp; first | done | with_reducible rfl
      simp only [Act.put, List.setIfInBounds_toArray, List.set_cons_zero, List.set_cons_succ]
      refine wpAnyH_ready (rs := [42]) (by kernel_rfl) (by simp) ?_
      refine AllReadyH.cons rfl (fun K hK => ?_) AllReadyH.nil
      go_simp
      refine (check_bad _ 0 [] [] _ (zero_in _) zero_bad).mono ?_
      rintro e wl6 ⟨rfl, hb6⟩
      go_simp
      refine hK.out _ _ (keepN HI6.out HI7.out HI8.out (below_bt hS5.2.2.2.out hb6)) (fun hS6 => ?_)
      clear hK K
      refine takeH 43 138 (v := ?_) rfl rfl (by kernel_rfl) (by kernel_rfl) (by kernel_rfl) (fun _ _ _ h => h) (by rfl) ?_ (by assumption) ?_
      rotate_left
      · intro w hSw; go_simp; first | done | with_reducible rfl
      simp only [Act.put, List.setIfInBounds_toArray, List.set_cons_zero, List.set_cons_succ]
      refine takeH 44 139 (v := ?_) rfl rfl (by kernel_rfl) (by kernel_rfl) (by kernel_rfl) (fun _ _ _ h => h) (by rfl) ?_ (by assumption) ?_
      rotate_left
      · intro w hSw; go_simp; first | done | with_reducible rfl
      simp only [Act.put, List.setIfInBounds_toArray, List.set_cons_zero, List.set_cons_succ]
      refine takeH 45 0 (v := ?_) rfl rfl (by kernel_rfl) (by kernel_rfl) (by kernel_rfl) (fun _ _ _ h => h) (by rfl) ?_ (by assumption) ?_
      rotate_left
      · intro w hSw; go_simp; first | done | with_reducible rfl
      simp only [Act.put, List.setIfInBounds_toArray, List.set_cons_zero]
      refine wpAnyH_done (by kernel_rfl) (NoPanic.normal ?_) _
      go_wp2
      go_ret
      exact ⟨rfl, below_bt hbc (below_bt hb12 hS6.2.2.2.out)⟩

/-! ### THE ROW's STEP -/
set_option maxRecDepth 100000 in
theorem lifted (os : Os) (started : os.Started) (H : Type) (enc : TypeId × Value → H) :
    ReturnsInHanded {} Try.checked os 3 .any (Rows.diskNamesSpec.pre6 enc Try.prog Try.f3 Rows.diskNamesRow.domain false) (Rows.diskNamesSpec.post enc Try.prog Try.f3 false true false false) := by
  refine returnsInHanded_of_change (C := Try.checked) own started (by kernel_rfl) Try.func3
    (ChangeSpec.witness6 (enc := enc) (C := Try.checked) false ⟨#[], #[], []⟩ 8 (by kernel_rfl) (by kernel_rfl) (by kernel_rfl) (by kernel_rfl)) ?_
  intro W base args ds gs before hval0 hW hcnd _
  have hval : ∀ (j : Nat) t v, Try.f3.params[j]? = some t → args[j]? = some v → Value.okWide Try.prog W .any base t v := hval0
  have hW' := hW
  obtain ⟨p, q, hA0, hV, rfl, hfz, hnd⟩ := hW
  have hA : DataW.TrodAll enc Try.prog W 0 (fun _ => true) true Try.f3.params.toList args.toList ds p := hA0
  rw [Try.params3] at hA hval
  obtain ⟨rfl, rfl, rfl⟩ := trodAll_none hA
  obtain ⟨rfl, rfl⟩ := trodVars_none hV
  clear hA0 hval0
  refine (walk  W ).mono fun e W' ⟨he, bel⟩ => ?_
  subst he
  exact ⟨_, rfl, _, _, _, [], _, [], hW', trodAll_mk1 (shut_bool Try.underlying4 _), rfl, rfl, bel.frame _, fun h => by cases h⟩

theorem over : Rows.diskNamesRow.holds Try.pinned (OpenSpec.ofChange Rows.diskNamesSpec) :=
  OpenClaim.holds_of_wide 3 Try.f3 rfl rfl rfl rfl rfl rfl rfl ⟨rfl, rfl, rfl, rfl, rfl⟩ rfl rfl rfl rfl rfl (by kernel_rfl) Try.func3 (by kernel_rfl)
    (of_decide_eq_true (by kernel_rfl)) (by unfold Func.isWrapper; first | (rw [if_pos (by decide +kernel)]; kernel_rfl) | (rw [if_neg (by decide +kernel)]; exact ⟨rfl, rfl⟩))
    (fun os started H enc _ => lifted os started H enc)

theorem proved : Rows.DiskNamesSaid := over
end Go.Proofs.Ytmpeeojeifmbfaa.diskNames
namespace Go.Proofs.Ytmpeeojeifmbfaa
theorem diskNames_holds : Rows.DiskNamesSaid := diskNames.proved
#print axioms diskNames_holds
end Go.Proofs.Ytmpeeojeifmbfaa
