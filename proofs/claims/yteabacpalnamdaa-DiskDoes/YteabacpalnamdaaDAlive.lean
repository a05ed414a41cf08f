/-
  Contract of the statements' own helper alive: a write, read, not sure.
-/
import Derived.Test.YteabacpalnamdaaDOnes
namespace Go.Proofs.Yteabacpalnamdaa
open Go.RowKit Go.WideShapes
attribute [local go_sem ↓] Go.wp_at_zero Go.wp_at_succ

def onesL (x : Nat) : List Nat := List.replicate 128 x
def zeroL (n : Nat) : List Nat := List.replicate (n * 128) 0
theorem onesL_len (x : Nat) : 128 = (onesL x).length := by simp only [onesL, List.length_replicate]
theorem onesL_mem (x : Nat) (h : x < 256) : ∀ c ∈ onesL x, c < 256 := fun c hc => by rw [(List.mem_replicate.1 hc).2]; exact h
theorem zeroL_len (n : Nat) : (zeroL n).length = n * 128 := List.length_replicate
theorem okay_new (n : Nat) (h1 : 1 ≤ n) (h2 : n ≤ 4096) : Okay n (zeroL n) [] := ⟨by omega, by omega, by rw [zeroL_len]; omega, by simp, by simp⟩
theorem sec_zero (n k : Nat) (h : k < n) : secN (zeroL n) k = onesL 0 := by
  unfold secN zeroL onesL
  rw [List.drop_replicate, List.take_replicate]
  congr 1
  omega
theorem ones_at (x : Nat) (w : World) :
    Calls Try.prog 11 #[.int .u8 x] w fun e w' => ∃ g, e = .returned (.slice (some ⟨g, 0, none⟩) 128 128) ∧ w.heap.size ≤ g ∧ w'.heap[g]? = some (.cells (Bs (onesL x)).toArray 5 (0, 0)) ∧ Below w.heap.size w w' := ones_any x w
theorem new_at (n : Nat) (w : World) (h1 : 1 ≤ n) (h2 : n ≤ 4096) :
    Calls Try.prog 9 #[.int .i64 n] w fun e w' => ∃ v, e = .returned (.tuple #[v, .int .i64 0]) ∧ DiskNew w' w.heap.size v n (zeroL n) [] ∧ Below w.heap.size w w' := new_ok n w h1 h2
theorem write_at (v : Value) (n : Int) (p : Option Addr) (len c : Nat) (xs : List Nat) (count : Int) (data : List Nat) (ws : Puts) (w : World) (hd : DiskIn w v count data ws) (ho : Okay count data ws) (hb : BIn w p xs) (hl : len = xs.length) (h1 : len ≤ c) (h2 : c ≤ maxLen) (h3 : p = none → c = 0)
    (d' : List Nat) (w2 : Puts) (hs : stepA count (data, ws) (false, n, xs) = .ok (d', w2)) :
    Calls Try.prog 10 #[v, .int .i64 n, .slice p len c] w fun e w' => (∃ v', e = .returned (.tuple #[v', .int .i64 0]) ∧ DiskNew w' w.heap.size v' count d' w2) ∧ Below w.heap.size w w' := by
  subst hl
  refine (write_ok v n p c xs count data ws w hd ho hb h1 h2 h3).mono ?_
  rintro e w' ⟨hp, hbw⟩
  rw [hs] at hp
  cases hp with
  | ok _ _ v' _ hnew => exact ⟨⟨v', rfl, hnew⟩, hbw⟩
theorem write_fails (v : Value) (n : Int) (p : Option Addr) (len c : Nat) (xs : List Nat) (count : Int) (data : List Nat) (ws : Puts) (w : World) (hd : DiskIn w v count data ws) (ho : Okay count data ws) (hb : BIn w p xs) (hl : len = xs.length) (h1 : len ≤ c) (h2 : c ≤ maxLen) (h3 : p = none → c = 0)
    (er : Int) (hs : stepA count (data, ws) (false, n, xs) = .error er) :
    Calls Try.prog 10 #[v, .int .i64 n, .slice p len c] w fun e w' => e = .returned (.tuple #[zeroDisk, .int .i64 er]) ∧ Below w.heap.size w w' := by
  subst hl
  refine (write_ok v n p c xs count data ws w hd ho hb h1 h2 h3).mono ?_
  rintro e w' ⟨hp, hbw⟩
  rw [hs] at hp
  cases hp with
  | err _ => exact ⟨rfl, hbw⟩
theorem DiskNew.form {w : World} {base : Nat} {v : Value} {count : Int} {data : List Nat} {ws : Puts} (h : DiskNew w base v count data ws) : ∃ gd L q M m, v = .agg #[.int .i64 count, .slice (some ⟨gd, 0, none⟩) L L, .slice q M m] := by
  obtain ⟨gd, q, m, gs, h1, _⟩ := h.lies
  exact ⟨gd, _, q, _, m, h1⟩
theorem SecNew.form {w : World} {base : Nat} {v : Value} {xs : List Nat} (h : SecNew w base v xs) : ∃ g, v = .slice (some ⟨g, 0, none⟩) 128 128 ∧ base ≤ g ∧ BIn w (some ⟨g, 0, none⟩) xs ∧ xs.length = 128 := by
  obtain ⟨g, h1, h2, h3, h4, h5⟩ := h
  exact ⟨g, h1, h2, bin_row h3 h5, h4⟩
theorem conv_at {w : World} {p : Option Addr} {xs : List Nat} {n c : Nat} (h : BIn w p xs) (hn : n = xs.length) : (convert 22 9 (.slice p n c)).run Try.prog w = .ok (.string (strOf xs)) w := by
  subst hn; exact conv_bytes h c
theorem alive_step : stepA 2 (zeroL 2, []) (false, 1, onesL 1) = .ok (zeroL 2, [(1, onesL 1)]) := by
  have := onesL_len 1
  simp [stepA, ← this]
theorem alive_okay : Okay 2 (zeroL 2) [(1, onesL 1)] := okay_step (s := (zeroL 2, [])) (s' := (zeroL 2, [(1, onesL 1)])) (okay_new 2 (by decide) (by decide)) alive_step
theorem alive_now : nowN (zeroL 2) [(1, onesL 1)] ((1 : Nat) : Int) = onesL 1 := by simp [nowN, nowK]

/-- Two sectors that were read, read as strings. -/
theorem keepC0 {WS w' : World} {g6 g7 : Nat} {x y : Nat} (h6 : BIn WS (some ⟨g6, 0, none⟩) (onesL x)) (h7 : BIn WS (some ⟨g7, 0, none⟩) (onesL y)) (hb : Below WS.heap.size WS w') :
    (convert 22 9 (.slice (some ⟨g6, 0, none⟩) 128 128)).run Try.prog w' = .ok (.string (strOf (onesL x))) w' ∧ (convert 22 9 (.slice (some ⟨g7, 0, none⟩) 128 128)).run Try.prog w' = .ok (.string (strOf (onesL y))) w' ∧ Hid (Below WS.heap.size WS w') :=
  ⟨conv_at (h6.below hb) (onesL_len x), conv_at (h7.below hb) (onesL_len y), hb⟩
set_option maxHeartbeats 4000000 in
theorem alive_any (w : World) : Calls Try.prog 16 #[] w fun e w' => e = .returned (.bool true) ∧ Below w.heap.size w w' := by
  go_enter Try.func16, Try.ntmps16
  go_wp2_with fail
  refine (new_at 2 _ (by decide) (by decide)).mono ?_
  rintro e w1 ⟨v1, rfl, hn1, hb1⟩
  obtain ⟨g1, L1, q1, M1, m1, rfl⟩ := hn1.form
  have HN1 : Hid _ := hn1
  clear hn1
  go_wp2
  obtain ⟨W, hW⟩ : ∃ W, W = w1.alloc (.cells #[.int .i64 2, .slice (some ⟨g1, 0, none⟩) L1 L1, .slice q1 M1 m1] 25) := ⟨_, rfl⟩
  have HH : Hid (W.heap[w1.heap.size]? = some (.cells #[.int .i64 2, .slice (some ⟨g1, 0, none⟩) L1 L1, .slice q1 M1 m1] 25 (0, 0))) := by rw [hW]; exact heap_alloc_new _ _
  have HDx : Hid (∀ w', Below W.heap.size W w' → DiskIn w' (.agg #[.int .i64 2, .slice (some ⟨g1, 0, none⟩) L1 L1, .slice q1 M1 m1]) 2 (zeroL 2) []) := by
    intro w' h
    rw [hW] at h
    exact ((HN1.out.below (below_alloc _ _)).below h).toIn (okay_new 2 (by decide) (by decide))
  have HBW : Hid (∀ w', Below W.heap.size W w' → Below w.heap.size w w') := by
    intro w' h
    rw [hW] at h
    exact (hb1.alloc hb1.size _).trans (h.mono (by rw [World.size_alloc]; have := hb1.size; omega))
  rw [← hW]
  clear hW HN1
  have HOK : Hid _ := okay_new 2 (by decide) (by decide)
  have HST : Hid _ := alive_step
  have HS1 : (W.drew.cell? ⟨w1.heap.size, 0, none⟩ = some (.int .i64 2) ∧ W.drew.cell? ⟨w1.heap.size, 1, none⟩ = some (.slice (some ⟨g1, 0, none⟩) L1 L1) ∧ W.drew.cell? ⟨w1.heap.size, 2, none⟩ = some (.slice q1 M1 m1)) ∧ Hid (Below W.heap.size W W.drew) := ⟨cells3 HH.out, (Below.refl _ _).drew⟩
  go_cut [3, 4] from 9 (fun s3 s4 w5 => ∃ B gd L q M m, s3 = .pointer (some ⟨B, 0, none⟩) ∧ s4 = .int .i64 0 ∧ w5.heap[B]? = some (.cells #[.int .i64 2, .slice (some ⟨gd, 0, none⟩) L L, .slice q M m] 25 (0, 0)) ∧ DiskNew w5 0 (.agg #[.int .i64 2, .slice (some ⟨gd, 0, none⟩) L L, .slice q M m]) 2 (zeroL 2) [(1, onesL 1)] ∧ Below w.heap.size w w5)
  case first =>
    refine wp_region_noPanic ?_
    refine wp_region_held_drew (S := (fun w' => (w'.cell? ⟨w1.heap.size, 0, none⟩ = some (.int .i64 2) ∧ w'.cell? ⟨w1.heap.size, 1, none⟩ = some (.slice (some ⟨g1, 0, none⟩) L1 L1) ∧ w'.cell? ⟨w1.heap.size, 2, none⟩ = some (.slice q1 M1 m1)) ∧ Hid (Below W.heap.size W w'))) (by kernel_rfl) HS1 (fun hS0 => ?_)
    clear HS1
    refine takeH 0 14 (v := ?_) rfl rfl (by kernel_rfl) (by kernel_rfl) (by kernel_rfl) (fun _ _ _ h => h) (by rfl) ?_ (by assumption) ?_
    rotate_left
    · intro w hSw; go_simp; first | done | with_reducible rfl
    simp only [Act.put, List.setIfInBounds_toArray, List.set_cons_zero, List.set_cons_succ]
    refine wpAnyH_ready (rs := [1, 6]) (by kernel_rfl) (by simp) ?_
    refine AllReadyH.cons rfl (fun K hK => ?_) (AllReadyH.cons rfl (fun K hK => ?_) AllReadyH.nil)
    · go_simp
      refine (ones_at 1 _).mono ?_
      rintro e wo1 ⟨go, rfl, hgo, hro, hb1⟩
      go_simp
      refine hK.out _ _ (keepS (Nat.le_refl _) hS0 hb1) (fun hS1 => ?_)
      clear hK K
      refine wpAnyH_ready (rs := [2, 6]) (by kernel_rfl) (by simp) ?_
      refine AllReadyH.cons rfl (fun K hK => ?_) (AllReadyH.cons rfl (fun K hK => ?_) AllReadyH.nil)
      · go_simp
        refine (write_at _ 1 (some ⟨go, 0, none⟩) 128 128 (onesL 1) 2 (zeroL 2) [] _ (HDx.out _ hS1.2.out) HOK.out (bin_row hro (onesL_mem 1 (by decide))) (onesL_len 1) (by decide) (by unfold maxLen; decide) (fun h => by cases h) _ _ HST.out).mono ?_
        rintro e ww2 ⟨⟨v', rfl, hnew⟩, hb2⟩
        obtain ⟨gd, L, q, M, m, rfl⟩ := hnew.form
        go_simp
        refine hK.out _ _ (keepS (Nat.le_refl _) hS1 hb2) (fun hS2 => ?_)
        clear hK K
        refine takeH 3 13 (v := ?_) rfl rfl (by kernel_rfl) (by kernel_rfl) (by kernel_rfl) (fun _ _ _ h => h) (by rfl) ?_ (by assumption) ?_
        rotate_left
        · intro w hSw; go_simp; first | done | with_reducible rfl
        simp only [Act.put, List.setIfInBounds_toArray, List.set_cons_zero, List.set_cons_succ]
        refine takeH 4 17 (v := ?_) rfl rfl (by kernel_rfl) (by kernel_rfl) (by kernel_rfl) (fun _ _ _ h => h) (by rfl) ?_ (by assumption) ?_
        rotate_left
        · intro w hSw; go_simp; first | done | with_reducible rfl
        simp only [Act.put, List.setIfInBounds_toArray, List.set_cons_zero, List.set_cons_succ]
        refine takeH 5 18 (v := ?_) rfl rfl (by kernel_rfl) (by kernel_rfl) (by kernel_rfl) (fun _ _ _ h => h) (by rfl) ?_ (by assumption) ?_
        rotate_left
        · intro w hSw; go_simp; first | done | with_reducible rfl
        simp only [Act.put, List.setIfInBounds_toArray, List.set_cons_zero, List.set_cons_succ]
        refine wpAnyH_ready (rs := [6]) (by kernel_rfl) (by simp) ?_
        refine AllReadyH.cons rfl (fun K hK => ?_) AllReadyH.nil
        have hb3 := below_alloc ww2 (.cells #[.int .i64 0, .slice none 0 0, .slice none 0 0] 25)
        go_simp
        refine hK.out _ _ (keepS (Nat.le_refl _) hS2 hb3) (fun hS3 => ?_)
        clear hK K
        refine wpAnyH_ready (rs := [7]) (by kernel_rfl) (by simp) ?_
        refine AllReadyH.cons rfl (fun K hK => ?_) AllReadyH.nil
        go_simp
        refine hK.out _ _ (keepA (Nat.le_refl _) hS2 _) (fun hSz => ?_)
        clear hK K
        refine takeH 8 4 (v := ?_) rfl rfl (by kernel_rfl) (by kernel_rfl) (by kernel_rfl) (fun _ _ _ h => h) (by rfl) ?_ (by assumption) ?_
        rotate_left
        · intro w hSw; go_simp; first | done | with_reducible rfl
        simp only [Act.put, List.setIfInBounds_toArray, List.set_cons_zero, List.set_cons_succ]
        refine wpAnyH_done (by kernel_rfl) (NoPanic.normal ?_) _
        go_wp2
        go_meet
        case rel =>
          exact ⟨_, gd, L, q, M, m, rfl, rfl, heap_alloc_new _ _, ((hnew).below (below_alloc _ _)).mono (Nat.zero_le _), HBW.out _ hSz.2.out⟩
      · have hb2 := below_alloc wo1 (.cells #[.int .i64 0, .slice none 0 0, .slice none 0 0] 25)
        go_simp
        refine hK.out _ _ (keepS (Nat.le_refl _) hS1 hb2) (fun hS2 => ?_)
        clear hK K
        refine wpAnyH_ready (rs := [2]) (by kernel_rfl) (by simp) ?_
        refine AllReadyH.cons rfl (fun K hK => ?_) AllReadyH.nil
        go_simp
        refine (write_at _ 1 (some ⟨go, 0, none⟩) 128 128 (onesL 1) 2 (zeroL 2) [] _ (HDx.out _ hS2.2.out) HOK.out (bin_row (((hb2).block _ (lt_heap hro)).trans hro) (onesL_mem 1 (by decide))) (onesL_len 1) (by decide) (by unfold maxLen; decide) (fun h => by cases h) _ _ HST.out).mono ?_
        rintro e ww3 ⟨⟨v', rfl, hnew⟩, hb3⟩
        obtain ⟨gd, L, q, M, m, rfl⟩ := hnew.form
        go_simp
        refine hK.out _ _ (keepS (Nat.le_refl _) hS2 hb3) (fun hS3 => ?_)
        clear hK K
        refine takeH 3 13 (v := ?_) rfl rfl (by kernel_rfl) (by kernel_rfl) (by kernel_rfl) (fun _ _ _ h => h) (by rfl) ?_ (by assumption) ?_
        rotate_left
        · intro w hSw; go_simp; first | done | with_reducible rfl
        simp only [Act.put, List.setIfInBounds_toArray, List.set_cons_zero, List.set_cons_succ]
        refine takeH 4 17 (v := ?_) rfl rfl (by kernel_rfl) (by kernel_rfl) (by kernel_rfl) (fun _ _ _ h => h) (by rfl) ?_ (by assumption) ?_
        rotate_left
        · intro w hSw; go_simp; first | done | with_reducible rfl
        simp only [Act.put, List.setIfInBounds_toArray, List.set_cons_zero, List.set_cons_succ]
        refine takeH 5 18 (v := ?_) rfl rfl (by kernel_rfl) (by kernel_rfl) (by kernel_rfl) (fun _ _ _ h => h) (by rfl) ?_ (by assumption) ?_
        rotate_left
        · intro w hSw; go_simp; first | done | with_reducible rfl
        simp only [Act.put, List.setIfInBounds_toArray, List.set_cons_zero, List.set_cons_succ]
        refine wpAnyH_ready (rs := [7]) (by kernel_rfl) (by simp) ?_
        refine AllReadyH.cons rfl (fun K hK => ?_) AllReadyH.nil
        have hZ : ww3.heap[wo1.heap.size]? = some (.cells #[.int .i64 0, .slice none 0 0, .slice none 0 0] 25 (0, 0)) := ((hb3).block _ (by first | (rw [World.size_alloc]; exact Nat.lt_succ_self _) | (show _ < (World.alloc _ _).heap.size; rw [World.size_alloc]; exact Nat.lt_succ_self _))).trans (heap_alloc_new _ _)
        obtain ⟨z0, z1, z2⟩ := cells3 hZ
        obtain ⟨y0, y1, y2⟩ := free3 hZ
        have HZ : Hid _ := hZ
        clear hZ
        have szB := hS1.2.out.size
        have szX := lt_heap HH.out
        go_simp
        refine hK.out _ _ (keep3 hS3 ⟨Nat.ne_of_lt (Nat.lt_of_lt_of_le szX szB), szB⟩ _ _ _) (fun hSz => ?_)
        clear hK K
        refine takeH 8 4 (v := ?_) rfl rfl (by kernel_rfl) (by kernel_rfl) (by kernel_rfl) (fun _ _ _ h => h) (by rfl) ?_ (by assumption) ?_
        rotate_left
        · intro w hSw; go_simp; first | done | with_reducible rfl
        simp only [Act.put, List.setIfInBounds_toArray, List.set_cons_zero, List.set_cons_succ]
        refine wpAnyH_done (by kernel_rfl) (NoPanic.normal ?_) _
        go_wp2
        go_meet
        case rel =>
          exact ⟨_, gd, L, q, M, m, rfl, rfl, set3_same _ _ _ _ _ _ _ _ _ HZ.out, ((hnew).set3 HZ.out _ _ _).mono (Nat.zero_le _), HBW.out _ hSz.2.out⟩
    · have hb1 := below_alloc W.drew (.cells #[.int .i64 0, .slice none 0 0, .slice none 0 0] 25)
      go_simp
      refine hK.out _ _ (keepS (Nat.le_refl _) hS0 hb1) (fun hS1 => ?_)
      clear hK K
      refine wpAnyH_ready (rs := [1]) (by kernel_rfl) (by simp) ?_
      refine AllReadyH.cons rfl (fun K hK => ?_) AllReadyH.nil
      go_simp
      refine (ones_at 1 _).mono ?_
      rintro e wo2 ⟨go, rfl, hgo, hro, hb2⟩
      go_simp
      refine hK.out _ _ (keepS (Nat.le_refl _) hS1 hb2) (fun hS2 => ?_)
      clear hK K
      refine wpAnyH_ready (rs := [2]) (by kernel_rfl) (by simp) ?_
      refine AllReadyH.cons rfl (fun K hK => ?_) AllReadyH.nil
      go_simp
      refine (write_at _ 1 (some ⟨go, 0, none⟩) 128 128 (onesL 1) 2 (zeroL 2) [] _ (HDx.out _ hS2.2.out) HOK.out (bin_row hro (onesL_mem 1 (by decide))) (onesL_len 1) (by decide) (by unfold maxLen; decide) (fun h => by cases h) _ _ HST.out).mono ?_
      rintro e ww3 ⟨⟨v', rfl, hnew⟩, hb3⟩
      obtain ⟨gd, L, q, M, m, rfl⟩ := hnew.form
      go_simp
      refine hK.out _ _ (keepS (Nat.le_refl _) hS2 hb3) (fun hS3 => ?_)
      clear hK K
      refine takeH 3 13 (v := ?_) rfl rfl (by kernel_rfl) (by kernel_rfl) (by kernel_rfl) (fun _ _ _ h => h) (by rfl) ?_ (by assumption) ?_
      rotate_left
      · intro w hSw; go_simp; first | done | with_reducible rfl
      simp only [Act.put, List.setIfInBounds_toArray, List.set_cons_zero, List.set_cons_succ]
      refine takeH 4 17 (v := ?_) rfl rfl (by kernel_rfl) (by kernel_rfl) (by kernel_rfl) (fun _ _ _ h => h) (by rfl) ?_ (by assumption) ?_
      rotate_left
      · intro w hSw; go_simp; first | done | with_reducible rfl
      simp only [Act.put, List.setIfInBounds_toArray, List.set_cons_zero, List.set_cons_succ]
      refine takeH 5 18 (v := ?_) rfl rfl (by kernel_rfl) (by kernel_rfl) (by kernel_rfl) (fun _ _ _ h => h) (by rfl) ?_ (by assumption) ?_
      rotate_left
      · intro w hSw; go_simp; first | done | with_reducible rfl
      simp only [Act.put, List.setIfInBounds_toArray, List.set_cons_zero, List.set_cons_succ]
      refine wpAnyH_ready (rs := [7]) (by kernel_rfl) (by simp) ?_
      refine AllReadyH.cons rfl (fun K hK => ?_) AllReadyH.nil
      have hZ : ww3.heap[W.heap.size]? = some (.cells #[.int .i64 0, .slice none 0 0, .slice none 0 0] 25 (0, 0)) := (((below_bt hb2 hb3)).block _ (by first | (rw [World.size_alloc]; exact Nat.lt_succ_self _) | (show _ < (World.alloc _ _).heap.size; rw [World.size_alloc]; exact Nat.lt_succ_self _))).trans (heap_alloc_new _ _)
      obtain ⟨z0, z1, z2⟩ := cells3 hZ
      obtain ⟨y0, y1, y2⟩ := free3 hZ
      have HZ : Hid _ := hZ
      clear hZ
      have szB := hS0.2.out.size
      have szX := lt_heap HH.out
      go_simp
      refine hK.out _ _ (keep3 hS3 ⟨Nat.ne_of_lt (Nat.lt_of_lt_of_le szX szB), szB⟩ _ _ _) (fun hSz => ?_)
      clear hK K
      refine takeH 8 4 (v := ?_) rfl rfl (by kernel_rfl) (by kernel_rfl) (by kernel_rfl) (fun _ _ _ h => h) (by rfl) ?_ (by assumption) ?_
      rotate_left
      · intro w hSw; go_simp; first | done | with_reducible rfl
      simp only [Act.put, List.setIfInBounds_toArray, List.set_cons_zero, List.set_cons_succ]
      refine wpAnyH_done (by kernel_rfl) (NoPanic.normal ?_) _
      go_wp2
      go_meet
      case rel =>
        exact ⟨_, gd, L, q, M, m, rfl, rfl, set3_same _ _ _ _ _ _ _ _ _ HZ.out, ((hnew).set3 HZ.out _ _ _).mono (Nat.zero_le _), HBW.out _ hSz.2.out⟩
  case rest =>
    obtain ⟨B, gd, L, q, M, m, rfl, rfl, hbox, hnew, hbc⟩ := hcut
    have HB : Hid _ := hbox
    have HN : Hid _ := hnew
    obtain ⟨c0, c1, c2⟩ := cells3 hbox
    clear hbox hnew HS1 HDx HBW
    go_wp2_with fail
    refine (read_ok _ 1 2 (zeroL 2) [(1, onesL 1)] _ (HN.out.toIn alive_okay) alive_okay (by decide)).mono ?_
    rintro e w6 ⟨⟨v6, rfl, hs6⟩, hb6⟩
    rw [alive_now] at hs6
    obtain ⟨g6, rfl, _, hi6, _⟩ := hs6.form
    have hx6 := (hb6.block _ (lt_heap HB.out)).trans HB.out
    obtain ⟨d0, d1, d2⟩ := cells3 hx6
    have HI6 : Hid (BIn w6 (some ⟨g6, 0, none⟩) (onesL 1)) := hi6
    have HX6 : Hid _ := hx6
    clear hs6 hi6 hx6 c0 c1 c2
    have hbc6 := hbc.trans (hb6.mono hbc.size)
    go_wp2_with fail
    refine (sure_ok _ 1 2 (zeroL 2) [(1, onesL 1)] _ ((HN.out.toIn alive_okay).below hb6) alive_okay (by decide)).mono ?_
    rintro e WS ⟨⟨v7, rfl, hs7⟩, hb7⟩
    rw [sec_zero 2 1 (by decide)] at hs7
    obtain ⟨g7, rfl, _, hi7, _⟩ := hs7.form
    have HI7 : Hid (BIn WS (some ⟨g7, 0, none⟩) (onesL 0)) := hi7
    have HI6' : Hid (BIn WS (some ⟨g6, 0, none⟩) (onesL 1)) := HI6.out.below hb7
    have hbS := hbc6.trans (hb7.mono hbc6.size)
    clear hs7 hi7 d0 d1 d2 HI6 HX6 HB HN hbc hbc6 hb6 hb7
    go_wp2
    refine wp_region_noPanic ?_
    refine wp_region_held_drew (S := fun w' => (convert 22 9 (.slice (some ⟨g6, 0, none⟩) 128 128)).run Try.prog w' = .ok (.string (strOf (onesL 1))) w' ∧ (convert 22 9 (.slice (some ⟨g7, 0, none⟩) 128 128)).run Try.prog w' = .ok (.string (strOf (onesL 0))) w' ∧ Hid (Below WS.heap.size WS w')) (by kernel_rfl) (keepC0 HI6'.out HI7.out ((Below.refl _ _).drew)) (fun hS0 => ?_)
    refine takeH 0 29 (v := ?_) rfl rfl (by kernel_rfl) (by kernel_rfl) (by kernel_rfl) (fun _ _ _ h => h) (by rfl) ?_ (by assumption) ?_
    rotate_left
    · intro w hSw; go_simp; first | done | with_reducible rfl
    simp only [Act.put, List.setIfInBounds_toArray, List.set_cons_zero, List.set_cons_succ]
    refine takeH 1 30 (v := ?_) rfl rfl (by kernel_rfl) (by kernel_rfl) (by kernel_rfl) (fun _ _ _ h => h) (by rfl) ?_ (by assumption) ?_
    rotate_left
    · intro w hSw; go_simp; first | done | with_reducible rfl
    simp only [Act.put, List.setIfInBounds_toArray, List.set_cons_zero, List.set_cons_succ]
    refine takeH 2 31 (v := ?_) rfl rfl (by kernel_rfl) (by kernel_rfl) (by kernel_rfl) (fun _ _ _ h => h) (by rfl) ?_ (by assumption) ?_
    rotate_left
    · intro w hSw; go_simp; first | done | with_reducible rfl
    simp only [Act.put, List.setIfInBounds_toArray, List.set_cons_zero, List.set_cons_succ]
    refine takeH 3 32 (v := ?_) rfl rfl (by kernel_rfl) (by kernel_rfl) (by kernel_rfl) (fun _ _ _ h => h) (by rfl) ?_ (by assumption) ?_
    rotate_left
    · intro w hSw; go_simp; first | done | with_reducible rfl
    simp only [Act.put, List.setIfInBounds_toArray, List.set_cons_zero, List.set_cons_succ]
    refine takeH 4 33 (v := ?_) rfl rfl (by kernel_rfl) (by kernel_rfl) (by kernel_rfl) (fun _ _ _ h => h) (by rfl) ?_ (by assumption) ?_
    rotate_left
    · intro w hSw; go_simp; first | done | with_reducible rfl
    simp only [Act.put, List.setIfInBounds_toArray, List.set_cons_zero, List.set_cons_succ]
    refine takeH 5 34 (v := ?_) rfl rfl (by kernel_rfl) (by kernel_rfl) (by kernel_rfl) (fun _ _ _ h => h) (by rfl) ?_ (by assumption) ?_
    rotate_left
    · intro w hSw; go_simp; first | done | with_reducible rfl
    simp only [Act.put, List.setIfInBounds_toArray, List.set_cons_zero, List.set_cons_succ]
    refine takeH 6 35 (v := ?_) rfl rfl (by kernel_rfl) (by kernel_rfl) (by kernel_rfl) (fun _ _ _ h => h) (by rfl) ?_ (by assumption) ?_
    rotate_left
    · intro w hSw; go_simp; first | done | with_reducible rfl
    simp only [Act.put, List.setIfInBounds_toArray, List.set_cons_zero, List.set_cons_succ]
    refine takeH 7 36 (v := ?_) rfl rfl (by kernel_rfl) (by kernel_rfl) (by kernel_rfl) (fun _ _ _ h => h) (by rfl) ?_ (by assumption) ?_
    rotate_left
    · intro w hSw; go_simp; first | done | with_reducible rfl
    simp only [Act.put, List.setIfInBounds_toArray, List.set_cons_zero, List.set_cons_succ]
    refine takeH 8 37 (v := ?_) rfl rfl (by kernel_rfl) (by kernel_rfl) (by kernel_rfl) (fun _ _ _ h => h) (by rfl) ?_ (by assumption) ?_
    rotate_left
    · intro w hSw; go_simp; first | done | with_reducible rfl
    simp only [Act.put, List.setIfInBounds_toArray, List.set_cons_zero, List.set_cons_succ]
    refine takeH 9 38 (v := ?_) rfl rfl (by kernel_rfl) (by kernel_rfl) (by kernel_rfl) (fun _ _ _ h => h) (by rfl) ?_ (by assumption) ?_
    rotate_left
    · intro w hSw; go_simp; first | done | with_reducible rfl
    simp only [Act.put, List.setIfInBounds_toArray, List.set_cons_zero, List.set_cons_succ]
    refine takeH 10 39 (v := ?_) rfl rfl (by kernel_rfl) (by kernel_rfl) (by kernel_rfl) (fun _ _ _ h => h) (by rfl) ?_ (by assumption) ?_
    rotate_left
    · intro w hSw; go_simp; first | done | with_reducible rfl
    simp only [Act.put, List.setIfInBounds_toArray, List.set_cons_zero, List.set_cons_succ]
    refine takeH 11 40 (v := ?_) rfl rfl (by kernel_rfl) (by kernel_rfl) (by kernel_rfl) (fun _ _ _ h => h) (by rfl) ?_ (by assumption) ?_
    rotate_left
    · intro w hSw; go_simp; first | done | with_reducible rfl
    simp only [Act.put, List.setIfInBounds_toArray, List.set_cons_zero, List.set_cons_succ]
    refine takeH 12 41 (v := ?_) rfl rfl (by kernel_rfl) (by kernel_rfl) (by kernel_rfl) (fun _ _ _ h => h) (by rfl) ?_ (by assumption) ?_
    rotate_left
    · intro w hSw; go_simp; first | done | with_reducible rfl
    simp only [Act.put, List.setIfInBounds_toArray, List.set_cons_zero, List.set_cons_succ]
    refine takeH 13 42 (v := ?_) rfl rfl (by kernel_rfl) (by kernel_rfl) (by kernel_rfl) (fun _ _ _ h => h) (by rfl) ?_ (by assumption) ?_
    rotate_left
    · intro w hSw; go_simp; first | done | with_reducible rfl
    simp only [Act.put, List.setIfInBounds_toArray, List.set_cons_zero, List.set_cons_succ]
    refine takeH 14 43 (v := ?_) rfl rfl (by kernel_rfl) (by kernel_rfl) (by kernel_rfl) (fun _ _ _ h => h) (by rfl) ?_ (by assumption) ?_
    rotate_left
    · intro w hSw; go_simp; first | done | with_reducible rfl
    simp only [Act.put, List.setIfInBounds_toArray, List.set_cons_zero, List.set_cons_succ]
    refine takeH 15 44 (v := ?_) rfl rfl (by kernel_rfl) (by kernel_rfl) (by kernel_rfl) (fun _ _ _ h => h) (by rfl) ?_ (by assumption) ?_
    rotate_left
    · intro w hSw; go_simp; first | done | with_reducible rfl
    simp only [Act.put, List.setIfInBounds_toArray, List.set_cons_zero, List.set_cons_succ]
    refine takeH 16 45 (v := ?_) rfl rfl (by kernel_rfl) (by kernel_rfl) (by kernel_rfl) (fun _ _ _ h => h) (by rfl) ?_ (by assumption) ?_
    rotate_left
    · intro w hSw; go_simp; first | done | with_reducible rfl
    simp only [Act.put, List.setIfInBounds_toArray, List.set_cons_zero, List.set_cons_succ]
    refine wpAnyH_ready (rs := [17]) (by kernel_rfl) (by simp) ?_
    refine AllReadyH.cons rfl (fun K hK => ?_) AllReadyH.nil
    go_simp
    refine (ones_at 1 _).mono ?_
    rintro e wo1 ⟨go1, rfl, hgo1, hro1, hb1⟩
    have hcv1 := conv_at (c := 128) (bin_row hro1 (onesL_mem 1 (by decide))) (onesL_len 1)
    go_simp
    refine hK.out _ _ (keepC0 HI6'.out HI7.out (hS0.2.2.out.trans (hb1.mono hS0.2.2.out.size))) (fun hS1 => ?_)
    clear hK K hro1
    refine wpAnyH_ready (rs := [18]) (by kernel_rfl) (by simp) ?_
    refine AllReadyH.cons rfl (fun K hK => ?_) AllReadyH.nil
    go_simp
    refine hK.out _ _ hS1 (fun hS2 => ?_)
    clear hK K
    refine takeH 19 48 (v := ?_) rfl rfl (by kernel_rfl) (by kernel_rfl) (by kernel_rfl) (fun _ _ _ h => h) (by rfl) ?_ (by assumption) ?_
    rotate_left
    · intro w hSw; go_simp; first | done | with_reducible rfl
    simp only [Act.put, List.setIfInBounds_toArray, List.set_cons_zero, List.set_cons_succ]
    refine takeH 20 49 (v := ?_) rfl rfl (by kernel_rfl) (by kernel_rfl) (by kernel_rfl) (fun _ _ _ h => h) (by rfl) ?_ (by assumption) ?_
    rotate_left
    · intro w hSw; go_simp; first | done | with_reducible rfl
    simp only [Act.put, List.setIfInBounds_toArray, List.set_cons_zero, List.set_cons_succ]
    refine takeH 21 50 (v := ?_) rfl rfl (by kernel_rfl) (by kernel_rfl) (by kernel_rfl) (fun _ _ _ h => h) (by rfl) ?_ (by assumption) ?_
    rotate_left
    · intro w hSw; go_simp; first | done | with_reducible rfl
    simp only [Act.put, List.setIfInBounds_toArray, List.set_cons_zero, List.set_cons_succ]
    refine takeH 22 51 (v := ?_) rfl rfl (by kernel_rfl) (by kernel_rfl) (by kernel_rfl) (fun _ _ _ h => h) (by rfl) ?_ (by assumption) ?_
    rotate_left
    · intro w hSw; go_simp; first | done | with_reducible rfl
    simp only [Act.put, List.setIfInBounds_toArray, List.set_cons_zero, List.set_cons_succ]
    refine takeH 23 52 (v := ?_) rfl rfl (by kernel_rfl) (by kernel_rfl) (by kernel_rfl) (fun _ _ _ h => h) (by rfl) ?_ (by assumption) ?_
    rotate_left
    · intro w hSw; go_simp; first | done | with_reducible rfl
    simp only [Act.put, List.setIfInBounds_toArray, List.set_cons_zero, List.set_cons_succ]
    refine wpAnyH_ready (rs := [24]) (by kernel_rfl) (by simp) ?_
    refine AllReadyH.cons rfl (fun K hK => ?_) AllReadyH.nil
    go_simp
    refine (ones_at 0 _).mono ?_
    rintro e wo3 ⟨go3, rfl, hgo3, hro3, hb3⟩
    have hcv3 := conv_at (c := 128) (bin_row hro3 (onesL_mem 0 (by decide))) (onesL_len 0)
    go_simp
    refine hK.out _ _ (keepC0 HI6'.out HI7.out (hS2.2.2.out.trans (hb3.mono hS2.2.2.out.size))) (fun hS3 => ?_)
    clear hK K hro3
    refine wpAnyH_ready (rs := [25]) (by kernel_rfl) (by simp) ?_
    refine AllReadyH.cons rfl (fun K hK => ?_) AllReadyH.nil
    go_simp
    refine hK.out _ _ hS3 (fun hS4 => ?_)
    clear hK K
    refine takeH 26 55 (v := ?_) rfl rfl (by kernel_rfl) (by kernel_rfl) (by kernel_rfl) (fun _ _ _ h => h) (by rfl) ?_ (by assumption) ?_
    rotate_left
    · intro w hSw; go_simp; first | done | with_reducible rfl
    simp only [Act.put, List.setIfInBounds_toArray, List.set_cons_zero, List.set_cons_succ]
    refine takeH 27 56 (v := ?_) rfl rfl (by kernel_rfl) (by kernel_rfl) (by kernel_rfl) (fun _ _ _ h => h) (by rfl) ?_ (by assumption) ?_
    rotate_left
    · intro w hSw; go_simp; first | done | with_reducible rfl
    simp only [Act.put, List.setIfInBounds_toArray, List.set_cons_zero, List.set_cons_succ]
    refine takeH 28 0 (v := ?_) rfl rfl (by kernel_rfl) (by kernel_rfl) (by kernel_rfl) (fun _ _ _ h => h) (by rfl) ?_ (by assumption) ?_
    rotate_left
    · intro w hSw; go_simp; first | done | with_reducible rfl
    simp only [Act.put, List.setIfInBounds_toArray, List.set_cons_zero]
    refine wpAnyH_done (by kernel_rfl) (NoPanic.normal ?_) _
    go_wp2
    go_ret
    exact ⟨rfl, hbS.trans (hS4.2.2.out.mono hbS.size)⟩
end Go.Proofs.Yteabacpalnamdaa
