/-
  The reader: null, true, false and texts.
-/
import Derived.Test.YtcfalgomcdmdhaaDoorJValB
namespace Go.Proofs.YtcfalgomcdmdhaaDoor
open Go.RowKit Go.WideShapes Go.Joins

theorem row6_cells {w : World} {g : Nat} {a b c d e f : Value} (h : w.heap[g]? = some (.cells #[a, b, c, d, e, f] 25 (0, 0))) :
    (w.cell? ⟨g, 0, none⟩ = some a ∧ w.cell? ⟨g, 1, none⟩ = some b ∧ w.cell? ⟨g, 2, none⟩ = some c ∧ w.cell? ⟨g, 3, none⟩ = some d ∧ w.cell? ⟨g, 4, none⟩ = some e ∧ w.cell? ⟨g, 5, none⟩ = some f) ∧
    w.frozen? ⟨g, 0, none⟩ = false ∧ w.frozen? ⟨g, 1, none⟩ = false ∧ w.frozen? ⟨g, 2, none⟩ = false ∧ w.frozen? ⟨g, 3, none⟩ = false ∧ w.frozen? ⟨g, 4, none⟩ = false ∧ w.frozen? ⟨g, 5, none⟩ = false :=
  ⟨⟨by rw [cell_of_block h]; rfl, by rw [cell_of_block h]; rfl, by rw [cell_of_block h]; rfl, by rw [cell_of_block h]; rfl, by rw [cell_of_block h]; rfl, by rw [cell_of_block h]; rfl⟩,
    unfrozen_of_block h 0, unfrozen_of_block h 1, unfrozen_of_block h 2, unfrozen_of_block h 3, unfrozen_of_block h 4, unfrozen_of_block h 5⟩
set_option maxHeartbeats 400000 in
set_option maxRecDepth 8000 in
theorem val_null (b pr pv : Nat) (D : Int) (F : Nat) (g : Option (J.Rd J.JV)) (σ : RS) (w : World) (hE : Env w b pr pv) (h : RIn w b σ)
    (hp : (goR J.blanks σ).1.pk = 110) :
    Calls Tryd.prog 52 #[.int .i64 D, pp pr, pp pv] w fun e w' => ValP (valR F g) b σ w e w' := by
  have hlt := h.lt
  have h8 := hE.h8
  have hbA : Below w.heap.size w (w.alloc jbox) := (Below.refl _ _).alloc (Nat.le_refl _) jbox
  have hA := h.below hbA
  have hEA := hE.below hbA (by omega)
  have hN := _root_.Go.heap_alloc_new w jbox
  have Bk := blanks_any b σ (w.alloc jbox) hA
  have hG := valR_is F g σ
  have ho : (goR J.blanks σ).1.ok := goR_ok blanks_errs h.ok
  generalize (goR J.blanks σ).1 = σ1 at Bk hG ho hp
  have HG : Hid (goR (valR F g) σ = goR (J.valueB F g) σ1) := hG
  have HP : Hid (σ1.pk = 110 ∧ σ1.ok) := ⟨hp, ho⟩
  have P := fun w' (hw : RIn w' b σ1) => peek_any b σ1 w' hw
  simp only [hp, show (((110 : Nat) : Int)) = 110 from rfl] at P
  have hr := hEA.r
  have HH : Hid (RIn w b σ ∧ b < w.heap.size ∧ 8 ≤ b ∧ Env (w.alloc jbox) b pr pv ∧ (w.alloc jbox).heap[w.heap.size]? = some jbox ∧ Below w.heap.size w (w.alloc jbox)) := ⟨h, hlt, h8, hEA, hN, hbA⟩
  clear hG ho hp h hE hA hN hbA hEA h8 hlt
  unfold rp at Bk P hr
  unfold pp
  unfold jbox zeroA at Bk hr
  go_enter Tryd.func52, Tryd.ntmps52
  go_wp2_with fail
  refine Bk.mono ?_
  rintro e w1 ⟨rfl, h1, g1⟩
  simp only []
  have E1 := HH.out.2.2.2.1.grown g1 (by have := (HH.out.1.below HH.out.2.2.2.2.2).lt; have := HH.out; omega)
  have P' := P w1 h1
  have hr1 := E1.r
  have HE1 : Hid (Env w1 b pr pv) := E1
  have HB1 : Hid (w1.heap[w.heap.size]? = some jbox) := box_grown HH.out.2.2.2.2.1 g1 (by have := HH.out; omega)
  unfold rp at hr1
  clear Bk hr P E1
  go_wp2_with fail
  refine P'.mono ?_
  rintro e w2 ⟨rfl, hb2⟩
  simp only []
  have h2 := h1.below hb2
  have E2 := HE1.out.below hb2 (by have := h1.lt; have := HH.out; omega)
  have HE2 : Hid (Env w2 b pr pv) := E2
  have hr2 := E2.r
  have HB2 : Hid (w2.heap[w.heap.size]? = some jbox) := box_below HB1.out hb2
  have HG1 : Hid (w.grownBy w2 (some b)) := grown_trans (grown_trans (grown_below HH.out.2.2.2.2.2 _) g1) (grown_below hb2 _)
  unfold rp at hr2
  clear P' hr1 h1 g1 hb2
  have N := word_any b σ1 ⟨#[110, 117, 108, 108]⟩ (by decide) w2 h2
  rw [show numsOf ⟨#[110, 117, 108, 108]⟩ = [110, 117, 108, 108] from rfl] at N
  unfold rp at N
  clear E2
  go_wp2_with fail
  refine N.mono ?_
  rintro e w3 ⟨rfl, h3, g3⟩
  simp only []
  have HW : Hid ((goR (valR F g) σ).1 = (goR (J.word [110, 117, 108, 108]) σ1).1 ∧ ∀ v, (goR (valR F g) σ).2 = some v → v = .mk 0 false 0 [] [] []) := by
    have := valueB_word (F := F) (g := g) (u := [117, 108, 108]) (V := .mk 0 false 0 [] [] []) (by decide) (by decide) HP.out.1 HP.out.2 (fun l => rfl) h3.ok
    show _ ∧ _
    rw [HG.out]; exact this
  have hbx3 := box_grown HB2.out g3 (by have := HH.out; omega)
  have H3 : Hid (RIn w3 b (goR (J.word [110, 117, 108, 108]) σ1).1 ∧ w.grownBy w3 (some b)) := ⟨h3, grown_trans HG1.out g3⟩
  clear N hr2 h3 g3 h2
  obtain ⟨⟨d0, d1, d2, d3, d4, d5⟩, f0, f1, f2, f3, f4, f5⟩ := box_cells hbx3
  go_wp2
  refine bodyPost_ret (results_cell_row rfl _ _ w.heap.size 25 (flatA 0 false 0 ⟨#[]⟩) (0, 0) _ rfl (set6_heap hbx3 _ _ _ _ _ _) Tryd.underlying25 rfl size_json) rfl ?_
  obtain ⟨x1, x2⟩ := H3.out
  rw [← HW.out.1] at x1
  exact val_end HH.out.2.1 x1 x2 (Below.refl _ _) (set6_grown _ _ _ _ _ _ _ _) 0 false 0 ⟨#[]⟩ (by decide) rng_zero HW.out.2
set_option maxHeartbeats 400000 in
set_option maxRecDepth 8000 in
theorem val_true (b pr pv : Nat) (D : Int) (F : Nat) (g : Option (J.Rd J.JV)) (σ : RS) (w : World) (hE : Env w b pr pv) (h : RIn w b σ)
    (hp : (goR J.blanks σ).1.pk = 116) :
    Calls Tryd.prog 52 #[.int .i64 D, pp pr, pp pv] w fun e w' => ValP (valR F g) b σ w e w' := by
  have hlt := h.lt
  have h8 := hE.h8
  have hbA : Below w.heap.size w (w.alloc jbox) := (Below.refl _ _).alloc (Nat.le_refl _) jbox
  have hA := h.below hbA
  have hEA := hE.below hbA (by omega)
  have hN := _root_.Go.heap_alloc_new w jbox
  have Bk := blanks_any b σ (w.alloc jbox) hA
  have hG := valR_is F g σ
  have ho : (goR J.blanks σ).1.ok := goR_ok blanks_errs h.ok
  generalize (goR J.blanks σ).1 = σ1 at Bk hG ho hp
  have HG : Hid (goR (valR F g) σ = goR (J.valueB F g) σ1) := hG
  have HP : Hid (σ1.pk = 116 ∧ σ1.ok) := ⟨hp, ho⟩
  have P := fun w' (hw : RIn w' b σ1) => peek_any b σ1 w' hw
  simp only [hp, show (((116 : Nat) : Int)) = 116 from rfl] at P
  have hr := hEA.r
  have HH : Hid (RIn w b σ ∧ b < w.heap.size ∧ 8 ≤ b ∧ Env (w.alloc jbox) b pr pv ∧ (w.alloc jbox).heap[w.heap.size]? = some jbox ∧ Below w.heap.size w (w.alloc jbox)) := ⟨h, hlt, h8, hEA, hN, hbA⟩
  clear hG ho hp h hE hA hN hbA hEA h8 hlt
  unfold rp at Bk P hr
  unfold pp
  unfold jbox zeroA at Bk hr
  go_enter Tryd.func52, Tryd.ntmps52
  go_wp2_with fail
  refine Bk.mono ?_
  rintro e w1 ⟨rfl, h1, g1⟩
  simp only []
  have E1 := HH.out.2.2.2.1.grown g1 (by have := (HH.out.1.below HH.out.2.2.2.2.2).lt; have := HH.out; omega)
  have P' := P w1 h1
  have hr1 := E1.r
  have HE1 : Hid (Env w1 b pr pv) := E1
  have HB1 : Hid (w1.heap[w.heap.size]? = some jbox) := box_grown HH.out.2.2.2.2.1 g1 (by have := HH.out; omega)
  unfold rp at hr1
  clear Bk hr P E1
  go_wp2_with fail
  refine P'.mono ?_
  rintro e w2 ⟨rfl, hb2⟩
  simp only []
  have h2 := h1.below hb2
  have E2 := HE1.out.below hb2 (by have := h1.lt; have := HH.out; omega)
  have HE2 : Hid (Env w2 b pr pv) := E2
  have hr2 := E2.r
  have HB2 : Hid (w2.heap[w.heap.size]? = some jbox) := box_below HB1.out hb2
  have HG1 : Hid (w.grownBy w2 (some b)) := grown_trans (grown_trans (grown_below HH.out.2.2.2.2.2 _) g1) (grown_below hb2 _)
  unfold rp at hr2
  clear P' hr1 h1 g1 hb2
  have N := word_any b σ1 ⟨#[116, 114, 117, 101]⟩ (by decide) w2 h2
  rw [show numsOf ⟨#[116, 114, 117, 101]⟩ = [116, 114, 117, 101] from rfl] at N
  unfold rp at N
  clear E2
  go_wp2_with fail
  refine N.mono ?_
  rintro e w3 ⟨rfl, h3, g3⟩
  simp only []
  have HW : Hid ((goR (valR F g) σ).1 = (goR (J.word [116, 114, 117, 101]) σ1).1 ∧ ∀ v, (goR (valR F g) σ).2 = some v → v = .mk 1 true 0 [] [] []) := by
    have := valueB_word (F := F) (g := g) (u := [114, 117, 101]) (V := .mk 1 true 0 [] [] []) (by decide) (by decide) HP.out.1 HP.out.2 (fun l => rfl) h3.ok
    show _ ∧ _
    rw [HG.out]; exact this
  have hbx3 := box_grown HB2.out g3 (by have := HH.out; omega)
  have H3 : Hid (RIn w3 b (goR (J.word [116, 114, 117, 101]) σ1).1 ∧ w.grownBy w3 (some b)) := ⟨h3, grown_trans HG1.out g3⟩
  clear N hr2 h3 g3 h2
  have Y := Yes_any true w3
  go_wp2_with fail
  refine Y.mono ?_
  rintro e w4 ⟨rfl, hb4⟩
  simp only []
  have hbx4 := box_below hbx3 hb4
  have HB4 : Hid (Below w3.heap.size w3 w4) := hb4
  clear Y hb4 hbx3
  obtain ⟨⟨d0, d1, d2, d3, d4, d5⟩, f0, f1, f2, f3, f4, f5⟩ := box_cells hbx4
  unfold flatA jA
  go_wp2
  refine bodyPost_ret (results_cell_row rfl _ _ w.heap.size 25 (flatA 1 true 0 ByteArray.empty) (0, 0) _ rfl (set6_heap' (set6_heap hbx4 _ _ _ _ _ _) _ _ _ _ _ _) Tryd.underlying25 rfl size_json) rfl ?_
  obtain ⟨x1, x2⟩ := H3.out
  rw [← HW.out.1] at x1
  exact val_end HH.out.2.1 x1 x2 HB4.out (grown_trans (set6_grown _ _ _ _ _ _ _ _) (set6_grown _ _ _ _ _ _ _ _)) 1 true 0 ByteArray.empty (by decide) rng_zero HW.out.2
set_option maxHeartbeats 400000 in
set_option maxRecDepth 8000 in
theorem val_false (b pr pv : Nat) (D : Int) (F : Nat) (g : Option (J.Rd J.JV)) (σ : RS) (w : World) (hE : Env w b pr pv) (h : RIn w b σ)
    (hp : (goR J.blanks σ).1.pk = 102) :
    Calls Tryd.prog 52 #[.int .i64 D, pp pr, pp pv] w fun e w' => ValP (valR F g) b σ w e w' := by
  have hlt := h.lt
  have h8 := hE.h8
  have hbA : Below w.heap.size w (w.alloc jbox) := (Below.refl _ _).alloc (Nat.le_refl _) jbox
  have hA := h.below hbA
  have hEA := hE.below hbA (by omega)
  have hN := _root_.Go.heap_alloc_new w jbox
  have Bk := blanks_any b σ (w.alloc jbox) hA
  have hG := valR_is F g σ
  have ho : (goR J.blanks σ).1.ok := goR_ok blanks_errs h.ok
  generalize (goR J.blanks σ).1 = σ1 at Bk hG ho hp
  have HG : Hid (goR (valR F g) σ = goR (J.valueB F g) σ1) := hG
  have HP : Hid (σ1.pk = 102 ∧ σ1.ok) := ⟨hp, ho⟩
  have P := fun w' (hw : RIn w' b σ1) => peek_any b σ1 w' hw
  simp only [hp, show (((102 : Nat) : Int)) = 102 from rfl] at P
  have hr := hEA.r
  have HH : Hid (RIn w b σ ∧ b < w.heap.size ∧ 8 ≤ b ∧ Env (w.alloc jbox) b pr pv ∧ (w.alloc jbox).heap[w.heap.size]? = some jbox ∧ Below w.heap.size w (w.alloc jbox)) := ⟨h, hlt, h8, hEA, hN, hbA⟩
  clear hG ho hp h hE hA hN hbA hEA h8 hlt
  unfold rp at Bk P hr
  unfold pp
  unfold jbox zeroA at Bk hr
  go_enter Tryd.func52, Tryd.ntmps52
  go_wp2_with fail
  refine Bk.mono ?_
  rintro e w1 ⟨rfl, h1, g1⟩
  simp only []
  have E1 := HH.out.2.2.2.1.grown g1 (by have := (HH.out.1.below HH.out.2.2.2.2.2).lt; have := HH.out; omega)
  have P' := P w1 h1
  have hr1 := E1.r
  have HE1 : Hid (Env w1 b pr pv) := E1
  have HB1 : Hid (w1.heap[w.heap.size]? = some jbox) := box_grown HH.out.2.2.2.2.1 g1 (by have := HH.out; omega)
  unfold rp at hr1
  clear Bk hr P E1
  go_wp2_with fail
  refine P'.mono ?_
  rintro e w2 ⟨rfl, hb2⟩
  simp only []
  have h2 := h1.below hb2
  have E2 := HE1.out.below hb2 (by have := h1.lt; have := HH.out; omega)
  have HE2 : Hid (Env w2 b pr pv) := E2
  have hr2 := E2.r
  have HB2 : Hid (w2.heap[w.heap.size]? = some jbox) := box_below HB1.out hb2
  have HG1 : Hid (w.grownBy w2 (some b)) := grown_trans (grown_trans (grown_below HH.out.2.2.2.2.2 _) g1) (grown_below hb2 _)
  unfold rp at hr2
  clear P' hr1 h1 g1 hb2
  have N := word_any b σ1 ⟨#[102, 97, 108, 115, 101]⟩ (by decide) w2 h2
  rw [show numsOf ⟨#[102, 97, 108, 115, 101]⟩ = [102, 97, 108, 115, 101] from rfl] at N
  unfold rp at N
  clear E2
  go_wp2_with fail
  refine N.mono ?_
  rintro e w3 ⟨rfl, h3, g3⟩
  simp only []
  have HW : Hid ((goR (valR F g) σ).1 = (goR (J.word [102, 97, 108, 115, 101]) σ1).1 ∧ ∀ v, (goR (valR F g) σ).2 = some v → v = .mk 1 false 0 [] [] []) := by
    have := valueB_word (F := F) (g := g) (u := [97, 108, 115, 101]) (V := .mk 1 false 0 [] [] []) (by decide) (by decide) HP.out.1 HP.out.2 (fun l => rfl) h3.ok
    show _ ∧ _
    rw [HG.out]; exact this
  have hbx3 := box_grown HB2.out g3 (by have := HH.out; omega)
  have H3 : Hid (RIn w3 b (goR (J.word [102, 97, 108, 115, 101]) σ1).1 ∧ w.grownBy w3 (some b)) := ⟨h3, grown_trans HG1.out g3⟩
  clear N hr2 h3 g3 h2
  have Y := Yes_any false w3
  go_wp2_with fail
  refine Y.mono ?_
  rintro e w4 ⟨rfl, hb4⟩
  simp only []
  have hbx4 := box_below hbx3 hb4
  have HB4 : Hid (Below w3.heap.size w3 w4) := hb4
  clear Y hb4 hbx3
  obtain ⟨⟨d0, d1, d2, d3, d4, d5⟩, f0, f1, f2, f3, f4, f5⟩ := box_cells hbx4
  unfold flatA jA
  go_wp2
  refine bodyPost_ret (results_cell_row rfl _ _ w.heap.size 25 (flatA 1 false 0 ByteArray.empty) (0, 0) _ rfl (set6_heap' (set6_heap hbx4 _ _ _ _ _ _) _ _ _ _ _ _) Tryd.underlying25 rfl size_json) rfl ?_
  obtain ⟨x1, x2⟩ := H3.out
  rw [← HW.out.1] at x1
  exact val_end HH.out.2.1 x1 x2 HB4.out (grown_trans (set6_grown _ _ _ _ _ _ _ _) (set6_grown _ _ _ _ _ _ _ _)) 1 false 0 ByteArray.empty (by decide) rng_zero HW.out.2
set_option maxHeartbeats 400000 in
set_option maxRecDepth 8000 in
theorem val_text (b pr pv : Nat) (D : Int) (F : Nat) (hF : 20000 ≤ F) (g : Option (J.Rd J.JV)) (σ : RS) (w : World) (hE : Env w b pr pv) (h : RIn w b σ)
    (hp : (goR J.blanks σ).1.pk = 34) :
    Calls Tryd.prog 52 #[.int .i64 D, pp pr, pp pv] w fun e w' => ValP (valR F g) b σ w e w' := by
  have hlt := h.lt
  have h8 := hE.h8
  have hbA : Below w.heap.size w (w.alloc jbox) := (Below.refl _ _).alloc (Nat.le_refl _) jbox
  have hA := h.below hbA
  have hEA := hE.below hbA (by omega)
  have hN := _root_.Go.heap_alloc_new w jbox
  have Bk := blanks_any b σ (w.alloc jbox) hA
  have hG := valR_is F g σ
  have ho : (goR J.blanks σ).1.ok := goR_ok blanks_errs h.ok
  generalize (goR J.blanks σ).1 = σ1 at Bk hG ho hp
  have HG : Hid (goR (valR F g) σ = goR (J.valueB F g) σ1) := hG
  have HP : Hid (σ1.pk = 34 ∧ σ1.ok) := ⟨hp, ho⟩
  have P := fun w' (hw : RIn w' b σ1) => peek_any b σ1 w' hw
  simp only [hp, show (((34 : Nat) : Int)) = 34 from rfl] at P
  have hr := hEA.r
  have HH : Hid (RIn w b σ ∧ b < w.heap.size ∧ 8 ≤ b ∧ Env (w.alloc jbox) b pr pv ∧ (w.alloc jbox).heap[w.heap.size]? = some jbox ∧ Below w.heap.size w (w.alloc jbox)) := ⟨h, hlt, h8, hEA, hN, hbA⟩
  clear hG ho hp h hE hA hN hbA hEA h8 hlt
  unfold rp at Bk P hr
  unfold pp
  unfold jbox zeroA at Bk hr
  go_enter Tryd.func52, Tryd.ntmps52
  go_wp2_with fail
  refine Bk.mono ?_
  rintro e w1 ⟨rfl, h1, g1⟩
  simp only []
  have E1 := HH.out.2.2.2.1.grown g1 (by have := (HH.out.1.below HH.out.2.2.2.2.2).lt; have := HH.out; omega)
  have P' := P w1 h1
  have hr1 := E1.r
  have HE1 : Hid (Env w1 b pr pv) := E1
  have HB1 : Hid (w1.heap[w.heap.size]? = some jbox) := box_grown HH.out.2.2.2.2.1 g1 (by have := HH.out; omega)
  unfold rp at hr1
  clear Bk hr P E1
  go_wp2_with fail
  refine P'.mono ?_
  rintro e w2 ⟨rfl, hb2⟩
  simp only []
  have h2 := h1.below hb2
  have E2 := HE1.out.below hb2 (by have := h1.lt; have := HH.out; omega)
  have HE2 : Hid (Env w2 b pr pv) := E2
  have hr2 := E2.r
  have HB2 : Hid (w2.heap[w.heap.size]? = some jbox) := box_below HB1.out hb2
  have HG1 : Hid (w.grownBy w2 (some b)) := grown_trans (grown_trans (grown_below HH.out.2.2.2.2.2 _) g1) (grown_below hb2 _)
  unfold rp at hr2
  clear P' hr1 h1 g1 hb2
  have N := chars_any F b hF σ1 w2 h2 HH.out.2.2.1 E2.laid
  unfold rp at N
  clear E2
  go_wp2_with fail
  refine N.mono ?_
  rintro e w3 ⟨str, rfl, hv, h3, g3⟩
  simp only []
  have hbx3 := box_grown HB2.out g3 (by have := HH.out; omega)
  have E3 := HE2.out.grown g3 (by have := h2.lt; have := HH.out; omega)
  have H3 : Hid (RIn w3 b (goR (charsR F) σ1).1 ∧ w.grownBy w3 (some b) ∧ Env w3 b pr pv ∧ ∀ v, (goR (charsR F) σ1).2 = some v → numsOf str = v) := ⟨h3, grown_trans HG1.out g3, E3, hv⟩
  clear N hr2 h3 g3 h2 hv E3
  have Y := Str_any str w3
  go_wp2_with fail
  refine Y.mono ?_
  rintro e w4 ⟨rfl, hb4⟩
  simp only []
  have hbx4 := box_below hbx3 hb4
  have E4 := H3.out.2.2.1.below hb4 (by have := H3.out.1.lt; have := HH.out; omega)
  have HB4 : Hid (Below w3.heap.size w3 w4 ∧ Env w4 b pr pv) := ⟨hb4, E4⟩
  have hr4 := E4.r
  unfold rp at hr4
  clear Y hb4 hbx3 E4
  obtain ⟨⟨d0, d1, d2, d3, d4, d5⟩, f0, f1, f2, f3, f4, f5⟩ := box_cells hbx4
  have HX : Hid (w4.heap[w.heap.size]? = some jbox) := hbx4
  have HNE : Hid (pr ≠ w.heap.size) := by
    have := World.block_lt_of_cell? _ _ H3.out.2.2.1.r
    have h0 := HE2.out
    intro e
    have a1 := HH.out.2.2.2.1.r
    have a2 : (w.alloc jbox).cell? ⟨w.heap.size, 0, none⟩ = some (.int .u8 0) := (box_cells HH.out.2.2.2.2.1).1.1
    rw [e, a2] at a1
    unfold rp at a1
    cases a1
  have hne : pr ≠ w.heap.size := HNE.out
  unfold flatA jA
  have M := fun (w5 : World) (h5 : RIn w5 b (goR (charsR F) σ1).1) => must_any b (goR (charsR F) σ1).1 ⟨#[34]⟩ w5 h5
  unfold rp at M
  go_wp2_with fail
  obtain ⟨w5, hw5⟩ : ∃ w5, w5 = set6 w4 w.heap.size (.int .u8 4) (.bool false) (.int .i64 0) (.string str) (.slice none 0 0) (.slice none 0 0) := ⟨_, rfl⟩
  have hx5 : w5.heap[w.heap.size]? = some (.cells #[.int .u8 4, .bool false, .int .i64 0, .string str, .slice none 0 0, .slice none 0 0] 25 (0, 0)) := by rw [hw5]; exact set6_heap HX.out _ _ _ _ _ _
  have h5 := end_any HH.out.2.1 H3.out.1 H3.out.2.1 HB4.out.1 (wF := w5) (by rw [hw5]; exact set6_grown _ _ _ _ _ _ _ _)
  have h5r := h5.1
  have H5 : Hid (w.grownBy w5 (some b)) := h5.2
  clear h5
  refine (M _ (by rw [hw5] at h5r; exact h5r)).mono ?_
  have hw6 := hw5
  unfold set6 at hw6
  rw [← hw6]
  clear hw6
  rintro e w6 ⟨rfl, h6, g6⟩
  simp only []
  have HW : Hid ((goR (valR F g) σ).1 = (goR (charsR F) σ1).1.must (oneS 34) ∧ ∀ v, (goR (valR F g) σ).2 = some v → v = .mk 4 false 0 (numsOf str) [] []) := by
    have := valueB_text (F := F) (g := g) HP.out.1 HP.out.2 str H3.out.2.2.2 h5r.ok (show ((goR (charsR F) σ1).1.must (oneS 34)).ok from h6.ok)
    show _ ∧ _
    rw [HG.out]; exact this
  have hx6 := box_grown hx5 g6 (by have := HH.out; omega)
  have H6 : Hid (RIn w6 b ((goR (charsR F) σ1).1.must (oneS 34)) ∧ w.grownBy w6 (some b)) := ⟨h6, grown_trans H5.out g6⟩
  clear h6 g6 hx5 h5r M hw5 d0 d1 d2 d3 d4 d5 f0 f1 f2 f3 f4 f5 hr4
  obtain ⟨⟨d0, d1, d2, d3, d4, d5⟩, f0, f1, f2, f3, f4, f5⟩ := row6_cells hx6
  go_wp2
  refine bodyPost_ret (results_cell_row rfl _ _ w.heap.size 25 (flatA 4 false 0 str) (0, 0) _ rfl (set6_heap' hx6 _ _ _ _ _ _) Tryd.underlying25 rfl size_json) rfl ?_
  obtain ⟨x1, x2⟩ := H6.out
  rw [← HW.out.1] at x1
  exact val_end HH.out.2.1 x1 x2 (Below.refl _ _) (set6_grown _ _ _ _ _ _ _ _) 4 false 0 str (by decide) rng_zero HW.out.2
end Go.Proofs.YtcfalgomcdmdhaaDoor
