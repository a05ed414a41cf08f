/-
  Proved: the law BitsNames answers true: the error has the number 8, and the chapter's examples are so.
  Conditions: none (the call takes no input).
-/
import Derived.Test.YtdbgbaclgdkkjaaRows
import Derived.Test.YtdbgbaclgdkkjaaCut
import Derived.WalkKit
import Derived.ProofKit
import Derived.OpenShut
import Derived.ShutString
import Derived.Below
import Derived.ChangeOld
namespace Go.Proofs.Ytdbgbaclgdkkjaa.bitsNames
open Go.ChangeShapes Go.WideShapes Go.ChangeAt Go.RowKit
open Go.ChangeMaps (open_string shut_string)
set_option linter.unusedVariables false      -- a walk need not use every 'w<i>' (that an integer argument fits its kind)

theorem own : ownKnob Try.prog.godebug = none := by kernel_rfl

open Go.Joins
theorem small_lit (n : Nat) (z : Int) (m : Nat) (xs : List Nat) (w : World) (hn : n < 18446744073709551616) (hz : z = (n : Int)) (hx : smallN n = xs) (hm : m = xs.length) :
    Calls Try.prog 11 #[.int .u64 z] w fun e w' => ∃ g c, e = .returned (.slice (some ⟨g, 0, none⟩) m c) ∧ BIn w' (some ⟨g, 0, none⟩) xs ∧ Below w.heap.size w w' := by
  subst hz hx hm
  refine (small_any n w hn).mono ?_
  rintro e w1 ⟨v, rfl, hown, hb⟩
  obtain ⟨g, c, rfl⟩ := ownsRow_form hown (smallN_pos n)
  exact ⟨g, c, rfl, own_at hown rfl (smallN_bytes n), hb⟩
theorem small_0 : smallN 0 = [0] := smallN_lo (by omega)
theorem small_127 : smallN 127 = [127] := smallN_lo (by omega)
theorem small_128 : smallN 128 = [128, 1] := by rw [smallN_hi (by omega), smallN_lo (by omega)]
theorem small_max : smallN 18446744073709551615 = [255, 255, 255, 255, 255, 255, 255, 255, 255, 1] := by
  iterate 9 rw [smallN_hi (by omega)]
  rw [smallN_lo (by omega)]
theorem cut_abc (w : World) (g : Nat) (hg : g = w.heap.size) :
    Calls Try.prog 12 #[.slice (some ⟨g, 0, none⟩) 4 4] (w.alloc (.cells #[.int .u8 2, .int .u8 97, .int .u8 98, .int .u8 99] 5)) fun e w' => ∃ q c, e = .returned (.tuple #[.string ⟨#[97, 98]⟩, .slice (some ⟨q, 0, none⟩) 1 c, .int .i64 0]) ∧ BIn w' (some ⟨q, 0, none⟩) [99] ∧ Below (w.heap.size + 1) (w.alloc (.cells #[.int .u8 2, .int .u8 97, .int .u8 98, .int .u8 99] 5)) w' := by
  have hb := bin_lit w g #[.int .u8 2, .int .u8 97, .int .u8 98, .int .u8 99] 5 (0, 0) [2, 97, 98, 99] hg (by simp [Bs]) (by decide)
  refine (cut_ok _ 4 [2, 97, 98, 99] _ hb (by decide) (by decide) 2 1 (by decide) (by decide)).mono ?_
  rintro e w' ⟨v, rfl, hown, hbl⟩
  obtain ⟨q, c, rfl⟩ := ownsRow_form hown (by decide)
  exact ⟨q, c, rfl, own_at hown rfl (by decide), by simpa using hbl⟩
theorem text_ab (w : World) : Calls Try.prog 15 #[.string ⟨#[97, 98]⟩] w fun e w' => ∃ q c, e = .returned (.slice (some ⟨q, 0, none⟩) 3 c) ∧ BIn w' (some ⟨q, 0, none⟩) [2, 97, 98] ∧ Below w.heap.size w w' := by
  have e1 : textN ⟨#[97, 98]⟩ = [2, 97, 98] := by
    show smallN 2 ++ numsOf ⟨#[97, 98]⟩ = _
    rw [smallN_lo (by omega)]; rfl
  refine (text_any ⟨#[97, 98]⟩ w (by decide)).mono ?_
  rintro e w' ⟨v, rfl, hown, hb⟩
  rw [e1] at hown
  obtain ⟨q, c, rfl⟩ := ownsRow_form hown (by decide)
  exact ⟨q, c, rfl, own_at hown rfl (by decide), hb⟩
theorem bad_facts (V W : World) (q : Nat) (hq : q = V.heap.size) (hW : W = (((((V).alloc (.cells #[.int .u8 128] 5)).alloc (.cells #[.int .u8 128, .int .u8 0] 5)).alloc (.cells #[.int .u8 255, .int .u8 255, .int .u8 255, .int .u8 255, .int .u8 255, .int .u8 255, .int .u8 255, .int .u8 255, .int .u8 255, .int .u8 2] 5)).alloc (.cells #[.int .u8 128, .int .u8 128, .int .u8 128, .int .u8 128, .int .u8 128, .int .u8 128, .int .u8 128, .int .u8 128, .int .u8 128, .int .u8 128, .int .u8 1] 5)).alloc (.cells #[.slice (some ⟨q, 0, none⟩) 1 1, .slice (some ⟨q + 1, 0, none⟩) 2 2, .slice none 0 0, .slice (some ⟨q + 1 + 1, 0, none⟩) 10 10, .slice (some ⟨q + 1 + 1 + 1, 0, none⟩) 11 11] 26)) :
    BIn W (some ⟨q, 0, none⟩) [128] ∧ BIn W (some ⟨q + 1, 0, none⟩) [128, 0] ∧ BIn W (some ⟨q + 1 + 1, 0, none⟩) [255, 255, 255, 255, 255, 255, 255, 255, 255, 2] ∧ BIn W (some ⟨q + 1 + 1 + 1, 0, none⟩) [128, 128, 128, 128, 128, 128, 128, 128, 128, 128, 1] ∧ W.cell? ⟨q + 1 + 1 + 1 + 1, 0, none⟩ = some (.slice (some ⟨q, 0, none⟩) 1 1) ∧ W.cell? ⟨q + 1 + 1 + 1 + 1, 1, none⟩ = some (.slice (some ⟨q + 1, 0, none⟩) 2 2) ∧ W.cell? ⟨q + 1 + 1 + 1 + 1, 2, none⟩ = some (.slice none 0 0) ∧ W.cell? ⟨q + 1 + 1 + 1 + 1, 3, none⟩ = some (.slice (some ⟨q + 1 + 1, 0, none⟩) 10 10) ∧ W.cell? ⟨q + 1 + 1 + 1 + 1, 4, none⟩ = some (.slice (some ⟨q + 1 + 1 + 1, 0, none⟩) 11 11) ∧ (∀ B w, Below B w V → B ≤ q → Below B w W) := by
  subst hW
  exact ⟨(((((bin_lit (V) (q) #[.int .u8 128] 5 (0, 0) [128] (by simp [hq]) (by simp [Bs]) (by decide))).alloc (.cells #[.int .u8 128, .int .u8 0] 5)).alloc (.cells #[.int .u8 255, .int .u8 255, .int .u8 255, .int .u8 255, .int .u8 255, .int .u8 255, .int .u8 255, .int .u8 255, .int .u8 255, .int .u8 2] 5)).alloc (.cells #[.int .u8 128, .int .u8 128, .int .u8 128, .int .u8 128, .int .u8 128, .int .u8 128, .int .u8 128, .int .u8 128, .int .u8 128, .int .u8 128, .int .u8 1] 5)).alloc (.cells #[.slice (some ⟨q, 0, none⟩) 1 1, .slice (some ⟨q + 1, 0, none⟩) 2 2, .slice none 0 0, .slice (some ⟨q + 1 + 1, 0, none⟩) 10 10, .slice (some ⟨q + 1 + 1 + 1, 0, none⟩) 11 11] 26), ((((bin_lit ((V).alloc (.cells #[.int .u8 128] 5)) (q + 1) #[.int .u8 128, .int .u8 0] 5 (0, 0) [128, 0] (by simp [hq]) (by simp [Bs]) (by decide))).alloc (.cells #[.int .u8 255, .int .u8 255, .int .u8 255, .int .u8 255, .int .u8 255, .int .u8 255, .int .u8 255, .int .u8 255, .int .u8 255, .int .u8 2] 5)).alloc (.cells #[.int .u8 128, .int .u8 128, .int .u8 128, .int .u8 128, .int .u8 128, .int .u8 128, .int .u8 128, .int .u8 128, .int .u8 128, .int .u8 128, .int .u8 1] 5)).alloc (.cells #[.slice (some ⟨q, 0, none⟩) 1 1, .slice (some ⟨q + 1, 0, none⟩) 2 2, .slice none 0 0, .slice (some ⟨q + 1 + 1, 0, none⟩) 10 10, .slice (some ⟨q + 1 + 1 + 1, 0, none⟩) 11 11] 26), (((bin_lit (((V).alloc (.cells #[.int .u8 128] 5)).alloc (.cells #[.int .u8 128, .int .u8 0] 5)) (q + 1 + 1) #[.int .u8 255, .int .u8 255, .int .u8 255, .int .u8 255, .int .u8 255, .int .u8 255, .int .u8 255, .int .u8 255, .int .u8 255, .int .u8 2] 5 (0, 0) [255, 255, 255, 255, 255, 255, 255, 255, 255, 2] (by simp [hq]) (by simp [Bs]) (by decide))).alloc (.cells #[.int .u8 128, .int .u8 128, .int .u8 128, .int .u8 128, .int .u8 128, .int .u8 128, .int .u8 128, .int .u8 128, .int .u8 128, .int .u8 128, .int .u8 1] 5)).alloc (.cells #[.slice (some ⟨q, 0, none⟩) 1 1, .slice (some ⟨q + 1, 0, none⟩) 2 2, .slice none 0 0, .slice (some ⟨q + 1 + 1, 0, none⟩) 10 10, .slice (some ⟨q + 1 + 1 + 1, 0, none⟩) 11 11] 26), ((bin_lit ((((V).alloc (.cells #[.int .u8 128] 5)).alloc (.cells #[.int .u8 128, .int .u8 0] 5)).alloc (.cells #[.int .u8 255, .int .u8 255, .int .u8 255, .int .u8 255, .int .u8 255, .int .u8 255, .int .u8 255, .int .u8 255, .int .u8 255, .int .u8 2] 5)) (q + 1 + 1 + 1) #[.int .u8 128, .int .u8 128, .int .u8 128, .int .u8 128, .int .u8 128, .int .u8 128, .int .u8 128, .int .u8 128, .int .u8 128, .int .u8 128, .int .u8 1] 5 (0, 0) [128, 128, 128, 128, 128, 128, 128, 128, 128, 128, 1] (by simp [hq]) (by simp [Bs]) (by decide))).alloc (.cells #[.slice (some ⟨q, 0, none⟩) 1 1, .slice (some ⟨q + 1, 0, none⟩) 2 2, .slice none 0 0, .slice (some ⟨q + 1 + 1, 0, none⟩) 10 10, .slice (some ⟨q + 1 + 1 + 1, 0, none⟩) 11 11] 26), by rw [cell_alloc_mark_at _ _ _ _ _ _ (by simp [hq])]; rfl, by rw [cell_alloc_mark_at _ _ _ _ _ _ (by simp [hq])]; rfl, by rw [cell_alloc_mark_at _ _ _ _ _ _ (by simp [hq])]; rfl, by rw [cell_alloc_mark_at _ _ _ _ _ _ (by simp [hq])]; rfl, by rw [cell_alloc_mark_at _ _ _ _ _ _ (by simp [hq])]; rfl, fun B w h hB => (((((h.alloc (by omega) _).alloc (by simp; omega) _).alloc (by simp; omega) _).alloc (by simp; omega) _)).alloc (by simp; omega) _⟩
set_option maxHeartbeats 1000000 in
theorem walk (w : World) :
    Calls Try.prog 3 #[] w fun e w' => e = .returned (.bool true) ∧ Below w.heap.size w w' := by
  go_enter Try.func3, Try.ntmps3
  go_wp2_with fail
  refine (read_some _ 3 3 [128, 1, 7] _ 128 2 rfl (bin_lit w _ _ _ _ _ rfl (by simp [Bs]) (by decide)) (by decide) (by decide)).mono ?_
  rintro e w1 ⟨rfl, rfl⟩
  have b0 : Below w.heap.size w (w.alloc (.cells #[.int .u8 128, .int .u8 1, .int .u8 7] 5)) := (Below.refl _ _).alloc (Nat.le_refl _) _
  have z0 := b0.size
  go_wp2_with fail
  refine (small_lit 0 _ 1 [0] _ (by decide) (by rfl) small_0 rfl).mono ?_
  rintro e w1 ⟨g1, c1, rfl, B1, hb1⟩
  have z1 := hb1.size
  have b1 : Below w.heap.size w w1 := b0.trans (hb1.mono z0)
  have b1a := b1.alloc b1.size (.cells #[.int .u8 0] 5)
  have z1a := b1a.size
  clear hb1 b1 z1 b0 z0
  go_wp2_with fail
  refine (same_eq _ _ 1 1 _ _ [0] [0] _ rfl rfl rfl (B1.alloc _) (bin_lit w1 _ _ _ _ _ rfl (by simp [Bs]) (by decide))).mono ?_
  rintro e w' ⟨rfl, rfl⟩
  clear B1
  go_wp2_with fail
  refine (small_lit 127 _ 1 [127] _ (by decide) (by rfl) small_127 rfl).mono ?_
  rintro e w2 ⟨g2, c2, rfl, B2, hb2⟩
  have z2 := hb2.size
  have b2 : Below w.heap.size w w2 := b1a.trans (hb2.mono z1a)
  have b2a := b2.alloc b2.size (.cells #[.int .u8 127] 5)
  have z2a := b2a.size
  clear hb2 b2 z2 b1a z1a
  go_wp2_with fail
  refine (same_eq _ _ 1 1 _ _ [127] [127] _ rfl rfl rfl (B2.alloc _) (bin_lit w2 _ _ _ _ _ rfl (by simp [Bs]) (by decide))).mono ?_
  rintro e w' ⟨rfl, rfl⟩
  clear B2
  go_wp2_with fail
  refine (small_lit 128 _ 2 [128, 1] _ (by decide) (by rfl) small_128 rfl).mono ?_
  rintro e w3 ⟨g3, c3, rfl, B3, hb3⟩
  have z3 := hb3.size
  have b3 : Below w.heap.size w w3 := b2a.trans (hb3.mono z2a)
  have b3a := b3.alloc b3.size (.cells #[.int .u8 128, .int .u8 1] 5)
  have z3a := b3a.size
  clear hb3 b3 z3 b2a z2a
  go_wp2_with fail
  refine (same_eq _ _ 2 2 _ _ [128, 1] [128, 1] _ rfl rfl rfl (B3.alloc _) (bin_lit w3 _ _ _ _ _ rfl (by simp [Bs]) (by decide))).mono ?_
  rintro e w' ⟨rfl, rfl⟩
  clear B3
  go_wp2_with fail
  refine (small_lit 18446744073709551615 _ 10 [255, 255, 255, 255, 255, 255, 255, 255, 255, 1] _ (by decide) (by rfl) small_max rfl).mono ?_
  rintro e w4 ⟨g4, c4, rfl, B4, hb4⟩
  have z4 := hb4.size
  have b4 : Below w.heap.size w w4 := b3a.trans (hb4.mono z3a)
  have b4a := b4.alloc b4.size (.cells #[.int .u8 255, .int .u8 255, .int .u8 255, .int .u8 255, .int .u8 255, .int .u8 255, .int .u8 255, .int .u8 255, .int .u8 255, .int .u8 1] 5)
  have z4a := b4a.size
  clear hb4 b4 z4 b3a z3a
  go_wp2_with fail
  refine (same_eq _ _ 10 10 _ _ [255, 255, 255, 255, 255, 255, 255, 255, 255, 1] [255, 255, 255, 255, 255, 255, 255, 255, 255, 1] _ rfl rfl rfl (B4.alloc _) (bin_lit w4 _ _ _ _ _ rfl (by simp [Bs]) (by decide))).mono ?_
  rintro e w' ⟨rfl, rfl⟩
  clear B4
  go_wp2_with fail
  obtain ⟨N0, N1, N2, N3, e0, e1, e2, e3, e4, bW⟩ := bad_facts (w4.alloc (.cells #[.int .u8 255, .int .u8 255, .int .u8 255, .int .u8 255, .int .u8 255, .int .u8 255, .int .u8 255, .int .u8 255, .int .u8 255, .int .u8 1] 5)) ((((((w4.alloc (.cells #[.int .u8 255, .int .u8 255, .int .u8 255, .int .u8 255, .int .u8 255, .int .u8 255, .int .u8 255, .int .u8 255, .int .u8 255, .int .u8 1] 5)).alloc (.cells #[.int .u8 128] 5)).alloc (.cells #[.int .u8 128, .int .u8 0] 5)).alloc (.cells #[.int .u8 255, .int .u8 255, .int .u8 255, .int .u8 255, .int .u8 255, .int .u8 255, .int .u8 255, .int .u8 255, .int .u8 255, .int .u8 2] 5)).alloc (.cells #[.int .u8 128, .int .u8 128, .int .u8 128, .int .u8 128, .int .u8 128, .int .u8 128, .int .u8 128, .int .u8 128, .int .u8 128, .int .u8 128, .int .u8 1] 5)).alloc (.cells #[.slice (some ⟨w4.heap.size + 1, 0, none⟩) 1 1, .slice (some ⟨w4.heap.size + 1 + 1, 0, none⟩) 2 2, .slice none 0 0, .slice (some ⟨w4.heap.size + 1 + 1 + 1, 0, none⟩) 10 10, .slice (some ⟨w4.heap.size + 1 + 1 + 1 + 1, 0, none⟩) 11 11] 26)) (w4.heap.size + 1) (by simp) rfl
  have bW' := bW _ _ b4a (by simpa using z4a)
  clear bW
  generalize (((((w4.alloc (.cells #[.int .u8 255, .int .u8 255, .int .u8 255, .int .u8 255, .int .u8 255, .int .u8 255, .int .u8 255, .int .u8 255, .int .u8 255, .int .u8 1] 5)).alloc (.cells #[.int .u8 128] 5)).alloc (.cells #[.int .u8 128, .int .u8 0] 5)).alloc (.cells #[.int .u8 255, .int .u8 255, .int .u8 255, .int .u8 255, .int .u8 255, .int .u8 255, .int .u8 255, .int .u8 255, .int .u8 255, .int .u8 2] 5)).alloc (.cells #[.int .u8 128, .int .u8 128, .int .u8 128, .int .u8 128, .int .u8 128, .int .u8 128, .int .u8 128, .int .u8 128, .int .u8 128, .int .u8 128, .int .u8 1] 5)).alloc (.cells #[.slice (some ⟨w4.heap.size + 1, 0, none⟩) 1 1, .slice (some ⟨w4.heap.size + 1 + 1, 0, none⟩) 2 2, .slice none 0 0, .slice (some ⟨w4.heap.size + 1 + 1 + 1, 0, none⟩) 10 10, .slice (some ⟨w4.heap.size + 1 + 1 + 1 + 1, 0, none⟩) 11 11] 26) = W at *
  clear b4a z4a
  have zW := bW'.size
  have H0 : Hid _ := N0
  have H1 : Hid _ := N1
  have H2 : Hid _ := N2
  have H3 : Hid _ := N3
  clear N0 N1 N2 N3
  refine wp_loop_rounds 6 ?_
  rw [rounds_succ]
  go_wp2_with fail
  refine (read_none _ 1 1 [128] _ rfl H0.out (by decide) (by decide)).mono ?_
  rintro e w' ⟨rfl, rfl⟩
  go_wp2_with fail
  rw [rounds_succ]
  go_wp2_with fail
  refine (read_none _ 2 2 [128, 0] _ rfl H1.out (by decide) (by decide)).mono ?_
  rintro e w' ⟨rfl, rfl⟩
  go_wp2_with fail
  rw [rounds_succ]
  go_wp2_with fail
  refine (read_none _ 0 0 [] _ rfl ⟨fun h => absurd h (by simp), by simp⟩ (by decide) (by decide)).mono ?_
  rintro e w' ⟨rfl, rfl⟩
  go_wp2_with fail
  rw [rounds_succ]
  go_wp2_with fail
  refine (read_none _ 10 10 [255, 255, 255, 255, 255, 255, 255, 255, 255, 2] _ rfl H2.out (by decide) (by decide)).mono ?_
  rintro e w' ⟨rfl, rfl⟩
  go_wp2_with fail
  rw [rounds_succ]
  go_wp2_with fail
  refine (read_none _ 11 11 [128, 128, 128, 128, 128, 128, 128, 128, 128, 128, 1] _ rfl H3.out (by decide) (by decide)).mono ?_
  rintro e w' ⟨rfl, rfl⟩
  go_wp2_with fail
  rw [rounds_succ]
  clear e0 e1 e2 e3 e4 H0 H1 H2 H3
  go_wp2_with fail
  refine (cut_abc _ _ rfl).mono ?_
  rintro e w5 ⟨g5, c5, rfl, B5, hb5⟩
  have z5 := hb5.size
  have b5 : Below w.heap.size w w5 := (bW'.alloc zW _).trans (hb5.mono (by omega))
  have z5' := b5.size
  clear hb5 bW' zW z5
  go_wp2_with fail
  refine (cut_long _ 3 [3, 97, 98] _ (bin_lit w5 _ _ _ _ _ rfl (by simp [Bs]) (by decide)) (by decide) 3 1 (by decide) (by decide)).mono ?_
  rintro e w' ⟨rfl, rfl⟩
  have B5a := (B5.alloc (.cells #[.int .u8 3, .int .u8 97, .int .u8 98] 5)).alloc (.cells #[.int .u8 1] 5)
  have b5a := (b5.alloc z5' (.cells #[.int .u8 3, .int .u8 97, .int .u8 98] 5)).alloc (by simp; omega) (.cells #[.int .u8 1] 5)
  have z5a := b5a.size
  clear B5 b5 z5'
  go_wp2_with fail
  refine (get_bad _ 1 1 _ (by decide)).mono ?_
  rintro e w' ⟨rfl, rfl⟩
  go_wp2_with fail
  refine (alive_any _).mono ?_
  rintro e w6 ⟨rfl, hb6⟩
  have B6 := B5a.below hb6
  have b6 := b5a.trans (hb6.mono z5a)
  have z6 := b6.size
  clear B5a b5a z5a hb6
  go_wp2_with fail
  refine (text_ab _).mono ?_
  rintro e w7 ⟨g7, c7, rfl, B7, hb7⟩
  have B7a := (B6.below hb7).alloc (.cells #[.int .u8 2, .int .u8 97, .int .u8 98] 5)
  have b7 := b6.trans (hb7.mono z6)
  have z7 := b7.size
  have b7a := b7.alloc z7 (.cells #[.int .u8 2, .int .u8 97, .int .u8 98] 5)
  have z7a := b7a.size
  clear B6 b6 z6 hb7
  go_wp2_with fail
  refine (same_eq _ _ 3 3 _ _ [2, 97, 98] [2, 97, 98] _ rfl rfl rfl (B7.alloc _) (bin_lit w7 _ _ _ _ _ rfl (by simp [Bs]) (by decide))).mono ?_
  rintro e w' ⟨rfl, rfl⟩
  clear B7
  have kc := fun (C : Array Value) (n c : Nat) => Go.Joins.run_convert_bytes_const_at (P := Try.prog) (w7.alloc (.cells #[.int .u8 2, .int .u8 97, .int .u8 98] 5)) 26 5 C n c (w7.heap.size + 1) (by simp) Try.underlying26 Try.underlying5
  go_wp2_with fail
  refine (same_eq _ _ 1 1 _ _ [99] [99] _ rfl rfl rfl (B7a.alloc _) (bin_lit _ _ _ _ _ _ (by simp) (by simp [Bs]) (by decide))).mono ?_
  rintro e w' ⟨rfl, rfl⟩
  clear B7a kc
  go_wp2_with fail
  refine (sum_at none 0 0 [] _ 0 rfl (by rfl) ⟨fun h => absurd h (by simp), by simp⟩ (by decide)).mono ?_
  rintro e w' ⟨rfl, rfl⟩
  go_wp2
  go_ret
  exact ⟨rfl, b7a.alloc z7a _⟩

/-! ### THE ROW's STEP: WRITTEN OUT: LEAVE IT -/
set_option maxRecDepth 100000 in
theorem lifted (os : Os) (started : os.Started) (H : Type) (enc : TypeId × Value → H) :
    ReturnsInHanded {} Try.checked os 3 .any (Rows.bitsNamesSpec.pre6 enc Try.prog Try.f3 Rows.bitsNamesRow.domain false) (Rows.bitsNamesSpec.post enc Try.prog Try.f3 false true false false) := by
  refine returnsInHanded_of_change (C := Try.checked) own started (by kernel_rfl) Try.func3
    (ChangeSpec.witness6 (enc := enc) (C := Try.checked) false ⟨#[], #[], []⟩ 8 (by kernel_rfl) (by kernel_rfl) (by kernel_rfl) (by kernel_rfl)) ?_
  intro W base args ds gs before hval0 hW hcnd _
  have hval : ∀ (j : Nat) t v, Try.f3.params[j]? = some t → args[j]? = some v → Value.okWide Try.prog W .any base t v := hval0
  have hW' := hW
  obtain ⟨p, q, hA0, hV, rfl, hfz, hnd⟩ := hW
  have hA : DataW.TrodAll enc Try.prog W 0 (fun _ => true) true Try.f3.params.toList args.toList ds p := hA0
  rw [Try.params3] at hA hval
  obtain ⟨rfl, rfl, rfl⟩ := trodAll_none hA
  obtain ⟨rfl, rfl⟩ := trodVars_none hV
  clear hA0 hval0
  refine (walk  W).mono fun e W' ⟨he, bel⟩ => ?_
  subst he
  exact ⟨_, rfl, _, _, _, [], _, [], hW', trodAll_mk1 (shut_bool Try.underlying4 _), rfl, rfl, bel.frame _, fun h => by cases h⟩

theorem over : Rows.bitsNamesRow.holds Try.pinned (OpenSpec.ofChange Rows.bitsNamesSpec) :=
  OpenClaim.holds_of_wide 3 Try.f3 rfl rfl rfl rfl rfl rfl rfl ⟨rfl, rfl, rfl, rfl, rfl⟩ rfl rfl rfl rfl rfl (by kernel_rfl) Try.func3 (by kernel_rfl)
    (of_decide_eq_true (by kernel_rfl)) (by unfold Func.isWrapper; first | (rw [if_pos (by decide +kernel)]; kernel_rfl) | (rw [if_neg (by decide +kernel)]; exact ⟨rfl, rfl⟩))
    (fun os started H enc _ => lifted os started H enc)

theorem proved : Rows.BitsNamesSaid := over
end Go.Proofs.Ytdbgbaclgdkkjaa.bitsNames
namespace Go.Proofs.Ytdbgbaclgdkkjaa
theorem bitsNames_holds : Rows.BitsNamesSaid := bitsNames.proved
#print axioms bitsNames_holds
end Go.Proofs.Ytdbgbaclgdkkjaa
