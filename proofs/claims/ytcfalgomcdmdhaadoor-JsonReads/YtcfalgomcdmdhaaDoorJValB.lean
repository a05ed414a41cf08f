/-
  The reader: a value's walk, where it has no items.
-/
import Derived.Test.YtcfalgomcdmdhaaDoorJValA
namespace Go.Proofs.YtcfalgomcdmdhaaDoor
open Go.RowKit Go.WideShapes Go.Joins

theorem set6_heap' {w : World} {g : Nat} {x0 x1 x2 x3 x4 x5 : Value} (h : w.heap[g]? = some (.cells #[x0, x1, x2, x3, x4, x5] 25 (0, 0))) (a b c d e f : Value) : (set6 w g a b c d e f).heap[g]? = some (.cells #[a, b, c, d, e, f] 25 (0, 0)) := by
  have h1 := block_setCell (i := 0) h a
  have h2 := block_setCell (i := 1) h1 b
  have h3 := block_setCell (i := 2) h2 c
  have h4 := block_setCell (i := 3) h3 d
  have h5 := block_setCell (i := 4) h4 e
  have h6 := block_setCell (i := 5) h5 f
  exact h6
/-- the end, behind stores into the result's box -/
theorem end_any {w wE wG wF : World} {b : Nat} {σ' : RS} (hlt : b < w.heap.size) (h : RIn wE b σ') (hg : w.grownBy wE (some b)) (hb : Below wE.heap.size wE wG) (g6 : wG.grownBy wF (some w.heap.size)) :
    RIn wF b σ' ∧ w.grownBy wF (some b) := by
  have hg2 := grown_trans hg (grown_below hb (some b))
  have hlE := (h.below hb).lt
  exact ⟨(h.below hb).at (g6.block b hlE (fun e => by cases e; omega)), ⟨g6.os.trans hg2.os, g6.tape.trans hg2.tape, g6.output.trans hg2.output, Nat.le_trans hg2.size g6.size, fun i hi hne => (g6.block i (Nat.lt_of_lt_of_le hi hg2.size) (fun e => by cases e; omega)).trans (hg2.block i hi hne)⟩⟩
theorem val_end {p : J.Rd J.JV} {w wE wG wF : World} {b : Nat} {σ : RS} (hlt : b < w.heap.size) (h : RIn wE b (goR p σ).1) (hg : w.grownBy wE (some b)) (hb : Below wE.heap.size wE wG) (g6 : wG.grownBy wF (some w.heap.size))
    (k : Nat) (bb : Bool) (n : Int) (t : ByteArray) (hk : k < 256) (hn : J.Rng n) (hv : ∀ v, (goR p σ).2 = some v → v = .mk k bb n (numsOf t) [] []) : ValP p b σ w (.returned (.agg (flatA k bb n t))) wF := by
  have he := end_any hlt h hg hb g6
  exact val_flat k bb n t hk hn hv he.1 he.2
set_option maxHeartbeats 400000 in
set_option maxRecDepth 8000 in
theorem val_num (b pr pv : Nat) (D : Int) (F : Nat) (g : Option (J.Rd J.JV)) (σ : RS) (w : World) (hE : Env w b pr pv) (h : RIn w b σ)
    (hp : (goR J.blanks σ).1.pk ≠ 91 ∧ (goR J.blanks σ).1.pk ≠ 123 ∧ (goR J.blanks σ).1.pk ≠ 34 ∧ (goR J.blanks σ).1.pk ≠ 110 ∧ (goR J.blanks σ).1.pk ≠ 116 ∧ (goR J.blanks σ).1.pk ≠ 102) :
    Calls Tryd.prog 52 #[.int .i64 D, pp pr, pp pv] w fun e w' => ValP (valR F g) b σ w e w' := by
  have hlt := h.lt
  have h8 := hE.h8
  have hbA : Below w.heap.size w (w.alloc jbox) := (Below.refl _ _).alloc (Nat.le_refl _) jbox
  have hA := h.below hbA
  have hEA := hE.below hbA (by omega)
  have hN := _root_.Go.heap_alloc_new w jbox
  have Bk := blanks_any b σ (w.alloc jbox) hA
  have hG := valR_is F g σ
  have ho : (goR J.blanks σ).1.ok := goR_ok blanks_errs h.ok
  generalize (goR J.blanks σ).1 = σ1 at Bk hG ho hp
  have HG : Hid (goR (valR F g) σ = goR J.number σ1) := by show _ = _; rw [hG, valueB_num ho hp]
  obtain ⟨k, hk⟩ : ∃ k, σ1.pk = k := ⟨_, rfl⟩
  have P := fun w' (hw : RIn w' b σ1) => peek_any b σ1 w' hw
  simp only [hk] at P hp
  have p1 : ((k : Int) == 110) = false := by simpa using fun x : (k : Int) = 110 => hp.2.2.2.1 (by omega)
  have p2 : ((k : Int) == 116) = false := by simpa using fun x : (k : Int) = 116 => hp.2.2.2.2.1 (by omega)
  have p3 : ((k : Int) == 102) = false := by simpa using fun x : (k : Int) = 102 => hp.2.2.2.2.2 (by omega)
  have p4 : ((k : Int) == 34) = false := by simpa using fun x : (k : Int) = 34 => hp.2.2.1 (by omega)
  have p5 : ((k : Int) == 91) = false := by simpa using fun x : (k : Int) = 91 => hp.1 (by omega)
  have p6 : ((k : Int) == 123) = false := by simpa using fun x : (k : Int) = 123 => hp.2.1 (by omega)
  obtain ⟨I, hI⟩ : ∃ I : Int, (k : Int) = I := ⟨_, rfl⟩
  rw [hI] at p1 p2 p3 p4 p5 p6
  simp only [hI] at P
  have hr := hEA.r
  have HH : Hid (RIn w b σ ∧ b < w.heap.size ∧ 8 ≤ b ∧ Env (w.alloc jbox) b pr pv ∧ (w.alloc jbox).heap[w.heap.size]? = some jbox ∧ Below w.heap.size w (w.alloc jbox)) := ⟨h, hlt, h8, hEA, hN, hbA⟩
  clear hG ho hp hk hI h hE hA hN hbA hEA h8 hlt
  unfold rp at Bk P hr
  unfold pp
  unfold jbox zeroA at Bk hr
  go_enter Tryd.func52, Tryd.ntmps52
  go_wp2_with fail
  refine Bk.mono ?_
  rintro e w1 ⟨rfl, h1, g1⟩
  simp only []
  have E1 := HH.out.2.2.2.1.grown g1 (by have := (HH.out.1.below HH.out.2.2.2.2.2).lt; have := HH.out; omega)
  have P' := P w1 h1
  have hr1 := E1.r
  have HE1 : Hid (Env w1 b pr pv) := E1
  have HB1 : Hid (w1.heap[w.heap.size]? = some jbox) := box_grown HH.out.2.2.2.2.1 g1 (by have := HH.out; omega)
  unfold rp at hr1
  clear Bk hr P E1
  go_wp2_with fail
  refine P'.mono ?_
  rintro e w2 ⟨rfl, hb2⟩
  simp only []
  have h2 := h1.below hb2
  have E2 := HE1.out.below hb2 (by have := h1.lt; have := HH.out; omega)
  have N := number_any b σ1 w2 h2 HH.out.2.2.1 E2.laid
  have hr2 := E2.r
  have HB2 : Hid (w2.heap[w.heap.size]? = some jbox) := box_below HB1.out hb2
  have HG1 : Hid (w.grownBy w2 (some b)) := grown_trans (grown_trans (grown_below HH.out.2.2.2.2.2 _) g1) (grown_below hb2 _)
  unfold rp at N hr2
  clear P' hr1 E2 h1 g1 hb2
  go_wp2_with fail
  refine N.mono ?_
  rintro e w3 ⟨kk, n, t, rfl, hkk, hn, hv, h3, g3⟩
  simp only []
  have hbx3 := box_grown HB2.out g3 (by have := HH.out; omega)
  have H3 : Hid (RIn w3 b (goR J.number σ1).1 ∧ w.grownBy w3 (some b) ∧ kk < 256 ∧ J.Rng n ∧ ∀ v, (goR J.number σ1).2 = some v → v = .mk kk false n (numsOf t) [] []) := ⟨h3, grown_trans HG1.out g3, hkk, hn, hv⟩
  obtain ⟨⟨d0, d1, d2, d3, d4, d5⟩, f0, f1, f2, f3, f4, f5⟩ := box_cells hbx3
  obtain ⟨KK, hKK⟩ : ∃ KK : Int, (kk : Int) = KK := ⟨_, rfl⟩
  unfold flatA jA
  rw [hKK]
  clear N hr2 h3 g3 hkk hn hv p1 p2 p3 p4 p5 p6 h2
  go_wp2
  subst hKK
  refine bodyPost_ret (results_cell_row rfl _ _ w.heap.size 25 (flatA kk false n t) (0, 0) _ rfl (set6_heap' (set6_heap hbx3 _ _ _ _ _ _) _ _ _ _ _ _) Tryd.underlying25 rfl size_json) rfl ?_
  obtain ⟨x1, x2, x3, x4, x5⟩ := H3.out
  have hg : goR J.number σ1 = goR (valR F g) σ := (show goR (valR F g) σ = goR J.number σ1 from HG.out).symm
  rw [hg] at x1 x5
  exact val_end HH.out.2.1 x1 x2 (Below.refl _ _) (grown_trans (set6_grown _ _ _ _ _ _ _ _) (set6_grown _ _ _ _ _ _ _ _)) kk false n t x3 x4 x5
end Go.Proofs.YtcfalgomcdmdhaaDoor
