/-
  What may be negated.
-/
import Derived.Test.YtkcmidhpbaepoaaDoorGRel
namespace Go.Proofs.YtkcmidhpbaepoaaDoor.G
open Go.RowKit Go.WideShapes Go.Joins

theorem vt_not : Vt (.wd tkNot) := by unfold Vt; decide
theorem same_not (t : Tk) (h : sameC t (.wd tkNot) = true) : t = .wd tkNot := by
  cases t <;> simp [sameC] at h
  rw [h]
theorem not_fin {S : List Nat} {p : Nat} {g : GB} {σ' : St} (h : tkAt S p = .wd tkNot) (hq : p < nx S p) (hF : Fin S .part (.live (nx S p)) g σ') : Fin S .part (.live p) (one 8 g) σ' := by
  obtain ⟨p', r, hR, hr⟩ := hF
  cases r with
  | none => exact ⟨p', none, .not_no h hR, hr⟩
  | some v =>
    obtain ⟨rfl, rfl, hlt⟩ := hr
    exact ⟨p', _, .not_ok h hR, rfl, rfl, by omega⟩
set_option maxHeartbeats 4000000 in
set_option maxRecDepth 8000 in
theorem negated_con (S : ByteArray) (b n : Nat) (CN : ∀ m, m < n → Con 36 S .part b m) (CR : ConR 43 S b n) : Con 36 S .part b n := by
  intro σ w hn hE hP
  have b0 := below_new w (.cells gz 24)
  have n0 := _root_.Go.heap_alloc_new w (.cells gz 24)
  have TK0 := takes_any S b (.wd tkNot) vt_not ⟨#[110, 111, 116]⟩ (by decide) σ _ (hE.below b0) (hP.below b0)
  have HE : Hid (Env w b ∧ σ.left S ≤ n) := ⟨hE, hn⟩
  have HC : Hid ((∀ m, m < n → Con 36 S .part b m) ∧ ConR 43 S b n) := ⟨CN, CR⟩
  have H0 : Hid (∀ w', (w.alloc (.cells gz 24)).grownBy w' (some b) → w'.heap[w.heap.size]? = some (.cells gz 24 (0, 0)) ∧ w.grownBy w' (some b) ∧ w.heap.size < w'.heap.size) := fun w' hg =>
    ⟨box_at hg n0 (fun e => by cases e; have := hE.lt; omega), grown_trans (grown_below b0 _) hg, by have := hg.size; rw [World.size_alloc] at this; omega⟩
  clear hn hE hP b0 n0 CN CR
  unfold gz at TK0 H0
  unfold rp at TK0 ⊢
  go_enter Tryd.func36, Tryd.ntmps36
  go_wp2_with fail
  refine TK0.mono ?_
  rintro e w3 ⟨rfl, hP3, hg3⟩
  obtain ⟨hz, hgw, hlt⟩ := H0.out w3 hg3
  have H3 : Hid (w3.heap[w.heap.size]? = _ ∧ w.grownBy w3 (some b) ∧ w.heap.size < w3.heap.size) := ⟨hz, hgw, hlt⟩
  clear TK0 H0 hz hgw hlt hg3
  cases ht : (σ.take (numsOf S) (.wd tkNot)).2 with
  | true =>
    obtain ⟨q, hq, hsc⟩ : ∃ q, σ = .live q ∧ sameC (tkAt (numsOf S) q) (.wd tkNot) = true := by
      cases σ with
      | dead q => simp only [St.take] at ht; cases ht
      | live q =>
        simp only [St.take] at ht
        split at ht
        · rename_i h9; exact ⟨q, rfl, h9⟩
        · cases ht
    subst hq
    have htk : (St.take (numsOf S) (.wd tkNot) (.live q)).1 = .live (nx (numsOf S) q) := by simp only [St.take, hsc, if_true]
    rw [htk] at hP3
    have hnot := same_not _ hsc
    have hnx : q < nx (numsOf S) q ∧ nx (numsOf S) q ≤ S.size := by
      have hqs : q ≤ (numsOf S).length := by
        have h8 : q ≤ nx (numsOf S) q := by unfold nx skip; omega
        have h9 : nx (numsOf S) q ≤ S.size := hP3.le
        rw [numsOf_len]; omega
      refine ⟨nx_lt hqs (fun e => ?_) (fun e => ?_), hP3.le⟩
      · rw [e] at hnot; cases hnot
      · rw [e] at hnot; cases hnot
    have CX := HC.out.1 (S.size - nx (numsOf S) q) (by
      have h1 : S.size - q ≤ n := HE.out.2
      omega) (.live (nx (numsOf S) q)) w3 (Nat.le_refl _) (HE.out.1.grown H3.out.2.1) hP3
    have HQ : Hid (tkAt (numsOf S) q = .wd tkNot ∧ q < nx (numsOf S) q) := ⟨hnot, hnx.1⟩
    unfold rp at CX
    clear hP3 htk hnot hnx ht hsc HC
    simp only []
    go_wp2_with fail
    refine CX.mono ?_
    rintro e w5 ⟨k5, n5, t5, q5, l5, c5, g, σ5, rfl, hG5, hP5, hg5, hF5⟩
    have hz5 := box_at hg5 H3.out.1 (fun e => by cases e; have := HE.out.1.lt; omega)
    have hs5 := hg5.size
    have HF : Hid (GIn w5 (fun i => w3.heap.size ≤ i) (gA k5 n5 t5 q5 l5 c5) g ∧ PIn w5 b S σ5 ∧ w.grownBy w5 (some b) ∧ Fin (numsOf S) .part (.live q) (one 8 g) σ5 ∧ w5.heap[w.heap.size]? = _ ∧ w.heap.size < w5.heap.size ∧ b < w.heap.size) :=
      ⟨hG5, hP5, grown_trans H3.out.2.1 hg5, not_fin HQ.out.1 HQ.out.2 hF5, hz5, by have := H3.out.2.2; omega, HE.out.1.lt⟩
    obtain ⟨⟨x0, x1, x2, x3⟩, f0, f1, f2, f3⟩ := row4_cells hz5
    obtain ⟨d, hd⟩ : ∃ d, w5.heap.size = w.heap.size + (d + 1) := ⟨w5.heap.size - w.heap.size - 1, by have := HF.out.2.2.2.2.2.1; omega⟩
    have HD : Hid (w5.heap.size = w.heap.size + (d + 1)) := hd
    unfold gA
    clear CX hG5 hP5 hg5 hF5 hz5 hs5
    simp only []
    go_wp2_with fail
    have hsz4 : ∀ a b c d', (set4 w5 w.heap.size a b c d').heap.size = w.heap.size + (d + 1) := fun a b c d' => by rw [← HD.out]; simp [set4]
    have B4 := set4_grown w5 w.heap.size (.int .u8 8) (.int .i64 0) (.string ⟨#[]⟩) (.slice (some ⟨w.heap.size + (d + 1), 0, none⟩) 1 1)
    have hG4 : GIn (set4 w5 w.heap.size (.int .u8 8) (.int .i64 0) (.string ⟨#[]⟩) (.slice (some ⟨w.heap.size + (d + 1), 0, none⟩) 1 1)) (fun i => w.heap.size < i) (gA k5 n5 t5 q5 l5 c5) g := (HF.out.1.grown B4 (fun i hi => by have := H3.out.2.2; omega)).wk fun i hi => by have := H3.out.2.2; omega
    have G4 := gin_one hG4 8 (by decide) (by rw [hsz4]; omega)
    rw [hsz4] at G4
    refine bodyPost_ret (results_cell_row rfl _ _ w.heap.size 24 (gA 8 0 ByteArray.empty (some ⟨w.heap.size + (d + 1), 0, none⟩) 1 1) (0, 0) _ rfl (box_below (set4_heap HF.out.2.2.2.2.1 _ _ _ _) (below_new _ _)) Tryd.underlying24 rfl size_guard) rfl ?_
    exact ⟨8, 0, ByteArray.empty, some ⟨w.heap.size + (d + 1), 0, none⟩, 1, 1, one 8 g, σ5, rfl, G4.wk (fun i hi => by omega), (HF.out.2.1.aside B4 (by have := HF.out.2.2.2.2.2.2; omega)).below (below_new _ _), grown_trans (grown_new HF.out.2.2.1 B4 (Nat.le_refl _)) (grown_below (below_new _ _) _), HF.out.2.2.2.1⟩
  | false =>
    have hno : ∀ q, σ = .live q → tkAt (numsOf S) q ≠ .wd tkNot := by
      rintro q rfl e
      have h9 : sameC (tkAt (numsOf S) q) (.wd tkNot) = true := by rw [e]; decide
      simp only [St.take, h9, if_true] at ht
      cases ht
    have hsame : (σ.take (numsOf S) (.wd tkNot)).1 = σ := by
      cases σ with
      | dead q => rfl
      | live q =>
        simp only [St.take]
        split
        · rename_i h9; exact absurd (same_not _ h9) (hno q rfl)
        · rfl
    rw [hsame] at hP3
    have CX := HC.out.2 σ w3 HE.out.2 hno (HE.out.1.grown H3.out.2.1) hP3
    unfold rp at CX
    clear hP3 hsame ht hno HC
    simp only []
    go_wp2_with fail
    refine CX.mono ?_
    rintro e w5 ⟨k5, n5, t5, q5, l5, c5, g, σ5, rfl, hG5, hP5, hg5, hF5⟩
    have hz5 := box_at hg5 H3.out.1 (fun e => by cases e; have := HE.out.1.lt; omega)
    have HF : Hid (GIn w5 (fun i => w3.heap.size ≤ i) (gA k5 n5 t5 q5 l5 c5) g ∧ PIn w5 b S σ5 ∧ w.grownBy w5 (some b) ∧ Fin (numsOf S) .part σ g σ5 ∧ w5.heap[w.heap.size]? = _ ∧ b < w.heap.size) :=
      ⟨hG5, hP5, grown_trans H3.out.2.1 hg5, hF5, hz5, HE.out.1.lt⟩
    obtain ⟨⟨x0, x1, x2, x3⟩, f0, f1, f2, f3⟩ := row4_cells hz5
    unfold gA
    clear CX hG5 hP5 hg5 hF5 hz5
    simp only []
    go_wp2_with fail
    have B4 := set4_grown w5 w.heap.size (.int .u8 (k5 : Int)) (.int .i64 n5) (.string t5) (.slice q5 l5 c5)
    refine bodyPost_ret (results_cell_row rfl _ _ w.heap.size 24 (gA k5 n5 t5 q5 l5 c5) (0, 0) _ rfl (set4_heap HF.out.2.2.2.2.1 _ _ _ _) Tryd.underlying24 rfl size_guard) rfl ?_
    exact ⟨k5, n5, t5, q5, l5, c5, g, σ5, rfl, (HF.out.1.grown B4 (fun i hi => by have := H3.out.2.2; omega)).wk (fun i hi => by have := H3.out.2.2; omega), HF.out.2.1.aside B4 (by have := HF.out.2.2.2.2.2; omega), grown_new HF.out.2.2.1 B4 (Nat.le_refl _), HF.out.2.2.2.1⟩
end Go.Proofs.YtkcmidhpbaepoaaDoor.G
