/-
  The document's parts. Written by tools/gen_gdr.py out of GRel and GNeg.
-/
import Derived.Test.YtkcmidhpbaepoaaDoorGDu
namespace Go.Proofs.YtkcmidhpbaepoaaDoor.G
open Go.RowKit Go.WideShapes Go.Joins

theorem LvS.dends2 {S : ByteArray} {b B : Nat} {w wr : World} {A : Array Value} {g0 : GB} {k : Nat} {n : Int} {t : ByteArray} {q : Option Addr} {l c : Nat} {g : GB} {s : Sym} {σ σ' : St} (h : LvS S b B w wr A g0) (hb : b < w.heap.size) (hG : GIn wr (fun i => w.heap.size < i) (gA k n t q l c) g) (hP : DIn wr b S σ') (hF : DFin (numsOf S) s σ g σ') :
    (set4 wr w.heap.size (.int .u8 (k : Int)) (.int .i64 n) (.string t) (.slice q l c)).heap[w.heap.size]? = some (.cells (gA k n t q l c) 24 (0, 0)) ∧
    DGrP S s σ b w (.returned (.agg (gA k n t q l c))) (set4 wr w.heap.size (.int .u8 (k : Int)) (.int .i64 n) (.string t) (.slice q l c)) := by
  have hz := h.hz
  unfold gz at hz
  refine ⟨set4_heap hz _ _ _ _, k, n, t, q, l, c, g, σ', rfl, ?_, hP.aside (set4_grown _ _ _ _ _ _) (by omega), grown_new h.hg (set4_grown _ _ _ _ _ _) (Nat.le_refl _), hF⟩
  exact (hG.grown (set4_grown _ _ _ _ _ _) (fun i hi => by omega)).wk fun i hi => by omega
theorem relk_non {t : Tk} (h : t = .non) : relk t = none := by subst h; rfl
/-- between a first sum and what it is compared with -/
def DRp (S : List Nat) (σ0 : St) (g : GB) (σ : St) : Prop :=
  match σ with
  | .live q => ∃ p0, σ0 = .live p0 ∧ p0 < q ∧ ∀ p' r, R S (.rel g) q p' r → R S .part p0 p' r
  | .dead q => DFin S .part σ0 g (.dead q)
theorem drp_start {S : List Nat} {σ0 σ : St} {g : GB} (hn : ∀ p, σ0 = .live p → tkAt S p ≠ .wd tkNot) (h : DFin S (.lv .sums) σ0 g σ) : DRp S σ0 g σ := by
  cases σ0 with
  | dead p =>
    have h : σ = .dead p := h
    subst h
    exact rfl
  | live p0 =>
    obtain ⟨p', r, hR, hr⟩ := h
    cases r with
    | none =>
      have hr : σ = .dead p' := hr
      subst hr
      exact ⟨p', none, .part_no (hn _ rfl) hR, rfl⟩
    | some v =>
      obtain ⟨rfl, rfl, hlt⟩ := hr
      rcases norm_cases S p' with ⟨hd, he⟩ | ⟨hd, he⟩
      · rw [he]
        exact ⟨p', some g, .part_ok (hn _ rfl) hR (.rel_stop (relk_non hd)), he.symm, rfl, hlt⟩
      · rw [he]
        exact ⟨p0, rfl, hlt, fun p'' r h' => .part_ok (hn _ rfl) hR h'⟩
theorem drp_stop {S : List Nat} {σ0 σ : St} {g : GB} (h : DRp S σ0 g σ) (hs : ∀ q, σ = .live q → tkAt S q ≠ .non ∧ relk (tkAt S q) = none) : DFin S .part σ0 g σ := by
  cases σ with
  | dead q => exact h
  | live q =>
    obtain ⟨p0, rfl, hlt, hR⟩ := h
    exact ⟨q, some g, hR _ _ (.rel_stop (hs q rfl).2), (norm_live (hs q rfl).1).symm, rfl, hlt⟩
theorem drp_step {S : List Nat} {σ0 σ2 : St} {g h : GB} {q m : Nat} (hl : DRp S σ0 g (.live q)) (hq : q < nx S q) (hm : relk (tkAt S q) = some m) (hF : DFin S (.lv .sums) (norm S (nx S q)) h σ2) : DFin S .part σ0 (pair m g h) σ2 := by
  obtain ⟨p0, rfl, hlt, hR⟩ := hl
  obtain ⟨p', r, hR2, hr⟩ := hF.norm (s := .lv .sums) trivial
  cases r with
  | none => exact ⟨p', none, hR _ _ (.rel_no hm hR2), hr⟩
  | some v =>
    obtain ⟨rfl, rfl, hlt2⟩ := hr
    exact ⟨p', _, hR _ _ (.rel_ok hm hR2), rfl, rfl, by omega⟩
theorem dnot_fin {S : List Nat} {p : Nat} {g : GB} {σ' : St} (h : tkAt S p = .wd tkNot) (hq : p < nx S p) (hF : DFin S .part (norm S (nx S p)) g σ') : DFin S .part (.live p) (one 8 g) σ' := by
  obtain ⟨p', r, hR, hr⟩ := hF.norm (s := .part) trivial
  cases r with
  | none => exact ⟨p', none, .not_no h hR, hr⟩
  | some v =>
    obtain ⟨rfl, rfl, hlt⟩ := hr
    exact ⟨p', _, .not_ok h hR, rfl, rfl, by omega⟩
set_option maxHeartbeats 4000000 in
set_option maxRecDepth 8000 in
theorem part_con (S : ByteArray) (b n : Nat) (CN : ∀ m, m < n → DCon 30 S .part b m) (CL : DCon 39 S (.lv .sums) b n) : DCon 30 S .part b n := by
  intro σ w hn hP
  have hE : b < w.heap.size := hP.lt
  have b0 := below_new w (.cells gz 24)
  have n0 := _root_.Go.heap_alloc_new w (.cells gz 24)
  have TK9 := is_any S b (.wd tkNot) (ask_wd rfl) ⟨#[110, 111, 116]⟩ (by decide) σ _ (hP.below b0)
  have HE : Hid (b < w.heap.size ∧ σ.left S ≤ n ∧ S.size ≤ 16384) := ⟨hE, hn, hP.sz⟩
  have HC : Hid (DCon 39 S (.lv .sums) b n) := CL
  have HCN : Hid (∀ m, m < n → DCon 30 S .part b m) := CN
  have H0 : Hid (∀ w', (w.alloc (.cells gz 24)).grownBy w' (some b) → w'.heap[w.heap.size]? = some (.cells gz 24 (0, 0)) ∧ w.grownBy w' (some b) ∧ w.heap.size < w'.heap.size) := fun w' hg =>
    ⟨box_at hg n0 (fun e => by cases e; omega), grown_trans (grown_below b0 _) hg, by have := hg.size; rw [World.size_alloc] at this; omega⟩
  have HFI : Hid (∀ (w1 : World) (k : Nat) (n : Int) (t : ByteArray) (q : Option Addr) (l c : Nat) (g : GB), GIn w1 (fun i => (w.alloc (.cells gz 24)).heap.size ≤ i) (gA k n t q l c) g → (w.alloc (.cells gz 24)).grownBy w1 (some b) → LvS S b w1.heap.size w (w1.alloc (.cells (gA k n t q l c) 24)) (gA k n t q l c) g ∧ w.heap.size < w1.heap.size) := fun w1 k n t q l c g h1 h2 => LvS.first h1 h2 hE
  clear CL CN hn hE hP b0 n0
  unfold gz gA at HFI
  unfold gz at TK9 H0
  unfold rp at TK9 ⊢
  go_enter Tryd.func30, Tryd.ntmps30
  go_wp2_with fail
  refine TK9.mono ?_
  rintro e wN ⟨rfl, hPN, hgN⟩
  obtain ⟨hz, hgw, hlt⟩ := H0.out wN hgN
  have H3 : Hid (wN.heap[w.heap.size]? = _ ∧ w.grownBy wN (some b) ∧ w.heap.size < wN.heap.size) := ⟨hz, hgw, hlt⟩
  have HGN : Hid ((w.alloc (.cells #[.int .u8 0, .int .i64 0, .string ⟨#[]⟩, .slice none 0 0] 24)).grownBy wN (some b)) := hgN
  clear TK9 H0 hz hgw hlt hgN
  cases htN : (σ.dtake (numsOf S) (.wd tkNot)).2 with
  | true =>
    obtain ⟨q, hq, hnot⟩ : ∃ q, σ = .live q ∧ tkAt (numsOf S) q = .wd tkNot := by
      cases σ with
      | dead q => simp only [St.dtake] at htN; cases htN
      | live q =>
        simp only [St.dtake] at htN
        split at htN
        · rename_i h9; exact ⟨q, rfl, h9⟩
        · cases htN
    subst hq
    have htk : (St.dtake (numsOf S) (.wd tkNot) (.live q)).1 = norm (numsOf S) (nx (numsOf S) q) := by simp only [St.dtake, if_pos hnot]
    rw [htk] at hPN
    have hnx : q < nx (numsOf S) q ∧ nx (numsOf S) q ≤ S.size := by
      have hqs : q ≤ (numsOf S).length := by
        have h8 : q ≤ nx (numsOf S) q := by unfold nx skip; omega
        have h9 := norm_le hPN
        rw [numsOf_len]; omega
      refine ⟨nx_lt hqs (fun e => ?_) (fun e => ?_), norm_le hPN⟩
      · rw [e] at hnot; cases hnot
      · rw [e] at hnot; cases hnot
    have CX := HCN.out (S.size - nx (numsOf S) q) (by
      have h1 : S.size - q ≤ n := HE.out.2.1
      omega) (norm (numsOf S) (nx (numsOf S) q)) wN (norm_left S _) hPN
    have HQ : Hid (tkAt (numsOf S) q = .wd tkNot ∧ q < nx (numsOf S) q) := ⟨hnot, hnx.1⟩
    unfold rp at CX
    clear hPN htk hnot hnx htN HC HCN HFI HGN
    simp only []
    go_wp2_with fail
    refine CX.mono ?_
    rintro e w5 ⟨k5, n5, t5, q5, l5, c5, g, σ5, rfl, hG5, hP5, hg5, hF5⟩
    have hz5 := box_at hg5 H3.out.1 (fun e => by cases e; have := HE.out.1; omega)
    have hs5 := hg5.size
    have HF : Hid (GIn w5 (fun i => wN.heap.size ≤ i) (gA k5 n5 t5 q5 l5 c5) g ∧ DIn w5 b S σ5 ∧ w.grownBy w5 (some b) ∧ DFin (numsOf S) .part (.live q) (one 8 g) σ5 ∧ w5.heap[w.heap.size]? = _ ∧ w.heap.size < w5.heap.size ∧ b < w.heap.size) :=
      ⟨hG5, hP5, grown_trans H3.out.2.1 hg5, dnot_fin HQ.out.1 HQ.out.2 hF5, hz5, by have := H3.out.2.2; omega, HE.out.1⟩
    obtain ⟨⟨x0, x1, x2, x3⟩, f0, f1, f2, f3⟩ := row4_cells hz5
    obtain ⟨d, hd⟩ : ∃ d, w5.heap.size = w.heap.size + (d + 1) := ⟨w5.heap.size - w.heap.size - 1, by have := HF.out.2.2.2.2.2.1; omega⟩
    have HD : Hid (w5.heap.size = w.heap.size + (d + 1)) := hd
    unfold gA
    clear CX hG5 hP5 hg5 hF5 hz5 hs5
    simp only []
    go_wp2_with fail
    have hsz4 : ∀ a b c d', (set4 w5 w.heap.size a b c d').heap.size = w.heap.size + (d + 1) := fun a b c d' => by rw [← HD.out]; simp [set4]
    have B4 := set4_grown w5 w.heap.size (.int .u8 8) (.int .i64 0) (.string ⟨#[]⟩) (.slice (some ⟨w.heap.size + (d + 1), 0, none⟩) 1 1)
    have hG4 : GIn (set4 w5 w.heap.size (.int .u8 8) (.int .i64 0) (.string ⟨#[]⟩) (.slice (some ⟨w.heap.size + (d + 1), 0, none⟩) 1 1)) (fun i => w.heap.size < i) (gA k5 n5 t5 q5 l5 c5) g := (HF.out.1.grown B4 (fun i hi => by have := H3.out.2.2; omega)).wk fun i hi => by have := H3.out.2.2; omega
    have G4 := gin_one hG4 8 (by decide) (by rw [hsz4]; omega)
    rw [hsz4] at G4
    refine bodyPost_ret (results_cell_row rfl _ _ w.heap.size 24 (gA 8 0 ByteArray.empty (some ⟨w.heap.size + (d + 1), 0, none⟩) 1 1) (0, 0) _ rfl (box_below (set4_heap HF.out.2.2.2.2.1 _ _ _ _) (below_new _ _)) Tryd.underlying24 rfl size_guard) rfl ?_
    exact ⟨8, 0, ByteArray.empty, some ⟨w.heap.size + (d + 1), 0, none⟩, 1, 1, one 8 g, σ5, rfl, G4.wk (fun i hi => by omega), (HF.out.2.1.aside B4 (by have := HF.out.2.2.2.2.2.2; omega)).below (below_new _ _), grown_trans (grown_new HF.out.2.2.1 B4 (Nat.le_refl _)) (grown_below (below_new _ _) _), HF.out.2.2.2.1⟩
  | false =>
    have hnoN : ∀ q, σ = .live q → tkAt (numsOf S) q ≠ .wd tkNot := by
      rintro q rfl e
      simp only [St.dtake, if_pos e] at htN
      cases htN
    have hsameN : (σ.dtake (numsOf S) (.wd tkNot)).1 = σ := by
      cases σ with
      | dead q => rfl
      | live q => simp only [St.dtake, if_neg (hnoN q rfl)]
    rw [hsameN] at hPN
    have HNT : Hid (∀ p, σ = .live p → tkAt (numsOf S) p ≠ .wd tkNot) := hnoN
    have CL1 := HC.out σ wN HE.out.2.1 hPN
    unfold rp at CL1
    clear hPN hsameN htN hnoN H3 HCN
    simp only []
    go_wp2_with fail
    refine CL1.mono ?_
    rintro e w1 ⟨k1, n1, t1, q1, l1, c1, g, σ2, rfl, hG, hP1, hg1, hF⟩
    obtain ⟨hS, hlt⟩ := HFI.out w1 k1 n1 t1 q1 l1 c1 g (by unfold gA at hG; exact hG.wk fun i hi => Nat.le_trans HGN.out.size hi) (grown_trans HGN.out hg1)
    have hP2 := hP1.below (below_new w1 (.cells (gA k1 n1 t1 q1 l1 c1) 24))
    have HS : Hid (LvS S b w1.heap.size w (w1.alloc (.cells (gA k1 n1 t1 q1 l1 c1) 24)) (gA k1 n1 t1 q1 l1 c1) g ∧ DIn (w1.alloc (.cells (gA k1 n1 t1 q1 l1 c1) 24)) b S σ2 ∧ DRp (numsOf S) σ g σ2 ∧ σ2.left S ≤ σ.left S) := ⟨hS, hP2, drp_start HNT.out hF, hF.left⟩
    have HLT : Hid (w.heap.size < w1.heap.size) := hlt
    clear CL1 HFI HGN HNT hG hP1 hg1 hF hS hP2 hlt
    unfold gA
    unfold gA at HS
    simp only []
    go_upto_region 4 with fail
    obtain ⟨B, hB⟩ : ∃ B, w1.heap.size = B := ⟨_, rfl⟩
    rw [hB] at HS HLT ⊢
    refine wp_at (fun W => LvS S b B w W (gA k1 n1 t1 q1 l1 c1) g ∧ DIn W b S σ2) ⟨by unfold gA; exact HS.out.1, HS.out.2.1⟩ (fun wr H2 => ?_)
    have HI : Hid (LvS S b B w wr (gA k1 n1 t1 q1 l1 c1) g ∧ DRp (numsOf S) σ g σ2 ∧ σ2.left S ≤ σ.left S ∧ b < w.heap.size) := ⟨H2.1, HS.out.2.2.1, HS.out.2.2.2, HE.out.1⟩
    have TK0 := is_any S b (.sg 61) (ask_sg rfl) ⟨#[61]⟩ (by decide) σ2 wr H2.2
    have HP2 : Hid (DIn wr b S σ2) := H2.2
    clear HS hB H2
    unfold rp at TK0
    go_wp2_with fail
    refine TK0.mono ?_
    rintro e w3 ⟨rfl, hP3, hg3⟩
    clear TK0
    cases ht : (σ2.dtake (numsOf S) (.sg 61)).2 with
    | true =>
      obtain ⟨q, hq, hsc⟩ : ∃ q, σ2 = .live q ∧ tkAt (numsOf S) q = (.sg 61) := by
        cases σ2 with
        | dead q => simp only [St.dtake] at ht; cases ht
        | live q =>
          simp only [St.dtake] at ht
          split at ht
          · rename_i h9; exact ⟨q, rfl, h9⟩
          · cases ht
      subst hq
      have htk : (St.dtake (numsOf S) (.sg 61) (.live q)).1 = norm (numsOf S) (nx (numsOf S) q) := by simp only [St.dtake, if_pos hsc]
      rw [htk] at hP3
      have hop : relk (tkAt (numsOf S) q) = some 11 := by rw [dop_rel]; rw [if_pos hsc]
      have hnx : q < nx (numsOf S) q ∧ nx (numsOf S) q ≤ S.size := by
        have hqs : q ≤ (numsOf S).length := by
          have h8 : q ≤ nx (numsOf S) q := by unfold nx skip; omega
          have h9 : nx (numsOf S) q ≤ S.size := norm_le hP3
          rw [numsOf_len]; omega
        refine ⟨nx_lt hqs (fun e => ?_) (fun e => ?_), norm_le hP3⟩
        · rw [e] at hop; cases hop
        · rw [e] at hop; cases hop
      have HQ : Hid (DRp (numsOf S) σ g (.live q) ∧ (q < nx (numsOf S) q ∧ nx (numsOf S) q ≤ S.size) ∧ relk (tkAt (numsOf S) q) = some 11 ∧ S.size - q ≤ σ.left S ∧ b < w.heap.size) := ⟨HI.out.2.1, hnx, hop, HI.out.2.2.1, HI.out.2.2.2⟩
      have hS3 := HI.out.1.go HI.out.2.2.2 HLT.out hg3
      have HS3 : Hid (LvS S b B w w3 (gA k1 n1 t1 q1 l1 c1) g) := hS3
      obtain ⟨⟨x0, x1, x2, x3⟩, _, _, _, _⟩ := box_of2 hS3.hB
      have HLq : Hid (∀ w', w3.grownBy w' (some b) → DIn w' b S (norm (numsOf S) (nx (numsOf S) q)) → Calls Tryd.prog 39 #[rp b] w' fun e w'' => DGrP S (.lv .sums) (norm (numsOf S) (nx (numsOf S) q)) b w' e w'') := fun w' hg' hp' =>
        HC.out _ w' (by have := HE.out.2.1; have := HQ.out.2.2.2.1; have := HQ.out.2.1; have := norm_left S (nx (numsOf S) q); omega) hp'
      have HP3 : Hid (∀ w', Below w3.heap.size w3 w' → DIn w' b S (norm (numsOf S) (nx (numsOf S) q))) := fun w' hb => hP3.below hb
      have HKB : Hid (∀ w', w3.grownBy w' (some b) → (w'.cell? ⟨B, 0, none⟩ = some (.int .u8 (k1 : Int)) ∧ w'.cell? ⟨B, 1, none⟩ = some (.int .i64 n1) ∧ w'.cell? ⟨B, 2, none⟩ = some (.string t1) ∧ w'.cell? ⟨B, 3, none⟩ = some (.slice q1 l1 c1))) := fun w' hg' => box_of (HS3.out.go HQ.out.2.2.2.2 HLT.out hg').hB
      have HKR : Hid (∀ w', w3.grownBy w' (some b) → w'.heap[w.heap.size]? = some (.cells #[.int .u8 0, .int .i64 0, .string ⟨#[]⟩, .slice none 0 0] 24 (0, 0))) := fun w' hg' => (HS3.out.go HQ.out.2.2.2.2 HLT.out hg').hz
      have HPR : Hid (∀ (wa w5 : World) (k5 : Nat) (n5 : Int) (t5 : ByteArray) (q5 : Option Addr) (l5 c5 : Nat) (h : GB), w3.grownBy wa (some b) → wa.grownBy w5 (some b) → GIn w5 (fun i => wa.heap.size ≤ i) (gA k5 n5 t5 q5 l5 c5) h →
          Calls Tryd.prog 20 #[.int .u8 11, .agg (gA k1 n1 t1 q1 l1 c1), .agg (gA k5 n5 t5 q5 l5 c5)] w5 fun e w' => PrP (fun i => w.heap.size < i) (pair 11 g h) w5 e w') := fun wa w5 k5 n5 t5 q5 l5 c5 h hg4 hg5 hG5 => by
        have hS5 := HS3.out.go HQ.out.2.2.2.2 HLT.out (grown_trans hg4 hg5)
        have hB3 := heap_lt HS3.out.hB
        have hz4 := hg4.size
        have hz5 := hg5.size
        have hlt := HLT.out
        exact two_any 11 (by decide) _ g h k1 k5 n1 n5 t1 t5 q1 q5 l1 c1 l5 c5 w5 (hS5.hG.wk fun i hi => hi.1) (hG5.wk fun i hi => by omega) (fun i hi => by omega)
      clear hP3 hg3 htk hop hnx hS3 HI ht hsc 
      unfold rp at HLq
      unfold gA at HPR
      have G0 : w3.grownBy w3.drew (some b) := grown_below (Below.refl _ _).drew _
      have P0 := HP3.out _ (Below.refl w3.heap.size w3).drew
      simp only []
      go_upto_region 5 with fail
      go_region_with (first
          | (go_at_call 20; refine (HPR.out _ _ _ _ _ _ _ _ _ G0 hg5 hG5).mono ?_; rintro e w6 ⟨k6, n6, t6, q6, l6, c6, rfl, hG6, hb6⟩; have G2 := grown_trans G1 (grown_below hb6 (some b)); obtain ⟨⟨s0, s1, s2, s3⟩, f0, f1, f2, f3⟩ := row4_cells (HKR.out w6 G2); unfold gA)
          | (go_at_call 39; refine (HLq.out _ G0 P0).mono ?_; rintro e w5 ⟨k5, n5, t5, q5, l5, c5, h, σ5, rfl, hG5, hP5, hg5, hF5⟩; have G1 := grown_trans G0 hg5; obtain ⟨r0, r1, r2, r3⟩ := HKB.out w5 G1; unfold gA; unfold gA at hG5)
          | fail)
      all_goals
        have hS6 := HS3.out.go HQ.out.2.2.2.2 HLT.out G2
        have HFN := hS6.dends2 HQ.out.2.2.2.2 hG6 (hP5.below hb6) (drp_step HQ.out.1 HQ.out.2.1.1 HQ.out.2.2.1 hF5)
        have HFH : Hid (_ ∧ DGrP S .part σ b w _ _) := HFN
        clear G0 G1 G2 P0 hG5 hP5 hg5 hF5 hG6 hb6 hS6 HPR HLq HP3 HKB HKR HFN x0 x1 x2 x3 r0 r1 r2 r3
        go_wp2_with fail
        exact bodyPost_ret (results_cell_row rfl _ _ w.heap.size 24 (gA k6 n6 t6 q6 l6 c6) (0, 0) _ rfl HFH.out.1 Tryd.underlying24 rfl size_guard) rfl HFH.out.2
    | false =>
      have hno : ∀ q, σ2 = .live q → tkAt (numsOf S) q ≠ .non ∧ ¬ tkAt (numsOf S) q = (.sg 61) := by
        rintro q rfl
        refine ⟨(HP2.out.liv q rfl).1, fun h9 => ?_⟩
        simp only [St.dtake, if_pos h9] at ht; cases ht
      have hsame : (σ2.dtake (numsOf S) (.sg 61)).1 = σ2 := by
        cases σ2 with
        | dead q => rfl
        | live q => simp only [St.dtake, if_neg (hno q rfl).2]
      rw [hsame] at hP3
      clear hsame ht
      have HN0 : Hid (∀ q, σ2 = .live q → tkAt (numsOf S) q ≠ .non ∧ ¬ tkAt (numsOf S) q = .sg 61) := hno
      have hS0 := HI.out.1.go HI.out.2.2.2 HLT.out hg3
      have TK1 := is_any S b (.sg 60) (ask_sg rfl) ⟨#[60]⟩ (by decide) σ2 w3 hP3
      have HI2 : Hid (LvS S b B w w3 (gA k1 n1 t1 q1 l1 c1) g ∧ DRp (numsOf S) σ g σ2 ∧ σ2.left S ≤ σ.left S ∧ b < w.heap.size) := ⟨hS0, HI.out.2⟩
      unfold rp at TK1
      clear hP3 hg3 hno hS0 HI
      have HI := HI2
      clear HI2
      simp only []
      go_wp2_with fail
      refine TK1.mono ?_
      rintro e w9 ⟨rfl, hP3, hg3⟩
      clear TK1
      cases ht : (σ2.dtake (numsOf S) (.sg 60)).2 with
      | true =>
        obtain ⟨q, hq, hsc⟩ : ∃ q, σ2 = .live q ∧ tkAt (numsOf S) q = (.sg 60) := by
          cases σ2 with
          | dead q => simp only [St.dtake] at ht; cases ht
          | live q =>
            simp only [St.dtake] at ht
            split at ht
            · rename_i h9; exact ⟨q, rfl, h9⟩
            · cases ht
        subst hq
        have htk : (St.dtake (numsOf S) (.sg 60) (.live q)).1 = norm (numsOf S) (nx (numsOf S) q) := by simp only [St.dtake, if_pos hsc]
        rw [htk] at hP3
        have hop : relk (tkAt (numsOf S) q) = some 12 := by rw [dop_rel]; rw [if_neg (HN0.out q rfl).2, if_pos hsc]
        have hnx : q < nx (numsOf S) q ∧ nx (numsOf S) q ≤ S.size := by
          have hqs : q ≤ (numsOf S).length := by
            have h8 : q ≤ nx (numsOf S) q := by unfold nx skip; omega
            have h9 : nx (numsOf S) q ≤ S.size := norm_le hP3
            rw [numsOf_len]; omega
          refine ⟨nx_lt hqs (fun e => ?_) (fun e => ?_), norm_le hP3⟩
          · rw [e] at hop; cases hop
          · rw [e] at hop; cases hop
        have HQ : Hid (DRp (numsOf S) σ g (.live q) ∧ (q < nx (numsOf S) q ∧ nx (numsOf S) q ≤ S.size) ∧ relk (tkAt (numsOf S) q) = some 12 ∧ S.size - q ≤ σ.left S ∧ b < w.heap.size) := ⟨HI.out.2.1, hnx, hop, HI.out.2.2.1, HI.out.2.2.2⟩
        have hS3 := HI.out.1.go HI.out.2.2.2 HLT.out hg3
        have HS3 : Hid (LvS S b B w w9 (gA k1 n1 t1 q1 l1 c1) g) := hS3
        obtain ⟨⟨x0, x1, x2, x3⟩, _, _, _, _⟩ := box_of2 hS3.hB
        have HLq : Hid (∀ w', w9.grownBy w' (some b) → DIn w' b S (norm (numsOf S) (nx (numsOf S) q)) → Calls Tryd.prog 39 #[rp b] w' fun e w'' => DGrP S (.lv .sums) (norm (numsOf S) (nx (numsOf S) q)) b w' e w'') := fun w' hg' hp' =>
          HC.out _ w' (by have := HE.out.2.1; have := HQ.out.2.2.2.1; have := HQ.out.2.1; have := norm_left S (nx (numsOf S) q); omega) hp'
        have HP3 : Hid (∀ w', Below w9.heap.size w9 w' → DIn w' b S (norm (numsOf S) (nx (numsOf S) q))) := fun w' hb => hP3.below hb
        have HKB : Hid (∀ w', w9.grownBy w' (some b) → (w'.cell? ⟨B, 0, none⟩ = some (.int .u8 (k1 : Int)) ∧ w'.cell? ⟨B, 1, none⟩ = some (.int .i64 n1) ∧ w'.cell? ⟨B, 2, none⟩ = some (.string t1) ∧ w'.cell? ⟨B, 3, none⟩ = some (.slice q1 l1 c1))) := fun w' hg' => box_of (HS3.out.go HQ.out.2.2.2.2 HLT.out hg').hB
        have HKR : Hid (∀ w', w9.grownBy w' (some b) → w'.heap[w.heap.size]? = some (.cells #[.int .u8 0, .int .i64 0, .string ⟨#[]⟩, .slice none 0 0] 24 (0, 0))) := fun w' hg' => (HS3.out.go HQ.out.2.2.2.2 HLT.out hg').hz
        have HPR : Hid (∀ (wa w5 : World) (k5 : Nat) (n5 : Int) (t5 : ByteArray) (q5 : Option Addr) (l5 c5 : Nat) (h : GB), w9.grownBy wa (some b) → wa.grownBy w5 (some b) → GIn w5 (fun i => wa.heap.size ≤ i) (gA k5 n5 t5 q5 l5 c5) h →
            Calls Tryd.prog 20 #[.int .u8 12, .agg (gA k1 n1 t1 q1 l1 c1), .agg (gA k5 n5 t5 q5 l5 c5)] w5 fun e w' => PrP (fun i => w.heap.size < i) (pair 12 g h) w5 e w') := fun wa w5 k5 n5 t5 q5 l5 c5 h hg4 hg5 hG5 => by
          have hS5 := HS3.out.go HQ.out.2.2.2.2 HLT.out (grown_trans hg4 hg5)
          have hB3 := heap_lt HS3.out.hB
          have hz4 := hg4.size
          have hz5 := hg5.size
          have hlt := HLT.out
          exact two_any 12 (by decide) _ g h k1 k5 n1 n5 t1 t5 q1 q5 l1 c1 l5 c5 w5 (hS5.hG.wk fun i hi => hi.1) (hG5.wk fun i hi => by omega) (fun i hi => by omega)
        clear hP3 hg3 htk hop hnx hS3 HI ht hsc HN0
        unfold rp at HLq
        unfold gA at HPR
        have G0 : w9.grownBy w9.drew (some b) := grown_below (Below.refl _ _).drew _
        have P0 := HP3.out _ (Below.refl w9.heap.size w9).drew
        simp only []
        go_upto_region 7 with fail
        go_region_with (first
            | (go_at_call 20; refine (HPR.out _ _ _ _ _ _ _ _ _ G0 hg5 hG5).mono ?_; rintro e w6 ⟨k6, n6, t6, q6, l6, c6, rfl, hG6, hb6⟩; have G2 := grown_trans G1 (grown_below hb6 (some b)); obtain ⟨⟨s0, s1, s2, s3⟩, f0, f1, f2, f3⟩ := row4_cells (HKR.out w6 G2); unfold gA)
            | (go_at_call 39; refine (HLq.out _ G0 P0).mono ?_; rintro e w5 ⟨k5, n5, t5, q5, l5, c5, h, σ5, rfl, hG5, hP5, hg5, hF5⟩; have G1 := grown_trans G0 hg5; obtain ⟨r0, r1, r2, r3⟩ := HKB.out w5 G1; unfold gA; unfold gA at hG5)
            | fail)
        all_goals
          have hS6 := HS3.out.go HQ.out.2.2.2.2 HLT.out G2
          have HFN := hS6.dends2 HQ.out.2.2.2.2 hG6 (hP5.below hb6) (drp_step HQ.out.1 HQ.out.2.1.1 HQ.out.2.2.1 hF5)
          have HFH : Hid (_ ∧ DGrP S .part σ b w _ _) := HFN
          clear G0 G1 G2 P0 hG5 hP5 hg5 hF5 hG6 hb6 hS6 HPR HLq HP3 HKB HKR HFN x0 x1 x2 x3 r0 r1 r2 r3
          go_wp2_with fail
          exact bodyPost_ret (results_cell_row rfl _ _ w.heap.size 24 (gA k6 n6 t6 q6 l6 c6) (0, 0) _ rfl HFH.out.1 Tryd.underlying24 rfl size_guard) rfl HFH.out.2
      | false =>
        have hno : ∀ q, σ2 = .live q → tkAt (numsOf S) q ≠ .non ∧ ¬ tkAt (numsOf S) q = (.sg 60) := by
          rintro q rfl
          refine ⟨(HP2.out.liv q rfl).1, fun h9 => ?_⟩
          simp only [St.dtake, if_pos h9] at ht; cases ht
        have hsame : (σ2.dtake (numsOf S) (.sg 60)).1 = σ2 := by
          cases σ2 with
          | dead q => rfl
          | live q => simp only [St.dtake, if_neg (hno q rfl).2]
        rw [hsame] at hP3
        clear hsame ht
        have hstop : ∀ q, σ2 = .live q → tkAt (numsOf S) q ≠ .non ∧ relk (tkAt (numsOf S) q) = none := fun q hq => ⟨(hno q hq).1, by rw [dop_rel, if_neg (HN0.out q hq).2, if_neg (hno q hq).2]⟩
        have hS3 := HI.out.1.go HI.out.2.2.2 HLT.out hg3
        have HFN := hS3.dends2 HI.out.2.2.2 (hS3.hG.wk fun i hi => hi.1) hP3 (drp_stop HI.out.2.1 hstop)
        have HFH : Hid (_ ∧ DGrP S .part σ b w _ _) := HFN
        obtain ⟨x0, x1, x2, x3⟩ := box_of hS3.hB
        have hz := hS3.hz
        unfold gz at hz
        obtain ⟨⟨z0, z1, z2, z3⟩, f0, f1, f2, f3⟩ := row4_cells hz
        clear HFN hS3 hz hP3 hg3 HI hstop hno HN0
        simp only []
        go_wp2_with fail
        exact bodyPost_ret (results_cell_row rfl _ _ w.heap.size 24 (gA k1 n1 t1 q1 l1 c1) (0, 0) _ rfl HFH.out.1 Tryd.underlying24 rfl size_guard) rfl HFH.out.2
end Go.Proofs.YtkcmidhpbaepoaaDoor.G
