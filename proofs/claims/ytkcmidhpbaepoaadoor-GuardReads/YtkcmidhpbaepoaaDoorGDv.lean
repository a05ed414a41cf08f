/-
  The document's levels: or, and, products. Written by tools/gen_gdv.py out of GLv.
-/
import Derived.Test.YtkcmidhpbaepoaaDoorGDf
namespace Go.Proofs.YtkcmidhpbaepoaaDoor.G
open Go.RowKit Go.WideShapes Go.Joins

set_option maxHeartbeats 4000000 in
set_option maxRecDepth 8000 in
theorem dguard_con (S : ByteArray) (b n : Nat) (CL : DCon 18 S (low .ors) b n) : DCon 10 S (.lv .ors) b n := by
  intro σ w hn hP
  have hE : b < w.heap.size := hP.lt
  have b0 := below_new w (.cells gz 24)
  have CL1 := CL σ _ hn (hP.below b0)
  have HE : Hid (b < w.heap.size ∧ σ.left S ≤ n ∧ S.size ≤ 16384) := ⟨hE, hn, hP.sz⟩
  have HC : Hid (DCon 18 S (low .ors) b n) := CL
  have HFI : Hid (∀ (w1 : World) (k : Nat) (n : Int) (t : ByteArray) (q : Option Addr) (l c : Nat) (g : GB), GIn w1 (fun i => (w.alloc (.cells gz 24)).heap.size ≤ i) (gA k n t q l c) g → (w.alloc (.cells gz 24)).grownBy w1 (some b) → LvS S b w1.heap.size w (w1.alloc (.cells (gA k n t q l c) 24)) (gA k n t q l c) g ∧ w.heap.size < w1.heap.size) := fun w1 k n t q l c g h1 h2 => LvS.first h1 h2 hE
  clear CL hn hE hP b0
  unfold gz gA at HFI
  unfold gz at CL1
  unfold rp at CL1 ⊢
  go_enter Tryd.func10, Tryd.ntmps10
  go_wp2_with fail
  refine CL1.mono ?_
  rintro e w1 ⟨k1, n1, t1, q1, l1, c1, g, σ1, rfl, hG, hP1, hg1, hF⟩
  obtain ⟨hS, hlt⟩ := HFI.out w1 k1 n1 t1 q1 l1 c1 g (by unfold gA at hG; exact hG) hg1
  have hP2 := hP1.below (below_new w1 (.cells (gA k1 n1 t1 q1 l1 c1) 24))
  have HS : Hid (LvS S b w1.heap.size w (w1.alloc (.cells (gA k1 n1 t1 q1 l1 c1) 24)) (gA k1 n1 t1 q1 l1 c1) g ∧ DIn (w1.alloc (.cells (gA k1 n1 t1 q1 l1 c1) 24)) b S σ1 ∧ DLp (numsOf S) .ors σ g σ1 ∧ σ1.left S ≤ σ.left S) := ⟨hS, hP2, dlp_start hF, hF.left⟩
  have HLT : Hid (w.heap.size < w1.heap.size) := hlt
  clear CL1 HFI hG hP1 hg1 hF hS hP2 hlt
  unfold gA
  unfold gA at HS
  simp only []
  go_wp2_with fail
  obtain ⟨B, hB⟩ : ∃ B, w1.heap.size = B := ⟨_, rfl⟩
  rw [hB] at HS HLT ⊢
  refine wp_at (fun W => LvS S b B w W _ g ∧ DIn W b S σ1) ⟨HS.out.1, HS.out.2.1⟩ (fun w2 H2 => ?_)
  have HL0 : Hid (DLp (numsOf S) .ors σ g σ1 ∧ σ1.left S ≤ σ.left S) := HS.out.2.2
  have H2H : Hid (LvS S b B w w2 _ g ∧ DIn w2 b S σ1) := H2
  clear HS hB H2
  go_loopg [] (σ1.meas S) (fun gk wr => DLvI S .ors σ b B w gk wr)
  case atStart => exact ⟨k1, n1, t1, q1, l1, c1, g, σ1, H2H.out.1.hB, H2H.out.1.hz, H2H.out.1.hG, H2H.out.2, H2H.out.1.hg, HL0.out.1, Nat.le_refl _, HL0.out.2⟩
  case round =>
    clear H2H HL0
    obtain ⟨k1, n1, t1, q1, l1, c1, g, σ2, hB, hz, hG, hP, hg, hl, hm, hle⟩ := hrel
    have HI : Hid (LvS S b B w wr (gA k1 n1 t1 q1 l1 c1) g ∧ DLp (numsOf S) .ors σ g σ2 ∧ σ2.meas S ≤ gk ∧ σ2.left S ≤ σ.left S ∧ b < w.heap.size) := ⟨⟨hB, hz, hG, hg⟩, hl, hm, hle, HE.out.1⟩
    have TK0 := is_any S b (.wd tkOr) (ask_wd rfl) ⟨#[111, 114]⟩ (by decide) σ2 wr hP
    have HP2 : Hid (DIn wr b S σ2) := hP
    clear hB hz hG hg hl hm hle hP
    unfold rp at TK0
    go_wp2_with fail
    refine TK0.mono ?_
    rintro e w3 ⟨rfl, hP3, hg3⟩
    cases ht : (σ2.dtake (numsOf S) (.wd tkOr)).2 with
    | true =>
      obtain ⟨q, hq, hsc⟩ : ∃ q, σ2 = .live q ∧ tkAt (numsOf S) q = (.wd tkOr) := by
        cases σ2 with
        | dead q => simp only [St.dtake] at ht; cases ht
        | live q =>
          simp only [St.dtake] at ht
          split at ht
          · rename_i h9; exact ⟨q, rfl, h9⟩
          · cases ht
      subst hq
      have htk : (St.dtake (numsOf S) (.wd tkOr) (.live q)).1 = norm (numsOf S) (nx (numsOf S) q) := by simp only [St.dtake, if_pos hsc]
      rw [htk] at hP3
      have hop : opk .ors (tkAt (numsOf S) q) = some 10 := by rw [dop_ors]; rw [if_pos hsc]
      have hnx : q < nx (numsOf S) q ∧ nx (numsOf S) q ≤ S.size := by
        have hqs : q ≤ (numsOf S).length := by
          have := norm_le hP3
          have h8 : q ≤ nx (numsOf S) q := by unfold nx skip; omega
          have h9 : nx (numsOf S) q ≤ S.size := this
          rw [numsOf_len]; omega
        refine ⟨nx_lt hqs (fun e => ?_) (fun e => ?_), norm_le hP3⟩
        · rw [e] at hop; cases hop
        · rw [e] at hop; cases hop
      have HQ : Hid (DLp (numsOf S) .ors σ g (.live q) ∧ (q < nx (numsOf S) q ∧ nx (numsOf S) q ≤ S.size) ∧ opk .ors (tkAt (numsOf S) q) = some 10 ∧ S.size - q + 2 ≤ gk ∧ S.size - q ≤ σ.left S ∧ b < w.heap.size) := ⟨HI.out.2.1, hnx, hop, HI.out.2.2.1, HI.out.2.2.2.1, HI.out.2.2.2.2⟩
      have hS3 := HI.out.1.go HI.out.2.2.2.2 HLT.out hg3
      have HS3 : Hid (LvS S b B w w3 (gA k1 n1 t1 q1 l1 c1) g) := hS3
      obtain ⟨⟨x0, x1, x2, x3⟩, y0, y1, y2, y3⟩ := box_of2 hS3.hB
      have HLq : Hid (∀ w', w3.grownBy w' (some b) → DIn w' b S (norm (numsOf S) (nx (numsOf S) q)) → Calls Tryd.prog 18 #[rp b] w' fun e w'' => DGrP S (low .ors) (norm (numsOf S) (nx (numsOf S) q)) b w' e w'') := fun w' hg' hp' =>
        HC.out _ w' (by have := HE.out.2.1; have := HQ.out.2.2.2.2.1; have := HQ.out.2.1; have := norm_left S (nx (numsOf S) q); omega) hp'
      have HP3 : Hid (∀ w', Below w3.heap.size w3 w' → DIn w' b S (norm (numsOf S) (nx (numsOf S) q))) := fun w' hb => hP3.below hb
      have HKB : Hid (∀ w', w3.grownBy w' (some b) → (w'.cell? ⟨B, 0, none⟩ = some (.int .u8 (k1 : Int)) ∧ w'.cell? ⟨B, 1, none⟩ = some (.int .i64 n1) ∧ w'.cell? ⟨B, 2, none⟩ = some (.string t1) ∧ w'.cell? ⟨B, 3, none⟩ = some (.slice q1 l1 c1)) ∧ w'.frozen? ⟨B, 0, none⟩ = false ∧ w'.frozen? ⟨B, 1, none⟩ = false ∧ w'.frozen? ⟨B, 2, none⟩ = false ∧ w'.frozen? ⟨B, 3, none⟩ = false) := fun w' hg' => box_of2 (HS3.out.go HQ.out.2.2.2.2.2 HLT.out hg').hB
      have HPR : Hid (∀ (w4 w5 : World) (k5 : Nat) (n5 : Int) (t5 : ByteArray) (q5 : Option Addr) (l5 c5 : Nat) (h : GB), w3.grownBy w4 (some b) → w4.grownBy w5 (some b) → GIn w5 (fun i => w4.heap.size ≤ i) (gA k5 n5 t5 q5 l5 c5) h →
          Calls Tryd.prog 20 #[.int .u8 10, .agg (gA k1 n1 t1 q1 l1 c1), .agg (gA k5 n5 t5 q5 l5 c5)] w5 fun e w' => PrP (fun i => w.heap.size < i ∧ i ≠ B) (pair 10 g h) w5 e w') := fun w4 w5 k5 n5 t5 q5 l5 c5 h hg4 hg5 hG5 => by
        have hS5 := HS3.out.go HQ.out.2.2.2.2.2 HLT.out (grown_trans hg4 hg5)
        have hB3 := heap_lt HS3.out.hB
        have hz4 := hg4.size
        have hz5 := hg5.size
        have hlt := HLT.out
        exact two_any 10 (by decide) _ g h k1 k5 n1 n5 t1 t5 q1 q5 l1 c1 l5 c5 w5 hS5.hG (hG5.wk fun i hi => by omega) (fun i hi => by omega)
      clear hP3 hg3 htk hop hnx hS3 HI ht hsc TK0
      unfold rp at HLq
      unfold gA at HPR
      have G0 : w3.grownBy w3.drew (some b) := grown_below (Below.refl _ _).drew _
      have P0 := HP3.out _ (Below.refl w3.heap.size w3).drew
      simp only []
      go_upto_region 3 with fail
      go_region_with (first
          | (go_at_call 20; refine (HPR.out _ _ _ _ _ _ _ _ _ G0 hg5 hG5).mono ?_; rintro e w6 ⟨k6, n6, t6, q6, l6, c6, rfl, hG6, hb6⟩; have G2 := grown_trans G1 (grown_below hb6 (some b)); obtain ⟨⟨s0, s1, s2, s3⟩, f0, f1, f2, f3⟩ := HKB.out w6 G2; unfold gA)
          | (go_at_call 18; refine (HLq.out _ G0 P0).mono ?_; rintro e w5 ⟨k5, n5, t5, q5, l5, c5, h, σ5, rfl, hG5, hP5, hg5, hF5⟩; have G1 := grown_trans G0 hg5; obtain ⟨⟨r0, r1, r2, r3⟩, _, _, _, _⟩ := HKB.out w5 G1; unfold gA; unfold gA at hG5)
          | fail)
      all_goals
        have hS6 := HS3.out.go HQ.out.2.2.2.2.2 HLT.out G2
        have HN : Hid (LvS S b B w w6 (gA k1 n1 t1 q1 l1 c1) g ∧ GIn w6 (fun i => w.heap.size < i ∧ i ≠ B) (gA k6 n6 t6 q6 l6 c6) (pair 10 g h) ∧ DIn w6 b S σ5 ∧ DLp (numsOf S) .ors σ (pair 10 g h) σ5 ∧ σ5.left S ≤ S.size - nx (numsOf S) q ∧ σ5.meas S + 1 ≤ gk) := ⟨hS6, hG6, hP5.below hb6, dlp_step HQ.out.1 HQ.out.2.1.1 HQ.out.2.2.1 hF5, Nat.le_trans hF5.left (norm_left S _), by
          have h1 := hF5.left
          have h2 := HQ.out.2.1
          have h3 := HQ.out.2.2.2.1
          have h4 := norm_left S (nx (numsOf S) q)
          have h5 : σ5.meas S ≤ σ5.left S + 2 := by cases σ5 <;> simp [St.meas, St.left]
          omega⟩
        clear G0 G1 G2 P0 hG5 hP5 hg5 hF5 hG6 hb6 hS6 HPR HLq HP3 HKB x0 x1 x2 x3 y0 y1 y2 y3 r0 r1 r2 r3
        go_wp2_with fail
        go_roundg (gk - 1)
        case measure => have := HN.out.2.2.2.2.2; omega
        case rel =>
          have hN := HN.out
          have h1 := hN.1
          unfold gA at h1
          have hp := h1.put HLT.out hN.2.1
          exact ⟨k6, n6, t6, q6, l6, c6, pair 10 g h, σ5, hp.hB, hp.hz, hp.hG, hN.2.2.1.aside (set4_grown _ _ _ _ _ _) (by have := HQ.out.2.2.2.2.2; have := HLT.out; omega), hp.hg, hN.2.2.2.1, by have := hN.2.2.2.2.2; omega, by have := hN.2.2.2.2.1; have := HQ.out.2.1; have := HQ.out.2.2.2.2.1; omega⟩
    | false =>
      have hno : ∀ q, σ2 = .live q → tkAt (numsOf S) q ≠ .non ∧ ¬ tkAt (numsOf S) q = (.wd tkOr) := by
        rintro q rfl
        refine ⟨(HP2.out.liv q rfl).1, fun h9 => ?_⟩
        simp only [St.dtake, if_pos h9] at ht; cases ht
      have hsame : (σ2.dtake (numsOf S) (.wd tkOr)).1 = σ2 := by
        cases σ2 with
        | dead q => rfl
        | live q => simp only [St.dtake, if_neg (hno q rfl).2]
      rw [hsame] at hP3
      clear hsame ht
      have hS3 := HI.out.1.go HI.out.2.2.2.2 HLT.out hg3
      have hstop : ∀ q, σ2 = .live q → tkAt (numsOf S) q ≠ .non ∧ opk .ors (tkAt (numsOf S) q) = none := fun q hq => ⟨(hno q hq).1, by rw [dop_ors, if_neg (hno q hq).2]⟩
      clear hno
      have HFN := hS3.dends HI.out.2.2.2.2 hP3 (dlp_stop HI.out.2.1 hstop)
      have HFH : Hid (_ ∧ DGrP S (.lv .ors) σ b w _ _) := HFN
      obtain ⟨x0, x1, x2, x3⟩ := box_of hS3.hB
      have hz := hS3.hz
      unfold gz at hz
      obtain ⟨⟨z0, z1, z2, z3⟩, f0, f1, f2, f3⟩ := row4_cells hz
      clear HFN hS3 hz hP3 hg3 HI hstop TK0
      simp only []
      go_wp2_with fail
      exact bodyPost_ret (results_cell_row rfl _ _ w.heap.size 24 (gA k1 n1 t1 q1 l1 c1) (0, 0) _ rfl HFH.out.1 Tryd.underlying24 rfl size_guard) rfl HFH.out.2
set_option maxHeartbeats 4000000 in
set_option maxRecDepth 8000 in
theorem dside_con (S : ByteArray) (b n : Nat) (CL : DCon 30 S (low .ands) b n) : DCon 18 S (.lv .ands) b n := by
  intro σ w hn hP
  have hE : b < w.heap.size := hP.lt
  have b0 := below_new w (.cells gz 24)
  have CL1 := CL σ _ hn (hP.below b0)
  have HE : Hid (b < w.heap.size ∧ σ.left S ≤ n ∧ S.size ≤ 16384) := ⟨hE, hn, hP.sz⟩
  have HC : Hid (DCon 30 S (low .ands) b n) := CL
  have HFI : Hid (∀ (w1 : World) (k : Nat) (n : Int) (t : ByteArray) (q : Option Addr) (l c : Nat) (g : GB), GIn w1 (fun i => (w.alloc (.cells gz 24)).heap.size ≤ i) (gA k n t q l c) g → (w.alloc (.cells gz 24)).grownBy w1 (some b) → LvS S b w1.heap.size w (w1.alloc (.cells (gA k n t q l c) 24)) (gA k n t q l c) g ∧ w.heap.size < w1.heap.size) := fun w1 k n t q l c g h1 h2 => LvS.first h1 h2 hE
  clear CL hn hE hP b0
  unfold gz gA at HFI
  unfold gz at CL1
  unfold rp at CL1 ⊢
  go_enter Tryd.func18, Tryd.ntmps18
  go_wp2_with fail
  refine CL1.mono ?_
  rintro e w1 ⟨k1, n1, t1, q1, l1, c1, g, σ1, rfl, hG, hP1, hg1, hF⟩
  obtain ⟨hS, hlt⟩ := HFI.out w1 k1 n1 t1 q1 l1 c1 g (by unfold gA at hG; exact hG) hg1
  have hP2 := hP1.below (below_new w1 (.cells (gA k1 n1 t1 q1 l1 c1) 24))
  have HS : Hid (LvS S b w1.heap.size w (w1.alloc (.cells (gA k1 n1 t1 q1 l1 c1) 24)) (gA k1 n1 t1 q1 l1 c1) g ∧ DIn (w1.alloc (.cells (gA k1 n1 t1 q1 l1 c1) 24)) b S σ1 ∧ DLp (numsOf S) .ands σ g σ1 ∧ σ1.left S ≤ σ.left S) := ⟨hS, hP2, dlp_start hF, hF.left⟩
  have HLT : Hid (w.heap.size < w1.heap.size) := hlt
  clear CL1 HFI hG hP1 hg1 hF hS hP2 hlt
  unfold gA
  unfold gA at HS
  simp only []
  go_wp2_with fail
  obtain ⟨B, hB⟩ : ∃ B, w1.heap.size = B := ⟨_, rfl⟩
  rw [hB] at HS HLT ⊢
  refine wp_at (fun W => LvS S b B w W _ g ∧ DIn W b S σ1) ⟨HS.out.1, HS.out.2.1⟩ (fun w2 H2 => ?_)
  have HL0 : Hid (DLp (numsOf S) .ands σ g σ1 ∧ σ1.left S ≤ σ.left S) := HS.out.2.2
  have H2H : Hid (LvS S b B w w2 _ g ∧ DIn w2 b S σ1) := H2
  clear HS hB H2
  go_loopg [] (σ1.meas S) (fun gk wr => DLvI S .ands σ b B w gk wr)
  case atStart => exact ⟨k1, n1, t1, q1, l1, c1, g, σ1, H2H.out.1.hB, H2H.out.1.hz, H2H.out.1.hG, H2H.out.2, H2H.out.1.hg, HL0.out.1, Nat.le_refl _, HL0.out.2⟩
  case round =>
    clear H2H HL0
    obtain ⟨k1, n1, t1, q1, l1, c1, g, σ2, hB, hz, hG, hP, hg, hl, hm, hle⟩ := hrel
    have HI : Hid (LvS S b B w wr (gA k1 n1 t1 q1 l1 c1) g ∧ DLp (numsOf S) .ands σ g σ2 ∧ σ2.meas S ≤ gk ∧ σ2.left S ≤ σ.left S ∧ b < w.heap.size) := ⟨⟨hB, hz, hG, hg⟩, hl, hm, hle, HE.out.1⟩
    have TK0 := is_any S b (.wd tkAnd) (ask_wd rfl) ⟨#[97, 110, 100]⟩ (by decide) σ2 wr hP
    have HP2 : Hid (DIn wr b S σ2) := hP
    clear hB hz hG hg hl hm hle hP
    unfold rp at TK0
    go_wp2_with fail
    refine TK0.mono ?_
    rintro e w3 ⟨rfl, hP3, hg3⟩
    cases ht : (σ2.dtake (numsOf S) (.wd tkAnd)).2 with
    | true =>
      obtain ⟨q, hq, hsc⟩ : ∃ q, σ2 = .live q ∧ tkAt (numsOf S) q = (.wd tkAnd) := by
        cases σ2 with
        | dead q => simp only [St.dtake] at ht; cases ht
        | live q =>
          simp only [St.dtake] at ht
          split at ht
          · rename_i h9; exact ⟨q, rfl, h9⟩
          · cases ht
      subst hq
      have htk : (St.dtake (numsOf S) (.wd tkAnd) (.live q)).1 = norm (numsOf S) (nx (numsOf S) q) := by simp only [St.dtake, if_pos hsc]
      rw [htk] at hP3
      have hop : opk .ands (tkAt (numsOf S) q) = some 9 := by rw [dop_ands]; rw [if_pos hsc]
      have hnx : q < nx (numsOf S) q ∧ nx (numsOf S) q ≤ S.size := by
        have hqs : q ≤ (numsOf S).length := by
          have := norm_le hP3
          have h8 : q ≤ nx (numsOf S) q := by unfold nx skip; omega
          have h9 : nx (numsOf S) q ≤ S.size := this
          rw [numsOf_len]; omega
        refine ⟨nx_lt hqs (fun e => ?_) (fun e => ?_), norm_le hP3⟩
        · rw [e] at hop; cases hop
        · rw [e] at hop; cases hop
      have HQ : Hid (DLp (numsOf S) .ands σ g (.live q) ∧ (q < nx (numsOf S) q ∧ nx (numsOf S) q ≤ S.size) ∧ opk .ands (tkAt (numsOf S) q) = some 9 ∧ S.size - q + 2 ≤ gk ∧ S.size - q ≤ σ.left S ∧ b < w.heap.size) := ⟨HI.out.2.1, hnx, hop, HI.out.2.2.1, HI.out.2.2.2.1, HI.out.2.2.2.2⟩
      have hS3 := HI.out.1.go HI.out.2.2.2.2 HLT.out hg3
      have HS3 : Hid (LvS S b B w w3 (gA k1 n1 t1 q1 l1 c1) g) := hS3
      obtain ⟨⟨x0, x1, x2, x3⟩, y0, y1, y2, y3⟩ := box_of2 hS3.hB
      have HLq : Hid (∀ w', w3.grownBy w' (some b) → DIn w' b S (norm (numsOf S) (nx (numsOf S) q)) → Calls Tryd.prog 30 #[rp b] w' fun e w'' => DGrP S (low .ands) (norm (numsOf S) (nx (numsOf S) q)) b w' e w'') := fun w' hg' hp' =>
        HC.out _ w' (by have := HE.out.2.1; have := HQ.out.2.2.2.2.1; have := HQ.out.2.1; have := norm_left S (nx (numsOf S) q); omega) hp'
      have HP3 : Hid (∀ w', Below w3.heap.size w3 w' → DIn w' b S (norm (numsOf S) (nx (numsOf S) q))) := fun w' hb => hP3.below hb
      have HKB : Hid (∀ w', w3.grownBy w' (some b) → (w'.cell? ⟨B, 0, none⟩ = some (.int .u8 (k1 : Int)) ∧ w'.cell? ⟨B, 1, none⟩ = some (.int .i64 n1) ∧ w'.cell? ⟨B, 2, none⟩ = some (.string t1) ∧ w'.cell? ⟨B, 3, none⟩ = some (.slice q1 l1 c1)) ∧ w'.frozen? ⟨B, 0, none⟩ = false ∧ w'.frozen? ⟨B, 1, none⟩ = false ∧ w'.frozen? ⟨B, 2, none⟩ = false ∧ w'.frozen? ⟨B, 3, none⟩ = false) := fun w' hg' => box_of2 (HS3.out.go HQ.out.2.2.2.2.2 HLT.out hg').hB
      have HPR : Hid (∀ (w4 w5 : World) (k5 : Nat) (n5 : Int) (t5 : ByteArray) (q5 : Option Addr) (l5 c5 : Nat) (h : GB), w3.grownBy w4 (some b) → w4.grownBy w5 (some b) → GIn w5 (fun i => w4.heap.size ≤ i) (gA k5 n5 t5 q5 l5 c5) h →
          Calls Tryd.prog 20 #[.int .u8 9, .agg (gA k1 n1 t1 q1 l1 c1), .agg (gA k5 n5 t5 q5 l5 c5)] w5 fun e w' => PrP (fun i => w.heap.size < i ∧ i ≠ B) (pair 9 g h) w5 e w') := fun w4 w5 k5 n5 t5 q5 l5 c5 h hg4 hg5 hG5 => by
        have hS5 := HS3.out.go HQ.out.2.2.2.2.2 HLT.out (grown_trans hg4 hg5)
        have hB3 := heap_lt HS3.out.hB
        have hz4 := hg4.size
        have hz5 := hg5.size
        have hlt := HLT.out
        exact two_any 9 (by decide) _ g h k1 k5 n1 n5 t1 t5 q1 q5 l1 c1 l5 c5 w5 hS5.hG (hG5.wk fun i hi => by omega) (fun i hi => by omega)
      clear hP3 hg3 htk hop hnx hS3 HI ht hsc TK0
      unfold rp at HLq
      unfold gA at HPR
      have G0 : w3.grownBy w3.drew (some b) := grown_below (Below.refl _ _).drew _
      have P0 := HP3.out _ (Below.refl w3.heap.size w3).drew
      simp only []
      go_upto_region 3 with fail
      go_region_with (first
          | (go_at_call 20; refine (HPR.out _ _ _ _ _ _ _ _ _ G0 hg5 hG5).mono ?_; rintro e w6 ⟨k6, n6, t6, q6, l6, c6, rfl, hG6, hb6⟩; have G2 := grown_trans G1 (grown_below hb6 (some b)); obtain ⟨⟨s0, s1, s2, s3⟩, f0, f1, f2, f3⟩ := HKB.out w6 G2; unfold gA)
          | (go_at_call 30; refine (HLq.out _ G0 P0).mono ?_; rintro e w5 ⟨k5, n5, t5, q5, l5, c5, h, σ5, rfl, hG5, hP5, hg5, hF5⟩; have G1 := grown_trans G0 hg5; obtain ⟨⟨r0, r1, r2, r3⟩, _, _, _, _⟩ := HKB.out w5 G1; unfold gA; unfold gA at hG5)
          | fail)
      all_goals
        have hS6 := HS3.out.go HQ.out.2.2.2.2.2 HLT.out G2
        have HN : Hid (LvS S b B w w6 (gA k1 n1 t1 q1 l1 c1) g ∧ GIn w6 (fun i => w.heap.size < i ∧ i ≠ B) (gA k6 n6 t6 q6 l6 c6) (pair 9 g h) ∧ DIn w6 b S σ5 ∧ DLp (numsOf S) .ands σ (pair 9 g h) σ5 ∧ σ5.left S ≤ S.size - nx (numsOf S) q ∧ σ5.meas S + 1 ≤ gk) := ⟨hS6, hG6, hP5.below hb6, dlp_step HQ.out.1 HQ.out.2.1.1 HQ.out.2.2.1 hF5, Nat.le_trans hF5.left (norm_left S _), by
          have h1 := hF5.left
          have h2 := HQ.out.2.1
          have h3 := HQ.out.2.2.2.1
          have h4 := norm_left S (nx (numsOf S) q)
          have h5 : σ5.meas S ≤ σ5.left S + 2 := by cases σ5 <;> simp [St.meas, St.left]
          omega⟩
        clear G0 G1 G2 P0 hG5 hP5 hg5 hF5 hG6 hb6 hS6 HPR HLq HP3 HKB x0 x1 x2 x3 y0 y1 y2 y3 r0 r1 r2 r3
        go_wp2_with fail
        go_roundg (gk - 1)
        case measure => have := HN.out.2.2.2.2.2; omega
        case rel =>
          have hN := HN.out
          have h1 := hN.1
          unfold gA at h1
          have hp := h1.put HLT.out hN.2.1
          exact ⟨k6, n6, t6, q6, l6, c6, pair 9 g h, σ5, hp.hB, hp.hz, hp.hG, hN.2.2.1.aside (set4_grown _ _ _ _ _ _) (by have := HQ.out.2.2.2.2.2; have := HLT.out; omega), hp.hg, hN.2.2.2.1, by have := hN.2.2.2.2.2; omega, by have := hN.2.2.2.2.1; have := HQ.out.2.1; have := HQ.out.2.2.2.2.1; omega⟩
    | false =>
      have hno : ∀ q, σ2 = .live q → tkAt (numsOf S) q ≠ .non ∧ ¬ tkAt (numsOf S) q = (.wd tkAnd) := by
        rintro q rfl
        refine ⟨(HP2.out.liv q rfl).1, fun h9 => ?_⟩
        simp only [St.dtake, if_pos h9] at ht; cases ht
      have hsame : (σ2.dtake (numsOf S) (.wd tkAnd)).1 = σ2 := by
        cases σ2 with
        | dead q => rfl
        | live q => simp only [St.dtake, if_neg (hno q rfl).2]
      rw [hsame] at hP3
      clear hsame ht
      have hS3 := HI.out.1.go HI.out.2.2.2.2 HLT.out hg3
      have hstop : ∀ q, σ2 = .live q → tkAt (numsOf S) q ≠ .non ∧ opk .ands (tkAt (numsOf S) q) = none := fun q hq => ⟨(hno q hq).1, by rw [dop_ands, if_neg (hno q hq).2]⟩
      clear hno
      have HFN := hS3.dends HI.out.2.2.2.2 hP3 (dlp_stop HI.out.2.1 hstop)
      have HFH : Hid (_ ∧ DGrP S (.lv .ands) σ b w _ _) := HFN
      obtain ⟨x0, x1, x2, x3⟩ := box_of hS3.hB
      have hz := hS3.hz
      unfold gz at hz
      obtain ⟨⟨z0, z1, z2, z3⟩, f0, f1, f2, f3⟩ := row4_cells hz
      clear HFN hS3 hz hP3 hg3 HI hstop TK0
      simp only []
      go_wp2_with fail
      exact bodyPost_ret (results_cell_row rfl _ _ w.heap.size 24 (gA k1 n1 t1 q1 l1 c1) (0, 0) _ rfl HFH.out.1 Tryd.underlying24 rfl size_guard) rfl HFH.out.2
set_option maxHeartbeats 4000000 in
set_option maxRecDepth 8000 in
theorem dproduct_con (S : ByteArray) (b n : Nat) (CL : DCon 52 S (low .prods) b n) : DCon 46 S (.lv .prods) b n := by
  intro σ w hn hP
  have hE : b < w.heap.size := hP.lt
  have b0 := below_new w (.cells gz 24)
  have CL1 := CL σ _ hn (hP.below b0)
  have HE : Hid (b < w.heap.size ∧ σ.left S ≤ n ∧ S.size ≤ 16384) := ⟨hE, hn, hP.sz⟩
  have HC : Hid (DCon 52 S (low .prods) b n) := CL
  have HFI : Hid (∀ (w1 : World) (k : Nat) (n : Int) (t : ByteArray) (q : Option Addr) (l c : Nat) (g : GB), GIn w1 (fun i => (w.alloc (.cells gz 24)).heap.size ≤ i) (gA k n t q l c) g → (w.alloc (.cells gz 24)).grownBy w1 (some b) → LvS S b w1.heap.size w (w1.alloc (.cells (gA k n t q l c) 24)) (gA k n t q l c) g ∧ w.heap.size < w1.heap.size) := fun w1 k n t q l c g h1 h2 => LvS.first h1 h2 hE
  clear CL hn hE hP b0
  unfold gz gA at HFI
  unfold gz at CL1
  unfold rp at CL1 ⊢
  go_enter Tryd.func46, Tryd.ntmps46
  go_wp2_with fail
  refine CL1.mono ?_
  rintro e w1 ⟨k1, n1, t1, q1, l1, c1, g, σ1, rfl, hG, hP1, hg1, hF⟩
  obtain ⟨hS, hlt⟩ := HFI.out w1 k1 n1 t1 q1 l1 c1 g (by unfold gA at hG; exact hG) hg1
  have hP2 := hP1.below (below_new w1 (.cells (gA k1 n1 t1 q1 l1 c1) 24))
  have HS : Hid (LvS S b w1.heap.size w (w1.alloc (.cells (gA k1 n1 t1 q1 l1 c1) 24)) (gA k1 n1 t1 q1 l1 c1) g ∧ DIn (w1.alloc (.cells (gA k1 n1 t1 q1 l1 c1) 24)) b S σ1 ∧ DLp (numsOf S) .prods σ g σ1 ∧ σ1.left S ≤ σ.left S) := ⟨hS, hP2, dlp_start hF, hF.left⟩
  have HLT : Hid (w.heap.size < w1.heap.size) := hlt
  clear CL1 HFI hG hP1 hg1 hF hS hP2 hlt
  unfold gA
  unfold gA at HS
  simp only []
  go_wp2_with fail
  obtain ⟨B, hB⟩ : ∃ B, w1.heap.size = B := ⟨_, rfl⟩
  rw [hB] at HS HLT ⊢
  refine wp_at (fun W => LvS S b B w W _ g ∧ DIn W b S σ1) ⟨HS.out.1, HS.out.2.1⟩ (fun w2 H2 => ?_)
  have HL0 : Hid (DLp (numsOf S) .prods σ g σ1 ∧ σ1.left S ≤ σ.left S) := HS.out.2.2
  have H2H : Hid (LvS S b B w w2 _ g ∧ DIn w2 b S σ1) := H2
  clear HS hB H2
  go_loopg [] (σ1.meas S) (fun gk wr => DLvI S .prods σ b B w gk wr)
  case atStart => exact ⟨k1, n1, t1, q1, l1, c1, g, σ1, H2H.out.1.hB, H2H.out.1.hz, H2H.out.1.hG, H2H.out.2, H2H.out.1.hg, HL0.out.1, Nat.le_refl _, HL0.out.2⟩
  case round =>
    clear H2H HL0
    obtain ⟨k1, n1, t1, q1, l1, c1, g, σ2, hB, hz, hG, hP, hg, hl, hm, hle⟩ := hrel
    have HI : Hid (LvS S b B w wr (gA k1 n1 t1 q1 l1 c1) g ∧ DLp (numsOf S) .prods σ g σ2 ∧ σ2.meas S ≤ gk ∧ σ2.left S ≤ σ.left S ∧ b < w.heap.size) := ⟨⟨hB, hz, hG, hg⟩, hl, hm, hle, HE.out.1⟩
    have TK0 := is_any S b (.sg 42) (ask_sg rfl) ⟨#[42]⟩ (by decide) σ2 wr hP
    have HP2 : Hid (DIn wr b S σ2) := hP
    clear hB hz hG hg hl hm hle hP
    unfold rp at TK0
    go_wp2_with fail
    refine TK0.mono ?_
    rintro e w3 ⟨rfl, hP3, hg3⟩
    cases ht : (σ2.dtake (numsOf S) (.sg 42)).2 with
    | true =>
      obtain ⟨q, hq, hsc⟩ : ∃ q, σ2 = .live q ∧ tkAt (numsOf S) q = (.sg 42) := by
        cases σ2 with
        | dead q => simp only [St.dtake] at ht; cases ht
        | live q =>
          simp only [St.dtake] at ht
          split at ht
          · rename_i h9; exact ⟨q, rfl, h9⟩
          · cases ht
      subst hq
      have htk : (St.dtake (numsOf S) (.sg 42) (.live q)).1 = norm (numsOf S) (nx (numsOf S) q) := by simp only [St.dtake, if_pos hsc]
      rw [htk] at hP3
      have hop : opk .prods (tkAt (numsOf S) q) = some 15 := by rw [dop_prods]; rw [if_pos hsc]
      have hnx : q < nx (numsOf S) q ∧ nx (numsOf S) q ≤ S.size := by
        have hqs : q ≤ (numsOf S).length := by
          have := norm_le hP3
          have h8 : q ≤ nx (numsOf S) q := by unfold nx skip; omega
          have h9 : nx (numsOf S) q ≤ S.size := this
          rw [numsOf_len]; omega
        refine ⟨nx_lt hqs (fun e => ?_) (fun e => ?_), norm_le hP3⟩
        · rw [e] at hop; cases hop
        · rw [e] at hop; cases hop
      have HQ : Hid (DLp (numsOf S) .prods σ g (.live q) ∧ (q < nx (numsOf S) q ∧ nx (numsOf S) q ≤ S.size) ∧ opk .prods (tkAt (numsOf S) q) = some 15 ∧ S.size - q + 2 ≤ gk ∧ S.size - q ≤ σ.left S ∧ b < w.heap.size) := ⟨HI.out.2.1, hnx, hop, HI.out.2.2.1, HI.out.2.2.2.1, HI.out.2.2.2.2⟩
      have hS3 := HI.out.1.go HI.out.2.2.2.2 HLT.out hg3
      have HS3 : Hid (LvS S b B w w3 (gA k1 n1 t1 q1 l1 c1) g) := hS3
      obtain ⟨⟨x0, x1, x2, x3⟩, y0, y1, y2, y3⟩ := box_of2 hS3.hB
      have HLq : Hid (∀ w', w3.grownBy w' (some b) → DIn w' b S (norm (numsOf S) (nx (numsOf S) q)) → Calls Tryd.prog 52 #[rp b] w' fun e w'' => DGrP S (low .prods) (norm (numsOf S) (nx (numsOf S) q)) b w' e w'') := fun w' hg' hp' =>
        HC.out _ w' (by have := HE.out.2.1; have := HQ.out.2.2.2.2.1; have := HQ.out.2.1; have := norm_left S (nx (numsOf S) q); omega) hp'
      have HP3 : Hid (∀ w', Below w3.heap.size w3 w' → DIn w' b S (norm (numsOf S) (nx (numsOf S) q))) := fun w' hb => hP3.below hb
      have HKB : Hid (∀ w', w3.grownBy w' (some b) → (w'.cell? ⟨B, 0, none⟩ = some (.int .u8 (k1 : Int)) ∧ w'.cell? ⟨B, 1, none⟩ = some (.int .i64 n1) ∧ w'.cell? ⟨B, 2, none⟩ = some (.string t1) ∧ w'.cell? ⟨B, 3, none⟩ = some (.slice q1 l1 c1)) ∧ w'.frozen? ⟨B, 0, none⟩ = false ∧ w'.frozen? ⟨B, 1, none⟩ = false ∧ w'.frozen? ⟨B, 2, none⟩ = false ∧ w'.frozen? ⟨B, 3, none⟩ = false) := fun w' hg' => box_of2 (HS3.out.go HQ.out.2.2.2.2.2 HLT.out hg').hB
      have HPR : Hid (∀ (w4 w5 : World) (k5 : Nat) (n5 : Int) (t5 : ByteArray) (q5 : Option Addr) (l5 c5 : Nat) (h : GB), w3.grownBy w4 (some b) → w4.grownBy w5 (some b) → GIn w5 (fun i => w4.heap.size ≤ i) (gA k5 n5 t5 q5 l5 c5) h →
          Calls Tryd.prog 20 #[.int .u8 15, .agg (gA k1 n1 t1 q1 l1 c1), .agg (gA k5 n5 t5 q5 l5 c5)] w5 fun e w' => PrP (fun i => w.heap.size < i ∧ i ≠ B) (pair 15 g h) w5 e w') := fun w4 w5 k5 n5 t5 q5 l5 c5 h hg4 hg5 hG5 => by
        have hS5 := HS3.out.go HQ.out.2.2.2.2.2 HLT.out (grown_trans hg4 hg5)
        have hB3 := heap_lt HS3.out.hB
        have hz4 := hg4.size
        have hz5 := hg5.size
        have hlt := HLT.out
        exact two_any 15 (by decide) _ g h k1 k5 n1 n5 t1 t5 q1 q5 l1 c1 l5 c5 w5 hS5.hG (hG5.wk fun i hi => by omega) (fun i hi => by omega)
      clear hP3 hg3 htk hop hnx hS3 HI ht hsc TK0
      unfold rp at HLq
      unfold gA at HPR
      have G0 : w3.grownBy w3.drew (some b) := grown_below (Below.refl _ _).drew _
      have P0 := HP3.out _ (Below.refl w3.heap.size w3).drew
      simp only []
      go_upto_region 3 with fail
      go_region_with (first
          | (go_at_call 20; refine (HPR.out _ _ _ _ _ _ _ _ _ G0 hg5 hG5).mono ?_; rintro e w6 ⟨k6, n6, t6, q6, l6, c6, rfl, hG6, hb6⟩; have G2 := grown_trans G1 (grown_below hb6 (some b)); obtain ⟨⟨s0, s1, s2, s3⟩, f0, f1, f2, f3⟩ := HKB.out w6 G2; unfold gA)
          | (go_at_call 52; refine (HLq.out _ G0 P0).mono ?_; rintro e w5 ⟨k5, n5, t5, q5, l5, c5, h, σ5, rfl, hG5, hP5, hg5, hF5⟩; have G1 := grown_trans G0 hg5; obtain ⟨⟨r0, r1, r2, r3⟩, _, _, _, _⟩ := HKB.out w5 G1; unfold gA; unfold gA at hG5)
          | fail)
      all_goals
        have hS6 := HS3.out.go HQ.out.2.2.2.2.2 HLT.out G2
        have HN : Hid (LvS S b B w w6 (gA k1 n1 t1 q1 l1 c1) g ∧ GIn w6 (fun i => w.heap.size < i ∧ i ≠ B) (gA k6 n6 t6 q6 l6 c6) (pair 15 g h) ∧ DIn w6 b S σ5 ∧ DLp (numsOf S) .prods σ (pair 15 g h) σ5 ∧ σ5.left S ≤ S.size - nx (numsOf S) q ∧ σ5.meas S + 1 ≤ gk) := ⟨hS6, hG6, hP5.below hb6, dlp_step HQ.out.1 HQ.out.2.1.1 HQ.out.2.2.1 hF5, Nat.le_trans hF5.left (norm_left S _), by
          have h1 := hF5.left
          have h2 := HQ.out.2.1
          have h3 := HQ.out.2.2.2.1
          have h4 := norm_left S (nx (numsOf S) q)
          have h5 : σ5.meas S ≤ σ5.left S + 2 := by cases σ5 <;> simp [St.meas, St.left]
          omega⟩
        clear G0 G1 G2 P0 hG5 hP5 hg5 hF5 hG6 hb6 hS6 HPR HLq HP3 HKB x0 x1 x2 x3 y0 y1 y2 y3 r0 r1 r2 r3
        go_wp2_with fail
        go_roundg (gk - 1)
        case measure => have := HN.out.2.2.2.2.2; omega
        case rel =>
          have hN := HN.out
          have h1 := hN.1
          unfold gA at h1
          have hp := h1.put HLT.out hN.2.1
          exact ⟨k6, n6, t6, q6, l6, c6, pair 15 g h, σ5, hp.hB, hp.hz, hp.hG, hN.2.2.1.aside (set4_grown _ _ _ _ _ _) (by have := HQ.out.2.2.2.2.2; have := HLT.out; omega), hp.hg, hN.2.2.2.1, by have := hN.2.2.2.2.2; omega, by have := hN.2.2.2.2.1; have := HQ.out.2.1; have := HQ.out.2.2.2.2.1; omega⟩
    | false =>
      have hno : ∀ q, σ2 = .live q → tkAt (numsOf S) q ≠ .non ∧ ¬ tkAt (numsOf S) q = (.sg 42) := by
        rintro q rfl
        refine ⟨(HP2.out.liv q rfl).1, fun h9 => ?_⟩
        simp only [St.dtake, if_pos h9] at ht; cases ht
      have hsame : (σ2.dtake (numsOf S) (.sg 42)).1 = σ2 := by
        cases σ2 with
        | dead q => rfl
        | live q => simp only [St.dtake, if_neg (hno q rfl).2]
      rw [hsame] at hP3
      clear hsame ht
      have hS3 := HI.out.1.go HI.out.2.2.2.2 HLT.out hg3
      have hstop : ∀ q, σ2 = .live q → tkAt (numsOf S) q ≠ .non ∧ opk .prods (tkAt (numsOf S) q) = none := fun q hq => ⟨(hno q hq).1, by rw [dop_prods, if_neg (hno q hq).2]⟩
      clear hno
      have HFN := hS3.dends HI.out.2.2.2.2 hP3 (dlp_stop HI.out.2.1 hstop)
      have HFH : Hid (_ ∧ DGrP S (.lv .prods) σ b w _ _) := HFN
      obtain ⟨x0, x1, x2, x3⟩ := box_of hS3.hB
      have hz := hS3.hz
      unfold gz at hz
      obtain ⟨⟨z0, z1, z2, z3⟩, f0, f1, f2, f3⟩ := row4_cells hz
      clear HFN hS3 hz hP3 hg3 HI hstop TK0
      simp only []
      go_wp2_with fail
      exact bodyPost_ret (results_cell_row rfl _ _ w.heap.size 24 (gA k1 n1 t1 q1 l1 c1) (0, 0) _ rfl HFH.out.1 Tryd.underlying24 rfl size_guard) rfl HFH.out.2
end Go.Proofs.YtkcmidhpbaepoaaDoor.G
