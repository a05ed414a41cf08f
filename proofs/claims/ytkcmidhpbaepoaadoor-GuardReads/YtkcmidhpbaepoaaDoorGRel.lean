/-
  The program's relations, and what may be negated. Written by tools/gen_grel.py.
-/
import Derived.Test.YtkcmidhpbaepoaaDoorGSu
namespace Go.Proofs.YtkcmidhpbaepoaaDoor.G
open Go.RowKit Go.WideShapes Go.Joins

theorem LvS.ends2 {S : ByteArray} {b B : Nat} {w wr : World} {A : Array Value} {g0 : GB} {k : Nat} {n : Int} {t : ByteArray} {q : Option Addr} {l c : Nat} {g : GB} {s : Sym} {σ σ' : St} (h : LvS S b B w wr A g0) (hb : b < w.heap.size) (hG : GIn wr (fun i => w.heap.size < i) (gA k n t q l c) g) (hP : PIn wr b S σ') (hF : Fin (numsOf S) s σ g σ') :
    (set4 wr w.heap.size (.int .u8 (k : Int)) (.int .i64 n) (.string t) (.slice q l c)).heap[w.heap.size]? = some (.cells (gA k n t q l c) 24 (0, 0)) ∧
    GrP S s σ b w (.returned (.agg (gA k n t q l c))) (set4 wr w.heap.size (.int .u8 (k : Int)) (.int .i64 n) (.string t) (.slice q l c)) := by
  have hz := h.hz
  unfold gz at hz
  refine ⟨set4_heap hz _ _ _ _, k, n, t, q, l, c, g, σ', rfl, ?_, hP.aside (set4_grown _ _ _ _ _ _) (by omega), grown_new h.hg (set4_grown _ _ _ _ _ _) (Nat.le_refl _), hF⟩
  exact (hG.grown (set4_grown _ _ _ _ _ _) (fun i hi => by omega)).wk fun i hi => by omega
/-- relation's contract: where no 'not' stands -/
def ConR (fn : FuncId) (S : ByteArray) (b n : Nat) : Prop := ∀ (σ : St) (w : World), σ.left S ≤ n → (∀ p, σ = .live p → tkAt (numsOf S) p ≠ .wd tkNot) → Env w b → PIn w b S σ → Calls Tryd.prog fn #[rp b] w fun e w' => GrP S .part σ b w e w'
/-- between a first sum and what it is compared with -/
def Rp (S : List Nat) (σ0 : St) (g : GB) (σ : St) : Prop :=
  match σ with
  | .live q => ∃ p0, σ0 = .live p0 ∧ p0 < q ∧ ∀ p' r, R S (.rel g) q p' r → R S .part p0 p' r
  | .dead q => Fin S .part σ0 g (.dead q)
theorem rp_start {S : List Nat} {σ0 σ : St} {g : GB} (hn : ∀ p, σ0 = .live p → tkAt S p ≠ .wd tkNot) (h : Fin S (.lv .sums) σ0 g σ) : Rp S σ0 g σ := by
  cases σ0 with
  | dead p =>
    have h : σ = .dead p := h
    subst h
    exact rfl
  | live p0 =>
    obtain ⟨p', r, hR, hr⟩ := h
    cases r with
    | none =>
      have hr : σ = .dead p' := hr
      subst hr
      exact ⟨p', none, .part_no (hn _ rfl) hR, rfl⟩
    | some v =>
      obtain ⟨rfl, rfl, hlt⟩ := hr
      exact ⟨p0, rfl, hlt, fun p'' r h' => .part_ok (hn _ rfl) hR h'⟩
theorem rp_stop {S : List Nat} {σ0 σ : St} {g : GB} (h : Rp S σ0 g σ) (hs : ∀ q, σ = .live q → relk (tkAt S q) = none) : Fin S .part σ0 g σ := by
  cases σ with
  | dead q => exact h
  | live q =>
    obtain ⟨p0, rfl, hlt, hR⟩ := h
    exact ⟨q, some g, hR _ _ (.rel_stop (hs q rfl)), rfl, rfl, hlt⟩
theorem rp_step {S : List Nat} {σ0 σ2 : St} {g h : GB} {q m : Nat} (hl : Rp S σ0 g (.live q)) (hq : q < nx S q) (hm : relk (tkAt S q) = some m) (hF : Fin S (.lv .sums) (.live (nx S q)) h σ2) : Fin S .part σ0 (pair m g h) σ2 := by
  obtain ⟨p0, rfl, hlt, hR⟩ := hl
  obtain ⟨p', r, hR2, hr⟩ := hF
  cases r with
  | none => exact ⟨p', none, hR _ _ (.rel_no hm hR2), hr⟩
  | some v =>
    obtain ⟨rfl, rfl, hlt2⟩ := hr
    exact ⟨p', _, hR _ _ (.rel_ok hm hR2), rfl, rfl, by omega⟩
set_option maxHeartbeats 4000000 in
set_option maxRecDepth 8000 in
theorem relation_con (S : ByteArray) (b n : Nat) (CL : Con 51 S (.lv .sums) b n) : ConR 43 S b n := by
  intro σ w hn hnot hE hP
  have b0 := below_new w (.cells gz 24)
  have CL1 := CL σ _ hn (hE.below b0) (hP.below b0)
  have HE : Hid (Env w b ∧ σ.left S ≤ n ∧ S.size ≤ 16384) := ⟨hE, hn, hP.sz⟩
  have HC : Hid (Con 51 S (.lv .sums) b n) := CL
  have HNT : Hid (∀ p, σ = .live p → tkAt (numsOf S) p ≠ .wd tkNot) := hnot
  have HFI : Hid (∀ (w1 : World) (k : Nat) (n : Int) (t : ByteArray) (q : Option Addr) (l c : Nat) (g : GB), GIn w1 (fun i => (w.alloc (.cells gz 24)).heap.size ≤ i) (gA k n t q l c) g → (w.alloc (.cells gz 24)).grownBy w1 (some b) → LvS S b w1.heap.size w (w1.alloc (.cells (gA k n t q l c) 24)) (gA k n t q l c) g ∧ w.heap.size < w1.heap.size) := fun w1 k n t q l c g h1 h2 => LvS.first h1 h2 hE.lt
  clear CL hn hE hP b0 hnot
  unfold gz gA at HFI
  unfold gz at CL1
  unfold rp at CL1 ⊢
  go_enter Tryd.func43, Tryd.ntmps43
  go_wp2_with fail
  refine CL1.mono ?_
  rintro e w1 ⟨k1, n1, t1, q1, l1, c1, g, σ2, rfl, hG, hP1, hg1, hF⟩
  obtain ⟨hS, hlt⟩ := HFI.out w1 k1 n1 t1 q1 l1 c1 g (by unfold gA at hG; exact hG) hg1
  have hP2 := hP1.below (below_new w1 (.cells (gA k1 n1 t1 q1 l1 c1) 24))
  have HS : Hid (LvS S b w1.heap.size w (w1.alloc (.cells (gA k1 n1 t1 q1 l1 c1) 24)) (gA k1 n1 t1 q1 l1 c1) g ∧ PIn (w1.alloc (.cells (gA k1 n1 t1 q1 l1 c1) 24)) b S σ2 ∧ Rp (numsOf S) σ g σ2 ∧ σ2.left S ≤ σ.left S) := ⟨hS, hP2, rp_start HNT.out hF, hF.left⟩
  have HLT : Hid (w.heap.size < w1.heap.size) := hlt
  clear CL1 HFI hG hP1 hg1 hF hS hP2 hlt
  unfold gA
  unfold gA at HS
  simp only []
  go_upto_region 2 with fail
  obtain ⟨B, hB⟩ : ∃ B, w1.heap.size = B := ⟨_, rfl⟩
  rw [hB] at HS HLT ⊢
  refine wp_at (fun W => LvS S b B w W (gA k1 n1 t1 q1 l1 c1) g ∧ PIn W b S σ2) ⟨by unfold gA; exact HS.out.1, HS.out.2.1⟩ (fun wr H2 => ?_)
  have HI : Hid (LvS S b B w wr (gA k1 n1 t1 q1 l1 c1) g ∧ Rp (numsOf S) σ g σ2 ∧ σ2.left S ≤ σ.left S ∧ b < w.heap.size) := ⟨H2.1, HS.out.2.2.1, HS.out.2.2.2, HE.out.1.lt⟩
  have TK0 := takes_any S b (.sg 61) (vt_sg rfl) ⟨#[61]⟩ (by decide) σ2 wr (HE.out.1.grown H2.1.hg) H2.2
  clear HS hB H2
  unfold rp at TK0
  go_wp2_with fail
  refine TK0.mono ?_
  rintro e w3 ⟨rfl, hP3, hg3⟩
  clear TK0
  cases ht : (σ2.take (numsOf S) (.sg 61)).2 with
  | true =>
    obtain ⟨q, hq, hsc⟩ : ∃ q, σ2 = .live q ∧ sameC (tkAt (numsOf S) q) (.sg 61) = true := by
      cases σ2 with
      | dead q => simp only [St.take] at ht; cases ht
      | live q =>
        simp only [St.take] at ht
        split at ht
        · rename_i h9; exact ⟨q, rfl, h9⟩
        · cases ht
    subst hq
    have htk : (St.take (numsOf S) (.sg 61) (.live q)).1 = .live (nx (numsOf S) q) := by simp only [St.take, hsc, if_true]
    rw [htk] at hP3
    have hop : relk (tkAt (numsOf S) q) = some 11 := by rw [op_rel]; rw [if_pos hsc]
    have hnx : q < nx (numsOf S) q ∧ nx (numsOf S) q ≤ S.size := by
      have hqs : q ≤ (numsOf S).length := by
        have h8 : q ≤ nx (numsOf S) q := by unfold nx skip; omega
        have h9 : nx (numsOf S) q ≤ S.size := hP3.le
        rw [numsOf_len]; omega
      refine ⟨nx_lt hqs (fun e => ?_) (fun e => ?_), hP3.le⟩
      · rw [e] at hop; cases hop
      · rw [e] at hop; cases hop
    have HQ : Hid (Rp (numsOf S) σ g (.live q) ∧ (q < nx (numsOf S) q ∧ nx (numsOf S) q ≤ S.size) ∧ relk (tkAt (numsOf S) q) = some 11 ∧ S.size - q ≤ σ.left S ∧ b < w.heap.size) := ⟨HI.out.2.1, hnx, hop, HI.out.2.2.1, HI.out.2.2.2⟩
    have hS3 := HI.out.1.go HI.out.2.2.2 HLT.out hg3
    have HS3 : Hid (LvS S b B w w3 (gA k1 n1 t1 q1 l1 c1) g) := hS3
    obtain ⟨⟨x0, x1, x2, x3⟩, _, _, _, _⟩ := box_of2 hS3.hB
    have HLq : Hid (∀ w', w3.grownBy w' (some b) → PIn w' b S (.live (nx (numsOf S) q)) → Calls Tryd.prog 51 #[rp b] w' fun e w'' => GrP S (.lv .sums) (.live (nx (numsOf S) q)) b w' e w'') := fun w' hg' hp' =>
      HC.out _ w' (by have := HE.out.2.1; have := HQ.out.2.2.2.1; have := HQ.out.2.1; show S.size - nx (numsOf S) q ≤ n; omega) (HE.out.1.grown (grown_trans HS3.out.hg hg')) hp'
    have HP3 : Hid (∀ w', Below w3.heap.size w3 w' → PIn w' b S (.live (nx (numsOf S) q))) := fun w' hb => hP3.below hb
    have HKB : Hid (∀ w', w3.grownBy w' (some b) → (w'.cell? ⟨B, 0, none⟩ = some (.int .u8 (k1 : Int)) ∧ w'.cell? ⟨B, 1, none⟩ = some (.int .i64 n1) ∧ w'.cell? ⟨B, 2, none⟩ = some (.string t1) ∧ w'.cell? ⟨B, 3, none⟩ = some (.slice q1 l1 c1))) := fun w' hg' => box_of (HS3.out.go HQ.out.2.2.2.2 HLT.out hg').hB
    have HKR : Hid (∀ w', w3.grownBy w' (some b) → w'.heap[w.heap.size]? = some (.cells #[.int .u8 0, .int .i64 0, .string ⟨#[]⟩, .slice none 0 0] 24 (0, 0))) := fun w' hg' => (HS3.out.go HQ.out.2.2.2.2 HLT.out hg').hz
    have HPR : Hid (∀ (wa w5 : World) (k5 : Nat) (n5 : Int) (t5 : ByteArray) (q5 : Option Addr) (l5 c5 : Nat) (h : GB), w3.grownBy wa (some b) → wa.grownBy w5 (some b) → GIn w5 (fun i => wa.heap.size ≤ i) (gA k5 n5 t5 q5 l5 c5) h →
        Calls Tryd.prog 24 #[.int .u8 11, .agg (gA k1 n1 t1 q1 l1 c1), .agg (gA k5 n5 t5 q5 l5 c5)] w5 fun e w' => PrP (fun i => w.heap.size < i) (pair 11 g h) w5 e w') := fun wa w5 k5 n5 t5 q5 l5 c5 h hg4 hg5 hG5 => by
      have hS5 := HS3.out.go HQ.out.2.2.2.2 HLT.out (grown_trans hg4 hg5)
      have hB3 := heap_lt HS3.out.hB
      have hz4 := hg4.size
      have hz5 := hg5.size
      have hlt := HLT.out
      exact pair_any 11 (by decide) _ g h k1 k5 n1 n5 t1 t5 q1 q5 l1 c1 l5 c5 w5 (hS5.hG.wk fun i hi => hi.1) (hG5.wk fun i hi => by omega) (fun i hi => by omega)
    clear hP3 hg3 htk hop hnx hS3 HI ht hsc 
    unfold rp at HLq
    unfold gA at HPR
    have G0 : w3.grownBy w3.drew (some b) := grown_below (Below.refl _ _).drew _
    have P0 := HP3.out _ (Below.refl w3.heap.size w3).drew
    simp only []
    go_upto_region 3 with fail
    go_region_with (first
        | (go_at_call 24; refine (HPR.out _ _ _ _ _ _ _ _ _ G0 hg5 hG5).mono ?_; rintro e w6 ⟨k6, n6, t6, q6, l6, c6, rfl, hG6, hb6⟩; have G2 := grown_trans G1 (grown_below hb6 (some b)); obtain ⟨⟨s0, s1, s2, s3⟩, f0, f1, f2, f3⟩ := row4_cells (HKR.out w6 G2); unfold gA)
        | (go_at_call 51; refine (HLq.out _ G0 P0).mono ?_; rintro e w5 ⟨k5, n5, t5, q5, l5, c5, h, σ5, rfl, hG5, hP5, hg5, hF5⟩; have G1 := grown_trans G0 hg5; obtain ⟨r0, r1, r2, r3⟩ := HKB.out w5 G1; unfold gA; unfold gA at hG5)
        | fail)
    all_goals
      have hS6 := HS3.out.go HQ.out.2.2.2.2 HLT.out G2
      have HFN := hS6.ends2 HQ.out.2.2.2.2 hG6 (hP5.below hb6) (rp_step HQ.out.1 HQ.out.2.1.1 HQ.out.2.2.1 hF5)
      have HFH : Hid (_ ∧ GrP S .part σ b w _ _) := HFN
      clear G0 G1 G2 P0 hG5 hP5 hg5 hF5 hG6 hb6 hS6 HPR HLq HP3 HKB HKR HFN x0 x1 x2 x3 r0 r1 r2 r3
      go_wp2_with fail
      exact bodyPost_ret (results_cell_row rfl _ _ w.heap.size 24 (gA k6 n6 t6 q6 l6 c6) (0, 0) _ rfl HFH.out.1 Tryd.underlying24 rfl size_guard) rfl HFH.out.2
  | false =>
    have hno : ∀ q, σ2 = .live q → sameC (tkAt (numsOf S) q) (.sg 61) = false := by
      rintro q rfl
      cases h9 : sameC (tkAt (numsOf S) q) (.sg 61) with
      | false => rfl
      | true => simp only [St.take, h9, if_true] at ht; cases ht
    have hsame : (σ2.take (numsOf S) (.sg 61)).1 = σ2 := by
      cases σ2 with
      | dead q => rfl
      | live q => simp only [St.take, hno q rfl]; rfl
    rw [hsame] at hP3
    clear hsame ht
    have HN0 : Hid (∀ q, σ2 = .live q → sameC (tkAt (numsOf S) q) (.sg 61) = false) := hno
    have hS0 := HI.out.1.go HI.out.2.2.2 HLT.out hg3
    have TK1 := takes_any S b (.sg 60) (vt_sg rfl) ⟨#[60]⟩ (by decide) σ2 w3 (HE.out.1.grown hS0.hg) hP3
    have HI2 : Hid (LvS S b B w w3 (gA k1 n1 t1 q1 l1 c1) g ∧ Rp (numsOf S) σ g σ2 ∧ σ2.left S ≤ σ.left S ∧ b < w.heap.size) := ⟨hS0, HI.out.2⟩
    unfold rp at TK1
    clear hP3 hg3 hno hS0 HI
    have HI := HI2
    clear HI2
    simp only []
    go_wp2_with fail
    refine TK1.mono ?_
    rintro e w9 ⟨rfl, hP3, hg3⟩
    clear TK1
    cases ht : (σ2.take (numsOf S) (.sg 60)).2 with
    | true =>
      obtain ⟨q, hq, hsc⟩ : ∃ q, σ2 = .live q ∧ sameC (tkAt (numsOf S) q) (.sg 60) = true := by
        cases σ2 with
        | dead q => simp only [St.take] at ht; cases ht
        | live q =>
          simp only [St.take] at ht
          split at ht
          · rename_i h9; exact ⟨q, rfl, h9⟩
          · cases ht
      subst hq
      have htk : (St.take (numsOf S) (.sg 60) (.live q)).1 = .live (nx (numsOf S) q) := by simp only [St.take, hsc, if_true]
      rw [htk] at hP3
      have hop : relk (tkAt (numsOf S) q) = some 12 := by rw [op_rel]; rw [HN0.out q rfl, if_neg (by simp), if_pos hsc]
      have hnx : q < nx (numsOf S) q ∧ nx (numsOf S) q ≤ S.size := by
        have hqs : q ≤ (numsOf S).length := by
          have h8 : q ≤ nx (numsOf S) q := by unfold nx skip; omega
          have h9 : nx (numsOf S) q ≤ S.size := hP3.le
          rw [numsOf_len]; omega
        refine ⟨nx_lt hqs (fun e => ?_) (fun e => ?_), hP3.le⟩
        · rw [e] at hop; cases hop
        · rw [e] at hop; cases hop
      have HQ : Hid (Rp (numsOf S) σ g (.live q) ∧ (q < nx (numsOf S) q ∧ nx (numsOf S) q ≤ S.size) ∧ relk (tkAt (numsOf S) q) = some 12 ∧ S.size - q ≤ σ.left S ∧ b < w.heap.size) := ⟨HI.out.2.1, hnx, hop, HI.out.2.2.1, HI.out.2.2.2⟩
      have hS3 := HI.out.1.go HI.out.2.2.2 HLT.out hg3
      have HS3 : Hid (LvS S b B w w9 (gA k1 n1 t1 q1 l1 c1) g) := hS3
      obtain ⟨⟨x0, x1, x2, x3⟩, _, _, _, _⟩ := box_of2 hS3.hB
      have HLq : Hid (∀ w', w9.grownBy w' (some b) → PIn w' b S (.live (nx (numsOf S) q)) → Calls Tryd.prog 51 #[rp b] w' fun e w'' => GrP S (.lv .sums) (.live (nx (numsOf S) q)) b w' e w'') := fun w' hg' hp' =>
        HC.out _ w' (by have := HE.out.2.1; have := HQ.out.2.2.2.1; have := HQ.out.2.1; show S.size - nx (numsOf S) q ≤ n; omega) (HE.out.1.grown (grown_trans HS3.out.hg hg')) hp'
      have HP3 : Hid (∀ w', Below w9.heap.size w9 w' → PIn w' b S (.live (nx (numsOf S) q))) := fun w' hb => hP3.below hb
      have HKB : Hid (∀ w', w9.grownBy w' (some b) → (w'.cell? ⟨B, 0, none⟩ = some (.int .u8 (k1 : Int)) ∧ w'.cell? ⟨B, 1, none⟩ = some (.int .i64 n1) ∧ w'.cell? ⟨B, 2, none⟩ = some (.string t1) ∧ w'.cell? ⟨B, 3, none⟩ = some (.slice q1 l1 c1))) := fun w' hg' => box_of (HS3.out.go HQ.out.2.2.2.2 HLT.out hg').hB
      have HKR : Hid (∀ w', w9.grownBy w' (some b) → w'.heap[w.heap.size]? = some (.cells #[.int .u8 0, .int .i64 0, .string ⟨#[]⟩, .slice none 0 0] 24 (0, 0))) := fun w' hg' => (HS3.out.go HQ.out.2.2.2.2 HLT.out hg').hz
      have HPR : Hid (∀ (wa w5 : World) (k5 : Nat) (n5 : Int) (t5 : ByteArray) (q5 : Option Addr) (l5 c5 : Nat) (h : GB), w9.grownBy wa (some b) → wa.grownBy w5 (some b) → GIn w5 (fun i => wa.heap.size ≤ i) (gA k5 n5 t5 q5 l5 c5) h →
          Calls Tryd.prog 24 #[.int .u8 12, .agg (gA k1 n1 t1 q1 l1 c1), .agg (gA k5 n5 t5 q5 l5 c5)] w5 fun e w' => PrP (fun i => w.heap.size < i) (pair 12 g h) w5 e w') := fun wa w5 k5 n5 t5 q5 l5 c5 h hg4 hg5 hG5 => by
        have hS5 := HS3.out.go HQ.out.2.2.2.2 HLT.out (grown_trans hg4 hg5)
        have hB3 := heap_lt HS3.out.hB
        have hz4 := hg4.size
        have hz5 := hg5.size
        have hlt := HLT.out
        exact pair_any 12 (by decide) _ g h k1 k5 n1 n5 t1 t5 q1 q5 l1 c1 l5 c5 w5 (hS5.hG.wk fun i hi => hi.1) (hG5.wk fun i hi => by omega) (fun i hi => by omega)
      clear hP3 hg3 htk hop hnx hS3 HI ht hsc HN0
      unfold rp at HLq
      unfold gA at HPR
      have G0 : w9.grownBy w9.drew (some b) := grown_below (Below.refl _ _).drew _
      have P0 := HP3.out _ (Below.refl w9.heap.size w9).drew
      simp only []
      go_upto_region 5 with fail
      go_region_with (first
          | (go_at_call 24; refine (HPR.out _ _ _ _ _ _ _ _ _ G0 hg5 hG5).mono ?_; rintro e w6 ⟨k6, n6, t6, q6, l6, c6, rfl, hG6, hb6⟩; have G2 := grown_trans G1 (grown_below hb6 (some b)); obtain ⟨⟨s0, s1, s2, s3⟩, f0, f1, f2, f3⟩ := row4_cells (HKR.out w6 G2); unfold gA)
          | (go_at_call 51; refine (HLq.out _ G0 P0).mono ?_; rintro e w5 ⟨k5, n5, t5, q5, l5, c5, h, σ5, rfl, hG5, hP5, hg5, hF5⟩; have G1 := grown_trans G0 hg5; obtain ⟨r0, r1, r2, r3⟩ := HKB.out w5 G1; unfold gA; unfold gA at hG5)
          | fail)
      all_goals
        have hS6 := HS3.out.go HQ.out.2.2.2.2 HLT.out G2
        have HFN := hS6.ends2 HQ.out.2.2.2.2 hG6 (hP5.below hb6) (rp_step HQ.out.1 HQ.out.2.1.1 HQ.out.2.2.1 hF5)
        have HFH : Hid (_ ∧ GrP S .part σ b w _ _) := HFN
        clear G0 G1 G2 P0 hG5 hP5 hg5 hF5 hG6 hb6 hS6 HPR HLq HP3 HKB HKR HFN x0 x1 x2 x3 r0 r1 r2 r3
        go_wp2_with fail
        exact bodyPost_ret (results_cell_row rfl _ _ w.heap.size 24 (gA k6 n6 t6 q6 l6 c6) (0, 0) _ rfl HFH.out.1 Tryd.underlying24 rfl size_guard) rfl HFH.out.2
    | false =>
      have hno : ∀ q, σ2 = .live q → sameC (tkAt (numsOf S) q) (.sg 60) = false := by
        rintro q rfl
        cases h9 : sameC (tkAt (numsOf S) q) (.sg 60) with
        | false => rfl
        | true => simp only [St.take, h9, if_true] at ht; cases ht
      have hsame : (σ2.take (numsOf S) (.sg 60)).1 = σ2 := by
        cases σ2 with
        | dead q => rfl
        | live q => simp only [St.take, hno q rfl]; rfl
      rw [hsame] at hP3
      clear hsame ht
      have hstop : ∀ q, σ2 = .live q → relk (tkAt (numsOf S) q) = none := fun q hq => by rw [op_rel, HN0.out q hq, hno q hq]; rfl
      have hS3 := HI.out.1.go HI.out.2.2.2 HLT.out hg3
      have HFN := hS3.ends2 HI.out.2.2.2 (hS3.hG.wk fun i hi => hi.1) hP3 (rp_stop HI.out.2.1 hstop)
      have HFH : Hid (_ ∧ GrP S .part σ b w _ _) := HFN
      obtain ⟨x0, x1, x2, x3⟩ := box_of hS3.hB
      have hz := hS3.hz
      unfold gz at hz
      obtain ⟨⟨z0, z1, z2, z3⟩, f0, f1, f2, f3⟩ := row4_cells hz
      clear HFN hS3 hz hP3 hg3 HI hstop hno HN0
      simp only []
      go_wp2_with fail
      exact bodyPost_ret (results_cell_row rfl _ _ w.heap.size 24 (gA k1 n1 t1 q1 l1 c1) (0, 0) _ rfl HFH.out.1 Tryd.underlying24 rfl size_guard) rfl HFH.out.2
end Go.Proofs.YtkcmidhpbaepoaaDoor.G
