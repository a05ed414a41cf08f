/-
  The program's levels: or, and, sums, products. Written by tools/gen_glv.py.
-/
import Derived.Test.YtkcmidhpbaepoaaDoorGFin
namespace Go.Proofs.YtkcmidhpbaepoaaDoor.G
open Go.RowKit Go.WideShapes Go.Joins

theorem PIn.aside {w w' : World} {b g : Nat} {S : ByteArray} {σ : St} (h : PIn w b S σ) (hg : w.grownBy w' (some g)) (hne : b ≠ g) : PIn w' b S σ := h.at (hg.block b h.lt (fun e => hne (Option.some.inj e)))
/-- four cells of a box that stays -/
structure Box (B : Nat) (k : Nat) (n : Int) (t : ByteArray) (q : Option Addr) (l c : Nat) (w : World) : Prop where
  c0 : w.cell? ⟨B, 0, none⟩ = some (.int .u8 (k : Int))
  c1 : w.cell? ⟨B, 1, none⟩ = some (.int .i64 n)
  c2 : w.cell? ⟨B, 2, none⟩ = some (.string t)
  c3 : w.cell? ⟨B, 3, none⟩ = some (.slice q l c)
theorem box_of {w : World} {B k : Nat} {n : Int} {t : ByteArray} {q : Option Addr} {l c : Nat} (h : w.heap[B]? = some (.cells (gA k n t q l c) 24 (0, 0))) :
    w.cell? ⟨B, 0, none⟩ = some (.int .u8 (k : Int)) ∧ w.cell? ⟨B, 1, none⟩ = some (.int .i64 n) ∧ w.cell? ⟨B, 2, none⟩ = some (.string t) ∧ w.cell? ⟨B, 3, none⟩ = some (.slice q l c) := by
  unfold gA at h
  exact (row4_cells h).1
theorem box_of2 {w : World} {B k : Nat} {n : Int} {t : ByteArray} {q : Option Addr} {l c : Nat} (h : w.heap[B]? = some (.cells (gA k n t q l c) 24 (0, 0))) :
    (w.cell? ⟨B, 0, none⟩ = some (.int .u8 (k : Int)) ∧ w.cell? ⟨B, 1, none⟩ = some (.int .i64 n) ∧ w.cell? ⟨B, 2, none⟩ = some (.string t) ∧ w.cell? ⟨B, 3, none⟩ = some (.slice q l c)) ∧ w.frozen? ⟨B, 0, none⟩ = false ∧ w.frozen? ⟨B, 1, none⟩ = false ∧ w.frozen? ⟨B, 2, none⟩ = false ∧ w.frozen? ⟨B, 3, none⟩ = false := by
  unfold gA at h
  exact row4_cells h
/-- what stands in a level's walk behind its first part -/
structure LvS (S : ByteArray) (b B : Nat) (w wr : World) (A : Array Value) (g : GB) : Prop where
  hB : wr.heap[B]? = some (.cells A 24 (0, 0))
  hz : wr.heap[w.heap.size]? = some (.cells gz 24 (0, 0))
  hG : GIn wr (fun i => w.heap.size < i ∧ i ≠ B) A g
  hg : w.grownBy wr (some b)
theorem LvS.go {S : ByteArray} {b B : Nat} {w wr w' : World} {A : Array Value} {g : GB} (h : LvS S b B w wr A g) (hb : b < w.heap.size) (hBb : w.heap.size < B) (hg : wr.grownBy w' (some b)) : LvS S b B w w' A g :=
  ⟨box_at hg h.hB (fun e => by cases e; omega), box_at hg h.hz (fun e => by cases e; omega), h.hG.grown hg (fun i hi => by omega), grown_trans h.hg hg⟩
/-- one more -/
theorem LvS.put {S : ByteArray} {b B : Nat} {w w6 : World} {g h : GB} {x0 x1 x2 x3 : Value} (hS : LvS S b B w w6 #[x0, x1, x2, x3] g) (hBb : w.heap.size < B) {k : Nat} {n : Int} {t : ByteArray} {q : Option Addr} {l c : Nat} (hG : GIn w6 (fun i => w.heap.size < i ∧ i ≠ B) (gA k n t q l c) h) :
    LvS S b B w (set4 w6 B (.int .u8 (k : Int)) (.int .i64 n) (.string t) (.slice q l c)) (gA k n t q l c) h :=
  ⟨set4_heap hS.hB _ _ _ _, box_at (set4_grown _ _ _ _ _ _) hS.hz (fun e => by cases e; omega), hG.grown (set4_grown _ _ _ _ _ _) (fun i hi => hi.2), grown_new hS.hg (set4_grown _ _ _ _ _ _) (by omega)⟩
/-- the first part, in its box -/
theorem LvS.first {S : ByteArray} {b : Nat} {w w1 : World} {k : Nat} {n : Int} {t : ByteArray} {q : Option Addr} {l c : Nat} {g : GB} (hG : GIn w1 (fun i => (w.alloc (.cells gz 24)).heap.size ≤ i) (gA k n t q l c) g) (hg : (w.alloc (.cells gz 24)).grownBy w1 (some b)) (hb : b < w.heap.size) :
    LvS S b w1.heap.size w (w1.alloc (.cells (gA k n t q l c) 24)) (gA k n t q l c) g ∧ w.heap.size < w1.heap.size := by
  have b0 := below_new w (.cells gz 24)
  have n0 := _root_.Go.heap_alloc_new w (.cells gz 24)
  have b2 := below_new w1 (.cells (gA k n t q l c) 24)
  have hsz := hg.size
  rw [World.size_alloc] at hsz
  refine ⟨⟨_root_.Go.heap_alloc_new _ _, box_below (box_at hg n0 (fun e => by cases e; omega)) b2, ?_, grown_trans (grown_trans (grown_below b0 _) hg) (grown_below b2 _)⟩, by omega⟩
  refine (hG.lt.bel b2).wk fun i hi => ?_
  rw [World.size_alloc] at hi
  omega
/-- the end of a level -/
theorem LvS.ends {S : ByteArray} {b B : Nat} {w wr : World} {k : Nat} {n : Int} {t : ByteArray} {q : Option Addr} {l c : Nat} {g : GB} {s : Sym} {σ σ' : St} (h : LvS S b B w wr (gA k n t q l c) g) (hb : b < w.heap.size) (hP : PIn wr b S σ') (hF : Fin (numsOf S) s σ g σ') :
    (set4 wr w.heap.size (.int .u8 (k : Int)) (.int .i64 n) (.string t) (.slice q l c)).heap[w.heap.size]? = some (.cells (gA k n t q l c) 24 (0, 0)) ∧
    GrP S s σ b w (.returned (.agg (gA k n t q l c))) (set4 wr w.heap.size (.int .u8 (k : Int)) (.int .i64 n) (.string t) (.slice q l c)) := by
  have hz := h.hz
  unfold gz at hz
  refine ⟨set4_heap hz _ _ _ _, k, n, t, q, l, c, g, σ', rfl, ?_, hP.aside (set4_grown _ _ _ _ _ _) (by omega), grown_new h.hg (set4_grown _ _ _ _ _ _) (Nat.le_refl _), hF⟩
  exact (h.hG.grown (set4_grown _ _ _ _ _ _) (fun i hi => by omega)).wk fun i hi => by omega

set_option maxHeartbeats 4000000 in
set_option maxRecDepth 8000 in
theorem guard_con (S : ByteArray) (b n : Nat) (CL : Con 22 S (low .ors) b n) : Con 14 S (.lv .ors) b n := by
  intro σ w hn hE hP
  have b0 := below_new w (.cells gz 24)
  have CL1 := CL σ _ hn (hE.below b0) (hP.below b0)
  have HE : Hid (Env w b ∧ σ.left S ≤ n ∧ S.size ≤ 16384) := ⟨hE, hn, hP.sz⟩
  have HC : Hid (Con 22 S (low .ors) b n) := CL
  have HFI : Hid (∀ (w1 : World) (k : Nat) (n : Int) (t : ByteArray) (q : Option Addr) (l c : Nat) (g : GB), GIn w1 (fun i => (w.alloc (.cells gz 24)).heap.size ≤ i) (gA k n t q l c) g → (w.alloc (.cells gz 24)).grownBy w1 (some b) → LvS S b w1.heap.size w (w1.alloc (.cells (gA k n t q l c) 24)) (gA k n t q l c) g ∧ w.heap.size < w1.heap.size) := fun w1 k n t q l c g h1 h2 => LvS.first h1 h2 hE.lt
  clear CL hn hE hP b0
  unfold gz gA at HFI
  unfold gz at CL1
  unfold rp at CL1 ⊢
  go_enter Tryd.func14, Tryd.ntmps14
  go_wp2_with fail
  refine CL1.mono ?_
  rintro e w1 ⟨k1, n1, t1, q1, l1, c1, g, σ1, rfl, hG, hP1, hg1, hF⟩
  obtain ⟨hS, hlt⟩ := HFI.out w1 k1 n1 t1 q1 l1 c1 g (by unfold gA at hG; exact hG) hg1
  have hP2 := hP1.below (below_new w1 (.cells (gA k1 n1 t1 q1 l1 c1) 24))
  have HS : Hid (LvS S b w1.heap.size w (w1.alloc (.cells (gA k1 n1 t1 q1 l1 c1) 24)) (gA k1 n1 t1 q1 l1 c1) g ∧ PIn (w1.alloc (.cells (gA k1 n1 t1 q1 l1 c1) 24)) b S σ1 ∧ Lp (numsOf S) .ors σ g σ1 ∧ σ1.left S ≤ σ.left S) := ⟨hS, hP2, lp_start hF, hF.left⟩
  have HLT : Hid (w.heap.size < w1.heap.size) := hlt
  clear CL1 HFI hG hP1 hg1 hF hS hP2 hlt
  unfold gA
  unfold gA at HS
  simp only []
  go_wp2_with fail
  obtain ⟨B, hB⟩ : ∃ B, w1.heap.size = B := ⟨_, rfl⟩
  rw [hB] at HS HLT ⊢
  refine wp_at (fun W => LvS S b B w W _ g ∧ PIn W b S σ1) ⟨HS.out.1, HS.out.2.1⟩ (fun w2 H2 => ?_)
  have HL0 : Hid (Lp (numsOf S) .ors σ g σ1 ∧ σ1.left S ≤ σ.left S) := HS.out.2.2
  have H2H : Hid (LvS S b B w w2 _ g ∧ PIn w2 b S σ1) := H2
  clear HS hB H2
  go_loopg [] (σ1.meas S) (fun gk wr => LvI S .ors σ b B w gk wr)
  case atStart => exact ⟨k1, n1, t1, q1, l1, c1, g, σ1, H2H.out.1.hB, H2H.out.1.hz, H2H.out.1.hG, H2H.out.2, H2H.out.1.hg, HE.out.1.grown H2H.out.1.hg, HL0.out.1, Nat.le_refl _, HL0.out.2⟩
  case round =>
    clear H2H HL0
    obtain ⟨k1, n1, t1, q1, l1, c1, g, σ2, hB, hz, hG, hP, hg, hE, hl, hm, hle⟩ := hrel
    have HI : Hid (LvS S b B w wr (gA k1 n1 t1 q1 l1 c1) g ∧ Lp (numsOf S) .ors σ g σ2 ∧ σ2.meas S ≤ gk ∧ σ2.left S ≤ σ.left S ∧ b < w.heap.size) := ⟨⟨hB, hz, hG, hg⟩, hl, hm, hle, HE.out.1.lt⟩
    have TK0 := takes_any S b (.wd tkOr) vt_or ⟨#[111, 114]⟩ (by decide) σ2 wr hE hP
    clear hB hz hG hg hE hl hm hle hP
    unfold rp at TK0
    go_wp2_with fail
    refine TK0.mono ?_
    rintro e w3 ⟨rfl, hP3, hg3⟩
    cases ht : (σ2.take (numsOf S) (.wd tkOr)).2 with
    | true =>
      obtain ⟨q, hq, hsc⟩ : ∃ q, σ2 = .live q ∧ sameC (tkAt (numsOf S) q) (.wd tkOr) = true := by
        cases σ2 with
        | dead q => simp only [St.take] at ht; cases ht
        | live q =>
          simp only [St.take] at ht
          split at ht
          · rename_i h9; exact ⟨q, rfl, h9⟩
          · cases ht
      subst hq
      have htk : (St.take (numsOf S) (.wd tkOr) (.live q)).1 = .live (nx (numsOf S) q) := by simp only [St.take, hsc, if_true]
      rw [htk] at hP3
      have hop : opk .ors (tkAt (numsOf S) q) = some 10 := by rw [op_ors]; rw [if_pos hsc]
      have hnx : q < nx (numsOf S) q ∧ nx (numsOf S) q ≤ S.size := by
        have hqs : q ≤ (numsOf S).length := by
          have := hP3.le
          have h8 : q ≤ nx (numsOf S) q := by unfold nx skip; omega
          have h9 : nx (numsOf S) q ≤ S.size := this
          rw [numsOf_len]; omega
        refine ⟨nx_lt hqs (fun e => ?_) (fun e => ?_), hP3.le⟩
        · rw [e] at hop; cases hop
        · rw [e] at hop; cases hop
      have HQ : Hid (Lp (numsOf S) .ors σ g (.live q) ∧ (q < nx (numsOf S) q ∧ nx (numsOf S) q ≤ S.size) ∧ opk .ors (tkAt (numsOf S) q) = some 10 ∧ S.size - q + 2 ≤ gk ∧ S.size - q ≤ σ.left S ∧ b < w.heap.size) := ⟨HI.out.2.1, hnx, hop, HI.out.2.2.1, HI.out.2.2.2.1, HI.out.2.2.2.2⟩
      have hS3 := HI.out.1.go HI.out.2.2.2.2 HLT.out hg3
      have HS3 : Hid (LvS S b B w w3 (gA k1 n1 t1 q1 l1 c1) g) := hS3
      obtain ⟨⟨x0, x1, x2, x3⟩, y0, y1, y2, y3⟩ := box_of2 hS3.hB
      have HLq : Hid (∀ w', w3.grownBy w' (some b) → PIn w' b S (.live (nx (numsOf S) q)) → Calls Tryd.prog 22 #[rp b] w' fun e w'' => GrP S (low .ors) (.live (nx (numsOf S) q)) b w' e w'') := fun w' hg' hp' =>
        HC.out _ w' (by have := HE.out.2.1; have := HQ.out.2.2.2.2.1; have := HQ.out.2.1; show S.size - nx (numsOf S) q ≤ n; omega) (HE.out.1.grown (grown_trans HS3.out.hg hg')) hp'
      have HP3 : Hid (∀ w', Below w3.heap.size w3 w' → PIn w' b S (.live (nx (numsOf S) q))) := fun w' hb => hP3.below hb
      have HKB : Hid (∀ w', w3.grownBy w' (some b) → (w'.cell? ⟨B, 0, none⟩ = some (.int .u8 (k1 : Int)) ∧ w'.cell? ⟨B, 1, none⟩ = some (.int .i64 n1) ∧ w'.cell? ⟨B, 2, none⟩ = some (.string t1) ∧ w'.cell? ⟨B, 3, none⟩ = some (.slice q1 l1 c1)) ∧ w'.frozen? ⟨B, 0, none⟩ = false ∧ w'.frozen? ⟨B, 1, none⟩ = false ∧ w'.frozen? ⟨B, 2, none⟩ = false ∧ w'.frozen? ⟨B, 3, none⟩ = false) := fun w' hg' => box_of2 (HS3.out.go HQ.out.2.2.2.2.2 HLT.out hg').hB
      have HPR : Hid (∀ (w4 w5 : World) (k5 : Nat) (n5 : Int) (t5 : ByteArray) (q5 : Option Addr) (l5 c5 : Nat) (h : GB), w3.grownBy w4 (some b) → w4.grownBy w5 (some b) → GIn w5 (fun i => w4.heap.size ≤ i) (gA k5 n5 t5 q5 l5 c5) h →
          Calls Tryd.prog 24 #[.int .u8 10, .agg (gA k1 n1 t1 q1 l1 c1), .agg (gA k5 n5 t5 q5 l5 c5)] w5 fun e w' => PrP (fun i => w.heap.size < i ∧ i ≠ B) (pair 10 g h) w5 e w') := fun w4 w5 k5 n5 t5 q5 l5 c5 h hg4 hg5 hG5 => by
        have hS5 := HS3.out.go HQ.out.2.2.2.2.2 HLT.out (grown_trans hg4 hg5)
        have hB3 := heap_lt HS3.out.hB
        have hz4 := hg4.size
        have hz5 := hg5.size
        have hlt := HLT.out
        exact pair_any 10 (by decide) _ g h k1 k5 n1 n5 t1 t5 q1 q5 l1 c1 l5 c5 w5 hS5.hG (hG5.wk fun i hi => by omega) (fun i hi => by omega)
      clear hP3 hg3 htk hop hnx hS3 HI ht hsc TK0
      unfold rp at HLq
      unfold gA at HPR
      have G0 : w3.grownBy w3.drew (some b) := grown_below (Below.refl _ _).drew _
      have P0 := HP3.out _ (Below.refl w3.heap.size w3).drew
      simp only []
      go_upto_region 3 with fail
      go_region_with (first
          | (go_at_call 24; refine (HPR.out _ _ _ _ _ _ _ _ _ G0 hg5 hG5).mono ?_; rintro e w6 ⟨k6, n6, t6, q6, l6, c6, rfl, hG6, hb6⟩; have G2 := grown_trans G1 (grown_below hb6 (some b)); obtain ⟨⟨s0, s1, s2, s3⟩, f0, f1, f2, f3⟩ := HKB.out w6 G2; unfold gA)
          | (go_at_call 22; refine (HLq.out _ G0 P0).mono ?_; rintro e w5 ⟨k5, n5, t5, q5, l5, c5, h, σ5, rfl, hG5, hP5, hg5, hF5⟩; have G1 := grown_trans G0 hg5; obtain ⟨⟨r0, r1, r2, r3⟩, _, _, _, _⟩ := HKB.out w5 G1; unfold gA; unfold gA at hG5)
          | fail)
      all_goals
        have hS6 := HS3.out.go HQ.out.2.2.2.2.2 HLT.out G2
        have HN : Hid (LvS S b B w w6 (gA k1 n1 t1 q1 l1 c1) g ∧ GIn w6 (fun i => w.heap.size < i ∧ i ≠ B) (gA k6 n6 t6 q6 l6 c6) (pair 10 g h) ∧ PIn w6 b S σ5 ∧ Lp (numsOf S) .ors σ (pair 10 g h) σ5 ∧ σ5.left S ≤ S.size - nx (numsOf S) q ∧ σ5.meas S + 1 ≤ gk) := ⟨hS6, hG6, hP5.below hb6, lp_step HQ.out.1 HQ.out.2.1.1 HQ.out.2.2.1 hF5, hF5.left, by
          have h1 := hF5.left
          have h2 := HQ.out.2.1
          have h3 := HQ.out.2.2.2.1
          have h4 : (St.live (nx (numsOf S) q)).left S = S.size - nx (numsOf S) q := rfl
          have h5 : σ5.meas S ≤ σ5.left S + 2 := by cases σ5 <;> simp [St.meas, St.left]
          omega⟩
        clear G0 G1 G2 P0 hG5 hP5 hg5 hF5 hG6 hb6 hS6 HPR HLq HP3 HKB x0 x1 x2 x3 y0 y1 y2 y3 r0 r1 r2 r3
        go_wp2_with fail
        go_roundg (gk - 1)
        case measure => have := HN.out.2.2.2.2.2; omega
        case rel =>
          have hN := HN.out
          have h1 := hN.1
          unfold gA at h1
          have hp := h1.put HLT.out hN.2.1
          exact ⟨k6, n6, t6, q6, l6, c6, pair 10 g h, σ5, hp.hB, hp.hz, hp.hG, hN.2.2.1.aside (set4_grown _ _ _ _ _ _) (by have := HQ.out.2.2.2.2.2; have := HLT.out; omega), hp.hg, HE.out.1.grown hp.hg, hN.2.2.2.1, by have := hN.2.2.2.2.2; omega, by have := hN.2.2.2.2.1; have := HQ.out.2.1; have := HQ.out.2.2.2.2.1; omega⟩
    | false =>
      have hno : ∀ q, σ2 = .live q → sameC (tkAt (numsOf S) q) (.wd tkOr) = false := by
        rintro q rfl
        cases h9 : sameC (tkAt (numsOf S) q) (.wd tkOr) with
        | false => rfl
        | true => simp only [St.take, h9, if_true] at ht; cases ht
      have hsame : (σ2.take (numsOf S) (.wd tkOr)).1 = σ2 := by
        cases σ2 with
        | dead q => rfl
        | live q => simp only [St.take, hno q rfl]; rfl
      rw [hsame] at hP3
      clear hsame ht
      have hS3 := HI.out.1.go HI.out.2.2.2.2 HLT.out hg3
      have hstop : ∀ q, σ2 = .live q → opk .ors (tkAt (numsOf S) q) = none := fun q hq => by rw [op_ors, hno q hq]; rfl
      clear hno
      have HFN := hS3.ends HI.out.2.2.2.2 hP3 (lp_stop HI.out.2.1 hstop)
      have HFH : Hid (_ ∧ GrP S (.lv .ors) σ b w _ _) := HFN
      obtain ⟨x0, x1, x2, x3⟩ := box_of hS3.hB
      have hz := hS3.hz
      unfold gz at hz
      obtain ⟨⟨z0, z1, z2, z3⟩, f0, f1, f2, f3⟩ := row4_cells hz
      clear HFN hS3 hz hP3 hg3 HI hstop TK0
      simp only []
      go_wp2_with fail
      exact bodyPost_ret (results_cell_row rfl _ _ w.heap.size 24 (gA k1 n1 t1 q1 l1 c1) (0, 0) _ rfl HFH.out.1 Tryd.underlying24 rfl size_guard) rfl HFH.out.2
set_option maxHeartbeats 4000000 in
set_option maxRecDepth 8000 in
theorem side_con (S : ByteArray) (b n : Nat) (CL : Con 36 S (low .ands) b n) : Con 22 S (.lv .ands) b n := by
  intro σ w hn hE hP
  have b0 := below_new w (.cells gz 24)
  have CL1 := CL σ _ hn (hE.below b0) (hP.below b0)
  have HE : Hid (Env w b ∧ σ.left S ≤ n ∧ S.size ≤ 16384) := ⟨hE, hn, hP.sz⟩
  have HC : Hid (Con 36 S (low .ands) b n) := CL
  have HFI : Hid (∀ (w1 : World) (k : Nat) (n : Int) (t : ByteArray) (q : Option Addr) (l c : Nat) (g : GB), GIn w1 (fun i => (w.alloc (.cells gz 24)).heap.size ≤ i) (gA k n t q l c) g → (w.alloc (.cells gz 24)).grownBy w1 (some b) → LvS S b w1.heap.size w (w1.alloc (.cells (gA k n t q l c) 24)) (gA k n t q l c) g ∧ w.heap.size < w1.heap.size) := fun w1 k n t q l c g h1 h2 => LvS.first h1 h2 hE.lt
  clear CL hn hE hP b0
  unfold gz gA at HFI
  unfold gz at CL1
  unfold rp at CL1 ⊢
  go_enter Tryd.func22, Tryd.ntmps22
  go_wp2_with fail
  refine CL1.mono ?_
  rintro e w1 ⟨k1, n1, t1, q1, l1, c1, g, σ1, rfl, hG, hP1, hg1, hF⟩
  obtain ⟨hS, hlt⟩ := HFI.out w1 k1 n1 t1 q1 l1 c1 g (by unfold gA at hG; exact hG) hg1
  have hP2 := hP1.below (below_new w1 (.cells (gA k1 n1 t1 q1 l1 c1) 24))
  have HS : Hid (LvS S b w1.heap.size w (w1.alloc (.cells (gA k1 n1 t1 q1 l1 c1) 24)) (gA k1 n1 t1 q1 l1 c1) g ∧ PIn (w1.alloc (.cells (gA k1 n1 t1 q1 l1 c1) 24)) b S σ1 ∧ Lp (numsOf S) .ands σ g σ1 ∧ σ1.left S ≤ σ.left S) := ⟨hS, hP2, lp_start hF, hF.left⟩
  have HLT : Hid (w.heap.size < w1.heap.size) := hlt
  clear CL1 HFI hG hP1 hg1 hF hS hP2 hlt
  unfold gA
  unfold gA at HS
  simp only []
  go_wp2_with fail
  obtain ⟨B, hB⟩ : ∃ B, w1.heap.size = B := ⟨_, rfl⟩
  rw [hB] at HS HLT ⊢
  refine wp_at (fun W => LvS S b B w W _ g ∧ PIn W b S σ1) ⟨HS.out.1, HS.out.2.1⟩ (fun w2 H2 => ?_)
  have HL0 : Hid (Lp (numsOf S) .ands σ g σ1 ∧ σ1.left S ≤ σ.left S) := HS.out.2.2
  have H2H : Hid (LvS S b B w w2 _ g ∧ PIn w2 b S σ1) := H2
  clear HS hB H2
  go_loopg [] (σ1.meas S) (fun gk wr => LvI S .ands σ b B w gk wr)
  case atStart => exact ⟨k1, n1, t1, q1, l1, c1, g, σ1, H2H.out.1.hB, H2H.out.1.hz, H2H.out.1.hG, H2H.out.2, H2H.out.1.hg, HE.out.1.grown H2H.out.1.hg, HL0.out.1, Nat.le_refl _, HL0.out.2⟩
  case round =>
    clear H2H HL0
    obtain ⟨k1, n1, t1, q1, l1, c1, g, σ2, hB, hz, hG, hP, hg, hE, hl, hm, hle⟩ := hrel
    have HI : Hid (LvS S b B w wr (gA k1 n1 t1 q1 l1 c1) g ∧ Lp (numsOf S) .ands σ g σ2 ∧ σ2.meas S ≤ gk ∧ σ2.left S ≤ σ.left S ∧ b < w.heap.size) := ⟨⟨hB, hz, hG, hg⟩, hl, hm, hle, HE.out.1.lt⟩
    have TK0 := takes_any S b (.wd tkAnd) vt_and ⟨#[97, 110, 100]⟩ (by decide) σ2 wr hE hP
    clear hB hz hG hg hE hl hm hle hP
    unfold rp at TK0
    go_wp2_with fail
    refine TK0.mono ?_
    rintro e w3 ⟨rfl, hP3, hg3⟩
    cases ht : (σ2.take (numsOf S) (.wd tkAnd)).2 with
    | true =>
      obtain ⟨q, hq, hsc⟩ : ∃ q, σ2 = .live q ∧ sameC (tkAt (numsOf S) q) (.wd tkAnd) = true := by
        cases σ2 with
        | dead q => simp only [St.take] at ht; cases ht
        | live q =>
          simp only [St.take] at ht
          split at ht
          · rename_i h9; exact ⟨q, rfl, h9⟩
          · cases ht
      subst hq
      have htk : (St.take (numsOf S) (.wd tkAnd) (.live q)).1 = .live (nx (numsOf S) q) := by simp only [St.take, hsc, if_true]
      rw [htk] at hP3
      have hop : opk .ands (tkAt (numsOf S) q) = some 9 := by rw [op_ands]; rw [if_pos hsc]
      have hnx : q < nx (numsOf S) q ∧ nx (numsOf S) q ≤ S.size := by
        have hqs : q ≤ (numsOf S).length := by
          have := hP3.le
          have h8 : q ≤ nx (numsOf S) q := by unfold nx skip; omega
          have h9 : nx (numsOf S) q ≤ S.size := this
          rw [numsOf_len]; omega
        refine ⟨nx_lt hqs (fun e => ?_) (fun e => ?_), hP3.le⟩
        · rw [e] at hop; cases hop
        · rw [e] at hop; cases hop
      have HQ : Hid (Lp (numsOf S) .ands σ g (.live q) ∧ (q < nx (numsOf S) q ∧ nx (numsOf S) q ≤ S.size) ∧ opk .ands (tkAt (numsOf S) q) = some 9 ∧ S.size - q + 2 ≤ gk ∧ S.size - q ≤ σ.left S ∧ b < w.heap.size) := ⟨HI.out.2.1, hnx, hop, HI.out.2.2.1, HI.out.2.2.2.1, HI.out.2.2.2.2⟩
      have hS3 := HI.out.1.go HI.out.2.2.2.2 HLT.out hg3
      have HS3 : Hid (LvS S b B w w3 (gA k1 n1 t1 q1 l1 c1) g) := hS3
      obtain ⟨⟨x0, x1, x2, x3⟩, y0, y1, y2, y3⟩ := box_of2 hS3.hB
      have HLq : Hid (∀ w', w3.grownBy w' (some b) → PIn w' b S (.live (nx (numsOf S) q)) → Calls Tryd.prog 36 #[rp b] w' fun e w'' => GrP S (low .ands) (.live (nx (numsOf S) q)) b w' e w'') := fun w' hg' hp' =>
        HC.out _ w' (by have := HE.out.2.1; have := HQ.out.2.2.2.2.1; have := HQ.out.2.1; show S.size - nx (numsOf S) q ≤ n; omega) (HE.out.1.grown (grown_trans HS3.out.hg hg')) hp'
      have HP3 : Hid (∀ w', Below w3.heap.size w3 w' → PIn w' b S (.live (nx (numsOf S) q))) := fun w' hb => hP3.below hb
      have HKB : Hid (∀ w', w3.grownBy w' (some b) → (w'.cell? ⟨B, 0, none⟩ = some (.int .u8 (k1 : Int)) ∧ w'.cell? ⟨B, 1, none⟩ = some (.int .i64 n1) ∧ w'.cell? ⟨B, 2, none⟩ = some (.string t1) ∧ w'.cell? ⟨B, 3, none⟩ = some (.slice q1 l1 c1)) ∧ w'.frozen? ⟨B, 0, none⟩ = false ∧ w'.frozen? ⟨B, 1, none⟩ = false ∧ w'.frozen? ⟨B, 2, none⟩ = false ∧ w'.frozen? ⟨B, 3, none⟩ = false) := fun w' hg' => box_of2 (HS3.out.go HQ.out.2.2.2.2.2 HLT.out hg').hB
      have HPR : Hid (∀ (w4 w5 : World) (k5 : Nat) (n5 : Int) (t5 : ByteArray) (q5 : Option Addr) (l5 c5 : Nat) (h : GB), w3.grownBy w4 (some b) → w4.grownBy w5 (some b) → GIn w5 (fun i => w4.heap.size ≤ i) (gA k5 n5 t5 q5 l5 c5) h →
          Calls Tryd.prog 24 #[.int .u8 9, .agg (gA k1 n1 t1 q1 l1 c1), .agg (gA k5 n5 t5 q5 l5 c5)] w5 fun e w' => PrP (fun i => w.heap.size < i ∧ i ≠ B) (pair 9 g h) w5 e w') := fun w4 w5 k5 n5 t5 q5 l5 c5 h hg4 hg5 hG5 => by
        have hS5 := HS3.out.go HQ.out.2.2.2.2.2 HLT.out (grown_trans hg4 hg5)
        have hB3 := heap_lt HS3.out.hB
        have hz4 := hg4.size
        have hz5 := hg5.size
        have hlt := HLT.out
        exact pair_any 9 (by decide) _ g h k1 k5 n1 n5 t1 t5 q1 q5 l1 c1 l5 c5 w5 hS5.hG (hG5.wk fun i hi => by omega) (fun i hi => by omega)
      clear hP3 hg3 htk hop hnx hS3 HI ht hsc TK0
      unfold rp at HLq
      unfold gA at HPR
      have G0 : w3.grownBy w3.drew (some b) := grown_below (Below.refl _ _).drew _
      have P0 := HP3.out _ (Below.refl w3.heap.size w3).drew
      simp only []
      go_upto_region 3 with fail
      go_region_with (first
          | (go_at_call 24; refine (HPR.out _ _ _ _ _ _ _ _ _ G0 hg5 hG5).mono ?_; rintro e w6 ⟨k6, n6, t6, q6, l6, c6, rfl, hG6, hb6⟩; have G2 := grown_trans G1 (grown_below hb6 (some b)); obtain ⟨⟨s0, s1, s2, s3⟩, f0, f1, f2, f3⟩ := HKB.out w6 G2; unfold gA)
          | (go_at_call 36; refine (HLq.out _ G0 P0).mono ?_; rintro e w5 ⟨k5, n5, t5, q5, l5, c5, h, σ5, rfl, hG5, hP5, hg5, hF5⟩; have G1 := grown_trans G0 hg5; obtain ⟨⟨r0, r1, r2, r3⟩, _, _, _, _⟩ := HKB.out w5 G1; unfold gA; unfold gA at hG5)
          | fail)
      all_goals
        have hS6 := HS3.out.go HQ.out.2.2.2.2.2 HLT.out G2
        have HN : Hid (LvS S b B w w6 (gA k1 n1 t1 q1 l1 c1) g ∧ GIn w6 (fun i => w.heap.size < i ∧ i ≠ B) (gA k6 n6 t6 q6 l6 c6) (pair 9 g h) ∧ PIn w6 b S σ5 ∧ Lp (numsOf S) .ands σ (pair 9 g h) σ5 ∧ σ5.left S ≤ S.size - nx (numsOf S) q ∧ σ5.meas S + 1 ≤ gk) := ⟨hS6, hG6, hP5.below hb6, lp_step HQ.out.1 HQ.out.2.1.1 HQ.out.2.2.1 hF5, hF5.left, by
          have h1 := hF5.left
          have h2 := HQ.out.2.1
          have h3 := HQ.out.2.2.2.1
          have h4 : (St.live (nx (numsOf S) q)).left S = S.size - nx (numsOf S) q := rfl
          have h5 : σ5.meas S ≤ σ5.left S + 2 := by cases σ5 <;> simp [St.meas, St.left]
          omega⟩
        clear G0 G1 G2 P0 hG5 hP5 hg5 hF5 hG6 hb6 hS6 HPR HLq HP3 HKB x0 x1 x2 x3 y0 y1 y2 y3 r0 r1 r2 r3
        go_wp2_with fail
        go_roundg (gk - 1)
        case measure => have := HN.out.2.2.2.2.2; omega
        case rel =>
          have hN := HN.out
          have h1 := hN.1
          unfold gA at h1
          have hp := h1.put HLT.out hN.2.1
          exact ⟨k6, n6, t6, q6, l6, c6, pair 9 g h, σ5, hp.hB, hp.hz, hp.hG, hN.2.2.1.aside (set4_grown _ _ _ _ _ _) (by have := HQ.out.2.2.2.2.2; have := HLT.out; omega), hp.hg, HE.out.1.grown hp.hg, hN.2.2.2.1, by have := hN.2.2.2.2.2; omega, by have := hN.2.2.2.2.1; have := HQ.out.2.1; have := HQ.out.2.2.2.2.1; omega⟩
    | false =>
      have hno : ∀ q, σ2 = .live q → sameC (tkAt (numsOf S) q) (.wd tkAnd) = false := by
        rintro q rfl
        cases h9 : sameC (tkAt (numsOf S) q) (.wd tkAnd) with
        | false => rfl
        | true => simp only [St.take, h9, if_true] at ht; cases ht
      have hsame : (σ2.take (numsOf S) (.wd tkAnd)).1 = σ2 := by
        cases σ2 with
        | dead q => rfl
        | live q => simp only [St.take, hno q rfl]; rfl
      rw [hsame] at hP3
      clear hsame ht
      have hS3 := HI.out.1.go HI.out.2.2.2.2 HLT.out hg3
      have hstop : ∀ q, σ2 = .live q → opk .ands (tkAt (numsOf S) q) = none := fun q hq => by rw [op_ands, hno q hq]; rfl
      clear hno
      have HFN := hS3.ends HI.out.2.2.2.2 hP3 (lp_stop HI.out.2.1 hstop)
      have HFH : Hid (_ ∧ GrP S (.lv .ands) σ b w _ _) := HFN
      obtain ⟨x0, x1, x2, x3⟩ := box_of hS3.hB
      have hz := hS3.hz
      unfold gz at hz
      obtain ⟨⟨z0, z1, z2, z3⟩, f0, f1, f2, f3⟩ := row4_cells hz
      clear HFN hS3 hz hP3 hg3 HI hstop TK0
      simp only []
      go_wp2_with fail
      exact bodyPost_ret (results_cell_row rfl _ _ w.heap.size 24 (gA k1 n1 t1 q1 l1 c1) (0, 0) _ rfl HFH.out.1 Tryd.underlying24 rfl size_guard) rfl HFH.out.2
set_option maxHeartbeats 4000000 in
set_option maxRecDepth 8000 in
theorem product_con (S : ByteArray) (b n : Nat) (CL : Con 66 S (low .prods) b n) : Con 58 S (.lv .prods) b n := by
  intro σ w hn hE hP
  have b0 := below_new w (.cells gz 24)
  have CL1 := CL σ _ hn (hE.below b0) (hP.below b0)
  have HE : Hid (Env w b ∧ σ.left S ≤ n ∧ S.size ≤ 16384) := ⟨hE, hn, hP.sz⟩
  have HC : Hid (Con 66 S (low .prods) b n) := CL
  have HFI : Hid (∀ (w1 : World) (k : Nat) (n : Int) (t : ByteArray) (q : Option Addr) (l c : Nat) (g : GB), GIn w1 (fun i => (w.alloc (.cells gz 24)).heap.size ≤ i) (gA k n t q l c) g → (w.alloc (.cells gz 24)).grownBy w1 (some b) → LvS S b w1.heap.size w (w1.alloc (.cells (gA k n t q l c) 24)) (gA k n t q l c) g ∧ w.heap.size < w1.heap.size) := fun w1 k n t q l c g h1 h2 => LvS.first h1 h2 hE.lt
  clear CL hn hE hP b0
  unfold gz gA at HFI
  unfold gz at CL1
  unfold rp at CL1 ⊢
  go_enter Tryd.func58, Tryd.ntmps58
  go_wp2_with fail
  refine CL1.mono ?_
  rintro e w1 ⟨k1, n1, t1, q1, l1, c1, g, σ1, rfl, hG, hP1, hg1, hF⟩
  obtain ⟨hS, hlt⟩ := HFI.out w1 k1 n1 t1 q1 l1 c1 g (by unfold gA at hG; exact hG) hg1
  have hP2 := hP1.below (below_new w1 (.cells (gA k1 n1 t1 q1 l1 c1) 24))
  have HS : Hid (LvS S b w1.heap.size w (w1.alloc (.cells (gA k1 n1 t1 q1 l1 c1) 24)) (gA k1 n1 t1 q1 l1 c1) g ∧ PIn (w1.alloc (.cells (gA k1 n1 t1 q1 l1 c1) 24)) b S σ1 ∧ Lp (numsOf S) .prods σ g σ1 ∧ σ1.left S ≤ σ.left S) := ⟨hS, hP2, lp_start hF, hF.left⟩
  have HLT : Hid (w.heap.size < w1.heap.size) := hlt
  clear CL1 HFI hG hP1 hg1 hF hS hP2 hlt
  unfold gA
  unfold gA at HS
  simp only []
  go_wp2_with fail
  obtain ⟨B, hB⟩ : ∃ B, w1.heap.size = B := ⟨_, rfl⟩
  rw [hB] at HS HLT ⊢
  refine wp_at (fun W => LvS S b B w W _ g ∧ PIn W b S σ1) ⟨HS.out.1, HS.out.2.1⟩ (fun w2 H2 => ?_)
  have HL0 : Hid (Lp (numsOf S) .prods σ g σ1 ∧ σ1.left S ≤ σ.left S) := HS.out.2.2
  have H2H : Hid (LvS S b B w w2 _ g ∧ PIn w2 b S σ1) := H2
  clear HS hB H2
  go_loopg [] (σ1.meas S) (fun gk wr => LvI S .prods σ b B w gk wr)
  case atStart => exact ⟨k1, n1, t1, q1, l1, c1, g, σ1, H2H.out.1.hB, H2H.out.1.hz, H2H.out.1.hG, H2H.out.2, H2H.out.1.hg, HE.out.1.grown H2H.out.1.hg, HL0.out.1, Nat.le_refl _, HL0.out.2⟩
  case round =>
    clear H2H HL0
    obtain ⟨k1, n1, t1, q1, l1, c1, g, σ2, hB, hz, hG, hP, hg, hE, hl, hm, hle⟩ := hrel
    have HI : Hid (LvS S b B w wr (gA k1 n1 t1 q1 l1 c1) g ∧ Lp (numsOf S) .prods σ g σ2 ∧ σ2.meas S ≤ gk ∧ σ2.left S ≤ σ.left S ∧ b < w.heap.size) := ⟨⟨hB, hz, hG, hg⟩, hl, hm, hle, HE.out.1.lt⟩
    have TK0 := takes_any S b (.sg 42) (vt_sg rfl) ⟨#[42]⟩ (by decide) σ2 wr hE hP
    clear hB hz hG hg hE hl hm hle hP
    unfold rp at TK0
    go_wp2_with fail
    refine TK0.mono ?_
    rintro e w3 ⟨rfl, hP3, hg3⟩
    cases ht : (σ2.take (numsOf S) (.sg 42)).2 with
    | true =>
      obtain ⟨q, hq, hsc⟩ : ∃ q, σ2 = .live q ∧ sameC (tkAt (numsOf S) q) (.sg 42) = true := by
        cases σ2 with
        | dead q => simp only [St.take] at ht; cases ht
        | live q =>
          simp only [St.take] at ht
          split at ht
          · rename_i h9; exact ⟨q, rfl, h9⟩
          · cases ht
      subst hq
      have htk : (St.take (numsOf S) (.sg 42) (.live q)).1 = .live (nx (numsOf S) q) := by simp only [St.take, hsc, if_true]
      rw [htk] at hP3
      have hop : opk .prods (tkAt (numsOf S) q) = some 15 := by rw [op_prods]; rw [if_pos hsc]
      have hnx : q < nx (numsOf S) q ∧ nx (numsOf S) q ≤ S.size := by
        have hqs : q ≤ (numsOf S).length := by
          have := hP3.le
          have h8 : q ≤ nx (numsOf S) q := by unfold nx skip; omega
          have h9 : nx (numsOf S) q ≤ S.size := this
          rw [numsOf_len]; omega
        refine ⟨nx_lt hqs (fun e => ?_) (fun e => ?_), hP3.le⟩
        · rw [e] at hop; cases hop
        · rw [e] at hop; cases hop
      have HQ : Hid (Lp (numsOf S) .prods σ g (.live q) ∧ (q < nx (numsOf S) q ∧ nx (numsOf S) q ≤ S.size) ∧ opk .prods (tkAt (numsOf S) q) = some 15 ∧ S.size - q + 2 ≤ gk ∧ S.size - q ≤ σ.left S ∧ b < w.heap.size) := ⟨HI.out.2.1, hnx, hop, HI.out.2.2.1, HI.out.2.2.2.1, HI.out.2.2.2.2⟩
      have hS3 := HI.out.1.go HI.out.2.2.2.2 HLT.out hg3
      have HS3 : Hid (LvS S b B w w3 (gA k1 n1 t1 q1 l1 c1) g) := hS3
      obtain ⟨⟨x0, x1, x2, x3⟩, y0, y1, y2, y3⟩ := box_of2 hS3.hB
      have HLq : Hid (∀ w', w3.grownBy w' (some b) → PIn w' b S (.live (nx (numsOf S) q)) → Calls Tryd.prog 66 #[rp b] w' fun e w'' => GrP S (low .prods) (.live (nx (numsOf S) q)) b w' e w'') := fun w' hg' hp' =>
        HC.out _ w' (by have := HE.out.2.1; have := HQ.out.2.2.2.2.1; have := HQ.out.2.1; show S.size - nx (numsOf S) q ≤ n; omega) (HE.out.1.grown (grown_trans HS3.out.hg hg')) hp'
      have HP3 : Hid (∀ w', Below w3.heap.size w3 w' → PIn w' b S (.live (nx (numsOf S) q))) := fun w' hb => hP3.below hb
      have HKB : Hid (∀ w', w3.grownBy w' (some b) → (w'.cell? ⟨B, 0, none⟩ = some (.int .u8 (k1 : Int)) ∧ w'.cell? ⟨B, 1, none⟩ = some (.int .i64 n1) ∧ w'.cell? ⟨B, 2, none⟩ = some (.string t1) ∧ w'.cell? ⟨B, 3, none⟩ = some (.slice q1 l1 c1)) ∧ w'.frozen? ⟨B, 0, none⟩ = false ∧ w'.frozen? ⟨B, 1, none⟩ = false ∧ w'.frozen? ⟨B, 2, none⟩ = false ∧ w'.frozen? ⟨B, 3, none⟩ = false) := fun w' hg' => box_of2 (HS3.out.go HQ.out.2.2.2.2.2 HLT.out hg').hB
      have HPR : Hid (∀ (w4 w5 : World) (k5 : Nat) (n5 : Int) (t5 : ByteArray) (q5 : Option Addr) (l5 c5 : Nat) (h : GB), w3.grownBy w4 (some b) → w4.grownBy w5 (some b) → GIn w5 (fun i => w4.heap.size ≤ i) (gA k5 n5 t5 q5 l5 c5) h →
          Calls Tryd.prog 24 #[.int .u8 15, .agg (gA k1 n1 t1 q1 l1 c1), .agg (gA k5 n5 t5 q5 l5 c5)] w5 fun e w' => PrP (fun i => w.heap.size < i ∧ i ≠ B) (pair 15 g h) w5 e w') := fun w4 w5 k5 n5 t5 q5 l5 c5 h hg4 hg5 hG5 => by
        have hS5 := HS3.out.go HQ.out.2.2.2.2.2 HLT.out (grown_trans hg4 hg5)
        have hB3 := heap_lt HS3.out.hB
        have hz4 := hg4.size
        have hz5 := hg5.size
        have hlt := HLT.out
        exact pair_any 15 (by decide) _ g h k1 k5 n1 n5 t1 t5 q1 q5 l1 c1 l5 c5 w5 hS5.hG (hG5.wk fun i hi => by omega) (fun i hi => by omega)
      clear hP3 hg3 htk hop hnx hS3 HI ht hsc TK0
      unfold rp at HLq
      unfold gA at HPR
      have G0 : w3.grownBy w3.drew (some b) := grown_below (Below.refl _ _).drew _
      have P0 := HP3.out _ (Below.refl w3.heap.size w3).drew
      simp only []
      go_upto_region 3 with fail
      go_region_with (first
          | (go_at_call 24; refine (HPR.out _ _ _ _ _ _ _ _ _ G0 hg5 hG5).mono ?_; rintro e w6 ⟨k6, n6, t6, q6, l6, c6, rfl, hG6, hb6⟩; have G2 := grown_trans G1 (grown_below hb6 (some b)); obtain ⟨⟨s0, s1, s2, s3⟩, f0, f1, f2, f3⟩ := HKB.out w6 G2; unfold gA)
          | (go_at_call 66; refine (HLq.out _ G0 P0).mono ?_; rintro e w5 ⟨k5, n5, t5, q5, l5, c5, h, σ5, rfl, hG5, hP5, hg5, hF5⟩; have G1 := grown_trans G0 hg5; obtain ⟨⟨r0, r1, r2, r3⟩, _, _, _, _⟩ := HKB.out w5 G1; unfold gA; unfold gA at hG5)
          | fail)
      all_goals
        have hS6 := HS3.out.go HQ.out.2.2.2.2.2 HLT.out G2
        have HN : Hid (LvS S b B w w6 (gA k1 n1 t1 q1 l1 c1) g ∧ GIn w6 (fun i => w.heap.size < i ∧ i ≠ B) (gA k6 n6 t6 q6 l6 c6) (pair 15 g h) ∧ PIn w6 b S σ5 ∧ Lp (numsOf S) .prods σ (pair 15 g h) σ5 ∧ σ5.left S ≤ S.size - nx (numsOf S) q ∧ σ5.meas S + 1 ≤ gk) := ⟨hS6, hG6, hP5.below hb6, lp_step HQ.out.1 HQ.out.2.1.1 HQ.out.2.2.1 hF5, hF5.left, by
          have h1 := hF5.left
          have h2 := HQ.out.2.1
          have h3 := HQ.out.2.2.2.1
          have h4 : (St.live (nx (numsOf S) q)).left S = S.size - nx (numsOf S) q := rfl
          have h5 : σ5.meas S ≤ σ5.left S + 2 := by cases σ5 <;> simp [St.meas, St.left]
          omega⟩
        clear G0 G1 G2 P0 hG5 hP5 hg5 hF5 hG6 hb6 hS6 HPR HLq HP3 HKB x0 x1 x2 x3 y0 y1 y2 y3 r0 r1 r2 r3
        go_wp2_with fail
        go_roundg (gk - 1)
        case measure => have := HN.out.2.2.2.2.2; omega
        case rel =>
          have hN := HN.out
          have h1 := hN.1
          unfold gA at h1
          have hp := h1.put HLT.out hN.2.1
          exact ⟨k6, n6, t6, q6, l6, c6, pair 15 g h, σ5, hp.hB, hp.hz, hp.hG, hN.2.2.1.aside (set4_grown _ _ _ _ _ _) (by have := HQ.out.2.2.2.2.2; have := HLT.out; omega), hp.hg, HE.out.1.grown hp.hg, hN.2.2.2.1, by have := hN.2.2.2.2.2; omega, by have := hN.2.2.2.2.1; have := HQ.out.2.1; have := HQ.out.2.2.2.2.1; omega⟩
    | false =>
      have hno : ∀ q, σ2 = .live q → sameC (tkAt (numsOf S) q) (.sg 42) = false := by
        rintro q rfl
        cases h9 : sameC (tkAt (numsOf S) q) (.sg 42) with
        | false => rfl
        | true => simp only [St.take, h9, if_true] at ht; cases ht
      have hsame : (σ2.take (numsOf S) (.sg 42)).1 = σ2 := by
        cases σ2 with
        | dead q => rfl
        | live q => simp only [St.take, hno q rfl]; rfl
      rw [hsame] at hP3
      clear hsame ht
      have hS3 := HI.out.1.go HI.out.2.2.2.2 HLT.out hg3
      have hstop : ∀ q, σ2 = .live q → opk .prods (tkAt (numsOf S) q) = none := fun q hq => by rw [op_prods, hno q hq]; rfl
      clear hno
      have HFN := hS3.ends HI.out.2.2.2.2 hP3 (lp_stop HI.out.2.1 hstop)
      have HFH : Hid (_ ∧ GrP S (.lv .prods) σ b w _ _) := HFN
      obtain ⟨x0, x1, x2, x3⟩ := box_of hS3.hB
      have hz := hS3.hz
      unfold gz at hz
      obtain ⟨⟨z0, z1, z2, z3⟩, f0, f1, f2, f3⟩ := row4_cells hz
      clear HFN hS3 hz hP3 hg3 HI hstop TK0
      simp only []
      go_wp2_with fail
      exact bodyPost_ret (results_cell_row rfl _ _ w.heap.size 24 (gA k1 n1 t1 q1 l1 c1) (0, 0) _ rfl HFH.out.1 Tryd.underlying24 rfl size_guard) rfl HFH.out.2
end Go.Proofs.YtkcmidhpbaepoaaDoor.G
