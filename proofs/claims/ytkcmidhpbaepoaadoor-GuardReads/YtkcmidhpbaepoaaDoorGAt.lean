/-
  The program's atoms. Written by tools/gen_gat.py.
-/
import Derived.Test.YtkcmidhpbaepoaaDoorGBrk
namespace Go.Proofs.YtkcmidhpbaepoaaDoor.G
open Go.RowKit Go.WideShapes Go.Joins

theorem vt_true : Vt (.wd tkTrue) := by unfold Vt; decide
theorem vt_false : Vt (.wd tkFalse) := by unfold Vt; decide
theorem vt_open : Vt (.wd tkOpen) := by unfold Vt; decide
theorem vt_done : Vt (.wd tkDone) := by unfold Vt; decide
/-- the result's box, and the token's copy -/
structure AtW (S : ByteArray) (b : Nat) (σ : St) (w : World) (A : Array Value) (w1 : World) : Prop where
  R : w1.heap[w.heap.size]? = some (.cells #[.int .u8 0, .int .i64 0, .string ⟨#[]⟩, .slice none 0 0] 24 (0, 0))
  T : w1.heap[w.heap.size + 1]? = some (.cells A 33 (0, 0))
  G : w.grownBy w1 (some b)
  P : PIn w1 b S σ
theorem AtW.new {S : ByteArray} {b : Nat} {σ : St} {w : World} (h : PIn w b S σ) (A : Array Value) : AtW S b σ w A ((w.alloc (.cells #[.int .u8 0, .int .i64 0, .string ⟨#[]⟩, .slice none 0 0] 24)).alloc (.cells A 33)) := by
  have b1 := below_new w (.cells #[.int .u8 0, .int .i64 0, .string ⟨#[]⟩, .slice none 0 0] 24)
  have n1 := _root_.Go.heap_alloc_new w (.cells #[.int .u8 0, .int .i64 0, .string ⟨#[]⟩, .slice none 0 0] 24)
  have b2 := below_new (w.alloc (.cells #[.int .u8 0, .int .i64 0, .string ⟨#[]⟩, .slice none 0 0] 24)) (.cells A 33)
  have n2 := _root_.Go.heap_alloc_new (w.alloc (.cells #[.int .u8 0, .int .i64 0, .string ⟨#[]⟩, .slice none 0 0] 24)) (.cells A 33)
  rw [World.size_alloc] at n2
  exact ⟨box_below n1 b2, n2, grown_below (below_more b1 b2) _, (h.below b1).below b2⟩
theorem AtW.go {S : ByteArray} {b : Nat} {σ σ' : St} {w w1 w2 : World} {A : Array Value} (h : AtW S b σ w A w1) (hb : b < w.heap.size) (hP : PIn w2 b S σ') (hg : w1.grownBy w2 (some b)) : AtW S b σ' w A w2 :=
  ⟨box_at hg h.R (fun e => by cases e; omega), box_at hg h.T (fun e => by cases e; omega), grown_trans h.G hg, hP⟩
theorem AtW.sz {S : ByteArray} {b : Nat} {σ : St} {w w1 : World} {A : Array Value} (h : AtW S b σ w A w1) : w.heap.size + 1 < w1.heap.size := heap_lt h.T
/-- an atom told -/
theorem AtW.ends {S : ByteArray} {b : Nat} {σ σ' : St} {w w1 : World} {A : Array Value} (h : AtW S b σ' w A w1) (hb : b < w.heap.size) {k : Nat} {n : Int} {t : ByteArray} {q : Option Addr} {l c : Nat} {g : GB} (hG : GIn w1 (fun i => w.heap.size < i) (gA k n t q l c) g) (hF : Fin (numsOf S) .atom σ g σ') :
    (set4 w1 w.heap.size (.int .u8 (k : Int)) (.int .i64 n) (.string t) (.slice q l c)).heap[w.heap.size]? = some (.cells (gA k n t q l c) 24 (0, 0)) ∧
    GrP S .atom σ b w (.returned (.agg (gA k n t q l c))) (set4 w1 w.heap.size (.int .u8 (k : Int)) (.int .i64 n) (.string t) (.slice q l c)) :=
  ⟨set4_heap h.R _ _ _ _, k, n, t, q, l, c, g, σ', rfl, (hG.grown (set4_grown _ _ _ _ _ _) (fun i hi => by omega)).wk (fun i hi => by omega), h.P.aside (set4_grown _ _ _ _ _ _) (by omega), grown_new h.G (set4_grown _ _ _ _ _ _) (Nat.le_refl _), hF⟩
theorem St.take_no {S : List Nat} {t : Tk} {p : Nat} (h : ¬ sameC (tkAt S p) t = true) : ((St.live p).take S t).2 = false := by
  simp only [St.take]
  rw [if_neg h]
theorem wd_same (t : Tk) (v : List Nat) : sameC t (.wd v) = true ↔ t = .wd v := by
  cases t <;> simp [sameC]
theorem tok_q {S : ByteArray} {p : Nat} (h : p ≤ S.size) (h1 : tkAt (numsOf S) p ≠ .fin) (h2 : tkAt (numsOf S) p ≠ .non) : p < nx (numsOf S) p := nx_lt (by rw [numsOf_len]; exact h) h1 h2
set_option maxHeartbeats 800000 in
set_option maxRecDepth 8000 in
theorem atom_leaf0 (S : ByteArray) (b p : Nat) (w : World) (hE : Env w b) (hP : PIn w b S (.live p)) (htk : tkAt (numsOf S) p = .wd tkTrue) : Calls Tryd.prog 66 #[rp b] w fun e w' => GrP S .atom (.live p) b w e w' := by
  have hB := hP.liv p rfl
  have HE : Hid (Env w b ∧ b < w.heap.size) := ⟨hE, hE.lt⟩
  obtain ⟨⟨c0, c1, c2, c3, c4, c5, c6⟩, _, _, _, _, _, _⟩ := row7_cells (box_below hB (below_new w (.cells #[.int .u8 0, .int .i64 0, .string ⟨#[]⟩, .slice none 0 0] 24)))
  have HA := fun A => AtW.new hP A
  have Y := fun w' h1 h2 => takes_yes S b (.wd tkTrue) vt_true ⟨#[116, 114, 117, 101]⟩ (by decide) p w' h1 h2 (by rw [htk]; decide)
  have HF : Hid (Fin (numsOf S) .atom (.live p) (leaf 1) (.live (nx (numsOf S) p))) := ⟨_, _, .leaf (by rw [htk]; rfl), rfl, rfl, tok_q hP.le (by rw [htk]; simp) (by rw [htk]; simp)⟩
  rw [htk] at c1 c4 c5
  simp only [what, txt, num] at c1 c4 c5
  clear hB hE hP htk
  unfold rp
  go_enter Tryd.func66, Tryd.ntmps66
  go_upto_region 2 with fail
  refine wp_at (AtW S b _ w _) (HA _) (fun w1 H1 => ?_)
  have HW1 : Hid (AtW S b _ w _ w1) := H1
  clear H1 HA c0 c1 c2 c3 c4 c5 c6
  have MY := Y w1 (HE.out.1.grown HW1.out.G) HW1.out.P
  clear Y
  unfold rp at MY
  go_wp2_with fail
  refine MY.mono ?_
  rintro e w2 ⟨rfl, hP2, hg2⟩
  have H2 := HW1.out.go HE.out.2 hP2 hg2
  obtain ⟨⟨x0, x1, x2, x3⟩, f0, f1, f2, f3⟩ := row4_cells H2.R
  obtain ⟨⟨k0, k1, k2, k3, k4⟩, _, _, _, _, _⟩ := row5_cells H2.T
  clear MY hP2 hg2
  simp only []
  go_wp2_with fail
  have HH2 : Hid (AtW S b _ w _ w2) := H2
  clear H2 x0 x1 x2 x3 f0 f1 f2 f3 k0 k1 k2 k3 k4
  refine bodyPost_ret (results_cell_row rfl _ _ w.heap.size 24 (gA 1 0 ByteArray.empty none 0 0) (0, 0) _ rfl (set4_heap HH2.out.R _ _ _ _) Tryd.underlying24 rfl size_guard) rfl ?_
  exact ⟨1, 0, ByteArray.empty, none, 0, 0, (leaf 1), _, rfl, gin_leaf _ _ 1 0 ByteArray.empty (by decide) rng_zero, HH2.out.P.aside (set4_grown _ _ _ _ _ _) (by have := HE.out.2; omega), grown_new HH2.out.G (set4_grown _ _ _ _ _ _) (Nat.le_refl _), HF.out⟩
set_option maxHeartbeats 800000 in
set_option maxRecDepth 8000 in
theorem atom_leaf1 (S : ByteArray) (b p : Nat) (w : World) (hE : Env w b) (hP : PIn w b S (.live p)) (htk : tkAt (numsOf S) p = .wd tkFalse) : Calls Tryd.prog 66 #[rp b] w fun e w' => GrP S .atom (.live p) b w e w' := by
  have hB := hP.liv p rfl
  have HE : Hid (Env w b ∧ b < w.heap.size) := ⟨hE, hE.lt⟩
  obtain ⟨⟨c0, c1, c2, c3, c4, c5, c6⟩, _, _, _, _, _, _⟩ := row7_cells (box_below hB (below_new w (.cells #[.int .u8 0, .int .i64 0, .string ⟨#[]⟩, .slice none 0 0] 24)))
  have HA := fun A => AtW.new hP A
  have h0 : ((St.live p).take (numsOf S) (.wd tkTrue)).2 = false := St.take_no (by rw [htk]; decide)
  have N0 := fun w' h => takes_no S b (.wd tkTrue) vt_true ⟨#[116, 114, 117, 101]⟩ (by decide) (.live p) w' h h0
  have Y := fun w' h1 h2 => takes_yes S b (.wd tkFalse) vt_false ⟨#[102, 97, 108, 115, 101]⟩ (by decide) p w' h1 h2 (by rw [htk]; decide)
  have HF : Hid (Fin (numsOf S) .atom (.live p) (leaf 2) (.live (nx (numsOf S) p))) := ⟨_, _, .leaf (by rw [htk]; rfl), rfl, rfl, tok_q hP.le (by rw [htk]; simp) (by rw [htk]; simp)⟩
  rw [htk] at c1 c4 c5
  simp only [what, txt, num] at c1 c4 c5
  clear hB hE hP htk h0
  unfold rp at N0
  unfold rp
  go_enter Tryd.func66, Tryd.ntmps66
  go_upto_region 2 with fail
  refine wp_at (AtW S b _ w _) (HA _) (fun w1 H1 => ?_)
  have HW1 : Hid (AtW S b _ w _ w1) := H1
  clear H1 HA c0 c1 c2 c3 c4 c5 c6
  have M := N0 w1 HW1.out.P
  clear N0
  go_wp2_with fail
  refine M.mono ?_
  rintro e w9 ⟨rfl, hw9⟩
  rw [hw9]
  clear hw9 M
  simp only []
  have MY := Y w1 (HE.out.1.grown HW1.out.G) HW1.out.P
  clear Y
  unfold rp at MY
  go_wp2_with fail
  refine MY.mono ?_
  rintro e w2 ⟨rfl, hP2, hg2⟩
  have H2 := HW1.out.go HE.out.2 hP2 hg2
  obtain ⟨⟨x0, x1, x2, x3⟩, f0, f1, f2, f3⟩ := row4_cells H2.R
  obtain ⟨⟨k0, k1, k2, k3, k4⟩, _, _, _, _, _⟩ := row5_cells H2.T
  clear MY hP2 hg2
  simp only []
  go_wp2_with fail
  have HH2 : Hid (AtW S b _ w _ w2) := H2
  clear H2 x0 x1 x2 x3 f0 f1 f2 f3 k0 k1 k2 k3 k4
  refine bodyPost_ret (results_cell_row rfl _ _ w.heap.size 24 (gA 2 0 ByteArray.empty none 0 0) (0, 0) _ rfl (set4_heap HH2.out.R _ _ _ _) Tryd.underlying24 rfl size_guard) rfl ?_
  exact ⟨2, 0, ByteArray.empty, none, 0, 0, (leaf 2), _, rfl, gin_leaf _ _ 2 0 ByteArray.empty (by decide) rng_zero, HH2.out.P.aside (set4_grown _ _ _ _ _ _) (by have := HE.out.2; omega), grown_new HH2.out.G (set4_grown _ _ _ _ _ _) (Nat.le_refl _), HF.out⟩
set_option maxHeartbeats 800000 in
set_option maxRecDepth 8000 in
theorem atom_leaf2 (S : ByteArray) (b p : Nat) (n : Nat) (hn : n ≤ 9223372036854775807) (w : World) (hE : Env w b) (hP : PIn w b S (.live p)) (htk : tkAt (numsOf S) p = .nu n) : Calls Tryd.prog 66 #[rp b] w fun e w' => GrP S .atom (.live p) b w e w' := by
  have hB := hP.liv p rfl
  have HE : Hid (Env w b ∧ b < w.heap.size) := ⟨hE, hE.lt⟩
  obtain ⟨⟨c0, c1, c2, c3, c4, c5, c6⟩, _, _, _, _, _, _⟩ := row7_cells (box_below hB (below_new w (.cells #[.int .u8 0, .int .i64 0, .string ⟨#[]⟩, .slice none 0 0] 24)))
  have HA := fun A => AtW.new hP A
  have h0 : ((St.live p).take (numsOf S) (.wd tkTrue)).2 = false := St.take_no (by rw [htk]; simp [sameC])
  have h1 : ((St.live p).take (numsOf S) (.wd tkFalse)).2 = false := St.take_no (by rw [htk]; simp [sameC])
  have N0 := fun w' h => takes_no S b (.wd tkTrue) vt_true ⟨#[116, 114, 117, 101]⟩ (by decide) (.live p) w' h h0
  have N1 := fun w' h => takes_no S b (.wd tkFalse) vt_false ⟨#[102, 97, 108, 115, 101]⟩ (by decide) (.live p) w' h h1
  have Y := fun w' h1 h2 => takes_yes S b (.nu 0) trivial ⟨#[97, 32, 110, 117, 109, 98, 101, 114]⟩ (by decide) p w' h1 h2 (by rw [htk]; rfl)
  have HF : Hid (Fin (numsOf S) .atom (.live p) (.mk 3 n ByteArray.empty []) (.live (nx (numsOf S) p))) := ⟨_, _, .leaf (by rw [htk]; rfl), rfl, rfl, tok_q hP.le (by rw [htk]; simp) (by rw [htk]; simp)⟩
  have HN : Hid (J.Rng (n : Int)) := by show J.Rng _; unfold J.Rng; omega
  rw [htk] at c1 c4 c5
  simp only [what, txt, num] at c1 c4 c5
  clear hB hE hP htk h0 h1 hn
  unfold rp at N0
  unfold rp at N1
  unfold rp
  go_enter Tryd.func66, Tryd.ntmps66
  go_upto_region 2 with fail
  refine wp_at (AtW S b _ w _) (HA _) (fun w1 H1 => ?_)
  have HW1 : Hid (AtW S b _ w _ w1) := H1
  clear H1 HA c0 c1 c2 c3 c4 c5 c6
  have M := N0 w1 HW1.out.P
  clear N0
  go_wp2_with fail
  refine M.mono ?_
  rintro e w9 ⟨rfl, hw9⟩
  rw [hw9]
  clear hw9 M
  simp only []
  have M := N1 w1 HW1.out.P
  clear N1
  go_wp2_with fail
  refine M.mono ?_
  rintro e w9 ⟨rfl, hw9⟩
  rw [hw9]
  clear hw9 M
  simp only []
  have MY := Y w1 (HE.out.1.grown HW1.out.G) HW1.out.P
  clear Y
  unfold rp at MY
  go_wp2_with fail
  refine MY.mono ?_
  rintro e w2 ⟨rfl, hP2, hg2⟩
  have H2 := HW1.out.go HE.out.2 hP2 hg2
  obtain ⟨⟨x0, x1, x2, x3⟩, f0, f1, f2, f3⟩ := row4_cells H2.R
  obtain ⟨⟨k0, k1, k2, k3, k4⟩, _, _, _, _, _⟩ := row5_cells H2.T
  clear MY hP2 hg2
  simp only []
  go_wp2_with fail
  have HH2 : Hid (AtW S b _ w _ w2) := H2
  clear H2 x0 x1 x2 x3 f0 f1 f2 f3 k0 k1 k2 k3 k4
  refine bodyPost_ret (results_cell_row rfl _ _ w.heap.size 24 (gA 3 (n : Int) ByteArray.empty none 0 0) (0, 0) _ rfl (set4_heap HH2.out.R _ _ _ _) Tryd.underlying24 rfl size_guard) rfl ?_
  exact ⟨3, (n : Int), ByteArray.empty, none, 0, 0, (.mk 3 n ByteArray.empty []), _, rfl, gin_leaf _ _ 3 (n : Int) ByteArray.empty (by decide) HN.out, HH2.out.P.aside (set4_grown _ _ _ _ _ _) (by have := HE.out.2; omega), grown_new HH2.out.G (set4_grown _ _ _ _ _ _) (Nat.le_refl _), HF.out⟩
set_option maxHeartbeats 800000 in
set_option maxRecDepth 8000 in
theorem atom_leaf3 (S : ByteArray) (b p : Nat) (t : List Nat) (w : World) (hE : Env w b) (hP : PIn w b S (.live p)) (htk : tkAt (numsOf S) p = .tx t) : Calls Tryd.prog 66 #[rp b] w fun e w' => GrP S .atom (.live p) b w e w' := by
  have hB := hP.liv p rfl
  have HE : Hid (Env w b ∧ b < w.heap.size) := ⟨hE, hE.lt⟩
  obtain ⟨⟨c0, c1, c2, c3, c4, c5, c6⟩, _, _, _, _, _, _⟩ := row7_cells (box_below hB (below_new w (.cells #[.int .u8 0, .int .i64 0, .string ⟨#[]⟩, .slice none 0 0] 24)))
  have HA := fun A => AtW.new hP A
  have h0 : ((St.live p).take (numsOf S) (.wd tkTrue)).2 = false := St.take_no (by rw [htk]; simp [sameC])
  have h1 : ((St.live p).take (numsOf S) (.wd tkFalse)).2 = false := St.take_no (by rw [htk]; simp [sameC])
  have h2 : ((St.live p).take (numsOf S) (.nu 0)).2 = false := St.take_no (by rw [htk]; simp [sameC])
  have N0 := fun w' h => takes_no S b (.wd tkTrue) vt_true ⟨#[116, 114, 117, 101]⟩ (by decide) (.live p) w' h h0
  have N1 := fun w' h => takes_no S b (.wd tkFalse) vt_false ⟨#[102, 97, 108, 115, 101]⟩ (by decide) (.live p) w' h h1
  have N2 := fun w' h => takes_no S b (.nu 0) trivial ⟨#[97, 32, 110, 117, 109, 98, 101, 114]⟩ (by decide) (.live p) w' h h2
  have Y := fun w' h1 h2 => takes_yes S b (.tx []) trivial ⟨#[97, 32, 116, 101, 120, 116]⟩ (by decide) p w' h1 h2 (by rw [htk]; rfl)
  have HF : Hid (Fin (numsOf S) .atom (.live p) (named 4 t) (.live (nx (numsOf S) p))) := ⟨_, _, .leaf (by rw [htk]; rfl), rfl, rfl, tok_q hP.le (by rw [htk]; simp) (by rw [htk]; simp)⟩
  rw [htk] at c1 c4 c5
  simp only [what, txt, num] at c1 c4 c5
  clear hB hE hP htk h0 h1 h2
  unfold rp at N0
  unfold rp at N1
  unfold rp at N2
  unfold rp
  go_enter Tryd.func66, Tryd.ntmps66
  go_upto_region 2 with fail
  refine wp_at (AtW S b _ w _) (HA _) (fun w1 H1 => ?_)
  have HW1 : Hid (AtW S b _ w _ w1) := H1
  clear H1 HA c0 c1 c2 c3 c4 c5 c6
  have M := N0 w1 HW1.out.P
  clear N0
  go_wp2_with fail
  refine M.mono ?_
  rintro e w9 ⟨rfl, hw9⟩
  rw [hw9]
  clear hw9 M
  simp only []
  have M := N1 w1 HW1.out.P
  clear N1
  go_wp2_with fail
  refine M.mono ?_
  rintro e w9 ⟨rfl, hw9⟩
  rw [hw9]
  clear hw9 M
  simp only []
  have M := N2 w1 HW1.out.P
  clear N2
  go_wp2_with fail
  refine M.mono ?_
  rintro e w9 ⟨rfl, hw9⟩
  rw [hw9]
  clear hw9 M
  simp only []
  have MY := Y w1 (HE.out.1.grown HW1.out.G) HW1.out.P
  clear Y
  unfold rp at MY
  go_wp2_with fail
  refine MY.mono ?_
  rintro e w2 ⟨rfl, hP2, hg2⟩
  have H2 := HW1.out.go HE.out.2 hP2 hg2
  obtain ⟨⟨x0, x1, x2, x3⟩, f0, f1, f2, f3⟩ := row4_cells H2.R
  obtain ⟨⟨k0, k1, k2, k3, k4⟩, _, _, _, _, _⟩ := row5_cells H2.T
  clear MY hP2 hg2
  simp only []
  go_wp2_with fail
  have HH2 : Hid (AtW S b _ w _ w2) := H2
  clear H2 x0 x1 x2 x3 f0 f1 f2 f3 k0 k1 k2 k3 k4
  refine bodyPost_ret (results_cell_row rfl _ _ w.heap.size 24 (gA 4 0 (strOf t) none 0 0) (0, 0) _ rfl (set4_heap HH2.out.R _ _ _ _) Tryd.underlying24 rfl size_guard) rfl ?_
  exact ⟨4, 0, (strOf t), none, 0, 0, (named 4 t), _, rfl, gin_leaf _ _ 4 0 (strOf t) (by decide) rng_zero, HH2.out.P.aside (set4_grown _ _ _ _ _ _) (by have := HE.out.2; omega), grown_new HH2.out.G (set4_grown _ _ _ _ _ _) (Nat.le_refl _), HF.out⟩
set_option maxHeartbeats 800000 in
set_option maxRecDepth 8000 in
theorem atom_leaf4 (S : ByteArray) (b p : Nat) (t : List Nat) (w : World) (hE : Env w b) (hP : PIn w b S (.live p)) (htk : tkAt (numsOf S) p = .nm t) : Calls Tryd.prog 66 #[rp b] w fun e w' => GrP S .atom (.live p) b w e w' := by
  have hB := hP.liv p rfl
  have HE : Hid (Env w b ∧ b < w.heap.size) := ⟨hE, hE.lt⟩
  obtain ⟨⟨c0, c1, c2, c3, c4, c5, c6⟩, _, _, _, _, _, _⟩ := row7_cells (box_below hB (below_new w (.cells #[.int .u8 0, .int .i64 0, .string ⟨#[]⟩, .slice none 0 0] 24)))
  have HA := fun A => AtW.new hP A
  have h0 : ((St.live p).take (numsOf S) (.wd tkTrue)).2 = false := St.take_no (by rw [htk]; simp [sameC])
  have h1 : ((St.live p).take (numsOf S) (.wd tkFalse)).2 = false := St.take_no (by rw [htk]; simp [sameC])
  have h2 : ((St.live p).take (numsOf S) (.nu 0)).2 = false := St.take_no (by rw [htk]; simp [sameC])
  have h3 : ((St.live p).take (numsOf S) (.tx [])).2 = false := St.take_no (by rw [htk]; simp [sameC])
  have N0 := fun w' h => takes_no S b (.wd tkTrue) vt_true ⟨#[116, 114, 117, 101]⟩ (by decide) (.live p) w' h h0
  have N1 := fun w' h => takes_no S b (.wd tkFalse) vt_false ⟨#[102, 97, 108, 115, 101]⟩ (by decide) (.live p) w' h h1
  have N2 := fun w' h => takes_no S b (.nu 0) trivial ⟨#[97, 32, 110, 117, 109, 98, 101, 114]⟩ (by decide) (.live p) w' h h2
  have N3 := fun w' h => takes_no S b (.tx []) trivial ⟨#[97, 32, 116, 101, 120, 116]⟩ (by decide) (.live p) w' h h3
  have Y := fun w' h1 h2 => takes_yes S b (.nm []) trivial ⟨#[97, 32, 110, 97, 109, 101]⟩ (by decide) p w' h1 h2 (by rw [htk]; rfl)
  have HF : Hid (Fin (numsOf S) .atom (.live p) (named 5 t) (.live (nx (numsOf S) p))) := ⟨_, _, .leaf (by rw [htk]; rfl), rfl, rfl, tok_q hP.le (by rw [htk]; simp) (by rw [htk]; simp)⟩
  rw [htk] at c1 c4 c5
  simp only [what, txt, num] at c1 c4 c5
  clear hB hE hP htk h0 h1 h2 h3
  unfold rp at N0
  unfold rp at N1
  unfold rp at N2
  unfold rp at N3
  unfold rp
  go_enter Tryd.func66, Tryd.ntmps66
  go_upto_region 2 with fail
  refine wp_at (AtW S b _ w _) (HA _) (fun w1 H1 => ?_)
  have HW1 : Hid (AtW S b _ w _ w1) := H1
  clear H1 HA c0 c1 c2 c3 c4 c5 c6
  have M := N0 w1 HW1.out.P
  clear N0
  go_wp2_with fail
  refine M.mono ?_
  rintro e w9 ⟨rfl, hw9⟩
  rw [hw9]
  clear hw9 M
  simp only []
  have M := N1 w1 HW1.out.P
  clear N1
  go_wp2_with fail
  refine M.mono ?_
  rintro e w9 ⟨rfl, hw9⟩
  rw [hw9]
  clear hw9 M
  simp only []
  have M := N2 w1 HW1.out.P
  clear N2
  go_wp2_with fail
  refine M.mono ?_
  rintro e w9 ⟨rfl, hw9⟩
  rw [hw9]
  clear hw9 M
  simp only []
  have M := N3 w1 HW1.out.P
  clear N3
  go_wp2_with fail
  refine M.mono ?_
  rintro e w9 ⟨rfl, hw9⟩
  rw [hw9]
  clear hw9 M
  simp only []
  have MY := Y w1 (HE.out.1.grown HW1.out.G) HW1.out.P
  clear Y
  unfold rp at MY
  go_wp2_with fail
  refine MY.mono ?_
  rintro e w2 ⟨rfl, hP2, hg2⟩
  have H2 := HW1.out.go HE.out.2 hP2 hg2
  obtain ⟨⟨x0, x1, x2, x3⟩, f0, f1, f2, f3⟩ := row4_cells H2.R
  obtain ⟨⟨k0, k1, k2, k3, k4⟩, _, _, _, _, _⟩ := row5_cells H2.T
  clear MY hP2 hg2
  simp only []
  go_wp2_with fail
  have HH2 : Hid (AtW S b _ w _ w2) := H2
  clear H2 x0 x1 x2 x3 f0 f1 f2 f3 k0 k1 k2 k3 k4
  refine bodyPost_ret (results_cell_row rfl _ _ w.heap.size 24 (gA 5 0 (strOf t) none 0 0) (0, 0) _ rfl (set4_heap HH2.out.R _ _ _ _) Tryd.underlying24 rfl size_guard) rfl ?_
  exact ⟨5, 0, (strOf t), none, 0, 0, (named 5 t), _, rfl, gin_leaf _ _ 5 0 (strOf t) (by decide) rng_zero, HH2.out.P.aside (set4_grown _ _ _ _ _ _) (by have := HE.out.2; omega), grown_new HH2.out.G (set4_grown _ _ _ _ _ _) (Nat.le_refl _), HF.out⟩
set_option maxHeartbeats 800000 in
set_option maxRecDepth 8000 in
theorem atom_brk5 (S : ByteArray) (b p : Nat) (w : World) (hE : Env w b) (hP : PIn w b S (.live p)) (htk : tkAt (numsOf S) p = .wd tkOpen) : Calls Tryd.prog 66 #[rp b] w fun e w' => GrP S .atom (.live p) b w e w' := by
  have hB := hP.liv p rfl
  have HE : Hid (Env w b ∧ b < w.heap.size) := ⟨hE, hE.lt⟩
  obtain ⟨⟨c0, c1, c2, c3, c4, c5, c6⟩, _, _, _, _, _, _⟩ := row7_cells (box_below hB (below_new w (.cells #[.int .u8 0, .int .i64 0, .string ⟨#[]⟩, .slice none 0 0] 24)))
  have HA := fun A => AtW.new hP A
  have h0 : ((St.live p).take (numsOf S) (.wd tkTrue)).2 = false := St.take_no (by rw [htk]; decide)
  have h1 : ((St.live p).take (numsOf S) (.wd tkFalse)).2 = false := St.take_no (by rw [htk]; decide)
  have h2 : ((St.live p).take (numsOf S) (.nu 0)).2 = false := St.take_no (by rw [htk]; decide)
  have h3 : ((St.live p).take (numsOf S) (.tx [])).2 = false := St.take_no (by rw [htk]; decide)
  have h4 : ((St.live p).take (numsOf S) (.nm [])).2 = false := St.take_no (by rw [htk]; decide)
  have N0 := fun w' h => takes_no S b (.wd tkTrue) vt_true ⟨#[116, 114, 117, 101]⟩ (by decide) (.live p) w' h h0
  have N1 := fun w' h => takes_no S b (.wd tkFalse) vt_false ⟨#[102, 97, 108, 115, 101]⟩ (by decide) (.live p) w' h h1
  have N2 := fun w' h => takes_no S b (.nu 0) trivial ⟨#[97, 32, 110, 117, 109, 98, 101, 114]⟩ (by decide) (.live p) w' h h2
  have N3 := fun w' h => takes_no S b (.tx []) trivial ⟨#[97, 32, 116, 101, 120, 116]⟩ (by decide) (.live p) w' h h3
  have N4 := fun w' h => takes_no S b (.nm []) trivial ⟨#[97, 32, 110, 97, 109, 101]⟩ (by decide) (.live p) w' h h4
  have Y := fun w' h1 h2 => takes_yes S b (.wd tkOpen) vt_open ⟨#[111, 112, 101, 110]⟩ (by decide) p w' h1 h2 (by rw [htk]; decide)
  have HF : Hid (∀ (u : ByteArray) (σ' : St), (∀ k, (match (brk (numsOf S) k (nx (numsOf S) p)).2 with | none => σ' = .dead (brk (numsOf S) k (nx (numsOf S) p)).1 | some v => σ' = .live (brk (numsOf S) k (nx (numsOf S) p)).1 ∧ v = .mk k 0 u [] ∧ nx (numsOf S) p < (brk (numsOf S) k (nx (numsOf S) p)).1)) → Fin (numsOf S) .atom (.live p) (.mk 6 0 u []) σ') := fun u σ' hk => by
    have hk := hk 6
    have hq := tok_q (S := S) (p := p) hP.le (by rw [htk]; simp) (by rw [htk]; simp)
    refine ⟨_, _, .brk (k := 6) (by rw [htk]; decide), ?_⟩
    cases hr : (brk (numsOf S) 6 (nx (numsOf S) p)).2 with
    | none => rw [hr] at hk; exact hk
    | some v =>
      rw [hr] at hk
      exact ⟨hk.1, hk.2.1.symm, by have := hk.2.2; omega⟩
  clear hB hE hP htk h0 h1 h2 h3 h4
  unfold rp at N0
  unfold rp at N1
  unfold rp at N2
  unfold rp at N3
  unfold rp at N4
  unfold rp
  go_enter Tryd.func66, Tryd.ntmps66
  go_upto_region 2 with fail
  refine wp_at (AtW S b _ w _) (HA _) (fun w1 H1 => ?_)
  have HW1 : Hid (AtW S b _ w _ w1) := H1
  clear H1 HA c0 c1 c2 c3 c4 c5 c6
  have M := N0 w1 HW1.out.P
  clear N0
  go_wp2_with fail
  refine M.mono ?_
  rintro e w9 ⟨rfl, hw9⟩
  rw [hw9]
  clear hw9 M
  simp only []
  have M := N1 w1 HW1.out.P
  clear N1
  go_wp2_with fail
  refine M.mono ?_
  rintro e w9 ⟨rfl, hw9⟩
  rw [hw9]
  clear hw9 M
  simp only []
  have M := N2 w1 HW1.out.P
  clear N2
  go_wp2_with fail
  refine M.mono ?_
  rintro e w9 ⟨rfl, hw9⟩
  rw [hw9]
  clear hw9 M
  simp only []
  have M := N3 w1 HW1.out.P
  clear N3
  go_wp2_with fail
  refine M.mono ?_
  rintro e w9 ⟨rfl, hw9⟩
  rw [hw9]
  clear hw9 M
  simp only []
  have M := N4 w1 HW1.out.P
  clear N4
  go_wp2_with fail
  refine M.mono ?_
  rintro e w9 ⟨rfl, hw9⟩
  rw [hw9]
  clear hw9 M
  simp only []
  have MY := Y w1 (HE.out.1.grown HW1.out.G) HW1.out.P
  clear Y
  unfold rp at MY
  go_wp2_with fail
  refine MY.mono ?_
  rintro e w2 ⟨rfl, hP2, hg2⟩
  have H2 := HW1.out.go HE.out.2 hP2 hg2
  have BR := bracketed_any S b _ w2 (HE.out.1.grown H2.G) hP2
  have HH2 : Hid (AtW S b _ w _ w2) := H2
  unfold rp at BR
  clear MY hP2 hg2 H2
  simp only []
  go_wp2_with fail
  refine BR.mono ?_
  rintro e w4 ⟨u, σ4, rfl, hP4, hg4, hk4⟩
  have H4 := HH2.out.go HE.out.2 hP4 hg4
  obtain ⟨⟨x0, x1, x2, x3⟩, f0, f1, f2, f3⟩ := row4_cells H4.R
  have HK4 : Hid _ := hk4
  clear BR hP4 hg4 hk4
  simp only []
  go_wp2_with fail
  have HH4 : Hid (AtW S b σ4 w _ w4 ∧ Fin (numsOf S) .atom (.live p) (.mk 6 0 u []) σ4) := ⟨H4, HF.out u σ4 HK4.out⟩
  clear H4 x0 x1 x2 x3 f0 f1 f2 f3
  refine bodyPost_ret (results_cell_row rfl _ _ w.heap.size 24 (gA 6 0 u none 0 0) (0, 0) _ rfl (set4_heap HH4.out.1.R _ _ _ _) Tryd.underlying24 rfl size_guard) rfl ?_
  exact ⟨6, 0, u, none, 0, 0, .mk 6 0 u [], _, rfl, gin_leaf _ _ 6 0 u (by decide) rng_zero, HH4.out.1.P.aside (set4_grown _ _ _ _ _ _) (by have := HE.out.2; omega), grown_new HH4.out.1.G (set4_grown _ _ _ _ _ _) (Nat.le_refl _), HH4.out.2⟩
set_option maxHeartbeats 800000 in
set_option maxRecDepth 8000 in
theorem atom_brk6 (S : ByteArray) (b p : Nat) (w : World) (hE : Env w b) (hP : PIn w b S (.live p)) (htk : tkAt (numsOf S) p = .wd tkDone) : Calls Tryd.prog 66 #[rp b] w fun e w' => GrP S .atom (.live p) b w e w' := by
  have hB := hP.liv p rfl
  have HE : Hid (Env w b ∧ b < w.heap.size) := ⟨hE, hE.lt⟩
  obtain ⟨⟨c0, c1, c2, c3, c4, c5, c6⟩, _, _, _, _, _, _⟩ := row7_cells (box_below hB (below_new w (.cells #[.int .u8 0, .int .i64 0, .string ⟨#[]⟩, .slice none 0 0] 24)))
  have HA := fun A => AtW.new hP A
  have h0 : ((St.live p).take (numsOf S) (.wd tkTrue)).2 = false := St.take_no (by rw [htk]; decide)
  have h1 : ((St.live p).take (numsOf S) (.wd tkFalse)).2 = false := St.take_no (by rw [htk]; decide)
  have h2 : ((St.live p).take (numsOf S) (.nu 0)).2 = false := St.take_no (by rw [htk]; decide)
  have h3 : ((St.live p).take (numsOf S) (.tx [])).2 = false := St.take_no (by rw [htk]; decide)
  have h4 : ((St.live p).take (numsOf S) (.nm [])).2 = false := St.take_no (by rw [htk]; decide)
  have h5 : ((St.live p).take (numsOf S) (.wd tkOpen)).2 = false := St.take_no (by rw [htk]; decide)
  have N0 := fun w' h => takes_no S b (.wd tkTrue) vt_true ⟨#[116, 114, 117, 101]⟩ (by decide) (.live p) w' h h0
  have N1 := fun w' h => takes_no S b (.wd tkFalse) vt_false ⟨#[102, 97, 108, 115, 101]⟩ (by decide) (.live p) w' h h1
  have N2 := fun w' h => takes_no S b (.nu 0) trivial ⟨#[97, 32, 110, 117, 109, 98, 101, 114]⟩ (by decide) (.live p) w' h h2
  have N3 := fun w' h => takes_no S b (.tx []) trivial ⟨#[97, 32, 116, 101, 120, 116]⟩ (by decide) (.live p) w' h h3
  have N4 := fun w' h => takes_no S b (.nm []) trivial ⟨#[97, 32, 110, 97, 109, 101]⟩ (by decide) (.live p) w' h h4
  have N5 := fun w' h => takes_no S b (.wd tkOpen) vt_open ⟨#[111, 112, 101, 110]⟩ (by decide) (.live p) w' h h5
  have Y := fun w' h1 h2 => takes_yes S b (.wd tkDone) vt_done ⟨#[100, 111, 110, 101]⟩ (by decide) p w' h1 h2 (by rw [htk]; decide)
  have HF : Hid (∀ (u : ByteArray) (σ' : St), (∀ k, (match (brk (numsOf S) k (nx (numsOf S) p)).2 with | none => σ' = .dead (brk (numsOf S) k (nx (numsOf S) p)).1 | some v => σ' = .live (brk (numsOf S) k (nx (numsOf S) p)).1 ∧ v = .mk k 0 u [] ∧ nx (numsOf S) p < (brk (numsOf S) k (nx (numsOf S) p)).1)) → Fin (numsOf S) .atom (.live p) (.mk 7 0 u []) σ') := fun u σ' hk => by
    have hk := hk 7
    have hq := tok_q (S := S) (p := p) hP.le (by rw [htk]; simp) (by rw [htk]; simp)
    refine ⟨_, _, .brk (k := 7) (by rw [htk]; decide), ?_⟩
    cases hr : (brk (numsOf S) 7 (nx (numsOf S) p)).2 with
    | none => rw [hr] at hk; exact hk
    | some v =>
      rw [hr] at hk
      exact ⟨hk.1, hk.2.1.symm, by have := hk.2.2; omega⟩
  clear hB hE hP htk h0 h1 h2 h3 h4 h5
  unfold rp at N0
  unfold rp at N1
  unfold rp at N2
  unfold rp at N3
  unfold rp at N4
  unfold rp at N5
  unfold rp
  go_enter Tryd.func66, Tryd.ntmps66
  go_upto_region 2 with fail
  refine wp_at (AtW S b _ w _) (HA _) (fun w1 H1 => ?_)
  have HW1 : Hid (AtW S b _ w _ w1) := H1
  clear H1 HA c0 c1 c2 c3 c4 c5 c6
  have M := N0 w1 HW1.out.P
  clear N0
  go_wp2_with fail
  refine M.mono ?_
  rintro e w9 ⟨rfl, hw9⟩
  rw [hw9]
  clear hw9 M
  simp only []
  have M := N1 w1 HW1.out.P
  clear N1
  go_wp2_with fail
  refine M.mono ?_
  rintro e w9 ⟨rfl, hw9⟩
  rw [hw9]
  clear hw9 M
  simp only []
  have M := N2 w1 HW1.out.P
  clear N2
  go_wp2_with fail
  refine M.mono ?_
  rintro e w9 ⟨rfl, hw9⟩
  rw [hw9]
  clear hw9 M
  simp only []
  have M := N3 w1 HW1.out.P
  clear N3
  go_wp2_with fail
  refine M.mono ?_
  rintro e w9 ⟨rfl, hw9⟩
  rw [hw9]
  clear hw9 M
  simp only []
  have M := N4 w1 HW1.out.P
  clear N4
  go_wp2_with fail
  refine M.mono ?_
  rintro e w9 ⟨rfl, hw9⟩
  rw [hw9]
  clear hw9 M
  simp only []
  have M := N5 w1 HW1.out.P
  clear N5
  go_wp2_with fail
  refine M.mono ?_
  rintro e w9 ⟨rfl, hw9⟩
  rw [hw9]
  clear hw9 M
  simp only []
  have MY := Y w1 (HE.out.1.grown HW1.out.G) HW1.out.P
  clear Y
  unfold rp at MY
  go_wp2_with fail
  refine MY.mono ?_
  rintro e w2 ⟨rfl, hP2, hg2⟩
  have H2 := HW1.out.go HE.out.2 hP2 hg2
  have BR := bracketed_any S b _ w2 (HE.out.1.grown H2.G) hP2
  have HH2 : Hid (AtW S b _ w _ w2) := H2
  unfold rp at BR
  clear MY hP2 hg2 H2
  simp only []
  go_wp2_with fail
  refine BR.mono ?_
  rintro e w4 ⟨u, σ4, rfl, hP4, hg4, hk4⟩
  have H4 := HH2.out.go HE.out.2 hP4 hg4
  obtain ⟨⟨x0, x1, x2, x3⟩, f0, f1, f2, f3⟩ := row4_cells H4.R
  have HK4 : Hid _ := hk4
  clear BR hP4 hg4 hk4
  simp only []
  go_wp2_with fail
  have HH4 : Hid (AtW S b σ4 w _ w4 ∧ Fin (numsOf S) .atom (.live p) (.mk 7 0 u []) σ4) := ⟨H4, HF.out u σ4 HK4.out⟩
  clear H4 x0 x1 x2 x3 f0 f1 f2 f3
  refine bodyPost_ret (results_cell_row rfl _ _ w.heap.size 24 (gA 7 0 u none 0 0) (0, 0) _ rfl (set4_heap HH4.out.1.R _ _ _ _) Tryd.underlying24 rfl size_guard) rfl ?_
  exact ⟨7, 0, u, none, 0, 0, .mk 7 0 u [], _, rfl, gin_leaf _ _ 7 0 u (by decide) rng_zero, HH4.out.1.P.aside (set4_grown _ _ _ _ _ _) (by have := HE.out.2; omega), grown_new HH4.out.1.G (set4_grown _ _ _ _ _ _) (Nat.le_refl _), HH4.out.2⟩
theorem paren_fin {S : List Nat} {p : Nat} {g : GB} {σ1 σ2 : St} (htk : tkAt S p = .sg 40) (hq : p < nx S p) (hl : ∀ q, σ1 = .live q → q ≤ S.length) (hF : Fin S (.lv .ors) (.live (nx S p)) g σ1) (h2 : σ2 = σ1.must S (.sg 41)) : Fin S .atom (.live p) g σ2 := by
  obtain ⟨p', r, hR, hr⟩ := hF
  cases r with
  | none =>
    have hr : σ1 = .dead p' := hr
    subst hr
    exact ⟨p', none, .paren_no htk hR, h2⟩
  | some v =>
    obtain ⟨rfl, rfl, hlt⟩ := hr
    by_cases e : tkAt S p' = .sg 41
    · refine ⟨nx S p', some g, .paren_ok htk hR e, ?_, rfl, ?_⟩
      · rw [h2]; simp only [St.must, (sg_same _ _).2 e, if_true]
      · have := (nx_le (hl _ rfl)).1
        omega
    · refine ⟨p', none, .paren_end htk hR e, ?_⟩
      rw [h2]
      simp only [St.must]
      rw [if_neg (fun h9 => e ((sg_same _ _).1 h9))]
set_option maxHeartbeats 800000 in
set_option maxRecDepth 8000 in
theorem atom_paren (S : ByteArray) (b n p : Nat) (CG : ∀ m, m < n → Con 14 S (.lv .ors) b m) (hn : S.size - p ≤ n) (w : World) (hE : Env w b) (hP : PIn w b S (.live p)) (htk : tkAt (numsOf S) p = .sg 40) : Calls Tryd.prog 66 #[rp b] w fun e w' => GrP S .atom (.live p) b w e w' := by
  have hB := hP.liv p rfl
  have HE : Hid (Env w b ∧ b < w.heap.size) := ⟨hE, hE.lt⟩
  obtain ⟨⟨c0, c1, c2, c3, c4, c5, c6⟩, _, _, _, _, _, _⟩ := row7_cells (box_below hB (below_new w (.cells #[.int .u8 0, .int .i64 0, .string ⟨#[]⟩, .slice none 0 0] 24)))
  have HA := fun A => AtW.new hP A
  have h0 : ((St.live p).take (numsOf S) (.wd tkTrue)).2 = false := St.take_no (by rw [htk]; decide)
  have h1 : ((St.live p).take (numsOf S) (.wd tkFalse)).2 = false := St.take_no (by rw [htk]; decide)
  have h2 : ((St.live p).take (numsOf S) (.nu 0)).2 = false := St.take_no (by rw [htk]; decide)
  have h3 : ((St.live p).take (numsOf S) (.tx [])).2 = false := St.take_no (by rw [htk]; decide)
  have h4 : ((St.live p).take (numsOf S) (.nm [])).2 = false := St.take_no (by rw [htk]; decide)
  have h5 : ((St.live p).take (numsOf S) (.wd tkOpen)).2 = false := St.take_no (by rw [htk]; decide)
  have h6 : ((St.live p).take (numsOf S) (.wd tkDone)).2 = false := St.take_no (by rw [htk]; decide)
  have N0 := fun w' h => takes_no S b (.wd tkTrue) vt_true ⟨#[116, 114, 117, 101]⟩ (by decide) (.live p) w' h h0
  have N1 := fun w' h => takes_no S b (.wd tkFalse) vt_false ⟨#[102, 97, 108, 115, 101]⟩ (by decide) (.live p) w' h h1
  have N2 := fun w' h => takes_no S b (.nu 0) trivial ⟨#[97, 32, 110, 117, 109, 98, 101, 114]⟩ (by decide) (.live p) w' h h2
  have N3 := fun w' h => takes_no S b (.tx []) trivial ⟨#[97, 32, 116, 101, 120, 116]⟩ (by decide) (.live p) w' h h3
  have N4 := fun w' h => takes_no S b (.nm []) trivial ⟨#[97, 32, 110, 97, 109, 101]⟩ (by decide) (.live p) w' h h4
  have N5 := fun w' h => takes_no S b (.wd tkOpen) vt_open ⟨#[111, 112, 101, 110]⟩ (by decide) (.live p) w' h h5
  have N6 := fun w' h => takes_no S b (.wd tkDone) vt_done ⟨#[100, 111, 110, 101]⟩ (by decide) (.live p) w' h h6
  have Y := fun w' h1 h2 => takes_yes S b (.sg 40) (vt_sg rfl) ⟨#[40]⟩ (by decide) p w' h1 h2 (by rw [htk]; decide)
  have hq := tok_q (S := S) (p := p) hP.le (by rw [htk]; simp) (by rw [htk]; simp)
  have hle : p ≤ S.size := hP.le
  have hnl := (nx_le (S := numsOf S) (p := p) (by rw [numsOf_len]; exact hle)).2
  rw [numsOf_len] at hnl
  have HG := CG (S.size - nx (numsOf S) p) (by omega)
  have HF : Hid (∀ (g : GB) (σ1 σ2 : St), (∀ q, σ1 = .live q → q ≤ (numsOf S).length) → Fin (numsOf S) (.lv .ors) (.live (nx (numsOf S) p)) g σ1 → σ2 = σ1.must (numsOf S) (.sg 41) → Fin (numsOf S) .atom (.live p) g σ2) := fun g σ1 σ2 h1 h2 h3 => paren_fin htk hq h1 h2 h3
  clear hB hE hP htk h0 h1 h2 h3 h4 h5 h6 CG hn hq hle hnl
  unfold rp at N0
  unfold rp at N1
  unfold rp at N2
  unfold rp at N3
  unfold rp at N4
  unfold rp at N5
  unfold rp at N6
  unfold rp
  go_enter Tryd.func66, Tryd.ntmps66
  go_upto_region 2 with fail
  refine wp_at (AtW S b _ w _) (HA _) (fun w1 H1 => ?_)
  have HW1 : Hid (AtW S b _ w _ w1) := H1
  clear H1 HA c0 c1 c2 c3 c4 c5 c6
  have M := N0 w1 HW1.out.P
  clear N0
  go_wp2_with fail
  refine M.mono ?_
  rintro e w9 ⟨rfl, hw9⟩
  rw [hw9]
  clear hw9 M
  simp only []
  have M := N1 w1 HW1.out.P
  clear N1
  go_wp2_with fail
  refine M.mono ?_
  rintro e w9 ⟨rfl, hw9⟩
  rw [hw9]
  clear hw9 M
  simp only []
  have M := N2 w1 HW1.out.P
  clear N2
  go_wp2_with fail
  refine M.mono ?_
  rintro e w9 ⟨rfl, hw9⟩
  rw [hw9]
  clear hw9 M
  simp only []
  have M := N3 w1 HW1.out.P
  clear N3
  go_wp2_with fail
  refine M.mono ?_
  rintro e w9 ⟨rfl, hw9⟩
  rw [hw9]
  clear hw9 M
  simp only []
  have M := N4 w1 HW1.out.P
  clear N4
  go_wp2_with fail
  refine M.mono ?_
  rintro e w9 ⟨rfl, hw9⟩
  rw [hw9]
  clear hw9 M
  simp only []
  have M := N5 w1 HW1.out.P
  clear N5
  go_wp2_with fail
  refine M.mono ?_
  rintro e w9 ⟨rfl, hw9⟩
  rw [hw9]
  clear hw9 M
  simp only []
  have M := N6 w1 HW1.out.P
  clear N6
  go_wp2_with fail
  refine M.mono ?_
  rintro e w9 ⟨rfl, hw9⟩
  rw [hw9]
  clear hw9 M
  simp only []
  have MY := Y w1 (HE.out.1.grown HW1.out.G) HW1.out.P
  clear Y
  unfold rp at MY
  go_wp2_with fail
  refine MY.mono ?_
  rintro e w2 ⟨rfl, hP2, hg2⟩
  have H2 := HW1.out.go HE.out.2 hP2 hg2
  clear MY
  simp only []
  have GX := HG (.live (nx (numsOf S) p)) w2 (Nat.le_refl _) (HE.out.1.grown H2.G) hP2
  obtain ⟨AA, hAA⟩ : ∃ AA, AtW S b (.live (nx (numsOf S) p)) w AA w2 := ⟨_, H2⟩
  have HW2 : Hid (AtW S b (.live (nx (numsOf S) p)) w AA w2) := hAA
  unfold rp at GX
  clear HG hP2 hg2 H2 hAA
  go_wp2_with fail
  refine GX.mono ?_
  rintro e w4 ⟨k4, n4, t4, q4, l4, c4, g, σ4, rfl, hG4, hP4, hg4, hF4⟩
  have H4 := HW2.out.go HE.out.2 hP4 hg4
  have b4 := below_new w4 (.cells (gA k4 n4 t4 q4 l4 c4) 24)
  have n4' := _root_.Go.heap_alloc_new w4 (.cells (gA k4 n4 t4 q4 l4 c4) 24)
  have H5 := H4.go HE.out.2 (hP4.below b4) (grown_below b4 _)
  have hG5 := hG4.bel b4
  have HK : Hid (∀ W, W = w4.alloc (.cells (gA k4 n4 t4 q4 l4 c4) 24) → AtW S b σ4 w AA W ∧ GIn W (fun i => w2.heap.size ≤ i) (gA k4 n4 t4 q4 l4 c4) g ∧ W.heap[w4.heap.size]? = some (.cells (gA k4 n4 t4 q4 l4 c4) 24 (0, 0))) := by
    rintro W rfl
    exact ⟨H5, hG5, n4'⟩
  have HF4 : Hid (Fin (numsOf S) (.lv .ors) (.live (nx (numsOf S) p)) g σ4 ∧ w2.heap.size ≤ w4.heap.size ∧ w.heap.size + 1 < w2.heap.size) := ⟨hF4, hg4.size, HW2.out.sz⟩
  unfold gA at HK ⊢
  clear GX hG4 hP4 hg4 hF4 H4 b4 n4' H5 hG5
  simp only []
  go_upto_region 18 with fail
  refine wp_at (fun W => AtW S b σ4 w AA W ∧ GIn W (fun i => w2.heap.size ≤ i) _ g ∧ W.heap[w4.heap.size]? = _) (HK.out _ rfl) (fun w5 H5 => ?_)
  have M5 := must_any S b (.sg 41) (vt_sg rfl) ⟨#[41]⟩ (by decide) σ4 w5 (HE.out.1.grown H5.1.G) H5.1.P
  have HW5 : Hid (AtW S b σ4 w AA w5 ∧ GIn w5 (fun i => w2.heap.size ≤ i) _ g ∧ w5.heap[w4.heap.size]? = _) := H5
  unfold rp at M5
  clear HK H5
  go_wp2_with fail
  refine M5.mono ?_
  rintro e w6 ⟨rfl, hP6, hg6⟩
  have H6 := HW5.out.1.go HE.out.2 hP6 hg6
  have hB6 := box_at hg6 HW5.out.2.2 (fun e => by cases e; have := HE.out.2; have := HF4.out.2; omega)
  have hG6 := HW5.out.2.1.grown hg6 (fun i hi => by have := HE.out.2; have := HF4.out.2; omega)
  obtain ⟨⟨y0, y1, y2, y3⟩, _, _, _, _⟩ := row4_cells hB6
  obtain ⟨⟨x0, x1, x2, x3⟩, f0, f1, f2, f3⟩ := row4_cells H6.R
  have HX : Hid (AtW S b _ w AA w6 ∧ GIn w6 (fun i => w2.heap.size ≤ i) (gA k4 n4 t4 q4 l4 c4) g ∧ Fin (numsOf S) .atom (.live p) g (σ4.must (numsOf S) (.sg 41))) := ⟨H6, hG6, HF.out g σ4 _ (fun q e => by
    have h1 := HW5.out.1.P.le
    rw [e] at h1
    rw [numsOf_len]; exact h1) HF4.out.1 rfl⟩
  clear M5 hP6 hg6 H6 hB6 hG6
  simp only []
  go_wp2_with fail
  refine bodyPost_ret (results_cell_row rfl _ _ w.heap.size 24 (gA k4 n4 t4 q4 l4 c4) (0, 0) _ rfl (set4_heap HX.out.1.R _ _ _ _) Tryd.underlying24 rfl size_guard) rfl ?_
  exact ⟨k4, n4, t4, q4, l4, c4, g, _, rfl, (HX.out.2.1.grown (set4_grown _ _ _ _ _ _) (fun i hi => by have := HF4.out.2; omega)).wk (fun i hi => by have := HF4.out.2; omega), HX.out.1.P.aside (set4_grown _ _ _ _ _ _) (by have := HE.out.2; omega), grown_new HX.out.1.G (set4_grown _ _ _ _ _ _) (Nat.le_refl _), HX.out.2.2⟩
end Go.Proofs.YtkcmidhpbaepoaaDoor.G
