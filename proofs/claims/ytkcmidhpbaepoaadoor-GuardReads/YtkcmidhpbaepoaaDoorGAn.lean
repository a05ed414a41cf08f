/-
  An atom that is none; all levels together; whole. Written by tools/gen_gan.py.
-/
import Derived.Test.YtkcmidhpbaepoaaDoorGAt
namespace Go.Proofs.YtkcmidhpbaepoaaDoor.G
open Go.RowKit Go.WideShapes Go.Joins

theorem PIn.block {w : World} {b : Nat} {S : ByteArray} {σ : St} (h : PIn w b S σ) : ∃ (u : ByteArray) (e : Nat) (t : ByteArray) (n : Int) (r : Bool), w.heap[b]? = some (.cells #[.string S, .string u, .int .i64 (σ.p : Int), .int .i64 (e : Int), .string t, .int .i64 n, .bool r] 35 (0, 0)) := by
  cases σ with
  | live q => exact ⟨_, _, _, _, _, h.liv q rfl⟩
  | dead q =>
    obtain ⟨u, e, t, n, hx⟩ := h.ded q rfl
    exact ⟨_, _, _, _, _, hx⟩
theorem PIn.refused {w : World} {b : Nat} {S : ByteArray} {σ : St} (h : PIn w b S σ) : PIn (w.setCell ⟨b, 6, none⟩ (.bool true)) b S (.dead σ.p) := by
  obtain ⟨u, x, tt, n, r, hB⟩ := h.block
  refine ⟨h.le, h.sz, fun q e => (by cases e), fun q e => ?_⟩
  cases e
  exact ⟨u, x, tt, n, block_setCell (i := 6) hB _⟩
set_option maxHeartbeats 800000 in
set_option maxRecDepth 8000 in
theorem atom_none (S : ByteArray) (b : Nat) (σ : St) (w : World) (hE : Env w b) (hP : PIn w b S σ) (hF : Fin (numsOf S) .atom σ (.mk 0 0 ByteArray.empty []) (.dead σ.p))
    (h0 : (σ.take (numsOf S) (.wd tkTrue)).2 = false)
    (h1 : (σ.take (numsOf S) (.wd tkFalse)).2 = false)
    (h2 : (σ.take (numsOf S) (.nu 0)).2 = false)
    (h3 : (σ.take (numsOf S) (.tx [])).2 = false)
    (h4 : (σ.take (numsOf S) (.nm [])).2 = false)
    (h5 : (σ.take (numsOf S) (.wd tkOpen)).2 = false)
    (h6 : (σ.take (numsOf S) (.wd tkDone)).2 = false)
    (h7 : (σ.take (numsOf S) (.sg 40)).2 = false)
    : Calls Tryd.prog 66 #[rp b] w fun e w' => GrP S .atom σ b w e w' := by
  obtain ⟨u, x, tt, n, r, hB⟩ := hP.block
  have HE : Hid (Env w b ∧ b < w.heap.size) := ⟨hE, hE.lt⟩
  have HFF : Hid (Fin (numsOf S) .atom σ (.mk 0 0 ByteArray.empty []) (.dead σ.p)) := hF
  obtain ⟨⟨c0, c1, c2, c3, c4, c5, c6⟩, _, _, _, _, _, _⟩ := row7_cells (box_below hB (below_new w (.cells #[.int .u8 0, .int .i64 0, .string ⟨#[]⟩, .slice none 0 0] 24)))
  have HA := fun A => AtW.new hP A
  have N0 := fun w' h => takes_no S b (.wd tkTrue) vt_true ⟨#[116, 114, 117, 101]⟩ (by decide) σ w' h h0
  have N1 := fun w' h => takes_no S b (.wd tkFalse) vt_false ⟨#[102, 97, 108, 115, 101]⟩ (by decide) σ w' h h1
  have N2 := fun w' h => takes_no S b (.nu 0) trivial ⟨#[97, 32, 110, 117, 109, 98, 101, 114]⟩ (by decide) σ w' h h2
  have N3 := fun w' h => takes_no S b (.tx []) trivial ⟨#[97, 32, 116, 101, 120, 116]⟩ (by decide) σ w' h h3
  have N4 := fun w' h => takes_no S b (.nm []) trivial ⟨#[97, 32, 110, 97, 109, 101]⟩ (by decide) σ w' h h4
  have N5 := fun w' h => takes_no S b (.wd tkOpen) vt_open ⟨#[111, 112, 101, 110]⟩ (by decide) σ w' h h5
  have N6 := fun w' h => takes_no S b (.wd tkDone) vt_done ⟨#[100, 111, 110, 101]⟩ (by decide) σ w' h h6
  have N7 := fun w' h => takes_no S b (.sg 40) (vt_sg rfl) ⟨#[40]⟩ (by decide) σ w' h h7
  clear hB hE hP hF h0 h1 h2 h3 h4 h5 h6 h7
  unfold rp at N0
  unfold rp at N1
  unfold rp at N2
  unfold rp at N3
  unfold rp at N4
  unfold rp at N5
  unfold rp at N6
  unfold rp at N7
  unfold rp
  go_enter Tryd.func66, Tryd.ntmps66
  go_upto_region 2 with fail
  refine wp_at (AtW S b _ w _) (HA _) (fun w1 H1 => ?_)
  have HW1 : Hid (AtW S b _ w _ w1) := H1
  clear H1 HA c0 c1 c2 c3 c4 c5 c6
  have M := N0 w1 HW1.out.P
  clear N0
  go_wp2_with fail
  refine M.mono ?_
  rintro e w9 ⟨rfl, hw9⟩
  rw [hw9]
  clear hw9 M
  simp only []
  have M := N1 w1 HW1.out.P
  clear N1
  go_wp2_with fail
  refine M.mono ?_
  rintro e w9 ⟨rfl, hw9⟩
  rw [hw9]
  clear hw9 M
  simp only []
  have M := N2 w1 HW1.out.P
  clear N2
  go_wp2_with fail
  refine M.mono ?_
  rintro e w9 ⟨rfl, hw9⟩
  rw [hw9]
  clear hw9 M
  simp only []
  have M := N3 w1 HW1.out.P
  clear N3
  go_wp2_with fail
  refine M.mono ?_
  rintro e w9 ⟨rfl, hw9⟩
  rw [hw9]
  clear hw9 M
  simp only []
  have M := N4 w1 HW1.out.P
  clear N4
  go_wp2_with fail
  refine M.mono ?_
  rintro e w9 ⟨rfl, hw9⟩
  rw [hw9]
  clear hw9 M
  simp only []
  have M := N5 w1 HW1.out.P
  clear N5
  go_wp2_with fail
  refine M.mono ?_
  rintro e w9 ⟨rfl, hw9⟩
  rw [hw9]
  clear hw9 M
  simp only []
  have M := N6 w1 HW1.out.P
  clear N6
  go_wp2_with fail
  refine M.mono ?_
  rintro e w9 ⟨rfl, hw9⟩
  rw [hw9]
  clear hw9 M
  simp only []
  have M := N7 w1 HW1.out.P
  clear N7
  go_wp2_with fail
  refine M.mono ?_
  rintro e w9 ⟨rfl, hw9⟩
  rw [hw9]
  clear hw9 M
  simp only []
  obtain ⟨⟨x0, x1, x2, x3⟩, f0, f1, f2, f3⟩ := row4_cells HW1.out.R
  obtain ⟨u2, y2, t2, n2, r2, hB2⟩ := HW1.out.P.block
  obtain ⟨⟨c0, c1, c2, c3, c4, c5, c6⟩, _, _, _, _, _, e6⟩ := row7_cells hB2
  have H3 : Hid (PIn (w1.setCell ⟨b, 6, none⟩ (.bool true)) b S (.dead σ.p) ∧ w.grownBy (w1.setCell ⟨b, 6, none⟩ (.bool true)) (some b) ∧ (w1.setCell ⟨b, 6, none⟩ (.bool true)).heap[w.heap.size]? = _) := ⟨HW1.out.P.refused, grown_trans HW1.out.G (grown_set _ _ _ _), kept1 HW1.out.R (by have := HE.out.2; omega)⟩
  clear hB2
  go_upto_region 21 with fail
  refine wp_at (fun W => PIn W b S (.dead σ.p) ∧ w.grownBy W (some b) ∧ W.heap[w.heap.size]? = _) H3.out (fun w5 H5 => ?_)
  have HH : Hid (PIn w5 b S (.dead σ.p) ∧ w.grownBy w5 (some b) ∧ w5.heap[w.heap.size]? = _) := H5
  clear H3 HW1 x0 x1 x2 x3 f0 f1 f2 f3 c0 c1 c2 c3 c4 c5 c6 e6
  obtain ⟨⟨x0, x1, x2, x3⟩, f0, f1, f2, f3⟩ := row4_cells H5.2.2
  clear H5
  go_wp2_with fail
  refine bodyPost_ret (results_cell_row rfl _ _ w.heap.size 24 (gA 0 0 ByteArray.empty none 0 0) (0, 0) _ rfl (set4_heap HH.out.2.2 _ _ _ _) Tryd.underlying24 rfl size_guard) rfl ?_
  exact ⟨0, 0, ByteArray.empty, none, 0, 0, .mk 0 0 ByteArray.empty [], _, rfl, gin_leaf _ _ 0 0 _ (by decide) rng_zero, HH.out.1.aside (set4_grown _ _ _ _ _ _) (by have := HE.out.2; omega), grown_new HH.out.2.1 (set4_grown _ _ _ _ _ _) (Nat.le_refl _), HFF.out⟩
theorem tok_nu {l : List Nat} {n : Nat} (h : (tok l).1 = .nu n) : n ≤ 9223372036854775807 := by
  cases l with
  | nil => cases h
  | cons c r =>
    change (tokC c r).1 = _ at h
    unfold tokC at h
    split at h
    · cases h
    split at h
    · split at h <;> cases h
    split at h
    · split at h
      · cases h; assumption
      · cases h
    split at h
    · cases h
    split at h <;> cases h
theorem atom_con (S : ByteArray) (b n : Nat) (CG : ∀ m, m < n → Con 14 S (.lv .ors) b m) : Con 66 S .atom b n := by
  intro σ w hn hE hP
  cases σ with
  | dead p => exact atom_none S b (.dead p) w hE hP rfl rfl rfl rfl rfl rfl rfl rfl rfl
  | live p =>
    have key : (∀ (leafn : leafk (tkAt (numsOf S) p) = none) (brkn : brkk (tkAt (numsOf S) p) = none) (sgn : tkAt (numsOf S) p ≠ .sg 40), Calls Tryd.prog 66 #[rp b] w fun e w' => GrP S .atom (.live p) b w e w') := by
      intro h1 h2 h3
      refine atom_none S b (.live p) w hE hP ⟨p, none, .atom_no h1 h2 h3, rfl⟩ (St.take_no ?_) (St.take_no ?_) (St.take_no ?_) (St.take_no ?_) (St.take_no ?_) (St.take_no ?_) (St.take_no ?_) (St.take_no ?_)
      · intro h; rw [(wd_same _ _).1 h] at h1; cases h1
      · intro h; rw [(wd_same _ _).1 h] at h1; cases h1
      · intro h
        cases ht : tkAt (numsOf S) p <;> rw [ht] at h h1 <;> first | (cases h; done) | (cases h1; done)
      · intro h
        cases ht : tkAt (numsOf S) p <;> rw [ht] at h h1 <;> first | (cases h; done) | (cases h1; done)
      · intro h
        cases ht : tkAt (numsOf S) p <;> rw [ht] at h h1 <;> first | (cases h; done) | (cases h1; done)
      · intro h; rw [(wd_same _ _).1 h] at h2; cases h2
      · intro h; rw [(wd_same _ _).1 h] at h2; cases h2
      · intro h; exact h3 ((sg_same _ _).1 h)
    cases htk : tkAt (numsOf S) p with
    | sg c =>
      by_cases hc : c = 40
      · subst hc
        exact atom_paren S b n p CG hn w hE hP htk
      · exact key (by rw [htk]; rfl) (by rw [htk]; rfl) (by rw [htk]; intro e; cases e; exact hc rfl)
    | wd v =>
      by_cases h1 : v = tkTrue
      · exact atom_leaf0 S b p w hE hP (by rw [htk, h1])
      by_cases h2 : v = tkFalse
      · exact atom_leaf1 S b p w hE hP (by rw [htk, h2])
      by_cases h3 : v = tkOpen
      · exact atom_brk5 S b p w hE hP (by rw [htk, h3])
      by_cases h4 : v = tkDone
      · exact atom_brk6 S b p w hE hP (by rw [htk, h4])
      exact key (by rw [htk]; simp only [leafk, if_neg h1, if_neg h2]) (by rw [htk]; simp only [brkk, if_neg h3, if_neg h4]) (by rw [htk]; simp)
    | nu m => exact atom_leaf2 S b p m (tok_nu htk) w hE hP htk
    | tx t => exact atom_leaf3 S b p t w hE hP htk
    | nm t => exact atom_leaf4 S b p t w hE hP htk
    | fin => exact key (by rw [htk]; rfl) (by rw [htk]; rfl) (by rw [htk]; simp)
    | non => exact key (by rw [htk]; rfl) (by rw [htk]; rfl) (by rw [htk]; simp)
/-- THE GRAMMAR: whatever is left -/
theorem guard_all (S : ByteArray) (b : Nat) : ∀ n, Con 14 S (.lv .ors) b n ∧ Con 36 S .part b n := by
  intro n
  induction n using Nat.strongRecOn with
  | _ n ih =>
    have hA := atom_con S b n fun m hm => (ih m hm).1
    have hS := sum_con S b n (product_con S b n hA)
    have hN := negated_con S b n (fun m hm => (ih m hm).2) (relation_con S b n hS)
    exact ⟨guard_con S b n (side_con S b n hN), hN⟩
end Go.Proofs.YtkcmidhpbaepoaaDoor.G
