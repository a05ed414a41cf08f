/-
  The document's atoms. Written by tools/gen_gdx.py.
-/
import Derived.Test.YtkcmidhpbaepoaaDoorGDr
namespace Go.Proofs.YtkcmidhpbaepoaaDoor.G
open Go.RowKit Go.WideShapes Go.Joins

set_option maxHeartbeats 1000000 in
set_option maxRecDepth 8000 in
theorem is_no (S : ByteArray) (b : Nat) (t : Tk) (ht : Ask t) (K : ByteArray) (hK : what t = K) (p : Nat) (w : World) (h : DIn w b S (.live p)) (hc : tkAt (numsOf S) p ≠ t) :
    Calls Tryd.prog 19 #[rp b, .string K] w fun e w' => e = .returned (.bool false) ∧ w' = w := by
  obtain ⟨hn, hB⟩ := h.liv p rfl
  have hw := now_what (S := S) (p := p) ht hn
  rw [hK] at hw
  have e1 : ((nowB S p).toList == K.toList) = false := (Lib.bytes_beq_false_iff _ _).2 fun e => hc (hw.1 e)
  have e1n : ((nowB S p).toList != K.toList) = true := by simp only [bne, e1]; rfl
  obtain ⟨⟨c0, c1, c2, c3, c4, c5⟩, _, _, _, _, _⟩ := drow_cells hB
  generalize nowB S p = U at e1 e1n c3
  clear hB h hK ht hw hc hn
  unfold rp
  go_enter Tryd.func19, Tryd.ntmps19
  go_wp2_with fail
  go_ret
  exact ⟨rfl, rfl⟩
/-- behind the result's box -/
structure AtD (S : ByteArray) (b : Nat) (σ : St) (w w1 : World) : Prop where
  P : DIn w1 b S σ
  G : w.grownBy w1 (some b)
  R : w1.heap[w.heap.size]? = some (.cells #[.int .u8 0, .int .i64 0, .string ⟨#[]⟩, .slice none 0 0] 24 (0, 0))
  hb : b < w.heap.size
theorem AtD.new {S : ByteArray} {b : Nat} {σ : St} {w : World} (h : DIn w b S σ) : AtD S b σ w (w.alloc (.cells #[.int .u8 0, .int .i64 0, .string ⟨#[]⟩, .slice none 0 0] 24)) :=
  ⟨h.below (below_new _ _), grown_below (below_new _ _) _, _root_.Go.heap_alloc_new _ _, h.lt⟩
theorem AtD.go {S : ByteArray} {b : Nat} {σ σ' : St} {w w1 w3 : World} (h : AtD S b σ w w1) (hP : DIn w3 b S σ') (hg : w1.grownBy w3 (some b)) : AtD S b σ' w w3 :=
  ⟨hP, grown_trans h.G hg, box_at hg h.R (fun e => by have := Option.some.inj e; have := h.hb; omega), h.hb⟩
theorem AtD.leaf {S : ByteArray} {b : Nat} {σ σ' : St} {w w3 : World} (h : AtD S b σ' w w3) (k : Nat) (n : Int) (t : ByteArray) (hk : k < 256) (hn : J.Rng n) (hF : DFin (numsOf S) .atom σ (.mk k n t []) σ') :
    (set4 w3 w.heap.size (.int .u8 (k : Int)) (.int .i64 n) (.string t) (.slice none 0 0)).heap[w.heap.size]? = some (.cells (gA k n t none 0 0) 24 (0, 0)) ∧
    DGrP S .atom σ b w (.returned (.agg (gA k n t none 0 0))) (set4 w3 w.heap.size (.int .u8 (k : Int)) (.int .i64 n) (.string t) (.slice none 0 0)) :=
  ⟨set4_heap h.R _ _ _ _, k, n, t, none, 0, 0, _, σ', rfl, gin_leaf _ _ k n t hk hn, h.P.aside (set4_grown _ _ _ _ _ _) (by have := h.hb; omega), grown_new h.G (set4_grown _ _ _ _ _ _) (Nat.le_refl _), hF⟩
theorem sgw (u : Tk) (h : u = .wd tkTrue ∨ u = .wd tkFalse ∨ u = .wd tkOpen ∨ u = .wd tkDone ∨ u = .sg 40) : Ask u := by
  rcases h with rfl | rfl | rfl | rfl | rfl <;> first | exact ask_wd rfl | exact ask_sg rfl
/-- a name in brackets, as the document reads it -/
def brkS (S : List Nat) (q : Nat) : St × ByteArray := ((((norm S q).dmust S (.sg 40)).dname S).1.dmust S (.sg 41), (((norm S q).dmust S (.sg 40)).dname S).2)
theorem dmust_dead (S : List Nat) (p : Nat) (u : Tk) : (St.dead p).dmust S u = .dead p := rfl
theorem dmust_no {S : List Nat} {p : Nat} {u : Tk} (h : tkAt S p ≠ u) : (norm S p).dmust S u = .dead p := by
  rcases norm_cases S p with ⟨_, he⟩ | ⟨_, he⟩
  · rw [he]; rfl
  · rw [he]; simp only [St.dmust, if_neg h]
theorem dmust_yes {S : List Nat} {p : Nat} {u : Tk} (h : tkAt S p = u) (hu : u ≠ .non) : (norm S p).dmust S u = norm S (nx S p) := by
  rw [norm_live (by rw [h]; exact hu)]
  simp only [St.dmust, if_pos h]
theorem dname_dead (S : List Nat) (p : Nat) : (St.dead p).dname S = (.dead p, ⟨#[]⟩) := rfl
theorem dname_no {S : List Nat} {p : Nat} (h : ∀ w, tkAt S p ≠ .nm w) : (norm S p).dname S = (.dead p, ⟨#[]⟩) := by
  rcases norm_cases S p with ⟨_, he⟩ | ⟨_, he⟩
  · rw [he]; rfl
  · rw [he]
    simp only [St.dname]
theorem dname_yes {S : List Nat} {p : Nat} {w : List Nat} (h : tkAt S p = .nm w) : (norm S p).dname S = (norm S (nx S p), strOf w) := by
  rw [norm_live (by rw [h]; simp)]
  simp only [St.dname, h]
theorem brkS_is (S : List Nat) (k q : Nat) (hq : q ≤ S.length) : ∀ r, brk S k q = r → ∀ t, brkS S q = t → (r.2 = none → t.1 = .dead r.1) ∧ (∀ v, r.2 = some v → t.1 = norm S r.1 ∧ GB.mk k 0 t.2 [] = v ∧ q ≤ r.1) := by
  have hn1 := nx_le hq
  obtain ⟨x1, e1⟩ : ∃ x, nx S q = x := ⟨_, rfl⟩
  rw [e1] at hn1
  have hn2 := nx_le hn1.2
  obtain ⟨x2, e2⟩ : ∃ x, nx S x1 = x := ⟨_, rfl⟩
  rw [e2] at hn2
  have hn3 := nx_le hn2.2
  obtain ⟨x3, e3⟩ : ∃ x, nx S x2 = x := ⟨_, rfl⟩
  rw [e3] at hn3
  intro r hr t ht
  unfold brk at hr
  unfold brkS at ht
  rw [e1, e2, e3] at hr
  by_cases h1 : tkAt S q = .sg 40
  · rw [h1] at hr
    rw [dmust_yes h1 (by simp), e1] at ht
    by_cases h2 : ∃ w, tkAt S x1 = .nm w
    · obtain ⟨v, h2⟩ := h2
      rw [h2] at hr
      rw [dname_yes h2, e2] at ht
      by_cases h3 : tkAt S x2 = .sg 41
      · rw [h3] at hr
        rw [dmust_yes h3 (by simp), e3] at ht
        have hr : (x3, some (named k v)) = r := hr
        subst hr
        subst ht
        refine ⟨fun h => (by cases h), fun u hu => ?_⟩
        cases hu
        exact ⟨rfl, rfl, by show q ≤ x3; omega⟩
      · rw [dmust_no h3] at ht
        have hr : (x2, none) = r := by
          rw [← hr]
          show _ = (match tkAt S x2 with | .sg 41 => _ | _ => _)
          split
          · rename_i h9; exact absurd h9 h3
          · rfl
        subst hr
        subst ht
        exact ⟨fun _ => rfl, fun u hu => (by cases hu)⟩
    · have h2' : ∀ w, tkAt S x1 ≠ .nm w := fun w e => h2 ⟨w, e⟩
      rw [dname_no h2', dmust_dead] at ht
      have hr : (x1, none) = r := by
        rw [← hr]
        show _ = (match tkAt S x1 with | .nm w => _ | _ => _)
        split
        · rename_i v h9; exact absurd h9 (h2' v)
        · rfl
      subst hr
      subst ht
      exact ⟨fun _ => rfl, fun u hu => (by cases hu)⟩
  · rw [dmust_no h1, dname_dead, dmust_dead] at ht
    have hr : (q, none) = r := by
      rw [← hr]
      split
      · rename_i h9; exact absurd h9 h1
      · rfl
    subst hr
    subst ht
    exact ⟨fun _ => rfl, fun u hu => (by cases hu)⟩
theorem brk_fin {S : List Nat} {p k : Nat} (hp : p ≤ S.length) (h : brkk (tkAt S p) = some k) : DFin S .atom (.live p) (.mk k 0 (brkS S (nx S p)).2 []) (brkS S (nx S p)).1 := by
  obtain ⟨_, h2, h3⟩ := brkk_is h
  have hlt := nx_lt hp h2 h3
  have hq := (nx_le hp).2
  have key := brkS_is S k (nx S p) hq _ rfl _ rfl
  refine ⟨_, _, .brk h, ?_⟩
  cases hr : (brk S k (nx S p)).2 with
  | none => exact key.1 hr
  | some v =>
    obtain ⟨k1, k2, k3⟩ := key.2 v hr
    exact ⟨k1, k2, by omega⟩
theorem dparen_fin {S : List Nat} {p : Nat} {g : GB} {σ : St} (hp : p ≤ S.length) (h : tkAt S p = .sg 40) (hF : DFin S (.lv .ors) (norm S (nx S p)) g σ) : DFin S .atom (.live p) g (σ.dmust S (.sg 41)) := by
  have hlt := nx_lt hp (by rw [h]; simp) (by rw [h]; simp)
  obtain ⟨p1, r, hR, hr⟩ := hF.norm (s := .lv .ors) trivial
  cases r with
  | none =>
    have hr : σ = .dead p1 := hr
    subst hr
    exact ⟨p1, none, .paren_no h hR, rfl⟩
  | some v =>
    obtain ⟨rfl, rfl, hl⟩ := hr
    by_cases h1 : tkAt S p1 = .sg 41
    · have h9 : p1 ≤ nx S p1 := by unfold nx skip; omega
      exact ⟨nx S p1, some g, .paren_ok h hR h1, dmust_yes h1 (by simp), rfl, by omega⟩
    · exact ⟨p1, none, .paren_end h hR h1, dmust_no h1⟩
theorem leaf_fin {S : List Nat} {p : Nat} {g : GB} (hp : p ≤ S.length) (h : leafk (tkAt S p) = some g) (h2 : tkAt S p ≠ .fin) (h3 : tkAt S p ≠ .non) : DFin S .atom (.live p) g (norm S (nx S p)) :=
  ⟨nx S p, some g, .leaf h, rfl, rfl, nx_lt hp h2 h3⟩
theorem no_fin {S : List Nat} {p : Nat} {g : GB} (h1 : leafk (tkAt S p) = none) (h2 : brkk (tkAt S p) = none) (h3 : tkAt S p ≠ .sg 40) : DFin S .atom (.live p) g (.dead p) :=
  ⟨p, none, .atom_no h1 h2 h3, rfl⟩
set_option maxHeartbeats 1000000 in
set_option maxRecDepth 8000 in
theorem datom_dead (S : ByteArray) (b p : Nat) (w : World) (hP : DIn w b S (.dead p)) : Calls Tryd.prog 52 #[rp b] w fun e w' => DGrP S .atom (.dead p) b w e w' := by
  have HA := AtD.new hP
  clear hP
  unfold rp
  go_enter Tryd.func52, Tryd.ntmps52
  go_upto_region 1 with fail
  refine wp_at (AtD S b _ w) HA (fun w1 H1 => ?_)
  have HW : Hid (AtD S b (.dead p) w w1) := H1
  obtain ⟨i, a, hB⟩ := H1.P.ded p rfl
  obtain ⟨⟨c0, c1, c2, c3, c4, c5⟩, _, _, _, _, _⟩ := drow_cells hB
  have FD := fail_dead S p b w1 H1.P (.int .i64 (a : Int))
  clear H1 HA hB
  unfold rp at FD
  go_wp2_with fail
  refine FD.mono ?_
  rintro e w3 ⟨rfl, hD, hg⟩
  have H3 := HW.out.go hD hg
  have HF : Hid (_ ∧ DGrP S .atom (.dead p) b w _ _) := H3.leaf (σ := .dead p) 0 0 ByteArray.empty (by decide) rng_zero rfl
  obtain ⟨⟨x0, x1, x2, x3⟩, f0, f1, f2, f3⟩ := row4_cells H3.R
  clear FD hD hg H3 c0 c1 c2 c3 c4 c5
  simp only []
  go_wp2_with fail
  exact bodyPost_ret (results_cell_row rfl _ _ w.heap.size 24 (gA 0 0 ByteArray.empty none 0 0) (0, 0) _ rfl HF.out.1 Tryd.underlying24 rfl size_guard) rfl HF.out.2
set_option maxHeartbeats 1000000 in
set_option maxRecDepth 8000 in
theorem datom_fin (S : ByteArray) (b p : Nat) (w : World) (hP : DIn w b S (.live p)) (ht : tkAt (numsOf S) p = .fin) : Calls Tryd.prog 52 #[rp b] w fun e w' => DGrP S .atom (.live p) b w e w' := by
  have HA := AtD.new hP
  have HL : Hid (p ≤ (numsOf S).length) := by
    show p ≤ _
    rw [numsOf_len]
    exact hP.le
  have hN : nowB S p = ⟨#[]⟩ := by
    apply numsOf_inj
    rw [nowB_nums]
    have := tok_now ((numsOf S).drop p)
    rw [show (tok ((numsOf S).drop p)).1 = .fin from ht] at this
    exact this
  have HT : Hid (tkAt (numsOf S) p = .fin) := ht
  clear ht
  clear hP
  unfold rp
  go_enter Tryd.func52, Tryd.ntmps52
  go_upto_region 1 with fail
  refine wp_at (AtD S b _ w) HA (fun w1 H1 => ?_)
  have HW : Hid (AtD S b (.live p) w w1) := H1
  have hB := (H1.P.liv p rfl).2
  rw [hN] at hB
  obtain ⟨⟨c0, c1, c2, c3, c4, c5⟩, _, _, _, _, _⟩ := drow_cells hB
  have FL := fail_live S p HW.out.P.le HW.out.P.sz b w1 _ _ _ _ hB
  clear H1 HA hB hN
  unfold rp at FL
  go_wp2_with fail
  refine FL.mono ?_
  rintro e w3 ⟨rfl, hD, hg⟩
  have H3 := HW.out.go hD hg
  have HF : Hid (_ ∧ DGrP S .atom (.live p) b w _ _) := H3.leaf (σ := .live p) 0 0 ByteArray.empty (by decide) rng_zero (no_fin (by rw [HT.out]; rfl) (by rw [HT.out]; rfl) (by rw [HT.out]; simp))
  obtain ⟨⟨x0, x1, x2, x3⟩, f0, f1, f2, f3⟩ := row4_cells H3.R
  clear FL hD hg H3 c0 c1 c2 c3 c4 c5
  simp only []
  go_wp2_with fail
  exact bodyPost_ret (results_cell_row rfl _ _ w.heap.size 24 (gA 0 0 ByteArray.empty none 0 0) (0, 0) _ rfl HF.out.1 Tryd.underlying24 rfl size_guard) rfl HF.out.2
set_option maxHeartbeats 1000000 in
set_option maxRecDepth 8000 in
theorem datom_true (S : ByteArray) (b p : Nat) (w : World) (hP : DIn w b S (.live p)) (ht : tkAt (numsOf S) p = .wd tkTrue) : Calls Tryd.prog 52 #[rp b] w fun e w' => DGrP S .atom (.live p) b w e w' := by
  have HA := AtD.new hP
  have HL : Hid (p ≤ (numsOf S).length) := by
    show p ≤ _
    rw [numsOf_len]
    exact hP.le
  have hN0 : ((nowB S p).toList == []) = false := lit_no (K := ⟨#[]⟩) rfl (fun e => by
    have h9 := tok_now ((numsOf S).drop p)
    rw [← nowB_nums, e, show (tok ((numsOf S).drop p)).1 = .wd tkTrue from ht] at h9
    exact absurd h9.1 (by decide))
  have HT : Hid (tkAt (numsOf S) p = .wd tkTrue) := ht
  clear ht
  clear hP
  unfold rp
  go_enter Tryd.func52, Tryd.ntmps52
  go_upto_region 1 with fail
  refine wp_at (AtD S b _ w) HA (fun w1 H1 => ?_)
  have HW : Hid (AtD S b (.live p) w w1) := H1
  have hB := (H1.P.liv p rfl).2
  obtain ⟨⟨c0, c1, c2, c3, c4, c5⟩, _, _, _, _, _⟩ := drow_cells hB
  obtain ⟨N, hN⟩ : ∃ N, nowB S p = N := ⟨_, rfl⟩
  rw [hN] at c3 hN0
  clear H1 HA hB hN
  have TK := is_any S b (.wd tkTrue) (sgw _ (by simp)) ⟨#[116, 114, 117, 101]⟩ (by decide) (.live p) w1 HW.out.P
  have hd : (St.live p).dtake (numsOf S) (.wd tkTrue) = (norm (numsOf S) (nx (numsOf S) p), true) := by simp only [St.dtake, HT.out, if_true]
  unfold rp at TK
  go_wp2_with fail
  refine TK.mono ?_
  rintro e w3 ⟨rfl, hD, hg⟩
  rw [hd] at hD ⊢
  have H3 := HW.out.go hD hg
  have HW3 : Hid (AtD S b (norm (numsOf S) (nx (numsOf S) p)) w w3) := H3
  clear TK hD hg hd c0 c1 c2 c3 c4 c5 H3
  simp only []
  have HF : Hid (_ ∧ DGrP S .atom (.live p) b w _ _) := HW3.out.leaf (σ := .live p) 1 0 ByteArray.empty (by decide) rng_zero (leaf_fin HL.out (by rw [HT.out]; rfl) (by rw [HT.out]; simp) (by rw [HT.out]; simp))
  obtain ⟨⟨x0, x1, x2, x3⟩, f0, f1, f2, f3⟩ := row4_cells HW3.out.R
  go_wp2_with fail
  exact bodyPost_ret (results_cell_row rfl _ _ w.heap.size 24 (gA 1 0 ByteArray.empty none 0 0) (0, 0) _ rfl HF.out.1 Tryd.underlying24 rfl size_guard) rfl HF.out.2
set_option maxHeartbeats 1000000 in
set_option maxRecDepth 8000 in
theorem datom_false (S : ByteArray) (b p : Nat) (w : World) (hP : DIn w b S (.live p)) (ht : tkAt (numsOf S) p = .wd tkFalse) : Calls Tryd.prog 52 #[rp b] w fun e w' => DGrP S .atom (.live p) b w e w' := by
  have HA := AtD.new hP
  have HL : Hid (p ≤ (numsOf S).length) := by
    show p ≤ _
    rw [numsOf_len]
    exact hP.le
  have hN0 : ((nowB S p).toList == []) = false := lit_no (K := ⟨#[]⟩) rfl (fun e => by
    have h9 := tok_now ((numsOf S).drop p)
    rw [← nowB_nums, e, show (tok ((numsOf S).drop p)).1 = .wd tkFalse from ht] at h9
    exact absurd h9.1 (by decide))
  have N0 := fun w' h => is_no S b (.wd tkTrue) (sgw _ (by simp)) ⟨#[116, 114, 117, 101]⟩ (by decide) p w' h (by rw [ht]; decide)
  have HT : Hid (tkAt (numsOf S) p = .wd tkFalse) := ht
  clear ht
  clear hP
  unfold rp
  go_enter Tryd.func52, Tryd.ntmps52
  go_upto_region 1 with fail
  refine wp_at (AtD S b _ w) HA (fun w1 H1 => ?_)
  have HW : Hid (AtD S b (.live p) w w1) := H1
  have hB := (H1.P.liv p rfl).2
  obtain ⟨⟨c0, c1, c2, c3, c4, c5⟩, _, _, _, _, _⟩ := drow_cells hB
  obtain ⟨N, hN⟩ : ∃ N, nowB S p = N := ⟨_, rfl⟩
  rw [hN] at c3 hN0
  clear H1 HA hB hN
  unfold rp at N0
  have M := N0 w1 HW.out.P
  clear N0
  go_wp2_with fail
  refine M.mono ?_
  rintro e w9 ⟨rfl, hw9⟩
  rw [hw9]
  clear hw9 M
  simp only []
  have TK := is_any S b (.wd tkFalse) (sgw _ (by simp)) ⟨#[102, 97, 108, 115, 101]⟩ (by decide) (.live p) w1 HW.out.P
  have hd : (St.live p).dtake (numsOf S) (.wd tkFalse) = (norm (numsOf S) (nx (numsOf S) p), true) := by simp only [St.dtake, HT.out, if_true]
  unfold rp at TK
  go_wp2_with fail
  refine TK.mono ?_
  rintro e w3 ⟨rfl, hD, hg⟩
  rw [hd] at hD ⊢
  have H3 := HW.out.go hD hg
  have HW3 : Hid (AtD S b (norm (numsOf S) (nx (numsOf S) p)) w w3) := H3
  clear TK hD hg hd c0 c1 c2 c3 c4 c5 H3
  simp only []
  have HF : Hid (_ ∧ DGrP S .atom (.live p) b w _ _) := HW3.out.leaf (σ := .live p) 2 0 ByteArray.empty (by decide) rng_zero (leaf_fin HL.out (by rw [HT.out]; rfl) (by rw [HT.out]; simp) (by rw [HT.out]; simp))
  obtain ⟨⟨x0, x1, x2, x3⟩, f0, f1, f2, f3⟩ := row4_cells HW3.out.R
  go_wp2_with fail
  exact bodyPost_ret (results_cell_row rfl _ _ w.heap.size 24 (gA 2 0 ByteArray.empty none 0 0) (0, 0) _ rfl HF.out.1 Tryd.underlying24 rfl size_guard) rfl HF.out.2
set_option maxHeartbeats 1000000 in
set_option maxRecDepth 8000 in
theorem datom_open (S : ByteArray) (b p : Nat) (w : World) (hP : DIn w b S (.live p)) (ht : tkAt (numsOf S) p = .wd tkOpen) : Calls Tryd.prog 52 #[rp b] w fun e w' => DGrP S .atom (.live p) b w e w' := by
  have HA := AtD.new hP
  have HL : Hid (p ≤ (numsOf S).length) := by
    show p ≤ _
    rw [numsOf_len]
    exact hP.le
  have hN0 : ((nowB S p).toList == []) = false := lit_no (K := ⟨#[]⟩) rfl (fun e => by
    have h9 := tok_now ((numsOf S).drop p)
    rw [← nowB_nums, e, show (tok ((numsOf S).drop p)).1 = .wd tkOpen from ht] at h9
    exact absurd h9.1 (by decide))
  have N0 := fun w' h => is_no S b (.wd tkTrue) (sgw _ (by simp)) ⟨#[116, 114, 117, 101]⟩ (by decide) p w' h (by rw [ht]; decide)
  have N1 := fun w' h => is_no S b (.wd tkFalse) (sgw _ (by simp)) ⟨#[102, 97, 108, 115, 101]⟩ (by decide) p w' h (by rw [ht]; decide)
  have HT : Hid (tkAt (numsOf S) p = .wd tkOpen) := ht
  clear ht
  clear hP
  unfold rp
  go_enter Tryd.func52, Tryd.ntmps52
  go_upto_region 1 with fail
  refine wp_at (AtD S b _ w) HA (fun w1 H1 => ?_)
  have HW : Hid (AtD S b (.live p) w w1) := H1
  have hB := (H1.P.liv p rfl).2
  obtain ⟨⟨c0, c1, c2, c3, c4, c5⟩, _, _, _, _, _⟩ := drow_cells hB
  obtain ⟨N, hN⟩ : ∃ N, nowB S p = N := ⟨_, rfl⟩
  rw [hN] at c3 hN0
  clear H1 HA hB hN
  unfold rp at N0
  unfold rp at N1
  have M := N0 w1 HW.out.P
  clear N0
  go_wp2_with fail
  refine M.mono ?_
  rintro e w9 ⟨rfl, hw9⟩
  rw [hw9]
  clear hw9 M
  simp only []
  have M := N1 w1 HW.out.P
  clear N1
  go_wp2_with fail
  refine M.mono ?_
  rintro e w9 ⟨rfl, hw9⟩
  rw [hw9]
  clear hw9 M
  simp only []
  have TK := is_any S b (.wd tkOpen) (sgw _ (by simp)) ⟨#[111, 112, 101, 110]⟩ (by decide) (.live p) w1 HW.out.P
  have hd : (St.live p).dtake (numsOf S) (.wd tkOpen) = (norm (numsOf S) (nx (numsOf S) p), true) := by simp only [St.dtake, HT.out, if_true]
  unfold rp at TK
  go_wp2_with fail
  refine TK.mono ?_
  rintro e w3 ⟨rfl, hD, hg⟩
  rw [hd] at hD ⊢
  have H3 := HW.out.go hD hg
  have HW3 : Hid (AtD S b (norm (numsOf S) (nx (numsOf S) p)) w w3) := H3
  clear TK hD hg hd c0 c1 c2 c3 c4 c5 H3
  simp only []
  have M1 := need_any S b (.sg 40) (ask_sg rfl) ⟨#[40]⟩ (by decide) _ w3 HW3.out.P
  unfold rp at M1
  go_wp2_with fail
  refine M1.mono ?_
  rintro e w4 ⟨rfl, hD4, hg4⟩
  have HW4 : Hid (AtD S b ((norm (numsOf S) (nx (numsOf S) p)).dmust (numsOf S) (.sg 40)) w w4) := HW3.out.go hD4 hg4
  clear M1 hD4 hg4
  simp only []
  have M2 := name_any S b _ w4 HW4.out.P
  unfold rp at M2
  go_wp2_with fail
  refine M2.mono ?_
  rintro e w5 ⟨rfl, hD5, hg5⟩
  have HW5 : Hid (AtD S b (((norm (numsOf S) (nx (numsOf S) p)).dmust (numsOf S) (.sg 40)).dname (numsOf S)).1 w w5) := HW4.out.go hD5 hg5
  obtain ⟨T, hT⟩ : ∃ T, (((norm (numsOf S) (nx (numsOf S) p)).dmust (numsOf S) (.sg 40)).dname (numsOf S)).2 = T := ⟨_, rfl⟩
  rw [hT]
  have HTT : Hid ((brkS (numsOf S) (nx (numsOf S) p)).2 = T) := hT
  clear M2 hD5 hg5 hT
  simp only []
  have b6 := below_new w5 (.cells #[.int .u8 6, .int .i64 0, .string T, .slice none 0 0] 24)
  have n6 := _root_.Go.heap_alloc_new w5 (.cells #[.int .u8 6, .int .i64 0, .string T, .slice none 0 0] 24)
  have H6 := HW5.out.go (HW5.out.P.below b6) (grown_below b6 _)
  have HW6 : Hid (AtD S b _ w (w5.alloc (.cells #[.int .u8 6, .int .i64 0, .string T, .slice none 0 0] 24)) ∧ (w5.alloc (.cells #[.int .u8 6, .int .i64 0, .string T, .slice none 0 0] 24)).heap[w5.heap.size]? = some (.cells #[.int .u8 6, .int .i64 0, .string T, .slice none 0 0] 24 (0, 0)) ∧ w.heap.size < w5.heap.size) := ⟨H6, n6, heap_lt HW5.out.R⟩
  have M3 := need_any S b (.sg 41) (ask_sg rfl) ⟨#[41]⟩ (by decide) _ _ H6.P
  unfold rp at M3
  clear b6 n6 H6
  go_wp2_with fail
  refine M3.mono ?_
  rintro e w7 ⟨rfl, hD7, hg7⟩
  have H7 := HW6.out.1.go hD7 hg7
  have hbx := box_at hg7 HW6.out.2.1 (fun e => by have := Option.some.inj e; have := HW6.out.2.2; have := HW.out.hb; omega)
  have HF : Hid (_ ∧ DGrP S .atom (.live p) b w _ _) := H7.leaf (σ := .live p) 6 0 T (by decide) rng_zero (by
    have h9 := brk_fin (k := 6) HL.out (by rw [HT.out]; rfl)
    rw [HTT.out] at h9
    exact h9)
  obtain ⟨⟨x0, x1, x2, x3⟩, f0, f1, f2, f3⟩ := row4_cells H7.R
  obtain ⟨⟨y0, y1, y2, y3⟩, _, _, _, _⟩ := row4_cells hbx
  clear M3 hD7 hg7 H7 hbx
  simp only []
  go_wp2_with fail
  exact bodyPost_ret (results_cell_row rfl _ _ w.heap.size 24 (gA 6 0 T none 0 0) (0, 0) _ rfl HF.out.1 Tryd.underlying24 rfl size_guard) rfl HF.out.2
set_option maxHeartbeats 1000000 in
set_option maxRecDepth 8000 in
theorem datom_done (S : ByteArray) (b p : Nat) (w : World) (hP : DIn w b S (.live p)) (ht : tkAt (numsOf S) p = .wd tkDone) : Calls Tryd.prog 52 #[rp b] w fun e w' => DGrP S .atom (.live p) b w e w' := by
  have HA := AtD.new hP
  have HL : Hid (p ≤ (numsOf S).length) := by
    show p ≤ _
    rw [numsOf_len]
    exact hP.le
  have hN0 : ((nowB S p).toList == []) = false := lit_no (K := ⟨#[]⟩) rfl (fun e => by
    have h9 := tok_now ((numsOf S).drop p)
    rw [← nowB_nums, e, show (tok ((numsOf S).drop p)).1 = .wd tkDone from ht] at h9
    exact absurd h9.1 (by decide))
  have N0 := fun w' h => is_no S b (.wd tkTrue) (sgw _ (by simp)) ⟨#[116, 114, 117, 101]⟩ (by decide) p w' h (by rw [ht]; decide)
  have N1 := fun w' h => is_no S b (.wd tkFalse) (sgw _ (by simp)) ⟨#[102, 97, 108, 115, 101]⟩ (by decide) p w' h (by rw [ht]; decide)
  have N2 := fun w' h => is_no S b (.wd tkOpen) (sgw _ (by simp)) ⟨#[111, 112, 101, 110]⟩ (by decide) p w' h (by rw [ht]; decide)
  have HT : Hid (tkAt (numsOf S) p = .wd tkDone) := ht
  clear ht
  clear hP
  unfold rp
  go_enter Tryd.func52, Tryd.ntmps52
  go_upto_region 1 with fail
  refine wp_at (AtD S b _ w) HA (fun w1 H1 => ?_)
  have HW : Hid (AtD S b (.live p) w w1) := H1
  have hB := (H1.P.liv p rfl).2
  obtain ⟨⟨c0, c1, c2, c3, c4, c5⟩, _, _, _, _, _⟩ := drow_cells hB
  obtain ⟨N, hN⟩ : ∃ N, nowB S p = N := ⟨_, rfl⟩
  rw [hN] at c3 hN0
  clear H1 HA hB hN
  unfold rp at N0
  unfold rp at N1
  unfold rp at N2
  have M := N0 w1 HW.out.P
  clear N0
  go_wp2_with fail
  refine M.mono ?_
  rintro e w9 ⟨rfl, hw9⟩
  rw [hw9]
  clear hw9 M
  simp only []
  have M := N1 w1 HW.out.P
  clear N1
  go_wp2_with fail
  refine M.mono ?_
  rintro e w9 ⟨rfl, hw9⟩
  rw [hw9]
  clear hw9 M
  simp only []
  have M := N2 w1 HW.out.P
  clear N2
  go_wp2_with fail
  refine M.mono ?_
  rintro e w9 ⟨rfl, hw9⟩
  rw [hw9]
  clear hw9 M
  simp only []
  have TK := is_any S b (.wd tkDone) (sgw _ (by simp)) ⟨#[100, 111, 110, 101]⟩ (by decide) (.live p) w1 HW.out.P
  have hd : (St.live p).dtake (numsOf S) (.wd tkDone) = (norm (numsOf S) (nx (numsOf S) p), true) := by simp only [St.dtake, HT.out, if_true]
  unfold rp at TK
  go_wp2_with fail
  refine TK.mono ?_
  rintro e w3 ⟨rfl, hD, hg⟩
  rw [hd] at hD ⊢
  have H3 := HW.out.go hD hg
  have HW3 : Hid (AtD S b (norm (numsOf S) (nx (numsOf S) p)) w w3) := H3
  clear TK hD hg hd c0 c1 c2 c3 c4 c5 H3
  simp only []
  have M1 := need_any S b (.sg 40) (ask_sg rfl) ⟨#[40]⟩ (by decide) _ w3 HW3.out.P
  unfold rp at M1
  go_wp2_with fail
  refine M1.mono ?_
  rintro e w4 ⟨rfl, hD4, hg4⟩
  have HW4 : Hid (AtD S b ((norm (numsOf S) (nx (numsOf S) p)).dmust (numsOf S) (.sg 40)) w w4) := HW3.out.go hD4 hg4
  clear M1 hD4 hg4
  simp only []
  have M2 := name_any S b _ w4 HW4.out.P
  unfold rp at M2
  go_wp2_with fail
  refine M2.mono ?_
  rintro e w5 ⟨rfl, hD5, hg5⟩
  have HW5 : Hid (AtD S b (((norm (numsOf S) (nx (numsOf S) p)).dmust (numsOf S) (.sg 40)).dname (numsOf S)).1 w w5) := HW4.out.go hD5 hg5
  obtain ⟨T, hT⟩ : ∃ T, (((norm (numsOf S) (nx (numsOf S) p)).dmust (numsOf S) (.sg 40)).dname (numsOf S)).2 = T := ⟨_, rfl⟩
  rw [hT]
  have HTT : Hid ((brkS (numsOf S) (nx (numsOf S) p)).2 = T) := hT
  clear M2 hD5 hg5 hT
  simp only []
  have b6 := below_new w5 (.cells #[.int .u8 7, .int .i64 0, .string T, .slice none 0 0] 24)
  have n6 := _root_.Go.heap_alloc_new w5 (.cells #[.int .u8 7, .int .i64 0, .string T, .slice none 0 0] 24)
  have H6 := HW5.out.go (HW5.out.P.below b6) (grown_below b6 _)
  have HW6 : Hid (AtD S b _ w (w5.alloc (.cells #[.int .u8 7, .int .i64 0, .string T, .slice none 0 0] 24)) ∧ (w5.alloc (.cells #[.int .u8 7, .int .i64 0, .string T, .slice none 0 0] 24)).heap[w5.heap.size]? = some (.cells #[.int .u8 7, .int .i64 0, .string T, .slice none 0 0] 24 (0, 0)) ∧ w.heap.size < w5.heap.size) := ⟨H6, n6, heap_lt HW5.out.R⟩
  have M3 := need_any S b (.sg 41) (ask_sg rfl) ⟨#[41]⟩ (by decide) _ _ H6.P
  unfold rp at M3
  clear b6 n6 H6
  go_wp2_with fail
  refine M3.mono ?_
  rintro e w7 ⟨rfl, hD7, hg7⟩
  have H7 := HW6.out.1.go hD7 hg7
  have hbx := box_at hg7 HW6.out.2.1 (fun e => by have := Option.some.inj e; have := HW6.out.2.2; have := HW.out.hb; omega)
  have HF : Hid (_ ∧ DGrP S .atom (.live p) b w _ _) := H7.leaf (σ := .live p) 7 0 T (by decide) rng_zero (by
    have h9 := brk_fin (k := 7) HL.out (by rw [HT.out]; rfl)
    rw [HTT.out] at h9
    exact h9)
  obtain ⟨⟨x0, x1, x2, x3⟩, f0, f1, f2, f3⟩ := row4_cells H7.R
  obtain ⟨⟨y0, y1, y2, y3⟩, _, _, _, _⟩ := row4_cells hbx
  clear M3 hD7 hg7 H7 hbx
  simp only []
  go_wp2_with fail
  exact bodyPost_ret (results_cell_row rfl _ _ w.heap.size 24 (gA 7 0 T none 0 0) (0, 0) _ rfl HF.out.1 Tryd.underlying24 rfl size_guard) rfl HF.out.2
set_option maxHeartbeats 1000000 in
set_option maxRecDepth 8000 in
theorem datom_paren (S : ByteArray) (b p : Nat) (n : Nat) (hn : S.size - p ≤ n) (CG : ∀ m, m < n → DCon 10 S (.lv .ors) b m) (w : World) (hP : DIn w b S (.live p)) (ht : tkAt (numsOf S) p = .sg 40) : Calls Tryd.prog 52 #[rp b] w fun e w' => DGrP S .atom (.live p) b w e w' := by
  have HA := AtD.new hP
  have HL : Hid (p ≤ (numsOf S).length) := by
    show p ≤ _
    rw [numsOf_len]
    exact hP.le
  have hN0 : ((nowB S p).toList == []) = false := lit_no (K := ⟨#[]⟩) rfl (fun e => by
    have h9 := tok_now ((numsOf S).drop p)
    rw [← nowB_nums, e, show (tok ((numsOf S).drop p)).1 = .sg 40 from ht] at h9
    exact absurd h9.1 (by decide))
  have N0 := fun w' h => is_no S b (.wd tkTrue) (sgw _ (by simp)) ⟨#[116, 114, 117, 101]⟩ (by decide) p w' h (by rw [ht]; simp)
  have N1 := fun w' h => is_no S b (.wd tkFalse) (sgw _ (by simp)) ⟨#[102, 97, 108, 115, 101]⟩ (by decide) p w' h (by rw [ht]; simp)
  have N2 := fun w' h => is_no S b (.wd tkOpen) (sgw _ (by simp)) ⟨#[111, 112, 101, 110]⟩ (by decide) p w' h (by rw [ht]; simp)
  have N3 := fun w' h => is_no S b (.wd tkDone) (sgw _ (by simp)) ⟨#[100, 111, 110, 101]⟩ (by decide) p w' h (by rw [ht]; simp)
  have HCG : Hid ((∀ m, m < n → DCon 10 S (.lv .ors) b m) ∧ S.size - p ≤ n) := ⟨CG, hn⟩
  clear CG hn
  have HT : Hid (tkAt (numsOf S) p = .sg 40) := ht
  clear ht
  clear hP
  unfold rp
  go_enter Tryd.func52, Tryd.ntmps52
  go_upto_region 1 with fail
  refine wp_at (AtD S b _ w) HA (fun w1 H1 => ?_)
  have HW : Hid (AtD S b (.live p) w w1) := H1
  have hB := (H1.P.liv p rfl).2
  obtain ⟨⟨c0, c1, c2, c3, c4, c5⟩, _, _, _, _, _⟩ := drow_cells hB
  obtain ⟨N, hN⟩ : ∃ N, nowB S p = N := ⟨_, rfl⟩
  rw [hN] at c3 hN0
  clear H1 HA hB hN
  unfold rp at N0
  unfold rp at N1
  unfold rp at N2
  unfold rp at N3
  have M := N0 w1 HW.out.P
  clear N0
  go_wp2_with fail
  refine M.mono ?_
  rintro e w9 ⟨rfl, hw9⟩
  rw [hw9]
  clear hw9 M
  simp only []
  have M := N1 w1 HW.out.P
  clear N1
  go_wp2_with fail
  refine M.mono ?_
  rintro e w9 ⟨rfl, hw9⟩
  rw [hw9]
  clear hw9 M
  simp only []
  have M := N2 w1 HW.out.P
  clear N2
  go_wp2_with fail
  refine M.mono ?_
  rintro e w9 ⟨rfl, hw9⟩
  rw [hw9]
  clear hw9 M
  simp only []
  have M := N3 w1 HW.out.P
  clear N3
  go_wp2_with fail
  refine M.mono ?_
  rintro e w9 ⟨rfl, hw9⟩
  rw [hw9]
  clear hw9 M
  simp only []
  have TK := is_any S b (.sg 40) (sgw _ (by simp)) ⟨#[40]⟩ (by decide) (.live p) w1 HW.out.P
  have hd : (St.live p).dtake (numsOf S) (.sg 40) = (norm (numsOf S) (nx (numsOf S) p), true) := by simp only [St.dtake, HT.out, if_true]
  unfold rp at TK
  go_wp2_with fail
  refine TK.mono ?_
  rintro e w3 ⟨rfl, hD, hg⟩
  rw [hd] at hD ⊢
  have H3 := HW.out.go hD hg
  have HW3 : Hid (AtD S b (norm (numsOf S) (nx (numsOf S) p)) w w3) := H3
  clear TK hD hg hd c0 c1 c2 c3 c4 c5 H3
  simp only []
  have hlt := nx_lt HL.out (by rw [HT.out]; simp) (by rw [HT.out]; simp)
  have CX := HCG.out.1 (S.size - nx (numsOf S) p) (by have := HCG.out.2; have := norm_le HW3.out.P; omega) _ w3 (norm_left S _) HW3.out.P
  unfold rp at CX
  clear hlt HCG
  go_wp2_with fail
  refine CX.mono ?_
  rintro e w5 ⟨k5, n5, t5, q5, l5, c5, g, σ5, rfl, hG5, hP5, hg5, hF5⟩
  have b6 := below_new w5 (.cells (gA k5 n5 t5 q5 l5 c5) 24)
  have n6 := _root_.Go.heap_alloc_new w5 (.cells (gA k5 n5 t5 q5 l5 c5) 24)
  have h5s := hg5.size
  have hz3 := heap_lt HW3.out.R
  have H6 := HW3.out.go (hP5.below b6) (grown_trans hg5 (grown_below b6 _))
  have HW6 : Hid (AtD S b σ5 w (w5.alloc (.cells (gA k5 n5 t5 q5 l5 c5) 24)) ∧ (w5.alloc (.cells (gA k5 n5 t5 q5 l5 c5) 24)).heap[w5.heap.size]? = some (.cells (gA k5 n5 t5 q5 l5 c5) 24 (0, 0)) ∧ w.heap.size < w5.heap.size ∧ GIn (w5.alloc (.cells (gA k5 n5 t5 q5 l5 c5) 24)) (fun i => w.heap.size < i) (gA k5 n5 t5 q5 l5 c5) g ∧ DFin (numsOf S) .atom (.live p) g (σ5.dmust (numsOf S) (.sg 41))) := ⟨H6, n6, by omega, (hG5.bel b6).wk fun i hi => by omega, dparen_fin HL.out HT.out hF5⟩
  have M3 := need_any S b (.sg 41) (ask_sg rfl) ⟨#[41]⟩ (by decide) _ _ H6.P
  unfold gA at M3 ⊢
  unfold rp at M3
  clear b6 n6 H6 CX hG5 hP5 hg5 hF5 h5s hz3
  simp only []
  go_wp2_with fail
  refine M3.mono ?_
  rintro e w7 ⟨rfl, hD7, hg7⟩
  have hg7' : (w5.alloc (.cells (gA k5 n5 t5 q5 l5 c5) 24)).grownBy w7 (some b) := hg7
  have H7 := HW6.out.1.go hD7 hg7'
  have hbx := box_at hg7' HW6.out.2.1 (fun e => by have := Option.some.inj e; have := HW6.out.2.2.1; have := HW.out.hb; omega)
  have HF : Hid (AtD S b _ w w7 ∧ GIn w7 (fun i => w.heap.size < i) (gA k5 n5 t5 q5 l5 c5) g) := ⟨H7, HW6.out.2.2.2.1.grown hg7' (fun i hi => by have := HW.out.hb; omega)⟩
  obtain ⟨⟨x0, x1, x2, x3⟩, f0, f1, f2, f3⟩ := row4_cells H7.R
  obtain ⟨y0, y1, y2, y3⟩ := box_of hbx
  clear M3 hD7 hg7 hg7' H7 hbx
  simp only []
  go_wp2_with fail
  have B4 := set4_grown w7 w.heap.size (.int .u8 (k5 : Int)) (.int .i64 n5) (.string t5) (.slice q5 l5 c5)
  refine bodyPost_ret (results_cell_row rfl _ _ w.heap.size 24 (gA k5 n5 t5 q5 l5 c5) (0, 0) _ rfl (set4_heap HF.out.1.R _ _ _ _) Tryd.underlying24 rfl size_guard) rfl ?_
  exact ⟨k5, n5, t5, q5, l5, c5, g, _, rfl, (HF.out.2.grown B4 (fun i hi => by omega)).wk (fun i hi => by omega), HF.out.1.P.aside B4 (by have := HW.out.hb; omega), grown_new HF.out.1.G B4 (Nat.le_refl _), HW6.out.2.2.2.2⟩
theorem int_zero {X : ByteArray} (h : numsOf X = [48]) : IntIs X := int_is (by rw [h]; rfl)
theorem now_nu {n : List Nat} {k : Nat} (h : NowIs n (.nu k)) {X : ByteArray} (hX : numsOf X = n) : ∃ c r, n = c :: r ∧ 48 ≤ c ∧ c ≤ 57 ∧ IntIs X ∧ J.intOf (numsOf X) = (k : Int) ∧ k ≤ 9223372036854775807 := by
  obtain ⟨⟨c, r, rfl, hd, hz⟩, hk, hm⟩ := h
  have h9 := hd c (by simp)
  unfold isDg at h9
  simp at h9
  refine ⟨c, r, rfl, h9.1, h9.2, ?_⟩
  by_cases hc : c = 48
  · obtain rfl := hz hc
    subst hc
    refine ⟨int_zero hX, ?_, hm⟩
    rw [hX, hk]
    rfl
  · have h8 := int_digs hX hc hd
    exact ⟨h8.1, by rw [h8.2, hk], hm⟩
set_option maxHeartbeats 1000000 in
set_option maxRecDepth 8000 in
theorem datom_nu (S : ByteArray) (b p : Nat) (m : Nat) (w : World) (hP : DIn w b S (.live p)) (ht : tkAt (numsOf S) p = .nu m) : Calls Tryd.prog 52 #[rp b] w fun e w' => DGrP S .atom (.live p) b w e w' := by
  have HA := AtD.new hP
  have HL : Hid (p ≤ (numsOf S).length) := by
    show p ≤ _
    rw [numsOf_len]
    exact hP.le
  have hN0 : ((nowB S p).toList == []) = false := lit_no (K := ⟨#[]⟩) rfl (fun e => by
    have h9 := tok_now ((numsOf S).drop p)
    rw [← nowB_nums, e, show (tok ((numsOf S).drop p)).1 = .nu m from ht] at h9
    obtain ⟨⟨c, r, h, _⟩, _⟩ := h9
    exact absurd (congrArg List.length h) (by rw [numsOf_len]; show ¬ (0 = _ + 1); omega))
  have N0 := fun w' h => is_no S b (.wd tkTrue) (sgw _ (by simp)) ⟨#[116, 114, 117, 101]⟩ (by decide) p w' h (by rw [ht]; simp)
  have N1 := fun w' h => is_no S b (.wd tkFalse) (sgw _ (by simp)) ⟨#[102, 97, 108, 115, 101]⟩ (by decide) p w' h (by rw [ht]; simp)
  have N2 := fun w' h => is_no S b (.wd tkOpen) (sgw _ (by simp)) ⟨#[111, 112, 101, 110]⟩ (by decide) p w' h (by rw [ht]; simp)
  have N3 := fun w' h => is_no S b (.wd tkDone) (sgw _ (by simp)) ⟨#[100, 111, 110, 101]⟩ (by decide) p w' h (by rw [ht]; simp)
  have N4 := fun w' h => is_no S b (.sg 40) (sgw _ (by simp)) ⟨#[40]⟩ (by decide) p w' h (by rw [ht]; simp)
  have HT : Hid (tkAt (numsOf S) p = .nu m) := ht
  clear ht
  clear hP
  unfold rp
  go_enter Tryd.func52, Tryd.ntmps52
  go_upto_region 1 with fail
  refine wp_at (AtD S b _ w) HA (fun w1 H1 => ?_)
  have HW : Hid (AtD S b (.live p) w w1) := H1
  have hB := (H1.P.liv p rfl).2
  obtain ⟨⟨c0, c1, c2, c3, c4, c5⟩, _, _, _, _, _⟩ := drow_cells hB
  obtain ⟨N, hN⟩ : ∃ N, nowB S p = N := ⟨_, rfl⟩
  rw [hN] at c3 hN0
  have hE2 : p + (tok ((numsOf S).drop p)).2 ≤ S.size := by
    have := tok_len ((numsOf S).drop p)
    have h8 := HL.out
    rw [List.length_drop] at this
    rw [numsOf_len] at this h8
    omega
  have hnum : numsOf N = nowL ((numsOf S).drop p) := by rw [← hN]; exact nowB_nums S p
  have hnow := tok_now ((numsOf S).drop p)
  rw [show (tok ((numsOf S).drop p)).1 = .nu m from HT.out] at hnow
  obtain ⟨c, r, hcr, hc1, hc2, hI, hv, hm⟩ := now_nu hnow hnum
  have hsz : N.size ≤ 20000 := by
    rw [← numsOf_len, hnum]
    unfold nowL
    rw [List.length_take, List.length_drop, numsOf_len]
    have := HW.out.P.sz
    omega
  have hpos : 0 < N.size := by rw [← numsOf_len, hnum, hcr]; simp
  have hx0 := fun w' => str_at N 0 hpos w'
  rw [show (numsOf N).getD 0 0 = c by rw [hnum, hcr]; rfl, show (((0 : Nat) : Int)) = 0 from rfl] at hx0
  have i1 : (48 : Int) ≤ (c : Int) := by omega
  have i2 : (c : Int) ≤ 57 := by omega
  rw [hN] at hB
  have HV : Hid (w1.heap[b]? = _ ∧ p + (tok ((numsOf S).drop p)).2 ≤ S.size ∧ True ∧ True ∧ True ∧ True ∧ IntIs N ∧ J.intOf (numsOf N) = (m : Int) ∧ m ≤ 9223372036854775807 ∧ N.size ≤ 20000) := ⟨hB, hE2, trivial, trivial, trivial, trivial, hI, hv, hm, hsz⟩
  clear hE2 hnum hnow hcr hc1 hc2 hI hv hm hsz hpos
  clear H1 HA hB hN
  unfold rp at N0
  unfold rp at N1
  unfold rp at N2
  unfold rp at N3
  unfold rp at N4
  have M := N0 w1 HW.out.P
  clear N0
  go_wp2_with fail
  refine M.mono ?_
  rintro e w9 ⟨rfl, hw9⟩
  rw [hw9]
  clear hw9 M
  simp only []
  have M := N1 w1 HW.out.P
  clear N1
  go_wp2_with fail
  refine M.mono ?_
  rintro e w9 ⟨rfl, hw9⟩
  rw [hw9]
  clear hw9 M
  simp only []
  have M := N2 w1 HW.out.P
  clear N2
  go_wp2_with fail
  refine M.mono ?_
  rintro e w9 ⟨rfl, hw9⟩
  rw [hw9]
  clear hw9 M
  simp only []
  have M := N3 w1 HW.out.P
  clear N3
  go_wp2_with fail
  refine M.mono ?_
  rintro e w9 ⟨rfl, hw9⟩
  rw [hw9]
  clear hw9 M
  simp only []
  have M := N4 w1 HW.out.P
  clear N4
  go_wp2_with fail
  refine M.mono ?_
  rintro e w9 ⟨rfl, hw9⟩
  rw [hw9]
  clear hw9 M
  simp only []
  have DI := dInt_any N HV.out.2.2.2.2.2.2.1 HV.out.2.2.2.2.2.2.2.2.2 w1
  go_wp2_with fail
  refine DI.mono ?_
  rintro e w3 ⟨n, f, rfl, hf1, hf2, hb3⟩
  have hfm : f = true := hf1.2 (by rw [HV.out.2.2.2.2.2.2.2.1]; unfold J.Rng; have := HV.out.2.2.2.2.2.2.2.2.1; omega)
  have hnm : n = (m : Int) := by rw [hf2 hfm, HV.out.2.2.2.2.2.2.2.1]
  subst hnm
  have HW3 : Hid (AtD S b (.live p) w w3 ∧ w3.heap[b]? = _) := ⟨HW.out.go (HW.out.P.below hb3) (grown_below hb3 _), box_below HV.out.1 hb3⟩
  have SP := step_any S _ b HV.out.2.1 HW.out.P.sz _ _ w3 HW3.out.2
  unfold rp at SP
  clear DI hf1 hf2 hfm hb3 c0 c1 c2 c3 c4 c5
  simp only []
  go_wp2_with fail
  refine SP.mono ?_
  rintro e w5 ⟨rfl, hD, hg⟩
  have H5 := HW3.out.1.go hD hg
  have HF : Hid (_ ∧ DGrP S .atom (.live p) b w _ _) := H5.leaf (σ := .live p) 3 (m : Int) ByteArray.empty (by decide) (by unfold J.Rng; have := HV.out.2.2.2.2.2.2.2.2.1; omega) (leaf_fin HL.out (by rw [HT.out]; rfl) (by rw [HT.out]; simp) (by rw [HT.out]; simp))
  obtain ⟨⟨x0, x1, x2, x3⟩, f0, f1, f2, f3⟩ := row4_cells H5.R
  clear SP hD hg H5
  simp only []
  go_wp2_with fail
  exact bodyPost_ret (results_cell_row rfl _ _ w.heap.size 24 (gA 3 (m : Int) ByteArray.empty none 0 0) (0, 0) _ rfl HF.out.1 Tryd.underlying24 rfl size_guard) rfl HF.out.2
set_option maxHeartbeats 1000000 in
set_option maxRecDepth 8000 in
theorem datom_tx (S : ByteArray) (b p : Nat) (t : List Nat) (w : World) (hP : DIn w b S (.live p)) (ht : tkAt (numsOf S) p = .tx t) : Calls Tryd.prog 52 #[rp b] w fun e w' => DGrP S .atom (.live p) b w e w' := by
  have HA := AtD.new hP
  have HL : Hid (p ≤ (numsOf S).length) := by
    show p ≤ _
    rw [numsOf_len]
    exact hP.le
  have hN0 : ((nowB S p).toList == []) = false := lit_no (K := ⟨#[]⟩) rfl (fun e => by
    have h9 := tok_now ((numsOf S).drop p)
    rw [← nowB_nums, e, show (tok ((numsOf S).drop p)).1 = .tx t from ht] at h9
    have h8 : numsOf ⟨#[]⟩ = 39 :: (t ++ [39]) := h9
    exact absurd (congrArg List.length h8) (by rw [numsOf_len]; show ¬ (0 = _ + 1); omega))
  have N0 := fun w' h => is_no S b (.wd tkTrue) (sgw _ (by simp)) ⟨#[116, 114, 117, 101]⟩ (by decide) p w' h (by rw [ht]; simp)
  have N1 := fun w' h => is_no S b (.wd tkFalse) (sgw _ (by simp)) ⟨#[102, 97, 108, 115, 101]⟩ (by decide) p w' h (by rw [ht]; simp)
  have N2 := fun w' h => is_no S b (.wd tkOpen) (sgw _ (by simp)) ⟨#[111, 112, 101, 110]⟩ (by decide) p w' h (by rw [ht]; simp)
  have N3 := fun w' h => is_no S b (.wd tkDone) (sgw _ (by simp)) ⟨#[100, 111, 110, 101]⟩ (by decide) p w' h (by rw [ht]; simp)
  have N4 := fun w' h => is_no S b (.sg 40) (sgw _ (by simp)) ⟨#[40]⟩ (by decide) p w' h (by rw [ht]; simp)
  have HT : Hid (tkAt (numsOf S) p = .tx t) := ht
  clear ht
  clear hP
  unfold rp
  go_enter Tryd.func52, Tryd.ntmps52
  go_upto_region 1 with fail
  refine wp_at (AtD S b _ w) HA (fun w1 H1 => ?_)
  have HW : Hid (AtD S b (.live p) w w1) := H1
  have hB := (H1.P.liv p rfl).2
  obtain ⟨⟨c0, c1, c2, c3, c4, c5⟩, _, _, _, _, _⟩ := drow_cells hB
  obtain ⟨N, hN⟩ : ∃ N, nowB S p = N := ⟨_, rfl⟩
  rw [hN] at c3 hN0
  have hE2 : p + (tok ((numsOf S).drop p)).2 ≤ S.size := by
    have := tok_len ((numsOf S).drop p)
    have h8 := HL.out
    rw [List.length_drop] at this
    rw [numsOf_len] at this h8
    omega
  have hnum : numsOf N = nowL ((numsOf S).drop p) := by rw [← hN]; exact nowB_nums S p
  have hnow : NowIs (nowL ((numsOf S).drop p)) _ := tok_now ((numsOf S).drop p)
  rw [show (tok ((numsOf S).drop p)).1 = .tx t from HT.out] at hnow
  have hnow : nowL ((numsOf S).drop p) = 39 :: (t ++ [39]) := hnow
  rw [hnow] at hnum
  have hsz : N.size = t.length + 2 := by rw [← numsOf_len, hnum]; simp
  have hx0 := fun w' => str_at N 0 (by omega) w'
  rw [show (numsOf N).getD 0 0 = 39 by rw [hnum]; rfl, show (((0 : Nat) : Int)) = 0 from rfl, show (((39 : Nat) : Int)) = 39 from rfl] at hx0
  have XS : ∀ w', (Instr.slice 9 (.string N) (some (.int .i64 1)) (some (.int .i64 ((N.size : Int) - 1))) none).run Tryd.prog w' = .ok (.string (strOf t)) w' := fun w' => by
    have h9 := slice_mid N 1 (t.length + 1) (by omega) (by omega) w'
    rw [show (N.size : Int) - 1 = ((t.length + 1 : Nat) : Int) by omega]
    have e : N.extract 1 (t.length + 1) = strOf t := by
      rw [← strOf_nums (N.extract 1 (t.length + 1)), extract_nums, hnum]
      congr 1
      simp
    rw [e] at h9
    exact h9
  have hsI : (2 : Int) ≤ (N.size : Int) := by omega
  have hsI2 : (N.size : Int) ≤ 16384 := by
    have h8 := congrArg List.length hnow
    unfold nowL at h8
    rw [List.length_take, List.length_drop, numsOf_len] at h8
    simp at h8
    have := HW.out.P.sz
    omega
  rw [hN] at hB
  have HV : Hid (w1.heap[b]? = _ ∧ p + (tok ((numsOf S).drop p)).2 ≤ S.size) := ⟨hB, hE2⟩
  clear hE2 hnum hnow hsz
  clear H1 HA hB hN
  unfold rp at N0
  unfold rp at N1
  unfold rp at N2
  unfold rp at N3
  unfold rp at N4
  have M := N0 w1 HW.out.P
  clear N0
  go_wp2_with fail
  refine M.mono ?_
  rintro e w9 ⟨rfl, hw9⟩
  rw [hw9]
  clear hw9 M
  simp only []
  have M := N1 w1 HW.out.P
  clear N1
  go_wp2_with fail
  refine M.mono ?_
  rintro e w9 ⟨rfl, hw9⟩
  rw [hw9]
  clear hw9 M
  simp only []
  have M := N2 w1 HW.out.P
  clear N2
  go_wp2_with fail
  refine M.mono ?_
  rintro e w9 ⟨rfl, hw9⟩
  rw [hw9]
  clear hw9 M
  simp only []
  have M := N3 w1 HW.out.P
  clear N3
  go_wp2_with fail
  refine M.mono ?_
  rintro e w9 ⟨rfl, hw9⟩
  rw [hw9]
  clear hw9 M
  simp only []
  have M := N4 w1 HW.out.P
  clear N4
  go_wp2_with fail
  refine M.mono ?_
  rintro e w9 ⟨rfl, hw9⟩
  rw [hw9]
  clear hw9 M
  simp only []
  have SP := step_any S _ b HV.out.2 HW.out.P.sz _ _ w1 HV.out.1
  unfold rp at SP
  go_wp2_with fail
  refine SP.mono ?_
  rintro e w5 ⟨rfl, hD, hg⟩
  have H5 := HW.out.go hD hg
  have HF : Hid (_ ∧ DGrP S .atom (.live p) b w _ _) := H5.leaf (σ := .live p) 4 0 (strOf t) (by decide) rng_zero (leaf_fin HL.out (by rw [HT.out]; rfl) (by rw [HT.out]; simp) (by rw [HT.out]; simp))
  obtain ⟨⟨x0, x1, x2, x3⟩, f0, f1, f2, f3⟩ := row4_cells H5.R
  clear SP hD hg H5 c0 c1 c2 c3 c4 c5
  simp only []
  go_wp2_with fail
  exact bodyPost_ret (results_cell_row rfl _ _ w.heap.size 24 (gA 4 0 (strOf t) none 0 0) (0, 0) _ rfl HF.out.1 Tryd.underlying24 rfl size_guard) rfl HF.out.2
set_option maxHeartbeats 1000000 in
set_option maxRecDepth 8000 in
theorem datom_name (S : ByteArray) (b p c : Nat) (w : World) (hP : DIn w b S (.live p)) (hc0 : 1 ≤ (nowB S p).size) (hc : (numsOf (nowB S p)).getD 0 0 = c) (hc1 : c < 48 ∨ 57 < c) (hc2 : c ≠ 39) (h0 : tkAt (numsOf S) p ≠ .wd tkTrue) (h1 : tkAt (numsOf S) p ≠ .wd tkFalse) (h2 : tkAt (numsOf S) p ≠ .wd tkOpen) (h3 : tkAt (numsOf S) p ≠ .wd tkDone) (h4 : tkAt (numsOf S) p ≠ .sg 40) (hF : DFin (numsOf S) .atom (.live p) (.mk 5 0 ((St.live p).dname (numsOf S)).2 []) ((St.live p).dname (numsOf S)).1) : Calls Tryd.prog 52 #[rp b] w fun e w' => DGrP S .atom (.live p) b w e w' := by
  have HA := AtD.new hP
  have hN0 : ((nowB S p).toList == []) = false := lit_no (K := ⟨#[]⟩) rfl (fun e => by
    rw [e] at hc0
    exact absurd hc0 (by decide))
  have N0 := fun w' h => is_no S b (.wd tkTrue) (sgw _ (by simp)) ⟨#[116, 114, 117, 101]⟩ (by decide) p w' h h0
  have N1 := fun w' h => is_no S b (.wd tkFalse) (sgw _ (by simp)) ⟨#[102, 97, 108, 115, 101]⟩ (by decide) p w' h h1
  have N2 := fun w' h => is_no S b (.wd tkOpen) (sgw _ (by simp)) ⟨#[111, 112, 101, 110]⟩ (by decide) p w' h h2
  have N3 := fun w' h => is_no S b (.wd tkDone) (sgw _ (by simp)) ⟨#[100, 111, 110, 101]⟩ (by decide) p w' h h3
  have N4 := fun w' h => is_no S b (.sg 40) (sgw _ (by simp)) ⟨#[40]⟩ (by decide) p w' h h4
  have HF0 : Hid (DFin (numsOf S) .atom (.live p) (.mk 5 0 ((St.live p).dname (numsOf S)).2 []) ((St.live p).dname (numsOf S)).1) := hF
  clear h0 h1 h2 h3 h4 hF
  clear hP
  unfold rp
  go_enter Tryd.func52, Tryd.ntmps52
  go_upto_region 1 with fail
  refine wp_at (AtD S b _ w) HA (fun w1 H1 => ?_)
  have HW : Hid (AtD S b (.live p) w w1) := H1
  have hB := (H1.P.liv p rfl).2
  obtain ⟨⟨c0, c1, c2, c3, c4, c5⟩, _, _, _, _, _⟩ := drow_cells hB
  obtain ⟨N, hN⟩ : ∃ N, nowB S p = N := ⟨_, rfl⟩
  rw [hN] at c3 hN0 hc0 hc
  have hx0 := fun w' => str_at N 0 hc0 w'
  rw [hc, show (((0 : Nat) : Int)) = 0 from rfl] at hx0
  have e39 : ((c : Int) == 39) = false := bset c 39 hc2
  clear H1 HA hB hN hc0 hc hc2
  unfold rp at N0
  unfold rp at N1
  unfold rp at N2
  unfold rp at N3
  unfold rp at N4
  rcases hc1 with hc1 | hc1
  · have i1 : ¬ (48 : Int) ≤ (c : Int) := by omega
    clear hc1
    have M := N0 w1 HW.out.P
    clear N0
    go_wp2_with fail
    refine M.mono ?_
    rintro e w9 ⟨rfl, hw9⟩
    rw [hw9]
    clear hw9 M
    simp only []
    have M := N1 w1 HW.out.P
    clear N1
    go_wp2_with fail
    refine M.mono ?_
    rintro e w9 ⟨rfl, hw9⟩
    rw [hw9]
    clear hw9 M
    simp only []
    have M := N2 w1 HW.out.P
    clear N2
    go_wp2_with fail
    refine M.mono ?_
    rintro e w9 ⟨rfl, hw9⟩
    rw [hw9]
    clear hw9 M
    simp only []
    have M := N3 w1 HW.out.P
    clear N3
    go_wp2_with fail
    refine M.mono ?_
    rintro e w9 ⟨rfl, hw9⟩
    rw [hw9]
    clear hw9 M
    simp only []
    have M := N4 w1 HW.out.P
    clear N4
    go_wp2_with fail
    refine M.mono ?_
    rintro e w9 ⟨rfl, hw9⟩
    rw [hw9]
    clear hw9 M
    simp only []
    have M := name_any S b _ w1 HW.out.P
    unfold rp at M
    go_wp2_with fail
    refine M.mono ?_
    rintro e w5 ⟨rfl, hD5, hg5⟩
    have H5 := HW.out.go hD5 hg5
    have HF1 := HF0.out
    obtain ⟨T, hT⟩ : ∃ T, ((St.live p).dname (numsOf S)).2 = T := ⟨_, rfl⟩
    rw [hT] at HF1 ⊢
    have HF : Hid (_ ∧ DGrP S .atom (.live p) b w _ _) := H5.leaf (σ := .live p) 5 0 T (by decide) rng_zero HF1
    obtain ⟨⟨x0, x1, x2, x3⟩, f0, f1, f2, f3⟩ := row4_cells H5.R
    clear M hD5 hg5 H5 HF1 hT c0 c1 c2 c3 c4 c5
    simp only []
    go_wp2_with fail
    exact bodyPost_ret (results_cell_row rfl _ _ w.heap.size 24 (gA 5 0 T none 0 0) (0, 0) _ rfl HF.out.1 Tryd.underlying24 rfl size_guard) rfl HF.out.2
  · have i1 : (48 : Int) ≤ (c : Int) := by omega
    have i2 : ¬ (c : Int) ≤ 57 := by omega
    clear hc1
    have M := N0 w1 HW.out.P
    clear N0
    go_wp2_with fail
    refine M.mono ?_
    rintro e w9 ⟨rfl, hw9⟩
    rw [hw9]
    clear hw9 M
    simp only []
    have M := N1 w1 HW.out.P
    clear N1
    go_wp2_with fail
    refine M.mono ?_
    rintro e w9 ⟨rfl, hw9⟩
    rw [hw9]
    clear hw9 M
    simp only []
    have M := N2 w1 HW.out.P
    clear N2
    go_wp2_with fail
    refine M.mono ?_
    rintro e w9 ⟨rfl, hw9⟩
    rw [hw9]
    clear hw9 M
    simp only []
    have M := N3 w1 HW.out.P
    clear N3
    go_wp2_with fail
    refine M.mono ?_
    rintro e w9 ⟨rfl, hw9⟩
    rw [hw9]
    clear hw9 M
    simp only []
    have M := N4 w1 HW.out.P
    clear N4
    go_wp2_with fail
    refine M.mono ?_
    rintro e w9 ⟨rfl, hw9⟩
    rw [hw9]
    clear hw9 M
    simp only []
    have M := name_any S b _ w1 HW.out.P
    unfold rp at M
    go_wp2_with fail
    refine M.mono ?_
    rintro e w5 ⟨rfl, hD5, hg5⟩
    have H5 := HW.out.go hD5 hg5
    have HF1 := HF0.out
    obtain ⟨T, hT⟩ : ∃ T, ((St.live p).dname (numsOf S)).2 = T := ⟨_, rfl⟩
    rw [hT] at HF1 ⊢
    have HF : Hid (_ ∧ DGrP S .atom (.live p) b w _ _) := H5.leaf (σ := .live p) 5 0 T (by decide) rng_zero HF1
    obtain ⟨⟨x0, x1, x2, x3⟩, f0, f1, f2, f3⟩ := row4_cells H5.R
    clear M hD5 hg5 H5 HF1 hT c0 c1 c2 c3 c4 c5
    simp only []
    go_wp2_with fail
    exact bodyPost_ret (results_cell_row rfl _ _ w.heap.size 24 (gA 5 0 T none 0 0) (0, 0) _ rfl HF.out.1 Tryd.underlying24 rfl size_guard) rfl HF.out.2
theorem first_of {S : ByteArray} {p c : Nat} {r : List Nat} (h : nowL ((numsOf S).drop p) = c :: r) : 1 ≤ (nowB S p).size ∧ (numsOf (nowB S p)).getD 0 0 = c := by
  rw [← numsOf_len, nowB_nums, h]
  exact ⟨by simp, rfl⟩
theorem dn_no {S : List Nat} {p : Nat} (h : ∀ w, tkAt S p ≠ .nm w) (h1 : leafk (tkAt S p) = none) (h2 : brkk (tkAt S p) = none) (h3 : tkAt S p ≠ .sg 40) : DFin S .atom (.live p) (.mk 5 0 ((St.live p).dname S).2 []) ((St.live p).dname S).1 := by
  have e : (St.live p).dname S = (.dead p, ⟨#[]⟩) := by simp only [St.dname]
  rw [e]
  exact no_fin h1 h2 h3
/-- THE DOCUMENT'S ATOMS -/
theorem datom_con (S : ByteArray) (b n : Nat) (CG : ∀ m, m < n → DCon 10 S (.lv .ors) b m) : DCon 52 S .atom b n := by
  intro σ w hn hP
  cases σ with
  | dead p => exact datom_dead S b p w hP
  | live p =>
    have hnow := tok_now ((numsOf S).drop p)
    have hle : p ≤ (numsOf S).length := by rw [numsOf_len]; exact hP.le
    cases ht : tkAt (numsOf S) p with
    | fin => exact datom_fin S b p w hP ht
    | non => exact absurd ht (hP.liv p rfl).1
    | nu m => exact datom_nu S b p m w hP ht
    | tx t => exact datom_tx S b p t w hP ht
    | nm v =>
      rw [show (tok ((numsOf S).drop p)).1 = .nm v from ht] at hnow
      obtain ⟨h1, h2⟩ := hnow
      have h3 := (nm_lt h2).1
      have h4 := h2.pos
      cases v with
      | nil => simp at h4
      | cons c r =>
        obtain ⟨f1, f2⟩ := first_of h1
        simp only [List.getD_cons_zero] at h3
        unfold isSm at h3
        simp at h3
        refine datom_name S b p c w hP f1 f2 (by omega) (by omega) (by rw [ht]; simp) (by rw [ht]; simp) (by rw [ht]; simp) (by rw [ht]; simp) (by rw [ht]; simp) ?_
        have e : (St.live p).dname (numsOf S) = (norm (numsOf S) (nx (numsOf S) p), strOf (c :: r)) := by simp only [St.dname, ht]
        rw [e]
        exact leaf_fin hle (by rw [ht]; rfl) (by rw [ht]; simp) (by rw [ht]; simp)
    | wd v =>
      by_cases h1 : v = tkTrue
      · exact datom_true S b p w hP (by rw [ht, h1])
      by_cases h2 : v = tkFalse
      · exact datom_false S b p w hP (by rw [ht, h2])
      by_cases h3 : v = tkOpen
      · exact datom_open S b p w hP (by rw [ht, h3])
      by_cases h4 : v = tkDone
      · exact datom_done S b p w hP (by rw [ht, h4])
      rw [show (tok ((numsOf S).drop p)).1 = .wd v from ht] at hnow
      obtain ⟨h5, h6⟩ := hnow
      have h7 : ∃ c r, v = c :: r ∧ 97 ≤ c := by
        rcases wd_one h6 with rfl | rfl | rfl | rfl | rfl | rfl | rfl
        all_goals exact ⟨_, _, rfl, by decide⟩
      obtain ⟨c, r, rfl, hc⟩ := h7
      obtain ⟨f1, f2⟩ := first_of h5
      refine datom_name S b p c w hP f1 f2 (by omega) (by omega) (by rw [ht]; simp [h1]) (by rw [ht]; simp [h2]) (by rw [ht]; simp [h3]) (by rw [ht]; simp [h4]) (by rw [ht]; simp) (dn_no (by rw [ht]; simp) ?_ ?_ (by rw [ht]; simp))
      · rw [ht]; simp only [leafk, if_neg h1, if_neg h2]
      · rw [ht]; simp only [brkk, if_neg h3, if_neg h4]
    | sg c =>
      by_cases hc : c = 40
      · subst hc
        exact datom_paren S b p n hn CG w hP ht
      rw [show (tok ((numsOf S).drop p)).1 = .sg c from ht] at hnow
      obtain ⟨h5, h6⟩ := hnow
      obtain ⟨f1, f2⟩ := first_of h5
      have h7 := sg_no c h6
      have h8 : c < 48 ∨ 57 < c := by
        have := h7.2.1
        unfold isDg at this
        simp at this
        omega
      exact datom_name S b p c w hP f1 f2 h8 h7.2.2 (by rw [ht]; simp) (by rw [ht]; simp) (by rw [ht]; simp) (by rw [ht]; simp) (by rw [ht]; simpa using hc) (dn_no (by rw [ht]; simp) (by rw [ht]; rfl) (by rw [ht]; rfl) (by rw [ht]; simpa using hc))
/-- THE DOCUMENT'S GRAMMAR: whatever is left -/
theorem dguard_all (S : ByteArray) (b : Nat) : ∀ n, DCon 10 S (.lv .ors) b n ∧ DCon 30 S .part b n := by
  intro n
  induction n using Nat.strongRecOn with
  | _ n ih =>
    have hA := datom_con S b n fun m hm => (ih m hm).1
    have hS := dsum_con S b n (dproduct_con S b n hA)
    have hN := part_con S b n (fun m hm => (ih m hm).2) hS
    exact ⟨dguard_con S b n (dside_con S b n hN), hN⟩
end Go.Proofs.YtkcmidhpbaepoaaDoor.G
