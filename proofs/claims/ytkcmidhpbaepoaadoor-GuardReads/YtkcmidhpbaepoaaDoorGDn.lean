/-
  The document's is, need, name, two. Written by tools/gen_gdn.py.
-/
import Derived.Test.YtkcmidhpbaepoaaDoorGDs
namespace Go.Proofs.YtkcmidhpbaepoaaDoor.G
open Go.RowKit Go.WideShapes Go.Joins

theorem what_lit {u : Tk} (h : Ask u) : numsOf (what u) = lit u := by
  cases u with
  | sg c =>
    have h : isSg c = true := h
    refine nums_strOf fun x hx => ?_
    simp at hx
    subst hx
    rcases sg_one h with rfl | rfl | rfl | rfl | rfl | rfl | rfl <;> decide
  | wd w =>
    have h : taken w = true := h
    rcases wd_one h with rfl | rfl | rfl | rfl | rfl | rfl | rfl <;> decide
  | nm _ => exact absurd h (by simp [Ask])
  | nu _ => exact absurd h (by simp [Ask])
  | tx _ => exact absurd h (by simp [Ask])
  | fin => exact absurd h (by simp [Ask])
  | non => exact absurd h (by simp [Ask])
theorem now_what {S : ByteArray} {p : Nat} {u : Tk} (hu : Ask u) (h0 : tkAt (numsOf S) p ≠ .non) : nowB S p = what u ↔ tkAt (numsOf S) p = u := by
  have h1 := now_same (tok_now ((numsOf S).drop p)) hu h0
  show _ ↔ (tok ((numsOf S).drop p)).1 = u
  rw [← h1, ← nowB_nums, ← what_lit hu]
  exact ⟨fun e => by rw [e], fun e => numsOf_inj e⟩
/-- what is answers -/
structure DsP (S : ByteArray) (t : Tk) (σ : St) (b : Nat) (w : World) (e : Ending) (w' : World) : Prop where
  ex : e = .returned (.bool (σ.dtake (numsOf S) t).2) ∧ DIn w' b S (σ.dtake (numsOf S) t).1 ∧ w.grownBy w' (some b)
set_option maxHeartbeats 1000000 in
set_option maxRecDepth 8000 in
theorem is_any (S : ByteArray) (b : Nat) (t : Tk) (ht : Ask t) (K : ByteArray) (hK : what t = K) (σ : St) (w : World) (h : DIn w b S σ) :
    Calls Tryd.prog 19 #[rp b, .string K] w fun e w' => DsP S t σ b w e w' := by
  have hsz := h.sz
  have hle := h.le
  cases σ with
  | dead p =>
    have HF : Hid (DsP S t (.dead p) b w (.returned (.bool false)) w) := ⟨rfl, h, grown_refl _ _⟩
    obtain ⟨i, a, hB⟩ := h.ded p rfl
    obtain ⟨⟨c0, c1, c2, c3, c4, c5⟩, _, _, _, _, _⟩ := drow_cells hB
    clear hB h hK hsz hle ht
    unfold rp
    go_enter Tryd.func19, Tryd.ntmps19
    go_wp2_with fail
    go_ret
    exact HF.out
  | live p =>
    obtain ⟨hn, hB⟩ := h.liv p rfl
    have hw := now_what (S := S) (p := p) ht hn
    rw [hK] at hw
    have hle : p ≤ S.size := hle
    have hE2 : p + (tok ((numsOf S).drop p)).2 ≤ S.size := by
      have := tok_len ((numsOf S).drop p)
      rw [List.length_drop, numsOf_len] at this
      omega
    by_cases hc : tkAt (numsOf S) p = t
    · have e1 := (Lib.bytes_beq_iff _ _).2 (hw.2 hc)
      have e1n : ((nowB S p).toList != K.toList) = false := by simp only [bne, e1]; rfl
      have HS : Hid (St.dtake (numsOf S) t (.live p) = (norm (numsOf S) (nx (numsOf S) p), true)) := by
        show St.dtake _ _ _ = _
        simp only [St.dtake, hc, if_true]
      have SP := step_any S _ b hE2 hsz _ _ w hB
      obtain ⟨⟨c0, c1, c2, c3, c4, c5⟩, _, _, _, _, _⟩ := drow_cells hB
      generalize nowB S p = U at e1 e1n c3
      clear hB h hK hsz hle ht hw hc hE2
      unfold rp at SP ⊢
      go_enter Tryd.func19, Tryd.ntmps19
      go_wp2_with fail
      refine SP.mono ?_
      rintro e w3 ⟨rfl, hP, hg⟩
      have HF : Hid (DsP S t (.live p) b w (.returned (.bool true)) w3) := by
        refine ⟨?_, ?_, hg⟩
        · rw [HS.out]
        · rw [HS.out]; exact hP
      clear SP c0 c1 c2 c3 c4 c5 hP hg
      simp only []
      go_wp2_with fail
      go_ret
      exact HF.out
    · have e1 : ((nowB S p).toList == K.toList) = false := (Lib.bytes_beq_false_iff _ _).2 fun e => hc (hw.1 e)
      have e1n : ((nowB S p).toList != K.toList) = true := by simp only [bne, e1]; rfl
      have HS : St.dtake (numsOf S) t (.live p) = (.live p, false) := by
        simp only [St.dtake, if_neg hc]
      have HF : Hid (DsP S t (.live p) b w (.returned (.bool false)) w) := by
        refine ⟨?_, ?_, grown_refl _ _⟩
        · rw [HS]
        · rw [HS]; exact h
      obtain ⟨⟨c0, c1, c2, c3, c4, c5⟩, _, _, _, _, _⟩ := drow_cells hB
      generalize nowB S p = U at e1 e1n c3
      clear hB h hK hsz hle ht hw hc hE2 HS
      unfold rp
      go_enter Tryd.func19, Tryd.ntmps19
      go_wp2_with fail
      go_ret
      exact HF.out
/-- what need leaves -/
structure DmP (S : ByteArray) (t : Tk) (σ : St) (b : Nat) (w : World) (e : Ending) (w' : World) : Prop where
  ex : e = .returned (.tuple #[]) ∧ DIn w' b S (σ.dmust (numsOf S) t) ∧ w.grownBy w' (some b)
set_option maxHeartbeats 1000000 in
set_option maxRecDepth 8000 in
theorem need_any (S : ByteArray) (b : Nat) (t : Tk) (ht : Ask t) (K : ByteArray) (hK : what t = K) (σ : St) (w : World) (h : DIn w b S σ) :
    Calls Tryd.prog 59 #[rp b, .string K] w fun e w' => DmP S t σ b w e w' := by
  have TK := is_any S b t ht K hK σ w h
  clear hK ht h
  unfold rp at TK ⊢
  go_enter Tryd.func59, Tryd.ntmps59
  go_wp2_with fail
  refine TK.mono ?_
  rintro e w3 ⟨rfl, hP, hg⟩
  clear TK
  cases hb : (σ.dtake (numsOf S) t).2 with
  | true =>
    have HF : Hid (DmP S t σ b w (.returned (.tuple #[])) w3) := by
      refine ⟨rfl, ?_, hg⟩
      cases σ with
      | dead p => simp only [St.dtake] at hb; cases hb
      | live p =>
        simp only [St.dtake] at hb hP
        simp only [St.dmust]
        split at hb
        · rename_i hc
          rw [if_pos hc] at hP ⊢
          exact hP
        · cases hb
    clear hP hg hb
    simp only []
    go_wp2_with fail
    go_end0
    exact HF.out
  | false =>
    cases σ with
    | dead p =>
      have hP : DIn w3 b S (.dead p) := hP
      obtain ⟨i, a, hB⟩ := hP.ded p rfl
      obtain ⟨⟨c0, c1, c2, c3, c4, c5⟩, _, _, _, _, _⟩ := drow_cells hB
      have FD := fail_dead S p b w3 hP (.int .i64 (a : Int))
      have HG : Hid (w.grownBy w3 (some b)) := hg
      unfold rp at FD
      clear hP hg hb hB
      simp only []
      go_wp2_with fail
      refine FD.mono ?_
      rintro e w5 ⟨rfl, hD, hg5⟩
      have HF : Hid (DmP S t (.dead p) b w (.returned (.tuple #[])) w5) := ⟨rfl, hD, grown_trans HG.out hg5⟩
      clear FD hD hg5 c0 c1 c2 c3 c4 c5
      simp only []
      go_wp2_with fail
      go_end0
      exact HF.out
    | live p =>
      have hc : ¬ tkAt (numsOf S) p = t := by
        intro hc
        simp only [St.dtake, if_pos hc] at hb
        cases hb
      have hx : (St.dtake (numsOf S) t (.live p)).1 = .live p := by simp only [St.dtake, if_neg hc]
      rw [hx] at hP
      obtain ⟨hn, hB⟩ := hP.liv p rfl
      obtain ⟨⟨c0, c1, c2, c3, c4, c5⟩, _, _, _, _, _⟩ := drow_cells hB
      have FL := fail_live S p hP.le hP.sz b w3 _ _ _ _ hB
      have HG : Hid (w.grownBy w3 (some b)) := hg
      have HC : Hid (¬ tkAt (numsOf S) p = t) := hc
      unfold rp at FL
      clear hP hg hb hB hn hx hc
      simp only []
      go_wp2_with fail
      refine FL.mono ?_
      rintro e w5 ⟨rfl, hD, hg5⟩
      have HF : Hid (DmP S t (.live p) b w (.returned (.tuple #[])) w5) := ⟨rfl, by simp only [St.dmust, if_neg HC.out]; exact hD, grown_trans HG.out hg5⟩
      clear FL hD hg5 c0 c1 c2 c3 c4 c5
      simp only []
      go_wp2_with fail
      go_end0
      exact HF.out
theorem now_nm {n : List Nat} {t : Tk} (hn : NowIs n t) : NmOk n ↔ ∃ w, t = .nm w := by
  cases t with
  | nm w => obtain ⟨rfl, h⟩ := hn; simp [h]
  | sg c =>
    obtain ⟨rfl, hc⟩ := hn
    simp only [reduceCtorEq, exists_const, iff_false]
    intro h
    have := (nm_lt h).1
    simp only [List.getD_cons_zero, (sg_no c hc).1] at this
    cases this
  | wd w =>
    obtain ⟨rfl, hc⟩ := hn
    simp only [reduceCtorEq, exists_const, iff_false]
    intro h
    have := h.free
    rw [hc] at this
    cases this
  | nu k =>
    obtain ⟨⟨c, r, rfl, hc, _⟩, _⟩ := hn
    simp only [reduceCtorEq, exists_const, iff_false]
    intro h
    have h1 := (nm_lt h).1
    have h2 := hc c (by simp)
    simp only [List.getD_cons_zero] at h1
    unfold isSm at h1
    unfold isDg at h2
    simp at h1 h2
    omega
  | tx t =>
    have hn : n = _ := hn
    subst hn
    simp only [reduceCtorEq, exists_const, iff_false]
    intro h
    have h1 := (nm_lt h).1
    simp only [List.getD_cons_zero] at h1
    exact absurd h1 (by decide)
  | fin =>
    have hn : n = _ := hn
    subst hn
    simp only [reduceCtorEq, exists_const, iff_false]
    intro h
    exact absurd h.pos (by simp)
  | non =>
    have hn : n = _ := hn
    subst hn
    simp only [reduceCtorEq, exists_const, iff_false]
    intro h
    exact absurd h.pos (by simp)
/-- what name tells, and where it leaves the reader -/
def St.dname (S : List Nat) : St → St × ByteArray
  | .live p => match tkAt S p with | .nm w => (norm S (nx S p), strOf w) | _ => (.dead p, ⟨#[]⟩)
  | .dead p => (.dead p, ⟨#[]⟩)
/-- what name answers -/
structure DnP (S : ByteArray) (σ : St) (b : Nat) (w : World) (e : Ending) (w' : World) : Prop where
  ex : e = .returned (.string (σ.dname (numsOf S)).2) ∧ DIn w' b S (σ.dname (numsOf S)).1 ∧ w.grownBy w' (some b)
set_option maxHeartbeats 1000000 in
set_option maxRecDepth 8000 in
theorem name_any (S : ByteArray) (b : Nat) (σ : St) (w : World) (h : DIn w b S σ) :
    Calls Tryd.prog 60 #[rp b] w fun e w' => DnP S σ b w e w' := by
  have hsz := h.sz
  have hle := h.le
  cases σ with
  | dead p =>
    obtain ⟨i, a, hB⟩ := h.ded p rfl
    obtain ⟨⟨c0, c1, c2, c3, c4, c5⟩, _, _, _, _, _⟩ := drow_cells hB
    have FD := fail_dead S p b w h (.int .i64 (a : Int))
    unfold rp at FD ⊢
    clear hB h hsz hle
    go_enter Tryd.func60, Tryd.ntmps60
    go_wp2_with fail
    refine FD.mono ?_
    rintro e w5 ⟨rfl, hD, hg5⟩
    have HF : Hid (DnP S (.dead p) b w (.returned (.string ⟨#[]⟩)) w5) := ⟨rfl, hD, hg5⟩
    clear FD hD hg5 c0 c1 c2 c3 c4 c5
    simp only []
    go_wp2_with fail
    go_ret
    exact HF.out
  | live p =>
    obtain ⟨hn, hB⟩ := h.liv p rfl
    have hle : p ≤ S.size := hle
    have hE2 : p + (tok ((numsOf S).drop p)).2 ≤ S.size := by
      have := tok_len ((numsOf S).drop p)
      rw [List.length_drop, numsOf_len] at this
      omega
    have hnow := tok_now ((numsOf S).drop p)
    have hiff := now_nm hnow
    have ND := Named_any (nowB S p) w
    have HNN : Hid (numsOf (nowB S p) = nowL ((numsOf S).drop p)) := nowB_nums S p
    have hbox := hB
    obtain ⟨⟨c0, c1, c2, c3, c4, c5⟩, _, _, _, _, _⟩ := drow_cells hB
    obtain ⟨N, hN⟩ : ∃ N, nowB S p = N := ⟨_, rfl⟩
    rw [hN] at ND c3 HNN
    have HB : Hid (DIn w b S (.live p) ∧ w.heap[b]? = _ ∧ p + (tok ((numsOf S).drop p)).2 ≤ S.size) := ⟨h, hbox, hE2⟩
    have HI : Hid (NowIs (nowL ((numsOf S).drop p)) (tok ((numsOf S).drop p)).1 ∧ (NmOk (nowL ((numsOf S).drop p)) ↔ ∃ w, (tok ((numsOf S).drop p)).1 = .nm w)) := ⟨hnow, hiff⟩
    clear hbox h hE2 hN hB hnow hiff hn hsz hle
    unfold rp
    go_enter Tryd.func60, Tryd.ntmps60
    go_wp2_with (first
      | (go_at_call 67; refine ND.mono ?_; rintro e w3 ⟨r, rfl, hw3, hr⟩; replace hw3 := hw3.symm; subst hw3; cases r)
      | fail)
    · have FL := fail_live S p HB.out.1.le HB.out.1.sz b w _ _ _ _ HB.out.2.1
      have HR : Hid ((St.live p).dname (numsOf S) = (.dead p, ⟨#[]⟩)) := by
        show St.dname _ _ = _
        have hno : ¬ ∃ w, tkAt (numsOf S) p = .nm w := fun h => by
          have := HI.out.2.2 h
          rw [← HNN.out, ← hr] at this
          cases this
        simp only [St.dname]
        split
        · rename_i v hv; exact absurd ⟨v, hv⟩ hno
        · rfl
      unfold rp at FL
      clear ND hr
      refine FL.mono ?_
      rintro e w5 ⟨rfl, hD, hg5⟩
      have HF : Hid (DnP S (.live p) b w (.returned (.string ⟨#[]⟩)) w5) := ⟨by rw [HR.out], by rw [HR.out]; exact hD, hg5⟩
      clear FL hD hg5 c0 c1 c2 c3 c4 c5
      simp only []
      go_wp2_with fail
      go_ret
      exact HF.out
    · obtain ⟨v, hv⟩ := HI.out.2.1 (by rw [← HNN.out]; exact hr.1 trivial)
      have SP := step_any S _ b HB.out.2.2 HB.out.1.sz _ _ w HB.out.2.1
      have HR : Hid ((St.live p).dname (numsOf S) = (norm (numsOf S) (nx (numsOf S) p), N)) := by
        show St.dname _ _ = _
        have h1 : tkAt (numsOf S) p = .nm v := hv
        have h2 := HI.out.1
        rw [hv] at h2
        simp only [St.dname, h1]
        rw [← h2.1, ← HNN.out, strOf_nums]
      unfold rp at SP
      clear ND hr hv
      refine SP.mono ?_
      rintro e w5 ⟨rfl, hD, hg5⟩
      have HF : Hid (DnP S (.live p) b w (.returned (.string N)) w5) := ⟨by rw [HR.out], by rw [HR.out]; exact hD, hg5⟩
      clear SP hD hg5 c0 c1 c2 c3 c4 c5
      simp only []
      go_wp2_with fail
      go_ret
      exact HF.out
set_option maxHeartbeats 1000000 in
set_option maxRecDepth 8000 in
theorem two_any (k : Nat) (hk : k < 256) (Z : Nat → Prop) (a b : GB) (k1 k2 : Nat) (n1 n2 : Int) (t1 t2 : ByteArray) (q1 q2 : Option Addr) (l1 c1 l2 c2 : Nat) (w : World) (h1 : GIn w Z (gA k1 n1 t1 q1 l1 c1) a) (h2 : GIn w Z (gA k2 n2 t2 q2 l2 c2) b) (hZ : ∀ i, w.heap.size ≤ i → Z i) :
    Calls Tryd.prog 20 #[.int .u8 (k : Int), .agg (gA k1 n1 t1 q1 l1 c1), .agg (gA k2 n2 t2 q2 l2 c2)] w fun e w' => PrP Z (pair k a b) w e w' := by
  have b1 := below_new w (.cells (gA k1 n1 t1 q1 l1 c1) 24)
  have m1 := _root_.Go.heap_alloc_new w (.cells (gA k1 n1 t1 q1 l1 c1) 24)
  have b2 := below_new (w.alloc (.cells (gA k1 n1 t1 q1 l1 c1) 24)) (.cells (gA k2 n2 t2 q2 l2 c2) 24)
  have m2 := _root_.Go.heap_alloc_new (w.alloc (.cells (gA k1 n1 t1 q1 l1 c1) 24)) (.cells (gA k2 n2 t2 q2 l2 c2) 24)
  have b3 := below_new ((w.alloc (.cells (gA k1 n1 t1 q1 l1 c1) 24)).alloc (.cells (gA k2 n2 t2 q2 l2 c2) 24)) (.cells gz 24)
  have m3 := _root_.Go.heap_alloc_new ((w.alloc (.cells (gA k1 n1 t1 q1 l1 c1) 24)).alloc (.cells (gA k2 n2 t2 q2 l2 c2) 24)) (.cells gz 24)
  simp only [World.size_alloc] at m2 m3
  have HW : Hid (∀ W, W = ((w.alloc (.cells (gA k1 n1 t1 q1 l1 c1) 24)).alloc (.cells (gA k2 n2 t2 q2 l2 c2) 24)).alloc (.cells gz 24) → W.heap[w.heap.size]? = some (.cells (gA k1 n1 t1 q1 l1 c1) 24 (0, 0)) ∧ W.heap[w.heap.size + 1]? = some (.cells (gA k2 n2 t2 q2 l2 c2) 24 (0, 0)) ∧ W.heap[w.heap.size + 1 + 1]? = some (.cells gz 24 (0, 0)) ∧ Below w.heap.size w W ∧ W.heap.size = w.heap.size + 3) := by
    rintro W rfl
    refine ⟨box_below (box_below m1 b2) b3, box_below m2 b3, m3, below_more (below_more b1 b2) b3, by simp⟩
  have HI : Hid (GIn w Z (gA k1 n1 t1 q1 l1 c1) a ∧ GIn w Z (gA k2 n2 t2 q2 l2 c2) b ∧ (∀ i, w.heap.size ≤ i → Z i) ∧ k < 256) := ⟨h1, h2, hZ, hk⟩
  unfold gz gA at HW
  unfold gA
  clear b1 m1 b2 m2 b3 m3 h1 h2 hZ hk
  go_enter Tryd.func20, Tryd.ntmps20
  go_upto_region 1 with fail
  refine wp_at (fun W => W.heap[w.heap.size]? = _ ∧ W.heap[w.heap.size + 1]? = _ ∧ W.heap[w.heap.size + 1 + 1]? = _ ∧ Below w.heap.size w W ∧ W.heap.size = w.heap.size + 3) (HW.out _ rfl) (fun w1 H1 => ?_)
  obtain ⟨x1, x2, x3, hb, hsz⟩ := H1
  obtain ⟨⟨p0, p1, p2, p3⟩, _, _, _, _⟩ := row4_cells x1
  obtain ⟨⟨r0, r1, r2, r3⟩, _, _, _, _⟩ := row4_cells x2
  have hz : w1.heap.size = w.heap.size + 3 := hsz
  obtain ⟨⟨s0, s1, s2, s3⟩, f0, f1, f2, f3⟩ := row4_cells x3
  have HF : Hid (w1.heap[w.heap.size + 1 + 1]? = _ ∧ Below w.heap.size w w1 ∧ w1.heap.size = w.heap.size + 3) := ⟨x3, hb, hsz⟩
  clear HW x1 x2 x3 hb hsz
  go_wp2_with fail
  have hsz4 : ∀ a b c d, (set4 w1 (w.heap.size + 1 + 1) a b c d).heap.size = w.heap.size + 3 := fun a b c d => by rw [← HF.out.2.2]; simp [set4]
  have B4 := below_set4 (show w.heap.size ≤ w.heap.size + 1 + 1 by omega) HF.out.2.1 (.int .u8 (k : Int)) (.int .i64 0) (.string ⟨#[]⟩) (.slice (some ⟨w.heap.size + 3, 0, none⟩) 2 2)
  have G4 := gin_pair (HI.out.1.bel B4) (HI.out.2.1.bel B4) k HI.out.2.2.2 (HI.out.2.2.1 _ B4.size)
  rw [hsz4] at G4
  refine bodyPost_ret (results_cell_row rfl _ _ (w.heap.size + 1 + 1) 24 (gA k 0 ByteArray.empty (some ⟨w.heap.size + 3, 0, none⟩) 2 2) (0, 0) _ rfl (box_below (set4_heap HF.out.1 _ _ _ _) (below_new _ _)) Tryd.underlying24 rfl size_guard) rfl ?_
  exact ⟨k, 0, ByteArray.empty, some ⟨w.heap.size + 3, 0, none⟩, 2, 2, rfl, G4, below_more B4 (below_new _ _)⟩
end Go.Proofs.YtkcmidhpbaepoaaDoor.G
