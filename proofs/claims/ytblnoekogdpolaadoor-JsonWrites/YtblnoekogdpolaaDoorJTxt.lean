import Derived.Test.YtblnoekogdpolaaDoorJWv
namespace Go.Proofs.YtblnoekogdpolaaDoor
open Go.RowKit Go.WideShapes Go.Joins
theorem alone_fit {k : Nat} {b : Bool} {n : Int} {t : ByteArray} {ns : List ByteArray} {nv d : Nat} (h : aloneB k b n t ns nv d = 0) : k ≤ 6 ∧ t.size ≤ 16384 ∧ (∀ s ∈ ns, s.size ≤ 16384) ∧ (k = 6 → ns.length = nv) := by
  unfold aloneB at h
  split at h
  · cases h
  rename_i hp
  have hp := Classical.not_not.1 hp
  split at h
  · cases h
  rename_i h4
  split at h
  · cases h
  split at h
  · cases h
  have hN := (nmsE_zero ns []).1 h
  refine ⟨by unfold HasP at hp; omega, ?_, fun s hs => ((isTx_iff s).1 (hN.1 s hs)).1, fun e => by unfold HasP at hp; omega⟩
  rcases hp with ⟨_, _, _, a4, _⟩ | ⟨_, _, a4, _⟩ | ⟨_, _, a4, _⟩ | ⟨_, a1, _⟩ | ⟨e4, _⟩ | ⟨_, _, _, a4, _⟩ | ⟨_, _, _, _, a4⟩
  · omega
  · omega
  · omega
  · exact ((isNm_iff t).1 a1).1
  · have : isTx t = true := by cases hx : isTx t with
      | true => rfl
      | false => exact absurd ⟨e4, hx⟩ h4
    exact ((isTx_iff t).1 this).1
  · omega
  · omega
theorem chk_fit : ∀ (f : Nat) (v : JB) (d : Nat), d + f = 33 → RngI v → chkB v d = 0 → Fit v ∧ v.ht ≤ f + 1 := by
  intro f
  induction f with
  | zero =>
    intro v d hd hr h
    cases v with
    | mk k b n t ns vs =>
      cases hr with
      | mk _ _ _ _ _ _ hn hv =>
        simp only [chkB] at h
        split at h
        · rename_i ha
          have h0 : vs = [] := by
            cases vs with
            | nil => rfl
            | cons x l => exact absurd (has_items ha (by simp)) (by omega)
          subst h0
          have key := alone_fit ha
          exact ⟨.mk k b n t ns [] key.1 hn key.2.1 key.2.2.1 key.2.2.2 (by simp), by simp [JB.ht, htL]⟩
        · rename_i ha
          exact absurd h ha
  | succ f ih =>
    intro v d hd hr h
    cases v with
    | mk k b n t ns vs =>
      cases hr with
      | mk _ _ _ _ _ _ hn hv =>
        simp only [chkB] at h
        split at h
        · rename_i ha
          have key := alone_fit ha
          have hall : ∀ (l : List JB), (∀ v ∈ l, RngI v) → chksB l (d + 1) = 0 → (∀ v ∈ l, Fit v) ∧ htL l ≤ f + 1 := by
            intro l
            induction l with
            | nil => intro _ _; exact ⟨by simp, by simp [htL]⟩
            | cons x l ihl =>
              intro hl hc
              simp only [chksB] at hc
              split at hc
              · rename_i h0
                have h1 := ih x (d + 1) (by omega) (hl x (by simp)) h0
                have h2 := ihl (fun y hy => hl y (by simp [hy])) hc
                refine ⟨fun y hy => ?_, by simp only [htL]; omega⟩
                rcases List.mem_cons.1 hy with rfl | hy
                · exact h1.1
                · exact h2.1 y hy
              · rename_i h0
                exact absurd hc h0
          have hA := hall vs hv h
          exact ⟨.mk k b n t ns vs key.1 hn key.2.1 key.2.2.1 key.2.2.2 hA.1, by simp only [JB.ht]; omega⟩
        · rename_i ha
          exact absurd h ha
structure TextP (v : JB) (w : World) (e : Ending) (w' : World) : Prop where
  ex : ∃ (s : ByteArray) (k : Nat), e = .returned (.tuple #[.string s, .int .i64 (k : Int)]) ∧ Below w.heap.size w w' ∧
    (chkB v 1 ≠ 0 → k = chkB v 1 ∧ s = ByteArray.empty) ∧
    (chkB v 1 = 0 → (16384 < (J.written v.toJ).length → k = 3 ∧ s = ByteArray.empty) ∧ ((J.written v.toJ).length ≤ 16384 → k = 0 ∧ numsOf s = J.written v.toJ))
theorem wr_new (w : World) : Wr (w.alloc (.cells #[.pointer none, .slice none 0 0] 66)) w.heap.size [] := by
  refine .inl ⟨Nat.le_refl _, .slice none 0 0, _root_.Go.heap_alloc_new _ _, World.ownsRowF_nil _ _ _ _, by simp [Value.ownBlock]⟩
set_option maxHeartbeats 2000000 in
set_option maxRecDepth 8000 in
theorem Text_any (A : Array Value) (v : JB) (w : World) (h8 : 8 ≤ w.heap.size) (hL : Laid w) (h : JIn w (fun _ => True) A v) :
    Calls Tryd.prog 11 #[.agg A] w fun e w' => TextP v w e w' := by
  obtain ⟨k, b, n, t, nq, nl, nc, iq, il, ic, rfl⟩ := jin_form h
  have b1 := below_new w (.cells (jA k b n t nq nl nc iq il ic) 25)
  have n1 := _root_.Go.heap_alloc_new w (.cells (jA k b n t nq nl nc iq il ic) 25)
  have C := Check_any _ v _ _ (Nat.le_trans h8 b1.size) (hL.below b1 h8) (h.bel b1)
  have HX : Hid (∀ w', Below (w.alloc (.cells (jA k b n t nq nl nc iq il ic) 25)).heap.size (w.alloc (.cells (jA k b n t nq nl nc iq il ic) 25)) w' → w'.heap[w.heap.size]? = some (.cells (jA k b n t nq nl nc iq il ic) 25 (0, 0)) ∧ Below w.heap.size w w') := fun w' hb =>
    ⟨box_below n1 hb, below_more b1 hb⟩
  have HH : Hid (8 ≤ w.heap.size ∧ Laid w ∧ JIn w (fun _ => True) (jA k b n t nq nl nc iq il ic) v ∧ RngI v) := ⟨h8, hL, h, jin_rng h⟩
  obtain ⟨⟨c0, c1, c2, c3, c4, c5⟩, f0, f1, f2, f3, f4, f5⟩ := row6_cells n1
  obtain ⟨E, hE⟩ : ∃ E, chkB v 1 = E := ⟨_, rfl⟩
  have HE : Hid (chkB v 1 = E) := hE
  rw [hE] at C
  by_cases hE0 : E ≠ 0
  · have hEI : ((E : Int) != 0) = true := by simpa using fun e : (E : Int) = 0 => hE0 (by omega)
    have HZ : Hid (E ≠ 0) := hE0
    unfold jA at C HX c0 c1 c2 c3 c4 c5 f0 f1 f2 f3 f4 f5 ⊢
    clear b1 n1 h8 hL h hE hE0
    go_enter Tryd.func11, Tryd.ntmps11
    go_wp2_with (go_at_call 22; refine C.mono ?_; rintro e w1 ⟨rfl, hb1⟩)
    go_ret2
    exact ⟨_, E, rfl, (HX.out w1 hb1).2, fun _ => ⟨HE.out.symm, rfl⟩, fun h0 => absurd (HE.out.symm.trans h0) HZ.out⟩
  have hE0 := Classical.not_not.1 hE0
  subst hE0
  rw [show (((0 : Nat) : Int)) = 0 from rfl] at C
  obtain ⟨hfit, hht⟩ := chk_fit 32 v 1 (by omega) HH.out.2.2.2 hE
  have HF : Hid (Fit v ∧ v.ht ≤ 33) := ⟨hfit, hht⟩
  obtain ⟨Wl, hWl⟩ : ∃ Wl, J.written v.toJ = Wl := ⟨_, rfl⟩
  have HW : Hid (J.written v.toJ = Wl) := hWl
  have hne : Wl ≠ [] := by
    have hw := chk_wf v 1 (by omega) (by omega) HH.out.2.2.2 hE
    obtain ⟨c, tl, hc, _⟩ := J.written_head hw
    rw [← hWl, hc]; simp
  have HNE : Hid (Wl ≠ []) := hne
  unfold jA at C HX c0 c1 c2 c3 c4 c5 f0 f1 f2 f3 f4 f5 ⊢
  clear b1 n1 h8 hL h hE hfit hht hWl hne
  go_enter Tryd.func11, Tryd.ntmps11
  go_wp2_with (first | (go_at_call 22; refine C.mono ?_; rintro e w1 ⟨rfl, hb1⟩; obtain ⟨n1, B1⟩ := HX.out w1 hb1; have n1w := box_below n1 (below_new w1 (.cells #[.pointer none, .slice none 0 0] 66)); obtain ⟨⟨y0, y1, y2, y3, y4, y5⟩, g0, g1, g2, g3, g4, g5⟩ := row6_cells n1w) | fail)
  have hz1 := B1.size
  have b2 := below_new w1 (.cells #[.pointer none, .slice none 0 0] 66)
  have hJ : JIn (w1.alloc (.cells #[.pointer none, .slice none 0 0] 66)) (fun b => b < w1.heap.size) (jA k b n t nq nl nc iq il ic) v := by
    refine JIn.wk (Z := fun b => True ∧ b < w.heap.size) (HH.out.2.2.1.lt.bel (below_more B1 b2)) fun b hb => by omega
  have V := valueW_any 32 (by omega) v (by have := HF.out.2; omega) _ _ w1.heap.size [] (by have := HH.out.1; omega) (HH.out.2.1.below (below_more B1 b2) HH.out.1) HF.out.1 (wr_new w1) (by simp) hJ
  have HB2 : Hid (Below w.heap.size w w1 ∧ Below w1.heap.size w1 (w1.alloc (.cells #[.pointer none, .slice none 0 0] 66)) ∧ w.heap.size ≤ w1.heap.size) := ⟨B1, b2, hz1⟩
  rw [HW.out] at V
  unfold rp jA at V
  clear hz1 b2 hJ B1 n1 hb1 n1w
  refine V.mono ?_
  rintro e w3 ⟨ys, rfl, h3, k3, d3, l3, y3⟩
  simp only [List.nil_append] at h3 d3 l3 ⊢
  have LW := longW_any w3 w1.heap.size ys h3
  have BF : Hid (∀ w', Below w1.heap.size w3 w' → Below w.heap.size w w') := fun w' hb =>
    HB2.out.1.trans ((HB2.out.2.1.trans (k3.below.trans hb)).mono HB2.out.2.2)
  by_cases hlong : 16384 < ys.length
  · rw [decide_eq_true hlong] at LW
    have HQ : Hid (16384 < Wl.length) := by
      show _ < _
      rcases d3 with rfl | ⟨_, h2⟩
      · exact hlong
      · simpa using h2
    unfold rp at LW
    clear V hlong d3 l3 y3 h3
    go_wp2_with (first | (go_at_call 34; refine LW.mono ?_; rintro e w9 ⟨rfl, hw9⟩; rw [hw9]; clear hw9) | fail)
    go_ret2
    refine ⟨_, 3, rfl, BF.out _ (Below.refl _ _), fun h0 => absurd HE.out h0, fun _ => ⟨fun _ => ⟨rfl, rfl⟩, fun h9 => ?_⟩⟩
    rw [HW.out] at h9
    have := HQ.out
    omega
  · rw [decide_eq_false hlong] at LW
    have HQ : Hid (ys = Wl ∧ Wl.length ≤ 16384) := by
      rcases d3 with rfl | ⟨h2, _⟩
      · exact ⟨rfl, by omega⟩
      · simp at h2; omega
    have TX := textW_any w3 w1.heap.size ys h3 y3 (by rw [HQ.out.1]; exact HNE.out)
    have HN : Hid (numsOf (strOf ys) = ys) := nums_strOf y3
    unfold rp at LW TX
    clear V hlong d3 l3 y3 h3
    go_wp2_with (first | (go_at_call 34; refine LW.mono ?_; rintro e w9 ⟨rfl, hw9⟩; rw [hw9]; clear hw9) | (go_at_call 35; refine TX.mono ?_; rintro e w4 ⟨rfl, hb4⟩) | fail)
    go_ret2
    refine ⟨_, 0, rfl, BF.out _ hb4, fun h0 => absurd HE.out h0, fun _ => ⟨fun h9 => ?_, fun _ => ⟨rfl, ?_⟩⟩⟩
    · rw [HW.out] at h9
      have := HQ.out.2
      omega
    · rw [HN.out, HW.out, HQ.out.1]
end Go.Proofs.YtblnoekogdpolaaDoor
