import Derived.Test.YtcfalgomcdmdhaaDoorJWith
namespace Go.Proofs.YtcfalgomcdmdhaaDoor
open Go.RowKit Go.WideShapes Go.Joins
def atB (x : JB) (i : Int) : Option JB := if x.kind = 5 ∧ 0 ≤ i then x.items[i.toNat]? else none
theorem at_none {k : Nat} {b : Bool} {m : Int} {t : ByteArray} {ns : List ByteArray} {vs : List JB} {i : Int} (h : k ≠ 5 ∨ i < 0 ∨ (vs.length : Int) ≤ i) : atB (.mk k b m t ns vs) i = none := by
  unfold atB
  by_cases h0 : (JB.mk k b m t ns vs).kind = 5 ∧ 0 ≤ i
  · rw [if_pos h0]
    have h5 : k = 5 := h0.1
    have h6 := h0.2
    exact List.getElem?_eq_none (by show vs.length ≤ _; omega)
  · rw [if_neg h0]
theorem heap_lt' {w : World} {g : Nat} {o : Obj} (h : w.heap[g]? = some o) : g < w.heap.size := by
  rcases Nat.lt_or_ge g w.heap.size with h' | h'
  · exact h'
  · rw [Array.getElem?_eq_none h'] at h; cases h
set_option maxHeartbeats 2000000 in
set_option maxRecDepth 8000 in
theorem at_walk (k : Nat) (b : Bool) (m : Int) (t : ByteArray) (ns : List ByteArray) (vs : List JB) (nq iq : Option Addr) (nc ic : Nat) (F : Nat → Array Value) (Z : Nat → Prop) (i : Int) (w : World)
    (h1 : VsIn w Z iq F vs.length) (hl : vs.length ≤ 1759218604390) (hf1 : ∀ i x, vs[i]? = some x → JIn w Z (F i) x)
    (hfew : ∀ (i : Nat) (x : JB), vs[i]? = some x → Few x) :
    Calls Tryd.prog 26 #[.agg (jA k b m t nq ns.length nc iq vs.length ic), .int .i64 i] w fun e w' => GetP (atB (.mk k b m t ns vs) i) w e w' := by
  have B1 := below_new w (.cells (jA k b m t nq ns.length nc iq vs.length ic) 25)
  have n1 := _root_.Go.heap_alloc_new w (.cells (jA k b m t nq ns.length nc iq vs.length ic) 25)
  have B2 := below_new (w.alloc (.cells (jA k b m t nq ns.length nc iq vs.length ic) 25)) (.cells zeroA 25)
  have n2 := _root_.Go.heap_alloc_new (w.alloc (.cells (jA k b m t nq ns.length nc iq vs.length ic) 25)) (.cells zeroA 25)
  rw [World.size_alloc] at n2
  have n1' := box_below n1 B2
  have BF := below_more B1 B2
  have CV : Hid (∀ i x, vs[i]? = some x → ∀ w', Below w.heap.size w w' → Calls Tryd.prog 48 #[.agg (F i)] w' fun e w'' => CopP x w' e w'') := fun i x hx w' hb => copied_any (hfew i x hx) (F i) Z w' ((hf1 i x hx).bel hb)
  obtain ⟨⟨r0, r1, r2, r3, r4, r5⟩, f0, f1, f2, f3, f4, f5⟩ := row6_cells n1'
  unfold zeroA at BF n1' n2
  unfold jA at BF n1' n2 r0 r1 r2 r3 r4 r5 f0 f1 f2 f3 f4 f5 ⊢
  have HB : Hid (Below w.heap.size w _) := BF
  have HN : Hid (_ = _) := n2
  have HM : Hid (VsIn w Z iq F vs.length ∧ (∀ i x, vs[i]? = some x → JIn w Z (F i) x)) := ⟨h1, hf1⟩
  by_cases h6 : k = 5 ∧ 0 ≤ i ∧ i < vs.length
  · have k5 : ((k : Int) != 5) = false := by rw [h6.1]; rfl
    obtain ⟨j, rfl⟩ : ∃ j : Nat, i = (j : Int) := ⟨i.toNat, by omega⟩
    have hjn : ¬ (j : Int) < 0 := by omega
    have hj0 : (0 : Int) ≤ (j : Int) := by omega
    have hj1 : (j : Int) < (vs.length : Int) := h6.2.2
    have hjv : j < vs.length := by omega
    obtain ⟨x, hx⟩ : ∃ x, vs[j]? = some x := ⟨_, List.getElem?_eq_getElem hjv⟩
    have HG : Hid (atB (.mk k b m t ns vs) (j : Int) = some x) := by
      show atB _ _ = _
      unfold atB
      rw [if_pos ⟨h6.1, hj0⟩, Int.toNat_natCast]; exact hx
    obtain ⟨ib, io, rfl⟩ := HM.out.1.addr (by omega)
    have hc1 := (HM.out.1.at hjv).2
    obtain ⟨k2, b2, m2, t2, nq2, nl2, nc2, iq2, il2, ic2, hF1⟩ := jin_form (HM.out.2 j x hx)
    have FX := CV.out j x hx _ BF
    rw [hF1] at hc1 FX
    obtain ⟨z0, z1, z2, z3, z4, z5⟩ := (jat_of hc1).below BF
    unfold jA at FX
    clear B1 n1 B2 n1' n2 BF h1 hf1 hfew h6 hjv hc1 hF1 CV hx HM hl
    go_enter Tryd.func26, Tryd.ntmps26
    go_wp2_with fail
    refine FX.mono ?_
    rintro e w4 ⟨A, rfl, hJ, b4⟩
    have M4 := box_below HN.out b4
    obtain ⟨⟨x0, x1, x2, x3, x4, x5⟩, g0, g1, g2, g3, g4, g5⟩ := row6_cells M4
    obtain ⟨k3, b3, m3, t3, nq3, nl3, nc3, iq3, il3, ic3, rfl⟩ := jin_form hJ
    unfold jA
    have HJ : Hid (JIn w4 _ (jA k3 b3 m3 t3 nq3 nl3 nc3 iq3 il3 ic3) x ∧ Below w.heap.size w w4 ∧ w.heap.size + 1 < _) := ⟨hJ, below_more HB.out b4, heap_lt' HN.out⟩
    clear hJ b4 r0 r1 r2 r3 r4 r5 f0 f1 f2 f3 f4 f5 z0 z1 z2 z3 z4 z5 FX
    simp only []
    go_wp2_with fail
    refine bodyPost_ret (results_cell_row2 rfl _ _ _ (w.heap.size + 1) 25 (jA k3 b3 m3 t3 nq3 nl3 nc3 iq3 il3 ic3) (0, 0) _ rfl (set6_heap' M4 _ _ _ _ _ _) rfl Tryd.underlying25 size_json) rfl ?_
    rw [HG.out]
    exact get_end HJ.out.1 HJ.out.2.1 HJ.out.2.2
  · have HG : Hid (atB (.mk k b m t ns vs) i = none) := at_none (by omega)
    obtain ⟨⟨x0, x1, x2, x3, x4, x5⟩, g0, g1, g2, g3, g4, g5⟩ := row6_cells n2
    clear CV HM h1 hf1 hfew
    by_cases hk : k = 5
    · have k5 : ((k : Int) != 5) = false := by rw [hk]; rfl
      by_cases hi : i < 0
      · clear B1 n1 B2 n1' n2 BF h6 hk
        go_enter Tryd.func26, Tryd.ntmps26
        go_wp2_with fail
        refine bodyPost_ret (results_cell_row2 rfl _ _ _ (w.heap.size + 1) 25 zeroA (0, 0) _ rfl HN.out rfl Tryd.underlying25 size_json) rfl ?_
        rw [HG.out]
        exact ⟨_, rfl, jin_flat _ _ 0 false 0 ⟨#[]⟩ (by decide) rng_zero, HB.out⟩
      · have hi2 : (vs.length : Int) ≤ i := by omega
        clear B1 n1 B2 n1' n2 BF h6 hk
        go_enter Tryd.func26, Tryd.ntmps26
        go_wp2_with fail
        refine bodyPost_ret (results_cell_row2 rfl _ _ _ (w.heap.size + 1) 25 zeroA (0, 0) _ rfl HN.out rfl Tryd.underlying25 size_json) rfl ?_
        rw [HG.out]
        exact ⟨_, rfl, jin_flat _ _ 0 false 0 ⟨#[]⟩ (by decide) rng_zero, HB.out⟩
    · have k5 : ((k : Int) != 5) = true := by simp; omega
      clear B1 n1 B2 n1' n2 BF h6 hk
      go_enter Tryd.func26, Tryd.ntmps26
      go_wp2_with fail
      refine bodyPost_ret (results_cell_row2 rfl _ _ _ (w.heap.size + 1) 25 zeroA (0, 0) _ rfl HN.out rfl Tryd.underlying25 size_json) rfl ?_
      rw [HG.out]
      exact ⟨_, rfl, jin_flat _ _ 0 false 0 ⟨#[]⟩ (by decide) rng_zero, HB.out⟩
theorem At_any {x : JB} (hf : Few x) (A : Array Value) (Z : Nat → Prop) (i : Int) (w : World) (hJ : JIn w Z A x) :
    Calls Tryd.prog 26 #[.agg A, .int .i64 i] w fun e w' => GetP (atB x i) w e w' := by
  cases hf with
  | mk k b n t ns vs hn hv hr =>
    generalize hq : JB.mk k b n t ns vs = v at hJ
    cases hJ with
    | mk k' b' n' t' ns' vs' nq iq nc ic F hk hn' hnc hic hnm him hnq hiq hN hI hR =>
      cases hq
      exact at_walk k b n t ns vs nq iq nc ic F Z i w hI hv hR hr
end Go.Proofs.YtcfalgomcdmdhaaDoor
namespace Go.Proofs.YtcfalgomcdmdhaaDoor
open Go.RowKit Go.WideShapes Go.Joins
set_option maxHeartbeats 2000000 in
set_option maxRecDepth 8000 in
theorem Rows_any {vs : List JB} (hv : vs.length ≤ 1759218604390) (hr : ∀ (i : Nat) (x : JB), vs[i]? = some x → Few x) (q : Option Addr) (c : Nat) (F : Nat → Array Value) (Z : Nat → Prop) (w : World) (h : VsIn w Z q F vs.length) (hf : ∀ i x, vs[i]? = some x → JIn w Z (F i) x) :
    Calls Tryd.prog 30 #[.slice q vs.length c] w fun e w' => CopP (.mk 5 false 0 ⟨#[]⟩ [] vs) w e w' := by
  have B1 := below_new w (.cells zeroA 25)
  have n1 := _root_.Go.heap_alloc_new w (.cells zeroA 25)
  have CV := copies_any hv hr q c F Z _ (h.mono (fun i hi => (hf i _ (List.getElem?_eq_getElem hi)).size) (Z' := Z) (fun _ _ z hc => ⟨below_cell hc B1, z⟩)) (fun i x hx => (hf i x hx).bel B1)
  unfold zeroA at B1 n1 CV
  have HN : Hid (_ = _) := n1
  have HB : Hid (Below w.heap.size w _) := B1
  clear h hf hr hv B1 n1
  go_enter Tryd.func30, Tryd.ntmps30
  go_wp2_with fail
  refine CV.mono ?_
  rintro e w2 ⟨q2, c2, G, rfl, a1, a2, a3, hV, hR, b2⟩
  have M2 : Hid (_ = _) := box_below HN.out b2
  have HH : Hid (vs.length ≤ c2 ∧ c2 ≤ maxLen ∧ (q2 = none → c2 = 0) ∧ VsIn w2 _ q2 G vs.length ∧ (∀ i x, vs[i]? = some x → JIn w2 _ (G i) x) ∧ Below w.heap.size w w2 ∧ w.heap.size < _) := ⟨a1, a2, a3, hV, hR, below_more HB.out b2, heap_lt' HN.out⟩
  obtain ⟨⟨x0, x1, x2, x3, x4, x5⟩, g0, g1, g2, g3, g4, g5⟩ := row6_cells M2.out
  clear CV a1 a2 a3 hV hR b2
  simp only []
  go_wp2_with fail
  refine bodyPost_ret (results_cell_row rfl _ _ w.heap.size 25 (jA 5 false 0 ⟨#[]⟩ none 0 0 q2 vs.length c2) (0, 0) _ rfl (set6_heap' M2.out _ _ _ _ _ _) Tryd.underlying25 rfl size_json) rfl ?_
  have gg := set6_grown w2 w.heap.size (.int .u8 5) (.bool false) (.int .i64 0) (.string ⟨#[]⟩) (.slice none 0 0) (.slice q2 vs.length c2)
  have hH := HH.out
  refine ⟨_, rfl, .mk 5 false 0 ⟨#[]⟩ [] vs none q2 0 c2 G (by decide) rng_zero (Nat.le_refl _) hH.1 (Nat.zero_le _) hH.2.1 (fun _ => rfl) hH.2.2.1 (ss_nil _ _ _) ?_ ?_, hH.2.2.2.2.2.1.grown gg hH.2.2.2.2.2.1.size (fun k hk => by cases hk; exact Nat.le_refl _)⟩
  · have hsz : ∀ i, i < vs.length → (G i).size = 6 := fun i hi => (hH.2.2.2.2.1 i _ (List.getElem?_eq_getElem hi)).size
    exact vs_frg hH.2.2.2.1 hsz gg hH.2.2.2.2.2.2 (Nat.le_of_lt hH.2.2.2.2.2.2)
  · intro i x hx
    exact jin_frg (hH.2.2.2.2.1 i x hx) gg hH.2.2.2.2.2.2 (Nat.le_of_lt hH.2.2.2.2.2.2)
end Go.Proofs.YtcfalgomcdmdhaaDoor
