import Derived.Test.YtcfalgomcdmdhaaDoorJWith
namespace Go.Proofs.YtcfalgomcdmdhaaDoor
open Go.RowKit Go.WideShapes Go.Joins
theorem has_len {k : Nat} {b : Bool} {n : Int} {t : ByteArray} {nn nv : Nat} (h : HasP k b n t nn nv) : nn = 0 ∨ nn = nv := by
  rcases h with h | h | h | h | h | h | h
  · exact .inl h.2.2.2.2.1
  · exact .inl h.2.2.2.1
  · exact .inl h.2.2.2.1
  · exact .inl h.2.2.2.2.1
  · exact .inl h.2.2.2.1
  · exact .inl h.2.2.2.2
  · exact .inr h.2.1
theorem chk_six {b : Bool} {n : Int} {t : ByteArray} {ns : List ByteArray} {vs : List JB} {d : Nat} (h : chkB (.mk 6 b n t ns vs) d = 0) : ns.length = vs.length ∧ vs.length ≤ 1024 := by
  simp only [chkB] at h
  split at h
  · rename_i ha
    unfold aloneB at ha
    split at ha
    · cases ha
    rename_i hp
    have hp := Classical.not_not.1 hp
    split at ha
    · cases ha
    split at ha
    · cases ha
    split at ha
    · cases ha
    refine ⟨?_, by omega⟩
    rcases hp with h | h | h | h | h | h | h
    all_goals first
      | exact h.2.1
      | (have := h.1; omega)
  · omega
theorem chk_few : ∀ (v : JB) (d : Nat), chkB v d = 0 → Few v
  | .mk k b n t ns vs, d, h => by
    simp only [chkB] at h
    split at h
    · rename_i ha
      unfold aloneB at ha
      split at ha
      · cases ha
      rename_i hp
      have hp := Classical.not_not.1 hp
      split at ha
      · cases ha
      split at ha
      · cases ha
      split at ha
      · cases ha
      rename_i hv
      have hl := has_len hp
      exact .mk k b n t ns vs (by omega) (by omega) (fun i x hx => chks_few vs (d + 1) h i x hx)
    · omega
where chks_few : ∀ (vs : List JB) (d : Nat), chksB vs d = 0 → ∀ (i : Nat) (x : JB), vs[i]? = some x → Few x
  | [], _, _, i, x, hx => by simp at hx
  | v :: vs, d, h, i, x, hx => by
    simp only [chksB] at h
    split at h
    · rename_i hv
      cases i with
      | zero => simp at hx; subst hx; exact chk_few v d hv
      | succ i => exact chks_few vs d h i x (by simpa using hx)
    · omega
def putK (k : Nat) (v : JB) (name : ByteArray) (y : JB) : Nat := if chkB v 1 = 0 then (if k = 6 then (if isTx name = true then chkB y 1 else 3) else 8) else chkB v 1
structure PutR (E : Nat) (y : JB) (w : World) (e : Ending) (w' : World) : Prop where
  ex : ∃ A, e = .returned (.tuple #[.agg A, .int .i64 (E : Int)]) ∧ JIn w' (Fr w.heap.size w') A (if E = 0 then y else zeroB) ∧ Below w.heap.size w w'
theorem put_zero {w w1 wF : World} {E : Nat} {y : JB} (hE : E ≠ 0) (b1 : Below w.heap.size w w1) (g : w1.grownBy wF (some (w.heap.size + 1 + 1))) : PutR E y w (.returned (.tuple #[.agg zeroA, .int .i64 (E : Int)])) wF :=
  ⟨_, rfl, by rw [if_neg hE]; exact jin_flat _ _ 0 false 0 ⟨#[]⟩ (by decide) rng_zero, b1.grown g b1.size (fun k hk => by cases hk; omega)⟩
theorem put_end {w w4 w5 wF : World} {A : Array Value} {y : JB} (hJ : JIn w5 (Fr w4.heap.size w5) A y) (hlt : w.heap.size + 1 + 1 < w4.heap.size) (b5 : Below w.heap.size w w5) (g : w5.grownBy wF (some (w.heap.size + 1 + 1))) : PutR 0 y w (.returned (.tuple #[.agg A, .int .i64 ((0 : Nat) : Int)])) wF :=
  ⟨A, rfl, by rw [if_pos rfl]; exact jin_frg hJ g (by omega) (by omega), b5.grown g b5.size (fun k hk => by cases hk; omega)⟩
set_option maxHeartbeats 4000000 in
set_option maxRecDepth 8000 in
theorem Put_any (A : Array Value) (v : JB) (Z : Nat → Prop) (name : ByteArray) (B : Array Value) (x : JB) (ZB : Nat → Prop) (w : World) (h8 : 8 ≤ w.heap.size) (hL : Laid w) (hJ : JIn w Z A v) (hx : JIn w ZB B x) :
    Calls Tryd.prog 28 #[.agg A, .string name, .agg B] w fun e w' => PutR (putK v.kind v name (withB v.names v.items name x)) (withB v.names v.items name x) w e w' := by
  obtain ⟨k2, b2, m2, t2, nq2, nl2, nc2, iq2, il2, ic2, hB⟩ := jin_form hx
  have hL8 : ∀ w', Below w.heap.size w w' → 8 ≤ w'.heap.size ∧ Laid w' := fun w' hb => ⟨Nat.le_trans h8 hb.size, hL.below hb h8⟩
  have CK : Hid (∀ w', Below w.heap.size w w' → Calls Tryd.prog 22 #[.agg A] w' fun e w'' => e = .returned (.int .i64 (chkB v 1 : Int)) ∧ Below w'.heap.size w' w'') := fun w' hb => Check_any A v Z w' (hL8 w' hb).1 (hL8 w' hb).2 (hJ.bel hb)
  have CY : Hid (∀ w' A' y, Below w.heap.size w w' → JIn w' Anyw A' y → Calls Tryd.prog 22 #[.agg A'] w' fun e w'' => e = .returned (.int .i64 (chkB y 1 : Int)) ∧ Below w'.heap.size w' w'') := fun w' A' y hb hj => Check_any A' y _ w' (hL8 w' hb).1 (hL8 w' hb).2 hj
  have TX : Hid (∀ w', Below w.heap.size w w' → Calls Tryd.prog 49 #[.string name] w' fun e w'' => e = .returned (.bool (isTx name)) ∧ Below w'.heap.size w' w'') := fun w' hb => isText_any name w' (hL8 w' hb).2
  cases hJ with
  | mk k b m t ns vs nq iq nc ic F hk hn' hnc hic hnm him hnq hiq hN hI hR =>
    have hZ : ∀ w', Below w.heap.size w w' → ∀ a v, Z a.block → w.cell? a = some v → w'.cell? a = some v ∧ Z a.block := fun w' hb a v z hc => ⟨below_cell hc hb, z⟩
    have WI : Hid (ns.length = vs.length → vs.length ≤ 1024 → ∀ w', Below w.heap.size w w' → Calls Tryd.prog 50 #[.agg (jA k b m t nq ns.length nc iq vs.length ic), .string name, .agg B] w' fun e w'' => WithP (withB ns vs name x) w' e w'') := fun he hv w' hb =>
      with_walk k b m t ns vs nq iq nc ic F Z ZB name B x w' (hN.mono (hZ _ hb)) (by omega) (hI.mono (fun i hi => (hR i _ (List.getElem?_eq_getElem hi)).size) (hZ _ hb)) hic hiq (fun i y hy => (hR i y hy).bel hb) (hx.bel hb) he
    have B1 := below_new w (.cells (jA k b m t nq ns.length nc iq vs.length ic) 25)
    have n1 := _root_.Go.heap_alloc_new w (.cells (jA k b m t nq ns.length nc iq vs.length ic) 25)
    have B2 := below_new (w.alloc (.cells (jA k b m t nq ns.length nc iq vs.length ic) 25)) (.cells B 25)
    have n2 := _root_.Go.heap_alloc_new (w.alloc (.cells (jA k b m t nq ns.length nc iq vs.length ic) 25)) (.cells B 25)
    have B3 := below_new ((w.alloc (.cells (jA k b m t nq ns.length nc iq vs.length ic) 25)).alloc (.cells B 25)) (.cells zeroA 25)
    have n3 := _root_.Go.heap_alloc_new ((w.alloc (.cells (jA k b m t nq ns.length nc iq vs.length ic) 25)).alloc (.cells B 25)) (.cells zeroA 25)
    simp only [World.size_alloc] at n2 n3
    have n1' := box_below (box_below n1 B2) B3
    have n2' := box_below n2 B3
    have BF := below_more (below_more B1 B2) B3
    clear B1 B2 B3 n1 n2 hZ hL8 hN hI hR hx h8 hL
    subst hB
    unfold zeroA at BF n1' n2' n3
    unfold jA at BF n1' n2' n3 CK WI ⊢
    simp only [JB.kind, JB.names, JB.items]
    obtain ⟨y, hy⟩ : ∃ y, withB ns vs name x = y := ⟨_, rfl⟩
    obtain ⟨C, hC⟩ : ∃ C, chkB (.mk k b m t ns vs) 1 = C := ⟨_, rfl⟩
    obtain ⟨X, hX⟩ : ∃ X, isTx name = X := ⟨_, rfl⟩
    obtain ⟨E, hE⟩ : ∃ E, putK k (.mk k b m t ns vs) name y = E := ⟨_, rfl⟩
    have HC : Hid (chkB (.mk k b m t ns vs) 1 = C ∧ withB ns vs name x = y ∧ isTx name = X) := ⟨hC, hy, hX⟩
    have HP : Hid (E = if C = 0 then (if k = 6 then (if X = true then chkB y 1 else 3) else 8) else C) := by unfold putK at hE; rw [hC, hX] at hE; exact hE.symm
    rw [hC] at CK
    rw [hX] at TX
    rw [hy] at WI ⊢
    rw [hE]
    clear hC hX hy hE
    obtain ⟨⟨r0, r1, r2, r3, r4, r5⟩, _, _, _, _, _, _⟩ := row6_cells n1'
    have CF := CK.out _ BF
    have HB : Hid (Below w.heap.size w _) := BF
    have H1 : Hid (_ = _) := n1'
    have H2 : Hid (_ = _) := n2'
    have H3 : Hid (_ = _) := n3
    clear n1' n2' n3 BF CK
    go_enter Tryd.func28, Tryd.ntmps28
    go_wp2_with fail
    refine CF.mono ?_
    rintro e w1 ⟨rfl, b1⟩
    have G1 := box_below H1.out b1
    have G2 := box_below H2.out b1
    have G3 : Hid (_ = _) := box_below H3.out b1
    have B1 := below_more HB.out b1
    have HB1 : Hid (Below w.heap.size w w1) := B1
    have TF := TX.out _ B1
    obtain ⟨⟨s0, s1, s2, s3, s4, s5⟩, _, _, _, _, _, _⟩ := row6_cells G1
    obtain ⟨⟨x0, x1, x2, x3, x4, x5⟩, y0, y1, y2, y3, y4, y5⟩ := row6_cells G3.out
    clear CF H1 H2 H3 HB b1 r0 r1 r2 r3 r4 r5 TX B1
    by_cases h0 : C = 0
    · subst h0
      by_cases h6 : k = 6
      · subst h6
        have HS : Hid (ns.length = vs.length ∧ vs.length ≤ 1024) := chk_six HC.out.1
        simp only [show (((6 : Nat) : Int)) = 6 from rfl] at WI G1 s0
        cases X with
        | false =>
          have HE : Hid (E = 3) := by show E = 3; rw [HP.out, if_pos rfl, if_pos rfl]; rfl
          clear G1 G2 WI CY x0 x1 x2 x3 x4 x5 y0 y1 y2 y3 y4 y5
          simp only [show (((0 : Nat) : Int)) = 0 from rfl]
          go_wp2_with fail
          refine TF.mono ?_
          rintro e w2 ⟨rfl, b2⟩
          have G4 : Hid (_ = _) := box_below G3.out b2
          have HB2 : Hid (Below w.heap.size w w2) := below_more HB1.out b2
          obtain ⟨⟨x0, x1, x2, x3, x4, x5⟩, y0, y1, y2, y3, y4, y5⟩ := row6_cells G4.out
          clear b2 s0 s1 s2 s3 s4 s5 G3 TF
          simp only []
          go_wp2_with fail
          refine bodyPost_ret (results_cell_row2 rfl _ _ _ (w.heap.size + 1 + 1) 25 zeroA (0, 0) _ rfl (set6_heap' G4.out _ _ _ _ _ _) rfl Tryd.underlying25 size_json) rfl ?_
          rw [HE.out]
          exact put_zero (by decide) HB2.out (set6_grown _ _ _ _ _ _ _ _)
        | true =>
          have HE : Hid (E = chkB y 1) := by show E = chkB y 1; rw [HP.out, if_pos rfl, if_pos rfl, if_pos rfl]
          clear x0 x1 x2 x3 x4 x5 y0 y1 y2 y3 y4 y5
          simp only [show (((0 : Nat) : Int)) = 0 from rfl]
          go_wp2_with fail
          refine TF.mono ?_
          rintro e w2 ⟨rfl, b2⟩
          have K1 := box_below G1 b2
          have K2 := box_below G2 b2
          have K3 := box_below G3.out b2
          have B2 := below_more HB1.out b2
          obtain ⟨⟨p0, p1, p2, p3, p4, p5⟩, _, _, _, _, _, _⟩ := row6_cells K1
          obtain ⟨⟨q0, q1, q2, q3, q4, q5⟩, _, _, _, _, _, _⟩ := row6_cells K2
          have W2 := WI.out HS.out.1 HS.out.2 w2 B2
          clear b2 s0 s1 s2 s3 s4 s5 G1 G2 G3 TF WI HB1
          simp only []
          go_wp2_with fail
          refine W2.mono ?_
          rintro e w3 ⟨A, rfl, hA, b3⟩
          obtain ⟨k3, d3, m3, t3, nq3, nl3, nc3, iq3, il3, ic3, rfl⟩ := jin_form hA
          have B3 := below_more B2 b3
          have nb := below_new w3 (.cells (jA k3 d3 m3 t3 nq3 nl3 nc3 iq3 il3 ic3) 25)
          have n3 := _root_.Go.heap_alloc_new w3 (.cells (jA k3 d3 m3 t3 nq3 nl3 nc3 iq3 il3 ic3) 25)
          have K4 := box_below (box_below K3 b3) nb
          have B4 := below_more B3 nb
          have hA4 := hA.bel nb
          have C4 := CY.out _ _ y B4 hA4
          obtain ⟨⟨z0, z1, z2, z3, z4, z5⟩, _, _, _, _, _, _⟩ := row6_cells n3
          have HA : Hid (Below w.heap.size w _ ∧ JIn _ Anyw _ y ∧ _ = _ ∧ _ = _) := ⟨B4, hA4, K4, n3⟩
          unfold jA at HA C4 z0 z1 z2 z3 z4 z5 ⊢
          clear B2 b3 hA K1 K2 K3 p0 p1 p2 p3 p4 p5 q0 q1 q2 q3 q4 q5 W2 B3 nb n3 K4 B4 hA4 CY
          simp only []
          go_wp2_with fail
          refine C4.mono ?_
          rintro e w5 ⟨rfl, b5⟩
          have B5 := below_more HA.out.1 b5
          have K5 := box_below HA.out.2.2.1 b5
          have n5 := box_below HA.out.2.2.2 b5
          have hA5 := HA.out.2.1.bel b5
          obtain ⟨⟨r0, r1, r2, r3, r4, r5⟩, _, _, _, _, _, _⟩ := row6_cells n5
          obtain ⟨D, hD⟩ : ∃ D, chkB y 1 = D := ⟨_, rfl⟩
          rw [hD] at HE ⊢
          clear z0 z1 z2 z3 z4 z5 C4 HA b5 n5
          by_cases hd : D = 0
          · subst hd
            have CP := copied_any (chk_few y 1 hD) _ _ _ hA5
            clear hA5 hD
            simp only [show (((0 : Nat) : Int)) = 0 from rfl]
            go_wp2_with fail
            refine CP.mono ?_
            rintro e w6 ⟨A6, rfl, hA6, b6⟩
            obtain ⟨k7, d7, m7, t7, nq7, nl7, nc7, iq7, il7, ic7, rfl⟩ := jin_form hA6
            have K6 : Hid (_ = _) := box_below K5 b6
            have HA6 : Hid (JIn w6 _ _ y ∧ Below w.heap.size w w6 ∧ _ < w5.heap.size) := ⟨hA6, below_more B5 b6, heap_lt K5⟩
            obtain ⟨⟨x0, x1, x2, x3, x4, x5⟩, y0, y1, y2, y3, y4, y5⟩ := row6_cells K6.out
            unfold jA
            clear hA6 b6 K5 B5 CP r0 r1 r2 r3 r4 r5
            simp only []
            go_wp2_with fail
            refine bodyPost_ret (results_cell_row2 rfl _ _ _ (w.heap.size + 1 + 1) 25 (jA k7 d7 m7 t7 nq7 nl7 nc7 iq7 il7 ic7) (0, 0) _ rfl (set6_heap' K6.out _ _ _ _ _ _) rfl Tryd.underlying25 size_json) rfl ?_
            rw [HE.out]
            exact put_end HA6.out.1 HA6.out.2.2 HA6.out.2.1 (set6_grown _ _ _ _ _ _ _ _)
          · have d0 : ((D : Int) != 0) = true := by simp; omega
            have HN : Hid (D ≠ 0) := hd
            have HK5 : Hid (_ = _) := K5
            have HB5 : Hid (Below w.heap.size w w5) := B5
            obtain ⟨⟨x0, x1, x2, x3, x4, x5⟩, y0, y1, y2, y3, y4, y5⟩ := row6_cells K5
            clear hA5 hd K5 B5 r0 r1 r2 r3 r4 r5 hD
            simp only []
            go_wp2_with fail
            refine bodyPost_ret (results_cell_row2 rfl _ _ _ (w.heap.size + 1 + 1) 25 zeroA (0, 0) _ rfl (set6_heap' HK5.out _ _ _ _ _ _) rfl Tryd.underlying25 size_json) rfl ?_
            rw [HE.out]
            exact put_zero HN.out HB5.out (set6_grown _ _ _ _ _ _ _ _)
      · have k6 : ((k : Int) != 6) = true := by simp; omega
        have HE : Hid (E = 8) := by show E = 8; rw [HP.out, if_pos rfl, if_neg h6]
        clear TF G1 G2 WI CY h6
        simp only [show (((0 : Nat) : Int)) = 0 from rfl]
        go_wp2_with fail
        refine bodyPost_ret (results_cell_row2 rfl _ _ _ (w.heap.size + 1 + 1) 25 zeroA (0, 0) _ rfl (set6_heap' G3.out _ _ _ _ _ _) rfl Tryd.underlying25 size_json) rfl ?_
        rw [HE.out]
        exact put_zero (by decide) HB1.out (set6_grown _ _ _ _ _ _ _ _)
    · have c0 : ((C : Int) != 0) = true := by simp; omega
      have HN : Hid (C ≠ 0) := h0
      have HE : Hid (E = C) := by show E = C; rw [HP.out, if_neg h0]
      clear TF G1 G2 WI CY h0
      simp only []
      go_wp2_with fail
      refine bodyPost_ret (results_cell_row2 rfl _ _ _ (w.heap.size + 1 + 1) 25 zeroA (0, 0) _ rfl (set6_heap' G3.out _ _ _ _ _ _) rfl Tryd.underlying25 size_json) rfl ?_
      rw [HE.out]
      exact put_zero HN.out HB1.out (set6_grown _ _ _ _ _ _ _ _)
end Go.Proofs.YtcfalgomcdmdhaaDoor
namespace Go.Proofs.YtcfalgomcdmdhaaDoor
open Go.RowKit Go.WideShapes Go.Joins
theorem idx_is {l : List ByteArray} {x : ByteArray} {k : Nat} (hk : k < l.length) (h : l.getD k ByteArray.empty = x) (hne : ∀ j, j < k → l.getD j ByteArray.empty ≠ x) : Lib.idxOfS l x = (k : Int) := by
  have := Lib.idxOfS_hit l l.length k x hk (Nat.le_refl _) h hne
  rwa [List.take_length] at this
end Go.Proofs.YtcfalgomcdmdhaaDoor
