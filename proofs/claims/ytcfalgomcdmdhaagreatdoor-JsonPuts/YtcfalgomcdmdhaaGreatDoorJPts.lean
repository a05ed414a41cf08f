/-
  JsonPuts: the walk.
-/
import Derived.Test.YtcfalgomcdmdhaaGreatDoorJWith
import Derived.Test.YtcfalgomcdmdhaaGreatDoorJBk
namespace Go.Proofs.YtcfalgomcdmdhaaGreatDoor
open Go.RowKit Go.WideShapes Go.Joins

theorem has_len {k : Nat} {b : Bool} {n : Int} {t : ByteArray} {nn nv : Nat} (h : HasP k b n t nn nv) : nn = 0 ∨ nn = nv := by
  rcases h with h | h | h | h | h | h | h
  · exact .inl h.2.2.2.2.1
  · exact .inl h.2.2.2.1
  · exact .inl h.2.2.2.1
  · exact .inl h.2.2.2.2.1
  · exact .inl h.2.2.2.1
  · exact .inl h.2.2.2.2
  · exact .inr h.2.1
theorem chk_six {b : Bool} {n : Int} {t : ByteArray} {ns : List ByteArray} {vs : List JB} {d : Nat} (h : chkB (.mk 6 b n t ns vs) d = 0) : ns.length = vs.length ∧ vs.length ≤ 1024 := by
  simp only [chkB] at h
  split at h
  · rename_i ha
    unfold aloneB at ha
    split at ha
    · cases ha
    rename_i hp
    have hp := Classical.not_not.1 hp
    split at ha
    · cases ha
    split at ha
    · cases ha
    split at ha
    · cases ha
    refine ⟨?_, by omega⟩
    rcases hp with h | h | h | h | h | h | h
    all_goals first
      | exact h.2.1
      | (have := h.1; omega)
  · omega
/-- what Check lets pass has few names and items -/
theorem chk_few : ∀ (v : JB) (d : Nat), chkB v d = 0 → Few v
  | .mk k b n t ns vs, d, h => by
    simp only [chkB] at h
    split at h
    · rename_i ha
      unfold aloneB at ha
      split at ha
      · cases ha
      rename_i hp
      have hp := Classical.not_not.1 hp
      split at ha
      · cases ha
      split at ha
      · cases ha
      split at ha
      · cases ha
      rename_i hv
      have hl := has_len hp
      exact .mk k b n t ns vs (by omega) (by omega) (fun i x hx => chks_few vs (d + 1) h i x hx)
    · omega
where chks_few : ∀ (vs : List JB) (d : Nat), chksB vs d = 0 → ∀ (i : Nat) (x : JB), vs[i]? = some x → Few x
  | [], _, _, i, x, hx => by simp at hx
  | v :: vs, d, h, i, x, hx => by
    simp only [chksB] at h
    split at h
    · rename_i hv
      cases i with
      | zero => simp at hx; subst hx; exact chk_few v d hv
      | succ i => exact chks_few vs d h i x (by simpa using hx)
    · omega
def putK (k : Nat) (v : JB) (name : ByteArray) (y : JB) : Nat := if chkB v 1 = 0 then (if k = 6 then (if isTx name = true then chkB y 1 else 3) else 8) else chkB v 1
/-- what Put answers -/
structure PutR (E : Nat) (y : JB) (w : World) (e : Ending) (w' : World) : Prop where
  ex : ∃ A, e = .returned (.tuple #[.agg A, .int .i64 (E : Int)]) ∧ JIn w' (fun b => w.heap.size ≤ b) A (if E = 0 then y else zeroB) ∧ Below w.heap.size w w'
theorem put_zero {w w1 wF : World} {E : Nat} {y : JB} (hE : E ≠ 0) (b1 : Below w.heap.size w w1) (g : w1.grownBy wF (some (w.heap.size + 1 + 1))) : PutR E y w (.returned (.tuple #[.agg zeroA, .int .i64 (E : Int)])) wF :=
  ⟨_, rfl, by rw [if_neg hE]; exact jin_flat _ _ 0 false 0 ⟨#[]⟩ (by decide) rng_zero, b1.grown g b1.size (fun k hk => by cases hk; omega)⟩
theorem put_end {w w4 w5 wF : World} {A : Array Value} {y : JB} (hJ : JIn w5 (fun b => w4.heap.size ≤ b) A y) (hlt : w.heap.size + 1 + 1 < w4.heap.size) (b5 : Below w.heap.size w w5) (g : w5.grownBy wF (some (w.heap.size + 1 + 1))) : PutR 0 y w (.returned (.tuple #[.agg A, .int .i64 ((0 : Nat) : Int)])) wF :=
  ⟨A, rfl, by rw [if_pos rfl]; exact (jin_grown hJ g (fun b hb => by omega)).wk fun b hb => by omega, b5.grown g b5.size (fun k hk => by cases hk; omega)⟩
set_option maxHeartbeats 4000000 in
set_option maxRecDepth 8000 in
theorem Put_any (A : Array Value) (v : JB) (Z : Nat → Prop) (name : ByteArray) (B : Array Value) (x : JB) (ZB : Nat → Prop) (w : World) (h8 : 8 ≤ w.heap.size) (hL : Laid w) (hJ : JIn w Z A v) (hx : JIn w ZB B x) :
    Calls Tryz.prog 6 #[.agg A, .string name, .agg B] w fun e w' => PutR (putK v.kind v name (withB v.names v.items name x)) (withB v.names v.items name x) w e w' := by
  obtain ⟨k2, b2, m2, t2, nq2, nl2, nc2, iq2, il2, ic2, hB⟩ := jin_form hx
  have hL8 : ∀ w', Below w.heap.size w w' → 8 ≤ w'.heap.size ∧ Laid w' := fun w' hb => ⟨Nat.le_trans h8 hb.size, hL.below hb h8⟩
  have CK : Hid (∀ w', Below w.heap.size w w' → Calls Tryz.prog 9 #[.agg A] w' fun e w'' => e = .returned (.int .i64 (chkB v 1 : Int)) ∧ Below w'.heap.size w' w'') := fun w' hb => Check_any A v Z w' (hL8 w' hb).1 (hL8 w' hb).2 (hJ.bel hb)
  have CY : Hid (∀ w' A' y, Below w.heap.size w w' → JIn w' Anyw A' y → Calls Tryz.prog 9 #[.agg A'] w' fun e w'' => e = .returned (.int .i64 (chkB y 1 : Int)) ∧ Below w'.heap.size w' w'') := fun w' A' y hb hj => Check_any A' y _ w' (hL8 w' hb).1 (hL8 w' hb).2 hj
  have TX : Hid (∀ w', Below w.heap.size w w' → Calls Tryz.prog 13 #[.string name] w' fun e w'' => e = .returned (.bool (isTx name)) ∧ Below w'.heap.size w' w'') := fun w' hb => isText_any name w' (hL8 w' hb).2
  cases hJ with
  | mk k b m t ns vs nq iq nc ic F hk hn' hnc hic hnm him hnq hiq hN hI hR =>
    have hZ : ∀ w', Below w.heap.size w w' → ∀ a v, Z a.block → w.cell? a = some v → w'.cell? a = some v ∧ Z a.block := fun w' hb a v z hc => ⟨below_cell hc hb, z⟩
    have WI : Hid (ns.length = vs.length → vs.length ≤ 1024 → ∀ w', Below w.heap.size w w' → Calls Tryz.prog 14 #[.agg (jA k b m t nq ns.length nc iq vs.length ic), .string name, .agg B] w' fun e w'' => WithP (withB ns vs name x) w' e w'') := fun he hv w' hb =>
      with_walk k b m t ns vs nq iq nc ic F Z ZB name B x w' (hN.mono (hZ _ hb)) (by omega) (hI.mono (fun i hi => (hR i _ (List.getElem?_eq_getElem hi)).size) (hZ _ hb)) hic hiq (fun i y hy => (hR i y hy).bel hb) (hx.bel hb) he
    have B1 := below_new w (.cells (jA k b m t nq ns.length nc iq vs.length ic) 25)
    have n1 := _root_.Go.heap_alloc_new w (.cells (jA k b m t nq ns.length nc iq vs.length ic) 25)
    have B2 := below_new (w.alloc (.cells (jA k b m t nq ns.length nc iq vs.length ic) 25)) (.cells B 25)
    have n2 := _root_.Go.heap_alloc_new (w.alloc (.cells (jA k b m t nq ns.length nc iq vs.length ic) 25)) (.cells B 25)
    have B3 := below_new ((w.alloc (.cells (jA k b m t nq ns.length nc iq vs.length ic) 25)).alloc (.cells B 25)) (.cells zeroA 25)
    have n3 := _root_.Go.heap_alloc_new ((w.alloc (.cells (jA k b m t nq ns.length nc iq vs.length ic) 25)).alloc (.cells B 25)) (.cells zeroA 25)
    simp only [World.size_alloc] at n2 n3
    have n1' := box_below (box_below n1 B2) B3
    have n2' := box_below n2 B3
    have BF := below_more (below_more B1 B2) B3
    clear B1 B2 B3 n1 n2 hZ hL8 hN hI hR hx h8 hL
    subst hB
    unfold zeroA at BF n1' n2' n3
    unfold jA at BF n1' n2' n3 CK WI ⊢
    simp only [JB.kind, JB.names, JB.items]
    obtain ⟨y, hy⟩ : ∃ y, withB ns vs name x = y := ⟨_, rfl⟩
    obtain ⟨C, hC⟩ : ∃ C, chkB (.mk k b m t ns vs) 1 = C := ⟨_, rfl⟩
    obtain ⟨X, hX⟩ : ∃ X, isTx name = X := ⟨_, rfl⟩
    obtain ⟨E, hE⟩ : ∃ E, putK k (.mk k b m t ns vs) name y = E := ⟨_, rfl⟩
    have HC : Hid (chkB (.mk k b m t ns vs) 1 = C ∧ withB ns vs name x = y ∧ isTx name = X) := ⟨hC, hy, hX⟩
    have HP : Hid (E = if C = 0 then (if k = 6 then (if X = true then chkB y 1 else 3) else 8) else C) := by unfold putK at hE; rw [hC, hX] at hE; exact hE.symm
    rw [hC] at CK
    rw [hX] at TX
    rw [hy] at WI ⊢
    rw [hE]
    clear hC hX hy hE
    obtain ⟨⟨r0, r1, r2, r3, r4, r5⟩, _, _, _, _, _, _⟩ := row6_cells n1'
    have CF := CK.out _ BF
    have HB : Hid (Below w.heap.size w _) := BF
    have H1 : Hid (_ = _) := n1'
    have H2 : Hid (_ = _) := n2'
    have H3 : Hid (_ = _) := n3
    clear n1' n2' n3 BF CK
    go_enter Tryz.func6, Tryz.ntmps6
    go_wp2_with fail
    refine CF.mono ?_
    rintro e w1 ⟨rfl, b1⟩
    have G1 := box_below H1.out b1
    have G2 := box_below H2.out b1
    have G3 : Hid (_ = _) := box_below H3.out b1
    have B1 := below_more HB.out b1
    have HB1 : Hid (Below w.heap.size w w1) := B1
    have TF := TX.out _ B1
    obtain ⟨⟨s0, s1, s2, s3, s4, s5⟩, _, _, _, _, _, _⟩ := row6_cells G1
    obtain ⟨⟨x0, x1, x2, x3, x4, x5⟩, y0, y1, y2, y3, y4, y5⟩ := row6_cells G3.out
    clear CF H1 H2 H3 HB b1 r0 r1 r2 r3 r4 r5 TX B1
    by_cases h0 : C = 0
    · subst h0
      by_cases h6 : k = 6
      · subst h6
        have HS : Hid (ns.length = vs.length ∧ vs.length ≤ 1024) := chk_six HC.out.1
        simp only [show (((6 : Nat) : Int)) = 6 from rfl] at WI G1 s0
        cases X with
        | false =>
          have HE : Hid (E = 3) := by show E = 3; rw [HP.out, if_pos rfl, if_pos rfl]; rfl
          clear G1 G2 WI CY x0 x1 x2 x3 x4 x5 y0 y1 y2 y3 y4 y5
          simp only [show (((0 : Nat) : Int)) = 0 from rfl]
          go_wp2_with fail
          refine TF.mono ?_
          rintro e w2 ⟨rfl, b2⟩
          have G4 : Hid (_ = _) := box_below G3.out b2
          have HB2 : Hid (Below w.heap.size w w2) := below_more HB1.out b2
          obtain ⟨⟨x0, x1, x2, x3, x4, x5⟩, y0, y1, y2, y3, y4, y5⟩ := row6_cells G4.out
          clear b2 s0 s1 s2 s3 s4 s5 G3 TF
          simp only []
          go_wp2_with fail
          refine bodyPost_ret (results_cell_row2 rfl _ _ _ (w.heap.size + 1 + 1) 25 zeroA (0, 0) _ rfl (set6_heap' G4.out _ _ _ _ _ _) rfl Tryz.underlying25 size_json) rfl ?_
          rw [HE.out]
          exact put_zero (by decide) HB2.out (set6_grown _ _ _ _ _ _ _ _)
        | true =>
          have HE : Hid (E = chkB y 1) := by show E = chkB y 1; rw [HP.out, if_pos rfl, if_pos rfl, if_pos rfl]
          clear x0 x1 x2 x3 x4 x5 y0 y1 y2 y3 y4 y5
          simp only [show (((0 : Nat) : Int)) = 0 from rfl]
          go_wp2_with fail
          refine TF.mono ?_
          rintro e w2 ⟨rfl, b2⟩
          have K1 := box_below G1 b2
          have K2 := box_below G2 b2
          have K3 := box_below G3.out b2
          have B2 := below_more HB1.out b2
          obtain ⟨⟨p0, p1, p2, p3, p4, p5⟩, _, _, _, _, _, _⟩ := row6_cells K1
          obtain ⟨⟨q0, q1, q2, q3, q4, q5⟩, _, _, _, _, _, _⟩ := row6_cells K2
          have W2 := WI.out HS.out.1 HS.out.2 w2 B2
          clear b2 s0 s1 s2 s3 s4 s5 G1 G2 G3 TF WI HB1
          simp only []
          go_wp2_with fail
          refine W2.mono ?_
          rintro e w3 ⟨A, rfl, hA, b3⟩
          obtain ⟨k3, d3, m3, t3, nq3, nl3, nc3, iq3, il3, ic3, rfl⟩ := jin_form hA
          have B3 := below_more B2 b3
          have nb := below_new w3 (.cells (jA k3 d3 m3 t3 nq3 nl3 nc3 iq3 il3 ic3) 25)
          have n3 := _root_.Go.heap_alloc_new w3 (.cells (jA k3 d3 m3 t3 nq3 nl3 nc3 iq3 il3 ic3) 25)
          have K4 := box_below (box_below K3 b3) nb
          have B4 := below_more B3 nb
          have hA4 := hA.bel nb
          have C4 := CY.out _ _ y B4 hA4
          obtain ⟨⟨z0, z1, z2, z3, z4, z5⟩, _, _, _, _, _, _⟩ := row6_cells n3
          have HA : Hid (Below w.heap.size w _ ∧ JIn _ Anyw _ y ∧ _ = _ ∧ _ = _) := ⟨B4, hA4, K4, n3⟩
          unfold jA at HA C4 z0 z1 z2 z3 z4 z5 ⊢
          clear B2 b3 hA K1 K2 K3 p0 p1 p2 p3 p4 p5 q0 q1 q2 q3 q4 q5 W2 B3 nb n3 K4 B4 hA4 CY
          simp only []
          go_wp2_with fail
          refine C4.mono ?_
          rintro e w5 ⟨rfl, b5⟩
          have B5 := below_more HA.out.1 b5
          have K5 := box_below HA.out.2.2.1 b5
          have n5 := box_below HA.out.2.2.2 b5
          have hA5 := HA.out.2.1.bel b5
          obtain ⟨⟨r0, r1, r2, r3, r4, r5⟩, _, _, _, _, _, _⟩ := row6_cells n5
          obtain ⟨D, hD⟩ : ∃ D, chkB y 1 = D := ⟨_, rfl⟩
          rw [hD] at HE ⊢
          clear z0 z1 z2 z3 z4 z5 C4 HA b5 n5
          by_cases hd : D = 0
          · subst hd
            have CP := copied_any (chk_few y 1 hD) _ _ _ hA5
            clear hA5 hD
            simp only [show (((0 : Nat) : Int)) = 0 from rfl]
            go_wp2_with fail
            refine CP.mono ?_
            rintro e w6 ⟨A6, rfl, hA6, b6⟩
            obtain ⟨k7, d7, m7, t7, nq7, nl7, nc7, iq7, il7, ic7, rfl⟩ := jin_form hA6
            have K6 : Hid (_ = _) := box_below K5 b6
            have HA6 : Hid (JIn w6 _ _ y ∧ Below w.heap.size w w6 ∧ _ < w5.heap.size) := ⟨hA6, below_more B5 b6, heap_lt K5⟩
            obtain ⟨⟨x0, x1, x2, x3, x4, x5⟩, y0, y1, y2, y3, y4, y5⟩ := row6_cells K6.out
            unfold jA
            clear hA6 b6 K5 B5 CP r0 r1 r2 r3 r4 r5
            simp only []
            go_wp2_with fail
            refine bodyPost_ret (results_cell_row2 rfl _ _ _ (w.heap.size + 1 + 1) 25 (jA k7 d7 m7 t7 nq7 nl7 nc7 iq7 il7 ic7) (0, 0) _ rfl (set6_heap' K6.out _ _ _ _ _ _) rfl Tryz.underlying25 size_json) rfl ?_
            rw [HE.out]
            exact put_end HA6.out.1 HA6.out.2.2 HA6.out.2.1 (set6_grown _ _ _ _ _ _ _ _)
          · have d0 : ((D : Int) != 0) = true := by simp; omega
            have HN : Hid (D ≠ 0) := hd
            have HK5 : Hid (_ = _) := K5
            have HB5 : Hid (Below w.heap.size w w5) := B5
            obtain ⟨⟨x0, x1, x2, x3, x4, x5⟩, y0, y1, y2, y3, y4, y5⟩ := row6_cells K5
            clear hA5 hd K5 B5 r0 r1 r2 r3 r4 r5 hD
            simp only []
            go_wp2_with fail
            refine bodyPost_ret (results_cell_row2 rfl _ _ _ (w.heap.size + 1 + 1) 25 zeroA (0, 0) _ rfl (set6_heap' HK5.out _ _ _ _ _ _) rfl Tryz.underlying25 size_json) rfl ?_
            rw [HE.out]
            exact put_zero HN.out HB5.out (set6_grown _ _ _ _ _ _ _ _)
      · have k6 : ((k : Int) != 6) = true := by simp; omega
        have HE : Hid (E = 8) := by show E = 8; rw [HP.out, if_pos rfl, if_neg h6]
        clear TF G1 G2 WI CY h6
        simp only [show (((0 : Nat) : Int)) = 0 from rfl]
        go_wp2_with fail
        refine bodyPost_ret (results_cell_row2 rfl _ _ _ (w.heap.size + 1 + 1) 25 zeroA (0, 0) _ rfl (set6_heap' G3.out _ _ _ _ _ _) rfl Tryz.underlying25 size_json) rfl ?_
        rw [HE.out]
        exact put_zero (by decide) HB1.out (set6_grown _ _ _ _ _ _ _ _)
    · have c0 : ((C : Int) != 0) = true := by simp; omega
      have HN : Hid (C ≠ 0) := h0
      have HE : Hid (E = C) := by show E = C; rw [HP.out, if_neg h0]
      clear TF G1 G2 WI CY h0
      simp only []
      go_wp2_with fail
      refine bodyPost_ret (results_cell_row2 rfl _ _ _ (w.heap.size + 1 + 1) 25 zeroA (0, 0) _ rfl (set6_heap' G3.out _ _ _ _ _ _) rfl Tryz.underlying25 size_json) rfl ?_
      rw [HE.out]
      exact put_zero HN.out HB1.out (set6_grown _ _ _ _ _ _ _ _)
end Go.Proofs.YtcfalgomcdmdhaaGreatDoor
namespace Go.Proofs.YtcfalgomcdmdhaaGreatDoor
open Go.RowKit Go.WideShapes Go.Joins

theorem idx_is {l : List ByteArray} {x : ByteArray} {k : Nat} (hk : k < l.length) (h : l.getD k ByteArray.empty = x) (hne : ∀ j, j < k → l.getD j ByteArray.empty ≠ x) : Lib.idxOfS l x = (k : Int) := by
  have := Lib.idxOfS_hit l l.length k x hk (Nat.le_refl _) h hne
  rwa [List.take_length] at this
theorem getB_eq {b : Bool} {m : Int} {t : ByteArray} {ns : List ByteArray} {vs : List JB} (he : ns.length = vs.length) (name : ByteArray) :
    getB (.mk 6 b m t ns vs) name = if 0 ≤ Lib.idxOfS ns name then vs[(Lib.idxOfS ns name).toNat]? else none := by
  have e : getI ns vs.length name = Lib.idxOfS ns name := by unfold getI; rw [← he, Nat.min_self, List.take_length]
  by_cases h : 0 ≤ Lib.idxOfS ns name
  · rw [if_pos h]
    unfold getB
    rw [if_pos ⟨rfl, by show 0 ≤ getI ns vs.length name; rw [e]; exact h⟩]
    show vs[(getI ns vs.length name).toNat]? = _
    rw [e]
  · rw [if_neg h]
    exact get_none (.inr (by rw [e]; exact h))
theorem getD_app {l m : List ByteArray} {j : Nat} (h : j < l.length) : (l ++ m).getD j ByteArray.empty = l.getD j ByteArray.empty := by
  rw [List.getD_eq_getElem?_getD, List.getD_eq_getElem?_getD, List.getElem?_append_left h]
theorem idx_not {l : List ByteArray} {x : ByteArray} (h : ¬ 0 ≤ Lib.idxOfS l x) : ∀ j, j < l.length → l.getD j ByteArray.empty ≠ x := by
  intro j hj e
  refine h ((Lib.idxOfS_nonneg_iff l x).2 ?_)
  rw [List.getD_eq_getElem?_getD, List.getElem?_eq_getElem hj] at e
  rw [← e]
  exact List.getElem_mem hj
theorem idx_app {l : List ByteArray} {x y : ByteArray} (h : 0 ≤ Lib.idxOfS l x) : Lib.idxOfS (l ++ [y]) x = Lib.idxOfS l x := by
  obtain ⟨k, hk, e, hx, hn⟩ := idx_at h
  rw [e]
  exact idx_is (by rw [List.length_append]; omega) (by rw [getD_app hk]; exact hx) (fun j hj => by rw [getD_app (by omega)]; exact hn j hj)
theorem idx_new {l : List ByteArray} {x : ByteArray} (h : ¬ 0 ≤ Lib.idxOfS l x) : Lib.idxOfS (l ++ [x]) x = (l.length : Int) :=
  idx_is (by simp) (by rw [List.getD_eq_getElem?_getD, List.getElem?_append_right (Nat.le_refl _)]; simp) (fun j hj => by rw [getD_app hj]; exact idx_not h j hj)
theorem get_with_same {ns : List ByteArray} {vs : List JB} {name : ByteArray} {x : JB} (he : ns.length = vs.length) : getB (withB ns vs name x) name = some x := by
  unfold withB
  by_cases h : 0 ≤ Lib.idxOfS ns name
  · rw [if_pos h, getB_eq (by rw [List.length_set]; exact he), if_pos h]
    obtain ⟨k, hk, e, _⟩ := idx_at h
    rw [e, Int.toNat_natCast, List.getElem?_set_self (by omega)]
  · rw [if_neg h, getB_eq (by simp [he]), idx_new h, if_pos (by omega), Int.toNat_natCast, he, List.getElem?_append_right (Nat.le_refl _)]
    simp
theorem get_with_other {b : Bool} {m : Int} {t : ByteArray} {ns : List ByteArray} {vs : List JB} {name other : ByteArray} {x : JB} (he : ns.length = vs.length) (hne : other ≠ name) : getB (withB ns vs name x) other = getB (.mk 6 b m t ns vs) other := by
  rw [getB_eq he]
  unfold withB
  by_cases h : 0 ≤ Lib.idxOfS ns name
  · rw [if_pos h, getB_eq (by rw [List.length_set]; exact he)]
    by_cases h2 : 0 ≤ Lib.idxOfS ns other
    · rw [if_pos h2, if_pos h2]
      obtain ⟨k, hk, e, hx, _⟩ := idx_at h
      obtain ⟨k2, hk2, e2, hx2, _⟩ := idx_at h2
      rw [e, e2, Int.toNat_natCast, Int.toNat_natCast, List.getElem?_set_ne]
      intro e3
      subst e3
      exact hne (hx2.symm.trans hx)
    · rw [if_neg h2, if_neg h2]
  · rw [if_neg h, getB_eq (by simp [he])]
    by_cases h2 : 0 ≤ Lib.idxOfS ns other
    · obtain ⟨k2, hk2, e2, _⟩ := idx_at h2
      rw [idx_app h2, if_pos h2, if_pos h2, e2, Int.toNat_natCast, List.getElem?_append_left (by omega)]
    · have h3 : ¬ 0 ≤ Lib.idxOfS (ns ++ [name]) other := by
        rw [Lib.idxOfS_nonneg_iff] at h2 ⊢
        intro hm
        rcases List.mem_append.1 hm with hm | hm
        · exact h2 hm
        · exact hne (List.mem_singleton.1 hm)
      rw [if_neg h2, if_neg h3]
theorem with_len {b : Bool} {m : Int} {t : ByteArray} {ns : List ByteArray} {vs : List JB} {name : ByteArray} {x : JB} (he : ns.length = vs.length) : (withB ns vs name x).items.length = if (getB (.mk 6 b m t ns vs) name).isSome = true then vs.length else vs.length + 1 := by
  rw [getB_eq he]
  unfold withB
  by_cases h : 0 ≤ Lib.idxOfS ns name
  · obtain ⟨k, hk, e, _⟩ := idx_at h
    rw [if_pos h, if_pos h, e, Int.toNat_natCast, List.getElem?_eq_getElem (by omega)]
    simp [JB.items]
  · rw [if_neg h, if_neg h]
    simp [JB.items]
end Go.Proofs.YtcfalgomcdmdhaaGreatDoor
namespace Go.Proofs.YtcfalgomcdmdhaaGreatDoor
open Go.RowKit Go.WideShapes Go.Joins

theorem puts_math (v x : JB) (name : ByteArray) (h : putK v.kind v name (withB v.names v.items name x) = 0) :
    Few v ∧ Few (withB v.names v.items name x) ∧ chkB (withB v.names v.items name x) 1 = 0 ∧ getB (withB v.names v.items name x) name = some x ∧
    (∀ other, other ≠ name → getB (withB v.names v.items name x) other = getB v other) ∧
    ((withB v.names v.items name x).items.length = if (getB v name).isSome = true then v.items.length else v.items.length + 1) ∧ v.items.length ≤ 1024 := by
  unfold putK at h
  split at h
  · rename_i hc
    split at h
    · rename_i hk
      split at h
      · cases v with
        | mk k b m t ns vs =>
          simp only [JB.kind] at hk
          subst hk
          have h6 := chk_six hc
          exact ⟨chk_few _ _ hc, chk_few _ _ h, h, get_with_same h6.1, fun other ho => get_with_other h6.1 ho, with_len h6.1, h6.2⟩
      · cases h
    · cases h
  · rename_i hn
    exact absurd h hn
theorem jin_len {w : World} {Z : Nat → Prop} {A : Array Value} {x : JB} (h : JIn w Z A x) : ∃ k bb n t nq nl nc iq ic, A = jA k bb n t nq nl nc iq x.items.length ic := by
  cases h
  exact ⟨_, _, _, _, _, _, _, _, _, rfl⟩
/-- two boxes behind a world: they stay -/
theorem boxed2 {W : World} {A B : Array Value} {v x : JB} (hv : JIn W Anyw A v) (hx : JIn W Anyw B x) : ∀ w', Below ((W.alloc (.cells A 25)).alloc (.cells B 25)).heap.size ((W.alloc (.cells A 25)).alloc (.cells B 25)) w' →
    w'.heap[W.heap.size]? = some (.cells A 25 (0, 0)) ∧ w'.heap[W.heap.size + 1]? = some (.cells B 25 (0, 0)) ∧ Below W.heap.size W w' ∧ JIn w' Anyw A v ∧ JIn w' Anyw B x := by
  intro w' hb
  have B1 := below_new W (.cells A 25)
  have n1 := _root_.Go.heap_alloc_new W (.cells A 25)
  have B2 := below_new (W.alloc (.cells A 25)) (.cells B 25)
  have n2 := _root_.Go.heap_alloc_new (W.alloc (.cells A 25)) (.cells B 25)
  rw [World.size_alloc] at n2
  exact ⟨box_below (box_below n1 B2) hb, box_below n2 hb, below_more (below_more B1 B2) hb, ((hv.bel B1).bel B2).bel hb, ((hx.bel B1).bel B2).bel hb⟩
set_option maxHeartbeats 8000000 in
set_option maxRecDepth 8000 in
theorem puts_walk (A : Array Value) (v : JB) (name other : ByteArray) (B : Array Value) (x : JB) (W : World) (hL : 8 ≤ W.heap.size ∧ Laid W) (hv : JIn W Anyw A v) (_ : name.size ≤ maxLen) (_ : other.size ≤ maxLen) (hx : JIn W Anyw B x) :
    Calls Tryz.prog 3 #[.agg A, .string name, .string other, .agg B] W fun e W' => e = .returned (.bool true) ∧ Below W.heap.size W W' := by
  obtain ⟨k0, b0, m0, t0, p1, e1, d1, p2, d2, rfl⟩ := jin_len hv
  obtain ⟨k1, b1, m1, t1, p3, e3, d3, p4, d4, rfl⟩ := jin_len hx
  have pm := puts_math v x name
  obtain ⟨VL, hVL⟩ : ∃ n, v.items.length = n := ⟨_, rfl⟩
  obtain ⟨XL, hXL⟩ : ∃ n, x.items.length = n := ⟨_, rfl⟩
  have PT0 := fun w' h8 hl a b => Put_any (jA k0 b0 m0 t0 p1 e1 d1 p2 v.items.length d2) v Anyw name (jA k1 b1 m1 t1 p3 e3 d3 p4 x.items.length d4) x Anyw w' h8 hl a b
  obtain ⟨y, hy⟩ : ∃ y, withB v.names v.items name x = y := ⟨_, rfl⟩
  rw [hy] at pm PT0
  obtain ⟨E, hE⟩ : ∃ E, putK v.kind v name y = E := ⟨_, rfl⟩
  rw [hE] at pm PT0
  rw [hVL, hXL] at PT0
  rw [hVL] at hv pm
  rw [hXL] at hx
  rw [hVL, hXL]
  have HX := boxed2 hv hx
  have n0 := HX _ (Below.refl _ _)
  have h8 : ∀ w', Below W.heap.size W w' → 8 ≤ w'.heap.size ∧ Laid w' := fun w' hb => ⟨Nat.le_trans hL.1 hb.size, hL.2.below hb hL.1⟩
  have H8 : Hid (∀ w', Below W.heap.size W w' → 8 ≤ w'.heap.size ∧ Laid w') := h8
  have PM : Hid (E = 0 → Few v ∧ Few y ∧ chkB y 1 = 0 ∧ getB y name = some x ∧ (∀ other, other ≠ name → getB y other = getB v other) ∧ (y.items.length = if (getB v name).isSome = true then VL else VL + 1) ∧ VL ≤ 1024) := pm
  have AL := alive_any _ (h8 _ n0.2.2.1).1 (h8 _ n0.2.2.1).2
  have GV : Hid (∀ w', Below ((W.alloc (.cells (jA k0 b0 m0 t0 p1 e1 d1 p2 VL d2) 25)).alloc (.cells (jA k1 b1 m1 t1 p3 e3 d3 p4 XL d4) 25)).heap.size ((W.alloc (.cells (jA k0 b0 m0 t0 p1 e1 d1 p2 VL d2) 25)).alloc (.cells (jA k1 b1 m1 t1 p3 e3 d3 p4 XL d4) 25)) w' → Calls Tryz.prog 5 #[.agg (jA k0 b0 m0 t0 p1 e1 d1 p2 VL d2)] w' fun e w'' => (∃ g : Bool, e = .returned (.bool g)) ∧ Below w'.heap.size w' w'') := fun w' hb => great_any _ v Anyw w' (HX w' hb).2.2.2.1
  have GX : Hid (∀ w', Below ((W.alloc (.cells (jA k0 b0 m0 t0 p1 e1 d1 p2 VL d2) 25)).alloc (.cells (jA k1 b1 m1 t1 p3 e3 d3 p4 XL d4) 25)).heap.size ((W.alloc (.cells (jA k0 b0 m0 t0 p1 e1 d1 p2 VL d2) 25)).alloc (.cells (jA k1 b1 m1 t1 p3 e3 d3 p4 XL d4) 25)) w' → Calls Tryz.prog 5 #[.agg (jA k1 b1 m1 t1 p3 e3 d3 p4 XL d4)] w' fun e w'' => (∃ g : Bool, e = .returned (.bool g)) ∧ Below w'.heap.size w' w'') := fun w' hb => great_any _ x Anyw w' (HX w' hb).2.2.2.2
  have PT : Hid (∀ w', Below ((W.alloc (.cells (jA k0 b0 m0 t0 p1 e1 d1 p2 VL d2) 25)).alloc (.cells (jA k1 b1 m1 t1 p3 e3 d3 p4 XL d4) 25)).heap.size ((W.alloc (.cells (jA k0 b0 m0 t0 p1 e1 d1 p2 VL d2) 25)).alloc (.cells (jA k1 b1 m1 t1 p3 e3 d3 p4 XL d4) 25)) w' → Calls Tryz.prog 6 #[.agg (jA k0 b0 m0 t0 p1 e1 d1 p2 VL d2), .string name, .agg (jA k1 b1 m1 t1 p3 e3 d3 p4 XL d4)] w' fun e w'' => PutR E y w' e w'') := fun w' hb => PT0 w' (h8 w' (HX w' hb).2.2.1).1 (h8 w' (HX w' hb).2.2.1).2 (HX w' hb).2.2.2.1 (HX w' hb).2.2.2.2
  have GT : Hid (Few v → ∀ nm w', Below ((W.alloc (.cells (jA k0 b0 m0 t0 p1 e1 d1 p2 VL d2) 25)).alloc (.cells (jA k1 b1 m1 t1 p3 e3 d3 p4 XL d4) 25)).heap.size ((W.alloc (.cells (jA k0 b0 m0 t0 p1 e1 d1 p2 VL d2) 25)).alloc (.cells (jA k1 b1 m1 t1 p3 e3 d3 p4 XL d4) 25)) w' → Calls Tryz.prog 8 #[.agg (jA k0 b0 m0 t0 p1 e1 d1 p2 VL d2), .string nm] w' fun e w'' => GetP (getB v nm) w' e w'') := fun hf nm w' hb => Get_any hf _ Anyw nm w' (HX w' hb).2.2.2.1
  have HXH : Hid (∀ w', Below ((W.alloc (.cells (jA k0 b0 m0 t0 p1 e1 d1 p2 VL d2) 25)).alloc (.cells (jA k1 b1 m1 t1 p3 e3 d3 p4 XL d4) 25)).heap.size ((W.alloc (.cells (jA k0 b0 m0 t0 p1 e1 d1 p2 VL d2) 25)).alloc (.cells (jA k1 b1 m1 t1 p3 e3 d3 p4 XL d4) 25)) w' → w'.heap[W.heap.size]? = some (.cells (jA k0 b0 m0 t0 p1 e1 d1 p2 VL d2) 25 (0, 0)) ∧ w'.heap[W.heap.size + 1]? = some (.cells (jA k1 b1 m1 t1 p3 e3 d3 p4 XL d4) 25 (0, 0)) ∧ Below W.heap.size W w' ∧ JIn w' Anyw (jA k0 b0 m0 t0 p1 e1 d1 p2 VL d2) v ∧ JIn w' Anyw (jA k1 b1 m1 t1 p3 e3 d3 p4 XL d4) x) := HX
  have HU0 : Hid (Below W.heap.size W ((W.alloc (.cells (jA k0 b0 m0 t0 p1 e1 d1 p2 VL d2) 25)).alloc (.cells (jA k1 b1 m1 t1 p3 e3 d3 p4 XL d4) 25))) := n0.2.2.1
  clear hL hv hx HX h8 n0 pm PT0 hE hy hVL hXL
  unfold jA at *
  go_enter Tryz.func3, Tryz.ntmps3
  go_wp2_with fail
  refine AL.mono ?_
  rintro e w1 ⟨rfl, hb1⟩
  clear AL
  have G1 := HXH.out w1 hb1
  obtain ⟨⟨r0, r1, r2, r3, r4, r5⟩, _, _, _, _, _, _⟩ := row6_cells G1.1
  have GV1 := GV.out w1 hb1
  clear G1 GV
  simp only []
  go_wp2_with fail
  refine GV1.mono ?_
  rintro e w2 ⟨⟨g, rfl⟩, hb2⟩
  have hb12 := below_more hb1 hb2
  have G2 := HXH.out w2 hb12
  have BW2 : Hid (Below W.heap.size W w2) := G2.2.2.1
  clear r0 r1 r2 r3 r4 r5 GV1 hb1 hb2
  simp only []
  cases g with
  | true =>
    clear G2
    go_wp2
    go_ret
    exact ⟨rfl, BW2.out⟩
  | false =>
  obtain ⟨⟨s0, s1, s2, s3, s4, s5⟩, _, _, _, _, _, _⟩ := row6_cells G2.2.1
  have GX2 := GX.out w2 hb12
  clear G2 GX
  go_wp2_with fail
  refine GX2.mono ?_
  rintro e w3 ⟨⟨g, rfl⟩, hb3⟩
  have hb13 := below_more hb12 hb3
  have G3 := HXH.out w3 hb13
  have BW3 : Hid (Below W.heap.size W w3) := G3.2.2.1
  clear s0 s1 s2 s3 s4 s5 GX2 hb12 hb3 BW2
  simp only []
  cases g with
  | true =>
    clear G3
    go_wp2
    go_ret
    exact ⟨rfl, BW3.out⟩
  | false =>
  by_cases hn : 18000 < name.size
  · have q1 : (18000 : Int) < (name.size : Int) := by omega
    clear hn G3
    go_wp2_with fail
    go_ret
    exact ⟨rfl, BW3.out⟩
  have q1 : ¬ (18000 : Int) < (name.size : Int) := by omega
  clear hn
  by_cases hn : 18000 < other.size
  · have q2 : (18000 : Int) < (other.size : Int) := by omega
    clear hn G3
    go_wp2_with fail
    go_ret
    exact ⟨rfl, BW3.out⟩
  have q2 : ¬ (18000 : Int) < (other.size : Int) := by omega
  clear hn
  obtain ⟨⟨r0, r1, r2, r3, r4, r5⟩, _, _, _, _, _, _⟩ := row6_cells G3.1
  obtain ⟨⟨s0, s1, s2, s3, s4, s5⟩, _, _, _, _, _, _⟩ := row6_cells G3.2.1
  have PT3 := PT.out w3 hb13
  clear G3 PT
  go_wp2_with fail
  refine PT3.mono ?_
  rintro e w4 ⟨A4, rfl, hJ4, hb4⟩
  have hb14 := below_more hb13 hb4
  clear r0 r1 r2 r3 r4 r5 s0 s1 s2 s3 s4 s5 PT3 hb13 hb4 BW3 q1 q2
  by_cases h0 : ¬ E = 0
  · rw [if_neg h0] at hJ4
    obtain ⟨k, b, m, t, q1, l1, c1, q2, l2, c2, rfl⟩ := jin_form hJ4
    have eI : ((E : Int) != 0) = true := by simpa using fun e : (E : Int) = 0 => h0 (by omega)
    have BW4 := (HXH.out w4 hb14).2.2.1
    have HY := boxed BW4 hJ4.any
    obtain ⟨G6, BWY, JY⟩ := HY _ (Below.refl _ _)
    have SZ := Same_one zeroB _ zeroA Anyw Anyw _ JY (jin_zero _ _)
    obtain ⟨⟨z0, z1, z2, z3, z4, z5⟩, _, _, _, _, _, _⟩ := row6_cells G6
    unfold jA zeroA at SZ
    unfold jA at z0 z1 z2 z3 z4 z5 BWY ⊢
    clear G6 JY HY hJ4 hb14 BW4 h0
    simp only []
    go_wp2_with fail
    refine SZ.mono ?_
    rintro e w7 ⟨rfl, hb7⟩
    have BWF := below_more BWY hb7
    clear SZ hb7 BWY z0 z1 z2 z3 z4 z5
    simp only []
    go_wp2
    go_ret
    exact ⟨rfl, BWF⟩
  obtain rfl : E = 0 := Classical.not_not.1 h0
  clear h0
  rw [if_pos rfl] at hJ4
  obtain ⟨k, b, m, t, q1, l1, c1, q2, c2, rfl⟩ := jin_len hJ4
  obtain ⟨hfv, hfy, hcy, hgy, hgo, hly, hvl⟩ := PM.out rfl
  obtain ⟨YL, hYL⟩ : ∃ n, y.items.length = n := ⟨_, rfl⟩
  rw [hYL] at hJ4 hly
  rw [hYL]
  have HPX := boxed hb14 hJ4.any
  obtain ⟨G5, BU5, JY5⟩ := HPX _ (Below.refl _ _)
  have HP : Hid (∀ w', Below (w4.alloc (.cells (jA k b m t q1 l1 c1 q2 YL c2) 25)).heap.size (w4.alloc (.cells (jA k b m t q1 l1 c1 q2 YL c2) 25)) w' → w'.heap[w4.heap.size]? = some (.cells (jA k b m t q1 l1 c1 q2 YL c2) 25 (0, 0)) ∧ Below ((W.alloc (.cells (jA k0 b0 m0 t0 p1 e1 d1 p2 VL d2) 25)).alloc (.cells (jA k1 b1 m1 t1 p3 e3 d3 p4 XL d4) 25)).heap.size ((W.alloc (.cells (jA k0 b0 m0 t0 p1 e1 d1 p2 VL d2) 25)).alloc (.cells (jA k1 b1 m1 t1 p3 e3 d3 p4 XL d4) 25)) w' ∧ JIn w' Anyw (jA k b m t q1 l1 c1 q2 YL c2) y) := HPX
  have HM : Hid (getB y name = some x ∧ (other ≠ name → getB y other = getB v other) ∧ (YL = if (getB v name).isSome = true then VL else VL + 1) ∧ VL ≤ 1024 ∧ chkB y 1 = 0) := ⟨hgy, hgo other, hly, hvl, hcy⟩
  have GT2 : Hid (∀ nm w', Below ((W.alloc (.cells (jA k0 b0 m0 t0 p1 e1 d1 p2 VL d2) 25)).alloc (.cells (jA k1 b1 m1 t1 p3 e3 d3 p4 XL d4) 25)).heap.size ((W.alloc (.cells (jA k0 b0 m0 t0 p1 e1 d1 p2 VL d2) 25)).alloc (.cells (jA k1 b1 m1 t1 p3 e3 d3 p4 XL d4) 25)) w' → Calls Tryz.prog 8 #[.agg (jA k0 b0 m0 t0 p1 e1 d1 p2 VL d2), .string nm] w' fun e w'' => GetP (getB v nm) w' e w'') := GT.out hfv
  have GY : Hid (∀ nm w', Below (w4.alloc (.cells (jA k b m t q1 l1 c1 q2 YL c2) 25)).heap.size (w4.alloc (.cells (jA k b m t q1 l1 c1 q2 YL c2) 25)) w' → Calls Tryz.prog 8 #[.agg (jA k b m t q1 l1 c1 q2 YL c2), .string nm] w' fun e w'' => GetP (getB y nm) w' e w'') := fun nm w' hb => Get_any hfy _ Anyw nm w' (HPX w' hb).2.2
  have CY : Hid (∀ w', Below (w4.alloc (.cells (jA k b m t q1 l1 c1 q2 YL c2) 25)).heap.size (w4.alloc (.cells (jA k b m t q1 l1 c1 q2 YL c2) 25)) w' → Calls Tryz.prog 9 #[.agg (jA k b m t q1 l1 c1 q2 YL c2)] w' fun e w'' => e = .returned (.int .i64 0) ∧ Below w'.heap.size w' w'') := fun w' hb => by
    have hU := (HPX w' hb).2.1
    have hw := (HXH.out w' hU).2.2.1
    exact Check_ok _ y w' (H8.out w' hw).1 (H8.out w' hw).2 (HPX w' hb).2.2 hcy
  have GP := GY.out name _ (Below.refl _ _)
  rw [hgy] at GP
  obtain ⟨⟨z0, z1, z2, z3, z4, z5⟩, _, _, _, _, _, _⟩ := row6_cells G5
  unfold jA at z0 z1 z2 z3 z4 z5 GP HP GY CY ⊢
  clear G5 JY5 HPX hJ4 hb14 hfv hfy hcy hgy hgo hly hvl hYL GT PM
  simp only [show (((0 : Nat) : Int)) = 0 from rfl]
  go_wp2_with fail
  refine GP.mono ?_
  rintro e w6 ⟨A6, rfl, hJ6, hb6⟩
  obtain ⟨k6, b6, m6, t6, q6, l6, c6, r6, i6, j6, rfl⟩ := jin_form hJ6
  have hb56 : Below (w4.alloc (.cells (jA k b m t q1 l1 c1 q2 YL c2) 25)).heap.size (w4.alloc (.cells (jA k b m t q1 l1 c1 q2 YL c2) 25)) w6 := hb6
  have HG0 := boxed hb56 hJ6.any
  obtain ⟨G7, B57, J7⟩ := HG0 _ (Below.refl _ _)
  have HG : Hid (∀ w', Below (w6.alloc (.cells (jA k6 b6 m6 t6 q6 l6 c6 r6 i6 j6) 25)).heap.size (w6.alloc (.cells (jA k6 b6 m6 t6 q6 l6 c6 r6 i6 j6) 25)) w' → w'.heap[w6.heap.size]? = some (.cells (jA k6 b6 m6 t6 q6 l6 c6 r6 i6 j6) 25 (0, 0)) ∧ Below (w4.alloc (.cells (jA k b m t q1 l1 c1 q2 YL c2) 25)).heap.size (w4.alloc (.cells (jA k b m t q1 l1 c1 q2 YL c2) 25)) w' ∧ JIn w' Anyw (jA k6 b6 m6 t6 q6 l6 c6 r6 i6 j6) x) := HG0
  have BU7 := (HP.out _ B57).2.1
  have X7 := HXH.out _ BU7
  obtain ⟨⟨r0, r1, r2, r3, r4, r5⟩, _, _, _, _, _, _⟩ := row6_cells X7.1
  have GA := GT2.out other _ BU7
  unfold jA at r0 r1 r2 r3 r4 r5 GA HG B57 BU7 ⊢
  clear G7 J7 HG0 hJ6 hb6 hb56 z0 z1 z2 z3 z4 z5 GP X7
  simp only [Option.isSome_some]
  go_wp2_with fail
  refine GA.mono ?_
  rintro e w8 ⟨A8, rfl, hJ8, hb8⟩
  obtain ⟨k8, b8, m8, t8, q8, l8, c8, r8, i8, j8, rfl⟩ := jin_form hJ8
  obtain ⟨O, hO⟩ : ∃ O, getB v other = O := ⟨_, rfl⟩
  rw [hO] at HM hJ8
  rw [hO]
  have HA0 := boxed hb8 hJ8.any
  obtain ⟨G9, B79, J9⟩ := HA0 _ (Below.refl _ _)
  have HA : Hid (∀ w', Below (w8.alloc (.cells (jA k8 b8 m8 t8 q8 l8 c8 r8 i8 j8) 25)).heap.size (w8.alloc (.cells (jA k8 b8 m8 t8 q8 l8 c8 r8 i8 j8) 25)) w' → w'.heap[w8.heap.size]? = some (.cells (jA k8 b8 m8 t8 q8 l8 c8 r8 i8 j8) 25 (0, 0)) ∧ Below (w6.alloc (.cells (jA k6 b6 m6 t6 q6 l6 c6 r6 i6 j6) 25)).heap.size (w6.alloc (.cells (jA k6 b6 m6 t6 q6 l6 c6 r6 i6 j6) 25)) w' ∧ JIn w' Anyw (jA k8 b8 m8 t8 q8 l8 c8 r8 i8 j8) (O.getD zeroB)) := HA0
  have B59 := (HG.out _ B79).2.1
  have GB := GY.out other _ B59
  have X9 := HP.out _ B59
  obtain ⟨⟨z0, z1, z2, z3, z4, z5⟩, _, _, _, _, _, _⟩ := row6_cells X9.1
  unfold jA at z0 z1 z2 z3 z4 z5 GB HA B79 B59 ⊢
  clear G9 J9 HA0 hJ8 hb8 r0 r1 r2 r3 r4 r5 GA X9 hO GY B57 BU7
  simp only []
  go_wp2_with fail
  refine GB.mono ?_
  rintro e w10 ⟨A10, rfl, hJ10, hb10⟩
  obtain ⟨k10, b10, m10, t10, q10, l10, c10, r10, i10, j10, rfl⟩ := jin_form hJ10
  obtain ⟨Q, hQ⟩ : ∃ Q, getB y other = Q := ⟨_, rfl⟩
  rw [hQ] at HM hJ10
  rw [hQ]
  have HB0 := boxed hb10 hJ10.any
  obtain ⟨G11, B911, J11⟩ := HB0 _ (Below.refl _ _)
  have HB : Hid (∀ w', Below (w10.alloc (.cells (jA k10 b10 m10 t10 q10 l10 c10 r10 i10 j10) 25)).heap.size (w10.alloc (.cells (jA k10 b10 m10 t10 q10 l10 c10 r10 i10 j10) 25)) w' → w'.heap[w10.heap.size]? = some (.cells (jA k10 b10 m10 t10 q10 l10 c10 r10 i10 j10) 25 (0, 0)) ∧ Below (w8.alloc (.cells (jA k8 b8 m8 t8 q8 l8 c8 r8 i8 j8) 25)).heap.size (w8.alloc (.cells (jA k8 b8 m8 t8 q8 l8 c8 r8 i8 j8) 25)) w' ∧ JIn w' Anyw (jA k10 b10 m10 t10 q10 l10 c10 r10 i10 j10) (Q.getD zeroB)) := HB0
  have B711 := (HA.out _ B911).2.1
  have B511 := (HG.out _ B711).2.1
  have BU11 := (HP.out _ B511).2.1
  have X11 := HXH.out _ BU11
  obtain ⟨⟨r0, r1, r2, r3, r4, r5⟩, _, _, _, _, _, _⟩ := row6_cells X11.1
  have GN := GT2.out name _ BU11
  obtain ⟨hv0, hv1⟩ : (0 : Int) ≤ (VL : Int) ∧ (VL : Int) ≤ 1024 := by have := HM.out.2.2.2.1; omega
  unfold jA at r0 r1 r2 r3 r4 r5 GN HB ⊢
  clear G11 B911 J11 HB0 B711 B511 BU11 X11 hJ10 hb10 z0 z1 z2 z3 z4 z5 GB hQ GT2 B79 B59
  simp only []
  go_wp2_with fail
  refine GN.mono ?_
  rintro e w12 ⟨A12, rfl, hJ12, hb12⟩
  obtain ⟨k12, b12, m12, t12, q12, l12, c12, r12, i12, j12, rfl⟩ := jin_form hJ12
  obtain ⟨N, hN⟩ : ∃ N, getB v name = N := ⟨_, rfl⟩
  rw [hN] at HM
  rw [hN]
  have BB13 := below_more hb12 (below_new w12 (.cells (jA k12 b12 m12 t12 q12 l12 c12 r12 i12 j12) 25))
  have X11 := HB.out _ BB13
  have X9 := HA.out _ X11.2.1
  have X7 := HG.out _ X9.2.1
  have X5 := HP.out _ X7.2.1
  have XU := HXH.out _ X5.2.1
  have SM := Same_one x _ _ Anyw Anyw _ X7.2.2 XU.2.2.2.2
  obtain ⟨⟨z0, z1, z2, z3, z4, z5⟩, _, _, _, _, _, _⟩ := row6_cells X7.1
  obtain ⟨⟨s0, s1, s2, s3, s4, s5⟩, _, _, _, _, _, _⟩ := row6_cells XU.2.1
  unfold jA at z0 z1 z2 z3 z4 z5 s0 s1 s2 s3 s4 s5 SM BB13 ⊢
  clear X11 X9 X7 X5 XU hJ12 hb12 r0 r1 r2 r3 r4 r5 GN hN
  simp only []
  have key : ∀ NI : Int, ((YL : Int) == NI) = true → True := fun _ _ => trivial
  cases N with
  | some nn =>
    have hyv : YL = VL := by have := HM.out.2.2.1; simpa using this
    have e1 : ((YL : Int) == (VL : Int)) = true := by simp; omega
    clear hyv key
    simp only [Option.isSome_some]
    go_wp2_with fail
    refine SM.mono ?_
    rintro e w14 ⟨rfl, hb14⟩
    have BB14 := below_more BB13 hb14
    have X11 := HB.out _ BB14
    have X9 := HA.out _ X11.2.1
    have X7 := HG.out _ X9.2.1
    have X5 := HP.out _ X7.2.1
    have CK := CY.out _ X7.2.1
    obtain ⟨⟨r0, r1, r2, r3, r4, r5⟩, _, _, _, _, _, _⟩ := row6_cells X5.1
    have BW14 : Hid (Below W.heap.size W w14) := (HXH.out _ X5.2.1).2.2.1
    have HB14 : Hid (Below (w10.alloc (.cells (jA k10 b10 m10 t10 q10 l10 c10 r10 i10 j10) 25)).heap.size (w10.alloc (.cells (jA k10 b10 m10 t10 q10 l10 c10 r10 i10 j10) 25)) w14) := BB14
    clear hb14 BB13 BB14 SM z0 z1 z2 z3 z4 z5 s0 s1 s2 s3 s4 s5
    simp only []
    by_cases ho : other = name
    · subst ho
      clear X11 X9 X7 X5
      go_wp2_with fail
      refine CK.mono ?_
      rintro e w15 ⟨rfl, hb15⟩
      have BWF : Hid (Below W.heap.size W w15) := below_more BW14.out hb15
      clear CK hb15 r0 r1 r2 r3 r4 r5
      simp only []
      go_wp2
      go_ret
      exact ⟨rfl, BWF.out⟩
    · obtain rfl : Q = O := HM.out.2.1 ho
      have ho2 : (other.toList == name.toList) = false := (Lib.bytes_beq_false_iff other name).2 ho
      have SM2 := Same_one (Q.getD zeroB) _ _ Anyw Anyw _ X9.2.2 X11.2.2
      obtain ⟨⟨z0, z1, z2, z3, z4, z5⟩, _, _, _, _, _, _⟩ := row6_cells X9.1
      obtain ⟨⟨s0, s1, s2, s3, s4, s5⟩, _, _, _, _, _, _⟩ := row6_cells X11.1
      clear X11 X9 X7 X5 CK ho
      go_wp2_with fail
      refine SM2.mono ?_
      rintro e w15 ⟨rfl, hb15⟩
      have BB15 := below_more HB14.out hb15
      have X11 := HB.out _ BB15
      have X9 := HA.out _ X11.2.1
      have X7 := HG.out _ X9.2.1
      have X5 := HP.out _ X7.2.1
      have CK := CY.out _ X7.2.1
      have BW15 : Hid (Below W.heap.size W w15) := (HXH.out _ X5.2.1).2.2.1
      clear r0 r1 r2 r3 r4 r5 z0 z1 z2 z3 z4 z5 s0 s1 s2 s3 s4 s5 SM2 hb15
      obtain ⟨⟨r0, r1, r2, r3, r4, r5⟩, _, _, _, _, _, _⟩ := row6_cells X5.1
      clear X11 X9 X7 X5 BB15
      simp only []
      go_wp2_with fail
      refine CK.mono ?_
      rintro e w16 ⟨rfl, hb16⟩
      have BWF : Hid (Below W.heap.size W w16) := below_more BW15.out hb16
      clear CK hb16 r0 r1 r2 r3 r4 r5
      simp only []
      go_wp2
      go_ret
      exact ⟨rfl, BWF.out⟩
  | none =>
    have hyv : YL = VL + 1 := by have := HM.out.2.2.1; simpa using this
    have e1 : ((YL : Int) == (VL : Int) + 1) = true := by simp; omega
    clear hyv key
    simp only [Option.isSome_none]
    go_wp2_with fail
    refine SM.mono ?_
    rintro e w14 ⟨rfl, hb14⟩
    have BB14 := below_more BB13 hb14
    have X11 := HB.out _ BB14
    have X9 := HA.out _ X11.2.1
    have X7 := HG.out _ X9.2.1
    have X5 := HP.out _ X7.2.1
    have CK := CY.out _ X7.2.1
    obtain ⟨⟨r0, r1, r2, r3, r4, r5⟩, _, _, _, _, _, _⟩ := row6_cells X5.1
    have BW14 : Hid (Below W.heap.size W w14) := (HXH.out _ X5.2.1).2.2.1
    have HB14 : Hid (Below (w10.alloc (.cells (jA k10 b10 m10 t10 q10 l10 c10 r10 i10 j10) 25)).heap.size (w10.alloc (.cells (jA k10 b10 m10 t10 q10 l10 c10 r10 i10 j10) 25)) w14) := BB14
    clear hb14 BB13 BB14 SM z0 z1 z2 z3 z4 z5 s0 s1 s2 s3 s4 s5
    simp only []
    by_cases ho : other = name
    · subst ho
      clear X11 X9 X7 X5
      go_wp2_with fail
      refine CK.mono ?_
      rintro e w15 ⟨rfl, hb15⟩
      have BWF : Hid (Below W.heap.size W w15) := below_more BW14.out hb15
      clear CK hb15 r0 r1 r2 r3 r4 r5
      simp only []
      go_wp2
      go_ret
      exact ⟨rfl, BWF.out⟩
    · obtain rfl : Q = O := HM.out.2.1 ho
      have ho2 : (other.toList == name.toList) = false := (Lib.bytes_beq_false_iff other name).2 ho
      have SM2 := Same_one (Q.getD zeroB) _ _ Anyw Anyw _ X9.2.2 X11.2.2
      obtain ⟨⟨z0, z1, z2, z3, z4, z5⟩, _, _, _, _, _, _⟩ := row6_cells X9.1
      obtain ⟨⟨s0, s1, s2, s3, s4, s5⟩, _, _, _, _, _, _⟩ := row6_cells X11.1
      clear X11 X9 X7 X5 CK ho
      go_wp2_with fail
      refine SM2.mono ?_
      rintro e w15 ⟨rfl, hb15⟩
      have BB15 := below_more HB14.out hb15
      have X11 := HB.out _ BB15
      have X9 := HA.out _ X11.2.1
      have X7 := HG.out _ X9.2.1
      have X5 := HP.out _ X7.2.1
      have CK := CY.out _ X7.2.1
      have BW15 : Hid (Below W.heap.size W w15) := (HXH.out _ X5.2.1).2.2.1
      clear r0 r1 r2 r3 r4 r5 z0 z1 z2 z3 z4 z5 s0 s1 s2 s3 s4 s5 SM2 hb15
      obtain ⟨⟨r0, r1, r2, r3, r4, r5⟩, _, _, _, _, _, _⟩ := row6_cells X5.1
      clear X11 X9 X7 X5 BB15
      simp only []
      go_wp2_with fail
      refine CK.mono ?_
      rintro e w16 ⟨rfl, hb16⟩
      have BWF : Hid (Below W.heap.size W w16) := below_more BW15.out hb16
      clear CK hb16 r0 r1 r2 r3 r4 r5
      simp only []
      go_wp2
      go_ret
      exact ⟨rfl, BWF.out⟩
end Go.Proofs.YtcfalgomcdmdhaaGreatDoor
