import Derived.Test.YtcfalgomcdmdhaaDoorJRows
import Derived.Test.YtcfalgomcdmdhaaDoorJDCk
namespace Go.Proofs.YtcfalgomcdmdhaaDoor
open Go.RowKit Go.WideShapes Go.Joins
structure DGetP (Z : Nat → Prop) (r : Option JB) (w : World) (e : Ending) (w' : World) : Prop where
  ex : ∃ A, e = .returned (.tuple #[.agg A, .bool r.isSome]) ∧ JIn w' Z A (r.getD zeroB) ∧ Below w.heap.size w w'
theorem dget_none {Z : Nat → Prop} {w w' : World} (hb : Below w.heap.size w w') : DGetP Z none w (.returned (.tuple #[.agg zeroA, .bool false])) w' :=
  ⟨_, rfl, jin_flat _ _ 0 false 0 ⟨#[]⟩ (by decide) rng_zero, hb⟩
theorem dget_some {Z : Nat → Prop} {w w4 : World} {A : Array Value} {x : JB} {z0 z1 z2 z3 z4 z5 : Value} (hJ : JIn w Z A x) (b4 : Below w.heap.size w w4) :
    DGetP Z (some x) w (.returned (.tuple #[.agg A, .bool true])) (set6 w4 (w.heap.size + 1) z0 z1 z2 z3 z4 z5) := by
  have g6 := set6_grown w4 (w.heap.size + 1) z0 z1 z2 z3 z4 z5
  exact ⟨A, rfl, (jin_grown (hJ.lt.bel b4) g6 (fun b hb => by omega)).wk fun b hb => hb.1, b4.grown g6 b4.size (fun k hk => by cases hk; exact Nat.le_succ _)⟩
set_option maxHeartbeats 2000000 in
set_option maxRecDepth 8000 in
theorem dat_walk (k : Nat) (b : Bool) (m : Int) (t : ByteArray) (ns : List ByteArray) (vs : List JB) (nq iq : Option Addr) (nc ic : Nat) (F : Nat → Array Value) (Z : Nat → Prop) (i : Int) (w : World)
    (h1 : VsIn w Z iq F vs.length) (hl : vs.length ≤ maxLen) (hf1 : ∀ i x, vs[i]? = some x → JIn w Z (F i) x) :
    Calls Tryd.prog 27 #[.agg (jA k b m t nq ns.length nc iq vs.length ic), .int .i64 i] w fun e w' => DGetP Z (atB (.mk k b m t ns vs) i) w e w' := by
  have B1 := below_new w (.cells (jA k b m t nq ns.length nc iq vs.length ic) 25)
  have n1 := _root_.Go.heap_alloc_new w (.cells (jA k b m t nq ns.length nc iq vs.length ic) 25)
  have B2 := below_new (w.alloc (.cells (jA k b m t nq ns.length nc iq vs.length ic) 25)) (.cells zeroA 25)
  have n2 := _root_.Go.heap_alloc_new (w.alloc (.cells (jA k b m t nq ns.length nc iq vs.length ic) 25)) (.cells zeroA 25)
  rw [World.size_alloc] at n2
  have n1' := box_below n1 B2
  have BF := below_more B1 B2
  obtain ⟨W2, hW2⟩ : ∃ x, (w.alloc (.cells (jA k b m t nq ns.length nc iq vs.length ic) 25)).alloc (.cells zeroA 25) = x := ⟨_, rfl⟩
  rw [hW2] at n1' n2 BF
  obtain ⟨⟨r0, r1, r2, r3, r4, r5⟩, f0, f1, f2, f3, f4, f5⟩ := row6_cells n1'
  obtain ⟨⟨x0, x1, x2, x3, x4, x5⟩, g0, g1, g2, g3, g4, g5⟩ := row6_cells n2
  unfold zeroA at hW2 n2
  unfold jA at hW2 ⊢
  have HW : Hid (_ = W2) := hW2
  have HB : Hid (Below w.heap.size w W2) := BF
  have HN : Hid (W2.heap[w.heap.size + 1]? = some (.cells #[.int .u8 0, .bool false, .int .i64 0, .string ⟨#[]⟩, .slice none 0 0, .slice none 0 0] 25 (0, 0))) := n2
  clear hW2
  have HM : Hid (VsIn w Z iq F vs.length ∧ (∀ i x, vs[i]? = some x → JIn w Z (F i) x)) := ⟨h1, hf1⟩
  have hmx : (vs.length : Int) ≤ 9223372036854775807 := by unfold maxLen at hl; omega
  by_cases h6 : k = 5 ∧ 0 ≤ i ∧ i < vs.length
  · have k5 : ((k : Int) == 5) = true := by rw [h6.1]; rfl
    obtain ⟨j, rfl⟩ : ∃ j : Nat, i = (j : Int) := ⟨i.toNat, by omega⟩
    have hj0 : (0 : Int) ≤ (j : Int) := by omega
    have hj1 : (j : Int) < (vs.length : Int) := h6.2.2
    have hjv : j < vs.length := by omega
    obtain ⟨x, hx⟩ : ∃ x, vs[j]? = some x := ⟨_, List.getElem?_eq_getElem hjv⟩
    have HG : Hid (atB (.mk k b m t ns vs) (j : Int) = some x) := by
      show atB _ _ = _
      unfold atB
      rw [if_pos ⟨h6.1, hj0⟩, Int.toNat_natCast]; exact hx
    obtain ⟨ib, io, rfl⟩ := HM.out.1.addr (by omega)
    have hc1 := (HM.out.1.at hjv).2
    have hJ0 := HM.out.2 j x hx
    obtain ⟨k2, b2, m2, t2, nq2, nl2, nc2, iq2, il2, ic2, hF1⟩ := jin_form hJ0
    rw [hF1] at hc1 hJ0
    have HJ : Hid (JIn w Z (jA k2 b2 m2 t2 nq2 nl2 nc2 iq2 il2 ic2) x) := hJ0
    obtain ⟨z0, z1, z2, z3, z4, z5⟩ := (jat_of hc1).below BF
    clear B1 n1 B2 n1' n2 BF h1 hf1 h6 hjv hc1 hJ0 hF1 hx HM hl
    go_enter Tryd.func27, Tryd.ntmps27
    go_upto_region 1 with fail
    rw [HW.out]
    go_wp2_with fail
    refine bodyPost_ret (results_cell_row2 rfl _ _ _ (w.heap.size + 1) 25 (jA k2 b2 m2 t2 nq2 nl2 nc2 iq2 il2 ic2) (0, 0) _ rfl (set6_heap' HN.out _ _ _ _ _ _) rfl Tryd.underlying25 size_json) rfl ?_
    rw [HG.out]
    exact dget_some HJ.out HB.out
  · have HG : Hid (atB (.mk k b m t ns vs) i = none) := at_none (by omega)
    clear HM h1 hf1
    by_cases hk : k = 5
    · have k5 : ((k : Int) == 5) = true := by rw [hk]; rfl
      by_cases hi : 0 ≤ i
      · have hi2 : ¬ i < (vs.length : Int) := by omega
        clear B1 n1 B2 n1' n2 BF h6 hk
        go_enter Tryd.func27, Tryd.ntmps27
        go_upto_region 1 with fail
        rw [HW.out]
        go_wp2_with fail
        refine bodyPost_ret (results_cell_row2 rfl _ _ _ (w.heap.size + 1) 25 zeroA (0, 0) _ rfl (set6_heap' HN.out _ _ _ _ _ _) rfl Tryd.underlying25 size_json) rfl ?_
        rw [HG.out]
        exact dget_none (HB.out.grown (set6_grown _ _ _ _ _ _ _ _) HB.out.size (fun k hk => by cases hk; exact Nat.le_succ _))
      · clear B1 n1 B2 n1' n2 BF h6 hk
        go_enter Tryd.func27, Tryd.ntmps27
        go_upto_region 1 with fail
        rw [HW.out]
        go_wp2_with fail
        refine bodyPost_ret (results_cell_row2 rfl _ _ _ (w.heap.size + 1) 25 zeroA (0, 0) _ rfl (set6_heap' HN.out _ _ _ _ _ _) rfl Tryd.underlying25 size_json) rfl ?_
        rw [HG.out]
        exact dget_none (HB.out.grown (set6_grown _ _ _ _ _ _ _ _) HB.out.size (fun k hk => by cases hk; exact Nat.le_succ _))
    · have k5 : ((k : Int) == 5) = false := by simpa using fun e : (k : Int) = 5 => hk (by omega)
      clear B1 n1 B2 n1' n2 BF h6 hk
      go_enter Tryd.func27, Tryd.ntmps27
      go_upto_region 1 with fail
      rw [HW.out]
      go_wp2_with fail
      refine bodyPost_ret (results_cell_row2 rfl _ _ _ (w.heap.size + 1) 25 zeroA (0, 0) _ rfl (set6_heap' HN.out _ _ _ _ _ _) rfl Tryd.underlying25 size_json) rfl ?_
      rw [HG.out]
      exact dget_none (HB.out.grown (set6_grown _ _ _ _ _ _ _ _) HB.out.size (fun k hk => by cases hk; exact Nat.le_succ _))
theorem dAt_any (A : Array Value) (x : JB) (Z : Nat → Prop) (i : Int) (w : World) (hJ : JIn w Z A x) :
    Calls Tryd.prog 27 #[.agg A, .int .i64 i] w fun e w' => DGetP Z (atB x i) w e w' := by
  cases hJ with
  | mk k b n t ns vs nq iq nc ic F hk hn' hnc hic hnm him hnq hiq hN hI hR =>
    exact dat_walk k b n t ns vs nq iq nc ic F Z i w hI (Nat.le_trans hic him) hR
inductive DGeI (ns : List ByteArray) (name : ByteArray) (M : Nat) (w : World) (tv : Value) (wr : World) : Prop where
  | intro (i : Nat) (hi : i ≤ M) (ht : tv = .int .i64 (i : Int)) (hne : ∀ j, j < i → ns.getD j ByteArray.empty ≠ name) (hb : Below w.heap.size w wr)
set_option maxHeartbeats 4000000 in
set_option maxRecDepth 8000 in
theorem dget_walk (k : Nat) (b : Bool) (m : Int) (t : ByteArray) (ns : List ByteArray) (vs : List JB) (nq iq : Option Addr) (nc ic : Nat) (F : Nat → Array Value) (Z : Nat → Prop) (name : ByteArray) (w : World)
    (hN : SsIn w Z nq ns) (hnl : ns.length ≤ maxLen) (h1 : VsIn w Z iq F vs.length) (hl : vs.length ≤ maxLen) (hf1 : ∀ i x, vs[i]? = some x → JIn w Z (F i) x) :
    Calls Tryd.prog 25 #[.agg (jA k b m t nq ns.length nc iq vs.length ic), .string name] w fun e w' => DGetP Z (getB (.mk k b m t ns vs) name) w e w' := by
  have B1 := below_new w (.cells (jA k b m t nq ns.length nc iq vs.length ic) 25)
  have n1 := _root_.Go.heap_alloc_new w (.cells (jA k b m t nq ns.length nc iq vs.length ic) 25)
  have B2 := below_new (w.alloc (.cells (jA k b m t nq ns.length nc iq vs.length ic) 25)) (.cells zeroA 25)
  have n2 := _root_.Go.heap_alloc_new (w.alloc (.cells (jA k b m t nq ns.length nc iq vs.length ic) 25)) (.cells zeroA 25)
  rw [World.size_alloc] at n2
  have n1' := box_below n1 B2
  have BF := below_more B1 B2
  obtain ⟨W2, hW2⟩ : ∃ x, (w.alloc (.cells (jA k b m t nq ns.length nc iq vs.length ic) 25)).alloc (.cells zeroA 25) = x := ⟨_, rfl⟩
  rw [hW2] at n1' n2 BF
  obtain ⟨⟨r0, r1, r2, r3, r4, r5⟩, f0, f1, f2, f3, f4, f5⟩ := row6_cells n1'
  obtain ⟨⟨x0, x1, x2, x3, x4, x5⟩, g0, g1, g2, g3, g4, g5⟩ := row6_cells n2
  have HB : Hid (∀ w', Below W2.heap.size W2 w' → w'.heap[w.heap.size]? = some (.cells (jA k b m t nq ns.length nc iq vs.length ic) 25 (0, 0)) ∧ w'.heap[w.heap.size + 1]? = some (.cells zeroA 25 (0, 0)) ∧ Below w.heap.size w w') := fun w' hb => ⟨box_below n1' hb, box_below n2 hb, below_more BF hb⟩
  have HM : Hid (VsIn w Z iq F vs.length ∧ (∀ i x, vs[i]? = some x → JIn w Z (F i) x) ∧ SsIn w Z nq ns) := ⟨h1, hf1, hN⟩
  have hmx : (vs.length : Int) ≤ 9223372036854775807 := by unfold maxLen at hl; omega
  have hnx : (ns.length : Int) ≤ 9223372036854775807 := by unfold maxLen at hnl; omega
  unfold zeroA at hW2 HB
  unfold jA at hW2 HB ⊢
  have HW : Hid (_ = W2) := hW2
  by_cases h6 : k = 6
  · have k6 : ((k : Int) == 6) = true := by rw [h6]; rfl
    have HK : Hid (k = 6) := h6
    clear B1 n1 B2 n1' n2 BF h1 hf1 hN hl hnl h6 hW2
    go_enter Tryd.func25, Tryd.ntmps25
    go_wp2_with fail
    rw [HW.out]
    clear r0 r1 r2 r3 r4 r5 f0 f1 f2 f3 f4 f5 x0 x1 x2 x3 x4 x5 g0 g1 g2 g3 g4 g5
    go_loopw [6] (fun t' wr => DGeI ns name (min ns.length vs.length) W2 t' wr) (fun t _ => min ns.length vs.length - (intOf t).toNat)
    case atStart => exact ⟨0, Nat.zero_le _, rfl, (fun j hj => absurd hj (Nat.not_lt_zero _)), Below.refl _ _⟩
    case round =>
      obtain ⟨i, hi, rfl, hne, hb⟩ := hrel
      obtain ⟨G1, G2, G3⟩ := HB.out wr hb
      obtain ⟨⟨r0, r1, r2, r3, r4, r5⟩, _, _, _, _, _, _⟩ := row6_cells G1
      obtain ⟨⟨x0, x1, x2, x3, x4, x5⟩, g0, g1, g2, g3, g4, g5⟩ := row6_cells G2
      have hi0 : (0 : Int) ≤ (i : Int) := by omega
      by_cases hlt : i < min ns.length vs.length
      · have hn1 : (i : Int) < (ns.length : Int) := by omega
        have hv1 : (i : Int) < (vs.length : Int) := by omega
        have hin : i < ns.length := by omega
        have hiv : i < vs.length := by omega
        obtain ⟨ab, ao, rfl⟩ := HM.out.2.2.addr (by omega)
        have y1 := below_cell (HM.out.2.2.at hin) G3
        obtain ⟨u, hu⟩ : ∃ u, ns.getD i ByteArray.empty = u := ⟨_, rfl⟩
        rw [hu] at y1
        by_cases hun : u = name
        · have e3 : (u.toList == name.toList) = true := (Lib.bytes_beq_iff _ _).2 hun
          obtain ⟨x, hx⟩ : ∃ x, vs[i]? = some x := ⟨_, List.getElem?_eq_getElem hiv⟩
          have HG : Hid (getB (.mk k b m t ns vs) name = some x) := get_some HK.out (Lib.idxOfS_hit ns _ i name hlt (Nat.min_le_left _ _) (by rw [hu]; exact hun) hne) hx
          obtain ⟨ib, io, rfl⟩ := HM.out.1.addr (by omega)
          have hc1 := (HM.out.1.at hiv).2
          have hJ0 := HM.out.2.1 i x hx
          obtain ⟨k2, b2, m2, t2, nq2, nl2, nc2, iq2, il2, ic2, hF1⟩ := jin_form hJ0
          rw [hF1] at hc1 hJ0
          have HJ : Hid (JIn w Z (jA k2 b2 m2 t2 nq2 nl2 nc2 iq2 il2 ic2) x ∧ wr.heap[w.heap.size + 1]? = some (.cells #[.int .u8 0, .bool false, .int .i64 0, .string ⟨#[]⟩, .slice none 0 0, .slice none 0 0] 25 (0, 0)) ∧ Below w.heap.size w wr) := ⟨hJ0, G2, G3⟩
          obtain ⟨z0, z1, z2, z3, z4, z5⟩ := (jat_of hc1).below G3
          clear hc1 hJ0 hF1 hx hu hun hne hb hi hlt hin hiv G1 G2 G3
          go_wp2_with fail
          refine bodyPost_ret (results_cell_row2 rfl _ _ _ (w.heap.size + 1) 25 (jA k2 b2 m2 t2 nq2 nl2 nc2 iq2 il2 ic2) (0, 0) _ rfl (set6_heap' HJ.out.2.1 _ _ _ _ _ _) rfl Tryd.underlying25 size_json) rfl ?_
          rw [HG.out]
          exact dget_some HJ.out.1 HJ.out.2.2
        · have e3 : (u.toList == name.toList) = false := (Lib.bytes_beq_false_iff _ _).2 hun
          have HQ : Hid ((∀ j, j < i + 1 → ns.getD j ByteArray.empty ≠ name) ∧ i < min ns.length vs.length ∧ Below W2.heap.size W2 wr) := by
            refine ⟨fun j hj => ?_, hlt, hb⟩
            by_cases e : j = i
            · rw [e, hu]; exact hun
            · exact hne j (by omega)
          clear hu hun hne hb hi hlt hin hiv G1 G2 G3
          go_wp2_with fail
          go_roundw
          case rel => exact ⟨i + 1, HQ.out.2.1, by go_num, HQ.out.1, HQ.out.2.2⟩
          case measure => have := HQ.out.2.1; simp [intOf]; omega
      · have hiM : i = min ns.length vs.length := by omega
        have HG : Hid (getB (.mk k b m t ns vs) name = none) := get_none (.inr (by
          have := Lib.idxOfS_miss ns (min ns.length vs.length) name (by rw [← hiM]; exact hne)
          unfold getI
          rw [this]
          decide))
        have HJ : Hid (wr.heap[w.heap.size + 1]? = some (.cells #[.int .u8 0, .bool false, .int .i64 0, .string ⟨#[]⟩, .slice none 0 0, .slice none 0 0] 25 (0, 0)) ∧ Below w.heap.size w wr) := ⟨G2, G3⟩
        by_cases hin : i < ns.length
        · have hn1 : (i : Int) < (ns.length : Int) := by omega
          have hv1 : ¬ (i : Int) < (vs.length : Int) := by omega
          clear hne hb hi hlt hin hiM G1 G2 G3
          go_wp2_with fail
          refine bodyPost_ret (results_cell_row2 rfl _ _ _ (w.heap.size + 1) 25 zeroA (0, 0) _ rfl (set6_heap' HJ.out.1 _ _ _ _ _ _) rfl Tryd.underlying25 size_json) rfl ?_
          rw [HG.out]
          exact dget_none (HJ.out.2.grown (set6_grown _ _ _ _ _ _ _ _) HJ.out.2.size (fun k hk => by cases hk; exact Nat.le_succ _))
        · have hn1 : ¬ (i : Int) < (ns.length : Int) := by omega
          clear hne hb hi hlt hin hiM G1 G2 G3
          go_wp2_with fail
          refine bodyPost_ret (results_cell_row2 rfl _ _ _ (w.heap.size + 1) 25 zeroA (0, 0) _ rfl (set6_heap' HJ.out.1 _ _ _ _ _ _) rfl Tryd.underlying25 size_json) rfl ?_
          rw [HG.out]
          exact dget_none (HJ.out.2.grown (set6_grown _ _ _ _ _ _ _ _) HJ.out.2.size (fun k hk => by cases hk; exact Nat.le_succ _))
  · have k6 : ((k : Int) == 6) = false := by simpa using fun e : (k : Int) = 6 => h6 (by omega)
    have HG : Hid (getB (.mk k b m t ns vs) name = none) := get_none (.inl h6)
    clear B1 n1 B2 n1' n2 BF h1 hf1 hN hl hnl h6 hW2
    go_enter Tryd.func25, Tryd.ntmps25
    go_wp2_with fail
    rw [HW.out]
    clear r0 r1 r2 r3 r4 r5 f0 f1 f2 f3 f4 f5 x0 x1 x2 x3 x4 x5 g0 g1 g2 g3 g4 g5
    go_loopw [6] (fun t' wr => t' = .int .i64 0 ∧ Below W2.heap.size W2 wr) (fun t _ => 0)
    case atStart => exact ⟨rfl, Below.refl _ _⟩
    case round =>
      obtain ⟨rfl, hb⟩ := hrel
      obtain ⟨G1, G2, G3⟩ := HB.out _ hb
      obtain ⟨⟨r0, r1, r2, r3, r4, r5⟩, _, _, _, _, _, _⟩ := row6_cells G1
      obtain ⟨⟨x0, x1, x2, x3, x4, x5⟩, g0, g1, g2, g3, g4, g5⟩ := row6_cells G2
      have HJ : Hid (wr.heap[w.heap.size + 1]? = some (.cells #[.int .u8 0, .bool false, .int .i64 0, .string ⟨#[]⟩, .slice none 0 0, .slice none 0 0] 25 (0, 0)) ∧ Below w.heap.size w wr) := ⟨G2, G3⟩
      clear G1 G2 G3 hb
      go_wp2_with fail
      refine bodyPost_ret (results_cell_row2 rfl _ _ _ (w.heap.size + 1) 25 zeroA (0, 0) _ rfl (set6_heap' HJ.out.1 _ _ _ _ _ _) rfl Tryd.underlying25 size_json) rfl ?_
      rw [HG.out]
      exact dget_none (HJ.out.2.grown (set6_grown _ _ _ _ _ _ _ _) HJ.out.2.size (fun k hk => by cases hk; exact Nat.le_succ _))
theorem dGet_any (A : Array Value) (x : JB) (Z : Nat → Prop) (name : ByteArray) (w : World) (hJ : JIn w Z A x) :
    Calls Tryd.prog 25 #[.agg A, .string name] w fun e w' => DGetP Z (getB x name) w e w' := by
  cases hJ with
  | mk k b n t ns vs nq iq nc ic F hk hn' hnc hic hnm him hnq hiq hN hI hR =>
    exact dget_walk k b n t ns vs nq iq nc ic F Z name w hN (Nat.le_trans hnc hnm) hI (Nat.le_trans hic him) hR
end Go.Proofs.YtcfalgomcdmdhaaDoor
