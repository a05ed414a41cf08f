import Derived.Test.YtblnoekogdpolaaDoorJDFo
namespace Go.Proofs.YtblnoekogdpolaaDoor
open Go.RowKit Go.WideShapes Go.Joins
inductive DSmI (n : Nat) (P : World → Prop) (w : World) (t : Value) (wr : World) : Prop where
  | intro (k : Nat) (hk : k ≤ n) (ht : t = .int .i64 (k : Int)) (hb : Below w.heap.size w wr)
set_option maxHeartbeats 4000000 in
set_option maxRecDepth 8000 in
theorem dsame_walk (k : Nat) (b : Bool) (m : Int) (t : ByteArray) (ns : List ByteArray) (vs : List JB) (nq iq nq' iq' : Option Addr) (nc ic nc' ic' : Nat) (F1 F2 : Nat → Array Value) (Z1 Z2 : Nat → Prop) (w : World)
    (hn1 : SsIn w Z1 nq ns) (hn2 : SsIn w Z2 nq' ns) (hnl : ns.length ≤ maxLen) (h1 : VsIn w Z1 iq F1 vs.length) (h2 : VsIn w Z2 iq' F2 vs.length) (hl : vs.length ≤ maxLen)
    (hf1 : ∀ i x, vs[i]? = some x → JIn w Z1 (F1 i) x) (hf2 : ∀ i x, vs[i]? = some x → JIn w Z2 (F2 i) x)
    (hcall : ∀ i x, vs[i]? = some x → ∀ w', Below w.heap.size w w' → Calls Tryd.prog 18 #[.agg (F1 i), .agg (F2 i)] w' fun e w'' => e = .returned (.bool true) ∧ Below w'.heap.size w' w'') :
    Calls Tryd.prog 18 #[.agg (jA k b m t nq ns.length nc iq vs.length ic), .agg (jA k b m t nq' ns.length nc' iq' vs.length ic')] w fun e w' => e = .returned (.bool true) ∧ Below w.heap.size w w' := by
  have B1 := below_new w (.cells (jA k b m t nq ns.length nc iq vs.length ic) 25)
  have n1 := _root_.Go.heap_alloc_new w (.cells (jA k b m t nq ns.length nc iq vs.length ic) 25)
  have B2 := below_new (w.alloc (.cells (jA k b m t nq ns.length nc iq vs.length ic) 25)) (.cells (jA k b m t nq' ns.length nc' iq' vs.length ic') 25)
  have n2 := _root_.Go.heap_alloc_new (w.alloc (.cells (jA k b m t nq ns.length nc iq vs.length ic) 25)) (.cells (jA k b m t nq' ns.length nc' iq' vs.length ic') 25)
  rw [World.size_alloc] at n2
  have n1' := box_below n1 B2
  have BF := below_more B1 B2
  obtain ⟨W1, hW1⟩ : ∃ x, (w.alloc (.cells (jA k b m t nq ns.length nc iq vs.length ic) 25)).alloc (.cells (jA k b m t nq' ns.length nc' iq' vs.length ic') 25) = x := ⟨_, rfl⟩
  have HB : Hid (∀ w', Below W1.heap.size W1 w' → w'.heap[w.heap.size]? = some (.cells (jA k b m t nq ns.length nc iq vs.length ic) 25 (0, 0)) ∧ w'.heap[w.heap.size + 1]? = some (.cells (jA k b m t nq' ns.length nc' iq' vs.length ic') 25 (0, 0)) ∧ Below w.heap.size w w') := by
    rw [← hW1]
    exact fun w' hb => ⟨box_below n1' hb, box_below n2 hb, below_more BF hb⟩
  have HS : Hid (SsIn w Z1 nq ns ∧ SsIn w Z2 nq' ns ∧ ns.length ≤ maxLen ∧ VsIn w Z1 iq F1 vs.length ∧ VsIn w Z2 iq' F2 vs.length ∧ vs.length ≤ maxLen) := ⟨hn1, hn2, hnl, h1, h2, hl⟩
  have HF : Hid ((∀ i x, vs[i]? = some x → JIn w Z1 (F1 i) x) ∧ (∀ i x, vs[i]? = some x → JIn w Z2 (F2 i) x)) := ⟨hf1, hf2⟩
  have HC : Hid (∀ i x, vs[i]? = some x → ∀ w', Below w.heap.size w w' → Calls Tryd.prog 18 #[.agg (F1 i), .agg (F2 i)] w' fun e w'' => e = .returned (.bool true) ∧ Below w'.heap.size w' w'') := hcall
  obtain ⟨N, hN⟩ : ∃ n, ns.length = n := ⟨_, rfl⟩
  obtain ⟨M, hM⟩ : ∃ n, vs.length = n := ⟨_, rfl⟩
  have HNM : Hid (ns.length = N ∧ vs.length = M ∧ N ≤ maxLen ∧ M ≤ maxLen) := ⟨hN, hM, by rw [← hN]; exact hnl, by rw [← hM]; exact hl⟩
  rw [hN, hM] at n1' n2 hW1 HB ⊢
  have e0 : ((k : Int) == (k : Int)) = true := beq_self_eq_true _
  have e1 : (b == b) = true := beq_self_eq_true _
  have e2 : (m == m) = true := beq_self_eq_true _
  have e3 : (t.toList == t.toList) = true := by simp
  have e4 : ((N : Int) == (N : Int)) = true := beq_self_eq_true _
  have e5 : ((M : Int) == (M : Int)) = true := beq_self_eq_true _
  obtain ⟨⟨r0, r1, r2, r3, r4, r5⟩, _, _, _, _, _, _⟩ := row6_cells n1'
  obtain ⟨⟨x0, x1, x2, x3, x4, x5⟩, _, _, _, _, _, _⟩ := row6_cells n2
  unfold jA at HB hW1 r0 r1 r2 r3 r4 r5 x0 x1 x2 x3 x4 x5 ⊢
  rw [hM] at n1 B1 B2
  have HW1 : Hid (_ = W1) := hW1
  clear B1 n1 B2 n2 n1' BF hn1 hn2 hnl h1 h2 hl hf1 hf2 hcall hN hM hW1
  go_enter Tryd.func18, Tryd.ntmps18
  go_wp2_with fail
  rw [HW1.out]
  clear r0 r1 r2 r3 r4 r5 x0 x1 x2 x3 x4 x5 e0 e1 e2 e3 e4 e5
  go_loopw [5] (fun t wr => DSmI N (fun _ => True) W1 t wr) (fun t _ => N - (intOf t).toNat)
  case atStart => exact ⟨0, Nat.zero_le _, rfl, Below.refl _ _⟩
  case round =>
    obtain ⟨i, hi, rfl, hb⟩ := hrel
    obtain ⟨G1, G2, G3⟩ := HB.out wr hb
    obtain ⟨⟨r0, r1, r2, r3, r4, r5⟩, _, _, _, _, _, _⟩ := row6_cells G1
    obtain ⟨⟨x0, x1, x2, x3, x4, x5⟩, _, _, _, _, _, _⟩ := row6_cells G2
    by_cases hlt : i < N
    · have hiI : (i : Int) < (N : Int) := by omega
      have hi0 : (0 : Int) ≤ (i : Int) := by omega
      have hNm : (N : Int) ≤ 9223372036854775807 := by have := HNM.out.2.2.1; unfold maxLen at this; omega
      obtain ⟨ab, ao, rfl⟩ := HS.out.1.addr (by have := HNM.out.1; omega)
      obtain ⟨bb, bo, rfl⟩ := HS.out.2.1.addr (by have := HNM.out.1; omega)
      have y1 := below_cell (HS.out.1.at (i := i) (by have := HNM.out.1; omega)) G3
      have y2 := below_cell (HS.out.2.1.at (i := i) (by have := HNM.out.1; omega)) G3
      generalize ns.getD i ByteArray.empty = u at y1 y2
      have e3 : (u.toList == u.toList) = true := by simp
      have HQ : Hid (Below W1.heap.size W1 wr ∧ i < N) := ⟨hb, hlt⟩
      clear hb G1 G2 G3 hi hlt
      go_wp2_with fail
      go_quiet (fail)
      have HB1 : Hid (Below wr.heap.size wr (wr.drewN nq)) := below_dN (Below.refl _ _) _
      generalize wr.drewN nq = w2 at *
      go_wp2_with fail
      go_roundw
      case rel => exact ⟨i + 1, by have := HQ.out.2; omega, by go_num, below_more HQ.out.1 HB1.out⟩
      case measure => have := HQ.out.2; simp [intOf]; omega
    · obtain rfl : i = N := by omega
      have HQ : Hid (Below W1.heap.size W1 wr) := hb
      clear hb G1 G2 G3 hi hlt
      go_wp2_with fail
      clear r0 r1 r2 r3 r4 r5 x0 x1 x2 x3 x4 x5
      go_loopw [6] (fun t wr => DSmI M (fun _ => True) W1 t wr) (fun t _ => M - (intOf t).toNat)
      case atStart => exact ⟨0, Nat.zero_le _, rfl, HQ.out⟩
      case round =>
        obtain ⟨j, hj, rfl, hb⟩ := hrel
        obtain ⟨G1, G2, G3⟩ := HB.out wr hb
        obtain ⟨⟨r0, r1, r2, r3, r4, r5⟩, _, _, _, _, _, _⟩ := row6_cells G1
        obtain ⟨⟨x0, x1, x2, x3, x4, x5⟩, _, _, _, _, _, _⟩ := row6_cells G2
        by_cases hlt : j < M
        · have hjI : (j : Int) < (M : Int) := by omega
          have hj0 : (0 : Int) ≤ (j : Int) := by omega
          have hMm : (M : Int) ≤ 9223372036854775807 := by have := HNM.out.2.2.2; unfold maxLen at this; omega
          have hjl : j < vs.length := by have := HNM.out.2.1; omega
          obtain ⟨x, hx⟩ : ∃ x, vs[j]? = some x := ⟨_, List.getElem?_eq_getElem hjl⟩
          obtain ⟨ab, ao, rfl⟩ := HS.out.2.2.2.1.addr (by omega)
          obtain ⟨bb, bo, rfl⟩ := HS.out.2.2.2.2.1.addr (by omega)
          have hc1 := (HS.out.2.2.2.1.at hjl).2
          have hc2 := (HS.out.2.2.2.2.1.at hjl).2
          obtain ⟨k1, b1, n1, t1, nq1, nl1, nc1, iq1, il1, ic1, hF1⟩ := jin_form (HF.out.1 j x hx)
          obtain ⟨k2, b2, n2, t2, nq2, nl2, nc2, iq2, il2, ic2, hF2⟩ := jin_form (HF.out.2 j x hx)
          have HCx := HC.out j x hx
          rw [hF1] at hc1 HCx
          rw [hF2] at hc2 HCx
          obtain ⟨z0, z1, z2, z3, z4, z5⟩ := (jat_of hc1).below G3
          obtain ⟨y0, y1, y2, y3, y4, y5⟩ := (jat_of hc2).below G3
          unfold jA at HCx
          have HCH : Hid (∀ w', Below w.heap.size w w' → Calls Tryd.prog 18 #[.agg #[.int .u8 (k1 : Int), .bool b1, .int .i64 n1, .string t1, .slice nq1 nl1 nc1, .slice iq1 il1 ic1], .agg #[.int .u8 (k2 : Int), .bool b2, .int .i64 n2, .string t2, .slice nq2 nl2 nc2, .slice iq2 il2 ic2]] w' fun e w'' => e = .returned (.bool true) ∧ Below w'.heap.size w' w'') := HCx
          have HQ2 : Hid (Below W1.heap.size W1 wr ∧ j < M ∧ Below w.heap.size w wr) := ⟨hb, hlt, G3⟩
          clear hb G1 G2 G3 hj hlt hc1 hc2 hF1 hF2 HCx hx hjl
          have HCR : Hid (∀ w', Below wr.heap.size wr w' → Calls Tryd.prog 18 #[.agg #[.int .u8 (k1 : Int), .bool b1, .int .i64 n1, .string t1, .slice nq1 nl1 nc1, .slice iq1 il1 ic1], .agg #[.int .u8 (k2 : Int), .bool b2, .int .i64 n2, .string t2, .slice nq2 nl2 nc2, .slice iq2 il2 ic2]] w' fun e w'' => e = .returned (.bool true) ∧ Below wr.heap.size wr w'') := fun w' hb =>
            (HCH.out w' (below_more HQ2.out.2.2 hb)).mono fun e w'' ⟨p, q⟩ => ⟨p, below_more hb q⟩
          go_wp2_with fail
          go_region_with (go_at_call 18; refine (HCR.out _ (by first | exact below_dN (Below.refl _ _) _ | exact (Below.refl _ _).drew | exact Below.refl _ _)).mono ?_; rintro e w3 ⟨rfl, hb3⟩)
          all_goals
            go_wp2_with fail
            go_roundw
            case rel => exact ⟨j + 1, by have := HQ2.out.2.1; omega, by go_num, below_more HQ2.out.1 hb3⟩
            case measure => have := HQ2.out.2.1; simp [intOf]; omega
        · obtain rfl : j = M := by omega
          have HQ2 : Hid (Below w.heap.size w wr) := G3
          clear hb G1 G2 G3 hj hlt
          go_wp2_with fail
          go_ret
          exact ⟨rfl, HQ2.out⟩
theorem dSame_yes : ∀ (f : Nat) (x : JB), x.ht ≤ f → ∀ (A B : Array Value) (Z1 Z2 : Nat → Prop) (w : World), JIn w Z1 A x → JIn w Z2 B x →
    Calls Tryd.prog 18 #[.agg A, .agg B] w fun e w' => e = .returned (.bool true) ∧ Below w.heap.size w w' := by
  intro f
  induction f with
  | zero =>
    intro x hx
    cases x
    simp only [JB.ht] at hx
    omega
  | succ f ih =>
    intro x hx A B Z1 Z2 w hA hB
    cases hA with
    | mk k b m t ns vs nq iq nc ic F1 hk hn hnc hic hnm him hnq hiq hN hI hR =>
      generalize hv : JB.mk k b m t ns vs = v at hB
      cases hB with
      | mk k' b' m' t' ns' vs' nq' iq' nc' ic' F2 hk' hn' hnc' hic' hnm' him' hnq' hiq' hN' hI' hR' =>
        cases hv
        simp only [JB.ht] at hx
        refine dsame_walk k b m t ns vs nq iq nq' iq' nc ic nc' ic' F1 F2 Z1 Z2 w hN hN' (Nat.le_trans hnc hnm) hI hI' (Nat.le_trans hic him) hR hR' ?_
        intro i y hy w' hb
        exact ih y (by have := ht_at hy; omega) (F1 i) (F2 i) Z1 Z2 w' ((hR i y hy).bel hb) ((hR' i y hy).bel hb)
end Go.Proofs.YtblnoekogdpolaaDoor
