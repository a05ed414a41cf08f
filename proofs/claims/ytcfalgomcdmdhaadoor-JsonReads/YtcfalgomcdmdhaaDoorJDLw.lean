/-
  JsonReads: the walk.
-/
import Derived.Test.YtcfalgomcdmdhaaDoorJDRd
namespace Go.Proofs.YtcfalgomcdmdhaaDoor
open Go.RowKit Go.WideShapes Go.Joins

/-- Between two names, and between two items. -/
inductive DSmI (n : Nat) (P : World → Prop) (w : World) (t : Value) (wr : World) : Prop where
  | intro (k : Nat) (hk : k ≤ n) (ht : t = .int .i64 (k : Int)) (hb : Below w.heap.size w wr)
theorem jin_bel2 {w w' : World} {Z : Nat → Prop} {A : Array Value} {v : JB} (h : JIn w Z A v) (hb : Below w.heap.size w w') : JIn w' Z A v := h.bel hb
set_option maxHeartbeats 4000000 in
set_option maxRecDepth 8000 in
theorem dsame_walk (k : Nat) (b : Bool) (m : Int) (t : ByteArray) (ns : List ByteArray) (vs : List JB) (nq iq nq' iq' : Option Addr) (nc ic nc' ic' : Nat) (F1 F2 : Nat → Array Value) (Z1 Z2 : Nat → Prop) (w : World)
    (hn1 : SsIn w Z1 nq ns) (hn2 : SsIn w Z2 nq' ns) (hnl : ns.length ≤ maxLen) (h1 : VsIn w Z1 iq F1 vs.length) (h2 : VsIn w Z2 iq' F2 vs.length) (hl : vs.length ≤ maxLen)
    (hf1 : ∀ i x, vs[i]? = some x → JIn w Z1 (F1 i) x) (hf2 : ∀ i x, vs[i]? = some x → JIn w Z2 (F2 i) x)
    (hcall : ∀ i x, vs[i]? = some x → ∀ w', Below w.heap.size w w' → Calls Tryd.prog 18 #[.agg (F1 i), .agg (F2 i)] w' fun e w'' => e = .returned (.bool true) ∧ Below w'.heap.size w' w'') :
    Calls Tryd.prog 18 #[.agg (jA k b m t nq ns.length nc iq vs.length ic), .agg (jA k b m t nq' ns.length nc' iq' vs.length ic')] w fun e w' => e = .returned (.bool true) ∧ Below w.heap.size w w' := by
  have B1 := below_new w (.cells (jA k b m t nq ns.length nc iq vs.length ic) 25)
  have n1 := _root_.Go.heap_alloc_new w (.cells (jA k b m t nq ns.length nc iq vs.length ic) 25)
  have B2 := below_new (w.alloc (.cells (jA k b m t nq ns.length nc iq vs.length ic) 25)) (.cells (jA k b m t nq' ns.length nc' iq' vs.length ic') 25)
  have n2 := _root_.Go.heap_alloc_new (w.alloc (.cells (jA k b m t nq ns.length nc iq vs.length ic) 25)) (.cells (jA k b m t nq' ns.length nc' iq' vs.length ic') 25)
  rw [World.size_alloc] at n2
  have n1' := box_below n1 B2
  have BF := below_more B1 B2
  obtain ⟨W1, hW1⟩ : ∃ x, (w.alloc (.cells (jA k b m t nq ns.length nc iq vs.length ic) 25)).alloc (.cells (jA k b m t nq' ns.length nc' iq' vs.length ic') 25) = x := ⟨_, rfl⟩
  have HB : Hid (∀ w', Below W1.heap.size W1 w' → w'.heap[w.heap.size]? = some (.cells (jA k b m t nq ns.length nc iq vs.length ic) 25 (0, 0)) ∧ w'.heap[w.heap.size + 1]? = some (.cells (jA k b m t nq' ns.length nc' iq' vs.length ic') 25 (0, 0)) ∧ Below w.heap.size w w') := by
    rw [← hW1]
    exact fun w' hb => ⟨box_below n1' hb, box_below n2 hb, below_more BF hb⟩
  have HS : Hid (SsIn w Z1 nq ns ∧ SsIn w Z2 nq' ns ∧ ns.length ≤ maxLen ∧ VsIn w Z1 iq F1 vs.length ∧ VsIn w Z2 iq' F2 vs.length ∧ vs.length ≤ maxLen) := ⟨hn1, hn2, hnl, h1, h2, hl⟩
  have HF : Hid ((∀ i x, vs[i]? = some x → JIn w Z1 (F1 i) x) ∧ (∀ i x, vs[i]? = some x → JIn w Z2 (F2 i) x)) := ⟨hf1, hf2⟩
  have HC : Hid (∀ i x, vs[i]? = some x → ∀ w', Below w.heap.size w w' → Calls Tryd.prog 18 #[.agg (F1 i), .agg (F2 i)] w' fun e w'' => e = .returned (.bool true) ∧ Below w'.heap.size w' w'') := hcall
  obtain ⟨N, hN⟩ : ∃ n, ns.length = n := ⟨_, rfl⟩
  obtain ⟨M, hM⟩ : ∃ n, vs.length = n := ⟨_, rfl⟩
  have HNM : Hid (ns.length = N ∧ vs.length = M ∧ N ≤ maxLen ∧ M ≤ maxLen) := ⟨hN, hM, by rw [← hN]; exact hnl, by rw [← hM]; exact hl⟩
  rw [hN, hM] at n1' n2 hW1 HB ⊢
  have e0 : ((k : Int) == (k : Int)) = true := beq_self_eq_true _
  have e1 : (b == b) = true := beq_self_eq_true _
  have e2 : (m == m) = true := beq_self_eq_true _
  have e3 : (t.toList == t.toList) = true := by simp
  have e4 : ((N : Int) == (N : Int)) = true := beq_self_eq_true _
  have e5 : ((M : Int) == (M : Int)) = true := beq_self_eq_true _
  obtain ⟨⟨r0, r1, r2, r3, r4, r5⟩, _, _, _, _, _, _⟩ := row6_cells n1'
  obtain ⟨⟨x0, x1, x2, x3, x4, x5⟩, _, _, _, _, _, _⟩ := row6_cells n2
  unfold jA at HB hW1 r0 r1 r2 r3 r4 r5 x0 x1 x2 x3 x4 x5 ⊢
  rw [hM] at n1 B1 B2
  have HW1 : Hid (_ = W1) := hW1
  clear B1 n1 B2 n2 n1' BF hn1 hn2 hnl h1 h2 hl hf1 hf2 hcall hN hM hW1
  go_enter Tryd.func18, Tryd.ntmps18
  go_wp2_with fail
  rw [HW1.out]
  clear r0 r1 r2 r3 r4 r5 x0 x1 x2 x3 x4 x5 e0 e1 e2 e3 e4 e5
  go_loopw [5] (fun t wr => DSmI N (fun _ => True) W1 t wr) (fun t _ => N - (intOf t).toNat)
  case atStart => exact ⟨0, Nat.zero_le _, rfl, Below.refl _ _⟩
  case round =>
    obtain ⟨i, hi, rfl, hb⟩ := hrel
    obtain ⟨G1, G2, G3⟩ := HB.out wr hb
    obtain ⟨⟨r0, r1, r2, r3, r4, r5⟩, _, _, _, _, _, _⟩ := row6_cells G1
    obtain ⟨⟨x0, x1, x2, x3, x4, x5⟩, _, _, _, _, _, _⟩ := row6_cells G2
    by_cases hlt : i < N
    · have hiI : (i : Int) < (N : Int) := by omega
      have hi0 : (0 : Int) ≤ (i : Int) := by omega
      have hNm : (N : Int) ≤ 9223372036854775807 := by have := HNM.out.2.2.1; unfold maxLen at this; omega
      obtain ⟨ab, ao, rfl⟩ := HS.out.1.addr (by have := HNM.out.1; omega)
      obtain ⟨bb, bo, rfl⟩ := HS.out.2.1.addr (by have := HNM.out.1; omega)
      have y1 := below_cell (HS.out.1.at (i := i) (by have := HNM.out.1; omega)) G3
      have y2 := below_cell (HS.out.2.1.at (i := i) (by have := HNM.out.1; omega)) G3
      generalize ns.getD i ByteArray.empty = u at y1 y2
      have e3 : (u.toList == u.toList) = true := by simp
      have HQ : Hid (Below W1.heap.size W1 wr ∧ i < N) := ⟨hb, hlt⟩
      clear hb G1 G2 G3 hi hlt
      go_wp2_with fail
      go_quiet (fail)
      have HB1 : Hid (Below wr.heap.size wr (wr.drewN nq)) := below_dN (Below.refl _ _) _
      generalize wr.drewN nq = w2 at *
      go_wp2_with fail
      go_roundw
      case rel => exact ⟨i + 1, by have := HQ.out.2; omega, by go_num, below_more HQ.out.1 HB1.out⟩
      case measure => have := HQ.out.2; simp [intOf]; omega
    · obtain rfl : i = N := by omega
      have HQ : Hid (Below W1.heap.size W1 wr) := hb
      clear hb G1 G2 G3 hi hlt
      go_wp2_with fail
      clear r0 r1 r2 r3 r4 r5 x0 x1 x2 x3 x4 x5
      go_loopw [6] (fun t wr => DSmI M (fun _ => True) W1 t wr) (fun t _ => M - (intOf t).toNat)
      case atStart => exact ⟨0, Nat.zero_le _, rfl, HQ.out⟩
      case round =>
        obtain ⟨j, hj, rfl, hb⟩ := hrel
        obtain ⟨G1, G2, G3⟩ := HB.out wr hb
        obtain ⟨⟨r0, r1, r2, r3, r4, r5⟩, _, _, _, _, _, _⟩ := row6_cells G1
        obtain ⟨⟨x0, x1, x2, x3, x4, x5⟩, _, _, _, _, _, _⟩ := row6_cells G2
        by_cases hlt : j < M
        · have hjI : (j : Int) < (M : Int) := by omega
          have hj0 : (0 : Int) ≤ (j : Int) := by omega
          have hMm : (M : Int) ≤ 9223372036854775807 := by have := HNM.out.2.2.2; unfold maxLen at this; omega
          have hjl : j < vs.length := by have := HNM.out.2.1; omega
          obtain ⟨x, hx⟩ : ∃ x, vs[j]? = some x := ⟨_, List.getElem?_eq_getElem hjl⟩
          obtain ⟨ab, ao, rfl⟩ := HS.out.2.2.2.1.addr (by omega)
          obtain ⟨bb, bo, rfl⟩ := HS.out.2.2.2.2.1.addr (by omega)
          have hc1 := (HS.out.2.2.2.1.at hjl).2
          have hc2 := (HS.out.2.2.2.2.1.at hjl).2
          obtain ⟨k1, b1, n1, t1, nq1, nl1, nc1, iq1, il1, ic1, hF1⟩ := jin_form (HF.out.1 j x hx)
          obtain ⟨k2, b2, n2, t2, nq2, nl2, nc2, iq2, il2, ic2, hF2⟩ := jin_form (HF.out.2 j x hx)
          have HCx := HC.out j x hx
          rw [hF1] at hc1 HCx
          rw [hF2] at hc2 HCx
          obtain ⟨z0, z1, z2, z3, z4, z5⟩ := (jat_of hc1).below G3
          obtain ⟨y0, y1, y2, y3, y4, y5⟩ := (jat_of hc2).below G3
          unfold jA at HCx
          have HCH : Hid (∀ w', Below w.heap.size w w' → Calls Tryd.prog 18 #[.agg #[.int .u8 (k1 : Int), .bool b1, .int .i64 n1, .string t1, .slice nq1 nl1 nc1, .slice iq1 il1 ic1], .agg #[.int .u8 (k2 : Int), .bool b2, .int .i64 n2, .string t2, .slice nq2 nl2 nc2, .slice iq2 il2 ic2]] w' fun e w'' => e = .returned (.bool true) ∧ Below w'.heap.size w' w'') := HCx
          have HQ2 : Hid (Below W1.heap.size W1 wr ∧ j < M ∧ Below w.heap.size w wr) := ⟨hb, hlt, G3⟩
          clear hb G1 G2 G3 hj hlt hc1 hc2 hF1 hF2 HCx hx hjl
          have HCR : Hid (∀ w', Below wr.heap.size wr w' → Calls Tryd.prog 18 #[.agg #[.int .u8 (k1 : Int), .bool b1, .int .i64 n1, .string t1, .slice nq1 nl1 nc1, .slice iq1 il1 ic1], .agg #[.int .u8 (k2 : Int), .bool b2, .int .i64 n2, .string t2, .slice nq2 nl2 nc2, .slice iq2 il2 ic2]] w' fun e w'' => e = .returned (.bool true) ∧ Below wr.heap.size wr w'') := fun w' hb =>
            (HCH.out w' (below_more HQ2.out.2.2 hb)).mono fun e w'' ⟨p, q⟩ => ⟨p, below_more hb q⟩
          go_wp2_with fail
          go_region_with (go_at_call 18; refine (HCR.out _ (by first | exact below_dN (Below.refl _ _) _ | exact (Below.refl _ _).drew | exact Below.refl _ _)).mono ?_; rintro e w3 ⟨rfl, hb3⟩)
          all_goals
            go_wp2_with fail
            go_roundw
            case rel => exact ⟨j + 1, by have := HQ2.out.2.1; omega, by go_num, below_more HQ2.out.1 hb3⟩
            case measure => have := HQ2.out.2.1; simp [intOf]; omega
        · obtain rfl : j = M := by omega
          have HQ2 : Hid (Below w.heap.size w wr) := G3
          clear hb G1 G2 G3 hj hlt
          go_wp2_with fail
          go_ret
          exact ⟨rfl, HQ2.out⟩
theorem dSame_yes : ∀ (f : Nat) (x : JB), x.ht ≤ f → ∀ (A B : Array Value) (Z1 Z2 : Nat → Prop) (w : World), JIn w Z1 A x → JIn w Z2 B x →
    Calls Tryd.prog 18 #[.agg A, .agg B] w fun e w' => e = .returned (.bool true) ∧ Below w.heap.size w w' := by
  intro f
  induction f with
  | zero =>
    intro x hx
    cases x
    simp only [JB.ht] at hx
    omega
  | succ f ih =>
    intro x hx A B Z1 Z2 w hA hB
    cases hA with
    | mk k b m t ns vs nq iq nc ic F1 hk hn hnc hic hnm him hnq hiq hN hI hR =>
      generalize hv : JB.mk k b m t ns vs = v at hB
      cases hB with
      | mk k' b' m' t' ns' vs' nq' iq' nc' ic' F2 hk' hn' hnc' hic' hnm' him' hnq' hiq' hN' hI' hR' =>
        cases hv
        simp only [JB.ht] at hx
        refine dsame_walk k b m t ns vs nq iq nq' iq' nc ic nc' ic' F1 F2 Z1 Z2 w hN hN' (Nat.le_trans hnc hnm) hI hI' (Nat.le_trans hic him) hR hR' ?_
        intro i y hy w' hb
        exact ih y (by have := ht_at hy; omega) (F1 i) (F2 i) Z1 Z2 w' ((hR i y hy).bel hb) ((hR' i y hy).bel hb)
end Go.Proofs.YtcfalgomcdmdhaaDoor
namespace Go.Proofs.YtcfalgomcdmdhaaDoor
open Go.RowKit Go.WideShapes Go.Joins

/-- what Read answers is one: the place, the error, the value -/
theorem readp_one {F : Nat} {s : ByteArray} {n1 k1 n2 k2 : Nat} {x1 x2 : JB}
    (a1 : 16384 < s.size → k1 = 3 ∧ n1 = 0 ∧ x1 = zeroB) (b1 : s.size ≤ 16384 → match J.read F (numsOf s) with
      | .ok v _ => k1 = 0 ∧ n1 = 0 ∧ x1.toJ = v
      | .bad e r => k1 = e ∧ n1 = s.size - r.length ∧ x1 = zeroB ∧ e ≠ 0
      | .out => False)
    (a2 : 16384 < s.size → k2 = 3 ∧ n2 = 0 ∧ x2 = zeroB) (b2 : s.size ≤ 16384 → match J.read F (numsOf s) with
      | .ok v _ => k2 = 0 ∧ n2 = 0 ∧ x2.toJ = v
      | .bad e r => k2 = e ∧ n2 = s.size - r.length ∧ x2 = zeroB ∧ e ≠ 0
      | .out => False) : k2 = k1 ∧ n2 = n1 ∧ x2 = x1 := by
  by_cases hs : 16384 < s.size
  · obtain ⟨rfl, rfl, rfl⟩ := a1 hs
    obtain ⟨rfl, rfl, rfl⟩ := a2 hs
    exact ⟨rfl, rfl, rfl⟩
  · have h1 := b1 (by omega)
    have h2 := b2 (by omega)
    cases hr : J.read F (numsOf s) with
    | out => rw [hr] at h1; exact h1.elim
    | ok v r =>
      rw [hr] at h1 h2
      obtain ⟨rfl, rfl, c1⟩ := h1
      obtain ⟨rfl, rfl, c2⟩ := h2
      exact ⟨rfl, rfl, toJ_inj _ _ (c2.trans c1.symm)⟩
    | bad e r =>
      rw [hr] at h1 h2
      obtain ⟨rfl, rfl, rfl, _⟩ := h1
      obtain ⟨rfl, rfl, rfl, _⟩ := h2
      exact ⟨rfl, rfl, rfl⟩
set_option maxHeartbeats 4000000 in
set_option maxRecDepth 8000 in
theorem reads_walk (s : ByteArray) (W : World) (hL : 8 ≤ W.heap.size ∧ Laid W) (_ : s.size ≤ maxLen) :
    Calls Tryd.prog 4 #[.string s] W fun e W' => e = .returned (.bool true) ∧ Below W.heap.size W W' := by
  have R1 := Read_any 20001 (by decide) s W hL.1 hL.2
  clear hL
  by_cases hlong : 17000 < s.size
  · have q1 : (17000 : Int) < (s.size : Int) := by omega
    clear hlong R1
    go_enter Tryd.func4, Tryd.ntmps4
    go_wp2_with fail
    go_ret
    exact ⟨rfl, Below.refl _ _⟩
  have q1 : ¬ (17000 : Int) < (s.size : Int) := by omega
  clear hlong
  go_enter Tryd.func4, Tryd.ntmps4
  go_wp2_with fail
  refine R1.mono ?_
  rintro e w1 ⟨A1, x1, n1, k1, rfl, hJ1, hb1, a1, c1⟩
  obtain ⟨ka, ba, ma, ta, qa, la, ca, ra, ia, ja, rfl⟩ := jin_form hJ1
  have nb := below_new w1 (.cells (jA ka ba ma ta qa la ca ra ia ja) 25)
  have HX : Hid (∀ w', Below (w1.alloc (.cells (jA ka ba ma ta qa la ca ra ia ja) 25)).heap.size (w1.alloc (.cells (jA ka ba ma ta qa la ca ra ia ja) 25)) w' → w'.heap[w1.heap.size]? = some (.cells (jA ka ba ma ta qa la ca ra ia ja) 25 (0, 0)) ∧ JIn w' (fun _ => True) (jA ka ba ma ta qa la ca ra ia ja) x1 ∧ Below W.heap.size W w') := fun w' hb =>
    ⟨box_below (_root_.Go.heap_alloc_new _ _) hb, (hJ1.wk fun _ _ => trivial).bel nb |>.bel hb, below_more hb1 (below_more nb hb)⟩
  have R2 := dRead_any 20001 (by decide) s (w1.alloc (.cells (jA ka ba ma ta qa la ca ra ia ja) 25))
  have HA : Hid ((16384 < s.size → k1 = 3 ∧ n1 = 0 ∧ x1 = zeroB) ∧ (s.size ≤ 16384 → match J.read 20001 (numsOf s) with
      | .ok v _ => k1 = 0 ∧ n1 = 0 ∧ x1.toJ = v
      | .bad e r => k1 = e ∧ n1 = s.size - r.length ∧ x1 = zeroB ∧ e ≠ 0
      | .out => False)) := ⟨a1, c1⟩
  unfold jA at R2 HX ⊢
  clear R1 hJ1 hb1 a1 c1 nb
  simp only []
  go_wp2_with fail
  refine R2.mono ?_
  rintro e w2 ⟨A2, x2, n2, k2, rfl, hJ2, hb2, a2, c2⟩
  obtain ⟨kb, bb, mb, tb, qb, lb, cb, rb, ib, jb, rfl⟩ := jin_form hJ2
  obtain ⟨hk, hn, hx⟩ := readp_one HA.out.1 HA.out.2 a2 c2
  subst hk
  subst hn
  subst hx
  have nb := below_new w2 (.cells (jA kb bb mb tb qb lb cb rb ib jb) 25)
  obtain ⟨G1, J1, B1⟩ := HX.out _ (below_more hb2 nb)
  have G2 := _root_.Go.heap_alloc_new w2 (.cells (jA kb bb mb tb qb lb cb rb ib jb) 25)
  have SM := dSame_yes _ x2 (Nat.le_refl _) _ _ _ _ _ J1 (hJ2.bel nb)
  obtain ⟨⟨z0, z1, z2, z3, z4, z5⟩, _, _, _, _, _, _⟩ := row6_cells G1
  obtain ⟨⟨y0, y1, y2, y3, y4, y5⟩, _, _, _, _, _, _⟩ := row6_cells G2
  have HB1 : Hid (Below W.heap.size W (w2.alloc (.cells (jA kb bb mb tb qb lb cb rb ib jb) 25))) := B1
  have e1 : ((k2 : Int) == (k2 : Int)) = true := beq_self_eq_true _
  have e2 : ((n2 : Int) == (n2 : Int)) = true := beq_self_eq_true _
  unfold jA at SM HB1 z0 z1 z2 z3 z4 z5 y0 y1 y2 y3 y4 y5 ⊢
  clear R2 hJ2 hb2 a2 c2 HA HX nb G1 J1 B1 G2
  simp only []
  go_wp2_with fail
  refine SM.mono ?_
  rintro e w3 ⟨rfl, hb3⟩
  have HBF : Hid (Below W.heap.size W w3) := below_more HB1.out hb3
  clear SM hb3 z0 z1 z2 z3 z4 z5 y0 y1 y2 y3 y4 y5
  simp only []
  go_wp2
  go_ret
  exact ⟨rfl, HBF.out⟩
end Go.Proofs.YtcfalgomcdmdhaaDoor
