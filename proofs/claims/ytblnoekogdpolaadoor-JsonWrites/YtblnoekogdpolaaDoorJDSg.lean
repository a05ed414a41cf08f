import Derived.Test.YtblnoekogdpolaaDoorJDSm
import Derived.Test.YtblnoekogdpolaaDoorJSmG
namespace Go.Proofs.YtblnoekogdpolaaDoor
open Go.RowKit Go.WideShapes Go.Joins
inductive DSgN (n : Nat) (ns ms : List ByteArray) (w : World) (t : Value) (wr : World) : Prop where
  | intro (k : Nat) (hk : k ≤ n) (ht : t = .int .i64 (k : Int)) (hb : Below w.heap.size w wr) (he : ∀ j, j < k → ns[j]? = ms[j]?)
set_option maxHeartbeats 8000000 in
set_option maxRecDepth 8000 in
theorem dsameG_walk (k k' : Nat) (b b' : Bool) (m m' : Int) (t t' : ByteArray) (ns ms : List ByteArray) (vs us : List JB) (nq iq nq' iq' : Option Addr) (nc ic nc' ic' : Nat) (F1 F2 : Nat → Array Value) (Z1 Z2 : Nat → Prop) (w : World) (PR : Prop) (hPR : Hid (PR ↔ JB.mk k b m t ns vs = JB.mk k' b' m' t' ms us))
    (hn1 : SsIn w Z1 nq ns) (hn2 : SsIn w Z2 nq' ms) (hnl : ns.length ≤ maxLen) (h1 : VsIn w Z1 iq F1 vs.length) (h2 : VsIn w Z2 iq' F2 us.length) (hl : vs.length ≤ maxLen)
    (hf1 : ∀ i x, vs[i]? = some x → JIn w Z1 (F1 i) x) (hf2 : ∀ i x, us[i]? = some x → JIn w Z2 (F2 i) x)
    (hcall : ∀ i x y, vs[i]? = some x → us[i]? = some y → ∀ w', Below w.heap.size w w' → Calls Tryd.prog 18 #[.agg (F1 i), .agg (F2 i)] w' fun e w'' => Says (x = y) w' e w'') :
    Calls Tryd.prog 18 #[.agg (jA k b m t nq ns.length nc iq vs.length ic), .agg (jA k' b' m' t' nq' ms.length nc' iq' us.length ic')] w fun e w' => Says PR w e w' := by
  have B1 := below_new w (.cells (jA k b m t nq ns.length nc iq vs.length ic) 25)
  have n1 := _root_.Go.heap_alloc_new w (.cells (jA k b m t nq ns.length nc iq vs.length ic) 25)
  have B2 := below_new (w.alloc (.cells (jA k b m t nq ns.length nc iq vs.length ic) 25)) (.cells (jA k' b' m' t' nq' ms.length nc' iq' us.length ic') 25)
  have n2 := _root_.Go.heap_alloc_new (w.alloc (.cells (jA k b m t nq ns.length nc iq vs.length ic) 25)) (.cells (jA k' b' m' t' nq' ms.length nc' iq' us.length ic') 25)
  rw [World.size_alloc] at n2
  have n1' := box_below n1 B2
  have BF := below_more B1 B2
  have HBF : Hid (Below w.heap.size w ((w.alloc (.cells (jA k b m t nq ns.length nc iq vs.length ic) 25)).alloc (.cells (jA k' b' m' t' nq' ms.length nc' iq' us.length ic') 25))) := BF
  obtain ⟨⟨r0, r1, r2, r3, r4, r5⟩, _, _, _, _, _, _⟩ := row6_cells n1'
  obtain ⟨⟨x0, x1, x2, x3, x4, x5⟩, _, _, _, _, _, _⟩ := row6_cells n2
  by_cases hk : ¬ (k = k')
  · have e0 : ((k : Int) == (k' : Int)) = false := by simpa using fun e : (k : Int) = (k' : Int) => hk (by omega)
    have e0n : ((k : Int) != (k' : Int)) = true := by simpa using fun e : (k : Int) = (k' : Int) => hk (by omega)
    have HN : Hid (¬ k = k') := hk
    unfold jA at HBF r0 r1 r2 r3 r4 r5 x0 x1 x2 x3 x4 x5 ⊢
    clear hk B1 n1 B2 n2 n1' BF hn1 hn2 hnl h1 h2 hl hf1 hf2 hcall
    go_enter Tryd.func18, Tryd.ntmps18
    go_wp2_with fail
    go_ret
    exact Says.no (fun e => HN.out (by have h9 := hPR.out.1 e; cases h9; rfl)) HBF.out
  have hk := Classical.not_not.1 hk
  subst hk
  have e0 : ((k : Int) == (k : Int)) = true := beq_self_eq_true _
  by_cases hb : ¬ (b = b')
  · have e1 : (b == b') = false := by simpa using hb
    have e1n : (b != b') = true := by simpa using hb
    have HN : Hid (¬ b = b') := hb
    unfold jA at HBF r0 r1 r2 r3 r4 r5 x0 x1 x2 x3 x4 x5 ⊢
    clear hb B1 n1 B2 n2 n1' BF hn1 hn2 hnl h1 h2 hl hf1 hf2 hcall
    go_enter Tryd.func18, Tryd.ntmps18
    go_wp2_with fail
    go_ret
    exact Says.no (fun e => HN.out (by have h9 := hPR.out.1 e; cases h9; rfl)) HBF.out
  have hb := Classical.not_not.1 hb
  subst hb
  have e1 : (b == b) = true := beq_self_eq_true _
  by_cases hm : ¬ (m = m')
  · have e2 : (m == m') = false := by simpa using hm
    have e2n : (m != m') = true := by simpa using hm
    have HN : Hid (¬ m = m') := hm
    unfold jA at HBF r0 r1 r2 r3 r4 r5 x0 x1 x2 x3 x4 x5 ⊢
    clear hm B1 n1 B2 n2 n1' BF hn1 hn2 hnl h1 h2 hl hf1 hf2 hcall
    go_enter Tryd.func18, Tryd.ntmps18
    go_wp2_with fail
    go_ret
    exact Says.no (fun e => HN.out (by have h9 := hPR.out.1 e; cases h9; rfl)) HBF.out
  have hm := Classical.not_not.1 hm
  subst hm
  have e2 : (m == m) = true := beq_self_eq_true _
  by_cases ht : ¬ (t = t')
  · have e3 : (t.toList == t'.toList) = false := (Lib.bytes_beq_false_iff _ _).2 ht
    have HN : Hid (¬ t = t') := ht
    unfold jA at HBF r0 r1 r2 r3 r4 r5 x0 x1 x2 x3 x4 x5 ⊢
    clear ht B1 n1 B2 n2 n1' BF hn1 hn2 hnl h1 h2 hl hf1 hf2 hcall
    go_enter Tryd.func18, Tryd.ntmps18
    go_wp2_with fail
    go_ret
    exact Says.no (fun e => HN.out (by have h9 := hPR.out.1 e; cases h9; rfl)) HBF.out
  have ht := Classical.not_not.1 ht
  subst ht
  have e3 : (t.toList == t.toList) = true := by simp
  by_cases hnn : ¬ (ns.length = ms.length)
  · have e4 : ((ns.length : Int) == (ms.length : Int)) = false := by simpa using fun e : (ns.length : Int) = (ms.length : Int) => hnn (by omega)
    have e4n : ((ns.length : Int) != (ms.length : Int)) = true := by simpa using fun e : (ns.length : Int) = (ms.length : Int) => hnn (by omega)
    have HN : Hid (¬ ns.length = ms.length) := hnn
    unfold jA at HBF r0 r1 r2 r3 r4 r5 x0 x1 x2 x3 x4 x5 ⊢
    clear hnn B1 n1 B2 n2 n1' BF hn1 hn2 hnl h1 h2 hl hf1 hf2 hcall
    go_enter Tryd.func18, Tryd.ntmps18
    go_wp2_with fail
    go_ret
    exact Says.no (fun e => HN.out (by have h9 := hPR.out.1 e; cases h9; rfl)) HBF.out
  have hnn := Classical.not_not.1 hnn
  by_cases hvv : ¬ (vs.length = us.length)
  · have e4 : ((ns.length : Int) == (ms.length : Int)) = true := by rw [hnn]; exact beq_self_eq_true _
    have e4n : ((ns.length : Int) != (ms.length : Int)) = false := by rw [hnn]; simp
    have e5n : ((vs.length : Int) != (us.length : Int)) = true := by simpa using fun e : (vs.length : Int) = (us.length : Int) => hvv (by omega)
    have e5 : ((vs.length : Int) == (us.length : Int)) = false := by simpa using fun e : (vs.length : Int) = (us.length : Int) => hvv (by omega)
    have HN : Hid (¬ vs.length = us.length) := hvv
    unfold jA at HBF r0 r1 r2 r3 r4 r5 x0 x1 x2 x3 x4 x5 ⊢
    clear hvv hnn B1 n1 B2 n2 n1' BF hn1 hn2 hnl h1 h2 hl hf1 hf2 hcall
    go_enter Tryd.func18, Tryd.ntmps18
    go_wp2_with fail
    go_ret
    exact Says.no (fun e => HN.out (by have h9 := hPR.out.1 e; cases h9; rfl)) HBF.out
  have hvv := Classical.not_not.1 hvv
  clear HBF
  rw [← hnn, ← hvv] at n1' n2 x0 x1 x2 x3 x4 x5 BF ⊢
  obtain ⟨W1, hW1⟩ : ∃ x, (w.alloc (.cells (jA k b m t nq ns.length nc iq vs.length ic) 25)).alloc (.cells (jA k b m t nq' ns.length nc' iq' vs.length ic') 25) = x := ⟨_, rfl⟩
  have HB : Hid (∀ w', Below W1.heap.size W1 w' → w'.heap[w.heap.size]? = some (.cells (jA k b m t nq ns.length nc iq vs.length ic) 25 (0, 0)) ∧ w'.heap[w.heap.size + 1]? = some (.cells (jA k b m t nq' ns.length nc' iq' vs.length ic') 25 (0, 0)) ∧ Below w.heap.size w w') := by
    rw [← hW1]
    exact fun w' hb => ⟨box_below n1' hb, box_below n2 hb, below_more BF hb⟩
  have HS : Hid (SsIn w Z1 nq ns ∧ SsIn w Z2 nq' ms ∧ ns.length ≤ maxLen ∧ VsIn w Z1 iq F1 vs.length ∧ VsIn w Z2 iq' F2 us.length ∧ vs.length ≤ maxLen) := ⟨hn1, hn2, hnl, h1, h2, hl⟩
  have HF : Hid ((∀ i x, vs[i]? = some x → JIn w Z1 (F1 i) x) ∧ (∀ i x, us[i]? = some x → JIn w Z2 (F2 i) x)) := ⟨hf1, hf2⟩
  have HC : Hid (∀ i x y, vs[i]? = some x → us[i]? = some y → ∀ w', Below w.heap.size w w' → Calls Tryd.prog 18 #[.agg (F1 i), .agg (F2 i)] w' fun e w'' => Says (x = y) w' e w'') := hcall
  obtain ⟨N, hN⟩ : ∃ n, ns.length = n := ⟨_, rfl⟩
  obtain ⟨M, hM⟩ : ∃ n, vs.length = n := ⟨_, rfl⟩
  have HNM : Hid (ns.length = N ∧ vs.length = M ∧ N ≤ maxLen ∧ M ≤ maxLen ∧ ms.length = N ∧ us.length = M) := ⟨hN, hM, by rw [← hN]; exact hnl, by rw [← hM]; exact hl, by omega, by omega⟩
  rw [hN, hM] at n1' n2 hW1 HB r0 r1 r2 r3 r4 r5 x0 x1 x2 x3 x4 x5 ⊢
  have e4 : ((N : Int) == (N : Int)) = true := beq_self_eq_true _
  have e5 : ((M : Int) == (M : Int)) = true := beq_self_eq_true _
  unfold jA at HB hW1 r0 r1 r2 r3 r4 r5 x0 x1 x2 x3 x4 x5 ⊢
  have HW1 : Hid (_ = W1) := hW1
  clear hnn hvv B1 n1 B2 n2 n1' BF hn1 hn2 hnl h1 h2 hl hf1 hf2 hcall hN hM hW1
  go_enter Tryd.func18, Tryd.ntmps18
  go_wp2_with fail
  rw [HW1.out]
  clear r0 r1 r2 r3 r4 r5 x0 x1 x2 x3 x4 x5 e0 e1 e2 e3 e4 e5
  go_loopw [5] (fun t wr => DSgN N ns ms W1 t wr) (fun t _ => N - (intOf t).toNat)
  case atStart => exact ⟨0, Nat.zero_le _, rfl, Below.refl _ _, fun j hj => absurd hj (Nat.not_lt_zero _)⟩
  case round =>
    obtain ⟨i, hi, rfl, hb, he⟩ := hrel
    have HE : Hid (∀ j, j < i → ns[j]? = ms[j]?) := he
    clear he
    obtain ⟨G1, G2, G3⟩ := HB.out wr hb
    obtain ⟨⟨r0, r1, r2, r3, r4, r5⟩, _, _, _, _, _, _⟩ := row6_cells G1
    obtain ⟨⟨x0, x1, x2, x3, x4, x5⟩, _, _, _, _, _, _⟩ := row6_cells G2
    by_cases hlt : i < N
    · have hiI : (i : Int) < (N : Int) := by omega
      have hi0 : (0 : Int) ≤ (i : Int) := by omega
      have hNm : (N : Int) ≤ 9223372036854775807 := by have := HNM.out.2.2.1; unfold maxLen at this; omega
      obtain ⟨ab, ao, rfl⟩ := HS.out.1.addr (by have := HNM.out.1; omega)
      obtain ⟨bb, bo, rfl⟩ := HS.out.2.1.addr (by have := HNM.out.2.2.2.2.1; omega)
      have y1 := below_cell (HS.out.1.at (i := i) (by have := HNM.out.1; omega)) G3
      have y2 := below_cell (HS.out.2.1.at (i := i) (by have := HNM.out.2.2.2.2.1; omega)) G3
      have HU : Hid (ns[i]? = some (ns.getD i ByteArray.empty) ∧ ms[i]? = some (ms.getD i ByteArray.empty)) := by
        refine ⟨?_, ?_⟩
        · rw [List.getD_eq_getElem?_getD, List.getElem?_eq_getElem (by have := HNM.out.1; omega)]; rfl
        · rw [List.getD_eq_getElem?_getD, List.getElem?_eq_getElem (by have := HNM.out.2.2.2.2.1; omega)]; rfl
      generalize ns.getD i ByteArray.empty = u at y1 HU
      generalize ms.getD i ByteArray.empty = u' at y2 HU
      have HQ : Hid (Below W1.heap.size W1 wr ∧ i < N ∧ Below w.heap.size w wr) := ⟨hb, hlt, G3⟩
      clear hb G1 G2 G3 hi hlt
      by_cases hu : u = u'
      · subst hu
        have e3 : (u.toList == u.toList) = true := by simp
        go_wp2_with fail
        go_quiet (fail)
        have HB1 : Hid (Below wr.heap.size wr (wr.drewN nq)) := below_dN (Below.refl _ _) _
        generalize wr.drewN nq = w2 at *
        go_wp2_with fail
        go_roundw
        case rel =>
          refine ⟨i + 1, by have := HQ.out.2.1; omega, by go_num, below_more HQ.out.1 HB1.out, fun j hj => ?_⟩
          rcases Nat.lt_or_ge j i with h | h
          · exact HE.out j h
          · obtain rfl : j = i := by omega
            rw [HU.out.1, HU.out.2]
        case measure => have := HQ.out.2.1; simp [intOf]; omega
      · have e3 : (u.toList == u'.toList) = false := (Lib.bytes_beq_false_iff _ _).2 hu
        have HN : Hid (¬ u = u') := hu
        clear hu
        go_wp2_with fail
        go_quiet (fail)
        have HB1 : Hid (Below wr.heap.size wr (wr.drewN nq)) := below_dN (Below.refl _ _) _
        generalize wr.drewN nq = w2 at *
        go_wp2_with fail
        go_ret
        refine Says.no (fun e => ?_) (below_more HQ.out.2.2 HB1.out)
        have e := hPR.out.1 e
        have h1 := HU.out.1
        have h2 := HU.out.2
        cases e
        rw [h1] at h2
        exact HN.out (Option.some.inj h2)
    · obtain rfl : i = N := by omega
      have HNE : Hid (ns = ms) := all_same HNM.out.1 HNM.out.2.2.2.2.1 HE.out
      have HQ : Hid (Below W1.heap.size W1 wr) := hb
      clear hb G1 G2 G3 hi hlt
      go_wp2_with fail
      clear r0 r1 r2 r3 r4 r5 x0 x1 x2 x3 x4 x5
      go_loopw [6] (fun t wr => SgI M vs us W1 t wr) (fun t _ => M - (intOf t).toNat)
      case atStart => exact ⟨0, Nat.zero_le _, rfl, HQ.out, fun j hj => absurd hj (Nat.not_lt_zero _)⟩
      case round =>
        obtain ⟨j, hj, rfl, hb, he⟩ := hrel
        have HE2 : Hid (∀ l, l < j → vs[l]? = us[l]?) := he
        clear he
        obtain ⟨G1, G2, G3⟩ := HB.out wr hb
        obtain ⟨⟨r0, r1, r2, r3, r4, r5⟩, _, _, _, _, _, _⟩ := row6_cells G1
        obtain ⟨⟨x0, x1, x2, x3, x4, x5⟩, _, _, _, _, _, _⟩ := row6_cells G2
        by_cases hlt : j < M
        · have hjI : (j : Int) < (M : Int) := by omega
          have hj0 : (0 : Int) ≤ (j : Int) := by omega
          have hMm : (M : Int) ≤ 9223372036854775807 := by have := HNM.out.2.2.2.1; unfold maxLen at this; omega
          have hjl : j < vs.length := by have := HNM.out.2.1; omega
          have hjl2 : j < us.length := by have := HNM.out.2.2.2.2.2; omega
          obtain ⟨x, hx⟩ : ∃ x, vs[j]? = some x := ⟨_, List.getElem?_eq_getElem hjl⟩
          obtain ⟨y, hy⟩ : ∃ y, us[j]? = some y := ⟨_, List.getElem?_eq_getElem hjl2⟩
          obtain ⟨ab, ao, rfl⟩ := HS.out.2.2.2.1.addr (by omega)
          obtain ⟨bb, bo, rfl⟩ := HS.out.2.2.2.2.1.addr (by omega)
          have hc1 := (HS.out.2.2.2.1.at hjl).2
          have hc2 := (HS.out.2.2.2.2.1.at hjl2).2
          obtain ⟨k1, b1, n1, t1, nq1, nl1, nc1, iq1, il1, ic1, hF1⟩ := jin_form (HF.out.1 j x hx)
          obtain ⟨k2, b2, n2, t2, nq2, nl2, nc2, iq2, il2, ic2, hF2⟩ := jin_form (HF.out.2 j y hy)
          have HCx := HC.out j x y hx hy
          rw [hF1] at hc1 HCx
          rw [hF2] at hc2 HCx
          obtain ⟨z0, z1, z2, z3, z4, z5⟩ := (jat_of hc1).below G3
          obtain ⟨y0, y1, y2, y3, y4, y5⟩ := (jat_of hc2).below G3
          unfold jA at HCx
          have HCH : Hid (∀ w', Below w.heap.size w w' → Calls Tryd.prog 18 #[.agg #[.int .u8 (k1 : Int), .bool b1, .int .i64 n1, .string t1, .slice nq1 nl1 nc1, .slice iq1 il1 ic1], .agg #[.int .u8 (k2 : Int), .bool b2, .int .i64 n2, .string t2, .slice nq2 nl2 nc2, .slice iq2 il2 ic2]] w' fun e w'' => Says (x = y) w' e w'') := HCx
          have HQ2 : Hid (Below W1.heap.size W1 wr ∧ j < M ∧ Below w.heap.size w wr ∧ vs[j]? = some x ∧ us[j]? = some y) := ⟨hb, hlt, G3, hx, hy⟩
          clear hb G1 G2 G3 hj hlt hc1 hc2 hF1 hF2 HCx hx hy hjl hjl2
          have HCR : Hid (∀ w', Below wr.heap.size wr w' → Calls Tryd.prog 18 #[.agg #[.int .u8 (k1 : Int), .bool b1, .int .i64 n1, .string t1, .slice nq1 nl1 nc1, .slice iq1 il1 ic1], .agg #[.int .u8 (k2 : Int), .bool b2, .int .i64 n2, .string t2, .slice nq2 nl2 nc2, .slice iq2 il2 ic2]] w' fun e w'' => Says (x = y) wr e w'') := fun w' hb =>
            (HCH.out w' (below_more HQ2.out.2.2.1 hb)).mono fun e w'' p => p.more hb
          go_wp2_with fail
          go_region_with (go_at_call 18; refine (HCR.out _ (by first | exact below_dN (Below.refl _ _) _ | exact (Below.refl _ _).drew | exact Below.refl _ _)).mono ?_; rintro e w3 ⟨⟨s, rfl, hs⟩, hb3⟩)
          all_goals
            cases s
            · go_wp2_with fail
              go_ret
              refine Says.no (fun e => ?_) (below_more HQ2.out.2.2.1 hb3)
              have e := hPR.out.1 e
              have h1 := HQ2.out.2.2.2.1
              have h2 := HQ2.out.2.2.2.2
              cases e
              rw [h1] at h2
              cases h2
              simp at hs
            · go_wp2_with fail
              go_roundw
              case rel =>
                refine ⟨j + 1, by have := HQ2.out.2.1; omega, by go_num, below_more HQ2.out.1 hb3, fun l hl => ?_⟩
                rcases Nat.lt_or_ge l j with h | h
                · exact HE2.out l h
                · obtain rfl : l = j := by omega
                  rw [HQ2.out.2.2.2.1, HQ2.out.2.2.2.2, hs.1 (by first | rfl | trivial)]
              case measure => have := HQ2.out.2.1; simp [intOf]; omega
        · obtain rfl : j = M := by omega
          have HQ2 : Hid (Below w.heap.size w wr) := G3
          clear hb G1 G2 G3 hj hlt
          go_wp2_with fail
          go_ret
          refine Says.yes (hPR.out.2 ?_) HQ2.out
          rw [HNE.out, all_same HNM.out.2.1 HNM.out.2.2.2.2.2 HE2.out]
theorem dSame_says : ∀ (f : Nat) (x y : JB), x.ht ≤ f → ∀ (A B : Array Value) (Z1 Z2 : Nat → Prop) (w : World), JIn w Z1 A x → JIn w Z2 B y →
    Calls Tryd.prog 18 #[.agg A, .agg B] w fun e w' => Says (x = y) w e w' := by
  intro f
  induction f with
  | zero =>
    intro x y hx
    cases x
    simp only [JB.ht] at hx
    omega
  | succ f ih =>
    intro x y hx A B Z1 Z2 w hA hB
    cases hA with
    | mk k b m t ns vs nq iq nc ic F1 hk hn hnc hic hnm him hnq hiq hN hI hR =>
      cases hB with
      | mk k' b' m' t' ns' vs' nq' iq' nc' ic' F2 hk' hn' hnc' hic' hnm' him' hnq' hiq' hN' hI' hR' =>
        simp only [JB.ht] at hx
        refine dsameG_walk k k' b b' m m' t t' ns ns' vs vs' nq iq nq' iq' nc ic nc' ic' F1 F2 Z1 Z2 w _ Iff.rfl hN hN' (Nat.le_trans hnc hnm) hI hI' (Nat.le_trans hic him) hR hR' ?_
        intro i x y hx' hy' w' hb
        exact ih x y (by have := ht_at hx'; omega) (F1 i) (F2 i) Z1 Z2 w' ((hR i x hx').bel hb) ((hR' i y hy').bel hb)
end Go.Proofs.YtblnoekogdpolaaDoor
