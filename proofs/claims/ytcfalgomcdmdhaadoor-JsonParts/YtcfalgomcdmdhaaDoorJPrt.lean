import Derived.Test.YtcfalgomcdmdhaaDoorJDPu
import Derived.Test.YtcfalgomcdmdhaaDoorJDSr
import Derived.Test.YtcfalgomcdmdhaaDoorJRows
import Derived.Test.YtcfalgomcdmdhaaDoorJDLw
namespace Go.Proofs.YtcfalgomcdmdhaaDoor
open Go.RowKit Go.WideShapes Go.Joins
theorem Rows_of {k : Nat} {b : Bool} {n : Int} {t : ByteArray} {nq : Option Addr} {nl nc : Nat} {iq : Option Addr} {il ic : Nat} {v : JB} (hf : Few v) (w : World) (h : JIn w Anyw (jA k b n t nq nl nc iq il ic) v) :
    Calls Tryd.prog 30 #[.slice iq il ic] w fun e w' => CopP (.mk 5 false 0 ⟨#[]⟩ [] v.items) w e w' := by
  cases hf with
  | mk k' b' n' t' ns vs hn hv hr =>
    generalize hA : jA k b n t nq nl nc iq il ic = A at h
    generalize hq : JB.mk k' b' n' t' ns vs = vv at h
    cases h with
    | mk k2 b2 n2 t2 ns2 vs2 nq2 iq2 nc2 ic2 F hk hn' hnc hic hnm him hnq hiq hN hI hR =>
      cases hq
      unfold jA at hA
      simp only [Array.mk.injEq, List.cons.injEq, Value.slice.injEq, and_true] at hA
      obtain ⟨_, _, _, _, _, rfl, rfl, rfl⟩ := hA
      exact Rows_any hv hr iq ic F _ w hI hR
theorem want_of {k : Nat} {b : Bool} {n : Int} {t : ByteArray} {nq : Option Addr} {nl nc : Nat} {iq : Option Addr} {il ic : Nat} {v : JB} {w : World} (h : JIn w Anyw (jA k b n t nq nl nc iq il ic) v) :
    JIn w Anyw (jA 5 false 0 ⟨#[]⟩ none 0 0 iq il ic) (.mk 5 false 0 ⟨#[]⟩ [] v.items) := by
  generalize hA : jA k b n t nq nl nc iq il ic = A at h
  cases h with
  | mk k2 b2 n2 t2 ns2 vs2 nq2 iq2 nc2 ic2 F hk hn' hnc hic hnm him hnq hiq hN hI hR =>
    unfold jA at hA
    simp only [Array.mk.injEq, List.cons.injEq, Value.slice.injEq, and_true] at hA
    obtain ⟨_, _, _, _, _, rfl, rfl, rfl⟩ := hA
    exact .mk 5 false 0 ⟨#[]⟩ [] vs2 none iq 0 ic F (by decide) rng_zero (Nat.le_refl _) hic (Nat.zero_le _) him (fun _ => rfl) hiq (ss_nil _ _ _) hI hR
theorem spoil_next {U : Nat → Prop} {wS w' : World} (hU : ∀ k, U k → k < wS.heap.size) (hs : SpW U wS w') {g f k : Nat} {b : Bool} {n : Int} {t : ByteArray} {nq : Option Addr} {nl nc : Nat} {iq : Option Addr} {il ic : Nat}
    (K : wS.heap[g]? = some (.cells (jA k b n t nq nl nc iq il ic) 25 (0, 0))) (S : Sp U wS f (jA k b n t nq nl nc iq il ic)) :
    ∃ (k' : Nat) (b' : Bool) (n' : Int) (t' : ByteArray) (nq' : Option Addr) (nl' nc' : Nat) (iq' : Option Addr) (il' ic' : Nat), (w'.cell? ⟨g, 0, none⟩ = some (.int .u8 (k' : Int)) ∧ w'.cell? ⟨g, 1, none⟩ = some (.bool b') ∧ w'.cell? ⟨g, 2, none⟩ = some (.int .i64 n') ∧ w'.cell? ⟨g, 3, none⟩ = some (.string t') ∧ w'.cell? ⟨g, 4, none⟩ = some (.slice nq' nl' nc') ∧ w'.cell? ⟨g, 5, none⟩ = some (.slice iq' il' ic')) ∧ Sp U w' f (jA k' b' n' t' nq' nl' nc' iq' il' ic') := by
  obtain ⟨k2, b2, n2, t2, nq2, nl2, nc2, iq2, il2, ic2, c2, x1, x2⟩ := six_kept hs (b := g) (o := 0) (fun j _ => by rw [Nat.zero_add, cell_of_block K])
  obtain ⟨z0, z1, z2, z3, z4, z5⟩ := jat_of c2
  exact ⟨k2, b2, n2, t2, nq2, nl2, nc2, iq2, il2, ic2, ⟨z0, z1, z2, z3, z4, z5⟩, sp_keep hU hs _ _ _ _ _ _ _ _ _ _ _ S _ _ _ _ _ _ _ _ _ _ x1 x2⟩
theorem jx_bel {w w' : World} {A : Array Value} {x : JB} (h : JIn w Anyw A x) (hb : Below w.heap.size w w') : JIn w' Anyw A x := h.bel hb
set_option maxHeartbeats 16000000 in
set_option maxRecDepth 8000 in
theorem parts_walk (A : Array Value) (v : JB) (name : ByteArray) (i : Int) (B : Array Value) (x : JB) (W : World) (hL : 8 ≤ W.heap.size ∧ Laid W) (hv : JIn W Anyw A v) (_ : name.size ≤ maxLen) (hx : JIn W Anyw B x) (fv : Few v) (fx : Few x) :
    Calls Tryd.prog 6 #[.agg A, .string name, .int .i64 i, .agg B] W fun e W' => e = .returned (.bool true) ∧ Below W.heap.size W W' := by
  obtain ⟨k0, b0, n0, t0, nq0, nl0, nc0, iq0, il0, ic0, rfl⟩ := jin_form hv
  obtain ⟨k1, b1, n1, t1, nq1, nl1, nc1, iq1, il1, ic1, rfl⟩ := jin_form hx
  have HF : Hid (Few v ∧ Few x) := ⟨fv, fx⟩
  have hb0 := below_new W (.cells (jA k0 b0 n0 t0 nq0 nl0 nc0 iq0 il0 ic0) 25)
  have Kv := _root_.Go.heap_alloc_new W (.cells (jA k0 b0 n0 t0 nq0 nl0 nc0 iq0 il0 ic0) 25)
  have hb1 := below_new (W.alloc (.cells (jA k0 b0 n0 t0 nq0 nl0 nc0 iq0 il0 ic0) 25)) (.cells (jA k1 b1 n1 t1 nq1 nl1 nc1 iq1 il1 ic1) 25)
  have Kx := _root_.Go.heap_alloc_new (W.alloc (.cells (jA k0 b0 n0 t0 nq0 nl0 nc0 iq0 il0 ic0) 25)) (.cells (jA k1 b1 n1 t1 nq1 nl1 nc1 iq1 il1 ic1) 25)
  rw [World.size_alloc] at Kx
  replace Kv := box_below Kv hb1
  have HB := below_more hb0 hb1
  obtain ⟨w0, hW0⟩ : ∃ u, (W.alloc (.cells (jA k0 b0 n0 t0 nq0 nl0 nc0 iq0 il0 ic0) 25)).alloc (.cells (jA k1 b1 n1 t1 nq1 nl1 nc1 iq1 il1 ic1) 25) = u := ⟨_, rfl⟩
  rw [hW0] at Kv Kx HB
  have Jv := jx_bel hv HB
  have Jx := jx_bel hx HB
  have L0 : 8 ≤ w0.heap.size ∧ Laid w0 := ⟨Nat.le_trans hL.1 HB.size, hL.2.below HB hL.1⟩
  clear hb0 hb1 hv hx hL fv fx
  have GV := great_any _ v Anyw w0 Jv
  unfold jA at *
  have HW0 : Hid (_ = w0) := hW0
  clear hW0
  go_enter Tryd.func6, Tryd.ntmps6
  go_upto_region 1 with fail
  rw [HW0.out]
  obtain ⟨⟨v0, v1, v2, v3, v4, v5⟩, _, _, _, _, _, _⟩ := row6_cells Kv
  obtain ⟨⟨x0, x1, x2, x3, x4, x5⟩, _, _, _, _, _, _⟩ := row6_cells Kx
  go_wp2_with fail
  refine GV.mono ?_
  rintro e w1 ⟨⟨g, rfl⟩, hb⟩
  have HBt := below_more HB hb
  cases g with
  | true =>
    go_wp2_with fail
    go_ret
    exact ⟨rfl, HBt⟩
  | false =>
  have GX := great_any _ x Anyw w1 (jx_bel Jx hb)
  unfold jA at GX
  replace Kv := box_below Kv hb
  replace Kx := box_below Kx hb
  replace Jv := jx_bel Jv hb
  replace Jx := jx_bel Jx hb
  have L1 : 8 ≤ w1.heap.size ∧ Laid w1 := ⟨Nat.le_trans L0.1 hb.size, L0.2.below hb L0.1⟩
  clear GV hb HB L0 v0 v1 v2 v3 v4 v5 x0 x1 x2 x3 x4 x5
  obtain ⟨⟨x0, x1, x2, x3, x4, x5⟩, _, _, _, _, _, _⟩ := row6_cells Kx
  simp only []
  go_wp2_with fail
  refine GX.mono ?_
  rintro e w2 ⟨⟨g, rfl⟩, hb⟩
  replace HBt := below_more HBt hb
  cases g with
  | true =>
    go_wp2_with fail
    go_ret
    exact ⟨rfl, HBt⟩
  | false =>
  replace Kv := box_below Kv hb
  replace Kx := box_below Kx hb
  replace Jv := jx_bel Jv hb
  replace Jx := jx_bel Jx hb
  have L2 : 8 ≤ w2.heap.size ∧ Laid w2 := ⟨Nat.le_trans L1.1 hb.size, L1.2.below hb L1.1⟩
  clear GX hb L1 x0 x1 x2 x3 x4 x5
  by_cases hn : 18000 < name.size
  · have hnI : 18000 < (name.size : Int) := by omega
    clear hn
    go_wp2_with fail
    go_ret
    exact ⟨rfl, HBt⟩
  have hnI : ¬ 18000 < (name.size : Int) := by omega
  clear hn
  obtain ⟨⟨v0, v1, v2, v3, v4, v5⟩, _, _, _, _, _, _⟩ := row6_cells Kv
  have CX := dTwin_any HF.out.1 _ Anyw w2 Jv
  unfold jA at CX
  go_wp2_with fail
  refine CX.mono ?_
  rintro e w3 ⟨A, rfl, hJ, hb⟩
  clear CX v0 v1 v2 v3 v4 v5
  replace HBt := below_more HBt hb
  replace Kv := box_below Kv hb
  replace Kx := box_below Kx hb
  replace Jv := jx_bel Jv hb
  replace Jx := jx_bel Jx hb
  have L3 : 8 ≤ w3.heap.size ∧ Laid w3 := ⟨Nat.le_trans L2.1 hb.size, L2.2.below hb L2.1⟩
  clear hb L2
  obtain ⟨k20, b20, n20, t20, nq20, nl20, nc20, iq20, il20, ic20, rfl⟩ := jin_form hJ
  unfold jA at hJ ⊢
  have Jo := hJ.any
  clear hJ
  simp only []
  go_upto_region 4 with fail
  have hb := below_new w3 (.cells #[.int .u8 (k20 : Int), .bool b20, .int .i64 n20, .string t20, .slice nq20 nl20 nc20, .slice iq20 il20 ic20] 25)
  have Ko := _root_.Go.heap_alloc_new w3 (.cells #[.int .u8 (k20 : Int), .bool b20, .int .i64 n20, .string t20, .slice nq20 nl20 nc20, .slice iq20 il20 ic20] 25)
  generalize w3.alloc (.cells #[.int .u8 (k20 : Int), .bool b20, .int .i64 n20, .string t20, .slice nq20 nl20 nc20, .slice iq20 il20 ic20] 25) = w4 at hb Ko ⊢
  replace HBt := below_more HBt hb
  replace Kv := box_below Kv hb
  replace Kx := box_below Kx hb
  replace Jv := jx_bel Jv hb
  replace Jx := jx_bel Jx hb
  replace Jo := jx_bel Jo hb
  have L4 : 8 ≤ w4.heap.size ∧ Laid w4 := ⟨Nat.le_trans L3.1 hb.size, L3.2.below hb L3.1⟩
  clear hb L3
  obtain ⟨Bo, hBo⟩ : ∃ u, w3.heap.size = u := ⟨_, rfl⟩
  rw [hBo] at Ko ⊢
  clear hBo
  obtain ⟨⟨x0, x1, x2, x3, x4, x5⟩, _, _, _, _, _, _⟩ := row6_cells Kx
  have CX := dTwin_any HF.out.2 _ Anyw w4 Jx
  unfold jA at CX
  go_wp2_with fail
  refine CX.mono ?_
  rintro e w5 ⟨A, rfl, hJ, hb⟩
  clear CX x0 x1 x2 x3 x4 x5
  replace HBt := below_more HBt hb
  replace Kv := box_below Kv hb
  replace Kx := box_below Kx hb
  replace Ko := box_below Ko hb
  replace Jv := jx_bel Jv hb
  replace Jx := jx_bel Jx hb
  replace Jo := jx_bel Jo hb
  have L5 : 8 ≤ w5.heap.size ∧ Laid w5 := ⟨Nat.le_trans L4.1 hb.size, L4.2.below hb L4.1⟩
  clear hb L4
  obtain ⟨k21, b21, n21, t21, nq21, nl21, nc21, iq21, il21, ic21, rfl⟩ := jin_form hJ
  unfold jA at hJ ⊢
  have Jz := hJ.any
  clear hJ
  simp only []
  go_upto_region 5 with fail
  have hb := below_new w5 (.cells #[.int .u8 (k21 : Int), .bool b21, .int .i64 n21, .string t21, .slice nq21 nl21 nc21, .slice iq21 il21 ic21] 25)
  have Kz := _root_.Go.heap_alloc_new w5 (.cells #[.int .u8 (k21 : Int), .bool b21, .int .i64 n21, .string t21, .slice nq21 nl21 nc21, .slice iq21 il21 ic21] 25)
  generalize w5.alloc (.cells #[.int .u8 (k21 : Int), .bool b21, .int .i64 n21, .string t21, .slice nq21 nl21 nc21, .slice iq21 il21 ic21] 25) = w6 at hb Kz ⊢
  replace HBt := below_more HBt hb
  replace Kv := box_below Kv hb
  replace Kx := box_below Kx hb
  replace Ko := box_below Ko hb
  replace Jv := jx_bel Jv hb
  replace Jx := jx_bel Jx hb
  replace Jo := jx_bel Jo hb
  replace Jz := jx_bel Jz hb
  have L6 : 8 ≤ w6.heap.size ∧ Laid w6 := ⟨Nat.le_trans L5.1 hb.size, L5.2.below hb L5.1⟩
  clear hb L5
  obtain ⟨Bz, hBz⟩ : ∃ u, w5.heap.size = u := ⟨_, rfl⟩
  rw [hBz] at Kz ⊢
  clear hBz
  have HBB : Below w6.heap.size w6 w6 := Below.refl _ _
  have HOW : Hid (JIn w6 Anyw _ v ∧ JIn w6 Anyw _ x ∧ JIn w6 Anyw _ v ∧ JIn w6 Anyw _ x ∧ Below W.heap.size W w6) := ⟨Jo, Jz, Jv, Jx, HBt⟩
  have HKW : Hid (w6.heap[_]? = _ ∧ w6.heap[_]? = _ ∧ w6.heap[_]? = _ ∧ w6.heap[_]? = _) := ⟨Ko, Kz, Kv, Kx⟩
  obtain ⟨r, hr⟩ : ∃ r, getB v name = r := ⟨_, rfl⟩
  obtain ⟨s, hs⟩ : ∃ s, atB v i = s := ⟨_, rfl⟩
  obtain ⟨E, hE⟩ : ∃ E, putK v.kind v name (withB v.names v.items name x) = E := ⟨_, rfl⟩
  obtain ⟨y, hy⟩ : ∃ y, withB v.names v.items name x = y := ⟨_, rfl⟩
  have HR : Hid (getB v name = r ∧ atB v i = s ∧ putK v.kind v name (withB v.names v.items name x) = E ∧ withB v.names v.items name x = y) := ⟨hr, hs, hE, hy⟩
  clear hr hs hE hy
  obtain ⟨⟨o0, o1, o2, o3, o4, o5⟩, _, _, _, _, _, _⟩ := row6_cells Ko
  have CX := Get_any HF.out.1 _ Anyw name w6 Jo
  unfold jA at CX
  go_wp2_with fail
  refine CX.mono ?_
  rintro e w7 ⟨A, rfl, hJ, hb⟩
  replace hJ := hJ.wk (Z' := Fr w6.heap.size w7) fun b hb => ⟨Nat.le_trans HBB.size hb.1, hb.2⟩
  clear CX o0 o1 o2 o3 o4 o5
  replace HBt := below_more HBt hb
  replace Kv := box_below Kv hb
  replace Kx := box_below Kx hb
  replace Ko := box_below Ko hb
  replace Kz := box_below Kz hb
  replace Jv := jx_bel Jv hb
  replace Jx := jx_bel Jx hb
  replace Jo := jx_bel Jo hb
  replace Jz := jx_bel Jz hb
  have L7 : 8 ≤ w7.heap.size ∧ Laid w7 := ⟨Nat.le_trans L6.1 hb.size, L6.2.below hb L6.1⟩
  replace HBB := below_more HBB hb
  clear hb L6
  obtain ⟨k22, b22, n22, t22, nq22, nl22, nc22, iq22, il22, ic22, rfl⟩ := jin_form hJ
  unfold jA at hJ ⊢
  have Ja := hJ
  clear hJ
  simp only []
  go_upto_region 6 with fail
  have hb := below_new w7 (.cells #[.int .u8 (k22 : Int), .bool b22, .int .i64 n22, .string t22, .slice nq22 nl22 nc22, .slice iq22 il22 ic22] 25)
  have Ka := _root_.Go.heap_alloc_new w7 (.cells #[.int .u8 (k22 : Int), .bool b22, .int .i64 n22, .string t22, .slice nq22 nl22 nc22, .slice iq22 il22 ic22] 25)
  generalize w7.alloc (.cells #[.int .u8 (k22 : Int), .bool b22, .int .i64 n22, .string t22, .slice nq22 nl22 nc22, .slice iq22 il22 ic22] 25) = w8 at hb Ka ⊢
  replace HBt := below_more HBt hb
  replace Kv := box_below Kv hb
  replace Kx := box_below Kx hb
  replace Ko := box_below Ko hb
  replace Kz := box_below Kz hb
  replace Jv := jx_bel Jv hb
  replace Jx := jx_bel Jx hb
  replace Jo := jx_bel Jo hb
  replace Jz := jx_bel Jz hb
  replace Ja := jin_frb Ja hb (Nat.le_refl _)
  have L8 : 8 ≤ w8.heap.size ∧ Laid w8 := ⟨Nat.le_trans L7.1 hb.size, L7.2.below hb L7.1⟩
  replace HBB := below_more HBB hb
  clear hb L7
  obtain ⟨Ba, hBa⟩ : ∃ u, w7.heap.size = u := ⟨_, rfl⟩
  rw [hBa] at Ka ⊢
  clear hBa
  rw [HR.out.1] at Ja ⊢
  obtain ⟨⟨v0, v1, v2, v3, v4, v5⟩, _, _, _, _, _, _⟩ := row6_cells Kv
  have CX := dGet_any _ v Anyw name w8 Jv
  unfold jA at CX
  go_wp2_with fail
  refine CX.mono ?_
  rintro e w9 ⟨A, rfl, hJ, hb⟩
  clear CX v0 v1 v2 v3 v4 v5
  replace HBt := below_more HBt hb
  replace Kv := box_below Kv hb
  replace Kx := box_below Kx hb
  replace Ko := box_below Ko hb
  replace Kz := box_below Kz hb
  replace Ka := box_below Ka hb
  replace Jv := jx_bel Jv hb
  replace Jx := jx_bel Jx hb
  replace Jo := jx_bel Jo hb
  replace Jz := jx_bel Jz hb
  replace Ja := jin_frb Ja hb (Nat.le_refl _)
  have L9 : 8 ≤ w9.heap.size ∧ Laid w9 := ⟨Nat.le_trans L8.1 hb.size, L8.2.below hb L8.1⟩
  replace HBB := below_more HBB hb
  clear hb L8
  obtain ⟨k23, b23, n23, t23, nq23, nl23, nc23, iq23, il23, ic23, rfl⟩ := jin_form hJ
  unfold jA at hJ ⊢
  have Jb := hJ.any
  clear hJ
  simp only []
  go_upto_region 7 with fail
  have hb := below_new w9 (.cells #[.int .u8 (k23 : Int), .bool b23, .int .i64 n23, .string t23, .slice nq23 nl23 nc23, .slice iq23 il23 ic23] 25)
  have Kb := _root_.Go.heap_alloc_new w9 (.cells #[.int .u8 (k23 : Int), .bool b23, .int .i64 n23, .string t23, .slice nq23 nl23 nc23, .slice iq23 il23 ic23] 25)
  generalize w9.alloc (.cells #[.int .u8 (k23 : Int), .bool b23, .int .i64 n23, .string t23, .slice nq23 nl23 nc23, .slice iq23 il23 ic23] 25) = w10 at hb Kb ⊢
  replace HBt := below_more HBt hb
  replace Kv := box_below Kv hb
  replace Kx := box_below Kx hb
  replace Ko := box_below Ko hb
  replace Kz := box_below Kz hb
  replace Ka := box_below Ka hb
  replace Jv := jx_bel Jv hb
  replace Jx := jx_bel Jx hb
  replace Jo := jx_bel Jo hb
  replace Jz := jx_bel Jz hb
  replace Ja := jin_frb Ja hb (Nat.le_refl _)
  replace Jb := jx_bel Jb hb
  have L10 : 8 ≤ w10.heap.size ∧ Laid w10 := ⟨Nat.le_trans L9.1 hb.size, L9.2.below hb L9.1⟩
  replace HBB := below_more HBB hb
  clear hb L9
  obtain ⟨Bb, hBb⟩ : ∃ u, w9.heap.size = u := ⟨_, rfl⟩
  rw [hBb] at Kb ⊢
  clear hBb
  rw [HR.out.1] at Jb ⊢
  obtain ⟨⟨o0, o1, o2, o3, o4, o5⟩, _, _, _, _, _, _⟩ := row6_cells Ko
  have CX := At_any HF.out.1 _ Anyw i w10 Jo
  unfold jA at CX
  go_wp2_with fail
  refine CX.mono ?_
  rintro e w11 ⟨A, rfl, hJ, hb⟩
  replace hJ := hJ.wk (Z' := Fr w6.heap.size w11) fun b hb => ⟨Nat.le_trans HBB.size hb.1, hb.2⟩
  clear CX o0 o1 o2 o3 o4 o5
  replace HBt := below_more HBt hb
  replace Kv := box_below Kv hb
  replace Kx := box_below Kx hb
  replace Ko := box_below Ko hb
  replace Kz := box_below Kz hb
  replace Ka := box_below Ka hb
  replace Kb := box_below Kb hb
  replace Jv := jx_bel Jv hb
  replace Jx := jx_bel Jx hb
  replace Jo := jx_bel Jo hb
  replace Jz := jx_bel Jz hb
  replace Ja := jin_frb Ja hb (Nat.le_refl _)
  replace Jb := jx_bel Jb hb
  have L11 : 8 ≤ w11.heap.size ∧ Laid w11 := ⟨Nat.le_trans L10.1 hb.size, L10.2.below hb L10.1⟩
  replace HBB := below_more HBB hb
  clear hb L10
  obtain ⟨k24, b24, n24, t24, nq24, nl24, nc24, iq24, il24, ic24, rfl⟩ := jin_form hJ
  unfold jA at hJ ⊢
  have Jc := hJ
  clear hJ
  simp only []
  go_upto_region 8 with fail
  have hb := below_new w11 (.cells #[.int .u8 (k24 : Int), .bool b24, .int .i64 n24, .string t24, .slice nq24 nl24 nc24, .slice iq24 il24 ic24] 25)
  have Kc := _root_.Go.heap_alloc_new w11 (.cells #[.int .u8 (k24 : Int), .bool b24, .int .i64 n24, .string t24, .slice nq24 nl24 nc24, .slice iq24 il24 ic24] 25)
  generalize w11.alloc (.cells #[.int .u8 (k24 : Int), .bool b24, .int .i64 n24, .string t24, .slice nq24 nl24 nc24, .slice iq24 il24 ic24] 25) = w12 at hb Kc ⊢
  replace HBt := below_more HBt hb
  replace Kv := box_below Kv hb
  replace Kx := box_below Kx hb
  replace Ko := box_below Ko hb
  replace Kz := box_below Kz hb
  replace Ka := box_below Ka hb
  replace Kb := box_below Kb hb
  replace Jv := jx_bel Jv hb
  replace Jx := jx_bel Jx hb
  replace Jo := jx_bel Jo hb
  replace Jz := jx_bel Jz hb
  replace Ja := jin_frb Ja hb (Nat.le_refl _)
  replace Jb := jx_bel Jb hb
  replace Jc := jin_frb Jc hb (Nat.le_refl _)
  have L12 : 8 ≤ w12.heap.size ∧ Laid w12 := ⟨Nat.le_trans L11.1 hb.size, L11.2.below hb L11.1⟩
  replace HBB := below_more HBB hb
  clear hb L11
  obtain ⟨Bc, hBc⟩ : ∃ u, w11.heap.size = u := ⟨_, rfl⟩
  rw [hBc] at Kc ⊢
  clear hBc
  rw [HR.out.2.1] at Jc ⊢
  obtain ⟨⟨v0, v1, v2, v3, v4, v5⟩, _, _, _, _, _, _⟩ := row6_cells Kv
  have CX := dAt_any _ v Anyw i w12 Jv
  unfold jA at CX
  go_wp2_with fail
  refine CX.mono ?_
  rintro e w13 ⟨A, rfl, hJ, hb⟩
  clear CX v0 v1 v2 v3 v4 v5
  replace HBt := below_more HBt hb
  replace Kv := box_below Kv hb
  replace Kx := box_below Kx hb
  replace Ko := box_below Ko hb
  replace Kz := box_below Kz hb
  replace Ka := box_below Ka hb
  replace Kb := box_below Kb hb
  replace Kc := box_below Kc hb
  replace Jv := jx_bel Jv hb
  replace Jx := jx_bel Jx hb
  replace Jo := jx_bel Jo hb
  replace Jz := jx_bel Jz hb
  replace Ja := jin_frb Ja hb (Nat.le_refl _)
  replace Jb := jx_bel Jb hb
  replace Jc := jin_frb Jc hb (Nat.le_refl _)
  have L13 : 8 ≤ w13.heap.size ∧ Laid w13 := ⟨Nat.le_trans L12.1 hb.size, L12.2.below hb L12.1⟩
  replace HBB := below_more HBB hb
  clear hb L12
  obtain ⟨k25, b25, n25, t25, nq25, nl25, nc25, iq25, il25, ic25, rfl⟩ := jin_form hJ
  unfold jA at hJ ⊢
  have Jd := hJ.any
  clear hJ
  simp only []
  go_upto_region 9 with fail
  have hb := below_new w13 (.cells #[.int .u8 (k25 : Int), .bool b25, .int .i64 n25, .string t25, .slice nq25 nl25 nc25, .slice iq25 il25 ic25] 25)
  have Kd := _root_.Go.heap_alloc_new w13 (.cells #[.int .u8 (k25 : Int), .bool b25, .int .i64 n25, .string t25, .slice nq25 nl25 nc25, .slice iq25 il25 ic25] 25)
  generalize w13.alloc (.cells #[.int .u8 (k25 : Int), .bool b25, .int .i64 n25, .string t25, .slice nq25 nl25 nc25, .slice iq25 il25 ic25] 25) = w14 at hb Kd ⊢
  replace HBt := below_more HBt hb
  replace Kv := box_below Kv hb
  replace Kx := box_below Kx hb
  replace Ko := box_below Ko hb
  replace Kz := box_below Kz hb
  replace Ka := box_below Ka hb
  replace Kb := box_below Kb hb
  replace Kc := box_below Kc hb
  replace Jv := jx_bel Jv hb
  replace Jx := jx_bel Jx hb
  replace Jo := jx_bel Jo hb
  replace Jz := jx_bel Jz hb
  replace Ja := jin_frb Ja hb (Nat.le_refl _)
  replace Jb := jx_bel Jb hb
  replace Jc := jin_frb Jc hb (Nat.le_refl _)
  replace Jd := jx_bel Jd hb
  have L14 : 8 ≤ w14.heap.size ∧ Laid w14 := ⟨Nat.le_trans L13.1 hb.size, L13.2.below hb L13.1⟩
  replace HBB := below_more HBB hb
  clear hb L13
  obtain ⟨Bd, hBd⟩ : ∃ u, w13.heap.size = u := ⟨_, rfl⟩
  rw [hBd] at Kd ⊢
  clear hBd
  rw [HR.out.2.1] at Jd ⊢
  obtain ⟨⟨o0, o1, o2, o3, o4, o5⟩, _, _, _, _, _, _⟩ := row6_cells Ko
  obtain ⟨⟨z0, z1, z2, z3, z4, z5⟩, _, _, _, _, _, _⟩ := row6_cells Kz
  have CX := Put_any _ v Anyw name _ x Anyw w14 L14.1 L14.2 Jo Jz
  unfold jA at CX
  go_wp2_with fail
  refine CX.mono ?_
  rintro e w15 ⟨A, rfl, hJ, hb⟩
  replace hJ := hJ.wk (Z' := Fr w6.heap.size w15) fun b hb => ⟨Nat.le_trans HBB.size hb.1, hb.2⟩
  clear CX o0 o1 o2 o3 o4 o5 z0 z1 z2 z3 z4 z5
  replace HBt := below_more HBt hb
  replace Kv := box_below Kv hb
  replace Kx := box_below Kx hb
  replace Ko := box_below Ko hb
  replace Kz := box_below Kz hb
  replace Ka := box_below Ka hb
  replace Kb := box_below Kb hb
  replace Kc := box_below Kc hb
  replace Kd := box_below Kd hb
  replace Jv := jx_bel Jv hb
  replace Jx := jx_bel Jx hb
  replace Jo := jx_bel Jo hb
  replace Jz := jx_bel Jz hb
  replace Ja := jin_frb Ja hb (Nat.le_refl _)
  replace Jb := jx_bel Jb hb
  replace Jc := jin_frb Jc hb (Nat.le_refl _)
  replace Jd := jx_bel Jd hb
  have L15 : 8 ≤ w15.heap.size ∧ Laid w15 := ⟨Nat.le_trans L14.1 hb.size, L14.2.below hb L14.1⟩
  replace HBB := below_more HBB hb
  clear hb L14
  obtain ⟨k26, b26, n26, t26, nq26, nl26, nc26, iq26, il26, ic26, rfl⟩ := jin_form hJ
  unfold jA at hJ ⊢
  have Jp := hJ
  clear hJ
  simp only []
  go_upto_region 10 with fail
  have hb := below_new w15 (.cells #[.int .u8 (k26 : Int), .bool b26, .int .i64 n26, .string t26, .slice nq26 nl26 nc26, .slice iq26 il26 ic26] 25)
  have Kp := _root_.Go.heap_alloc_new w15 (.cells #[.int .u8 (k26 : Int), .bool b26, .int .i64 n26, .string t26, .slice nq26 nl26 nc26, .slice iq26 il26 ic26] 25)
  generalize w15.alloc (.cells #[.int .u8 (k26 : Int), .bool b26, .int .i64 n26, .string t26, .slice nq26 nl26 nc26, .slice iq26 il26 ic26] 25) = w16 at hb Kp ⊢
  replace HBt := below_more HBt hb
  replace Kv := box_below Kv hb
  replace Kx := box_below Kx hb
  replace Ko := box_below Ko hb
  replace Kz := box_below Kz hb
  replace Ka := box_below Ka hb
  replace Kb := box_below Kb hb
  replace Kc := box_below Kc hb
  replace Kd := box_below Kd hb
  replace Jv := jx_bel Jv hb
  replace Jx := jx_bel Jx hb
  replace Jo := jx_bel Jo hb
  replace Jz := jx_bel Jz hb
  replace Ja := jin_frb Ja hb (Nat.le_refl _)
  replace Jb := jx_bel Jb hb
  replace Jc := jin_frb Jc hb (Nat.le_refl _)
  replace Jd := jx_bel Jd hb
  replace Jp := jin_frb Jp hb (Nat.le_refl _)
  have L16 : 8 ≤ w16.heap.size ∧ Laid w16 := ⟨Nat.le_trans L15.1 hb.size, L15.2.below hb L15.1⟩
  replace HBB := below_more HBB hb
  clear hb L15
  obtain ⟨Bp, hBp⟩ : ∃ u, w15.heap.size = u := ⟨_, rfl⟩
  rw [hBp] at Kp ⊢
  clear hBp
  rw [HR.out.2.2.1] at Jp ⊢
  rw [HR.out.2.2.2] at Jp
  obtain ⟨⟨v0, v1, v2, v3, v4, v5⟩, _, _, _, _, _, _⟩ := row6_cells Kv
  obtain ⟨⟨x0, x1, x2, x3, x4, x5⟩, _, _, _, _, _, _⟩ := row6_cells Kx
  have CX := dPut_any _ v Anyw name _ x Anyw w16 Jv Jx
  unfold jA at CX
  go_wp2_with fail
  refine CX.mono ?_
  rintro e w17 ⟨A, ZZ, rfl, hJ, hb⟩
  clear CX v0 v1 v2 v3 v4 v5 x0 x1 x2 x3 x4 x5
  replace HBt := below_more HBt hb
  replace Kv := box_below Kv hb
  replace Kx := box_below Kx hb
  replace Ko := box_below Ko hb
  replace Kz := box_below Kz hb
  replace Ka := box_below Ka hb
  replace Kb := box_below Kb hb
  replace Kc := box_below Kc hb
  replace Kd := box_below Kd hb
  replace Kp := box_below Kp hb
  replace Jv := jx_bel Jv hb
  replace Jx := jx_bel Jx hb
  replace Jo := jx_bel Jo hb
  replace Jz := jx_bel Jz hb
  replace Ja := jin_frb Ja hb (Nat.le_refl _)
  replace Jb := jx_bel Jb hb
  replace Jc := jin_frb Jc hb (Nat.le_refl _)
  replace Jd := jx_bel Jd hb
  replace Jp := jin_frb Jp hb (Nat.le_refl _)
  have L17 : 8 ≤ w17.heap.size ∧ Laid w17 := ⟨Nat.le_trans L16.1 hb.size, L16.2.below hb L16.1⟩
  replace HBB := below_more HBB hb
  clear hb L16
  obtain ⟨k27, b27, n27, t27, nq27, nl27, nc27, iq27, il27, ic27, rfl⟩ := jin_form hJ
  unfold jA at hJ ⊢
  have Jq := hJ.any
  clear hJ
  simp only []
  go_upto_region 11 with fail
  have hb := below_new w17 (.cells #[.int .u8 (k27 : Int), .bool b27, .int .i64 n27, .string t27, .slice nq27 nl27 nc27, .slice iq27 il27 ic27] 25)
  have Kq := _root_.Go.heap_alloc_new w17 (.cells #[.int .u8 (k27 : Int), .bool b27, .int .i64 n27, .string t27, .slice nq27 nl27 nc27, .slice iq27 il27 ic27] 25)
  generalize w17.alloc (.cells #[.int .u8 (k27 : Int), .bool b27, .int .i64 n27, .string t27, .slice nq27 nl27 nc27, .slice iq27 il27 ic27] 25) = w18 at hb Kq ⊢
  replace HBt := below_more HBt hb
  replace Kv := box_below Kv hb
  replace Kx := box_below Kx hb
  replace Ko := box_below Ko hb
  replace Kz := box_below Kz hb
  replace Ka := box_below Ka hb
  replace Kb := box_below Kb hb
  replace Kc := box_below Kc hb
  replace Kd := box_below Kd hb
  replace Kp := box_below Kp hb
  replace Jv := jx_bel Jv hb
  replace Jx := jx_bel Jx hb
  replace Jo := jx_bel Jo hb
  replace Jz := jx_bel Jz hb
  replace Ja := jin_frb Ja hb (Nat.le_refl _)
  replace Jb := jx_bel Jb hb
  replace Jc := jin_frb Jc hb (Nat.le_refl _)
  replace Jd := jx_bel Jd hb
  replace Jp := jin_frb Jp hb (Nat.le_refl _)
  replace Jq := jx_bel Jq hb
  have L18 : 8 ≤ w18.heap.size ∧ Laid w18 := ⟨Nat.le_trans L17.1 hb.size, L17.2.below hb L17.1⟩
  replace HBB := below_more HBB hb
  clear hb L17
  obtain ⟨Bq, hBq⟩ : ∃ u, w17.heap.size = u := ⟨_, rfl⟩
  rw [hBq] at Kq ⊢
  clear hBq
  rw [HR.out.2.2.1] at Jq ⊢
  rw [HR.out.2.2.2] at Jq
  obtain ⟨⟨o0, o1, o2, o3, o4, o5⟩, _, _, _, _, _, _⟩ := row6_cells Ko
  have CX := Rows_of HF.out.1 w18 Jo
  unfold jA at CX
  go_wp2_with fail
  refine CX.mono ?_
  rintro e w19 ⟨A, rfl, hJ, hb⟩
  replace hJ := hJ.wk (Z' := Fr w6.heap.size w19) fun b hb => ⟨Nat.le_trans HBB.size hb.1, hb.2⟩
  clear CX o0 o1 o2 o3 o4 o5
  replace HBt := below_more HBt hb
  replace Kv := box_below Kv hb
  replace Kx := box_below Kx hb
  replace Ko := box_below Ko hb
  replace Kz := box_below Kz hb
  replace Ka := box_below Ka hb
  replace Kb := box_below Kb hb
  replace Kc := box_below Kc hb
  replace Kd := box_below Kd hb
  replace Kp := box_below Kp hb
  replace Kq := box_below Kq hb
  replace Jv := jx_bel Jv hb
  replace Jx := jx_bel Jx hb
  replace Jo := jx_bel Jo hb
  replace Jz := jx_bel Jz hb
  replace Ja := jin_frb Ja hb (Nat.le_refl _)
  replace Jb := jx_bel Jb hb
  replace Jc := jin_frb Jc hb (Nat.le_refl _)
  replace Jd := jx_bel Jd hb
  replace Jp := jin_frb Jp hb (Nat.le_refl _)
  replace Jq := jx_bel Jq hb
  have L19 : 8 ≤ w19.heap.size ∧ Laid w19 := ⟨Nat.le_trans L18.1 hb.size, L18.2.below hb L18.1⟩
  replace HBB := below_more HBB hb
  clear hb L18
  obtain ⟨k28, b28, n28, t28, nq28, nl28, nc28, iq28, il28, ic28, rfl⟩ := jin_form hJ
  unfold jA at hJ ⊢
  have Jr := hJ
  clear hJ
  simp only []
  go_upto_region 12 with fail
  have hb := below_new w19 (.cells #[.int .u8 (k28 : Int), .bool b28, .int .i64 n28, .string t28, .slice nq28 nl28 nc28, .slice iq28 il28 ic28] 25)
  have Kr := _root_.Go.heap_alloc_new w19 (.cells #[.int .u8 (k28 : Int), .bool b28, .int .i64 n28, .string t28, .slice nq28 nl28 nc28, .slice iq28 il28 ic28] 25)
  generalize w19.alloc (.cells #[.int .u8 (k28 : Int), .bool b28, .int .i64 n28, .string t28, .slice nq28 nl28 nc28, .slice iq28 il28 ic28] 25) = w20 at hb Kr ⊢
  replace HBt := below_more HBt hb
  replace Kv := box_below Kv hb
  replace Kx := box_below Kx hb
  replace Ko := box_below Ko hb
  replace Kz := box_below Kz hb
  replace Ka := box_below Ka hb
  replace Kb := box_below Kb hb
  replace Kc := box_below Kc hb
  replace Kd := box_below Kd hb
  replace Kp := box_below Kp hb
  replace Kq := box_below Kq hb
  replace Jv := jx_bel Jv hb
  replace Jx := jx_bel Jx hb
  replace Jo := jx_bel Jo hb
  replace Jz := jx_bel Jz hb
  replace Ja := jin_frb Ja hb (Nat.le_refl _)
  replace Jb := jx_bel Jb hb
  replace Jc := jin_frb Jc hb (Nat.le_refl _)
  replace Jd := jx_bel Jd hb
  replace Jp := jin_frb Jp hb (Nat.le_refl _)
  replace Jq := jx_bel Jq hb
  replace Jr := jin_frb Jr hb (Nat.le_refl _)
  have L20 : 8 ≤ w20.heap.size ∧ Laid w20 := ⟨Nat.le_trans L19.1 hb.size, L19.2.below hb L19.1⟩
  replace HBB := below_more HBB hb
  clear hb L19
  obtain ⟨Br, hBr⟩ : ∃ u, w19.heap.size = u := ⟨_, rfl⟩
  rw [hBr] at Kr ⊢
  clear hBr
  obtain ⟨⟨v0, v1, v2, v3, v4, v5⟩, _, _, _, _, _, _⟩ := row6_cells Kv
  have Ju := want_of Jv
  unfold jA at Ju
  go_upto_region 13 with fail
  have hb := below_new w20 (.cells #[.int .u8 5, .bool false, .int .i64 0, .string ⟨#[]⟩, .slice none 0 0, .slice iq0 il0 ic0] 25)
  have Ku := _root_.Go.heap_alloc_new w20 (.cells #[.int .u8 5, .bool false, .int .i64 0, .string ⟨#[]⟩, .slice none 0 0, .slice iq0 il0 ic0] 25)
  generalize w20.alloc (.cells #[.int .u8 5, .bool false, .int .i64 0, .string ⟨#[]⟩, .slice none 0 0, .slice iq0 il0 ic0] 25) = w21 at hb Ku ⊢
  replace HBt := below_more HBt hb
  replace Kv := box_below Kv hb
  replace Kx := box_below Kx hb
  replace Ko := box_below Ko hb
  replace Kz := box_below Kz hb
  replace Ka := box_below Ka hb
  replace Kb := box_below Kb hb
  replace Kc := box_below Kc hb
  replace Kd := box_below Kd hb
  replace Kp := box_below Kp hb
  replace Kq := box_below Kq hb
  replace Kr := box_below Kr hb
  replace Jv := jx_bel Jv hb
  replace Jx := jx_bel Jx hb
  replace Jo := jx_bel Jo hb
  replace Jz := jx_bel Jz hb
  replace Ja := jin_frb Ja hb (Nat.le_refl _)
  replace Jb := jx_bel Jb hb
  replace Jc := jin_frb Jc hb (Nat.le_refl _)
  replace Jd := jx_bel Jd hb
  replace Jp := jin_frb Jp hb (Nat.le_refl _)
  replace Jq := jx_bel Jq hb
  replace Jr := jin_frb Jr hb (Nat.le_refl _)
  replace Ju := jx_bel Ju hb
  have L21 : 8 ≤ w21.heap.size ∧ Laid w21 := ⟨Nat.le_trans L20.1 hb.size, L20.2.below hb L20.1⟩
  replace HBB := below_more HBB hb
  clear hb L20
  obtain ⟨Bu, hBu⟩ : ∃ u, w20.heap.size = u := ⟨_, rfl⟩
  rw [hBu] at Ku ⊢
  clear hBu
  clear v0 v1 v2 v3 v4 v5
  have e1 : (r.isSome == r.isSome) = true := beq_self_eq_true _
  have e2 : (s.isSome == s.isSome) = true := beq_self_eq_true _
  have e3 : ((E : Int) == (E : Int)) = true := beq_self_eq_true _
  obtain ⟨⟨g0, g1, g2, g3, g4, g5⟩, _, _, _, _, _, _⟩ := row6_cells Ka
  obtain ⟨⟨h0, h1, h2, h3, h4, h5⟩, _, _, _, _, _, _⟩ := row6_cells Kb
  have CX := dSame_yes _ _ (Nat.le_refl _) _ _ _ _ w21 Ja Jb
  go_wp2_with fail
  refine CX.mono ?_
  rintro e w22 ⟨rfl, hb⟩
  clear CX g0 g1 g2 g3 g4 g5 h0 h1 h2 h3 h4 h5
  replace HBt := below_more HBt hb
  replace Kv := box_below Kv hb
  replace Kx := box_below Kx hb
  replace Ko := box_below Ko hb
  replace Kz := box_below Kz hb
  replace Ka := box_below Ka hb
  replace Kb := box_below Kb hb
  replace Kc := box_below Kc hb
  replace Kd := box_below Kd hb
  replace Kp := box_below Kp hb
  replace Kq := box_below Kq hb
  replace Kr := box_below Kr hb
  replace Ku := box_below Ku hb
  replace Jv := jx_bel Jv hb
  replace Jx := jx_bel Jx hb
  replace Jo := jx_bel Jo hb
  replace Jz := jx_bel Jz hb
  replace Ja := jin_frb Ja hb (Nat.le_refl _)
  replace Jb := jx_bel Jb hb
  replace Jc := jin_frb Jc hb (Nat.le_refl _)
  replace Jd := jx_bel Jd hb
  replace Jp := jin_frb Jp hb (Nat.le_refl _)
  replace Jq := jx_bel Jq hb
  replace Jr := jin_frb Jr hb (Nat.le_refl _)
  replace Ju := jx_bel Ju hb
  replace HBB := below_more HBB hb
  clear hb
  simp only []
  obtain ⟨⟨g0, g1, g2, g3, g4, g5⟩, _, _, _, _, _, _⟩ := row6_cells Kc
  obtain ⟨⟨h0, h1, h2, h3, h4, h5⟩, _, _, _, _, _, _⟩ := row6_cells Kd
  have CX := dSame_yes _ _ (Nat.le_refl _) _ _ _ _ w22 Jc Jd
  go_wp2_with fail
  refine CX.mono ?_
  rintro e w23 ⟨rfl, hb⟩
  clear CX g0 g1 g2 g3 g4 g5 h0 h1 h2 h3 h4 h5
  replace HBt := below_more HBt hb
  replace Kv := box_below Kv hb
  replace Kx := box_below Kx hb
  replace Ko := box_below Ko hb
  replace Kz := box_below Kz hb
  replace Ka := box_below Ka hb
  replace Kb := box_below Kb hb
  replace Kc := box_below Kc hb
  replace Kd := box_below Kd hb
  replace Kp := box_below Kp hb
  replace Kq := box_below Kq hb
  replace Kr := box_below Kr hb
  replace Ku := box_below Ku hb
  replace Jv := jx_bel Jv hb
  replace Jx := jx_bel Jx hb
  replace Jo := jx_bel Jo hb
  replace Jz := jx_bel Jz hb
  replace Ja := jin_frb Ja hb (Nat.le_refl _)
  replace Jb := jx_bel Jb hb
  replace Jc := jin_frb Jc hb (Nat.le_refl _)
  replace Jd := jx_bel Jd hb
  replace Jp := jin_frb Jp hb (Nat.le_refl _)
  replace Jq := jx_bel Jq hb
  replace Jr := jin_frb Jr hb (Nat.le_refl _)
  replace Ju := jx_bel Ju hb
  replace HBB := below_more HBB hb
  clear hb
  simp only []
  obtain ⟨⟨g0, g1, g2, g3, g4, g5⟩, _, _, _, _, _, _⟩ := row6_cells Kp
  obtain ⟨⟨h0, h1, h2, h3, h4, h5⟩, _, _, _, _, _, _⟩ := row6_cells Kq
  have CX := dSame_yes _ _ (Nat.le_refl _) _ _ _ _ w23 Jp Jq
  go_wp2_with fail
  refine CX.mono ?_
  rintro e w24 ⟨rfl, hb⟩
  clear CX g0 g1 g2 g3 g4 g5 h0 h1 h2 h3 h4 h5
  replace HBt := below_more HBt hb
  replace Kv := box_below Kv hb
  replace Kx := box_below Kx hb
  replace Ko := box_below Ko hb
  replace Kz := box_below Kz hb
  replace Ka := box_below Ka hb
  replace Kb := box_below Kb hb
  replace Kc := box_below Kc hb
  replace Kd := box_below Kd hb
  replace Kp := box_below Kp hb
  replace Kq := box_below Kq hb
  replace Kr := box_below Kr hb
  replace Ku := box_below Ku hb
  replace Jv := jx_bel Jv hb
  replace Jx := jx_bel Jx hb
  replace Jo := jx_bel Jo hb
  replace Jz := jx_bel Jz hb
  replace Ja := jin_frb Ja hb (Nat.le_refl _)
  replace Jb := jx_bel Jb hb
  replace Jc := jin_frb Jc hb (Nat.le_refl _)
  replace Jd := jx_bel Jd hb
  replace Jp := jin_frb Jp hb (Nat.le_refl _)
  replace Jq := jx_bel Jq hb
  replace Jr := jin_frb Jr hb (Nat.le_refl _)
  replace Ju := jx_bel Ju hb
  replace HBB := below_more HBB hb
  clear hb
  simp only []
  obtain ⟨⟨g0, g1, g2, g3, g4, g5⟩, _, _, _, _, _, _⟩ := row6_cells Kr
  obtain ⟨⟨h0, h1, h2, h3, h4, h5⟩, _, _, _, _, _, _⟩ := row6_cells Ku
  have CX := dSame_yes _ _ (Nat.le_refl _) _ _ _ _ w24 Jr Ju
  go_wp2_with fail
  refine CX.mono ?_
  rintro e w25 ⟨rfl, hb⟩
  clear CX g0 g1 g2 g3 g4 g5 h0 h1 h2 h3 h4 h5
  replace HBt := below_more HBt hb
  replace Kv := box_below Kv hb
  replace Kx := box_below Kx hb
  replace Ko := box_below Ko hb
  replace Kz := box_below Kz hb
  replace Ka := box_below Ka hb
  replace Kb := box_below Kb hb
  replace Kc := box_below Kc hb
  replace Kd := box_below Kd hb
  replace Kp := box_below Kp hb
  replace Kq := box_below Kq hb
  replace Kr := box_below Kr hb
  replace Ku := box_below Ku hb
  replace Jv := jx_bel Jv hb
  replace Jx := jx_bel Jx hb
  replace Jo := jx_bel Jo hb
  replace Jz := jx_bel Jz hb
  replace Ja := jin_frb Ja hb (Nat.le_refl _)
  replace Jb := jx_bel Jb hb
  replace Jc := jin_frb Jc hb (Nat.le_refl _)
  replace Jd := jx_bel Jd hb
  replace Jp := jin_frb Jp hb (Nat.le_refl _)
  replace Jq := jx_bel Jq hb
  replace Jr := jin_frb Jr hb (Nat.le_refl _)
  replace Ju := jx_bel Ju hb
  replace HBB := below_more HBB hb
  clear hb
  simp only []
  clear e1 e2 e3
  have Sa := sp_of_fr Ja _ (Nat.le_refl _)
  have Sc := sp_of_fr Jc _ (Nat.le_refl _)
  have Sp1 := sp_of_fr Jp _ (Nat.le_refl _)
  have Sr := sp_of_fr Jr _ (Nat.le_refl _)
  obtain ⟨U, hUU⟩ : ∃ U : Nat → Prop, (fun k => w6.heap.size ≤ k ∧ k < w25.heap.size) = U := ⟨_, rfl⟩
  rw [hUU] at Sa Sc Sp1 Sr
  have HU : Hid ((∀ k, U k → k < w25.heap.size) ∧ (∀ k, U k → w6.heap.size ≤ k)) := by rw [← hUU]; exact ⟨fun k h => h.2, fun k h => h.1⟩
  have HSC : Hid (Sp U w25 _ _ ∧ Sp U w25 _ _ ∧ Sp U w25 _ _) := ⟨Sc, Sp1, Sr⟩
  have HKS : Hid (w25.heap[_]? = _ ∧ w25.heap[_]? = _ ∧ w25.heap[_]? = _) := ⟨Kc, Kp, Kr⟩
  have HBS : Hid (Below w6.heap.size w6 w25) := HBB
  clear hUU Sc Sp1 Sr Jv Jx Jo Jz Ja Jb Jc Jd Jp Jq Jr Ju Kv Kx Ko Kz Kb Kc Kd Kp Kq Kr Ku HBt HBB
  obtain ⟨⟨g0, g1, g2, g3, g4, g5⟩, _, _, _, _, _, _⟩ := row6_cells Ka
  have CX := spoil_any U _ _ w25 HU.out.1 Sa
  go_wp2_with fail
  refine CX.mono ?_
  rintro e s1 ⟨rfl, hs⟩
  clear CX g0 g1 g2 g3 g4 g5 Ka Sa
  simp only []
  obtain ⟨k3, b3, n3, t3, nq3, nl3, nc3, iq3, il3, ic3, ⟨g0, g1, g2, g3, g4, g5⟩, hsp⟩ := spoil_next HU.out.1 hs HKS.out.1 HSC.out.1
  have CX := spoil_any U _ _ s1 (fun k hk => Nat.lt_of_lt_of_le (HU.out.1 k hk) hs.size) hsp
  unfold jA at CX
  have HS1 : Hid (SpW U w25 s1) := hs
  clear hs hsp
  go_wp2_with fail
  refine CX.mono ?_
  rintro e s2 ⟨rfl, hs2⟩
  have hs := HS1.out.trans hs2
  clear CX g0 g1 g2 g3 g4 g5 hs2 HS1
  simp only []
  obtain ⟨k3, b3, n3, t3, nq3, nl3, nc3, iq3, il3, ic3, ⟨g0, g1, g2, g3, g4, g5⟩, hsp⟩ := spoil_next HU.out.1 hs HKS.out.2.1 HSC.out.2.1
  have CX := spoil_any U _ _ s2 (fun k hk => Nat.lt_of_lt_of_le (HU.out.1 k hk) hs.size) hsp
  unfold jA at CX
  have HS2 : Hid (SpW U w25 s2) := hs
  clear hs hsp
  go_wp2_with fail
  refine CX.mono ?_
  rintro e s3 ⟨rfl, hs2⟩
  have hs := HS2.out.trans hs2
  clear CX g0 g1 g2 g3 g4 g5 hs2 HS2
  simp only []
  obtain ⟨k3, b3, n3, t3, nq3, nl3, nc3, iq3, il3, ic3, ⟨g0, g1, g2, g3, g4, g5⟩, hsp⟩ := spoil_next HU.out.1 hs HKS.out.2.2 HSC.out.2.2
  have CX := spoil_any U _ _ s3 (fun k hk => Nat.lt_of_lt_of_le (HU.out.1 k hk) hs.size) hsp
  unfold jA at CX
  have HS3 : Hid (SpW U w25 s3) := hs
  clear hs hsp
  go_wp2_with fail
  refine CX.mono ?_
  rintro e s4 ⟨rfl, hs2⟩
  have hs := HS3.out.trans hs2
  clear CX g0 g1 g2 g3 g4 g5 hs2 HS3
  have hB := HBS.out.trans (hs.toBelow HU.out.2 HBS.out.size)
  have Ko := box_below HKW.out.1 hB
  have Kz := box_below HKW.out.2.1 hB
  have Kv := box_below HKW.out.2.2.1 hB
  have Kx := box_below HKW.out.2.2.2 hB
  have Jo := jx_bel HOW.out.1 hB
  have Jz := jx_bel HOW.out.2.1 hB
  have Jv := jx_bel HOW.out.2.2.1 hB
  have Jx := jx_bel HOW.out.2.2.2.1 hB
  have HBt := below_more HOW.out.2.2.2.2 hB
  clear hs hB HKS HSC HBS HU
  simp only []
  obtain ⟨⟨g0, g1, g2, g3, g4, g5⟩, _, _, _, _, _, _⟩ := row6_cells Ko
  obtain ⟨⟨h0, h1, h2, h3, h4, h5⟩, _, _, _, _, _, _⟩ := row6_cells Kv
  have CX := dSame_yes _ _ (Nat.le_refl _) _ _ _ _ s4 Jo Jv
  go_wp2_with fail
  refine CX.mono ?_
  rintro e s5 ⟨rfl, hb⟩
  clear CX g0 g1 g2 g3 g4 g5 h0 h1 h2 h3 h4 h5
  replace HBt := below_more HBt hb
  replace Kv := box_below Kv hb
  replace Kx := box_below Kx hb
  replace Ko := box_below Ko hb
  replace Kz := box_below Kz hb
  replace Jv := jx_bel Jv hb
  replace Jx := jx_bel Jx hb
  replace Jo := jx_bel Jo hb
  replace Jz := jx_bel Jz hb
  clear hb
  simp only []
  obtain ⟨⟨g0, g1, g2, g3, g4, g5⟩, _, _, _, _, _, _⟩ := row6_cells Kz
  obtain ⟨⟨h0, h1, h2, h3, h4, h5⟩, _, _, _, _, _, _⟩ := row6_cells Kx
  have CX := dSame_yes _ _ (Nat.le_refl _) _ _ _ _ s5 Jz Jx
  go_wp2_with fail
  refine CX.mono ?_
  rintro e s6 ⟨rfl, hb⟩
  clear CX g0 g1 g2 g3 g4 g5 h0 h1 h2 h3 h4 h5
  replace HBt := below_more HBt hb
  replace Kv := box_below Kv hb
  replace Kx := box_below Kx hb
  replace Ko := box_below Ko hb
  replace Kz := box_below Kz hb
  replace Jv := jx_bel Jv hb
  replace Jx := jx_bel Jx hb
  replace Jo := jx_bel Jo hb
  replace Jz := jx_bel Jz hb
  clear hb
  simp only []
  go_wp2_with fail
  go_ret
  exact ⟨rfl, HBt⟩
end Go.Proofs.YtcfalgomcdmdhaaDoor
