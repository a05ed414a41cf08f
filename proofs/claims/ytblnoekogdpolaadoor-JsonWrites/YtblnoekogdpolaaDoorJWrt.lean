import Derived.Test.YtblnoekogdpolaaDoorJDTe
import Derived.Test.YtblnoekogdpolaaDoorJDTv
import Derived.Test.YtblnoekogdpolaaDoorJDSg
import Derived.Test.YtblnoekogdpolaaDoorJWith
namespace Go.Proofs.YtblnoekogdpolaaDoor
open Go.RowKit Go.WideShapes Go.Joins
theorem jw_bel {w w' : World} {A : Array Value} {x : JB} (h : JIn w Anyw A x) (hb : Below w.heap.size w w') : JIn w' Anyw A x := h.bel hb
theorem says_one {p : Prop} {s t : Bool} (h : s = true ↔ p) (k : t = true ↔ p) : s = t := by
  cases s with
  | true => exact (k.2 (h.1 rfl)).symm
  | false =>
    cases t with
    | false => rfl
    | true => exact (h.2 (k.1 rfl))
theorem greatW_any (A : Array Value) (v : JB) (w : World) (h : JIn w Anyw A v) : Calls Tryd.prog 19 #[.agg A] w fun e w' => (∃ g : Bool, e = .returned (.bool g) ∧ (g = false → chkB v 1 = 0 → szB v ≤ 18000)) ∧ Below w.heap.size w w' := by
  by_cases hc : chkB v 1 = 0
  · refine (greatG_any A v Anyw w (chk_sm v 1 hc) h).mono ?_
    rintro e w' ⟨⟨g, rfl, hg⟩, hb⟩
    exact ⟨⟨g, rfl, fun h0 _ => hg h0⟩, hb⟩
  · refine (great_any A v Anyw w h).mono ?_
    rintro e w' ⟨⟨g, rfl⟩, hb⟩
    exact ⟨⟨g, rfl, fun _ h0 => absurd h0 hc⟩, hb⟩
set_option maxHeartbeats 16000000 in
set_option maxRecDepth 8000 in
theorem writes_walk (A : Array Value) (v : JB) (B : Array Value) (x : JB) (W : World) (hL : 8 ≤ W.heap.size ∧ Laid W) (hv : JIn W Anyw A v) (hx : JIn W Anyw B x) (fv : Few v) :
    Calls Tryd.prog 5 #[.agg A, .agg B] W fun e W' => e = .returned (.bool true) ∧ Below W.heap.size W W' := by
  obtain ⟨k0, b0, n0, t0, nq0, nl0, nc0, iq0, il0, ic0, rfl⟩ := jin_form hv
  obtain ⟨k1, b1, n1, t1, nq1, nl1, nc1, iq1, il1, ic1, rfl⟩ := jin_form hx
  have HF : Hid (Few v) := fv
  have hb0 := below_new W (.cells (jA k0 b0 n0 t0 nq0 nl0 nc0 iq0 il0 ic0) 25)
  have Kv := _root_.Go.heap_alloc_new W (.cells (jA k0 b0 n0 t0 nq0 nl0 nc0 iq0 il0 ic0) 25)
  have hb1 := below_new (W.alloc (.cells (jA k0 b0 n0 t0 nq0 nl0 nc0 iq0 il0 ic0) 25)) (.cells (jA k1 b1 n1 t1 nq1 nl1 nc1 iq1 il1 ic1) 25)
  have Kx := _root_.Go.heap_alloc_new (W.alloc (.cells (jA k0 b0 n0 t0 nq0 nl0 nc0 iq0 il0 ic0) 25)) (.cells (jA k1 b1 n1 t1 nq1 nl1 nc1 iq1 il1 ic1) 25)
  rw [World.size_alloc] at Kx
  replace Kv := box_below Kv hb1
  have HBt := below_more hb0 hb1
  obtain ⟨w0, hW0⟩ : ∃ u, (W.alloc (.cells (jA k0 b0 n0 t0 nq0 nl0 nc0 iq0 il0 ic0) 25)).alloc (.cells (jA k1 b1 n1 t1 nq1 nl1 nc1 iq1 il1 ic1) 25) = u := ⟨_, rfl⟩
  rw [hW0] at Kv Kx HBt
  have Jv := jw_bel hv HBt
  have Jx := jw_bel hx HBt
  have L0 : 8 ≤ w0.heap.size ∧ Laid w0 := ⟨Nat.le_trans hL.1 HBt.size, hL.2.below HBt hL.1⟩
  clear hb0 hb1 hv hx hL fv
  have GV := greatW_any _ v w0 Jv
  unfold jA at *
  have HW0 : Hid (_ = w0) := hW0
  clear hW0
  go_enter Tryd.func5, Tryd.ntmps5
  go_upto_region 1 with fail
  rw [HW0.out]
  obtain ⟨⟨v0, v1, v2, v3, v4, v5⟩, _, _, _, _, _, _⟩ := row6_cells Kv
  obtain ⟨⟨x0, x1, x2, x3, x4, x5⟩, _, _, _, _, _, _⟩ := row6_cells Kx
  go_wp2_with fail
  refine GV.mono ?_
  rintro e w1 ⟨⟨g, rfl, hg⟩, hb⟩
  replace HBt := below_more HBt hb
  cases g with
  | true =>
    go_wp2_with fail
    go_ret
    exact ⟨rfl, HBt⟩
  | false =>
  have HZ : Hid (chkB v 1 = 0 → szB v ≤ 18000) := hg rfl
  have GX := great_any _ x Anyw w1 (jw_bel Jx hb)
  unfold jA at GX
  replace Kv := box_below Kv hb
  replace Kx := box_below Kx hb
  replace Jv := jw_bel Jv hb
  replace Jx := jw_bel Jx hb
  have L1 : 8 ≤ w1.heap.size ∧ Laid w1 := ⟨Nat.le_trans L0.1 hb.size, L0.2.below hb L0.1⟩
  clear GV hb L0 v0 v1 v2 v3 v4 v5 x0 x1 x2 x3 x4 x5 hg
  obtain ⟨⟨x0, x1, x2, x3, x4, x5⟩, _, _, _, _, _, _⟩ := row6_cells Kx
  simp only []
  go_wp2_with fail
  refine GX.mono ?_
  rintro e w2 ⟨⟨g, rfl⟩, hb⟩
  replace HBt := below_more HBt hb
  cases g with
  | true =>
    go_wp2_with fail
    go_ret
    exact ⟨rfl, HBt⟩
  | false =>
  replace Kv := box_below Kv hb
  replace Kx := box_below Kx hb
  replace Jv := jw_bel Jv hb
  replace Jx := jw_bel Jx hb
  have L2 : 8 ≤ w2.heap.size ∧ Laid w2 := ⟨Nat.le_trans L1.1 hb.size, L1.2.below hb L1.1⟩
  clear GX hb L1 x0 x1 x2 x3 x4 x5
  obtain ⟨⟨v0, v1, v2, v3, v4, v5⟩, _, _, _, _, _, _⟩ := row6_cells Kv
  have CX := dTwin_any HF.out _ Anyw w2 Jv
  unfold jA at CX
  go_wp2_with fail
  refine CX.mono ?_
  rintro e w3 ⟨A, rfl, hJ, hb⟩
  clear CX v0 v1 v2 v3 v4 v5
  replace HBt := below_more HBt hb
  replace Kv := box_below Kv hb
  replace Kx := box_below Kx hb
  replace Jv := jw_bel Jv hb
  replace Jx := jw_bel Jx hb
  have L3 : 8 ≤ w3.heap.size ∧ Laid w3 := ⟨Nat.le_trans L2.1 hb.size, L2.2.below hb L2.1⟩
  clear hb L2
  obtain ⟨k20, b20, n20, t20, nq20, nl20, nc20, iq20, il20, ic20, rfl⟩ := jin_form hJ
  unfold jA at hJ ⊢
  have Jo := hJ.any
  clear hJ
  simp only []
  go_upto_region 4 with fail
  have hb := below_new w3 (.cells #[.int .u8 (k20 : Int), .bool b20, .int .i64 n20, .string t20, .slice nq20 nl20 nc20, .slice iq20 il20 ic20] 25)
  have Ko := _root_.Go.heap_alloc_new w3 (.cells #[.int .u8 (k20 : Int), .bool b20, .int .i64 n20, .string t20, .slice nq20 nl20 nc20, .slice iq20 il20 ic20] 25)
  generalize w3.alloc (.cells #[.int .u8 (k20 : Int), .bool b20, .int .i64 n20, .string t20, .slice nq20 nl20 nc20, .slice iq20 il20 ic20] 25) = w4 at hb Ko ⊢
  replace HBt := below_more HBt hb
  replace Kv := box_below Kv hb
  replace Kx := box_below Kx hb
  replace Jv := jw_bel Jv hb
  replace Jx := jw_bel Jx hb
  replace Jo := jw_bel Jo hb
  have L4 : 8 ≤ w4.heap.size ∧ Laid w4 := ⟨Nat.le_trans L3.1 hb.size, L3.2.below hb L3.1⟩
  clear hb L3
  obtain ⟨Bo, hBo⟩ : ∃ u, w3.heap.size = u := ⟨_, rfl⟩
  rw [hBo] at Ko ⊢
  clear hBo
  obtain ⟨⟨o0, o1, o2, o3, o4, o5⟩, _, _, _, _, _, _⟩ := row6_cells Ko
  have CX := Text_any _ v w4 L4.1 L4.2 Jo
  unfold jA at CX
  go_wp2_with fail
  refine CX.mono ?_
  rintro e w5 ⟨s, k, rfl, hb, hs⟩
  have HS1 : Hid (TxtS v s k) := hs
  clear CX o0 o1 o2 o3 o4 o5 hs
  replace HBt := below_more HBt hb
  replace Kv := box_below Kv hb
  replace Kx := box_below Kx hb
  replace Ko := box_below Ko hb
  replace Jv := jw_bel Jv hb
  replace Jx := jw_bel Jx hb
  replace Jo := jw_bel Jo hb
  have L5 : 8 ≤ w5.heap.size ∧ Laid w5 := ⟨Nat.le_trans L4.1 hb.size, L4.2.below hb L4.1⟩
  clear hb L4
  obtain ⟨⟨v0, v1, v2, v3, v4, v5⟩, _, _, _, _, _, _⟩ := row6_cells Kv
  have CX := dText_any _ v w5 HZ.out Jv
  unfold jA at CX
  simp only []
  go_upto_region 5 with fail
  go_wp2_with fail
  refine CX.mono ?_
  rintro e w6 ⟨s', k', rfl, hb, hs⟩
  obtain ⟨rfl, rfl⟩ := txt_one HS1.out hs
  clear CX v0 v1 v2 v3 v4 v5 hs HS1
  replace HBt := below_more HBt hb
  replace Kv := box_below Kv hb
  replace Kx := box_below Kx hb
  replace Ko := box_below Ko hb
  replace Jv := jw_bel Jv hb
  replace Jx := jw_bel Jx hb
  replace Jo := jw_bel Jo hb
  have L6 : 8 ≤ w6.heap.size ∧ Laid w6 := ⟨Nat.le_trans L5.1 hb.size, L5.2.below hb L5.1⟩
  clear hb L5
  simp only []
  go_upto_region 6 with fail
  have HKS : Hid (∀ w', Below w6.heap.size w6 w' → (w'.cell? ⟨Bo, 0, none⟩ = some (.int .u8 (k20 : Int)) ∧ w'.cell? ⟨Bo, 1, none⟩ = some (.bool b20) ∧ w'.cell? ⟨Bo, 2, none⟩ = some (.int .i64 n20) ∧ w'.cell? ⟨Bo, 3, none⟩ = some (.string t20) ∧ w'.cell? ⟨Bo, 4, none⟩ = some (.slice nq20 nl20 nc20) ∧ w'.cell? ⟨Bo, 5, none⟩ = some (.slice iq20 il20 ic20)) ∧ (w'.cell? ⟨W.heap.size, 0, none⟩ = some (.int .u8 (k0 : Int)) ∧ w'.cell? ⟨W.heap.size, 1, none⟩ = some (.bool b0) ∧ w'.cell? ⟨W.heap.size, 2, none⟩ = some (.int .i64 n0) ∧ w'.cell? ⟨W.heap.size, 3, none⟩ = some (.string t0) ∧ w'.cell? ⟨W.heap.size, 4, none⟩ = some (.slice nq0 nl0 nc0) ∧ w'.cell? ⟨W.heap.size, 5, none⟩ = some (.slice iq0 il0 ic0)) ∧ (w'.cell? ⟨W.heap.size + 1, 0, none⟩ = some (.int .u8 (k1 : Int)) ∧ w'.cell? ⟨W.heap.size + 1, 1, none⟩ = some (.bool b1) ∧ w'.cell? ⟨W.heap.size + 1, 2, none⟩ = some (.int .i64 n1) ∧ w'.cell? ⟨W.heap.size + 1, 3, none⟩ = some (.string t1) ∧ w'.cell? ⟨W.heap.size + 1, 4, none⟩ = some (.slice nq1 nl1 nc1) ∧ w'.cell? ⟨W.heap.size + 1, 5, none⟩ = some (.slice iq1 il1 ic1))) := fun w' hb => by
    obtain ⟨p, _⟩ := row6_cells (box_below Ko hb)
    obtain ⟨q, _⟩ := row6_cells (box_below Kv hb)
    obtain ⟨r, _⟩ := row6_cells (box_below Kx hb)
    exact ⟨p, q, r⟩
  have HK1 : Hid (∀ w', Below w6.heap.size w6 w' → (w'.cell? ⟨Bo, 0, none⟩ = some (.int .u8 (k20 : Int)) ∧ w'.cell? ⟨Bo, 1, none⟩ = some (.bool b20) ∧ w'.cell? ⟨Bo, 2, none⟩ = some (.int .i64 n20) ∧ w'.cell? ⟨Bo, 3, none⟩ = some (.string t20) ∧ w'.cell? ⟨Bo, 4, none⟩ = some (.slice nq20 nl20 nc20) ∧ w'.cell? ⟨Bo, 5, none⟩ = some (.slice iq20 il20 ic20)) ∧ (w'.cell? ⟨W.heap.size, 0, none⟩ = some (.int .u8 (k0 : Int)) ∧ w'.cell? ⟨W.heap.size, 1, none⟩ = some (.bool b0) ∧ w'.cell? ⟨W.heap.size, 2, none⟩ = some (.int .i64 n0) ∧ w'.cell? ⟨W.heap.size, 3, none⟩ = some (.string t0) ∧ w'.cell? ⟨W.heap.size, 4, none⟩ = some (.slice nq0 nl0 nc0) ∧ w'.cell? ⟨W.heap.size, 5, none⟩ = some (.slice iq0 il0 ic0))) := fun w' hb => ⟨(HKS.out w' hb).1, (HKS.out w' hb).2.1⟩
  have C1 : Hid (∀ w', Below w6.heap.size w6 w' → Calls Tryd.prog 22 #[.agg #[.int .u8 (k20 : Int), .bool b20, .int .i64 n20, .string t20, .slice nq20 nl20 nc20, .slice iq20 il20 ic20]] w' fun e w'' => e = .returned (.int .i64 (chkB v 1 : Int)) ∧ Below w'.heap.size w' w'') := fun w' hb => Check_any _ v _ w' (Nat.le_trans L6.1 hb.size) (L6.2.below hb L6.1) (jw_bel Jo hb)
  have C2 : Hid (∀ w', Below w6.heap.size w6 w' → Calls Tryd.prog 23 #[.agg #[.int .u8 (k0 : Int), .bool b0, .int .i64 n0, .string t0, .slice nq0 nl0 nc0, .slice iq0 il0 ic0], .int .i64 1] w' fun e w'' => e = .returned (.int .i64 (chkB v 1 : Int)) ∧ Below w'.heap.size w' w'') := fun w' hb => dCheck_any _ v _ w' (jw_bel Jv hb)
  have S1 : Hid (∀ w', Below w6.heap.size w6 w' → Calls Tryd.prog 14 #[.agg #[.int .u8 (k20 : Int), .bool b20, .int .i64 n20, .string t20, .slice nq20 nl20 nc20, .slice iq20 il20 ic20], .agg #[.int .u8 (k1 : Int), .bool b1, .int .i64 n1, .string t1, .slice nq1 nl1 nc1, .slice iq1 il1 ic1]] w' fun e w'' => Says (v = x) w' e w'') := fun w' hb => Same_says _ v x (Nat.le_refl _) _ _ _ _ w' (jw_bel Jo hb) (jw_bel Jx hb)
  have S2 : Hid (∀ w', Below w6.heap.size w6 w' → Calls Tryd.prog 18 #[.agg #[.int .u8 (k0 : Int), .bool b0, .int .i64 n0, .string t0, .slice nq0 nl0 nc0, .slice iq0 il0 ic0], .agg #[.int .u8 (k1 : Int), .bool b1, .int .i64 n1, .string t1, .slice nq1 nl1 nc1, .slice iq1 il1 ic1]] w' fun e w'' => Says (v = x) w' e w'') := fun w' hb => dSame_says _ v x (Nat.le_refl _) _ _ _ _ w' (jw_bel Jv hb) (jw_bel Jx hb)
  have S3 : Hid (∀ w', Below w6.heap.size w6 w' → Calls Tryd.prog 14 #[.agg #[.int .u8 (k0 : Int), .bool b0, .int .i64 n0, .string t0, .slice nq0 nl0 nc0, .slice iq0 il0 ic0], .agg #[.int .u8 (k0 : Int), .bool b0, .int .i64 n0, .string t0, .slice nq0 nl0 nc0, .slice iq0 il0 ic0]] w' fun e w'' => e = .returned (.bool true) ∧ Below w'.heap.size w' w'') := fun w' hb => Same_one v _ _ _ _ w' (jw_bel Jv hb) (jw_bel Jv hb)
  have S4 : Hid (∀ w', Below w6.heap.size w6 w' → Calls Tryd.prog 18 #[.agg #[.int .u8 (k20 : Int), .bool b20, .int .i64 n20, .string t20, .slice nq20 nl20 nc20, .slice iq20 il20 ic20], .agg #[.int .u8 (k0 : Int), .bool b0, .int .i64 n0, .string t0, .slice nq0 nl0 nc0, .slice iq0 il0 ic0]] w' fun e w'' => e = .returned (.bool true) ∧ Below w'.heap.size w' w'') := fun w' hb => dSame_yes _ v (Nat.le_refl _) _ _ _ _ w' (jw_bel Jo hb) (jw_bel Jv hb)
  have HBT : Hid (Below W.heap.size W w6) := HBt
  have e1 : (s.toList == s.toList) = true := by simp
  have e2 : ((k : Int) == (k : Int)) = true := beq_self_eq_true _
  have e3 : ((chkB v 1 : Int) == (chkB v 1 : Int)) = true := beq_self_eq_true _
  generalize (chkB v 1 : Int) = E at C1 C2 e3
  have A0 : Below w6.heap.size w6 w6.drew := (Below.refl _ _).drew
  have K0 := HK1.out _ (Below.refl _ _)
  obtain ⟨⟨o0, o1, o2, o3, o4, o5⟩, v0, v1, v2, v3, v4, v5⟩ := K0
  clear HBt Kv Kx Ko Jv Jx Jo L6 HZ
  go_region_held3 (fun w' => (w'.cell? ⟨Bo, 0, none⟩ = some (.int .u8 (k20 : Int)) ∧ w'.cell? ⟨Bo, 1, none⟩ = some (.bool b20) ∧ w'.cell? ⟨Bo, 2, none⟩ = some (.int .i64 n20) ∧ w'.cell? ⟨Bo, 3, none⟩ = some (.string t20) ∧ w'.cell? ⟨Bo, 4, none⟩ = some (.slice nq20 nl20 nc20) ∧ w'.cell? ⟨Bo, 5, none⟩ = some (.slice iq20 il20 ic20)) ∧ (w'.cell? ⟨W.heap.size, 0, none⟩ = some (.int .u8 (k0 : Int)) ∧ w'.cell? ⟨W.heap.size, 1, none⟩ = some (.bool b0) ∧ w'.cell? ⟨W.heap.size, 2, none⟩ = some (.int .i64 n0) ∧ w'.cell? ⟨W.heap.size, 3, none⟩ = some (.string t0) ∧ w'.cell? ⟨W.heap.size, 4, none⟩ = some (.slice nq0 nl0 nc0) ∧ w'.cell? ⟨W.heap.size, 5, none⟩ = some (.slice iq0 il0 ic0)))
    (with_reducible first | exact HK1.out _ (Below.refl _ _) | exact HK1.out _ A0 | exact HK1.out _ A2 | exact HK1.out _ A1 | assumption)
    (first
      | (go_at_call 23; refine (C2.out _ A1).mono ?_; rintro e w8 ⟨rfl, hb8⟩; have A2 := below_more A1 hb8)
      | (go_at_call 22; refine (C1.out _ A0).mono ?_; rintro e w7 ⟨rfl, hb7⟩; have A1 := below_more A0 hb7)
      | fail)
  all_goals
    go_upto_region 7 with fail
    clear v0 v1 v2 v3 v4 v5 o0 o1 o2 o3 o4 o5 e1 e2 e3
    have K2 := HKS.out _ A2
    obtain ⟨⟨o0, o1, o2, o3, o4, o5⟩, ⟨v0, v1, v2, v3, v4, v5⟩, x0, x1, x2, x3, x4, x5⟩ := K2
    have A3 := A2.drew
    clear A0 A1
    go_region_held3 (fun w' => (w'.cell? ⟨Bo, 0, none⟩ = some (.int .u8 (k20 : Int)) ∧ w'.cell? ⟨Bo, 1, none⟩ = some (.bool b20) ∧ w'.cell? ⟨Bo, 2, none⟩ = some (.int .i64 n20) ∧ w'.cell? ⟨Bo, 3, none⟩ = some (.string t20) ∧ w'.cell? ⟨Bo, 4, none⟩ = some (.slice nq20 nl20 nc20) ∧ w'.cell? ⟨Bo, 5, none⟩ = some (.slice iq20 il20 ic20)) ∧ (w'.cell? ⟨W.heap.size, 0, none⟩ = some (.int .u8 (k0 : Int)) ∧ w'.cell? ⟨W.heap.size, 1, none⟩ = some (.bool b0) ∧ w'.cell? ⟨W.heap.size, 2, none⟩ = some (.int .i64 n0) ∧ w'.cell? ⟨W.heap.size, 3, none⟩ = some (.string t0) ∧ w'.cell? ⟨W.heap.size, 4, none⟩ = some (.slice nq0 nl0 nc0) ∧ w'.cell? ⟨W.heap.size, 5, none⟩ = some (.slice iq0 il0 ic0)) ∧ (w'.cell? ⟨W.heap.size + 1, 0, none⟩ = some (.int .u8 (k1 : Int)) ∧ w'.cell? ⟨W.heap.size + 1, 1, none⟩ = some (.bool b1) ∧ w'.cell? ⟨W.heap.size + 1, 2, none⟩ = some (.int .i64 n1) ∧ w'.cell? ⟨W.heap.size + 1, 3, none⟩ = some (.string t1) ∧ w'.cell? ⟨W.heap.size + 1, 4, none⟩ = some (.slice nq1 nl1 nc1) ∧ w'.cell? ⟨W.heap.size + 1, 5, none⟩ = some (.slice iq1 il1 ic1)))
      (with_reducible first | exact HKS.out _ A2 | exact HKS.out _ A3 | exact HKS.out _ A7 | exact HKS.out _ A6 | exact HKS.out _ A5 | exact HKS.out _ A4 | assumption)
      (first
        | (go_at_call 18; refine (S4.out _ A6).mono ?_; rintro e w12 ⟨rfl, hb12⟩; have A7 := below_more A6 hb12)
        | (go_at_call 14; refine (S3.out _ A5).mono ?_; rintro e w11 ⟨rfl, hb11⟩; have A6 := below_more A5 hb11)
        | (go_at_call 18; refine (S2.out _ A4).mono ?_; rintro e w10 ⟨⟨s2, rfl, hs2⟩, hb10⟩; have A5 := below_more A4 hb10; obtain rfl := says_one hs1 hs2; have e4 : (s1 == s1) = true := beq_self_eq_true _)
        | (go_at_call 14; refine (S1.out _ A3).mono ?_; rintro e w9 ⟨⟨s1, rfl, hs1⟩, hb9⟩; have A4 := below_more A3 hb9)
        | fail)
    all_goals
      have HE : Hid (Below w6.heap.size w6 _) := A7
      clear A2 A3 A4 A5 A6 A7
      go_wp2_with fail
      go_ret
      exact ⟨rfl, below_more HBT.out HE.out⟩
end Go.Proofs.YtblnoekogdpolaaDoor
