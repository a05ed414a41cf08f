/-
  What the statements call: map2.
-/
import Derived.Test.YtiakfdhbbkpfhaaGreatDoorJ30
import Derived.Test.YtiakfdhbbkpfhaaGreatDoorJ31
import Derived.Test.YtiakfdhbbkpfhaaGreatDoorJ27
import Derived.Deep.RegionHeldLaw
namespace Go.Proofs.YtiakfdhbbkpfhaaGreatDoor
open Go.RowKit Go.WideShapes Rm

/-- An append of one change, as one step of a region that draws its order. -/
theorem step_append_change {ops : Array Oper} {o : Oper} {a : Act} {w : World} {K : Act → World → Prop} {Q : Exit → Act → World → Prop} {E : Prop} (hgd : o.guard = none) (s x : Operand)
    (ho : o.op = .call { callee := .builtin .append, args := #[s, x], argTypes := #[43, 43] }) (base : Nat) (v : Value) (ls : List CV) (y : CV) (ad : Addr) (c : Nat) (hs : a.eval s = v) (hx : a.eval x = .slice (some ad) 1 c)
    (hown : COwn w base v ls) (h0 : w.cell? (ad.add 0) = some (.string y.key)) (h1 : w.cell? (ad.add 1) = some (.string y.val)) (h2 : w.cell? (ad.add 2) = some (.bool y.gone)) (hlen : ls.length ≤ 1000000) (hbase : base ≤ w.heap.size)
    (h : ∀ v' w', COwn w' base v' (ls ++ [y]) → w.grownBy w' v.ownBlock → K (a.put o.dst v') w') :
    if Region.wanted o (yielded ops a.tmps) = true then Oper.wp Tryz.prog o a w K Q else E := by
  have hw : Region.wanted o (yielded ops a.tmps) = true := by simp [Region.wanted, hgd]
  rw [if_pos hw]
  obtain ⟨v', w', hr, g2, g3⟩ := run_append_change w o.type base v ls y ad c hown h0 h1 h2 hlen hbase
  have hK := h v' w' g2 g3
  unfold Oper.wp
  simp [execOp, ho, resolve, invoke, builtin, hs, hx, hr, Result.andThen]
  exact hK
set_option maxRecDepth 8000 in
set_option maxHeartbeats 4000000 in
theorem gtr_yes {a b : ByteArray} (h : ltB b a = true) : Op.bytesLess a.toList b.toList = false ∧ (a.toList == b.toList) = false := by
  have h2 : Op.bytesLess b.toList a.toList = true := h
  constructor
  · cases h1 : Op.bytesLess a.toList b.toList with
    | false => rfl
    | true => have := bl_trans _ _ _ h1 h2; rw [bl_irrefl] at this; cases this
  · have h3 : a.toList ≠ b.toList := fun e => by rw [e, bl_irrefl] at h2; cases h2
    simpa using h3
theorem gtr_no {a b : ByteArray} (h : ltB b a = false) : Op.bytesLess a.toList b.toList = true ∨ (Op.bytesLess a.toList b.toList = false ∧ (a.toList == b.toList) = true) := by
  cases h1 : Op.bytesLess a.toList b.toList with
  | true => exact .inl rfl
  | false => exact .inr ⟨rfl, by rw [bl_tri _ _ h1 h]; simp⟩
theorem OnC.lift {w0 w1 wr : World} {v : Value} {l : List CV} (h : OnC w1 v l wr) (hb : Below w0.heap.size w0 w1) : OnC w0 v l wr := ⟨own_mono h.own hb.size, below_bt hb h.bel⟩
theorem csAt {w w' : World} {b o : Nat} {l : List CV} (h : CsIn w (some ⟨b, o, none⟩) l) {k : Nat} (hk : k < l.length) (hb : Below w.heap.size w w') {c : CV} (hc : l.getD k zeroCV = c) : w'.cell? ⟨b, o + k * 3, none⟩ = some (.string c.key) ∧ w'.cell? ⟨b, o + k * 3 + 1, none⟩ = some (.string c.val) ∧ w'.cell? ⟨b, o + k * 3 + 2, none⟩ = some (.bool c.gone) := by
  rw [← hc]
  exact (h.below hb).at hk
set_option maxRecDepth 8000 in
set_option maxHeartbeats 4000000 in
theorem map2_any (v : Value) (count : Int) (data : List Nat) (ws : Puts) (lq : Option Addr) (ln lc : Nat) (l : List CV) (w : World) (hL : Laid w) (hd : DiskIn w v count data ws) (r : Option (DirV × Int)) (n : Int) (hm : MountIs count data ws r n)
    (hl : ChgIn w lq ln lc l) (hln : ln ≤ 1000) :
    Calls Tryz.prog 58 #[v, .slice lq ln lc] w fun e w' => ∃ mv, e = .returned mv ∧ OnC w mv (map2L l (startC data ws r n)) w' := by
  obtain ⟨p, c, q, m, rfl, _⟩ := hd.parts
  have HL : Hid (Laid w) := hL
  have HD : Hid (DiskIn w (.agg #[.int .i64 count, .slice p data.length c, .slice q ws.length m]) count data ws) := hd
  have HM : Hid (MountIs count data ws r n) := hm
  obtain ⟨dl, hdl⟩ : ∃ k, data.length = k := ⟨_, rfl⟩
  obtain ⟨wl, hwl⟩ : ∃ k, ws.length = k := ⟨_, rfl⟩
  rw [hdl, hwl] at HD ⊢
  have HCH : Hid (ChgIn w lq ln lc l) := hl
  obtain ⟨w0, hw0⟩ : ∃ w0, w.alloc (.cells #[.int .i64 count, .slice p dl c, .slice q wl m] 25) = w0 := ⟨_, rfl⟩
  have HB0 : Hid (Below w.heap.size w w0) := by show Below _ _ _; rw [← hw0]; exact below_alloc _ _
  have HX0 : Hid (w0.heap[w.heap.size]? = some (.cells #[.int .i64 count, .slice p dl c, .slice q wl m] 25 (0, 0))) := by show _ = _; rw [← hw0]; exact heap_alloc_new _ _
  have hnm := Names_any _ count data ws w0 (HL.out.below HB0.out) (HD.out.below HB0.out) r n hm
  obtain ⟨d0, d1, d2⟩ := three_cells HX0.out
  clear hd hL hm hdl hwl hl
  go_enter Tryz.func58, Tryz.ntmps58
  go_upto_region 1 with fail
  (try rw [hw0])
  clear hw0
  go_wp2_with fail
  refine hnm.mono ?_
  rintro e w1 ⟨⟨lv, rfl, hown⟩, hb1⟩
  obtain ⟨q1, m1, rfl, _, _, _⟩ := own_form hown
  have HB1 : Hid (Below w.heap.size w w1) := below_bt HB0.out hb1
  have HX1 : Hid (w1.heap[w.heap.size]? = some (.cells #[.int .i64 count, .slice p dl c, .slice q wl m] 25 (0, 0))) := (hb1.block _ (lt_heap HX0.out)).trans HX0.out
  have HO1 : Hid (w1.ownsRow w0.heap.size 9 1 (.slice q1 (namesN r).length m1) (namesN r).length (Ts (namesN r))) := hown
  clear hown hb1 hnm d0 d1 d2
  obtain ⟨d0, d1, d2⟩ := three_cells HX1.out
  have HNL : Hid _ := names_le HM.out
  obtain ⟨L, hL⟩ : ∃ L, (namesN r).length = L := ⟨_, rfl⟩
  have HLN : Hid ((namesN r).length = L) := hL
  have hL32 : L ≤ 32 := by have := HNL.out.1; omega
  rw [hL] at HO1 ⊢
  clear hL
  go_wp2
  go_loopw [5, 8] (fun o i wr => ∃ k : Nat, k ≤ L ∧ i = .int .i64 k ∧ OnC w1 o ((startC data ws r n).take k) wr) (fun _ i _ => L - (intOf i).toNat)
  case atStart => exact ⟨0, by omega, rfl, cown_nil _ _, Below.refl _ _⟩
  case round =>
    obtain ⟨k, hk, rfl, hz⟩ := hrel
    obtain ⟨P, hP⟩ : ∃ P, (startC data ws r n).take k = P := ⟨_, rfl⟩
    have HPL : Hid (P.length ≤ 32) := by
      show P.length ≤ 32
      rw [← hP, List.length_take]
      omega
    rw [hP] at hz
    obtain ⟨vq, vm, rfl, _, _, _⟩ := own_form hz.own
    have HZ : Hid (OnC w1 (.slice vq P.length vm) P wr) := hz
    obtain ⟨lp, hlp⟩ : ∃ lp, P.length = lp := ⟨_, rfl⟩
    rw [hlp] at HZ HPL ⊢
    have HPE : Hid ((startC data ws r n).take k = P) := hP
    clear d0 d1 d2 hz
    by_cases hkl : k < L
    · have hkl2 : k < (namesN r).length := by have := HLN.out; omega
      have HKL : Hid (k < L) := hkl
      have HNX : Hid _ := startC_next (data := data) (ws := ws) (r := r) (n := n) hkl2
      obtain ⟨gn, rfl, hcell⟩ := own_text (own_below HO1.out HZ.out.bel) HLN.out.symm hkl2
      have HCL : Hid (wr.cell? ⟨gn, k, none⟩ = some (.string ((namesN r).getD k zeroF).name)) := hcell
      have HCN : Hid (∀ w', Below w1.heap.size w1 w' → w'.cell? ⟨gn, k, none⟩ = some (.string ((namesN r).getD k zeroF).name)) := fun w' hb => by
        obtain ⟨g2, e2, h2⟩ := own_text HO1.out HLN.out.symm hkl2
        have e3 : g2 = gn := by simp only [Option.some.injEq, Addr.mk.injEq] at e2; exact e2.1.symm
        rw [e3] at h2
        exact cellB h2 hb
      have hns : (((namesN r).getD k zeroF).name.size : Int) ≤ 9223372036854775807 := by
        have h := HNL.out.2 _ (by rw [getD_eq hkl2]; exact List.getElem_mem hkl2 : (namesN r).getD k zeroF ∈ namesN r)
        omega
      generalize ((namesN r).getD k zeroF).name = nm at *
      obtain ⟨⟨zn, zl⟩, hz⟩ : ∃ z, getN data ws r n nm = z := ⟨_, rfl⟩
      have HBY : Hid (∀ c ∈ zl, c < 256) := by
        show ∀ c ∈ zl, c < 256
        have h := getN_byte HD.out r n nm
        rw [hz] at h
        exact h
      have HBr : Hid (Below w.heap.size w wr) := below_bt HB1.out HZ.out.bel
      have HXr : Hid (wr.heap[w.heap.size]? = some (.cells #[.int .i64 count, .slice p dl c, .slice q wl m] 25 (0, 0))) := (HZ.out.bel.block _ (lt_heap HX1.out)).trans HX1.out
      have HKS : Hid (∀ w', Below wr.heap.size wr w' → (w'.cell? ⟨w.heap.size, 0, none⟩ = some (.int .i64 count) ∧ w'.cell? ⟨w.heap.size, 1, none⟩ = some (.slice p dl c) ∧ w'.cell? ⟨w.heap.size, 2, none⟩ = some (.slice q wl m)) ∧ w'.cell? ⟨gn, k, none⟩ = some (.string nm) ∧ Below wr.heap.size wr w') := fun w' hb => ⟨three_cells ((hb.block _ (lt_heap HXr.out)).trans HXr.out), cellB HCL.out hb, hb⟩
      have HGT : Hid (∀ w', Below wr.heap.size wr w' → Calls Tryz.prog 44 #[.agg #[.int .i64 count, .slice p dl c, .slice q wl m], .string nm] w' fun e w'' => (∃ lv, e = .returned (.tuple #[lv, .int .i64 zn]) ∧ w''.ownsRow w'.heap.size 5 1 lv zl.length (Bs zl)) ∧ Below w'.heap.size w' w'') := fun w' hb => Get_any _ nm count data ws w' (HL.out.below (below_bt HBr.out hb)) (HD.out.below (below_bt HBr.out hb)) hns r n HM.out zn zl hz
      rw [hz] at HNX
      simp only at HNX
      clear hz hkl2 hP hcell
      go_upto_region 6 with fail
      obtain ⟨⟨d0, d1, d2⟩, hcell, _⟩ := HKS.out wr (Below.refl _ _)
      go_region_held3 (fun w' => (w'.cell? ⟨w.heap.size, 0, none⟩ = some (.int .i64 count) ∧ w'.cell? ⟨w.heap.size, 1, none⟩ = some (.slice p dl c) ∧ w'.cell? ⟨w.heap.size, 2, none⟩ = some (.slice q wl m)) ∧ w'.cell? ⟨gn, k, none⟩ = some (.string nm) ∧ Below wr.heap.size wr w')
        (with_reducible first | exact HKS.out _ (Below.refl _ _).drew | exact HKS.out _ (Below.refl _ _) | exact HKS.out _ hB4 | assumption)
        (first
          | (go_at_call 44; refine (HGT.out _ (by first | exact Below.refl _ _ | exact (Below.refl _ _).drew)).mono ?_; rintro e w4 ⟨⟨bv, rfl, hbo⟩, hb4⟩; obtain ⟨qb, mb, rfl, _, _, _⟩ := own_form hbo; have hB4 : Below wr.heap.size wr w4 := (by first | exact hb4 | exact below_drC hb4))
          | fail)
      rename_i hh
      have HB4 : Hid (Below wr.heap.size wr w4) := hB4
      have HZ4 : Hid (OnC w1 (.slice vq lp vm) P w4) := HZ.out.next hB4
      have HBO : Hid (w4.ownsRow wr.heap.size 5 1 (.slice qb zl.length mb) zl.length (Bs zl)) := hbo
      have HKS4 : Hid (∀ w', Below w4.heap.size w4 w' → (convert 22 9 (.slice qb zl.length mb)).run Tryz.prog w' = .ok (.string (strOf zl)) w' ∧ w'.cell? ⟨gn, k, none⟩ = some (.string nm)) := fun w' hb => ⟨conv_at (own_at (own_below HBO.out hb) rfl HBY.out) rfl, cellB HCL.out (below_bt HB4.out hb)⟩
      clear hbo hb4 hcell d0 d1 d2 hh hB4
      go_upto_region 7 with fail
      obtain ⟨cv4, hcell4⟩ := HKS4.out w4 (Below.refl _ _)
      go_region_held_law (fun w' => (convert 22 9 (.slice qb zl.length mb)).run Tryz.prog w' = .ok (.string (strOf zl)) w' ∧ w'.cell? ⟨gn, k, none⟩ = some (.string nm))
        (with_reducible first | exact HKS4.out _ (Below.refl _ _).drew | exact HKS4.out _ (Below.refl _ _) | exact HKS4.out _ HB5.out | exact HKS4.out _ (below_bt HB5.out (below_alloc _ _)) | exact HS6.out | assumption)
        (first
          | (go_at_call 13; refine (put_t _ _ _).mono ?_; rintro e w5 ⟨rfl, hb5⟩; have HB5 : Hid (Below w4.heap.size w4 w5) := (by first | exact hb5 | exact below_drC hb5); have H5 : Hid (OnC w1 (.slice vq lp vm) P (w5.alloc (.cells #[.string nm, .string (strOf zl), .bool false] 40))) := (HZ4.out.next HB5.out).next (below_alloc _ _); have HC5 : Hid _ := new3 w5 (.string nm) (.string (strOf zl)) (.bool false) 40 w5.heap.size rfl)
          | (refine step_append_change rfl _ _ rfl w1.heap.size (.slice vq lp vm) P ⟨nm, strOf zl, false⟩ ⟨w5.heap.size, 0, none⟩ 1 rfl rfl H5.out.own HC5.out.1 HC5.out.2.1 HC5.out.2.2 (by have := HPL.out; omega) H5.out.bel.size ?_; intro v6 w6 ho6 hg6; have H6 : Hid (OnC w1 v6 (P ++ [⟨nm, strOf zl, false⟩]) w6) := H5.out.app hg6 ho6; have hbo5 := own_below HBO.out (below_bt HB5.out (below_alloc w5 (.cells #[.string nm, .string (strOf zl), .bool false] 40))); have hbo6 := World.ownsRow.kept hbo5 hg6 (apart_own hbo5 H5.out.own (by decide)); have HS6 : Hid ((convert 22 9 (.slice qb zl.length mb)).run Tryz.prog w6 = .ok (.string (strOf zl)) w6 ∧ w6.cell? ⟨gn, k, none⟩ = some (.string nm)) := ⟨conv_at (own_at hbo6 rfl HBY.out) rfl, HCN.out _ H6.out.bel⟩; clear ho6 hg6 hbo5 hbo6)
          | fail)
      go_wp2
      go_roundw
      case rel => exact ⟨k + 1, HKL.out, by go_num, by rw [HNX.out, HPE.out]; exact H6.out⟩
      case measure => have := HKL.out; simp [intOf]; omega
    · obtain rfl : k = L := by omega
      have HP2 : Hid (P = startC data ws r n) := by
        show P = _
        rw [← hP, List.take_of_length_le (by unfold startC; rw [List.length_map]; exact Nat.le_of_eq HLN.out)]
      have HZ1 : Hid (OnC w1 (.slice vq lp vm) (map2L (l.take 0) (startC data ws r n)) wr) := by
        show OnC _ _ _ _
        rw [List.take_zero]
        show OnC _ _ (startC data ws r n) _
        rw [← HP2.out]
        exact HZ.out
      have HSL : Hid ((startC data ws r n).length ≤ 32) := by
        show _ ≤ _
        unfold startC
        rw [List.length_map, HLN.out]
        exact hL32
      clear hP hkl hk HPE HPL
      go_wp2
      go_loopw [5, 11] (fun o i wr => ∃ k : Nat, k ≤ ln ∧ i = .int .i64 k ∧ OnC w1 o (map2L (l.take k) (startC data ws r n)) wr) (fun _ i _ => ln - (intOf i).toNat)
      case atStart => exact ⟨0, by omega, rfl, HZ1.out⟩
      case round =>
        clear HZ1 HZ HP2 HLN
        obtain ⟨k2, hk2, rfl, hz2⟩ := hrel
        obtain ⟨P2, hP2⟩ : ∃ P2, map2L (l.take k2) (startC data ws r n) = P2 := ⟨_, rfl⟩
        have HP2L : Hid (P2.length ≤ 1032) := by
          show _ ≤ _
          have h := map2L_len (l.take k2) (startC data ws r n)
          have := HSL.out
          rw [hP2, List.length_take] at h
          omega
        rw [hP2] at hz2
        obtain ⟨vq2, vm2, rfl, _, _, _⟩ := own_form hz2.own
        rename World => wo
        have HZ2 : Hid (OnC w1 (.slice vq2 P2.length vm2) P2 wo) := hz2
        have HBo : Hid (Below w.heap.size w wo) := below_bt HB1.out hz2.bel
        obtain ⟨lp2, hlp2⟩ : ∃ lp2, P2.length = lp2 := ⟨_, rfl⟩
        have HPE2 : Hid (P2.length = lp2) := hlp2
        have hlp2I : (lp2 : Int) ≤ 1032 := by have := HP2L.out; omega
        rw [hlp2] at HZ2 ⊢
        clear hz2 hlp2
        by_cases hkl2 : k2 < ln
        · have hk2l : k2 < l.length := by have := HCH.out.len; omega
          obtain ⟨⟨ky, kv, kg⟩, hkc⟩ : ∃ c, l.getD k2 zeroCV = c := ⟨_, rfl⟩
          have hlies := HCH.out.lies
          obtain ⟨lb, lo, rfl⟩ := hlies.addr (by omega)
          have HLC : Hid (∀ w', Below w.heap.size w w' → w'.cell? ⟨lb, lo + k2 * 3, none⟩ = some (.string ky) ∧ w'.cell? ⟨lb, lo + k2 * 3 + 1, none⟩ = some (.string kv) ∧ w'.cell? ⟨lb, lo + k2 * 3 + 2, none⟩ = some (.bool kg)) := fun w' hb => csAt hlies hk2l hb hkc
          have HN2 : Hid (map2L (l.take (k2 + 1)) (startC data ws r n) = putC ⟨ky, kv, kg⟩ P2) := by
            show _ = _
            rw [map2L_snoc hk2l, hkc, hP2]
          have HK2 : Hid (k2 < ln) := hkl2
          have hk2I : (k2 : Int) < (ln : Int) := by omega
          have hk20 : (0 : Int) ≤ (k2 : Int) := by omega
          have hdk2 : decide (k2 < ln) = true := decide_eq_true hkl2
          clear hlies hkc hk2l hkl2 hk2 hP2
          go_wp2
          have HES : Hid (([] : List CV).length ≤ 2000) := by show ([] : List CV).length ≤ 2000; simp
          go_loopw [12, 13] (fun nx i wr => ∃ j : Nat, j ≤ lp2 ∧ i = .int .i64 j ∧ OnC wo nx (([] : List CV) ++ belowC ky (P2.take j)) wr) (fun _ i _ => lp2 - (intOf i).toNat)
          case atStart => exact ⟨0, by omega, rfl, cown_nil _ _, Below.refl _ _⟩
          case round =>
            obtain ⟨j, hj, rfl, hz3⟩ := hrel
            obtain ⟨Q, hQ⟩ : ∃ Q, ([] : List CV) ++ belowC ky (P2.take j) = Q := ⟨_, rfl⟩
            have HQL : Hid (Q.length ≤ 10000) := by
              show _ ≤ _
              rw [← hQ, List.length_append]
              have h1 : (belowC ky (P2.take j)).length ≤ (P2.take j).length := List.length_filter_le _ _
              have h2 : (P2.take j).length ≤ P2.length := by rw [List.length_take]; omega
              have := HP2L.out
              have := HES.out
              omega
            rw [hQ] at hz3
            obtain ⟨xq, xm, rfl, _, _, _⟩ := own_form hz3.own
            have HX : Hid (OnC wo (.slice xq Q.length xm) Q wr) := hz3
            obtain ⟨lx, hlx⟩ : ∃ lx, Q.length = lx := ⟨_, rfl⟩
            rw [hlx] at HX ⊢
            clear hz3 hlx
            have HQ : Hid (([] : List CV) ++ belowC ky (P2.take j) = Q) := hQ
            clear hQ
            by_cases hjl : j < lp2
            · have hjl2 : j < P2.length := by have := HPE2.out; omega
              obtain ⟨⟨ok, ov, og⟩, hoc⟩ : ∃ c, P2.getD j zeroCV = c := ⟨_, rfl⟩
              have hcs := COwn.cs HZ2.out.own
              obtain ⟨gb, go, rfl⟩ := hcs.addr (by omega)
              have HOC : Hid (∀ w', Below wo.heap.size wo w' → w'.cell? ⟨gb, go + j * 3, none⟩ = some (.string ok) ∧ w'.cell? ⟨gb, go + j * 3 + 1, none⟩ = some (.string ov) ∧ w'.cell? ⟨gb, go + j * 3 + 2, none⟩ = some (.bool og)) := fun w' hb => csAt hcs hjl2 hb hoc
              have HJL : Hid (j < lp2) := hjl
              have hjI : (j : Int) < (lp2 : Int) := by omega
              have hj0 : (0 : Int) ≤ (j : Int) := by omega
              have hdj : decide (j < lp2) = true := decide_eq_true hjl
              obtain ⟨c0, c1, c2⟩ := HOC.out wr HX.out.bel
              obtain ⟨l0, l1, l2⟩ := HLC.out wr (below_bt HBo.out HX.out.bel)
              cases hlt : ltB ok ky with
              | true =>
                have HY : Hid (([] : List CV) ++ belowC ky (P2.take (j + 1)) = Q ++ [⟨ok, ov, og⟩]) := by
                  show _ = _
                  rw [belowC_yes (key := ky) hjl2 (by rw [hoc]; exact hlt), hoc, ← HQ.out, List.append_assoc]
                have hlt2 : Op.bytesLess ok.toList ky.toList = true := hlt
                skip
                clear hcs hoc hjl2 hlt hjl hj
                go_wp2
                go_quiet (fail)
                have HXd : Hid (OnC wo (.slice xq lx xm) Q ((wr.drewN nq).alloc (.cells #[.string ok, .string ov, .bool og] 40))) := (HX.out.next (below_drewN (Below.refl _ _) _)).next (below_alloc _ _)
                have HC1 : Hid _ := new3 (wr.drewN nq) (.string ok) (.string ov) (.bool og) 40 wr.heap.size rfl
                go_wp2_with (at_builtin; go_loud ((refine wpList_append_change _ rfl _ _ rfl wo.heap.size (.slice xq lx xm) Q ⟨ok, ov, og⟩ ⟨wr.heap.size, 0, none⟩ 1 rfl rfl HXd.out.own HC1.out.1 HC1.out.2.1 HC1.out.2.2 (by have := HQL.out; omega) HXd.out.bel.size ?_); intro v5 w5 ho5 hg5; have H5 : Hid (OnC wo v5 (Q ++ [⟨ok, ov, og⟩]) w5) := HXd.out.app hg5 ho5; clear ho5 hg5))
                go_roundw
                case rel => exact ⟨j + 1, HJL.out, by go_num, by rw [HY.out]; exact H5.out⟩
                case measure => have := HJL.out; simp [intOf]; omega
              | false =>
                have HY : Hid (([] : List CV) ++ belowC ky (P2.take (j + 1)) = Q) := by
                  show _ = _
                  rw [belowC_no (key := ky) hjl2 (by rw [hoc]; exact hlt), HQ.out]
                have hlt2 : Op.bytesLess ok.toList ky.toList = false := hlt
                skip
                all_goals
                  clear hcs hoc hjl2 hlt hjl hj
                  go_wp2
                  go_quiet (fail)
                  go_wp2
                  go_roundw
                  case rel => exact ⟨j + 1, HJL.out, by go_num, by rw [HY.out]; exact HX.out.next (below_drewN (Below.refl _ _) _)⟩
                  case measure => have := HJL.out; simp [intOf]; omega
            · have hdj : decide (j < lp2) = false := decide_eq_false hjl
              have hjI : (lp2 : Int) ≤ (j : Int) := by omega
              have HQ3 : Hid (Q = ([] : List CV) ++ belowC ky P2) := by
                show _ = _
                rw [← HQ.out, List.take_of_length_le (by have := HPE2.out; omega)]
              clear hjl hj HQ
              obtain ⟨l0, l1, l2⟩ := HLC.out wr (below_bt HBo.out HX.out.bel)
              cases kg with
              | true =>
                obtain ⟨E2, hE2⟩ : ∃ E2, belowC ky P2 ++ oneNew ⟨ky, kv, true⟩ = E2 := ⟨_, rfl⟩
                have HE2 : Hid (belowC ky P2 ++ oneNew ⟨ky, kv, true⟩ = E2) := hE2
                have HE2Q : Hid (Q = E2) := by show _ = _; rw [HQ3.out, ← hE2]; simp [oneNew]
                have HE2L : Hid (E2.length ≤ 2000) := by
                  show _ ≤ _
                  have h1 : (belowC ky P2).length ≤ P2.length := List.length_filter_le _ _
                  have := HP2L.out
                  rw [← HE2Q.out, HQ3.out, List.nil_append]
                  omega
                have HOE : Hid (OnC wo (.slice xq lx xm) E2 wr) := by show OnC _ _ _ _; rw [← HE2Q.out]; exact HX.out
                clear hE2 HX HQ3 HE2Q HQL
                go_wp2
                have HES : Hid (E2.length ≤ 2000) := HE2L
                go_loopw [12, 14] (fun nx i wr => ∃ j : Nat, j ≤ lp2 ∧ i = .int .i64 j ∧ OnC wo nx (E2 ++ aboveC ky (P2.take j)) wr) (fun _ i _ => lp2 - (intOf i).toNat)
                case atStart => exact ⟨0, by omega, rfl, by rw [show aboveC ky (P2.take 0) = [] from rfl, List.append_nil]; exact HOE.out⟩
                case round =>
                  obtain ⟨j, hj, rfl, hz3⟩ := hrel
                  obtain ⟨Q, hQ⟩ : ∃ Q, E2 ++ aboveC ky (P2.take j) = Q := ⟨_, rfl⟩
                  have HQL : Hid (Q.length ≤ 10000) := by
                    show _ ≤ _
                    rw [← hQ, List.length_append]
                    have h1 : (aboveC ky (P2.take j)).length ≤ (P2.take j).length := List.length_filter_le _ _
                    have h2 : (P2.take j).length ≤ P2.length := by rw [List.length_take]; omega
                    have := HP2L.out
                    have := HES.out
                    omega
                  rw [hQ] at hz3
                  obtain ⟨xq, xm, rfl, _, _, _⟩ := own_form hz3.own
                  have HX : Hid (OnC wo (.slice xq Q.length xm) Q wr) := hz3
                  obtain ⟨lx, hlx⟩ : ∃ lx, Q.length = lx := ⟨_, rfl⟩
                  rw [hlx] at HX ⊢
                  clear hz3 hlx
                  have HQ : Hid (E2 ++ aboveC ky (P2.take j) = Q) := hQ
                  clear hQ
                  by_cases hjl : j < lp2
                  · have hjl2 : j < P2.length := by have := HPE2.out; omega
                    obtain ⟨⟨ok, ov, og⟩, hoc⟩ : ∃ c, P2.getD j zeroCV = c := ⟨_, rfl⟩
                    have hcs := COwn.cs HZ2.out.own
                    obtain ⟨gb, go, rfl⟩ := hcs.addr (by omega)
                    have HOC : Hid (∀ w', Below wo.heap.size wo w' → w'.cell? ⟨gb, go + j * 3, none⟩ = some (.string ok) ∧ w'.cell? ⟨gb, go + j * 3 + 1, none⟩ = some (.string ov) ∧ w'.cell? ⟨gb, go + j * 3 + 2, none⟩ = some (.bool og)) := fun w' hb => csAt hcs hjl2 hb hoc
                    have HJL : Hid (j < lp2) := hjl
                    have hjI : (j : Int) < (lp2 : Int) := by omega
                    have hj0 : (0 : Int) ≤ (j : Int) := by omega
                    have hdj : decide (j < lp2) = true := decide_eq_true hjl
                    obtain ⟨c0, c1, c2⟩ := HOC.out wr HX.out.bel
                    obtain ⟨l0, l1, l2⟩ := HLC.out wr (below_bt HBo.out HX.out.bel)
                    cases hlt : ltB ky ok with
                    | true =>
                      have HY : Hid (E2 ++ aboveC ky (P2.take (j + 1)) = Q ++ [⟨ok, ov, og⟩]) := by
                        show _ = _
                        rw [aboveC_yes (key := ky) hjl2 (by rw [hoc]; exact hlt), hoc, ← HQ.out, List.append_assoc]
                      have hlt2 : Op.bytesLess ky.toList ok.toList = true := hlt
                      obtain ⟨g1, g2⟩ := gtr_yes hlt
                      clear hcs hoc hjl2 hlt hjl hj
                      go_wp2
                      go_quiet (fail)
                      have HXd : Hid (OnC wo (.slice xq lx xm) Q ((wr.drewN nq).alloc (.cells #[.string ok, .string ov, .bool og] 40))) := (HX.out.next (below_drewN (Below.refl _ _) _)).next (below_alloc _ _)
                      have HC1 : Hid _ := new3 (wr.drewN nq) (.string ok) (.string ov) (.bool og) 40 wr.heap.size rfl
                      go_wp2_with (at_builtin; go_loud ((refine wpList_append_change _ rfl _ _ rfl wo.heap.size (.slice xq lx xm) Q ⟨ok, ov, og⟩ ⟨wr.heap.size, 0, none⟩ 1 rfl rfl HXd.out.own HC1.out.1 HC1.out.2.1 HC1.out.2.2 (by have := HQL.out; omega) HXd.out.bel.size ?_); intro v5 w5 ho5 hg5; have H5 : Hid (OnC wo v5 (Q ++ [⟨ok, ov, og⟩]) w5) := HXd.out.app hg5 ho5; clear ho5 hg5))
                      go_roundw
                      case rel => exact ⟨j + 1, HJL.out, by go_num, by rw [HY.out]; exact H5.out⟩
                      case measure => have := HJL.out; simp [intOf]; omega
                    | false =>
                      have HY : Hid (E2 ++ aboveC ky (P2.take (j + 1)) = Q) := by
                        show _ = _
                        rw [aboveC_no (key := ky) hjl2 (by rw [hoc]; exact hlt), HQ.out]
                      have hlt2 : Op.bytesLess ky.toList ok.toList = false := hlt
                      rcases gtr_no hlt with g1 | ⟨g1, g2⟩
                      all_goals
                        clear hcs hoc hjl2 hlt hjl hj
                        go_wp2
                        go_quiet (fail)
                        go_wp2
                        go_roundw
                        case rel => exact ⟨j + 1, HJL.out, by go_num, by rw [HY.out]; exact HX.out.next (below_drewN (Below.refl _ _) _)⟩
                        case measure => have := HJL.out; simp [intOf]; omega
                  · have hdj : decide (j < lp2) = false := decide_eq_false hjl
                    have hjI : (lp2 : Int) ≤ (j : Int) := by omega
                    have HQ3 : Hid (Q = E2 ++ aboveC ky P2) := by
                      show _ = _
                      rw [← HQ.out, List.take_of_length_le (by have := HPE2.out; omega)]
                    clear hjl hj HQ
                    have HR2 : Hid (map2L (l.take (k2 + 1)) (startC data ws r n) = Q) := by
                      show _ = _
                      rw [HN2.out, HQ3.out, ← HE2.out]
                      rfl
                    have HON : Hid (OnC w1 (.slice xq lx xm) Q wr) := HX.out.lift HZ2.out.bel
                    go_wp2
                    go_roundw
                    case rel => exact ⟨k2 + 1, HK2.out, by go_num, by rw [HR2.out]; exact HON.out⟩
                    case measure => have := HK2.out; simp [intOf]; omega
              | false =>
                obtain ⟨E2, hE2⟩ : ∃ E2, belowC ky P2 ++ oneNew ⟨ky, kv, false⟩ = E2 := ⟨_, rfl⟩
                have HE2 : Hid (belowC ky P2 ++ oneNew ⟨ky, kv, false⟩ = E2) := hE2
                have HE2Q : Hid (Q ++ [⟨ky, kv, false⟩] = E2) := by show _ = _; rw [HQ3.out, ← hE2]; simp [oneNew]
                have HE2L : Hid (E2.length ≤ 2000) := by
                  show _ ≤ _
                  have h1 : (belowC ky P2).length ≤ P2.length := List.length_filter_le _ _
                  have := HP2L.out
                  rw [← HE2Q.out, HQ3.out, List.nil_append, List.length_append]
                  simp
                  omega
                have HX4 : Hid (OnC wo (.slice xq lx xm) Q wr) := HX.out
                have HKS4 : Hid (∀ w', Below wr.heap.size wr w' → w'.cell? ⟨lb, lo + k2 * 3, none⟩ = some (.string ky) ∧ w'.cell? ⟨lb, lo + k2 * 3 + 1, none⟩ = some (.string kv)) := fun w' hb => ⟨(HLC.out w' (below_bt (below_bt HBo.out HX4.out.bel) hb)).1, (HLC.out w' (below_bt (below_bt HBo.out HX4.out.bel) hb)).2.1⟩
                clear hE2 HX HQ3 l0 l1
                go_upto_region 18 with fail
                obtain ⟨l0, l1⟩ := HKS4.out wr (Below.refl _ _)
                go_region_held_law (fun w' => w'.cell? ⟨lb, lo + k2 * 3, none⟩ = some (.string ky) ∧ w'.cell? ⟨lb, lo + k2 * 3 + 1, none⟩ = some (.string kv))
                  (with_reducible first | exact HKS4.out _ (Below.refl _ _).drew | exact HKS4.out _ (Below.refl _ _) | exact HKS4.out _ HB5.out | exact HKS4.out _ (below_bt HB5.out (below_alloc _ _)) | exact HS6.out | assumption)
                  (first
                    | (go_at_call 13; refine (put_t _ _ _).mono ?_; rintro e w5 ⟨rfl, hb5⟩; have HB5 : Hid (Below wr.heap.size wr w5) := (by first | exact hb5 | exact below_drC hb5); have H5 : Hid (OnC wo (.slice xq lx xm) Q (w5.alloc (.cells #[.string ky, .string kv, .bool false] 40))) := (HX4.out.next HB5.out).next (below_alloc _ _); have HC5 : Hid _ := new3 w5 (.string ky) (.string kv) (.bool false) 40 w5.heap.size rfl)
                    | (refine step_append_change rfl _ _ rfl wo.heap.size (.slice xq lx xm) Q ⟨ky, kv, false⟩ ⟨w5.heap.size, 0, none⟩ 1 rfl rfl H5.out.own HC5.out.1 HC5.out.2.1 HC5.out.2.2 (by have := HQL.out; omega) H5.out.bel.size ?_; intro v6 w6 ho6 hg6; have H6 : Hid (OnC wo v6 (Q ++ [⟨ky, kv, false⟩]) w6) := H5.out.app hg6 ho6; have HS6 : Hid (w6.cell? ⟨lb, lo + k2 * 3, none⟩ = some (.string ky) ∧ w6.cell? ⟨lb, lo + k2 * 3 + 1, none⟩ = some (.string kv)) := ⟨(HLC.out w6 (below_bt HBo.out H6.out.bel)).1, (HLC.out w6 (below_bt HBo.out H6.out.bel)).2.1⟩; clear ho6 hg6)
                    | fail)
                have HOE : Hid (OnC wo v6 E2 w6) := by show OnC _ _ _ _; rw [← HE2Q.out]; exact H6.out
                clear H6 H5 HC5 HX4 HS6 HKS4 HQL HE2Q l0 l1
                go_wp2
                have HES : Hid (E2.length ≤ 2000) := HE2L
                go_loopw [12, 14] (fun nx i wr => ∃ j : Nat, j ≤ lp2 ∧ i = .int .i64 j ∧ OnC wo nx (E2 ++ aboveC ky (P2.take j)) wr) (fun _ i _ => lp2 - (intOf i).toNat)
                case atStart => exact ⟨0, by omega, rfl, by rw [show aboveC ky (P2.take 0) = [] from rfl, List.append_nil]; exact HOE.out⟩
                case round =>
                  obtain ⟨j, hj, rfl, hz3⟩ := hrel
                  obtain ⟨Q, hQ⟩ : ∃ Q, E2 ++ aboveC ky (P2.take j) = Q := ⟨_, rfl⟩
                  have HQL : Hid (Q.length ≤ 10000) := by
                    show _ ≤ _
                    rw [← hQ, List.length_append]
                    have h1 : (aboveC ky (P2.take j)).length ≤ (P2.take j).length := List.length_filter_le _ _
                    have h2 : (P2.take j).length ≤ P2.length := by rw [List.length_take]; omega
                    have := HP2L.out
                    have := HES.out
                    omega
                  rw [hQ] at hz3
                  obtain ⟨xq, xm, rfl, _, _, _⟩ := own_form hz3.own
                  have HX : Hid (OnC wo (.slice xq Q.length xm) Q wr) := hz3
                  obtain ⟨lx, hlx⟩ : ∃ lx, Q.length = lx := ⟨_, rfl⟩
                  rw [hlx] at HX ⊢
                  clear hz3 hlx
                  have HQ : Hid (E2 ++ aboveC ky (P2.take j) = Q) := hQ
                  clear hQ
                  by_cases hjl : j < lp2
                  · have hjl2 : j < P2.length := by have := HPE2.out; omega
                    obtain ⟨⟨ok, ov, og⟩, hoc⟩ : ∃ c, P2.getD j zeroCV = c := ⟨_, rfl⟩
                    have hcs := COwn.cs HZ2.out.own
                    obtain ⟨gb, go, rfl⟩ := hcs.addr (by omega)
                    have HOC : Hid (∀ w', Below wo.heap.size wo w' → w'.cell? ⟨gb, go + j * 3, none⟩ = some (.string ok) ∧ w'.cell? ⟨gb, go + j * 3 + 1, none⟩ = some (.string ov) ∧ w'.cell? ⟨gb, go + j * 3 + 2, none⟩ = some (.bool og)) := fun w' hb => csAt hcs hjl2 hb hoc
                    have HJL : Hid (j < lp2) := hjl
                    have hjI : (j : Int) < (lp2 : Int) := by omega
                    have hj0 : (0 : Int) ≤ (j : Int) := by omega
                    have hdj : decide (j < lp2) = true := decide_eq_true hjl
                    obtain ⟨c0, c1, c2⟩ := HOC.out wr HX.out.bel
                    obtain ⟨l0, l1, l2⟩ := HLC.out wr (below_bt HBo.out HX.out.bel)
                    cases hlt : ltB ky ok with
                    | true =>
                      have HY : Hid (E2 ++ aboveC ky (P2.take (j + 1)) = Q ++ [⟨ok, ov, og⟩]) := by
                        show _ = _
                        rw [aboveC_yes (key := ky) hjl2 (by rw [hoc]; exact hlt), hoc, ← HQ.out, List.append_assoc]
                      have hlt2 : Op.bytesLess ky.toList ok.toList = true := hlt
                      obtain ⟨g1, g2⟩ := gtr_yes hlt
                      clear hcs hoc hjl2 hlt hjl hj
                      go_wp2
                      go_quiet (fail)
                      have HXd : Hid (OnC wo (.slice xq lx xm) Q ((wr.drewN nq).alloc (.cells #[.string ok, .string ov, .bool og] 40))) := (HX.out.next (below_drewN (Below.refl _ _) _)).next (below_alloc _ _)
                      have HC1 : Hid _ := new3 (wr.drewN nq) (.string ok) (.string ov) (.bool og) 40 wr.heap.size rfl
                      go_wp2_with (at_builtin; go_loud ((refine wpList_append_change _ rfl _ _ rfl wo.heap.size (.slice xq lx xm) Q ⟨ok, ov, og⟩ ⟨wr.heap.size, 0, none⟩ 1 rfl rfl HXd.out.own HC1.out.1 HC1.out.2.1 HC1.out.2.2 (by have := HQL.out; omega) HXd.out.bel.size ?_); intro v5 w5 ho5 hg5; have H5 : Hid (OnC wo v5 (Q ++ [⟨ok, ov, og⟩]) w5) := HXd.out.app hg5 ho5; clear ho5 hg5))
                      go_roundw
                      case rel => exact ⟨j + 1, HJL.out, by go_num, by rw [HY.out]; exact H5.out⟩
                      case measure => have := HJL.out; simp [intOf]; omega
                    | false =>
                      have HY : Hid (E2 ++ aboveC ky (P2.take (j + 1)) = Q) := by
                        show _ = _
                        rw [aboveC_no (key := ky) hjl2 (by rw [hoc]; exact hlt), HQ.out]
                      have hlt2 : Op.bytesLess ky.toList ok.toList = false := hlt
                      rcases gtr_no hlt with g1 | ⟨g1, g2⟩
                      all_goals
                        clear hcs hoc hjl2 hlt hjl hj
                        go_wp2
                        go_quiet (fail)
                        go_wp2
                        go_roundw
                        case rel => exact ⟨j + 1, HJL.out, by go_num, by rw [HY.out]; exact HX.out.next (below_drewN (Below.refl _ _) _)⟩
                        case measure => have := HJL.out; simp [intOf]; omega
                  · have hdj : decide (j < lp2) = false := decide_eq_false hjl
                    have hjI : (lp2 : Int) ≤ (j : Int) := by omega
                    have HQ3 : Hid (Q = E2 ++ aboveC ky P2) := by
                      show _ = _
                      rw [← HQ.out, List.take_of_length_le (by have := HPE2.out; omega)]
                    clear hjl hj HQ
                    have HR2 : Hid (map2L (l.take (k2 + 1)) (startC data ws r n) = Q) := by
                      show _ = _
                      rw [HN2.out, HQ3.out, ← HE2.out]
                      rfl
                    have HON : Hid (OnC w1 (.slice xq lx xm) Q wr) := HX.out.lift HZ2.out.bel
                    go_wp2
                    go_roundw
                    case rel => exact ⟨k2 + 1, HK2.out, by go_num, by rw [HR2.out]; exact HON.out⟩
                    case measure => have := HK2.out; simp [intOf]; omega
        · obtain rfl : k2 = ln := by omega
          have hdk2 : decide (k2 < k2) = false := decide_eq_false (by omega)
          have HR : Hid (P2 = map2L l (startC data ws r n)) := by
            show _ = _
            rw [← hP2, List.take_of_length_le (by have := HCH.out.len; omega)]
          have HF : Hid (OnC w (.slice vq2 lp2 vm2) P2 wo) := HZ2.out.lift HB1.out
          clear hkl2 hk2 hP2
          go_wp2
          go_ret
          exact ⟨_, rfl, by rw [← HR.out]; exact HF.out⟩
end Go.Proofs.YtiakfdhbbkpfhaaGreatDoor
