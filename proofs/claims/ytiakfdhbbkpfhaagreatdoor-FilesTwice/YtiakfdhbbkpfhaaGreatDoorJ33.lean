/-
  Contracts in the forms that the statements meet them in.
-/
import Derived.Test.YtiakfdhbbkpfhaaGreatDoorJ32
import Derived.Test.YtiakfdhbbkpfhaaGreatDoorJ30
import Derived.Test.YtiakfdhbbkpfhaaGreatDoorJ29
namespace Go.Proofs.YtiakfdhbbkpfhaaGreatDoor
open Go.RowKit Go.WideShapes Rm

/-- What holds answers. -/
structure HoldsP (w : World) (H : Prop) (e : Ending) (w' : World) : Prop where
  ex : ∃ b : Bool, e = .returned (.bool b) ∧ (H → b = true) ∧ Below w.heap.size w w'
theorem str_ne {zl : List Nat} {v : ByteArray} (h : ∀ c ∈ zl, c < 256) : ((strOf zl).toList == v.toList) = decide (zl = numsOf v) := by
  rw [eq_strF]
  by_cases e : zl = numsOf v
  · rw [e, strOf_nums]; simp
  · have : strOf zl ≠ v := fun k => e (by rw [← k, nums_strOf h])
    rw [decide_eq_false this, decide_eq_false e]
set_option maxRecDepth 8000 in
set_option maxHeartbeats 8000000 in
theorem holds_any (vx v : Value) (cx count : Int) (Dx data : List Nat) (Wx ws : Puts) (lq : Option Addr) (ln lc : Nat) (l : List CV) (w : World) (hL : Laid w) (hx : DiskIn w vx cx Dx Wx) (hd : DiskIn w v count data ws)
    (rx : Option (DirV × Int)) (nx : Int) (hmx : MountIs cx Dx Wx rx nx) (r : Option (DirV × Int)) (n : Int) (hm : MountIs count data ws r n) (hl : ChgIn w lq ln lc l) (hln : ln ≤ 1000) :
    Calls Tryz.prog 27 #[vx, v, .slice lq ln lc] w fun e w' => HoldsP w (HasAll Dx Wx rx nx (map2L l (startC data ws r n))) e w' := by
  obtain ⟨p, c, q, m, rfl, _⟩ := hd.parts
  obtain ⟨px, xc, qx, mx, rfl, _⟩ := hx.parts
  have HL : Hid (Laid w) := hL
  have HX : Hid (DiskIn w (.agg #[.int .i64 cx, .slice px Dx.length xc, .slice qx Wx.length mx]) cx Dx Wx) := hx
  have HMX : Hid (MountIs cx Dx Wx rx nx) := hmx
  obtain ⟨dl, hdl⟩ : ∃ k, data.length = k := ⟨_, rfl⟩
  obtain ⟨wl, hwl⟩ : ∃ k, ws.length = k := ⟨_, rfl⟩
  obtain ⟨xl, hxl⟩ : ∃ k, Dx.length = k := ⟨_, rfl⟩
  obtain ⟨yl, hyl⟩ : ∃ k, Wx.length = k := ⟨_, rfl⟩
  rw [hxl, hyl] at HX
  rw [hdl, hwl] at hd
  rw [hdl, hwl, hxl, hyl]
  obtain ⟨W2, hW2⟩ : ∃ W2, (w.alloc (.cells #[.int .i64 cx, .slice px xl xc, .slice qx yl mx] 25)).alloc (.cells #[.int .i64 count, .slice p dl c, .slice q wl m] 25) = W2 := ⟨_, rfl⟩
  have HB2 : Hid (Below w.heap.size w W2) := by show Below _ _ _; rw [← hW2]; exact below_bt (below_alloc _ _) (below_alloc _ _)
  have HX2 : Hid (W2.heap[w.heap.size]? = some (.cells #[.int .i64 cx, .slice px xl xc, .slice qx yl mx] 25 (0, 0))) := by
    show _ = _
    rw [← hW2]
    exact ((below_alloc (w.alloc _) _).block _ (by simp)).trans (heap_alloc_new w _)
  have HY2 : Hid (W2.heap[w.heap.size + 1]? = some (.cells #[.int .i64 count, .slice p dl c, .slice q wl m] 25 (0, 0))) := by
    show _ = _
    rw [← hW2]
    have := heap_alloc_new (w.alloc (.cells #[.int .i64 cx, .slice px xl xc, .slice qx yl mx] 25)) (.cells #[.int .i64 count, .slice p dl c, .slice q wl m] 25)
    simpa using this
  have hmp := map2_any _ count data ws lq ln lc l W2 (HL.out.below HB2.out) (hd.below HB2.out) r n hm ⟨hl.lies.below HB2.out, hl.len, hl.cap, hl.fits, hl.keys⟩ hln
  have HKY : Hid (∀ a ∈ map2L l (startC data ws r n), (a.key.size : Int) ≤ 9223372036854775807) := map2L_keys hm (by decide) hl.keys
  have HML : Hid ((map2L l (startC data ws r n)).length ≤ 2000) := by
    show _ ≤ _
    have h1 := map2L_len l (startC data ws r n)
    have h2 : (startC data ws r n).length ≤ 32 := by unfold startC; rw [List.length_map]; exact (names_le hm).1
    have := hl.len
    omega
  obtain ⟨M, hM⟩ : ∃ M, map2L l (startC data ws r n) = M := ⟨_, rfl⟩
  rw [hM] at hmp HKY HML ⊢
  obtain ⟨d0, d1, d2⟩ := three_cells HY2.out
  clear hd hx hL hm hmx hl hdl hwl hxl hyl hM hln
  go_enter Tryz.func27, Tryz.ntmps27
  go_upto_region 1 with fail
  (try rw [hW2])
  clear hW2
  go_wp2_with fail
  refine hmp.mono ?_
  rintro e w3 ⟨mv, rfl, hon⟩
  obtain ⟨mq, mm, rfl, _, _, _⟩ := own_form hon.own
  have HON : Hid (OnC W2 (.slice mq M.length mm) M w3) := hon
  have HB3 : Hid (Below w.heap.size w w3) := below_bt HB2.out hon.bel
  have HX3 : Hid (w3.heap[w.heap.size]? = some (.cells #[.int .i64 cx, .slice px xl xc, .slice qx yl mx] 25 (0, 0))) := (hon.bel.block _ (lt_heap HX2.out)).trans HX2.out
  obtain ⟨ML, hMLe⟩ : ∃ k, M.length = k := ⟨_, rfl⟩
  have HME : Hid (M.length = ML) := hMLe
  rw [hMLe] at HON HML ⊢
  clear hmp hon d0 d1 d2 HY2 hMLe
  obtain ⟨d0, d1, d2⟩ := three_cells HX3.out
  have hnm := Names_any _ cx Dx Wx w3 (HL.out.below HB3.out) (HX.out.below HB3.out) rx nx HMX.out
  go_wp2_with fail
  refine hnm.mono ?_
  rintro e w4 ⟨⟨lv, rfl, hown⟩, hb4⟩
  obtain ⟨q4, m4, rfl, _, _, _⟩ := own_form hown
  have HB4 : Hid (Below w.heap.size w w4) := below_bt HB3.out hb4
  have HX4 : Hid (w4.heap[w.heap.size]? = some (.cells #[.int .i64 cx, .slice px xl xc, .slice qx yl mx] 25 (0, 0))) := (hb4.block _ (lt_heap HX3.out)).trans HX3.out
  have HO4 : Hid (w4.ownsRow w3.heap.size 9 1 (.slice q4 (namesN rx).length m4) (namesN rx).length (Ts (namesN rx))) := hown
  have HC4 : Hid (CsIn w4 mq M) := (COwn.cs HON.out.own).below hb4
  obtain ⟨NL, hNL⟩ : ∃ k, (namesN rx).length = k := ⟨_, rfl⟩
  have HNE : Hid ((namesN rx).length = NL) := hNL
  have hNLi : (NL : Int) ≤ 32 := by have := (names_le HMX.out).1; omega
  have hMLi : (ML : Int) ≤ 2000 := by have := HML.out; omega
  rw [hNL] at HO4 ⊢
  clear hnm hown hb4 d0 d1 d2 hNL HON HX3 HB3
  by_cases h0 : nx = 0
  · by_cases hlen : NL = ML
    · subst hlen
      have H0 : Hid (nx = 0) := h0
      subst h0
      clear hMLi
      go_wp2
      go_loopw [10] (fun i wr => ∃ k : Nat, k ≤ NL ∧ i = .int .i64 k ∧ Below w4.heap.size w4 wr) (fun i _ => NL - (intOf i).toNat)
      case atStart => exact ⟨0, by omega, rfl, Below.refl _ _⟩
      case round =>
        obtain ⟨k, hk, rfl, hbk⟩ := hrel
        have HBK : Hid (Below w4.heap.size w4 wr) := hbk
        clear hbk
        by_cases hkl : k < NL
        · have hkM : k < M.length := by have := HME.out; omega
          have hkN : k < (namesN rx).length := by have := HNE.out; omega
          have hkI : (k : Int) < (NL : Int) := by omega
          have hk0 : (0 : Int) ≤ (k : Int) := by omega
          have HKL : Hid (k < NL) := hkl
          have hdk : decide (k < NL) = true := decide_eq_true hkl
          obtain ⟨⟨ck, cv, cg⟩, hcc⟩ : ∃ x, M.getD k zeroCV = x := ⟨_, rfl⟩
          have hcs := HC4.out
          obtain ⟨mb, mo, rfl⟩ := hcs.addr (by omega)
          have HCC : Hid (∀ w', Below w4.heap.size w4 w' → w'.cell? ⟨mb, mo + k * 3, none⟩ = some (.string ck) ∧ w'.cell? ⟨mb, mo + k * 3 + 1, none⟩ = some (.string cv)) := fun w' hb => ⟨(csAt hcs hkM hb hcc).1, (csAt hcs hkM hb hcc).2.1⟩
          obtain ⟨nb, rfl, hcellN⟩ := own_text HO4.out HNE.out.symm hkN
          obtain ⟨nmk, hnmk⟩ : ∃ x, ((namesN rx).getD k zeroF).name = x := ⟨_, rfl⟩
          rw [hnmk] at hcellN
          have HCN : Hid (∀ w', Below w4.heap.size w4 w' → w'.cell? ⟨nb, k, none⟩ = some (.string nmk)) := fun w' hb => cellB hcellN hb
          have hks : (ck.size : Int) ≤ 9223372036854775807 := by
            have h := HKY.out (M.getD k zeroCV) (by rw [getD_eq hkM]; exact List.getElem_mem hkM)
            rw [hcc] at h
            exact h
          obtain ⟨⟨zn, zl⟩, hz⟩ : ∃ z, getN Dx Wx rx 0 ck = z := ⟨_, rfl⟩
          have HBY : Hid (∀ c ∈ zl, c < 256) := by
            show ∀ c ∈ zl, c < 256
            have h := getN_byte HX.out rx 0 ck
            rw [hz] at h
            exact h
          have HHA : Hid (HasAll Dx Wx rx 0 M → zn = 0 ∧ zl = numsOf cv ∧ nmk = ck) := fun h => by
            obtain ⟨h1, h2⟩ := h.2.2 k hkM
            rw [hnmk, hcc] at h1
            rw [hcc] at h2
            simp only at h1 h2
            rw [hz] at h2
            simp only [Prod.mk.injEq] at h2
            exact ⟨h2.1, h2.2, h1⟩
          have HBr : Hid (Below w.heap.size w wr) := below_bt HB4.out HBK.out
          have HXr : Hid (wr.heap[w.heap.size]? = some (.cells #[.int .i64 cx, .slice px xl xc, .slice qx yl mx] 25 (0, 0))) := (HBK.out.block _ (lt_heap HX4.out)).trans HX4.out
          have HKS : Hid (∀ w', Below wr.heap.size wr w' → (w'.cell? ⟨w.heap.size, 0, none⟩ = some (.int .i64 cx) ∧ w'.cell? ⟨w.heap.size, 1, none⟩ = some (.slice px xl xc) ∧ w'.cell? ⟨w.heap.size, 2, none⟩ = some (.slice qx yl mx)) ∧ w'.cell? ⟨mb, mo + k * 3, none⟩ = some (.string ck) ∧ Below wr.heap.size wr w') := fun w' hb => ⟨three_cells ((hb.block _ (lt_heap HXr.out)).trans HXr.out), (HCC.out w' (below_bt HBK.out hb)).1, hb⟩
          have HGT : Hid (∀ w', Below wr.heap.size wr w' → Calls Tryz.prog 44 #[.agg #[.int .i64 cx, .slice px xl xc, .slice qx yl mx], .string ck] w' fun e w'' => (∃ lv, e = .returned (.tuple #[lv, .int .i64 zn]) ∧ w''.ownsRow w'.heap.size 5 1 lv zl.length (Bs zl)) ∧ Below w'.heap.size w' w'') := fun w' hb => Get_any _ ck cx Dx Wx w' (HL.out.below (below_bt HBr.out hb)) (HX.out.below (below_bt HBr.out hb)) hks rx 0 HMX.out zn zl hz
          clear hz hkM hkN hcs hcc hcellN hnmk hk hkl
          go_upto_region 8 with fail
          obtain ⟨⟨d0, d1, d2⟩, hcell, _⟩ := HKS.out wr (Below.refl _ _)
          go_region_held3 (fun w' => (w'.cell? ⟨w.heap.size, 0, none⟩ = some (.int .i64 cx) ∧ w'.cell? ⟨w.heap.size, 1, none⟩ = some (.slice px xl xc) ∧ w'.cell? ⟨w.heap.size, 2, none⟩ = some (.slice qx yl mx)) ∧ w'.cell? ⟨mb, mo + k * 3, none⟩ = some (.string ck) ∧ Below wr.heap.size wr w')
            (with_reducible first | exact HKS.out _ (Below.refl _ _).drew | exact HKS.out _ (Below.refl _ _) | exact HKS.out _ hB5 | assumption)
            (first
              | (go_at_call 44; refine (HGT.out _ (by first | exact Below.refl _ _ | exact (Below.refl _ _).drew)).mono ?_; rintro e w5 ⟨⟨bv, rfl, hbo⟩, hb5⟩; obtain ⟨qb, mbb, rfl, _, _, _⟩ := own_form hbo; have hB5 : Below wr.heap.size wr w5 := (by first | exact hb5 | exact below_drC hb5))
              | fail)
          rename_i hh
          have HB5 : Hid (Below w4.heap.size w4 w5) := below_bt HBK.out hB5
          obtain ⟨c0, c1⟩ := HCC.out w5 HB5.out
          have cn := HCN.out w5 HB5.out
          have hcv : (convert 22 9 (.slice qb zl.length mbb)).run Tryz.prog w5 = .ok (.string (strOf zl)) w5 := conv_at (own_at hbo rfl HBY.out) rfl
          have hcvN : ∀ i, (convert 22 9 (.slice qb zl.length mbb)).run Tryz.prog (w5.drewN i) = .ok (.string (strOf zl)) (w5.drewN i) := fun i => conv_at (own_at (own_below hbo (below_drewN (Below.refl _ _) _)) rfl HBY.out) rfl
          obtain ⟨bl, hbl⟩ : ∃ x, zl.length = x := ⟨_, rfl⟩
          have hse := str_ne (v := cv) HBY.out
          rw [hbl] at hcv hcvN ⊢
          generalize strOf zl = sz at *
          clear hbo hb5 hcell d0 d1 d2 hh hB5 hbl
          by_cases g1 : zn = 0
          · subst g1
            by_cases g2 : zl = numsOf cv
            · rw [decide_eq_true g2] at hse
              have hse2 : (sz.toList != cv.toList) = false := by simpa [bne] using hse
              by_cases g3 : nmk = ck
              · have hne : (nmk.toList == ck.toList) = true := by rw [eq_strF]; simpa using g3
                have hne2 : (nmk.toList != ck.toList) = false := by simpa [bne] using hne
                clear g2 g3 HHA
                go_wp2
                go_quiet (fail)
                go_wp2
                go_roundw
                case rel => exact ⟨k + 1, HKL.out, by go_num, below_drewN HB5.out _⟩
                case measure => have := HKL.out; simp [intOf]; omega
              · have hne : (nmk.toList == ck.toList) = false := by rw [eq_strF]; simpa using g3
                have hne2 : (nmk.toList != ck.toList) = true := by simpa [bne] using hne
                have HG : Hid (HasAll Dx Wx rx 0 M → False) := fun h => g3 (HHA.out h).2.2
                clear g2 g3 HHA
                go_wp2
                go_quiet (fail)
                go_wp2
                go_ret
                exact ⟨⟨false, rfl, fun h => (HG.out h).elim, below_drewN (below_bt HB4.out HB5.out) _⟩⟩
            · rw [decide_eq_false g2] at hse
              have hse2 : (sz.toList != cv.toList) = true := by simpa [bne] using hse
              have HG : Hid (HasAll Dx Wx rx 0 M → False) := fun h => g2 (HHA.out h).2.1
              clear g2 HHA
              go_wp2
              go_quiet (fail)
              go_wp2
              go_ret
              exact ⟨⟨false, rfl, fun h => (HG.out h).elim, below_drewN (below_bt HB4.out HB5.out) _⟩⟩
          · have hz1 : (zn != 0) = true := by simpa using g1
            have hz2 : (zn == 0) = false := by simpa using g1
            have HG : Hid (HasAll Dx Wx rx 0 M → False) := fun h => g1 (HHA.out h).1
            clear g1 HHA hse
            go_wp2
            go_quiet (fail)
            go_wp2
            go_ret
            exact ⟨⟨false, rfl, fun h => (HG.out h).elim, below_drewN (below_bt HB4.out HB5.out) _⟩⟩
        · have hkI : (NL : Int) ≤ (k : Int) := by omega
          have hdk : decide (k < NL) = false := decide_eq_false hkl
          clear hkl hk
          go_wp2
          go_ret
          exact ⟨⟨true, rfl, fun _ => rfl, below_bt HB4.out HBK.out⟩⟩
    · have HG : Hid (HasAll Dx Wx rx nx M → False) := fun h => hlen (by have := h.2.1; have := HNE.out; have := HME.out; omega)
      have h1 : (NL != ML) = true := by simpa using hlen
      have h2 : ((NL : Int) != (ML : Int)) = true := by simp; omega
      have h3 : (NL == ML) = false := by simpa using hlen
      have h4 : ((NL : Int) == (ML : Int)) = false := by simp; omega
      clear hlen
      subst h0
      go_wp2
      go_ret
      exact ⟨⟨false, by first | rfl | simp, fun h => (HG.out h).elim, HB4.out⟩⟩
  · have HG : Hid (HasAll Dx Wx rx nx M → False) := fun h => h0 h.1
    have hz1 : (nx != 0) = true := by simpa using h0
    have hz2 : (nx == 0) = false := by simpa using h0
    clear h0
    go_wp2
    go_ret
    exact ⟨⟨false, rfl, fun h => (HG.out h).elim, HB4.out⟩⟩
end Go.Proofs.YtiakfdhbbkpfhaaGreatDoor
namespace Go.Proofs.YtiakfdhbbkpfhaaGreatDoor
open Go.RowKit Go.WideShapes Rm

def aName : ByteArray := ⟨#[97]⟩
def aFile (n : Nat) : CV := ⟨aName, textS n, false⟩
theorem a_len (n : Nat) : (numsOf (aFile n).val).length = n := by
  show (numsOf (textS n)).length = n
  rw [textS_nums, textL_len]
theorem a_name : isNameN aName = true := by decide +kernel
theorem a_chg (n : Nat) : chgE [] [aFile n] = 0 := by
  have h : oneC [] [aFile n] 0 = 0 := by
    unfold oneC
    rw [show ([aFile n].getD 0 zeroCV) = aFile n from rfl, show (aFile n).key = aName from rfl, a_name]
    rfl
  unfold chgE
  rw [if_neg (by simp)]
  show fromC [] [aFile n] 1 0 = 0
  rw [fromC, h]
  rfl
theorem a_puts (n : Nat) : putsC [aFile n] = [aFile n] := rfl
theorem a_errT : errT 80 100 [] 2 = 0 := by decide +kernel
theorem a_resT : resT 80 100 [] 2 = [(80, 2)] := by decide +kernel
theorem a_place : placeN 100 [] (csOf [aFile 130]) = .ok [⟨aName, 130, [(80, 2)]⟩] := by
  show placeN 100 [] [(aName, numsOf (aFile 130).val)] = _
  have hn : needsN (((numsOf (aFile 130).val).length : Nat) : Int) = 2 := by rw [a_len]; decide
  unfold placeN
  simp only
  rw [hn, if_neg (by decide), a_errT, if_neg (by decide), a_resT, a_len]
  rfl
theorem fmt_gen {D : List Nat} {n : Nat} (h1 : 96 ≤ n) (h2 : n ≤ 4096) (h : FmtIs n D) : ∀ k, k ≤ 8 → genK D [] 8 1 k = 1
  | 0, _ => rfl
  | k + 1, hk => by
    have ih := fmt_gen h1 h2 h k (by omega)
    have hz : beg8 (nowN D [] ((8 + k : Nat) : Int)) = 0 := by
      rw [(fmt_slots h1 h2 h).2 k (by omega), zero_now (8 + k) (by omega)]
      decide +kernel
    rw [genK, ih, hz]
    decide
theorem a_may : May ltS ⟨2, [⟨aName, 130, [(80, 2)]⟩]⟩ :=
  ⟨by decide, by decide, by simp, fun i hi => absurd hi (by simp), by decide +kernel, fun f hf => by rw [List.mem_singleton.1 hf]; exact ⟨a_name, by decide, by decide, by simp, by decide⟩⟩
theorem a_short : (insideN [⟨aName, 130, [(80, 2)]⟩]).length ≤ 952 := by decide +kernel
theorem alive_turn {D : List Nat} (h : FmtIs 100 D) {m : Int} {A : Acts} (ht : TurnIs 100 D [] (some (emptyD, 0)) 0 [aFile 130] m A) : m = 0 ∧ A.length ≤ 200 := by
  cases ht with
  | none h => cases h
  | chg x at_ E h hE h0 =>
    simp only [Option.some.injEq, Prod.mk.injEq] at h
    obtain ⟨rfl, rfl⟩ := h
    exact absurd (hE.symm.trans (a_chg 130)) h0
  | many x at_ h hE hm =>
    simp only [Option.some.injEq, Prod.mk.injEq] at h
    obtain ⟨rfl, rfl⟩ := h
    simp [emptyD, a_puts] at hm
  | place x at_ E h hE hm hp =>
    simp only [Option.some.injEq, Prod.mk.injEq] at h
    obtain ⟨rfl, rfl⟩ := h
    have := a_place.symm.trans hp
    cases this
  | last x o P hx ho hE hm hp hG =>
    simp only [Option.some.injEq, Prod.mk.injEq] at hx
    obtain ⟨rfl, ho8⟩ := hx
    obtain rfl : o = 8 := by omega
    have hg := fmt_gen (n := 100) (by decide) (by decide) h 8 (Nat.le_refl _)
    rw [show emptyD.gen = 1 from rfl, hg] at hG
    omega
  | bad x o P ss G m b hx ho hE hm hp hG hG2 hpm hup hw hm0 =>
    exfalso
    simp only [Option.some.injEq, Prod.mk.injEq] at hx
    obtain ⟨rfl, ho8⟩ := hx
    obtain rfl : o = 8 := by omega
    have hg := fmt_gen (n := 100) (by decide) (by decide) h 8 (Nat.le_refl _)
    rw [show emptyD.gen = 1 from rfl, hg] at hG
    have hP : P = [⟨aName, 130, [(80, 2)]⟩] := by
      have := hp.symm.trans a_place
      exact Except.ok.inj this
    subst hP
    have hs : ss = [⟨aName, 130, [(80, 2)]⟩] := by
      have h1 : ([] ++ [⟨aName, 130, [(80, 2)]⟩] : List FileV).Perm ss := hpm
      exact (List.perm_singleton.1 h1.symm)
    subst hs hG
    have hok : Wrote ⟨2, [⟨aName, 130, [(80, 2)]⟩]⟩ 0 _ := .ok a_may a_short
    exact hm0 (hw.only hok).1
  | ok x o P ss G b F hx ho hE hm hp hG hG2 hpm hup hw hF =>
    refine ⟨rfl, ?_⟩
    have hP : P = [⟨aName, 130, [(80, 2)]⟩] := by
      simp only [Option.some.injEq, Prod.mk.injEq] at hx
      obtain ⟨rfl, _⟩ := hx
      have := hp.symm.trans a_place
      exact Except.ok.inj this
    have hl : F.length ≤ 2 := by
      rw [← hF, hP]
      refine Nat.le_trans (filesA_le _ _) ?_
      decide +kernel
    rw [List.length_append, List.length_append]
    have h2 : (secsA o b 8).length = 8 := by simp [secsA]
    split
    · simp [h2]
    · simp [h2]; omega
end Go.Proofs.YtiakfdhbbkpfhaaGreatDoor
namespace Go.Proofs.YtiakfdhbbkpfhaaGreatDoor
set_option maxRecDepth 8000
open Go.RowKit Go.WideShapes
attribute [local go_sem ↓] Go.wp_at_zero Go.wp_at_succ

def onesL (x : Nat) : List Nat := List.replicate 128 x
def zeroL (n : Nat) : List Nat := List.replicate (n * 128) 0
theorem onesL_len (x : Nat) : 128 = (onesL x).length := by simp only [onesL, List.length_replicate]
theorem onesL_mem (x : Nat) (h : x < 256) : ∀ c ∈ onesL x, c < 256 := fun c hc => by rw [(List.mem_replicate.1 hc).2]; exact h
theorem zeroL_len (n : Nat) : (zeroL n).length = n * 128 := List.length_replicate
theorem okay_new (n : Nat) (h1 : 1 ≤ n) (h2 : n ≤ 4096) : Okay n (zeroL n) [] := ⟨by omega, by omega, by rw [zeroL_len]; omega, by simp, by simp⟩
theorem sec_zero (n k : Nat) (h : k < n) : secN (zeroL n) k = onesL 0 := by
  unfold secN zeroL onesL
  rw [List.drop_replicate, List.take_replicate]
  congr 1
  omega
theorem new_at (n : Nat) (w : World) (h1 : 1 ≤ n) (h2 : n ≤ 4096) :
    Calls Tryz.prog 11 #[.int .i64 n] w fun e w' => ∃ v, e = .returned (.tuple #[v, .int .i64 0]) ∧ DiskNew w' w.heap.size v n (zeroL n) [] ∧ Below w.heap.size w w' := new_ok n w h1 h2
theorem DiskNew.form {w : World} {base : Nat} {v : Value} {count : Int} {data : List Nat} {ws : Puts} (h : DiskNew w base v count data ws) : ∃ gd L q M m, v = .agg #[.int .i64 count, .slice (some ⟨gd, 0, none⟩) L L, .slice q M m] := by
  obtain ⟨gd, q, m, gs, h1, _⟩ := h.lies
  exact ⟨gd, _, q, _, m, h1⟩
theorem SecNew.form {w : World} {base : Nat} {v : Value} {xs : List Nat} (h : SecNew w base v xs) : ∃ g, v = .slice (some ⟨g, 0, none⟩) 128 128 ∧ base ≤ g ∧ BIn w (some ⟨g, 0, none⟩) xs ∧ xs.length = 128 := by
  obtain ⟨g, h1, h2, h3, h4, h5⟩ := h
  exact ⟨g, h1, h2, bin_row h3 h5, h4⟩
theorem conv_atD {w : World} {p : Option Addr} {xs : List Nat} {n c : Nat} (h : BIn w p xs) (hn : n = xs.length) : (convert 22 9 (.slice p n c)).run Tryz.prog w = .ok (.string (strOf xs)) w := by
  subst hn; exact conv_bytes h c
theorem alive_step : stepA 2 (zeroL 2, []) (false, 1, onesL 1) = .ok (zeroL 2, [(1, onesL 1)]) := by
  have := onesL_len 1
  simp [stepA, ← this]
theorem alive_okay : Okay 2 (zeroL 2) [(1, onesL 1)] := okay_step (s := (zeroL 2, [])) (s' := (zeroL 2, [(1, onesL 1)])) (okay_new 2 (by decide) (by decide)) alive_step
theorem alive_now : nowN (zeroL 2) [(1, onesL 1)] ((1 : Nat) : Int) = onesL 1 := by simp [nowN, nowK]

/-- Two sectors that were read, read as strings. -/
theorem keepC0 {WS w' : World} {g6 g7 : Nat} {x y : Nat} (h6 : BIn WS (some ⟨g6, 0, none⟩) (onesL x)) (h7 : BIn WS (some ⟨g7, 0, none⟩) (onesL y)) (hb : Below WS.heap.size WS w') :
    (convert 22 9 (.slice (some ⟨g6, 0, none⟩) 128 128)).run Tryz.prog w' = .ok (.string (strOf (onesL x))) w' ∧ (convert 22 9 (.slice (some ⟨g7, 0, none⟩) 128 128)).run Tryz.prog w' = .ok (.string (strOf (onesL y))) w' ∧ Hid (Below WS.heap.size WS w') :=
  ⟨conv_atD (h6.below hb) (onesL_len x), conv_atD (h7.below hb) (onesL_len y), hb⟩
end Go.Proofs.YtiakfdhbbkpfhaaGreatDoor
namespace Go.Proofs.YtiakfdhbbkpfhaaGreatDoor
set_option maxRecDepth 8000
open Go.RowKit Go.WideShapes

theorem bools_one {X : World} {b : Bool} {t : TypeId} {H : Nat} (hH : H = X.heap.size) : BoolsIn (X.alloc (.cells #[.bool b] t)) (some ⟨H, 0, none⟩) [b] := by
  subst hH
  intro _
  refine ⟨X.heap.size, 0, rfl, fun i hi => ?_⟩
  obtain rfl : i = 0 := by simpa using hi
  exact cell_of_row _ _ _ _ _ _ (heap_alloc_new X _)
theorem names_a : secN (settleN (zeroL 2) [(1, onesL 1)]) 1 = onesL 1 := by
  have := sec_settle alive_okay (n := 1) (by decide) 1 (by decide)
  have e : settleN (zeroL 2) [(1, onesL 1)] = settleK (zeroL 2) [(1, onesL 1)] 1 := rfl
  rw [e, this]
  simp [nowK]
theorem names_b : secN (crashN (zeroL 2) [(1, onesL 1)] [true]) 1 = onesL 1 := by
  have e : crashN (zeroL 2) [(1, onesL 1)] [true] = settleN (zeroL 2) [(1, onesL 1)] := crash_all (fun k hk => by have : k = 0 := by simpa using hk
                                                                                                                  subst this; rfl) _ (Nat.le_refl _)
  rw [e, names_a]
theorem names_c : secN (crashN (zeroL 2) [(1, onesL 1)] []) 1 = onesL 0 := by
  rw [crashN, crash_none, sec_zero 2 1 (by decide)]
theorem diskIn_puts {w : World} {count : Int} {data : List Nat} {ws : Puts} {p q : Option Addr} {n c M m : Nat} (h : DiskIn w (.agg #[.int .i64 count, .slice p n c, .slice q M m]) count data ws) : PutsIn w q ws := by
  obtain ⟨p', c', q', m', e, _, _, _, _, hq, _⟩ := h.parts
  simp only [Value.agg.injEq, Array.mk.injEq, List.cons.injEq, Value.slice.injEq, and_true, true_and] at e
  rw [e.2.1]
  exact hq
end Go.Proofs.YtiakfdhbbkpfhaaGreatDoor
