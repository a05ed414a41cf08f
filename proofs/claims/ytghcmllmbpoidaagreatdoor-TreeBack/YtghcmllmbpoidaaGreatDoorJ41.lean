import Derived.Test.YtghcmllmbpoidaaGreatDoorJ05
import Derived.Test.YtghcmllmbpoidaaGreatDoorJ40
import Derived.Test.YtghcmllmbpoidaaGreatDoorJ02
import Derived.OpenShut
import Derived.Deep.QuietTactic
import Derived.Test.YtghcmllmbpoidaaGreatDoorRows
import Derived.Test.YtghcmllmbpoidaaGreatDoorJ08
import Derived.LaidSub
import Derived.LaidHandle
import Derived.LaidLaws
import Derived.RowKitTokens
import Derived.Lib.LaidTab
namespace Go.Proofs.YtghcmllmbpoidaaGreatDoor
open Go.RowKit Go.WideShapes
theorem wr_sizes {l : List Tr.CV} (h : Tr.chgK l l.length = 0) : ∀ x ∈ l, (x.key.size : Int) ≤ 9223372036854775807 ∧ (x.val.size : Int) ≤ 9223372036854775807 := by
  intro x hx
  obtain ⟨k, hk, rfl⟩ := List.mem_iff_getElem.1 hx
  have h1 := Tr.chgK_step l k (Tr.chgK_all h k (by omega))
  rw [Tr.chgK_all h (k + 1) hk] at h1
  have e : l.getD k Tr.zeroCV = l[k] := by rw [List.getD_eq_getElem?_getD, List.getElem?_eq_getElem hk]; rfl
  rw [e] at h1
  unfold Tr.oneW at h1
  by_cases c1 : l[k].key.size < 1 ∨ 256 < l[k].key.size
  · rw [if_pos c1] at h1; cases h1
  · rw [if_neg c1] at h1
    by_cases c2 : 4096 < l[k].val.size
    · rw [if_pos c2] at h1; cases h1
    · omega
set_option maxRecDepth 8000 in
set_option maxHeartbeats 8000000 in
theorem treeBack_walk (q : Option Addr) (c : Nat) (l : List Tr.CV) (seq : Int) (s : ByteArray) (W : World) (hL : Laid W) (hM : Mg.Laid W) (hin : Tr.CsIn W q l) (hlc : l.length ≤ c) (hcm : c ≤ maxLen) (hqn : q = none → c = 0) (hwf : ∀ x ∈ l, (x.key.size : Int) ≤ 9223372036854775807 ∧ (x.val.size : Int) ≤ 9223372036854775807) (hs : s.size ≤ maxLen) :
    Calls Tryz.prog 3 #[.slice q l.length c, .int .i64 seq, .string s] W fun e W' => e = .returned (.bool true) ∧ Below W.heap.size W W' := by
  have hll : (l.length : Int) ≤ 9223372036854775807 := by unfold maxLen at hcm; omega
  have HWF : Hid (∀ x ∈ l, (x.key.size : Int) ≤ 9223372036854775807 ∧ (x.val.size : Int) ≤ 9223372036854775807) := hwf
  have hal := alive_t W hL hM
  have HIN : Hid (Tr.CsIn W q l ∧ l.length ≤ c ∧ (q = none → c = 0)) := ⟨hin, hlc, hqn⟩
  have hsI : (s.size : Int) ≤ 9223372036854775807 := by unfold maxLen at hs; omega
  obtain ⟨n, hn⟩ : ∃ n, l.length = n := ⟨_, rfl⟩
  have HN : Hid (l.length = n) := hn
  rw [hn] at hll ⊢
  clear hwf hin hlc hcm hqn hn hs hL hM
  go_enter Tryz.func3, Tryz.ntmps3
  go_wp2_with fail
  refine hal.mono ?_
  rintro e w0 ⟨rfl, hb0⟩
  have HB0 : Hid (Below W.heap.size W w0) := hb0
  have hhv := Tr.heavy_any q n c l w0 HN.out.symm (HIN.out.1.below hb0) hll
  clear hb0 hal
  go_wp2_with fail
  refine hhv.mono ?_
  rintro e w1 ⟨r1, rfl, hr1, hb1⟩
  have HB1 : Hid (Below W.heap.size W w1) := below_bt HB0.out hb1
  clear hhv hb1
  cases r1 with
  | true =>
    clear hr1
    go_wp2
    go_ret
    exact ⟨rfl, HB1.out⟩
  | false =>
    have HN2 : Hid (n ≤ 200) := hr1 rfl
    clear hr1
    by_cases hlong : 10000 < s.size
    · have hlI : (10000 : Int) < (s.size : Int) := by omega
      clear hlong
      go_wp2
      go_ret
      exact ⟨rfl, HB1.out⟩
    have hlI : (s.size : Int) ≤ 10000 := by omega
    have HSZ : Hid (s.size ≤ 100000) := by show _ ≤ _; omega
    clear hlong
    obtain ⟨r, hr⟩ : ∃ r, Tr.writeE l seq = r := ⟨_, rfl⟩
    obtain ⟨o, ho⟩ : ∃ o, Tr.readE Tr.gP (numsOf s) = o := ⟨_, rfl⟩
    have HO : Hid (Tr.readE Tr.gP (numsOf s) = o) := ho
    have hw := Tr.Write_any q n c l seq w1 (HIN.out.1.below HB1.out) HN.out.symm (by have := HIN.out.2.1; have := HN.out; omega) hll HWF.out r hr
    have REST : ∀ w2, Below W.heap.size W w2 → Hid (Calls Tryz.prog 7 #[.string s] w2 fun e w' => Tr.RdN w2 o e w') := fun w2 _ => Tr.Read_t s w2 HSZ.out o ho
    obtain ⟨er, b⟩ := r
    have HR : Hid (Tr.writeE l seq = (er, b)) := hr
    clear hr ho
    go_wp2_with fail
    refine hw.mono ?_
    rintro e w2 ⟨rfl, hb2⟩
    have HB2 : Hid (Below W.heap.size W w2) := below_bt HB1.out hb2
    clear hw hb2
    by_cases her : er = 0
    · subst her
      obtain ⟨h1, h2, _, _, _, hbr, hb4⟩ := Tr.writeE_ok HR.out
      obtain ⟨sq, hsq⟩ : ∃ sq : Nat, seq = (sq : Int) := ⟨seq.toNat, by omega⟩
      subst hsq
      have hbb : ∀ x ∈ b, x < 256 := by have := Tr.writeE_bytes l (sq : Int); rw [HR.out] at this; exact this
      have hre : Tr.readE Tr.gP (numsOf (strOf b)) = some (l, sq) := by rw [nums_strOf hbb]; exact Tr.readE_of rfl rfl HR.out
      have hsz : (strOf b).size = b.length := by rw [← numsOf_len, nums_strOf hbb]
      have hbI : ((strOf b).size : Int) ≤ 4096 := by rw [hsz]; omega
      have hrd := Tr.Read_t (strOf b) w2 (by rw [hsz]; omega) _ hre
      obtain ⟨rb, hrb⟩ : ∃ rb, strOf b = rb := ⟨_, rfl⟩
      rw [hrb] at hrd hbI
      simp only [hrb]
      clear h1 h2 hbr hb4 hbb hre hsz hrb
      go_wp2_with fail
      refine hrd.mono ?_
      rintro e w3 ⟨cv, rfl, hoc, hb3⟩
      simp only [Option.map_some, Option.getD_some] at hoc
      obtain ⟨cq, cm, rfl, _⟩ := Tr.own_form hoc
      have HB3 : Hid (Below W.heap.size W w3) := below_bt HB2.out hb3
      have hsm := Tr.same_yes12 q cq n n c cm l w3 (HIN.out.1.below HB3.out) (Tr.COwn.cs hoc) HN.out.symm HN.out.symm (by have := HN.out; have := HN2.out; omega)
      have HSM : Hid _ := hsm
      simp only [Option.map_some, Option.getD_some, Option.isSome_some, if_true]
      rw [HN.out]
      clear hoc hb3 hrd hsm
      go_wp2_with fail
      refine Calls.mono HSM.out ?_
      rintro e w4 ⟨rfl, hb4⟩
      have HBT : Hid (Below W.heap.size W w4) := below_bt HB3.out hb4
      clear hb4 HSM
      go_wp2_with fail
      refine Calls.mono (REST _ HBT.out).out ?_
      rintro e w5 ⟨dv, rfl, hod, hb5⟩
      have HB5 : Hid (Below W.heap.size W w5) := below_bt HBT.out hb5
      clear hb5 HBT REST
      cases o with
      | none =>
        obtain ⟨dq, dm, rfl, _⟩ := Tr.own_form hod
        simp only [Option.map_none, Option.getD_none, List.length_nil, Option.isSome_none, Bool.false_eq_true, if_false]
        clear hod
        go_wp2
        go_ret
        exact ⟨rfl, HB5.out⟩
      | some mk =>
        obtain ⟨ms, sk⟩ := mk
        have hwo := Tr.readE_some HO.out
        obtain ⟨_, _, _, h64, hch, _, _⟩ := Tr.writeE_ok hwo
        simp only [Option.map_some, Option.getD_some] at hod
        obtain ⟨dq, dm, rfl, hdm, _⟩ := Tr.own_form hod
        have hdm2 : ms.length ≤ dm := hdm
        have hwr := Tr.Write_any dq ms.length dm ms (sk : Int) w5 (Tr.COwn.cs hod) rfl hdm2 (by omega) (wr_sizes hch) _ hwo
        rw [show strOf (0, numsOf s).2 = s from strOf_nums s] at hwr
        obtain ⟨ml, hml⟩ : ∃ ml, ms.length = ml := ⟨_, rfl⟩
        rw [hml] at hwr
        simp only [Option.map_some, Option.getD_some, Option.isSome_some, if_true]
        rw [hml]
        have HWR : Hid _ := hwr
        clear hwo h64 hch hdm hdm2 hod hwr hml
        go_wp2_with fail
        refine Calls.mono HWR.out ?_
        rintro e w6 ⟨rfl, hb6⟩
        have HB6 : Hid (Below W.heap.size W w6) := below_bt HB5.out hb6
        clear hb6 HWR
        go_wp2
        go_ret
        exact ⟨by simp, HB6.out⟩
    · have hne : (er == 0) = false := by simp; omega
      have HBT : Hid (Below W.heap.size W w2) := HB2.out
      clear her
      simp only
      go_wp2_with fail
      refine Calls.mono (REST _ HBT.out).out ?_
      rintro e w5 ⟨dv, rfl, hod, hb5⟩
      have HB5 : Hid (Below W.heap.size W w5) := below_bt HBT.out hb5
      clear hb5 HBT REST
      cases o with
      | none =>
        obtain ⟨dq, dm, rfl, _⟩ := Tr.own_form hod
        simp only [Option.map_none, Option.getD_none, List.length_nil, Option.isSome_none, Bool.false_eq_true, if_false]
        clear hod
        go_wp2
        go_ret
        exact ⟨rfl, HB5.out⟩
      | some mk =>
        obtain ⟨ms, sk⟩ := mk
        have hwo := Tr.readE_some HO.out
        obtain ⟨_, _, _, h64, hch, _, _⟩ := Tr.writeE_ok hwo
        simp only [Option.map_some, Option.getD_some] at hod
        obtain ⟨dq, dm, rfl, hdm, _⟩ := Tr.own_form hod
        have hdm2 : ms.length ≤ dm := hdm
        have hwr := Tr.Write_any dq ms.length dm ms (sk : Int) w5 (Tr.COwn.cs hod) rfl hdm2 (by omega) (wr_sizes hch) _ hwo
        rw [show strOf (0, numsOf s).2 = s from strOf_nums s] at hwr
        obtain ⟨ml, hml⟩ : ∃ ml, ms.length = ml := ⟨_, rfl⟩
        rw [hml] at hwr
        simp only [Option.map_some, Option.getD_some, Option.isSome_some, if_true]
        rw [hml]
        have HWR : Hid _ := hwr
        clear hwo h64 hch hdm hdm2 hod hwr hml
        go_wp2_with fail
        refine Calls.mono HWR.out ?_
        rintro e w6 ⟨rfl, hb6⟩
        have HB6 : Hid (Below W.heap.size W w6) := below_bt HB5.out hb6
        clear hb6 HWR
        go_wp2
        go_ret
        exact ⟨by simp, HB6.out⟩
end Go.Proofs.YtghcmllmbpoidaaGreatDoor
namespace Go.Proofs.YtghcmllmbpoidaaGreatDoor.Tr
open Go.RowKit Go.WideShapes Go.ChangeShapes Go.Deep Go.Joins
structure WfC (y : CV) : Prop where
  key : y.key.size ≤ maxLen
  val : y.val.size ≤ maxLen
structure Chgs (w : World) (v : Value) (l : List CV) : Prop where
  lies : ∃ q c, v = .slice q l.length c ∧ CsIn w q l ∧ l.length ≤ c ∧ c ≤ maxLen ∧ (q = none → c = 0)
  wf : ∀ y ∈ l, WfC y
section
variable {P : Program} {w : World} {H : Type} {enc : TypeId × Value → H}
theorem open_change {e : TypeId} {f0 f1 f2 : Field} {n : Nat} {cs : List Value} {x : DataW H × List MemPlace} (he : P.underlying e = some (.struct #[f0, f1, f2])) (hl : cs.length = 3)
    (o0 : f0.offset = 0) (o1 : f1.offset = 1) (o2 : f2.offset = 2) (c0 : P.cellsOf f0.type = 1) (c1 : P.cellsOf f1.type = 1) (c2 : P.cellsOf f2.type = 1) (k0 : P.underlying f0.type = some .string) (k1 : P.underlying f1.type = some .string) (k2 : P.underlying f2.type = some .bool)
    (h : DataW.trod enc P w 0 (fun _ => true) true n e cs = some x) : ∃ y : CV, cs = [.string y.key, .string y.val, .bool y.gone] ∧ WfC y := by
  obtain ⟨xs, k', hk, hxy, _, hxl, hf⟩ := DataW.trod_struct he h
  match xs, hxl, cs, hl with
  | [y0, y1, y2], _, [v0, v1, v2], _ =>
    have r0 := hf 0 f0 rfl
    have r1 := hf 1 f1 rfl
    have r2 := hf 2 f2 rfl
    simp [o0, o1, o2, c0, c1, c2] at r0 r1 r2
    obtain ⟨s, hs, _, hsz⟩ := DataW.trod_string k0 r0
    obtain ⟨s1, hs1, _, hsz1⟩ := DataW.trod_string k1 r1
    obtain ⟨g, hg, _⟩ := DataW.trod_bool k2 r2
    simp only [List.cons.injEq, and_true] at hs hs1 hg
    subst hs hs1 hg
    exact ⟨⟨s, s1, g⟩, rfl, ⟨hsz, hsz1⟩⟩
theorem open_changes {t e : TypeId} {f0 f1 f2 : Field} {n : Nat} {v : Value} {x : DataW H × List MemPlace} (ht : P.underlying t = some (.slice e)) (he : P.underlying e = some (.struct #[f0, f1, f2])) (ce : P.cellsOf e = 3)
    (o0 : f0.offset = 0) (o1 : f1.offset = 1) (o2 : f2.offset = 2) (c0 : P.cellsOf f0.type = 1) (c1 : P.cellsOf f1.type = 1) (c2 : P.cellsOf f2.type = 1) (k0 : P.underlying f0.type = some .string) (k1 : P.underlying f1.type = some .string) (k2 : P.underlying f2.type = some .bool)
    (h : DataW.trod enc P w 0 (fun _ => true) true n t [v] = some x) : ∃ l, Chgs w v l := by
  rcases open_slice ht h with ⟨hcs, _⟩ | ⟨a, len, cap, m, k, D, Pl, hcs, _, hl, hm, hmm, _, hel⟩
  · simp only [List.cons.injEq, and_true] at hcs
    exact ⟨[], ⟨none, 0, hcs, fun h => absurd h (by simp), by simp, by unfold maxLen; omega, fun _ => rfl⟩, by simp⟩
  · simp only [List.cons.injEq, and_true] at hcs
    have hmc : m = cap := by simpa using hmm
    have each : ∀ i, i < len → ∃ y : CV, w.cell? (a.add (i * 3)) = some (.string y.key) ∧ w.cell? (a.add (i * 3 + 1)) = some (.string y.val) ∧ w.cell? (a.add (i * 3 + 2)) = some (.bool y.gone) ∧ WfC y := by
      intro i hi
      obtain ⟨cs', g1, g2⟩ := hel i (by omega)
      rw [ce] at g1
      obtain ⟨_, hlen, hcell⟩ := World.cells?_some g1
      obtain ⟨y, rfl, wy⟩ := open_change he hlen o0 o1 o2 c0 c1 c2 k0 k1 k2 g2
      have e0 := hcell 0 (by omega)
      have e1 := hcell 1 (by omega)
      have e2 := hcell 2 (by omega)
      rw [add_add] at e0 e1 e2
      exact ⟨y, by simpa using e0, by simpa using e1, by simpa using e2, wy⟩
    haveI : Inhabited CV := ⟨zeroCV⟩
    obtain ⟨f, hf⟩ := choose_lt each
    have hlen : ((List.range len).map f).length = len := by simp
    have hget : ∀ i, i < len → ((List.range len).map f).getD i zeroCV = f i := by intro i hi; simp [List.getD, hi]
    refine ⟨(List.range len).map f, ⟨⟨some a, cap, by rw [hlen]; exact hcs, fun hp => ?_, by rw [hlen]; exact hl, hm, by simp⟩, ?_⟩⟩
    · rw [hlen] at hp
      obtain ⟨b, o, s⟩ := a
      obtain rfl : s = none := by
        have := World.cell?_spot (hf 0 (by omega)).1
        simpa [Addr.add] using this
      refine ⟨b, o, rfl, fun i hi => ?_⟩
      rw [hlen] at hi
      obtain ⟨e0, e1, e2, _⟩ := hf i hi
      rw [hget i hi]
      rw [add_plain] at e0 e1 e2
      exact ⟨e0, e1, e2⟩
    · intro y hy
      simp only [List.mem_map, List.mem_range] at hy
      obtain ⟨i, hi, rfl⟩ := hy
      exact (hf i hi).2.2.2
end
end Go.Proofs.YtghcmllmbpoidaaGreatDoor.Tr
namespace Go.Proofs.YtghcmllmbpoidaaGreatDoor
open Go.RowKit Go.WideShapes Rm
theorem lh.rt : (Tryz.prog.cutTypes.find? (·.1 == "internal/reflectlite.rtype")).map (·.2) = some 169 := by kernel_rfl
theorem lh.et : Tryz.prog.globalNamed "errors.errorType" = some 0 := by kernel_rfl
theorem lh.size : Tryz.prog.types.size = 483 := by kernel_rfl
theorem lh.oneRow : ((List.range 483).filter fun t => Tryz.prog.rowNamed t [101, 114, 114, 111, 114]) = [45] := by kernel_rfl
theorem lh.handle : typeHandle Tryz.prog 45 = .pointer (some ⟨14, 45, none⟩) := by kernel_rfl
theorem errT_of {W : World} (h : handlesMet Tryz.prog [("errors.errorType", Rows.laid_errors_errorType)] W) : ErrT W := by
  obtain ⟨name, u, ty, e1, e2, e3, e4, e5⟩ := h _ (List.mem_singleton.2 rfl)
  have en : name = [101, 114, 114, 111, 114] := (Option.some.inj e1).symm
  subst en
  obtain rfl := Option.some.inj (lh.rt.symm.trans e2)
  have hm : ty ∈ (List.range 483).filter fun t => Tryz.prog.rowNamed t [101, 114, 114, 111, 114] := List.mem_filter.2 ⟨List.mem_range.2 (by rw [← lh.size]; exact e3), e4⟩
  rw [lh.oneRow] at hm
  obtain rfl := List.mem_singleton.1 hm
  rw [lh.handle] at e5
  simpa [ErrT] using World.var?_cell lh.et e5 0
theorem tab_of {W : World} (h : laidMet Tryz.prog [("internal/strconv.uint64pow10", Rows.laid_internal_strconv_uint64pow10)] W) : Lib.TabIs Tryz.prog W "internal/strconv.uint64pow10" .u64 Lib.pow10Tab :=
  Lib.tabIs_of_head (rest := []) g_pow (t := 284) (e := 83) (n := 20) (by kernel_rfl) Tryz.underlying284 Tryz.underlying83 (by kernel_rfl) (by kernel_rfl) h
end Go.Proofs.YtghcmllmbpoidaaGreatDoor
