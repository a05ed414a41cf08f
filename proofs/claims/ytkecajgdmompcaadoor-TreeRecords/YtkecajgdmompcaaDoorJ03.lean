/-
  Records are read: read, Read.
-/
import Derived.Test.YtkecajgdmompcaaDoorJ02
import Derived.Shelf.Strconv.Itoa3
import Derived.Ground.NamesProg
import Derived.Test.YtkecajgdmompcaaDoorProg
import Derived.Deep.CutRange
import Derived.Deep.RegionWith
import Derived.BigQuiet
namespace Go.Proofs.YtkecajgdmompcaaDoor
open Go.RowKit Go.WideShapes

theorem zeros_own (w : World) (n : Nat) (h1 : 1 ≤ n) (h2 : n ≤ 10000) : ∃ c v' w', (Builtin.append_ #[43, 3] 43 #[.slice none 0 0, .int .i64 (n : Int)]).run Tryd.prog w = .ok v' w' ∧ v' = .slice (some ⟨w.heap.size, 0, none⟩) n c ∧ n ≤ c ∧ c ≤ maxLen ∧ OnB w (.slice (some ⟨w.heap.size, 0, none⟩) 0 c) [] w' := by
  obtain ⟨i0, hi, hz0, hz1, hz2⟩ := info_parts' info5
  have hr := Lib.run_append_nil_zeros (P := Tryd.prog) w 43 3 43 5 i0 _ .i64 .i64 Tryd.underlying43 Tryd.underlying3 hi hz0 n (by omega) (by omega) (by omega) (by rw [hz2]; omega)
  have hge := grownCap_ge w n 0 5
  have hle := grownCap_le_maxLen w n 0 5 (by unfold maxLen; omega)
  refine ⟨grownCap w n 0 5, _, _, hr, rfl, hge, hle, ?_, ((Below.refl _ _).drew).alloc (by simp) _⟩
  refine ⟨rfl, .inr ⟨w.heap.size, grownCap w n 0 5, _, rfl, Nat.le_refl _, heap_alloc_new w.drew _, Nat.zero_le _, hle, ?_, by simp [Bs]⟩⟩
  rw [Array.size_append, size_zeroCells, size_zeroCells]
  simp only [Value.cells]
  show n * 1 + (grownCap w n 0 5 - n) * 1 = _
  omega
set_option maxHeartbeats 1000000 in
set_option maxRecDepth 8000 in
theorem grow_any (n : Nat) (w : World) (h1 : 1 ≤ n) (h2 : n ≤ 10000) :
    Calls Tryd.prog 25 #[.slice none 0 0, .int .i64 (n : Int)] w fun e w' => ∃ c, e = .returned (.slice (some ⟨w.heap.size, 0, none⟩) 0 c) ∧ OnB w (.slice (some ⟨w.heap.size, 0, none⟩) 0 c) [] w' := by
  obtain ⟨c, v', w', hr, hv, hn, hc, hon⟩ := zeros_own w n h1 h2
  have HON : Hid (OnB w (.slice (some ⟨w.heap.size, 0, none⟩) 0 c) [] w') := hon
  have hnI : (1 : Int) ≤ (n : Int) := by omega
  have hnI2 : (n : Int) ≤ 10000 := by omega
  have hcI : (n : Int) ≤ (c : Int) := by omega
  subst hv
  clear hon h1 h2 hn hc
  go_enter Tryd.func25, Tryd.ntmps25
  go_wp2_with (at_builtin; refine Lib.wpList_append_run _ rfl _ _ _ _ rfl _ _ rfl rfl _ _ hr ?_)
  go_ret
  exact ⟨c, rfl, HON.out⟩
set_option maxHeartbeats 2000000 in
theorem concat_any (g : Nat) (q1 q2 : Option Addr) (n1 n2 c1 c2 : Nat) (l1 l2 : List Nat) (w : World) (hg : w.heap[g]? = some (.cells #[.slice q1 n1 c1, .slice q2 n2 c2] 43 (0, 0))) (h1 : BIn w q1 l1) (h2 : BIn w q2 l2) (e1 : n1 = l1.length) (e2 : n2 = l2.length) (z1 : q1 = none → c1 = 0) (z2 : q2 = none → c2 = 0) (hs : 1 ≤ n1 + n2) (hm : n1 + n2 ≤ 5000) :
    Calls Tryd.prog 18 #[.slice (some ⟨g, 0, none⟩) 2 2] w fun e w' => ∃ v, e = .returned v ∧ OnB w v (l1 ++ l2) w' := by
  have g0 : w.cell? ⟨g, 0, none⟩ = some (.slice q1 n1 c1) := Lib.cell_of_heap hg 0
  have g1 : w.cell? ⟨g, 1, none⟩ = some (.slice q2 n2 c2) := Lib.cell_of_heap hg 1
  have HG : Hid (w.heap[g]? = some (.cells #[.slice q1 n1 c1, .slice q2 n2 c2] 43 (0, 0))) := hg
  obtain ⟨N, hN⟩ : ∃ N : Nat, n1 + n2 = N := ⟨_, rfl⟩
  have HGR := grow_any N w (by omega) (by omega)
  have HL : Hid (n1 = l1.length ∧ n2 = l2.length ∧ n1 + n2 ≤ 5000) := ⟨e1, e2, hm⟩
  have H1 : Hid (BIn w q1 l1) := h1
  have H2 : Hid (BIn w q2 l2) := h2
  have HZ : Hid ((q1 = none → c1 = 0) ∧ (q2 = none → c2 = 0)) := ⟨z1, z2⟩
  have b1 : (n1 : Int) ≤ 5000 := by omega
  have b2 : (n1 : Int) + (n2 : Int) ≤ 5000 := by omega
  have hNI : (n1 : Int) + (n2 : Int) = (N : Int) := by omega
  rw [← hNI] at HGR
  clear hg h1 h2 z1 z2 hs hm hN hNI e1 e2
  go_enter Tryd.func18, Tryd.ntmps18
  go_wp2
  refine wp_loop_rounds 3 ?_
  iterate 2 (rw [rounds_succ]; go_wp2)
  rw [rounds_succ]
  go_wp2_with fail
  refine HGR.mono ?_
  rintro e w2 ⟨c, rfl, hon⟩
  have HON : Hid (OnB w (.slice (some ⟨w.heap.size, 0, none⟩) 0 c) [] w2) := hon
  have HC : Hid (∀ u, Below w.heap.size w u → u.cell? ⟨g, 0, none⟩ = some (.slice q1 n1 c1) ∧ u.cell? ⟨g, 1, none⟩ = some (.slice q2 n2 c2)) := fun u hb => ⟨Lib.cell_of_heap ((hb.block _ (lt_heap HG.out)).trans HG.out) 0, Lib.cell_of_heap ((hb.block _ (lt_heap HG.out)).trans HG.out) 1⟩
  clear g0 g1 hon HGR
  obtain ⟨g0, g1⟩ := HC.out w2 HON.out.bel
  go_wp2
  refine wp_loop_rounds 3 ?_
  rw [rounds_succ]
  go_wp2_with (at_builtin; go_loud (refine wpList_append_bytes _ rfl _ _ rfl w.heap.size (.slice (some ⟨w.heap.size, 0, none⟩) 0 c) [] l1 q1 n1 c1 rfl rfl HL.out.1 HON.out.own (H1.out.below HON.out.bel) HZ.out.1 (by have := HL.out; simp only [List.length_nil]; omega) HON.out.bel.size ?_); intro va ua hoa hga; have HO1 : Hid (OnB w va ([] ++ l1) ua) := HON.out.app hoa hga; obtain ⟨g0, g1⟩ := HC.out ua HO1.out.bel; clear hoa hga)
  rw [rounds_succ]
  go_wp2_with (at_builtin; go_loud (refine wpList_append_bytes _ rfl _ _ rfl w.heap.size va ([] ++ l1) l2 q2 n2 c2 rfl rfl HL.out.2.1 HO1.out.own (H2.out.below HO1.out.bel) HZ.out.2 (by have := HL.out; simp only [List.length_append, List.length_nil]; omega) HO1.out.bel.size ?_); intro vb ub hob hgb; have HO2 : Hid (OnB w vb ([] ++ l1 ++ l2) ub) := HO1.out.app hob hgb; clear hob hgb)
  rw [rounds_succ]
  go_wp2
  go_ret
  exact ⟨vb, rfl, by have h := HO2.out; rw [List.nil_append] at h; exact h⟩
end Go.Proofs.YtkecajgdmompcaaDoor
namespace Go.Proofs.YtkecajgdmompcaaDoor
open Go.Shelf
def laysItoa_ren : Go.Shelf.Ren := ⟨fun | 171 => 21 | 243 => 30 | 246 => 37 | 283 => 40 | 284 => 41 | 285 => 42 | 286 => 43 | 129 => 45 | 317 => 44 | 318 => 46 | 319 => 47 | 320 => 48 | 337 => 49 | 338 => 50 | n => n, fun | 3 => 3 | 9 => 9 | 2 => 2 | 4 => 4 | 171 => 95 | 0 => 0 | 53 => 45 | 37 => 43 | 5 => 5 | 173 => 98 | 212 => 102 | 51 => 103 | 20 => 20 | 213 => 104 | 46 => 77 | 232 => 108 | 233 => 109 | n => n, fun | 17 => 0 | 18 => 1 | 19 => 2 | n => n⟩
theorem laysItoa : Go.Proofs.LaysM.n171 Tryd.prog laysItoa_ren := {
  mixed := by kernel_rfl
  f129 := Tryd.func45.trans (congrArg some (by kernel_rfl))
  f171 := Tryd.func21.trans (congrArg some (by kernel_rfl))
  f243 := Tryd.func30.trans (congrArg some (by kernel_rfl))
  f246 := Tryd.func37.trans (congrArg some (by kernel_rfl))
  f283 := Tryd.func40.trans (congrArg some (by kernel_rfl))
  f284 := Tryd.func41.trans (congrArg some (by kernel_rfl))
  f285 := Tryd.func42.trans (congrArg some (by kernel_rfl))
  f286 := Tryd.func43.trans (congrArg some (by kernel_rfl))
  f317 := Tryd.func44.trans (congrArg some (by kernel_rfl))
  f318 := Tryd.func46.trans (congrArg some (by kernel_rfl))
  f319 := Tryd.func47.trans (congrArg some (by kernel_rfl))
  f320 := Tryd.func48.trans (congrArg some (by kernel_rfl))
  f337 := Tryd.func49.trans (congrArg some (by kernel_rfl))
  f338 := Tryd.func50.trans (congrArg some (by kernel_rfl))
  t0 := Tryd.underlying0
  a0 := Tryd.isAgg0
  z0 := Tryd.sizeOf0
  v0 := Tryd.zeroValue0
  t2 := Tryd.underlying2
  a2 := Tryd.isAgg2
  z2 := Tryd.sizeOf2
  v2 := Tryd.zeroValue2
  t3 := Tryd.underlying3
  a3 := Tryd.isAgg3
  z3 := Tryd.sizeOf3
  v3 := Tryd.zeroValue3
  t4 := Tryd.underlying4
  a4 := Tryd.isAgg4
  z4 := Tryd.sizeOf4
  v4 := Tryd.zeroValue4
  t5 := Tryd.underlying5
  a5 := Tryd.isAgg5
  z5 := Tryd.sizeOf5
  v5 := Tryd.zeroValue5
  t9 := Tryd.underlying9
  a9 := Tryd.isAgg9
  z9 := Tryd.sizeOf9
  v9 := Tryd.zeroValue9
  t20 := Tryd.underlying20
  a20 := Tryd.isAgg20
  z20 := Tryd.sizeOf20
  v20 := Tryd.zeroValue20
  t37 := Tryd.underlying43
  a37 := Tryd.isAgg43
  z37 := Tryd.sizeOf43
  v37 := Tryd.zeroValue43
  t46 := Tryd.underlying77
  a46 := Tryd.isAgg77
  z46 := Tryd.sizeOf77
  v46 := Tryd.zeroValue77
  t51 := Tryd.underlying103
  a51 := Tryd.isAgg103
  z51 := Tryd.sizeOf103
  v51 := Tryd.zeroValue103
  t53 := Tryd.underlying45
  a53 := Tryd.isAgg45
  z53 := Tryd.sizeOf45
  v53 := Tryd.zeroValue45
  t171 := Tryd.underlying95
  a171 := Tryd.isAgg95
  z171 := Tryd.sizeOf95
  v171 := Tryd.zeroValue95
  t173 := Tryd.underlying98
  a173 := Tryd.isAgg98
  z173 := Tryd.sizeOf98
  v173 := Tryd.zeroValue98
  t212 := Tryd.underlying102
  a212 := Tryd.isAgg102
  z212 := Tryd.sizeOf102
  v212 := Tryd.zeroValue102
  t213 := Tryd.underlying104
  a213 := Tryd.isAgg104
  z213 := Tryd.sizeOf104
  t232 := Tryd.underlying108
  a232 := Tryd.isAgg108
  z232 := Tryd.sizeOf108
  v232 := Tryd.zeroValue108
  t233 := Tryd.underlying109
  a233 := Tryd.isAgg109
  z233 := Tryd.sizeOf109
  v233 := Tryd.zeroValue109
  g17 := by kernel_rfl
  g18 := by kernel_rfl
  g19 := by kernel_rfl
  i0 := by kernel_rfl
  i2 := by kernel_rfl
  i3 := by kernel_rfl
  i4 := by kernel_rfl
  i5 := by kernel_rfl
  i9 := by kernel_rfl
  i20 := by kernel_rfl
  i37 := by kernel_rfl
  i46 := by kernel_rfl
  i51 := by kernel_rfl
  i53 := by kernel_rfl
  i171 := by kernel_rfl
  i173 := by kernel_rfl
  i212 := by kernel_rfl
  i232 := by kernel_rfl
  i233 := by kernel_rfl
  m17 := by kernel_rfl
  m18 := by kernel_rfl
  m19 := by kernel_rfl }
end Go.Proofs.YtkecajgdmompcaaDoor
namespace Go.Proofs.YtkecajgdmompcaaDoor
open Go.RowKit Go.WideShapes Go.Shelf

theorem digits_small : ∀ i, i < 100 → (Lib.decDigits i).length ≤ 2 := by decide +kernel
theorem itoa_small (n : Nat) (hn : n < 100) (w : World) :
    Calls Tryd.prog 21 #[.int .i64 n] w fun e w' => ∃ s : ByteArray, e = .returned (.string s) ∧ s.size ≤ 2 ∧ w' = w := by
  refine (Any.strconv_Itoa_small { laysItoa with } n hn w).mono ?_
  rintro e w' ⟨rfl, rfl⟩
  exact ⟨_, rfl, by have := digits_small n hn; show (Lib.decDigits n).toArray.size ≤ 2; simpa using this, rfl⟩
theorem strOf_nil : strOf [] = ⟨#[]⟩ := rfl
theorem below_drC {w w' : World} (h : Below w.drew.heap.size w.drew w') : Below w.heap.size w w' := (Below.refl _ _).drew.trans (by simpa using h)
/-- What write answers. -/
structure WrP (w : World) (r : Int × List Nat) (e : Ending) (w' : World) : Prop where
  ex : ∃ ev, e = .returned (.tuple #[.string (strOf r.2), ev]) ∧ ErrV ev r.1 ∧ Below w.heap.size w w'
theorem namedC_take (l : List CV) (k : Nat) : (l.take k).length = min k l.length := by simp
set_option maxRecDepth 8000 in
set_option maxHeartbeats 4000000 in
theorem write_any (q : Option Addr) (n c : Nat) (l : List CV) (seq : Int) (w : World) (hq : CsIn w q l) (hn0 : n = l.length) (hnc : n ≤ c) (hnb : (n : Int) ≤ 9223372036854775807) (hs : ∀ x ∈ l, (x.key.size : Int) ≤ 9223372036854775807 ∧ (x.val.size : Int) ≤ 9223372036854775807) (r : Int × List Nat) (hr : writeE l seq = r) :
    Calls Tryd.prog 10 #[.slice q n c, .int .i64 seq] w fun e w' => WrP w r e w' := by
  have HR : Hid (writeE l seq = r) := hr
  by_cases h1 : seq < 1
  · have HE : Hid (r = (2, [])) := by show r = _; rw [← hr]; unfold writeE; rw [if_pos (.inl h1)]
    clear hq hn0 hr
    go_enter Tryd.func10, Tryd.ntmps10
    go_wp2
    go_ret2
    exact ⟨⟨_, by rw [HE.out]; rfl, by rw [HE.out]; exact .inr ⟨by decide, Faults.one _ _⟩, Below.refl _ _⟩⟩
  by_cases h2 : 2147483647 < seq
  · have h1I : 1 ≤ seq := by omega
    have HE : Hid (r = (2, [])) := by show r = _; rw [← hr]; unfold writeE; rw [if_pos (.inr h2)]
    clear hq hn0 hr h1
    go_enter Tryd.func10, Tryd.ntmps10
    go_wp2
    go_ret2
    exact ⟨⟨_, by rw [HE.out]; rfl, by rw [HE.out]; exact .inr ⟨by decide, Faults.one _ _⟩, Below.refl _ _⟩⟩
  have h1I : 1 ≤ seq := by omega
  have h2I : seq ≤ 2147483647 := by omega
  by_cases h3 : 64 < n
  · have h3I : (64 : Int) < (n : Int) := by omega
    have HE : Hid (r = (4, [])) := by show r = _; rw [← hr]; unfold writeE; rw [if_neg (by omega), if_pos (by omega)]
    clear hq hn0 hr h1 h2 h3
    go_enter Tryd.func10, Tryd.ntmps10
    go_wp2
    go_ret2
    exact ⟨⟨_, by rw [HE.out]; rfl, by rw [HE.out]; exact .inr ⟨by decide, Faults.one _ _⟩, Below.refl _ _⟩⟩
  by_cases h4 : n = 0
  · have HE : Hid (r = (6, [])) := by show r = _; rw [← hr]; unfold writeE; rw [if_neg (by omega), if_neg (by omega), if_pos (by omega)]
    subst h4
    clear hq hn0 hr h1 h2 h3
    go_enter Tryd.func10, Tryd.ntmps10
    go_wp2
    go_ret2
    exact ⟨⟨_, by rw [HE.out]; rfl, by rw [HE.out]; exact .inr ⟨by decide, Faults.one _ _⟩, Below.refl _ _⟩⟩
  have h3I : (n : Int) ≤ 64 := by omega
  have h4I : (1 : Int) ≤ (n : Int) := by omega
  have h4b : ((n : Int) == 0) = false := by simp; omega
  have HN : Hid (n = l.length ∧ 1 ≤ n ∧ n ≤ 64 ∧ n ≤ c) := ⟨hn0, by omega, by omega, hnc⟩
  have hncI : (n : Int) ≤ (c : Int) := by omega
  have HQ : Hid (CsIn w q l) := hq
  have HKS : Hid (∀ k, k < l.length → ((l.getD k zeroCV).key.size : Int) ≤ 9223372036854775807 ∧ ((l.getD k zeroCV).val.size : Int) ≤ 9223372036854775807) := by
    intro k hk
    refine hs _ ?_
    rw [List.getD_eq_getElem?_getD, List.getElem?_eq_getElem hk]
    exact List.getElem_mem _
  obtain ⟨S, hS⟩ : ∃ S : Nat, seq = (S : Int) := ⟨seq.toNat, by omega⟩
  subst hS
  have HRK : Hid (∀ k, k ≤ n → chgK l k ≠ 0 → r = (chgK l k, [])) := by
    intro k hk hc
    have e := chgK_stays l k hc l.length (by omega)
    rw [← HR.out]
    unfold writeE
    rw [if_neg (by omega), if_neg (by omega), if_neg (by omega), if_pos (by rw [e]; exact hc), e]
  have HRE : Hid (chgK l l.length = 0 → r = if 4096 < (smallN S ++ smallN n ++ recBs l).length then (3, []) else (0, smallN S ++ smallN n ++ recBs l)) := by
    intro hc
    rw [← HR.out]
    unfold writeE
    rw [if_neg (by omega), if_neg (by omega), if_neg (by omega), if_neg (by omega)]
    unfold recN
    rw [← HN.out.1, List.append_assoc, Int.toNat_natCast]
  have HS1 := small_t S w h2I
  have HS2 : Hid (∀ w', Calls Tryd.prog 19 #[.int .i64 (n : Int)] w' fun e w'' => ∃ v, e = .returned v ∧ w''.ownsRow w'.heap.size 5 1 v (smallN n).length (Bs (smallN n)) ∧ Below w'.heap.size w' w'') := fun w' => small_t n w' (by omega)
  have HSL : Hid ((smallN S).length ≤ 10 ∧ (smallN n).length ≤ 10 ∧ 1 ≤ (smallN S).length) := ⟨smallN_ten S (by omega), smallN_ten n (by omega), smallN_pos S⟩
  clear hr hq hn0 hnc hnb hs h1 h2 h3 h4
  go_enter Tryd.func10, Tryd.ntmps10
  go_wp2_with fail
  refine HS1.mono ?_
  rintro e w1 ⟨v1, rfl, ho1, hb1⟩
  obtain ⟨q1, m1, rfl, _, _, z1⟩ := own_form ho1
  obtain ⟨l1, hl1⟩ : ∃ m, (smallN S).length = m := ⟨_, rfl⟩
  have HO1 : Hid (BIn w1 q1 (smallN S) ∧ (q1 = none → m1 = 0) ∧ l1 = (smallN S).length ∧ Below w.heap.size w w1) := ⟨own_in ho1 (smallN_bytes _), z1, hl1.symm, hb1⟩
  rw [hl1]
  clear ho1 hb1 z1 hl1 HS1
  go_wp2_with fail
  refine (HS2.out _).mono ?_
  rintro e w2 ⟨v2, rfl, ho2, hb2⟩
  obtain ⟨q2, m2, rfl, _, _, z2⟩ := own_form ho2
  obtain ⟨l2, hl2⟩ : ∃ m, (smallN n).length = m := ⟨_, rfl⟩
  have HO2 : Hid (BIn w2 q1 (smallN S) ∧ BIn w2 q2 (smallN n) ∧ (q2 = none → m2 = 0) ∧ l2 = (smallN n).length ∧ Below w.heap.size w w2) := ⟨HO1.out.1.below hb2, own_in ho2 (smallN_bytes _), z2, hl2.symm, below_bt HO1.out.2.2.2 hb2⟩
  rw [hl2]
  clear ho2 hb2 z2 hl2 HS2
  have HCC := concat_any w2.heap.size q1 q2 l1 l2 m1 m2 (smallN S) (smallN n) (w2.alloc (.cells #[.slice q1 l1 m1, .slice q2 l2 m2] 43)) (heap_alloc_new _ _) (HO2.out.1.below (below_alloc _ _)) (HO2.out.2.1.below (below_alloc _ _)) HO1.out.2.2.1 HO2.out.2.2.2.1 HO1.out.2.1 HO2.out.2.2.1 (by have := HSL.out; have := HO1.out.2.2.1; omega) (by have := HSL.out; have := HO1.out.2.2.1; have := HO2.out.2.2.2.1; omega)
  go_wp2_with fail
  refine HCC.mono ?_
  rintro e w3 ⟨bv, rfl, hbv⟩
  obtain ⟨P, hP⟩ : ∃ P, smallN S ++ smallN n = P := ⟨_, rfl⟩
  have HPL : Hid (P.length ≤ 20 ∧ ∀ c ∈ P, c < 256) := ⟨by rw [← hP, List.length_append]; have := HSL.out; omega, by rw [← hP]; intro c hc; rcases List.mem_append.1 hc with h | h <;> exact smallN_bytes _ c h⟩
  have HBV : Hid (OnB w bv (P ++ recBs (l.take 0)) w3) := by
    have hbw := below_bt HO2.out.2.2.2.2 (below_alloc w2 (.cells #[.slice q1 l1 m1, .slice q2 l2 m2] 43))
    have e : P ++ recBs (l.take 0) = smallN S ++ smallN n := by rw [← hP]; simp [recBs]
    rw [e]
    exact ⟨own_mono hbv.own hbw.size, below_bt hbw hbv.bel⟩
  rw [hP] at HRE
  obtain ⟨bq, bm, rfl, _⟩ := own_form hbv.own
  obtain ⟨BL, hBL⟩ : ∃ m, (smallN S ++ smallN n).length = m := ⟨_, rfl⟩
  rw [hBL] at HBV ⊢
  clear HCC hbv hP HO1 HO2 HSL hBL
  go_wp2
  go_loopw [6, 40] (fun v i wr => ∃ k : Nat, k ≤ n ∧ i = .int .i64 (k : Int) ∧ chgK l k = 0 ∧ OnB w v (P ++ recBs (l.take k)) wr) (fun _ i _ => n - (intOf i).toNat)
  case atStart => exact ⟨0, by omega, rfl, rfl, HBV.out⟩
  case round =>
    obtain ⟨k, hk, rfl, hck, hon⟩ := hrel
    have HCK : Hid (chgK l k = 0) := hck
    obtain ⟨X, hX⟩ : ∃ X, P ++ recBs (l.take k) = X := ⟨_, rfl⟩
    have HX : Hid (P ++ recBs (l.take k) = X) := hX
    rw [hX] at hon
    obtain ⟨vq, vm, rfl, _⟩ := own_form hon.own
    obtain ⟨XL, hXL⟩ : ∃ m, X.length = m := ⟨_, rfl⟩
    have HXLN : Hid (X.length = XL) := hXL
    rw [hXL] at hon
    have HON : Hid (OnB w (.slice vq XL vm) X wr) := hon
    rw [hXL]
    clear HBV hX hck hXL
    by_cases hkn : k < n
    · have hkI : (k : Int) < (n : Int) := by omega
      have k0 : (0 : Int) ≤ (k : Int) := by omega
      have hkc : (k : Int) ≤ (c : Int) := by omega
      have HKN : Hid (k < n) := hkn
      have hkl : k < l.length := by have := HN.out.1; omega
      have hen := HQ.out.below hon.bel
      obtain ⟨fb, fo, rfl⟩ := hen.addr (by omega)
      obtain ⟨z0, z1, z2⟩ := hen.at hkl
      have HSZ : Hid _ := HKS.out k hkl
      have HNX : Hid (oneW (l.take k) (l.getD k zeroCV) = 0 → chgK l (k + 1) = 0 ∧ recBs (l.take (k + 1)) = recBs (l.take k) ++ recB (l.getD k zeroCV) ∧ (l.getD k zeroCV).key.size ≤ 256 ∧ (l.getD k zeroCV).val.size ≤ 4096) := fun h => ⟨(chgK_step l k HCK.out).trans h, recBs_take l hkl, (oneW_zero h).2.1, (oneW_zero h).2.2.1⟩
      have HXL : Hid (X.length ≤ 1000000) := by
        show _ ≤ _
        rw [← HX.out, List.length_append]
        have h1 := recBs_len (l := l) k (by omega) HCK.out
        have h2 := HPL.out.1
        have h3 := HN.out
        omega
      obtain ⟨E, hE⟩ : ∃ E, oneW (l.take k) (l.getD k zeroCV) = E := ⟨_, rfl⟩
      have HER : Hid (E ≠ 0 → r = (E, [])) := fun h => by
        have := HRK.out (k + 1) (by omega) (by rw [chgK_step l k HCK.out, hE]; exact h)
        rw [chgK_step l k HCK.out, hE] at this
        exact this
      rw [hE] at HNX
      obtain ⟨x, hc⟩ : ∃ x, l.getD k zeroCV = x := ⟨_, rfl⟩
      rw [hc] at z0 z1 z2 HSZ HNX hE
      obtain ⟨wA, hwA⟩ : ∃ wA, wr.alloc (.cells #[.string x.key, .string x.val, .bool x.gone] 36) = wA := ⟨_, rfl⟩
      have HBK : Hid (wA.heap[wr.heap.size]? = some (.cells #[.string x.key, .string x.val, .bool x.gone] 36 (0, 0))) := by show _ = _; rw [← hwA]; exact heap_alloc_new _ _
      have HA : Hid (OnB w (.slice vq XL vm) X wA) := by show OnB _ _ _ _; rw [← hwA]; exact hon.next (below_alloc _ _)
      have HCH : Hid (∀ w', Below wA.heap.size wA w' → Calls Tryd.prog 20 #[.slice (some ⟨fb, fo, none⟩) k c, .agg #[.string x.key, .string x.val, .bool x.gone]] w' fun e w'' => ∃ ev, e = .returned ev ∧ ErrV ev E ∧ Below w'.heap.size w' w'') := fun w' hb' => checkChange_any (some ⟨fb, fo, none⟩) k c (l.take k) x w' ((HQ.out.take k).below (below_bt HA.out.bel hb')) (by rw [List.length_take]; omega) (by omega) HSZ.out.1 HSZ.out.2 E hE
      have HAC : Hid (∀ w', OnB w (.slice vq XL vm) X w' → E = 0 → Calls Tryd.prog 22 #[.slice vq XL vm, .agg #[.string x.key, .string x.val, .bool x.gone]] w' fun e w'' => ∃ v', e = .returned v' ∧ OnB w v' (X ++ recB x) w'') := fun w' h he => appendChange_any w (.slice vq XL vm) X x w' h (HNX.out he).2.2.1 (HNX.out he).2.2.2 HXL.out _ rfl
      obtain ⟨key, val, gone⟩ := x
      simp only at z0 z1 z2 hwA HBK HCH HAC
      obtain ⟨y0, y1, y2⟩ := three_cells HBK.out
      clear hen hkn hk hkl hc hE hon HKS
      go_upto_region 11 with fail
      (try rw [hwA])
      clear hwA z0 z1 z2
      go_region_with (go_at_call 20; refine (HCH.out _ (by first | exact (Below.refl _ _).drew | exact Below.refl _ _)).mono ?_; rintro e w6 ⟨ev, rfl, hev, hb6⟩)
      all_goals
        have HB6 : Hid (Below wA.heap.size wA w6) := by first | exact hb6 | exact below_drC hb6
        have HO6 : Hid (OnB w (.slice vq XL vm) X w6) := HA.out.next HB6.out
        obtain ⟨x0, x1, x2⟩ := three_cells ((HB6.out.block _ (lt_heap HBK.out)).trans HBK.out)
        clear hb6 HCH y0 y1 y2
        rcases hev with ⟨he, rfl⟩ | ⟨he, hfa⟩
        · have hac := HAC.out w6 HO6.out he
          have HE0 : Hid (E = 0) := he
          clear he HAC
          go_wp2_with fail
          refine hac.mono ?_
          rintro e w7 ⟨v7, rfl, hon7⟩
          have H7 : Hid (OnB w v7 (P ++ recBs (l.take (k + 1))) w7) := by
            show OnB _ _ _ _
            rw [(HNX.out HE0.out).2.1, ← List.append_assoc, HX.out]
            exact hon7
          obtain ⟨aq, am, rfl, _⟩ := own_form hon7.own
          obtain ⟨AL, hAL⟩ : ∃ m, (X ++ recB ⟨key, val, gone⟩).length = m := ⟨_, rfl⟩
          rw [hAL] at H7 ⊢
          clear hon7 hac hAL
          go_wp2
          go_roundw
          case rel => exact ⟨k + 1, HKN.out, by go_num, (HNX.out HE0.out).1, H7.out⟩
          case measure => have := HKN.out; simp [intOf]; omega
        · have HFA : Hid (Faults ev E ∧ E ≠ 0) := ⟨hfa, he⟩
          obtain ⟨T, vv, rfl⟩ := hfa.iface
          have hit := itoa_small k (by have := HN.out; have := HKN.out; omega) w6
          clear he HAC hfa
          go_wp2_with fail
          refine hit.mono ?_
          rintro e w7 ⟨t, rfl, ht, rfl⟩
          have hcat : (Op.stringOp .add (⟨#[99, 104, 97, 110, 103, 101, 32]⟩ : ByteArray) t).run Tryd.prog w7 = .ok (.string ((⟨#[99, 104, 97, 110, 103, 101, 32]⟩ : ByteArray) ++ t)) w7 := run_string_add_sum w7 _ _ (by show 7 + t.size ≤ _; omega)
          clear hit ht
          go_wp2
          go_ret2
          exact ⟨⟨_, by rw [HER.out HFA.out.2]; rfl, by rw [HER.out HFA.out.2]; exact .inr ⟨HFA.out.2, .more _ HFA.out.1⟩, HO6.out.bel⟩⟩
    · have hkI : (n : Int) ≤ (k : Int) := by omega
      obtain rfl : k = n := by omega
      have HC0 : Hid (chgK l l.length = 0) := by show _ = _; rw [← HN.out.1]; exact HCK.out
      have HXX : Hid (P ++ recBs l = X) := by
        show _ = _
        rw [← HX.out, HN.out.1, List.take_length]
      have HRR : Hid (r = if 4096 < X.length then (3, []) else (0, X)) := by
        show _ = _
        rw [← HXX.out]
        exact HRE.out HC0.out
      have HXB : Hid (∀ c ∈ X, c < 256) := by
        intro c hc
        rw [← HXX.out] at hc
        rcases List.mem_append.1 hc with h | h
        · exact HPL.out.2 c h
        · exact recBs_bytes l c h
      have hcv : (convert 43 9 (.slice vq XL vm)).run Tryd.prog wr = .ok (.string (strOf X)) wr := conv_at (own_in hon.own HXB.out) HXLN.out.symm
      rw [HXLN.out] at HRR
      clear hkn hk hon
      by_cases hlong : 4096 < XL
      · have hlI : (4096 : Int) < (XL : Int) := by omega
        have HE : Hid (r = (3, [])) := HRR.out.trans (if_pos hlong)
        clear hlong hcv
        go_wp2
        go_ret2
        exact ⟨⟨_, by rw [HE.out]; rfl, by rw [HE.out]; exact .inr ⟨by decide, Faults.one _ _⟩, HON.out.bel⟩⟩
      · have hlI : (XL : Int) ≤ 4096 := by omega
        have HE : Hid (r = (0, X)) := HRR.out.trans (if_neg hlong)
        clear hlong
        go_wp2
        go_ret2
        exact ⟨⟨_, by rw [HE.out]; rfl, by rw [HE.out]; exact .inl ⟨rfl, rfl⟩, HON.out.bel⟩⟩
set_option maxRecDepth 8000 in
theorem Write_any (q : Option Addr) (n c : Nat) (l : List CV) (seq : Int) (w : World) (hq : CsIn w q l) (hn0 : n = l.length) (hnc : n ≤ c) (hnb : (n : Int) ≤ 9223372036854775807) (hs : ∀ x ∈ l, (x.key.size : Int) ≤ 9223372036854775807 ∧ (x.val.size : Int) ≤ 9223372036854775807) (r : Int × List Nat) (hr : writeE l seq = r) :
    Calls Tryd.prog 5 #[.slice q n c, .int .i64 seq] w fun e w' => e = .returned (.tuple #[.string (strOf r.2), .int .i64 r.1]) ∧ Below w.heap.size w w' := by
  have hw := write_any q n c l seq w hq hn0 hnc hnb hs r hr
  have HRG : Hid (0 ≤ r.1 ∧ r.1 ≤ 120) := by show _ ∧ _; rw [← hr]; exact writeE_range l seq
  clear hq hn0 hnc hnb hs hr
  go_enter Tryd.func5, Tryd.ntmps5
  go_wp2_with fail
  refine hw.mono ?_
  rintro e w1 ⟨ev, rfl, hev, hb1⟩
  have HB : Hid (Below w.heap.size w w1) := hb1
  have hnum := numberOf_any ev r.1 hev HRG.out w1
  rcases hev with ⟨h0, rfl⟩ | ⟨_, hfa⟩
  · rw [h0] at hnum
    have H0 : Hid (r.1 = 0) := h0
    clear hw hb1 h0
    go_wp2_with fail
    refine hnum.mono ?_
    rintro e w2 ⟨rfl, hb2⟩
    go_wp2
    go_ret2
    exact ⟨by rw [H0.out]; rfl, below_bt HB.out hb2⟩
  · obtain ⟨T, vv, rfl⟩ := hfa.iface
    clear hw hb1 hfa
    go_wp2_with fail
    refine hnum.mono ?_
    rintro e w2 ⟨rfl, hb2⟩
    go_wp2
    go_ret2
    exact ⟨rfl, below_bt HB.out hb2⟩
end Go.Proofs.YtkecajgdmompcaaDoor
namespace Go.Proofs.YtkecajgdmompcaaDoor
open Go.RowKit Go.WideShapes

/-- The row of a conversion: of text s, at the block g. -/
structure CRow (w : World) (g n cap : Nat) (xs : List Nat) : Prop where
  row : ∃ cur : Array Value, w.heap[g]? = some (.cells cur 5 (cap, cap + 1)) ∧ cur.size = cap ∧ cur.toList.take n = Bs xs
  len : n = xs.length
  le : n ≤ cap
  lt : ∀ c ∈ xs, c < 256
theorem CRow.bin {w : World} {g n cap : Nat} {xs : List Nat} (h : CRow w g n cap xs) : BIn w (some ⟨g, 0, none⟩) xs := by
  obtain ⟨cur, hg, hs, ht⟩ := h.row
  refine ⟨fun _ => ⟨g, 0, rfl, fun i hi => ?_⟩, h.lt⟩
  rw [Nat.zero_add, cell_of_row w g i cur 5 _ hg]
  have e : (cur.toList.take n)[i]? = (Bs xs)[i]? := by rw [ht]
  rw [List.getElem?_take_of_lt (by rw [h.len]; exact hi)] at e
  simp only [Array.getElem?_toList] at e
  rw [e]
  simp [Bs, List.getD, List.getElem?_eq_getElem hi]
theorem conv_row (s : ByteArray) (w : World) (hs : s.size ≤ 100000) : ∃ W cap, (convert 9 43 (.string s)).run Tryd.prog w = .ok (.slice (some ⟨w.heap.size, 0, none⟩) s.size cap) W ∧ Below w.heap.size w W ∧ CRow W w.heap.size s.size cap (numsOf s) ∧ cap ≤ maxLen := by
  refine ⟨_, _, Lib.run_convert_string_bytes w 9 43 5 s Tryd.underlying9 Tryd.underlying43 Tryd.underlying5, ⟨rfl, rfl, rfl, ?_, fun k hk => Lib.bytesWorld_at_old w 5 s k hk⟩, ⟨⟨Lib.bytesCells w 5 s, ?_, ?_, ?_⟩, (numsOf_len s).symm, grownCap_ge w s.size 0 5, numsOf_lt s⟩, grownCap_le_maxLen w s.size 0 5 (by unfold maxLen; omega)⟩
  · rw [Lib.bytesWorld_size]; omega
  · have hge := grownCap_ge w s.size 0 5
    have hsz : (Lib.bytesCells w 5 s).size = grownCap w s.size 0 5 := by
      unfold Lib.bytesCells; simp only [Array.size_append, Array.size_map, Array.size_replicate]
      have : s.data.size = s.size := rfl
      omega
    have := Lib.bytesWorld_at_new w 5 s
    rw [hsz] at this
    exact this
  · have hge := grownCap_ge w s.size 0 5
    unfold Lib.bytesCells; simp only [Array.size_append, Array.size_map, Array.size_replicate]
    have : s.data.size = s.size := rfl
    omega
  · unfold Lib.bytesCells Bs numsOf
    rw [Array.toList_append, List.take_left' (by simp)]
    simp
/-- A slice cut from k on, and one cut at k with no room behind. -/
theorem cut_from (p : Option Addr) (n c k : Nat) (xs : List Nat) (hn : n = xs.length) (hc : n ≤ c) (hk : k ≤ n) (hp : p = none → c = 0) :
    ∃ p', (∀ w, (Instr.slice 43 (.slice p n c) (some (.int .i64 k)) none none).run Tryd.prog w = .ok (.slice p' (n - k) (c - k)) w) ∧ (∀ w, BIn w p xs → BIn w p' (xs.drop k)) ∧ (p' = none → c - k = 0) ∧ (∀ a', p' = some a' → ∃ a, p = some a ∧ a'.block = a.block) := by
  have hr : ∀ w, (Instr.slice 43 (.slice p n c) (some (.int .i64 k)) none none).run Tryd.prog w = .ok (.slice (if c = k then p else p.map (·.add (k * 1))) (n - k) (c - k)) w := by
    intro w
    rw [run_slice_l w 43 p n c (by kernel_rfl) .i64 k (by omega) (by omega)]
    have hs : (sizeOf (Tryd.prog.elem 43)).run Tryd.prog w = .ok 1 w := by kernel_rfl
    rw [hs]
    rfl
  cases p with
  | none =>
    have hc0 := hp rfl
    have : k = 0 := by omega
    subst this
    exact ⟨_, hr, fun w h => by rw [List.drop_zero, if_pos hc0]; exact h, fun _ => by omega, fun a' h => by split at h <;> simp at h⟩
  | some a =>
    refine ⟨_, hr, fun w h => ?_, fun h => by split at h <;> simp at h, fun a' h => ?_⟩
    · rcases Nat.eq_zero_or_pos xs.length with h0 | h0
      · refine ⟨fun hp => absurd hp (by rw [List.length_drop]; omega), fun c hc => h.2 c (List.mem_of_mem_drop hc)⟩
      obtain ⟨b, o, e, _⟩ := h.1 h0
      simp only [Option.some.injEq] at e
      subst e
      have := bin_part h c k (by omega) (xs.length - k)
      rw [List.take_of_length_le (by rw [List.length_drop]; omega)] at this
      have e2 : (if c = k then some (⟨b, o, none⟩ : Addr) else (some (⟨b, o, none⟩ : Addr)).map (·.add (k * 1))) = (if c = k then some ⟨b, o, none⟩ else some ⟨b, o + k, none⟩) := by
        split
        · rfl
        · rw [Option.map_some, add_plain, Nat.mul_one]
      rw [e2]
      exact this
    · split at h
      · exact ⟨a, rfl, by rw [Option.some.inj h]⟩
      · rw [Option.map_some] at h
        refine ⟨a, rfl, ?_⟩
        rw [← Option.some.inj h]
        simp only [Addr.add]
        split <;> rfl
theorem results_cell_tmp2 {fn : Func} {p u x : Tmp} {ty : TypeId} (h : fn.results = #[.cell p ty, .tmp u, .tmp x]) (tmps : Array Value) (P : Program) (w : World) :
    (results fn tmps).run P w = ((asAddr (tmps.getD p undef)).run P w).andThen fun a w₁ => ((loadVar ty a).run P w₁).andThen fun v w₂ => .ok (.tuple #[v, tmps.getD u undef, tmps.getD x undef]) w₂ := by
  simp only [results, h]
  simp [Sem.run_bind, Result.andThen]
theorem below_drewN {B : Nat} {a w : World} (h : Below B a w) (n : Nat) : Below B a (w.drewN n) := ⟨h.os, h.tape, h.output, h.size, h.block⟩
end Go.Proofs.YtkecajgdmompcaaDoor
namespace Go.Proofs.YtkecajgdmompcaaDoor
open Go.RowKit Go.WideShapes

/-- A row that lies in memory made since a world. -/
def Fresh (w : World) (v : Value) : Prop := ∀ a n m, v = .slice (some a) n m → w.heap.size ≤ a.block
theorem own_fresh {w w' : World} {n : Nat} {v : Value} {xs : List Value} (h : w'.ownsRow w.heap.size 5 1 v n xs) : Fresh w v := by
  intro a n' m e
  subst e
  rcases h.2 with ⟨hv, _⟩ | ⟨g, cap, cur, hv, hg, _⟩
  · cases hv
  · simp only [Value.slice.injEq, Option.some.injEq] at hv
    obtain ⟨rfl, _⟩ := hv
    exact hg
theorem own_row {w : World} {base : Nat} {v : Value} {xs : List Nat} (h : w.ownsRow base 5 1 v xs.length (Bs xs)) (hx : ∀ c ∈ xs, c < 256) : Row w v xs := by
  obtain ⟨q, m, rfl, h1, h2, h3⟩ := own_form h
  exact ⟨⟨q, m, rfl, own_in h hx, h1, h2, h3⟩⟩
theorem cutT_none (v : Value) (xs : List Nat) (w : World) (hv : Row w v xs) (hl : xs.length ≤ 100000) (h : cutT xs = none) :
    Calls Tryd.prog 39 #[v] w fun e w' => e = .returned (.tuple #[.string ⟨#[]⟩, .slice none 0 0, .int .i64 8]) ∧ w' = w := by
  obtain ⟨p, c, rfl, hb, hc, hm, hp⟩ := hv.lies
  unfold cutT at h
  split at h
  · rename_i n k hr
    split at h
    · cases h
    · exact cut_long p c xs w hb (by unfold maxLen; omega) n k hr (by omega)
  · rename_i hr
    exact cut_none p c xs w hb (by unfold maxLen; omega) hr
theorem cutT_some (v : Value) (xs : List Nat) (w : World) (hv : Row w v xs) (hl : xs.length ≤ 100000) (s : ByteArray) (rest : List Nat) (h : cutT xs = some (s, rest)) :
    Calls Tryd.prog 39 #[v] w fun e w' => ∃ v', e = .returned (.tuple #[.string s, v', .int .i64 0]) ∧ Row w' v' rest ∧ Below w.heap.size w w' ∧ Fresh w v' := by
  obtain ⟨p, c, rfl, hb, hc, hm, hp⟩ := hv.lies
  unfold cutT at h
  split at h
  · rename_i n k hr
    split at h
    · simp only [Option.some.injEq, Prod.mk.injEq] at h
      obtain ⟨rfl, rfl⟩ := h
      refine (cut_ok p c xs w hb hl hc n k hr (by omega)).mono ?_
      rintro e w' ⟨v', rfl, ho, hbl⟩
      exact ⟨v', rfl, own_row ho (fun c hc => hb.2 c (List.mem_of_mem_drop hc)), hbl, own_fresh ho⟩
    · cases h
  · cases h
set_option maxRecDepth 8000 in
set_option maxHeartbeats 2000000 in
theorem cutNumber_none (v : Value) (lim : Nat) (xs : List Nat) (w : World) (hv : Row w v xs) (hl : xs.length ≤ 100000) (hlim : lim ≤ 2147483647) (h : cutNum xs lim = none) :
    Calls Tryd.prog 34 #[v, .int .i64 (lim : Int)] w fun e w' => e = .returned (.tuple #[.int .i64 0, .slice none 0 0, .bool false]) ∧ w' = w := by
  obtain ⟨p, c, rfl, hb, hc, hm, hp⟩ := hv.lies
  have hw2 : IntKind.u64.wrap (lim : Int) = (lim : Int) := by rw [IntKind.wrap_u64]; omega
  unfold cutNum at h
  split at h
  · rename_i n k hr
    have hrd := read_some p xs.length c xs w n k rfl hb (by unfold maxLen; omega) hr
    have hn : ¬ n ≤ lim := fun h1 => by rw [if_pos h1] at h; cases h
    have hnI : (lim : Int) < (n : Int) := by omega
    clear h hn hr
    go_enter Tryd.func34, Tryd.ntmps34
    go_wp2_with (go_at_call 38; refine hrd.mono ?_; rintro e w1 ⟨rfl, rfl⟩)
    go_ret3
    exact ⟨rfl, rfl⟩
  · rename_i hr
    have hrd := read_none p xs.length c xs w rfl hb (by unfold maxLen; omega) hr
    clear h hr
    go_enter Tryd.func34, Tryd.ntmps34
    go_wp2_with (go_at_call 38; refine hrd.mono ?_; rintro e w1 ⟨rfl, rfl⟩)
    go_ret3
    exact ⟨rfl, rfl⟩
set_option maxRecDepth 8000 in
set_option maxHeartbeats 2000000 in
theorem cutNumber_some (v : Value) (lim : Nat) (xs : List Nat) (w : World) (hv : Row w v xs) (hl : xs.length ≤ 100000) (hlim : lim ≤ 2147483647) (n : Nat) (rest : List Nat) (h : cutNum xs lim = some (n, rest)) :
    Calls Tryd.prog 34 #[v, .int .i64 (lim : Int)] w fun e w' => ∃ v', e = .returned (.tuple #[.int .i64 (n : Int), v', .bool true]) ∧ Row w' v' rest ∧ Below w.heap.size w w' := by
  obtain ⟨p, c, rfl, hb, hc, hm, hp⟩ := hv.lies
  unfold cutNum at h
  split at h
  · rename_i n' k hr
    split at h
    · rename_i hn
      simp only [Option.some.injEq, Prod.mk.injEq] at h
      obtain ⟨rfl, rfl⟩ := h
      obtain ⟨k1, k2, k3, k4⟩ := readN_some hr
      have hrd := read_some p xs.length c xs w n' k rfl hb (by unfold maxLen; omega) hr
      have hnI : (n' : Int) ≤ (lim : Int) := by omega
      have hnI2 : (n' : Int) ≤ 2147483647 := by omega
      obtain ⟨p', hsl, hbin, hp', _⟩ := cut_from p xs.length c k xs rfl hc k2 hp
      have HR : Hid (BIn w p' (xs.drop k) ∧ (xs.drop k).length = xs.length - k ∧ xs.length - k ≤ c - k ∧ c - k ≤ maxLen ∧ (p' = none → c - k = 0)) := ⟨hbin w hb, List.length_drop, by omega, by omega, hp'⟩
      have hw : IntKind.i64.wrap (n' : Int) = (n' : Int) := by rw [IntKind.wrap_i64]; omega
      have hw2 : IntKind.u64.wrap (lim : Int) = (lim : Int) := by rw [IntKind.wrap_u64]; omega
      obtain ⟨nl, hnl⟩ : ∃ m, xs.length - k = m := ⟨_, rfl⟩
      obtain ⟨cl, hcl⟩ : ∃ m, c - k = m := ⟨_, rfl⟩
      obtain ⟨xl, hxl⟩ : ∃ m, xs.length = m := ⟨_, rfl⟩
      have hkI : (k : Int) ≤ (xl : Int) := by omega
      have hkI2 : (k : Int) ≤ (c : Int) := by omega
      have hkI3 : (xl : Int) ≤ (c : Int) := by omega
      rw [hnl, hcl] at HR hsl
      rw [hxl] at hrd hsl ⊢
      clear hr hb hc hm hp hbin hp' hn k1 k2 k3 k4 hnl hcl hxl hv hl
      go_enter Tryd.func34, Tryd.ntmps34
      go_wp2_with (go_at_call 38; refine hrd.mono ?_; rintro e w1 ⟨rfl, rfl⟩)
      go_quiet (fail)
      go_wp2
      go_ret3
      exact ⟨_, rfl, ⟨⟨p', cl, by rw [HR.out.2.1]; rfl, HR.out.1.below (below_drewN (Below.refl _ _) _), by rw [HR.out.2.1]; exact HR.out.2.2.1, HR.out.2.2.2.1, HR.out.2.2.2.2⟩⟩, below_drewN (Below.refl _ _) _⟩
    · cases h
  · cases h
end Go.Proofs.YtkecajgdmompcaaDoor
namespace Go.Proofs.YtkecajgdmompcaaDoor
open Go.RowKit Go.WideShapes

theorem grown_set (w : World) (g i : Nat) (v : Value) : w.grownBy (w.setCell ⟨g, i, none⟩ v) (some g) :=
  ⟨rfl, rfl, rfl, by simp, fun k _ hn => Below.heap_setCell w ⟨g, i, none⟩ v k (fun e => hn (by rw [e]))⟩
theorem grown_trans {a b c : World} {r : Option Nat} (h1 : a.grownBy b r) (h2 : b.grownBy c r) : a.grownBy c r :=
  ⟨h2.os.trans h1.os, h2.tape.trans h1.tape, h2.output.trans h1.output, Nat.le_trans h1.size h2.size, fun k hk hn => (h2.block k (Nat.lt_of_lt_of_le hk h1.size) hn).trans (h1.block k hk hn)⟩
theorem grown_below {a b : World} (h : Below a.heap.size a b) (r : Option Nat) : a.grownBy b r := ⟨h.os, h.tape, h.output, h.size, fun k hk _ => h.block k hk⟩
def noU8 (C : Array Value) : Prop := ∀ (i : Nat) (z : Int), C[i]? ≠ some (.int .u8 z)
theorem bin_grownC {w w' : World} {g : Nat} {C : Array Value} {t : TypeId} {fr : Nat × Nat} {p : Option Addr} {xs : List Nat} (hb : w.heap[g]? = some (.cells C t fr)) (hC : noU8 C) (h : BIn w p xs) (hg : w.grownBy w' (some g)) : BIn w' p xs := by
  refine ⟨fun hp => ?_, h.2⟩
  obtain ⟨b', o, rfl, hc⟩ := h.1 hp
  refine ⟨b', o, rfl, fun i hi => ?_⟩
  have e := hc i hi
  have hne : b' ≠ g := by
    intro e'
    subst e'
    rw [cell_of_row w b' (o + i) _ _ _ hb] at e
    exact hC _ _ e
  have hlt := World.block_lt_of_cell? _ _ e
  have hbk : w'.heap[b']? = w.heap[b']? := hg.block b' hlt (fun e => hne (Option.some.inj e))
  rw [← e]
  unfold World.cell?
  simp only [hbk]
theorem below_setR {base B : Nat} {w0 w : World} (i : Nat) (v : Value) (h : Below base w0 w) (hB : base ≤ B) : Below base w0 (w.setCell ⟨B, i, none⟩ v) := h.setCell (p := ⟨B, i, none⟩) hB v
theorem Row.nil (w : World) : Row w (.slice none 0 0) [] := ⟨⟨none, 0, rfl, ⟨fun h => absurd h (by simp), by simp⟩, Nat.le_refl _, by unfold maxLen; omega, fun _ => rfl⟩⟩
theorem noU8_3 (a b : ByteArray) (g : Bool) : noU8 #[.string a, .string b, .bool g] := by
  intro i z
  rcases i with _ | _ | _ | i <;> simp
def set3 (w : World) (B : Nat) (a b c : Value) : World := ((w.setCell ⟨B, 0, none⟩ a).setCell ⟨B, 1, none⟩ b).setCell ⟨B, 2, none⟩ c
theorem set3_grown (w : World) (B : Nat) (a b c : Value) : w.grownBy (set3 w B a b c) (some B) := grown_trans (grown_trans (grown_set _ _ _ _) (grown_set _ _ _ _)) (grown_set _ _ _ _)
theorem set3_below {base B : Nat} {w0 w : World} (h : Below base w0 w) (hB : base ≤ B) (a b c : Value) : Below base w0 (set3 w B a b c) :=
  ((h.setCell (p := ⟨B, 0, none⟩) hB a).setCell (p := ⟨B, 1, none⟩) hB b).setCell (p := ⟨B, 2, none⟩) hB c
theorem row_grown {w w' : World} {B : Nat} {a b : ByteArray} {g : Bool} {t : TypeId} {fr : Nat × Nat} {v : Value} {xs : List Nat} (hb : w.heap[B]? = some (.cells #[.string a, .string b, .bool g] t fr)) (h : Row w v xs) (hg : w.grownBy w' (some B)) : Row w' v xs := by
  obtain ⟨p, c, e, h1, h2⟩ := h.lies
  exact ⟨⟨p, c, e, bin_grownC hb (noU8_3 _ _ _) h1 hg, h2⟩⟩
theorem cellsF {w : World} {g : Nat} {a b c : Value} {t : TypeId} (h : w.heap[g]? = some (.cells #[a, b, c] t (0, 0))) : (w.cell? ⟨g, 0, none⟩ = some a ∧ w.cell? ⟨g, 1, none⟩ = some b ∧ w.cell? ⟨g, 2, none⟩ = some c) ∧ w.frozen? ⟨g, 0, none⟩ = false ∧ w.frozen? ⟨g, 1, none⟩ = false ∧ w.frozen? ⟨g, 2, none⟩ = false :=
  ⟨three_cells h, by simp only [World.frozen?, h]; rfl, by simp only [World.frozen?, h]; rfl, by simp only [World.frozen?, h]; rfl⟩
/-- What cutChange answers. -/
structure CutP (w : World) (o : Option (CV × List Nat)) (e : Ending) (w' : World) : Prop where
  ex : ∃ (a b : ByteArray) (g ok : Bool) (q : Option Addr) (n m : Nat), e = .returned (.tuple #[.agg #[.string a, .string b, .bool g], .slice q n m, .bool ok]) ∧ Below w.heap.size w w' ∧ ((o = none ∧ ok = false) ∨ (ok = true ∧ ∃ rest, o = some (⟨a, b, g⟩, rest) ∧ Row w' (.slice q n m) rest ∧ Fresh w (.slice q n m)))
theorem cut_first {g : Nat → Bool} {xs : List Nat} (h : cutT xs = none) : cutCh g xs = none := by unfold cutCh; rw [h]
theorem cut_empty {g : Nat → Bool} {xs : List Nat} {s : ByteArray} (h : cutT xs = some (s, [])) : cutCh g xs = none := by unfold cutCh; rw [h]
theorem cut_gone {g : Nat → Bool} {xs rest : List Nat} {s : ByteArray} {c : Nat} (h : cutT xs = some (s, c :: rest)) (hc : g c = true) : cutCh g xs = some (⟨s, ByteArray.empty, true⟩, rest) := by unfold cutCh; rw [h]; simp [hc]
theorem cut_lost {g : Nat → Bool} {xs rest : List Nat} {s : ByteArray} {c : Nat} (h : cutT xs = some (s, c :: rest)) (hc : g c = false) (h2 : cutT rest = none) : cutCh g xs = none := by unfold cutCh; rw [h]; simp [hc, h2]
theorem cut_stay {g : Nat → Bool} {xs rest r2 : List Nat} {s v : ByteArray} {c : Nat} (h : cutT xs = some (s, c :: rest)) (hc : g c = false) (h2 : cutT rest = some (v, r2)) : cutCh g xs = some (⟨s, v, false⟩, r2) := by unfold cutCh; rw [h]; simp [hc, h2]
set_option maxRecDepth 8000 in
set_option maxHeartbeats 4000000 in
theorem cutChange_any (v : Value) (xs : List Nat) (w : World) (hv : Row w v xs) (hl : xs.length ≤ 100000) (o : Option (CV × List Nat)) (ho : cutCh gP xs = o) :
    Calls Tryd.prog 35 #[v] w fun e w' => CutP w o e w' := by
  have HV : Hid (Row (w.alloc (.cells #[.string ⟨#[]⟩, .string ⟨#[]⟩, .bool false] 36)) v xs) := hv.below (below_alloc _ _)
  have HR : Hid ((w.alloc (.cells #[.string ⟨#[]⟩, .string ⟨#[]⟩, .bool false] 36)).heap[w.heap.size]? = some (.cells #[.string ⟨#[]⟩, .string ⟨#[]⟩, .bool false] 36 (0, 0))) := heap_alloc_new _ _
  have HB : Hid (Below w.heap.size w (w.alloc (.cells #[.string ⟨#[]⟩, .string ⟨#[]⟩, .bool false] 36))) := below_alloc _ _
  obtain ⟨p, c0, rfl, _⟩ := hv.lies
  cases h1 : cutT xs with
  | none =>
    have hc := cutT_none _ xs (w.alloc (.cells #[.string ⟨#[]⟩, .string ⟨#[]⟩, .bool false] 36)) HV.out hl h1
    have HO : Hid (o = none) := by show o = none; rw [← ho]; exact cut_first h1
    obtain ⟨⟨c0, c1, c2⟩, f0, f1, f2⟩ := cellsF HR.out
    clear hv ho h1
    go_enter Tryd.func35, Tryd.ntmps35
    go_wp2_with (go_at_call 39; refine hc.mono ?_; rintro e w1 ⟨rfl, rfl⟩)
    (try simp only [Exit.inBlock, Exit.then])
    refine bodyPost_ret (v := .tuple #[.agg #[.string ⟨#[]⟩, .string ⟨#[]⟩, .bool false], .slice none 0 0, .bool false]) ?_ rfl ?_
    · rw [results_cell_tmp2 rfl]
      go_simp
    · exact ⟨⟨_, _, _, _, _, _, _, rfl, by first | exact HB.out | exact set3_below HB.out (Nat.le_refl _) _ _ _, .inl ⟨HO.out, rfl⟩⟩⟩
  | some sr =>
    obtain ⟨s, rest⟩ := sr
    have hc := cutT_some _ xs (w.alloc (.cells #[.string ⟨#[]⟩, .string ⟨#[]⟩, .bool false] 36)) HV.out hl s rest h1
    have hrl := cutT_len h1
    cases rest with
    | nil =>
      have HO : Hid (o = none) := by show o = none; rw [← ho]; exact cut_empty h1
      clear hv ho h1 hrl
      go_enter Tryd.func35, Tryd.ntmps35
      go_wp2_with fail
      refine hc.mono ?_
      rintro e w1 ⟨v1, rfl, hrow, hb1, hfr1⟩
      obtain ⟨q1, m1, rfl, _⟩ := hrow.lies
      have HR1 := (hb1.block _ (lt_heap HR.out)).trans HR.out
      obtain ⟨⟨c0, c1, c2⟩, f0, f1, f2⟩ := cellsF HR1
      have HB1 : Hid (Below w.heap.size w w1) := below_bt HB.out hb1
      simp only [List.length_nil]
      clear hc hrow hb1 HR1 hfr1
      go_wp2
      (try simp only [Exit.inBlock, Exit.then])
      refine bodyPost_ret (v := .tuple #[.agg #[.string ⟨#[]⟩, .string ⟨#[]⟩, .bool false], .slice none 0 0, .bool false]) ?_ rfl ?_
      · rw [results_cell_tmp2 rfl]
        go_simp
      · exact ⟨⟨_, _, _, _, _, _, _, rfl, by first | exact HB1.out | exact set3_below HB1.out (Nat.le_refl _) _ _ _, .inl ⟨HO.out, rfl⟩⟩⟩
    | cons c rest =>
      have HO : Hid (cutCh gP xs = o) := ho
      have H1 : Hid (cutT xs = some (s, c :: rest)) := h1
      have HLR : Hid (rest.length + 1 ≤ xs.length ∧ xs.length ≤ 100000) := ⟨by simpa using hrl, hl⟩
      clear hv ho h1 hrl hl
      go_enter Tryd.func35, Tryd.ntmps35
      go_wp2_with fail
      refine hc.mono ?_
      rintro e w1 ⟨v1, rfl, hrow, hb1, hfr1⟩
      obtain ⟨q1, m1, rfl, hbin, hle, hmx, hqn⟩ := hrow.lies
      obtain ⟨b, off, rfl, hcell⟩ := hbin.1 (by simp)
      have hby : c < 256 := hbin.2 c (by simp)
      have z0 : w1.cell? ⟨b, off, none⟩ = some (.int .u8 (c : Int)) := by have := hcell 0 (by simp); simpa using this
      obtain ⟨p', hsl, hbn, hp', hpb⟩ := cut_from (some ⟨b, off, none⟩) (rest.length + 1) m1 1 (c :: rest) rfl (by simpa using hle) (by omega) hqn
      obtain ⟨RL, hRL⟩ : ∃ m, rest.length = m := ⟨_, rfl⟩
      obtain ⟨L1, hL1⟩ : ∃ m, rest.length + 1 = m := ⟨_, rfl⟩
      obtain ⟨cl, hcl⟩ : ∃ m, m1 - 1 = m := ⟨_, rfl⟩
      have hsl1 : ∀ w, (Instr.slice 43 (.slice (some ⟨b, off, none⟩) L1 m1) (some (.int .i64 1)) none none).run Tryd.prog w = .ok (.slice p' RL cl) w := fun w => by
        have h := hsl w
        rw [hcl, hL1, show L1 - 1 = RL by omega] at h
        exact h
      have HW : Hid (Row w1 (.slice p' RL cl) rest) := ⟨⟨p', cl, by rw [hRL], by have := hbn w1 hbin; simpa using this, by simp at hle; omega, by omega, fun h => by have := hp' h; omega⟩⟩
      have HR1 : Hid (w1.heap[w.heap.size]? = some (.cells #[.string ⟨#[]⟩, .string ⟨#[]⟩, .bool false] 36 (0, 0))) := (hb1.block _ (lt_heap HR.out)).trans HR.out
      have HB1 : Hid (Below w.heap.size w w1) := below_bt HB.out hb1
      have HFR : Hid (Fresh w (.slice p' RL cl)) := by
        intro a n m e
        simp only [Value.slice.injEq] at e
        obtain ⟨a0, e0, e1⟩ := hpb a e.1
        have h := hfr1 a0 _ _ (by rw [← e0])
        simp at h
        rw [e1]
        omega
      have hLI : (1 : Int) ≤ (L1 : Int) := by omega
      have hLe : ((L1 : Int) == 0) = false := by simp; omega
      have hLm : (L1 : Int) ≤ (m1 : Int) := by simp at hle; omega
      simp only [List.length_cons]
      rw [hL1]
      have HM : Hid (rest.length = RL ∧ rest.length ≤ 100000) := ⟨hRL, by have := HLR.out; omega⟩
      have HRlt := lt_heap HR1.out
      have hne : w.heap.size ≠ w1.heap.size := by omega
      clear hc hrow hb1 hbin hle hmx hqn hcell hbn hp' hRL hcl hsl hL1 HR HB HV HRlt hpb hfr1
      by_cases hg : c = 0
      · subst hg
        have HR2 : Hid ((w1.alloc (.cells #[.string s, .string ⟨#[]⟩, .bool false] 36)).heap[w.heap.size]? = some (.cells #[.string ⟨#[]⟩, .string ⟨#[]⟩, .bool false] 36 (0, 0))) := ((below_alloc w1 _).block _ (lt_heap HR1.out)).trans HR1.out
        have HC2 : Hid ((w1.alloc (.cells #[.string s, .string ⟨#[]⟩, .bool false] 36)).heap[w1.heap.size]? = some (.cells #[.string s, .string ⟨#[]⟩, .bool false] 36 (0, 0))) := heap_alloc_new _ _
        have HW2 : Hid (Row (w1.alloc (.cells #[.string s, .string ⟨#[]⟩, .bool false] 36)) (.slice p' RL cl) rest) := HW.out.below (below_alloc _ _)
        have HB2 : Hid (Below w.heap.size w (w1.alloc (.cells #[.string s, .string ⟨#[]⟩, .bool false] 36))) := below_bt HB1.out (below_alloc _ _)
        cases h2 : cutT rest with
        | none =>
          have HN : Hid (o = none) := by show o = none; rw [← HO.out]; exact cut_lost H1.out rfl h2
          have hc := cutT_none _ rest (w1.alloc (.cells #[.string s, .string ⟨#[]⟩, .bool false] 36)) HW2.out HM.out.2 h2
          obtain ⟨⟨c0, c1, c2⟩, f0, f1, f2⟩ := cellsF HR2.out
          obtain ⟨⟨d0, d1, d2⟩, g0, g1, g2⟩ := cellsF HC2.out
          clear h2
          go_wp2_with (go_at_call 39; refine hc.mono ?_; rintro e w9 ⟨rfl, rfl⟩)
          (try simp only [Exit.inBlock, Exit.then])
          refine bodyPost_ret (v := .tuple #[.agg #[.string s, .string ⟨#[]⟩, .bool false], .slice none 0 0, .bool false]) ?_ rfl ?_
          · rw [results_cell_tmp2 rfl]
            go_simp
          · refine ⟨⟨_, _, _, _, _, _, _, rfl, ?_, .inl ⟨HN.out, rfl⟩⟩⟩
            repeat' first
              | exact HB2.out
              | refine below_setR _ _ ?_ (Nat.le_refl w.heap.size)
              | refine below_setR _ _ ?_ HB1.out.size
        | some vr =>
          obtain ⟨val, r2⟩ := vr
          have HN : Hid (o = some (⟨s, val, false⟩, r2)) := by show o = _; rw [← HO.out]; exact cut_stay H1.out rfl h2
          have hc := cutT_some _ rest (w1.alloc (.cells #[.string s, .string ⟨#[]⟩, .bool false] 36)) HW2.out HM.out.2 val r2 h2
          clear h2
          go_wp2_with fail
          refine hc.mono ?_
          rintro e w3 ⟨v3, rfl, hrow3, hb3, hfr3⟩
          have HR3 : Hid (w3.heap[w.heap.size]? = some (.cells #[.string ⟨#[]⟩, .string ⟨#[]⟩, .bool false] 36 (0, 0))) := (hb3.block _ (lt_heap HR2.out)).trans HR2.out
          have HC3 : Hid (w3.heap[w1.heap.size]? = some (.cells #[.string s, .string ⟨#[]⟩, .bool false] 36 (0, 0))) := (hb3.block _ (lt_heap HC2.out)).trans HC2.out
          have HW3 : Hid (Row w3 v3 r2) := hrow3
          have HB3 : Hid (Below w.heap.size w w3) := below_bt HB2.out hb3
          have HF3 : Hid (Fresh w v3) := fun a n m e => by have h := hfr3 a n m e; have h2 := HB2.out.size; omega
          obtain ⟨q3, m3, rfl, _⟩ := hrow3.lies
          obtain ⟨l3, hl3⟩ : ∃ m, r2.length = m := ⟨_, rfl⟩
          rw [hl3] at HW3 HF3 ⊢
          obtain ⟨⟨c0, c1, c2⟩, f0, f1, f2⟩ := cellsF HR3.out
          obtain ⟨⟨d0, d1, d2⟩, g0, g1, g2⟩ := cellsF HC3.out
          clear hc hrow3 hb3 hl3 hfr3
          go_wp2
          (try simp only [Exit.inBlock, Exit.then])
          refine bodyPost_ret (v := .tuple #[.agg #[.string s, .string val, .bool false], .slice q3 l3 m3, .bool true]) ?_ rfl ?_
          · rw [results_cell_tmp2 rfl]
            go_simp
          · have hC1 : (w3.setCell ⟨w1.heap.size, 1, none⟩ (.string val)).heap[w.heap.size]? = some (.cells #[.string ⟨#[]⟩, .string ⟨#[]⟩, .bool false] 36 (0, 0)) := by
              rw [(grown_set w3 w1.heap.size 1 (.string val)).block _ (lt_heap HR3.out) (by simpa using hne)]
              exact HR3.out
            have hrw := row_grown HC3.out HW3.out (grown_set w3 w1.heap.size 1 (.string val))
            refine ⟨⟨_, _, _, _, _, _, _, rfl, ?_, .inr ⟨rfl, r2, HN.out, row_grown hC1 hrw ?_, HF3.out⟩⟩⟩
            · repeat' first
                | exact HB3.out
                | refine below_setR _ _ ?_ (Nat.le_refl w.heap.size)
                | refine below_setR _ _ ?_ HB1.out.size
            · repeat' first
                | exact grown_set _ _ _ _
                | refine grown_trans ?_ (grown_set _ _ _ _)
      · have hcb : ((c : Int) == 0) = false := by simpa using hg
        have HN : Hid (o = some (⟨s, ByteArray.empty, true⟩, rest)) := by show o = _; rw [← HO.out]; exact cut_gone H1.out (by unfold gP; simpa using hg)
        have HR2 : Hid ((w1.alloc (.cells #[.string s, .string ⟨#[]⟩, .bool true] 36)).heap[w.heap.size]? = some (.cells #[.string ⟨#[]⟩, .string ⟨#[]⟩, .bool false] 36 (0, 0))) := ((below_alloc w1 _).block _ (lt_heap HR1.out)).trans HR1.out
        have HB2 : Hid (Below w.heap.size w (w1.alloc (.cells #[.string s, .string ⟨#[]⟩, .bool true] 36))) := below_bt HB1.out (below_alloc _ _)
        have HW2 : Hid (Row (w1.alloc (.cells #[.string s, .string ⟨#[]⟩, .bool true] 36)) (.slice p' RL cl) rest) := HW.out.below (below_alloc _ _)
        obtain ⟨⟨c0, c1, c2⟩, f0, f1, f2⟩ := cellsF HR2.out
        clear hg
        go_wp2
        (try simp only [Exit.inBlock, Exit.then])
        refine bodyPost_ret (v := .tuple #[.agg #[.string s, .string ⟨#[]⟩, .bool true], .slice p' RL cl, .bool true]) ?_ rfl ?_
        · rw [results_cell_tmp2 rfl]
          go_simp
        · refine ⟨⟨_, _, _, _, _, _, _, rfl, ?_, .inr ⟨rfl, rest, HN.out, row_grown HR2.out HW2.out ?_, HFR.out⟩⟩⟩
          · repeat' first
              | exact HB2.out
              | refine below_setR _ _ ?_ (Nat.le_refl w.heap.size)
          · repeat' first
              | exact grown_set _ _ _ _
              | refine grown_trans ?_ (grown_set _ _ _ _)
end Go.Proofs.YtkecajgdmompcaaDoor
namespace Go.Proofs.YtkecajgdmompcaaDoor
open Go.RowKit Go.WideShapes

theorem row_apart {w w' : World} {v : Value} {xs : List Nat} {r : Option Nat} (h : Row w v xs) (hg : w.grownBy w' r) (hne : ∀ a n m, v = .slice (some a) n m → r ≠ some a.block) : Row w' v xs := by
  obtain ⟨p, c, e, h1, h2⟩ := h.lies
  refine ⟨⟨p, c, e, ⟨fun hp => ?_, h1.2⟩, h2⟩⟩
  obtain ⟨b', o, rfl, hc⟩ := h1.1 hp
  refine ⟨b', o, rfl, fun i hi => ?_⟩
  have e1 := hc i hi
  have hlt := World.block_lt_of_cell? _ _ e1
  have hbk : w'.heap[b']? = w.heap[b']? := hg.block b' hlt (fun e2 => hne _ _ _ e (by rw [e2]))
  rw [← e1]
  unfold World.cell?
  simp only [hbk]
/-- What cutRecord answers. -/
structure RecP (w : World) (o : Option (List CV × Nat)) (e : Ending) (w' : World) : Prop where
  ex : Below w.heap.size w w' ∧ ((o = none ∧ e = .returned (.tuple #[.slice none 0 0, .int .i64 0, .bool false])) ∨ ∃ l seq v, o = some (l, seq) ∧ e = .returned (.tuple #[v, .int .i64 (seq : Nat), .bool true]) ∧ COwn w' w.heap.size v l)
theorem rec_none1 {g : Nat → Bool} {xs : List Nat} (h : cutNum xs 2147483647 = none) : cutRec g xs = none := by unfold cutRec; rw [h]
theorem rec_none2 {g : Nat → Bool} {xs ys : List Nat} {s : Nat} (h : cutNum xs 2147483647 = some (s, ys)) (h2 : cutNum ys 64 = none) : cutRec g xs = none := by unfold cutRec; rw [h]; simp only; rw [h2]
theorem rec_none3 {g : Nat → Bool} {xs ys zs : List Nat} {s n : Nat} (h : cutNum xs 2147483647 = some (s, ys)) (h2 : cutNum ys 64 = some (n, zs)) (h3 : cutChs g n zs = none) : cutRec g xs = none := by unfold cutRec; rw [h]; simp only; rw [h2]; simp only; rw [h3]
theorem rec_some {g : Nat → Bool} {xs ys zs us : List Nat} {s n : Nat} {l : List CV} (h : cutNum xs 2147483647 = some (s, ys)) (h2 : cutNum ys 64 = some (n, zs)) (h3 : cutChs g n zs = some (l, us)) : cutRec g xs = some (l, s) := by unfold cutRec; rw [h]; simp only; rw [h2]; simp only; rw [h3]
theorem cutNum_le {xs rest : List Nat} {lim n : Nat} (h : cutNum xs lim = some (n, rest)) : n ≤ lim ∧ rest.length ≤ xs.length := by
  unfold cutNum at h
  split at h
  · split at h
    · simp only [Option.some.injEq, Prod.mk.injEq] at h
      obtain ⟨rfl, rfl⟩ := h
      exact ⟨by assumption, by rw [List.length_drop]; omega⟩
    · cases h
  · cases h
set_option maxRecDepth 8000 in
set_option maxHeartbeats 4000000 in
theorem cutRecord_any (v : Value) (xs : List Nat) (w : World) (hv : Row w v xs) (hl : xs.length ≤ 100000) (o : Option (List CV × Nat)) (ho : cutRec gP xs = o) :
    Calls Tryd.prog 24 #[v] w fun e w' => RecP w o e w' := by
  have HO : Hid (cutRec gP xs = o) := ho
  have HL : Hid (xs.length ≤ 100000) := hl
  cases h1 : cutNum xs 2147483647 with
  | none =>
    have hc := cutNumber_none v 2147483647 xs w hv hl (Nat.le_refl _) h1
    have HN : Hid (o = none) := by show o = none; rw [← HO.out]; exact rec_none1 h1
    obtain ⟨p, c0, rfl, _⟩ := hv.lies
    clear hv ho h1 hl
    go_enter Tryd.func24, Tryd.ntmps24
    go_wp2_with (go_at_call 34; refine hc.mono ?_; rintro e w1 ⟨rfl, rfl⟩)
    go_ret3
    exact ⟨Below.refl _ _, .inl ⟨HN.out, rfl⟩⟩
  | some sy =>
    obtain ⟨S, ys⟩ := sy
    have hc := cutNumber_some v 2147483647 xs w hv hl (Nat.le_refl _) S ys h1
    have hyl := cutNum_le h1
    obtain ⟨p, c0, rfl, _⟩ := hv.lies
    have H1 : Hid (cutNum xs 2147483647 = some (S, ys) ∧ ys.length ≤ 100000) := ⟨h1, by omega⟩
    clear hv ho h1 hl hyl
    cases h2 : cutNum ys 64 with
    | none =>
      have HN : Hid (o = none) := by show o = none; rw [← HO.out]; exact rec_none2 H1.out.1 h2
      have HC2 : Hid (∀ w' v', Row w' v' ys → Calls Tryd.prog 34 #[v', .int .i64 64] w' fun e w'' => e = .returned (.tuple #[.int .i64 0, .slice none 0 0, .bool false]) ∧ w'' = w') := fun w' v' h => cutNumber_none v' 64 ys w' h H1.out.2 (by omega) h2
      clear h2
      go_enter Tryd.func24, Tryd.ntmps24
      go_wp2_with fail
      refine hc.mono ?_
      rintro e w1 ⟨v1, rfl, hr1, hb1⟩
      have hc2 := HC2.out w1 v1 hr1
      have HB1 : Hid (Below w.heap.size w w1) := hb1
      obtain ⟨q1, m1, rfl, _⟩ := hr1.lies
      clear hc hb1 hr1 HC2
      go_wp2_with fail
      refine hc2.mono ?_
      rintro e w2 ⟨rfl, rfl⟩
      go_wp2
      go_ret3
      exact ⟨HB1.out, .inl ⟨HN.out, rfl⟩⟩
    | some nz =>
      obtain ⟨M, zs⟩ := nz
      have hzl := cutNum_le h2
      have HC2 : Hid (∀ w' v', Row w' v' ys → Calls Tryd.prog 34 #[v', .int .i64 64] w' fun e w'' => ∃ v'', e = .returned (.tuple #[.int .i64 (M : Int), v'', .bool true]) ∧ Row w'' v'' zs ∧ Below w'.heap.size w' w'') := fun w' v' h => cutNumber_some v' 64 ys w' h H1.out.2 (by omega) M zs h2
      have H2 : Hid (cutNum ys 64 = some (M, zs) ∧ zs.length ≤ 100000 ∧ M ≤ 64) := ⟨h2, by have := H1.out.2; omega, hzl.1⟩
      have hMI : (M : Int) ≤ 64 := by omega
      clear h2 hzl
      go_enter Tryd.func24, Tryd.ntmps24
      go_wp2_with fail
      refine hc.mono ?_
      rintro e w1 ⟨v1, rfl, hr1, hb1⟩
      have hc2 := HC2.out w1 v1 hr1
      have HB1 : Hid (Below w.heap.size w w1) := hb1
      obtain ⟨q1, m1, rfl, _⟩ := hr1.lies
      clear hc hb1 hr1 HC2
      go_wp2_with fail
      refine hc2.mono ?_
      rintro e w2 ⟨v2, rfl, hr2, hb2⟩
      have HB2 : Hid (Below w.heap.size w w2) := below_bt HB1.out hb2
      have HR2 : Hid (Row w2 v2 zs) := hr2
      obtain ⟨q2, m2, rfl, _⟩ := hr2.lies
      clear hc2 hb2 hr2 HB1
      go_wp2
      go_loopw [0, 6, 8, 27] (fun b k6 lv i wr => ∃ (k : Nat) (lk : List CV) (us : List Nat), k ≤ M ∧ i = .int .i64 (k : Int) ∧ k6 = .bool true ∧ cutChs gP k zs = some (lk, us) ∧ Row wr b us ∧ OnC w lv lk wr) (fun _ _ _ i _ => M - (intOf i).toNat)
      case atStart => exact ⟨0, [], zs, by omega, rfl, rfl, rfl, HR2.out, cown_nil _ _, HB2.out⟩
      case round =>
        obtain ⟨k, lk, us, hk, rfl, rfl, hcs, hrow, hon⟩ := hrel
        obtain ⟨bq, bm, rfl, _⟩ := hrow.lies
        obtain ⟨lq, lm, rfl, _⟩ := own_form hon.own
        have HCS : Hid (cutChs gP k zs = some (lk, us)) := hcs
        have hul := cutChs_len hcs
        have HUL : Hid (us.length ≤ 100000 ∧ lk.length = k ∧ k ≤ 64) := ⟨by have := H2.out.2; omega, hul.1, by have := H2.out.2; omega⟩
        obtain ⟨ul, hul2⟩ : ∃ m, us.length = m := ⟨_, rfl⟩
        obtain ⟨ll, hll2⟩ : ∃ m, lk.length = m := ⟨_, rfl⟩
        have HON : Hid (OnC w (.slice lq ll lm) lk wr) := by rw [hll2] at hon; exact hon
        have HRW : Hid (Row wr (.slice bq ul bm) us) := by rw [hul2] at hrow; exact hrow
        rw [hul2, hll2]
        clear HR2 hcs hul hul2 hll2 hrow hon
        by_cases hkn : k < M
        · have hkI : (k : Int) < (M : Int) := by omega
          have k0 : (0 : Int) ≤ (k : Int) := by omega
          have HKN : Hid (k < M) := hkn
          have hcc := cutChange_any (.slice bq ul bm) us (wr.alloc (.cells #[.string ⟨#[]⟩, .string ⟨#[]⟩, .bool false] 36)) (HRW.out.below (below_alloc _ _)) HUL.out.1 _ rfl
          have HBX : Hid ((wr.alloc (.cells #[.string ⟨#[]⟩, .string ⟨#[]⟩, .bool false] 36)).heap[wr.heap.size]? = some (.cells #[.string ⟨#[]⟩, .string ⟨#[]⟩, .bool false] 36 (0, 0))) := heap_alloc_new _ _
          have HO1 : Hid (OnC w (.slice lq ll lm) lk (wr.alloc (.cells #[.string ⟨#[]⟩, .string ⟨#[]⟩, .bool false] 36))) := HON.out.next (below_alloc _ _)
          clear hk hkn
          go_wp2_with fail
          refine hcc.mono ?_
          rintro e w3 ⟨ca, cb, cg, ok, q3, n3, m3, rfl, hb3, hcase⟩
          have HB3 : Hid (w3.heap[wr.heap.size]? = some (.cells #[.string ⟨#[]⟩, .string ⟨#[]⟩, .bool false] 36 (0, 0))) := (hb3.block _ (lt_heap HBX.out)).trans HBX.out
          have HO3 : Hid (OnC w (.slice lq ll lm) lk w3) := HO1.out.next hb3
          obtain ⟨⟨c0, c1, c2⟩, f0, f1, f2⟩ := cellsF HB3.out
          have HBW : Hid (Below w.heap.size w (set3 w3 wr.heap.size (.string ca) (.string cb) (.bool cg))) := set3_below HO3.out.bel HON.out.bel.size _ _ _
          rcases hcase with ⟨hno, rfl⟩ | ⟨rfl, rest, hyes, hrow3, hfr3⟩
          · have HN : Hid (o = none) := by
              show o = none
              rw [← HO.out]
              refine rec_none3 H1.out.1 H2.out.1 (cutChs_none (k := k + 1) ?_ M HKN.out)
              rw [cutChs, HCS.out]
              simp only
              rw [hno]
            clear hcc hb3 hno
            go_wp2
            go_ret3
            refine ⟨?_, .inl ⟨HN.out, rfl⟩⟩
            repeat' first
              | exact HO3.out.bel
              | refine below_setR _ _ ?_ HON.out.bel.size
          · have HNX : Hid (cutChs gP (k + 1) zs = some (lk ++ [⟨ca, cb, cg⟩], rest)) := by
              show _ = _
              rw [cutChs, HCS.out]
              simp only
              rw [hyes]
            have HR3 : Hid (Row w3 (.slice q3 n3 m3) rest ∧ Fresh wr (.slice q3 n3 m3)) := ⟨hrow3, fun a n m e => by have h := hfr3 a n m e; simp at h; omega⟩
            have HO4 : Hid (OnC w (.slice lq ll lm) lk ((set3 w3 wr.heap.size (.string ca) (.string cb) (.bool cg)).alloc (.cells #[.string ca, .string cb, .bool cg] 36))) := by
              refine OnC.next ⟨World.ownsRow.kept HO3.out.own (set3_grown _ _ _ _ _) ?_, HBW.out⟩ (below_alloc _ _)
              cases hq : (Value.slice lq ll lm).ownBlock with
              | none => exact .inl rfl
              | some kk =>
                have h := (World.ownsRow.lt HON.out.own kk hq).2
                exact .inr (fun e => by simp at e; omega)
            have HR4 : Hid (Row ((set3 w3 wr.heap.size (.string ca) (.string cb) (.bool cg)).alloc (.cells #[.string ca, .string cb, .bool cg] 36)) (.slice q3 n3 m3) rest) := (row_grown HB3.out HR3.out.1 (set3_grown _ _ _ _ _)).below (below_alloc _ _)
            have HC4 : Hid _ := new3 (set3 w3 wr.heap.size (.string ca) (.string cb) (.bool cg)) (.string ca) (.string cb) (.bool cg) 36 w3.heap.size (by simp [set3])
            have HAP : Hid (∀ a n m, (Value.slice q3 n3 m3) = .slice (some a) n m → (Value.slice lq ll lm).ownBlock ≠ some a.block) := by
              intro a n m e e2
              have h := (World.ownsRow.lt HON.out.own _ e2).2
              have h2 := HR3.out.2 a n m e
              omega
            clear hcc hb3 hyes hrow3 hfr3
            go_wp2_with (at_builtin; (refine wpList_append_change _ rfl _ _ rfl w.heap.size (.slice lq ll lm) lk ⟨ca, cb, cg⟩ ⟨w3.heap.size, 0, none⟩ 1 rfl rfl HO4.out.own HC4.out.1 HC4.out.2.1 HC4.out.2.2 (by have := HUL.out; omega) HO4.out.bel.size ?_); intro v5 w5 ho5 hg5; have H5 : Hid (OnC w v5 (lk ++ [⟨ca, cb, cg⟩]) w5) := HO4.out.app hg5 ho5; have HR5 : Hid (Row w5 (.slice q3 n3 m3) rest) := row_apart HR4.out hg5 HAP.out; clear ho5 hg5)
            go_roundw
            case rel => exact ⟨k + 1, _, rest, HKN.out, by go_num, rfl, HNX.out, HR5.out, H5.out⟩
            case measure => have := HKN.out; simp [intOf]; omega
        · have hkI : (M : Int) ≤ (k : Int) := by omega
          obtain rfl : k = M := by omega
          have HN : Hid (o = some (lk, S)) := by
            show o = _
            rw [← HO.out]
            exact rec_some H1.out.1 H2.out.1 HCS.out
          clear hk hkn
          go_wp2
          go_ret3
          exact ⟨HON.out.bel, .inr ⟨lk, S, _, HN.out, rfl, HON.out.own⟩⟩
end Go.Proofs.YtkecajgdmompcaaDoor
namespace Go.Proofs.YtkecajgdmompcaaDoor
open Go.RowKit Go.WideShapes

theorem cutT_size {xs rest : List Nat} {s : ByteArray} (h : cutT xs = some (s, rest)) : s.size ≤ xs.length := by
  unfold cutT at h
  split at h
  · split at h
    · simp only [Option.some.injEq, Prod.mk.injEq] at h
      rw [← h.1, strOf_size, List.length_take, List.length_drop]
      omega
    · cases h
  · cases h
theorem cutCh_size {g : Nat → Bool} {xs rest : List Nat} {c : CV} (h : cutCh g xs = some (c, rest)) : c.key.size ≤ xs.length ∧ c.val.size ≤ xs.length := by
  unfold cutCh at h
  split at h
  · cases h
  · cases h
  · rename_i key b r hc
    have h1 := cutT_size hc
    have h2 := cutT_len hc
    simp only [List.length_cons] at h2
    split at h
    · simp only [Option.some.injEq, Prod.mk.injEq] at h
      rw [← h.1]
      exact ⟨h1, by show (ByteArray.empty).size ≤ _; rw [show (ByteArray.empty).size = 0 from rfl]; omega⟩
    · split at h
      · cases h
      · rename_i v r2 hv
        have h3 := cutT_size hv
        simp only [Option.some.injEq, Prod.mk.injEq] at h
        rw [← h.1]
        exact ⟨h1, by show v.size ≤ _; omega⟩
theorem cutChs_size {g : Nat → Bool} : ∀ {k : Nat} {xs rest : List Nat} {l : List CV}, cutChs g k xs = some (l, rest) → ∀ c ∈ l, c.key.size ≤ xs.length ∧ c.val.size ≤ xs.length
  | 0, xs, rest, l, h => by
    simp only [cutChs, Option.some.injEq, Prod.mk.injEq] at h
    obtain ⟨rfl, rfl⟩ := h
    intro c hc
    cases hc
  | k + 1, xs, rest, l, h => by
    rw [cutChs] at h
    split at h
    · cases h
    · rename_i l1 ys h1
      have ih := cutChs_size h1
      have hl := cutChs_len h1
      split at h
      · cases h
      · rename_i c zs h2
        have hc := cutCh_size h2
        simp only [Option.some.injEq, Prod.mk.injEq] at h
        obtain ⟨rfl, rfl⟩ := h
        intro x hx
        rcases List.mem_append.1 hx with hx | hx
        · exact ih x hx
        · rw [List.mem_singleton.1 hx]
          omega
theorem cutRec_facts {g : Nat → Bool} {xs : List Nat} {l : List CV} {s : Nat} (h : cutRec g xs = some (l, s)) : (∀ c ∈ l, c.key.size ≤ xs.length ∧ c.val.size ≤ xs.length) ∧ l.length ≤ 64 ∧ s ≤ 2147483647 := by
  unfold cutRec at h
  split at h
  · cases h
  · rename_i sq ys h1
    split at h
    · cases h
    · rename_i n zs h2
      split at h
      · cases h
      · rename_i l2 us h3
        simp only [Option.some.injEq, Prod.mk.injEq] at h
        obtain ⟨rfl, rfl⟩ := h
        have e1 := cutNum_le h1
        have e2 := cutNum_le h2
        have e3 := cutChs_len h3
        exact ⟨fun c hc => by have := cutChs_size h3 c hc; omega, by omega, e1.1⟩
theorem readE_no {g : Nat → Bool} {xs : List Nat} (h : cutRec g xs = none) : readE g xs = none := by unfold readE; rw [h]
theorem readE_yes {g : Nat → Bool} {xs : List Nat} {l : List CV} {s : Nat} (h : cutRec g xs = some (l, s)) : readE g xs = if writeE l (s : Int) = (0, xs) then some (l, s) else none := by unfold readE; rw [h]
theorem strOf_back {xs : List Nat} {s : ByteArray} (hx : ∀ c ∈ xs, c < 256) : strOf xs = s ↔ xs = numsOf s := by
  constructor
  · intro h
    have := (strOf_eq hx (numsOf_lt s)).1 (by rw [h, strOf_nums])
    exact this
  · intro h
    rw [h, strOf_nums]
theorem writeE_bytes (l : List CV) (seq : Int) : ∀ c ∈ (writeE l seq).2, c < 256 := by
  intro c hc
  unfold writeE at hc
  repeat' split at hc
  all_goals first | (simp at hc; done) | exact recN_bytes _ _ c hc
/-- What read answers. -/
structure RdP (w : World) (o : Option (List CV × Nat)) (e : Ending) (w' : World) : Prop where
  ex : Below w.heap.size w w' ∧ ((o = none ∧ ∃ ev, e = .returned (.tuple #[.slice none 0 0, .int .i64 0, ev]) ∧ Faults ev 8) ∨ ∃ l seq v, o = some (l, seq) ∧ e = .returned (.tuple #[v, .int .i64 (seq : Nat), .nilIface]) ∧ COwn w' w.heap.size v l)
set_option maxRecDepth 8000 in
set_option maxHeartbeats 4000000 in
theorem read_t (s : ByteArray) (w : World) (hs : s.size ≤ 100000) (o : Option (List CV × Nat)) (ho : readE gP (numsOf s) = o) :
    Calls Tryd.prog 15 #[.string s] w fun e w' => RdP w o e w' := by
  by_cases hlong : 4096 < s.size
  · have hlI : (4096 : Int) < (s.size : Int) := by omega
    have HN : Hid (o = none) := by show o = none; rw [← ho]; exact readE_long (by rw [numsOf_len]; exact hlong)
    clear ho hlong
    go_enter Tryd.func15, Tryd.ntmps15
    go_wp2
    go_ret3
    exact ⟨Below.refl _ _, .inl ⟨HN.out, _, rfl, Faults.one _ _⟩⟩
  have hlI : (s.size : Int) ≤ 4096 := by omega
  obtain ⟨W, cap, hrun, hbW, hcr, hcm⟩ := conv_row s w hs
  have HNL : Hid ((numsOf s).length = s.size ∧ s.size ≤ 4096) := ⟨numsOf_len s, by omega⟩
  obtain ⟨q, hq⟩ : ∃ q, cutRec gP (numsOf s) = q := ⟨_, rfl⟩
  have hcr2 : Row W (.slice (some ⟨w.heap.size, 0, none⟩) s.size cap) (numsOf s) := by
    exact ⟨⟨_, cap, by rw [numsOf_len], hcr.bin, by rw [numsOf_len]; exact hcr.le, hcm, fun h => by cases h⟩⟩
  have hct := cutRecord_any _ (numsOf s) W hcr2 (by rw [numsOf_len]; omega) q hq
  have HQ : Hid (cutRec gP (numsOf s) = q ∧ readE gP (numsOf s) = o) := ⟨hq, ho⟩
  have HBW : Hid (Below w.heap.size w W) := hbW
  clear hcr hcr2 hlong ho hq hbW hcm
  go_enter Tryd.func15, Tryd.ntmps15
  go_wp2_with fail
  refine hct.mono ?_
  rintro e w1 ⟨hb1, hcase⟩
  have HB1 : Hid (Below w.heap.size w w1) := below_bt HBW.out hb1
  rcases hcase with ⟨hq0, rfl⟩ | ⟨l, S, lv, hq1, rfl, hown⟩
  · have HN : Hid (o = none) := by show o = none; rw [← HQ.out.2]; exact readE_no (HQ.out.1.trans hq0)
    clear hct hb1 hq0 hrun
    go_wp2
    go_ret3
    exact ⟨HB1.out, .inl ⟨HN.out, _, rfl, Faults.one _ _⟩⟩
  · have HC : Hid (cutRec gP (numsOf s) = some (l, S)) := HQ.out.1.trans hq1
    have hfc := cutRec_facts HC.out
    obtain ⟨lq, lm, rfl, hlm, _, _⟩ := own_form hown
    have HOW : Hid (COwn w1 w.heap.size (.slice lq l.length lm) l) := own_mono hown HBW.out.size
    have hwr := write_any lq l.length lm l (S : Int) w1 (COwn.cs hown) rfl hlm (by omega) (fun x hx => by have := hfc.1 x hx; have := HNL.out; omega) _ rfl
    have HWB : Hid (∀ c ∈ (writeE l (S : Int)).2, c < 256) := writeE_bytes l _
    have HRE : Hid (o = if writeE l (S : Int) = (0, numsOf s) then some (l, S) else none) := by show o = _; rw [← HQ.out.2]; exact readE_yes HC.out
    obtain ⟨r, hr⟩ : ∃ r, writeE l (S : Int) = r := ⟨_, rfl⟩
    rw [hr] at hwr HWB HRE
    obtain ⟨ll, hll⟩ : ∃ m, l.length = m := ⟨_, rfl⟩
    rw [hll] at HOW hwr ⊢
    clear hct hb1 hq1 hrun hown hfc hr hlm hll
    go_wp2_with fail
    refine hwr.mono ?_
    rintro e w2 ⟨ev, rfl, hev, hb2⟩
    have HB2 : Hid (Below w.heap.size w w2) := below_bt HB1.out hb2
    have HO2 : Hid (COwn w2 w.heap.size (.slice lq ll lm) l) := HOW.out.below hb2
    obtain ⟨re, rb⟩ := r
    rcases hev with ⟨h0, rfl⟩ | ⟨h0, hfa⟩
    · simp only at h0 HWB
      subst h0
      by_cases hst : strOf rb = s
      · have hb : ((strOf rb).toList == s.toList) = true := by rw [eq_strF]; simpa using hst
        have HN : Hid (o = some (l, S)) := HRE.out.trans (if_pos (by rw [(strOf_back HWB.out).1 hst]))
        clear hwr hb2 hst
        go_wp2
        go_ret3
        exact ⟨HB2.out, .inr ⟨l, S, _, HN.out, rfl, HO2.out⟩⟩
      · have hb : ((strOf rb).toList == s.toList) = false := by rw [eq_strF]; simpa using hst
        have HN : Hid (o = none) := HRE.out.trans (if_neg (fun h => hst ((strOf_back HWB.out).2 (by simpa using h))))
        clear hwr hb2 hst
        go_wp2
        go_ret3
        exact ⟨HB2.out, .inl ⟨HN.out, _, rfl, Faults.one _ _⟩⟩
    · have HN : Hid (o = none) := HRE.out.trans (if_neg (fun h => h0 (by simpa using congrArg Prod.fst h)))
      obtain ⟨T, vv, rfl⟩ := hfa.iface
      clear hwr hb2 h0 hfa
      go_wp2
      go_ret3
      exact ⟨HB2.out, .inl ⟨HN.out, _, rfl, Faults.one _ _⟩⟩
/-- What Read answers: changes, number, error's number. -/
structure RdN (w : World) (o : Option (List CV × Nat)) (e : Ending) (w' : World) : Prop where
  ex : ∃ v, e = .returned (.tuple #[v, .int .i64 ((o.map Prod.snd).getD 0 : Nat), .int .i64 (if o.isSome = true then 0 else 8)]) ∧ COwn w' w.heap.size v ((o.map Prod.fst).getD []) ∧ Below w.heap.size w w'
set_option maxRecDepth 8000 in
set_option maxHeartbeats 4000000 in
theorem Read_t (s : ByteArray) (w : World) (hs : s.size ≤ 100000) (o : Option (List CV × Nat)) (ho : readE gP (numsOf s) = o) :
    Calls Tryd.prog 7 #[.string s] w fun e w' => RdN w o e w' := by
  have hr := read_t s w hs o ho
  clear ho
  go_enter Tryd.func7, Tryd.ntmps7
  go_wp2_with fail
  refine hr.mono ?_
  rintro e w1 ⟨hb1, hcase⟩
  have HB1 : Hid (Below w.heap.size w w1) := hb1
  rcases hcase with ⟨rfl, ev, rfl, hfa⟩ | ⟨l, S, lv, rfl, rfl, hown⟩
  · have hnum := numberOf_any ev 8 (.inr ⟨by decide, hfa⟩) (by decide) w1
    obtain ⟨T, vv, rfl⟩ := hfa.iface
    clear hr hb1 hfa
    go_wp2_with fail
    refine hnum.mono ?_
    rintro e w2 ⟨rfl, hb2⟩
    go_wp2
    go_ret3
    exact ⟨⟨_, rfl, cown_nil _ _, below_bt HB1.out hb2⟩⟩
  · have hnum := numberOf_any .nilIface 0 (.inl ⟨rfl, rfl⟩) (by decide) w1
    have HOW : Hid (COwn w1 w.heap.size lv l) := hown
    obtain ⟨lq, lm, rfl, _⟩ := own_form hown
    obtain ⟨ll, hll⟩ : ∃ m, l.length = m := ⟨_, rfl⟩
    rw [hll] at HOW ⊢
    clear hr hb1 hown hll
    go_wp2_with fail
    refine hnum.mono ?_
    rintro e w2 ⟨rfl, hb2⟩
    go_wp2
    go_ret3
    exact ⟨⟨_, rfl, HOW.out.below hb2, below_bt HB1.out hb2⟩⟩
end Go.Proofs.YtkecajgdmompcaaDoor
