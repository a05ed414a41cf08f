/-
  A log that is being emptied has, wherever the power is lost, the records of before or none, and none behind all acts: at any disk with a log on which no write waits, any place and choice (of larger disks, and of choices of more than 10,000, the statement asks nothing).
-/
import Derived.Test.YtkjooekicbghdabRows
import Derived.Test.YtkjooekicbghdabJ09
import Derived.WalkKit
import Derived.ProofKit
import Derived.OpenShut
import Derived.ShutString
import Derived.ChangeOld
import Derived.Below
namespace Go.Proofs.Ytkjooekicbghdab.logEmptied
open Go.ChangeShapes Go.WideShapes Go.ChangeAt Go.RowKit
open Go.ChangeMaps (open_string shut_string)
set_option linter.unusedVariables false

theorem own : ownKnob Try.prog.godebug = none := by kernel_rfl
theorem laidOut : laidOutB Try.prog = true := by kernel_rfl

set_option maxRecDepth 8000 in
set_option maxHeartbeats 1000000 in
theorem walk_early (p q : Option Addr) (c m : Nat) (count : Int) (data : List Nat) (ws : Puts) (z : Int) (ql : Option Addr) (nl ml : Nat) (w : World) (hd : DiskIn w (.agg #[.int .i64 count, .slice p data.length c, .slice q ws.length m]) count data ws)
    (h : largeL count data ws ∨ (¬ largeL count data ws ∧ 0 < ws.length) ∨ (¬ largeL count data ws ∧ ws.length = 0 ∧ (10000 : Int) < (nl : Int))) :
    Calls Try.prog 3 #[.agg #[.int .i64 count, .slice p data.length c, .slice q ws.length m], .int .i64 z, .slice ql nl ml] w fun e w' => e = .returned (.bool true) ∧ Below w.heap.size w w' := by
  have HD : Hid _ := hd
  clear hd
  obtain ⟨zl, hzl⟩ : ∃ zl, ws.length = zl := ⟨_, rfl⟩
  rw [hzl] at HD h ⊢
  clear hzl
  rcases h with h1 | ⟨h1, h2⟩ | ⟨h1, h2, h3⟩
  · have HLG : Hid (decide (largeL count data ws) = true) := decide_eq_true h1
    clear h1
    go_enter Try.func3, Try.ntmps3
    go_wp2_with fail
    refine (alive_any _).mono ?_
    rintro e w1 ⟨rfl, hb1⟩
    have HX1 : Hid (w1.heap[w.heap.size]? = some (.cells #[.int .i64 count, .slice p data.length c, .slice q zl m] 25 (0, 0))) := (hb1.block _ (by simp)).trans (heap_alloc_new w _)
    have HB1 : Hid (Below w.heap.size w w1) := below_bt (below_alloc w _) hb1
    clear hb1
    obtain ⟨c0, c1, c2, _⟩ := box3 HX1.out
    go_wp2_with fail
    refine (large5_any _ count data ws _ (HD.out.below HB1.out)).mono ?_
    rintro e w2 ⟨rfl, hb2⟩
    rw [HLG.out]
    have HB2 : Hid (Below w.heap.size w w2) := below_bt HB1.out hb2
    clear hb2 c0 c1 c2
    go_wp2
    go_ret
    exact ⟨rfl, HB2.out⟩
  · have HLG : Hid (decide (largeL count data ws) = false) := decide_eq_false h1
    have g2 : decide ((0 : Int) < (zl : Int)) = true := decide_eq_true (by omega)
    have g2' : decide (0 < zl) = true := decide_eq_true (by omega)
    clear h1
    go_enter Try.func3, Try.ntmps3
    go_wp2_with fail
    refine (alive_any _).mono ?_
    rintro e w1 ⟨rfl, hb1⟩
    have HX1 : Hid (w1.heap[w.heap.size]? = some (.cells #[.int .i64 count, .slice p data.length c, .slice q zl m] 25 (0, 0))) := (hb1.block _ (by simp)).trans (heap_alloc_new w _)
    have HB1 : Hid (Below w.heap.size w w1) := below_bt (below_alloc w _) hb1
    clear hb1
    obtain ⟨c0, c1, c2, _⟩ := box3 HX1.out
    go_wp2_with fail
    refine (large5_any _ count data ws _ (HD.out.below HB1.out)).mono ?_
    rintro e w2 ⟨rfl, hb2⟩
    rw [HLG.out]
    have HX2 : Hid (w2.heap[w.heap.size]? = some (.cells #[.int .i64 count, .slice p data.length c, .slice q zl m] 25 (0, 0))) := (hb2.block _ (lt_heap HX1.out)).trans HX1.out
    have HB2 : Hid (Below w.heap.size w w2) := below_bt HB1.out hb2
    clear hb2 c0 c1 c2
    obtain ⟨c0, c1, c2, _⟩ := box3 HX2.out
    go_wp2
    go_ret
    exact ⟨rfl, HB2.out⟩
  · have HLG : Hid (decide (largeL count data ws) = false) := decide_eq_false h1
    subst h2
    have g3 : decide ((10000 : Int) < (nl : Int)) = true := decide_eq_true (by omega)
    clear h1 h3
    go_enter Try.func3, Try.ntmps3
    go_wp2_with fail
    refine (alive_any _).mono ?_
    rintro e w1 ⟨rfl, hb1⟩
    have HX1 : Hid (w1.heap[w.heap.size]? = some (.cells #[.int .i64 count, .slice p data.length c, .slice q 0 m] 25 (0, 0))) := (hb1.block _ (by simp)).trans (heap_alloc_new w _)
    have HB1 : Hid (Below w.heap.size w w1) := below_bt (below_alloc w _) hb1
    clear hb1
    obtain ⟨c0, c1, c2, _⟩ := box3 HX1.out
    go_wp2_with fail
    refine (large5_any _ count data ws _ (HD.out.below HB1.out)).mono ?_
    rintro e w2 ⟨rfl, hb2⟩
    rw [HLG.out]
    have HX2 : Hid (w2.heap[w.heap.size]? = some (.cells #[.int .i64 count, .slice p data.length c, .slice q 0 m] 25 (0, 0))) := (hb2.block _ (lt_heap HX1.out)).trans HX1.out
    have HB2 : Hid (Below w.heap.size w w2) := below_bt HB1.out hb2
    clear hb2 c0 c1 c2
    obtain ⟨c0, c1, c2, _⟩ := box3 HX2.out
    go_wp2
    go_ret
    exact ⟨rfl, HB2.out⟩
/-- Records and Clear on any disk without waits, as values. -/
theorem Records_v (v : Value) (count : Int) (data : List Nat) (w : World) (hd : DiskIn w v count data []) (er : Int) (he : errL count data [] = er) :
    Calls Try.prog 7 #[v] w fun e w' => ∃ q n c, e = .returned (.tuple #[.slice q n c, .int .i64 er]) ∧ Below w.heap.size w w' := by
  by_cases h : er = 0
  · subst h
    obtain ⟨h1, h2⟩ := errL_ok he
    refine (Records_ok v count data [] w hd h1 _ rfl h2).mono ?_
    rintro e w' ⟨rv, l, a, la, t, rfl, _, hown, hb⟩
    obtain ⟨q, c, rfl, _⟩ := own_form hown
    exact ⟨q, _, c, rfl, hb⟩
  · exact (Records_err v count data [] w hd er he h).mono fun e w' ⟨h1, hb⟩ => ⟨none, 0, 0, h1, hb⟩
theorem Clear_v (v : Value) (count : Int) (data : List Nat) (w : World) (hd : DiskIn w v count data []) (er : Int) (he : errC5 count data [] = er) :
    Calls Try.prog 8 #[v] w fun e w' => ∃ q n c, e = .returned (.tuple #[.slice q n c, .int .i64 er]) ∧ (er = 0 → n = 2) ∧ Below w.heap.size w w' := by
  by_cases h : er = 0
  · subst h
    obtain ⟨h1, h2⟩ := errC5_ok he
    refine (Clear_ok v count data [] w hd h1 _ rfl h2).mono ?_
    rintro e w' ⟨uv, ul, rfl, ua, um, ub⟩
    obtain ⟨q, c, rfl, _, _⟩ := ua.form
    exact ⟨q, _, c, rfl, fun _ => by have := congrArg List.length um; simpa [clearActs] using this, ub⟩
  · exact (Clear_bad v count data [] w hd er he h).mono fun e w' ⟨h1, hb⟩ => ⟨none, 0, 0, h1, fun h' => absurd h' h, hb⟩
set_option maxRecDepth 8000 in
set_option maxHeartbeats 1000000 in
theorem walk_late (p q : Option Addr) (c m : Nat) (count : Int) (data : List Nat) (z : Int) (ql : Option Addr) (nl ml : Nat) (w : World) (hd : DiskIn w (.agg #[.int .i64 count, .slice p data.length c, .slice q 0 m]) count data []) (hlg : ¬ largeL count data []) (hk : (nl : Int) ≤ 10000)
    (h : errL count data [] ≠ 0 ∨ errC5 count data [] ≠ 0 ∨ z < 0 ∨ 2 < z) :
    Calls Try.prog 3 #[.agg #[.int .i64 count, .slice p data.length c, .slice q 0 m], .int .i64 z, .slice ql nl ml] w fun e w' => e = .returned (.bool true) ∧ Below w.heap.size w w' := by
  have HD : Hid _ := hd
  have HLG : Hid (decide (largeL count data []) = false) := decide_eq_false hlg
  obtain ⟨er, her⟩ : ∃ er, errL count data [] = er := ⟨_, rfl⟩
  obtain ⟨ec, hec⟩ : ∃ ec, errC5 count data [] = ec := ⟨_, rfl⟩
  rw [her, hec] at h
  have HE : Hid (errL count data [] = er ∧ errC5 count data [] = ec) := ⟨her, hec⟩
  have g0 : decide ((10000 : Int) < (nl : Int)) = false := decide_eq_false (by omega)
  clear hd hlg her hec hk
  go_enter Try.func3, Try.ntmps3
  go_wp2_with fail
  refine (alive_any _).mono ?_
  rintro e w1 ⟨rfl, hb1⟩
  have HX1 : Hid (w1.heap[w.heap.size]? = some (.cells #[.int .i64 count, .slice p data.length c, .slice q 0 m] 25 (0, 0))) := (hb1.block _ (by simp)).trans (heap_alloc_new w _)
  have HB1 : Hid (Below w.heap.size w w1) := below_bt (below_alloc w _) hb1
  clear hb1
  obtain ⟨c0, c1, c2, _⟩ := box3 HX1.out
  go_wp2_with fail
  refine (large5_any _ count data [] _ (HD.out.below HB1.out)).mono ?_
  rintro e w2 ⟨rfl, hb2⟩
  rw [HLG.out]
  have HX2 : Hid (w2.heap[w.heap.size]? = some (.cells #[.int .i64 count, .slice p data.length c, .slice q 0 m] 25 (0, 0))) := (hb2.block _ (lt_heap HX1.out)).trans HX1.out
  have HB2 : Hid (Below w.heap.size w w2) := below_bt HB1.out hb2
  clear hb2 c0 c1 c2
  obtain ⟨c0, c1, c2, _⟩ := box3 HX2.out
  go_wp2_with fail
  refine (Records_v _ count data _ (HD.out.below HB2.out) er HE.out.1).mono ?_
  rintro e w3 ⟨rq, rn, rm, rfl, hb3⟩
  have HX3 : Hid (w3.heap[w.heap.size]? = some (.cells #[.int .i64 count, .slice p data.length c, .slice q 0 m] 25 (0, 0))) := (hb3.block _ (lt_heap HX2.out)).trans HX2.out
  have HB3 : Hid (Below w.heap.size w w3) := below_bt HB2.out hb3
  clear hb3 c0 c1 c2
  obtain ⟨c0, c1, c2, _⟩ := box3 HX3.out
  go_wp2_with fail
  refine (Clear_v _ count data _ (HD.out.below HB3.out) ec HE.out.2).mono ?_
  rintro e w4 ⟨uq, un, um, rfl, hun, hb4⟩
  have HB4 : Hid (Below w.heap.size w w4) := below_bt HB3.out hb4
  clear hb4 c0 c1 c2
  by_cases h1 : er = 0
  · subst h1
    by_cases h2 : ec = 0
    · subst h2
      obtain rfl := hun rfl
      by_cases h3 : z < 0
      · clear h hun
        go_wp2
        go_ret
        exact ⟨rfl, HB4.out⟩
      · have h4 : 2 < z := by omega
        clear h hun
        go_wp2
        go_ret
        exact ⟨rfl, HB4.out⟩
    · have g2 : (ec != 0) = true := by simpa using h2
      clear h hun h2
      go_wp2
      go_ret
      exact ⟨rfl, HB4.out⟩
  · have g1 : (er != 0) = true := by simpa using h1
    clear h hun h1
    go_wp2
    go_ret
    exact ⟨rfl, HB4.out⟩
theorem walk (v : Value) (count : Int) (data : List Nat) (ws : Puts) (z : Int) (vl : Value) (ql : Option Addr) (keep : List Bool) (cl : Nat) (w : World) (hd : DiskIn w v count data ws) (wz : (Lit.int .i64 z).wf = true) (hvl : vl = .slice ql keep.length cl) (hl : BoolsIn w ql keep) (hle : keep.length ≤ cl) (hlm : cl ≤ maxLen) :
    Calls Try.prog 3 #[v, .int .i64 z, vl] w fun e w' => e = .returned (.bool true) ∧ Below w.heap.size w w' := by
  subst hvl
  obtain ⟨p, c, q, m, rfl, _⟩ := hd.parts
  by_cases h1 : largeL count data ws
  · exact walk_early p q c m count data ws z ql keep.length cl w hd (.inl h1)
  · by_cases h2 : 0 < ws.length
    · exact walk_early p q c m count data ws z ql keep.length cl w hd (.inr (.inl ⟨h1, h2⟩))
    · by_cases h3 : (10000 : Int) < (keep.length : Int)
      · exact walk_early p q c m count data ws z ql keep.length cl w hd (.inr (.inr ⟨h1, by omega, h3⟩))
      · obtain rfl : ws = [] := List.eq_nil_of_length_eq_zero (by omega)
        by_cases h4 : errL count data [] ≠ 0 ∨ errC5 count data [] ≠ 0 ∨ z < 0 ∨ 2 < z
        · exact walk_late p q c m count data z ql keep.length cl w hd h1 (by omega) h4
        · have h5 : errL count data [] = 0 := Classical.byContradiction fun h => h4 (.inl h)
          have h6 : errC5 count data [] = 0 := Classical.byContradiction fun h => h4 (.inr (.inl h))
          have h7 : 0 ≤ z ∧ z ≤ 2 := ⟨by omega, by omega⟩
          obtain ⟨n, rfl⟩ : ∃ n : Nat, z = n := ⟨z.toNat, by omega⟩
          exact empt_main _ count data n ql keep.length cl keep w hd h1 h5 (errC5_ok h6).2 (by omega) rfl hl (by omega)

/-! ### THE ROW's STEP -/
set_option maxRecDepth 100000 in
theorem lifted (os : Os) (started : os.Started) (H : Type) (enc : TypeId × Value → H) :
    ReturnsInHanded {} Try.checked os 3 .any (Rows.logEmptiedSpec.pre6 enc Try.prog Try.f3 Rows.logEmptiedRow.domain false) (Rows.logEmptiedSpec.post enc Try.prog Try.f3 false true false false) := by
  refine returnsInHanded_of_change (C := Try.checked) own started (by kernel_rfl) Try.func3
    (ChangeSpec.witness6 (enc := enc) (C := Try.checked) false ⟨#[], #[.agg #[.int .i64 0, .slice none 0 0, .slice none 0 0], .int .i64 0, .slice none 0 0], []⟩ 8 (by kernel_rfl) (by kernel_rfl) (by kernel_rfl) (by kernel_rfl)) ?_
  intro W base args ds gs before hval0 hW hcnd _
  have hval : ∀ (j : Nat) t v, Try.f3.params[j]? = some t → args[j]? = some v → Value.okWide Try.prog W .any base t v := hval0
  have hW' := hW
  obtain ⟨p, q, hA0, hV, rfl, hfz, hnd⟩ := hW
  have hA : DataW.TrodAll enc Try.prog W 0 (fun _ => true) true Try.f3.params.toList args.toList ds p := hA0
  rw [Try.params3] at hA hval
  obtain ⟨v0, vs0, d0, ds0, p0, q0, hargs, rfl, rfl, h0, r0⟩ := trodAll_cons hA
  obtain ⟨v1, vs1, d1, ds1, p1, q1, rfl, rfl, rfl, h1, r1⟩ := trodAll_cons r0
  obtain ⟨v2, vs2, d2, ds2, p2, q2, rfl, rfl, rfl, h2, r2⟩ := trodAll_cons r1
  obtain ⟨rfl, rfl, rfl⟩ := trodAll_nil r2
  obtain rfl : args = #[v0, v1, v2] := by cases args; simp_all
  obtain ⟨rfl, rfl⟩ := trodVars_none hV
  have k0 := h0
  have lt0 : ∀ x ∈ p0, x.block < W.heap.size := by obtain ⟨m, hm⟩ := k0; exact DataW.trod_lt m _ _ _ hm
  obtain ⟨count0, data0, ws0, w0⟩ := open_disk (tD := 25) (t := 23) (e := 60) (tb := 22) (eb := 5) Try.underlying25 (by kernel_rfl) (by kernel_rfl) Try.underlying3 rfl rfl Try.underlying23 Try.underlying60 (by kernel_rfl) rfl rfl (by kernel_rfl) (by kernel_rfl) Try.underlying3 rfl Try.underlying22 Try.underlying5 (by kernel_rfl) (hval 0 25 v0 rfl rfl) h0
  obtain ⟨a1, rfl, rfl, rfl, w1⟩ := open_int Try.underlying3 (hval 1 3 v1 rfl rfl) h1
  have k2 := h2
  have lt2 : ∀ x ∈ p2, x.block < W.heap.size := by obtain ⟨m, hm⟩ := k2; exact DataW.trod_lt m _ _ _ hm
  obtain ⟨qa2, la2, ca2, rfl⟩ := okWide_slice Try.underlying26 (hval 2 26 v2 rfl rfl)
  obtain ⟨fu2, hf2⟩ := h2
  obtain ⟨q2b, bs2, c2b, e2, w2a, w2b, w2c, w2d⟩ := open_bools Try.underlying26 Try.underlying4 (by kernel_rfl) hf2
  clear hA0 hval0
  refine (walk v0 count0 data0 ws0 a1 (.slice qa2 la2 ca2) q2b bs2 c2b W w0 w1 e2 w2a w2b w2c).mono fun e W' ⟨he, bel⟩ => ?_
  subst he
  exact ⟨_, rfl, _, _, _, [], _, [], hW', trodAll_mk1 (shut_bool Try.underlying4 _), (trodAll_cons_mk (Below.trod laidOut (by kernel_rfl) (of_decide_eq_true (by kernel_rfl)) k0 bel lt0) (trodAll_cons_mk (shut_int Try.underlying3 w1) (trodAll_cons_mk (Below.trod laidOut (by kernel_rfl) (of_decide_eq_true (by kernel_rfl)) k2 bel lt2) trodAll_mk0))), rfl, bel.frame _, fun h => by cases h⟩

theorem over : Rows.logEmptiedRow.holds Try.pinned (OpenSpec.ofChange Rows.logEmptiedSpec) :=
  OpenClaim.holds_of_wide 3 Try.f3 rfl rfl rfl rfl rfl rfl rfl ⟨rfl, rfl, rfl, rfl, rfl⟩ rfl rfl rfl rfl rfl (by kernel_rfl) Try.func3 (by kernel_rfl)
    (of_decide_eq_true (by kernel_rfl)) (by unfold Func.isWrapper; first | (rw [if_pos (by decide +kernel)]; kernel_rfl) | (rw [if_neg (by decide +kernel)]; exact ⟨rfl, rfl⟩))
    (fun os started H enc _ => lifted os started H enc)

theorem proved : Rows.LogEmptiedSaid := over
end Go.Proofs.Ytkjooekicbghdab.logEmptied
namespace Go.Proofs.Ytkjooekicbghdab
theorem logEmptied_holds : Rows.LogEmptiedSaid := logEmptied.proved
#print axioms logEmptied_holds
end Go.Proofs.Ytkjooekicbghdab
