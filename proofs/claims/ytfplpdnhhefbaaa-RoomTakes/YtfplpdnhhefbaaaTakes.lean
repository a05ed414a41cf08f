/-
  Free sectors are told and taken as the document says, at any numbers and any list of pieces (of more than 5,000 pieces the statement asks nothing); what is handed in stays. No other condition.
-/
import Derived.Test.YtfplpdnhhefbaaaRows
import Derived.Test.YtfplpdnhhefbaaaPAppend
import Derived.Test.YtfplpdnhhefbaaaRpMany
import Derived.WalkKit
import Derived.ProofKit
import Derived.OpenShut
import Derived.ShutString
import Derived.ChangeOld
import Derived.Below
namespace Go.Proofs.Ytfplpdnhhefbaaa.roomTakes
open Go.ChangeShapes Go.WideShapes Go.ChangeAt Go.RowKit
open Go.ChangeMaps (open_string shut_string)
set_option linter.unusedVariables false

theorem own : ownKnob Try.prog.godebug = none := by kernel_rfl
theorem laidOut : laidOutB Try.prog = true := by kernel_rfl

open Go.Joins

set_option maxHeartbeats 800000 in
theorem walk (first count : Int) (v : Value) (l : Pcs) (many : Int) (w : World) (w0 : (Lit.int .i64 first).wf = true) (w1 : (Lit.int .i64 count).wf = true) (hl : PIn w v l) (w3 : (Lit.int .i64 many).wf = true) :
    Calls Try.prog 4 #[.int .i64 first, .int .i64 count, v, .int .i64 many] w fun e w' => e = .returned (.bool true) ∧ Below w.heap.size w w' := by
  obtain ⟨q, c, rfl, hq, hlc, hcm, hqn⟩ := hl.lies
  clear w0 w1 w3
  unfold maxLen at hcm
  by_cases h5 : l.length ≤ 5000
  · have HL0 : Hid (PIn w (.slice q l.length c) l) := hl
    clear hl
    go_enter Try.func4, Try.ntmps4
    go_wp2_with (at_builtin; refine wpList_append_pcs _ rfl _ _ rfl w.heap.size (.slice none 0 0) [] l q l.length c rfl rfl rfl (pown_nil _ _) hq hqn (by simp; omega) (Nat.le_refl _) ?_)
    intro vo wa hown hgrow
    have hba : Below w.heap.size w wa := (Below.refl _ _).grown hgrow (Nat.le_refl _) (fun k hk => by simp [Value.ownBlock] at hk)
    have HL : Hid (PIn wa (.slice q l.length c) l) := HL0.out.below hba
    have HO : Hid (PIn wa vo l) := hown.pin HL0.out.wf
    have bel : Below w.heap.size w wa := hba
    clear hown hgrow hba HL0 hq hqn
    go_wp2_with fail
    refine (free_any first count vo l _ HO.out).mono ?_
    rintro e w1 ⟨q1, c1, rfl, ho1, hb1⟩
    replace HL : Hid (PIn w1 (.slice q l.length c) l) := HL.out.below hb1
    replace HO : Hid (PIn w1 vo l) := HO.out.below hb1
    replace bel : Below w.heap.size w w1 := below_bt bel hb1
    have FA : Hid (PIn w1 (.slice q1 (resF first count l).length c1) (resF first count l)) := ho1.pin (wf_resF _ _ _)
    clear ho1
    go_wp2_with fail
    refine (rfree_any first count _ l _ HL.out).mono ?_
    rintro e w2 ⟨q2, c2, rfl, ho2, hb2⟩
    replace HL : Hid (PIn w2 (.slice q l.length c) l) := HL.out.below hb2
    replace HO : Hid (PIn w2 vo l) := HO.out.below hb2
    replace FA : Hid (PIn w2 (.slice q1 (resF first count l).length c1) (resF first count l)) := FA.out.below hb2
    replace bel : Below w.heap.size w w2 := below_bt bel hb2
    have FB : Hid (PIn w2 (.slice q2 (resF first count l).length c2) (resF first count l)) := ho2.pin (wf_resF _ _ _)
    clear ho2
    go_wp2_with fail
    refine (take_any first count vo l many _ HO.out).mono ?_
    rintro e w3 ⟨q3, c3, rfl, ho3, hb3⟩
    replace HL : Hid (PIn w3 (.slice q l.length c) l) := HL.out.below hb3
    replace HO : Hid (PIn w3 vo l) := HO.out.below hb3
    replace FA : Hid (PIn w3 (.slice q1 (resF first count l).length c1) (resF first count l)) := FA.out.below hb3
    replace FB : Hid (PIn w3 (.slice q2 (resF first count l).length c2) (resF first count l)) := FB.out.below hb3
    replace bel : Below w.heap.size w w3 := below_bt bel hb3
    have FC : Hid (PIn w3 (.slice q3 (resT first count l many).length c3) (resT first count l many)) := ho3.pin (wf_resT _ _ _ _)
    clear ho3
    go_wp2_with fail
    refine (rtake_any first count _ l many _ HL.out).mono ?_
    rintro e w4 ⟨q4, c4, rfl, ho4, hb4⟩
    replace HL : Hid (PIn w4 (.slice q l.length c) l) := HL.out.below hb4
    replace HO : Hid (PIn w4 vo l) := HO.out.below hb4
    replace FA : Hid (PIn w4 (.slice q1 (resF first count l).length c1) (resF first count l)) := FA.out.below hb4
    replace FB : Hid (PIn w4 (.slice q2 (resF first count l).length c2) (resF first count l)) := FB.out.below hb4
    replace FC : Hid (PIn w4 (.slice q3 (resT first count l many).length c3) (resT first count l many)) := FC.out.below hb4
    replace bel : Below w.heap.size w w4 := below_bt bel hb4
    have FD : Hid (PIn w4 (.slice q4 (resT first count l many).length c4) (resT first count l many)) := ho4.pin (wf_resT _ _ _ _)
    clear ho4
    go_wp2_with fail
    refine (check_any count vo l _ HO.out).mono ?_
    rintro e w5 ⟨rfl, hb5⟩
    replace HL : Hid (PIn w5 (.slice q l.length c) l) := HL.out.below hb5
    replace HO : Hid (PIn w5 vo l) := HO.out.below hb5
    replace FA : Hid (PIn w5 (.slice q1 (resF first count l).length c1) (resF first count l)) := FA.out.below hb5
    replace FB : Hid (PIn w5 (.slice q2 (resF first count l).length c2) (resF first count l)) := FB.out.below hb5
    replace FC : Hid (PIn w5 (.slice q3 (resT first count l many).length c3) (resT first count l many)) := FC.out.below hb5
    replace FD : Hid (PIn w5 (.slice q4 (resT first count l many).length c4) (resT first count l many)) := FD.out.below hb5
    replace bel : Below w.heap.size w w5 := below_bt bel hb5
    go_wp2_with fail
    refine (rcheck_any count _ l _ HL.out).mono ?_
    rintro e w6 ⟨rfl, hb6⟩
    replace HL : Hid (PIn w6 (.slice q l.length c) l) := HL.out.below hb6
    replace HO : Hid (PIn w6 vo l) := HO.out.below hb6
    replace FA : Hid (PIn w6 (.slice q1 (resF first count l).length c1) (resF first count l)) := FA.out.below hb6
    replace FB : Hid (PIn w6 (.slice q2 (resF first count l).length c2) (resF first count l)) := FB.out.below hb6
    replace FC : Hid (PIn w6 (.slice q3 (resT first count l many).length c3) (resT first count l many)) := FC.out.below hb6
    replace FD : Hid (PIn w6 (.slice q4 (resT first count l many).length c4) (resT first count l many)) := FD.out.below hb6
    replace bel : Below w.heap.size w w6 := below_bt bel hb6
    have he1 : (errK count l == errK count l) = true := by simp
    have he2 : (errF first count l == errF first count l) = true := by simp
    have he3 : (errT first count l many == errT first count l many) = true := by simp
    go_wp2_with fail
    refine (rsame_any _ _ (resF first count l) (resF first count l) _ FA.out FB.out).mono ?_
    rintro e w7 ⟨rfl, hb7⟩
    rw [sameB_yes rfl]
    replace HL : Hid (PIn w7 (.slice q l.length c) l) := HL.out.below hb7
    replace HO : Hid (PIn w7 vo l) := HO.out.below hb7
    replace FA : Hid (PIn w7 (.slice q1 (resF first count l).length c1) (resF first count l)) := FA.out.below hb7
    replace FB : Hid (PIn w7 (.slice q2 (resF first count l).length c2) (resF first count l)) := FB.out.below hb7
    replace FC : Hid (PIn w7 (.slice q3 (resT first count l many).length c3) (resT first count l many)) := FC.out.below hb7
    replace FD : Hid (PIn w7 (.slice q4 (resT first count l many).length c4) (resT first count l many)) := FD.out.below hb7
    replace bel : Below w.heap.size w w7 := below_bt bel hb7
    go_wp2_with fail
    refine (rsame_any _ _ (resT first count l many) (resT first count l many) _ FC.out FD.out).mono ?_
    rintro e w8 ⟨rfl, hb8⟩
    rw [sameB_yes rfl]
    replace HL : Hid (PIn w8 (.slice q l.length c) l) := HL.out.below hb8
    replace HO : Hid (PIn w8 vo l) := HO.out.below hb8
    replace FA : Hid (PIn w8 (.slice q1 (resF first count l).length c1) (resF first count l)) := FA.out.below hb8
    replace FB : Hid (PIn w8 (.slice q2 (resF first count l).length c2) (resF first count l)) := FB.out.below hb8
    replace FC : Hid (PIn w8 (.slice q3 (resT first count l many).length c3) (resT first count l many)) := FC.out.below hb8
    replace FD : Hid (PIn w8 (.slice q4 (resT first count l many).length c4) (resT first count l many)) := FD.out.below hb8
    replace bel : Below w.heap.size w w8 := below_bt bel hb8
    go_wp2_with fail
    refine (rsame_any _ _ (l) (l) _ HO.out HL.out).mono ?_
    rintro e w9 ⟨rfl, hb9⟩
    rw [sameB_yes rfl]
    replace HL : Hid (PIn w9 (.slice q l.length c) l) := HL.out.below hb9
    replace HO : Hid (PIn w9 vo l) := HO.out.below hb9
    replace FA : Hid (PIn w9 (.slice q1 (resF first count l).length c1) (resF first count l)) := FA.out.below hb9
    replace FB : Hid (PIn w9 (.slice q2 (resF first count l).length c2) (resF first count l)) := FB.out.below hb9
    replace FC : Hid (PIn w9 (.slice q3 (resT first count l many).length c3) (resT first count l many)) := FC.out.below hb9
    replace FD : Hid (PIn w9 (.slice q4 (resT first count l many).length c4) (resT first count l many)) := FD.out.below hb9
    replace bel : Below w.heap.size w w9 := below_bt bel hb9
    go_wp2
    go_ret
    exact ⟨rfl, bel⟩
  · go_enter Try.func4, Try.ntmps4
    go_wp2
    go_ret
    exact ⟨rfl, Below.refl _ _⟩

/-! ### THE ROW's STEP -/
set_option maxRecDepth 100000 in
theorem lifted (os : Os) (started : os.Started) (H : Type) (enc : TypeId × Value → H) :
    ReturnsInHanded {} Try.checked os 4 .any (Rows.roomTakesSpec.pre6 enc Try.prog Try.f4 Rows.roomTakesRow.domain false) (Rows.roomTakesSpec.post enc Try.prog Try.f4 false true false false) := by
  refine returnsInHanded_of_change (C := Try.checked) own started (by kernel_rfl) Try.func4
    (ChangeSpec.witness6 (enc := enc) (C := Try.checked) false ⟨#[], #[.int .i64 0, .int .i64 0, .slice none 0 0, .int .i64 0], []⟩ 8 (by kernel_rfl) (by kernel_rfl) (by kernel_rfl) (by kernel_rfl)) ?_
  intro W base args ds gs before hval0 hW hcnd _
  have hval : ∀ (j : Nat) t v, Try.f4.params[j]? = some t → args[j]? = some v → Value.okWide Try.prog W .any base t v := hval0
  have hW' := hW
  obtain ⟨p, q, hA0, hV, rfl, hfz, hnd⟩ := hW
  have hA : DataW.TrodAll enc Try.prog W 0 (fun _ => true) true Try.f4.params.toList args.toList ds p := hA0
  rw [Try.params4] at hA hval
  obtain ⟨v0, vs0, d0, ds0, p0, q0, hargs, rfl, rfl, h0, r0⟩ := trodAll_cons hA
  obtain ⟨v1, vs1, d1, ds1, p1, q1, rfl, rfl, rfl, h1, r1⟩ := trodAll_cons r0
  obtain ⟨v2, vs2, d2, ds2, p2, q2, rfl, rfl, rfl, h2, r2⟩ := trodAll_cons r1
  obtain ⟨v3, vs3, d3, ds3, p3, q3, rfl, rfl, rfl, h3, r3⟩ := trodAll_cons r2
  obtain ⟨rfl, rfl, rfl⟩ := trodAll_nil r3
  obtain rfl : args = #[v0, v1, v2, v3] := by cases args; simp_all
  obtain ⟨rfl, rfl⟩ := trodVars_none hV
  obtain ⟨a0, rfl, rfl, rfl, w0⟩ := open_int Try.underlying3 (hval 0 3 v0 rfl rfl) h0
  obtain ⟨a1, rfl, rfl, rfl, w1⟩ := open_int Try.underlying3 (hval 1 3 v1 rfl rfl) h1
  have k2 := h2
  have lt2 : ∀ x ∈ p2, x.block < W.heap.size := by obtain ⟨m, hm⟩ := k2; exact DataW.trod_lt m _ _ _ hm
  obtain ⟨qa2, la2, ca2, rfl⟩ := okWide_slice Try.underlying22 (hval 2 22 v2 rfl rfl)
  obtain ⟨fu2, hf2⟩ := h2
  obtain ⟨l2, w2⟩ := open_pcs Try.underlying22 Try.underlying29 (by kernel_rfl) rfl rfl (by kernel_rfl) (by kernel_rfl) Try.underlying3 Try.underlying3 hf2
  obtain ⟨a3, rfl, rfl, rfl, w3⟩ := open_int Try.underlying3 (hval 3 3 v3 rfl rfl) h3
  clear hA0 hval0
  refine (walk a0 a1 (.slice qa2 la2 ca2) l2 a3 W w0 w1 w2 w3).mono fun e W' ⟨he, bel⟩ => ?_
  subst he
  exact ⟨_, rfl, _, _, _, [], _, [], hW', trodAll_mk1 (shut_bool Try.underlying4 _), (trodAll_cons_mk (shut_int Try.underlying3 w0) (trodAll_cons_mk (shut_int Try.underlying3 w1) (trodAll_cons_mk (Below.trod laidOut (by kernel_rfl) (of_decide_eq_true (by kernel_rfl)) k2 bel lt2) (trodAll_cons_mk (shut_int Try.underlying3 w3) trodAll_mk0)))), rfl, bel.frame _, fun h => by cases h⟩

theorem over : Rows.roomTakesRow.holds Try.pinned (OpenSpec.ofChange Rows.roomTakesSpec) :=
  OpenClaim.holds_of_wide 4 Try.f4 rfl rfl rfl rfl rfl rfl rfl ⟨rfl, rfl, rfl, rfl, rfl⟩ rfl rfl rfl rfl rfl (by kernel_rfl) Try.func4 (by kernel_rfl)
    (of_decide_eq_true (by kernel_rfl)) (by unfold Func.isWrapper; first | (rw [if_pos (by decide +kernel)]; kernel_rfl) | (rw [if_neg (by decide +kernel)]; exact ⟨rfl, rfl⟩))
    (fun os started H enc _ => lifted os started H enc)

theorem proved : Rows.RoomTakesSaid := over
end Go.Proofs.Ytfplpdnhhefbaaa.roomTakes
namespace Go.Proofs.Ytfplpdnhhefbaaa
theorem roomTakes_holds : Rows.RoomTakesSaid := roomTakes.proved
#print axioms roomTakes_holds
end Go.Proofs.Ytfplpdnhhefbaaa
