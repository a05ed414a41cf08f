/-
  Each sector from the first one on is either free or in a piece, and none is both; the free ones are told as runs that rise: any numbers and any list of pieces. No condition.
-/
import Derived.Test.YtfplpdnhhefbaaaRows
import Derived.Test.YtfplpdnhhefbaaaPMarks
import Derived.WalkKit
import Derived.ProofKit
import Derived.OpenShut
import Derived.ShutString
import Derived.ChangeOld
import Derived.Below
namespace Go.Proofs.Ytfplpdnhhefbaaa.roomWhole
open Go.ChangeShapes Go.WideShapes Go.ChangeAt Go.RowKit
open Go.ChangeMaps (open_string shut_string)
set_option linter.unusedVariables false

theorem own : ownKnob Try.prog.godebug = none := by kernel_rfl
theorem laidOut : laidOutB Try.prog = true := by kernel_rfl

open Go.Joins

theorem meant_take_up (P : Int → Bool) (first k many : Nat) : ((meant P first k).take many).Pairwise (· < ·) := List.Pairwise.sublist (List.take_sublist _ _) (meant_up P first k)
/-- Each sector is free or in a piece. -/
theorem whole_count {f n : Nat} {l : Pcs} (hg : Good n l) (hf : f ≤ n) (hn : n ≤ 4096) : ∀ i : Nat, i < n → 0 ≤ addC (addC (fun _ => 0) (secs l)) (secs (gotF f n l 4096).1) i ∧ addC (addC (fun _ => 0) (secs l)) (secs (gotF f n l 4096).1) i ≤ 1 ∧ ((f : Int) ≤ i → addC (addC (fun _ => 0) (secs l)) (secs (gotF f n l 4096).1) i = 1) := by
  intro i hi
  have e1 := good_count hg (i : Nat)
  have e2 : cntL (secs (gotF f n l 4096).1) i = if freeB l (i : Nat) = true ∧ (f : Int) ≤ i then 1 else 0 := by
    have h := (gotF_of f n l 4096).secs
    rw [h, up_count (meant_take_up _ _ _ _)]
    have hlen := meant_all_len (freeB l) ((f : Int)).toNat ((n : Int) - (f : Int)).toNat
    rw [List.take_of_length_le (by omega)]
    have hm := mem_meant (P := freeB l) (first := ((f : Int)).toNat) (k := ((n : Int) - (f : Int)).toNat) (n := (i : Nat))
    by_cases hc : freeB l (i : Nat) = true ∧ (f : Int) ≤ i
    · rw [if_pos hc, if_pos (hm.2 ⟨hc.1, by omega, by omega⟩)]
    · rw [if_neg hc, if_neg (fun h' => hc ⟨(hm.1 h').1, by have := (hm.1 h').2.1; omega⟩)]
  unfold addC
  rw [e1, e2]
  unfold freeB
  cases cov l (i : Nat) with
  | true => simp
  | false =>
    by_cases hfi : (f : Int) ≤ i
    · simp [hfi]
    · simp only [Bool.not_false, true_and, if_neg hfi, Bool.false_eq_true, if_false]
      exact ⟨by omega, by omega, fun h => absurd h hfi⟩
theorem whole_runs {f n : Nat} {l : Pcs} (hf : f ≤ n) : ∀ k, k < (gotF f n l 4096).1.length → 1 ≤ ((gotF f n l 4096).1.getD k (0, 0)).2 ∧ (f : Int) ≤ ((gotF f n l 4096).1.getD k (0, 0)).1 ∧ ((gotF f n l 4096).1.getD k (0, 0)).1 + ((gotF f n l 4096).1.getD k (0, 0)).2 ≤ n ∧ (0 < k → ((gotF f n l 4096).1.getD (k - 1) (0, 0)).1 + ((gotF f n l 4096).1.getD (k - 1) (0, 0)).2 < ((gotF f n l 4096).1.getD k (0, 0)).1) := by
  intro k hk
  have h := gotF_of f n l 4096
  generalize (gotF f n l 4096) = r at *
  have hm : r.1.getD k (0, 0) ∈ r.1 := getD_mem' hk
  have h1 := h.runs.2 _ hm
  have h2 := h.ends _ hm
  refine ⟨h1, by omega, by omega, fun hp => ?_⟩
  have h3 := List.pairwise_iff_getElem.1 h.runs.1 (k - 1) k (by omega) hk (by omega)
  rw [getD_eq hk, getD_eq (show k - 1 < r.1.length by omega)]
  exact h3
set_option maxHeartbeats 1000000 in
theorem walk (first count : Int) (v : Value) (l : Pcs) (w : World) (w0 : (Lit.int .i64 first).wf = true) (w1 : (Lit.int .i64 count).wf = true) (hl : PIn w v l) :
    Calls Try.prog 6 #[.int .i64 first, .int .i64 count, v] w fun e w' => e = .returned (.bool true) ∧ Below w.heap.size w w' := by
  obtain ⟨q, c, rfl, _, hlc, hcm, _⟩ := hl.lies
  unfold maxLen at hcm
  clear w0 w1
  have HL : Hid (PIn w (.slice q l.length c) l) := hl
  clear hl
  obtain ⟨i0, hi, hz0, hz1, hz2⟩ := info_parts' info_int
  by_cases h2 : errF first count l = 0
  · have hz := errF_zero h2
    obtain ⟨f, rfl⟩ := Int.eq_ofNat_of_zero_le hz.1.2.1
    obtain ⟨n, rfl⟩ := Int.eq_ofNat_of_zero_le hz.1.1.1
    have hfn : f ≤ n := by omega
    have hn4 : n ≤ 4096 := by omega
    have HG : Hid (Good n l) := hz.2.2
    have hln := hz.2.1
    have HC : Hid _ := whole_count HG.out hfn hn4
    have HR : Hid _ := whole_runs (l := l) hfn
    have HFW : Hid (∀ p ∈ (gotF f n l 4096).1, Wn n p) := fun p hp => by have := gotF_bounds (l := l) (many := 4096) hz.1 p hp; unfold Wn; omega
    have hfl := gotF_len f n l 4096
    have HF0 : Hid (∀ w1, PIn w1 (.slice q l.length c) l → Calls Try.prog 16 #[.int .i64 f, .int .i64 n, .slice q l.length c] w1 (ListPost (gotF f n l 4096).1 0 w1)) := by
      intro w1 h1
      have := free_any f n _ l w1 h1
      rwa [resF_ok h2, h2] at this
    have hwff : Wf (gotF f n l 4096).1 := wf_got hz.1
    have HWF : Hid _ := hwff
    clear hz h2 hwff
    generalize (gotF f n l 4096).1 = fr at *
    go_enter Try.func6, Try.ntmps6
    go_wp2_with fail
    refine (alive_any _).mono ?_
    rintro e w1 ⟨rfl, hb1⟩
    replace HL : Hid (PIn w1 (.slice q l.length c) l) := HL.out.below hb1
    have bel : Below w.heap.size w w1 := hb1
    go_wp2_with fail
    refine (HF0.out _ HL.out).mono ?_
    rintro e w2 ⟨qf, cf, rfl, hof, hb2⟩
    replace HL : Hid (PIn w2 (.slice q l.length c) l) := HL.out.below hb2
    replace bel : Below w.heap.size w w2 := below_bt bel hb2
    have FF : Hid (PIn w2 (.slice qf (List.length (α := Int × Int) fr) cf) fr) := hof.pin HWF.out
    clear hof HF0
    have hcf : fr.length ≤ cf ∧ cf ≤ 9223372036854775807 := by obtain ⟨_, _, e, _, h1, h2, _⟩ := FF.out.lies; simp only [Value.slice.injEq] at e; unfold maxLen at h2; omega
    go_wp2_with (at_make; refine wpList_make_full _ rfl _ _ 30 rfl w2.heap.size 3 i0 (.int .i64 0) 1 Try.underlying30 hi hz0 hz1 .i64 .i64 _ _ n rfl rfl rfl rfl (by rw [hz2]; omega) (by unfold maxLen; omega) (Nat.le_refl _) ?_)
    intro w3 hown hgrow
    have A3 : Hid (IAt w3 w2.heap.size (fun _ => 0) n) := by
      show IAt _ _ _ _
      have := row_full' hown
      rwa [iRow_made] at this
    have hb3 : Below w2.heap.size w2 w3 := (Below.refl _ _).grown hgrow (Nat.le_refl _) (fun k hk => by cases hk)
    have HB3 : Hid (∀ w', w3.grownBy w' (some w2.heap.size) → Below w2.heap.size w2 w') := fun w' hg => hb3.grown hg hb3.size (fun k hk => by simp only [Option.some.injEq] at hk; omega)
    have K3 : Hid (w3.grownBy w3 (some w2.heap.size)) := ⟨rfl, rfl, rfl, Nat.le_refl _, fun _ _ _ => rfl⟩
    clear hown hgrow hb3
    go_wp2_with fail
    refine (marks_any w2.heap.size n (fun _ => 0) _ l w3 (HL.out.below (HB3.out _ K3.out)) (fun w' hg => HL.out.below (HB3.out _ hg)) A3.out HG.out.wn hln hn4 (fun _ => by omega)).mono ?_
    rintro e w4 ⟨rfl, ha4, hg4⟩
    have A4 : Hid (IAt w4 w2.heap.size (addC (fun _ => 0) (secs l)) n) := ha4
    have K4 : Hid (w3.grownBy w4 (some w2.heap.size)) := hg4
    clear ha4 hg4 A3
    go_wp2_with fail
    refine (marks_any w2.heap.size n (addC (fun _ => 0) (secs l)) _ fr w4 (FF.out.below (HB3.out _ K4.out)) (fun w' hg => FF.out.below (HB3.out _ (grown_trans K4.out hg))) A4.out HFW.out hfl hn4 (fun i => by have := good_count HG.out i; unfold addC; rw [this]; simp only; split <;> omega)).mono ?_
    rintro e w5 ⟨rfl, ha5, hg5⟩
    have A5 : Hid (IAt w5 w2.heap.size (addC (addC (fun _ => 0) (secs l)) (secs fr)) n) := ha5
    have K5 : Hid (Below w2.heap.size w2 w5) := HB3.out _ (grown_trans K4.out hg5)
    have F5 : Hid (PIn w5 (.slice qf (List.length (α := Int × Int) fr) cf) fr) := FF.out.below K5.out
    clear ha5 hg5 A4 K4 K3 HB3 FF HL
    go_wp2
    go_loopw [11] (fun i wr => ∃ k : Nat, k ≤ n ∧ i = .int .i64 k ∧ Below w5.heap.size w5 wr) (fun i _ => n - (intOf i).toNat)
    case atStart => exact ⟨0, by omega, rfl, Below.refl _ _⟩
    case round =>
      obtain ⟨k, hk, rfl, hbel⟩ := hrel
      by_cases hkl : k < n
      · have hcell := (A5.out.below hbel).cell hkl
        obtain ⟨v1, v2, v3⟩ := HC.out k hkl
        generalize addC (addC (fun _ => 0) (secs l)) (secs fr) (k : Nat) = X at *
        by_cases hfk : (f : Int) ≤ k
        · have hX := v3 hfk
          subst hX
          go_wp2
          go_roundw
          case rel => exact ⟨k + 1, by omega, by go_num, hbel⟩
          case measure => simp [intOf]; omega
        · clear v3
          go_wp2
          go_roundw
          case rel => exact ⟨k + 1, by omega, by go_num, hbel⟩
          case measure => simp [intOf]; omega
      · obtain rfl : k = n := by omega
        have B6 : Hid (Below w5.heap.size w5 wr) := hbel
        clear hbel HC A5
        go_wp2
        go_loopw [12] (fun i wx => ∃ j : Nat, j ≤ fr.length ∧ i = .int .i64 j ∧ Below w5.heap.size w5 wx) (fun i _ => fr.length - (intOf i).toNat)
        case atStart => exact ⟨0, by omega, rfl, B6.out⟩
        case round =>
          clear B6
          obtain ⟨j, hj, rfl, hbel⟩ := hrel
          obtain ⟨q', c', e', hq', _⟩ := (F5.out.below hbel).lies
          simp only [Value.slice.injEq] at e'
          obtain ⟨rfl, _, rfl⟩ := e'
          by_cases hjl : j < fr.length
          · obtain ⟨b, o, rfl⟩ := hq'.addr (by omega)
            obtain ⟨x1, x2⟩ := hq'.at hjl
            obtain ⟨r1, r2, r3, r4⟩ := HR.out j hjl
            have HB2 : Hid (∀ m, Below w5.heap.size w5 (wr.drewN m)) := fun m => hbel.grown (grown_drew _ _ none) hbel.size (fun k hk => by cases hk)
            by_cases hj0 : 0 < j
            · obtain ⟨i, rfl⟩ : ∃ i, j = i + 1 := ⟨j - 1, by omega⟩
              obtain ⟨y1, y2⟩ := hq'.at (k := i) (by omega)
              obtain ⟨s1, s2, s3, _⟩ := HR.out i (by omega)
              have r5 := r4 hj0
              rw [Nat.add_sub_cancel] at r5
              clear hq' hbel r4 HR
              generalize fr.getD (i + 1) (0, 0) = y at *
              generalize fr.getD i (0, 0) = z at *
              obtain ⟨a, m⟩ := y
              obtain ⟨a0, m0⟩ := z
              simp only at x1 x2 r1 r2 r3 y1 y2 s1 s2 s3 r5
              have d1 : decide (m < 1) = false := decide_eq_false (by omega)
              have d2 : decide (a < (f : Int)) = false := decide_eq_false (by omega)
              have d3 : decide (a ≤ a0 + m0) = false := decide_eq_false (by omega)
              go_wp2
              go_quiet (fail)
              go_wp2
              go_roundw
              case rel => exact ⟨i + 1 + 1, by omega, by go_num, HB2.out _⟩
              case measure => simp [intOf]; omega
            · obtain rfl : j = 0 := by omega
              clear hq' hbel r4 HR
              generalize fr.getD 0 (0, 0) = y at *
              simp only [Nat.zero_mul, Nat.add_zero] at x1 x2
              obtain ⟨a, m⟩ := y
              simp only at x1 x2 r1 r2 r3
              have d1 : decide (m < 1) = false := decide_eq_false (by omega)
              have d2 : decide (a < (f : Int)) = false := decide_eq_false (by omega)
              go_wp2
              go_quiet (fail)
              go_wp2
              go_roundw
              case rel => exact ⟨1, by omega, by go_num, HB2.out _⟩
              case measure => simp [intOf]; omega
          · obtain rfl : j = fr.length := by omega
            clear hq' F5
            go_wp2
            go_ret
            exact ⟨rfl, below_bt bel (below_bt K5.out hbel)⟩
  · have hne : (errF first count l != 0) = true := by simpa using h2
    have HF0 : Hid (∀ w1, PIn w1 (.slice q l.length c) l → Calls Try.prog 16 #[.int .i64 first, .int .i64 count, .slice q l.length c] w1 (ListPost [] (errF first count l) w1)) := by
      intro w1 h1
      have := free_any first count _ l w1 h1
      rwa [resF_bad h2] at this
    clear h2
    generalize errF first count l = E at *
    go_enter Try.func6, Try.ntmps6
    go_wp2_with fail
    refine (alive_any _).mono ?_
    rintro e w1 ⟨rfl, hb1⟩
    replace HL : Hid (PIn w1 (.slice q l.length c) l) := HL.out.below hb1
    have bel : Below w.heap.size w w1 := hb1
    go_wp2_with fail
    refine (HF0.out _ HL.out).mono ?_
    rintro e w2 ⟨qf, cf, rfl, hof, hb2⟩
    replace HL : Hid (PIn w2 (.slice q l.length c) l) := HL.out.below hb2
    replace bel : Below w.heap.size w w2 := below_bt bel hb2
    clear hof HF0 HL
    go_wp2
    go_ret
    exact ⟨rfl, bel⟩

/-! ### THE ROW's STEP -/
set_option maxRecDepth 100000 in
theorem lifted (os : Os) (started : os.Started) (H : Type) (enc : TypeId × Value → H) :
    ReturnsInHanded {} Try.checked os 6 .any (Rows.roomWholeSpec.pre6 enc Try.prog Try.f6 Rows.roomWholeRow.domain false) (Rows.roomWholeSpec.post enc Try.prog Try.f6 false true false false) := by
  refine returnsInHanded_of_change (C := Try.checked) own started (by kernel_rfl) Try.func6
    (ChangeSpec.witness6 (enc := enc) (C := Try.checked) false ⟨#[], #[.int .i64 0, .int .i64 0, .slice none 0 0], []⟩ 8 (by kernel_rfl) (by kernel_rfl) (by kernel_rfl) (by kernel_rfl)) ?_
  intro W base args ds gs before hval0 hW hcnd _
  have hval : ∀ (j : Nat) t v, Try.f6.params[j]? = some t → args[j]? = some v → Value.okWide Try.prog W .any base t v := hval0
  have hW' := hW
  obtain ⟨p, q, hA0, hV, rfl, hfz, hnd⟩ := hW
  have hA : DataW.TrodAll enc Try.prog W 0 (fun _ => true) true Try.f6.params.toList args.toList ds p := hA0
  rw [Try.params6] at hA hval
  obtain ⟨v0, vs0, d0, ds0, p0, q0, hargs, rfl, rfl, h0, r0⟩ := trodAll_cons hA
  obtain ⟨v1, vs1, d1, ds1, p1, q1, rfl, rfl, rfl, h1, r1⟩ := trodAll_cons r0
  obtain ⟨v2, vs2, d2, ds2, p2, q2, rfl, rfl, rfl, h2, r2⟩ := trodAll_cons r1
  obtain ⟨rfl, rfl, rfl⟩ := trodAll_nil r2
  obtain rfl : args = #[v0, v1, v2] := by cases args; simp_all
  obtain ⟨rfl, rfl⟩ := trodVars_none hV
  obtain ⟨a0, rfl, rfl, rfl, w0⟩ := open_int Try.underlying3 (hval 0 3 v0 rfl rfl) h0
  obtain ⟨a1, rfl, rfl, rfl, w1⟩ := open_int Try.underlying3 (hval 1 3 v1 rfl rfl) h1
  have k2 := h2
  have lt2 : ∀ x ∈ p2, x.block < W.heap.size := by obtain ⟨m, hm⟩ := k2; exact DataW.trod_lt m _ _ _ hm
  obtain ⟨qa2, la2, ca2, rfl⟩ := okWide_slice Try.underlying22 (hval 2 22 v2 rfl rfl)
  obtain ⟨fu2, hf2⟩ := h2
  obtain ⟨l2, w2⟩ := open_pcs Try.underlying22 Try.underlying29 (by kernel_rfl) rfl rfl (by kernel_rfl) (by kernel_rfl) Try.underlying3 Try.underlying3 hf2
  clear hA0 hval0
  refine (walk a0 a1 (.slice qa2 la2 ca2) l2 W w0 w1 w2).mono fun e W' ⟨he, bel⟩ => ?_
  subst he
  exact ⟨_, rfl, _, _, _, [], _, [], hW', trodAll_mk1 (shut_bool Try.underlying4 _), (trodAll_cons_mk (shut_int Try.underlying3 w0) (trodAll_cons_mk (shut_int Try.underlying3 w1) (trodAll_cons_mk (Below.trod laidOut (by kernel_rfl) (of_decide_eq_true (by kernel_rfl)) k2 bel lt2) trodAll_mk0))), rfl, bel.frame _, fun h => by cases h⟩

theorem over : Rows.roomWholeRow.holds Try.pinned (OpenSpec.ofChange Rows.roomWholeSpec) :=
  OpenClaim.holds_of_wide 6 Try.f6 rfl rfl rfl rfl rfl rfl rfl ⟨rfl, rfl, rfl, rfl, rfl⟩ rfl rfl rfl rfl rfl (by kernel_rfl) Try.func6 (by kernel_rfl)
    (of_decide_eq_true (by kernel_rfl)) (by unfold Func.isWrapper; first | (rw [if_pos (by decide +kernel)]; kernel_rfl) | (rw [if_neg (by decide +kernel)]; exact ⟨rfl, rfl⟩))
    (fun os started H enc _ => lifted os started H enc)

theorem proved : Rows.RoomWholeSaid := over
end Go.Proofs.Ytfplpdnhhefbaaa.roomWhole
namespace Go.Proofs.Ytfplpdnhhefbaaa
theorem roomWhole_holds : Rows.RoomWholeSaid := roomWhole.proved
#print axioms roomWhole_holds
end Go.Proofs.Ytfplpdnhhefbaaa
