/-
  Pieces are counted, put together and told one by one as the document says, at any list of pieces (of more than 5,000 pieces the statement asks nothing); they stay, and what is answered is new memory. No other condition.
-/
import Derived.Test.YtfplpdnhhefbaaaRows
import Derived.Test.YtfplpdnhhefbaaaPAppend
import Derived.Test.YtfplpdnhhefbaaaRpMany
import Derived.WalkKit
import Derived.ProofKit
import Derived.OpenShut
import Derived.ShutString
import Derived.ChangeOld
import Derived.Below
namespace Go.Proofs.Ytfplpdnhhefbaaa.roomTells
open Go.ChangeShapes Go.WideShapes Go.ChangeAt Go.RowKit
open Go.ChangeMaps (open_string shut_string)
set_option linter.unusedVariables false

theorem own : ownKnob Try.prog.godebug = none := by kernel_rfl
theorem laidOut : laidOutB Try.prog = true := by kernel_rfl

open Go.Joins

set_option maxHeartbeats 800000 in
theorem walk (v : Value) (l : Pcs) (w : World) (hl : PIn w v l) :
    Calls Try.prog 5 #[v] w fun e w' => e = .returned (.bool true) ∧ Below w.heap.size w w' := by
  obtain ⟨q, c, rfl, hq, hlc, hcm, hqn⟩ := hl.lies
  unfold maxLen at hcm
  by_cases h5 : l.length ≤ 5000
  · have HL0 : Hid (PIn w (.slice q l.length c) l) := hl
    clear hl
    go_enter Try.func5, Try.ntmps5
    go_wp2_with (at_builtin; refine wpList_append_pcs _ rfl _ _ rfl w.heap.size (.slice none 0 0) [] l q l.length c rfl rfl rfl (pown_nil _ _) hq hqn (by simp; omega) (Nat.le_refl _) ?_)
    intro vo wa hown hgrow
    have hba : Below w.heap.size w wa := (Below.refl _ _).grown hgrow (Nat.le_refl _) (fun k hk => by simp [Value.ownBlock] at hk)
    have HL : Hid (PIn wa (.slice q l.length c) l) := HL0.out.below hba
    have HO : Hid (PIn wa vo l) := hown.pin HL0.out.wf
    have bel : Below w.heap.size w wa := hba
    clear hown hgrow hba HL0 hq hqn
    go_wp2_with fail
    refine (many_any vo l _ HO.out).mono ?_
    rintro e w1 ⟨rfl, hb1⟩
    replace HL : Hid (PIn w1 (.slice q l.length c) l) := HL.out.below hb1
    replace HO : Hid (PIn w1 vo l) := HO.out.below hb1
    replace bel : Below w.heap.size w w1 := below_bt bel hb1
    go_wp2_with fail
    refine (rmany_any _ l _ HL.out).mono ?_
    rintro e w2 ⟨rfl, hb2⟩
    replace HL : Hid (PIn w2 (.slice q l.length c) l) := HL.out.below hb2
    replace HO : Hid (PIn w2 vo l) := HO.out.below hb2
    replace bel : Below w.heap.size w w2 := below_bt bel hb2
    have HLP : Hid (PIn w2 (.slice q l.length c) l) := HL.out
    have HOP : Hid (PIn w2 vo l) := HO.out
    have belP : Hid (Below w.heap.size w w2) := bel
    go_wp2_with fail
    refine (join_any vo l _ HO.out).mono ?_
    rintro e w3 ⟨qa, ca, rfl, hoa, hb3⟩
    replace HL : Hid (PIn w3 (.slice q l.length c) l) := HL.out.below hb3
    replace HO : Hid (PIn w3 vo l) := HO.out.below hb3
    replace bel : Below w.heap.size w w3 := below_bt bel hb3
    have FJ : Hid (POwn w3 w2.heap.size (.slice qa (resJ l).length ca) (resJ l)) := hoa
    have BP : Hid (Below w2.heap.size w2 w3) := hb3
    clear hoa
    go_wp2_with fail
    refine (rjoin_any _ l _ HL.out).mono ?_
    rintro e w4 ⟨qb, cb, rfl, hob, hb4⟩
    replace HL : Hid (PIn w4 (.slice q l.length c) l) := HL.out.below hb4
    replace HO : Hid (PIn w4 vo l) := HO.out.below hb4
    replace FJ : Hid (POwn w4 w2.heap.size (.slice qa (resJ l).length ca) (resJ l)) := FJ.out.below hb4
    replace BP : Hid (Below w2.heap.size w2 w4) := below_bt BP.out hb4
    replace bel : Below w.heap.size w w4 := below_bt bel hb4
    have FK : Hid (PIn w4 (.slice qb (resJ l).length cb) (resJ l)) := hob.pin (wf_resJ l)
    clear hob
    go_wp2_with fail
    refine (sectors_any vo l _ HO.out).mono ?_
    rintro e w5 ⟨qc, cc, rfl, hoc, hb5⟩
    replace HL : Hid (PIn w5 (.slice q l.length c) l) := HL.out.below hb5
    replace HO : Hid (PIn w5 vo l) := HO.out.below hb5
    replace FJ : Hid (POwn w5 w2.heap.size (.slice qa (resJ l).length ca) (resJ l)) := FJ.out.below hb5
    replace BP : Hid (Below w2.heap.size w2 w5) := below_bt BP.out hb5
    replace FK : Hid (PIn w5 (.slice qb (resJ l).length cb) (resJ l)) := FK.out.below hb5
    replace bel : Below w.heap.size w w5 := below_bt bel hb5
    have FC : Hid (IOwn w5 0 (.slice qc (secsN l).length cc) (secsN l)) := hoc.mono (Nat.zero_le _)
    clear hoc
    go_wp2_with fail
    refine (rsectors_any _ l _ HL.out).mono ?_
    rintro e w6 ⟨qd, cd, rfl, hod, hb6⟩
    replace HL : Hid (PIn w6 (.slice q l.length c) l) := HL.out.below hb6
    replace HO : Hid (PIn w6 vo l) := HO.out.below hb6
    replace FJ : Hid (POwn w6 w2.heap.size (.slice qa (resJ l).length ca) (resJ l)) := FJ.out.below hb6
    replace BP : Hid (Below w2.heap.size w2 w6) := below_bt BP.out hb6
    replace FK : Hid (PIn w6 (.slice qb (resJ l).length cb) (resJ l)) := FK.out.below hb6
    replace FC : Hid (IOwn w6 0 (.slice qc (secsN l).length cc) (secsN l)) := FC.out.below hb6
    replace bel : Below w.heap.size w w6 := below_bt bel hb6
    have FD : Hid (IOwn w6 0 (.slice qd (secsN l).length cd) (secsN l)) := hod.mono (Nat.zero_le _)
    clear hod HL HO
    have hs1 : (secsN l).length ≤ cc := by obtain ⟨_, _, e, h1, _⟩ := FC.out.form; simp only [Value.slice.injEq] at e; omega
    have hs2 : (secsN l).length ≤ cd := by obtain ⟨_, _, e, h1, _⟩ := FD.out.form; simp only [Value.slice.injEq] at e; omega
    have hs3 : cc ≤ 9223372036854775807 ∧ cd ≤ 9223372036854775807 := by obtain ⟨_, _, e, _, h1, _⟩ := FC.out.form; obtain ⟨_, _, e', _, h1', _⟩ := FD.out.form; simp only [Value.slice.injEq] at e e'; unfold maxLen at h1 h1'; omega
    have hj1 : (resJ l).length ≤ ca ∧ ca ≤ 9223372036854775807 := by obtain ⟨_, _, e, h1, h2, _⟩ := FJ.out.form; simp only [Value.slice.injEq] at e; unfold maxLen at h2; omega
    have he1 : (manyN l != manyN l) = false := by simp
    have he2 : (errK 4096 l != errK 4096 l) = false := by simp
    have he3 : (((secsN l).length : Int) != ((secsN l).length : Int)) = false := by simp
    go_wp2_with fail
    refine (rsame_any _ _ (resJ l) (resJ l) _ (FJ.out.pin (wf_resJ l)) FK.out).mono ?_
    rintro e w7 ⟨rfl, hb7⟩
    rw [sameB_yes rfl]
    replace FJ : Hid (POwn w7 w2.heap.size (.slice qa (resJ l).length ca) (resJ l)) := FJ.out.below hb7
    replace BP : Hid (Below w2.heap.size w2 w7) := below_bt BP.out hb7
    replace FK : Hid (PIn w7 (.slice qb (resJ l).length cb) (resJ l)) := FK.out.below hb7
    replace FC : Hid (IOwn w7 0 (.slice qc (secsN l).length cc) (secsN l)) := FC.out.below hb7
    replace FD : Hid (IOwn w7 0 (.slice qd (secsN l).length cd) (secsN l)) := FD.out.below hb7
    replace bel : Below w.heap.size w w7 := below_bt bel hb7
    clear FK
    go_wp2
    go_loopw [16] (fun i wr => ∃ k : Nat, k ≤ (secsN l).length ∧ i = .int .i64 k ∧ Below w7.heap.size w7 wr) (fun i _ => (secsN l).length - (intOf i).toNat)
    case atStart => exact ⟨0, by omega, rfl, Below.refl _ _⟩
    case round =>
      obtain ⟨k, hk, rfl, hbel⟩ := hrel
      by_cases hkl : k < (secsN l).length
      · obtain ⟨gc, rfl, x1⟩ := (FC.out.below hbel).at hkl
        obtain ⟨gd, rfl, x2⟩ := (FD.out.below hbel).at hkl
        generalize (secsN l).getD k 0 = x at *
        have hxx : (x != x) = false := by simp
        have HB2 : Hid (∀ n, Below w7.heap.size w7 (wr.drewN n)) := fun n => hbel.grown (grown_drew _ _ none) hbel.size (fun k hk => by cases hk)
        clear FC FD hbel
        go_wp2
        go_quiet (fail)
        go_wp2
        go_roundw
        case rel => exact ⟨k + 1, by omega, by go_num, HB2.out _⟩
        case measure => simp [intOf]; omega
      · obtain rfl : k = (secsN l).length := by omega
        have HB2 : Hid (Below w7.heap.size w7 wr) := hbel
        have BP2 : Hid (Below w2.heap.size w2 wr) := below_bt BP.out hbel
        have FJ2 : Hid (POwn wr w2.heap.size (.slice qa (resJ l).length ca) (resJ l)) := FJ.out.below hbel
        clear FC FD hbel FJ BP
        generalize hJ : resJ l = J at *
        clear hJ
        go_wp2
        obtain ⟨wz, rfl⟩ : ∃ wz, wz = wr := ⟨_, rfl⟩
        go_loopw [17] (fun i wx => ∃ k : Nat, k ≤ J.length ∧ i = .int .i64 k ∧ Below w2.heap.size w2 wx ∧ (∀ g cur, qa = some ⟨g, 0, none⟩ → wz.heap[g]? = some (.cells cur 29 (0, 0)) → ∃ cur', wx.heap[g]? = some (.cells cur' 29 (0, 0)) ∧ cur'.size = cur.size)) (fun i _ => J.length - (intOf i).toNat)
        case atStart => exact ⟨0, by omega, rfl, BP2.out, fun g cur _ h => ⟨cur, h, rfl⟩⟩
        case round =>
          obtain ⟨k, hk, rfl, hbx, hblk⟩ := hrel
          clear HB2
          by_cases hkl : k < J.length
          · obtain ⟨g, cur, rfl, hge, hg, hsz, _⟩ := FJ2.out.blk (by omega)
            obtain ⟨cur', hg', hsz'⟩ := hblk g cur rfl hg
            obtain ⟨x, hx⟩ := cell_some (i := k * 2) hg' (by omega)
            have hfz : wr.frozen? ⟨g, k * 2, none⟩ = false := frozen_of_row _ _ _ _ _ hg'
            have R1 : Hid (Below w2.heap.size w2 (wr.setCell ⟨g, k * 2, none⟩ (.int .i64 77))) := hbx.setCell hge _
            have R2 : Hid (∀ g' cur, (some (⟨g, 0, none⟩ : Addr)) = some ⟨g', 0, none⟩ → wz.heap[g']? = some (.cells cur 29 (0, 0)) → ∃ cur', (wr.setCell ⟨g, k * 2, none⟩ (.int .i64 77)).heap[g']? = some (.cells cur' 29 (0, 0)) ∧ cur'.size = cur.size) := by
              intro g' c2 e h2
              simp only [Option.some.injEq, Addr.mk.injEq, and_true] at e
              subst e
              obtain ⟨c3, h3, h4⟩ := hblk g c2 rfl h2
              exact ⟨_, heap_setCell_same wr g (k * 2) _ _ _ h3, by simpa using h4⟩
            clear FJ2 BP2 hbx hblk hg hg'
            go_wp2
            go_roundw
            case rel => exact ⟨k + 1, by omega, by go_num, R1.out, R2.out⟩
            case measure => simp [intOf]; omega
          · obtain rfl : k = J.length := by omega
            have R1 : Hid (Below w2.heap.size w2 wr) := hbx
            clear FJ2 BP2 hbx hblk
            go_wp2_with fail
            refine (rsame_any _ _ l l _ (HOP.out.below R1.out) (HLP.out.below R1.out)).mono ?_
            rintro e wf ⟨rfl, hbf⟩
            rw [sameB_yes rfl]
            go_wp2
            go_ret
            exact ⟨rfl, below_bt belP.out (below_bt R1.out hbf)⟩
  · go_enter Try.func5, Try.ntmps5
    go_wp2
    go_ret
    exact ⟨rfl, Below.refl _ _⟩

/-! ### THE ROW's STEP -/
set_option maxRecDepth 100000 in
theorem lifted (os : Os) (started : os.Started) (H : Type) (enc : TypeId × Value → H) :
    ReturnsInHanded {} Try.checked os 5 .any (Rows.roomTellsSpec.pre6 enc Try.prog Try.f5 Rows.roomTellsRow.domain false) (Rows.roomTellsSpec.post enc Try.prog Try.f5 false true false false) := by
  refine returnsInHanded_of_change (C := Try.checked) own started (by kernel_rfl) Try.func5
    (ChangeSpec.witness6 (enc := enc) (C := Try.checked) false ⟨#[], #[.slice none 0 0], []⟩ 8 (by kernel_rfl) (by kernel_rfl) (by kernel_rfl) (by kernel_rfl)) ?_
  intro W base args ds gs before hval0 hW hcnd _
  have hval : ∀ (j : Nat) t v, Try.f5.params[j]? = some t → args[j]? = some v → Value.okWide Try.prog W .any base t v := hval0
  have hW' := hW
  obtain ⟨p, q, hA0, hV, rfl, hfz, hnd⟩ := hW
  have hA : DataW.TrodAll enc Try.prog W 0 (fun _ => true) true Try.f5.params.toList args.toList ds p := hA0
  rw [Try.params5] at hA hval
  obtain ⟨v0, vs0, d0, ds0, p0, q0, hargs, rfl, rfl, h0, r0⟩ := trodAll_cons hA
  obtain ⟨rfl, rfl, rfl⟩ := trodAll_nil r0
  obtain rfl : args = #[v0] := by cases args; simp_all
  obtain ⟨rfl, rfl⟩ := trodVars_none hV
  have k0 := h0
  have lt0 : ∀ x ∈ p0, x.block < W.heap.size := by obtain ⟨m, hm⟩ := k0; exact DataW.trod_lt m _ _ _ hm
  obtain ⟨qa0, la0, ca0, rfl⟩ := okWide_slice Try.underlying22 (hval 0 22 v0 rfl rfl)
  obtain ⟨fu0, hf0⟩ := h0
  obtain ⟨l0, w0⟩ := open_pcs Try.underlying22 Try.underlying29 (by kernel_rfl) rfl rfl (by kernel_rfl) (by kernel_rfl) Try.underlying3 Try.underlying3 hf0
  clear hA0 hval0
  refine (walk (.slice qa0 la0 ca0) l0 W w0).mono fun e W' ⟨he, bel⟩ => ?_
  subst he
  exact ⟨_, rfl, _, _, _, [], _, [], hW', trodAll_mk1 (shut_bool Try.underlying4 _), (trodAll_cons_mk (Below.trod laidOut (by kernel_rfl) (of_decide_eq_true (by kernel_rfl)) k0 bel lt0) trodAll_mk0), rfl, bel.frame _, fun h => by cases h⟩

theorem over : Rows.roomTellsRow.holds Try.pinned (OpenSpec.ofChange Rows.roomTellsSpec) :=
  OpenClaim.holds_of_wide 5 Try.f5 rfl rfl rfl rfl rfl rfl rfl ⟨rfl, rfl, rfl, rfl, rfl⟩ rfl rfl rfl rfl rfl (by kernel_rfl) Try.func5 (by kernel_rfl)
    (of_decide_eq_true (by kernel_rfl)) (by unfold Func.isWrapper; first | (rw [if_pos (by decide +kernel)]; kernel_rfl) | (rw [if_neg (by decide +kernel)]; exact ⟨rfl, rfl⟩))
    (fun os started H enc _ => lifted os started H enc)

theorem proved : Rows.RoomTellsSaid := over
end Go.Proofs.Ytfplpdnhhefbaaa.roomTells
namespace Go.Proofs.Ytfplpdnhhefbaaa
theorem roomTells_holds : Rows.RoomTellsSaid := roomTells.proved
#print axioms roomTells_holds
end Go.Proofs.Ytfplpdnhhefbaaa
