/-
  What is taken was free, is as many as asked, and no free sector ahead of its last one is left: any numbers and any list of pieces. No condition.
-/
import Derived.Test.YtfplpdnhhefbaaaRows
import Derived.Test.YtfplpdnhhefbaaaPMath3
import Derived.Test.YtfplpdnhhefbaaaPAppend
import Derived.WalkKit
import Derived.ProofKit
import Derived.OpenShut
import Derived.ShutString
import Derived.ChangeOld
import Derived.Below
namespace Go.Proofs.Ytfplpdnhhefbaaa.roomFirst
open Go.ChangeShapes Go.WideShapes Go.ChangeAt Go.RowKit
open Go.ChangeMaps (open_string shut_string)
set_option linter.unusedVariables false

theorem own : ownKnob Try.prog.godebug = none := by kernel_rfl
theorem laidOut : laidOutB Try.prog = true := by kernel_rfl

open Go.Joins

set_option maxHeartbeats 1000000 in
theorem walk_bad (first count : Int) (q : Option Addr) (l : Pcs) (c : Nat) (many : Int) (w : World) (HL : Hid (PIn w (.slice q l.length c) l)) (h2 : errT first count l many ≠ 0) :
    Calls Try.prog 7 #[.int .i64 first, .int .i64 count, .slice q l.length c, .int .i64 many] w fun e w' => e = .returned (.bool true) ∧ Below w.heap.size w w' := by
  have hne : (errT first count l many != 0) = true := by simpa using h2
  have HT : Hid (∀ w1, PIn w1 (.slice q l.length c) l → Calls Try.prog 9 #[.int .i64 first, .int .i64 count, .slice q l.length c, .int .i64 many] w1 (ListPost [] (errT first count l many) w1)) := by
    intro w1 h1
    have := take_any first count _ l many w1 h1
    rwa [resT_bad h2] at this
  have HM : Hid (errT first count l many = 30 → errF first count l = 0 ∧ manyN (resF first count l) < many) := by
    intro h
    obtain ⟨a1, a2, a3⟩ := errT_space h
    exact ⟨a2, by rw [resF_ok a2]; exact few_all (errF_zero a2).1 a1 a3⟩
  have HWF : Hid (Wf (resF first count l)) := wf_resF _ _ _
  have HFR : Hid (∀ w1, PIn w1 (.slice q l.length c) l → Calls Try.prog 16 #[.int .i64 first, .int .i64 count, .slice q l.length c] w1 (ListPost (resF first count l) (errF first count l) w1)) := fun w1 h1 => free_any first count _ l w1 h1
  clear h2
  generalize errT first count l many = ET at *
  generalize errF first count l = EF at *
  generalize resF first count l = fr at *
  go_enter Try.func7, Try.ntmps7
  go_wp2_with fail
  refine (alive_any _).mono ?_
  rintro e w1 ⟨rfl, hb1⟩
  replace HL : Hid (PIn w1 (.slice q l.length c) l) := HL.out.below hb1
  have bel : Below w.heap.size w w1 := hb1
  go_wp2_with fail
  refine (HT.out _ HL.out).mono ?_
  rintro e w2 ⟨qt, ct, rfl, hot, hb2⟩
  replace HL : Hid (PIn w2 (.slice q l.length c) l) := HL.out.below hb2
  replace bel : Below w.heap.size w w2 := below_bt bel hb2
  clear hot
  go_wp2_with fail
  refine (HFR.out _ HL.out).mono ?_
  rintro e w3 ⟨qf, cf, rfl, hof, hb3⟩
  replace HL : Hid (PIn w3 (.slice q l.length c) l) := HL.out.below hb3
  replace bel : Below w.heap.size w w3 := below_bt bel hb3
  have FF : Hid (PIn w3 (.slice qf (List.length (α := Int × Int) fr) cf) fr) := hof.pin HWF.out
  clear hof
  go_wp2_with fail
  refine (many_any _ fr _ FF.out).mono ?_
  rintro e w4 ⟨rfl, hb4⟩
  replace HL : Hid (PIn w4 (.slice q l.length c) l) := HL.out.below hb4
  replace FF : Hid (PIn w4 (.slice qf (List.length (α := Int × Int) fr) cf) fr) := FF.out.below hb4
  replace bel : Below w.heap.size w w4 := below_bt bel hb4
  by_cases h30 : ET = 30
  · obtain ⟨k1, k2⟩ := HM.out h30
    subst h30 k1
    clear HM HT HFR HL FF
    generalize manyN fr = n at *
    generalize errK 4096 fr = ek at *
    go_wp2
    go_ret
    exact ⟨rfl, bel⟩
  · have h3 : (ET != 30) = true := by simpa using h30
    clear HM HT HFR HL FF h30
    generalize manyN fr = n at *
    generalize errK 4096 fr = ek at *
    go_wp2
    go_ret
    exact ⟨rfl, bel⟩

set_option maxHeartbeats 2000000 in
theorem walk_ok (first count : Int) (q : Option Addr) (l : Pcs) (c : Nat) (many : Int) (w : World) (HL : Hid (PIn w (.slice q l.length c) l)) (h2 : errT first count l many = 0) :
    Calls Try.prog 7 #[.int .i64 first, .int .i64 count, .slice q l.length c, .int .i64 many] w fun e w' => e = .returned (.bool true) ∧ Below w.heap.size w w' := by
  obtain ⟨h0, hF, hgot⟩ := errT_zero h2
  have hz := errF_zero hF
  have HT : Hid (∀ w1, PIn w1 (.slice q l.length c) l → Calls Try.prog 9 #[.int .i64 first, .int .i64 count, .slice q l.length c, .int .i64 many] w1 (ListPost (gotF first count l many.toNat).1 0 w1)) := by
    intro w1 h1
    have := take_any first count _ l many w1 h1
    rwa [resT_ok h2, h2] at this
  have HFR : Hid (∀ w1, PIn w1 (.slice q l.length c) l → Calls Try.prog 16 #[.int .i64 first, .int .i64 count, .slice q l.length c] w1 (ListPost (resF first count l) 0 w1)) := by
    intro w1 h1
    have := free_any first count _ l w1 h1
    rwa [hF] at this
  have hgt := got_good (l := l) (many := many.toNat) hz.1
  have hgb : Good count (l ++ (gotF first count l many.toNat).1) := good_app hz.2.2 hgt got_free
  have hlt : (gotF first count l many.toNat).1.length ≤ 4096 := Nat.le_trans (gotF_len _ _ _ _) (by omega)
  have hlb : (l ++ (gotF first count l many.toNat).1).length ≤ 4096 := by
    obtain ⟨n, hn⟩ := Int.eq_ofNat_of_zero_le hz.1.1.1
    have := good_len (count := n) (by rw [← hn]; exact hgb)
    omega
  have hmn := many_good (good_more hgt hz.1.1.2) hlt
  have hsum : manyN (gotF first count l many.toNat).1 = many := by
    rw [hmn.1, got_sum]
    have h3 := (gotF_of first count l many.toNat).got
    rw [List.length_take] at h3
    omega
  have hmany : ∀ w1 v, PIn w1 v (gotF first count l many.toNat).1 → Calls Try.prog 21 #[v] w1 fun e w' => e = .returned (.tuple #[.int .i64 many, .int .i64 0]) ∧ Below w1.heap.size w1 w' := by
    intro w1 v h1
    have := many_any v _ w1 h1
    rwa [hsum, hmn.2] at this
  have hE : errF first count (l ++ (gotF first count l many.toNat).1) = 0 := by rw [errF_ok hz.1, errK_ok hz.1.1 hlb hgb]
  have hck : ∀ w1 v, PIn w1 v (l ++ (gotF first count l many.toNat).1) → Calls Try.prog 14 #[.int .i64 count, v] w1 fun e w' => e = .returned (.int .i64 0) ∧ Below w1.heap.size w1 w' := by
    intro w1 v h1
    have := check_any count v _ w1 h1
    rwa [errK_ok hz.1.1 hlb hgb] at this
  have hrest : ∀ w1 v, PIn w1 v (l ++ (gotF first count l many.toNat).1) → Calls Try.prog 16 #[.int .i64 first, .int .i64 count, v] w1 (ListPost (gotF first count (l ++ (gotF first count l many.toNat).1) 4096).1 0 w1) := by
    intro w1 v h1
    have := free_any first count v _ w1 h1
    rwa [resF_ok hE, hE] at this
  have HBe : Hid (∀ p q, p ∈ (gotF first count l many.toNat).1 → q ∈ (gotF first count (l ++ (gotF first count l many.toNat).1) 4096).1 → p.1 + p.2 ≤ q.1) := fun p q hp hq => rest_behind rfl rfl p q hp hq
  have HWT : Hid (Wf (gotF first count l many.toNat).1) := wf_got hz.1
  have HWR : Hid (Wf (gotF first count (l ++ (gotF first count l many.toNat).1) 4096).1) := wf_got hz.1
  have HBt : Hid (∀ p ∈ (gotF first count l many.toNat).1, 0 ≤ p.1 ∧ 1 ≤ p.2 ∧ p.1 + p.2 ≤ 4096) := fun p hp => by have := gotF_bounds hz.1 p hp; omega
  have HMA : Hid _ := hmany
  have HCK : Hid _ := hck
  have HRE : Hid _ := hrest
  have hl4 := hz.2.1
  clear h2 hF hgot hz hgt hgb hlb hmn hsum hE hmany hck hrest
  generalize (gotF first count l many.toNat).1 = t at *
  generalize (gotF first count (l ++ t) 4096).1 = r at *
  generalize resF first count l = fr at *
  go_enter Try.func7, Try.ntmps7
  go_wp2_with fail
  refine (alive_any _).mono ?_
  rintro e w1 ⟨rfl, hb1⟩
  replace HL : Hid (PIn w1 (.slice q l.length c) l) := HL.out.below hb1
  have bel : Below w.heap.size w w1 := hb1
  go_wp2_with fail
  refine (HT.out _ HL.out).mono ?_
  rintro e w2 ⟨qt, ct, rfl, hot, hb2⟩
  replace HL : Hid (PIn w2 (.slice q l.length c) l) := HL.out.below hb2
  replace bel : Below w.heap.size w w2 := below_bt bel hb2
  have FT : Hid (PIn w2 (.slice qt (List.length (α := Int × Int) t) ct) t) := hot.pin HWT.out
  clear hot
  go_wp2_with fail
  refine (HFR.out _ HL.out).mono ?_
  rintro e w3 ⟨qf, cf, rfl, hof, hb3⟩
  replace HL : Hid (PIn w3 (.slice q l.length c) l) := HL.out.below hb3
  replace FT : Hid (PIn w3 (.slice qt (List.length (α := Int × Int) t) ct) t) := FT.out.below hb3
  replace bel : Below w.heap.size w w3 := below_bt bel hb3
  clear hof
  go_wp2_with fail
  refine (HMA.out _ _ FT.out).mono ?_
  rintro e w4 ⟨rfl, hb4⟩
  replace HL : Hid (PIn w4 (.slice q l.length c) l) := HL.out.below hb4
  replace FT : Hid (PIn w4 (.slice qt (List.length (α := Int × Int) t) ct) t) := FT.out.below hb4
  replace bel : Below w.heap.size w w4 := below_bt bel hb4
  obtain ⟨q', c', e', hql, _, _, hqn⟩ := HL.out.lies
  simp only [Value.slice.injEq] at e'
  obtain ⟨rfl, _, rfl⟩ := e'
  go_wp2_with (at_builtin; refine wpList_append_pcs _ rfl _ _ rfl w4.heap.size (.slice none 0 0) [] l q l.length c rfl rfl rfl (pown_nil _ _) hql hqn (by simp; omega) (Nat.le_refl _) ?_)
  intro va wa hown hgrow
  have hba : Below w4.heap.size w4 wa := (Below.refl _ _).grown hgrow (Nat.le_refl _) (fun k hk => by simp [Value.ownBlock] at hk)
  have FTa := FT.out.below hba
  obtain ⟨q2, c2, e2, hq2, _, _, hqn2⟩ := FTa.lies
  simp only [Value.slice.injEq] at e2
  obtain ⟨rfl, _, rfl⟩ := e2
  have HOa : POwn wa w4.heap.size va l := by simpa using hown
  have HWL : Hid (Wf l) := HL.out.wf
  clear hown hgrow hql HL
  go_wp2_with (at_builtin; refine wpList_append_pcs _ rfl _ _ rfl w4.heap.size va l t qt t.length ct rfl rfl rfl HOa hq2 hqn2 (by omega) hba.size ?_)
  intro vb wb hown2 hgrow2
  have hbb : Below w4.heap.size w4 wb := hba.grown hgrow2 hba.size (fun x hx => (HOa.lt x hx).1)
  have FT2 : Hid (PIn wb (.slice qt (List.length (α := Int × Int) t) ct) t) := FT.out.below hbb
  have FB : Hid (PIn wb vb (l ++ t)) := hown2.pin (fun y hy => by
    rcases List.mem_append.1 hy with h | h
    · exact HWL.out y h
    · exact HWT.out y h)
  replace bel : Below w.heap.size w wb := below_bt bel hbb
  clear hown2 hgrow2 hbb HOa hq2 FTa hba FT HWL
  have hmm : (many != many) = false := by simp
  go_wp2_with fail
  refine (HCK.out _ _ FB.out).mono ?_
  rintro e w7 ⟨rfl, hb7⟩
  replace FT2 : Hid (PIn w7 (.slice qt (List.length (α := Int × Int) t) ct) t) := FT2.out.below hb7
  replace FB : Hid (PIn w7 vb (l ++ t)) := FB.out.below hb7
  replace bel : Below w.heap.size w w7 := below_bt bel hb7
  go_wp2_with fail
  refine (HRE.out _ _ FB.out).mono ?_
  rintro e w8 ⟨qr, cr, rfl, hor, hb8⟩
  replace FT2 : Hid (PIn w8 (.slice qt (List.length (α := Int × Int) t) ct) t) := FT2.out.below hb8
  replace FB : Hid (PIn w8 vb (l ++ t)) := FB.out.below hb8
  replace bel : Below w.heap.size w w8 := below_bt bel hb8
  have FR : Hid (PIn w8 (.slice qr (List.length (α := Int × Int) r) cr) r) := hor.pin HWR.out
  clear hor HMA HCK HRE HT HFR FB HWT HWR
  obtain ⟨q3, c3, e3, hq3, hc3, hm3, _⟩ := FT2.out.lies
  simp only [Value.slice.injEq] at e3
  obtain ⟨rfl, _, rfl⟩ := e3
  obtain ⟨q4, c4, e4, hq4, hc4, hm4, _⟩ := FR.out.lies
  simp only [Value.slice.injEq] at e4
  obtain ⟨rfl, _, rfl⟩ := e4
  unfold maxLen at hm3 hm4
  clear FT2 FR
  by_cases ht0 : t.length = 0
  · rw [ht0]
    clear hq3 hq4 HBe HBt
    go_wp2
    go_ret
    exact ⟨rfl, bel⟩
  · by_cases hr0 : r.length = 0
    · rw [hr0]
      have htb : ((t.length : Int) == 0) = false := by simpa using ht0
      clear hq3 hq4 HBe HBt
      go_wp2
      go_ret
      exact ⟨rfl, bel⟩
    · obtain ⟨n, hn⟩ : ∃ n, t.length = n + 1 := ⟨t.length - 1, by omega⟩
      obtain ⟨m, hm⟩ : ∃ m, r.length = m + 1 := ⟨r.length - 1, by omega⟩
      obtain ⟨b, o, rfl⟩ := hq3.addr (by omega)
      obtain ⟨b2, o2, rfl⟩ := hq4.addr (by omega)
      obtain ⟨x1, x2⟩ := hq3.at (k := n) (by omega)
      obtain ⟨y1, y2⟩ := hq4.at (k := 0) (by omega)
      have k1 := HBe.out (t.getD n (0, 0)) (r.getD 0 (0, 0)) (getD_mem' (by omega)) (getD_mem' (by omega))
      have k2 := HBt.out (t.getD n (0, 0)) (getD_mem' (by omega))
      rw [hn, hm]
      have HYB : Hid (w8.cell? ⟨b2, o2 + 0 * 2, none⟩ = some (.int .i64 (r.getD 0 (0, 0)).1)) := y1
      clear hq3 hq4 HBe HBt ht0 hr0 y2 y1
      rw [hn] at hc3
      rw [hm] at hc4
      generalize t.getD n (0, 0) = tn at *
      generalize r.getD 0 (0, 0) = r0 at *
      obtain ⟨a, ca⟩ := tn
      obtain ⟨d, cd⟩ := r0
      simp only at x1 x2 k1 k2
      have y1 : (w8.alloc (.cells #[.int .i64 a, .int .i64 ca] 29)).cell? ⟨b2, o2, none⟩ = some (.int .i64 d) := by
        have h := HYB.out
        simp only [Nat.zero_mul, Nat.add_zero] at h
        exact ((below_alloc w8 _).cell (World.block_lt_of_cell? _ _ h)).trans h
      obtain ⟨z1, z2⟩ := box2 (Below.refl (w8.heap.size + 1) (w8.alloc (.cells #[.int .i64 a, .int .i64 ca] 29)))
      have hd : decide (a + ca ≤ d) = true := decide_eq_true k1
      have hz1 : ((n : Int) + 1 == 0) = false := by simp; omega
      have hz2 : ((m : Int) + 1 == 0) = false := by simp; omega
      clear HYB hn hm hlt
      go_wp2
      go_quiet (fail)
      go_wp2
      go_ret
      exact ⟨rfl, bel.trans ((below_alloc w8 _).mono bel.size) |>.grown (grown_drew _ _ none) (by have := bel.size; simp; omega) (fun k hk => by cases hk)⟩

theorem walk (first count : Int) (v : Value) (l : Pcs) (many : Int) (w : World) (w0 : (Lit.int .i64 first).wf = true) (w1 : (Lit.int .i64 count).wf = true) (hl : PIn w v l) (w3 : (Lit.int .i64 many).wf = true) :
    Calls Try.prog 7 #[.int .i64 first, .int .i64 count, v, .int .i64 many] w fun e w' => e = .returned (.bool true) ∧ Below w.heap.size w w' := by
  obtain ⟨q, c, rfl, _⟩ := hl.lies
  by_cases h2 : errT first count l many = 0
  · exact walk_ok first count q l c many w hl h2
  · exact walk_bad first count q l c many w hl h2

/-! ### THE ROW's STEP -/
set_option maxRecDepth 100000 in
theorem lifted (os : Os) (started : os.Started) (H : Type) (enc : TypeId × Value → H) :
    ReturnsInHanded {} Try.checked os 7 .any (Rows.roomFirstSpec.pre6 enc Try.prog Try.f7 Rows.roomFirstRow.domain false) (Rows.roomFirstSpec.post enc Try.prog Try.f7 false true false false) := by
  refine returnsInHanded_of_change (C := Try.checked) own started (by kernel_rfl) Try.func7
    (ChangeSpec.witness6 (enc := enc) (C := Try.checked) false ⟨#[], #[.int .i64 0, .int .i64 0, .slice none 0 0, .int .i64 0], []⟩ 8 (by kernel_rfl) (by kernel_rfl) (by kernel_rfl) (by kernel_rfl)) ?_
  intro W base args ds gs before hval0 hW hcnd _
  have hval : ∀ (j : Nat) t v, Try.f7.params[j]? = some t → args[j]? = some v → Value.okWide Try.prog W .any base t v := hval0
  have hW' := hW
  obtain ⟨p, q, hA0, hV, rfl, hfz, hnd⟩ := hW
  have hA : DataW.TrodAll enc Try.prog W 0 (fun _ => true) true Try.f7.params.toList args.toList ds p := hA0
  rw [Try.params7] at hA hval
  obtain ⟨v0, vs0, d0, ds0, p0, q0, hargs, rfl, rfl, h0, r0⟩ := trodAll_cons hA
  obtain ⟨v1, vs1, d1, ds1, p1, q1, rfl, rfl, rfl, h1, r1⟩ := trodAll_cons r0
  obtain ⟨v2, vs2, d2, ds2, p2, q2, rfl, rfl, rfl, h2, r2⟩ := trodAll_cons r1
  obtain ⟨v3, vs3, d3, ds3, p3, q3, rfl, rfl, rfl, h3, r3⟩ := trodAll_cons r2
  obtain ⟨rfl, rfl, rfl⟩ := trodAll_nil r3
  obtain rfl : args = #[v0, v1, v2, v3] := by cases args; simp_all
  obtain ⟨rfl, rfl⟩ := trodVars_none hV
  obtain ⟨a0, rfl, rfl, rfl, w0⟩ := open_int Try.underlying3 (hval 0 3 v0 rfl rfl) h0
  obtain ⟨a1, rfl, rfl, rfl, w1⟩ := open_int Try.underlying3 (hval 1 3 v1 rfl rfl) h1
  have k2 := h2
  have lt2 : ∀ x ∈ p2, x.block < W.heap.size := by obtain ⟨m, hm⟩ := k2; exact DataW.trod_lt m _ _ _ hm
  obtain ⟨qa2, la2, ca2, rfl⟩ := okWide_slice Try.underlying22 (hval 2 22 v2 rfl rfl)
  obtain ⟨fu2, hf2⟩ := h2
  obtain ⟨l2, w2⟩ := open_pcs Try.underlying22 Try.underlying29 (by kernel_rfl) rfl rfl (by kernel_rfl) (by kernel_rfl) Try.underlying3 Try.underlying3 hf2
  obtain ⟨a3, rfl, rfl, rfl, w3⟩ := open_int Try.underlying3 (hval 3 3 v3 rfl rfl) h3
  clear hA0 hval0
  refine (walk a0 a1 (.slice qa2 la2 ca2) l2 a3 W w0 w1 w2 w3).mono fun e W' ⟨he, bel⟩ => ?_
  subst he
  exact ⟨_, rfl, _, _, _, [], _, [], hW', trodAll_mk1 (shut_bool Try.underlying4 _), (trodAll_cons_mk (shut_int Try.underlying3 w0) (trodAll_cons_mk (shut_int Try.underlying3 w1) (trodAll_cons_mk (Below.trod laidOut (by kernel_rfl) (of_decide_eq_true (by kernel_rfl)) k2 bel lt2) (trodAll_cons_mk (shut_int Try.underlying3 w3) trodAll_mk0)))), rfl, bel.frame _, fun h => by cases h⟩

theorem over : Rows.roomFirstRow.holds Try.pinned (OpenSpec.ofChange Rows.roomFirstSpec) :=
  OpenClaim.holds_of_wide 7 Try.f7 rfl rfl rfl rfl rfl rfl rfl ⟨rfl, rfl, rfl, rfl, rfl⟩ rfl rfl rfl rfl rfl (by kernel_rfl) Try.func7 (by kernel_rfl)
    (of_decide_eq_true (by kernel_rfl)) (by unfold Func.isWrapper; first | (rw [if_pos (by decide +kernel)]; kernel_rfl) | (rw [if_neg (by decide +kernel)]; exact ⟨rfl, rfl⟩))
    (fun os started H enc _ => lifted os started H enc)

theorem proved : Rows.RoomFirstSaid := over
end Go.Proofs.Ytfplpdnhhefbaaa.roomFirst
namespace Go.Proofs.Ytfplpdnhhefbaaa
theorem roomFirst_holds : Rows.RoomFirstSaid := roomFirst.proved
#print axioms roomFirst_holds
end Go.Proofs.Ytfplpdnhhefbaaa
