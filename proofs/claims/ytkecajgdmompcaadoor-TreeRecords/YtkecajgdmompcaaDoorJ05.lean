/-
  For every list of changes, number and text: TreeRecords returns true, and its arguments read behind the call as they read before; the three listed tables start as the text of the program lays them.
-/
import Derived.Test.YtkecajgdmompcaaDoorJ04
import Derived.Test.YtkecajgdmompcaaDoorRows
import Derived.Test.YtkecajgdmompcaaDoorChecked
import Derived.ChangeSame
import Derived.ChangeVars
import Derived.JoinedOf
import Derived.RowKit
import Derived.RowKitTokens
import Derived.LaidSub
import Derived.LaidLaws
import Derived.LaidHandle
import Derived.Lib.LaidTab
import Derived.Stop.Joined
import Derived.Test.YtkecajgdmompcaaDoorTie
import Derived.Test.YtkecajgdmompcaaDoorCards
import Derived.SevenTiedAt
import Derived.WalkKit
import Derived.ProofKit
import Derived.OpenShut
import Derived.ShutString
import Derived.ChangeOld
import Derived.Below
namespace Go.Proofs.YtkecajgdmompcaaDoor
open Go.RowKit Go.WideShapes

theorem COwn.grow {w w' : World} {base : Nat} {v : Value} {l : List CV} (h : COwn w base v l) (hb : Below w.heap.size w w') : COwn w' base v l := h.below hb
theorem readE_few {g : Nat → Bool} {xs : List Nat} : ((((readE g xs).map Prod.fst).getD []).length : Int) ≤ 1000000 := by
  cases h : readE g xs with
  | none => simp
  | some r =>
    obtain ⟨_, _, _, h4, _⟩ := writeE_ok (readE_some (l := r.1) (seq := r.2) h)
    simp
    omega
set_option maxRecDepth 8000 in
set_option maxHeartbeats 8000000 in
theorem treeRecords_walk (v : Value) (l : List CV) (seq : Int) (s : ByteArray) (W : World) (hv : Chgs W v l) (hs : s.size ≤ maxLen) :
    Calls Tryd.prog 3 #[v, .int .i64 seq, .string s] W fun e W' => e = .returned (.bool true) ∧ Below W.heap.size W W' := by
  obtain ⟨q, c, rfl, hin, hlc, hcm, hqn⟩ := hv.lies
  have hll : (l.length : Int) ≤ 9223372036854775807 := by unfold maxLen at hcm; omega
  have HWF : Hid (∀ x ∈ l, (x.key.size : Int) ≤ 9223372036854775807 ∧ (x.val.size : Int) ≤ 9223372036854775807) := fun x hx => by
    have h1 := (hv.wf x hx).key
    have h2 := (hv.wf x hx).val
    unfold maxLen at h1 h2
    omega
  have hhv := heavy_any q l.length c l W rfl hin hll
  have HIN : Hid (CsIn W q l ∧ l.length ≤ c ∧ (q = none → c = 0)) := ⟨hin, hlc, hqn⟩
  have hsI : (s.size : Int) ≤ 9223372036854775807 := by unfold maxLen at hs; omega
  obtain ⟨n, hn⟩ : ∃ n, l.length = n := ⟨_, rfl⟩
  have HN : Hid (l.length = n) := hn
  rw [hn] at hhv hll ⊢
  clear hv hin hlc hcm hqn hn hs
  go_enter Tryd.func3, Tryd.ntmps3
  go_wp2_with fail
  refine hhv.mono ?_
  rintro e w1 ⟨r1, rfl, hr1, hb1⟩
  have HB1 : Hid (Below W.heap.size W w1) := hb1
  clear hhv hb1
  cases r1 with
  | true =>
    clear hr1
    go_wp2
    go_ret
    exact ⟨rfl, HB1.out⟩
  | false =>
    have HN2 : Hid (n ≤ 200) := hr1 rfl
    clear hr1
    by_cases hlong : 10000 < s.size
    · have hlI : (10000 : Int) < (s.size : Int) := by omega
      clear hlong
      go_wp2
      go_ret
      exact ⟨rfl, HB1.out⟩
    have hlI : (s.size : Int) ≤ 10000 := by omega
    have HSZ : Hid (s.size ≤ 100000) := by show _ ≤ _; omega
    clear hlong
    have HC1 : Hid (CsIn w1 q l) := HIN.out.1.below HB1.out
    obtain ⟨r, hr⟩ : ∃ r, writeE l seq = r := ⟨_, rfl⟩
    have HR : Hid (writeE l seq = r) := hr
    obtain ⟨o, ho⟩ : ∃ o, readE gP (numsOf s) = o := ⟨_, rfl⟩
    have HO : Hid (readE gP (numsOf s) = o ∧ readE gD (numsOf s) = o) := ⟨ho, by rw [← ho]; exact readE_same rfl rfl rfl rfl _⟩
    have HOL : Hid ((((o.map Prod.fst).getD []).length : Int) ≤ 1000000) := by show _ ≤ _; rw [← ho]; exact readE_few
    clear hr ho
    go_wp2_with (at_builtin; (refine wpList_append_changes _ rfl _ _ rfl w1.heap.size (.slice none 0 0) [] l q n c rfl rfl HN.out.symm (cown_nil _ _) HC1.out HIN.out.2.2 (by have := HN2.out; have := HN.out; simp only [List.length_nil]; omega) (Nat.le_refl _) ?_); intro ov w2 ho2 hg2; have H2 : Hid (COwn w2 w1.heap.size ov l ∧ Below W.heap.size W w2) := ⟨by simpa using ho2, HB1.out.grown hg2 HB1.out.size (fun k hk => by simp [Value.ownBlock] at hk)⟩; clear ho2 hg2)
    obtain ⟨oq, om, rfl, hom, _, _⟩ := own_form H2.out.1
    have hom2 : l.length ≤ om := hom
    have hw := Write_any oq n om l seq w2 (COwn.cs H2.out.1) HN.out.symm (by have := HN.out; omega) hll HWF.out r HR.out
    rw [HN.out] at H2 ⊢
    clear hom hom2
    go_wp2_with fail
    refine hw.mono ?_
    rintro e w3 ⟨rfl, hb3⟩
    have H3 : Hid (COwn w3 w1.heap.size (.slice oq n om) l ∧ Below W.heap.size W w3) := ⟨H2.out.1.grow hb3, below_bt H2.out.2 hb3⟩
    have hw2 := rWrite_any q n c l seq w3 (HIN.out.1.below H3.out.2) HN.out.symm hll HWF.out r HR.out
    clear hw hb3
    go_wp2_with fail
    refine hw2.mono ?_
    rintro e w4 ⟨rfl, hb4⟩
    have H4 : Hid (COwn w4 w1.heap.size (.slice oq n om) l ∧ Below W.heap.size W w4) := ⟨H3.out.1.grow hb4, below_bt H3.out.2 hb4⟩
    have hrd := Read_t s w4 HSZ.out o HO.out.1
    clear hw2 hb4
    go_wp2_with fail
    refine hrd.mono ?_
    rintro e w5 ⟨cv, rfl, hoc, hb5⟩
    have H5 : Hid (COwn w5 w1.heap.size (.slice oq n om) l ∧ Below W.heap.size W w5 ∧ COwn w5 w4.heap.size cv ((o.map Prod.fst).getD [])) := ⟨H4.out.1.grow hb5, below_bt H4.out.2 hb5, hoc⟩
    have hrd2 := rRead_t s w5 HSZ.out o HO.out.2
    obtain ⟨cq, cm, rfl, _⟩ := own_form hoc
    obtain ⟨cl, hcl⟩ : ∃ m, ((o.map Prod.fst).getD []).length = m := ⟨_, rfl⟩
    have HCL : Hid (((o.map Prod.fst).getD []).length = cl) := hcl
    obtain ⟨S, hS⟩ : ∃ m : Nat, (o.map Prod.snd).getD 0 = m := ⟨_, rfl⟩
    obtain ⟨E, hE⟩ : ∃ m : Int, (if o.isSome = true then (0 : Int) else 8) = m := ⟨_, rfl⟩
    have HSE : Hid ((o.map Prod.snd).getD 0 = S ∧ (if o.isSome = true then (0 : Int) else 8) = E) := ⟨hS, hE⟩
    rw [hcl] at H5 ⊢
    rw [hS, hE]
    clear hrd hb5 hoc hcl hS hE
    go_wp2_with fail
    refine hrd2.mono ?_
    rintro e w6 ⟨dv, rfl, hod, hb6⟩
    have H6 : Hid (COwn w6 w1.heap.size (.slice oq n om) l ∧ Below W.heap.size W w6 ∧ COwn w6 w4.heap.size (.slice cq cl cm) ((o.map Prod.fst).getD []) ∧ COwn w6 w5.heap.size dv ((o.map Prod.fst).getD [])) := ⟨H5.out.1.grow hb6, below_bt H5.out.2.1 hb6, H5.out.2.2.grow hb6, hod⟩
    obtain ⟨dq, dm, rfl, _⟩ := own_form hod
    rw [HCL.out] at H6 ⊢
    rw [HSE.out.1, HSE.out.2]
    have hsc := sameChanges_yes cq dq cl cl cm dm ((o.map Prod.fst).getD []) w6 (COwn.cs H6.out.2.2.1) (COwn.cs H6.out.2.2.2) HCL.out.symm HCL.out.symm HOL.out
    have HSC : Hid (∀ w7, Below w6.heap.size w6 w7 → Calls Tryd.prog 9 #[.slice oq n om, .slice q n c] w7 fun e w' => e = .returned (.bool true) ∧ Below w7.heap.size w7 w') := fun w7 hb => sameChanges_yes oq q n n om c l w7 (COwn.cs (H6.out.1.grow hb)) (HIN.out.1.below (below_bt H6.out.2.1 hb)) HN.out.symm HN.out.symm (by have := HN.out; have := HN2.out; omega)
    clear hrd2 hb6 hod
    go_wp2_with fail
    refine hsc.mono ?_
    rintro e w7 ⟨rfl, hb7⟩
    have hs2 := HSC.out w7 hb7
    have HB7 : Hid (Below W.heap.size W w7) := below_bt H6.out.2.1 hb7
    clear hsc hb7
    go_wp2_with fail
    refine hs2.mono ?_
    rintro e w8 ⟨rfl, hb8⟩
    have HB8 : Hid (Below W.heap.size W w8) := below_bt HB7.out hb8
    clear hs2 hb8
    go_wp2
    go_ret
    exact ⟨rfl, HB8.out⟩
end Go.Proofs.YtkecajgdmompcaaDoor
namespace Go.Proofs.YtkecajgdmompcaaDoor
open Go.RowKit

noncomputable def tabCells : DataW Unit → Array Value
  | .agg l => (l.map fun | .lit (.int k z) => .int k z | _ => .nilIface).toArray
  | _ => #[]
noncomputable def layCells (cs : Array Value) : Obj → Obj
  | .cells _ t frozen => .cells cs t frozen
  | o => o
noncomputable def gIx (s : String) : Nat := (Tryd.prog.globalNamed s).getD 0
noncomputable def laidWorld (os : Os) : World :=
  let w0 := World.holding Tryd.prog os ⟨#[], #[], []⟩
  { w0 with heap := (((w0.heap.modify (gIx "math/bits.deBruijn32tab") (layCells (tabCells Rows.laid_math_bits_deBruijn32tab))).modify (gIx "math/bits.deBruijn64tab") (layCells (tabCells Rows.laid_math_bits_deBruijn64tab))).modify (gIx "internal/strconv.uint64pow10") (layCells (tabCells Rows.laid_internal_strconv_uint64pow10))) }
def laidLs : List (String × DataW Unit) := [("math/bits.deBruijn32tab", Rows.laid_math_bits_deBruijn32tab), ("math/bits.deBruijn64tab", Rows.laid_math_bits_deBruijn64tab), ("internal/strconv.uint64pow10", Rows.laid_internal_strconv_uint64pow10)]
theorem laidWorld_met (os : Os) (args : Array Value) : laidMetH Tryd.prog laidLs ((laidWorld os).forCall (fun _ _ => 0) ⟨#[], args, []⟩).memory :=
  laidMetH_of_parts (laidMet_of_run' 8 (by kernel_rfl) (by kernel_rfl)) (by kernel_rfl)
theorem laid_of {W : World} (_ : laidMetH Tryd.prog laidLs W) : True := trivial
theorem law_records (v : Value) (l : List CV) (seq : Int) (s : ByteArray) (W : World) (_hL : True) (hv : Chgs W v l) (_hs : (Lit.int .i64 seq).wf = true) (hk : s.size ≤ maxLen) :
    Calls Tryd.prog 3 #[v, .int .i64 seq, .string s] W fun e W' => e = .returned (.bool true) ∧ Below W.heap.size W W' := treeRecords_walk v l seq s W hv hk
end Go.Proofs.YtkecajgdmompcaaDoor
namespace Go.Proofs.YtkecajgdmompcaaDoor.treeRecords
open Go.ChangeShapes Go.WideShapes Go.ChangeAt Go.RowKit Go.Deep Go.Joins
open Go.ChangeMaps (open_string shut_string)
set_option linter.unusedVariables false

theorem own : ownKnob Tryd.prog.godebug = none := by kernel_rfl
theorem laidOut : laidOutB Tryd.prog = true := by kernel_rfl

set_option maxHeartbeats 4000000 in
set_option maxRecDepth 100000 in
theorem lifted (os : Os) (started : os.Started) (H : Type) (enc : TypeId × Value → H) :
    ReturnsInHanded {} Tryd.checked os 3 .any (fun w args => (Rows.treeRecordsSpec.pre enc Tryd.prog Tryd.f3 [] false w args ∧ laidMetH Tryd.prog laidLs w) ∧ sizedMet enc Tryd.prog Tryd.f3 (OpenSpec.ofChange Rows.treeRecordsSpec) false w args)
      (Rows.treeRecordsSpec.post enc Tryd.prog Tryd.f3 false true false false) := by
  refine returnsInHanded_of_change_and (C := Tryd.checked) (X := fun w _ => laidMetH Tryd.prog laidLs w) (fun _ _ _ hh h => h.of_heap hh) own started (by kernel_rfl) Tryd.func3
    (ChangeSpec.witness_at (enc := enc) (C := Tryd.checked) (os := os) (X := fun w _ => laidMetH Tryd.prog laidLs w) false (laidWorld os) #[.slice none 0 0, .int .i64 0, .string ByteArray.empty] 8 rfl (by kernel_rfl) (by kernel_rfl) (by kernel_rfl) (by kernel_rfl) (by kernel_rfl) (laidWorld_met os _)) ?_
  intro W base args ds gs before hval0 hW _ _ hL _
  have hval : ∀ (j : Nat) t v, Tryd.f3.params[j]? = some t → args[j]? = some v → Value.okWide Tryd.prog W .any base t v := hval0
  have hW' := hW
  obtain ⟨p, q, hA0, hV, rfl, hfz, hnd⟩ := hW
  have hA : DataW.TrodAll enc Tryd.prog W 0 (fun _ => true) true Tryd.f3.params.toList args.toList ds p := hA0
  rw [Tryd.params3] at hA hval
  obtain ⟨v0, vs0, d0, ds0, p0, q0, hargs, rfl, rfl, h0, r0⟩ := trodAll_cons hA
  obtain ⟨v1, vs1, d1, ds1, p1, q1, rfl, rfl, rfl, h1, r1⟩ := trodAll_cons r0
  obtain ⟨v2, vs2, d2, ds2, p2, q2, rfl, rfl, rfl, h2, r2⟩ := trodAll_cons r1
  obtain ⟨rfl, rfl, rfl⟩ := trodAll_nil r2
  obtain rfl : args = #[v0, v1, v2] := by cases args; simp_all
  obtain ⟨rfl, rfl⟩ := trodVars_none hV
  have k0 := h0
  have lt0 : ∀ x ∈ p0, x.block < W.heap.size := by obtain ⟨m, hm⟩ := k0; exact DataW.trod_lt m _ _ _ hm
  obtain ⟨qa0, la0, ca0, rfl⟩ := okWide_slice Tryd.underlying22 (hval 0 22 v0 rfl rfl)
  obtain ⟨fu0, hf0⟩ := h0
  obtain ⟨l0, w0⟩ := open_changes Tryd.underlying22 Tryd.underlying36 (by kernel_rfl) rfl rfl rfl (by kernel_rfl) (by kernel_rfl) (by kernel_rfl) Tryd.underlying9 Tryd.underlying9 Tryd.underlying4 hf0
  obtain ⟨a1, rfl, rfl, rfl, w1⟩ := open_int Tryd.underlying3 (hval 1 3 v1 rfl rfl) h1
  obtain ⟨a2, rfl, rfl, rfl, w2⟩ := open_string Tryd.underlying9 (hval 2 9 v2 rfl rfl) h2
  clear hA0 hval0
  refine (law_records (.slice qa0 la0 ca0) l0 a1 a2 W (laid_of hL) w0 w1 w2).mono fun e W' ⟨he, bel⟩ => ?_
  subst he
  exact ⟨_, rfl, _, _, _, [], _, [], hW', trodAll_mk1 (shut_bool Tryd.underlying4 _), (trodAll_cons_mk (Below.trod laidOut (by kernel_rfl) (of_decide_eq_true (by kernel_rfl)) k0 bel lt0) (trodAll_cons_mk (shut_int Tryd.underlying3 w1) (trodAll_cons_mk (shut_string Tryd.underlying9 w2) trodAll_mk0))), rfl, bel.frame _, fun h => by cases h⟩

theorem over : Rows.TreeRecordsSaid :=
  OpenClaim.holds_of_wide 3 Tryd.f3 rfl rfl rfl rfl rfl rfl rfl ⟨rfl, rfl, rfl, rfl, rfl⟩ rfl rfl rfl rfl rfl (by kernel_rfl) Tryd.func3 (by kernel_rfl)
    (of_decide_eq_true (by kernel_rfl)) (by unfold Func.isWrapper; first | (rw [if_pos (by decide +kernel)]; kernel_rfl) | (rw [if_neg (by decide +kernel)]; exact ⟨rfl, rfl⟩))
    (fun os started H enc _ => lifted os started H enc)
end Go.Proofs.YtkecajgdmompcaaDoor.treeRecords
namespace Go.Proofs.YtkecajgdmompcaaDoor
open Go

theorem treeRecords_card : Rows.TreeRecordsCardSaid :=
  Claim7.holds_tied_plain_at .later [] [.data, .data, .data] true (true, "458c1335d7e22f550005dce928f7f5e8f117314a08158601a7953017a03fdf7b") true
    treeRecords.over (fun _ h => by cases h) (by kernel_rfl) (fun _ h => by cases h) treeRecords_row_tie rfl ⟨rfl, rfl⟩ (by kernel_rfl) rfl
    (fun f fn hf hfn => by
      obtain rfl : f = 3 := Option.some.inj ((show Tryd.prog.funcNamed "docket/docketlaw12.TreeRecords" = some 3 by kernel_rfl).symm.trans hf) |>.symm
      obtain rfl : fn = Tryd.f3 := (Option.some.inj (Tryd.func3.symm.trans hfn)).symm
      exact ⟨by kernel_rfl, fun j t ht => by
        rw [Tryd.params3] at ht
        have h3 : t = 22 ∨ t = 3 ∨ t = 9 := by
          rcases j with _ | _ | _ | j
          · exact (.inl (by simpa using ht.symm))
          · exact (.inr (.inl (by simpa using ht.symm)))
          · exact (.inr (.inr (by simpa using ht.symm)))
          · simp at ht
        rcases h3 with rfl | rfl | rfl
        · exact (show Tryd.prog.wantsStandIn 22 = false by kernel_rfl)
        · exact (show Tryd.prog.wantsStandIn 3 = false by kernel_rfl)
        · exact (show Tryd.prog.wantsStandIn 9 = false by kernel_rfl)⟩)
    (by kernel_rfl)
#print axioms treeRecords_card
end Go.Proofs.YtkecajgdmompcaaDoor
