/-
  One list of parts stands ahead of another one just if its key does, byte by byte, at any two lists that together hold at most 1048576 values and letters (of lists of more than 100 parts, or whose keys cannot be made, the statement asks nothing).
-/
import Derived.Test.YthebnealkekdmaaRows
import Derived.Test.YthebnealkekdmaaJ07
import Derived.WalkKit
import Derived.ProofKit
import Derived.OpenShut
import Derived.ShutString
import Derived.ChangeOld
import Derived.Below
import Derived.JoinedCond
namespace Go.Proofs.Ythebnealkekdmaa.keyStands
open Go.ChangeShapes Go.WideShapes Go.ChangeAt Go.RowKit
open Go.ChangeMaps (open_string shut_string)
set_option linter.unusedVariables false

theorem own : ownKnob Try.prog.godebug = none := by kernel_rfl
theorem laidOut : laidOutB Try.prog = true := by kernel_rfl

theorem less_str (x y : ByteArray) : Op.bytesLess x.toList y.toList = decide (cmpN (numsOf x) (numsOf y) < 0) := by
  rw [ByteArray.toList_eq, ByteArray.toList_eq, bytesLess_cmp, cmpS_nums]; rfl
theorem eq_str (x y : ByteArray) : (x.toList == y.toList) = decide (x = y) := by
  rw [ByteArray.toList_eq, ByteArray.toList_eq]
  by_cases h : x = y
  · subst h; simp
  · simp only [h, decide_false]
    exact beq_eq_false_iff_ne.2 (fun e => h (ba_ext.1 e))
set_option maxRecDepth 8000 in
set_option maxHeartbeats 4000000 in
theorem walk_main (qa qb : Option Addr) (na nb ca cb : Nat) (a b : List PartV) (w : World) (ha : Parts w qa na a) (hb : Parts w qb nb b) (hna : (na : Int) ≤ 100) (hnb : (nb : Int) ≤ 100) :
    Calls Try.prog 7 #[.slice qa na ca, .slice qb nb cb] w fun e w' => e = .returned (.bool true) ∧ Below w.heap.size w w' := by
  have HA : Hid (Parts w qa na a) := ha
  have HB : Hid (Parts w qb nb b) := hb
  have HS : Hid ((na : Int) ≤ 100 ∧ (nb : Int) ≤ 100) := ⟨hna, hnb⟩
  obtain ⟨R, hR⟩ : ∃ R, makeR a = R := ⟨_, rfl⟩
  obtain ⟨x, e1⟩ := R
  have HRA : Hid (makeR a = (x, e1)) := hR
  obtain ⟨R2, hR2⟩ : ∃ R, makeR b = R := ⟨_, rfl⟩
  obtain ⟨y, e2⟩ := R2
  have HRB : Hid (makeR b = (y, e2)) := hR2
  clear ha hb hR hR2
  go_enter Try.func7, Try.ntmps7
  go_wp2_with fail
  refine (alive_any _).mono ?_
  rintro e w1 ⟨rfl, hb1⟩
  have HB1 : Hid (Below w.heap.size w w1) := hb1
  clear hb1
  go_wp2_with fail
  refine (Make_any qa na ca a _ (HA.out.below HB1.out) (by have := HS.out; omega) _ HRA.out).mono ?_
  rintro e w2 ⟨rfl, hb2⟩
  rw [show makeE (x, e1) = .tuple #[.string x, .int .i64 e1] from rfl]
  have HB2 : Hid (Below w.heap.size w w2) := below_bt HB1.out hb2
  clear hb2
  go_wp2_with fail
  refine (Make_any qb nb cb b _ (HB.out.below HB2.out) (by have := HS.out; omega) _ HRB.out).mono ?_
  rintro e w3 ⟨rfl, hb3⟩
  rw [show makeE (y, e2) = .tuple #[.string y, .int .i64 e2] from rfl]
  have HB3 : Hid (Below w.heap.size w w3) := below_bt HB2.out hb3
  clear hb3
  by_cases h1 : e1 = 0
  · by_cases h2 : e2 = 0
    · subst h1 h2
      have ka := makeR_key (fun p hp => (HA.out.wf p hp).int) HRA.out
      have kb := makeR_key (fun p hp => (HB.out.wf p hp).int) HRB.out
      have hc : cmpN (numsOf x) (numsOf y) = cmpPs a b := by rw [← ka.1.key, ← kb.1.key]; exact cmp_key a b ka.1.ok kb.1.ok
      have hc2 : cmpN (numsOf y) (numsOf x) = cmpPs b a := by rw [← ka.1.key, ← kb.1.key]; exact cmp_key b a kb.1.ok ka.1.ok
      have heq : x = y ↔ a = b := by
        rw [ka.2, kb.2]
        constructor
        · intro e
          have := congrArg numsOf e
          rw [nums_strOf (keyN_byte (fun p hp => (ka.1.ok p hp).int)), nums_strOf (keyN_byte (fun p hp => (kb.1.ok p hp).int))] at this
          exact key_inj ka.1.ok kb.1.ok this
        · rintro rfl; rfl
      obtain ⟨r1, hr1⟩ : ∃ r, decide (cmpPs a b < 0) = r := ⟨_, rfl⟩
      obtain ⟨r2, hr2⟩ : ∃ r, decide (cmpPs b a < 0) = r := ⟨_, rfl⟩
      obtain ⟨r3, hr3⟩ : ∃ r, decide (x = y) = r := ⟨_, rfl⟩
      have g1 : Op.bytesLess x.toList y.toList = r1 := by rw [less_str, hc, hr1]
      have g2 : Op.bytesLess y.toList x.toList = r2 := by rw [less_str, hc2, hr2]
      have g3 : (x.toList == y.toList) = r3 := by rw [eq_str, hr3]
      have H1 : Hid (decide (cmpPs a b < 0) = r1) := hr1
      have H2 : Hid (decide (cmpPs b a < 0) = r2) := hr2
      have H3 : Hid (r3 = true ↔ a = b) := by show _ ↔ _; rw [← hr3, decide_eq_true_eq]; exact heq
      clear ka kb hc hc2 heq hr1 hr2 hr3
      go_wp2_with fail
      refine (less_any qa qb na nb ca cb a b _ HA.out.n HB.out.n (HA.out.lies.below HB3.out) (HB.out.lies.below HB3.out) (by have := HS.out; omega) (by have := HS.out; omega) r1 H1.out).mono ?_
      rintro e w4 ⟨rfl, hb4⟩
      have HB4 : Hid (Below w.heap.size w w4) := below_bt HB3.out hb4
      clear hb4
      go_wp2_with fail
      refine (less_any qb qa nb na cb ca b a _ HB.out.n HA.out.n (HB.out.lies.below HB4.out) (HA.out.lies.below HB4.out) (by have := HS.out; omega) (by have := HS.out; omega) r2 H2.out).mono ?_
      rintro e w5 ⟨rfl, hb5⟩
      have HB5 : Hid (Below w.heap.size w w5) := below_bt HB4.out hb5
      clear hb5
      go_wp2_with fail
      refine (same_any qa qb na nb ca cb a b _ HA.out.n HB.out.n (HA.out.lies.below HB5.out) (HB.out.lies.below HB5.out) (by have := HS.out; omega) (by have := HS.out; omega) r3 H3.out).mono ?_
      rintro e w6 ⟨rfl, hb6⟩
      have HB6 : Hid (Below w.heap.size w w6) := below_bt HB5.out hb6
      clear hb6
      go_wp2
      go_ret
      exact ⟨rfl, HB6.out⟩
    · have g2 : ((e2 : Int) == 0) = false := by simp; omega
      subst h1
      clear h2
      go_wp2
      go_ret
      exact ⟨rfl, HB3.out⟩
  · have g1 : ((e1 : Int) == 0) = false := by simp; omega
    clear h1
    go_wp2
    go_ret
    exact ⟨rfl, HB3.out⟩
theorem walk (va : Value) (a : List PartV) (vb : Value) (b : List PartV) (w : World) (ha : PtIn w va a) (ta : ∀ p ∈ a, p.text.size ≤ 1048576) (hb : PtIn w vb b) (tb : ∀ p ∈ b, p.text.size ≤ 1048576) :
    Calls Try.prog 7 #[va, vb] w fun e w' => e = .returned (.bool true) ∧ Below w.heap.size w w' := by
  obtain ⟨qa, ca, rfl, pa, _⟩ := ha.lies
  obtain ⟨qb, cb, rfl, pb, _⟩ := hb.lies
  by_cases h1 : 100 < a.length
  · have g1 : decide ((100 : Int) < (a.length : Int)) = true := decide_eq_true (by omega)
    clear h1 ha hb ta tb pa pb
    go_enter Try.func7, Try.ntmps7
    go_wp2_with fail
    refine (alive_any _).mono ?_
    rintro e w1 ⟨rfl, hb1⟩
    have HB1 : Hid (Below w.heap.size w w1) := hb1
    clear hb1
    go_wp2
    go_ret
    exact ⟨rfl, HB1.out⟩
  · have g1 : decide ((100 : Int) < (a.length : Int)) = false := decide_eq_false (by omega)
    by_cases h3 : 100 < b.length
    · have g3 : decide ((100 : Int) < (b.length : Int)) = true := decide_eq_true (by omega)
      clear h1 h3 ha hb ta tb pa pb
      go_enter Try.func7, Try.ntmps7
      go_wp2_with fail
      refine (alive_any _).mono ?_
      rintro e w1 ⟨rfl, hb1⟩
      have HB1 : Hid (Below w.heap.size w w1) := hb1
      clear hb1
      go_wp2
      go_ret
      exact ⟨rfl, HB1.out⟩
    · exact walk_main qa qb _ _ ca cb a b w (parts_of ha ta) (parts_of hb tb) (by omega) (by omega)

/-! ### THE ROW's STEP -/
set_option maxRecDepth 100000 in
theorem lifted (os : Os) (started : os.Started) (H : Type) (enc : TypeId × Value → H) (F : Stop.Interp) :
    ReturnsInHanded {} Try.checked os 7 .any ((Rows.OpenSpec.upto Rows.keyStandsSpec).pre6 enc Try.prog Try.f7 Rows.keyStandsUptoRow.domain false) (((Rows.OpenSpec.upto Rows.keyStandsSpec).at F).post enc Try.prog Try.f7 false true false false) := by
  refine returnsInHanded_of_cond (C := Try.checked) (s := Rows.OpenSpec.upto Rows.keyStandsSpec) (k := Rows.uptoSmall) rfl own started (by kernel_rfl) Try.func7
    (OpenSpec.witness (enc := enc) (C := Try.checked) (s := Rows.OpenSpec.upto Rows.keyStandsSpec) (k := Rows.uptoSmall) rfl false ⟨#[], #[.slice none 0 0, .slice none 0 0], []⟩ 8 (by kernel_rfl) (by kernel_rfl) (by kernel_rfl)
      (x := ([.nil, .nil], [], [])) (by kernel_rfl) rfl (by kernel_rfl)) ?_
  intro W base args ds gs before hval0 hW hcnd hk _
  have hval : ∀ (j : Nat) t v, Try.f7.params[j]? = some t → args[j]? = some v → Value.okWide Try.prog W .any base t v := hval0
  have hW' := hW
  obtain ⟨p, q, hA0, hV, rfl, hfz, hnd⟩ := hW
  have hA : DataW.TrodAll enc Try.prog W 0 (fun _ => true) true Try.f7.params.toList args.toList ds p := hA0
  rw [Try.params7] at hA hval
  obtain ⟨v0, vs0, d0, ds0, p0, q0, hargs, rfl, rfl, h0, r0⟩ := trodAll_cons hA
  obtain ⟨v1, vs1, d1, ds1, p1, q1, rfl, rfl, rfl, h1, r1⟩ := trodAll_cons r0
  obtain ⟨rfl, rfl, rfl⟩ := trodAll_nil r1
  obtain rfl : args = #[v0, v1] := by cases args; simp_all
  obtain ⟨rfl, rfl⟩ := trodVars_none hV
  have hbd := bulk_bound hk
  have k0 := h0
  have lt0 : ∀ x ∈ p0, x.block < W.heap.size := by obtain ⟨m, hm⟩ := k0; exact DataW.trod_lt m _ _ _ hm
  obtain ⟨qa0, la0, ca0, rfl⟩ := okWide_slice Try.underlying28 (hval 0 28 v0 rfl rfl)
  obtain ⟨fu0, hf0⟩ := h0
  obtain ⟨l0, w0, t0⟩ := open_parts2 Try.underlying28 Try.underlying26 (by kernel_rfl) rfl rfl rfl (by kernel_rfl) (by kernel_rfl) (by kernel_rfl) Try.underlying5 Try.underlying2 Try.underlying9 hf0
  have s0 : ∀ p ∈ l0, p.text.size ≤ 1048576 := fun p hp => Nat.le_trans (t0 p hp) (Nat.le_trans (bulk_part (d := d0) (by simp)) hbd)
  have k1 := h1
  have lt1 : ∀ x ∈ p1, x.block < W.heap.size := by obtain ⟨m, hm⟩ := k1; exact DataW.trod_lt m _ _ _ hm
  obtain ⟨qa1, la1, ca1, rfl⟩ := okWide_slice Try.underlying28 (hval 1 28 v1 rfl rfl)
  obtain ⟨fu1, hf1⟩ := h1
  obtain ⟨l1, w1, t1⟩ := open_parts2 Try.underlying28 Try.underlying26 (by kernel_rfl) rfl rfl rfl (by kernel_rfl) (by kernel_rfl) (by kernel_rfl) Try.underlying5 Try.underlying2 Try.underlying9 hf1
  have s1 : ∀ p ∈ l1, p.text.size ≤ 1048576 := fun p hp => Nat.le_trans (t1 p hp) (Nat.le_trans (bulk_part (d := d1) (by simp)) hbd)
  clear hA0 hval0
  refine (walk (.slice qa0 la0 ca0) l0 (.slice qa1 la1 ca1) l1 W w0 s0 w1 s1).mono fun e W' ⟨he, bel⟩ => ?_
  subst he
  exact ⟨_, rfl, _, _, _, [], _, [], hW', trodAll_mk1 (shut_bool Try.underlying4 _), (trodAll_cons_mk (Below.trod laidOut (by kernel_rfl) (of_decide_eq_true (by kernel_rfl)) k0 bel lt0) (trodAll_cons_mk (Below.trod laidOut (by kernel_rfl) (of_decide_eq_true (by kernel_rfl)) k1 bel lt1) trodAll_mk0)), rfl, bel.frame _, fun h => by cases h⟩

theorem over : Rows.keyStandsUptoRow.holds Try.pinned (Rows.OpenSpec.upto Rows.keyStandsSpec) :=
  OpenClaim.holds_of_cond 7 Try.f7 rfl rfl rfl rfl rfl rfl rfl ⟨rfl, rfl, rfl, rfl, rfl⟩ rfl rfl rfl rfl rfl (by kernel_rfl) Try.func7 (by kernel_rfl)
    (of_decide_eq_true (by kernel_rfl)) (by unfold Func.isWrapper; first | (rw [if_pos (by decide +kernel)]; kernel_rfl) | (rw [if_neg (by decide +kernel)]; exact ⟨rfl, rfl⟩))
    (fun os started H enc _ F => lifted os started H enc F)

theorem proved : Rows.KeyStandsUptoSaid := over
end Go.Proofs.Ythebnealkekdmaa.keyStands
namespace Go.Proofs.Ythebnealkekdmaa
theorem keyStands_holds : Rows.KeyStandsUptoSaid := keyStands.proved
#print axioms keyStands_holds
end Go.Proofs.Ythebnealkekdmaa
