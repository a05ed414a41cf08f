/-
  A key tells its parts again, and what tells parts is their key, at any parts and any text that together hold at most 1048576 values and letters (of lists of more than 100 parts and texts of more than 10,000 bytes the statement asks nothing).
-/
import Derived.Test.YthebnealkekdmaaRows
import Derived.Test.YthebnealkekdmaaJ07
import Derived.WalkKit
import Derived.ProofKit
import Derived.OpenShut
import Derived.ShutString
import Derived.ChangeOld
import Derived.Below
import Derived.JoinedCond
namespace Go.Proofs.Ythebnealkekdmaa.keyBack
open Go.ChangeShapes Go.WideShapes Go.ChangeAt Go.RowKit
open Go.ChangeMaps (open_string shut_string)
set_option linter.unusedVariables false

theorem own : ownKnob Try.prog.godebug = none := by kernel_rfl
theorem laidOut : laidOutB Try.prog = true := by kernel_rfl

set_option maxRecDepth 8000 in
set_option maxHeartbeats 4000000 in
theorem walk_main (q : Option Addr) (n c : Nat) (l : List PartV) (s : ByteArray) (w : World) (h : Parts w q n l) (hn : (n : Int) ≤ 100) (hs : (s.size : Int) ≤ 10000) :
    Calls Try.prog 6 #[.slice q n c, .string s] w fun e w' => e = .returned (.bool true) ∧ Below w.heap.size w w' := by
  have HP : Hid (Parts w q n l) := h
  have HS : Hid ((s.size : Int) ≤ 10000 ∧ (n : Int) ≤ 100) := ⟨hs, hn⟩
  obtain ⟨R, hR⟩ : ∃ R, makeR l = R := ⟨_, rfl⟩
  obtain ⟨ks, er⟩ := R
  have HR : Hid (makeR l = (ks, er)) := hR
  obtain ⟨L, E, hCR⟩ : ∃ L E, cutR (numsOf s) = (L, E) := ⟨_, _, rfl⟩
  have HCR : Hid (cutR (numsOf s) = (L, E)) := hCR
  clear h hR hCR
  go_enter Try.func6, Try.ntmps6
  go_wp2_with fail
  refine (alive_any _).mono ?_
  rintro e w1 ⟨rfl, hb1⟩
  have HB1 : Hid (Below w.heap.size w w1) := hb1
  clear hb1
  go_wp2_with fail
  refine (Make_any q n c l _ (HP.out.below HB1.out) (by have := HS.out; omega) _ HR.out).mono ?_
  rintro e w2 ⟨rfl, hb2⟩
  rw [show makeE (ks, er) = .tuple #[.string ks, .int .i64 er] from rfl]
  have HB2 : Hid (Below w.heap.size w w2) := below_bt HB1.out hb2
  clear hb2
  by_cases her : er = 0
  · subst her
    have hk := makeR_key (fun p hp => (HP.out.wf p hp).int) HR.out
    have HKC : Hid (cutR (numsOf ks) = (l, 0) ∧ ks.size ≤ 256) := ⟨cutR_yes hk.1, by have := hk.1.len; rw [numsOf_len] at this; exact this⟩
    clear hk
    go_wp2_with fail
    refine (Cut_any ks _ (by have := HKC.out.2; omega) l 0 HKC.out.1).mono ?_
    rintro e w3 ⟨v3, rfl, ho3, hb3⟩
    obtain ⟨q3, m3, rfl, _, _, _⟩ := ho3.form
    have HB3 : Hid (Below w.heap.size w w3) := below_bt HB2.out hb3
    have HO3 : Hid (PtsIn w3 q3 l) := ho3.pts
    clear ho3 hb3
    go_wp2_with fail
    refine (same_any q q3 n l.length c m3 l l _ HP.out.n rfl (HP.out.lies.below HB3.out) HO3.out (by have := HS.out; omega) (by have := HS.out; have := HP.out.n; omega) true (by simp)).mono ?_
    rintro e w4 ⟨rfl, hb4⟩
    have HB4 : Hid (Below w.heap.size w w4) := below_bt HB3.out hb4
    clear hb4
    go_wp2_with fail
    refine (Cut_any s _ (by have := HS.out; omega) L E HCR.out).mono ?_
    rintro e w7 ⟨v7, rfl, ho7, hb7⟩
    obtain ⟨q7, m7, rfl, _, _, _⟩ := ho7.form
    have HB7 : Hid (Below w.heap.size w w7) := below_bt HB4.out hb7
    have HO7 : Hid (PtsIn w7 q7 L) := ho7.pts
    clear ho7 hb7
    rcases cutR_is HCR.out with ⟨hE, hK⟩ | ⟨hE, hK⟩
    · subst hE
      have HK : Hid (IsKey (numsOf s) L) := hK
      clear hK
      have HL8 : Hid ((L.length : Int) ≤ 1000) := by have := HK.out.many; show _ ≤ _; omega
      go_wp2_with fail
      refine (Make_any q7 L.length m7 L _ ⟨rfl, HO7.out, (isKey_wf HK.out).1, (isKey_wf HK.out).2⟩ HL8.out _ (makeR_of HK.out)).mono ?_
      rintro e w8 ⟨rfl, hb8⟩
      rw [strOf_nums, show makeE (s, 0) = .tuple #[.string s, .int .i64 0] from rfl]
      have HB8 : Hid (Below w.heap.size w w8) := below_bt HB7.out hb8
      clear hb8
      go_wp2
      go_ret
      exact ⟨rfl, HB8.out⟩
    · subst hE
      subst hK
      go_wp2
      go_ret
      exact ⟨rfl, HB7.out⟩
  · have g2 : ((er : Int) == 0) = false := by simp; omega
    clear her
    go_wp2_with fail
    refine (Cut_any s _ (by have := HS.out; omega) L E HCR.out).mono ?_
    rintro e w7 ⟨v7, rfl, ho7, hb7⟩
    obtain ⟨q7, m7, rfl, _, _, _⟩ := ho7.form
    have HB7 : Hid (Below w.heap.size w w7) := below_bt HB2.out hb7
    have HO7 : Hid (PtsIn w7 q7 L) := ho7.pts
    clear ho7 hb7
    rcases cutR_is HCR.out with ⟨hE, hK⟩ | ⟨hE, hK⟩
    · subst hE
      have HK : Hid (IsKey (numsOf s) L) := hK
      clear hK
      have HL8 : Hid ((L.length : Int) ≤ 1000) := by have := HK.out.many; show _ ≤ _; omega
      go_wp2_with fail
      refine (Make_any q7 L.length m7 L _ ⟨rfl, HO7.out, (isKey_wf HK.out).1, (isKey_wf HK.out).2⟩ HL8.out _ (makeR_of HK.out)).mono ?_
      rintro e w8 ⟨rfl, hb8⟩
      rw [strOf_nums, show makeE (s, 0) = .tuple #[.string s, .int .i64 0] from rfl]
      have HB8 : Hid (Below w.heap.size w w8) := below_bt HB7.out hb8
      clear hb8
      go_wp2
      go_ret
      exact ⟨rfl, HB8.out⟩
    · subst hE
      subst hK
      go_wp2
      go_ret
      exact ⟨rfl, HB7.out⟩
theorem walk (va : Value) (l : List PartV) (s : ByteArray) (w : World) (ha : PtIn w va l) (ht : ∀ p ∈ l, p.text.size ≤ 1048576) :
    Calls Try.prog 6 #[va, .string s] w fun e w' => e = .returned (.bool true) ∧ Below w.heap.size w w' := by
  obtain ⟨qa, ca, rfl, pa, _⟩ := ha.lies
  by_cases h1 : 100 < l.length
  · have g1 : decide ((100 : Int) < (l.length : Int)) = true := decide_eq_true (by omega)
    clear h1 ha ht pa
    go_enter Try.func6, Try.ntmps6
    go_wp2_with fail
    refine (alive_any _).mono ?_
    rintro e w1 ⟨rfl, hb1⟩
    have HB1 : Hid (Below w.heap.size w w1) := hb1
    clear hb1
    go_wp2
    go_ret
    exact ⟨rfl, HB1.out⟩
  · have g1 : decide ((100 : Int) < (l.length : Int)) = false := decide_eq_false (by omega)
    by_cases h3 : 10000 < s.size
    · have g3 : decide ((10000 : Int) < (s.size : Int)) = true := decide_eq_true (by omega)
      clear h1 h3 ha ht pa
      go_enter Try.func6, Try.ntmps6
      go_wp2_with fail
      refine (alive_any _).mono ?_
      rintro e w1 ⟨rfl, hb1⟩
      have HB1 : Hid (Below w.heap.size w w1) := hb1
      clear hb1
      go_wp2
      go_ret
      exact ⟨rfl, HB1.out⟩
    · exact walk_main qa l.length ca l s w (parts_of ha ht) (by omega) (by omega)

/-! ### THE ROW's STEP -/
set_option maxRecDepth 100000 in
theorem lifted (os : Os) (started : os.Started) (H : Type) (enc : TypeId × Value → H) (F : Stop.Interp) :
    ReturnsInHanded {} Try.checked os 6 .any ((Rows.OpenSpec.upto Rows.keyBackSpec).pre6 enc Try.prog Try.f6 Rows.keyBackUptoRow.domain false) (((Rows.OpenSpec.upto Rows.keyBackSpec).at F).post enc Try.prog Try.f6 false true false false) := by
  refine returnsInHanded_of_cond (C := Try.checked) (s := Rows.OpenSpec.upto Rows.keyBackSpec) (k := Rows.uptoSmall) rfl own started (by kernel_rfl) Try.func6
    (OpenSpec.witness (enc := enc) (C := Try.checked) (s := Rows.OpenSpec.upto Rows.keyBackSpec) (k := Rows.uptoSmall) rfl false ⟨#[], #[.slice none 0 0, .string ByteArray.empty], []⟩ 8 (by kernel_rfl) (by kernel_rfl) (by kernel_rfl)
      (x := ([.nil, .lit (.string [])], [], [])) (by kernel_rfl) rfl (by kernel_rfl)) ?_
  intro W base args ds gs before hval0 hW hcnd hk _
  have hval : ∀ (j : Nat) t v, Try.f6.params[j]? = some t → args[j]? = some v → Value.okWide Try.prog W .any base t v := hval0
  have hW' := hW
  obtain ⟨p, q, hA0, hV, rfl, hfz, hnd⟩ := hW
  have hA : DataW.TrodAll enc Try.prog W 0 (fun _ => true) true Try.f6.params.toList args.toList ds p := hA0
  rw [Try.params6] at hA hval
  obtain ⟨v0, vs0, d0, ds0, p0, q0, hargs, rfl, rfl, h0, r0⟩ := trodAll_cons hA
  obtain ⟨v1, vs1, d1, ds1, p1, q1, rfl, rfl, rfl, h1, r1⟩ := trodAll_cons r0
  obtain ⟨rfl, rfl, rfl⟩ := trodAll_nil r1
  obtain rfl : args = #[v0, v1] := by cases args; simp_all
  obtain ⟨rfl, rfl⟩ := trodVars_none hV
  have hbd := bulk_bound hk
  have k0 := h0
  have lt0 : ∀ x ∈ p0, x.block < W.heap.size := by obtain ⟨m, hm⟩ := k0; exact DataW.trod_lt m _ _ _ hm
  obtain ⟨qa0, la0, ca0, rfl⟩ := okWide_slice Try.underlying28 (hval 0 28 v0 rfl rfl)
  obtain ⟨fu0, hf0⟩ := h0
  obtain ⟨l0, w0, t0⟩ := open_parts2 Try.underlying28 Try.underlying26 (by kernel_rfl) rfl rfl rfl (by kernel_rfl) (by kernel_rfl) (by kernel_rfl) Try.underlying5 Try.underlying2 Try.underlying9 hf0
  have s0 : ∀ p ∈ l0, p.text.size ≤ 1048576 := fun p hp => Nat.le_trans (t0 p hp) (Nat.le_trans (bulk_part (d := d0) (by simp)) hbd)
  obtain ⟨a1, rfl, rfl, rfl, w1⟩ := open_string Try.underlying9 (hval 1 9 v1 rfl rfl) h1
  clear hA0 hval0
  refine (walk (.slice qa0 la0 ca0) l0 a1 W w0 s0).mono fun e W' ⟨he, bel⟩ => ?_
  subst he
  exact ⟨_, rfl, _, _, _, [], _, [], hW', trodAll_mk1 (shut_bool Try.underlying4 _), (trodAll_cons_mk (Below.trod laidOut (by kernel_rfl) (of_decide_eq_true (by kernel_rfl)) k0 bel lt0) (trodAll_cons_mk (shut_string Try.underlying9 w1) trodAll_mk0)), rfl, bel.frame _, fun h => by cases h⟩

theorem over : Rows.keyBackUptoRow.holds Try.pinned (Rows.OpenSpec.upto Rows.keyBackSpec) :=
  OpenClaim.holds_of_cond 6 Try.f6 rfl rfl rfl rfl rfl rfl rfl ⟨rfl, rfl, rfl, rfl, rfl⟩ rfl rfl rfl rfl rfl (by kernel_rfl) Try.func6 (by kernel_rfl)
    (of_decide_eq_true (by kernel_rfl)) (by unfold Func.isWrapper; first | (rw [if_pos (by decide +kernel)]; kernel_rfl) | (rw [if_neg (by decide +kernel)]; exact ⟨rfl, rfl⟩))
    (fun os started H enc _ F => lifted os started H enc F)

theorem proved : Rows.KeyBackUptoSaid := over
end Go.Proofs.Ythebnealkekdmaa.keyBack
namespace Go.Proofs.Ythebnealkekdmaa
theorem keyBack_holds : Rows.KeyBackUptoSaid := keyBack.proved
#print axioms keyBack_holds
end Go.Proofs.Ythebnealkekdmaa
