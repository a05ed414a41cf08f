/-
  Proved: for every number n the law BitsShort answers true: Small writes n in as few bytes as its bits ask for, seven to a byte, Put in eight, and the last small byte is below 128.
  Conditions: none (every uint64).
-/
import Derived.Test.YtdbgbaclgdkkjaaRows
import Derived.Test.YtdbgbaclgdkkjaaOwn
import Derived.Below
import Derived.ChangeOld
import Derived.WalkKit
import Derived.ProofKit
import Derived.OpenShut
import Derived.ShutString
namespace Go.Proofs.Ytdbgbaclgdkkjaa.bitsShort
open Go.Joins
open Go.ChangeShapes Go.WideShapes Go.ChangeAt Go.RowKit
open Go.ChangeMaps (open_string shut_string)
set_option linter.unusedVariables false      -- a walk need not use every 'w<i>' (that an integer argument fits its kind)

theorem own : ownKnob Try.prog.godebug = none := by kernel_rfl

theorem len_hi {m : Nat} (h : ¬ m < 128) : (smallN m).length = (smallN (m / 128)).length + 1 := by rw [smallN_hi h]; simp
theorem smallN_last (n : Nat) : (smallN n).getD ((smallN n).length - 1) 0 < 128 := by
  induction n using Nat.strongRecOn with
  | _ n ih =>
    by_cases hn : n < 128
    · rw [smallN_lo hn]; simpa using hn
    · have h := ih (n / 128) (by omega)
      have hp := smallN_pos (n / 128)
      rw [smallN_hi hn]
      generalize smallN (n / 128) = l at *
      simp only [List.length_cons, Nat.add_sub_cancel]
      obtain ⟨k, hk⟩ : ∃ k, l.length = k + 1 := ⟨l.length - 1, by omega⟩
      rw [hk] at h ⊢
      simpa [List.getD] using h
/-! ### STEP 1: THE WALK -/
set_option maxHeartbeats 1000000 in
theorem walkN (n : Nat) (hn : n < 18446744073709551616) (w : World) :
    Calls Try.prog 8 #[.int .u64 n] w fun e w' => e = .returned (.bool true) ∧ Below w.heap.size w w' := by
  go_enter Try.func8, Try.ntmps8
  go_wp2_with (go_at_call 14; refine (alive_any _).mono ?_; rintro e w1 ⟨rfl, hb1⟩)
  go_loop [4, 5] (fun t x => ∃ k m : Nat, t = .int .i64 k ∧ x = .int .u64 (m / 128 : Nat) ∧ m < 18446744073709551616 ∧ 1 ≤ k ∧ k + (smallN m).length = (smallN n).length + 1) (fun _ x => (intOf x).toNat)
  case atStart => exact ⟨1, n, rfl, by simp, hn, by omega, by omega⟩
  case round =>
    obtain ⟨k, m, rfl, rfl, hm, hk1, hkm⟩ := hrel
    have hten := smallN_ten n hn
    have hpos := smallN_pos m
    have Hkm : Hid _ := hkm
    have hk10 : k ≤ 10 := by omega
    clear hkm
    by_cases hlt : m < 128
    · have hz : ((m : Int) / 128) ≤ 0 := by omega
      obtain rfl : k = (smallN n).length := by have := Hkm.out; rw [smallN_lo hlt] at this; simpa using this
      have hlast := smallN_last n
      clear Hkm hpos
      have hs1 := hb1.size
      go_wp2_with fail
      refine (small_any n _ hn).mono ?_
      rintro e w2 ⟨v, rfl, hown, hb2⟩
      obtain ⟨g, cap, rfl⟩ := ownsRow_form hown (by omega)
      obtain ⟨hbin, _⟩ := own_bin hown (smallN_bytes n)
      have hs2 := hb2.size
      clear hown
      go_wp2_with fail
      refine (put_any n _ hn).mono ?_
      rintro e w3 ⟨w4, rfl, rfl, hb3⟩
      have hs3 := hb3.size
      have hcell : (w4.alloc (.cells (Bs (putN n)).toArray 51)).cell? ⟨g, (smallN n).length - 1, none⟩ = some (.int .u8 ((smallN n).getD ((smallN n).length - 1) 0 : Nat)) := by
        have hh := ((hbin.below hb3).alloc (.cells (Bs (putN n)).toArray 51)).cell ((smallN n).length - 1) (by omega)
        simpa using hh
      clear hbin
      generalize (smallN n).getD ((smallN n).length - 1) 0 = c at *
      generalize (smallN n).length = q at *
      go_wp2
      go_ret
      exact ⟨ret_true (by omega : (c : Int) < 128), ((hb1.trans (hb2.mono hs1)).trans (hb3.mono (by omega))).alloc (by omega) _⟩
    · have hz : 0 < ((m : Int) / 128) := by omega
      have Hl : Hid _ := len_hi hlt
      go_wp2
      go_round
      case rel => exact ⟨k + 1, m / 128, by go_num, by go_num, by omega, by omega, by have := Hl.out; have := Hkm.out; omega⟩
      case measure => simp [intOf]; omega
theorem walk (a0 : Int) (w0 : (Lit.int .u64 a0).wf = true) (w : World) :
    Calls Try.prog 8 #[.int .u64 a0] w fun e w' => e = .returned (.bool true) ∧ Below w.heap.size w w' := by
  have hb := bounds_u64 w0
  obtain ⟨n, rfl⟩ := Int.eq_ofNat_of_zero_le hb.1
  exact walkN n (by omega) w

/-! ### THE ROW's STEP: WRITTEN OUT: LEAVE IT -/
set_option maxRecDepth 100000 in
theorem lifted (os : Os) (started : os.Started) (H : Type) (enc : TypeId × Value → H) :
    ReturnsInHanded {} Try.checked os 8 .any (Rows.bitsShortSpec.pre6 enc Try.prog Try.f8 Rows.bitsShortRow.domain false) (Rows.bitsShortSpec.post enc Try.prog Try.f8 false true false false) := by
  refine returnsInHanded_of_change (C := Try.checked) own started (by kernel_rfl) Try.func8
    (ChangeSpec.witness6 (enc := enc) (C := Try.checked) false ⟨#[], #[.int .u64 0], []⟩ 8 (by kernel_rfl) (by kernel_rfl) (by kernel_rfl) (by kernel_rfl)) ?_
  intro W base args ds gs before hval0 hW hcnd _
  have hval : ∀ (j : Nat) t v, Try.f8.params[j]? = some t → args[j]? = some v → Value.okWide Try.prog W .any base t v := hval0
  have hW' := hW
  obtain ⟨p, q, hA0, hV, rfl, hfz, hnd⟩ := hW
  have hA : DataW.TrodAll enc Try.prog W 0 (fun _ => true) true Try.f8.params.toList args.toList ds p := hA0
  rw [Try.params8] at hA hval
  obtain ⟨v0, vs0, d0, ds0, p0, q0, hargs, rfl, rfl, h0, r0⟩ := trodAll_cons hA
  obtain ⟨rfl, rfl, rfl⟩ := trodAll_nil r0
  obtain rfl : args = #[v0] := by cases args; simp_all
  obtain ⟨rfl, rfl⟩ := trodVars_none hV
  obtain ⟨a0, rfl, rfl, rfl, w0⟩ := open_int Try.underlying22 (hval 0 22 v0 rfl rfl) h0
  clear hA0 hval0
  refine (walk a0 w0 W).mono fun e W' ⟨he, bel⟩ => ?_
  subst he
  exact ⟨_, rfl, _, _, _, [], _, [], hW', trodAll_mk1 (shut_bool Try.underlying4 _), (trodAll_cons_mk (shut_int Try.underlying22 w0) trodAll_mk0), rfl, bel.frame _, fun h => by cases h⟩

theorem over : Rows.bitsShortRow.holds Try.pinned (OpenSpec.ofChange Rows.bitsShortSpec) :=
  OpenClaim.holds_of_wide 8 Try.f8 rfl rfl rfl rfl rfl rfl rfl ⟨rfl, rfl, rfl, rfl, rfl⟩ rfl rfl rfl rfl rfl (by kernel_rfl) Try.func8 (by kernel_rfl)
    (of_decide_eq_true (by kernel_rfl)) (by unfold Func.isWrapper; first | (rw [if_pos (by decide +kernel)]; kernel_rfl) | (rw [if_neg (by decide +kernel)]; exact ⟨rfl, rfl⟩))
    (fun os started H enc _ => lifted os started H enc)

theorem proved : Rows.BitsShortSaid := over
end Go.Proofs.Ytdbgbaclgdkkjaa.bitsShort
namespace Go.Proofs.Ytdbgbaclgdkkjaa
theorem bitsShort_holds : Rows.BitsShortSaid := bitsShort.proved
#print axioms bitsShort_holds
end Go.Proofs.Ytdbgbaclgdkkjaa
