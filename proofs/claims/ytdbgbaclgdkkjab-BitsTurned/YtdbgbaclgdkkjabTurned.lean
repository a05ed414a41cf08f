/-
  Proved: for all bytes b, every place and every change the law BitsTurned answers true: a single byte that is another one, and up to four side by side, change the sum.
  Conditions: none (every []byte that can be read, every int, every uint32).
-/
import Derived.Test.YtdbgbaclgdkkjabRows
import Derived.Test.YtdbgbaclgdkkjabBase
import Derived.Test.YtdbgbaclgdkkjabCrc
import Derived.WalkKit
import Derived.ProofKit
import Derived.OpenShut
import Derived.ShutString
import Derived.ChangeOld
import Derived.Below
namespace Go.Proofs.Ytdbgbaclgdkkjab.bitsTurned
open Go.ChangeShapes Go.WideShapes Go.ChangeAt Go.RowKit
open Go.ChangeMaps (open_string shut_string)
set_option linter.unusedVariables false

theorem own : ownKnob Try.prog.godebug = none := by kernel_rfl
theorem laidOut : laidOutB Try.prog = true := by kernel_rfl

open Go.Joins
theorem form_of {w : World} {base n : Nat} {v : Value} {L : List Value} (h : w.ownsRow base 5 1 v n L) (hn : 0 < n) : ∃ g c, v = .slice (some ⟨g, 0, none⟩) n c ∧ base ≤ g := by
  obtain ⟨g, c, rfl⟩ := ownsRow_form h hn
  exact ⟨g, c, rfl, (h.lt g rfl).1⟩
theorem Bs_set (ys : List Nat) (j c : Nat) : (Bs ys).set j (.int .u8 (c : Int)) = Bs (ys.set j c) := by simp [Bs, List.map_set]
theorem xor8 (a b : Nat) (ha : a < 256) (hb : b < 256) : bits BinOp.xor IntKind.u8 (a : Int) (b : Int) = ((a ^^^ b : Nat) : Int) := u8_xor_nat a b ha hb
/-- The bytes of the change. -/
def xBy (by_ k : Nat) : Nat := by_ / 2 ^ (8 * k) % 256
theorem xBy_lt (by_ k : Nat) : xBy by_ k < 256 := by unfold xBy; omega
/-! ### STEP 1: THE WALK -/
set_option maxHeartbeats 1000000 in
theorem walk_out (p : Option Addr) (len cap : Nat) (at_ by_ : Int) (w : World) (h0 : 0 ≤ by_) (h : 10000 < (len : Int) ∨ at_ < 0 ∨ (len : Int) ≤ at_ ∨ by_ = 0) :
    Calls Try.prog 3 #[.slice p len cap, .int .i64 at_, .int .u32 by_] w fun e w' => e = .returned (.bool true) ∧ Below w.heap.size w w' := by
  by_cases h1 : 10000 < (len : Int)
  · clear h
    go_enter Try.func3, Try.ntmps3
    go_wp2_with (go_at_call 5; refine (alive_any _).mono ?_; rintro e w1 ⟨rfl, hb1⟩)
    go_ret
    exact ⟨rfl, hb1⟩
  · by_cases h2 : at_ < 0
    · clear h
      go_enter Try.func3, Try.ntmps3
      go_wp2_with (go_at_call 5; refine (alive_any _).mono ?_; rintro e w1 ⟨rfl, hb1⟩)
      go_ret
      exact ⟨rfl, hb1⟩
    · by_cases h3 : (len : Int) ≤ at_
      · clear h
        go_enter Try.func3, Try.ntmps3
        go_wp2_with (go_at_call 5; refine (alive_any _).mono ?_; rintro e w1 ⟨rfl, hb1⟩)
        go_ret
        exact ⟨rfl, hb1⟩
      · have h4 : (by_ == 0) = true := by simp; omega
        clear h
        go_enter Try.func3, Try.ntmps3
        go_wp2_with (go_at_call 5; refine (alive_any _).mono ?_; rintro e w1 ⟨rfl, hb1⟩)
        go_ret
        exact ⟨rfl, hb1⟩
set_option maxHeartbeats 1000000 in
theorem walk_main (p : Option Addr) (cap : Nat) (xs : List Nat) (at_ by_ : Nat) (w : World) (hin : BIn w p xs) (hp : p = none → cap = 0) (hx : xs.length ≤ 10000) (ha : at_ < xs.length) (hb0 : 0 < by_) (hb : by_ < 4294967296) :
    Calls Try.prog 3 #[.slice p xs.length cap, .int .i64 at_, .int .u32 by_] w fun e w' => e = .returned (.bool true) ∧ Below w.heap.size w w' := by
  have HP : Hid (p = none → cap = 0) := hp
  have HI : Hid (BIn w p xs) := hin
  have HM : Hid (xs.length ≤ maxLen) := by show _ ≤ _; unfold maxLen; omega
  have Z1 : Hid (([] : List Nat).length + xs.length ≤ 140737488355328) := by show _ ≤ _; simp; omega
  have hb1 : ((by_ : Int) == 0) = false := by simp; omega
  clear hp hin
  go_enter Try.func3, Try.ntmps3
  go_wp2_with fail
  refine (alive_any _).mono ?_
  rintro e w1 ⟨rfl, b1⟩
  have z1 := b1.size
  have I1 := HI.out.below b1
  go_wp2_with (at_builtin; refine wpList_append_bytes _ rfl _ _ rfl w1.heap.size _ [] xs p _ cap rfl rfl rfl (World.ownsRow_nil _ _ _ _) I1 HP.out Z1.out (Nat.le_refl _) ?_)
  intro v2 w2 hown2 hgrow2
  have d2 : Below w1.heap.size w1 w2 := (Below.refl w1.heap.size w1).grown hgrow2 (Nat.le_refl _) (fun k hk => by simp [Value.ownBlock] at hk)
  have hown3 : w2.ownsRow w1.heap.size 5 1 v2 xs.length (Bs xs) := by simpa using hown2
  obtain ⟨g, c, rfl, hg⟩ := form_of hown3 (by omega)
  have O2 : Hid _ := hown3
  clear hown2 hown3 hgrow2 I1 Z1 HP
  go_wp2_with fail
  go_loopw [9, 10] (fun t i wr => ∃ k : Nat, k ≤ 4 ∧ at_ + k ≤ xs.length ∧ i = .int .i64 k ∧ t = .bool (turnB (xBy by_) k) ∧ wr.ownsRow w1.heap.size 5 1 (.slice (some ⟨g, 0, none⟩) xs.length c) xs.length (Bs (turnL xs at_ (xBy by_) k)) ∧ Below w1.heap.size w1 wr)
    (fun _ i _ => 4 - (intOf i).toNat)
  case atStart => exact ⟨0, by omega, by omega, rfl, rfl, O2.out, d2⟩
  case round =>
    obtain ⟨k, hk, hak, rfl, rfl, hown, hbel⟩ := hrel
    have hyl := turnL_len xs at_ (xBy by_) k
    have HYL : Hid ((turnL xs at_ (xBy by_) k).length = xs.length) := hyl
    have HYB : Hid (∀ c ∈ turnL xs at_ (xBy by_) k, c < 256) := turnL_bytes at_ HI.out.2 (xBy_lt by_) k
    clear hyl O2 d2
    by_cases hk4 : k < 4
    · by_cases hal : at_ + k < xs.length
      · have hcl2 : wr.cell? ⟨g, at_ + k, none⟩ = some (.int .u8 ((turnL xs at_ (xBy by_) k).getD (at_ + k) 0 : Nat)) := by
          rw [hown.cellAt (at_ + k) (by omega)]; simp [Bs, List.getD, List.getElem?_eq_getElem (show at_ + k < (turnL xs at_ (xBy by_) k).length from by rw [HYL.out]; exact hal)]
        have hfz : wr.frozen? ⟨g, at_ + k, none⟩ = false := hown.frozenAt _
        have HS : Hid (∀ u, (wr.setCell ⟨g, at_ + k, none⟩ u).ownsRow w1.heap.size 5 1 (.slice (some ⟨g, 0, none⟩) xs.length c) xs.length ((Bs (turnL xs at_ (xBy by_) k)).set (at_ + k) u)) := fun u => (hown.stored (at_ + k) u).1
        have hb8 := getD_lt HYB.out (at_ + k)
        have HTL : Hid (turnL xs at_ (xBy by_) (k + 1) = (turnL xs at_ (xBy by_) k).set (at_ + k) ((turnL xs at_ (xBy by_) k).getD (at_ + k) 0 ^^^ xBy by_ k)) := rfl
        have HTB : Hid (turnB (xBy by_) (k + 1) = (turnB (xBy by_) k || decide (xBy by_ k ≠ 0))) := rfl
        have hxe : ((by_ : Int) / 2 ^ (8 * k) % 256) = ((xBy by_ k : Nat) : Int) := by unfold xBy; simp
        have hxl := xBy_lt by_ k
        have hx8 := xor8 _ _ hb8 hxl
        generalize (turnL xs at_ (xBy by_) k).getD (at_ + k) 0 = y at *
        generalize turnL xs at_ (xBy by_) k = L at *
        generalize turnB (xBy by_) k = t at *
        generalize xBy by_ k = x at *
        clear hown
        cases t
        all_goals
          go_wp2
          go_roundw
          case rel => exact ⟨k + 1, by omega, by omega, by go_num, by rw [HTB.out]; first | rfl | (simp; rw [Bool.eq_iff_iff]; simp), by rw [HTL.out, ← Bs_set]; exact HS.out _, hbel.setCell hg _⟩
          case measure => simp [intOf]; omega
      · have hal' : xs.length ≤ at_ + k := by omega
        have BY : BIn wr (some ⟨g, 0, none⟩) (turnL xs at_ (xBy by_) k) := own_at hown HYL.out.symm HYB.out
        have HF : Hid _ := sum_turn (xs := xs) (p := at_) (xBy_lt by_) hk hak
        have HYM : Hid ((turnL xs at_ (xBy by_) k).length ≤ maxLen) := by show _ ≤ _; rw [HYL.out]; exact HM.out
        have b3 := b1.trans (hbel.mono z1)
        have BI := HI.out.below b3
        clear hown
        generalize turnB (xBy by_) k = t at *
        go_wp2_with fail
        refine (sum_at _ _ _ xs _ _ rfl rfl BI HM.out).mono ?_
        rintro e w4 ⟨rfl, rfl⟩
        go_wp2_with fail
        refine (sum_at _ _ _ (turnL xs at_ (xBy by_) k) _ _ HYL.out.symm rfl BY HYM.out).mono ?_
        rintro e w5 ⟨rfl, rfl⟩
        have hF := HF.out
        clear BY BI
        generalize ((sumN xs : Nat) : Int) = s1 at *
        generalize ((sumN (turnL xs at_ (xBy by_) k) : Nat) : Int) = s2 at *
        go_wp2
        go_ret
        exact ⟨by first | rfl | (simp [hF]; done) | (cases t <;> simp_all), b3⟩
    · have hk4' : 4 ≤ k := by omega
      have BY : BIn wr (some ⟨g, 0, none⟩) (turnL xs at_ (xBy by_) k) := own_at hown HYL.out.symm HYB.out
      have HF : Hid _ := sum_turn (xs := xs) (p := at_) (xBy_lt by_) hk hak
      have HYM : Hid ((turnL xs at_ (xBy by_) k).length ≤ maxLen) := by show _ ≤ _; rw [HYL.out]; exact HM.out
      have b3 := b1.trans (hbel.mono z1)
      have BI := HI.out.below b3
      clear hown
      generalize turnB (xBy by_) k = t at *
      go_wp2_with fail
      refine (sum_at _ _ _ xs _ _ rfl rfl BI HM.out).mono ?_
      rintro e w4 ⟨rfl, rfl⟩
      go_wp2_with fail
      refine (sum_at _ _ _ (turnL xs at_ (xBy by_) k) _ _ HYL.out.symm rfl BY HYM.out).mono ?_
      rintro e w5 ⟨rfl, rfl⟩
      have hF := HF.out
      clear BY BI
      generalize ((sumN xs : Nat) : Int) = s1 at *
      generalize ((sumN (turnL xs at_ (xBy by_) k) : Nat) : Int) = s2 at *
      go_wp2
      go_ret
      exact ⟨by first | rfl | (simp [hF]; done) | (cases t <;> simp_all), b3⟩
theorem walk (a0 : Option Addr) (len0 cap0 : Nat) (z0 : List Int) (a1 : Int) (a2 : Int) (w : World) (w0 : IsRow .u8 w a0 len0 cap0 z0) (w1 : (Lit.int .i64 a1).wf = true) (w2 : (Lit.int .u32 a2).wf = true) :
    Calls Try.prog 3 #[.slice a0 len0 cap0, .int .i64 a1, .int .u32 a2] w fun e w' => e = .returned (.bool true) ∧ Below w.heap.size w w' := by
  have hb := bounds_u32 w2
  obtain ⟨xs, rfl, hin, hc, hm, hp⟩ := row_bin w0
  by_cases h : 10000 < (xs.length : Int) ∨ a1 < 0 ∨ (xs.length : Int) ≤ a1 ∨ a2 = 0
  · exact walk_out a0 _ cap0 a1 a2 w hb.1 h
  · obtain ⟨n, rfl⟩ := Int.eq_ofNat_of_zero_le (show 0 ≤ a1 by omega)
    obtain ⟨m, rfl⟩ := Int.eq_ofNat_of_zero_le hb.1
    exact walk_main a0 cap0 xs n m w hin hp (by omega) (by omega) (by omega) (by omega)

/-! ### THE ROW's STEP: WRITTEN OUT: LEAVE IT -/
set_option maxRecDepth 100000 in
theorem lifted (os : Os) (started : os.Started) (H : Type) (enc : TypeId × Value → H) :
    ReturnsInHanded {} Try.checked os 3 .any (Rows.bitsTurnedSpec.pre6 enc Try.prog Try.f3 Rows.bitsTurnedRow.domain false) (Rows.bitsTurnedSpec.post enc Try.prog Try.f3 false true false false) := by
  refine returnsInHanded_of_change (C := Try.checked) own started (by kernel_rfl) Try.func3
    (ChangeSpec.witness6 (enc := enc) (C := Try.checked) false ⟨#[], #[.slice none 0 0, .int .i64 0, .int .u32 0], []⟩ 8 (by kernel_rfl) (by kernel_rfl) (by kernel_rfl) (by kernel_rfl)) ?_
  intro W base args ds gs before hval0 hW hcnd _
  have hval : ∀ (j : Nat) t v, Try.f3.params[j]? = some t → args[j]? = some v → Value.okWide Try.prog W .any base t v := hval0
  have hW' := hW
  obtain ⟨p, q, hA0, hV, rfl, hfz, hnd⟩ := hW
  have hA : DataW.TrodAll enc Try.prog W 0 (fun _ => true) true Try.f3.params.toList args.toList ds p := hA0
  rw [Try.params3] at hA hval
  obtain ⟨v0, vs0, d0, ds0, p0, q0, hargs, rfl, rfl, h0, r0⟩ := trodAll_cons hA
  obtain ⟨v1, vs1, d1, ds1, p1, q1, rfl, rfl, rfl, h1, r1⟩ := trodAll_cons r0
  obtain ⟨v2, vs2, d2, ds2, p2, q2, rfl, rfl, rfl, h2, r2⟩ := trodAll_cons r1
  obtain ⟨rfl, rfl, rfl⟩ := trodAll_nil r2
  obtain rfl : args = #[v0, v1, v2] := by cases args; simp_all
  obtain ⟨rfl, rfl⟩ := trodVars_none hV
  obtain ⟨a0, len0, cap0, rfl⟩ := okWide_slice Try.underlying22 (hval 0 22 v0 rfl rfl)
  have k0 := h0
  have lt0 : ∀ x ∈ p0, x.block < W.heap.size := by obtain ⟨m, hm⟩ := k0; exact DataW.trod_lt m _ _ _ hm
  obtain ⟨z0, w0⟩ : ∃ zs, IsRow .u8 W a0 len0 cap0 zs := by
    obtain ⟨fuel, hf⟩ := h0
    rcases open_ints Try.underlying22 Try.underlying5 (by kernel_rfl) hf with ⟨hcs, _⟩ | ⟨x, l, c, zs, hcs, _, hl, hm, hz, _, hcell, hwz⟩
    · simp [Value.cells] at hcs
      obtain ⟨rfl, rfl, rfl⟩ := hcs
      exact ⟨[], .inl ⟨rfl, rfl, rfl, rfl⟩⟩
    · simp [Value.cells] at hcs
      obtain ⟨rfl, rfl, rfl⟩ := hcs
      exact ⟨zs, .inr ⟨_, rfl, hl, hm, by simpa using hz, hcell, hwz⟩⟩
  obtain ⟨a1, rfl, rfl, rfl, w1⟩ := open_int Try.underlying3 (hval 1 3 v1 rfl rfl) h1
  obtain ⟨a2, rfl, rfl, rfl, w2⟩ := open_int Try.underlying23 (hval 2 23 v2 rfl rfl) h2
  clear hA0 hval0
  refine (walk a0 len0 cap0 z0 a1 a2 W w0 w1 w2).mono fun e W' ⟨he, bel⟩ => ?_
  subst he
  exact ⟨_, rfl, _, _, _, [], _, [], hW', trodAll_mk1 (shut_bool Try.underlying4 _), (trodAll_cons_mk (Below.trod laidOut (by kernel_rfl) (of_decide_eq_true (by kernel_rfl)) k0 bel lt0) (trodAll_cons_mk (shut_int Try.underlying3 w1) (trodAll_cons_mk (shut_int Try.underlying23 w2) trodAll_mk0))), rfl, bel.frame _, fun h => by cases h⟩

theorem over : Rows.bitsTurnedRow.holds Try.pinned (OpenSpec.ofChange Rows.bitsTurnedSpec) :=
  OpenClaim.holds_of_wide 3 Try.f3 rfl rfl rfl rfl rfl rfl rfl ⟨rfl, rfl, rfl, rfl, rfl⟩ rfl rfl rfl rfl rfl (by kernel_rfl) Try.func3 (by kernel_rfl)
    (of_decide_eq_true (by kernel_rfl)) (by unfold Func.isWrapper; first | (rw [if_pos (by decide +kernel)]; kernel_rfl) | (rw [if_neg (by decide +kernel)]; exact ⟨rfl, rfl⟩))
    (fun os started H enc _ => lifted os started H enc)

theorem proved : Rows.BitsTurnedSaid := over
end Go.Proofs.Ytdbgbaclgdkkjab.bitsTurned
namespace Go.Proofs.Ytdbgbaclgdkkjab
theorem bitsTurned_holds : Rows.BitsTurnedSaid := bitsTurned.proved
#print axioms bitsTurned_holds
end Go.Proofs.Ytdbgbaclgdkkjab
