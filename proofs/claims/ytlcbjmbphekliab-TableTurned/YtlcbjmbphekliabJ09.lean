/-
  For any entries, any place and any change the law TableTurned answers true: a table in which one byte is another one is no table.
-/
import Derived.Test.YtlcbjmbphekliabJ08
import Derived.Test.YtlcbjmbphekliabRows
import Derived.WalkKit
import Derived.ProofKit
import Derived.OpenShut
import Derived.ShutString
import Derived.ChangeOld
import Derived.Below
namespace Go.Proofs.Ytlcbjmbphekliab
open Go.RowKit Go.WideShapes

def threeL : List EntV := [⟨⟨#[97]⟩, ByteArray.empty, 2, false⟩, ⟨⟨#[97]⟩, ByteArray.empty, 1, false⟩, ⟨⟨#[98]⟩, ByteArray.empty, 3, true⟩]
theorem three_any (w : World) : Calls Try.prog 13 #[] w fun e w' => e = .returned (.slice (some ⟨w.heap.size, 0, none⟩) 3 3) ∧ EntsL w' (some ⟨w.heap.size, 0, none⟩) 3 threeL ∧ Below w.heap.size w w' := by
  go_enter Try.func13, Try.ntmps13
  go_wp2
  go_ret
  refine ⟨rfl, ⟨rfl, fun _ => ⟨w.heap.size, 0, rfl, fun i hi => ?_⟩⟩, below_alloc _ _⟩
  have hh := heap_alloc_new w (.cells #[.string ⟨#[97]⟩, .string ⟨#[]⟩, .int .i64 2, .bool false, .string ⟨#[97]⟩, .string ⟨#[]⟩, .int .i64 1, .bool false, .string ⟨#[98]⟩, .string ⟨#[]⟩, .int .i64 3, .bool true] 37)
  have hi2 : i = 0 ∨ i = 1 ∨ i = 2 := by simp only [threeL, List.length_cons, List.length_nil] at hi; omega
  rcases hi2 with rfl | rfl | rfl
  · exact ⟨Lib.cell_of_heap hh 0, Lib.cell_of_heap hh 1, Lib.cell_of_heap hh 2, Lib.cell_of_heap hh 3⟩
  · exact ⟨Lib.cell_of_heap hh 4, Lib.cell_of_heap hh 5, Lib.cell_of_heap hh 6, Lib.cell_of_heap hh 7⟩
  · exact ⟨Lib.cell_of_heap hh 8, Lib.cell_of_heap hh 9, Lib.cell_of_heap hh 10, Lib.cell_of_heap hh 11⟩
theorem check_three : checkE threeL = 0 := by decide +kernel
theorem pagesN_len : ∀ (ps : List (List EntV)) (K : Nat), (∀ p ∈ ps, (pageN p).length ≤ K) → (pagesN ps).length ≤ K * ps.length
  | [], _, _ => by simp [pagesN]
  | p :: ps, K, h => by
    have h1 := h p (by simp)
    have h2 := pagesN_len ps K (fun q hq => h q (by simp [hq]))
    rw [pagesN_cons, List.length_append, List.length_cons, Nat.mul_add, Nat.mul_one]; omega
/-- The table of few entries is not too long. -/
theorem few_made {l : List EntV} (hc : checkE l = 0) (h0 : 0 < l.length) (hl : l.length ≤ 70) : ∃ ys, makeT l = (ys, 0) := by
  have hp := parts_is l
  have hn : (partE l).length ≤ 70 := Nat.le_trans (len_flat _ hp.pos) (by rw [hp.flat]; exact hl)
  have h1 := pagesN_len (partE l) 6000 (fun p hm => (hp.small hc p hm).2)
  have h2 := spotsN_len (partE l) (fun p hm => spotN_len (hp.small hc p hm).1 (hp.pos p hm) (by have := (hp.small hc p hm).2; omega))
  have h3 := smallN_five (partE l).length (by omega)
  have h4 : (indexN (partE l)).length = (smallN (partE l).length).length + (spotsN (partE l)).length := by unfold indexN; rw [List.length_append]
  have h5 : 6000 * (partE l).length ≤ 6000 * 70 := Nat.mul_le_mul_left _ hn
  have h6 : 600 * (partE l).length ≤ 600 * 70 := Nat.mul_le_mul_left _ hn
  exact ⟨_, makeT_is hc h0 (by rw [tableN_len, hp.flat, sieveN_len]; omega)⟩
theorem key_a : (⟨#[97]⟩ : ByteArray).size = 1 := rfl
theorem make_three : ∃ ys, makeT threeL = (ys, 0) ∧ findT ys ⟨#[97]⟩ 1 = (⟨⟨#[97]⟩, ByteArray.empty, 1, false⟩, true, 0) := by
  obtain ⟨ys, h⟩ := few_made check_three (by decide) (by decide)
  refine ⟨ys, h, ?_⟩
  rw [find_made h (by decide) (by decide) (by decide) (by decide)]
  rfl
theorem own_hand {w : World} {base : Nat} {v : Value} {ys : List Nat} (h : w.ownsRow base 5 1 v ys.length (Bs ys)) (hy : ∀ c ∈ ys, c < 256) : ∃ p c, v = .slice p ys.length c ∧ BHand w p ys.length c ys := by
  obtain ⟨p, c, rfl, h1, h2, h3⟩ := own_form h
  exact ⟨p, c, rfl, rfl, own_in h hy, h1, h2, h3⟩
set_option maxHeartbeats 1000000 in
theorem alive_any (w : World) : Calls Try.prog 5 #[] w fun e w' => e = .returned (.bool true) ∧ Below w.heap.size w w' := by
  obtain ⟨ys, hm, hf⟩ := make_three
  have HM : Hid (makeT threeL = (ys, 0) ∧ findT ys ⟨#[97]⟩ 1 = (⟨⟨#[97]⟩, ByteArray.empty, 1, false⟩, true, 0)) := ⟨hm, hf⟩
  clear hm hf
  go_enter Try.func5, Try.ntmps5
  go_wp2_with fail
  refine (three_any _).mono ?_
  rintro e w1 ⟨rfl, he1, hb1⟩
  have HB1 : Hid (Below w.heap.size w w1) := hb1
  have HMK := Make_t _ 3 3 threeL w1 he1 (by unfold maxLen; omega) ys 0 HM.out.1
  clear he1 hb1
  go_wp2_with fail
  refine HMK.mono ?_
  rintro e w2 ⟨v, rfl, ho2, hb2⟩
  obtain ⟨p, c, rfl, hh⟩ := own_hand ho2 (makeT_lt HM.out.1)
  have HB2 : Hid (Below w.heap.size w w2) := below_bt HB1.out hb2
  have HFD := Find_t p ys.length c ys ⟨#[97]⟩ 1 w2 hh _ _ _ HM.out.2 (by rw [key_a]; decide)
  rw [entV_def] at HFD
  clear ho2 hb2 HMK hh
  go_wp2_with fail
  refine HFD.mono ?_
  rintro e w3 ⟨rfl, hb3⟩
  have HB3 : Hid (Below w.heap.size w w3) := below_bt HB2.out hb3
  clear hb3 HFD
  go_wp2
  go_ret
  exact ⟨rfl, below_bt HB3.out (below_alloc _ _)⟩
set_option maxRecDepth 8000 in
set_option maxHeartbeats 1000000 in
theorem heavy_any (q : Option Addr) (n c : Nat) (l : List EntV) (w : World) (h : EntsL w q n l) (hn : (n : Int) ≤ 9223372036854775807) :
    Calls Try.prog 6 #[.slice q n c] w fun e w' => (∃ r : Bool, e = .returned (.bool r) ∧ (r = false → n ≤ 5000)) ∧ Below w.heap.size w w' := by
  have HN : Hid (n = l.length) := h.n
  have HQ : Hid (EntsIn w q l) := h.lies
  clear h
  go_enter Try.func6, Try.ntmps6
  go_wp2
  go_loopw [3, 4] (fun t i wr => ∃ k : Nat, ∃ z : Int, k ≤ n ∧ i = .int .i64 k ∧ t = .int .i64 z ∧ Below w.heap.size w wr) (fun _ i _ => n - (intOf i).toNat)
  case atStart => exact ⟨0, 0, by omega, rfl, rfl, Below.refl _ _⟩
  case round =>
    obtain ⟨k, z, hk, rfl, rfl, hbel⟩ := hrel
    have HBE : Hid (Below w.heap.size w wr) := hbel
    clear hbel
    by_cases hkn : k < n
    · have g1 : decide (k < n) = true := decide_eq_true hkn
      have hkI : (k : Int) < (n : Int) := by omega
      have hk0 : (0 : Int) ≤ (k : Int) := by omega
      obtain ⟨ba, oa, rfl⟩ := HQ.out.addr (by have := HN.out; omega)
      obtain ⟨x0, x1, _, _⟩ := (HQ.out.below HBE.out).at (k := k) (by have := HN.out; omega)
      generalize (l.getD k zeroE).key = ke at *
      generalize (l.getD k zeroE).val = ve at *
      go_wp2
      go_region
      go_wp2
      go_roundw
      case rel => exact ⟨k + 1, _, by omega, by go_num, rfl, HBE.out.drew⟩
      case measure => simp [intOf]; omega
    · have g1 : decide (k < n) = false := decide_eq_false hkn
      have hkI : (n : Int) ≤ (k : Int) := by omega
      by_cases h5 : n ≤ 5000
      · have HR : Hid (n ≤ 5000) := h5
        by_cases hm : 200 < n ∧ n ≤ 4096
        · have q1 : decide ((200 : Int) < (n : Int)) = true := decide_eq_true (by omega)
          have q2 : decide ((n : Int) ≤ 4096) = true := decide_eq_true (by omega)
          clear h5 hm
          go_wp2
          go_ret
          exact ⟨⟨_, rfl, fun _ => HR.out⟩, HBE.out⟩
        · have q3 : decide ((5000 : Int) < (n : Int)) = false := decide_eq_false (by omega)
          have HZ : Hid (∀ A B C : Bool, decide ((300000 : Int) < z) = A → decide (z < 600000) = B → decide ((900000 : Int) < z) = C → True) := fun _ _ _ _ _ _ => trivial
          obtain ⟨A, hA⟩ : ∃ A, decide ((300000 : Int) < z) = A := ⟨_, rfl⟩
          obtain ⟨B, hB⟩ : ∃ B, decide (z < 600000) = B := ⟨_, rfl⟩
          obtain ⟨C, hC⟩ : ∃ C, decide ((900000 : Int) < z) = C := ⟨_, rfl⟩
          rcases Nat.lt_or_ge 200 n with h2 | h2
          · have q1 : decide ((200 : Int) < (n : Int)) = true := decide_eq_true (by omega)
            have q2 : decide ((n : Int) ≤ 4096) = false := decide_eq_false (by omega)
            clear h5 hm h2
            cases A <;> cases B <;> cases C <;> (go_wp2; go_ret; exact ⟨⟨_, rfl, fun _ => HR.out⟩, HBE.out⟩)
          · have q1 : decide ((200 : Int) < (n : Int)) = false := decide_eq_false (by omega)
            clear h5 hm h2
            cases A <;> cases B <;> cases C <;> (go_wp2; go_ret; exact ⟨⟨_, rfl, fun _ => HR.out⟩, HBE.out⟩)
      · have q1 : decide ((200 : Int) < (n : Int)) = true := decide_eq_true (by omega)
        have q2 : decide ((n : Int) ≤ 4096) = false := decide_eq_false (by omega)
        have q3 : decide ((5000 : Int) < (n : Int)) = true := decide_eq_true (by omega)
        clear h5
        go_wp2
        go_ret
        exact ⟨⟨_, rfl, fun h => by cases h⟩, HBE.out⟩
end Go.Proofs.Ytlcbjmbphekliab
namespace Go.Proofs.Ytlcbjmbphekliab.tableTurned
open Go.ChangeShapes Go.WideShapes Go.ChangeAt Go.RowKit
open Go.ChangeMaps (open_string shut_string)
set_option linter.unusedVariables false

theorem own : ownKnob Try.prog.godebug = none := by kernel_rfl
theorem laidOut : laidOutB Try.prog = true := by kernel_rfl

theorem xor8 (a b : Nat) (ha : a < 256) (hb : b < 256) : bits BinOp.xor IntKind.u8 (a : Int) (b : Int) = ((a ^^^ b : Nat) : Int) := u8_xor_nat a b ha hb
set_option maxRecDepth 8000 in
set_option maxHeartbeats 2000000 in
theorem walk (va : Value) (l : List EntV) (at_ : Int) (by_ : Int) (w : World) (ha : Ents w va l) (hat : (Lit.int .i64 at_).wf = true) (hby : (Lit.int .u8 by_).wf = true) :
    Calls Try.prog 3 #[va, .int .i64 at_, .int .u8 by_] w fun e w' => e = .returned (.bool true) ∧ Below w.heap.size w w' := by
  obtain ⟨q, c, rfl, hq, hc1, hc2, hc3⟩ := ha.lies
  have HQ : Hid (EntsIn w q l ∧ (l.length : Int) ≤ 9223372036854775807 ∧ l.length ≤ c ∧ c ≤ maxLen) := ⟨hq, by unfold maxLen at hc2; omega, hc1, hc2⟩
  obtain ⟨ys, E, hR⟩ : ∃ ys E, makeT l = (ys, E) := ⟨_, _, rfl⟩
  have HR : Hid (makeT l = (ys, E)) := hR
  have hbb := bounds_u8 hby
  obtain ⟨y, rfl⟩ := Int.eq_ofNat_of_zero_le hbb.1
  have HY : Hid (y < 256) := by show _ < _; omega
  clear ha hq hc1 hc2 hc3 hR hat hby hbb
  go_enter Try.func3, Try.ntmps3
  go_wp2_with fail
  refine (alive_any _).mono ?_
  rintro e w1 ⟨rfl, hb1⟩
  have HB1 : Hid (Below w.heap.size w w1) := hb1
  clear hb1
  go_wp2_with fail
  refine (heavy_any q l.length c l _ ⟨rfl, HQ.out.1.below HB1.out⟩ HQ.out.2.1).mono ?_
  rintro e w2 ⟨⟨r, rfl, hr⟩, hb2⟩
  have HB2 : Hid (Below w.heap.size w w2) := below_bt HB1.out hb2
  clear hb2 hr
  cases r with
  | true =>
    go_wp2
    go_ret
    exact ⟨rfl, HB2.out⟩
  | false =>
    go_wp2_with fail
    refine (Make_t q l.length c l _ ⟨rfl, HQ.out.1.below HB2.out⟩ HQ.out.2.2 ys E HR.out).mono ?_
    rintro e w3 ⟨v3, rfl, ho3, hb3⟩
    obtain ⟨p3, c3, rfl, hx1, hx2, hx3⟩ := own_form ho3
    have HB3 : Hid (Below w.heap.size w w3) := below_bt HB2.out hb3
    rcases Nat.eq_zero_or_pos E with h0 | h0
    · subst h0
      by_cases h1 : at_ < 0
      · clear ho3 hb3 hx1 hx2 hx3
        go_wp2
        go_ret
        exact ⟨rfl, HB3.out⟩
      · obtain ⟨k, rfl⟩ := Int.eq_ofNat_of_zero_le (show 0 ≤ at_ by omega)
        have h1' : decide ((k : Int) < 0) = false := decide_eq_false h1
        clear h1
        by_cases h2 : ys.length ≤ k
        · have g2 : decide ((ys.length : Int) ≤ (k : Int)) = true := decide_eq_true (by omega)
          have g2' : decide (ys.length ≤ k) = true := decide_eq_true h2
          clear ho3 hb3 hx1 hx2 hx3
          go_wp2
          go_ret
          exact ⟨rfl, HB3.out⟩
        · have g2 : decide ((ys.length : Int) ≤ (k : Int)) = false := decide_eq_false (by omega)
          have g2' : decide (ys.length ≤ k) = false := decide_eq_false h2
          have hkI : (k : Int) < (ys.length : Int) := by omega
          have hk0 : (0 : Int) ≤ (k : Int) := by omega
          have HKL : Hid (k < ys.length) := by show _ < _; omega
          by_cases h3 : y = 0
          · have g3 : ((y : Int) == 0) = true := by simp [h3]
            clear ho3 hb3 hx1 hx2 hx3 h2 h3
            go_wp2
            go_ret
            exact ⟨rfl, HB3.out⟩
          · have g3 : ((y : Int) == 0) = false := by simp; omega
            have HRN : Hid (readT (ys.set k (ys.getD k 0 ^^^ y)) = none) := turnedT HR.out HKL.out h3 HY.out
            have hyb : ∀ c ∈ ys, c < 256 := makeT_lt HR.out
            obtain ⟨g, cur, rfl, hgb, hgh⟩ := own_some ho3 (by have := HKL.out; omega)
            have hbin := own_in ho3 hyb
            have e0 := hbin.cell k HKL.out
            rw [Nat.zero_add] at e0
            have hfz : w3.frozen? ⟨g, k, none⟩ = false := by simp [World.frozen?, hgh]
            obtain ⟨x, hx⟩ : ∃ x, ys.getD k 0 = x := ⟨_, rfl⟩
            have hx256 : x < 256 := by rw [← hx]; exact getD_lt hyb k
            rw [hx] at e0
            have hxor := xor8 x y hx256 HY.out
            have HW4 : Hid (BIn (w3.setCell ⟨g, k, none⟩ (.int .u8 ((x ^^^ y : Nat) : Int))) (some ⟨g, 0, none⟩) (ys.set k (x ^^^ y)) ∧ Below w.heap.size w (w3.setCell ⟨g, k, none⟩ (.int .u8 ((x ^^^ y : Nat) : Int)))) := ⟨bin_set hgh hbin (xor_byte hx256 HY.out), HB3.out.setCell (by have := HB2.out.size; show w.heap.size ≤ g; omega) _⟩
            have HN2 : Hid (readT (ys.set k (x ^^^ y)) = none) := by rw [← hx]; exact HRN.out
            have HC : Hid (ys.length = (ys.set k (x ^^^ y)).length ∧ ys.length ≤ c3 ∧ c3 ≤ maxLen ∧ (some (⟨g, 0, none⟩ : Addr) = none → c3 = 0)) := ⟨by rw [List.length_set], hx1, hx2, fun h => by cases h⟩
            generalize x ^^^ y = xy at *
            clear ho3 hb3 hx1 hx2 hx3 h2 h3 hyb hgb hgh hbin hx HRN hx256
            go_wp2_with fail
            refine (Check_t (some ⟨g, 0, none⟩) ys.length c3 (ys.set k xy) _ ⟨HC.out.1, HW4.out.1, HC.out.2⟩ 90 (okT_none HN2.out)).mono ?_
            rintro e w5 ⟨rfl, hb5⟩
            have HB5 : Hid (Below w.heap.size w w5) := below_bt HW4.out.2 hb5
            clear hb5
            go_wp2
            go_ret
            exact ⟨rfl, HB5.out⟩
    · have hne : ((E : Int) != 0) = true := by simp; omega
      clear h0 ho3 hb3 hx1 hx2 hx3
      go_wp2
      go_ret
      exact ⟨rfl, HB3.out⟩

/-! ### THE ROW's STEP -/
set_option maxRecDepth 100000 in
theorem lifted (os : Os) (started : os.Started) (H : Type) (enc : TypeId × Value → H) :
    ReturnsInHanded {} Try.checked os 3 .any (Rows.tableTurnedSpec.pre6 enc Try.prog Try.f3 Rows.tableTurnedRow.domain false) (Rows.tableTurnedSpec.post enc Try.prog Try.f3 false true false false) := by
  refine returnsInHanded_of_change (C := Try.checked) own started (by kernel_rfl) Try.func3
    (ChangeSpec.witness6 (enc := enc) (C := Try.checked) false ⟨#[], #[.slice none 0 0, .int .i64 0, .int .u8 0], []⟩ 8 (by kernel_rfl) (by kernel_rfl) (by kernel_rfl) (by kernel_rfl)) ?_
  intro W base args ds gs before hval0 hW hcnd _
  have hval : ∀ (j : Nat) t v, Try.f3.params[j]? = some t → args[j]? = some v → Value.okWide Try.prog W .any base t v := hval0
  have hW' := hW
  obtain ⟨p, q, hA0, hV, rfl, hfz, hnd⟩ := hW
  have hA : DataW.TrodAll enc Try.prog W 0 (fun _ => true) true Try.f3.params.toList args.toList ds p := hA0
  rw [Try.params3] at hA hval
  obtain ⟨v0, vs0, d0, ds0, p0, q0, hargs, rfl, rfl, h0, r0⟩ := trodAll_cons hA
  obtain ⟨v1, vs1, d1, ds1, p1, q1, rfl, rfl, rfl, h1, r1⟩ := trodAll_cons r0
  obtain ⟨v2, vs2, d2, ds2, p2, q2, rfl, rfl, rfl, h2, r2⟩ := trodAll_cons r1
  obtain ⟨rfl, rfl, rfl⟩ := trodAll_nil r2
  obtain rfl : args = #[v0, v1, v2] := by cases args; simp_all
  obtain ⟨rfl, rfl⟩ := trodVars_none hV
  have k0 := h0
  have lt0 : ∀ x ∈ p0, x.block < W.heap.size := by obtain ⟨m, hm⟩ := k0; exact DataW.trod_lt m _ _ _ hm
  obtain ⟨qa0, la0, ca0, rfl⟩ := okWide_slice Try.underlying22 (hval 0 22 v0 rfl rfl)
  obtain ⟨fu0, hf0⟩ := h0
  obtain ⟨l0, w0⟩ := open_entries Try.underlying22 Try.underlying37 (by kernel_rfl) rfl rfl rfl rfl (by kernel_rfl) (by kernel_rfl) (by kernel_rfl) (by kernel_rfl) Try.underlying9 Try.underlying9 Try.underlying3 Try.underlying4 hf0
  obtain ⟨a1, rfl, rfl, rfl, w1⟩ := open_int Try.underlying3 (hval 1 3 v1 rfl rfl) h1
  obtain ⟨a2, rfl, rfl, rfl, w2⟩ := open_int Try.underlying5 (hval 2 5 v2 rfl rfl) h2
  clear hA0 hval0
  refine (walk (.slice qa0 la0 ca0) l0 a1 a2 W w0 w1 w2).mono fun e W' ⟨he, bel⟩ => ?_
  subst he
  exact ⟨_, rfl, _, _, _, [], _, [], hW', trodAll_mk1 (shut_bool Try.underlying4 _), (trodAll_cons_mk (Below.trod laidOut (by kernel_rfl) (of_decide_eq_true (by kernel_rfl)) k0 bel lt0) (trodAll_cons_mk (shut_int Try.underlying3 w1) (trodAll_cons_mk (shut_int Try.underlying5 w2) trodAll_mk0))), rfl, bel.frame _, fun h => by cases h⟩

theorem over : Rows.tableTurnedRow.holds Try.pinned (OpenSpec.ofChange Rows.tableTurnedSpec) :=
  OpenClaim.holds_of_wide 3 Try.f3 rfl rfl rfl rfl rfl rfl rfl ⟨rfl, rfl, rfl, rfl, rfl⟩ rfl rfl rfl rfl rfl (by kernel_rfl) Try.func3 (by kernel_rfl)
    (of_decide_eq_true (by kernel_rfl)) (by unfold Func.isWrapper; first | (rw [if_pos (by decide +kernel)]; kernel_rfl) | (rw [if_neg (by decide +kernel)]; exact ⟨rfl, rfl⟩))
    (fun os started H enc _ => lifted os started H enc)

theorem proved : Rows.TableTurnedSaid := over
end Go.Proofs.Ytlcbjmbphekliab.tableTurned
namespace Go.Proofs.Ytlcbjmbphekliab
theorem tableTurned_holds : Rows.TableTurnedSaid := tableTurned.proved
#print axioms tableTurned_holds
end Go.Proofs.Ytlcbjmbphekliab
