/-
  For any entries the law TableBegins answers true: a table begins with its pages, each closed as soon as it is large enough.
-/
import Derived.Test.YtlcbjmbphekliabJ08
import Derived.Test.YtlcbjmbphekliabRows
import Derived.WalkKit
import Derived.ProofKit
import Derived.OpenShut
import Derived.ShutString
import Derived.ChangeOld
import Derived.Below
namespace Go.Proofs.Ytlcbjmbphekliab
open Go.RowKit Go.WideShapes

def threeL : List EntV := [⟨⟨#[97]⟩, ByteArray.empty, 2, false⟩, ⟨⟨#[97]⟩, ByteArray.empty, 1, false⟩, ⟨⟨#[98]⟩, ByteArray.empty, 3, true⟩]
theorem three_any (w : World) : Calls Try.prog 13 #[] w fun e w' => e = .returned (.slice (some ⟨w.heap.size, 0, none⟩) 3 3) ∧ EntsL w' (some ⟨w.heap.size, 0, none⟩) 3 threeL ∧ Below w.heap.size w w' := by
  go_enter Try.func13, Try.ntmps13
  go_wp2
  go_ret
  refine ⟨rfl, ⟨rfl, fun _ => ⟨w.heap.size, 0, rfl, fun i hi => ?_⟩⟩, below_alloc _ _⟩
  have hh := heap_alloc_new w (.cells #[.string ⟨#[97]⟩, .string ⟨#[]⟩, .int .i64 2, .bool false, .string ⟨#[97]⟩, .string ⟨#[]⟩, .int .i64 1, .bool false, .string ⟨#[98]⟩, .string ⟨#[]⟩, .int .i64 3, .bool true] 37)
  have hi2 : i = 0 ∨ i = 1 ∨ i = 2 := by simp only [threeL, List.length_cons, List.length_nil] at hi; omega
  rcases hi2 with rfl | rfl | rfl
  · exact ⟨Lib.cell_of_heap hh 0, Lib.cell_of_heap hh 1, Lib.cell_of_heap hh 2, Lib.cell_of_heap hh 3⟩
  · exact ⟨Lib.cell_of_heap hh 4, Lib.cell_of_heap hh 5, Lib.cell_of_heap hh 6, Lib.cell_of_heap hh 7⟩
  · exact ⟨Lib.cell_of_heap hh 8, Lib.cell_of_heap hh 9, Lib.cell_of_heap hh 10, Lib.cell_of_heap hh 11⟩
theorem check_three : checkE threeL = 0 := by decide +kernel
theorem pagesN_len : ∀ (ps : List (List EntV)) (K : Nat), (∀ p ∈ ps, (pageN p).length ≤ K) → (pagesN ps).length ≤ K * ps.length
  | [], _, _ => by simp [pagesN]
  | p :: ps, K, h => by
    have h1 := h p (by simp)
    have h2 := pagesN_len ps K (fun q hq => h q (by simp [hq]))
    rw [pagesN_cons, List.length_append, List.length_cons, Nat.mul_add, Nat.mul_one]; omega
/-- The table of few entries is not too long. -/
theorem few_made {l : List EntV} (hc : checkE l = 0) (h0 : 0 < l.length) (hl : l.length ≤ 70) : ∃ ys, makeT l = (ys, 0) := by
  have hp := parts_is l
  have hn : (partE l).length ≤ 70 := Nat.le_trans (len_flat _ hp.pos) (by rw [hp.flat]; exact hl)
  have h1 := pagesN_len (partE l) 6000 (fun p hm => (hp.small hc p hm).2)
  have h2 := spotsN_len (partE l) (fun p hm => spotN_len (hp.small hc p hm).1 (hp.pos p hm) (by have := (hp.small hc p hm).2; omega))
  have h3 := smallN_five (partE l).length (by omega)
  have h4 : (indexN (partE l)).length = (smallN (partE l).length).length + (spotsN (partE l)).length := by unfold indexN; rw [List.length_append]
  have h5 : 6000 * (partE l).length ≤ 6000 * 70 := Nat.mul_le_mul_left _ hn
  have h6 : 600 * (partE l).length ≤ 600 * 70 := Nat.mul_le_mul_left _ hn
  exact ⟨_, makeT_is hc h0 (by rw [tableN_len, hp.flat, sieveN_len]; omega)⟩
theorem key_a : (⟨#[97]⟩ : ByteArray).size = 1 := rfl
theorem make_three : ∃ ys, makeT threeL = (ys, 0) ∧ findT ys ⟨#[97]⟩ 1 = (⟨⟨#[97]⟩, ByteArray.empty, 1, false⟩, true, 0) := by
  obtain ⟨ys, h⟩ := few_made check_three (by decide) (by decide)
  refine ⟨ys, h, ?_⟩
  rw [find_made h (by decide) (by decide) (by decide) (by decide)]
  rfl
theorem own_hand {w : World} {base : Nat} {v : Value} {ys : List Nat} (h : w.ownsRow base 5 1 v ys.length (Bs ys)) (hy : ∀ c ∈ ys, c < 256) : ∃ p c, v = .slice p ys.length c ∧ BHand w p ys.length c ys := by
  obtain ⟨p, c, rfl, h1, h2, h3⟩ := own_form h
  exact ⟨p, c, rfl, rfl, own_in h hy, h1, h2, h3⟩
set_option maxHeartbeats 1000000 in
theorem alive_any (w : World) : Calls Try.prog 5 #[] w fun e w' => e = .returned (.bool true) ∧ Below w.heap.size w w' := by
  obtain ⟨ys, hm, hf⟩ := make_three
  have HM : Hid (makeT threeL = (ys, 0) ∧ findT ys ⟨#[97]⟩ 1 = (⟨⟨#[97]⟩, ByteArray.empty, 1, false⟩, true, 0)) := ⟨hm, hf⟩
  clear hm hf
  go_enter Try.func5, Try.ntmps5
  go_wp2_with fail
  refine (three_any _).mono ?_
  rintro e w1 ⟨rfl, he1, hb1⟩
  have HB1 : Hid (Below w.heap.size w w1) := hb1
  have HMK := Make_t _ 3 3 threeL w1 he1 (by unfold maxLen; omega) ys 0 HM.out.1
  clear he1 hb1
  go_wp2_with fail
  refine HMK.mono ?_
  rintro e w2 ⟨v, rfl, ho2, hb2⟩
  obtain ⟨p, c, rfl, hh⟩ := own_hand ho2 (makeT_lt HM.out.1)
  have HB2 : Hid (Below w.heap.size w w2) := below_bt HB1.out hb2
  have HFD := Find_t p ys.length c ys ⟨#[97]⟩ 1 w2 hh _ _ _ HM.out.2 (by rw [key_a]; decide)
  rw [entV_def] at HFD
  clear ho2 hb2 HMK hh
  go_wp2_with fail
  refine HFD.mono ?_
  rintro e w3 ⟨rfl, hb3⟩
  have HB3 : Hid (Below w.heap.size w w3) := below_bt HB2.out hb3
  clear hb3 HFD
  go_wp2
  go_ret
  exact ⟨rfl, below_bt HB3.out (below_alloc _ _)⟩
set_option maxRecDepth 8000 in
set_option maxHeartbeats 1000000 in
theorem heavy_any (q : Option Addr) (n c : Nat) (l : List EntV) (w : World) (h : EntsL w q n l) (hn : (n : Int) ≤ 9223372036854775807) :
    Calls Try.prog 6 #[.slice q n c] w fun e w' => (∃ r : Bool, e = .returned (.bool r) ∧ (r = false → n ≤ 5000)) ∧ Below w.heap.size w w' := by
  have HN : Hid (n = l.length) := h.n
  have HQ : Hid (EntsIn w q l) := h.lies
  clear h
  go_enter Try.func6, Try.ntmps6
  go_wp2
  go_loopw [3, 4] (fun t i wr => ∃ k : Nat, ∃ z : Int, k ≤ n ∧ i = .int .i64 k ∧ t = .int .i64 z ∧ Below w.heap.size w wr) (fun _ i _ => n - (intOf i).toNat)
  case atStart => exact ⟨0, 0, by omega, rfl, rfl, Below.refl _ _⟩
  case round =>
    obtain ⟨k, z, hk, rfl, rfl, hbel⟩ := hrel
    have HBE : Hid (Below w.heap.size w wr) := hbel
    clear hbel
    by_cases hkn : k < n
    · have g1 : decide (k < n) = true := decide_eq_true hkn
      have hkI : (k : Int) < (n : Int) := by omega
      have hk0 : (0 : Int) ≤ (k : Int) := by omega
      obtain ⟨ba, oa, rfl⟩ := HQ.out.addr (by have := HN.out; omega)
      obtain ⟨x0, x1, _, _⟩ := (HQ.out.below HBE.out).at (k := k) (by have := HN.out; omega)
      generalize (l.getD k zeroE).key = ke at *
      generalize (l.getD k zeroE).val = ve at *
      go_wp2
      go_region
      go_wp2
      go_roundw
      case rel => exact ⟨k + 1, _, by omega, by go_num, rfl, HBE.out.drew⟩
      case measure => simp [intOf]; omega
    · have g1 : decide (k < n) = false := decide_eq_false hkn
      have hkI : (n : Int) ≤ (k : Int) := by omega
      by_cases h5 : n ≤ 5000
      · have HR : Hid (n ≤ 5000) := h5
        by_cases hm : 200 < n ∧ n ≤ 4096
        · have q1 : decide ((200 : Int) < (n : Int)) = true := decide_eq_true (by omega)
          have q2 : decide ((n : Int) ≤ 4096) = true := decide_eq_true (by omega)
          clear h5 hm
          go_wp2
          go_ret
          exact ⟨⟨_, rfl, fun _ => HR.out⟩, HBE.out⟩
        · have q3 : decide ((5000 : Int) < (n : Int)) = false := decide_eq_false (by omega)
          have HZ : Hid (∀ A B C : Bool, decide ((300000 : Int) < z) = A → decide (z < 600000) = B → decide ((900000 : Int) < z) = C → True) := fun _ _ _ _ _ _ => trivial
          obtain ⟨A, hA⟩ : ∃ A, decide ((300000 : Int) < z) = A := ⟨_, rfl⟩
          obtain ⟨B, hB⟩ : ∃ B, decide (z < 600000) = B := ⟨_, rfl⟩
          obtain ⟨C, hC⟩ : ∃ C, decide ((900000 : Int) < z) = C := ⟨_, rfl⟩
          rcases Nat.lt_or_ge 200 n with h2 | h2
          · have q1 : decide ((200 : Int) < (n : Int)) = true := decide_eq_true (by omega)
            have q2 : decide ((n : Int) ≤ 4096) = false := decide_eq_false (by omega)
            clear h5 hm h2
            cases A <;> cases B <;> cases C <;> (go_wp2; go_ret; exact ⟨⟨_, rfl, fun _ => HR.out⟩, HBE.out⟩)
          · have q1 : decide ((200 : Int) < (n : Int)) = false := decide_eq_false (by omega)
            clear h5 hm h2
            cases A <;> cases B <;> cases C <;> (go_wp2; go_ret; exact ⟨⟨_, rfl, fun _ => HR.out⟩, HBE.out⟩)
      · have q1 : decide ((200 : Int) < (n : Int)) = true := decide_eq_true (by omega)
        have q2 : decide ((n : Int) ≤ 4096) = false := decide_eq_false (by omega)
        have q3 : decide ((5000 : Int) < (n : Int)) = true := decide_eq_true (by omega)
        clear h5
        go_wp2
        go_ret
        exact ⟨⟨_, rfl, fun h => by cases h⟩, HBE.out⟩
end Go.Proofs.Ytlcbjmbphekliab
namespace Go.Proofs.Ytlcbjmbphekliab.tableBegins
open Go.ChangeShapes Go.WideShapes Go.ChangeAt Go.RowKit
open Go.ChangeMaps (open_string shut_string)
set_option linter.unusedVariables false

theorem own : ownKnob Try.prog.godebug = none := by kernel_rfl
theorem laidOut : laidOutB Try.prog = true := by kernel_rfl

theorem elem_e (w : World) : (sizeOf (Try.prog.elem 22)).run Try.prog w = .ok 4 w := by kernel_rfl
theorem ecut_mid (p : Option Addr) (n c i j : Nat) (l : List EntV) (hn : n = l.length) (hc : n ≤ c) (hij : i < j) (hj : j ≤ n) :
    ∃ p', (∀ w, (Instr.slice 22 (.slice p n c) (some (.int .i64 (i : Int))) (some (.int .i64 (j : Int))) none).run Try.prog w = .ok (.slice p' (j - i) (c - i)) w) ∧ (∀ w, EntsIn w p l → EntsIn w p' ((l.drop i).take (j - i))) := by
  have hr : ∀ w, (Instr.slice 22 (.slice p n c) (some (.int .i64 (i : Int))) (some (.int .i64 (j : Int))) none).run Try.prog w = .ok (.slice (if c = i then p else p.map (·.add (i * 4))) (j - i) (c - i)) w := by
    intro w
    rw [run_slice_lh w 22 p n c (by kernel_rfl) .i64 .i64 i j (by omega) (by omega) (by omega), elem_e]
    rfl
  obtain ⟨p', hf, he⟩ := ecut_from p n c i l hn hc (by omega)
  refine ⟨_, hr, fun w h => ?_⟩
  have h1 := (he w h).take' (j - i)
  have h2 : p' = if c = i then p else p.map (·.add (i * 4)) := by
    have h3 := hf w
    rw [run_slice_l w 22 p n c (by kernel_rfl) .i64 i (by omega) (by omega), elem_e] at h3
    have h4 : Result.ok (Value.slice (if c = i then p else p.map (·.add (i * 4))) (n - i) (c - i)) w = Result.ok (Value.slice p' (n - i) (c - i)) w := h3
    simp only [Result.ok.injEq, Value.slice.injEq, and_true] at h4
    exact h4.symm
  rw [← h2]
  exact h1
theorem take_drop' (l : List EntV) (i j : Nat) : (l.drop i).take (j - i) = (l.take j).drop i := by rw [List.drop_take]
theorem page_pre {l : List EntV} (at_ : Nat) (h : at_ < l.length) : partE (l.drop at_) = (l.drop at_).take (firstN (l.drop at_)) :: partE (l.drop (at_ + firstN (l.drop at_))) := by
  rw [partE_step (by rw [List.length_drop]; omega), List.drop_drop]
structure OnT (w5 : World) (l : List EntV) (N i at_ : Nat) (pt : Option Addr) (nt ct : Nat) (rest tl : List Nat) (wr : World) : Prop where
  hi : i ≤ N
  ha : at_ ≤ l.length
  bin : BIn w5 pt rest
  cap : nt = rest.length ∧ nt ≤ ct ∧ ct ≤ maxLen ∧ (pt = none → ct = 0)
  eq : rest = pagesN (partE (l.drop at_)) ++ tl
  cnt : i + (partE (l.drop at_)).length = N
  few : nt ≤ 524288
  bel : Below w5.heap.size w5 wr
set_option maxRecDepth 8000 in
set_option maxHeartbeats 4000000 in
theorem walk (va : Value) (l : List EntV) (w : World) (ha : Ents w va l) :
    Calls Try.prog 4 #[va] w fun e w' => e = .returned (.bool true) ∧ Below w.heap.size w w' := by
  obtain ⟨q, c, rfl, hq, hc1, hc2, hc3⟩ := ha.lies
  have HQ : Hid (EntsIn w q l ∧ (l.length : Int) ≤ 9223372036854775807 ∧ l.length ≤ c ∧ c ≤ maxLen) := ⟨hq, by unfold maxLen at hc2; omega, hc1, hc2⟩
  obtain ⟨ys, E, hR⟩ : ∃ ys E, makeT l = (ys, E) := ⟨_, _, rfl⟩
  have HR : Hid (makeT l = (ys, E)) := hR
  obtain ⟨C, hC⟩ : ∃ C, checkE l = C := ⟨_, rfl⟩
  have HC : Hid (checkE l = C) := hC
  clear ha hq hc1 hc2 hc3 hR hC
  go_enter Try.func4, Try.ntmps4
  go_wp2_with fail
  refine (alive_any _).mono ?_
  rintro e w1 ⟨rfl, hb1⟩
  have HB1 : Hid (Below w.heap.size w w1) := hb1
  clear hb1
  go_wp2_with fail
  refine (heavy_any q l.length c l _ ⟨rfl, HQ.out.1.below HB1.out⟩ HQ.out.2.1).mono ?_
  rintro e w2 ⟨⟨r, rfl, hr⟩, hb2⟩
  have HB2 : Hid (Below w.heap.size w w2) := below_bt HB1.out hb2
  clear hb2 hr
  cases r with
  | true =>
    go_wp2
    go_ret
    exact ⟨rfl, HB2.out⟩
  | false =>
    go_wp2_with fail
    refine (Make_t q l.length c l _ ⟨rfl, HQ.out.1.below HB2.out⟩ HQ.out.2.2 ys E HR.out).mono ?_
    rintro e w3 ⟨v3, rfl, ho3, hb3⟩
    have HB3 : Hid (Below w.heap.size w w3) := below_bt HB2.out hb3
    rcases Nat.eq_zero_or_pos E with h0 | h0
    · subst h0
      obtain ⟨p3, c3, rfl, hh3⟩ := own_hand ho3 (makeT_lt HR.out)
      have HH : Hid (BHand w3 p3 ys.length c3 ys) := hh3
      obtain ⟨m1, m2, m3, m4⟩ := makeT_ok HR.out
      have HM : Hid (checkE l = 0 ∧ 0 < l.length ∧ ys = tableN (partE l) ∧ ys.length ≤ 524288 ∧ l.length ≤ 4096) := ⟨m1, m2, m3, m4, ((checkE_rise l).1 m1).1⟩
      have hylI : (ys.length : Int) ≤ 524288 := by omega
      have hllI : (l.length : Int) ≤ 4096 := by have := HM.out.2.2.2.2; omega
      obtain ⟨N, hN⟩ : ∃ N, (partE l).length = N := ⟨_, rfl⟩
      have HN : Hid ((partE l).length = N ∧ 1 ≤ N ∧ N ≤ 4096) := ⟨hN, by rw [← hN]; exact (parts_is l).one m2, by rw [← hN]; exact Nat.le_trans (len_flat _ (parts_is l).pos) (by rw [(parts_is l).flat]; exact HM.out.2.2.2.2)⟩
      have HPG := Pages_t p3 ys.length c3 ys w3 hh3 0 (okT_some (read_makeT HR.out)) N (by unfold countT; rw [read_makeT HR.out]; exact hN)
      clear ho3 hb3 hh3 m1 m2 m3 m4 hN
      go_wp2_with fail
      refine HPG.mono ?_
      rintro e w4 ⟨rfl, hb4⟩
      have HB4 : Hid (Below w3.heap.size w3 w4) := hb4
      clear hb4 HPG
      obtain ⟨fk, hfk⟩ : ∃ k, firstK l = k := ⟨_, rfl⟩
      obtain ⟨lk, hlk⟩ : ∃ k, lastKy l = k := ⟨_, rfl⟩
      have HEN := Ends_t p3 ys.length c3 ys w4 (HH.out.below HB4.out) fk lk 0 (by rw [endsT_made HR.out, hfk, hlk])
      have HKK : Hid (firstK l = fk ∧ lastKy l = lk) := ⟨hfk, hlk⟩
      clear hfk hlk
      go_wp2_with fail
      refine HEN.mono ?_
      rintro e w5 ⟨rfl, hb5⟩
      have HB5 : Hid (Below w.heap.size w w5 ∧ Below w3.heap.size w3 w5) := ⟨below_bt (below_bt HB3.out HB4.out) hb5, below_bt HB4.out hb5⟩
      clear hb5 HEN
      obtain ⟨b, o, rfl⟩ := HQ.out.1.addr HM.out.2.1
      obtain ⟨x0, _, _, _⟩ := (HQ.out.1.below HB5.out.1).at (k := 0) HM.out.2.1
      obtain ⟨L1, hL1⟩ : ∃ L1, l.length - 1 = L1 := ⟨_, rfl⟩
      obtain ⟨z0, _, _, _⟩ := (HQ.out.1.below HB5.out.1).at (k := L1) (by have := HM.out.2.1; omega)
      have e1 : (l.getD 0 zeroE).key = fk := HKK.out.1
      have e2 : (l.getD L1 zeroE).key = lk := by rw [← hL1]; exact HKK.out.2
      rw [e1, Nat.zero_mul, Nat.add_zero] at x0
      rw [e2] at z0
      have hwL : IntKind.i64.wrap ((l.length : Int) - 1) = (L1 : Int) := by rw [IntKind.wrap_i64]; have := HM.out; omega
      have hL0 : (0 : Int) < (l.length : Int) := by have := HM.out; omega
      have hL2 : (L1 : Int) < (l.length : Int) := by have := HM.out; omega
      have hL3 : (0 : Int) ≤ (L1 : Int) := by omega
      have hNI : (1 : Int) ≤ (N : Int) := by have := HN.out; omega
      have hNI2 : (N : Int) ≤ 4096 := by have := HN.out; omega
      have hN1 : decide ((N : Int) < 1) = false := decide_eq_false (by omega)
      have HHT : Hid (BHand w5 p3 ys.length c3 ys) := HH.out.below HB5.out.2
      clear e1 e2 hL1
      go_wp2
      clear x0 z0 hwL hL2 hL3 hN1
      have HST : Hid (OnT w5 l N 0 0 p3 ys.length c3 ys (ys.drop (pagesN (partE l)).length) w5) := by
        refine ⟨by omega, by omega, HHT.out.bin, ⟨rfl, HHT.out.cap⟩, ?_, ?_, HM.out.2.2.2.1, Below.refl _ _⟩
        · rw [List.drop_zero]
          have h1 : ys.take (pagesN (partE l)).length = pagesN (partE l) := by
            rw [HM.out.2.2.1]
            unfold tableN coreN
            rw [List.append_assoc, List.take_left' rfl]
          conv => lhs; rw [← List.take_append_drop (pagesN (partE l)).length ys, h1]
        · rw [List.drop_zero, HN.out.1]; omega
      go_loopw [4, 11, 12] (fun s4 s11 s12 wr => ∃ (i at_ : Nat) (pt : Option Addr) (nt ct : Nat) (rest tl : List Nat), s12 = .int .i64 (i : Int) ∧ s11 = .int .i64 (at_ : Int) ∧ s4 = .slice pt nt ct ∧ OnT w5 l N i at_ pt nt ct rest tl wr) (fun _ _ s12 _ => N - (intOf s12).toNat)
      case atStart => exact ⟨0, 0, p3, ys.length, c3, ys, _, rfl, rfl, rfl, HST.out⟩
      case round =>
        obtain ⟨i, at_, pt, nt, ct, rest, tl, rfl, rfl, rfl, hon⟩ := hrel
        have HO : Hid (OnT w5 l N i at_ pt nt ct rest tl wr) := hon
        have hiI : (i : Int) ≤ (N : Int) := by have := hon.hi; omega
        have haI : (at_ : Int) ≤ (l.length : Int) := by have := hon.ha; omega
        have hntI : (nt : Int) ≤ 524288 := by have := hon.few; omega
        clear hon HST
        by_cases hin : i < N
        · have hinI : (i : Int) < (N : Int) := by omega
          have hal : at_ < l.length := by
            rcases Nat.lt_or_ge at_ l.length with h | h
            · exact h
            · have := HO.out.cnt
              rw [partE_nil (by rw [List.length_drop]; omega)] at this
              simp at this; omega
          have halI : (at_ : Int) < (l.length : Int) := by omega
          have HII : Hid (i < N ∧ at_ < l.length) := ⟨hin, hal⟩
          obtain ⟨k0, hk0⟩ : ∃ k, at_ + 1 = k := ⟨_, rfl⟩
          have hwk : IntKind.i64.wrap ((at_ : Int) + 1) = (k0 : Int) := by rw [IntKind.wrap_i64]; omega
          have hk0I : (at_ : Int) < (k0 : Int) := by omega
          have hk0J : (k0 : Int) ≤ (l.length : Int) := by omega
          have hmin : (if (k0 : Int) ≤ (l.length : Int) then (k0 : Int) else (l.length : Int)) = (k0 : Int) := if_pos hk0J
          obtain ⟨p0, hs0, he0⟩ := ecut_mid (some ⟨b, o, none⟩) l.length c at_ k0 l rfl HQ.out.2.2.1 (by omega) (by omega)
          have hp0 : (pageN ((l.drop at_).take (k0 - at_))).length ≤ 6000 := by
            rw [show k0 - at_ = 0 + 1 by omega]
            exact page_step (checkE_drop at_ HM.out.1) 0 (.inr rfl)
          have HMK := Make_any p0 (k0 - at_) (c - at_) ((l.drop at_).take (k0 - at_)) wr ⟨by rw [List.length_take, List.length_drop]; omega, he0 _ (HQ.out.1.below (below_bt HB5.out.1 HO.out.bel))⟩ _ 0 (makeE_page (checkE_take _ (checkE_drop at_ HM.out.1)) (by omega))
          obtain ⟨X0, hX0⟩ : ∃ X, pageN ((l.drop at_).take (k0 - at_)) = X := ⟨_, rfl⟩
          rw [hX0] at HMK hp0
          obtain ⟨d0, hd0⟩ : ∃ d, k0 - at_ = d := ⟨_, rfl⟩
          obtain ⟨cd, hcd⟩ : ∃ d, c - at_ = d := ⟨_, rfl⟩
          rw [hd0, hcd] at HMK hs0
          have HX0 : Hid (pageN ((l.drop at_).take (k0 - at_)) = X0 ∧ X0.length ≤ 6000 ∧ at_ + 1 = k0) := ⟨hX0, hp0, hk0⟩
          have HCD : Hid (c - at_ = cd) := hcd
          clear he0 hX0 hp0 hal hk0 hd0 hcd hin
          go_wp2_with fail
          refine HMK.mono ?_
          rintro e w6 ⟨v6, rfl, ho6, hb6⟩
          obtain ⟨p6, c6, rfl, _, _, _⟩ := own_form ho6
          have HI0 : Hid (at_ < k0 ∧ k0 ≤ l.length ∧ pageN ((l.drop at_).take (k0 - at_)) = X0 ∧ X0.length ≤ 6000 ∧ BIn w6 p6 X0 ∧ (∀ m, 1 ≤ m → m < k0 - at_ → (pageN ((l.drop at_).take m)).length < 512) ∧ Below w5.heap.size w5 w6) := by
            refine ⟨by have := HX0.out; omega, by have := HX0.out; have := HII.out; omega, HX0.out.1, HX0.out.2.1, own_in ho6 (by rw [← HX0.out.1]; exact pageN_lt _), fun m a b => by have := HX0.out; omega, below_bt HO.out.bel hb6⟩
          clear HMK ho6 hb6 hs0
          go_wp2
          go_loopw [13, 14, 15] (fun s13 s14 s15 wr => ∃ (k : Nat) (pb : Option Addr) (nb cb : Nat) (X : List Nat), s13 = .int .i64 (k : Int) ∧ s14 = .slice pb nb cb ∧ s15 = .int .i64 0 ∧ nb = X.length ∧ at_ < k ∧ k ≤ l.length ∧ pageN ((l.drop at_).take (k - at_)) = X ∧ X.length ≤ 6000 ∧ BIn wr pb X ∧ (∀ m, 1 ≤ m → m < k - at_ → (pageN ((l.drop at_).take m)).length < 512) ∧ Below w5.heap.size w5 wr) (fun s13 _ _ _ => l.length - (intOf s13).toNat)
          case atStart => exact ⟨k0, p6, X0.length, c6, X0, rfl, rfl, rfl, rfl, HI0.out⟩
          case round =>
            obtain ⟨k, pb, nb, cb, X, rfl, rfl, rfl, hnb, hk1, hk2, hpg, hpl, hbx, hsm, hbel⟩ := hrel
            have HX : Hid (nb = X.length ∧ at_ < k ∧ k ≤ l.length ∧ pageN ((l.drop at_).take (k - at_)) = X ∧ X.length ≤ 6000 ∧ BIn wr pb X ∧ (∀ m, 1 ≤ m → m < k - at_ → (pageN ((l.drop at_).take m)).length < 512) ∧ Below w5.heap.size w5 wr) := ⟨hnb, hk1, hk2, hpg, hpl, hbx, hsm, hbel⟩
            have hkI1 : (at_ : Int) < (k : Int) := by omega
            have hkI2 : (k : Int) ≤ (l.length : Int) := by omega
            have hnbI : (nb : Int) ≤ 6000 := by omega
            clear hnb hk1 hk2 hpg hpl hbx hsm hbel HI0
            by_cases h5 : 512 ≤ nb
            · have g5 : decide ((nb : Int) < 512) = false := decide_eq_false (by omega)
              have g5' : (512 : Int) ≤ (nb : Int) := by omega
              have HFI : Hid (512 ≤ nb ∨ k = l.length) := .inl h5
              clear h5
              have HFN : Hid (k - at_ = firstN (l.drop at_)) := by
                have hx := HX.out
                refine IsFirst.only (l := l.drop at_) ⟨by omega, by rw [List.length_drop]; omega, ?_, hx.2.2.2.2.2.2.1⟩ (firstN_is (by rw [List.length_drop]; omega))
                rw [hx.2.2.2.1, ← hx.1, List.length_drop]
                rcases HFI.out with h | h
                · exact .inl h
                · exact .inr (by omega)
              have HPS : Hid (rest = X ++ (pagesN (partE (l.drop k)) ++ tl) ∧ (partE (l.drop at_)).length = (partE (l.drop k)).length + 1) := by
                have hx := HX.out
                have h1 := page_pre at_ HII.out.2
                rw [← HFN.out, show at_ + (k - at_) = k by omega] at h1
                refine ⟨?_, by rw [h1]; simp⟩
                have h2 := HO.out.eq
                rw [h1, pagesN_cons, hx.2.2.2.1, List.append_assoc] at h2
                exact h2
              have hle : nb ≤ nt := by
                have := HPS.out.1
                have h1 := congrArg List.length this
                rw [List.length_append] at h1
                have := HO.out.cap.1; have := HX.out.1
                omega
              have g7 : decide ((nt : Int) < (nb : Int)) = false := decide_eq_false (by omega)
              have g7' : ¬ nt < nb := by omega
              have g7'' : (nb : Int) ≤ (nt : Int) := by omega
              have g8 : decide ((l.length : Int) ≤ (at_ : Int)) = false := decide_eq_false (by omega)
              have g8' : decide (l.length ≤ at_) = false := decide_eq_false (by have := HII.out.2; omega)
              have hs8 := cut_to pt nt ct nb (by have := HO.out.cap; omega)
              obtain ⟨pc, hs9, hbc, hpc, hpo⟩ := cut_from pt nt ct nb rest HO.out.cap.1 HO.out.cap.2.1 hle HO.out.cap.2.2.2
              have htk : rest.take nb = X := by rw [HPS.out.1, HX.out.1, List.take_left' rfl]
              have hcv1 : ∀ j, (convert 25 9 (.slice pt nb ct)).run Try.prog (wr.drewN j) = .ok (.string (strOf X)) (wr.drewN j) := by
                intro j
                have h1 := ((HO.out.bin.below HX.out.2.2.2.2.2.2.2).below (below_drewN (Below.refl _ _) j)).take' nb
                rw [htk] at h1
                exact conv_bytes h1 HX.out.1 ct
              have hcv2 : ∀ j, (convert 25 9 (.slice pb nb cb)).run Try.prog (wr.drewN j) = .ok (.string (strOf X)) (wr.drewN j) := fun j => conv_bytes (HX.out.2.2.2.2.2.1.below (below_drewN (Below.refl _ _) j)) HX.out.1 cb
              have HNX : Hid (∀ j, OnT w5 l N (i + 1) k pc (nt - nb) (ct - nb) (rest.drop nb) tl (wr.drewN j)) := by
                intro j
                have hx := HX.out
                have ho := HO.out
                refine ⟨by have := HII.out.1; omega, hx.2.2.1, hbc w5 ho.bin, ⟨by rw [List.length_drop]; have := ho.cap.1; omega, by have := ho.cap; omega, by have := ho.cap; omega, hpc⟩, ?_, ?_, by have := ho.few; omega, below_bt hx.2.2.2.2.2.2.2 (below_drewN (Below.refl _ _) j)⟩
                · rw [HPS.out.1, hx.1, List.drop_left' rfl]
                · have := ho.cnt; have := HPS.out.2; omega
              clear hbc hpc hpo htk hle
              go_wp2
              go_quiet (fail)
              go_wp2
              go_roundw
              case rel => exact ⟨i + 1, k, pc, nt - nb, ct - nb, rest.drop nb, tl, by go_num, by go_num, rfl, HNX.out _⟩
              case measure => have := HII.out; simp [intOf]; omega
            · have g5 : decide ((nb : Int) < 512) = true := decide_eq_true (by omega)
              have g5' : (nb : Int) < 512 := by omega
              by_cases h6 : k < l.length
              · have g6 : decide ((k : Int) < (l.length : Int)) = true := decide_eq_true (by omega)
                have g6' : decide (k < l.length) = true := decide_eq_true h6
                have g6'' : (k : Int) < (l.length : Int) := by omega
                have HLT : Hid (nb < 512 ∧ k < l.length) := ⟨by omega, h6⟩
                obtain ⟨k1, hk1⟩ : ∃ k', k + 1 = k' := ⟨_, rfl⟩
                have hwk1 : IntKind.i64.wrap ((k : Int) + 1) = (k1 : Int) := by rw [IntKind.wrap_i64]; omega
                have hk1I : (at_ : Int) < (k1 : Int) := by omega
                have hk1J : (k1 : Int) ≤ (l.length : Int) := by omega
                obtain ⟨p1, hs1, he1⟩ := ecut_mid (some ⟨b, o, none⟩) l.length c at_ k1 l rfl HQ.out.2.2.1 (by omega) (by omega)
                have hp1 : (pageN ((l.drop at_).take (k1 - at_))).length ≤ 6000 := by
                  rw [show k1 - at_ = (k - at_) + 1 by have := HX.out; omega]
                  refine page_step (checkE_drop at_ HM.out.1) (k - at_) (.inl ?_)
                  rw [HX.out.2.2.2.1, ← HX.out.1]; exact HLT.out.1
                have HMK := Make_any p1 (k1 - at_) (c - at_) ((l.drop at_).take (k1 - at_)) wr ⟨by rw [List.length_take, List.length_drop]; omega, he1 _ (HQ.out.1.below (below_bt HB5.out.1 HX.out.2.2.2.2.2.2.2))⟩ _ 0 (makeE_page (checkE_take _ (checkE_drop at_ HM.out.1)) (by omega))
                obtain ⟨X1, hX1⟩ : ∃ X, pageN ((l.drop at_).take (k1 - at_)) = X := ⟨_, rfl⟩
                rw [hX1] at HMK hp1
                obtain ⟨d1, hd1⟩ : ∃ d, k1 - at_ = d := ⟨_, rfl⟩
                rw [hd1, HCD.out] at HMK hs1
                have HX1 : Hid (pageN ((l.drop at_).take (k1 - at_)) = X1 ∧ X1.length ≤ 6000 ∧ k + 1 = k1) := ⟨hX1, hp1, hk1⟩
                clear he1 hX1 hp1 hk1 hd1 h5 h6
                go_wp2_with fail
                refine HMK.mono ?_
                rintro e w7 ⟨v7, rfl, ho7, hb7⟩
                obtain ⟨p7, c7, rfl, _, _, _⟩ := own_form ho7
                have HI1 : Hid (at_ < k1 ∧ k1 ≤ l.length ∧ pageN ((l.drop at_).take (k1 - at_)) = X1 ∧ X1.length ≤ 6000 ∧ BIn w7 p7 X1 ∧ (∀ m, 1 ≤ m → m < k1 - at_ → (pageN ((l.drop at_).take m)).length < 512) ∧ Below w5.heap.size w5 w7) := by
                  refine ⟨by have := HX.out; have := HX1.out; omega, by have := HLT.out; have := HX1.out; omega, HX1.out.1, HX1.out.2.1, own_in ho7 (by rw [← HX1.out.1]; exact pageN_lt _), fun m a b => ?_, below_bt HX.out.2.2.2.2.2.2.2 hb7⟩
                  rcases Nat.lt_or_ge m (k - at_) with hh | hh
                  · exact HX.out.2.2.2.2.2.2.1 m a hh
                  · have : m = k - at_ := by have := HX1.out; omega
                    rw [this, HX.out.2.2.2.1, ← HX.out.1]; exact HLT.out.1
                clear HMK ho7 hb7
                go_wp2
                go_roundw
                case rel => exact ⟨k1, p7, X1.length, c7, X1, by go_num, rfl, rfl, rfl, HI1.out⟩
                case measure => have := HLT.out; have := HX1.out; simp [intOf]; omega
              · have g6 : decide ((k : Int) < (l.length : Int)) = false := decide_eq_false (by omega)
                have g6' : decide (k < l.length) = false := decide_eq_false h6
                have g6'' : (l.length : Int) ≤ (k : Int) := by omega
                have HFI : Hid (512 ≤ nb ∨ k = l.length) := .inr (by have := HX.out; omega)
                clear h5 h6
                have HFN : Hid (k - at_ = firstN (l.drop at_)) := by
                  have hx := HX.out
                  refine IsFirst.only (l := l.drop at_) ⟨by omega, by rw [List.length_drop]; omega, ?_, hx.2.2.2.2.2.2.1⟩ (firstN_is (by rw [List.length_drop]; omega))
                  rw [hx.2.2.2.1, ← hx.1, List.length_drop]
                  rcases HFI.out with h | h
                  · exact .inl h
                  · exact .inr (by omega)
                have HPS : Hid (rest = X ++ (pagesN (partE (l.drop k)) ++ tl) ∧ (partE (l.drop at_)).length = (partE (l.drop k)).length + 1) := by
                  have hx := HX.out
                  have h1 := page_pre at_ HII.out.2
                  rw [← HFN.out, show at_ + (k - at_) = k by omega] at h1
                  refine ⟨?_, by rw [h1]; simp⟩
                  have h2 := HO.out.eq
                  rw [h1, pagesN_cons, hx.2.2.2.1, List.append_assoc] at h2
                  exact h2
                have hle : nb ≤ nt := by
                  have := HPS.out.1
                  have h1 := congrArg List.length this
                  rw [List.length_append] at h1
                  have := HO.out.cap.1; have := HX.out.1
                  omega
                have g7 : decide ((nt : Int) < (nb : Int)) = false := decide_eq_false (by omega)
                have g7' : ¬ nt < nb := by omega
                have g7'' : (nb : Int) ≤ (nt : Int) := by omega
                have g8 : decide ((l.length : Int) ≤ (at_ : Int)) = false := decide_eq_false (by omega)
                have g8' : decide (l.length ≤ at_) = false := decide_eq_false (by have := HII.out.2; omega)
                have hs8 := cut_to pt nt ct nb (by have := HO.out.cap; omega)
                obtain ⟨pc, hs9, hbc, hpc, hpo⟩ := cut_from pt nt ct nb rest HO.out.cap.1 HO.out.cap.2.1 hle HO.out.cap.2.2.2
                have htk : rest.take nb = X := by rw [HPS.out.1, HX.out.1, List.take_left' rfl]
                have hcv1 : ∀ j, (convert 25 9 (.slice pt nb ct)).run Try.prog (wr.drewN j) = .ok (.string (strOf X)) (wr.drewN j) := by
                  intro j
                  have h1 := ((HO.out.bin.below HX.out.2.2.2.2.2.2.2).below (below_drewN (Below.refl _ _) j)).take' nb
                  rw [htk] at h1
                  exact conv_bytes h1 HX.out.1 ct
                have hcv2 : ∀ j, (convert 25 9 (.slice pb nb cb)).run Try.prog (wr.drewN j) = .ok (.string (strOf X)) (wr.drewN j) := fun j => conv_bytes (HX.out.2.2.2.2.2.1.below (below_drewN (Below.refl _ _) j)) HX.out.1 cb
                have HNX : Hid (∀ j, OnT w5 l N (i + 1) k pc (nt - nb) (ct - nb) (rest.drop nb) tl (wr.drewN j)) := by
                  intro j
                  have hx := HX.out
                  have ho := HO.out
                  refine ⟨by have := HII.out.1; omega, hx.2.2.1, hbc w5 ho.bin, ⟨by rw [List.length_drop]; have := ho.cap.1; omega, by have := ho.cap; omega, by have := ho.cap; omega, hpc⟩, ?_, ?_, by have := ho.few; omega, below_bt hx.2.2.2.2.2.2.2 (below_drewN (Below.refl _ _) j)⟩
                  · rw [HPS.out.1, hx.1, List.drop_left' rfl]
                  · have := ho.cnt; have := HPS.out.2; omega
                clear hbc hpc hpo htk hle
                go_wp2
                go_quiet (fail)
                go_wp2
                go_roundw
                case rel => exact ⟨i + 1, k, pc, nt - nb, ct - nb, rest.drop nb, tl, by go_num, by go_num, rfl, HNX.out _⟩
                case measure => have := HII.out; simp [intOf]; omega
        · have hinI : (N : Int) ≤ (i : Int) := by omega
          have hat : at_ = l.length := by
            have h1 := HO.out.cnt
            have h2 := HO.out.ha
            rcases Nat.lt_or_ge at_ l.length with h | h
            · have := (parts_is (l.drop at_)).one (by rw [List.length_drop]; omega)
              omega
            · omega
          have gat : ((at_ : Int) == (l.length : Int)) = true := by simp [hat]
          have gat' : (at_ : Int) = (l.length : Int) := by omega
          clear hat hin
          go_wp2
          go_ret
          exact ⟨rfl, below_bt HB5.out.1 HO.out.bel⟩
    · have hne : ((E : Int) != 0) = true := by simp; omega
      obtain ⟨p3, c3, rfl, _, _, _⟩ := own_form ho3
      have HCK := Check_any q l.length c l w3 ⟨rfl, HQ.out.1.below HB3.out⟩ C HC.out
      clear ho3 hb3
      go_wp2_with fail
      refine HCK.mono ?_
      rintro e w4 ⟨rfl, hb4⟩
      have HB4 : Hid (Below w.heap.size w w4) := below_bt HB3.out hb4
      clear hb4 HCK
      by_cases hC0 : C = 0
      · have gC : ((C : Int) != 0) = false := by simp [hC0]
        by_cases hl0 : l.length = 0
        · have gl : ((l.length : Int) == 0) = true := by simp [hl0]
          clear hC0 hl0 h0
          go_wp2
          go_ret
          exact ⟨rfl, HB4.out⟩
        · have gl : ((l.length : Int) == 0) = false := by rw [beq_eq_false_iff_ne]; omega
          have hE7 : E = 7 := by
            have h1 := HR.out
            unfold makeT at h1
            rw [if_pos (by rw [HC.out]; exact hC0), if_neg hl0] at h1
            split at h1
            · exact (Prod.mk.inj h1).2.symm
            · have := (Prod.mk.inj h1).2; omega
          subst hE7
          clear hC0 hl0 h0
          go_wp2
          go_ret
          exact ⟨rfl, HB4.out⟩
      · have gC : ((C : Int) != 0) = true := by simp; omega
        clear hC0 h0
        go_wp2
        go_ret
        exact ⟨rfl, HB4.out⟩

/-! ### THE ROW's STEP -/
set_option maxRecDepth 100000 in
theorem lifted (os : Os) (started : os.Started) (H : Type) (enc : TypeId × Value → H) :
    ReturnsInHanded {} Try.checked os 4 .any (Rows.tableBeginsSpec.pre6 enc Try.prog Try.f4 Rows.tableBeginsRow.domain false) (Rows.tableBeginsSpec.post enc Try.prog Try.f4 false true false false) := by
  refine returnsInHanded_of_change (C := Try.checked) own started (by kernel_rfl) Try.func4
    (ChangeSpec.witness6 (enc := enc) (C := Try.checked) false ⟨#[], #[.slice none 0 0], []⟩ 8 (by kernel_rfl) (by kernel_rfl) (by kernel_rfl) (by kernel_rfl)) ?_
  intro W base args ds gs before hval0 hW hcnd _
  have hval : ∀ (j : Nat) t v, Try.f4.params[j]? = some t → args[j]? = some v → Value.okWide Try.prog W .any base t v := hval0
  have hW' := hW
  obtain ⟨p, q, hA0, hV, rfl, hfz, hnd⟩ := hW
  have hA : DataW.TrodAll enc Try.prog W 0 (fun _ => true) true Try.f4.params.toList args.toList ds p := hA0
  rw [Try.params4] at hA hval
  obtain ⟨v0, vs0, d0, ds0, p0, q0, hargs, rfl, rfl, h0, r0⟩ := trodAll_cons hA
  obtain ⟨rfl, rfl, rfl⟩ := trodAll_nil r0
  obtain rfl : args = #[v0] := by cases args; simp_all
  obtain ⟨rfl, rfl⟩ := trodVars_none hV
  have k0 := h0
  have lt0 : ∀ x ∈ p0, x.block < W.heap.size := by obtain ⟨m, hm⟩ := k0; exact DataW.trod_lt m _ _ _ hm
  obtain ⟨qa0, la0, ca0, rfl⟩ := okWide_slice Try.underlying22 (hval 0 22 v0 rfl rfl)
  obtain ⟨fu0, hf0⟩ := h0
  obtain ⟨l0, w0⟩ := open_entries Try.underlying22 Try.underlying37 (by kernel_rfl) rfl rfl rfl rfl (by kernel_rfl) (by kernel_rfl) (by kernel_rfl) (by kernel_rfl) Try.underlying9 Try.underlying9 Try.underlying3 Try.underlying4 hf0
  clear hA0 hval0
  refine (walk (.slice qa0 la0 ca0) l0 W w0).mono fun e W' ⟨he, bel⟩ => ?_
  subst he
  exact ⟨_, rfl, _, _, _, [], _, [], hW', trodAll_mk1 (shut_bool Try.underlying4 _), (trodAll_cons_mk (Below.trod laidOut (by kernel_rfl) (of_decide_eq_true (by kernel_rfl)) k0 bel lt0) trodAll_mk0), rfl, bel.frame _, fun h => by cases h⟩

theorem over : Rows.tableBeginsRow.holds Try.pinned (OpenSpec.ofChange Rows.tableBeginsSpec) :=
  OpenClaim.holds_of_wide 4 Try.f4 rfl rfl rfl rfl rfl rfl rfl ⟨rfl, rfl, rfl, rfl, rfl⟩ rfl rfl rfl rfl rfl (by kernel_rfl) Try.func4 (by kernel_rfl)
    (of_decide_eq_true (by kernel_rfl)) (by unfold Func.isWrapper; first | (rw [if_pos (by decide +kernel)]; kernel_rfl) | (rw [if_neg (by decide +kernel)]; exact ⟨rfl, rfl⟩))
    (fun os started H enc _ => lifted os started H enc)

theorem proved : Rows.TableBeginsSaid := over
end Go.Proofs.Ytlcbjmbphekliab.tableBegins
namespace Go.Proofs.Ytlcbjmbphekliab
theorem tableBegins_holds : Rows.TableBeginsSaid := tableBegins.proved
#print axioms tableBegins_holds
end Go.Proofs.Ytlcbjmbphekliab
