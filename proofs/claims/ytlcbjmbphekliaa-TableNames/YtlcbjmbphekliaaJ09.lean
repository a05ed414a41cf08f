/-
  The law TableNames answers true: the limits and errors have their numbers, and the chapter's examples are so.
-/
import Derived.Test.YtlcbjmbphekliaaJ08
import Derived.Test.YtlcbjmbphekliaaRows
import Derived.WalkKit
import Derived.ProofKit
import Derived.OpenShut
import Derived.ShutString
import Derived.ChangeOld
import Derived.Below
namespace Go.Proofs.Ytlcbjmbphekliaa
open Go.RowKit Go.WideShapes

def threeL : List EntV := [⟨⟨#[97]⟩, ByteArray.empty, 2, false⟩, ⟨⟨#[97]⟩, ByteArray.empty, 1, false⟩, ⟨⟨#[98]⟩, ByteArray.empty, 3, true⟩]
theorem three_any (w : World) : Calls Try.prog 10 #[] w fun e w' => e = .returned (.slice (some ⟨w.heap.size, 0, none⟩) 3 3) ∧ EntsL w' (some ⟨w.heap.size, 0, none⟩) 3 threeL ∧ Below w.heap.size w w' := by
  go_enter Try.func10, Try.ntmps10
  go_wp2
  go_ret
  refine ⟨rfl, ⟨rfl, fun _ => ⟨w.heap.size, 0, rfl, fun i hi => ?_⟩⟩, below_alloc _ _⟩
  have hh := heap_alloc_new w (.cells #[.string ⟨#[97]⟩, .string ⟨#[]⟩, .int .i64 2, .bool false, .string ⟨#[97]⟩, .string ⟨#[]⟩, .int .i64 1, .bool false, .string ⟨#[98]⟩, .string ⟨#[]⟩, .int .i64 3, .bool true] 29)
  have hi2 : i = 0 ∨ i = 1 ∨ i = 2 := by simp only [threeL, List.length_cons, List.length_nil] at hi; omega
  rcases hi2 with rfl | rfl | rfl
  · exact ⟨Lib.cell_of_heap hh 0, Lib.cell_of_heap hh 1, Lib.cell_of_heap hh 2, Lib.cell_of_heap hh 3⟩
  · exact ⟨Lib.cell_of_heap hh 4, Lib.cell_of_heap hh 5, Lib.cell_of_heap hh 6, Lib.cell_of_heap hh 7⟩
  · exact ⟨Lib.cell_of_heap hh 8, Lib.cell_of_heap hh 9, Lib.cell_of_heap hh 10, Lib.cell_of_heap hh 11⟩
theorem check_three : checkE threeL = 0 := by decide +kernel
theorem pagesN_len : ∀ (ps : List (List EntV)) (K : Nat), (∀ p ∈ ps, (pageN p).length ≤ K) → (pagesN ps).length ≤ K * ps.length
  | [], _, _ => by simp [pagesN]
  | p :: ps, K, h => by
    have h1 := h p (by simp)
    have h2 := pagesN_len ps K (fun q hq => h q (by simp [hq]))
    rw [pagesN_cons, List.length_append, List.length_cons, Nat.mul_add, Nat.mul_one]; omega
/-- The table of few entries is not too long. -/
theorem few_made {l : List EntV} (hc : checkE l = 0) (h0 : 0 < l.length) (hl : l.length ≤ 70) : ∃ ys, makeT l = (ys, 0) := by
  have hp := parts_is l
  have hn : (partE l).length ≤ 70 := Nat.le_trans (len_flat _ hp.pos) (by rw [hp.flat]; exact hl)
  have h1 := pagesN_len (partE l) 6000 (fun p hm => (hp.small hc p hm).2)
  have h2 := spotsN_len (partE l) (fun p hm => spotN_len (hp.small hc p hm).1 (hp.pos p hm) (by have := (hp.small hc p hm).2; omega))
  have h3 := smallN_five (partE l).length (by omega)
  have h4 : (indexN (partE l)).length = (smallN (partE l).length).length + (spotsN (partE l)).length := by unfold indexN; rw [List.length_append]
  have h5 : 6000 * (partE l).length ≤ 6000 * 70 := Nat.mul_le_mul_left _ hn
  have h6 : 600 * (partE l).length ≤ 600 * 70 := Nat.mul_le_mul_left _ hn
  exact ⟨_, makeT_is hc h0 (by rw [tableN_len, hp.flat, sieveN_len]; omega)⟩
theorem key_a : (⟨#[97]⟩ : ByteArray).size = 1 := rfl
theorem make_three : ∃ ys, makeT threeL = (ys, 0) ∧ findT ys ⟨#[97]⟩ 1 = (⟨⟨#[97]⟩, ByteArray.empty, 1, false⟩, true, 0) := by
  obtain ⟨ys, h⟩ := few_made check_three (by decide) (by decide)
  refine ⟨ys, h, ?_⟩
  rw [find_made h (by decide) (by decide) (by decide) (by decide)]
  rfl
theorem own_hand {w : World} {base : Nat} {v : Value} {ys : List Nat} (h : w.ownsRow base 5 1 v ys.length (Bs ys)) (hy : ∀ c ∈ ys, c < 256) : ∃ p c, v = .slice p ys.length c ∧ BHand w p ys.length c ys := by
  obtain ⟨p, c, rfl, h1, h2, h3⟩ := own_form h
  exact ⟨p, c, rfl, rfl, own_in h hy, h1, h2, h3⟩
set_option maxHeartbeats 1000000 in
theorem alive_any (w : World) : Calls Try.prog 15 #[] w fun e w' => e = .returned (.bool true) ∧ Below w.heap.size w w' := by
  obtain ⟨ys, hm, hf⟩ := make_three
  have HM : Hid (makeT threeL = (ys, 0) ∧ findT ys ⟨#[97]⟩ 1 = (⟨⟨#[97]⟩, ByteArray.empty, 1, false⟩, true, 0)) := ⟨hm, hf⟩
  clear hm hf
  go_enter Try.func15, Try.ntmps15
  go_wp2_with fail
  refine (three_any _).mono ?_
  rintro e w1 ⟨rfl, he1, hb1⟩
  have HB1 : Hid (Below w.heap.size w w1) := hb1
  have HMK := Make_t _ 3 3 threeL w1 he1 (by unfold maxLen; omega) ys 0 HM.out.1
  clear he1 hb1
  go_wp2_with fail
  refine HMK.mono ?_
  rintro e w2 ⟨v, rfl, ho2, hb2⟩
  obtain ⟨p, c, rfl, hh⟩ := own_hand ho2 (makeT_lt HM.out.1)
  have HB2 : Hid (Below w.heap.size w w2) := below_bt HB1.out hb2
  have HFD := Find_t p ys.length c ys ⟨#[97]⟩ 1 w2 hh _ _ _ HM.out.2 (by rw [key_a]; decide)
  rw [entV_def] at HFD
  clear ho2 hb2 HMK hh
  go_wp2_with fail
  refine HFD.mono ?_
  rintro e w3 ⟨rfl, hb3⟩
  have HB3 : Hid (Below w.heap.size w w3) := below_bt HB2.out hb3
  clear hb3 HFD
  go_wp2
  go_ret
  exact ⟨rfl, below_bt HB3.out (below_alloc _ _)⟩
set_option maxRecDepth 8000 in
set_option maxHeartbeats 1000000 in
theorem same_yes (qa qb : Option Addr) (n ca cb : Nat) (l : List EntV) (w : World) (hn : n = l.length) (hnb : (n : Int) ≤ 1000000) (ha : EntsIn w qa l) (hb : EntsIn w qb l) :
    Calls Try.prog 27 #[.slice qa n ca, .slice qb n cb] w fun e w' => e = .returned (.bool true) ∧ Below w.heap.size w w' := by
  have HA : Hid (EntsIn w qa l) := ha
  have HB : Hid (EntsIn w qb l) := hb
  have HN : Hid (n = l.length) := hn
  clear ha hb hn
  go_enter Try.func27, Try.ntmps27
  go_wp2
  go_loopw [5] (fun i wr => ∃ k : Nat, k ≤ n ∧ i = .int .i64 k ∧ Below w.heap.size w wr) (fun i _ => n - (intOf i).toNat)
  case atStart => exact ⟨0, by omega, rfl, Below.refl _ _⟩
  case round =>
    obtain ⟨k, hk, rfl, hbel⟩ := hrel
    have HBE : Hid (Below w.heap.size w wr) := hbel
    clear hbel
    by_cases hkn : k < n
    · have g1 : decide (k < n) = true := decide_eq_true hkn
      have hkI : (k : Int) < (n : Int) := by omega
      obtain ⟨ba, oa, rfl⟩ := HA.out.addr (by have := HN.out; omega)
      obtain ⟨bb, ob, rfl⟩ := HB.out.addr (by have := HN.out; omega)
      obtain ⟨x, hx⟩ : ∃ x, l.getD k zeroE = x := ⟨_, rfl⟩
      obtain ⟨x0, x1, x2, x3⟩ := (HA.out.below HBE.out).at (k := k) (by have := HN.out; omega)
      obtain ⟨y0, y1, y2, y3⟩ := (HB.out.below HBE.out).at (k := k) (by have := HN.out; omega)
      rw [hx] at x0 x1 x2 x3 y0 y1 y2 y3
      obtain ⟨kx, vx, sx, gx⟩ := x
      simp only at x0 x1 x2 x3 y0 y1 y2 y3
      clear hx
      go_wp2
      go_quiet (fail)
      go_wp2
      go_roundw
      case rel => exact ⟨k + 1, by omega, by go_num, below_drewN HBE.out _⟩
      case measure => simp [intOf]; omega
    · have g1 : decide (k < n) = false := decide_eq_false hkn
      have hkI : (n : Int) ≤ (k : Int) := by omega
      go_wp2
      go_ret
      exact ⟨rfl, HBE.out⟩
set_option maxRecDepth 8000 in
set_option maxHeartbeats 1000000 in
theorem heavy_any (q : Option Addr) (n c : Nat) (l : List EntV) (w : World) (h : EntsL w q n l) (hn : (n : Int) ≤ 9223372036854775807) :
    Calls Try.prog 17 #[.slice q n c] w fun e w' => (∃ r : Bool, e = .returned (.bool r) ∧ (r = false → n ≤ 5000)) ∧ Below w.heap.size w w' := by
  have HN : Hid (n = l.length) := h.n
  have HQ : Hid (EntsIn w q l) := h.lies
  clear h
  go_enter Try.func17, Try.ntmps17
  go_wp2
  go_loopw [3, 4] (fun t i wr => ∃ k : Nat, ∃ z : Int, k ≤ n ∧ i = .int .i64 k ∧ t = .int .i64 z ∧ Below w.heap.size w wr) (fun _ i _ => n - (intOf i).toNat)
  case atStart => exact ⟨0, 0, by omega, rfl, rfl, Below.refl _ _⟩
  case round =>
    obtain ⟨k, z, hk, rfl, rfl, hbel⟩ := hrel
    have HBE : Hid (Below w.heap.size w wr) := hbel
    clear hbel
    by_cases hkn : k < n
    · have g1 : decide (k < n) = true := decide_eq_true hkn
      have hkI : (k : Int) < (n : Int) := by omega
      have hk0 : (0 : Int) ≤ (k : Int) := by omega
      obtain ⟨ba, oa, rfl⟩ := HQ.out.addr (by have := HN.out; omega)
      obtain ⟨x0, x1, _, _⟩ := (HQ.out.below HBE.out).at (k := k) (by have := HN.out; omega)
      generalize (l.getD k zeroE).key = ke at *
      generalize (l.getD k zeroE).val = ve at *
      go_wp2
      go_region
      go_wp2
      go_roundw
      case rel => exact ⟨k + 1, _, by omega, by go_num, rfl, HBE.out.drew⟩
      case measure => simp [intOf]; omega
    · have g1 : decide (k < n) = false := decide_eq_false hkn
      have hkI : (n : Int) ≤ (k : Int) := by omega
      by_cases h5 : n ≤ 5000
      · have HR : Hid (n ≤ 5000) := h5
        by_cases hm : 200 < n ∧ n ≤ 4096
        · have q1 : decide ((200 : Int) < (n : Int)) = true := decide_eq_true (by omega)
          have q2 : decide ((n : Int) ≤ 4096) = true := decide_eq_true (by omega)
          clear h5 hm
          go_wp2
          go_ret
          exact ⟨⟨_, rfl, fun _ => HR.out⟩, HBE.out⟩
        · have q3 : decide ((5000 : Int) < (n : Int)) = false := decide_eq_false (by omega)
          have HZ : Hid (∀ A B C : Bool, decide ((300000 : Int) < z) = A → decide (z < 600000) = B → decide ((900000 : Int) < z) = C → True) := fun _ _ _ _ _ _ => trivial
          obtain ⟨A, hA⟩ : ∃ A, decide ((300000 : Int) < z) = A := ⟨_, rfl⟩
          obtain ⟨B, hB⟩ : ∃ B, decide (z < 600000) = B := ⟨_, rfl⟩
          obtain ⟨C, hC⟩ : ∃ C, decide ((900000 : Int) < z) = C := ⟨_, rfl⟩
          rcases Nat.lt_or_ge 200 n with h2 | h2
          · have q1 : decide ((200 : Int) < (n : Int)) = true := decide_eq_true (by omega)
            have q2 : decide ((n : Int) ≤ 4096) = false := decide_eq_false (by omega)
            clear h5 hm h2
            cases A <;> cases B <;> cases C <;> (go_wp2; go_ret; exact ⟨⟨_, rfl, fun _ => HR.out⟩, HBE.out⟩)
          · have q1 : decide ((200 : Int) < (n : Int)) = false := decide_eq_false (by omega)
            clear h5 hm h2
            cases A <;> cases B <;> cases C <;> (go_wp2; go_ret; exact ⟨⟨_, rfl, fun _ => HR.out⟩, HBE.out⟩)
      · have q1 : decide ((200 : Int) < (n : Int)) = true := decide_eq_true (by omega)
        have q2 : decide ((n : Int) ≤ 4096) = false := decide_eq_false (by omega)
        have q3 : decide ((5000 : Int) < (n : Int)) = true := decide_eq_true (by omega)
        clear h5
        go_wp2
        go_ret
        exact ⟨⟨_, rfl, fun h => by cases h⟩, HBE.out⟩
end Go.Proofs.Ytlcbjmbphekliaa
namespace Go.Proofs.Ytlcbjmbphekliaa.tableNames
open Go.ChangeShapes Go.WideShapes Go.ChangeAt Go.RowKit
open Go.ChangeMaps (open_string shut_string)
set_option linter.unusedVariables false

theorem own : ownKnob Try.prog.godebug = none := by kernel_rfl
theorem laidOut : laidOutB Try.prog = true := by kernel_rfl

theorem body_three : bodyN threeL = [3, 0, 1, 97, 2, 0, 0, 1, 0, 1, 0, 0, 0, 1, 98, 3, 1] := by
  have n1 : numsOf ⟨#[97]⟩ = [97] := rfl
  have n2 : numsOf ⟨#[98]⟩ = [98] := rfl
  have n3 : numsOf ByteArray.empty = [] := rfl
  have z0 : ByteArray.empty.size = 0 := rfl
  simp [bodyN, threeL, entsN, entN, keyN, tailN, n1, n2, n3, sharedN, smallN_lo, z0]
theorem page_three : (pageN threeL).length < 512 := by rw [page_len, body_three]; decide
theorem part_three : partE threeL = [threeL] := by
  have hf : IsFirst threeL 3 := by
    refine ⟨by omega, by decide, .inr rfl, fun m _ hm => ?_⟩
    have := page_mono threeL (m := m) (n := 3) (by omega)
    rw [show threeL.take 3 = threeL from rfl] at this
    exact Nat.lt_of_le_of_lt this page_three
  have h3 : firstN threeL = 3 := (firstN_is (by decide)).only hf
  rw [partE_step (by decide), h3]
  rfl
structure Three (ys : List Nat) : Prop where
  make : makeT threeL = (ys, 0)
  f1 : findT ys ⟨#[97]⟩ 9 = (⟨⟨#[97]⟩, ByteArray.empty, 2, false⟩, true, 0)
  f2 : findT ys ⟨#[97]⟩ 0 = (zeroE, false, 0)
  f3 : findT ys ⟨#[98]⟩ 3 = (⟨⟨#[98]⟩, ByteArray.empty, 3, true⟩, true, 0)
  f4 : findT ys ⟨#[]⟩ 1 = (zeroE, false, 60)
  f5 : findT ys ⟨#[97]⟩ (-1) = (zeroE, false, 2)
  r1 : rangeT ys ⟨#[97]⟩ ⟨#[98]⟩ = ([⟨⟨#[97]⟩, ByteArray.empty, 2, false⟩, ⟨⟨#[97]⟩, ByteArray.empty, 1, false⟩], 0)
  r2 : rangeT ys ⟨#[98]⟩ ⟨#[]⟩ = ([⟨⟨#[98]⟩, ByteArray.empty, 3, true⟩], 0)
  ends : endsT ys = (⟨#[97]⟩, ⟨#[98]⟩, 0)
  ok : okT ys = 0
  count : countT ys = 1
theorem three_is : ∃ ys, Three ys := by
  obtain ⟨ys, h⟩ := few_made check_three (by decide) (by decide)
  have a1 : keepU ⟨#[97]⟩ ⟨#[98]⟩ ⟨⟨#[97]⟩, ByteArray.empty, 2, false⟩ = true := by decide +kernel
  have a2 : keepU ⟨#[97]⟩ ⟨#[98]⟩ ⟨⟨#[97]⟩, ByteArray.empty, 1, false⟩ = true := by decide +kernel
  have a3 : keepU ⟨#[97]⟩ ⟨#[98]⟩ ⟨⟨#[98]⟩, ByteArray.empty, 3, true⟩ = false := by decide +kernel
  have b1 : keepU ⟨#[98]⟩ ⟨#[]⟩ ⟨⟨#[97]⟩, ByteArray.empty, 2, false⟩ = false := by decide +kernel
  have b2 : keepU ⟨#[98]⟩ ⟨#[]⟩ ⟨⟨#[97]⟩, ByteArray.empty, 1, false⟩ = false := by decide +kernel
  have b3 : keepU ⟨#[98]⟩ ⟨#[]⟩ ⟨⟨#[98]⟩, ByteArray.empty, 3, true⟩ = true := by decide +kernel
  refine ⟨ys, h, ?_, ?_, ?_, ?_, ?_, ?_, ?_, ?_, okT_some (read_makeT h), ?_⟩
  · rw [find_made h (by decide) (by decide) (by decide) (by decide)]; rfl
  · rw [find_made h (by decide) (by decide) (by decide) (by decide)]; rfl
  · rw [find_made h (by decide) (by decide) (by decide) (by decide)]; rfl
  · rw [findT_some (read_makeT h), if_pos (.inl (by decide))]
  · rw [findT_some (read_makeT h), if_neg (by decide), if_pos (.inl (by decide))]
  · rw [range_made h (by decide) (by decide)]
    simp only [threeL, List.filter, a1, a2, a3]
  · rw [range_made h (by decide) (by decide)]
    simp only [threeL, List.filter, b1, b2, b3]
  · rw [endsT_made h]; rfl
  · unfold countT; rw [read_makeT h, part_three]; rfl
theorem ok_nil : okT [] = 90 := okT_none (readT_no1 (cutTab_bad (by simp)))
set_option maxRecDepth 8000 in
set_option maxHeartbeats 4000000 in
theorem walk (w : World) : Calls Try.prog 3 #[] w fun e w' => e = .returned (.bool true) ∧ Below w.heap.size w w' := by
  obtain ⟨ys, h3⟩ := three_is
  have HT : Hid (Three ys) := h3
  clear h3
  go_enter Try.func3, Try.ntmps3
  go_wp2_with fail
  refine (three_any _).mono ?_
  rintro e w1 ⟨rfl, he1, hb1⟩
  have HB1 : Hid (Below w.heap.size w w1) := hb1
  have HMK := Make_t _ 3 3 threeL w1 he1 (by unfold maxLen; omega) ys 0 HT.out.make
  clear he1 hb1
  go_wp2_with fail
  refine HMK.mono ?_
  rintro e w2 ⟨v, rfl, ho2, hb2⟩
  obtain ⟨p, c, rfl, hh⟩ := own_hand ho2 (makeT_lt HT.out.make)
  have HB2 : Hid (Below w.heap.size w w2) := below_bt HB1.out hb2
  have HH : Hid (BHand w2 p ys.length c ys) := hh
  clear ho2 hb2 HMK hh
  have HK0 : Hid (Below w2.heap.size w2 w2 ∧ True) := ⟨Below.refl _ _, trivial⟩
  have HC := Find_t p ys.length c ys ⟨#[97]⟩ 9 _ (HH.out.below HK0.out.1) _ _ _ HT.out.f1 (by decide)
  rw [show entV ⟨⟨#[97]⟩, ByteArray.empty, 2, false⟩ = .agg #[.string ⟨#[97]⟩, .string ⟨#[]⟩, .int .i64 2, .bool false] from rfl] at HC
  go_wp2_with fail
  refine HC.mono ?_
  rintro e w3 ⟨rfl, hb3⟩
  have hc3 := below_bt hb3 (below_alloc w3 (.cells #[.string ⟨#[97]⟩, .string ⟨#[]⟩, .int .i64 2, .bool false] 29))
  have HK1 : Hid (Below w2.heap.size w2 (w3.alloc (.cells #[.string ⟨#[97]⟩, .string ⟨#[]⟩, .int .i64 2, .bool false] 29)) ∧ ((w3.alloc (.cells #[.string ⟨#[97]⟩, .string ⟨#[]⟩, .int .i64 2, .bool false] 29)).heap[w3.heap.size]? = some (.cells #[.string ⟨#[97]⟩, .string ⟨#[]⟩, .int .i64 2, .bool false] 29 (0, 0))) ∧ True) := ⟨below_bt HK0.out.1 hc3, heap_alloc_new _ _, trivial⟩
  clear HK0
  clear hb3 hc3 HC
  have HC := Find_t p ys.length c ys ⟨#[97]⟩ 0 _ (HH.out.below HK1.out.1) _ _ _ HT.out.f2 (by decide)
  rw [show entV zeroE = .agg #[.string ⟨#[]⟩, .string ⟨#[]⟩, .int .i64 0, .bool false] from rfl] at HC
  go_wp2_with fail
  refine HC.mono ?_
  rintro e w4 ⟨rfl, hb4⟩
  have hc4 := below_bt hb4 (below_alloc w4 (.cells #[.string ⟨#[]⟩, .string ⟨#[]⟩, .int .i64 0, .bool false] 29))
  have HK2 : Hid (Below w2.heap.size w2 (w4.alloc (.cells #[.string ⟨#[]⟩, .string ⟨#[]⟩, .int .i64 0, .bool false] 29)) ∧ ((w4.alloc (.cells #[.string ⟨#[]⟩, .string ⟨#[]⟩, .int .i64 0, .bool false] 29)).heap[w3.heap.size]? = some (.cells #[.string ⟨#[97]⟩, .string ⟨#[]⟩, .int .i64 2, .bool false] 29 (0, 0))) ∧ True) := ⟨below_bt HK1.out.1 hc4, block_below HK1.out.2.1 hc4, trivial⟩
  clear HK1
  clear hb4 hc4 HC
  have HC := Find_t p ys.length c ys ⟨#[98]⟩ 3 _ (HH.out.below HK2.out.1) _ _ _ HT.out.f3 (by decide)
  rw [show entV ⟨⟨#[98]⟩, ByteArray.empty, 3, true⟩ = .agg #[.string ⟨#[98]⟩, .string ⟨#[]⟩, .int .i64 3, .bool true] from rfl] at HC
  go_wp2_with fail
  refine HC.mono ?_
  rintro e w5 ⟨rfl, hb5⟩
  have hc5 := below_bt hb5 (below_alloc w5 (.cells #[.string ⟨#[98]⟩, .string ⟨#[]⟩, .int .i64 3, .bool true] 29))
  have HK3 : Hid (Below w2.heap.size w2 (w5.alloc (.cells #[.string ⟨#[98]⟩, .string ⟨#[]⟩, .int .i64 3, .bool true] 29)) ∧ ((w5.alloc (.cells #[.string ⟨#[98]⟩, .string ⟨#[]⟩, .int .i64 3, .bool true] 29)).heap[w3.heap.size]? = some (.cells #[.string ⟨#[97]⟩, .string ⟨#[]⟩, .int .i64 2, .bool false] 29 (0, 0))) ∧ ((w5.alloc (.cells #[.string ⟨#[98]⟩, .string ⟨#[]⟩, .int .i64 3, .bool true] 29)).heap[w5.heap.size]? = some (.cells #[.string ⟨#[98]⟩, .string ⟨#[]⟩, .int .i64 3, .bool true] 29 (0, 0))) ∧ True) := ⟨below_bt HK2.out.1 hc5, block_below HK2.out.2.1 hc5, heap_alloc_new _ _, trivial⟩
  clear HK2
  clear hb5 hc5 HC
  have HC := Range_t p ys.length c ys ⟨#[97]⟩ ⟨#[98]⟩ _ (HH.out.below HK3.out.1) _ _ HT.out.r1 (by decide) (by decide)
  go_wp2_with fail
  refine HC.mono ?_
  rintro e w6 ⟨v6, rfl, ho6, hb6⟩
  obtain ⟨q6, m6, rfl, _, _, _⟩ := ho6.form
  have HK4 : Hid (Below w2.heap.size w2 w6 ∧ (w6.heap[w3.heap.size]? = some (.cells #[.string ⟨#[97]⟩, .string ⟨#[]⟩, .int .i64 2, .bool false] 29 (0, 0))) ∧ (w6.heap[w5.heap.size]? = some (.cells #[.string ⟨#[98]⟩, .string ⟨#[]⟩, .int .i64 3, .bool true] 29 (0, 0))) ∧ (EntsIn w6 q6 [⟨⟨#[97]⟩, ByteArray.empty, 2, false⟩, ⟨⟨#[97]⟩, ByteArray.empty, 1, false⟩]) ∧ True) := ⟨below_bt HK3.out.1 hb6, block_below HK3.out.2.1 hb6, block_below HK3.out.2.2.1 hb6, ho6.ents, trivial⟩
  clear HK3
  clear ho6 hb6 HC
  have HC := Range_t p ys.length c ys ⟨#[98]⟩ ⟨#[]⟩ _ (HH.out.below HK4.out.1) _ _ HT.out.r2 (by decide) (by decide)
  go_wp2_with fail
  refine HC.mono ?_
  rintro e w7 ⟨v7, rfl, ho7, hb7⟩
  obtain ⟨q7, m7, rfl, _, _, _⟩ := ho7.form
  have HK5 : Hid (Below w2.heap.size w2 w7 ∧ (w7.heap[w3.heap.size]? = some (.cells #[.string ⟨#[97]⟩, .string ⟨#[]⟩, .int .i64 2, .bool false] 29 (0, 0))) ∧ (w7.heap[w5.heap.size]? = some (.cells #[.string ⟨#[98]⟩, .string ⟨#[]⟩, .int .i64 3, .bool true] 29 (0, 0))) ∧ (EntsIn w7 q6 [⟨⟨#[97]⟩, ByteArray.empty, 2, false⟩, ⟨⟨#[97]⟩, ByteArray.empty, 1, false⟩]) ∧ (EntsIn w7 q7 [⟨⟨#[98]⟩, ByteArray.empty, 3, true⟩]) ∧ True) := ⟨below_bt HK4.out.1 hb7, block_below HK4.out.2.1 hb7, block_below HK4.out.2.2.1 hb7, (HK4.out.2.2.2.1).below hb7, ho7.ents, trivial⟩
  clear HK4
  clear ho7 hb7 HC
  have HC := Ends_t p ys.length c ys _ (HH.out.below HK5.out.1) _ _ _ HT.out.ends
  go_wp2_with fail
  refine HC.mono ?_
  rintro e w8 ⟨rfl, hb8⟩
  have HK6 : Hid (Below w2.heap.size w2 w8 ∧ (w8.heap[w3.heap.size]? = some (.cells #[.string ⟨#[97]⟩, .string ⟨#[]⟩, .int .i64 2, .bool false] 29 (0, 0))) ∧ (w8.heap[w5.heap.size]? = some (.cells #[.string ⟨#[98]⟩, .string ⟨#[]⟩, .int .i64 3, .bool true] 29 (0, 0))) ∧ (EntsIn w8 q6 [⟨⟨#[97]⟩, ByteArray.empty, 2, false⟩, ⟨⟨#[97]⟩, ByteArray.empty, 1, false⟩]) ∧ (EntsIn w8 q7 [⟨⟨#[98]⟩, ByteArray.empty, 3, true⟩]) ∧ True) := ⟨below_bt HK5.out.1 hb8, block_below HK5.out.2.1 hb8, block_below HK5.out.2.2.1 hb8, (HK5.out.2.2.2.1).below hb8, (HK5.out.2.2.2.2.1).below hb8, trivial⟩
  clear HK5
  clear hb8 HC
  have HC := Pages_t p ys.length c ys _ (HH.out.below HK6.out.1) _ HT.out.ok _ HT.out.count
  go_wp2_with fail
  refine HC.mono ?_
  rintro e w9 ⟨rfl, hb9⟩
  have HK7 : Hid (Below w2.heap.size w2 w9 ∧ (w9.heap[w3.heap.size]? = some (.cells #[.string ⟨#[97]⟩, .string ⟨#[]⟩, .int .i64 2, .bool false] 29 (0, 0))) ∧ (w9.heap[w5.heap.size]? = some (.cells #[.string ⟨#[98]⟩, .string ⟨#[]⟩, .int .i64 3, .bool true] 29 (0, 0))) ∧ (EntsIn w9 q6 [⟨⟨#[97]⟩, ByteArray.empty, 2, false⟩, ⟨⟨#[97]⟩, ByteArray.empty, 1, false⟩]) ∧ (EntsIn w9 q7 [⟨⟨#[98]⟩, ByteArray.empty, 3, true⟩]) ∧ True) := ⟨below_bt HK6.out.1 hb9, block_below HK6.out.2.1 hb9, block_below HK6.out.2.2.1 hb9, (HK6.out.2.2.2.1).below hb9, (HK6.out.2.2.2.2.1).below hb9, trivial⟩
  clear HK6
  clear hb9 HC
  have HC := Make_t none 0 0 [] w9 ⟨rfl, fun h => absurd h (by simp)⟩ (by unfold maxLen; omega) [] 90 (makeT_none rfl rfl)
  go_wp2_with fail
  refine HC.mono ?_
  rintro e w10 ⟨v10, rfl, _, hb10⟩
  have HK8 : Hid (Below w2.heap.size w2 w10 ∧ (w10.heap[w3.heap.size]? = some (.cells #[.string ⟨#[97]⟩, .string ⟨#[]⟩, .int .i64 2, .bool false] 29 (0, 0))) ∧ (w10.heap[w5.heap.size]? = some (.cells #[.string ⟨#[98]⟩, .string ⟨#[]⟩, .int .i64 3, .bool true] 29 (0, 0))) ∧ (EntsIn w10 q6 [⟨⟨#[97]⟩, ByteArray.empty, 2, false⟩, ⟨⟨#[97]⟩, ByteArray.empty, 1, false⟩]) ∧ (EntsIn w10 q7 [⟨⟨#[98]⟩, ByteArray.empty, 3, true⟩]) ∧ True) := ⟨below_bt HK7.out.1 hb10, block_below HK7.out.2.1 hb10, block_below HK7.out.2.2.1 hb10, (HK7.out.2.2.2.1).below hb10, (HK7.out.2.2.2.2.1).below hb10, trivial⟩
  clear HK7
  clear hb10 HC
  have HC := Find_t p ys.length c ys ⟨#[]⟩ 1 _ (HH.out.below HK8.out.1) _ _ _ HT.out.f4 (by decide)
  rw [show entV zeroE = .agg #[.string ⟨#[]⟩, .string ⟨#[]⟩, .int .i64 0, .bool false] from rfl] at HC
  go_wp2_with fail
  refine HC.mono ?_
  rintro e w11 ⟨rfl, hb11⟩
  have hc11 := below_bt hb11 (below_alloc w11 (.cells #[.string ⟨#[]⟩, .string ⟨#[]⟩, .int .i64 0, .bool false] 29))
  have HK9 : Hid (Below w2.heap.size w2 (w11.alloc (.cells #[.string ⟨#[]⟩, .string ⟨#[]⟩, .int .i64 0, .bool false] 29)) ∧ ((w11.alloc (.cells #[.string ⟨#[]⟩, .string ⟨#[]⟩, .int .i64 0, .bool false] 29)).heap[w3.heap.size]? = some (.cells #[.string ⟨#[97]⟩, .string ⟨#[]⟩, .int .i64 2, .bool false] 29 (0, 0))) ∧ ((w11.alloc (.cells #[.string ⟨#[]⟩, .string ⟨#[]⟩, .int .i64 0, .bool false] 29)).heap[w5.heap.size]? = some (.cells #[.string ⟨#[98]⟩, .string ⟨#[]⟩, .int .i64 3, .bool true] 29 (0, 0))) ∧ (EntsIn (w11.alloc (.cells #[.string ⟨#[]⟩, .string ⟨#[]⟩, .int .i64 0, .bool false] 29)) q6 [⟨⟨#[97]⟩, ByteArray.empty, 2, false⟩, ⟨⟨#[97]⟩, ByteArray.empty, 1, false⟩]) ∧ (EntsIn (w11.alloc (.cells #[.string ⟨#[]⟩, .string ⟨#[]⟩, .int .i64 0, .bool false] 29)) q7 [⟨⟨#[98]⟩, ByteArray.empty, 3, true⟩]) ∧ True) := ⟨below_bt HK8.out.1 hc11, block_below HK8.out.2.1 hc11, block_below HK8.out.2.2.1 hc11, (HK8.out.2.2.2.1).below hc11, (HK8.out.2.2.2.2.1).below hc11, trivial⟩
  clear HK8
  clear hb11 hc11 HC
  have HC := Find_t p ys.length c ys ⟨#[97]⟩ (-1) _ (HH.out.below HK9.out.1) _ _ _ HT.out.f5 (by decide)
  rw [show entV zeroE = .agg #[.string ⟨#[]⟩, .string ⟨#[]⟩, .int .i64 0, .bool false] from rfl] at HC
  go_wp2_with fail
  refine HC.mono ?_
  rintro e w12 ⟨rfl, hb12⟩
  have hc12 := below_bt hb12 (below_alloc w12 (.cells #[.string ⟨#[]⟩, .string ⟨#[]⟩, .int .i64 0, .bool false] 29))
  have HK10 : Hid (Below w2.heap.size w2 (w12.alloc (.cells #[.string ⟨#[]⟩, .string ⟨#[]⟩, .int .i64 0, .bool false] 29)) ∧ ((w12.alloc (.cells #[.string ⟨#[]⟩, .string ⟨#[]⟩, .int .i64 0, .bool false] 29)).heap[w3.heap.size]? = some (.cells #[.string ⟨#[97]⟩, .string ⟨#[]⟩, .int .i64 2, .bool false] 29 (0, 0))) ∧ ((w12.alloc (.cells #[.string ⟨#[]⟩, .string ⟨#[]⟩, .int .i64 0, .bool false] 29)).heap[w5.heap.size]? = some (.cells #[.string ⟨#[98]⟩, .string ⟨#[]⟩, .int .i64 3, .bool true] 29 (0, 0))) ∧ (EntsIn (w12.alloc (.cells #[.string ⟨#[]⟩, .string ⟨#[]⟩, .int .i64 0, .bool false] 29)) q6 [⟨⟨#[97]⟩, ByteArray.empty, 2, false⟩, ⟨⟨#[97]⟩, ByteArray.empty, 1, false⟩]) ∧ (EntsIn (w12.alloc (.cells #[.string ⟨#[]⟩, .string ⟨#[]⟩, .int .i64 0, .bool false] 29)) q7 [⟨⟨#[98]⟩, ByteArray.empty, 3, true⟩]) ∧ True) := ⟨below_bt HK9.out.1 hc12, block_below HK9.out.2.1 hc12, block_below HK9.out.2.2.1 hc12, (HK9.out.2.2.2.1).below hc12, (HK9.out.2.2.2.2.1).below hc12, trivial⟩
  clear HK9
  clear hb12 hc12 HC
  go_wp2_with fail
  refine (alive_any _).mono ?_
  rintro e w13 ⟨rfl, hb13⟩
  have HK11 : Hid (Below w2.heap.size w2 w13 ∧ (w13.heap[w3.heap.size]? = some (.cells #[.string ⟨#[97]⟩, .string ⟨#[]⟩, .int .i64 2, .bool false] 29 (0, 0))) ∧ (w13.heap[w5.heap.size]? = some (.cells #[.string ⟨#[98]⟩, .string ⟨#[]⟩, .int .i64 3, .bool true] 29 (0, 0))) ∧ (EntsIn w13 q6 [⟨⟨#[97]⟩, ByteArray.empty, 2, false⟩, ⟨⟨#[97]⟩, ByteArray.empty, 1, false⟩]) ∧ (EntsIn w13 q7 [⟨⟨#[98]⟩, ByteArray.empty, 3, true⟩]) ∧ True) := ⟨below_bt HK10.out.1 hb13, block_below HK10.out.2.1 hb13, block_below HK10.out.2.2.1 hb13, (HK10.out.2.2.2.1).below hb13, (HK10.out.2.2.2.2.1).below hb13, trivial⟩
  clear HK10
  clear hb13
  obtain ⟨b6, o6, rfl⟩ := (HK11.out.2.2.2.1).addr (by decide)
  obtain ⟨b7, o7, rfl⟩ := (HK11.out.2.2.2.2.1).addr (by decide)
  obtain ⟨_, _, x2, _⟩ := (HK11.out.2.2.2.1).at (k := 1) (by decide)
  obtain ⟨y0, _, _, _⟩ := (HK11.out.2.2.2.2.1).at (k := 0) (by decide)
  obtain ⟨⟨_, _, z2, _⟩, _⟩ := four HK11.out.2.1
  obtain ⟨⟨_, _, _, u3⟩, _⟩ := four HK11.out.2.2.1
  simp only [List.getD_cons_succ, List.getD_cons_zero, Nat.zero_mul, Nat.one_mul, Nat.add_zero] at x2 y0
  have HC := Check_t none 0 0 [] w13 ⟨rfl, bin_nil _, by unfold maxLen; omega⟩ 90 ok_nil
  go_wp2_with fail
  refine HC.mono ?_
  rintro e w14 ⟨rfl, hb14⟩
  have HE : Hid (Below w.heap.size w w14) := below_bt HB2.out (below_bt HK11.out.1 hb14)
  clear hb14 HC
  go_wp2
  go_ret
  exact ⟨rfl, HE.out⟩

/-! ### THE ROW's STEP -/
set_option maxRecDepth 100000 in
theorem lifted (os : Os) (started : os.Started) (H : Type) (enc : TypeId × Value → H) :
    ReturnsInHanded {} Try.checked os 3 .any (Rows.tableNamesSpec.pre6 enc Try.prog Try.f3 Rows.tableNamesRow.domain false) (Rows.tableNamesSpec.post enc Try.prog Try.f3 false true false false) := by
  refine returnsInHanded_of_change (C := Try.checked) own started (by kernel_rfl) Try.func3
    (ChangeSpec.witness6 (enc := enc) (C := Try.checked) false ⟨#[], #[], []⟩ 8 (by kernel_rfl) (by kernel_rfl) (by kernel_rfl) (by kernel_rfl)) ?_
  intro W base args ds gs before hval0 hW hcnd _
  have hval : ∀ (j : Nat) t v, Try.f3.params[j]? = some t → args[j]? = some v → Value.okWide Try.prog W .any base t v := hval0
  have hW' := hW
  obtain ⟨p, q, hA0, hV, rfl, hfz, hnd⟩ := hW
  have hA : DataW.TrodAll enc Try.prog W 0 (fun _ => true) true Try.f3.params.toList args.toList ds p := hA0
  rw [Try.params3] at hA hval
  obtain ⟨hargs, rfl, rfl⟩ := trodAll_nil hA
  obtain rfl : args = #[] := by cases args; simp_all
  obtain ⟨rfl, rfl⟩ := trodVars_none hV
  clear hA0 hval0
  refine (walk  W ).mono fun e W' ⟨he, bel⟩ => ?_
  subst he
  exact ⟨_, rfl, _, _, _, [], _, [], hW', trodAll_mk1 (shut_bool Try.underlying4 _), trodAll_mk0, rfl, bel.frame _, fun h => by cases h⟩

theorem over : Rows.tableNamesRow.holds Try.pinned (OpenSpec.ofChange Rows.tableNamesSpec) :=
  OpenClaim.holds_of_wide 3 Try.f3 rfl rfl rfl rfl rfl rfl rfl ⟨rfl, rfl, rfl, rfl, rfl⟩ rfl rfl rfl rfl rfl (by kernel_rfl) Try.func3 (by kernel_rfl)
    (of_decide_eq_true (by kernel_rfl)) (by unfold Func.isWrapper; first | (rw [if_pos (by decide +kernel)]; kernel_rfl) | (rw [if_neg (by decide +kernel)]; exact ⟨rfl, rfl⟩))
    (fun os started H enc _ => lifted os started H enc)

theorem proved : Rows.TableNamesSaid := over
end Go.Proofs.Ytlcbjmbphekliaa.tableNames
namespace Go.Proofs.Ytlcbjmbphekliaa
theorem tableNames_holds : Rows.TableNamesSaid := tableNames.proved
#print axioms tableNames_holds
end Go.Proofs.Ytlcbjmbphekliaa
