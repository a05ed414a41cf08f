/-
  For any entries, any key and any number the law TableFinds answers true: what is found at a number is what the entries tell; sieve and index never hide one.
-/
import Derived.Test.YtlcbjmbphekliaaJ08
import Derived.Test.YtlcbjmbphekliaaRows
import Derived.WalkKit
import Derived.ProofKit
import Derived.OpenShut
import Derived.ShutString
import Derived.ChangeOld
import Derived.Below
namespace Go.Proofs.Ytlcbjmbphekliaa
open Go.RowKit Go.WideShapes

def threeL : List EntV := [⟨⟨#[97]⟩, ByteArray.empty, 2, false⟩, ⟨⟨#[97]⟩, ByteArray.empty, 1, false⟩, ⟨⟨#[98]⟩, ByteArray.empty, 3, true⟩]
theorem three_any (w : World) : Calls Try.prog 10 #[] w fun e w' => e = .returned (.slice (some ⟨w.heap.size, 0, none⟩) 3 3) ∧ EntsL w' (some ⟨w.heap.size, 0, none⟩) 3 threeL ∧ Below w.heap.size w w' := by
  go_enter Try.func10, Try.ntmps10
  go_wp2
  go_ret
  refine ⟨rfl, ⟨rfl, fun _ => ⟨w.heap.size, 0, rfl, fun i hi => ?_⟩⟩, below_alloc _ _⟩
  have hh := heap_alloc_new w (.cells #[.string ⟨#[97]⟩, .string ⟨#[]⟩, .int .i64 2, .bool false, .string ⟨#[97]⟩, .string ⟨#[]⟩, .int .i64 1, .bool false, .string ⟨#[98]⟩, .string ⟨#[]⟩, .int .i64 3, .bool true] 29)
  have hi2 : i = 0 ∨ i = 1 ∨ i = 2 := by simp only [threeL, List.length_cons, List.length_nil] at hi; omega
  rcases hi2 with rfl | rfl | rfl
  · exact ⟨Lib.cell_of_heap hh 0, Lib.cell_of_heap hh 1, Lib.cell_of_heap hh 2, Lib.cell_of_heap hh 3⟩
  · exact ⟨Lib.cell_of_heap hh 4, Lib.cell_of_heap hh 5, Lib.cell_of_heap hh 6, Lib.cell_of_heap hh 7⟩
  · exact ⟨Lib.cell_of_heap hh 8, Lib.cell_of_heap hh 9, Lib.cell_of_heap hh 10, Lib.cell_of_heap hh 11⟩
theorem check_three : checkE threeL = 0 := by decide +kernel
theorem pagesN_len : ∀ (ps : List (List EntV)) (K : Nat), (∀ p ∈ ps, (pageN p).length ≤ K) → (pagesN ps).length ≤ K * ps.length
  | [], _, _ => by simp [pagesN]
  | p :: ps, K, h => by
    have h1 := h p (by simp)
    have h2 := pagesN_len ps K (fun q hq => h q (by simp [hq]))
    rw [pagesN_cons, List.length_append, List.length_cons, Nat.mul_add, Nat.mul_one]; omega
/-- The table of few entries is not too long. -/
theorem few_made {l : List EntV} (hc : checkE l = 0) (h0 : 0 < l.length) (hl : l.length ≤ 70) : ∃ ys, makeT l = (ys, 0) := by
  have hp := parts_is l
  have hn : (partE l).length ≤ 70 := Nat.le_trans (len_flat _ hp.pos) (by rw [hp.flat]; exact hl)
  have h1 := pagesN_len (partE l) 6000 (fun p hm => (hp.small hc p hm).2)
  have h2 := spotsN_len (partE l) (fun p hm => spotN_len (hp.small hc p hm).1 (hp.pos p hm) (by have := (hp.small hc p hm).2; omega))
  have h3 := smallN_five (partE l).length (by omega)
  have h4 : (indexN (partE l)).length = (smallN (partE l).length).length + (spotsN (partE l)).length := by unfold indexN; rw [List.length_append]
  have h5 : 6000 * (partE l).length ≤ 6000 * 70 := Nat.mul_le_mul_left _ hn
  have h6 : 600 * (partE l).length ≤ 600 * 70 := Nat.mul_le_mul_left _ hn
  exact ⟨_, makeT_is hc h0 (by rw [tableN_len, hp.flat, sieveN_len]; omega)⟩
theorem key_a : (⟨#[97]⟩ : ByteArray).size = 1 := rfl
theorem make_three : ∃ ys, makeT threeL = (ys, 0) ∧ findT ys ⟨#[97]⟩ 1 = (⟨⟨#[97]⟩, ByteArray.empty, 1, false⟩, true, 0) := by
  obtain ⟨ys, h⟩ := few_made check_three (by decide) (by decide)
  refine ⟨ys, h, ?_⟩
  rw [find_made h (by decide) (by decide) (by decide) (by decide)]
  rfl
theorem own_hand {w : World} {base : Nat} {v : Value} {ys : List Nat} (h : w.ownsRow base 5 1 v ys.length (Bs ys)) (hy : ∀ c ∈ ys, c < 256) : ∃ p c, v = .slice p ys.length c ∧ BHand w p ys.length c ys := by
  obtain ⟨p, c, rfl, h1, h2, h3⟩ := own_form h
  exact ⟨p, c, rfl, rfl, own_in h hy, h1, h2, h3⟩
set_option maxHeartbeats 1000000 in
theorem alive_any (w : World) : Calls Try.prog 15 #[] w fun e w' => e = .returned (.bool true) ∧ Below w.heap.size w w' := by
  obtain ⟨ys, hm, hf⟩ := make_three
  have HM : Hid (makeT threeL = (ys, 0) ∧ findT ys ⟨#[97]⟩ 1 = (⟨⟨#[97]⟩, ByteArray.empty, 1, false⟩, true, 0)) := ⟨hm, hf⟩
  clear hm hf
  go_enter Try.func15, Try.ntmps15
  go_wp2_with fail
  refine (three_any _).mono ?_
  rintro e w1 ⟨rfl, he1, hb1⟩
  have HB1 : Hid (Below w.heap.size w w1) := hb1
  have HMK := Make_t _ 3 3 threeL w1 he1 (by unfold maxLen; omega) ys 0 HM.out.1
  clear he1 hb1
  go_wp2_with fail
  refine HMK.mono ?_
  rintro e w2 ⟨v, rfl, ho2, hb2⟩
  obtain ⟨p, c, rfl, hh⟩ := own_hand ho2 (makeT_lt HM.out.1)
  have HB2 : Hid (Below w.heap.size w w2) := below_bt HB1.out hb2
  have HFD := Find_t p ys.length c ys ⟨#[97]⟩ 1 w2 hh _ _ _ HM.out.2 (by rw [key_a]; decide)
  rw [entV_def] at HFD
  clear ho2 hb2 HMK hh
  go_wp2_with fail
  refine HFD.mono ?_
  rintro e w3 ⟨rfl, hb3⟩
  have HB3 : Hid (Below w.heap.size w w3) := below_bt HB2.out hb3
  clear hb3 HFD
  go_wp2
  go_ret
  exact ⟨rfl, below_bt HB3.out (below_alloc _ _)⟩
set_option maxRecDepth 8000 in
set_option maxHeartbeats 1000000 in
theorem same_yes (qa qb : Option Addr) (n ca cb : Nat) (l : List EntV) (w : World) (hn : n = l.length) (hnb : (n : Int) ≤ 1000000) (ha : EntsIn w qa l) (hb : EntsIn w qb l) :
    Calls Try.prog 27 #[.slice qa n ca, .slice qb n cb] w fun e w' => e = .returned (.bool true) ∧ Below w.heap.size w w' := by
  have HA : Hid (EntsIn w qa l) := ha
  have HB : Hid (EntsIn w qb l) := hb
  have HN : Hid (n = l.length) := hn
  clear ha hb hn
  go_enter Try.func27, Try.ntmps27
  go_wp2
  go_loopw [5] (fun i wr => ∃ k : Nat, k ≤ n ∧ i = .int .i64 k ∧ Below w.heap.size w wr) (fun i _ => n - (intOf i).toNat)
  case atStart => exact ⟨0, by omega, rfl, Below.refl _ _⟩
  case round =>
    obtain ⟨k, hk, rfl, hbel⟩ := hrel
    have HBE : Hid (Below w.heap.size w wr) := hbel
    clear hbel
    by_cases hkn : k < n
    · have g1 : decide (k < n) = true := decide_eq_true hkn
      have hkI : (k : Int) < (n : Int) := by omega
      obtain ⟨ba, oa, rfl⟩ := HA.out.addr (by have := HN.out; omega)
      obtain ⟨bb, ob, rfl⟩ := HB.out.addr (by have := HN.out; omega)
      obtain ⟨x, hx⟩ : ∃ x, l.getD k zeroE = x := ⟨_, rfl⟩
      obtain ⟨x0, x1, x2, x3⟩ := (HA.out.below HBE.out).at (k := k) (by have := HN.out; omega)
      obtain ⟨y0, y1, y2, y3⟩ := (HB.out.below HBE.out).at (k := k) (by have := HN.out; omega)
      rw [hx] at x0 x1 x2 x3 y0 y1 y2 y3
      obtain ⟨kx, vx, sx, gx⟩ := x
      simp only at x0 x1 x2 x3 y0 y1 y2 y3
      clear hx
      go_wp2
      go_quiet (fail)
      go_wp2
      go_roundw
      case rel => exact ⟨k + 1, by omega, by go_num, below_drewN HBE.out _⟩
      case measure => simp [intOf]; omega
    · have g1 : decide (k < n) = false := decide_eq_false hkn
      have hkI : (n : Int) ≤ (k : Int) := by omega
      go_wp2
      go_ret
      exact ⟨rfl, HBE.out⟩
set_option maxRecDepth 8000 in
set_option maxHeartbeats 1000000 in
theorem heavy_any (q : Option Addr) (n c : Nat) (l : List EntV) (w : World) (h : EntsL w q n l) (hn : (n : Int) ≤ 9223372036854775807) :
    Calls Try.prog 17 #[.slice q n c] w fun e w' => (∃ r : Bool, e = .returned (.bool r) ∧ (r = false → n ≤ 5000)) ∧ Below w.heap.size w w' := by
  have HN : Hid (n = l.length) := h.n
  have HQ : Hid (EntsIn w q l) := h.lies
  clear h
  go_enter Try.func17, Try.ntmps17
  go_wp2
  go_loopw [3, 4] (fun t i wr => ∃ k : Nat, ∃ z : Int, k ≤ n ∧ i = .int .i64 k ∧ t = .int .i64 z ∧ Below w.heap.size w wr) (fun _ i _ => n - (intOf i).toNat)
  case atStart => exact ⟨0, 0, by omega, rfl, rfl, Below.refl _ _⟩
  case round =>
    obtain ⟨k, z, hk, rfl, rfl, hbel⟩ := hrel
    have HBE : Hid (Below w.heap.size w wr) := hbel
    clear hbel
    by_cases hkn : k < n
    · have g1 : decide (k < n) = true := decide_eq_true hkn
      have hkI : (k : Int) < (n : Int) := by omega
      have hk0 : (0 : Int) ≤ (k : Int) := by omega
      obtain ⟨ba, oa, rfl⟩ := HQ.out.addr (by have := HN.out; omega)
      obtain ⟨x0, x1, _, _⟩ := (HQ.out.below HBE.out).at (k := k) (by have := HN.out; omega)
      generalize (l.getD k zeroE).key = ke at *
      generalize (l.getD k zeroE).val = ve at *
      go_wp2
      go_region
      go_wp2
      go_roundw
      case rel => exact ⟨k + 1, _, by omega, by go_num, rfl, HBE.out.drew⟩
      case measure => simp [intOf]; omega
    · have g1 : decide (k < n) = false := decide_eq_false hkn
      have hkI : (n : Int) ≤ (k : Int) := by omega
      by_cases h5 : n ≤ 5000
      · have HR : Hid (n ≤ 5000) := h5
        by_cases hm : 200 < n ∧ n ≤ 4096
        · have q1 : decide ((200 : Int) < (n : Int)) = true := decide_eq_true (by omega)
          have q2 : decide ((n : Int) ≤ 4096) = true := decide_eq_true (by omega)
          clear h5 hm
          go_wp2
          go_ret
          exact ⟨⟨_, rfl, fun _ => HR.out⟩, HBE.out⟩
        · have q3 : decide ((5000 : Int) < (n : Int)) = false := decide_eq_false (by omega)
          have HZ : Hid (∀ A B C : Bool, decide ((300000 : Int) < z) = A → decide (z < 600000) = B → decide ((900000 : Int) < z) = C → True) := fun _ _ _ _ _ _ => trivial
          obtain ⟨A, hA⟩ : ∃ A, decide ((300000 : Int) < z) = A := ⟨_, rfl⟩
          obtain ⟨B, hB⟩ : ∃ B, decide (z < 600000) = B := ⟨_, rfl⟩
          obtain ⟨C, hC⟩ : ∃ C, decide ((900000 : Int) < z) = C := ⟨_, rfl⟩
          rcases Nat.lt_or_ge 200 n with h2 | h2
          · have q1 : decide ((200 : Int) < (n : Int)) = true := decide_eq_true (by omega)
            have q2 : decide ((n : Int) ≤ 4096) = false := decide_eq_false (by omega)
            clear h5 hm h2
            cases A <;> cases B <;> cases C <;> (go_wp2; go_ret; exact ⟨⟨_, rfl, fun _ => HR.out⟩, HBE.out⟩)
          · have q1 : decide ((200 : Int) < (n : Int)) = false := decide_eq_false (by omega)
            clear h5 hm h2
            cases A <;> cases B <;> cases C <;> (go_wp2; go_ret; exact ⟨⟨_, rfl, fun _ => HR.out⟩, HBE.out⟩)
      · have q1 : decide ((200 : Int) < (n : Int)) = true := decide_eq_true (by omega)
        have q2 : decide ((n : Int) ≤ 4096) = false := decide_eq_false (by omega)
        have q3 : decide ((5000 : Int) < (n : Int)) = true := decide_eq_true (by omega)
        clear h5
        go_wp2
        go_ret
        exact ⟨⟨_, rfl, fun h => by cases h⟩, HBE.out⟩
end Go.Proofs.Ytlcbjmbphekliaa
namespace Go.Proofs.Ytlcbjmbphekliaa.tableFinds
open Go.ChangeShapes Go.WideShapes Go.ChangeAt Go.RowKit
open Go.ChangeMaps (open_string shut_string)
set_option linter.unusedVariables false

theorem own : ownKnob Try.prog.godebug = none := by kernel_rfl
theorem laidOut : laidOutB Try.prog = true := by kernel_rfl

theorem newL_at {l : List EntV} {i : Nat} (h : i < l.length) {y : EntV} (hy : l.getD i zeroE = y) (k : ByteArray) (s : Int) : newL (l.drop i) k s = if y.key = k ∧ y.seq ≤ s then (y, true) else newL (l.drop (i + 1)) k s := by
  rw [dropE h, hy]; rfl
set_option maxRecDepth 8000 in
set_option maxHeartbeats 2000000 in
theorem walk (va : Value) (l : List EntV) (key : ByteArray) (seq : Int) (w : World) (ha : Ents w va l) (hkey : key.size ≤ maxLen) (hseq : (Lit.int .i64 seq).wf = true) :
    Calls Try.prog 7 #[va, .string key, .int .i64 seq] w fun e w' => e = .returned (.bool true) ∧ Below w.heap.size w w' := by
  obtain ⟨q, c, rfl, hq, hc1, hc2, hc3⟩ := ha.lies
  have HQ : Hid (EntsIn w q l ∧ (l.length : Int) ≤ 9223372036854775807 ∧ l.length ≤ c ∧ c ≤ maxLen) := ⟨hq, by unfold maxLen at hc2; omega, hc1, hc2⟩
  have hkI : (key.size : Int) ≤ 9223372036854775807 := by unfold maxLen at hkey; omega
  obtain ⟨ys, E, hR⟩ : ∃ ys E, makeT l = (ys, E) := ⟨_, _, rfl⟩
  have HR : Hid (makeT l = (ys, E)) := hR
  clear ha hq hc1 hc2 hc3 hR hkey hseq
  go_enter Try.func7, Try.ntmps7
  go_wp2_with fail
  refine (alive_any _).mono ?_
  rintro e w1 ⟨rfl, hb1⟩
  have HB1 : Hid (Below w.heap.size w w1) := hb1
  clear hb1
  go_wp2_with fail
  refine (heavy_any q l.length c l _ ⟨rfl, HQ.out.1.below HB1.out⟩ HQ.out.2.1).mono ?_
  rintro e w2 ⟨⟨r, rfl, hr⟩, hb2⟩
  have HB2 : Hid (Below w.heap.size w w2) := below_bt HB1.out hb2
  clear hb2
  cases r with
  | true =>
    clear hr
    go_wp2
    go_ret
    exact ⟨rfl, HB2.out⟩
  | false =>
    have hN5 : l.length ≤ 5000 := hr rfl
    have hlI : (l.length : Int) ≤ 5000 := by omega
    clear hr hN5
    by_cases k1 : key.size < 1
    · have g1 : decide ((key.size : Int) < 1) = true := decide_eq_true (by omega)
      clear k1
      go_wp2
      go_ret
      exact ⟨rfl, HB2.out⟩
    have g1 : decide ((key.size : Int) < 1) = false := decide_eq_false (by omega)
    by_cases k2 : 256 < key.size
    · have g2 : decide ((256 : Int) < (key.size : Int)) = true := decide_eq_true (by omega)
      clear k1 k2
      go_wp2
      go_ret
      exact ⟨rfl, HB2.out⟩
    have g2 : decide ((256 : Int) < (key.size : Int)) = false := decide_eq_false (by omega)
    by_cases k3 : seq < 0
    · have g3 : decide (seq < 0) = true := decide_eq_true k3
      clear k1 k2
      go_wp2
      go_ret
      exact ⟨rfl, HB2.out⟩
    have g3 : decide (seq < 0) = false := decide_eq_false k3
    by_cases k4 : 2147483647 < seq
    · have g4 : decide (2147483647 < seq) = true := decide_eq_true k4
      clear k1 k2 k3
      go_wp2
      go_ret
      exact ⟨rfl, HB2.out⟩
    have g4 : decide (2147483647 < seq) = false := decide_eq_false k4
    have HKS : Hid (1 ≤ key.size ∧ key.size ≤ 256 ∧ 0 ≤ seq ∧ seq ≤ 2147483647) := ⟨by omega, by omega, by omega, by omega⟩
    clear k1 k2 k3 k4
    go_wp2_with fail
    refine (Make_t q l.length c l _ ⟨rfl, HQ.out.1.below HB2.out⟩ HQ.out.2.2 ys E HR.out).mono ?_
    rintro e w3 ⟨v3, rfl, ho3, hb3⟩
    have HB3 : Hid (Below w.heap.size w w3) := below_bt HB2.out hb3
    rcases Nat.eq_zero_or_pos E with h0 | h0
    · subst h0
      obtain ⟨p3, c3, rfl, hh3⟩ := own_hand ho3 (makeT_lt HR.out)
      obtain ⟨yy, is, hF⟩ : ∃ yy is, newL l key seq = (yy, is) := ⟨_, _, rfl⟩
      have HFD := Find_t p3 ys.length c3 ys key seq w3 hh3 yy is 0 (by rw [find_made HR.out HKS.out.1 HKS.out.2.1 HKS.out.2.2.1 HKS.out.2.2.2, hF]) hkI
      have HF : Hid (newL (l.drop 0) key seq = (yy, is)) := hF
      obtain ⟨ky, vy, sy, gy⟩ := yy
      rw [entV_def] at HFD
      clear ho3 hb3 hh3 hF g1 g2 g3 g4
      go_wp2_with fail
      refine HFD.mono ?_
      rintro e w4 ⟨rfl, hb4⟩
      have HB4 : Hid (Below w.heap.size w (w4.alloc (.cells #[.string ky, .string vy, .int .i64 sy, .bool gy] 29)) ∧ (w4.alloc (.cells #[.string ky, .string vy, .int .i64 sy, .bool gy] 29)).heap[w4.heap.size]? = some (.cells #[.string ky, .string vy, .int .i64 sy, .bool gy] 29 (0, 0))) := ⟨below_bt (below_bt HB3.out hb4) (below_alloc _ _), heap_alloc_new _ _⟩
      clear hb4 HFD
      go_wp2
      go_loopw [13] (fun i wr => ∃ k : Nat, k ≤ l.length ∧ i = .int .i64 k ∧ newL (l.drop k) key seq = (⟨ky, vy, sy, gy⟩, is) ∧ Below w.heap.size w wr ∧ wr.heap[w4.heap.size]? = some (.cells #[.string ky, .string vy, .int .i64 sy, .bool gy] 29 (0, 0))) (fun i _ => l.length - (intOf i).toNat)
      case atStart => exact ⟨0, by omega, rfl, HF.out, HB4.out.1, HB4.out.2⟩
      case round =>
        obtain ⟨k, hk, rfl, hf, hbel, hbox⟩ := hrel
        have HK : Hid (newL (l.drop k) key seq = (⟨ky, vy, sy, gy⟩, is)) := hf
        have HB : Hid (Below w.heap.size w wr ∧ wr.heap[w4.heap.size]? = some (.cells #[.string ky, .string vy, .int .i64 sy, .bool gy] 29 (0, 0))) := ⟨hbel, hbox⟩
        obtain ⟨⟨z0, z1, z2, z3⟩, _⟩ := four hbox
        clear hf hbel hbox
        by_cases hkl : k < l.length
        · have g3 : decide (k < l.length) = true := decide_eq_true hkl
          have hkn : (k : Int) < (l.length : Int) := by omega
          obtain ⟨b, o, rfl⟩ := HQ.out.1.addr (by omega)
          obtain ⟨e0, e1, e2, e3⟩ := (HQ.out.1.below HB.out.1).at hkl
          obtain ⟨x, hx⟩ : ∃ x, l.getD k zeroE = x := ⟨_, rfl⟩
          rw [hx] at e0 e1 e2 e3
          have HFA := newL_at hkl hx key seq
          obtain ⟨kx, vx, sx, gx⟩ := x
          simp only at e0 e1 e2 e3 HFA
          by_cases hke : kx = key
          · by_cases hsq : sx ≤ seq
            · have g5 : decide (sx ≤ seq) = true := decide_eq_true hsq
              rw [if_pos ⟨hke, hsq⟩] at HFA
              have hpk := HK.out
              rw [HFA] at hpk
              simp only [Prod.mk.injEq, EntV.mk.injEq] at hpk
              obtain ⟨⟨rfl, rfl, rfl, rfl⟩, rfl⟩ := hpk
              subst hke
              clear HFA hx HK
              go_wp2
              go_quiet (fail)
              go_wp2
              go_ret
              exact ⟨rfl, below_drewN HB.out.1 _⟩
            · have g5 : decide (sx ≤ seq) = false := decide_eq_false hsq
              have g5' : seq < sx := by omega
              rw [if_neg (fun h => hsq h.2)] at HFA
              have H2 : Hid (newL (l.drop (k + 1)) key seq = (⟨ky, vy, sy, gy⟩, is)) := by rw [← HFA]; exact HK.out
              subst hke
              clear HFA hx hsq
              go_wp2
              go_roundw
              case rel => exact ⟨k + 1, by omega, by go_num, H2.out, HB.out.1, HB.out.2⟩
              case measure => simp [intOf]; omega
          · have g4 : (kx.toList == key.toList) = false := by rw [eq_str]; simp [hke]
            rw [if_neg (fun h => hke h.1)] at HFA
            have H2 : Hid (newL (l.drop (k + 1)) key seq = (⟨ky, vy, sy, gy⟩, is)) := by rw [← HFA]; exact HK.out
            clear HFA hx hke
            go_wp2
            go_roundw
            case rel => exact ⟨k + 1, by omega, by go_num, H2.out, HB.out.1, HB.out.2⟩
            case measure => simp [intOf]; omega
        · have g3 : decide (k < l.length) = false := decide_eq_false hkl
          have hkn : (l.length : Int) ≤ (k : Int) := by omega
          have hpk := HK.out
          rw [List.drop_eq_nil_of_le (by omega)] at hpk
          simp only [newL, zeroE, Prod.mk.injEq, EntV.mk.injEq] at hpk
          obtain ⟨⟨rfl, rfl, rfl, rfl⟩, rfl⟩ := hpk
          clear HK
          go_wp2
          go_ret
          exact ⟨rfl, HB.out.1⟩
    · have hne : ((E : Int) != 0) = true := by simp; omega
      clear h0 ho3 hb3
      go_wp2
      go_ret
      exact ⟨rfl, HB3.out⟩

/-! ### THE ROW's STEP -/
set_option maxRecDepth 100000 in
theorem lifted (os : Os) (started : os.Started) (H : Type) (enc : TypeId × Value → H) :
    ReturnsInHanded {} Try.checked os 7 .any (Rows.tableFindsSpec.pre6 enc Try.prog Try.f7 Rows.tableFindsRow.domain false) (Rows.tableFindsSpec.post enc Try.prog Try.f7 false true false false) := by
  refine returnsInHanded_of_change (C := Try.checked) own started (by kernel_rfl) Try.func7
    (ChangeSpec.witness6 (enc := enc) (C := Try.checked) false ⟨#[], #[.slice none 0 0, .string ByteArray.empty, .int .i64 0], []⟩ 8 (by kernel_rfl) (by kernel_rfl) (by kernel_rfl) (by kernel_rfl)) ?_
  intro W base args ds gs before hval0 hW hcnd _
  have hval : ∀ (j : Nat) t v, Try.f7.params[j]? = some t → args[j]? = some v → Value.okWide Try.prog W .any base t v := hval0
  have hW' := hW
  obtain ⟨p, q, hA0, hV, rfl, hfz, hnd⟩ := hW
  have hA : DataW.TrodAll enc Try.prog W 0 (fun _ => true) true Try.f7.params.toList args.toList ds p := hA0
  rw [Try.params7] at hA hval
  obtain ⟨v0, vs0, d0, ds0, p0, q0, hargs, rfl, rfl, h0, r0⟩ := trodAll_cons hA
  obtain ⟨v1, vs1, d1, ds1, p1, q1, rfl, rfl, rfl, h1, r1⟩ := trodAll_cons r0
  obtain ⟨v2, vs2, d2, ds2, p2, q2, rfl, rfl, rfl, h2, r2⟩ := trodAll_cons r1
  obtain ⟨rfl, rfl, rfl⟩ := trodAll_nil r2
  obtain rfl : args = #[v0, v1, v2] := by cases args; simp_all
  obtain ⟨rfl, rfl⟩ := trodVars_none hV
  have k0 := h0
  have lt0 : ∀ x ∈ p0, x.block < W.heap.size := by obtain ⟨m, hm⟩ := k0; exact DataW.trod_lt m _ _ _ hm
  obtain ⟨qa0, la0, ca0, rfl⟩ := okWide_slice Try.underlying26 (hval 0 26 v0 rfl rfl)
  obtain ⟨fu0, hf0⟩ := h0
  obtain ⟨l0, w0⟩ := open_entries Try.underlying26 Try.underlying29 (by kernel_rfl) rfl rfl rfl rfl (by kernel_rfl) (by kernel_rfl) (by kernel_rfl) (by kernel_rfl) Try.underlying9 Try.underlying9 Try.underlying3 Try.underlying4 hf0
  obtain ⟨a1, rfl, rfl, rfl, w1⟩ := open_string Try.underlying9 (hval 1 9 v1 rfl rfl) h1
  obtain ⟨a2, rfl, rfl, rfl, w2⟩ := open_int Try.underlying3 (hval 2 3 v2 rfl rfl) h2
  clear hA0 hval0
  refine (walk (.slice qa0 la0 ca0) l0 a1 a2 W w0 w1 w2).mono fun e W' ⟨he, bel⟩ => ?_
  subst he
  exact ⟨_, rfl, _, _, _, [], _, [], hW', trodAll_mk1 (shut_bool Try.underlying4 _), (trodAll_cons_mk (Below.trod laidOut (by kernel_rfl) (of_decide_eq_true (by kernel_rfl)) k0 bel lt0) (trodAll_cons_mk (shut_string Try.underlying9 w1) (trodAll_cons_mk (shut_int Try.underlying3 w2) trodAll_mk0))), rfl, bel.frame _, fun h => by cases h⟩

theorem over : Rows.tableFindsRow.holds Try.pinned (OpenSpec.ofChange Rows.tableFindsSpec) :=
  OpenClaim.holds_of_wide 7 Try.f7 rfl rfl rfl rfl rfl rfl rfl ⟨rfl, rfl, rfl, rfl, rfl⟩ rfl rfl rfl rfl rfl (by kernel_rfl) Try.func7 (by kernel_rfl)
    (of_decide_eq_true (by kernel_rfl)) (by unfold Func.isWrapper; first | (rw [if_pos (by decide +kernel)]; kernel_rfl) | (rw [if_neg (by decide +kernel)]; exact ⟨rfl, rfl⟩))
    (fun os started H enc _ => lifted os started H enc)

theorem proved : Rows.TableFindsSaid := over
end Go.Proofs.Ytlcbjmbphekliaa.tableFinds
namespace Go.Proofs.Ytlcbjmbphekliaa
theorem tableFinds_holds : Rows.TableFindsSaid := tableFinds.proved
#print axioms tableFinds_holds
end Go.Proofs.Ytlcbjmbphekliaa
