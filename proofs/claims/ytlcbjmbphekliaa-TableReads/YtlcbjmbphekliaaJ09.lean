/-
  Entries appended, wherever they lie, to a row of one's own.
-/
import Derived.Test.YtlcbjmbphekliaaJ08
import Derived.Test.YtlcbjmbphekliaaJ02
import Derived.Test.YtlcbjmbphekliaaJ04
import Derived.Laws.AppendOwnNone
namespace Go.Proofs.Ytlcbjmbphekliaa
open Go.RowKit Go.WideShapes

def threeL : List EntV := [⟨⟨#[97]⟩, ByteArray.empty, 2, false⟩, ⟨⟨#[97]⟩, ByteArray.empty, 1, false⟩, ⟨⟨#[98]⟩, ByteArray.empty, 3, true⟩]
theorem three_any (w : World) : Calls Try.prog 10 #[] w fun e w' => e = .returned (.slice (some ⟨w.heap.size, 0, none⟩) 3 3) ∧ EntsL w' (some ⟨w.heap.size, 0, none⟩) 3 threeL ∧ Below w.heap.size w w' := by
  go_enter Try.func10, Try.ntmps10
  go_wp2
  go_ret
  refine ⟨rfl, ⟨rfl, fun _ => ⟨w.heap.size, 0, rfl, fun i hi => ?_⟩⟩, below_alloc _ _⟩
  have hh := heap_alloc_new w (.cells #[.string ⟨#[97]⟩, .string ⟨#[]⟩, .int .i64 2, .bool false, .string ⟨#[97]⟩, .string ⟨#[]⟩, .int .i64 1, .bool false, .string ⟨#[98]⟩, .string ⟨#[]⟩, .int .i64 3, .bool true] 29)
  have hi2 : i = 0 ∨ i = 1 ∨ i = 2 := by simp only [threeL, List.length_cons, List.length_nil] at hi; omega
  rcases hi2 with rfl | rfl | rfl
  · exact ⟨Lib.cell_of_heap hh 0, Lib.cell_of_heap hh 1, Lib.cell_of_heap hh 2, Lib.cell_of_heap hh 3⟩
  · exact ⟨Lib.cell_of_heap hh 4, Lib.cell_of_heap hh 5, Lib.cell_of_heap hh 6, Lib.cell_of_heap hh 7⟩
  · exact ⟨Lib.cell_of_heap hh 8, Lib.cell_of_heap hh 9, Lib.cell_of_heap hh 10, Lib.cell_of_heap hh 11⟩
theorem check_three : checkE threeL = 0 := by decide +kernel
theorem pagesN_len : ∀ (ps : List (List EntV)) (K : Nat), (∀ p ∈ ps, (pageN p).length ≤ K) → (pagesN ps).length ≤ K * ps.length
  | [], _, _ => by simp [pagesN]
  | p :: ps, K, h => by
    have h1 := h p (by simp)
    have h2 := pagesN_len ps K (fun q hq => h q (by simp [hq]))
    rw [pagesN_cons, List.length_append, List.length_cons, Nat.mul_add, Nat.mul_one]; omega
/-- The table of few entries is not too long. -/
theorem few_made {l : List EntV} (hc : checkE l = 0) (h0 : 0 < l.length) (hl : l.length ≤ 70) : ∃ ys, makeT l = (ys, 0) := by
  have hp := parts_is l
  have hn : (partE l).length ≤ 70 := Nat.le_trans (len_flat _ hp.pos) (by rw [hp.flat]; exact hl)
  have h1 := pagesN_len (partE l) 6000 (fun p hm => (hp.small hc p hm).2)
  have h2 := spotsN_len (partE l) (fun p hm => spotN_len (hp.small hc p hm).1 (hp.pos p hm) (by have := (hp.small hc p hm).2; omega))
  have h3 := smallN_five (partE l).length (by omega)
  have h4 : (indexN (partE l)).length = (smallN (partE l).length).length + (spotsN (partE l)).length := by unfold indexN; rw [List.length_append]
  have h5 : 6000 * (partE l).length ≤ 6000 * 70 := Nat.mul_le_mul_left _ hn
  have h6 : 600 * (partE l).length ≤ 600 * 70 := Nat.mul_le_mul_left _ hn
  exact ⟨_, makeT_is hc h0 (by rw [tableN_len, hp.flat, sieveN_len]; omega)⟩
theorem key_a : (⟨#[97]⟩ : ByteArray).size = 1 := rfl
theorem make_three : ∃ ys, makeT threeL = (ys, 0) ∧ findT ys ⟨#[97]⟩ 1 = (⟨⟨#[97]⟩, ByteArray.empty, 1, false⟩, true, 0) := by
  obtain ⟨ys, h⟩ := few_made check_three (by decide) (by decide)
  refine ⟨ys, h, ?_⟩
  rw [find_made h (by decide) (by decide) (by decide) (by decide)]
  rfl
theorem own_hand {w : World} {base : Nat} {v : Value} {ys : List Nat} (h : w.ownsRow base 5 1 v ys.length (Bs ys)) (hy : ∀ c ∈ ys, c < 256) : ∃ p c, v = .slice p ys.length c ∧ BHand w p ys.length c ys := by
  obtain ⟨p, c, rfl, h1, h2, h3⟩ := own_form h
  exact ⟨p, c, rfl, rfl, own_in h hy, h1, h2, h3⟩
set_option maxHeartbeats 1000000 in
theorem alive_any (w : World) : Calls Try.prog 15 #[] w fun e w' => e = .returned (.bool true) ∧ Below w.heap.size w w' := by
  obtain ⟨ys, hm, hf⟩ := make_three
  have HM : Hid (makeT threeL = (ys, 0) ∧ findT ys ⟨#[97]⟩ 1 = (⟨⟨#[97]⟩, ByteArray.empty, 1, false⟩, true, 0)) := ⟨hm, hf⟩
  clear hm hf
  go_enter Try.func15, Try.ntmps15
  go_wp2_with fail
  refine (three_any _).mono ?_
  rintro e w1 ⟨rfl, he1, hb1⟩
  have HB1 : Hid (Below w.heap.size w w1) := hb1
  have HMK := Make_t _ 3 3 threeL w1 he1 (by unfold maxLen; omega) ys 0 HM.out.1
  clear he1 hb1
  go_wp2_with fail
  refine HMK.mono ?_
  rintro e w2 ⟨v, rfl, ho2, hb2⟩
  obtain ⟨p, c, rfl, hh⟩ := own_hand ho2 (makeT_lt HM.out.1)
  have HB2 : Hid (Below w.heap.size w w2) := below_bt HB1.out hb2
  have HFD := Find_t p ys.length c ys ⟨#[97]⟩ 1 w2 hh _ _ _ HM.out.2 (by rw [key_a]; decide)
  rw [entV_def] at HFD
  clear ho2 hb2 HMK hh
  go_wp2_with fail
  refine HFD.mono ?_
  rintro e w3 ⟨rfl, hb3⟩
  have HB3 : Hid (Below w.heap.size w w3) := below_bt HB2.out hb3
  clear hb3 HFD
  go_wp2
  go_ret
  exact ⟨rfl, below_bt HB3.out (below_alloc _ _)⟩
set_option maxRecDepth 8000 in
set_option maxHeartbeats 1000000 in
theorem same_yes (qa qb : Option Addr) (n ca cb : Nat) (l : List EntV) (w : World) (hn : n = l.length) (hnb : (n : Int) ≤ 1000000) (ha : EntsIn w qa l) (hb : EntsIn w qb l) :
    Calls Try.prog 27 #[.slice qa n ca, .slice qb n cb] w fun e w' => e = .returned (.bool true) ∧ Below w.heap.size w w' := by
  have HA : Hid (EntsIn w qa l) := ha
  have HB : Hid (EntsIn w qb l) := hb
  have HN : Hid (n = l.length) := hn
  clear ha hb hn
  go_enter Try.func27, Try.ntmps27
  go_wp2
  go_loopw [5] (fun i wr => ∃ k : Nat, k ≤ n ∧ i = .int .i64 k ∧ Below w.heap.size w wr) (fun i _ => n - (intOf i).toNat)
  case atStart => exact ⟨0, by omega, rfl, Below.refl _ _⟩
  case round =>
    obtain ⟨k, hk, rfl, hbel⟩ := hrel
    have HBE : Hid (Below w.heap.size w wr) := hbel
    clear hbel
    by_cases hkn : k < n
    · have g1 : decide (k < n) = true := decide_eq_true hkn
      have hkI : (k : Int) < (n : Int) := by omega
      obtain ⟨ba, oa, rfl⟩ := HA.out.addr (by have := HN.out; omega)
      obtain ⟨bb, ob, rfl⟩ := HB.out.addr (by have := HN.out; omega)
      obtain ⟨x, hx⟩ : ∃ x, l.getD k zeroE = x := ⟨_, rfl⟩
      obtain ⟨x0, x1, x2, x3⟩ := (HA.out.below HBE.out).at (k := k) (by have := HN.out; omega)
      obtain ⟨y0, y1, y2, y3⟩ := (HB.out.below HBE.out).at (k := k) (by have := HN.out; omega)
      rw [hx] at x0 x1 x2 x3 y0 y1 y2 y3
      obtain ⟨kx, vx, sx, gx⟩ := x
      simp only at x0 x1 x2 x3 y0 y1 y2 y3
      clear hx
      go_wp2
      go_quiet (fail)
      go_wp2
      go_roundw
      case rel => exact ⟨k + 1, by omega, by go_num, below_drewN HBE.out _⟩
      case measure => simp [intOf]; omega
    · have g1 : decide (k < n) = false := decide_eq_false hkn
      have hkI : (n : Int) ≤ (k : Int) := by omega
      go_wp2
      go_ret
      exact ⟨rfl, HBE.out⟩
set_option maxRecDepth 8000 in
set_option maxHeartbeats 1000000 in
theorem heavy_any (q : Option Addr) (n c : Nat) (l : List EntV) (w : World) (h : EntsL w q n l) (hn : (n : Int) ≤ 9223372036854775807) :
    Calls Try.prog 17 #[.slice q n c] w fun e w' => (∃ r : Bool, e = .returned (.bool r) ∧ (r = false → n ≤ 5000)) ∧ Below w.heap.size w w' := by
  have HN : Hid (n = l.length) := h.n
  have HQ : Hid (EntsIn w q l) := h.lies
  clear h
  go_enter Try.func17, Try.ntmps17
  go_wp2
  go_loopw [3, 4] (fun t i wr => ∃ k : Nat, ∃ z : Int, k ≤ n ∧ i = .int .i64 k ∧ t = .int .i64 z ∧ Below w.heap.size w wr) (fun _ i _ => n - (intOf i).toNat)
  case atStart => exact ⟨0, 0, by omega, rfl, rfl, Below.refl _ _⟩
  case round =>
    obtain ⟨k, z, hk, rfl, rfl, hbel⟩ := hrel
    have HBE : Hid (Below w.heap.size w wr) := hbel
    clear hbel
    by_cases hkn : k < n
    · have g1 : decide (k < n) = true := decide_eq_true hkn
      have hkI : (k : Int) < (n : Int) := by omega
      have hk0 : (0 : Int) ≤ (k : Int) := by omega
      obtain ⟨ba, oa, rfl⟩ := HQ.out.addr (by have := HN.out; omega)
      obtain ⟨x0, x1, _, _⟩ := (HQ.out.below HBE.out).at (k := k) (by have := HN.out; omega)
      generalize (l.getD k zeroE).key = ke at *
      generalize (l.getD k zeroE).val = ve at *
      go_wp2
      go_region
      go_wp2
      go_roundw
      case rel => exact ⟨k + 1, _, by omega, by go_num, rfl, HBE.out.drew⟩
      case measure => simp [intOf]; omega
    · have g1 : decide (k < n) = false := decide_eq_false hkn
      have hkI : (n : Int) ≤ (k : Int) := by omega
      by_cases h5 : n ≤ 5000
      · have HR : Hid (n ≤ 5000) := h5
        by_cases hm : 200 < n ∧ n ≤ 4096
        · have q1 : decide ((200 : Int) < (n : Int)) = true := decide_eq_true (by omega)
          have q2 : decide ((n : Int) ≤ 4096) = true := decide_eq_true (by omega)
          clear h5 hm
          go_wp2
          go_ret
          exact ⟨⟨_, rfl, fun _ => HR.out⟩, HBE.out⟩
        · have q3 : decide ((5000 : Int) < (n : Int)) = false := decide_eq_false (by omega)
          have HZ : Hid (∀ A B C : Bool, decide ((300000 : Int) < z) = A → decide (z < 600000) = B → decide ((900000 : Int) < z) = C → True) := fun _ _ _ _ _ _ => trivial
          obtain ⟨A, hA⟩ : ∃ A, decide ((300000 : Int) < z) = A := ⟨_, rfl⟩
          obtain ⟨B, hB⟩ : ∃ B, decide (z < 600000) = B := ⟨_, rfl⟩
          obtain ⟨C, hC⟩ : ∃ C, decide ((900000 : Int) < z) = C := ⟨_, rfl⟩
          rcases Nat.lt_or_ge 200 n with h2 | h2
          · have q1 : decide ((200 : Int) < (n : Int)) = true := decide_eq_true (by omega)
            have q2 : decide ((n : Int) ≤ 4096) = false := decide_eq_false (by omega)
            clear h5 hm h2
            cases A <;> cases B <;> cases C <;> (go_wp2; go_ret; exact ⟨⟨_, rfl, fun _ => HR.out⟩, HBE.out⟩)
          · have q1 : decide ((200 : Int) < (n : Int)) = false := decide_eq_false (by omega)
            clear h5 hm h2
            cases A <;> cases B <;> cases C <;> (go_wp2; go_ret; exact ⟨⟨_, rfl, fun _ => HR.out⟩, HBE.out⟩)
      · have q1 : decide ((200 : Int) < (n : Int)) = true := decide_eq_true (by omega)
        have q2 : decide ((n : Int) ≤ 4096) = false := decide_eq_false (by omega)
        have q3 : decide ((5000 : Int) < (n : Int)) = true := decide_eq_true (by omega)
        clear h5
        go_wp2
        go_ret
        exact ⟨⟨_, rfl, fun h => by cases h⟩, HBE.out⟩
end Go.Proofs.Ytlcbjmbphekliaa
namespace Go.Proofs.Ytlcbjmbphekliaa
open Go.RowKit Go.WideShapes


set_option maxHeartbeats 400000 in
set_option maxRecDepth 100000 in
theorem refSmall_any (n : Nat) (w : World) (hn : n < 18446744073709551616) :
    Calls Try.prog 41 #[.int .u64 n] w fun e w' => ∃ v, e = .returned v ∧ w'.ownsRow w.heap.size 5 1 v (smallN n).length (Bs (smallN n)) ∧ Below w.heap.size w w' := by
  obtain ⟨i0, hi, hz0, hz1, hz2⟩ := info_parts info5
  have hten := smallN_ten n hn
  go_enter Try.func41, Try.ntmps41
  go_wp2
  go_loopw [0, 3] (fun t v wr => ∃ m : Nat, ∃ xs : List Nat, m < 18446744073709551616 ∧ t = .int .u64 m ∧ smallN n = xs ++ smallN m ∧ wr.ownsRow w.heap.size 5 1 v xs.length (Bs xs) ∧ Below w.heap.size w wr)
    (fun t _ _ => (intOf t).toNat)
  case atStart => exact ⟨n, [], hn, rfl, rfl, World.ownsRow_nil _ _ _ _, Below.refl _ _⟩
  case round =>
    obtain ⟨m, xs, hm, rfl, hsm, hown, hnx⟩ := hrel
    have HS : Hid _ := hsm
    clear hsm
    have hpos := smallN_pos m
    have hxl : xs.length + (smallN m).length ≤ 10 := by rw [HS.out] at hten; simpa using hten
    have hsz := hnx.size
    by_cases hlt : m < 128
    · go_wp2_with (at_builtin; refine wpList_append_own _ rfl _ _ 22 rfl w.heap.size 5 i0 (.int .u8 0) 1 1 Try.underlying22 hi hz0 hz1 hz2 rfl (by decide) _ _ _ rfl (hown.alloc _) ⟨wr.heap.size, 0, none⟩ 1 1 [.int .u8 (m : Int)] rfl rfl (cell_one_new _ _ _) ?c2 ?c3 ?c4 ?c5 ?_)
      case c2 => intro u hu; simp at hu; subst hu; rfl
      case c3 => unfold maxLen; omega
      case c4 => omega
      case c5 => simp; omega
      intro v' w1 hown' hgrow _
      have R := rel_push rfl hown hnx hsz hown' hgrow
      have e : smallN n = xs ++ [m] := by rw [HS.out, smallN_lo hlt]
      rw [← e] at R
      clear hown' hgrow hown e
      go_wp2
      go_ret
      exact ⟨v', rfl, R.1, R.2⟩
    · go_wp2_with (at_builtin; refine wpList_append_own _ rfl _ _ 22 rfl w.heap.size 5 i0 (.int .u8 0) 1 1 Try.underlying22 hi hz0 hz1 hz2 rfl (by decide) _ _ _ rfl (hown.alloc _) ⟨wr.heap.size, 0, none⟩ 1 1 [.int .u8 ((m : Int) % 128 + 128)] rfl rfl (cell_one_new _ _ _) ?d2 ?d3 ?d4 ?d5 ?_)
      case d2 => intro u hu; simp at hu; subst hu; rfl
      case d3 => unfold maxLen; omega
      case d4 => omega
      case d5 => simp; omega
      intro v' w1 hown' hgrow _
      have R := rel_push (c := m % 128 + 128) (by omega) hown hnx hsz hown' hgrow
      have e : Hid (smallN n = (xs ++ [m % 128 + 128]) ++ smallN (m / 128)) := by show _ = _; rw [HS.out, smallN_hi hlt]; simp
      clear hown' hgrow hown
      go_wp2
      go_roundw
      case rel => exact ⟨m / 128, xs ++ [m % 128 + 128], by omega, by go_num, e.out, R.1, R.2⟩
      case measure => simp [intOf]; omega

set_option maxHeartbeats 400000 in
theorem refText_any (s : ByteArray) (w : World) (hs : s.size ≤ 100000) :
    Calls Try.prog 43 #[.string s] w fun e w' => ∃ v, e = .returned v ∧ w'.ownsRow w.heap.size 5 1 v (textN s).length (Bs (textN s)) ∧ Below w.heap.size w w' := by
  obtain ⟨i0, hi, hz0, hz1, hz2⟩ := info_parts info5
  have hten := smallN_ten s.size (by omega)
  go_enter Try.func43, Try.ntmps43
  go_wp2_with fail
  refine (refSmall_any s.size w (by omega)).mono ?_
  rintro e w1 ⟨v, rfl, hown, hb⟩
  have hsz := hb.size
  go_wp2_with (at_builtin; refine Lib.wpList_append_own_string _ rfl _ _ 22 9 rfl w.heap.size 5 i0 Try.underlying22 Try.underlying9 hi hz0 hz1 hz2 _ _ _ rfl hown s rfl ?c3 ?c4 hsz ?_)
  case c3 => unfold maxLen; omega
  case c4 => omega
  intro v' w2 hown' hgrow _
  have R : w2.ownsRow w.heap.size 5 1 v' (textN s).length (Bs (textN s)) := by simpa [textN, numsOf_len, Bs_app, strCells_Bs] using hown'
  have hb2 := hb.grown hgrow hsz (fun k hk => (hown.lt k hk).1)
  clear hown' hgrow hown
  go_wp2
  go_ret
  exact ⟨v', rfl, R, hb2⟩

/-- The lowest k bytes of a number. -/
def putK : Nat → Nat → List Nat
  | 0, _ => []
  | k + 1, m => (m % 256) :: putK k (m / 256)
theorem putK_8 (n : Nat) (h : n < 18446744073709551616) : putK 8 n = putN n := by
  simp only [putK, putN, Nat.div_div_eq_div_mul, Nat.reduceMul]
  have : n / 72057594037927936 % 256 = n / 72057594037927936 := by omega
  rw [this]
theorem putK_step (k m : Nat) (h : k < 8) : putK (8 - k) m = (m % 256) :: putK (8 - (k + 1)) (m / 256) := by
  rw [show 8 - k = (8 - (k + 1)) + 1 from by omega]; rfl

set_option maxHeartbeats 400000 in
set_option maxRecDepth 100000 in
theorem refPut_any (n : Nat) (w : World) (hn : n < 18446744073709551616) :
    Calls Try.prog 45 #[.int .u64 n] w fun e w' => ∃ v, e = .returned v ∧ w'.ownsRow w.heap.size 5 1 v 8 (Bs (putN n)) ∧ Below w.heap.size w w' := by
  obtain ⟨i0, hi, hz0, hz1, hz2⟩ := info_parts info5
  have HP : Hid (putK 8 n = putN n) := putK_8 n hn
  go_enter Try.func45, Try.ntmps45
  go_wp2
  go_loopw [0, 3, 4] (fun t v i wr => ∃ k m : Nat, ∃ xs : List Nat, k ≤ 8 ∧ m < 18446744073709551616 ∧ t = .int .u64 m ∧ i = .int .i64 k ∧ xs.length = k ∧ putN n = xs ++ putK (8 - k) m ∧ wr.ownsRow w.heap.size 5 1 v xs.length (Bs xs) ∧ Below w.heap.size w wr)
    (fun _ _ i _ => 8 - (intOf i).toNat)
  case atStart => exact ⟨0, n, [], by omega, hn, rfl, rfl, rfl, HP.out.symm, World.ownsRow_nil _ _ _ _, Below.refl _ _⟩
  case round =>
    obtain ⟨k, m, xs, hk, hm, rfl, rfl, hxk, hsm, hown, hnx⟩ := hrel
    have HS : Hid _ := hsm
    have HX : Hid (xs.length = k) := hxk
    have hxl : xs.length ≤ 8 := by omega
    clear hsm hxk
    have hsz := hnx.size
    by_cases hlt : k < 8
    · have HK : Hid _ := putK_step k m hlt
      go_wp2_with (at_builtin; refine wpList_append_own _ rfl _ _ 22 rfl w.heap.size 5 i0 (.int .u8 0) 1 1 Try.underlying22 hi hz0 hz1 hz2 rfl (by decide) _ _ _ rfl (hown.alloc _) ⟨wr.heap.size, 0, none⟩ 1 1 [.int .u8 ((m : Int) % 256)] rfl rfl (cell_one_new _ _ _) ?d2 ?d3 ?d4 ?d5 ?_)
      case d2 => intro u hu; simp at hu; subst hu; rfl
      case d3 => unfold maxLen; omega
      case d4 => omega
      case d5 => simp; omega
      intro v' w1 hown' hgrow _
      have R := rel_push (c := m % 256) (by omega) hown hnx hsz hown' hgrow
      have e : Hid (putN n = (xs ++ [m % 256]) ++ putK (8 - (k + 1)) (m / 256)) := by show _ = _; rw [HS.out, HK.out]; simp
      clear hown' hgrow hown
      go_wp2
      go_roundw
      case rel => exact ⟨k + 1, m / 256, xs ++ [m % 256], by omega, by omega, by go_num, by go_num, by simp [HX.out], e.out, R.1, R.2⟩
      case measure => simp [intOf]; omega
    · have e : putN n = xs ∧ xs.length = 8 := by
        have h8 : k = 8 := by omega
        refine ⟨?_, by rw [HX.out, h8]⟩
        rw [HS.out, h8]; simp [putK]
      rw [e.2, ← e.1] at hown
      clear e
      have HO : Hid _ := hown
      clear hown
      go_wp2
      go_ret
      exact ⟨_, rfl, HO.out, hnx⟩

set_option maxHeartbeats 400000 in
theorem refGet_bad (p : Option Addr) (n c : Nat) (w : World) (hn : n ≠ 8) :
    Calls Try.prog 71 #[.slice p n c] w fun e w' => e = .returned (.tuple #[.int .u64 0, .int .i64 8]) ∧ w' = w := by
  go_enter Try.func71, Try.ntmps71
  go_wp2
  go_ret2
  exact ⟨rfl, rfl⟩
theorem ret_two {a b : Int} {k1 k2 : IntKind} {c : Int} (h : a = b) : Ending.returned (.tuple #[.int k1 a, .int k2 c]) = .returned (.tuple #[.int k1 b, .int k2 c]) := by rw [h]
set_option maxHeartbeats 1000000 in
theorem refGet_ok (p : Option Addr) (c : Nat) (a0 a1 a2 a3 a4 a5 a6 a7 : Nat) (w : World) (hb : BIn w p [a0, a1, a2, a3, a4, a5, a6, a7]) :
    Calls Try.prog 71 #[.slice p 8 c] w fun e w' => e = .returned (.tuple #[.int .u64 (joinN a0 a1 a2 a3 a4 a5 a6 a7 : Nat), .int .i64 0]) ∧ w' = w := by
  obtain ⟨b, o, rfl, hc⟩ := hb.1 (by simp)
  have c0 : w.cell? ⟨b, o, none⟩ = some (.int .u8 a0) := hc 0 (by simp)
  have c1 : w.cell? ⟨b, o + 1, none⟩ = some (.int .u8 a1) := hc 1 (by simp)
  have c2 : w.cell? ⟨b, o + 2, none⟩ = some (.int .u8 a2) := hc 2 (by simp)
  have c3 : w.cell? ⟨b, o + 3, none⟩ = some (.int .u8 a3) := hc 3 (by simp)
  have c4 : w.cell? ⟨b, o + 4, none⟩ = some (.int .u8 a4) := hc 4 (by simp)
  have c5 : w.cell? ⟨b, o + 5, none⟩ = some (.int .u8 a5) := hc 5 (by simp)
  have c6 : w.cell? ⟨b, o + 6, none⟩ = some (.int .u8 a6) := hc 6 (by simp)
  have c7 : w.cell? ⟨b, o + 7, none⟩ = some (.int .u8 a7) := hc 7 (by simp)
  have hl := hb.2
  simp only [List.mem_cons, List.not_mem_nil, or_false, forall_eq_or_imp, forall_eq] at hl
  obtain ⟨l0, l1, l2, l3, l4, l5, l6, l7⟩ := hl
  clear hb hc
  go_enter Try.func71, Try.ntmps71
  go_wp2
  refine wp_loop_rounds 9 ?_
  iterate 9 (rw [rounds_succ]; go_wp2)
  go_ret2
  refine ⟨ret_two ?_, rfl⟩
  unfold joinN; omega
end Go.Proofs.Ytlcbjmbphekliaa
namespace Go.Proofs.Ytlcbjmbphekliaa
open Go.RowKit Go.WideShapes

theorem bl_irrefl : ∀ (a : List UInt8), Op.bytesLess a a = false
  | [] => rfl
  | x :: a => by
    unfold Op.bytesLess
    simp [UInt8.lt_irrefl x, bl_irrefl a]
set_option maxHeartbeats 1000000 in
theorem rless_any (a b : EntV) (w : World) : Calls Try.prog 66 #[entV a, entV b] w fun e w' => e = .returned (.bool (lessE a b)) ∧ Below w.heap.size w w' := by
  obtain ⟨ak, av, az, ag⟩ := a
  obtain ⟨bk, bv, bz, bg⟩ := b
  rw [entV_def, entV_def]
  obtain ⟨r, hr⟩ : ∃ r, lessE ⟨ak, av, az, ag⟩ ⟨bk, bv, bz, bg⟩ = r := ⟨_, rfl⟩
  rw [hr]
  unfold lessE at hr
  simp only at hr
  by_cases h2 : ak = bk
  · subst h2
    have HR : Hid (r = decide (bz < az)) := by show _ = _; rw [← hr, bl_irrefl]; simp
    clear hr
    go_enter Try.func66, Try.ntmps66
    go_wp2
    go_ret
    exact ⟨by rw [HR.out]; rfl, (below_alloc w _).alloc (by simp) _⟩
  · have h2' : (ak.toList == bk.toList) = false := by rw [eq_str]; simp [h2]
    have HR : Hid (r = Op.bytesLess ak.toList bk.toList) := by show _ = _; rw [← hr, h2']; simp
    clear hr h2
    go_enter Try.func66, Try.ntmps66
    go_wp2
    go_ret
    exact ⟨by rw [HR.out]; rfl, (below_alloc w _).alloc (by simp) _⟩
set_option maxHeartbeats 2000000 in
theorem rone_any (x : EntV) (w : World) (E : Nat) (hE : oneE x = E) : Calls Try.prog 65 #[entV x] w fun e w' => e = .returned (.int .i64 (E : Int)) ∧ Below w.heap.size w w' := by
  obtain ⟨k, v, s, g⟩ := x
  rw [entV_def]
  unfold oneE at hE
  simp only at hE
  by_cases h1 : k.size < 1
  · rw [if_pos (.inl h1)] at hE
    subst hE
    have q1 : (k.size : Int) < 1 := by omega
    clear h1
    go_enter Try.func65, Try.ntmps65
    go_wp2
    go_ret
    exact ⟨rfl, below_alloc _ _⟩
  · have q1 : (1 : Int) ≤ (k.size : Int) := by omega
    by_cases h2 : 256 < k.size
    · rw [if_pos (.inr h2)] at hE
      subst hE
      have q2 : (256 : Int) < (k.size : Int) := by omega
      clear h1 h2
      go_enter Try.func65, Try.ntmps65
      go_wp2
      go_ret
      exact ⟨rfl, below_alloc _ _⟩
    · rw [if_neg (by omega)] at hE
      have q2 : (k.size : Int) ≤ 256 := by omega
      clear h1 h2
      by_cases h3 : 4096 < v.size
      · rw [if_pos h3] at hE
        subst hE
        have q3 : (4096 : Int) < (v.size : Int) := by omega
        clear h3
        go_enter Try.func65, Try.ntmps65
        go_wp2
        go_ret
        exact ⟨rfl, below_alloc _ _⟩
      · rw [if_neg h3] at hE
        have q3 : (v.size : Int) ≤ 4096 := by omega
        clear h3
        by_cases h4 : s < 0
        · rw [if_pos (.inl h4)] at hE
          subst hE
          go_enter Try.func65, Try.ntmps65
          go_wp2
          go_ret
          exact ⟨rfl, below_alloc _ _⟩
        · by_cases h5 : 2147483647 < s
          · rw [if_pos (.inr h5)] at hE
            subst hE
            have q4 : 0 ≤ s := by omega
            clear h4
            go_enter Try.func65, Try.ntmps65
            go_wp2
            go_ret
            exact ⟨rfl, below_alloc _ _⟩
          · rw [if_neg (by omega)] at hE
            have q4 : 0 ≤ s := by omega
            have q5 : s ≤ 2147483647 := by omega
            clear h4 h5
            cases g with
            | false =>
              rw [if_neg (by simp)] at hE
              subst hE
              go_enter Try.func65, Try.ntmps65
              go_wp2
              go_ret
              exact ⟨rfl, below_alloc _ _⟩
            | true =>
              by_cases h6 : v = ByteArray.empty
              · rw [if_neg (by simp [h6])] at hE
                subst hE h6
                go_enter Try.func65, Try.ntmps65
                go_wp2
                go_ret
                exact ⟨rfl, below_alloc _ _⟩
              · rw [if_pos ⟨rfl, h6⟩] at hE
                subst hE
                have g5' : v.toList.isEmpty = false := nonempty_of h6
                clear h6
                go_enter Try.func65, Try.ntmps65
                go_wp2
                go_ret
                exact ⟨rfl, below_alloc _ _⟩
set_option maxHeartbeats 1000000 in
theorem together_any (a b : ByteArray) (w : World) (ha : (a.size : Int) ≤ 9223372036854775807) (S : Nat) (hS : sharedN (numsOf a) (numsOf b) = S) : Calls Try.prog 68 #[.string a, .string b] w fun e w' => e = .returned (.int .i64 (S : Int)) ∧ Below w.heap.size w w' := by
  have HS : Hid (sharedN (numsOf a) (numsOf b) = S) := hS
  clear hS
  go_enter Try.func68, Try.ntmps68
  go_wp2
  go_loopw [5] (fun i wr => ∃ k : Nat, k ≤ a.size ∧ i = .int .i64 k ∧ sharedN ((numsOf a).drop k) ((numsOf b).drop k) + k = S ∧ Below w.heap.size w wr) (fun i _ => a.size - (intOf i).toNat)
  case atStart => exact ⟨0, by omega, rfl, HS.out, Below.refl _ _⟩
  case round =>
    obtain ⟨k, hk, rfl, hs, hbel⟩ := hrel
    have HK : Hid (sharedN ((numsOf a).drop k) ((numsOf b).drop k) + k = S) := hs
    have HB : Hid (Below w.heap.size w wr) := hbel
    clear hs hbel
    by_cases h1 : k < a.size
    · by_cases h2 : k < b.size
      · have x1 := str_at a k h1
        have x2 := str_at b k h2
        have g1 : decide ((k : Int) < (a.size : Int)) = true := decide_eq_true (by omega)
        have g2 : decide ((k : Int) < (b.size : Int)) = true := decide_eq_true (by omega)
        have HA := sh_at (a := numsOf a) (b := numsOf b) (k := k) (by rw [numsOf_len]; exact h1) (by rw [numsOf_len]; exact h2)
        have q0 : (0 : Int) ≤ k := by omega
        by_cases h3 : (numsOf a).getD k 0 = (numsOf b).getD k 0
        · rw [if_pos h3] at HA
          have H2 : Hid (sharedN ((numsOf a).drop (k + 1)) ((numsOf b).drop (k + 1)) + (k + 1) = S) := by have := HK.out; show _ = _; omega
          have g3 : (((numsOf a).getD k 0 : Int) == ((numsOf b).getD k 0 : Int)) = true := beq_iff_eq.2 (by rw [h3])
          clear HA h3
          generalize (numsOf a).getD k 0 = xa at *
          generalize (numsOf b).getD k 0 = xb at *
          go_wp2
          go_quiet (fail)
          go_wp2
          go_roundw
          case rel => exact ⟨k + 1, by omega, by go_num, H2.out, below_drewN HB.out _⟩
          case measure => simp [intOf]; omega
        · rw [if_neg h3] at HA
          have H2 : Hid (S = k) := by have := HK.out; show _ = _; omega
          have g3 : (((numsOf a).getD k 0 : Int) == ((numsOf b).getD k 0 : Int)) = false := beq_eq_false_iff_ne.2 (by omega)
          clear HA h3
          generalize (numsOf a).getD k 0 = xa at *
          generalize (numsOf b).getD k 0 = xb at *
          go_wp2
          go_quiet (fail)
          go_wp2
          go_ret
          exact ⟨by rw [H2.out]; rfl, below_drewN HB.out _⟩
      · have g1 : decide ((k : Int) < (a.size : Int)) = true := decide_eq_true (by omega)
        have g2 : decide ((k : Int) < (b.size : Int)) = false := decide_eq_false (by omega)
        have H2 : Hid (S = k) := by have := HK.out; rw [sh_end2 (by rw [numsOf_len]; omega)] at this; show _ = _; omega
        go_wp2
        go_quiet (fail)
        go_wp2
        go_ret
        exact ⟨by rw [H2.out]; rfl, below_drewN HB.out _⟩
    · have g1 : decide ((k : Int) < (a.size : Int)) = false := decide_eq_false (by omega)
      have H2 : Hid (S = k) := by have := HK.out; rw [sh_end1 (by rw [numsOf_len]; omega)] at this; show _ = _; omega
      go_wp2
      go_quiet (fail)
      go_wp2
      go_ret
      exact ⟨by rw [H2.out]; rfl, below_drewN HB.out _⟩
theorem rsmall_i (n : Int) (w : World) (h : 0 ≤ n ∧ n ≤ 9223372036854775807) : Calls Try.prog 67 #[.int .i64 n] w fun e w' => ∃ v, e = .returned v ∧ w'.ownsRow w.heap.size 5 1 v (smallN n.toNat).length (Bs (smallN n.toNat)) ∧ Below w.heap.size w w' := by
  obtain ⟨m, rfl⟩ := Int.eq_ofNat_of_zero_le h.1
  have hm : IntKind.u64.wrap (m : Int) = (m : Int) := by rw [IntKind.wrap_u64]; omega
  go_enter Try.func67, Try.ntmps67
  go_wp2_with (go_at_call 41; refine (refSmall_any m _ (by omega)).mono ?_; rintro e w1 ⟨v, rfl, ho, hb⟩)
  go_ret
  exact ⟨v, rfl, ho, hb⟩
set_option maxRecDepth 8000 in
set_option maxHeartbeats 1000000 in
theorem rsame_yes (qa qb : Option Addr) (n ca cb : Nat) (l : List EntV) (w : World) (hn : n = l.length) (hnb : (n : Int) ≤ 1000000) (ha : EntsIn w qa l) (hb : EntsIn w qb l) :
    Calls Try.prog 19 #[.slice qa n ca, .slice qb n cb] w fun e w' => e = .returned (.bool true) ∧ Below w.heap.size w w' := by
  have HA : Hid (EntsIn w qa l) := ha
  have HB : Hid (EntsIn w qb l) := hb
  have HN : Hid (n = l.length) := hn
  clear ha hb hn
  go_enter Try.func19, Try.ntmps19
  go_wp2
  go_loopw [5] (fun i wr => ∃ k : Nat, k ≤ n ∧ i = .int .i64 k ∧ Below w.heap.size w wr) (fun i _ => n - (intOf i).toNat)
  case atStart => exact ⟨0, by omega, rfl, Below.refl _ _⟩
  case round =>
    obtain ⟨k, hk, rfl, hbel⟩ := hrel
    have HBE : Hid (Below w.heap.size w wr) := hbel
    clear hbel
    by_cases hkn : k < n
    · have g1 : decide (k < n) = true := decide_eq_true hkn
      have hkI : (k : Int) < (n : Int) := by omega
      obtain ⟨ba, oa, rfl⟩ := HA.out.addr (by have := HN.out; omega)
      obtain ⟨bb, ob, rfl⟩ := HB.out.addr (by have := HN.out; omega)
      obtain ⟨x, hx⟩ : ∃ x, l.getD k zeroE = x := ⟨_, rfl⟩
      obtain ⟨x0, x1, x2, x3⟩ := (HA.out.below HBE.out).at (k := k) (by have := HN.out; omega)
      obtain ⟨y0, y1, y2, y3⟩ := (HB.out.below HBE.out).at (k := k) (by have := HN.out; omega)
      rw [hx] at x0 x1 x2 x3 y0 y1 y2 y3
      obtain ⟨kx, vx, sx, gx⟩ := x
      simp only at x0 x1 x2 x3 y0 y1 y2 y3
      clear hx
      go_wp2
      go_quiet (fail)
      go_wp2
      go_roundw
      case rel => exact ⟨k + 1, by omega, by go_num, below_drewN HBE.out _⟩
      case measure => simp [intOf]; omega
    · have g1 : decide (k < n) = false := decide_eq_false hkn
      have hkI : (n : Int) ≤ (k : Int) := by omega
      go_wp2
      go_ret
      exact ⟨rfl, HBE.out⟩
end Go.Proofs.Ytlcbjmbphekliaa
namespace Go.Proofs.Ytlcbjmbphekliaa
open Go.RowKit Go.WideShapes

set_option maxRecDepth 8000 in
set_option maxHeartbeats 4000000 in
theorem rCheck_any (q : Option Addr) (n c : Nat) (l : List EntV) (w : World) (h : EntsL w q n l) (C : Nat) (hC : checkE l = C) :
    Calls Try.prog 39 #[.slice q n c] w fun e w' => e = .returned (.int .i64 (C : Int)) ∧ Below w.heap.size w w' := by
  unfold checkE at hC
  have HN : Hid (n = l.length) := h.n
  by_cases hl : 4096 < l.length
  · rw [if_pos hl] at hC
    subst hC
    have g1 : (4096 : Int) < (n : Int) := by have := h.n; omega
    clear hl h
    go_enter Try.func39, Try.ntmps39
    go_wp2
    go_ret
    exact ⟨rfl, Below.refl _ _⟩
  rw [if_neg hl] at hC
  have g1 : (n : Int) ≤ 4096 := by have := h.n; omega
  have HQ : Hid (EntsIn w q l) := h.lies
  have HC : Hid (checkF (prevE l 0) (l.drop 0) = C) := hC
  clear hC h hl
  go_enter Try.func39, Try.ntmps39
  go_wp2
  go_loopw [3] (fun i wr => ∃ k : Nat, k ≤ n ∧ i = .int .i64 k ∧ checkF (prevE l k) (l.drop k) = C ∧ Below w.heap.size w wr) (fun i _ => n - (intOf i).toNat)
  case atStart => exact ⟨0, by omega, rfl, HC.out, Below.refl _ _⟩
  case round =>
    obtain ⟨k, hk, rfl, hs, hbel⟩ := hrel
    have HK : Hid (checkF (prevE l k) (l.drop k) = C) := hs
    have HB : Hid (Below w.heap.size w wr) := hbel
    clear hs hbel
    by_cases hkl : k < n
    · have g9 : decide (k < n) = true := decide_eq_true hkl
      have hkl' : k < l.length := by have := HN.out; omega
      obtain ⟨b, o, rfl⟩ := HQ.out.addr (by omega)
      have HQ2 := (HQ.out.below HB.out)
      obtain ⟨e0, e1, e2, e3⟩ := HQ2.at hkl'
      obtain ⟨y, hy⟩ : ∃ y, l.getD k zeroE = y := ⟨_, rfl⟩
      rw [hy] at e0 e1 e2 e3
      have HY : Hid (l.getD k zeroE = y) := hy
      obtain ⟨ke, ve, se, ge⟩ := y
      simp only at e0 e1 e2 e3
      obtain ⟨E, hE⟩ : ∃ E, oneE ⟨ke, ve, se, ge⟩ = E := ⟨_, rfl⟩
      have HE : Hid (oneE ⟨ke, ve, se, ge⟩ = E) := hE
      have HCE := fun w' => rone_any ⟨ke, ve, se, ge⟩ w' E hE
      rw [entV_def] at HCE
      have HBX : Hid (C4 wr b (o + k * 4) (.string ke) (.string ve) (.int .i64 se) (.bool ge)) := ⟨e0, e1, e2, e3⟩
      have hkn : (k : Int) < (n : Int) := by omega
      have HKL : Hid (k < l.length) := hkl'
      clear hE hy hkl'
      rcases Nat.eq_zero_or_pos E with hE0 | hE0
      · subst hE0
        rcases k with _ | k
        · have H2 : Hid (checkF (prevE l 1) (l.drop 1) = C) := by show _ = _; rw [← checkF_zero HKL.out HY.out HE.out]; exact HK.out
          clear HQ2
          simp only [Nat.zero_mul, Nat.add_zero] at e0 e1 e2 e3
          go_wp2_with fail
          refine (HCE _).mono ?_
          rintro e w2 ⟨rfl, hb2⟩
          have HB2 : Hid (Below w.heap.size w w2) := below_bt HB.out hb2
          clear hb2 HCE HBX
          go_wp2
          go_quiet (fail)
          go_wp2
          go_roundw
          case rel => exact ⟨1, by omega, by go_num, H2.out, below_drewN HB2.out _⟩
          case measure => simp [intOf]; omega
        · obtain ⟨x, hx⟩ : ∃ x, l.getD k zeroE = x := ⟨_, rfl⟩
          obtain ⟨kx, vx, sx, gx⟩ := x
          have h4 := HQ2.at (k := k) (by have := HKL.out; omega)
          rw [hx] at h4
          have HP : Hid (C4 wr b (o + k * 4) (.string kx) (.string vx) (.int .i64 sx) (.bool gx)) := h4
          have HNX := checkF_next HKL.out hx HY.out HE.out
          obtain ⟨r, hr⟩ : ∃ r, lessE ⟨kx, vx, sx, gx⟩ ⟨ke, ve, se, ge⟩ = r := ⟨_, rfl⟩
          have HLE := fun w' => rless_any ⟨kx, vx, sx, gx⟩ ⟨ke, ve, se, ge⟩ w'
          rw [hr, entV_def, entV_def] at HLE
          rw [hr, HK.out] at HNX
          have HNX' : Hid (C = if r = true then checkF (prevE l (k + 2)) (l.drop (k + 2)) else 100) := HNX
          clear hx hr HQ2 h4 HNX
          go_wp2_with fail
          refine (HCE _).mono ?_
          rintro e w2 ⟨rfl, hb2⟩
          have HD : Hid (C4 w2 b (o + (k + 1) * 4) (.string ke) (.string ve) (.int .i64 se) (.bool ge)) := c4_below HBX.out hb2
          have HP2 : Hid (C4 w2 b (o + k * 4) (.string kx) (.string vx) (.int .i64 sx) (.bool gx)) := c4_below HP.out hb2
          have HB2 : Hid (Below w.heap.size w w2) := below_bt HB.out hb2
          clear hb2 HCE HBX HP
          have kw0 : IntKind.i64.wrap (k : Int) = (k : Int) := by rw [IntKind.wrap_i64]; omega
          have kw1 : IntKind.i64.wrap ((k : Int) + 1 - 1) = (k : Int) := by rw [IntKind.wrap_i64]; omega
          have kw2 : IntKind.i64.wrap (((k + 1 : Nat) : Int) - 1) = (k : Int) := by rw [IntKind.wrap_i64]; omega
          have kb0 : (0 : Int) ≤ (k : Int) := by omega
          have kb2 : (0 : Int) ≤ (k : Int) + 1 := by omega
          have kb3 : (k : Int) + 1 < (n : Int) := by omega
          have kb4 : ((k : Int) + 1).toNat = k + 1 := by omega
          have kb1 : (k : Int) < (n : Int) := by omega
          go_wp2
          go_region_held3 (fun w' => (w'.cell? ⟨b, o + (k + 1) * 4, none⟩ = some (.string ke) ∧ w'.cell? ⟨b, o + (k + 1) * 4 + 1, none⟩ = some (.string ve) ∧ w'.cell? ⟨b, o + (k + 1) * 4 + 2, none⟩ = some (.int .i64 se) ∧ w'.cell? ⟨b, o + (k + 1) * 4 + 3, none⟩ = some (.bool ge)) ∧ (w'.cell? ⟨b, o + k * 4, none⟩ = some (.string kx) ∧ w'.cell? ⟨b, o + k * 4 + 1, none⟩ = some (.string vx) ∧ w'.cell? ⟨b, o + k * 4 + 2, none⟩ = some (.int .i64 sx) ∧ w'.cell? ⟨b, o + k * 4 + 3, none⟩ = some (.bool gx)) ∧ Below w2.heap.size w2 w')
            (with_reducible first | exact ⟨HD.out, HP2.out, Below.refl _ _⟩ | exact ⟨c4_below HD.out (Below.refl _ _).drew, c4_below HP2.out (Below.refl _ _).drew, (Below.refl _ _).drew⟩ | exact ⟨c4_below HD.out (below_dw (by assumption)), c4_below HP2.out (below_dw (by assumption)), below_dw (by assumption)⟩ | assumption)
            (first
              | (go_at_call 66; refine (HLE _).mono ?_; rintro e w3 ⟨rfl, hb3⟩)
              | fail)
          rename_i hh
          have HB3 : Hid (Below w.heap.size w w3) := below_bt HB2.out hh.2.2
          clear hh
          cases r with
          | true =>
            have H2 : Hid (checkF (prevE l (k + 2)) (l.drop (k + 2)) = C) := by have := HNX'.out; rw [if_pos rfl] at this; exact this.symm
            go_wp2
            go_roundw
            case rel => exact ⟨k + 2, by omega, by go_num, H2.out, HB3.out⟩
            case measure => simp [intOf]; omega
          | false =>
            have H2 : Hid (C = 100) := by have := HNX'.out; rw [if_neg (by simp)] at this; exact this
            go_wp2
            go_ret
            exact ⟨by rw [H2.out]; rfl, HB3.out⟩
      · have hne : ((E : Int) != 0) = true := by simp; omega
        have H2 : Hid (E = C) := by show _ = _; rw [← HK.out, checkF_one HKL.out HY.out (by rw [HE.out]; omega), HE.out]
        clear HQ2 hE0
        go_wp2_with fail
        refine (HCE _).mono ?_
        rintro e w2 ⟨rfl, hb2⟩
        have HB2 : Hid (Below w.heap.size w w2) := below_bt HB.out hb2
        clear hb2 HCE HBX
        go_wp2
        go_ret
        exact ⟨by rw [← H2.out]; rfl, HB2.out⟩
    · have g2 : (n : Int) ≤ (k : Int) := by omega
      have g9 : decide (k < n) = false := decide_eq_false hkl
      have H2 : Hid (C = 0) := by show _ = _; rw [← HK.out]; exact checkF_end l k (by have := HN.out; omega)
      go_wp2
      go_ret
      exact ⟨by rw [H2.out]; rfl, HB.out⟩
end Go.Proofs.Ytlcbjmbphekliaa
namespace Go.Proofs.Ytlcbjmbphekliaa
open Go.RowKit Go.WideShapes

theorem rem_odd (z : Nat) : ((z : Int) % 2 == 1) = decide (z % 2 = 1) := by
  rw [Bool.eq_iff_iff]; simp; omega
set_option maxHeartbeats 400000 in
theorem refSum_any (p : Option Addr) (cap : Nat) (xs : List Nat) (w : World) (hb : BIn w p xs) (hm : xs.length ≤ maxLen) :
    Calls Try.prog 70 #[.slice p xs.length cap] w fun e w' => e = .returned (.int .u32 (sumN xs : Nat)) ∧ w' = w := by
  unfold maxLen at hm
  have hlt := hb.2
  go_enter Try.func70, Try.ntmps70
  go_wp2
  go_loop [3, 4] (fun t i => ∃ k : Nat, k ≤ xs.length ∧ i = .int .i64 k ∧ t = .int .u32 (crc 4294967295 (xs.take k) : Nat)) (fun _ i => xs.length - (intOf i).toNat)
  case atStart => exact ⟨0, by omega, rfl, rfl⟩
  case round =>
    obtain ⟨k, hk, rfl, rfl⟩ := hrel
    have hr := crc_lt (xs.take k) 4294967295 (by decide) (fun c hc => hlt c (List.mem_of_mem_take hc))
    by_cases hkl : k < xs.length
    · obtain ⟨b, o, rfl, hc⟩ := hb.1 (by omega)
      have hck := hc k hkl
      have H : Hid _ := crc_take 4294967295 xs k hkl
      have hb8 := getD_lt hlt k
      have hx := byte_xor (crc 4294967295 (xs.take k)) (xs.getD k 0) hr hb8
      have hq : crc 4294967295 (xs.take k) ^^^ xs.getD k 0 < 4294967296 := Nat.xor_lt_two_pow (n := 32) (by omega) (by omega)
      generalize crc 4294967295 (xs.take k) = q at *
      generalize xs.getD k 0 = c at *
      clear hc hlt
      generalize q ^^^ c = y at *
      go_wp2
      go_loop [3, 5] (fun t i => ∃ j : Nat, j ≤ 8 ∧ i = .int .i64 j ∧ t = .int .u32 (crcBits j y : Nat)) (fun _ i => 8 - (intOf i).toNat)
      case atStart => exact ⟨0, by omega, rfl, rfl⟩
      case round =>
        obtain ⟨j, hj, rfl, rfl⟩ := hrel
        have hr2 := crcBits_lt j y hq
        have HB : Hid (crcBits (j + 1) y = crcBit (crcBits j y)) := rfl
        by_cases hjl : j < 8
        · generalize crcBits j y = z at *
          have ho := rem_odd z
          have hx2 := bit_xor (z / 2) (by omega)
          rw [show ((z / 2 : Nat) : Int) = (z : Int) / 2 from by omega] at hx2
          by_cases hodd : z % 2 = 1
          · have ho' : ((z : Int) % 2 == 1) = true := by rw [ho]; simp [hodd]
            have HO : Hid (z % 2 = 1) := hodd
            clear ho hodd
            go_wp2
            go_round
            case rel => exact ⟨j + 1, by omega, by go_num, by rw [HB.out]; simp [crcBit, HO.out]⟩
            case measure => simp [intOf]; omega
          · have ho' : ((z : Int) % 2 == 1) = false := by rw [ho]; simp [hodd]
            have HO : Hid (¬ z % 2 = 1) := hodd
            clear ho hodd
            go_wp2
            go_round
            case rel => exact ⟨j + 1, by omega, by go_num, by rw [HB.out]; simp [crcBit, HO.out]⟩
            case measure => simp [intOf]; omega
        · have e : j = 8 := by omega
          subst e
          clear HB
          go_wp2
          go_round
          case rel => exact ⟨k + 1, by omega, by go_num, by rw [H.out]⟩
          case measure => simp [intOf]; omega
    · have e : k = xs.length := by omega
      subst e
      rw [List.take_length] at hr ⊢
      have hn := sum_not xs hr
      go_wp2
      go_ret
      exact ⟨rfl, rfl⟩
end Go.Proofs.Ytlcbjmbphekliaa
namespace Go.Proofs.Ytlcbjmbphekliaa
open Go.RowKit Go.WideShapes

set_option maxHeartbeats 1000000 in
theorem Summed_any (w0 : World) (bx : List Box) (w : World) (v : Value) (xs : List Nat) (hst : St w0 bx w v xs) (hx : ∀ c ∈ xs, c < 256) (hl : xs.length ≤ 100000000) :
    Calls Try.prog 46 #[v] w fun e w' => ∃ v', e = .returned v' ∧ St w0 bx w' v' (xs ++ sum4 xs) := by
  obtain ⟨p, c, rfl, _, _, _⟩ := own_form hst.own
  obtain ⟨z, hz⟩ : ∃ z, sumN xs = z := ⟨_, rfl⟩
  have hz1 : z < 4294967296 := hz ▸ sumN_lt hx
  have hcw : IntKind.u64.wrap (z : Int) = (z : Int) := by rw [IntKind.wrap_u64]; omega
  have HS := refSum_any p c xs w (own_in hst.own hx) (by unfold maxLen; omega)
  rw [hz] at HS
  have HQ : Hid (sum4 xs = (putN z).take 4 ∧ (putN z).length = 8 ∧ (∀ c ∈ putN z, c < 256) ∧ xs.length ≤ 100000000) := ⟨by unfold sum4; rw [hz], rfl, putN_bytes z (by omega), hl⟩
  have HST : Hid (St w0 bx w (.slice p xs.length c) xs) := hst
  clear hst hx hz hl
  go_enter Try.func46, Try.ntmps46
  go_wp2_with fail
  refine HS.mono ?_
  rintro e w1 ⟨rfl, rfl⟩
  go_wp2_with fail
  refine (refPut_any z _ (by omega)).mono ?_
  rintro e w2 ⟨v2, rfl, ho2, hb2⟩
  obtain ⟨p2, c2, rfl, h8, _, hp2⟩ := own_form ho2
  have H2 : Hid (St w0 bx w2 (.slice p xs.length c) xs) := HST.out.call hb2
  have HI2 : Hid (BIn w2 p2 (sum4 xs)) := by
    show BIn _ _ _
    rw [HQ.out.1]
    exact (own_in (xs := putN z) (by rw [HQ.out.2.1]; exact ho2) HQ.out.2.2.1).take' 4
  have h4c : (4 : Int) ≤ (c2 : Int) := by omega
  have hz2 := H2.out.size
  clear ho2 hb2 HST h8
  go_wp2_with (at_builtin; go_loud (refine wpList_append_bytes _ rfl _ _ rfl w0.heap.size _ _ (sum4 xs) p2 _ c2 rfl rfl rfl H2.out.own HI2.out hp2 (by rw [sum4_len]; have := HQ.out; omega) hz2 ?_); intro v3 w3 ho3 hg3; have t3 := H2.out.app ho3 hg3; have H3 : Hid _ := t3; clear t3 ho3 hg3)
  go_ret
  exact ⟨v3, rfl, H3.out⟩
end Go.Proofs.Ytlcbjmbphekliaa
namespace Go.Proofs.Ytlcbjmbphekliaa
open Go.RowKit Go.WideShapes

theorem wayN_bound {l : List EntV} (h : ∀ x ∈ l, OkE x) (hn : l.length ≤ 4096) : ∀ k, k ≤ l.length → (wayN l k).length ≤ 5 + k * 5000 := by
  intro k
  induction k with
  | zero =>
    intro _
    unfold wayN
    have := smallN_five l.length (by omega)
    simp [entsN]
    omega
  | succ k ih =>
    intro hk
    have hk' : k < l.length := by omega
    obtain ⟨s, hs⟩ : ∃ s : ByteArray, numsOf s = lastK [] (l.take k) := by
      rcases Nat.eq_zero_or_pos k with h0 | h0
      · subst h0; exact ⟨ByteArray.empty, by simp [lastK, nums_empty]⟩
      · refine ⟨(l.getD (k - 1) zeroE).key, ?_⟩
        have := take_snoc (l := l) (k := k - 1) (by omega) rfl
        rw [show k - 1 + 1 = k from by omega] at this
        rw [this, lastK_snoc]
    have := (wayN_next hk' rfl hs).1
    rw [← this, List.length_append]
    have h1 := ih (by omega)
    have h2 := entN_len (numsOf s) (h _ (getD_mem' hk'))
    omega
set_option maxRecDepth 8000 in
set_option maxHeartbeats 4000000 in
theorem Made_any (q : Option Addr) (nn c : Nat) (l : List EntV) (w : World) (h : EntsL w q nn l) (hk0 : checkE l = 0) :
    Calls Try.prog 42 #[.slice q nn c] w fun e w' => ∃ v, e = .returned v ∧ w'.ownsRow w.heap.size 5 1 v (pageN l).length (Bs (pageN l)) ∧ Below w.heap.size w w' := by
  have HN : Hid (nn = l.length) := h.n
  have HQ : Hid (EntsIn w q l) := h.lies
  have HO := checkE_ok hk0
  have hn4 : (nn : Int) ≤ 4096 := by have := HN.out; have := HO.1; omega
  have HOK : Hid ((∀ x ∈ l, OkE x) ∧ l.length ≤ 4096) := ⟨HO.2, HO.1⟩
  clear HO h hk0
  go_enter Try.func42, Try.ntmps42
  go_wp2_with fail
  refine (rsmall_i (nn : Int) _ (by omega)).mono ?_
  rintro e w2 ⟨v2, rfl, ho2, hb2⟩
  rw [Int.toNat_natCast] at ho2
  have HS2 : Hid (St w [] w2 v2 (smallN nn)) := ⟨ho2, hb2, fun p hp => by simp at hp⟩
  clear ho2 hb2
  go_wp2
  go_loopw [3, 4, 5] (fun v a i wr => ∃ k : Nat, ∃ s : ByteArray, k ≤ nn ∧ i = .int .i64 k ∧ a = .string s ∧ numsOf s = lastK [] (l.take k) ∧ s.size ≤ 256 ∧ (wayN l k).length ≤ 30000000 ∧ St w [] wr v (wayN l k)) (fun _ _ i _ => nn - (intOf i).toNat)
  case atStart =>
    have e : wayN l 0 = smallN nn := by unfold wayN; rw [HN.out]; simp [entsN]
    refine ⟨0, ByteArray.empty, by omega, rfl, rfl, rfl, by decide, ?_, by rw [e]; exact HS2.out⟩
    rw [e]
    have := smallN_five nn (by omega)
    omega
  case round =>
    obtain ⟨k, s, hk, rfl, rfl, hs, hsz, hlen, hst⟩ := hrel
    by_cases hkl : k < nn
    · have g9 : decide (k < nn) = true := decide_eq_true hkl
      have hkl' : k < l.length := by have := HN.out; omega
      obtain ⟨b, o, rfl⟩ := HQ.out.addr (by omega)
      obtain ⟨e0, e1, e2, e3⟩ := (HQ.out.below hst.bel).at hkl'
      obtain ⟨y, hy⟩ : ∃ y, l.getD k zeroE = y := ⟨_, rfl⟩
      rw [hy] at e0 e1 e2 e3
      have hoy : OkE y := HOK.out.1 y (by rw [← hy]; exact getD_mem' hkl')
      obtain ⟨hw1, hw2⟩ := wayN_next hkl' hy hs
      obtain ⟨zs, hzs⟩ : ∃ zs, wayN l (k + 1) = zs := ⟨_, rfl⟩
      have hzl := wayN_bound HOK.out.1 HOK.out.2 (k + 1) (by omega)
      obtain ⟨xs, hxs⟩ : ∃ xs, wayN l k = xs := ⟨_, rfl⟩
      rw [hzs, hxs] at hw1
      rw [hxs] at hst hlen
      obtain ⟨ke, ve, se, ge⟩ := y
      obtain ⟨hk1, hk2, hv, hs1, hs2, hg⟩ := hoy
      simp only at e0 e1 e2 e3 hw2 hk1 hk2 hv hs1 hs2
      have HW : Hid (numsOf ke = lastK [] (l.take (k + 1)) ∧ ke.size ≤ 256 ∧ wayN l (k + 1) = zs ∧ (wayN l (k + 1)).length ≤ 30000000) := ⟨hw2, hk2, hzs, by have := HOK.out.2; omega⟩
      obtain ⟨n, hn⟩ : ∃ n, sharedN (numsOf s) (numsOf ke) = n := ⟨_, rfl⟩
      have hnk : n ≤ ke.size := by have := (sharedN_le (numsOf s) (numsOf ke)).2; rw [numsOf_len] at this; omega
      have HJ : Hid (∀ tl, tailN ⟨ke, ve, se, ge⟩ = tl → xs ++ smallN n ++ textN (ke.extract n ke.size) ++ smallN se.toNat ++ tl = zs) := by
        intro tl ht
        have := ent_join (numsOf s) ke ve se xs ge tl ht
        rw [hn, hw1] at this
        exact this
      have HX : Hid (xs.length ≤ 30000000 ∧ n ≤ 256 ∧ ke.size ≤ 256 ∧ (smallN n).length ≤ 5 ∧ (textN (ke.extract n ke.size)).length ≤ 300 ∧ (smallN se.toNat).length ≤ 5) := by
        have h1 := textN_len (ke.extract n ke.size) (by rw [ByteArray.size_extract]; omega)
        rw [ByteArray.size_extract] at h1
        exact ⟨hlen, by omega, hk2, smallN_five n (by omega), by omega, smallN_five _ (by omega)⟩
      have HTG := fun w' => together_any s ke w' (by omega) n hn
      have q1 : (n : Int) ≤ (ke.size : Int) := by omega
      have q2 : (ke.size : Int) ≤ 256 := by omega
      have hs3 : 0 ≤ se ∧ se ≤ 9223372036854775807 := by omega
      have HV : Hid (ve.size ≤ 100000 ∧ (textN ve).length ≤ 5000) := ⟨by omega, by have := textN_len ve (by omega); omega⟩
      have HBY : Hid (∀ l ∈ [smallN n, textN (ke.extract n ke.size), smallN se.toNat, textN ve], ∀ c ∈ l, c < 256) := by
        intro l hl c hc
        simp only [List.mem_cons, List.not_mem_nil, or_false] at hl
        rcases hl with rfl | rfl | rfl | rfl
        · exact smallN_bytes _ c hc
        · exact textN_lt _ c hc
        · exact smallN_bytes _ c hc
        · exact textN_lt _ c hc
      have HKX : Hid ((ke.extract n ke.size).size ≤ 100000) := by show _ ≤ _; rw [ByteArray.size_extract]; omega
      have HST : Hid (St w ((wr.heap.size, #[.string ke, .string ve, .int .i64 se, .bool ge], 29) :: []) (wr.alloc (.cells #[.string ke, .string ve, .int .i64 se, .bool ge] 29)) u3 xs) := hst.alloc _ _ (by decide)
      have hkn : (k : Int) < (nn : Int) := by omega
      clear hst hn hnk hy hg hk1 hk2 hv hs1 hs2 hw1 hw2 hzs hxs hzl hs hsz hlen hkl'
      go_wp2_with fail
      refine (HTG _).mono ?_
      rintro e w1 ⟨rfl, hb1⟩
      have H1 : Hid (St w ((wr.heap.size, #[.string ke, .string ve, .int .i64 se, .bool ge], 29) :: []) w1 u3 (xs)) := HST.out.call hb1
      clear hb1 HTG HST
      go_wp2_with fail
      refine (rsmall_i (n : Int) _ (by omega)).mono ?_
      rintro e w2 ⟨v2, rfl, ho2, hb2⟩
      rw [Int.toNat_natCast] at ho2
      obtain ⟨p2, c2, rfl, _, _, hp2⟩ := own_form ho2
      have H2 : Hid (St w ((wr.heap.size, #[.string ke, .string ve, .int .i64 se, .bool ge], 29) :: []) w2 u3 (xs)) := H1.out.call hb2
      have HI2 : Hid (BIn w2 p2 (smallN n)) := own_in ho2 (HBY.out _ (by simp))
      have hz2 := H2.out.size
      clear ho2 hb2 H1
      go_wp2_with (at_builtin; go_loud (refine wpList_append_bytes _ rfl _ _ rfl w.heap.size _ _ (smallN n) p2 _ c2 rfl rfl rfl H2.out.own HI2.out hp2 (by (try simp only [List.length_append]); have := HX.out; omega) hz2 ?_); intro v3 w3 ho3 hg3; have t3 := H2.out.app ho3 hg3; have H3 : Hid _ := t3; have bx0 := t3.box0 0; have bx1 := t3.box0 1; have bx2 := t3.box0 2; have bx3 := t3.box0 3; clear t3 ho3 hg3 H2 HI2)
      go_wp2_with fail
      refine (refText_any (ke.extract n ke.size) _ HKX.out).mono ?_
      rintro e w4 ⟨v4, rfl, ho4, hb4⟩
      clear bx0 bx1 bx2 bx3
      obtain ⟨p4, c4, rfl, _, _, hp4⟩ := own_form ho4
      have H4 : Hid (St w ((wr.heap.size, #[.string ke, .string ve, .int .i64 se, .bool ge], 29) :: []) w4 v3 (xs ++ smallN n)) := H3.out.call hb4
      have HI4 : Hid (BIn w4 p4 (textN (ke.extract n ke.size))) := own_in ho4 (HBY.out _ (by simp))
      have hz4 := H4.out.size
      clear ho4 hb4 H3
      go_wp2_with (at_builtin; go_loud (refine wpList_append_bytes _ rfl _ _ rfl w.heap.size _ _ (textN (ke.extract n ke.size)) p4 _ c4 rfl rfl rfl H4.out.own HI4.out hp4 (by (try simp only [List.length_append]); have := HX.out; omega) hz4 ?_); intro v5 w5 ho5 hg5; have t5 := H4.out.app ho5 hg5; have H5 : Hid _ := t5; have bx0 := t5.box0 0; have bx1 := t5.box0 1; have bx2 := t5.box0 2; have bx3 := t5.box0 3; clear t5 ho5 hg5 H4 HI4)
      go_wp2_with fail
      refine (rsmall_i se _ hs3).mono ?_
      rintro e w6 ⟨v6, rfl, ho6, hb6⟩
      clear bx0 bx1 bx2 bx3
      obtain ⟨p6, c6, rfl, _, _, hp6⟩ := own_form ho6
      have H6 : Hid (St w ((wr.heap.size, #[.string ke, .string ve, .int .i64 se, .bool ge], 29) :: []) w6 v5 (xs ++ smallN n ++ textN (ke.extract n ke.size))) := H5.out.call hb6
      have HI6 : Hid (BIn w6 p6 (smallN se.toNat)) := own_in ho6 (HBY.out _ (by simp))
      have hz6 := H6.out.size
      clear ho6 hb6 H5
      cases ge with
      | true =>
        have HE : Hid (xs ++ smallN n ++ textN (ke.extract n ke.size) ++ smallN se.toNat ++ [1] = zs) := HJ.out [1] (by unfold tailN; rw [if_pos rfl, small1])
        go_wp2_with (first
          | (at_builtin; go_loud (refine wpList_append_bytes _ rfl _ _ rfl w.heap.size _ _ (smallN se.toNat) p6 _ c6 rfl rfl rfl H6.out.own HI6.out hp6 (by (try simp only [List.length_append]); have := HX.out; omega) hz6 ?_); intro v7 w7 ho7 hg7; have t7 := H6.out.app ho7 hg7; have H7 : Hid _ := t7; have bx0 := t7.box0 0; have bx1 := t7.box0 1; have bx2 := t7.box0 2; have bx3 := t7.box0 3; clear t7 ho7 hg7 H6 HI6; have S8 := H7.out.call (below_alloc w7 (.cells #[.int .u8 1] 5)); have HI8 : Hid (BIn (w7.alloc (.cells #[.int .u8 1] 5)) (some ⟨w7.heap.size, 0, none⟩) [1]) := bin_lit w7 _ _ 5 (0, 0) _ rfl (by simp [Bs]) (by intro c hc; simp at hc; omega); have H8 : Hid _ := S8; have hz8 := S8.size; clear S8)
          | (at_builtin; go_loud (refine wpList_append_bytes _ rfl _ _ rfl w.heap.size _ _ [1] (some ⟨w7.heap.size, 0, none⟩) _ 1 rfl rfl rfl H8.out.own HI8.out (fun h => by cases h) (by simp only [List.length_append, List.length_cons, List.length_nil]; have := HX.out; omega) hz8 ?_); intro v9 w9 ho9 hg9; have t9 := H8.out.app ho9 hg9; have H9 : Hid _ := t9; clear bx0 bx1 bx2 bx3; have bx0 := t9.box0 0; have bx1 := t9.box0 1; clear t9 ho9 hg9))
        go_roundw
        case rel => exact ⟨k + 1, ke, by omega, by go_num, rfl, HW.out.1, HW.out.2.1, HW.out.2.2.2, by rw [HW.out.2.2.1]; exact (H9.out.eq HE.out).drop⟩
        case measure => simp [intOf]; omega
      | false =>
        have HE : Hid (xs ++ smallN n ++ textN (ke.extract n ke.size) ++ smallN se.toNat ++ [0] ++ textN ve = zs) := by
          have := HJ.out ([0] ++ textN ve) (by unfold tailN textN; rw [if_neg (by simp), small0])
          rw [← List.append_assoc] at this
          exact this
        go_wp2_with (first
          | (at_builtin; go_loud (refine wpList_append_bytes _ rfl _ _ rfl w.heap.size _ _ (smallN se.toNat) p6 _ c6 rfl rfl rfl H6.out.own HI6.out hp6 (by (try simp only [List.length_append]); have := HX.out; omega) hz6 ?_); intro v7 w7 ho7 hg7; have t7 := H6.out.app ho7 hg7; have H7 : Hid _ := t7; have bx0 := t7.box0 0; have bx1 := t7.box0 1; have bx2 := t7.box0 2; have bx3 := t7.box0 3; clear t7 ho7 hg7 H6 HI6; have S8 := H7.out.call (below_alloc w7 (.cells #[.int .u8 0] 5)); have HI8 : Hid (BIn (w7.alloc (.cells #[.int .u8 0] 5)) (some ⟨w7.heap.size, 0, none⟩) [0]) := bin_lit w7 _ _ 5 (0, 0) _ rfl (by simp [Bs]) (by intro c hc; simp at hc; omega); have H8 : Hid _ := S8; have hz8 := S8.size; clear S8)
          | (at_builtin; go_loud (refine wpList_append_bytes _ rfl _ _ rfl w.heap.size _ _ [0] (some ⟨w7.heap.size, 0, none⟩) _ 1 rfl rfl rfl H8.out.own HI8.out (fun h => by cases h) (by simp only [List.length_append, List.length_cons, List.length_nil]; have := HX.out; omega) hz8 ?_); intro v9 w9 ho9 hg9; have t9 := H8.out.app ho9 hg9; have H9 : Hid _ := t9; clear bx0 bx1 bx2 bx3; have bx0 := t9.box0 0; have bx1 := t9.box0 1; clear t9 ho9 hg9))
        go_wp2_with fail
        refine (refText_any ve _ HV.out.1).mono ?_
        rintro e w10 ⟨v10, rfl, ho10, hb10⟩
        obtain ⟨p10, c10, rfl, _, _, hp10⟩ := own_form ho10
        have H10 : Hid (St w ((wr.heap.size, #[.string ke, .string ve, .int .i64 se, .bool false], 29) :: []) w10 v9 (xs ++ smallN n ++ textN (ke.extract n ke.size) ++ smallN se.toNat ++ [0])) := H9.out.call hb10
        have HI10 : Hid (BIn w10 p10 (textN ve)) := own_in ho10 (HBY.out _ (by simp))
        have hz10 := H10.out.size
        clear ho10 hb10 H9 H8 bx0 bx1
        go_wp2_with (at_builtin; go_loud (refine wpList_append_bytes _ rfl _ _ rfl w.heap.size _ _ (textN ve) p10 _ c10 rfl rfl rfl H10.out.own HI10.out hp10 (by simp only [List.length_append, List.length_cons, List.length_nil]; have := HX.out; have := HV.out; omega) hz10 ?_); intro v11 w11 ho11 hg11; have t11 := H10.out.app ho11 hg11; have H11 : Hid _ := t11; have bx0 := t11.box0 0; clear t11 ho11 hg11)
        go_roundw
        case rel => exact ⟨k + 1, ke, by omega, by go_num, rfl, HW.out.1, HW.out.2.1, HW.out.2.2.2, by rw [HW.out.2.2.1]; exact (H11.out.eq HE.out).drop⟩
        case measure => simp [intOf]; omega
    · have g2 : (nn : Int) ≤ (k : Int) := by omega
      have g9 : decide (k < nn) = false := decide_eq_false hkl
      have hwa := wayN_all (l := l) (k := k) (by have := HN.out; omega)
      rw [hwa] at hst hlen
      have HSM := Summed_any w [] wr u3 (bodyN l) hst (bodyN_lt l) (by omega)
      clear hwa hst hs hlen
      go_wp2_with fail
      refine HSM.mono ?_
      rintro e w4 ⟨v4, rfl, hs4⟩
      have HS4 : Hid (St w [] w4 v4 (pageN l)) := hs4
      clear hs4 HSM
      go_wp2
      go_ret
      exact ⟨v4, rfl, HS4.out.own, HS4.out.bel⟩
set_option maxHeartbeats 1000000 in
theorem rMake_any (q : Option Addr) (n c : Nat) (l : List EntV) (w : World) (h : EntsL w q n l) (ys : List Nat) (E : Nat) (hR : makeE l = (ys, E)) :
    Calls Try.prog 90 #[.slice q n c] w fun e w' => ∃ v, e = .returned (.tuple #[v, .int .i64 (E : Int)]) ∧ w'.ownsRow w.heap.size 5 1 v ys.length (Bs ys) ∧ Below w.heap.size w w' := by
  obtain ⟨C, hC⟩ : ∃ C, checkE l = C := ⟨_, rfl⟩
  have HCK := rCheck_any q n c l w h C hC
  have HR : Hid (makeE l = (ys, E)) := hR
  have HQ : Hid (EntsL w q n l) := h
  have HC : Hid (checkE l = C) := hC
  clear h hR hC
  go_enter Try.func90, Try.ntmps90
  go_wp2_with fail
  refine HCK.mono ?_
  rintro e w1 ⟨rfl, hb1⟩
  have HB1 : Hid (Below w.heap.size w w1) := hb1
  clear hb1 HCK
  rcases Nat.eq_zero_or_pos C with h0 | h0
  · subst h0
    go_wp2_with fail
    refine (Made_any q n c l _ (HQ.out.below HB1.out) HC.out).mono ?_
    rintro e w2 ⟨v2, rfl, ho2, hb2⟩
    obtain ⟨p2, c2, rfl, _, _, _⟩ := own_form ho2
    have HO2 : Hid (w2.ownsRow w.heap.size 5 1 (.slice p2 (pageN l).length c2) (pageN l).length (Bs (pageN l)) ∧ Below w.heap.size w w2) := ⟨own_mono ho2 HB1.out.size, below_bt HB1.out hb2⟩
    clear ho2 hb2
    by_cases hbig : 65536 < (pageN l).length
    · have g5 : decide ((65536 : Int) < ((pageN l).length : Int)) = true := decide_eq_true (by omega)
      have HE : Hid (ys = [] ∧ E = 7) := by
        have e : makeE l = ([], 7) := by unfold makeE; rw [if_pos HC.out, if_pos hbig]
        rw [HR.out] at e
        show _ ∧ _
        simpa using e
      clear hbig
      go_wp2
      go_ret2
      exact ⟨.slice none 0 0, by rw [HE.out.2]; rfl, by rw [HE.out.1]; exact World.ownsRow_nil _ _ _ _, HO2.out.2⟩
    · have g5 : decide ((65536 : Int) < ((pageN l).length : Int)) = false := decide_eq_false (by omega)
      have HE : Hid (ys = pageN l ∧ E = 0) := by
        have e : makeE l = (pageN l, 0) := by unfold makeE; rw [if_pos HC.out, if_neg hbig]
        rw [HR.out] at e
        show _ ∧ _
        simpa using e
      clear hbig
      go_wp2
      go_ret2
      exact ⟨_, by rw [HE.out.2]; rfl, by rw [HE.out.1]; exact HO2.out.1, HO2.out.2⟩
  · have hne : ((C : Int) != 0) = true := by simp; omega
    have HE : Hid (ys = [] ∧ E = C) := by
      have := makeE_no (l := l) (by rw [HC.out]; omega)
      rw [HR.out, HC.out] at this
      show _ ∧ _
      simpa using this
    clear h0
    go_wp2
    go_ret2
    exact ⟨.slice none 0 0, by rw [HE.out.2]; rfl, by rw [HE.out.1]; exact World.ownsRow_nil _ _ _ _, HB1.out⟩
end Go.Proofs.Ytlcbjmbphekliaa
namespace Go.Proofs.Ytlcbjmbphekliaa
open Go.RowKit Go.WideShapes

theorem ents_cells {w : World} {b o : Nat} {l : List EntV} (h : EntsIn w (some ⟨b, o, none⟩) l) : ∀ j u, (cellsE l)[j]? = some u → w.cell? ((⟨b, o, none⟩ : Addr).add j) = some u := by
  intro j u hj
  have hlt : j < l.length * 4 := by rw [← cellsE_len]; exact (List.getElem?_eq_some_iff.1 hj).1
  have hi : j / 4 < l.length := by omega
  obtain ⟨c0, c1, c2, c3⟩ := cellsE_at l (j / 4) hi
  obtain ⟨d0, d1, d2, d3⟩ := h.at hi
  rw [add_plain]
  have hr : j % 4 = 0 ∨ j % 4 = 1 ∨ j % 4 = 2 ∨ j % 4 = 3 := by omega
  rcases hr with hr | hr | hr | hr
  · have e : j = j / 4 * 4 := by omega
    rw [← e] at c0 d0
    rw [c0] at hj; rw [d0, ← Option.some.inj hj]
  · have e : j = j / 4 * 4 + 1 := by omega
    rw [Nat.add_assoc] at d1
    rw [← e] at c1 d1
    rw [c1] at hj; rw [d1, ← Option.some.inj hj]
  · have e : j = j / 4 * 4 + 2 := by omega
    rw [Nat.add_assoc] at d2
    rw [← e] at c2 d2
    rw [c2] at hj; rw [d2, ← Option.some.inj hj]
  · have e : j = j / 4 * 4 + 3 := by omega
    rw [Nat.add_assoc] at d3
    rw [← e] at c3 d3
    rw [c3] at hj; rw [d3, ← Option.some.inj hj]
theorem cellsE_one (l : List EntV) : ∀ u ∈ cellsE l, u.oneCell' = true := by
  intro u hu
  simp only [cellsE, List.mem_flatMap, List.mem_cons, List.not_mem_nil, or_false] at hu
  obtain ⟨p, _, h⟩ := hu
  rcases h with rfl | rfl | rfl | rfl <;> rfl
theorem run_append_ents (w : World) (base : Nat) (ty : TypeId) (l : List EntV) (p : Option Addr) (c : Nat) (hin : EntsIn w p l) (hp : p = none → c = 0) (hlen : l.length ≤ 100000) (hbase : base ≤ w.heap.size) :
    ∃ v' w', (Builtin.append_ #[26, 26] ty #[.slice none 0 0, .slice p l.length c]).run Try.prog w = .ok v' w' ∧ EOwn w' base v' l ∧ w.grownBy w' none := by
  obtain ⟨i0, hi, hz0, hz1, hz2⟩ := info_parts' info_entry
  have hown := eown_nil w base
  have hmax : 0 + l.length ≤ maxLen := by unfold maxLen; omega
  cases p with
  | none =>
    obtain rfl : l = [] := by
      cases l with
      | nil => rfl
      | cons y l => obtain ⟨b, o, e, _⟩ := hin (by simp); cases e
    obtain rfl := hp rfl
    exact ⟨_, w, run_append_owned_none (P := Try.prog) w base 26 ty 29 i0 4 Try.underlying26 hi (.slice none 0 0) 0 [] hown, hown, ⟨rfl, rfl, rfl, Nat.le_refl _, fun _ _ _ => rfl⟩⟩
  | some ad =>
    have hc : ∀ j u, (cellsE l)[j]? = some u → w.cell? (ad.add j) = some u := by
      intro j u hu
      have hpos : 0 < l.length := by
        cases l with
        | nil => simp [cellsE] at hu
        | cons y l => simp
      obtain ⟨b, o, e, _⟩ := hin hpos
      simp at e
      subst e
      exact ents_cells hin j u hu
    obtain ⟨v', w', h1, h2, h3, _⟩ := run_append_own (P := Try.prog) w base 26 ty 29 i0 (.agg #[.string ByteArray.empty, .string ByteArray.empty, .int .i64 0, .bool false]) 4 48 Try.underlying26 hi hz0 hz1 hz2 rfl (by decide) (.slice none 0 0) 0 [] hown ad l.length c (cellsE l) (cellsE_len l) hc (cellsE_one l) hmax (by omega) hbase
    exact ⟨v', w', h1, by simpa [EOwn] using h2, h3⟩
theorem wpList_append_ents (w : World) {ops : Array Oper} {rest : List Oper} {o : Oper} {a : Act} {Q : Exit → Act → World → Prop} (hgd : o.guard = none) (s x : Operand)
    (ho : o.op = .call { callee := .builtin .append, args := #[s, x], argTypes := #[26, 26] }) (base : Nat) (l : List EntV) (p : Option Addr) (m c : Nat) (hs : a.eval s = .slice none 0 0) (hx : a.eval x = .slice p m c) (hm : m = l.length)
    (hin : EntsIn w p l) (hp : p = none → c = 0) (hlen : l.length ≤ 100000) (hbase : base ≤ w.heap.size)
    (h : ∀ v' w', EOwn w' base v' l → w.grownBy w' none → wpList Try.prog ops Q rest (a.put o.dst v') w') : wpList Try.prog ops Q (o :: rest) a w := by
  subst hm
  refine wpList_plain hgd fun K hK => ?_
  obtain ⟨v', w', hr, h2, h3⟩ := run_append_ents w base o.type l p c hin hp hlen hbase
  unfold Oper.wp execOp
  simp only [ho, resolve, invoke, builtin, Sem.run_bind, Sem.run_pure, Result.andThen_ok, List.map_toArray, List.map_cons, List.map_nil, hs, hx, hr]
  exact hK _ _ (h v' w' h2 h3)
end Go.Proofs.Ytlcbjmbphekliaa
