/-
  What the statement calls: heavy, SameChanges.
-/
import Derived.Test.YtkecajgdmompcaaDoorJ02
import Derived.Test.YtkecajgdmompcaaDoorJ03
import Derived.OpenShut
import Derived.Deep.QuietTactic
import Derived.Laws.StructEq
import Derived.Laws.AppendOwnNone
namespace Go.Proofs.YtkecajgdmompcaaDoor
open Go.RowKit Go.WideShapes


set_option maxHeartbeats 400000 in
set_option maxRecDepth 100000 in
theorem refSmall_any (n : Nat) (w : World) (hn : n < 18446744073709551616) :
    Calls Tryd.prog 13 #[.int .u64 n] w fun e w' => ∃ v, e = .returned v ∧ w'.ownsRow w.heap.size 5 1 v (smallN n).length (Bs (smallN n)) ∧ Below w.heap.size w w' := by
  obtain ⟨i0, hi, hz0, hz1, hz2⟩ := info_parts info5
  have hten := smallN_ten n hn
  go_enter Tryd.func13, Tryd.ntmps13
  go_wp2
  go_loopw [0, 3] (fun t v wr => ∃ m : Nat, ∃ xs : List Nat, m < 18446744073709551616 ∧ t = .int .u64 m ∧ smallN n = xs ++ smallN m ∧ wr.ownsRow w.heap.size 5 1 v xs.length (Bs xs) ∧ Below w.heap.size w wr)
    (fun t _ _ => (intOf t).toNat)
  case atStart => exact ⟨n, [], hn, rfl, rfl, World.ownsRow_nil _ _ _ _, Below.refl _ _⟩
  case round =>
    obtain ⟨m, xs, hm, rfl, hsm, hown, hnx⟩ := hrel
    have HS : Hid _ := hsm
    clear hsm
    have hpos := smallN_pos m
    have hxl : xs.length + (smallN m).length ≤ 10 := by rw [HS.out] at hten; simpa using hten
    have hsz := hnx.size
    by_cases hlt : m < 128
    · go_wp2_with (at_builtin; refine wpList_append_own _ rfl _ _ 43 rfl w.heap.size 5 i0 (.int .u8 0) 1 1 Tryd.underlying43 hi hz0 hz1 hz2 rfl (by decide) _ _ _ rfl (hown.alloc _) ⟨wr.heap.size, 0, none⟩ 1 1 [.int .u8 (m : Int)] rfl rfl (cell_one_new _ _ _) ?c2 ?c3 ?c4 ?c5 ?_)
      case c2 => intro u hu; simp at hu; subst hu; rfl
      case c3 => unfold maxLen; omega
      case c4 => omega
      case c5 => simp; omega
      intro v' w1 hown' hgrow _
      have R := rel_push rfl hown hnx hsz hown' hgrow
      have e : smallN n = xs ++ [m] := by rw [HS.out, smallN_lo hlt]
      rw [← e] at R
      clear hown' hgrow hown e
      go_wp2
      go_ret
      exact ⟨v', rfl, R.1, R.2⟩
    · go_wp2_with (at_builtin; refine wpList_append_own _ rfl _ _ 43 rfl w.heap.size 5 i0 (.int .u8 0) 1 1 Tryd.underlying43 hi hz0 hz1 hz2 rfl (by decide) _ _ _ rfl (hown.alloc _) ⟨wr.heap.size, 0, none⟩ 1 1 [.int .u8 ((m : Int) % 128 + 128)] rfl rfl (cell_one_new _ _ _) ?d2 ?d3 ?d4 ?d5 ?_)
      case d2 => intro u hu; simp at hu; subst hu; rfl
      case d3 => unfold maxLen; omega
      case d4 => omega
      case d5 => simp; omega
      intro v' w1 hown' hgrow _
      have R := rel_push (c := m % 128 + 128) (by omega) hown hnx hsz hown' hgrow
      have e : Hid (smallN n = (xs ++ [m % 128 + 128]) ++ smallN (m / 128)) := by show _ = _; rw [HS.out, smallN_hi hlt]; simp
      clear hown' hgrow hown
      go_wp2
      go_roundw
      case rel => exact ⟨m / 128, xs ++ [m % 128 + 128], by omega, by go_num, e.out, R.1, R.2⟩
      case measure => simp [intOf]; omega

set_option maxHeartbeats 400000 in
theorem refText_any (s : ByteArray) (w : World) (hs : s.size ≤ 100000) :
    Calls Tryd.prog 14 #[.string s] w fun e w' => ∃ v, e = .returned v ∧ w'.ownsRow w.heap.size 5 1 v (textN s).length (Bs (textN s)) ∧ Below w.heap.size w w' := by
  obtain ⟨i0, hi, hz0, hz1, hz2⟩ := info_parts info5
  have hten := smallN_ten s.size (by omega)
  go_enter Tryd.func14, Tryd.ntmps14
  go_wp2_with fail
  refine (refSmall_any s.size w (by omega)).mono ?_
  rintro e w1 ⟨v, rfl, hown, hb⟩
  have hsz := hb.size
  go_wp2_with (at_builtin; refine Lib.wpList_append_own_string _ rfl _ _ 43 9 rfl w.heap.size 5 i0 Tryd.underlying43 Tryd.underlying9 hi hz0 hz1 hz2 _ _ _ rfl hown s rfl ?c3 ?c4 hsz ?_)
  case c3 => unfold maxLen; omega
  case c4 => omega
  intro v' w2 hown' hgrow _
  have R : w2.ownsRow w.heap.size 5 1 v' (textN s).length (Bs (textN s)) := by simpa [textN, numsOf_len, Bs_app, strCells_Bs] using hown'
  have hb2 := hb.grown hgrow hsz (fun k hk => (hown.lt k hk).1)
  clear hown' hgrow hown
  go_wp2
  go_ret
  exact ⟨v', rfl, R, hb2⟩

/-- The lowest k bytes of a number. -/
def putK : Nat → Nat → List Nat
  | 0, _ => []
  | k + 1, m => (m % 256) :: putK k (m / 256)
theorem putK_8 (n : Nat) (h : n < 18446744073709551616) : putK 8 n = putN n := by
  simp only [putK, putN, Nat.div_div_eq_div_mul, Nat.reduceMul]
  have : n / 72057594037927936 % 256 = n / 72057594037927936 := by omega
  rw [this]
theorem putK_step (k m : Nat) (h : k < 8) : putK (8 - k) m = (m % 256) :: putK (8 - (k + 1)) (m / 256) := by
  rw [show 8 - k = (8 - (k + 1)) + 1 from by omega]; rfl

theorem ret_two {a b : Int} {k1 k2 : IntKind} {c : Int} (h : a = b) : Ending.returned (.tuple #[.int k1 a, .int k2 c]) = .returned (.tuple #[.int k1 b, .int k2 c]) := by rw [h]
end Go.Proofs.YtkecajgdmompcaaDoor
namespace Go.Proofs.YtkecajgdmompcaaDoor
open Go.RowKit Go.WideShapes


/-- The number of bytes, seven bits each, the lowest first. -/
def val : List Nat → Nat
  | [] => 0
  | c :: l => c % 128 + 128 * val l
theorem val_snoc (l : List Nat) (c : Nat) : val (l ++ [c]) = c % 128 * 2 ^ (7 * l.length) + val l := by
  induction l with
  | nil => simp [val]
  | cons a l ih =>
    rw [List.cons_append, val, val, ih, List.length_cons, show 7 * (l.length + 1) = 7 * l.length + 7 from by omega, Nat.pow_add]
    generalize 2 ^ (7 * l.length) = X
    rw [show 128 * (c % 128 * X + val l) = c % 128 * (X * 2 ^ 7) + 128 * val l from by rw [Nat.mul_add, ← Nat.mul_assoc, Nat.mul_comm 128 (c % 128), Nat.mul_assoc, Nat.mul_comm 128 X]]
    omega
theorem val_lt (l : List Nat) : val l < 2 ^ (7 * l.length) := by
  induction l with
  | nil => simp [val]
  | cons a l ih =>
    rw [val, List.length_cons, show 7 * (l.length + 1) = 7 * l.length + 7 from by omega, Nat.pow_add]
    omega
theorem take_at (xs : List Nat) (k : Nat) (h : k < xs.length) : xs.take (k + 1) = xs.take k ++ [xs.getD k 0] := by
  rw [List.take_succ_eq_append_getElem h]; simp [List.getD, List.getElem?_eq_getElem h]
theorem val_take (xs : List Nat) (k : Nat) (h : k < xs.length) : val (xs.take (k + 1)) = xs.getD k 0 % 128 * 2 ^ (7 * k) + val (xs.take k) := by
  rw [take_at xs k h, val_snoc, List.length_take, Nat.min_eq_left (by omega)]
theorem val_drop (xs : List Nat) (k t : Nat) (h : t ≤ k) (hk : k < xs.length) : val ((xs.take (k + 1)).drop t) = xs.getD t 0 % 128 + 128 * val ((xs.take (k + 1)).drop (t + 1)) := by
  have hl : t < (xs.take (k + 1)).length := by simp; omega
  rw [List.drop_eq_getElem_cons hl, val]
  congr 1
  simp [List.getD, List.getElem?_eq_getElem (show t < xs.length from by omega)]
theorem val_drop_le (l : List Nat) (t : Nat) : val (l.drop t) ≤ val l := by
  induction l generalizing t with
  | nil => simp
  | cons a l ih =>
    cases t with
    | zero => simp
    | succ t => rw [List.drop_succ_cons, val]; have := ih t; omega
theorem val_fits {l : List Nat} {t : Nat} (h : val l < 18446744073709551616) : val (l.drop t) < 18446744073709551616 := Nat.lt_of_le_of_lt (val_drop_le l t) h
theorem read_skip {xs : List Nat} (j : Nat) (hj : j ≤ 9) (hlen : j ≤ xs.length) (hall : ∀ i, i < j → 128 ≤ xs.getD i 0) : readN xs = readAux j (val (xs.take j)) (xs.drop j) := by
  induction j with
  | zero => simp [val, readN]
  | succ j ih =>
    rw [ih (by omega) (by omega) (fun i hi => hall i (by omega)), drop_at xs j (by omega), aux_hi (by omega) (hall j (by omega)), val_take xs j (by omega)]
theorem read_over {xs : List Nat} (hlen : 10 ≤ xs.length) (hall : ∀ i, i < 10 → 128 ≤ xs.getD i 0) : readN xs = none := by
  have := hall 9 (by omega)
  rw [read_skip 9 (by omega) (by omega) (fun i hi => hall i (by omega)), drop_at xs 9 (by omega), aux_big ⟨rfl, by omega⟩]
theorem read_end {xs : List Nat} (hlen : xs.length ≤ 9) (hall : ∀ i, i < xs.length → 128 ≤ xs.getD i 0) : readN xs = none := by
  rw [read_skip xs.length hlen (by omega) hall, List.drop_length]; rfl
theorem read_big {xs : List Nat} (hlen : 9 < xs.length) (hall : ∀ i, i < 9 → 128 ≤ xs.getD i 0) (h : 1 < xs.getD 9 0) : readN xs = none := by
  rw [read_skip 9 (by omega) (by omega) hall, drop_at xs 9 hlen, aux_big ⟨rfl, h⟩]
theorem read_zero {xs : List Nat} {k : Nat} (hlen : k < xs.length) (hk : k ≤ 9) (hall : ∀ i, i < k → 128 ≤ xs.getD i 0) (h0 : 0 < k) (h : xs.getD k 0 = 0) : readN xs = none := by
  rw [read_skip k hk (by omega) hall, drop_at xs k hlen, aux_zero (by omega) (by omega) ⟨h, h0⟩]
theorem read_ok {xs : List Nat} {k : Nat} (hlen : k < xs.length) (hk : k ≤ 9) (hall : ∀ i, i < k → 128 ≤ xs.getD i 0) (hc : xs.getD k 0 < 128) (hbig : k = 9 → xs.getD k 0 ≤ 1) (hz : 0 < k → xs.getD k 0 ≠ 0) : readN xs = some (val (xs.take (k + 1)), k + 1) := by
  rw [read_skip k hk (by omega) hall, drop_at xs k hlen, aux_end (by omega) (by omega) (by omega), val_take xs k hlen]
theorem read_ok_fits {xs : List Nat} {k : Nat} (hlen : k < xs.length) (hk : k ≤ 9) (hall : ∀ i, i < k → 128 ≤ xs.getD i 0) (hc : xs.getD k 0 < 128) (hbig : k = 9 → xs.getD k 0 ≤ 1) (hz : 0 < k → xs.getD k 0 ≠ 0) : val (xs.take (k + 1)) < 18446744073709551616 :=
  (readN_some (read_ok hlen hk hall hc hbig hz)).2.2.2

set_option maxHeartbeats 2000000 in
set_option maxRecDepth 100000 in
theorem refRead_any (p : Option Addr) (cap : Nat) (xs : List Nat) (w : World) (hb : BIn w p xs) (hm : xs.length ≤ maxLen) :
    Calls Tryd.prog 16 #[.slice p xs.length cap] w fun e w' => e = .returned (readV (readN xs)) ∧ w' = w := by
  unfold maxLen at hm
  have hlt := hb.2
  go_enter Tryd.func16, Tryd.ntmps16
  go_wp2
  go_loop [5] (fun i => ∃ k : Nat, k ≤ xs.length ∧ k ≤ 10 ∧ i = .int .i64 k ∧ ∀ i, i < k → 128 ≤ xs.getD i 0) (fun i => xs.length - (intOf i).toNat)
  case atStart => exact ⟨0, by omega, by omega, rfl, by intro i hi; omega⟩
  case round =>
    obtain ⟨k, hk, hk10, rfl, hall⟩ := hrel
    have HA : Hid (∀ i, i < k → 128 ≤ xs.getD i 0) := hall
    clear hall
    by_cases hlen : k < xs.length
    · obtain ⟨b, o, rfl, hcell⟩ := hb.1 (by omega)
      have hck := hcell k hlen
      have hb8 := getD_lt hlt k
      by_cases h10 : k < 10
      · by_cases hc128 : 128 ≤ xs.getD k 0
        · have HC : Hid (128 ≤ xs.getD k 0) := hc128
          generalize hcd : xs.getD k 0 = c at *
          have HCD : Hid _ := hcd
          clear hcd hcell hb hlt
          go_wp2
          go_round
          case rel => exact ⟨k + 1, by omega, by omega, by go_num, fun i hi => by
            rcases Nat.lt_or_ge i k with h | h
            · exact HA.out i h
            · obtain rfl : i = k := by omega
              rw [HCD.out]; exact hc128⟩
          case measure => simp [intOf]; omega
        · have hc128 : xs.getD k 0 < 128 := by omega
          have hk9 : k ≤ 9 := by omega
          have hall := HA.out
          clear HA hb
          by_cases hk9' : k = 9
          · by_cases hbig0 : 1 < xs.getD k 0
            · have HN : Hid (readN xs = none) := by subst hk9'; exact read_big hlen hall hbig0
              subst hk9'
              clear hcell hall hlt
              generalize xs.getD 9 0 = c at *
              go_wp2
              go_ret3
              exact ⟨by rw [HN.out]; rfl, rfl⟩
            · have hbig : k = 9 → xs.getD k 0 ≤ 1 := fun _ => by omega
              by_cases h0 : xs.getD k 0 = 0
              · have HN : Hid (readN xs = none) := read_zero hlen hk9 hall (by omega) h0
                have hc0 : ((xs.getD k 0 : Nat) : Int) ≤ 0 := by omega
                have hc0b : (((xs.getD k 0 : Nat) : Int) == 0) = true := by rw [h0]; rfl
                have hc1 : ((xs.getD k 0 : Nat) : Int) ≤ 1 := by omega
                clear h0 hbig
                subst hk9'
                clear hcell hall hlt
                generalize xs.getD 9 0 = c at *
                go_wp2
                go_ret3
                exact ⟨by rw [HN.out]; rfl, rfl⟩
              · have hzer : 0 < k → xs.getD k 0 ≠ 0 := fun _ => h0
                have hc1 : ((xs.getD k 0 : Nat) : Int) ≤ 1 := by omega
                have hc0b : (((xs.getD k 0 : Nat) : Int) == 0) = false := by simpa using h0
                subst hk9'
                clear h0
                have HE : Hid _ := read_ok hlen hk9 hall hc128 hbig hzer
                have HF : Hid _ := read_ok_fits hlen hk9 hall hc128 hbig hzer
                have hLl : Hid ((xs.take (9 + 1)).length = 9 + 1) := by show _ = _; simp; omega
                clear hall hbig hzer
                generalize xs.getD 9 0 = ck at *
                have HCell : Hid _ := hcell
                clear hcell
                go_wp2
                go_loop [6, 7] (fun t i => ∃ j : Nat, j ≤ 9 + 1 ∧ i = .int .i64 ((j : Int) - 1) ∧ t = .int .u64 (val ((xs.take (9 + 1)).drop j) : Nat)) (fun _ i => (intOf i + 1).toNat)
                case atStart => exact ⟨9 + 1, by omega, by go_num, by rw [List.drop_eq_nil_of_le (by rw [hLl.out]; exact Nat.le_refl _)]; rfl⟩
                case round =>
                  obtain ⟨j, hj, rfl, rfl⟩ := hrel
                  by_cases hj0 : 0 < j
                  · obtain ⟨t, rfl⟩ : ∃ t, j = t + 1 := ⟨j - 1, by omega⟩
                    rw [show ((t + 1 : Nat) : Int) - 1 = (t : Int) from by omega]
                    have htk : t ≤ 9 := by omega
                    have hct := HCell.out t (by omega)
                    have hb8t := getD_lt hlt t
                    have HV : Hid _ := val_drop xs 9 t htk (by omega)
                    have hv2 := val_fits (t := t) HF.out
                    rw [HV.out] at hv2
                    generalize val ((xs.take (9 + 1)).drop (t + 1)) = q at *
                    generalize xs.getD t 0 = ct at *
                    clear HCell hck
                    go_wp2
                    go_round
                    case rel => exact ⟨t, by omega, by go_num, by rw [HV.out]; go_num⟩
                    case measure => simp [intOf]
                  · obtain rfl : j = 0 := by omega
                    rw [List.drop_zero]
                    rw [show (((0 : Nat) : Int) - 1) = -1 from by omega]
                    generalize val (xs.take (9 + 1)) = q at *
                    clear HCell hck
                    go_wp2
                    go_ret3
                    exact ⟨by rw [HE.out]; rfl, rfl⟩

          · have hk9b : ((k : Int) == 9) = false := by simp; omega
            have hbig : k = 9 → xs.getD k 0 ≤ 1 := fun h => absurd h hk9'
            clear hk9'
            by_cases hk0 : 0 < k
            · by_cases h0 : xs.getD k 0 = 0
              · have HN : Hid (readN xs = none) := read_zero hlen hk9 hall hk0 h0
                have hc0b : (((xs.getD k 0 : Nat) : Int) == 0) = true := by rw [h0]; rfl
                clear h0 hbig hcell hall hlt
                generalize xs.getD k 0 = c at *
                go_wp2
                go_ret3
                exact ⟨by rw [HN.out]; rfl, rfl⟩
              · have hzer : 0 < k → xs.getD k 0 ≠ 0 := fun _ => h0
                have hc0b : (((xs.getD k 0 : Nat) : Int) == 0) = false := by simpa using h0
                clear h0
                have HE : Hid _ := read_ok hlen hk9 hall hc128 hbig hzer
                have HF : Hid _ := read_ok_fits hlen hk9 hall hc128 hbig hzer
                have hLl : Hid ((xs.take (k + 1)).length = k + 1) := by show _ = _; simp; omega
                clear hall hbig hzer
                generalize xs.getD k 0 = ck at *
                have HCell : Hid _ := hcell
                clear hcell
                go_wp2
                go_loop [6, 7] (fun t i => ∃ j : Nat, j ≤ k + 1 ∧ i = .int .i64 ((j : Int) - 1) ∧ t = .int .u64 (val ((xs.take (k + 1)).drop j) : Nat)) (fun _ i => (intOf i + 1).toNat)
                case atStart => exact ⟨k + 1, by omega, by go_num, by rw [List.drop_eq_nil_of_le (by rw [hLl.out]; exact Nat.le_refl _)]; rfl⟩
                case round =>
                  obtain ⟨j, hj, rfl, rfl⟩ := hrel
                  by_cases hj0 : 0 < j
                  · obtain ⟨t, rfl⟩ : ∃ t, j = t + 1 := ⟨j - 1, by omega⟩
                    rw [show ((t + 1 : Nat) : Int) - 1 = (t : Int) from by omega]
                    have htk : t ≤ k := by omega
                    have hct := HCell.out t (by omega)
                    have hb8t := getD_lt hlt t
                    have HV : Hid _ := val_drop xs k t htk (by omega)
                    have hv2 := val_fits (t := t) HF.out
                    rw [HV.out] at hv2
                    generalize val ((xs.take (k + 1)).drop (t + 1)) = q at *
                    generalize xs.getD t 0 = ct at *
                    clear HCell hck
                    go_wp2
                    go_round
                    case rel => exact ⟨t, by omega, by go_num, by rw [HV.out]; go_num⟩
                    case measure => simp [intOf]
                  · obtain rfl : j = 0 := by omega
                    rw [List.drop_zero]
                    rw [show (((0 : Nat) : Int) - 1) = -1 from by omega]
                    generalize val (xs.take (k + 1)) = q at *
                    clear HCell hck
                    go_wp2
                    go_ret3
                    exact ⟨by rw [HE.out]; rfl, rfl⟩
            · have hzer : 0 < k → xs.getD k 0 ≠ 0 := fun h => absurd h hk0
              have HE : Hid _ := read_ok hlen hk9 hall hc128 hbig hzer
              have HF : Hid _ := read_ok_fits hlen hk9 hall hc128 hbig hzer
              have hLl : Hid ((xs.take (k + 1)).length = k + 1) := by show _ = _; simp; omega
              clear hall hbig hzer
              generalize xs.getD k 0 = ck at *
              have HCell : Hid _ := hcell
              clear hcell
              go_wp2
              go_loop [6, 7] (fun t i => ∃ j : Nat, j ≤ k + 1 ∧ i = .int .i64 ((j : Int) - 1) ∧ t = .int .u64 (val ((xs.take (k + 1)).drop j) : Nat)) (fun _ i => (intOf i + 1).toNat)
              case atStart => exact ⟨k + 1, by omega, by go_num, by rw [List.drop_eq_nil_of_le (by rw [hLl.out]; exact Nat.le_refl _)]; rfl⟩
              case round =>
                obtain ⟨j, hj, rfl, rfl⟩ := hrel
                by_cases hj0 : 0 < j
                · obtain ⟨t, rfl⟩ : ∃ t, j = t + 1 := ⟨j - 1, by omega⟩
                  rw [show ((t + 1 : Nat) : Int) - 1 = (t : Int) from by omega]
                  have htk : t ≤ k := by omega
                  have hct := HCell.out t (by omega)
                  have hb8t := getD_lt hlt t
                  have HV : Hid _ := val_drop xs k t htk (by omega)
                  have hv2 := val_fits (t := t) HF.out
                  rw [HV.out] at hv2
                  generalize val ((xs.take (k + 1)).drop (t + 1)) = q at *
                  generalize xs.getD t 0 = ct at *
                  clear HCell hck
                  go_wp2
                  go_round
                  case rel => exact ⟨t, by omega, by go_num, by rw [HV.out]; go_num⟩
                  case measure => simp [intOf]
                · obtain rfl : j = 0 := by omega
                  rw [List.drop_zero]
                  rw [show (((0 : Nat) : Int) - 1) = -1 from by omega]
                  generalize val (xs.take (k + 1)) = q at *
                  clear HCell hck
                  go_wp2
                  go_ret3
                  exact ⟨by rw [HE.out]; rfl, rfl⟩

      · obtain rfl : k = 10 := by omega
        have HN : Hid (readN xs = none) := read_over (Nat.le_of_lt hlen) HA.out
        clear hcell hb hlt HA
        generalize xs.getD 10 0 = c at *
        go_wp2
        go_ret3
        exact ⟨by rw [HN.out]; rfl, rfl⟩
    · obtain rfl : k = xs.length := by omega
      have HN : Hid (readN xs = none) := by
        show _ = _
        rcases Nat.lt_or_ge xs.length 10 with h | h
        · exact read_end (by omega) HA.out
        · exact read_over h (fun i hi => HA.out i (by omega))
      clear hb hlt HA
      go_wp2
      go_ret3
      exact ⟨by rw [HN.out]; rfl, rfl⟩
end Go.Proofs.YtkecajgdmompcaaDoor
namespace Go.Proofs.YtkecajgdmompcaaDoor
open Go.RowKit Go.WideShapes


theorem refRead_some (p : Option Addr) (len cap : Nat) (xs : List Nat) (w : World) (n k : Nat) (hlen : len = xs.length) (hb : BIn w p xs) (hm : xs.length ≤ maxLen) (hr : readN xs = some (n, k)) :
    Calls Tryd.prog 16 #[.slice p len cap] w fun e w' => e = .returned (.tuple #[.int .u64 n, .int .i64 k, .int .i64 0]) ∧ w' = w := by
  subst hlen
  refine (refRead_any p cap xs w hb hm).mono fun e w' h => ⟨?_, h.2⟩
  rw [h.1, hr]; rfl
theorem refRead_none (p : Option Addr) (len cap : Nat) (xs : List Nat) (w : World) (hlen : len = xs.length) (hb : BIn w p xs) (hm : xs.length ≤ maxLen) (hr : readN xs = none) :
    Calls Tryd.prog 16 #[.slice p len cap] w fun e w' => e = .returned (.tuple #[.int .u64 0, .int .i64 0, .int .i64 8]) ∧ w' = w := by
  subst hlen
  refine (refRead_any p cap xs w hb hm).mono fun e w' h => ⟨?_, h.2⟩
  rw [h.1, hr]; rfl
set_option maxHeartbeats 400000 in
theorem refCut_none (p : Option Addr) (cap : Nat) (xs : List Nat) (w : World) (hb : BIn w p xs) (hm : xs.length ≤ maxLen) (hr : readN xs = none) :
    Calls Tryd.prog 17 #[.slice p xs.length cap] w fun e w' => e = .returned (.tuple #[.string ByteArray.empty, .slice none 0 0, .int .i64 8]) ∧ w' = w := by
  have HR : Hid _ := hr
  clear hr
  go_enter Tryd.func17, Tryd.ntmps17
  go_wp2_with fail
  refine (refRead_none p xs.length cap xs w rfl hb hm HR.out).mono ?_
  rintro e w1 ⟨rfl, rfl⟩
  go_wp2
  go_ret3
  exact ⟨rfl, rfl⟩
set_option maxHeartbeats 400000 in
theorem refCut_long (p : Option Addr) (cap : Nat) (xs : List Nat) (w : World) (hb : BIn w p xs) (hm : xs.length ≤ maxLen) (n k : Nat) (hr : readN xs = some (n, k)) (hl : xs.length < k + n) :
    Calls Tryd.prog 17 #[.slice p xs.length cap] w fun e w' => e = .returned (.tuple #[.string ByteArray.empty, .slice none 0 0, .int .i64 8]) ∧ w' = w := by
  obtain ⟨k1, k2, k3, k4⟩ := readN_some hr
  have hm' := hm
  unfold maxLen at hm'
  have HR : Hid _ := hr
  clear hr
  go_enter Tryd.func17, Tryd.ntmps17
  go_wp2_with fail
  refine (refRead_some p xs.length cap xs w n k rfl hb hm HR.out).mono ?_
  rintro e w1 ⟨rfl, rfl⟩
  clear HR hb
  go_wp2
  go_ret3
  exact ⟨rfl, rfl⟩
set_option maxHeartbeats 400000 in
theorem refCut_ok (p : Option Addr) (cap : Nat) (xs : List Nat) (w : World) (hb : BIn w p xs) (hm : xs.length ≤ 100000) (hcap : xs.length ≤ cap) (n k : Nat) (hr : readN xs = some (n, k)) (hl : k + n ≤ xs.length) :
    Calls Tryd.prog 17 #[.slice p xs.length cap] w fun e w' => ∃ v, e = .returned (.tuple #[.string (strOf ((xs.drop k).take n)), v, .int .i64 0]) ∧ w'.ownsRow w.heap.size 5 1 v (xs.drop (k + n)).length (Bs (xs.drop (k + n))) ∧ Below w.heap.size w w' := by
  obtain ⟨k1, k2, k3, k4⟩ := readN_some hr
  obtain ⟨b, o, rfl, hc⟩ := hb.1 (by omega)
  have HR : Hid _ := hr
  clear hr hc
  have hm' : xs.length ≤ maxLen := by unfold maxLen; omega
  have q1 : (0 : Int) ≤ (k : Int) + n ∧ (k : Int) + n ≤ cap := by omega
  have q2 : ((k : Int) + n).toNat = k + n := by omega
  have q3 : k ≤ k + n := by omega
  have q4 : (k : Int) + n ≤ xs.length := by omega
  have B1 := bin_part hb cap k hcap n
  have B2 := bin_part hb cap (k + n) hcap xs.length
  have e2 : Hid ((xs.drop (k + n)).take xs.length = xs.drop (k + n)) := List.take_of_length_le (by simp)
  rw [e2.out] at B2
  have L1 : Hid (n = ((xs.drop k).take n).length) := by show _ = _; simp; omega
  have L2 : Hid (xs.length - (k + n) = (xs.drop (k + n)).length) := by show _ = _; simp
  obtain ⟨A1, hA1⟩ : ∃ A, (if cap = k then some (⟨b, o, none⟩ : Addr) else some ⟨b, o + k, none⟩) = A := ⟨_, rfl⟩
  obtain ⟨A2, hA2⟩ : ∃ A, (if cap = k + n then some (⟨b, o, none⟩ : Addr) else some ⟨b, o + (k + n), none⟩) = A := ⟨_, rfl⟩
  rw [hA1] at B1
  rw [hA2] at B2
  have HB1 : Hid _ := B1
  have HB2 : Hid _ := B2
  have P2 : Hid (A2 = none → cap - (k + n) = 0) := by show _ → _; intro h; rw [h] at hA2; split at hA2 <;> cases hA2
  have Z2 : Hid (([] : List Nat).length + (xs.drop (k + n)).length ≤ 140737488355328) := by show _ ≤ _; simp; omega
  have HI : Hid (BIn w (some ⟨b, o, none⟩) xs) := hb
  clear B1 B2 hb
  go_enter Tryd.func17, Tryd.ntmps17
  go_wp2_with fail
  refine (refRead_some _ xs.length cap xs w n k rfl HI.out hm' HR.out).mono ?_
  rintro e w1 ⟨rfl, rfl⟩
  clear HR hm'
  go_wp2_with (at_builtin; refine wpList_append_bytes _ rfl _ _ rfl w1.heap.size _ [] (xs.drop (k + n)) A2 _ _ rfl rfl L2.out (World.ownsRow_nil _ _ _ _) HB2.out P2.out Z2.out (Nat.le_refl _) ?_)
  intro v' w2 hown hgrow
  have hbl : Below w1.heap.size w1 w2 := (Below.refl w1.heap.size w1).grown hgrow (Nat.le_refl _) (fun k hk => by simp [Value.ownBlock] at hk)
  have cv1 := conv_at (c := cap - k) (BIn.below HB1.out hbl) L1.out
  have HO : Hid (w2.ownsRow w1.heap.size 5 1 v' (xs.drop (k + n)).length (Bs (xs.drop (k + n)))) := by show World.ownsRow _ _ _ _ _ _ _; simpa using hown
  clear hown hgrow
  go_wp2
  go_ret3
  exact ⟨v', rfl, HO.out, hbl⟩
end Go.Proofs.YtkecajgdmompcaaDoor
namespace Go.Proofs.YtkecajgdmompcaaDoor
open Go.RowKit Go.WideShapes

theorem getD_take {l : List CV} {i k : Nat} (h : i < k) : (l.take k).getD i zeroCV = l.getD i zeroCV := by rw [List.getD_eq_getElem?_getD, List.getElem?_take_of_lt h, List.getD_eq_getElem?_getD]
set_option maxRecDepth 8000 in
set_option maxHeartbeats 4000000 in
theorem changed_any (q : Option Addr) (n c : Nat) (l : List CV) (w : World) (hq : CsIn w q l) (hn0 : n = l.length) (hn64 : n ≤ 64) (hs : ∀ x ∈ l, (x.key.size : Int) ≤ 9223372036854775807 ∧ (x.val.size : Int) ≤ 9223372036854775807) (E : Int) (hE : chgK l l.length = E) :
    Calls Tryd.prog 12 #[.slice q n c] w fun e w' => e = .returned (.int .i64 E) ∧ Below w.heap.size w w' := by
  have HQ : Hid (CsIn w q l) := hq
  have HN : Hid (n = l.length ∧ n ≤ 64) := ⟨hn0, hn64⟩
  have HE : Hid (chgK l n = E) := by show _ = _; rw [hn0]; exact hE
  have hnI : (n : Int) ≤ 64 := by omega
  have HKS : Hid (∀ k, k < l.length → ((l.getD k zeroCV).key.size : Int) ≤ 9223372036854775807 ∧ ((l.getD k zeroCV).val.size : Int) ≤ 9223372036854775807) := by
    intro k hk
    refine hs _ ?_
    rw [List.getD_eq_getElem?_getD, List.getElem?_eq_getElem hk]
    exact List.getElem_mem _
  clear hq hn0 hn64 hs hE
  go_enter Tryd.func12, Tryd.ntmps12
  go_wp2
  go_loopw [3] (fun i wr => ∃ k : Nat, k ≤ n ∧ i = .int .i64 (k : Int) ∧ chgK l k = 0 ∧ Below w.heap.size w wr) (fun i _ => n - (intOf i).toNat)
  case atStart => exact ⟨0, by omega, rfl, rfl, Below.refl _ _⟩
  case round =>
    obtain ⟨k, hk, rfl, hck, hb⟩ := hrel
    have HB : Hid (Below w.heap.size w wr) := hb
    have HCK : Hid (chgK l k = 0) := hck
    clear hck
    by_cases hkn : k < n
    · have hkI : (k : Int) < (n : Int) := by omega
      have k0 : (0 : Int) ≤ (k : Int) := by omega
      have HKN : Hid (k < n) := hkn
      have hkl : k < l.length := by have := HN.out.1; omega
      have hen := HQ.out.below hb
      obtain ⟨fb, fo, rfl⟩ := hen.addr (by omega)
      obtain ⟨z0, z1, z2⟩ := hen.at hkl
      have HEN : Hid (CsIn wr (some ⟨fb, fo, none⟩) l) := hen
      have hsz := HKS.out k hkl
      have HS : Hid (chgK l (k + 1) = oneW (l.take k) (l.getD k zeroCV)) := chgK_step l k HCK.out
      have HER : Hid (∀ X, X ≠ 0 → oneW (l.take k) (l.getD k zeroCV) = X → E = X) := fun X hX h => by
        have := chgK_stays l (k + 1) (by rw [HS.out, h]; exact hX) n (by omega)
        rw [← HE.out, this, HS.out, h]
      have HLT : Hid (∀ j, j < k → (l.take k).getD j zeroCV = l.getD j zeroCV) := fun j hj => getD_take hj
      have HTL : Hid ((l.take k).length = k) := by show _ = _; rw [List.length_take]; omega
      obtain ⟨x, hc⟩ : ∃ x, l.getD k zeroCV = x := ⟨_, rfl⟩
      rw [hc] at z0 z1 z2 hsz HS HER
      have HXC : Hid (l.getD k zeroCV = x) := hc
      obtain ⟨key, val, gone⟩ := x
      simp only at z0 z1 z2 hsz
      obtain ⟨hs1, hs2⟩ := hsz
      clear hen hkn hk hkl hc hb HKS
      by_cases h1 : 1 ≤ key.size ∧ key.size ≤ 256
      · have h1I : (1 : Int) ≤ (key.size : Int) := by omega
        have h1J : (key.size : Int) ≤ 256 := by omega
        by_cases h2 : 4096 < val.size
        · have h2I : (4096 : Int) < (val.size : Int) := by omega
          have HX : Hid (E = 3) := HER.out 3 (by decide) (by unfold oneW; rw [if_neg (by simp only; omega), if_pos h2])
          clear h1 h2
          go_wp2
          go_ret
          exact ⟨by rw [HX.out]; rfl, HB.out⟩
        · have h2I : (val.size : Int) ≤ 4096 := by omega
          have HGO : Hid (gone = true → val.size = 0 → val = ByteArray.empty) := fun _ h => ByteArray.size_eq_zero_iff.1 h
          by_cases h3 : gone = true ∧ val.size ≠ 0
          · have HX : Hid (E = 8) := HER.out 8 (by decide) (by unfold oneW; rw [if_neg (by simp only; omega), if_neg h2, if_pos h3])
            obtain ⟨rfl, h3⟩ := h3
            have hne : (val.toList == []) = false := by
              rw [ByteArray.toList_eq]
              cases hl : val.data.toList with
              | nil => exact absurd (show val.size = 0 by have := congrArg List.length hl; simpa using this) h3
              | cons _ _ => rfl
            clear h1 h2 h3
            go_wp2
            go_ret
            exact ⟨by rw [HX.out]; rfl, HB.out⟩
          · have HW : Hid (oneW (l.take k) ⟨key, val, gone⟩ = if namedC (l.take k) key = true then 8 else 0) := by show _ = _; unfold oneW; rw [if_neg (by simp only; omega), if_neg h2, if_neg h3]
            have HVE : Hid (gone = false ∨ val = ByteArray.empty) := by
              cases gone with
              | false => exact .inl rfl
              | true => exact .inr (HGO.out rfl (Classical.byContradiction fun h => h3 ⟨rfl, h⟩))
            clear h1 h2 h3 HGO
            rcases HVE.out with hg | hv
            · subst hg
              go_wp2
              go_loopw [4] (fun j wj => ∃ i : Nat, i ≤ k ∧ j = .int .i64 (i : Int) ∧ (∀ t, t < i → (l.getD t zeroCV).key ≠ key) ∧ Below w.heap.size w wj) (fun j _ => k - (intOf j).toNat)
              case atStart => exact ⟨0, by omega, rfl, fun t ht => absurd ht (by omega), HB.out⟩
              case round =>
                obtain ⟨i, hi, rfl, hz, hbj⟩ := hrel
                have HZ : Hid (∀ t, t < i → (l.getD t zeroCV).key ≠ key) := hz
                have HBJ : Hid (Below w.heap.size w wr) := hbj
                clear hz
                by_cases hik : i < k
                · have hiI : (i : Int) < (k : Int) := by omega
                  have hiN : (i : Int) < (n : Int) := by omega
                  have i0 : (0 : Int) ≤ (i : Int) := by omega
                  have HIK : Hid (i < k) := hik
                  have hen := HQ.out.below hbj
                  obtain ⟨y0, _, _⟩ := hen.at (k := i) (by have := HN.out.1; have := HKN.out; omega)
                  obtain ⟨x0, _, _⟩ := hen.at (k := k) (by have := HN.out.1; have := HKN.out; omega)
                  rw [HXC.out] at x0
                  simp only at x0
                  obtain ⟨ky, hky⟩ : ∃ ky, (l.getD i zeroCV).key = ky := ⟨_, rfl⟩
                  have HKY : Hid ((l.getD i zeroCV).key = ky) := hky
                  rw [hky] at y0
                  clear hen hbj hi hik hky
                  by_cases heq : ky = key
                  · have HX : Hid (E = 8) := HER.out 8 (by decide) (by rw [HW.out, if_pos (named_hit (k := i) (by rw [HTL.out]; exact HIK.out) (by rw [HLT.out i HIK.out, HKY.out]; exact heq))])
                    subst heq
                    go_wp2
                    go_quiet (fail)
                    go_wp2
                    go_ret
                    exact ⟨by rw [HX.out]; rfl, below_drewN HBJ.out _⟩
                  · have heb : (ky.toList == key.toList) = false := by rw [eq_strF]; simpa using heq
                    have HNE : Hid (ky ≠ key) := heq
                    clear heq
                    go_wp2
                    go_quiet (fail)
                    go_wp2
                    go_roundw
                    case rel => exact ⟨i + 1, HIK.out, by go_num, fun t ht => by
                                  rcases Nat.lt_or_ge t i with h | h
                                  · exact HZ.out t h
                                  · obtain rfl : t = i := by omega
                                    rw [HKY.out]; exact HNE.out, below_drewN HBJ.out _⟩
                    case measure => have := HIK.out; simp [intOf]; omega
                · have hiI : (k : Int) ≤ (i : Int) := by omega
                  have hik2 : i = k := by omega
                  have HNX : Hid (chgK l (k + 1) = 0) := by
                    show _ = _
                    rw [HS.out, HW.out, if_neg]
                    rw [named_miss (fun j hj => by rw [HTL.out] at hj; rw [HLT.out j hj]; exact HZ.out j (by omega))]
                    simp
                  clear hi hik hbj hik2
                  go_wp2
                  go_roundw
                  case rel => exact ⟨k + 1, HKN.out, by go_num, HNX.out, HBJ.out⟩
                  case measure => have := HKN.out; simp [intOf]; omega
            · subst hv
              cases gone with
              | false =>
                go_wp2
                go_loopw [4] (fun j wj => ∃ i : Nat, i ≤ k ∧ j = .int .i64 (i : Int) ∧ (∀ t, t < i → (l.getD t zeroCV).key ≠ key) ∧ Below w.heap.size w wj) (fun j _ => k - (intOf j).toNat)
                case atStart => exact ⟨0, by omega, rfl, fun t ht => absurd ht (by omega), HB.out⟩
                case round =>
                  obtain ⟨i, hi, rfl, hz, hbj⟩ := hrel
                  have HZ : Hid (∀ t, t < i → (l.getD t zeroCV).key ≠ key) := hz
                  have HBJ : Hid (Below w.heap.size w wr) := hbj
                  clear hz
                  by_cases hik : i < k
                  · have hiI : (i : Int) < (k : Int) := by omega
                    have hiN : (i : Int) < (n : Int) := by omega
                    have i0 : (0 : Int) ≤ (i : Int) := by omega
                    have HIK : Hid (i < k) := hik
                    have hen := HQ.out.below hbj
                    obtain ⟨y0, _, _⟩ := hen.at (k := i) (by have := HN.out.1; have := HKN.out; omega)
                    obtain ⟨x0, _, _⟩ := hen.at (k := k) (by have := HN.out.1; have := HKN.out; omega)
                    rw [HXC.out] at x0
                    simp only at x0
                    obtain ⟨ky, hky⟩ : ∃ ky, (l.getD i zeroCV).key = ky := ⟨_, rfl⟩
                    have HKY : Hid ((l.getD i zeroCV).key = ky) := hky
                    rw [hky] at y0
                    clear hen hbj hi hik hky
                    by_cases heq : ky = key
                    · have HX : Hid (E = 8) := HER.out 8 (by decide) (by rw [HW.out, if_pos (named_hit (k := i) (by rw [HTL.out]; exact HIK.out) (by rw [HLT.out i HIK.out, HKY.out]; exact heq))])
                      subst heq
                      go_wp2
                      go_quiet (fail)
                      go_wp2
                      go_ret
                      exact ⟨by rw [HX.out]; rfl, below_drewN HBJ.out _⟩
                    · have heb : (ky.toList == key.toList) = false := by rw [eq_strF]; simpa using heq
                      have HNE : Hid (ky ≠ key) := heq
                      clear heq
                      go_wp2
                      go_quiet (fail)
                      go_wp2
                      go_roundw
                      case rel => exact ⟨i + 1, HIK.out, by go_num, fun t ht => by
                                    rcases Nat.lt_or_ge t i with h | h
                                    · exact HZ.out t h
                                    · obtain rfl : t = i := by omega
                                      rw [HKY.out]; exact HNE.out, below_drewN HBJ.out _⟩
                      case measure => have := HIK.out; simp [intOf]; omega
                  · have hiI : (k : Int) ≤ (i : Int) := by omega
                    have hik2 : i = k := by omega
                    have HNX : Hid (chgK l (k + 1) = 0) := by
                      show _ = _
                      rw [HS.out, HW.out, if_neg]
                      rw [named_miss (fun j hj => by rw [HTL.out] at hj; rw [HLT.out j hj]; exact HZ.out j (by omega))]
                      simp
                    clear hi hik hbj hik2
                    go_wp2
                    go_roundw
                    case rel => exact ⟨k + 1, HKN.out, by go_num, HNX.out, HBJ.out⟩
                    case measure => have := HKN.out; simp [intOf]; omega
              | true =>
                go_wp2
                go_loopw [4] (fun j wj => ∃ i : Nat, i ≤ k ∧ j = .int .i64 (i : Int) ∧ (∀ t, t < i → (l.getD t zeroCV).key ≠ key) ∧ Below w.heap.size w wj) (fun j _ => k - (intOf j).toNat)
                case atStart => exact ⟨0, by omega, rfl, fun t ht => absurd ht (by omega), HB.out⟩
                case round =>
                  obtain ⟨i, hi, rfl, hz, hbj⟩ := hrel
                  have HZ : Hid (∀ t, t < i → (l.getD t zeroCV).key ≠ key) := hz
                  have HBJ : Hid (Below w.heap.size w wr) := hbj
                  clear hz
                  by_cases hik : i < k
                  · have hiI : (i : Int) < (k : Int) := by omega
                    have hiN : (i : Int) < (n : Int) := by omega
                    have i0 : (0 : Int) ≤ (i : Int) := by omega
                    have HIK : Hid (i < k) := hik
                    have hen := HQ.out.below hbj
                    obtain ⟨y0, _, _⟩ := hen.at (k := i) (by have := HN.out.1; have := HKN.out; omega)
                    obtain ⟨x0, _, _⟩ := hen.at (k := k) (by have := HN.out.1; have := HKN.out; omega)
                    rw [HXC.out] at x0
                    simp only at x0
                    obtain ⟨ky, hky⟩ : ∃ ky, (l.getD i zeroCV).key = ky := ⟨_, rfl⟩
                    have HKY : Hid ((l.getD i zeroCV).key = ky) := hky
                    rw [hky] at y0
                    clear hen hbj hi hik hky
                    by_cases heq : ky = key
                    · have HX : Hid (E = 8) := HER.out 8 (by decide) (by rw [HW.out, if_pos (named_hit (k := i) (by rw [HTL.out]; exact HIK.out) (by rw [HLT.out i HIK.out, HKY.out]; exact heq))])
                      subst heq
                      go_wp2
                      go_quiet (fail)
                      go_wp2
                      go_ret
                      exact ⟨by rw [HX.out]; rfl, below_drewN HBJ.out _⟩
                    · have heb : (ky.toList == key.toList) = false := by rw [eq_strF]; simpa using heq
                      have HNE : Hid (ky ≠ key) := heq
                      clear heq
                      go_wp2
                      go_quiet (fail)
                      go_wp2
                      go_roundw
                      case rel => exact ⟨i + 1, HIK.out, by go_num, fun t ht => by
                                    rcases Nat.lt_or_ge t i with h | h
                                    · exact HZ.out t h
                                    · obtain rfl : t = i := by omega
                                      rw [HKY.out]; exact HNE.out, below_drewN HBJ.out _⟩
                      case measure => have := HIK.out; simp [intOf]; omega
                  · have hiI : (k : Int) ≤ (i : Int) := by omega
                    have hik2 : i = k := by omega
                    have HNX : Hid (chgK l (k + 1) = 0) := by
                      show _ = _
                      rw [HS.out, HW.out, if_neg]
                      rw [named_miss (fun j hj => by rw [HTL.out] at hj; rw [HLT.out j hj]; exact HZ.out j (by omega))]
                      simp
                    clear hi hik hbj hik2
                    go_wp2
                    go_roundw
                    case rel => exact ⟨k + 1, HKN.out, by go_num, HNX.out, HBJ.out⟩
                    case measure => have := HKN.out; simp [intOf]; omega
      · have HX : Hid (E = 60) := HER.out 60 (by decide) (by unfold oneW; rw [if_pos (by simp only; omega)])
        by_cases h1a : key.size < 1
        · have h1I : (key.size : Int) < 1 := by omega
          clear h1 h1a
          go_wp2
          go_ret
          exact ⟨by rw [HX.out]; rfl, HB.out⟩
        · have h1I : (1 : Int) ≤ (key.size : Int) := by omega
          have h1J : (256 : Int) < (key.size : Int) := by omega
          clear h1 h1a
          go_wp2
          go_ret
          exact ⟨by rw [HX.out]; rfl, HB.out⟩
    · have hkI : (n : Int) ≤ (k : Int) := by omega
      obtain rfl : k = n := by omega
      have HX : Hid (E = 0) := by show E = 0; rw [← HE.out]; exact HCK.out
      clear hk hkn hb
      go_wp2
      go_ret
      exact ⟨by rw [HX.out]; rfl, HB.out⟩
end Go.Proofs.YtkecajgdmompcaaDoor
namespace Go.Proofs.YtkecajgdmompcaaDoor
open Go.RowKit Go.WideShapes

theorem recB_on (x : CV) : recB x = textN x.key ++ (if x.gone = true then [1] else 0 :: textN x.val) := rfl
set_option maxRecDepth 8000 in
set_option maxHeartbeats 8000000 in
theorem rWrite_any (q : Option Addr) (n c : Nat) (l : List CV) (seq : Int) (w : World) (hq : CsIn w q l) (hn0 : n = l.length) (hnb : (n : Int) ≤ 9223372036854775807) (hs : ∀ x ∈ l, (x.key.size : Int) ≤ 9223372036854775807 ∧ (x.val.size : Int) ≤ 9223372036854775807) (r : Int × List Nat) (hr : writeE l seq = r) :
    Calls Tryd.prog 6 #[.slice q n c, .int .i64 seq] w fun e w' => e = .returned (.tuple #[.string (strOf r.2), .int .i64 r.1]) ∧ Below w.heap.size w w' := by
  have HR : Hid (writeE l seq = r) := hr
  by_cases h1 : seq < 1
  · have HE : Hid (r = (2, [])) := by show r = _; rw [← hr]; unfold writeE; rw [if_pos (.inl h1)]
    clear hq hn0 hr
    go_enter Tryd.func6, Tryd.ntmps6
    go_wp2
    go_ret2
    exact ⟨by rw [HE.out]; rfl, Below.refl _ _⟩
  by_cases h2 : 2147483647 < seq
  · have h1I : 1 ≤ seq := by omega
    have HE : Hid (r = (2, [])) := by show r = _; rw [← hr]; unfold writeE; rw [if_pos (.inr h2)]
    clear hq hn0 hr h1
    go_enter Tryd.func6, Tryd.ntmps6
    go_wp2
    go_ret2
    exact ⟨by rw [HE.out]; rfl, Below.refl _ _⟩
  have h1I : 1 ≤ seq := by omega
  have h2I : seq ≤ 2147483647 := by omega
  by_cases h3 : 64 < n
  · have h3I : (64 : Int) < (n : Int) := by omega
    have HE : Hid (r = (4, [])) := by show r = _; rw [← hr]; unfold writeE; rw [if_neg (by omega), if_pos (by omega)]
    clear hq hn0 hr h1 h2 h3
    go_enter Tryd.func6, Tryd.ntmps6
    go_wp2
    go_ret2
    exact ⟨by rw [HE.out]; rfl, Below.refl _ _⟩
  by_cases h4 : n = 0
  · have HE : Hid (r = (6, [])) := by show r = _; rw [← hr]; unfold writeE; rw [if_neg (by omega), if_neg (by omega), if_pos (by omega)]
    subst h4
    clear hq hn0 hr h1 h2 h3
    go_enter Tryd.func6, Tryd.ntmps6
    go_wp2
    go_ret2
    exact ⟨by rw [HE.out]; rfl, Below.refl _ _⟩
  have h3I : (n : Int) ≤ 64 := by omega
  have h4I : (1 : Int) ≤ (n : Int) := by omega
  have h4b : ((n : Int) == 0) = false := by simp; omega
  have HN : Hid (n = l.length ∧ 1 ≤ n ∧ n ≤ 64) := ⟨hn0, by omega, by omega⟩
  have HQ : Hid (CsIn w q l) := hq
  obtain ⟨E, hE⟩ : ∃ E, chgK l l.length = E := ⟨_, rfl⟩
  have hch := changed_any q n c l w hq hn0 (by omega) hs E hE
  obtain ⟨S, hS⟩ : ∃ S : Nat, seq = (S : Int) := ⟨seq.toNat, by omega⟩
  subst hS
  by_cases hE0 : E = 0
  · subst hE0
    have HRE : Hid (r = if 4096 < (smallN S ++ smallN n ++ recBs l).length then (3, []) else (0, smallN S ++ smallN n ++ recBs l)) := by
      show r = _
      rw [← HR.out]
      unfold writeE
      rw [if_neg (by omega), if_neg (by omega), if_neg (by omega), if_neg (by omega)]
      unfold recN
      rw [← HN.out.1, List.append_assoc, Int.toNat_natCast]
    have HEK : Hid (chgK l l.length = 0) := hE
    have HS1 : Hid (∀ w', Calls Tryd.prog 13 #[.int .u64 (S : Int)] w' fun e w'' => ∃ v, e = .returned v ∧ w''.ownsRow w'.heap.size 5 1 v (smallN S).length (Bs (smallN S)) ∧ Below w'.heap.size w' w'') := fun w' => refSmall_any S w' (by omega)
    have HS2 : Hid (∀ w', Calls Tryd.prog 13 #[.int .u64 (n : Int)] w' fun e w'' => ∃ v, e = .returned v ∧ w''.ownsRow w'.heap.size 5 1 v (smallN n).length (Bs (smallN n)) ∧ Below w'.heap.size w' w'') := fun w' => refSmall_any n w' (by omega)
    have hw1 : IntKind.u64.wrap (S : Int) = (S : Int) := by rw [IntKind.wrap_u64]; omega
    have hw2 : IntKind.u64.wrap (n : Int) = (n : Int) := by rw [IntKind.wrap_u64]; omega
    have HSL : Hid ((smallN S).length ≤ 10 ∧ (smallN n).length ≤ 10) := ⟨smallN_ten S (by omega), smallN_ten n (by omega)⟩
    clear hr hq hn0 hnb hs h1 h2 h3 h4 hE
    go_enter Tryd.func6, Tryd.ntmps6
    go_wp2_with fail
    refine hch.mono ?_
    rintro e w0 ⟨rfl, hb0⟩
    have HB0 : Hid (Below w.heap.size w w0) := hb0
    clear hch hb0
    go_wp2_with fail
    refine (HS1.out _).mono ?_
    rintro e w1 ⟨v1, rfl, ho1, hb1⟩
    have HO1 : Hid (OnB w v1 (smallN S) w1) := ⟨own_mono ho1 HB0.out.size, below_bt HB0.out hb1⟩
    obtain ⟨q1, m1, rfl, _⟩ := own_form ho1
    obtain ⟨l1, hl1⟩ : ∃ m, (smallN S).length = m := ⟨_, rfl⟩
    rw [hl1] at HO1 ⊢
    clear ho1 hb1 hl1 HS1
    go_wp2_with fail
    refine (HS2.out _).mono ?_
    rintro e w2 ⟨v2, rfl, ho2, hb2⟩
    obtain ⟨q2, m2, rfl, _, _, z2⟩ := own_form ho2
    obtain ⟨l2, hl2⟩ : ∃ m, (smallN n).length = m := ⟨_, rfl⟩
    have HO2 : Hid (OnB w (.slice q1 l1 m1) (smallN S) w2 ∧ BIn w2 q2 (smallN n) ∧ (q2 = none → m2 = 0) ∧ l2 = (smallN n).length) := ⟨HO1.out.next hb2, own_in ho2 (smallN_bytes _), z2, hl2.symm⟩
    rw [hl2]
    clear ho2 hb2 z2 hl2 HS2
    obtain ⟨P, hP⟩ : ∃ P, smallN S ++ smallN n = P := ⟨_, rfl⟩
    have HPL : Hid (P.length ≤ 20 ∧ ∀ c ∈ P, c < 256) := ⟨by rw [← hP, List.length_append]; have := HSL.out; omega, by rw [← hP]; intro c hc; rcases List.mem_append.1 hc with h | h <;> exact smallN_bytes _ c h⟩
    have HPP : Hid (smallN S ++ smallN n = P) := hP
    rw [hP] at HRE
    clear hP
    go_wp2_with (at_builtin; (refine wpList_append_bytes _ rfl _ _ rfl w.heap.size (.slice q1 l1 m1) (smallN S) (smallN n) q2 l2 m2 rfl rfl HO2.out.2.2.2 HO2.out.1.own HO2.out.2.1 HO2.out.2.2.1 (by have := HSL.out; omega) HO2.out.1.bel.size ?_); intro v3 w3 ho3 hg3; have HBV : Hid (OnB w v3 (P ++ recBs (l.take 0)) w3) := (by rw [show P ++ recBs (l.take 0) = smallN S ++ smallN n by rw [HPP.out]; simp [recBs]]; exact HO2.out.1.app ho3 hg3); clear ho3 hg3)
    go_loopw [7, 8] (fun v i wr => ∃ k : Nat, k ≤ n ∧ i = .int .i64 (k : Int) ∧ OnB w v (P ++ recBs (l.take k)) wr) (fun _ i _ => n - (intOf i).toNat)
    case atStart => exact ⟨0, by omega, rfl, HBV.out⟩
    case round =>
      obtain ⟨k, hk, rfl, hon⟩ := hrel
      obtain ⟨X, hX⟩ : ∃ X, P ++ recBs (l.take k) = X := ⟨_, rfl⟩
      have HX : Hid (P ++ recBs (l.take k) = X) := hX
      rw [hX] at hon
      obtain ⟨vq, vm, rfl, _⟩ := own_form hon.own
      obtain ⟨XL, hXL⟩ : ∃ m, X.length = m := ⟨_, rfl⟩
      have HXLN : Hid (X.length = XL) := hXL
      rw [hXL] at hon
      have HON : Hid (OnB w (.slice vq XL vm) X wr) := hon
      rw [hXL]
      clear HBV hX hXL
      by_cases hkn : k < n
      · have hkI : (k : Int) < (n : Int) := by omega
        have k0 : (0 : Int) ≤ (k : Int) := by omega
        have HKN : Hid (k < n) := hkn
        have hkl : k < l.length := by have := HN.out.1; omega
        have hen := HQ.out.below hon.bel
        obtain ⟨fb, fo, rfl⟩ := hen.addr (by omega)
        obtain ⟨z0, z1, z2⟩ := hen.at hkl
        have HCE : Hid (∀ w', Below w.heap.size w w' → CsIn w' (some ⟨fb, fo, none⟩) l) := fun w' hb => HQ.out.below hb
        have hone := chgK_all HEK.out (k + 1) hkl
        rw [chgK_step l k (chgK_all HEK.out k (by omega))] at hone
        have HNX : Hid (recBs (l.take (k + 1)) = recBs (l.take k) ++ recB (l.getD k zeroCV) ∧ (l.getD k zeroCV).key.size ≤ 256 ∧ (l.getD k zeroCV).val.size ≤ 4096) := ⟨recBs_take l hkl, (oneW_zero hone).2.1, (oneW_zero hone).2.2.1⟩
        have HXB : Hid (X.length ≤ 1000000) := by
          show _ ≤ _
          rw [← HX.out, List.length_append]
          have h1 := recBs_len (l := l) k (by omega) (chgK_all HEK.out k (by omega))
          have h2 := HPL.out.1
          have h3 := HN.out
          omega
        have HKL : Hid (k < l.length) := hkl
        obtain ⟨x, hc⟩ : ∃ x, l.getD k zeroCV = x := ⟨_, rfl⟩
        have HXC : Hid (l.getD k zeroCV = x) := hc
        rw [hc] at z0 z1 z2 HNX
        obtain ⟨key, val, gone⟩ := x
        simp only at z0 z1 z2 HNX
        have HT := refText_any key wr (by have := HNX.out.2.1; omega)
        obtain ⟨T, hT⟩ : ∃ T, textN key = T := ⟨_, rfl⟩
        have HTL : Hid (T.length ≤ 5000 ∧ ∀ c ∈ T, c < 256) := ⟨by rw [← hT]; have := textN_len key (by have := HNX.out.2.1; omega); omega, by rw [← hT]; exact textN_bytes key⟩
        have HTT : Hid (textN key = T) := hT
        rw [hT] at HT
        clear hen hkn hk hkl hc hon hone hT
        go_wp2_with fail
        refine HT.mono ?_
        rintro e w4 ⟨tv, rfl, hto, hb4⟩
        obtain ⟨tq, tm, rfl, _, _, htn⟩ := own_form hto
        obtain ⟨tl, htl⟩ : ∃ n, T.length = n := ⟨_, rfl⟩
        have H4 : Hid (OnB w (.slice vq XL vm) X w4 ∧ BIn w4 tq T ∧ (tq = none → tm = 0) ∧ tl = T.length) := ⟨HON.out.next hb4, own_in hto HTL.out.2, htn, htl.symm⟩
        rw [htl]
        clear HT hto hb4 htn htl z0 z1 z2
        cases gone with
        | true =>
          go_wp2_with (first
            | (at_builtin; have q := H5.out; clear q; (refine wpList_append_bytes _ rfl _ _ rfl w.heap.size v5 (X ++ T) [1] (some ⟨w5.heap.size, 0, none⟩) 1 1 rfl rfl rfl (H5.out.next (below_alloc _ _)).own (one_byte w5 1 (by decide) _ rfl) (by simp) (by have := HXB.out; have := HTL.out; simp only [List.length_append, List.length_cons, List.length_nil]; omega) (H5.out.next (below_alloc _ _)).bel.size ?_); intro v6 w6 ho6 hg6; have H6 : Hid (OnB w v6 (X ++ T ++ [1]) w6) := (H5.out.next (below_alloc _ _)).app ho6 hg6; clear ho6 hg6)
            | (at_builtin; (refine wpList_append_bytes _ rfl _ _ rfl w.heap.size (.slice vq XL vm) X T tq tl tm rfl rfl H4.out.2.2.2 H4.out.1.own H4.out.2.1 H4.out.2.2.1 (by have := HXB.out; have := HTL.out; omega) H4.out.1.bel.size ?_); intro v5 w5 ho5 hg5; have H5 : Hid (OnB w v5 (X ++ T) w5) := H4.out.1.app ho5 hg5; obtain ⟨y0, y1, y2⟩ := (HCE.out w5 H5.out.bel).at HKL.out; rw [HXC.out] at y0 y1 y2; simp only at y0 y1 y2; clear ho5 hg5))
          go_roundw
          case rel => exact ⟨k + 1, HKN.out, by go_num, by rw [HNX.out.1, ← List.append_assoc, HX.out, recB_on]; simp only [if_true]; rw [HTT.out, ← List.append_assoc]; exact H6.out⟩
          case measure => have := HKN.out; simp [intOf]; omega
        | false =>
          have HTV : Hid (∀ w', Calls Tryd.prog 14 #[.string val] w' fun e w'' => ∃ v, e = .returned v ∧ w''.ownsRow w'.heap.size 5 1 v (textN val).length (Bs (textN val)) ∧ Below w'.heap.size w' w'') := fun w' => refText_any val w' (by have := HNX.out.2.2; omega)
          have HVL : Hid ((textN val).length ≤ 5000) := by have := textN_len val HNX.out.2.2; show _ ≤ _; omega
          go_wp2_with (first
            | (at_builtin; have q := H5.out; clear q; (refine wpList_append_bytes _ rfl _ _ rfl w.heap.size v5 (X ++ T) [0] (some ⟨w5.heap.size, 0, none⟩) 1 1 rfl rfl rfl (H5.out.next (below_alloc _ _)).own (one_byte w5 0 (by decide) _ rfl) (by simp) (by have := HXB.out; have := HTL.out; simp only [List.length_append, List.length_cons, List.length_nil]; omega) (H5.out.next (below_alloc _ _)).bel.size ?_); intro v6 w6 ho6 hg6; have H6 : Hid (OnB w v6 (X ++ T ++ [0]) w6) := (H5.out.next (below_alloc _ _)).app ho6 hg6; obtain ⟨x0, x1, x2⟩ := (HCE.out w6 H6.out.bel).at HKL.out; rw [HXC.out] at x0 x1 x2; simp only at x0 x1 x2; clear ho6 hg6)
            | (at_builtin; (refine wpList_append_bytes _ rfl _ _ rfl w.heap.size (.slice vq XL vm) X T tq tl tm rfl rfl H4.out.2.2.2 H4.out.1.own H4.out.2.1 H4.out.2.2.1 (by have := HXB.out; have := HTL.out; omega) H4.out.1.bel.size ?_); intro v5 w5 ho5 hg5; have H5 : Hid (OnB w v5 (X ++ T) w5) := H4.out.1.app ho5 hg5; obtain ⟨y0, y1, y2⟩ := (HCE.out w5 H5.out.bel).at HKL.out; rw [HXC.out] at y0 y1 y2; simp only at y0 y1 y2; clear ho5 hg5))
          refine (HTV.out _).mono ?_
          rintro e w7 ⟨uv, rfl, huo, hb7⟩
          obtain ⟨uq, um, rfl, _, _, hun⟩ := own_form huo
          obtain ⟨ul, hul⟩ : ∃ n, (textN val).length = n := ⟨_, rfl⟩
          have H7 : Hid (OnB w v6 (X ++ T ++ [0]) w7 ∧ BIn w7 uq (textN val) ∧ (uq = none → um = 0) ∧ ul = (textN val).length) := ⟨H6.out.next hb7, own_in huo (textN_bytes val), hun, hul.symm⟩
          rw [hul]
          clear huo hb7 hun hul
          go_wp2_with (at_builtin; (refine wpList_append_bytes _ rfl _ _ rfl w.heap.size v6 (X ++ T ++ [0]) (textN val) uq ul um rfl rfl H7.out.2.2.2 H7.out.1.own H7.out.2.1 H7.out.2.2.1 (by have := HXB.out; have := HTL.out; have := HVL.out; simp only [List.length_append, List.length_cons, List.length_nil]; omega) H7.out.1.bel.size ?_); intro v8 w8 ho8 hg8; have H8 : Hid (OnB w v8 (X ++ T ++ [0] ++ textN val) w8) := H7.out.1.app ho8 hg8; clear ho8 hg8)
          go_roundw
          case rel =>
            refine ⟨k + 1, HKN.out, by go_num, ?_⟩
            have e2 : P ++ recBs (l.take (k + 1)) = X ++ T ++ [0] ++ textN val := by
              rw [HNX.out.1, ← List.append_assoc, HX.out, recB_on]
              simp only [Bool.false_eq_true, if_false]
              rw [HTT.out]
              simp
            rw [e2]
            exact H8.out
          case measure => have := HKN.out; simp [intOf]; omega
      · have hkI : (n : Int) ≤ (k : Int) := by omega
        obtain rfl : k = n := by omega
        have HXX : Hid (P ++ recBs l = X) := by
          show _ = _
          rw [← HX.out, HN.out.1, List.take_length]
        have HRR : Hid (r = if 4096 < XL then (3, []) else (0, X)) := by
          show _ = _
          rw [HRE.out, HXX.out, HXLN.out]
        have HXB : Hid (∀ c ∈ X, c < 256) := by
          intro c hc
          rw [← HXX.out] at hc
          rcases List.mem_append.1 hc with h | h
          · exact HPL.out.2 c h
          · exact recBs_bytes l c h
        have hcv : (convert 43 9 (.slice vq XL vm)).run Tryd.prog wr = .ok (.string (strOf X)) wr := conv_at (own_in hon.own HXB.out) HXLN.out.symm
        clear hkn hk hon
        by_cases hlong : 4096 < XL
        · have hlI : (4096 : Int) < (XL : Int) := by omega
          have HE : Hid (r = (3, [])) := HRR.out.trans (if_pos hlong)
          clear hlong hcv
          go_wp2
          go_ret2
          exact ⟨by rw [HE.out]; rfl, HON.out.bel⟩
        · have hlI : (XL : Int) ≤ 4096 := by omega
          have HE : Hid (r = (0, X)) := HRR.out.trans (if_neg hlong)
          clear hlong
          go_wp2
          go_ret2
          exact ⟨by rw [HE.out]; rfl, HON.out.bel⟩
  · have HE : Hid (r = (E, [])) := by
      show r = _
      rw [← HR.out]
      unfold writeE
      rw [if_neg (by omega), if_neg (by omega), if_neg (by omega), if_pos (by rw [hE]; exact hE0), hE]
    have hEb : (E == 0) = false := by simpa using hE0
    clear hr hq hn0 hnb hs h1 h2 h3 h4 hE hE0
    go_enter Tryd.func6, Tryd.ntmps6
    go_wp2_with (go_at_call 12; refine hch.mono ?_; rintro e w0 ⟨rfl, hb0⟩)
    go_ret2
    exact ⟨by rw [HE.out]; rfl, hb0⟩
end Go.Proofs.YtkecajgdmompcaaDoor
namespace Go.Proofs.YtkecajgdmompcaaDoor
open Go.RowKit Go.WideShapes

theorem cutR_none (v : Value) (xs : List Nat) (w : World) (hv : Row w v xs) (hl : xs.length ≤ 100000) (h : cutT xs = none) :
    Calls Tryd.prog 17 #[v] w fun e w' => e = .returned (.tuple #[.string ⟨#[]⟩, .slice none 0 0, .int .i64 8]) ∧ w' = w := by
  obtain ⟨p, c, rfl, hb, hc, hm, hp⟩ := hv.lies
  unfold cutT at h
  split at h
  · rename_i n k hr
    split at h
    · cases h
    · exact refCut_long p c xs w hb (by unfold maxLen; omega) n k hr (by omega)
  · rename_i hr
    exact refCut_none p c xs w hb (by unfold maxLen; omega) hr
theorem cutR_some (v : Value) (xs : List Nat) (w : World) (hv : Row w v xs) (hl : xs.length ≤ 100000) (s : ByteArray) (rest : List Nat) (h : cutT xs = some (s, rest)) :
    Calls Tryd.prog 17 #[v] w fun e w' => ∃ v', e = .returned (.tuple #[.string s, v', .int .i64 0]) ∧ Row w' v' rest ∧ Below w.heap.size w w' ∧ Fresh w v' := by
  obtain ⟨p, c, rfl, hb, hc, hm, hp⟩ := hv.lies
  unfold cutT at h
  split at h
  · rename_i n k hr
    split at h
    · simp only [Option.some.injEq, Prod.mk.injEq] at h
      obtain ⟨rfl, rfl⟩ := h
      refine (refCut_ok p c xs w hb hl hc n k hr (by omega)).mono ?_
      rintro e w' ⟨v', rfl, ho, hbl⟩
      exact ⟨v', rfl, own_row ho (fun c hc => hb.2 c (List.mem_of_mem_drop hc)), hbl, own_fresh ho⟩
    · cases h
  · cases h
theorem chs_none {k M : Nat} {zs us : List Nat} {lk : List CV} (h : cutChs gD k zs = some (lk, us)) (h2 : cutCh gD us = none) (hk : k < M) : cutChs gD M zs = none := by
  refine cutChs_none (k := k + 1) ?_ M hk
  rw [cutChs, h]
  simp only
  rw [h2]
theorem chs_some {k : Nat} {zs us rest : List Nat} {lk : List CV} {c : CV} (h : cutChs gD k zs = some (lk, us)) (h2 : cutCh gD us = some (c, rest)) : cutChs gD (k + 1) zs = some (lk ++ [c], rest) := by
  rw [cutChs, h]
  simp only
  rw [h2]
theorem num_parts {xs ys : List Nat} {lim n : Nat} (h : cutNum xs lim = some (n, ys)) : ∃ k, readN xs = some (n, k) ∧ n ≤ lim ∧ ys = xs.drop k := by
  unfold cutNum at h
  split at h
  · split at h
    · rename_i n' k hr hle
      simp only [Option.some.injEq, Prod.mk.injEq] at h
      obtain ⟨rfl, rfl⟩ := h
      exact ⟨k, hr, hle, rfl⟩
    · cases h
  · cases h
theorem num_none {xs : List Nat} {lim : Nat} (h : cutNum xs lim = none) : readN xs = none ∨ ∃ n k, readN xs = some (n, k) ∧ lim < n := by
  unfold cutNum at h
  split at h
  · rename_i n k hr
    split at h
    · cases h
    · exact .inr ⟨n, k, hr, by omega⟩
  · rename_i hr
    exact .inl hr
/-- A slice cut from k on, in one word. -/
theorem row_from {w : World} {p : Option Addr} {n c k : Nat} {xs : List Nat} (h : Row w (.slice p n c) xs) (hn : n = xs.length) (hk : k ≤ xs.length) : ∃ p' n' c', (∀ w', (Instr.slice 43 (.slice p n c) (some (.int .i64 (k : Int))) none none).run Tryd.prog w' = .ok (.slice p' n' c') w') ∧ Row w (.slice p' n' c') (xs.drop k) ∧ (∀ a', p' = some a' → ∃ a, p = some a ∧ a'.block = a.block) := by
  obtain ⟨p0, c0, e, hb, hc, hm, hp⟩ := h.lies
  simp only [Value.slice.injEq] at e
  obtain ⟨rfl, rfl, rfl⟩ := e
  obtain ⟨p', hsl, hbn, hp', hpb⟩ := cut_from p xs.length c k xs rfl hc hk hp
  exact ⟨p', _, _, hsl, ⟨⟨p', c - k, by rw [List.length_drop], hbn w hb, by rw [List.length_drop]; omega, by omega, hp'⟩⟩, hpb⟩
set_option maxRecDepth 8000 in
set_option maxHeartbeats 8000000 in
theorem rRead_t (s : ByteArray) (w : World) (hs : s.size ≤ 100000) (o : Option (List CV × Nat)) (ho : readE gD (numsOf s) = o) :
    Calls Tryd.prog 8 #[.string s] w fun e w' => RdN w o e w' := by
  obtain ⟨W, cap, hrun, hbW, hcr, hcm⟩ := conv_row s w hs
  have HRW : Hid (Row W (.slice (some ⟨w.heap.size, 0, none⟩) s.size cap) (numsOf s)) := ⟨⟨_, cap, by rw [numsOf_len], hcr.bin, by rw [numsOf_len]; exact hcr.le, hcm, fun h => by cases h⟩⟩
  have HBW : Hid (Below w.heap.size w W) := hbW
  have HO : Hid (readE gD (numsOf s) = o ∧ (numsOf s).length = s.size ∧ s.size ≤ 100000) := ⟨ho, numsOf_len s, hs⟩
  have hssz : (s.size : Int) ≤ 100000 := by omega
  clear hcr hcm ho hbW
  cases h1 : cutNum (numsOf s) 2147483647 with
  | none =>
    have HN : Hid (o = none) := by show o = none; rw [← HO.out.1]; exact readE_no (rec_none1 h1)
    rcases num_none h1 with hr | ⟨n, k, hr, hn⟩
    · have hc := refRead_none (some ⟨w.heap.size, 0, none⟩) s.size cap (numsOf s) W HO.out.2.1.symm (by obtain ⟨_, _, e, h, _⟩ := HRW.out.lies; simp only [Value.slice.injEq] at e; obtain ⟨rfl, _, rfl⟩ := e; exact h) (by unfold maxLen; have := HO.out.2; omega) hr
      clear h1 hr
      go_enter Tryd.func8, Tryd.ntmps8
      go_wp2_with (go_at_call 16; refine hc.mono ?_; rintro e w1 ⟨rfl, rfl⟩)
      go_ret3
      exact ⟨⟨_, by rw [HN.out]; rfl, by rw [HN.out]; exact cown_nil _ _, HBW.out⟩⟩
    · have hc := refRead_some (some ⟨w.heap.size, 0, none⟩) s.size cap (numsOf s) W n k HO.out.2.1.symm (by obtain ⟨_, _, e, h, _⟩ := HRW.out.lies; simp only [Value.slice.injEq] at e; obtain ⟨rfl, _, rfl⟩ := e; exact h) (by unfold maxLen; have := HO.out.2; omega) hr
      have hnI : (2147483647 : Int) < (n : Int) := by omega
      clear h1 hr hn
      go_enter Tryd.func8, Tryd.ntmps8
      go_wp2_with (go_at_call 16; refine hc.mono ?_; rintro e w1 ⟨rfl, rfl⟩)
      go_ret3
      exact ⟨⟨_, by rw [HN.out]; rfl, by rw [HN.out]; exact cown_nil _ _, HBW.out⟩⟩
  | some sy =>
    obtain ⟨S, ys⟩ := sy
    obtain ⟨k1, hr1, hS, hys⟩ := num_parts h1
    have hrs := readN_some hr1
    have hc1 := refRead_some (some ⟨w.heap.size, 0, none⟩) s.size cap (numsOf s) W S k1 HO.out.2.1.symm (by obtain ⟨_, _, e, h, _⟩ := HRW.out.lies; simp only [Value.slice.injEq] at e; obtain ⟨rfl, _, rfl⟩ := e; exact h) (by unfold maxLen; have := HO.out.2; omega) hr1
    obtain ⟨p1, n1, c1, hsl1, hrow1, _⟩ := row_from HRW.out HO.out.2.1.symm (k := k1) hrs.2.1
    rw [← hys] at hrow1
    have hSI : (S : Int) ≤ 2147483647 := by omega
    have H1 : Hid (cutNum (numsOf s) 2147483647 = some (S, ys) ∧ ys.length ≤ 100000 ∧ S ≤ 2147483647) := ⟨h1, by have := cutNum_le h1; have := HO.out.2; omega, hS⟩
    have HR1 : Hid (Row W (.slice p1 n1 c1) ys) := hrow1
    have hn1 : n1 = ys.length := by obtain ⟨_, _, e, _⟩ := hrow1.lies; simp only [Value.slice.injEq] at e; exact e.2.1
    have hbin1 : BIn W p1 ys := by obtain ⟨_, _, e, h, _⟩ := hrow1.lies; simp only [Value.slice.injEq] at e; obtain ⟨rfl, _, rfl⟩ := e; exact h
    have hk1I : (k1 : Int) ≤ (s.size : Int) := by have := HO.out.2; omega
    have hwS : IntKind.i64.wrap (S : Int) = (S : Int) := by rw [IntKind.wrap_i64]; omega
    clear h1 hr1 hS hys hrow1
    cases h2 : cutNum ys 64 with
    | none =>
      have HN : Hid (o = none) := by show o = none; rw [← HO.out.1]; exact readE_no (rec_none2 H1.out.1 h2)
      rcases num_none h2 with hr | ⟨n, k, hr, hn⟩
      · have hc := refRead_none p1 n1 c1 ys W hn1 hbin1 (by unfold maxLen; have := H1.out.2; omega) hr
        clear h2 hr hbin1 hn1 hrs
        go_enter Tryd.func8, Tryd.ntmps8
        go_wp2_with fail
        refine hc1.mono ?_
        rintro e w1 ⟨rfl, rfl⟩
        go_wp2_with fail
        refine hc.mono ?_
        rintro e w2 ⟨rfl, rfl⟩
        go_wp2
        go_ret3
        exact ⟨⟨_, by rw [HN.out]; rfl, by rw [HN.out]; exact cown_nil _ _, HBW.out⟩⟩
      · have hc := refRead_some p1 n1 c1 ys W n k hn1 hbin1 (by unfold maxLen; have := H1.out.2; omega) hr
        have hnI : (64 : Int) < (n : Int) := by omega
        clear h2 hr hbin1 hn1 hrs hn
        go_enter Tryd.func8, Tryd.ntmps8
        go_wp2_with fail
        refine hc1.mono ?_
        rintro e w1 ⟨rfl, rfl⟩
        go_wp2_with fail
        refine hc.mono ?_
        rintro e w2 ⟨rfl, rfl⟩
        go_wp2
        go_ret3
        exact ⟨⟨_, by rw [HN.out]; rfl, by rw [HN.out]; exact cown_nil _ _, HBW.out⟩⟩
    | some nz =>
      obtain ⟨M, zs⟩ := nz
      obtain ⟨k2, hr2, hM, hzs⟩ := num_parts h2
      have hrs2 := readN_some hr2
      have hc2 := refRead_some p1 n1 c1 ys W M k2 hn1 hbin1 (by unfold maxLen; have := H1.out.2; omega) hr2
      obtain ⟨p2, n2, c2, hsl2, hrow2, _⟩ := row_from HR1.out hn1 (k := k2) hrs2.2.1
      rw [← hzs] at hrow2
      have H2 : Hid (cutNum ys 64 = some (M, zs) ∧ zs.length ≤ 100000 ∧ M ≤ 64) := ⟨h2, by have := cutNum_le h2; have := H1.out.2; omega, hM⟩
      have hMI : (M : Int) ≤ 64 := by omega
      have hwM : IntKind.i64.wrap (M : Int) = (M : Int) := by rw [IntKind.wrap_i64]; omega
      have hk2I : (k2 : Int) ≤ (n1 : Int) := by omega
      have HR2 : Hid (Row W (.slice p2 n2 c2) zs) := hrow2
      clear h2 hr2 hM hzs hrow2 hbin1 hn1 hrs hrs2 HR1
      go_enter Tryd.func8, Tryd.ntmps8
      go_wp2_with fail
      refine hc1.mono ?_
      rintro e w1 ⟨rfl, rfl⟩
      clear hc1
      go_wp2_with fail
      refine hc2.mono ?_
      rintro e w2 ⟨rfl, rfl⟩
      clear hc2 hrun
      go_wp2
      go_loopw [5, 10, 11] (fun b lv i wr => ∃ (k : Nat) (lk : List CV) (us : List Nat), k ≤ M ∧ i = .int .i64 (k : Int) ∧ cutChs gD k zs = some (lk, us) ∧ Row wr b us ∧ OnC w lv lk wr) (fun _ _ i _ => M - (intOf i).toNat)
      case atStart => exact ⟨0, [], zs, by omega, rfl, rfl, HR2.out, cown_nil _ _, HBW.out⟩
      case round =>
        obtain ⟨k, lk, us, hk, rfl, hcs, hrow, hon⟩ := hrel
        obtain ⟨bq, bm, rfl, _⟩ := hrow.lies
        obtain ⟨lq, lm, rfl, hlm, _⟩ := own_form hon.own
        have HCS : Hid (cutChs gD k zs = some (lk, us)) := hcs
        have hul := cutChs_len hcs
        have HUL : Hid (us.length ≤ 100000 ∧ lk.length = k ∧ k ≤ 64) := ⟨by have := H2.out.2; omega, hul.1, by have := H2.out.2; omega⟩
        obtain ⟨ul, hul2⟩ : ∃ m, us.length = m := ⟨_, rfl⟩
        obtain ⟨ll, hll2⟩ : ∃ m, lk.length = m := ⟨_, rfl⟩
        have HON : Hid (OnC w (.slice lq ll lm) lk wr ∧ ll ≤ lm ∧ lk.length = ll) := by rw [hll2] at hon hlm; exact ⟨hon, hlm, hll2⟩
        have HRW : Hid (Row wr (.slice bq ul bm) us) := by rw [hul2] at hrow; exact hrow
        rw [hul2, hll2]
        clear HR2 hcs hul hul2 hll2 hrow hon hlm
        by_cases hkn : k < M
        · have hkI : (k : Int) < (M : Int) := by omega
          have k0 : (0 : Int) ≤ (k : Int) := by omega
          have HKN : Hid (k < M) := hkn
          have HAPP : Hid (∀ v', Fresh wr v' → ∀ a n m, v' = .slice (some a) n m → (Value.slice lq ll lm).ownBlock ≠ some a.block) := by
            intro v' hf a n m e e2
            have h := (World.ownsRow.lt HON.out.1.own _ e2).2
            have h2 := hf a n m e
            omega
          clear hk hkn
          cases h3 : cutT us with
          | none =>
            have hc := cutR_none _ us wr HRW.out HUL.out.1 h3
            have HN : Hid (o = none) := by show o = none; rw [← HO.out.1]; exact readE_no (rec_none3 H1.out.1 H2.out.1 (chs_none HCS.out (cut_first h3) HKN.out))
            clear h3
            go_wp2_with (go_at_call 17; refine hc.mono ?_; rintro e w3 ⟨rfl, rfl⟩)
            go_ret3
            exact ⟨⟨_, by rw [HN.out]; rfl, by rw [HN.out]; exact cown_nil _ _, HON.out.1.bel⟩⟩
          | some sr =>
            obtain ⟨key, rest⟩ := sr
            have hc := cutR_some _ us wr HRW.out HUL.out.1 key rest h3
            have hrl := cutT_len h3
            cases rest with
            | nil =>
              have HN : Hid (o = none) := by show o = none; rw [← HO.out.1]; exact readE_no (rec_none3 H1.out.1 H2.out.1 (chs_none HCS.out (cut_empty h3) HKN.out))
              clear h3 hrl
              go_wp2_with fail
              refine hc.mono ?_
              rintro e w3 ⟨v3, rfl, hrow3, hb3, hfr3⟩
              obtain ⟨q3, m3, rfl, _⟩ := hrow3.lies
              have HB3 : Hid (Below w.heap.size w w3) := below_bt HON.out.1.bel hb3
              simp only [List.length_nil]
              clear hc hrow3 hb3 hfr3
              go_wp2
              go_ret3
              exact ⟨⟨_, by rw [HN.out]; rfl, by rw [HN.out]; exact cown_nil _ _, HB3.out⟩⟩
            | cons c rest =>
              have H3 : Hid (cutT us = some (key, c :: rest) ∧ rest.length ≤ 100000) := ⟨h3, by have := HUL.out.1; simp at hrl; omega⟩
              clear h3 hrl
              go_wp2_with fail
              refine hc.mono ?_
              rintro e w3 ⟨v3, rfl, hrow3, hb3, hfr3⟩
              obtain ⟨q3, m3, rfl, hbin, hle, hmx, hqn⟩ := hrow3.lies
              obtain ⟨b, off, rfl, hcell⟩ := hbin.1 (by simp)
              have hby : c < 256 := hbin.2 c (by simp)
              have z0 : w3.cell? ⟨b, off, none⟩ = some (.int .u8 (c : Int)) := by have := hcell 0 (by simp); simpa using this
              obtain ⟨L1, hL1⟩ : ∃ m, (c :: rest).length = m := ⟨_, rfl⟩
              rw [hL1] at hrow3 ⊢
              obtain ⟨p', RL, cl, hsl, hrow', hpb⟩ := row_from hrow3 hL1.symm (k := 1) (by simp)
              have hsl1 : ∀ w', (Instr.slice 43 (.slice (some ⟨b, off, none⟩) L1 m3) (some (.int .i64 1)) none none).run Tryd.prog w' = .ok (.slice p' RL cl) w' := fun w' => hsl w'
              have HW : Hid (Row w3 (.slice p' RL cl) rest) := by have h := hrow'; rw [List.drop_succ_cons, List.drop_zero] at h; exact h
              have HF3 : Hid (Fresh wr (.slice p' RL cl)) := by
                intro a n m e
                simp only [Value.slice.injEq] at e
                obtain ⟨a0, e0, e1⟩ := hpb a e.1
                have h := hfr3 a0 _ _ (by rw [← e0])
                rw [e1]
                exact h
              have HO3 : Hid (OnC w (.slice lq ll lm) lk w3) := HON.out.1.next hb3
              have HB3 : Hid (wr.heap.size ≤ w3.heap.size) := hb3.size
              have hLI : (1 : Int) ≤ (L1 : Int) := by simp at hL1; omega
              have hLe : ((L1 : Int) == 0) = false := by simp; omega
              have hLm : (L1 : Int) ≤ (m3 : Int) := by rw [hL1] at hle; omega
              clear hc hrow3 hb3 hfr3 hbin hle hmx hqn hcell hL1 hsl hrow' hpb
              have HNR : Hid (∀ g, (g = true → cutCh gD us = some (⟨key, ByteArray.empty, true⟩, rest) ∨ True)) := fun _ _ => .inr trivial
              clear HNR
              by_cases hg : c = 1
              · subst hg
                have HNX : Hid (cutChs gD (k + 1) zs = some (lk ++ [⟨key, ⟨#[]⟩, true⟩], rest)) := chs_some HCS.out (cut_gone H3.out.1 rfl)
                have HO4 : Hid (OnC w (.slice lq ll lm) lk ((w3.alloc (.cells #[.string key, .string ⟨#[]⟩, .bool true] 36)).alloc (.cells #[.string key, .string ⟨#[]⟩, .bool true] 36))) := (HO3.out.next (below_alloc _ _)).next (below_alloc _ _)
                have HR4 : Hid (Row ((w3.alloc (.cells #[.string key, .string ⟨#[]⟩, .bool true] 36)).alloc (.cells #[.string key, .string ⟨#[]⟩, .bool true] 36)) (.slice p' RL cl) rest) := (HW.out.below (below_alloc _ _)).below (below_alloc _ _)
                have HC4 : Hid _ := new3 (w3.alloc (.cells #[.string key, .string ⟨#[]⟩, .bool true] 36)) (.string key) (.string ⟨#[]⟩) (.bool true) 36 (w3.heap.size + 1) (by simp)
                have HAP : Hid _ := HAPP.out _ HF3.out
                go_wp2_with (at_builtin; (refine wpList_append_change _ rfl _ _ rfl w.heap.size (.slice lq ll lm) lk ⟨key, ⟨#[]⟩, true⟩ ⟨w3.heap.size + 1, 0, none⟩ 1 rfl rfl HO4.out.own HC4.out.1 HC4.out.2.1 HC4.out.2.2 (by have := HUL.out; omega) HO4.out.bel.size ?_); intro v5 w5 ho5 hg5; have H5 : Hid (OnC w v5 (lk ++ [⟨key, ⟨#[]⟩, true⟩]) w5) := HO4.out.app hg5 ho5; have HR5 : Hid (Row w5 (.slice p' RL cl) rest) := row_apart HR4.out hg5 HAP.out; clear ho5 hg5)
                go_roundw
                case rel => exact ⟨k + 1, _, rest, HKN.out, by go_num, HNX.out, HR5.out, H5.out⟩
                case measure => have := HKN.out; simp [intOf]; omega
              · have hcb : ((c : Int) == 1) = false := by simp; omega
                have hgd : gD c = false := by unfold gD; simpa using hg
                have HC2 : Hid ((w3.alloc (.cells #[.string key, .string ⟨#[]⟩, .bool false] 36)).heap[w3.heap.size]? = some (.cells #[.string key, .string ⟨#[]⟩, .bool false] 36 (0, 0))) := heap_alloc_new _ _
                have HW2 : Hid (Row (w3.alloc (.cells #[.string key, .string ⟨#[]⟩, .bool false] 36)) (.slice p' RL cl) rest) := HW.out.below (below_alloc _ _)
                have HO2 : Hid (OnC w (.slice lq ll lm) lk (w3.alloc (.cells #[.string key, .string ⟨#[]⟩, .bool false] 36))) := HO3.out.next (below_alloc _ _)
                clear hg
                cases h4 : cutT rest with
                | none =>
                  have HN : Hid (o = none) := by show o = none; rw [← HO.out.1]; exact readE_no (rec_none3 H1.out.1 H2.out.1 (chs_none HCS.out (cut_lost H3.out.1 hgd h4) HKN.out))
                  have hc := cutR_none _ rest (w3.alloc (.cells #[.string key, .string ⟨#[]⟩, .bool false] 36)) HW2.out H3.out.2 h4
                  clear h4 hgd
                  go_wp2_with (go_at_call 17; refine hc.mono ?_; rintro e w9 ⟨rfl, rfl⟩)
                  go_ret3
                  exact ⟨⟨_, by rw [HN.out]; rfl, by rw [HN.out]; exact cown_nil _ _, HO2.out.bel⟩⟩
                | some vr =>
                  obtain ⟨val, r2⟩ := vr
                  have HNX : Hid (cutChs gD (k + 1) zs = some (lk ++ [⟨key, val, false⟩], r2)) := chs_some HCS.out (cut_stay H3.out.1 hgd h4)
                  have hc := cutR_some _ rest (w3.alloc (.cells #[.string key, .string ⟨#[]⟩, .bool false] 36)) HW2.out H3.out.2 val r2 h4
                  clear h4 hgd
                  go_wp2_with fail
                  refine hc.mono ?_
                  rintro e w4 ⟨v4, rfl, hrow4, hb4, hfr4⟩
                  obtain ⟨q4, m4, rfl, _⟩ := hrow4.lies
                  obtain ⟨l4, hl4⟩ : ∃ m, r2.length = m := ⟨_, rfl⟩
                  rw [hl4] at hrow4 hfr4 ⊢
                  have HC4 : Hid (w4.heap[w3.heap.size]? = some (.cells #[.string key, .string ⟨#[]⟩, .bool false] 36 (0, 0))) := (hb4.block _ (lt_heap HC2.out)).trans HC2.out
                  obtain ⟨⟨d0, d1, d2⟩, g0, g1, g2⟩ := cellsF HC4.out
                  have HOS : Hid (OnC w (.slice lq ll lm) lk ((w4.setCell ⟨w3.heap.size, 1, none⟩ (.string val)).alloc (.cells #[.string key, .string val, .bool false] 36))) := by
                    have h4 := HO2.out.next hb4
                    refine OnC.next ⟨World.ownsRow.kept h4.own (grown_set _ _ _ _) ?_, below_setR _ _ h4.bel (by have h1 := HO3.out.bel.size; omega)⟩ (below_alloc _ _)
                    cases hq : (Value.slice lq ll lm).ownBlock with
                    | none => exact .inl rfl
                    | some kk =>
                      have h := (World.ownsRow.lt HON.out.1.own kk hq).2
                      have h5 := HB3.out
                      exact .inr (fun e => by simp at e; omega)
                  have HRS : Hid (Row ((w4.setCell ⟨w3.heap.size, 1, none⟩ (.string val)).alloc (.cells #[.string key, .string val, .bool false] 36)) (.slice q4 l4 m4) r2) := (row_grown HC4.out hrow4 (grown_set _ _ _ _)).below (below_alloc _ _)
                  have HCS4 : Hid _ := new3 (w4.setCell ⟨w3.heap.size, 1, none⟩ (.string val)) (.string key) (.string val) (.bool false) 36 w4.heap.size (by simp)
                  have HAP : Hid _ := HAPP.out (.slice q4 l4 m4) (fun a n m e => by have h := hfr4 a n m e; have h2 := HB3.out; simp at h; omega)
                  clear hc hrow4 hb4 hfr4 hl4
                  go_wp2_with (at_builtin; (refine wpList_append_change _ rfl _ _ rfl w.heap.size (.slice lq ll lm) lk ⟨key, val, false⟩ ⟨w4.heap.size, 0, none⟩ 1 rfl rfl HOS.out.own HCS4.out.1 HCS4.out.2.1 HCS4.out.2.2 (by have := HUL.out; omega) HOS.out.bel.size ?_); intro v5 w5 ho5 hg5; have H5 : Hid (OnC w v5 (lk ++ [⟨key, val, false⟩]) w5) := HOS.out.app hg5 ho5; have HR5 : Hid (Row w5 (.slice q4 l4 m4) r2) := row_apart HRS.out hg5 HAP.out; clear ho5 hg5)
                  go_roundw
                  case rel => exact ⟨k + 1, _, r2, HKN.out, by go_num, HNX.out, HR5.out, H5.out⟩
                  case measure => have := HKN.out; simp [intOf]; omega
        · have hkI : (M : Int) ≤ (k : Int) := by omega
          obtain rfl : k = M := by omega
          have HC : Hid (cutRec gD (numsOf s) = some (lk, S)) := rec_some H1.out.1 H2.out.1 HCS.out
          have hfc := cutRec_facts HC.out
          have hwr := rWrite_any lq ll lm lk (S : Int) wr (COwn.cs HON.out.1.own) HON.out.2.2.symm (by have := HUL.out; have := HON.out.2; omega) (fun x hx => by have := hfc.1 x hx; have := HO.out.2; omega) _ rfl
          have HWB : Hid (∀ c ∈ (writeE lk (S : Int)).2, c < 256) := writeE_bytes lk _
          have HRE : Hid (o = if writeE lk (S : Int) = (0, numsOf s) then some (lk, S) else none) := by show o = _; rw [← HO.out.1]; exact readE_yes HC.out
          obtain ⟨⟨re, rb⟩, hr⟩ : ∃ r, writeE lk (S : Int) = r := ⟨_, rfl⟩
          rw [hr] at hwr HWB HRE
          simp only at hwr HWB
          clear hfc hr hk hkn
          go_wp2_with fail
          refine hwr.mono ?_
          rintro e w3 ⟨rfl, hb3⟩
          have HO3 : Hid (OnC w (.slice lq ll lm) lk w3) := HON.out.1.next hb3
          clear hwr hb3
          by_cases h0 : re = 0
          · subst h0
            by_cases hst : strOf rb = s
            · have hb : ((strOf rb).toList == s.toList) = true := by rw [eq_strF]; simpa using hst
              have HN : Hid (o = some (lk, S)) := HRE.out.trans (if_pos (by rw [(strOf_back HWB.out).1 hst]))
              clear hst
              go_wp2
              go_ret3
              exact ⟨⟨_, by rw [HN.out]; rfl, by rw [HN.out]; exact HO3.out.own, HO3.out.bel⟩⟩
            · have hb : ((strOf rb).toList == s.toList) = false := by rw [eq_strF]; simpa using hst
              have HN : Hid (o = none) := HRE.out.trans (if_neg (fun h => hst ((strOf_back HWB.out).2 (by simpa using h))))
              clear hst
              go_wp2
              go_ret3
              exact ⟨⟨_, by rw [HN.out]; rfl, by rw [HN.out]; exact cown_nil _ _, HO3.out.bel⟩⟩
          · have hb : (re == 0) = false := by simpa using h0
            have HN : Hid (o = none) := HRE.out.trans (if_neg (fun h => h0 (by simpa using congrArg Prod.fst h)))
            have hb2 : (re != 0) = true := by simpa using h0
            go_wp2
            all_goals
              go_ret3
              exact ⟨⟨_, by rw [HN.out]; rfl, by rw [HN.out]; exact cown_nil _ _, HO3.out.bel⟩⟩
end Go.Proofs.YtkecajgdmompcaaDoor
namespace Go.Proofs.YtkecajgdmompcaaDoor
open Go.RowKit Go.WideShapes Go.ChangeShapes Go.Deep Go.Joins

structure WfC (y : CV) : Prop where
  key : y.key.size ≤ maxLen
  val : y.val.size ≤ maxLen
structure Chgs (w : World) (v : Value) (l : List CV) : Prop where
  lies : ∃ q c, v = .slice q l.length c ∧ CsIn w q l ∧ l.length ≤ c ∧ c ≤ maxLen ∧ (q = none → c = 0)
  wf : ∀ y ∈ l, WfC y
section
variable {P : Program} {w : World} {H : Type} {enc : TypeId × Value → H}
theorem open_change {e : TypeId} {f0 f1 f2 : Field} {n : Nat} {cs : List Value} {x : DataW H × List MemPlace} (he : P.underlying e = some (.struct #[f0, f1, f2])) (hl : cs.length = 3)
    (o0 : f0.offset = 0) (o1 : f1.offset = 1) (o2 : f2.offset = 2) (c0 : P.cellsOf f0.type = 1) (c1 : P.cellsOf f1.type = 1) (c2 : P.cellsOf f2.type = 1) (k0 : P.underlying f0.type = some .string) (k1 : P.underlying f1.type = some .string) (k2 : P.underlying f2.type = some .bool)
    (h : DataW.trod enc P w 0 (fun _ => true) true n e cs = some x) : ∃ y : CV, cs = [.string y.key, .string y.val, .bool y.gone] ∧ WfC y := by
  obtain ⟨xs, k', hk, hxy, _, hxl, hf⟩ := DataW.trod_struct he h
  match xs, hxl, cs, hl with
  | [y0, y1, y2], _, [v0, v1, v2], _ =>
    have r0 := hf 0 f0 rfl
    have r1 := hf 1 f1 rfl
    have r2 := hf 2 f2 rfl
    simp [o0, o1, o2, c0, c1, c2] at r0 r1 r2
    obtain ⟨s, hs, _, hsz⟩ := DataW.trod_string k0 r0
    obtain ⟨s1, hs1, _, hsz1⟩ := DataW.trod_string k1 r1
    obtain ⟨g, hg, _⟩ := DataW.trod_bool k2 r2
    simp only [List.cons.injEq, and_true] at hs hs1 hg
    subst hs hs1 hg
    exact ⟨⟨s, s1, g⟩, rfl, ⟨hsz, hsz1⟩⟩
theorem open_changes {t e : TypeId} {f0 f1 f2 : Field} {n : Nat} {v : Value} {x : DataW H × List MemPlace} (ht : P.underlying t = some (.slice e)) (he : P.underlying e = some (.struct #[f0, f1, f2])) (ce : P.cellsOf e = 3)
    (o0 : f0.offset = 0) (o1 : f1.offset = 1) (o2 : f2.offset = 2) (c0 : P.cellsOf f0.type = 1) (c1 : P.cellsOf f1.type = 1) (c2 : P.cellsOf f2.type = 1) (k0 : P.underlying f0.type = some .string) (k1 : P.underlying f1.type = some .string) (k2 : P.underlying f2.type = some .bool)
    (h : DataW.trod enc P w 0 (fun _ => true) true n t [v] = some x) : ∃ l, Chgs w v l := by
  rcases open_slice ht h with ⟨hcs, _⟩ | ⟨a, len, cap, m, k, D, Pl, hcs, _, hl, hm, hmm, _, hel⟩
  · simp only [List.cons.injEq, and_true] at hcs
    exact ⟨[], ⟨none, 0, hcs, fun h => absurd h (by simp), by simp, by unfold maxLen; omega, fun _ => rfl⟩, by simp⟩
  · simp only [List.cons.injEq, and_true] at hcs
    have hmc : m = cap := by simpa using hmm
    have each : ∀ i, i < len → ∃ y : CV, w.cell? (a.add (i * 3)) = some (.string y.key) ∧ w.cell? (a.add (i * 3 + 1)) = some (.string y.val) ∧ w.cell? (a.add (i * 3 + 2)) = some (.bool y.gone) ∧ WfC y := by
      intro i hi
      obtain ⟨cs', g1, g2⟩ := hel i (by omega)
      rw [ce] at g1
      obtain ⟨_, hlen, hcell⟩ := World.cells?_some g1
      obtain ⟨y, rfl, wy⟩ := open_change he hlen o0 o1 o2 c0 c1 c2 k0 k1 k2 g2
      have e0 := hcell 0 (by omega)
      have e1 := hcell 1 (by omega)
      have e2 := hcell 2 (by omega)
      rw [add_add] at e0 e1 e2
      exact ⟨y, by simpa using e0, by simpa using e1, by simpa using e2, wy⟩
    haveI : Inhabited CV := ⟨zeroCV⟩
    obtain ⟨f, hf⟩ := choose_lt each
    have hlen : ((List.range len).map f).length = len := by simp
    have hget : ∀ i, i < len → ((List.range len).map f).getD i zeroCV = f i := by intro i hi; simp [List.getD, hi]
    refine ⟨(List.range len).map f, ⟨⟨some a, cap, by rw [hlen]; exact hcs, fun hp => ?_, by rw [hlen]; exact hl, hm, by simp⟩, ?_⟩⟩
    · rw [hlen] at hp
      obtain ⟨b, o, s⟩ := a
      obtain rfl : s = none := by
        have := World.cell?_spot (hf 0 (by omega)).1
        simpa [Addr.add] using this
      refine ⟨b, o, rfl, fun i hi => ?_⟩
      rw [hlen] at hi
      obtain ⟨e0, e1, e2, _⟩ := hf i hi
      rw [hget i hi]
      rw [add_plain] at e0 e1 e2
      exact ⟨e0, e1, e2⟩
    · intro y hy
      simp only [List.mem_map, List.mem_range] at hy
      obtain ⟨i, hi, rfl⟩ := hy
      exact (hf i hi).2.2.2
end
end Go.Proofs.YtkecajgdmompcaaDoor
namespace Go.Proofs.YtkecajgdmompcaaDoor
open Go.RowKit Go.WideShapes

structure HeavyP (w : World) (n : Nat) (e : Ending) (w' : World) : Prop where
  ex : ∃ r : Bool, e = .returned (.bool r) ∧ (r = false → n ≤ 200) ∧ Below w.heap.size w w'
set_option maxRecDepth 8000 in
set_option maxHeartbeats 1000000 in
theorem heavy_any (q : Option Addr) (n c : Nat) (l : List CV) (w : World) (hn0 : n = l.length) (hq : CsIn w q l) (hn : (n : Int) ≤ 9223372036854775807) :
    Calls Tryd.prog 4 #[.slice q n c] w fun e w' => HeavyP w n e w' := by
  have HN : Hid (n = l.length) := hn0
  have HQ : Hid (CsIn w q l) := hq
  clear hn0 hq
  go_enter Tryd.func4, Tryd.ntmps4
  go_wp2
  go_loopw [3, 4] (fun t i wr => ∃ k : Nat, ∃ z : Int, k ≤ n ∧ i = .int .i64 k ∧ t = .int .i64 z ∧ Below w.heap.size w wr) (fun _ i _ => n - (intOf i).toNat)
  case atStart => exact ⟨0, 0, by omega, rfl, rfl, Below.refl _ _⟩
  case round =>
    obtain ⟨k, z, hk, rfl, rfl, hbel⟩ := hrel
    have HBE : Hid (Below w.heap.size w wr) := hbel
    clear hbel
    by_cases hkn : k < n
    · have g1 : decide (k < n) = true := decide_eq_true hkn
      have hkI : (k : Int) < (n : Int) := by omega
      have hk0 : (0 : Int) ≤ (k : Int) := by omega
      obtain ⟨ba, oa, rfl⟩ := HQ.out.addr (by have := HN.out; omega)
      obtain ⟨x0, x1, _⟩ := (HQ.out.below HBE.out).at (k := k) (by have := HN.out; omega)
      generalize (l.getD k zeroCV).key = ke at *
      generalize (l.getD k zeroCV).val = ve at *
      go_wp2
      go_region
      go_wp2
      go_roundw
      case rel => exact ⟨k + 1, _, by omega, by go_num, rfl, HBE.out.drew⟩
      case measure => simp [intOf]; omega
    · have g1 : decide (k < n) = false := decide_eq_false hkn
      have hkI : (n : Int) ≤ (k : Int) := by omega
      by_cases h5 : n ≤ 200
      · have HR : Hid (n ≤ 200) := h5
        have q1 : decide ((200 : Int) < (n : Int)) = false := decide_eq_false (by omega)
        clear h5
        go_wp2
        go_ret
        exact ⟨⟨_, rfl, fun _ => HR.out, HBE.out⟩⟩
      · have q1 : decide ((200 : Int) < (n : Int)) = true := decide_eq_true (by omega)
        clear h5
        go_wp2
        go_ret
        exact ⟨⟨true, by simp, fun h => (by cases h), HBE.out⟩⟩
/-! ### Changes put behind others -/
theorem cellsC_mem {l : List CV} {j : Nat} {u : Value} (h : (cellsC l)[j]? = some u) : ∃ i, i < l.length ∧ ((j = i * 3 ∧ u = .string (l.getD i zeroCV).key) ∨ (j = i * 3 + 1 ∧ u = .string (l.getD i zeroCV).val) ∨ (j = i * 3 + 2 ∧ u = .bool (l.getD i zeroCV).gone)) := by
  have hj : j < l.length * 3 := by rw [← cellsC_len]; exact (List.getElem?_eq_some_iff.1 h).1
  obtain ⟨e0, e1, e2⟩ := cellsC_at l (j / 3) (by omega)
  refine ⟨j / 3, by omega, ?_⟩
  have hm : j = j / 3 * 3 ∨ j = j / 3 * 3 + 1 ∨ j = j / 3 * 3 + 2 := by omega
  rcases hm with hm | hm | hm
  · rw [hm, e0] at h; exact .inl ⟨hm, (Option.some.inj h).symm⟩
  · rw [hm, e1] at h; exact .inr (.inl ⟨hm, (Option.some.inj h).symm⟩)
  · rw [hm, e2] at h; exact .inr (.inr ⟨hm, (Option.some.inj h).symm⟩)
theorem run_append_changes (w : World) (ty : TypeId) (base : Nat) (v : Value) (ls m : List CV) (q : Option Addr) (c : Nat) (hown : COwn w base v ls) (hin : CsIn w q m) (hq : q = none → c = 0) (hlen : ls.length + m.length ≤ 1000000) (hbase : base ≤ w.heap.size) :
    ∃ v' w', (Builtin.append_ #[22, 22] ty #[v, .slice q m.length c]).run Tryd.prog w = .ok v' w' ∧ COwn w' base v' (ls ++ m) ∧ w.grownBy w' v.ownBlock := by
  obtain ⟨i0, hi, hz0, hz1, hz2⟩ := info_parts' info_change
  cases q with
  | none =>
    obtain rfl : m = [] := by
      cases m with
      | nil => rfl
      | cons y ys => obtain ⟨b, o, e, _⟩ := hin (by simp); cases e
    obtain rfl := hq rfl
    exact ⟨v, w, run_append_owned_none (P := Tryd.prog) w base 22 ty 36 i0 3 Tryd.underlying22 hi v ls.length (cellsC ls) hown, by simpa using hown, ⟨rfl, rfl, rfl, Nat.le_refl _, fun _ _ _ => rfl⟩⟩
  | some ad =>
    have hcs : ∀ j u, (cellsC m)[j]? = some u → w.cell? (ad.add j) = some u := by
      intro j u hu
      obtain ⟨i, hi, hu⟩ := cellsC_mem hu
      obtain ⟨b, o, e, hc⟩ := hin (by omega)
      simp only [Option.some.injEq] at e
      subst e
      obtain ⟨h0, h1, h2⟩ := hc i hi
      rw [add_plain]
      rcases hu with ⟨rfl, rfl⟩ | ⟨rfl, rfl⟩ | ⟨rfl, rfl⟩
      · exact h0
      · exact h1
      · exact h2
    have hone : ∀ u ∈ cellsC m, u.oneCell' = true := by
      intro u hu
      simp only [cellsC, List.mem_flatMap, List.mem_cons, List.not_mem_nil, or_false] at hu
      obtain ⟨x, _, rfl | rfl | rfl⟩ := hu <;> rfl
    obtain ⟨v', w', g1, g2, g3, _⟩ := run_append_own (P := Tryd.prog) w base 22 ty 36 i0 _ 3 40 Tryd.underlying22 hi hz0 hz1 hz2 rfl (by decide) v ls.length (cellsC ls) hown ad m.length c (cellsC m) (cellsC_len m) hcs hone (by unfold maxLen; omega) (by omega) hbase
    refine ⟨v', w', g1, ?_, g3⟩
    unfold COwn
    rw [cellsC_app, List.length_append]
    exact g2
theorem wpList_append_changes (w : World) {ops : Array Oper} {rest : List Oper} {o : Oper} {a : Act} {Q : Exit → Act → World → Prop} (hgd : o.guard = none) (s x : Operand)
    (ho : o.op = .call { callee := .builtin .append, args := #[s, x], argTypes := #[22, 22] }) (base : Nat) (v : Value) (ls m : List CV) (q : Option Addr) (n c : Nat) (hs : a.eval s = v) (hx : a.eval x = .slice q n c) (hn : n = m.length)
    (hown : COwn w base v ls) (hin : CsIn w q m) (hq : q = none → c = 0) (hlen : ls.length + m.length ≤ 1000000) (hbase : base ≤ w.heap.size)
    (h : ∀ v' w', COwn w' base v' (ls ++ m) → w.grownBy w' v.ownBlock → wpList Tryd.prog ops Q rest (a.put o.dst v') w') : wpList Tryd.prog ops Q (o :: rest) a w := by
  subst hn
  refine wpList_plain hgd fun K hK => ?_
  obtain ⟨v', w', hr, g2, g3⟩ := run_append_changes w o.type base v ls m q c hown hin hq hlen hbase
  unfold Oper.wp execOp
  simp only [ho, resolve, invoke, builtin, Sem.run_bind, Sem.run_pure, Result.andThen_ok, List.map_toArray, List.map_cons, List.map_nil, hs, hx, hr]
  exact hK _ _ (h v' w' g2 g3)
theorem neq_change (a b : ByteArray) (g : Bool) (w : World) : Sem.run Tryd.prog (binOp .neq 36 (.agg #[.string a, .string b, .bool g]) (.agg #[.string a, .string b, .bool g])) w = .ok (.bool false) w := by
  have u9 := Tryd.underlying9
  have a9 := Tryd.isAgg9
  have z9 := Tryd.sizeOf9
  have u4 := Tryd.underlying4
  have a4 := Tryd.isAgg4
  have z4 := Tryd.sizeOf4
  have hS : Tryd.prog.underlying 36 = some (.struct (Tryd.prog.fieldsOf 36)) := by kernel_rfl
  have hp : Tryd.prog.stoodInHeld 36 = false := by kernel_rfl
  rw [run_neq_struct, show (10000 : Nat) = 9999 + 1 from rfl, run_equalIn_agg w 9999 36 _ _ hS hp]
  simp only [Program.fieldsOf, Tryd.underlying36]
  go_simp
set_option maxRecDepth 8000 in
set_option maxHeartbeats 1000000 in
theorem sameChanges_yes (qa qb : Option Addr) (n m ca cb : Nat) (l : List CV) (w : World) (ha : CsIn w qa l) (hb : CsIn w qb l) (en : n = l.length) (em : m = l.length) (hnb : (l.length : Int) ≤ 1000000) :
    Calls Tryd.prog 9 #[.slice qa n ca, .slice qb m cb] w fun e w' => e = .returned (.bool true) ∧ Below w.heap.size w w' := by
  obtain rfl : n = m := by omega
  have hneq := neq_change
  have HA : Hid (CsIn w qa l ∧ CsIn w qb l ∧ n = l.length) := ⟨ha, hb, en⟩
  have hnI : (n : Int) ≤ 1000000 := by omega
  clear ha hb en em hnb
  go_enter Tryd.func9, Tryd.ntmps9
  go_wp2
  go_loopw [5] (fun i wr => ∃ k : Nat, k ≤ n ∧ i = .int .i64 k ∧ Below w.heap.size w wr) (fun i _ => n - (intOf i).toNat)
  case atStart => exact ⟨0, by omega, rfl, Below.refl _ _⟩
  case round =>
    obtain ⟨k, hk, rfl, hbel⟩ := hrel
    have HB : Hid (Below w.heap.size w wr) := hbel
    by_cases hkn : k < n
    · have hkI : (k : Int) < (n : Int) := by omega
      have k0 : (0 : Int) ≤ (k : Int) := by omega
      have HKN : Hid (k < n) := hkn
      have hkl : k < l.length := by have := HA.out.2.2; omega
      have h1 := HA.out.1.below hbel
      have h2 := HA.out.2.1.below hbel
      obtain ⟨ab, ao, rfl⟩ := h1.addr (by omega)
      obtain ⟨bb, bo, rfl⟩ := h2.addr (by omega)
      obtain ⟨x0, x1, x2⟩ := h1.at hkl
      obtain ⟨y0, y1, y2⟩ := h2.at hkl
      generalize l.getD k zeroCV = z at *
      obtain ⟨zk, zv, zg⟩ := z
      simp only at x0 x1 x2 y0 y1 y2
      clear h1 h2 hkl hbel hk hkn
      go_wp2
      go_quiet (fail)
      go_wp2
      go_roundw
      case rel => exact ⟨k + 1, HKN.out, by go_num, below_drewN HB.out _⟩
      case measure => have := HKN.out; simp [intOf]; omega
    · have hkI : (n : Int) ≤ (k : Int) := by omega
      clear hkn hk hbel
      go_wp2
      go_ret
      exact ⟨rfl, HB.out⟩
end Go.Proofs.YtkecajgdmompcaaDoor
