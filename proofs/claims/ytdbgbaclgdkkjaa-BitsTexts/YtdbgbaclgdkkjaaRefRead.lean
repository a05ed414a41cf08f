/-
  Contracts of the document's own answers Sum and Read.
-/
import Derived.Test.YtdbgbaclgdkkjaaRef
import Derived.Test.YtdbgbaclgdkkjaaCut
namespace Go.Proofs.Ytdbgbaclgdkkjaa
open Go.RowKit Go.WideShapes

theorem rem_odd (r : Nat) : ((r : Int) % 2 == 1) = decide (r % 2 = 1) := by
  rw [Bool.eq_iff_iff]; simp; omega

set_option maxHeartbeats 1000000 in
theorem refSum_any (p : Option Addr) (cap : Nat) (xs : List Nat) (w : World) (hb : BIn w p xs) (hm : xs.length ≤ maxLen) :
    Calls Try.prog 25 #[.slice p xs.length cap] w fun e w' => e = .returned (.int .u32 (sumN xs : Nat)) ∧ w' = w := by
  unfold maxLen at hm
  have hlt := hb.2
  go_enter Try.func25, Try.ntmps25
  go_wp2
  go_loop [3, 4] (fun t i => ∃ k : Nat, k ≤ xs.length ∧ i = .int .i64 k ∧ t = .int .u32 (crc 4294967295 (xs.take k) : Nat)) (fun _ i => xs.length - (intOf i).toNat)
  case atStart => exact ⟨0, by omega, rfl, rfl⟩
  case round =>
    obtain ⟨k, hk, rfl, rfl⟩ := hrel
    have hr := crc_lt (xs.take k) 4294967295 (by decide) (fun c hc => hlt c (List.mem_of_mem_take hc))
    by_cases hkl : k < xs.length
    · obtain ⟨b, o, rfl, hc⟩ := hb.1 (by omega)
      have hck := hc k hkl
      have H : Hid _ := crc_take 4294967295 xs k hkl
      have hb8 := getD_lt hlt k
      have hx := byte_xor (crc 4294967295 (xs.take k)) (xs.getD k 0) hr hb8
      have hq : crc 4294967295 (xs.take k) ^^^ xs.getD k 0 < 4294967296 := Nat.xor_lt_two_pow (n := 32) (by omega) (by omega)
      generalize crc 4294967295 (xs.take k) = q at *
      generalize xs.getD k 0 = c at *
      clear hc hlt
      generalize q ^^^ c = y at *
      go_wp2
      go_loop [3, 5] (fun t i => ∃ j : Nat, j ≤ 8 ∧ i = .int .i64 j ∧ t = .int .u32 (crcBits j y : Nat)) (fun _ i => 8 - (intOf i).toNat)
      case atStart => exact ⟨0, by omega, rfl, rfl⟩
      case round =>
        obtain ⟨j, hj, rfl, rfl⟩ := hrel
        have hr2 := crcBits_lt j y hq
        have HB : Hid (crcBits (j + 1) y = crcBit (crcBits j y)) := rfl
        by_cases hjl : j < 8
        · generalize crcBits j y = z at *
          have ho := rem_odd z
          have hx2 := bit_xor (z / 2) (by omega)
          rw [show ((z / 2 : Nat) : Int) = (z : Int) / 2 from by omega] at hx2
          by_cases hodd : z % 2 = 1
          · have ho' : ((z : Int) % 2 == 1) = true := by rw [ho]; simp [hodd]
            have HO : Hid (z % 2 = 1) := hodd
            clear ho hodd
            go_wp2
            go_round
            case rel => exact ⟨j + 1, by omega, by go_num, by rw [HB.out]; simp [crcBit, HO.out]⟩
            case measure => simp [intOf]; omega
          · have ho' : ((z : Int) % 2 == 1) = false := by rw [ho]; simp [hodd]
            have HO : Hid (¬ z % 2 = 1) := hodd
            clear ho hodd
            go_wp2
            go_round
            case rel => exact ⟨j + 1, by omega, by go_num, by rw [HB.out]; simp [crcBit, HO.out]⟩
            case measure => simp [intOf]; omega
        · have e : j = 8 := by omega
          subst e
          clear HB
          go_wp2
          go_round
          case rel => exact ⟨k + 1, by omega, by go_num, by rw [H.out]⟩
          case measure => simp [intOf]; omega
    · have e : k = xs.length := by omega
      subst e
      rw [List.take_length] at hr ⊢
      have hn := sum_not xs hr
      go_wp2
      go_ret
      exact ⟨rfl, rfl⟩
/-- The number of bytes, seven bits each, the lowest first. -/
def val : List Nat → Nat
  | [] => 0
  | c :: l => c % 128 + 128 * val l
theorem val_snoc (l : List Nat) (c : Nat) : val (l ++ [c]) = c % 128 * 2 ^ (7 * l.length) + val l := by
  induction l with
  | nil => simp [val]
  | cons a l ih =>
    rw [List.cons_append, val, val, ih, List.length_cons, show 7 * (l.length + 1) = 7 * l.length + 7 from by omega, Nat.pow_add]
    generalize 2 ^ (7 * l.length) = X
    rw [show 128 * (c % 128 * X + val l) = c % 128 * (X * 2 ^ 7) + 128 * val l from by rw [Nat.mul_add, ← Nat.mul_assoc, Nat.mul_comm 128 (c % 128), Nat.mul_assoc, Nat.mul_comm 128 X]]
    omega
theorem val_lt (l : List Nat) : val l < 2 ^ (7 * l.length) := by
  induction l with
  | nil => simp [val]
  | cons a l ih =>
    rw [val, List.length_cons, show 7 * (l.length + 1) = 7 * l.length + 7 from by omega, Nat.pow_add]
    omega
theorem take_at (xs : List Nat) (k : Nat) (h : k < xs.length) : xs.take (k + 1) = xs.take k ++ [xs.getD k 0] := by
  rw [List.take_succ_eq_append_getElem h]; simp [List.getD, List.getElem?_eq_getElem h]
theorem val_take (xs : List Nat) (k : Nat) (h : k < xs.length) : val (xs.take (k + 1)) = xs.getD k 0 % 128 * 2 ^ (7 * k) + val (xs.take k) := by
  rw [take_at xs k h, val_snoc, List.length_take, Nat.min_eq_left (by omega)]
theorem val_drop (xs : List Nat) (k t : Nat) (h : t ≤ k) (hk : k < xs.length) : val ((xs.take (k + 1)).drop t) = xs.getD t 0 % 128 + 128 * val ((xs.take (k + 1)).drop (t + 1)) := by
  have hl : t < (xs.take (k + 1)).length := by simp; omega
  rw [List.drop_eq_getElem_cons hl, val]
  congr 1
  simp [List.getD, List.getElem?_eq_getElem (show t < xs.length from by omega)]
theorem val_drop_le (l : List Nat) (t : Nat) : val (l.drop t) ≤ val l := by
  induction l generalizing t with
  | nil => simp
  | cons a l ih =>
    cases t with
    | zero => simp
    | succ t => rw [List.drop_succ_cons, val]; have := ih t; omega
theorem val_fits {l : List Nat} {t : Nat} (h : val l < 18446744073709551616) : val (l.drop t) < 18446744073709551616 := Nat.lt_of_le_of_lt (val_drop_le l t) h
theorem read_skip {xs : List Nat} (j : Nat) (hj : j ≤ 9) (hlen : j ≤ xs.length) (hall : ∀ i, i < j → 128 ≤ xs.getD i 0) : readN xs = readAux j (val (xs.take j)) (xs.drop j) := by
  induction j with
  | zero => simp [val, readN]
  | succ j ih =>
    rw [ih (by omega) (by omega) (fun i hi => hall i (by omega)), drop_at xs j (by omega), aux_hi (by omega) (hall j (by omega)), val_take xs j (by omega)]
theorem read_over {xs : List Nat} (hlen : 10 ≤ xs.length) (hall : ∀ i, i < 10 → 128 ≤ xs.getD i 0) : readN xs = none := by
  have := hall 9 (by omega)
  rw [read_skip 9 (by omega) (by omega) (fun i hi => hall i (by omega)), drop_at xs 9 (by omega), aux_big ⟨rfl, by omega⟩]
theorem read_end {xs : List Nat} (hlen : xs.length ≤ 9) (hall : ∀ i, i < xs.length → 128 ≤ xs.getD i 0) : readN xs = none := by
  rw [read_skip xs.length hlen (by omega) hall, List.drop_length]; rfl
theorem read_big {xs : List Nat} (hlen : 9 < xs.length) (hall : ∀ i, i < 9 → 128 ≤ xs.getD i 0) (h : 1 < xs.getD 9 0) : readN xs = none := by
  rw [read_skip 9 (by omega) (by omega) hall, drop_at xs 9 hlen, aux_big ⟨rfl, h⟩]
theorem read_zero {xs : List Nat} {k : Nat} (hlen : k < xs.length) (hk : k ≤ 9) (hall : ∀ i, i < k → 128 ≤ xs.getD i 0) (h0 : 0 < k) (h : xs.getD k 0 = 0) : readN xs = none := by
  rw [read_skip k hk (by omega) hall, drop_at xs k hlen, aux_zero (by omega) (by omega) ⟨h, h0⟩]
theorem read_ok {xs : List Nat} {k : Nat} (hlen : k < xs.length) (hk : k ≤ 9) (hall : ∀ i, i < k → 128 ≤ xs.getD i 0) (hc : xs.getD k 0 < 128) (hbig : k = 9 → xs.getD k 0 ≤ 1) (hz : 0 < k → xs.getD k 0 ≠ 0) : readN xs = some (val (xs.take (k + 1)), k + 1) := by
  rw [read_skip k hk (by omega) hall, drop_at xs k hlen, aux_end (by omega) (by omega) (by omega), val_take xs k hlen]
theorem read_ok_fits {xs : List Nat} {k : Nat} (hlen : k < xs.length) (hk : k ≤ 9) (hall : ∀ i, i < k → 128 ≤ xs.getD i 0) (hc : xs.getD k 0 < 128) (hbig : k = 9 → xs.getD k 0 ≤ 1) (hz : 0 < k → xs.getD k 0 ≠ 0) : val (xs.take (k + 1)) < 18446744073709551616 :=
  (readN_some (read_ok hlen hk hall hc hbig hz)).2.2.2

set_option maxHeartbeats 2000000 in
set_option maxRecDepth 100000 in
theorem refRead_any (p : Option Addr) (cap : Nat) (xs : List Nat) (w : World) (hb : BIn w p xs) (hm : xs.length ≤ maxLen) :
    Calls Try.prog 19 #[.slice p xs.length cap] w fun e w' => e = .returned (readV (readN xs)) ∧ w' = w := by
  unfold maxLen at hm
  have hlt := hb.2
  go_enter Try.func19, Try.ntmps19
  go_wp2
  go_loop [5] (fun i => ∃ k : Nat, k ≤ xs.length ∧ k ≤ 10 ∧ i = .int .i64 k ∧ ∀ i, i < k → 128 ≤ xs.getD i 0) (fun i => xs.length - (intOf i).toNat)
  case atStart => exact ⟨0, by omega, by omega, rfl, by intro i hi; omega⟩
  case round =>
    obtain ⟨k, hk, hk10, rfl, hall⟩ := hrel
    have HA : Hid (∀ i, i < k → 128 ≤ xs.getD i 0) := hall
    clear hall
    by_cases hlen : k < xs.length
    · obtain ⟨b, o, rfl, hcell⟩ := hb.1 (by omega)
      have hck := hcell k hlen
      have hb8 := getD_lt hlt k
      by_cases h10 : k < 10
      · by_cases hc128 : 128 ≤ xs.getD k 0
        · have HC : Hid (128 ≤ xs.getD k 0) := hc128
          generalize hcd : xs.getD k 0 = c at *
          have HCD : Hid _ := hcd
          clear hcd hcell hb hlt
          go_wp2
          go_round
          case rel => exact ⟨k + 1, by omega, by omega, by go_num, fun i hi => by
            rcases Nat.lt_or_ge i k with h | h
            · exact HA.out i h
            · obtain rfl : i = k := by omega
              rw [HCD.out]; exact hc128⟩
          case measure => simp [intOf]; omega
        · have hc128 : xs.getD k 0 < 128 := by omega
          have hk9 : k ≤ 9 := by omega
          have hall := HA.out
          clear HA hb
          by_cases hk9' : k = 9
          · by_cases hbig0 : 1 < xs.getD k 0
            · have HN : Hid (readN xs = none) := by subst hk9'; exact read_big hlen hall hbig0
              subst hk9'
              clear hcell hall hlt
              generalize xs.getD 9 0 = c at *
              go_wp2
              go_ret3
              exact ⟨by rw [HN.out]; rfl, rfl⟩
            · have hbig : k = 9 → xs.getD k 0 ≤ 1 := fun _ => by omega
              by_cases h0 : xs.getD k 0 = 0
              · have HN : Hid (readN xs = none) := read_zero hlen hk9 hall (by omega) h0
                have hc0 : ((xs.getD k 0 : Nat) : Int) ≤ 0 := by omega
                have hc0b : (((xs.getD k 0 : Nat) : Int) == 0) = true := by rw [h0]; rfl
                have hc1 : ((xs.getD k 0 : Nat) : Int) ≤ 1 := by omega
                clear h0 hbig
                subst hk9'
                clear hcell hall hlt
                generalize xs.getD 9 0 = c at *
                go_wp2
                go_ret3
                exact ⟨by rw [HN.out]; rfl, rfl⟩
              · have hzer : 0 < k → xs.getD k 0 ≠ 0 := fun _ => h0
                have hc1 : ((xs.getD k 0 : Nat) : Int) ≤ 1 := by omega
                have hc0b : (((xs.getD k 0 : Nat) : Int) == 0) = false := by simpa using h0
                subst hk9'
                clear h0
                have HE : Hid _ := read_ok hlen hk9 hall hc128 hbig hzer
                have HF : Hid _ := read_ok_fits hlen hk9 hall hc128 hbig hzer
                have hLl : Hid ((xs.take (9 + 1)).length = 9 + 1) := by show _ = _; simp; omega
                clear hall hbig hzer
                generalize xs.getD 9 0 = ck at *
                have HCell : Hid _ := hcell
                clear hcell
                go_wp2
                go_loop [6, 7] (fun t i => ∃ j : Nat, j ≤ 9 + 1 ∧ i = .int .i64 ((j : Int) - 1) ∧ t = .int .u64 (val ((xs.take (9 + 1)).drop j) : Nat)) (fun _ i => (intOf i + 1).toNat)
                case atStart => exact ⟨9 + 1, by omega, by go_num, by rw [List.drop_eq_nil_of_le (by rw [hLl.out]; exact Nat.le_refl _)]; rfl⟩
                case round =>
                  obtain ⟨j, hj, rfl, rfl⟩ := hrel
                  by_cases hj0 : 0 < j
                  · obtain ⟨t, rfl⟩ : ∃ t, j = t + 1 := ⟨j - 1, by omega⟩
                    rw [show ((t + 1 : Nat) : Int) - 1 = (t : Int) from by omega]
                    have htk : t ≤ 9 := by omega
                    have hct := HCell.out t (by omega)
                    have hb8t := getD_lt hlt t
                    have HV : Hid _ := val_drop xs 9 t htk (by omega)
                    have hv2 := val_fits (t := t) HF.out
                    rw [HV.out] at hv2
                    generalize val ((xs.take (9 + 1)).drop (t + 1)) = q at *
                    generalize xs.getD t 0 = ct at *
                    clear HCell hck
                    go_wp2
                    go_round
                    case rel => exact ⟨t, by omega, by go_num, by rw [HV.out]; go_num⟩
                    case measure => simp [intOf]
                  · obtain rfl : j = 0 := by omega
                    rw [List.drop_zero]
                    rw [show (((0 : Nat) : Int) - 1) = -1 from by omega]
                    generalize val (xs.take (9 + 1)) = q at *
                    clear HCell hck
                    go_wp2
                    go_ret3
                    exact ⟨by rw [HE.out]; rfl, rfl⟩

          · have hk9b : ((k : Int) == 9) = false := by simp; omega
            have hbig : k = 9 → xs.getD k 0 ≤ 1 := fun h => absurd h hk9'
            clear hk9'
            by_cases hk0 : 0 < k
            · by_cases h0 : xs.getD k 0 = 0
              · have HN : Hid (readN xs = none) := read_zero hlen hk9 hall hk0 h0
                have hc0b : (((xs.getD k 0 : Nat) : Int) == 0) = true := by rw [h0]; rfl
                clear h0 hbig hcell hall hlt
                generalize xs.getD k 0 = c at *
                go_wp2
                go_ret3
                exact ⟨by rw [HN.out]; rfl, rfl⟩
              · have hzer : 0 < k → xs.getD k 0 ≠ 0 := fun _ => h0
                have hc0b : (((xs.getD k 0 : Nat) : Int) == 0) = false := by simpa using h0
                clear h0
                have HE : Hid _ := read_ok hlen hk9 hall hc128 hbig hzer
                have HF : Hid _ := read_ok_fits hlen hk9 hall hc128 hbig hzer
                have hLl : Hid ((xs.take (k + 1)).length = k + 1) := by show _ = _; simp; omega
                clear hall hbig hzer
                generalize xs.getD k 0 = ck at *
                have HCell : Hid _ := hcell
                clear hcell
                go_wp2
                go_loop [6, 7] (fun t i => ∃ j : Nat, j ≤ k + 1 ∧ i = .int .i64 ((j : Int) - 1) ∧ t = .int .u64 (val ((xs.take (k + 1)).drop j) : Nat)) (fun _ i => (intOf i + 1).toNat)
                case atStart => exact ⟨k + 1, by omega, by go_num, by rw [List.drop_eq_nil_of_le (by rw [hLl.out]; exact Nat.le_refl _)]; rfl⟩
                case round =>
                  obtain ⟨j, hj, rfl, rfl⟩ := hrel
                  by_cases hj0 : 0 < j
                  · obtain ⟨t, rfl⟩ : ∃ t, j = t + 1 := ⟨j - 1, by omega⟩
                    rw [show ((t + 1 : Nat) : Int) - 1 = (t : Int) from by omega]
                    have htk : t ≤ k := by omega
                    have hct := HCell.out t (by omega)
                    have hb8t := getD_lt hlt t
                    have HV : Hid _ := val_drop xs k t htk (by omega)
                    have hv2 := val_fits (t := t) HF.out
                    rw [HV.out] at hv2
                    generalize val ((xs.take (k + 1)).drop (t + 1)) = q at *
                    generalize xs.getD t 0 = ct at *
                    clear HCell hck
                    go_wp2
                    go_round
                    case rel => exact ⟨t, by omega, by go_num, by rw [HV.out]; go_num⟩
                    case measure => simp [intOf]
                  · obtain rfl : j = 0 := by omega
                    rw [List.drop_zero]
                    rw [show (((0 : Nat) : Int) - 1) = -1 from by omega]
                    generalize val (xs.take (k + 1)) = q at *
                    clear HCell hck
                    go_wp2
                    go_ret3
                    exact ⟨by rw [HE.out]; rfl, rfl⟩
            · have hzer : 0 < k → xs.getD k 0 ≠ 0 := fun h => absurd h hk0
              have HE : Hid _ := read_ok hlen hk9 hall hc128 hbig hzer
              have HF : Hid _ := read_ok_fits hlen hk9 hall hc128 hbig hzer
              have hLl : Hid ((xs.take (k + 1)).length = k + 1) := by show _ = _; simp; omega
              clear hall hbig hzer
              generalize xs.getD k 0 = ck at *
              have HCell : Hid _ := hcell
              clear hcell
              go_wp2
              go_loop [6, 7] (fun t i => ∃ j : Nat, j ≤ k + 1 ∧ i = .int .i64 ((j : Int) - 1) ∧ t = .int .u64 (val ((xs.take (k + 1)).drop j) : Nat)) (fun _ i => (intOf i + 1).toNat)
              case atStart => exact ⟨k + 1, by omega, by go_num, by rw [List.drop_eq_nil_of_le (by rw [hLl.out]; exact Nat.le_refl _)]; rfl⟩
              case round =>
                obtain ⟨j, hj, rfl, rfl⟩ := hrel
                by_cases hj0 : 0 < j
                · obtain ⟨t, rfl⟩ : ∃ t, j = t + 1 := ⟨j - 1, by omega⟩
                  rw [show ((t + 1 : Nat) : Int) - 1 = (t : Int) from by omega]
                  have htk : t ≤ k := by omega
                  have hct := HCell.out t (by omega)
                  have hb8t := getD_lt hlt t
                  have HV : Hid _ := val_drop xs k t htk (by omega)
                  have hv2 := val_fits (t := t) HF.out
                  rw [HV.out] at hv2
                  generalize val ((xs.take (k + 1)).drop (t + 1)) = q at *
                  generalize xs.getD t 0 = ct at *
                  clear HCell hck
                  go_wp2
                  go_round
                  case rel => exact ⟨t, by omega, by go_num, by rw [HV.out]; go_num⟩
                  case measure => simp [intOf]
                · obtain rfl : j = 0 := by omega
                  rw [List.drop_zero]
                  rw [show (((0 : Nat) : Int) - 1) = -1 from by omega]
                  generalize val (xs.take (k + 1)) = q at *
                  clear HCell hck
                  go_wp2
                  go_ret3
                  exact ⟨by rw [HE.out]; rfl, rfl⟩

      · obtain rfl : k = 10 := by omega
        have HN : Hid (readN xs = none) := read_over (Nat.le_of_lt hlen) HA.out
        clear hcell hb hlt HA
        generalize xs.getD 10 0 = c at *
        go_wp2
        go_ret3
        exact ⟨by rw [HN.out]; rfl, rfl⟩
    · obtain rfl : k = xs.length := by omega
      have HN : Hid (readN xs = none) := by
        show _ = _
        rcases Nat.lt_or_ge xs.length 10 with h | h
        · exact read_end (by omega) HA.out
        · exact read_over h (fun i hi => HA.out i (by omega))
      clear hb hlt HA
      go_wp2
      go_ret3
      exact ⟨by rw [HN.out]; rfl, rfl⟩
end Go.Proofs.Ytdbgbaclgdkkjaa
