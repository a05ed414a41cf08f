/-
  Small bytes are read back; nothing is written in two ways (plain arithmetic).
-/
import Derived.Test.YtglcpfnpbcnejaaGreatDoorJ01
namespace Go.Proofs.YtglcpfnpbcnejaaGreatDoor
open Go.RowKit Go.WideShapes

set_option maxHeartbeats 1000000 in
theorem split_any (n : Nat) (w : World) (hn : n < 18446744073709551616) :
    Calls Tryz.prog 122 #[.int .u64 n] w fun e w' => e = .returned (.agg #[.int .u8 (n % 256), .int .u8 (n / 256 % 256), .int .u8 (n / 65536 % 256), .int .u8 (n / 16777216 % 256), .int .u8 (n / 4294967296 % 256), .int .u8 (n / 1099511627776 % 256), .int .u8 (n / 281474976710656 % 256), .int .u8 (n / 72057594037927936)]) ∧ Below w.heap.size w w' := by
  go_enter Tryz.func122, Tryz.ntmps122
  go_wp2
  refine wp_loop_rounds 9 ?_
  iterate 9 (rw [rounds_succ]; go_wp2)
  refine bodyPost_ret (v := .agg #[.int .u8 (n % 256), .int .u8 (n / 256 % 256), .int .u8 (n / 65536 % 256), .int .u8 (n / 16777216 % 256), .int .u8 (n / 4294967296 % 256), .int .u8 (n / 1099511627776 % 256), .int .u8 (n / 281474976710656 % 256), .int .u8 (n / 72057594037927936)]) (by simp [results, Tryz.results122, go_sem]) rfl ⟨rfl, ?_⟩
  exact ((Below.refl _ _).alloc (Nat.le_refl _) _).alloc (by simp) _

theorem putN_cells (n : Nat) : (Bs (putN n)).toArray = #[.int .u8 (n % 256), .int .u8 (n / 256 % 256), .int .u8 (n / 65536 % 256), .int .u8 (n / 16777216 % 256), .int .u8 (n / 4294967296 % 256), .int .u8 (n / 1099511627776 % 256), .int .u8 (n / 281474976710656 % 256), .int .u8 (n / 72057594037927936)] := by
  simp [Bs, putN]

set_option maxHeartbeats 1000000 in
theorem put_any (n : Nat) (w : World) (hn : n < 18446744073709551616) :
    Calls Tryz.prog 99 #[.int .u64 n] w fun e w' => ∃ w1, e = .returned (.slice (some ⟨w1.heap.size, 0, none⟩) 8 8) ∧ w' = w1.alloc (.cells (Bs (putN n)).toArray 194) ∧ Below w.heap.size w w1 := by
  go_enter Tryz.func99, Tryz.ntmps99
  go_wp2_with (go_at_call 122; refine (split_any n _ hn).mono ?_; rintro e w1 ⟨rfl, hb⟩)
  go_ret
  exact ⟨w1, rfl, by rw [putN_cells], hb⟩

set_option maxHeartbeats 1000000 in
theorem join_any (a0 a1 a2 a3 a4 a5 a6 a7 : Nat) (w : World) (b0 : a0 < 256) (b1 : a1 < 256) (b2 : a2 < 256) (b3 : a3 < 256) (b4 : a4 < 256) (b5 : a5 < 256) (b6 : a6 < 256) (b7 : a7 < 256) :
    Calls Tryz.prog 170 #[.agg #[.int .u8 a0, .int .u8 a1, .int .u8 a2, .int .u8 a3, .int .u8 a4, .int .u8 a5, .int .u8 a6, .int .u8 a7]] w fun e w' => e = .returned (.int .u64 (joinN a0 a1 a2 a3 a4 a5 a6 a7 : Nat)) ∧ Below w.heap.size w w' := by
  have i0 : ∀ w, (Instr.index 194 (.agg #[.int .u8 a0, .int .u8 a1, .int .u8 a2, .int .u8 a3, .int .u8 a4, .int .u8 a5, .int .u8 a6, .int .u8 a7]) (.int .i64 0)).run Tryz.prog w = .ok (.int .u8 a0) w := fun _ => by kernel_rfl
  have i1 : ∀ w, (Instr.index 194 (.agg #[.int .u8 a0, .int .u8 a1, .int .u8 a2, .int .u8 a3, .int .u8 a4, .int .u8 a5, .int .u8 a6, .int .u8 a7]) (.int .i64 1)).run Tryz.prog w = .ok (.int .u8 a1) w := fun _ => by kernel_rfl
  have i2 : ∀ w, (Instr.index 194 (.agg #[.int .u8 a0, .int .u8 a1, .int .u8 a2, .int .u8 a3, .int .u8 a4, .int .u8 a5, .int .u8 a6, .int .u8 a7]) (.int .i64 2)).run Tryz.prog w = .ok (.int .u8 a2) w := fun _ => by kernel_rfl
  have i3 : ∀ w, (Instr.index 194 (.agg #[.int .u8 a0, .int .u8 a1, .int .u8 a2, .int .u8 a3, .int .u8 a4, .int .u8 a5, .int .u8 a6, .int .u8 a7]) (.int .i64 3)).run Tryz.prog w = .ok (.int .u8 a3) w := fun _ => by kernel_rfl
  have i4 : ∀ w, (Instr.index 194 (.agg #[.int .u8 a0, .int .u8 a1, .int .u8 a2, .int .u8 a3, .int .u8 a4, .int .u8 a5, .int .u8 a6, .int .u8 a7]) (.int .i64 4)).run Tryz.prog w = .ok (.int .u8 a4) w := fun _ => by kernel_rfl
  have i5 : ∀ w, (Instr.index 194 (.agg #[.int .u8 a0, .int .u8 a1, .int .u8 a2, .int .u8 a3, .int .u8 a4, .int .u8 a5, .int .u8 a6, .int .u8 a7]) (.int .i64 5)).run Tryz.prog w = .ok (.int .u8 a5) w := fun _ => by kernel_rfl
  have i6 : ∀ w, (Instr.index 194 (.agg #[.int .u8 a0, .int .u8 a1, .int .u8 a2, .int .u8 a3, .int .u8 a4, .int .u8 a5, .int .u8 a6, .int .u8 a7]) (.int .i64 6)).run Tryz.prog w = .ok (.int .u8 a6) w := fun _ => by kernel_rfl
  have i7 : ∀ w, (Instr.index 194 (.agg #[.int .u8 a0, .int .u8 a1, .int .u8 a2, .int .u8 a3, .int .u8 a4, .int .u8 a5, .int .u8 a6, .int .u8 a7]) (.int .i64 7)).run Tryz.prog w = .ok (.int .u8 a7) w := fun _ => by kernel_rfl
  have e0 : bits BinOp.or IntKind.u64 0 (a0 : Int) = (a0 : Int) := by rw [show (0 : Int) = ((0 : Nat) : Int) from rfl]; exact or_join 0 0 a0 a0 (by decide) (by omega) _ (by simp) (by simp)
  obtain ⟨s1, h1⟩ : ∃ s, s = a1 * 256 + a0 := ⟨_, rfl⟩
  have e1 : bits BinOp.or IntKind.u64 (a0 : Int) ((a1 : Int) * 256) = (s1 : Int) := or_join 8 a0 a1 s1 (by omega) (by omega) _ (by omega) (by omega)
  obtain ⟨s2, h2⟩ : ∃ s, s = a2 * 65536 + s1 := ⟨_, rfl⟩
  have e2 : bits BinOp.or IntKind.u64 (s1 : Int) ((a2 : Int) * 65536) = (s2 : Int) := or_join 16 s1 a2 s2 (by omega) (by omega) _ (by omega) (by omega)
  obtain ⟨s3, h3⟩ : ∃ s, s = a3 * 16777216 + s2 := ⟨_, rfl⟩
  have e3 : bits BinOp.or IntKind.u64 (s2 : Int) ((a3 : Int) * 16777216) = (s3 : Int) := or_join 24 s2 a3 s3 (by omega) (by omega) _ (by omega) (by omega)
  obtain ⟨s4, h4⟩ : ∃ s, s = a4 * 4294967296 + s3 := ⟨_, rfl⟩
  have e4 : bits BinOp.or IntKind.u64 (s3 : Int) ((a4 : Int) * 4294967296) = (s4 : Int) := or_join 32 s3 a4 s4 (by omega) (by omega) _ (by omega) (by omega)
  obtain ⟨s5, h5⟩ : ∃ s, s = a5 * 1099511627776 + s4 := ⟨_, rfl⟩
  have e5 : bits BinOp.or IntKind.u64 (s4 : Int) ((a5 : Int) * 1099511627776) = (s5 : Int) := or_join 40 s4 a5 s5 (by omega) (by omega) _ (by omega) (by omega)
  obtain ⟨s6, h6⟩ : ∃ s, s = a6 * 281474976710656 + s5 := ⟨_, rfl⟩
  have e6 : bits BinOp.or IntKind.u64 (s5 : Int) ((a6 : Int) * 281474976710656) = (s6 : Int) := or_join 48 s5 a6 s6 (by omega) (by omega) _ (by omega) (by omega)
  obtain ⟨s7, h7⟩ : ∃ s, s = a7 * 72057594037927936 + s6 := ⟨_, rfl⟩
  have e7 : bits BinOp.or IntKind.u64 (s6 : Int) ((a7 : Int) * 72057594037927936) = (s7 : Int) := or_join 56 s6 a7 s7 (by omega) (by omega) _ (by omega) (by omega)
  have H : Hid (joinN a0 a1 a2 a3 a4 a5 a6 a7 = s7) := by show _ = _; unfold joinN; omega
  clear h1 h2 h3 h4 h5 h6 h7
  go_enter Tryz.func170, Tryz.ntmps170
  go_wp2
  refine wp_loop_rounds 9 ?_
  iterate 9 (rw [rounds_succ]; go_wp2)
  go_ret
  exact ⟨by rw [H.out]; rfl, (Below.refl _ _).alloc (Nat.le_refl _) _⟩
end Go.Proofs.YtglcpfnpbcnejaaGreatDoor
namespace Go.Proofs.YtglcpfnpbcnejaaGreatDoor
open Go.RowKit Go.WideShapes

set_option maxHeartbeats 400000 in
theorem get_ok (p : Option Addr) (c : Nat) (a0 a1 a2 a3 a4 a5 a6 a7 : Nat) (w : World) (hb : BIn w p [a0, a1, a2, a3, a4, a5, a6, a7]) :
    Calls Tryz.prog 143 #[.slice p 8 c] w fun e w' => e = .returned (.tuple #[.int .u64 (joinN a0 a1 a2 a3 a4 a5 a6 a7 : Nat), .int .i64 0]) ∧ Below w.heap.size w w' := by
  obtain ⟨b, o, rfl, hc⟩ := hb.1 (by simp)
  have c0 : w.cell? ⟨b, o, none⟩ = some (.int .u8 a0) := hc 0 (by simp)
  have c1 : w.cell? ⟨b, o + 1, none⟩ = some (.int .u8 a1) := hc 1 (by simp)
  have c2 : w.cell? ⟨b, o + 2, none⟩ = some (.int .u8 a2) := hc 2 (by simp)
  have c3 : w.cell? ⟨b, o + 3, none⟩ = some (.int .u8 a3) := hc 3 (by simp)
  have c4 : w.cell? ⟨b, o + 4, none⟩ = some (.int .u8 a4) := hc 4 (by simp)
  have c5 : w.cell? ⟨b, o + 5, none⟩ = some (.int .u8 a5) := hc 5 (by simp)
  have c6 : w.cell? ⟨b, o + 6, none⟩ = some (.int .u8 a6) := hc 6 (by simp)
  have c7 : w.cell? ⟨b, o + 7, none⟩ = some (.int .u8 a7) := hc 7 (by simp)
  have hl := hb.2
  simp only [List.mem_cons, List.not_mem_nil, or_false, forall_eq_or_imp, forall_eq] at hl
  obtain ⟨l0, l1, l2, l3, l4, l5, l6, l7⟩ := hl
  clear hb hc
  have hat : ∀ w, (Instr.arrayAt 194 (.slice (some ⟨b, o, none⟩) 8 c)).run Tryz.prog w = .ok (.pointer (some ⟨b, o, none⟩)) w := fun _ => by kernel_rfl
  go_enter Tryz.func143, Tryz.ntmps143
  go_wp2_with (go_at_call 170; refine (join_any a0 a1 a2 a3 a4 a5 a6 a7 _ l0 l1 l2 l3 l4 l5 l6 l7).mono ?_; rintro e w1 ⟨rfl, hb⟩)
  go_ret2
  exact ⟨rfl, hb⟩
end Go.Proofs.YtglcpfnpbcnejaaGreatDoor
namespace Go.Proofs.YtglcpfnpbcnejaaGreatDoor
open Go.RowKit Go.WideShapes

theorem read_fits (k acc c : Nat) (hk : k ≤ 9) (hacc : acc < 2 ^ (7 * k)) (hc : k = 9 → c ≤ 1) : c % 128 * 2 ^ (7 * k) + acc < 18446744073709551616 := by
  by_cases h : k = 9
  · have := hc h; subst h; simp only [Nat.reduceMul, Nat.reducePow] at *; omega
  · have h1 : (2 : Nat) ^ (7 * k) ≤ 2 ^ 56 := Nat.pow_le_pow_right (by decide) (by omega)
    have h2 : c % 128 * 2 ^ (7 * k) ≤ 127 * 2 ^ 56 := Nat.mul_le_mul (by omega) h1
    have h3 : (127 : Nat) * 2 ^ 56 = 9151314442816847872 := by decide
    have h4 : (2 : Nat) ^ 56 = 72057594037927936 := by decide
    omega
theorem or_read (k acc c : Nat) (hk : k ≤ 9) (hacc : acc < 2 ^ (7 * k)) (hc : k = 9 → c ≤ 1) :
    bits BinOp.or IntKind.u64 (acc : Int) (IntKind.u64.wrap ((c : Int) % 128 * 2 ^ (7 * k))) = ((c % 128 * 2 ^ (7 * k) + acc : Nat) : Int) := by
  have hf := read_fits k acc c hk hacc hc
  refine or_join (7 * k) acc (c % 128) _ hacc hf _ ?_ rfl
  rw [IntKind.wrap_u64]
  have e : ((c % 128 * 2 ^ (7 * k) : Nat) : Int) = (c : Int) % 128 * 2 ^ (7 * k) := by simp
  rw [← e]
  omega
theorem acc_lt (k acc c : Nat) (hacc : acc < 2 ^ (7 * k)) : c % 128 * 2 ^ (7 * k) + acc < 2 ^ (7 * (k + 1)) := by
  rw [show 7 * (k + 1) = 7 * k + 7 from by omega, Nat.pow_add]
  have : c % 128 * 2 ^ (7 * k) ≤ 127 * 2 ^ (7 * k) := Nat.mul_le_mul_right _ (by omega)
  omega
theorem aux_hi {k acc c : Nat} {ys : List Nat} (h9 : ¬ (k = 9 ∧ 1 < c)) (h : 128 ≤ c) : readAux k acc (c :: ys) = readAux (k + 1) (c % 128 * 2 ^ (7 * k) + acc) ys := by rw [readAux, if_neg h9, if_pos h]
theorem aux_big {k acc c : Nat} {ys : List Nat} (h9 : k = 9 ∧ 1 < c) : readAux k acc (c :: ys) = none := by rw [readAux, if_pos h9]
theorem aux_zero {k acc c : Nat} {ys : List Nat} (h9 : ¬ (k = 9 ∧ 1 < c)) (h : ¬ 128 ≤ c) (h0 : c = 0 ∧ 0 < k) : readAux k acc (c :: ys) = none := by rw [readAux, if_neg h9, if_neg h, if_pos h0]
theorem aux_end {k acc c : Nat} {ys : List Nat} (h9 : ¬ (k = 9 ∧ 1 < c)) (h : ¬ 128 ≤ c) (h0 : ¬ (c = 0 ∧ 0 < k)) : readAux k acc (c :: ys) = some (c % 128 * 2 ^ (7 * k) + acc, k + 1) := by
  rw [readAux, if_neg h9, if_neg h, if_neg h0, Nat.mod_eq_of_lt (by omega)]
theorem drop_at (xs : List Nat) (k : Nat) (h : k < xs.length) : xs.drop k = xs.getD k 0 :: xs.drop (k + 1) := by
  rw [List.drop_eq_getElem_cons h]; simp [List.getD, List.getElem?_eq_getElem h]

/-- What Read answers. -/
def readV : Option (Nat × Nat) → Value
  | some (n, k) => .tuple #[.int .u64 n, .int .i64 k, .int .i64 0]
  | none => .tuple #[.int .u64 0, .int .i64 0, .int .i64 8]

set_option maxHeartbeats 400000 in
set_option maxRecDepth 100000 in
theorem read_any (p : Option Addr) (cap : Nat) (xs : List Nat) (w : World) (hb : BIn w p xs) (hm : xs.length ≤ maxLen) :
    Calls Tryz.prog 173 #[.slice p xs.length cap] w fun e w' => e = .returned (readV (readN xs)) ∧ w' = w := by
  unfold maxLen at hm
  have hlt := hb.2
  go_enter Tryz.func173, Tryz.ntmps173
  go_wp2
  go_loop [5, 10] (fun t i => ∃ k acc : Nat, k ≤ xs.length ∧ k ≤ 9 ∧ acc < 2 ^ (7 * k) ∧ i = .int .i64 k ∧ t = .int .u64 acc ∧ readN xs = readAux k acc (xs.drop k)) (fun _ i => xs.length - (intOf i).toNat)
  case atStart => exact ⟨0, 0, by omega, by omega, by decide, rfl, rfl, rfl⟩
  case round =>
    obtain ⟨k, acc, hk, hk9, hacc, rfl, rfl, hR⟩ := hrel
    have HR : Hid _ := hR
    clear hR
    have HA : Hid (acc < 2 ^ (7 * k)) := hacc
    clear hacc
    by_cases hkl : k < xs.length
    · obtain ⟨b, o, rfl, hc⟩ := hb.1 (by omega)
      have hck := hc k hkl
      have hb8 := getD_lt hlt k
      have HD : Hid _ := drop_at xs k hkl
      have ha := and127 (xs.getD k 0) hb8
      generalize xs.getD k 0 = c at *
      clear hc hlt
      by_cases h9 : k = 9 ∧ 1 < c
      · have e : Hid (readN xs = none) := by show _ = _; rw [HR.out, HD.out, aux_big h9]
        obtain ⟨rfl, h1⟩ := h9
        go_wp2
        go_ret3
        exact ⟨by rw [e.out]; rfl, rfl⟩
      · have hor := or_read k acc c hk9 HA.out (by omega)
        have hfit := read_fits k acc c hk9 HA.out (by omega)
        have hal : Hid _ := acc_lt k acc c HA.out
        by_cases hc128 : 128 ≤ c
        · have e : Hid _ := HD.out ▸ aux_hi (acc := acc) (ys := xs.drop (k + 1)) h9 hc128
          have h9' : k ≤ 8 := by omega
          have h9b : ((k : Int) == 9) = false := by simp; omega
          generalize c % 128 * 2 ^ (7 * k) + acc = z at *
          go_wp2
          go_round
          case rel => exact ⟨k + 1, z, by omega, by omega, hal.out, by go_num, rfl, by rw [HR.out, e.out]⟩
          case measure => simp [intOf]; omega
        · have h9b : ∃ t, ((k : Int) == 9) = t := ⟨_, rfl⟩
          have h0b : ∃ t, ((c : Int) == 0) = t := ⟨_, rfl⟩
          have h1b : ¬ ((k : Int) == 9) = true ∨ (c : Int) ≤ 1 := by simp; omega
          by_cases h0 : c = 0 ∧ 0 < k
          · have e : Hid _ := HD.out ▸ aux_zero (acc := acc) (ys := xs.drop (k + 1)) h9 hc128 h0
            generalize c % 128 * 2 ^ (7 * k) + acc = z at *
            have hc0 : ((c : Int) == 0) = true := by simp; omega
            have hk0 : 0 < k := h0.2
            have hc1 : c ≤ 1 := by omega
            clear h0 h0b h9 h1b
            obtain ⟨t, ht⟩ := h9b
            cases t
            all_goals
              go_wp2
              go_ret3
              exact ⟨by rw [HR.out, e.out]; rfl, rfl⟩
          · have e : Hid _ := HD.out ▸ aux_end (acc := acc) (ys := xs.drop (k + 1)) h9 hc128 h0
            generalize c % 128 * 2 ^ (7 * k) + acc = z at *
            obtain ⟨t, ht⟩ := h9b
            obtain ⟨u, hu⟩ := h0b
            cases t
            · cases u
              · clear h0 h9 h1b
                go_wp2
                go_ret3
                exact ⟨by rw [HR.out, e.out]; rfl, rfl⟩
              · have hk0 : k ≤ 0 := by simp at hu; omega
                clear h0 h9 h1b
                go_wp2
                go_ret3
                exact ⟨by rw [HR.out, e.out]; rfl, rfl⟩
            · have hc1 : c ≤ 1 := by simp [ht] at h1b; omega
              have hk0 : 0 < k := by simp at ht; omega
              cases u
              · clear h0 h9 h1b
                go_wp2
                go_ret3
                exact ⟨by rw [HR.out, e.out]; rfl, rfl⟩
              · exact absurd ⟨by simpa using hu, hk0⟩ h0
    · have e : k = xs.length := by omega
      subst e
      have e : Hid (readN xs = none) := by show _ = _; rw [HR.out, List.drop_length]; rfl
      go_wp2
      go_ret3
      exact ⟨by rw [e.out]; rfl, rfl⟩
end Go.Proofs.YtglcpfnpbcnejaaGreatDoor
namespace Go.Proofs.YtglcpfnpbcnejaaGreatDoor
open Go.RowKit Go.WideShapes

theorem pow_step (i : Nat) : 2 ^ (7 * (i + 1)) = 128 * 2 ^ (7 * i) := by
  rw [show 7 * (i + 1) = 7 * i + 7 from by omega, Nat.pow_add, Nat.mul_comm]
theorem aux_back (rest : List Nat) (m : Nat) : ∀ i acc, i ≤ 9 → m * 2 ^ (7 * i) < 18446744073709551616 → (0 < i → 0 < m) → readAux i acc (smallN m ++ rest) = some (m * 2 ^ (7 * i) + acc, i + (smallN m).length) := by
  induction m using Nat.strongRecOn with
  | _ m ih =>
    intro i acc hi hm h0
    by_cases hlt : m < 128
    · rw [smallN_lo hlt]
      have h9 : ¬ (i = 9 ∧ 1 < m) := by
        rintro ⟨rfl, h1⟩
        simp only [Nat.reduceMul, Nat.reducePow] at hm
        omega
      have := aux_end (acc := acc) (ys := rest) h9 (by omega) (show ¬ (m = 0 ∧ 0 < i) from by omega)
      simp only [List.cons_append, List.nil_append, List.length_cons, List.length_nil]
      rw [this, Nat.mod_eq_of_lt hlt]
    · rw [smallN_hi hlt]
      have h9 : ¬ (i = 9 ∧ 1 < m % 128 + 128) := by
        rintro ⟨rfl, _⟩
        simp only [Nat.reduceMul, Nat.reducePow] at hm
        omega
      have hd : m = 128 * (m / 128) + m % 128 := by omega
      have e : m / 128 * 2 ^ (7 * (i + 1)) + ((m % 128 + 128) % 128 * 2 ^ (7 * i) + acc) = m * 2 ^ (7 * i) + acc := by
        rw [pow_step, show (m % 128 + 128) % 128 = m % 128 from by omega, ← Nat.mul_assoc, ← Nat.add_assoc, ← Nat.add_mul, Nat.mul_comm (m / 128) 128, ← hd]
      have hm' : m / 128 * 2 ^ (7 * (i + 1)) < 18446744073709551616 := by
        have : m / 128 * 2 ^ (7 * (i + 1)) ≤ m * 2 ^ (7 * i) := by
          rw [pow_step, ← Nat.mul_assoc]
          exact Nat.mul_le_mul_right _ (by omega)
        omega
      have hi8 : i + 1 ≤ 9 := by
        rcases Nat.lt_or_ge i 9 with h | h
        · omega
        · obtain rfl : i = 9 := by omega
          exact absurd ⟨rfl, by omega⟩ h9
      have := aux_hi (acc := acc) (ys := smallN (m / 128) ++ rest) h9 (by omega)
      rw [List.cons_append, this, ih (m / 128) (by omega) (i + 1) _ hi8 hm' (by omega), e]
      simp; omega
theorem read_back (n : Nat) (rest : List Nat) (hn : n < 18446744073709551616) : readN (smallN n ++ rest) = some (n, (smallN n).length) := by
  have := aux_back rest n 0 0 (by omega) (by simpa using hn) (by omega)
  simpa [readN] using this
theorem aux_only (ys : List Nat) : ∀ {i acc n k : Nat}, (∀ c ∈ ys, c < 256) → readAux i acc ys = some (n, k) → ∃ m, n = m * 2 ^ (7 * i) + acc ∧ i < k ∧ ys.take (k - i) = smallN m ∧ (0 < i → 0 < m) := by
  induction ys with
  | nil => intro i acc n k _ h; simp [readAux] at h
  | cons c ys ih =>
    intro i acc n k hy h
    have hc256 := hy c (by simp)
    by_cases h9 : i = 9 ∧ 1 < c
    · rw [aux_big h9] at h; cases h
    · by_cases hc : 128 ≤ c
      · rw [aux_hi h9 hc] at h
        obtain ⟨m, hn, hk, ht, h0⟩ := ih (fun c hc => hy c (by simp [hc])) h
        have hm0 := h0 (by omega)
        refine ⟨128 * m + c % 128, ?_, by omega, ?_, by omega⟩
        · rw [hn, pow_step, ← Nat.mul_assoc, ← Nat.add_assoc, ← Nat.add_mul, Nat.mul_comm m 128]
        · rw [smallN_hi (by omega), show (128 * m + c % 128) / 128 = m from by omega, show (128 * m + c % 128) % 128 + 128 = c from by omega, ← ht, show k - i = (k - (i + 1)) + 1 from by omega, List.take_succ_cons]
      · by_cases h0 : c = 0 ∧ 0 < i
        · rw [aux_zero h9 hc h0] at h; cases h
        · rw [aux_end h9 hc h0] at h
          simp only [Option.some.injEq, Prod.mk.injEq] at h
          refine ⟨c, ?_, by omega, ?_, by omega⟩
          · rw [← h.1, Nat.mod_eq_of_lt (by omega)]
          · rw [← h.2, show i + 1 - i = 1 from by omega, smallN_lo (by omega)]; simp
theorem read_only {xs : List Nat} {n k : Nat} (hx : ∀ c ∈ xs, c < 256) (h : readN xs = some (n, k)) : xs.take k = smallN n := by
  obtain ⟨m, hn, _, ht, _⟩ := aux_only xs hx h
  obtain rfl : n = m := by simpa using hn
  simpa using ht
end Go.Proofs.YtglcpfnpbcnejaaGreatDoor
