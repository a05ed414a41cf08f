/-
  utf8.FullRuneInString: the program's.
-/
import Derived.Test.YtcfalgomcdmdhaaDoorJSt
import Derived.Test.YtcfalgomcdmdhaaDoorJUtf
import Derived.Test.YtcfalgomcdmdhaaDoorXShelfU
namespace Go.Proofs.YtcfalgomcdmdhaaDoor
open Go.RowKit Go.WideShapes Go.Joins

theorem below_box (w : World) (n : Nat) (o : Obj) : Below w.heap.size w ((w.alloc o).drewN n) := below_dN ((Below.refl _ _).alloc (Nat.le_refl _) o) n
theorem nums_byte (s : ByteArray) (k : Nat) (h : k < s.size) : (numsOf s).getD k 0 < 256 := by
  refine numsOf_lt s _ ?_
  rw [List.getD_eq_getElem?_getD, List.getElem?_eq_getElem (by rw [numsOf_len]; exact h)]
  exact List.getElem_mem _
set_option maxHeartbeats 4000000 in
set_option maxRecDepth 8000 in
theorem full_any (s : ByteArray) (w : World) (hs : s.size ≤ 100000) (hT : Lib.Utf8Tabs 0 1 w) :
    Calls Tryd.prog 105 #[.string s] w fun e w' => e = .returned (.bool (fullN (numsOf s))) ∧ Below w.heap.size w w' := by
  have hl := numsOf_len s
  obtain ⟨n, hn⟩ : ∃ n, s.size = n := ⟨_, rfl⟩
  by_cases h0 : n = 0
  · have hF : fullN (numsOf s) = false := by unfold fullN; rw [hl, hn, h0]; rfl
    rw [hF]
    have hI : ((s.size : Int) == 0) = true := by rw [hn, h0]; rfl
    clear hF hT hl
    go_enter Tryd.func105, Tryd.ntmps105
    go_wp2
    go_ret
    exact ⟨rfl, Below.refl _ _⟩
  have x0 := fun w' => str_at s 0 (by omega) w'
  have B0 := nums_byte s 0 (by omega)
  have hT1 := hT.1 _ B0
  have hT2 := hT.2
  obtain ⟨b0, hb0⟩ : ∃ b, (numsOf s).getD 0 0 = b := ⟨_, rfl⟩
  rw [hb0] at x0 hT1 B0
  have hX := Lib.firstT_cases b0
  have hF : fullN (numsOf s) = decide (0 < n ∧ (Lib.firstT b0 % 8 ≤ n ∨ (1 < n ∧ ((numsOf s).getD 1 0 < Lib.accLo (Lib.firstT b0 / 16) ∨ Lib.accHi (Lib.firstT b0 / 16) < (numsOf s).getD 1 0)) ∨ (2 < n ∧ ((numsOf s).getD 2 0 < 128 ∨ 191 < (numsOf s).getD 2 0)))) := by
    unfold fullN; rw [hl, hn, hb0]
  rw [hF]
  have hz : ((s.size : Int) == 0) = false := by simpa using fun e : (s.size : Int) = 0 => h0 (by omega)
  have hnI : (s.size : Int) = (n : Int) := by omega
  rw [hnI] at hz
  have hn0 : 0 < n := by omega
  have x1 : 1 < n → ∀ w', (Instr.index 9 (.string s) (.int .i64 1)).run Tryd.prog w' = .ok (.int .u8 ((numsOf s).getD 1 0 : Nat)) w' := fun h w' => str_at s 1 (by omega) w'
  have x2 : 2 < n → ∀ w', (Instr.index 9 (.string s) (.int .i64 2)).run Tryd.prog w' = .ok (.int .u8 ((numsOf s).getD 2 0 : Nat)) w' := fun h w' => str_at s 2 (by omega) w'
  have B1 : 1 < n → (numsOf s).getD 1 0 < 256 := fun h => nums_byte s 1 (by omega)
  have B2 : 2 < n → (numsOf s).getD 2 0 < 256 := fun h => nums_byte s 2 (by omega)
  generalize (numsOf s).getD 1 0 = b1 at x1 B1 ⊢
  generalize (numsOf s).getD 2 0 = b2 at x2 B2 ⊢
  have y0 : ∀ w', (Instr.index 9 (.string s) (.int .i64 0)).run Tryd.prog w' = .ok (.int .u8 (b0 : Nat)) w' := x0
  clear hF hl hb0 x0 hT
  generalize Lib.firstT b0 = X at hT1 hX ⊢
  rcases hX with hX | hX | hX | hX | hX | hX | hX | hX | hX
  · subst hX
    rw [show Lib.accLo (240 / 16) = 0 from rfl, show Lib.accHi (240 / 16) = 0 from rfl, show 240 % 8 = 0 from rfl]
    rw [show (((240 : Nat) : Int)) = 240 from rfl] at hT1
    clear hT2
    have HV : Hid (decide (0 < n ∧ (0 ≤ n ∨ (1 < n ∧ (b1 < 0 ∨ 0 < b1)) ∨ (2 < n ∧ (b2 < 128 ∨ 191 < b2)))) = true) := decide_eq_true ⟨by omega, by omega⟩
    have hge : (0 : Int) ≤ (n : Int) := by omega
    rw [HV.out]
    go_enter Tryd.func105, Tryd.ntmps105
    go_wp2
    go_ret
    refine ⟨rfl, ?_⟩
    first | exact Below.refl _ _ | exact below_box _ _ _
  · subst hX
    rw [show Lib.accLo (241 / 16) = 0 from rfl, show Lib.accHi (241 / 16) = 0 from rfl, show 241 % 8 = 1 from rfl]
    rw [show (((241 : Nat) : Int)) = 241 from rfl] at hT1
    clear hT2
    have HV : Hid (decide (0 < n ∧ (1 ≤ n ∨ (1 < n ∧ (b1 < 0 ∨ 0 < b1)) ∨ (2 < n ∧ (b2 < 128 ∨ 191 < b2)))) = true) := decide_eq_true ⟨by omega, by omega⟩
    have hge : (1 : Int) ≤ (n : Int) := by omega
    rw [HV.out]
    go_enter Tryd.func105, Tryd.ntmps105
    go_wp2
    go_ret
    refine ⟨rfl, ?_⟩
    first | exact Below.refl _ _ | exact below_box _ _ _
  · subst hX
    rw [show Lib.accLo (2 / 16) = 128 from rfl, show Lib.accHi (2 / 16) = 191 from rfl, show 2 % 8 = 2 from rfl]
    rw [show (((2 : Nat) : Int)) = 2 from rfl] at hT1
    obtain ⟨a1, a2⟩ := hT2 0 (by decide)
    rw [show Lib.accLo 0 = 128 from rfl, show 2 * 0 = 0 from rfl] at a1
    rw [show Lib.accHi 0 = 191 from rfl, show 2 * 0 + 1 = 1 from rfl] at a2
    rw [show (((128 : Nat) : Int)) = 128 from rfl] at a1
    rw [show (((191 : Nat) : Int)) = 191 from rfl] at a2
    clear hT2
    by_cases hge : 2 ≤ n
    · have HV : Hid (decide (0 < n ∧ (2 ≤ n ∨ (1 < n ∧ (b1 < 128 ∨ 191 < b1)) ∨ (2 < n ∧ (b2 < 128 ∨ 191 < b2)))) = true) := decide_eq_true ⟨by omega, by omega⟩
      have hgI : (2 : Int) ≤ (n : Int) := by omega
      rw [HV.out]
      go_enter Tryd.func105, Tryd.ntmps105
      go_wp2
      go_ret
      refine ⟨rfl, ?_⟩
      first | exact Below.refl _ _ | exact below_box _ _ _
    by_cases m1 : n = 1
    · subst m1
      have HV : Hid (decide (0 < 1 ∧ (2 ≤ 1 ∨ (1 < 1 ∧ (b1 < 128 ∨ 191 < b1)) ∨ (2 < 1 ∧ (b2 < 128 ∨ 191 < b2)))) = false) := decide_eq_false (by omega)
      rw [HV.out]
      go_enter Tryd.func105, Tryd.ntmps105
      go_wp2
      go_quiet (fail)
      go_wp2
      go_ret
      refine ⟨rfl, ?_⟩
      first | exact Below.refl _ _ | exact below_box _ _ _
    omega
  · subst hX
    rw [show Lib.accLo (19 / 16) = 160 from rfl, show Lib.accHi (19 / 16) = 191 from rfl, show 19 % 8 = 3 from rfl]
    rw [show (((19 : Nat) : Int)) = 19 from rfl] at hT1
    obtain ⟨a1, a2⟩ := hT2 1 (by decide)
    rw [show Lib.accLo 1 = 160 from rfl, show 2 * 1 = 2 from rfl] at a1
    rw [show Lib.accHi 1 = 191 from rfl, show 2 * 1 + 1 = 3 from rfl] at a2
    rw [show (((160 : Nat) : Int)) = 160 from rfl] at a1
    rw [show (((191 : Nat) : Int)) = 191 from rfl] at a2
    clear hT2
    by_cases hge : 3 ≤ n
    · have HV : Hid (decide (0 < n ∧ (3 ≤ n ∨ (1 < n ∧ (b1 < 160 ∨ 191 < b1)) ∨ (2 < n ∧ (b2 < 128 ∨ 191 < b2)))) = true) := decide_eq_true ⟨by omega, by omega⟩
      have hgI : (3 : Int) ≤ (n : Int) := by omega
      rw [HV.out]
      go_enter Tryd.func105, Tryd.ntmps105
      go_wp2
      go_ret
      refine ⟨rfl, ?_⟩
      first | exact Below.refl _ _ | exact below_box _ _ _
    by_cases m1 : n = 1
    · subst m1
      have HV : Hid (decide (0 < 1 ∧ (3 ≤ 1 ∨ (1 < 1 ∧ (b1 < 160 ∨ 191 < b1)) ∨ (2 < 1 ∧ (b2 < 128 ∨ 191 < b2)))) = false) := decide_eq_false (by omega)
      rw [HV.out]
      go_enter Tryd.func105, Tryd.ntmps105
      go_wp2
      go_quiet (fail)
      go_wp2
      go_ret
      refine ⟨rfl, ?_⟩
      first | exact Below.refl _ _ | exact below_box _ _ _
    by_cases m2 : n = 2
    · subst m2
      have z1 := x1 (by decide)
      have c1 := B1 (by decide)
      by_cases q1 : b1 < 160
      · have HV : Hid (decide (0 < 2 ∧ (3 ≤ 2 ∨ (1 < 2 ∧ (b1 < 160 ∨ 191 < b1)) ∨ (2 < 2 ∧ (b2 < 128 ∨ 191 < b2)))) = true) := decide_eq_true ⟨by omega, by omega⟩
        have d1 : (b1 : Int) < 160 := by omega
        rw [HV.out]
        go_enter Tryd.func105, Tryd.ntmps105
        go_wp2
        go_quiet (fail)
        go_wp2
        go_ret
        refine ⟨rfl, ?_⟩
        first | exact Below.refl _ _ | exact below_box _ _ _
      by_cases q2 : 191 < b1
      · have HV : Hid (decide (0 < 2 ∧ (3 ≤ 2 ∨ (1 < 2 ∧ (b1 < 160 ∨ 191 < b1)) ∨ (2 < 2 ∧ (b2 < 128 ∨ 191 < b2)))) = true) := decide_eq_true ⟨by omega, by omega⟩
        have d1 : ¬ (b1 : Int) < 160 := by omega
        have d2 : (191 : Int) < (b1 : Int) := by omega
        rw [HV.out]
        go_enter Tryd.func105, Tryd.ntmps105
        go_wp2
        go_quiet (fail)
        go_wp2
        go_ret
        refine ⟨rfl, ?_⟩
        first | exact Below.refl _ _ | exact below_box _ _ _
      have HV : Hid (decide (0 < 2 ∧ (3 ≤ 2 ∨ (1 < 2 ∧ (b1 < 160 ∨ 191 < b1)) ∨ (2 < 2 ∧ (b2 < 128 ∨ 191 < b2)))) = false) := decide_eq_false (by omega)
      have d1 : ¬ (b1 : Int) < 160 := by omega
      have d2 : ¬ (191 : Int) < (b1 : Int) := by omega
      rw [HV.out]
      go_enter Tryd.func105, Tryd.ntmps105
      go_wp2
      go_quiet (fail)
      go_wp2
      go_ret
      refine ⟨rfl, ?_⟩
      first | exact Below.refl _ _ | exact below_box _ _ _
    omega
  · subst hX
    rw [show Lib.accLo (3 / 16) = 128 from rfl, show Lib.accHi (3 / 16) = 191 from rfl, show 3 % 8 = 3 from rfl]
    rw [show (((3 : Nat) : Int)) = 3 from rfl] at hT1
    obtain ⟨a1, a2⟩ := hT2 0 (by decide)
    rw [show Lib.accLo 0 = 128 from rfl, show 2 * 0 = 0 from rfl] at a1
    rw [show Lib.accHi 0 = 191 from rfl, show 2 * 0 + 1 = 1 from rfl] at a2
    rw [show (((128 : Nat) : Int)) = 128 from rfl] at a1
    rw [show (((191 : Nat) : Int)) = 191 from rfl] at a2
    clear hT2
    by_cases hge : 3 ≤ n
    · have HV : Hid (decide (0 < n ∧ (3 ≤ n ∨ (1 < n ∧ (b1 < 128 ∨ 191 < b1)) ∨ (2 < n ∧ (b2 < 128 ∨ 191 < b2)))) = true) := decide_eq_true ⟨by omega, by omega⟩
      have hgI : (3 : Int) ≤ (n : Int) := by omega
      rw [HV.out]
      go_enter Tryd.func105, Tryd.ntmps105
      go_wp2
      go_ret
      refine ⟨rfl, ?_⟩
      first | exact Below.refl _ _ | exact below_box _ _ _
    by_cases m1 : n = 1
    · subst m1
      have HV : Hid (decide (0 < 1 ∧ (3 ≤ 1 ∨ (1 < 1 ∧ (b1 < 128 ∨ 191 < b1)) ∨ (2 < 1 ∧ (b2 < 128 ∨ 191 < b2)))) = false) := decide_eq_false (by omega)
      rw [HV.out]
      go_enter Tryd.func105, Tryd.ntmps105
      go_wp2
      go_quiet (fail)
      go_wp2
      go_ret
      refine ⟨rfl, ?_⟩
      first | exact Below.refl _ _ | exact below_box _ _ _
    by_cases m2 : n = 2
    · subst m2
      have z1 := x1 (by decide)
      have c1 := B1 (by decide)
      by_cases q1 : b1 < 128
      · have HV : Hid (decide (0 < 2 ∧ (3 ≤ 2 ∨ (1 < 2 ∧ (b1 < 128 ∨ 191 < b1)) ∨ (2 < 2 ∧ (b2 < 128 ∨ 191 < b2)))) = true) := decide_eq_true ⟨by omega, by omega⟩
        have d1 : (b1 : Int) < 128 := by omega
        rw [HV.out]
        go_enter Tryd.func105, Tryd.ntmps105
        go_wp2
        go_quiet (fail)
        go_wp2
        go_ret
        refine ⟨rfl, ?_⟩
        first | exact Below.refl _ _ | exact below_box _ _ _
      by_cases q2 : 191 < b1
      · have HV : Hid (decide (0 < 2 ∧ (3 ≤ 2 ∨ (1 < 2 ∧ (b1 < 128 ∨ 191 < b1)) ∨ (2 < 2 ∧ (b2 < 128 ∨ 191 < b2)))) = true) := decide_eq_true ⟨by omega, by omega⟩
        have d1 : ¬ (b1 : Int) < 128 := by omega
        have d2 : (191 : Int) < (b1 : Int) := by omega
        rw [HV.out]
        go_enter Tryd.func105, Tryd.ntmps105
        go_wp2
        go_quiet (fail)
        go_wp2
        go_ret
        refine ⟨rfl, ?_⟩
        first | exact Below.refl _ _ | exact below_box _ _ _
      have HV : Hid (decide (0 < 2 ∧ (3 ≤ 2 ∨ (1 < 2 ∧ (b1 < 128 ∨ 191 < b1)) ∨ (2 < 2 ∧ (b2 < 128 ∨ 191 < b2)))) = false) := decide_eq_false (by omega)
      have d1 : ¬ (b1 : Int) < 128 := by omega
      have d2 : ¬ (191 : Int) < (b1 : Int) := by omega
      rw [HV.out]
      go_enter Tryd.func105, Tryd.ntmps105
      go_wp2
      go_quiet (fail)
      go_wp2
      go_ret
      refine ⟨rfl, ?_⟩
      first | exact Below.refl _ _ | exact below_box _ _ _
    omega
  · subst hX
    rw [show Lib.accLo (35 / 16) = 128 from rfl, show Lib.accHi (35 / 16) = 159 from rfl, show 35 % 8 = 3 from rfl]
    rw [show (((35 : Nat) : Int)) = 35 from rfl] at hT1
    obtain ⟨a1, a2⟩ := hT2 2 (by decide)
    rw [show Lib.accLo 2 = 128 from rfl, show 2 * 2 = 4 from rfl] at a1
    rw [show Lib.accHi 2 = 159 from rfl, show 2 * 2 + 1 = 5 from rfl] at a2
    rw [show (((128 : Nat) : Int)) = 128 from rfl] at a1
    rw [show (((159 : Nat) : Int)) = 159 from rfl] at a2
    clear hT2
    by_cases hge : 3 ≤ n
    · have HV : Hid (decide (0 < n ∧ (3 ≤ n ∨ (1 < n ∧ (b1 < 128 ∨ 159 < b1)) ∨ (2 < n ∧ (b2 < 128 ∨ 191 < b2)))) = true) := decide_eq_true ⟨by omega, by omega⟩
      have hgI : (3 : Int) ≤ (n : Int) := by omega
      rw [HV.out]
      go_enter Tryd.func105, Tryd.ntmps105
      go_wp2
      go_ret
      refine ⟨rfl, ?_⟩
      first | exact Below.refl _ _ | exact below_box _ _ _
    by_cases m1 : n = 1
    · subst m1
      have HV : Hid (decide (0 < 1 ∧ (3 ≤ 1 ∨ (1 < 1 ∧ (b1 < 128 ∨ 159 < b1)) ∨ (2 < 1 ∧ (b2 < 128 ∨ 191 < b2)))) = false) := decide_eq_false (by omega)
      rw [HV.out]
      go_enter Tryd.func105, Tryd.ntmps105
      go_wp2
      go_quiet (fail)
      go_wp2
      go_ret
      refine ⟨rfl, ?_⟩
      first | exact Below.refl _ _ | exact below_box _ _ _
    by_cases m2 : n = 2
    · subst m2
      have z1 := x1 (by decide)
      have c1 := B1 (by decide)
      by_cases q1 : b1 < 128
      · have HV : Hid (decide (0 < 2 ∧ (3 ≤ 2 ∨ (1 < 2 ∧ (b1 < 128 ∨ 159 < b1)) ∨ (2 < 2 ∧ (b2 < 128 ∨ 191 < b2)))) = true) := decide_eq_true ⟨by omega, by omega⟩
        have d1 : (b1 : Int) < 128 := by omega
        rw [HV.out]
        go_enter Tryd.func105, Tryd.ntmps105
        go_wp2
        go_quiet (fail)
        go_wp2
        go_ret
        refine ⟨rfl, ?_⟩
        first | exact Below.refl _ _ | exact below_box _ _ _
      by_cases q2 : 159 < b1
      · have HV : Hid (decide (0 < 2 ∧ (3 ≤ 2 ∨ (1 < 2 ∧ (b1 < 128 ∨ 159 < b1)) ∨ (2 < 2 ∧ (b2 < 128 ∨ 191 < b2)))) = true) := decide_eq_true ⟨by omega, by omega⟩
        have d1 : ¬ (b1 : Int) < 128 := by omega
        have d2 : (159 : Int) < (b1 : Int) := by omega
        rw [HV.out]
        go_enter Tryd.func105, Tryd.ntmps105
        go_wp2
        go_quiet (fail)
        go_wp2
        go_ret
        refine ⟨rfl, ?_⟩
        first | exact Below.refl _ _ | exact below_box _ _ _
      have HV : Hid (decide (0 < 2 ∧ (3 ≤ 2 ∨ (1 < 2 ∧ (b1 < 128 ∨ 159 < b1)) ∨ (2 < 2 ∧ (b2 < 128 ∨ 191 < b2)))) = false) := decide_eq_false (by omega)
      have d1 : ¬ (b1 : Int) < 128 := by omega
      have d2 : ¬ (159 : Int) < (b1 : Int) := by omega
      rw [HV.out]
      go_enter Tryd.func105, Tryd.ntmps105
      go_wp2
      go_quiet (fail)
      go_wp2
      go_ret
      refine ⟨rfl, ?_⟩
      first | exact Below.refl _ _ | exact below_box _ _ _
    omega
  · subst hX
    rw [show Lib.accLo (52 / 16) = 144 from rfl, show Lib.accHi (52 / 16) = 191 from rfl, show 52 % 8 = 4 from rfl]
    rw [show (((52 : Nat) : Int)) = 52 from rfl] at hT1
    obtain ⟨a1, a2⟩ := hT2 3 (by decide)
    rw [show Lib.accLo 3 = 144 from rfl, show 2 * 3 = 6 from rfl] at a1
    rw [show Lib.accHi 3 = 191 from rfl, show 2 * 3 + 1 = 7 from rfl] at a2
    rw [show (((144 : Nat) : Int)) = 144 from rfl] at a1
    rw [show (((191 : Nat) : Int)) = 191 from rfl] at a2
    clear hT2
    by_cases hge : 4 ≤ n
    · have HV : Hid (decide (0 < n ∧ (4 ≤ n ∨ (1 < n ∧ (b1 < 144 ∨ 191 < b1)) ∨ (2 < n ∧ (b2 < 128 ∨ 191 < b2)))) = true) := decide_eq_true ⟨by omega, by omega⟩
      have hgI : (4 : Int) ≤ (n : Int) := by omega
      rw [HV.out]
      go_enter Tryd.func105, Tryd.ntmps105
      go_wp2
      go_ret
      refine ⟨rfl, ?_⟩
      first | exact Below.refl _ _ | exact below_box _ _ _
    by_cases m1 : n = 1
    · subst m1
      have HV : Hid (decide (0 < 1 ∧ (4 ≤ 1 ∨ (1 < 1 ∧ (b1 < 144 ∨ 191 < b1)) ∨ (2 < 1 ∧ (b2 < 128 ∨ 191 < b2)))) = false) := decide_eq_false (by omega)
      rw [HV.out]
      go_enter Tryd.func105, Tryd.ntmps105
      go_wp2
      go_quiet (fail)
      go_wp2
      go_ret
      refine ⟨rfl, ?_⟩
      first | exact Below.refl _ _ | exact below_box _ _ _
    by_cases m2 : n = 2
    · subst m2
      have z1 := x1 (by decide)
      have c1 := B1 (by decide)
      by_cases q1 : b1 < 144
      · have HV : Hid (decide (0 < 2 ∧ (4 ≤ 2 ∨ (1 < 2 ∧ (b1 < 144 ∨ 191 < b1)) ∨ (2 < 2 ∧ (b2 < 128 ∨ 191 < b2)))) = true) := decide_eq_true ⟨by omega, by omega⟩
        have d1 : (b1 : Int) < 144 := by omega
        rw [HV.out]
        go_enter Tryd.func105, Tryd.ntmps105
        go_wp2
        go_quiet (fail)
        go_wp2
        go_ret
        refine ⟨rfl, ?_⟩
        first | exact Below.refl _ _ | exact below_box _ _ _
      by_cases q2 : 191 < b1
      · have HV : Hid (decide (0 < 2 ∧ (4 ≤ 2 ∨ (1 < 2 ∧ (b1 < 144 ∨ 191 < b1)) ∨ (2 < 2 ∧ (b2 < 128 ∨ 191 < b2)))) = true) := decide_eq_true ⟨by omega, by omega⟩
        have d1 : ¬ (b1 : Int) < 144 := by omega
        have d2 : (191 : Int) < (b1 : Int) := by omega
        rw [HV.out]
        go_enter Tryd.func105, Tryd.ntmps105
        go_wp2
        go_quiet (fail)
        go_wp2
        go_ret
        refine ⟨rfl, ?_⟩
        first | exact Below.refl _ _ | exact below_box _ _ _
      have HV : Hid (decide (0 < 2 ∧ (4 ≤ 2 ∨ (1 < 2 ∧ (b1 < 144 ∨ 191 < b1)) ∨ (2 < 2 ∧ (b2 < 128 ∨ 191 < b2)))) = false) := decide_eq_false (by omega)
      have d1 : ¬ (b1 : Int) < 144 := by omega
      have d2 : ¬ (191 : Int) < (b1 : Int) := by omega
      rw [HV.out]
      go_enter Tryd.func105, Tryd.ntmps105
      go_wp2
      go_quiet (fail)
      go_wp2
      go_ret
      refine ⟨rfl, ?_⟩
      first | exact Below.refl _ _ | exact below_box _ _ _
    by_cases m3 : n = 3
    · subst m3
      have z1 := x1 (by decide)
      have c1 := B1 (by decide)
      have z2 := x2 (by decide)
      have c2 := B2 (by decide)
      by_cases q1 : b1 < 144
      · have HV : Hid (decide (0 < 3 ∧ (4 ≤ 3 ∨ (1 < 3 ∧ (b1 < 144 ∨ 191 < b1)) ∨ (2 < 3 ∧ (b2 < 128 ∨ 191 < b2)))) = true) := decide_eq_true ⟨by omega, by omega⟩
        have d1 : (b1 : Int) < 144 := by omega
        rw [HV.out]
        go_enter Tryd.func105, Tryd.ntmps105
        go_wp2
        go_quiet (fail)
        go_wp2
        go_ret
        refine ⟨rfl, ?_⟩
        first | exact Below.refl _ _ | exact below_box _ _ _
      by_cases q2 : 191 < b1
      · have HV : Hid (decide (0 < 3 ∧ (4 ≤ 3 ∨ (1 < 3 ∧ (b1 < 144 ∨ 191 < b1)) ∨ (2 < 3 ∧ (b2 < 128 ∨ 191 < b2)))) = true) := decide_eq_true ⟨by omega, by omega⟩
        have d1 : ¬ (b1 : Int) < 144 := by omega
        have d2 : (191 : Int) < (b1 : Int) := by omega
        rw [HV.out]
        go_enter Tryd.func105, Tryd.ntmps105
        go_wp2
        go_quiet (fail)
        go_wp2
        go_ret
        refine ⟨rfl, ?_⟩
        first | exact Below.refl _ _ | exact below_box _ _ _
      by_cases q3 : b2 < 128
      · have HV : Hid (decide (0 < 3 ∧ (4 ≤ 3 ∨ (1 < 3 ∧ (b1 < 144 ∨ 191 < b1)) ∨ (2 < 3 ∧ (b2 < 128 ∨ 191 < b2)))) = true) := decide_eq_true ⟨by omega, by omega⟩
        have d1 : ¬ (b1 : Int) < 144 := by omega
        have d2 : ¬ (191 : Int) < (b1 : Int) := by omega
        have d3 : (b2 : Int) < 128 := by omega
        rw [HV.out]
        go_enter Tryd.func105, Tryd.ntmps105
        go_wp2
        go_quiet (fail)
        go_wp2
        go_ret
        refine ⟨rfl, ?_⟩
        first | exact Below.refl _ _ | exact below_box _ _ _
      by_cases q4 : 191 < b2
      · have HV : Hid (decide (0 < 3 ∧ (4 ≤ 3 ∨ (1 < 3 ∧ (b1 < 144 ∨ 191 < b1)) ∨ (2 < 3 ∧ (b2 < 128 ∨ 191 < b2)))) = true) := decide_eq_true ⟨by omega, by omega⟩
        have d1 : ¬ (b1 : Int) < 144 := by omega
        have d2 : ¬ (191 : Int) < (b1 : Int) := by omega
        have d3 : ¬ (b2 : Int) < 128 := by omega
        have d4 : (191 : Int) < (b2 : Int) := by omega
        rw [HV.out]
        go_enter Tryd.func105, Tryd.ntmps105
        go_wp2
        go_quiet (fail)
        go_wp2
        go_ret
        refine ⟨rfl, ?_⟩
        first | exact Below.refl _ _ | exact below_box _ _ _
      have HV : Hid (decide (0 < 3 ∧ (4 ≤ 3 ∨ (1 < 3 ∧ (b1 < 144 ∨ 191 < b1)) ∨ (2 < 3 ∧ (b2 < 128 ∨ 191 < b2)))) = false) := decide_eq_false (by omega)
      have d1 : ¬ (b1 : Int) < 144 := by omega
      have d2 : ¬ (191 : Int) < (b1 : Int) := by omega
      have d3 : ¬ (b2 : Int) < 128 := by omega
      have d4 : ¬ (191 : Int) < (b2 : Int) := by omega
      rw [HV.out]
      go_enter Tryd.func105, Tryd.ntmps105
      go_wp2
      go_quiet (fail)
      go_wp2
      go_ret
      refine ⟨rfl, ?_⟩
      first | exact Below.refl _ _ | exact below_box _ _ _
    omega
  · subst hX
    rw [show Lib.accLo (4 / 16) = 128 from rfl, show Lib.accHi (4 / 16) = 191 from rfl, show 4 % 8 = 4 from rfl]
    rw [show (((4 : Nat) : Int)) = 4 from rfl] at hT1
    obtain ⟨a1, a2⟩ := hT2 0 (by decide)
    rw [show Lib.accLo 0 = 128 from rfl, show 2 * 0 = 0 from rfl] at a1
    rw [show Lib.accHi 0 = 191 from rfl, show 2 * 0 + 1 = 1 from rfl] at a2
    rw [show (((128 : Nat) : Int)) = 128 from rfl] at a1
    rw [show (((191 : Nat) : Int)) = 191 from rfl] at a2
    clear hT2
    by_cases hge : 4 ≤ n
    · have HV : Hid (decide (0 < n ∧ (4 ≤ n ∨ (1 < n ∧ (b1 < 128 ∨ 191 < b1)) ∨ (2 < n ∧ (b2 < 128 ∨ 191 < b2)))) = true) := decide_eq_true ⟨by omega, by omega⟩
      have hgI : (4 : Int) ≤ (n : Int) := by omega
      rw [HV.out]
      go_enter Tryd.func105, Tryd.ntmps105
      go_wp2
      go_ret
      refine ⟨rfl, ?_⟩
      first | exact Below.refl _ _ | exact below_box _ _ _
    by_cases m1 : n = 1
    · subst m1
      have HV : Hid (decide (0 < 1 ∧ (4 ≤ 1 ∨ (1 < 1 ∧ (b1 < 128 ∨ 191 < b1)) ∨ (2 < 1 ∧ (b2 < 128 ∨ 191 < b2)))) = false) := decide_eq_false (by omega)
      rw [HV.out]
      go_enter Tryd.func105, Tryd.ntmps105
      go_wp2
      go_quiet (fail)
      go_wp2
      go_ret
      refine ⟨rfl, ?_⟩
      first | exact Below.refl _ _ | exact below_box _ _ _
    by_cases m2 : n = 2
    · subst m2
      have z1 := x1 (by decide)
      have c1 := B1 (by decide)
      by_cases q1 : b1 < 128
      · have HV : Hid (decide (0 < 2 ∧ (4 ≤ 2 ∨ (1 < 2 ∧ (b1 < 128 ∨ 191 < b1)) ∨ (2 < 2 ∧ (b2 < 128 ∨ 191 < b2)))) = true) := decide_eq_true ⟨by omega, by omega⟩
        have d1 : (b1 : Int) < 128 := by omega
        rw [HV.out]
        go_enter Tryd.func105, Tryd.ntmps105
        go_wp2
        go_quiet (fail)
        go_wp2
        go_ret
        refine ⟨rfl, ?_⟩
        first | exact Below.refl _ _ | exact below_box _ _ _
      by_cases q2 : 191 < b1
      · have HV : Hid (decide (0 < 2 ∧ (4 ≤ 2 ∨ (1 < 2 ∧ (b1 < 128 ∨ 191 < b1)) ∨ (2 < 2 ∧ (b2 < 128 ∨ 191 < b2)))) = true) := decide_eq_true ⟨by omega, by omega⟩
        have d1 : ¬ (b1 : Int) < 128 := by omega
        have d2 : (191 : Int) < (b1 : Int) := by omega
        rw [HV.out]
        go_enter Tryd.func105, Tryd.ntmps105
        go_wp2
        go_quiet (fail)
        go_wp2
        go_ret
        refine ⟨rfl, ?_⟩
        first | exact Below.refl _ _ | exact below_box _ _ _
      have HV : Hid (decide (0 < 2 ∧ (4 ≤ 2 ∨ (1 < 2 ∧ (b1 < 128 ∨ 191 < b1)) ∨ (2 < 2 ∧ (b2 < 128 ∨ 191 < b2)))) = false) := decide_eq_false (by omega)
      have d1 : ¬ (b1 : Int) < 128 := by omega
      have d2 : ¬ (191 : Int) < (b1 : Int) := by omega
      rw [HV.out]
      go_enter Tryd.func105, Tryd.ntmps105
      go_wp2
      go_quiet (fail)
      go_wp2
      go_ret
      refine ⟨rfl, ?_⟩
      first | exact Below.refl _ _ | exact below_box _ _ _
    by_cases m3 : n = 3
    · subst m3
      have z1 := x1 (by decide)
      have c1 := B1 (by decide)
      have z2 := x2 (by decide)
      have c2 := B2 (by decide)
      by_cases q1 : b1 < 128
      · have HV : Hid (decide (0 < 3 ∧ (4 ≤ 3 ∨ (1 < 3 ∧ (b1 < 128 ∨ 191 < b1)) ∨ (2 < 3 ∧ (b2 < 128 ∨ 191 < b2)))) = true) := decide_eq_true ⟨by omega, by omega⟩
        have d1 : (b1 : Int) < 128 := by omega
        rw [HV.out]
        go_enter Tryd.func105, Tryd.ntmps105
        go_wp2
        go_quiet (fail)
        go_wp2
        go_ret
        refine ⟨rfl, ?_⟩
        first | exact Below.refl _ _ | exact below_box _ _ _
      by_cases q2 : 191 < b1
      · have HV : Hid (decide (0 < 3 ∧ (4 ≤ 3 ∨ (1 < 3 ∧ (b1 < 128 ∨ 191 < b1)) ∨ (2 < 3 ∧ (b2 < 128 ∨ 191 < b2)))) = true) := decide_eq_true ⟨by omega, by omega⟩
        have d1 : ¬ (b1 : Int) < 128 := by omega
        have d2 : (191 : Int) < (b1 : Int) := by omega
        rw [HV.out]
        go_enter Tryd.func105, Tryd.ntmps105
        go_wp2
        go_quiet (fail)
        go_wp2
        go_ret
        refine ⟨rfl, ?_⟩
        first | exact Below.refl _ _ | exact below_box _ _ _
      by_cases q3 : b2 < 128
      · have HV : Hid (decide (0 < 3 ∧ (4 ≤ 3 ∨ (1 < 3 ∧ (b1 < 128 ∨ 191 < b1)) ∨ (2 < 3 ∧ (b2 < 128 ∨ 191 < b2)))) = true) := decide_eq_true ⟨by omega, by omega⟩
        have d1 : ¬ (b1 : Int) < 128 := by omega
        have d2 : ¬ (191 : Int) < (b1 : Int) := by omega
        have d3 : (b2 : Int) < 128 := by omega
        rw [HV.out]
        go_enter Tryd.func105, Tryd.ntmps105
        go_wp2
        go_quiet (fail)
        go_wp2
        go_ret
        refine ⟨rfl, ?_⟩
        first | exact Below.refl _ _ | exact below_box _ _ _
      by_cases q4 : 191 < b2
      · have HV : Hid (decide (0 < 3 ∧ (4 ≤ 3 ∨ (1 < 3 ∧ (b1 < 128 ∨ 191 < b1)) ∨ (2 < 3 ∧ (b2 < 128 ∨ 191 < b2)))) = true) := decide_eq_true ⟨by omega, by omega⟩
        have d1 : ¬ (b1 : Int) < 128 := by omega
        have d2 : ¬ (191 : Int) < (b1 : Int) := by omega
        have d3 : ¬ (b2 : Int) < 128 := by omega
        have d4 : (191 : Int) < (b2 : Int) := by omega
        rw [HV.out]
        go_enter Tryd.func105, Tryd.ntmps105
        go_wp2
        go_quiet (fail)
        go_wp2
        go_ret
        refine ⟨rfl, ?_⟩
        first | exact Below.refl _ _ | exact below_box _ _ _
      have HV : Hid (decide (0 < 3 ∧ (4 ≤ 3 ∨ (1 < 3 ∧ (b1 < 128 ∨ 191 < b1)) ∨ (2 < 3 ∧ (b2 < 128 ∨ 191 < b2)))) = false) := decide_eq_false (by omega)
      have d1 : ¬ (b1 : Int) < 128 := by omega
      have d2 : ¬ (191 : Int) < (b1 : Int) := by omega
      have d3 : ¬ (b2 : Int) < 128 := by omega
      have d4 : ¬ (191 : Int) < (b2 : Int) := by omega
      rw [HV.out]
      go_enter Tryd.func105, Tryd.ntmps105
      go_wp2
      go_quiet (fail)
      go_wp2
      go_ret
      refine ⟨rfl, ?_⟩
      first | exact Below.refl _ _ | exact below_box _ _ _
    omega
  · subst hX
    rw [show Lib.accLo (68 / 16) = 128 from rfl, show Lib.accHi (68 / 16) = 143 from rfl, show 68 % 8 = 4 from rfl]
    rw [show (((68 : Nat) : Int)) = 68 from rfl] at hT1
    obtain ⟨a1, a2⟩ := hT2 4 (by decide)
    rw [show Lib.accLo 4 = 128 from rfl, show 2 * 4 = 8 from rfl] at a1
    rw [show Lib.accHi 4 = 143 from rfl, show 2 * 4 + 1 = 9 from rfl] at a2
    rw [show (((128 : Nat) : Int)) = 128 from rfl] at a1
    rw [show (((143 : Nat) : Int)) = 143 from rfl] at a2
    clear hT2
    by_cases hge : 4 ≤ n
    · have HV : Hid (decide (0 < n ∧ (4 ≤ n ∨ (1 < n ∧ (b1 < 128 ∨ 143 < b1)) ∨ (2 < n ∧ (b2 < 128 ∨ 191 < b2)))) = true) := decide_eq_true ⟨by omega, by omega⟩
      have hgI : (4 : Int) ≤ (n : Int) := by omega
      rw [HV.out]
      go_enter Tryd.func105, Tryd.ntmps105
      go_wp2
      go_ret
      refine ⟨rfl, ?_⟩
      first | exact Below.refl _ _ | exact below_box _ _ _
    by_cases m1 : n = 1
    · subst m1
      have HV : Hid (decide (0 < 1 ∧ (4 ≤ 1 ∨ (1 < 1 ∧ (b1 < 128 ∨ 143 < b1)) ∨ (2 < 1 ∧ (b2 < 128 ∨ 191 < b2)))) = false) := decide_eq_false (by omega)
      rw [HV.out]
      go_enter Tryd.func105, Tryd.ntmps105
      go_wp2
      go_quiet (fail)
      go_wp2
      go_ret
      refine ⟨rfl, ?_⟩
      first | exact Below.refl _ _ | exact below_box _ _ _
    by_cases m2 : n = 2
    · subst m2
      have z1 := x1 (by decide)
      have c1 := B1 (by decide)
      by_cases q1 : b1 < 128
      · have HV : Hid (decide (0 < 2 ∧ (4 ≤ 2 ∨ (1 < 2 ∧ (b1 < 128 ∨ 143 < b1)) ∨ (2 < 2 ∧ (b2 < 128 ∨ 191 < b2)))) = true) := decide_eq_true ⟨by omega, by omega⟩
        have d1 : (b1 : Int) < 128 := by omega
        rw [HV.out]
        go_enter Tryd.func105, Tryd.ntmps105
        go_wp2
        go_quiet (fail)
        go_wp2
        go_ret
        refine ⟨rfl, ?_⟩
        first | exact Below.refl _ _ | exact below_box _ _ _
      by_cases q2 : 143 < b1
      · have HV : Hid (decide (0 < 2 ∧ (4 ≤ 2 ∨ (1 < 2 ∧ (b1 < 128 ∨ 143 < b1)) ∨ (2 < 2 ∧ (b2 < 128 ∨ 191 < b2)))) = true) := decide_eq_true ⟨by omega, by omega⟩
        have d1 : ¬ (b1 : Int) < 128 := by omega
        have d2 : (143 : Int) < (b1 : Int) := by omega
        rw [HV.out]
        go_enter Tryd.func105, Tryd.ntmps105
        go_wp2
        go_quiet (fail)
        go_wp2
        go_ret
        refine ⟨rfl, ?_⟩
        first | exact Below.refl _ _ | exact below_box _ _ _
      have HV : Hid (decide (0 < 2 ∧ (4 ≤ 2 ∨ (1 < 2 ∧ (b1 < 128 ∨ 143 < b1)) ∨ (2 < 2 ∧ (b2 < 128 ∨ 191 < b2)))) = false) := decide_eq_false (by omega)
      have d1 : ¬ (b1 : Int) < 128 := by omega
      have d2 : ¬ (143 : Int) < (b1 : Int) := by omega
      rw [HV.out]
      go_enter Tryd.func105, Tryd.ntmps105
      go_wp2
      go_quiet (fail)
      go_wp2
      go_ret
      refine ⟨rfl, ?_⟩
      first | exact Below.refl _ _ | exact below_box _ _ _
    by_cases m3 : n = 3
    · subst m3
      have z1 := x1 (by decide)
      have c1 := B1 (by decide)
      have z2 := x2 (by decide)
      have c2 := B2 (by decide)
      by_cases q1 : b1 < 128
      · have HV : Hid (decide (0 < 3 ∧ (4 ≤ 3 ∨ (1 < 3 ∧ (b1 < 128 ∨ 143 < b1)) ∨ (2 < 3 ∧ (b2 < 128 ∨ 191 < b2)))) = true) := decide_eq_true ⟨by omega, by omega⟩
        have d1 : (b1 : Int) < 128 := by omega
        rw [HV.out]
        go_enter Tryd.func105, Tryd.ntmps105
        go_wp2
        go_quiet (fail)
        go_wp2
        go_ret
        refine ⟨rfl, ?_⟩
        first | exact Below.refl _ _ | exact below_box _ _ _
      by_cases q2 : 143 < b1
      · have HV : Hid (decide (0 < 3 ∧ (4 ≤ 3 ∨ (1 < 3 ∧ (b1 < 128 ∨ 143 < b1)) ∨ (2 < 3 ∧ (b2 < 128 ∨ 191 < b2)))) = true) := decide_eq_true ⟨by omega, by omega⟩
        have d1 : ¬ (b1 : Int) < 128 := by omega
        have d2 : (143 : Int) < (b1 : Int) := by omega
        rw [HV.out]
        go_enter Tryd.func105, Tryd.ntmps105
        go_wp2
        go_quiet (fail)
        go_wp2
        go_ret
        refine ⟨rfl, ?_⟩
        first | exact Below.refl _ _ | exact below_box _ _ _
      by_cases q3 : b2 < 128
      · have HV : Hid (decide (0 < 3 ∧ (4 ≤ 3 ∨ (1 < 3 ∧ (b1 < 128 ∨ 143 < b1)) ∨ (2 < 3 ∧ (b2 < 128 ∨ 191 < b2)))) = true) := decide_eq_true ⟨by omega, by omega⟩
        have d1 : ¬ (b1 : Int) < 128 := by omega
        have d2 : ¬ (143 : Int) < (b1 : Int) := by omega
        have d3 : (b2 : Int) < 128 := by omega
        rw [HV.out]
        go_enter Tryd.func105, Tryd.ntmps105
        go_wp2
        go_quiet (fail)
        go_wp2
        go_ret
        refine ⟨rfl, ?_⟩
        first | exact Below.refl _ _ | exact below_box _ _ _
      by_cases q4 : 191 < b2
      · have HV : Hid (decide (0 < 3 ∧ (4 ≤ 3 ∨ (1 < 3 ∧ (b1 < 128 ∨ 143 < b1)) ∨ (2 < 3 ∧ (b2 < 128 ∨ 191 < b2)))) = true) := decide_eq_true ⟨by omega, by omega⟩
        have d1 : ¬ (b1 : Int) < 128 := by omega
        have d2 : ¬ (143 : Int) < (b1 : Int) := by omega
        have d3 : ¬ (b2 : Int) < 128 := by omega
        have d4 : (191 : Int) < (b2 : Int) := by omega
        rw [HV.out]
        go_enter Tryd.func105, Tryd.ntmps105
        go_wp2
        go_quiet (fail)
        go_wp2
        go_ret
        refine ⟨rfl, ?_⟩
        first | exact Below.refl _ _ | exact below_box _ _ _
      have HV : Hid (decide (0 < 3 ∧ (4 ≤ 3 ∨ (1 < 3 ∧ (b1 < 128 ∨ 143 < b1)) ∨ (2 < 3 ∧ (b2 < 128 ∨ 191 < b2)))) = false) := decide_eq_false (by omega)
      have d1 : ¬ (b1 : Int) < 128 := by omega
      have d2 : ¬ (143 : Int) < (b1 : Int) := by omega
      have d3 : ¬ (b2 : Int) < 128 := by omega
      have d4 : ¬ (191 : Int) < (b2 : Int) := by omega
      rw [HV.out]
      go_enter Tryd.func105, Tryd.ntmps105
      go_wp2
      go_quiet (fail)
      go_wp2
      go_ret
      refine ⟨rfl, ?_⟩
      first | exact Below.refl _ _ | exact below_box _ _ _
    omega
end Go.Proofs.YtcfalgomcdmdhaaDoor
