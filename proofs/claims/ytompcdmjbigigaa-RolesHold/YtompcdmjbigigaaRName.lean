/-
  Names: the program's, the document's. Written by tools/gen_rname.py.
-/
import Derived.Test.YtompcdmjbigigaaRBase
namespace Go.Proofs.Ytompcdmjbigigaa
open Go.RowKit Go.WideShapes Go.Joins

theorem lit_yes {s K : ByteArray} {l : List UInt8} (hK : K.data.toList = l) (h : s = K) : (s.toList == l) = true := by
  have := (Lib.bytes_beq_iff s K).2 h
  rw [ByteArray.toList_eq K, hK] at this
  exact this
theorem lit_no {s K : ByteArray} {l : List UInt8} (hK : K.data.toList = l) (h : ¬ s = K) : (s.toList == l) = false := by
  have := (Lib.bytes_beq_false_iff s K).2 h
  rw [ByteArray.toList_eq K, hK] at this
  exact this
theorem nmB_cases (c : Nat) : (97 ≤ c ∧ c ≤ 122) ∨ (48 ≤ c ∧ c ≤ 57) ∨ c = 45 ∨ c = 95 ∨ c = 46 ∨ 122 < c ∨ (57 < c ∧ c < 97 ∧ c ≠ 95) ∨ (c < 48 ∧ c ≠ 45 ∧ c ≠ 46) := by omega
set_option maxHeartbeats 1000000 in
set_option maxRecDepth 8000 in
theorem isNameByte_any (c : Nat) (w : World) : Calls Try.prog 35 #[.int .u8 (c : Int)] w fun e w' => e = .returned (.bool (nmB c)) ∧ w' = w := by
  rcases nmB_cases c with ⟨h1, h2⟩ | ⟨h1, h2⟩ | rfl | rfl | rfl | h1 | ⟨h1, h2, h3⟩ | ⟨h1, h2, h3⟩
  ·
    rw [show nmB c = true by unfold nmB; simp; omega]
    have ia : (97 : Int) ≤ (c : Int) := by omega
    have ib : (c : Int) ≤ 122 := by omega
    clear h1 h2
    go_enter Try.func35, Try.ntmps35
    go_wp2_with fail
    go_ret
    exact ⟨rfl, rfl⟩
  ·
    rw [show nmB c = true by unfold nmB; simp; omega]
    have ia : ¬ (97 : Int) ≤ (c : Int) := by omega
    have id : (48 : Int) ≤ (c : Int) := by omega
    have ie : (c : Int) ≤ 57 := by omega
    clear h1 h2
    go_enter Try.func35, Try.ntmps35
    go_wp2_with fail
    go_ret
    exact ⟨rfl, rfl⟩
  ·
    go_enter Try.func35, Try.ntmps35
    go_wp2_with fail
    go_ret
    exact ⟨rfl, rfl⟩
  ·
    go_enter Try.func35, Try.ntmps35
    go_wp2_with fail
    go_ret
    exact ⟨rfl, rfl⟩
  ·
    go_enter Try.func35, Try.ntmps35
    go_wp2_with fail
    go_ret
    exact ⟨rfl, rfl⟩
  ·
    rw [show nmB c = false by unfold nmB; simp; omega]
    have ia : (97 : Int) ≤ (c : Int) := by omega
    have ib : ¬ (c : Int) ≤ 122 := by omega
    have id : (48 : Int) ≤ (c : Int) := by omega
    have ie : ¬ (c : Int) ≤ 57 := by omega
    have i45 : ((c : Int) == 45) = false := bset c 45 (by omega)
    have i95 : ((c : Int) == 95) = false := bset c 95 (by omega)
    have i46 : ((c : Int) == 46) = false := bset c 46 (by omega)
    clear h1
    go_enter Try.func35, Try.ntmps35
    go_wp2_with fail
    go_ret
    exact ⟨rfl, rfl⟩
  ·
    rw [show nmB c = false by unfold nmB; simp; omega]
    have ia : ¬ (97 : Int) ≤ (c : Int) := by omega
    have id : (48 : Int) ≤ (c : Int) := by omega
    have ie : ¬ (c : Int) ≤ 57 := by omega
    have i45 : ((c : Int) == 45) = false := bset c 45 (by omega)
    have i95 : ((c : Int) == 95) = false := bset c 95 (by omega)
    have i46 : ((c : Int) == 46) = false := bset c 46 (by omega)
    clear h1 h2 h3
    go_enter Try.func35, Try.ntmps35
    go_wp2_with fail
    go_ret
    exact ⟨rfl, rfl⟩
  ·
    rw [show nmB c = false by unfold nmB; simp; omega]
    have ia : ¬ (97 : Int) ≤ (c : Int) := by omega
    have id : ¬ (48 : Int) ≤ (c : Int) := by omega
    have i45 : ((c : Int) == 45) = false := bset c 45 (by omega)
    have i95 : ((c : Int) == 95) = false := bset c 95 (by omega)
    have i46 : ((c : Int) == 46) = false := bset c 46 (by omega)
    clear h1 h2 h3
    go_enter Try.func35, Try.ntmps35
    go_wp2_with fail
    go_ret
    exact ⟨rfl, rfl⟩
theorem all_take {s : ByteArray} {k : Nat} (hk : k < s.size) (h : ((nums s).take k).all nmB = true) (hc : nmB ((nums s).getD k 0) = true) : ((nums s).take (k + 1)).all nmB = true := by
  rw [take_snoc _ 0 (by rw [nums_len]; exact hk), List.all_append, h]
  simp only [List.all_cons, hc, List.all_nil, Bool.and_true]
theorem all_not {s : ByteArray} {k : Nat} (hk : k < s.size) (hc : nmB ((nums s).getD k 0) = false) : nmOk s = false := by
  have : (nums s).all nmB = false := by
    rw [List.all_eq_false]
    refine ⟨_, ?_, by rw [hc]; decide⟩
    rw [List.getD_eq_getElem?_getD, List.getElem?_eq_getElem (by rw [nums_len]; exact hk)]
    exact List.getElem_mem _
  unfold nmOk
  rw [this, Bool.and_false]
theorem all_end {s : ByteArray} (h1 : 1 ≤ s.size) (h2 : s.size ≤ 32) (h : ((nums s).take s.size).all nmB = true) : nmOk s = true := by
  rw [← nums_len s, List.take_length] at h
  unfold nmOk
  rw [decide_eq_true h1, decide_eq_true h2, h]; rfl
theorem nmOk_pos {s : ByteArray} (h : nmOk s = true) : 1 ≤ s.size ∧ s.size ≤ 32 := by
  unfold nmOk at h
  simp only [Bool.and_eq_true, decide_eq_true_eq] at h
  exact h.1
theorem nmOk_ne {s : ByteArray} (h : nmOk s = true) : s ≠ ByteArray.empty := fun e => by
  have := (nmOk_pos h).1
  rw [e] at this
  exact absurd this (by decide)
set_option maxHeartbeats 1000000 in
set_option maxRecDepth 8000 in
theorem isName_any (s : ByteArray) (hs : s.size ≤ maxLen) (w : World) : Calls Try.prog 23 #[.string s] w fun e w' => e = .returned (.bool (nmOk s)) ∧ w' = w := by
  have HZ : Hid (s.size ≤ maxLen) := hs
  clear hs
  by_cases h1 : s.size < 1
  · have i1 : (s.size : Int) < 1 := by omega
    have HF : Hid (nmOk s = false) := by
      cases h : nmOk s with
      | false => exact rfl
      | true => have := (nmOk_pos h).1; omega
    clear h1
    go_enter Try.func23, Try.ntmps23
    go_wp2_with fail
    go_ret
    exact ⟨by rw [HF.out]; rfl, rfl⟩
  have i1 : ¬ (s.size : Int) < 1 := by omega
  by_cases h2 : 32 < s.size
  · have i2 : (32 : Int) < (s.size : Int) := by omega
    have HF : Hid (nmOk s = false) := by
      cases h : nmOk s with
      | false => exact rfl
      | true => have := (nmOk_pos h).2; omega
    clear h1 h2
    go_enter Try.func23, Try.ntmps23
    go_wp2_with fail
    go_ret
    exact ⟨by rw [HF.out]; rfl, rfl⟩
  have i2 : ¬ (32 : Int) < (s.size : Int) := by omega
  have HN : Hid (1 ≤ s.size ∧ s.size ≤ 32) := ⟨by omega, by omega⟩
  have i3 : (s.size : Int) ≤ 32 := by omega
  clear h1 h2
  go_enter Try.func23, Try.ntmps23
  go_wp2_with fail
  go_loopw [14] (fun t wr => ∃ k : Nat, k ≤ s.size ∧ t = .int .i64 (k : Int) ∧ wr = w ∧ ((nums s).take k).all nmB = true) (fun t _ => s.size - (intOf t).toNat)
  case atStart => exact ⟨0, Nat.zero_le _, rfl, rfl, rfl⟩
  case round =>
    obtain ⟨k, hk, rfl, hw, h⟩ := hrel
    subst hw
    have HK : Hid (((nums s).take k).all nmB = true) := h
    clear h
    by_cases hlt : k < s.size
    · have hkI : (k : Int) < (s.size : Int) := by omega
      have hk0 : (0 : Int) ≤ (k : Int) := by omega
      have hx := fun w' => str_at s k hlt w'
      have HY : Hid (k < s.size ∧ (nmB ((nums s).getD k 0) = true → ((nums s).take (k + 1)).all nmB = true) ∧ (nmB ((nums s).getD k 0) = false → nmOk s = false)) := ⟨hlt, all_take hlt HK.out, all_not hlt⟩
      generalize (nums s).getD k 0 = c at hx HY
      have A := isNameByte_any c wr
      obtain ⟨a, ha⟩ : ∃ a, nmB c = a := ⟨_, rfl⟩
      rw [ha] at A
      have HA : Hid (nmB c = a) := ha
      clear ha hlt hk
      cases a with
      | true =>
        go_wp2_with (first | (go_at_call 35; refine A.mono ?_; rintro e w1 ⟨rfl, hw⟩; subst hw) | fail)
        go_roundw
        case rel => exact ⟨k + 1, by have := HY.out.1; omega, by go_num, by first | rfl | trivial, HY.out.2.1 HA.out⟩
        case measure => have := HY.out.1; simp [intOf]; omega
      | false =>
        go_wp2_with (first | (go_at_call 35; refine A.mono ?_; rintro e w1 ⟨rfl, hw⟩; subst hw) | fail)
        go_ret
        exact ⟨by rw [HY.out.2.2 HA.out]; rfl, rfl⟩
    · obtain rfl : k = s.size := by omega
      have HE : Hid (nmOk s = true) := all_end HN.out.1 HN.out.2 HK.out
      clear hk hlt
      go_wp2_with fail
      go_ret
      exact ⟨by rw [HE.out]; rfl, rfl⟩
set_option maxHeartbeats 2000000 in
set_option maxRecDepth 8000 in
theorem Named_any (s : ByteArray) (hs : s.size ≤ maxLen) (w : World) : Calls Try.prog 31 #[.string s] w fun e w' => e = .returned (.bool (nmOk s)) ∧ w' = w := by
  have HZ : Hid (s.size ≤ maxLen) := hs
  clear hs
  by_cases h1 : s.size < 1
  · have i1 : (s.toList == []) = true := lit_yes (K := ⟨#[]⟩) rfl (ba_ext (List.length_eq_zero_iff.1 (by rw [Array.length_toList]; exact (by omega : s.size = 0))))
    have HF : Hid (nmOk s = false) := by
      cases h : nmOk s with
      | false => exact rfl
      | true => have := (nmOk_pos h).1; omega
    clear h1
    go_enter Try.func31, Try.ntmps31
    go_wp2_with fail
    go_ret
    exact ⟨by rw [HF.out]; rfl, rfl⟩
  have i1 : (s.toList == []) = false := lit_no (K := ⟨#[]⟩) rfl (fun e => h1 (by rw [e]; decide))
  by_cases h2 : 32 < s.size
  · have i2 : (32 : Int) < (s.size : Int) := by omega
    have HF : Hid (nmOk s = false) := by
      cases h : nmOk s with
      | false => exact rfl
      | true => have := (nmOk_pos h).2; omega
    clear h1 h2
    go_enter Try.func31, Try.ntmps31
    go_wp2_with fail
    go_ret
    exact ⟨by rw [HF.out]; rfl, rfl⟩
  have i2 : ¬ (32 : Int) < (s.size : Int) := by omega
  have HN : Hid (1 ≤ s.size ∧ s.size ≤ 32) := ⟨by omega, by omega⟩
  have i3 : (s.size : Int) ≤ 32 := by omega
  clear h1 h2
  go_enter Try.func31, Try.ntmps31
  go_wp2_with fail
  go_loopw [3] (fun t wr => ∃ k : Nat, k ≤ s.size ∧ t = .int .i64 (k : Int) ∧ wr = w ∧ ((nums s).take k).all nmB = true) (fun t _ => s.size - (intOf t).toNat)
  case atStart => exact ⟨0, Nat.zero_le _, rfl, rfl, rfl⟩
  case round =>
    obtain ⟨k, hk, rfl, hw, h⟩ := hrel
    subst hw
    have HK : Hid (((nums s).take k).all nmB = true) := h
    clear h
    by_cases hlt : k < s.size
    · have hkI : (k : Int) < (s.size : Int) := by omega
      have hk0 : (0 : Int) ≤ (k : Int) := by omega
      have hx := fun w' => str_at s k hlt w'
      have HY : Hid (k < s.size ∧ (nmB ((nums s).getD k 0) = true → ((nums s).take (k + 1)).all nmB = true) ∧ (nmB ((nums s).getD k 0) = false → nmOk s = false)) := ⟨hlt, all_take hlt HK.out, all_not hlt⟩
      generalize (nums s).getD k 0 = c at hx HY
      clear hlt hk
      rcases nmB_cases c with ⟨h1, h2⟩ | ⟨h1, h2⟩ | rfl | rfl | rfl | h1 | ⟨h1, h2, h3⟩ | ⟨h1, h2, h3⟩
      ·
        have HA : Hid (nmB c = true) := by show nmB c = true; unfold nmB; simp; omega
        have ia : (97 : Int) ≤ (c : Int) := by omega
        have ib : (c : Int) ≤ 122 := by omega
        clear h1 h2
        go_wp2_with fail
        go_roundw
        case rel => exact ⟨k + 1, by have := HY.out.1; omega, by go_num, by first | rfl | trivial, HY.out.2.1 HA.out⟩
        case measure => have := HY.out.1; simp [intOf]; omega
      ·
        have HA : Hid (nmB c = true) := by show nmB c = true; unfold nmB; simp; omega
        have ia : ¬ (97 : Int) ≤ (c : Int) := by omega
        have id : (48 : Int) ≤ (c : Int) := by omega
        have ie : (c : Int) ≤ 57 := by omega
        clear h1 h2
        go_wp2_with fail
        go_roundw
        case rel => exact ⟨k + 1, by have := HY.out.1; omega, by go_num, by first | rfl | trivial, HY.out.2.1 HA.out⟩
        case measure => have := HY.out.1; simp [intOf]; omega
      ·
        have HY2 := HY.out
        go_wp2_with fail
        go_roundw
        case rel => exact ⟨k + 1, by have := HY.out.1; omega, by go_num, by first | rfl | trivial, HY.out.2.1 (by decide)⟩
        case measure => have := HY.out.1; simp [intOf]; omega
      ·
        have HY2 := HY.out
        go_wp2_with fail
        go_roundw
        case rel => exact ⟨k + 1, by have := HY.out.1; omega, by go_num, by first | rfl | trivial, HY.out.2.1 (by decide)⟩
        case measure => have := HY.out.1; simp [intOf]; omega
      ·
        have HY2 := HY.out
        go_wp2_with fail
        go_roundw
        case rel => exact ⟨k + 1, by have := HY.out.1; omega, by go_num, by first | rfl | trivial, HY.out.2.1 (by decide)⟩
        case measure => have := HY.out.1; simp [intOf]; omega
      ·
        have HA : Hid (nmB c = false) := by show nmB c = false; unfold nmB; simp; omega
        have ia : (97 : Int) ≤ (c : Int) := by omega
        have ib : ¬ (c : Int) ≤ 122 := by omega
        have id : (48 : Int) ≤ (c : Int) := by omega
        have ie : ¬ (c : Int) ≤ 57 := by omega
        have i45 : ((c : Int) == 45) = false := bset c 45 (by omega)
        have i95 : ((c : Int) == 95) = false := bset c 95 (by omega)
        have i46 : ((c : Int) == 46) = false := bset c 46 (by omega)
        clear h1
        go_wp2_with fail
        go_ret
        exact ⟨by rw [HY.out.2.2 HA.out]; rfl, rfl⟩
      ·
        have HA : Hid (nmB c = false) := by show nmB c = false; unfold nmB; simp; omega
        have ia : ¬ (97 : Int) ≤ (c : Int) := by omega
        have id : (48 : Int) ≤ (c : Int) := by omega
        have ie : ¬ (c : Int) ≤ 57 := by omega
        have i45 : ((c : Int) == 45) = false := bset c 45 (by omega)
        have i95 : ((c : Int) == 95) = false := bset c 95 (by omega)
        have i46 : ((c : Int) == 46) = false := bset c 46 (by omega)
        clear h1 h2 h3
        go_wp2_with fail
        go_ret
        exact ⟨by rw [HY.out.2.2 HA.out]; rfl, rfl⟩
      ·
        have HA : Hid (nmB c = false) := by show nmB c = false; unfold nmB; simp; omega
        have ia : ¬ (97 : Int) ≤ (c : Int) := by omega
        have id : ¬ (48 : Int) ≤ (c : Int) := by omega
        have i45 : ((c : Int) == 45) = false := bset c 45 (by omega)
        have i95 : ((c : Int) == 95) = false := bset c 95 (by omega)
        have i46 : ((c : Int) == 46) = false := bset c 46 (by omega)
        clear h1 h2 h3
        go_wp2_with fail
        go_ret
        exact ⟨by rw [HY.out.2.2 HA.out]; rfl, rfl⟩
    · obtain rfl : k = s.size := by omega
      have HE : Hid (nmOk s = true) := all_end HN.out.1 HN.out.2 HK.out
      clear hk hlt
      go_wp2_with fail
      go_ret
      exact ⟨by rw [HE.out]; rfl, rfl⟩
end Go.Proofs.Ytompcdmjbigigaa
