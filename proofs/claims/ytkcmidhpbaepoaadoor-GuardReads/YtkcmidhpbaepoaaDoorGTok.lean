/-
  The program's bytes of words and texts.
-/
import Derived.Test.YtkcmidhpbaepoaaDoorGBase
namespace Go.Proofs.YtkcmidhpbaepoaaDoor.G
open Go.RowKit Go.WideShapes Go.Joins

theorem isSmall_any (c : Nat) (w : World) : Calls Tryd.prog 44 #[.int .u8 (c : Int)] w fun e w' => e = .returned (.bool (isSm c)) ∧ w' = w := by
  unfold isSm
  by_cases h1 : 97 ≤ c
  · have a1 : (97 : Int) ≤ (c : Int) := by omega
    by_cases h2 : c ≤ 122
    · have a2 : (c : Int) ≤ 122 := by omega
      rw [decide_eq_true h1, decide_eq_true h2]
      clear h1 h2
      go_enter Tryd.func44, Tryd.ntmps44
      go_wp2_with fail
      go_ret
      exact ⟨rfl, rfl⟩
    · have a2 : ¬ (c : Int) ≤ 122 := by omega
      rw [decide_eq_true h1, decide_eq_false h2]
      clear h1 h2
      go_enter Tryd.func44, Tryd.ntmps44
      go_wp2_with fail
      go_ret
      exact ⟨rfl, rfl⟩
  · have a1 : ¬ (97 : Int) ≤ (c : Int) := by omega
    rw [decide_eq_false h1, Bool.false_and]
    clear h1
    go_enter Tryd.func44, Tryd.ntmps44
    go_wp2_with fail
    go_ret
    exact ⟨rfl, rfl⟩
theorem isDigit_any (c : Nat) (w : World) : Calls Tryd.prog 33 #[.int .u8 (c : Int)] w fun e w' => e = .returned (.bool (isDg c)) ∧ w' = w := by
  unfold isDg
  by_cases h1 : 48 ≤ c
  · have a1 : (48 : Int) ≤ (c : Int) := by omega
    by_cases h2 : c ≤ 57
    · have a2 : (c : Int) ≤ 57 := by omega
      rw [decide_eq_true h1, decide_eq_true h2]
      clear h1 h2
      go_enter Tryd.func33, Tryd.ntmps33
      go_wp2_with fail
      go_ret
      exact ⟨rfl, rfl⟩
    · have a2 : ¬ (c : Int) ≤ 57 := by omega
      rw [decide_eq_true h1, decide_eq_false h2]
      clear h1 h2
      go_enter Tryd.func33, Tryd.ntmps33
      go_wp2_with fail
      go_ret
      exact ⟨rfl, rfl⟩
  · have a1 : ¬ (48 : Int) ≤ (c : Int) := by omega
    rw [decide_eq_false h1, Bool.false_and]
    clear h1
    go_enter Tryd.func33, Tryd.ntmps33
    go_wp2_with fail
    go_ret
    exact ⟨rfl, rfl⟩
def isWi (c : Nat) : Bool := isDg c || decide (c = 45) || decide (c = 95) || decide (c = 46)
theorem isLt_wi (c : Nat) : isLt c = (isSm c || isWi c) := by
  unfold isLt isWi
  cases isSm c <;> cases isDg c <;> simp
theorem isWithin_any (c : Nat) (w : World) : Calls Tryd.prog 45 #[.int .u8 (c : Int)] w fun e w' => e = .returned (.bool (isWi c)) ∧ w' = w := by
  have D := isDigit_any c w
  unfold isWi
  generalize isDg c = d at D
  cases d with
  | true =>
    go_enter Tryd.func45, Tryd.ntmps45
    go_wp2_with fail
    refine D.mono ?_
    rintro e w1 ⟨rfl, rfl⟩
    simp only []
    go_wp2_with fail
    go_ret
    exact ⟨rfl, rfl⟩
  | false =>
    by_cases e1 : c = 45
    · subst e1
      simp only [show (((45 : Nat) : Int)) = 45 from rfl] at D ⊢
      go_enter Tryd.func45, Tryd.ntmps45
      go_wp2_with fail
      refine D.mono ?_
      rintro e w1 ⟨rfl, rfl⟩
      simp only []
      go_wp2_with fail
      go_ret
      exact ⟨rfl, rfl⟩
    by_cases e2 : c = 95
    · subst e2
      simp only [show (((95 : Nat) : Int)) = 95 from rfl] at D ⊢
      go_enter Tryd.func45, Tryd.ntmps45
      go_wp2_with fail
      refine D.mono ?_
      rintro e w1 ⟨rfl, rfl⟩
      simp only []
      go_wp2_with fail
      go_ret
      exact ⟨rfl, rfl⟩
    by_cases e3 : c = 46
    · subst e3
      simp only [show (((46 : Nat) : Int)) = 46 from rfl] at D ⊢
      go_enter Tryd.func45, Tryd.ntmps45
      go_wp2_with fail
      refine D.mono ?_
      rintro e w1 ⟨rfl, rfl⟩
      simp only []
      go_wp2_with fail
      go_ret
      exact ⟨rfl, rfl⟩
    rw [decide_eq_false e1, decide_eq_false e2, decide_eq_false e3]
    have n1 := bset c 45 e1
    have n2 := bset c 95 e2
    have n3 := bset c 46 e3
    simp only [show (((45 : Nat) : Int)) = 45 from rfl, show (((95 : Nat) : Int)) = 95 from rfl, show (((46 : Nat) : Int)) = 46 from rfl] at n1 n2 n3
    clear e1 e2 e3
    go_enter Tryd.func45, Tryd.ntmps45
    go_wp2_with fail
    refine D.mono ?_
    rintro e w1 ⟨rfl, rfl⟩
    simp only []
    go_wp2_with fail
    go_ret
    exact ⟨rfl, rfl⟩
theorem wordN_is {l : List Nat} {k : Nat} (hk : k ≤ l.length) (h0 : k = 0 → l.length = 0 ∨ isSm (l.getD 0 0) = false) (h1 : 0 < k → isSm (l.getD 0 0) = true ∧ (∀ i, 1 ≤ i → i < k → isLt (l.getD i 0) = true) ∧ (k < l.length → isLt (l.getD k 0) = false)) : wordN l = k := by
  cases l with
  | nil => simp only [List.length_nil] at hk; simp only [wordN]; omega
  | cons c r =>
    simp only [List.getD_cons_zero, List.length_cons] at *
    simp only [wordN]
    rcases Nat.eq_zero_or_pos k with rfl | hp
    · have h := (h0 rfl).resolve_left (by omega)
      rw [h]; rfl
    · obtain ⟨a, b, c'⟩ := h1 hp
      rw [if_pos a]
      have : cnt isLt r = k - 1 := by
        refine cnt_is (by omega) (fun i hi => ?_) (fun hn => ?_)
        · have := b (i + 1) (by omega) (by omega)
          simpa using this
        · have := c' (by omega)
          rw [show k = (k - 1) + 1 by omega] at this
          simpa using this
      omega
/-- Between two bytes of a word. -/
inductive WdI (s : ByteArray) (w : World) (t : Value) (wr : World) : Prop where
  | intro (k : Nat) (hk : k ≤ s.size) (ht : t = .int .i64 (k : Int)) (hw : wr = w) (h : 0 < k → isSm ((numsOf s).getD 0 0) = true ∧ ∀ i, 1 ≤ i → i < k → isLt ((numsOf s).getD i 0) = true)
set_option maxHeartbeats 1000000 in
theorem wordIn_any (s : ByteArray) (hs : s.size ≤ 20000) (w : World) : Calls Tryd.prog 37 #[.string s] w fun e w' => e = .returned (.int .i64 (wordN (numsOf s) : Int)) ∧ w' = w := by
  have hmx : (s.size : Int) ≤ 20000 := by omega
  have HS : Hid (s.size ≤ 20000) := hs
  clear hs
  go_enter Tryd.func37, Tryd.ntmps37
  go_wp2_with fail
  go_loopw [3] (fun t wr => WdI s w t wr) (fun t _ => s.size - (intOf t).toNat)
  case atStart => exact ⟨0, Nat.zero_le _, rfl, rfl, fun h => absurd h (Nat.lt_irrefl _)⟩
  case round =>
    obtain ⟨k, hk, rfl, hw, h⟩ := hrel
    subst hw
    have HK : Hid (0 < k → isSm ((numsOf s).getD 0 0) = true ∧ ∀ i, 1 ≤ i → i < k → isLt ((numsOf s).getD i 0) = true) := h
    clear h
    by_cases hlt : k < s.size
    · have hkI : (k : Int) < (s.size : Int) := by omega
      have hk0 : (0 : Int) ≤ (k : Int) := by omega
      have hx := fun w' => str_at s k hlt w'
      have HC : Hid (k < s.size ∧ isLt ((numsOf s).getD k 0) = (isSm ((numsOf s).getD k 0) || isWi ((numsOf s).getD k 0))) := ⟨hlt, isLt_wi _⟩
      obtain ⟨c, hc⟩ : ∃ c, (numsOf s).getD k 0 = c := ⟨_, rfl⟩
      rw [hc] at hx
      have A := isSmall_any c wr
      have B := isWithin_any c wr
      obtain ⟨a, ha⟩ : ∃ a, isSm c = a := ⟨_, rfl⟩
      obtain ⟨b, hb⟩ : ∃ b, isWi c = b := ⟨_, rfl⟩
      rw [ha] at A
      rw [hb] at B
      have HD : Hid ((numsOf s).getD k 0 = c ∧ isSm c = a ∧ isWi c = b) := ⟨hc, ha, hb⟩
      clear hc ha hb hlt hk
      cases a with
      | true =>
        clear B
        go_wp2_with fail
        refine A.mono ?_
        rintro e w1 ⟨rfl, hw⟩
        subst hw
        simp only []
        go_wp2_with fail
        go_roundw
        case rel =>
          refine ⟨k + 1, by have := HC.out.1; omega, by go_num, rfl, fun _ => ?_⟩
          have d := HD.out
          have c2 := HC.out.2
          rw [d.1, d.2.1] at c2
          rcases Nat.eq_zero_or_pos k with h0 | h0
          · subst h0
            exact ⟨by rw [d.1]; exact d.2.1, fun i h1 h2 => by omega⟩
          · refine ⟨(HK.out h0).1, fun i h1 h2 => ?_⟩
            rcases Nat.lt_or_ge i k with h3 | h3
            · exact (HK.out h0).2 i h1 h3
            · obtain rfl : i = k := by omega
              rw [d.1, c2]; rfl
        case measure => have := HC.out.1; simp [intOf]; omega
      | false =>
        by_cases h0 : k = 0
        · subst h0
          clear B
          simp only [show (((0 : Nat) : Int)) = 0 from rfl] at *
          go_wp2_with fail
          refine A.mono ?_
          rintro e w1 ⟨rfl, hw⟩
          subst hw
          simp only []
          go_wp2_with fail
          go_ret
          have : wordN (numsOf s) = 0 := wordN_is (Nat.zero_le _) (fun _ => .inr (by rw [HD.out.1]; exact HD.out.2.1)) (fun h => absurd h (Nat.lt_irrefl _))
          exact ⟨by rw [this]; rfl, rfl⟩
        have hp : (0 : Int) < (k : Int) := by omega
        have HP : Hid (0 < k) := Nat.pos_of_ne_zero h0
        clear h0
        cases b with
        | true =>
          go_wp2_with fail
          refine A.mono ?_
          rintro e w1 ⟨rfl, hw⟩
          subst hw
          simp only []
          go_wp2_with fail
          refine B.mono ?_
          rintro e w1 ⟨rfl, hw⟩
          subst hw
          simp only []
          go_wp2_with fail
          go_roundw
          case rel =>
            refine ⟨k + 1, by have := HC.out.1; omega, by go_num, rfl, fun _ => ?_⟩
            have d := HD.out
            have c2 := HC.out.2
            rw [d.1, d.2.1, d.2.2] at c2
            refine ⟨(HK.out HP.out).1, fun i h1 h2 => ?_⟩
            rcases Nat.lt_or_ge i k with h3 | h3
            · exact (HK.out HP.out).2 i h1 h3
            · obtain rfl : i = k := by omega
              rw [d.1, c2]; rfl
          case measure => have := HC.out.1; simp [intOf]; omega
        | false =>
          go_wp2_with fail
          refine A.mono ?_
          rintro e w1 ⟨rfl, hw⟩
          subst hw
          simp only []
          go_wp2_with fail
          refine B.mono ?_
          rintro e w1 ⟨rfl, hw⟩
          subst hw
          simp only []
          go_wp2_with fail
          go_ret
          have d := HD.out
          have c2 := HC.out.2
          rw [d.1, d.2.1, d.2.2] at c2
          have : wordN (numsOf s) = k := wordN_is (by rw [numsOf_len]; have := HC.out.1; omega) (fun h => absurd HP.out (by omega)) (fun h => ⟨(HK.out h).1, (HK.out h).2, fun _ => by rw [d.1, c2]; rfl⟩)
          exact ⟨by rw [this]; rfl, rfl⟩
    · have hkI : ¬ (k : Int) < (s.size : Int) := by omega
      have HC : Hid (k = s.size) := by show k = s.size; omega
      clear hlt hk
      go_wp2_with fail
      go_ret
      have : wordN (numsOf s) = k := wordN_is (by rw [numsOf_len]; have := HC.out; omega) (fun h => .inl (by rw [numsOf_len]; have := HC.out; omega)) (fun h => ⟨(HK.out h).1, (HK.out h).2, fun h9 => by rw [numsOf_len] at h9; have := HC.out; omega⟩)
      exact ⟨by rw [this]; rfl, rfl⟩
/-- Between two bytes of a text. -/
inductive ChI (s : ByteArray) (w : World) (t : Value) (wr : World) : Prop where
  | intro (k : Nat) (hk : k ≤ s.size) (ht : t = .int .i64 (k : Int)) (hw : wr = w) (h : ∀ i, i < k → isCh ((numsOf s).getD i 0) = true)
set_option maxHeartbeats 1000000 in
theorem charsIn_any (s : ByteArray) (hs : s.size ≤ 20000) (w : World) : Calls Tryd.prog 25 #[.string s] w fun e w' => e = .returned (.int .i64 (cnt isCh (numsOf s) : Int)) ∧ w' = w := by
  have hmx : (s.size : Int) ≤ 20000 := by omega
  clear hs
  go_enter Tryd.func25, Tryd.ntmps25
  go_wp2_with fail
  go_loopw [3] (fun t wr => ChI s w t wr) (fun t _ => s.size - (intOf t).toNat)
  case atStart => exact ⟨0, Nat.zero_le _, rfl, rfl, fun i h => absurd h (Nat.not_lt_zero _)⟩
  case round =>
    obtain ⟨k, hk, rfl, hw, h⟩ := hrel
    subst hw
    have HK : Hid (∀ i, i < k → isCh ((numsOf s).getD i 0) = true) := h
    clear h
    by_cases hlt : k < s.size
    · have hkI : (k : Int) < (s.size : Int) := by omega
      have hk0 : (0 : Int) ≤ (k : Int) := by omega
      have hx := fun w' => str_at s k hlt w'
      have HC : Hid (k < s.size) := hlt
      obtain ⟨c, hc⟩ : ∃ c, (numsOf s).getD k 0 = c := ⟨_, rfl⟩
      rw [hc] at hx
      have HD : Hid ((numsOf s).getD k 0 = c) := hc
      have fin : Hid (isCh c = false → cnt isCh (numsOf s) = k) := fun hf => cnt_is (by rw [numsOf_len]; omega) HK.out (fun _ => by rw [hc]; exact hf)
      clear hc hlt hk
      by_cases h1 : 32 ≤ c
      · have a1 : (32 : Int) ≤ (c : Int) := by omega
        by_cases h2 : c ≤ 126
        · have a2 : (c : Int) ≤ 126 := by omega
          by_cases h3 : c = 39
          · have HF : Hid (isCh c = false) := by show isCh c = false; rw [h3]; rfl
            have a3 : ((c : Int) == 39) = true := by rw [h3]; rfl
            have a3n : ((c : Int) != 39) = false := by rw [h3]; rfl
            clear h1 h2 h3
            go_wp2_with fail
            go_ret
            exact ⟨by rw [fin.out HF.out]; rfl, rfl⟩
          · have HF : Hid (isCh c = true) := by show isCh c = true; unfold isCh; simp [h1, h2, h3]
            have a3 : ((c : Int) == 39) = false := bset c 39 h3
            have a3n : ((c : Int) != 39) = true := by simp only [bne, a3]; rfl
            clear h1 h2 h3
            go_wp2_with fail
            go_roundw
            case rel =>
              refine ⟨k + 1, by have := HC.out; omega, by go_num, rfl, fun i hi => ?_⟩
              rcases Nat.lt_or_ge i k with h3 | h3
              · exact HK.out i h3
              · obtain rfl : i = k := by omega
                rw [HD.out]; exact HF.out
            case measure => have := HC.out; simp [intOf]; omega
        · have a2 : ¬ (c : Int) ≤ 126 := by omega
          have HF : Hid (isCh c = false) := by show isCh c = false; unfold isCh; simp [h2]
          clear h1 h2
          go_wp2_with fail
          go_ret
          exact ⟨by rw [fin.out HF.out]; rfl, rfl⟩
      · have a1 : ¬ (32 : Int) ≤ (c : Int) := by omega
        have HF : Hid (isCh c = false) := by show isCh c = false; unfold isCh; simp [h1]
        clear h1
        go_wp2_with fail
        go_ret
        exact ⟨by rw [fin.out HF.out]; rfl, rfl⟩
    · have hkI : ¬ (k : Int) < (s.size : Int) := by omega
      have fin : Hid (cnt isCh (numsOf s) = k) := cnt_is (by rw [numsOf_len]; omega) HK.out (fun h => by rw [numsOf_len] at h; omega)
      clear hlt hk
      go_wp2_with fail
      go_ret
      exact ⟨by rw [fin.out]; rfl, rfl⟩
end Go.Proofs.YtkcmidhpbaepoaaDoor.G
