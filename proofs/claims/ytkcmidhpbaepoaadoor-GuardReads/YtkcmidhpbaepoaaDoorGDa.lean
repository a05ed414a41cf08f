/-
  The document's bytes, words and names. Written by tools/gen_gda.py.
-/
import Derived.Test.YtkcmidhpbaepoaaDoorGRe
namespace Go.Proofs.YtkcmidhpbaepoaaDoor.G
open Go.RowKit Go.WideShapes Go.Joins

set_option maxHeartbeats 1000000 in
set_option maxRecDepth 8000 in
theorem Letter_any (c : Nat) (w : World) : Calls Tryd.prog 29 #[.int .u8 (c : Int)] w fun e w' => e = .returned (.bool (isLt c)) ∧ w' = w := by
  by_cases ha : 97 ≤ c
  · have ia : (97 : Int) ≤ (c : Int) := by omega
    by_cases hb : c ≤ 122
    · have ib : (c : Int) ≤ 122 := by omega
      rw [show isLt c = true by unfold isLt isSm isDg; simp; omega]
      clear ha hb
      go_enter Tryd.func29, Tryd.ntmps29
      go_wp2_with fail
      go_ret
      exact ⟨rfl, rfl⟩
    · have ib : ¬ (c : Int) ≤ 122 := by omega
      by_cases hd : 48 ≤ c
      · have id : (48 : Int) ≤ (c : Int) := by omega
        by_cases he : c ≤ 57
        · have ie : (c : Int) ≤ 57 := by omega
          rw [show isLt c = true by unfold isLt isSm isDg; simp; omega]
          clear ha hb hd he
          go_enter Tryd.func29, Tryd.ntmps29
          go_wp2_with fail
          go_ret
          exact ⟨rfl, rfl⟩
        · have ie : ¬ (c : Int) ≤ 57 := by omega
          by_cases h45 : c = 45
          · have i45 : ((c : Int) == 45) = true := by rw [h45]; rfl
            rw [show isLt c = true by unfold isLt isSm isDg; simp; omega]
            clear ha hb hd he h45
            go_enter Tryd.func29, Tryd.ntmps29
            go_wp2_with fail
            go_ret
            exact ⟨rfl, rfl⟩
          · have i45 : ((c : Int) == 45) = false := bset c 45 h45
            by_cases h95 : c = 95
            · have i95 : ((c : Int) == 95) = true := by rw [h95]; rfl
              rw [show isLt c = true by unfold isLt isSm isDg; simp; omega]
              clear ha hb hd he h45 h95
              go_enter Tryd.func29, Tryd.ntmps29
              go_wp2_with fail
              go_ret
              exact ⟨rfl, rfl⟩
            · have i95 : ((c : Int) == 95) = false := bset c 95 h95
              by_cases h46 : c = 46
              · have i46 : ((c : Int) == 46) = true := by rw [h46]; rfl
                rw [show isLt c = true by unfold isLt isSm isDg; simp; omega]
                clear ha hb hd he h45 h95 h46
                go_enter Tryd.func29, Tryd.ntmps29
                go_wp2_with fail
                go_ret
                exact ⟨rfl, rfl⟩
              · have i46 : ((c : Int) == 46) = false := bset c 46 h46
                rw [show isLt c = false by unfold isLt isSm isDg; simp; omega]
                clear ha hb hd he h45 h95 h46
                go_enter Tryd.func29, Tryd.ntmps29
                go_wp2_with fail
                go_ret
                exact ⟨rfl, rfl⟩
      · have id : ¬ (48 : Int) ≤ (c : Int) := by omega
        by_cases h45 : c = 45
        · have i45 : ((c : Int) == 45) = true := by rw [h45]; rfl
          rw [show isLt c = true by unfold isLt isSm isDg; simp; omega]
          clear ha hb hd h45
          go_enter Tryd.func29, Tryd.ntmps29
          go_wp2_with fail
          go_ret
          exact ⟨rfl, rfl⟩
        · have i45 : ((c : Int) == 45) = false := bset c 45 h45
          by_cases h95 : c = 95
          · have i95 : ((c : Int) == 95) = true := by rw [h95]; rfl
            rw [show isLt c = true by unfold isLt isSm isDg; simp; omega]
            clear ha hb hd h45 h95
            go_enter Tryd.func29, Tryd.ntmps29
            go_wp2_with fail
            go_ret
            exact ⟨rfl, rfl⟩
          · have i95 : ((c : Int) == 95) = false := bset c 95 h95
            by_cases h46 : c = 46
            · have i46 : ((c : Int) == 46) = true := by rw [h46]; rfl
              rw [show isLt c = true by unfold isLt isSm isDg; simp; omega]
              clear ha hb hd h45 h95 h46
              go_enter Tryd.func29, Tryd.ntmps29
              go_wp2_with fail
              go_ret
              exact ⟨rfl, rfl⟩
            · have i46 : ((c : Int) == 46) = false := bset c 46 h46
              rw [show isLt c = false by unfold isLt isSm isDg; simp; omega]
              clear ha hb hd h45 h95 h46
              go_enter Tryd.func29, Tryd.ntmps29
              go_wp2_with fail
              go_ret
              exact ⟨rfl, rfl⟩
  · have ia : ¬ (97 : Int) ≤ (c : Int) := by omega
    by_cases hd : 48 ≤ c
    · have id : (48 : Int) ≤ (c : Int) := by omega
      by_cases he : c ≤ 57
      · have ie : (c : Int) ≤ 57 := by omega
        rw [show isLt c = true by unfold isLt isSm isDg; simp; omega]
        clear ha hd he
        go_enter Tryd.func29, Tryd.ntmps29
        go_wp2_with fail
        go_ret
        exact ⟨rfl, rfl⟩
      · have ie : ¬ (c : Int) ≤ 57 := by omega
        by_cases h45 : c = 45
        · have i45 : ((c : Int) == 45) = true := by rw [h45]; rfl
          rw [show isLt c = true by unfold isLt isSm isDg; simp; omega]
          clear ha hd he h45
          go_enter Tryd.func29, Tryd.ntmps29
          go_wp2_with fail
          go_ret
          exact ⟨rfl, rfl⟩
        · have i45 : ((c : Int) == 45) = false := bset c 45 h45
          by_cases h95 : c = 95
          · have i95 : ((c : Int) == 95) = true := by rw [h95]; rfl
            rw [show isLt c = true by unfold isLt isSm isDg; simp; omega]
            clear ha hd he h45 h95
            go_enter Tryd.func29, Tryd.ntmps29
            go_wp2_with fail
            go_ret
            exact ⟨rfl, rfl⟩
          · have i95 : ((c : Int) == 95) = false := bset c 95 h95
            by_cases h46 : c = 46
            · have i46 : ((c : Int) == 46) = true := by rw [h46]; rfl
              rw [show isLt c = true by unfold isLt isSm isDg; simp; omega]
              clear ha hd he h45 h95 h46
              go_enter Tryd.func29, Tryd.ntmps29
              go_wp2_with fail
              go_ret
              exact ⟨rfl, rfl⟩
            · have i46 : ((c : Int) == 46) = false := bset c 46 h46
              rw [show isLt c = false by unfold isLt isSm isDg; simp; omega]
              clear ha hd he h45 h95 h46
              go_enter Tryd.func29, Tryd.ntmps29
              go_wp2_with fail
              go_ret
              exact ⟨rfl, rfl⟩
    · have id : ¬ (48 : Int) ≤ (c : Int) := by omega
      by_cases h45 : c = 45
      · have i45 : ((c : Int) == 45) = true := by rw [h45]; rfl
        rw [show isLt c = true by unfold isLt isSm isDg; simp; omega]
        clear ha hd h45
        go_enter Tryd.func29, Tryd.ntmps29
        go_wp2_with fail
        go_ret
        exact ⟨rfl, rfl⟩
      · have i45 : ((c : Int) == 45) = false := bset c 45 h45
        by_cases h95 : c = 95
        · have i95 : ((c : Int) == 95) = true := by rw [h95]; rfl
          rw [show isLt c = true by unfold isLt isSm isDg; simp; omega]
          clear ha hd h45 h95
          go_enter Tryd.func29, Tryd.ntmps29
          go_wp2_with fail
          go_ret
          exact ⟨rfl, rfl⟩
        · have i95 : ((c : Int) == 95) = false := bset c 95 h95
          by_cases h46 : c = 46
          · have i46 : ((c : Int) == 46) = true := by rw [h46]; rfl
            rw [show isLt c = true by unfold isLt isSm isDg; simp; omega]
            clear ha hd h45 h95 h46
            go_enter Tryd.func29, Tryd.ntmps29
            go_wp2_with fail
            go_ret
            exact ⟨rfl, rfl⟩
          · have i46 : ((c : Int) == 46) = false := bset c 46 h46
            rw [show isLt c = false by unfold isLt isSm isDg; simp; omega]
            clear ha hd h45 h95 h46
            go_enter Tryd.func29, Tryd.ntmps29
            go_wp2_with fail
            go_ret
            exact ⟨rfl, rfl⟩
set_option maxHeartbeats 1000000 in
set_option maxRecDepth 8000 in
theorem Taken_any (s : ByteArray) (w : World) : Calls Tryd.prog 70 #[.string s] w fun e w' => e = .returned (.bool (taken (numsOf s))) ∧ w' = w := by
  by_cases e0 : s = kAnd
  · rw [show taken (numsOf s) = true by rw [e0]; decide]
    have n0 : (s.toList == [97, 110, 100]) = true := lit_yes rfl e0
    clear e0
    go_enter Tryd.func70, Tryd.ntmps70
    go_wp2_with fail
    go_ret
    exact ⟨rfl, rfl⟩
  have n0 : (s.toList == [97, 110, 100]) = false := lit_no rfl e0
  by_cases e1 : s = kOr
  · rw [show taken (numsOf s) = true by rw [e1]; decide]
    have n1 : (s.toList == [111, 114]) = true := lit_yes rfl e1
    clear e1
    go_enter Tryd.func70, Tryd.ntmps70
    go_wp2_with fail
    go_ret
    exact ⟨rfl, rfl⟩
  have n1 : (s.toList == [111, 114]) = false := lit_no rfl e1
  by_cases e2 : s = kNot
  · rw [show taken (numsOf s) = true by rw [e2]; decide]
    have n2 : (s.toList == [110, 111, 116]) = true := lit_yes rfl e2
    clear e2
    go_enter Tryd.func70, Tryd.ntmps70
    go_wp2_with fail
    go_ret
    exact ⟨rfl, rfl⟩
  have n2 : (s.toList == [110, 111, 116]) = false := lit_no rfl e2
  by_cases e3 : s = kTrue
  · rw [show taken (numsOf s) = true by rw [e3]; decide]
    have n3 : (s.toList == [116, 114, 117, 101]) = true := lit_yes rfl e3
    clear e3
    go_enter Tryd.func70, Tryd.ntmps70
    go_wp2_with fail
    go_ret
    exact ⟨rfl, rfl⟩
  have n3 : (s.toList == [116, 114, 117, 101]) = false := lit_no rfl e3
  by_cases e4 : s = kFalse
  · rw [show taken (numsOf s) = true by rw [e4]; decide]
    have n4 : (s.toList == [102, 97, 108, 115, 101]) = true := lit_yes rfl e4
    clear e4
    go_enter Tryd.func70, Tryd.ntmps70
    go_wp2_with fail
    go_ret
    exact ⟨rfl, rfl⟩
  have n4 : (s.toList == [102, 97, 108, 115, 101]) = false := lit_no rfl e4
  by_cases e5 : s = kOpen
  · rw [show taken (numsOf s) = true by rw [e5]; decide]
    have n5 : (s.toList == [111, 112, 101, 110]) = true := lit_yes rfl e5
    clear e5
    go_enter Tryd.func70, Tryd.ntmps70
    go_wp2_with fail
    go_ret
    exact ⟨rfl, rfl⟩
  have n5 : (s.toList == [111, 112, 101, 110]) = false := lit_no rfl e5
  by_cases e6 : s = kDone
  · rw [show taken (numsOf s) = true by rw [e6]; decide]
    have n6 : (s.toList == [100, 111, 110, 101]) = true := lit_yes rfl e6
    clear e6
    go_enter Tryd.func70, Tryd.ntmps70
    go_wp2_with fail
    go_ret
    exact ⟨rfl, rfl⟩
  have n6 : (s.toList == [100, 111, 110, 101]) = false := lit_no rfl e6
  have HT : Hid (taken (numsOf s) = false) := by
    show taken (numsOf s) = false
    unfold taken
    rw [decide_eq_false (nums_ne (l := tkAnd) e0 rfl)]
    rw [decide_eq_false (nums_ne (l := tkOr) e1 rfl)]
    rw [decide_eq_false (nums_ne (l := tkNot) e2 rfl)]
    rw [decide_eq_false (nums_ne (l := tkTrue) e3 rfl)]
    rw [decide_eq_false (nums_ne (l := tkFalse) e4 rfl)]
    rw [decide_eq_false (nums_ne (l := tkOpen) e5 rfl)]
    rw [decide_eq_false (nums_ne (l := tkDone) e6 rfl)]
    rfl
  clear e0 e1 e2 e3 e4 e5 e6
  go_enter Tryd.func70, Tryd.ntmps70
  go_wp2_with fail
  go_ret
  exact ⟨by rw [HT.out]; rfl, rfl⟩
set_option maxHeartbeats 1000000 in
set_option maxRecDepth 8000 in
theorem quotable_any (s : ByteArray) (hs : s.size ≤ 20000) (w : World) : Calls Tryd.prog 28 #[.string s] w fun e w' => e = .returned (.bool (decide (cnt isCh (numsOf s) = s.size))) ∧ w' = w := by
  have hmx : (s.size : Int) ≤ 20000 := by omega
  clear hs
  go_enter Tryd.func28, Tryd.ntmps28
  go_wp2_with fail
  go_loopw [3] (fun t wr => ChI s w t wr) (fun t _ => s.size - (intOf t).toNat)
  case atStart => exact ⟨0, Nat.zero_le _, rfl, rfl, fun i h => absurd h (Nat.not_lt_zero _)⟩
  case round =>
    obtain ⟨k, hk, rfl, hw, h⟩ := hrel
    subst hw
    have HK : Hid (∀ i, i < k → isCh ((numsOf s).getD i 0) = true) := h
    clear h
    by_cases hlt : k < s.size
    · have hkI : (k : Int) < (s.size : Int) := by omega
      have hk0 : (0 : Int) ≤ (k : Int) := by omega
      have hx := fun w' => str_at s k hlt w'
      have HC : Hid (k < s.size) := hlt
      obtain ⟨c, hc⟩ : ∃ c, (numsOf s).getD k 0 = c := ⟨_, rfl⟩
      rw [hc] at hx
      have HD : Hid ((numsOf s).getD k 0 = c) := hc
      have fin : Hid (isCh c = false → decide (cnt isCh (numsOf s) = s.size) = false) := fun hf => by
        rw [cnt_is (n := k) (by rw [numsOf_len]; omega) HK.out (fun _ => by rw [hc]; exact hf)]
        simp; omega
      clear hc hlt hk
      by_cases h1 : c < 32
      · have a1 : (c : Int) < 32 := by omega
        have HF : Hid (isCh c = false) := by show isCh c = false; unfold isCh; simp; omega
        clear h1
        go_wp2_with fail
        go_ret
        exact ⟨by rw [fin.out HF.out]; rfl, rfl⟩
      · have a1 : ¬ (c : Int) < 32 := by omega
        by_cases h2 : 126 < c
        · have a2 : (126 : Int) < (c : Int) := by omega
          have HF : Hid (isCh c = false) := by show isCh c = false; unfold isCh; simp; omega
          clear h1 h2
          go_wp2_with fail
          go_ret
          exact ⟨by rw [fin.out HF.out]; rfl, rfl⟩
        · have a2 : ¬ (126 : Int) < (c : Int) := by omega
          by_cases h3 : c = 39
          · have HF : Hid (isCh c = false) := by show isCh c = false; rw [h3]; rfl
            have a3 : ((c : Int) == 39) = true := by rw [h3]; rfl
            clear h1 h2 h3
            go_wp2_with fail
            go_ret
            exact ⟨by rw [fin.out HF.out]; rfl, rfl⟩
          · have HF : Hid (isCh c = true) := by show isCh c = true; unfold isCh; simp; omega
            have a3 : ((c : Int) == 39) = false := bset c 39 h3
            clear h1 h2 h3
            go_wp2_with fail
            go_roundw
            case rel =>
              refine ⟨k + 1, by have := HC.out; omega, by go_num, rfl, fun i hi => ?_⟩
              rcases Nat.lt_or_ge i k with h3 | h3
              · exact HK.out i h3
              · obtain rfl : i = k := by omega
                rw [HD.out]; exact HF.out
            case measure => have := HC.out; simp [intOf]; omega
    · have hkI : ¬ (k : Int) < (s.size : Int) := by omega
      have fin : Hid (decide (cnt isCh (numsOf s) = s.size) = true) := by
        show _ = _
        rw [cnt_is (n := k) (by rw [numsOf_len]; omega) HK.out (fun h => by rw [numsOf_len] at h; omega)]
        simp; omega
      clear hlt hk
      go_wp2_with fail
      go_ret
      exact ⟨by rw [fin.out]; rfl, rfl⟩
theorem nm_lt {l : List Nat} (h : NmOk l) : isSm (l.getD 0 0) = true ∧ ∀ i, i < l.length → isLt (l.getD i 0) = true := by
  have hw := h.word
  have hp := h.pos
  cases l with
  | nil => simp at hp
  | cons a r =>
    simp only [wordN, List.length_cons] at hw
    split at hw
    · rename_i ha
      refine ⟨by simpa using ha, fun i hi => ?_⟩
      cases i with
      | zero => simp only [List.getD_cons_zero]; unfold isLt; simp [ha]
      | succ i =>
        simp only [List.getD_cons_succ]
        simp only [List.length_cons] at hi
        exact cnt_lt (by omega)
    · omega
theorem nm_is {l : List Nat} (h1 : 1 ≤ l.length) (h2 : l.length ≤ 32) (h3 : isSm (l.getD 0 0) = true) (h4 : taken l = false) (h5 : ∀ i, i < l.length → isLt (l.getD i 0) = true) : NmOk l :=
  ⟨wordN_is (Nat.le_refl _) (fun h => by omega) (fun _ => ⟨h3, fun i _ hi => h5 i hi, fun h => absurd h (by omega)⟩), h1, h2, h4⟩
/-- Between two bytes of a name. -/
inductive NmI (s : ByteArray) (w : World) (t : Value) (wr : World) : Prop where
  | intro (k : Nat) (hk : k ≤ s.size) (ht : t = .int .i64 (k : Int)) (hw : wr = w) (h : ∀ i, i < k → isLt ((numsOf s).getD i 0) = true)
/-- what Named answers -/
structure NdP (s : ByteArray) (w : World) (e : Ending) (w' : World) : Prop where
  ex : ∃ r, e = .returned (.bool r) ∧ w' = w ∧ (r = true ↔ NmOk (numsOf s))
theorem nd_no {s : ByteArray} {w : World} (h : ¬ NmOk (numsOf s)) : NdP s w (.returned (.bool false)) w := ⟨false, rfl, rfl, by simp [h]⟩
set_option maxHeartbeats 1000000 in
set_option maxRecDepth 8000 in
theorem Named_any (s : ByteArray) (w : World) : Calls Tryd.prog 67 #[.string s] w fun e w' => NdP s w e w' := by
  have hl := numsOf_len s
  by_cases h0 : s = ⟨#[]⟩
  · have HN : Hid (NdP s w (.returned (.bool false)) w) := nd_no fun h => by have := h.pos; rw [h0] at this; exact absurd this (by decide)
    have e0 : (s.toList == []) = true := lit_yes (K := ⟨#[]⟩) rfl h0
    clear h0 hl
    go_enter Tryd.func67, Tryd.ntmps67
    go_wp2_with fail
    go_ret
    exact HN.out
  have e0 : (s.toList == []) = false := lit_no (K := ⟨#[]⟩) rfl h0
  have hp : 1 ≤ s.size := by
    rcases Nat.eq_zero_or_pos s.size with h | h
    · exact absurd (by
        apply numsOf_inj
        have h9 : (numsOf s).length = 0 := by omega
        rw [List.length_eq_zero_iff.1 h9]; rfl) h0
    · exact h
  clear h0
  by_cases h1 : 32 < s.size
  · have HN : Hid (NdP s w (.returned (.bool false)) w) := nd_no fun h => by have := h.few; omega
    have i1 : (32 : Int) < (s.size : Int) := by omega
    clear h1 hl hp
    go_enter Tryd.func67, Tryd.ntmps67
    go_wp2_with fail
    go_ret
    exact HN.out
  have i1 : ¬ (32 : Int) < (s.size : Int) := by omega
  have hx := fun w' => str_at s 0 hp w'
  rw [show (((0 : Nat) : Int)) = 0 from rfl] at hx
  obtain ⟨c, hc⟩ : ∃ c, (numsOf s).getD 0 0 = c := ⟨_, rfl⟩
  rw [hc] at hx
  by_cases h2 : c < 97
  · have HN : Hid (NdP s w (.returned (.bool false)) w) := nd_no fun h => by
      have := (nm_lt h).1; rw [hc] at this; unfold isSm at this; simp at this; omega
    have i2 : (c : Int) < 97 := by omega
    clear h1 h2 hl hp hc
    go_enter Tryd.func67, Tryd.ntmps67
    go_wp2_with fail
    go_ret
    exact HN.out
  have i2 : ¬ (c : Int) < 97 := by omega
  by_cases h3 : 122 < c
  · have HN : Hid (NdP s w (.returned (.bool false)) w) := nd_no fun h => by
      have := (nm_lt h).1; rw [hc] at this; unfold isSm at this; simp at this; omega
    have i3 : (122 : Int) < (c : Int) := by omega
    clear h1 h2 h3 hl hp hc
    go_enter Tryd.func67, Tryd.ntmps67
    go_wp2_with fail
    go_ret
    exact HN.out
  have i3 : ¬ (122 : Int) < (c : Int) := by omega
  have T := Taken_any s w
  cases ht : taken (numsOf s) with
  | true =>
    have HN : Hid (NdP s w (.returned (.bool false)) w) := nd_no fun h => by have := h.free; rw [ht] at this; cases this
    rw [ht] at T
    clear h1 h2 h3 hl hp hc ht
    go_enter Tryd.func67, Tryd.ntmps67
    go_wp2_with (first
      | (go_at_call 70; refine T.mono ?_; rintro e w3 ⟨rfl, rfl⟩)
      | fail)
    go_ret
    exact HN.out
  | false =>
    rw [ht] at T
    have HY : Hid ((∀ i, i < s.size → isLt ((numsOf s).getD i 0) = true) → NdP s w (.returned (.bool true)) w) := fun h => ⟨true, rfl, rfl, by
      have : NmOk (numsOf s) := nm_is (by omega) (by omega) (by rw [hc]; unfold isSm; simp; omega) ht (fun i hi => h i (by omega))
      simp [this]⟩
    have HN : Hid (∀ i, i < s.size → isLt ((numsOf s).getD i 0) = false → NdP s w (.returned (.bool false)) w) := fun i hi hf => nd_no fun h => by
      have := (nm_lt h).2 i (by omega); rw [hf] at this; cases this
    have hmx : (s.size : Int) ≤ 32 := by omega
    clear h1 h2 h3 hl hp hc ht
    go_enter Tryd.func67, Tryd.ntmps67
    go_wp2_with (first
      | (go_at_call 70; refine T.mono ?_; rintro e w3 ⟨rfl, hw3⟩; replace hw3 := hw3.symm; subst hw3)
      | fail)
    clear T hx i2 i3 e0
    go_loopw [3] (fun t wr => NmI s w t wr) (fun t _ => s.size - (intOf t).toNat)
    case atStart => exact ⟨0, Nat.zero_le _, rfl, rfl, fun i h => absurd h (Nat.not_lt_zero _)⟩
    case round =>
      obtain ⟨k, hk, rfl, hw, h⟩ := hrel
      subst hw
      have HK : Hid (∀ i, i < k → isLt ((numsOf s).getD i 0) = true) := h
      clear h
      by_cases hlt : k < s.size
      · have hkI : (k : Int) < (s.size : Int) := by omega
        have hk0 : (0 : Int) ≤ (k : Int) := by omega
        have hx := fun w' => str_at s k hlt w'
        have HC : Hid (k < s.size) := hlt
        obtain ⟨d, hd⟩ : ∃ d, (numsOf s).getD k 0 = d := ⟨_, rfl⟩
        rw [hd] at hx
        have HD : Hid ((numsOf s).getD k 0 = d) := hd
        have LT := fun w' => Letter_any d w'
        clear hd hlt hk
        cases hb : isLt d with
        | true =>
          have HF : Hid (isLt d = true) := hb
          rw [hb] at LT
          clear hb
          go_wp2_with (first | (go_at_call 29; refine (LT _).mono ?_; rintro e w5 ⟨rfl, rfl⟩) | fail)
          go_roundw
          case rel =>
            refine ⟨k + 1, by have := HC.out; omega, by go_num, rfl, fun i hi => ?_⟩
            rcases Nat.lt_or_ge i k with h3 | h3
            · exact HK.out i h3
            · obtain rfl : i = k := by omega
              rw [HD.out]; exact HF.out
          case measure => have := HC.out; simp [intOf]; omega
        | false =>
          have HF : Hid (isLt d = false) := hb
          rw [hb] at LT
          clear hb
          go_wp2_with (first | (go_at_call 29; refine (LT _).mono ?_; rintro e w5 ⟨rfl, rfl⟩) | fail)
          go_ret
          exact HN.out k HC.out (by rw [HD.out]; exact HF.out)
      · have hkI : ¬ (k : Int) < (s.size : Int) := by omega
        have HE : Hid (k = s.size) := by show _ = _; omega
        clear hlt hk
        go_wp2_with fail
        go_ret
        exact HY.out fun i hi => HK.out i (by have := HE.out; omega)
end Go.Proofs.YtkcmidhpbaepoaaDoor.G
