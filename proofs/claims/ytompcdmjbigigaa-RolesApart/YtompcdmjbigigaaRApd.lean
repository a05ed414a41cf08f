/-
  Apart: the document's. Written by tools/gen_rapd.py.
-/
import Derived.Test.YtompcdmjbigigaaRApa2
namespace Go.Proofs.Ytompcdmjbigigaa
open Go.RowKit Go.WideShapes Go.Joins

def mtB (u r : ByteArray) (p t : Pr) : Bool := decide (t.1 = u) && ((decide (p.1 = r) && decide (p.2 = t.2)) || (decide (p.2 = r) && decide (p.1 = t.2)))
theorem hitB_mt (T : List Pr) (u r : ByteArray) (p : Pr) : hitB T u r p = T.any (mtB u r p) := by
  rw [Bool.eq_iff_iff]
  unfold hitB actIn isAct mtB
  simp only [Bool.or_eq_true, Bool.and_eq_true, decide_eq_true_eq, List.any_eq_true]
  constructor
  · rintro (⟨h, t, ht, h1, h2⟩ | ⟨h, t, ht, h1, h2⟩)
    · exact ⟨t, ht, h1.symm, .inl ⟨h, h2⟩⟩
    · exact ⟨t, ht, h1.symm, .inr ⟨h, h2⟩⟩
  · rintro ⟨t, ht, h1, ⟨h, h2⟩ | ⟨h, h2⟩⟩
    · exact .inl ⟨h, t, ht, h1.symm, h2⟩
    · exact .inr ⟨h, t, ht, h1.symm, h2⟩
set_option maxHeartbeats 4000000 in
set_option maxRecDepth 8000 in
theorem dApart_any (qa : Option Addr) (ca : Nat) (A : List Pr) (qt : Option Addr) (ct : Nat) (T : List Pr) (u r : ByteArray) (w : World) (ha : PrsIn w qa A ca) (ht : PrsIn w qt T ct) (hr : r.size ≤ maxLen) :
    Calls Try.prog 20 #[.slice qa A.length ca, .slice qt T.length ct, .string u, .string r] w fun e w' => e = .returned (.tuple #[.bool (apV A T u r), .int .i64 (apE A T r : Nat)]) ∧ Below w.heap.size w w' := by
  obtain ⟨n, hN⟩ : ∃ n, A.length = n := ⟨_, rfl⟩
  obtain ⟨m, hM⟩ : ∃ m, T.length = m := ⟨_, rfl⟩
  have HH : Hid (PrsIn w qa A ca ∧ PrsIn w qt T ct ∧ A.length = n ∧ T.length = m ∧ r.size ≤ maxLen) := ⟨ha, ht, hN, hM, hr⟩
  have hnI : (n : Int) ≤ 9223372036854775807 := by have := ha.le; have := ha.cap; unfold maxLen at this; omega
  have hmI : (m : Int) ≤ 9223372036854775807 := by have := ht.le; have := ht.cap; unfold maxLen at this; omega
  rw [hN, hM]
  clear ha ht hr hN hM
  go_enter Try.func20, Try.ntmps20
  by_cases h1 : 32 < n
  · have i1 : (32 : Int) < (n : Int) := by omega
    have HE : Hid (apE A T r = 4) := apE_many r (.inl (by have := HH.out.2.2.1; omega))
    clear h1
    go_wp2_with fail
    go_ret2
    exact ⟨by unfold apV; rw [HE.out]; rfl, Below.refl _ _⟩
  by_cases h2 : 1024 < m
  · have i1 : ¬ (32 : Int) < (n : Int) := by omega
    have i2 : (1024 : Int) < (m : Int) := by omega
    have HE : Hid (apE A T r = 4) := apE_many r (.inr (by have := HH.out.2.2.2.1; omega))
    clear h1 h2
    go_wp2_with fail
    go_ret2
    exact ⟨by unfold apV; rw [HE.out]; rfl, Below.refl _ _⟩
  have HE0 : Hid (apE A T r = if nmOk r then 0 else 5) := apE_few r (by have := HH.out.2.2; omega)
  have i1 : ¬ (32 : Int) < (n : Int) := by omega
  have i2 : ¬ (1024 : Int) < (m : Int) := by omega
  have HNM : Hid (n ≤ 32 ∧ m ≤ 1024) := ⟨by omega, by omega⟩
  have IN := Named_any r HH.out.2.2.2.2 w
  clear h1 h2
  cases hB : nmOk r with
  | false =>
    have HE : Hid (apE A T r = 5) := by show _ = _; rw [HE0.out, hB]; rfl
    rw [hB] at IN
    clear hB
    go_wp2_with (first | (go_at_call 31; refine IN.mono ?_; rintro e w1 ⟨rfl, hw⟩; subst hw) | fail)
    go_ret2
    exact ⟨by unfold apV; rw [HE.out]; rfl, Below.refl _ _⟩
  | true =>
    have HE : Hid (apE A T r = 0) := by show _ = _; rw [HE0.out, hB]; rfl
    have HV : Hid (apV A T u r = apB A T u r) := by show _ = _; unfold apV; rw [HE.out]; rfl
    rw [hB] at IN
    clear hB HE0
    go_wp2_with (first | (go_at_call 31; refine IN.mono ?_; rintro e w1 ⟨rfl, hw⟩; subst hw) | fail)
    clear IN
    go_loopw [10] (fun t wr => ∃ k : Nat, k ≤ n ∧ t = .int .i64 (k : Int) ∧ (∀ j, j < k → hitB T u r (A.getD j zP) = false) ∧ Below w1.heap.size w1 wr) (fun t _ => n - (intOf t).toNat)
    case atStart => exact ⟨0, Nat.zero_le _, rfl, fun j hj => absurd hj (Nat.not_lt_zero _), Below.refl _ _⟩
    case round =>
      obtain ⟨k, hk, rfl, hz, hb⟩ := hrel
      have HZ : Hid (∀ j, j < k → hitB T u r (A.getD j zP) = false) := hz
      have HB : Hid (Below w1.heap.size w1 wr) := hb
      clear hz
      by_cases hlt : k < n
      · have hkI : (k : Int) < (n : Int) := by omega
        have hk0 : (0 : Int) ≤ (k : Int) := by omega
        have HK : Hid (k < n) := hlt
        clear hk hlt
        go_wp2_with fail
        go_loopw [11] (fun t wr => ∃ i : Nat, i ≤ m ∧ t = .int .i64 (i : Int) ∧ (∀ j, j < i → mtB u r (A.getD k zP) (T.getD j zP) = false) ∧ Below w1.heap.size w1 wr) (fun t _ => m - (intOf t).toNat)
        case atStart => exact ⟨0, Nat.zero_le _, rfl, fun j hj => absurd hj (Nat.not_lt_zero _), hb⟩
        case round =>
          clear hb
          obtain ⟨i, hi, rfl, hz, hb⟩ := hrel
          have HZI : Hid (∀ j, j < i → mtB u r (A.getD k zP) (T.getD j zP) = false) := hz
          have HBI : Hid (Below w1.heap.size w1 wr) := hb
          clear hz
          by_cases hlt : i < m
          · have hiI : (i : Int) < (m : Int) := by omega
            have hi0 : (0 : Int) ≤ (i : Int) := by omega
            have HI : Hid (i < m) := hlt
            have hen := HH.out.1.below hb
            obtain ⟨fb, fo, rfl⟩ := hen.addr (by have := HH.out.2.2.1; have := HK.out; omega)
            obtain ⟨z0, z1⟩ := hen.at (i := k) (by have := HH.out.2.2.1; have := HK.out; omega)
            have hen2 := HH.out.2.1.below hb
            obtain ⟨gb, go, rfl⟩ := hen2.addr (by have := HH.out.2.2.2.1; omega)
            obtain ⟨y0, y1⟩ := hen2.at (i := i) (by have := HH.out.2.2.2.1; omega)
            have HP : Hid (mtB u r (A.getD k zP) (T.getD i zP) = (decide ((T.getD i zP).1 = u) && ((decide ((A.getD k zP).1 = r) && decide ((A.getD k zP).2 = (T.getD i zP).2)) || (decide ((A.getD k zP).2 = r) && decide ((A.getD k zP).1 = (T.getD i zP).2))))) := rfl
            have HY : Hid (mtB u r (A.getD k zP) (T.getD i zP) = true → apB A T u r = true) := fun h => any_yes (i := k) (by have := HH.out.2.2.1; have := HK.out; omega) (by rw [hitB_mt]; exact any_yes (i := i) (by have := HH.out.2.2.2.1; have := HI.out; omega) h)
            have HR : Hid (mtB u r (A.getD k zP) (T.getD i zP) = false → ∀ j, j < i + 1 → mtB u r (A.getD k zP) (T.getD j zP) = false) := fun h j hj => by
              rcases Nat.lt_or_ge j i with h1 | h1
              · exact HZI.out j h1
              · obtain rfl : j = i := by omega
                exact h
            generalize mtB u r (A.getD k zP) (T.getD i zP) = MB at HP HY HR
            obtain ⟨p, hp⟩ : ∃ p, A.getD k zP = p := ⟨_, rfl⟩
            obtain ⟨t, hpt⟩ : ∃ t, T.getD i zP = t := ⟨_, rfl⟩
            rw [hp] at z0 z1
            rw [hpt] at y0 y1
            have HP0 := HP.out
            clear HP
            rw [hp, hpt] at HP0
            have HP : Hid _ := HP0
            clear HP0 hp hpt
            obtain ⟨p1, p2⟩ := p
            obtain ⟨t1, t2⟩ := t
            simp only at z0 z1 y0 y1 HP
            have q0 := str_eq t1 u
            have q1 := str_eq p1 r
            have q2 := str_eq p2 t2
            have q3 := str_eq p2 r
            have q4 := str_eq p1 t2
            generalize decide (t1 = u) = b0 at q0 HP
            generalize decide (p1 = r) = b1 at q1 HP
            generalize decide (p2 = t2) = b2 at q2 HP
            generalize decide (p2 = r) = b3 at q3 HP
            generalize decide (p1 = t2) = b4 at q4 HP
            have q0n : (t1.toList != u.toList) = !b0 := by simp only [bne, q0]
            clear hen hen2 hb hi hlt
            cases b0 with
            | true =>
              cases b1 with
              | true =>
                cases b2 with
                | true =>
                  go_wp2_with fail
                  go_quiet (fail)
                  go_wp2_with fail
                  go_ret2
                  exact ⟨by rw [HE.out, HV.out, HY.out HP.out]; rfl, below_dN HBI.out _⟩
                | false =>
                  cases b3 with
                  | true =>
                    cases b4 with
                    | true =>
                      go_wp2_with fail
                      go_quiet (fail)
                      go_wp2_with fail
                      go_ret2
                      exact ⟨by rw [HE.out, HV.out, HY.out HP.out]; rfl, below_dN HBI.out _⟩
                    | false =>
                      go_wp2_with fail
                      go_quiet (fail)
                      go_wp2_with fail
                      go_roundw
                      case rel => exact ⟨i + 1, HI.out, by go_num, HR.out HP.out, below_dN HBI.out _⟩
                      case measure => have := HI.out; simp [intOf]; omega
                  | false =>
                    go_wp2_with fail
                    go_quiet (fail)
                    go_wp2_with fail
                    go_roundw
                    case rel => exact ⟨i + 1, HI.out, by go_num, HR.out HP.out, below_dN HBI.out _⟩
                    case measure => have := HI.out; simp [intOf]; omega
              | false =>
                cases b3 with
                | true =>
                  cases b4 with
                  | true =>
                    go_wp2_with fail
                    go_quiet (fail)
                    go_wp2_with fail
                    go_ret2
                    exact ⟨by rw [HE.out, HV.out, HY.out HP.out]; rfl, below_dN HBI.out _⟩
                  | false =>
                    go_wp2_with fail
                    go_quiet (fail)
                    go_wp2_with fail
                    go_roundw
                    case rel => exact ⟨i + 1, HI.out, by go_num, HR.out HP.out, below_dN HBI.out _⟩
                    case measure => have := HI.out; simp [intOf]; omega
                | false =>
                  go_wp2_with fail
                  go_quiet (fail)
                  go_wp2_with fail
                  go_roundw
                  case rel => exact ⟨i + 1, HI.out, by go_num, HR.out HP.out, below_dN HBI.out _⟩
                  case measure => have := HI.out; simp [intOf]; omega
            | false =>
              go_wp2_with fail
              go_roundw
              case rel => exact ⟨i + 1, HI.out, by go_num, HR.out HP.out, HBI.out⟩
              case measure => have := HI.out; simp [intOf]; omega
          · obtain rfl : i = m := by omega
            have HF : Hid (hitB T u r (A.getD k zP) = false) := by
              show _ = _
              rw [hitB_mt]
              exact any_no fun j hj => HZI.out j (by have := HH.out.2.2.2.1; omega)
            clear hi hlt hb
            go_wp2_with fail
            go_roundw
            case rel =>
              refine ⟨k + 1, HK.out, by go_num, fun j hj => ?_, HBI.out⟩
              rcases Nat.lt_or_ge j k with h1 | h1
              · exact HZ.out j h1
              · obtain rfl : j = k := by omega
                exact HF.out
            case measure => have := HK.out; simp [intOf]; omega
      · obtain rfl : k = n := by omega
        have HF : Hid (apB A T u r = false) := any_no fun i hi => HZ.out i (by have := HH.out.2.2.1; omega)
        clear hk hlt hb
        go_wp2_with fail
        go_ret2
        exact ⟨by rw [HE.out, HV.out, HF.out]; rfl, HB.out⟩
end Go.Proofs.Ytompcdmjbigigaa
