/-
  Apart: the program's.
-/
import Derived.Test.YtompcdmjbigigaaRApart
namespace Go.Proofs.Ytompcdmjbigigaa
open Go.RowKit Go.WideShapes Go.Joins

set_option maxHeartbeats 4000000 in
set_option maxRecDepth 8000 in
theorem Apart_any (qa : Option Addr) (ca : Nat) (A : List Pr) (qt : Option Addr) (ct : Nat) (T : List Pr) (u r : ByteArray) (w : World) (ha : PrsIn w qa A ca) (ht : PrsIn w qt T ct) (hr : r.size ≤ maxLen) :
    Calls Try.prog 11 #[.slice qa A.length ca, .slice qt T.length ct, .string u, .string r] w fun e w' => e = .returned (.tuple #[.bool (apV A T u r), .int .i64 (apE A T r : Nat)]) ∧ Below w.heap.size w w' := by
  obtain ⟨n, hN⟩ : ∃ n, A.length = n := ⟨_, rfl⟩
  obtain ⟨m, hM⟩ : ∃ m, T.length = m := ⟨_, rfl⟩
  have HH : Hid (PrsIn w qa A ca ∧ PrsIn w qt T ct ∧ A.length = n ∧ T.length = m ∧ r.size ≤ maxLen) := ⟨ha, ht, hN, hM, hr⟩
  have hnI : (n : Int) ≤ 9223372036854775807 := by have := ha.le; have := ha.cap; unfold maxLen at this; omega
  have hmI : (m : Int) ≤ 9223372036854775807 := by have := ht.le; have := ht.cap; unfold maxLen at this; omega
  rw [hN, hM]
  clear ha ht hr hN hM
  go_enter Try.func11, Try.ntmps11
  by_cases h1 : 32 < n
  · have i1 : (32 : Int) < (n : Int) := by omega
    have HE : Hid (apE A T r = 4) := apE_many r (.inl (by have := HH.out.2.2.1; omega))
    clear h1
    go_wp2_with fail
    go_ret2
    exact ⟨by unfold apV; rw [HE.out]; rfl, Below.refl _ _⟩
  by_cases h2 : 1024 < m
  · have i1 : ¬ (32 : Int) < (n : Int) := by omega
    have i2 : (1024 : Int) < (m : Int) := by omega
    have HE : Hid (apE A T r = 4) := apE_many r (.inr (by have := HH.out.2.2.2.1; omega))
    clear h1 h2
    go_wp2_with fail
    go_ret2
    exact ⟨by unfold apV; rw [HE.out]; rfl, Below.refl _ _⟩
  have HE0 : Hid (apE A T r = if nmOk r then 0 else 5) := apE_few r (by have := HH.out.2.2; omega)
  have i1 : ¬ (32 : Int) < (n : Int) := by omega
  have i2 : ¬ (1024 : Int) < (m : Int) := by omega
  have HNM : Hid (n ≤ 32 ∧ m ≤ 1024) := ⟨by omega, by omega⟩
  have IN := isName_any r HH.out.2.2.2.2 w
  clear h1 h2
  cases hB : nmOk r with
  | false =>
    have HE : Hid (apE A T r = 5) := by show _ = _; rw [HE0.out, hB]; rfl
    rw [hB] at IN
    clear hB
    go_wp2_with (first | (go_at_call 23; refine IN.mono ?_; rintro e w1 ⟨rfl, hw⟩; subst hw) | fail)
    go_ret2
    exact ⟨by unfold apV; rw [HE.out]; rfl, Below.refl _ _⟩
  | true =>
    have HE : Hid (apE A T r = 0) := by show _ = _; rw [HE0.out, hB]; rfl
    have HV : Hid (apV A T u r = apB A T u r) := by show _ = _; unfold apV; rw [HE.out]; rfl
    rw [hB] at IN
    clear hB HE0
    go_wp2_with (first | (go_at_call 23; refine IN.mono ?_; rintro e w1 ⟨rfl, hw⟩; subst hw) | fail)
    clear IN
    go_loopw [25] (fun t wr => ∃ k : Nat, k ≤ n ∧ t = .int .i64 (k : Int) ∧ (∀ j, j < k → hitB T u r (A.getD j zP) = false) ∧ Below w1.heap.size w1 wr) (fun t _ => n - (intOf t).toNat)
    case atStart => exact ⟨0, Nat.zero_le _, rfl, fun j hj => absurd hj (Nat.not_lt_zero _), Below.refl _ _⟩
    case round =>
      obtain ⟨k, hk, rfl, hz, hb⟩ := hrel
      have HZ : Hid (∀ j, j < k → hitB T u r (A.getD j zP) = false) := hz
      have HB : Hid (Below w1.heap.size w1 wr) := hb
      clear hz
      by_cases hlt : k < n
      · have hkI : (k : Int) < (n : Int) := by omega
        have hk0 : (0 : Int) ≤ (k : Int) := by omega
        have HK : Hid (k < n) := hlt
        have hen := HH.out.1.below hb
        obtain ⟨fb, fo, rfl⟩ := hen.addr (by have := HH.out.2.2.1; omega)
        obtain ⟨z0, z1⟩ := hen.at (i := k) (by have := HH.out.2.2.1; omega)
        obtain ⟨p, hp⟩ : ∃ p, A.getD k zP = p := ⟨_, rfl⟩
        rw [hp] at z0 z1
        have HP : Hid (A.getD k zP = p) := hp
        obtain ⟨p1, p2⟩ := p
        simp only at z0 z1
        clear hen hp hk hlt hb
        have BA : Below w1.heap.size w1 (wr.alloc (.cells #[.string p1, .string p2] 28)) := HB.out.alloc HB.out.size _
        have NA := _root_.Go.heap_alloc_new wr (.cells #[.string p1, .string p2] 28)
        have a0 := Lib.cell_of_heap NA 0
        have a1 := Lib.cell_of_heap NA 1
        simp only [List.getElem?_toArray] at a0 a1
        clear NA
        have C1 : ∀ w', Below w1.heap.size w1 w' → Calls Try.prog 26 #[.slice qt m ct, .string u, .string p2] w' fun e w'' => e = .returned (.bool (actIn T u p2)) ∧ Below w'.heap.size w' w'' := fun w' hb => by
          have := actedIn_any qt ct T u p2 w' (HH.out.2.1.below hb) (by have := HH.out.2.2.2.1; have := HNM.out; omega)
          rwa [HH.out.2.2.2.1] at this
        have C2 : ∀ w', Below w1.heap.size w1 w' → Calls Try.prog 26 #[.slice qt m ct, .string u, .string p1] w' fun e w'' => e = .returned (.bool (actIn T u p1)) ∧ Below w'.heap.size w' w'' := fun w' hb => by
          have := actedIn_any qt ct T u p1 w' (HH.out.2.1.below hb) (by have := HH.out.2.2.2.1; have := HNM.out; omega)
          rwa [HH.out.2.2.2.1] at this
        have q1 := str_eq p1 r
        have q2 := str_eq p2 r
        have HI : Hid (hitB T u r (A.getD k zP) = ((decide (p1 = r) && actIn T u p2) || (decide (p2 = r) && actIn T u p1))) := by show _ = _; rw [HP.out]; rfl
        generalize actIn T u p2 = B1 at C1 HI
        generalize actIn T u p1 = B2 at C2 HI
        generalize decide (p1 = r) = b1 at q1 HI
        generalize decide (p2 = r) = b2 at q2 HI
        cases b1 with
        | true =>
          cases B1 with
          | true =>
            clear C2
            go_wp2_with fail
            refine (C1 _ BA).mono ?_
            rintro e w2 ⟨rfl, hb2⟩
            have B3 := below_more BA hb2
            have y0 := below_cell a0 hb2
            have y1 := below_cell a1 hb2
            simp only []
            go_wp2_with fail
            go_ret2
            exact ⟨by rw [HE.out, HV.out, show apB A T u r = true from any_yes (by have := HH.out.2.2.1; have := HK.out; omega) HI.out]; rfl, B3⟩
          | false =>
            cases b2 with
            | true =>
              cases B2 with
              | true =>
                go_wp2_with fail
                refine (C1 _ BA).mono ?_
                rintro e w2 ⟨rfl, hb2⟩
                have B3 := below_more BA hb2
                have y0 := below_cell a0 hb2
                have y1 := below_cell a1 hb2
                simp only []
                go_wp2_with fail
                refine (C2 _ B3).mono ?_
                rintro e w3 ⟨rfl, hb3⟩
                have B4 := below_more B3 hb3
                simp only []
                go_wp2_with fail
                go_ret2
                exact ⟨by rw [HE.out, HV.out, show apB A T u r = true from any_yes (by have := HH.out.2.2.1; have := HK.out; omega) HI.out]; rfl, B4⟩
              | false =>
                go_wp2_with fail
                refine (C1 _ BA).mono ?_
                rintro e w2 ⟨rfl, hb2⟩
                have B3 := below_more BA hb2
                have y0 := below_cell a0 hb2
                have y1 := below_cell a1 hb2
                simp only []
                go_wp2_with fail
                refine (C2 _ B3).mono ?_
                rintro e w3 ⟨rfl, hb3⟩
                have B4 := below_more B3 hb3
                simp only []
                go_wp2_with fail
                go_roundw
                case rel =>
                  refine ⟨k + 1, HK.out, by go_num, fun j hj => ?_, B4⟩
                  rcases Nat.lt_or_ge j k with h1 | h1
                  · exact HZ.out j h1
                  · obtain rfl : j = k := by omega
                    exact HI.out
                case measure => have := HK.out; simp [intOf]; omega
            | false =>
              clear C2
              go_wp2_with fail
              refine (C1 _ BA).mono ?_
              rintro e w2 ⟨rfl, hb2⟩
              have B3 := below_more BA hb2
              have y0 := below_cell a0 hb2
              have y1 := below_cell a1 hb2
              simp only []
              go_wp2_with fail
              go_roundw
              case rel =>
                refine ⟨k + 1, HK.out, by go_num, fun j hj => ?_, B3⟩
                rcases Nat.lt_or_ge j k with h1 | h1
                · exact HZ.out j h1
                · obtain rfl : j = k := by omega
                  exact HI.out
              case measure => have := HK.out; simp [intOf]; omega
        | false =>
          cases b2 with
          | true =>
            cases B2 with
            | true =>
              clear C1
              go_wp2_with fail
              refine (C2 _ BA).mono ?_
              rintro e w3 ⟨rfl, hb3⟩
              have B4 := below_more BA hb3
              simp only []
              go_wp2_with fail
              go_ret2
              exact ⟨by rw [HE.out, HV.out, show apB A T u r = true from any_yes (by have := HH.out.2.2.1; have := HK.out; omega) HI.out]; rfl, B4⟩
            | false =>
              clear C1
              go_wp2_with fail
              refine (C2 _ BA).mono ?_
              rintro e w3 ⟨rfl, hb3⟩
              have B4 := below_more BA hb3
              simp only []
              go_wp2_with fail
              go_roundw
              case rel =>
                refine ⟨k + 1, HK.out, by go_num, fun j hj => ?_, B4⟩
                rcases Nat.lt_or_ge j k with h1 | h1
                · exact HZ.out j h1
                · obtain rfl : j = k := by omega
                  exact HI.out
              case measure => have := HK.out; simp [intOf]; omega
          | false =>
            clear C1 C2
            go_wp2_with fail
            go_roundw
            case rel =>
              refine ⟨k + 1, HK.out, by go_num, fun j hj => ?_, BA⟩
              rcases Nat.lt_or_ge j k with h1 | h1
              · exact HZ.out j h1
              · obtain rfl : j = k := by omega
                exact HI.out
            case measure => have := HK.out; simp [intOf]; omega
      · obtain rfl : k = n := by omega
        have HF : Hid (apB A T u r = false) := any_no fun i hi => HZ.out i (by have := HH.out.2.2.1; omega)
        clear hk hlt hb
        go_wp2_with fail
        go_ret2
        exact ⟨by rw [HE.out, HV.out, HF.out]; rfl, HB.out⟩
end Go.Proofs.Ytompcdmjbigigaa
