/-
  Same: the program's.
-/
import Derived.Test.YtoagaddciapmkaaDoorXPass
import Derived.BigQuiet
namespace Go.Proofs.YtoagaddciapmkaaDoor
open Go.RowKit Go.WideShapes

/-- What differs so far. -/
def otherN (xs ys : List Nat) : Nat → Nat
  | 0 => 0
  | k + 1 => otherN xs ys k ||| (xs.getD k 0 ^^^ ys.getD k 0)
theorem other_lt {xs ys : List Nat} (hx : ∀ c ∈ xs, c < 256) (hy : ∀ c ∈ ys, c < 256) : ∀ k, otherN xs ys k < 256
  | 0 => by show 0 < 256; decide
  | k + 1 => Nat.or_lt_two_pow (n := 8) (other_lt hx hy k) (Nat.xor_lt_two_pow (n := 8) (getD_lt' hx k) (getD_lt' hy k))
theorem or_zero {a b : Nat} (h : a ||| b = 0) : a = 0 ∧ b = 0 := by
  constructor
  · apply Nat.eq_of_testBit_eq
    intro i
    have := congrArg (fun n => n.testBit i) h
    simp only [Nat.testBit_or, Nat.zero_testBit, Bool.or_eq_false_iff] at this
    rw [this.1, Nat.zero_testBit]
  · apply Nat.eq_of_testBit_eq
    intro i
    have := congrArg (fun n => n.testBit i) h
    simp only [Nat.testBit_or, Nat.zero_testBit, Bool.or_eq_false_iff] at this
    rw [this.2, Nat.zero_testBit]
theorem xor_zero' {a b : Nat} (h : a ^^^ b = 0) : a = b := by
  have h2 := congrArg (· ^^^ b) h
  simp only [Nat.xor_assoc, Nat.xor_self, Nat.xor_zero, Nat.zero_xor] at h2
  exact h2
theorem other_zero (xs ys : List Nat) : ∀ k, otherN xs ys k = 0 ↔ ∀ i, i < k → xs.getD i 0 = ys.getD i 0
  | 0 => by simp [otherN]
  | k + 1 => by
    rw [otherN]
    constructor
    · intro h i hi
      obtain ⟨h1, h2⟩ := or_zero h
      rcases Nat.lt_or_ge i k with h' | h'
      · exact (other_zero xs ys k).1 h1 i h'
      · obtain rfl : i = k := by omega
        exact xor_zero' h2
    · intro h
      rw [(other_zero xs ys k).2 (fun i hi => h i (by omega)), h k (by omega), Nat.xor_self]
      rfl
theorem same_iff {xs ys : List Nat} (hl : xs.length = ys.length) : otherN xs ys xs.length = 0 ↔ xs = ys := by
  rw [other_zero]
  constructor
  · intro h
    apply List.ext_getElem hl
    intro i h1 h2
    have := h i h1
    simpa [List.getD, List.getElem?_eq_getElem h1, List.getElem?_eq_getElem h2] using this
  · rintro rfl i _; rfl
inductive SameI (w : World) (xs ys : List Nat) (o t : Value) (wr : World) : Prop where
  | intro (k : Nat) (hk : k ≤ xs.length) (ht : t = .int .i64 (k : Int)) (ho : o = .int .u8 ((otherN xs ys k : Nat) : Int)) (hb : Below w.heap.size w wr)
set_option maxHeartbeats 1000000 in
set_option maxRecDepth 100000 in
theorem same_any (p q : Option Addr) (c d : Nat) (xs ys : List Nat) (w : World) (hb : BIn w p xs) (hb2 : BIn w q ys) (hsz : xs.length < 1000000000) :
    Calls Tryd.prog 14 #[.slice p xs.length c, .slice q ys.length d] w fun e w' => e = .returned (.bool (decide (xs = ys))) ∧ Below w.heap.size w w' := by
  by_cases hl : xs.length = ys.length
  · have hlI : ((xs.length : Int) != (ys.length : Int)) = false := by simp [hl]
    have HSI : Hid _ := same_iff hl
    obtain ⟨n, hn⟩ : ∃ n, xs.length = n := ⟨_, rfl⟩
    have hny : ys.length = n := by omega
    have HN : Hid _ := hn
    have HL : Hid (∀ k, k < n → k < xs.length ∧ k < ys.length) := fun k hk => ⟨by omega, by omega⟩
    have hol := other_lt hb.2 hb2.2
    rw [hn, hny]
    clear hl hlI
    go_enter Tryd.func14, Tryd.ntmps14
    go_wp2
    go_loopw [5, 14] (fun o t wr => SameI w xs ys o t wr) (fun _ t _ => n - (intOf t).toNat)
    case atStart => exact ⟨0, by omega, rfl, rfl, Below.refl _ _⟩
    case round =>
      obtain ⟨k, hk, rfl, rfl, hB⟩ := hrel
      by_cases hlt : k < n
      · obtain ⟨hkx, hky⟩ := HL.out k hlt
        obtain ⟨b1, o1, rfl, c1⟩ := (hb.below hB).1 (by omega)
        obtain ⟨b2, o2, rfl, c2⟩ := (hb2.below hB).1 (by omega)
        have d1 := c1 k hkx
        have d2 := c2 k hky
        have l1 := getD_lt' hb.2 k
        have l2 := getD_lt' hb2.2 k
        have l3 := hol k
        have hxr := u8_xor_nat _ _ l1 l2
        have hor := u8_or_nat _ _ l3 (Nat.xor_lt_two_pow (n := 8) l1 l2)
        have HS : Hid (otherN xs ys k ||| (xs.getD k 0 ^^^ ys.getD k 0) = otherN xs ys (k + 1)) := rfl
        have hkI : (k : Int) < (n : Int) := by omega
        generalize xs.getD k 0 = x at d1 hxr hor HS l1
        generalize ys.getD k 0 = y at d2 hxr hor HS l2
        generalize otherN xs ys k = z at hor HS l3 ⊢
        have Hb : Hid _ := hb
        have Hb2 : Hid _ := hb2
        have Hol : Hid _ := hol
        clear hb hb2 c1 c2 hol hn hny hkx hky
        go_upto_region 7 with fail
        go_quiet (fail)
        go_wp2
        go_roundw
        case rel =>
          refine ⟨k + 1, by rw [HN.out]; omega, rfl, by rw [← HS.out], below_drewN hB _⟩
        case measure => simp [intOf]; omega
      · have hkn : k = n := by rw [hn] at hk; omega
        subst hkn
        have hol' := hol k
        have Hb : Hid _ := hb
        have Hb2 : Hid _ := hb2
        have hsi : otherN xs ys k = 0 ↔ xs = ys := by have := HSI.out; rw [hn] at this; exact this
        clear hb hb2 hol hn hny
        by_cases hz : otherN xs ys k = 0
        · have e : decide (xs = ys) = true := decide_eq_true (hsi.1 hz)
          rw [hz]
          clear hsi
          go_wp2
          go_ret
          rw [e]
          exact ⟨rfl, hB⟩
        · have e : decide (xs = ys) = false := decide_eq_false (fun h => hz (hsi.2 h))
          have hzI : (((otherN xs ys k : Nat) : Int) == 0) = false := by simp [hz]
          generalize otherN xs ys k = z at hz hzI hol' ⊢
          clear hsi
          go_wp2
          go_ret
          rw [e]
          exact ⟨by simp, hB⟩
  · have hlI : ¬ ((xs.length : Int) = (ys.length : Int)) := by omega
    have hlB : ((xs.length : Int) != (ys.length : Int)) = true := by simp only [bne_iff_ne, ne_eq]; exact hlI
    have e : decide (xs = ys) = false := decide_eq_false (fun h => hl (by rw [h]))
    rw [e]
    clear e
    go_enter Tryd.func14, Tryd.ntmps14
    go_wp2
    go_ret
    exact ⟨rfl, Below.refl _ _⟩
end Go.Proofs.YtoagaddciapmkaaDoor
