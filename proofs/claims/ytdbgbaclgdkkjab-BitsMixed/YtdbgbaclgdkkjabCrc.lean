/-
  Plain arithmetic of the cyclic sum: it is linear over exclusive or, one bit's step is one to one, and up to four bytes side by side that differ change it.
-/
import Derived.Test.YtdbgbaclgdkkjabMath
namespace Go.Proofs.Ytdbgbaclgdkkjab
open Go.RowKit

theorem xor_half (a b : Nat) : (a ^^^ b) / 2 = a / 2 ^^^ b / 2 := by
  have := Nat.xor_div_two_pow (a := a) (b := b) (n := 1)
  simpa using this
theorem xor_low (a b : Nat) : (a ^^^ b) % 2 = (a % 2 + b % 2) % 2 := by
  have h := Nat.xor_mod_two_pow (a := a) (b := b) (n := 1)
  simp only [Nat.pow_one] at h
  rw [h]
  rcases Nat.mod_two_eq_zero_or_one a with h1 | h1 <;> rcases Nat.mod_two_eq_zero_or_one b with h2 | h2 <;> rw [h1, h2] <;> rfl
theorem crcBit_xor (a b : Nat) : crcBit (a ^^^ b) = crcBit a ^^^ crcBit b := by
  unfold crcBit
  rw [xor_low, xor_half]
  generalize (3988292384 : Nat) = P
  rcases Nat.mod_two_eq_zero_or_one a with h1 | h1 <;> rcases Nat.mod_two_eq_zero_or_one b with h2 | h2 <;> rw [h1, h2]
  · simp
  · simp only [Nat.zero_add, Nat.mod_succ, if_true, Nat.zero_ne_one, if_false, Nat.xor_assoc]
  · simp only [Nat.add_zero, Nat.mod_succ, if_true, Nat.zero_ne_one, if_false]
    rw [Nat.xor_assoc, Nat.xor_comm (b / 2) P, ← Nat.xor_assoc]
  · simp only [Nat.reduceAdd, Nat.mod_self, Nat.zero_ne_one, if_false, if_true]
    rw [Nat.xor_assoc (a / 2) P, ← Nat.xor_assoc P, Nat.xor_comm P (b / 2), Nat.xor_assoc (b / 2), Nat.xor_self, Nat.xor_zero]
theorem crcBits_xor (k a b : Nat) : crcBits k (a ^^^ b) = crcBits k a ^^^ crcBits k b := by
  induction k with
  | zero => rfl
  | succ k ih => rw [crcBits, ih, crcBit_xor]; rfl
theorem crcBits_add (j k r : Nat) : crcBits (j + k) r = crcBits j (crcBits k r) := by
  induction j with
  | zero => simp [crcBits]
  | succ j ih => rw [show j + 1 + k = (j + k) + 1 from by omega, crcBits, ih]; rfl
theorem crcBit_zero {r : Nat} (hr : r < 4294967296) (h : crcBit r = 0) : r = 0 := by
  unfold crcBit at h
  split at h
  · have : r / 2 = 3988292384 := by
      have h2 := congrArg (· ^^^ 3988292384) h
      simp only [Nat.xor_assoc, Nat.xor_self, Nat.xor_zero, Nat.zero_xor] at h2
      exact h2
    omega
  · omega
theorem crcBits_zero (k : Nat) {r : Nat} (hr : r < 4294967296) (h : crcBits k r = 0) : r = 0 := by
  induction k with
  | zero => exact h
  | succ k ih => exact ih (crcBit_zero (crcBits_lt k r hr) h)
theorem crcBits_of_zero (k : Nat) : crcBits k 0 = 0 := by
  induction k with
  | zero => rfl
  | succ k ih => rw [crcBits, ih]; rfl
theorem xor_eq_zero {a b : Nat} (h : a ^^^ b = 0) : a = b := by
  have h2 := congrArg (· ^^^ b) h
  simp only [Nat.xor_assoc, Nat.xor_self, Nat.xor_zero, Nat.zero_xor] at h2
  exact h2
theorem xor_left {a b c : Nat} (h : a ^^^ b = a ^^^ c) : b = c := by
  have h2 := congrArg (a ^^^ ·) h
  simp only [← Nat.xor_assoc, Nat.xor_self, Nat.zero_xor] at h2
  exact h2
theorem xor_move {a b c : Nat} (h : a ^^^ b = c) : a = b ^^^ c := by
  rw [← h, Nat.xor_comm a b, ← Nat.xor_assoc, Nat.xor_self, Nat.zero_xor]
theorem crcBits_inj (k : Nat) {a b : Nat} (ha : a < 4294967296) (hb : b < 4294967296) (h : crcBits k a = crcBits k b) : a = b := by
  apply xor_eq_zero
  apply crcBits_zero k (Nat.xor_lt_two_pow (n := 32) ha hb)
  rw [crcBits_xor, h, Nat.xor_self]
theorem crcBits_shift (k y : Nat) : crcBits k (2 ^ k * y) = y := by
  induction k generalizing y with
  | zero => simp [crcBits]
  | succ k ih =>
    rw [crcBits, Nat.pow_succ, Nat.mul_assoc, ih]
    unfold crcBit
    rw [if_neg (by omega)]; omega
theorem crc_add (l : List Nat) : ∀ r d, crc (r ^^^ d) l = crc r l ^^^ crcBits (8 * l.length) d := by
  induction l with
  | nil => intro r d; rfl
  | cons c l ih =>
    intro r d
    show crc (crcBits 8 (r ^^^ d ^^^ c)) l = crc (crcBits 8 (r ^^^ c)) l ^^^ _
    rw [show r ^^^ d ^^^ c = (r ^^^ c) ^^^ d from by rw [Nat.xor_assoc, Nat.xor_comm d c, ← Nat.xor_assoc], crcBits_xor, ih]
    congr 1
    rw [List.length_cons, Nat.mul_add, Nat.mul_one, crcBits_add]
/-- One byte that is another one. -/
theorem crc_set (x : Nat) (l : List Nat) : ∀ (p r : Nat), p < l.length → crc r (l.set p (l.getD p 0 ^^^ x)) = crc r l ^^^ crcBits (8 * (l.length - p)) x := by
  induction l with
  | nil => intro p r h; simp at h
  | cons c l ih =>
    intro p r h
    cases p with
    | zero =>
      show crc (crcBits 8 (r ^^^ (c ^^^ x))) l = crc (crcBits 8 (r ^^^ c)) l ^^^ _
      rw [← Nat.xor_assoc, crcBits_xor, crc_add]
      congr 1
      rw [List.length_cons, Nat.sub_zero, Nat.mul_add, Nat.mul_one, crcBits_add]
    | succ p =>
      have hp : p < l.length := by simpa using h
      show crc (crcBits 8 (r ^^^ c)) (l.set p (l.getD p 0 ^^^ x)) = crc (crcBits 8 (r ^^^ c)) l ^^^ _
      rw [ih p _ hp]
      congr 2
      simp
/-- The sum of the bytes by which four were changed. -/
def turnT (x : Nat → Nat) : Nat → Nat
  | 0 => 0
  | k + 1 => crcBits 8 (turnT x k ^^^ x k)
/-- The bytes, of which those from 'at' on are changed. -/
def turnL (xs : List Nat) (p : Nat) (x : Nat → Nat) : Nat → List Nat
  | 0 => xs
  | k + 1 => (turnL xs p x k).set (p + k) ((turnL xs p x k).getD (p + k) 0 ^^^ x k)
def turnB (x : Nat → Nat) : Nat → Bool
  | 0 => false
  | k + 1 => turnB x k || decide (x k ≠ 0)
theorem turnL_len (xs : List Nat) (p : Nat) (x : Nat → Nat) (k : Nat) : (turnL xs p x k).length = xs.length := by
  induction k with
  | zero => rfl
  | succ k ih => rw [turnL, List.length_set, ih]
theorem turnL_bytes {xs : List Nat} (p : Nat) {x : Nat → Nat} (hx : ∀ c ∈ xs, c < 256) (hb : ∀ k, x k < 256) (k : Nat) : ∀ c ∈ turnL xs p x k, c < 256 := by
  induction k with
  | zero => exact hx
  | succ k ih =>
    intro c hc
    rcases List.mem_or_eq_of_mem_set hc with h | h
    · exact ih c h
    · rw [h]; exact Nat.xor_lt_two_pow (n := 8) (getD_lt ih _) (hb k)
theorem crc_turn (xs : List Nat) (p : Nat) (x : Nat → Nat) (r k : Nat) (h : p + k ≤ xs.length) : crc r (turnL xs p x k) = crc r xs ^^^ crcBits (8 * (xs.length - p - k)) (turnT x k) := by
  induction k with
  | zero => simp [turnL, turnT, crcBits_of_zero]
  | succ k ih =>
    rw [turnL, crc_set _ _ _ _ (by rw [turnL_len]; omega), turnL_len, ih (by omega), Nat.xor_assoc]
    congr 1
    rw [show xs.length - (p + k) = xs.length - p - k from by omega, ← crcBits_xor, turnT, ← crcBits_add]
    congr 1
    omega
theorem turnT_lt {x : Nat → Nat} (hb : ∀ k, x k < 256) (k : Nat) : turnT x k < 4294967296 := by
  cases k with
  | zero => show (0 : Nat) < 4294967296; decide
  | succ k =>
    rw [turnT]
    induction k with
    | zero => exact crcBits_lt 8 _ (Nat.xor_lt_two_pow (n := 32) (show (0 : Nat) < 4294967296 by decide) (by have := hb 0; omega))
    | succ k ih => exact crcBits_lt 8 _ (Nat.xor_lt_two_pow (n := 32) ih (by have := hb (k + 1); omega))
/-- Four bytes, not all of them 0, have a sum that is not 0. -/
theorem four {x0 x1 x2 x3 : Nat} (h0 : x0 < 256) (h1 : x1 < 256) (h2 : x2 < 256) (h3 : x3 < 256)
    (h : crcBits 8 (crcBits 8 (crcBits 8 (crcBits 8 x0 ^^^ x1) ^^^ x2) ^^^ x3) = 0) : x0 = 0 ∧ x1 = 0 ∧ x2 = 0 ∧ x3 = 0 := by
  have b0 := crcBits_lt 8 x0 (by omega)
  have b1 : crcBits 8 x0 ^^^ x1 < 4294967296 := Nat.xor_lt_two_pow (n := 32) b0 (by omega)
  have b2 : crcBits 8 (crcBits 8 x0 ^^^ x1) ^^^ x2 < 4294967296 := Nat.xor_lt_two_pow (n := 32) (crcBits_lt 8 _ b1) (by omega)
  have b3 : crcBits 8 (crcBits 8 (crcBits 8 x0 ^^^ x1) ^^^ x2) ^^^ x3 < 4294967296 := Nat.xor_lt_two_pow (n := 32) (crcBits_lt 8 _ b2) (by omega)
  have e3 := xor_eq_zero (crcBits_zero 8 b3 h)
  have y2 : x2 ^^^ 256 * x3 < 65536 := Nat.xor_lt_two_pow (n := 16) (by omega) (by omega)
  have y1 : x1 ^^^ 256 * (x2 ^^^ 256 * x3) < 16777216 := Nat.xor_lt_two_pow (n := 24) (by omega) (by omega)
  have s3 : crcBits 8 (crcBits 8 x0 ^^^ x1) ^^^ x2 = 256 * x3 := crcBits_inj 8 b2 (by omega) (by rw [e3]; exact (crcBits_shift 8 x3).symm)
  have f2 : crcBits 8 (crcBits 8 x0 ^^^ x1) = x2 ^^^ 256 * x3 := xor_move s3
  have s2 : crcBits 8 x0 ^^^ x1 = 256 * (x2 ^^^ 256 * x3) := crcBits_inj 8 b1 (by omega) (by rw [f2]; exact (crcBits_shift 8 _).symm)
  have f1 : crcBits 8 x0 = x1 ^^^ 256 * (x2 ^^^ 256 * x3) := xor_move s2
  have s1 : x0 = 256 * (x1 ^^^ 256 * (x2 ^^^ 256 * x3)) := crcBits_inj 8 (by omega) (by omega) (by rw [f1]; exact (crcBits_shift 8 _).symm)
  have z1 : x1 ^^^ 256 * (x2 ^^^ 256 * x3) = 0 := by omega
  have w1 := xor_eq_zero z1
  have z2 : x2 ^^^ 256 * x3 = 0 := by omega
  have w2 := xor_eq_zero z2
  omega
theorem turn_none {x : Nat → Nat} (hb : ∀ k, x k < 256) {m : Nat} (hm : m ≤ 4) (h : turnT x m = 0) : turnB x m = false := by
  have z := crcBits_of_zero 8
  match m, hm with
  | 0, _ => rfl
  | 1, _ =>
    have := four (x0 := 0) (x1 := 0) (x2 := 0) (by decide) (by decide) (by decide) (hb 0) (by rw [z, Nat.xor_self, z, Nat.xor_self, z]; exact h)
    simp [turnB, this.2.2.2]
  | 2, _ =>
    have := four (x0 := 0) (x1 := 0) (by decide) (by decide) (hb 0) (hb 1) (by rw [z, Nat.xor_self, z]; exact h)
    simp [turnB, this.2.2.2, this.2.2.1]
  | 3, _ =>
    have := four (x0 := 0) (by decide) (hb 0) (hb 1) (hb 2) (by rw [z]; exact h)
    simp [turnB, this.2.2.2, this.2.2.1, this.2.1]
  | 4, _ =>
    have := four (hb 0) (hb 1) (hb 2) (hb 3) (by have h2 := h; simp only [turnT, Nat.zero_xor] at h2; exact h2)
    simp [turnB, this.2.2.2, this.2.2.1, this.2.1, this.1]
theorem turnT_of_none {x : Nat → Nat} {m : Nat} (h : turnB x m = false) : turnT x m = 0 := by
  induction m with
  | zero => rfl
  | succ m ih =>
    simp only [turnB, Bool.or_eq_false_iff, decide_eq_false_iff_not, Decidable.not_not] at h
    rw [turnT, ih h.1, h.2]
    exact crcBits_of_zero 8
theorem sum_turn {xs : List Nat} {p : Nat} {x : Nat → Nat} (hb : ∀ k, x k < 256) {m : Nat} (hm : m ≤ 4) (hp : p + m ≤ xs.length) : ((sumN xs : Int) == (sumN (turnL xs p x m) : Int)) = !(turnB x m) := by
  have hlt := turnT_lt hb m
  rw [Bool.eq_iff_iff]
  simp only [beq_iff_eq, Bool.not_eq_true', Int.ofNat_inj]
  unfold sumN
  rw [crc_turn xs p x _ m hp]
  constructor
  · intro h
    apply turn_none hb hm
    apply crcBits_zero (8 * (xs.length - p - m)) hlt
    have h2 := xor_left h
    rw [show crc 4294967295 xs = crc 4294967295 xs ^^^ 0 from (Nat.xor_zero _).symm, Nat.xor_assoc, Nat.zero_xor] at h2
    exact (xor_left h2).symm
  · intro h
    rw [turnT_of_none h, crcBits_of_zero, Nat.xor_zero]
end Go.Proofs.Ytdbgbaclgdkkjab
