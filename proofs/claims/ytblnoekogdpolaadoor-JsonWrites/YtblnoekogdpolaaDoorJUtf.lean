import Derived.Test.YtblnoekogdpolaaDoorJRead
import Derived.Test.YtblnoekogdpolaaDoorJMem
import Derived.Lib.ValidU
import Derived.Lib.ValidLaws
import Derived.Lib.DecodeNEq
namespace Go.Proofs.YtblnoekogdpolaaDoor
open Go.RowKit Go.WideShapes
def szC (b : Nat) : Nat := if b < 224 then 2 else if b < 240 then 3 else 4
def charT (sz lo hi : Nat) : List Nat → Nat × Bool
  | [] => (1, false)
  | [b1] => if b1 < lo ∨ hi < b1 then (1, false) else if sz = 2 then (2, true) else (2, false)
  | [b1, b2] => if b1 < lo ∨ hi < b1 then (1, false) else if sz = 2 then (2, true) else if b2 < 128 ∨ 191 < b2 then (2, false) else if sz = 3 then (3, true) else (3, false)
  | b1 :: b2 :: b3 :: _ => if b1 < lo ∨ hi < b1 then (1, false) else if sz = 2 then (2, true) else if b2 < 128 ∨ 191 < b2 then (2, false) else if sz = 3 then (3, true)
      else if b3 < 128 ∨ 191 < b3 then (3, false) else (4, true)
def charN : List Nat → Nat × Bool
  | [] => (0, false)
  | b0 :: t => if b0 < 194 ∨ 244 < b0 then (0, false) else charT (szC b0) (J.lowC b0) (J.highC b0) t
theorem need_yes {a b c : Nat} {r : List Nat} (h1 : a ≤ c) (h2 : c ≤ b) : J.need a b (c :: r) = .ok c r := by
  simp [J.need, J.sw, h1, h2, J.Rd.pure]
theorem need_no {a b c : Nat} {r : List Nat} (h : c < a ∨ b < c) : J.need a b (c :: r) = .bad 160 (c :: r) := by
  have : ¬ (a ≤ c ∧ c ≤ b) := by omega
  simp [J.need, J.sw, this]
theorem char_is (l : List Nat) : J.char l = if (charN l).2 then .ok () (l.drop (charN l).1) else .bad 160 (l.drop (charN l).1) := by
  unfold J.char
  cases l with
  | nil => rfl
  | cons b0 t =>
    by_cases h0 : b0 < 194 ∨ 244 < b0
    · simp only [J.Rd.then, need_no h0, charN, h0, if_true]; rfl
    · simp only [J.Rd.then, need_yes (show 194 ≤ b0 by omega) (show b0 ≤ 244 by omega)]
      simp only [charN, h0, if_false]
      have z2 : szC b0 = 2 ↔ b0 < 224 := by unfold szC; split <;> (try split) <;> omega
      have z3 : szC b0 = 3 ↔ 224 ≤ b0 ∧ b0 < 240 := by unfold szC; split <;> (try split) <;> omega
      rcases t with _ | ⟨b1, t⟩
      · rfl
      have n1 : ¬ (b1 < J.lowC b0 ∨ J.highC b0 < b1) → J.need (J.lowC b0) (J.highC b0) (b1 :: t) = .ok b1 t := fun h => need_yes (by omega) (by omega)
      have n1' : (b1 < J.lowC b0 ∨ J.highC b0 < b1) → J.need (J.lowC b0) (J.highC b0) (b1 :: t) = .bad 160 (b1 :: t) := fun h => need_no h
      by_cases h1 : b1 < J.lowC b0 ∨ J.highC b0 < b1
      · rw [n1' h1]
        rcases t with _ | ⟨b2, _ | ⟨b3, t⟩⟩ <;> simp only [charT, h1, if_true] <;> rfl
      rw [n1 h1]
      by_cases h2 : b0 < 224
      · have a1 : ¬ 224 ≤ b0 := by omega
        have a2 : ¬ 240 ≤ b0 := by omega
        have e := z2.2 h2
        rcases t with _ | ⟨b2, _ | ⟨b3, t⟩⟩ <;> simp only [charT, h1, if_false, e, if_true, a1, a2, decide_false, Bool.false_eq_true, J.Rd.pure] <;> rfl
      have a1 : 224 ≤ b0 := by omega
      have e : ¬ szC b0 = 2 := fun h => h2 (z2.1 h)
      rcases t with _ | ⟨b2, t⟩
      · simp only [charT, h1, if_false, a1, decide_true, if_true, e]; rfl
      by_cases h3 : b2 < 128 ∨ 191 < b2
      · rcases t with _ | ⟨b3, t⟩ <;> simp only [charT, h1, if_false, a1, decide_true, if_true, e, h3, need_no h3] <;> rfl
      have n2 : J.need 128 191 (b2 :: t) = .ok b2 t := need_yes (by omega) (by omega)
      by_cases h4 : b0 < 240
      · have a2 : ¬ 240 ≤ b0 := by omega
        have e3 := z3.2 ⟨a1, h4⟩
        rcases t with _ | ⟨b3, t⟩ <;> simp only [charT, h1, if_false, a1, decide_true, if_true, h3, n2, e3, a2, decide_false, Bool.false_eq_true, J.Rd.pure] <;> rfl
      have a2 : 240 ≤ b0 := by omega
      have e3 : ¬ szC b0 = 3 := fun h => h4 (z3.1 h).2
      rcases t with _ | ⟨b3, t⟩
      · simp only [charT, h1, if_false, a1, decide_true, if_true, e, h3, n2, e3, a2]; rfl
      by_cases h5 : b3 < 128 ∨ 191 < b3
      · simp only [charT, h1, if_false, a1, decide_true, if_true, e, h3, n2, e3, a2, h5, need_no h5]; rfl
      · simp only [charT, h1, if_false, a1, decide_true, if_true, e, h3, n2, e3, a2, h5, need_yes (show 128 ≤ b3 by omega) (show b3 ≤ 191 by omega)]; rfl
theorem tabs_lead : ∀ b : Fin 256, 194 ≤ b.val → b.val ≤ 244 → Lib.firstT b.val % 8 = szC b.val ∧ Lib.accLo (Lib.firstT b.val / 16) = J.lowC b.val ∧ Lib.accHi (Lib.firstT b.val / 16) = J.highC b.val := by decide +kernel
theorem sz_cases (b : Nat) : szC b = 2 ∨ szC b = 3 ∨ szC b = 4 := by unfold szC; split <;> (try split) <;> simp
theorem check_char (sz lo hi : Nat) (t : List Nat) (hs : sz = 2 ∨ sz = 3 ∨ sz = 4) :
    Lib.checkN (t.length + 1) (t.getD 0 0) (t.getD 1 0) (t.getD 2 0) sz lo hi = if (charT sz lo hi t).2 then some (charT sz lo hi t).1 else none := by
  unfold Lib.checkN
  rcases hs with rfl | rfl | rfl <;> rcases t with _ | ⟨b1, _ | ⟨b2, _ | ⟨b3, t⟩⟩⟩ <;> simp [charT] <;> (repeat' split) <;> first | rfl | omega | simp_all <;> omega
theorem decode_char (n b0 b1 b2 b3 : Nat) (t : List Nat) (h0 : 128 ≤ b0) (c0 : b0 < 256) (c1 : b1 < 256) (c2 : b2 < 256) (c3 : b3 < 256)
    (hl : n = t.length + 1) (e1 : t.getD 0 0 = b1) (e2 : t.getD 1 0 = b2) (e3 : t.getD 2 0 = b3) :
    if (charN (b0 :: t)).2 then (2 ≤ (charN (b0 :: t)).1 ∧ (Lib.decodeN n b0 b1 b2 b3).2 = (charN (b0 :: t)).1) else Lib.decodeN n b0 b1 b2 b3 = (65533, 1) := by
  by_cases hb : b0 < 194 ∨ 244 < b0
  · simp only [charN, hb, if_true, Bool.false_eq_true, if_false]
    exact Lib.decodeN_bad _ _ _ _ _ (by omega)
  · simp only [charN, hb, if_false]
    have T := tabs_lead ⟨b0, c0⟩ (by show 194 ≤ b0; omega) (by show b0 ≤ 244; omega)
    simp only at T
    have C := Lib.check_decode n b0 b1 b2 b3 (by omega) h0 c0 c1 c2 c3
    rw [T.1, T.2.1, T.2.2] at C
    have K := check_char (szC b0) (J.lowC b0) (J.highC b0) t (sz_cases b0)
    rw [← hl, e1, e2, e3] at K
    rw [K] at C
    rcases C with ⟨a, d⟩ | ⟨k, k2, a, d⟩
    · cases hx : (charT (szC b0) (J.lowC b0) (J.highC b0) t).2 with
      | true => rw [hx] at a; simp at a
      | false => simpa using d
    · cases hx : (charT (szC b0) (J.lowC b0) (J.highC b0) t).2 with
      | true =>
        rw [hx] at a
        simp only [if_true, Option.some.injEq] at a ⊢
        rw [d, ← a]
        exact ⟨by omega, rfl⟩
      | false => rw [hx] at a; simp at a
end Go.Proofs.YtblnoekogdpolaaDoor
