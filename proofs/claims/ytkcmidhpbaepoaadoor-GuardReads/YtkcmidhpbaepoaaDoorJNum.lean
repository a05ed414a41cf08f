/-
  Numbers: what strconv.ParseInt makes of a number's text. No program.
-/
import Derived.Test.YtkcmidhpbaepoaaDoorJRead
import Derived.Test.YtkcmidhpbaepoaaDoorJMem
import Derived.Lib.ParseIntB
import Derived.Lib.ParseIntBCases
namespace Go.Proofs.YtkcmidhpbaepoaaDoor
open Go.RowKit Go.WideShapes

def foldU (acc : Nat) (l : List UInt8) : Nat := l.foldl (fun n d => 10 * n + (d.toNat - 48)) acc
theorem foldU_le : ∀ (l : List UInt8) (acc : Nat), acc ≤ foldU acc l
  | [], acc => Nat.le_refl _
  | c :: r, acc => by
    have := foldU_le r (10 * acc + (c.toNat - 48))
    simp only [foldU, List.foldl_cons] at this ⊢
    omega
theorem parseU_digits : ∀ (l : List UInt8) (acc : Nat), acc ≤ 18446744073709551615 → (∀ c ∈ l, 48 ≤ c.toNat ∧ c.toNat ≤ 57) →
    Lib.parseUintM 18446744073709551615 acc l = if foldU acc l ≤ 18446744073709551615 then .ok (foldU acc l) else .range
  | [], acc, ha, _ => by
    show Lib.NumEnd.ok acc = if acc ≤ 18446744073709551615 then .ok acc else .range
    rw [if_pos ha]
  | c :: r, acc, ha, hd => by
    have hc := hd c (by simp)
    have e : foldU acc (c :: r) = foldU (acc * 10 + (c.toNat - 48)) r := by simp only [foldU, List.foldl_cons]; rw [Nat.mul_comm]
    rw [e]
    simp only [Lib.parseUintM, if_pos hc]
    have hle := foldU_le r (acc * 10 + (c.toNat - 48))
    by_cases h1 : 1844674407370955162 ≤ acc
    · rw [if_pos h1, if_neg (by omega)]
    · rw [if_neg h1]
      by_cases h2 : 18446744073709551615 < acc * 10 + (c.toNat - 48)
      · rw [if_pos h2, if_neg (by omega)]
      · rw [if_neg h2]
        exact parseU_digits r _ (by omega) fun x hx => hd x (by simp [hx])
theorem parseU_ok : ∀ (l : List UInt8) (M acc u : Nat), Lib.parseUintM M acc l = .ok u → ∀ c ∈ l, 48 ≤ c.toNat ∧ c.toNat ≤ 57
  | [], _, _, _, _ => by simp
  | x :: r, M, acc, u, h => by
    simp only [Lib.parseUintM] at h
    split at h
    · rename_i hc
      split at h
      · cases h
      · split at h
        · cases h
        · intro c hx
          rcases List.mem_cons.1 hx with rfl | hx
          · exact hc
          · exact parseU_ok r _ _ _ h c hx
    · cases h
theorem tens_foldU (l : List UInt8) : J.tens (l.map UInt8.toNat) = foldU 0 l := by
  unfold J.tens foldU
  rw [List.foldl_map]
theorem numP_plain {m : List Nat} (h : ∀ c r, m = c :: r → c ≠ 46 ∧ c ≠ 101 ∧ c ≠ 69) : J.numP m = .ok true m := by
  cases m with
  | nil => rfl
  | cons c m =>
    obtain ⟨h1, h2, h3⟩ := h c m rfl
    unfold J.numP
    rw [J.then_go (J.may_not h1)]
    simp only [Bool.false_eq_true, if_false]
    rw [J.then_go (show J.Rd.pure () (c :: m) = .ok () (c :: m) from rfl)]
    unfold J.numE
    rw [J.then_go (J.may_not h2)]
    simp only [Bool.false_eq_true, if_false]
    rw [J.then_go (J.may_not h3)]
    simp only [Bool.false_eq_true, if_false]
    rw [J.then_go (show J.Rd.pure () (c :: m) = .ok () (c :: m) from rfl)]
    rfl
theorem dig_plain {c : Nat} (h : J.isDig c = true) : c ≠ 46 ∧ c ≠ 101 ∧ c ≠ 69 ∧ c ≠ 45 := by
  simp only [J.isDig, Bool.and_eq_true, decide_eq_true_eq] at h
  omega
/-- a number all of whose bytes behind a minus are digits is whole -/
theorem numB_digits {w : Bool} {ds r t : List Nat} (hd : ∀ x ∈ ds, J.isDig x = true) (ht : t = ds ∨ t = 45 :: ds) (h : J.numB t = .ok w r) : w = true := by
  unfold J.numB at h
  obtain ⟨b, m1, h1, hA⟩ := J.then_ok h
  clear h
  have e1 : m1 = ds := by
    rcases J.may_ok h1 with ⟨_, e⟩ | ⟨rfl, rfl⟩
    · rcases ht with rfl | rfl
      · subst e
        exact absurd rfl (dig_plain (hd 45 (by simp))).2.2.2
      · exact (List.cons.inj e).2.symm
    · rcases ht with rfl | rfl
      · rfl
      · rw [J.may_is] at h1; cases h1
  subst e1
  obtain ⟨z, m2, h2, hB⟩ := J.then_ok hA
  obtain ⟨_, m3, h3, hC⟩ := J.then_ok hB
  clear hA hB
  have s2 : ∃ a, m1 = a ++ m2 := (J.Good.may 48).okS _ _ _ h2
  have s3 : ∃ a, m2 = a ++ m3 := by
    cases z with
    | true => exact J.Good.pure _ |>.okS _ _ _ h3
    | false => exact J.Good.digits.okS _ _ _ h3
  obtain ⟨a, rfl⟩ := s2
  obtain ⟨a', rfl⟩ := s3
  rw [numP_plain (by
    intro c r' e
    have := dig_plain (hd c (by rw [e]; simp))
    exact ⟨this.1, this.2.1, this.2.2.1⟩)] at hC
  cases hC
  rfl
theorem toNat_map (s : ByteArray) : numsOf s = s.data.toList.map UInt8.toNat := rfl
/-- what ParseInt answers of a number's text -/
theorem parse_num {s : ByteArray} {w : Bool} (h : J.numB (numsOf s) = .ok w []) :
    (∀ v, Lib.parseIntB 64 s.data.toList = .ok v → w = true ∧ v = J.intOf (numsOf s) ∧ J.Rng v) ∧
    (w = true → J.Rng (J.intOf (numsOf s)) → Lib.parseIntB 64 s.data.toList = .ok (J.intOf (numsOf s))) := by
  obtain ⟨l, hl⟩ : ∃ l, s.data.toList = l := ⟨_, rfl⟩
  rw [toNat_map, hl] at h ⊢
  have M64 : (2 ^ 64 - 1 : Nat) = 18446744073709551615 := by decide
  have key : ∀ ds : List UInt8, ds ≠ [] → (∀ c ∈ ds, 48 ≤ c.toNat ∧ c.toNat ≤ 57) → Lib.parseUintB 64 ds = if foldU 0 ds ≤ 18446744073709551615 then .ok (foldU 0 ds) else .range := by
    intro ds hne hd
    unfold Lib.parseUintB
    rw [if_neg hne, M64]
    exact parseU_digits ds 0 (by omega) hd
  have toD : ∀ ds : List UInt8, (∀ c ∈ ds, 48 ≤ c.toNat ∧ c.toNat ≤ 57) → ∀ x ∈ ds.map UInt8.toNat, J.isDig x = true := by
    intro ds hd x hx
    obtain ⟨c, hc, rfl⟩ := List.mem_map.1 hx
    have := hd c hc
    simp [J.isDig, this.1, this.2]
  have ofD : ∀ ds : List UInt8, (∀ x ∈ ds.map UInt8.toNat, J.isDig x = true) → ∀ c ∈ ds, 48 ≤ c.toNat ∧ c.toNat ≤ 57 := by
    intro ds hd c hc
    have := hd c.toNat (List.mem_map_of_mem hc)
    simp only [J.isDig, Bool.and_eq_true, decide_eq_true_eq] at this
    exact this
  have okU : ∀ (ds : List UInt8) u, Lib.parseUintB 64 ds = .ok u → ds ≠ [] ∧ (∀ c ∈ ds, 48 ≤ c.toNat ∧ c.toNat ≤ 57) ∧ u = foldU 0 ds := by
    intro ds u hu
    have hne : ds ≠ [] := by
      intro e
      rw [Lib.parseUintB, if_pos e] at hu
      cases hu
    have hd : ∀ c ∈ ds, 48 ≤ c.toNat ∧ c.toNat ≤ 57 := by
      unfold Lib.parseUintB at hu
      rw [if_neg hne] at hu
      exact parseU_ok _ _ _ _ hu
    rw [key ds hne hd] at hu
    split at hu
    · cases hu; exact ⟨hne, hd, rfl⟩
    · cases hu
  cases l with
  | nil =>
    refine ⟨fun v hv => by simp [Lib.parseIntB] at hv, fun hw hr => ?_⟩
    exact absurd h (by simp [J.numB, J.Rd.then, J.may, J.sw, J.digits, J.need])
  | cons c r =>
    by_cases h45 : c.toNat = 45
    · have hc : c = 45 := by apply UInt8.toNat_inj.1; rw [h45]; rfl
      subst hc
      have eI : J.intOf ((45 :: r : List UInt8).map UInt8.toNat) = -(foldU 0 r : Int) := by
        show -(J.tens (r.map UInt8.toNat) : Int) = _
        rw [tens_foldU]
      rw [eI, Lib.parseIntB_minus]
      refine ⟨fun v hv => ?_, fun hw hr => ?_⟩
      · cases hu : Lib.parseUintB 64 r with
        | ok u =>
          obtain ⟨hne, hd, rfl⟩ := okU r u hu
          rw [hu] at hv
          have hww := numB_digits (toD r hd) (.inr rfl) h
          simp only [Lib.signedC] at hv
          split at hv
          · cases hv
          · cases hv
            refine ⟨hww, rfl, ?_⟩
            unfold J.Rng
            omega
        | «syntax» => rw [hu] at hv; simp [Lib.signedC] at hv
        | range => rw [hu] at hv; simp [Lib.signedC] at hv
      · obtain rfl := hw
        obtain ⟨ds, d1, d2, e⟩ := J.numB_whole h
        have e2 : r.map UInt8.toNat = ds := by
          rcases e with e | e
          · rw [List.append_nil] at e
            exact absurd rfl (dig_plain (d2 45 (by rw [← e]; simp))).2.2.2
          · rw [List.append_nil] at e
            exact (List.cons.inj e).2
        have hd := ofD r (by rw [e2]; exact d2)
        have hne : r ≠ [] := by intro e; rw [e] at e2; exact d1 e2.symm
        unfold J.Rng at hr
        rw [key r hne hd, if_pos (by omega)]
        simp only [Lib.signedC]
        rw [if_neg (by omega)]
    · have h43 : c.toNat ≠ 43 := by
        intro e
        have : J.numB (43 :: r.map UInt8.toNat) = .ok w [] := by rw [← e]; exact h
        unfold J.numB at this
        rw [J.then_go (J.may_not (by decide)), J.then_go (J.may_not (by decide))] at this
        simp only [Bool.false_eq_true, if_false] at this
        simp [J.Rd.then, J.digits, J.need, J.sw] at this
      have eI : J.intOf ((c :: r).map UInt8.toNat) = (foldU 0 (c :: r) : Int) := by
        rw [← tens_foldU]
        unfold J.intOf
        split
        · rename_i r' e
          exact absurd (List.cons.inj e).1 h45
        · rfl
      rw [eI, Lib.parseIntB_plain 64 c r h43 h45]
      refine ⟨fun v hv => ?_, fun hw hr => ?_⟩
      · cases hu : Lib.parseUintB 64 (c :: r) with
        | ok u =>
          obtain ⟨hne, hd, rfl⟩ := okU (c :: r) u hu
          rw [hu] at hv
          have hww := numB_digits (toD (c :: r) hd) (.inl rfl) h
          simp only [Lib.signlessC] at hv
          split at hv
          · cases hv
          · cases hv
            refine ⟨hww, rfl, ?_⟩
            unfold J.Rng
            omega
        | «syntax» => rw [hu] at hv; simp [Lib.signlessC] at hv
        | range => rw [hu] at hv; simp [Lib.signlessC] at hv
      · obtain rfl := hw
        obtain ⟨ds, d1, d2, e⟩ := J.numB_whole h
        have e2 : (c :: r).map UInt8.toNat = ds := by
          rcases e with e | e
          · rw [List.append_nil] at e; exact e
          · rw [List.append_nil] at e
            exact absurd (List.cons.inj e).1 h45
        have hd := ofD (c :: r) (by rw [e2]; exact d2)
        unfold J.Rng at hr
        rw [key (c :: r) (by simp) hd, if_pos (by omega)]
        simp only [Lib.signlessC]
        rw [if_neg (by omega)]
end Go.Proofs.YtkcmidhpbaepoaaDoor
