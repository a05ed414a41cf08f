/-
  The document's Int: which numbers of digits fit. No program.
-/
import Derived.Test.YtkcmidhpbaepoaaDoorJNum
namespace Go.Proofs.YtkcmidhpbaepoaaDoor
open Go.RowKit Go.WideShapes

def Digs (l : List UInt8) : Prop := ∀ c ∈ l, 48 ≤ c.toNat ∧ c.toNat ≤ 57
theorem foldU_cons (acc : Nat) (c : UInt8) (r : List UInt8) : foldU acc (c :: r) = foldU (10 * acc + (c.toNat - 48)) r := by simp only [foldU, List.foldl_cons]
theorem foldU_bounds : ∀ (l : List UInt8) (acc : Nat), Digs l → acc * 10 ^ l.length ≤ foldU acc l ∧ foldU acc l < (acc + 1) * 10 ^ l.length
  | [], acc, _ => by simp [foldU]
  | c :: r, acc, h => by
    have hc := h c (by simp)
    have ih := foldU_bounds r (10 * acc + (c.toNat - 48)) (fun x hx => h x (by simp [hx]))
    rw [foldU_cons, List.length_cons, Nat.pow_succ, Nat.mul_comm (10 ^ r.length) 10, ← Nat.mul_assoc, ← Nat.mul_assoc]
    exact ⟨Nat.le_trans (Nat.mul_le_mul_right _ (by omega)) ih.1, Nat.lt_of_lt_of_le ih.2 (Nat.mul_le_mul_right _ (by omega))⟩
theorem less_fold : ∀ (l m : List UInt8) (acc : Nat), l.length = m.length → Digs l → Digs m → Op.bytesLess l m = decide (foldU acc l < foldU acc m)
  | [], [], acc, _, _, _ => by simp [Op.bytesLess]
  | [], d :: s, acc, hl, _, _ => by simp at hl
  | c :: r, [], acc, hl, _, _ => by simp at hl
  | c :: r, d :: s, acc, hl, h1, h2 => by
    have hc := h1 c (by simp)
    have hd := h2 d (by simp)
    have hl' : r.length = s.length := by simpa using hl
    have h1' : Digs r := fun x hx => h1 x (by simp [hx])
    have h2' : Digs s := fun x hx => h2 x (by simp [hx])
    have b1 := foldU_bounds r (10 * acc + (c.toNat - 48)) h1'
    have b2 := foldU_bounds s (10 * acc + (d.toNat - 48)) h2'
    rw [foldU_cons, foldU_cons]
    simp only [Op.bytesLess]
    rcases Nat.lt_trichotomy c.toNat d.toNat with h | h | h
    · have hlt : foldU (10 * acc + (c.toNat - 48)) r < foldU (10 * acc + (d.toNat - 48)) s := by
        refine Nat.lt_of_lt_of_le b1.2 (Nat.le_trans ?_ b2.1)
        rw [hl']
        exact Nat.mul_le_mul_right _ (by omega)
      have hcd : c < d := UInt8.lt_iff_toNat_lt.2 h
      simp [hcd, hlt]
    · obtain rfl : c = d := UInt8.toNat_inj.1 h
      have hcc : ¬ c < c := fun e => Nat.lt_irrefl _ (UInt8.lt_iff_toNat_lt.1 e)
      rw [less_fold r s (10 * acc + (c.toNat - 48)) hl' h1' h2']
      simp [hcc]
    · have hgt : ¬ foldU (10 * acc + (c.toNat - 48)) r < foldU (10 * acc + (d.toNat - 48)) s := by
        refine Nat.not_lt.2 (Nat.le_of_lt (Nat.lt_of_lt_of_le b2.2 (Nat.le_trans ?_ b1.1)))
        rw [hl']
        exact Nat.mul_le_mul_right _ (by omega)
      have hcd : ¬ c < d := fun e => by have := UInt8.lt_iff_toNat_lt.1 e; omega
      have hce : (c == d) = false := by simpa using fun e : c = d => by rw [e] at h; omega
      simp [hcd, hce, hgt]
theorem bl_tri : ∀ (a b : List UInt8), Op.bytesLess a b = false → Op.bytesLess b a = false → a = b
  | [], [], _, _ => rfl
  | [], _ :: _, h1, _ => by simp [Op.bytesLess] at h1
  | _ :: _, [], _, h2 => by simp [Op.bytesLess] at h2
  | x :: a, y :: b, h1, h2 => by
    unfold Op.bytesLess at h1 h2
    simp only [Bool.or_eq_false_iff, Bool.and_eq_false_iff, decide_eq_false_iff_not, beq_eq_false_iff_ne, ne_eq] at h1 h2
    have hxy : x = y := UInt8.le_antisymm (UInt8.not_lt.1 h2.1) (UInt8.not_lt.1 h1.1)
    subst hxy
    rw [bl_tri a b (by simpa using h1.2) (by simpa using h2.2)]
/-- what the sign for 'greater' says of two texts of one length -/
theorem gtr_fold {l m : List UInt8} (hl : l.length = m.length) (h1 : Digs l) (h2 : Digs m) : (!(Op.bytesLess l m || l == m)) = decide (foldU 0 m < foldU 0 l) := by
  have e1 := less_fold l m 0 hl h1 h2
  have e2 := less_fold m l 0 hl.symm h2 h1
  rw [e1]
  by_cases h : l = m
  · subst h; simp
  · have hb : (l == m) = false := by simpa using h
    rw [hb, Bool.or_false]
    have : ¬ foldU 0 l = foldU 0 m := fun e => h (bl_tri l m (by rw [e1]; simp; omega) (by rw [e2]; simp; omega))
    by_cases hlt : foldU 0 l < foldU 0 m
    · simp [hlt]; omega
    · simp [hlt]; omega
theorem fits_iff {ds B : List UInt8} (hd : Digs ds) (hB : Digs B) (hBl : B.length = 19) (hB0 : 10 ^ 18 ≤ foldU 0 B) (hz : ds = [48] ∨ ∃ c r, ds = c :: r ∧ c.toNat ≠ 48) :
    (19 < ds.length ∨ ds.length = 19 ∧ (!(Op.bytesLess ds B || ds == B)) = true) ↔ foldU 0 B < foldU 0 ds := by
  have b0 := (foldU_bounds B 0 hB).2
  have bd := (foldU_bounds ds 0 hd).2
  rw [hBl] at b0
  rcases Nat.lt_trichotomy ds.length 19 with h | h | h
  · have hp : 10 ^ ds.length ≤ 10 ^ 18 := Nat.pow_le_pow_right (by decide) (by omega)
    constructor
    · rintro (h' | ⟨h', _⟩) <;> omega
    · intro h'; omega
  · rw [gtr_fold (by omega) hd hB]
    simp only [decide_eq_true_eq]
    constructor
    · rintro (h' | ⟨_, h'⟩)
      · omega
      · exact h'
    · intro h'; exact .inr ⟨h, h'⟩
  · rcases hz with rfl | ⟨c, r, rfl, hc⟩
    · simp at h
    · have hc' := hd c (by simp)
      have b1 := (foldU_bounds r (10 * 0 + (c.toNat - 48)) (fun x hx => hd x (by simp [hx]))).1
      have hp : 10 ^ 19 ≤ 10 ^ r.length := Nat.pow_le_pow_right (by decide) (by simp only [List.length_cons] at h; omega)
      have h1 : 1 * 10 ^ r.length ≤ (10 * 0 + (c.toNat - 48)) * 10 ^ r.length := Nat.mul_le_mul_right _ (by omega)
      rw [← foldU_cons] at b1
      exact ⟨fun _ => by omega, fun _ => .inl h⟩
/-- the text of 2^63 - 1, and of 2^63 -/
def mostS : ByteArray := ⟨#[57, 50, 50, 51, 51, 55, 50, 48, 51, 54, 56, 53, 52, 55, 55, 53, 56, 48, 55]⟩
def moreS : ByteArray := ⟨#[57, 50, 50, 51, 51, 55, 50, 48, 51, 54, 56, 53, 52, 55, 55, 53, 56, 48, 56]⟩
theorem most_fold : foldU 0 mostS.data.toList = 9223372036854775807 := by decide
theorem more_fold : foldU 0 moreS.data.toList = 9223372036854775808 := by decide
theorem most_digs : Digs mostS.data.toList := by unfold Digs; decide
theorem more_digs : Digs moreS.data.toList := by unfold Digs; decide
theorem may_false {x : Nat} {l r : List Nat} (h : J.may x l = .ok false r) : ∀ m, l ≠ x :: m := by
  rintro m rfl
  rw [J.may_is] at h
  cases h
/-- a whole number's text: a minus, or none, and digits; no nought ahead of others -/
theorem whole_lead {l : List Nat} (h : J.numB l = .ok true []) : ∃ ds, (∀ x ∈ ds, J.isDig x = true) ∧ (ds = [48] ∨ ∃ c r, ds = c :: r ∧ c ≠ 48) ∧ (l = ds ∨ l = 45 :: ds) := by
  unfold J.numB at h
  obtain ⟨b, m1, h1, h⟩ := J.then_ok h
  obtain ⟨z, m2, h2, h⟩ := J.then_ok h
  obtain ⟨_, m3, h3, h⟩ := J.then_ok h
  unfold J.numP at h
  obtain ⟨p, m4, h4, h⟩ := J.then_ok h
  obtain ⟨_, m5, h5, h⟩ := J.then_ok h
  obtain ⟨rfl, rfl⟩ := J.numE_whole h
  simp only [Bool.false_eq_true, if_false] at h5
  obtain ⟨_, rfl⟩ := J.pure_ok h5
  rcases J.may_ok h4 with ⟨hx, _⟩ | ⟨_, rfl⟩
  · cases hx
  have : ∃ ds, m1 = ds ∧ (∀ x ∈ ds, J.isDig x = true) ∧ (ds = [48] ∨ ∃ c r, ds = c :: r ∧ c ≠ 48) := by
    cases z with
    | true =>
      simp only [if_true] at h3
      obtain ⟨_, rfl⟩ := J.pure_ok h3
      rcases J.may_ok h2 with ⟨_, rfl⟩ | ⟨hx, _⟩
      · exact ⟨[48], rfl, by simp [J.isDig], .inl rfl⟩
      · cases hx
    | false =>
      simp only [Bool.false_eq_true, if_false] at h3
      have hn := may_false h2
      rcases J.may_ok h2 with ⟨hx, _⟩ | ⟨_, rfl⟩
      · cases hx
      · obtain ⟨ds, e, hne, hd⟩ := J.digits_ok h3
        rw [List.append_nil] at e
        subst e
        refine ⟨_, rfl, hd, .inr ?_⟩
        cases m1 with
        | nil => exact absurd rfl hne
        | cons c r => exact ⟨c, r, rfl, fun e => hn r (by rw [e])⟩
  obtain ⟨ds, rfl, d1, d2⟩ := this
  refine ⟨m1, d1, d2, ?_⟩
  rcases J.may_ok h1 with ⟨_, rfl⟩ | ⟨_, rfl⟩
  · exact .inr rfl
  · exact .inl rfl
/-- what Int makes of a whole number's text -/
structure IntIs (s : ByteArray) : Prop where
  ex : ∃ (m : Bool) (ds : List UInt8), Digs ds ∧ ds ≠ [] ∧ (ds.head? = some 45 → False) ∧ s.data.toList = (if m then 45 :: ds else ds) ∧
    ((19 < ds.length ∨ ds.length = 19 ∧ (!(Op.bytesLess ds (if m then moreS else mostS).data.toList || ds == (if m then moreS else mostS).data.toList)) = true) ↔ ¬ J.Rng (J.intOf (numsOf s))) ∧
    J.intOf (numsOf s) = (if m then -(foldU 0 ds : Int) else (foldU 0 ds : Int))
theorem int_is {s : ByteArray} (h : J.numB (numsOf s) = .ok true []) : IntIs s := by
  obtain ⟨ds, h1, h2, h3⟩ := whole_lead h
  have ofD : ∀ ds : List UInt8, (∀ x ∈ ds.map UInt8.toNat, J.isDig x = true) → Digs ds := by
    intro ds hd c hc
    have := hd c.toNat (List.mem_map_of_mem hc)
    simp only [J.isDig, Bool.and_eq_true, decide_eq_true_eq] at this
    exact this
  have zz : ∀ ds : List UInt8, (ds.map UInt8.toNat = [48] ∨ ∃ c r, ds.map UInt8.toNat = c :: r ∧ c ≠ 48) → (ds = [48] ∨ ∃ c r, ds = c :: r ∧ c.toNat ≠ 48) ∧ ds ≠ [] := by
    intro ds hz
    cases ds with
    | nil => simp at hz
    | cons c r =>
      refine ⟨?_, by simp⟩
      by_cases e : c.toNat = 48
      · rcases hz with hz | ⟨d, q, hz, hd⟩
        · simp only [List.map_cons, List.cons.injEq, List.map_eq_nil_iff] at hz
          obtain ⟨_, rfl⟩ := hz
          exact .inl (by rw [show c = 48 from UInt8.toNat_inj.1 e])
        · simp only [List.map_cons, List.cons.injEq] at hz
          exact absurd (hz.1.symm.trans e) hd
      · exact .inr ⟨c, r, rfl, e⟩
  have no45 : ∀ ds : List UInt8, Digs ds → ds.head? = some 45 → False := by
    intro ds hd e
    cases ds with
    | nil => cases e
    | cons c r =>
      simp only [List.head?_cons, Option.some.injEq] at e
      have := hd c (by simp)
      rw [e] at this
      exact absurd this.1 (by decide)
  rw [toNat_map] at h3
  rcases h3 with h3 | h3
  · subst h3
    have hd := ofD _ h1
    obtain ⟨hz, hne⟩ := zz _ h2
    have eI : J.intOf (numsOf s) = (foldU 0 s.data.toList : Int) := by
      rw [toNat_map, ← tens_foldU]
      cases hl : s.data.toList with
      | nil => exact absurd hl hne
      | cons c r =>
        unfold J.intOf
        split
        · rename_i r' e
          rw [hl] at hd
          have := hd c (by simp)
          have e1 := (List.cons.inj e).1
          omega
        · rfl
    refine ⟨false, s.data.toList, hd, hne, no45 _ hd, rfl, ?_, eI⟩
    rw [eI]
    simp only [Bool.false_eq_true, if_false]
    rw [fits_iff hd most_digs (by decide) (by rw [most_fold]; decide) hz, most_fold]
    unfold J.Rng
    omega
  · cases hl : s.data.toList with
    | nil => rw [hl] at h3; cases h3
    | cons c r =>
      rw [hl, List.map_cons] at h3
      obtain ⟨hc, hr⟩ := List.cons.inj h3
      obtain rfl : c = 45 := UInt8.toNat_inj.1 hc
      subst hr
      have hd := ofD _ h1
      obtain ⟨hz, hne⟩ := zz _ h2
      have eI : J.intOf (numsOf s) = -(foldU 0 r : Int) := by
        rw [toNat_map, hl]
        show -(J.tens (r.map UInt8.toNat) : Int) = _
        rw [tens_foldU]
      refine ⟨true, r, hd, hne, no45 _ hd, hl, ?_, eI⟩
      rw [eI]
      simp only [if_true]
      rw [fits_iff hd more_digs (by decide) (by rw [more_fold]; decide) hz, more_fold]
      unfold J.Rng
      omega
end Go.Proofs.YtkcmidhpbaepoaaDoor
