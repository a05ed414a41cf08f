/-
  What is read is well-formed, and how deep. No program.
-/
import Derived.Test.YtkcmidhpbaepoaaDoorGAn
namespace Go.Proofs.YtkcmidhpbaepoaaDoor.G

/-- a name -/
structure NmOk (w : List Nat) : Prop where
  word : wordN w = w.length
  pos : 1 ≤ w.length
  few : w.length ≤ 32
  free : taken w = false
theorem cnt_take (f : Nat → Bool) : ∀ l, cnt f (l.take (cnt f l)) = cnt f l
  | [] => by simp [cnt]
  | c :: r => by
    have ih := cnt_take f r
    simp only [cnt]
    cases hc : f c with
    | true => simp only [if_true, List.take_succ_cons, cnt, hc, ih]
    | false => simp only [Bool.false_eq_true, if_false, List.take_zero, cnt]
theorem wordN_take (l : List Nat) : wordN (l.take (wordN l)) = wordN l := by
  cases l with
  | nil => simp [wordN]
  | cons c r =>
    simp only [wordN]
    cases hc : isSm c with
    | true =>
      simp only [if_true, List.take_succ_cons, hc, cnt_take]
    | false => simp only [Bool.false_eq_true, if_false, List.take_zero]
theorem tok_nm {l w : List Nat} (h : (tok l).1 = .nm w) : NmOk w := by
  cases l with
  | nil => cases h
  | cons c r =>
    change (tokC c r).1 = _ at h
    unfold tokC at h
    split at h
    · cases h
    split at h
    · split at h <;> cases h
    split at h
    · split at h <;> cases h
    split at h
    · cases h
    split at h
    · cases h
    · rename_i h4 h5
      have e : (c :: r).take (wordN (c :: r)) = w := by
        have := h
        simp only [Tk.nm.injEq] at this
        exact this
      have hl := wordN_le (c :: r)
      have hw : w.length = wordN (c :: r) := by rw [← e, List.length_take]; omega
      have h1 : wordN w = wordN (c :: r) := by rw [← e]; exact wordN_take _
      refine ⟨by omega, by omega, by omega, ?_⟩
      rw [← e]
      simpa using h5
theorem tok_tx {l t : List Nat} (h : (tok l).1 = .tx t) : cnt isCh t = t.length ∧ t.length ≤ l.length := by
  cases l with
  | nil => cases h
  | cons c r =>
    change (tokC c r).1 = _ at h
    unfold tokC at h
    split at h
    · cases h
    split at h
    · split at h
      · have e : r.take (cnt isCh r) = t := by
          have := h
          simp only [Tk.tx.injEq] at this
          exact this
        have hl := cnt_le isCh r
        have hw : t.length = cnt isCh r := by rw [← e, List.length_take]; omega
        refine ⟨?_, by simp only [List.length_cons]; omega⟩
        rw [hw, ← e]
        exact cnt_take _ _
      · cases h
    split at h
    · split at h <;> cases h
    split at h
    · cases h
    split at h <;> cases h
/-- well-formed, of a depth -/
inductive Wf : GB → Nat → Prop where
  | leaf (k : Nat) : k = 1 ∨ k = 2 → Wf (leaf k) 1
  | num (n : Nat) : n ≤ 9223372036854775807 → Wf (.mk 3 n ByteArray.empty []) 1
  | text (t : List Nat) : cnt isCh t = t.length → t.length ≤ 16384 → Wf (named 4 t) 1
  | name (k : Nat) (t : List Nat) : k = 5 ∨ k = 6 ∨ k = 7 → NmOk t → Wf (named k t) 1
  | one {a : GB} {d : Nat} : Wf a d → Wf (one 8 a) (d + 1)
  | pair (k : Nat) {a b : GB} {d e : Nat} : 9 ≤ k → k ≤ 15 → Wf a d → Wf b e → Wf (pair k a b) (max d e + 1)
theorem Wf.pos {g : GB} {d : Nat} (h : Wf g d) : 1 ≤ d := by cases h <;> omega
theorem opk_is {k : Lv} {t : Tk} {m : Nat} (h : opk k t = some m) : 9 ≤ m ∧ m ≤ 15 ∧ t ≠ .fin ∧ t ≠ .non := by
  cases k <;> cases t <;> simp only [opk, reduceCtorEq] at h
  all_goals
    refine ⟨?_, ?_, by simp, by simp⟩
    all_goals
      split at h
      · cases h; omega
      · first | (cases h; done) | (split at h <;> cases h; omega)
theorem relk_is {t : Tk} {m : Nat} (h : relk t = some m) : 9 ≤ m ∧ m ≤ 15 ∧ t ≠ .fin ∧ t ≠ .non := by
  cases t <;> simp only [relk, reduceCtorEq] at h
  refine ⟨?_, ?_, by simp, by simp⟩
  all_goals
    split at h
    · cases h; omega
    · split at h
      · cases h; omega
      · cases h
theorem leafk_is {S : List Nat} {p : Nat} {g : GB} (hS : S.length ≤ 16384) (h : leafk (tkAt S p) = some g) : Wf g 1 ∧ tkAt S p ≠ .fin ∧ tkAt S p ≠ .non := by
  cases ht : tkAt S p with
  | sg c => rw [ht] at h; cases h
  | wd w =>
    rw [ht] at h
    simp only [leafk] at h
    refine ⟨?_, by simp, by simp⟩
    split at h
    · cases h; exact .leaf 1 (.inl rfl)
    · split at h
      · cases h; exact .leaf 2 (.inr rfl)
      · cases h
  | nm w => rw [ht] at h; cases h; exact ⟨.name 5 w (.inl rfl) (tok_nm ht), by simp, by simp⟩
  | nu n => rw [ht] at h; cases h; exact ⟨.num n (tok_nu ht), by simp, by simp⟩
  | tx t => rw [ht] at h; cases h; have := (tok_tx ht).2; rw [List.length_drop] at this; exact ⟨.text t (tok_tx ht).1 (by omega), by simp, by simp⟩
  | fin => rw [ht] at h; cases h
  | non => rw [ht] at h; cases h
theorem brkk_is {t : Tk} {k : Nat} (h : brkk t = some k) : (k = 6 ∨ k = 7) ∧ t ≠ .fin ∧ t ≠ .non := by
  cases t <;> simp only [brkk, reduceCtorEq] at h
  refine ⟨?_, by simp, by simp⟩
  split at h
  · cases h; exact .inl rfl
  · split at h
    · cases h; exact .inr rfl
    · cases h
theorem brk_is (S : List Nat) (k : Nat) (hk : k = 6 ∨ k = 7) (p : Nat) (hp : p ≤ S.length) : p ≤ (brk S k p).1 ∧ (brk S k p).1 ≤ S.length ∧ ∀ g, (brk S k p).2 = some g → Wf g 1 := by
  have h1 := nx_le hp
  have h2 := nx_le h1.2
  have h3 := nx_le h2.2
  unfold brk
  split
  · split
    · rename_i w hw
      split
      · refine ⟨by show p ≤ nx S (nx S (nx S p)); omega, h3.2, fun g hg => ?_⟩
        cases hg
        exact .name k w (by omega) (tok_nm hw)
      · exact ⟨by show p ≤ nx S (nx S p); omega, h2.2, fun g hg => by cases hg⟩
    · exact ⟨h1.1, h1.2, fun g hg => by cases hg⟩
  · exact ⟨Nat.le_refl _, hp, fun g hg => by cases hg⟩
/-- what was read ahead -/
def SymOk : Sym → Nat → Prop
  | .loop _ g, d => Wf g d
  | .rel g, d => Wf g d
  | _, d => d = 0
theorem low_ok (k : Lv) : SymOk (low k) 0 := by cases k <;> rfl
theorem R_wf {S : List Nat} {s : Sym} {p p' : Nat} {r : Option GB} (hS : S.length ≤ 16384) (h : R S s p p' r) (hp : p ≤ S.length) : p ≤ p' ∧ p' ≤ S.length ∧ ∀ d0, SymOk s d0 → ∀ g, r = some g → ∃ d, Wf g d ∧ d + p ≤ d0 + p' := by
  induction h with
  | lv_ok _ _ ih1 ih2 =>
    obtain ⟨a1, a2, a3⟩ := ih1 hp
    obtain ⟨b1, b2, b3⟩ := ih2 a2
    obtain ⟨d, hd, hl⟩ := a3 0 (low_ok _) _ rfl
    refine ⟨by omega, b2, fun d0 h0 g hg => ?_⟩
    obtain ⟨e, he, hm⟩ := b3 d hd g hg
    exact ⟨e, he, by omega⟩
  | lv_no _ ih => obtain ⟨a1, a2, _⟩ := ih hp; exact ⟨a1, a2, fun _ _ g hg => by cases hg⟩
  | loop_stop _ => exact ⟨Nat.le_refl _, hp, fun d0 h0 g hg => by cases hg; exact ⟨d0, h0, Nat.le_refl _⟩⟩
  | loop_ok ho _ _ ih1 ih2 =>
    obtain ⟨m1, m2, m3, m4⟩ := opk_is ho
    have hn := nx_le hp
    have hlt := nx_lt hp m3 m4
    obtain ⟨a1, a2, a3⟩ := ih1 hn.2
    obtain ⟨b1, b2, b3⟩ := ih2 a2
    obtain ⟨d, hd, hl⟩ := a3 0 (low_ok _) _ rfl
    refine ⟨by omega, b2, fun d0 h0 g hg => ?_⟩
    obtain ⟨e, he, hm⟩ := b3 (max d0 d + 1) (.pair _ m1 m2 h0 hd) g hg
    exact ⟨e, he, by omega⟩
  | loop_no ho _ ih =>
    have hn := nx_le hp
    obtain ⟨a1, a2, _⟩ := ih hn.2
    exact ⟨by omega, a2, fun _ _ g hg => by cases hg⟩
  | not_ok ht _ ih =>
    have hn := nx_le hp
    have hlt := nx_lt hp (by rw [ht]; simp) (by rw [ht]; simp)
    obtain ⟨a1, a2, a3⟩ := ih hn.2
    refine ⟨by omega, a2, fun d0 h0 g hg => ?_⟩
    cases hg
    obtain ⟨d, hd, hl⟩ := a3 0 rfl _ rfl
    exact ⟨d + 1, .one hd, by omega⟩
  | not_no _ _ ih =>
    have hn := nx_le hp
    obtain ⟨a1, a2, _⟩ := ih hn.2
    exact ⟨by omega, a2, fun _ _ g hg => by cases hg⟩
  | part_ok _ _ _ ih1 ih2 =>
    obtain ⟨a1, a2, a3⟩ := ih1 hp
    obtain ⟨b1, b2, b3⟩ := ih2 a2
    obtain ⟨d, hd, hl⟩ := a3 0 rfl _ rfl
    refine ⟨by omega, b2, fun d0 h0 g hg => ?_⟩
    obtain ⟨e, he, hm⟩ := b3 d hd g hg
    exact ⟨e, he, by omega⟩
  | part_no _ _ ih => obtain ⟨a1, a2, _⟩ := ih hp; exact ⟨a1, a2, fun _ _ g hg => by cases hg⟩
  | rel_stop _ => exact ⟨Nat.le_refl _, hp, fun d0 h0 g hg => by cases hg; exact ⟨d0, h0, Nat.le_refl _⟩⟩
  | rel_ok ho _ ih =>
    obtain ⟨m1, m2, m3, m4⟩ := relk_is ho
    have hn := nx_le hp
    have hlt := nx_lt hp m3 m4
    obtain ⟨a1, a2, a3⟩ := ih hn.2
    refine ⟨by omega, a2, fun d0 h0 g hg => ?_⟩
    cases hg
    obtain ⟨d, hd, hl⟩ := a3 0 rfl _ rfl
    exact ⟨max d0 d + 1, .pair _ m1 m2 h0 hd, by omega⟩
  | rel_no _ _ ih =>
    have hn := nx_le hp
    obtain ⟨a1, a2, _⟩ := ih hn.2
    exact ⟨by omega, a2, fun _ _ g hg => by cases hg⟩
  | leaf hl =>
    obtain ⟨h1, h2, h3⟩ := leafk_is hS hl
    have hn := nx_le hp
    have hlt := nx_lt hp h2 h3
    refine ⟨hn.1, hn.2, fun d0 h0 g hg => ?_⟩
    cases hg
    exact ⟨1, h1, by omega⟩
  | brk hb =>
    obtain ⟨h1, h2, h3⟩ := brkk_is hb
    have hn := nx_le hp
    have hlt := nx_lt hp h2 h3
    obtain ⟨a1, a2, a3⟩ := brk_is S _ h1 _ hn.2
    exact ⟨by omega, a2, fun d0 h0 g hg => ⟨1, a3 g hg, by omega⟩⟩
  | paren_ok ht _ _ ih =>
    have hn := nx_le hp
    obtain ⟨a1, a2, a3⟩ := ih hn.2
    have hm := nx_le a2
    refine ⟨by omega, hm.2, fun d0 h0 g hg => ?_⟩
    cases hg
    obtain ⟨d, hd, hl⟩ := a3 0 rfl _ rfl
    exact ⟨d, hd, by omega⟩
  | paren_end ht _ _ ih =>
    have hn := nx_le hp
    obtain ⟨a1, a2, _⟩ := ih hn.2
    exact ⟨by omega, a2, fun _ _ g hg => by cases hg⟩
  | paren_no ht _ ih =>
    have hn := nx_le hp
    obtain ⟨a1, a2, _⟩ := ih hn.2
    exact ⟨by omega, a2, fun _ _ g hg => by cases hg⟩
  | atom_no _ _ _ => exact ⟨Nat.le_refl _, hp, fun _ _ g hg => by cases hg⟩
/-- a whole text: the guard, or where it was refused -/
inductive Wh (S : List Nat) : Nat → Option GB → Prop where
  | ok {p : Nat} {g : GB} : R S (.lv .ors) (skip S 0) p (some g) → tkAt S p = .fin → Wh S p (some g)
  | more {p : Nat} {g : GB} : R S (.lv .ors) (skip S 0) p (some g) → tkAt S p ≠ .fin → Wh S p none
  | no {p : Nat} : R S (.lv .ors) (skip S 0) p none → Wh S p none
theorem Wh_one {S : List Nat} {p q : Nat} {r t : Option GB} (h1 : Wh S p r) (h2 : Wh S q t) : p = q ∧ r = t := by
  cases h1 with
  | ok a b =>
    cases h2 with
    | ok c d => exact R_one a c
    | more c d => have := R_one a c; obtain ⟨rfl, _⟩ := this; exact absurd b d
    | no c => have := R_one a c; cases this.2
  | more a b =>
    cases h2 with
    | ok c d => have := R_one a c; obtain ⟨rfl, _⟩ := this; exact absurd d b
    | more c d => exact ⟨(R_one a c).1, rfl⟩
    | no c => have := R_one a c; cases this.2
  | no a =>
    cases h2 with
    | ok c d => have := R_one a c; cases this.2
    | more c d => have := R_one a c; cases this.2
    | no c => exact ⟨(R_one a c).1, rfl⟩
theorem Wh_wf {S : List Nat} {p : Nat} {r : Option GB} (hS : S.length ≤ 16384) (h : Wh S p r) : p ≤ S.length ∧ ∀ g, r = some g → ∃ d, Wf g d ∧ d ≤ S.length := by
  have h0 := skip_le (S := S) (p := 0) (by omega)
  cases h with
  | ok a b =>
    obtain ⟨a1, a2, a3⟩ := R_wf hS a h0.2
    refine ⟨a2, fun g hg => ?_⟩
    cases hg
    obtain ⟨d, hd, hl⟩ := a3 0 rfl _ rfl
    exact ⟨d, hd, by omega⟩
  | more a b => exact ⟨(R_wf hS a h0.2).2.1, fun g hg => by cases hg⟩
  | no a => exact ⟨(R_wf hS a h0.2).2.1, fun g hg => by cases hg⟩
end Go.Proofs.YtkcmidhpbaepoaaDoor.G
