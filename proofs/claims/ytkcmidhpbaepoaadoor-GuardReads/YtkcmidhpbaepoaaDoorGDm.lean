/-
  The document's reader: which token stands next. No program.
-/
import Derived.Test.YtkcmidhpbaepoaaDoorGDl
namespace Go.Proofs.YtkcmidhpbaepoaaDoor.G
open Go.RowKit Go.WideShapes Go.Joins

def nowL (l : List Nat) : List Nat := l.take (tok l).2
/-- the bytes of a token -/
def NowIs (n : List Nat) : Tk → Prop
  | .sg c => n = [c] ∧ isSg c = true
  | .wd w => n = w ∧ taken w = true
  | .nm w => n = w ∧ NmOk w
  | .nu k => (∃ c r, n = c :: r ∧ (∀ x ∈ c :: r, isDg x = true) ∧ (c = 48 → r = [])) ∧ k = J.tens n ∧ k ≤ 9223372036854775807
  | .tx t => n = 39 :: (t ++ [39])
  | .fin => n = []
  | .non => n = []
theorem tok_now (l : List Nat) : NowIs (nowL l) (tok l).1 := by
  cases ht : (tok l).1 with
  | sg c =>
    cases l with
    | nil => cases ht
    | cons a r =>
      change (tokC a r).1 = _ at ht
      unfold nowL
      show NowIs ((a :: r).take (tokC a r).2) _
      unfold tokC at ht ⊢
      split at ht
      · rename_i h
        cases ht
        rw [if_pos h]
        exact ⟨rfl, h⟩
      split at ht
      · split at ht <;> cases ht
      split at ht
      · split at ht <;> cases ht
      split at ht
      · cases ht
      split at ht <;> cases ht
  | wd w =>
    have hv := tok_vt l
    rw [ht] at hv
    refine ⟨?_, hv⟩
    cases l with
    | nil => cases ht
    | cons a r =>
      change (tokC a r).1 = _ at ht
      unfold nowL
      show (a :: r).take (tokC a r).2 = _
      unfold tokC at ht ⊢
      split at ht
      · cases ht
      rename_i h1
      rw [if_neg h1]
      split at ht
      · split at ht <;> cases ht
      rename_i h2
      rw [if_neg h2]
      split at ht
      · split at ht <;> cases ht
      rename_i h3
      rw [if_neg h3]
      split at ht
      · cases ht
      rename_i h4
      rw [if_neg h4]
      split at ht
      · rename_i h5
        rw [if_pos h5]
        have := ht
        simp only [Tk.wd.injEq] at this
        exact this
      · cases ht
  | nm w =>
    refine ⟨?_, tok_nm ht⟩
    cases l with
    | nil => cases ht
    | cons a r =>
      change (tokC a r).1 = _ at ht
      unfold nowL
      show (a :: r).take (tokC a r).2 = _
      unfold tokC at ht ⊢
      split at ht
      · cases ht
      rename_i h1
      rw [if_neg h1]
      split at ht
      · split at ht <;> cases ht
      rename_i h2
      rw [if_neg h2]
      split at ht
      · split at ht <;> cases ht
      rename_i h3
      rw [if_neg h3]
      split at ht
      · cases ht
      rename_i h4
      rw [if_neg h4]
      split at ht
      · cases ht
      · rename_i h5
        rw [if_neg h5]
        have := ht
        simp only [Tk.nm.injEq] at this
        exact this
  | nu k =>
    cases l with
    | nil => cases ht
    | cons a r =>
      change (tokC a r).1 = _ at ht
      unfold nowL
      show NowIs ((a :: r).take (tokC a r).2) _
      unfold tokC at ht ⊢
      split at ht
      · cases ht
      rename_i h1
      rw [if_neg h1]
      split at ht
      · split at ht <;> cases ht
      rename_i h2
      rw [if_neg h2]
      split at ht
      · rename_i h3
        rw [if_pos h3]
        split at ht
        · rename_i h4
          rw [if_pos h4]
          have e := ht
          simp only [Tk.nu.injEq] at e
          have hd := dig_all (l := r) h3
          refine ⟨?_, e.symm, by rw [← e]; exact h4⟩
          show ∃ c q, (a :: r).take (digN (a :: r)) = c :: q ∧ _
          by_cases h48 : a = 48
          · have : digN (a :: r) = 1 := by simp only [digN, if_pos h48]
            rw [this] at hd ⊢
            exact ⟨a, [], rfl, hd, fun _ => rfl⟩
          · have : digN (a :: r) = cnt isDg r + 1 := by simp only [digN, if_neg h48]
            rw [this] at hd ⊢
            exact ⟨a, r.take (cnt isDg r), rfl, hd, fun e => absurd e h48⟩
        · cases ht
      split at ht
      · cases ht
      split at ht <;> cases ht
  | tx t =>
    cases l with
    | nil => cases ht
    | cons a r =>
      change (tokC a r).1 = _ at ht
      unfold nowL
      show (a :: r).take (tokC a r).2 = _
      unfold tokC at ht ⊢
      split at ht
      · cases ht
      rename_i h1
      rw [if_neg h1]
      split at ht
      · rename_i h2
        rw [if_pos h2]
        split at ht
        · rename_i h3
          rw [if_pos h3]
          have e := ht
          simp only [Tk.tx.injEq] at e
          rw [List.head?_drop] at h3
          obtain ⟨hn, he⟩ := List.getElem?_eq_some_iff.1 h3
          show (a :: r).take (cnt isCh r + 1 + 1) = _
          rw [List.take_succ_cons, List.take_succ_eq_append_getElem hn, he, e, h2]
        · cases ht
      split at ht
      · split at ht <;> cases ht
      split at ht
      · cases ht
      split at ht <;> cases ht
  | fin =>
    cases l with
    | nil => rfl
    | cons a r =>
      change (tokC a r).1 = _ at ht
      unfold tokC at ht
      split at ht
      · cases ht
      split at ht
      · split at ht <;> cases ht
      split at ht
      · split at ht <;> cases ht
      split at ht
      · cases ht
      split at ht <;> cases ht
  | non =>
    cases l with
    | nil => cases ht
    | cons a r =>
      change (tokC a r).1 = _ at ht
      unfold nowL
      show (a :: r).take (tokC a r).2 = _
      unfold tokC at ht ⊢
      split at ht
      · cases ht
      rename_i h1
      rw [if_neg h1]
      split at ht
      · rename_i h2
        rw [if_pos h2]
        split at ht
        · cases ht
        · rename_i h3
          rw [if_neg h3]
          rfl
      rename_i h2
      rw [if_neg h2]
      split at ht
      · rename_i h3
        rw [if_pos h3]
        split at ht
        · cases ht
        · rename_i h4
          rw [if_neg h4]
          rfl
      rename_i h3
      rw [if_neg h3]
      split at ht
      · rename_i h4
        rw [if_pos h4]
        rfl
      split at ht <;> cases ht
theorem tok_zero {l : List Nat} (h : (tok l).2 = 0) (hl : l ≠ []) : (tok l).1 = .non := by
  cases ht : (tok l).1 with
  | non => rfl
  | fin =>
    have := tok_now l
    rw [ht] at this
    cases l with
    | nil => exact absurd rfl hl
    | cons a r =>
      exfalso
      change (tokC a r).1 = _ at ht
      unfold tokC at ht
      split at ht
      · cases ht
      split at ht
      · split at ht <;> cases ht
      split at ht
      · split at ht <;> cases ht
      split at ht
      · cases ht
      split at ht <;> cases ht
  | sg c => have := tok_pos (l := l) (by rw [ht]; simp) (by rw [ht]; simp); omega
  | wd c => have := tok_pos (l := l) (by rw [ht]; simp) (by rw [ht]; simp); omega
  | nm c => have := tok_pos (l := l) (by rw [ht]; simp) (by rw [ht]; simp); omega
  | nu c => have := tok_pos (l := l) (by rw [ht]; simp) (by rw [ht]; simp); omega
  | tx c => have := tok_pos (l := l) (by rw [ht]; simp) (by rw [ht]; simp); omega
/-- signs and words: what is asked for -/
def lit : Tk → List Nat
  | .sg c => [c]
  | .wd w => w
  | _ => []
def Ask : Tk → Prop
  | .sg c => isSg c = true
  | .wd w => taken w = true
  | _ => False
theorem sg_no (c : Nat) (h : isSg c = true) : isSm c = false ∧ isDg c = false ∧ c ≠ 39 := by
  rcases sg_one h with rfl | rfl | rfl | rfl | rfl | rfl | rfl <;> decide
theorem now_same {n : List Nat} {t u : Tk} (hn : NowIs n t) (hu : Ask u) (h0 : t ≠ .non) : n = lit u ↔ t = u := by
  cases u with
  | sg d =>
    have hu : isSg d = true := hu
    have hd := sg_no d hu
    show n = [d] ↔ _
    cases t with
    | sg c =>
      obtain ⟨rfl, hc⟩ := hn
      simp
    | wd w =>
      obtain ⟨rfl, hc⟩ := hn
      rcases wd_one hc with rfl | rfl | rfl | rfl | rfl | rfl | rfl <;> simp [tkAnd, tkOr, tkNot, tkTrue, tkFalse, tkOpen, tkDone]
    | nm w =>
      obtain ⟨rfl, hc⟩ := hn
      simp only [reduceCtorEq, iff_false]
      rintro rfl
      have := (nm_lt hc).1
      simp only [List.getD_cons_zero, hd.1] at this
      cases this
    | nu k =>
      obtain ⟨⟨c, r, rfl, hc, _⟩, _⟩ := hn
      simp only [reduceCtorEq, iff_false]
      intro e
      have := hc c (by simp)
      rw [(List.cons.inj e).1, hd.2.1] at this
      cases this
    | tx t =>
      have hn : n = _ := hn
      subst hn
      simp only [reduceCtorEq, iff_false]
      intro e
      exact hd.2.2 (List.cons.inj e).1.symm
    | fin =>
      have hn : n = _ := hn
      subst hn
      simp
    | non => exact absurd rfl h0
  | wd v =>
    have hu : taken v = true := hu
    show n = v ↔ _
    cases t with
    | sg c =>
      obtain ⟨rfl, hc⟩ := hn
      rcases wd_one hu with rfl | rfl | rfl | rfl | rfl | rfl | rfl <;> simp [tkAnd, tkOr, tkNot, tkTrue, tkFalse, tkOpen, tkDone]
    | wd w =>
      obtain ⟨rfl, hc⟩ := hn
      simp
    | nm w =>
      obtain ⟨rfl, hc⟩ := hn
      simp only [reduceCtorEq, iff_false]
      rintro rfl
      have := hc.free
      rw [hu] at this
      cases this
    | nu k =>
      obtain ⟨⟨c, r, rfl, hc, _⟩, _⟩ := hn
      simp only [reduceCtorEq, iff_false]
      intro e
      have := hc c (by simp)
      rcases wd_one hu with rfl | rfl | rfl | rfl | rfl | rfl | rfl <;> (rw [(List.cons.inj e).1] at this; exact absurd this (by decide))
    | tx t =>
      have hn : n = _ := hn
      subst hn
      simp only [reduceCtorEq, iff_false]
      intro e
      rcases wd_one hu with rfl | rfl | rfl | rfl | rfl | rfl | rfl <;> exact absurd (List.cons.inj e).1 (by decide)
    | fin =>
      have hn : n = _ := hn
      subst hn
      simp only [reduceCtorEq, iff_false]
      rintro rfl
      exact absurd hu (by decide)
    | non => exact absurd rfl h0
  | nm _ => exact absurd hu (by simp [Ask])
  | nu _ => exact absurd hu (by simp [Ask])
  | tx _ => exact absurd hu (by simp [Ask])
  | fin => exact absurd hu (by simp [Ask])
  | non => exact absurd hu (by simp [Ask])
/-- the state at a place: where no token begins it is dead at once -/
def norm (S : List Nat) (p : Nat) : St := match tkAt S p with | .non => .dead p | _ => .live p
theorem norm_p (S : List Nat) (p : Nat) : (norm S p).p = p := by unfold norm; split <;> rfl
theorem norm_live {S : List Nat} {p : Nat} (h : tkAt S p ≠ .non) : norm S p = .live p := by
  unfold norm
  split
  · rename_i e; exact absurd e h
  · rfl
theorem norm_dead {S : List Nat} {p : Nat} (h : tkAt S p = .non) : norm S p = .dead p := by unfold norm; rw [h]
/-- a token's kind and its numbers -/
def tkEnc : Tk → Nat × List Nat
  | .sg c => (0, [c])
  | .wd w => (1, w)
  | .nm w => (2, w)
  | .nu n => (3, [n])
  | .tx t => (4, t)
  | .fin => (5, [])
  | .non => (6, [])
theorem tkEnc_inj {t u : Tk} (h : tkEnc t = tkEnc u) : t = u := by
  cases t <;> cases u <;> simp_all [tkEnc]
instance : DecidableEq Tk := fun t u => decidable_of_iff (tkEnc t = tkEnc u) ⟨tkEnc_inj, fun e => by rw [e]⟩
def St.dtake (S : List Nat) (t : Tk) : St → St × Bool
  | .live p => if tkAt S p = t then (norm S (nx S p), true) else (.live p, false)
  | .dead p => (.dead p, false)
def St.dmust (S : List Nat) (t : Tk) : St → St
  | .live p => if tkAt S p = t then norm S (nx S p) else .dead p
  | .dead p => .dead p
end Go.Proofs.YtkcmidhpbaepoaaDoor.G
