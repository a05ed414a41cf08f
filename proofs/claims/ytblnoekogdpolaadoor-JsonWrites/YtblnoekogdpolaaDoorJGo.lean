import Derived.Test.YtblnoekogdpolaaDoorJMem
import Derived.Test.YtblnoekogdpolaaDoorJFed
namespace Go.Proofs.YtblnoekogdpolaaDoor
open Go.RowKit Go.WideShapes
inductive RS where
  | live (s : ByteArray) (i : Nat)
  | dead (s : ByteArray) (e : Nat)
def RS.s : RS → ByteArray | .live s _ => s | .dead s _ => s
def RS.i : RS → Nat | .live _ i => i | .dead s _ => s.size
def RS.e : RS → Nat | .live _ _ => 0 | .dead _ e => e
def RS.ok : RS → Prop | .live s i => i ≤ s.size | .dead _ e => e ≠ 0 ∧ e < 65536
def RS.rest : RS → List Nat | .live s i => (numsOf s).drop i | .dead _ _ => []
def cutS (s : ByteArray) (n : Nat) : ByteArray := strOf ((numsOf s).take n)
theorem cutS_nums (s : ByteArray) (n : Nat) : numsOf (cutS s n) = (numsOf s).take n := nums_strOf fun c hc => numsOf_lt s c (List.mem_of_mem_take hc)
theorem cutS_size (s : ByteArray) {n : Nat} (h : n ≤ s.size) : (cutS s n).size = n := by
  rw [← numsOf_len, cutS_nums, List.length_take, numsOf_len]; omega
theorem cutS_all (s : ByteArray) : cutS s s.size = s := by
  apply numsOf_inj
  rw [cutS_nums, ← numsOf_len, List.take_length]
def goR {α : Type} (p : J.Rd α) : RS → RS × Option α
  | .dead s e => (.dead s e, none)
  | .live s i => match p ((numsOf s).drop i) with
    | .ok v r => (.live s (s.size - r.length), some v)
    | .bad e r => (.dead (cutS s (s.size - r.length)) e, none)
    | .out => (.dead s 160, none)
theorem goR_dead {α : Type} (p : J.Rd α) (s : ByteArray) (e : Nat) : goR p (.dead s e) = (.dead s e, none) := rfl
def Errs {α : Type} (p : J.Rd α) : Prop := ∀ l e r, p l = .bad e r → e ≠ 0 ∧ e < 65536
theorem rest_len (s : ByteArray) (i : Nat) : ((numsOf s).drop i).length = s.size - i := by rw [List.length_drop, numsOf_len]
theorem rest_back {s : ByteArray} {i : Nat} {a r : List Nat} (h : (numsOf s).drop i = a ++ r) : (numsOf s).drop (s.size - r.length) = r := by
  have hl : s.size - i = a.length + r.length := by rw [← rest_len, h, List.length_append]
  by_cases hr : r.length = 0
  · obtain rfl : r = [] := List.length_eq_zero_iff.1 hr
    simp only [List.length_nil, Nat.sub_zero]
    rw [← numsOf_len, List.drop_length]
  · have e : s.size - r.length = i + a.length := by omega
    rw [e, ← List.drop_drop, h, List.drop_append_of_le_length (Nat.le_refl _), List.drop_length, List.nil_append]
theorem goR_ok {α : Type} {p : J.Rd α} (he : Errs p) {σ : RS} (h : σ.ok) : (goR p σ).1.ok := by
  cases σ with
  | dead s e => exact h
  | live s i =>
    simp only [goR]
    split
    · rename_i v r hv
      simp only [RS.ok]; omega
    · rename_i e r hv
      exact he _ _ _ hv
    · exact ⟨by decide, by decide⟩
theorem goR_then {α β : Type} {p : J.Rd α} {q : α → J.Rd β} (hp : J.Good p) (σ : RS) :
    goR (p.then q) σ = match goR p σ with | (σ1, some v) => goR (q v) σ1 | (σ1, none) => (σ1, none) := by
  cases σ with
  | dead s e => rfl
  | live s i =>
    simp only [goR, J.Rd.then]
    cases hv : p ((numsOf s).drop i) with
    | ok v r =>
      obtain ⟨a, ha⟩ := hp.okS _ _ _ hv
      simp only [rest_back ha]
    | bad e r => rfl
    | out => rfl
theorem goR_some {α β : Type} {p : J.Rd α} {q : α → J.Rd β} (hp : J.Good p) {σ σ1 : RS} {v : α} (h : goR p σ = (σ1, some v)) : goR (p.then q) σ = goR (q v) σ1 := by
  rw [goR_then hp, h]
theorem goR_none {α β : Type} {p : J.Rd α} {q : α → J.Rd β} (hp : J.Good p) {σ σ1 : RS} (h : goR p σ = (σ1, none)) : goR (p.then q) σ = (σ1, none) := by
  rw [goR_then hp, h]
theorem goR_over {α : Type} {p : J.Rd α} {σ σ1 : RS} (h : goR p σ = (σ1, none)) : ∃ s e, σ1 = .dead s e := by
  cases σ with
  | dead s e => cases h; exact ⟨s, e, rfl⟩
  | live s i =>
    simp only [goR] at h
    split at h <;> cases h
    · exact ⟨_, _, rfl⟩
    · exact ⟨_, _, rfl⟩
theorem goR_live {α : Type} {p : J.Rd α} {σ σ1 : RS} {v : α} (h : goR p σ = (σ1, some v)) : ∃ s i j, σ = .live s i ∧ σ1 = .live s j := by
  cases σ with
  | dead s e => cases h
  | live s i =>
    simp only [goR] at h
    split at h <;> cases h
    exact ⟨s, i, _, rfl, rfl⟩
theorem goR_eq {α : Type} {p q : J.Rd α} (h : ∀ l, p l = q l) (σ : RS) : goR p σ = goR q σ := by
  have : p = q := funext h
  rw [this]
theorem goR_pure {α : Type} (v : α) {s : ByteArray} {i : Nat} (h : i ≤ s.size) : goR (J.Rd.pure v) (.live s i) = (.live s i, some v) := by
  have hl := rest_len s i
  simp only [goR, J.Rd.pure, hl, Prod.mk.injEq, RS.live.injEq, true_and, and_true]
  omega
theorem rest_nil {s : ByteArray} {i : Nat} (h : ¬ i < s.size) : (numsOf s).drop i = [] := by
  rw [List.drop_eq_nil_iff, numsOf_len]; omega
theorem rest_cons {s : ByteArray} {i : Nat} (h : i < s.size) : (numsOf s).drop i = (numsOf s).getD i 0 :: (numsOf s).drop (i + 1) := by
  have h' : i < (numsOf s).length := by rw [numsOf_len]; exact h
  rw [List.drop_eq_getElem_cons h', List.getD_eq_getElem?_getD, List.getElem?_eq_getElem h']; rfl
theorem goR_sw {α : Type} (f : Nat → J.Act α) (z : J.Res α) {s : ByteArray} {i : Nat} (h : i < s.size) :
    goR (J.sw f z) (.live s i) = match f ((numsOf s).getD i 0) with
      | .take q => goR q (.live s (i + 1))
      | .go q => goR q (.live s i)
      | .stop e => (.dead (cutS s i) e, none) := by
  have hl := rest_len s i
  have e := rest_cons h
  rw [e] at hl
  simp only [goR, e, J.sw]
  cases f ((numsOf s).getD i 0) with
  | take q => rfl
  | go q => rfl
  | stop k =>
    simp only
    rw [hl]
    simp only [Prod.mk.injEq, RS.dead.injEq, and_true]
    congr 1
    omega
theorem goR_end {α : Type} (f : Nat → J.Act α) {s : ByteArray} {i : Nat} (h : ¬ i < s.size) :
    goR (J.sw f (.bad 160 [])) (.live s i) = (.dead s 160, none) := by
  simp only [goR, rest_nil h, J.sw, List.length_nil, Nat.sub_zero, cutS_all]
theorem goR_endo {α : Type} (f : Nat → J.Act α) (v : α) {s : ByteArray} {i : Nat} (h : ¬ i < s.size) (hi : i ≤ s.size) :
    goR (J.sw f (.ok v [])) (.live s i) = (.live s i, some v) := by
  simp only [goR, rest_nil h, J.sw, List.length_nil, Nat.sub_zero, Prod.mk.injEq, RS.live.injEq, true_and, and_true]
  omega
theorem goR_skip (t : Nat → Bool) {s : ByteArray} {i : Nat} (h : i < s.size) (ht : t ((numsOf s).getD i 0) = true) :
    goR (J.skip t) (.live s i) = goR (J.skip t) (.live s (i + 1)) := by
  simp only [goR, J.skip]
  rw [rest_cons h, List.dropWhile_cons_of_pos ht]
theorem goR_skip_stop (t : Nat → Bool) {s : ByteArray} {i : Nat} (hi : i ≤ s.size) (h : i < s.size → t ((numsOf s).getD i 0) = false) :
    goR (J.skip t) (.live s i) = (.live s i, some ()) := by
  have hl := rest_len s i
  simp only [goR, J.skip]
  by_cases hlt : i < s.size
  · have e := rest_cons hlt
    rw [e, List.dropWhile_cons_of_neg (by rw [h hlt]; simp), ← e, hl]
    simp only [Prod.mk.injEq, RS.live.injEq, true_and, and_true]
    omega
  · rw [rest_nil hlt]
    simp only [List.dropWhile_nil, List.length_nil, Nat.sub_zero, Prod.mk.injEq, RS.live.injEq, true_and, and_true]
    omega
end Go.Proofs.YtblnoekogdpolaaDoor
