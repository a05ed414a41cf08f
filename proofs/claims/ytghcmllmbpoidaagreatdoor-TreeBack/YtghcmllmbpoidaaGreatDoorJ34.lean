import Derived.Test.YtghcmllmbpoidaaGreatDoorJ33
import Derived.Laws.Bits64b
import Derived.Laws.MakeOwn
import Derived.Deep.OwnRows
namespace Go.Proofs.YtghcmllmbpoidaaGreatDoor.Mg
open Go.RowKit Go.WideShapes
def twoE : List EntV → List EntV → List EntV
  | [], b => b
  | a, [] => a
  | x :: a, y :: b => if lessE x y = true then x :: twoE a (y :: b) else y :: twoE (x :: a) b
termination_by a b => a.length + b.length
theorem twoE_nil (b : List EntV) : twoE [] b = b := by unfold twoE; rfl
theorem twoE_nil' (a : List EntV) : twoE a [] = a := by cases a <;> (unfold twoE; rfl)
theorem twoE_cons (x y : EntV) (a b : List EntV) : twoE (x :: a) (y :: b) = if lessE x y = true then x :: twoE a (y :: b) else y :: twoE (x :: a) b := by rw [twoE]
theorem twoE_perm : ∀ (n : Nat) (a b : List EntV), a.length + b.length ≤ n → (twoE a b).Perm (a ++ b)
  | _, [], b, _ => by rw [twoE_nil]; exact List.Perm.refl _
  | _, x :: a, [], _ => by rw [twoE_nil', List.append_nil]
  | 0, x :: a, y :: b, h => by simp at h
  | n + 1, x :: a, y :: b, h => by
    rw [twoE_cons]
    simp only [List.length_cons] at h
    split
    · exact (twoE_perm n a (y :: b) (by simp only [List.length_cons]; omega)).cons x
    · have := (twoE_perm n (x :: a) b (by simp only [List.length_cons]; omega)).cons y
      exact this.trans List.perm_middle.symm
theorem two_perm (a b : List EntV) : (twoE a b).Perm (a ++ b) := twoE_perm _ a b (Nat.le_refl _)
abbrev WeakE (l : List EntV) : Prop := l.Pairwise fun a b => lessE b a = false
theorem rise_weak {l : List EntV} (h : RiseE l) : WeakE l := h.imp lessE_asymm
theorem weak_trans {a b c : EntV} (h1 : lessE b a = false) (h2 : lessE c b = false) : lessE c a = false := by
  rw [Bool.eq_false_iff]
  intro h
  cases hb : lessE b c with
  | true =>
    have := lessE_trans hb h
    rw [h1] at this; cases this
  | false =>
    obtain ⟨k1, k2⟩ := lessE_tri hb h2
    have h3 : lessE b a = true := by
      rcases (lessE_def c a).1 h with h4 | h4
      · exact (lessE_def b a).2 (.inl (by rw [k1]; exact h4))
      · exact (lessE_def b a).2 (.inr ⟨by rw [k1]; exact h4.1, by omega⟩)
    rw [h1] at h3; cases h3
theorem twoE_weak : ∀ (n : Nat) (a b : List EntV), a.length + b.length ≤ n → WeakE a → WeakE b → WeakE (twoE a b)
  | _, [], b, _, _, hb => by rw [twoE_nil]; exact hb
  | _, x :: a, [], _, ha, _ => by rw [twoE_nil']; exact ha
  | 0, x :: a, y :: b, h, _, _ => by simp at h
  | n + 1, x :: a, y :: b, h, ha, hb => by
    obtain ⟨a1, a2⟩ := List.pairwise_cons.1 ha
    obtain ⟨b1, b2⟩ := List.pairwise_cons.1 hb
    rw [twoE_cons]
    simp only [List.length_cons] at h
    split
    · rename_i hxy
      refine List.pairwise_cons.2 ⟨fun z hz => ?_, twoE_weak n a (y :: b) (by simp only [List.length_cons]; omega) a2 hb⟩
      rcases List.mem_append.1 ((two_perm a (y :: b)).mem_iff.1 hz) with hz | hz
      · exact a1 z hz
      · rcases List.mem_cons.1 hz with rfl | hz
        · exact lessE_asymm hxy
        · exact weak_trans (lessE_asymm hxy) (b1 z hz)
    · rename_i hxy
      have hyx : lessE x y = false := by simpa using hxy
      refine List.pairwise_cons.2 ⟨fun z hz => ?_, twoE_weak n (x :: a) b (by simp only [List.length_cons]; omega) ha b2⟩
      rcases List.mem_append.1 ((two_perm (x :: a) b).mem_iff.1 hz) with hz | hz
      · rcases List.mem_cons.1 hz with rfl | hz
        · exact hyx
        · exact weak_trans hyx (a1 z hz)
      · exact b1 z hz
theorem two_weak {a b : List EntV} (ha : WeakE a) (hb : WeakE b) : WeakE (twoE a b) := twoE_weak _ a b (Nat.le_refl _) ha hb
abbrev SoleE (l : List EntV) : Prop := l.Pairwise fun a b => ¬ (a.key = b.key ∧ a.seq = b.seq)
theorem sole_perm {l m : List EntV} (h : l.Perm m) : SoleE l ↔ SoleE m := h.pairwise_iff (fun hab he => hab ⟨he.1.symm, he.2.symm⟩)
theorem weak_rise {l : List EntV} (h : WeakE l) : RiseE l ↔ SoleE l := by
  constructor
  · intro hr
    exact hr.imp (fun hab he => by rw [lessE_same he] at hab; cases hab)
  · intro hs
    refine (h.and hs).imp ?_
    rintro a b ⟨h1, h2⟩
    cases hab : lessE a b with
    | true => rfl
    | false => exact absurd (lessE_tri hab h1) h2
def allM (ls : List (List EntV)) : List EntV := ls.foldl twoE []
theorem foldl_two (ls : List (List EntV)) : ∀ a, WeakE a → (∀ l ∈ ls, WeakE l) → (ls.foldl twoE a).Perm (a ++ ls.flatten) ∧ WeakE (ls.foldl twoE a) := by
  induction ls with
  | nil => intro a ha _; simp [ha]
  | cons l ls ih =>
    intro a ha h
    obtain ⟨h1, h2⟩ := ih (twoE a l) (two_weak ha (h l (by simp))) (fun m hm => h m (by simp [hm]))
    refine ⟨?_, h2⟩
    rw [List.foldl_cons, List.flatten_cons, ← List.append_assoc]
    exact h1.trans ((two_perm a l).append_right _)
theorem allM_perm {ls : List (List EntV)} (h : ∀ l ∈ ls, WeakE l) : (allM ls).Perm ls.flatten ∧ WeakE (allM ls) := by
  have := foldl_two ls [] List.Pairwise.nil h
  simpa [allM] using this
section Heap
variable {α : Type} (z : α) (lt : α → α → Bool)
def swp (H : List α) (i j : Nat) : List α := (H.set i (H.getD j z)).set j (H.getD i z)
theorem swp_length (H : List α) (i j : Nat) : (swp z H i j).length = H.length := by unfold swp; simp
theorem getD_set (H : List α) (i k : Nat) (x : α) (hi : i < H.length) : (H.set i x).getD k z = if k = i then x else H.getD k z := by
  by_cases h : k = i
  · subst h
    rw [if_pos rfl, List.getD_eq_getElem?_getD, List.getElem?_set_self hi]
    rfl
  · rw [if_neg h, List.getD_eq_getElem?_getD, List.getElem?_set_ne (fun e => h e.symm), List.getD_eq_getElem?_getD]
theorem swp_at {H : List α} {i j : Nat} (hi : i < H.length) (hj : j < H.length) (k : Nat) : (swp z H i j).getD k z = if k = j then H.getD i z else if k = i then H.getD j z else H.getD k z := by
  unfold swp
  rw [getD_set z _ _ _ _ (by rw [List.length_set]; exact hj), getD_set z _ _ _ _ hi]
theorem swp_perm {H : List α} {i j : Nat} (hi : i < H.length) (hj : j < H.length) : (swp z H i j).Perm H := by
  have h := Array.swap_perm (xs := H.toArray) (i := i) (j := j) (by simpa using hi) (by simpa using hj)
  rw [Array.perm_iff_toList_perm] at h
  have e : ((H.toArray).swap i j (by simpa using hi) (by simpa using hj)).toList = swp z H i j := by
    unfold swp
    rw [List.getD_eq_getElem?_getD, List.getD_eq_getElem?_getD, List.getElem?_eq_getElem hi, List.getElem?_eq_getElem hj]
    simp [Array.swap]
  rw [e] at h
  exact h
def Heap (H : List α) : Prop := ∀ k, 0 < k → k < H.length → lt (H.getD k z) (H.getD ((k - 1) / 2) z) = false
def UpOk (H : List α) (j : Nat) : Prop := (∀ k, 0 < k → k < H.length → k ≠ j → lt (H.getD k z) (H.getD ((k - 1) / 2) z) = false) ∧ (∀ k, 0 < k → k < H.length → (k - 1) / 2 = j → 0 < j → lt (H.getD k z) (H.getD ((j - 1) / 2) z) = false)
def DownOk (H : List α) (n i : Nat) : Prop := (∀ k, 0 < k → k < n → (k - 1) / 2 ≠ i → lt (H.getD k z) (H.getD ((k - 1) / 2) z) = false) ∧ (∀ k, 0 < k → k < n → (k - 1) / 2 = i → 0 < i → lt (H.getD k z) (H.getD ((i - 1) / 2) z) = false)
def HeapTo (H : List α) (n : Nat) : Prop := ∀ k, 0 < k → k < n → lt (H.getD k z) (H.getD ((k - 1) / 2) z) = false
variable {z lt}
variable (asym : ∀ a b, lt a b = true → lt b a = false) (trans : ∀ a b c, lt b a = false → lt c b = false → lt c a = false)
include asym trans in
theorem up_step {H : List α} {j : Nat} (hj : j < H.length) (h0 : 0 < j) (h : UpOk z lt H j) (hl : lt (H.getD j z) (H.getD ((j - 1) / 2) z) = true) : UpOk z lt (swp z H ((j - 1) / 2) j) ((j - 1) / 2) := by
  obtain ⟨h1, h2⟩ := h
  obtain ⟨i, hi⟩ : ∃ i, (j - 1) / 2 = i := ⟨_, rfl⟩
  rw [hi] at hl ⊢
  have hij : i < j := by omega
  have hil : i < H.length := by omega
  refine ⟨fun k k0 kn ki => ?_, fun k k0 kn kp i0 => ?_⟩
  · rw [swp_length] at kn
    rw [swp_at z hil hj, swp_at z hil hj]
    by_cases kj : k = j
    · subst kj
      rw [if_pos rfl, hi, if_neg (by omega), if_pos rfl]
      exact asym _ _ hl
    · rw [if_neg kj, if_neg ki]
      by_cases pj : (k - 1) / 2 = j
      · rw [if_pos pj]
        have := h2 k k0 kn pj h0
        rwa [hi] at this
      · rw [if_neg pj]
        by_cases pi : (k - 1) / 2 = i
        · rw [if_pos pi]
          have := h1 k k0 kn kj
          rw [pi] at this
          exact trans _ _ _ (asym _ _ hl) this
        · rw [if_neg pi]
          exact h1 k k0 kn kj
  · rw [swp_length] at kn
    rw [swp_at z hil hj, swp_at z hil hj, if_neg (show (i - 1) / 2 ≠ j by omega), if_neg (show (i - 1) / 2 ≠ i by omega)]
    have hpi := h1 i i0 hil (by omega)
    by_cases kj : k = j
    · rw [if_pos kj]; exact hpi
    · rw [if_neg kj, if_neg (by omega)]
      have := h1 k k0 kn kj
      rw [kp] at this
      exact trans _ _ _ hpi this
theorem up_end {H : List α} {j : Nat} (h : UpOk z lt H j) (hl : j = 0 ∨ lt (H.getD j z) (H.getD ((j - 1) / 2) z) = false) : Heap z lt H := by
  intro k k0 kn
  by_cases kj : k = j
  · subst kj
    rcases hl with hl | hl
    · omega
    · exact hl
  · exact h.1 k k0 kn kj
def lowC (z : α) (lt : α → α → Bool) (H : List α) (n i : Nat) : Nat := if 2 * i + 2 < n ∧ lt (H.getD (2 * i + 2) z) (H.getD (2 * i + 1) z) = true then 2 * i + 2 else 2 * i + 1
theorem lowC_is {H : List α} {n i : Nat} (h : 2 * i + 1 < n) : lowC z lt H n i < n ∧ (lowC z lt H n i - 1) / 2 = i ∧ i < lowC z lt H n i := by
  unfold lowC
  split <;> (refine ⟨?_, ?_, ?_⟩ <;> omega)
include asym in
theorem lowC_low {H : List α} {n i : Nat} (irr : ∀ a, lt a a = false) {k : Nat} (k0 : 0 < k) (kn : k < n) (kp : (k - 1) / 2 = i) : lt (H.getD k z) (H.getD (lowC z lt H n i) z) = false := by
  unfold lowC
  have hk : k = 2 * i + 1 ∨ k = 2 * i + 2 := by omega
  split
  · rename_i hc
    rcases hk with rfl | rfl
    · exact asym _ _ hc.2
    · exact irr _
  · rename_i hc
    rcases hk with rfl | rfl
    · exact irr _
    · cases hh : lt (H.getD (2 * i + 2) z) (H.getD (2 * i + 1) z) with
      | false => rfl
      | true => exact absurd ⟨kn, hh⟩ hc
include asym in
theorem down_step (irr : ∀ a, lt a a = false) {H : List α} {n i : Nat} (hn : n ≤ H.length) (hi : 2 * i + 1 < n) (h : DownOk z lt H n i) (hl : lt (H.getD (lowC z lt H n i) z) (H.getD i z) = true) : DownOk z lt (swp z H i (lowC z lt H n i)) n (lowC z lt H n i) := by
  obtain ⟨h1, h2⟩ := h
  obtain ⟨c1, c2, c3⟩ := lowC_is (z := z) (lt := lt) (H := H) hi
  have hlow := fun {k : Nat} (k0 : 0 < k) (kn : k < n) (kp : (k - 1) / 2 = i) => lowC_low (z := z) asym (H := H) (n := n) irr k0 kn kp
  obtain ⟨j, hj⟩ : ∃ j, lowC z lt H n i = j := ⟨_, rfl⟩
  rw [hj] at c1 c2 c3 hl hlow ⊢
  have hil : i < H.length := by omega
  have hjl : j < H.length := by omega
  refine ⟨fun k k0 kn kp => ?_, fun k k0 kn kp j0 => ?_⟩
  · rw [swp_at z hil hjl, swp_at z hil hjl, if_neg kp]
    by_cases pi : (k - 1) / 2 = i
    · rw [if_pos pi]
      by_cases kj : k = j
      · rw [if_pos kj]; exact asym _ _ hl
      · rw [if_neg kj, if_neg (by omega)]
        exact hlow k0 kn pi
    · rw [if_neg pi]
      have kj : k ≠ j := fun e => pi (by rw [e]; exact c2)
      rw [if_neg kj]
      by_cases ki : k = i
      · rw [if_pos ki]
        subst ki
        exact h2 j (by omega) c1 c2 k0
      · rw [if_neg ki]
        exact h1 k k0 kn pi
  · rw [swp_at z hil hjl, swp_at z hil hjl, c2, if_neg (show k ≠ j by omega), if_neg (show k ≠ i by omega), if_neg (show i ≠ j by omega), if_pos rfl]
    have := h1 k k0 kn (by omega)
    rw [kp] at this
    exact this
include asym trans in
theorem down_end (irr : ∀ a, lt a a = false) {H : List α} {n i : Nat} (h : DownOk z lt H n i) (hl : n ≤ 2 * i + 1 ∨ lt (H.getD (lowC z lt H n i) z) (H.getD i z) = false) : HeapTo z lt H n := by
  intro k k0 kn
  by_cases kp : (k - 1) / 2 = i
  · rcases hl with hl | hl
    · omega
    · rw [kp]
      exact trans _ _ _ hl (lowC_low asym irr k0 kn kp)
  · exact h.1 k k0 kn kp
include trans in
theorem heap_first (irr : ∀ a, lt a a = false) {H : List α} (h : Heap z lt H) : ∀ (m k : Nat), k ≤ m → k < H.length → lt (H.getD k z) (H.getD 0 z) = false
  | 0, k, hm, _ => by
    have : k = 0 := by omega
    subst this
    exact irr _
  | m + 1, k, hm, hk => by
    by_cases k0 : k = 0
    · subst k0; exact irr _
    · have h1 := heap_first irr h m ((k - 1) / 2) (by omega) (by omega)
      exact trans _ _ _ h1 (h k (by omega) hk)
include trans in
theorem heap_least (irr : ∀ a, lt a a = false) {H : List α} (h : Heap z lt H) {x : α} (hx : x ∈ H) : lt x (H.getD 0 z) = false := by
  obtain ⟨k, hk, rfl⟩ := List.mem_iff_getElem.1 hx
  have := heap_first trans irr h k k (Nat.le_refl _) hk
  rwa [List.getD_eq_getElem?_getD, List.getElem?_eq_getElem hk] at this
theorem heap_put {H : List α} (h : Heap z lt H) (x : α) : UpOk z lt (H ++ [x]) H.length := by
  have e : ∀ k, k < H.length → (H ++ [x]).getD k z = H.getD k z := fun k hk => by rw [List.getD_eq_getElem?_getD, List.getElem?_append_left hk, List.getD_eq_getElem?_getD]
  refine ⟨fun k k0 kn kj => ?_, fun k k0 kn kp j0 => ?_⟩
  · rw [List.length_append, List.length_singleton] at kn
    rw [e k (by omega), e _ (by omega)]
    exact h k k0 (by omega)
  · rw [List.length_append, List.length_singleton] at kn
    omega
theorem heap_root {H : List α} (h : Heap z lt H) (x : α) (hn : 0 < H.length) : DownOk z lt (H.set 0 x) H.length 0 := by
  refine ⟨fun k k0 kn kp => ?_, fun k k0 kn kp j0 => by omega⟩
  rw [getD_set z _ _ _ _ hn, getD_set z _ _ _ _ hn, if_neg (by omega), if_neg kp]
  exact h k k0 kn
theorem heap_swap {H : List α} (h : Heap z lt H) (hn : 0 < H.length) : DownOk z lt (swp z H 0 (H.length - 1)) (H.length - 1) 0 := by
  refine ⟨fun k k0 kn kp => ?_, fun k k0 kn kp j0 => by omega⟩
  rw [swp_at z hn (by omega), swp_at z hn (by omega), if_neg (by omega), if_neg (by omega), if_neg (by omega), if_neg kp]
  exact h k k0 (by omega)
theorem heap_nil : Heap z lt ([] : List α) := fun k _ hk => by simp at hk
end Heap
structure NodV where
  ent : EntV
  nb : Nat
  bb : Nat
  ht : Nat
def zN : NodV := ⟨zeroE, 0, 0, 0⟩
def ptN (n : NodV) : Value := .pointer (some ⟨n.nb, 0, none⟩)
def ptO : Option NodV → Value
  | none => .pointer none
  | some n => ptN n
def nxN (h : Nat) (l : List NodV) : Option NodV := l.find? fun n => decide (h < n.ht)
theorem nxN_app (h : Nat) (a b : List NodV) : nxN h (a ++ b) = (nxN h a).or (nxN h b) := by unfold nxN; rw [List.find?_append]
theorem nxN_none {h : Nat} {l : List NodV} (hl : ∀ n ∈ l, n.ht ≤ h) : nxN h l = none := by
  unfold nxN
  rw [List.find?_eq_none]
  intro n hn
  have := hl n hn
  simp only [decide_eq_true_eq]; omega
theorem nxN_some {h : Nat} {l : List NodV} {n : NodV} (hn : n ∈ l) (hh : h < n.ht) : ∃ m, nxN h l = some m := by
  cases e : nxN h l with
  | some m => exact ⟨m, rfl⟩
  | none =>
    unfold nxN at e
    rw [List.find?_eq_none] at e
    have := e n hn
    simp only [decide_eq_true_eq] at this
    omega
theorem nxN_cons (h : Nat) (n : NodV) (l : List NodV) : nxN h (n :: l) = if h < n.ht then some n else nxN h l := by
  unfold nxN
  rw [List.find?_cons]
  by_cases hh : h < n.ht
  · simp [hh]
  · simp [hh]
theorem nodD {l : List NodV} {p : Nat} (h : p < l.length) : l.getD p zN = l[p] := by rw [List.getD_eq_getElem?_getD, List.getElem?_eq_getElem h]; rfl
theorem nx_cases (h : Nat) (al : List NodV) (p : Nat) : (nxN h (al.drop (p + 1)) = none ∧ ∀ q, p < q → q < al.length → (al.getD q zN).ht ≤ h) ∨ ∃ q, p < q ∧ q < al.length ∧ h < (al.getD q zN).ht ∧ nxN h (al.drop (p + 1)) = some (al.getD q zN) ∧ ∀ r, p < r → r < q → (al.getD r zN).ht ≤ h := by
  generalize hk : al.length - p = k
  induction k generalizing p with
  | zero =>
    left
    rw [List.drop_eq_nil_of_le (by omega)]
    exact ⟨rfl, fun q h1 h2 => by omega⟩
  | succ k ih =>
    rcases Nat.lt_or_ge (p + 1) al.length with hp | hp
    · have e : al.drop (p + 1) = al.getD (p + 1) zN :: al.drop (p + 1 + 1) := by rw [nodD hp]; exact List.drop_eq_getElem_cons hp
      rw [e, nxN_cons]
      by_cases hh : h < (al.getD (p + 1) zN).ht
      · right
        rw [if_pos hh]
        exact ⟨p + 1, by omega, hp, hh, rfl, fun r h1 h2 => by omega⟩
      · rw [if_neg hh]
        rcases ih (p + 1) (by omega) with ⟨h1, h2⟩ | ⟨q, h1, h2, h3, h4, h5⟩
        · refine .inl ⟨h1, fun q hq hq2 => ?_⟩
          rcases Nat.lt_or_ge (p + 1) q with hc | hc
          · exact h2 q hc hq2
          · obtain rfl : q = p + 1 := by omega
            omega
        · refine .inr ⟨q, by omega, h2, h3, h4, fun r hr hr2 => ?_⟩
          rcases Nat.lt_or_ge (p + 1) r with hc | hc
          · exact h5 r hc hr2
          · obtain rfl : r = p + 1 := by omega
            omega
    · left
      rw [List.drop_eq_nil_of_le hp]
      exact ⟨rfl, fun q h1 h2 => by omega⟩
structure AheadN (al : List NodV) (x : EntV) (h p : Nat) : Prop where
  lt : p < al.length
  high : h < (al.getD p zN).ht
  less : ∀ q, 0 < q → q ≤ p → lessE (al.getD q zN).ent x = true
  rest : ∀ q, p < q → q < al.length → h < (al.getD q zN).ht → lessE (al.getD q zN).ent x = false
def eosN (al : List NodV) : List EntV := (al.drop 1).map NodV.ent
theorem eosN_len (al : List NodV) : (eosN al).length = al.length - 1 := by simp [eosN]
theorem eosN_at {al : List NodV} {p : Nat} (h : p + 1 < al.length) : (eosN al).getD p zeroE = (al.getD (p + 1) zN).ent := by
  unfold eosN
  rw [nodD h, List.getD_eq_getElem?_getD, List.getElem?_map, List.getElem?_drop, show 1 + p = p + 1 by omega, List.getElem?_eq_getElem h]
  rfl
theorem ahead_place {al : List NodV} {x : EntV} {p : Nat} (ha : AheadN al x 0 p) (hh : ∀ q, q < al.length → 1 ≤ (al.getD q zN).ht) : placeE (eosN al) x = p := by
  have hlt := ha.lt
  refine place_next (fun y hy => ?_) (by rw [eosN_len]; omega) ?_
  · obtain ⟨j, hj, rfl⟩ := List.getElem_of_mem hy
    rw [List.length_take, eosN_len] at hj
    rw [List.getElem_take]
    have := eosN_at (al := al) (p := j) (by omega)
    rw [List.getD_eq_getElem?_getD, List.getElem?_eq_getElem (by rw [eosN_len]; omega)] at this
    simp only [Option.getD_some] at this
    rw [this]
    exact ha.less (j + 1) (by omega) (by omega)
  · rcases Nat.lt_or_ge (p + 1) al.length with hp | hp
    · right
      rw [eosN_at hp]
      exact ha.rest (p + 1) (by omega) hp (by have := hh (p + 1) hp; omega)
    · left; rw [eosN_len]; omega
theorem ahead_le {al : List NodV} {x : EntV} {h p p0 : Nat} (ha : AheadN al x h p) (h0 : AheadN al x 0 p0) : p ≤ p0 := by
  rcases Nat.lt_or_ge p0 p with hc | hc
  · have h1 := ha.less p (by omega) (Nat.le_refl _)
    have h2 := h0.rest p hc ha.lt (by have := ha.high; omega)
    rw [h1] at h2; cases h2
  · exact hc
theorem ahead_low {al : List NodV} {x : EntV} {h p p0 : Nat} (ha : AheadN al x h p) (h0 : AheadN al x 0 p0) {q : Nat} (hq : p < q) (hq2 : q ≤ p0) : (al.getD q zN).ht ≤ h := by
  rcases Nat.lt_or_ge h (al.getD q zN).ht with hc | hc
  · have h1 := h0.less q (by omega) hq2
    have h2 := ha.rest q hq (by have := h0.lt; omega) hc
    rw [h1] at h2; cases h2
  · exact hc
def insN (al : List NodV) (p0 : Nat) (m : NodV) : List NodV := al.take (p0 + 1) ++ m :: al.drop (p0 + 1)
theorem insN_len (al : List NodV) (p0 : Nat) (m : NodV) (h : p0 < al.length) : (insN al p0 m).length = al.length + 1 := by
  unfold insN
  simp only [List.length_append, List.length_cons, List.length_take, List.length_drop]
  omega
theorem insN_lo {al : List NodV} {p0 : Nat} {m : NodV} (h : p0 < al.length) {p : Nat} (hp : p ≤ p0) : (insN al p0 m).getD p zN = al.getD p zN ∧ (insN al p0 m).drop (p + 1) = (al.take (p0 + 1)).drop (p + 1) ++ m :: al.drop (p0 + 1) ∧ al.drop (p + 1) = (al.take (p0 + 1)).drop (p + 1) ++ al.drop (p0 + 1) := by
  have hl : (al.take (p0 + 1)).length = p0 + 1 := by rw [List.length_take]; omega
  refine ⟨?_, ?_, ?_⟩
  · unfold insN
    rw [List.getD_eq_getElem?_getD, List.getElem?_append_left (by omega), List.getElem?_take_of_lt (by omega), ← List.getD_eq_getElem?_getD]
  · unfold insN
    rw [List.drop_append_of_le_length (by omega)]
  · rw [← List.drop_append_of_le_length (by omega), List.take_append_drop]
theorem insN_at {al : List NodV} {p0 : Nat} {m : NodV} (h : p0 < al.length) : (insN al p0 m).getD (p0 + 1) zN = m ∧ (insN al p0 m).drop (p0 + 1 + 1) = al.drop (p0 + 1) := by
  have hl : (al.take (p0 + 1)).length = p0 + 1 := by rw [List.length_take]; omega
  unfold insN
  constructor
  · rw [List.getD_eq_getElem?_getD, List.getElem?_append_right (by omega), hl]
    simp
  · rw [List.drop_append, hl, List.drop_eq_nil_of_le (by omega), List.nil_append, show p0 + 1 + 1 - (p0 + 1) = 1 by omega]
    rfl
theorem insN_hi {al : List NodV} {p0 : Nat} {m : NodV} (h : p0 < al.length) {p : Nat} (hp : p0 < p) : (insN al p0 m).getD (p + 1) zN = al.getD p zN ∧ (insN al p0 m).drop (p + 1 + 1) = al.drop (p + 1) := by
  have hl : (al.take (p0 + 1)).length = p0 + 1 := by rw [List.length_take]; omega
  unfold insN
  constructor
  · rw [List.getD_eq_getElem?_getD, List.getElem?_append_right (by omega), hl, show p + 1 - (p0 + 1) = (p - (p0 + 1)) + 1 by omega, List.getElem?_cons_succ, List.getElem?_drop, show p0 + 1 + (p - (p0 + 1)) = p by omega, ← List.getD_eq_getElem?_getD]
  · rw [List.drop_append, hl, List.drop_eq_nil_of_le (by omega), List.nil_append, show p + 1 + 1 - (p0 + 1) = (p - p0) + 1 by omega, List.drop_succ_cons, List.drop_drop, show p0 + 1 + (p - p0) = p + 1 by omega]
theorem nx_ins_lo {al : List NodV} {x : EntV} {h p p0 f : Nat} {m : NodV} (ha : AheadN al x h f) (h0 : AheadN al x 0 p0) (hp : p ≤ p0) (hh : h < (al.getD p zN).ht) :
    nxN h ((insN al p0 m).drop (p + 1)) = if h < m.ht ∧ p = f then some m else nxN h (al.drop (p + 1)) := by
  obtain ⟨_, e1, e2⟩ := insN_lo (m := m) h0.lt hp
  rw [e1, e2, nxN_app, nxN_app, nxN_cons]
  have hl : (al.take (p0 + 1)).length = p0 + 1 := by have := h0.lt; rw [List.length_take]; omega
  have hget : ∀ q, q ≤ p0 → (al.take (p0 + 1)).getD q zN = al.getD q zN := fun q hq => by
    rw [List.getD_eq_getElem?_getD, List.getElem?_take_of_lt (by omega), ← List.getD_eq_getElem?_getD]
  by_cases hpf : p = f
  · subst hpf
    have hn : nxN h ((al.take (p0 + 1)).drop (p + 1)) = none := nxN_none fun n hn => by
      obtain ⟨j, hj, rfl⟩ := List.getElem_of_mem hn
      rw [List.length_drop, hl] at hj
      rw [List.getElem_drop]
      have h3 := hget (p + 1 + j) (by omega)
      rw [nodD (by omega)] at h3
      rw [h3]
      exact ahead_low ha h0 (by omega) (by omega)
    rw [hn]
    simp only [Option.none_or, and_true]
  · simp only [hpf, and_false, if_false]
    have hlt : p < f := by
      rcases Nat.lt_or_ge p f with hc | hc
      · exact hc
      · have := ahead_low ha h0 (q := p) (by omega) hp
        omega
    have hf := ahead_le ha h0
    obtain ⟨z, hz⟩ := nxN_some (h := h) (l := (al.take (p0 + 1)).drop (p + 1)) (n := al.getD f zN) (by
      rw [← hget f hf, nodD (by omega)]
      refine List.mem_iff_getElem.2 ⟨f - (p + 1), by rw [List.length_drop]; omega, ?_⟩
      rw [List.getElem_drop]
      congr 1
      omega) ha.high
    rw [hz]
    simp only [Option.some_or]
theorem nx_ins_at {al : List NodV} {x : EntV} {h p0 f : Nat} {m : NodV} (ha : AheadN al x h f) (h0 : AheadN al x 0 p0) :
    nxN h ((insN al p0 m).drop (p0 + 1 + 1)) = nxN h (al.drop (f + 1)) := by
  have hf := ahead_le ha h0
  rw [(insN_at h0.lt).2, (insN_lo (m := m) h0.lt hf).2.2, nxN_app]
  have hl : (al.take (p0 + 1)).length = p0 + 1 := by have := h0.lt; rw [List.length_take]; omega
  have hn : nxN h ((al.take (p0 + 1)).drop (f + 1)) = none := nxN_none fun n hn => by
    obtain ⟨j, hj, rfl⟩ := List.getElem_of_mem hn
    rw [List.length_drop, hl] at hj
    rw [List.getElem_drop]
    have h3 : (al.take (p0 + 1)).getD (f + 1 + j) zN = al.getD (f + 1 + j) zN := by
      rw [List.getD_eq_getElem?_getD, List.getElem?_take_of_lt (by omega), ← List.getD_eq_getElem?_getD]
    rw [nodD (by omega)] at h3
    rw [h3]
    exact ahead_low ha h0 (by omega) (by omega)
  rw [hn, Option.none_or]
theorem ents_ins {al : List NodV} {x : EntV} {p0 : Nat} {m : NodV} (hm : m.ent = x) (h0 : AheadN al x 0 p0) (hh : ∀ q, q < al.length → 1 ≤ (al.getD q zN).ht) : eosN (insN al p0 m) = insE (eosN al) x := by
  have hp := ahead_place h0 hh
  have hlt := h0.lt
  unfold insE
  rw [hp]
  unfold eosN insN
  rw [List.drop_append, List.length_take, show 1 - min (p0 + 1) al.length = 0 by omega, List.drop_zero, List.map_append, List.map_cons, hm, List.drop_take, List.map_take, ← List.map_drop, List.drop_drop, show 1 + p0 = p0 + 1 by omega, show p0 + 1 - 1 = p0 by omega]
theorem next0 {al : List NodV} {p : Nat} (hh : ∀ q, q < al.length → 1 ≤ (al.getD q zN).ht) : nxN 0 (al.drop p) = al[p]? := by
  rcases Nat.lt_or_ge p al.length with hp | hp
  · rw [List.drop_eq_getElem_cons hp, nxN_cons, List.getElem?_eq_getElem hp, if_pos]
    have := hh p hp
    rw [nodD hp] at this
    omega
  · rw [List.drop_eq_nil_of_le hp, List.getElem?_eq_none hp]
    rfl
def Laid (w : World) : Prop := ∀ j, j < 64 → ∃ k : Nat, k ≤ 63 ∧ w.cell? ⟨3, j, none⟩ = some (.int .u8 (k : Int))
theorem Laid.below {B : Nat} {w w' : World} (h : Laid w) (hb : Below B w w') (hB : 3 + 1 ≤ B) : Laid w' := fun j hj => by
  obtain ⟨k, h1, h2⟩ := h j hj
  exact ⟨k, h1, (hb.cell (by show 3 < B; omega)).trans h2⟩
theorem Laid.size {w : World} (h : Laid w) : 3 + 1 ≤ w.heap.size := by
  obtain ⟨k, _, h2⟩ := h 0 (by omega)
  have := World.block_lt_of_cell? _ _ h2
  exact this
theorem wrap_u64z (n : Int) : IntKind.u64.wrap n = n % 18446744073709551616 := by simp [IntKind.wrap, IntKind.signed, IntKind.bits]
set_option maxHeartbeats 1000000 in
theorem tz64_any (x : Nat) (w : World) (hL : Laid w) (hx : ((x : Int) == 0) = false) :
    Calls Tryz.prog 214 #[.int .u64 (x : Int)] w fun e w' => (∃ k : Nat, k ≤ 63 ∧ e = .returned (.int .i64 (k : Int))) ∧ w' = w := by
  obtain ⟨idx, hi, key⟩ : ∃ idx : Nat, idx < 64 ∧ IntKind.u64.wrap (bits BinOp.and IntKind.u64 (x : Int) (IntKind.u64.wrap (-(x : Int))) * 285870213051353865) / 288230376151711744 = (idx : Int) := by
    rw [wrap_u64z]
    refine ⟨((bits BinOp.and IntKind.u64 (x : Int) (IntKind.u64.wrap (-(x : Int))) * 285870213051353865) % 18446744073709551616 / 288230376151711744).toNat, ?_, ?_⟩
    · omega
    · omega
  obtain ⟨k, hk, hcell⟩ := hL idx hi
  have HK : Hid (k ≤ 63) := hk
  have hiI : (idx : Int) < 64 := by omega
  have hkI : (k : Int) ≤ 63 := by omega
  clear hk hL hi
  go_enter Tryz.func214, Tryz.ntmps214
  go_wp2_with (simp only [key])
  go_ret
  exact ⟨⟨k, HK.out, rfl⟩, rfl⟩
theorem tz_any (x : Nat) (w : World) (hL : Laid w) (hx : ((x : Int) == 0) = false) :
    Calls Tryz.prog 161 #[.int .u64 (x : Int)] w fun e w' => (∃ k : Nat, k ≤ 63 ∧ e = .returned (.int .i64 (k : Int))) ∧ w' = w := by
  have H := tz64_any x w hL hx
  go_enter Tryz.func161, Tryz.ntmps161
  go_wp2_with fail
  refine H.mono ?_
  rintro e w' ⟨⟨k, hk, rfl⟩, rfl⟩
  have HK : Hid (k ≤ 63) := hk
  clear hk
  go_wp2
  go_ret
  exact ⟨⟨k, HK.out, rfl⟩, rfl⟩
theorem height_any (n : Nat) (w : World) (hL : Laid w) (h1 : 1 ≤ n) (h2 : n ≤ 5000) :
    Calls Tryz.prog 209 #[.int .i64 (n : Int)] w fun e w' => (∃ k : Nat, 1 ≤ k ∧ k ≤ 12 ∧ e = .returned (.int .i64 (k : Int))) ∧ w' = w := by
  have H := tz_any n w hL (by simp; omega)
  have hw : IntKind.u64.wrap (n : Int) = (n : Int) := by rw [wrap_u64z]; omega
  clear h1 h2 hL
  go_enter Tryz.func209, Tryz.ntmps209
  go_wp2_with fail
  refine H.mono ?_
  rintro e w' ⟨⟨k, hk, rfl⟩, rfl⟩
  have hkI : (k : Int) ≤ 63 := by omega
  have HK : Hid (k ≤ 63) := hk
  clear hk
  go_wp2
  · go_ret
    exact ⟨⟨1 + k, by omega, by omega, by simp only [Int.natCast_add]; rfl⟩, rfl⟩
  · go_ret
    exact ⟨⟨12, by omega, by omega, rfl⟩, rfl⟩
def sameE (a b : EntV) : Bool := decide (a.key = b.key) && decide (a.seq = b.seq)
theorem same_any (a b : EntV) (w : World) (r : Bool) (hr : sameE a b = r) : Calls Tryz.prog 208 #[entV a, entV b] w fun e w' => e = .returned (.bool r) ∧ Below w.heap.size w w' := by
  obtain ⟨ak, av, az, ag⟩ := a
  obtain ⟨bk, bv, bz, bg⟩ := b
  unfold sameE at hr
  rw [entV_def, entV_def]
  rw [← eq_str] at hr
  simp only at hr
  cases h1 : (ak.toList == bk.toList) with
  | false =>
    have HR : Hid (r = false) := by show _ = _; rw [← hr, h1]; rfl
    clear hr
    go_enter Tryz.func208, Tryz.ntmps208
    go_wp2
    go_ret
    exact ⟨by rw [HR.out]; rfl, (below_alloc w _).alloc (by simp) _⟩
  | true =>
    have HR : Hid (r = decide (az = bz)) := by show _ = _; rw [← hr, h1]; rfl
    clear hr
    go_enter Tryz.func208, Tryz.ntmps208
    go_wp2
    go_ret
    exact ⟨by rw [HR.out]; rfl, (below_alloc w _).alloc (by simp) _⟩
theorem checkE_one (x : EntV) : checkE [x] = oneE x := by
  unfold checkE
  rw [if_neg (by simp)]
  by_cases h : oneE x = 0
  · rw [h]; simp [checkF, h]
  · simp [checkF, h]
theorem four_cells {w : World} {g : Nat} {a b c d : Value} {t : TypeId} {fr : Nat × Nat} (h : w.heap[g]? = some (.cells #[a, b, c, d] t fr)) : w.cell? ⟨g, 0, none⟩ = some a ∧ w.cell? ⟨g, 1, none⟩ = some b ∧ w.cell? ⟨g, 2, none⟩ = some c ∧ w.cell? ⟨g, 3, none⟩ = some d :=
  ⟨Lib.cell_of_heap h 0, Lib.cell_of_heap h 1, Lib.cell_of_heap h 2, Lib.cell_of_heap h 3⟩
theorem ents_box {w : World} {g : Nat} {x : EntV} {t : TypeId} {fr : Nat × Nat} (h : w.heap[g]? = some (.cells #[.string x.key, .string x.val, .int .i64 x.seq, .bool x.gone] t fr)) : EntsL w (some ⟨g, 0, none⟩) 1 [x] := by
  refine ⟨rfl, fun _ => ⟨g, 0, rfl, fun i hi => ?_⟩⟩
  obtain rfl : i = 0 := by simpa using hi
  exact four_cells h
theorem heap_two (w : World) (o o' : Obj) : ((w.alloc o).alloc o').heap[w.heap.size + 1]? = some o' := by
  have h := heap_alloc_new (w.alloc o) o'
  rw [show (w.alloc o).heap.size = w.heap.size + 1 by simp] at h
  exact h
set_option maxHeartbeats 1000000 in
theorem checkOne_any (x : EntV) (w : World) (E : Nat) (hE : oneE x = E) : Calls Tryz.prog 149 #[entV x] w fun e w' => e = .returned (.int .i64 (E : Int)) ∧ Below w.heap.size w w' := by
  have hC := checkE_one x
  rw [hE] at hC
  obtain ⟨ke, ve, se, ge⟩ := x
  rw [entV_def]
  have HC := fun w' h => Check_any (some ⟨w.heap.size + 1, 0, none⟩) 1 1 [⟨ke, ve, se, ge⟩] w' h E hC
  clear hE hC
  go_enter Tryz.func149, Tryz.ntmps149
  go_wp2_with fail
  refine (HC _ (ents_box (heap_two _ _ _))).mono ?_
  rintro e w2 ⟨rfl, hb2⟩
  go_wp2
  go_ret
  exact ⟨rfl, below_bt (below_bt (below_alloc _ _) (below_alloc _ _)) hb2⟩
theorem made_yes (r k : Nat) (w : World) (h : w.cell? ⟨r, 0, none⟩ = some (.pointer (some ⟨k, 0, none⟩))) : Calls Tryz.prog 148 #[.pointer (some ⟨r, 0, none⟩)] w fun e w' => e = .returned (.bool true) ∧ w' = w := by
  go_enter Tryz.func148, Tryz.ntmps148
  go_wp2
  go_ret
  exact ⟨rfl, rfl⟩
def zP (n : Nat) : Array Value := madeCells #[.pointer none] n
theorem zP_size (n : Nat) : (zP n).size = n := size_madeCells _ _
theorem zP_at {n h : Nat} (hh : h < n) : (zP n)[h]? = some (.pointer none) := by
  unfold zP madeCells
  simp [hh, Nat.mod_one]
theorem info_nodep : (Tryz.prog.info? 324).map (fun i => (i.zero, i.size, i.bytes)) = some (some (.pointer none), 1, 8) := by kernel_rfl
theorem run_makeP (n : Nat) (hn : n ≤ 1000) (w : World) : (Instr.makeSlice 325 (.int .i64 (n : Int)) (.int .i64 (n : Int))).run Tryz.prog w = .ok (.slice (some ⟨w.heap.size, 0, none⟩) n n) (w.alloc (.cells (zP n) 324)) :=
  run_make_row' (P := Tryz.prog) 325 324 (.pointer none) 8 Tryz.underlying325 info_nodep rfl .i64 .i64 n (by omega) (by omega) w
def nodC (n : NodV) : Array Value := #[.string n.ent.key, .string n.ent.val, .int .i64 n.ent.seq, .bool n.ent.gone, .slice (some ⟨n.bb, 0, none⟩) n.ht n.ht]
structure Skip (w : World) (Z : Nat → Prop) (lk : Nat) (al : List NodV) : Prop where
  pos : 0 < al.length
  head : (al.getD 0 zN).ht = 12
  lkb : Z lk
  links : w.heap[lk]? = some (.cells #[ptN (al.getD 0 zN), .int .i64 ((al.length - 1 : Nat) : Int)] 329 (0, 0))
  nod : ∀ p, p < al.length → Z (al.getD p zN).nb ∧ w.heap[(al.getD p zN).nb]? = some (.cells (nodC (al.getD p zN)) 327 (0, 0))
  nxt : ∀ p, p < al.length → Z (al.getD p zN).bb ∧ ∃ cs, w.heap[(al.getD p zN).bb]? = some (.cells cs 324 (0, 0)) ∧ cs.size = (al.getD p zN).ht ∧ ∀ h, h < (al.getD p zN).ht → cs[h]? = some (ptO (nxN h (al.drop (p + 1))))
  high : ∀ p, p < al.length → 1 ≤ (al.getD p zN).ht ∧ (al.getD p zN).ht ≤ 12
  apart : ∀ p q, p < al.length → q < al.length → (al.getD p zN).bb = (al.getD q zN).bb → p = q
  apartn : ∀ p q, p < al.length → q < al.length → (al.getD p zN).nb = (al.getD q zN).nb → p = q
theorem block_below' {w w' : World} {b : Nat} {o : Obj} (h : w.heap[b]? = some o) (hb : Below w.heap.size w w') : w'.heap[b]? = some o := (hb.block _ (lt_heap h)).trans h
theorem Skip.keep {w w' : World} {Z : Nat → Prop} {lk : Nat} {al : List NodV} (h : Skip w Z lk al) (hk : ∀ b o, Z b → w.heap[b]? = some o → w'.heap[b]? = some o) : Skip w' Z lk al :=
  ⟨h.pos, h.head, h.lkb, hk _ _ h.lkb h.links, fun p hp => ⟨(h.nod p hp).1, hk _ _ (h.nod p hp).1 (h.nod p hp).2⟩, fun p hp => by
    obtain ⟨h1, cs, h2, h3⟩ := h.nxt p hp
    exact ⟨h1, cs, hk _ _ h1 h2, h3⟩, h.high, h.apart, h.apartn⟩
theorem Skip.below {w w' : World} {Z : Nat → Prop} {lk : Nat} {al : List NodV} (h : Skip w Z lk al) (hb : Below w.heap.size w w') : Skip w' Z lk al := h.keep fun _ _ _ e => block_below' e hb
theorem Skip.cells {w : World} {Z : Nat → Prop} {lk : Nat} {al : List NodV} (h : Skip w Z lk al) {p : Nat} (hp : p < al.length) {n : NodV} (hn : al.getD p zN = n) :
    w.cell? ⟨n.nb, 0, none⟩ = some (.string n.ent.key) ∧ w.cell? ⟨n.nb, 1, none⟩ = some (.string n.ent.val) ∧ w.cell? ⟨n.nb, 2, none⟩ = some (.int .i64 n.ent.seq) ∧ w.cell? ⟨n.nb, 3, none⟩ = some (.bool n.ent.gone) ∧ w.cell? ⟨n.nb, 4, none⟩ = some (.slice (some ⟨n.bb, 0, none⟩) n.ht n.ht) := by
  have h1 := (h.nod p hp).2
  rw [hn] at h1
  exact ⟨Lib.cell_of_heap h1 0, Lib.cell_of_heap h1 1, Lib.cell_of_heap h1 2, Lib.cell_of_heap h1 3, Lib.cell_of_heap h1 4⟩
theorem Skip.next {w : World} {Z : Nat → Prop} {lk : Nat} {al : List NodV} (h : Skip w Z lk al) {p k : Nat} (hp : p < al.length) {n : NodV} (hn : al.getD p zN = n) (hk : k < n.ht) : w.cell? ⟨n.bb, k, none⟩ = some (ptO (nxN k (al.drop (p + 1)))) := by
  obtain ⟨_, cs, h1, h2, h3⟩ := h.nxt p hp
  rw [hn] at h1 h3
  rw [cell_of_row w n.bb k cs _ _ h1]
  exact h3 k hk
def blkV : Value → Nat
  | .pointer (some a) => a.block
  | _ => 0
def posN (al : List NodV) (v : Value) : Nat := al.findIdx fun n => n.nb == blkV v
theorem Skip.posN {w : World} {Z : Nat → Prop} {lk : Nat} {al : List NodV} (h : Skip w Z lk al) {p : Nat} (hp : p < al.length) : posN al (ptN (al.getD p zN)) = p := by
  unfold Go.Proofs.YtghcmllmbpoidaaGreatDoor.Mg.posN
  rw [List.findIdx_eq hp]
  refine ⟨?_, fun j hj => ?_⟩
  · rw [← nodD hp]; simp [blkV, ptN]
  · rw [← nodD (by omega : j < al.length)]
    simp only [blkV, ptN, beq_eq_false_iff_ne]
    intro e
    have := h.apartn j p (by omega) hp e
    omega
structure Kept (Z : Nat → Prop) (w w' : World) : Prop where
  os : w'.os = w.os
  tape : w'.tape = w.tape
  output : w'.output = w.output
  size : w.heap.size ≤ w'.heap.size
  blk : ∀ k, k < w.heap.size → ¬ Z k → w'.heap[k]? = w.heap[k]?
  typ : ∀ (b : Nat) (cs : Array Value) (t : TypeId) (fr : Nat × Nat), w.heap[b]? = some (.cells cs t fr) → t ≠ 324 → t ≠ 329 → w'.heap[b]? = some (.cells cs t fr)
theorem Kept.trans {Z : Nat → Prop} {a b c : World} (h : Kept Z a b) (k : Kept Z b c) : Kept Z a c := ⟨k.os.trans h.os, k.tape.trans h.tape, k.output.trans h.output, Nat.le_trans h.size k.size, fun i hi hz => (k.blk i (Nat.lt_of_lt_of_le hi h.size) hz).trans (h.blk i hi hz), fun _ _ _ _ e h1 h2 => k.typ _ _ _ _ (h.typ _ _ _ _ e h1 h2) h1 h2⟩
theorem kept_below {Z : Nat → Prop} {w w' : World} (h : Below w.heap.size w w') : Kept Z w w' := ⟨h.os, h.tape, h.output, h.size, fun k hk _ => h.block k hk, fun _ _ _ _ e _ _ => block_below' e h⟩
theorem Kept.bel {Z : Nat → Prop} {B : Nat} {w w' : World} (h : Kept Z w w') (hB : ∀ k, k < B → ¬ Z k) (hw : B ≤ w.heap.size) : Below B w w' := ⟨h.os, h.tape, h.output, h.size, fun k hk => h.blk k (Nat.lt_of_lt_of_le hk hw) (hB k hk)⟩
theorem kept_set {Z : Nat → Prop} {w : World} {b o : Nat} {cs : Array Value} {t : TypeId} {fr : Nat × Nat} (h : w.heap[b]? = some (.cells cs t fr)) (ht : t = 324 ∨ t = 329) (hb : Z b) (v : Value) : Kept Z w (w.setCell ⟨b, o, none⟩ v) := by
  have h0 : Below b w (w.setCell ⟨b, o, none⟩ v) := (Below.refl b w).setCell (p := ⟨b, o, none⟩) (Nat.le_refl b) v
  refine ⟨h0.os, h0.tape, h0.output, h0.size, fun k _ hz => heap_setCell_other w ⟨b, o, none⟩ k v (fun e => hz (by rw [show k = b from e]; exact hb)), fun b' cs' t' fr' e h1 h2 => (heap_setCell_other w ⟨b, o, none⟩ b' v ?_).trans e⟩
  intro hbb
  have hbb' : b' = b := hbb
  subst hbb'
  rw [h] at e
  simp only [Option.some.injEq, Obj.cells.injEq] at e
  rcases ht with ht | ht
  · exact h1 (e.2.1.symm.trans ht)
  · exact h2 (e.2.1.symm.trans ht)
theorem Laid.kept {Z : Nat → Prop} {w w' : World} (h : Laid w) (hk : Kept Z w w') (hz : ¬ Z 3) : Laid w' := fun j hj => by
  obtain ⟨k, h1, h2⟩ := h j hj
  have e := hk.blk 3 (World.block_lt_of_cell? _ _ h2) hz
  exact ⟨k, h1, by rw [← h2]; exact World.cell?_of_block (a := ⟨3, j, none⟩) e⟩
structure RowIn (w : World) (Z : Nat → Prop) (r : Nat) (l : List EntV) : Prop where
  out : ∃ lk al, Z r ∧ w.heap[r]? = some (.cells #[.pointer (some ⟨lk, 0, none⟩)] 275 (0, 0)) ∧ Skip w Z lk al ∧ eosN al = l
theorem RowIn.below {w w' : World} {Z : Nat → Prop} {r : Nat} {l : List EntV} (h : RowIn w Z r l) (hb : Below w.heap.size w w') : RowIn w' Z r l := by
  obtain ⟨lk, al, h1, h2, h3, h4⟩ := h.out
  exact ⟨lk, al, h1, block_below' h2 hb, h3.below hb, h4⟩
theorem newLinks_any (w : World) : Calls Tryz.prog 147 #[] w fun e w' => e = .returned (.pointer (some ⟨w.heap.size + 2, 0, none⟩)) ∧ Skip w' (fun k => w.heap.size ≤ k) (w.heap.size + 2) [⟨zeroE, w.heap.size + 1, w.heap.size, 12⟩] ∧ Below w.heap.size w w' ∧ w'.heap.size = w.heap.size + 3 := by
  have hmk := run_makeP 12 (by omega)
  rw [show ((12 : Nat) : Int) = 12 from rfl] at hmk
  go_enter Tryz.func147, Tryz.ntmps147
  go_wp2
  go_ret
  refine ⟨rfl, ?_, ?_, ?_⟩
  · have b0 : (((w.alloc (.cells (zP 12) 324)).alloc (.cells (nodC ⟨zeroE, w.heap.size + 1, w.heap.size, 12⟩) 327)).alloc (.cells #[.pointer (some ⟨w.heap.size + 1, 0, none⟩), .int .i64 0] 329)).heap[w.heap.size]? = some (.cells (zP 12) 324 (0, 0)) := block_below' (block_below' (heap_alloc_new _ _) (below_alloc _ _)) (below_alloc _ _)
    have b1 : (((w.alloc (.cells (zP 12) 324)).alloc (.cells (nodC ⟨zeroE, w.heap.size + 1, w.heap.size, 12⟩) 327)).alloc (.cells #[.pointer (some ⟨w.heap.size + 1, 0, none⟩), .int .i64 0] 329)).heap[w.heap.size + 1]? = some (.cells (nodC ⟨zeroE, w.heap.size + 1, w.heap.size, 12⟩) 327 (0, 0)) := block_below' (heap_two _ _ _) (below_alloc _ _)
    have b2 : (((w.alloc (.cells (zP 12) 324)).alloc (.cells (nodC ⟨zeroE, w.heap.size + 1, w.heap.size, 12⟩) 327)).alloc (.cells #[.pointer (some ⟨w.heap.size + 1, 0, none⟩), .int .i64 0] 329)).heap[w.heap.size + 2]? = some (.cells #[.pointer (some ⟨w.heap.size + 1, 0, none⟩), .int .i64 0] 329 (0, 0)) := by
      have h := heap_alloc_new ((w.alloc (.cells (zP 12) 324)).alloc (.cells (nodC ⟨zeroE, w.heap.size + 1, w.heap.size, 12⟩) 327)) (.cells #[.pointer (some ⟨w.heap.size + 1, 0, none⟩), .int .i64 0] 329)
      rw [show ((w.alloc (.cells (zP 12) 324)).alloc (.cells (nodC ⟨zeroE, w.heap.size + 1, w.heap.size, 12⟩) 327)).heap.size = w.heap.size + 2 by simp] at h
      exact h
    refine ⟨by simp, rfl, by show w.heap.size ≤ w.heap.size + 2; omega, b2, fun p hp => ?_, fun p hp => ?_, fun p hp => ?_, fun p q hp hq _ => ?_, fun p q hp hq _ => ?_⟩
    · obtain rfl : p = 0 := by simpa using hp
      exact ⟨by show w.heap.size ≤ w.heap.size + 1; omega, b1⟩
    · obtain rfl : p = 0 := by simpa using hp
      exact ⟨Nat.le_refl _, zP 12, b0, zP_size 12, fun h hh => zP_at hh⟩
    · obtain rfl : p = 0 := by simpa using hp
      exact ⟨by show 1 ≤ 12; omega, by show 12 ≤ 12; omega⟩
    · simp only [List.length_cons, List.length_nil] at hp hq
      omega
    · simp only [List.length_cons, List.length_nil] at hp hq
      omega
  · exact below_bt (below_bt (below_alloc _ _) (below_alloc _ _)) (below_alloc _ _)
  · simp
theorem New_any (w : World) : Calls Tryz.prog 114 #[] w fun e w' => e = .returned (.pointer (some ⟨w.heap.size + 3, 0, none⟩)) ∧ RowIn w' (fun k => w.heap.size ≤ k) (w.heap.size + 3) [] ∧ Below w.heap.size w w' := by
  have H := newLinks_any w
  go_enter Tryz.func114, Tryz.ntmps114
  go_wp2_with fail
  refine H.mono ?_
  rintro e w2 ⟨rfl, h1, h2, h3⟩
  have H1 : Hid (Skip w2 (fun k => w.heap.size ≤ k) (w.heap.size + 2) [⟨zeroE, w.heap.size + 1, w.heap.size, 12⟩]) := h1
  have H2 : Hid (Below w.heap.size w w2) := h2
  have H3 : Hid (w2.heap.size = w.heap.size + 3) := h3
  clear h1 h2 h3 H
  go_wp2
  go_ret
  refine ⟨?_, ⟨w.heap.size + 2, _, by show w.heap.size ≤ w.heap.size + 3; omega, ?_, H1.out.below (below_alloc _ _), rfl⟩, below_bt H2.out (below_alloc _ _)⟩
  · rw [← H3.out]; rfl
  · rw [← H3.out]; exact heap_alloc_new _ _
end Go.Proofs.YtghcmllmbpoidaaGreatDoor.Mg
