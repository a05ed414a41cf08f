/-
  All entries of a row, rising.
-/
import Derived.Test.YtbnacopefclklaaJ03
import Derived.Laws.Bits64b
import Derived.Laws.MakeOwn
import Derived.Deep.OwnRows
import Derived.Laws.AppendOwnNone
namespace Go.Proofs.Ytbnacopefclklaa
open Go.RowKit Go.WideShapes

section Heap
variable {α : Type} (z : α) (lt : α → α → Bool)
def swp (H : List α) (i j : Nat) : List α := (H.set i (H.getD j z)).set j (H.getD i z)
theorem swp_length (H : List α) (i j : Nat) : (swp z H i j).length = H.length := by unfold swp; simp
theorem getD_set (H : List α) (i k : Nat) (x : α) (hi : i < H.length) : (H.set i x).getD k z = if k = i then x else H.getD k z := by
  by_cases h : k = i
  · subst h
    rw [if_pos rfl, List.getD_eq_getElem?_getD, List.getElem?_set_self hi]
    rfl
  · rw [if_neg h, List.getD_eq_getElem?_getD, List.getElem?_set_ne (fun e => h e.symm), List.getD_eq_getElem?_getD]
theorem swp_at {H : List α} {i j : Nat} (hi : i < H.length) (hj : j < H.length) (k : Nat) : (swp z H i j).getD k z = if k = j then H.getD i z else if k = i then H.getD j z else H.getD k z := by
  unfold swp
  rw [getD_set z _ _ _ _ (by rw [List.length_set]; exact hj), getD_set z _ _ _ _ hi]
theorem swp_perm {H : List α} {i j : Nat} (hi : i < H.length) (hj : j < H.length) : (swp z H i j).Perm H := by
  have h := Array.swap_perm (xs := H.toArray) (i := i) (j := j) (by simpa using hi) (by simpa using hj)
  rw [Array.perm_iff_toList_perm] at h
  have e : ((H.toArray).swap i j (by simpa using hi) (by simpa using hj)).toList = swp z H i j := by
    unfold swp
    rw [List.getD_eq_getElem?_getD, List.getD_eq_getElem?_getD, List.getElem?_eq_getElem hi, List.getElem?_eq_getElem hj]
    simp [Array.swap]
  rw [e] at h
  exact h
/-- Each one but those told stands not ahead of the one above it. -/
def Heap (H : List α) : Prop := ∀ k, 0 < k → k < H.length → lt (H.getD k z) (H.getD ((k - 1) / 2) z) = false
def UpOk (H : List α) (j : Nat) : Prop := (∀ k, 0 < k → k < H.length → k ≠ j → lt (H.getD k z) (H.getD ((k - 1) / 2) z) = false) ∧ (∀ k, 0 < k → k < H.length → (k - 1) / 2 = j → 0 < j → lt (H.getD k z) (H.getD ((j - 1) / 2) z) = false)
def DownOk (H : List α) (n i : Nat) : Prop := (∀ k, 0 < k → k < n → (k - 1) / 2 ≠ i → lt (H.getD k z) (H.getD ((k - 1) / 2) z) = false) ∧ (∀ k, 0 < k → k < n → (k - 1) / 2 = i → 0 < i → lt (H.getD k z) (H.getD ((i - 1) / 2) z) = false)
def HeapTo (H : List α) (n : Nat) : Prop := ∀ k, 0 < k → k < n → lt (H.getD k z) (H.getD ((k - 1) / 2) z) = false
variable {z lt}
variable (asym : ∀ a b, lt a b = true → lt b a = false) (trans : ∀ a b c, lt b a = false → lt c b = false → lt c a = false)
include asym trans in
theorem up_step {H : List α} {j : Nat} (hj : j < H.length) (h0 : 0 < j) (h : UpOk z lt H j) (hl : lt (H.getD j z) (H.getD ((j - 1) / 2) z) = true) : UpOk z lt (swp z H ((j - 1) / 2) j) ((j - 1) / 2) := by
  obtain ⟨h1, h2⟩ := h
  obtain ⟨i, hi⟩ : ∃ i, (j - 1) / 2 = i := ⟨_, rfl⟩
  rw [hi] at hl ⊢
  have hij : i < j := by omega
  have hil : i < H.length := by omega
  refine ⟨fun k k0 kn ki => ?_, fun k k0 kn kp i0 => ?_⟩
  · rw [swp_length] at kn
    rw [swp_at z hil hj, swp_at z hil hj]
    by_cases kj : k = j
    · subst kj
      rw [if_pos rfl, hi, if_neg (by omega), if_pos rfl]
      exact asym _ _ hl
    · rw [if_neg kj, if_neg ki]
      by_cases pj : (k - 1) / 2 = j
      · rw [if_pos pj]
        have := h2 k k0 kn pj h0
        rwa [hi] at this
      · rw [if_neg pj]
        by_cases pi : (k - 1) / 2 = i
        · rw [if_pos pi]
          have := h1 k k0 kn kj
          rw [pi] at this
          exact trans _ _ _ (asym _ _ hl) this
        · rw [if_neg pi]
          exact h1 k k0 kn kj
  · rw [swp_length] at kn
    rw [swp_at z hil hj, swp_at z hil hj, if_neg (show (i - 1) / 2 ≠ j by omega), if_neg (show (i - 1) / 2 ≠ i by omega)]
    have hpi := h1 i i0 hil (by omega)
    by_cases kj : k = j
    · rw [if_pos kj]; exact hpi
    · rw [if_neg kj, if_neg (by omega)]
      have := h1 k k0 kn kj
      rw [kp] at this
      exact trans _ _ _ hpi this
theorem up_end {H : List α} {j : Nat} (h : UpOk z lt H j) (hl : j = 0 ∨ lt (H.getD j z) (H.getD ((j - 1) / 2) z) = false) : Heap z lt H := by
  intro k k0 kn
  by_cases kj : k = j
  · subst kj
    rcases hl with hl | hl
    · omega
    · exact hl
  · exact h.1 k k0 kn kj
/-- The lesser one of the two below. -/
def lowC (z : α) (lt : α → α → Bool) (H : List α) (n i : Nat) : Nat := if 2 * i + 2 < n ∧ lt (H.getD (2 * i + 2) z) (H.getD (2 * i + 1) z) = true then 2 * i + 2 else 2 * i + 1
theorem lowC_is {H : List α} {n i : Nat} (h : 2 * i + 1 < n) : lowC z lt H n i < n ∧ (lowC z lt H n i - 1) / 2 = i ∧ i < lowC z lt H n i := by
  unfold lowC
  split <;> (refine ⟨?_, ?_, ?_⟩ <;> omega)
include asym in
theorem lowC_low {H : List α} {n i : Nat} (irr : ∀ a, lt a a = false) {k : Nat} (k0 : 0 < k) (kn : k < n) (kp : (k - 1) / 2 = i) : lt (H.getD k z) (H.getD (lowC z lt H n i) z) = false := by
  unfold lowC
  have hk : k = 2 * i + 1 ∨ k = 2 * i + 2 := by omega
  split
  · rename_i hc
    rcases hk with rfl | rfl
    · exact asym _ _ hc.2
    · exact irr _
  · rename_i hc
    rcases hk with rfl | rfl
    · exact irr _
    · cases hh : lt (H.getD (2 * i + 2) z) (H.getD (2 * i + 1) z) with
      | false => rfl
      | true => exact absurd ⟨kn, hh⟩ hc
include asym in
theorem down_step (irr : ∀ a, lt a a = false) {H : List α} {n i : Nat} (hn : n ≤ H.length) (hi : 2 * i + 1 < n) (h : DownOk z lt H n i) (hl : lt (H.getD (lowC z lt H n i) z) (H.getD i z) = true) : DownOk z lt (swp z H i (lowC z lt H n i)) n (lowC z lt H n i) := by
  obtain ⟨h1, h2⟩ := h
  obtain ⟨c1, c2, c3⟩ := lowC_is (z := z) (lt := lt) (H := H) hi
  have hlow := fun {k : Nat} (k0 : 0 < k) (kn : k < n) (kp : (k - 1) / 2 = i) => lowC_low (z := z) asym (H := H) (n := n) irr k0 kn kp
  obtain ⟨j, hj⟩ : ∃ j, lowC z lt H n i = j := ⟨_, rfl⟩
  rw [hj] at c1 c2 c3 hl hlow ⊢
  have hil : i < H.length := by omega
  have hjl : j < H.length := by omega
  refine ⟨fun k k0 kn kp => ?_, fun k k0 kn kp j0 => ?_⟩
  · rw [swp_at z hil hjl, swp_at z hil hjl, if_neg kp]
    by_cases pi : (k - 1) / 2 = i
    · rw [if_pos pi]
      by_cases kj : k = j
      · rw [if_pos kj]; exact asym _ _ hl
      · rw [if_neg kj, if_neg (by omega)]
        exact hlow k0 kn pi
    · rw [if_neg pi]
      have kj : k ≠ j := fun e => pi (by rw [e]; exact c2)
      rw [if_neg kj]
      by_cases ki : k = i
      · rw [if_pos ki]
        subst ki
        exact h2 j (by omega) c1 c2 k0
      · rw [if_neg ki]
        exact h1 k k0 kn pi
  · rw [swp_at z hil hjl, swp_at z hil hjl, c2, if_neg (show k ≠ j by omega), if_neg (show k ≠ i by omega), if_neg (show i ≠ j by omega), if_pos rfl]
    have := h1 k k0 kn (by omega)
    rw [kp] at this
    exact this
include asym trans in
theorem down_end (irr : ∀ a, lt a a = false) {H : List α} {n i : Nat} (h : DownOk z lt H n i) (hl : n ≤ 2 * i + 1 ∨ lt (H.getD (lowC z lt H n i) z) (H.getD i z) = false) : HeapTo z lt H n := by
  intro k k0 kn
  by_cases kp : (k - 1) / 2 = i
  · rcases hl with hl | hl
    · omega
    · rw [kp]
      exact trans _ _ _ hl (lowC_low asym irr k0 kn kp)
  · exact h.1 k k0 kn kp
include trans in
theorem heap_first (irr : ∀ a, lt a a = false) {H : List α} (h : Heap z lt H) : ∀ (m k : Nat), k ≤ m → k < H.length → lt (H.getD k z) (H.getD 0 z) = false
  | 0, k, hm, _ => by
    have : k = 0 := by omega
    subst this
    exact irr _
  | m + 1, k, hm, hk => by
    by_cases k0 : k = 0
    · subst k0; exact irr _
    · have h1 := heap_first irr h m ((k - 1) / 2) (by omega) (by omega)
      exact trans _ _ _ h1 (h k (by omega) hk)
include trans in
theorem heap_least (irr : ∀ a, lt a a = false) {H : List α} (h : Heap z lt H) {x : α} (hx : x ∈ H) : lt x (H.getD 0 z) = false := by
  obtain ⟨k, hk, rfl⟩ := List.mem_iff_getElem.1 hx
  have := heap_first trans irr h k k (Nat.le_refl _) hk
  rwa [List.getD_eq_getElem?_getD, List.getElem?_eq_getElem hk] at this
theorem heap_put {H : List α} (h : Heap z lt H) (x : α) : UpOk z lt (H ++ [x]) H.length := by
  have e : ∀ k, k < H.length → (H ++ [x]).getD k z = H.getD k z := fun k hk => by rw [List.getD_eq_getElem?_getD, List.getElem?_append_left hk, List.getD_eq_getElem?_getD]
  refine ⟨fun k k0 kn kj => ?_, fun k k0 kn kp j0 => ?_⟩
  · rw [List.length_append, List.length_singleton] at kn
    rw [e k (by omega), e _ (by omega)]
    exact h k k0 (by omega)
  · rw [List.length_append, List.length_singleton] at kn
    omega
theorem heap_root {H : List α} (h : Heap z lt H) (x : α) (hn : 0 < H.length) : DownOk z lt (H.set 0 x) H.length 0 := by
  refine ⟨fun k k0 kn kp => ?_, fun k k0 kn kp j0 => by omega⟩
  rw [getD_set z _ _ _ _ hn, getD_set z _ _ _ _ hn, if_neg (by omega), if_neg kp]
  exact h k k0 kn
theorem heap_swap {H : List α} (h : Heap z lt H) (hn : 0 < H.length) : DownOk z lt (swp z H 0 (H.length - 1)) (H.length - 1) 0 := by
  refine ⟨fun k k0 kn kp => ?_, fun k k0 kn kp j0 => by omega⟩
  rw [swp_at z hn (by omega), swp_at z hn (by omega), if_neg (by omega), if_neg (by omega), if_neg (by omega), if_neg kp]
  exact h k k0 (by omega)
theorem heapTo_all {H : List α} (h : HeapTo z lt H H.length) : Heap z lt H := h
theorem heap_nil : Heap z lt ([] : List α) := fun k _ hk => by simp at hk
end Heap
end Go.Proofs.Ytbnacopefclklaa
namespace Go.Proofs.Ytbnacopefclklaa
open Go.RowKit Go.WideShapes

/-- A node: its entry, where it lies, where its links lie, how high it is. -/
structure NodV where
  ent : EntV
  nb : Nat
  bb : Nat
  ht : Nat
def zN : NodV := ⟨zeroE, 0, 0, 0⟩
def ptN (n : NodV) : Value := .pointer (some ⟨n.nb, 0, none⟩)
def ptO : Option NodV → Value
  | none => .pointer none
  | some n => ptN n
/-- The first that is higher than h. -/
def nxN (h : Nat) (l : List NodV) : Option NodV := l.find? fun n => decide (h < n.ht)
theorem nxN_app (h : Nat) (a b : List NodV) : nxN h (a ++ b) = (nxN h a).or (nxN h b) := by unfold nxN; rw [List.find?_append]
theorem nxN_none {h : Nat} {l : List NodV} (hl : ∀ n ∈ l, n.ht ≤ h) : nxN h l = none := by
  unfold nxN
  rw [List.find?_eq_none]
  intro n hn
  have := hl n hn
  simp only [decide_eq_true_eq]; omega
theorem nxN_some {h : Nat} {l : List NodV} {n : NodV} (hn : n ∈ l) (hh : h < n.ht) : ∃ m, nxN h l = some m := by
  cases e : nxN h l with
  | some m => exact ⟨m, rfl⟩
  | none =>
    unfold nxN at e
    rw [List.find?_eq_none] at e
    have := e n hn
    simp only [decide_eq_true_eq] at this
    omega
theorem nxN_cons (h : Nat) (n : NodV) (l : List NodV) : nxN h (n :: l) = if h < n.ht then some n else nxN h l := by
  unfold nxN
  rw [List.find?_cons]
  by_cases hh : h < n.ht
  · simp [hh]
  · simp [hh]
theorem nodD {l : List NodV} {p : Nat} (h : p < l.length) : l.getD p zN = l[p] := by rw [List.getD_eq_getElem?_getD, List.getElem?_eq_getElem h]; rfl
theorem nod_mem {l : List NodV} {p : Nat} (h : p < l.length) : l.getD p zN ∈ l := by rw [nodD h]; exact List.getElem_mem _
/-- What is next at a height: none, or the first that is so high. -/
theorem nx_cases (h : Nat) (al : List NodV) (p : Nat) : (nxN h (al.drop (p + 1)) = none ∧ ∀ q, p < q → q < al.length → (al.getD q zN).ht ≤ h) ∨ ∃ q, p < q ∧ q < al.length ∧ h < (al.getD q zN).ht ∧ nxN h (al.drop (p + 1)) = some (al.getD q zN) ∧ ∀ r, p < r → r < q → (al.getD r zN).ht ≤ h := by
  generalize hk : al.length - p = k
  induction k generalizing p with
  | zero =>
    left
    rw [List.drop_eq_nil_of_le (by omega)]
    exact ⟨rfl, fun q h1 h2 => by omega⟩
  | succ k ih =>
    rcases Nat.lt_or_ge (p + 1) al.length with hp | hp
    · have e : al.drop (p + 1) = al.getD (p + 1) zN :: al.drop (p + 1 + 1) := by rw [nodD hp]; exact List.drop_eq_getElem_cons hp
      rw [e, nxN_cons]
      by_cases hh : h < (al.getD (p + 1) zN).ht
      · right
        rw [if_pos hh]
        exact ⟨p + 1, by omega, hp, hh, rfl, fun r h1 h2 => by omega⟩
      · rw [if_neg hh]
        rcases ih (p + 1) (by omega) with ⟨h1, h2⟩ | ⟨q, h1, h2, h3, h4, h5⟩
        · refine .inl ⟨h1, fun q hq hq2 => ?_⟩
          rcases Nat.lt_or_ge (p + 1) q with hc | hc
          · exact h2 q hc hq2
          · obtain rfl : q = p + 1 := by omega
            omega
        · refine .inr ⟨q, by omega, h2, h3, h4, fun r hr hr2 => ?_⟩
          rcases Nat.lt_or_ge (p + 1) r with hc | hc
          · exact h5 r hc hr2
          · obtain rfl : r = p + 1 := by omega
            omega
    · left
      rw [List.drop_eq_nil_of_le hp]
      exact ⟨rfl, fun q h1 h2 => by omega⟩
/-- The last node that stands ahead, at a height. -/
structure AheadN (al : List NodV) (x : EntV) (h p : Nat) : Prop where
  lt : p < al.length
  high : h < (al.getD p zN).ht
  less : ∀ q, 0 < q → q ≤ p → lessE (al.getD q zN).ent x = true
  rest : ∀ q, p < q → q < al.length → h < (al.getD q zN).ht → lessE (al.getD q zN).ent x = false
def eosN (al : List NodV) : List EntV := (al.drop 1).map NodV.ent
theorem eosN_len (al : List NodV) : (eosN al).length = al.length - 1 := by simp [eosN]
theorem eosN_at {al : List NodV} {p : Nat} (h : p + 1 < al.length) : (eosN al).getD p zeroE = (al.getD (p + 1) zN).ent := by
  unfold eosN
  rw [nodD h, List.getD_eq_getElem?_getD, List.getElem?_map, List.getElem?_drop, show 1 + p = p + 1 by omega, List.getElem?_eq_getElem h]
  rfl
theorem eosN_mem {al : List NodV} {q : Nat} (h0 : 0 < q) (h : q < al.length) : (al.getD q zN).ent ∈ eosN al := by
  have := eosN_at (al := al) (p := q - 1) (by omega)
  rw [show q - 1 + 1 = q by omega] at this
  rw [← this]
  exact getD_mem' (by rw [eosN_len]; omega)
/-- At the least height what stands ahead is all that does. -/
theorem ahead_place {al : List NodV} {x : EntV} {p : Nat} (ha : AheadN al x 0 p) (hh : ∀ q, q < al.length → 1 ≤ (al.getD q zN).ht) : placeE (eosN al) x = p := by
  have hlt := ha.lt
  refine place_next (fun y hy => ?_) (by rw [eosN_len]; omega) ?_
  · obtain ⟨j, hj, rfl⟩ := List.getElem_of_mem hy
    rw [List.length_take, eosN_len] at hj
    rw [List.getElem_take]
    have := eosN_at (al := al) (p := j) (by omega)
    rw [List.getD_eq_getElem?_getD, List.getElem?_eq_getElem (by rw [eosN_len]; omega)] at this
    simp only [Option.getD_some] at this
    rw [this]
    exact ha.less (j + 1) (by omega) (by omega)
  · rcases Nat.lt_or_ge (p + 1) al.length with hp | hp
    · right
      rw [eosN_at hp]
      exact ha.rest (p + 1) (by omega) hp (by have := hh (p + 1) hp; omega)
    · left; rw [eosN_len]; omega
/-- Between what stands ahead at a height and at the least one none is so high. -/
theorem ahead_le {al : List NodV} {x : EntV} {h p p0 : Nat} (ha : AheadN al x h p) (h0 : AheadN al x 0 p0) : p ≤ p0 := by
  rcases Nat.lt_or_ge p0 p with hc | hc
  · have h1 := ha.less p (by omega) (Nat.le_refl _)
    have h2 := h0.rest p hc ha.lt (by have := ha.high; omega)
    rw [h1] at h2; cases h2
  · exact hc
theorem ahead_low {al : List NodV} {x : EntV} {h p p0 : Nat} (ha : AheadN al x h p) (h0 : AheadN al x 0 p0) {q : Nat} (hq : p < q) (hq2 : q ≤ p0) : (al.getD q zN).ht ≤ h := by
  rcases Nat.lt_or_ge h (al.getD q zN).ht with hc | hc
  · have h1 := h0.less q (by omega) hq2
    have h2 := ha.rest q hq (by have := h0.lt; omega) hc
    rw [h1] at h2; cases h2
  · exact hc
def insN (al : List NodV) (p0 : Nat) (m : NodV) : List NodV := al.take (p0 + 1) ++ m :: al.drop (p0 + 1)
theorem insN_len (al : List NodV) (p0 : Nat) (m : NodV) (h : p0 < al.length) : (insN al p0 m).length = al.length + 1 := by
  unfold insN
  simp only [List.length_append, List.length_cons, List.length_take, List.length_drop]
  omega
theorem insN_lo {al : List NodV} {p0 : Nat} {m : NodV} (h : p0 < al.length) {p : Nat} (hp : p ≤ p0) : (insN al p0 m).getD p zN = al.getD p zN ∧ (insN al p0 m).drop (p + 1) = (al.take (p0 + 1)).drop (p + 1) ++ m :: al.drop (p0 + 1) ∧ al.drop (p + 1) = (al.take (p0 + 1)).drop (p + 1) ++ al.drop (p0 + 1) := by
  have hl : (al.take (p0 + 1)).length = p0 + 1 := by rw [List.length_take]; omega
  refine ⟨?_, ?_, ?_⟩
  · unfold insN
    rw [List.getD_eq_getElem?_getD, List.getElem?_append_left (by omega), List.getElem?_take_of_lt (by omega), ← List.getD_eq_getElem?_getD]
  · unfold insN
    rw [List.drop_append_of_le_length (by omega)]
  · rw [← List.drop_append_of_le_length (by omega), List.take_append_drop]
theorem insN_at {al : List NodV} {p0 : Nat} {m : NodV} (h : p0 < al.length) : (insN al p0 m).getD (p0 + 1) zN = m ∧ (insN al p0 m).drop (p0 + 1 + 1) = al.drop (p0 + 1) := by
  have hl : (al.take (p0 + 1)).length = p0 + 1 := by rw [List.length_take]; omega
  unfold insN
  constructor
  · rw [List.getD_eq_getElem?_getD, List.getElem?_append_right (by omega), hl]
    simp
  · rw [List.drop_append, hl, List.drop_eq_nil_of_le (by omega), List.nil_append, show p0 + 1 + 1 - (p0 + 1) = 1 by omega]
    rfl
theorem insN_hi {al : List NodV} {p0 : Nat} {m : NodV} (h : p0 < al.length) {p : Nat} (hp : p0 < p) : (insN al p0 m).getD (p + 1) zN = al.getD p zN ∧ (insN al p0 m).drop (p + 1 + 1) = al.drop (p + 1) := by
  have hl : (al.take (p0 + 1)).length = p0 + 1 := by rw [List.length_take]; omega
  unfold insN
  constructor
  · rw [List.getD_eq_getElem?_getD, List.getElem?_append_right (by omega), hl, show p + 1 - (p0 + 1) = (p - (p0 + 1)) + 1 by omega, List.getElem?_cons_succ, List.getElem?_drop, show p0 + 1 + (p - (p0 + 1)) = p by omega, ← List.getD_eq_getElem?_getD]
  · rw [List.drop_append, hl, List.drop_eq_nil_of_le (by omega), List.nil_append, show p + 1 + 1 - (p0 + 1) = (p - p0) + 1 by omega, List.drop_succ_cons, List.drop_drop, show p0 + 1 + (p - p0) = p + 1 by omega]
/-- The links behind the one that is put: those ahead of it. -/
theorem nx_ins_lo {al : List NodV} {x : EntV} {h p p0 f : Nat} {m : NodV} (ha : AheadN al x h f) (h0 : AheadN al x 0 p0) (hp : p ≤ p0) (hh : h < (al.getD p zN).ht) :
    nxN h ((insN al p0 m).drop (p + 1)) = if h < m.ht ∧ p = f then some m else nxN h (al.drop (p + 1)) := by
  obtain ⟨_, e1, e2⟩ := insN_lo (m := m) h0.lt hp
  rw [e1, e2, nxN_app, nxN_app, nxN_cons]
  have hl : (al.take (p0 + 1)).length = p0 + 1 := by have := h0.lt; rw [List.length_take]; omega
  have hget : ∀ q, q ≤ p0 → (al.take (p0 + 1)).getD q zN = al.getD q zN := fun q hq => by
    rw [List.getD_eq_getElem?_getD, List.getElem?_take_of_lt (by omega), ← List.getD_eq_getElem?_getD]
  by_cases hpf : p = f
  · subst hpf
    have hn : nxN h ((al.take (p0 + 1)).drop (p + 1)) = none := nxN_none fun n hn => by
      obtain ⟨j, hj, rfl⟩ := List.getElem_of_mem hn
      rw [List.length_drop, hl] at hj
      rw [List.getElem_drop]
      have h3 := hget (p + 1 + j) (by omega)
      rw [nodD (by omega)] at h3
      rw [h3]
      exact ahead_low ha h0 (by omega) (by omega)
    rw [hn]
    simp only [Option.none_or, and_true]
  · simp only [hpf, and_false, if_false]
    have hlt : p < f := by
      rcases Nat.lt_or_ge p f with hc | hc
      · exact hc
      · have := ahead_low ha h0 (q := p) (by omega) hp
        omega
    have hf := ahead_le ha h0
    obtain ⟨z, hz⟩ := nxN_some (h := h) (l := (al.take (p0 + 1)).drop (p + 1)) (n := al.getD f zN) (by
      rw [← hget f hf, nodD (by omega)]
      refine List.mem_iff_getElem.2 ⟨f - (p + 1), by rw [List.length_drop]; omega, ?_⟩
      rw [List.getElem_drop]
      congr 1
      omega) ha.high
    rw [hz]
    simp only [Option.some_or]
/-- The links of the one that is put. -/
theorem nx_ins_at {al : List NodV} {x : EntV} {h p0 f : Nat} {m : NodV} (ha : AheadN al x h f) (h0 : AheadN al x 0 p0) :
    nxN h ((insN al p0 m).drop (p0 + 1 + 1)) = nxN h (al.drop (f + 1)) := by
  have hf := ahead_le ha h0
  rw [(insN_at h0.lt).2, (insN_lo (m := m) h0.lt hf).2.2, nxN_app]
  have hl : (al.take (p0 + 1)).length = p0 + 1 := by have := h0.lt; rw [List.length_take]; omega
  have hn : nxN h ((al.take (p0 + 1)).drop (f + 1)) = none := nxN_none fun n hn => by
    obtain ⟨j, hj, rfl⟩ := List.getElem_of_mem hn
    rw [List.length_drop, hl] at hj
    rw [List.getElem_drop]
    have h3 : (al.take (p0 + 1)).getD (f + 1 + j) zN = al.getD (f + 1 + j) zN := by
      rw [List.getD_eq_getElem?_getD, List.getElem?_take_of_lt (by omega), ← List.getD_eq_getElem?_getD]
    rw [nodD (by omega)] at h3
    rw [h3]
    exact ahead_low ha h0 (by omega) (by omega)
  rw [hn, Option.none_or]
theorem ents_ins {al : List NodV} {x : EntV} {p0 : Nat} {m : NodV} (hm : m.ent = x) (h0 : AheadN al x 0 p0) (hh : ∀ q, q < al.length → 1 ≤ (al.getD q zN).ht) : eosN (insN al p0 m) = insE (eosN al) x := by
  have hp := ahead_place h0 hh
  have hlt := h0.lt
  unfold insE
  rw [hp]
  unfold eosN insN
  rw [List.drop_append, List.length_take, show 1 - min (p0 + 1) al.length = 0 by omega, List.drop_zero, List.map_append, List.map_cons, hm, List.drop_take, List.map_take, ← List.map_drop, List.drop_drop, show 1 + p0 = p0 + 1 by omega, show p0 + 1 - 1 = p0 by omega]
theorem next0 {al : List NodV} {p : Nat} (hh : ∀ q, q < al.length → 1 ≤ (al.getD q zN).ht) : nxN 0 (al.drop p) = al[p]? := by
  rcases Nat.lt_or_ge p al.length with hp | hp
  · rw [List.drop_eq_getElem_cons hp, nxN_cons, List.getElem?_eq_getElem hp, if_pos]
    have := hh p hp
    rw [nodD hp] at this
    omega
  · rw [List.drop_eq_nil_of_le hp, List.getElem?_eq_none hp]
    rfl
end Go.Proofs.Ytbnacopefclklaa
namespace Go.Proofs.Ytbnacopefclklaa
open Go.RowKit Go.WideShapes

/-- The table of TrailingZeros64: bytes of at most 63. -/
def Laid (w : World) : Prop := ∀ j, j < 64 → ∃ k : Nat, k ≤ 63 ∧ w.cell? ⟨1, j, none⟩ = some (.int .u8 (k : Int))
theorem Laid.below {B : Nat} {w w' : World} (h : Laid w) (hb : Below B w w') (hB : 2 ≤ B) : Laid w' := fun j hj => by
  obtain ⟨k, h1, h2⟩ := h j hj
  exact ⟨k, h1, (hb.cell (by show 1 < B; omega)).trans h2⟩
theorem Laid.size {w : World} (h : Laid w) : 2 ≤ w.heap.size := by
  obtain ⟨k, _, h2⟩ := h 0 (by omega)
  have := World.block_lt_of_cell? _ _ h2
  exact this
theorem wrap_u64z (n : Int) : IntKind.u64.wrap n = n % 18446744073709551616 := by simp [IntKind.wrap, IntKind.signed, IntKind.bits]
def sameE (a b : EntV) : Bool := decide (a.key = b.key) && decide (a.seq = b.seq)
theorem checkE_one (x : EntV) : checkE [x] = oneE x := by
  unfold checkE
  rw [if_neg (by simp)]
  by_cases h : oneE x = 0
  · rw [h]; simp [checkF, h]
  · simp [checkF, h]
theorem four_cells {w : World} {g : Nat} {a b c d : Value} {t : TypeId} {fr : Nat × Nat} (h : w.heap[g]? = some (.cells #[a, b, c, d] t fr)) : w.cell? ⟨g, 0, none⟩ = some a ∧ w.cell? ⟨g, 1, none⟩ = some b ∧ w.cell? ⟨g, 2, none⟩ = some c ∧ w.cell? ⟨g, 3, none⟩ = some d :=
  ⟨Lib.cell_of_heap h 0, Lib.cell_of_heap h 1, Lib.cell_of_heap h 2, Lib.cell_of_heap h 3⟩
theorem ents_box {w : World} {g : Nat} {x : EntV} {t : TypeId} {fr : Nat × Nat} (h : w.heap[g]? = some (.cells #[.string x.key, .string x.val, .int .i64 x.seq, .bool x.gone] t fr)) : EntsL w (some ⟨g, 0, none⟩) 1 [x] := by
  refine ⟨rfl, fun _ => ⟨g, 0, rfl, fun i hi => ?_⟩⟩
  obtain rfl : i = 0 := by simpa using hi
  exact four_cells h
theorem heap_two (w : World) (o o' : Obj) : ((w.alloc o).alloc o').heap[w.heap.size + 1]? = some o' := by
  have h := heap_alloc_new (w.alloc o) o'
  rw [show (w.alloc o).heap.size = w.heap.size + 1 by simp] at h
  exact h
end Go.Proofs.Ytbnacopefclklaa
namespace Go.Proofs.Ytbnacopefclklaa
open Go.RowKit Go.WideShapes

def zP (n : Nat) : Array Value := madeCells #[.pointer none] n
theorem zP_size (n : Nat) : (zP n).size = n := size_madeCells _ _
theorem zP_at {n h : Nat} (hh : h < n) : (zP n)[h]? = some (.pointer none) := by
  unfold zP madeCells
  simp [hh, Nat.mod_one]
def nodC (n : NodV) : Array Value := #[.string n.ent.key, .string n.ent.val, .int .i64 n.ent.seq, .bool n.ent.gone, .slice (some ⟨n.bb, 0, none⟩) n.ht n.ht]
theorem block_below' {w w' : World} {b : Nat} {o : Obj} (h : w.heap[b]? = some o) (hb : Below w.heap.size w w') : w'.heap[b]? = some o := (hb.block _ (lt_heap h)).trans h
def blkV : Value → Nat
  | .pointer (some a) => a.block
  | _ => 0
/-- Where a node stands, told by where it lies. -/
def posN (al : List NodV) (v : Value) : Nat := al.findIdx fun n => n.nb == blkV v
end Go.Proofs.Ytbnacopefclklaa
namespace Go.Proofs.Ytbnacopefclklaa
open Go.RowKit Go.WideShapes Go.ChangeShapes Go.Deep Go.Joins

theorem rise_nod {al : List NodV} (hr : RiseE (eosN al)) {a b : Nat} (h0 : 0 < a) (hab : a < b) (hb : b < al.length) : lessE (al.getD a zN).ent (al.getD b zN).ent = true := by
  have ha := eosN_at (al := al) (p := a - 1) (by omega)
  have hb' := eosN_at (al := al) (p := b - 1) (by omega)
  rw [show a - 1 + 1 = a by omega] at ha
  rw [show b - 1 + 1 = b by omega] at hb'
  have la : a - 1 < (eosN al).length := by rw [eosN_len]; omega
  have lb : b - 1 < (eosN al).length := by rw [eosN_len]; omega
  have := List.pairwise_iff_getElem.1 hr (a - 1) (b - 1) la lb (by omega)
  rw [List.getD_eq_getElem?_getD, List.getElem?_eq_getElem la, Option.getD_some] at ha
  rw [List.getD_eq_getElem?_getD, List.getElem?_eq_getElem lb, Option.getD_some] at hb'
  rw [← ha, ← hb']
  exact this
theorem ahead_up {al : List NodV} (hr : RiseE (eosN al)) {x : EntV} {q : Nat} (hq : q < al.length) (hl : lessE (al.getD q zN).ent x = true) : ∀ r, 0 < r → r ≤ q → lessE (al.getD r zN).ent x = true := by
  intro r h0 hrq
  rcases Nat.lt_or_ge r q with h | h
  · exact lessE_trans (rise_nod hr h0 h hq) hl
  · obtain rfl : r = q := by omega
    exact hl
theorem ahead_end {al : List NodV} {x : EntV} {p j : Nat} (hp : p < al.length) (hj : j < (al.getD p zN).ht) (hl : ∀ q, 0 < q → q ≤ p → lessE (al.getD q zN).ent x = true) (hn : ∀ q, p < q → q < al.length → (al.getD q zN).ht ≤ j) : AheadN al x j p :=
  ⟨hp, hj, hl, fun q h1 h2 h3 => by have := hn q h1 h2; omega⟩
theorem ahead_stop {al : List NodV} (hr : RiseE (eosN al)) {x : EntV} {p q j : Nat} (hp : p < al.length) (hj : j < (al.getD p zN).ht) (hl : ∀ q, 0 < q → q ≤ p → lessE (al.getD q zN).ent x = true) (h1 : p < q) (h5 : ∀ r, p < r → r < q → (al.getD r zN).ht ≤ j) (hx : lessE (al.getD q zN).ent x = false) : AheadN al x j p := by
  refine ⟨hp, hj, hl, fun r r1 r2 r3 => ?_⟩
  rcases Nat.lt_trichotomy r q with h | h | h
  · have := h5 r r1 h; omega
  · rw [h]; exact hx
  · rw [Bool.eq_false_iff]
    intro hh
    rw [lessE_trans (rise_nod hr (by omega) h r2) hh] at hx
    cases hx
theorem frozen_row {w : World} {g : Nat} {cs : Array Value} {t : TypeId} (h : w.heap[g]? = some (.cells cs t (0, 0))) (i : Nat) : w.frozen? ⟨g, i, none⟩ = false := by simp [World.frozen?, h]
def nil12 : Array Value := #[.pointer none, .pointer none, .pointer none, .pointer none, .pointer none, .pointer none, .pointer none, .pointer none, .pointer none, .pointer none, .pointer none, .pointer none]
theorem set12 {B g : Nat} {w w' : World} {v0 v1 v2 v3 v4 v5 v6 v7 v8 v9 v10 v11 : Value} (h : Below B w w') (hg : B ≤ g) : Below B w ((((((((((((w'.setCell ⟨g, 0, none⟩ v0).setCell ⟨g, 1, none⟩ v1).setCell ⟨g, 2, none⟩ v2).setCell ⟨g, 3, none⟩ v3).setCell ⟨g, 4, none⟩ v4).setCell ⟨g, 5, none⟩ v5).setCell ⟨g, 6, none⟩ v6).setCell ⟨g, 7, none⟩ v7).setCell ⟨g, 8, none⟩ v8).setCell ⟨g, 9, none⟩ v9).setCell ⟨g, 10, none⟩ v10).setCell ⟨g, 11, none⟩ v11) := ((((((((((((h.setCell (p := ⟨g, 0, none⟩) hg v0).setCell (p := ⟨g, 1, none⟩) hg v1).setCell (p := ⟨g, 2, none⟩) hg v2).setCell (p := ⟨g, 3, none⟩) hg v3).setCell (p := ⟨g, 4, none⟩) hg v4).setCell (p := ⟨g, 5, none⟩) hg v5).setCell (p := ⟨g, 6, none⟩) hg v6).setCell (p := ⟨g, 7, none⟩) hg v7).setCell (p := ⟨g, 8, none⟩) hg v8).setCell (p := ⟨g, 9, none⟩) hg v9).setCell (p := ⟨g, 10, none⟩) hg v10).setCell (p := ⟨g, 11, none⟩) hg v11)
end Go.Proofs.Ytbnacopefclklaa
namespace Go.Proofs.Ytbnacopefclklaa
open Go.RowKit Go.WideShapes

end Go.Proofs.Ytbnacopefclklaa
namespace Go.Proofs.Ytbnacopefclklaa
open Go.RowKit Go.WideShapes

def cellsE (l : List EntV) : List Value := l.flatMap fun p => [.string p.key, .string p.val, .int .i64 p.seq, .bool p.gone]
theorem cellsE_len (l : List EntV) : (cellsE l).length = l.length * 4 := by
  induction l with
  | nil => rfl
  | cons p l ih => simp only [cellsE, List.flatMap_cons, List.length_append, List.length_cons, List.length_nil] at *; omega
theorem cellsE_app (l m : List EntV) : cellsE (l ++ m) = cellsE l ++ cellsE m := by simp [cellsE]
theorem cellsE_at : ∀ (l : List EntV) (i : Nat), i < l.length → (cellsE l)[i * 4]? = some (.string (l.getD i zeroE).key) ∧ (cellsE l)[i * 4 + 1]? = some (.string (l.getD i zeroE).val) ∧ (cellsE l)[i * 4 + 2]? = some (.int .i64 (l.getD i zeroE).seq) ∧ (cellsE l)[i * 4 + 3]? = some (.bool (l.getD i zeroE).gone)
  | p :: l, 0, _ => ⟨rfl, rfl, rfl, rfl⟩
  | p :: l, i + 1, hi => by
    have := cellsE_at l i (by simpa using hi)
    rw [show (i + 1) * 4 = i * 4 + 1 + 1 + 1 + 1 from by omega]
    simpa [cellsE, List.getD] using this
  | [], _, h => by simp at h
def EOwn (w : World) (base : Nat) (v : Value) (l : List EntV) : Prop := w.ownsRow base 23 4 v l.length (cellsE l)
theorem eown_nil (w : World) (base : Nat) : EOwn w base (.slice none 0 0) [] := World.ownsRow_nil _ _ _ _
theorem EOwn.form {w : World} {base : Nat} {v : Value} {l : List EntV} (h : EOwn w base v l) : ∃ q m, v = .slice q l.length m ∧ l.length ≤ m ∧ m ≤ maxLen ∧ (q = none → m = 0) := own_form h
theorem EOwn.ents {w : World} {base : Nat} {q : Option Addr} {n m : Nat} {l : List EntV} (h : EOwn w base (.slice q n m) l) : EntsIn w q l := by
  intro hp
  rcases h.2 with ⟨_, hn⟩ | ⟨g, cap, cur, hv, hb, hg, hle, hmax, hsz, htk⟩
  · omega
  · simp only [Value.slice.injEq] at hv
    obtain ⟨rfl, rfl, rfl⟩ := hv
    refine ⟨g, 0, rfl, fun i hi => ?_⟩
    obtain ⟨c0, c1, c2, c3⟩ := cellsE_at l i hi
    exact ⟨by rw [Nat.zero_add, World.ownsRow.cellAt h _ (by omega), c0], by rw [Nat.zero_add, World.ownsRow.cellAt h _ (by omega), c1], by rw [Nat.zero_add, World.ownsRow.cellAt h _ (by omega), c2], by rw [Nat.zero_add, World.ownsRow.cellAt h _ (by omega), c3]⟩
theorem EOwn.below {w w' : World} {base : Nat} {v : Value} {l : List EntV} (h : EOwn w base v l) (hb : Below w.heap.size w w') : EOwn w' base v l := own_below h hb
theorem own_neS {w : World} {base n s : Nat} {e : TypeId} {v : Value} {xs : List Value} (h : w.ownsRow base e s v n xs) {B : Nat} {C : Array Value} {t : TypeId} {fr : Nat × Nat} (hB : w.heap[B]? = some (.cells C t fr)) (ht : t ≠ e) : v.ownBlock ≠ some B := by
  intro e
  rcases h.2 with ⟨hv, _⟩ | ⟨g, cap, cur, hv, _, hgg, _⟩
  · rw [hv] at e; cases e
  · rw [hv] at e
    simp only [Value.ownBlock, Option.some.injEq] at e
    subst e
    rw [hB] at hgg
    simp only [Option.some.injEq, Obj.cells.injEq] at hgg
    exact ht hgg.2.1
theorem info_entry : (Try.prog.info? 23).map (fun i => (i.zero, i.size, i.bytes)) = some (some (.agg #[.string ByteArray.empty, .string ByteArray.empty, .int .i64 0, .bool false]), 4, 48) := by kernel_rfl
theorem info_parts' {P : Program} {t : TypeId} {z : Option Value} {s b : Nat} (h : (P.info? t).map (fun i => (i.zero, i.size, i.bytes)) = some (z, s, b)) : ∃ i, P.info? t = some i ∧ i.zero = z ∧ i.size = s ∧ i.bytes = b := by
  cases hi : P.info? t with
  | none => rw [hi] at h; cases h
  | some i => rw [hi] at h; simp at h; exact ⟨i, rfl, h.1, h.2.1, h.2.2⟩
theorem ent_cells (w : World) (a b c d : Value) (t : TypeId) : ∀ j u, [a, b, c, d][j]? = some u → (w.alloc (.cells #[a, b, c, d] t)).cell? ((⟨w.heap.size, 0, none⟩ : Addr).add j) = some u := by
  intro j u hj
  have hh := heap_alloc_new w (.cells #[a, b, c, d] t)
  have e : (⟨w.heap.size, 0, none⟩ : Addr).add j = ⟨w.heap.size, j, none⟩ := by simp [Addr.add]; intro h; omega
  rw [e, Lib.cell_of_heap hh]
  simpa using hj
theorem ent_one (k v : ByteArray) (i : Int) (g : Bool) : ∀ u ∈ [Value.string k, .string v, .int .i64 i, .bool g], u.oneCell' = true := by
  intro u hu
  simp only [List.mem_cons, List.not_mem_nil, or_false] at hu
  rcases hu with rfl | rfl | rfl | rfl <;> rfl
theorem four {w : World} {g : Nat} {a b c d : Value} {t : TypeId} (h : w.heap[g]? = some (.cells #[a, b, c, d] t (0, 0))) : (w.cell? ⟨g, 0, none⟩ = some a ∧ w.cell? ⟨g, 1, none⟩ = some b ∧ w.cell? ⟨g, 2, none⟩ = some c ∧ w.cell? ⟨g, 3, none⟩ = some d) ∧ w.frozen? ⟨g, 0, none⟩ = false ∧ w.frozen? ⟨g, 1, none⟩ = false ∧ w.frozen? ⟨g, 2, none⟩ = false ∧ w.frozen? ⟨g, 3, none⟩ = false :=
  ⟨⟨cell_of_row w _ 0 _ _ _ h, cell_of_row w _ 1 _ _ _ h, cell_of_row w _ 2 _ _ _ h, cell_of_row w _ 3 _ _ _ h⟩, by simp [World.frozen?, h], by simp [World.frozen?, h], by simp [World.frozen?, h], by simp [World.frozen?, h]⟩
theorem set4_at {B g : Nat} {w w' : World} {a b c d : Value} (h : Below B w w') (hg : B ≤ g) : Below B w ((((w'.setCell ⟨g, 0, none⟩ a).setCell ⟨g, 1, none⟩ b).setCell ⟨g, 2, none⟩ c).setCell ⟨g, 3, none⟩ d) := (((h.setCell (p := ⟨g, 0, none⟩) hg a).setCell (p := ⟨g, 1, none⟩) hg b).setCell (p := ⟨g, 2, none⟩) hg c).setCell (p := ⟨g, 3, none⟩) hg d
theorem ents_cells {w : World} {b o : Nat} {l : List EntV} (h : EntsIn w (some ⟨b, o, none⟩) l) : ∀ j u, (cellsE l)[j]? = some u → w.cell? ((⟨b, o, none⟩ : Addr).add j) = some u := by
  intro j u hj
  have hlt : j < l.length * 4 := by rw [← cellsE_len]; exact (List.getElem?_eq_some_iff.1 hj).1
  have hi : j / 4 < l.length := by omega
  obtain ⟨c0, c1, c2, c3⟩ := cellsE_at l (j / 4) hi
  obtain ⟨d0, d1, d2, d3⟩ := h.at hi
  rw [add_plain]
  have hr : j % 4 = 0 ∨ j % 4 = 1 ∨ j % 4 = 2 ∨ j % 4 = 3 := by omega
  rcases hr with hr | hr | hr | hr
  · have e : j = j / 4 * 4 := by omega
    rw [← e] at c0 d0
    rw [c0] at hj; rw [d0, ← Option.some.inj hj]
  · have e : j = j / 4 * 4 + 1 := by omega
    rw [Nat.add_assoc] at d1
    rw [← e] at c1 d1
    rw [c1] at hj; rw [d1, ← Option.some.inj hj]
  · have e : j = j / 4 * 4 + 2 := by omega
    rw [Nat.add_assoc] at d2
    rw [← e] at c2 d2
    rw [c2] at hj; rw [d2, ← Option.some.inj hj]
  · have e : j = j / 4 * 4 + 3 := by omega
    rw [Nat.add_assoc] at d3
    rw [← e] at c3 d3
    rw [c3] at hj; rw [d3, ← Option.some.inj hj]
theorem cellsE_one (l : List EntV) : ∀ u ∈ cellsE l, u.oneCell' = true := by
  intro u hu
  simp only [cellsE, List.mem_flatMap, List.mem_cons, List.not_mem_nil, or_false] at hu
  obtain ⟨p, _, h⟩ := hu
  rcases h with rfl | rfl | rfl | rfl <;> rfl
theorem run_append_ents (w : World) (base : Nat) (ty : TypeId) (l : List EntV) (p : Option Addr) (c : Nat) (hin : EntsIn w p l) (hp : p = none → c = 0) (hlen : l.length ≤ 100000) (hbase : base ≤ w.heap.size) :
    ∃ v' w', (Builtin.append_ #[25, 25] ty #[.slice none 0 0, .slice p l.length c]).run Try.prog w = .ok v' w' ∧ EOwn w' base v' l ∧ w.grownBy w' none := by
  obtain ⟨i0, hi, hz0, hz1, hz2⟩ := info_parts' info_entry
  have hown := eown_nil w base
  have hmax : 0 + l.length ≤ maxLen := by unfold maxLen; omega
  cases p with
  | none =>
    obtain rfl : l = [] := by
      cases l with
      | nil => rfl
      | cons y l => obtain ⟨b, o, e, _⟩ := hin (by simp); cases e
    obtain rfl := hp rfl
    exact ⟨_, w, run_append_owned_none (P := Try.prog) w base 25 ty 23 i0 4 Try.underlying25 hi (.slice none 0 0) 0 [] hown, hown, ⟨rfl, rfl, rfl, Nat.le_refl _, fun _ _ _ => rfl⟩⟩
  | some ad =>
    have hc : ∀ j u, (cellsE l)[j]? = some u → w.cell? (ad.add j) = some u := by
      intro j u hu
      have hpos : 0 < l.length := by
        cases l with
        | nil => simp [cellsE] at hu
        | cons y l => simp
      obtain ⟨b, o, e, _⟩ := hin hpos
      simp at e
      subst e
      exact ents_cells hin j u hu
    obtain ⟨v', w', h1, h2, h3, _⟩ := run_append_own (P := Try.prog) w base 25 ty 23 i0 (.agg #[.string ByteArray.empty, .string ByteArray.empty, .int .i64 0, .bool false]) 4 48 Try.underlying25 hi hz0 hz1 hz2 rfl (by decide) (.slice none 0 0) 0 [] hown ad l.length c (cellsE l) (cellsE_len l) hc (cellsE_one l) hmax (by omega) hbase
    exact ⟨v', w', h1, by simpa [EOwn] using h2, h3⟩
theorem wpList_append_ents (w : World) {ops : Array Oper} {rest : List Oper} {o : Oper} {a : Act} {Q : Exit → Act → World → Prop} (hgd : o.guard = none) (s x : Operand)
    (ho : o.op = .call { callee := .builtin .append, args := #[s, x], argTypes := #[25, 25] }) (base : Nat) (l : List EntV) (p : Option Addr) (m c : Nat) (hs : a.eval s = .slice none 0 0) (hx : a.eval x = .slice p m c) (hm : m = l.length)
    (hin : EntsIn w p l) (hp : p = none → c = 0) (hlen : l.length ≤ 100000) (hbase : base ≤ w.heap.size)
    (h : ∀ v' w', EOwn w' base v' l → w.grownBy w' none → wpList Try.prog ops Q rest (a.put o.dst v') w') : wpList Try.prog ops Q (o :: rest) a w := by
  subst hm
  refine wpList_plain hgd fun K hK => ?_
  obtain ⟨v', w', hr, h2, h3⟩ := run_append_ents w base o.type l p c hin hp hlen hbase
  unfold Oper.wp execOp
  simp only [ho, resolve, invoke, builtin, Sem.run_bind, Sem.run_pure, Result.andThen_ok, List.map_toArray, List.map_cons, List.map_nil, hs, hx, hr]
  exact hK _ _ (h v' w' h2 h3)
theorem run_append_two (w : World) (base : Nat) (ty : TypeId) (v : Value) (l l' : List EntV) (p : Option Addr) (c : Nat) (hown : EOwn w base v l) (hin : EntsIn w p l') (hp : p = none → c = 0) (hlen : l.length + l'.length ≤ 1000000) (hbase : base ≤ w.heap.size) :
    ∃ v' w', (Builtin.append_ #[25, 25] ty #[v, .slice p l'.length c]).run Try.prog w = .ok v' w' ∧ EOwn w' base v' (l ++ l') ∧ w.grownBy w' v.ownBlock := by
  obtain ⟨i0, hi, hz0, hz1, hz2⟩ := info_parts' info_entry
  have hmax : l.length + l'.length ≤ maxLen := by unfold maxLen; omega
  cases p with
  | none =>
    obtain rfl : l' = [] := by
      cases l' with
      | nil => rfl
      | cons y l => obtain ⟨b, o, e, _⟩ := hin (by simp); cases e
    obtain rfl := hp rfl
    exact ⟨_, w, run_append_owned_none (P := Try.prog) w base 25 ty 23 i0 4 Try.underlying25 hi v l.length (cellsE l) hown, by simpa using hown, ⟨rfl, rfl, rfl, Nat.le_refl _, fun _ _ _ => rfl⟩⟩
  | some ad =>
    have hc : ∀ j u, (cellsE l')[j]? = some u → w.cell? (ad.add j) = some u := by
      intro j u hu
      have hpos : 0 < l'.length := by
        cases l' with
        | nil => simp [cellsE] at hu
        | cons y l => simp
      obtain ⟨b, o, e, _⟩ := hin hpos
      simp at e
      subst e
      exact ents_cells hin j u hu
    obtain ⟨v', w', h1, h2, h3, _⟩ := run_append_own (P := Try.prog) w base 25 ty 23 i0 (.agg #[.string ByteArray.empty, .string ByteArray.empty, .int .i64 0, .bool false]) 4 48 Try.underlying25 hi hz0 hz1 hz2 rfl (by decide) v l.length (cellsE l) hown ad l'.length c (cellsE l') (cellsE_len l') hc (cellsE_one l') hmax (by omega) hbase
    refine ⟨v', w', h1, ?_, h3⟩
    unfold EOwn
    rw [cellsE_app, List.length_append]
    exact h2
theorem wpList_append_two (w : World) {ops : Array Oper} {rest : List Oper} {o : Oper} {a : Act} {Q : Exit → Act → World → Prop} (hw : Region.wanted o (yielded ops a.tmps) = true) (s x : Operand)
    (ho : o.op = .call { callee := .builtin .append, args := #[s, x], argTypes := #[25, 25] }) (base : Nat) (v : Value) (l l' : List EntV) (p : Option Addr) (m c : Nat) (hs : a.eval s = v) (hx : a.eval x = .slice p m c) (hm : m = l'.length)
    (hown : EOwn w base v l) (hin : EntsIn w p l') (hp : p = none → c = 0) (hlen : l.length + l'.length ≤ 1000000) (hbase : base ≤ w.heap.size)
    (h : ∀ v' w', EOwn w' base v' (l ++ l') → w.grownBy w' v.ownBlock → wpList Try.prog ops Q rest (a.put o.dst v') w') : wpList Try.prog ops Q (o :: rest) a w := by
  subst hm
  refine wpList_step fun K hK => ?_
  rw [if_pos hw]
  obtain ⟨v', w', hr, h2, h3⟩ := run_append_two w base o.type v l l' p c hown hin hp hlen hbase
  unfold Oper.wp execOp
  simp only [ho, resolve, invoke, builtin, Sem.run_bind, Sem.run_pure, Result.andThen_ok, List.map_toArray, List.map_cons, List.map_nil, hs, hx, hr]
  exact hK _ _ (h v' w' h2 h3)
/-- Two rows of one's own, the one older than the other's beginning. -/
theorem own_apart {w w' : World} {B1 B2 : Nat} {v1 v2 : Value} {l1 l2 : List EntV} (h1 : EOwn w B1 v1 l1) (h2 : EOwn w' B2 v2 l2) (h : w.heap.size ≤ B2) : v2.ownBlock = none ∨ v2.ownBlock ≠ v1.ownBlock := by
  cases h3 : v2.ownBlock with
  | none => exact .inl rfl
  | some k =>
    right
    intro e
    have a := (World.ownsRow.lt h1 k e.symm).2
    have b := (World.ownsRow.lt h2 k h3).1
    omega
theorem own_apart' {w w' : World} {B1 B2 : Nat} {v1 v2 : Value} {l1 l2 : List EntV} (h1 : EOwn w B1 v1 l1) (h2 : EOwn w' B2 v2 l2) (h : w.heap.size ≤ B2) : v1.ownBlock = none ∨ v1.ownBlock ≠ v2.ownBlock := by
  cases h3 : v1.ownBlock with
  | none => exact .inl rfl
  | some k =>
    right
    intro e
    have a := (World.ownsRow.lt h1 k h3).2
    have b := (World.ownsRow.lt h2 k e.symm).1
    omega
theorem ents_grownE {w w' : World} {base : Nat} {v : Value} {l : List EntV} (h : EOwn w base v l) (hg : w.grownBy w' v.ownBlock) {w0 : World} (h0 : Below w0.heap.size w0 w) (hb : w0.heap.size ≤ base) : Below w0.heap.size w0 w' := h0.grown hg h0.size (fun k hk => by have := (World.ownsRow.lt h k hk).1; omega)
theorem results_cell_tmp2 {fn : Func} {p u x : Tmp} {ty : TypeId} (h : fn.results = #[.cell p ty, .tmp u, .tmp x]) (tmps : Array Value) (P : Program) (w : World) :
    (results fn tmps).run P w = ((asAddr (tmps.getD p undef)).run P w).andThen fun a w₁ => ((loadVar ty a).run P w₁).andThen fun v w₂ => .ok (.tuple #[v, tmps.getD u undef, tmps.getD x undef]) w₂ := by
  simp only [results, h]
  simp [Sem.run_bind, Result.andThen]
structure OnB (w : World) (v : Value) (l : List EntV) (wr : World) : Prop where
  own : EOwn wr w.heap.size v l
  bel : Below w.heap.size w wr
theorem OnB.next {w wr w' : World} {v : Value} {l : List EntV} (h : OnB w v l wr) (hb : Below wr.heap.size wr w') : OnB w v l w' := ⟨h.own.below hb, below_bt h.bel hb⟩
theorem OnB.app {w wr w' : World} {q : Option Addr} {c : Nat} {v' : Value} {l : List EntV} {k s : ByteArray} {i : Int} {g : Bool} (h : OnB w (.slice q l.length c) l wr) (hg : wr.grownBy w' (Value.slice q l.length c).ownBlock) (ho : w'.ownsRow w.heap.size 23 4 v' (l.length + 1) (cellsE l ++ [.string k, .string s, .int .i64 i, .bool g])) : OnB w v' (l ++ [⟨k, s, i, g⟩]) w' := by
  refine ⟨?_, h.bel.grown hg h.bel.size (fun k hk => (World.ownsRow.lt h.own k hk).1)⟩
  unfold EOwn
  rw [cellsE_app, List.length_append]
  exact ho
theorem ent_cells2 (w : World) (a b c d : Value) (t : TypeId) : ∀ j u, [a, b, c, d][j]? = some u → ((w.alloc (.cells #[a, b, c, d] t)).alloc (.cells #[a, b, c, d] t)).cell? ((⟨w.heap.size + 1, 0, none⟩ : Addr).add j) = some u := by
  have h := ent_cells (w.alloc (.cells #[a, b, c, d] t)) a b c d t
  rw [show (w.alloc (.cells #[a, b, c, d] t)).heap.size = w.heap.size + 1 by simp] at h
  exact h
end Go.Proofs.Ytbnacopefclklaa
namespace Go.Proofs.Ytbnacopefclklaa
open Go.RowKit Go.WideShapes

def leftN (al : List NodV) : Value → Nat
  | .pointer (some a) => al.length - posN al (.pointer (some a))
  | _ => 0
theorem make_ents (w : World) (c : Nat) (hc : c ≤ 5000) : ∃ w', (Instr.makeSlice 25 (.int .i64 0) (.int .i64 (c : Int))).run Try.prog w = .ok (.slice (some ⟨w.heap.size, 0, none⟩) 0 c) w' ∧ OnB w (.slice (some ⟨w.heap.size, 0, none⟩) 0 c) [] w' := by
  obtain ⟨i0, hi, hz0, hz1, hz2⟩ := info_parts' info_entry
  obtain ⟨w', h1, h2, h3⟩ := run_make_own (P := Try.prog) w w.heap.size 25 23 i0 _ 4 Try.underlying25 hi hz0 hz1 .i64 .i64 c (by rw [hz2]; omega) (by unfold maxLen; omega) (Nat.le_refl _)
  exact ⟨w', h1, ⟨h2, (Below.refl _ _).grown h3 (Nat.le_refl _) (fun k hk => by cases hk)⟩⟩
end Go.Proofs.Ytbnacopefclklaa
