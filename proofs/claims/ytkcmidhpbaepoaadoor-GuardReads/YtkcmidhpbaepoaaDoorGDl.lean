/-
  The document's long: how many bytes a token has. Written by tools/gen_gdl.py.
-/
import Derived.Test.YtkcmidhpbaepoaaDoorGDi
namespace Go.Proofs.YtkcmidhpbaepoaaDoor.G
open Go.RowKit Go.WideShapes Go.Joins

theorem drow_cells {w : World} {g : Nat} {a b c d e f : Value} (hh : w.heap[g]? = some (.cells #[a, b, c, d, e, f] 40 (0, 0))) :
    (w.cell? ⟨g, 0, none⟩ = some a ∧ w.cell? ⟨g, 1, none⟩ = some b ∧ w.cell? ⟨g, 2, none⟩ = some c ∧ w.cell? ⟨g, 3, none⟩ = some d ∧ w.cell? ⟨g, 4, none⟩ = some e ∧ w.cell? ⟨g, 5, none⟩ = some f) ∧
    w.frozen? ⟨g, 1, none⟩ = false ∧ w.frozen? ⟨g, 2, none⟩ = false ∧ w.frozen? ⟨g, 3, none⟩ = false ∧ w.frozen? ⟨g, 4, none⟩ = false ∧ w.frozen? ⟨g, 5, none⟩ = false :=
  ⟨⟨by rw [cell_of_block hh]; rfl, by rw [cell_of_block hh]; rfl, by rw [cell_of_block hh]; rfl, by rw [cell_of_block hh]; rfl, by rw [cell_of_block hh]; rfl, by rw [cell_of_block hh]; rfl⟩,
    unfrozen_of_block hh 1, unfrozen_of_block hh 2, unfrozen_of_block hh 3, unfrozen_of_block hh 4, unfrozen_of_block hh 5⟩
theorem dropD (l : List Nat) (p i : Nat) : (l.drop p).getD i 0 = l.getD (p + i) 0 := by
  rw [List.getD_eq_getElem?_getD, List.getElem?_drop, ← List.getD_eq_getElem?_getD]
/-! which tokens -/
theorem tl_sign (c : Nat) (r : List Nat) (h : isSg c = true ∨ c = 48) : (tok (c :: r)).2 = 1 := by
  rcases h with h | rfl
  · show (tokC c r).2 = 1
    unfold tokC
    rw [if_pos h]
  · rw [tok_digit 48 r (by decide)]
    have : digN (48 :: r) = 1 := by simp only [digN, if_true]
    rw [this]
    show (if J.tens [48] ≤ 9223372036854775807 then _ else _ : Tk × Nat).2 = 1
    rw [if_pos (by decide)]
theorem tl_dig (c : Nat) (r : List Nat) (h : isDg c = true) : (tok (c :: r)).2 = if J.tens ((c :: r).take (digN (c :: r))) ≤ 9223372036854775807 then digN (c :: r) else 0 := by
  rw [tok_digit c r h]
  split <;> rfl
theorem tl_txt (r : List Nat) (m : Nat) (h1 : m ≤ r.length) (h2 : ∀ i, i < m → r.getD i 0 ≠ 39) (h3 : m < r.length → r.getD m 0 = 39) : (tok (39 :: r)).2 = if m < r.length ∧ cnt isCh (r.take m) = m then m + 2 else 0 := by
  show (tokC 39 r).2 = _
  unfold tokC
  rw [if_neg (by decide), if_pos rfl]
  have hch : ∀ i, i < cnt isCh r → isCh (r.getD i 0) = true := fun i hi => cnt_lt hi
  have hle := cnt_le isCh r
  have key : (r.drop (cnt isCh r)).head? = some 39 ↔ (cnt isCh r < r.length ∧ r.getD (cnt isCh r) 0 = 39) := by
    rw [List.head?_drop, List.getElem?_eq_some_iff]
    constructor
    · rintro ⟨h, e⟩
      exact ⟨h, by rw [List.getD_eq_getElem?_getD, List.getElem?_eq_getElem h, e]; rfl⟩
    · rintro ⟨h, e⟩
      refine ⟨h, ?_⟩
      rw [List.getD_eq_getElem?_getD, List.getElem?_eq_getElem h] at e
      exact e
  have htk : cnt isCh (r.take m) = m ↔ m ≤ cnt isCh r := by
    constructor
    · intro e
      rcases Nat.lt_or_ge (cnt isCh r) m with h | h
      · exfalso
        have h9 := cnt_end (f := isCh) (l := r) (by omega)
        have h8 := cnt_lt (f := isCh) (l := r.take m) (i := cnt isCh r) (by omega)
        rw [List.getD_eq_getElem?_getD, List.getElem?_take_of_lt h, ← List.getD_eq_getElem?_getD, h9] at h8
        cases h8
      · exact h
    · intro h
      refine cnt_is (by rw [List.length_take]; omega) (fun i hi => ?_) (fun hn => ?_)
      · rw [List.getD_eq_getElem?_getD, List.getElem?_take_of_lt hi, ← List.getD_eq_getElem?_getD]
        exact hch i (by omega)
      · rw [List.length_take] at hn; omega
  by_cases hq : (r.drop (cnt isCh r)).head? = some 39
  · rw [if_pos hq]
    obtain ⟨a, b⟩ := key.1 hq
    have hm : m = cnt isCh r := by
      rcases Nat.lt_trichotomy m (cnt isCh r) with h | h | h
      · have := hch m h
        rw [h3 (by omega)] at this
        cases this
      · exact h
      · exact absurd b (h2 _ h)
    rw [if_pos ⟨by omega, htk.2 (by omega)⟩, hm]
  · rw [if_neg hq, if_neg]
    rintro ⟨a, b⟩
    have h9 := htk.1 b
    rcases Nat.lt_or_ge m (cnt isCh r) with h | h
    · have := hch m h
      rw [h3 a] at this
      cases this
    · have : cnt isCh r = m := by omega
      exact hq (key.2 ⟨by omega, by rw [this]; exact h3 a⟩)
theorem tl_word (c : Nat) (r : List Nat) (h : isSm c = true) : (tok (c :: r)).2 = if wordN (c :: r) ≤ 32 then wordN (c :: r) else 0 := by
  have hs : 97 ≤ c ∧ c ≤ 122 := by unfold isSm at h; simpa using h
  have h1 : isSg c = false := by
    unfold isSg
    simp only [Bool.or_eq_false_iff, decide_eq_false_iff_not]
    omega
  have h2 : isDg c = false := by unfold isDg; simp; omega
  have h3 : 1 ≤ wordN (c :: r) := by simp only [wordN, h, if_true]; omega
  show (tokC c r).2 = _
  unfold tokC
  rw [if_neg (by rw [h1]; simp), if_neg (by omega), if_neg (by rw [h2]; simp)]
  by_cases h4 : wordN (c :: r) ≤ 32
  · rw [if_neg (by omega), if_pos h4]
    split <;> rfl
  · rw [if_pos (by omega), if_neg h4]
theorem tl_else (c : Nat) (r : List Nat) (h1 : isSg c = false) (h2 : c ≠ 39) (h3 : isDg c = false) (h4 : isSm c = false) : (tok (c :: r)).2 = 0 := by
  show (tokC c r).2 = _
  unfold tokC
  rw [if_neg (by rw [h1]; simp), if_neg h2, if_neg (by rw [h3]; simp), if_pos (.inl (by simp only [wordN, h4]; rfl))]
theorem int_digs {X : ByteArray} {c : Nat} {r : List Nat} (hX : numsOf X = c :: r) (hc : c ≠ 48) (hd : ∀ x ∈ c :: r, isDg x = true) : IntIs X ∧ J.intOf (numsOf X) = (J.tens (c :: r) : Int) := by
  have hD : Digs X.data.toList := by
    intro x hx
    have h1 : x.toNat ∈ numsOf X := List.mem_map_of_mem hx
    rw [hX] at h1
    have := hd _ h1
    unfold isDg at this
    simpa using this
  obtain ⟨y, ys, hy⟩ : ∃ y ys, X.data.toList = y :: ys := by
    cases hl : X.data.toList with
    | nil => rw [show numsOf X = X.data.toList.map UInt8.toNat from rfl, hl] at hX; cases hX
    | cons y ys => exact ⟨y, ys, rfl⟩
  have hyc : y.toNat = c := by
    rw [show numsOf X = X.data.toList.map UInt8.toNat from rfl, hy, List.map_cons] at hX
    exact (List.cons.inj hX).1
  have hI : J.intOf (numsOf X) = (J.tens (c :: r) : Int) := by
    rw [hX]
    unfold J.intOf
    split
    · rename_i r' e
      have := hd c (by simp)
      have e1 := (List.cons.inj e).1
      rw [e1] at this
      exact absurd this (by decide)
    · rfl
  have hT : J.tens (c :: r) = foldU 0 X.data.toList := by rw [← tens_foldU, ← hX]; rfl
  refine ⟨⟨false, X.data.toList, hD, by rw [hy]; simp, fun e => ?_, rfl, ?_, by rw [hI, hT]; rfl⟩, hI⟩
  · rw [hy] at e
    simp only [List.head?_cons, Option.some.injEq] at e
    have := hD y (by rw [hy]; simp)
    rw [e] at this
    exact absurd this.1 (by decide)
  · rw [hI, hT]
    simp only [Bool.false_eq_true, if_false]
    rw [fits_iff hD most_digs (by decide) (by rw [most_fold]; decide) (.inr ⟨y, ys, hy, by rw [hyc]; exact hc⟩), most_fold]
    unfold J.Rng
    omega
/-- what long tells -/
structure LgP (S : ByteArray) (p : Nat) (w : World) (e : Ending) (w' : World) : Prop where
  ex : e = .returned (.int .i64 ((tok ((numsOf S).drop p)).2 : Int)) ∧ Below w.heap.size w w'
set_option maxHeartbeats 1000000 in
set_option maxRecDepth 8000 in
theorem long_sign (S : ByteArray) (p : Nat) (hs : S.size ≤ 16384) (c : Nat) (r : List Nat) (hr : (numsOf S).drop p = c :: r) (h : isSg c = true ∨ c = 48) (b : Nat) (w : World) (c0 : w.cell? ⟨b, 0, none⟩ = some (.string S)) :
    Calls Tryd.prog 17 #[rp b, .int .i64 (p : Int)] w fun e w' => LgP S p w e w' := by
  have hlen : p + r.length + 1 = S.size := by
    have := congrArg List.length hr
    rw [List.length_drop, numsOf_len, List.length_cons] at this
    omega
  have hg : ∀ i, (numsOf S).getD (p + 1 + i) 0 = r.getD i 0 := fun i => by
    have : ((numsOf S).drop p).getD (i + 1) 0 = r.getD i 0 := by rw [hr]; simp
    rw [← this, dropD, show p + (i + 1) = p + 1 + i by omega]
  have hx0 := fun w' => str_at S p (by omega) w'
  have hc0 : (numsOf S).getD p 0 = c := by
    have : ((numsOf S).drop p).getD 0 0 = c := by rw [hr]; rfl
    rw [← this, dropD, Nat.add_zero]
  rw [hc0] at hx0
  have hpI : (p : Int) < (S.size : Int) := by omega
  have hp0 : (0 : Int) ≤ (p : Int) := by omega
  have hsI : (S.size : Int) ≤ 16384 := by omega
  have HF : Hid (LgP S p w (.returned (.int .i64 1)) w) := ⟨by rw [hr, tl_sign c r h]; rfl, Below.refl _ _⟩
  have hcs : c = 61 ∨ c = 60 ∨ c = 43 ∨ c = 45 ∨ c = 42 ∨ c = 40 ∨ c = 41 ∨ c = 48 := by
    rcases h with h | h
    · rcases sg_one h with h | h | h | h | h | h | h <;> simp [h]
    · simp [h]
  clear h hr hlen hg hc0 hs
  rcases hcs with rfl | rfl | rfl | rfl | rfl | rfl | rfl | rfl
  · simp only [show (((61 : Nat) : Int)) = 61 from rfl] at hx0
    unfold rp
    go_enter Tryd.func17, Tryd.ntmps17
    go_wp2_with fail
    go_ret
    exact HF.out
  · simp only [show (((60 : Nat) : Int)) = 60 from rfl] at hx0
    unfold rp
    go_enter Tryd.func17, Tryd.ntmps17
    go_wp2_with fail
    go_ret
    exact HF.out
  · simp only [show (((43 : Nat) : Int)) = 43 from rfl] at hx0
    unfold rp
    go_enter Tryd.func17, Tryd.ntmps17
    go_wp2_with fail
    go_ret
    exact HF.out
  · simp only [show (((45 : Nat) : Int)) = 45 from rfl] at hx0
    unfold rp
    go_enter Tryd.func17, Tryd.ntmps17
    go_wp2_with fail
    go_ret
    exact HF.out
  · simp only [show (((42 : Nat) : Int)) = 42 from rfl] at hx0
    unfold rp
    go_enter Tryd.func17, Tryd.ntmps17
    go_wp2_with fail
    go_ret
    exact HF.out
  · simp only [show (((40 : Nat) : Int)) = 40 from rfl] at hx0
    unfold rp
    go_enter Tryd.func17, Tryd.ntmps17
    go_wp2_with fail
    go_ret
    exact HF.out
  · simp only [show (((41 : Nat) : Int)) = 41 from rfl] at hx0
    unfold rp
    go_enter Tryd.func17, Tryd.ntmps17
    go_wp2_with fail
    go_ret
    exact HF.out
  · simp only [show (((48 : Nat) : Int)) = 48 from rfl] at hx0
    unfold rp
    go_enter Tryd.func17, Tryd.ntmps17
    go_wp2_with fail
    go_ret
    exact HF.out
set_option maxHeartbeats 1000000 in
set_option maxRecDepth 8000 in
theorem long_else (S : ByteArray) (p : Nat) (hs : S.size ≤ 16384) (c : Nat) (r : List Nat) (hr : (numsOf S).drop p = c :: r) (h1 : isSg c = false) (h2 : c ≠ 39) (h3 : isDg c = false) (h4 : isSm c = false) (b : Nat) (w : World) (c0 : w.cell? ⟨b, 0, none⟩ = some (.string S)) :
    Calls Tryd.prog 17 #[rp b, .int .i64 (p : Int)] w fun e w' => LgP S p w e w' := by
  have hlen : p + r.length + 1 = S.size := by
    have := congrArg List.length hr
    rw [List.length_drop, numsOf_len, List.length_cons] at this
    omega
  have hg : ∀ i, (numsOf S).getD (p + 1 + i) 0 = r.getD i 0 := fun i => by
    have : ((numsOf S).drop p).getD (i + 1) 0 = r.getD i 0 := by rw [hr]; simp
    rw [← this, dropD, show p + (i + 1) = p + 1 + i by omega]
  have hx0 := fun w' => str_at S p (by omega) w'
  have hc0 : (numsOf S).getD p 0 = c := by
    have : ((numsOf S).drop p).getD 0 0 = c := by rw [hr]; rfl
    rw [← this, dropD, Nat.add_zero]
  rw [hc0] at hx0
  have hpI : (p : Int) < (S.size : Int) := by omega
  have hp0 : (0 : Int) ≤ (p : Int) := by omega
  have hsI : (S.size : Int) ≤ 16384 := by omega
  have HF : Hid (LgP S p w (.returned (.int .i64 0)) w) := ⟨by rw [hr, tl_else c r h1 h2 h3 h4]; rfl, Below.refl _ _⟩
  have k1 : c ≠ 61 ∧ c ≠ 60 ∧ c ≠ 43 ∧ c ≠ 45 ∧ c ≠ 42 ∧ c ≠ 40 ∧ c ≠ 41 := by
    unfold isSg at h1
    simp only [Bool.or_eq_false_iff, decide_eq_false_iff_not] at h1
    omega
  have k3 : c < 48 ∨ 57 < c := by unfold isDg at h3; simp at h3; omega
  have k4 : c < 97 ∨ 122 < c := by unfold isSm at h4; simp at h4; omega
  have n61 : ((c : Int) == 61) = false := bset c 61 (by omega)
  have n60 : ((c : Int) == 60) = false := bset c 60 (by omega)
  have n43 : ((c : Int) == 43) = false := bset c 43 (by omega)
  have n45 : ((c : Int) == 45) = false := bset c 45 (by omega)
  have n42 : ((c : Int) == 42) = false := bset c 42 (by omega)
  have n40 : ((c : Int) == 40) = false := bset c 40 (by omega)
  have n41 : ((c : Int) == 41) = false := bset c 41 (by omega)
  have n48 : ((c : Int) == 48) = false := bset c 48 (by omega)
  have n39 : ((c : Int) == 39) = false := bset c 39 h2
  clear h1 h2 h3 h4 hr hlen hg hc0 hs
  rcases k3 with k3 | k3
  · have i1 : ¬ (49 : Int) ≤ (c : Int) := by omega
    have i2 : ¬ (97 : Int) ≤ (c : Int) := by omega
    clear k1 k3 k4
    unfold rp
    go_enter Tryd.func17, Tryd.ntmps17
    go_wp2_with fail
    go_ret
    exact HF.out
  · have i1 : (49 : Int) ≤ (c : Int) := by omega
    have i3 : ¬ (c : Int) ≤ 57 := by omega
    rcases k4 with k4 | k4
    · have i2 : ¬ (97 : Int) ≤ (c : Int) := by omega
      clear k1 k3 k4
      unfold rp
      go_enter Tryd.func17, Tryd.ntmps17
      go_wp2_with fail
      go_ret
      exact HF.out
    · have i2 : (97 : Int) ≤ (c : Int) := by omega
      have i4 : ¬ (c : Int) ≤ 122 := by omega
      clear k1 k3 k4
      unfold rp
      go_enter Tryd.func17, Tryd.ntmps17
      go_wp2_with fail
      go_ret
      exact HF.out
/-- Between two bytes of a token. -/
inductive LgI (Q : Nat → Prop) (r : List Nat) (w : World) (t : Value) (wr : World) : Prop where
  | intro (k : Nat) (hk : k ≤ r.length) (ht : t = .int .i64 ((k + 1 : Nat) : Int)) (hw : wr = w) (h : ∀ i, i < k → Q (r.getD i 0))
set_option maxHeartbeats 1000000 in
set_option maxRecDepth 8000 in
theorem long_word (S : ByteArray) (p : Nat) (hs : S.size ≤ 16384) (c : Nat) (r : List Nat) (hr : (numsOf S).drop p = c :: r) (h : isSm c = true) (b : Nat) (w : World) (c0 : w.cell? ⟨b, 0, none⟩ = some (.string S)) :
    Calls Tryd.prog 17 #[rp b, .int .i64 (p : Int)] w fun e w' => LgP S p w e w' := by
  have hlen : p + r.length + 1 = S.size := by
    have := congrArg List.length hr
    rw [List.length_drop, numsOf_len, List.length_cons] at this
    omega
  have hg : ∀ i, (numsOf S).getD (p + 1 + i) 0 = r.getD i 0 := fun i => by
    have : ((numsOf S).drop p).getD (i + 1) 0 = r.getD i 0 := by rw [hr]; simp
    rw [← this, dropD, show p + (i + 1) = p + 1 + i by omega]
  have hx0 := fun w' => str_at S p (by omega) w'
  have hc0 : (numsOf S).getD p 0 = c := by
    have : ((numsOf S).drop p).getD 0 0 = c := by rw [hr]; rfl
    rw [← this, dropD, Nat.add_zero]
  rw [hc0] at hx0
  have hpI : (p : Int) < (S.size : Int) := by omega
  have hp0 : (0 : Int) ≤ (p : Int) := by omega
  have hsI : (S.size : Int) ≤ 16384 := by omega
  have hh : 97 ≤ c ∧ c ≤ 122 := by unfold isSm at h; simpa using h
  have n61 : ((c : Int) == 61) = false := bset c 61 (by omega)
  have n60 : ((c : Int) == 60) = false := bset c 60 (by omega)
  have n43 : ((c : Int) == 43) = false := bset c 43 (by omega)
  have n45 : ((c : Int) == 45) = false := bset c 45 (by omega)
  have n42 : ((c : Int) == 42) = false := bset c 42 (by omega)
  have n40 : ((c : Int) == 40) = false := bset c 40 (by omega)
  have n41 : ((c : Int) == 41) = false := bset c 41 (by omega)
  have n48 : ((c : Int) == 48) = false := bset c 48 (by omega)
  have n39 : ((c : Int) == 39) = false := bset c 39 (by omega)
  have i1 : (49 : Int) ≤ (c : Int) := by omega
  have i2 : ¬ (c : Int) ≤ 57 := by omega
  have i3 : (97 : Int) ≤ (c : Int) := by omega
  have i4 : (c : Int) ≤ 122 := by omega
  have HR : Hid ((numsOf S).drop p = c :: r ∧ p + r.length + 1 = S.size ∧ (∀ i, (numsOf S).getD (p + 1 + i) 0 = r.getD i 0)) := ⟨hr, hlen, hg⟩
  have HS : Hid (isSm c = true) := h
  clear h hh hr hlen hg hc0 hs
  unfold rp
  go_enter Tryd.func17, Tryd.ntmps17
  go_wp2_with fail
  go_loopw [6] (fun t wr => LgI (fun d => isLt d = true) r w t wr) (fun t _ => S.size - (intOf t).toNat)
  case atStart => exact ⟨0, Nat.zero_le _, rfl, rfl, fun i h => absurd h (Nat.not_lt_zero _)⟩
  case round =>
    obtain ⟨k, hk, rfl, hw, h⟩ := hrel
    subst hw
    have HK : Hid (k ≤ r.length ∧ ∀ i, i < k → isLt (r.getD i 0) = true) := ⟨hk, h⟩
    obtain ⟨N, hN⟩ : ∃ N : Int, ((k + 1 : Nat) : Int) = N := ⟨_, rfl⟩
    have HN : Hid (((k + 1 : Nat) : Int) = N) := hN
    rw [hN]
    have hN1 : 1 ≤ N := by omega
    have hlen := HR.out.2.1
    have hNs : (p : Int) + N ≤ (S.size : Int) := by omega
    clear h
    by_cases hlt : k < r.length
    · have hkI : (p : Int) + N < (S.size : Int) := by omega
      have hx : ∀ w', (Instr.index 9 (.string S) (.int .i64 ((p : Int) + N))).run Tryd.prog w' = .ok (.int .u8 ((r.getD k 0 : Nat) : Int)) w' := fun w' => by
        have := str_at S (p + 1 + k) (by omega) w'
        rw [HR.out.2.2 k] at this
        rw [show (p : Int) + N = ((p + 1 + k : Nat) : Int) by omega]
        exact this
      have HC : Hid (k < r.length) := hlt
      obtain ⟨d, hd⟩ : ∃ d, r.getD k 0 = d := ⟨_, rfl⟩
      rw [hd] at hx
      have HD : Hid (r.getD k 0 = d) := hd
      have LT := fun w' => Letter_any d w'
      clear hd hlt hk hN hlen
      cases hb : isLt d with
      | true =>
        have HQ : Hid (isLt d = true) := hb
        rw [hb] at LT
        clear hb
        go_wp2_with (first | (go_at_call 29; refine (LT _).mono ?_; rintro e w5 ⟨rfl, rfl⟩) | fail)
        go_roundw
        case rel =>
          refine ⟨k + 1, by have := HC.out; omega, by have := HN.out; go_num, rfl, fun i hi => ?_⟩
          rcases Nat.lt_or_ge i k with h3 | h3
          · exact HK.out.2 i h3
          · obtain rfl : i = k := by omega
            rw [HD.out]; exact HQ.out
        case measure => have := HC.out; have := HR.out.2.1; have := HN.out; simp [intOf]; omega
      | false =>
        have HE : Hid ((tok ((numsOf S).drop p)).2 = if k + 1 ≤ 32 then k + 1 else 0) := by
          show _ = _
          have : wordN (c :: r) = k + 1 := by
            simp only [wordN, HS.out, if_true]
            rw [cnt_is HK.out.1 HK.out.2 (fun _ => by rw [HD.out]; exact hb)]
          rw [HR.out.1, tl_word c r HS.out, this]
        rw [hb] at LT
        clear hb
        by_cases h32 : k + 1 ≤ 32
        · have i5 : N ≤ 32 := by have := HN.out; omega
          have HV : Hid ((tok ((numsOf S).drop p)).2 = k + 1) := by show _ = _; rw [HE.out, if_pos h32]
          clear h32
          go_wp2_with (first | (go_at_call 29; refine (LT _).mono ?_; rintro e w5 ⟨rfl, rfl⟩) | fail)
          go_ret
          exact ⟨by rw [HV.out, HN.out]; rfl, Below.refl _ _⟩
        · have i5 : ¬ N ≤ 32 := by have := HN.out; omega
          have HV : Hid ((tok ((numsOf S).drop p)).2 = 0) := by show _ = _; rw [HE.out, if_neg h32]
          clear h32
          go_wp2_with (first | (go_at_call 29; refine (LT _).mono ?_; rintro e w5 ⟨rfl, rfl⟩) | fail)
          go_ret
          exact ⟨by rw [HV.out]; rfl, Below.refl _ _⟩
    · have hkI : ¬ (p : Int) + N < (S.size : Int) := by omega
      have HE : Hid ((tok ((numsOf S).drop p)).2 = if k + 1 ≤ 32 then k + 1 else 0) := by
        show _ = _
        have : wordN (c :: r) = k + 1 := by
          simp only [wordN, HS.out, if_true]
          rw [cnt_is HK.out.1 HK.out.2 (fun h => absurd h hlt)]
        rw [HR.out.1, tl_word c r HS.out, this]
      clear hlt hk hN hlen
      by_cases h32 : k + 1 ≤ 32
      · have i5 : N ≤ 32 := by have := HN.out; omega
        have HV : Hid ((tok ((numsOf S).drop p)).2 = k + 1) := by show _ = _; rw [HE.out, if_pos h32]
        clear h32
        go_wp2_with fail
        go_ret
        exact ⟨by rw [HV.out, HN.out]; rfl, Below.refl _ _⟩
      · have i5 : ¬ N ≤ 32 := by have := HN.out; omega
        have HV : Hid ((tok ((numsOf S).drop p)).2 = 0) := by show _ = _; rw [HE.out, if_neg h32]
        clear h32
        go_wp2_with fail
        go_ret
        exact ⟨by rw [HV.out]; rfl, Below.refl _ _⟩
set_option maxHeartbeats 1000000 in
set_option maxRecDepth 8000 in
theorem long_dig (S : ByteArray) (p : Nat) (hs : S.size ≤ 16384) (c : Nat) (r : List Nat) (hr : (numsOf S).drop p = c :: r) (h : isDg c = true) (h48 : c ≠ 48) (b : Nat) (w : World) (c0 : w.cell? ⟨b, 0, none⟩ = some (.string S)) :
    Calls Tryd.prog 17 #[rp b, .int .i64 (p : Int)] w fun e w' => LgP S p w e w' := by
  have hlen : p + r.length + 1 = S.size := by
    have := congrArg List.length hr
    rw [List.length_drop, numsOf_len, List.length_cons] at this
    omega
  have hg : ∀ i, (numsOf S).getD (p + 1 + i) 0 = r.getD i 0 := fun i => by
    have : ((numsOf S).drop p).getD (i + 1) 0 = r.getD i 0 := by rw [hr]; simp
    rw [← this, dropD, show p + (i + 1) = p + 1 + i by omega]
  have hx0 := fun w' => str_at S p (by omega) w'
  have hc0 : (numsOf S).getD p 0 = c := by
    have : ((numsOf S).drop p).getD 0 0 = c := by rw [hr]; rfl
    rw [← this, dropD, Nat.add_zero]
  rw [hc0] at hx0
  have hpI : (p : Int) < (S.size : Int) := by omega
  have hp0 : (0 : Int) ≤ (p : Int) := by omega
  have hsI : (S.size : Int) ≤ 16384 := by omega
  have hh : 49 ≤ c ∧ c ≤ 57 := by unfold isDg at h; simp at h; omega
  have n61 : ((c : Int) == 61) = false := bset c 61 (by omega)
  have n60 : ((c : Int) == 60) = false := bset c 60 (by omega)
  have n43 : ((c : Int) == 43) = false := bset c 43 (by omega)
  have n45 : ((c : Int) == 45) = false := bset c 45 (by omega)
  have n42 : ((c : Int) == 42) = false := bset c 42 (by omega)
  have n40 : ((c : Int) == 40) = false := bset c 40 (by omega)
  have n41 : ((c : Int) == 41) = false := bset c 41 (by omega)
  have n48 : ((c : Int) == 48) = false := bset c 48 (by omega)
  have i1 : (49 : Int) ≤ (c : Int) := by omega
  have i2 : (c : Int) ≤ 57 := by omega
  have HR : Hid ((numsOf S).drop p = c :: r ∧ p + r.length + 1 = S.size ∧ (∀ i, (numsOf S).getD (p + 1 + i) 0 = r.getD i 0)) := ⟨hr, hlen, hg⟩
  have HS : Hid (isDg c = true ∧ c ≠ 48) := ⟨h, h48⟩
  clear h hh hr hlen hg hc0 hs h48
  unfold rp
  go_enter Tryd.func17, Tryd.ntmps17
  go_wp2_with fail
  go_loopw [6] (fun t wr => LgI (fun d => isDg d = true) r w t wr) (fun t _ => S.size - (intOf t).toNat)
  case atStart => exact ⟨0, Nat.zero_le _, rfl, rfl, fun i h => absurd h (Nat.not_lt_zero _)⟩
  case round =>
    obtain ⟨k, hk, rfl, hw, h⟩ := hrel
    subst hw
    have HK : Hid (k ≤ r.length ∧ ∀ i, i < k → isDg (r.getD i 0) = true) := ⟨hk, h⟩
    obtain ⟨N, hN⟩ : ∃ N : Int, ((k + 1 : Nat) : Int) = N := ⟨_, rfl⟩
    have HN : Hid (((k + 1 : Nat) : Int) = N) := hN
    rw [hN]
    have hN1 : 1 ≤ N := by omega
    have hlen := HR.out.2.1
    have hNs : (p : Int) + N ≤ (S.size : Int) := by omega
    clear h
    by_cases hlt : k < r.length
    · have hkI : (p : Int) + N < (S.size : Int) := by omega
      have hx : ∀ w', (Instr.index 9 (.string S) (.int .i64 ((p : Int) + N))).run Tryd.prog w' = .ok (.int .u8 ((r.getD k 0 : Nat) : Int)) w' := fun w' => by
        have := str_at S (p + 1 + k) (by omega) w'
        rw [HR.out.2.2 k] at this
        rw [show (p : Int) + N = ((p + 1 + k : Nat) : Int) by omega]
        exact this
      have HC : Hid (k < r.length) := hlt
      obtain ⟨d, hd⟩ : ∃ d, r.getD k 0 = d := ⟨_, rfl⟩
      rw [hd] at hx
      have HD : Hid (r.getD k 0 = d) := hd
      by_cases hlo : 48 ≤ d
      · have j1 : (48 : Int) ≤ (d : Int) := by omega
        by_cases hhi : d ≤ 57
        · have j2 : (d : Int) ≤ 57 := by omega
          have HQ : Hid (isDg d = true) := by show _ = _; unfold isDg; simp; omega
          clear hd hlt hk hN hlen hlo hhi
          go_wp2_with fail
          go_roundw
          case rel =>
            refine ⟨k + 1, by have := HC.out; omega, by have := HN.out; go_num, rfl, fun i hi => ?_⟩
            rcases Nat.lt_or_ge i k with h3 | h3
            · exact HK.out.2 i h3
            · obtain rfl : i = k := by omega
              rw [HD.out]; exact HQ.out
          case measure => have := HC.out; have := HR.out.2.1; have := HN.out; simp [intOf]; omega
        · have j2 : ¬ (d : Int) ≤ 57 := by omega
          have HQ : Hid (isDg d = false) := by show _ = _; unfold isDg; simp; omega
          obtain ⟨X, hX⟩ : ∃ X, S.extract p (p + (k + 1)) = X := ⟨_, rfl⟩
          have HE : Hid (digN (c :: r) = k + 1) := by
            show _ = _
            simp only [digN, if_neg HS.out.2]
            rw [cnt_is HK.out.1 HK.out.2 (fun _ => by rw [HD.out]; exact HQ.out)]
          have HX : Hid (S.extract p (p + (k + 1)) = X ∧ J.tens (numsOf X) = J.tens ((c :: r).take (digN (c :: r))) ∧ IntIs X ∧ J.intOf (numsOf X) = (J.tens (numsOf X) : Int) ∧ X.size ≤ 20000) := by
            have h1 : numsOf X = c :: r.take k := by
              rw [← hX, extract_nums, HR.out.1, show p + (k + 1) - p = k + 1 by omega, List.take_succ_cons]
            have h2 := int_digs h1 HS.out.2 (fun x hx => by
              have := dig_all (l := r) HS.out.1
              rw [HE.out, List.take_succ_cons] at this
              exact this x hx)
            refine ⟨hX, by rw [h1, HE.out, List.take_succ_cons], h2.1, by rw [h2.2, h1], ?_⟩
            rw [← numsOf_len, h1, List.length_cons, List.length_take]
            have := HR.out.2.1; omega
          clear hX
          clear hd hlo hhi
          have XS : ∀ w', (Instr.slice 9 (.string S) (some (.int .i64 (p : Int))) (some (.int .i64 ((p : Int) + N))) none).run Tryd.prog w' = .ok (.string X) w' := fun w' => by
            rw [← HX.out.1, show (p : Int) + N = ((p + (k + 1) : Nat) : Int) by have := HN.out; omega]
            exact slice_mid S p (p + (k + 1)) (by omega) (by have := HK.out.1; have := HR.out.2.1; omega) w'
          have DI := fun w' => dInt_any X HX.out.2.2.1 HX.out.2.2.2.2 w'
          clear hlt hk hN hlen
          go_wp2_with fail
          refine (DI _).mono ?_
          rintro e w3 ⟨n, f, rfl, hf1, _, hb3⟩
          have HV : Hid (f = true ↔ J.tens ((c :: r).take (digN (c :: r))) ≤ 9223372036854775807) := by
            show _ ↔ _
            rw [hf1, HX.out.2.2.2.1]
            unfold J.Rng
            rw [HX.out.2.1]
            omega
          have HB3 : Hid (Below wr.heap.size wr w3) := hb3
          clear hf1 hb3 DI
          simp only []
          cases f with
          | true =>
            have HT : Hid ((tok ((numsOf S).drop p)).2 = k + 1) := by show _ = _; rw [HR.out.1, tl_dig c r HS.out.1, if_pos (HV.out.1 rfl), HE.out]
            clear HV
            go_wp2_with fail
            go_ret
            exact ⟨by rw [HT.out, HN.out]; rfl, HB3.out⟩
          | false =>
            have HT : Hid ((tok ((numsOf S).drop p)).2 = 0) := by show _ = _; rw [HR.out.1, tl_dig c r HS.out.1, if_neg (fun h => by have := HV.out.2 h; cases this)]
            clear HV
            go_wp2_with fail
            go_ret
            exact ⟨by rw [HT.out]; rfl, HB3.out⟩
      · have j1 : ¬ (48 : Int) ≤ (d : Int) := by omega
        have HQ : Hid (isDg d = false) := by show _ = _; unfold isDg; simp; omega
        obtain ⟨X, hX⟩ : ∃ X, S.extract p (p + (k + 1)) = X := ⟨_, rfl⟩
        have HE : Hid (digN (c :: r) = k + 1) := by
          show _ = _
          simp only [digN, if_neg HS.out.2]
          rw [cnt_is HK.out.1 HK.out.2 (fun _ => by rw [HD.out]; exact HQ.out)]
        have HX : Hid (S.extract p (p + (k + 1)) = X ∧ J.tens (numsOf X) = J.tens ((c :: r).take (digN (c :: r))) ∧ IntIs X ∧ J.intOf (numsOf X) = (J.tens (numsOf X) : Int) ∧ X.size ≤ 20000) := by
          have h1 : numsOf X = c :: r.take k := by
            rw [← hX, extract_nums, HR.out.1, show p + (k + 1) - p = k + 1 by omega, List.take_succ_cons]
          have h2 := int_digs h1 HS.out.2 (fun x hx => by
            have := dig_all (l := r) HS.out.1
            rw [HE.out, List.take_succ_cons] at this
            exact this x hx)
          refine ⟨hX, by rw [h1, HE.out, List.take_succ_cons], h2.1, by rw [h2.2, h1], ?_⟩
          rw [← numsOf_len, h1, List.length_cons, List.length_take]
          have := HR.out.2.1; omega
        clear hX
        clear hd hlo
        have XS : ∀ w', (Instr.slice 9 (.string S) (some (.int .i64 (p : Int))) (some (.int .i64 ((p : Int) + N))) none).run Tryd.prog w' = .ok (.string X) w' := fun w' => by
          rw [← HX.out.1, show (p : Int) + N = ((p + (k + 1) : Nat) : Int) by have := HN.out; omega]
          exact slice_mid S p (p + (k + 1)) (by omega) (by have := HK.out.1; have := HR.out.2.1; omega) w'
        have DI := fun w' => dInt_any X HX.out.2.2.1 HX.out.2.2.2.2 w'
        clear hlt hk hN hlen
        go_wp2_with fail
        refine (DI _).mono ?_
        rintro e w3 ⟨n, f, rfl, hf1, _, hb3⟩
        have HV : Hid (f = true ↔ J.tens ((c :: r).take (digN (c :: r))) ≤ 9223372036854775807) := by
          show _ ↔ _
          rw [hf1, HX.out.2.2.2.1]
          unfold J.Rng
          rw [HX.out.2.1]
          omega
        have HB3 : Hid (Below wr.heap.size wr w3) := hb3
        clear hf1 hb3 DI
        simp only []
        cases f with
        | true =>
          have HT : Hid ((tok ((numsOf S).drop p)).2 = k + 1) := by show _ = _; rw [HR.out.1, tl_dig c r HS.out.1, if_pos (HV.out.1 rfl), HE.out]
          clear HV
          go_wp2_with fail
          go_ret
          exact ⟨by rw [HT.out, HN.out]; rfl, HB3.out⟩
        | false =>
          have HT : Hid ((tok ((numsOf S).drop p)).2 = 0) := by show _ = _; rw [HR.out.1, tl_dig c r HS.out.1, if_neg (fun h => by have := HV.out.2 h; cases this)]
          clear HV
          go_wp2_with fail
          go_ret
          exact ⟨by rw [HT.out]; rfl, HB3.out⟩
    · have hkI : ¬ (p : Int) + N < (S.size : Int) := by omega
      obtain ⟨X, hX⟩ : ∃ X, S.extract p (p + (k + 1)) = X := ⟨_, rfl⟩
      have HE : Hid (digN (c :: r) = k + 1) := by
        show _ = _
        simp only [digN, if_neg HS.out.2]
        rw [cnt_is HK.out.1 HK.out.2 (fun h => absurd h hlt)]
      have HX : Hid (S.extract p (p + (k + 1)) = X ∧ J.tens (numsOf X) = J.tens ((c :: r).take (digN (c :: r))) ∧ IntIs X ∧ J.intOf (numsOf X) = (J.tens (numsOf X) : Int) ∧ X.size ≤ 20000) := by
        have h1 : numsOf X = c :: r.take k := by
          rw [← hX, extract_nums, HR.out.1, show p + (k + 1) - p = k + 1 by omega, List.take_succ_cons]
        have h2 := int_digs h1 HS.out.2 (fun x hx => by
          have := dig_all (l := r) HS.out.1
          rw [HE.out, List.take_succ_cons] at this
          exact this x hx)
        refine ⟨hX, by rw [h1, HE.out, List.take_succ_cons], h2.1, by rw [h2.2, h1], ?_⟩
        rw [← numsOf_len, h1, List.length_cons, List.length_take]
        have := HR.out.2.1; omega
      clear hX
      have XS : ∀ w', (Instr.slice 9 (.string S) (some (.int .i64 (p : Int))) (some (.int .i64 ((p : Int) + N))) none).run Tryd.prog w' = .ok (.string X) w' := fun w' => by
        rw [← HX.out.1, show (p : Int) + N = ((p + (k + 1) : Nat) : Int) by have := HN.out; omega]
        exact slice_mid S p (p + (k + 1)) (by omega) (by have := HK.out.1; have := HR.out.2.1; omega) w'
      have DI := fun w' => dInt_any X HX.out.2.2.1 HX.out.2.2.2.2 w'
      clear hlt hk hN hlen
      go_wp2_with fail
      refine (DI _).mono ?_
      rintro e w3 ⟨n, f, rfl, hf1, _, hb3⟩
      have HV : Hid (f = true ↔ J.tens ((c :: r).take (digN (c :: r))) ≤ 9223372036854775807) := by
        show _ ↔ _
        rw [hf1, HX.out.2.2.2.1]
        unfold J.Rng
        rw [HX.out.2.1]
        omega
      have HB3 : Hid (Below wr.heap.size wr w3) := hb3
      clear hf1 hb3 DI
      simp only []
      cases f with
      | true =>
        have HT : Hid ((tok ((numsOf S).drop p)).2 = k + 1) := by show _ = _; rw [HR.out.1, tl_dig c r HS.out.1, if_pos (HV.out.1 rfl), HE.out]
        clear HV
        go_wp2_with fail
        go_ret
        exact ⟨by rw [HT.out, HN.out]; rfl, HB3.out⟩
      | false =>
        have HT : Hid ((tok ((numsOf S).drop p)).2 = 0) := by show _ = _; rw [HR.out.1, tl_dig c r HS.out.1, if_neg (fun h => by have := HV.out.2 h; cases this)]
        clear HV
        go_wp2_with fail
        go_ret
        exact ⟨by rw [HT.out]; rfl, HB3.out⟩
set_option maxHeartbeats 1000000 in
set_option maxRecDepth 8000 in
theorem long_txt (S : ByteArray) (p : Nat) (hs : S.size ≤ 16384) (r : List Nat) (hr : (numsOf S).drop p = 39 :: r) (b : Nat) (w : World) (c0 : w.cell? ⟨b, 0, none⟩ = some (.string S)) :
    Calls Tryd.prog 17 #[rp b, .int .i64 (p : Int)] w fun e w' => LgP S p w e w' := by
  have hlen : p + r.length + 1 = S.size := by
    have := congrArg List.length hr
    rw [List.length_drop, numsOf_len, List.length_cons] at this
    omega
  have hg : ∀ i, (numsOf S).getD (p + 1 + i) 0 = r.getD i 0 := fun i => by
    have : ((numsOf S).drop p).getD (i + 1) 0 = r.getD i 0 := by rw [hr]; simp
    rw [← this, dropD, show p + (i + 1) = p + 1 + i by omega]
  have hx0 := fun w' => str_at S p (by omega) w'
  have hc0 : (numsOf S).getD p 0 = 39 := by
    have : ((numsOf S).drop p).getD 0 0 = 39 := by rw [hr]; rfl
    rw [← this, dropD, Nat.add_zero]
  rw [hc0] at hx0
  have hpI : (p : Int) < (S.size : Int) := by omega
  have hp0 : (0 : Int) ≤ (p : Int) := by omega
  have hsI : (S.size : Int) ≤ 16384 := by omega
  have hcI : ((39 : Nat) : Int) = 39 := rfl
  simp only [hcI] at hx0
  have HR : Hid ((numsOf S).drop p = 39 :: r ∧ p + r.length + 1 = S.size ∧ (∀ i, (numsOf S).getD (p + 1 + i) 0 = r.getD i 0)) := ⟨hr, hlen, hg⟩
  clear hr hlen hg hc0 hs hcI
  unfold rp
  go_enter Tryd.func17, Tryd.ntmps17
  go_wp2_with fail
  go_loopw [6] (fun t wr => LgI (fun d => d ≠ 39) r w t wr) (fun t _ => S.size - (intOf t).toNat)
  case atStart => exact ⟨0, Nat.zero_le _, rfl, rfl, fun i h => absurd h (Nat.not_lt_zero _)⟩
  case round =>
    obtain ⟨k, hk, rfl, hw, h⟩ := hrel
    subst hw
    have HK : Hid (k ≤ r.length ∧ ∀ i, i < k → r.getD i 0 ≠ 39) := ⟨hk, h⟩
    obtain ⟨N, hN⟩ : ∃ N : Int, ((k + 1 : Nat) : Int) = N := ⟨_, rfl⟩
    have HN : Hid (((k + 1 : Nat) : Int) = N) := hN
    rw [hN]
    have hN1 : 1 ≤ N := by omega
    have hlen := HR.out.2.1
    have hNs : (p : Int) + N ≤ (S.size : Int) := by omega
    clear h
    by_cases hlt : k < r.length
    · have hkI : (p : Int) + N < (S.size : Int) := by omega
      have hx : ∀ w', (Instr.index 9 (.string S) (.int .i64 ((p : Int) + N))).run Tryd.prog w' = .ok (.int .u8 ((r.getD k 0 : Nat) : Int)) w' := fun w' => by
        have := str_at S (p + 1 + k) (by omega) w'
        rw [HR.out.2.2 k] at this
        rw [show (p : Int) + N = ((p + 1 + k : Nat) : Int) by omega]
        exact this
      have HC : Hid (k < r.length) := hlt
      obtain ⟨d, hd⟩ : ∃ d, r.getD k 0 = d := ⟨_, rfl⟩
      rw [hd] at hx
      have HD : Hid (r.getD k 0 = d) := hd
      by_cases h39 : d = 39
      · have e1 : ((d : Int) == 39) = true := by rw [h39]; rfl
        have e1n : ((d : Int) != 39) = false := by rw [h39]; rfl
        obtain ⟨X, hX⟩ : ∃ X, S.extract (p + 1) (p + (k + 1)) = X := ⟨_, rfl⟩
        have h1 : numsOf X = r.take k := by
          rw [← hX, extract_nums, show (numsOf S).drop (p + 1) = r by rw [← List.drop_drop, HR.out.1]; rfl, show p + (k + 1) - (p + 1) = k by omega]
        have hXs : X.size = k := by rw [← numsOf_len, h1, List.length_take]; omega
        have HE : Hid ((tok ((numsOf S).drop p)).2 = if cnt isCh (numsOf X) = X.size then k + 2 else 0) := by
          show _ = _
          rw [HR.out.1, tl_txt r k HK.out.1 HK.out.2 (fun _ => by rw [HD.out]; exact h39), h1, hXs]
          simp only [hlt, true_and]
        have XS : ∀ w', (Instr.slice 9 (.string S) (some (.int .i64 ((p : Int) + 1))) (some (.int .i64 ((p : Int) + N))) none).run Tryd.prog w' = .ok (.string X) w' := fun w' => by
          rw [← hX, show (p : Int) + N = ((p + (k + 1) : Nat) : Int) by omega, show (p : Int) + 1 = ((p + 1 : Nat) : Int) by omega]
          exact slice_mid S (p + 1) (p + (k + 1)) (by omega) (by omega) w'
        have QU := fun w' => quotable_any X (by omega) w'
        clear hd hlt hk hN hlen h39 hX h1 hXs
        by_cases hq : cnt isCh (numsOf X) = X.size
        · have HV : Hid ((tok ((numsOf S).drop p)).2 = k + 2) := by show _ = _; rw [HE.out, if_pos hq]
          rw [decide_eq_true hq] at QU
          clear hq
          go_wp2_with (first | (go_at_call 28; refine (QU _).mono ?_; rintro e w5 ⟨rfl, rfl⟩) | fail)
          go_ret
          exact ⟨by rw [HV.out, show ((k + 2 : Nat) : Int) = N + 1 by have := HN.out; omega]; rfl, Below.refl _ _⟩
        · have HV : Hid ((tok ((numsOf S).drop p)).2 = 0) := by show _ = _; rw [HE.out, if_neg hq]
          rw [decide_eq_false hq] at QU
          clear hq
          go_wp2_with (first | (go_at_call 28; refine (QU _).mono ?_; rintro e w5 ⟨rfl, rfl⟩) | fail)
          go_ret
          exact ⟨by rw [HV.out]; rfl, Below.refl _ _⟩
      · have e1 : ((d : Int) == 39) = false := bset d 39 h39
        have e1n : ((d : Int) != 39) = true := by simp only [bne, e1]; rfl
        have HQ : Hid (d ≠ 39) := h39
        clear hd hlt hk hN hlen h39
        go_wp2_with fail
        go_roundw
        case rel =>
          refine ⟨k + 1, by have := HC.out; omega, by have := HN.out; go_num, rfl, fun i hi => ?_⟩
          rcases Nat.lt_or_ge i k with h3 | h3
          · exact HK.out.2 i h3
          · obtain rfl : i = k := by omega
            rw [HD.out]; exact HQ.out
        case measure => have := HC.out; have := HR.out.2.1; have := HN.out; simp [intOf]; omega
    · have hkI : ¬ (p : Int) + N < (S.size : Int) := by omega
      have HV : Hid ((tok ((numsOf S).drop p)).2 = 0) := by
        show _ = _
        rw [HR.out.1, tl_txt r k HK.out.1 HK.out.2 (fun h => absurd h hlt), if_neg (fun h => hlt h.1)]
      clear hlt hk hN hlen
      go_wp2_with fail
      go_ret
      exact ⟨by rw [HV.out]; rfl, Below.refl _ _⟩
theorem long_any (S : ByteArray) (p : Nat) (hs : S.size ≤ 16384) (hp : p < S.size) (b : Nat) (w : World) (c0 : w.cell? ⟨b, 0, none⟩ = some (.string S)) :
    Calls Tryd.prog 17 #[rp b, .int .i64 (p : Int)] w fun e w' => LgP S p w e w' := by
  obtain ⟨c, r, hr⟩ : ∃ c r, (numsOf S).drop p = c :: r := ⟨_, _, List.drop_eq_getElem_cons (by rw [numsOf_len]; exact hp)⟩
  cases h1 : isSg c with
  | true => exact long_sign S p hs c r hr (.inl h1) b w c0
  | false =>
    by_cases h2 : c = 39
    · subst h2
      exact long_txt S p hs r hr b w c0
    cases h3 : isDg c with
    | true =>
      by_cases h4 : c = 48
      · exact long_sign S p hs c r hr (.inr h4) b w c0
      · exact long_dig S p hs c r hr h3 h4 b w c0
    | false =>
      cases h4 : isSm c with
      | true => exact long_word S p hs c r hr h4 b w c0
      | false => exact long_else S p hs c r hr h1 h2 h3 h4 b w c0
end Go.Proofs.YtkcmidhpbaepoaaDoor.G
