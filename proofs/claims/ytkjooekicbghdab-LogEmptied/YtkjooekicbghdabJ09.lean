/-
  LogEmptied, walked.
-/
import Derived.Test.YtkjooekicbghdabJ08
import Derived.Test.YtkjooekicbghdabJ07
import Derived.Deep.CutRange
namespace Go.Proofs.Ytkjooekicbghdab

theorem secs_all : ∀ (n : Nat) (xs : List Nat), xs.length = n * 128 → xs = (List.range n).flatMap (secAt xs)
  | 0, xs, h => by
    have : xs = [] := List.length_eq_zero_iff.1 (by omega)
    subst this; rfl
  | n + 1, xs, h => by
    have h1 := secs_all n (xs.take (n * 128)) (by rw [List.length_take]; omega)
    rw [List.range_succ, List.flatMap_append, List.flatMap_cons, List.flatMap_nil, List.append_nil]
    have h2 : (List.range n).flatMap (secAt xs) = (List.range n).flatMap (secAt (xs.take (n * 128))) := by
      rw [List.flatMap_def, List.flatMap_def]
      congr 1
      refine List.map_congr_left (fun i hi => ?_)
      have hi := List.mem_range.1 hi
      unfold secAt
      rw [List.drop_take, List.take_take, Nat.min_eq_left (by omega)]
    rw [h2, ← h1]
    have h3 : secAt xs n = xs.drop (n * 128) := by
      unfold secAt
      exact List.take_of_length_le (by rw [List.length_drop]; omega)
    rw [h3, List.take_append_drop]
theorem secs_ext {n : Nat} {xs ys : List Nat} (hx : xs.length = n * 128) (hy : ys.length = n * 128) (h : ∀ i, i < n → secAt xs i = secAt ys i) : xs = ys := by
  rw [secs_all n xs hx, secs_all n ys hy, List.flatMap_def, List.flatMap_def]
  congr 1
  exact List.map_congr_left (fun i hi => h i (List.mem_range.1 hi))
theorem sec_take {xs : List Nat} {a i : Nat} (h : i < a) : secAt (xs.take (a * 128)) i = secAt xs i := by
  unfold secAt
  rw [List.drop_take, List.take_take, Nat.min_eq_left (by omega)]
theorem sec_drop (xs : List Nat) (a i : Nat) : secAt (xs.drop (a * 128)) i = secAt xs (a + i) := by
  unfold secAt
  rw [List.drop_drop]
  congr 2
  omega
theorem sec_logK {data : List Nat} {ws : Puts} {n i : Nat} (hl : ∀ j, j < n → (nowN data ws ((16 + j : Nat) : Int)).length = 128) (hi : i < n) : secAt (logK data ws n) i = nowN data ws ((16 + i : Nat) : Int) := by
  have hlen : ∀ k, k ≤ n → (logK data ws k).length = k * 128 := by
    intro k
    induction k with
    | zero => intro _; rfl
    | succ k ih => intro hk; rw [logK_snoc, List.length_append, ih (by omega), hl k (by omega)]; omega
  induction n with
  | zero => omega
  | succ n ih =>
    rw [logK_snoc]
    have hn := hlen n (by omega)
    rcases Nat.lt_or_ge i n with h | h
    · rw [← ih (fun j hj => hl j (by omega)) h (fun k hk => hlen k (by omega))]
      unfold secAt
      rw [List.drop_append_of_le_length (by omega), List.take_append_of_le_length (by rw [List.length_drop]; omega)]
    · obtain rfl : i = n := by omega
      unfold secAt
      rw [← hn, List.drop_left, List.take_of_length_le (by rw [hl i (by omega)]; omega)]
def putsK (fr : Int) (xs : List Nat) (k : Nat) : Puts := (List.range k).map fun i : Nat => (fr + (i : Int), secAt xs i)
theorem putsK_snoc (fr : Int) (xs : List Nat) (k : Nat) : putsK fr xs (k + 1) = putsK fr xs k ++ [(fr + (k : Int), secAt xs k)] := by
  unfold putsK; rw [List.range_succ, List.map_append]; rfl
theorem putsK_len (fr : Int) (xs : List Nat) (k : Nat) : (putsK fr xs k).length = k := by simp [putsK]
theorem now_puts {data : List Nat} {ws : Puts} {fr : Nat} {xs : List Nat} : ∀ (k n : Nat), nowN data (ws ++ putsK (fr : Int) xs k) (n : Int) = if fr ≤ n ∧ n < fr + k then secAt xs (n - fr) else nowN data ws (n : Int)
  | 0, n => by rw [if_neg (by omega)]; simp [putsK]
  | k + 1, n => by
    rw [putsK_snoc, ← List.append_assoc, now_written, now_puts k n]
    by_cases h : (fr : Int) + (k : Int) = n
    · rw [if_pos h, if_pos (by omega), show n - fr = k from by omega]
    · rw [if_neg h]
      by_cases h2 : fr ≤ n ∧ n < fr + k
      · rw [if_pos h2, if_pos (by omega)]
      · rw [if_neg h2, if_neg (by omega)]
theorem do_puts {count : Int} {data : List Nat} {ws : Puts} {fr : Int} {xs : List Nat} (h0 : 0 ≤ fr) : ∀ (k : Nat), (∀ i, i < k → (secAt xs i).length = 128) → fr + k ≤ count → ws.length + k ≤ 4096 → doN count (data, ws) (actsK fr xs k) = .ok (data, ws ++ putsK fr xs k)
  | 0, _, _, _ => by simp [actsK, putsK, doN]
  | k + 1, h1, h2, h3 => by
    rw [actsK_snoc, putsK_snoc, doN_app, do_puts h0 k (fun i hi => h1 i (by omega)) (by omega) (by omega)]
    have h4 := h1 k (by omega)
    have h5 : (ws ++ putsK fr xs k).length = ws.length + k := by rw [List.length_append, putsK_len]
    simp only [doN, stepA]
    rw [if_neg (by simp), if_neg (fun hh => hh ⟨by show 0 ≤ fr + (k : Int); omega, by show fr + (k : Int) < count; omega⟩), if_neg (by simp [h4]), if_neg (by simp only [h5]; omega), List.append_assoc]
theorem now_len {count : Int} {data : List Nat} {ws : Puts} (h : HasLog count data ws) : ∀ j, j < 64 → (nowN data ws ((16 + j : Nat) : Int)).length = 128 := fun j hj => nowN_len h.ok (by have := h.big; omega)
theorem log_len {count : Int} {data : List Nat} {ws : Puts} (h : HasLog count data ws) : (logN data ws).length = 64 * 128 := by
  have : ∀ k, k ≤ 64 → (logK data ws k).length = k * 128 := by
    intro k
    induction k with
    | zero => intro _; rfl
    | succ k ih => intro hk; rw [logK_snoc, List.length_append, ih (by omega), now_len h k (by omega)]; omega
  exact this 64 (Nat.le_refl _)
/-- The log's bytes behind the acts of Add. -/
theorem log_added {count : Int} {data : List Nat} {ws : Puts} {a k : Nat} {F : List Nat} (h : HasLog count data ws) (h' : HasLog count data (ws ++ putsK ((17 + a : Nat) : Int) F k)) (hak : a + k ≤ 63) (hF : F.length = k * 128) :
    (logN data (ws ++ putsK ((17 + a : Nat) : Int) F k)).take 128 = (logN data ws).take 128 ∧
    ((logN data (ws ++ putsK ((17 + a : Nat) : Int) F k)).drop 128).take (a * 128) = ((logN data ws).drop 128).take (a * 128) ∧
    (((logN data (ws ++ putsK ((17 + a : Nat) : Int) F k)).drop 128).drop (a * 128)).take (k * 128) = F ∧
    (((logN data (ws ++ putsK ((17 + a : Nat) : Int) F k)).drop 128).drop (a * 128)).drop (k * 128) = (((logN data ws).drop 128).drop (a * 128)).drop (k * 128) := by
  have l1 := log_len h
  have l2 := log_len h'
  have s1 : ∀ i, i < 64 → secAt (logN data ws) i = nowN data ws ((16 + i : Nat) : Int) := fun i hi => sec_logK (now_len h) hi
  have s2 : ∀ i, i < 64 → secAt (logN data (ws ++ putsK ((17 + a : Nat) : Int) F k)) i = if 17 + a ≤ 16 + i ∧ 16 + i < 17 + a + k then secAt F (16 + i - (17 + a)) else nowN data ws ((16 + i : Nat) : Int) := fun i hi => (sec_logK (now_len h') hi).trans (now_puts k (16 + i))
  generalize logN data (ws ++ putsK ((17 + a : Nat) : Int) F k) = L' at *
  generalize logN data ws = L at *
  have d1 : ∀ (X : List Nat) i, secAt (X.drop 128) i = secAt X (1 + i) := fun X i => by have := sec_drop X 1 i; rwa [Nat.one_mul] at this
  refine ⟨?_, ?_, ?_, ?_⟩
  · have e : ∀ X : List Nat, X.take 128 = secAt X 0 := fun X => by unfold secAt; simp
    rw [e, e, s1 0 (by omega), s2 0 (by omega), if_neg (by omega)]
  · refine secs_ext (n := a) (by rw [List.length_take, List.length_drop]; omega) (by rw [List.length_take, List.length_drop]; omega) (fun i hi => ?_)
    rw [sec_take hi, sec_take hi, d1, d1, s1 _ (by omega), s2 _ (by omega), if_neg (by omega)]
  · refine secs_ext (n := k) (by rw [List.length_take, List.length_drop, List.length_drop]; omega) hF (fun i hi => ?_)
    rw [sec_take hi, sec_drop, d1, s2 _ (by omega), if_pos (by omega)]
    congr 1
    omega
  · refine secs_ext (n := 63 - a - k) (by rw [List.length_drop, List.length_drop, List.length_drop]; omega) (by rw [List.length_drop, List.length_drop, List.length_drop]; omega) (fun i hi => ?_)
    rw [sec_drop, sec_drop, sec_drop, sec_drop, d1, d1, s1 _ (by omega), s2 _ (by omega), if_neg (by omega)]
end Go.Proofs.Ytkjooekicbghdab
namespace Go.Proofs.Ytkjooekicbghdab
open Go.RowKit Go.WideShapes

def zeroD : List Nat := List.replicate (100 * 128) 0
def abcL : List Nat := [97, 98, 99]
def firstD : List Nat := settleN zeroD [(16, headL 1)]
def abcF : List Nat := frameN 1 1 0 abcL
theorem flat_zero (k : Nat) : (List.range k).flatMap (fun _ => List.replicate 128 0) = List.replicate (k * 128) 0 := by
  induction k with
  | zero => rfl
  | succ k ih => rw [List.range_succ, List.flatMap_append, ih, List.flatMap_cons, List.flatMap_nil, List.append_nil, List.replicate_append_replicate]; congr 1; omega
theorem logK_is {data : List Nat} {ws : Puts} {k : Nat} (f : Nat → List Nat) (h : ∀ i, i < k → nowN data ws ((16 + i : Nat) : Int) = f i) : logK data ws k = (List.range k).flatMap f := by
  unfold logK
  induction k with
  | zero => rfl
  | succ k ih => rw [List.range_succ, List.flatMap_append, List.flatMap_append, ih (fun i hi => h i (by omega)), List.flatMap_cons, List.flatMap_nil, List.flatMap_cons, List.flatMap_nil, h k (by omega)]
theorem range_shift (k : Nat) (f : Nat → List Nat) : (List.range (k + 1)).flatMap f = f 0 ++ (List.range k).flatMap (fun i => f (i + 1)) := by
  rw [List.range_succ_eq_map, List.flatMap_cons, List.flatMap_map]
theorem zero_sec {n : Nat} (h : n < 100) : nowN zeroD [] (n : Int) = List.replicate 128 0 := by
  simp only [nowN, nowK, List.length_nil, Option.getD_none, Int.toNat_natCast, secN, zeroD, List.drop_replicate, List.take_replicate]
  congr 1
  omega
theorem zeroD_len : (zeroD.length : Int) = 100 * 128 := by unfold zeroD; rw [List.length_replicate]; rfl
theorem okay_zero : Okay 100 zeroD [] := ⟨by decide, by decide, zeroD_len, by decide, fun y hy => by cases hy⟩
theorem log_zero : logN zeroD [] = List.replicate 8192 0 := by
  unfold logN
  rw [logK_is (fun _ => List.replicate 128 0) (fun i hi => zero_sec (by omega)), flat_zero]
theorem num_zero (n k : Nat) : numAt (List.replicate n 0) k = 0 := by
  have h : ∀ j, (List.replicate n 0).getD j 0 = 0 := fun j => by
    simp only [List.getD, List.getElem?_replicate]
    split <;> rfl
  unfold numAt
  rw [h, h, h, h]
  rfl
theorem epoch_zero (n : Nat) : epochN (List.replicate n 0) = 0 := by
  have h : ∀ j, (List.replicate n 0).getD j 0 = 0 := fun j => by
    simp only [List.getD, List.getElem?_replicate]
    split <;> rfl
  unfold epochN
  simp only [h]
  split <;> rfl
theorem mostE_zero (n k : Nat) : mostE (List.replicate n 0) k = 0 := by
  induction k with
  | zero => exact epoch_zero n
  | succ k ih => show max _ _ = 0; rw [ih, num_zero]; rfl
theorem mostS_zero {e : Nat} (n k : Nat) : mostS e (List.replicate n 0) k = 0 := by
  induction k with
  | zero => rfl
  | succ k ih => show (if _ then max _ (max _ _) else _) = 0; rw [ih, num_zero, num_zero, num_zero]; split <;> rfl
theorem do_first : doAny 100 zeroD [] (clearActs 1) = .ok (firstD, []) := by
  rw [doAny_ok _ okay_zero]
  simp [clearActs, doN, stepA, headL_len, firstD]
theorem okay_first : Okay 100 firstD [] := doAny_okay do_first
theorem first_sec {n : Nat} (h : n < 100) : nowN firstD [] (n : Int) = if (16 : Int) = n then headL 1 else List.replicate 128 0 := by
  have ok : Okay 100 zeroD [(16, headL 1)] := ⟨by decide, by decide, zeroD_len, by decide, fun y hy => by rw [List.mem_singleton.1 hy]; exact ⟨by decide, by decide, headL_len 1⟩⟩
  have e1 := now_settled ok (n := n) (by omega)
  rw [show firstD = settleN zeroD [(16, headL 1)] from rfl, e1]
  have e2 := now_written (data := zeroD) (ws := []) (y := (16, headL 1)) (n := (n : Int))
  rw [List.nil_append] at e2
  rw [e2, zero_sec h]
theorem log_first : logN firstD [] = headL 1 ++ List.replicate 8064 0 := by
  unfold logN
  rw [logK_is (fun i => if i = 0 then headL 1 else List.replicate 128 0) (fun i hi => by
    rw [first_sec (by omega)]
    by_cases h : i = 0
    · rw [if_pos (by omega), if_pos h]
    · rw [if_neg (by omega), if_neg h]), range_shift]
  simp only [if_true, Nat.add_eq_zero_iff, Nat.one_ne_zero, and_false, if_false]
  rw [flat_zero]
theorem epoch_head (xs : List Nat) : epochN (headL 1 ++ xs) = 1 := by
  have h1 : (headL 1 ++ xs).take 128 = headL 1 := List.take_left' (headL_len 1)
  have h2 : (headL 1).drop 8 = List.replicate 120 0 := rfl
  unfold epochN
  rw [h1, h2]
  have h3 : headL 1 ++ xs = 1 :: 0 :: 0 :: 0 :: 0 :: 0 :: 0 :: 0 :: (List.replicate 120 0 ++ xs) := rfl
  rw [h3]
  have h4 : ∀ c ∈ List.replicate 120 0, c = 0 := fun c hc => (List.mem_replicate.1 hc).2
  simp only [List.getD_cons_zero, List.getD_cons_succ]
  rw [if_pos ⟨by decide, h4⟩]
  rfl
theorem recs_zero {e p : Nat} (n : Nat) (he : e < 4294967296) (hp : p < 4294967296) : Recs e p (List.replicate n 0) [] 0 p (List.replicate n 0) := .stop (no_head he hp (.inl (num_zero _ _)))
theorem abc_len : abcF.length = 128 := by unfold abcF; rw [frameN_len]; rfl
theorem do_abc : doAny 100 firstD [] [(false, 17, abcF)] = .ok (firstD, [(17, abcF)]) := by
  rw [doAny_ok _ okay_first]
  simp [doN, stepA, abc_len]
theorem okay_abc : Okay 100 firstD [(17, abcF)] := doAny_okay do_abc
theorem log_abc : logN firstD [(17, abcF)] = headL 1 ++ (abcF ++ List.replicate 7936 0) := by
  unfold logN
  rw [logK_is (fun i => if i = 0 then headL 1 else if i = 1 then abcF else List.replicate 128 0) (fun i hi => by
    have e2 := now_written (data := firstD) (ws := []) (y := (17, abcF)) (n := ((16 + i : Nat) : Int))
    rw [List.nil_append] at e2
    rw [e2, first_sec (by omega)]
    by_cases h : i = 0
    · subst h; rfl
    · by_cases h' : i = 1
      · subst h'; rfl
      · rw [if_neg (by simp only; omega), if_neg (by omega), if_neg h, if_neg h']), range_shift, range_shift]
  simp only [if_true, Nat.add_eq_zero_iff, Nat.one_ne_zero, and_false, if_false, Nat.zero_add]
  have e : (fun i : Nat => if i + 1 + 1 = 1 then abcF else List.replicate 128 0) = fun _ => List.replicate 128 0 := by funext i; rw [if_neg (by omega)]
  rw [e, flat_zero]
theorem recs_abc : Recs 1 0 (abcF ++ List.replicate 7936 0) [abcL] 1 1 (List.replicate 7936 0) := by
  have h : IsRec 1 0 (abcF ++ List.replicate 7936 0) 1 abcL := by
    refine ⟨by decide, by decide, by decide, by decide, ?_⟩
    rw [show needsN abcL.length * 128 = 128 from rfl]
    exact List.take_left' abc_len
  have h2 := Recs.next h (l := []) (a := 0) (la := 1) (t := List.replicate 7936 0) (by
    rw [show needsN abcL.length * 128 = 128 from rfl, List.drop_left' abc_len]
    exact recs_zero _ (by decide) (by decide))
  exact h2
end Go.Proofs.Ytkjooekicbghdab
namespace Go.Proofs.Ytkjooekicbghdab

theorem mostE_head (xs : List Nat) : ∀ k, epochN xs ≤ mostE xs k
  | 0 => Nat.le_refl _
  | k + 1 => Nat.le_trans (mostE_head xs k) (Nat.le_max_left _ _)
theorem mostE_ge {xs : List Nat} : ∀ {k i : Nat}, i < k → numAt xs ((i + 1) * 128) ≤ mostE xs k
  | k + 1, i, hi => by
    rcases Nat.lt_or_ge i k with h | h
    · exact Nat.le_trans (mostE_ge h) (Nat.le_max_left _ _)
    · obtain rfl : i = k := by omega
      exact Nat.le_max_right _ _
  | 0, _, h => absurd h (by omega)
theorem numAt_sec {xs : List Nat} {i j : Nat} (hj : j + 4 ≤ 128) : numAt (secAt xs i) j = numAt xs (i * 128 + j) := by
  unfold numAt
  rw [sec_getD _ _ _ (by omega), sec_getD _ _ _ (by omega), sec_getD _ _ _ (by omega), sec_getD _ _ _ (by omega)]
  rfl
/-- At a new epoch no sector of the log is a record's. -/
theorem no_epoch {xs : List Nat} {M : Nat} (hm : mostE xs 63 + 1 = M) (hM : M < 4294967296) : ∀ s r, ¬ IsRec M 0 (xs.drop 128) s r := fun s r h => by
  obtain ⟨_, _, _, h4⟩ := rec_dec hM (by omega) h
  have a := (h4 0 (needsN_pos _)).he
  rw [numAt_sec (by omega), numAt_drop2] at a
  have b := mostE_ge (xs := xs) (k := 63) (i := 0) (by omega)
  have e : numAt xs ((0 + 1) * 128) = numAt xs (128 + (0 * 128 + 0)) := rfl
  omega
theorem do_clear {count : Int} {data : List Nat} {ws : Puts} {M : Nat} (h : HasLog count data ws) (hw : ws.length < 4096) : doAny count data ws (clearActs M) = .ok (settleN data (ws ++ [(16, headL M)]), []) := by
  have hb := h.big
  rw [doAny_ok _ h.ok]
  have e1 : stepA count (data, ws) (false, 16, headL M) = .ok (data, ws ++ [(16, headL M)]) := by
    unfold stepA
    rw [if_neg (by simp), if_neg (fun hh => hh ⟨by show (0 : Int) ≤ 16; omega, by show (16 : Int) < count; omega⟩), if_neg (by simp [headL_len]), if_neg (by show ¬ 4096 ≤ ws.length; omega)]
  have e2 : stepA count (data, ws ++ [(16, headL M)]) (true, 0, []) = .ok (settleN data (ws ++ [(16, headL M)]), []) := by
    unfold stepA
    rw [if_pos rfl]
  show doN count (data, ws) [(false, 16, headL M), (true, 0, [])] = _
  simp only [doN, e1, e2]
theorem has_clear {count : Int} {data : List Nat} {ws : Puts} {M : Nat} (h : HasLog count data ws) (hw : ws.length < 4096) : HasLog count (settleN data (ws ++ [(16, headL M)])) [] := ⟨doAny_okay (do_clear h hw), h.big⟩
theorem log_cleared {count : Int} {data : List Nat} {ws : Puts} {M : Nat} (h : HasLog count data ws) (hw : ws.length < 4096) : logN (settleN data (ws ++ [(16, headL M)])) [] = headL M ++ (logN data ws).drop 128 := by
  have hb := h.big
  have hk : Okay count data (ws ++ [(16, headL M)]) := by
    refine ⟨h.ok.lo, h.ok.hi, h.ok.len, by rw [List.length_append]; simp; omega, fun y hy => ?_⟩
    rcases List.mem_append.1 hy with hy | hy
    · exact h.ok.each y hy
    · rw [List.mem_singleton.1 hy]
      exact ⟨by show (0 : Int) ≤ 16; omega, by show (16 : Int) < count; omega, headL_len M⟩
  have l1 := log_len h
  have l2 := log_len (has_clear (M := M) h hw)
  have s1 : ∀ i, i < 64 → secAt (logN data ws) i = nowN data ws ((16 + i : Nat) : Int) := fun i hi => sec_logK (now_len h) hi
  have s2 : ∀ i, i < 64 → secAt (logN (settleN data (ws ++ [(16, headL M)])) []) i = if (16 : Int) = ((16 + i : Nat) : Int) then headL M else nowN data ws ((16 + i : Nat) : Int) := fun i hi => by
    have e1 : secAt (logN (settleN data (ws ++ [(16, headL M)])) []) i = nowN (settleN data (ws ++ [(16, headL M)])) [] ((16 + i : Nat) : Int) := sec_logK (now_len (has_clear h hw)) hi
    rw [e1, now_settled hk (n := 16 + i) (by omega), now_written]
  refine secs_ext (n := 64) l2 (by rw [List.length_append, headL_len, List.length_drop, l1]) (fun i hi => ?_)
  rw [s2 i hi]
  by_cases h0 : i = 0
  · subst h0
    rw [if_pos (show (16 : Int) = ((16 + 0 : Nat) : Int) from rfl)]
    unfold secAt
    rw [Nat.zero_mul, List.drop_zero, List.take_left' (headL_len M)]
  · rw [if_neg (by omega)]
    obtain ⟨j, rfl⟩ : ∃ j, i = j + 1 := ⟨i - 1, by omega⟩
    rw [← s1 _ hi]
    unfold secAt
    rw [show (j + 1) * 128 = 128 + j * 128 from by omega, ← List.drop_drop, ← List.drop_drop, List.drop_left' (headL_len M)]
theorem epoch_headM {M : Nat} (hM : M < 4294967296) (xs : List Nat) : epochN (headL M ++ xs) = M := by
  have h1 : (headL M ++ xs).take 128 = headL M := List.take_left' (headL_len M)
  have h2 : (headL M).drop 8 = List.replicate 120 0 := rfl
  have h4 : ∀ c ∈ List.replicate 120 0, c = 0 := fun c hc => (List.mem_replicate.1 hc).2
  have hj : joinN (M % 256) (M / 256 % 256) (M / 65536 % 256) (M / 16777216 % 256) (M / 4294967296 % 256) (M / 1099511627776 % 256) (M / 281474976710656 % 256) (M / 72057594037927936) = M := by unfold joinN; omega
  unfold epochN
  rw [h1, h2]
  have h3 : headL M ++ xs = M % 256 :: M / 256 % 256 :: M / 65536 % 256 :: M / 16777216 % 256 :: M / 4294967296 % 256 :: M / 1099511627776 % 256 :: M / 281474976710656 % 256 :: M / 72057594037927936 :: (List.replicate 120 0 ++ xs) := rfl
  rw [h3]
  simp only [List.getD_cons_zero, List.getD_cons_succ]
  rw [hj, if_pos ⟨hM, h4⟩]
end Go.Proofs.Ytkjooekicbghdab
namespace Go.Proofs.Ytkjooekicbghdab
open Go.RowKit Go.WideShapes

theorem Recs.count {E p : Nat} {ys : List Nat} {l : List (List Nat)} {a la : Nat} {t : List Nat} (h : Recs E p ys l a la t) : l.length ≤ a := by
  induction h with
  | stop _ => exact Nat.le_refl _
  | @next p s ys r l a la t _ _ ih =>
    have := needsN_pos r.length
    rw [List.length_cons]
    omega
theorem Recs.byte {E p : Nat} {ys : List Nat} {l : List (List Nat)} {a la : Nat} {t : List Nat} (h : Recs E p ys l a la t) : ∀ r ∈ l, ∀ c ∈ r, c < 256 := by
  induction h with
  | stop _ => intro r hr; cases hr
  | next h1 _ ih =>
    intro r hr
    rcases List.mem_cons.1 hr with rfl | hr
    · exact h1.byte
    · exact ih r hr
/-- The disk behind the acts of Add. -/
theorem do_added {count : Int} {data : List Nat} {ws : Puts} {a k : Nat} {F : List Nat} (h : HasLog count data ws) (hw : ws.length ≤ 300) (hak : a + k ≤ 63) (hF : F.length = k * 128) : doAny count data ws (actsK ((17 + a : Nat) : Int) F k) = .ok (data, ws ++ putsK ((17 + a : Nat) : Int) F k) := by
  have hb := h.big
  rw [doAny_ok _ h.ok]
  exact do_puts (by omega) k (fun i hi => secAt_len (by omega)) (by omega) (by omega)
theorem has_added {count : Int} {data : List Nat} {ws : Puts} {a k : Nat} {F : List Nat} (h : HasLog count data ws) (hw : ws.length ≤ 300) (hak : a + k ≤ 63) (hF : F.length = k * 128) : HasLog count data (ws ++ putsK ((17 + a : Nat) : Int) F k) := ⟨doAny_okay (do_added h hw hak hF), h.big⟩
theorem do_added_any (v : Value) (count : Int) (data : List Nat) (ws : Puts) (w : World) (q : Option Addr) (n m a k : Nat) (F : List Nat) (l : List ActC) (hd : DiskIn w v count data ws) (ha : AOwn w 0 (.slice q n m) l) (hl : l.map Prod.fst = actsK ((17 + a : Nat) : Int) F k) (h : HasLog count data ws) (hw : ws.length ≤ 300) (hak : a + k ≤ 63) (hF : F.length = k * 128) :
    Calls Try.prog 9 #[v, .slice q n m] w fun e w' => ∃ v', e = .returned (.tuple #[v', .int .i64 0]) ∧ DiskF w.heap.size w' v' count data (ws ++ putsK ((17 + a : Nat) : Int) F k) ∧ Below w.heap.size w w' := by
  obtain ⟨hn, hi, _, _⟩ := ha.lies
  rw [hl] at hi
  have hln : n = (actsK ((17 + a : Nat) : Int) F k).length := by rw [hn, ← hl, List.length_map]
  have hk : (actsK ((17 + a : Nat) : Int) F k).length = k := by simp [actsK]
  refine (do_all v count data ws w hd q n m _ hln hi (by omega) _ (do_added h hw hak hF)).mono ?_
  rintro e w' ⟨⟨v', he, hf⟩, hb⟩
  exact ⟨v', he, hf, hb⟩
/-- The records behind the acts of Add: one more. -/
theorem recs_added {count : Int} {data : List Nat} {ws : Puts} {E a la S : Nat} {l : List (List Nat)} {t r : List Nat} (h : HasLog count data ws) (hw : ws.length ≤ 300) (hE : epochN (logN data ws) = E) (hrec : Recs E 0 ((logN data ws).drop 128) l a la t) (hS : mostS E t (63 - a) + 1 = S) (hS2 : S < 4294967296) (hr : r.length ≤ 4096) (hrb : ∀ c ∈ r, c < 256) (hfit : a + needsN r.length ≤ 63) :
    epochN (logN data (ws ++ putsK ((17 + a : Nat) : Int) (frameN E S la r) (needsN r.length))) = E ∧ Recs E 0 ((logN data (ws ++ putsK ((17 + a : Nat) : Int) (frameN E S la r) (needsN r.length))).drop 128) (l ++ [r]) (a + needsN r.length) S (t.drop (needsN r.length * 128)) := by
  have hF := frameN_len E S la r
  have hE32 : E < 4294967296 := hE ▸ epochN_lt _
  obtain ⟨h0, h1, h2, h3⟩ := log_added h (has_added h hw hfit hF) hfit hF
  obtain ⟨_, ht, _⟩ := hrec.facts (n := 63) (by rw [List.length_drop, log_len h]) (by omega)
  have e1 : ∀ {xs ys : List Nat}, xs.take 128 = ys.take 128 → epochN xs = epochN ys := fun {xs ys} h => by
    have g : ∀ j, j < 128 → xs.getD j 0 = ys.getD j 0 := fun j hj => by
      have := congrArg (fun l => l.getD j 0) h
      simpa [List.getD, List.getElem?_take, hj] using this
    unfold epochN
    rw [g 0 (by omega), g 1 (by omega), g 2 (by omega), g 3 (by omega), g 4 (by omega), g 5 (by omega), g 6 (by omega), g 7 (by omega), h]
  refine ⟨(e1 h0).trans hE, ?_⟩
  rw [← ht] at h3
  exact hrec.more hE32 (by rw [List.length_drop, log_len h]) hS hS2 hr hrb h1 h2 h3
theorem records_added (v : Value) (count : Int) (data : List Nat) (ws : Puts) (w : World) (E a la S k : Nat) (l : List (List Nat)) (t : List Nat) (r : ByteArray) (h : HasLog count data ws) (hw : ws.length ≤ 300) (hE : epochN (logN data ws) = E) (hE0 : E ≠ 0) (hrec : Recs E 0 ((logN data ws).drop 128) l a la t) (hS : mostS E t (63 - a) + 1 = S) (hS2 : S < 4294967296) (hr : r.size ≤ 4096) (hk : needsN r.size = k) (hak : a + k ≤ 63) (hd : DiskIn w v count data (ws ++ putsK ((17 + a : Nat) : Int) (frameN E S la (numsOf r)) k)) :
    Calls Try.prog 7 #[v] w fun e w' => ∃ nb no nc, e = .returned (.tuple #[.slice (some ⟨nb, no, none⟩) (l.length + 1) nc, .int .i64 0]) ∧ StrsIn w' (some ⟨nb, no, none⟩) (l.map strOf ++ [r]) ∧ l.length + 1 ≤ nc ∧ nc ≤ maxLen ∧ Below w.heap.size w w' := by
  have hrl : (numsOf r).length = r.size := numsOf_len r
  have hb : ∀ c ∈ numsOf r, c < 256 := numsOf_lt r
  subst hk
  rw [← hrl] at hak hd hr
  have hF := frameN_len E S la (numsOf r)
  obtain ⟨h1, h2⟩ := recs_added (r := numsOf r) h hw hE hrec hS hS2 hr hb hak
  refine (Records_ok v count data _ w hd (has_added h hw hak hF) E h1 hE0).mono ?_
  rintro e w' ⟨rv, l', a', la', t', rfl, hrec', hown, hbl⟩
  obtain ⟨rfl, _, _, _⟩ := h2.only (hE ▸ epochN_lt _) (by omega) hrec'
  obtain ⟨nq, nc, rfl, _⟩ := own_form hown
  obtain ⟨_, hst, h3, h4⟩ := own_strs hown
  rw [List.length_append, List.length_singleton] at h3
  rw [List.map_append, List.map_singleton, strOf_nums] at hst
  obtain ⟨nb, no, rfl, _⟩ := hst (by simp)
  refine ⟨nb, no, nc, ?_, hst, h3, h4, hbl⟩
  rw [List.length_append, List.length_singleton]
theorem do_clear_any (v : Value) (count : Int) (data : List Nat) (ws : Puts) (w : World) (q : Option Addr) (n m M : Nat) (l : List ActC) (hd : DiskIn w v count data ws) (ha : AOwn w 0 (.slice q n m) l) (hl : l.map Prod.fst = clearActs M) (h : HasLog count data ws) (hw : ws.length ≤ 300) :
    Calls Try.prog 9 #[v, .slice q n m] w fun e w' => ∃ v', e = .returned (.tuple #[v', .int .i64 0]) ∧ DiskF w.heap.size w' v' count (settleN data (ws ++ [(16, headL M)])) [] ∧ Below w.heap.size w w' := by
  obtain ⟨hn, hi, _, _⟩ := ha.lies
  rw [hl] at hi
  have hln : n = (clearActs M).length := by rw [hn, ← hl, List.length_map]
  refine (do_all v count data ws w hd q n m (clearActs M) hln hi (by show 2 ≤ _; decide) _ (do_clear h (by omega))).mono ?_
  rintro e w' ⟨⟨v', he, hf⟩, hb⟩
  exact ⟨v', he, hf, hb⟩
/-- The log behind the acts of Clear: empty, at the new epoch. -/
theorem recs_cleared {count : Int} {data : List Nat} {ws : Puts} {M : Nat} (h : HasLog count data ws) (hw : ws.length ≤ 300) (hm : mostE (logN data ws) 63 + 1 = M) (hM : M < 4294967296) :
    epochN (logN (settleN data (ws ++ [(16, headL M)])) []) = M ∧ Recs M 0 ((logN (settleN data (ws ++ [(16, headL M)])) []).drop 128) [] 0 0 ((logN data ws).drop 128) ∧ epochN (logN data ws) < M ∧ M ≠ 0 := by
  have e := log_cleared (M := M) h (by omega)
  rw [e]
  refine ⟨epoch_headM hM _, ?_, ?_, by omega⟩
  · rw [List.drop_left' (headL_len M)]
    exact .stop (no_epoch hm hM)
  · have := mostE_head (logN data ws) 63
    omega
theorem records_cleared (v : Value) (count : Int) (data : List Nat) (ws : Puts) (w : World) (M : Nat) (h : HasLog count data ws) (hw : ws.length ≤ 300) (hm : mostE (logN data ws) 63 + 1 = M) (hM : M < 4294967296) (hd : DiskIn w v count (settleN data (ws ++ [(16, headL M)])) []) :
    Calls Try.prog 7 #[v] w fun e w' => ∃ q c, e = .returned (.tuple #[.slice q 0 c, .int .i64 0]) ∧ Below w.heap.size w w' := by
  obtain ⟨h1, h2, _, h4⟩ := recs_cleared h hw hm hM
  refine (Records_ok v count _ [] w hd (has_clear h (by omega)) M h1 h4).mono ?_
  rintro e w' ⟨rv, l, a, la, t, rfl, hrec, hown, hb⟩
  obtain ⟨rfl, rfl, rfl, rfl⟩ := h2.only hM (by omega) hrec
  obtain ⟨q, c, rfl, _⟩ := own_form hown
  exact ⟨q, c, rfl, hb⟩
end Go.Proofs.Ytkjooekicbghdab
namespace Go.Proofs.Ytkjooekicbghdab
open Go.RowKit Go.WideShapes

theorem clear_now (v : Value) (count : Int) (data : List Nat) (ws : Puts) (w : World) (hd : DiskIn w v count data ws) (er : Int) (hne : er ≠ 0)
    (HN : ∀ u w', DiskIn w' u count data ws → Calls Try.prog 17 #[u] w' fun e w2 => e = .returned (.tuple #[.slice none 0 0, .int .i64 er]) ∧ Below w'.heap.size w' w2) :
    Calls Try.prog 8 #[v] w fun e w' => e = .returned (.tuple #[.slice none 0 0, .int .i64 er]) ∧ Below w.heap.size w w' := by
  obtain ⟨p, c, q, m, rfl, _⟩ := hd.parts
  have HD : Hid _ := hd
  have HN' : Hid (∀ u w', DiskIn w' u count data ws → Calls Try.prog 17 #[u] w' fun e w2 => e = .returned (.tuple #[.slice none 0 0, .int .i64 er]) ∧ Below w'.heap.size w' w2) := HN
  have g1 : (er != 0) = true := by simpa using hne
  clear hd HN hne
  go_enter Try.func8, Try.ntmps8
  go_wp2_with fail
  refine (HN'.out _ _ (HD.out.below (below_alloc w _))).mono ?_
  rintro e w1 ⟨rfl, hb1⟩
  have HB1 : Hid (Below w.heap.size w w1) := below_bt (below_alloc w _) hb1
  clear hb1
  go_wp2
  go_ret2
  exact ⟨rfl, HB1.out⟩
/-- The error of Clear. -/
noncomputable def errC5 (count : Int) (data : List Nat) (ws : Puts) : Int := by
  classical
  exact if Okay count data ws then (if count < 80 then 50 else if mostE (logN data ws) 63 + 1 < 4294967296 then 0 else 30) else 20
theorem errC5_ok {count : Int} {data : List Nat} {ws : Puts} (h : errC5 count data ws = 0) : HasLog count data ws ∧ mostE (logN data ws) 63 + 1 < 4294967296 := by
  unfold errC5 at h
  by_cases h1 : Okay count data ws
  · by_cases h2 : count < 80
    · simp [h1, h2] at h
    · by_cases h3 : mostE (logN data ws) 63 + 1 < 4294967296
      · exact ⟨⟨h1, by omega⟩, h3⟩
      · simp [h1, h2, h3] at h
  · simp [h1] at h
theorem Clear_bad (v : Value) (count : Int) (data : List Nat) (ws : Puts) (w : World) (hd : DiskIn w v count data ws) (er : Int) (he : errC5 count data ws = er) (hne : er ≠ 0) :
    Calls Try.prog 8 #[v] w fun e w' => e = .returned (.tuple #[.slice none 0 0, .int .i64 er]) ∧ Below w.heap.size w w' := by
  unfold errC5 at he
  by_cases h1 : Okay count data ws
  · by_cases h2 : count < 80
    · obtain rfl : (50 : Int) = er := by simpa [h1, h2] using he
      exact clear_now v count data ws w hd 50 (by decide) (fun u w' hu => now_few u count data ws w' hu h1 h2)
    · by_cases h3 : mostE (logN data ws) 63 + 1 < 4294967296
      · exfalso; apply hne; simpa [h1, h2, h3] using he.symm
      · obtain rfl : (30 : Int) = er := by simpa [h1, h2, h3] using he
        exact Clear_full v count data ws w hd ⟨h1, by omega⟩ h3
  · obtain rfl : (20 : Int) = er := by simpa [h1] using he
    exact clear_now v count data ws w hd 20 (by decide) (fun u w' hu => now_bad u count data ws w' hu h1)
theorem step_head {count : Int} {data : List Nat} {ws : Puts} {M : Nat} (h : HasLog count data ws) (hw : ws.length < 4096) : stepA count (data, ws) (false, 16, headL M) = .ok (data, ws ++ [(16, headL M)]) := by
  have hb := h.big
  unfold stepA
  rw [if_neg (by simp), if_neg (fun hh => hh ⟨by show (0 : Int) ≤ 16; omega, by show (16 : Int) < count; omega⟩), if_neg (by simp [headL_len]), if_neg (by show ¬ 4096 ≤ ws.length; omega)]
/-- What is on the disk when the power is lost behind n of Clear's acts. -/
theorem empt_case {count : Int} {data : List Nat} {M : Nat} (h : HasLog count data []) (n : Nat) (hn : n ≤ 2) (keep : List Bool) :
    ∃ D W, doAny count data [] ((clearActs M).take n) = .ok (D, W) ∧ Okay count D W ∧ ((n < 2 ∧ crashN D W keep = data) ∨ crashN D W keep = settleN data [(16, headL M)]) := by
  have hs := step_head (M := M) h (by decide)
  match n, hn with
  | 0, _ =>
    have e : doAny count data [] ((clearActs M).take 0) = .ok (data, []) := by rw [doAny_ok _ h.ok]; rfl
    exact ⟨data, [], e, h.ok, .inl ⟨by decide, rfl⟩⟩
  | 1, _ =>
    have e : doAny count data [] ((clearActs M).take 1) = .ok (data, [(16, headL M)]) := by
      rw [doAny_ok _ h.ok]
      have := doN_step (count := count) (s := (data, [])) (s' := (data, [])) (l := clearActs M) (k := 0) (by show 0 < 2; decide) rfl
      rw [this]
      exact hs
    refine ⟨data, [(16, headL M)], e, doAny_okay e, ?_⟩
    by_cases hk : keep.getD 0 false = true
    · right
      show crashK data [(16, headL M)] keep 1 = settleK data [(16, headL M)] 1
      unfold crashK settleK
      rw [if_pos hk]
      rfl
    · left
      refine ⟨by decide, ?_⟩
      show crashK data [(16, headL M)] keep 1 = data
      unfold crashK
      rw [if_neg hk]
      rfl
  | 2, _ =>
    have e : doAny count data [] ((clearActs M).take 2) = .ok (settleN data [(16, headL M)], []) := do_clear (M := M) h (by decide)
    exact ⟨_, [], e, doAny_okay e, .inr rfl⟩
end Go.Proofs.Ytkjooekicbghdab
namespace Go.Proofs.Ytkjooekicbghdab
open Go.RowKit Go.WideShapes

theorem new_100 (w : World) : Calls Try.prog 29 #[.int .i64 100] w fun e w' => ∃ v, e = .returned (.tuple #[v, .int .i64 0]) ∧ (∀ w2, Below w'.heap.size w' w2 → DiskIn w2 v 100 zeroD []) ∧ Below w.heap.size w w' :=
  (new_ok 100 w (by decide) (by decide)).mono (by
    rintro e w' ⟨v, rfl, hn, hb⟩
    exact ⟨v, rfl, fun w2 h2 => (hn.toIn okay_zero).below h2, hb⟩)
theorem hasZero : HasLog 100 zeroD [] := ⟨okay_zero, by decide⟩
theorem hasFirst : HasLog 100 firstD [] := ⟨okay_first, by decide⟩
theorem hasAbc : HasLog 100 firstD [(17, abcF)] := ⟨okay_abc, by decide⟩
theorem do_first_any (v : Value) (w : World) (q : Option Addr) (n m : Nat) (l : List ActC) (hd : DiskIn w v 100 zeroD []) (ha : AOwn w 0 (.slice q n m) l) (hl : l.map Prod.fst = clearActs 1) :
    Calls Try.prog 9 #[v, .slice q n m] w fun e w' => ∃ v', e = .returned (.tuple #[v', .int .i64 0]) ∧ DiskF w.heap.size w' v' 100 firstD [] ∧ Below w.heap.size w w' := by
  obtain ⟨hn, hi, _, _⟩ := ha.lies
  rw [hl] at hi
  have hln : n = (clearActs 1).length := by rw [hn, ← hl, List.length_map]
  refine (do_all v 100 zeroD [] w hd q n m (clearActs 1) hln hi (by decide) _ do_first).mono ?_
  rintro e w' ⟨⟨v', he, hf⟩, hb⟩
  exact ⟨v', he, hf, hb⟩
theorem do_abc_any (v : Value) (w : World) (q : Option Addr) (n m : Nat) (l : List ActC) (hd : DiskIn w v 100 firstD []) (ha : AOwn w 0 (.slice q n m) l) (hl : l.map Prod.fst = [(false, 17, abcF)]) :
    Calls Try.prog 9 #[v, .slice q n m] w fun e w' => ∃ v', e = .returned (.tuple #[v', .int .i64 0]) ∧ DiskF w.heap.size w' v' 100 firstD [(17, abcF)] ∧ Below w.heap.size w w' := by
  obtain ⟨hn, hi, _, _⟩ := ha.lies
  rw [hl] at hi
  have hln : n = [(false, (17 : Int), abcF)].length := by rw [hn, ← List.length_map (f := Prod.fst), hl]
  refine (do_all v 100 firstD [] w hd q n m _ hln hi (by simp) _ do_abc).mono ?_
  rintro e w' ⟨⟨v', he, hf⟩, hb⟩
  exact ⟨v', he, hf, hb⟩
theorem AOwn.zero {w : World} {base : Nat} {v : Value} {l : List ActC} (h : AOwn w base v l) : AOwn w 0 v l := ⟨own_mono h.row (Nat.zero_le _), fun y hy => (h.data y hy).mono (Nat.zero_le _)⟩
theorem clear_zero (v : Value) (w : World) (hd : DiskIn w v 100 zeroD []) : Calls Try.prog 8 #[v] w fun e w' => ∃ q n m l, e = .returned (.tuple #[.slice q n m, .int .i64 0]) ∧ AOwn w' 0 (.slice q n m) l ∧ l.map Prod.fst = clearActs 1 ∧ Below w.heap.size w w' :=
  (Clear_ok v 100 zeroD [] w hd hasZero 1 (by rw [log_zero, mostE_zero]) (by decide)).mono (by
    rintro e w' ⟨v', l, rfl, ha, hm, hb⟩
    obtain ⟨q, m, rfl, _, _⟩ := ha.form
    exact ⟨q, _, m, l, rfl, ha.zero, hm, hb⟩)
theorem fin3 {w w3 : World} {base : Nat} {v : Value} {count : Int} {data : List Nat} {ws : Puts} (h : DiskF base w3 v count data ws) (hb : Below w.heap.size w w3) (hlt : w.heap.size < base) (o : Obj) (a b c : Value) :
    (∀ w2, Below (((((w3.setCell ⟨w.heap.size, 0, none⟩ a).setCell ⟨w.heap.size, 1, none⟩ b).setCell ⟨w.heap.size, 2, none⟩ c).alloc o).heap.size) ((((w3.setCell ⟨w.heap.size, 0, none⟩ a).setCell ⟨w.heap.size, 1, none⟩ b).setCell ⟨w.heap.size, 2, none⟩ c).alloc o) w2 → DiskIn w2 v count data ws) ∧ Below w.heap.size w ((((w3.setCell ⟨w.heap.size, 0, none⟩ a).setCell ⟨w.heap.size, 1, none⟩ b).setCell ⟨w.heap.size, 2, none⟩ c).alloc o) := by
  have e1 : ∀ k, base ≤ k → k < w3.heap.size → (((w3.setCell ⟨w.heap.size, 0, none⟩ a).setCell ⟨w.heap.size, 1, none⟩ b).setCell ⟨w.heap.size, 2, none⟩ c).heap[k]? = w3.heap[k]? := fun k hk hk2 =>
    ((set_other c (by simpa using hk2) (by omega)).trans (set_other b (by simpa using hk2) (by omega))).trans (set_other a hk2 (by omega))
  have e2 : (((w3.setCell ⟨w.heap.size, 0, none⟩ a).setCell ⟨w.heap.size, 1, none⟩ b).setCell ⟨w.heap.size, 2, none⟩ c).heap.size = w3.heap.size := by simp
  have e3 := below_set3 (a := a) (b := b) (c := c) hb
  generalize ((w3.setCell ⟨w.heap.size, 0, none⟩ a).setCell ⟨w.heap.size, 1, none⟩ b).setCell ⟨w.heap.size, 2, none⟩ c = W at *
  refine ⟨fun w2 h2 => h w2 (fun k hk hk2 => ?_), below_bt e3 (below_alloc _ _)⟩
  have h3 := below_bt (below_alloc W o) h2
  rw [h3.block k (by omega)]
  exact e1 k hk hk2
set_option maxRecDepth 8000 in
set_option maxHeartbeats 1000000 in
theorem cleared_any (w : World) : Calls Try.prog 14 #[.int .i64 100] w fun e w' => ∃ v, e = .returned (.tuple #[v, .bool true]) ∧ (∀ w2, Below w'.heap.size w' w2 → DiskIn w2 v 100 firstD []) ∧ Below w.heap.size w w' := by
  go_enter Try.func14, Try.ntmps14
  go_wp2_with fail
  refine (new_100 _).mono ?_
  rintro e w1 ⟨v1, rfl, hd1, hb1⟩
  obtain ⟨p, c, q, m, rfl, _⟩ := (hd1 _ (Below.refl _ _)).parts
  obtain ⟨D, hD⟩ : ∃ D, zeroD.length = D := ⟨_, rfl⟩
  rw [hD] at hd1 ⊢
  have HD1 : Hid (∀ w2, Below w1.heap.size w1 w2 → DiskIn w2 (.agg #[.int .i64 100, .slice p D c, .slice q (List.length (α := Int × List Nat) []) m]) 100 zeroD []) := hd1
  have HB1 : Hid (Below w.heap.size w w1) := below_bt (below_alloc w _) hb1
  have HX : Hid (w1.heap[w.heap.size]? = some (.cells #[.int .i64 0, .slice none 0 0, .slice none 0 0] 25 (0, 0))) := (hb1.block _ (by simp)).trans (heap_alloc_new w _)
  obtain ⟨z, hz⟩ : ∃ z, List.length (α := Int × List Nat) [] = z := ⟨_, rfl⟩
  rw [hz] at HD1 ⊢
  clear hd1 hb1 hD hz
  go_wp2_with fail
  refine (clear_zero _ _ (HD1.out _ (below_alloc _ _))).mono ?_
  rintro e w2 ⟨lq, ln, lm, l, rfl, ha2, hm2, hb2⟩
  have HX2 : Hid (w2.heap[w1.heap.size]? = some (.cells #[.int .i64 100, .slice p D c, .slice q z m] 25 (0, 0))) := (hb2.block _ (by simp)).trans (heap_alloc_new w1 _)
  obtain ⟨c0, c1, c2, _⟩ := box3 HX2.out
  have hb12 : Below w1.heap.size w1 w2 := below_bt (below_alloc _ _) hb2
  have HA2 : Hid (AOwn w2 0 (.slice lq ln lm) l ∧ l.map Prod.fst = clearActs 1) := ⟨ha2, hm2⟩
  have HB2 : Hid (Below w1.heap.size w1 w2) := hb12
  clear ha2 hm2 hb2 hb12
  go_wp2_with fail
  refine (do_first_any _ _ lq ln lm l (HD1.out _ HB2.out) HA2.out.1 HA2.out.2).mono ?_
  rintro e w3 ⟨v3, rfl, hf3, hb3⟩
  obtain ⟨p3, c3, q3, m3, rfl, _⟩ := hf3.self.parts
  obtain ⟨D3, hD3⟩ : ∃ D, firstD.length = D := ⟨_, rfl⟩
  rw [hD3] at hf3 ⊢
  have hb13 := below_bt HB2.out hb3
  have HX3 : Hid (w3.heap[w.heap.size]? = some (.cells #[.int .i64 0, .slice none 0 0, .slice none 0 0] 25 (0, 0))) := (hb13.block _ (lt_heap HX.out)).trans HX.out
  obtain ⟨x0, x1, x2, y0, y1, y2⟩ := box3 HX3.out
  have hlt3 : w.heap.size < w3.heap.size := lt_heap HX3.out
  have HF3 : Hid (DiskF w2.heap.size w3 (.agg #[.int .i64 100, .slice p3 D3 c3, .slice q3 (List.length (α := Int × List Nat) []) m3]) 100 firstD []) := hf3
  have HB3 : Hid (Below w.heap.size w w3) := below_bt HB1.out hb13
  have HLT : Hid (w.heap.size < w2.heap.size) := by have := lt_heap HX.out; have := HB2.out.size; show _ < _; omega
  obtain ⟨z3, hz3⟩ : ∃ z, List.length (α := Int × List Nat) [] = z := ⟨_, rfl⟩
  rw [hz3] at HF3 ⊢
  clear hf3 hb3 hD3 hb13 c0 c1 c2 hz3
  go_wp2
  (try simp only [Exit.inBlock, Exit.then])
  refine bodyPost_ret (v := .tuple #[.agg #[.int .i64 100, .slice p3 D3 c3, .slice q3 z3 m3], .bool true]) ?_ rfl ⟨_, rfl, ?_⟩
  · rw [results_cell_tmp rfl]
    go_simp
  · exact fin3 HF3.out HB3.out HLT.out _ _ _ _
end Go.Proofs.Ytkjooekicbghdab
namespace Go.Proofs.Ytkjooekicbghdab
open Go.RowKit Go.WideShapes

def abcS : ByteArray := { data := #[97, 98, 99] }
theorem add_abc (v : Value) (w : World) (hd : DiskIn w v 100 firstD []) : Calls Try.prog 15 #[v, .string { data := #[97, 98, 99] }] w fun e w' => ∃ q n m l, e = .returned (.tuple #[.slice q n m, .int .i64 0]) ∧ AOwn w' 0 (.slice q n m) l ∧ l.map Prod.fst = [(false, 17, abcF)] ∧ Below w.heap.size w w' := by
  have hdrop : (logN firstD []).drop 128 = List.replicate 8064 0 := by rw [log_first]; exact List.drop_left' (headL_len 1)
  refine (Add_ok v { data := #[97, 98, 99] } 100 firstD [] w hd hasFirst (by rw [log_first, List.length_append, headL_len, List.length_replicate]) 1 (by rw [log_first, epoch_head]) (by decide) (by decide) [] 0 0 (List.replicate 8064 0) 1 (by rw [hdrop]; exact recs_zero _ (by decide) (by decide)) (by rw [mostS_zero]) (by decide) (by decide)).mono ?_
  rintro e w' ⟨v', l, rfl, ha, hm, hb⟩
  obtain ⟨q, m, rfl, _, _⟩ := ha.form
  refine ⟨q, _, m, l, rfl, ha.zero, ?_, hb⟩
  rw [hm]
  exact actsK_head 17 abcF abc_len
theorem str_abc : strOf abcL = { data := #[97, 98, 99] } := by decide
theorem records_abc (v : Value) (w : World) (hd : DiskIn w v 100 firstD [(17, abcF)]) : Calls Try.prog 7 #[v] w fun e w' => ∃ g c, e = .returned (.tuple #[.slice (some ⟨g, 0, none⟩) 1 c, .int .i64 0]) ∧ w'.cell? ⟨g, 0, none⟩ = some (.string { data := #[97, 98, 99] }) ∧ Below w.heap.size w w' := by
  have hdrop : (logN firstD [(17, abcF)]).drop 128 = abcF ++ List.replicate 7936 0 := by rw [log_abc]; exact List.drop_left' (headL_len 1)
  refine (Records_ok v 100 firstD [(17, abcF)] w hd hasAbc 1 (by rw [log_abc, epoch_head]) (by decide)).mono ?_
  rintro e w' ⟨rv, l, a, la, t, rfl, hrec, hown, hb⟩
  rw [hdrop] at hrec
  obtain ⟨rfl, rfl, rfl, rfl⟩ := recs_abc.only (by decide) (by decide) hrec
  rcases hown.2 with ⟨_, h0⟩ | ⟨g, cap, cur, rfl, _, hg, h1, h2, _, h3⟩
  · cases h0
  · refine ⟨g, cap, rfl, ?_, hb⟩
    have h4 := hown.cellAt 0 (by decide)
    rw [h4]
    simp [str_abc]
set_option maxRecDepth 8000 in
set_option maxHeartbeats 1000000 in
theorem alive_any (w : World) : Calls Try.prog 5 #[] w fun e w' => e = .returned (.bool true) ∧ Below w.heap.size w w' := by
  go_enter Try.func5, Try.ntmps5
  go_wp2_with fail
  refine (cleared_any _).mono ?_
  rintro e w1 ⟨v1, rfl, hd1, hb1⟩
  obtain ⟨p, c, q, m, rfl, _⟩ := (hd1 _ (Below.refl _ _)).parts
  obtain ⟨D, hD⟩ : ∃ D, firstD.length = D := ⟨_, rfl⟩
  obtain ⟨z, hz⟩ : ∃ z, List.length (α := Int × List Nat) [] = z := ⟨_, rfl⟩
  rw [hD, hz] at hd1 ⊢
  have HD1 : Hid (∀ w2, Below w1.heap.size w1 w2 → DiskIn w2 (.agg #[.int .i64 100, .slice p D c, .slice q z m]) 100 firstD []) := hd1
  have HB1 : Hid (Below w.heap.size w w1) := hb1
  clear hd1 hb1 hD hz
  go_wp2_with fail
  refine (add_abc _ _ (HD1.out _ (below_alloc _ _))).mono ?_
  rintro e w2 ⟨lq, ln, lm, l, rfl, ha2, hm2, hb2⟩
  have HX2 : Hid (w2.heap[w1.heap.size]? = some (.cells #[.int .i64 100, .slice p D c, .slice q z m] 25 (0, 0))) := (hb2.block _ (by simp)).trans (heap_alloc_new w1 _)
  obtain ⟨c0, c1, c2, _⟩ := box3 HX2.out
  have hb12 : Below w1.heap.size w1 w2 := below_bt (below_alloc _ _) hb2
  have HA2 : Hid (AOwn w2 0 (.slice lq ln lm) l ∧ l.map Prod.fst = [(false, 17, abcF)]) := ⟨ha2, hm2⟩
  have HB2 : Hid (Below w1.heap.size w1 w2) := hb12
  clear ha2 hm2 hb2 hb12
  go_wp2_with fail
  refine (do_abc_any _ _ lq ln lm l (HD1.out _ HB2.out) HA2.out.1 HA2.out.2).mono ?_
  rintro e w3 ⟨v3, rfl, hf3, hb3⟩
  obtain ⟨p3, c3, q3, m3, rfl, _⟩ := hf3.self.parts
  obtain ⟨D3, hD3⟩ : ∃ D, firstD.length = D := ⟨_, rfl⟩
  obtain ⟨z3, hz3⟩ : ∃ z, List.length (α := Int × List Nat) [(17, abcF)] = z := ⟨_, rfl⟩
  rw [hD3, hz3] at hf3 ⊢
  have HF3 : Hid (DiskF w2.heap.size w3 (.agg #[.int .i64 100, .slice p3 D3 c3, .slice q3 z3 m3]) 100 firstD [(17, abcF)]) := hf3
  have HB3 : Hid (Below w.heap.size w w3) := below_bt (below_bt HB1.out HB2.out) hb3
  clear hf3 hb3 hD3 hz3 c0 c1 c2
  go_wp2_with fail
  refine (records_abc _ _ (HF3.out.below (below_alloc _ _))).mono ?_
  rintro e w4 ⟨g, cg, rfl, hcell, hb4⟩
  have HB4 : Hid (Below w.heap.size w w4) := below_bt (below_bt HB3.out (below_alloc _ _)) hb4
  clear hb4
  go_wp2
  go_ret
  exact ⟨rfl, HB4.out⟩
end Go.Proofs.Ytkjooekicbghdab
namespace Go.Proofs.Ytkjooekicbghdab
open Go.RowKit Go.WideShapes

/-- A disk in a box of the call's own. -/
structure Boxed (w0 w : World) (B : Nat) (count : Int) (p : Option Addr) (D c : Nat) (q : Option Addr) (z m : Nat) (data : List Nat) (ws : Puts) : Prop where
  box : w.heap[B]? = some (.cells #[.int .i64 count, .slice p D c, .slice q z m] 25 (0, 0))
  disk : DiskIn w (.agg #[.int .i64 count, .slice p D c, .slice q z m]) count data ws
  below : Below w0.heap.size w0 w
def zd : Array Value := #[.int .i64 0, .slice none 0 0, .slice none 0 0]
theorem boxz3 (w1 : World) {W w2 : World} (h : Below W.heap.size W w2) (hW : W.heap[w1.heap.size]? = some (.cells zd 25 (0, 0))) :
    Hid (w2.heap[w1.heap.size]? = some (.cells zd 25 (0, 0))) ∧ w2.cell? ⟨w1.heap.size, 0, none⟩ = some (.int .i64 0) ∧ w2.cell? ⟨w1.heap.size, 1, none⟩ = some (.slice none 0 0) ∧ w2.cell? ⟨w1.heap.size, 2, none⟩ = some (.slice none 0 0) ∧ w2.frozen? ⟨w1.heap.size, 0, none⟩ = false ∧ w2.frozen? ⟨w1.heap.size, 1, none⟩ = false ∧ w2.frozen? ⟨w1.heap.size, 2, none⟩ = false := by
  have hh := (h.block _ (lt_heap hW)).trans hW
  exact ⟨hh, cell_of_row _ _ 0 _ _ _ hh, cell_of_row _ _ 1 _ _ _ hh, cell_of_row _ _ 2 _ _ _ hh, frozen_of_row _ _ _ _ _ hh, frozen_of_row _ _ _ _ _ hh, frozen_of_row _ _ _ _ _ hh⟩
/-- The disk that Do answered, laid down. -/
theorem boxed_behind {w1 w2 : World} {count : Int} {p q : Option Addr} {D c z m base : Nat} {data : List Nat} {ws : Puts} (hf : DiskF base w2 (.agg #[.int .i64 count, .slice p D c, .slice q z m]) count data ws) (hb : Below w1.heap.size w1 w2) :
    Boxed w1 (w2.alloc (.cells #[.int .i64 count, .slice p D c, .slice q z m] 25)) w2.heap.size count p D c q z m data ws :=
  ⟨heap_alloc_new _ _, hf.below (below_alloc _ _), below_bt hb (below_alloc _ _)⟩
theorem boxed_ahead {w1 w2 : World} {count : Int} {p q : Option Addr} {D c z m base : Nat} {data : List Nat} {ws : Puts} (hf : DiskF base w2 (.agg #[.int .i64 count, .slice p D c, .slice q z m]) count data ws) (hlt : w1.heap.size < base) (hb : Below w1.heap.size w1 w2) (hz : w2.heap[w1.heap.size]? = some (.cells zd 25 (0, 0))) :
    Boxed w1 (((w2.setCell ⟨w1.heap.size, 0, none⟩ (.int .i64 count)).setCell ⟨w1.heap.size, 1, none⟩ (.slice p D c)).setCell ⟨w1.heap.size, 2, none⟩ (.slice q z m)) w1.heap.size count p D c q z m data ws :=
  ⟨set3_same w2 w1.heap.size _ _ _ _ _ _ _ hz, hf.set3 hlt _ _ _, set3_below hb (Nat.le_refl _) _ _ _⟩
theorem Boxed.drew {w0 w : World} {B : Nat} {count : Int} {p q : Option Addr} {D c z m : Nat} {data : List Nat} {ws : Puts} (h : Boxed w0 w B count p D c q z m data ws) : Boxed w0 w.drew B count p D c q z m data ws :=
  ⟨h.box, h.disk.below (by exact (Below.refl _ _).drew), h.below.drew⟩
set_option maxRecDepth 8000 in
set_option maxHeartbeats 2000000 in
theorem empt_main (v : Value) (count : Int) (data : List Nat) (n : Nat) (ql : Option Addr) (nl ml : Nat) (keep : List Bool) (w : World) (hd : DiskIn w v count data []) (hlg : ¬ largeL count data []) (her : errL count data [] = 0) (hM0 : mostE (logN data []) 63 + 1 < 4294967296) (hn : n ≤ 2) (hnl : nl = keep.length) (hl : BoolsIn w ql keep) (hk : (nl : Int) ≤ 10000) :
    Calls Try.prog 3 #[v, .int .i64 n, .slice ql nl ml] w fun e w' => e = .returned (.bool true) ∧ Below w.heap.size w w' := by
  obtain ⟨p, c, q, m, rfl, _⟩ := hd.parts
  obtain ⟨hhas, hE0⟩ := errL_ok her
  obtain ⟨E, hE⟩ : ∃ E, epochN (logN data []) = E := ⟨_, rfl⟩
  rw [hE] at hE0
  obtain ⟨M, hM⟩ : ∃ M, mostE (logN data []) 63 + 1 = M := ⟨_, rfl⟩
  rw [hM] at hM0
  obtain ⟨z0, hz0⟩ : ∃ z, List.length (α := Int × List Nat) [] = z := ⟨_, rfl⟩
  have hz : z0 = 0 := hz0.symm
  subst hz
  have HG : Hid (HasLog count data [] ∧ epochN (logN data []) = E ∧ E ≠ 0 ∧ mostE (logN data []) 63 + 1 = M ∧ M < 4294967296) := ⟨hhas, hE, hE0, hM, hM0⟩
  have HD : Hid (DiskIn w (.agg #[.int .i64 count, .slice p data.length c, .slice q 0 m]) count data []) := hd
  have HLG : Hid (decide (largeL count data []) = false) := decide_eq_false hlg
  have HL : Hid (nl = keep.length ∧ BoolsIn w ql keep ∧ n ≤ 2 ∧ (nl : Int) ≤ 10000) := ⟨hnl, hl, hn, hk⟩
  have g0 : decide ((10000 : Int) < (nl : Int)) = false := decide_eq_false (by omega)
  have hE32 : E < 4294967296 := hE ▸ epochN_lt _
  have hnI : (n : Int) ≤ 2 := by omega
  clear hd hlg her hhas hE0 hE hM hM0 hnl hl hk hn
  go_enter Try.func3, Try.ntmps3
  go_wp2_with fail
  refine (alive_any _).mono ?_
  rintro e w1 ⟨rfl, hb1⟩
  have HX1 : Hid (w1.heap[w.heap.size]? = some (.cells #[.int .i64 count, .slice p data.length c, .slice q 0 m] 25 (0, 0))) := (hb1.block _ (by simp)).trans (heap_alloc_new w _)
  have HB1 : Hid (Below w.heap.size w w1) := below_bt (below_alloc w _) hb1
  clear hb1
  obtain ⟨c0, c1, c2, _⟩ := box3 HX1.out
  go_wp2_with fail
  refine (large5_any _ count data [] _ (HD.out.below HB1.out)).mono ?_
  rintro e w2 ⟨rfl, hb2⟩
  rw [HLG.out]
  have HX2 : Hid (w2.heap[w.heap.size]? = some (.cells #[.int .i64 count, .slice p data.length c, .slice q 0 m] 25 (0, 0))) := (hb2.block _ (lt_heap HX1.out)).trans HX1.out
  have HB2 : Hid (Below w.heap.size w w2) := below_bt HB1.out hb2
  clear hb2 c0 c1 c2
  obtain ⟨c0, c1, c2, _⟩ := box3 HX2.out
  go_wp2_with fail
  refine (Records_ok _ count data [] _ (HD.out.below HB2.out) HG.out.1 E HG.out.2.1 HG.out.2.2.1).mono ?_
  rintro e w3 ⟨rv, l, a, la, t, rfl, hrec, hown, hb3⟩
  obtain ⟨rq, rm, rfl, _, _, _⟩ := own_form hown
  have HO3 : Hid (w3.ownsRow w2.heap.size 9 1 (.slice rq l.length rm) l.length (l.map fun r => .string (strOf r))) := hown
  have HREC : Hid (Recs E 0 ((logN data []).drop 128) l a la t) := hrec
  have HLL : Hid (l.length ≤ 63) := by
    have h1 := hrec.count
    have h2 := (hrec.facts (n := 63) (by rw [List.length_drop, log_len HG.out.1]) (by omega)).1
    show _ ≤ _
    omega
  have HX3 : Hid (w3.heap[w.heap.size]? = some (.cells #[.int .i64 count, .slice p data.length c, .slice q 0 m] 25 (0, 0))) := (hb3.block _ (lt_heap HX2.out)).trans HX2.out
  have HB3 : Hid (Below w.heap.size w w3) := below_bt HB2.out hb3
  clear hb3 c0 c1 c2 hrec hown
  obtain ⟨c0, c1, c2, _⟩ := box3 HX3.out
  go_wp2_with fail
  refine (Clear_ok _ count data [] _ (HD.out.below HB3.out) HG.out.1 M HG.out.2.2.2.1 HG.out.2.2.2.2).mono ?_
  rintro e w4 ⟨uv, ul, rfl, ua, um, ub⟩
  obtain ⟨uq, ucap, rfl, huc, huc2⟩ := ua.form
  have hul : ul.length = 2 := by have := congrArg List.length um; simpa [clearActs] using this
  rw [hul] at ua huc ⊢
  have HU : Hid (AOwn w4 0 (.slice uq 2 ucap) ul ∧ ul.map Prod.fst = clearActs M) := ⟨ua.zero, um⟩
  have HX4 : Hid (w4.heap[w.heap.size]? = some (.cells #[.int .i64 count, .slice p data.length c, .slice q 0 m] 25 (0, 0))) := (ub.block _ (lt_heap HX3.out)).trans HX3.out
  have HB34 : Hid (Below w3.heap.size w3 w4) := ub
  have HB4 : Hid (Below w.heap.size w w4) := below_bt HB3.out ub
  clear ua um ub c0 c1 c2 hul
  obtain ⟨c0, c1, c2, _⟩ := box3 HX4.out
  obtain ⟨D, W, hdo, hok, hcr⟩ := empt_case (M := M) HG.out.1 n HL.out.2.2.1 keep
  have HC : Hid (doAny count data [] ((clearActs M).take n) = .ok (D, W) ∧ Okay count D W ∧ ((n < 2 ∧ crashN D W keep = data) ∨ crashN D W keep = settleN data [(16, headL M)])) := ⟨hdo, hok, hcr⟩
  clear hdo hok hcr
  have HDO : Hid (∀ w', Below w4.heap.size w4 w' → Calls Try.prog 9 #[.agg #[.int .i64 count, .slice p data.length c, .slice q 0 m], .slice uq n ucap] w' fun e w2 => ∃ p7 D7 c7 q7 z7 m7, e = .returned (.tuple #[.agg #[.int .i64 count, .slice p7 D7 c7, .slice q7 z7 m7], .int .i64 0]) ∧ DiskF w'.heap.size w2 (.agg #[.int .i64 count, .slice p7 D7 c7, .slice q7 z7 m7]) count D W ∧ Below w'.heap.size w' w2) := fun w' hb' => by
    obtain ⟨_, hi, _, _⟩ := (HU.out.1.below hb').lies
    rw [HU.out.2] at hi
    refine (do_all _ count data [] w' ((HD.out.below HB4.out).below hb') uq n ucap ((clearActs M).take n) (by rw [List.length_take]; show n = min n 2; have := HL.out.2.2.1; omega) (acts_take hi n) (by rw [List.length_take]; show min n 2 ≤ _; omega) _ HC.out.1).mono ?_
    rintro e w2 ⟨⟨v', he, hf⟩, hb⟩
    obtain ⟨p7, c7, q7, m7, rfl, _⟩ := hf.self.parts
    exact ⟨p7, _, c7, q7, _, m7, he, hf, hb⟩
  have hnew : ∀ o, (w4.alloc o).drew.heap[w4.heap.size]? = some o := fun o => heap_alloc_new w4 o
  have hucI : (2 : Int) ≤ (ucap : Int) := by omega
  have hnu : (n : Int) ≤ (ucap : Int) := by omega
  have hlt4 : w.heap.size < w4.heap.size := lt_heap HX4.out
  clear huc huc2
  go_upto_region 10 with fail
  go_cut [12, 13] from 62 (fun s12 s13 wx => ∃ B p7 D7 c7 q7 z7 m7, s12 = .pointer (some ⟨B, 0, none⟩) ∧ s13 = .int .i64 0 ∧ Boxed w4 wx B count p7 D7 c7 q7 z7 m7 D W)
  case first =>
    go_region_with (go_at_call 9; refine (HDO.out _ ?_).mono ?_; (first | exact (Below.refl _ _).drew | exact ((Below.refl _ _).drew).alloc (by simp) _); rintro e w5 ⟨p7, D7, c7, q7, z7, m7, rfl, hf5, hb5⟩; have hz := boxz3 w4 hb5; try (simp only [hnew] at hz; obtain ⟨HZ, z0, z1, z2, y0, y1, y2⟩ := hz rfl))
    all_goals
      go_wp2
      go_meet
      case rel =>
        first
          | exact ⟨_, p7, D7, c7, q7, z7, m7, rfl, rfl, boxed_behind hf5 (below_dw hb5)⟩
          | exact ⟨_, p7, D7, c7, q7, z7, m7, rfl, rfl, boxed_ahead hf5 (by simp) (((Below.refl w4.heap.size w4).alloc (Nat.le_refl _) _).drew.trans (hb5.mono (by simp))) HZ.out⟩
  case rest =>
    obtain ⟨B, p7, D7, c7, q7, z7, m7, rfl, rfl, hbx⟩ := hcut
    have HBX : Hid (Boxed w4 wc B count p7 D7 c7 q7 z7 m7 D W) := hbx
    have HB7 : Hid (Below w.heap.size w wc) := below_bt HB4.out hbx.below
    have HO7 : Hid (StrsIn wc rq (l.map strOf)) := (own_strs HO3.out).2.1.below (below_bt HB34.out hbx.below)
    clear hbx hnew c0 c1 c2 HDO hucI hnu hlt4
    obtain ⟨c0, c1, c2, _⟩ := box3 HBX.out.box
    obtain ⟨Y, hY⟩ : ∃ Y, crashN D W keep = Y := ⟨_, rfl⟩
    have HY : Hid (crashN D W keep = Y) := hY
    have HCR : Hid (∀ w', Below wc.heap.size wc w' → Calls Try.prog 10 #[.agg #[.int .i64 count, .slice p7 D7 c7, .slice q7 z7 m7], .slice ql nl ml] w' fun e w2 => ∃ p8 D8 c8 q8 z8 m8, e = .returned (.tuple #[.agg #[.int .i64 count, .slice p8 D8 c8, .slice q8 z8 m8], .int .i64 0]) ∧ (∀ w3, Below w2.heap.size w2 w3 → DiskIn w3 (.agg #[.int .i64 count, .slice p8 D8 c8, .slice q8 z8 m8]) count Y []) ∧ Below w'.heap.size w' w2) := fun w' hb' => by
      have h1 := crash_ok _ count D W w' (HBX.out.disk.below hb') HC.out.2.1 ql ml keep ((HL.out.2.1.below HB7.out).below hb') (by have := HL.out.1; have := HL.out.2.2.2; omega)
      rw [← HL.out.1] at h1
      refine h1.mono ?_
      rintro e w2 ⟨⟨v', he, hf⟩, hb⟩
      have hin := hf.toIn (okay_crashed HC.out.2.1 keep)
      obtain ⟨p8, c8, q8, m8, rfl, _⟩ := hin.parts
      obtain ⟨D8, hD8⟩ : ∃ D8, (crashN D W keep).length = D8 := ⟨_, rfl⟩
      rw [hD8] at hin he
      rw [HY.out] at hin
      exact ⟨p8, D8, c8, q8, _, m8, he, fun w3 h3 => hin.below h3, hb⟩
    clear hY
    go_wp2_with fail
    refine (HCR.out _ (Below.refl _ _)).mono ?_
    rintro e w6 ⟨p8, D8, c8, q8, z8, m8, rfl, hin8, hb6⟩
    have HI8 : Hid (∀ w3, Below w6.heap.size w6 w3 → DiskIn w3 (.agg #[.int .i64 count, .slice p8 D8 c8, .slice q8 z8 m8]) count Y []) := hin8
    have HB6 : Hid (Below wc.heap.size wc w6) := hb6
    clear hin8 hb6 c0 c1 c2 HCR
    rcases HC.out.2.2 with ⟨hn2, hd1⟩ | hd1
    · rw [HY.out] at hd1
      subst hd1
      have gn : decide ((n : Int) < 2) = true := decide_eq_true (by omega)
      clear hn2
      go_wp2_with fail
      refine (Records_ok _ count Y [] _ (HI8.out _ (below_alloc _ _)) HG.out.1 E HG.out.2.1 HG.out.2.2.1).mono ?_
      rintro e w8 ⟨rv8, l8, a8, la8, t8, rfl, hrec8, hown8, hb8⟩
      obtain ⟨rfl, rfl, rfl, rfl⟩ := HREC.out.only hE32 (by omega) hrec8
      obtain ⟨rq8, rm8, rfl, _, _, _⟩ := own_form hown8
      have HB8 : Hid (Below wc.heap.size wc w8) := below_bt (below_bt HB6.out (below_alloc _ _)) hb8
      have HT8 : Hid (StrsIn w8 rq8 (l.map strOf) ∧ StrsIn w8 rq (l.map strOf)) := ⟨(own_strs hown8).2.1, HO7.out.below HB8.out⟩
      clear hrec8 hown8 hb8
      by_cases hl0 : l.length = 0
      · have g1 : ((l.length : Int) == 0) = true := by simp [hl0]
        clear hl0
        go_wp2
        go_ret
        exact ⟨rfl, below_bt HB7.out HB8.out⟩
      · have g1 : ((l.length : Int) == 0) = false := by rw [beq_eq_false_iff_ne]; omega
        have HTX := texts_any rq8 rq l.length l.length rm8 rm (l.map strOf) (l.map strOf) w8 (by simp) (by simp) (by have := HLL.out; unfold maxLen; omega) HT8.out.1 HT8.out.2 true (by simp)
        clear hl0
        go_wp2_with fail
        refine HTX.mono ?_
        rintro e w9 ⟨rfl, hb9⟩
        have HB9 : Hid (Below w.heap.size w w9) := below_bt HB7.out (below_bt HB8.out hb9)
        clear hb9
        go_wp2
        go_ret
        exact ⟨rfl, HB9.out⟩
    · rw [HY.out] at hd1
      subst hd1
      go_wp2_with fail
      refine (records_cleared _ count data [] _ M HG.out.1 (by simp) HG.out.2.2.2.1 HG.out.2.2.2.2 (HI8.out _ (below_alloc _ _))).mono ?_
      rintro e w8 ⟨nq, nc, rfl, hb8⟩
      have HB8 : Hid (Below wc.heap.size wc w8) := below_bt (below_bt HB6.out (below_alloc _ _)) hb8
      clear hb8
      go_wp2
      go_ret
      exact ⟨rfl, below_bt HB7.out HB8.out⟩
end Go.Proofs.Ytkjooekicbghdab
