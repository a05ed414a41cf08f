/-
  What is on the disk when the power is lost behind acts. No program.
-/
import Derived.Test.YtnajjfdbmdjcbaaJ08
import Derived.Test.YtnajjfdbmdjcbaaJ07
namespace Go.Proofs.Ytnajjfdbmdjcbaa

theorem secs_all : ∀ (n : Nat) (xs : List Nat), xs.length = n * 128 → xs = (List.range n).flatMap (secAt xs)
  | 0, xs, h => by
    have : xs = [] := List.length_eq_zero_iff.1 (by omega)
    subst this; rfl
  | n + 1, xs, h => by
    have h1 := secs_all n (xs.take (n * 128)) (by rw [List.length_take]; omega)
    rw [List.range_succ, List.flatMap_append, List.flatMap_cons, List.flatMap_nil, List.append_nil]
    have h2 : (List.range n).flatMap (secAt xs) = (List.range n).flatMap (secAt (xs.take (n * 128))) := by
      rw [List.flatMap_def, List.flatMap_def]
      congr 1
      refine List.map_congr_left (fun i hi => ?_)
      have hi := List.mem_range.1 hi
      unfold secAt
      rw [List.drop_take, List.take_take, Nat.min_eq_left (by omega)]
    rw [h2, ← h1]
    have h3 : secAt xs n = xs.drop (n * 128) := by
      unfold secAt
      exact List.take_of_length_le (by rw [List.length_drop]; omega)
    rw [h3, List.take_append_drop]
theorem secs_ext {n : Nat} {xs ys : List Nat} (hx : xs.length = n * 128) (hy : ys.length = n * 128) (h : ∀ i, i < n → secAt xs i = secAt ys i) : xs = ys := by
  rw [secs_all n xs hx, secs_all n ys hy, List.flatMap_def, List.flatMap_def]
  congr 1
  exact List.map_congr_left (fun i hi => h i (List.mem_range.1 hi))
theorem sec_take {xs : List Nat} {a i : Nat} (h : i < a) : secAt (xs.take (a * 128)) i = secAt xs i := by
  unfold secAt
  rw [List.drop_take, List.take_take, Nat.min_eq_left (by omega)]
theorem sec_drop (xs : List Nat) (a i : Nat) : secAt (xs.drop (a * 128)) i = secAt xs (a + i) := by
  unfold secAt
  rw [List.drop_drop]
  congr 2
  omega
theorem sec_logK {data : List Nat} {ws : Puts} {n i : Nat} (hl : ∀ j, j < n → (nowN data ws ((16 + j : Nat) : Int)).length = 128) (hi : i < n) : secAt (logK data ws n) i = nowN data ws ((16 + i : Nat) : Int) := by
  have hlen : ∀ k, k ≤ n → (logK data ws k).length = k * 128 := by
    intro k
    induction k with
    | zero => intro _; rfl
    | succ k ih => intro hk; rw [logK_snoc, List.length_append, ih (by omega), hl k (by omega)]; omega
  induction n with
  | zero => omega
  | succ n ih =>
    rw [logK_snoc]
    have hn := hlen n (by omega)
    rcases Nat.lt_or_ge i n with h | h
    · rw [← ih (fun j hj => hl j (by omega)) h (fun k hk => hlen k (by omega))]
      unfold secAt
      rw [List.drop_append_of_le_length (by omega), List.take_append_of_le_length (by rw [List.length_drop]; omega)]
    · obtain rfl : i = n := by omega
      unfold secAt
      rw [← hn, List.drop_left, List.take_of_length_le (by rw [hl i (by omega)]; omega)]
def putsK (fr : Int) (xs : List Nat) (k : Nat) : Puts := (List.range k).map fun i : Nat => (fr + (i : Int), secAt xs i)
theorem putsK_snoc (fr : Int) (xs : List Nat) (k : Nat) : putsK fr xs (k + 1) = putsK fr xs k ++ [(fr + (k : Int), secAt xs k)] := by
  unfold putsK; rw [List.range_succ, List.map_append]; rfl
theorem putsK_len (fr : Int) (xs : List Nat) (k : Nat) : (putsK fr xs k).length = k := by simp [putsK]
theorem now_puts {data : List Nat} {ws : Puts} {fr : Nat} {xs : List Nat} : ∀ (k n : Nat), nowN data (ws ++ putsK (fr : Int) xs k) (n : Int) = if fr ≤ n ∧ n < fr + k then secAt xs (n - fr) else nowN data ws (n : Int)
  | 0, n => by rw [if_neg (by omega)]; simp [putsK]
  | k + 1, n => by
    rw [putsK_snoc, ← List.append_assoc, now_written, now_puts k n]
    by_cases h : (fr : Int) + (k : Int) = n
    · rw [if_pos h, if_pos (by omega), show n - fr = k from by omega]
    · rw [if_neg h]
      by_cases h2 : fr ≤ n ∧ n < fr + k
      · rw [if_pos h2, if_pos (by omega)]
      · rw [if_neg h2, if_neg (by omega)]
theorem do_puts {count : Int} {data : List Nat} {ws : Puts} {fr : Int} {xs : List Nat} (h0 : 0 ≤ fr) : ∀ (k : Nat), (∀ i, i < k → (secAt xs i).length = 128) → fr + k ≤ count → ws.length + k ≤ 4096 → doN count (data, ws) (actsK fr xs k) = .ok (data, ws ++ putsK fr xs k)
  | 0, _, _, _ => by simp [actsK, putsK, doN]
  | k + 1, h1, h2, h3 => by
    rw [actsK_snoc, putsK_snoc, doN_app, do_puts h0 k (fun i hi => h1 i (by omega)) (by omega) (by omega)]
    have h4 := h1 k (by omega)
    have h5 : (ws ++ putsK fr xs k).length = ws.length + k := by rw [List.length_append, putsK_len]
    simp only [doN, stepA]
    rw [if_neg (by simp), if_neg (fun hh => hh ⟨by show 0 ≤ fr + (k : Int); omega, by show fr + (k : Int) < count; omega⟩), if_neg (by simp [h4]), if_neg (by simp only [h5]; omega), List.append_assoc]
theorem now_len {count : Int} {data : List Nat} {ws : Puts} (h : HasLog count data ws) : ∀ j, j < 64 → (nowN data ws ((16 + j : Nat) : Int)).length = 128 := fun j hj => nowN_len h.ok (by have := h.big; omega)
theorem log_len {count : Int} {data : List Nat} {ws : Puts} (h : HasLog count data ws) : (logN data ws).length = 64 * 128 := by
  have : ∀ k, k ≤ 64 → (logK data ws k).length = k * 128 := by
    intro k
    induction k with
    | zero => intro _; rfl
    | succ k ih => intro hk; rw [logK_snoc, List.length_append, ih (by omega), now_len h k (by omega)]; omega
  exact this 64 (Nat.le_refl _)
/-- The log's bytes behind the acts of Add. -/
theorem log_added {count : Int} {data : List Nat} {ws : Puts} {a k : Nat} {F : List Nat} (h : HasLog count data ws) (h' : HasLog count data (ws ++ putsK ((17 + a : Nat) : Int) F k)) (hak : a + k ≤ 63) (hF : F.length = k * 128) :
    (logN data (ws ++ putsK ((17 + a : Nat) : Int) F k)).take 128 = (logN data ws).take 128 ∧
    ((logN data (ws ++ putsK ((17 + a : Nat) : Int) F k)).drop 128).take (a * 128) = ((logN data ws).drop 128).take (a * 128) ∧
    (((logN data (ws ++ putsK ((17 + a : Nat) : Int) F k)).drop 128).drop (a * 128)).take (k * 128) = F ∧
    (((logN data (ws ++ putsK ((17 + a : Nat) : Int) F k)).drop 128).drop (a * 128)).drop (k * 128) = (((logN data ws).drop 128).drop (a * 128)).drop (k * 128) := by
  have l1 := log_len h
  have l2 := log_len h'
  have s1 : ∀ i, i < 64 → secAt (logN data ws) i = nowN data ws ((16 + i : Nat) : Int) := fun i hi => sec_logK (now_len h) hi
  have s2 : ∀ i, i < 64 → secAt (logN data (ws ++ putsK ((17 + a : Nat) : Int) F k)) i = if 17 + a ≤ 16 + i ∧ 16 + i < 17 + a + k then secAt F (16 + i - (17 + a)) else nowN data ws ((16 + i : Nat) : Int) := fun i hi => (sec_logK (now_len h') hi).trans (now_puts k (16 + i))
  generalize logN data (ws ++ putsK ((17 + a : Nat) : Int) F k) = L' at *
  generalize logN data ws = L at *
  have d1 : ∀ (X : List Nat) i, secAt (X.drop 128) i = secAt X (1 + i) := fun X i => by have := sec_drop X 1 i; rwa [Nat.one_mul] at this
  refine ⟨?_, ?_, ?_, ?_⟩
  · have e : ∀ X : List Nat, X.take 128 = secAt X 0 := fun X => by unfold secAt; simp
    rw [e, e, s1 0 (by omega), s2 0 (by omega), if_neg (by omega)]
  · refine secs_ext (n := a) (by rw [List.length_take, List.length_drop]; omega) (by rw [List.length_take, List.length_drop]; omega) (fun i hi => ?_)
    rw [sec_take hi, sec_take hi, d1, d1, s1 _ (by omega), s2 _ (by omega), if_neg (by omega)]
  · refine secs_ext (n := k) (by rw [List.length_take, List.length_drop, List.length_drop]; omega) hF (fun i hi => ?_)
    rw [sec_take hi, sec_drop, d1, s2 _ (by omega), if_pos (by omega)]
    congr 1
    omega
  · refine secs_ext (n := 63 - a - k) (by rw [List.length_drop, List.length_drop, List.length_drop]; omega) (by rw [List.length_drop, List.length_drop, List.length_drop]; omega) (fun i hi => ?_)
    rw [sec_drop, sec_drop, sec_drop, sec_drop, d1, d1, s1 _ (by omega), s2 _ (by omega), if_neg (by omega)]
end Go.Proofs.Ytnajjfdbmdjcbaa
namespace Go.Proofs.Ytnajjfdbmdjcbaa
open Go.RowKit Go.WideShapes

def zeroD : List Nat := List.replicate (100 * 128) 0
def abcL : List Nat := [97, 98, 99]
def firstD : List Nat := settleN zeroD [(16, headL 1)]
def abcF : List Nat := frameN 1 1 0 abcL
theorem flat_zero (k : Nat) : (List.range k).flatMap (fun _ => List.replicate 128 0) = List.replicate (k * 128) 0 := by
  induction k with
  | zero => rfl
  | succ k ih => rw [List.range_succ, List.flatMap_append, ih, List.flatMap_cons, List.flatMap_nil, List.append_nil, List.replicate_append_replicate]; congr 1; omega
theorem logK_is {data : List Nat} {ws : Puts} {k : Nat} (f : Nat → List Nat) (h : ∀ i, i < k → nowN data ws ((16 + i : Nat) : Int) = f i) : logK data ws k = (List.range k).flatMap f := by
  unfold logK
  induction k with
  | zero => rfl
  | succ k ih => rw [List.range_succ, List.flatMap_append, List.flatMap_append, ih (fun i hi => h i (by omega)), List.flatMap_cons, List.flatMap_nil, List.flatMap_cons, List.flatMap_nil, h k (by omega)]
theorem range_shift (k : Nat) (f : Nat → List Nat) : (List.range (k + 1)).flatMap f = f 0 ++ (List.range k).flatMap (fun i => f (i + 1)) := by
  rw [List.range_succ_eq_map, List.flatMap_cons, List.flatMap_map]
theorem zero_sec {n : Nat} (h : n < 100) : nowN zeroD [] (n : Int) = List.replicate 128 0 := by
  simp only [nowN, nowK, List.length_nil, Option.getD_none, Int.toNat_natCast, secN, zeroD, List.drop_replicate, List.take_replicate]
  congr 1
  omega
theorem zeroD_len : (zeroD.length : Int) = 100 * 128 := by unfold zeroD; rw [List.length_replicate]; rfl
theorem okay_zero : Okay 100 zeroD [] := ⟨by decide, by decide, zeroD_len, by decide, fun y hy => by cases hy⟩
theorem log_zero : logN zeroD [] = List.replicate 8192 0 := by
  unfold logN
  rw [logK_is (fun _ => List.replicate 128 0) (fun i hi => zero_sec (by omega)), flat_zero]
theorem num_zero (n k : Nat) : numAt (List.replicate n 0) k = 0 := by
  have h : ∀ j, (List.replicate n 0).getD j 0 = 0 := fun j => by
    simp only [List.getD, List.getElem?_replicate]
    split <;> rfl
  unfold numAt
  rw [h, h, h, h]
  rfl
theorem epoch_zero (n : Nat) : epochN (List.replicate n 0) = 0 := by
  have h : ∀ j, (List.replicate n 0).getD j 0 = 0 := fun j => by
    simp only [List.getD, List.getElem?_replicate]
    split <;> rfl
  unfold epochN
  simp only [h]
  split <;> rfl
theorem mostE_zero (n k : Nat) : mostE (List.replicate n 0) k = 0 := by
  induction k with
  | zero => exact epoch_zero n
  | succ k ih => show max _ _ = 0; rw [ih, num_zero]; rfl
theorem mostS_zero {e : Nat} (n k : Nat) : mostS e (List.replicate n 0) k = 0 := by
  induction k with
  | zero => rfl
  | succ k ih => show (if _ then max _ (max _ _) else _) = 0; rw [ih, num_zero, num_zero, num_zero]; split <;> rfl
theorem do_first : doAny 100 zeroD [] (clearActs 1) = .ok (firstD, []) := by
  rw [doAny_ok _ okay_zero]
  simp [clearActs, doN, stepA, headL_len, firstD]
theorem okay_first : Okay 100 firstD [] := doAny_okay do_first
theorem first_sec {n : Nat} (h : n < 100) : nowN firstD [] (n : Int) = if (16 : Int) = n then headL 1 else List.replicate 128 0 := by
  have ok : Okay 100 zeroD [(16, headL 1)] := ⟨by decide, by decide, zeroD_len, by decide, fun y hy => by rw [List.mem_singleton.1 hy]; exact ⟨by decide, by decide, headL_len 1⟩⟩
  have e1 := now_settled ok (n := n) (by omega)
  rw [show firstD = settleN zeroD [(16, headL 1)] from rfl, e1]
  have e2 := now_written (data := zeroD) (ws := []) (y := (16, headL 1)) (n := (n : Int))
  rw [List.nil_append] at e2
  rw [e2, zero_sec h]
theorem log_first : logN firstD [] = headL 1 ++ List.replicate 8064 0 := by
  unfold logN
  rw [logK_is (fun i => if i = 0 then headL 1 else List.replicate 128 0) (fun i hi => by
    rw [first_sec (by omega)]
    by_cases h : i = 0
    · rw [if_pos (by omega), if_pos h]
    · rw [if_neg (by omega), if_neg h]), range_shift]
  simp only [if_true, Nat.add_eq_zero_iff, Nat.one_ne_zero, and_false, if_false]
  rw [flat_zero]
theorem epoch_head (xs : List Nat) : epochN (headL 1 ++ xs) = 1 := by
  have h1 : (headL 1 ++ xs).take 128 = headL 1 := List.take_left' (headL_len 1)
  have h2 : (headL 1).drop 8 = List.replicate 120 0 := rfl
  unfold epochN
  rw [h1, h2]
  have h3 : headL 1 ++ xs = 1 :: 0 :: 0 :: 0 :: 0 :: 0 :: 0 :: 0 :: (List.replicate 120 0 ++ xs) := rfl
  rw [h3]
  have h4 : ∀ c ∈ List.replicate 120 0, c = 0 := fun c hc => (List.mem_replicate.1 hc).2
  simp only [List.getD_cons_zero, List.getD_cons_succ]
  rw [if_pos ⟨by decide, h4⟩]
  rfl
theorem recs_zero {e p : Nat} (n : Nat) (he : e < 4294967296) (hp : p < 4294967296) : Recs e p (List.replicate n 0) [] 0 p (List.replicate n 0) := .stop (no_head he hp (.inl (num_zero _ _)))
theorem abc_len : abcF.length = 128 := by unfold abcF; rw [frameN_len]; rfl
theorem do_abc : doAny 100 firstD [] [(false, 17, abcF)] = .ok (firstD, [(17, abcF)]) := by
  rw [doAny_ok _ okay_first]
  simp [doN, stepA, abc_len]
theorem okay_abc : Okay 100 firstD [(17, abcF)] := doAny_okay do_abc
theorem log_abc : logN firstD [(17, abcF)] = headL 1 ++ (abcF ++ List.replicate 7936 0) := by
  unfold logN
  rw [logK_is (fun i => if i = 0 then headL 1 else if i = 1 then abcF else List.replicate 128 0) (fun i hi => by
    have e2 := now_written (data := firstD) (ws := []) (y := (17, abcF)) (n := ((16 + i : Nat) : Int))
    rw [List.nil_append] at e2
    rw [e2, first_sec (by omega)]
    by_cases h : i = 0
    · subst h; rfl
    · by_cases h' : i = 1
      · subst h'; rfl
      · rw [if_neg (by simp only; omega), if_neg (by omega), if_neg h, if_neg h']), range_shift, range_shift]
  simp only [if_true, Nat.add_eq_zero_iff, Nat.one_ne_zero, and_false, if_false, Nat.zero_add]
  have e : (fun i : Nat => if i + 1 + 1 = 1 then abcF else List.replicate 128 0) = fun _ => List.replicate 128 0 := by funext i; rw [if_neg (by omega)]
  rw [e, flat_zero]
theorem recs_abc : Recs 1 0 (abcF ++ List.replicate 7936 0) [abcL] 1 1 (List.replicate 7936 0) := by
  have h : IsRec 1 0 (abcF ++ List.replicate 7936 0) 1 abcL := by
    refine ⟨by decide, by decide, by decide, by decide, ?_⟩
    rw [show needsN abcL.length * 128 = 128 from rfl]
    exact List.take_left' abc_len
  have h2 := Recs.next h (l := []) (a := 0) (la := 1) (t := List.replicate 7936 0) (by
    rw [show needsN abcL.length * 128 = 128 from rfl, List.drop_left' abc_len]
    exact recs_zero _ (by decide) (by decide))
  exact h2
end Go.Proofs.Ytnajjfdbmdjcbaa
namespace Go.Proofs.Ytnajjfdbmdjcbaa

theorem mostE_head (xs : List Nat) : ∀ k, epochN xs ≤ mostE xs k
  | 0 => Nat.le_refl _
  | k + 1 => Nat.le_trans (mostE_head xs k) (Nat.le_max_left _ _)
theorem mostE_ge {xs : List Nat} : ∀ {k i : Nat}, i < k → numAt xs ((i + 1) * 128) ≤ mostE xs k
  | k + 1, i, hi => by
    rcases Nat.lt_or_ge i k with h | h
    · exact Nat.le_trans (mostE_ge h) (Nat.le_max_left _ _)
    · obtain rfl : i = k := by omega
      exact Nat.le_max_right _ _
  | 0, _, h => absurd h (by omega)
theorem numAt_sec {xs : List Nat} {i j : Nat} (hj : j + 4 ≤ 128) : numAt (secAt xs i) j = numAt xs (i * 128 + j) := by
  unfold numAt
  rw [sec_getD _ _ _ (by omega), sec_getD _ _ _ (by omega), sec_getD _ _ _ (by omega), sec_getD _ _ _ (by omega)]
  rfl
/-- At a new epoch no sector of the log is a record's. -/
theorem no_epoch {xs : List Nat} {M : Nat} (hm : mostE xs 63 + 1 = M) (hM : M < 4294967296) : ∀ s r, ¬ IsRec M 0 (xs.drop 128) s r := fun s r h => by
  obtain ⟨_, _, _, h4⟩ := rec_dec hM (by omega) h
  have a := (h4 0 (needsN_pos _)).he
  rw [numAt_sec (by omega), numAt_drop2] at a
  have b := mostE_ge (xs := xs) (k := 63) (i := 0) (by omega)
  have e : numAt xs ((0 + 1) * 128) = numAt xs (128 + (0 * 128 + 0)) := rfl
  omega
theorem do_clear {count : Int} {data : List Nat} {ws : Puts} {M : Nat} (h : HasLog count data ws) (hw : ws.length < 4096) : doAny count data ws (clearActs M) = .ok (settleN data (ws ++ [(16, headL M)]), []) := by
  have hb := h.big
  rw [doAny_ok _ h.ok]
  have e1 : stepA count (data, ws) (false, 16, headL M) = .ok (data, ws ++ [(16, headL M)]) := by
    unfold stepA
    rw [if_neg (by simp), if_neg (fun hh => hh ⟨by show (0 : Int) ≤ 16; omega, by show (16 : Int) < count; omega⟩), if_neg (by simp [headL_len]), if_neg (by show ¬ 4096 ≤ ws.length; omega)]
  have e2 : stepA count (data, ws ++ [(16, headL M)]) (true, 0, []) = .ok (settleN data (ws ++ [(16, headL M)]), []) := by
    unfold stepA
    rw [if_pos rfl]
  show doN count (data, ws) [(false, 16, headL M), (true, 0, [])] = _
  simp only [doN, e1, e2]
theorem has_clear {count : Int} {data : List Nat} {ws : Puts} {M : Nat} (h : HasLog count data ws) (hw : ws.length < 4096) : HasLog count (settleN data (ws ++ [(16, headL M)])) [] := ⟨doAny_okay (do_clear h hw), h.big⟩
theorem log_cleared {count : Int} {data : List Nat} {ws : Puts} {M : Nat} (h : HasLog count data ws) (hw : ws.length < 4096) : logN (settleN data (ws ++ [(16, headL M)])) [] = headL M ++ (logN data ws).drop 128 := by
  have hb := h.big
  have hk : Okay count data (ws ++ [(16, headL M)]) := by
    refine ⟨h.ok.lo, h.ok.hi, h.ok.len, by rw [List.length_append]; simp; omega, fun y hy => ?_⟩
    rcases List.mem_append.1 hy with hy | hy
    · exact h.ok.each y hy
    · rw [List.mem_singleton.1 hy]
      exact ⟨by show (0 : Int) ≤ 16; omega, by show (16 : Int) < count; omega, headL_len M⟩
  have l1 := log_len h
  have l2 := log_len (has_clear (M := M) h hw)
  have s1 : ∀ i, i < 64 → secAt (logN data ws) i = nowN data ws ((16 + i : Nat) : Int) := fun i hi => sec_logK (now_len h) hi
  have s2 : ∀ i, i < 64 → secAt (logN (settleN data (ws ++ [(16, headL M)])) []) i = if (16 : Int) = ((16 + i : Nat) : Int) then headL M else nowN data ws ((16 + i : Nat) : Int) := fun i hi => by
    have e1 : secAt (logN (settleN data (ws ++ [(16, headL M)])) []) i = nowN (settleN data (ws ++ [(16, headL M)])) [] ((16 + i : Nat) : Int) := sec_logK (now_len (has_clear h hw)) hi
    rw [e1, now_settled hk (n := 16 + i) (by omega), now_written]
  refine secs_ext (n := 64) l2 (by rw [List.length_append, headL_len, List.length_drop, l1]) (fun i hi => ?_)
  rw [s2 i hi]
  by_cases h0 : i = 0
  · subst h0
    rw [if_pos (show (16 : Int) = ((16 + 0 : Nat) : Int) from rfl)]
    unfold secAt
    rw [Nat.zero_mul, List.drop_zero, List.take_left' (headL_len M)]
  · rw [if_neg (by omega)]
    obtain ⟨j, rfl⟩ : ∃ j, i = j + 1 := ⟨i - 1, by omega⟩
    rw [← s1 _ hi]
    unfold secAt
    rw [show (j + 1) * 128 = 128 + j * 128 from by omega, ← List.drop_drop, ← List.drop_drop, List.drop_left' (headL_len M)]
theorem epoch_headM {M : Nat} (hM : M < 4294967296) (xs : List Nat) : epochN (headL M ++ xs) = M := by
  have h1 : (headL M ++ xs).take 128 = headL M := List.take_left' (headL_len M)
  have h2 : (headL M).drop 8 = List.replicate 120 0 := rfl
  have h4 : ∀ c ∈ List.replicate 120 0, c = 0 := fun c hc => (List.mem_replicate.1 hc).2
  have hj : joinN (M % 256) (M / 256 % 256) (M / 65536 % 256) (M / 16777216 % 256) (M / 4294967296 % 256) (M / 1099511627776 % 256) (M / 281474976710656 % 256) (M / 72057594037927936) = M := by unfold joinN; omega
  unfold epochN
  rw [h1, h2]
  have h3 : headL M ++ xs = M % 256 :: M / 256 % 256 :: M / 65536 % 256 :: M / 16777216 % 256 :: M / 4294967296 % 256 :: M / 1099511627776 % 256 :: M / 281474976710656 % 256 :: M / 72057594037927936 :: (List.replicate 120 0 ++ xs) := rfl
  rw [h3]
  simp only [List.getD_cons_zero, List.getD_cons_succ]
  rw [hj, if_pos ⟨hM, h4⟩]
end Go.Proofs.Ytnajjfdbmdjcbaa
namespace Go.Proofs.Ytnajjfdbmdjcbaa
open Go.RowKit Go.WideShapes

theorem Recs.count {E p : Nat} {ys : List Nat} {l : List (List Nat)} {a la : Nat} {t : List Nat} (h : Recs E p ys l a la t) : l.length ≤ a := by
  induction h with
  | stop _ => exact Nat.le_refl _
  | @next p s ys r l a la t _ _ ih =>
    have := needsN_pos r.length
    rw [List.length_cons]
    omega
theorem Recs.byte {E p : Nat} {ys : List Nat} {l : List (List Nat)} {a la : Nat} {t : List Nat} (h : Recs E p ys l a la t) : ∀ r ∈ l, ∀ c ∈ r, c < 256 := by
  induction h with
  | stop _ => intro r hr; cases hr
  | next h1 _ ih =>
    intro r hr
    rcases List.mem_cons.1 hr with rfl | hr
    · exact h1.byte
    · exact ih r hr
/-- The disk behind the acts of Add. -/
theorem do_added {count : Int} {data : List Nat} {ws : Puts} {a k : Nat} {F : List Nat} (h : HasLog count data ws) (hw : ws.length ≤ 300) (hak : a + k ≤ 63) (hF : F.length = k * 128) : doAny count data ws (actsK ((17 + a : Nat) : Int) F k) = .ok (data, ws ++ putsK ((17 + a : Nat) : Int) F k) := by
  have hb := h.big
  rw [doAny_ok _ h.ok]
  exact do_puts (by omega) k (fun i hi => secAt_len (by omega)) (by omega) (by omega)
theorem has_added {count : Int} {data : List Nat} {ws : Puts} {a k : Nat} {F : List Nat} (h : HasLog count data ws) (hw : ws.length ≤ 300) (hak : a + k ≤ 63) (hF : F.length = k * 128) : HasLog count data (ws ++ putsK ((17 + a : Nat) : Int) F k) := ⟨doAny_okay (do_added h hw hak hF), h.big⟩
theorem do_added_any (v : Value) (count : Int) (data : List Nat) (ws : Puts) (w : World) (q : Option Addr) (n m a k : Nat) (F : List Nat) (l : List ActC) (hd : DiskIn w v count data ws) (ha : AOwn w 0 (.slice q n m) l) (hl : l.map Prod.fst = actsK ((17 + a : Nat) : Int) F k) (h : HasLog count data ws) (hw : ws.length ≤ 300) (hak : a + k ≤ 63) (hF : F.length = k * 128) :
    Calls Try.prog 15 #[v, .slice q n m] w fun e w' => ∃ v', e = .returned (.tuple #[v', .int .i64 0]) ∧ DiskF w.heap.size w' v' count data (ws ++ putsK ((17 + a : Nat) : Int) F k) ∧ Below w.heap.size w w' := by
  obtain ⟨hn, hi, _, _⟩ := ha.lies
  rw [hl] at hi
  have hln : n = (actsK ((17 + a : Nat) : Int) F k).length := by rw [hn, ← hl, List.length_map]
  have hk : (actsK ((17 + a : Nat) : Int) F k).length = k := by simp [actsK]
  refine (do_all v count data ws w hd q n m _ hln hi (by omega) _ (do_added h hw hak hF)).mono ?_
  rintro e w' ⟨⟨v', he, hf⟩, hb⟩
  exact ⟨v', he, hf, hb⟩
/-- The records behind the acts of Add: one more. -/
theorem recs_added {count : Int} {data : List Nat} {ws : Puts} {E a la S : Nat} {l : List (List Nat)} {t r : List Nat} (h : HasLog count data ws) (hw : ws.length ≤ 300) (hE : epochN (logN data ws) = E) (hrec : Recs E 0 ((logN data ws).drop 128) l a la t) (hS : mostS E t (63 - a) + 1 = S) (hS2 : S < 4294967296) (hr : r.length ≤ 4096) (hrb : ∀ c ∈ r, c < 256) (hfit : a + needsN r.length ≤ 63) :
    epochN (logN data (ws ++ putsK ((17 + a : Nat) : Int) (frameN E S la r) (needsN r.length))) = E ∧ Recs E 0 ((logN data (ws ++ putsK ((17 + a : Nat) : Int) (frameN E S la r) (needsN r.length))).drop 128) (l ++ [r]) (a + needsN r.length) S (t.drop (needsN r.length * 128)) := by
  have hF := frameN_len E S la r
  have hE32 : E < 4294967296 := hE ▸ epochN_lt _
  obtain ⟨h0, h1, h2, h3⟩ := log_added h (has_added h hw hfit hF) hfit hF
  obtain ⟨_, ht, _⟩ := hrec.facts (n := 63) (by rw [List.length_drop, log_len h]) (by omega)
  have e1 : ∀ {xs ys : List Nat}, xs.take 128 = ys.take 128 → epochN xs = epochN ys := fun {xs ys} h => by
    have g : ∀ j, j < 128 → xs.getD j 0 = ys.getD j 0 := fun j hj => by
      have := congrArg (fun l => l.getD j 0) h
      simpa [List.getD, List.getElem?_take, hj] using this
    unfold epochN
    rw [g 0 (by omega), g 1 (by omega), g 2 (by omega), g 3 (by omega), g 4 (by omega), g 5 (by omega), g 6 (by omega), g 7 (by omega), h]
  refine ⟨(e1 h0).trans hE, ?_⟩
  rw [← ht] at h3
  exact hrec.more hE32 (by rw [List.length_drop, log_len h]) hS hS2 hr hrb h1 h2 h3
theorem records_added (v : Value) (count : Int) (data : List Nat) (ws : Puts) (w : World) (E a la S k : Nat) (l : List (List Nat)) (t : List Nat) (r : ByteArray) (h : HasLog count data ws) (hw : ws.length ≤ 300) (hE : epochN (logN data ws) = E) (hE0 : E ≠ 0) (hrec : Recs E 0 ((logN data ws).drop 128) l a la t) (hS : mostS E t (63 - a) + 1 = S) (hS2 : S < 4294967296) (hr : r.size ≤ 4096) (hk : needsN r.size = k) (hak : a + k ≤ 63) (hd : DiskIn w v count data (ws ++ putsK ((17 + a : Nat) : Int) (frameN E S la (numsOf r)) k)) :
    Calls Try.prog 10 #[v] w fun e w' => ∃ nb no nc, e = .returned (.tuple #[.slice (some ⟨nb, no, none⟩) (l.length + 1) nc, .int .i64 0]) ∧ StrsIn w' (some ⟨nb, no, none⟩) (l.map strOf ++ [r]) ∧ l.length + 1 ≤ nc ∧ nc ≤ maxLen ∧ Below w.heap.size w w' := by
  have hrl : (numsOf r).length = r.size := numsOf_len r
  have hb : ∀ c ∈ numsOf r, c < 256 := numsOf_lt r
  subst hk
  rw [← hrl] at hak hd hr
  have hF := frameN_len E S la (numsOf r)
  obtain ⟨h1, h2⟩ := recs_added (r := numsOf r) h hw hE hrec hS hS2 hr hb hak
  refine (Records_ok v count data _ w hd (has_added h hw hak hF) E h1 hE0).mono ?_
  rintro e w' ⟨rv, l', a', la', t', rfl, hrec', hown, hbl⟩
  obtain ⟨rfl, _, _, _⟩ := h2.only (hE ▸ epochN_lt _) (by omega) hrec'
  obtain ⟨nq, nc, rfl, _⟩ := own_form hown
  obtain ⟨_, hst, h3, h4⟩ := own_strs hown
  rw [List.length_append, List.length_singleton] at h3
  rw [List.map_append, List.map_singleton, strOf_nums] at hst
  obtain ⟨nb, no, rfl, _⟩ := hst (by simp)
  refine ⟨nb, no, nc, ?_, hst, h3, h4, hbl⟩
  rw [List.length_append, List.length_singleton]
theorem do_clear_any (v : Value) (count : Int) (data : List Nat) (ws : Puts) (w : World) (q : Option Addr) (n m M : Nat) (l : List ActC) (hd : DiskIn w v count data ws) (ha : AOwn w 0 (.slice q n m) l) (hl : l.map Prod.fst = clearActs M) (h : HasLog count data ws) (hw : ws.length ≤ 300) :
    Calls Try.prog 15 #[v, .slice q n m] w fun e w' => ∃ v', e = .returned (.tuple #[v', .int .i64 0]) ∧ DiskF w.heap.size w' v' count (settleN data (ws ++ [(16, headL M)])) [] ∧ Below w.heap.size w w' := by
  obtain ⟨hn, hi, _, _⟩ := ha.lies
  rw [hl] at hi
  have hln : n = (clearActs M).length := by rw [hn, ← hl, List.length_map]
  refine (do_all v count data ws w hd q n m (clearActs M) hln hi (by show 2 ≤ _; decide) _ (do_clear h (by omega))).mono ?_
  rintro e w' ⟨⟨v', he, hf⟩, hb⟩
  exact ⟨v', he, hf, hb⟩
/-- The log behind the acts of Clear: empty, at the new epoch. -/
theorem recs_cleared {count : Int} {data : List Nat} {ws : Puts} {M : Nat} (h : HasLog count data ws) (hw : ws.length ≤ 300) (hm : mostE (logN data ws) 63 + 1 = M) (hM : M < 4294967296) :
    epochN (logN (settleN data (ws ++ [(16, headL M)])) []) = M ∧ Recs M 0 ((logN (settleN data (ws ++ [(16, headL M)])) []).drop 128) [] 0 0 ((logN data ws).drop 128) ∧ epochN (logN data ws) < M ∧ M ≠ 0 := by
  have e := log_cleared (M := M) h (by omega)
  rw [e]
  refine ⟨epoch_headM hM _, ?_, ?_, by omega⟩
  · rw [List.drop_left' (headL_len M)]
    exact .stop (no_epoch hm hM)
  · have := mostE_head (logN data ws) 63
    omega
theorem records_cleared (v : Value) (count : Int) (data : List Nat) (ws : Puts) (w : World) (M : Nat) (h : HasLog count data ws) (hw : ws.length ≤ 300) (hm : mostE (logN data ws) 63 + 1 = M) (hM : M < 4294967296) (hd : DiskIn w v count (settleN data (ws ++ [(16, headL M)])) []) :
    Calls Try.prog 10 #[v] w fun e w' => ∃ q c, e = .returned (.tuple #[.slice q 0 c, .int .i64 0]) ∧ Below w.heap.size w w' := by
  obtain ⟨h1, h2, _, h4⟩ := recs_cleared h hw hm hM
  refine (Records_ok v count _ [] w hd (has_clear h (by omega)) M h1 h4).mono ?_
  rintro e w' ⟨rv, l, a, la, t, rfl, hrec, hown, hb⟩
  obtain ⟨rfl, rfl, rfl, rfl⟩ := h2.only hM (by omega) hrec
  obtain ⟨q, c, rfl, _⟩ := own_form hown
  exact ⟨q, c, rfl, hb⟩
theorem epoch_cleared (v : Value) (count : Int) (data : List Nat) (ws : Puts) (w : World) (M : Nat) (h : HasLog count data ws) (hw : ws.length ≤ 300) (hm : mostE (logN data ws) 63 + 1 = M) (hM : M < 4294967296) (hd : DiskIn w v count (settleN data (ws ++ [(16, headL M)])) []) :
    Calls Try.prog 13 #[v] w fun e w' => e = .returned (.tuple #[.int .u32 M, .int .i64 0]) ∧ Below w.heap.size w w' := by
  obtain ⟨h1, _, _, h4⟩ := recs_cleared h hw hm hM
  refine (Epoch_ok v count _ [] w hd (has_clear h (by omega)) M h1 h4).mono ?_
  rintro e w' ⟨rv, l, a, la, t, rfl, _, _, hb⟩
  exact ⟨rfl, hb⟩
end Go.Proofs.Ytnajjfdbmdjcbaa
namespace Go.Proofs.Ytnajjfdbmdjcbaa
open Go.RowKit Go.WideShapes

theorem clear_now (v : Value) (count : Int) (data : List Nat) (ws : Puts) (w : World) (hd : DiskIn w v count data ws) (er : Int) (hne : er ≠ 0)
    (HN : ∀ u w', DiskIn w' u count data ws → Calls Try.prog 37 #[u] w' fun e w2 => e = .returned (.tuple #[.slice none 0 0, .int .i64 er]) ∧ Below w'.heap.size w' w2) :
    Calls Try.prog 11 #[v] w fun e w' => e = .returned (.tuple #[.slice none 0 0, .int .i64 er]) ∧ Below w.heap.size w w' := by
  obtain ⟨p, c, q, m, rfl, _⟩ := hd.parts
  have HD : Hid _ := hd
  have HN' : Hid (∀ u w', DiskIn w' u count data ws → Calls Try.prog 37 #[u] w' fun e w2 => e = .returned (.tuple #[.slice none 0 0, .int .i64 er]) ∧ Below w'.heap.size w' w2) := HN
  have g1 : (er != 0) = true := by simpa using hne
  clear hd HN hne
  go_enter Try.func11, Try.ntmps11
  go_wp2_with fail
  refine (HN'.out _ _ (HD.out.below (below_alloc w _))).mono ?_
  rintro e w1 ⟨rfl, hb1⟩
  have HB1 : Hid (Below w.heap.size w w1) := below_bt (below_alloc w _) hb1
  clear hb1
  go_wp2
  go_ret2
  exact ⟨rfl, HB1.out⟩
/-- The error of Clear. -/
noncomputable def errC5 (count : Int) (data : List Nat) (ws : Puts) : Int := by
  classical
  exact if Okay count data ws then (if count < 80 then 50 else if mostE (logN data ws) 63 + 1 < 4294967296 then 0 else 30) else 20
theorem errC5_ok {count : Int} {data : List Nat} {ws : Puts} (h : errC5 count data ws = 0) : HasLog count data ws ∧ mostE (logN data ws) 63 + 1 < 4294967296 := by
  unfold errC5 at h
  by_cases h1 : Okay count data ws
  · by_cases h2 : count < 80
    · simp [h1, h2] at h
    · by_cases h3 : mostE (logN data ws) 63 + 1 < 4294967296
      · exact ⟨⟨h1, by omega⟩, h3⟩
      · simp [h1, h2, h3] at h
  · simp [h1] at h
theorem Clear_bad (v : Value) (count : Int) (data : List Nat) (ws : Puts) (w : World) (hd : DiskIn w v count data ws) (er : Int) (he : errC5 count data ws = er) (hne : er ≠ 0) :
    Calls Try.prog 11 #[v] w fun e w' => e = .returned (.tuple #[.slice none 0 0, .int .i64 er]) ∧ Below w.heap.size w w' := by
  unfold errC5 at he
  by_cases h1 : Okay count data ws
  · by_cases h2 : count < 80
    · obtain rfl : (50 : Int) = er := by simpa [h1, h2] using he
      exact clear_now v count data ws w hd 50 (by decide) (fun u w' hu => now_few u count data ws w' hu h1 h2)
    · by_cases h3 : mostE (logN data ws) 63 + 1 < 4294967296
      · exfalso; apply hne; simpa [h1, h2, h3] using he.symm
      · obtain rfl : (30 : Int) = er := by simpa [h1, h2, h3] using he
        exact Clear_full v count data ws w hd ⟨h1, by omega⟩ h3
  · obtain rfl : (20 : Int) = er := by simpa [h1] using he
    exact clear_now v count data ws w hd 20 (by decide) (fun u w' hu => now_bad u count data ws w' hu h1)
theorem step_head {count : Int} {data : List Nat} {ws : Puts} {M : Nat} (h : HasLog count data ws) (hw : ws.length < 4096) : stepA count (data, ws) (false, 16, headL M) = .ok (data, ws ++ [(16, headL M)]) := by
  have hb := h.big
  unfold stepA
  rw [if_neg (by simp), if_neg (fun hh => hh ⟨by show (0 : Int) ≤ 16; omega, by show (16 : Int) < count; omega⟩), if_neg (by simp [headL_len]), if_neg (by show ¬ 4096 ≤ ws.length; omega)]
/-- What is on the disk when the power is lost behind n of Clear's acts. -/
theorem empt_case {count : Int} {data : List Nat} {M : Nat} (h : HasLog count data []) (n : Nat) (hn : n ≤ 2) (keep : List Bool) :
    ∃ D W, doAny count data [] ((clearActs M).take n) = .ok (D, W) ∧ Okay count D W ∧ ((n < 2 ∧ crashN D W keep = data) ∨ crashN D W keep = settleN data [(16, headL M)]) := by
  have hs := step_head (M := M) h (by decide)
  match n, hn with
  | 0, _ =>
    have e : doAny count data [] ((clearActs M).take 0) = .ok (data, []) := by rw [doAny_ok _ h.ok]; rfl
    exact ⟨data, [], e, h.ok, .inl ⟨by decide, rfl⟩⟩
  | 1, _ =>
    have e : doAny count data [] ((clearActs M).take 1) = .ok (data, [(16, headL M)]) := by
      rw [doAny_ok _ h.ok]
      have := doN_step (count := count) (s := (data, [])) (s' := (data, [])) (l := clearActs M) (k := 0) (by show 0 < 2; decide) rfl
      rw [this]
      exact hs
    refine ⟨data, [(16, headL M)], e, doAny_okay e, ?_⟩
    by_cases hk : keep.getD 0 false = true
    · right
      show crashK data [(16, headL M)] keep 1 = settleK data [(16, headL M)] 1
      unfold crashK settleK
      rw [if_pos hk]
      rfl
    · left
      refine ⟨by decide, ?_⟩
      show crashK data [(16, headL M)] keep 1 = data
      unfold crashK
      rw [if_neg hk]
      rfl
  | 2, _ =>
    have e : doAny count data [] ((clearActs M).take 2) = .ok (settleN data [(16, headL M)], []) := do_clear (M := M) h (by decide)
    exact ⟨_, [], e, doAny_okay e, .inr rfl⟩
end Go.Proofs.Ytnajjfdbmdjcbaa
namespace Go.Proofs.Ytnajjfdbmdjcbaa

/-- New records over the torn end t, behind the salt p: F are their sectors, one behind the other. -/
inductive News (E : Nat) : Nat → List Nat → List (List Nat) → List Nat → Prop
  | nil {p : Nat} {t : List Nat} : News E p t [] []
  | cons {p S n : Nat} {t r F : List Nat} {rs : List (List Nat)} : t.length = n * 128 → mostS E t n + 1 = S → S < 4294967296 → r.length ≤ 4096 → (∀ c ∈ r, c < 256) → needsN r.length ≤ n → News E S (t.drop (needsN r.length * 128)) rs F → News E p t (r :: rs) (frameN E S p r ++ F)
/-- y has at each place the sector of t, or that of F. -/
structure Mix (t F y : List Nat) : Prop where
  len : y.length = t.length
  each : ∀ i, (i + 1) * 128 ≤ t.length → secAt y i = secAt t i ∨ ((i + 1) * 128 ≤ F.length ∧ secAt y i = secAt F i)
theorem secAt_left {A B : List Nat} {k i : Nat} (hA : A.length = k * 128) (hi : i < k) : secAt (A ++ B) i = secAt A i := by
  unfold secAt
  rw [List.drop_append_of_le_length (by omega), List.take_append_of_le_length (by rw [List.length_drop]; omega)]
theorem secAt_right {A B : List Nat} {k i : Nat} (hA : A.length = k * 128) (hi : k ≤ i) : secAt (A ++ B) i = secAt B (i - k) := by
  unfold secAt
  rw [List.drop_append, List.drop_eq_nil_of_le (by omega), List.nil_append, hA, show i * 128 - k * 128 = (i - k) * 128 from by omega]
theorem ar0 {K X L : Nat} (h : X ≤ L - K) (h0 : 0 < X) : K + X ≤ L := by omega
theorem ar1 {k i L : Nat} (h : (i + 1) * 128 ≤ L - k * 128) : (k + i + 1) * 128 ≤ L := by
  rw [Nat.add_assoc, Nat.add_mul]
  exact ar0 h (Nat.mul_pos (Nat.succ_pos i) (by decide))
theorem ar2 {k i L : Nat} (h : (k + i + 1) * 128 ≤ k * 128 + L) : (i + 1) * 128 ≤ L := by
  rw [Nat.add_assoc, Nat.add_mul] at h
  exact Nat.le_of_add_le_add_left h
theorem Mix.drop {t F A y : List Nat} {k : Nat} (h : Mix t (A ++ F) y) (hA : A.length = k * 128) : Mix (t.drop (k * 128)) F (y.drop (k * 128)) := by
  refine ⟨by rw [List.length_drop, List.length_drop, h.len], fun i hi => ?_⟩
  rw [List.length_drop] at hi
  rw [sec_drop, sec_drop]
  have hb : (k + i + 1) * 128 ≤ t.length := ar1 hi
  have e := h.each (k + i) hb
  rw [secAt_right hA (Nat.le_add_right k i), Nat.add_sub_cancel_left, List.length_append, hA] at e
  rcases e with h1 | ⟨h1, h2⟩
  · exact .inl h1
  · exact .inr ⟨ar2 h1, h2⟩
def secsOf (rs : List (List Nat)) : Nat := (rs.map fun r => needsN r.length).sum
theorem secsOf_cons (r : List Nat) (rs : List (List Nat)) : secsOf (r :: rs) = needsN r.length + secsOf rs := by simp [secsOf]
theorem take_of_secs {y z : List Nat} {n : Nat} (hy : n * 128 ≤ y.length) (hz : n * 128 ≤ z.length) (h : ∀ i, i < n → secAt y i = secAt z i) : y.take (n * 128) = z.take (n * 128) := by
  rw [take_secs n hy, take_secs n hz, List.flatMap_def, List.flatMap_def]
  congr 1
  apply List.map_congr_left
  intro i hi
  exact h i (List.mem_range.1 hi)
theorem News.len {E p : Nat} {t F : List Nat} {rs : List (List Nat)} (h : News E p t rs F) : F.length = secsOf rs * 128 ∧ F.length ≤ t.length := by
  induction h with
  | nil => exact ⟨rfl, Nat.zero_le _⟩
  | @cons p S n t r F rs ht _ _ _ _ hn _ ih =>
    rw [List.length_drop] at ih
    rw [List.length_append, frameN_len, secsOf_cons]
    omega
theorem News.index {E p : Nat} {t F : List Nat} {rs : List (List Nat)} (h : News E p t rs F) (hE : E < 4294967296) : p < 4294967296 → ∀ i, (i + 1) * 128 ≤ F.length → (secAt F i).getD 12 0 ≤ i := by
  induction h with
  | nil => intro _ i hi; simp at hi
  | @cons p S n t r F rs ht hS hS2 hr _ hn hN ih =>
    intro hp i hi
    have hF := frameN_len E S p r
    have h37 := needsN_le hr
    rcases Nat.lt_or_ge i (needsN r.length) with h1 | h1
    · rw [secAt_left hF h1, frameN, secAt_frames _ _ h1]
      obtain ⟨_, _, _, h4, _⟩ := sec_at (x := pieceL r i) hE hS2 hp (show i < 256 by omega) (show needsN r.length < 256 by omega) (pieceL_le r i)
      rw [h4]
      omega
    · rw [secAt_right hF h1]
      rw [List.length_append, hF] at hi
      have := ih hS2 (i - needsN r.length) (by omega)
      omega
theorem num_of_sec {xs x : List Nat} {i : Nat} (h : secAt xs i = x) : numAt xs (i * 128) = numAt x 0 ∧ numAt xs (i * 128 + 4) = numAt x 4 ∧ numAt xs (i * 128 + 8) = numAt x 8 := by
  subst h
  have e0 := numAt_sec (xs := xs) (i := i) (j := 0) (by omega)
  have e4 := numAt_sec (xs := xs) (i := i) (j := 4) (by omega)
  have e8 := numAt_sec (xs := xs) (i := i) (j := 8) (by omega)
  rw [Nat.add_zero] at e0
  exact ⟨e0.symm, e4.symm, e8.symm⟩
set_option maxHeartbeats 1000000 in
theorem torn {E p : Nat} {t F : List Nat} {rs : List (List Nat)} (h : News E p t rs F) (hE : E < 4294967296) : p < 4294967296 → (∀ s r, ¬ IsRec E p t s r) → ∀ {N : Nat} {y : List Nat}, t.length = N * 128 → Mix t F y →
    ∃ j a la t2, j ≤ rs.length ∧ Recs E p y (rs.take j) a la t2 ∧ ∀ c, c ≤ rs.length → (∀ i, i < secsOf (rs.take c) → secAt y i = secAt F i) → c ≤ j := by
  induction h with
  | @nil p t =>
    intro hp hA N y ht hm
    have e : y = t := by
      refine secs_ext (n := N) (by rw [hm.len, ht]) ht (fun i hi => ?_)
      rcases hm.each i (by omega) with h1 | ⟨h1, _⟩
      · exact h1
      · simp at h1
    subst e
    exact ⟨0, 0, p, y, Nat.le_refl _, .stop hA, fun c hc _ => hc⟩
  | @cons p S n t r F rs ht hS hS2 hr hrb hn hN ih =>
    intro hp hA N y htN hm
    obtain rfl : N = n := by omega
    have hF := frameN_len E S p r
    have hk0 := needsN_pos r.length
    have h37 := needsN_le hr
    obtain ⟨k, hk⟩ : ∃ k, needsN r.length = k := ⟨_, rfl⟩
    rw [hk] at hF hk0 h37 hn ih hN
    have hFl := hN.len
    have new0 : ∀ i, i < k → secAt (frameN E S p r ++ F) i = secL E S p i k (pieceL r i) := fun i hi => by
      rw [secAt_left hF hi, frameN, hk]; exact secAt_frames _ _ hi
    by_cases hall : ∀ i, i < k → secAt y i = secAt (frameN E S p r ++ F) i
    · -- the first one is whole
      have e1 : y.take (k * 128) = frameN E S p r := by
        rw [take_of_secs (z := frameN E S p r ++ F) (by rw [hm.len]; omega) (by rw [List.length_append]; omega) hall, ← hF, List.take_left]
      have hrec : IsRec E p y S r := ⟨by omega, hS2, hr, hrb, by rw [hk]; exact e1⟩
      have hm' : Mix (t.drop (k * 128)) F (y.drop (k * 128)) := hm.drop hF
      obtain ⟨j, a, la, t2, hj, hrs, hlow⟩ := ih hS2 (no_behind hE hS2 ht (by omega) k) (N := N - k) (by rw [List.length_drop]; omega) hm'
      refine ⟨j + 1, needsN r.length + a, la, t2, by rw [List.length_cons]; omega, ?_, fun c hc hsec => ?_⟩
      · rw [List.take_succ_cons]
        exact .next hrec (by rw [hk]; exact hrs)
      · match c, hc, hsec with
        | 0, _, _ => omega
        | c + 1, hc, hsec =>
          have := hlow c (by rw [List.length_cons] at hc; omega) (fun i hi => by
            rw [sec_drop]
            have := hsec (k + i) (by rw [List.take_succ_cons, secsOf_cons, hk]; omega)
            rw [this, secAt_right hF (by omega), show k + i - k = i from by omega])
          omega
    · -- some sector of the first one is the old one
      obtain ⟨i0, hi0⟩ := Classical.not_forall.1 hall
      obtain ⟨hi0k, hne⟩ := Classical.not_imp.1 hi0
      have hold : secAt y i0 = secAt t i0 := by
        rcases hm.each i0 (by omega) with h1 | ⟨_, h2⟩
        · exact h1
        · exact absurd h2 hne
      have hno : ∀ s r', ¬ IsRec E p y s r' := by
        intro s r' hrec
        have hn37 := needsN_le hrec.len
        have hn0 := needsN_pos r'.length
        have hlen := rec_len hrec
        rw [hm.len] at hlen
        obtain ⟨_, _, _, hok⟩ := rec_dec hE hp hrec
        obtain ⟨k', hk'⟩ : ∃ k', needsN r'.length = k' := ⟨_, rfl⟩
        rw [hk'] at hok hn37 hn0 hlen
        rcases hm.each 0 (by omega) with h0 | ⟨_, h0⟩
        · -- the first sector is old
          have o0 := hok 0 hn0
          obtain ⟨q0, q4, _⟩ := num_of_sec (xs := t) (i := 0) h0.symm
          have hs1 := (mostS_ge (e := E) (ys := t) (n := N) (i := 0) (by omega) (q0.trans o0.he)).1
          have hs2 : s < S := by have := q4.trans o0.hs; omega
          have hallold : ∀ i, i < k' → secAt y i = secAt t i := by
            intro i hi
            rcases hm.each i (by omega) with h1 | ⟨h1, h2⟩
            · exact h1
            · exfalso
              have oi := hok i hi
              rw [h2] at oi
              rcases Nat.lt_or_ge i k with h3 | h3
              · rw [new0 i h3] at oi
                obtain ⟨_, g2, _⟩ := sec_at (x := pieceL r i) hE hS2 hp (show i < 256 by omega) (show k < 256 by omega) (pieceL_le r i)
                have := g2.symm.trans oi.hs
                omega
              · rw [secAt_right hF h3] at oi
                rw [List.length_append, hF] at h1
                have := hN.index hE hS2 (i - k) (by omega)
                rw [oi.hi] at this
                omega
          refine hA s r' ⟨hrec.salt0, hrec.salt, hrec.len, hrec.byte, ?_⟩
          rw [← hrec.pre, hk']
          exact (take_of_secs (by rw [hm.len]; exact hlen) hlen hallold).symm
        · -- the first sector is new
          have o0 := hok 0 hn0
          rw [h0, new0 0 hk0] at o0
          obtain ⟨_, g2, _, _, g5, _⟩ := sec_at (x := pieceL r 0) hE hS2 hp (show 0 < 256 by omega) (show k < 256 by omega) (pieceL_le r 0)
          have es : s = S := (g2.symm.trans o0.hs).symm
          have ek : k' = k := (g5.symm.trans o0.hn).symm
          subst es ek
          have oi := hok i0 hi0k
          obtain ⟨q0, q4, _⟩ := num_of_sec (xs := t) (i := i0) hold.symm
          have := (mostS_ge (e := E) (ys := t) (n := N) (i := i0) (by omega) (q0.trans oi.he)).1
          have := q4.trans oi.hs
          omega
      refine ⟨0, 0, p, y, Nat.zero_le _, .stop hno, fun c hc hsec => ?_⟩
      match c, hc, hsec with
      | 0, _, _ => exact Nat.le_refl _
      | c + 1, _, hsec =>
        exfalso
        apply hne
        exact hsec i0 (by rw [List.take_succ_cons, secsOf_cons, hk]; omega)
end Go.Proofs.Ytnajjfdbmdjcbaa
namespace Go.Proofs.Ytnajjfdbmdjcbaa

/-- Records that were added one behind the other, from the place a0, the salt p0 and the torn end t0 on: their acts B, their sectors F, the place, salt and torn end behind. -/
inductive Adds (E a0 p0 : Nat) (t0 : List Nat) : List (List Nat) → Acts → List Nat → Nat → Nat → List Nat → Prop
  | nil : Adds E a0 p0 t0 [] [] [] a0 p0 t0
  | snoc {rs : List (List Nat)} {B : Acts} {F : List Nat} {a p : Nat} {t : List Nat} (r : List Nat) (S n : Nat) (f : Bool) : Adds E a0 p0 t0 rs B F a p t → t.length = n * 128 → mostS E t n + 1 = S → S < 4294967296 → r.length ≤ 4096 → (∀ c ∈ r, c < 256) → needsN r.length ≤ n →
      Adds E a0 p0 t0 (rs ++ [r]) (B ++ (actsK ((17 + a : Nat) : Int) (frameN E S p r) (needsN r.length) ++ if f then [(true, 0, [])] else [])) (F ++ frameN E S p r) (a + needsN r.length) S (t.drop (needsN r.length * 128))
/-- News with its end. -/
inductive NewsTo (E : Nat) : Nat → List Nat → List (List Nat) → List Nat → Nat → List Nat → Prop
  | nil {p : Nat} {t : List Nat} : NewsTo E p t [] [] p t
  | cons {p S n p' : Nat} {t t' r F : List Nat} {rs : List (List Nat)} : t.length = n * 128 → mostS E t n + 1 = S → S < 4294967296 → r.length ≤ 4096 → (∀ c ∈ r, c < 256) → needsN r.length ≤ n → NewsTo E S (t.drop (needsN r.length * 128)) rs F p' t' → NewsTo E p t (r :: rs) (frameN E S p r ++ F) p' t'
theorem NewsTo.news {E p p' : Nat} {t t' F : List Nat} {rs : List (List Nat)} (h : NewsTo E p t rs F p' t') : News E p t rs F := by
  induction h with
  | nil => exact .nil
  | cons h1 h2 h3 h4 h5 h6 _ ih => exact .cons h1 h2 h3 h4 h5 h6 ih
theorem NewsTo.snoc {E p p' : Nat} {t t' F : List Nat} {rs : List (List Nat)} (h : NewsTo E p t rs F p' t') {r : List Nat} {S n : Nat} (h1 : t'.length = n * 128) (h2 : mostS E t' n + 1 = S) (h3 : S < 4294967296) (h4 : r.length ≤ 4096) (h5 : ∀ c ∈ r, c < 256) (h6 : needsN r.length ≤ n) :
    NewsTo E p t (rs ++ [r]) (F ++ frameN E S p' r) S (t'.drop (needsN r.length * 128)) := by
  induction h with
  | @nil p t =>
    have := NewsTo.cons (p := p) h1 h2 h3 h4 h5 h6 (NewsTo.nil (E := E))
    simpa using this
  | cons g1 g2 g3 g4 g5 g6 _ ih =>
    have := ih h1 h2
    rw [List.cons_append, List.append_assoc]
    exact .cons g1 g2 g3 g4 g5 g6 this
theorem Adds.to {E a0 p0 a p : Nat} {t0 t F : List Nat} {rs : List (List Nat)} {B : Acts} (h : Adds E a0 p0 t0 rs B F a p t) : NewsTo E p0 t0 rs F p t ∧ F.length = secsOf rs * 128 ∧ a = a0 + secsOf rs := by
  induction h with
  | nil => exact ⟨.nil, rfl, rfl⟩
  | @snoc rs B F a p t r S n f _ h1 h2 h3 h4 h5 h6 ih =>
    obtain ⟨i1, i2, i3⟩ := ih
    have e : secsOf (rs ++ [r]) = secsOf rs + needsN r.length := by simp [secsOf]
    exact ⟨i1.snoc h1 h2 h3 h4 h5 h6, by rw [List.length_append, frameN_len, i2, e, Nat.add_mul], by rw [e, i3, Nat.add_assoc]⟩
theorem actsK_mem {fr : Int} {xs : List Nat} {k : Nat} {y : Bool × Int × List Nat} (h : y ∈ actsK fr xs k) : ∃ i, i < k ∧ y = (false, fr + (i : Int), secAt xs i) := by
  unfold actsK at h
  obtain ⟨i, hi, rfl⟩ := List.mem_map.1 h
  exact ⟨i, List.mem_range.1 hi, rfl⟩
theorem actsK_in {fr : Int} {xs : List Nat} {k i : Nat} (h : i < k) : (false, fr + (i : Int), secAt xs i) ∈ actsK fr xs k := List.mem_map.2 ⟨i, List.mem_range.2 h, rfl⟩
/-- Each write is of its sector. -/
theorem Adds.puts {E a0 p0 a p : Nat} {t0 t F : List Nat} {rs : List (List Nat)} {B : Acts} (h : Adds E a0 p0 t0 rs B F a p t) : ∀ y ∈ B, y.1 = false → ∃ i, i < secsOf rs ∧ y.2.1 = ((17 + a0 + i : Nat) : Int) ∧ y.2.2 = secAt F i := by
  induction h with
  | nil => intro y hy; cases hy
  | @snoc rs B F a p t r S n f hA h1 h2 h3 h4 h5 h6 ih =>
    obtain ⟨_, i2, i3⟩ := hA.to
    have e : secsOf (rs ++ [r]) = secsOf rs + needsN r.length := by simp [secsOf]
    intro y hy hf
    rcases List.mem_append.1 hy with hy | hy
    · obtain ⟨i, j1, j2, j3⟩ := ih y hy hf
      exact ⟨i, by omega, j2, by rw [secAt_left i2 j1]; exact j3⟩
    · rcases List.mem_append.1 hy with hy | hy
      · obtain ⟨i, j1, rfl⟩ := actsK_mem hy
        refine ⟨secsOf rs + i, by omega, ?_, ?_⟩
        · show ((17 + a : Nat) : Int) + (i : Int) = _
          rw [i3]
          omega
        · show secAt (frameN E S p r) i = _
          rw [secAt_right i2 (Nat.le_add_right _ _), Nat.add_sub_cancel_left]
      · cases f with
        | false => cases hy
        | true =>
          rw [List.mem_singleton.1 hy] at hf
          cases hf
/-- Each sector is written. -/
theorem Adds.all {E a0 p0 a p : Nat} {t0 t F : List Nat} {rs : List (List Nat)} {B : Acts} (h : Adds E a0 p0 t0 rs B F a p t) : ∀ i, i < secsOf rs → (false, ((17 + a0 + i : Nat) : Int), secAt F i) ∈ B := by
  induction h with
  | nil => intro i hi; cases hi
  | @snoc rs B F a p t r S n f hA h1 h2 h3 h4 h5 h6 ih =>
    obtain ⟨_, i2, i3⟩ := hA.to
    have e : secsOf (rs ++ [r]) = secsOf rs + needsN r.length := by simp [secsOf]
    intro i hi
    rcases Nat.lt_or_ge i (secsOf rs) with g | g
    · rw [secAt_left i2 g]
      exact List.mem_append.2 (.inl (ih i g))
    · rw [secAt_right i2 g]
      refine List.mem_append.2 (.inr (List.mem_append.2 (.inl ?_)))
      have := actsK_in (fr := ((17 + a : Nat) : Int)) (xs := frameN E S p r) (k := needsN r.length) (i := i - secsOf rs) (by omega)
      have e2 : ((17 + a : Nat) : Int) + ((i - secsOf rs : Nat) : Int) = ((17 + a0 + i : Nat) : Int) := by omega
      rw [e2] at this
      exact this
/-- How many records begin in acts. -/
def begins (B : Acts) : Nat := (B.filter fun y => !y.1 && y.2.2.getD 12 0 == 0).length
theorem begins_app (A B : Acts) : begins (A ++ B) = begins A + begins B := by unfold begins; rw [List.filter_append, List.length_append]
theorem begins_one (s : Int) (x : List Nat) (k : Nat) (h : x.getD 12 0 = k) : begins [(false, s, x)] = if k = 0 then 1 else 0 := by
  subst h
  unfold begins
  by_cases h0 : x.getD 12 0 = 0
  · rw [if_pos h0, List.filter_cons_of_pos (by simp only [Bool.not_false, Bool.true_and]; exact beq_iff_eq.2 h0)]; rfl
  · rw [if_neg h0, List.filter_cons_of_neg (by simp only [Bool.not_false, Bool.true_and]; exact fun hh => h0 (beq_iff_eq.1 hh))]; rfl
theorem begins_frame {E S p : Nat} {r : List Nat} (fr : Int) (hE : E < 4294967296) (hS : S < 4294967296) (hp : p < 4294967296) (hr : r.length ≤ 4096) : ∀ k, k ≤ needsN r.length → begins (actsK fr (frameN E S p r) k) = min k 1
  | 0, _ => rfl
  | k + 1, hk => by
    have ih := begins_frame fr hE hS hp hr k (by omega)
    have h37 := needsN_le hr
    rw [actsK_snoc, begins_app, ih]
    obtain ⟨_, _, _, h4, _⟩ := sec_at (x := pieceL r k) hE hS hp (show k < 256 by omega) (show needsN r.length < 256 by omega) (pieceL_le r k)
    have e : (secAt (frameN E S p r) k).getD 12 0 = k := by rw [frameN, secAt_frames _ _ (by omega)]; exact h4
    rw [begins_one _ _ _ e]
    cases k with
    | zero => rfl
    | succ k => rw [if_neg (by omega)]; omega
theorem Adds.begin {E a0 p0 a p : Nat} {t0 t F : List Nat} {rs : List (List Nat)} {B : Acts} (h : Adds E a0 p0 t0 rs B F a p t) (hE : E < 4294967296) (hp0 : p0 < 4294967296) : begins B = rs.length ∧ p < 4294967296 := by
  induction h with
  | nil => exact ⟨rfl, hp0⟩
  | @snoc rs B F a p t r S n f hA h1 h2 h3 h4 h5 h6 ih =>
    obtain ⟨ih, hp⟩ := ih
    have hk := needsN_pos r.length
    refine ⟨?_, h3⟩
    rw [begins_app, begins_app, ih, begins_frame _ hE h3 hp h4 _ (Nat.le_refl _), List.length_append]
    cases f <;> simp [begins] <;> omega
/-- Acts up to a flush: whole records. -/
theorem Adds.flush {E a0 p0 a p : Nat} {t0 t F : List Nat} {rs : List (List Nat)} {B : Acts} (h : Adds E a0 p0 t0 rs B F a p t) (hE : E < 4294967296) (hp0 : p0 < 4294967296) : ∀ (i : Nat) (y : Bool × Int × List Nat), B[i]? = some y → y.1 = true →
    begins (B.take i) ≤ rs.length ∧ ∀ j, j < secsOf (rs.take (begins (B.take i))) → (false, ((17 + a0 + j : Nat) : Int), secAt F j) ∈ B.take i := by
  induction h with
  | nil => intro i y hy; simp at hy
  | @snoc rs B F a p t r S n f hA h1 h2 h3 h4 h5 h6 ih =>
    intro i y hy hf
    obtain ⟨hbg, hp⟩ := hA.begin hE hp0
    obtain ⟨_, i2, i3⟩ := hA.to
    rcases Nat.lt_or_ge i B.length with g | g
    · rw [List.getElem?_append_left g] at hy
      rw [List.take_append_of_le_length (by omega)]
      obtain ⟨j1, j2⟩ := ih i y hy hf
      refine ⟨by rw [List.length_append]; omega, fun j hj => ?_⟩
      rw [List.take_append_of_le_length j1] at hj
      have hjl : j < secsOf rs := by
        have : ∀ (l : List (List Nat)) (c : Nat), secsOf (l.take c) ≤ secsOf l := by
          intro l
          induction l with
          | nil => intro c; simp [secsOf]
          | cons x l ihl =>
            intro c
            cases c with
            | zero => simp [secsOf]
            | succ c => rw [List.take_succ_cons, secsOf_cons, secsOf_cons]; have := ihl c; omega
        have := this rs (begins (B.take i))
        omega
      rw [secAt_left i2 hjl]
      exact j2 j hj
    · rw [List.getElem?_append_right g] at hy
      obtain ⟨m, hm⟩ : ∃ m, i - B.length = m := ⟨_, rfl⟩
      rw [hm] at hy
      have hal : (actsK ((17 + a : Nat) : Int) (frameN E S p r) (needsN r.length)).length = needsN r.length := by simp [actsK]
      have hmk : m = needsN r.length := by
        rcases Nat.lt_or_ge m (needsN r.length) with g1 | g1
        · exfalso
          rw [List.getElem?_append_left (by omega)] at hy
          obtain ⟨_, _, rfl⟩ := actsK_mem (List.mem_of_getElem? hy)
          cases hf
        · rw [List.getElem?_append_right (by omega), hal] at hy
          cases f with
          | false => simp at hy
          | true =>
            have := (List.getElem?_eq_some_iff.1 hy).1
            simp at this
            omega
      have e1 : (B ++ (actsK ((17 + a : Nat) : Int) (frameN E S p r) (needsN r.length) ++ if f then [(true, 0, [])] else [])).take i = B ++ actsK ((17 + a : Nat) : Int) (frameN E S p r) (needsN r.length) := by
        rw [← List.append_assoc, List.take_left' (by rw [List.length_append, hal]; omega)]
      have hbb : begins (B ++ actsK ((17 + a : Nat) : Int) (frameN E S p r) (needsN r.length)) = rs.length + 1 := by
        have hk := needsN_pos r.length
        rw [begins_app, hbg, begins_frame _ hE h3 hp h4 _ (Nat.le_refl _)]
        omega
      rw [e1, hbb]
      refine ⟨by rw [List.length_append]; exact Nat.le_refl _, fun j hj => ?_⟩
      rw [List.take_of_length_le (by rw [List.length_append]; exact Nat.le_refl _)] at hj
      have hsn : Adds E a0 p0 t0 (rs ++ [r]) (B ++ (actsK ((17 + a : Nat) : Int) (frameN E S p r) (needsN r.length) ++ if false then [(true, 0, [])] else [])) (F ++ frameN E S p r) (a + needsN r.length) S (t.drop (needsN r.length * 128)) := .snoc r S n false hA h1 h2 h3 h4 h5 h6
      have := hsn.all j hj
      simpa using this
end Go.Proofs.Ytnajjfdbmdjcbaa
namespace Go.Proofs.Ytnajjfdbmdjcbaa

/-- What a sector may be behind acts. -/
def Cand (data : List Nat) (B : Acts) (s : Nat) (x : List Nat) : Prop := x = secN data s ∨ (false, (s : Int), x) ∈ B
structure CInv (count : Int) (data : List Nat) (B : Acts) (st : List Nat × Puts) : Prop where
  sec : ∀ s : Nat, (s : Int) < count → Cand data B s (secN st.1 s)
  wait : ∀ y ∈ st.2, (false, y.1, y.2) ∈ B
theorem Cand.app {data : List Nat} {B : Acts} {s : Nat} {x : List Nat} (h : Cand data B s x) (C : Acts) : Cand data (B ++ C) s x := by
  rcases h with h | h
  · exact .inl h
  · exact .inr (List.mem_append.2 (.inl h))
theorem cinv_step {count : Int} {data : List Nat} {B : Acts} {st st' : List Nat × Puts} {a : Bool × Int × List Nat} (ho : Okay count st.1 st.2) (h : CInv count data B st) (e : stepA count st a = .ok st') : CInv count data (B ++ [a]) st' := by
  unfold stepA at e
  split at e
  · simp only [Except.ok.injEq] at e
    subst e
    refine ⟨fun s hs => ?_, fun y hy => by cases hy⟩
    show Cand data (B ++ [a]) s (secN (settleN st.1 st.2) s)
    rw [settleN, sec_settle ho hs _ (Nat.le_refl _)]
    cases en : nowK st.2 s st.2.length with
    | none => exact (h.sec s hs).app _
    | some x =>
      obtain ⟨_, y, hy, hy1, hy2⟩ := nowK_len ho _ (Nat.le_refl _) en
      right
      have := h.wait y hy
      rw [hy1, hy2] at this
      exact List.mem_append.2 (.inl this)
  · rename_i hf
    split at e
    · cases e
    · split at e
      · cases e
      · split at e
        · cases e
        · simp only [Except.ok.injEq] at e
          subst e
          refine ⟨fun s hs => (h.sec s hs).app _, fun y hy => ?_⟩
          rcases List.mem_append.1 hy with hy | hy
          · exact List.mem_append.2 (.inl (h.wait y hy))
          · rw [List.mem_singleton.1 hy]
            refine List.mem_append.2 (.inr (List.mem_singleton.2 ?_))
            obtain ⟨b, i, x⟩ := a
            cases b with
            | true => exact absurd rfl hf
            | false => rfl
theorem cinv_do {count : Int} {data : List Nat} : ∀ (C B : Acts) {st st' : List Nat × Puts}, Okay count st.1 st.2 → CInv count data B st → doN count st C = .ok st' → CInv count data (B ++ C) st' := by
  intro C
  induction C with
  | nil =>
    intro B st st' _ h e
    simp only [doN, Except.ok.injEq] at e
    subst e
    simpa using h
  | cons a C ih =>
    intro B st st' ho h e
    simp only [doN] at e
    cases e1 : stepA count st a with
    | ok s1 =>
      rw [e1] at e
      have := ih (B ++ [a]) (okay_step ho e1) (cinv_step ho h e1) e
      simpa using this
    | error c => rw [e1] at e; cases e
/-- Behind a loss each sector is as it was, or one of its writes. -/
theorem crash_cand {count : Int} {data D : List Nat} {W : Puts} {C : Acts} (ho : Okay count data []) (e : doN count (data, []) C = .ok (D, W)) (keep : List Bool) (s : Nat) (hs : (s : Int) < count) : Cand data C s (secN (crashN D W keep) s) := by
  have hi := cinv_do C [] (st := (data, [])) (st' := (D, W)) ho ⟨fun s _ => .inl rfl, fun y hy => by cases hy⟩ e
  rw [List.nil_append] at hi
  have hok := okay_do C (s := (data, [])) (s' := (D, W)) ho e
  rcases sec_crash hok keep hs W.length (Nat.le_refl _) with h | ⟨y, hy, hy1, hy2⟩
  · have h' : secN (crashN D W keep) s = secN D s := h
    rw [h']
    exact hi.sec s hs
  · right
    have := hi.wait y hy
    rw [hy1, hy2] at this
    exact this
/-- A sector all whose writes are the same is so behind one of them. -/
theorem now_do {count : Int} {s : Nat} {X : List Nat} (hs : (s : Int) < count) : ∀ (C B : Acts) {st st' : List Nat × Puts}, Okay count st.1 st.2 → ((∀ x, (false, (s : Int), x) ∉ B) ∨ nowN st.1 st.2 s = X) → (∀ x, (false, (s : Int), x) ∈ C → x = X) → doN count st C = .ok st' → ((∀ x, (false, (s : Int), x) ∉ B ++ C) ∨ nowN st'.1 st'.2 s = X) := by
  intro C
  induction C with
  | nil =>
    intro B st st' _ h _ e
    simp only [doN, Except.ok.injEq] at e
    subst e
    simpa using h
  | cons a C ih =>
    intro B st st' ho h hX e
    simp only [doN] at e
    cases e1 : stepA count st a with
    | error c => rw [e1] at e; cases e
    | ok s1 =>
      rw [e1] at e
      have h1 : (∀ x, (false, (s : Int), x) ∉ B ++ [a]) ∨ nowN s1.1 s1.2 s = X := by
        have e2 := e1
        unfold stepA at e2
        split at e2
        · rename_i hf
          simp only [Except.ok.injEq] at e2
          subst e2
          rcases h with h | h
          · left
            intro x hx
            rcases List.mem_append.1 hx with hx | hx
            · exact h x hx
            · have := List.mem_singleton.1 hx
              rw [← this] at hf
              cases hf
          · right
            show nowN (settleN st.1 st.2) [] s = X
            rw [now_settled ho hs]
            exact h
        · rename_i hf
          split at e2
          · cases e2
          · split at e2
            · cases e2
            · split at e2
              · cases e2
              · simp only [Except.ok.injEq] at e2
                subst e2
                have hw : nowN st.1 (st.2 ++ [a.2]) s = if a.2.1 = (s : Int) then a.2.2 else nowN st.1 st.2 s := now_written
                by_cases hy : a.2.1 = (s : Int)
                · right
                  show nowN st.1 (st.2 ++ [a.2]) s = X
                  rw [hw, if_pos hy]
                  apply hX
                  refine List.mem_cons.2 (.inl ?_)
                  obtain ⟨b, i, x⟩ := a
                  cases b with
                  | true => exact absurd rfl hf
                  | false => simp only at hy; rw [← hy]
                · rcases h with h | h
                  · left
                    intro x hx
                    rcases List.mem_append.1 hx with hx | hx
                    · exact h x hx
                    · have := List.mem_singleton.1 hx
                      rw [← this] at hy
                      exact hy rfl
                  · right
                    show nowN st.1 (st.2 ++ [a.2]) s = X
                    rw [hw, if_neg hy]
                    exact h
      have := ih (B ++ [a]) (okay_step ho e1) h1 (fun x hx => hX x (List.mem_cons_of_mem _ hx)) e
      simpa using this
/-- What was written ahead of a flush stays. -/
theorem crash_sure {count : Int} {data D : List Nat} {W : Puts} {B1 B2 : Acts} {y : Bool × Int × List Nat} (ho : Okay count data []) (hy : y.1 = true) (e : doN count (data, []) (B1 ++ y :: B2) = .ok (D, W)) (keep : List Bool) (s : Nat) (hs : (s : Int) < count) (X : List Nat) (hX : ∀ x, (false, (s : Int), x) ∈ B1 ++ y :: B2 → x = X) (hin : (false, (s : Int), X) ∈ B1) : secN (crashN D W keep) s = X := by
  rw [doN_app] at e
  cases e1 : doN count (data, []) B1 with
  | error c => rw [e1] at e; cases e
  | ok s1 =>
    rw [e1] at e
    have hok1 := okay_do B1 (s := (data, [])) ho e1
    have n1 := now_do hs B1 [] (st := (data, [])) ho (.inl (fun x hx => by cases hx)) (fun x hx => hX x (List.mem_append.2 (.inl hx))) e1
    rw [List.nil_append] at n1
    have n2 : nowN s1.1 s1.2 s = X := by
      rcases n1 with h | h
      · exact absurd hin (h X)
      · exact h
    have e2 : stepA count s1 y = .ok (settleN s1.1 s1.2, []) := by unfold stepA; rw [if_pos hy]
    have e3 : doN count (settleN s1.1 s1.2, []) B2 = .ok (D, W) := by
      simp only [doN, e2] at e
      exact e
    have hs1 : secN (settleN s1.1 s1.2) s = X := by
      have := now_settled hok1 hs
      rw [n2] at this
      simpa [nowN, nowK] using this
    rcases crash_cand (okay_settled hok1) e3 keep s hs with h | h
    · rw [h, hs1]
    · exact hX _ (List.mem_append.2 (.inr (List.mem_cons_of_mem _ h)))
end Go.Proofs.Ytnajjfdbmdjcbaa
