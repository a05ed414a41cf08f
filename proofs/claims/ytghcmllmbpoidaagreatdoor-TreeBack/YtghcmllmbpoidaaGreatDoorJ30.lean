import Derived.Test.YtghcmllmbpoidaaGreatDoorJ29
import Derived.Test.YtghcmllmbpoidaaGreatDoorJ20
namespace Go.Proofs.YtghcmllmbpoidaaGreatDoor.Lg
open Go.RowKit Go.WideShapes
noncomputable def errL (count : Int) (data : List Nat) (ws : Puts) : Int := by
  classical
  exact if Okay count data ws then (if count < 80 then 50 else if epochN (logN data ws) = 0 then 50 else 0) else 20
theorem errL_ok {count : Int} {data : List Nat} {ws : Puts} (h : errL count data ws = 0) : HasLog count data ws ∧ epochN (logN data ws) ≠ 0 := by
  unfold errL at h
  by_cases h1 : Okay count data ws
  · by_cases h2 : count < 80
    · simp [h1, h2] at h
    · by_cases h3 : epochN (logN data ws) = 0
      · simp [h1, h2, h3] at h
      · exact ⟨⟨h1, by omega⟩, h3⟩
  · simp [h1] at h
theorem load_bad (v : Value) (count : Int) (data : List Nat) (ws : Puts) (w : World) (hd : DiskIn w v count data ws) (er : Int) (he : errL count data ws = er) (hne : er ≠ 0) :
    Calls Tryz.prog 78 #[v] w fun e w' => e = .returned (.tuple #[.agg #[.int .u32 0, .slice none 0 0, .int .i64 0, .int .u32 0, .slice none 0 0], .int .i64 er]) ∧ Below w.heap.size w w' := by
  unfold errL at he
  by_cases h1 : Okay count data ws
  · by_cases h2 : count < 80
    · obtain rfl : (50 : Int) = er := by simpa [h1, h2] using he
      exact load_err v count data ws w hd 50 (by decide) (fun u w' hu => now_few u count data ws w' hu h1 h2)
    · by_cases h3 : epochN (logN data ws) = 0
      · obtain rfl : (50 : Int) = er := by simpa [h1, h2, h3] using he
        refine (load_main v count data ws w hd h1 (by omega) 0 h3).mono ?_
        rintro e w' (⟨_, rfl, hb⟩ | ⟨h0, _⟩)
        · exact ⟨rfl, hb⟩
        · exact absurd rfl h0
      · exact absurd (show (0 : Int) = er by simpa [h1, h2, h3] using he) (fun e => hne e.symm)
  · obtain rfl : (20 : Int) = er := by simpa [h1] using he
    exact load_err v count data ws w hd 20 (by decide) (fun u w' hu => now_bad u count data ws w' hu h1)
set_option maxHeartbeats 1000000 in
theorem Add_err (v : Value) (r : ByteArray) (count : Int) (data : List Nat) (ws : Puts) (w : World) (hd : DiskIn w v count data ws) (er : Int) (he : errL count data ws = er) (hne : er ≠ 0) :
    Calls Tryz.prog 100 #[v, .string r] w fun e w' => e = .returned (.tuple #[.slice none 0 0, .int .i64 er]) ∧ Below w.heap.size w w' := by
  obtain ⟨p, c, q, m, rfl, _⟩ := hd.parts
  have HD : Hid _ := hd
  have HE : Hid (errL count data ws = er ∧ er ≠ 0) := ⟨he, hne⟩
  have g1 : (er != 0) = true := by simpa using hne
  clear hd he hne
  go_enter Tryz.func100, Tryz.ntmps100
  go_wp2_with fail
  refine (load_bad _ count data ws _ (HD.out.below (below_alloc w _)) er HE.out.1 HE.out.2).mono ?_
  rintro e w1 ⟨rfl, hb1⟩
  have HB : Hid (Below w.heap.size w (w1.alloc (.cells #[.int .u32 0, .slice none 0 0, .int .i64 0, .int .u32 0, .slice none 0 0] 149))) := below_bt (below_bt (below_alloc w _) hb1) (below_alloc _ _)
  clear hb1
  go_wp2
  go_ret2
  exact ⟨rfl, HB.out⟩
end Go.Proofs.YtghcmllmbpoidaaGreatDoor.Lg
namespace Go.Proofs.YtghcmllmbpoidaaGreatDoor.Lg
theorem take_take_le {xs ys : List Nat} {a b : Nat} (h : xs.take b = ys.take b) (hab : a ≤ b) : xs.take a = ys.take a := by
  have := congrArg (List.take a) h
  rwa [List.take_take, List.take_take, Nat.min_eq_left hab] at this
theorem drop_take_eq {xs ys : List Nat} {a b : Nat} (h : xs.take (a + b) = ys.take (a + b)) : (xs.drop a).take b = (ys.drop a).take b := by
  have := congrArg (List.drop a) h
  rwa [List.drop_take, List.drop_take, Nat.add_sub_cancel_left] at this
theorem Recs.swap {E p : Nat} {ys : List Nat} {l : List (List Nat)} {a la : Nat} {t : List Nat} (h : Recs E p ys l a la t) : ∀ {ys' : List Nat} {l2 : List (List Nat)} {a2 la2 : Nat} {t2 : List Nat}, ys'.take (a * 128) = ys.take (a * 128) → Recs E la (ys'.drop (a * 128)) l2 a2 la2 t2 → Recs E p ys' (l ++ l2) (a + a2) la2 t2 := by
  induction h with
  | stop _ =>
    intro ys' l2 a2 la2 t2 _ h2
    simpa using h2
  | @next p s ys r l a la t hr _ ih =>
    intro ys' l2 a2 la2 t2 ht h2
    have e1 : (needsN r.length + a) * 128 = needsN r.length * 128 + a * 128 := by omega
    rw [e1] at ht h2
    have hr' : IsRec E p ys' s r := ⟨hr.salt0, hr.salt, hr.len, hr.byte, by rw [take_take_le ht (by omega)]; exact hr.pre⟩
    have := ih (ys' := ys'.drop (needsN r.length * 128)) (drop_take_eq ht) (by rw [List.drop_drop]; exact h2)
    have h3 := Recs.next hr' this
    rw [List.cons_append, Nat.add_assoc]
    exact h3
theorem mostS_mono (e : Nat) (ys : List Nat) (k : Nat) : mostS e ys k ≤ mostS e ys (k + 1) := by
  show _ ≤ (if _ then max _ (max _ _) else _)
  split
  · exact Nat.le_max_left _ _
  · exact Nat.le_refl _
theorem mostS_ge {e : Nat} {ys : List Nat} : ∀ {n i : Nat}, i < n → numAt ys (i * 128) = e → numAt ys (i * 128 + 4) ≤ mostS e ys n ∧ numAt ys (i * 128 + 8) ≤ mostS e ys n
  | n + 1, i, hi, he => by
    rcases Nat.lt_or_ge i n with h | h
    · have := mostS_ge (n := n) h he
      have := mostS_mono e ys n
      omega
    · obtain rfl : i = n := by omega
      have hm : mostS e ys (i + 1) = max (mostS e ys i) (max (numAt ys (i * 128 + 4)) (numAt ys (i * 128 + 8))) := if_pos he
      rw [hm]
      exact ⟨Nat.le_trans (Nat.le_max_left _ _) (Nat.le_max_right _ _), Nat.le_trans (Nat.le_max_right _ _) (Nat.le_max_right _ _)⟩
  | 0, _, h, _ => absurd h (by omega)
theorem no_behind {E S : Nat} {t : List Nat} {n : Nat} (hE : E < 4294967296) (hS : S < 4294967296) (ht : t.length = n * 128) (hm : mostS E t n < S) (i : Nat) : ∀ s r, ¬ IsRec E S (t.drop (i * 128)) s r := fun s r h => by
  have h1 := rec_len h
  have h2 := needsN_pos r.length
  rw [List.length_drop] at h1
  have hi : i < n := by omega
  obtain ⟨_, _, _, h4⟩ := rec_dec hE hS h
  have a := h4 0 h2
  have e0 : numAt (secAt (t.drop (i * 128)) 0) 0 = numAt t (i * 128) := by
    have g : ∀ j, j < 128 → (secAt (t.drop (i * 128)) 0).getD j 0 = t.getD (i * 128 + j) 0 := fun j hj => by rw [sec_getD _ _ _ hj]; simp [List.getD, Nat.zero_mul]
    unfold numAt
    rw [g 0 (by omega), g (0 + 1) (by omega), g (0 + 2) (by omega), g (0 + 3) (by omega)]
    rfl
  have e8 : numAt (secAt (t.drop (i * 128)) 0) 8 = numAt t (i * 128 + 8) := by
    have g : ∀ j, j < 128 → (secAt (t.drop (i * 128)) 0).getD j 0 = t.getD (i * 128 + j) 0 := fun j hj => by rw [sec_getD _ _ _ hj]; simp [List.getD, Nat.zero_mul]
    unfold numAt
    rw [g 8 (by omega), g (8 + 1) (by omega), g (8 + 2) (by omega), g (8 + 3) (by omega)]
  have b := mostS_ge hi (e0.symm.trans a.he)
  have c := e8.symm.trans a.hp
  omega
theorem Recs.more {E : Nat} {ys ys' : List Nat} {l : List (List Nat)} {a la : Nat} {t r : List Nat} {n S : Nat} (h : Recs E 0 ys l a la t) (hE : E < 4294967296) (hy : ys.length = n * 128) (hS : mostS E t (n - a) + 1 = S) (hS2 : S < 4294967296) (hr : r.length ≤ 4096) (hrb : ∀ c ∈ r, c < 256)
    (h1 : ys'.take (a * 128) = ys.take (a * 128)) (h2 : (ys'.drop (a * 128)).take (needsN r.length * 128) = frameN E S la r) (h3 : (ys'.drop (a * 128)).drop (needsN r.length * 128) = t.drop (needsN r.length * 128)) :
    Recs E 0 ys' (l ++ [r]) (a + needsN r.length) S (t.drop (needsN r.length * 128)) := by
  obtain ⟨f1, f2, _⟩ := h.facts (n := n) hy (by omega)
  have htl : t.length = (n - a) * 128 := by rw [f2]; exact drop_len hy
  have hrec : IsRec E la (ys'.drop (a * 128)) S r := ⟨by omega, hS2, hr, hrb, h2⟩
  have hstop : Recs E S ((ys'.drop (a * 128)).drop (needsN r.length * 128)) [] 0 S (t.drop (needsN r.length * 128)) := by
    rw [h3]
    exact .stop (no_behind hE hS2 htl (by omega) _)
  have h4 := h.swap h1 (.next hrec hstop)
  simpa using h4
end Go.Proofs.YtghcmllmbpoidaaGreatDoor.Lg
namespace Go.Proofs.YtghcmllmbpoidaaGreatDoor.Lg
theorem secs_all : ∀ (n : Nat) (xs : List Nat), xs.length = n * 128 → xs = (List.range n).flatMap (secAt xs)
  | 0, xs, h => by
    have : xs = [] := List.length_eq_zero_iff.1 (by omega)
    subst this; rfl
  | n + 1, xs, h => by
    have h1 := secs_all n (xs.take (n * 128)) (by rw [List.length_take]; omega)
    rw [List.range_succ, List.flatMap_append, List.flatMap_cons, List.flatMap_nil, List.append_nil]
    have h2 : (List.range n).flatMap (secAt xs) = (List.range n).flatMap (secAt (xs.take (n * 128))) := by
      rw [List.flatMap_def, List.flatMap_def]
      congr 1
      refine List.map_congr_left (fun i hi => ?_)
      have hi := List.mem_range.1 hi
      unfold secAt
      rw [List.drop_take, List.take_take, Nat.min_eq_left (by omega)]
    rw [h2, ← h1]
    have h3 : secAt xs n = xs.drop (n * 128) := by
      unfold secAt
      exact List.take_of_length_le (by rw [List.length_drop]; omega)
    rw [h3, List.take_append_drop]
theorem secs_ext {n : Nat} {xs ys : List Nat} (hx : xs.length = n * 128) (hy : ys.length = n * 128) (h : ∀ i, i < n → secAt xs i = secAt ys i) : xs = ys := by
  rw [secs_all n xs hx, secs_all n ys hy, List.flatMap_def, List.flatMap_def]
  congr 1
  exact List.map_congr_left (fun i hi => h i (List.mem_range.1 hi))
theorem sec_take {xs : List Nat} {a i : Nat} (h : i < a) : secAt (xs.take (a * 128)) i = secAt xs i := by
  unfold secAt
  rw [List.drop_take, List.take_take, Nat.min_eq_left (by omega)]
theorem sec_drop (xs : List Nat) (a i : Nat) : secAt (xs.drop (a * 128)) i = secAt xs (a + i) := by
  unfold secAt
  rw [List.drop_drop]
  congr 2
  omega
theorem sec_logK {data : List Nat} {ws : Puts} {n i : Nat} (hl : ∀ j, j < n → (nowN data ws ((16 + j : Nat) : Int)).length = 128) (hi : i < n) : secAt (logK data ws n) i = nowN data ws ((16 + i : Nat) : Int) := by
  have hlen : ∀ k, k ≤ n → (logK data ws k).length = k * 128 := by
    intro k
    induction k with
    | zero => intro _; rfl
    | succ k ih => intro hk; rw [logK_snoc, List.length_append, ih (by omega), hl k (by omega)]; omega
  induction n with
  | zero => omega
  | succ n ih =>
    rw [logK_snoc]
    have hn := hlen n (by omega)
    rcases Nat.lt_or_ge i n with h | h
    · rw [← ih (fun j hj => hl j (by omega)) h (fun k hk => hlen k (by omega))]
      unfold secAt
      rw [List.drop_append_of_le_length (by omega), List.take_append_of_le_length (by rw [List.length_drop]; omega)]
    · obtain rfl : i = n := by omega
      unfold secAt
      rw [← hn, List.drop_left, List.take_of_length_le (by rw [hl i (by omega)]; omega)]
def putsK (fr : Int) (xs : List Nat) (k : Nat) : Puts := (List.range k).map fun i : Nat => (fr + (i : Int), secAt xs i)
theorem putsK_snoc (fr : Int) (xs : List Nat) (k : Nat) : putsK fr xs (k + 1) = putsK fr xs k ++ [(fr + (k : Int), secAt xs k)] := by
  unfold putsK; rw [List.range_succ, List.map_append]; rfl
theorem putsK_len (fr : Int) (xs : List Nat) (k : Nat) : (putsK fr xs k).length = k := by simp [putsK]
theorem now_puts {data : List Nat} {ws : Puts} {fr : Nat} {xs : List Nat} : ∀ (k n : Nat), nowN data (ws ++ putsK (fr : Int) xs k) (n : Int) = if fr ≤ n ∧ n < fr + k then secAt xs (n - fr) else nowN data ws (n : Int)
  | 0, n => by rw [if_neg (by omega)]; simp [putsK]
  | k + 1, n => by
    rw [putsK_snoc, ← List.append_assoc, now_written, now_puts k n]
    by_cases h : (fr : Int) + (k : Int) = n
    · rw [if_pos h, if_pos (by omega), show n - fr = k from by omega]
    · rw [if_neg h]
      by_cases h2 : fr ≤ n ∧ n < fr + k
      · rw [if_pos h2, if_pos (by omega)]
      · rw [if_neg h2, if_neg (by omega)]
theorem do_puts {count : Int} {data : List Nat} {ws : Puts} {fr : Int} {xs : List Nat} (h0 : 0 ≤ fr) : ∀ (k : Nat), (∀ i, i < k → (secAt xs i).length = 128) → fr + k ≤ count → ws.length + k ≤ 4096 → doN count (data, ws) (actsK fr xs k) = .ok (data, ws ++ putsK fr xs k)
  | 0, _, _, _ => by simp [actsK, putsK, doN]
  | k + 1, h1, h2, h3 => by
    rw [actsK_snoc, putsK_snoc, doN_app, do_puts h0 k (fun i hi => h1 i (by omega)) (by omega) (by omega)]
    have h4 := h1 k (by omega)
    have h5 : (ws ++ putsK fr xs k).length = ws.length + k := by rw [List.length_append, putsK_len]
    simp only [doN, stepA]
    rw [if_neg (by simp), if_neg (fun hh => hh ⟨by show 0 ≤ fr + (k : Int); omega, by show fr + (k : Int) < count; omega⟩), if_neg (by simp [h4]), if_neg (by simp only [h5]; omega), List.append_assoc]
theorem now_len {count : Int} {data : List Nat} {ws : Puts} (h : HasLog count data ws) : ∀ j, j < 64 → (nowN data ws ((16 + j : Nat) : Int)).length = 128 := fun j hj => nowN_len h.ok (by have := h.big; omega)
theorem log_len {count : Int} {data : List Nat} {ws : Puts} (h : HasLog count data ws) : (logN data ws).length = 64 * 128 := by
  have : ∀ k, k ≤ 64 → (logK data ws k).length = k * 128 := by
    intro k
    induction k with
    | zero => intro _; rfl
    | succ k ih => intro hk; rw [logK_snoc, List.length_append, ih (by omega), now_len h k (by omega)]; omega
  exact this 64 (Nat.le_refl _)
theorem log_added {count : Int} {data : List Nat} {ws : Puts} {a k : Nat} {F : List Nat} (h : HasLog count data ws) (h' : HasLog count data (ws ++ putsK ((17 + a : Nat) : Int) F k)) (hak : a + k ≤ 63) (hF : F.length = k * 128) :
    (logN data (ws ++ putsK ((17 + a : Nat) : Int) F k)).take 128 = (logN data ws).take 128 ∧
    ((logN data (ws ++ putsK ((17 + a : Nat) : Int) F k)).drop 128).take (a * 128) = ((logN data ws).drop 128).take (a * 128) ∧
    (((logN data (ws ++ putsK ((17 + a : Nat) : Int) F k)).drop 128).drop (a * 128)).take (k * 128) = F ∧
    (((logN data (ws ++ putsK ((17 + a : Nat) : Int) F k)).drop 128).drop (a * 128)).drop (k * 128) = (((logN data ws).drop 128).drop (a * 128)).drop (k * 128) := by
  have l1 := log_len h
  have l2 := log_len h'
  have s1 : ∀ i, i < 64 → secAt (logN data ws) i = nowN data ws ((16 + i : Nat) : Int) := fun i hi => sec_logK (now_len h) hi
  have s2 : ∀ i, i < 64 → secAt (logN data (ws ++ putsK ((17 + a : Nat) : Int) F k)) i = if 17 + a ≤ 16 + i ∧ 16 + i < 17 + a + k then secAt F (16 + i - (17 + a)) else nowN data ws ((16 + i : Nat) : Int) := fun i hi => (sec_logK (now_len h') hi).trans (now_puts k (16 + i))
  generalize logN data (ws ++ putsK ((17 + a : Nat) : Int) F k) = L' at *
  generalize logN data ws = L at *
  have d1 : ∀ (X : List Nat) i, secAt (X.drop 128) i = secAt X (1 + i) := fun X i => by have := sec_drop X 1 i; rwa [Nat.one_mul] at this
  refine ⟨?_, ?_, ?_, ?_⟩
  · have e : ∀ X : List Nat, X.take 128 = secAt X 0 := fun X => by unfold secAt; simp
    rw [e, e, s1 0 (by omega), s2 0 (by omega), if_neg (by omega)]
  · refine secs_ext (n := a) (by rw [List.length_take, List.length_drop]; omega) (by rw [List.length_take, List.length_drop]; omega) (fun i hi => ?_)
    rw [sec_take hi, sec_take hi, d1, d1, s1 _ (by omega), s2 _ (by omega), if_neg (by omega)]
  · refine secs_ext (n := k) (by rw [List.length_take, List.length_drop, List.length_drop]; omega) hF (fun i hi => ?_)
    rw [sec_take hi, sec_drop, d1, s2 _ (by omega), if_pos (by omega)]
    congr 1
    omega
  · refine secs_ext (n := 63 - a - k) (by rw [List.length_drop, List.length_drop, List.length_drop]; omega) (by rw [List.length_drop, List.length_drop, List.length_drop]; omega) (fun i hi => ?_)
    rw [sec_drop, sec_drop, sec_drop, sec_drop, d1, d1, s1 _ (by omega), s2 _ (by omega), if_neg (by omega)]
end Go.Proofs.YtghcmllmbpoidaaGreatDoor.Lg
namespace Go.Proofs.YtghcmllmbpoidaaGreatDoor.Lg
theorem mostE_head (xs : List Nat) : ∀ k, epochN xs ≤ mostE xs k
  | 0 => Nat.le_refl _
  | k + 1 => Nat.le_trans (mostE_head xs k) (Nat.le_max_left _ _)
theorem mostE_ge {xs : List Nat} : ∀ {k i : Nat}, i < k → numAt xs ((i + 1) * 128) ≤ mostE xs k
  | k + 1, i, hi => by
    rcases Nat.lt_or_ge i k with h | h
    · exact Nat.le_trans (mostE_ge h) (Nat.le_max_left _ _)
    · obtain rfl : i = k := by omega
      exact Nat.le_max_right _ _
  | 0, _, h => absurd h (by omega)
theorem numAt_sec {xs : List Nat} {i j : Nat} (hj : j + 4 ≤ 128) : numAt (secAt xs i) j = numAt xs (i * 128 + j) := by
  unfold numAt
  rw [sec_getD _ _ _ (by omega), sec_getD _ _ _ (by omega), sec_getD _ _ _ (by omega), sec_getD _ _ _ (by omega)]
  rfl
theorem no_epoch {xs : List Nat} {M : Nat} (hm : mostE xs 63 + 1 = M) (hM : M < 4294967296) : ∀ s r, ¬ IsRec M 0 (xs.drop 128) s r := fun s r h => by
  obtain ⟨_, _, _, h4⟩ := rec_dec hM (by omega) h
  have a := (h4 0 (needsN_pos _)).he
  rw [numAt_sec (by omega), numAt_drop2] at a
  have b := mostE_ge (xs := xs) (k := 63) (i := 0) (by omega)
  have e : numAt xs ((0 + 1) * 128) = numAt xs (128 + (0 * 128 + 0)) := rfl
  omega
theorem do_clear {count : Int} {data : List Nat} {ws : Puts} {M : Nat} (h : HasLog count data ws) (hw : ws.length < 4096) : doAny count data ws (clearActs M) = .ok (settleN data (ws ++ [(16, headL M)]), []) := by
  have hb := h.big
  rw [doAny_ok _ h.ok]
  have e1 : stepA count (data, ws) (false, 16, headL M) = .ok (data, ws ++ [(16, headL M)]) := by
    unfold stepA
    rw [if_neg (by simp), if_neg (fun hh => hh ⟨by show (0 : Int) ≤ 16; omega, by show (16 : Int) < count; omega⟩), if_neg (by simp [headL_len]), if_neg (by show ¬ 4096 ≤ ws.length; omega)]
  have e2 : stepA count (data, ws ++ [(16, headL M)]) (true, 0, []) = .ok (settleN data (ws ++ [(16, headL M)]), []) := by
    unfold stepA
    rw [if_pos rfl]
  show doN count (data, ws) [(false, 16, headL M), (true, 0, [])] = _
  simp only [doN, e1, e2]
theorem has_clear {count : Int} {data : List Nat} {ws : Puts} {M : Nat} (h : HasLog count data ws) (hw : ws.length < 4096) : HasLog count (settleN data (ws ++ [(16, headL M)])) [] := ⟨doAny_okay (do_clear h hw), h.big⟩
theorem log_cleared {count : Int} {data : List Nat} {ws : Puts} {M : Nat} (h : HasLog count data ws) (hw : ws.length < 4096) : logN (settleN data (ws ++ [(16, headL M)])) [] = headL M ++ (logN data ws).drop 128 := by
  have hb := h.big
  have hk : Okay count data (ws ++ [(16, headL M)]) := by
    refine ⟨h.ok.lo, h.ok.hi, h.ok.len, by rw [List.length_append]; simp; omega, fun y hy => ?_⟩
    rcases List.mem_append.1 hy with hy | hy
    · exact h.ok.each y hy
    · rw [List.mem_singleton.1 hy]
      exact ⟨by show (0 : Int) ≤ 16; omega, by show (16 : Int) < count; omega, headL_len M⟩
  have l1 := log_len h
  have l2 := log_len (has_clear (M := M) h hw)
  have s1 : ∀ i, i < 64 → secAt (logN data ws) i = nowN data ws ((16 + i : Nat) : Int) := fun i hi => sec_logK (now_len h) hi
  have s2 : ∀ i, i < 64 → secAt (logN (settleN data (ws ++ [(16, headL M)])) []) i = if (16 : Int) = ((16 + i : Nat) : Int) then headL M else nowN data ws ((16 + i : Nat) : Int) := fun i hi => by
    have e1 : secAt (logN (settleN data (ws ++ [(16, headL M)])) []) i = nowN (settleN data (ws ++ [(16, headL M)])) [] ((16 + i : Nat) : Int) := sec_logK (now_len (has_clear h hw)) hi
    rw [e1, now_settled hk (n := 16 + i) (by omega), now_written]
  refine secs_ext (n := 64) l2 (by rw [List.length_append, headL_len, List.length_drop, l1]) (fun i hi => ?_)
  rw [s2 i hi]
  by_cases h0 : i = 0
  · subst h0
    rw [if_pos (show (16 : Int) = ((16 + 0 : Nat) : Int) from rfl)]
    unfold secAt
    rw [Nat.zero_mul, List.drop_zero, List.take_left' (headL_len M)]
  · rw [if_neg (by omega)]
    obtain ⟨j, rfl⟩ : ∃ j, i = j + 1 := ⟨i - 1, by omega⟩
    rw [← s1 _ hi]
    unfold secAt
    rw [show (j + 1) * 128 = 128 + j * 128 from by omega, ← List.drop_drop, ← List.drop_drop, List.drop_left' (headL_len M)]
theorem epoch_headM {M : Nat} (hM : M < 4294967296) (xs : List Nat) : epochN (headL M ++ xs) = M := by
  have h1 : (headL M ++ xs).take 128 = headL M := List.take_left' (headL_len M)
  have h2 : (headL M).drop 8 = List.replicate 120 0 := rfl
  have h4 : ∀ c ∈ List.replicate 120 0, c = 0 := fun c hc => (List.mem_replicate.1 hc).2
  have hj : joinN (M % 256) (M / 256 % 256) (M / 65536 % 256) (M / 16777216 % 256) (M / 4294967296 % 256) (M / 1099511627776 % 256) (M / 281474976710656 % 256) (M / 72057594037927936) = M := by unfold joinN; omega
  unfold epochN
  rw [h1, h2]
  have h3 : headL M ++ xs = M % 256 :: M / 256 % 256 :: M / 65536 % 256 :: M / 16777216 % 256 :: M / 4294967296 % 256 :: M / 1099511627776 % 256 :: M / 281474976710656 % 256 :: M / 72057594037927936 :: (List.replicate 120 0 ++ xs) := rfl
  rw [h3]
  simp only [List.getD_cons_zero, List.getD_cons_succ]
  rw [hj, if_pos ⟨hM, h4⟩]
end Go.Proofs.YtghcmllmbpoidaaGreatDoor.Lg
namespace Go.Proofs.YtghcmllmbpoidaaGreatDoor.Lg
open Go.RowKit Go.WideShapes
theorem do_added {count : Int} {data : List Nat} {ws : Puts} {a k : Nat} {F : List Nat} (h : HasLog count data ws) (hw : ws.length ≤ 300) (hak : a + k ≤ 63) (hF : F.length = k * 128) : doAny count data ws (actsK ((17 + a : Nat) : Int) F k) = .ok (data, ws ++ putsK ((17 + a : Nat) : Int) F k) := by
  have hb := h.big
  rw [doAny_ok _ h.ok]
  exact do_puts (by omega) k (fun i hi => secAt_len (by omega)) (by omega) (by omega)
theorem has_added {count : Int} {data : List Nat} {ws : Puts} {a k : Nat} {F : List Nat} (h : HasLog count data ws) (hw : ws.length ≤ 300) (hak : a + k ≤ 63) (hF : F.length = k * 128) : HasLog count data (ws ++ putsK ((17 + a : Nat) : Int) F k) := ⟨doAny_okay (do_added h hw hak hF), h.big⟩
theorem recs_added {count : Int} {data : List Nat} {ws : Puts} {E a la S : Nat} {l : List (List Nat)} {t r : List Nat} (h : HasLog count data ws) (hw : ws.length ≤ 300) (hE : epochN (logN data ws) = E) (hrec : Recs E 0 ((logN data ws).drop 128) l a la t) (hS : mostS E t (63 - a) + 1 = S) (hS2 : S < 4294967296) (hr : r.length ≤ 4096) (hrb : ∀ c ∈ r, c < 256) (hfit : a + needsN r.length ≤ 63) :
    epochN (logN data (ws ++ putsK ((17 + a : Nat) : Int) (frameN E S la r) (needsN r.length))) = E ∧ Recs E 0 ((logN data (ws ++ putsK ((17 + a : Nat) : Int) (frameN E S la r) (needsN r.length))).drop 128) (l ++ [r]) (a + needsN r.length) S (t.drop (needsN r.length * 128)) := by
  have hF := frameN_len E S la r
  have hE32 : E < 4294967296 := hE ▸ epochN_lt _
  obtain ⟨h0, h1, h2, h3⟩ := log_added h (has_added h hw hfit hF) hfit hF
  obtain ⟨_, ht, _⟩ := hrec.facts (n := 63) (by rw [List.length_drop, log_len h]) (by omega)
  have e1 : ∀ {xs ys : List Nat}, xs.take 128 = ys.take 128 → epochN xs = epochN ys := fun {xs ys} h => by
    have g : ∀ j, j < 128 → xs.getD j 0 = ys.getD j 0 := fun j hj => by
      have := congrArg (fun l => l.getD j 0) h
      simpa [List.getD, List.getElem?_take, hj] using this
    unfold epochN
    rw [g 0 (by omega), g 1 (by omega), g 2 (by omega), g 3 (by omega), g 4 (by omega), g 5 (by omega), g 6 (by omega), g 7 (by omega), h]
  refine ⟨(e1 h0).trans hE, ?_⟩
  rw [← ht] at h3
  exact hrec.more hE32 (by rw [List.length_drop, log_len h]) hS hS2 hr hrb h1 h2 h3
theorem do_clear_any (v : Value) (count : Int) (data : List Nat) (ws : Puts) (w : World) (q : Option Addr) (n m M : Nat) (l : List ActC) (hd : DiskIn w v count data ws) (ha : AOwn w 0 (.slice q n m) l) (hl : l.map Prod.fst = clearActs M) (h : HasLog count data ws) (hw : ws.length ≤ 300) :
    Calls Tryz.prog 18 #[v, .slice q n m] w fun e w' => ∃ v', e = .returned (.tuple #[v', .int .i64 0]) ∧ DiskF w.heap.size w' v' count (settleN data (ws ++ [(16, headL M)])) [] ∧ Below w.heap.size w w' := by
  obtain ⟨hn, hi, _, _⟩ := ha.lies
  rw [hl] at hi
  have hln : n = (clearActs M).length := by rw [hn, ← hl, List.length_map]
  refine (do_all v count data ws w hd q n m (clearActs M) hln hi (by show 2 ≤ _; decide) _ (do_clear h (by omega))).mono ?_
  rintro e w' ⟨⟨v', he, hf⟩, hb⟩
  exact ⟨v', he, hf, hb⟩
theorem recs_cleared {count : Int} {data : List Nat} {ws : Puts} {M : Nat} (h : HasLog count data ws) (hw : ws.length ≤ 300) (hm : mostE (logN data ws) 63 + 1 = M) (hM : M < 4294967296) :
    epochN (logN (settleN data (ws ++ [(16, headL M)])) []) = M ∧ Recs M 0 ((logN (settleN data (ws ++ [(16, headL M)])) []).drop 128) [] 0 0 ((logN data ws).drop 128) ∧ epochN (logN data ws) < M ∧ M ≠ 0 := by
  have e := log_cleared (M := M) h (by omega)
  rw [e]
  refine ⟨epoch_headM hM _, ?_, ?_, by omega⟩
  · rw [List.drop_left' (headL_len M)]
    exact .stop (no_epoch hm hM)
  · have := mostE_head (logN data ws) 63
    omega
end Go.Proofs.YtghcmllmbpoidaaGreatDoor.Lg
