import Derived.Test.YtblnoekogdpolaaDoorJSt
namespace Go.Proofs.YtblnoekogdpolaaDoor
open Go.RowKit Go.WideShapes Go.Joins
theorem nat_small {m : Nat} (h : m < 10) : J.natT m = [48 + m] := by unfold J.natT; rw [dif_pos h]
theorem nat_more {m : Nat} (h : ¬ m < 10) : J.natT m = J.natT (m / 10) ++ [48 + m % 10] := by rw [J.natT, dif_neg h]
theorem nums_append (a b : ByteArray) : numsOf (a ++ b) = numsOf a ++ numsOf b := by
  unfold numsOf
  simp
theorem natT_len : ∀ (k m : Nat), m < 10 ^ (k + 1) → (J.natT m).length ≤ k + 1 := by
  intro k
  induction k with
  | zero => intro m h; rw [nat_small (by simpa using h)]; simp
  | succ k ih =>
    intro m h
    by_cases h0 : m < 10
    · rw [nat_small h0]; simp
    rw [nat_more h0, List.length_append]
    have := ih (m / 10) (by rw [Nat.pow_succ] at h; omega)
    simp only [List.length_cons, List.length_nil]
    omega
theorem size_19 {s : ByteArray} {m : Nat} (h : numsOf s = J.natT m) (hm : m ≤ 9223372036854775808) : s.size ≤ 19 := by
  have := natT_len 18 m (by omega)
  rw [← h, numsOf_len] at this
  exact this
theorem size_20 {s : ByteArray} {m : Nat} (h : numsOf s = 45 :: J.natT m) (hm : m ≤ 9223372036854775808) : s.size ≤ 20 := by
  have := natT_len 18 m (by omega)
  have h2 := congrArg List.length h
  rw [numsOf_len, List.length_cons] at h2
  omega
def TnP (ys : List Nat) (w : World) (e : Ending) (w' : World) : Prop := (∃ s : ByteArray, e = .returned (.string s) ∧ numsOf s = ys) ∧ w' = w
def digS : ByteArray := ⟨#[48, 49, 50, 51, 52, 53, 54, 55, 56, 57]⟩
theorem dig_one (m : Nat) (h : m < 10) : numsOf (digS.extract m (m + 1)) = [48 + m] := by
  have : ∀ k : Fin 10, numsOf (digS.extract k.val (k.val + 1)) = [48 + k.val] := by decide
  exact this ⟨m, h⟩
set_option maxHeartbeats 1000000 in
theorem tens_digit (m : Nat) (h : m < 10) (w : World) : Calls Tryd.prog 75 #[.int .i64 (m : Int)] w fun e w' => TnP (J.natT m) w e w' := by
  have h0 : ¬ (m : Int) < 0 := by omega
  have h1 : (m : Int) < 10 := by omega
  have h2 : (0 : Int) ≤ (m : Int) := by omega
  have HD : Hid (numsOf (digS.extract m (m + 1)) = J.natT m) := by rw [nat_small h]; exact dig_one m h
  unfold digS at HD
  clear h
  go_enter Tryd.func75, Tryd.ntmps75
  go_wp2_with fail
  go_ret
  exact ⟨⟨_, rfl, HD.out⟩, rfl⟩
set_option maxHeartbeats 1000000 in
theorem tens_big (f : Nat) (ih : ∀ (m : Nat) (w : World), m ≤ f → Calls Tryd.prog 75 #[.int .i64 (m : Int)] w fun e w' => TnP (J.natT m) w e w') (m : Nat) (hm : m ≤ f + 1) (hb : m ≤ 9223372036854775807) (w : World) :
    Calls Tryd.prog 75 #[.int .i64 (m : Int)] w fun e w' => TnP (J.natT m) w e w' := by
  by_cases h : m < 10
  · exact tens_digit m h w
  obtain ⟨q, hq⟩ : ∃ q, m / 10 = q := ⟨_, rfl⟩
  obtain ⟨r, hr⟩ : ∃ r, m % 10 = r := ⟨_, rfl⟩
  have A := fun w' => ih q w' (by omega)
  have B := fun w' => tens_digit r (by omega) w'
  have SZ : ∀ s : ByteArray, numsOf s = J.natT q → s.size ≤ 20 := fun s hs => Nat.le_trans (size_19 hs (by omega)) (by decide)
  have HE : Hid (J.natT m = J.natT q ++ J.natT r) := by show _ = _; rw [nat_more h, nat_small (by omega : r < 10), hq, hr]
  have h0 : ¬ (m : Int) < 0 := by omega
  have h1 : ¬ (m : Int) < 10 := by omega
  have d1 : (m : Int) / 10 = (q : Int) := by omega
  have d2 : (m : Int) % 10 = (r : Int) := by omega
  have d3 : (m : Int).tdiv 10 = (q : Int) := by rw [Int.tdiv_eq_ediv_of_nonneg (by omega)]; omega
  have d4 : (m : Int).tmod 10 = (r : Int) := by rw [Int.tmod_eq_emod_of_nonneg (by omega)]; omega
  have b1 : (q : Int) ≤ 9223372036854775807 := by omega
  have b2 : (r : Int) < 10 := by omega
  have b3 : (0 : Int) ≤ (q : Int) := by omega
  have b4 : (0 : Int) ≤ (r : Int) := by omega
  have b5 : (m : Int) ≤ 9223372036854775807 := by omega
  clear h hq hr hm hb ih
  go_enter Tryd.func75, Tryd.ntmps75
  have A1 := A w
  have B1 := B w
  clear A B
  go_wp2_with fail
  refine A1.mono ?_
  rintro e w1 ⟨⟨s1, rfl, h1⟩, rfl⟩
  simp only []
  go_wp2_with fail
  refine B1.mono ?_
  rintro e w2 ⟨⟨s2, rfl, h2⟩, rfl⟩
  have z1 := SZ s1 h1
  have z2 := size_19 h2 (by omega)
  have z3 : (s1.size : Int) + (s2.size : Int) ≤ 9223372036854775807 := by omega
  have z4 : s1.size + s2.size ≤ 9223372036854775807 := by omega
  clear z1 z2
  simp only []
  go_wp2_with fail
  go_ret
  exact ⟨⟨_, rfl, by rw [nums_append, h1, h2, HE.out]⟩, rfl⟩
theorem tens_nat : ∀ (f m : Nat) (w : World), m ≤ f → m ≤ 9223372036854775807 → Calls Tryd.prog 75 #[.int .i64 (m : Int)] w fun e w' => TnP (J.natT m) w e w' := by
  intro f
  induction f with
  | zero => intro m w h _; exact tens_digit m (by omega) w
  | succ f ih =>
    intro m w h hb
    by_cases h0 : m ≤ f
    · exact ih m w h0 hb
    exact tens_big f (fun m' w' h' => ih m' w' h' (by omega)) m h hb w
set_option maxHeartbeats 1000000 in
theorem tens_neg (f : Nat) (ih : ∀ (m : Nat) (w : World), 1 ≤ m → m ≤ f → Calls Tryd.prog 75 #[.int .i64 (-(m : Int))] w fun e w' => TnP (45 :: J.natT m) w e w') (m : Nat) (h1 : 1 ≤ m) (hm : m ≤ f + 1) (hb : m ≤ 9223372036854775808) (w : World) :
    Calls Tryd.prog 75 #[.int .i64 (-(m : Int))] w fun e w' => TnP (45 :: J.natT m) w e w' := by
  by_cases h : m < 10
  · have A1 := tens_digit m h w
    have h0 : -(m : Int) < 0 := by omega
    have h1a : -(m : Int) > -10 := by omega
    have h1b : (-10 : Int) < -(m : Int) := by omega
    have h1c : (m : Int) < 10 := by omega
    have d0 : -(-(m : Int)) = (m : Int) := by omega
    have d1 : (0 : Int) ≤ (m : Int) := by omega
    clear h h1 hm hb ih
    go_enter Tryd.func75, Tryd.ntmps75
    go_wp2_with fail
    refine A1.mono ?_
    rintro e w1 ⟨⟨s1, rfl, h1⟩, rfl⟩
    have z1 := size_19 h1 (by omega)
    have z3 : 1 + (s1.size : Int) ≤ 9223372036854775807 := by omega
    have z4 : 1 + s1.size ≤ 9223372036854775807 := by omega
    have z5 : (⟨#[45]⟩ : ByteArray).size + s1.size ≤ 9223372036854775807 := z4
    clear z1
    simp only []
    go_wp2_with fail
    go_ret
    exact ⟨⟨_, rfl, by rw [nums_append, h1]; rfl⟩, rfl⟩
  obtain ⟨q, hq⟩ : ∃ q, m / 10 = q := ⟨_, rfl⟩
  obtain ⟨r, hr⟩ : ∃ r, m % 10 = r := ⟨_, rfl⟩
  have A1 := ih q w (by omega) (by omega)
  have B1 := tens_digit r (by omega) w
  have SZ : ∀ s : ByteArray, numsOf s = 45 :: J.natT q → s.size ≤ 20 := fun s hs => size_20 hs (by omega)
  have HE : Hid (J.natT m = J.natT q ++ J.natT r) := by show _ = _; rw [nat_more h, nat_small (by omega : r < 10), hq, hr]
  obtain ⟨M, hM⟩ : ∃ M : Int, -(m : Int) = M := ⟨_, rfl⟩
  obtain ⟨Q, hQ⟩ : ∃ Q : Int, -(q : Int) = Q := ⟨_, rfl⟩
  have h0 : M < 0 := by omega
  have h1a : ¬ M > -10 := by omega
  have h1b : ¬ (-10 : Int) < M := by omega
  have d3 : M.tdiv 10 = Q := by rw [← hM, ← hQ, Int.neg_tdiv, Int.tdiv_eq_ediv_of_nonneg (by omega)]; omega
  have d4 : M.tmod 10 = -(r : Int) := by rw [← hM, Int.neg_tmod, Int.tmod_eq_emod_of_nonneg (by omega)]; omega
  have d5 : -(-(r : Int)) = (r : Int) := by omega
  have b1 : -9223372036854775808 ≤ Q := by omega
  have b1a : Q < 0 := by omega
  have b2 : (r : Int) < 10 := by omega
  have b4 : (0 : Int) ≤ (r : Int) := by omega
  have b5 : -9223372036854775808 ≤ M := by omega
  rw [hQ] at A1
  rw [hM]
  clear h hq hr hm hb ih h1 hM hQ
  go_enter Tryd.func75, Tryd.ntmps75
  go_wp2_with fail
  refine A1.mono ?_
  rintro e w1 ⟨⟨s1, rfl, h1⟩, rfl⟩
  simp only []
  go_wp2_with fail
  refine B1.mono ?_
  rintro e w2 ⟨⟨s2, rfl, h2⟩, rfl⟩
  have z1 := SZ s1 h1
  have z2 := size_19 h2 (by omega)
  have z3 : (s1.size : Int) + (s2.size : Int) ≤ 9223372036854775807 := by omega
  have z4 : s1.size + s2.size ≤ 9223372036854775807 := by omega
  clear z1 z2
  simp only []
  go_wp2_with fail
  go_ret
  exact ⟨⟨_, rfl, by rw [nums_append, h1, h2, HE.out]; rfl⟩, rfl⟩
theorem tens_minus : ∀ (f m : Nat) (w : World), 1 ≤ m → m ≤ f → m ≤ 9223372036854775808 → Calls Tryd.prog 75 #[.int .i64 (-(m : Int))] w fun e w' => TnP (45 :: J.natT m) w e w' := by
  intro f
  induction f with
  | zero => intro m w h h1 _; omega
  | succ f ih =>
    intro m w h1 h hb
    by_cases h0 : m ≤ f
    · exact ih m w h1 h0 hb
    exact tens_neg f (fun m' w' h1' h' => ih m' w' h1' h' (by omega)) m h1 h hb w
theorem dTens_any (n : Int) (h : J.Rng n) (w : World) : Calls Tryd.prog 75 #[.int .i64 n] w fun e w' => TnP (J.intT n) w e w' := by
  unfold J.Rng at h
  unfold J.intT
  by_cases hn : n < 0
  · rw [if_pos hn]
    have := tens_minus n.natAbs n.natAbs w (by omega) (Nat.le_refl _) (by omega)
    rw [show -(n.natAbs : Int) = n by omega] at this
    exact this
  · rw [if_neg hn]
    have := tens_nat n.natAbs n.natAbs w (Nat.le_refl _) (by omega)
    rw [show (n.natAbs : Int) = n by omega] at this
    exact this
end Go.Proofs.YtblnoekogdpolaaDoor
