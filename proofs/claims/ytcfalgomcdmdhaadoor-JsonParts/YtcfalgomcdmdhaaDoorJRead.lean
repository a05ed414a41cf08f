import Derived.Test.YtcfalgomcdmdhaaDoorJFed
namespace Go.Proofs.YtcfalgomcdmdhaaDoor.J
theorem may_not {x c : Nat} {m : List Nat} (h : c ≠ x) : may x (c :: m) = .ok false (c :: m) := by
  simp [may, sw, h, Rd.pure]
theorem may_is (x : Nat) (m : List Nat) : may x (x :: m) = .ok true m := by
  simp [may, sw, Rd.pure]
def Rng (n : Int) : Prop := -9223372036854775808 ≤ n ∧ n ≤ 9223372036854775807
inductive Fm : List Nat → Prop where
  | nil : Fm []
  | low (c : Nat) (s : List Nat) : c < 128 → Fm s → Fm (c :: s)
  | high (p s : List Nat) : (∀ m, char (p ++ m) = .ok () m) → (∀ c ∈ p, 128 ≤ c) → p ≠ [] → Fm s → Fm (p ++ s)
end Go.Proofs.YtcfalgomcdmdhaaDoor.J
namespace Go.Proofs.YtcfalgomcdmdhaaDoor.J
end Go.Proofs.YtcfalgomcdmdhaaDoor.J
namespace Go.Proofs.YtcfalgomcdmdhaaDoor.J
theorem char_go2 {c x : Nat} (h1 : 194 ≤ c) (h2 : c < 224) (h3 : 128 ≤ x) (h4 : x ≤ 191) (m : List Nat) :
    char ([c, x] ++ m) = .ok () m := by
  have e1 : lowC c = 128 := by unfold lowC; rw [if_neg (by omega), if_neg (by omega)]
  have e2 : highC c = 191 := by unfold highC; rw [if_neg (by omega), if_neg (by omega)]
  simp only [char, List.cons_append, List.nil_append]
  rw [then_go (need_go (by omega)), then_go (need_go (by rw [e1, e2]; omega))]
  simp [show ¬ 224 ≤ c by omega, show ¬ 240 ≤ c by omega, Rd.then, Rd.pure]
theorem char_go3 {c x y : Nat} (h1 : 224 ≤ c) (h2 : c < 240) (h3 : lowC c ≤ x) (h4 : x ≤ highC c) (h5 : 128 ≤ y) (h6 : y ≤ 191)
    (m : List Nat) : char ([c, x, y] ++ m) = .ok () m := by
  simp only [char, List.cons_append, List.nil_append]
  rw [then_go (need_go (by omega)), then_go (need_go ⟨h3, h4⟩)]
  simp only [h1, decide_true, if_true, show ¬ 240 ≤ c by omega, decide_false, Bool.false_eq_true, if_false]
  rw [then_go (need_go ⟨h5, h6⟩)]
  rfl
theorem char_go4 {c x y z : Nat} (h1 : 240 ≤ c) (h2 : c ≤ 244) (h3 : lowC c ≤ x) (h4 : x ≤ highC c) (h5 : 128 ≤ y) (h6 : y ≤ 191)
    (h7 : 128 ≤ z) (h8 : z ≤ 191) (m : List Nat) : char ([c, x, y, z] ++ m) = .ok () m := by
  simp only [char, List.cons_append, List.nil_append]
  rw [then_go (need_go (by omega)), then_go (need_go ⟨h3, h4⟩)]
  simp only [show 224 ≤ c by omega, decide_true, if_true, h1]
  rw [then_go (need_go ⟨h5, h6⟩), then_go (need_go ⟨h7, h8⟩)]
  rfl
theorem low_le (c : Nat) : 128 ≤ lowC c := by unfold lowC; repeat' split
                                              all_goals omega
theorem high_le (c : Nat) : highC c ≤ 191 := by unfold highC; repeat' split
                                                all_goals omega
theorem char_ok {l r : List Nat} (h : char l = .ok () r) :
    ∃ p, l = p ++ r ∧ (∀ m, char (p ++ m) = .ok () m) ∧ (∀ c ∈ p, 128 ≤ c) ∧ p ≠ [] := by
  unfold char at h
  obtain ⟨c, m1, h1, h⟩ := then_ok h
  obtain ⟨x, m2, h2, h⟩ := then_ok h
  obtain ⟨y, m3, h3, h⟩ := then_ok h
  obtain ⟨z, m4, h4, h⟩ := then_ok h
  obtain ⟨_, rfl⟩ := pure_ok h
  obtain ⟨rfl, a1, a2⟩ := need_ok h1
  obtain ⟨rfl, b1, b2⟩ := need_ok h2
  have := low_le c
  have := high_le c
  by_cases g1 : 224 ≤ c
  · simp only [g1, decide_true, if_true] at h3
    obtain ⟨rfl, c1, c2⟩ := need_ok h3
    by_cases g2 : 240 ≤ c
    · simp only [g2, decide_true, if_true] at h4
      obtain ⟨rfl, d1, d2⟩ := need_ok h4
      refine ⟨[c, x, y, z], rfl, char_go4 g2 a2 b1 b2 c1 c2 d1 d2, ?_, by simp⟩
      intro k hk; simp at hk; omega
    · simp only [g2, decide_false, Bool.false_eq_true, if_false] at h4
      obtain ⟨_, rfl⟩ := pure_ok h4
      refine ⟨[c, x, y], rfl, char_go3 g1 (by omega) b1 b2 c1 c2, ?_, by simp⟩
      intro k hk; simp at hk; omega
  · have g2 : ¬ 240 ≤ c := by omega
    simp only [g1, decide_false, Bool.false_eq_true, if_false] at h3
    simp only [g2, decide_false, Bool.false_eq_true, if_false] at h4
    obtain ⟨_, rfl⟩ := pure_ok h3
    obtain ⟨_, rfl⟩ := pure_ok h4
    refine ⟨[c, x], rfl, char_go2 a1 (by omega) (by omega) (by omega), ?_, by simp⟩
    intro k hk; simp at hk; omega
theorem may_ok {x : Nat} {b : Bool} {l r : List Nat} (h : may x l = .ok b r) : (b = true ∧ l = x :: r) ∨ (b = false ∧ l = r) := by
  cases l with
  | nil =>
    simp only [may, sw, Res.ok.injEq] at h
    exact .inr ⟨h.1.symm, h.2⟩
  | cons c l =>
    by_cases e : c = x
    · subst e
      rw [may_is] at h
      simp only [Res.ok.injEq] at h
      exact .inl ⟨h.1.symm, by rw [h.2]⟩
    · rw [may_not e] at h
      simp only [Res.ok.injEq] at h
      exact .inr ⟨h.1.symm, h.2⟩
theorem digits_ok {l r : List Nat} (h : digits l = .ok () r) : ∃ ds, l = ds ++ r ∧ ds ≠ [] ∧ ∀ x ∈ ds, isDig x = true := by
  unfold digits at h
  obtain ⟨c, m, h1, h2⟩ := then_ok h
  obtain ⟨rfl, a1, a2⟩ := need_ok h1
  simp only [skip, Res.ok.injEq, true_and] at h2
  refine ⟨c :: m.takeWhile isDig, ?_, by simp, ?_⟩
  · rw [← h2, List.cons_append, List.takeWhile_append_dropWhile]
  · intro x hx
    rcases List.mem_cons.1 hx with rfl | hx
    · simp [isDig]; omega
    · have : ∀ (m : List Nat), x ∈ m.takeWhile isDig → isDig x = true := by
        intro m
        induction m with
        | nil => simp
        | cons y m ih =>
          intro hx
          by_cases hy : isDig y = true
          · simp only [List.takeWhile_cons, hy, if_true, List.mem_cons] at hx
            rcases hx with rfl | hx
            · exact hy
            · exact ih hx
          · simp [hy] at hx
      exact this m hx
theorem numE_whole {p : Bool} {l r : List Nat} (h : numE p l = .ok true r) : p = false ∧ l = r := by
  unfold numE at h
  obtain ⟨e1, m1, h1, h⟩ := then_ok h
  obtain ⟨e, m2, h2, h⟩ := then_ok h
  obtain ⟨_, m3, h3, h⟩ := then_ok h
  obtain ⟨a1, a2⟩ := pure_ok h
  have hp : p = false ∧ e = false := by cases p <;> cases e <;> simp_all
  obtain ⟨rfl, rfl⟩ := hp
  refine ⟨rfl, ?_⟩
  cases e1 with
  | true =>
    simp only [if_true] at h2
    have := (pure_ok h2).1
    cases this
  | false =>
    simp only [Bool.false_eq_true, if_false] at h2 h3
    rcases may_ok h1 with ⟨hx, _⟩ | ⟨_, rfl⟩
    · cases hx
    rcases may_ok h2 with ⟨hx, _⟩ | ⟨_, rfl⟩
    · cases hx
    rw [(pure_ok h3).2, a2]
theorem numB_whole {l r : List Nat} (h : numB l = .ok true r) :
    ∃ ds, ds ≠ [] ∧ (∀ x ∈ ds, isDig x = true) ∧ (l = ds ++ r ∨ l = 45 :: (ds ++ r)) := by
  unfold numB at h
  obtain ⟨b, m1, h1, h⟩ := then_ok h
  obtain ⟨z, m2, h2, h⟩ := then_ok h
  obtain ⟨_, m3, h3, h⟩ := then_ok h
  unfold numP at h
  obtain ⟨p, m4, h4, h⟩ := then_ok h
  obtain ⟨_, m5, h5, h⟩ := then_ok h
  obtain ⟨rfl, rfl⟩ := numE_whole h
  simp only [Bool.false_eq_true, if_false] at h5
  obtain ⟨_, rfl⟩ := pure_ok h5
  rcases may_ok h4 with ⟨hx, _⟩ | ⟨_, rfl⟩
  · cases hx
  have : ∃ ds, m1 = ds ++ m3 ∧ ds ≠ [] ∧ ∀ x ∈ ds, isDig x = true := by
    cases z with
    | true =>
      simp only [if_true] at h3
      obtain ⟨_, rfl⟩ := pure_ok h3
      rcases may_ok h2 with ⟨_, rfl⟩ | ⟨hx, _⟩
      · exact ⟨[48], rfl, by simp, by simp [isDig]⟩
      · cases hx
    | false =>
      simp only [Bool.false_eq_true, if_false] at h3
      rcases may_ok h2 with ⟨hx, _⟩ | ⟨_, rfl⟩
      · cases hx
      · exact digits_ok h3
  obtain ⟨ds, rfl, d1, d2⟩ := this
  refine ⟨ds, d1, d2, ?_⟩
  rcases may_ok h1 with ⟨_, rfl⟩ | ⟨_, rfl⟩
  · exact .inr rfl
  · exact .inl rfl
end Go.Proofs.YtcfalgomcdmdhaaDoor.J
