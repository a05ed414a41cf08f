/-
  What is read may be written, and what is written is no longer than what was read.
-/
import Derived.Test.YtkcmidhpbaepoaaDoorJBack
namespace Go.Proofs.YtkcmidhpbaepoaaDoor.J

theorem char_go2 {c x : Nat} (h1 : 194 ≤ c) (h2 : c < 224) (h3 : 128 ≤ x) (h4 : x ≤ 191) (m : List Nat) :
    char ([c, x] ++ m) = .ok () m := by
  have e1 : lowC c = 128 := by unfold lowC; rw [if_neg (by omega), if_neg (by omega)]
  have e2 : highC c = 191 := by unfold highC; rw [if_neg (by omega), if_neg (by omega)]
  simp only [char, List.cons_append, List.nil_append]
  rw [then_go (need_go (by omega)), then_go (need_go (by rw [e1, e2]; omega))]
  simp [show ¬ 224 ≤ c by omega, show ¬ 240 ≤ c by omega, Rd.then, Rd.pure]

theorem char_go3 {c x y : Nat} (h1 : 224 ≤ c) (h2 : c < 240) (h3 : lowC c ≤ x) (h4 : x ≤ highC c) (h5 : 128 ≤ y) (h6 : y ≤ 191)
    (m : List Nat) : char ([c, x, y] ++ m) = .ok () m := by
  simp only [char, List.cons_append, List.nil_append]
  rw [then_go (need_go (by omega)), then_go (need_go ⟨h3, h4⟩)]
  simp only [h1, decide_true, if_true, show ¬ 240 ≤ c by omega, decide_false, Bool.false_eq_true, if_false]
  rw [then_go (need_go ⟨h5, h6⟩)]
  rfl

theorem char_go4 {c x y z : Nat} (h1 : 240 ≤ c) (h2 : c ≤ 244) (h3 : lowC c ≤ x) (h4 : x ≤ highC c) (h5 : 128 ≤ y) (h6 : y ≤ 191)
    (h7 : 128 ≤ z) (h8 : z ≤ 191) (m : List Nat) : char ([c, x, y, z] ++ m) = .ok () m := by
  simp only [char, List.cons_append, List.nil_append]
  rw [then_go (need_go (by omega)), then_go (need_go ⟨h3, h4⟩)]
  simp only [show 224 ≤ c by omega, decide_true, if_true, h1]
  rw [then_go (need_go ⟨h5, h6⟩), then_go (need_go ⟨h7, h8⟩)]
  rfl

theorem low_le (c : Nat) : 128 ≤ lowC c := by unfold lowC; repeat' split
                                              all_goals omega

theorem high_le (c : Nat) : highC c ≤ 191 := by unfold highC; repeat' split
                                                all_goals omega

/-- a character as it stands: these bytes, whatever stands behind -/
theorem char_ok {l r : List Nat} (h : char l = .ok () r) :
    ∃ p, l = p ++ r ∧ (∀ m, char (p ++ m) = .ok () m) ∧ (∀ c ∈ p, 128 ≤ c) ∧ p ≠ [] := by
  unfold char at h
  obtain ⟨c, m1, h1, h⟩ := then_ok h
  obtain ⟨x, m2, h2, h⟩ := then_ok h
  obtain ⟨y, m3, h3, h⟩ := then_ok h
  obtain ⟨z, m4, h4, h⟩ := then_ok h
  obtain ⟨_, rfl⟩ := pure_ok h
  obtain ⟨rfl, a1, a2⟩ := need_ok h1
  obtain ⟨rfl, b1, b2⟩ := need_ok h2
  have := low_le c
  have := high_le c
  by_cases g1 : 224 ≤ c
  · simp only [g1, decide_true, if_true] at h3
    obtain ⟨rfl, c1, c2⟩ := need_ok h3
    by_cases g2 : 240 ≤ c
    · simp only [g2, decide_true, if_true] at h4
      obtain ⟨rfl, d1, d2⟩ := need_ok h4
      refine ⟨[c, x, y, z], rfl, char_go4 g2 a2 b1 b2 c1 c2 d1 d2, ?_, by simp⟩
      intro k hk; simp at hk; omega
    · simp only [g2, decide_false, Bool.false_eq_true, if_false] at h4
      obtain ⟨_, rfl⟩ := pure_ok h4
      refine ⟨[c, x, y], rfl, char_go3 g1 (by omega) b1 b2 c1 c2, ?_, by simp⟩
      intro k hk; simp at hk; omega
  · have g2 : ¬ 240 ≤ c := by omega
    simp only [g1, decide_false, Bool.false_eq_true, if_false] at h3
    simp only [g2, decide_false, Bool.false_eq_true, if_false] at h4
    obtain ⟨_, rfl⟩ := pure_ok h3
    obtain ⟨_, rfl⟩ := pure_ok h4
    refine ⟨[c, x], rfl, char_go2 a1 (by omega) (by omega) (by omega), ?_, by simp⟩
    intro k hk; simp at hk; omega

theorem esc_short (c : Nat) : (esc c).length ≤ 6 := by
  unfold esc
  repeat' split
  all_goals simp

theorem qbody_high {p : List Nat} (h : ∀ c ∈ p, 128 ≤ c) : qbody p = p := by
  unfold qbody
  induction p with
  | nil => rfl
  | cons c p ih =>
    have h1 := h c (by simp)
    rw [List.flatMap_cons, ih fun c hc => h c (by simp [hc]), esc_high (by omega) (by omega) (by omega)]
    rfl

/-- a character that may be -/
def Chr (n : Nat) : Prop := n < 55296 ∨ (57343 < n ∧ n ≤ 1114111)

theorem utf8_fm {n : Nat} (h : Chr n) {s : List Nat} (hs : Fm s) : Fm (utf8 n ++ s) := by
  unfold Chr at h
  unfold utf8
  split
  · exact Fm.low n s (by omega) hs
  · split
    · refine Fm.high _ s (char_go2 (by omega) (by omega) (by omega) (by omega)) ?_ (by simp) hs
      intro c hc; simp at hc; omega
    · split
      · refine Fm.high _ s (char_go3 (by omega) (by omega) ?_ ?_ (by omega) (by omega)) ?_ (by simp) hs
        · unfold lowC; split
          · omega
          · split <;> omega
        · unfold highC; split
          · omega
          · split <;> omega
        · intro c hc; simp at hc; omega
      · refine Fm.high _ s (char_go4 (by omega) (by omega) ?_ ?_ (by omega) (by omega) (by omega) (by omega)) ?_ (by simp) hs
        · unfold lowC; split
          · omega
          · split <;> omega
        · unfold highC; split
          · omega
          · split <;> omega
        · intro c hc; simp at hc; omega

theorem hexW_lt {c x : Nat} (h : hexW c = some x) : x < 16 := by
  unfold hexW at h
  repeat' split at h
  all_goals first | (simp at h; omega) | simp at h

theorem sixteen_ok {low high x : Nat} {l r : List Nat} (h : sixteen low high l = .ok x r) :
    l.length = r.length + 1 ∧ low ≤ x ∧ x ≤ high ∧ x < 16 := by
  cases l with
  | nil => simp [sixteen, sw] at h
  | cons c l =>
    simp only [sixteen, sw] at h
    cases hc : hexW c with
    | none => simp [hc] at h
    | some y =>
      simp only [hc] at h
      by_cases hy : low ≤ y ∧ y ≤ high
      · simp only [hy, and_self, if_true, Rd.pure, Res.ok.injEq] at h
        obtain ⟨rfl, rfl⟩ := h
        exact ⟨by simp, hy.1, hy.2, hexW_lt hc⟩
      · simp [hy] at h

theorem unit_ok {n : Nat} {l r : List Nat} (h : unit l = .ok n r) : l.length = r.length + 4 ∧ n ≤ 65535 ∧ ¬ (56320 ≤ n ∧ n ≤ 57343) := by
  unfold unit at h
  obtain ⟨a, m1, h1, h⟩ := then_ok h
  obtain ⟨b, m2, h2, h⟩ := then_ok h
  obtain ⟨c, m3, h3, h⟩ := then_ok h
  obtain ⟨d, m4, h4, h⟩ := then_ok h
  obtain ⟨rfl, rfl⟩ := pure_ok h
  have a1 := sixteen_ok h1
  have a2 := sixteen_ok h2
  have a3 := sixteen_ok h3
  have a4 := sixteen_ok h4
  refine ⟨by omega, by omega, ?_⟩
  by_cases ha : a = 13
  · simp only [ha, if_true] at a2; omega
  · omega

theorem pairOr_ok {n x : Nat} {l r : List Nat} (hn : n ≤ 65535 ∧ ¬ (56320 ≤ n ∧ n ≤ 57343)) (h : pairOr n l = .ok x r) :
    r.length ≤ l.length ∧ Chr x := by
  refine ⟨(Good.pairOr n).le h, ?_⟩
  unfold pairOr at h
  split at h
  · obtain ⟨rfl, _⟩ := pure_ok h
    unfold Chr; omega
  · unfold second at h
    obtain ⟨_, m0, h0, h⟩ := then_ok h
    obtain ⟨a, m1, h1, h⟩ := then_ok h
    obtain ⟨b, m2, h2, h⟩ := then_ok h
    obtain ⟨c, m3, h3, h⟩ := then_ok h
    obtain ⟨d, m4, h4, h⟩ := then_ok h
    obtain ⟨rfl, rfl⟩ := pure_ok h
    have a2 := sixteen_ok h2
    have a3 := sixteen_ok h3
    have a4 := sixteen_ok h4
    unfold Chr; omega

theorem utf8_short (n : Nat) : (qbody (utf8 n)).length ≤ 6 ∧ (128 ≤ n → (qbody (utf8 n)).length ≤ 4) := by
  by_cases h : n < 128
  · have : qbody (utf8 n) = esc n := by simp [qbody, utf8, h]
    rw [this]
    exact ⟨esc_short n, by omega⟩
  · have hp : ∀ c ∈ utf8 n, 128 ≤ c := by
      intro c hc
      unfold utf8 at hc
      rw [if_neg h] at hc
      repeat' split at hc
      all_goals (simp at hc; omega)
    rw [qbody_high hp]
    have : (utf8 n).length ≤ 4 := by
      unfold utf8
      repeat' split
      all_goals simp
    omega

theorem escaped_ok {x : Nat} {l r : List Nat} (h : escaped l = .ok x r) : Chr x ∧ (qbody (utf8 x)).length + r.length ≤ l.length + 1 := by
  cases l with
  | nil => simp [escaped, sw] at h
  | cons c l =>
    simp only [escaped, sw] at h
    cases hc : sign c with
    | some y =>
      simp only [hc] at h
      obtain ⟨rfl, rfl⟩ := pure_ok h
      have : y = 34 ∨ y = 92 ∨ y = 47 ∨ y = 8 ∨ y = 12 ∨ y = 10 ∨ y = 13 ∨ y = 9 := by
        unfold sign at hc
        repeat' split at hc
        all_goals first | (simp at hc; omega) | simp at hc
      refine ⟨by unfold Chr; omega, ?_⟩
      rcases this with rfl | rfl | rfl | rfl | rfl | rfl | rfl | rfl <;> simp [qbody, utf8, esc] <;> omega
    | none =>
      simp only [hc] at h
      by_cases hu : c = 117
      · simp only [hu, if_true] at h
        obtain ⟨n, m, h1, h2⟩ := then_ok h
        have a1 := unit_ok h1
        have a2 := pairOr_ok a1.2 h2
        have a3 := (utf8_short x).1
        simp only [List.length_cons]
        exact ⟨a2.2, by omega⟩
      · simp [hu] at h

/-- a text that was read is well-formed, new, and no longer when it is written -/
theorem textN_ok (ns : List (List Nat)) (n : Nat) : ∀ o l s r, textN ns n o l = .ok s r →
    ∃ s', s = o ++ s' ∧ Fm s' ∧ s ∉ ns ∧ (qbody s').length + 1 + r.length ≤ l.length := by
  induction n with
  | zero => intro o l s r h; simp [textN] at h
  | succ n ih =>
    intro o l s r h
    cases l with
    | nil => simp [textN, sw] at h
    | cons c l =>
      simp only [textN, sw] at h
      by_cases h1 : c < 32
      · simp [h1] at h
      by_cases h2 : c = 34
      · subst h2
        by_cases h3 : o ∈ ns
        · simp [h3] at h
        · simp only [h1, h3, if_false, if_true] at h
          obtain ⟨rfl, rfl⟩ := pure_ok h
          exact ⟨[], by simp, Fm.nil, h3, by simp [qbody]; omega⟩
      by_cases h3 : c = 92
      · subst h3
        simp only [h1, h2, if_false, if_true] at h
        obtain ⟨x, m, h4, h5⟩ := then_ok h
        obtain ⟨a1, a2⟩ := escaped_ok h4
        obtain ⟨s', rfl, b1, b2, b3⟩ := ih _ _ _ _ h5
        refine ⟨utf8 x ++ s', by simp, utf8_fm a1 b1, b2, ?_⟩
        simp only [qbody, List.flatMap_append, List.length_append, List.length_cons] at a2 b3 ⊢
        omega
      by_cases h4 : c < 128
      · simp only [h1, h2, h3, h4, if_false, if_true] at h
        obtain ⟨s', rfl, b1, b2, b3⟩ := ih _ _ _ _ h
        refine ⟨c :: s', by simp, Fm.low c s' h4 b1, b2, ?_⟩
        simp only [qbody, List.flatMap_cons, esc_high h1 h2 h3, List.length_append, List.length_cons, List.length_nil] at b3 ⊢
        omega
      · simp only [h1, h2, h3, h4, if_false] at h
        obtain ⟨q, m, h5, h6⟩ := then_ok h
        obtain ⟨c1, c2⟩ := seen_ok Good.char h5
        obtain ⟨p, d1, d2, d3, d4⟩ := char_ok c1
        obtain rfl : q.2 = p := List.append_cancel_right (c2.symm.trans d1)
        obtain ⟨s', rfl, b1, b2, b3⟩ := ih _ _ _ _ h6
        refine ⟨q.2 ++ s', by simp, Fm.high _ s' d2 d3 d4 b1, b2, ?_⟩
        rw [c2]
        have := qbody_high d3
        simp only [qbody, List.flatMap_append, List.length_append] at this b3 ⊢
        rw [this]
        omega

theorem text_ok {F : Nat} {ns : List (List Nat)} {l s r : List Nat} (h : text F ns l = .ok s r) :
    Fm s ∧ s ∉ ns ∧ (quoted s).length + r.length ≤ l.length := by
  unfold text at h
  obtain ⟨c, m, h1, h2⟩ := then_ok h
  obtain ⟨rfl, _⟩ := need_ok h1
  obtain ⟨s', rfl, b1, b2, b3⟩ := textN_ok _ _ _ _ _ _ h2
  refine ⟨by simpa using b1, by simpa using b2, ?_⟩
  simp only [quoted, List.length_cons, List.length_append, List.length_nil]
  omega

/-! numbers -/

theorem natT_one {a e : Nat} (he : e ≤ 9) : (natT (10 * a + e)).length ≤ (natT a).length + 1 := by
  conv => lhs; unfold natT
  split
  · simp
  · rw [show (10 * a + e) / 10 = a by omega]; simp

theorem natT_fold (ds : List Nat) (h : ∀ x ∈ ds, isDig x = true) : ∀ a,
    (natT (ds.foldl (fun n d => 10 * n + (d - 48)) a)).length ≤ (natT a).length + ds.length := by
  induction ds with
  | nil => intro a; simp
  | cons d ds ih =>
    intro a
    have hd := h d (by simp)
    simp [isDig] at hd
    have h1 := ih (fun x hx => h x (by simp [hx])) (10 * a + (d - 48))
    have h2 := natT_one (a := a) (e := d - 48) (by omega)
    simp only [List.foldl_cons, List.length_cons]
    omega

theorem natT_len {ds : List Nat} (h : ∀ x ∈ ds, isDig x = true) (hn : ds ≠ []) : (natT (tens ds)).length ≤ ds.length := by
  cases ds with
  | nil => exact absurd rfl hn
  | cons d ds =>
    have hd := h d (by simp)
    simp [isDig] at hd
    have h1 := natT_fold ds (fun x hx => h x (by simp [hx])) (10 * 0 + (d - 48))
    have h2 : (natT (10 * 0 + (d - 48))).length = 1 := by
      unfold natT
      rw [dif_pos (by omega)]; rfl
    simp only [tens, List.foldl_cons, List.length_cons]
    omega

theorem may_ok {x : Nat} {b : Bool} {l r : List Nat} (h : may x l = .ok b r) : (b = true ∧ l = x :: r) ∨ (b = false ∧ l = r) := by
  cases l with
  | nil =>
    simp only [may, sw, Res.ok.injEq] at h
    exact .inr ⟨h.1.symm, h.2⟩
  | cons c l =>
    by_cases e : c = x
    · subst e
      rw [may_is] at h
      simp only [Res.ok.injEq] at h
      exact .inl ⟨h.1.symm, by rw [h.2]⟩
    · rw [may_not e] at h
      simp only [Res.ok.injEq] at h
      exact .inr ⟨h.1.symm, h.2⟩

theorem digits_ok {l r : List Nat} (h : digits l = .ok () r) : ∃ ds, l = ds ++ r ∧ ds ≠ [] ∧ ∀ x ∈ ds, isDig x = true := by
  unfold digits at h
  obtain ⟨c, m, h1, h2⟩ := then_ok h
  obtain ⟨rfl, a1, a2⟩ := need_ok h1
  simp only [skip, Res.ok.injEq, true_and] at h2
  refine ⟨c :: m.takeWhile isDig, ?_, by simp, ?_⟩
  · rw [← h2, List.cons_append, List.takeWhile_append_dropWhile]
  · intro x hx
    rcases List.mem_cons.1 hx with rfl | hx
    · simp [isDig]; omega
    · have : ∀ (m : List Nat), x ∈ m.takeWhile isDig → isDig x = true := by
        intro m
        induction m with
        | nil => simp
        | cons y m ih =>
          intro hx
          by_cases hy : isDig y = true
          · simp only [List.takeWhile_cons, hy, if_true, List.mem_cons] at hx
            rcases hx with rfl | hx
            · exact hy
            · exact ih hx
          · simp [hy] at hx
      exact this m hx

theorem numE_whole {p : Bool} {l r : List Nat} (h : numE p l = .ok true r) : p = false ∧ l = r := by
  unfold numE at h
  obtain ⟨e1, m1, h1, h⟩ := then_ok h
  obtain ⟨e, m2, h2, h⟩ := then_ok h
  obtain ⟨_, m3, h3, h⟩ := then_ok h
  obtain ⟨a1, a2⟩ := pure_ok h
  have hp : p = false ∧ e = false := by cases p <;> cases e <;> simp_all
  obtain ⟨rfl, rfl⟩ := hp
  refine ⟨rfl, ?_⟩
  cases e1 with
  | true =>
    simp only [if_true] at h2
    have := (pure_ok h2).1
    cases this
  | false =>
    simp only [Bool.false_eq_true, if_false] at h2 h3
    rcases may_ok h1 with ⟨hx, _⟩ | ⟨_, rfl⟩
    · cases hx
    rcases may_ok h2 with ⟨hx, _⟩ | ⟨_, rfl⟩
    · cases hx
    rw [(pure_ok h3).2, a2]

/-- a whole number: a minus or none, and digits -/
theorem numB_whole {l r : List Nat} (h : numB l = .ok true r) :
    ∃ ds, ds ≠ [] ∧ (∀ x ∈ ds, isDig x = true) ∧ (l = ds ++ r ∨ l = 45 :: (ds ++ r)) := by
  unfold numB at h
  obtain ⟨b, m1, h1, h⟩ := then_ok h
  obtain ⟨z, m2, h2, h⟩ := then_ok h
  obtain ⟨_, m3, h3, h⟩ := then_ok h
  unfold numP at h
  obtain ⟨p, m4, h4, h⟩ := then_ok h
  obtain ⟨_, m5, h5, h⟩ := then_ok h
  obtain ⟨rfl, rfl⟩ := numE_whole h
  simp only [Bool.false_eq_true, if_false] at h5
  obtain ⟨_, rfl⟩ := pure_ok h5
  rcases may_ok h4 with ⟨hx, _⟩ | ⟨_, rfl⟩
  · cases hx
  have : ∃ ds, m1 = ds ++ m3 ∧ ds ≠ [] ∧ ∀ x ∈ ds, isDig x = true := by
    cases z with
    | true =>
      simp only [if_true] at h3
      obtain ⟨_, rfl⟩ := pure_ok h3
      rcases may_ok h2 with ⟨_, rfl⟩ | ⟨hx, _⟩
      · exact ⟨[48], rfl, by simp, by simp [isDig]⟩
      · cases hx
    | false =>
      simp only [Bool.false_eq_true, if_false] at h3
      rcases may_ok h2 with ⟨hx, _⟩ | ⟨_, rfl⟩
      · cases hx
      · exact digits_ok h3
  obtain ⟨ds, rfl, d1, d2⟩ := this
  refine ⟨ds, d1, d2, ?_⟩
  rcases may_ok h1 with ⟨_, rfl⟩ | ⟨_, rfl⟩
  · exact .inr rfl
  · exact .inl rfl

theorem intT_len {s ds : List Nat} (h1 : ds ≠ []) (h2 : ∀ x ∈ ds, isDig x = true) (hs : s = ds ∨ s = 45 :: ds) :
    (intT (intOf s)).length ≤ s.length := by
  have h3 := natT_len h2 h1
  rcases hs with rfl | rfl
  · have : intOf s = tens s := by
      cases s with
      | nil => exact absurd rfl h1
      | cons d ds =>
        have hd := h2 d (by simp)
        unfold intOf
        split
        · rename_i h; simp at h; rw [h.1] at hd; simp [isDig] at hd
        · rfl
    rw [this]
    simp only [intT, show ¬ ((tens s : Int) < 0) by omega, if_false, Int.natAbs_natCast]
    exact h3
  · show (intT (-(tens ds : Int))).length ≤ _
    unfold intT
    split
    · simp only [Int.natAbs_neg, Int.natAbs_natCast, List.length_cons]; omega
    · simp only [Int.natAbs_neg, Int.natAbs_natCast, List.length_cons]; omega

theorem number_ok {l r : List Nat} {v : JV} (h : number l = .ok v r) (d : Nat) : Wf v d ∧ (written v).length + r.length ≤ l.length := by
  unfold number at h
  obtain ⟨⟨w, s⟩, m, h1, h2⟩ := then_ok h
  obtain ⟨rfl, rfl⟩ := pure_ok h2
  obtain ⟨a1, a2⟩ := seen_ok Good.numB h1
  simp only at a1 a2 ⊢
  subst a2
  unfold numV
  split
  · rename_i hc
    obtain ⟨hw, hne, hr⟩ := hc
    rw [hw] at a1
    obtain ⟨ds, b1, b2, b3⟩ := numB_whole a1
    have hs : s = ds ∨ s = 45 :: ds := by
      rcases b3 with b3 | b3
      · exact .inl (List.append_cancel_right b3)
      · exact .inr (List.append_cancel_right (show s ++ m = (45 :: ds) ++ m by simpa using b3))
    have := intT_len b1 b2 hs
    refine ⟨?_, ?_⟩
    · unfold Wf; exact .inr (.inr (.inl ⟨rfl, rfl, hr, rfl, rfl, rfl⟩))
    · simp [written]; exact this
  · rename_i hc
    refine ⟨?_, by simp [written]⟩
    unfold Wf
    refine .inr (.inr (.inr (.inl ⟨rfl, rfl, rfl, ?_, rfl, rfl⟩)))
    have e1 : numB (s ++ []) = .ok w [] := by simpa using Good.numB.ok1 a1
    have e2 := seen_go e1
    rw [List.append_nil] at e2
    unfold number
    rw [then_go e2]
    simp only [numV, Rd.pure]
    rw [if_neg hc]

/-! lists and objects -/

theorem word_ok {w l r : List Nat} (h : word w l = .ok () r) : l = w ++ r := by
  induction w generalizing l with
  | nil => simpa using (pure_ok h).2
  | cons c w ih =>
    unfold word at h
    obtain ⟨x, m, h1, h2⟩ := then_ok h
    obtain ⟨rfl, a1, a2⟩ := need_ok h1
    rw [ih h2, show x = c by omega]
    rfl

theorem nameR_ok {F : Nat} {obj : Bool} {ns ns' : List (List Nat)} {l r : List Nat} (h : nameR F obj ns l = .ok ns' r) :
    (obj = false ∧ ns' = ns ∧ l = r) ∨
    (obj = true ∧ ∃ s, ns' = ns ++ [s] ∧ Fm s ∧ s ∉ ns ∧ (quoted s).length + 1 + r.length ≤ l.length) := by
  cases obj with
  | false =>
    simp only [nameR, Bool.false_eq_true, if_false] at h
    obtain ⟨rfl, rfl⟩ := pure_ok h
    exact .inl ⟨rfl, rfl, rfl⟩
  | true =>
    simp only [nameR, if_true] at h
    obtain ⟨s, m1, h1, h⟩ := then_ok h
    obtain ⟨_, m2, h2, h⟩ := then_ok h
    obtain ⟨c, m3, h3, h⟩ := then_ok h
    obtain ⟨rfl, rfl⟩ := pure_ok h
    obtain ⟨a1, a2, a3⟩ := text_ok h1
    have b := Good.blanks.le h2
    obtain ⟨rfl, _⟩ := need_ok h3
    simp only [List.length_cons] at b
    exact .inr ⟨rfl, s, rfl, a1, a2, by omega⟩

/-- what the items of a list or an object come to -/
theorem groupN_ok {F d : Nat} {f : Rd JV} (hf : ∀ l v r, f l = .ok v r → Wf v d ∧ (written v).length + r.length ≤ l.length)
    (obj : Bool) (n : Nat) : ∀ ns0 vs0 l p r, groupN F f obj n ns0 vs0 l = .ok p r → vs0.length < 1024 →
    ∃ ns vs, p = (ns0 ++ ns, vs0 ++ vs) ∧ vs ≠ [] ∧ WfL vs d ∧ vs0.length + vs.length ≤ 1024 ∧
      (obj = true → ns.length = vs.length ∧ (ns0.Nodup → (ns0 ++ ns).Nodup) ∧ ∀ s ∈ ns, Fm s) ∧ (obj = false → ns = []) ∧
      (itemsT obj ns vs).length + 1 + r.length ≤ l.length := by
  induction n with
  | zero => intro ns0 vs0 l p r h; simp [groupN] at h
  | succ n ih =>
    intro ns0 vs0 l p r h h0
    unfold groupN at h
    obtain ⟨ns', m1, h1, h⟩ := then_ok h
    obtain ⟨v, m2, h2, h⟩ := then_ok h
    obtain ⟨_, m3, h3, h⟩ := then_ok h
    obtain ⟨w1, w2⟩ := hf _ _ _ h2
    have l3 := Good.blanks.le h3
    have hn := nameR_ok h1
    cases m3 with
    | nil => simp [sw] at h
    | cons c m3 =>
      simp only [List.length_cons] at l3
      simp only [sw] at h
      by_cases hc : c = fin obj
      · simp only [hc, if_true] at h
        obtain ⟨rfl, rfl⟩ := pure_ok h
        rcases hn with ⟨rfl, rfl, rfl⟩ | ⟨rfl, s, rfl, a1, a2, a3⟩
        · refine ⟨[], [v], by simp, by simp, ⟨w1, trivial⟩, by simp; omega, by simp, by simp, ?_⟩
          simp [itemsT]; omega
        · refine ⟨[s], [v], by simp, by simp, ⟨w1, trivial⟩, by simp; omega, ?_, by simp, ?_⟩
          · intro _
            refine ⟨rfl, ?_, by simpa using a1⟩
            intro hd
            rw [List.nodup_append]
            exact ⟨hd, by simp, by rintro a ha b hb rfl; simp at hb; subst hb; exact a2 ha⟩
          · simp [itemsT]; omega
      · by_cases hk : c = 44
        · subst hk
          simp only [hc, if_false, if_true] at h
          by_cases hm : vs0.length + 1 = 1024
          · simp [hm] at h
          simp only [hm, if_false] at h
          obtain ⟨_, m4, h4, h⟩ := then_ok h
          have l4 := Good.blanks.le h4
          obtain ⟨ns, vs, rfl, b1, b2, b3, b4, b5, b6⟩ := ih _ _ _ _ _ h (by simp; omega)
          simp only [List.length_append, List.length_cons, List.length_nil] at b3
          cases vs with
          | nil => exact absurd rfl b1
          | cons x xs =>
            rcases hn with ⟨rfl, rfl, rfl⟩ | ⟨rfl, s, rfl, a1, a2, a3⟩
            · obtain rfl := b5 rfl
              refine ⟨[], v :: x :: xs, by simp, by simp, ⟨w1, b2⟩, by simp at b3 ⊢; omega, by simp, by simp, ?_⟩
              rw [itemsT]
              simp only [Bool.false_eq_true, if_false, List.nil_append, List.isEmpty_cons, List.tail_nil, List.length_append, List.length_cons]
              omega
            · obtain ⟨c1, c2, c3⟩ := b4 rfl
              refine ⟨s :: ns, v :: x :: xs, by simp, by simp, ⟨w1, b2⟩, by simp at b3 ⊢; omega, ?_, by simp, ?_⟩
              · intro _
                refine ⟨by simp at c1 ⊢; exact c1, ?_, ?_⟩
                · intro hd
                  have : (ns0 ++ [s]).Nodup := by
                    rw [List.nodup_append]
                    exact ⟨hd, by simp, by rintro a ha b hb rfl; simp at hb; subst hb; exact a2 ha⟩
                  simpa using c2 this
                · intro t ht
                  rcases List.mem_cons.1 ht with rfl | ht
                  · exact a1
                  · exact c3 t ht
              · rw [itemsT]
                simp only [if_true, List.headD_cons, Bool.false_eq_true, if_false, List.isEmpty_cons, List.tail_cons, List.length_append, List.length_cons, List.length_nil]
                omega
        · simp [hc, hk] at h

theorem group_ok {F d : Nat} {f : Rd JV} (hf : ∀ l v r, f l = .ok v r → Wf v d ∧ (written v).length + r.length ≤ l.length)
    {obj : Bool} {l r : List Nat} {v : JV} (h : group F f obj l = .ok v r) :
    Wf v (d + 1) ∧ (written v).length + r.length ≤ l.length + 1 := by
  unfold group at h
  obtain ⟨p, m, h1, h⟩ := then_ok h
  obtain ⟨rfl, rfl⟩ := pure_ok h
  obtain ⟨_, m1, h2, h3⟩ := then_ok h1
  have l2 := Good.blanks.le h2
  cases m1 with
  | nil => simp [sw] at h3
  | cons c m1 =>
    simp only [List.length_cons] at l2
    simp only [sw] at h3
    by_cases hc : c = fin obj
    · simp only [hc, if_true] at h3
      obtain ⟨rfl, rfl⟩ := pure_ok h3
      cases obj
      · refine ⟨?_, by simp [groupV, written, itemsT]; omega⟩
        show Wf (.mk 5 false 0 [] [] []) (d + 1)
        unfold Wf
        exact .inr (.inr (.inr (.inr (.inr (.inl ⟨rfl, rfl, rfl, rfl, rfl, by omega, by simp, trivial⟩)))))
      · refine ⟨?_, by simp [groupV, written, itemsT]; omega⟩
        show Wf (.mk 6 false 0 [] [] []) (d + 1)
        unfold Wf
        exact .inr (.inr (.inr (.inr (.inr (.inr ⟨rfl, rfl, rfl, rfl, rfl, by simp, by simp, by omega, by simp, trivial⟩)))))
    · simp only [hc, if_false] at h3
      obtain ⟨ns, vs, rfl, b1, b2, b3, b4, b5, b6⟩ := groupN_ok hf obj F _ _ _ _ _ h3 (by simp)
      simp only [List.length_cons, List.length_nil, Nat.zero_add] at b3 b6
      cases obj
      · obtain rfl := b5 rfl
        refine ⟨?_, by simp [groupV, written]; omega⟩
        show Wf (.mk 5 false 0 [] [] vs) (d + 1)
        unfold Wf
        exact .inr (.inr (.inr (.inr (.inr (.inl ⟨rfl, rfl, rfl, rfl, rfl, by omega, b3, b2⟩)))))
      · obtain ⟨c1, c2, c3⟩ := b4 rfl
        refine ⟨?_, by simp [groupV, written]; omega⟩
        show Wf (.mk 6 false 0 [] ns vs) (d + 1)
        unfold Wf
        exact .inr (.inr (.inr (.inr (.inr (.inr ⟨rfl, rfl, rfl, rfl, c1, by simpa using c2 (by simp), c3, by omega, b3, b2⟩)))))

/-- what is read may be written, and is no longer then -/
theorem value_ok {F : Nat} (d : Nat) : ∀ l v r, value F d l = .ok v r → Wf v d ∧ (written v).length + r.length ≤ l.length := by
  have key : ∀ (d : Nat) (g : Option (Rd JV)), (∀ f, g = some f → ∃ e, d = e + 1 ∧
      ∀ l v r, f l = .ok v r → Wf v e ∧ (written v).length + r.length ≤ l.length) →
      ∀ l v r, (blanks.then fun _ => valueB F g) l = .ok v r → Wf v d ∧ (written v).length + r.length ≤ l.length := by
    intro d g hg l v r h
    obtain ⟨_, m, h1, h⟩ := then_ok h
    have l1 := Good.blanks.le h1
    suffices Wf v d ∧ (written v).length + r.length ≤ m.length from ⟨this.1, by omega⟩
    clear l1 h1
    cases m with
    | nil => simp [valueB, sw] at h
    | cons c m =>
      have hb : ∀ obj q, bracket F obj g = .take q → q m = .ok v r → Wf v d ∧ (written v).length + r.length ≤ (c :: m).length := by
        intro obj q hq h
        cases g with
        | none => cases hq
        | some f =>
          cases hq
          obtain ⟨e, rfl, hf⟩ := hg f rfl
          have := group_ok hf h
          simpa using this
      have hn : ∀ obj q, bracket F obj g ≠ .go q := by
        intro obj q h
        cases g <;> cases h
      simp only [valueB, sw] at h
      split at h
      · rename_i q hq
        repeat' split at hq
        all_goals first | exact hb _ _ hq h | cases hq
        · obtain ⟨s, m1, h1, h⟩ := then_ok h
          obtain ⟨rfl, rfl⟩ := pure_ok h
          obtain ⟨s', rfl, b1, b2, b3⟩ := textN_ok _ _ _ _ _ _ h1
          refine ⟨?_, by simp [written, quoted]; omega⟩
          unfold Wf
          exact .inr (.inr (.inr (.inr (.inl ⟨rfl, rfl, rfl, by simpa using b1, rfl, rfl⟩))))
        · obtain ⟨_, m1, h1, h⟩ := then_ok h
          obtain ⟨rfl, rfl⟩ := pure_ok h
          rw [word_ok h1]
          refine ⟨?_, by simp [written]; omega⟩
          unfold Wf
          exact .inl ⟨rfl, rfl, rfl, rfl, rfl, rfl⟩
        · obtain ⟨_, m1, h1, h⟩ := then_ok h
          obtain ⟨rfl, rfl⟩ := pure_ok h
          rw [word_ok h1]
          refine ⟨?_, by simp [written]; omega⟩
          unfold Wf
          exact .inr (.inl ⟨rfl, rfl, rfl, rfl, rfl⟩)
        · obtain ⟨_, m1, h1, h⟩ := then_ok h
          obtain ⟨rfl, rfl⟩ := pure_ok h
          rw [word_ok h1]
          refine ⟨?_, by simp [written]; omega⟩
          unfold Wf
          exact .inr (.inl ⟨rfl, rfl, rfl, rfl, rfl⟩)
      · rename_i q hq
        repeat' split at hq
        all_goals first | exact absurd hq (hn _ _) | cases hq
        exact number_ok h d
      · cases h
  induction d with
  | zero => exact key 0 none (by intro f h; cases h)
  | succ d ih => exact key (d + 1) (some (value F d)) (by intro f h; cases h; exact ⟨d, rfl, ih⟩)

/-- Text of what was read is read as the same value -/
theorem read_ok {F : Nat} {l r : List Nat} {v : JV} (h : read F l = .ok v r) : Wf v 32 ∧ (written v).length ≤ l.length := by
  unfold read valueE at h
  obtain ⟨v1, m1, h1, h⟩ := then_ok h
  obtain ⟨v2, m2, h2, h3⟩ := then_ok h1
  obtain ⟨_, m3, _, h4⟩ := then_ok h3
  obtain ⟨rfl, rfl⟩ := pure_ok h4
  have e : v2 = v := by
    unfold close at h
    split at h
    · simp at h; exact h.1
    · cases h
  subst e
  have := value_ok 32 _ _ _ h2
  exact ⟨this.1, by omega⟩

end Go.Proofs.YtkcmidhpbaepoaaDoor.J
