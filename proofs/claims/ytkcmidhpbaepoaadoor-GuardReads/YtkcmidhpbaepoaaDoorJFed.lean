/-
  Enough rounds: a reader that is given more rounds than there are bytes comes to an end.
-/
import Derived.Test.YtkcmidhpbaepoaaDoorJMath
namespace Go.Proofs.YtkcmidhpbaepoaaDoor.J

def Never {α : Type} (p : Rd α) : Prop := ∀ l, p l ≠ .out

def Eats {α : Type} (p : Rd α) : Prop := ∀ l v r, p l = .ok v r → r.length < l.length

theorem Good.le {α : Type} {p : Rd α} (h : Good p) {l r : List Nat} {v : α} (e : p l = .ok v r) : r.length ≤ l.length := by
  obtain ⟨a, rfl⟩ := h.okS _ _ _ e
  simp

theorem Good.leB {α : Type} {p : Rd α} (h : Good p) {l r : List Nat} {e : Nat} (he : p l = .bad e r) : r.length ≤ l.length := by
  obtain ⟨a, rfl⟩ := h.badS _ _ _ he
  simp

theorem then_ok {α β : Type} {p : Rd α} {q : α → Rd β} {l r : List Nat} {v : β} (h : p.then q l = .ok v r) :
    ∃ x m, p l = .ok x m ∧ q x m = .ok v r := by
  unfold Rd.then at h
  split at h
  · rename_i x m hx; exact ⟨x, m, hx, h⟩
  · cases h
  · cases h

theorem then_out {α β : Type} {p : Rd α} {q : α → Rd β} {l : List Nat} (h : p.then q l = .out) :
    p l = .out ∨ ∃ x m, p l = .ok x m ∧ q x m = .out := by
  unfold Rd.then at h
  split at h
  · rename_i x m hx; exact .inr ⟨x, m, hx, h⟩
  · cases h
  · rename_i hx; exact .inl hx

theorem then_go {α β : Type} {p : Rd α} {q : α → Rd β} {l m : List Nat} {x : α} (h : p l = .ok x m) : p.then q l = q x m := by
  simp [Rd.then, h]

theorem seen_ok {α : Type} {p : Rd α} (hp : Good p) {l r : List Nat} {v : α × List Nat} (h : p.seen l = .ok v r) :
    p l = .ok v.1 r ∧ l = v.2 ++ r := by
  unfold Rd.seen at h
  split at h
  · rename_i x m hx
    simp only [Res.ok.injEq] at h
    obtain ⟨rfl, rfl⟩ := h
    obtain ⟨a, rfl⟩ := hp.okS _ _ _ hx
    exact ⟨hx, by simp⟩
  · cases h
  · cases h

theorem seen_go {α : Type} {p : Rd α} {a r : List Nat} {v : α} (h : p (a ++ r) = .ok v r) : p.seen (a ++ r) = .ok (v, a) r := by
  simp [Rd.seen, h]

theorem pure_ok {α : Type} {x v : α} {l r : List Nat} (h : Rd.pure x l = .ok v r) : x = v ∧ l = r := by
  simpa [Rd.pure] using h

theorem Never.pure {α : Type} (v : α) : Never (Rd.pure v) := by intro l h; simp [Rd.pure] at h

theorem Never.then {α β : Type} {p : Rd α} {q : α → Rd β} (hp : Never p) (hq : ∀ v, Never (q v)) : Never (p.then q) := by
  intro l h
  unfold Rd.then at h
  split at h
  · exact hq _ _ h
  · cases h
  · rename_i h1; exact hp _ h1

theorem Never.seen {α : Type} {p : Rd α} (hp : Never p) : Never p.seen := by
  intro l h
  unfold Rd.seen at h
  split at h
  · cases h
  · cases h
  · rename_i h1; exact hp _ h1

theorem Never.sw {α : Type} {f : Nat → Act α} {z : Res α} (hz : z ≠ .out)
    (ht : ∀ c q, f c = .take q → Never q) (hg : ∀ c q, f c = .go q → Never q) : Never (J.sw f z) := by
  intro l h
  cases l with
  | nil => exact hz h
  | cons c l =>
    simp only [J.sw] at h
    split at h
    · rename_i q hq; exact ht c q hq _ h
    · rename_i q hq; exact hg c q hq _ h
    · cases h

theorem Never.iteB {α : Type} {b : Bool} {p q : Rd α} (hp : Never p) (hq : Never q) : Never (if b then p else q) := by
  cases b <;> simp [hp, hq]

theorem Never.need (a b : Nat) : Never (J.need a b) := by
  refine Never.sw (by simp) ?_ ?_
  · intro c q h; split at h <;> cases h; exact Never.pure _
  · intro c q h; split at h <;> cases h

theorem Never.may (x : Nat) : Never (J.may x) := by
  refine Never.sw (by simp) ?_ ?_
  · intro c q h; split at h <;> cases h; exact Never.pure _
  · intro c q h; split at h <;> cases h; exact Never.pure _

theorem Never.skip (t : Nat → Bool) : Never (J.skip t) := by intro l h; simp [J.skip] at h

theorem Never.blanks : Never J.blanks := Never.skip _
theorem Never.digits : Never J.digits := Never.then (Never.need _ _) fun _ => Never.skip _

theorem Never.word (w : List Nat) : Never (J.word w) := by
  induction w with
  | nil => exact Never.pure _
  | cons c w ih => exact Never.then (Never.need _ _) fun _ => ih

theorem Never.number : Never J.number :=
  Never.then (Never.seen (Never.then (Never.may _) fun _ => Never.then (Never.may _) fun _ =>
    Never.then (Never.iteB (Never.pure _) Never.digits) fun _ => Never.then (Never.may _) fun _ =>
      Never.then (Never.iteB Never.digits (Never.pure _)) fun _ => Never.then (Never.may _) fun _ =>
        Never.then (Never.iteB (Never.pure _) (Never.may _)) fun _ =>
          Never.then (Never.iteB (Never.then (Never.may _) fun _ => Never.then (Never.iteB (Never.pure _) (Never.may _)) fun _ => Never.digits) (Never.pure _)) fun _ =>
            Never.pure _)) fun _ => Never.pure _

theorem Never.sixteen (low high : Nat) : Never (J.sixteen low high) := by
  refine Never.sw (by simp) ?_ ?_
  · intro c q h
    split at h
    · split at h <;> cases h; exact Never.pure _
    · cases h
  · intro c q h
    split at h
    · split at h <;> cases h
    · cases h

theorem Never.unit : Never J.unit :=
  Never.then (Never.sixteen _ _) fun _ => Never.then (Never.sixteen _ _) fun _ => Never.then (Never.sixteen _ _) fun _ =>
    Never.then (Never.sixteen _ _) fun _ => Never.pure _

theorem Never.pairOr (n : Nat) : Never (J.pairOr n) := by
  unfold J.pairOr
  split
  · exact Never.pure _
  · exact Never.then (Never.word _) fun _ => Never.then (Never.sixteen _ _) fun _ => Never.then (Never.sixteen _ _) fun _ =>
      Never.then (Never.sixteen _ _) fun _ => Never.then (Never.sixteen _ _) fun _ => Never.pure _

theorem Never.escaped : Never J.escaped := by
  refine Never.sw (by simp) ?_ ?_
  · intro c q h
    split at h
    · cases h; exact Never.pure _
    · split at h <;> cases h
      exact Never.then Never.unit Never.pairOr
  · intro c q h
    split at h
    · cases h
    · split at h <;> cases h

theorem Never.char : Never J.char :=
  Never.then (Never.need _ _) fun _ => Never.then (Never.need _ _) fun _ =>
    Never.then (Never.iteB (Never.need _ _) (Never.pure _)) fun _ =>
      Never.then (Never.iteB (Never.need _ _) (Never.pure _)) fun _ => Never.pure _

theorem Eats.then {α β : Type} {p : Rd α} {q : α → Rd β} (hp : Eats p) (hq : ∀ v, Good (q v)) : Eats (p.then q) := by
  intro l v r h
  obtain ⟨x, m, h1, h2⟩ := then_ok h
  have := hp _ _ _ h1
  have := (hq x).le h2
  omega

theorem need_ok {a b c : Nat} {l r : List Nat} (h : need a b l = .ok c r) : l = c :: r ∧ a ≤ c ∧ c ≤ b := by
  cases l with
  | nil => simp [need, sw] at h
  | cons d l =>
    simp only [need, sw] at h
    by_cases hd : a ≤ d ∧ d ≤ b
    · simp only [hd, and_self, if_true, Rd.pure, Res.ok.injEq] at h
      obtain ⟨rfl, rfl⟩ := h
      exact ⟨rfl, hd⟩
    · simp [hd] at h

theorem need_go {a b c : Nat} {r : List Nat} (h : a ≤ c ∧ c ≤ b) : need a b (c :: r) = .ok c r := by
  simp [need, sw, h, Rd.pure]

theorem Eats.need (a b : Nat) : Eats (J.need a b) := by
  intro l v r h
  obtain ⟨rfl, _⟩ := need_ok h
  simp

theorem Eats.char : Eats J.char := by
  refine Eats.then (Eats.need _ _) fun _ => ?_
  exact Good.then (Good.need _ _) fun _ => Good.then (Good.iteB (Good.need _ _) (Good.pure _)) fun _ =>
    Good.then (Good.iteB (Good.need _ _) (Good.pure _)) fun _ => Good.pure _

theorem textN_fed (ns : List (List Nat)) (n : Nat) : ∀ o l, l.length < n → textN ns n o l ≠ .out := by
  induction n with
  | zero => intro o l h; omega
  | succ n ih =>
    intro o l hl h
    cases l with
    | nil => simp [textN, sw] at h
    | cons c l =>
      simp only [List.length_cons] at hl
      simp only [textN, sw] at h
      split at h
      · rename_i q hq
        repeat' split at hq
        all_goals first | cases hq | skip
        · simp [Rd.pure] at h
        · unfold Rd.then at h
          split at h
          · rename_i x m hx
            have := Good.escaped.le hx
            exact ih _ _ (by omega) h
          · cases h
          · rename_i hx; exact Never.escaped _ hx
        · exact ih _ _ (by omega) h
      · rename_i q hq
        repeat' split at hq
        all_goals first | cases hq | skip
        unfold Rd.then at h
        split at h
        · rename_i x m hx
          have := Eats.char _ _ _ (seen_ok Good.char hx).1
          simp only [List.length_cons] at this
          exact ih _ _ (by omega) h
        · cases h
        · rename_i hx; exact Never.char.seen _ hx
      · cases h

theorem text_fed (F : Nat) (ns : List (List Nat)) (l : List Nat) (hl : l.length < F) : text F ns l ≠ .out := by
  intro h
  unfold text Rd.then at h
  split at h
  · rename_i c r hc
    have := Eats.need _ _ _ _ _ hc
    exact textN_fed _ _ _ _ (by omega) h
  · cases h
  · rename_i hx; exact Never.need _ _ _ hx

theorem nameR_fed (F : Nat) (obj : Bool) (ns : List (List Nat)) (l : List Nat) (hl : l.length < F) : nameR F obj ns l ≠ .out := by
  intro h
  cases obj with
  | false => simp [nameR, Rd.pure] at h
  | true =>
    simp only [nameR, if_true] at h
    unfold Rd.then at h
    split at h
    · exact Never.then Never.blanks (fun _ => Never.then (Never.need _ _) fun _ => Never.pure _) _ h
    · cases h
    · rename_i hx; exact text_fed _ _ _ hl hx

theorem groupN_fed (F : Nat) {f : Rd JV} (hg : Good f) (hf : ∀ l, l.length < F → f l ≠ .out) (obj : Bool) (n : Nat) :
    ∀ ns vs l, l.length < n → l.length < F → groupN F f obj n ns vs l ≠ .out := by
  induction n with
  | zero => intro ns vs l h; omega
  | succ n ih =>
    intro ns vs l hl hF h
    unfold groupN at h
    rcases then_out h with h1 | ⟨ns', m1, h1, h⟩
    · exact nameR_fed _ _ _ _ hF h1
    have l1 := (Good.nameR F obj ns).le h1
    rcases then_out h with h2 | ⟨v, m2, h2, h⟩
    · exact hf _ (by omega) h2
    have l2 := hg.le h2
    rcases then_out h with h3 | ⟨u, m3, h3, h⟩
    · exact Never.blanks _ h3
    have l3 := Good.blanks.le h3
    cases m3 with
    | nil => simp [sw] at h
    | cons c m3 =>
      simp only [List.length_cons] at l3
      simp only [sw] at h
      split at h
      · rename_i q hq
        repeat' split at hq
        all_goals first | cases hq | skip
        · simp [Rd.pure] at h
        · rcases then_out h with h4 | ⟨u4, m4, h4, h⟩
          · exact Never.blanks _ h4
          have := Good.blanks.le h4
          exact ih _ _ _ (by omega) (by omega) h
      · rename_i q hq
        repeat' split at hq
        all_goals cases hq
      · cases h

theorem group_fed {F : Nat} {f : Rd JV} (hg : Good f) (hf : ∀ l, l.length < F → f l ≠ .out) (obj : Bool) (l : List Nat)
    (hl : l.length < F) : group F f obj l ≠ .out := by
  intro h
  unfold group at h
  rcases then_out h with h1 | ⟨p, m, h1, h⟩
  · rcases then_out h1 with h2 | ⟨u, m, h2, h3⟩
    · exact Never.blanks _ h2
    · have := Good.blanks.le h2
      cases m with
      | nil => simp [sw] at h3
      | cons c m =>
        simp only [sw] at h3
        split at h3
        · rename_i q hq
          split at hq <;> cases hq
          simp [Rd.pure] at h3
        · rename_i q hq
          split at hq <;> cases hq
          exact groupN_fed F hg hf obj F _ _ _ (by omega) (by omega) h3
        · cases h3
  · simp [Rd.pure] at h

/-- with more rounds than bytes there is an answer -/
theorem value_fed {F : Nat} (d : Nat) : ∀ l, l.length < F → value F d l ≠ .out := by
  have key : ∀ g : Option (Rd JV), (∀ f, g = some f → Good f ∧ ∀ l, l.length < F → f l ≠ .out) →
      ∀ l, l.length < F → (blanks.then fun _ => valueB F g) l ≠ .out := by
    intro g hg l hl h
    rcases then_out h with h2 | ⟨u, m, h2, h⟩
    · exact Never.blanks _ h2
    have := Good.blanks.le h2
    cases m with
    | nil => simp [valueB, sw] at h
    | cons c m =>
      simp only [List.length_cons] at this
      have hb : ∀ obj q, bracket F obj g = .take q → q m ≠ .out := by
        intro obj q hq
        cases g with
        | none => cases hq
        | some f => cases hq; exact group_fed (hg f rfl).1 (hg f rfl).2 obj m (by omega)
      have hn : ∀ obj q, bracket F obj g ≠ .go q := by
        intro obj q h
        cases g <;> cases h
      have hw : ∀ (w : List Nat) (v : JV) (m : List Nat), (word w).then (fun _ => Rd.pure v) m ≠ .out := fun w v =>
        Never.then (Never.word w) fun _ => Never.pure v
      simp only [valueB, sw] at h
      split at h
      · rename_i q hq
        repeat' split at hq
        all_goals first | exact hb _ _ hq h | cases hq
        · rcases then_out h with h3 | ⟨s, m3, h3, h⟩
          · exact textN_fed _ _ _ _ (by omega) h3
          · simp [Rd.pure] at h
        · exact hw _ _ _ h
        · exact hw _ _ _ h
        · exact hw _ _ _ h
      · rename_i q hq
        repeat' split at hq
        all_goals first | exact absurd hq (hn _ _) | cases hq
        exact Never.number _ h
      · cases h
  induction d with
  | zero => exact key _ (by intro f h; cases h)
  | succ d ih =>
    intro l hl
    exact key _ (by intro f h; cases h; exact ⟨Good.value (by omega) d, ih⟩) l hl

theorem read_fed {F : Nat} {l : List Nat} (hl : l.length < F) : read F l ≠ .out := by
  intro h
  rcases then_out h with h1 | ⟨v, m, h1, h⟩
  · rcases then_out h1 with h2 | ⟨v, m, h2, h3⟩
    · exact value_fed _ _ hl h2
    · exact Never.then Never.blanks (fun _ => Never.pure _) _ h3
  · unfold close at h
    split at h <;> cases h

end Go.Proofs.YtkcmidhpbaepoaaDoor.J
