/-
  A value is written: what is written is read as it.
-/
import Derived.Test.YtkcmidhpbaepoaaDoorJFed
namespace Go.Proofs.YtkcmidhpbaepoaaDoor.J

def StopC (c : Nat) : Prop := c = 44 ∨ c = 93 ∨ c = 125

def StopL (m : List Nat) : Prop := m = [] ∨ ∃ c r, m = c :: r ∧ StopC c

/-- a reader that has come to the end of its bytes goes no further, if a comma or a bracket stands behind them -/
def Halts {α : Type} (p : Rd α) : Prop := ∀ a v, p a = .ok v [] → ∀ m, StopL m → p (a ++ m) = .ok v m

theorem Halts.pure {α : Type} (v : α) : Halts (Rd.pure v) := by
  intro a v' h m _
  obtain ⟨rfl, rfl⟩ := pure_ok h
  rfl

theorem Halts.then {α β : Type} {p : Rd α} {q : α → Rd β} (g : Good p) (hp : Halts p) (hq : ∀ v, Halts (q v)) : Halts (p.then q) := by
  intro a v h m hm
  obtain ⟨x, r, h1, h2⟩ := then_ok h
  obtain ⟨b, rfl⟩ := g.okS _ _ _ h1
  have e1 : p (b ++ (r ++ m)) = .ok x (r ++ m) := by
    cases r with
    | nil => simpa using hp b x (by simpa using h1) m hm
    | cons c r => exact g.ok b (c :: r) x (c :: r ++ m) h1 (.inr rfl)
  rw [List.append_assoc, then_go e1]
  exact hq x r v h2 m hm

theorem Halts.seen {α : Type} {p : Rd α} (g : Good p) (hp : Halts p) : Halts p.seen := by
  intro a v h m hm
  obtain ⟨h1, h2⟩ := seen_ok g h
  simp only [List.append_nil] at h2
  rw [seen_go (hp a v.1 h1 m hm), h2]

theorem Halts.iteB {α : Type} {b : Bool} {p q : Rd α} (hp : Halts p) (hq : Halts q) : Halts (if b then p else q) := by
  cases b <;> simp [hp, hq]

theorem Halts.need (a b : Nat) : Halts (J.need a b) := by
  intro l v h m _
  obtain ⟨rfl, h1⟩ := need_ok h
  exact need_go h1

theorem may_not {x c : Nat} {m : List Nat} (h : c ≠ x) : may x (c :: m) = .ok false (c :: m) := by
  simp [may, sw, h, Rd.pure]

theorem may_is (x : Nat) (m : List Nat) : may x (x :: m) = .ok true m := by
  simp [may, sw, Rd.pure]

theorem Halts.may {x : Nat} (hx : ¬ StopC x) : Halts (J.may x) := by
  intro l v h m hm
  cases l with
  | nil =>
    have : v = false := by simpa [J.may, sw, eq_comm] using h
    subst this
    rcases hm with rfl | ⟨c, r, rfl, hc⟩
    · rfl
    · exact may_not (by rintro rfl; exact hx hc)
  | cons c l =>
    by_cases e : c = x
    · subst e
      rw [may_is] at h
      simp only [Res.ok.injEq] at h
      obtain ⟨rfl, rfl⟩ := h
      exact may_is _ _
    · rw [may_not e] at h
      simp at h

theorem Halts.skip {t : Nat → Bool} (ht : ∀ c, StopC c → t c = false) : Halts (J.skip t) := by
  intro a v h m hm
  simp only [J.skip, Res.ok.injEq, true_and] at h ⊢
  induction a with
  | nil =>
    rcases hm with rfl | ⟨c, r, rfl, hc⟩
    · rfl
    · simp [ht c hc]
  | cons c a ih =>
    cases hc : t c with
    | true => simp [hc] at h ⊢; simpa using ih (by simpa using h)
    | false => simp [hc] at h

theorem Halts.digits : Halts J.digits :=
  Halts.then (Good.need _ _) (Halts.need _ _) fun _ => Halts.skip (by rintro c (rfl | rfl | rfl) <;> rfl)

theorem Halts.numE (p : Bool) : Halts (J.numE p) := by
  refine Halts.then (Good.may _) (Halts.may (by simp [StopC])) fun _ =>
    Halts.then (Good.iteB (Good.pure _) (Good.may _)) (Halts.iteB (Halts.pure _) (Halts.may (by simp [StopC]))) fun _ =>
      Halts.then (Good.iteB (Good.then (Good.may _) fun _ => Good.then (Good.iteB (Good.pure _) (Good.may _)) fun _ => Good.digits) (Good.pure _))
        (Halts.iteB ?_ (Halts.pure _)) fun _ => Halts.pure _
  exact Halts.then (Good.may _) (Halts.may (by simp [StopC])) fun _ =>
    Halts.then (Good.iteB (Good.pure _) (Good.may _)) (Halts.iteB (Halts.pure _) (Halts.may (by simp [StopC]))) fun _ => Halts.digits

theorem Halts.numP : Halts J.numP :=
  Halts.then (Good.may _) (Halts.may (by simp [StopC])) fun _ =>
    Halts.then (Good.iteB Good.digits (Good.pure _)) (Halts.iteB Halts.digits (Halts.pure _)) fun _ => Halts.numE _

theorem Halts.numB : Halts J.numB :=
  Halts.then (Good.may _) (Halts.may (by simp [StopC])) fun _ =>
    Halts.then (Good.may _) (Halts.may (by simp [StopC])) fun _ =>
      Halts.then (Good.iteB (Good.pure _) Good.digits) (Halts.iteB (Halts.pure _) Halts.digits) fun _ => Halts.numP

theorem Halts.number : Halts J.number :=
  Halts.then Good.numB.seen (Halts.seen Good.numB Halts.numB) fun _ => Halts.pure _

/-! integers -/

def natT (n : Nat) : List Nat := if h : n < 10 then [48 + n] else natT (n / 10) ++ [48 + n % 10]
termination_by n
decreasing_by omega

def intT (n : Int) : List Nat := if n < 0 then 45 :: natT n.natAbs else natT n.natAbs

theorem tens_snoc (l : List Nat) (d : Nat) : tens (l ++ [d]) = 10 * tens l + (d - 48) := by
  simp [tens]

theorem tens_natT (n : Nat) : tens (natT n) = n := by
  induction n using Nat.strongRecOn with
  | _ n ih =>
    unfold natT
    split
    · simp [tens]
    · rw [tens_snoc, ih (n / 10) (by omega)]; omega

theorem natT_shape (n : Nat) : ∃ d ds, natT n = d :: ds ∧ isDig d = true ∧ (∀ x ∈ ds, isDig x = true) ∧ (d = 48 → n = 0 ∧ ds = []) := by
  induction n using Nat.strongRecOn with
  | _ n ih =>
    unfold natT
    split
    · refine ⟨48 + n, [], rfl, ?_, by simp, ?_⟩
      · simp [isDig]; omega
      · intro h; exact ⟨by omega, rfl⟩
    · obtain ⟨d, ds, e, h1, h2, h3⟩ := ih (n / 10) (by omega)
      refine ⟨d, ds ++ [48 + n % 10], by simp [e], h1, ?_, ?_⟩
      · intro x hx
        rcases List.mem_append.1 hx with hx | hx
        · exact h2 x hx
        · simp only [List.mem_singleton] at hx; subst hx; simp [isDig]; omega
      · intro h; have := (h3 h).1; omega

theorem skip_all {t : Nat → Bool} {l : List Nat} (h : ∀ x ∈ l, t x = true) : skip t l = .ok () [] := by
  simp only [skip, Res.ok.injEq, true_and]
  induction l with
  | nil => rfl
  | cons c l ih => simp [h c (by simp)]; simpa using ih fun x hx => h x (by simp [hx])

theorem numP_nil : numP [] = .ok true [] := rfl

theorem num_nat (n : Nat) : ((may 48).then fun z => (if z then Rd.pure () else digits).then fun _ => numP) (natT n) = .ok true [] := by
  obtain ⟨d, ds, e, h1, h2, h3⟩ := natT_shape n
  rw [e]
  by_cases hd : d = 48
  · obtain ⟨_, rfl⟩ := h3 hd
    subst hd
    rw [then_go (may_is _ _)]
    rfl
  · rw [then_go (may_not hd)]
    have e1 : digits (d :: ds) = .ok () [] := by
      unfold digits
      rw [then_go (need_go (by simp [isDig] at h1; omega))]
      exact skip_all h2
    show (digits.then fun _ => numP) (d :: ds) = _
    rw [then_go e1]
    rfl

theorem numB_int (n : Int) : numB (intT n) = .ok true [] := by
  unfold intT
  split
  · unfold numB
    rw [then_go (may_is _ _)]
    exact num_nat _
  · obtain ⟨d, ds, e, h1, _⟩ := natT_shape n.natAbs
    have hd : d ≠ 45 := by rintro rfl; simp [isDig] at h1
    unfold numB
    have : may 45 (natT n.natAbs) = .ok false (natT n.natAbs) := by rw [e]; exact may_not hd
    rw [then_go this]
    exact num_nat _

theorem intOf_intT (n : Int) : intOf (intT n) = n := by
  unfold intT
  split
  · show -(tens (natT n.natAbs) : Int) = n
    rw [tens_natT]; omega
  · obtain ⟨d, ds, e, h1, _⟩ := natT_shape n.natAbs
    have hd : d ≠ 45 := by rintro rfl; simp [isDig] at h1
    have : intOf (natT n.natAbs) = tens (natT n.natAbs) := by
      rw [e]
      unfold intOf
      split
      · rename_i h; simp at h; exact absurd h.1 hd
      · rfl
    rw [this, tens_natT]; omega

def Rng (n : Int) : Prop := -9223372036854775808 ≤ n ∧ n ≤ 9223372036854775807

theorem number_int {n : Int} (h : Rng n) : number (intT n) = .ok (.mk 2 false n [] [] []) [] := by
  have h1 : numB.seen (intT n ++ []) = .ok (true, intT n) [] := seen_go (by simpa using numB_int n)
  rw [List.append_nil] at h1
  unfold number
  rw [then_go h1]
  have hne : intT n ≠ [45, 48] := by
    unfold intT
    split
    · intro h
      simp only [List.cons.injEq, true_and] at h
      have := tens_natT n.natAbs
      rw [h] at this
      simp [tens] at this
      omega
    · intro h
      have := tens_natT n.natAbs
      obtain ⟨d, ds, e, h1, _⟩ := natT_shape n.natAbs
      rw [e] at h
      simp only [List.cons.injEq] at h
      rw [h.1] at h1
      simp [isDig] at h1
  simp only [numV, intOf_intT, Rd.pure]
  rw [if_pos ⟨trivial, hne, h.1, h.2⟩]

theorem number_head {c : Nat} {l r : List Nat} {v : JV} (h : number (c :: l) = .ok v r) : c = 45 ∨ isDig c = true := by
  apply Decidable.byContradiction
  intro hn
  have h1 : c ≠ 45 := fun e => hn (.inl e)
  have h2 : ¬ (48 ≤ c ∧ c ≤ 57) := fun e => hn (.inr (by simp [isDig, e]))
  have e1 : numB (c :: l) = .bad 160 (c :: l) := by
    unfold numB
    rw [then_go (may_not h1), then_go (may_not (by omega))]
    have : digits (c :: l) = .bad 160 (c :: l) := by simp [digits, Rd.then, need, sw, h2]
    show (digits.then fun _ => numP) (c :: l) = _
    simp [Rd.then, this]
  simp [number, Rd.then, Rd.seen, e1] at h

theorem number_nil : number [] = .bad 160 [] := rfl

/-! texts -/

def hexC (x : Nat) : Nat := if x < 10 then 48 + x else 87 + x

def esc (c : Nat) : List Nat :=
  if c = 34 then [92, 34] else if c = 92 then [92, 92] else if c = 8 then [92, 98] else if c = 9 then [92, 116]
  else if c = 10 then [92, 110] else if c = 12 then [92, 102] else if c = 13 then [92, 114]
  else if c < 32 then [92, 117, 48, 48, 48 + c / 16, hexC (c % 16)] else [c]

def qbody (s : List Nat) : List Nat := s.flatMap esc

def quoted (s : List Nat) : List Nat := 34 :: (qbody s ++ [34])

/-- well-formed bytes -/
inductive Fm : List Nat → Prop where
  | nil : Fm []
  | low (c : Nat) (s : List Nat) : c < 128 → Fm s → Fm (c :: s)
  | high (p s : List Nat) : (∀ m, char (p ++ m) = .ok () m) → (∀ c ∈ p, 128 ≤ c) → p ≠ [] → Fm s → Fm (p ++ s)

def escT (c : Nat) : List Nat := (esc c).tail

theorem esc_low (c : Nat) (hc : c < 32) : ∀ m, escaped (escT c ++ m) = .ok c m ∧ esc c = 92 :: escT c := by
  intro m
  refine ⟨?_, ?_⟩
  · exact match c, hc with
    | 0, _ => rfl
    | 1, _ => rfl
    | 2, _ => rfl
    | 3, _ => rfl
    | 4, _ => rfl
    | 5, _ => rfl
    | 6, _ => rfl
    | 7, _ => rfl
    | 8, _ => rfl
    | 9, _ => rfl
    | 10, _ => rfl
    | 11, _ => rfl
    | 12, _ => rfl
    | 13, _ => rfl
    | 14, _ => rfl
    | 15, _ => rfl
    | 16, _ => rfl
    | 17, _ => rfl
    | 18, _ => rfl
    | 19, _ => rfl
    | 20, _ => rfl
    | 21, _ => rfl
    | 22, _ => rfl
    | 23, _ => rfl
    | 24, _ => rfl
    | 25, _ => rfl
    | 26, _ => rfl
    | 27, _ => rfl
    | 28, _ => rfl
    | 29, _ => rfl
    | 30, _ => rfl
    | 31, _ => rfl
    | n + 32, h => absurd h (by omega)
  · exact match c, hc with
    | 0, _ => rfl
    | 1, _ => rfl
    | 2, _ => rfl
    | 3, _ => rfl
    | 4, _ => rfl
    | 5, _ => rfl
    | 6, _ => rfl
    | 7, _ => rfl
    | 8, _ => rfl
    | 9, _ => rfl
    | 10, _ => rfl
    | 11, _ => rfl
    | 12, _ => rfl
    | 13, _ => rfl
    | 14, _ => rfl
    | 15, _ => rfl
    | 16, _ => rfl
    | 17, _ => rfl
    | 18, _ => rfl
    | 19, _ => rfl
    | 20, _ => rfl
    | 21, _ => rfl
    | 22, _ => rfl
    | 23, _ => rfl
    | 24, _ => rfl
    | 25, _ => rfl
    | 26, _ => rfl
    | 27, _ => rfl
    | 28, _ => rfl
    | 29, _ => rfl
    | 30, _ => rfl
    | 31, _ => rfl
    | n + 32, h => absurd h (by omega)

theorem esc_high {c : Nat} (h1 : ¬ c < 32) (h2 : c ≠ 34) (h3 : c ≠ 92) : esc c = [c] := by
  unfold esc
  repeat (rw [if_neg (by omega)])

theorem textN_back (ns : List (List Nat)) {s : List Nat} (hs : Fm s) : ∀ (n : Nat) (o m : List Nat), s.length < n → o ++ s ∉ ns →
    textN ns n o (qbody s ++ 34 :: m) = .ok (o ++ s) m := by
  induction hs with
  | nil =>
    intro n o m hn ho
    obtain ⟨n, rfl⟩ : ∃ k, n = k + 1 := ⟨n - 1, by simp at hn; omega⟩
    simp only [List.append_nil] at ho
    simp [qbody, textN, sw, ho, Rd.pure]
  | low c s hc hs ih =>
    intro n o m hn ho
    simp only [List.length_cons] at hn
    obtain ⟨n, rfl⟩ : ∃ k, n = k + 1 := ⟨n - 1, by omega⟩
    have key : textN ns n (o ++ [c]) (qbody s ++ 34 :: m) = .ok (o ++ c :: s) m := by
      have := ih n (o ++ [c]) m (by omega) (by simpa using ho)
      simpa using this
    have e : qbody (c :: s) ++ 34 :: m = esc c ++ (qbody s ++ 34 :: m) := by simp [qbody]
    rw [e]
    have viaE : ∀ t, esc c = 92 :: t → (∀ m, escaped (t ++ m) = .ok c m) →
        textN ns (n + 1) o (esc c ++ (qbody s ++ 34 :: m)) = .ok (o ++ c :: s) m := by
      intro t e1 e2
      rw [e1]
      show (escaped.then fun x => textN ns n (o ++ utf8 x)) (t ++ (qbody s ++ 34 :: m)) = _
      rw [then_go (e2 _)]
      have : utf8 c = [c] := by simp [utf8, hc]
      rw [this]
      exact key
    by_cases h1 : c < 32
    · exact viaE _ (esc_low c h1 []).2 fun m => (esc_low c h1 m).1
    · by_cases h2 : c = 34
      · subst h2; exact viaE [34] rfl fun m => rfl
      · by_cases h3 : c = 92
        · subst h3; exact viaE [92] rfl fun m => rfl
        · rw [esc_high h1 h2 h3]
          simp only [List.singleton_append, textN, sw, h1, h2, h3, hc, if_false, if_true]
          exact key
  | high p s hp hb hne hs ih =>
    intro n o m hn ho
    simp only [List.length_append] at hn
    have hl : 0 < p.length := by cases p with
      | nil => exact absurd rfl hne
      | cons c p => simp
    obtain ⟨n, rfl⟩ : ∃ k, n = k + 1 := ⟨n - 1, by omega⟩
    have key := ih n (o ++ p) m (by omega) (by simpa using ho)
    have e : qbody (p ++ s) ++ 34 :: m = p ++ (qbody s ++ 34 :: m) := by
      have : ∀ q : List Nat, (∀ c ∈ q, 128 ≤ c) → q.flatMap esc = q := by
        intro q hq
        induction q with
        | nil => rfl
        | cons c q ih =>
          have h1 := hq c (by simp)
          rw [List.flatMap_cons, ih fun c hc => hq c (by simp [hc]), esc_high (by omega) (by omega) (by omega)]
          rfl
      simp only [qbody, List.flatMap_append, this p hb, List.append_assoc]
    rw [e]
    have e2 := seen_go (hp (qbody s ++ 34 :: m))
    cases p with
    | nil => exact absurd rfl hne
    | cons c p =>
      have h1 := hb c (by simp)
      simp only [List.cons_append] at e2 ⊢
      simp only [textN, sw]
      rw [if_neg (by omega), if_neg (by omega), if_neg (by omega), if_neg (by omega)]
      show (char.seen.then fun q => textN ns n (o ++ q.2)) _ = _
      rw [then_go e2]
      simpa using key

theorem text_back {F : Nat} (ns : List (List Nat)) {s : List Nat} (hs : Fm s) (hF : s.length < F) (hn : s ∉ ns) (m : List Nat) :
    text F ns (quoted s ++ m) = .ok s m := by
  unfold text quoted
  rw [List.cons_append, then_go (need_go ⟨Nat.le_refl _, Nat.le_refl _⟩)]
  have := textN_back ns hs F [] m hF (by simpa using hn)
  simpa using this

end Go.Proofs.YtkcmidhpbaepoaaDoor.J
