/-
  What is read may be written, and what is written is no longer than what was read.
-/
import Derived.Test.YtcfalgomcdmdhaaDoorJFed
namespace Go.Proofs.YtcfalgomcdmdhaaDoor.J

def StopC (c : Nat) : Prop := c = 44 ∨ c = 93 ∨ c = 125

def StopL (m : List Nat) : Prop := m = [] ∨ ∃ c r, m = c :: r ∧ StopC c

/-- a reader that has come to the end of its bytes goes no further, if a comma or a bracket stands behind them -/
def Halts {α : Type} (p : Rd α) : Prop := ∀ a v, p a = .ok v [] → ∀ m, StopL m → p (a ++ m) = .ok v m

theorem Halts.pure {α : Type} (v : α) : Halts (Rd.pure v) := by
  intro a v' h m _
  obtain ⟨rfl, rfl⟩ := pure_ok h
  rfl

theorem Halts.then {α β : Type} {p : Rd α} {q : α → Rd β} (g : Good p) (hp : Halts p) (hq : ∀ v, Halts (q v)) : Halts (p.then q) := by
  intro a v h m hm
  obtain ⟨x, r, h1, h2⟩ := then_ok h
  obtain ⟨b, rfl⟩ := g.okS _ _ _ h1
  have e1 : p (b ++ (r ++ m)) = .ok x (r ++ m) := by
    cases r with
    | nil => simpa using hp b x (by simpa using h1) m hm
    | cons c r => exact g.ok b (c :: r) x (c :: r ++ m) h1 (.inr rfl)
  rw [List.append_assoc, then_go e1]
  exact hq x r v h2 m hm

theorem Halts.seen {α : Type} {p : Rd α} (g : Good p) (hp : Halts p) : Halts p.seen := by
  intro a v h m hm
  obtain ⟨h1, h2⟩ := seen_ok g h
  simp only [List.append_nil] at h2
  rw [seen_go (hp a v.1 h1 m hm), h2]

theorem Halts.iteB {α : Type} {b : Bool} {p q : Rd α} (hp : Halts p) (hq : Halts q) : Halts (if b then p else q) := by
  cases b <;> simp [hp, hq]

theorem Halts.need (a b : Nat) : Halts (J.need a b) := by
  intro l v h m _
  obtain ⟨rfl, h1⟩ := need_ok h
  exact need_go h1

theorem may_not {x c : Nat} {m : List Nat} (h : c ≠ x) : may x (c :: m) = .ok false (c :: m) := by
  simp [may, sw, h, Rd.pure]

theorem may_is (x : Nat) (m : List Nat) : may x (x :: m) = .ok true m := by
  simp [may, sw, Rd.pure]

theorem Halts.may {x : Nat} (hx : ¬ StopC x) : Halts (J.may x) := by
  intro l v h m hm
  cases l with
  | nil =>
    have : v = false := by simpa [J.may, sw, eq_comm] using h
    subst this
    rcases hm with rfl | ⟨c, r, rfl, hc⟩
    · rfl
    · exact may_not (by rintro rfl; exact hx hc)
  | cons c l =>
    by_cases e : c = x
    · subst e
      rw [may_is] at h
      simp only [Res.ok.injEq] at h
      obtain ⟨rfl, rfl⟩ := h
      exact may_is _ _
    · rw [may_not e] at h
      simp at h

theorem Halts.skip {t : Nat → Bool} (ht : ∀ c, StopC c → t c = false) : Halts (J.skip t) := by
  intro a v h m hm
  simp only [J.skip, Res.ok.injEq, true_and] at h ⊢
  induction a with
  | nil =>
    rcases hm with rfl | ⟨c, r, rfl, hc⟩
    · rfl
    · simp [ht c hc]
  | cons c a ih =>
    cases hc : t c with
    | true => simp [hc] at h ⊢; simpa using ih (by simpa using h)
    | false => simp [hc] at h

theorem Halts.digits : Halts J.digits :=
  Halts.then (Good.need _ _) (Halts.need _ _) fun _ => Halts.skip (by rintro c (rfl | rfl | rfl) <;> rfl)

theorem Halts.numE (p : Bool) : Halts (J.numE p) := by
  refine Halts.then (Good.may _) (Halts.may (by simp [StopC])) fun _ =>
    Halts.then (Good.iteB (Good.pure _) (Good.may _)) (Halts.iteB (Halts.pure _) (Halts.may (by simp [StopC]))) fun _ =>
      Halts.then (Good.iteB (Good.then (Good.may _) fun _ => Good.then (Good.iteB (Good.pure _) (Good.may _)) fun _ => Good.digits) (Good.pure _))
        (Halts.iteB ?_ (Halts.pure _)) fun _ => Halts.pure _
  exact Halts.then (Good.may _) (Halts.may (by simp [StopC])) fun _ =>
    Halts.then (Good.iteB (Good.pure _) (Good.may _)) (Halts.iteB (Halts.pure _) (Halts.may (by simp [StopC]))) fun _ => Halts.digits

theorem Halts.numP : Halts J.numP :=
  Halts.then (Good.may _) (Halts.may (by simp [StopC])) fun _ =>
    Halts.then (Good.iteB Good.digits (Good.pure _)) (Halts.iteB Halts.digits (Halts.pure _)) fun _ => Halts.numE _

theorem Halts.numB : Halts J.numB :=
  Halts.then (Good.may _) (Halts.may (by simp [StopC])) fun _ =>
    Halts.then (Good.may _) (Halts.may (by simp [StopC])) fun _ =>
      Halts.then (Good.iteB (Good.pure _) Good.digits) (Halts.iteB (Halts.pure _) Halts.digits) fun _ => Halts.numP

theorem Halts.number : Halts J.number :=
  Halts.then Good.numB.seen (Halts.seen Good.numB Halts.numB) fun _ => Halts.pure _

/-! integers -/

def natT (n : Nat) : List Nat := if h : n < 10 then [48 + n] else natT (n / 10) ++ [48 + n % 10]
termination_by n
decreasing_by omega

def intT (n : Int) : List Nat := if n < 0 then 45 :: natT n.natAbs else natT n.natAbs

theorem tens_snoc (l : List Nat) (d : Nat) : tens (l ++ [d]) = 10 * tens l + (d - 48) := by
  simp [tens]

theorem tens_natT (n : Nat) : tens (natT n) = n := by
  induction n using Nat.strongRecOn with
  | _ n ih =>
    unfold natT
    split
    · simp [tens]
    · rw [tens_snoc, ih (n / 10) (by omega)]; omega

theorem natT_shape (n : Nat) : ∃ d ds, natT n = d :: ds ∧ isDig d = true ∧ (∀ x ∈ ds, isDig x = true) ∧ (d = 48 → n = 0 ∧ ds = []) := by
  induction n using Nat.strongRecOn with
  | _ n ih =>
    unfold natT
    split
    · refine ⟨48 + n, [], rfl, ?_, by simp, ?_⟩
      · simp [isDig]; omega
      · intro h; exact ⟨by omega, rfl⟩
    · obtain ⟨d, ds, e, h1, h2, h3⟩ := ih (n / 10) (by omega)
      refine ⟨d, ds ++ [48 + n % 10], by simp [e], h1, ?_, ?_⟩
      · intro x hx
        rcases List.mem_append.1 hx with hx | hx
        · exact h2 x hx
        · simp only [List.mem_singleton] at hx; subst hx; simp [isDig]; omega
      · intro h; have := (h3 h).1; omega

theorem skip_all {t : Nat → Bool} {l : List Nat} (h : ∀ x ∈ l, t x = true) : skip t l = .ok () [] := by
  simp only [skip, Res.ok.injEq, true_and]
  induction l with
  | nil => rfl
  | cons c l ih => simp [h c (by simp)]; simpa using ih fun x hx => h x (by simp [hx])

theorem numP_nil : numP [] = .ok true [] := rfl

theorem num_nat (n : Nat) : ((may 48).then fun z => (if z then Rd.pure () else digits).then fun _ => numP) (natT n) = .ok true [] := by
  obtain ⟨d, ds, e, h1, h2, h3⟩ := natT_shape n
  rw [e]
  by_cases hd : d = 48
  · obtain ⟨_, rfl⟩ := h3 hd
    subst hd
    rw [then_go (may_is _ _)]
    rfl
  · rw [then_go (may_not hd)]
    have e1 : digits (d :: ds) = .ok () [] := by
      unfold digits
      rw [then_go (need_go (by simp [isDig] at h1; omega))]
      exact skip_all h2
    show (digits.then fun _ => numP) (d :: ds) = _
    rw [then_go e1]
    rfl

theorem numB_int (n : Int) : numB (intT n) = .ok true [] := by
  unfold intT
  split
  · unfold numB
    rw [then_go (may_is _ _)]
    exact num_nat _
  · obtain ⟨d, ds, e, h1, _⟩ := natT_shape n.natAbs
    have hd : d ≠ 45 := by rintro rfl; simp [isDig] at h1
    unfold numB
    have : may 45 (natT n.natAbs) = .ok false (natT n.natAbs) := by rw [e]; exact may_not hd
    rw [then_go this]
    exact num_nat _

theorem intOf_intT (n : Int) : intOf (intT n) = n := by
  unfold intT
  split
  · show -(tens (natT n.natAbs) : Int) = n
    rw [tens_natT]; omega
  · obtain ⟨d, ds, e, h1, _⟩ := natT_shape n.natAbs
    have hd : d ≠ 45 := by rintro rfl; simp [isDig] at h1
    have : intOf (natT n.natAbs) = tens (natT n.natAbs) := by
      rw [e]
      unfold intOf
      split
      · rename_i h; simp at h; exact absurd h.1 hd
      · rfl
    rw [this, tens_natT]; omega

def Rng (n : Int) : Prop := -9223372036854775808 ≤ n ∧ n ≤ 9223372036854775807

theorem number_int {n : Int} (h : Rng n) : number (intT n) = .ok (.mk 2 false n [] [] []) [] := by
  have h1 : numB.seen (intT n ++ []) = .ok (true, intT n) [] := seen_go (by simpa using numB_int n)
  rw [List.append_nil] at h1
  unfold number
  rw [then_go h1]
  have hne : intT n ≠ [45, 48] := by
    unfold intT
    split
    · intro h
      simp only [List.cons.injEq, true_and] at h
      have := tens_natT n.natAbs
      rw [h] at this
      simp [tens] at this
      omega
    · intro h
      have := tens_natT n.natAbs
      obtain ⟨d, ds, e, h1, _⟩ := natT_shape n.natAbs
      rw [e] at h
      simp only [List.cons.injEq] at h
      rw [h.1] at h1
      simp [isDig] at h1
  simp only [numV, intOf_intT, Rd.pure]
  rw [if_pos ⟨trivial, hne, h.1, h.2⟩]

theorem number_head {c : Nat} {l r : List Nat} {v : JV} (h : number (c :: l) = .ok v r) : c = 45 ∨ isDig c = true := by
  apply Decidable.byContradiction
  intro hn
  have h1 : c ≠ 45 := fun e => hn (.inl e)
  have h2 : ¬ (48 ≤ c ∧ c ≤ 57) := fun e => hn (.inr (by simp [isDig, e]))
  have e1 : numB (c :: l) = .bad 160 (c :: l) := by
    unfold numB
    rw [then_go (may_not h1), then_go (may_not (by omega))]
    have : digits (c :: l) = .bad 160 (c :: l) := by simp [digits, Rd.then, need, sw, h2]
    show (digits.then fun _ => numP) (c :: l) = _
    simp [Rd.then, this]
  simp [number, Rd.then, Rd.seen, e1] at h

theorem number_nil : number [] = .bad 160 [] := rfl

/-! texts -/

def hexC (x : Nat) : Nat := if x < 10 then 48 + x else 87 + x

def esc (c : Nat) : List Nat :=
  if c = 34 then [92, 34] else if c = 92 then [92, 92] else if c = 8 then [92, 98] else if c = 9 then [92, 116]
  else if c = 10 then [92, 110] else if c = 12 then [92, 102] else if c = 13 then [92, 114]
  else if c < 32 then [92, 117, 48, 48, 48 + c / 16, hexC (c % 16)] else [c]

def qbody (s : List Nat) : List Nat := s.flatMap esc

def quoted (s : List Nat) : List Nat := 34 :: (qbody s ++ [34])

/-- well-formed bytes -/
inductive Fm : List Nat → Prop where
  | nil : Fm []
  | low (c : Nat) (s : List Nat) : c < 128 → Fm s → Fm (c :: s)
  | high (p s : List Nat) : (∀ m, char (p ++ m) = .ok () m) → (∀ c ∈ p, 128 ≤ c) → p ≠ [] → Fm s → Fm (p ++ s)

def escT (c : Nat) : List Nat := (esc c).tail

theorem esc_low (c : Nat) (hc : c < 32) : ∀ m, escaped (escT c ++ m) = .ok c m ∧ esc c = 92 :: escT c := by
  intro m
  refine ⟨?_, ?_⟩
  · exact match c, hc with
    | 0, _ => rfl
    | 1, _ => rfl
    | 2, _ => rfl
    | 3, _ => rfl
    | 4, _ => rfl
    | 5, _ => rfl
    | 6, _ => rfl
    | 7, _ => rfl
    | 8, _ => rfl
    | 9, _ => rfl
    | 10, _ => rfl
    | 11, _ => rfl
    | 12, _ => rfl
    | 13, _ => rfl
    | 14, _ => rfl
    | 15, _ => rfl
    | 16, _ => rfl
    | 17, _ => rfl
    | 18, _ => rfl
    | 19, _ => rfl
    | 20, _ => rfl
    | 21, _ => rfl
    | 22, _ => rfl
    | 23, _ => rfl
    | 24, _ => rfl
    | 25, _ => rfl
    | 26, _ => rfl
    | 27, _ => rfl
    | 28, _ => rfl
    | 29, _ => rfl
    | 30, _ => rfl
    | 31, _ => rfl
    | n + 32, h => absurd h (by omega)
  · exact match c, hc with
    | 0, _ => rfl
    | 1, _ => rfl
    | 2, _ => rfl
    | 3, _ => rfl
    | 4, _ => rfl
    | 5, _ => rfl
    | 6, _ => rfl
    | 7, _ => rfl
    | 8, _ => rfl
    | 9, _ => rfl
    | 10, _ => rfl
    | 11, _ => rfl
    | 12, _ => rfl
    | 13, _ => rfl
    | 14, _ => rfl
    | 15, _ => rfl
    | 16, _ => rfl
    | 17, _ => rfl
    | 18, _ => rfl
    | 19, _ => rfl
    | 20, _ => rfl
    | 21, _ => rfl
    | 22, _ => rfl
    | 23, _ => rfl
    | 24, _ => rfl
    | 25, _ => rfl
    | 26, _ => rfl
    | 27, _ => rfl
    | 28, _ => rfl
    | 29, _ => rfl
    | 30, _ => rfl
    | 31, _ => rfl
    | n + 32, h => absurd h (by omega)

theorem esc_high {c : Nat} (h1 : ¬ c < 32) (h2 : c ≠ 34) (h3 : c ≠ 92) : esc c = [c] := by
  unfold esc
  repeat (rw [if_neg (by omega)])

theorem textN_back (ns : List (List Nat)) {s : List Nat} (hs : Fm s) : ∀ (n : Nat) (o m : List Nat), s.length < n → o ++ s ∉ ns →
    textN ns n o (qbody s ++ 34 :: m) = .ok (o ++ s) m := by
  induction hs with
  | nil =>
    intro n o m hn ho
    obtain ⟨n, rfl⟩ : ∃ k, n = k + 1 := ⟨n - 1, by simp at hn; omega⟩
    simp only [List.append_nil] at ho
    simp [qbody, textN, sw, ho, Rd.pure]
  | low c s hc hs ih =>
    intro n o m hn ho
    simp only [List.length_cons] at hn
    obtain ⟨n, rfl⟩ : ∃ k, n = k + 1 := ⟨n - 1, by omega⟩
    have key : textN ns n (o ++ [c]) (qbody s ++ 34 :: m) = .ok (o ++ c :: s) m := by
      have := ih n (o ++ [c]) m (by omega) (by simpa using ho)
      simpa using this
    have e : qbody (c :: s) ++ 34 :: m = esc c ++ (qbody s ++ 34 :: m) := by simp [qbody]
    rw [e]
    have viaE : ∀ t, esc c = 92 :: t → (∀ m, escaped (t ++ m) = .ok c m) →
        textN ns (n + 1) o (esc c ++ (qbody s ++ 34 :: m)) = .ok (o ++ c :: s) m := by
      intro t e1 e2
      rw [e1]
      show (escaped.then fun x => textN ns n (o ++ utf8 x)) (t ++ (qbody s ++ 34 :: m)) = _
      rw [then_go (e2 _)]
      have : utf8 c = [c] := by simp [utf8, hc]
      rw [this]
      exact key
    by_cases h1 : c < 32
    · exact viaE _ (esc_low c h1 []).2 fun m => (esc_low c h1 m).1
    · by_cases h2 : c = 34
      · subst h2; exact viaE [34] rfl fun m => rfl
      · by_cases h3 : c = 92
        · subst h3; exact viaE [92] rfl fun m => rfl
        · rw [esc_high h1 h2 h3]
          simp only [List.singleton_append, textN, sw, h1, h2, h3, hc, if_false, if_true]
          exact key
  | high p s hp hb hne hs ih =>
    intro n o m hn ho
    simp only [List.length_append] at hn
    have hl : 0 < p.length := by cases p with
      | nil => exact absurd rfl hne
      | cons c p => simp
    obtain ⟨n, rfl⟩ : ∃ k, n = k + 1 := ⟨n - 1, by omega⟩
    have key := ih n (o ++ p) m (by omega) (by simpa using ho)
    have e : qbody (p ++ s) ++ 34 :: m = p ++ (qbody s ++ 34 :: m) := by
      have : ∀ q : List Nat, (∀ c ∈ q, 128 ≤ c) → q.flatMap esc = q := by
        intro q hq
        induction q with
        | nil => rfl
        | cons c q ih =>
          have h1 := hq c (by simp)
          rw [List.flatMap_cons, ih fun c hc => hq c (by simp [hc]), esc_high (by omega) (by omega) (by omega)]
          rfl
      simp only [qbody, List.flatMap_append, this p hb, List.append_assoc]
    rw [e]
    have e2 := seen_go (hp (qbody s ++ 34 :: m))
    cases p with
    | nil => exact absurd rfl hne
    | cons c p =>
      have h1 := hb c (by simp)
      simp only [List.cons_append] at e2 ⊢
      simp only [textN, sw]
      rw [if_neg (by omega), if_neg (by omega), if_neg (by omega), if_neg (by omega)]
      show (char.seen.then fun q => textN ns n (o ++ q.2)) _ = _
      rw [then_go e2]
      simpa using key

theorem text_back {F : Nat} (ns : List (List Nat)) {s : List Nat} (hs : Fm s) (hF : s.length < F) (hn : s ∉ ns) (m : List Nat) :
    text F ns (quoted s ++ m) = .ok s m := by
  unfold text quoted
  rw [List.cons_append, then_go (need_go ⟨Nat.le_refl _, Nat.le_refl _⟩)]
  have := textN_back ns hs F [] m hF (by simpa using hn)
  simpa using this

end Go.Proofs.YtcfalgomcdmdhaaDoor.J
namespace Go.Proofs.YtcfalgomcdmdhaaDoor.J

mutual
def written : JV → List Nat
  | .mk k b n t ns vs =>
    if k = 0 then [110, 117, 108, 108]
    else if k = 1 then (if b then [116, 114, 117, 101] else [102, 97, 108, 115, 101])
    else if k = 2 then intT n else if k = 3 then t else if k = 4 then quoted t
    else if k = 6 then 123 :: (itemsT true ns vs ++ [125]) else 91 :: (itemsT false ns vs ++ [93])
def itemsT (obj : Bool) : List (List Nat) → List JV → List Nat
  | _, [] => []
  | ns, v :: vs => (if obj then quoted (ns.headD []) ++ [58] else []) ++
      (written v ++ (if vs.isEmpty then [] else 44 :: itemsT obj ns.tail vs))
end

mutual
def Wf : JV → Nat → Prop
  | .mk k b n t ns vs, d =>
    (k = 0 ∧ b = false ∧ n = 0 ∧ t = [] ∧ ns = [] ∧ vs = []) ∨
    (k = 1 ∧ n = 0 ∧ t = [] ∧ ns = [] ∧ vs = []) ∨
    (k = 2 ∧ b = false ∧ Rng n ∧ t = [] ∧ ns = [] ∧ vs = []) ∨
    (k = 3 ∧ b = false ∧ n = 0 ∧ number t = .ok (.mk 3 false 0 t [] []) [] ∧ ns = [] ∧ vs = []) ∨
    (k = 4 ∧ b = false ∧ n = 0 ∧ Fm t ∧ ns = [] ∧ vs = []) ∨
    (k = 5 ∧ b = false ∧ n = 0 ∧ t = [] ∧ ns = [] ∧ 0 < d ∧ vs.length ≤ 1024 ∧ WfL vs (d - 1)) ∨
    (k = 6 ∧ b = false ∧ n = 0 ∧ t = [] ∧ ns.length = vs.length ∧ ns.Nodup ∧ (∀ s ∈ ns, Fm s) ∧ 0 < d ∧ vs.length ≤ 1024 ∧ WfL vs (d - 1))
def WfL : List JV → Nat → Prop
  | [], _ => True
  | v :: vs, d => Wf v d ∧ WfL vs d
end

theorem blanks_stay {c : Nat} {m : List Nat} (h : isBlank c = false) : blanks (c :: m) = .ok () (c :: m) := by
  simp [blanks, skip, h]

theorem esc_long (c : Nat) : 1 ≤ (esc c).length := by
  unfold esc
  repeat' split
  all_goals simp

theorem qbody_long (s : List Nat) : s.length ≤ (qbody s).length := by
  induction s with
  | nil => simp
  | cons c s ih =>
    have := esc_long c
    simp only [qbody, List.flatMap_cons, List.length_append, List.length_cons] at ih ⊢
    omega

theorem quoted_long (s : List Nat) : s.length + 2 ≤ (quoted s).length := by
  have := qbody_long s
  simp [quoted]; omega

/-- a value's text begins with no blank -/
theorem written_head {v : JV} {d : Nat} (h : Wf v d) : ∃ c t, written v = c :: t ∧ isBlank c = false ∧ c ≠ 93 := by
  cases v with
  | mk k b n t ns vs =>
    simp only [Wf] at h
    rcases h with ⟨rfl, _⟩ | ⟨rfl, _⟩ | ⟨rfl, _⟩ | ⟨rfl, _, _, hn, _⟩ | ⟨rfl, _⟩ | ⟨rfl, _⟩ | ⟨rfl, _⟩
    · exact ⟨110, _, by simp [written]; rfl, rfl, by decide⟩
    · cases b
      · exact ⟨102, _, by simp [written]; rfl, rfl, by decide⟩
      · exact ⟨116, _, by simp [written]; rfl, rfl, by decide⟩
    · obtain ⟨x, ds, e, h1, _⟩ := natT_shape n.natAbs
      by_cases hn : n < 0
      · exact ⟨45, natT n.natAbs, by simp [written, intT, hn], rfl, by decide⟩
      · refine ⟨x, ds, by simp [written, intT, hn, e], ?_⟩
        simp [isDig] at h1; simp [isBlank]; omega
    · cases t with
      | nil => simp [number_nil] at hn
      | cons c t =>
        refine ⟨c, t, by simp [written], ?_⟩
        rcases number_head hn with rfl | h1
        · exact ⟨rfl, by decide⟩
        · simp [isDig] at h1; simp [isBlank]; omega
    · exact ⟨34, _, by simp [written, quoted]; rfl, rfl, by decide⟩
    · exact ⟨91, _, by simp [written]; rfl, rfl, by decide⟩
    · exact ⟨123, _, by simp [written]; rfl, rfl, by decide⟩

theorem number_value {F : Nat} {g : Option (Rd JV)} {a m : List Nat} {v : JV} (h : number a = .ok v []) (hm : StopL m) :
    valueB F g (a ++ m) = .ok v m := by
  cases a with
  | nil => simp [number_nil] at h
  | cons c a =>
    have hc := number_head h
    have hd : c = 45 ∨ (48 ≤ c ∧ c ≤ 57) := by
      rcases hc with h | h
      · exact .inl h
      · simp [isDig] at h; exact .inr h
    have e := Halts.number _ _ h m hm
    simp only [List.cons_append] at e ⊢
    simp only [valueB, sw]
    rw [if_neg (by omega), if_neg (by omega), if_neg (by omega), if_neg (by omega), if_neg (by omega), if_neg (by omega)]
    exact e

theorem fin_stop (obj : Bool) (m : List Nat) : StopL (fin obj :: m) := by
  refine .inr ⟨_, _, rfl, ?_⟩
  cases obj <;> simp [fin, StopC]

theorem fin_blank (obj : Bool) : isBlank (fin obj) = false := by cases obj <;> rfl

/-- the items are read back, one after another -/
theorem items_back {F : Nat} (d : Nat) (obj : Bool)
    (hv : ∀ v m, Wf v d → StopL m → (written v).length < F → value F d (written v ++ m) = .ok v m) :
    ∀ (vs : List JV) (n : Nat) (ns ns0 : List (List Nat)) (vs0 : List JV) (m : List Nat), vs ≠ [] → WfL vs d → vs.length ≤ n →
      vs0.length + vs.length ≤ 1024 → (itemsT obj ns vs).length < F →
      (obj = true → ns.length = vs.length ∧ (ns0 ++ ns).Nodup ∧ ∀ s ∈ ns, Fm s) → (obj = false → ns = []) →
      groupN F (value F d) obj n ns0 vs0 (itemsT obj ns vs ++ fin obj :: m) = .ok (ns0 ++ ns, vs0 ++ vs) m := by
  intro vs
  induction vs with
  | nil => intro n ns ns0 vs0 m h; exact absurd rfl h
  | cons v vs ih =>
    intro n ns ns0 vs0 m _ hw hn hk hl ho hq
    simp only [WfL] at hw
    simp only [List.length_cons] at hn hk
    obtain ⟨n, rfl⟩ : ∃ j, n = j + 1 := ⟨n - 1, by omega⟩
    obtain ⟨c, t, hc, hb, hx⟩ := written_head hw.1
    -- the rest behind the value
    have hrest : ∃ rest, itemsT obj ns (v :: vs) ++ fin obj :: m =
        (if obj then quoted (ns.headD []) ++ [58] else []) ++ (written v ++ rest) ∧ StopL rest ∧
        rest = (if vs.isEmpty then [] else 44 :: itemsT obj ns.tail vs) ++ fin obj :: m := by
      refine ⟨_, ?_, ?_, rfl⟩
      · simp [itemsT]
      · cases vs with
        | nil => simpa using fin_stop obj m
        | cons x xs => exact .inr ⟨44, _, by simp; rfl, .inl rfl⟩
    obtain ⟨rest, e, hs, er⟩ := hrest
    have hlv : (written v).length < F := by
      simp only [itemsT, List.length_append] at hl; omega
    have hname : ∃ ns1 ns2, ns0 ++ ns = ns1 ++ ns2 ∧ ns2 = ns.tail ∧
        nameR F obj ns0 ((if obj then quoted (ns.headD []) ++ [58] else []) ++ (written v ++ rest)) = .ok ns1 (written v ++ rest) := by
      cases obj with
      | false =>
        obtain rfl := hq rfl
        exact ⟨ns0, [], rfl, rfl, rfl⟩
      | true =>
        obtain ⟨h1, h2, h3⟩ := ho rfl
        cases ns with
        | nil => simp at h1
        | cons s ns =>
          refine ⟨ns0 ++ [s], ns, by simp, rfl, ?_⟩
          have hni : s ∉ ns0 := by
            intro hx
            rw [List.nodup_append] at h2
            exact h2.2.2 s hx s (by simp) rfl
          have hsl : s.length < F := by
            have := quoted_long s
            simp only [itemsT, if_true, List.headD_cons, List.length_append] at hl
            omega
          simp only [nameR, if_true, List.headD_cons, List.append_assoc]
          rw [then_go (text_back ns0 (h3 s (by simp)) hsl hni _)]
          rw [List.singleton_append, then_go (blanks_stay (by rfl)), then_go (need_go ⟨Nat.le_refl _, Nat.le_refl _⟩)]
          rfl
    obtain ⟨ns1, ns2, en, e2, hnm⟩ := hname
    rw [e, en]
    unfold groupN
    rw [then_go hnm, then_go (hv v rest hw.1 hs hlv)]
    cases vs with
    | nil =>
      simp only [List.isEmpty_nil, if_true, List.nil_append] at er
      subst er
      rw [then_go (blanks_stay (fin_blank obj))]
      have : ns2 = [] := by
        rw [e2]
        cases obj with
        | false => rw [hq rfl]; rfl
        | true =>
          have := (ho rfl).1
          cases ns with
          | nil => rfl
          | cons s ns => simp at this; simp [this]
      subst this
      simp [sw, Rd.pure]
    | cons x xs =>
      simp only [List.isEmpty_cons, Bool.false_eq_true, if_false, List.cons_append] at er
      subst er
      rw [then_go (blanks_stay (by rfl))]
      have hf : (44 : Nat) ≠ fin obj := by cases obj <;> simp [fin]
      simp only [List.length_cons] at hn hk
      simp only [sw, hf, if_false, if_true]
      rw [if_neg (by omega)]
      simp only
      -- blanks stay: the next item begins with no blank
      have hhead : ∃ y u, itemsT obj ns.tail (x :: xs) ++ fin obj :: m = y :: u ∧ isBlank y = false := by
        cases obj with
        | true => exact ⟨34, _, by simp [itemsT, quoted]; rfl, rfl⟩
        | false =>
          simp only [WfL] at hw
          obtain ⟨c, t, hc, hb, hx⟩ := written_head hw.2.1
          exact ⟨c, _, by simp [itemsT, hc]; rfl, hb⟩
      obtain ⟨y, u, ey, hy⟩ := hhead
      rw [ey, then_go (blanks_stay hy), ← ey]
      have hi := ih n ns.tail ns1 (vs0 ++ [v]) m (by simp) hw.2 (by simp; omega) (by simp; omega)
        (by simp only [itemsT, List.length_append, List.isEmpty_cons, Bool.false_eq_true, if_false, List.length_cons] at hl ⊢; omega)
        (by
          intro hob
          obtain ⟨h1, h2, h3⟩ := ho hob
          refine ⟨by simp [h1], by rw [← e2, ← en]; exact h2, fun s hs => h3 s (List.mem_of_mem_tail hs)⟩)
        (by intro hob; rw [hq hob]; rfl)
      rw [hi, e2]
      simp

theorem group_back {F : Nat} {f : Rd JV} {obj : Bool} {l m u : List Nat} {y : Nat} {p : List (List Nat) × List JV}
    (h : groupN F f obj F [] [] l = .ok p m) (e : l = y :: u) (hy : isBlank y = false) (hf : y ≠ fin obj) :
    group F f obj l = .ok (groupV obj p) m := by
  subst e
  unfold group
  refine then_go (p := blanks.then fun _ => _) (x := p) (m := m) ?_
  rw [then_go (blanks_stay hy)]
  simp only [sw, hf, if_false]
  exact h

/-- THE STAGE'S THEOREM, without a program: what is written is read back -/
theorem value_back {F : Nat} (hF : 1024 ≤ F) (d : Nat) : ∀ v m, Wf v d → StopL m → (written v).length < F →
    value F d (written v ++ m) = .ok v m := by
  have key : ∀ (d : Nat) (g : Option (Rd JV)), (∀ e, d = e + 1 → g = some (value F e) ∧
      ∀ v m, Wf v e → StopL m → (written v).length < F → value F e (written v ++ m) = .ok v m) →
      ∀ v m, Wf v d → StopL m → (written v).length < F → (blanks.then fun _ => valueB F g) (written v ++ m) = .ok v m := by
    intro d g hg v m hw hm hl
    obtain ⟨c, t, hc, hb, hx⟩ := written_head hw
    have e1 : blanks (written v ++ m) = .ok () (written v ++ m) := by rw [hc]; exact blanks_stay hb
    rw [then_go e1]
    cases v with
    | mk k b n t ns vs =>
      simp only [Wf] at hw
      rcases hw with ⟨rfl, rfl, rfl, rfl, rfl, rfl⟩ | ⟨rfl, rfl, rfl, rfl, rfl⟩ | ⟨rfl, rfl, hr, rfl, rfl, rfl⟩ |
        ⟨rfl, rfl, rfl, hn, rfl, rfl⟩ | ⟨rfl, rfl, rfl, hf, rfl, rfl⟩ | ⟨rfl, rfl, rfl, rfl, rfl, hd, hk, hws⟩ |
        ⟨rfl, rfl, rfl, rfl, hlen, hnd, hfm, hd, hk, hws⟩
      · simp [written]; rfl
      · cases b
        · simp [written]; rfl
        · simp [written]; rfl
      · have : written (.mk 2 false n [] [] []) = intT n := by simp [written]
        rw [this]
        exact number_value (number_int hr) hm
      · have : written (.mk 3 false 0 t [] []) = t := by simp [written]
        rw [this]
        exact number_value hn hm
      · have e : written (.mk 4 false 0 t [] []) = quoted t := by simp [written]
        rw [e] at hl ⊢
        have := quoted_long t
        have e2 := textN_back [] hf F [] m (by omega) (by simp)
        show ((textN [] F []).then fun s => Rd.pure (JV.mk 4 false 0 s [] [])) ((qbody t ++ [34]) ++ m) = _
        rw [List.append_assoc, List.singleton_append, then_go e2]
        rfl
      · obtain ⟨e, rfl⟩ : ∃ e, d = e + 1 := ⟨d - 1, by omega⟩
        obtain ⟨rfl, hv⟩ := hg e rfl
        have ew : written (.mk 5 false 0 [] [] vs) = 91 :: (itemsT false [] vs ++ [93]) := by simp [written]
        rw [ew] at hl ⊢
        show group F (value F e) false ((itemsT false [] vs ++ [93]) ++ m) = _
        rw [List.append_assoc, List.singleton_append]
        cases vs with
        | nil => rfl
        | cons x xs =>
          simp only [Nat.add_sub_cancel] at hws
          have hi := items_back e false hv (x :: xs) F [] [] [] m (by simp) hws (by omega) (by simpa using hk)
            (by simp only [List.length_cons, List.length_append] at hl; omega) (by simp) (by simp)
          simp only [WfL] at hws
          obtain ⟨c, t, hc, hb, hx⟩ := written_head hws.1
          have hc2 : ∃ u, itemsT false [] (x :: xs) ++ 93 :: m = c :: u := ⟨_, by simp [itemsT, hc]; rfl⟩
          obtain ⟨u, eu⟩ := hc2
          exact group_back hi eu hb hx
      · obtain ⟨e, rfl⟩ : ∃ e, d = e + 1 := ⟨d - 1, by omega⟩
        obtain ⟨rfl, hv⟩ := hg e rfl
        have ew : written (.mk 6 false 0 [] ns vs) = 123 :: (itemsT true ns vs ++ [125]) := by simp [written]
        rw [ew] at hl ⊢
        show group F (value F e) true ((itemsT true ns vs ++ [125]) ++ m) = _
        rw [List.append_assoc, List.singleton_append]
        cases vs with
        | nil =>
          obtain rfl : ns = [] := by cases ns with
            | nil => rfl
            | cons s ns => simp at hlen
          rfl
        | cons x xs =>
          simp only [Nat.add_sub_cancel] at hws
          have hi := items_back e true hv (x :: xs) F ns [] [] m (by simp) hws (by omega) (by simpa using hk)
            (by simp only [List.length_cons, List.length_append] at hl; omega) (fun _ => ⟨hlen, by simpa using hnd, hfm⟩) (by simp)
          have hc2 : ∃ u, itemsT true ns (x :: xs) ++ 125 :: m = 34 :: u := ⟨_, by simp [itemsT, quoted]; rfl⟩
          obtain ⟨u, eu⟩ := hc2
          exact group_back hi eu (by rfl) (by decide)
  induction d with
  | zero => exact key 0 none (by intro e h; omega)
  | succ d ih => exact key (d + 1) (some (value F d)) (by intro e h; cases h; exact ⟨rfl, ih⟩)

/-- Read of Text is the value -/
theorem read_back {F : Nat} (hF : 1024 ≤ F) {v : JV} (hw : Wf v 32) (hl : (written v).length < F) : read F (written v) = .ok v [] := by
  have h := value_back hF 32 v [] hw (.inl rfl) hl
  rw [List.append_nil] at h
  unfold read valueE
  have : ((value F 32).then fun v => blanks.then fun _ => Rd.pure v) (written v) = .ok v [] := by
    rw [then_go h]; rfl
  rw [then_go this]
  rfl

end Go.Proofs.YtcfalgomcdmdhaaDoor.J
namespace Go.Proofs.YtcfalgomcdmdhaaDoor.J

theorem char_go2 {c x : Nat} (h1 : 194 ≤ c) (h2 : c < 224) (h3 : 128 ≤ x) (h4 : x ≤ 191) (m : List Nat) :
    char ([c, x] ++ m) = .ok () m := by
  have e1 : lowC c = 128 := by unfold lowC; rw [if_neg (by omega), if_neg (by omega)]
  have e2 : highC c = 191 := by unfold highC; rw [if_neg (by omega), if_neg (by omega)]
  simp only [char, List.cons_append, List.nil_append]
  rw [then_go (need_go (by omega)), then_go (need_go (by rw [e1, e2]; omega))]
  simp [show ¬ 224 ≤ c by omega, show ¬ 240 ≤ c by omega, Rd.then, Rd.pure]

theorem char_go3 {c x y : Nat} (h1 : 224 ≤ c) (h2 : c < 240) (h3 : lowC c ≤ x) (h4 : x ≤ highC c) (h5 : 128 ≤ y) (h6 : y ≤ 191)
    (m : List Nat) : char ([c, x, y] ++ m) = .ok () m := by
  simp only [char, List.cons_append, List.nil_append]
  rw [then_go (need_go (by omega)), then_go (need_go ⟨h3, h4⟩)]
  simp only [h1, decide_true, if_true, show ¬ 240 ≤ c by omega, decide_false, Bool.false_eq_true, if_false]
  rw [then_go (need_go ⟨h5, h6⟩)]
  rfl

theorem char_go4 {c x y z : Nat} (h1 : 240 ≤ c) (h2 : c ≤ 244) (h3 : lowC c ≤ x) (h4 : x ≤ highC c) (h5 : 128 ≤ y) (h6 : y ≤ 191)
    (h7 : 128 ≤ z) (h8 : z ≤ 191) (m : List Nat) : char ([c, x, y, z] ++ m) = .ok () m := by
  simp only [char, List.cons_append, List.nil_append]
  rw [then_go (need_go (by omega)), then_go (need_go ⟨h3, h4⟩)]
  simp only [show 224 ≤ c by omega, decide_true, if_true, h1]
  rw [then_go (need_go ⟨h5, h6⟩), then_go (need_go ⟨h7, h8⟩)]
  rfl

theorem low_le (c : Nat) : 128 ≤ lowC c := by unfold lowC; repeat' split
                                              all_goals omega

theorem high_le (c : Nat) : highC c ≤ 191 := by unfold highC; repeat' split
                                                all_goals omega

/-- a character as it stands: these bytes, whatever stands behind -/
theorem char_ok {l r : List Nat} (h : char l = .ok () r) :
    ∃ p, l = p ++ r ∧ (∀ m, char (p ++ m) = .ok () m) ∧ (∀ c ∈ p, 128 ≤ c) ∧ p ≠ [] := by
  unfold char at h
  obtain ⟨c, m1, h1, h⟩ := then_ok h
  obtain ⟨x, m2, h2, h⟩ := then_ok h
  obtain ⟨y, m3, h3, h⟩ := then_ok h
  obtain ⟨z, m4, h4, h⟩ := then_ok h
  obtain ⟨_, rfl⟩ := pure_ok h
  obtain ⟨rfl, a1, a2⟩ := need_ok h1
  obtain ⟨rfl, b1, b2⟩ := need_ok h2
  have := low_le c
  have := high_le c
  by_cases g1 : 224 ≤ c
  · simp only [g1, decide_true, if_true] at h3
    obtain ⟨rfl, c1, c2⟩ := need_ok h3
    by_cases g2 : 240 ≤ c
    · simp only [g2, decide_true, if_true] at h4
      obtain ⟨rfl, d1, d2⟩ := need_ok h4
      refine ⟨[c, x, y, z], rfl, char_go4 g2 a2 b1 b2 c1 c2 d1 d2, ?_, by simp⟩
      intro k hk; simp at hk; omega
    · simp only [g2, decide_false, Bool.false_eq_true, if_false] at h4
      obtain ⟨_, rfl⟩ := pure_ok h4
      refine ⟨[c, x, y], rfl, char_go3 g1 (by omega) b1 b2 c1 c2, ?_, by simp⟩
      intro k hk; simp at hk; omega
  · have g2 : ¬ 240 ≤ c := by omega
    simp only [g1, decide_false, Bool.false_eq_true, if_false] at h3
    simp only [g2, decide_false, Bool.false_eq_true, if_false] at h4
    obtain ⟨_, rfl⟩ := pure_ok h3
    obtain ⟨_, rfl⟩ := pure_ok h4
    refine ⟨[c, x], rfl, char_go2 a1 (by omega) (by omega) (by omega), ?_, by simp⟩
    intro k hk; simp at hk; omega

theorem esc_short (c : Nat) : (esc c).length ≤ 6 := by
  unfold esc
  repeat' split
  all_goals simp

theorem qbody_high {p : List Nat} (h : ∀ c ∈ p, 128 ≤ c) : qbody p = p := by
  unfold qbody
  induction p with
  | nil => rfl
  | cons c p ih =>
    have h1 := h c (by simp)
    rw [List.flatMap_cons, ih fun c hc => h c (by simp [hc]), esc_high (by omega) (by omega) (by omega)]
    rfl

/-- a character that may be -/
def Chr (n : Nat) : Prop := n < 55296 ∨ (57343 < n ∧ n ≤ 1114111)

theorem utf8_fm {n : Nat} (h : Chr n) {s : List Nat} (hs : Fm s) : Fm (utf8 n ++ s) := by
  unfold Chr at h
  unfold utf8
  split
  · exact Fm.low n s (by omega) hs
  · split
    · refine Fm.high _ s (char_go2 (by omega) (by omega) (by omega) (by omega)) ?_ (by simp) hs
      intro c hc; simp at hc; omega
    · split
      · refine Fm.high _ s (char_go3 (by omega) (by omega) ?_ ?_ (by omega) (by omega)) ?_ (by simp) hs
        · unfold lowC; split
          · omega
          · split <;> omega
        · unfold highC; split
          · omega
          · split <;> omega
        · intro c hc; simp at hc; omega
      · refine Fm.high _ s (char_go4 (by omega) (by omega) ?_ ?_ (by omega) (by omega) (by omega) (by omega)) ?_ (by simp) hs
        · unfold lowC; split
          · omega
          · split <;> omega
        · unfold highC; split
          · omega
          · split <;> omega
        · intro c hc; simp at hc; omega

theorem hexW_lt {c x : Nat} (h : hexW c = some x) : x < 16 := by
  unfold hexW at h
  repeat' split at h
  all_goals first | (simp at h; omega) | simp at h

theorem sixteen_ok {low high x : Nat} {l r : List Nat} (h : sixteen low high l = .ok x r) :
    l.length = r.length + 1 ∧ low ≤ x ∧ x ≤ high ∧ x < 16 := by
  cases l with
  | nil => simp [sixteen, sw] at h
  | cons c l =>
    simp only [sixteen, sw] at h
    cases hc : hexW c with
    | none => simp [hc] at h
    | some y =>
      simp only [hc] at h
      by_cases hy : low ≤ y ∧ y ≤ high
      · simp only [hy, and_self, if_true, Rd.pure, Res.ok.injEq] at h
        obtain ⟨rfl, rfl⟩ := h
        exact ⟨by simp, hy.1, hy.2, hexW_lt hc⟩
      · simp [hy] at h

theorem unit_ok {n : Nat} {l r : List Nat} (h : unit l = .ok n r) : l.length = r.length + 4 ∧ n ≤ 65535 ∧ ¬ (56320 ≤ n ∧ n ≤ 57343) := by
  unfold unit at h
  obtain ⟨a, m1, h1, h⟩ := then_ok h
  obtain ⟨b, m2, h2, h⟩ := then_ok h
  obtain ⟨c, m3, h3, h⟩ := then_ok h
  obtain ⟨d, m4, h4, h⟩ := then_ok h
  obtain ⟨rfl, rfl⟩ := pure_ok h
  have a1 := sixteen_ok h1
  have a2 := sixteen_ok h2
  have a3 := sixteen_ok h3
  have a4 := sixteen_ok h4
  refine ⟨by omega, by omega, ?_⟩
  by_cases ha : a = 13
  · simp only [ha, if_true] at a2; omega
  · omega

theorem pairOr_ok {n x : Nat} {l r : List Nat} (hn : n ≤ 65535 ∧ ¬ (56320 ≤ n ∧ n ≤ 57343)) (h : pairOr n l = .ok x r) :
    r.length ≤ l.length ∧ Chr x := by
  refine ⟨(Good.pairOr n).le h, ?_⟩
  unfold pairOr at h
  split at h
  · obtain ⟨rfl, _⟩ := pure_ok h
    unfold Chr; omega
  · unfold second at h
    obtain ⟨_, m0, h0, h⟩ := then_ok h
    obtain ⟨a, m1, h1, h⟩ := then_ok h
    obtain ⟨b, m2, h2, h⟩ := then_ok h
    obtain ⟨c, m3, h3, h⟩ := then_ok h
    obtain ⟨d, m4, h4, h⟩ := then_ok h
    obtain ⟨rfl, rfl⟩ := pure_ok h
    have a2 := sixteen_ok h2
    have a3 := sixteen_ok h3
    have a4 := sixteen_ok h4
    unfold Chr; omega

theorem utf8_short (n : Nat) : (qbody (utf8 n)).length ≤ 6 ∧ (128 ≤ n → (qbody (utf8 n)).length ≤ 4) := by
  by_cases h : n < 128
  · have : qbody (utf8 n) = esc n := by simp [qbody, utf8, h]
    rw [this]
    exact ⟨esc_short n, by omega⟩
  · have hp : ∀ c ∈ utf8 n, 128 ≤ c := by
      intro c hc
      unfold utf8 at hc
      rw [if_neg h] at hc
      repeat' split at hc
      all_goals (simp at hc; omega)
    rw [qbody_high hp]
    have : (utf8 n).length ≤ 4 := by
      unfold utf8
      repeat' split
      all_goals simp
    omega

theorem escaped_ok {x : Nat} {l r : List Nat} (h : escaped l = .ok x r) : Chr x ∧ (qbody (utf8 x)).length + r.length ≤ l.length + 1 := by
  cases l with
  | nil => simp [escaped, sw] at h
  | cons c l =>
    simp only [escaped, sw] at h
    cases hc : sign c with
    | some y =>
      simp only [hc] at h
      obtain ⟨rfl, rfl⟩ := pure_ok h
      have : y = 34 ∨ y = 92 ∨ y = 47 ∨ y = 8 ∨ y = 12 ∨ y = 10 ∨ y = 13 ∨ y = 9 := by
        unfold sign at hc
        repeat' split at hc
        all_goals first | (simp at hc; omega) | simp at hc
      refine ⟨by unfold Chr; omega, ?_⟩
      rcases this with rfl | rfl | rfl | rfl | rfl | rfl | rfl | rfl <;> simp [qbody, utf8, esc] <;> omega
    | none =>
      simp only [hc] at h
      by_cases hu : c = 117
      · simp only [hu, if_true] at h
        obtain ⟨n, m, h1, h2⟩ := then_ok h
        have a1 := unit_ok h1
        have a2 := pairOr_ok a1.2 h2
        have a3 := (utf8_short x).1
        simp only [List.length_cons]
        exact ⟨a2.2, by omega⟩
      · simp [hu] at h

/-- a text that was read is well-formed, new, and no longer when it is written -/
theorem textN_ok (ns : List (List Nat)) (n : Nat) : ∀ o l s r, textN ns n o l = .ok s r →
    ∃ s', s = o ++ s' ∧ Fm s' ∧ s ∉ ns ∧ (qbody s').length + 1 + r.length ≤ l.length := by
  induction n with
  | zero => intro o l s r h; simp [textN] at h
  | succ n ih =>
    intro o l s r h
    cases l with
    | nil => simp [textN, sw] at h
    | cons c l =>
      simp only [textN, sw] at h
      by_cases h1 : c < 32
      · simp [h1] at h
      by_cases h2 : c = 34
      · subst h2
        by_cases h3 : o ∈ ns
        · simp [h3] at h
        · simp only [h1, h3, if_false, if_true] at h
          obtain ⟨rfl, rfl⟩ := pure_ok h
          exact ⟨[], by simp, Fm.nil, h3, by simp [qbody]; omega⟩
      by_cases h3 : c = 92
      · subst h3
        simp only [h1, h2, if_false, if_true] at h
        obtain ⟨x, m, h4, h5⟩ := then_ok h
        obtain ⟨a1, a2⟩ := escaped_ok h4
        obtain ⟨s', rfl, b1, b2, b3⟩ := ih _ _ _ _ h5
        refine ⟨utf8 x ++ s', by simp, utf8_fm a1 b1, b2, ?_⟩
        simp only [qbody, List.flatMap_append, List.length_append, List.length_cons] at a2 b3 ⊢
        omega
      by_cases h4 : c < 128
      · simp only [h1, h2, h3, h4, if_false, if_true] at h
        obtain ⟨s', rfl, b1, b2, b3⟩ := ih _ _ _ _ h
        refine ⟨c :: s', by simp, Fm.low c s' h4 b1, b2, ?_⟩
        simp only [qbody, List.flatMap_cons, esc_high h1 h2 h3, List.length_append, List.length_cons, List.length_nil] at b3 ⊢
        omega
      · simp only [h1, h2, h3, h4, if_false] at h
        obtain ⟨q, m, h5, h6⟩ := then_ok h
        obtain ⟨c1, c2⟩ := seen_ok Good.char h5
        obtain ⟨p, d1, d2, d3, d4⟩ := char_ok c1
        obtain rfl : q.2 = p := List.append_cancel_right (c2.symm.trans d1)
        obtain ⟨s', rfl, b1, b2, b3⟩ := ih _ _ _ _ h6
        refine ⟨q.2 ++ s', by simp, Fm.high _ s' d2 d3 d4 b1, b2, ?_⟩
        rw [c2]
        have := qbody_high d3
        simp only [qbody, List.flatMap_append, List.length_append] at this b3 ⊢
        rw [this]
        omega

theorem text_ok {F : Nat} {ns : List (List Nat)} {l s r : List Nat} (h : text F ns l = .ok s r) :
    Fm s ∧ s ∉ ns ∧ (quoted s).length + r.length ≤ l.length := by
  unfold text at h
  obtain ⟨c, m, h1, h2⟩ := then_ok h
  obtain ⟨rfl, _⟩ := need_ok h1
  obtain ⟨s', rfl, b1, b2, b3⟩ := textN_ok _ _ _ _ _ _ h2
  refine ⟨by simpa using b1, by simpa using b2, ?_⟩
  simp only [quoted, List.length_cons, List.length_append, List.length_nil]
  omega

/-! numbers -/

theorem natT_one {a e : Nat} (he : e ≤ 9) : (natT (10 * a + e)).length ≤ (natT a).length + 1 := by
  conv => lhs; unfold natT
  split
  · simp
  · rw [show (10 * a + e) / 10 = a by omega]; simp

theorem natT_fold (ds : List Nat) (h : ∀ x ∈ ds, isDig x = true) : ∀ a,
    (natT (ds.foldl (fun n d => 10 * n + (d - 48)) a)).length ≤ (natT a).length + ds.length := by
  induction ds with
  | nil => intro a; simp
  | cons d ds ih =>
    intro a
    have hd := h d (by simp)
    simp [isDig] at hd
    have h1 := ih (fun x hx => h x (by simp [hx])) (10 * a + (d - 48))
    have h2 := natT_one (a := a) (e := d - 48) (by omega)
    simp only [List.foldl_cons, List.length_cons]
    omega

theorem natT_len {ds : List Nat} (h : ∀ x ∈ ds, isDig x = true) (hn : ds ≠ []) : (natT (tens ds)).length ≤ ds.length := by
  cases ds with
  | nil => exact absurd rfl hn
  | cons d ds =>
    have hd := h d (by simp)
    simp [isDig] at hd
    have h1 := natT_fold ds (fun x hx => h x (by simp [hx])) (10 * 0 + (d - 48))
    have h2 : (natT (10 * 0 + (d - 48))).length = 1 := by
      unfold natT
      rw [dif_pos (by omega)]; rfl
    simp only [tens, List.foldl_cons, List.length_cons]
    omega

theorem may_ok {x : Nat} {b : Bool} {l r : List Nat} (h : may x l = .ok b r) : (b = true ∧ l = x :: r) ∨ (b = false ∧ l = r) := by
  cases l with
  | nil =>
    simp only [may, sw, Res.ok.injEq] at h
    exact .inr ⟨h.1.symm, h.2⟩
  | cons c l =>
    by_cases e : c = x
    · subst e
      rw [may_is] at h
      simp only [Res.ok.injEq] at h
      exact .inl ⟨h.1.symm, by rw [h.2]⟩
    · rw [may_not e] at h
      simp only [Res.ok.injEq] at h
      exact .inr ⟨h.1.symm, h.2⟩

theorem digits_ok {l r : List Nat} (h : digits l = .ok () r) : ∃ ds, l = ds ++ r ∧ ds ≠ [] ∧ ∀ x ∈ ds, isDig x = true := by
  unfold digits at h
  obtain ⟨c, m, h1, h2⟩ := then_ok h
  obtain ⟨rfl, a1, a2⟩ := need_ok h1
  simp only [skip, Res.ok.injEq, true_and] at h2
  refine ⟨c :: m.takeWhile isDig, ?_, by simp, ?_⟩
  · rw [← h2, List.cons_append, List.takeWhile_append_dropWhile]
  · intro x hx
    rcases List.mem_cons.1 hx with rfl | hx
    · simp [isDig]; omega
    · have : ∀ (m : List Nat), x ∈ m.takeWhile isDig → isDig x = true := by
        intro m
        induction m with
        | nil => simp
        | cons y m ih =>
          intro hx
          by_cases hy : isDig y = true
          · simp only [List.takeWhile_cons, hy, if_true, List.mem_cons] at hx
            rcases hx with rfl | hx
            · exact hy
            · exact ih hx
          · simp [hy] at hx
      exact this m hx

theorem numE_whole {p : Bool} {l r : List Nat} (h : numE p l = .ok true r) : p = false ∧ l = r := by
  unfold numE at h
  obtain ⟨e1, m1, h1, h⟩ := then_ok h
  obtain ⟨e, m2, h2, h⟩ := then_ok h
  obtain ⟨_, m3, h3, h⟩ := then_ok h
  obtain ⟨a1, a2⟩ := pure_ok h
  have hp : p = false ∧ e = false := by cases p <;> cases e <;> simp_all
  obtain ⟨rfl, rfl⟩ := hp
  refine ⟨rfl, ?_⟩
  cases e1 with
  | true =>
    simp only [if_true] at h2
    have := (pure_ok h2).1
    cases this
  | false =>
    simp only [Bool.false_eq_true, if_false] at h2 h3
    rcases may_ok h1 with ⟨hx, _⟩ | ⟨_, rfl⟩
    · cases hx
    rcases may_ok h2 with ⟨hx, _⟩ | ⟨_, rfl⟩
    · cases hx
    rw [(pure_ok h3).2, a2]

/-- a whole number: a minus or none, and digits -/
theorem numB_whole {l r : List Nat} (h : numB l = .ok true r) :
    ∃ ds, ds ≠ [] ∧ (∀ x ∈ ds, isDig x = true) ∧ (l = ds ++ r ∨ l = 45 :: (ds ++ r)) := by
  unfold numB at h
  obtain ⟨b, m1, h1, h⟩ := then_ok h
  obtain ⟨z, m2, h2, h⟩ := then_ok h
  obtain ⟨_, m3, h3, h⟩ := then_ok h
  unfold numP at h
  obtain ⟨p, m4, h4, h⟩ := then_ok h
  obtain ⟨_, m5, h5, h⟩ := then_ok h
  obtain ⟨rfl, rfl⟩ := numE_whole h
  simp only [Bool.false_eq_true, if_false] at h5
  obtain ⟨_, rfl⟩ := pure_ok h5
  rcases may_ok h4 with ⟨hx, _⟩ | ⟨_, rfl⟩
  · cases hx
  have : ∃ ds, m1 = ds ++ m3 ∧ ds ≠ [] ∧ ∀ x ∈ ds, isDig x = true := by
    cases z with
    | true =>
      simp only [if_true] at h3
      obtain ⟨_, rfl⟩ := pure_ok h3
      rcases may_ok h2 with ⟨_, rfl⟩ | ⟨hx, _⟩
      · exact ⟨[48], rfl, by simp, by simp [isDig]⟩
      · cases hx
    | false =>
      simp only [Bool.false_eq_true, if_false] at h3
      rcases may_ok h2 with ⟨hx, _⟩ | ⟨_, rfl⟩
      · cases hx
      · exact digits_ok h3
  obtain ⟨ds, rfl, d1, d2⟩ := this
  refine ⟨ds, d1, d2, ?_⟩
  rcases may_ok h1 with ⟨_, rfl⟩ | ⟨_, rfl⟩
  · exact .inr rfl
  · exact .inl rfl

theorem intT_len {s ds : List Nat} (h1 : ds ≠ []) (h2 : ∀ x ∈ ds, isDig x = true) (hs : s = ds ∨ s = 45 :: ds) :
    (intT (intOf s)).length ≤ s.length := by
  have h3 := natT_len h2 h1
  rcases hs with rfl | rfl
  · have : intOf s = tens s := by
      cases s with
      | nil => exact absurd rfl h1
      | cons d ds =>
        have hd := h2 d (by simp)
        unfold intOf
        split
        · rename_i h; simp at h; rw [h.1] at hd; simp [isDig] at hd
        · rfl
    rw [this]
    simp only [intT, show ¬ ((tens s : Int) < 0) by omega, if_false, Int.natAbs_natCast]
    exact h3
  · show (intT (-(tens ds : Int))).length ≤ _
    unfold intT
    split
    · simp only [Int.natAbs_neg, Int.natAbs_natCast, List.length_cons]; omega
    · simp only [Int.natAbs_neg, Int.natAbs_natCast, List.length_cons]; omega

theorem number_ok {l r : List Nat} {v : JV} (h : number l = .ok v r) (d : Nat) : Wf v d ∧ (written v).length + r.length ≤ l.length := by
  unfold number at h
  obtain ⟨⟨w, s⟩, m, h1, h2⟩ := then_ok h
  obtain ⟨rfl, rfl⟩ := pure_ok h2
  obtain ⟨a1, a2⟩ := seen_ok Good.numB h1
  simp only at a1 a2 ⊢
  subst a2
  unfold numV
  split
  · rename_i hc
    obtain ⟨hw, hne, hr⟩ := hc
    rw [hw] at a1
    obtain ⟨ds, b1, b2, b3⟩ := numB_whole a1
    have hs : s = ds ∨ s = 45 :: ds := by
      rcases b3 with b3 | b3
      · exact .inl (List.append_cancel_right b3)
      · exact .inr (List.append_cancel_right (show s ++ m = (45 :: ds) ++ m by simpa using b3))
    have := intT_len b1 b2 hs
    refine ⟨?_, ?_⟩
    · unfold Wf; exact .inr (.inr (.inl ⟨rfl, rfl, hr, rfl, rfl, rfl⟩))
    · simp [written]; exact this
  · rename_i hc
    refine ⟨?_, by simp [written]⟩
    unfold Wf
    refine .inr (.inr (.inr (.inl ⟨rfl, rfl, rfl, ?_, rfl, rfl⟩)))
    have e1 : numB (s ++ []) = .ok w [] := by simpa using Good.numB.ok1 a1
    have e2 := seen_go e1
    rw [List.append_nil] at e2
    unfold number
    rw [then_go e2]
    simp only [numV, Rd.pure]
    rw [if_neg hc]

/-! lists and objects -/

theorem word_ok {w l r : List Nat} (h : word w l = .ok () r) : l = w ++ r := by
  induction w generalizing l with
  | nil => simpa using (pure_ok h).2
  | cons c w ih =>
    unfold word at h
    obtain ⟨x, m, h1, h2⟩ := then_ok h
    obtain ⟨rfl, a1, a2⟩ := need_ok h1
    rw [ih h2, show x = c by omega]
    rfl

theorem nameR_ok {F : Nat} {obj : Bool} {ns ns' : List (List Nat)} {l r : List Nat} (h : nameR F obj ns l = .ok ns' r) :
    (obj = false ∧ ns' = ns ∧ l = r) ∨
    (obj = true ∧ ∃ s, ns' = ns ++ [s] ∧ Fm s ∧ s ∉ ns ∧ (quoted s).length + 1 + r.length ≤ l.length) := by
  cases obj with
  | false =>
    simp only [nameR, Bool.false_eq_true, if_false] at h
    obtain ⟨rfl, rfl⟩ := pure_ok h
    exact .inl ⟨rfl, rfl, rfl⟩
  | true =>
    simp only [nameR, if_true] at h
    obtain ⟨s, m1, h1, h⟩ := then_ok h
    obtain ⟨_, m2, h2, h⟩ := then_ok h
    obtain ⟨c, m3, h3, h⟩ := then_ok h
    obtain ⟨rfl, rfl⟩ := pure_ok h
    obtain ⟨a1, a2, a3⟩ := text_ok h1
    have b := Good.blanks.le h2
    obtain ⟨rfl, _⟩ := need_ok h3
    simp only [List.length_cons] at b
    exact .inr ⟨rfl, s, rfl, a1, a2, by omega⟩

/-- what the items of a list or an object come to -/
theorem groupN_ok {F d : Nat} {f : Rd JV} (hf : ∀ l v r, f l = .ok v r → Wf v d ∧ (written v).length + r.length ≤ l.length)
    (obj : Bool) (n : Nat) : ∀ ns0 vs0 l p r, groupN F f obj n ns0 vs0 l = .ok p r → vs0.length < 1024 →
    ∃ ns vs, p = (ns0 ++ ns, vs0 ++ vs) ∧ vs ≠ [] ∧ WfL vs d ∧ vs0.length + vs.length ≤ 1024 ∧
      (obj = true → ns.length = vs.length ∧ (ns0.Nodup → (ns0 ++ ns).Nodup) ∧ ∀ s ∈ ns, Fm s) ∧ (obj = false → ns = []) ∧
      (itemsT obj ns vs).length + 1 + r.length ≤ l.length := by
  induction n with
  | zero => intro ns0 vs0 l p r h; simp [groupN] at h
  | succ n ih =>
    intro ns0 vs0 l p r h h0
    unfold groupN at h
    obtain ⟨ns', m1, h1, h⟩ := then_ok h
    obtain ⟨v, m2, h2, h⟩ := then_ok h
    obtain ⟨_, m3, h3, h⟩ := then_ok h
    obtain ⟨w1, w2⟩ := hf _ _ _ h2
    have l3 := Good.blanks.le h3
    have hn := nameR_ok h1
    cases m3 with
    | nil => simp [sw] at h
    | cons c m3 =>
      simp only [List.length_cons] at l3
      simp only [sw] at h
      by_cases hc : c = fin obj
      · simp only [hc, if_true] at h
        obtain ⟨rfl, rfl⟩ := pure_ok h
        rcases hn with ⟨rfl, rfl, rfl⟩ | ⟨rfl, s, rfl, a1, a2, a3⟩
        · refine ⟨[], [v], by simp, by simp, ⟨w1, trivial⟩, by simp; omega, by simp, by simp, ?_⟩
          simp [itemsT]; omega
        · refine ⟨[s], [v], by simp, by simp, ⟨w1, trivial⟩, by simp; omega, ?_, by simp, ?_⟩
          · intro _
            refine ⟨rfl, ?_, by simpa using a1⟩
            intro hd
            rw [List.nodup_append]
            exact ⟨hd, by simp, by rintro a ha b hb rfl; simp at hb; subst hb; exact a2 ha⟩
          · simp [itemsT]; omega
      · by_cases hk : c = 44
        · subst hk
          simp only [hc, if_false, if_true] at h
          by_cases hm : vs0.length + 1 = 1024
          · simp [hm] at h
          simp only [hm, if_false] at h
          obtain ⟨_, m4, h4, h⟩ := then_ok h
          have l4 := Good.blanks.le h4
          obtain ⟨ns, vs, rfl, b1, b2, b3, b4, b5, b6⟩ := ih _ _ _ _ _ h (by simp; omega)
          simp only [List.length_append, List.length_cons, List.length_nil] at b3
          cases vs with
          | nil => exact absurd rfl b1
          | cons x xs =>
            rcases hn with ⟨rfl, rfl, rfl⟩ | ⟨rfl, s, rfl, a1, a2, a3⟩
            · obtain rfl := b5 rfl
              refine ⟨[], v :: x :: xs, by simp, by simp, ⟨w1, b2⟩, by simp at b3 ⊢; omega, by simp, by simp, ?_⟩
              rw [itemsT]
              simp only [Bool.false_eq_true, if_false, List.nil_append, List.isEmpty_cons, List.tail_nil, List.length_append, List.length_cons]
              omega
            · obtain ⟨c1, c2, c3⟩ := b4 rfl
              refine ⟨s :: ns, v :: x :: xs, by simp, by simp, ⟨w1, b2⟩, by simp at b3 ⊢; omega, ?_, by simp, ?_⟩
              · intro _
                refine ⟨by simp at c1 ⊢; exact c1, ?_, ?_⟩
                · intro hd
                  have : (ns0 ++ [s]).Nodup := by
                    rw [List.nodup_append]
                    exact ⟨hd, by simp, by rintro a ha b hb rfl; simp at hb; subst hb; exact a2 ha⟩
                  simpa using c2 this
                · intro t ht
                  rcases List.mem_cons.1 ht with rfl | ht
                  · exact a1
                  · exact c3 t ht
              · rw [itemsT]
                simp only [if_true, List.headD_cons, Bool.false_eq_true, if_false, List.isEmpty_cons, List.tail_cons, List.length_append, List.length_cons, List.length_nil]
                omega
        · simp [hc, hk] at h

theorem group_ok {F d : Nat} {f : Rd JV} (hf : ∀ l v r, f l = .ok v r → Wf v d ∧ (written v).length + r.length ≤ l.length)
    {obj : Bool} {l r : List Nat} {v : JV} (h : group F f obj l = .ok v r) :
    Wf v (d + 1) ∧ (written v).length + r.length ≤ l.length + 1 := by
  unfold group at h
  obtain ⟨p, m, h1, h⟩ := then_ok h
  obtain ⟨rfl, rfl⟩ := pure_ok h
  obtain ⟨_, m1, h2, h3⟩ := then_ok h1
  have l2 := Good.blanks.le h2
  cases m1 with
  | nil => simp [sw] at h3
  | cons c m1 =>
    simp only [List.length_cons] at l2
    simp only [sw] at h3
    by_cases hc : c = fin obj
    · simp only [hc, if_true] at h3
      obtain ⟨rfl, rfl⟩ := pure_ok h3
      cases obj
      · refine ⟨?_, by simp [groupV, written, itemsT]; omega⟩
        show Wf (.mk 5 false 0 [] [] []) (d + 1)
        unfold Wf
        exact .inr (.inr (.inr (.inr (.inr (.inl ⟨rfl, rfl, rfl, rfl, rfl, by omega, by simp, trivial⟩)))))
      · refine ⟨?_, by simp [groupV, written, itemsT]; omega⟩
        show Wf (.mk 6 false 0 [] [] []) (d + 1)
        unfold Wf
        exact .inr (.inr (.inr (.inr (.inr (.inr ⟨rfl, rfl, rfl, rfl, rfl, by simp, by simp, by omega, by simp, trivial⟩)))))
    · simp only [hc, if_false] at h3
      obtain ⟨ns, vs, rfl, b1, b2, b3, b4, b5, b6⟩ := groupN_ok hf obj F _ _ _ _ _ h3 (by simp)
      simp only [List.length_cons, List.length_nil, Nat.zero_add] at b3 b6
      cases obj
      · obtain rfl := b5 rfl
        refine ⟨?_, by simp [groupV, written]; omega⟩
        show Wf (.mk 5 false 0 [] [] vs) (d + 1)
        unfold Wf
        exact .inr (.inr (.inr (.inr (.inr (.inl ⟨rfl, rfl, rfl, rfl, rfl, by omega, b3, b2⟩)))))
      · obtain ⟨c1, c2, c3⟩ := b4 rfl
        refine ⟨?_, by simp [groupV, written]; omega⟩
        show Wf (.mk 6 false 0 [] ns vs) (d + 1)
        unfold Wf
        exact .inr (.inr (.inr (.inr (.inr (.inr ⟨rfl, rfl, rfl, rfl, c1, by simpa using c2 (by simp), c3, by omega, b3, b2⟩)))))

/-- what is read may be written, and is no longer then -/
theorem value_ok {F : Nat} (d : Nat) : ∀ l v r, value F d l = .ok v r → Wf v d ∧ (written v).length + r.length ≤ l.length := by
  have key : ∀ (d : Nat) (g : Option (Rd JV)), (∀ f, g = some f → ∃ e, d = e + 1 ∧
      ∀ l v r, f l = .ok v r → Wf v e ∧ (written v).length + r.length ≤ l.length) →
      ∀ l v r, (blanks.then fun _ => valueB F g) l = .ok v r → Wf v d ∧ (written v).length + r.length ≤ l.length := by
    intro d g hg l v r h
    obtain ⟨_, m, h1, h⟩ := then_ok h
    have l1 := Good.blanks.le h1
    suffices Wf v d ∧ (written v).length + r.length ≤ m.length from ⟨this.1, by omega⟩
    clear l1 h1
    cases m with
    | nil => simp [valueB, sw] at h
    | cons c m =>
      have hb : ∀ obj q, bracket F obj g = .take q → q m = .ok v r → Wf v d ∧ (written v).length + r.length ≤ (c :: m).length := by
        intro obj q hq h
        cases g with
        | none => cases hq
        | some f =>
          cases hq
          obtain ⟨e, rfl, hf⟩ := hg f rfl
          have := group_ok hf h
          simpa using this
      have hn : ∀ obj q, bracket F obj g ≠ .go q := by
        intro obj q h
        cases g <;> cases h
      simp only [valueB, sw] at h
      split at h
      · rename_i q hq
        repeat' split at hq
        all_goals first | exact hb _ _ hq h | cases hq
        · obtain ⟨s, m1, h1, h⟩ := then_ok h
          obtain ⟨rfl, rfl⟩ := pure_ok h
          obtain ⟨s', rfl, b1, b2, b3⟩ := textN_ok _ _ _ _ _ _ h1
          refine ⟨?_, by simp [written, quoted]; omega⟩
          unfold Wf
          exact .inr (.inr (.inr (.inr (.inl ⟨rfl, rfl, rfl, by simpa using b1, rfl, rfl⟩))))
        · obtain ⟨_, m1, h1, h⟩ := then_ok h
          obtain ⟨rfl, rfl⟩ := pure_ok h
          rw [word_ok h1]
          refine ⟨?_, by simp [written]; omega⟩
          unfold Wf
          exact .inl ⟨rfl, rfl, rfl, rfl, rfl, rfl⟩
        · obtain ⟨_, m1, h1, h⟩ := then_ok h
          obtain ⟨rfl, rfl⟩ := pure_ok h
          rw [word_ok h1]
          refine ⟨?_, by simp [written]; omega⟩
          unfold Wf
          exact .inr (.inl ⟨rfl, rfl, rfl, rfl, rfl⟩)
        · obtain ⟨_, m1, h1, h⟩ := then_ok h
          obtain ⟨rfl, rfl⟩ := pure_ok h
          rw [word_ok h1]
          refine ⟨?_, by simp [written]; omega⟩
          unfold Wf
          exact .inr (.inl ⟨rfl, rfl, rfl, rfl, rfl⟩)
      · rename_i q hq
        repeat' split at hq
        all_goals first | exact absurd hq (hn _ _) | cases hq
        exact number_ok h d
      · cases h
  induction d with
  | zero => exact key 0 none (by intro f h; cases h)
  | succ d ih => exact key (d + 1) (some (value F d)) (by intro f h; cases h; exact ⟨d, rfl, ih⟩)

/-- Text of what was read is read as the same value -/
theorem read_ok {F : Nat} {l r : List Nat} {v : JV} (h : read F l = .ok v r) : Wf v 32 ∧ (written v).length ≤ l.length := by
  unfold read valueE at h
  obtain ⟨v1, m1, h1, h⟩ := then_ok h
  obtain ⟨v2, m2, h2, h3⟩ := then_ok h1
  obtain ⟨_, m3, _, h4⟩ := then_ok h3
  obtain ⟨rfl, rfl⟩ := pure_ok h4
  have e : v2 = v := by
    unfold close at h
    split at h
    · simp at h; exact h.1
    · cases h
  subst e
  have := value_ok 32 _ _ _ h2
  exact ⟨this.1, by omega⟩

end Go.Proofs.YtcfalgomcdmdhaaDoor.J
