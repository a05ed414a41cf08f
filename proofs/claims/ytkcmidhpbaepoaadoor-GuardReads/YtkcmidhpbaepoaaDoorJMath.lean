/-
  Texts as values: the grammar, byte by byte: lists of numbers alone, no program.
-/
namespace Go.Proofs.YtkcmidhpbaepoaaDoor.J

/-- what a reader answers: a value and the rest; an error and the rest at the place; 'out': it was given too few rounds -/
inductive Res (α : Type) where
  | ok (v : α) (r : List Nat)
  | bad (e : Nat) (r : List Nat)
  | out

abbrev Rd (α : Type) := List Nat → Res α

def Rd.then {α β : Type} (p : Rd α) (q : α → Rd β) : Rd β := fun l =>
  match p l with
  | .ok v r => q v r
  | .bad e r => .bad e r
  | .out => .out

def Rd.pure {α : Type} (v : α) : Rd α := fun l => .ok v l

def Rd.fail {α : Type} (e : Nat) : Rd α := fun l => .bad e l

/-- what a reader has read is told too -/
def Rd.seen {α : Type} (p : Rd α) : Rd (α × List Nat) := fun l =>
  match p l with
  | .ok v r => .ok (v, l.take (l.length - r.length)) r
  | .bad e r => .bad e r
  | .out => .out

/-- a reader that looks no further than one byte ahead -/
structure Good {α : Type} (p : Rd α) : Prop where
  okS : ∀ l v r, p l = .ok v r → ∃ a, l = a ++ r
  badS : ∀ l e r, p l = .bad e r → ∃ a, l = a ++ r
  ok : ∀ a r v m, p (a ++ r) = .ok v r → (m = [] ∨ m.head? = r.head?) → p (a ++ m) = .ok v m
  bad1 : ∀ a r e, p (a ++ r) = .bad e r → p a = .bad 160 []
  bad2 : ∀ a c r e m, p (a ++ c :: r) = .bad e (c :: r) → p (a ++ c :: m) = .bad e (c :: m)

theorem Good.ok1 {α : Type} {p : Rd α} (h : Good p) {a r : List Nat} {v : α} (e : p (a ++ r) = .ok v r) : p a = .ok v [] := by
  have := h.ok a r v [] e (.inl rfl)
  simpa using this

theorem Good.pure {α : Type} (v : α) : Good (Rd.pure v) := by
  refine ⟨?_, ?_, ?_, ?_, ?_⟩
  · intro l v' r h; simp only [Rd.pure, Res.ok.injEq] at h; exact ⟨[], by simp [h.2]⟩
  · intro l e r h; simp [Rd.pure] at h
  · intro a r v' m h _
    simp only [Rd.pure, Res.ok.injEq] at h ⊢
    have : a = [] := by have := congrArg List.length h.2; simp at this; exact this
    subst this
    exact ⟨h.1, rfl⟩
  · intro a r e h; simp [Rd.pure] at h
  · intro a c r e m h; simp [Rd.pure] at h

theorem Good.then {α β : Type} {p : Rd α} {q : α → Rd β} (hp : Good p) (hq : ∀ v, Good (q v)) : Good (p.then q) := by
  refine ⟨?_, ?_, ?_, ?_, ?_⟩
  · intro l v r h
    unfold Rd.then at h
    split at h
    · rename_i v1 r1 h1
      obtain ⟨a, rfl⟩ := hp.okS _ _ _ h1
      obtain ⟨b, rfl⟩ := (hq v1).okS _ _ _ h
      exact ⟨a ++ b, by simp⟩
    · cases h
    · cases h
  · intro l e r h
    unfold Rd.then at h
    split at h
    · rename_i v1 r1 h1
      obtain ⟨a, rfl⟩ := hp.okS _ _ _ h1
      obtain ⟨b, rfl⟩ := (hq v1).badS _ _ _ h
      exact ⟨a ++ b, by simp⟩
    · rename_i e1 r1 h1
      cases h
      exact hp.badS _ _ _ h1
    · cases h
  · intro a r v m h hm
    unfold Rd.then at h ⊢
    split at h
    · rename_i v1 r1 h1
      obtain ⟨b, hb⟩ := (hq v1).okS _ _ _ h
      obtain ⟨a1, ha1⟩ := hp.okS _ _ _ h1
      subst hb
      have : a = a1 ++ b := by
        have h2 : a ++ r = (a1 ++ b) ++ r := by simp [ha1]
        exact List.append_cancel_right h2
      subst this
      have e1 : p (a1 ++ (b ++ m)) = .ok v1 (b ++ m) := by
        refine hp.ok a1 (b ++ r) v1 (b ++ m) (by simpa using h1) ?_
        cases b with
        | nil => simpa using hm
        | cons c b => right; simp
      rw [List.append_assoc, e1]
      exact (hq v1).ok b r v m h hm
    · cases h
    · cases h
  · intro a r e h
    unfold Rd.then at h
    split at h
    · rename_i v1 r1 h1
      obtain ⟨b, hb⟩ := (hq v1).badS _ _ _ h
      obtain ⟨a1, ha1⟩ := hp.okS _ _ _ h1
      subst hb
      have : a = a1 ++ b := by
        have h2 : a ++ r = (a1 ++ b) ++ r := by simp [ha1]
        exact List.append_cancel_right h2
      subst this
      have e1 : p (a1 ++ b) = .ok v1 b := by
        refine hp.ok a1 (b ++ r) v1 b (by simpa using h1) ?_
        cases b with
        | nil => left; rfl
        | cons c b => right; simp
      have := (hq v1).bad1 b r e h
      simpa only [Rd.then, e1] using this
    · rename_i e1 r1 h1
      cases h
      simp only [Rd.then, hp.bad1 a r e h1]
    · cases h
  · intro a c r e m h
    unfold Rd.then at h ⊢
    split at h
    · rename_i v1 r1 h1
      obtain ⟨b, hb⟩ := (hq v1).badS _ _ _ h
      obtain ⟨a1, ha1⟩ := hp.okS _ _ _ h1
      subst hb
      have : a = a1 ++ b := by
        have h2 : a ++ (c :: r) = (a1 ++ b) ++ (c :: r) := by simp [ha1]
        exact List.append_cancel_right h2
      subst this
      have e1 : p (a1 ++ (b ++ c :: m)) = .ok v1 (b ++ c :: m) := by
        refine hp.ok a1 (b ++ c :: r) v1 (b ++ c :: m) (by simpa using h1) ?_
        right
        cases b <;> simp
      rw [List.append_assoc, e1]
      exact (hq v1).bad2 b c r e m h
    · rename_i e1 r1 h1
      cases h
      rw [hp.bad2 a c r e m h1]
    · cases h

theorem Good.seen {α : Type} {p : Rd α} (hp : Good p) : Good p.seen := by
  have tk : ∀ (a r : List Nat), (a ++ r).take ((a ++ r).length - r.length) = a := by intro a r; simp
  refine ⟨?_, ?_, ?_, ?_, ?_⟩
  · intro l v r h
    unfold Rd.seen at h
    split at h <;> cases h
    rename_i h1
    exact hp.okS _ _ _ h1
  · intro l e r h
    unfold Rd.seen at h
    split at h <;> cases h
    rename_i h1
    exact hp.badS _ _ _ h1
  · intro a r v m h hm
    unfold Rd.seen at h ⊢
    split at h <;> cases h
    rename_i v1 h1
    rw [hp.ok a r v1 m h1 hm]
    simp only [tk]
  · intro a r e h
    unfold Rd.seen at h
    split at h <;> cases h
    rename_i h1
    simp only [Rd.seen, hp.bad1 a r e h1]
  · intro a c r e m h
    unfold Rd.seen at h
    split at h <;> cases h
    rename_i h1
    simp only [Rd.seen, hp.bad2 a c r e m h1]

/-- what the next byte calls for: it is taken; it stays, and one goes on; one stops there -/
inductive Act (α : Type) where
  | take (q : Rd α)
  | go (q : Rd α)
  | stop (e : Nat)

def sw {α : Type} (f : Nat → Act α) (z : Res α) : Rd α := fun l =>
  match l with
  | [] => z
  | c :: r => match f c with
    | .take q => q r
    | .go q => q (c :: r)
    | .stop e => .bad e (c :: r)

/-- what may be at the end -/
def EndR {α : Type} (z : Res α) : Prop := z = .bad 160 [] ∨ ∃ v, z = .ok v []

theorem Good.sw {α : Type} {f : Nat → Act α} {z : Res α} (hz : EndR z)
    (ht : ∀ c q, f c = .take q → Good q) (hg : ∀ c q, f c = .go q → Good q ∧ q [] = z)
    (hs : ∀ c e, f c = .stop e → z = .bad 160 []) : Good (sw f z) := by
  have long : ∀ (b r : List Nat) (c : Nat), r ≠ b ++ c :: r := by
    intro b r c h; have := congrArg List.length h; simp at this; omega
  refine ⟨?_, ?_, ?_, ?_, ?_⟩
  · intro l v r h
    cases l with
    | nil =>
      simp only [J.sw] at h
      rcases hz with hz | ⟨v', hz⟩
      · rw [hz] at h; cases h
      · rw [hz] at h; cases h; exact ⟨[], rfl⟩
    | cons c l =>
      simp only [J.sw] at h
      split at h
      · rename_i q hq
        obtain ⟨a, rfl⟩ := (ht c q hq).okS _ _ _ h
        exact ⟨c :: a, rfl⟩
      · rename_i q hq
        exact (hg c q hq).1.okS _ _ _ h
      · cases h
  · intro l e r h
    cases l with
    | nil =>
      simp only [J.sw] at h
      rcases hz with hz | ⟨v', hz⟩
      · rw [hz] at h; cases h; exact ⟨[], rfl⟩
      · rw [hz] at h; cases h
    | cons c l =>
      simp only [J.sw] at h
      split at h
      · rename_i q hq
        obtain ⟨a, rfl⟩ := (ht c q hq).badS _ _ _ h
        exact ⟨c :: a, rfl⟩
      · rename_i q hq
        exact (hg c q hq).1.badS _ _ _ h
      · cases h; exact ⟨[], rfl⟩
  · intro a r v m h hm
    cases a with
    | nil =>
      simp only [List.nil_append] at h ⊢
      cases r with
      | nil =>
        have : m = [] := by
          rcases hm with hm | hm
          · exact hm
          · cases m <;> simp_all
        subst this; exact h
      | cons c r =>
        simp only [J.sw] at h
        split at h
        · rename_i q hq
          obtain ⟨b, hb⟩ := (ht c q hq).okS _ _ _ h
          exact absurd hb (long b r c)
        · rename_i q hq
          obtain ⟨g1, g2⟩ := hg c q hq
          rcases hm with rfl | hm
          · simp only [J.sw]; rw [← g2]; exact g1.ok1 (a := []) (by simpa using h)
          · cases m with
            | nil => simp at hm
            | cons d m =>
              simp at hm; subst hm
              simp only [J.sw, hq]
              simpa using g1.ok [] (d :: r) v (d :: m) (by simpa using h) (.inr rfl)
        · cases h
    | cons c a =>
      simp only [List.cons_append, J.sw] at h ⊢
      split at h
      · rename_i q hq
        exact (ht c q hq).ok a r v m h hm
      · rename_i q hq
        exact (hg c q hq).1.ok (c :: a) r v m h hm
      · cases h
  · intro a r e h
    cases a with
    | nil =>
      simp only [List.nil_append] at h
      cases r with
      | nil =>
        simp only [J.sw] at h ⊢
        rcases hz with hz | ⟨v', hz⟩
        · exact hz
        · rw [hz] at h; cases h
      | cons c r =>
        simp only [J.sw] at h ⊢
        split at h
        · rename_i q hq
          obtain ⟨b, hb⟩ := (ht c q hq).badS _ _ _ h
          exact absurd hb (long b r c)
        · rename_i q hq
          obtain ⟨g1, g2⟩ := hg c q hq
          rw [← g2]
          exact g1.bad1 [] (c :: r) e (by simpa using h)
        · rename_i e' hq
          exact hs c e' hq
    | cons c a =>
      simp only [List.cons_append, J.sw] at h ⊢
      split at h
      · rename_i q hq
        exact (ht c q hq).bad1 a r e h
      · rename_i q hq
        exact (hg c q hq).1.bad1 (c :: a) r e h
      · simp only [Res.bad.injEq] at h
        exact absurd h.2.symm (by intro h; have := congrArg List.length h; simp at this; omega)
  · intro a d r e m h
    cases a with
    | nil =>
      simp only [List.nil_append] at h ⊢
      simp only [J.sw] at h ⊢
      split at h
      · rename_i q hq
        obtain ⟨b, hb⟩ := (ht d q hq).badS _ _ _ h
        exact absurd hb (long b r d)
      · rename_i q hq
        simpa using (hg d q hq).1.bad2 [] d r e m (by simpa using h)
      · simp_all
    | cons c a =>
      simp only [List.cons_append, J.sw] at h ⊢
      split at h
      · rename_i q hq
        exact (ht c q hq).bad2 a d r e m h
      · rename_i q hq
        exact (hg c q hq).1.bad2 (c :: a) d r e m h
      · simp only [Res.bad.injEq] at h
        exact absurd h.2 (by intro h; have := congrArg List.length h; simp at this; omega)

/-- over all bytes of a kind -/
def skip (t : Nat → Bool) : Rd Unit := fun l => .ok () (l.dropWhile t)

theorem Good.skip (t : Nat → Bool) : Good (skip t) := by
  refine ⟨?_, ?_, ?_, ?_, ?_⟩
  · intro l v r h
    simp only [J.skip, Res.ok.injEq] at h
    exact ⟨l.takeWhile t, by rw [← h.2, List.takeWhile_append_dropWhile]⟩
  · intro l e r h; simp [J.skip] at h
  · intro a r v m h hm
    simp only [J.skip, Res.ok.injEq, true_and] at h ⊢
    induction a with
    | nil =>
      simp only [List.nil_append] at h ⊢
      rcases hm with rfl | hm
      · rfl
      · cases m with
        | nil => rfl
        | cons c m =>
          cases r with
          | nil => simp at hm
          | cons d r =>
            simp at hm; subst hm
            cases hc : t c with
            | false => simp [hc]
            | true =>
              simp [hc] at h
              have := congrArg List.length h
              have h2 := (List.dropWhile_suffix (l := r) t).length_le
              simp at this; omega
    | cons c a ih =>
      cases hc : t c with
      | true => simp [hc] at h ⊢; exact ih h
      | false =>
        simp [hc] at h
        exact absurd h (by intro h; have := congrArg List.length h; simp at this; omega)
  · intro a r e h; simp [J.skip] at h
  · intro a c r e m h; simp [J.skip] at h

theorem Good.out {α : Type} : Good (fun _ => Res.out : Rd α) := by
  refine ⟨?_, ?_, ?_, ?_, ?_⟩ <;> intros <;> simp_all

theorem Good.iteB {α : Type} {b : Bool} {p q : Rd α} (hp : Good p) (hq : Good q) : Good (if b then p else q) := by
  cases b <;> simp [hp, hq]

/-! the grammar -/

/-- a value: its Kind, Bool, Int, Text, Names, Items -/
inductive JV where
  | mk (kind : Nat) (b : Bool) (n : Int) (text : List Nat) (names : List (List Nat)) (items : List JV)

def isBlank (c : Nat) : Bool := c = 32 || c = 9 || c = 10 || c = 13
def isDig (c : Nat) : Bool := 48 ≤ c && c ≤ 57

def need (a b : Nat) : Rd Nat :=
  sw (fun c => if a ≤ c ∧ c ≤ b then .take (Rd.pure c) else .stop 160) (.bad 160 [])

def may (x : Nat) : Rd Bool :=
  sw (fun c => if c = x then .take (Rd.pure true) else .go (Rd.pure false)) (.ok false [])

def blanks : Rd Unit := skip isBlank

def digits : Rd Unit := (need 48 57).then fun _ => skip isDig

def word : List Nat → Rd Unit
  | [] => Rd.pure ()
  | c :: w => (need c c).then fun _ => word w

theorem Good.need (a b : Nat) : Good (need a b) := by
  refine Good.sw (.inl rfl) ?_ ?_ ?_
  · intro c q h; split at h <;> cases h; exact Good.pure _
  · intro c q h; split at h <;> cases h
  · intro c e h; rfl

theorem Good.may (x : Nat) : Good (may x) := by
  refine Good.sw (.inr ⟨_, rfl⟩) ?_ ?_ ?_
  · intro c q h; split at h <;> cases h; exact Good.pure _
  · intro c q h; split at h <;> cases h; exact ⟨Good.pure _, rfl⟩
  · intro c e h; split at h <;> cases h

theorem Good.blanks : Good blanks := Good.skip _
theorem Good.digits : Good digits := Good.then (Good.need _ _) fun _ => Good.skip _

theorem Good.word (w : List Nat) : Good (word w) := by
  induction w with
  | nil => exact Good.pure _
  | cons c w ih => exact Good.then (Good.need _ _) fun _ => ih

/-- a number's bytes; is it whole? -/
def numE (p : Bool) : Rd Bool :=
  (may 101).then fun e1 => (if e1 then Rd.pure true else may 69).then fun e =>
    (if e then (may 43).then fun pl => (if pl then Rd.pure true else may 45).then fun _ => digits else Rd.pure ()).then fun _ =>
      Rd.pure (!p && !e)

def numP : Rd Bool :=
  (may 46).then fun p => (if p then digits else Rd.pure ()).then fun _ => numE p

def numB : Rd Bool :=
  (may 45).then fun _ => (may 48).then fun z => (if z then Rd.pure () else digits).then fun _ => numP

theorem Good.numE (p : Bool) : Good (numE p) :=
  Good.then (Good.may _) fun _ => Good.then (Good.iteB (Good.pure _) (Good.may _)) fun _ =>
    Good.then (Good.iteB (Good.then (Good.may _) fun _ => Good.then (Good.iteB (Good.pure _) (Good.may _)) fun _ => Good.digits) (Good.pure _)) fun _ =>
      Good.pure _

theorem Good.numP : Good numP :=
  Good.then (Good.may _) fun _ => Good.then (Good.iteB Good.digits (Good.pure _)) fun _ => Good.numE _

theorem Good.numB : Good numB :=
  Good.then (Good.may _) fun _ => Good.then (Good.may _) fun _ => Good.then (Good.iteB (Good.pure _) Good.digits) fun _ => Good.numP

def tens (l : List Nat) : Nat := l.foldl (fun n d => 10 * n + (d - 48)) 0

def intOf (s : List Nat) : Int :=
  match s with
  | 45 :: r => -(tens r : Int)
  | s => tens s

def numV (whole : Bool) (s : List Nat) : JV :=
  if whole ∧ s ≠ [45, 48] ∧ -9223372036854775808 ≤ intOf s ∧ intOf s ≤ 9223372036854775807 then
    .mk 2 false (intOf s) [] [] [] else .mk 3 false 0 s [] []

def number : Rd JV := numB.seen.then fun p => Rd.pure (numV p.1 p.2)

theorem Good.number : Good number := Good.then Good.numB.seen fun _ => Good.pure _

/-- a sixteen's worth -/
def hexW (c : Nat) : Option Nat :=
  if 48 ≤ c ∧ c ≤ 57 then some (c - 48) else if 65 ≤ c ∧ c ≤ 70 then some (c - 55)
  else if 97 ≤ c ∧ c ≤ 102 then some (c - 87) else none

def sixteen (low high : Nat) : Rd Nat :=
  sw (fun c => match hexW c with
    | some x => if low ≤ x ∧ x ≤ high then .take (Rd.pure x) else .stop 160
    | none => .stop 160) (.bad 160 [])

theorem Good.sixteen (low high : Nat) : Good (sixteen low high) := by
  refine Good.sw (.inl rfl) ?_ ?_ ?_
  · intro c q h
    split at h
    · split at h <;> cases h; exact Good.pure _
    · cases h
  · intro c q h
    split at h
    · split at h <;> cases h
    · cases h
  · intro c e h; rfl

def unit : Rd Nat :=
  (sixteen 0 15).then fun a => (sixteen 0 (if a = 13 then 11 else 15)).then fun b =>
    (sixteen 0 15).then fun c => (sixteen 0 15).then fun d => Rd.pure (4096 * a + 256 * b + 16 * c + d)

theorem Good.unit : Good unit :=
  Good.then (Good.sixteen _ _) fun _ => Good.then (Good.sixteen _ _) fun _ => Good.then (Good.sixteen _ _) fun _ =>
    Good.then (Good.sixteen _ _) fun _ => Good.pure _

/-- the second half of a pair -/
def second (n : Nat) : Rd Nat :=
  (word [92, 117]).then fun _ => (sixteen 13 13).then fun _ => (sixteen 12 15).then fun b =>
    (sixteen 0 15).then fun x => (sixteen 0 15).then fun y =>
      Rd.pure (65536 + 1024 * (n - 55296) + 256 * (b - 12) + 16 * x + y)

theorem Good.second (n : Nat) : Good (second n) :=
  Good.then (Good.word _) fun _ => Good.then (Good.sixteen _ _) fun _ => Good.then (Good.sixteen _ _) fun _ =>
    Good.then (Good.sixteen _ _) fun _ => Good.then (Good.sixteen _ _) fun _ => Good.pure _

def pairOr (n : Nat) : Rd Nat := if n < 55296 ∨ 56319 < n then Rd.pure n else second n

theorem Good.pairOr (n : Nat) : Good (pairOr n) := by
  unfold J.pairOr
  split
  · exact Good.pure _
  · exact Good.second _

/-- an escape of one sign -/
def sign (c : Nat) : Option Nat :=
  if c = 34 then some 34 else if c = 92 then some 92 else if c = 47 then some 47 else if c = 98 then some 8
  else if c = 102 then some 12 else if c = 110 then some 10 else if c = 114 then some 13 else if c = 116 then some 9 else none

def escaped : Rd Nat :=
  sw (fun c => match sign c with
    | some x => .take (Rd.pure x)
    | none => if c = 117 then .take (unit.then pairOr) else .stop 160) (.bad 160 [])

theorem Good.escaped : Good escaped := by
  refine Good.sw (.inl rfl) ?_ ?_ ?_
  · intro c q h
    split at h
    · cases h; exact Good.pure _
    · split at h <;> cases h
      exact Good.then Good.unit Good.pairOr
  · intro c q h
    split at h
    · cases h
    · split at h <;> cases h
  · intro c e h; rfl

/-- a character's bytes -/
def utf8 (n : Nat) : List Nat :=
  if n < 128 then [n] else if n < 2048 then [192 + n / 64, 128 + n % 64]
  else if n < 65536 then [224 + n / 4096, 128 + n / 64 % 64, 128 + n % 64]
  else [240 + n / 262144, 128 + n / 4096 % 64, 128 + n / 64 % 64, 128 + n % 64]

def lowC (c : Nat) : Nat := if c = 224 then 160 else if c = 240 then 144 else 128
def highC (c : Nat) : Nat := if c = 237 then 159 else if c = 244 then 143 else 191

/-- a character above 127, as it stands -/
def char : Rd Unit :=
  (need 194 244).then fun c => (need (lowC c) (highC c)).then fun _ =>
    (if decide (224 ≤ c) then need 128 191 else Rd.pure 0).then fun _ =>
      (if decide (240 ≤ c) then need 128 191 else Rd.pure 0).then fun _ => Rd.pure ()

theorem Good.char : Good char :=
  Good.then (Good.need _ _) fun _ => Good.then (Good.need _ _) fun _ =>
    Good.then (Good.iteB (Good.need _ _) (Good.pure _)) fun _ =>
      Good.then (Good.iteB (Good.need _ _) (Good.pure _)) fun _ => Good.pure _

/-- a text behind its first quote; what was read of it -/
def textN (ns : List (List Nat)) : Nat → List Nat → Rd (List Nat)
  | 0, _ => fun _ => .out
  | n + 1, o => sw (fun c =>
      if c < 32 then .stop 160
      else if c = 34 then (if o ∈ ns then .stop 160 else .take (Rd.pure o))
      else if c = 92 then .take (escaped.then fun x => textN ns n (o ++ utf8 x))
      else if c < 128 then .take (textN ns n (o ++ [c]))
      else .go (char.seen.then fun p => textN ns n (o ++ p.2))) (.bad 160 [])

theorem Good.textN (ns : List (List Nat)) (n : Nat) : ∀ o, Good (textN ns n o) := by
  induction n with
  | zero => intro o; exact Good.out
  | succ n ih =>
    intro o
    unfold J.textN
    refine Good.sw (.inl rfl) ?_ ?_ ?_
    · intro c q h
      repeat' split at h
      all_goals first | cases h | skip
      · exact Good.pure _
      · exact Good.then Good.escaped fun _ => ih _
      · exact ih _
    · intro c q h
      repeat' split at h
      all_goals first | cases h | skip
      exact ⟨Good.then Good.char.seen fun _ => ih _, rfl⟩
    · intro c e h; rfl

def text (F : Nat) (ns : List (List Nat)) : Rd (List Nat) := (need 34 34).then fun _ => textN ns F []

theorem Good.text (F : Nat) (ns : List (List Nat)) : Good (text F ns) := Good.then (Good.need _ _) fun _ => Good.textN _ _ _

/-- an object's name and its colon -/
def nameR (F : Nat) (obj : Bool) (ns : List (List Nat)) : Rd (List (List Nat)) :=
  if obj then (text F ns).then fun s => blanks.then fun _ => (need 58 58).then fun _ => Rd.pure (ns ++ [s]) else Rd.pure ns

theorem Good.nameR (F : Nat) (obj : Bool) (ns : List (List Nat)) : Good (nameR F obj ns) :=
  Good.iteB (Good.then (Good.text _ _) fun _ => Good.then Good.blanks fun _ => Good.then (Good.need _ _) fun _ => Good.pure _) (Good.pure _)

def fin (obj : Bool) : Nat := if obj then 125 else 93

/-- the items of a list or an object -/
def groupN (F : Nat) (f : Rd JV) (obj : Bool) : Nat → List (List Nat) → List JV → Rd (List (List Nat) × List JV)
  | 0, _, _ => fun _ => .out
  | n + 1, ns, vs =>
    (nameR F obj ns).then fun ns' => f.then fun v => blanks.then fun _ =>
      sw (fun c => if c = fin obj then .take (Rd.pure (ns', vs ++ [v]))
        else if c = 44 then (if vs.length + 1 = 1024 then .stop 4 else .take (blanks.then fun _ => groupN F f obj n ns' (vs ++ [v])))
        else .stop 160) (.bad 160 [])

theorem Good.groupN (F : Nat) {f : Rd JV} (hf : Good f) (obj : Bool) (n : Nat) : ∀ ns vs, Good (groupN F f obj n ns vs) := by
  induction n with
  | zero => intro ns vs; exact Good.out
  | succ n ih =>
    intro ns vs
    unfold J.groupN
    refine Good.then (Good.nameR _ _ _) fun ns' => Good.then hf fun v => Good.then Good.blanks fun _ => ?_
    refine Good.sw (.inl rfl) ?_ ?_ ?_
    · intro c q h
      repeat' split at h
      all_goals first | cases h | skip
      · exact Good.pure _
      · exact Good.then Good.blanks fun _ => ih _ _
    · intro c q h
      repeat' split at h
      all_goals cases h
    · intro c e h; rfl

def groupV (obj : Bool) (p : List (List Nat) × List JV) : JV := .mk (if obj then 6 else 5) false 0 [] p.1 p.2

/-- a list or an object behind its bracket -/
def group (F : Nat) (f : Rd JV) (obj : Bool) : Rd JV :=
  (blanks.then fun _ => sw (fun c => if c = fin obj then .take (Rd.pure (([], []) : List (List Nat) × List JV))
    else .go (groupN F f obj F [] [])) (.bad 160 [])).then fun p => Rd.pure (groupV obj p)

theorem groupN_end (F : Nat) {f : Rd JV} (h0 : f [] = .bad 160 []) (obj : Bool) (n : Nat) (ns : List (List Nat)) (vs : List JV) :
    groupN F f obj (n + 1) ns vs [] = .bad 160 [] := by
  cases obj
  · simp [groupN, nameR, Rd.then, Rd.pure, h0]
  · simp [groupN, nameR, Rd.then, text, need, sw]

theorem Good.group {F : Nat} (hF : 0 < F) {f : Rd JV} (hf : Good f) (h0 : f [] = .bad 160 []) (obj : Bool) : Good (group F f obj) := by
  refine Good.then (Good.then Good.blanks fun _ => ?_) fun _ => Good.pure _
  obtain ⟨n, rfl⟩ : ∃ n, F = n + 1 := ⟨F - 1, by omega⟩
  refine Good.sw (.inl rfl) ?_ ?_ ?_
  · intro c q h
    split at h <;> cases h
    exact Good.pure _
  · intro c q h
    split at h <;> cases h
    exact ⟨Good.groupN _ hf _ _ _ _, groupN_end _ h0 _ _ _ _⟩
  · intro c e h; rfl

/-- a bracket, so many more of which may stand within each other -/
def bracket (F : Nat) (obj : Bool) : Option (Rd JV) → Act JV
  | none => .stop 161
  | some f => .take (group F f obj)

/-- a value whose first byte stands there -/
def valueB (F : Nat) (g : Option (Rd JV)) : Rd JV :=
  sw (fun c =>
    if c = 91 then bracket F false g
    else if c = 123 then bracket F true g
    else if c = 34 then .take ((textN [] F []).then fun s => Rd.pure (.mk 4 false 0 s [] []))
    else if c = 110 then .take ((word [117, 108, 108]).then fun _ => Rd.pure (.mk 0 false 0 [] [] []))
    else if c = 116 then .take ((word [114, 117, 101]).then fun _ => Rd.pure (.mk 1 true 0 [] [] []))
    else if c = 102 then .take ((word [97, 108, 115, 101]).then fun _ => Rd.pure (.mk 1 false 0 [] [] []))
    else .go number) (.bad 160 [])

def value (F : Nat) : Nat → Rd JV
  | 0 => blanks.then fun _ => valueB F none
  | d + 1 => blanks.then fun _ => valueB F (some (value F d))

theorem value_end (F d : Nat) : value F d [] = .bad 160 [] := by
  cases d <;> simp [value, Rd.then, blanks, skip, valueB, sw]

theorem Good.value {F : Nat} (hF : 0 < F) (d : Nat) : Good (value F d) := by
  have key : ∀ g : Option (Rd JV), (∀ f, g = some f → Good f ∧ f [] = .bad 160 []) → Good (valueB F g) := by
    intro g hg
    have hb : ∀ obj q, bracket F obj g = .take q → Good q := by
      intro obj q h
      cases g with
      | none => cases h
      | some f => cases h; exact Good.group hF (hg f rfl).1 (hg f rfl).2 obj
    have hn : ∀ obj q, bracket F obj g ≠ .go q := by
      intro obj q h
      cases g <;> cases h
    refine Good.sw (.inl rfl) ?_ ?_ ?_
    · intro c q h
      repeat' split at h
      all_goals first | exact hb _ _ h | cases h
      · exact Good.then (Good.textN _ _ _) fun _ => Good.pure _
      · exact Good.then (Good.word _) fun _ => Good.pure _
      · exact Good.then (Good.word _) fun _ => Good.pure _
      · exact Good.then (Good.word _) fun _ => Good.pure _
    · intro c q h
      repeat' split at h
      all_goals first | exact absurd h (hn _ _) | cases h
      exact ⟨Good.number, rfl⟩
    · intro c e h; rfl
  induction d with
  | zero => exact Good.then Good.blanks fun _ => key _ (by intro f h; cases h)
  | succ d ih => exact Good.then Good.blanks fun _ => key _ (by intro f h; cases h; exact ⟨ih, value_end F d⟩)

/-- nothing more may stand there -/
def close (v : JV) : Rd JV := fun l =>
  match l with
  | [] => .ok v []
  | c :: r => .bad 160 (c :: r)

/-- a value, and blanks behind it -/
def valueE (F : Nat) : Rd JV := (value F 32).then fun v => blanks.then fun _ => Rd.pure v

theorem Good.valueE {F : Nat} (hF : 0 < F) : Good (valueE F) :=
  Good.then (Good.value hF 32) fun _ => Good.then Good.blanks fun _ => Good.pure _

def read (F : Nat) : Rd JV := (valueE F).then close

/-- P16.8: ahead of a place that was told -/
theorem read_ahead {F : Nat} (hF : 0 < F) {a r : List Nat} {e : Nat} (h : read F (a ++ r) = .bad e r) :
    (∃ v, read F a = .ok v []) ∨ read F a = .bad 160 [] := by
  have hv := Good.valueE hF
  unfold read Rd.then at h ⊢
  split at h
  · rename_i v1 r1 h1
    obtain rfl : r1 = r := by
      unfold close at h
      split at h <;> cases h
      rfl
    left
    exact ⟨v1, by rw [hv.ok1 h1]; rfl⟩
  · rename_i e1 r1 h1
    cases h
    right
    rw [hv.bad1 a r e h1]
  · cases h

/-- P16.8: with the byte there it is refused just so, whatever comes behind -/
theorem read_behind {F : Nat} (hF : 0 < F) {a r m : List Nat} {c e : Nat} (h : read F (a ++ c :: r) = .bad e (c :: r)) :
    read F (a ++ c :: m) = .bad e (c :: m) := by
  have hv := Good.valueE hF
  unfold read Rd.then at h ⊢
  split at h
  · rename_i v1 r1 h1
    obtain ⟨rfl, rfl⟩ : r1 = c :: r ∧ e = 160 := by
      unfold close at h
      split at h <;> cases h
      exact ⟨rfl, rfl⟩
    rw [hv.ok a (c :: r) v1 (c :: m) h1 (.inr rfl)]
    rfl
  · rename_i e1 r1 h1
    cases h
    rw [hv.bad2 a c r e m h1]
  · cases h

/-- a place lies within the text -/
theorem read_place {F : Nat} (hF : 0 < F) {l r : List Nat} {e : Nat} (h : read F l = .bad e r) : ∃ a, l = a ++ r := by
  have hv := Good.valueE hF
  unfold read Rd.then at h
  split at h
  · rename_i v1 r1 h1
    obtain rfl : r1 = r := by
      unfold close at h
      split at h <;> cases h
      rfl
    exact hv.okS _ _ _ h1
  · rename_i e1 r1 h1
    cases h
    exact hv.badS _ _ _ h1
  · cases h

theorem read_all {F : Nat} {l r : List Nat} {v : JV} (h : read F l = .ok v r) : r = [] := by
  unfold read Rd.then at h
  split at h
  · unfold close at h
    split at h <;> cases h
    rfl
  · cases h
  · cases h

end Go.Proofs.YtkcmidhpbaepoaaDoor.J
