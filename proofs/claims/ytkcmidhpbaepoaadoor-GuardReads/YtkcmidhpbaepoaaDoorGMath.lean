/-
  Guards read: tokens and the grammar, over places of a text. No program.
-/
import Derived.Test.YtkcmidhpbaepoaaDoorJDInt
namespace Go.Proofs.YtkcmidhpbaepoaaDoor.G

/-- A guard whose texts are bytes. -/
inductive GB where
  | mk (kind : Nat) (n : Int) (text : ByteArray) (kids : List GB)

def isSm (c : Nat) : Bool := decide (97 ≤ c) && decide (c ≤ 122)
def isDg (c : Nat) : Bool := decide (48 ≤ c) && decide (c ≤ 57)
def isLt (c : Nat) : Bool := isSm c || isDg c || decide (c = 45) || decide (c = 95) || decide (c = 46)
def isCh (c : Nat) : Bool := decide (32 ≤ c) && decide (c ≤ 126) && decide (c ≠ 39)
def isSg (c : Nat) : Bool := decide (c = 61) || decide (c = 60) || decide (c = 43) || decide (c = 45) || decide (c = 42) || decide (c = 40) || decide (c = 41)
/-- how many at the beginning -/
def cnt (f : Nat → Bool) : List Nat → Nat
  | [] => 0
  | c :: r => if f c then cnt f r + 1 else 0
theorem cnt_le (f : Nat → Bool) : ∀ l, cnt f l ≤ l.length
  | [] => by simp [cnt]
  | c :: r => by
    have := cnt_le f r
    simp only [cnt]
    split
    · simp only [List.length_cons]; omega
    · omega
theorem cnt_lt {f : Nat → Bool} : ∀ {l : List Nat} {i : Nat}, i < cnt f l → f (l.getD i 0) = true
  | [], i, h => by simp [cnt] at h
  | c :: r, i, h => by
    simp only [cnt] at h
    split at h
    · rename_i hc
      cases i with
      | zero => simpa using hc
      | succ i => simp only [List.getD_cons_succ]; exact cnt_lt (by omega)
    · omega
theorem cnt_end {f : Nat → Bool} : ∀ {l : List Nat}, cnt f l < l.length → f (l.getD (cnt f l) 0) = false
  | [], h => by simp [cnt] at h
  | c :: r, h => by
    simp only [cnt] at h ⊢
    split
    · rename_i hc
      rw [if_pos hc] at h
      simp only [List.getD_cons_succ]
      exact cnt_end (by simp only [List.length_cons] at h; omega)
    · rename_i hc
      simpa using hc
/-- a count, found: all up to there, and there none -/
theorem cnt_is {f : Nat → Bool} : ∀ {l : List Nat} {n : Nat}, n ≤ l.length → (∀ i, i < n → f (l.getD i 0) = true) → (n < l.length → f (l.getD n 0) = false) → cnt f l = n
  | [], n, h, _, _ => by simp only [List.length_nil] at h; simp only [cnt]; omega
  | c :: r, 0, _, _, h2 => by
    have := h2 (by simp)
    simp only [List.getD_cons_zero] at this
    simp [cnt, this]
  | c :: r, n + 1, h, h1, h2 => by
    have hc := h1 0 (by omega)
    simp only [List.getD_cons_zero] at hc
    simp only [cnt, hc, if_true]
    congr 1
    refine cnt_is (by simp only [List.length_cons] at h; omega) (fun i hi => ?_) (fun hn => ?_)
    · have := h1 (i + 1) (by omega)
      simpa using this
    · have := h2 (by simp only [List.length_cons]; omega)
      simpa using this
def wordN : List Nat → Nat
  | [] => 0
  | c :: r => if isSm c then cnt isLt r + 1 else 0
theorem wordN_le (l : List Nat) : wordN l ≤ l.length := by
  cases l with
  | nil => simp [wordN]
  | cons c r =>
    have := cnt_le isLt r
    simp only [wordN]
    split
    · simp only [List.length_cons]; omega
    · omega
def digN : List Nat → Nat
  | [] => 0
  | c :: r => if c = 48 then 1 else cnt isDg r + 1
theorem digN_le (l : List Nat) : digN l ≤ l.length := by
  cases l with
  | nil => simp [digN]
  | cons c r =>
    have := cnt_le isDg r
    simp only [digN]
    split
    · simp only [List.length_cons]; omega
    · simp only [List.length_cons]; omega
def tkTrue : List Nat := [116, 114, 117, 101]
def tkFalse : List Nat := [102, 97, 108, 115, 101]
def tkOpen : List Nat := [111, 112, 101, 110]
def tkDone : List Nat := [100, 111, 110, 101]
def tkNot : List Nat := [110, 111, 116]
def tkAnd : List Nat := [97, 110, 100]
def tkOr : List Nat := [111, 114]
def taken (w : List Nat) : Bool := decide (w = tkAnd) || decide (w = tkOr) || decide (w = tkNot) || decide (w = tkTrue) || decide (w = tkFalse) || decide (w = tkOpen) || decide (w = tkDone)

/-- A token. -/
inductive Tk where
  | sg (c : Nat)
  | wd (w : List Nat)
  | nm (w : List Nat)
  | nu (n : Nat)
  | tx (t : List Nat)
  | fin
  | non
/-- the token that begins a text, and of how many bytes it is -/
def tokC (c : Nat) (r : List Nat) : Tk × Nat :=
    if isSg c then (.sg c, 1)
    else if c = 39 then (if (r.drop (cnt isCh r)).head? = some 39 then (.tx (r.take (cnt isCh r)), cnt isCh r + 2) else (.non, 0))
    else if isDg c then (if J.tens ((c :: r).take (digN (c :: r))) ≤ 9223372036854775807 then (.nu (J.tens ((c :: r).take (digN (c :: r)))), digN (c :: r)) else (.non, 0))
    else if wordN (c :: r) = 0 ∨ 32 < wordN (c :: r) then (.non, 0)
    else if taken ((c :: r).take (wordN (c :: r))) then (.wd ((c :: r).take (wordN (c :: r))), wordN (c :: r))
    else (.nm ((c :: r).take (wordN (c :: r))), wordN (c :: r))
def tok : List Nat → Tk × Nat
  | [] => (.fin, 0)
  | c :: r => tokC c r
theorem tok_len (l : List Nat) : (tok l).2 ≤ l.length := by
  cases l with
  | nil => simp [tok]
  | cons c r =>
    have h1 := cnt_le isCh r
    have h2 := digN_le (c :: r)
    have h3 := wordN_le (c :: r)
    show (tokC c r).2 ≤ _
    unfold tokC
    split
    · simp
    split
    · split
      · rename_i hh
        simp only [List.length_cons]
        rw [List.head?_drop, List.getElem?_eq_some_iff] at hh
        obtain ⟨hh, _⟩ := hh
        omega
      · simp
    split
    · split
      · exact h2
      · simp
    split
    · simp
    split
    · exact h3
    · exact h3
/-- a token is some bytes, but for the end and none -/
theorem tok_pos {l : List Nat} (h : (tok l).1 ≠ .fin) (h' : (tok l).1 ≠ .non) : 1 ≤ (tok l).2 := by
  cases l with
  | nil => exact absurd rfl h
  | cons c r =>
    change (tokC c r).1 ≠ _ at h'
    show 1 ≤ (tokC c r).2
    unfold tokC at h' ⊢
    split
    · simp
    split
    · rename_i h1 h2
      rw [if_neg h1, if_pos h2] at h'
      split
      · simp
      · rename_i h3
        rw [if_neg h3] at h'
        exact absurd rfl h'
    split
    · rename_i h1 h2 h3
      rw [if_neg h1, if_neg h2, if_pos h3] at h'
      split
      · simp only [digN]; split <;> omega
      · rename_i h4
        rw [if_neg h4] at h'
        exact absurd rfl h'
    split
    · rename_i h1 h2 h3 h4
      rw [if_neg h1, if_neg h2, if_neg h3, if_pos h4] at h'
      exact absurd rfl h'
    split
    · rename_i h4 _
      show 1 ≤ wordN (c :: r)
      omega
    · rename_i h4 _
      show 1 ≤ wordN (c :: r)
      omega
/-- what stands at a place -/
def tkAt (S : List Nat) (p : Nat) : Tk := (tok (S.drop p)).1
def skip (S : List Nat) (p : Nat) : Nat := p + cnt (fun c => decide (c = 32)) (S.drop p)
/-- where the next token begins -/
def nx (S : List Nat) (p : Nat) : Nat := skip S (p + (tok (S.drop p)).2)
theorem skip_le {S : List Nat} {p : Nat} (h : p ≤ S.length) : p ≤ skip S p ∧ skip S p ≤ S.length := by
  have := cnt_le (fun c => decide (c = 32)) (S.drop p)
  rw [List.length_drop] at this
  unfold skip
  omega
theorem nx_le {S : List Nat} {p : Nat} (h : p ≤ S.length) : p ≤ nx S p ∧ nx S p ≤ S.length := by
  have := tok_len (S.drop p)
  rw [List.length_drop] at this
  have := skip_le (S := S) (p := p + (tok (S.drop p)).2) (by omega)
  unfold nx
  omega
theorem nx_lt {S : List Nat} {p : Nat} (h : p ≤ S.length) (h1 : tkAt S p ≠ .fin) (h2 : tkAt S p ≠ .non) : p < nx S p := by
  have h3 := tok_pos h1 h2
  have h4 := tok_len (S.drop p)
  rw [List.length_drop] at h4
  have := skip_le (S := S) (p := p + (tok (S.drop p)).2) (by omega)
  unfold nx
  omega

/-! the grammar -/

def leaf (k : Nat) : GB := .mk k 0 ByteArray.empty []
def named (k : Nat) (w : List Nat) : GB := .mk k 0 (strOf w) []
def pair (k : Nat) (a b : GB) : GB := .mk k 0 ByteArray.empty [a, b]
def one (k : Nat) (a : GB) : GB := .mk k 0 ByteArray.empty [a]
/-- or, and, sums, products: the kinds of operators between parts of a level -/
inductive Lv where
  | ors | ands | sums | prods
def opk : Lv → Tk → Option Nat
  | .ors, .wd w => if w = tkOr then some 10 else none
  | .ands, .wd w => if w = tkAnd then some 9 else none
  | .sums, .sg c => if c = 43 then some 13 else if c = 45 then some 14 else none
  | .prods, .sg c => if c = 42 then some 15 else none
  | _, _ => none
def relk : Tk → Option Nat
  | .sg c => if c = 61 then some 11 else if c = 60 then some 12 else none
  | _ => none
/-- a part of one token -/
def leafk : Tk → Option GB
  | .wd w => if w = tkTrue then some (leaf 1) else if w = tkFalse then some (leaf 2) else none
  | .nu n => some (.mk 3 n ByteArray.empty [])
  | .tx t => some (named 4 t)
  | .nm w => some (named 5 w)
  | _ => none
def brkk : Tk → Option Nat
  | .wd w => if w = tkOpen then some 6 else if w = tkDone then some 7 else none
  | _ => none
/-- a name in brackets -/
def brk (S : List Nat) (k : Nat) (p : Nat) : Nat × Option GB :=
  match tkAt S p with
  | .sg 40 =>
    match tkAt S (nx S p) with
    | .nm w =>
      match tkAt S (nx S (nx S p)) with
      | .sg 41 => (nx S (nx S (nx S p)), some (named k w))
      | _ => (nx S (nx S p), none)
    | _ => (nx S p, none)
  | _ => (p, none)
inductive Sym where
  | lv (k : Lv)
  | loop (k : Lv) (g : GB)
  | part
  | rel (g : GB)
  | atom
def low : Lv → Sym
  | .ors => .lv .ands
  | .ands => .part
  | .sums => .lv .prods
  | .prods => .atom
/-- what is read from a place: up to where, and which guard; none: the token there was refused -/
inductive R (S : List Nat) : Sym → Nat → Nat → Option GB → Prop where
  | lv_ok {k p p1 p2 g r} : R S (low k) p p1 (some g) → R S (.loop k g) p1 p2 r → R S (.lv k) p p2 r
  | lv_no {k p p1} : R S (low k) p p1 none → R S (.lv k) p p1 none
  | loop_stop {k g p} : opk k (tkAt S p) = none → R S (.loop k g) p p (some g)
  | loop_ok {k g p m p1 h p2 r} : opk k (tkAt S p) = some m → R S (low k) (nx S p) p1 (some h) → R S (.loop k (pair m g h)) p1 p2 r → R S (.loop k g) p p2 r
  | loop_no {k g p m p1} : opk k (tkAt S p) = some m → R S (low k) (nx S p) p1 none → R S (.loop k g) p p1 none
  | not_ok {p p1 g} : tkAt S p = .wd tkNot → R S .part (nx S p) p1 (some g) → R S .part p p1 (some (one 8 g))
  | not_no {p p1} : tkAt S p = .wd tkNot → R S .part (nx S p) p1 none → R S .part p p1 none
  | part_ok {p p1 p2 g r} : tkAt S p ≠ .wd tkNot → R S (.lv .sums) p p1 (some g) → R S (.rel g) p1 p2 r → R S .part p p2 r
  | part_no {p p1} : tkAt S p ≠ .wd tkNot → R S (.lv .sums) p p1 none → R S .part p p1 none
  | rel_stop {g p} : relk (tkAt S p) = none → R S (.rel g) p p (some g)
  | rel_ok {g p m p1 h} : relk (tkAt S p) = some m → R S (.lv .sums) (nx S p) p1 (some h) → R S (.rel g) p p1 (some (pair m g h))
  | rel_no {g p m p1} : relk (tkAt S p) = some m → R S (.lv .sums) (nx S p) p1 none → R S (.rel g) p p1 none
  | leaf {p g} : leafk (tkAt S p) = some g → R S .atom p (nx S p) (some g)
  | brk {p k} : brkk (tkAt S p) = some k → R S .atom p (brk S k (nx S p)).1 (brk S k (nx S p)).2
  | paren_ok {p p1 g} : tkAt S p = .sg 40 → R S (.lv .ors) (nx S p) p1 (some g) → tkAt S p1 = .sg 41 → R S .atom p (nx S p1) (some g)
  | paren_end {p p1 g} : tkAt S p = .sg 40 → R S (.lv .ors) (nx S p) p1 (some g) → tkAt S p1 ≠ .sg 41 → R S .atom p p1 none
  | paren_no {p p1} : tkAt S p = .sg 40 → R S (.lv .ors) (nx S p) p1 none → R S .atom p p1 none
  | atom_no {p} : leafk (tkAt S p) = none → brkk (tkAt S p) = none → tkAt S p ≠ .sg 40 → R S .atom p p none
theorem R_one {S : List Nat} {s : Sym} {p p1 p2 : Nat} {r1 r2 : Option GB} (h1 : R S s p p1 r1) (h2 : R S s p p2 r2) : p1 = p2 ∧ r1 = r2 := by
  induction h1 generalizing p2 r2 with
  | lv_ok _ _ ih1 ih2 =>
    cases h2 with
    | lv_ok a b =>
      obtain ⟨rfl, e⟩ := ih1 a
      cases e
      exact ih2 b
    | lv_no a => have := ih1 a; cases this.2
  | lv_no _ ih =>
    cases h2 with
    | lv_ok a b => have := ih a; cases this.2
    | lv_no a => exact ih a
  | loop_stop h =>
    cases h2 with
    | loop_stop _ => exact ⟨rfl, rfl⟩
    | loop_ok a _ _ => rw [h] at a; cases a
    | loop_no a _ => rw [h] at a; cases a
  | loop_ok h _ _ ih1 ih2 =>
    cases h2 with
    | loop_stop a => rw [h] at a; cases a
    | loop_ok a b c =>
      rw [h] at a
      cases a
      obtain ⟨rfl, e⟩ := ih1 b
      cases e
      exact ih2 c
    | loop_no a b =>
      have := ih1 b; cases this.2
  | loop_no h _ ih =>
    cases h2 with
    | loop_stop a => rw [h] at a; cases a
    | loop_ok a b c => have := ih b; cases this.2
    | loop_no a b => exact ih b
  | not_ok h _ ih =>
    cases h2 with
    | not_ok a b =>
      obtain ⟨rfl, e⟩ := ih b
      cases e
      exact ⟨rfl, rfl⟩
    | not_no a b => have := ih b; cases this.2
    | part_ok a _ _ => exact absurd h a
    | part_no a _ => exact absurd h a
  | not_no h _ ih =>
    cases h2 with
    | not_ok a b => have := ih b; cases this.2
    | not_no a b => exact ih b
    | part_ok a _ _ => exact absurd h a
    | part_no a _ => exact absurd h a
  | part_ok h _ _ ih1 ih2 =>
    cases h2 with
    | not_ok a b => exact absurd a h
    | not_no a b => exact absurd a h
    | part_ok a b c =>
      obtain ⟨rfl, e⟩ := ih1 b
      cases e
      exact ih2 c
    | part_no a b => have := ih1 b; cases this.2
  | part_no h _ ih =>
    cases h2 with
    | not_ok a b => exact absurd a h
    | not_no a b => exact absurd a h
    | part_ok a b c => have := ih b; cases this.2
    | part_no a b => exact ih b
  | rel_stop h =>
    cases h2 with
    | rel_stop _ => exact ⟨rfl, rfl⟩
    | rel_ok a _ => rw [h] at a; cases a
    | rel_no a _ => rw [h] at a; cases a
  | rel_ok h _ ih =>
    cases h2 with
    | rel_stop a => rw [h] at a; cases a
    | rel_ok a b =>
      rw [h] at a
      cases a
      obtain ⟨rfl, e⟩ := ih b
      cases e
      exact ⟨rfl, rfl⟩
    | rel_no a b => have := ih b; cases this.2
  | rel_no h _ ih =>
    cases h2 with
    | rel_stop a => rw [h] at a; cases a
    | rel_ok a b => have := ih b; cases this.2
    | rel_no a b => exact ih b
  | leaf h =>
    cases h2 with
    | leaf a => rw [h] at a; cases a; exact ⟨rfl, rfl⟩
    | brk a =>
      revert h a
      cases tkAt S _ <;> simp only [leafk, brkk, reduceCtorEq, false_implies, implies_true]
      intro h a
      split at a
      · rename_i e; subst e; simp [tkOpen, tkTrue, tkFalse] at h
      · split at a
        · rename_i e; subst e; simp [tkDone, tkTrue, tkFalse] at h
        · cases a
    | paren_ok a _ _ => rw [a] at h; cases h
    | paren_end a _ _ => rw [a] at h; cases h
    | paren_no a _ => rw [a] at h; cases h
    | atom_no a _ _ => rw [h] at a; cases a
  | brk h =>
    cases h2 with
    | leaf a =>
      revert h a
      cases tkAt S _ <;> simp only [leafk, brkk, reduceCtorEq, false_implies, implies_true]
      intro a h
      split at a
      · rename_i e; subst e; simp [tkOpen, tkTrue, tkFalse] at h
      · split at a
        · rename_i e; subst e; simp [tkDone, tkTrue, tkFalse] at h
        · cases a
    | brk a => rw [h] at a; cases a; exact ⟨rfl, rfl⟩
    | paren_ok a _ _ => rw [a] at h; cases h
    | paren_end a _ _ => rw [a] at h; cases h
    | paren_no a _ => rw [a] at h; cases h
    | atom_no _ a _ => rw [h] at a; cases a
  | paren_ok h _ hp ih =>
    cases h2 with
    | leaf a => rw [h] at a; cases a
    | brk a => rw [h] at a; cases a
    | paren_ok a b c =>
      obtain ⟨rfl, e⟩ := ih b
      cases e
      exact ⟨rfl, rfl⟩
    | paren_end a b c =>
      obtain ⟨rfl, e⟩ := ih b
      exact absurd hp c
    | paren_no a b => have := ih b; cases this.2
    | atom_no _ _ a => exact absurd h a
  | paren_end h _ hp ih =>
    cases h2 with
    | leaf a => rw [h] at a; cases a
    | brk a => rw [h] at a; cases a
    | paren_ok a b c =>
      obtain ⟨rfl, e⟩ := ih b
      exact absurd c hp
    | paren_end a b c =>
      obtain ⟨rfl, e⟩ := ih b
      exact ⟨rfl, rfl⟩
    | paren_no a b => have := ih b; cases this.2
    | atom_no _ _ a => exact absurd h a
  | paren_no h _ ih =>
    cases h2 with
    | leaf a => rw [h] at a; cases a
    | brk a => rw [h] at a; cases a
    | paren_ok a b c => have := ih b; cases this.2
    | paren_end a b c => have := ih b; cases this.2
    | paren_no a b => exact ih b
    | atom_no _ _ a => exact absurd h a
  | atom_no h1 h2' h3 =>
    cases h2 with
    | leaf a => rw [h1] at a; cases a
    | brk a => rw [h2'] at a; cases a
    | paren_ok a b c => exact absurd a h3
    | paren_end a b c => exact absurd a h3
    | paren_no a b => exact absurd a h3
    | atom_no _ _ _ => exact ⟨rfl, rfl⟩
end Go.Proofs.YtkcmidhpbaepoaaDoor.G
