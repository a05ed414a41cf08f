/-
  Pieces of sectors, with no program: which may be, which sectors they have, and the runs of sectors.
-/
namespace Go.Proofs.Ytfplpdnhhefbaaa

abbrev Pcs := List (Int × Int)
def Apart (p q : Int × Int) : Prop := p.1 + p.2 ≤ q.1 ∨ q.1 + q.2 ≤ p.1
def Wn (count : Int) (p : Int × Int) : Prop := 0 ≤ p.1 ∧ 1 ≤ p.2 ∧ p.2 ≤ count - p.1
def wnB (count : Int) (p : Int × Int) : Bool := decide (0 ≤ p.1 ∧ 1 ≤ p.2 ∧ p.2 ≤ count - p.1)
theorem wnB_yes {count : Int} {p : Int × Int} (h : Wn count p) : wnB count p = true := decide_eq_true h
theorem wnB_no {count : Int} {p : Int × Int} (h : ¬ Wn count p) : wnB count p = false := decide_eq_false h
structure Good (count : Int) (l : Pcs) : Prop where
  wn : ∀ p ∈ l, Wn count p
  apart : l.Pairwise Apart
def hasN (p : Int × Int) (n : Int) : Bool := decide (p.1 ≤ n ∧ n < p.1 + p.2)
def cov (l : Pcs) (n : Int) : Bool := l.any (hasN · n)
def goodB (count : Int) : Pcs → Bool
  | [] => true
  | p :: l => decide (0 ≤ p.1 ∧ 1 ≤ p.2 ∧ p.2 ≤ count - p.1) && l.all (fun q => decide (p.1 + p.2 ≤ q.1 ∨ q.1 + q.2 ≤ p.1)) && goodB count l
theorem goodB_iff {count : Int} : ∀ {l : Pcs}, goodB count l = true ↔ Good count l
  | [] => ⟨fun _ => ⟨by simp, List.Pairwise.nil⟩, fun _ => rfl⟩
  | p :: l => by
    have ih := goodB_iff (count := count) (l := l)
    simp only [goodB, Bool.and_eq_true, decide_eq_true_eq, List.all_eq_true]
    constructor
    · rintro ⟨⟨h1, h2⟩, h3⟩
      have g := ih.1 h3
      refine ⟨fun q hq => ?_, List.Pairwise.cons h2 g.apart⟩
      rcases List.mem_cons.1 hq with rfl | hq
      · exact h1
      · exact g.wn q hq
    · intro h
      have h2 := List.pairwise_cons.1 h.apart
      exact ⟨⟨h.wn p (by simp), h2.1⟩, ih.2 ⟨fun q hq => h.wn q (by simp [hq]), h2.2⟩⟩
def errK (count : Int) (l : Pcs) : Int := if 0 ≤ count ∧ count ≤ 4096 then if l.length ≤ 4096 then if goodB count l = true then 0 else 8 else 4 else 2
theorem errK_ok {count : Int} {l : Pcs} (h : 0 ≤ count ∧ count ≤ 4096) (h2 : l.length ≤ 4096) (h3 : Good count l) : errK count l = 0 := by
  unfold errK; rw [if_pos h, if_pos h2, if_pos (goodB_iff.2 h3)]
theorem errK_bad {count : Int} {l : Pcs} (h : 0 ≤ count ∧ count ≤ 4096) (h2 : l.length ≤ 4096) (h3 : ¬ Good count l) : errK count l = 8 := by
  unfold errK; rw [if_pos h, if_pos h2, if_neg (fun e => h3 (goodB_iff.1 e))]
theorem errK_many {count : Int} {l : Pcs} (h : 0 ≤ count ∧ count ≤ 4096) (h2 : ¬ l.length ≤ 4096) : errK count l = 4 := by
  unfold errK; rw [if_pos h, if_neg h2]
theorem errK_arg {count : Int} {l : Pcs} (h : ¬ (0 ≤ count ∧ count ≤ 4096)) : errK count l = 2 := by
  unfold errK; rw [if_neg h]
theorem errK_zero {count : Int} {l : Pcs} (h : errK count l = 0) : (0 ≤ count ∧ count ≤ 4096) ∧ l.length ≤ 4096 ∧ Good count l := by
  by_cases h1 : 0 ≤ count ∧ count ≤ 4096
  · by_cases h2 : l.length ≤ 4096
    · by_cases h3 : Good count l
      · exact ⟨h1, h2, h3⟩
      · rw [errK_bad h1 h2 h3] at h; omega
    · rw [errK_many h1 h2] at h; omega
  · rw [errK_arg h1] at h; omega

theorem nil_or_snoc {α : Type} (l : List α) : l = [] ∨ ∃ t q, l = t ++ [q] := by
  rcases List.eq_nil_or_concat l with h | ⟨t, q, h⟩
  · exact .inl h
  · exact .inr ⟨t, q, by rw [h, List.concat_eq_append]⟩
theorem Apart.symm {p q : Int × Int} (h : Apart p q) : Apart q p := Or.symm h
theorem Good.perm {count : Int} {l s : Pcs} (h : Good count l) (hp : l.Perm s) : Good count s :=
  ⟨fun p hm => h.wn p (hp.mem_iff.2 hm), (hp.pairwise_iff (fun h => Apart.symm h)).1 h.apart⟩
theorem cov_perm {l s : Pcs} (hp : l.Perm s) (n : Int) : cov l n = cov s n := by
  rw [Bool.eq_iff_iff]
  simp only [cov, List.any_eq_true]
  exact ⟨fun ⟨x, h, e⟩ => ⟨x, hp.mem_iff.1 h, e⟩, fun ⟨x, h, e⟩ => ⟨x, hp.mem_iff.2 h, e⟩⟩
theorem cov_iff {l : Pcs} {n : Int} : cov l n = true ↔ ∃ p ∈ l, p.1 ≤ n ∧ n < p.1 + p.2 := by
  simp [cov, hasN]
theorem cov_false {l : Pcs} {n : Int} : cov l n = false ↔ ∀ p ∈ l, ¬ (p.1 ≤ n ∧ n < p.1 + p.2) := by
  rw [← Bool.not_eq_true, cov_iff]
  exact ⟨fun h p hp hn => h ⟨p, hp, hn⟩, fun h ⟨p, hp, hn⟩ => h p hp hn⟩
theorem cov_append (l m : Pcs) (n : Int) : cov (l ++ m) n = (cov l n || cov m n) := by simp [cov]
theorem getD_mem' {α : Type} {l : List α} {d : α} {i : Nat} (h : i < l.length) : l.getD i d ∈ l := by
  simp [List.getD, List.getElem?_eq_getElem h]
theorem take_snoc {α : Type} {l : List α} {d : α} {i : Nat} (h : i < l.length) : l.take (i + 1) = l.take i ++ [l.getD i d] := by
  rw [List.take_add_one]; simp [List.getD, List.getElem?_eq_getElem h]
theorem getD_eq {α : Type} {l : List α} {d : α} {i : Nat} (h : i < l.length) : l.getD i d = l[i] := by
  simp [List.getD, List.getElem?_eq_getElem h]

/-! ### The check piece by piece, as the document does it -/
theorem good_nil (count : Int) : Good count [] := ⟨by simp, List.Pairwise.nil⟩
theorem Good.snoc {count : Int} {l : Pcs} {p : Int × Int} (h : Good count l) (hw : Wn count p) (hf : ∀ n, p.1 ≤ n → n < p.1 + p.2 → cov l n = false) : Good count (l ++ [p]) := by
  refine ⟨?_, ?_⟩
  · intro q hq
    simp only [List.mem_append, List.mem_singleton] at hq
    rcases hq with hq | rfl
    · exact h.wn q hq
    · exact hw
  · rw [List.pairwise_append]
    refine ⟨h.apart, by simp, ?_⟩
    intro q hq r hr
    simp only [List.mem_singleton] at hr
    subst hr
    have hwq := h.wn q hq
    unfold Wn at hw hwq
    unfold Apart
    by_cases h1 : q.1 + q.2 ≤ r.1
    · exact .inl h1
    by_cases h2 : r.1 + r.2 ≤ q.1
    · exact .inr h2
    exfalso
    by_cases h3 : q.1 ≤ r.1
    · exact cov_false.1 (hf r.1 (by omega) (by omega)) q hq ⟨h3, by omega⟩
    · exact cov_false.1 (hf q.1 (by omega) (by omega)) q hq ⟨by omega, by omega⟩
theorem Good.left {count : Int} {l m : Pcs} (h : Good count (l ++ m)) : Good count l :=
  ⟨fun p hp => h.wn p (List.mem_append.2 (.inl hp)), (List.pairwise_append.1 h.apart).1⟩
theorem Good.right {count : Int} {l m : Pcs} (h : Good count (l ++ m)) : Good count m :=
  ⟨fun p hp => h.wn p (List.mem_append.2 (.inr hp)), (List.pairwise_append.1 h.apart).2.1⟩
theorem Good.take {count : Int} {l : Pcs} (h : Good count l) (k : Nat) : Good count (l.take k) := by
  rw [← List.take_append_drop k l] at h; exact h.left
theorem Good.far {count : Int} {l : Pcs} {p : Int × Int} (h : Good count (l ++ [p])) : ∀ n, p.1 ≤ n → n < p.1 + p.2 → cov l n = false := by
  intro n h1 h2
  refine cov_false.2 fun q hq hn => ?_
  have := (List.pairwise_append.1 h.apart).2.2 q hq p (by simp)
  unfold Apart at this
  omega

/-! ### The check of pieces that rise -/
def Up (s : Pcs) : Prop := s.Pairwise fun p q => p.1 ≤ q.1
def Chain (s : Pcs) : Prop := s.Pairwise fun p q => p.1 + p.2 ≤ q.1
def endOf (s : Pcs) : Int := match s.getLast? with | some p => p.1 + p.2 | none => 0
theorem endOf_snoc (s : Pcs) (p : Int × Int) : endOf (s ++ [p]) = p.1 + p.2 := by simp [endOf]
theorem Chain.good {count : Int} {s : Pcs} (h : Chain s) (hw : ∀ p ∈ s, Wn count p) : Good count s := ⟨hw, List.Pairwise.imp (fun h => Or.inl h) h⟩
theorem Good.chain {count : Int} {s : Pcs} (h : Good count s) (hu : Up s) : Chain s := by
  have h1 := h.wn
  have h2 := h.apart
  clear h
  induction s with
  | nil => exact List.Pairwise.nil
  | cons p s ih =>
    unfold Up at hu
    rw [List.pairwise_cons] at hu h2
    refine List.Pairwise.cons ?_ (ih hu.2 (fun q hq => h1 q (List.mem_cons_of_mem _ hq)) h2.2)
    intro q hq
    have a := hu.1 q hq
    have b := h2.1 q hq
    have c := h1 q (List.mem_cons_of_mem _ hq)
    unfold Apart at b
    unfold Wn at c
    omega
theorem mem_le_end {s : Pcs} (h : Chain s) (hw : ∀ p ∈ s, 1 ≤ p.2) : ∀ p ∈ s, p.1 + p.2 ≤ endOf s := by
  intro p hp
  rcases nil_or_snoc s with rfl | ⟨t, q, rfl⟩
  · simp at hp
  · rw [endOf_snoc]
    simp only [List.mem_append, List.mem_singleton] at hp
    rcases hp with hp | rfl
    · have := (List.pairwise_append.1 h).2.2 p hp q (by simp)
      have := hw q (by simp)
      omega
    · omega
theorem Chain.snoc {s : Pcs} {p : Int × Int} (h : Chain s) (hw : ∀ p ∈ s, 1 ≤ p.2) (he : endOf s ≤ p.1) : Chain (s ++ [p]) := by
  unfold Chain
  rw [List.pairwise_append]
  refine ⟨h, by simp, fun q hq r hr => ?_⟩
  simp only [List.mem_singleton] at hr
  subst hr
  have := mem_le_end h hw q hq
  omega
theorem not_good_end {count : Int} {s : Pcs} {p : Int × Int} {m : Pcs} (hp : 0 ≤ p.1) (hu : Up (s ++ p :: m)) (hw : ∀ q ∈ s ++ p :: m, Wn count q) (he : p.1 < endOf s) : ¬ Good count (s ++ p :: m) := by
  intro hg
  have hc := hg.chain hu
  rcases nil_or_snoc s with rfl | ⟨t, q, rfl⟩
  · simp [endOf] at he; omega
  · rw [endOf_snoc] at he
    have := (List.pairwise_append.1 hc).2.2 q (by simp) p (by simp)
    omega

/-! ### Runs -/
def withN (out : Pcs) (p : Int × Int) : Pcs :=
  match out.getLast? with
  | some q => if q.1 + q.2 = p.1 then out.dropLast ++ [(q.1, q.2 + p.2)] else out ++ [p]
  | none => [p]
theorem withN_nil (p : Int × Int) : withN [] p = [p] := rfl
theorem withN_touch (t : Pcs) (q p : Int × Int) (h : q.1 + q.2 = p.1) : withN (t ++ [q]) p = t ++ [(q.1, q.2 + p.2)] := by simp [withN, h]
theorem withN_apart (t : Pcs) (q p : Int × Int) (h : q.1 + q.2 ≠ p.1) : withN (t ++ [q]) p = t ++ [q] ++ [p] := by simp [withN, h]
/-- The sectors of pieces one by one. -/
def secs (l : Pcs) : List Int := l.flatMap fun p => (List.range p.2.toNat).map fun i => p.1 + (i : Nat)
theorem secs_append (l m : Pcs) : secs (l ++ m) = secs l ++ secs m := by simp [secs]
theorem secs_one (p : Int × Int) : secs [p] = (List.range p.2.toNat).map fun i => p.1 + (i : Nat) := by simp [secs]
theorem secs_sum (a : Int) (b c : Int) (hb : 0 ≤ b) (hc : 0 ≤ c) : secs [(a, b + c)] = secs [(a, b)] ++ secs [(a + b, c)] := by
  rw [secs_one, secs_one, secs_one]
  show (List.range (b + c).toNat).map _ = _
  rw [show (b + c).toNat = b.toNat + c.toNat from by omega, List.range_add, List.map_append]
  congr 1
  simp only [List.map_map]
  refine List.map_congr_left fun i _ => ?_
  simp only [Function.comp]
  omega
theorem secs_withN {out : Pcs} {p : Int × Int} (ho : ∀ q ∈ out, 0 ≤ q.2) (hp : 0 ≤ p.2) : secs (withN out p) = secs out ++ secs [p] := by
  rcases nil_or_snoc out with rfl | ⟨t, q, rfl⟩
  · rfl
  · by_cases h : q.1 + q.2 = p.1
    · rw [withN_touch _ _ _ h, secs_append, secs_append, List.append_assoc, secs_sum _ _ _ (ho q (by simp)) hp, h]
    · rw [withN_apart _ _ _ h, secs_append]
theorem mem_secs {l : Pcs} {n : Int} : n ∈ secs l ↔ cov l n = true := by
  rw [cov_iff]
  simp only [secs, List.mem_flatMap, List.mem_map, List.mem_range]
  constructor
  · rintro ⟨p, hp, i, hi, rfl⟩
    exact ⟨p, hp, by omega, by omega⟩
  · rintro ⟨p, hp, h1, h2⟩
    exact ⟨p, hp, (n - p.1).toNat, by omega, by omega⟩
/-- Pieces that rise and do not touch. -/
def Runs (l : Pcs) : Prop := (l.Pairwise fun p q => p.1 + p.2 < q.1) ∧ ∀ p ∈ l, 1 ≤ p.2
theorem runs_nil : Runs [] := ⟨List.Pairwise.nil, by simp⟩
theorem Runs.chain {l : Pcs} (h : Runs l) : Chain l := List.Pairwise.imp (fun h => by omega) h.1
theorem Runs.withN {out : Pcs} {p : Int × Int} (h : Runs out) (hp : 1 ≤ p.2) (he : ∀ q ∈ out, q.1 + q.2 ≤ p.1) : Runs (withN out p) := by
  rcases nil_or_snoc out with rfl | ⟨t, q, rfl⟩
  · exact ⟨by simp [withN_nil], by simpa [withN_nil] using hp⟩
  · have hq := he q (by simp)
    obtain ⟨h1, h2⟩ := h
    rw [List.pairwise_append] at h1
    have hq2 := h2 q (by simp)
    by_cases e : q.1 + q.2 = p.1
    · rw [withN_touch _ _ _ e]
      refine ⟨List.pairwise_append.2 ⟨h1.1, by simp, fun a ha b hb => ?_⟩, fun a ha => ?_⟩
      · simp only [List.mem_singleton] at hb
        subst hb
        have := h1.2.2 a ha q (by simp)
        exact this
      · simp only [List.mem_append, List.mem_singleton] at ha
        rcases ha with ha | rfl
        · exact h2 a (by simp [ha])
        · show 1 ≤ q.2 + p.2
          omega
    · rw [withN_apart _ _ _ e]
      refine ⟨List.pairwise_append.2 ⟨List.pairwise_append.2 h1, by simp, fun a ha b hb => ?_⟩, fun a ha => ?_⟩
      · simp only [List.mem_singleton] at hb
        subst hb
        simp only [List.mem_append, List.mem_singleton] at ha
        rcases ha with ha | rfl
        · have := h1.2.2 a ha q (by simp)
          omega
        · omega
      · simp only [List.mem_append, List.mem_singleton] at ha
        rcases ha with ha | rfl
        · exact h2 a (by simpa using ha)
        · exact hp
/-- The runs of the first so many sectors that are meant, of k of them from first on; and how many. -/
def runsK (P : Int → Bool) (many first : Nat) : Nat → Pcs × Nat
  | 0 => ([], 0)
  | k + 1 => if (runsK P many first k).2 < many ∧ P ((first + k : Nat) : Int) = true then (withN (runsK P many first k).1 (((first + k : Nat) : Int), 1), (runsK P many first k).2 + 1) else runsK P many first k
theorem runsK_yes {P : Int → Bool} {many first k : Nat} (h : (runsK P many first k).2 < many) (hp : P ((first + k : Nat) : Int) = true) : runsK P many first (k + 1) = (withN (runsK P many first k).1 (((first + k : Nat) : Int), 1), (runsK P many first k).2 + 1) := by
  rw [runsK, if_pos ⟨h, hp⟩]
theorem runsK_no {P : Int → Bool} {many first k : Nat} (hp : P ((first + k : Nat) : Int) = false) : runsK P many first (k + 1) = runsK P many first k := by
  rw [runsK, if_neg (by rw [hp]; simp)]
theorem runsK_full {P : Int → Bool} {many first k : Nat} (h : ¬ (runsK P many first k).2 < many) : runsK P many first (k + 1) = runsK P many first k := by
  rw [runsK, if_neg (fun h' => h h'.1)]
theorem runsK_stay {P : Int → Bool} {many first k : Nat} (h : ¬ (runsK P many first k).2 < many) (j : Nat) : runsK P many first (k + j) = runsK P many first k := by
  induction j with
  | zero => rfl
  | succ j ih => rw [← Nat.add_assoc, runsK_full (by rw [ih]; exact h), ih]
theorem runsK_le (P : Int → Bool) (many first k : Nat) : (runsK P many first k).2 ≤ many := by
  induction k with
  | zero => exact Nat.zero_le _
  | succ k ih =>
    rw [runsK]
    split
    · next h => show _ + 1 ≤ _; omega
    · exact ih
theorem runsK_lek (P : Int → Bool) (many first k : Nat) : (runsK P many first k).2 ≤ k := by
  induction k with
  | zero => exact Nat.zero_le _
  | succ k ih =>
    rw [runsK]
    split
    · show _ + 1 ≤ _; omega
    · omega
theorem runsK_congr {P Q : Int → Bool} {many first : Nat} : ∀ k : Nat, (∀ n : Nat, first ≤ n → n < first + k → P n = Q n) → runsK P many first k = runsK Q many first k
  | 0, _ => rfl
  | k + 1, h => by
    rw [runsK, runsK, runsK_congr k (fun n h1 h2 => h n h1 (by omega)), h (first + k) (by omega) (by omega)]
/-- The sectors that are meant, in order. -/
def meant (P : Int → Bool) (first k : Nat) : List Int := ((List.range k).map fun i => ((first + i : Nat) : Int)).filter P
theorem meant_succ (P : Int → Bool) (first k : Nat) : meant P first (k + 1) = meant P first k ++ (if P ((first + k : Nat) : Int) then [((first + k : Nat) : Int)] else []) := by
  unfold meant
  rw [List.range_succ, List.map_append, List.filter_append]
  congr 1
  simp only [List.map_cons, List.map_nil, List.filter_cons, List.filter_nil]
theorem mem_meant {P : Int → Bool} {first k : Nat} {n : Int} : n ∈ meant P first k ↔ P n = true ∧ (first : Int) ≤ n ∧ n < first + k := by
  unfold meant
  simp only [List.mem_filter, List.mem_map, List.mem_range]
  constructor
  · rintro ⟨⟨i, hi, rfl⟩, h⟩
    exact ⟨h, by omega, by omega⟩
  · rintro ⟨h, h1, h2⟩
    exact ⟨⟨(n - first).toNat, by omega, by omega⟩, h⟩
theorem meant_up (P : Int → Bool) (first k : Nat) : (meant P first k).Pairwise (· < ·) := by
  unfold meant
  refine List.Pairwise.filter _ ?_
  rw [List.pairwise_map]
  exact List.Pairwise.imp (fun h => by omega) List.pairwise_lt_range
structure RunsOf (P : Int → Bool) (many first k : Nat) (r : Pcs × Nat) : Prop where
  secs : secs r.1 = (meant P first k).take many
  got : r.2 = ((meant P first k).take many).length
  runs : Runs r.1
  ends : ∀ q ∈ r.1, (first : Int) ≤ q.1 ∧ q.1 + q.2 ≤ ((first + k : Nat) : Int)
theorem runsK_of (P : Int → Bool) (many first : Nat) : ∀ k, RunsOf P many first k (runsK P many first k)
  | 0 => ⟨by simp [runsK, secs, meant], by simp [runsK, meant], runs_nil, by simp [runsK]⟩
  | k + 1 => by
    have ih := runsK_of P many first k
    have hg := ih.got
    rw [List.length_take] at hg
    by_cases h : (runsK P many first k).2 < many
    · by_cases hp : P ((first + k : Nat) : Int) = true
      · rw [runsK_yes h hp]
        have ht : ((meant P first k).take many) = meant P first k := List.take_of_length_le (by omega)
        have ht2 : ((meant P first (k + 1)).take many) = meant P first k ++ [((first + k : Nat) : Int)] := by
          rw [meant_succ, if_pos hp, List.take_of_length_le (by simp; omega)]
        refine ⟨?_, ?_, ?_, ?_⟩
        · rw [secs_withN (fun q hq => by have := ih.runs.2 q hq; omega) (by show (0 : Int) ≤ 1; decide), ih.secs, ht, ht2]
          simp [secs]
        · rw [ht2]; show _ + 1 = _; rw [ih.got, ht]; simp
        · exact ih.runs.withN (by show (1 : Int) ≤ 1; decide) (fun q hq => (ih.ends q hq).2)
        · intro q hq
          show _ ∧ _
          have ihe := ih.ends
          generalize (runsK P many first k).1 = out at ihe hq
          have key : ∀ q ∈ withN out (((first + k : Nat) : Int), 1), (∃ q' ∈ out, q.1 = q'.1 ∧ q.2 = q'.2) ∨ (∃ q' ∈ out, q.1 = q'.1 ∧ q.1 + q.2 = ((first + k : Nat) : Int) + 1) ∨ (q.1 = ((first + k : Nat) : Int) ∧ q.2 = 1) := by
            intro q hq
            rcases nil_or_snoc out with rfl | ⟨t, r, rfl⟩
            · simp only [withN_nil, List.mem_singleton] at hq; subst hq; exact .inr (.inr ⟨rfl, rfl⟩)
            · by_cases e : r.1 + r.2 = ((first + k : Nat) : Int)
              · rw [withN_touch _ _ _ e] at hq
                simp only [List.mem_append, List.mem_singleton] at hq
                rcases hq with hq | rfl
                · exact .inl ⟨q, by simp [hq], rfl, rfl⟩
                · exact .inr (.inl ⟨r, by simp, rfl, by show r.1 + (r.2 + 1) = _; omega⟩)
              · rw [withN_apart _ _ _ e] at hq
                simp only [List.mem_append, List.mem_singleton] at hq
                rcases hq with (hq | rfl) | rfl
                · exact .inl ⟨q, by simp [hq], rfl, rfl⟩
                · exact .inl ⟨q, by simp, rfl, rfl⟩
                · exact .inr (.inr ⟨rfl, rfl⟩)
          rcases key q hq with ⟨q', h1, h2, h3⟩ | ⟨q', h1, h2, h3⟩ | ⟨h2, h3⟩
          · have := ihe q' h1
            rw [h2, h3]; exact ⟨this.1, by omega⟩
          · have := ihe q' h1
            exact ⟨by omega, by omega⟩
          · exact ⟨by omega, by omega⟩
      · have hp' : P ((first + k : Nat) : Int) = false := by simpa using hp
        rw [runsK_no hp']
        have hm : meant P first (k + 1) = meant P first k := by rw [meant_succ, hp']; simp
        exact ⟨by rw [hm]; exact ih.secs, by rw [hm]; exact ih.got, ih.runs, fun q hq => ⟨(ih.ends q hq).1, by have := (ih.ends q hq).2; omega⟩⟩
    · rw [runsK_full h]
      have hm : (meant P first (k + 1)).take many = (meant P first k).take many := by
        rw [meant_succ, List.take_append_of_le_length (by omega)]
      exact ⟨by rw [hm]; exact ih.secs, by rw [hm]; exact ih.got, ih.runs, fun q hq => ⟨(ih.ends q hq).1, by have := (ih.ends q hq).2; omega⟩⟩
theorem withN_len (out : Pcs) (p : Int × Int) : (withN out p).length ≤ out.length + 1 := by
  rcases nil_or_snoc out with rfl | ⟨t, q, rfl⟩
  · simp [withN_nil]
  · by_cases e : q.1 + q.2 = p.1
    · rw [withN_touch _ _ _ e]; simp
    · rw [withN_apart _ _ _ e]; simp
theorem runsK_len (P : Int → Bool) (many first : Nat) : ∀ k, (runsK P many first k).1.length ≤ (runsK P many first k).2
  | 0 => Nat.le_refl _
  | k + 1 => by
    have ih := runsK_len P many first k
    rw [runsK]
    split
    · have := withN_len (runsK P many first k).1 (((first + k : Nat) : Int), 1)
      show (withN (runsK P many first k).1 (((first + k : Nat) : Int), 1)).length ≤ (runsK P many first k).2 + 1
      omega
    · exact ih
theorem runsK_bounds (P : Int → Bool) (many first k c : Nat) (hc : first + k ≤ c) : ∀ q ∈ (runsK P many first k).1, 0 ≤ q.1 ∧ 0 ≤ q.2 ∧ q.1 + q.2 ≤ (c : Int) := by
  intro q hq
  have h := runsK_of P many first k
  have h1 := h.runs.2 q hq
  have h2 := h.ends q hq
  omega
/-! ### Sectors held against pieces that rise -/
def Past (s : Pcs) (j : Nat) (n : Int) : Prop := ∀ p ∈ s.take j, p.1 + p.2 ≤ n
theorem past_zero (s : Pcs) (n : Int) : Past s 0 n := by intro p hp; simp at hp
theorem Past.step {s : Pcs} {j : Nat} {n : Int} (h : Past s j n) (hj : j < s.length) (he : (s.getD j (0, 0)).1 + (s.getD j (0, 0)).2 ≤ n) : Past s (j + 1) n := by
  intro p hp
  rw [take_snoc (d := (0, 0)) hj] at hp
  simp only [List.mem_append, List.mem_singleton] at hp
  rcases hp with hp | rfl
  · exact h p hp
  · exact he
theorem Past.mono {s : Pcs} {j : Nat} {n m : Int} (h : Past s j n) (hm : n ≤ m) : Past s j m := fun p hp => Int.le_trans (h p hp) hm
theorem Past.free {s : Pcs} {j : Nat} {n : Int} (h : Past s j n) (hu : Up s) (hj : j < s.length → n < (s.getD j (0, 0)).1) : cov s n = false := by
  refine cov_false.2 fun p hp hn => ?_
  rw [← List.take_append_drop j s, List.mem_append] at hp
  rcases hp with hp | hp
  · have := h p hp; omega
  · rcases Nat.lt_or_ge j s.length with hl | hl
    · have h1 := hj hl
      rw [List.drop_eq_getElem_cons hl, List.mem_cons] at hp
      rw [getD_eq hl] at h1
      rcases hp with rfl | hp
      · omega
      · have hu' := hu
        unfold Up at hu'
        rw [← List.take_append_drop j s, List.drop_eq_getElem_cons hl, List.pairwise_append] at hu'
        have := (List.pairwise_cons.1 hu'.2.1).1 p hp
        omega
    · rw [List.drop_eq_nil_of_le hl] at hp; simp at hp
theorem cov_at {s : Pcs} {j : Nat} {n : Int} (hj : j < s.length) (h1 : (s.getD j (0, 0)).1 ≤ n) (h2 : n < (s.getD j (0, 0)).1 + (s.getD j (0, 0)).2) : cov s n = true := cov_iff.2 ⟨_, getD_mem' hj, h1, h2⟩
end Go.Proofs.Ytfplpdnhhefbaaa
