/-
  Files that find their sectors, with no program.
-/
import Derived.Test.YtglcpfnpbcnejaaGreatDoorJ16
import Derived.Test.YtglcpfnpbcnejaaGreatDoorJ22
namespace Go.Proofs.YtglcpfnpbcnejaaGreatDoor
set_option maxRecDepth 8000

/-- What a sector may be behind acts. -/
def Cand (data : List Nat) (B : Acts) (s : Nat) (x : List Nat) : Prop := x = secN data s ∨ (false, (s : Int), x) ∈ B
theorem Cand.app {data : List Nat} {B : Acts} {s : Nat} {x : List Nat} (h : Cand data B s x) (C : Acts) : Cand data (B ++ C) s x := by
  rcases h with h | h
  · exact .inl h
  · exact .inr (List.mem_append.2 (.inl h))
/-- A sector all whose writes are the same is so behind one of them. -/
theorem now_do {count : Int} {s : Nat} {X : List Nat} (hs : (s : Int) < count) : ∀ (C B : Acts) {st st' : List Nat × Puts}, Okay count st.1 st.2 → ((∀ x, (false, (s : Int), x) ∉ B) ∨ nowN st.1 st.2 s = X) → (∀ x, (false, (s : Int), x) ∈ C → x = X) → doN count st C = .ok st' → ((∀ x, (false, (s : Int), x) ∉ B ++ C) ∨ nowN st'.1 st'.2 s = X) := by
  intro C
  induction C with
  | nil =>
    intro B st st' _ h _ e
    simp only [doN, Except.ok.injEq] at e
    subst e
    simpa using h
  | cons a C ih =>
    intro B st st' ho h hX e
    simp only [doN] at e
    cases e1 : stepA count st a with
    | error c => rw [e1] at e; cases e
    | ok s1 =>
      rw [e1] at e
      have h1 : (∀ x, (false, (s : Int), x) ∉ B ++ [a]) ∨ nowN s1.1 s1.2 s = X := by
        have e2 := e1
        unfold stepA at e2
        split at e2
        · rename_i hf
          simp only [Except.ok.injEq] at e2
          subst e2
          rcases h with h | h
          · left
            intro x hx
            rcases List.mem_append.1 hx with hx | hx
            · exact h x hx
            · have := List.mem_singleton.1 hx
              rw [← this] at hf
              cases hf
          · right
            show nowN (settleN st.1 st.2) [] s = X
            rw [now_settled ho hs]
            exact h
        · rename_i hf
          split at e2
          · cases e2
          · split at e2
            · cases e2
            · split at e2
              · cases e2
              · simp only [Except.ok.injEq] at e2
                subst e2
                have hw : nowN st.1 (st.2 ++ [a.2]) s = if a.2.1 = (s : Int) then a.2.2 else nowN st.1 st.2 s := now_written
                by_cases hy : a.2.1 = (s : Int)
                · right
                  show nowN st.1 (st.2 ++ [a.2]) s = X
                  rw [hw, if_pos hy]
                  apply hX
                  refine List.mem_cons.2 (.inl ?_)
                  obtain ⟨b, i, x⟩ := a
                  cases b with
                  | true => exact absurd rfl hf
                  | false => simp only at hy; rw [← hy]
                · rcases h with h | h
                  · left
                    intro x hx
                    rcases List.mem_append.1 hx with hx | hx
                    · exact h x hx
                    · have := List.mem_singleton.1 hx
                      rw [← this] at hy
                      exact hy rfl
                  · right
                    show nowN st.1 (st.2 ++ [a.2]) s = X
                    rw [hw, if_neg hy]
                    exact h
      have := ih (B ++ [a]) (okay_step ho e1) h1 (fun x hx => hX x (List.mem_cons_of_mem _ hx)) e
      simpa using this
end Go.Proofs.YtglcpfnpbcnejaaGreatDoor
namespace Go.Proofs.YtglcpfnpbcnejaaGreatDoor
open Go.RowKit Go.WideShapes Rm Dk

/-- What counts, told from the slot that counted before: 'a' is that one, 'o' the other. -/
def mountS (at_ : Nat) (a o : Option DirV) : Option (DirV × Int) := if at_ = 0 then mountR a o else mountR o a
abbrev flA : Bool × Int × List Nat := (true, 0, [])
def slotA (other : Nat) (y : DirV) : Acts := (List.range 8).map fun i => (false, ((other + i : Nat) : Int), secAt (bytesN y) i)
def turnA (F : Acts) (other : Nat) (y : DirV) : Acts := (if F = [] then [] else F ++ [flA]) ++ (slotA other y ++ [flA])
theorem turnA_mem {F : Acts} {other : Nat} {y : DirV} {s : Nat} {X : List Nat} (h : (false, (s : Int), X) ∈ turnA F other y) : (false, (s : Int), X) ∈ F ∨ ∃ i, i < 8 ∧ s = other + i ∧ X = secAt (bytesN y) i := by
  unfold turnA at h
  rcases List.mem_append.1 h with h | h
  · split at h
    · cases h
    · rcases List.mem_append.1 h with h | h
      · exact .inl h
      · simp [flA] at h
  · rcases List.mem_append.1 h with h | h
    · obtain ⟨i, hi, e⟩ := List.mem_map.1 h
      simp only [Prod.mk.injEq, true_and] at e
      exact .inr ⟨i, List.mem_range.1 hi, by omega, e.2.symm⟩
    · simp [flA] at h
end Go.Proofs.YtglcpfnpbcnejaaGreatDoor
namespace Go.Proofs.YtglcpfnpbcnejaaGreatDoor
open Go.RowKit Go.WideShapes Rm Dk

/-- The greatest of a Gen and of what the first k sectors begin with, those that are no Gen left out. -/
def genK (data : List Nat) (ws : Puts) (other : Nat) (g : Int) : Nat → Int
  | 0 => g
  | k + 1 => if beg8 (nowN data ws ((other + k : Nat) : Int)) < 4611686018427387904 then max (genK data ws other g k) (beg8 (nowN data ws ((other + k : Nat) : Int)) : Nat) else genK data ws other g k
theorem genK_le (data : List Nat) (ws : Puts) (other : Nat) (g : Int) : ∀ k, g ≤ genK data ws other g k
  | 0 => Int.le_refl _
  | k + 1 => by
    have := genK_le data ws other g k
    unfold genK
    split <;> omega
theorem genK_hi (data : List Nat) (ws : Puts) (other : Nat) (g : Int) (hg : g < 4611686018427387904) : ∀ k, genK data ws other g k < 4611686018427387904
  | 0 => hg
  | k + 1 => by
    have := genK_hi data ws other g hg k
    unfold genK
    split <;> omega
theorem genK_has (data : List Nat) (ws : Puts) (other : Nat) (g : Int) : ∀ k i, i < k → beg8 (nowN data ws ((other + i : Nat) : Int)) < 4611686018427387904 → ((beg8 (nowN data ws ((other + i : Nat) : Int)) : Nat) : Int) ≤ genK data ws other g k
  | k + 1, i, hi, hb => by
    unfold genK
    by_cases e : i = k
    · subst e
      rw [if_pos hb]
      omega
    · have := genK_has data ws other g k i (by omega) hb
      split <;> omega
/-- The new Gen is above the old one, and none of the other slot's sectors begins with it. -/
theorem next_fresh {data : List Nat} {ws : Puts} {other : Nat} {g G : Int} (h : genK data ws other g 8 + 1 = G) (hG : G < 4611686018427387904) : g < G ∧ ∀ i, i < 8 → ((beg8 (nowN data ws ((other + i : Nat) : Int)) : Nat) : Int) ≠ G := by
  have h1 := genK_le data ws other g 8
  refine ⟨by omega, fun i hi e => ?_⟩
  have := genK_has data ws other g 8 i hi (by omega)
  omega

/-! ### lists that rise by a key -/
theorem rise_ext {α : Type} {R : α → α → Prop} (irr : ∀ a, ¬ R a a) (tr : ∀ a b c, R a b → R b c → R a c) : ∀ {a b : List α}, a.Pairwise R → b.Pairwise R → (∀ n, n ∈ a ↔ n ∈ b) → a = b
  | [], [], _, _, _ => rfl
  | [], y :: b, _, _, h => by have := (h y).2 (by simp); simp at this
  | x :: a, [], _, _, h => by have := (h x).1 (by simp); simp at this
  | x :: a, y :: b, ha, hb, h => by
    rw [List.pairwise_cons] at ha hb
    have hxy : x = y := by
      rcases List.mem_cons.1 ((h x).1 (by simp)) with h1 | h1
      · exact h1
      · rcases List.mem_cons.1 ((h y).2 (by simp)) with h2 | h2
        · exact h2.symm
        · exact absurd (tr _ _ _ (ha.1 y h2) (hb.1 x h1)) (irr _)
    subst hxy
    congr 1
    refine rise_ext irr tr ha.2 hb.2 fun n => ?_
    constructor
    · intro hn
      rcases List.mem_cons.1 ((h n).1 (List.mem_cons_of_mem _ hn)) with rfl | h1
      · exact absurd (ha.1 _ hn) (irr _)
      · exact h1
    · intro hn
      rcases List.mem_cons.1 ((h n).2 (List.mem_cons_of_mem _ hn)) with rfl | h1
      · exact absurd (hb.1 _ hn) (irr _)
      · exact h1
end Go.Proofs.YtglcpfnpbcnejaaGreatDoor
namespace Go.Proofs.YtglcpfnpbcnejaaGreatDoor
open Go.RowKit Go.WideShapes Rm Dk

/-- The files that are put, each with its sectors: the error, or the files. -/
def placeN (count : Int) : Pcs → List (ByteArray × List Nat) → Except Int (List FileV)
  | _, [] => .ok []
  | used, c :: cs =>
    if 4096 < needsN (c.2.length : Nat) then .error 30
    else if errT 80 count used (needsN (c.2.length : Nat)) ≠ 0 then .error (errT 80 count used (needsN (c.2.length : Nat)))
    else match placeN count (used ++ resT 80 count used (needsN (c.2.length : Nat))) cs with
      | .ok l => .ok (⟨c.1, (c.2.length : Nat), resT 80 count used (needsN (c.2.length : Nat))⟩ :: l)
      | .error e => .error e
theorem take_facts {count many : Int} {used : Pcs} (hz : 80 ≤ count ∧ count ≤ 4096) (h : errT 80 count used many = 0) : Rm.Good count (resT 80 count used many) ∧ (∀ n, n ∈ secs (resT 80 count used many) → cov used n = false) ∧ (∀ p ∈ resT 80 count used many, 80 ≤ p.1) ∧ sumC (resT 80 count used many) = many := by
  have hz' : (0 ≤ count ∧ count ≤ 4096) ∧ (0 : Int) ≤ 80 ∧ 80 ≤ count := ⟨⟨by omega, hz.2⟩, by omega, hz.1⟩
  rw [resT_ok h]
  have hm : 0 ≤ many ∧ many ≤ 4096 := Classical.byContradiction fun hn => by rw [errT_arg hn] at h; exact absurd h (by decide)
  have hF : errF 80 count used = 0 := Classical.byContradiction fun hn => by rw [errT_bad hm hn] at h; exact hn h
  have hfew : ¬ (((gotF 80 count used many.toNat).2 : Nat) : Int) < many := fun hlt => by rw [errT_few hm hF hlt] at h; exact absurd h (by decide)
  have hle : (gotF 80 count used many.toNat).2 ≤ many.toNat := runsK_le _ _ _ _
  refine ⟨got_good hz', got_free, fun p hp => ?_, ?_⟩
  · have := ((gotF_of 80 count used many.toNat).ends p hp).1
    simpa using this
  · have := got_sum 80 count used many.toNat
    have e : sumC (gotF 80 count used many.toNat).1 = sumP (gotF 80 count used many.toNat).1 := rfl
    rw [e, this]
    omega
theorem place_facts {count : Int} (hz : 80 ≤ count ∧ count ≤ 4096) : ∀ {cs : List (ByteArray × List Nat)} {used : Pcs} {l : List FileV}, Rm.Good count used → placeN count used cs = .ok l →
    Rm.Good count (used ++ allPcs l) ∧ l.map (fun f => (f.name, f.size)) = cs.map (fun c => (c.1, ((c.2.length : Nat) : Int))) ∧ (∀ f ∈ l, (∀ p ∈ f.pcs, 80 ≤ p.1) ∧ sumC f.pcs = needsN f.size ∧ 0 ≤ f.size ∧ f.size ≤ 524288)
  | [], used, l, hu, h => by
    simp only [placeN, Except.ok.injEq] at h
    subst h
    refine ⟨by simpa [allPcs] using hu, rfl, fun f hf => by cases hf⟩
  | c :: cs, used, l, hu, h => by
    unfold placeN at h
    split at h
    · cases h
    · rename_i h1
      split at h
      · cases h
      · rename_i h2
        have h2' : errT 80 count used (needsN (c.2.length : Nat)) = 0 := Classical.byContradiction h2
        obtain ⟨g1, g2, g3, g4⟩ := take_facts hz h2'
        split at h
        · rename_i l' hl
          simp only [Except.ok.injEq] at h
          subst h
          obtain ⟨i1, i2, i3⟩ := place_facts hz (good_app hu g1 g2) hl
          refine ⟨?_, ?_, fun f hf => ?_⟩
          · have e : allPcs (⟨c.1, ((c.2.length : Nat) : Int), resT 80 count used (needsN (c.2.length : Nat))⟩ :: l') = resT 80 count used (needsN (c.2.length : Nat)) ++ allPcs l' := by simp [allPcs]
            rw [e, ← List.append_assoc]
            exact i1
          · simp [i2]
          · rcases List.mem_cons.1 hf with rfl | hf
            · refine ⟨g3, g4, by show (0 : Int) ≤ (c.2.length : Nat); omega, ?_⟩
              show ((c.2.length : Nat) : Int) ≤ 524288
              unfold needsN at h1
              omega
            · exact i3 f hf
        · cases h
end Go.Proofs.YtglcpfnpbcnejaaGreatDoor
