import Derived.Test.YtghcmllmbpoidaaGreatDoorJ30
import Derived.Test.YtghcmllmbpoidaaGreatDoorJ29
namespace Go.Proofs.YtghcmllmbpoidaaGreatDoor.Lg
open Go.RowKit Go.WideShapes
structure AddOut (E S a la : Nat) (r : ByteArray) (w w' : World) (v : Value) (f : Int) : Prop where
  lies : (f = 0 ∧ r.size ≤ 4096 ∧ needsN r.size ≤ 63 - a ∧ S < 4294967296 ∧ ∃ q m l, v = .slice q (List.length (α := ActC) l) m ∧ AOwn w' w.heap.size v l ∧ l.map Prod.fst = actsK ((17 + a : Nat) : Int) (frameN E S la (numsOf r)) (needsN r.size)) ∨ (v = .slice none 0 0 ∧ f = 3 ∧ 4096 < r.size) ∨ (v = .slice none 0 0 ∧ f = 30 ∧ r.size ≤ 4096 ∧ ¬ (needsN r.size ≤ 63 - a ∧ S < 4294967296))
  below : Below w.heap.size w w'
theorem Add_u (v : Value) (r : ByteArray) (count : Int) (data : List Nat) (ws : Puts) (w : World) (hd : DiskIn w v count data ws) (hl : HasLog count data ws) (E : Nat) (hE : epochN (logN data ws) = E) (hE0 : E ≠ 0)
    (l : List (List Nat)) (a la : Nat) (t : List Nat) (S : Nat) (hrec : Recs E 0 ((logN data ws).drop 128) l a la t) (hS : mostS E t (63 - a) + 1 = S) :
    Calls Tryz.prog 100 #[v, .string r] w fun e w' => ∃ v' f, e = .returned (.tuple #[v', .int .i64 f]) ∧ AddOut E S a la r w w' v' f := by
  by_cases h1 : 4096 < r.size
  · exact (Add_text v r count data ws w hd hl E hE hE0 h1).mono fun e w' ⟨h, hb⟩ => ⟨_, _, h, .inr (.inl ⟨rfl, rfl, h1⟩), hb⟩
  · by_cases h2 : 63 - a < needsN r.size
    · exact (Add_room v r count data ws w hd hl (log_len hl) E hE hE0 (by omega) l a la t S hrec hS h2).mono fun e w' ⟨h, hb⟩ => ⟨_, _, h, .inr (.inr ⟨rfl, rfl, by omega, by omega⟩), hb⟩
    · by_cases h3 : S < 4294967296
      · refine (Add_ok v r count data ws w hd hl (log_len hl) E hE hE0 (by omega) l a la t S hrec hS h3 (by omega)).mono ?_
        rintro e w' ⟨v', l', he, ha, hm, hb⟩
        obtain ⟨q, m, hv, _, _⟩ := ha.form
        exact ⟨v', 0, he, .inl ⟨rfl, by omega, by omega, h3, q, m, l', hv, ha, hm⟩, hb⟩
      · exact (Add_salt v r count data ws w hd hl (log_len hl) E hE hE0 (by omega) l a la t S hrec hS h3 (by omega)).mono fun e w' ⟨h, hb⟩ => ⟨_, _, h, .inr (.inr ⟨rfl, rfl, by omega, fun h => h3 h.2⟩), hb⟩
structure Inf (count : Int) (data : List Nat) (ws : Puts) (er : Int) (L : List ByteArray) (A X la : Nat) (t : List Nat) : Prop where
  err : errL count data ws = er
  no : er ≠ 0 → L = [] ∧ A = 0 ∧ X = 0
  yes : er = 0 → HasLog count data ws ∧ epochN (logN data ws) = X ∧ X ≠ 0 ∧ ∃ l, Recs X 0 ((logN data ws).drop 128) l A la t ∧ L = l.map strOf
section
variable {v : Value} {count : Int} {data : List Nat} {ws : Puts} {w : World} {er : Int} {L : List ByteArray} {A X la : Nat} {t : List Nat}
def addA (er : Int) (A X la : Nat) (t : List Nat) (r : ByteArray) : Acts × Int :=
  if er ≠ 0 then ([], er) else if 4096 < r.size then ([], 3) else if 63 - A < needsN r.size then ([], 30) else
  if mostS X t (63 - A) + 1 < 4294967296 then (actsK ((17 + A : Nat) : Int) (frameN X (mostS X t (63 - A) + 1) la (numsOf r)) (needsN r.size), 0) else ([], 30)
theorem Add_p (r : ByteArray) (hd : DiskIn w v count data ws) (hI : Inf count data ws er L A X la t) :
    Calls Tryz.prog 100 #[v, .string r] w fun e w' => (∃ v' l, e = .returned (.tuple #[v', .int .i64 (addA er A X la t r).2]) ∧ AOwn w' w.heap.size v' l ∧ l.map Prod.fst = (addA er A X la t r).1) ∧ Below w.heap.size w w' := by
  unfold addA
  by_cases h0 : er = 0
  · subst h0
    obtain ⟨h1, h2, h3, l, hrec, rfl⟩ := hI.yes rfl
    rw [if_neg (by simp)]
    refine (Add_u v r count data ws w hd h1 X h2 h3 l A la t _ hrec rfl).mono ?_
    rintro e w' ⟨v', f, rfl, hout⟩
    refine ⟨?_, hout.below⟩
    rcases hout.lies with ⟨rfl, a1, a2, a3, q, m, l', rfl, ho, hm⟩ | ⟨rfl, rfl, a1⟩ | ⟨rfl, rfl, a1, a2⟩
    · rw [if_neg (by omega), if_neg (by omega), if_pos a3]
      exact ⟨_, l', rfl, ho, hm⟩
    · rw [if_pos a1]
      exact ⟨_, [], rfl, aown_nil _ _, rfl⟩
    · rw [if_neg (by omega)]
      by_cases hf : 63 - A < needsN r.size
      · rw [if_pos hf]; exact ⟨_, [], rfl, aown_nil _ _, rfl⟩
      · rw [if_neg hf, if_neg (fun h => a2 ⟨by omega, h⟩)]; exact ⟨_, [], rfl, aown_nil _ _, rfl⟩
  · rw [if_pos h0]
    refine (Add_err v r count data ws w hd er hI.err h0).mono ?_
    rintro e w' ⟨rfl, hb⟩
    exact ⟨⟨_, [], rfl, aown_nil _ _, rfl⟩, hb⟩
end
end Go.Proofs.YtghcmllmbpoidaaGreatDoor.Lg
