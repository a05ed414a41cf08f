import Derived.Test.YtghcmllmbpoidaaGreatDoorJ27
import Derived.Test.YtghcmllmbpoidaaGreatDoorJ26
import Derived.Test.YtghcmllmbpoidaaGreatDoorJ28
namespace Go.Proofs.YtghcmllmbpoidaaGreatDoor.Lg
open Go.RowKit Go.WideShapes
structure Inf (count : Int) (data : List Nat) (ws : Puts) (er : Int) (L : List ByteArray) (A X la : Nat) (t : List Nat) : Prop where
  err : errL count data ws = er
  no : er ≠ 0 → L = [] ∧ A = 0 ∧ X = 0
  yes : er = 0 → HasLog count data ws ∧ epochN (logN data ws) = X ∧ X ≠ 0 ∧ ∃ l, Recs X 0 ((logN data ws).drop 128) l A la t ∧ L = l.map strOf
section
variable {v : Value} {count : Int} {data : List Nat} {ws : Puts} {w : World} {er : Int} {L : List ByteArray} {A X la : Nat} {t : List Nat}
def addA (er : Int) (A X la : Nat) (t : List Nat) (r : ByteArray) : Acts × Int :=
  if er ≠ 0 then ([], er) else if 4096 < r.size then ([], 3) else if 63 - A < needsN r.size then ([], 30) else
  if mostS X t (63 - A) + 1 < 4294967296 then (actsK ((17 + A : Nat) : Int) (frameN X (mostS X t (63 - A) + 1) la (numsOf r)) (needsN r.size), 0) else ([], 30)
theorem Add_p (r : ByteArray) (hd : DiskIn w v count data ws) (hI : Inf count data ws er L A X la t) :
    Calls Tryz.prog 100 #[v, .string r] w fun e w' => (∃ v' l, e = .returned (.tuple #[v', .int .i64 (addA er A X la t r).2]) ∧ AOwn w' w.heap.size v' l ∧ l.map Prod.fst = (addA er A X la t r).1) ∧ Below w.heap.size w w' := by
  unfold addA
  by_cases h0 : er = 0
  · subst h0
    obtain ⟨h1, h2, h3, l, hrec, rfl⟩ := hI.yes rfl
    rw [if_neg (by simp)]
    refine (Add_u v r count data ws w hd h1 X h2 h3 l A la t _ hrec rfl).mono ?_
    rintro e w' ⟨v', f, rfl, hout⟩
    refine ⟨?_, hout.below⟩
    rcases hout.lies with ⟨rfl, a1, a2, a3, q, m, l', rfl, ho, hm⟩ | ⟨rfl, rfl, a1⟩ | ⟨rfl, rfl, a1, a2⟩
    · rw [if_neg (by omega), if_neg (by omega), if_pos a3]
      exact ⟨_, l', rfl, ho, hm⟩
    · rw [if_pos a1]
      exact ⟨_, [], rfl, aown_nil _ _, rfl⟩
    · rw [if_neg (by omega)]
      by_cases hf : 63 - A < needsN r.size
      · rw [if_pos hf]; exact ⟨_, [], rfl, aown_nil _ _, rfl⟩
      · rw [if_neg hf, if_neg (fun h => a2 ⟨by omega, h⟩)]; exact ⟨_, [], rfl, aown_nil _ _, rfl⟩
  · rw [if_pos h0]
    refine (Add_err v r count data ws w hd er hI.err h0).mono ?_
    rintro e w' ⟨rfl, hb⟩
    exact ⟨⟨_, [], rfl, aown_nil _ _, rfl⟩, hb⟩
end
end Go.Proofs.YtghcmllmbpoidaaGreatDoor.Lg
