import Derived.Test.YtghcmllmbpoidaaGreatDoorJ27
namespace Go.Proofs.YtghcmllmbpoidaaGreatDoor.Lg
open Go.RowKit Go.WideShapes
structure AddOut (E S a la : Nat) (r : ByteArray) (w w' : World) (v : Value) (f : Int) : Prop where
  lies : (f = 0 ∧ r.size ≤ 4096 ∧ needsN r.size ≤ 63 - a ∧ S < 4294967296 ∧ ∃ q m l, v = .slice q (List.length (α := ActC) l) m ∧ AOwn w' w.heap.size v l ∧ l.map Prod.fst = actsK ((17 + a : Nat) : Int) (frameN E S la (numsOf r)) (needsN r.size)) ∨ (v = .slice none 0 0 ∧ f = 3 ∧ 4096 < r.size) ∨ (v = .slice none 0 0 ∧ f = 30 ∧ r.size ≤ 4096 ∧ ¬ (needsN r.size ≤ 63 - a ∧ S < 4294967296))
  below : Below w.heap.size w w'
theorem Add_u (v : Value) (r : ByteArray) (count : Int) (data : List Nat) (ws : Puts) (w : World) (hd : DiskIn w v count data ws) (hl : HasLog count data ws) (E : Nat) (hE : epochN (logN data ws) = E) (hE0 : E ≠ 0)
    (l : List (List Nat)) (a la : Nat) (t : List Nat) (S : Nat) (hrec : Recs E 0 ((logN data ws).drop 128) l a la t) (hS : mostS E t (63 - a) + 1 = S) :
    Calls Tryz.prog 100 #[v, .string r] w fun e w' => ∃ v' f, e = .returned (.tuple #[v', .int .i64 f]) ∧ AddOut E S a la r w w' v' f := by
  by_cases h1 : 4096 < r.size
  · exact (Add_text v r count data ws w hd hl E hE hE0 h1).mono fun e w' ⟨h, hb⟩ => ⟨_, _, h, .inr (.inl ⟨rfl, rfl, h1⟩), hb⟩
  · by_cases h2 : 63 - a < needsN r.size
    · exact (Add_room v r count data ws w hd hl (log_len hl) E hE hE0 (by omega) l a la t S hrec hS h2).mono fun e w' ⟨h, hb⟩ => ⟨_, _, h, .inr (.inr ⟨rfl, rfl, by omega, by omega⟩), hb⟩
    · by_cases h3 : S < 4294967296
      · refine (Add_ok v r count data ws w hd hl (log_len hl) E hE hE0 (by omega) l a la t S hrec hS h3 (by omega)).mono ?_
        rintro e w' ⟨v', l', he, ha, hm, hb⟩
        obtain ⟨q, m, hv, _, _⟩ := ha.form
        exact ⟨v', 0, he, .inl ⟨rfl, by omega, by omega, h3, q, m, l', hv, ha, hm⟩, hb⟩
      · exact (Add_salt v r count data ws w hd hl (log_len hl) E hE hE0 (by omega) l a la t S hrec hS h3 (by omega)).mono fun e w' ⟨h, hb⟩ => ⟨_, _, h, .inr (.inr ⟨rfl, rfl, by omega, fun h => h3 h.2⟩), hb⟩
end Go.Proofs.YtghcmllmbpoidaaGreatDoor.Lg
