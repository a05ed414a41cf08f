/-
  Contracts of Get and Read, of the package and of the document, in one form each; and what is kept behind later calls.
-/
import Derived.Test.YtdbgbaclgdkkjaaRefRead
import Derived.Lib.SmallJoins
namespace Go.Proofs.Ytdbgbaclgdkkjaa
open Go.RowKit Go.WideShapes

/-- What Get answers. -/
def getX : List Nat → Nat
  | [a0, a1, a2, a3, a4, a5, a6, a7] => joinN a0 a1 a2 a3 a4 a5 a6 a7
  | _ => 0
def getE (xs : List Nat) : Int := if xs.length = 8 then 0 else 8
theorem getX_bad {xs : List Nat} (h : xs.length ≠ 8) : getX xs = 0 := by
  unfold getX
  split
  · simp at h
  · rfl
theorem list8 {xs : List Nat} (h : xs.length = 8) : ∃ a0 a1 a2 a3 a4 a5 a6 a7, xs = [a0, a1, a2, a3, a4, a5, a6, a7] := by
  match xs, h with
  | [a0, a1, a2, a3, a4, a5, a6, a7], _ => exact ⟨a0, a1, a2, a3, a4, a5, a6, a7, rfl⟩
theorem get_any (p : Option Addr) (c : Nat) (xs : List Nat) (w : World) (hb : BIn w p xs) :
    Calls Try.prog 13 #[.slice p xs.length c] w fun e w' => e = .returned (.tuple #[.int .u64 (getX xs : Nat), .int .i64 (getE xs)]) ∧ Below w.heap.size w w' := by
  by_cases h : xs.length = 8
  · obtain ⟨a0, a1, a2, a3, a4, a5, a6, a7, rfl⟩ := list8 h
    exact get_ok p c a0 a1 a2 a3 a4 a5 a6 a7 w hb
  · rw [getX_bad h, getE, if_neg h]
    exact (get_bad p xs.length c w h).mono fun e w' h => ⟨h.1, h.2 ▸ Below.refl _ _⟩
theorem refGet_any (p : Option Addr) (c : Nat) (xs : List Nat) (w : World) (hb : BIn w p xs) :
    Calls Try.prog 18 #[.slice p xs.length c] w fun e w' => e = .returned (.tuple #[.int .u64 (getX xs : Nat), .int .i64 (getE xs)]) ∧ w' = w := by
  by_cases h : xs.length = 8
  · obtain ⟨a0, a1, a2, a3, a4, a5, a6, a7, rfl⟩ := list8 h
    exact refGet_ok p c a0 a1 a2 a3 a4 a5 a6 a7 w hb
  · rw [getX_bad h, getE, if_neg h]
    exact refGet_bad p xs.length c w h
/-- What Read answers, number by number. -/
def rdX (xs : List Nat) : Nat := ((readN xs).map Prod.fst).getD 0
def rdK (xs : List Nat) : Nat := ((readN xs).map Prod.snd).getD 0
def rdE (xs : List Nat) : Int := if (readN xs).isSome then 0 else 8
theorem readV_eq (xs : List Nat) : readV (readN xs) = .tuple #[.int .u64 (rdX xs : Nat), .int .i64 (rdK xs : Nat), .int .i64 (rdE xs)] := by
  unfold rdX rdK rdE
  rcases readN xs with _ | ⟨n, k⟩ <;> rfl
theorem read_all (p : Option Addr) (cap : Nat) (xs : List Nat) (w : World) (hb : BIn w p xs) (hm : xs.length ≤ maxLen) :
    Calls Try.prog 9 #[.slice p xs.length cap] w fun e w' => e = .returned (.tuple #[.int .u64 (rdX xs : Nat), .int .i64 (rdK xs : Nat), .int .i64 (rdE xs)]) ∧ w' = w :=
  (read_any p cap xs w hb hm).mono fun _ _ h => ⟨by rw [h.1, readV_eq], h.2⟩
theorem refRead_all (p : Option Addr) (cap : Nat) (xs : List Nat) (w : World) (hb : BIn w p xs) (hm : xs.length ≤ maxLen) :
    Calls Try.prog 19 #[.slice p xs.length cap] w fun e w' => e = .returned (.tuple #[.int .u64 (rdX xs : Nat), .int .i64 (rdK xs : Nat), .int .i64 (rdE xs)]) ∧ w' = w :=
  (refRead_any p cap xs w hb hm).mono fun _ _ h => ⟨by rw [h.1, readV_eq], h.2⟩
theorem refSame_eq (p q : Option Addr) (n m c d : Nat) (xs ys : List Nat) (w : World) (hn : n = xs.length) (hm : m = ys.length) (e : xs = ys) (hx : BIn w p xs) (hy : BIn w q ys) :
    Calls Try.prog 20 #[.slice p n c, .slice q m d] w fun e w' => e = .returned (.bool true) ∧ w' = w := by
  subst hn hm
  refine (refSame_any p q c d xs ys w hx hy).mono fun e' w' h => ⟨?_, h.2⟩
  rw [h.1, decide_eq_true e]
/-- What is owned stays owned behind a call that writes nothing old. -/
theorem own_below {w w' : World} {base size n : Nat} {e : TypeId} {v : Value} {xs : List Value} (h : w.ownsRow base e size v n xs) (hb : Below w.heap.size w w') : w'.ownsRow base e size v n xs :=
  h.kept (row := none) ⟨hb.os, hb.tape, hb.output, hb.size, fun k hk _ => hb.block k hk⟩ (by cases v.ownBlock <;> simp)
theorem block_below {w w' : World} {g : Nat} {o : Obj} (h : w.heap[g]? = some o) (hb : Below w.heap.size w w') : w'.heap[g]? = some o := by
  have hg : g < w.heap.size := (Array.getElem?_eq_some_iff.1 h).1
  rw [hb.block g hg]; exact h
theorem small_form (n : Nat) (w : World) (hn : n < 18446744073709551616) :
    Calls Try.prog 11 #[.int .u64 n] w fun e w' => ∃ g c, e = .returned (.slice (some ⟨g, 0, none⟩) (smallN n).length c) ∧ w'.ownsRow w.heap.size 5 1 (.slice (some ⟨g, 0, none⟩) (smallN n).length c) (smallN n).length (Bs (smallN n)) ∧ Below w.heap.size w w' := by
  refine (small_any n w hn).mono ?_
  rintro e w1 ⟨v, rfl, hown, hb⟩
  obtain ⟨g, c, rfl⟩ := Go.Joins.ownsRow_form hown (smallN_pos n)
  exact ⟨g, c, rfl, hown, hb⟩
theorem refSmall_form (n : Nat) (w : World) (hn : n < 18446744073709551616) :
    Calls Try.prog 22 #[.int .u64 n] w fun e w' => ∃ g c, e = .returned (.slice (some ⟨g, 0, none⟩) (smallN n).length c) ∧ BIn w' (some ⟨g, 0, none⟩) (smallN n) ∧ Below w.heap.size w w' := by
  refine (refSmall_any n w hn).mono ?_
  rintro e w1 ⟨v, rfl, hown, hb⟩
  obtain ⟨g, c, rfl⟩ := Go.Joins.ownsRow_form hown (smallN_pos n)
  exact ⟨g, c, rfl, own_at hown rfl (smallN_bytes n), hb⟩
theorem refPut_form (n : Nat) (w : World) (hn : n < 18446744073709551616) :
    Calls Try.prog 21 #[.int .u64 n] w fun e w' => ∃ g c, e = .returned (.slice (some ⟨g, 0, none⟩) 8 c) ∧ BIn w' (some ⟨g, 0, none⟩) (putN n) ∧ Below w.heap.size w w' := by
  refine (refPut_any n w hn).mono ?_
  rintro e w1 ⟨v, rfl, hown, hb⟩
  obtain ⟨g, c, rfl⟩ := Go.Joins.ownsRow_form hown (by decide)
  exact ⟨g, c, rfl, own_at hown rfl (putN_bytes n hn), hb⟩
theorem put_form (n : Nat) (w : World) (hn : n < 18446744073709551616) :
    Calls Try.prog 17 #[.int .u64 n] w fun e w' => ∃ g, e = .returned (.slice (some ⟨g, 0, none⟩) 8 8) ∧ w'.heap[g]? = some (.cells (Bs (putN n)).toArray 51 (0, 0)) ∧ w.heap.size ≤ g ∧ BIn w' (some ⟨g, 0, none⟩) (putN n) ∧ Below w.heap.size w w' := by
  refine (put_any n w hn).mono ?_
  rintro e w' ⟨w1, rfl, rfl, hb⟩
  exact ⟨w1.heap.size, rfl, heap_alloc_new w1 _, hb.size, bin_lit w1 _ _ _ _ _ rfl rfl (putN_bytes n hn), hb.alloc hb.size _⟩
end Go.Proofs.Ytdbgbaclgdkkjaa
