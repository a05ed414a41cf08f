/-
  Contract of the document's taken: which sectors are in pieces.
-/
import Derived.Test.YtkgmhmhphgaclabGreatDoorJ12
import Derived.Test.YtkgmhmhphgaclabGreatDoorJ07
import Derived.Laws.StructEq
namespace Go.Proofs.YtkgmhmhphgaclabGreatDoor
open Go.RowKit Go.WideShapes


end Go.Proofs.YtkgmhmhphgaclabGreatDoor
namespace Go.Proofs.YtkgmhmhphgaclabGreatDoor.Rm
open Go.RowKit Go.WideShapes

def eqP (x y : Int × Int) : Bool := x.1 == y.1 && x.2 == y.2
theorem eqP_iff {x y : Int × Int} : eqP x y = true ↔ x = y := by
  unfold eqP
  simp only [Bool.and_eq_true, beq_iff_eq]
  exact ⟨fun h => Prod.ext h.1 h.2, fun h => by rw [h]; exact ⟨rfl, rfl⟩⟩
theorem neq_piece (a b c d : Int) (w : World) : Sem.run Tryz.prog (binOp .neq 148 (.agg #[.int .i64 a, .int .i64 b]) (.agg #[.int .i64 c, .int .i64 d])) w = .ok (.bool (!eqP (a, b) (c, d))) w := by
  have u3 := Tryz.underlying3
  have a3 := Tryz.isAgg3
  have z3 := Tryz.sizeOf3
  have hS : Tryz.prog.underlying 148 = some (.struct (Tryz.prog.fieldsOf 148)) := by kernel_rfl
  have hp : Tryz.prog.stoodInHeld 148 = false := by kernel_rfl
  rw [run_neq_struct, show (10000 : Nat) = 9999 + 1 from rfl, run_equalIn_agg w 9999 148 _ _ hS hp]
  simp only [Program.fieldsOf, Tryz.underlying148]
  go_simp
  by_cases h1 : a = c <;> by_cases h2 : b = d <;> simp [eqP, h1, h2]
def EqK (a b : Pcs) (k : Nat) : Prop := ∀ i, i < k → a.getD i (0, 0) = b.getD i (0, 0)
theorem EqK.step {a b : Pcs} {k : Nat} (h : EqK a b k) (h1 : a.getD k (0, 0) = b.getD k (0, 0)) : EqK a b (k + 1) := by
  intro i hi
  rcases Nat.lt_or_ge i k with h' | h'
  · exact h i h'
  · obtain rfl : i = k := by omega
    exact h1
theorem EqK.eq {a b : Pcs} (hl : a.length = b.length) (h : EqK a b a.length) : a = b := by
  refine List.ext_getElem hl fun i h1 h2 => ?_
  have := h i h1
  rwa [getD_eq h1, getD_eq h2] at this
def sameB (a b : Pcs) : Bool := decide (a = b)
theorem sameB_yes {a b : Pcs} (h : a = b) : sameB a b = true := decide_eq_true h
theorem sameB_no {a b : Pcs} (h : a ≠ b) : sameB a b = false := decide_eq_false h

end Go.Proofs.YtkgmhmhphgaclabGreatDoor.Rm
namespace Go.Proofs.YtkgmhmhphgaclabGreatDoor.Rm
open Go.RowKit Go.WideShapes

end Go.Proofs.YtkgmhmhphgaclabGreatDoor.Rm
namespace Go.Proofs.YtkgmhmhphgaclabGreatDoor.Rm
open Go.RowKit Go.WideShapes

theorem info_bool : (Tryz.prog.info? 4).map (fun i => (i.zero, i.size, i.bytes)) = some (some (.bool false), 1, 1) := by kernel_rfl
/-- Truth values, one a sector. -/
def bRow (P : Int → Bool) (n : Nat) : List Value := (List.range n).map fun i => .bool (P (i : Nat))
theorem bRow_len (P : Int → Bool) (n : Nat) : (bRow P n).length = n := by simp [bRow]
theorem bRow_at {P : Int → Bool} {n i : Nat} (h : i < n) : (bRow P n)[i]? = some (.bool (P (i : Nat))) := by simp [bRow, h]
theorem bRow_congr {P Q : Int → Bool} {n : Nat} (h : ∀ i : Nat, i < n → P i = Q i) : bRow P n = bRow Q n := by
  unfold bRow
  refine List.map_congr_left fun i hi => ?_
  rw [h i (by simpa using hi)]
theorem bRow_set {P Q : Int → Bool} {n k : Nat} (hk : k < n) (hq : Q k = true) (h : ∀ i : Nat, i ≠ k → Q i = P i) : (bRow P n).set k (.bool true) = bRow Q n := by
  apply List.ext_getElem?
  intro i
  rw [List.getElem?_set]
  by_cases e : k = i
  · subst e
    rw [if_pos rfl, bRow_at hk, hq, if_pos (by rw [bRow_len]; exact hk)]
  · rw [if_neg e]
    rcases Nat.lt_or_ge i n with h' | h'
    · rw [bRow_at h', bRow_at h', h i (fun e' => e e'.symm)]
    · rw [List.getElem?_eq_none (by rw [bRow_len]; exact h'), List.getElem?_eq_none (by rw [bRow_len]; exact h')]
theorem bRow_made (n : Nat) : (madeCells #[Value.bool false] n).toList = bRow (cov []) n := by
  rw [toList_madeCells_one]
  apply List.ext_getElem?
  intro i
  rcases Nat.lt_or_ge i n with h' | h'
  · rw [bRow_at h']; simp [h', cov]
  · rw [List.getElem?_eq_none (by simpa using h'), List.getElem?_eq_none (by rw [bRow_len]; exact h')]
/-- The row as it lies. -/
def BAt (w : World) (g : Nat) (P : Int → Bool) (n : Nat) : Prop := w.heap[g]? = some (.cells (bRow P n).toArray 4 (0, 0))
theorem BAt.cell {w : World} {g : Nat} {P : Int → Bool} {n i : Nat} (h : BAt w g P n) (hi : i < n) : w.cell? ⟨g, i, none⟩ = some (.bool (P (i : Nat))) := by
  rw [cell_of_row w g i _ _ _ h, List.getElem?_toArray, bRow_at hi]
theorem BAt.frozen {w : World} {g : Nat} {P : Int → Bool} {n i : Nat} (h : BAt w g P n) : w.frozen? ⟨g, i, none⟩ = false := frozen_of_row _ _ _ _ _ h
theorem BAt.below {w w' : World} {g : Nat} {P : Int → Bool} {n : Nat} (h : BAt w g P n) (hb : Below w.heap.size w w') : BAt w' g P n := (hb.block g (lt_heap h)).trans h
theorem BAt.grown {w w' : World} {g : Nat} {P : Int → Bool} {n : Nat} {r : Option Nat} (h : BAt w g P n) (hg : w.grownBy w' r) (hne : some g ≠ r) : BAt w' g P n := (hg.block g (lt_heap h) hne).trans h
theorem BAt.set {w : World} {g : Nat} {P Q : Int → Bool} {n k : Nat} (h : BAt w g P n) (hk : k < n) (hq : Q k = true) (hpq : ∀ i : Nat, i ≠ k → Q i = P i) : BAt (w.setCell ⟨g, k, none⟩ (.bool true)) g Q n := by
  unfold BAt
  rw [heap_setCell_same w g k _ _ _ h, ← bRow_set hk hq hpq]
  simp
def covJ (l : Pcs) (a : Int) (j : Nat) (n : Int) : Bool := cov l n || decide (a ≤ n ∧ n < a + (j : Nat))
theorem covJ_zero (l : Pcs) (a : Int) (n : Int) : covJ l a 0 n = cov l n := by
  unfold covJ
  rw [decide_eq_false (by omega), Bool.or_false]
theorem covJ_step {l : Pcs} {a : Int} {j : Nat} {n : Int} (h : n ≠ a + (j : Nat)) : covJ l a (j + 1) n = covJ l a j n := by
  unfold covJ
  congr 1
  rw [decide_eq_decide]
  omega
theorem covJ_new (l : Pcs) (a : Int) (j : Nat) (h : 0 ≤ (j : Int)) : covJ l a (j + 1) (a + (j : Nat)) = true := by
  unfold covJ
  rw [decide_eq_true (by omega), Bool.or_true]
theorem covJ_at (l : Pcs) (a : Int) (j : Nat) : covJ l a j (a + (j : Nat)) = cov l (a + (j : Nat)) := by
  unfold covJ
  rw [decide_eq_false (by omega), Bool.or_false]
theorem covJ_full (l : Pcs) (p : Int × Int) (hp : 0 ≤ p.2) (n : Int) : covJ l p.1 p.2.toNat n = cov (l ++ [p]) n := by
  rw [cov_append]
  unfold covJ
  congr 1
  simp only [cov, List.any_cons, List.any_nil, Bool.or_false, hasN]
  rw [decide_eq_decide]
  omega
theorem free_run {l : Pcs} {a : Int} {j : Nat} (h : ∀ i : Nat, i < j → cov l (a + (i : Nat)) = false) : ∀ n, a ≤ n → n < a + (j : Nat) → cov l n = false := by
  intro n h1 h2
  have := h (n - a).toNat (by omega)
  rwa [show a + ((n - a).toNat : Int) = n from by omega] at this
/-- What came out. -/
def TakenPost (count : Nat) (l : Pcs) (w : World) (e : Ending) (w' : World) : Prop :=
  (Good count l → ∃ g, e = .returned (.tuple #[.slice (some ⟨g, 0, none⟩) count count, .bool true]) ∧ BAt w' g (cov l) count ∧ w.heap.size ≤ g ∧ Below w.heap.size w w') ∧
  (¬ Good count l → e = .returned (.tuple #[.slice none 0 0, .bool false]) ∧ Below w.heap.size w w')
theorem takenPost_bad {count : Nat} {l : Pcs} {w w' : World} {e : Ending} (h : ¬ Good count l) (he : e = .returned (.tuple #[.slice none 0 0, .bool false])) (hb : Below w.heap.size w w') : TakenPost count l w e w' :=
  ⟨fun hg => absurd hg h, fun _ => ⟨he, hb⟩⟩
theorem not_good_snoc {count : Int} {l : Pcs} {k : Nat} (hk : k < l.length) {n : Int} (h1 : (l.getD k (0, 0)).1 ≤ n) (h2 : n < (l.getD k (0, 0)).1 + (l.getD k (0, 0)).2) (hc : cov (l.take k) n = true) : ¬ Good count l := by
  intro hg
  have := (hg.take (k + 1))
  rw [take_snoc (d := (0, 0)) hk] at this
  have := this.far n h1 h2
  rw [this] at hc
  cases hc

end Go.Proofs.YtkgmhmhphgaclabGreatDoor.Rm
