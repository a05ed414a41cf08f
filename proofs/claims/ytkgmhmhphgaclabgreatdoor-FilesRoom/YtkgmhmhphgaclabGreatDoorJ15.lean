/-
  What lies in memory while the document's Read goes on; its reader's number in one form.
-/
import Derived.Test.YtkgmhmhphgaclabGreatDoorJ14
import Derived.Test.YtkgmhmhphgaclabGreatDoorJ10
import Derived.Test.YtkgmhmhphgaclabGreatDoorJ12
namespace Go.Proofs.YtkgmhmhphgaclabGreatDoor
open Go.RowKit Go.WideShapes Rm

/-- What may asks. -/
structure MayR (x : DirV) : Prop where
  lo : 1 ≤ x.gen
  hi : x.gen < 4611686018427387904
  rise : Rises ltS x.files
  pcs : errK 4096 (allPcs x.files) = 0
  each : ∀ f ∈ x.files, FileOk f
theorem mayR_iff {x : DirV} (h : x.files.length ≤ 32) : MayR x ↔ May ltS x := ⟨fun k => ⟨k.lo, k.hi, h, k.rise, k.pcs, k.each⟩, fun k => ⟨k.lo, k.hi, k.rise, k.pcs, k.each⟩⟩
theorem sum_eq (l : Pcs) : sumP l = sumC l := by
  induction l with
  | nil => rfl
  | cons p l ih => simp [sumP, sumC] at *
/-- A file, but for its pieces: as one test asks. -/
def FOk1 (l : List FileV) (k : Nat) : Prop := isNameN (l.getD k zeroF).name = true ∧ (0 < k → ltS (l.getD (k - 1) zeroF).name (l.getD k zeroF).name) ∧ 0 ≤ (l.getD k zeroF).size ∧ (l.getD k zeroF).size ≤ 524288
def FOk2 (l : List FileV) (k : Nat) : Prop := FOk1 l k ∧ sumC (l.getD k zeroF).pcs = needsN (l.getD k zeroF).size
theorem FOk2.step {l : List FileV} {k : Nat} (h : ∀ j, j < k → FOk2 l j) (h1 : FOk2 l k) : ∀ j, j < k + 1 → FOk2 l j := by
  intro j hj
  rcases Nat.lt_or_ge j k with h' | h'
  · exact h j h'
  · obtain rfl : j = k := by omega
    exact h1
theorem mayR_of {gen : Int} {l : List FileV} (h1 : 1 ≤ gen) (h2 : gen < 4611686018427387904) (h3 : errK 4096 (allPcs l) = 0) (h4 : ∀ p ∈ allPcs l, 80 ≤ p.1) (h5 : ∀ j, j < l.length → FOk2 l j) : MayR ⟨gen, l⟩ := by
  refine ⟨h1, h2, fun i hi => ?_, h3, fun f hf => ?_⟩
  · exact (h5 (i + 1) hi).1.2.1 (by omega)
  · obtain ⟨i, hi, rfl⟩ := List.getElem_of_mem hf
    have := h5 i hi
    unfold FOk2 FOk1 at this
    rw [getD_eq hi] at this
    exact ⟨this.1.1, this.1.2.2.1, this.1.2.2.2, fun p hp => h4 p (mem_allPcs hf hp), this.2⟩
theorem mayR_ok2 {gen : Int} {l : List FileV} (h : MayR ⟨gen, l⟩) {k : Nat} (hk : k < l.length) : FOk2 l k := by
  have hf := h.each _ (getD_mem' (d := zeroF) hk)
  refine ⟨⟨hf.1, fun h0 => ?_, hf.2.1, hf.2.2.1⟩, hf.2.2.2.2⟩
  have := h.rise (k - 1) (by simp only; omega)
  rwa [show k - 1 + 1 = k from by omega] at this
end Go.Proofs.YtkgmhmhphgaclabGreatDoor
namespace Go.Proofs.YtkgmhmhphgaclabGreatDoor
open Go.RowKit Go.WideShapes Rm

theorem pad_snoc (xs : List Nat) (j : Nat) : xs ++ List.replicate j 0 ++ [0] = xs ++ List.replicate (j + 1) 0 := by
  rw [List.append_assoc, List.replicate_succ']
def WrotePost (x : DirV) (w : World) (e : Ending) (w' : World) : Prop := ∃ r n b, e = .returned (.tuple #[r, .int .i64 n]) ∧ Wrote x n b ∧ w'.ownsRow w.heap.size 5 1 r b.length (Bs b) ∧ Below w.heap.size w w'
def lenOf : Value → Nat
  | .slice _ n _ => n
  | _ => 0
theorem own_some {w : World} {base n : Nat} {v : Value} {xs : List Value} (h : w.ownsRow base 5 1 v n xs) (hn : 0 < n) : ∃ g m, v = .slice (some ⟨g, 0, none⟩) n m ∧ n ≤ m ∧ m ≤ maxLen ∧ g < w.heap.size := by
  rcases h.2 with ⟨_, h0⟩ | ⟨g, cap, cur, hv, _, hg, h1, h2, _⟩
  · omega
  · exact ⟨g, cap, hv, h1, h2, lt_heap hg⟩
end Go.Proofs.YtkgmhmhphgaclabGreatDoor
namespace Go.Proofs.YtkgmhmhphgaclabGreatDoor
open Go.RowKit Go.WideShapes Rm

end Go.Proofs.YtkgmhmhphgaclabGreatDoor
namespace Go.Proofs.YtkgmhmhphgaclabGreatDoor
open Go.RowKit Go.WideShapes Rm

/-- One block is written, all else stays. -/
structure Upd (R : Nat) (w w' : World) : Prop where
  oth : ∀ k, k ≠ R → w'.heap[k]? = w.heap[k]?
  size : w'.heap.size = w.heap.size
  os : w'.os = w.os
  tape : w'.tape = w.tape
  output : w'.output = w.output
theorem Upd.set (w : World) (R i : Nat) (u : Value) : Upd R w (w.setCell ⟨R, i, none⟩ u) :=
  ⟨fun k hk => Below.heap_setCell _ _ _ _ hk, by simp [World.setCell], rfl, rfl, rfl⟩
theorem Upd.below {R B : Nat} {w0 w w' : World} (h : Upd R w w') (hb : Below B w0 w) (hR : B ≤ R) : Below B w0 w' :=
  hb.trans ⟨h.os, h.tape, h.output, by rw [h.size]; exact Nat.le_refl _, fun k hk => h.oth k (by omega)⟩
theorem Upd.rowT {R : Nat} {w w' : World} {v : Value} {xs : List Nat} {C : Array Value} {t : TypeId} {fr : Nat × Nat} (h : Upd R w w') (hR : w.heap[R]? = some (.cells C t fr)) (ht : t ≠ 5) (hv : RowT w v xs) : RowT w' v xs := by
  refine hv.keep fun b C' fr' hb => h.oth b ?_
  rintro rfl
  rw [hR] at hb
  simp only [Option.some.injEq, Obj.cells.injEq] at hb
  exact ht hb.2.1
theorem Upd.own {R base n s : Nat} {e : TypeId} {w w' : World} {v : Value} {xs : List Value} (h : Upd R w w') (ho : w.ownsRow base e s v n xs) (hR : R < base) : w'.ownsRow base e s v n xs :=
  own_keepB ho fun k hk _ => h.oth k (by omega)
theorem heap_set0 {w : World} {R : Nat} {a b : Value} {t : TypeId} {fr : Nat × Nat} (h : w.heap[R]? = some (.cells #[a, b] t fr)) (u : Value) : (w.setCell ⟨R, 0, none⟩ u).heap[R]? = some (.cells #[u, b] t fr) := by
  simp only [World.setCell, Array.getElem?_modify, h, if_true]
  rfl
theorem heap_set1 {w : World} {R : Nat} {a b : Value} {t : TypeId} {fr : Nat × Nat} (h : w.heap[R]? = some (.cells #[a, b] t fr)) (u : Value) : (w.setCell ⟨R, 1, none⟩ u).heap[R]? = some (.cells #[a, u] t fr) := by
  simp only [World.setCell, Array.getElem?_modify, h, if_true]
  rfl
theorem frozen_row {w : World} {R i : Nat} {C : Array Value} {t : TypeId} (h : w.heap[R]? = some (.cells C t (0, 0))) : w.frozen? ⟨R, i, none⟩ = false := by
  simp [World.frozen?, h]
end Go.Proofs.YtkgmhmhphgaclabGreatDoor
