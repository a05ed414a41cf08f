/-
  Contracts of the document's IsName, needs, small and pieces.
-/
import Derived.Test.YtkgmhmhphgaclabGreatDoorJ13
import Derived.Test.YtkgmhmhphgaclabGreatDoorJ09
namespace Go.Proofs.YtkgmhmhphgaclabGreatDoor.Rm
open Go.RowKit Go.WideShapes
set_option maxRecDepth 4000

theorem grown_da (w : World) (o : Obj) (n : Nat) (r : Option Nat) : w.grownBy ((w.drewN n).alloc o) r := grown_trans (grown_drew w n r) (World.grownBy_alloc _ o r)
theorem new_da (w : World) (o : Obj) (n : Nat) : ((w.drewN n).alloc o).heap[w.heap.size]? = some o := heap_alloc_new (w.drewN n) o
def wantP (P : Int → Bool) (want : Bool) (n : Int) : Bool := P n == want
/-- A piece of one sector behind them, as the loop lays it. -/
structure RunsR (P : Int → Bool) (want : Bool) (many first n base g k : Nat) (out : Value) (w wr : World) : Prop where
  own : POwn wr base out (runsK (wantP P want) many first k).1
  row : BAt wr g P n
  far : some g ≠ out.ownBlock
  bel : Below w.heap.size w wr
theorem RunsR.over {P : Int → Bool} {want : Bool} {many first n base g k : Nat} {out : Value} {w wr : World} (h : RunsR P want many first n base g k out w wr) (hr : runsK (wantP P want) many first (k + 1) = runsK (wantP P want) many first k) : RunsR P want many first n base g (k + 1) out w wr :=
  ⟨by rw [hr]; exact h.own, h.row, h.far, h.bel⟩
theorem RunsR.put {P : Int → Bool} {want : Bool} {many first n base g k : Nat} {out out' : Value} {w wr w2 : World} (h : RunsR P want many first n base g k out w wr) (hb0 : w.heap.size ≤ base)
    (ho : POwn w2 base out' (runsK (wantP P want) many first (k + 1)).1) (hg : wr.grownBy w2 out.ownBlock) (hf : some g ≠ out'.ownBlock) : RunsR P want many first n base g (k + 1) out' w w2 :=
  ⟨ho, h.row.grown hg h.far, hf, h.bel.grown hg h.bel.size (fun x hx => Nat.le_trans hb0 (h.own.lt x hx).1)⟩

end Go.Proofs.YtkgmhmhphgaclabGreatDoor.Rm
namespace Go.Proofs.YtkgmhmhphgaclabGreatDoor.Rm
open Go.RowKit Go.WideShapes
set_option maxRecDepth 4000

theorem runs_free (l : Pcs) (many first k : Nat) : runsK (wantP (cov l) false) many first k = runsK (freeB l) many first k := runsK_congr k (fun n _ _ => by unfold wantP freeB; cases cov l n <;> rfl)
theorem runs_join (n : Nat) (l : Pcs) : (runsK (wantP (cov l) true) n 0 (n - 0)).1 = joinK n l := by
  rw [Nat.sub_zero]
  unfold joinK
  rw [runsK_congr (P := wantP (cov l) true) (Q := cov l) n (fun n _ _ => by unfold wantP; cases cov l n <;> rfl)]
theorem got_nat (f n m : Nat) (l : Pcs) : gotF (f : Int) (n : Int) l m = runsK (freeB l) m f (n - f) := by
  unfold gotF
  rw [show ((f : Int)).toNat = f from by omega, show ((n : Int) - (f : Int)).toNat = n - f from by omega]
/-! ### Take -/
theorem runs_sum (P : Int → Bool) (many first k : Nat) : sumP (runsK P many first k).1 = ((runsK P many first k).2 : Nat) := by
  have h := runsK_of P many first k
  rw [← secs_len_sum (fun p hp => by have := h.runs.2 p hp; omega), h.secs, h.got]
theorem take_wn {s : Pcs} (h : ∀ p ∈ s, 0 ≤ p.1 ∧ 0 ≤ p.2 ∧ p.1 + p.2 ≤ 4096) (k : Nat) : ∀ p ∈ s.take k, 0 ≤ p.2 ∧ p.2 ≤ 4096 := by
  intro p hp
  have := h p (List.mem_of_mem_take hp)
  omega
end Go.Proofs.YtkgmhmhphgaclabGreatDoor.Rm
namespace Go.Proofs.YtkgmhmhphgaclabGreatDoor.Rm
open Go.RowKit Go.WideShapes
set_option maxRecDepth 4000

end Go.Proofs.YtkgmhmhphgaclabGreatDoor.Rm
namespace Go.Proofs.YtkgmhmhphgaclabGreatDoor
open Go.RowKit Go.WideShapes Rm

theorem pown_grown_box {w w' : World} {base B : Nat} {v : Value} {l : Pcs} {C : Array Value} {t : TypeId} {fr : Nat × Nat} (h : POwn w base v l) (hg : w.grownBy w' v.ownBlock) (hB : w.heap[B]? = some (.cells C t fr)) (ht : t ≠ 148) : w'.heap[B]? = some (.cells C t fr) := by
  rw [hg.block B (lt_heap hB) ?_]
  · exact hB
  · intro e
    rcases h.2 with ⟨hv, _⟩ | ⟨g, cap, cur, hv, _, hgg, _⟩
    · rw [hv] at e; cases e
    · rw [hv] at e
      simp only [Value.ownBlock, Option.some.injEq] at e
      subst e
      rw [hB] at hgg
      simp only [Option.some.injEq, Obj.cells.injEq] at hgg
      exact ht hgg.2.1
end Go.Proofs.YtkgmhmhphgaclabGreatDoor
