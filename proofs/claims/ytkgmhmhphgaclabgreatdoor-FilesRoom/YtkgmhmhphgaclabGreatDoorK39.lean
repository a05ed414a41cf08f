/-
  The document's Mounted and Mount.
-/
import Derived.Test.YtkgmhmhphgaclabGreatDoorK38
import Derived.Test.YtkgmhmhphgaclabGreatDoorJ16
import Derived.Test.YtkgmhmhphgaclabGreatDoorJ22
namespace Go.Proofs.YtkgmhmhphgaclabGreatDoor
set_option maxRecDepth 8000
open Go.RowKit Go.WideShapes
attribute [local go_sem ↓] Go.wp_at_zero Go.wp_at_succ

theorem RowG.set3 {w : World} {base B : Nat} {v : Value} {xs : List Nat} {cs : Array Value} (h : RowG w base v xs) (hB : w.heap[B]? = some (.cells cs 25 (0, 0))) (a b c : Value) :
    RowG (((w.setCell ⟨B, 0, none⟩ a).setCell ⟨B, 1, none⟩ b).setCell ⟨B, 2, none⟩ c) base v xs := by
  refine h.keepB fun k cs' _ e => set3_other w B k a b c ?_
  rintro rfl
  rw [hB] at e
  simp only [Option.some.injEq, Obj.cells.injEq] at e
  exact absurd e.2.1 (by decide)
/-- One write more, and the field that holds them stored. -/
theorem DiskG.pushed {w3 w4 : World} {base B0 : Nat} {count : Int} {dv wv : Value} {data : List Nat} {ws : Puts} {vs : List Value} (h : DiskG w3 base B0 count dv data wv ws vs) {s : Int} {xs : List Nat} {xv : Value} {g' cap' n : Nat} {o : Obj} (hx : RowG w3 base xv xs)
    (hn : n = ws.length + 1) (hown : w4.ownsRow base 71 2 (.slice (some ⟨g', 0, none⟩) n cap') n (cellsV ws vs ++ [.int .i64 s, xv])) (hgrow : (w3.alloc o).grownBy w4 wv.ownBlock) :
    DiskG (w4.setCell ⟨B0, 2, none⟩ (.slice (some ⟨g', 0, none⟩) n cap')) base B0 count dv data (.slice (some ⟨g', 0, none⟩) n cap') (ws ++ [(s, xs)]) (vs ++ [xv]) := by
  subst hn
  have ha := h.below (below_alloc w3 o)
  have P4 := ha.puts.push (hx.below (below_alloc w3 o)) hown hgrow
  have box4 := (hgrow.block _ (lt_heap ha.box) (ha.puts.apart (by decide) ha.box)).trans ha.box
  have D4 : RowG w4 base dv data := ha.data.keepB fun k cur _ e => hgrow.block k (lt_heap e) (ha.puts.apart (by decide) e)
  have hBne : ∀ (k : Nat) (cs : Array Value) (t : TypeId), t ≠ 25 → w4.heap[k]? = some (.cells cs t (0, 0)) → k ≠ B0 := by
    rintro k cs t ht hk rfl
    rw [box4] at hk
    simp only [Option.some.injEq, Obj.cells.injEq] at hk
    exact ht hk.2.1.symm
  refine ⟨?_, h.hB, D4.keepB fun k cur _ e => heap_setCell_other w4 ⟨B0, 2, none⟩ k _ (hBne k _ _ (by decide) e), P4.keepB fun k cur t ht _ e => heap_setCell_other w4 ⟨B0, 2, none⟩ k _ (hBne k _ _ (by rcases ht with rfl | rfl <;> decide) e)⟩
  rw [heap_setCell_same w4 B0 2 _ _ _ box4]
  simp
theorem rowG_at {w : World} {base k : Nat} {v : Value} {ws : Puts} {vs : List Value} (hk : ws.length = k) (h : PutsG w base v ws vs) : w.ownsRow base 71 2 v k (cellsV ws vs) := by
  subst hk; exact h.row
theorem results_cell_one {fn : Func} {p : Tmp} {ty : TypeId} (h : fn.results = #[.cell p ty]) (tmps : Array Value) (P : Program) (w : World) :
    (results fn tmps).run P w = ((asAddr (tmps.getD p undef)).run P w).andThen fun a w₁ => (loadVar ty a).run P w₁ := by
  simp only [results, h]
  simp [Sem.run_bind, Result.andThen]
theorem rowG_oneCell {w : World} {base : Nat} {v : Value} {xs : List Nat} (h : RowG w base v xs) (s : Int) : ∀ u ∈ [Value.int .i64 s, v], u.oneCell' = true := by
  obtain ⟨p, c, rfl, _⟩ := h.form
  exact two_oneCell s p _ c
theorem DiskG.toV {w : World} {base B0 : Nat} {count : Int} {dv wv : Value} {data : List Nat} {ws : Puts} {vs : List Value} (h : DiskG w base B0 count dv data wv ws vs) : DiskV w base (.agg #[.int .i64 count, dv, wv]) count data ws := ⟨⟨dv, wv, vs, rfl, h.data, h.puts⟩⟩

end Go.Proofs.YtkgmhmhphgaclabGreatDoor
namespace Go.Proofs.YtkgmhmhphgaclabGreatDoor
set_option maxRecDepth 8000
open Go.RowKit Go.WideShapes

theorem box1 {w w1 : World} {o : Obj} (h : Below (w.alloc o).heap.size (w.alloc o) w1) : Below (w.heap.size + 1) (w.alloc o) w1 := by simpa using h

end Go.Proofs.YtkgmhmhphgaclabGreatDoor
namespace Go.Proofs.YtkgmhmhphgaclabGreatDoor
open Go.RowKit Go.WideShapes Rm

theorem below_dwF {w w' : World} (h : Below w.drew.heap.size w.drew w') : Below w.heap.size w w' := ((Below.refl _ _).drew).trans h
def HeldP (w : World) (count : Int) (xs : List Nat) (e : Ending) (w' : World) : Prop :=
  (∃ x ls lv, (IsDir ltS x xs ∧ errK count (allPcs x.files) = 0) ∧ ls.map Prod.fst = x.files ∧ e = .returned (.tuple #[.agg #[.int .i64 x.gen, lv], .bool true]) ∧ FOwn w' w.heap.size lv ls ∧ Below w.heap.size w w')
  ∨ ((∀ x, IsDir ltS x xs → errK count (allPcs x.files) ≠ 0) ∧ e = .returned (.tuple #[.agg #[.int .i64 0, .slice none 0 0], .bool false]) ∧ Below w.heap.size w w')
end Go.Proofs.YtkgmhmhphgaclabGreatDoor
namespace Go.Proofs.YtkgmhmhphgaclabGreatDoor
open Go.RowKit Go.WideShapes Rm

def RMountP (w : World) (r : Option (DirV × Int)) (n : Int) (e : Ending) (w' : World) : Prop :=
  match r with
  | some (x, at_) => ∃ ls lv, ls.map Prod.fst = x.files ∧ e = .returned (.tuple #[.agg #[.int .i64 x.gen, lv], .int .i64 at_, .int .i64 n]) ∧ FOwn w' w.heap.size lv ls ∧ Below w.heap.size w w'
  | none => e = .returned (.tuple #[.agg #[.int .i64 0, .slice none 0 0], .int .i64 0, .int .i64 n]) ∧ Below w.heap.size w w'
end Go.Proofs.YtkgmhmhphgaclabGreatDoor
