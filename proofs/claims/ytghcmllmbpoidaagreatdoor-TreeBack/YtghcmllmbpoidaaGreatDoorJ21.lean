import Derived.Test.YtghcmllmbpoidaaGreatDoorJ19
import Derived.Shelf.SlGeneric
import Derived.Ground.SlgcProg
import Derived.Ground.SlsfProg
import Derived.Shelf.SlicesG.Cmp
import Derived.Shelf.SlSortCmp.WholeK
import Derived.Shelf.SlSortCmp.NoneTotal
import Derived.Test.YtghcmllmbpoidaaGreatDoorProg
import Derived.Lib.Bytealg
import Derived.Lib.Strings
import Derived.Lib.Walk
import Derived.Test.YtghcmllmbpoidaaGreatDoorJ07
import Derived.Test.YtghcmllmbpoidaaGreatDoorJ18
import Derived.Test.YtghcmllmbpoidaaGreatDoorJ14
import Derived.Deep.QuietTactic
import Derived.BigQuiet
import Derived.Test.YtghcmllmbpoidaaGreatDoorJ20
namespace Go.Proofs.YtghcmllmbpoidaaGreatDoor
open Go.RowKit Go.WideShapes Rm
theorem DiskF.to {base base' : Nat} {w w' : World} {v : Value} {count : Int} {data : List Nat} {ws : Puts} (h : DiskF base w v count data ws) (hb : base' ≤ base) (hs : w'.heap.size = w.heap.size) (hk : ∀ k : Nat, base ≤ k → k < w.heap.size → w'.heap[k]? = w.heap[k]?) : DiskF base' w' v count data ws :=
  fun w2 h2 => h w2 (fun k k1 k2 => (h2 k (by omega) (by omega)).trans (hk k k1 k2))
theorem below_setR {base B : Nat} {w0 w : World} (i : Nat) (v : Value) (h : Below base w0 w) (hB : base ≤ B) : Below base w0 (w.setCell ⟨B, i, none⟩ v) := h.setCell (p := ⟨B, i, none⟩) hB v
theorem set_keep {w : World} {B i k : Nat} {v : Value} (h : k ≠ B) : (w.setCell ⟨B, i, none⟩ v).heap[k]? = w.heap[k]? := heap_setCell_other _ ⟨B, i, none⟩ k _ h
theorem cells3f {w : World} {g : Nat} {a b c : Value} {t : TypeId} (h : w.heap[g]? = some (.cells #[a, b, c] t (0, 0))) : (w.cell? ⟨g, 0, none⟩ = some a ∧ w.cell? ⟨g, 1, none⟩ = some b ∧ w.cell? ⟨g, 2, none⟩ = some c) ∧ w.frozen? ⟨g, 0, none⟩ = false ∧ w.frozen? ⟨g, 1, none⟩ = false ∧ w.frozen? ⟨g, 2, none⟩ = false :=
  ⟨three_cells h, by simp only [World.frozen?, h]; rfl, by simp only [World.frozen?, h]; rfl, by simp only [World.frozen?, h]; rfl⟩
end Go.Proofs.YtghcmllmbpoidaaGreatDoor
