/-
  The digest of abc in sixteens: alive.
-/
import Derived.Test.YtoagaddciapmkaaDoorXSm
import Derived.Test.YtoagaddciapmkaaDoorXUnhex
namespace Go.Proofs.YtoagaddciapmkaaDoor
open Go.RowKit Go.WideShapes

/-- The text of abc's digest. -/
def abcS : ByteArray := ⟨#[98, 97, 55, 56, 49, 54, 98, 102, 56, 102, 48, 49, 99, 102, 101, 97, 52, 49, 52, 49, 52, 48, 100, 101, 53, 100, 97, 101, 50, 50, 50, 51, 98, 48, 48, 51, 54, 49, 97, 51, 57, 54, 49, 55, 55, 97, 57, 99, 98, 52, 49, 48, 102, 102, 54, 49, 102, 50, 48, 48, 49, 53, 97, 100]⟩
theorem abc_text : strOf (hexN (digN [97, 98, 99])) = abcS := by
  rw [dig_abc]
  apply bytes_inj
  rw [strOf_list]
  rfl
theorem abc_eq : (abcS.toList == [98, 97, 55, 56, 49, 54, 98, 102, 56, 102, 48, 49, 99, 102, 101, 97, 52, 49, 52, 49, 52, 48, 100, 101, 53, 100, 97, 101, 50, 50, 50, 51, 98, 48, 48, 51, 54, 49, 97, 51, 57, 54, 49, 55, 55, 97, 57, 99, 98, 52, 49, 48, 102, 102, 54, 49, 102, 50, 48, 48, 49, 53, 97, 100]) = true := by
  rw [Lib.toList_data]
  decide
theorem bin_dig {w : World} {g : Nat} {xs : List Nat} {t : TypeId} (hg : w.heap[g]? = some (.cells (Bs xs).toArray t (0, 0))) (hx : ∀ x ∈ xs, x < 256) : BIn w (some ⟨g, 0, none⟩) xs :=
  ⟨fun _ => ⟨g, 0, rfl, fun i hi => by rw [Nat.zero_add]; exact cell_bs hg hi⟩, hx⟩
theorem slice_dig (g : Nat) : ∀ w, (Instr.sliceAt 23 (.pointer (some ⟨g, 0, none⟩)) none none none).run Tryd.prog w = .ok (.slice (some ⟨g, 0, none⟩) 32 32) w := by
  intro w
  simp [Instr.sliceAt, Instr.sliceBounds, run_underlying Tryd.underlying23, Instr.sureAddr, go_sem, Addr.add]
/-- []byte of a constant text: the new row is told from others by what lies behind it. -/
theorem conv_lit (w : World) (cs : Array Value) (n : Nat) (hn : cs.size = n) : (convert 22 22 (.slice (some ⟨w.heap.size, 0, none⟩) n n)).run Tryd.prog (w.alloc (.cells cs 5)) = .ok (.slice (some ⟨w.heap.size, 0, none⟩) n n) ((w.alloc (.cells cs 5)).freeze ⟨w.heap.size, n, none⟩ 1) := by
  subst hn
  have hsh : (w.alloc (.cells cs 5)).shape? w.heap.size = some (5, cs.size) := by
    unfold World.shape?
    rw [_root_.Go.heap_alloc_new]
  simp [convert, run_underlying Tryd.underlying22, run_underlying Tryd.underlying5, markStringish, shape, Sem.run, hsh, go_sem]
theorem cell_freeze (w : World) (p a : Addr) (n : Nat) : (w.freeze p n).cell? a = w.cell? a := by
  unfold World.freeze
  split
  · rfl
  · unfold World.cell?
    rw [Array.getElem?_modify]
    by_cases h : p.block = a.block
    · rw [if_pos h]
      cases w.heap[a.block]? with
      | none => rfl
      | some ob => cases ob <;> rfl
    · rw [if_neg h]
end Go.Proofs.YtoagaddciapmkaaDoor
