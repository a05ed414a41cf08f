/-
  turn, word, first, steps: the document's.
-/
import Derived.Test.YtoagaddciapmkaaDoorXMixed
namespace Go.Proofs.YtoagaddciapmkaaDoor
open Go.RowKit Go.WideShapes

theorem rturn_any (x n : Nat) (w : World) (hx : x < 4294967296) (h0 : 0 < n) (hn : n < 32) : Calls Tryd.prog 64 #[.int .u32 x, .int .u32 n] w fun e w' => e = .returned (.int .u32 (turnR x n : Nat)) ∧ w' = w := by
  go_enter Tryd.func64, Tryd.ntmps64
  go_wp2
  go_ret
  refine ⟨?_, rfl⟩
  show Ending.returned (Value.int IntKind.u32 (bits BinOp.or IntKind.u32 ((x : Int) / 2 ^ n) ((x : Int) * 2 ^ (32 - n) % 4294967296))) = _
  rw [turnR_bits x n hx]
theorem size_rwords : (Tryd.prog.info? 60).map (·.size) = some 8 := by kernel_rfl
theorem size_rsched : (Tryd.prog.info? 62).map (·.size) = some 64 := by kernel_rfl
theorem rfirst_any (w : World) : Calls Tryd.prog 34 #[] w fun e w' => e = .returned (.agg (Ws firstH).toArray) ∧ Below w.heap.size w w' := by
  go_enter Tryd.func34, Tryd.ntmps34
  go_upto_region 1 with fail
  go_step
  refine wpList_build rfl 60 _ rfl (by kernel_rfl) ?_
  refine wpList_store_row rfl 60 (.tmp 0) (.tmp 1) rfl w.heap.size (Ws firstH).toArray (by rfl) (by kernel_rfl) 60 _ (_root_.Go.heap_alloc_new _ _) size_rwords rfl (one_cell_ws _) ?_
  go_wp2
  refine bodyPost_ret (results_cell_row rfl _ _ w.heap.size 60 (Ws firstH).toArray (0, 0) _ rfl (setRow_heap _ _ _ _ _ _ (_root_.Go.heap_alloc_new _ _)) Tryd.underlying60 rfl size_rwords) rfl ⟨rfl, ?_⟩
  exact below_setRow ((Below.refl _ _).alloc (by omega) _) (by omega)
theorem rsteps_any (w : World) : Calls Tryd.prog 35 #[] w fun e w' => e = .returned (.agg (Ws stepsK).toArray) ∧ Below w.heap.size w w' := by
  go_enter Tryd.func35, Tryd.ntmps35
  go_upto_region 1 with fail
  go_step
  refine wpList_build rfl 62 _ rfl (by kernel_rfl) ?_
  refine wpList_store_row rfl 62 (.tmp 0) (.tmp 1) rfl w.heap.size (Ws stepsK).toArray (by rfl) (by kernel_rfl) 62 _ (_root_.Go.heap_alloc_new _ _) size_rsched rfl (one_cell_ws _) ?_
  go_wp2
  refine bodyPost_ret (results_cell_row rfl _ _ w.heap.size 62 (Ws stepsK).toArray (0, 0) _ rfl (setRow_heap _ _ _ _ _ _ (_root_.Go.heap_alloc_new _ _)) Tryd.underlying62 rfl size_rsched) rfl ⟨rfl, ?_⟩
  exact below_setRow ((Below.refl _ _).alloc (by omega) _) (by omega)
end Go.Proofs.YtoagaddciapmkaaDoor
