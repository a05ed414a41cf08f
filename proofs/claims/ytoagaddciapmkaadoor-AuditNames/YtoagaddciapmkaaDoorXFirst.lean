/-
  Where a digest begins; a key's bytes changed: the program's.
-/
import Derived.Test.YtoagaddciapmkaaDoorXTold
namespace Go.Proofs.YtoagaddciapmkaaDoor
open Go.RowKit Go.WideShapes

theorem al2_0 (w : World) (A B : Obj) : ((w.alloc A).alloc B).heap[w.heap.size]? = some A := by
  rw [_root_.Go.heap_alloc_old _ _ (by simp), _root_.Go.heap_alloc_new]
theorem al2_1 (w : World) (A B : Obj) : ((w.alloc A).alloc B).heap[w.heap.size + 1]? = some B := by
  rw [show w.heap.size + 1 = (w.alloc A).heap.size from by simp, _root_.Go.heap_alloc_new]
theorem al3_0 (w : World) (A B C : Obj) : (((w.alloc A).alloc B).alloc C).heap[w.heap.size]? = some A := by
  rw [_root_.Go.heap_alloc_old _ _ (by simp; omega), al2_0]
theorem al3_1 (w : World) (A B C : Obj) : (((w.alloc A).alloc B).alloc C).heap[w.heap.size + 1]? = some B := by
  rw [_root_.Go.heap_alloc_old _ _ (by simp), al2_1]
theorem al3_2 (w : World) (A B C : Obj) : (((w.alloc A).alloc B).alloc C).heap[w.heap.size + 1 + 1]? = some C := by
  rw [show w.heap.size + 1 + 1 = ((w.alloc A).alloc B).heap.size from by simp, _root_.Go.heap_alloc_new]
theorem below_al2 (w : World) (A B : Obj) : Below w.heap.size w ((w.alloc A).alloc B) := ((Below.refl _ _).alloc (by omega) _).alloc (by simp) _
theorem below_al3 (w : World) (A B C : Obj) : Below w.heap.size w (((w.alloc A).alloc B).alloc C) := (below_al2 w A B).alloc (by simp; omega) _

theorem first_any (w : World) : Calls Tryd.prog 59 #[] w fun e w' => e = .returned (.agg (Ws firstH).toArray) ∧ Below w.heap.size w w' := by
  go_enter Tryd.func59, Tryd.ntmps59
  go_upto_region 1 with fail
  go_step
  refine wpList_build rfl 89 _ rfl (by kernel_rfl) ?_
  refine wpList_store_row rfl 89 (.tmp 0) (.tmp 1) rfl w.heap.size (Ws firstH).toArray (by rfl) (by kernel_rfl) 89 _ (_root_.Go.heap_alloc_new _ _) size_words rfl (one_cell_ws _) ?_
  go_wp2
  refine bodyPost_ret (results_cell_row rfl _ _ w.heap.size 89 (Ws firstH).toArray (0, 0) _ rfl (setRow_heap _ _ _ _ _ _ (_root_.Go.heap_alloc_new _ _)) Tryd.underlying89 rfl size_words) rfl ⟨rfl, ?_⟩
  exact below_setRow ((Below.refl _ _).alloc (by omega) _) (by omega)

theorem map_at (f : Nat → Nat) : ∀ (l : List Nat) (k : Nat), k < l.length → ((l.take k).map f ++ l.drop k).set k (f (l.getD k 0)) = (l.take (k + 1)).map f ++ l.drop (k + 1)
  | [], k, h => by simp at h
  | a :: l, 0, _ => by simp [List.getD]
  | a :: l, k + 1, h => by
    have ih := map_at f l k (by simpa using h)
    simp only [List.take_succ_cons, List.map_cons, List.drop_succ_cons, List.cons_append, List.set_cons_succ, List.getD_cons_succ]
    rw [ih]
set_option maxHeartbeats 1000000 in
theorem changed_any (l : List Nat) (c : Nat) (w : World) (hl : l.length = 64) (hb : ∀ x ∈ l, x < 256) (hc : c < 256) :
    Calls Tryd.prog 39 #[.agg (Bs l).toArray, .int .u8 (c : Int)] w fun e w' => e = .returned (.agg (Bs (l.map (· ^^^ c))).toArray) ∧ Below w.heap.size w w' := by
  go_enter Tryd.func39, Tryd.ntmps39
  go_wp2
  go_loopw [6] (fun t wr => ∃ k : Nat, k ≤ 64 ∧ t = .int .i64 (k : Int) ∧ wr.heap[w.heap.size]? = some (.cells (Bs ((l.take k).map (· ^^^ c) ++ l.drop k)).toArray 66 (0, 0)) ∧ wr.heap[w.heap.size + 1]? = some (.cells (Bs (List.replicate 64 0)).toArray 66 (0, 0)) ∧ Below w.heap.size w wr)
    (fun t _ => 64 - (intOf t).toNat)
  case atStart => exact ⟨0, by omega, rfl, al2_0 _ _ _, al2_1 _ _ _, below_al2 _ _ _⟩
  case round =>
    obtain ⟨k, hk, rfl, h1, h2, hbl⟩ := hrel
    by_cases hlt : k < 64
    · have hlen : ((l.take k).map (· ^^^ c) ++ l.drop k).length = 64 := by simp [hl]; omega
      have hat : ((l.take k).map (· ^^^ c) ++ l.drop k).getD k 0 = l.getD k 0 := by
        unfold List.getD
        rw [List.getElem?_append_right (by simp; omega)]
        simp [hl, Nat.min_eq_left (show k ≤ 64 by omega)]
      have hc1 := cell_bs h1 (show k < _ by rw [hlen]; exact hlt)
      rw [hat] at hc1
      have hfz : wr.frozen? ⟨w.heap.size, k, none⟩ = false := frozen_of_row wr _ k _ _ h1
      have hx := getD_lt' hb k
      have hxr := u8_xor_nat _ _ hx hc
      have hkI : (k : Int) < 64 := by omega
      have HG : Hid _ := h1
      have HS : Hid (((l.take k).map (· ^^^ c) ++ l.drop k).set k (l.getD k 0 ^^^ c) = (l.take (k + 1)).map (· ^^^ c) ++ l.drop (k + 1)) := by
        show _ = _
        exact map_at (· ^^^ c) l k (by omega)
      generalize hxv : l.getD k 0 = x at hc1 hx hxr HS
      clear h1 hxv hat hlen
      go_wp2
      refine ⟨⟨k + 1, by omega, rfl, ?_, ?_, hbl.setCell (by simp) _⟩, by simp [intOf]; omega⟩
      · rw [heap_setCell_same _ _ _ _ _ _ HG.out, Bs_set, HS.out]
      · rw [heap_setCell_other _ _ _ _ (by simp)]; exact h2
    · obtain rfl : k = 64 := by omega
      rw [List.take_of_length_le (by omega), List.drop_of_length_le (by omega), List.append_nil] at h1
      go_upto_region 6 with fail
      go_step
      refine wpList_load_row rfl 66 (.tmp 2) rfl _ (by rfl) 66 _ _ _ h1 Tryd.underlying66 rfl (by rw [size_block]; simp [Bs, hl]) ?_
      refine wpList_store_row rfl 66 (.tmp 4) (.tmp 16) rfl _ _ (by rfl) (by rfl) 66 _ h2 (by rw [size_block]; simp [Bs, hl]) (by simp [Bs, hl]) (one_cell_bs _) ?_
      go_wp2
      refine bodyPost_ret (results_cell_row rfl _ _ (w.heap.size + 1) 66 _ (0, 0) _ rfl (setRow_heap _ _ _ _ _ _ h2) Tryd.underlying66 rfl (by rw [size_block]; simp [Bs, hl])) rfl ⟨rfl, ?_⟩
      exact below_setRow hbl (by omega)
end Go.Proofs.YtoagaddciapmkaaDoor
