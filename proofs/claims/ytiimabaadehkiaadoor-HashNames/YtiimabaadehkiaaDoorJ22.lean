/-
  The digest of abc in sixteens: alive.
-/
import Derived.Test.YtiimabaadehkiaaDoorJ17
import Derived.Test.YtiimabaadehkiaaDoorJ21
namespace Go.Proofs.YtiimabaadehkiaaDoor
open Go.RowKit Go.WideShapes

/-- The text of abc's digest. -/
def abcS : ByteArray := ⟨#[98, 97, 55, 56, 49, 54, 98, 102, 56, 102, 48, 49, 99, 102, 101, 97, 52, 49, 52, 49, 52, 48, 100, 101, 53, 100, 97, 101, 50, 50, 50, 51, 98, 48, 48, 51, 54, 49, 97, 51, 57, 54, 49, 55, 55, 97, 57, 99, 98, 52, 49, 48, 102, 102, 54, 49, 102, 50, 48, 48, 49, 53, 97, 100]⟩
theorem abc_text : strOf (hexN (digN [97, 98, 99])) = abcS := by
  rw [dig_abc]
  apply bytes_inj
  rw [strOf_list]
  rfl
theorem abc_eq : (abcS.toList == [98, 97, 55, 56, 49, 54, 98, 102, 56, 102, 48, 49, 99, 102, 101, 97, 52, 49, 52, 49, 52, 48, 100, 101, 53, 100, 97, 101, 50, 50, 50, 51, 98, 48, 48, 51, 54, 49, 97, 51, 57, 54, 49, 55, 55, 97, 57, 99, 98, 52, 49, 48, 102, 102, 54, 49, 102, 50, 48, 48, 49, 53, 97, 100]) = true := by
  rw [Lib.toList_data]
  decide
theorem bin_dig {w : World} {g : Nat} {xs : List Nat} {t : TypeId} (hg : w.heap[g]? = some (.cells (Bs xs).toArray t (0, 0))) (hx : ∀ x ∈ xs, x < 256) : BIn w (some ⟨g, 0, none⟩) xs :=
  ⟨fun _ => ⟨g, 0, rfl, fun i hi => by rw [Nat.zero_add]; exact cell_bs hg hi⟩, hx⟩
theorem slice_dig (g : Nat) : ∀ w, (Instr.sliceAt 22 (.pointer (some ⟨g, 0, none⟩)) none none none).run Tryd.prog w = .ok (.slice (some ⟨g, 0, none⟩) 32 32) w := by
  intro w
  simp [Instr.sliceAt, Instr.sliceBounds, run_underlying Tryd.underlying22, Instr.sureAddr, go_sem, Addr.add]
/-- []byte of a constant text: the new row is told from others by what lies behind it. -/
theorem conv_lit (w : World) (cs : Array Value) (n : Nat) (hn : cs.size = n) : (convert 25 25 (.slice (some ⟨w.heap.size, 0, none⟩) n n)).run Tryd.prog (w.alloc (.cells cs 5)) = .ok (.slice (some ⟨w.heap.size, 0, none⟩) n n) ((w.alloc (.cells cs 5)).freeze ⟨w.heap.size, n, none⟩ 1) := by
  subst hn
  have hsh : (w.alloc (.cells cs 5)).shape? w.heap.size = some (5, cs.size) := by
    unfold World.shape?
    rw [_root_.Go.heap_alloc_new]
  simp [convert, run_underlying Tryd.underlying25, run_underlying Tryd.underlying5, markStringish, shape, Sem.run, hsh, go_sem]
theorem cell_freeze (w : World) (p a : Addr) (n : Nat) : (w.freeze p n).cell? a = w.cell? a := by
  unfold World.freeze
  split
  · rfl
  · unfold World.cell?
    rw [Array.getElem?_modify]
    by_cases h : p.block = a.block
    · rw [if_pos h]
      cases w.heap[a.block]? with
      | none => rfl
      | some ob => cases ob <;> rfl
    · rw [if_neg h]
set_option maxHeartbeats 1000000 in
set_option maxRecDepth 100000 in
theorem alive_any (w : World) (hk : KOn w) : Calls Tryd.prog 13 #[] w fun e w' => e = .returned (.bool true) ∧ Below w.heap.size w w' := by
  have hcv := conv_lit w #[.int .u8 97, .int .u8 98, .int .u8 99] 3 rfl
  have B1 : Below w.heap.size w ((w.alloc (Obj.cells #[.int .u8 97, .int .u8 98, .int .u8 99] 5)).freeze ⟨w.heap.size, 3, none⟩ 1) := Lib.below_freeze ((Below.refl _ _).alloc (Nat.le_refl _) _) (Nat.le_refl _) 1
  have BI : BIn ((w.alloc (Obj.cells #[.int .u8 97, .int .u8 98, .int .u8 99] 5)).freeze ⟨w.heap.size, 3, none⟩ 1) (some ⟨w.heap.size, 0, none⟩) [97, 98, 99] :=
    ⟨fun _ => ⟨w.heap.size, 0, rfl, fun i hi => by
      rw [cell_freeze, Nat.zero_add, cell_of_row _ _ _ _ _ _ (_root_.Go.heap_alloc_new _ _)]
      match i, hi with
      | 0, _ => rfl
      | 1, _ => rfl
      | 2, _ => rfl⟩, by decide⟩
  have SM := sum_any (some ⟨w.heap.size, 0, none⟩) 3 [97, 98, 99] _ (hk.below B1 hk.pos) BI (by decide) (by decide)
  have hDl := digN_len [97, 98, 99]
  have hDb := digN_byte [97, 98, 99]
  have hTx := abc_text
  generalize digN [97, 98, 99] = D at SM hDl hDb hTx
  have hDs : (Tryd.prog.info? 22).map (·.size) = some (Bs D).toArray.size := by rw [size_dig]; simp [Bs, hDl]
  go_enter Tryd.func13, Tryd.ntmps13
  go_wp2_with fail
  refine SM.mono ?_
  rintro e w1 ⟨rfl, hb1⟩
  simp only []
  go_step
  go_step
  go_step
  go_step
  refine wpList_store_row rfl 22 (.tmp 1) (.tmp 4) rfl w1.heap.size (Bs D).toArray (by rfl) (by rfl) 22 _ (_root_.Go.heap_alloc_new _ _) hDs (by simp [Bs, hDl]) (one_cell_bs _) ?_
  rw [World.setRow_alloc_new]
  have hs1 := hb1.size
  have B2 : Below w.heap.size w (w1.alloc (Obj.cells (Bs D).toArray 22)) := (B1.trans ⟨hb1.os, hb1.tape, hb1.output, hb1.size, fun k hk' => hb1.block k (Nat.lt_of_lt_of_le hk' B1.size)⟩).alloc (Nat.le_trans B1.size hs1) _
  have HX := hex_any (some ⟨w1.heap.size, 0, none⟩) 32 D (w1.alloc (Obj.cells (Bs D).toArray 22)) (bin_dig (_root_.Go.heap_alloc_new _ _) hDb) (by omega)
  rw [hDl, hTx] at HX
  have hsl := slice_dig w1.heap.size
  have hs2 : w.heap.size ≤ (w1.alloc (Obj.cells (Bs D).toArray 22)).heap.size := B2.size
  generalize w1.heap.size = g at HX hsl
  generalize w1.alloc (Obj.cells (Bs D).toArray 22) = W1 at HX B2 hs2 ⊢
  clear SM hTx hDb hDs hs1 hb1
  have HSM : Hid _ := B1
  have hae := abc_eq
  clear B1 BI hcv
  go_wp2_with (go_at_call 10; refine HX.mono ?_; rintro e w2 ⟨rfl, hb2⟩)
  go_ret
  refine ⟨?_, B2.trans ⟨hb2.os, hb2.tape, hb2.output, hb2.size, fun k hk' => hb2.block k (by omega)⟩⟩
  rfl
end Go.Proofs.YtiimabaadehkiaaDoor
