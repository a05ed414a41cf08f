import Derived.Test.YtghcmllmbpoidaaGreatDoorJ39
import Derived.Test.YtghcmllmbpoidaaGreatDoorJ38
import Derived.Test.YtghcmllmbpoidaaGreatDoorJ05
import Derived.Test.YtghcmllmbpoidaaGreatDoorJ29
namespace Go.Proofs.YtghcmllmbpoidaaGreatDoor
open Go.RowKit Go.WideShapes
theorem ents_none (w : World) (q : Option Addr) : Mg.EntsL w q 0 [] := ⟨rfl, fun h => absurd h (by simp)⟩
set_option maxHeartbeats 2000000 in
theorem leaves_none (B : Nat) (C R S : Int) (p1 p2 p3 p4 q : Option Addr) (n1 n2 n3 n4 c1 c2 c3 c4 c : Nat) (w : World) (hB : w.heap[B]? = some (.cells #[.int .i64 C, .slice p1 n1 c1, .slice p2 n2 c2, .slice p3 n3 c3, .int .i64 R, .slice p4 n4 c4, .slice none 0 0, .int .i64 S] 60 (0, 0))) :
    Calls Tryz.prog 46 #[.pointer (some ⟨B, 0, none⟩), .slice q 0 c] w fun e w' => e = .returned .nilIface ∧ Below w.heap.size w w' := by
  have c6 : w.cell? ⟨B, 6, none⟩ = some (.slice none 0 0) := Lib.cell_of_heap hB 6
  have HC : Hid (∀ w', Below w.heap.size w w' → w'.cell? ⟨B, 6, none⟩ = some (.slice none 0 0)) := fun w' hb => (hb.cell (World.block_lt_of_cell? _ _ c6)).trans c6
  have hr := rise_any none 0 0 [] w (ents_none w none) List.Pairwise.nil (by omega)
  clear hB
  go_enter Tryz.func46, Tryz.ntmps46
  go_wp2
  refine wp_loop_rounds 1 ?_
  rw [rounds_succ]
  go_wp2_with fail
  refine hr.mono ?_
  rintro e w2 ⟨rfl, hb2⟩
  have HB2 : Hid (Below w.heap.size w w2) := hb2
  have d6 := HC.out w2 hb2
  clear hb2 hr c6
  go_wp2
  refine wp_loop_rounds 1 ?_
  rw [rounds_succ]
  go_wp2
  go_ret
  exact ⟨rfl, HB2.out⟩
noncomputable def rowsK (ls : List (List Tr.CV)) (i : Nat) : List (List Mg.EntV) := (List.range i).map fun j => rowC (ls.getD j []) ((j + 1 : Nat) : Int)
theorem rowsK_zero (ls : List (List Tr.CV)) : rowsK ls 0 = [] := rfl
theorem rowsK_snoc (ls : List (List Tr.CV)) (i : Nat) : rowsK ls (i + 1) = rowsK ls i ++ [rowC (ls.getD i []) ((i + 1 : Nat) : Int)] := by
  unfold rowsK; rw [List.range_succ, List.map_append]; rfl
structure OnRs (w : World) (ls : List (List Tr.CV)) (i : Nat) (v : Value) (R : List Mg.RV) (wr : World) : Prop where
  own : wr.ownsRow w.heap.size 58 1 v R.length (R.map Mg.rvV)
  each : ∀ r ∈ R, Mg.EOwn wr w.heap.size (Mg.rvV r) r.l
  ls : R.map Mg.RV.l = rowsK ls i
  bel : Below w.heap.size w wr
theorem OnRs.next {w wr w' : World} {ls : List (List Tr.CV)} {i : Nat} {v : Value} {R : List Mg.RV} (h : OnRs w ls i v R wr) (hb : Below wr.heap.size wr w') : OnRs w ls i v R w' := ⟨own_below h.own hb, fun r hr => (h.each r hr).below hb, h.ls, below_bt h.bel hb⟩
theorem OnRs.len {w wr : World} {ls : List (List Tr.CV)} {i : Nat} {v : Value} {R : List Mg.RV} (h : OnRs w ls i v R wr) : R.length = i := by
  have := congrArg List.length h.ls
  simpa [rowsK] using this
theorem OnRs.rows {w wr : World} {ls : List (List Tr.CV)} {i : Nat} {q : Option Addr} {n c : Nat} {R : List Mg.RV} (h : OnRs w ls i (.slice q n c) R wr) : Mg.RowsL wr q R.length R := ⟨rfl, Mg.rows_own h.own, fun r hr => (h.each r hr).rowOk⟩
theorem OnRs.app {w wr w' : World} {ls : List (List Tr.CV)} {i : Nat} {v v' : Value} {R : List Mg.RV} {r : Mg.RV} (h : OnRs w ls i v R wr) (hr : Mg.EOwn wr w.heap.size (Mg.rvV r) r.l) (hl : r.l = rowC (ls.getD i []) ((i + 1 : Nat) : Int)) (ho : w'.ownsRow w.heap.size 58 1 v' (R ++ [r]).length ((R ++ [r]).map Mg.rvV)) (hg : wr.grownBy w' v.ownBlock) : OnRs w ls (i + 1) v' (R ++ [r]) w' := by
  refine ⟨ho, fun x hx => ?_, ?_, h.bel.grown hg h.bel.size (fun k hk => (World.ownsRow.lt h.own k hk).1)⟩
  · rcases List.mem_append.1 hx with hx | hx
    · exact (h.each x hx).grownR h.own hg
    · simp only [List.mem_singleton] at hx
      subst hx
      exact hr.grownR h.own hg
  · rw [List.map_append, h.ls, rowsK_snoc, ← hl]; rfl
theorem onrs_nil (w : World) (ls : List (List Tr.CV)) : OnRs w ls 0 (.slice none 0 0) [] w := ⟨World.ownsRow_nil _ _ _ _, fun r hr => (by cases hr), rfl, Below.refl _ _⟩
structure KeptB (B : Nat) (w w' : World) : Prop where
  os : w'.os = w.os
  tape : w'.tape = w.tape
  output : w'.output = w.output
  size : w.heap.size ≤ w'.heap.size
  oth : ∀ k, k < w.heap.size → k ≠ B → w'.heap[k]? = w.heap[k]?
theorem keptB_below {B : Nat} {w w' : World} (h : Below w.heap.size w w') : KeptB B w w' := ⟨h.os, h.tape, h.output, h.size, fun k hk _ => h.block k hk⟩
theorem KeptB.trans {B : Nat} {a b c : World} (h : KeptB B a b) (k : KeptB B b c) : KeptB B a c := ⟨k.os.trans h.os, k.tape.trans h.tape, k.output.trans h.output, Nat.le_trans h.size k.size, fun i hi hz => (k.oth i (Nat.lt_of_lt_of_le hi h.size) hz).trans (h.oth i hi hz)⟩
theorem keptB_set (w : World) (B i : Nat) (v : Value) : KeptB B w (w.setCell ⟨B, i, none⟩ v) := by
  have h0 : Below B w (w.setCell ⟨B, i, none⟩ v) := (Below.refl B w).setCell (p := ⟨B, i, none⟩) (Nat.le_refl B) v
  exact ⟨h0.os, h0.tape, h0.output, h0.size, fun k _ hz => heap_setCell_other w ⟨B, i, none⟩ k v hz⟩
theorem KeptB.bel {B base : Nat} {w w' : World} (h : KeptB B w w') (hB : base ≤ B) (hw : base ≤ w.heap.size) : Below base w w' := ⟨h.os, h.tape, h.output, h.size, fun k hk => h.oth k (by omega) (by omega)⟩
theorem KeptB.below {B : Nat} {w wr w' : World} (h : KeptB B w wr) (hb : Below wr.heap.size wr w') : KeptB B w w' := h.trans (keptB_below hb)
end Go.Proofs.YtghcmllmbpoidaaGreatDoor
