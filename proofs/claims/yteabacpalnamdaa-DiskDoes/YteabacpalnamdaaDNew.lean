/-
  Contract of the call New.
-/
import Derived.Test.YteabacpalnamdaaDWait
import Derived.Laws.ResultCell
namespace Go.Proofs.Yteabacpalnamdaa
open Go.RowKit Go.WideShapes

/-- A disk of the call's own, by value. -/
structure DiskNew (w : World) (base : Nat) (v : Value) (count : Int) (data : List Nat) (ws : Puts) : Prop where
  lies : ∃ gd q m gs, v = .agg #[.int .i64 count, .slice (some ⟨gd, 0, none⟩) data.length data.length, .slice q ws.length m] ∧ base ≤ gd ∧ w.heap[gd]? = some (.cells (Bs data).toArray 5 (0, 0)) ∧ PutsOwn w base (.slice q ws.length m) ws gs ∧ (∀ i, i < ws.length → gs.getD i 0 ≠ gd)
  bytes : ∀ c ∈ data, c < 256
theorem i64_wf {n : Int} (h1 : -9223372036854775808 ≤ n) (h2 : n ≤ 9223372036854775807) : (Lit.int .i64 n).wf = true := by
  simp [Lit.wf, IntKind.min, IntKind.max, IntKind.signed, IntKind.bits]; omega
theorem DiskNew.toIn {w : World} {base : Nat} {v : Value} {count : Int} {data : List Nat} {ws : Puts} (h : DiskNew w base v count data ws) (ho : Okay count data ws) : DiskIn w v count data ws := by
  obtain ⟨gd, q, m, gs, rfl, _, h2, h3, _⟩ := h.lies
  obtain ⟨_, g2, g3, g4, g5⟩ := h3.lies
  have h1 := ho.lo
  have h2' := ho.hi
  have hl := ho.len
  refine ⟨⟨_, q, m, rfl, ⟨some ⟨gd, 0, none⟩, data.length, rfl, bin_row h2 h.bytes, Nat.le_refl _, by unfold maxLen; omega, fun h => by cases h⟩, g2, g3, g4, g5⟩, i64_wf (by omega) (by omega), fun y hy => ?_⟩
  have := ho.each y hy
  exact i64_wf (by omega) (by omega)

/-- Three cells stored over a block of three. -/
theorem set3_other (w : World) (B k : Nat) (a b c : Value) (h : k ≠ B) : (((w.setCell ⟨B, 0, none⟩ a).setCell ⟨B, 1, none⟩ b).setCell ⟨B, 2, none⟩ c).heap[k]? = w.heap[k]? := by
  rw [heap_setCell_other _ ⟨B, 2, none⟩ k _ h, heap_setCell_other _ ⟨B, 1, none⟩ k _ h, heap_setCell_other _ ⟨B, 0, none⟩ k _ h]
theorem set3_same (w : World) (B : Nat) (x y z a b c : Value) (t : TypeId) (h : w.heap[B]? = some (.cells #[x, y, z] t (0, 0))) : (((w.setCell ⟨B, 0, none⟩ a).setCell ⟨B, 1, none⟩ b).setCell ⟨B, 2, none⟩ c).heap[B]? = some (.cells #[a, b, c] t (0, 0)) := by
  have e0 := heap_setCell_same w B 0 _ _ a h
  have e1 := heap_setCell_same _ B 1 _ _ b e0
  have e2 := heap_setCell_same _ B 2 _ _ c e1
  rw [e2]; rfl
theorem set3_below {base B : Nat} {w0 w : World} (h : Below base w0 w) (hB : base ≤ B) (a b c : Value) : Below base w0 (((w.setCell ⟨B, 0, none⟩ a).setCell ⟨B, 1, none⟩ b).setCell ⟨B, 2, none⟩ c) :=
  ((h.setCell (p := ⟨B, 0, none⟩) hB a).setCell (p := ⟨B, 1, none⟩) hB b).setCell (p := ⟨B, 2, none⟩) hB c
theorem DiskNew.keep {w w' : World} {base : Nat} {v : Value} {count : Int} {data : List Nat} {ws : Puts} (h : DiskNew w base v count data ws) (hk : ∀ (k : Nat) (cs : Array Value) (t : TypeId), t = 5 ∨ t = 51 → w.heap[k]? = some (.cells cs t (0, 0)) → w'.heap[k]? = w.heap[k]?) : DiskNew w' base v count data ws := by
  obtain ⟨gd, q, m, gs, h1, h2, h3, h4, h5⟩ := h.lies
  exact ⟨⟨gd, q, m, gs, h1, h2, (hk _ _ _ (.inl rfl) h3).trans h3, h4.keep (fun g cur _ e => hk _ _ _ (.inr rfl) e) (fun i hi => hk _ _ _ (.inl rfl) (h4.rows i hi).2), h5⟩, h.bytes⟩
theorem DiskNew.below {w w' : World} {base : Nat} {v : Value} {count : Int} {data : List Nat} {ws : Puts} (h : DiskNew w base v count data ws) (hb : Below w.heap.size w w') : DiskNew w' base v count data ws :=
  h.keep fun k _ _ _ e => hb.block k (lt_heap e)
theorem DiskNew.mono {w : World} {base base' : Nat} {v : Value} {count : Int} {data : List Nat} {ws : Puts} (h : DiskNew w base v count data ws) (hb : base' ≤ base) : DiskNew w base' v count data ws := by
  obtain ⟨gd, q, m, gs, h1, h2, h3, h4, h5⟩ := h.lies
  exact ⟨⟨gd, q, m, gs, h1, Nat.le_trans hb h2, h3, h4.mono hb, h5⟩, h.bytes⟩
theorem DiskNew.set3 {w : World} {base B : Nat} {v : Value} {count : Int} {data : List Nat} {ws : Puts} {cs : Array Value} (h : DiskNew w base v count data ws) (hB : w.heap[B]? = some (.cells cs 25 (0, 0))) (a b c : Value) :
    DiskNew (((w.setCell ⟨B, 0, none⟩ a).setCell ⟨B, 1, none⟩ b).setCell ⟨B, 2, none⟩ c) base v count data ws := by
  refine h.keep fun k cs' t ht e => set3_other w B k a b c ?_
  rintro rfl
  rw [hB] at e
  simp only [Option.some.injEq, Obj.cells.injEq] at e
  rcases ht with rfl | rfl
  · exact absurd e.2.1 (by decide)
  · exact absurd e.2.1 (by decide)
theorem box_block {w wr : World} {o : Obj} (h : Below (w.heap.size + 1) (w.alloc o) wr) : wr.heap[w.heap.size]? = some o := (h.block _ (by omega)).trans (heap_alloc_new w _)
theorem box_free {w wr : World} {a b c : Value} {t : TypeId} (h : Below (w.heap.size + 1) (w.alloc (.cells #[a, b, c] t)) wr) :
    wr.frozen? ⟨w.heap.size, 0, none⟩ = false ∧ wr.frozen? ⟨w.heap.size, 1, none⟩ = false ∧ wr.frozen? ⟨w.heap.size, 2, none⟩ = false := by
  have hh : wr.heap[w.heap.size]? = some (.cells #[a, b, c] t (0, 0)) := (h.block _ (by omega)).trans (heap_alloc_new w _)
  exact ⟨frozen_of_row _ _ _ _ _ hh, frozen_of_row _ _ _ _ _ hh, frozen_of_row _ _ _ _ _ hh⟩
set_option maxRecDepth 100000 in
set_option maxHeartbeats 400000 in
theorem new_bad (count : Int) (w : World) (h : ¬ (1 ≤ count ∧ count ≤ 4096)) :
    Calls Try.prog 9 #[.int .i64 count] w fun e w' => e = .returned (.tuple #[.agg #[.int .i64 0, .slice none 0 0, .slice none 0 0], .int .i64 20]) ∧ Below w.heap.size w w' := by
  go_enter Try.func9, Try.ntmps9
  go_wp2_with (go_at_call 32; refine (mayCount_any count _).mono ?_; rintro e w1 ⟨rfl, rfl⟩; rw [decide_eq_false h])
  (try simp only [Exit.inBlock, Exit.then])
  refine bodyPost_ret (v := .tuple #[.agg #[.int .i64 0, .slice none 0 0, .slice none 0 0], .int .i64 20]) ?_ rfl ⟨rfl, below_alloc _ _⟩
  rw [results_cell_tmp rfl]
  go_simp
set_option maxRecDepth 100000 in
set_option maxHeartbeats 400000 in
theorem new_ok (n : Nat) (w : World) (h1 : 1 ≤ n) (h2 : n ≤ 4096) :
    Calls Try.prog 9 #[.int .i64 n] w fun e w' => ∃ v, e = .returned (.tuple #[v, .int .i64 0]) ∧ DiskNew w' w.heap.size v n (List.replicate (n * 128) 0) [] ∧ Below w.heap.size w w' := by
  obtain ⟨i0, hi, hz0, hz1, hz2⟩ := info_parts info_u8
  have h : 1 ≤ (n : Int) ∧ (n : Int) ≤ 4096 := by omega
  go_enter Try.func9, Try.ntmps9
  go_wp2_with (first | (go_at_call 32; refine (mayCount_any n _).mono ?_; rintro e w1 ⟨rfl, rfl⟩; rw [decide_eq_true h]) | (at_make; refine wpList_make_full _ rfl _ _ 22 rfl (w.heap.size + 1) 5 i0 (.int .u8 0) 1 Try.underlying22 hi hz0 hz1 .i64 .i64 _ _ (n * 128) rfl rfl (by omega) (by omega) (by rw [hz2]; omega) (by unfold maxLen; omega) (by simp) ?_))
  intro w1 hown hgrow
  have hrow := row_full hown
  rw [zeros_made] at hrow
  have hb1 : Below (w.heap.size + 1) (w.alloc (.cells #[.int .i64 0, .slice none 0 0, .slice none 0 0] 25)) w1 := (Below.refl _ _).grown hgrow (by simp) (fun k hk => by cases hk)
  obtain ⟨c0, c1, c2⟩ := box_cells hb1
  obtain ⟨f0, f1, f2⟩ := box_free hb1
  have HR : Hid _ := hrow
  clear hown hgrow hrow
  go_wp2
  (try simp only [Exit.inBlock, Exit.then])
  refine bodyPost_ret (v := .tuple #[.agg #[.int .i64 n, .slice (some ⟨w.heap.size + 1, 0, none⟩) (n * 128) (n * 128), .slice none 0 0], .int .i64 0]) ?_ rfl ⟨_, rfl, ?_, ?_⟩
  · rw [results_cell_tmp rfl]
    go_simp
  · refine DiskNew.set3 ?_ (box_block hb1) _ _ _
    refine ⟨⟨w.heap.size + 1, none, 0, [], by simp, by omega, HR.out, putsOwn_nil _ _, fun i hi => absurd hi (by simp)⟩, ?_⟩
    intro c hc
    rw [(List.mem_replicate.1 hc).2]
    decide
  · exact set3_below (box_below hb1) (Nat.le_refl _) _ _ _
end Go.Proofs.Yteabacpalnamdaa
