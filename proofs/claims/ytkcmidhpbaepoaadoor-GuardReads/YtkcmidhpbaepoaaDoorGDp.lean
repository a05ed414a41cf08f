/-
  The program's forms: isName, hasForm. Written by tools/gen_gdp.py.
-/
import Derived.Test.YtkcmidhpbaepoaaDoorGWh
namespace Go.Proofs.YtkcmidhpbaepoaaDoor.G
open Go.RowKit Go.WideShapes Go.Joins

theorem nums_pos {s : ByteArray} (h : 1 ≤ (numsOf s).length) : ¬ s = ⟨#[]⟩ := fun e => by
  subst e
  have : (numsOf ⟨#[]⟩).length = 0 := rfl
  omega
set_option maxHeartbeats 1000000 in
set_option maxRecDepth 8000 in
theorem isName_yes (s : ByteArray) (h : NmOk (numsOf s)) (w : World) : Calls Tryd.prog 26 #[.string s] w fun e w' => e = .returned (.bool true) ∧ w' = w := by
  have hl := numsOf_len s
  have h1 := h.pos
  have h2 := h.few
  have e0 : (s.toList == []) = false := lit_no (K := ⟨#[]⟩) rfl (nums_pos h1)
  have e0n : (s.toList != []) = true := by simp only [bne, e0, Bool.not_false]
  have hz : (s.size : Int) ≤ 32 := by omega
  have WI := fun w' => wordIn_any s (by omega) w'
  have TK := fun w' => isTaken_any s w'
  rw [h.word, hl] at WI
  rw [h.free] at TK
  have e3 : (((s.size : Nat) : Int) == ((s.size : Nat) : Int)) = true := by simp
  clear h hl h1 h2
  go_enter Tryd.func26, Tryd.ntmps26
  go_wp2_with (first
    | (go_at_call 37; refine (WI _).mono ?_; rintro e w3 ⟨rfl, rfl⟩)
    | (go_at_call 38; refine (TK _).mono ?_; rintro e w3 ⟨rfl, rfl⟩)
    | fail)
  go_ret
  exact ⟨rfl, rfl⟩
set_option maxHeartbeats 1000000 in
set_option maxRecDepth 8000 in
theorem hf1 (q : Option Addr) (c : Nat) (w : World) : Calls Tryd.prog 16 #[.agg #[.int .u8 1, .int .i64 0, .string ⟨#[]⟩, .slice q 0 c]] w fun e w' => e = .returned (.bool true) ∧ Below w.heap.size w w' := by
  have b1 := below_new w (.cells #[.int .u8 1, .int .i64 0, .string ⟨#[]⟩, .slice q 0 c] 24)
  have n1 := _root_.Go.heap_alloc_new w (.cells #[.int .u8 1, .int .i64 0, .string ⟨#[]⟩, .slice q 0 c] 24)
  have HB : Hid (Below w.heap.size w (w.alloc (.cells #[.int .u8 1, .int .i64 0, .string ⟨#[]⟩, .slice q 0 c] 24))) := b1
  obtain ⟨⟨c0, c1, c2, c3⟩, f0, f1, f2, f3⟩ := row4_cells n1
  clear b1 n1
  go_enter Tryd.func16, Tryd.ntmps16
  go_wp2_with fail
  go_ret
  exact ⟨rfl, HB.out⟩
set_option maxHeartbeats 1000000 in
set_option maxRecDepth 8000 in
theorem hf2 (q : Option Addr) (c : Nat) (w : World) : Calls Tryd.prog 16 #[.agg #[.int .u8 2, .int .i64 0, .string ⟨#[]⟩, .slice q 0 c]] w fun e w' => e = .returned (.bool true) ∧ Below w.heap.size w w' := by
  have b1 := below_new w (.cells #[.int .u8 2, .int .i64 0, .string ⟨#[]⟩, .slice q 0 c] 24)
  have n1 := _root_.Go.heap_alloc_new w (.cells #[.int .u8 2, .int .i64 0, .string ⟨#[]⟩, .slice q 0 c] 24)
  have HB : Hid (Below w.heap.size w (w.alloc (.cells #[.int .u8 2, .int .i64 0, .string ⟨#[]⟩, .slice q 0 c] 24))) := b1
  obtain ⟨⟨c0, c1, c2, c3⟩, f0, f1, f2, f3⟩ := row4_cells n1
  clear b1 n1
  go_enter Tryd.func16, Tryd.ntmps16
  go_wp2_with fail
  go_ret
  exact ⟨rfl, HB.out⟩
set_option maxHeartbeats 1000000 in
set_option maxRecDepth 8000 in
theorem hf8 (q : Option Addr) (c : Nat) (w : World) : Calls Tryd.prog 16 #[.agg #[.int .u8 8, .int .i64 0, .string ⟨#[]⟩, .slice q 1 c]] w fun e w' => e = .returned (.bool true) ∧ Below w.heap.size w w' := by
  have b1 := below_new w (.cells #[.int .u8 8, .int .i64 0, .string ⟨#[]⟩, .slice q 1 c] 24)
  have n1 := _root_.Go.heap_alloc_new w (.cells #[.int .u8 8, .int .i64 0, .string ⟨#[]⟩, .slice q 1 c] 24)
  have HB : Hid (Below w.heap.size w (w.alloc (.cells #[.int .u8 8, .int .i64 0, .string ⟨#[]⟩, .slice q 1 c] 24))) := b1
  obtain ⟨⟨c0, c1, c2, c3⟩, f0, f1, f2, f3⟩ := row4_cells n1
  clear b1 n1
  go_enter Tryd.func16, Tryd.ntmps16
  go_wp2_with fail
  go_ret
  exact ⟨rfl, HB.out⟩
set_option maxHeartbeats 1000000 in
set_option maxRecDepth 8000 in
theorem hf9 (q : Option Addr) (c : Nat) (w : World) : Calls Tryd.prog 16 #[.agg #[.int .u8 9, .int .i64 0, .string ⟨#[]⟩, .slice q 2 c]] w fun e w' => e = .returned (.bool true) ∧ Below w.heap.size w w' := by
  have b1 := below_new w (.cells #[.int .u8 9, .int .i64 0, .string ⟨#[]⟩, .slice q 2 c] 24)
  have n1 := _root_.Go.heap_alloc_new w (.cells #[.int .u8 9, .int .i64 0, .string ⟨#[]⟩, .slice q 2 c] 24)
  have HB : Hid (Below w.heap.size w (w.alloc (.cells #[.int .u8 9, .int .i64 0, .string ⟨#[]⟩, .slice q 2 c] 24))) := b1
  obtain ⟨⟨c0, c1, c2, c3⟩, f0, f1, f2, f3⟩ := row4_cells n1
  clear b1 n1
  go_enter Tryd.func16, Tryd.ntmps16
  go_wp2_with fail
  go_ret
  exact ⟨rfl, HB.out⟩
set_option maxHeartbeats 1000000 in
set_option maxRecDepth 8000 in
theorem hf10 (q : Option Addr) (c : Nat) (w : World) : Calls Tryd.prog 16 #[.agg #[.int .u8 10, .int .i64 0, .string ⟨#[]⟩, .slice q 2 c]] w fun e w' => e = .returned (.bool true) ∧ Below w.heap.size w w' := by
  have b1 := below_new w (.cells #[.int .u8 10, .int .i64 0, .string ⟨#[]⟩, .slice q 2 c] 24)
  have n1 := _root_.Go.heap_alloc_new w (.cells #[.int .u8 10, .int .i64 0, .string ⟨#[]⟩, .slice q 2 c] 24)
  have HB : Hid (Below w.heap.size w (w.alloc (.cells #[.int .u8 10, .int .i64 0, .string ⟨#[]⟩, .slice q 2 c] 24))) := b1
  obtain ⟨⟨c0, c1, c2, c3⟩, f0, f1, f2, f3⟩ := row4_cells n1
  clear b1 n1
  go_enter Tryd.func16, Tryd.ntmps16
  go_wp2_with fail
  go_ret
  exact ⟨rfl, HB.out⟩
set_option maxHeartbeats 1000000 in
set_option maxRecDepth 8000 in
theorem hf11 (q : Option Addr) (c : Nat) (w : World) : Calls Tryd.prog 16 #[.agg #[.int .u8 11, .int .i64 0, .string ⟨#[]⟩, .slice q 2 c]] w fun e w' => e = .returned (.bool true) ∧ Below w.heap.size w w' := by
  have b1 := below_new w (.cells #[.int .u8 11, .int .i64 0, .string ⟨#[]⟩, .slice q 2 c] 24)
  have n1 := _root_.Go.heap_alloc_new w (.cells #[.int .u8 11, .int .i64 0, .string ⟨#[]⟩, .slice q 2 c] 24)
  have HB : Hid (Below w.heap.size w (w.alloc (.cells #[.int .u8 11, .int .i64 0, .string ⟨#[]⟩, .slice q 2 c] 24))) := b1
  obtain ⟨⟨c0, c1, c2, c3⟩, f0, f1, f2, f3⟩ := row4_cells n1
  clear b1 n1
  go_enter Tryd.func16, Tryd.ntmps16
  go_wp2_with fail
  go_ret
  exact ⟨rfl, HB.out⟩
set_option maxHeartbeats 1000000 in
set_option maxRecDepth 8000 in
theorem hf12 (q : Option Addr) (c : Nat) (w : World) : Calls Tryd.prog 16 #[.agg #[.int .u8 12, .int .i64 0, .string ⟨#[]⟩, .slice q 2 c]] w fun e w' => e = .returned (.bool true) ∧ Below w.heap.size w w' := by
  have b1 := below_new w (.cells #[.int .u8 12, .int .i64 0, .string ⟨#[]⟩, .slice q 2 c] 24)
  have n1 := _root_.Go.heap_alloc_new w (.cells #[.int .u8 12, .int .i64 0, .string ⟨#[]⟩, .slice q 2 c] 24)
  have HB : Hid (Below w.heap.size w (w.alloc (.cells #[.int .u8 12, .int .i64 0, .string ⟨#[]⟩, .slice q 2 c] 24))) := b1
  obtain ⟨⟨c0, c1, c2, c3⟩, f0, f1, f2, f3⟩ := row4_cells n1
  clear b1 n1
  go_enter Tryd.func16, Tryd.ntmps16
  go_wp2_with fail
  go_ret
  exact ⟨rfl, HB.out⟩
set_option maxHeartbeats 1000000 in
set_option maxRecDepth 8000 in
theorem hf13 (q : Option Addr) (c : Nat) (w : World) : Calls Tryd.prog 16 #[.agg #[.int .u8 13, .int .i64 0, .string ⟨#[]⟩, .slice q 2 c]] w fun e w' => e = .returned (.bool true) ∧ Below w.heap.size w w' := by
  have b1 := below_new w (.cells #[.int .u8 13, .int .i64 0, .string ⟨#[]⟩, .slice q 2 c] 24)
  have n1 := _root_.Go.heap_alloc_new w (.cells #[.int .u8 13, .int .i64 0, .string ⟨#[]⟩, .slice q 2 c] 24)
  have HB : Hid (Below w.heap.size w (w.alloc (.cells #[.int .u8 13, .int .i64 0, .string ⟨#[]⟩, .slice q 2 c] 24))) := b1
  obtain ⟨⟨c0, c1, c2, c3⟩, f0, f1, f2, f3⟩ := row4_cells n1
  clear b1 n1
  go_enter Tryd.func16, Tryd.ntmps16
  go_wp2_with fail
  go_ret
  exact ⟨rfl, HB.out⟩
set_option maxHeartbeats 1000000 in
set_option maxRecDepth 8000 in
theorem hf14 (q : Option Addr) (c : Nat) (w : World) : Calls Tryd.prog 16 #[.agg #[.int .u8 14, .int .i64 0, .string ⟨#[]⟩, .slice q 2 c]] w fun e w' => e = .returned (.bool true) ∧ Below w.heap.size w w' := by
  have b1 := below_new w (.cells #[.int .u8 14, .int .i64 0, .string ⟨#[]⟩, .slice q 2 c] 24)
  have n1 := _root_.Go.heap_alloc_new w (.cells #[.int .u8 14, .int .i64 0, .string ⟨#[]⟩, .slice q 2 c] 24)
  have HB : Hid (Below w.heap.size w (w.alloc (.cells #[.int .u8 14, .int .i64 0, .string ⟨#[]⟩, .slice q 2 c] 24))) := b1
  obtain ⟨⟨c0, c1, c2, c3⟩, f0, f1, f2, f3⟩ := row4_cells n1
  clear b1 n1
  go_enter Tryd.func16, Tryd.ntmps16
  go_wp2_with fail
  go_ret
  exact ⟨rfl, HB.out⟩
set_option maxHeartbeats 1000000 in
set_option maxRecDepth 8000 in
theorem hf15 (q : Option Addr) (c : Nat) (w : World) : Calls Tryd.prog 16 #[.agg #[.int .u8 15, .int .i64 0, .string ⟨#[]⟩, .slice q 2 c]] w fun e w' => e = .returned (.bool true) ∧ Below w.heap.size w w' := by
  have b1 := below_new w (.cells #[.int .u8 15, .int .i64 0, .string ⟨#[]⟩, .slice q 2 c] 24)
  have n1 := _root_.Go.heap_alloc_new w (.cells #[.int .u8 15, .int .i64 0, .string ⟨#[]⟩, .slice q 2 c] 24)
  have HB : Hid (Below w.heap.size w (w.alloc (.cells #[.int .u8 15, .int .i64 0, .string ⟨#[]⟩, .slice q 2 c] 24))) := b1
  obtain ⟨⟨c0, c1, c2, c3⟩, f0, f1, f2, f3⟩ := row4_cells n1
  clear b1 n1
  go_enter Tryd.func16, Tryd.ntmps16
  go_wp2_with fail
  go_ret
  exact ⟨rfl, HB.out⟩
set_option maxHeartbeats 1000000 in
set_option maxRecDepth 8000 in
theorem hf3 (n : Nat) (q : Option Addr) (c : Nat) (w : World) : Calls Tryd.prog 16 #[.agg #[.int .u8 3, .int .i64 (n : Int), .string ⟨#[]⟩, .slice q 0 c]] w fun e w' => e = .returned (.bool true) ∧ Below w.heap.size w w' := by
  have b1 := below_new w (.cells #[.int .u8 3, .int .i64 (n : Int), .string ⟨#[]⟩, .slice q 0 c] 24)
  have n1 := _root_.Go.heap_alloc_new w (.cells #[.int .u8 3, .int .i64 (n : Int), .string ⟨#[]⟩, .slice q 0 c] 24)
  have HB : Hid (Below w.heap.size w (w.alloc (.cells #[.int .u8 3, .int .i64 (n : Int), .string ⟨#[]⟩, .slice q 0 c] 24))) := b1
  obtain ⟨⟨c0, c1, c2, c3⟩, f0, f1, f2, f3⟩ := row4_cells n1
  have q0 : ¬ (n : Int) < 0 := by omega
  clear b1 n1
  go_enter Tryd.func16, Tryd.ntmps16
  go_wp2_with fail
  go_ret
  exact ⟨rfl, below_new _ _⟩
set_option maxHeartbeats 1000000 in
set_option maxRecDepth 8000 in
theorem hf4 (t : ByteArray) (q : Option Addr) (c : Nat) (w : World) (hz : t.size ≤ 16384) (h : cnt isCh (numsOf t) = (numsOf t).length) : Calls Tryd.prog 16 #[.agg #[.int .u8 4, .int .i64 0, .string t, .slice q 0 c]] w fun e w' => e = .returned (.bool true) ∧ Below w.heap.size w w' := by
  have b1 := below_new w (.cells #[.int .u8 4, .int .i64 0, .string t, .slice q 0 c] 24)
  have n1 := _root_.Go.heap_alloc_new w (.cells #[.int .u8 4, .int .i64 0, .string t, .slice q 0 c] 24)
  have HB : Hid (Below w.heap.size w (w.alloc (.cells #[.int .u8 4, .int .i64 0, .string t, .slice q 0 c] 24))) := b1
  obtain ⟨⟨c0, c1, c2, c3⟩, f0, f1, f2, f3⟩ := row4_cells n1
  have CI := fun w' => charsIn_any t (by omega) w'
  rw [h, numsOf_len] at CI
  clear h hz
  have HN : Hid ((w.alloc (.cells #[.int .u8 4, .int .i64 0, .string t, .slice q 0 c] 24)).heap[w.heap.size]? = _) := n1
  clear b1 n1
  go_enter Tryd.func16, Tryd.ntmps16
  go_upto_region 11 with fail
  refine wp_at (fun W => W.heap[w.heap.size]? = some (.cells #[.int .u8 4, .int .i64 0, .string t, .slice q 0 c] 24 (0, 0)) ∧ Below w.heap.size w W) ⟨HN.out, HB.out⟩ (fun w1 H1 => ?_)
  have H : Hid (w1.heap[w.heap.size]? = some (.cells #[.int .u8 4, .int .i64 0, .string t, .slice q 0 c] 24 (0, 0)) ∧ Below w.heap.size w w1) := H1
  clear c0 c1 c2 c3 f0 f1 f2 f3 HN HB
  obtain ⟨⟨c0, c1, c2, c3⟩, f0, f1, f2, f3⟩ := row4_cells H1.1
  clear H1
  go_region_with (first
    | (go_at_call 25; refine (CI _).mono ?_; rintro e w3 ⟨rfl, rfl⟩)
    | fail)
  all_goals
    go_wp2_with fail
    go_ret
    exact ⟨rfl, (below_set (Nat.le_refl _) H.out.2 _ _).drew⟩
set_option maxHeartbeats 1000000 in
set_option maxRecDepth 8000 in
theorem hf5 (t : ByteArray) (q : Option Addr) (c : Nat) (w : World) (h : NmOk (numsOf t)) : Calls Tryd.prog 16 #[.agg #[.int .u8 5, .int .i64 0, .string t, .slice q 0 c]] w fun e w' => e = .returned (.bool true) ∧ Below w.heap.size w w' := by
  have b1 := below_new w (.cells #[.int .u8 5, .int .i64 0, .string t, .slice q 0 c] 24)
  have n1 := _root_.Go.heap_alloc_new w (.cells #[.int .u8 5, .int .i64 0, .string t, .slice q 0 c] 24)
  have HB : Hid (Below w.heap.size w (w.alloc (.cells #[.int .u8 5, .int .i64 0, .string t, .slice q 0 c] 24))) := b1
  obtain ⟨⟨c0, c1, c2, c3⟩, f0, f1, f2, f3⟩ := row4_cells n1
  have IN := fun w' => isName_yes t h w'
  clear h
  clear b1 n1
  go_enter Tryd.func16, Tryd.ntmps16
  go_wp2_with (first
    | (go_at_call 26; refine (IN _).mono ?_; rintro e w3 ⟨rfl, rfl⟩)
    | fail)
  go_ret
  exact ⟨rfl, below_new _ _⟩
set_option maxHeartbeats 1000000 in
set_option maxRecDepth 8000 in
theorem hf6 (t : ByteArray) (q : Option Addr) (c : Nat) (w : World) (h : NmOk (numsOf t)) : Calls Tryd.prog 16 #[.agg #[.int .u8 6, .int .i64 0, .string t, .slice q 0 c]] w fun e w' => e = .returned (.bool true) ∧ Below w.heap.size w w' := by
  have b1 := below_new w (.cells #[.int .u8 6, .int .i64 0, .string t, .slice q 0 c] 24)
  have n1 := _root_.Go.heap_alloc_new w (.cells #[.int .u8 6, .int .i64 0, .string t, .slice q 0 c] 24)
  have HB : Hid (Below w.heap.size w (w.alloc (.cells #[.int .u8 6, .int .i64 0, .string t, .slice q 0 c] 24))) := b1
  obtain ⟨⟨c0, c1, c2, c3⟩, f0, f1, f2, f3⟩ := row4_cells n1
  have IN := fun w' => isName_yes t h w'
  clear h
  clear b1 n1
  go_enter Tryd.func16, Tryd.ntmps16
  go_wp2_with (first
    | (go_at_call 26; refine (IN _).mono ?_; rintro e w3 ⟨rfl, rfl⟩)
    | fail)
  go_ret
  exact ⟨rfl, below_new _ _⟩
set_option maxHeartbeats 1000000 in
set_option maxRecDepth 8000 in
theorem hf7 (t : ByteArray) (q : Option Addr) (c : Nat) (w : World) (h : NmOk (numsOf t)) : Calls Tryd.prog 16 #[.agg #[.int .u8 7, .int .i64 0, .string t, .slice q 0 c]] w fun e w' => e = .returned (.bool true) ∧ Below w.heap.size w w' := by
  have b1 := below_new w (.cells #[.int .u8 7, .int .i64 0, .string t, .slice q 0 c] 24)
  have n1 := _root_.Go.heap_alloc_new w (.cells #[.int .u8 7, .int .i64 0, .string t, .slice q 0 c] 24)
  have HB : Hid (Below w.heap.size w (w.alloc (.cells #[.int .u8 7, .int .i64 0, .string t, .slice q 0 c] 24))) := b1
  obtain ⟨⟨c0, c1, c2, c3⟩, f0, f1, f2, f3⟩ := row4_cells n1
  have IN := fun w' => isName_yes t h w'
  clear h
  clear b1 n1
  go_enter Tryd.func16, Tryd.ntmps16
  go_wp2_with (first
    | (go_at_call 26; refine (IN _).mono ?_; rintro e w3 ⟨rfl, rfl⟩)
    | fail)
  go_ret
  exact ⟨rfl, below_new _ _⟩
end Go.Proofs.YtkcmidhpbaepoaaDoor.G
