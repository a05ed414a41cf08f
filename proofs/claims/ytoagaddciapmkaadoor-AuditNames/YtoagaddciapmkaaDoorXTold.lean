/-
  The bytes of eight words: the program's.
-/
import Derived.Test.YtoagaddciapmkaaDoorXTurn
import Derived.Deep.WholeRow
import Derived.Deep.RegionHeld3
import Derived.Deep.Cut
namespace Go.Proofs.YtoagaddciapmkaaDoor
open Go.RowKit Go.WideShapes

/-- Words as values. -/
def Ws (l : List Nat) : List Value := l.map fun n : Nat => .int .u32 (n : Int)
/-- A row that is filled as far as k. -/
def fillN (T : List Nat) (n k : Nat) : List Nat := T.take k ++ List.replicate (n - k) 0
theorem fill_set {T : List Nat} {n k : Nat} (hT : T.length = n) (hk : k < n) : (fillN T n k).set k (T.getD k 0) = fillN T n (k + 1) := by
  unfold fillN
  have h1 : (T.take k).length = k := by rw [List.length_take]; omega
  rw [List.set_append_right _ _ (by omega), h1, Nat.sub_self, List.take_add_one, show n - k = (n - (k + 1)) + 1 by omega, List.replicate_succ, List.set_cons_zero]
  simp only [List.getD, List.getElem?_eq_getElem (show k < T.length by omega), Option.getD_some, Option.toList_some, List.append_assoc, List.singleton_append]
theorem fill_zero (T : List Nat) (n : Nat) : fillN T n 0 = List.replicate n 0 := by simp [fillN]
theorem fill_all {T : List Nat} {n : Nat} (hT : T.length = n) : fillN T n n = T := by simp [fillN, ← hT]
theorem fill_len {T : List Nat} {n k : Nat} (hT : T.length = n) (hk : k ≤ n) : (fillN T n k).length = n := by
  unfold fillN; rw [List.length_append, List.length_take, List.length_replicate]; omega
theorem Bs_set (xs : List Nat) (j v : Nat) : (Bs xs).toArray.setIfInBounds j (.int .u8 (v : Int)) = (Bs (xs.set j v)).toArray := by
  unfold Bs; rw [List.map_set]; simp
theorem Ws_set (xs : List Nat) (j v : Nat) : (Ws xs).toArray.setIfInBounds j (.int .u32 (v : Int)) = (Ws (xs.set j v)).toArray := by
  unfold Ws; rw [List.map_set]; simp
theorem Ws_len (l : List Nat) : (Ws l).length = l.length := by simp [Ws]
theorem be4s_len (l : List Nat) : (l.flatMap be4).length = 4 * l.length := by
  induction l with
  | nil => rfl
  | cons a l ih => rw [List.flatMap_cons, List.length_append, ih, List.length_cons]; simp [be4]; omega
theorem be4_at : ∀ (l : List Nat) (j r : Nat), j < l.length → r < 4 → (l.flatMap be4).getD (4 * j + r) 0 = l.getD j 0 / 2 ^ (8 * (3 - r)) % 256
  | [], j, r, h, _ => by simp at h
  | a :: l, 0, r, _, hr => by
    rw [List.flatMap_cons]
    match r, hr with
    | 0, _ => simp [be4, List.getD]
    | 1, _ => simp [be4, List.getD]
    | 2, _ => simp [be4, List.getD]
    | 3, _ => simp [be4, List.getD]
  | a :: l, j + 1, r, h, hr => by
    rw [List.flatMap_cons]
    have e : (be4 a ++ l.flatMap be4).getD (4 * (j + 1) + r) 0 = (l.flatMap be4).getD (4 * j + r) 0 := by
      unfold List.getD
      rw [List.getElem?_append_right (by simp [be4]; omega), show 4 * (j + 1) + r - (be4 a).length = 4 * j + r from by simp [be4]; omega]
    rw [e, be4_at l j r (by simpa using h) hr]
    simp [List.getD]
theorem cell_ws {w : World} {g j : Nat} {l : List Nat} {t : TypeId} (hg : w.heap[g]? = some (.cells (Ws l).toArray t (0, 0))) (hj : j < l.length) : w.cell? ⟨g, j, none⟩ = some (.int .u32 (l.getD j 0 : Nat)) := by
  rw [cell_of_row w g j _ t _ hg]
  simp [Ws, List.getD, List.getElem?_eq_getElem hj]
theorem cell_bs {w : World} {g j : Nat} {l : List Nat} {t : TypeId} (hg : w.heap[g]? = some (.cells (Bs l).toArray t (0, 0))) (hj : j < l.length) : w.cell? ⟨g, j, none⟩ = some (.int .u8 (l.getD j 0 : Nat)) := by
  rw [cell_of_row w g j _ t _ hg]
  simp [Bs, List.getD, List.getElem?_eq_getElem hj]
/-- A world with one block more. -/
theorem one_cell_bs (l : List Nat) : (Bs l).toArray.all (·.oneCell') = true := by simp [Bs, Value.oneCell']
theorem one_cell_ws (l : List Nat) : (Ws l).toArray.all (·.oneCell') = true := by simp [Ws, Value.oneCell']
theorem size_dig : (Tryd.prog.info? 23).map (·.size) = some 32 := by kernel_rfl
theorem size_words : (Tryd.prog.info? 89).map (·.size) = some 8 := by kernel_rfl
theorem size_block : (Tryd.prog.info? 66).map (·.size) = some 64 := by kernel_rfl
theorem size_sched : (Tryd.prog.info? 116).map (·.size) = some 64 := by kernel_rfl

theorem getD_lt' {l : List Nat} {m : Nat} (hb : ∀ x ∈ l, x < m) (j : Nat) (h0 : 0 < m := by decide) : l.getD j 0 < m := by
  unfold List.getD
  cases h : l[j]? with
  | none => simpa using h0
  | some v => exact hb v (List.mem_of_getElem? h)
theorem below_setRow {B : Nat} {w w' : World} (h : Below B w w') {g : Nat} {cs : Array Value} (hg : B ≤ g) : Below B w (w'.setRow g cs) :=
  ⟨h.os, h.tape, h.output, by rw [size_setRow]; exact h.size, fun k hk => by rw [setRow_other _ _ _ _ (by omega)]; exact h.block k hk⟩
set_option maxHeartbeats 1000000 in
theorem told_any (l : List Nat) (w : World) (hl : l.length = 8) (hb : ∀ x ∈ l, x < 4294967296) :
    Calls Tryd.prog 62 #[.agg (Ws l).toArray] w fun e w' => e = .returned (.agg (Bs (l.flatMap be4)).toArray) ∧ Below w.heap.size w w' := by
  obtain ⟨T, hT⟩ : ∃ T, l.flatMap be4 = T := ⟨_, rfl⟩
  have hTl : T.length = 32 := by rw [← hT, be4s_len, hl]
  rw [hT]
  go_enter Tryd.func62, Tryd.ntmps62
  go_wp2
  go_loopw [5] (fun t wr => ∃ k : Nat, k ≤ 32 ∧ t = .int .i64 (k : Int) ∧ wr.heap[w.heap.size]? = some (.cells (Ws l).toArray 89 (0, 0)) ∧ wr.heap[w.heap.size + 1]? = some (.cells (Bs (List.replicate 32 0)).toArray 23 (0, 0)) ∧ wr.heap[w.heap.size + 1 + 1]? = some (.cells (Bs (fillN T 32 k)).toArray 23 (0, 0)) ∧ Below w.heap.size w wr)
    (fun t _ => 32 - (intOf t).toNat)
  case atStart =>
    refine ⟨0, by omega, rfl, ?_, ?_, ?_, ?_⟩
    · rw [_root_.Go.heap_alloc_old _ _ (by simp; omega), _root_.Go.heap_alloc_old _ _ (by simp), _root_.Go.heap_alloc_new]
    · rw [_root_.Go.heap_alloc_old _ _ (by simp), show w.heap.size + 1 = (w.alloc (Obj.cells (Ws l).toArray 89)).heap.size from by simp, _root_.Go.heap_alloc_new]
      rfl
    · rw [show w.heap.size + 1 + 1 = ((w.alloc (Obj.cells (Ws l).toArray 89)).alloc (Obj.cells (Bs (List.replicate 32 0)).toArray 23)).heap.size from by simp, fill_zero]
      exact _root_.Go.heap_alloc_new _ _
    · exact (((Below.refl _ _).alloc (by omega) _).alloc (by simp) _).alloc (by simp; omega) _
  case round =>
    obtain ⟨k, hk, rfl, h1, h2, h3, hbl⟩ := hrel
    by_cases hlt : k < 32
    · obtain ⟨j, r, hjr, hr⟩ : ∃ j r, k = 4 * j + r ∧ r < 4 := ⟨k / 4, k % 4, by omega, by omega⟩
      have hTk : T.getD k 0 = l.getD j 0 / 2 ^ (8 * (3 - r)) % 256 := by rw [hjr, ← hT]; exact be4_at l j r (by omega) hr
      have hc1 := cell_ws h1 (show j < l.length by omega)
      have hc3 := cell_bs h3 (show k < (fillN T 32 k).length by rw [fill_len hTl hk]; omega)
      have hfz : wr.frozen? ⟨w.heap.size + 1 + 1, k, none⟩ = false := frozen_of_row wr _ k _ _ h3
      have hx := getD_lt' hb j
      have hq : (k : Int) / 4 = (j : Int) := by omega
      have hm : (k : Int) % 4 = (r : Int) := by omega
      have hjI : (j : Int) < 8 := by omega
      have hkI : (k : Int) < 32 := by omega
      have hsh : 8 * (3 - (r : Int)) = ((8 * (3 - r) : Nat) : Int) := by omega
      have hs64 : 8 * (3 - r) < 32 := by omega
      have HG : Hid _ := h3
      have HTk : Hid _ := hTk
      have Hjr : Hid _ := hjr
      have HT : Hid _ := hT
      generalize hsv : 8 * (3 - r) = sv at hsh hs64 HTk
      generalize hxv : l.getD j 0 = x at hc1 hx HTk
      clear h3 hTk hjr hsv hxv hT
      go_wp2
      rw [show ((x : Int) / 2 ^ sv % 256) = ((T.getD k 0 : Nat) : Int) from by rw [HTk.out, Int.natCast_emod, Int.natCast_ediv, Int.natCast_pow]; rfl]
      refine ⟨⟨k + 1, by omega, rfl, ?_, ?_, ?_, hbl.setCell (by simp; omega) _⟩, by simp [intOf]; omega⟩
      · rw [heap_setCell_other _ _ _ _ (by simp; omega)]; exact h1
      · rw [heap_setCell_other _ _ _ _ (by simp)]; exact h2
      · rw [heap_setCell_same _ _ _ _ _ _ HG.out, Bs_set, fill_set hTl hlt]
    · obtain rfl : k = 32 := by omega
      rw [fill_all hTl] at h3
      go_upto_region 7 with fail
      go_step
      refine wpList_load_row rfl 23 (.tmp 3) rfl _ (by rfl) 23 _ _ _ h3 Tryd.underlying23 rfl (by rw [size_dig]; simp [Bs, hTl]) ?_
      refine wpList_store_row rfl 23 (.tmp 2) (.tmp 21) rfl _ _ (by rfl) (by rfl) 23 _ h2 (by rw [size_dig]; simp [Bs, hTl]) (by simp [Bs, hTl]) (one_cell_bs _) ?_
      go_wp2
      refine bodyPost_ret (results_cell_row rfl _ _ (w.heap.size + 1) 23 (Bs T).toArray (0, 0) _ rfl (setRow_heap _ _ _ _ _ _ h2) Tryd.underlying23 rfl (by rw [size_dig]; simp [Bs, hTl])) rfl ⟨rfl, ?_⟩
      exact below_setRow hbl (by omega)
end Go.Proofs.YtoagaddciapmkaaDoor
