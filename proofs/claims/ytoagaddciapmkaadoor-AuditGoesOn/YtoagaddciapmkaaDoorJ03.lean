/-
  The words of a block, as the program lays them: numbers alone.
-/
import Derived.Test.YtoagaddciapmkaaDoorJ02
import Derived.Deep.WholeRow
import Derived.Deep.RegionHeld3
import Derived.Deep.Cut
namespace Go.Proofs.YtoagaddciapmkaaDoor
open Go.RowKit Go.WideShapes

/-- Words as values. -/
def Ws (l : List Nat) : List Value := l.map fun n : Nat => .int .u32 (n : Int)
/-- A row that is filled as far as k. -/
def fillN (T : List Nat) (n k : Nat) : List Nat := T.take k ++ List.replicate (n - k) 0
theorem fill_set {T : List Nat} {n k : Nat} (hT : T.length = n) (hk : k < n) : (fillN T n k).set k (T.getD k 0) = fillN T n (k + 1) := by
  unfold fillN
  have h1 : (T.take k).length = k := by rw [List.length_take]; omega
  rw [List.set_append_right _ _ (by omega), h1, Nat.sub_self, List.take_add_one, show n - k = (n - (k + 1)) + 1 by omega, List.replicate_succ, List.set_cons_zero]
  simp only [List.getD, List.getElem?_eq_getElem (show k < T.length by omega), Option.getD_some, Option.toList_some, List.append_assoc, List.singleton_append]
theorem fill_zero (T : List Nat) (n : Nat) : fillN T n 0 = List.replicate n 0 := by simp [fillN]
theorem fill_all {T : List Nat} {n : Nat} (hT : T.length = n) : fillN T n n = T := by simp [fillN, ← hT]
theorem fill_len {T : List Nat} {n k : Nat} (hT : T.length = n) (hk : k ≤ n) : (fillN T n k).length = n := by
  unfold fillN; rw [List.length_append, List.length_take, List.length_replicate]; omega
theorem Bs_set (xs : List Nat) (j v : Nat) : (Bs xs).toArray.setIfInBounds j (.int .u8 (v : Int)) = (Bs (xs.set j v)).toArray := by
  unfold Bs; rw [List.map_set]; simp
theorem Ws_set (xs : List Nat) (j v : Nat) : (Ws xs).toArray.setIfInBounds j (.int .u32 (v : Int)) = (Ws (xs.set j v)).toArray := by
  unfold Ws; rw [List.map_set]; simp
theorem Ws_len (l : List Nat) : (Ws l).length = l.length := by simp [Ws]
theorem be4s_len (l : List Nat) : (l.flatMap be4).length = 4 * l.length := by
  induction l with
  | nil => rfl
  | cons a l ih => rw [List.flatMap_cons, List.length_append, ih, List.length_cons]; simp [be4]; omega
theorem be4_at : ∀ (l : List Nat) (j r : Nat), j < l.length → r < 4 → (l.flatMap be4).getD (4 * j + r) 0 = l.getD j 0 / 2 ^ (8 * (3 - r)) % 256
  | [], j, r, h, _ => by simp at h
  | a :: l, 0, r, _, hr => by
    rw [List.flatMap_cons]
    match r, hr with
    | 0, _ => simp [be4, List.getD]
    | 1, _ => simp [be4, List.getD]
    | 2, _ => simp [be4, List.getD]
    | 3, _ => simp [be4, List.getD]
  | a :: l, j + 1, r, h, hr => by
    rw [List.flatMap_cons]
    have e : (be4 a ++ l.flatMap be4).getD (4 * (j + 1) + r) 0 = (l.flatMap be4).getD (4 * j + r) 0 := by
      unfold List.getD
      rw [List.getElem?_append_right (by simp [be4]; omega), show 4 * (j + 1) + r - (be4 a).length = 4 * j + r from by simp [be4]; omega]
    rw [e, be4_at l j r (by simpa using h) hr]
    simp [List.getD]
theorem cell_ws {w : World} {g j : Nat} {l : List Nat} {t : TypeId} (hg : w.heap[g]? = some (.cells (Ws l).toArray t (0, 0))) (hj : j < l.length) : w.cell? ⟨g, j, none⟩ = some (.int .u32 (l.getD j 0 : Nat)) := by
  rw [cell_of_row w g j _ t _ hg]
  simp [Ws, List.getD, List.getElem?_eq_getElem hj]
theorem cell_bs {w : World} {g j : Nat} {l : List Nat} {t : TypeId} (hg : w.heap[g]? = some (.cells (Bs l).toArray t (0, 0))) (hj : j < l.length) : w.cell? ⟨g, j, none⟩ = some (.int .u8 (l.getD j 0 : Nat)) := by
  rw [cell_of_row w g j _ t _ hg]
  simp [Bs, List.getD, List.getElem?_eq_getElem hj]
/-- A world with one block more. -/
theorem one_cell_bs (l : List Nat) : (Bs l).toArray.all (·.oneCell') = true := by simp [Bs, Value.oneCell']
theorem one_cell_ws (l : List Nat) : (Ws l).toArray.all (·.oneCell') = true := by simp [Ws, Value.oneCell']
theorem size_dig : (Tryd.prog.info? 23).map (·.size) = some 32 := by kernel_rfl
theorem size_words : (Tryd.prog.info? 89).map (·.size) = some 8 := by kernel_rfl
theorem size_block : (Tryd.prog.info? 66).map (·.size) = some 64 := by kernel_rfl
theorem size_sched : (Tryd.prog.info? 116).map (·.size) = some 64 := by kernel_rfl

theorem getD_lt' {l : List Nat} {m : Nat} (hb : ∀ x ∈ l, x < m) (j : Nat) (h0 : 0 < m := by decide) : l.getD j 0 < m := by
  unfold List.getD
  cases h : l[j]? with
  | none => simpa using h0
  | some v => exact hb v (List.mem_of_getElem? h)
theorem below_setRow {B : Nat} {w w' : World} (h : Below B w w') {g : Nat} {cs : Array Value} (hg : B ≤ g) : Below B w (w'.setRow g cs) :=
  ⟨h.os, h.tape, h.output, by rw [size_setRow]; exact h.size, fun k hk => by rw [setRow_other _ _ _ _ (by omega)]; exact h.block k hk⟩
set_option maxHeartbeats 1000000 in
theorem told_any (l : List Nat) (w : World) (hl : l.length = 8) (hb : ∀ x ∈ l, x < 4294967296) :
    Calls Tryd.prog 62 #[.agg (Ws l).toArray] w fun e w' => e = .returned (.agg (Bs (l.flatMap be4)).toArray) ∧ Below w.heap.size w w' := by
  obtain ⟨T, hT⟩ : ∃ T, l.flatMap be4 = T := ⟨_, rfl⟩
  have hTl : T.length = 32 := by rw [← hT, be4s_len, hl]
  rw [hT]
  go_enter Tryd.func62, Tryd.ntmps62
  go_wp2
  go_loopw [5] (fun t wr => ∃ k : Nat, k ≤ 32 ∧ t = .int .i64 (k : Int) ∧ wr.heap[w.heap.size]? = some (.cells (Ws l).toArray 89 (0, 0)) ∧ wr.heap[w.heap.size + 1]? = some (.cells (Bs (List.replicate 32 0)).toArray 23 (0, 0)) ∧ wr.heap[w.heap.size + 1 + 1]? = some (.cells (Bs (fillN T 32 k)).toArray 23 (0, 0)) ∧ Below w.heap.size w wr)
    (fun t _ => 32 - (intOf t).toNat)
  case atStart =>
    refine ⟨0, by omega, rfl, ?_, ?_, ?_, ?_⟩
    · rw [_root_.Go.heap_alloc_old _ _ (by simp; omega), _root_.Go.heap_alloc_old _ _ (by simp), _root_.Go.heap_alloc_new]
    · rw [_root_.Go.heap_alloc_old _ _ (by simp), show w.heap.size + 1 = (w.alloc (Obj.cells (Ws l).toArray 89)).heap.size from by simp, _root_.Go.heap_alloc_new]
      rfl
    · rw [show w.heap.size + 1 + 1 = ((w.alloc (Obj.cells (Ws l).toArray 89)).alloc (Obj.cells (Bs (List.replicate 32 0)).toArray 23)).heap.size from by simp, fill_zero]
      exact _root_.Go.heap_alloc_new _ _
    · exact (((Below.refl _ _).alloc (by omega) _).alloc (by simp) _).alloc (by simp; omega) _
  case round =>
    obtain ⟨k, hk, rfl, h1, h2, h3, hbl⟩ := hrel
    by_cases hlt : k < 32
    · obtain ⟨j, r, hjr, hr⟩ : ∃ j r, k = 4 * j + r ∧ r < 4 := ⟨k / 4, k % 4, by omega, by omega⟩
      have hTk : T.getD k 0 = l.getD j 0 / 2 ^ (8 * (3 - r)) % 256 := by rw [hjr, ← hT]; exact be4_at l j r (by omega) hr
      have hc1 := cell_ws h1 (show j < l.length by omega)
      have hc3 := cell_bs h3 (show k < (fillN T 32 k).length by rw [fill_len hTl hk]; omega)
      have hfz : wr.frozen? ⟨w.heap.size + 1 + 1, k, none⟩ = false := frozen_of_row wr _ k _ _ h3
      have hx := getD_lt' hb j
      have hq : (k : Int) / 4 = (j : Int) := by omega
      have hm : (k : Int) % 4 = (r : Int) := by omega
      have hjI : (j : Int) < 8 := by omega
      have hkI : (k : Int) < 32 := by omega
      have hsh : 8 * (3 - (r : Int)) = ((8 * (3 - r) : Nat) : Int) := by omega
      have hs64 : 8 * (3 - r) < 32 := by omega
      have HG : Hid _ := h3
      have HTk : Hid _ := hTk
      have Hjr : Hid _ := hjr
      have HT : Hid _ := hT
      generalize hsv : 8 * (3 - r) = sv at hsh hs64 HTk
      generalize hxv : l.getD j 0 = x at hc1 hx HTk
      clear h3 hTk hjr hsv hxv hT
      go_wp2
      rw [show ((x : Int) / 2 ^ sv % 256) = ((T.getD k 0 : Nat) : Int) from by rw [HTk.out, Int.natCast_emod, Int.natCast_ediv, Int.natCast_pow]; rfl]
      refine ⟨⟨k + 1, by omega, rfl, ?_, ?_, ?_, hbl.setCell (by simp; omega) _⟩, by simp [intOf]; omega⟩
      · rw [heap_setCell_other _ _ _ _ (by simp; omega)]; exact h1
      · rw [heap_setCell_other _ _ _ _ (by simp)]; exact h2
      · rw [heap_setCell_same _ _ _ _ _ _ HG.out, Bs_set, fill_set hTl hlt]
    · obtain rfl : k = 32 := by omega
      rw [fill_all hTl] at h3
      go_upto_region 7 with fail
      go_step
      refine wpList_load_row rfl 23 (.tmp 3) rfl _ (by rfl) 23 _ _ _ h3 Tryd.underlying23 rfl (by rw [size_dig]; simp [Bs, hTl]) ?_
      refine wpList_store_row rfl 23 (.tmp 2) (.tmp 21) rfl _ _ (by rfl) (by rfl) 23 _ h2 (by rw [size_dig]; simp [Bs, hTl]) (by simp [Bs, hTl]) (one_cell_bs _) ?_
      go_wp2
      refine bodyPost_ret (results_cell_row rfl _ _ (w.heap.size + 1) 23 (Bs T).toArray (0, 0) _ rfl (setRow_heap _ _ _ _ _ _ h2) Tryd.underlying23 rfl (by rw [size_dig]; simp [Bs, hTl])) rfl ⟨rfl, ?_⟩
      exact below_setRow hbl (by omega)

theorem al2_0 (w : World) (A B : Obj) : ((w.alloc A).alloc B).heap[w.heap.size]? = some A := by
  rw [_root_.Go.heap_alloc_old _ _ (by simp), _root_.Go.heap_alloc_new]
theorem al2_1 (w : World) (A B : Obj) : ((w.alloc A).alloc B).heap[w.heap.size + 1]? = some B := by
  rw [show w.heap.size + 1 = (w.alloc A).heap.size from by simp, _root_.Go.heap_alloc_new]
theorem al3_0 (w : World) (A B C : Obj) : (((w.alloc A).alloc B).alloc C).heap[w.heap.size]? = some A := by
  rw [_root_.Go.heap_alloc_old _ _ (by simp; omega), al2_0]
theorem al3_1 (w : World) (A B C : Obj) : (((w.alloc A).alloc B).alloc C).heap[w.heap.size + 1]? = some B := by
  rw [_root_.Go.heap_alloc_old _ _ (by simp), al2_1]
theorem al3_2 (w : World) (A B C : Obj) : (((w.alloc A).alloc B).alloc C).heap[w.heap.size + 1 + 1]? = some C := by
  rw [show w.heap.size + 1 + 1 = ((w.alloc A).alloc B).heap.size from by simp, _root_.Go.heap_alloc_new]
theorem below_al2 (w : World) (A B : Obj) : Below w.heap.size w ((w.alloc A).alloc B) := ((Below.refl _ _).alloc (by omega) _).alloc (by simp) _
theorem below_al3 (w : World) (A B C : Obj) : Below w.heap.size w (((w.alloc A).alloc B).alloc C) := (below_al2 w A B).alloc (by simp; omega) _

theorem first_any (w : World) : Calls Tryd.prog 59 #[] w fun e w' => e = .returned (.agg (Ws firstH).toArray) ∧ Below w.heap.size w w' := by
  go_enter Tryd.func59, Tryd.ntmps59
  go_upto_region 1 with fail
  go_step
  refine wpList_build rfl 89 _ rfl (by kernel_rfl) ?_
  refine wpList_store_row rfl 89 (.tmp 0) (.tmp 1) rfl w.heap.size (Ws firstH).toArray (by rfl) (by kernel_rfl) 89 _ (_root_.Go.heap_alloc_new _ _) size_words rfl (one_cell_ws _) ?_
  go_wp2
  refine bodyPost_ret (results_cell_row rfl _ _ w.heap.size 89 (Ws firstH).toArray (0, 0) _ rfl (setRow_heap _ _ _ _ _ _ (_root_.Go.heap_alloc_new _ _)) Tryd.underlying89 rfl size_words) rfl ⟨rfl, ?_⟩
  exact below_setRow ((Below.refl _ _).alloc (by omega) _) (by omega)

theorem map_at (f : Nat → Nat) : ∀ (l : List Nat) (k : Nat), k < l.length → ((l.take k).map f ++ l.drop k).set k (f (l.getD k 0)) = (l.take (k + 1)).map f ++ l.drop (k + 1)
  | [], k, h => by simp at h
  | a :: l, 0, _ => by simp [List.getD]
  | a :: l, k + 1, h => by
    have ih := map_at f l k (by simpa using h)
    simp only [List.take_succ_cons, List.map_cons, List.drop_succ_cons, List.cons_append, List.set_cons_succ, List.getD_cons_succ]
    rw [ih]
set_option maxHeartbeats 1000000 in
theorem changed_any (l : List Nat) (c : Nat) (w : World) (hl : l.length = 64) (hb : ∀ x ∈ l, x < 256) (hc : c < 256) :
    Calls Tryd.prog 39 #[.agg (Bs l).toArray, .int .u8 (c : Int)] w fun e w' => e = .returned (.agg (Bs (l.map (· ^^^ c))).toArray) ∧ Below w.heap.size w w' := by
  go_enter Tryd.func39, Tryd.ntmps39
  go_wp2
  go_loopw [6] (fun t wr => ∃ k : Nat, k ≤ 64 ∧ t = .int .i64 (k : Int) ∧ wr.heap[w.heap.size]? = some (.cells (Bs ((l.take k).map (· ^^^ c) ++ l.drop k)).toArray 66 (0, 0)) ∧ wr.heap[w.heap.size + 1]? = some (.cells (Bs (List.replicate 64 0)).toArray 66 (0, 0)) ∧ Below w.heap.size w wr)
    (fun t _ => 64 - (intOf t).toNat)
  case atStart => exact ⟨0, by omega, rfl, al2_0 _ _ _, al2_1 _ _ _, below_al2 _ _ _⟩
  case round =>
    obtain ⟨k, hk, rfl, h1, h2, hbl⟩ := hrel
    by_cases hlt : k < 64
    · have hlen : ((l.take k).map (· ^^^ c) ++ l.drop k).length = 64 := by simp [hl]; omega
      have hat : ((l.take k).map (· ^^^ c) ++ l.drop k).getD k 0 = l.getD k 0 := by
        unfold List.getD
        rw [List.getElem?_append_right (by simp; omega)]
        simp [hl, Nat.min_eq_left (show k ≤ 64 by omega)]
      have hc1 := cell_bs h1 (show k < _ by rw [hlen]; exact hlt)
      rw [hat] at hc1
      have hfz : wr.frozen? ⟨w.heap.size, k, none⟩ = false := frozen_of_row wr _ k _ _ h1
      have hx := getD_lt' hb k
      have hxr := u8_xor_nat _ _ hx hc
      have hkI : (k : Int) < 64 := by omega
      have HG : Hid _ := h1
      have HS : Hid (((l.take k).map (· ^^^ c) ++ l.drop k).set k (l.getD k 0 ^^^ c) = (l.take (k + 1)).map (· ^^^ c) ++ l.drop (k + 1)) := by
        show _ = _
        exact map_at (· ^^^ c) l k (by omega)
      generalize hxv : l.getD k 0 = x at hc1 hx hxr HS
      clear h1 hxv hat hlen
      go_wp2
      refine ⟨⟨k + 1, by omega, rfl, ?_, ?_, hbl.setCell (by simp) _⟩, by simp [intOf]; omega⟩
      · rw [heap_setCell_same _ _ _ _ _ _ HG.out, Bs_set, HS.out]
      · rw [heap_setCell_other _ _ _ _ (by simp)]; exact h2
    · obtain rfl : k = 64 := by omega
      rw [List.take_of_length_le (by omega), List.drop_of_length_le (by omega), List.append_nil] at h1
      go_upto_region 6 with fail
      go_step
      refine wpList_load_row rfl 66 (.tmp 2) rfl _ (by rfl) 66 _ _ _ h1 Tryd.underlying66 rfl (by rw [size_block]; simp [Bs, hl]) ?_
      refine wpList_store_row rfl 66 (.tmp 4) (.tmp 16) rfl _ _ (by rfl) (by rfl) 66 _ h2 (by rw [size_block]; simp [Bs, hl]) (by simp [Bs, hl]) (one_cell_bs _) ?_
      go_wp2
      refine bodyPost_ret (results_cell_row rfl _ _ (w.heap.size + 1) 66 _ (0, 0) _ rfl (setRow_heap _ _ _ _ _ _ h2) Tryd.underlying66 rfl (by rw [size_block]; simp [Bs, hl])) rfl ⟨rfl, ?_⟩
      exact below_setRow hbl (by omega)

theorem wordsK_succ (b : List Nat) (k : Nat) : wordsK b (k + 1) = wordsK b k ++ [if k < 16 then wordB b (4 * k) else moreW (wordsK b k) k] := rfl
theorem wordsK_take (b : List Nat) : ∀ (n k : Nat), k ≤ n → (wordsK b n).take k = wordsK b k
  | 0, k, h => by obtain rfl : k = 0 := by omega
                  rfl
  | n + 1, k, h => by
    by_cases e : k = n + 1
    · subst e; exact List.take_of_length_le (by rw [wordsK_len]; omega)
    · rw [wordsK_succ, List.take_append_of_le_length (by rw [wordsK_len]; omega)]
      exact wordsK_take b n k (by omega)
theorem wordsK_at (b : List Nat) (n k : Nat) (h : k < n) : (wordsK b n).getD k 0 = if k < 16 then wordB b (4 * k) else moreW (wordsK b k) k := by
  have e := wordsK_take b n (k + 1) (by omega)
  have e2 : ((wordsK b n).take (k + 1)).getD k 0 = (wordsK b n).getD k 0 := by
    unfold List.getD; rw [List.getElem?_take_of_lt (by omega)]
  rw [← e2, e, wordsK_succ]
  unfold List.getD
  rw [List.getElem?_append_right (by rw [wordsK_len]; omega), wordsK_len]
  simp
theorem wordsK_lt (b : List Nat) (hb : ∀ x ∈ b, x < 256) : ∀ n, ∀ x ∈ wordsK b n, x < 4294967296
  | 0, x, h => by cases h
  | n + 1, x, h => by
    rw [wordsK_succ] at h
    rcases List.mem_append.1 h with h | h
    · exact wordsK_lt b hb n x h
    · simp only [List.mem_singleton] at h
      subst h
      split
      · unfold wordB
        have h0 := getD_lt' hb (4 * n); have h1 := getD_lt' hb (4 * n + 1); have h2 := getD_lt' hb (4 * n + 2); have h3 := getD_lt' hb (4 * n + 3)
        omega
      · unfold moreW M32; exact Nat.mod_lt _ (by decide)
theorem fill_at {T : List Nat} {n k j : Nat} (hT : T.length = n) (hk : k ≤ n) (hj : j < k) : (fillN T n k).getD j 0 = T.getD j 0 := by
  unfold fillN List.getD
  rw [List.getElem?_append_left (by rw [List.length_take]; omega), List.getElem?_take_of_lt hj]
theorem fill_at0 {T : List Nat} {n k j : Nat} (hT : T.length = n) (hk : k ≤ n) (hj : k ≤ j) : (fillN T n k).getD j 0 = 0 := by
  unfold fillN List.getD
  rw [List.getElem?_append_right (by rw [List.length_take]; omega), List.getElem?_replicate]
  split <;> rfl
/-- What stands in the row behind k bytes. -/
def schA (b : List Nat) : Nat → List Nat
  | 0 => List.replicate 64 0
  | k + 1 => (schA b k).set (k / 4) (((schA b k).getD (k / 4) 0 * 256 % 4294967296) ||| b.getD k 0)
theorem schA_len (b : List Nat) : ∀ k, (schA b k).length = 64
  | 0 => by simp [schA]
  | k + 1 => by rw [schA, List.length_set, schA_len b k]
theorem schA_lt (b : List Nat) (hb : ∀ x ∈ b, x < 256) : ∀ k, ∀ x ∈ schA b k, x < 4294967296
  | 0, x, h => by
    rw [schA] at h
    have := List.eq_of_mem_replicate h
    omega
  | k + 1, x, h => by
    rw [schA] at h
    rcases List.mem_or_eq_of_mem_set h with h | rfl
    · exact schA_lt b hb k x h
    · have := getD_lt' hb k
      exact Nat.or_lt_two_pow (n := 32) (Nat.mod_lt _ (by decide)) (by omega)
theorem or_low (x c : Nat) (hc : c < 256) : (x * 256) ||| c = x * 256 + c := by
  have := Nat.two_pow_add_eq_or_of_lt (i := 8) (b := c) (by simpa using hc) x
  rw [Nat.mul_comm x 256]
  exact this.symm
theorem or_mod (x c : Nat) (hx : x < 16777216) (hc : c < 256) : x * 256 % 4294967296 ||| c = x * 256 + c := by
  rw [Nat.mod_eq_of_lt (by omega), or_low x c hc]
theorem set_getD (l : List Nat) (j v : Nat) (h : j < l.length) : (l.set j v).getD j 0 = v := by
  unfold List.getD; rw [List.getElem?_set_self h]; rfl
theorem schA_four (b : List Nat) (hb : ∀ x ∈ b, x < 256) (j : Nat) (hj : j < 64) (h0 : (schA b (4 * j)).getD j 0 = 0) : schA b (4 * (j + 1)) = (schA b (4 * j)).set j (wordB b (4 * j)) := by
  have hl := schA_len b (4 * j)
  have b0 := getD_lt' hb (4 * j); have b1 := getD_lt' hb (4 * j + 1); have b2 := getD_lt' hb (4 * j + 2); have b3 := getD_lt' hb (4 * j + 3)
  rw [show 4 * (j + 1) = 4 * j + 3 + 1 by omega]
  simp only [schA]
  rw [show (4 * j + 3) / 4 = j by omega, show (4 * j + 2) / 4 = j by omega, show (4 * j + 1) / 4 = j by omega, show (4 * j) / 4 = j by omega, h0]
  simp only [List.set_set, set_getD _ _ _ (show j < (schA b (4 * j)).length by omega)]
  congr 1
  unfold wordB
  generalize b.getD (4 * j) 0 = c0 at *
  generalize b.getD (4 * j + 1) 0 = c1 at *
  generalize b.getD (4 * j + 2) 0 = c2 at *
  generalize b.getD (4 * j + 3) 0 = c3 at *
  rw [or_mod 0 c0 (by omega) b0, Nat.zero_mul, Nat.zero_add, or_mod c0 c1 (by omega) b1, or_mod _ c2 (by omega) b2, or_mod _ c3 (by omega) b3]
theorem schA_words (b : List Nat) (hb : ∀ x ∈ b, x < 256) : ∀ j, j ≤ 16 → schA b (4 * j) = fillN (wordsK b 64) 64 j
  | 0, _ => by rw [fill_zero]; rfl
  | j + 1, h => by
    have ih := schA_words b hb j (by omega)
    have hT := wordsK_len b 64
    rw [schA_four b hb j (by omega) (by rw [ih]; exact fill_at0 hT (by omega) (Nat.le_refl _)), ih, ← fill_set hT (by omega), wordsK_at b 64 j (by omega), if_pos (by omega)]
theorem wordsK_getD (b : List Nat) (n k j : Nat) (hn : n ≤ 64) (hk : k ≤ n) (hj : j < k) : (wordsK b k).getD j 0 = (wordsK b 64).getD j 0 := by
  rw [wordsK_at b k j hj, wordsK_at b 64 j (by omega)]
end Go.Proofs.YtoagaddciapmkaaDoor
