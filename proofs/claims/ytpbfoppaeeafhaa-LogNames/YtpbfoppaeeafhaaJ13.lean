/-
  The log's bytes behind acts that write sectors. No program.
-/
import Derived.Test.YtpbfoppaeeafhaaJ11
import Derived.Test.YtpbfoppaeeafhaaJ12
namespace Go.Proofs.Ytpbfoppaeeafhaa
open Go.RowKit Go.WideShapes

def zeroD : List Nat := List.replicate (100 * 128) 0
def abcL : List Nat := [97, 98, 99]
def firstD : List Nat := settleN zeroD [(16, headL 1)]
def abcF : List Nat := frameN 1 1 0 abcL
theorem flat_zero (k : Nat) : (List.range k).flatMap (fun _ => List.replicate 128 0) = List.replicate (k * 128) 0 := by
  induction k with
  | zero => rfl
  | succ k ih => rw [List.range_succ, List.flatMap_append, ih, List.flatMap_cons, List.flatMap_nil, List.append_nil, List.replicate_append_replicate]; congr 1; omega
theorem logK_is {data : List Nat} {ws : Puts} {k : Nat} (f : Nat → List Nat) (h : ∀ i, i < k → nowN data ws ((16 + i : Nat) : Int) = f i) : logK data ws k = (List.range k).flatMap f := by
  unfold logK
  induction k with
  | zero => rfl
  | succ k ih => rw [List.range_succ, List.flatMap_append, List.flatMap_append, ih (fun i hi => h i (by omega)), List.flatMap_cons, List.flatMap_nil, List.flatMap_cons, List.flatMap_nil, h k (by omega)]
theorem range_shift (k : Nat) (f : Nat → List Nat) : (List.range (k + 1)).flatMap f = f 0 ++ (List.range k).flatMap (fun i => f (i + 1)) := by
  rw [List.range_succ_eq_map, List.flatMap_cons, List.flatMap_map]
theorem zero_sec {n : Nat} (h : n < 100) : nowN zeroD [] (n : Int) = List.replicate 128 0 := by
  simp only [nowN, nowK, List.length_nil, Option.getD_none, Int.toNat_natCast, secN, zeroD, List.drop_replicate, List.take_replicate]
  congr 1
  omega
theorem zeroD_len : (zeroD.length : Int) = 100 * 128 := by unfold zeroD; rw [List.length_replicate]; rfl
theorem okay_zero : Okay 100 zeroD [] := ⟨by decide, by decide, zeroD_len, by decide, fun y hy => by cases hy⟩
theorem log_zero : logN zeroD [] = List.replicate 8192 0 := by
  unfold logN
  rw [logK_is (fun _ => List.replicate 128 0) (fun i hi => zero_sec (by omega)), flat_zero]
theorem num_zero (n k : Nat) : numAt (List.replicate n 0) k = 0 := by
  have h : ∀ j, (List.replicate n 0).getD j 0 = 0 := fun j => by
    simp only [List.getD, List.getElem?_replicate]
    split <;> rfl
  unfold numAt
  rw [h, h, h, h]
  rfl
theorem epoch_zero (n : Nat) : epochN (List.replicate n 0) = 0 := by
  have h : ∀ j, (List.replicate n 0).getD j 0 = 0 := fun j => by
    simp only [List.getD, List.getElem?_replicate]
    split <;> rfl
  unfold epochN
  simp only [h]
  split <;> rfl
theorem mostE_zero (n k : Nat) : mostE (List.replicate n 0) k = 0 := by
  induction k with
  | zero => exact epoch_zero n
  | succ k ih => show max _ _ = 0; rw [ih, num_zero]; rfl
theorem mostS_zero {e : Nat} (n k : Nat) : mostS e (List.replicate n 0) k = 0 := by
  induction k with
  | zero => rfl
  | succ k ih => show (if _ then max _ (max _ _) else _) = 0; rw [ih, num_zero, num_zero, num_zero]; split <;> rfl
theorem do_first : doAny 100 zeroD [] (clearActs 1) = .ok (firstD, []) := by
  rw [doAny_ok _ okay_zero]
  simp [clearActs, doN, stepA, headL_len, firstD]
theorem okay_first : Okay 100 firstD [] := doAny_okay do_first
theorem first_sec {n : Nat} (h : n < 100) : nowN firstD [] (n : Int) = if (16 : Int) = n then headL 1 else List.replicate 128 0 := by
  have ok : Okay 100 zeroD [(16, headL 1)] := ⟨by decide, by decide, zeroD_len, by decide, fun y hy => by rw [List.mem_singleton.1 hy]; exact ⟨by decide, by decide, headL_len 1⟩⟩
  have e1 := now_settled ok (n := n) (by omega)
  rw [show firstD = settleN zeroD [(16, headL 1)] from rfl, e1]
  have e2 := now_written (data := zeroD) (ws := []) (y := (16, headL 1)) (n := (n : Int))
  rw [List.nil_append] at e2
  rw [e2, zero_sec h]
theorem log_first : logN firstD [] = headL 1 ++ List.replicate 8064 0 := by
  unfold logN
  rw [logK_is (fun i => if i = 0 then headL 1 else List.replicate 128 0) (fun i hi => by
    rw [first_sec (by omega)]
    by_cases h : i = 0
    · rw [if_pos (by omega), if_pos h]
    · rw [if_neg (by omega), if_neg h]), range_shift]
  simp only [if_true, Nat.add_eq_zero_iff, Nat.one_ne_zero, and_false, if_false]
  rw [flat_zero]
theorem epoch_head (xs : List Nat) : epochN (headL 1 ++ xs) = 1 := by
  have h1 : (headL 1 ++ xs).take 128 = headL 1 := List.take_left' (headL_len 1)
  have h2 : (headL 1).drop 8 = List.replicate 120 0 := rfl
  unfold epochN
  rw [h1, h2]
  have h3 : headL 1 ++ xs = 1 :: 0 :: 0 :: 0 :: 0 :: 0 :: 0 :: 0 :: (List.replicate 120 0 ++ xs) := rfl
  rw [h3]
  have h4 : ∀ c ∈ List.replicate 120 0, c = 0 := fun c hc => (List.mem_replicate.1 hc).2
  simp only [List.getD_cons_zero, List.getD_cons_succ]
  rw [if_pos ⟨by decide, h4⟩]
  rfl
theorem recs_zero {e p : Nat} (n : Nat) (he : e < 4294967296) (hp : p < 4294967296) : Recs e p (List.replicate n 0) [] 0 p (List.replicate n 0) := .stop (no_head he hp (.inl (num_zero _ _)))
theorem abc_len : abcF.length = 128 := by unfold abcF; rw [frameN_len]; rfl
theorem do_abc : doAny 100 firstD [] [(false, 17, abcF)] = .ok (firstD, [(17, abcF)]) := by
  rw [doAny_ok _ okay_first]
  simp [doN, stepA, abc_len]
theorem okay_abc : Okay 100 firstD [(17, abcF)] := doAny_okay do_abc
theorem log_abc : logN firstD [(17, abcF)] = headL 1 ++ (abcF ++ List.replicate 7936 0) := by
  unfold logN
  rw [logK_is (fun i => if i = 0 then headL 1 else if i = 1 then abcF else List.replicate 128 0) (fun i hi => by
    have e2 := now_written (data := firstD) (ws := []) (y := (17, abcF)) (n := ((16 + i : Nat) : Int))
    rw [List.nil_append] at e2
    rw [e2, first_sec (by omega)]
    by_cases h : i = 0
    · subst h; rfl
    · by_cases h' : i = 1
      · subst h'; rfl
      · rw [if_neg (by simp only; omega), if_neg (by omega), if_neg h, if_neg h']), range_shift, range_shift]
  simp only [if_true, Nat.add_eq_zero_iff, Nat.one_ne_zero, and_false, if_false, Nat.zero_add]
  have e : (fun i : Nat => if i + 1 + 1 = 1 then abcF else List.replicate 128 0) = fun _ => List.replicate 128 0 := by funext i; rw [if_neg (by omega)]
  rw [e, flat_zero]
theorem recs_abc : Recs 1 0 (abcF ++ List.replicate 7936 0) [abcL] 1 1 (List.replicate 7936 0) := by
  have h : IsRec 1 0 (abcF ++ List.replicate 7936 0) 1 abcL := by
    refine ⟨by decide, by decide, by decide, by decide, ?_⟩
    rw [show needsN abcL.length * 128 = 128 from rfl]
    exact List.take_left' abc_len
  have h2 := Recs.next h (l := []) (a := 0) (la := 1) (t := List.replicate 7936 0) (by
    rw [show needsN abcL.length * 128 = 128 from rfl, List.drop_left' abc_len]
    exact recs_zero _ (by decide) (by decide))
  exact h2
end Go.Proofs.Ytpbfoppaeeafhaa
namespace Go.Proofs.Ytpbfoppaeeafhaa
open Go.RowKit Go.WideShapes

theorem new_100 (w : World) : Calls Try.prog 9 #[.int .i64 100] w fun e w' => ∃ v, e = .returned (.tuple #[v, .int .i64 0]) ∧ (∀ w2, Below w'.heap.size w' w2 → DiskIn w2 v 100 zeroD []) ∧ Below w.heap.size w w' :=
  (new_ok 100 w (by decide) (by decide)).mono (by
    rintro e w' ⟨v, rfl, hn, hb⟩
    exact ⟨v, rfl, fun w2 h2 => (hn.toIn okay_zero).below h2, hb⟩)
theorem hasZero : HasLog 100 zeroD [] := ⟨okay_zero, by decide⟩
theorem hasFirst : HasLog 100 firstD [] := ⟨okay_first, by decide⟩
theorem hasAbc : HasLog 100 firstD [(17, abcF)] := ⟨okay_abc, by decide⟩
theorem do_first_any (v : Value) (w : World) (q : Option Addr) (n m : Nat) (l : List ActC) (hd : DiskIn w v 100 zeroD []) (ha : AOwn w 0 (.slice q n m) l) (hl : l.map Prod.fst = clearActs 1) :
    Calls Try.prog 15 #[v, .slice q n m] w fun e w' => ∃ v', e = .returned (.tuple #[v', .int .i64 0]) ∧ DiskF w.heap.size w' v' 100 firstD [] ∧ Below w.heap.size w w' := by
  obtain ⟨hn, hi, _, _⟩ := ha.lies
  rw [hl] at hi
  have hln : n = (clearActs 1).length := by rw [hn, ← hl, List.length_map]
  refine (do_all v 100 zeroD [] w hd q n m (clearActs 1) hln hi (by decide) _ do_first).mono ?_
  rintro e w' ⟨⟨v', he, hf⟩, hb⟩
  exact ⟨v', he, hf, hb⟩
theorem do_abc_any (v : Value) (w : World) (q : Option Addr) (n m : Nat) (l : List ActC) (hd : DiskIn w v 100 firstD []) (ha : AOwn w 0 (.slice q n m) l) (hl : l.map Prod.fst = [(false, 17, abcF)]) :
    Calls Try.prog 15 #[v, .slice q n m] w fun e w' => ∃ v', e = .returned (.tuple #[v', .int .i64 0]) ∧ DiskF w.heap.size w' v' 100 firstD [(17, abcF)] ∧ Below w.heap.size w w' := by
  obtain ⟨hn, hi, _, _⟩ := ha.lies
  rw [hl] at hi
  have hln : n = [(false, (17 : Int), abcF)].length := by rw [hn, ← List.length_map (f := Prod.fst), hl]
  refine (do_all v 100 firstD [] w hd q n m _ hln hi (by simp) _ do_abc).mono ?_
  rintro e w' ⟨⟨v', he, hf⟩, hb⟩
  exact ⟨v', he, hf, hb⟩
theorem AOwn.zero {w : World} {base : Nat} {v : Value} {l : List ActC} (h : AOwn w base v l) : AOwn w 0 v l := ⟨own_mono h.row (Nat.zero_le _), fun y hy => (h.data y hy).mono (Nat.zero_le _)⟩
theorem clear_zero (v : Value) (w : World) (hd : DiskIn w v 100 zeroD []) : Calls Try.prog 11 #[v] w fun e w' => ∃ q n m l, e = .returned (.tuple #[.slice q n m, .int .i64 0]) ∧ AOwn w' 0 (.slice q n m) l ∧ l.map Prod.fst = clearActs 1 ∧ Below w.heap.size w w' :=
  (Clear_ok v 100 zeroD [] w hd hasZero 1 (by rw [log_zero, mostE_zero]) (by decide)).mono (by
    rintro e w' ⟨v', l, rfl, ha, hm, hb⟩
    obtain ⟨q, m, rfl, _, _⟩ := ha.form
    exact ⟨q, _, m, l, rfl, ha.zero, hm, hb⟩)
theorem fin3 {w w3 : World} {base : Nat} {v : Value} {count : Int} {data : List Nat} {ws : Puts} (h : DiskF base w3 v count data ws) (hb : Below w.heap.size w w3) (hlt : w.heap.size < base) (o : Obj) (a b c : Value) :
    (∀ w2, Below (((((w3.setCell ⟨w.heap.size, 0, none⟩ a).setCell ⟨w.heap.size, 1, none⟩ b).setCell ⟨w.heap.size, 2, none⟩ c).alloc o).heap.size) ((((w3.setCell ⟨w.heap.size, 0, none⟩ a).setCell ⟨w.heap.size, 1, none⟩ b).setCell ⟨w.heap.size, 2, none⟩ c).alloc o) w2 → DiskIn w2 v count data ws) ∧ Below w.heap.size w ((((w3.setCell ⟨w.heap.size, 0, none⟩ a).setCell ⟨w.heap.size, 1, none⟩ b).setCell ⟨w.heap.size, 2, none⟩ c).alloc o) := by
  have e1 : ∀ k, base ≤ k → k < w3.heap.size → (((w3.setCell ⟨w.heap.size, 0, none⟩ a).setCell ⟨w.heap.size, 1, none⟩ b).setCell ⟨w.heap.size, 2, none⟩ c).heap[k]? = w3.heap[k]? := fun k hk hk2 =>
    ((set_other c (by simpa using hk2) (by omega)).trans (set_other b (by simpa using hk2) (by omega))).trans (set_other a hk2 (by omega))
  have e2 : (((w3.setCell ⟨w.heap.size, 0, none⟩ a).setCell ⟨w.heap.size, 1, none⟩ b).setCell ⟨w.heap.size, 2, none⟩ c).heap.size = w3.heap.size := by simp
  have e3 := below_set3 (a := a) (b := b) (c := c) hb
  generalize ((w3.setCell ⟨w.heap.size, 0, none⟩ a).setCell ⟨w.heap.size, 1, none⟩ b).setCell ⟨w.heap.size, 2, none⟩ c = W at *
  refine ⟨fun w2 h2 => h w2 (fun k hk hk2 => ?_), below_bt e3 (below_alloc _ _)⟩
  have h3 := below_bt (below_alloc W o) h2
  rw [h3.block k (by omega)]
  exact e1 k hk hk2
set_option maxRecDepth 8000 in
set_option maxHeartbeats 1000000 in
theorem cleared_any (w : World) : Calls Try.prog 12 #[.int .i64 100] w fun e w' => ∃ v, e = .returned (.tuple #[v, .bool true]) ∧ (∀ w2, Below w'.heap.size w' w2 → DiskIn w2 v 100 firstD []) ∧ Below w.heap.size w w' := by
  go_enter Try.func12, Try.ntmps12
  go_wp2_with fail
  refine (new_100 _).mono ?_
  rintro e w1 ⟨v1, rfl, hd1, hb1⟩
  obtain ⟨p, c, q, m, rfl, _⟩ := (hd1 _ (Below.refl _ _)).parts
  obtain ⟨D, hD⟩ : ∃ D, zeroD.length = D := ⟨_, rfl⟩
  rw [hD] at hd1 ⊢
  have HD1 : Hid (∀ w2, Below w1.heap.size w1 w2 → DiskIn w2 (.agg #[.int .i64 100, .slice p D c, .slice q (List.length (α := Int × List Nat) []) m]) 100 zeroD []) := hd1
  have HB1 : Hid (Below w.heap.size w w1) := below_bt (below_alloc w _) hb1
  have HX : Hid (w1.heap[w.heap.size]? = some (.cells #[.int .i64 0, .slice none 0 0, .slice none 0 0] 25 (0, 0))) := (hb1.block _ (by simp)).trans (heap_alloc_new w _)
  obtain ⟨z, hz⟩ : ∃ z, List.length (α := Int × List Nat) [] = z := ⟨_, rfl⟩
  rw [hz] at HD1 ⊢
  clear hd1 hb1 hD hz
  go_wp2_with fail
  refine (clear_zero _ _ (HD1.out _ (below_alloc _ _))).mono ?_
  rintro e w2 ⟨lq, ln, lm, l, rfl, ha2, hm2, hb2⟩
  have HX2 : Hid (w2.heap[w1.heap.size]? = some (.cells #[.int .i64 100, .slice p D c, .slice q z m] 25 (0, 0))) := (hb2.block _ (by simp)).trans (heap_alloc_new w1 _)
  obtain ⟨c0, c1, c2, _⟩ := box3 HX2.out
  have hb12 : Below w1.heap.size w1 w2 := below_bt (below_alloc _ _) hb2
  have HA2 : Hid (AOwn w2 0 (.slice lq ln lm) l ∧ l.map Prod.fst = clearActs 1) := ⟨ha2, hm2⟩
  have HB2 : Hid (Below w1.heap.size w1 w2) := hb12
  clear ha2 hm2 hb2 hb12
  go_wp2_with fail
  refine (do_first_any _ _ lq ln lm l (HD1.out _ HB2.out) HA2.out.1 HA2.out.2).mono ?_
  rintro e w3 ⟨v3, rfl, hf3, hb3⟩
  obtain ⟨p3, c3, q3, m3, rfl, _⟩ := hf3.self.parts
  obtain ⟨D3, hD3⟩ : ∃ D, firstD.length = D := ⟨_, rfl⟩
  rw [hD3] at hf3 ⊢
  have hb13 := below_bt HB2.out hb3
  have HX3 : Hid (w3.heap[w.heap.size]? = some (.cells #[.int .i64 0, .slice none 0 0, .slice none 0 0] 25 (0, 0))) := (hb13.block _ (lt_heap HX.out)).trans HX.out
  obtain ⟨x0, x1, x2, y0, y1, y2⟩ := box3 HX3.out
  have hlt3 : w.heap.size < w3.heap.size := lt_heap HX3.out
  have HF3 : Hid (DiskF w2.heap.size w3 (.agg #[.int .i64 100, .slice p3 D3 c3, .slice q3 (List.length (α := Int × List Nat) []) m3]) 100 firstD []) := hf3
  have HB3 : Hid (Below w.heap.size w w3) := below_bt HB1.out hb13
  have HLT : Hid (w.heap.size < w2.heap.size) := by have := lt_heap HX.out; have := HB2.out.size; show _ < _; omega
  obtain ⟨z3, hz3⟩ : ∃ z, List.length (α := Int × List Nat) [] = z := ⟨_, rfl⟩
  rw [hz3] at HF3 ⊢
  clear hf3 hb3 hD3 hb13 c0 c1 c2 hz3
  go_wp2
  (try simp only [Exit.inBlock, Exit.then])
  refine bodyPost_ret (v := .tuple #[.agg #[.int .i64 100, .slice p3 D3 c3, .slice q3 z3 m3], .bool true]) ?_ rfl ⟨_, rfl, ?_⟩
  · rw [results_cell_tmp rfl]
    go_simp
  · exact fin3 HF3.out HB3.out HLT.out _ _ _ _
end Go.Proofs.Ytpbfoppaeeafhaa
namespace Go.Proofs.Ytpbfoppaeeafhaa
open Go.RowKit Go.WideShapes

def abcS : ByteArray := { data := #[97, 98, 99] }
theorem add_abc (v : Value) (w : World) (hd : DiskIn w v 100 firstD []) : Calls Try.prog 14 #[v, .string { data := #[97, 98, 99] }] w fun e w' => ∃ q n m l, e = .returned (.tuple #[.slice q n m, .int .i64 0]) ∧ AOwn w' 0 (.slice q n m) l ∧ l.map Prod.fst = [(false, 17, abcF)] ∧ Below w.heap.size w w' := by
  have hdrop : (logN firstD []).drop 128 = List.replicate 8064 0 := by rw [log_first]; exact List.drop_left' (headL_len 1)
  refine (Add_ok v { data := #[97, 98, 99] } 100 firstD [] w hd hasFirst (by rw [log_first, List.length_append, headL_len, List.length_replicate]) 1 (by rw [log_first, epoch_head]) (by decide) (by decide) [] 0 0 (List.replicate 8064 0) 1 (by rw [hdrop]; exact recs_zero _ (by decide) (by decide)) (by rw [mostS_zero]) (by decide) (by decide)).mono ?_
  rintro e w' ⟨v', l, rfl, ha, hm, hb⟩
  obtain ⟨q, m, rfl, _, _⟩ := ha.form
  refine ⟨q, _, m, l, rfl, ha.zero, ?_, hb⟩
  rw [hm]
  exact actsK_head 17 abcF abc_len
theorem str_abc : strOf abcL = { data := #[97, 98, 99] } := by decide
theorem records_abc (v : Value) (w : World) (hd : DiskIn w v 100 firstD [(17, abcF)]) : Calls Try.prog 10 #[v] w fun e w' => ∃ g c, e = .returned (.tuple #[.slice (some ⟨g, 0, none⟩) 1 c, .int .i64 0]) ∧ w'.cell? ⟨g, 0, none⟩ = some (.string { data := #[97, 98, 99] }) ∧ Below w.heap.size w w' := by
  have hdrop : (logN firstD [(17, abcF)]).drop 128 = abcF ++ List.replicate 7936 0 := by rw [log_abc]; exact List.drop_left' (headL_len 1)
  refine (Records_ok v 100 firstD [(17, abcF)] w hd hasAbc 1 (by rw [log_abc, epoch_head]) (by decide)).mono ?_
  rintro e w' ⟨rv, l, a, la, t, rfl, hrec, hown, hb⟩
  rw [hdrop] at hrec
  obtain ⟨rfl, rfl, rfl, rfl⟩ := recs_abc.only (by decide) (by decide) hrec
  rcases hown.2 with ⟨_, h0⟩ | ⟨g, cap, cur, rfl, _, hg, h1, h2, _, h3⟩
  · cases h0
  · refine ⟨g, cap, rfl, ?_, hb⟩
    have h4 := hown.cellAt 0 (by decide)
    rw [h4]
    simp [str_abc]
set_option maxRecDepth 8000 in
set_option maxHeartbeats 1000000 in
theorem alive_any (w : World) : Calls Try.prog 18 #[] w fun e w' => e = .returned (.bool true) ∧ Below w.heap.size w w' := by
  go_enter Try.func18, Try.ntmps18
  go_wp2_with fail
  refine (cleared_any _).mono ?_
  rintro e w1 ⟨v1, rfl, hd1, hb1⟩
  obtain ⟨p, c, q, m, rfl, _⟩ := (hd1 _ (Below.refl _ _)).parts
  obtain ⟨D, hD⟩ : ∃ D, firstD.length = D := ⟨_, rfl⟩
  obtain ⟨z, hz⟩ : ∃ z, List.length (α := Int × List Nat) [] = z := ⟨_, rfl⟩
  rw [hD, hz] at hd1 ⊢
  have HD1 : Hid (∀ w2, Below w1.heap.size w1 w2 → DiskIn w2 (.agg #[.int .i64 100, .slice p D c, .slice q z m]) 100 firstD []) := hd1
  have HB1 : Hid (Below w.heap.size w w1) := hb1
  clear hd1 hb1 hD hz
  go_wp2_with fail
  refine (add_abc _ _ (HD1.out _ (below_alloc _ _))).mono ?_
  rintro e w2 ⟨lq, ln, lm, l, rfl, ha2, hm2, hb2⟩
  have HX2 : Hid (w2.heap[w1.heap.size]? = some (.cells #[.int .i64 100, .slice p D c, .slice q z m] 25 (0, 0))) := (hb2.block _ (by simp)).trans (heap_alloc_new w1 _)
  obtain ⟨c0, c1, c2, _⟩ := box3 HX2.out
  have hb12 : Below w1.heap.size w1 w2 := below_bt (below_alloc _ _) hb2
  have HA2 : Hid (AOwn w2 0 (.slice lq ln lm) l ∧ l.map Prod.fst = [(false, 17, abcF)]) := ⟨ha2, hm2⟩
  have HB2 : Hid (Below w1.heap.size w1 w2) := hb12
  clear ha2 hm2 hb2 hb12
  go_wp2_with fail
  refine (do_abc_any _ _ lq ln lm l (HD1.out _ HB2.out) HA2.out.1 HA2.out.2).mono ?_
  rintro e w3 ⟨v3, rfl, hf3, hb3⟩
  obtain ⟨p3, c3, q3, m3, rfl, _⟩ := hf3.self.parts
  obtain ⟨D3, hD3⟩ : ∃ D, firstD.length = D := ⟨_, rfl⟩
  obtain ⟨z3, hz3⟩ : ∃ z, List.length (α := Int × List Nat) [(17, abcF)] = z := ⟨_, rfl⟩
  rw [hD3, hz3] at hf3 ⊢
  have HF3 : Hid (DiskF w2.heap.size w3 (.agg #[.int .i64 100, .slice p3 D3 c3, .slice q3 z3 m3]) 100 firstD [(17, abcF)]) := hf3
  have HB3 : Hid (Below w.heap.size w w3) := below_bt (below_bt HB1.out HB2.out) hb3
  clear hf3 hb3 hD3 hz3 c0 c1 c2
  go_wp2_with fail
  refine (records_abc _ _ (HF3.out.below (below_alloc _ _))).mono ?_
  rintro e w4 ⟨g, cg, rfl, hcell, hb4⟩
  have HB4 : Hid (Below w.heap.size w w4) := below_bt (below_bt HB3.out (below_alloc _ _)) hb4
  clear hb4
  go_wp2
  go_ret
  exact ⟨rfl, HB4.out⟩
end Go.Proofs.Ytpbfoppaeeafhaa
namespace Go.Proofs.Ytpbfoppaeeafhaa

theorem take_take_le {xs ys : List Nat} {a b : Nat} (h : xs.take b = ys.take b) (hab : a ≤ b) : xs.take a = ys.take a := by
  have := congrArg (List.take a) h
  rwa [List.take_take, List.take_take, Nat.min_eq_left hab] at this
theorem drop_take_eq {xs ys : List Nat} {a b : Nat} (h : xs.take (a + b) = ys.take (a + b)) : (xs.drop a).take b = (ys.drop a).take b := by
  have := congrArg (List.drop a) h
  rwa [List.drop_take, List.drop_take, Nat.add_sub_cancel_left] at this
/-- The records stay where what stands ahead of the log's end stays; others may follow. -/
theorem Recs.swap {E p : Nat} {ys : List Nat} {l : List (List Nat)} {a la : Nat} {t : List Nat} (h : Recs E p ys l a la t) : ∀ {ys' : List Nat} {l2 : List (List Nat)} {a2 la2 : Nat} {t2 : List Nat}, ys'.take (a * 128) = ys.take (a * 128) → Recs E la (ys'.drop (a * 128)) l2 a2 la2 t2 → Recs E p ys' (l ++ l2) (a + a2) la2 t2 := by
  induction h with
  | stop _ =>
    intro ys' l2 a2 la2 t2 _ h2
    simpa using h2
  | @next p s ys r l a la t hr _ ih =>
    intro ys' l2 a2 la2 t2 ht h2
    have e1 : (needsN r.length + a) * 128 = needsN r.length * 128 + a * 128 := by omega
    rw [e1] at ht h2
    have hr' : IsRec E p ys' s r := ⟨hr.salt0, hr.salt, hr.len, hr.byte, by rw [take_take_le ht (by omega)]; exact hr.pre⟩
    have := ih (ys' := ys'.drop (needsN r.length * 128)) (drop_take_eq ht) (by rw [List.drop_drop]; exact h2)
    have h3 := Recs.next hr' this
    rw [List.cons_append, Nat.add_assoc]
    exact h3
theorem mostS_mono (e : Nat) (ys : List Nat) (k : Nat) : mostS e ys k ≤ mostS e ys (k + 1) := by
  show _ ≤ (if _ then max _ (max _ _) else _)
  split
  · exact Nat.le_max_left _ _
  · exact Nat.le_refl _
theorem mostS_ge {e : Nat} {ys : List Nat} : ∀ {n i : Nat}, i < n → numAt ys (i * 128) = e → numAt ys (i * 128 + 4) ≤ mostS e ys n ∧ numAt ys (i * 128 + 8) ≤ mostS e ys n
  | n + 1, i, hi, he => by
    rcases Nat.lt_or_ge i n with h | h
    · have := mostS_ge (n := n) h he
      have := mostS_mono e ys n
      omega
    · obtain rfl : i = n := by omega
      have hm : mostS e ys (i + 1) = max (mostS e ys i) (max (numAt ys (i * 128 + 4)) (numAt ys (i * 128 + 8))) := if_pos he
      rw [hm]
      exact ⟨Nat.le_trans (Nat.le_max_left _ _) (Nat.le_max_right _ _), Nat.le_trans (Nat.le_max_right _ _) (Nat.le_max_right _ _)⟩
  | 0, _, h, _ => absurd h (by omega)
/-- Behind a new salt no record of the torn end goes on. -/
theorem no_behind {E S : Nat} {t : List Nat} {n : Nat} (hE : E < 4294967296) (hS : S < 4294967296) (ht : t.length = n * 128) (hm : mostS E t n < S) (i : Nat) : ∀ s r, ¬ IsRec E S (t.drop (i * 128)) s r := fun s r h => by
  have h1 := rec_len h
  have h2 := needsN_pos r.length
  rw [List.length_drop] at h1
  have hi : i < n := by omega
  obtain ⟨_, _, _, h4⟩ := rec_dec hE hS h
  have a := h4 0 h2
  have e0 : numAt (secAt (t.drop (i * 128)) 0) 0 = numAt t (i * 128) := by
    have g : ∀ j, j < 128 → (secAt (t.drop (i * 128)) 0).getD j 0 = t.getD (i * 128 + j) 0 := fun j hj => by rw [sec_getD _ _ _ hj]; simp [List.getD, Nat.zero_mul]
    unfold numAt
    rw [g 0 (by omega), g (0 + 1) (by omega), g (0 + 2) (by omega), g (0 + 3) (by omega)]
    rfl
  have e8 : numAt (secAt (t.drop (i * 128)) 0) 8 = numAt t (i * 128 + 8) := by
    have g : ∀ j, j < 128 → (secAt (t.drop (i * 128)) 0).getD j 0 = t.getD (i * 128 + j) 0 := fun j hj => by rw [sec_getD _ _ _ hj]; simp [List.getD, Nat.zero_mul]
    unfold numAt
    rw [g 8 (by omega), g (8 + 1) (by omega), g (8 + 2) (by omega), g (8 + 3) (by omega)]
  have b := mostS_ge hi (e0.symm.trans a.he)
  have c := e8.symm.trans a.hp
  omega
/-- A record written at the log's end is its last one. -/
theorem Recs.more {E : Nat} {ys ys' : List Nat} {l : List (List Nat)} {a la : Nat} {t r : List Nat} {n S : Nat} (h : Recs E 0 ys l a la t) (hE : E < 4294967296) (hy : ys.length = n * 128) (hS : mostS E t (n - a) + 1 = S) (hS2 : S < 4294967296) (hr : r.length ≤ 4096) (hrb : ∀ c ∈ r, c < 256)
    (h1 : ys'.take (a * 128) = ys.take (a * 128)) (h2 : (ys'.drop (a * 128)).take (needsN r.length * 128) = frameN E S la r) (h3 : (ys'.drop (a * 128)).drop (needsN r.length * 128) = t.drop (needsN r.length * 128)) :
    Recs E 0 ys' (l ++ [r]) (a + needsN r.length) S (t.drop (needsN r.length * 128)) := by
  obtain ⟨f1, f2, _⟩ := h.facts (n := n) hy (by omega)
  have htl : t.length = (n - a) * 128 := by rw [f2]; exact drop_len hy
  have hrec : IsRec E la (ys'.drop (a * 128)) S r := ⟨by omega, hS2, hr, hrb, h2⟩
  have hstop : Recs E S ((ys'.drop (a * 128)).drop (needsN r.length * 128)) [] 0 S (t.drop (needsN r.length * 128)) := by
    rw [h3]
    exact .stop (no_behind hE hS2 htl (by omega) _)
  have h4 := h.swap h1 (.next hrec hstop)
  simpa using h4
end Go.Proofs.Ytpbfoppaeeafhaa
namespace Go.Proofs.Ytpbfoppaeeafhaa

theorem secs_all : ∀ (n : Nat) (xs : List Nat), xs.length = n * 128 → xs = (List.range n).flatMap (secAt xs)
  | 0, xs, h => by
    have : xs = [] := List.length_eq_zero_iff.1 (by omega)
    subst this; rfl
  | n + 1, xs, h => by
    have h1 := secs_all n (xs.take (n * 128)) (by rw [List.length_take]; omega)
    rw [List.range_succ, List.flatMap_append, List.flatMap_cons, List.flatMap_nil, List.append_nil]
    have h2 : (List.range n).flatMap (secAt xs) = (List.range n).flatMap (secAt (xs.take (n * 128))) := by
      rw [List.flatMap_def, List.flatMap_def]
      congr 1
      refine List.map_congr_left (fun i hi => ?_)
      have hi := List.mem_range.1 hi
      unfold secAt
      rw [List.drop_take, List.take_take, Nat.min_eq_left (by omega)]
    rw [h2, ← h1]
    have h3 : secAt xs n = xs.drop (n * 128) := by
      unfold secAt
      exact List.take_of_length_le (by rw [List.length_drop]; omega)
    rw [h3, List.take_append_drop]
theorem secs_ext {n : Nat} {xs ys : List Nat} (hx : xs.length = n * 128) (hy : ys.length = n * 128) (h : ∀ i, i < n → secAt xs i = secAt ys i) : xs = ys := by
  rw [secs_all n xs hx, secs_all n ys hy, List.flatMap_def, List.flatMap_def]
  congr 1
  exact List.map_congr_left (fun i hi => h i (List.mem_range.1 hi))
theorem sec_take {xs : List Nat} {a i : Nat} (h : i < a) : secAt (xs.take (a * 128)) i = secAt xs i := by
  unfold secAt
  rw [List.drop_take, List.take_take, Nat.min_eq_left (by omega)]
theorem sec_drop (xs : List Nat) (a i : Nat) : secAt (xs.drop (a * 128)) i = secAt xs (a + i) := by
  unfold secAt
  rw [List.drop_drop]
  congr 2
  omega
theorem sec_logK {data : List Nat} {ws : Puts} {n i : Nat} (hl : ∀ j, j < n → (nowN data ws ((16 + j : Nat) : Int)).length = 128) (hi : i < n) : secAt (logK data ws n) i = nowN data ws ((16 + i : Nat) : Int) := by
  have hlen : ∀ k, k ≤ n → (logK data ws k).length = k * 128 := by
    intro k
    induction k with
    | zero => intro _; rfl
    | succ k ih => intro hk; rw [logK_snoc, List.length_append, ih (by omega), hl k (by omega)]; omega
  induction n with
  | zero => omega
  | succ n ih =>
    rw [logK_snoc]
    have hn := hlen n (by omega)
    rcases Nat.lt_or_ge i n with h | h
    · rw [← ih (fun j hj => hl j (by omega)) h (fun k hk => hlen k (by omega))]
      unfold secAt
      rw [List.drop_append_of_le_length (by omega), List.take_append_of_le_length (by rw [List.length_drop]; omega)]
    · obtain rfl : i = n := by omega
      unfold secAt
      rw [← hn, List.drop_left, List.take_of_length_le (by rw [hl i (by omega)]; omega)]
def putsK (fr : Int) (xs : List Nat) (k : Nat) : Puts := (List.range k).map fun i : Nat => (fr + (i : Int), secAt xs i)
theorem putsK_snoc (fr : Int) (xs : List Nat) (k : Nat) : putsK fr xs (k + 1) = putsK fr xs k ++ [(fr + (k : Int), secAt xs k)] := by
  unfold putsK; rw [List.range_succ, List.map_append]; rfl
theorem putsK_len (fr : Int) (xs : List Nat) (k : Nat) : (putsK fr xs k).length = k := by simp [putsK]
theorem now_puts {data : List Nat} {ws : Puts} {fr : Nat} {xs : List Nat} : ∀ (k n : Nat), nowN data (ws ++ putsK (fr : Int) xs k) (n : Int) = if fr ≤ n ∧ n < fr + k then secAt xs (n - fr) else nowN data ws (n : Int)
  | 0, n => by rw [if_neg (by omega)]; simp [putsK]
  | k + 1, n => by
    rw [putsK_snoc, ← List.append_assoc, now_written, now_puts k n]
    by_cases h : (fr : Int) + (k : Int) = n
    · rw [if_pos h, if_pos (by omega), show n - fr = k from by omega]
    · rw [if_neg h]
      by_cases h2 : fr ≤ n ∧ n < fr + k
      · rw [if_pos h2, if_pos (by omega)]
      · rw [if_neg h2, if_neg (by omega)]
theorem do_puts {count : Int} {data : List Nat} {ws : Puts} {fr : Int} {xs : List Nat} (h0 : 0 ≤ fr) : ∀ (k : Nat), (∀ i, i < k → (secAt xs i).length = 128) → fr + k ≤ count → ws.length + k ≤ 4096 → doN count (data, ws) (actsK fr xs k) = .ok (data, ws ++ putsK fr xs k)
  | 0, _, _, _ => by simp [actsK, putsK, doN]
  | k + 1, h1, h2, h3 => by
    rw [actsK_snoc, putsK_snoc, doN_app, do_puts h0 k (fun i hi => h1 i (by omega)) (by omega) (by omega)]
    have h4 := h1 k (by omega)
    have h5 : (ws ++ putsK fr xs k).length = ws.length + k := by rw [List.length_append, putsK_len]
    simp only [doN, stepA]
    rw [if_neg (by simp), if_neg (fun hh => hh ⟨by show 0 ≤ fr + (k : Int); omega, by show fr + (k : Int) < count; omega⟩), if_neg (by simp [h4]), if_neg (by simp only [h5]; omega), List.append_assoc]
theorem now_len {count : Int} {data : List Nat} {ws : Puts} (h : HasLog count data ws) : ∀ j, j < 64 → (nowN data ws ((16 + j : Nat) : Int)).length = 128 := fun j hj => nowN_len h.ok (by have := h.big; omega)
theorem log_len {count : Int} {data : List Nat} {ws : Puts} (h : HasLog count data ws) : (logN data ws).length = 64 * 128 := by
  have : ∀ k, k ≤ 64 → (logK data ws k).length = k * 128 := by
    intro k
    induction k with
    | zero => intro _; rfl
    | succ k ih => intro hk; rw [logK_snoc, List.length_append, ih (by omega), now_len h k (by omega)]; omega
  exact this 64 (Nat.le_refl _)
/-- The log's bytes behind the acts of Add. -/
theorem log_added {count : Int} {data : List Nat} {ws : Puts} {a k : Nat} {F : List Nat} (h : HasLog count data ws) (h' : HasLog count data (ws ++ putsK ((17 + a : Nat) : Int) F k)) (hak : a + k ≤ 63) (hF : F.length = k * 128) :
    (logN data (ws ++ putsK ((17 + a : Nat) : Int) F k)).take 128 = (logN data ws).take 128 ∧
    ((logN data (ws ++ putsK ((17 + a : Nat) : Int) F k)).drop 128).take (a * 128) = ((logN data ws).drop 128).take (a * 128) ∧
    (((logN data (ws ++ putsK ((17 + a : Nat) : Int) F k)).drop 128).drop (a * 128)).take (k * 128) = F ∧
    (((logN data (ws ++ putsK ((17 + a : Nat) : Int) F k)).drop 128).drop (a * 128)).drop (k * 128) = (((logN data ws).drop 128).drop (a * 128)).drop (k * 128) := by
  have l1 := log_len h
  have l2 := log_len h'
  have s1 : ∀ i, i < 64 → secAt (logN data ws) i = nowN data ws ((16 + i : Nat) : Int) := fun i hi => sec_logK (now_len h) hi
  have s2 : ∀ i, i < 64 → secAt (logN data (ws ++ putsK ((17 + a : Nat) : Int) F k)) i = if 17 + a ≤ 16 + i ∧ 16 + i < 17 + a + k then secAt F (16 + i - (17 + a)) else nowN data ws ((16 + i : Nat) : Int) := fun i hi => (sec_logK (now_len h') hi).trans (now_puts k (16 + i))
  generalize logN data (ws ++ putsK ((17 + a : Nat) : Int) F k) = L' at *
  generalize logN data ws = L at *
  have d1 : ∀ (X : List Nat) i, secAt (X.drop 128) i = secAt X (1 + i) := fun X i => by have := sec_drop X 1 i; rwa [Nat.one_mul] at this
  refine ⟨?_, ?_, ?_, ?_⟩
  · have e : ∀ X : List Nat, X.take 128 = secAt X 0 := fun X => by unfold secAt; simp
    rw [e, e, s1 0 (by omega), s2 0 (by omega), if_neg (by omega)]
  · refine secs_ext (n := a) (by rw [List.length_take, List.length_drop]; omega) (by rw [List.length_take, List.length_drop]; omega) (fun i hi => ?_)
    rw [sec_take hi, sec_take hi, d1, d1, s1 _ (by omega), s2 _ (by omega), if_neg (by omega)]
  · refine secs_ext (n := k) (by rw [List.length_take, List.length_drop, List.length_drop]; omega) hF (fun i hi => ?_)
    rw [sec_take hi, sec_drop, d1, s2 _ (by omega), if_pos (by omega)]
    congr 1
    omega
  · refine secs_ext (n := 63 - a - k) (by rw [List.length_drop, List.length_drop, List.length_drop]; omega) (by rw [List.length_drop, List.length_drop, List.length_drop]; omega) (fun i hi => ?_)
    rw [sec_drop, sec_drop, sec_drop, sec_drop, d1, d1, s1 _ (by omega), s2 _ (by omega), if_neg (by omega)]
end Go.Proofs.Ytpbfoppaeeafhaa
