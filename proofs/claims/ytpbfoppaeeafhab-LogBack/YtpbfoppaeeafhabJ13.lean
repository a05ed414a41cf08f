/-
  LogBack, walked.
-/
import Derived.Test.YtpbfoppaeeafhabJ11
import Derived.Test.YtpbfoppaeeafhabJ12
namespace Go.Proofs.Ytpbfoppaeeafhab
open Go.RowKit Go.WideShapes

def zeroD : List Nat := List.replicate (100 * 128) 0
def abcL : List Nat := [97, 98, 99]
def firstD : List Nat := settleN zeroD [(16, headL 1)]
def abcF : List Nat := frameN 1 1 0 abcL
theorem flat_zero (k : Nat) : (List.range k).flatMap (fun _ => List.replicate 128 0) = List.replicate (k * 128) 0 := by
  induction k with
  | zero => rfl
  | succ k ih => rw [List.range_succ, List.flatMap_append, ih, List.flatMap_cons, List.flatMap_nil, List.append_nil, List.replicate_append_replicate]; congr 1; omega
theorem logK_is {data : List Nat} {ws : Puts} {k : Nat} (f : Nat → List Nat) (h : ∀ i, i < k → nowN data ws ((16 + i : Nat) : Int) = f i) : logK data ws k = (List.range k).flatMap f := by
  unfold logK
  induction k with
  | zero => rfl
  | succ k ih => rw [List.range_succ, List.flatMap_append, List.flatMap_append, ih (fun i hi => h i (by omega)), List.flatMap_cons, List.flatMap_nil, List.flatMap_cons, List.flatMap_nil, h k (by omega)]
theorem range_shift (k : Nat) (f : Nat → List Nat) : (List.range (k + 1)).flatMap f = f 0 ++ (List.range k).flatMap (fun i => f (i + 1)) := by
  rw [List.range_succ_eq_map, List.flatMap_cons, List.flatMap_map]
theorem zero_sec {n : Nat} (h : n < 100) : nowN zeroD [] (n : Int) = List.replicate 128 0 := by
  simp only [nowN, nowK, List.length_nil, Option.getD_none, Int.toNat_natCast, secN, zeroD, List.drop_replicate, List.take_replicate]
  congr 1
  omega
theorem zeroD_len : (zeroD.length : Int) = 100 * 128 := by unfold zeroD; rw [List.length_replicate]; rfl
theorem okay_zero : Okay 100 zeroD [] := ⟨by decide, by decide, zeroD_len, by decide, fun y hy => by cases hy⟩
theorem log_zero : logN zeroD [] = List.replicate 8192 0 := by
  unfold logN
  rw [logK_is (fun _ => List.replicate 128 0) (fun i hi => zero_sec (by omega)), flat_zero]
theorem num_zero (n k : Nat) : numAt (List.replicate n 0) k = 0 := by
  have h : ∀ j, (List.replicate n 0).getD j 0 = 0 := fun j => by
    simp only [List.getD, List.getElem?_replicate]
    split <;> rfl
  unfold numAt
  rw [h, h, h, h]
  rfl
theorem epoch_zero (n : Nat) : epochN (List.replicate n 0) = 0 := by
  have h : ∀ j, (List.replicate n 0).getD j 0 = 0 := fun j => by
    simp only [List.getD, List.getElem?_replicate]
    split <;> rfl
  unfold epochN
  simp only [h]
  split <;> rfl
theorem mostE_zero (n k : Nat) : mostE (List.replicate n 0) k = 0 := by
  induction k with
  | zero => exact epoch_zero n
  | succ k ih => show max _ _ = 0; rw [ih, num_zero]; rfl
theorem mostS_zero {e : Nat} (n k : Nat) : mostS e (List.replicate n 0) k = 0 := by
  induction k with
  | zero => rfl
  | succ k ih => show (if _ then max _ (max _ _) else _) = 0; rw [ih, num_zero, num_zero, num_zero]; split <;> rfl
theorem do_first : doAny 100 zeroD [] (clearActs 1) = .ok (firstD, []) := by
  rw [doAny_ok _ okay_zero]
  simp [clearActs, doN, stepA, headL_len, firstD]
theorem okay_first : Okay 100 firstD [] := doAny_okay do_first
theorem first_sec {n : Nat} (h : n < 100) : nowN firstD [] (n : Int) = if (16 : Int) = n then headL 1 else List.replicate 128 0 := by
  have ok : Okay 100 zeroD [(16, headL 1)] := ⟨by decide, by decide, zeroD_len, by decide, fun y hy => by rw [List.mem_singleton.1 hy]; exact ⟨by decide, by decide, headL_len 1⟩⟩
  have e1 := now_settled ok (n := n) (by omega)
  rw [show firstD = settleN zeroD [(16, headL 1)] from rfl, e1]
  have e2 := now_written (data := zeroD) (ws := []) (y := (16, headL 1)) (n := (n : Int))
  rw [List.nil_append] at e2
  rw [e2, zero_sec h]
theorem log_first : logN firstD [] = headL 1 ++ List.replicate 8064 0 := by
  unfold logN
  rw [logK_is (fun i => if i = 0 then headL 1 else List.replicate 128 0) (fun i hi => by
    rw [first_sec (by omega)]
    by_cases h : i = 0
    · rw [if_pos (by omega), if_pos h]
    · rw [if_neg (by omega), if_neg h]), range_shift]
  simp only [if_true, Nat.add_eq_zero_iff, Nat.one_ne_zero, and_false, if_false]
  rw [flat_zero]
theorem epoch_head (xs : List Nat) : epochN (headL 1 ++ xs) = 1 := by
  have h1 : (headL 1 ++ xs).take 128 = headL 1 := List.take_left' (headL_len 1)
  have h2 : (headL 1).drop 8 = List.replicate 120 0 := rfl
  unfold epochN
  rw [h1, h2]
  have h3 : headL 1 ++ xs = 1 :: 0 :: 0 :: 0 :: 0 :: 0 :: 0 :: 0 :: (List.replicate 120 0 ++ xs) := rfl
  rw [h3]
  have h4 : ∀ c ∈ List.replicate 120 0, c = 0 := fun c hc => (List.mem_replicate.1 hc).2
  simp only [List.getD_cons_zero, List.getD_cons_succ]
  rw [if_pos ⟨by decide, h4⟩]
  rfl
theorem recs_zero {e p : Nat} (n : Nat) (he : e < 4294967296) (hp : p < 4294967296) : Recs e p (List.replicate n 0) [] 0 p (List.replicate n 0) := .stop (no_head he hp (.inl (num_zero _ _)))
theorem abc_len : abcF.length = 128 := by unfold abcF; rw [frameN_len]; rfl
theorem do_abc : doAny 100 firstD [] [(false, 17, abcF)] = .ok (firstD, [(17, abcF)]) := by
  rw [doAny_ok _ okay_first]
  simp [doN, stepA, abc_len]
theorem okay_abc : Okay 100 firstD [(17, abcF)] := doAny_okay do_abc
theorem log_abc : logN firstD [(17, abcF)] = headL 1 ++ (abcF ++ List.replicate 7936 0) := by
  unfold logN
  rw [logK_is (fun i => if i = 0 then headL 1 else if i = 1 then abcF else List.replicate 128 0) (fun i hi => by
    have e2 := now_written (data := firstD) (ws := []) (y := (17, abcF)) (n := ((16 + i : Nat) : Int))
    rw [List.nil_append] at e2
    rw [e2, first_sec (by omega)]
    by_cases h : i = 0
    · subst h; rfl
    · by_cases h' : i = 1
      · subst h'; rfl
      · rw [if_neg (by simp only; omega), if_neg (by omega), if_neg h, if_neg h']), range_shift, range_shift]
  simp only [if_true, Nat.add_eq_zero_iff, Nat.one_ne_zero, and_false, if_false, Nat.zero_add]
  have e : (fun i : Nat => if i + 1 + 1 = 1 then abcF else List.replicate 128 0) = fun _ => List.replicate 128 0 := by funext i; rw [if_neg (by omega)]
  rw [e, flat_zero]
theorem recs_abc : Recs 1 0 (abcF ++ List.replicate 7936 0) [abcL] 1 1 (List.replicate 7936 0) := by
  have h : IsRec 1 0 (abcF ++ List.replicate 7936 0) 1 abcL := by
    refine ⟨by decide, by decide, by decide, by decide, ?_⟩
    rw [show needsN abcL.length * 128 = 128 from rfl]
    exact List.take_left' abc_len
  have h2 := Recs.next h (l := []) (a := 0) (la := 1) (t := List.replicate 7936 0) (by
    rw [show needsN abcL.length * 128 = 128 from rfl, List.drop_left' abc_len]
    exact recs_zero _ (by decide) (by decide))
  exact h2
end Go.Proofs.Ytpbfoppaeeafhab
namespace Go.Proofs.Ytpbfoppaeeafhab
open Go.RowKit Go.WideShapes

theorem new_100 (w : World) : Calls Try.prog 29 #[.int .i64 100] w fun e w' => ∃ v, e = .returned (.tuple #[v, .int .i64 0]) ∧ (∀ w2, Below w'.heap.size w' w2 → DiskIn w2 v 100 zeroD []) ∧ Below w.heap.size w w' :=
  (new_ok 100 w (by decide) (by decide)).mono (by
    rintro e w' ⟨v, rfl, hn, hb⟩
    exact ⟨v, rfl, fun w2 h2 => (hn.toIn okay_zero).below h2, hb⟩)
theorem hasZero : HasLog 100 zeroD [] := ⟨okay_zero, by decide⟩
theorem hasFirst : HasLog 100 firstD [] := ⟨okay_first, by decide⟩
theorem hasAbc : HasLog 100 firstD [(17, abcF)] := ⟨okay_abc, by decide⟩
theorem do_first_any (v : Value) (w : World) (q : Option Addr) (n m : Nat) (l : List ActC) (hd : DiskIn w v 100 zeroD []) (ha : AOwn w 0 (.slice q n m) l) (hl : l.map Prod.fst = clearActs 1) :
    Calls Try.prog 9 #[v, .slice q n m] w fun e w' => ∃ v', e = .returned (.tuple #[v', .int .i64 0]) ∧ DiskF w.heap.size w' v' 100 firstD [] ∧ Below w.heap.size w w' := by
  obtain ⟨hn, hi, _, _⟩ := ha.lies
  rw [hl] at hi
  have hln : n = (clearActs 1).length := by rw [hn, ← hl, List.length_map]
  refine (do_all v 100 zeroD [] w hd q n m (clearActs 1) hln hi (by decide) _ do_first).mono ?_
  rintro e w' ⟨⟨v', he, hf⟩, hb⟩
  exact ⟨v', he, hf, hb⟩
theorem do_abc_any (v : Value) (w : World) (q : Option Addr) (n m : Nat) (l : List ActC) (hd : DiskIn w v 100 firstD []) (ha : AOwn w 0 (.slice q n m) l) (hl : l.map Prod.fst = [(false, 17, abcF)]) :
    Calls Try.prog 9 #[v, .slice q n m] w fun e w' => ∃ v', e = .returned (.tuple #[v', .int .i64 0]) ∧ DiskF w.heap.size w' v' 100 firstD [(17, abcF)] ∧ Below w.heap.size w w' := by
  obtain ⟨hn, hi, _, _⟩ := ha.lies
  rw [hl] at hi
  have hln : n = [(false, (17 : Int), abcF)].length := by rw [hn, ← List.length_map (f := Prod.fst), hl]
  refine (do_all v 100 firstD [] w hd q n m _ hln hi (by simp) _ do_abc).mono ?_
  rintro e w' ⟨⟨v', he, hf⟩, hb⟩
  exact ⟨v', he, hf, hb⟩
theorem AOwn.zero {w : World} {base : Nat} {v : Value} {l : List ActC} (h : AOwn w base v l) : AOwn w 0 v l := ⟨own_mono h.row (Nat.zero_le _), fun y hy => (h.data y hy).mono (Nat.zero_le _)⟩
theorem clear_zero (v : Value) (w : World) (hd : DiskIn w v 100 zeroD []) : Calls Try.prog 8 #[v] w fun e w' => ∃ q n m l, e = .returned (.tuple #[.slice q n m, .int .i64 0]) ∧ AOwn w' 0 (.slice q n m) l ∧ l.map Prod.fst = clearActs 1 ∧ Below w.heap.size w w' :=
  (Clear_ok v 100 zeroD [] w hd hasZero 1 (by rw [log_zero, mostE_zero]) (by decide)).mono (by
    rintro e w' ⟨v', l, rfl, ha, hm, hb⟩
    obtain ⟨q, m, rfl, _, _⟩ := ha.form
    exact ⟨q, _, m, l, rfl, ha.zero, hm, hb⟩)
theorem fin3 {w w3 : World} {base : Nat} {v : Value} {count : Int} {data : List Nat} {ws : Puts} (h : DiskF base w3 v count data ws) (hb : Below w.heap.size w w3) (hlt : w.heap.size < base) (o : Obj) (a b c : Value) :
    (∀ w2, Below (((((w3.setCell ⟨w.heap.size, 0, none⟩ a).setCell ⟨w.heap.size, 1, none⟩ b).setCell ⟨w.heap.size, 2, none⟩ c).alloc o).heap.size) ((((w3.setCell ⟨w.heap.size, 0, none⟩ a).setCell ⟨w.heap.size, 1, none⟩ b).setCell ⟨w.heap.size, 2, none⟩ c).alloc o) w2 → DiskIn w2 v count data ws) ∧ Below w.heap.size w ((((w3.setCell ⟨w.heap.size, 0, none⟩ a).setCell ⟨w.heap.size, 1, none⟩ b).setCell ⟨w.heap.size, 2, none⟩ c).alloc o) := by
  have e1 : ∀ k, base ≤ k → k < w3.heap.size → (((w3.setCell ⟨w.heap.size, 0, none⟩ a).setCell ⟨w.heap.size, 1, none⟩ b).setCell ⟨w.heap.size, 2, none⟩ c).heap[k]? = w3.heap[k]? := fun k hk hk2 =>
    ((set_other c (by simpa using hk2) (by omega)).trans (set_other b (by simpa using hk2) (by omega))).trans (set_other a hk2 (by omega))
  have e2 : (((w3.setCell ⟨w.heap.size, 0, none⟩ a).setCell ⟨w.heap.size, 1, none⟩ b).setCell ⟨w.heap.size, 2, none⟩ c).heap.size = w3.heap.size := by simp
  have e3 := below_set3 (a := a) (b := b) (c := c) hb
  generalize ((w3.setCell ⟨w.heap.size, 0, none⟩ a).setCell ⟨w.heap.size, 1, none⟩ b).setCell ⟨w.heap.size, 2, none⟩ c = W at *
  refine ⟨fun w2 h2 => h w2 (fun k hk hk2 => ?_), below_bt e3 (below_alloc _ _)⟩
  have h3 := below_bt (below_alloc W o) h2
  rw [h3.block k (by omega)]
  exact e1 k hk hk2
set_option maxRecDepth 8000 in
set_option maxHeartbeats 1000000 in
theorem cleared_any (w : World) : Calls Try.prog 14 #[.int .i64 100] w fun e w' => ∃ v, e = .returned (.tuple #[v, .bool true]) ∧ (∀ w2, Below w'.heap.size w' w2 → DiskIn w2 v 100 firstD []) ∧ Below w.heap.size w w' := by
  go_enter Try.func14, Try.ntmps14
  go_wp2_with fail
  refine (new_100 _).mono ?_
  rintro e w1 ⟨v1, rfl, hd1, hb1⟩
  obtain ⟨p, c, q, m, rfl, _⟩ := (hd1 _ (Below.refl _ _)).parts
  obtain ⟨D, hD⟩ : ∃ D, zeroD.length = D := ⟨_, rfl⟩
  rw [hD] at hd1 ⊢
  have HD1 : Hid (∀ w2, Below w1.heap.size w1 w2 → DiskIn w2 (.agg #[.int .i64 100, .slice p D c, .slice q (List.length (α := Int × List Nat) []) m]) 100 zeroD []) := hd1
  have HB1 : Hid (Below w.heap.size w w1) := below_bt (below_alloc w _) hb1
  have HX : Hid (w1.heap[w.heap.size]? = some (.cells #[.int .i64 0, .slice none 0 0, .slice none 0 0] 25 (0, 0))) := (hb1.block _ (by simp)).trans (heap_alloc_new w _)
  obtain ⟨z, hz⟩ : ∃ z, List.length (α := Int × List Nat) [] = z := ⟨_, rfl⟩
  rw [hz] at HD1 ⊢
  clear hd1 hb1 hD hz
  go_wp2_with fail
  refine (clear_zero _ _ (HD1.out _ (below_alloc _ _))).mono ?_
  rintro e w2 ⟨lq, ln, lm, l, rfl, ha2, hm2, hb2⟩
  have HX2 : Hid (w2.heap[w1.heap.size]? = some (.cells #[.int .i64 100, .slice p D c, .slice q z m] 25 (0, 0))) := (hb2.block _ (by simp)).trans (heap_alloc_new w1 _)
  obtain ⟨c0, c1, c2, _⟩ := box3 HX2.out
  have hb12 : Below w1.heap.size w1 w2 := below_bt (below_alloc _ _) hb2
  have HA2 : Hid (AOwn w2 0 (.slice lq ln lm) l ∧ l.map Prod.fst = clearActs 1) := ⟨ha2, hm2⟩
  have HB2 : Hid (Below w1.heap.size w1 w2) := hb12
  clear ha2 hm2 hb2 hb12
  go_wp2_with fail
  refine (do_first_any _ _ lq ln lm l (HD1.out _ HB2.out) HA2.out.1 HA2.out.2).mono ?_
  rintro e w3 ⟨v3, rfl, hf3, hb3⟩
  obtain ⟨p3, c3, q3, m3, rfl, _⟩ := hf3.self.parts
  obtain ⟨D3, hD3⟩ : ∃ D, firstD.length = D := ⟨_, rfl⟩
  rw [hD3] at hf3 ⊢
  have hb13 := below_bt HB2.out hb3
  have HX3 : Hid (w3.heap[w.heap.size]? = some (.cells #[.int .i64 0, .slice none 0 0, .slice none 0 0] 25 (0, 0))) := (hb13.block _ (lt_heap HX.out)).trans HX.out
  obtain ⟨x0, x1, x2, y0, y1, y2⟩ := box3 HX3.out
  have hlt3 : w.heap.size < w3.heap.size := lt_heap HX3.out
  have HF3 : Hid (DiskF w2.heap.size w3 (.agg #[.int .i64 100, .slice p3 D3 c3, .slice q3 (List.length (α := Int × List Nat) []) m3]) 100 firstD []) := hf3
  have HB3 : Hid (Below w.heap.size w w3) := below_bt HB1.out hb13
  have HLT : Hid (w.heap.size < w2.heap.size) := by have := lt_heap HX.out; have := HB2.out.size; show _ < _; omega
  obtain ⟨z3, hz3⟩ : ∃ z, List.length (α := Int × List Nat) [] = z := ⟨_, rfl⟩
  rw [hz3] at HF3 ⊢
  clear hf3 hb3 hD3 hb13 c0 c1 c2 hz3
  go_wp2
  (try simp only [Exit.inBlock, Exit.then])
  refine bodyPost_ret (v := .tuple #[.agg #[.int .i64 100, .slice p3 D3 c3, .slice q3 z3 m3], .bool true]) ?_ rfl ⟨_, rfl, ?_⟩
  · rw [results_cell_tmp rfl]
    go_simp
  · exact fin3 HF3.out HB3.out HLT.out _ _ _ _
end Go.Proofs.Ytpbfoppaeeafhab
namespace Go.Proofs.Ytpbfoppaeeafhab
open Go.RowKit Go.WideShapes

def abcS : ByteArray := { data := #[97, 98, 99] }
theorem add_abc (v : Value) (w : World) (hd : DiskIn w v 100 firstD []) : Calls Try.prog 15 #[v, .string { data := #[97, 98, 99] }] w fun e w' => ∃ q n m l, e = .returned (.tuple #[.slice q n m, .int .i64 0]) ∧ AOwn w' 0 (.slice q n m) l ∧ l.map Prod.fst = [(false, 17, abcF)] ∧ Below w.heap.size w w' := by
  have hdrop : (logN firstD []).drop 128 = List.replicate 8064 0 := by rw [log_first]; exact List.drop_left' (headL_len 1)
  refine (Add_ok v { data := #[97, 98, 99] } 100 firstD [] w hd hasFirst (by rw [log_first, List.length_append, headL_len, List.length_replicate]) 1 (by rw [log_first, epoch_head]) (by decide) (by decide) [] 0 0 (List.replicate 8064 0) 1 (by rw [hdrop]; exact recs_zero _ (by decide) (by decide)) (by rw [mostS_zero]) (by decide) (by decide)).mono ?_
  rintro e w' ⟨v', l, rfl, ha, hm, hb⟩
  obtain ⟨q, m, rfl, _, _⟩ := ha.form
  refine ⟨q, _, m, l, rfl, ha.zero, ?_, hb⟩
  rw [hm]
  exact actsK_head 17 abcF abc_len
theorem str_abc : strOf abcL = { data := #[97, 98, 99] } := by decide
theorem records_abc (v : Value) (w : World) (hd : DiskIn w v 100 firstD [(17, abcF)]) : Calls Try.prog 7 #[v] w fun e w' => ∃ g c, e = .returned (.tuple #[.slice (some ⟨g, 0, none⟩) 1 c, .int .i64 0]) ∧ w'.cell? ⟨g, 0, none⟩ = some (.string { data := #[97, 98, 99] }) ∧ Below w.heap.size w w' := by
  have hdrop : (logN firstD [(17, abcF)]).drop 128 = abcF ++ List.replicate 7936 0 := by rw [log_abc]; exact List.drop_left' (headL_len 1)
  refine (Records_ok v 100 firstD [(17, abcF)] w hd hasAbc 1 (by rw [log_abc, epoch_head]) (by decide)).mono ?_
  rintro e w' ⟨rv, l, a, la, t, rfl, hrec, hown, hb⟩
  rw [hdrop] at hrec
  obtain ⟨rfl, rfl, rfl, rfl⟩ := recs_abc.only (by decide) (by decide) hrec
  rcases hown.2 with ⟨_, h0⟩ | ⟨g, cap, cur, rfl, _, hg, h1, h2, _, h3⟩
  · cases h0
  · refine ⟨g, cap, rfl, ?_, hb⟩
    have h4 := hown.cellAt 0 (by decide)
    rw [h4]
    simp [str_abc]
set_option maxRecDepth 8000 in
set_option maxHeartbeats 1000000 in
theorem alive_any (w : World) : Calls Try.prog 5 #[] w fun e w' => e = .returned (.bool true) ∧ Below w.heap.size w w' := by
  go_enter Try.func5, Try.ntmps5
  go_wp2_with fail
  refine (cleared_any _).mono ?_
  rintro e w1 ⟨v1, rfl, hd1, hb1⟩
  obtain ⟨p, c, q, m, rfl, _⟩ := (hd1 _ (Below.refl _ _)).parts
  obtain ⟨D, hD⟩ : ∃ D, firstD.length = D := ⟨_, rfl⟩
  obtain ⟨z, hz⟩ : ∃ z, List.length (α := Int × List Nat) [] = z := ⟨_, rfl⟩
  rw [hD, hz] at hd1 ⊢
  have HD1 : Hid (∀ w2, Below w1.heap.size w1 w2 → DiskIn w2 (.agg #[.int .i64 100, .slice p D c, .slice q z m]) 100 firstD []) := hd1
  have HB1 : Hid (Below w.heap.size w w1) := hb1
  clear hd1 hb1 hD hz
  go_wp2_with fail
  refine (add_abc _ _ (HD1.out _ (below_alloc _ _))).mono ?_
  rintro e w2 ⟨lq, ln, lm, l, rfl, ha2, hm2, hb2⟩
  have HX2 : Hid (w2.heap[w1.heap.size]? = some (.cells #[.int .i64 100, .slice p D c, .slice q z m] 25 (0, 0))) := (hb2.block _ (by simp)).trans (heap_alloc_new w1 _)
  obtain ⟨c0, c1, c2, _⟩ := box3 HX2.out
  have hb12 : Below w1.heap.size w1 w2 := below_bt (below_alloc _ _) hb2
  have HA2 : Hid (AOwn w2 0 (.slice lq ln lm) l ∧ l.map Prod.fst = [(false, 17, abcF)]) := ⟨ha2, hm2⟩
  have HB2 : Hid (Below w1.heap.size w1 w2) := hb12
  clear ha2 hm2 hb2 hb12
  go_wp2_with fail
  refine (do_abc_any _ _ lq ln lm l (HD1.out _ HB2.out) HA2.out.1 HA2.out.2).mono ?_
  rintro e w3 ⟨v3, rfl, hf3, hb3⟩
  obtain ⟨p3, c3, q3, m3, rfl, _⟩ := hf3.self.parts
  obtain ⟨D3, hD3⟩ : ∃ D, firstD.length = D := ⟨_, rfl⟩
  obtain ⟨z3, hz3⟩ : ∃ z, List.length (α := Int × List Nat) [(17, abcF)] = z := ⟨_, rfl⟩
  rw [hD3, hz3] at hf3 ⊢
  have HF3 : Hid (DiskF w2.heap.size w3 (.agg #[.int .i64 100, .slice p3 D3 c3, .slice q3 z3 m3]) 100 firstD [(17, abcF)]) := hf3
  have HB3 : Hid (Below w.heap.size w w3) := below_bt (below_bt HB1.out HB2.out) hb3
  clear hf3 hb3 hD3 hz3 c0 c1 c2
  go_wp2_with fail
  refine (records_abc _ _ (HF3.out.below (below_alloc _ _))).mono ?_
  rintro e w4 ⟨g, cg, rfl, hcell, hb4⟩
  have HB4 : Hid (Below w.heap.size w w4) := below_bt (below_bt HB3.out (below_alloc _ _)) hb4
  clear hb4
  go_wp2
  go_ret
  exact ⟨rfl, HB4.out⟩
end Go.Proofs.Ytpbfoppaeeafhab
namespace Go.Proofs.Ytpbfoppaeeafhab
open Go.RowKit Go.WideShapes

theorem run_append_keep (w : World) (base : Nat) (ty : TypeId) (g cap : Nat) (xs ys : List Nat) (p : Option Addr) (c : Nat) (hown : w.ownsRow base 5 1 (.slice (some ⟨g, 0, none⟩) xs.length cap) xs.length (Bs xs)) (hxb : ∀ c ∈ xs, c < 256) (hin : BIn w p ys) (hp : p = none → c = 0)
    (hlen : xs.length + ys.length ≤ 140737488355328) (hbase : base ≤ w.heap.size) :
    ∃ v' w', (Builtin.append_ #[22, 22] ty #[.slice (some ⟨g, 0, none⟩) xs.length cap, .slice p ys.length c]).run Try.prog w = .ok v' w' ∧ w'.ownsRow base 5 1 v' (xs ++ ys).length (Bs (xs ++ ys)) ∧ w.grownBy w' (some g) ∧ BIn w' (some ⟨g, 0, none⟩) xs := by
  obtain ⟨i0, hi, hz0, hz1, hz2⟩ := info_parts info5
  have hbin : BIn w (some ⟨g, 0, none⟩) xs := own_in hown hxb
  cases p with
  | none =>
    obtain rfl : ys = [] := by
      cases ys with
      | nil => rfl
      | cons y ys => obtain ⟨b, o, e, _⟩ := hin.1 (by simp); cases e
    obtain rfl := hp rfl
    exact ⟨_, w, run_append_owned_none (P := Try.prog) w base 22 ty 5 i0 1 Try.underlying22 hi _ xs.length (Bs xs) hown, by simpa using hown, ⟨rfl, rfl, rfl, Nat.le_refl _, fun _ _ _ => rfl⟩, hbin⟩
  | some ad =>
    have hc : ∀ j u, (Bs ys)[j]? = some u → w.cell? (ad.add j) = some u := by
      intro j u hu
      have hpos : 0 < ys.length := by
        cases ys with
        | nil => simp [Bs] at hu
        | cons y ys => simp
      obtain ⟨b, o, e, _⟩ := hin.1 hpos
      simp at e
      subst e
      exact bin_cells hin j u hu
    obtain ⟨v', w', hr, h2, h3, _⟩ := run_append_own (P := Try.prog) w base 22 ty 5 i0 (.int .u8 0) 1 1 Try.underlying22 hi hz0 hz1 hz2 rfl (by decide) _ xs.length (Bs xs) hown ad ys.length c (Bs ys) (by simp [Bs]) hc (Bs_one ys) (by unfold maxLen; omega) (by omega) hbase
    refine ⟨v', w', hr, by simpa [Bs_app] using h2, h3, ?_⟩
    rcases hown.2 with ⟨h0, _⟩ | ⟨g', cap', cur, hv, hbg, hg, hnc, hcm, hcs, htake⟩
    · cases h0
    · simp only [Value.slice.injEq, Option.some.injEq, Addr.mk.injEq, and_true, true_and] at hv
      obtain ⟨rfl, rfl⟩ := hv
      by_cases hroom : xs.length + ys.length ≤ cap
      · have hr2 := run_append_room (P := Try.prog) w 22 ty 5 i0 Try.underlying22 hi g xs.length cap cur hg ad ys.length c (Bs ys) (by rw [hz1, Bs_len]; omega) hc (Bs_one ys) hroom (by rw [hz1, Bs_len, hcs]; omega)
        have e := hr.symm.trans hr2
        injection e with e1 e2
        subst e1
        have h4 : w'.ownsRow base 5 1 (.slice (some ⟨g, 0, none⟩) (xs.length + ys.length) cap) (xs ++ ys).length (Bs (xs ++ ys)) := by simpa [Bs_app] using h2
        have h5 := own_in h4 (fun c hc => by
          rcases List.mem_append.1 hc with h | h
          · exact hxb c h
          · exact hin.2 c h)
        have h6 := h5.take' xs.length
        rwa [List.take_left] at h6
      · have hr2 := run_append_grow (P := Try.prog) w 22 ty 5 i0 (.int .u8 0) Try.underlying22 hi hz0 ⟨g, 0, none⟩ xs.length cap (Bs xs) (by rw [hz1, Bs_len]; omega) (hown.cells (g := g) rfl) ad ys.length c (Bs ys) (by rw [hz1, Bs_len]; omega) hc (by omega) (by omega) (growslice_fits (by omega) (by rw [hz2]; omega))
        have e := hr.symm.trans hr2
        injection e with e1 e2
        subst e2
        exact bin_block hbin (heap_alloc_old w.drew _ (lt_heap hg))
theorem wpList_append_keep (w : World) {ops : Array Oper} {rest : List Oper} {o : Oper} {a : Act} {Q : Exit → Act → World → Prop} (hgd : o.guard = none) (s x : Operand)
    (ho : o.op = .call { callee := .builtin .append, args := #[s, x], argTypes := #[22, 22] }) (base : Nat) (g n cap : Nat) (xs ys : List Nat) (p : Option Addr) (m c : Nat) (hs : a.eval s = .slice (some ⟨g, 0, none⟩) n cap) (hx : a.eval x = .slice p m c) (hn : n = xs.length) (hm : m = ys.length)
    (hown : w.ownsRow base 5 1 (.slice (some ⟨g, 0, none⟩) n cap) xs.length (Bs xs)) (hxb : ∀ c ∈ xs, c < 256) (hin : BIn w p ys) (hp : p = none → c = 0) (hlen : xs.length + ys.length ≤ 140737488355328) (hbase : base ≤ w.heap.size)
    (h : ∀ v' w', w'.ownsRow base 5 1 v' (xs ++ ys).length (Bs (xs ++ ys)) → w.grownBy w' (some g) → BIn w' (some ⟨g, 0, none⟩) xs → wpList Try.prog ops Q rest (a.put o.dst v') w') : wpList Try.prog ops Q (o :: rest) a w := by
  subst hm hn
  refine wpList_plain hgd fun K hK => ?_
  obtain ⟨v', w', hr, h2, h3, h4⟩ := run_append_keep w base o.type g cap xs ys p c hown hxb hin hp hlen hbase
  unfold Oper.wp execOp
  simp only [ho, resolve, invoke, builtin, Sem.run_bind, Sem.run_pure, Result.andThen_ok, List.map_toArray, List.map_cons, List.map_nil, hs, hx, hr]
  exact hK _ _ (h v' w' h2 h3 h4)
end Go.Proofs.Ytpbfoppaeeafhab
namespace Go.Proofs.Ytpbfoppaeeafhab
open Go.RowKit Go.WideShapes

theorem rec_differs {e p e' p' s s' : Nat} {b r r' : List Nat} (he : e < 4294967296) (hp : p < 4294967296) (he' : e' < 4294967296) (hp' : p' < 4294967296) (h : IsRec e p b s r) (h' : IsRec e' p' b s' r') : e = e' ∧ p = p' := by
  obtain ⟨_, _, _, h4⟩ := rec_dec he hp h
  obtain ⟨_, _, _, h5⟩ := rec_dec he' hp' h'
  have a := h4 0 (needsN_pos _)
  have b := h5 0 (needsN_pos _)
  exact ⟨a.he.symm.trans b.he, a.hp.symm.trans b.hp⟩
theorem rec_frame {e s p : Nat} {r : List Nat} (rest : List Nat) (hs0 : s ≠ 0) (hs : s < 4294967296) (hl : r.length ≤ 4096) (hb : ∀ c ∈ r, c < 256) : IsRec e p (frameN e s p r ++ rest) s r :=
  ⟨hs0, hs, hl, hb, List.take_left' (frameN_len e s p r)⟩
theorem nums_byte (s : ByteArray) : ∀ c ∈ numsOf s, c < 256 := by
  intro c hc
  unfold numsOf at hc
  obtain ⟨u, _, rfl⟩ := List.mem_map.1 hc
  exact u.toNat_lt
theorem back_large (e s p : Nat) (r : ByteArray) (q : Option Addr) (m c : Nat) (w : World) (h : 10000 < r.size ∨ 10000 < m) :
    Calls Try.prog 4 #[.int .u32 e, .int .u32 s, .int .u32 p, .string r, .slice q m c] w fun x w' => x = .returned (.bool true) ∧ Below w.heap.size w w' := by
  by_cases h1 : 10000 < r.size
  · have g1 : decide ((10000 : Int) < (r.size : Int)) = true := decide_eq_true (by omega)
    clear h h1
    go_enter Try.func4, Try.ntmps4
    go_wp2_with (go_at_call 5; refine (alive_any _).mono ?_; rintro x w1 ⟨rfl, hb1⟩; have HB1 : Hid _ := hb1; clear hb1)
    go_ret
    exact ⟨rfl, HB1.out⟩
  · have g1 : decide ((10000 : Int) < (r.size : Int)) = false := decide_eq_false (by omega)
    have g2 : decide ((10000 : Int) < (m : Int)) = true := decide_eq_true (by omega)
    clear h h1
    go_enter Try.func4, Try.ntmps4
    go_wp2_with (go_at_call 5; refine (alive_any _).mono ?_; rintro x w1 ⟨rfl, hb1⟩; have HB1 : Hid _ := hb1; clear hb1)
    go_ret
    exact ⟨rfl, HB1.out⟩
theorem frame_err (e s p : Nat) (r : ByteArray) (w : World) (he : e < 4294967296) (hs : s < 4294967296) (hp : p < 4294967296) (hr : (r.size : Int) ≤ 10000) (E : Nat) (hE : frameR e s p (numsOf r) = ([], E)) :
    Calls Try.prog 12 #[.int .u32 e, .int .u32 s, .int .u32 p, .string r] w fun x w' => ∃ q c, x = .returned (.tuple #[.slice q 0 c, .int .i64 E]) ∧ Below w.heap.size w w' := by
  refine (Frame_any e s p r w he hs hp hr).mono ?_
  rintro x w' ⟨⟨v, rfl, ho⟩, hb⟩
  rw [hE] at ho ⊢
  obtain ⟨q, c, rfl, _⟩ := own_form ho
  exact ⟨q, c, rfl, hb⟩
set_option maxRecDepth 8000 in
set_option maxHeartbeats 2000000 in
theorem back_err (e s p : Nat) (r : ByteArray) (q : Option Addr) (m c : Nat) (w : World) (he : e < 4294967296) (hs : s < 4294967296) (hp : p < 4294967296) (hr : (r.size : Int) ≤ 10000) (hm : (m : Int) ≤ 10000) (E : Nat) (hE0 : E ≠ 0) (hE : frameR e s p (numsOf r) = ([], E)) (hE2 : E = 2 ↔ (e = 0 ∨ s = 0)) :
    Calls Try.prog 4 #[.int .u32 e, .int .u32 s, .int .u32 p, .string r, .slice q m c] w fun x w' => x = .returned (.bool true) ∧ Below w.heap.size w w' := by
  have HE : Hid (e < 4294967296 ∧ s < 4294967296 ∧ p < 4294967296 ∧ (r.size : Int) ≤ 10000 ∧ frameR e s p (numsOf r) = ([], E)) := ⟨he, hs, hp, hr, hE⟩
  have g1 : decide ((10000 : Int) < (r.size : Int)) = false := decide_eq_false (by omega)
  have g2 : decide ((10000 : Int) < (m : Int)) = false := decide_eq_false (by omega)
  have g3 : ((E : Int) != 0) = true := by simp; exact hE0
  by_cases h2 : E = 2
  · have g4 : ((E : Int) == 2) = true := by simp; omega
    by_cases h0 : e = 0
    · have g5 : ((e : Int) == 0) = true := by simp; omega
      clear he hs hp hr hm hE hE2 h2 h0 hE0
      go_enter Try.func4, Try.ntmps4
      go_wp2_with (first | (go_at_call 5; refine (alive_any _).mono ?_; rintro x w1 ⟨rfl, hb1⟩) | (go_at_call 12; refine (frame_err e s p r _ HE.out.1 HE.out.2.1 HE.out.2.2.1 HE.out.2.2.2.1 E HE.out.2.2.2.2).mono ?_; rintro x w2 ⟨fq, fc, rfl, hb2⟩))
      go_ret
      exact ⟨rfl, below_bt hb1 hb2⟩
    · have g5 : ((e : Int) == 0) = false := by simp; omega
      have g6 : ((s : Int) == 0) = true := by simp; omega
      clear he hs hp hr hm hE hE2 h2 h0 hE0
      go_enter Try.func4, Try.ntmps4
      go_wp2_with (first | (go_at_call 5; refine (alive_any _).mono ?_; rintro x w1 ⟨rfl, hb1⟩) | (go_at_call 12; refine (frame_err e s p r _ HE.out.1 HE.out.2.1 HE.out.2.2.1 HE.out.2.2.2.1 E HE.out.2.2.2.2).mono ?_; rintro x w2 ⟨fq, fc, rfl, hb2⟩))
      go_ret
      exact ⟨rfl, below_bt hb1 hb2⟩
  · have g4 : ((E : Int) == 2) = false := by simp; omega
    have g5 : ((e : Int) == 0) = false := by simp; omega
    have g6 : ((s : Int) == 0) = false := by simp; omega
    clear he hs hp hr hm hE hE2 h2 hE0
    go_enter Try.func4, Try.ntmps4
    go_wp2_with (first | (go_at_call 5; refine (alive_any _).mono ?_; rintro x w1 ⟨rfl, hb1⟩) | (go_at_call 12; refine (frame_err e s p r _ HE.out.1 HE.out.2.1 HE.out.2.2.1 HE.out.2.2.2.1 E HE.out.2.2.2.2).mono ?_; rintro x w2 ⟨fq, fc, rfl, hb2⟩))
    go_ret
    exact ⟨rfl, below_bt hb1 hb2⟩
theorem frame_fine (e s p : Nat) (r : ByteArray) (w : World) (he0 : e ≠ 0) (hs0 : s ≠ 0) (he : e < 4294967296) (hs : s < 4294967296) (hp : p < 4294967296) (hr : r.size ≤ 4096) (F : List Nat) (hF : frameN e s p (numsOf r) = F) :
    Calls Try.prog 12 #[.int .u32 e, .int .u32 s, .int .u32 p, .string r] w fun x w' => ∃ g c, x = .returned (.tuple #[.slice (some ⟨g, 0, none⟩) F.length c, .int .i64 0]) ∧ w'.ownsRow w.heap.size 5 1 (.slice (some ⟨g, 0, none⟩) F.length c) F.length (Bs F) ∧ F.length ≤ c ∧ c ≤ maxLen ∧ Below w.heap.size w w' := by
  have e1 : frameR e s p (numsOf r) = (F, 0) := by
    unfold frameR
    rw [if_neg (by rintro (h | h) <;> contradiction), if_neg (by rw [numsOf_len]; omega), hF]
  refine (Frame_any e s p r w he hs hp (by omega)).mono ?_
  rintro x w' ⟨⟨v, rfl, ho⟩, hb⟩
  rw [e1] at ho ⊢
  have hpos := needsN_pos r.size
  have hl : F.length = needsN r.size * 128 := by rw [← hF, frameN_len, numsOf_len]
  obtain ⟨g, c, A, rfl, _, h1, h2, _, _⟩ := own_row5 ho (by show 0 < F.length; omega) rfl (by rw [← hF]; exact frameN_byte (nums_byte r))
  exact ⟨g, c, rfl, ho, h1, h2, hb⟩
theorem open_r (e p m c : Nat) (q : Option Addr) (xs : List Nat) (w : World) (he : e < 4294967296) (hp : p < 4294967296) (hm : m = xs.length) (hmc : m ≤ c) (hcm : c ≤ maxLen) (hb : BIn w q xs) (hL : m ≤ 20000) (r0 : ByteArray) (r1 r2 : Nat) (hR : openR e p xs = (r0, r1, r2, 0)) :
    Calls Try.prog 13 #[.int .u32 e, .int .u32 p, .slice q m c] w fun x w' => x = .returned (.tuple #[.string r0, .int .u32 r1, .int .i64 r2, .int .i64 0]) ∧ Below w.heap.size w w' :=
  (Open_any e p m c q xs w he hp hm hmc hcm hb hL _ hR).mono (by rintro x w' ⟨rfl, hb⟩; exact ⟨rfl, hb⟩)
theorem own_g {w : World} {base n : Nat} {e : TypeId} {g c : Nat} {xs : List Value} (h : w.ownsRow base e 1 (.slice (some ⟨g, 0, none⟩) n c) n xs) : ∀ k, some g = some k → base ≤ k := fun k hk => (World.ownsRow.lt h k hk).1
set_option maxRecDepth 8000 in
set_option maxHeartbeats 2000000 in
theorem back_fine (e s p : Nat) (r : ByteArray) (q : Option Addr) (m c : Nat) (xs : List Nat) (w : World) (he0 : e ≠ 0) (hs0 : s ≠ 0) (he : e < 4294967296) (hs : s < 4294967296) (hp : p < 4294967296) (hr : r.size ≤ 4096) (hm : m = xs.length) (hmc : m ≤ c) (hcm : c ≤ maxLen) (hb : BIn w q xs) (hq : q = none → c = 0) (hL : m ≤ 10000) :
    Calls Try.prog 4 #[.int .u32 e, .int .u32 s, .int .u32 p, .string r, .slice q m c] w fun x w' => x = .returned (.bool true) ∧ Below w.heap.size w w' := by
  obtain ⟨F, hF⟩ : ∃ F, frameN e s p (numsOf r) = F := ⟨_, rfl⟩
  obtain ⟨n, hn⟩ : ∃ n, needsN r.size = n := ⟨_, rfl⟩
  have hn37 := needsN_le hr
  have hn1 := needsN_pos r.size
  rw [hn] at hn37 hn1
  have hFL : F.length = n * 128 := by rw [← hF, frameN_len, numsOf_len, hn]
  have hFB : ∀ c ∈ F, c < 256 := by rw [← hF]; exact frameN_byte (nums_byte r)
  have hrl : (numsOf r).length ≤ 4096 := by rw [numsOf_len]; exact hr
  have hrec : IsRec e p F s (numsOf r) := by
    have := rec_frame (e := e) (p := p) [] hs0 hs hrl (nums_byte r)
    rwa [List.append_nil, hF] at this
  obtain ⟨p1, hp1⟩ : ∃ p1, (p + 1) % 4294967296 = p1 := ⟨_, rfl⟩
  obtain ⟨e1, he1⟩ : ∃ e1, (e + 1) % 4294967296 = e1 := ⟨_, rfl⟩
  have HE : Hid (e ≠ 0 ∧ s ≠ 0 ∧ e < 4294967296 ∧ s < 4294967296 ∧ p < 4294967296 ∧ r.size ≤ 4096) := ⟨he0, hs0, he, hs, hp, hr⟩
  have HM : Hid (m = xs.length ∧ m ≤ c ∧ c ≤ maxLen ∧ m ≤ 10000 ∧ (q = none → c = 0)) := ⟨hm, hmc, hcm, hL, hq⟩
  have HB : Hid (BIn w q xs) := hb
  have HF : Hid (frameN e s p (numsOf r) = F) := hF
  have HFL : Hid (F.length = n * 128 ∧ n ≤ 37) := ⟨hFL, hn37⟩
  have HFB : Hid (∀ c ∈ F, c < 256) := hFB
  have HFX : Hid (∀ c ∈ F ++ xs, c < 256) := fun c hc => by
    rcases List.mem_append.1 hc with h | h
    · exact hFB c h
    · exact hb.2 c h
  have HO1 : Hid (∀ q3 m3 w', (F ++ xs).length ≤ m3 → m3 ≤ maxLen → BIn w' q3 (F ++ xs) → Calls Try.prog 13 #[.int .u32 e, .int .u32 p, .slice q3 (F ++ xs).length m3] w' fun x w'' => x = .returned (.tuple #[.string r, .int .u32 s, .int .i64 n, .int .i64 0]) ∧ Below w'.heap.size w' w'') := fun q3 m3 w' h1 h2 h3 =>
    open_r e p _ m3 q3 (F ++ xs) w' he hp rfl h1 h2 h3 (by rw [List.length_append]; omega) r s n (by
      have := rec_frame (e := e) (p := p) xs hs0 hs hrl (nums_byte r)
      rw [hF] at this
      rw [openR_yes he0 he hp this, strOf_nums, numsOf_len, hn])
  have HO2 : Hid (∀ g fc w', F.length ≤ fc → fc ≤ maxLen → BIn w' (some ⟨g, 0, none⟩) F → Calls Try.prog 13 #[.int .u32 e, .int .u32 p1, .slice (some ⟨g, 0, none⟩) F.length fc] w' fun x w'' => x = .returned (.tuple #[.string ByteArray.empty, .int .u32 0, .int .i64 0, .int .i64 0]) ∧ Below w'.heap.size w' w'') := fun g fc w' h1 h2 h3 =>
    open_r e p1 _ fc _ F w' he (by omega) rfl h1 h2 h3 (by omega) ByteArray.empty 0 0 (openR_no he0 (fun s' r' h' => by
      have := (rec_differs he hp he (by omega) hrec h').2
      omega))
  have HO3 : Hid (e1 ≠ 0 → ∀ g fc w', F.length ≤ fc → fc ≤ maxLen → BIn w' (some ⟨g, 0, none⟩) F → Calls Try.prog 13 #[.int .u32 e1, .int .u32 p, .slice (some ⟨g, 0, none⟩) F.length fc] w' fun x w'' => x = .returned (.tuple #[.string ByteArray.empty, .int .u32 0, .int .i64 0, .int .i64 0]) ∧ Below w'.heap.size w' w'') := fun h1' g fc w' h1 h2 h3 =>
    open_r e1 p _ fc _ F w' (by omega) hp rfl h1 h2 h3 (by omega) ByteArray.empty 0 0 (openR_no h1' (fun s' r' h' => by
      have := (rec_differs he hp (by omega) hp hrec h').1
      omega))
  have g1 : decide ((10000 : Int) < (r.size : Int)) = false := decide_eq_false (by omega)
  have g2 : decide ((10000 : Int) < (m : Int)) = false := decide_eq_false (by omega)
  have k1 : IntKind.u32.wrap ((p : Int) + 1) = p1 := by rw [IntKind.wrap_u32']; omega
  have k2 : IntKind.u32.wrap ((e : Int) + 1) = e1 := by rw [IntKind.wrap_u32']; omega
  have k3 : IntKind.i64.wrap ((n : Int) * 128) = (n : Int) * 128 := by rw [IntKind.wrap_i64]; omega
  have g7 : ((n : Int) * 128 == (F.length : Int)) = true := by simp only [beq_iff_eq]; omega
  clear he0 hs0 he hs hp hr hm hmc hcm hb hq hL hF hn hn37 hn1 hFL hFB hrl hrec hp1 he1
  go_enter Try.func4, Try.ntmps4
  go_wp2_with fail
  refine (alive_any _).mono ?_
  rintro x w1 ⟨rfl, hb1⟩
  have HB1 : Hid (Below w.heap.size w w1) := hb1
  clear hb1
  go_wp2_with fail
  refine (frame_fine e s p r _ HE.out.1 HE.out.2.1 HE.out.2.2.1 HE.out.2.2.2.1 HE.out.2.2.2.2.1 HE.out.2.2.2.2.2 F HF.out).mono ?_
  rintro x w2 ⟨g, fc, rfl, ho2, hc1, hc2, hb2⟩
  have HW2 : Hid (w2.ownsRow w1.heap.size 5 1 (.slice (some ⟨g, 0, none⟩) F.length fc) F.length (Bs F) ∧ F.length ≤ fc ∧ fc ≤ maxLen ∧ Below w1.heap.size w1 w2) := ⟨ho2, hc1, hc2, hb2⟩
  have HI2 : Hid (BIn w2 q xs) := (HB.out.below HB1.out).below hb2
  clear ho2 hc1 hc2 hb2
  go_wp2_with (at_builtin; go_loud (refine wpList_append_keep _ rfl _ _ rfl w1.heap.size g F.length fc F xs q m c rfl rfl rfl HM.out.1 HW2.out.1 HFB.out HI2.out HM.out.2.2.2.2 (by have := HFL.out; have := HM.out; omega) HW2.out.2.2.2.size ?_); intro v3 w3 ho3 hg3 hk3)
  have HB3 : Hid (Below w1.heap.size w1 w3) := HW2.out.2.2.2.grown hg3 HW2.out.2.2.2.size (own_g HW2.out.1)
  have HK3 : Hid (BIn w3 (some ⟨g, 0, none⟩) F) := hk3
  obtain ⟨q3, m3, hv3, hl3, hm3, _⟩ := own_form ho3
  subst hv3
  have HI3 : Hid (BIn w3 q3 (F ++ xs) ∧ (F ++ xs).length ≤ m3 ∧ m3 ≤ maxLen) := ⟨own_in ho3 HFX.out, hl3, hm3⟩
  clear ho3 hg3 hk3 hl3 hm3
  go_wp2_with fail
  refine (HO1.out q3 m3 _ HI3.out.2.1 HI3.out.2.2 HI3.out.1).mono ?_
  rintro x w4 ⟨rfl, hb4⟩
  have HB4 : Hid (Below w3.heap.size w3 w4) := hb4
  clear hb4
  go_wp2_with fail
  refine (HO2.out g fc _ HW2.out.2.1 HW2.out.2.2.1 (HK3.out.below HB4.out)).mono ?_
  rintro x w5 ⟨rfl, hb5⟩
  have HB5 : Hid (Below w3.heap.size w3 w5) := below_bt HB4.out hb5
  clear hb5
  by_cases h1 : e1 = 0
  · have g8 : ((e1 : Int) != 0) = false := by simp; omega
    clear h1
    go_wp2
    go_ret
    exact ⟨rfl, below_bt (below_bt HB1.out HB3.out) HB5.out⟩
  · have g8 : ((e1 : Int) != 0) = true := by simp; omega
    have H1 : Hid (e1 ≠ 0) := h1
    clear h1
    go_wp2_with fail
    refine (HO3.out H1.out g fc _ HW2.out.2.1 HW2.out.2.2.1 (HK3.out.below HB5.out)).mono ?_
    rintro x w6 ⟨rfl, hb6⟩
    go_wp2
    go_ret
    exact ⟨rfl, below_bt (below_bt (below_bt HB1.out HB3.out) HB5.out) hb6⟩
theorem law_back (e s p : Nat) (r : ByteArray) (q : Option Addr) (m c : Nat) (xs : List Nat) (w : World) (he : e < 4294967296) (hs : s < 4294967296) (hp : p < 4294967296) (hm : m = xs.length) (hmc : m ≤ c) (hcm : c ≤ maxLen) (hb : BIn w q xs) (hq : q = none → c = 0) :
    Calls Try.prog 4 #[.int .u32 e, .int .u32 s, .int .u32 p, .string r, .slice q m c] w fun x w' => x = .returned (.bool true) ∧ Below w.heap.size w w' := by
  by_cases hl : 10000 < r.size ∨ 10000 < m
  · exact back_large e s p r q m c w hl
  · by_cases h0 : e = 0 ∨ s = 0
    · exact back_err e s p r q m c w he hs hp (by omega) (by omega) 2 (by decide) (by unfold frameR; rw [if_pos h0]) (by simp [h0])
    · by_cases h4 : 4096 < r.size
      · exact back_err e s p r q m c w he hs hp (by omega) (by omega) 3 (by decide) (by unfold frameR; rw [if_neg h0, if_pos (by rw [numsOf_len]; exact h4)]) (by simp [h0])
      · exact back_fine e s p r q m c xs w (by omega) (by omega) he hs hp (by omega) hm hmc hcm hb hq (by omega)
end Go.Proofs.Ytpbfoppaeeafhab
