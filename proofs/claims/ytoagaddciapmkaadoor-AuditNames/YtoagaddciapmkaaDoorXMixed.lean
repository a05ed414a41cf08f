/-
  A block mixed in: the program's.
-/
import Derived.Test.YtoagaddciapmkaaDoorXSched
namespace Go.Proofs.YtoagaddciapmkaaDoor
open Go.RowKit Go.WideShapes

/-- The constants lie there. -/
def KOn (w : World) : Prop := ∀ i, i < 64 → w.cell? ⟨0, i, none⟩ = some (.int .u32 ((stepsK.getD i 0 : Nat) : Int))
theorem cell_block {w w' : World} {g : Nat} (h : w'.heap[g]? = w.heap[g]?) (i : Nat) : w'.cell? ⟨g, i, none⟩ = w.cell? ⟨g, i, none⟩ := by
  simp [World.cell?, h]
theorem KOn.below {B : Nat} {w w' : World} (h : KOn w) (hb : Below B w w') (hB : 0 < B) : KOn w' := fun i hi => by
  rw [cell_block (hb.block 0 hB)]; exact h i hi
theorem KOn.pos {w : World} (h : KOn w) : 0 < w.heap.size := block_lt_of_cell (h 0 (by decide))
def S1 (e : Nat) : Nat := turnR e 6 ^^^ turnR e 11 ^^^ turnR e 25
def S0 (a : Nat) : Nat := turnR a 2 ^^^ turnR a 13 ^^^ turnR a 22
def chN (e f g : Nat) : Nat := (e &&& f) ^^^ ((4294967295 - e) &&& g)
def majN (a b c : Nat) : Nat := (a &&& b) ^^^ (a &&& c) ^^^ (b &&& c)
theorem S1_bits {e : Nat} (h : e < 4294967296) : bits BinOp.xor IntKind.u32 (bits BinOp.xor IntKind.u32 ((turnR e 6 : Nat) : Int) ((turnR e 11 : Nat) : Int)) ((turnR e 25 : Nat) : Int) = ((S1 e : Nat) : Int) := x3_bits (turnR_lt _ _ h) (turnR_lt _ _ h) (turnR_lt _ _ h)
theorem S0_bits {e : Nat} (h : e < 4294967296) : bits BinOp.xor IntKind.u32 (bits BinOp.xor IntKind.u32 ((turnR e 2 : Nat) : Int) ((turnR e 13 : Nat) : Int)) ((turnR e 22 : Nat) : Int) = ((S0 e : Nat) : Int) := x3_bits (turnR_lt _ _ h) (turnR_lt _ _ h) (turnR_lt _ _ h)
theorem S1_lt {e : Nat} (h : e < 4294967296) : S1 e < 4294967296 := x3_lt (turnR_lt _ _ h) (turnR_lt _ _ h) (turnR_lt _ _ h)
theorem S0_lt {e : Nat} (h : e < 4294967296) : S0 e < 4294967296 := x3_lt (turnR_lt _ _ h) (turnR_lt _ _ h) (turnR_lt _ _ h)
theorem and_lt {a : Nat} (b : Nat) (ha : a < 4294967296) : a &&& b < 4294967296 := Nat.lt_of_le_of_lt Nat.and_le_left ha
theorem maj_bits {a b c : Nat} (ha : a < 4294967296) (hb : b < 4294967296) (hc : c < 4294967296) : bits BinOp.xor IntKind.u32 (bits BinOp.xor IntKind.u32 (bits BinOp.and IntKind.u32 (a : Int) (b : Int)) (bits BinOp.and IntKind.u32 (a : Int) (c : Int))) (bits BinOp.and IntKind.u32 (b : Int) (c : Int)) = ((majN a b c : Nat) : Int) := by
  rw [u32_and_nat a b ha hb, u32_and_nat a c ha hc, u32_and_nat b c hb hc]
  exact x3_bits (and_lt b ha) (and_lt c ha) (and_lt c hb)
theorem maj_lt {a b c : Nat} (ha : a < 4294967296) (hb : b < 4294967296) : majN a b c < 4294967296 := x3_lt (and_lt b ha) (and_lt c ha) (and_lt c hb)
theorem ch_lt {e f g : Nat} (he : e < 4294967296) : chN e f g < 4294967296 := Nat.xor_lt_two_pow (n := 32) (and_lt f he) (and_lt g (by omega))
theorem ch_bits {e f g : Nat} (he : e < 4294967296) (hf : f < 4294967296) (hg : g < 4294967296) : bits BinOp.xor IntKind.u32 (bits BinOp.and IntKind.u32 (e : Int) (f : Int)) (bits BinOp.and IntKind.u32 ((4294967295 - e : Nat) : Int) (g : Int)) = ((chN e f g : Nat) : Int) := by
  rw [u32_and_nat e f he hf, u32_and_nat _ g (by omega) hg]
  exact u32_xor_nat _ _ (and_lt f he) (and_lt g (by omega))
theorem not_bits {e : Nat} (he : e < 4294967296) : bits BinOp.xor IntKind.u32 (if IntKind.u32.signed = true then -1 else IntKind.u32.max) (e : Int) = ((4294967295 - e : Nat) : Int) := by
  have h1 : (if IntKind.u32.signed = true then -1 else IntKind.u32.max) = ((4294967295 : Nat) : Int) := by decide
  rw [h1, u32_xor_nat 4294967295 e (by decide) he]
  congr 1
  apply Nat.eq_of_testBit_eq
  intro i
  rw [Nat.testBit_xor, show 4294967295 - e = 2 ^ 32 - (e + 1) by omega, Nat.testBit_two_pow_sub_succ (by omega), show (4294967295 : Nat) = 2 ^ 32 - 1 from rfl, Nat.testBit_two_pow_sub_one]
  by_cases hi : i < 32
  · simp [hi]
  · have : e.testBit i = false := Nat.testBit_lt_two_pow (Nat.lt_of_lt_of_le he (Nat.pow_le_pow_right (by decide) (by omega) : 2 ^ 32 ≤ 2 ^ i))
    simp [hi, this]
/-- Behind k rounds. -/
def stN (h T : List Nat) : Nat → W8
  | 0 => of8 h
  | k + 1 => step8 (stN h T k) (stepsK.getD k 0) (T.getD k 0)
theorem stepsN_take (x : W8) : ∀ (l : List (Nat × Nat)) (p : Nat × Nat), stepsN x (l ++ [p]) = step8 (stepsN x l) p.1 p.2
  | [], p => rfl
  | q :: l, p => by rw [List.cons_append]; exact stepsN_take (step8 x q.1 q.2) l p
theorem stN_is (h T : List Nat) (hT : T.length = 64) : ∀ k, k ≤ 64 → stepsN (of8 h) ((stepsK.zip T).take k) = stN h T k
  | 0, _ => rfl
  | k + 1, hk => by
    have h1 : k < (stepsK.zip T).length := by rw [List.length_zip, hT]; show k < min 64 64; omega
    have h2 : k < stepsK.length := by show k < 64; omega
    have h3 : k < T.length := by omega
    rw [List.take_add_one, List.getElem?_eq_getElem h1, Option.toList_some, stepsN_take, stN_is h T hT k (by omega), List.getElem_zip]
    simp only [stN, List.getD, List.getElem?_eq_getElem h2, List.getElem?_eq_getElem h3, Option.getD_some]
theorem stN_all (h T : List Nat) (hT : T.length = 64) : stepsN (of8 h) (stepsK.zip T) = stN h T 64 := by
  rw [← stN_is h T hT 64 (by omega), List.take_of_length_le (by rw [List.length_zip, hT]; exact Nat.min_le_right _ _)]
structure Word8 (x : W8) : Prop where
  a : x.a < 4294967296
  b : x.b < 4294967296
  c : x.c < 4294967296
  d : x.d < 4294967296
  e : x.e < 4294967296
  f : x.f < 4294967296
  g : x.g < 4294967296
  h : x.h < 4294967296
theorem step8_word {x : W8} (h : Word8 x) (k w : Nat) : Word8 (step8 x k w) :=
  ⟨Nat.mod_lt _ (by decide), h.a, h.b, h.c, Nat.mod_lt _ (by decide), h.e, h.f, h.g⟩
theorem stN_word (h T : List Nat) (hw : ∀ x ∈ h, x < 4294967296) : ∀ k, Word8 (stN h T k)
  | 0 => ⟨getD_lt' hw 0, getD_lt' hw 1, getD_lt' hw 2, getD_lt' hw 3, getD_lt' hw 4, getD_lt' hw 5, getD_lt' hw 6, getD_lt' hw 7⟩
  | k + 1 => step8_word (stN_word h T hw k) _ _
theorem step8_is (x : W8) (k w : Nat) : step8 x k w = ⟨((x.h + S1 x.e + chN x.e x.f x.g + k + w) % 4294967296 + (S0 x.a + majN x.a x.b x.c) % 4294967296) % 4294967296, x.a, x.b, x.c, (x.d + (x.h + S1 x.e + chN x.e x.f x.g + k + w) % 4294967296) % 4294967296, x.e, x.f, x.g⟩ := rfl
theorem stepsK_lt (i : Nat) : stepsK.getD i 0 < 4294967296 := getD_lt' (l := stepsK) (by decide) i
/-- One row as far as k, another one behind it. -/
theorem mix_set : ∀ (R X : List Nat) (k : Nat), R.length = X.length → k < X.length → (R.take k ++ X.drop k).set k (R.getD k 0) = R.take (k + 1) ++ X.drop (k + 1)
  | [], X, k, e, h => by simp at e; omega
  | r :: R, [], k, e, h => by simp at h
  | r :: R, x :: X, 0, _, _ => by simp [List.getD]
  | r :: R, x :: X, k + 1, e, h => by
    have ih := mix_set R X k (by simpa using e) (by simpa using h)
    simp only [List.take_succ_cons, List.drop_succ_cons, List.cons_append, List.set_cons_succ, List.getD_cons_succ]
    rw [ih]
theorem mix_at {R X : List Nat} {k : Nat} (e : R.length = X.length) (h : k < X.length) : (R.take k ++ X.drop k).getD k 0 = X.getD k 0 := by
  unfold List.getD
  rw [List.getElem?_append_right (by rw [List.length_take]; omega), List.length_take, Nat.min_eq_left (by omega), Nat.sub_self, List.getElem?_drop]
  simp

set_option maxHeartbeats 2000000 in
set_option maxRecDepth 100000 in
theorem mixed_any (h b : List Nat) (w : World) (hk : KOn w) (hh : h.length = 8) (hw : ∀ x ∈ h, x < 4294967296) (hl : b.length = 64) (hb : ∀ x ∈ b, x < 256) :
    Calls Tryd.prog 75 #[.agg (Ws h).toArray, .agg (Bs b).toArray] w fun e w' => e = .returned (.agg (Ws (roundN h b)).toArray) ∧ Below w.heap.size w w' := by
  have HC : ∀ w', Calls Tryd.prog 84 #[.agg (Bs b).toArray] w' fun e w'' => e = .returned (.agg (Ws (wordsK b 64)).toArray) ∧ Below w'.heap.size w' w'' := fun w' => schedule_any b w' hl hb
  have hT := wordsK_len b 64
  have hTb := wordsK_lt b hb 64
  have hR : roundN h b = (h.zip (to8 (stN h (wordsK b 64) 64))).map fun p => (p.1 + p.2) % 4294967296 := by
    unfold roundN; rw [stN_all h _ hT]; rfl
  generalize wordsK b 64 = T at HC hT hTb hR
  have hst := stN_word h T hw
  have hstep : ∀ k, stN h T (k + 1) = step8 (stN h T k) (stepsK.getD k 0) (T.getD k 0) := fun _ => rfl
  have hst0 : stN h T 0 = of8 h := rfl
  generalize hfs : stN h T = st at hR hst hstep hst0
  generalize hrn : roundN h b = R at hR ⊢
  clear hfs hrn
  go_enter Tryd.func75, Tryd.ntmps75
  go_upto_region 1 with fail
  go_step
  refine wpList_load_row rfl 66 (.tmp 3) rfl (w.heap.size + 1) (by rfl) 66 (Bs b).toArray (0, 0) _ (al3_1 _ _ _ _) Tryd.underlying66 rfl (by rw [size_block]; simp [Bs, hl]) ?_
  have B3 := below_al3 w (Obj.cells (Ws h).toArray 89) (Obj.cells (Bs b).toArray 66) (Obj.cells (Ws (List.replicate 8 0)).toArray 89)
  have R0 := al3_0 w (Obj.cells (Ws h).toArray 89) (Obj.cells (Bs b).toArray 66) (Obj.cells (Ws (List.replicate 8 0)).toArray 89)
  have R2 := al3_2 w (Obj.cells (Ws h).toArray 89) (Obj.cells (Bs b).toArray 66) (Obj.cells (Ws (List.replicate 8 0)).toArray 89)
  have hsz : (((w.alloc (Obj.cells (Ws h).toArray 89)).alloc (Obj.cells (Bs b).toArray 66)).alloc (Obj.cells (Ws (List.replicate 8 0)).toArray 89)).heap.size = w.heap.size + 3 := by simp
  change wpList _ _ _ _ _ (((w.alloc (Obj.cells (Ws h).toArray 89)).alloc (Obj.cells (Bs b).toArray 66)).alloc (Obj.cells (Ws (List.replicate 8 0)).toArray 89))
  generalize ((w.alloc (Obj.cells (Ws h).toArray 89)).alloc (Obj.cells (Bs b).toArray 66)).alloc (Obj.cells (Ws (List.replicate 8 0)).toArray 89) = W at B3 R0 R2 hsz ⊢
  go_wp2_with fail
  refine (HC _).mono ?_
  rintro e w1 ⟨rfl, hb1⟩
  simp only []
  go_step
  go_step
  go_step
  go_step
  have hTz : (Ws T).toArray.size = 64 := by simp [Ws, hT]
  refine wpList_store_row rfl 116 (.tmp 5) (.tmp 22) rfl w1.heap.size (Ws T).toArray (by rfl) (by rfl) 116 _ (_root_.Go.heap_alloc_new _ _) (by rw [size_sched, hTz]) (by rw [hTz]; rfl) (one_cell_ws _) ?_
  rw [World.setRow_alloc_new]
  have hs1 := hb1.size
  have BW : Below w.heap.size w (w1.alloc (Obj.cells (Ws T).toArray 116)) := (B3.trans ⟨hb1.os, hb1.tape, hb1.output, hb1.size, fun k hk => hb1.block k (by omega)⟩).alloc (by omega) _
  have N0 : (w1.alloc (Obj.cells (Ws T).toArray 116)).heap[w.heap.size]? = some (.cells (Ws h).toArray 89 (0, 0)) := by
    rw [_root_.Go.heap_alloc_old _ _ (by omega), hb1.block _ (by omega)]; exact R0
  have N2 : (w1.alloc (Obj.cells (Ws T).toArray 116)).heap[w.heap.size + 1 + 1]? = some (.cells (Ws (List.replicate 8 0)).toArray 89 (0, 0)) := by
    rw [_root_.Go.heap_alloc_old _ _ (by omega), hb1.block _ (by omega)]; exact R2
  have NS : (w1.alloc (Obj.cells (Ws T).toArray 116)).heap[w1.heap.size]? = some (.cells (Ws T).toArray 116 (0, 0)) := _root_.Go.heap_alloc_new _ _
  have NK := hk.below BW hk.pos
  have hSg : w.heap.size + 2 < w1.heap.size := by omega
  generalize w1.heap.size = sg at NS hSg ⊢
  generalize w1.alloc (Obj.cells (Ws T).toArray 116) = W1 at BW N0 N2 NS NK ⊢
  clear hb1 hs1 B3 R0 R2 hsz HC
  obtain ⟨x0, hx0⟩ : ∃ x, of8 h = x := ⟨_, rfl⟩
  rw [hx0] at hst0
  have f0 : W1.cell? ⟨w.heap.size, 0, none⟩ = some (.int .u32 (x0.a : Int)) := by rw [← hx0]; exact cell_ws N0 (by omega)
  have f1 : W1.cell? ⟨w.heap.size, 1, none⟩ = some (.int .u32 (x0.b : Int)) := by rw [← hx0]; exact cell_ws N0 (by omega)
  have f2 : W1.cell? ⟨w.heap.size, 2, none⟩ = some (.int .u32 (x0.c : Int)) := by rw [← hx0]; exact cell_ws N0 (by omega)
  have f3 : W1.cell? ⟨w.heap.size, 3, none⟩ = some (.int .u32 (x0.d : Int)) := by rw [← hx0]; exact cell_ws N0 (by omega)
  have f4 : W1.cell? ⟨w.heap.size, 4, none⟩ = some (.int .u32 (x0.e : Int)) := by rw [← hx0]; exact cell_ws N0 (by omega)
  have f5 : W1.cell? ⟨w.heap.size, 5, none⟩ = some (.int .u32 (x0.f : Int)) := by rw [← hx0]; exact cell_ws N0 (by omega)
  have f6 : W1.cell? ⟨w.heap.size, 6, none⟩ = some (.int .u32 (x0.g : Int)) := by rw [← hx0]; exact cell_ws N0 (by omega)
  have f7 : W1.cell? ⟨w.heap.size, 7, none⟩ = some (.int .u32 (x0.h : Int)) := by rw [← hx0]; exact cell_ws N0 (by omega)
  go_upto_region 2 with fail
  go_quiet (fail)
  clear f0 f1 f2 f3 f4 f5 f6 f7 hx0
  go_wp2
  go_loopw [6, 7, 8, 9, 10, 11, 12, 13, 39] (fun sa sb sc sd se sf sg' sh t wr => ∃ (k : Nat) (x : W8), k ≤ 64 ∧ t = .int .i64 (k : Int) ∧ x = st k ∧ sa = .int .u32 (x.a : Int) ∧ sb = .int .u32 (x.b : Int) ∧ sc = .int .u32 (x.c : Int) ∧ sd = .int .u32 (x.d : Int) ∧ se = .int .u32 (x.e : Int) ∧ sf = .int .u32 (x.f : Int) ∧ sg' = .int .u32 (x.g : Int) ∧ sh = .int .u32 (x.h : Int) ∧ wr.heap[w.heap.size]? = some (.cells (Ws h).toArray 89 (0, 0)) ∧ wr.heap[w.heap.size + 1 + 1]? = some (.cells (Ws (List.replicate 8 0)).toArray 89 (0, 0)) ∧ wr.heap[sg]? = some (.cells (Ws T).toArray 116 (0, 0)) ∧ KOn wr ∧ Below w.heap.size w wr)
    (fun _ _ _ _ _ _ _ _ t _ => 64 - (intOf t).toNat)
  case atStart => exact ⟨0, x0, by omega, rfl, hst0.symm, rfl, rfl, rfl, rfl, rfl, rfl, rfl, rfl, N0, N2, NS, NK, below_drewN BW _⟩
  case round =>
    clear N0 N2 NS NK BW
    obtain ⟨k, x, hk64, rfl, hx, rfl, rfl, rfl, rfl, rfl, rfl, rfl, rfl, N0, N2, NS, NK, BW⟩ := hrel
    by_cases hlt : k < 64
    · have hxw := hst k
      rw [← hx] at hxw
      have ck := NK k hlt
      have ct := cell_ws NS (show k < T.length by omega)
      have hkl := stepsK_lt k
      have htl := getD_lt' hTb k
      have HX : Hid _ := hstep k
      rw [← hx, step8_is] at HX
      generalize stepsK.getD k 0 = kk at ck hkl HX
      generalize T.getD k 0 = tt at ct htl HX
      obtain ⟨a, b', c, d, e, f, g, hh'⟩ := x
      obtain ⟨wa, wb, wc, wd, we, wf, wg, wh⟩ := hxw
      simp only [] at wa wb wc wd we wf wg wh HX
      have hkI : (k : Int) < 64 := by omega
      have q1 := S1_bits we
      have q0 := S0_bits wa
      have qm := maj_bits wa wb wc
      have qc := ch_bits we wf wg
      have l1 := S1_lt we
      have l0 := S0_lt wa
      have lm := maj_lt (c := c) wa wb
      have lc := ch_lt (f := f) (g := g) we
      have HN0 : Hid _ := N0
      have HN2 : Hid _ := N2
      have HNS : Hid _ := NS
      clear N0 N2 NS
      go_upto_region 8 with (go_at_call 85; refine (turned_any _ _ _ (by assumption) (by decide) (by decide)).mono ?_; rintro e w1 ⟨rfl, rfl⟩)
      go_quiet (fail)
      go_wp2
      rw [not_bits we, qc]
      refine ⟨⟨k + 1, _, by omega, rfl, HX.out.symm, by refine congrArg _ ?_; simp only []; omega, rfl, rfl, rfl, by refine congrArg _ ?_; simp only []; omega, rfl, rfl, rfl, HN0.out, HN2.out, HNS.out, NK, below_drewN BW _⟩, by simp [intOf]; omega⟩
    · obtain rfl : k = 64 := by omega
      rw [show ((64 : Nat) : Int) = 64 from rfl]
      have hxw := hst 64
      rw [← hx] at hR hxw
      clear hst hstep hst0 hx NS
      obtain ⟨a, b', c, d, e, f, g, hh'⟩ := x
      obtain ⟨wa, wb, wc, wd, we, wf, wg, wh⟩ := hxw
      simp only [] at wa wb wc wd we wf wg wh
      obtain ⟨X, hX⟩ : ∃ X, X = [a, b', c, d, e, f, g, hh'] := ⟨_, rfl⟩
      have hXl : X.length = 8 := by rw [hX]; rfl
      have hXw : ∀ x ∈ X, x < 4294967296 := by
        rw [hX]; intro x hx'
        simp only [List.mem_cons, List.not_mem_nil, or_false] at hx'
        rcases hx' with rfl | rfl | rfl | rfl | rfl | rfl | rfl | rfl <;> assumption
      have hRl : R.length = X.length := by rw [hR, hXl, List.length_map, List.length_zip, hh]; rfl
      have hRat : ∀ k, k < 8 → R.getD k 0 = (X.getD k 0 + h.getD k 0) % 4294967296 := by
        intro k hk'
        rw [hR, show to8 ⟨a, b', c, d, e, f, g, hh'⟩ = X from hX.symm]
        unfold List.getD
        rw [List.getElem?_map, List.getElem?_eq_getElem (show k < (h.zip X).length by rw [List.length_zip, hh, hXl]; omega), List.getElem_zip, List.getElem?_eq_getElem (show k < X.length by omega), List.getElem?_eq_getElem (show k < h.length by omega)]
        simp [Nat.add_comm]
      have hXa : (Ws X).toArray = #[Value.int IntKind.u32 (a : Int), Value.int IntKind.u32 (b' : Int), Value.int IntKind.u32 (c : Int), Value.int IntKind.u32 (d : Int), Value.int IntKind.u32 (e : Int), Value.int IntKind.u32 (f : Int), Value.int IntKind.u32 (g : Int), Value.int IntKind.u32 (hh' : Int)] := by rw [hX]; rfl
      clear hR hX
      have HXa : Hid _ := hXa
      clear hXa
      have hwn : w.heap.size + 2 < wr.heap.size := by
        have := (Array.getElem?_eq_some_iff.1 N2).1
        omega
      go_wp2
      go_loopw [113] (fun t w2 => ∃ k : Nat, k ≤ 8 ∧ t = .int .i64 (k : Int) ∧ w2.heap[w.heap.size]? = some (.cells (Ws h).toArray 89 (0, 0)) ∧ w2.heap[w.heap.size + 1 + 1]? = some (.cells (Ws (List.replicate 8 0)).toArray 89 (0, 0)) ∧ w2.heap[wr.heap.size]? = some (.cells (Ws (R.take k ++ X.drop k)).toArray 89 (0, 0)) ∧ Below w.heap.size w w2)
        (fun t _ => 8 - (intOf t).toNat)
      case atStart =>
        refine ⟨0, by omega, rfl, ?_, ?_, ?_, BW.alloc (by omega) _⟩
        · rw [_root_.Go.heap_alloc_old _ _ (by omega)]; exact N0
        · rw [_root_.Go.heap_alloc_old _ _ (by omega)]; exact N2
        · rw [_root_.Go.heap_alloc_new, ← HXa.out]; rfl
      case round =>
        clear N0 N2 NK BW
        rename World => w2
        obtain ⟨k, hk8, rfl, N0, N2, NQ, BW⟩ := hrel
        by_cases hlt : k < 8
        · have hlen : (R.take k ++ X.drop k).length = 8 := by rw [List.length_append, List.length_take, List.length_drop]; omega
          have c1 := cell_ws NQ (show k < _ by rw [hlen]; exact hlt)
          rw [mix_at hRl (by omega)] at c1
          have c2 := cell_ws N0 (show k < h.length by omega)
          have hfz : w2.frozen? ⟨wr.heap.size, k, none⟩ = false := frozen_of_row w2 _ _ _ _ NQ
          have HQ : Hid _ := NQ
          have HR : Hid _ := hRat k hlt
          have HS : Hid _ := mix_set R X k hRl (by omega)
          have hx1 := getD_lt' hXw k
          have hx2 := getD_lt' hw k
          have hkI : (k : Int) < 8 := by omega
          have HN0 : Hid _ := N0
          have HN2 : Hid _ := N2
          generalize X.getD k 0 = x1 at c1 hx1 HR
          generalize h.getD k 0 = x2 at c2 hx2 HR
          clear NQ hRat N0 N2 hlen
          go_upto_region 16 with fail
          go_region
          go_wp2
          go_roundw
          case rel =>
            rw [show (((x1 : Int) + (x2 : Int)) % 4294967296) = ((R.getD k 0 : Nat) : Int) from by rw [HR.out]; omega]
            refine ⟨k + 1, by omega, rfl, ?_, ?_, ?_, ?_⟩
            · exact (heap_setCell_other _ _ _ _ (by simp; omega)).trans HN0.out
            · exact (heap_setCell_other _ _ _ _ (by simp; omega)).trans HN2.out
            · refine (heap_setCell_same _ _ _ _ _ _ HQ.out).trans ?_
              rw [Ws_set, HS.out]
            · first
                | exact BW.setCell (by simp; omega) _
                | exact (below_drewN BW _).setCell (by simp; omega) _
                | exact BW.drew.setCell (by simp; omega) _
          case measure => simp [intOf]; omega
        · obtain rfl : k = 8 := by omega
          rw [List.take_of_length_le (by omega), List.drop_of_length_le (by omega), List.append_nil] at NQ
          have hRs : (Tryd.prog.info? 89).map (·.size) = some (Ws R).toArray.size := by rw [size_words]; simp [Ws, hRl, hXl]
          have HS := setRow_heap w2 _ _ (Ws R).toArray 89 (0, 0) N2
          go_upto_region 18 with fail
          go_step
          refine wpList_load_row rfl 89 (.tmp 19) rfl _ (by rfl) 89 _ _ _ NQ Tryd.underlying89 rfl hRs ?_
          refine wpList_store_row rfl 89 (.tmp 4) (.tmp 125) rfl _ _ (by rfl) (by rfl) 89 _ N2 hRs (by simp [Ws, hRl, hXl]) (one_cell_ws _) ?_
          go_wp2
          refine bodyPost_ret (results_cell_row rfl _ _ (w.heap.size + 1 + 1) 89 (Ws R).toArray (0, 0) _ (by rfl) HS Tryd.underlying89 rfl hRs) rfl ⟨rfl, ?_⟩
          exact below_setRow BW (by omega)
end Go.Proofs.YtoagaddciapmkaaDoor
