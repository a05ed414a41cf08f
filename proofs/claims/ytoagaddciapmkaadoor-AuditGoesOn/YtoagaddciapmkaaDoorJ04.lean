/-
  The words of a block: the program's.
-/
import Derived.Test.YtoagaddciapmkaaDoorJ03
import Derived.BigQuiet
namespace Go.Proofs.YtoagaddciapmkaaDoor
open Go.RowKit Go.WideShapes

/-- An element of an array that is a value. -/
theorem run_index_agg (cs : Array Value) (k : Nat) (v : Value) (w : World) (hk : (k : Int) < 64) (hv : cs[k]? = some v) : (Instr.index 66 (.agg cs) (.int .i64 (k : Int))).run Tryd.prog w = .ok v w := by
  have hk2 : k < 64 := by omega
  simp [Instr.index, asIntOf, run_underlying Tryd.underlying66, hv, go_sem]
  intro h
  omega
/-- s0 and s1 of a word. -/
def sg0 (x : Nat) : Nat := turnR x 7 ^^^ turnR x 18 ^^^ (x >>> 3)
def sg1 (y : Nat) : Nat := turnR y 17 ^^^ turnR y 19 ^^^ (y >>> 10)
theorem x3_lt {a b c : Nat} (ha : a < 4294967296) (hb : b < 4294967296) (hc : c < 4294967296) : a ^^^ b ^^^ c < 4294967296 := Nat.xor_lt_two_pow (n := 32) (Nat.xor_lt_two_pow (n := 32) ha hb) hc
theorem shr_lt {x : Nat} (n : Nat) (hx : x < 4294967296) : x >>> n < 4294967296 := by
  rw [Nat.shiftRight_eq_div_pow]; exact Nat.lt_of_le_of_lt (Nat.div_le_self _ _) hx
theorem x3_bits {a b c : Nat} (ha : a < 4294967296) (hb : b < 4294967296) (hc : c < 4294967296) : bits BinOp.xor IntKind.u32 (bits BinOp.xor IntKind.u32 (a : Int) (b : Int)) (c : Int) = ((a ^^^ b ^^^ c : Nat) : Int) := by
  rw [u32_xor_nat a b ha hb, u32_xor_nat _ c (Nat.xor_lt_two_pow (n := 32) ha hb) hc]
theorem sg0_bits {x : Nat} (hx : x < 4294967296) : bits BinOp.xor IntKind.u32 (bits BinOp.xor IntKind.u32 ((turnR x 7 : Nat) : Int) ((turnR x 18 : Nat) : Int)) ((x : Int) / 8) = ((sg0 x : Nat) : Int) := by
  have e : ((x >>> 3 : Nat) : Int) = (x : Int) / 8 := by rw [Nat.shiftRight_eq_div_pow]; omega
  rw [← e, x3_bits (turnR_lt _ _ hx) (turnR_lt _ _ hx) (shr_lt 3 hx)]; rfl
theorem sg1_bits {x : Nat} (hx : x < 4294967296) : bits BinOp.xor IntKind.u32 (bits BinOp.xor IntKind.u32 ((turnR x 17 : Nat) : Int) ((turnR x 19 : Nat) : Int)) ((x : Int) / 1024) = ((sg1 x : Nat) : Int) := by
  have e : ((x >>> 10 : Nat) : Int) = (x : Int) / 1024 := by rw [Nat.shiftRight_eq_div_pow]; omega
  rw [← e, x3_bits (turnR_lt _ _ hx) (turnR_lt _ _ hx) (shr_lt 10 hx)]; rfl
theorem sg0_lt {x : Nat} (hx : x < 4294967296) : sg0 x < 4294967296 := x3_lt (turnR_lt _ _ hx) (turnR_lt _ _ hx) (shr_lt 3 hx)
theorem sg1_lt {x : Nat} (hx : x < 4294967296) : sg1 x < 4294967296 := x3_lt (turnR_lt _ _ hx) (turnR_lt _ _ hx) (shr_lt 10 hx)
theorem below_drewN {B : Nat} {a w : World} (h : Below B a w) (n : Nat) : Below B a (w.drewN n) := ⟨h.os, h.tape, h.output, h.size, h.block⟩
set_option maxHeartbeats 1000000 in
theorem schedule_any (b : List Nat) (w : World) (hl : b.length = 64) (hb : ∀ x ∈ b, x < 256) :
    Calls Tryd.prog 84 #[.agg (Bs b).toArray] w fun e w' => e = .returned (.agg (Ws (wordsK b 64)).toArray) ∧ Below w.heap.size w w' := by
  have hS16 : schA b 64 = fillN (wordsK b 64) 64 16 := schA_words b hb 16 (by omega)
  have hT := wordsK_len b 64
  have hTb := wordsK_lt b hb 64
  have hTat : ∀ i, 16 ≤ i → i < 64 → (wordsK b 64).getD i 0 = ((wordsK b 64).getD (i - 16) 0 + sg0 ((wordsK b 64).getD (i - 15) 0) + (wordsK b 64).getD (i - 7) 0 + sg1 ((wordsK b 64).getD (i - 2) 0)) % 4294967296 := by
    intro i h16 h64
    rw [wordsK_at b 64 i h64, if_neg (by omega)]
    unfold moreW sg0 sg1 M32
    simp only []
    rw [wordsK_getD b 64 i (i - 16) (by omega) (by omega) (by omega), wordsK_getD b 64 i (i - 15) (by omega) (by omega) (by omega), wordsK_getD b 64 i (i - 7) (by omega) (by omega) (by omega), wordsK_getD b 64 i (i - 2) (by omega) (by omega) (by omega)]
  generalize wordsK b 64 = T at hS16 hT hTb hTat ⊢
  have HS16 : Hid _ := hS16
  clear hS16
  go_enter Tryd.func84, Tryd.ntmps84
  go_upto_region 2 with fail
  go_step
  refine wpList_load_row rfl 66 (.tmp 1) rfl w.heap.size (by rfl) 66 (Bs b).toArray (0, 0) _ (al3_0 _ _ _ _) Tryd.underlying66 rfl (by rw [size_block]; simp [Bs, hl]) ?_
  go_wp2
  go_loopw [12] (fun t wr => ∃ k : Nat, k ≤ 64 ∧ t = .int .i64 (k : Int) ∧ wr.heap[w.heap.size + 1]? = some (.cells (Ws (List.replicate 64 0)).toArray 116 (0, 0)) ∧ wr.heap[w.heap.size + 1 + 1]? = some (.cells (Ws (schA b k)).toArray 116 (0, 0)) ∧ Below w.heap.size w wr)
    (fun t _ => 64 - (intOf t).toNat)
  case atStart => exact ⟨0, by omega, rfl, al3_1 _ _ _ _, al3_2 _ _ _ _, below_al3 _ _ _ _⟩
  case round =>
    obtain ⟨k, hk, rfl, h1, h2, hbl⟩ := hrel
    by_cases hlt : k < 64
    · have hc2 := cell_ws h2 (show k / 4 < (schA b k).length by rw [schA_len]; omega)
      have hfz : wr.frozen? ⟨w.heap.size + 1 + 1, k / 4, none⟩ = false := frozen_of_row wr _ _ _ _ h2
      have hx := getD_lt' (schA_lt b hb k) (k / 4)
      have hc := getD_lt' hb k
      have hor := u32_or_nat ((schA b k).getD (k / 4) 0 * 256 % 4294967296) (b.getD k 0) (Nat.mod_lt _ (by decide)) (by omega)
      have hix : (Bs b).toArray[k]? = some (.int .u8 ((b.getD k 0 : Nat) : Int)) := by simp [Bs, List.getD, List.getElem?_eq_getElem (show k < b.length by omega)]
      have hkI : (k : Int) < 64 := by omega
      have hrun := run_index_agg _ k _ wr hkI hix
      have HG : Hid _ := h2
      have HS : Hid ((schA b k).set (k / 4) (((schA b k).getD (k / 4) 0 * 256 % 4294967296) ||| b.getD k 0) = schA b (k + 1)) := rfl
      obtain ⟨j, hj⟩ : ∃ j, k / 4 = j := ⟨_, rfl⟩
      have hq : (k : Int) / 4 = (j : Int) := by omega
      have hjI : (j : Int) < 64 := by omega
      rw [hj] at hc2 hfz hx hor HS
      generalize hxv : (schA b k).getD j 0 = x at hc2 hx hor HS
      generalize hcv : b.getD k 0 = c at hc hor hrun hix HS
      clear h2 hxv hcv hj
      go_wp2
      have hor' : bits BinOp.or IntKind.u32 ((x : Int) * 256 % 4294967296) (c : Int) = ((x * 256 % 4294967296 ||| c : Nat) : Int) := by rw [← hor, Int.natCast_emod, Int.natCast_mul]; rfl
      rw [hor']
      refine ⟨⟨k + 1, by omega, rfl, ?_, ?_, hbl.setCell (by simp; omega) _⟩, by simp [intOf]; omega⟩
      · rw [heap_setCell_other _ _ _ _ (by simp)]; exact h1
      · rw [heap_setCell_same _ _ _ _ _ _ HG.out, Ws_set, HS.out]
    · obtain rfl : k = 64 := by omega
      rw [HS16.out] at h2
      rw [show ((64 : Nat) : Int) = 64 from rfl]
      go_wp2
      go_loopw [6] (fun t wr => ∃ i : Nat, 16 ≤ i ∧ i ≤ 64 ∧ t = .int .i64 (i : Int) ∧ wr.heap[w.heap.size + 1]? = some (.cells (Ws (List.replicate 64 0)).toArray 116 (0, 0)) ∧ wr.heap[w.heap.size + 1 + 1]? = some (.cells (Ws (fillN T 64 i)).toArray 116 (0, 0)) ∧ Below w.heap.size w wr)
        (fun t _ => 64 - (intOf t).toNat)
      case atStart => exact ⟨16, by omega, by omega, rfl, h1, h2, hbl⟩
      case round =>
        clear h1 h2 hbl
        obtain ⟨i, h16, h64, rfl, h1, h2, hbl⟩ := hrel
        by_cases hlt : i < 64
        · have hfl : (fillN T 64 i).length = 64 := fill_len hT h64
          have c15 := cell_ws h2 (show i - 15 < _ by rw [hfl]; omega)
          have c2 := cell_ws h2 (show i - 2 < _ by rw [hfl]; omega)
          have c16 := cell_ws h2 (show i - 16 < _ by rw [hfl]; omega)
          have c7 := cell_ws h2 (show i - 7 < _ by rw [hfl]; omega)
          have c0 := cell_ws h2 (show i < _ by rw [hfl]; omega)
          rw [fill_at hT h64 (by omega)] at c15 c2 c16 c7
          have hfz : wr.frozen? ⟨w.heap.size + 1 + 1, i, none⟩ = false := frozen_of_row wr _ _ _ _ h2
          have HT : Hid _ := hTat i h16 hlt
          have HG : Hid _ := h2
          have hx := getD_lt' hTb (i - 15)
          have hy := getD_lt' hTb (i - 2)
          have hp := getD_lt' hTb (i - 16)
          have hq := getD_lt' hTb (i - 7)
          have e15 : (i : Int) - 15 = ((i - 15 : Nat) : Int) := by omega
          have e2 : (i : Int) - 2 = ((i - 2 : Nat) : Int) := by omega
          have e16 : (i : Int) - 16 = ((i - 16 : Nat) : Int) := by omega
          have e7 : (i : Int) - 7 = ((i - 7 : Nat) : Int) := by omega
          have b15 : ((i - 15 : Nat) : Int) < 64 := by omega
          have b2 : ((i - 2 : Nat) : Int) < 64 := by omega
          have b16 : ((i - 16 : Nat) : Int) < 64 := by omega
          have b7 : ((i - 7 : Nat) : Int) < 64 := by omega
          have bi : (i : Int) < 64 := by omega
          generalize T.getD (i - 15) 0 = x at c15 hx HT
          generalize T.getD (i - 2) 0 = y at c2 hy HT
          generalize T.getD (i - 16) 0 = p at c16 hp HT
          generalize T.getD (i - 7) 0 = q at c7 hq HT
          generalize i - 15 = i15 at c15 e15 b15
          generalize i - 2 = i2 at c2 e2 b2
          generalize i - 16 = i16 at c16 e16 b16
          generalize i - 7 = i7 at c7 e7 b7
          have s0 := sg0_bits hx
          have s1 := sg1_bits hy
          have l0 := sg0_lt hx
          have l1 := sg1_lt hy
          clear h2 hTat
          go_upto_region 10 with fail
          go_quiet (fail)
          go_upto_region 13 with (go_at_call 85; refine (turned_any _ _ _ (by assumption) (by decide) (by decide)).mono ?_; rintro e w1 ⟨rfl, rfl⟩)
          go_region
          go_wp2
          go_roundw
          case rel =>
            have HTi : Hid _ := HT.out
            rw [show (((p : Int) + ((sg0 x : Nat) : Int) + (q : Int) + ((sg1 y : Nat) : Int)) % 4294967296) = ((T.getD i 0 : Nat) : Int) from by rw [HTi.out]; omega]
            refine ⟨i + 1, by omega, by omega, rfl, ?_, ?_, (below_drewN hbl _).setCell (by simp; omega) _⟩
            · rw [heap_setCell_other _ _ _ _ (by simp)]; exact h1
            · rw [heap_setCell_same (wr.drewN (nq + 1)) _ _ _ _ _ HG.out, Ws_set, fill_set hT hlt]
          case measure => simp [intOf]; omega
        · obtain rfl : i = 64 := by omega
          rw [fill_all hT] at h2
          have hTs : (Tryd.prog.info? 116).map (·.size) = some (Ws T).toArray.size := by rw [size_sched]; simp [Ws, hT]
          have HS := setRow_heap wr _ _ (Ws T).toArray 116 (0, 0) h1
          go_upto_region 14 with fail
          go_step
          refine wpList_load_row rfl 116 (.tmp 3) rfl _ (by rfl) 116 _ _ _ h2 Tryd.underlying116 rfl (by rw [size_sched]; simp [Ws, hT]) ?_
          refine wpList_store_row rfl 116 (.tmp 2) (.tmp 71) rfl _ _ (by rfl) (by rfl) 116 _ h1 (by rw [size_sched]; simp [Ws, hT]) (by simp [Ws, hT]) (one_cell_ws _) ?_
          go_wp2
          refine bodyPost_ret (results_cell_row rfl _ _ (w.heap.size + 1) 116 (Ws T).toArray (0, 0) _ (by rfl) HS Tryd.underlying116 rfl hTs) rfl ⟨rfl, ?_⟩
          exact below_setRow hbl (by omega)
end Go.Proofs.YtoagaddciapmkaaDoor
