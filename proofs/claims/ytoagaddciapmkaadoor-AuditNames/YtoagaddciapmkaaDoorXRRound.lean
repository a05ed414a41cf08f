/-
  A block mixed in: the document's.
-/
import Derived.Test.YtoagaddciapmkaaDoorXRWord
namespace Go.Proofs.YtoagaddciapmkaaDoor
open Go.RowKit Go.WideShapes

structure Rows4 (w wr : World) (h W : List Nat) : Prop where
  r0 : wr.heap[w.heap.size]? = some (.cells (Ws h).toArray 60 (0, 0))
  r1 : wr.heap[w.heap.size + 1]? = some (.cells (Ws stepsK).toArray 62 (0, 0))
  r2 : wr.heap[w.heap.size + 1 + 1]? = some (.cells (Ws (List.replicate 8 0)).toArray 60 (0, 0))
  r3 : wr.heap[w.heap.size + 1 + 1 + 1]? = some (.cells (Ws W).toArray 62 (0, 0))
  bel : Below w.heap.size w wr
theorem rw_lt {w : World} {g : Nat} {o : Obj} (h : w.heap[g]? = some o) : g < w.heap.size := (Array.getElem?_eq_some_iff.1 h).1
theorem Rows4.below {w wr w' : World} {h W : List Nat} (r : Rows4 w wr h W) (hb : Below wr.heap.size wr w') : Rows4 w w' h W :=
  ⟨(hb.block _ (rw_lt r.r0)).trans r.r0, (hb.block _ (rw_lt r.r1)).trans r.r1, (hb.block _ (rw_lt r.r2)).trans r.r2, (hb.block _ (rw_lt r.r3)).trans r.r3,
    r.bel.trans ⟨hb.os, hb.tape, hb.output, hb.size, fun j hj => hb.block j (Nat.lt_of_lt_of_le hj r.bel.size)⟩⟩
theorem Rows4.drewN {w wr : World} {h W : List Nat} (r : Rows4 w wr h W) (n : Nat) : Rows4 w (wr.drewN n) h W := ⟨r.r0, r.r1, r.r2, r.r3, below_drewN r.bel n⟩
theorem Rows4.set {w wr : World} {h W : List Nat} (r : Rows4 w wr h W) (i v : Nat) : Rows4 w (wr.setCell ⟨w.heap.size + 1 + 1 + 1, i, none⟩ (.int .u32 (v : Int))) h (W.set i v) :=
  ⟨(heap_setCell_other _ _ _ _ (by simp; omega)).trans r.r0, (heap_setCell_other _ _ _ _ (by simp)).trans r.r1, (heap_setCell_other _ _ _ _ (by simp)).trans r.r2,
    by rw [heap_setCell_same _ _ _ _ _ _ r.r3, Ws_set], r.bel.setCell (by simp; omega) _⟩
theorem rows4_new (w : World) (h : List Nat) : Rows4 w ((((w.alloc (.cells (Ws h).toArray 60)).alloc (.cells (Ws stepsK).toArray 62)).alloc (.cells (Ws (List.replicate 8 0)).toArray 60)).alloc (.cells (Ws (List.replicate 64 0)).toArray 62)) h (List.replicate 64 0) :=
  ⟨by rw [_root_.Go.heap_alloc_old _ _ (by simp; omega), al3_0], by rw [_root_.Go.heap_alloc_old _ _ (by simp), al3_1], by rw [_root_.Go.heap_alloc_old _ _ (by simp), al3_2],
    by rw [show w.heap.size + 1 + 1 + 1 = (((w.alloc (.cells (Ws h).toArray 60)).alloc (.cells (Ws stepsK).toArray 62)).alloc (.cells (Ws (List.replicate 8 0)).toArray 60)).heap.size from by simp, _root_.Go.heap_alloc_new],
    (below_al3 _ _ _ _).alloc (by simp; omega) _⟩
theorem drewN_cell (w : World) (n : Nat) (a : Addr) : (w.drewN n).cell? a = w.cell? a := rfl
theorem drewN_frozen (w : World) (n : Nat) (a : Addr) : (w.drewN n).frozen? a = w.frozen? a := rfl
inductive RndA (w : World) (h T : List Nat) (m : Nat) (t : Value) (wr : World) : Prop where
  | intro (k : Nat) (hk : k ≤ m) (hk0 : 16 ≤ k ∨ m = 16) (ht : t = .int .i64 (k : Int)) (r : Rows4 w wr h (fillN T 64 k))
theorem wpList_build_eq {P : Program} {w : World} {ops : Array Oper} {rest : List Oper} {o : Oper} {a : Act} {Q : Exit → Act → World → Prop} (hg : o.guard = none) (t : TypeId) (parts : Array (Nat × Operand)) (ho : o.op = .build t parts) {cells : Array Value}
    (hf : P.built t (parts.map fun (i, x) => (i, a.eval x)).toList = some cells) (h : wpList P ops Q rest (a.put o.dst (.agg cells)) w) : wpList P ops Q (o :: rest) a w :=
  wpList_build hg t parts ho (by rw [hf]; rfl) (by rw [hf]; exact h)
theorem row_drewN {w : World} {g : Nat} {o : Obj} (h : w.heap[g]? = some o) (n : Nat) : (w.drewN n).heap[g]? = some o := h
theorem to8_of8 (h : List Nat) (hh : h.length = 8) : to8 (of8 h) = h := by
  match h, hh with
  | [_, _, _, _, _, _, _, _], _ => rfl
theorem Rows4.setRow {w wr : World} {h W : List Nat} {g : Nat} (r : Rows4 w wr h W) (hg : w.heap.size + 1 + 1 + 1 < g) (cs : Array Value) : Rows4 w (wr.setRow g cs) h W :=
  have B : Below g wr (wr.setRow g cs) := below_setRow (Below.refl g wr) (Nat.le_refl g)
  ⟨(B.block _ (by omega)).trans r.r0, (B.block _ (by omega)).trans r.r1, (B.block _ (by omega)).trans r.r2, (B.block _ (by omega)).trans r.r3, below_setRow r.bel (by omega)⟩
inductive Rnd3 (w : World) (gx : Nat) (h T : List Nat) (st : Nat → W8) (t : Value) (wr : World) : Prop where
  | intro (k : Nat) (x : W8) (hk : k ≤ 64) (ht : t = .int .i64 (k : Int)) (hx : x = st k) (r : Rows4 w wr h T) (n : wr.heap[gx]? = some (.cells (Ws (to8 x)).toArray 60 (0, 0)))
set_option maxHeartbeats 4000000 in
set_option maxRecDepth 100000 in
theorem rround_any (p : Option Addr) (c : Nat) (h b : List Nat) (w : World) (hh : h.length = 8) (hw : ∀ x ∈ h, x < 4294967296) (hl : b.length = 64) (hb : BIn w p b) :
    Calls Tryd.prog 37 #[.agg (Ws h).toArray, .slice p 64 c, .agg (Ws stepsK).toArray] w fun e w' => e = .returned (.agg (Ws (roundN h b)).toArray) ∧ Below w.heap.size w w' := by
  have hT := wordsK_len b 64
  have hTb := wordsK_lt b hb.2 64
  have hT16 : ∀ i, i < 16 → (wordsK b 64).getD i 0 = wordB b (4 * i) := fun i hi => by rw [wordsK_at b 64 i (by omega), if_pos hi]
  have hTat : ∀ i, 16 ≤ i → i < 64 → (wordsK b 64).getD i 0 = ((wordsK b 64).getD (i - 16) 0 + sg0 ((wordsK b 64).getD (i - 15) 0) + (wordsK b 64).getD (i - 7) 0 + sg1 ((wordsK b 64).getD (i - 2) 0)) % 4294967296 := by
    intro i h16 h64
    rw [wordsK_at b 64 i h64, if_neg (by omega)]
    unfold moreW sg0 sg1 M32
    simp only []
    rw [wordsK_getD b 64 i (i - 16) (by omega) (by omega) (by omega), wordsK_getD b 64 i (i - 15) (by omega) (by omega) (by omega), wordsK_getD b 64 i (i - 7) (by omega) (by omega) (by omega), wordsK_getD b 64 i (i - 2) (by omega) (by omega) (by omega)]
  have hR : roundN h b = (h.zip (to8 (stN h (wordsK b 64) 64))).map fun p => (p.1 + p.2) % 4294967296 := by
    unfold roundN; rw [stN_all h _ hT]; rfl
  generalize wordsK b 64 = T at hT hTb hT16 hTat hR
  have hst := stN_word h T hw
  have hstep : ∀ k, stN h T (k + 1) = step8 (stN h T k) (stepsK.getD k 0) (T.getD k 0) := fun _ => rfl
  have hst0 : stN h T 0 = of8 h := rfl
  generalize hfs : stN h T = st at hR hst hstep hst0
  generalize hrn : roundN h b = R at hR ⊢
  clear hfs hrn
  have R4 := rows4_new w h
  go_enter Tryd.func37, Tryd.ntmps37
  go_wp2
  change Code.wp _ _ _ _ ((((w.alloc (.cells (Ws h).toArray 60)).alloc (.cells (Ws stepsK).toArray 62)).alloc (.cells (Ws (List.replicate 8 0)).toArray 60)).alloc (.cells (Ws (List.replicate 64 0)).toArray 62))
  generalize (((w.alloc (.cells (Ws h).toArray 60)).alloc (.cells (Ws stepsK).toArray 62)).alloc (.cells (Ws (List.replicate 8 0)).toArray 60)).alloc (.cells (Ws (List.replicate 64 0)).toArray 62) = W0 at R4 ⊢
  generalize hKA : (Ws stepsK).toArray = KA
  have HKA : Hid _ := hKA
  clear hKA
  go_loopw [8] (fun t wr => RndA w h T 16 t wr) (fun t _ => 16 - (intOf t).toNat)
  case atStart => exact ⟨0, by omega, .inr rfl, rfl, by rw [fill_zero]; exact R4⟩
  case round =>
    clear R4
    obtain ⟨k, hk, _, rfl, r⟩ := hrel
    by_cases hlt : k < 16
    · have WD := rword_any p c 64 b (4 * k) wr (hb.below r.bel) hl.symm (by omega) (by omega)
      rw [← hT16 k hlt] at WD
      obtain ⟨k4, hk4⟩ : ∃ k4, 4 * k = k4 := ⟨_, rfl⟩
      rw [hk4] at WD
      have i4 : 4 * (k : Int) = (k4 : Int) := by omega
      have hk464 : k4 < 64 := by omega
      have hkI : (k : Int) < 64 := by omega
      have hv := getD_lt' hTb k
      have HS : Hid _ := fill_set (k := k) hT (by omega)
      have hfl : (fillN T 64 k).length = 64 := fill_len hT (by omega)
      generalize T.getD k 0 = v at WD hv HS
      have Hb : Hid _ := hb
      have HT1 : Hid _ := hT16
      have HT2 : Hid _ := hTat
      clear hk4 hb hT16 hTat
      go_wp2_with fail
      refine WD.mono ?_
      rintro e w2 ⟨rfl, hb2⟩
      have r2 := r.below hb2
      have fz : w2.frozen? ⟨w.heap.size + 1 + 1 + 1, k, none⟩ = false := frozen_of_row _ _ _ _ _ r2.r3
      have ck := cell_ws r2.r3 (show k < _ by rw [hfl]; omega)
      clear WD hb2
      simp only []
      go_wp2
      go_roundw
      case rel => exact ⟨k + 1, by omega, .inr rfl, rfl, by rw [← HS.out]; exact r2.set k v⟩
      case measure => simp [intOf]; omega
    · obtain rfl : k = 16 := by omega
      rw [show ((16 : Nat) : Int) = 16 from rfl]
      go_wp2
      go_loopw [9] (fun t wr => RndA w h T 64 t wr) (fun t _ => 64 - (intOf t).toNat)
      case atStart => exact ⟨16, by omega, .inl (by omega), rfl, r⟩
      case round =>
        clear r
        obtain ⟨i, h64, h16, rfl, r⟩ := hrel
        have h16 : 16 ≤ i := by omega
        by_cases hlt : i < 64
        · have hfl : (fillN T 64 i).length = 64 := fill_len hT h64
          have c15 := cell_ws r.r3 (show i - 15 < _ by rw [hfl]; omega)
          have c2 := cell_ws r.r3 (show i - 2 < _ by rw [hfl]; omega)
          have c16 := cell_ws r.r3 (show i - 16 < _ by rw [hfl]; omega)
          have c7 := cell_ws r.r3 (show i - 7 < _ by rw [hfl]; omega)
          have c0 := cell_ws r.r3 (show i < _ by rw [hfl]; omega)
          rw [fill_at hT h64 (by omega)] at c15 c2 c16 c7
          have hfz : wr.frozen? ⟨w.heap.size + 1 + 1 + 1, i, none⟩ = false := frozen_of_row wr _ _ _ _ r.r3
          have HT : Hid _ := hTat i h16 hlt
          have HF : Hid _ := fill_set (k := i) hT (by omega)
          have hx := getD_lt' hTb (i - 15)
          have hy := getD_lt' hTb (i - 2)
          have hp := getD_lt' hTb (i - 16)
          have hq := getD_lt' hTb (i - 7)
          have e15 : (i : Int) - 15 = ((i - 15 : Nat) : Int) := by omega
          have e2 : (i : Int) - 2 = ((i - 2 : Nat) : Int) := by omega
          have e16 : (i : Int) - 16 = ((i - 16 : Nat) : Int) := by omega
          have e7 : (i : Int) - 7 = ((i - 7 : Nat) : Int) := by omega
          have b15 : ((i - 15 : Nat) : Int) < 64 := by omega
          have b2 : ((i - 2 : Nat) : Int) < 64 := by omega
          have b16 : ((i - 16 : Nat) : Int) < 64 := by omega
          have b7 : ((i - 7 : Nat) : Int) < 64 := by omega
          have bi : (i : Int) < 64 := by omega
          generalize T.getD (i - 15) 0 = x at c15 hx HT
          generalize T.getD (i - 2) 0 = y at c2 hy HT
          generalize T.getD (i - 16) 0 = p' at c16 hp HT
          generalize T.getD (i - 7) 0 = q at c7 hq HT
          generalize i - 15 = i15 at c15 e15 b15
          generalize i - 2 = i2 at c2 e2 b2
          generalize i - 16 = i16 at c16 e16 b16
          generalize i - 7 = i7 at c7 e7 b7
          have s0 := sg0_bits hx
          have s1 := sg1_bits hy
          have l0 := sg0_lt hx
          have l1 := sg1_lt hy
          have Hb : Hid _ := hb
          have HT1 : Hid _ := hT16
          clear hb hT16 hTat
          go_upto_region 9 with fail
          go_quiet ((go_at_call 64; exact Calls.quiet_of_same (rturn_any _ _ _ (by assumption) (by decide) (by decide))))
          rw [← drewN_cell wr nq] at c2 c16 c7 c0
          rw [← drewN_frozen wr nq] at hfz
          have r' := r.drewN nq
          clear r
          generalize wr.drewN nq = wr1 at c2 c16 c7 c0 hfz r' ⊢
          go_upto_region 10 with fail
          go_quiet ((go_at_call 64; exact Calls.quiet_of_same (rturn_any _ _ _ (by assumption) (by decide) (by decide))))
          go_upto_region 11 with fail
          go_region
          go_wp2
          go_roundw
          case rel =>
            have HTi : Hid _ := HT.out
            rw [show (((p' : Int) + ((sg0 x : Nat) : Int) + (q : Int) + ((sg1 y : Nat) : Int)) % 4294967296) = ((T.getD i 0 : Nat) : Int) from by rw [HTi.out]; omega]
            refine ⟨i + 1, by omega, .inl (by omega), rfl, ?_⟩
            rw [← HF.out]
            exact ((r'.drewN _)).set i _
          case measure => simp [intOf]; omega
        · obtain rfl : i = 64 := by omega
          rw [fill_all hT] at r
          rw [show ((64 : Nat) : Int) = 64 from rfl]
          go_upto_region 12 with fail
          go_step
          refine wpList_load_row rfl 60 (.tmp 3) rfl _ (by rfl) 60 _ _ _ r.r0 Tryd.underlying60 rfl (by rw [size_rwords]; simp [Ws, hh]) ?_
          have hhz : (Ws h).toArray.size = 8 := by simp [Ws, hh]
          first
            | (go_step; refine wpList_store_row rfl 60 (.tmp 12) (.tmp 82) rfl wr.heap.size (Ws h).toArray (by rfl) (by rfl) 60 _ (_root_.Go.heap_alloc_new _ _) (by rw [size_rwords, hhz]) (by rw [hhz]; rfl) (one_cell_ws _) ?_)
            | (go_step; go_step; refine wpList_store_row rfl 60 (.tmp 12) (.tmp 82) rfl wr.heap.size (Ws h).toArray (by rfl) (by rfl) 60 _ (_root_.Go.heap_alloc_new _ _) (by rw [size_rwords, hhz]) (by rw [hhz]; rfl) (one_cell_ws _) ?_)
            | (go_step; go_step; go_step; refine wpList_store_row rfl 60 (.tmp 12) (.tmp 82) rfl wr.heap.size (Ws h).toArray (by rfl) (by rfl) 60 _ (_root_.Go.heap_alloc_new _ _) (by rw [size_rwords, hhz]) (by rw [hhz]; rfl) (one_cell_ws _) ?_)
          rw [World.setRow_alloc_new]
          have r5 := r.below ((Below.refl wr.heap.size wr).alloc (Nat.le_refl _) (Obj.cells (Ws h).toArray 60))
          have N5 : (wr.alloc (Obj.cells (Ws h).toArray 60)).heap[wr.heap.size]? = some (.cells (Ws h).toArray 60 (0, 0)) := _root_.Go.heap_alloc_new _ _
          have hg : w.heap.size + 1 + 1 + 1 < wr.heap.size := rw_lt r.r3
          generalize wr.heap.size = gx at N5 hg r5 ⊢
          generalize wr.alloc (Obj.cells (Ws h).toArray 60) = W1 at N5 r5 ⊢
          clear r hT16 hTat
          have hh8 : to8 (st 0) = h := by rw [hst0]; exact to8_of8 h hh
          go_wp2
          go_loopw [13] (fun t wr => Rnd3 w gx h T st t wr) (fun t _ => 64 - (intOf t).toNat)
          case atStart => exact ⟨0, st 0, by omega, rfl, rfl, r5, by rw [hh8]; exact N5⟩
          case round =>
            clear r5 N5
            obtain ⟨k, x, hk64, rfl, hx, r0, NX0⟩ := hrel
            by_cases hlt : k < 64
            · have hxw := hst k
              rw [← hx] at hxw
              have ck := cell_ws r0.r1 (show k < stepsK.length from hlt)
              have ct := cell_ws r0.r3 (show k < T.length by omega)
              have hkl := stepsK_lt k
              have htl := getD_lt' hTb k
              have HX : Hid _ := hstep k
              rw [← hx, step8_is] at HX
              generalize stepsK.getD k 0 = kk at ck hkl HX
              generalize T.getD k 0 = tt at ct htl HX
              obtain ⟨a, b', c', d, e, f, g, hh'⟩ := x
              obtain ⟨wa, wb, wc, wd, we, wf, wg, wh⟩ := hxw
              simp only [] at wa wb wc wd we wf wg wh HX
              have hkI : (k : Int) < 64 := by omega
              have q1 := S1_bits we
              have q0 := S0_bits wa
              have qm := maj_bits wa wb wc
              have qc := ch_bits we wf wg
              have l1 := S1_lt we
              have l0 := S0_lt wa
              have lm := maj_lt (c := c') wa wb
              have lc := ch_lt (f := f) (g := g) we
              have Hb : Hid _ := hb
              clear hb hh8
              have f0 : wr.cell? ⟨gx, 0, none⟩ = some (.int .u32 (a : Int)) := cell_ws NX0 (show 0 < 8 by decide)
              have f1 : wr.cell? ⟨gx, 1, none⟩ = some (.int .u32 (b' : Int)) := cell_ws NX0 (show 1 < 8 by decide)
              have f2 : wr.cell? ⟨gx, 2, none⟩ = some (.int .u32 (c' : Int)) := cell_ws NX0 (show 2 < 8 by decide)
              have f3 : wr.cell? ⟨gx, 3, none⟩ = some (.int .u32 (d : Int)) := cell_ws NX0 (show 3 < 8 by decide)
              have f4 : wr.cell? ⟨gx, 4, none⟩ = some (.int .u32 (e : Int)) := cell_ws NX0 (show 4 < 8 by decide)
              have f5 : wr.cell? ⟨gx, 5, none⟩ = some (.int .u32 (f : Int)) := cell_ws NX0 (show 5 < 8 by decide)
              have f6 : wr.cell? ⟨gx, 6, none⟩ = some (.int .u32 (g : Int)) := cell_ws NX0 (show 6 < 8 by decide)
              have f7 : wr.cell? ⟨gx, 7, none⟩ = some (.int .u32 (hh' : Int)) := cell_ws NX0 (show 7 < 8 by decide)
              go_upto_region 16 with fail
              go_quiet ((go_at_call 64; exact Calls.quiet_of_same (rturn_any _ _ _ (by assumption) (by decide) (by decide))))
              rw [← drewN_cell wr nq] at f0 f1 f2 f3 f4 f5 f6 f7 ck ct
              have r1 := r0.drewN nq
              have NX1 := row_drewN NX0 nq
              clear r0 NX0
              generalize wr.drewN nq = v1 at f0 f1 f2 f3 f4 f5 f6 f7 ck ct r1 NX1 ⊢
              go_upto_region 17 with fail
              go_quiet ((go_at_call 64; exact Calls.quiet_of_same (rturn_any _ _ _ (by assumption) (by decide) (by decide))))
              rw [not_bits we, qc]
              obtain ⟨t1, ht1⟩ : ∃ t1 : Nat, t1 = (hh' + S1 e + chN e f g + kk + tt) % 4294967296 := ⟨_, rfl⟩
              rw [show ((((hh' : Int) + ((S1 e : Nat) : Int) + ((chN e f g : Nat) : Int) + (kk : Int)) % 4294967296 + (tt : Int)) % 4294967296) = (t1 : Int) from by omega]
              have ht1l : t1 < 4294967296 := by rw [ht1]; exact Nat.mod_lt _ (by decide)
              have Ht1 : Hid _ := ht1
              clear ht1
              rw [← drewN_cell v1 nq] at f0 f1 f2 f3 f4 f5 f6 f7 ck ct
              have r2 := r1.drewN nq
              have NX2 := row_drewN NX1 nq
              clear r1 NX1
              generalize v1.drewN nq = v2 at f0 f1 f2 f3 f4 f5 f6 f7 ck ct r2 NX2 ⊢
              go_upto_region 18 with fail
              go_quiet ((go_at_call 64; exact Calls.quiet_of_same (rturn_any _ _ _ (by assumption) (by decide) (by decide))))
              rw [← drewN_cell v2 nq] at f0 f1 f2 f3 f4 f5 f6 f7 ck ct
              have r3 := r2.drewN nq
              have NX3 := row_drewN NX2 nq
              clear r2 NX2
              generalize v2.drewN nq = v3 at f0 f1 f2 f3 f4 f5 f6 f7 ck ct r3 NX3 ⊢
              go_upto_region 20 with fail
              obtain ⟨t2, ht2⟩ : ∃ t2 : Nat, t2 = (S0 a + majN a b' c') % 4294967296 := ⟨_, rfl⟩
              rw [show ((((S0 a : Nat) : Int) + ((majN a b' c' : Nat) : Int)) % 4294967296) = (t2 : Int) from by omega]
              have ht2l : t2 < 4294967296 := by rw [ht2]; exact Nat.mod_lt _ (by decide)
              have Ht2 : Hid _ := ht2
              clear ht2
              iterate 58 go_step
              rw [show (((t1 : Int) + (t2 : Int)) % 4294967296) = (((t1 + t2) % 4294967296 : Nat) : Int) from by omega, show (((d : Int) + (t1 : Int)) % 4294967296) = (((d + t1) % 4294967296 : Nat) : Int) from by omega]
              have hY : Hid (st (k + 1) = ⟨(t1 + t2) % 4294967296, a, b', c', (d + t1) % 4294967296, e, f, g⟩) := by rw [Ht1.out, Ht2.out]; exact HX.out
              generalize (t1 + t2) % 4294967296 = y0 at hY ⊢
              generalize (d + t1) % 4294967296 = y4 at hY ⊢
              refine wpList_build_eq rfl 60 _ rfl (cells := (Ws [y0, a, b', c', y4, e, f, g]).toArray) (by kernel_rfl) ?_
              refine wpList_store_row rfl 60 (.tmp 12) (.tmp 172) rfl gx (Ws [y0, a, b', c', y4, e, f, g]).toArray (by rfl) (by rfl) 60 _ NX3 size_rwords rfl (one_cell_ws _) ?_
              have r4 := r3.setRow (g := gx) hg (Ws [y0, a, b', c', y4, e, f, g]).toArray
              have NX4 := setRow_heap v3 _ _ (Ws [y0, a, b', c', y4, e, f, g]).toArray 60 (0, 0) NX3
              generalize v3.setRow gx (Ws [y0, a, b', c', y4, e, f, g]).toArray = v4 at r4 NX4 ⊢
              go_wp2
              go_roundw
              case rel => exact ⟨k + 1, _, by omega, rfl, hY.out.symm, r4, NX4⟩
              case measure => simp [intOf]; omega
            · obtain rfl : k = 64 := by omega
              rw [show ((64 : Nat) : Int) = 64 from rfl]
              have hxw := hst 64
              rw [← hx] at hR hxw
              clear hst hstep hst0 hx
              obtain ⟨X, hX⟩ : ∃ X, X = to8 x := ⟨_, rfl⟩
              have hXl : X.length = 8 := by rw [hX]; rfl
              have hXw : ∀ y ∈ X, y < 4294967296 := by
                rw [hX]; intro y hy
                obtain ⟨wa, wb, wc, wd, we, wf, wg, wh⟩ := hxw
                simp only [to8, List.mem_cons, List.not_mem_nil, or_false] at hy
                rcases hy with rfl | rfl | rfl | rfl | rfl | rfl | rfl | rfl <;> assumption
              rw [← hX] at hR NX0
              have hRl : R.length = h.length := by rw [hR, List.length_map, List.length_zip, hh, hXl]; rfl
              have hRat : ∀ k, k < 8 → R.getD k 0 = (h.getD k 0 + X.getD k 0) % 4294967296 := by
                intro k hk'
                rw [hR]
                unfold List.getD
                rw [List.getElem?_map, List.getElem?_eq_getElem (show k < (h.zip X).length by rw [List.length_zip, hh, hXl]; omega), List.getElem_zip, List.getElem?_eq_getElem (show k < X.length by omega), List.getElem?_eq_getElem (show k < h.length by omega)]
                simp
              clear hR hX hxw hh8
              go_wp2
              go_loopw [18] (fun t w2 => ∃ k : Nat, k ≤ 8 ∧ t = .int .i64 (k : Int) ∧ w2.heap[w.heap.size]? = some (.cells (Ws (R.take k ++ h.drop k)).toArray 60 (0, 0)) ∧ w2.heap[w.heap.size + 1 + 1]? = some (.cells (Ws (List.replicate 8 0)).toArray 60 (0, 0)) ∧ w2.heap[gx]? = some (.cells (Ws X).toArray 60 (0, 0)) ∧ Below w.heap.size w w2)
                (fun t _ => 8 - (intOf t).toNat)
              case atStart => exact ⟨0, by omega, rfl, r0.r0, r0.r2, NX0, r0.bel⟩
              case round =>
                clear r0 NX0
                rename World => w2
                obtain ⟨k, hk8, rfl, N0, N2, NQ, BW⟩ := hrel
                by_cases hlt : k < 8
                · have hlen : (R.take k ++ h.drop k).length = 8 := by rw [List.length_append, List.length_take, List.length_drop]; omega
                  have c1 := cell_ws N0 (show k < _ by rw [hlen]; exact hlt)
                  rw [mix_at hRl (by omega)] at c1
                  have c2 := cell_ws NQ (show k < X.length by omega)
                  have hfz : w2.frozen? ⟨w.heap.size, k, none⟩ = false := frozen_of_row w2 _ _ _ _ N0
                  have HR : Hid _ := hRat k hlt
                  have HS : Hid _ := mix_set R h k hRl (by omega)
                  have hx1 := getD_lt' hw k
                  have hx2 := getD_lt' hXw k
                  have hkI : (k : Int) < 8 := by omega
                  have HQ : Hid _ := NQ
                  have HN0 : Hid _ := N0
                  have HN2 : Hid _ := N2
                  generalize h.getD k 0 = x1 at c1 hx1 HR
                  generalize X.getD k 0 = x2 at c2 hx2 HR
                  have Hb : Hid _ := hb
                  clear NQ hRat N0 N2 hlen hb
                  go_upto_region 24 with fail
                  go_region
                  go_wp2
                  go_roundw
                  case rel =>
                    rw [show (((x1 : Int) + (x2 : Int)) % 4294967296) = ((R.getD k 0 : Nat) : Int) from by rw [HR.out]; omega]
                    refine ⟨k + 1, by omega, rfl, ?_, ?_, ?_, ?_⟩
                    · refine (heap_setCell_same _ _ _ _ _ _ HN0.out).trans ?_
                      rw [Ws_set, HS.out]
                    · exact (heap_setCell_other _ _ _ _ (by simp; omega)).trans HN2.out
                    · exact (heap_setCell_other _ _ _ _ (by simp; omega)).trans HQ.out
                    · first
                        | exact BW.setCell (by simp) _
                        | exact (below_drewN BW _).setCell (by simp) _
                        | exact BW.drew.setCell (by simp) _
                  case measure => simp [intOf]; omega
                · obtain rfl : k = 8 := by omega
                  rw [List.take_of_length_le (by omega), List.drop_of_length_le (by omega), List.append_nil] at N0
                  have hRs : (Tryd.prog.info? 60).map (·.size) = some (Ws R).toArray.size := by rw [size_rwords]; simp [Ws, hRl, hh]
                  have HS := setRow_heap w2 _ _ (Ws R).toArray 60 (0, 0) N2
                  go_upto_region 25 with fail
                  go_step
                  refine wpList_load_row rfl 60 (.tmp 3) rfl _ (by rfl) 60 _ _ _ N0 Tryd.underlying60 rfl hRs ?_
                  refine wpList_store_row rfl 60 (.tmp 6) (.tmp 186) rfl _ _ (by rfl) (by rfl) 60 _ N2 hRs (by simp [Ws, hRl, hh]) (one_cell_ws _) ?_
                  go_wp2
                  refine bodyPost_ret (results_cell_row rfl _ _ (w.heap.size + 1 + 1) 60 (Ws R).toArray (0, 0) _ (by rfl) HS Tryd.underlying60 rfl hRs) rfl ⟨rfl, ?_⟩
                  exact below_setRow BW (by omega)
end Go.Proofs.YtoagaddciapmkaaDoor
