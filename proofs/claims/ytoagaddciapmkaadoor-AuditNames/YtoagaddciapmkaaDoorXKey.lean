/-
  The key of a secret: the program's.
-/
import Derived.Test.YtoagaddciapmkaaDoorXAlive
namespace Go.Proofs.YtoagaddciapmkaaDoor
open Go.RowKit Go.WideShapes

theorem slice_block (g : Nat) : ∀ w, (Instr.sliceAt 66 (.pointer (some ⟨g, 0, none⟩)) none none none).run Tryd.prog w = .ok (.slice (some ⟨g, 0, none⟩) 64 64) w := by
  intro w
  simp [Instr.sliceAt, Instr.sliceBounds, run_underlying Tryd.underlying66, Instr.sureAddr, go_sem, Addr.add]
theorem wpList_copy_is {P : Program} {w : World} {ops : Array Oper} {rest : List Oper} {o : Oper} {a : Act} {Q : Exit → Act → World → Prop} (hgd : o.guard = none) (d s : Operand) (dT sT : TypeId)
    (ho : o.op = .call { callee := .builtin .copy, args := #[d, s], argTypes := #[dT, sT] }) {vd vs v : Value} {w' : World} (hd : a.eval d = vd) (hs : a.eval s = vs)
    (hrun : (Builtin.copy_ #[dT, sT] o.type #[vd, vs]).run P w = .ok v w') (h : wpList P ops Q rest (a.put o.dst v) w') : wpList P ops Q (o :: rest) a w := by
  refine wpList_plain hgd fun K hK => ?_
  unfold Oper.wp
  simp [execOp, ho, resolve, invoke, builtin, hd, hs, hrun, Result.andThen]
  exact hK _ _ h
/-- copy(key[:], l): a row of 64 noughts. -/
theorem copy_key (w : World) (g : Nat) (ty : TypeId) (p : Option Addr) (c : Nat) (l : List Nat) (hl : l.length ≤ 64) (hb : BIn w p l) (hg : w.heap[g]? = some (.cells (Bs (List.replicate 64 0)).toArray 66 (0, 0))) :
    ∃ w', (Builtin.copy_ #[22, 22] ty #[.slice (some ⟨g, 0, none⟩) 64 64, .slice p l.length c]).run Tryd.prog w = .ok (goInt l.length) w' ∧ w'.heap[g]? = some (.cells (Bs (l ++ List.replicate (64 - l.length) 0)).toArray 66 (0, 0)) ∧ w.grownBy w' (some g) := by
  rcases Nat.eq_zero_or_pos l.length with h0 | h0
  · obtain rfl : l = [] := List.eq_nil_of_length_eq_zero h0
    have := run_copy_none (P := Tryd.prog) w 22 22 ty 5 (some ⟨g, 0, none⟩) p 64 64 0 c Tryd.underlying22 size_u8 rfl
    exact ⟨w, this, hg, ⟨rfl, rfl, rfl, Nat.le_refl _, fun _ _ _ => rfl⟩⟩
  · obtain ⟨b, o, rfl, hcell⟩ := hb.1 h0
    have hn : (Bs l).length = Nat.min l.length 64 := by rw [Bs_len]; exact (Nat.min_eq_left hl).symm
    have := run_copy_row (P := Tryd.prog) w 22 22 ty 5 g 0 64 64 ⟨b, o, none⟩ l.length c _ 66 (Bs l) Tryd.underlying22 size_u8 hg hn (bin_news hb) (by simp [Bs]; omega) (Bs_oneCell l)
    rw [Bs_len] at this
    refine ⟨_, this, ?_, grown_setRow _ _ _⟩
    rw [setRow_heap w g _ _ _ _ hg]
    have e : (Bs (List.replicate 64 0)).take 0 ++ Bs l ++ (Bs (List.replicate 64 0)).drop (0 + l.length) = Bs (l ++ List.replicate (64 - l.length) 0) := by
      rw [List.take_zero, List.nil_append, Nat.zero_add]
      unfold Bs
      rw [← List.map_drop, List.drop_replicate, ← List.map_append]
    exact congrArg (fun z => some (Obj.cells (List.toArray z) 66 (0, 0))) e
set_option maxHeartbeats 1000000 in
set_option maxRecDepth 100000 in
theorem keyOf_any (p : Option Addr) (c : Nat) (xs : List Nat) (w : World) (hk : KOn w) (hb : BIn w p xs) (hc : xs.length ≤ c) (hsz : xs.length < 1152921504606840000) :
    Calls Tryd.prog 38 #[.slice p xs.length c] w fun e w' => e = .returned (.agg (Bs (keyN xs)).toArray) ∧ Below w.heap.size w w' := by
  have hkl := keyN_len xs
  have hKs : (Tryd.prog.info? 66).map (·.size) = some (Bs (keyN xs)).toArray.size := by rw [size_block]; simp [Bs, hkl]
  have B2 := below_al2 w (Obj.cells (Bs (List.replicate 64 0)).toArray 66) (Obj.cells (Bs (List.replicate 64 0)).toArray 66)
  have N0 := al2_0 w (Obj.cells (Bs (List.replicate 64 0)).toArray 66) (Obj.cells (Bs (List.replicate 64 0)).toArray 66)
  have N1 := al2_1 w (Obj.cells (Bs (List.replicate 64 0)).toArray 66) (Obj.cells (Bs (List.replicate 64 0)).toArray 66)
  go_enter Tryd.func38, Tryd.ntmps38
  by_cases h64 : xs.length ≤ 64
  · have hI : ¬ ((64 : Int) < (xs.length : Int)) := by omega
    have hkey : Hid (keyN xs = xs ++ List.replicate (64 - xs.length) 0) := by show _ = _; unfold keyN; rw [if_neg (by omega)]
    go_upto_region 5 with fail
    change Code.wp _ _ _ _ ((w.alloc (Obj.cells (Bs (List.replicate 64 0)).toArray 66)).alloc (Obj.cells (Bs (List.replicate 64 0)).toArray 66))
    generalize (w.alloc (Obj.cells (Bs (List.replicate 64 0)).toArray 66)).alloc (Obj.cells (Bs (List.replicate 64 0)).toArray 66) = W at B2 N0 N1 ⊢
    obtain ⟨w9, hrun, hrow9, hg9⟩ := copy_key W (w.heap.size + 1) 3 p c xs h64 (hb.below B2) N1
    have hsl := slice_block (w.heap.size + 1)
    go_upto_region 6 with (at_builtin; refine wpList_copy_is rfl _ _ 22 22 rfl rfl rfl hrun ?_)
    have M0 : w9.heap[w.heap.size]? = some (.cells (Bs (List.replicate 64 0)).toArray 66 (0, 0)) := (hg9.block _ (Array.getElem?_eq_some_iff.1 N0).1 (by simp)).trans N0
    have HS := setRow_heap w9 _ _ (Bs (keyN xs)).toArray 66 (0, 0) M0
    rw [← hkey.out] at hrow9
    go_step
    refine wpList_load_row rfl 66 (.tmp 3) rfl _ (by rfl) 66 _ _ _ hrow9 Tryd.underlying66 rfl hKs ?_
    refine wpList_store_row rfl 66 (.tmp 2) (.tmp 15) rfl _ _ (by rfl) (by rfl) 66 _ M0 hKs (by simp [Bs, hkl]) (one_cell_bs _) ?_
    go_wp2
    refine bodyPost_ret (results_cell_row rfl _ _ w.heap.size 66 (Bs (keyN xs)).toArray (0, 0) _ (by rfl) HS Tryd.underlying66 rfl hKs) rfl ⟨rfl, ?_⟩
    exact below_setRow (B2.grown hg9 (B2.size) (fun k hk' => by cases hk'; omega)) (Nat.le_refl _)
  · have hI : (64 : Int) < (xs.length : Int) := by omega
    have hkey : Hid (keyN xs = digN xs ++ List.replicate (64 - (digN xs).length) 0) := by show _ = _; unfold keyN; rw [if_pos (by omega)]
    have hDl := digN_len xs
    have hDs : (Tryd.prog.info? 23).map (·.size) = some (Bs (digN xs)).toArray.size := by rw [size_dig]; simp [Bs, digN_len]
    go_upto_region 3 with fail
    change Code.wp _ _ _ _ ((w.alloc (Obj.cells (Bs (List.replicate 64 0)).toArray 66)).alloc (Obj.cells (Bs (List.replicate 64 0)).toArray 66))
    generalize (w.alloc (Obj.cells (Bs (List.replicate 64 0)).toArray 66)).alloc (Obj.cells (Bs (List.replicate 64 0)).toArray 66) = W at B2 N0 N1 ⊢
    have B3 : Below W.heap.size W (W.alloc (Obj.cells #[Value.slice p xs.length c] 22)) := (Below.refl _ _).alloc (Nat.le_refl _) _
    have HC := digest_any W.heap.size [xs] [.slice p xs.length c] (W.alloc (Obj.cells #[Value.slice p xs.length c] 22)) ((hk.below B2 hk.pos).below B3 (hk.below B2 hk.pos).pos) rfl (fun i v hv => by
      match i, hv with
      | 0, hv =>
        simp only [List.getElem?_cons_zero, Option.some.injEq] at hv
        subst hv
        exact ⟨by rw [cell_of_row _ _ _ _ _ _ (_root_.Go.heap_alloc_new _ _)]; rfl, pc_of_bin hc (hb.below B2) B3⟩) (by simpa [catN] using hsz) (show 1 < 1000 by decide)
    rw [show catN [xs] = xs from by simp [catN]] at HC
    go_wp2_with fail
    refine HC.mono ?_
    rintro e w1 ⟨rfl, hb1⟩
    have B1 : Below W.heap.size W w1 := B3.trans ⟨hb1.os, hb1.tape, hb1.output, hb1.size, fun k hk' => hb1.block k (by simp; omega)⟩
    simp only []
    go_step
    go_step
    go_step
    go_step
    refine wpList_store_row rfl 23 (.tmp 4) (.tmp 10) rfl w1.heap.size (Bs (digN xs)).toArray (by rfl) (by rfl) 23 _ (_root_.Go.heap_alloc_new _ _) hDs (by simp [Bs, hDl]) (one_cell_bs _) ?_
    rw [World.setRow_alloc_new]
    have B4 : Below W.heap.size W (w1.alloc (Obj.cells (Bs (digN xs)).toArray 23)) := B1.alloc B1.size _
    have BD : BIn (w1.alloc (Obj.cells (Bs (digN xs)).toArray 23)) (some ⟨w1.heap.size, 0, none⟩) (digN xs) := bin_dig (_root_.Go.heap_alloc_new _ _) (digN_byte xs)
    have hsd := slice_dig w1.heap.size
    replace N0 := (B4.block _ (Array.getElem?_eq_some_iff.1 N0).1).trans N0
    replace N1 := (B4.block _ (Array.getElem?_eq_some_iff.1 N1).1).trans N1
    replace B2 := B2.trans ⟨B4.os, B4.tape, B4.output, B4.size, fun k hk' => B4.block k (Nat.lt_of_lt_of_le hk' B2.size)⟩
    generalize w1.heap.size = g1 at BD hsd ⊢
    generalize w1.alloc (Obj.cells (Bs (digN xs)).toArray 23) = W4 at B2 N0 N1 BD ⊢
    clear B4 B1 hb1 HC B3 hI
    obtain ⟨w9, hrun, hrow9, hg9⟩ := copy_key W4 (w.heap.size + 1) 3 (some ⟨g1, 0, none⟩) 32 (digN xs) (by omega) BD N1
    rw [hDl] at hrun
    have hsl := slice_block (w.heap.size + 1)
    go_upto_region 6 with (at_builtin; refine wpList_copy_is rfl _ _ 22 22 rfl rfl rfl hrun ?_)
    have M0 : w9.heap[w.heap.size]? = some (.cells (Bs (List.replicate 64 0)).toArray 66 (0, 0)) := (hg9.block _ (Array.getElem?_eq_some_iff.1 N0).1 (by simp)).trans N0
    have HS := setRow_heap w9 _ _ (Bs (keyN xs)).toArray 66 (0, 0) M0
    rw [← hkey.out] at hrow9
    go_step
    refine wpList_load_row rfl 66 (.tmp 3) rfl _ (by rfl) 66 _ _ _ hrow9 Tryd.underlying66 rfl hKs ?_
    refine wpList_store_row rfl 66 (.tmp 2) (.tmp 15) rfl _ _ (by rfl) (by rfl) 66 _ M0 hKs (by simp [Bs, hkl]) (one_cell_bs _) ?_
    go_wp2
    refine bodyPost_ret (results_cell_row rfl _ _ w.heap.size 66 (Bs (keyN xs)).toArray (0, 0) _ (by rfl) HS Tryd.underlying66 rfl hKs) rfl ⟨rfl, ?_⟩
    exact below_setRow (B2.grown hg9 (B2.size) (fun k hk' => by cases hk'; omega)) (Nat.le_refl _)
end Go.Proofs.YtoagaddciapmkaaDoor
