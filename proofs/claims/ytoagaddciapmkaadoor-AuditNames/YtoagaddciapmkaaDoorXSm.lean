/-
  Sum: the program's.
-/
import Derived.Test.YtoagaddciapmkaaDoorXDig
namespace Go.Proofs.YtoagaddciapmkaaDoor
open Go.RowKit Go.WideShapes

theorem pc_of_bin {w w' : World} {p : Option Addr} {c : Nat} {xs : List Nat} (hc : xs.length ≤ c) (hb : BIn w p xs) (hle : Below w.heap.size w w') : PcIn w' w'.heap.size (.slice p xs.length c) xs := by
  have h2 := hb.below hle
  refine ⟨p, c, rfl, hc, h2, fun b o e hp => ?_⟩
  obtain ⟨b', o', e', hcell⟩ := h2.1 hp
  rw [e] at e'
  simp only [Option.some.injEq, Addr.mk.injEq, and_true] at e'
  rw [e'.1]
  exact block_lt_of_cell (hcell 0 hp)
set_option maxHeartbeats 1000000 in
set_option maxRecDepth 100000 in
theorem sum_any (p : Option Addr) (c : Nat) (xs : List Nat) (w : World) (hk : KOn w) (hb : BIn w p xs) (hc : xs.length ≤ c) (hsz : xs.length < 1152921504606840000) :
    Calls Tryd.prog 10 #[.slice p xs.length c] w fun e w' => e = .returned (.agg (Bs (digN xs)).toArray) ∧ Below w.heap.size w w' := by
  have B2 := below_al2 w (Obj.cells (Bs (List.replicate 32 0)).toArray 23) (Obj.cells #[Value.slice p xs.length c] 22)
  have N0 := al2_0 w (Obj.cells (Bs (List.replicate 32 0)).toArray 23) (Obj.cells #[Value.slice p xs.length c] 22)
  have N1 := al2_1 w (Obj.cells (Bs (List.replicate 32 0)).toArray 23) (Obj.cells #[Value.slice p xs.length c] 22)
  have HC := digest_any (w.heap.size + 1) [xs] [.slice p xs.length c] _ (hk.below B2 hk.pos) rfl (fun i v hv => by
    match i, hv with
    | 0, hv =>
      simp only [List.getElem?_cons_zero, Option.some.injEq] at hv
      subst hv
      exact ⟨by rw [cell_of_row _ _ _ _ _ _ N1]; rfl, pc_of_bin hc hb B2⟩) (by simpa [catN] using hsz) (show 1 < 1000 by decide)
  rw [show catN [xs] = xs from by simp [catN]] at HC
  have hDs : (Tryd.prog.info? 23).map (·.size) = some (Bs (digN xs)).toArray.size := by rw [size_dig]; simp [Bs, digN_len]
  go_enter Tryd.func10, Tryd.ntmps10
  go_wp2_with fail
  refine HC.mono ?_
  rintro e w1 ⟨rfl, hb1⟩
  simp only []
  go_step
  have N2 : w1.heap[w.heap.size]? = _ := (hb1.block _ (by simp; omega)).trans N0
  have HS := setRow_heap w1 _ _ (Bs (digN xs)).toArray 23 (0, 0) N2
  refine wpList_store_row rfl 23 (.tmp 2) (.tmp 5) rfl _ (Bs (digN xs)).toArray (by rfl) (by rfl) 23 _ N2 hDs (by simp [Bs, digN_len]) (one_cell_bs _) ?_
  go_wp2
  refine bodyPost_ret (results_cell_row rfl _ _ w.heap.size 23 (Bs (digN xs)).toArray (0, 0) _ (by rfl) HS Tryd.underlying23 rfl hDs) rfl ⟨rfl, ?_⟩
  exact below_setRow (B2.trans ⟨hb1.os, hb1.tape, hb1.output, hb1.size, fun j hj => hb1.block j (by simp; omega)⟩) (Nat.le_refl _)
end Go.Proofs.YtoagaddciapmkaaDoor
