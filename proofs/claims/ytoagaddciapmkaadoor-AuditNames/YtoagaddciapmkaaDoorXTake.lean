/-
  Bytes taken in: the program's.
-/
import Derived.Test.YtoagaddciapmkaaDoorXRun
import Derived.Laws.CopyRow
import Derived.Laws.CopyOwn
import Derived.Deep.MidRow
namespace Go.Proofs.YtoagaddciapmkaaDoor
open Go.RowKit Go.WideShapes

theorem size_u8 : (Tryd.prog.info? 5).map (·.size) = some 1 := by kernel_rfl
theorem grown_drew (a : World) (r : Option Nat) : a.grownBy a.drew r := ⟨rfl, rfl, rfl, Nat.le_refl _, fun _ _ _ => rfl⟩
theorem grown_setRow (w : World) (g : Nat) (cs : Array Value) : w.grownBy (w.setRow g cs) (some g) :=
  ⟨rfl, rfl, rfl, by simp, fun x _ hx => setRow_other w g x cs (fun e => hx (by rw [e]))⟩
theorem grown_trans {a b c : World} {r : Option Nat} (h : a.grownBy b r) (k : b.grownBy c r) : a.grownBy c r :=
  ⟨k.os.trans h.os, k.tape.trans h.tape, k.output.trans h.output, Nat.le_trans h.size k.size, fun x hx hr => (k.block x (Nat.lt_of_lt_of_le hx h.size) hr).trans (h.block x hx hr)⟩
theorem grown_below {a b : World} (h : Below a.heap.size a b) (r : Option Nat) : a.grownBy b r := ⟨h.os, h.tape, h.output, h.size, fun k hk _ => h.block k hk⟩
theorem bin_grown {w w' : World} {g : Nat} {p : Option Addr} {xs : List Nat} (h : BIn w p xs) (hg : w.grownBy w' (some g)) (hne : ∀ b o, p = some ⟨b, o, none⟩ → 0 < xs.length → b ≠ g) : BIn w' p xs := by
  refine ⟨fun hx => ?_, h.2⟩
  obtain ⟨b, o, rfl, hc⟩ := h.1 hx
  exact ⟨b, o, rfl, fun i hi => hg.cell (hc i hi) (fun e => hne b o rfl hx (Option.some.inj e))⟩
/-- How long a slice is. -/
def lenV : Value → Nat
  | .slice _ n _ => n
  | _ => 0
theorem lenV_slice (p : Option Addr) (n c : Nat) : lenV (.slice p n c) = n := rfl
/-- copy into a row that is known whole: that row alone turns. -/
theorem step_copy_grown {P : Program} {ops : Array Oper} {o : Oper} {a : Act} {w : World} {K : Act → World → Prop} {Q : Exit → Act → World → Prop} {E : Prop} (hgd : o.guard = none) (d s : Operand) (dT sT : TypeId)
    (ho : o.op = .call { callee := .builtin .copy, args := #[d, s], argTypes := #[dT, sT] }) (elem : TypeId) (hu : P.underlying dT = some (.slice elem)) (hsz : (P.info? elem).map (·.size) = some 1)
    (g off : Nat) (ad : Addr) (dLen dCap sLen sCap : Nat) (hd : a.eval d = .slice (some ⟨g, off, none⟩) dLen dCap) (hs : a.eval s = .slice (some ad) sLen sCap)
    (cur : List Value) (t : TypeId) (hg : w.heap[g]? = some (.cells cur.toArray t (0, 0))) (cs : List Value) (hn : cs.length = Nat.min sLen dLen)
    (hsrc : ∀ j v, cs[j]? = some v → w.cell? (ad.add j) = some v) (hfit : off + cs.length ≤ cur.length) (h1 : ∀ v ∈ cs, v.oneCell' = true)
    (h : ∀ w', Hid (w'.heap[g]? = some (.cells (cur.take off ++ cs ++ cur.drop (off + cs.length)).toArray t (0, 0))) → w.grownBy w' (some g) → K (a.put o.dst (goInt cs.length)) w') :
    if Region.wanted o (yielded ops a.tmps) = true then Oper.wp P o a w K Q else E := by
  have hw : Region.wanted o (yielded ops a.tmps) = true := by simp [Region.wanted, hgd]
  rw [if_pos hw]
  have hrun := run_copy_row (P := P) w dT sT o.type elem g off dLen dCap ad sLen sCap cur.toArray t cs hu hsz hg hn hsrc (by simpa using hfit) h1
  unfold Oper.wp
  simp [execOp, ho, resolve, invoke, builtin, hd, hs, hrun, Result.andThen]
  exact h _ (show _ = _ by simpa using setRow_heap w g _ _ t _ hg) (by simpa using grown_setRow w g _)

theorem slice_blk (g m : Nat) (hm : m < 64) : ∀ w, (Instr.sliceAt 66 (.pointer (some ⟨g, 8, none⟩)) (some (.int .u64 (m : Int))) none none).run Tryd.prog w = .ok (.slice (some ⟨g, 8 + m, none⟩) (64 - m) (64 - m)) w := by
  intro w
  have h2 : ¬ (64 = m) := by omega
  simp [Instr.sliceAt, Instr.sliceBounds, Instr.sliceBound, asIntOf, run_underlying Tryd.underlying66, h2, Instr.sureAddr, go_sem, Addr.add]
  rw [if_pos (by omega)]
  by_cases h0 : m = 0
  · subst h0; simp
  · simp [h0]
theorem load_words {w : World} {g n : Nat} {H blk : List Nat} (hH : H.length = 8) (h : w.heap[g]? = some (.cells (rowR H blk n).toArray 93 (0, 0))) : (loadCellsFrom ⟨g, 0, none⟩ 0 8 #[]).run Tryd.prog w = .ok (Ws H).toArray w := by
  have := run_loadCells_list (P := Tryd.prog) w ⟨g, 0, none⟩ (Ws H) (fun j v hv => by
    rw [add_plain, Nat.zero_add, cell_of_row _ _ _ _ _ _ h]; exact rowR_atW hv)
  rw [Ws_len, hH] at this
  simpa [loadCells] using this
theorem load_block {w : World} {g n : Nat} {H blk : List Nat} (hH : H.length = 8) (hb : blk.length = 64) (h : w.heap[g]? = some (.cells (rowR H blk n).toArray 93 (0, 0))) : (loadCellsFrom ⟨g, 8, none⟩ 0 64 #[]).run Tryd.prog w = .ok (Bs blk).toArray w := by
  have := run_loadCells_list (P := Tryd.prog) w ⟨g, 8, none⟩ (Bs blk) (fun j v hv => by
    rw [add_plain, cell_of_row _ _ _ _ _ _ h]; exact rowR_atB hH hv)
  rw [Bs_len, hb] at this
  simpa [loadCells] using this
theorem store_words {w : World} {g n : Nat} {H R blk : List Nat} (hH : H.length = 8) (hR : R.length = 8) (h : w.heap[g]? = some (.cells (rowR H blk n).toArray 93 (0, 0))) : (storeCells ⟨g, 0, none⟩ (Ws R) 0).run Tryd.prog w = .ok () (w.setRow g (rowR R blk n).toArray) := by
  have := run_storeCells_at Tryd.prog g 0 93 (Ws R) 0 _ w h (by simp [rowR, Ws, Bs, hH, hR]) (fun v hv => by simp [Ws] at hv; obtain ⟨a, _, rfl⟩ := hv; rfl)
  rw [this]
  congr 2
  have e := rowR_words (blk := blk) (n := n) hH hR
  simpa using e
/-- Between the rounds. -/
inductive TakeI (w : World) (g : Nat) (X xs : List Nat) (v : Value) (wr : World) : Prop where
  | intro (X' ys : List Nat) (p' : Option Addr) (c' : Nat) (hv : v = .slice p' ys.length c') (hc : ys.length ≤ c') (he : X ++ xs = X' ++ ys) (hb : BIn wr p' ys) (hn : ∀ b o, p' = some ⟨b, o, none⟩ → 0 < ys.length → b ≠ g) (hr : RunX wr g X') (hg : w.grownBy wr (some g))
theorem list8 : ∀ {l : List Nat}, l.length = 8 → ∃ a b c d e f g h, l = [a, b, c, d, e, f, g, h]
  | [a, b, c, d, e, f, g, h], _ => ⟨a, b, c, d, e, f, g, h, rfl⟩
set_option maxHeartbeats 1000000 in
set_option maxRecDepth 100000 in
theorem take_any (g : Nat) (X xs : List Nat) (p : Option Addr) (cap : Nat) (w : World) (hk : KOn w) (hg0 : g ≠ 0) (hrun : RunX w g X) (hb : BIn w p xs) (hne : ∀ b o, p = some ⟨b, o, none⟩ → 0 < xs.length → b ≠ g) (hcap : xs.length ≤ cap) (hsz : X.length + xs.length < 1152921504606846976) :
    Calls Tryd.prog 60 #[.pointer (some ⟨g, 0, none⟩), .slice p xs.length cap] w fun e w' => e = .returned (.tuple #[]) ∧ RunX w' g (X ++ xs) ∧ w.grownBy w' (some g) := by
  go_enter Tryd.func60, Tryd.ntmps60
  go_wp2
  go_loopw [1] (fun v wr => TakeI w g X xs v wr)
    (fun v _ => lenV v)
  case atStart => exact ⟨X, xs, p, cap, rfl, hcap, rfl, hb, hne, hrun, ⟨rfl, rfl, rfl, Nat.le_refl _, fun _ _ _ => rfl⟩⟩
  case round =>
    obtain ⟨X', ys, p', c', rfl, hc', hE, hby, hny, hrx, hgr⟩ := hrel
    have hlen : X.length + xs.length = X'.length + ys.length := by rw [← List.length_append, hE, List.length_append]
    have HE : Hid _ := hE
    clear hb hne hrun hcap hE
    by_cases hpos : 0 < ys.length
    · obtain ⟨b, o, rfl, hcell⟩ := hby.1 hpos
      have hbg : b ≠ g := hny b o rfl hpos
      obtain ⟨H, blk, hok, hrow⟩ := hrx
      have hH := hok.hlen
      obtain ⟨n, hn⟩ : ∃ n, X'.length = n := ⟨_, rfl⟩
      rw [hn] at hrow
      have c72 : wr.cell? ⟨g, 72, none⟩ = some (.int .u64 (n : Int)) := by rw [cell_of_row _ _ _ _ _ _ hrow]; exact rowR_at72 hH hok.len
      obtain ⟨m, hm⟩ : ∃ m, n % 64 = m := ⟨_, rfl⟩
      have hmI : (n : Int) % 64 = (m : Int) := by omega
      have hmT : (n : Int).tmod 64 = (m : Int) := by rw [Int.tmod_eq_emod_of_nonneg (by omega)]; omega
      have hm64 : m < 64 := by omega
      have hsl := slice_blk g m hm64
      have hmL : (m : Int) < 64 := by omega
      have hpI : (0 : Int) < (ys.length : Int) := by omega
      have hnI : (n : Int) < 1152921504606846976 := by omega
      have HR : Hid _ := hrow
      obtain ⟨c, hc⟩ : ∃ c, Nat.min ys.length (64 - m) = c := ⟨_, rfl⟩
      have hcy : c ≤ ys.length := by rw [← hc]; exact Nat.min_le_left _ _
      have hcm1 : c ≤ 64 - m := by rw [← hc]; exact Nat.min_le_right _ _
      have hcm : m + c ≤ 64 := by omega
      have hc0 : 0 < c := by have : 0 < Nat.min ys.length (64 - m) := Nat.lt_min.2 ⟨hpos, by omega⟩; omega
      have hBl : (Bs (ys.take c)).length = c := by rw [Bs_len, List.length_take]; omega
      have hl : Hid ((Bs (ys.take c)).length = Nat.min ys.length (64 - m)) := by show _ = _; rw [hBl, hc]
      have hsrc : Hid (∀ j v, (Bs (ys.take c))[j]? = some v → wr.cell? ((⟨b, o, none⟩ : Addr).add j) = some v) := fun j v hv => by
        refine bin_news hby j v ?_
        have hj : j < c := by rw [← hBl]; exact (List.getElem?_eq_some_iff.1 hv).1
        unfold Bs at hv ⊢
        rw [List.getElem?_map] at hv ⊢
        rw [List.getElem?_take_of_lt hj] at hv
        exact hv
      have hf : Hid (8 + m + (Bs (ys.take c)).length ≤ (rowR H blk n).length) := by show _ ≤ _; rw [hBl, rowR_len n hH hok.len]; omega
      have HBl : Hid _ := hBl
      have HRC : Hid ((rowR H blk n).take (8 + m) ++ Bs (ys.take c) ++ (rowR H blk n).drop (8 + m + (Bs (ys.take c)).length) = rowR H (blkN blk ys m c) n) := by show _ = _; rw [hBl]; exact rowR_copy hH hok.len hcm
      have HC : Hid _ := hc
      have HN : Hid _ := hn
      have HM : Hid _ := hm
      clear hrow hc hBl hn hm
      go_upto_region 1 with fail
      go_region_held3 (fun w' => w'.cell? ⟨g, 72, none⟩ = some (.int .u64 (n : Int))) (first | go_keep | exact (by rw [cell_of_row _ _ _ _ _ _ hrow2.out, HRC.out]; exact rowR_at72 hH (blkN_len hok.len hcy hcm)))
        (first
          | (refine step_copy_grown (by rfl) (.tmp 16) (.tmp 17) 22 22 (by rfl) 5 Tryd.underlying22 size_u8 g (8 + m) ⟨b, o, none⟩ (64 - m) (64 - m) ys.length c' (by simp [Act.eval]) (by simp [Act.eval]) (rowR H blk n) 93 HR.out (Bs (ys.take c)) hl.out hsrc.out hf.out (Bs_oneCell _) ?_; intro w2 hrow2 hg2)
          | fail)
      rw [HBl.out]
      have R2 : Hid (w2.heap[g]? = some (.cells (rowR H (blkN blk ys m c) n).toArray 93 (0, 0))) := by show _ = _; rw [← HRC.out]; exact hrow2.out
      have G2 : w.grownBy w2 (some g) := grown_trans hgr ((by first | exact hg2 | exact grown_trans (grown_drew _ _) hg2 | exact grown_trans (grown_drew _ _) (grown_trans (grown_drew _ _) hg2)) : wr.grownBy w2 (some g))
      have G2w : wr.grownBy w2 (some g) := (by first | exact hg2 | exact grown_trans (grown_drew _ _) hg2)
      have hb2 := bin_grown hby G2w hny
      have hlB := blkN_len (m := m) hok.len hcy hcm
      have c72' : w2.cell? ⟨g, 72, none⟩ = some (.int .u64 (n : Int)) := by rw [cell_of_row _ _ _ _ _ _ R2.out]; exact rowR_at72 hH hlB
      have f72 : w2.frozen? ⟨g, 72, none⟩ = false := frozen_of_row w2 _ _ _ _ R2.out
      have R3 : Hid ((w2.setCell ⟨g, 72, none⟩ (.int .u64 ((n : Int) + (c : Int)))).heap[g]? = some (.cells (rowR H (blkN blk ys m c) (n + c)).toArray 93 (0, 0))) := by
        show _ = _
        rw [heap_setCell_same w2 g 72 _ _ _ R2.out, show ((n : Int) + (c : Int)) = ((n + c : Nat) : Int) from by omega, rowR_size hH hlB]
      have G3 : w.grownBy (w2.setCell ⟨g, 72, none⟩ (.int .u64 ((n : Int) + (c : Int)))) (some g) := grown_trans G2 ⟨rfl, rfl, rfl, by simp, fun k _ hk => heap_setCell_other w2 ⟨g, 72, none⟩ k _ (fun e => hk (by rw [e]))⟩
      have b3 : BIn (w2.setCell ⟨g, 72, none⟩ (.int .u64 ((n : Int) + (c : Int)))) (some ⟨b, o, none⟩) ys := bin_grown hb2 ⟨rfl, rfl, rfl, by simp, fun k _ hk => heap_setCell_other w2 ⟨g, 72, none⟩ k _ (fun e => hk (by rw [e]))⟩ hny
      obtain ⟨A, hA⟩ : ∃ A, (if c' = c then (some ⟨b, o, none⟩ : Option Addr) else some ⟨b, o + c, none⟩) = A := ⟨_, rfl⟩
      have hcI : (c : Int) ≤ (ys.length : Int) := by omega
      have hcI0 : (0 : Int) ≤ (c : Int) := by omega
      have HA : Hid _ := hA
      clear hrow2 hg2 G2w hby c72 hcell hb2
      have hnc : (n : Int) + (c : Int) < 1152921504606846976 + 64 := by omega
      have hXl : X'.length = n := HN.out
      have hm2 : n % 64 = m := HM.out
      have bA : BIn (w2.setCell ⟨g, 72, none⟩ (.int .u64 ((n : Int) + (c : Int)))) A (ys.drop c) := by
        refine ⟨fun hp => ?_, fun x hx => b3.2 x (List.mem_of_mem_drop hx)⟩
        have hlt : c < ys.length := by rw [List.length_drop] at hp; omega
        refine ⟨b, o + c, by rw [← HA.out, if_neg (by omega)], fun i hi => ?_⟩
        rw [List.length_drop] at hi
        rw [Nat.add_assoc, b3.cell (c + i) (by omega)]
        simp [List.getD]
      have nA : ∀ b' o', A = some ⟨b', o', none⟩ → 0 < (ys.drop c).length → b' ≠ g := by
        intro b' o' e hp
        have hlt : c < ys.length := by rw [List.length_drop] at hp; omega
        rw [← HA.out, if_neg (by omega)] at e
        simp only [Option.some.injEq, Addr.mk.injEq, and_true] at e
        rw [← e.1]; exact hbg
      have HE2 : Hid (X ++ xs = (X' ++ ys.take c) ++ ys.drop c) := by show _ = _; rw [HE.out, List.append_assoc, List.take_append_drop]
      have hdl : (ys.drop c).length = ys.length - c := List.length_drop
      have hXc : (X' ++ ys.take c).length = n + c := by rw [List.length_append, List.length_take, hXl]; omega
      by_cases hfull : m + c = 64
      · have hrem : ((n : Int) + (c : Int)) % 64 = 0 := by omega
        have hremT : ((n : Int) + (c : Int)).tmod 64 = 0 := by rw [Int.tmod_eq_emod_of_nonneg (by omega)]; omega
        have hok2 := hok.full (ys := ys) b3.2 hcy (by rw [hXl, hm2]; exact hfull)
        rw [hXl, hm2] at hok2
        go_upto_region 5 with fail
        have hR5 := R3.out
        generalize hW3 : w2.setCell ⟨g, 72, none⟩ (.int .u64 ((n : Int) + (c : Int))) = w3 at hR5 G3 bA
        have K3 : KOn w3 := fun i hi => G3.cell (hk i hi) (fun e => hg0 (Option.some.inj e).symm)
        have hgl : g < w3.heap.size := (Array.getElem?_eq_some_iff.1 hR5).1
        have hRl := roundN_len (h := H) (blkN blk ys m c) hH
        have HC : ∀ w', KOn w' → Calls Tryd.prog 75 #[.agg (Ws H).toArray, .agg (Bs (blkN blk ys m c)).toArray] w' fun e w'' => e = .returned (.agg (Ws (roundN H (blkN blk ys m c))).toArray) ∧ Below w'.heap.size w' w'' := fun w' hK => mixed_any H (blkN blk ys m c) w' hK hH hok.hword hlB (blkN_byte hok.byt b3.2)
        have LB : Hid (∀ w' : World, w'.heap[g]? = w3.heap[g]? → w'.rangeAt g 8 (Bs (blkN blk ys m c))) := fun w' e j v hv => by
          rw [cell_of_row _ _ _ _ _ _ (e.trans hR5)]; exact rowR_atB hH hv
        have hu39 := Tryd.underlying66
        have hi39 : (Tryd.prog.info? 66).map (·.size) = some (Bs (blkN blk ys m c)).length := by rw [size_block, Bs_len, hlB]
        have HCk := HC w3.drew (fun i hi => K3 i hi)
        generalize hBK : blkN blk ys m c = BK at hR5 hRl HCk LB hi39 hok2
        generalize hRN : roundN H BK = R at hRl HCk hok2
        have hRs : (Ws R).length = 8 := by rw [Ws_len, hRl]
        have LB2 : Hid (∀ w' : World, w'.heap[g]? = w3.heap[g]? → (w'.setRow g (rowR R BK (n + c)).toArray).rangeAt g 8 (Bs BK)) := fun w' e j v hv => by
          rw [cell_of_row _ _ _ _ _ _ (setRow_heap w' g _ _ _ _ (e.trans hR5))]; exact rowR_atB hRl hv
        have L0 : w3.rangeAt g 8 (Bs BK) := LB.out w3 rfl
        obtain ⟨h0, h1, h2, h3, h4, h5, h6, h7, hHe⟩ := list8 hH
        have HCd : Calls Tryd.prog 75 #[.agg #[Value.int IntKind.u32 (h0 : Int), Value.int IntKind.u32 (h1 : Int), Value.int IntKind.u32 (h2 : Int), Value.int IntKind.u32 (h3 : Int), Value.int IntKind.u32 (h4 : Int), Value.int IntKind.u32 (h5 : Int), Value.int IntKind.u32 (h6 : Int), Value.int IntKind.u32 (h7 : Int)], .agg (Bs BK).toArray] w3.drew fun e w'' => e = .returned (.agg (Ws R).toArray) ∧ Below w3.drew.heap.size w3.drew w'' := by rw [hHe] at HCk; exact HCk
        have HR5 : Hid _ := hR5
        rw [hHe] at hR5
        have s0 : w3.cell? ⟨g, 0, none⟩ = some (.int .u32 (h0 : Int)) := by rw [cell_of_row _ _ _ _ _ _ hR5]; rfl
        have s1 : w3.cell? ⟨g, 1, none⟩ = some (.int .u32 (h1 : Int)) := by rw [cell_of_row _ _ _ _ _ _ hR5]; rfl
        have s2 : w3.cell? ⟨g, 2, none⟩ = some (.int .u32 (h2 : Int)) := by rw [cell_of_row _ _ _ _ _ _ hR5]; rfl
        have s3 : w3.cell? ⟨g, 3, none⟩ = some (.int .u32 (h3 : Int)) := by rw [cell_of_row _ _ _ _ _ _ hR5]; rfl
        have s4 : w3.cell? ⟨g, 4, none⟩ = some (.int .u32 (h4 : Int)) := by rw [cell_of_row _ _ _ _ _ _ hR5]; rfl
        have s5 : w3.cell? ⟨g, 5, none⟩ = some (.int .u32 (h5 : Int)) := by rw [cell_of_row _ _ _ _ _ _ hR5]; rfl
        have s6 : w3.cell? ⟨g, 6, none⟩ = some (.int .u32 (h6 : Int)) := by rw [cell_of_row _ _ _ _ _ _ hR5]; rfl
        have s7 : w3.cell? ⟨g, 7, none⟩ = some (.int .u32 (h7 : Int)) := by rw [cell_of_row _ _ _ _ _ _ hR5]; rfl
        have HOK2 : Hid _ := hok2
        have HbA : Hid _ := bA
        have HnA : Hid _ := nA
        have HG3 : Hid _ := G3
        have HHdl : Hid _ := hdl
        have HXc : Hid _ := hXc
        clear R3 hR5 HC HCk hok2 bA nA G3 hrem hremT hlen hny hgr G2 hsz hRN hBK hok f72 c72' hW3 K3 hdl hXc hm2 hXl hHe
        refine wp_region_noPanic ?_
        refine wp_region_held_drew (S := fun w' => w'.rangeAt g 8 (Bs BK)) (by kernel_rfl) L0 (fun hHeld => ?_)
        refine wpAnyH_take (i := 0) (oi := { dst := some 37, op := Op.move (Operand.tmp 0), type := 107, pos := "digest.go:63", after := #[], guard := none }) (v := ?_) rfl (by kernel_rfl) (by kernel_rfl) (by kernel_rfl) (fun _ _ _ h => h) (Or.inl ⟨by rfl, ?_⟩) (by assumption) ?_
        rotate_left
        · intro w' hSw
          go_simp
          all_goals with_reducible rfl
        simp only [Act.put, List.setIfInBounds_toArray, List.set_cons_zero, List.set_cons_succ]
        refine wpAnyH_take (i := 1) (oi := { dst := some 38, op := Op.move (Operand.tmp 0), type := 107, pos := "digest.go:63", after := #[], guard := none }) (v := ?_) rfl (by kernel_rfl) (by kernel_rfl) (by kernel_rfl) (fun _ _ _ h => h) (Or.inl ⟨by rfl, ?_⟩) (by assumption) ?_
        rotate_left
        · intro w' hSw
          go_simp
          all_goals with_reducible rfl
        simp only [Act.put, List.setIfInBounds_toArray, List.set_cons_zero, List.set_cons_succ]
        refine wpAnyH_take (i := 2) (oi := { dst := some 39, op := Op.nilCheck (Operand.tmp 38), type := 0, pos := "digest.go:63", after := #[{ on := 1, ground := Ground.data }], guard := none }) (v := ?_) rfl (by kernel_rfl) (by kernel_rfl) (by kernel_rfl) (fun _ _ _ h => h) (Or.inl ⟨by rfl, ?_⟩) (by assumption) ?_
        rotate_left
        · intro w' hSw
          go_simp
          all_goals with_reducible rfl
        simp only [Act.put, List.setIfInBounds_toArray, List.set_cons_zero, List.set_cons_succ]
        refine wpAnyH_take (i := 3) (oi := { dst := some 40, op := Op.fieldAddr 93 (Operand.tmp 39) 0, type := 0, pos := "digest.go:63", after := #[{ on := 2, ground := Ground.data }], guard := none }) (v := ?_) rfl (by kernel_rfl) (by kernel_rfl) (by kernel_rfl) (fun _ _ _ h => h) (Or.inl ⟨by rfl, ?_⟩) (by assumption) ?_
        rotate_left
        · intro w' hSw
          go_simp
          all_goals with_reducible rfl
        simp only [Act.put, List.setIfInBounds_toArray, List.set_cons_zero, List.set_cons_succ]
        refine wpAnyH_take (i := 5) (oi := { dst := some 42, op := Op.move (Operand.tmp 0), type := 107, pos := "digest.go:63", after := #[], guard := none }) (v := ?_) rfl (by kernel_rfl) (by kernel_rfl) (by kernel_rfl) (fun _ _ _ h => h) (Or.inl ⟨by rfl, ?_⟩) (by assumption) ?_
        rotate_left
        · intro w' hSw
          go_simp
          all_goals with_reducible rfl
        simp only [Act.put, List.setIfInBounds_toArray, List.set_cons_zero, List.set_cons_succ]
        refine wpAnyH_take (i := 6) (oi := { dst := some 43, op := Op.nilCheck (Operand.tmp 42), type := 0, pos := "digest.go:63", after := #[{ on := 5, ground := Ground.data }], guard := none }) (v := ?_) rfl (by kernel_rfl) (by kernel_rfl) (by kernel_rfl) (fun _ _ _ h => h) (Or.inl ⟨by rfl, ?_⟩) (by assumption) ?_
        rotate_left
        · intro w' hSw
          go_simp
          all_goals with_reducible rfl
        simp only [Act.put, List.setIfInBounds_toArray, List.set_cons_zero, List.set_cons_succ]
        refine wpAnyH_take (i := 7) (oi := { dst := some 44, op := Op.fieldAddr 93 (Operand.tmp 43) 1, type := 0, pos := "digest.go:63", after := #[{ on := 6, ground := Ground.data }], guard := none }) (v := ?_) rfl (by kernel_rfl) (by kernel_rfl) (by kernel_rfl) (fun _ _ _ h => h) (Or.inl ⟨by rfl, ?_⟩) (by assumption) ?_
        rotate_left
        · intro w' hSw
          go_simp
          all_goals with_reducible rfl
        simp only [Act.put, List.setIfInBounds_toArray, List.set_cons_zero, List.set_cons_succ]
        refine wpAnyH_take (i := 8) (oi := { dst := some 45, op := Op.load 66 (Operand.tmp 44), type := 66, pos := "digest.go:63", after := #[{ on := 7, ground := Ground.data }], guard := none }) (v := .agg (Bs BK).toArray) rfl (by kernel_rfl) (by kernel_rfl) (by kernel_rfl) (fun _ _ _ h => h) (yieldsIf_load_mid (by rfl) _ _ rfl g 8 rfl (Bs BK) _ (fun w' hSw => hSw) hu39 rfl hi39) (by assumption) ?_
        simp only [Act.put, List.setIfInBounds_toArray, List.set_cons_zero, List.set_cons_succ]
        refine wpAnyH_ready (rs := [4]) (by kernel_rfl) (by simp) ?_
        refine AllReadyH.cons (o := { dst := some 41, op := Op.load 89 (Operand.tmp 40), type := 89, pos := "digest.go:63", after := #[{ on := 3, ground := Ground.data }], guard := none }) rfl (fun K hK => ?_) AllReadyH.nil
        go_simp
        refine hK.out _ _ hHeld (fun hHeld2 => ?_)
        clear hK K
        refine wpAnyH_ready (rs := [9]) (by kernel_rfl) (by simp) ?_
        refine AllReadyH.cons (o := { dst := some 46, op := Op.call { callee := Callee.value (Operand.func 75), args := #[Operand.tmp 41, Operand.tmp 45], argTypes := #[89, 66] }, type := 89, pos := "digest.go:63", after := #[{ on := 4, ground := Ground.data }, { on := 8, ground := Ground.data }], guard := none }) rfl (fun K hK => ?_) AllReadyH.nil
        go_simp
        refine HCd.mono ?_
        rintro e w5 ⟨rfl, hb5⟩
        have hr5 := (hb5.block g hgl).trans HR5.out
        have hst := store_words (R := R) hH hRl hr5
        simp only []
        refine hK.out _ _ (LB.out _ (hb5.block g hgl)) (fun hHeld3 => ?_)
        clear hK K
        refine wpAnyH_take (i := 10) (oi := { dst := some 47, op := Op.nilCheck (Operand.tmp 37), type := 0, pos := "digest.go:63", after := #[{ on := 0, ground := Ground.data }, { on := 0, ground := Ground.phase }, { on := 1, ground := Ground.phase }, { on := 2, ground := Ground.phase }, { on := 3, ground := Ground.phase }, { on := 4, ground := Ground.phase }, { on := 5, ground := Ground.phase }, { on := 6, ground := Ground.phase }, { on := 7, ground := Ground.phase }, { on := 8, ground := Ground.phase }, { on := 9, ground := Ground.phase }], guard := none }) (v := ?_) rfl (by kernel_rfl) (by kernel_rfl) (by kernel_rfl) (fun _ _ _ h => h) (Or.inl ⟨by rfl, ?_⟩) (by assumption) ?_
        rotate_left
        · intro w' hSw
          go_simp
          all_goals with_reducible rfl
        simp only [Act.put, List.setIfInBounds_toArray, List.set_cons_zero, List.set_cons_succ]
        refine wpAnyH_take (i := 11) (oi := { dst := some 48, op := Op.fieldAddr 93 (Operand.tmp 47) 0, type := 0, pos := "digest.go:63", after := #[{ on := 10, ground := Ground.data }, { on := 0, ground := Ground.phase }, { on := 1, ground := Ground.phase }, { on := 2, ground := Ground.phase }, { on := 3, ground := Ground.phase }, { on := 4, ground := Ground.phase }, { on := 5, ground := Ground.phase }, { on := 6, ground := Ground.phase }, { on := 7, ground := Ground.phase }, { on := 8, ground := Ground.phase }, { on := 9, ground := Ground.phase }], guard := none }) (v := ?_) rfl (by kernel_rfl) (by kernel_rfl) (by kernel_rfl) (fun _ _ _ h => h) (Or.inl ⟨by rfl, ?_⟩) (by assumption) ?_
        rotate_left
        · intro w' hSw
          go_simp
          all_goals with_reducible rfl
        simp only [Act.put, List.setIfInBounds_toArray, List.set_cons_zero, List.set_cons_succ]
        refine wpAnyH_ready (rs := [12]) (by kernel_rfl) (by simp) ?_
        refine AllReadyH.cons (o := { dst := none, op := Op.store 89 (Operand.tmp 48) (Operand.tmp 46), type := 0, pos := "digest.go:63", after := #[{ on := 11, ground := Ground.data }, { on := 9, ground := Ground.data }, { on := 9, ground := Ground.chain }, { on := 0, ground := Ground.phase }, { on := 1, ground := Ground.phase }, { on := 2, ground := Ground.phase }, { on := 3, ground := Ground.phase }, { on := 4, ground := Ground.phase }, { on := 5, ground := Ground.phase }, { on := 6, ground := Ground.phase }, { on := 7, ground := Ground.phase }, { on := 8, ground := Ground.phase }, { on := 9, ground := Ground.phase }], guard := none }) rfl (fun K hK => ?_) AllReadyH.nil
        go_simp
        refine hK.out _ _ (LB2.out _ (hb5.block g hgl)) (fun hHeld4 => ?_)
        clear hK K
        refine wpAnyH_done (by kernel_rfl) ?_ _
        refine NoPanic.normal ?_
        have hfin := setRow_heap w5 g _ (rowR R BK (n + c)).toArray _ _ hr5
        have G5 : w.grownBy (w5.setRow g (rowR R BK (n + c)).toArray) (some g) := grown_trans HG3.out (grown_trans (grown_trans (grown_drew _ _) (grown_below hb5 _)) (grown_setRow _ _ _))
        have G35 : w3.grownBy (w5.setRow g (rowR R BK (n + c)).toArray) (some g) := grown_trans (grown_trans (grown_drew _ _) (grown_below hb5 _)) (grown_setRow _ _ _)
        have bA5 := bin_grown HbA.out G35 HnA.out
        clear hst hr5 s0 s1 s2 s3 s4 s5 s6 s7
        go_wp2
        refine ⟨⟨X' ++ ys.take c, ys.drop c, A, c' - c, by rw [HHdl.out], by rw [HHdl.out]; omega, HE2.out, bA5, HnA.out, ⟨R, BK, HOK2.out, by rw [HXc.out]; exact hfin⟩, G5⟩, by simp only [lenV_slice]; omega⟩
      · have hok2 := hok.part (ys := ys) b3.2 hcy (by rw [hXl, hm2]; omega)
        rw [hXl, hm2] at hok2
        obtain ⟨r, hr⟩ : ∃ r, m + c = r := ⟨_, rfl⟩
        have hrem : ((n : Int) + (c : Int)) % 64 = (r : Int) := by omega
        have hremT : ((n : Int) + (c : Int)).tmod 64 = (r : Int) := by rw [Int.tmod_eq_emod_of_nonneg (by omega)]; omega
        have hmc : ¬ ((r : Int) = 0) := by omega
        have hmc' : ¬ (r = 0) := by omega
        have hmc2 : (((r : Int)) == 0) = false := by simp [hmc']
        have hmc3 : decide ((r : Int) = 0) = false := by simp [hmc']
        have HHdl : Hid _ := hdl
        have HXc : Hid _ := hXc
        clear hr hm2 hXl hdl hXc
        have HbA : Hid _ := bA
        have HnA : Hid _ := nA
        have Hok2 : Hid _ := hok2
        have HG3 : Hid _ := G3
        have Hlen : Hid _ := hlen
        clear bA nA hok2 G3 hlen hny b3 hok hgr G2 hsz
        go_wp2
        refine ⟨⟨X' ++ ys.take c, ys.drop c, A, c' - c, by rw [HHdl.out], by rw [HHdl.out]; omega, HE2.out, HbA.out, HnA.out, ⟨H, _, Hok2.out, by rw [HXc.out]; exact R3.out⟩, HG3.out⟩, by simp only [lenV_slice]; omega⟩
    · obtain rfl : ys = [] := List.eq_nil_of_length_eq_zero (by omega)
      go_wp2
      go_end0
      refine ⟨rfl, ?_, hgr⟩
      rw [HE.out, List.append_nil]; exact hrx
end Go.Proofs.YtoagaddciapmkaaDoor
