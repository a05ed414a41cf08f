/-
  The digest: the document's.
-/
import Derived.Test.YtoagaddciapmkaaDoorXDig
import Derived.Test.YtoagaddciapmkaaDoorXRLonger
import Derived.Test.YtoagaddciapmkaaDoorXRRound
namespace Go.Proofs.YtoagaddciapmkaaDoor
open Go.RowKit Go.WideShapes Go.Maps

theorem tailN_le (s : Nat) : (tailN s).length ≤ 72 := by
  unfold tailN
  rw [List.length_append, List.length_cons, List.length_replicate, be8_len]
  omega
theorem below_more {w w1 w2 : World} (h : Below w.heap.size w w1) (h2 : Below w1.heap.size w1 w2) : Below w.heap.size w w2 :=
  ⟨h2.os.trans h.os, h2.tape.trans h.tape, h2.output.trans h.output, Nat.le_trans h.size h2.size, fun j hj => (h2.block j (Nat.lt_of_lt_of_le hj h.size)).trans (h.block j hj)⟩
theorem bin_piece {w : World} {b o : Nat} {L : List Nat} (h : BIn w (some ⟨b, o, none⟩) L) (i n : Nat) (hi : i + n ≤ L.length) : BIn w (some ⟨b, o + i, none⟩) ((L.drop i).take n) :=
  ⟨fun _ => ⟨b, o + i, rfl, fun j hj => by
    rw [List.length_take, List.length_drop] at hj
    rw [Nat.add_assoc, h.cell (i + j) (by omega)]
    congr 3
    simp [List.getD, List.getElem?_drop, show j < n by omega]⟩, fun c hc => h.2 c (List.mem_of_mem_drop (List.mem_of_mem_take hc))⟩
theorem range_row {w : World} {g : Nat} {l : List Value} {t : TypeId} {f : Nat × Nat} (h : w.heap[g]? = some (.cells l.toArray t f)) : w.rangeAt g 0 l := fun j v hv => by
  rw [Nat.zero_add, cell_of_row _ _ _ _ _ _ h]; simpa using hv
theorem step_loadR {P : Program} {ops : Array Oper} {o : Oper} {a : Act} {w : World} {K : Act → World → Prop} {Q : Exit → Act → World → Prop} {E : Prop} (hgd : o.guard = none) (ty : TypeId) (x : Operand) (ho : o.op = .load ty x)
    (g : Nat) (hx : a.eval x = .pointer (some ⟨g, 0, none⟩)) (t : TypeId) (cs : Array Value) (fr : Nat × Nat) (d : TypeDesc) (hg : w.heap[g]? = some (.cells cs t fr))
    (hu : P.underlying ty = some d) (hd : (match d with | .struct _ | .array _ _ => true | _ => false) = true) (hi : (P.info? ty).map (·.size) = some cs.size)
    (h : K (a.put o.dst (.agg cs)) w) : if Region.wanted o (yielded ops a.tmps) = true then Oper.wp P o a w K Q else E := by
  have hw : Region.wanted o (yielded ops a.tmps) = true := by simp [Region.wanted, hgd]
  rw [if_pos hw]
  exact wp_load_row ty x ho g hx t cs fr d hg hu hd hi h
theorem step_storeR {P : Program} {ops : Array Oper} {o : Oper} {a : Act} {w : World} {K : Act → World → Prop} {Q : Exit → Act → World → Prop} {E : Prop} (hgd : o.guard = none) (ty : TypeId) (x y : Operand) (ho : o.op = .store ty x y)
    (g : Nat) (cells : Array Value) (hx : a.eval x = .pointer (some ⟨g, 0, none⟩)) (hy : a.eval y = .agg cells)
    (t : TypeId) (old : Array Value) (hg : w.heap[g]? = some (.cells old t (0, 0))) (hi : (P.info? ty).map (·.size) = some cells.size)
    (hold : old.size = cells.size) (h1 : cells.all (·.oneCell') = true)
    (h : K (a.put o.dst undef) (w.setRow g cells)) : if Region.wanted o (yielded ops a.tmps) = true then Oper.wp P o a w K Q else E := by
  have hw : Region.wanted o (yielded ops a.tmps) = true := by simp [Region.wanted, hgd]
  rw [if_pos hw]
  exact wp_store_row ty x y ho g cells hx hy t old hg hi hold h1 h
inductive SumI (w : World) (gh gk : Nat) (KL : List Value) (L : List Nat) (p : Option Addr) (t : Value) (wr : World) : Prop where
  | intro (k : Nat) (hk : 64 * k ≤ L.length) (ht : t = .int .i64 (64 * (k : Int))) (n : wr.heap[w.heap.size]? = some (.cells (Bs (List.replicate 32 0)).toArray 23 (0, 0))) (h : wr.heap[gh]? = some (.cells (Ws (roundsN firstH L k)).toArray 60 (0, 0))) (kk : wr.heap[gk]? = some (.cells KL.toArray 62 (0, 0))) (i : BIn wr p L) (b : Below w.heap.size w wr)
set_option maxHeartbeats 1000000 in
set_option maxRecDepth 100000 in
theorem rsum_any (p : Option Addr) (c : Nat) (b : List Nat) (w : World) (hb : BIn w p b) (hp : p = none → c = 0) (hs : b.length ≤ 140737488300000) :
    Calls Tryd.prog 11 #[.slice p b.length c] w fun e w' => e = .returned (.agg (Bs (digN b)).toArray) ∧ Below w.heap.size w w' := by
  go_enter Tryd.func11, Tryd.ntmps11
  go_wp2_with fail
  have N0 : (w.alloc (.cells (Bs (List.replicate 32 0)).toArray 23)).heap[w.heap.size]? = some (.cells (Bs (List.replicate 32 0)).toArray 23 (0, 0)) := _root_.Go.heap_alloc_new _ _
  have B0 : Below w.heap.size w (w.alloc (.cells (Bs (List.replicate 32 0)).toArray 23)) := (Below.refl _ _).alloc (Nat.le_refl _) _
  change Calls Tryd.prog _ _ (w.alloc (.cells (Bs (List.replicate 32 0)).toArray 23)) _
  generalize w.alloc (.cells (Bs (List.replicate 32 0)).toArray 23) = W0 at N0 B0 ⊢
  refine (rfirst_any W0).mono ?_
  rintro e w1 ⟨rfl, hb1⟩
  have N1 := (hb1.block _ (rw_lt N0)).trans N0
  have B1 := below_more B0 hb1
  simp only []
  go_step
  go_step
  go_step
  go_step
  refine wpList_store_row rfl 60 (.tmp 3) (.tmp 9) rfl w1.heap.size (Ws firstH).toArray (by rfl) (by rfl) 60 _ (_root_.Go.heap_alloc_new _ _) size_rwords (by rfl) (one_cell_ws _) ?_
  rw [World.setRow_alloc_new]
  have g1 := rw_lt N1
  have H2 : (w1.alloc (Obj.cells (Ws firstH).toArray 60)).heap[w1.heap.size]? = some (.cells (Ws firstH).toArray 60 (0, 0)) := _root_.Go.heap_alloc_new _ _
  have N2 : (w1.alloc (Obj.cells (Ws firstH).toArray 60)).heap[w.heap.size]? = some (.cells (Bs (List.replicate 32 0)).toArray 23 (0, 0)) := (_root_.Go.heap_alloc_old _ _ g1).trans N1
  have B2 : Below w.heap.size w (w1.alloc (Obj.cells (Ws firstH).toArray 60)) := B1.alloc (by omega) _
  generalize w1.heap.size = gh at H2 g1 ⊢
  generalize w1.alloc (Obj.cells (Ws firstH).toArray 60) = W2 at H2 N2 B2 ⊢
  clear N0 B0 N1 B1 hb1
  generalize hFA : (Ws firstH).toArray = FA at H2 ⊢
  have HFA : Hid _ := hFA
  clear hFA
  go_wp2_with fail
  refine (rsteps_any _).mono ?_
  rintro e w3 ⟨rfl, hb3⟩
  have N3 := (hb3.block _ (rw_lt N2)).trans N2
  have H3 := (hb3.block _ (rw_lt H2)).trans H2
  have B3 := below_more B2 hb3
  simp only []
  go_step
  go_step
  go_step
  go_step
  refine wpList_store_row rfl 62 (.tmp 4) (.tmp 10) rfl w3.heap.size (Ws stepsK).toArray (by rfl) (by rfl) 62 _ (_root_.Go.heap_alloc_new _ _) size_rsched (by rfl) (one_cell_ws _) ?_
  rw [World.setRow_alloc_new]
  have g3 := rw_lt H3
  have g3' := rw_lt N3
  have K4 : (w3.alloc (Obj.cells (Ws stepsK).toArray 62)).heap[w3.heap.size]? = some (.cells (Ws stepsK).toArray 62 (0, 0)) := _root_.Go.heap_alloc_new _ _
  have N4 : (w3.alloc (Obj.cells (Ws stepsK).toArray 62)).heap[w.heap.size]? = some (.cells (Bs (List.replicate 32 0)).toArray 23 (0, 0)) := (_root_.Go.heap_alloc_old _ _ g3').trans N3
  have H4 : (w3.alloc (Obj.cells (Ws stepsK).toArray 62)).heap[gh]? = some (.cells FA 60 (0, 0)) := (_root_.Go.heap_alloc_old _ _ g3).trans H3
  have B4 : Below w.heap.size w (w3.alloc (Obj.cells (Ws stepsK).toArray 62)) := B3.alloc (by omega) _
  generalize w3.heap.size = gk at K4 g3 ⊢
  generalize w3.alloc (Obj.cells (Ws stepsK).toArray 62) = W4 at H4 N4 B4 K4 ⊢
  clear N2 B2 H2 N3 B3 H3 hb3 g3'
  have hKl : (Ws stepsK).length = 64 := by rw [Ws_len]; rfl
  generalize hKL : Ws stepsK = KL at K4 hKl ⊢
  have HKL : Hid _ := hKL
  clear hKL
  have LC := rlonger_any p c b W4 (hb.below B4) hp hs
  have HLm := longerN_len b
  have HLl : (longerN b).length ≤ 140737488300200 := by rw [longerN_tail, List.length_append]; have := tailN_le b.length; omega
  have HLb := longerN_byte hb.2
  have HD : Hid (digN b = (roundsN firstH (longerN b) ((longerN b).length / 64)).flatMap be4) := rfl
  generalize longerN b = L at LC HLm HLl HLb HD
  have Hb : Hid _ := hb
  clear hb
  go_wp2_with fail
  refine LC.mono ?_
  rintro e w5 ⟨v, rfl, hown, hb5⟩
  obtain ⟨p5, c5, rfl, hc5, hi5, hn5⟩ := owns_bin hown HLb
  have N5 := (hb5.block _ (rw_lt N4)).trans N4
  have H5 := (hb5.block _ (rw_lt H4)).trans H4
  have K5 := (hb5.block _ (rw_lt K4)).trans K4
  have B5 := below_more B4 hb5
  have hgk4 : gk < W4.heap.size := rw_lt K4
  clear N4 H4 K4 LC
  simp only []
  go_wp2
  go_loopw [6] (fun t wr => SumI w gh gk KL L p5 t wr) (fun t _ => L.length - (intOf t).toNat)
  case atStart => exact ⟨0, by omega, rfl, N5, by rw [H5, ← HFA.out]; rfl, K5, hi5, B5⟩
  case round =>
    clear N5 H5 K5 hi5 B5
    obtain ⟨k, hk, rfl, N5, H5, K5, hi5, B5⟩ := hrel
    by_cases hlt : 64 * k < L.length
    · have hHl := roundsN_len L k
      have hHw := roundsN_word L k
      have HN : Hid (roundsN firstH L (k + 1) = roundN (roundsN firstH L k) ((L.drop (k * 64)).take 64)) := rfl
      generalize roundsN firstH L k = H at H5 hHl hHw HN
      obtain ⟨b5, o5, rfl, _⟩ := hi5.1 (by omega)
      obtain ⟨i6, h6⟩ : ∃ i6, 64 * k = i6 := ⟨_, rfl⟩
      have e6 : 64 * (k : Int) = (i6 : Int) := by omega
      have hin := bin_piece hi5 i6 64 (by omega)
      have hln : ((L.drop i6).take 64).length = 64 := by rw [List.length_take, List.length_drop]; omega
      have h6' : k * 64 = i6 := by omega
      rw [h6'] at HN
      have HB2 := roundN_len ((L.drop i6).take 64) hHl
      generalize (L.drop i6).take 64 = BK at hin hln HN HB2
      have HC : Calls Tryd.prog 37 #[.agg (Ws H).toArray, .slice (some ⟨b5, o5 + i6, none⟩) 64 (c5 - i6), .agg KL.toArray] wr.drew fun e w' => e = .returned (.agg (Ws (roundN H BK)).toArray) ∧ Below wr.drew.heap.size wr.drew w' := by rw [← HKL.out]; exact rround_any _ _ H BK _ hHl hHw hln hin
      generalize roundN H BK = R at HC HN HB2
      have huW := Tryd.underlying60
      have huS := Tryd.underlying62
      have hiW : (Tryd.prog.info? 60).map (·.size) = some (Ws H).length := by rw [size_rwords, Ws_len, hHl]
      have hiS : (Tryd.prog.info? 62).map (·.size) = some KL.length := by rw [size_rsched, hKl]
      have LB : Hid (∀ w' : World, w'.heap[gk]? = wr.heap[gk]? → w'.rangeAt gk 0 KL) := fun w' e2 => range_row (e2.trans K5)
      have L0 := LB.out wr rfl
      have hci : i6 + 64 ≤ c5 := by omega
      have hcI : (i6 : Int) + 64 ≤ (c5 : Int) := by omega
      have hltI : (i6 : Int) < (L.length : Int) := by omega
      obtain ⟨i7, h7⟩ : ∃ i7, i6 + 64 = i7 := ⟨_, rfl⟩
      have hwr : IntKind.i64.wrap ((i6 : Int) + 64) = (i7 : Int) := by simp [IntKind.wrap, IntKind.bits, IntKind.signed]; omega
      have hi67 : i6 ≤ i7 := by omega
      have hi7c : i7 ≤ c5 := by omega
      have hd67 : i7 - i6 = 64 := by omega
      have hne : ¬ c5 = i6 := by omega
      have HX1 : Hid _ := N5
      have HX2 : Hid _ := H5
      have HX3 : Hid _ := K5
      have HX4 : Hid _ := hi5
      clear N5 H5 K5 hi5 hin h6'
      rw [e6]
      go_upto_region 7 with fail
      refine wp_region_noPanic ?_
      refine wp_region_held_drew (S := fun w' => w'.rangeAt gk 0 KL) (by kernel_rfl) L0 (fun hHeld => ?_)
      refine wpAnyH_take (i := 1) (oi := { dst := some 20, op := Op.move (Operand.tmp 5), type := 22, pos := "ref.go:84", after := #[], guard := none }) (v := ?_) rfl (by kernel_rfl) (by kernel_rfl) (by kernel_rfl) (fun _ _ _ h => h) (Or.inl ⟨by rfl, ?_⟩) (by assumption) ?_
      rotate_left
      · intro w' hSw
        go_simp
        all_goals with_reducible rfl
      simp only [Act.put, List.setIfInBounds_toArray, List.set_cons_zero, List.set_cons_succ]
      refine wpAnyH_take (i := 2) (oi := { dst := some 21, op := Op.move (Operand.tmp 6), type := 3, pos := "ref.go:84", after := #[], guard := none }) (v := ?_) rfl (by kernel_rfl) (by kernel_rfl) (by kernel_rfl) (fun _ _ _ h => h) (Or.inl ⟨by rfl, ?_⟩) (by assumption) ?_
      rotate_left
      · intro w' hSw
        go_simp
        all_goals with_reducible rfl
      simp only [Act.put, List.setIfInBounds_toArray, List.set_cons_zero, List.set_cons_succ]
      refine wpAnyH_take (i := 3) (oi := { dst := some 22, op := Op.move (Operand.tmp 6), type := 3, pos := "ref.go:84", after := #[], guard := none }) (v := ?_) rfl (by kernel_rfl) (by kernel_rfl) (by kernel_rfl) (fun _ _ _ h => h) (Or.inl ⟨by rfl, ?_⟩) (by assumption) ?_
      rotate_left
      · intro w' hSw
        go_simp
        all_goals with_reducible rfl
      simp only [Act.put, List.setIfInBounds_toArray, List.set_cons_zero, List.set_cons_succ]
      refine wpAnyH_take (i := 4) (oi := { dst := some 23, op := Op.binOp BinOp.add 3 (Operand.tmp 22) (Operand.const (Value.int IntKind.i64 64)) 3, type := 3, pos := "ref.go:84", after := #[{ on := 3, ground := Ground.data }], guard := none }) (v := ?_) rfl (by kernel_rfl) (by kernel_rfl) (by kernel_rfl) (fun _ _ _ h => h) (Or.inl ⟨by rfl, ?_⟩) (by assumption) ?_
      rotate_left
      · intro w' hSw
        go_simp
        all_goals with_reducible rfl
      simp only [Act.put, List.setIfInBounds_toArray, List.set_cons_zero, List.set_cons_succ]
      refine wpAnyH_take (i := 5) (oi := { dst := some 24, op := Op.slice 22 (Operand.tmp 20) (some (Operand.tmp 21)) (some (Operand.tmp 23)) none, type := 22, pos := "ref.go:84", after := #[{ on := 1, ground := Ground.data }, { on := 2, ground := Ground.data }, { on := 4, ground := Ground.data }], guard := none }) (v := ?_) rfl (by kernel_rfl) (by kernel_rfl) (by kernel_rfl) (fun _ _ _ h => h) (Or.inl ⟨by rfl, ?_⟩) (by assumption) ?_
      rotate_left
      · intro w' hSw
        go_simp
        all_goals with_reducible rfl
      simp only [Act.put, List.setIfInBounds_toArray, List.set_cons_zero, List.set_cons_succ]
      refine wpAnyH_take (i := 6) (oi := { dst := some 25, op := Op.load 62 (Operand.tmp 4), type := 62, pos := "ref.go:84", after := #[], guard := none }) (v := .agg (KL).toArray) rfl (by kernel_rfl) (by kernel_rfl) (by kernel_rfl) (fun _ _ _ h => h) (yieldsIf_load_mid (by rfl) _ _ rfl gk 0 rfl (KL) _ (fun w' hSw => hSw) huS rfl hiS) (by assumption) ?_
      simp only [Act.put, List.setIfInBounds_toArray, List.set_cons_zero, List.set_cons_succ]
      refine wpAnyH_ready (rs := [0]) (by kernel_rfl) (by simp) ?_
      refine AllReadyH.cons (o := { dst := some 19, op := Op.load 60 (Operand.tmp 3), type := 60, pos := "ref.go:84", after := #[], guard := none }) rfl (fun K hK => ?_) AllReadyH.nil
      refine step_loadR rfl 60 (.tmp 3) rfl gh (by rfl) 60 _ _ _ HX2.out huW rfl (by rw [size_rwords]; simp [Ws, hHl]) ?_
      simp only [Act.put, List.setIfInBounds_toArray, List.set_cons_zero, List.set_cons_succ]
      refine hK.out _ _ hHeld (fun hHeld2 => ?_)
      clear hK K
      refine wpAnyH_ready (rs := [7]) (by kernel_rfl) (by simp) ?_
      refine AllReadyH.cons (o := { dst := some 26, op := Op.call { callee := Callee.value (Operand.func 37), args := #[Operand.tmp 19, Operand.tmp 24, Operand.tmp 25], argTypes := #[60, 22, 62] }, type := 60, pos := "ref.go:84", after := #[{ on := 0, ground := Ground.data }, { on := 5, ground := Ground.data }, { on := 6, ground := Ground.data }], guard := none }) rfl (fun K hK => ?_) AllReadyH.nil
      go_simp
      refine HC.mono ?_
      rintro e w6 ⟨rfl, hb6⟩
      have r6 := (hb6.block gh (rw_lt HX2.out)).trans HX2.out
      have e2 := hb6.block gk (rw_lt HX3.out)
      simp only []
      refine hK.out _ _ (LB.out _ e2) (fun hHeld3 => ?_)
      clear hK K
      refine wpAnyH_ready (rs := [8]) (by kernel_rfl) (by simp) ?_
      refine AllReadyH.cons (o := { dst := none, op := Op.store 60 (Operand.tmp 3) (Operand.tmp 26), type := 0, pos := "ref.go:84", after := #[{ on := 7, ground := Ground.data }, { on := 7, ground := Ground.chain }, { on := 0, ground := Ground.phase }, { on := 1, ground := Ground.phase }, { on := 2, ground := Ground.phase }, { on := 3, ground := Ground.phase }, { on := 4, ground := Ground.phase }, { on := 5, ground := Ground.phase }, { on := 6, ground := Ground.phase }, { on := 7, ground := Ground.phase }], guard := none }) rfl (fun K hK => ?_) AllReadyH.nil
      refine step_storeR rfl 60 (.tmp 3) (.tmp 26) rfl gh (Ws R).toArray (by rfl) (by rfl) 60 _ r6 (by rw [size_rwords]; simp [Ws, HB2]) (by simp [Ws, HB2, hHl]) (one_cell_ws _) ?_
      have G6 := grown_setRow w6 gh (Ws R).toArray
      have lk : gk < w6.heap.size := Nat.lt_of_lt_of_le (rw_lt HX3.out) hb6.size
      have k6 := (G6.block gk lk (by simp; omega)).trans e2
      simp only [Act.put]
      refine hK.out _ _ (LB.out _ k6) (fun hHeld4 => ?_)
      clear hK K
      refine wpAnyH_done (by kernel_rfl) ?_ _
      refine NoPanic.normal ?_
      have hfin := setRow_heap w6 gh _ (Ws R).toArray _ _ r6
      have n6 := (hb6.block _ (rw_lt HX1.out)).trans HX1.out
      have n7 := (G6.block _ (rw_lt n6) (by simp; omega)).trans n6
      have i7' : BIn (w6.setRow gh (Ws R).toArray) (some ⟨b5, o5, none⟩) L := bin_grown (BIn.below (w := wr.drew) HX4.out hb6) G6 (fun b' o' e hp' => by have := hn5 b' o' e hp'; omega)
      have b7 : Below w.heap.size w (w6.setRow gh (Ws R).toArray) := below_setRow (below_more B5.drew hb6) (by omega)
      have k7 := k6.trans HX3.out
      generalize w6.setRow gh (Ws R).toArray = w7 at hfin n7 i7' b7 k7 ⊢
      rw [← HN.out] at hfin
      clear r6 e2 hb6 HC G6 k6 n6
      go_wp2
      go_roundw
      case rel => exact ⟨k + 1, by omega, by congr 1; omega, n7, hfin, k7, i7', b7⟩
      case measure => simp [intOf]; omega
    · have hkl : 64 * k = L.length := by omega
      rw [show 64 * (k : Int) = (L.length : Int) by omega]
      have hkd : L.length / 64 = k := by omega
      have HD2 : Hid (digN b = (roundsN firstH L k).flatMap be4) := by show _ = _; rw [HD.out, hkd]
      have hHl := roundsN_len L k
      have hHw := roundsN_word L k
      generalize roundsN firstH L k = H at H5 hHl hHw HD2
      obtain ⟨T, hT⟩ : ∃ T, H.flatMap be4 = T := ⟨_, rfl⟩
      have hTl : T.length = 32 := by rw [← hT, be4s_len, hHl]
      have HD3 : Hid (digN b = T) := by show _ = _; rw [HD2.out, hT]
      have gl := rw_lt H5
      have gl0 := rw_lt N5
      go_wp2
      go_loopw [8] (fun t w2 => ∃ k : Nat, k ≤ 32 ∧ t = .int .i64 (k : Int) ∧ w2.heap[gh]? = some (.cells (Ws H).toArray 60 (0, 0)) ∧ w2.heap[w.heap.size]? = some (.cells (Bs (List.replicate 32 0)).toArray 23 (0, 0)) ∧ w2.heap[wr.heap.size]? = some (.cells (Bs (fillN T 32 k)).toArray 23 (0, 0)) ∧ Below w.heap.size w w2)
        (fun t _ => 32 - (intOf t).toNat)
      case atStart =>
        refine ⟨0, by omega, rfl, (_root_.Go.heap_alloc_old _ _ gl).trans H5, (_root_.Go.heap_alloc_old _ _ gl0).trans N5, ?_, B5.alloc (by omega) _⟩
        rw [fill_zero]
        exact _root_.Go.heap_alloc_new _ _
      case round =>
        clear N5 H5 K5 hi5 B5
        rename World => w2
        obtain ⟨k, hk, rfl, h1, h2, h3, hbl⟩ := hrel
        by_cases hlt : k < 32
        · obtain ⟨j, r, hjr, hr⟩ : ∃ j r, k = 4 * j + r ∧ r < 4 := ⟨k / 4, k % 4, by omega, by omega⟩
          have hTk : T.getD k 0 = H.getD j 0 / 2 ^ (8 * (3 - r)) % 256 := by rw [hjr, ← hT]; exact be4_at H j r (by omega) hr
          have hc1 := cell_ws h1 (show j < H.length by omega)
          have hc3 := cell_bs h3 (show k < (fillN T 32 k).length by rw [fill_len hTl hk]; omega)
          have hfz : w2.frozen? ⟨wr.heap.size, k, none⟩ = false := frozen_of_row w2 _ k _ _ h3
          have hx := getD_lt' hHw j
          have hq : (k : Int) / 4 = (j : Int) := by omega
          have hm : (k : Int) % 4 = (r : Int) := by omega
          have hjI : (j : Int) < 8 := by omega
          have hkI : (k : Int) < 32 := by omega
          have hsh : 24 - 8 * (r : Int) = ((8 * (3 - r) : Nat) : Int) := by omega
          have hs64 : 8 * (3 - r) < 32 := by omega
          have HG : Hid _ := h3
          have HTk : Hid _ := hTk
          have Hjr : Hid _ := hjr
          have HT : Hid _ := hT
          generalize hsv : 8 * (3 - r) = sv at hsh hs64 HTk
          generalize hxv : H.getD j 0 = x at hc1 hx HTk
          clear h3 hTk hjr hsv hxv hT
          go_wp2
          rw [show ((x : Int) / 2 ^ sv % 256) = ((T.getD k 0 : Nat) : Int) from by rw [HTk.out, Int.natCast_emod, Int.natCast_ediv, Int.natCast_pow]; rfl]
          refine ⟨⟨k + 1, by omega, rfl, ?_, ?_, ?_, hbl.setCell (by simp; omega) _⟩, by simp [intOf]; omega⟩
          · rw [heap_setCell_other _ _ _ _ (by simp; omega)]; exact h1
          · rw [heap_setCell_other _ _ _ _ (by simp; omega)]; exact h2
          · rw [heap_setCell_same _ _ _ _ _ _ HG.out, Bs_set, fill_set hTl hlt]
        · obtain rfl : k = 32 := by omega
          rw [fill_all hTl] at h3
          go_upto_region 13 with fail
          go_step
          refine wpList_load_row rfl 23 (.tmp 7) rfl _ (by rfl) 23 _ _ _ h3 Tryd.underlying23 rfl (by rw [size_dig]; simp [Bs, hTl]) ?_
          refine wpList_store_row rfl 23 (.tmp 2) (.tmp 44) rfl _ _ (by rfl) (by rfl) 23 _ h2 (by rw [size_dig]; simp [Bs, hTl]) (by simp [Bs, hTl]) (one_cell_bs _) ?_
          go_wp2
          refine bodyPost_ret (results_cell_row rfl _ _ w.heap.size 23 (Bs T).toArray (0, 0) _ rfl (setRow_heap _ _ _ _ _ _ h2) Tryd.underlying23 rfl (by rw [size_dig]; simp [Bs, hTl])) rfl ⟨by rw [HD3.out], ?_⟩
          exact below_setRow hbl (by omega)
end Go.Proofs.YtoagaddciapmkaaDoor
