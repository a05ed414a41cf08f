/-
  Records in memory; whether a record may be: the program's.
-/
import Derived.Test.YtoagaddciapmkaaDoorJ09
import Derived.Test.YtoagaddciapmkaaDoorJ12
import Derived.Test.YtoagaddciapmkaaDoorJ13
import Derived.Test.YtoagaddciapmkaaDoorJ11
import Derived.Laws.AppendOwnNone
import Derived.Test.YtoagaddciapmkaaDoorJ06
import Derived.Test.YtoagaddciapmkaaDoorJ08
import Derived.OpenShut
import Derived.Deep.QuietTactic
namespace Go.Proofs.YtoagaddciapmkaaDoor
open Go.RowKit Go.WideShapes Go.Maps

theorem tailN_le (s : Nat) : (tailN s).length ≤ 72 := by
  unfold tailN
  rw [List.length_append, List.length_cons, List.length_replicate, be8_len]
  omega
theorem below_more {w w1 w2 : World} (h : Below w.heap.size w w1) (h2 : Below w1.heap.size w1 w2) : Below w.heap.size w w2 :=
  ⟨h2.os.trans h.os, h2.tape.trans h.tape, h2.output.trans h.output, Nat.le_trans h.size h2.size, fun j hj => (h2.block j (Nat.lt_of_lt_of_le hj h.size)).trans (h.block j hj)⟩
theorem bin_piece {w : World} {b o : Nat} {L : List Nat} (h : BIn w (some ⟨b, o, none⟩) L) (i n : Nat) (hi : i + n ≤ L.length) : BIn w (some ⟨b, o + i, none⟩) ((L.drop i).take n) :=
  ⟨fun _ => ⟨b, o + i, rfl, fun j hj => by
    rw [List.length_take, List.length_drop] at hj
    rw [Nat.add_assoc, h.cell (i + j) (by omega)]
    congr 3
    simp [List.getD, List.getElem?_drop, show j < n by omega]⟩, fun c hc => h.2 c (List.mem_of_mem_drop (List.mem_of_mem_take hc))⟩
theorem range_row {w : World} {g : Nat} {l : List Value} {t : TypeId} {f : Nat × Nat} (h : w.heap[g]? = some (.cells l.toArray t f)) : w.rangeAt g 0 l := fun j v hv => by
  rw [Nat.zero_add, cell_of_row _ _ _ _ _ _ h]; simpa using hv
theorem step_loadR {P : Program} {ops : Array Oper} {o : Oper} {a : Act} {w : World} {K : Act → World → Prop} {Q : Exit → Act → World → Prop} {E : Prop} (hgd : o.guard = none) (ty : TypeId) (x : Operand) (ho : o.op = .load ty x)
    (g : Nat) (hx : a.eval x = .pointer (some ⟨g, 0, none⟩)) (t : TypeId) (cs : Array Value) (fr : Nat × Nat) (d : TypeDesc) (hg : w.heap[g]? = some (.cells cs t fr))
    (hu : P.underlying ty = some d) (hd : (match d with | .struct _ | .array _ _ => true | _ => false) = true) (hi : (P.info? ty).map (·.size) = some cs.size)
    (h : K (a.put o.dst (.agg cs)) w) : if Region.wanted o (yielded ops a.tmps) = true then Oper.wp P o a w K Q else E := by
  have hw : Region.wanted o (yielded ops a.tmps) = true := by simp [Region.wanted, hgd]
  rw [if_pos hw]
  exact wp_load_row ty x ho g hx t cs fr d hg hu hd hi h
theorem step_storeR {P : Program} {ops : Array Oper} {o : Oper} {a : Act} {w : World} {K : Act → World → Prop} {Q : Exit → Act → World → Prop} {E : Prop} (hgd : o.guard = none) (ty : TypeId) (x y : Operand) (ho : o.op = .store ty x y)
    (g : Nat) (cells : Array Value) (hx : a.eval x = .pointer (some ⟨g, 0, none⟩)) (hy : a.eval y = .agg cells)
    (t : TypeId) (old : Array Value) (hg : w.heap[g]? = some (.cells old t (0, 0))) (hi : (P.info? ty).map (·.size) = some cells.size)
    (hold : old.size = cells.size) (h1 : cells.all (·.oneCell') = true)
    (h : K (a.put o.dst undef) (w.setRow g cells)) : if Region.wanted o (yielded ops a.tmps) = true then Oper.wp P o a w K Q else E := by
  have hw : Region.wanted o (yielded ops a.tmps) = true := by simp [Region.wanted, hgd]
  rw [if_pos hw]
  exact wp_store_row ty x y ho g cells hx hy t old hg hi hold h1 h
inductive SumI (w : World) (gh gk : Nat) (KL : List Value) (L : List Nat) (p : Option Addr) (t : Value) (wr : World) : Prop where
  | intro (k : Nat) (hk : 64 * k ≤ L.length) (ht : t = .int .i64 (64 * (k : Int))) (n : wr.heap[w.heap.size]? = some (.cells (Bs (List.replicate 32 0)).toArray 23 (0, 0))) (h : wr.heap[gh]? = some (.cells (Ws (roundsN firstH L k)).toArray 60 (0, 0))) (kk : wr.heap[gk]? = some (.cells KL.toArray 62 (0, 0))) (i : BIn wr p L) (b : Below w.heap.size w wr)
set_option maxHeartbeats 1000000 in
set_option maxRecDepth 100000 in
theorem rsum_any (p : Option Addr) (c : Nat) (b : List Nat) (w : World) (hb : BIn w p b) (hp : p = none → c = 0) (hs : b.length ≤ 140737488300000) :
    Calls Tryd.prog 11 #[.slice p b.length c] w fun e w' => e = .returned (.agg (Bs (digN b)).toArray) ∧ Below w.heap.size w w' := by
  go_enter Tryd.func11, Tryd.ntmps11
  go_wp2_with fail
  have N0 : (w.alloc (.cells (Bs (List.replicate 32 0)).toArray 23)).heap[w.heap.size]? = some (.cells (Bs (List.replicate 32 0)).toArray 23 (0, 0)) := _root_.Go.heap_alloc_new _ _
  have B0 : Below w.heap.size w (w.alloc (.cells (Bs (List.replicate 32 0)).toArray 23)) := (Below.refl _ _).alloc (Nat.le_refl _) _
  change Calls Tryd.prog _ _ (w.alloc (.cells (Bs (List.replicate 32 0)).toArray 23)) _
  generalize w.alloc (.cells (Bs (List.replicate 32 0)).toArray 23) = W0 at N0 B0 ⊢
  refine (rfirst_any W0).mono ?_
  rintro e w1 ⟨rfl, hb1⟩
  have N1 := (hb1.block _ (rw_lt N0)).trans N0
  have B1 := below_more B0 hb1
  simp only []
  go_step
  go_step
  go_step
  go_step
  refine wpList_store_row rfl 60 (.tmp 3) (.tmp 9) rfl w1.heap.size (Ws firstH).toArray (by rfl) (by rfl) 60 _ (_root_.Go.heap_alloc_new _ _) size_rwords (by rfl) (one_cell_ws _) ?_
  rw [World.setRow_alloc_new]
  have g1 := rw_lt N1
  have H2 : (w1.alloc (Obj.cells (Ws firstH).toArray 60)).heap[w1.heap.size]? = some (.cells (Ws firstH).toArray 60 (0, 0)) := _root_.Go.heap_alloc_new _ _
  have N2 : (w1.alloc (Obj.cells (Ws firstH).toArray 60)).heap[w.heap.size]? = some (.cells (Bs (List.replicate 32 0)).toArray 23 (0, 0)) := (_root_.Go.heap_alloc_old _ _ g1).trans N1
  have B2 : Below w.heap.size w (w1.alloc (Obj.cells (Ws firstH).toArray 60)) := B1.alloc (by omega) _
  generalize w1.heap.size = gh at H2 g1 ⊢
  generalize w1.alloc (Obj.cells (Ws firstH).toArray 60) = W2 at H2 N2 B2 ⊢
  clear N0 B0 N1 B1 hb1
  generalize hFA : (Ws firstH).toArray = FA at H2 ⊢
  have HFA : Hid _ := hFA
  clear hFA
  go_wp2_with fail
  refine (rsteps_any _).mono ?_
  rintro e w3 ⟨rfl, hb3⟩
  have N3 := (hb3.block _ (rw_lt N2)).trans N2
  have H3 := (hb3.block _ (rw_lt H2)).trans H2
  have B3 := below_more B2 hb3
  simp only []
  go_step
  go_step
  go_step
  go_step
  refine wpList_store_row rfl 62 (.tmp 4) (.tmp 10) rfl w3.heap.size (Ws stepsK).toArray (by rfl) (by rfl) 62 _ (_root_.Go.heap_alloc_new _ _) size_rsched (by rfl) (one_cell_ws _) ?_
  rw [World.setRow_alloc_new]
  have g3 := rw_lt H3
  have g3' := rw_lt N3
  have K4 : (w3.alloc (Obj.cells (Ws stepsK).toArray 62)).heap[w3.heap.size]? = some (.cells (Ws stepsK).toArray 62 (0, 0)) := _root_.Go.heap_alloc_new _ _
  have N4 : (w3.alloc (Obj.cells (Ws stepsK).toArray 62)).heap[w.heap.size]? = some (.cells (Bs (List.replicate 32 0)).toArray 23 (0, 0)) := (_root_.Go.heap_alloc_old _ _ g3').trans N3
  have H4 : (w3.alloc (Obj.cells (Ws stepsK).toArray 62)).heap[gh]? = some (.cells FA 60 (0, 0)) := (_root_.Go.heap_alloc_old _ _ g3).trans H3
  have B4 : Below w.heap.size w (w3.alloc (Obj.cells (Ws stepsK).toArray 62)) := B3.alloc (by omega) _
  generalize w3.heap.size = gk at K4 g3 ⊢
  generalize w3.alloc (Obj.cells (Ws stepsK).toArray 62) = W4 at H4 N4 B4 K4 ⊢
  clear N2 B2 H2 N3 B3 H3 hb3 g3'
  have hKl : (Ws stepsK).length = 64 := by rw [Ws_len]; rfl
  generalize hKL : Ws stepsK = KL at K4 hKl ⊢
  have HKL : Hid _ := hKL
  clear hKL
  have LC := rlonger_any p c b W4 (hb.below B4) hp hs
  have HLm := longerN_len b
  have HLl : (longerN b).length ≤ 140737488300200 := by rw [longerN_tail, List.length_append]; have := tailN_le b.length; omega
  have HLb := longerN_byte hb.2
  have HD : Hid (digN b = (roundsN firstH (longerN b) ((longerN b).length / 64)).flatMap be4) := rfl
  generalize longerN b = L at LC HLm HLl HLb HD
  have Hb : Hid _ := hb
  clear hb
  go_wp2_with fail
  refine LC.mono ?_
  rintro e w5 ⟨v, rfl, hown, hb5⟩
  obtain ⟨p5, c5, rfl, hc5, hi5, hn5⟩ := owns_bin hown HLb
  have N5 := (hb5.block _ (rw_lt N4)).trans N4
  have H5 := (hb5.block _ (rw_lt H4)).trans H4
  have K5 := (hb5.block _ (rw_lt K4)).trans K4
  have B5 := below_more B4 hb5
  have hgk4 : gk < W4.heap.size := rw_lt K4
  clear N4 H4 K4 LC
  simp only []
  go_wp2
  go_loopw [6] (fun t wr => SumI w gh gk KL L p5 t wr) (fun t _ => L.length - (intOf t).toNat)
  case atStart => exact ⟨0, by omega, rfl, N5, by rw [H5, ← HFA.out]; rfl, K5, hi5, B5⟩
  case round =>
    clear N5 H5 K5 hi5 B5
    obtain ⟨k, hk, rfl, N5, H5, K5, hi5, B5⟩ := hrel
    by_cases hlt : 64 * k < L.length
    · have hHl := roundsN_len L k
      have hHw := roundsN_word L k
      have HN : Hid (roundsN firstH L (k + 1) = roundN (roundsN firstH L k) ((L.drop (k * 64)).take 64)) := rfl
      generalize roundsN firstH L k = H at H5 hHl hHw HN
      obtain ⟨b5, o5, rfl, _⟩ := hi5.1 (by omega)
      obtain ⟨i6, h6⟩ : ∃ i6, 64 * k = i6 := ⟨_, rfl⟩
      have e6 : 64 * (k : Int) = (i6 : Int) := by omega
      have hin := bin_piece hi5 i6 64 (by omega)
      have hln : ((L.drop i6).take 64).length = 64 := by rw [List.length_take, List.length_drop]; omega
      have h6' : k * 64 = i6 := by omega
      rw [h6'] at HN
      have HB2 := roundN_len ((L.drop i6).take 64) hHl
      generalize (L.drop i6).take 64 = BK at hin hln HN HB2
      have HC : Calls Tryd.prog 37 #[.agg (Ws H).toArray, .slice (some ⟨b5, o5 + i6, none⟩) 64 (c5 - i6), .agg KL.toArray] wr.drew fun e w' => e = .returned (.agg (Ws (roundN H BK)).toArray) ∧ Below wr.drew.heap.size wr.drew w' := by rw [← HKL.out]; exact rround_any _ _ H BK _ hHl hHw hln hin
      generalize roundN H BK = R at HC HN HB2
      have huW := Tryd.underlying60
      have huS := Tryd.underlying62
      have hiW : (Tryd.prog.info? 60).map (·.size) = some (Ws H).length := by rw [size_rwords, Ws_len, hHl]
      have hiS : (Tryd.prog.info? 62).map (·.size) = some KL.length := by rw [size_rsched, hKl]
      have LB : Hid (∀ w' : World, w'.heap[gk]? = wr.heap[gk]? → w'.rangeAt gk 0 KL) := fun w' e2 => range_row (e2.trans K5)
      have L0 := LB.out wr rfl
      have hci : i6 + 64 ≤ c5 := by omega
      have hcI : (i6 : Int) + 64 ≤ (c5 : Int) := by omega
      have hltI : (i6 : Int) < (L.length : Int) := by omega
      obtain ⟨i7, h7⟩ : ∃ i7, i6 + 64 = i7 := ⟨_, rfl⟩
      have hwr : IntKind.i64.wrap ((i6 : Int) + 64) = (i7 : Int) := by simp [IntKind.wrap, IntKind.bits, IntKind.signed]; omega
      have hi67 : i6 ≤ i7 := by omega
      have hi7c : i7 ≤ c5 := by omega
      have hd67 : i7 - i6 = 64 := by omega
      have hne : ¬ c5 = i6 := by omega
      have HX1 : Hid _ := N5
      have HX2 : Hid _ := H5
      have HX3 : Hid _ := K5
      have HX4 : Hid _ := hi5
      clear N5 H5 K5 hi5 hin h6'
      rw [e6]
      go_upto_region 7 with fail
      refine wp_region_noPanic ?_
      refine wp_region_held_drew (S := fun w' => w'.rangeAt gk 0 KL) (by kernel_rfl) L0 (fun hHeld => ?_)
      refine wpAnyH_take (i := 1) (oi := { dst := some 20, op := Op.move (Operand.tmp 5), type := 22, pos := "ref.go:84", after := #[], guard := none }) (v := ?_) rfl (by kernel_rfl) (by kernel_rfl) (by kernel_rfl) (fun _ _ _ h => h) (Or.inl ⟨by rfl, ?_⟩) (by assumption) ?_
      rotate_left
      · intro w' hSw
        go_simp
        all_goals with_reducible rfl
      simp only [Act.put, List.setIfInBounds_toArray, List.set_cons_zero, List.set_cons_succ]
      refine wpAnyH_take (i := 2) (oi := { dst := some 21, op := Op.move (Operand.tmp 6), type := 3, pos := "ref.go:84", after := #[], guard := none }) (v := ?_) rfl (by kernel_rfl) (by kernel_rfl) (by kernel_rfl) (fun _ _ _ h => h) (Or.inl ⟨by rfl, ?_⟩) (by assumption) ?_
      rotate_left
      · intro w' hSw
        go_simp
        all_goals with_reducible rfl
      simp only [Act.put, List.setIfInBounds_toArray, List.set_cons_zero, List.set_cons_succ]
      refine wpAnyH_take (i := 3) (oi := { dst := some 22, op := Op.move (Operand.tmp 6), type := 3, pos := "ref.go:84", after := #[], guard := none }) (v := ?_) rfl (by kernel_rfl) (by kernel_rfl) (by kernel_rfl) (fun _ _ _ h => h) (Or.inl ⟨by rfl, ?_⟩) (by assumption) ?_
      rotate_left
      · intro w' hSw
        go_simp
        all_goals with_reducible rfl
      simp only [Act.put, List.setIfInBounds_toArray, List.set_cons_zero, List.set_cons_succ]
      refine wpAnyH_take (i := 4) (oi := { dst := some 23, op := Op.binOp BinOp.add 3 (Operand.tmp 22) (Operand.const (Value.int IntKind.i64 64)) 3, type := 3, pos := "ref.go:84", after := #[{ on := 3, ground := Ground.data }], guard := none }) (v := ?_) rfl (by kernel_rfl) (by kernel_rfl) (by kernel_rfl) (fun _ _ _ h => h) (Or.inl ⟨by rfl, ?_⟩) (by assumption) ?_
      rotate_left
      · intro w' hSw
        go_simp
        all_goals with_reducible rfl
      simp only [Act.put, List.setIfInBounds_toArray, List.set_cons_zero, List.set_cons_succ]
      refine wpAnyH_take (i := 5) (oi := { dst := some 24, op := Op.slice 22 (Operand.tmp 20) (some (Operand.tmp 21)) (some (Operand.tmp 23)) none, type := 22, pos := "ref.go:84", after := #[{ on := 1, ground := Ground.data }, { on := 2, ground := Ground.data }, { on := 4, ground := Ground.data }], guard := none }) (v := ?_) rfl (by kernel_rfl) (by kernel_rfl) (by kernel_rfl) (fun _ _ _ h => h) (Or.inl ⟨by rfl, ?_⟩) (by assumption) ?_
      rotate_left
      · intro w' hSw
        go_simp
        all_goals with_reducible rfl
      simp only [Act.put, List.setIfInBounds_toArray, List.set_cons_zero, List.set_cons_succ]
      refine wpAnyH_take (i := 6) (oi := { dst := some 25, op := Op.load 62 (Operand.tmp 4), type := 62, pos := "ref.go:84", after := #[], guard := none }) (v := .agg (KL).toArray) rfl (by kernel_rfl) (by kernel_rfl) (by kernel_rfl) (fun _ _ _ h => h) (yieldsIf_load_mid (by rfl) _ _ rfl gk 0 rfl (KL) _ (fun w' hSw => hSw) huS rfl hiS) (by assumption) ?_
      simp only [Act.put, List.setIfInBounds_toArray, List.set_cons_zero, List.set_cons_succ]
      refine wpAnyH_ready (rs := [0]) (by kernel_rfl) (by simp) ?_
      refine AllReadyH.cons (o := { dst := some 19, op := Op.load 60 (Operand.tmp 3), type := 60, pos := "ref.go:84", after := #[], guard := none }) rfl (fun K hK => ?_) AllReadyH.nil
      refine step_loadR rfl 60 (.tmp 3) rfl gh (by rfl) 60 _ _ _ HX2.out huW rfl (by rw [size_rwords]; simp [Ws, hHl]) ?_
      simp only [Act.put, List.setIfInBounds_toArray, List.set_cons_zero, List.set_cons_succ]
      refine hK.out _ _ hHeld (fun hHeld2 => ?_)
      clear hK K
      refine wpAnyH_ready (rs := [7]) (by kernel_rfl) (by simp) ?_
      refine AllReadyH.cons (o := { dst := some 26, op := Op.call { callee := Callee.value (Operand.func 37), args := #[Operand.tmp 19, Operand.tmp 24, Operand.tmp 25], argTypes := #[60, 22, 62] }, type := 60, pos := "ref.go:84", after := #[{ on := 0, ground := Ground.data }, { on := 5, ground := Ground.data }, { on := 6, ground := Ground.data }], guard := none }) rfl (fun K hK => ?_) AllReadyH.nil
      go_simp
      refine HC.mono ?_
      rintro e w6 ⟨rfl, hb6⟩
      have r6 := (hb6.block gh (rw_lt HX2.out)).trans HX2.out
      have e2 := hb6.block gk (rw_lt HX3.out)
      simp only []
      refine hK.out _ _ (LB.out _ e2) (fun hHeld3 => ?_)
      clear hK K
      refine wpAnyH_ready (rs := [8]) (by kernel_rfl) (by simp) ?_
      refine AllReadyH.cons (o := { dst := none, op := Op.store 60 (Operand.tmp 3) (Operand.tmp 26), type := 0, pos := "ref.go:84", after := #[{ on := 7, ground := Ground.data }, { on := 7, ground := Ground.chain }, { on := 0, ground := Ground.phase }, { on := 1, ground := Ground.phase }, { on := 2, ground := Ground.phase }, { on := 3, ground := Ground.phase }, { on := 4, ground := Ground.phase }, { on := 5, ground := Ground.phase }, { on := 6, ground := Ground.phase }, { on := 7, ground := Ground.phase }], guard := none }) rfl (fun K hK => ?_) AllReadyH.nil
      refine step_storeR rfl 60 (.tmp 3) (.tmp 26) rfl gh (Ws R).toArray (by rfl) (by rfl) 60 _ r6 (by rw [size_rwords]; simp [Ws, HB2]) (by simp [Ws, HB2, hHl]) (one_cell_ws _) ?_
      have G6 := grown_setRow w6 gh (Ws R).toArray
      have lk : gk < w6.heap.size := Nat.lt_of_lt_of_le (rw_lt HX3.out) hb6.size
      have k6 := (G6.block gk lk (by simp; omega)).trans e2
      simp only [Act.put]
      refine hK.out _ _ (LB.out _ k6) (fun hHeld4 => ?_)
      clear hK K
      refine wpAnyH_done (by kernel_rfl) ?_ _
      refine NoPanic.normal ?_
      have hfin := setRow_heap w6 gh _ (Ws R).toArray _ _ r6
      have n6 := (hb6.block _ (rw_lt HX1.out)).trans HX1.out
      have n7 := (G6.block _ (rw_lt n6) (by simp; omega)).trans n6
      have i7' : BIn (w6.setRow gh (Ws R).toArray) (some ⟨b5, o5, none⟩) L := bin_grown (BIn.below (w := wr.drew) HX4.out hb6) G6 (fun b' o' e hp' => by have := hn5 b' o' e hp'; omega)
      have b7 : Below w.heap.size w (w6.setRow gh (Ws R).toArray) := below_setRow (below_more B5.drew hb6) (by omega)
      have k7 := k6.trans HX3.out
      generalize w6.setRow gh (Ws R).toArray = w7 at hfin n7 i7' b7 k7 ⊢
      rw [← HN.out] at hfin
      clear r6 e2 hb6 HC G6 k6 n6
      go_wp2
      go_roundw
      case rel => exact ⟨k + 1, by omega, by congr 1; omega, n7, hfin, k7, i7', b7⟩
      case measure => simp [intOf]; omega
    · have hkl : 64 * k = L.length := by omega
      rw [show 64 * (k : Int) = (L.length : Int) by omega]
      have hkd : L.length / 64 = k := by omega
      have HD2 : Hid (digN b = (roundsN firstH L k).flatMap be4) := by show _ = _; rw [HD.out, hkd]
      have hHl := roundsN_len L k
      have hHw := roundsN_word L k
      generalize roundsN firstH L k = H at H5 hHl hHw HD2
      obtain ⟨T, hT⟩ : ∃ T, H.flatMap be4 = T := ⟨_, rfl⟩
      have hTl : T.length = 32 := by rw [← hT, be4s_len, hHl]
      have HD3 : Hid (digN b = T) := by show _ = _; rw [HD2.out, hT]
      have gl := rw_lt H5
      have gl0 := rw_lt N5
      go_wp2
      go_loopw [8] (fun t w2 => ∃ k : Nat, k ≤ 32 ∧ t = .int .i64 (k : Int) ∧ w2.heap[gh]? = some (.cells (Ws H).toArray 60 (0, 0)) ∧ w2.heap[w.heap.size]? = some (.cells (Bs (List.replicate 32 0)).toArray 23 (0, 0)) ∧ w2.heap[wr.heap.size]? = some (.cells (Bs (fillN T 32 k)).toArray 23 (0, 0)) ∧ Below w.heap.size w w2)
        (fun t _ => 32 - (intOf t).toNat)
      case atStart =>
        refine ⟨0, by omega, rfl, (_root_.Go.heap_alloc_old _ _ gl).trans H5, (_root_.Go.heap_alloc_old _ _ gl0).trans N5, ?_, B5.alloc (by omega) _⟩
        rw [fill_zero]
        exact _root_.Go.heap_alloc_new _ _
      case round =>
        clear N5 H5 K5 hi5 B5
        rename World => w2
        obtain ⟨k, hk, rfl, h1, h2, h3, hbl⟩ := hrel
        by_cases hlt : k < 32
        · obtain ⟨j, r, hjr, hr⟩ : ∃ j r, k = 4 * j + r ∧ r < 4 := ⟨k / 4, k % 4, by omega, by omega⟩
          have hTk : T.getD k 0 = H.getD j 0 / 2 ^ (8 * (3 - r)) % 256 := by rw [hjr, ← hT]; exact be4_at H j r (by omega) hr
          have hc1 := cell_ws h1 (show j < H.length by omega)
          have hc3 := cell_bs h3 (show k < (fillN T 32 k).length by rw [fill_len hTl hk]; omega)
          have hfz : w2.frozen? ⟨wr.heap.size, k, none⟩ = false := frozen_of_row w2 _ k _ _ h3
          have hx := getD_lt' hHw j
          have hq : (k : Int) / 4 = (j : Int) := by omega
          have hm : (k : Int) % 4 = (r : Int) := by omega
          have hjI : (j : Int) < 8 := by omega
          have hkI : (k : Int) < 32 := by omega
          have hsh : 24 - 8 * (r : Int) = ((8 * (3 - r) : Nat) : Int) := by omega
          have hs64 : 8 * (3 - r) < 32 := by omega
          have HG : Hid _ := h3
          have HTk : Hid _ := hTk
          have Hjr : Hid _ := hjr
          have HT : Hid _ := hT
          generalize hsv : 8 * (3 - r) = sv at hsh hs64 HTk
          generalize hxv : H.getD j 0 = x at hc1 hx HTk
          clear h3 hTk hjr hsv hxv hT
          go_wp2
          rw [show ((x : Int) / 2 ^ sv % 256) = ((T.getD k 0 : Nat) : Int) from by rw [HTk.out, Int.natCast_emod, Int.natCast_ediv, Int.natCast_pow]; rfl]
          refine ⟨⟨k + 1, by omega, rfl, ?_, ?_, ?_, hbl.setCell (by simp; omega) _⟩, by simp [intOf]; omega⟩
          · rw [heap_setCell_other _ _ _ _ (by simp; omega)]; exact h1
          · rw [heap_setCell_other _ _ _ _ (by simp; omega)]; exact h2
          · rw [heap_setCell_same _ _ _ _ _ _ HG.out, Bs_set, fill_set hTl hlt]
        · obtain rfl : k = 32 := by omega
          rw [fill_all hTl] at h3
          go_upto_region 13 with fail
          go_step
          refine wpList_load_row rfl 23 (.tmp 7) rfl _ (by rfl) 23 _ _ _ h3 Tryd.underlying23 rfl (by rw [size_dig]; simp [Bs, hTl]) ?_
          refine wpList_store_row rfl 23 (.tmp 2) (.tmp 44) rfl _ _ (by rfl) (by rfl) 23 _ h2 (by rw [size_dig]; simp [Bs, hTl]) (by simp [Bs, hTl]) (one_cell_bs _) ?_
          go_wp2
          refine bodyPost_ret (results_cell_row rfl _ _ w.heap.size 23 (Bs T).toArray (0, 0) _ rfl (setRow_heap _ _ _ _ _ _ h2) Tryd.underlying23 rfl (by rw [size_dig]; simp [Bs, hTl])) rfl ⟨by rw [HD3.out], ?_⟩
          exact below_setRow hbl (by omega)
end Go.Proofs.YtoagaddciapmkaaDoor
namespace Go.Proofs.YtoagaddciapmkaaDoor
open Go.RowKit Go.WideShapes

abbrev Box := Nat × Array Value × TypeId
theorem own_below {w w' : World} {base size n : Nat} {e : TypeId} {v : Value} {xs : List Value} (h : w.ownsRow base e size v n xs) (hb : Below w.heap.size w w') : w'.ownsRow base e size v n xs :=
  h.kept (row := none) ⟨hb.os, hb.tape, hb.output, hb.size, fun k hk _ => hb.block k hk⟩ (by cases v.ownBlock <;> simp)
theorem block_below {w w' : World} {g : Nat} {o : Obj} (h : w.heap[g]? = some o) (hb : Below w.heap.size w w') : w'.heap[g]? = some o := (hb.block g (rw_lt h)).trans h
theorem ok_fst {α : Type} {a b : α} {w w' : World} (e : Result.ok a w = Result.ok b w') : a = b := by
  injection e
/-- Appending bytes: the row stays in its block, or goes to a new one. -/
theorem run_append_bytesX (w : World) (base : Nat) (ty : TypeId) (v : Value) (xs ys : List Nat) (p : Option Addr) (c : Nat) (hown : w.ownsRow base 5 1 v xs.length (Bs xs)) (hin : BIn w p ys) (hp : p = none → c = 0)
    (hlen : xs.length + ys.length ≤ 140737488355328) (hbase : base ≤ w.heap.size) :
    ∃ v' w', (Builtin.append_ #[22, 22] ty #[v, .slice p ys.length c]).run Tryd.prog w = .ok v' w' ∧ w'.ownsRow base 5 1 v' (xs ++ ys).length (Bs (xs ++ ys)) ∧ w.grownBy w' v.ownBlock ∧ (v'.ownBlock = v.ownBlock ∨ v'.ownBlock = some w.heap.size) := by
  obtain ⟨i0, hi, hz0, hz1, hz2⟩ := info_parts info5
  cases p with
  | none =>
    obtain rfl : ys = [] := by
      cases ys with
      | nil => rfl
      | cons y ys => obtain ⟨b, o, e, _⟩ := hin.1 (by simp); cases e
    obtain rfl := hp rfl
    exact ⟨v, w, run_append_owned_none (P := Tryd.prog) w base 22 ty 5 i0 1 Tryd.underlying22 hi v xs.length (Bs xs) hown, by simpa using hown, ⟨rfl, rfl, rfl, Nat.le_refl _, fun _ _ _ => rfl⟩, .inl rfl⟩
  | some ad =>
    have hc : ∀ j u, (Bs ys)[j]? = some u → w.cell? (ad.add j) = some u := by
      intro j u hu
      have hpos : 0 < ys.length := by
        cases ys with
        | nil => simp [Bs] at hu
        | cons y ys => simp
      obtain ⟨b, o, e, _⟩ := hin.1 hpos
      simp at e
      subst e
      exact bin_news hin j u hu
    obtain ⟨v', w', hr, h2, h3, h4⟩ := run_append_own (P := Tryd.prog) w base 22 ty 5 i0 (.int .u8 0) 1 1 Tryd.underlying22 hi hz0 hz1 hz2 rfl (by decide) v xs.length (Bs xs) hown ad ys.length c (Bs ys) (by simp [Bs]) hc (Bs_oneCell ys) (by unfold maxLen; omega) (by omega) hbase
    refine ⟨v', w', hr, by simpa [Bs_app] using h2, h3, ?_⟩
    rcases hown.2 with ⟨h0, hn0⟩ | ⟨g, cap, cur, hv, hbg, hg, hnc, hcm, hcs, htake⟩
    · subst h0
      by_cases hy : ys.length = 0
      · left
        rw [h4.2 ⟨rfl, hy⟩]
      · right
        have hx0 : xs = [] := List.eq_nil_of_length_eq_zero hn0
        have hr2 := run_append_nil (P := Tryd.prog) w 22 ty 5 i0 (.int .u8 0) Tryd.underlying22 hi hz0 ad ys.length c (Bs ys) (by rw [hz1, Bs_len]; omega) hc (by omega) (by omega) (by rw [hz2]; omega)
        have e := hr.symm.trans hr2
        exact (congrArg Value.ownBlock (ok_fst e)).trans rfl
    · subst hv
      by_cases hroom : xs.length + ys.length ≤ cap
      · left
        have hr2 := run_append_room (P := Tryd.prog) w 22 ty 5 i0 Tryd.underlying22 hi g xs.length cap cur hg ad ys.length c (Bs ys) (by rw [hz1, Bs_len]; omega) hc (Bs_oneCell ys) hroom (by rw [hz1, Bs_len, hcs]; omega)
        have e := hr.symm.trans hr2
        exact (congrArg Value.ownBlock (ok_fst e)).trans rfl
      · right
        have hr2 := run_append_grow (P := Tryd.prog) w 22 ty 5 i0 (.int .u8 0) Tryd.underlying22 hi hz0 ⟨g, 0, none⟩ xs.length cap (Bs xs) (by rw [hz1, Bs_len]; omega) (hown.cells (g := g) rfl) ad ys.length c (Bs ys) (by rw [hz1, Bs_len]; omega) hc (by omega) (by omega) (growslice_fits (by omega) (by rw [hz2]; omega))
        have e := hr.symm.trans hr2
        exact (congrArg Value.ownBlock (ok_fst e)).trans rfl
theorem wpList_append_bytesX (w : World) {ops : Array Oper} {rest : List Oper} {o : Oper} {a : Act} {Q : Exit → Act → World → Prop} (hgd : o.guard = none) (s x : Operand)
    (ho : o.op = .call { callee := .builtin .append, args := #[s, x], argTypes := #[22, 22] }) (base : Nat) (v : Value) (xs ys : List Nat) (p : Option Addr) (m c : Nat) (hs : a.eval s = v) (hx : a.eval x = .slice p m c) (hm : m = ys.length)
    (hown : w.ownsRow base 5 1 v xs.length (Bs xs)) (hin : BIn w p ys) (hp : p = none → c = 0) (hlen : xs.length + ys.length ≤ 140737488355328) (hbase : base ≤ w.heap.size)
    (h : ∀ v' w', w'.ownsRow base 5 1 v' (xs ++ ys).length (Bs (xs ++ ys)) → w.grownBy w' v.ownBlock → (v'.ownBlock = v.ownBlock ∨ v'.ownBlock = some w.heap.size) → wpList Tryd.prog ops Q rest (a.put o.dst v') w') : wpList Tryd.prog ops Q (o :: rest) a w := by
  subst hm
  refine wpList_plain hgd fun K hK => ?_
  obtain ⟨v', w', hr, h2, h3, h4⟩ := run_append_bytesX w base o.type v xs ys p c hown hin hp hlen hbase
  unfold Oper.wp execOp
  simp only [ho, resolve, invoke, builtin, Sem.run_bind, Sem.run_pure, Result.andThen_ok, List.map_toArray, List.map_cons, List.map_nil, hs, hx, hr]
  exact hK _ _ (h v' w' h2 h3 h4)
/-- A row of bytes of the call's own that grows, beside blocks that stay, whatever they hold. -/
structure Gw (w : World) (bx : List Box) (wc : World) (v : Value) (xs : List Nat) : Prop where
  own : wc.ownsRow w.heap.size 5 1 v xs.length (Bs xs)
  bel : Below w.heap.size w wc
  box : ∀ p ∈ bx, wc.heap[p.1]? = some (.cells p.2.1 p.2.2 (0, 0)) ∧ v.ownBlock ≠ some p.1
theorem Gw.call {w : World} {bx : List Box} {wc w1 : World} {v : Value} {xs : List Nat} (h : Gw w bx wc v xs) (hb : Below wc.heap.size wc w1) : Gw w bx w1 v xs :=
  ⟨own_below h.own hb, below_more h.bel hb, fun p hp => ⟨block_below (h.box p hp).1 hb, (h.box p hp).2⟩⟩
theorem Gw.app {w : World} {bx : List Box} {wc w2 : World} {v v2 : Value} {xs ys : List Nat} (h : Gw w bx wc v xs) (ho : w2.ownsRow w.heap.size 5 1 v2 (xs ++ ys).length (Bs (xs ++ ys))) (hg : wc.grownBy w2 v.ownBlock) (hw : v2.ownBlock = v.ownBlock ∨ v2.ownBlock = some wc.heap.size) : Gw w bx w2 v2 (xs ++ ys) := by
  refine ⟨ho, h.bel.grown hg h.bel.size (fun k hk => (h.own.lt k hk).1), fun p hp => ?_⟩
  obtain ⟨h1, h2⟩ := h.box p hp
  refine ⟨(hg.block _ (rw_lt h1) (fun e => h2 e.symm)).trans h1, ?_⟩
  rcases hw with hw | hw
  · rw [hw]; exact h2
  · rw [hw]
    intro e
    have := rw_lt h1
    have := Option.some.inj e
    omega
theorem Gw.eq {w : World} {bx : List Box} {wc : World} {v : Value} {xs ys : List Nat} (h : Gw w bx wc v xs) (e : xs = ys) : Gw w bx wc v ys := e ▸ h
theorem Gw.size {w : World} {bx : List Box} {wc : World} {v : Value} {xs : List Nat} (h : Gw w bx wc v xs) : w.heap.size ≤ wc.heap.size := h.bel.size
theorem Gw.add {w : World} {bx : List Box} {wc : World} {v : Value} {xs : List Nat} (h : Gw w bx wc v xs) (b : Box) (hb : wc.heap[b.1]? = some (.cells b.2.1 b.2.2 (0, 0))) (hne : v.ownBlock ≠ some b.1) : Gw w (b :: bx) wc v xs := by
  refine ⟨h.own, h.bel, fun p hp => ?_⟩
  rcases List.mem_cons.1 hp with rfl | hp
  · exact ⟨hb, hne⟩
  · exact h.box p hp
/-- Two such rows. -/
structure Gw2 (w : World) (bx : List Box) (wc : World) (v : Value) (xs : List Nat) (u : Value) (ys : List Nat) : Prop where
  one : Gw w bx wc v xs
  two : Gw w bx wc u ys
  apart : v.ownBlock = none ∨ v.ownBlock ≠ u.ownBlock
theorem Gw2.call {w : World} {bx : List Box} {wc w1 : World} {v u : Value} {xs ys : List Nat} (h : Gw2 w bx wc v xs u ys) (hb : Below wc.heap.size wc w1) : Gw2 w bx w1 v xs u ys := ⟨h.one.call hb, h.two.call hb, h.apart⟩
theorem own_lt {w : World} {base n : Nat} {e : TypeId} {s : Nat} {v : Value} {xs : List Value} (h : w.ownsRow base e s v n xs) {k : Nat} (hk : v.ownBlock = some k) : k < w.heap.size := (World.ownsRow.lt h k hk).2
theorem Gw2.app1 {w : World} {bx : List Box} {wc w2 : World} {v v2 u : Value} {xs ys zs : List Nat} (h : Gw2 w bx wc v xs u ys) (ho : w2.ownsRow w.heap.size 5 1 v2 (xs ++ zs).length (Bs (xs ++ zs))) (hg : wc.grownBy w2 v.ownBlock) (hw : v2.ownBlock = v.ownBlock ∨ v2.ownBlock = some wc.heap.size) : Gw2 w bx w2 v2 (xs ++ zs) u ys := by
  have h1 := h.one.app ho hg hw
  have hne : u.ownBlock = none ∨ u.ownBlock ≠ v.ownBlock := by
    cases hu : u.ownBlock with
    | none => exact .inl rfl
    | some k =>
      right
      intro e
      rcases h.apart with ha | ha
      · rw [ha] at e; cases e
      · exact ha (by rw [hu, e])
  refine ⟨h1, ⟨World.ownsRow.kept h.two.own hg hne, h1.bel, fun p hp => ⟨(h1.box p hp).1, (h.two.box p hp).2⟩⟩, ?_⟩
  rcases hw with hw | hw
  · rw [hw]; exact h.apart
  · right
    rw [hw]
    intro e
    have := own_lt h.two.own e.symm
    omega
theorem Gw2.app2 {w : World} {bx : List Box} {wc w2 : World} {v u u2 : Value} {xs ys zs : List Nat} (h : Gw2 w bx wc v xs u ys) (ho : w2.ownsRow w.heap.size 5 1 u2 (ys ++ zs).length (Bs (ys ++ zs))) (hg : wc.grownBy w2 u.ownBlock) (hw : u2.ownBlock = u.ownBlock ∨ u2.ownBlock = some wc.heap.size) : Gw2 w bx w2 v xs u2 (ys ++ zs) := by
  have h2 := h.two.app ho hg hw
  refine ⟨⟨World.ownsRow.kept h.one.own hg h.apart, h2.bel, fun p hp => ⟨(h2.box p hp).1, (h.one.box p hp).2⟩⟩, h2, ?_⟩
  rcases hw with hw | hw
  · rw [hw]; exact h.apart
  · cases hv : v.ownBlock with
    | none => exact .inl rfl
    | some k =>
      right
      rw [hw]
      intro e
      have := own_lt h.one.own hv
      have := Option.some.inj e
      omega
theorem Gw2.eq1 {w : World} {bx : List Box} {wc : World} {v u : Value} {xs xs' ys : List Nat} (h : Gw2 w bx wc v xs u ys) (e : xs = xs') : Gw2 w bx wc v xs' u ys := e ▸ h
theorem Gw2.eq2 {w : World} {bx : List Box} {wc : World} {v u : Value} {xs ys ys' : List Nat} (h : Gw2 w bx wc v xs u ys) (e : ys = ys') : Gw2 w bx wc v xs u ys' := e ▸ h
theorem bin_one (w : World) (c : Nat) (z : Int) (hz : z = (c : Int)) (hc : c < 256) : BIn (w.alloc (.cells #[.int .u8 z] 5)) (some ⟨w.heap.size, 0, none⟩) [c] := by
  subst hz
  refine ⟨fun _ => ⟨w.heap.size, 0, rfl, fun i hi => ?_⟩, fun x hx => by simp at hx; omega⟩
  rw [Nat.zero_add, cell_of_row _ _ _ _ _ _ (_root_.Go.heap_alloc_new _ _)]
  match i, hi with
  | 0, _ => rfl
theorem take_push {l : List Nat} {k : Nat} (h : k < l.length) : l.take k ++ [l.getD k 0] = l.take (k + 1) := by
  rw [List.take_add_one]
  simp [List.getD, List.getElem?_eq_getElem h]
theorem fill_done (X : List Nat) (n : Nat) : fillN (X ++ List.replicate (n - X.length) 0) n X.length = X ++ List.replicate (n - X.length) 0 := by
  unfold fillN
  rw [List.take_left']
  rfl

def recC (r : RecV) : List Value := [.int .i64 r.seq, .int .i64 r.tim, .string r.user, .string r.deed, .int .i64 r.out, .string r.hash]
def recA (r : RecV) : Array Value := #[.int .i64 r.seq, .int .i64 r.tim, .string r.user, .string r.deed, .int .i64 r.out, .string r.hash]
/-- Six cells from an address on. -/
structure RecAt (w : World) (b o : Nat) (r : RecV) : Prop where
  c0 : w.cell? ⟨b, o, none⟩ = some (.int .i64 r.seq)
  c1 : w.cell? ⟨b, o + 1, none⟩ = some (.int .i64 r.tim)
  c2 : w.cell? ⟨b, o + 2, none⟩ = some (.string r.user)
  c3 : w.cell? ⟨b, o + 3, none⟩ = some (.string r.deed)
  c4 : w.cell? ⟨b, o + 4, none⟩ = some (.int .i64 r.out)
  c5 : w.cell? ⟨b, o + 5, none⟩ = some (.string r.hash)
def RsIn (w : World) (q : Option Addr) (l : List RecV) : Prop := 0 < l.length → ∃ b o, q = some ⟨b, o, none⟩ ∧ ∀ i, i < l.length → RecAt w b (o + i * 6) (l.getD i zeroR)
theorem cellB {w w' : World} {a : Addr} {v : Value} (h : w.cell? a = some v) (hb : Below w.heap.size w w') : w'.cell? a = some v := (hb.cell (World.block_lt_of_cell? _ _ h)).trans h
theorem RecAt.below {w w' : World} {b o : Nat} {r : RecV} (h : RecAt w b o r) (hb : Below w.heap.size w w') : RecAt w' b o r :=
  ⟨cellB h.c0 hb, cellB h.c1 hb, cellB h.c2 hb, cellB h.c3 hb, cellB h.c4 hb, cellB h.c5 hb⟩
theorem RecAt.lt {w : World} {b o : Nat} {r : RecV} (h : RecAt w b o r) : b < w.heap.size := World.block_lt_of_cell? _ _ h.c0
theorem RsIn.below {w w' : World} {q : Option Addr} {l : List RecV} (h : RsIn w q l) (hb : Below w.heap.size w w') : RsIn w' q l := by
  intro hp
  obtain ⟨b, o, rfl, hc⟩ := h hp
  exact ⟨b, o, rfl, fun i hi => (hc i hi).below hb⟩
theorem RsIn.addr {w : World} {q : Option Addr} {l : List RecV} (h : RsIn w q l) (hw : 0 < l.length) : ∃ b o, q = some ⟨b, o, none⟩ := by
  obtain ⟨b, o, e, _⟩ := h hw
  exact ⟨b, o, e⟩
theorem RsIn.at {w : World} {b o : Nat} {l : List RecV} (h : RsIn w (some ⟨b, o, none⟩) l) {k : Nat} (hk : k < l.length) : RecAt w b (o + k * 6) (l.getD k zeroR) := by
  obtain ⟨b', o', e, hc⟩ := h (by omega)
  simp only [Option.some.injEq, Addr.mk.injEq, and_true] at e
  obtain ⟨rfl, rfl⟩ := e
  exact hc k hk
theorem rs_nil (w : World) (q : Option Addr) : RsIn w q [] := fun h => absurd h (by simp)
theorem rec_new {w : World} {g : Nat} {r : RecV} {t : TypeId} {f : Nat × Nat} (h : w.heap[g]? = some (.cells (recA r) t f)) : RecAt w g 0 r :=
  ⟨cell_of_row _ _ _ _ _ _ h, cell_of_row _ _ _ _ _ _ h, cell_of_row _ _ _ _ _ _ h, cell_of_row _ _ _ _ _ _ h, cell_of_row _ _ _ _ _ _ h, cell_of_row _ _ _ _ _ _ h⟩
theorem isDigest_any (s : ByteArray) (w : World) : Calls Tryd.prog 47 #[.string s] w fun e w' => e = .returned (.bool (digB s)) ∧ Below w.heap.size w w' := by
  go_enter Tryd.func47, Tryd.ntmps47
  by_cases h : s.size = 64
  · have hI : (((s.size : Nat) : Int) != 64) = false := by rw [h]; rfl
    have U := unhex_any s w (by omega)
    have HD : Hid (digB s = (unhexN (numsOf s)).isSome) := by show _ = _; unfold digB; rw [h]; rfl
    clear h
    go_wp2_with fail
    refine U.mono ?_
    intro e w1 hu
    cases hu with
    | ok r v h he ho hb =>
      subst he
      simp only []
      go_wp2
      go_ret
      rw [HD.out, h]
      exact ⟨rfl, hb⟩
    | no h he hb =>
      subst he
      simp only []
      go_wp2
      go_ret
      rw [HD.out, h]
      exact ⟨rfl, hb⟩
  · have hI : (((s.size : Nat) : Int) != 64) = true := by simpa using fun e : ((s.size : Nat) : Int) = 64 => h (by omega)
    have HD : digB s = false := by unfold digB; rw [decide_eq_false h]; rfl
    rw [HD]
    go_wp2
    go_ret
    exact ⟨rfl, Below.refl _ _⟩
theorem refusedFields_any (t : Int) (u d : ByteArray) (o : Int) (w : World) : Calls Tryd.prog 44 #[.int .i64 t, .string u, .string d, .int .i64 o] w fun e w' => e = .returned (.int .i64 (fldE t u d o : Nat)) ∧ w' = w := by
  go_enter Tryd.func44, Tryd.ntmps44
  by_cases h1 : t < 0 ∨ 1099511627776 < t
  · have e : fldE t u d o = 2 := by unfold fldE; rw [if_pos h1]
    rw [e]
    by_cases h0 : t < 0
    · go_wp2
      go_ret
      exact ⟨rfl, rfl⟩
    · have h2 : (1099511627776 : Int) < t := by omega
      go_wp2
      go_ret
      exact ⟨rfl, rfl⟩
  have a1 : ¬ t < 0 := by omega
  have a2 : ¬ (1099511627776 : Int) < t := by omega
  by_cases h2 : 32 < u.size ∨ 16384 < d.size
  · have e : fldE t u d o = 3 := by unfold fldE; rw [if_neg h1, if_pos h2]
    rw [e]
    by_cases h0 : 32 < u.size
    · have hI : (32 : Int) < (u.size : Int) := by omega
      go_wp2
      go_ret
      exact ⟨rfl, rfl⟩
    · have hI : ¬ (32 : Int) < (u.size : Int) := by omega
      have hJ : (16384 : Int) < (d.size : Int) := by omega
      go_wp2
      go_ret
      exact ⟨rfl, rfl⟩
  have a3 : ¬ (32 : Int) < (u.size : Int) := by omega
  have a4 : ¬ (16384 : Int) < (d.size : Int) := by omega
  by_cases h3 : o < 100 ∨ 599 < o
  · have e : fldE t u d o = 2 := by unfold fldE; rw [if_neg h1, if_neg h2, if_pos h3]
    rw [e]
    by_cases h0 : o < 100
    · go_wp2
      go_ret
      exact ⟨rfl, rfl⟩
    · have h4 : (599 : Int) < o := by omega
      go_wp2
      go_ret
      exact ⟨rfl, rfl⟩
  have e : fldE t u d o = 0 := by unfold fldE; rw [if_neg h1, if_neg h2, if_neg h3]
  have a5 : ¬ o < 100 := by omega
  have a6 : ¬ (599 : Int) < o := by omega
  rw [e]
  go_wp2
  go_ret
  exact ⟨rfl, rfl⟩
set_option maxHeartbeats 1000000 in
theorem mayBe_any (r : RecV) (w : World) : Calls Tryd.prog 46 #[.agg (recA r)] w fun e w' => e = .returned (.bool (mayB r)) ∧ Below w.heap.size w w' := by
  obtain ⟨s, t, u, d, o, h⟩ := r
  unfold recA mayB
  simp only []
  have F := fun w' => refusedFields_any t u d o w'
  have D := fun w' => isDigest_any h w'
  generalize fldE t u d o = E at F
  generalize digB h = B at D
  have HB : ∀ w', Below (w.alloc (.cells (recA ⟨s, t, u, d, o, h⟩) 41)).heap.size (w.alloc (.cells (recA ⟨s, t, u, d, o, h⟩) 41)) w' → RecAt w' w.heap.size 0 ⟨s, t, u, d, o, h⟩ := fun w' hb => (rec_new (_root_.Go.heap_alloc_new w (.cells (recA ⟨s, t, u, d, o, h⟩) 41))).below hb
  have HH : Hid _ := HB
  have BA : Below w.heap.size w (w.alloc (.cells (recA ⟨s, t, u, d, o, h⟩) 41)) := (Below.refl _ _).alloc (Nat.le_refl _) _
  have BH : Hid _ := BA
  clear HB BA
  go_enter Tryd.func46, Tryd.ntmps46
  by_cases hs : 0 ≤ s
  · cases B with
    | false =>
      go_wp2_with (go_at_call 47; refine (D _).mono ?_; rintro e w1 ⟨rfl, hb1⟩)
      go_ret
      exact ⟨by simp, below_more BH.out hb1⟩
    | true =>
      go_wp2_with (first | (go_at_call 47; refine (D _).mono ?_; rintro e w1 ⟨rfl, hb1⟩; obtain ⟨c0, c1, c2, c3, c4, c5⟩ := HH.out w1 hb1; simp only [Nat.zero_add] at c0 c1 c2 c3 c4 c5) | (go_at_call 44; refine (F _).mono ?_; rintro e w2 ⟨rfl, rfl⟩) | fail)
      go_ret
      refine ⟨?_, below_more BH.out hb1⟩
      rw [decide_eq_true hs]
      cases E with
      | zero => rfl
      | succ n => rfl
  · go_wp2
    go_ret
    refine ⟨?_, BH.out⟩
    rw [decide_eq_false (show ¬ 0 ≤ s by omega)]
    rfl
/-- A whole record out of a row, into a box of its own. -/
theorem box_rec {w : World} {r : RecV} {o : Obj} (ho : o = .cells (recA r) 41) : RecAt (w.alloc o) w.heap.size 0 r := rec_new (by rw [ho]; exact _root_.Go.heap_alloc_new _ _)
set_option maxHeartbeats 1000000 in
set_option maxRecDepth 8000 in
theorem refused_any (q : Option Addr) (n c : Nat) (l : List RecV) (w : World) (h : RsIn w q l) (hn0 : n = l.length) (hnb : (n : Int) ≤ 9223372036854775807) :
    Calls Tryd.prog 41 #[.slice q n c] w fun e w' => e = .returned (.int .i64 (refE l : Nat)) ∧ Below w.heap.size w w' := by
  have HN : Hid (n = l.length) := hn0
  have HQ : Hid (RsIn w q l) := h
  clear h hn0
  go_enter Tryd.func41, Tryd.ntmps41
  by_cases hm : (4096 : Int) < (n : Int)
  · have HE : Hid (refE l = 4) := ref_many (by have := HN.out; omega)
    go_wp2
    go_ret
    exact ⟨by rw [HE.out]; rfl, Below.refl _ _⟩
  have HM : Hid (l.length ≤ 4096) := by show _ ≤ _; have := HN.out; omega
  go_wp2
  go_loopw [10] (fun t wr => ∃ k : Nat, k ≤ n ∧ t = .int .i64 (k : Int) ∧ (∀ j, j < k → mayB (l.getD j zeroR) = true) ∧ Below w.heap.size w wr) (fun t _ => n - (intOf t).toNat)
  case atStart => exact ⟨0, by omega, rfl, fun j hj => absurd hj (by omega), Below.refl _ _⟩
  case round =>
    obtain ⟨k, hk, rfl, hz, hbw⟩ := hrel
    have HZ : Hid (∀ j, j < k → mayB (l.getD j zeroR) = true) := hz
    have HB : Hid (Below w.heap.size w wr) := hbw
    clear hz
    by_cases hkl : k < n
    · have hkI : (k : Int) < (n : Int) := by omega
      have hkl2 : k < l.length := by have := HN.out; omega
      have hen := HQ.out.below hbw
      obtain ⟨fb, fo, rfl⟩ := hen.addr (by omega)
      obtain ⟨z0, z1, z2, z3, z4, z5⟩ := hen.at hkl2
      have M := fun w' => mayBe_any (l.getD k zeroR) w'
      have HG : Hid (k < l.length) := hkl2
      have HNX : Hid (mayB (l.getD k zeroR) = true → ∀ j, j < k + 1 → mayB (l.getD j zeroR) = true) := fun h j hj => by
        rcases Nat.lt_or_ge j k with h' | h'
        · exact HZ.out j h'
        · obtain rfl : j = k := by omega
          exact h
      have HBD : Hid (mayB (l.getD k zeroR) = false → refE l = 8) := fun h => ref_bad HM.out HG.out h
      generalize l.getD k zeroR = r at z0 z1 z2 z3 z4 z5 M HNX HBD
      obtain ⟨s, t, u, d, o, hh⟩ := r
      simp only [recA] at z0 z1 z2 z3 z4 z5 M
      generalize mayB ⟨s, t, u, d, o, hh⟩ = B at M HNX HBD
      clear hen hkl hbw hkl2
      cases B with
      | false =>
        go_wp2_with (go_at_call 46; refine (M _).mono ?_; rintro e w1 ⟨rfl, hb1⟩)
        go_ret
        exact ⟨by rw [HBD.out (by trivial)]; rfl, below_more (HB.out.alloc HB.out.size _) hb1⟩
      | true =>
        go_wp2_with (go_at_call 46; refine (M _).mono ?_; rintro e w1 ⟨rfl, hb1⟩)
        go_roundw
        case rel => exact ⟨k + 1, by omega, rfl, HNX.out (by trivial), below_more (HB.out.alloc HB.out.size _) hb1⟩
        case measure => simp [intOf]; omega
    · obtain rfl : k = n := by omega
      have HE : Hid (refE l = 0) := ref_of HM.out (fun r hr => by
        obtain ⟨j, hj, rfl⟩ := List.getElem_of_mem hr
        have := HZ.out j (by have := HN.out; omega)
        rw [List.getD_eq_getElem?_getD, List.getElem?_eq_getElem hj] at this
        exact may_iff.1 this)
      go_wp2
      go_ret
      exact ⟨by rw [HE.out]; rfl, HB.out⟩
end Go.Proofs.YtoagaddciapmkaaDoor
