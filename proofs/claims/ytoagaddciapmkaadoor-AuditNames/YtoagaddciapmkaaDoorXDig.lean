/-
  The digest of pieces; Sum: the program's.
-/
import Derived.Test.YtoagaddciapmkaaDoorXTake
namespace Go.Proofs.YtoagaddciapmkaaDoor
open Go.RowKit Go.WideShapes

/-- Pieces in a row: each a slice that lies somewhere below B. -/
structure PcIn (w : World) (B : Nat) (v : Value) (xs : List Nat) : Prop where
  lies : ∃ p c, v = .slice p xs.length c ∧ xs.length ≤ c ∧ BIn w p xs ∧ (∀ b o, p = some ⟨b, o, none⟩ → 0 < xs.length → b < B)
theorem PcIn.keep {w w' : World} {B : Nat} {v : Value} {xs : List Nat} (h : PcIn w B v xs) (hb : ∀ k, k < B → w'.heap[k]? = w.heap[k]?) : PcIn w' B v xs := by
  obtain ⟨p, c, rfl, hc, hi, hl⟩ := h.lies
  refine ⟨p, c, rfl, hc, ⟨fun hx => ?_, hi.2⟩, hl⟩
  obtain ⟨b, o, rfl, hcell⟩ := hi.1 hx
  exact ⟨b, o, rfl, fun i hi' => by rw [cell_block (hb b (hl b o rfl hx))]; exact hcell i hi'⟩
def catN (l : List (List Nat)) : List Nat := l.flatten
theorem cat_take (l : List (List Nat)) (k : Nat) (hk : k < l.length) : catN (l.take (k + 1)) = catN (l.take k) ++ l.getD k [] := by
  unfold catN
  rw [List.take_add_one, List.flatten_append]
  simp [List.getD, List.getElem?_eq_getElem hk]
theorem cat_len (l : List (List Nat)) : ∀ k, (catN (l.take k)).length ≤ (catN l).length := by
  intro k
  have : catN l = catN (l.take k) ++ catN (l.drop k) := by unfold catN; rw [← List.flatten_append, List.take_append_drop]
  rw [this, List.length_append]; omega
theorem size_running : (Tryd.prog.info? 93).map (·.size) = some 73 := by kernel_rfl
theorem zero_running : (Tryd.prog.info? 93).map (fun i => (i.zero, i.size)) = some (some (.agg (rowR (List.replicate 8 0) (List.replicate 64 0) 0).toArray), 73) := by kernel_rfl
theorem wpList_build_is {P : Program} {w : World} {ops : Array Oper} {rest : List Oper} {o : Oper} {a : Act} {Q : Exit → Act → World → Prop} (hg : o.guard = none) (t : TypeId) (parts : Array (Nat × Operand)) (ho : o.op = .build t parts) {cells : Array Value}
    (hf : P.built t (parts.map fun (i, x) => (i, a.eval x)).toList = some cells) (h : wpList P ops Q rest (a.put o.dst (.agg cells)) w) : wpList P ops Q (o :: rest) a w :=
  wpList_build hg t parts ho (by rw [hf]; rfl) (by rw [hf]; exact h)
theorem tailN_byte (s : Nat) : ∀ x ∈ tailN s, x < 256 := by
  intro x hx
  unfold tailN at hx
  rcases List.mem_append.1 hx with h | h
  · rcases List.mem_cons.1 h with rfl | h
    · omega
    · have := List.eq_of_mem_replicate h; omega
  · exact be8_byte _ x h
theorem owns_bin {w : World} {B : Nat} {v : Value} {xs : List Nat} (h : w.ownsRow B 5 1 v xs.length (Bs xs)) (hx : ∀ x ∈ xs, x < 256) : ∃ p c, v = .slice p xs.length c ∧ xs.length ≤ c ∧ BIn w p xs ∧ ∀ b o, p = some ⟨b, o, none⟩ → 0 < xs.length → B ≤ b := by
  rcases h.2 with ⟨rfl, h0⟩ | ⟨g, cap, cur, rfl, hB, hg, hn, _, _, ht⟩
  · rw [h0]
    exact ⟨none, 0, rfl, Nat.le_refl _, ⟨fun hp => by omega, hx⟩, fun _ _ e => by cases e⟩
  · refine ⟨some ⟨g, 0, none⟩, cap, rfl, hn, ⟨fun _ => ⟨g, 0, rfl, fun i hi => ?_⟩, hx⟩, fun b o e _ => ?_⟩
    · rw [Nat.zero_add, cell_of_row _ _ _ _ _ _ hg]
      have e1 : cur[i]? = (cur.toList.take (xs.length * 1))[i]? := by rw [List.getElem?_take_of_lt (by omega), Array.getElem?_toList]
      rw [e1, ht]
      simp [Bs, List.getD, List.getElem?_eq_getElem hi]
    · simp only [Option.some.injEq, Addr.mk.injEq, and_true] at e
      rw [← e.1]; exact hB
/-- Between the pieces. -/
inductive DigI (w : World) (g : Nat) (l : List (List Nat)) (t : Value) (wr : World) : Prop where
  | intro (k : Nat) (hk : k ≤ l.length) (ht : t = .int .i64 (k : Int)) (hr : RunX wr g (catN (l.take k))) (h0 : wr.heap[w.heap.size]? = some (.cells (Bs (List.replicate 32 0)).toArray 23 (0, 0))) (hb : Below w.heap.size w wr)
set_option maxHeartbeats 1000000 in
set_option maxRecDepth 100000 in
/-- pieces: at most two, in a row that the caller made. -/
theorem digest_any (b : Nat) (l : List (List Nat)) (vs : List Value) (w : World) (hk : KOn w) (hv : vs.length = l.length) (hrow : ∀ i v, vs[i]? = some v → w.cell? ⟨b, i, none⟩ = some v ∧ PcIn w w.heap.size v (l.getD i [])) (hsz : (catN l).length < 1152921504606840000) (hll : l.length < 1000) :
    Calls Tryd.prog 33 #[.slice (some ⟨b, 0, none⟩) l.length l.length] w fun e w' => e = .returned (.agg (Bs (digN (catN l))).toArray) ∧ Below w.heap.size w w' := by
  go_enter Tryd.func33, Tryd.ntmps33
  go_wp2_with fail
  refine (first_any _).mono ?_
  rintro e w1 ⟨rfl, hb1⟩
  simp only []
  go_step
  have hR0 : rowR firstH (List.replicate 64 0) 0 = rowR firstH (List.replicate 64 0) ([] : List Nat).length := rfl
  refine wpList_build_is rfl 93 _ rfl (cells := (rowR firstH (List.replicate 64 0) 0).toArray) (by kernel_rfl) ?_
  have hR0l : (rowR firstH (List.replicate 64 0) 0).toArray.size = 73 := by kernel_rfl
  have hR01 : (rowR firstH (List.replicate 64 0) 0).toArray.all (·.oneCell') = true := by kernel_rfl
  have hRX : RunX (w1.alloc (.cells (rowR firstH (List.replicate 64 0) 0).toArray 93)) w1.heap.size [] := ⟨firstH, _, runOk_none, _root_.Go.heap_alloc_new _ _⟩
  generalize (rowR firstH (List.replicate 64 0) 0).toArray = R0 at hR0l hR01 hRX
  clear hR0
  generalize (Ws firstH).toArray = F0
  obtain ⟨Z0, hZl, hZ⟩ : ∃ Z0 : Array Value, Z0.size = 73 ∧ ∀ w, (zeroValue 93).run Tryd.prog w = .ok (.agg Z0) w := ⟨_, by kernel_rfl, (zero_of_info zero_running).1⟩
  go_step
  go_step
  go_step
  refine wpList_store_row rfl 93 (.tmp 3) (.tmp 7) rfl w1.heap.size R0 (by rfl) (by rfl) 93 _ (_root_.Go.heap_alloc_new _ _) (by rw [size_running, hR0l]) (by rw [hR0l]; exact hZl) hR01 ?_
  rw [World.setRow_alloc_new]
  have hs1 := hb1.size
  have hsz1 : w.heap.size + 1 ≤ w1.heap.size := by simpa using hs1
  have BW : Below w.heap.size w (w1.alloc (.cells R0 93)) := (((Below.refl _ _).alloc (Nat.le_refl _) _).trans ⟨hb1.os, hb1.tape, hb1.output, hb1.size, fun k hk => hb1.block k (by simp; omega)⟩).alloc (by omega) _
  have N0 : (w1.alloc (.cells R0 93)).heap[w.heap.size]? = some (.cells (Bs (List.replicate 32 0)).toArray 23 (0, 0)) := by
    rw [_root_.Go.heap_alloc_old _ _ (by omega), hb1.block _ (by simp), _root_.Go.heap_alloc_new]; rfl
  have hgg : w.heap.size < w1.heap.size := by omega
  generalize w1.heap.size = g at hRX hgg ⊢
  generalize w1.alloc (.cells R0 93) = W1 at BW N0 hRX ⊢
  clear hb1 hs1 hsz1 hR0l hR01
  go_wp2
  go_loopw [10] (fun t wr => DigI w g l t wr) (fun t _ => l.length - (intOf t).toNat)
  case atStart => exact ⟨0, by omega, rfl, hRX, N0, BW⟩
  case round =>
    clear BW N0 hRX
    obtain ⟨k, hkl, rfl, hRX, N0, BW⟩ := hrel
    by_cases hlt : k < l.length
    · obtain ⟨hcv, hpc⟩ := hrow k _ (List.getElem?_eq_getElem (show k < vs.length by omega))
      have hcv2 : wr.cell? ⟨b, k, none⟩ = some vs[k] := by
        rw [cell_block (BW.block b (block_lt_of_cell hcv))]; exact hcv
      obtain ⟨p, c, hvk, hc, hi, hb⟩ := (hpc.keep (fun j hj => BW.block j hj)).lies
      rw [hvk] at hcv2
      have hkI : (k : Int) < (l.length : Int) := by omega
      have HT : Hid (catN (l.take (k + 1)) = catN (l.take k) ++ l.getD k []) := cat_take l k hlt
      have hlen1 := cat_len l (k + 1)
      rw [HT.out, List.length_append] at hlen1
      have HC := take_any g (catN (l.take k)) (l.getD k []) p c wr (hk.below BW hk.pos) (by omega) hRX hi (fun b' o' e hp => by have := hb b' o' e hp; omega) hc (by omega)
      generalize l.getD k [] = ys at HC HT hcv2 hc
      have Hrow : Hid _ := hrow
      clear hrow hcv hpc hi hb hvk hlen1 hsz
      go_wp2_with (go_at_call 60; refine HC.mono ?_; rintro e w2 ⟨rfl, hrx2, hg2⟩)
      go_roundw
      case rel =>
        refine DigI.intro (k + 1) (by omega) (by rfl) (by rw [HT.out]; exact hrx2) ?_ ?_
        · rw [hg2.block _ (Array.getElem?_eq_some_iff.1 N0).1 (by simp; omega)]; exact N0
        · exact ⟨hg2.os.trans BW.os, hg2.tape.trans BW.tape, hg2.output.trans BW.output, Nat.le_trans BW.size hg2.size, fun j hj => by rw [hg2.block j (Nat.lt_of_lt_of_le hj BW.size) (by simp; omega)]; exact BW.block j hj⟩
      case measure => simp [intOf]; omega
    · obtain rfl : k = l.length := by omega
      rw [List.take_length] at hRX
      obtain ⟨H, blk, hok, hr⟩ := hRX
      have c72 : wr.cell? ⟨g, 72, none⟩ = some (.int .u64 ((catN l).length : Int)) := by rw [cell_of_row _ _ _ _ _ _ hr]; exact rowR_at72 hok.hlen hok.len
      have HRX : Hid (RunX wr g (catN l)) := ⟨H, blk, hok, hr⟩
      have Hrow : Hid _ := hrow
      have HD : Hid (digN (catN l) = (roundsN firstH (catN l ++ tailN (catN l).length) ((catN l ++ tailN (catN l).length).length / 64)).flatMap be4) := by show _ = _; rw [← longerN_tail]; rfl
      have hLm : (catN l ++ tailN (catN l).length).length % 64 = 0 := by rw [← longerN_tail]; exact longerN_len _
      have hsz' : (catN l).length < 1152921504606840000 := hsz
      have htl : (tailN (catN l).length).length ≤ 72 := by
        unfold tailN
        rw [List.length_append, List.length_cons, List.length_replicate, be8_len]
        omega
      generalize hX : catN l = X at c72 HRX HD hLm hsz' htl
      clear hr hrow hok hsz
      go_wp2_with (go_at_call 61; refine (behind_any X.length _ (by omega)).mono ?_; rintro e w2 ⟨v, rfl, hown, hb2⟩)
      have hgw : g < wr.heap.size := by
        obtain ⟨_, _, _, h⟩ := HRX.out
        exact (Array.getElem?_eq_some_iff.1 h).1
      obtain ⟨p2, c2, rfl, hc2, hi2, hn2⟩ := owns_bin hown (tailN_byte X.length)
      have HRX2 : RunX w2 g X := by
        obtain ⟨H', blk', h1, h2⟩ := HRX.out
        exact ⟨H', blk', h1, by rw [hb2.block g hgw]; exact h2⟩
      have BW2 : Below w.heap.size w w2 := BW.trans ⟨hb2.os, hb2.tape, hb2.output, hb2.size, fun j hj => hb2.block j (Nat.lt_of_lt_of_le hj BW.size)⟩
      have N2 : w2.heap[w.heap.size]? = some (.cells (Bs (List.replicate 32 0)).toArray 23 (0, 0)) := by rw [hb2.block _ (Array.getElem?_eq_some_iff.1 N0).1]; exact N0
      refine (take_any g X (tailN X.length) p2 c2 w2 (hk.below BW2 hk.pos) (by omega) HRX2 hi2 (fun b' o' e hp => by have := hn2 b' o' e hp; omega) hc2 (by omega)).mono ?_
      rintro e w3 ⟨rfl, hrx3, hg3⟩
      have BW3 : Below w.heap.size w w3 := ⟨hg3.os.trans BW2.os, hg3.tape.trans BW2.tape, hg3.output.trans BW2.output, Nat.le_trans BW2.size hg3.size, fun j hj => by rw [hg3.block j (Nat.lt_of_lt_of_le hj BW2.size) (by simp; omega)]; exact BW2.block j hj⟩
      have N3 : w3.heap[w.heap.size]? = some (.cells (Bs (List.replicate 32 0)).toArray 23 (0, 0)) := by rw [hg3.block _ (Array.getElem?_eq_some_iff.1 N2).1 (by simp; omega)]; exact N2
      obtain ⟨H, blk, hok, hr⟩ := hrx3
      have hHl := hok.hlen
      have hHw := hok.hword
      have HD2 : Hid (digN X = H.flatMap be4) := by show _ = _; rw [HD.out, hok.words]
      clear hown hb2 hi2 hn2 HRX2 BW2 N2 hg3 BW N0 HRX hok HD hLm c72
      go_upto_region 8 with fail
      go_step
      go_step
      go_step
      go_step
      refine wpList_load_mid rfl 89 (.tmp 21) rfl g 0 (by rfl) (Ws H) _ (fun j v hv => by rw [Nat.zero_add, cell_of_row _ _ _ _ _ _ hr]; exact rowR_atW hv) Tryd.underlying89 rfl (by rw [size_words, Ws_len, hHl]) ?_
      go_wp2_with fail
      refine (told_any H _ hHl hHw).mono ?_
      rintro e w4 ⟨rfl, hb4⟩
      simp only []
      go_step
      have N4 : w4.heap[w.heap.size]? = some (.cells (Bs (List.replicate 32 0)).toArray 23 (0, 0)) := by rw [hb4.block _ (Array.getElem?_eq_some_iff.1 N3).1]; exact N3
      have hDs : (Tryd.prog.info? 23).map (·.size) = some (Bs (digN X)).toArray.size := by rw [size_dig]; simp [Bs, digN_len]
      rw [← HD2.out]
      have HS := setRow_heap w4 _ _ (Bs (digN X)).toArray 23 (0, 0) N4
      have B4 : Below w.heap.size w (w4.setRow w.heap.size (Bs (digN X)).toArray) := below_setRow (BW3.trans ⟨hb4.os, hb4.tape, hb4.output, hb4.size, fun j hj => hb4.block j (Nat.lt_of_lt_of_le hj BW3.size)⟩) (Nat.le_refl _)
      refine wpList_store_row rfl 23 (.tmp 2) (.tmp 23) rfl _ (Bs (digN X)).toArray (by rfl) (by rfl) 23 _ N4 hDs (by simp [Bs, digN_len]) (one_cell_bs _) ?_
      go_wp2
      refine bodyPost_ret (results_cell_row rfl _ _ w.heap.size 23 (Bs (digN X)).toArray (0, 0) _ (by rfl) HS Tryd.underlying23 rfl hDs) rfl ⟨?_, B4⟩
      rw [hX]
end Go.Proofs.YtoagaddciapmkaaDoor
