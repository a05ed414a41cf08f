import Derived.Test.YtghcmllmbpoidaaGreatDoorJ06
import Derived.Shelf.SlGeneric
import Derived.Ground.SlgcProg
import Derived.Ground.SlsfProg
import Derived.Shelf.SlicesG.Cmp
import Derived.Shelf.SlSortCmp.WholeK
import Derived.Shelf.SlSortCmp.NoneTotal
import Derived.Test.YtghcmllmbpoidaaGreatDoorProg
namespace Go.Proofs.YtghcmllmbpoidaaGreatDoor
open Go.RowKit Go.Extern.Stop Go.Stop Go.Extern Rm
set_option maxHeartbeats 400000 in
theorem number_nil (w : World) : Calls Tryz.prog 32 #[.nilIface] w fun ev w' => ev = .returned (.int .i64 0) ∧ Below w.heap.size w w' := by
  go_enter Tryz.func32, Tryz.ntmps32
  go_wp2
  go_ret
  exact ⟨rfl, below_alloc _ _⟩
set_option maxHeartbeats 400000 in
theorem number_any (v : Value) (e : Int) (hv : Faults v e) (w : World) (hg : ErrT w) : Calls Tryz.prog 32 #[v] w fun ev w' => ev = .returned (.int .i64 e) ∧ Below w.heap.size w w' := by
  have hcall := As_any v e hv ⟨w.heap.size, 0, none⟩ (.int .i64 0) (w.alloc (.cells #[.int .i64 0] 25)) (hg.below (below_alloc _ _)) (by simp) (by simp)
  go_enter Tryz.func32, Tryz.ntmps32
  go_wp2_with fail
  refine hcall.mono ?_
  rintro e1 w1 ⟨rfl, w2, rfl, hb⟩
  have hs := hb.size
  simp at hs
  have hc : w2.cell? ⟨w.heap.size, 0, none⟩ = some (.int .i64 0) := by rw [hb.cell (by simp)]; simp
  have hc2 : (w2.setCell ⟨w.heap.size, 0, none⟩ (.int .i64 e)).cell? ⟨w.heap.size, 0, none⟩ = some (.int .i64 e) := World.cell?_setCell_same _ _ _ hc
  have hb2 : Below w.heap.size w (w2.setCell ⟨w.heap.size, 0, none⟩ (.int .i64 e)) := ((below_alloc w _).trans (hb.mono (by simp))).setCell (by simp) _
  generalize w2.setCell ⟨w.heap.size, 0, none⟩ (.int .i64 e) = w3 at *
  clear hc hs hb hcall
  go_wp2
  go_ret
  exact ⟨rfl, hb2⟩
end Go.Proofs.YtghcmllmbpoidaaGreatDoor
namespace Go.Proofs.YtghcmllmbpoidaaGreatDoor.Rm
open Go.RowKit Go.WideShapes
theorem mayCount_any (n : Int) (w : World) : Calls Tryz.prog 265 #[.int .i64 n] w fun e w' => e = .returned (.bool (decide (0 ≤ n ∧ n ≤ 4096))) ∧ w' = w := by
  by_cases h1 : 0 ≤ n
  · go_enter Tryz.func265, Tryz.ntmps265
    go_wp2
    go_ret
    exact ⟨by simp [h1], rfl⟩
  · go_enter Tryz.func265, Tryz.ntmps265
    go_wp2
    go_ret
    exact ⟨by simp; omega, rfl⟩
theorem within_any (count a b : Int) (w : World) (hc : 0 ≤ count ∧ count ≤ 4096) (ha : -9223372036854775808 ≤ a ∧ a ≤ 9223372036854775807) :
    Calls Tryz.prog 266 #[.int .i64 count, .agg #[.int .i64 a, .int .i64 b]] w fun e w' => e = .returned (.bool (wnB count (a, b))) ∧ ∃ o, w' = w.alloc o := by
  by_cases h1 : 0 ≤ a
  · by_cases h2 : 1 ≤ b
    · go_enter Tryz.func266, Tryz.ntmps266
      go_wp2
      go_ret
      exact ⟨by simp [wnB, h1, h2], _, rfl⟩
    · go_enter Tryz.func266, Tryz.ntmps266
      go_wp2
      go_ret
      exact ⟨by rw [wnB_no (show ¬ Wn count (a, b) from fun h => by have := h.1; have := h.2.1; simp only at *; omega)]; rfl, _, rfl⟩
  · go_enter Tryz.func266, Tryz.ntmps266
    go_wp2
    go_ret
    exact ⟨by rw [wnB_no (show ¬ Wn count (a, b) from fun h => by have := h.1; have := h.2.1; simp only at *; omega)]; rfl, _, rfl⟩
end Go.Proofs.YtghcmllmbpoidaaGreatDoor.Rm
namespace Go.Proofs.YtghcmllmbpoidaaGreatDoor.Rm
open Go.Shelf
def laysSort_ren : Go.Shelf.Ren := ⟨fun | 6 => 289 | 15 => 144 | 14 => 307 | 28 => 196 | 29 => 158 | 20 => 323 | 21 => 324 | 22 => 325 | 23 => 326 | 24 => 327 | 25 => 328 | 26 => 329 | 27 => 330 | 46 => 336 | 47 => 332 | 48 => 333 | 49 => 337 | 50 => 338 | 57 => 340 | n => n, fun | 22 => 145 | 24 => 194 | 25 => 416 | 3 => 3 | 39 => 165 | 0 => 0 | 53 => 128 | 55 => 83 | 4 => 4 | 46 => 440 | 45 => 439 | 50 => 319 | 5 => 5 | 9 => 9 | 66 => 450 | 70 => 368 | 76 => 455 | 77 => 397 | n => n, fun | n => n⟩
theorem laysSort : Go.Proofs.SlLaysF0.n6 Tryz.prog laysSort_ren := {
  mixed := by kernel_rfl
  f6 := ⟨Tryz.f289.name, by decide, Tryz.func289.trans (congrArg some (by kernel_rfl))⟩
  f14 := ⟨Tryz.f307.name, by decide, Tryz.func307.trans (congrArg some (by kernel_rfl))⟩
  f15 := Tryz.func144.trans (congrArg some (by kernel_rfl))
  f20 := ⟨Tryz.f323.name, by decide, Tryz.func323.trans (congrArg some (by kernel_rfl))⟩
  f21 := ⟨Tryz.f324.name, by decide, Tryz.func324.trans (congrArg some (by kernel_rfl))⟩
  f22 := ⟨Tryz.f325.name, by decide, Tryz.func325.trans (congrArg some (by kernel_rfl))⟩
  f23 := ⟨Tryz.f326.name, by decide, Tryz.func326.trans (congrArg some (by kernel_rfl))⟩
  f24 := ⟨Tryz.f327.name, by decide, Tryz.func327.trans (congrArg some (by kernel_rfl))⟩
  f25 := ⟨Tryz.f328.name, by decide, Tryz.func328.trans (congrArg some (by kernel_rfl))⟩
  f26 := ⟨Tryz.f329.name, by decide, Tryz.func329.trans (congrArg some (by kernel_rfl))⟩
  f27 := ⟨Tryz.f330.name, by decide, Tryz.func330.trans (congrArg some (by kernel_rfl))⟩
  f28 := Tryz.func196.trans (congrArg some (by kernel_rfl))
  f29 := Tryz.func158.trans (congrArg some (by kernel_rfl))
  f46 := ⟨Tryz.f336.name, by decide, Tryz.func336.trans (congrArg some (by kernel_rfl))⟩
  f47 := Tryz.func332.trans (congrArg some (by kernel_rfl))
  f48 := Tryz.func333.trans (congrArg some (by kernel_rfl))
  f49 := ⟨Tryz.f337.name, by decide, Tryz.func337.trans (congrArg some (by kernel_rfl))⟩
  f50 := ⟨Tryz.f338.name, by decide, Tryz.func338.trans (congrArg some (by kernel_rfl))⟩
  f57 := ⟨Tryz.f340.name, by decide, Tryz.func340.trans (congrArg some (by kernel_rfl))⟩
  t0 := Tryz.underlying0
  a0 := Tryz.isAgg0
  z0 := Tryz.sizeOf0
  v0 := Tryz.zeroValue0
  t3 := Tryz.underlying3
  a3 := Tryz.isAgg3
  z3 := Tryz.sizeOf3
  v3 := Tryz.zeroValue3
  t4 := Tryz.underlying4
  a4 := Tryz.isAgg4
  z4 := Tryz.sizeOf4
  v4 := Tryz.zeroValue4
  t5 := Tryz.underlying5
  a5 := Tryz.isAgg5
  z5 := Tryz.sizeOf5
  v5 := Tryz.zeroValue5
  t9 := Tryz.underlying9
  a9 := Tryz.isAgg9
  z9 := Tryz.sizeOf9
  v9 := Tryz.zeroValue9
  t22 := Tryz.underlying145
  a22 := Tryz.isAgg145
  z22 := Tryz.sizeOf145
  v22 := Tryz.zeroValue145
  t25 := Tryz.underlying416
  a25 := Tryz.isAgg416
  z25 := Tryz.sizeOf416
  v25 := Tryz.zeroValue416
  t39 := Tryz.underlying165
  a39 := Tryz.isAgg165
  z39 := Tryz.sizeOf165
  v39 := Tryz.zeroValue165
  t45 := Tryz.underlying439
  a45 := Tryz.isAgg439
  z45 := Tryz.sizeOf439
  v45 := Tryz.zeroValue439
  t46 := Tryz.underlying440
  a46 := Tryz.isAgg440
  z46 := Tryz.sizeOf440
  v46 := Tryz.zeroValue440
  t50 := Tryz.underlying319
  a50 := Tryz.isAgg319
  z50 := Tryz.sizeOf319
  v50 := Tryz.zeroValue319
  t53 := Tryz.underlying128
  a53 := Tryz.isAgg128
  z53 := Tryz.sizeOf128
  v53 := Tryz.zeroValue128
  t55 := Tryz.underlying83
  a55 := Tryz.isAgg83
  z55 := Tryz.sizeOf83
  v55 := Tryz.zeroValue83
  t66 := Tryz.underlying450
  a66 := Tryz.isAgg450
  z66 := Tryz.sizeOf450
  v66 := Tryz.zeroValue450
  t70 := Tryz.underlying368
  a70 := Tryz.isAgg368
  z70 := Tryz.sizeOf368
  v70 := Tryz.zeroValue368
  t76 := Tryz.underlying455
  a76 := Tryz.isAgg455
  z76 := Tryz.sizeOf455
  v76 := Tryz.zeroValue455
  t77 := Tryz.underlying397
  a77 := Tryz.isAgg397
  z77 := Tryz.sizeOf397
  v77 := Tryz.zeroValue397 }
def laysCmp_ren : Go.Shelf.Ren := ⟨fun | 5 => 291 | 7 => 308 | n => n, fun | 22 => 3 | 3 => 3 | 4 => 4 | n => n, fun | n => n⟩
theorem laysCmp : Go.Proofs.SlLaysC2.n5 Tryz.prog laysCmp_ren := {
  mixed := by kernel_rfl
  f5 := ⟨Tryz.f291.name, by decide, Tryz.func291.trans (congrArg some (by kernel_rfl))⟩
  f7 := ⟨Tryz.f308.name, by decide, Tryz.func308.trans (congrArg some (by kernel_rfl))⟩
  t3 := Tryz.underlying3
  a3 := Tryz.isAgg3
  z3 := Tryz.sizeOf3
  v3 := Tryz.zeroValue3
  t4 := Tryz.underlying4
  a4 := Tryz.isAgg4
  z4 := Tryz.sizeOf4
  v4 := Tryz.zeroValue4
  t22 := Tryz.underlying3
  a22 := Tryz.isAgg3
  z22 := Tryz.sizeOf3
  v22 := Tryz.zeroValue3 }
end Go.Proofs.YtghcmllmbpoidaaGreatDoor.Rm
namespace Go.Proofs.YtghcmllmbpoidaaGreatDoor.Rm
open Go.RowKit Go.WideShapes Go.Shelf Go.Lib Go.Sort
def encP (p : Int × Int) : List Value := [.int .i64 p.1, .int .i64 p.2]
theorem flat_at (l : Pcs) (t : Nat) (h : t < l.length * 2) : (cellsQ l)[t]? = some (flatK encP 2 l.toArray)[t]! := by
  rw [get_flatK _ _ _ _ (by simpa using h)]
  have hd : t / 2 < l.length := by omega
  obtain ⟨h0, h1⟩ := cellsQ_at l (t / 2) hd
  have e : l.toArray[t / 2]! = l.getD (t / 2) (0, 0) := by
    rw [getElem!_pos l.toArray (t / 2) (by simpa using hd)]
    simp [List.getD, List.getElem?_eq_getElem hd]
  rw [e]
  rcases Nat.mod_two_eq_zero_or_one t with hm | hm
  · rw [hm]
    rw [show t / 2 * 2 = t from by omega] at h0
    rw [h0]; rfl
  · rw [hm]
    rw [show t / 2 * 2 + 1 = t from by omega] at h1
    rw [h1]; rfl
theorem holds_own {w : World} {g : Nat} {cur : Array Value} {e : TypeId} {l : Pcs} (hb : w.heap[g]? = some (.cells cur e (0, 0))) (ht : cur.toList.take (l.length * 2) = cellsQ l) : HoldsK encP 2 w g 0 l.toArray := by
  intro j hj
  have hj' : j < l.length * 2 := by simpa using hj
  refine ⟨?_, frozen_of_row _ _ _ _ _ hb⟩
  have h1 := flat_at l j hj'
  rw [← ht, List.getElem?_take_of_lt hj'] at h1
  rw [Nat.zero_add, cell_of_row w g j _ _ _ hb, ← Array.getElem?_toList, h1]
  rfl
theorem heap_rise {w : World} {g n : Nat} {os : Array Obj} {cur : Array Value} {e : TypeId} {fr : Nat × Nat} (d : Array (Int × Int)) (hb : w.heap[g]? = some (.cells cur e fr)) :
    (sortWorldK encP 2 w g 0 n d os).heap[g]? = some (.cells (putCells id 0 (flatK encP 2 d) cur) e fr) := by
  have hg : g < w.heap.size := (Array.getElem?_eq_some_iff.1 hb).1
  unfold sortWorldK putRowK
  rw [heap_grow_old _ _ (by simpa using hg)]
  simp [putRow, mapBlock, Sort.ahead, Array.getElem?_modify, hb, onCells]
theorem grown_rise {w : World} {g n : Nat} {os : Array Obj} (d : Array (Int × Int)) : w.grownBy (sortWorldK encP 2 w g 0 n d os) (some g) := by
  refine ⟨rfl, rfl, rfl, by unfold sortWorldK putRowK; simp, fun k hk hne => ?_⟩
  unfold sortWorldK putRowK
  rw [heap_grow_old _ _ (by simpa using hk)]
  have : g ≠ k := fun e => hne (by rw [e])
  simp [putRow, mapBlock, Sort.ahead, Array.getElem?_modify, this]
theorem own_rise {w : World} {base g cap n : Nat} {os : Array Obj} {cur : Array Value} {l : Pcs} {d : Array (Int × Int)} (hl : d.size = l.length) (hbase : base ≤ g) (hb : w.heap[g]? = some (.cells cur 194 (0, 0)))
    (h1 : l.length ≤ cap) (h2 : cap ≤ maxLen) (h3 : cur.size = cap * 2) : POwn (sortWorldK encP 2 w g 0 n d os) base (.slice (some ⟨g, 0, none⟩) l.length cap) d.toList := by
  refine ⟨by rw [cellsQ_len], .inr ⟨g, cap, _, by simp [hl], hbase, heap_rise d hb, by simpa [hl] using h1, h2, by simp [putCells, h3], ?_⟩⟩
  apply List.ext_getElem?
  intro j
  have hdl : d.toList.length = l.length := by simpa using hl
  by_cases hj : j < d.toList.length * 2
  · rw [List.getElem?_take_of_lt hj, Array.getElem?_toList, flat_at _ _ hj]
    have hs : j < cur.size := by omega
    simp only [putCells, Array.getElem?_mapIdx, Array.getElem?_eq_getElem hs, Option.map_some, Nat.zero_le, Nat.zero_add, true_and, size_flatK, Nat.sub_zero, id]
    rw [if_pos (by simpa using hj), Array.toArray_toList]
  · rw [List.getElem?_take_eq_none (by omega), List.getElem?_eq_none (by rw [cellsQ_len]; omega)]
def cfP (x y : Int × Int) : Int := Lib.compareInt x.1 y.1
theorem lt_cfP (x y : Int × Int) : ltOf cfP x y = decide (x.1 < y.1) := by
  unfold ltOf cfP Lib.compareInt
  by_cases h1 : x.1 < y.1
  · simp [h1]
  · by_cases h2 : y.1 < x.1 <;> simp [h1, h2]
theorem swo_cfP : SWO (ltOf cfP) where
  irrefl x := by rw [lt_cfP]; simp
  trans x y z h1 h2 := by rw [lt_cfP] at *; simp at *; omega
  ntrans x y z h1 h2 := by rw [lt_cfP] at *; simp at *; omega
theorem up_of {d : Array (Int × Int)} {n : Nat} (hn : d.size = n) (h : SortedIn (ltOf cfP) 0 n d) : Up d.toList := by
  unfold Up
  rw [List.pairwise_iff_getElem]
  intro i j hi hj hij
  have hj' : j < d.size := by simpa using hj
  have hi' : i < d.size := by omega
  have := h i j (Nat.zero_le _) hij (by omega)
  rw [lt_cfP, getElem!_pos d j hj', getElem!_pos d i hi'] at this
  simp only [Array.getElem_toList]
  simp at this
  exact this
theorem perm_of {l : Pcs} {d : Array (Int × Int)} (h : PermIn 0 l.toArray.size l.toArray d) : l.Perm d.toList := by
  have h2 := h.2.2
  have hs : d.size = l.toArray.size := h.1
  rw [← hs, Array.extract_eq_self_of_le (Nat.le_refl _), hs, Array.extract_eq_self_of_le (Nat.le_refl _)] at h2
  exact h2.symm
set_option maxHeartbeats 1000000 in
theorem riseFn (x y : Int × Int) (W : World) : Calls Tryz.prog 290 #[.agg #[.int .i64 x.1, .int .i64 x.2], .agg #[.int .i64 y.1, .int .i64 y.2]] W fun e w' => e = .returned (.int .i64 (cfP x y)) ∧ ∃ q os', w' = grow (W.drewN q) os' := by
  have hcon := fun W' => AnyG.cmp_Compare_int laysCmp x.1 y.1 W'
  change ∀ W', Calls Tryz.prog 291 _ _ _ at hcon
  unfold cfP
  generalize Lib.compareInt x.1 y.1 = r at hcon ⊢
  go_enter Tryz.func290, Tryz.ntmps290
  go_wp2_with (go_at_call 291; refine (hcon _).mono ?_; rintro e w' ⟨rfl, rfl⟩)
  go_ret
  exact ⟨rfl, 0, _, by rw [alloc_eq_grow, alloc_eq_grow, grow_grow]; rfl⟩
theorem riseLays (blk off size : Nat) (w : World) : CmpLays Tryz.prog 290 #[] encP 2 cfP blk off size w := fun _ _ _ _ x y => riseFn x y _
theorem eql_nil (w : World) (a : Option Addr) (n c n' c' : Nat) : (binOp .eql 145 (.slice a n c) (.slice none n' c')).run Tryz.prog w = .ok (.bool a.isNone) w := Lib.run_eql_slice_nil w _ _ a n c n' c' Tryz.underlying145
theorem clone_some (ad : Addr) (l : Pcs) (c : Nat) (w : World) (hn : l.length ≤ 1000000) (hc : ∀ j u, (cellsQ l)[j]? = some u → w.cell? (ad.add j) = some u) :
    Calls Tryz.prog 288 #[.slice (some ad) l.length c] w fun e w' => ∃ v', e = .returned v' ∧ POwn w' w.heap.size v' l ∧ v' ≠ .slice none 0 0 ∧ Below w.heap.size w w' := by
  obtain ⟨i0, hi, hz0, hz1, hz2⟩ := info_parts' info_piece
  have A : Hid (∀ j u, (cellsQ l)[j]? = some u → w.cell? (ad.add j) = some u) := hc
  clear hc
  have HL : Hid ((cellsQ l).length = l.length * 2) := cellsQ_len l
  generalize hln : l.length = n at *
  have q22 := eql_nil
  go_enter Tryz.func288, Tryz.ntmps288
  go_wp2_with (at_builtin; refine wpList_append_own _ rfl _ _ 145 rfl w.heap.size 194 i0 _ 2 16 Tryz.underlying145 hi hz0 hz1 hz2 rfl (by omega) _ _ _ rfl (World.ownsRow_made w #[] 0 (Nat.le_refl _) (Nat.zero_le _) (by simp)) ad n c (cellsQ l) rfl ?qc1 ?qc2 ?qc3 ?qc4 ?qc5 ?qc6 ?_)
  case qc1 => exact HL.out
  case qc2 =>
    intro j u hj
    exact Lib.cell?_alloc_some _ (A.out j u hj)
  case qc3 => exact cellsQ_oneCell l
  case qc4 => unfold maxLen; omega
  case qc5 => omega
  case qc6 => simp
  intro v' w1 hown hgrow hnil
  have R : Hid (POwn w1 w.heap.size v' l) := by
    show POwn _ _ _ _
    unfold POwn
    rw [hln]
    simpa using hown
  have G : Hid (Below w.heap.size w w1) := ((Below.refl _ w).alloc (Nat.le_refl _) _).grown hgrow (by simp) (by intro k hk; simp [Value.ownBlock] at hk; omega)
  clear hown hgrow
  go_wp2
  go_ret
  exact ⟨v', rfl, R.out, hnil, G.out⟩
theorem clone_nil (n c : Nat) (w : World) : Calls Tryz.prog 288 #[.slice none n c] w fun e w' => e = .returned (.slice none 0 0) ∧ w' = w := by
  have q22 := eql_nil
  go_enter Tryz.func288, Tryz.ntmps288
  go_wp2
  go_ret
  exact ⟨rfl, rfl⟩
theorem pcs_news {w : World} {q : Option Addr} {l : Pcs} {ad : Addr} (h : PcsIn w q l) (hq : q = some ad) : ∀ j u, (cellsQ l)[j]? = some u → w.cell? (ad.add j) = some u := by
  subst hq
  intro j u hu
  have hj : j < l.length * 2 := by
    rcases Nat.lt_or_ge j (l.length * 2) with h | h
    · exact h
    · rw [List.getElem?_eq_none (by rw [cellsQ_len]; exact h)] at hu; cases hu
  obtain ⟨b, o, e, hc⟩ := h (by omega)
  simp only [Option.some.injEq] at e
  subst e
  rw [WideShapes.add_plain]
  obtain ⟨h0, h1⟩ := cellsQ_at l (j / 2) (by omega)
  obtain ⟨c0, c1⟩ := hc (j / 2) (by omega)
  rcases Nat.mod_two_eq_zero_or_one j with hm | hm
  · rw [show j / 2 * 2 = j from by omega] at h0 c0
    rw [hu] at h0
    rw [c0, h0]
  · rw [show j / 2 * 2 + 1 = j from by omega] at h1 c1
    rw [hu] at h1
    rw [c1, h1]
theorem enters_rise : ∀ args w, (callFunc 290 args).run Tryz.prog w = .ok (.enter 290 args) w := enters_of Tryz.func290 (by kernel_rfl) rfl
theorem sort_own (base g cap : Nat) (l : Pcs) (w : World) (ho : POwn w base (.slice (some ⟨g, 0, none⟩) l.length cap) l) (hn : l.length ≤ 1000000) :
    Calls Tryz.prog 289 #[.slice (some ⟨g, 0, none⟩) l.length cap, .func (.func 290) #[] #[]] w fun e w' => e = .returned (.tuple #[]) ∧ ∃ s, POwn w' base (.slice (some ⟨g, 0, none⟩) l.length cap) s ∧ l.Perm s ∧ Up s ∧ w.grownBy w' (some g) := by
  rcases ho.2 with ⟨hv, _⟩ | ⟨g', cap', cur, hv, hb, hg, h1, h2, h3, h4⟩
  · cases hv
  · simp only [Value.slice.injEq, Option.some.injEq, Addr.mk.injEq, and_true, true_and] at hv
    obtain ⟨rfl, rfl⟩ := hv
    have hcon := AnyQ.slices_SortFunc laysSort 2 Tryz.isAgg194 Tryz.sizeOf194 encP (fun _ => rfl) (fun x v hv => by simp [encP] at hv; rcases hv with rfl | rfl <;> rfl) cfP swo_cfP 290 #[] g 0 cap l.toArray w enters_rise (riseLays g 0 _ w) (holds_own hg h4) (lt_heap hg) (by simp; omega)
    refine hcon.mono ?_
    rintro e w' ⟨rfl, d', n, os, hp, hs, rfl⟩
    have hsz : d'.size = l.length := by simpa using hp.1
    exact ⟨rfl, d'.toList, own_rise hsz hb hg h1 h2 h3, perm_of hp, up_of hp.1 hs, grown_rise d'⟩
theorem sort_none (p : Option Addr) (cap : Nat) (fv : Value) (w : World) : Calls Tryz.prog 289 #[.slice p 0 cap, fv] w fun e w' => e = .returned (.tuple #[]) ∧ w' = w := AnyF.slices_SortFunc_none laysSort p cap fv w
set_option maxHeartbeats 1000000 in
theorem rising_any (v : Value) (l : Pcs) (w : World) (hl : PIn w v l) (hn : l.length ≤ 1000000) :
    Calls Tryz.prog 267 #[v] w fun e w' => ∃ v' s, e = .returned v' ∧ POwn w' w.heap.size v' s ∧ l.Perm s ∧ Up s ∧ Below w.heap.size w w' := by
  obtain ⟨q, c, rfl, hp, _, _, _⟩ := hl.lies
  cases q with
  | none =>
    have h0 : l = [] := by
      cases l with
      | nil => rfl
      | cons y ys => obtain ⟨b, o, e, _⟩ := hp (by simp); cases e
    subst h0
    clear hl hp
    go_enter Tryz.func267, Tryz.ntmps267
    go_wp2_with (first
      | (go_at_call 288; refine (clone_nil _ _ _).mono ?_; rintro e w' ⟨rfl, rfl⟩)
      | (go_at_call 289; refine (sort_none _ _ _ _).mono ?_; rintro e w' ⟨rfl, rfl⟩))
    go_ret
    exact ⟨_, [], rfl, pown_nil _ _, List.Perm.refl _, List.Pairwise.nil, Below.refl _ _⟩
  | some ad =>
    have hcl := clone_some ad l c w hn (pcs_news hp rfl)
    clear hl hp
    go_enter Tryz.func267, Tryz.ntmps267
    go_wp2_with (go_at_call 288; refine hcl.mono ?_; rintro e w1 ⟨v1, rfl, ho1, hne1, hb1⟩)
    obtain ⟨g, cap, rfl⟩ : ∃ g cap, v1 = .slice (some ⟨g, 0, none⟩) l.length cap := by
      rcases ho1.2 with ⟨hv, _⟩ | ⟨g, cap, cur, hv, _⟩
      · exact absurd hv hne1
      · exact ⟨g, cap, hv⟩
    have hso := sort_own w.heap.size g cap l w1 ho1 hn
    have HO : Hid _ := ho1
    clear ho1 hcl hne1
    go_wp2_with (go_at_call 289; refine hso.mono ?_; rintro e w2 ⟨rfl, s, ho2, hp2, hu2, hg2⟩)
    have R : Hid _ := ho2
    have G : Hid (Below w.heap.size w w2) := hb1.grown hg2 hb1.size (fun k hk => by simp only [Option.some.injEq] at hk; subst hk; exact (HO.out.lt g rfl).1)
    clear ho2 hg2 hb1
    go_wp2
    go_ret
    exact ⟨_, s, rfl, R.out, hp2, hu2, G.out⟩
theorem rising_sl (v : Value) (l : Pcs) (w : World) (hl : PIn w v l) (hn : l.length ≤ 1000000) :
    Calls Tryz.prog 267 #[v] w fun e w' => ∃ q c s, e = .returned (.slice q (List.length (α := Int × Int) s) c) ∧ POwn w' w.heap.size (.slice q s.length c) s ∧ l.Perm s ∧ Up s ∧ Below w.heap.size w w' ∧ s.length ≤ c ∧ c ≤ 9223372036854775807 := by
  refine (rising_any v l w hl hn).mono ?_
  rintro e w' ⟨v', s, rfl, ho, hp, hu, hb⟩
  obtain ⟨q, m, rfl, h1, h2, h3⟩ := ho.form
  unfold maxLen at h2
  exact ⟨q, m, s, rfl, ho, hp, hu, hb, h1, by omega⟩
end Go.Proofs.YtghcmllmbpoidaaGreatDoor.Rm
namespace Go.Proofs.YtghcmllmbpoidaaGreatDoor.Rm
open Go.RowKit Go.WideShapes
def WnK (count : Int) (l : Pcs) (k : Nat) : Prop := ∀ j, j < k → Wn count (l.getD j (0, 0))
theorem WnK.step {count : Int} {l : Pcs} {k : Nat} (h : WnK count l k) (h1 : Wn count (l.getD k (0, 0))) : WnK count l (k + 1) := by
  intro i hi
  rcases Nat.lt_or_ge i k with h' | h'
  · exact h i h'
  · obtain rfl : i = k := by omega
    exact h1
theorem WnK.all {count : Int} {l : Pcs} (h : WnK count l l.length) : ∀ p ∈ l, Wn count p := by
  intro p hp
  obtain ⟨i, hi, rfl⟩ := List.getElem_of_mem hp
  have := h i hi
  rwa [getD_eq hi] at this
theorem not_good_wn {count : Int} {l : Pcs} {k : Nat} (hk : k < l.length) (h : ¬ Wn count (l.getD k (0, 0))) : ¬ Good count l := fun hg => h (hg.wn _ (getD_mem' hk))
theorem split_at {l : Pcs} {k : Nat} (hk : k < l.length) : l = l.take k ++ l.getD k (0, 0) :: l.drop (k + 1) := by
  conv => lhs; rw [← List.take_append_drop k l]
  rw [List.drop_eq_getElem_cons hk, getD_eq hk]
theorem chain_step {count : Int} {s : Pcs} {k : Nat} (hk : k < s.length) (hw : ∀ p ∈ s, Wn count p) (h : Chain (s.take k)) (he : endOf (s.take k) ≤ (s.getD k (0, 0)).1) : Chain (s.take (k + 1)) := by
  rw [take_snoc (d := (0, 0)) hk]
  exact h.snoc (fun p hp => (hw p (List.mem_of_mem_take hp)).2.1) he
theorem end_step {s : Pcs} {k : Nat} (hk : k < s.length) : endOf (s.take (k + 1)) = (s.getD k (0, 0)).1 + (s.getD k (0, 0)).2 := by
  rw [take_snoc (d := (0, 0)) hk, endOf_snoc]
theorem bad_end {count : Int} {s l : Pcs} {k : Nat} (hp : l.Perm s) (hu : Up s) (hk : k < s.length) (hw : ∀ p ∈ s, Wn count p) (he : (s.getD k (0, 0)).1 < endOf (s.take k)) : ¬ Good count l := by
  intro hg
  have hs := split_at hk
  have := hw _ (getD_mem' (d := (0, 0)) hk)
  refine not_good_end (count := count) (s := s.take k) (p := s.getD k (0, 0)) (m := s.drop (k + 1)) this.1 (hs ▸ hu) (hs ▸ hw) he ?_
  exact hs ▸ hg.perm hp
set_option maxHeartbeats 2000000 in
theorem check_any (count : Int) (v : Value) (l : Pcs) (w : World) (hl : PIn w v l) :
    Calls Tryz.prog 226 #[.int .i64 count, v] w fun e w' => e = .returned (.int .i64 (errK count l)) ∧ Below w.heap.size w w' := by
  obtain ⟨q, c, rfl, hq, hlc, hcm, hqn⟩ := hl.lies
  have hwf := hl.wf
  have HL : Hid _ := hl
  clear hl hqn
  unfold maxLen at hcm
  by_cases h1 : 0 ≤ count ∧ count ≤ 4096
  · by_cases h2 : l.length ≤ 4096
    · go_enter Tryz.func226, Tryz.ntmps226
      go_wp2_with (go_at_call 265; refine (mayCount_any count _).mono ?_; rintro e w ⟨rfl, rfl⟩; rw [decide_eq_true h1])
      go_loopw [18] (fun i wr => ∃ k : Nat, k ≤ l.length ∧ i = .int .i64 k ∧ WnK count l k ∧ Below w.heap.size w wr) (fun i _ => l.length - (intOf i).toNat)
      case atStart => exact ⟨0, by omega, rfl, fun i hi => absurd hi (by omega), Below.refl _ _⟩
      case round =>
        obtain ⟨k, hk, rfl, hgood, hbel⟩ := hrel
        have HG : Hid _ := hgood
        clear hgood
        by_cases hkl : k < l.length
        · obtain ⟨b, o, rfl⟩ := hq.addr (by omega)
          obtain ⟨e1, e2⟩ := (hq.below hbel).at hkl
          obtain ⟨f1, f2⟩ := hwf.at hkl
          have HS := WnK.step (k := k) HG.out
          have HE := not_good_wn (k := k) (count := count) hkl
          clear hq hwf
          generalize l.getD k (0, 0) = y at *
          obtain ⟨s, n⟩ := y
          have HS' : Hid _ := HS
          have HE' : Hid _ := HE
          clear HS HE
          simp only at e1 e2 f1 f2
          by_cases g1 : Wn count (s, n)
          · have HG2 : Hid (WnK count l (k + 1)) := HS'.out g1
            have hw1 := wnB_yes g1
            clear g1
            go_wp2_with (go_at_call 266; refine (within_any count s n _ h1 f1).mono ?_; rintro e w1 ⟨rfl, ob, rfl⟩; rw [hw1])
            go_roundw
            case rel => exact ⟨k + 1, by omega, by go_num, HG2.out, (hbel.alloc hbel.size _).alloc (by simp; have := hbel.size; omega) _⟩
            case measure => simp [intOf]; omega
          · have HB : Hid (errK count l = 8) := errK_bad h1 h2 (HE'.out g1)
            have hw1 := wnB_no g1
            clear g1
            go_wp2_with (go_at_call 266; refine (within_any count s n _ h1 f1).mono ?_; rintro e w1 ⟨rfl, ob, rfl⟩; rw [hw1])
            go_ret
            exact ⟨by rw [HB.out]; rfl, (hbel.alloc hbel.size _).alloc (by simp; have := hbel.size; omega) _⟩
        · obtain rfl : k = l.length := by omega
          have HW : Hid (∀ p ∈ l, Wn count p) := WnK.all HG.out
          clear HG hq
          have hrise := rising_sl _ l wr (HL.out.below hbel) (by omega)
          go_wp2_with (go_at_call 267; refine hrise.mono ?_; rintro e w1 ⟨q1, c1, s, rfl, ho, hp, hu, hb1, hc1, hc2⟩)
          clear hrise
          have hq1 := ho.pcs
          have HU : Hid (Up s) := hu
          have HP : Hid (l.Perm s) := hp
          have hsl : s.length = l.length := hp.length_eq.symm
          have HS : Hid (∀ p ∈ s, Wn count p) := fun p hm => HW.out p (hp.mem_iff.2 hm)
          have hb2 : Below w.heap.size w w1 := below_bt hbel hb1
          clear ho hu hp hb1 hbel
          go_loopw [7, 30] (fun e i wr => ∃ k : Nat, k ≤ s.length ∧ i = .int .i64 k ∧ e = .int .i64 (endOf (s.take k)) ∧ Chain (s.take k) ∧ Below w1.heap.size w1 wr) (fun _ i _ => s.length - (intOf i).toNat)
          case atStart => exact ⟨0, by omega, rfl, rfl, List.Pairwise.nil, Below.refl _ _⟩
          case round =>
            obtain ⟨k, hk, rfl, rfl, hch, hbel⟩ := hrel
            have HC : Hid _ := hch
            clear hch
            by_cases hkl : k < s.length
            · obtain ⟨b, o, rfl⟩ := hq1.addr (by omega)
              obtain ⟨e1, e2⟩ := (hq1.below hbel).at hkl
              have hwn := HS.out _ (getD_mem' (d := (0, 0)) hkl)
              have HB := bad_end (count := count) HP.out HU.out hkl HS.out
              have HST := chain_step hkl HS.out HC.out
              have HEN : Hid _ := end_step hkl
              have HB' : Hid _ := HB
              have HST' : Hid _ := HST
              clear hq1 HB HST
              generalize s.getD k (0, 0) = y at *
              obtain ⟨a, n⟩ := y
              generalize endOf (s.take k) = E at *
              unfold Wn at hwn
              simp only at e1 e2 hwn
              by_cases g1 : a < E
              · have HBB : Hid (errK count l = 8) := errK_bad h1 h2 (HB'.out g1)
                clear HB' HST' HEN
                go_wp2
                go_ret
                exact ⟨by rw [HBB.out]; rfl, below_bt hb2 (hbel.alloc hbel.size _)⟩
              · have HCC : Hid (Chain (s.take (k + 1))) := HST'.out (by omega)
                clear HB' HST'
                go_wp2
                go_roundw
                case rel => exact ⟨k + 1, by omega, by go_num, by rw [HEN.out], HCC.out, hbel.alloc hbel.size _⟩
                case measure => simp [intOf]; omega
            · obtain rfl : k = s.length := by omega
              have HO : Hid (errK count l = 0) := by
                refine errK_ok h1 h2 (Good.perm (Chain.good ?_ HS.out) HP.out.symm)
                have := HC.out
                rwa [List.take_length] at this
              clear HC hq1
              go_wp2
              go_ret
              exact ⟨by rw [HO.out]; rfl, below_bt hb2 hbel⟩
    · have HB : Hid (errK count l = 4) := errK_many h1 h2
      go_enter Tryz.func226, Tryz.ntmps226
      go_wp2_with (go_at_call 265; refine (mayCount_any count _).mono ?_; rintro e w ⟨rfl, rfl⟩; rw [decide_eq_true h1])
      go_ret
      exact ⟨by rw [HB.out]; rfl, Below.refl _ _⟩
  · have HB : Hid (errK count l = 2) := errK_arg h1
    go_enter Tryz.func226, Tryz.ntmps226
    go_wp2_with (go_at_call 265; refine (mayCount_any count _).mono ?_; rintro e w ⟨rfl, rfl⟩; rw [decide_eq_false h1])
    go_ret
    exact ⟨by rw [HB.out]; rfl, Below.refl _ _⟩
end Go.Proofs.YtghcmllmbpoidaaGreatDoor.Rm
