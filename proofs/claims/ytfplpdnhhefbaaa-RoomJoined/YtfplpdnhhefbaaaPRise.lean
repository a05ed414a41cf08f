/-
  Contract of the call rising: a copy of pieces, rising by From, in memory of the call's own.
-/
import Derived.Test.YtfplpdnhhefbaaaPWith
import Derived.Test.YtfplpdnhhefbaaaPShelf
namespace Go.Proofs.Ytfplpdnhhefbaaa
open Go.RowKit Go.WideShapes Go.Shelf Go.Lib Go.Sort

def encP (p : Int × Int) : List Value := [.int .i64 p.1, .int .i64 p.2]
theorem flat_at (l : Pcs) (t : Nat) (h : t < l.length * 2) : (cellsQ l)[t]? = some (flatK encP 2 l.toArray)[t]! := by
  rw [get_flatK _ _ _ _ (by simpa using h)]
  have hd : t / 2 < l.length := by omega
  obtain ⟨h0, h1⟩ := cellsQ_at l (t / 2) hd
  have e : l.toArray[t / 2]! = l.getD (t / 2) (0, 0) := by
    rw [getElem!_pos l.toArray (t / 2) (by simpa using hd)]
    simp [List.getD, List.getElem?_eq_getElem hd]
  rw [e]
  rcases Nat.mod_two_eq_zero_or_one t with hm | hm
  · rw [hm]
    rw [show t / 2 * 2 = t from by omega] at h0
    rw [h0]; rfl
  · rw [hm]
    rw [show t / 2 * 2 + 1 = t from by omega] at h1
    rw [h1]; rfl
theorem holds_own {w : World} {g : Nat} {cur : Array Value} {e : TypeId} {l : Pcs} (hb : w.heap[g]? = some (.cells cur e (0, 0))) (ht : cur.toList.take (l.length * 2) = cellsQ l) : HoldsK encP 2 w g 0 l.toArray := by
  intro j hj
  have hj' : j < l.length * 2 := by simpa using hj
  refine ⟨?_, frozen_of_row _ _ _ _ _ hb⟩
  have h1 := flat_at l j hj'
  rw [← ht, List.getElem?_take_of_lt hj'] at h1
  rw [Nat.zero_add, cell_of_row w g j _ _ _ hb, ← Array.getElem?_toList, h1]
  rfl
theorem heap_rise {w : World} {g n : Nat} {os : Array Obj} {cur : Array Value} {e : TypeId} {fr : Nat × Nat} (d : Array (Int × Int)) (hb : w.heap[g]? = some (.cells cur e fr)) :
    (sortWorldK encP 2 w g 0 n d os).heap[g]? = some (.cells (putCells id 0 (flatK encP 2 d) cur) e fr) := by
  have hg : g < w.heap.size := (Array.getElem?_eq_some_iff.1 hb).1
  unfold sortWorldK putRowK
  rw [heap_grow_old _ _ (by simpa using hg)]
  simp [putRow, mapBlock, Sort.ahead, Array.getElem?_modify, hb, onCells]
theorem grown_rise {w : World} {g n : Nat} {os : Array Obj} (d : Array (Int × Int)) : w.grownBy (sortWorldK encP 2 w g 0 n d os) (some g) := by
  refine ⟨rfl, rfl, rfl, by unfold sortWorldK putRowK; simp, fun k hk hne => ?_⟩
  unfold sortWorldK putRowK
  rw [heap_grow_old _ _ (by simpa using hk)]
  have : g ≠ k := fun e => hne (by rw [e])
  simp [putRow, mapBlock, Sort.ahead, Array.getElem?_modify, this]
theorem own_rise {w : World} {base g cap n : Nat} {os : Array Obj} {cur : Array Value} {l : Pcs} {d : Array (Int × Int)} (hl : d.size = l.length) (hbase : base ≤ g) (hb : w.heap[g]? = some (.cells cur 29 (0, 0)))
    (h1 : l.length ≤ cap) (h2 : cap ≤ maxLen) (h3 : cur.size = cap * 2) : POwn (sortWorldK encP 2 w g 0 n d os) base (.slice (some ⟨g, 0, none⟩) l.length cap) d.toList := by
  refine ⟨by rw [cellsQ_len], .inr ⟨g, cap, _, by simp [hl], hbase, heap_rise d hb, by simpa [hl] using h1, h2, by simp [putCells, h3], ?_⟩⟩
  apply List.ext_getElem?
  intro j
  have hdl : d.toList.length = l.length := by simpa using hl
  by_cases hj : j < d.toList.length * 2
  · rw [List.getElem?_take_of_lt hj, Array.getElem?_toList, flat_at _ _ hj]
    have hs : j < cur.size := by omega
    simp only [putCells, Array.getElem?_mapIdx, Array.getElem?_eq_getElem hs, Option.map_some, Nat.zero_le, Nat.zero_add, true_and, size_flatK, Nat.sub_zero, id]
    rw [if_pos (by simpa using hj), Array.toArray_toList]
  · rw [List.getElem?_take_eq_none (by omega), List.getElem?_eq_none (by rw [cellsQ_len]; omega)]
def cfP (x y : Int × Int) : Int := Lib.compareInt x.1 y.1
theorem lt_cfP (x y : Int × Int) : ltOf cfP x y = decide (x.1 < y.1) := by
  unfold ltOf cfP Lib.compareInt
  by_cases h1 : x.1 < y.1
  · simp [h1]
  · by_cases h2 : y.1 < x.1 <;> simp [h1, h2]
theorem swo_cfP : SWO (ltOf cfP) where
  irrefl x := by rw [lt_cfP]; simp
  trans x y z h1 h2 := by rw [lt_cfP] at *; simp at *; omega
  ntrans x y z h1 h2 := by rw [lt_cfP] at *; simp at *; omega
theorem up_of {d : Array (Int × Int)} {n : Nat} (hn : d.size = n) (h : SortedIn (ltOf cfP) 0 n d) : Up d.toList := by
  unfold Up
  rw [List.pairwise_iff_getElem]
  intro i j hi hj hij
  have hj' : j < d.size := by simpa using hj
  have hi' : i < d.size := by omega
  have := h i j (Nat.zero_le _) hij (by omega)
  rw [lt_cfP, getElem!_pos d j hj', getElem!_pos d i hi'] at this
  simp only [Array.getElem_toList]
  simp at this
  exact this
theorem perm_of {l : Pcs} {d : Array (Int × Int)} (h : PermIn 0 l.toArray.size l.toArray d) : l.Perm d.toList := by
  have h2 := h.2.2
  have hs : d.size = l.toArray.size := h.1
  rw [← hs, Array.extract_eq_self_of_le (Nat.le_refl _), hs, Array.extract_eq_self_of_le (Nat.le_refl _)] at h2
  exact h2.symm

set_option maxHeartbeats 1000000 in
theorem riseFn (x y : Int × Int) (W : World) : Calls Try.prog 37 #[.agg #[.int .i64 x.1, .int .i64 x.2], .agg #[.int .i64 y.1, .int .i64 y.2]] W fun e w' => e = .returned (.int .i64 (cfP x y)) ∧ ∃ q os', w' = grow (W.drewN q) os' := by
  have hcon := fun W' => AnyG.cmp_Compare_int laysCmp x.1 y.1 W'
  change ∀ W', Calls Try.prog 38 _ _ _ at hcon
  unfold cfP
  generalize Lib.compareInt x.1 y.1 = r at hcon ⊢
  go_enter Try.func37, Try.ntmps37
  go_wp2_with (go_at_call 38; refine (hcon _).mono ?_; rintro e w' ⟨rfl, rfl⟩)
  go_ret
  exact ⟨rfl, 0, _, by rw [alloc_eq_grow, alloc_eq_grow, grow_grow]; rfl⟩
theorem riseLays (blk off size : Nat) (w : World) : CmpLays Try.prog 37 #[] encP 2 cfP blk off size w := fun _ _ _ _ x y => riseFn x y _
theorem eql_nil (w : World) (a : Option Addr) (n c n' c' : Nat) : (binOp .eql 22 (.slice a n c) (.slice none n' c')).run Try.prog w = .ok (.bool a.isNone) w := Lib.run_eql_slice_nil w _ _ a n c n' c' Try.underlying22
/-- slices.Clone of a slice that is not nil. -/
theorem clone_some (ad : Addr) (l : Pcs) (c : Nat) (w : World) (hn : l.length ≤ 1000000) (hc : ∀ j u, (cellsQ l)[j]? = some u → w.cell? (ad.add j) = some u) :
    Calls Try.prog 35 #[.slice (some ad) l.length c] w fun e w' => ∃ v', e = .returned v' ∧ POwn w' w.heap.size v' l ∧ v' ≠ .slice none 0 0 ∧ Below w.heap.size w w' := by
  obtain ⟨i0, hi, hz0, hz1, hz2⟩ := info_parts' info_piece
  have A : Hid (∀ j u, (cellsQ l)[j]? = some u → w.cell? (ad.add j) = some u) := hc
  clear hc
  have HL : Hid ((cellsQ l).length = l.length * 2) := cellsQ_len l
  generalize hln : l.length = n at *
  have q22 := eql_nil
  go_enter Try.func35, Try.ntmps35
  go_wp2_with (at_builtin; refine wpList_append_own _ rfl _ _ 22 rfl w.heap.size 29 i0 _ 2 16 Try.underlying22 hi hz0 hz1 hz2 rfl (by omega) _ _ _ rfl (World.ownsRow_made w #[] 0 (Nat.le_refl _) (Nat.zero_le _) (by simp)) ad n c (cellsQ l) rfl ?qc1 ?qc2 ?qc3 ?qc4 ?qc5 ?qc6 ?_)
  case qc1 => exact HL.out
  case qc2 =>
    intro j u hj
    exact Lib.cell?_alloc_some _ (A.out j u hj)
  case qc3 => exact cellsQ_oneCell l
  case qc4 => unfold maxLen; omega
  case qc5 => omega
  case qc6 => simp
  intro v' w1 hown hgrow hnil
  have R : Hid (POwn w1 w.heap.size v' l) := by
    show POwn _ _ _ _
    unfold POwn
    rw [hln]
    simpa using hown
  have G : Hid (Below w.heap.size w w1) := ((Below.refl _ w).alloc (Nat.le_refl _) _).grown hgrow (by simp) (by intro k hk; simp [Value.ownBlock] at hk; omega)
  clear hown hgrow
  go_wp2
  go_ret
  exact ⟨v', rfl, R.out, hnil, G.out⟩
theorem clone_nil (n c : Nat) (w : World) : Calls Try.prog 35 #[.slice none n c] w fun e w' => e = .returned (.slice none 0 0) ∧ w' = w := by
  have q22 := eql_nil
  go_enter Try.func35, Try.ntmps35
  go_wp2
  go_ret
  exact ⟨rfl, rfl⟩
theorem pcs_news {w : World} {q : Option Addr} {l : Pcs} {ad : Addr} (h : PcsIn w q l) (hq : q = some ad) : ∀ j u, (cellsQ l)[j]? = some u → w.cell? (ad.add j) = some u := by
  subst hq
  intro j u hu
  have hj : j < l.length * 2 := by
    rcases Nat.lt_or_ge j (l.length * 2) with h | h
    · exact h
    · rw [List.getElem?_eq_none (by rw [cellsQ_len]; exact h)] at hu; cases hu
  obtain ⟨b, o, e, hc⟩ := h (by omega)
  simp only [Option.some.injEq] at e
  subst e
  rw [add_plain]
  obtain ⟨h0, h1⟩ := cellsQ_at l (j / 2) (by omega)
  obtain ⟨c0, c1⟩ := hc (j / 2) (by omega)
  rcases Nat.mod_two_eq_zero_or_one j with hm | hm
  · rw [show j / 2 * 2 = j from by omega] at h0 c0
    rw [hu] at h0
    rw [c0, h0]
  · rw [show j / 2 * 2 + 1 = j from by omega] at h1 c1
    rw [hu] at h1
    rw [c1, h1]
theorem enters_rise : ∀ args w, (callFunc 37 args).run Try.prog w = .ok (.enter 37 args) w := enters_of Try.func37 (by kernel_rfl) rfl
/-- slices.SortFunc of a row of one's own. -/
theorem sort_own (base g cap : Nat) (l : Pcs) (w : World) (ho : POwn w base (.slice (some ⟨g, 0, none⟩) l.length cap) l) (hn : l.length ≤ 1000000) :
    Calls Try.prog 36 #[.slice (some ⟨g, 0, none⟩) l.length cap, .func (.func 37) #[] #[]] w fun e w' => e = .returned (.tuple #[]) ∧ ∃ s, POwn w' base (.slice (some ⟨g, 0, none⟩) l.length cap) s ∧ l.Perm s ∧ Up s ∧ w.grownBy w' (some g) := by
  rcases ho.2 with ⟨hv, _⟩ | ⟨g', cap', cur, hv, hb, hg, h1, h2, h3, h4⟩
  · cases hv
  · simp only [Value.slice.injEq, Option.some.injEq, Addr.mk.injEq, and_true, true_and] at hv
    obtain ⟨rfl, rfl⟩ := hv
    have hcon := AnyQ.slices_SortFunc laysSort 2 Try.isAgg29 Try.sizeOf29 encP (fun _ => rfl) (fun x v hv => by simp [encP] at hv; rcases hv with rfl | rfl <;> rfl) cfP swo_cfP 37 #[] g 0 cap l.toArray w enters_rise (riseLays g 0 _ w) (holds_own hg h4) (lt_heap hg) (by simp; omega)
    refine hcon.mono ?_
    rintro e w' ⟨rfl, d', n, os, hp, hs, rfl⟩
    have hsz : d'.size = l.length := by simpa using hp.1
    exact ⟨rfl, d'.toList, own_rise hsz hb hg h1 h2 h3, perm_of hp, up_of hp.1 hs, grown_rise d'⟩
theorem sort_none (p : Option Addr) (cap : Nat) (fv : Value) (w : World) : Calls Try.prog 36 #[.slice p 0 cap, fv] w fun e w' => e = .returned (.tuple #[]) ∧ w' = w := AnyF.slices_SortFunc_none laysSort p cap fv w
set_option maxHeartbeats 1000000 in
theorem rising_any (v : Value) (l : Pcs) (w : World) (hl : PIn w v l) (hn : l.length ≤ 1000000) :
    Calls Try.prog 29 #[v] w fun e w' => ∃ v' s, e = .returned v' ∧ POwn w' w.heap.size v' s ∧ l.Perm s ∧ Up s ∧ Below w.heap.size w w' := by
  obtain ⟨q, c, rfl, hp, _, _, _⟩ := hl.lies
  cases q with
  | none =>
    have h0 : l = [] := by
      cases l with
      | nil => rfl
      | cons y ys => obtain ⟨b, o, e, _⟩ := hp (by simp); cases e
    subst h0
    clear hl hp
    go_enter Try.func29, Try.ntmps29
    go_wp2_with (first
      | (go_at_call 35; refine (clone_nil _ _ _).mono ?_; rintro e w' ⟨rfl, rfl⟩)
      | (go_at_call 36; refine (sort_none _ _ _ _).mono ?_; rintro e w' ⟨rfl, rfl⟩))
    go_ret
    exact ⟨_, [], rfl, pown_nil _ _, List.Perm.refl _, List.Pairwise.nil, Below.refl _ _⟩
  | some ad =>
    have hcl := clone_some ad l c w hn (pcs_news hp rfl)
    clear hl hp
    go_enter Try.func29, Try.ntmps29
    go_wp2_with (go_at_call 35; refine hcl.mono ?_; rintro e w1 ⟨v1, rfl, ho1, hne1, hb1⟩)
    obtain ⟨g, cap, rfl⟩ : ∃ g cap, v1 = .slice (some ⟨g, 0, none⟩) l.length cap := by
      rcases ho1.2 with ⟨hv, _⟩ | ⟨g, cap, cur, hv, _⟩
      · exact absurd hv hne1
      · exact ⟨g, cap, hv⟩
    have hso := sort_own w.heap.size g cap l w1 ho1 hn
    have HO : Hid _ := ho1
    clear ho1 hcl hne1
    go_wp2_with (go_at_call 36; refine hso.mono ?_; rintro e w2 ⟨rfl, s, ho2, hp2, hu2, hg2⟩)
    have R : Hid _ := ho2
    have G : Hid (Below w.heap.size w w2) := hb1.grown hg2 hb1.size (fun k hk => by simp only [Option.some.injEq] at hk; subst hk; exact (HO.out.lt g rfl).1)
    clear ho2 hg2 hb1
    go_wp2
    go_ret
    exact ⟨_, s, rfl, R.out, hp2, hu2, G.out⟩
theorem rising_sl (v : Value) (l : Pcs) (w : World) (hl : PIn w v l) (hn : l.length ≤ 1000000) :
    Calls Try.prog 29 #[v] w fun e w' => ∃ q c s, e = .returned (.slice q (List.length (α := Int × Int) s) c) ∧ POwn w' w.heap.size (.slice q s.length c) s ∧ l.Perm s ∧ Up s ∧ Below w.heap.size w w' ∧ s.length ≤ c ∧ c ≤ 9223372036854775807 := by
  refine (rising_any v l w hl hn).mono ?_
  rintro e w' ⟨v', s, rfl, ho, hp, hu, hb⟩
  obtain ⟨q, m, rfl, h1, h2, h3⟩ := ho.form
  unfold maxLen at h2
  exact ⟨q, m, s, rfl, ho, hp, hu, hb, h1, by omega⟩
end Go.Proofs.Ytfplpdnhhefbaaa
