/-
  Contracts of the calls Free and Take.
-/
import Derived.Test.YtglcpfnpbcnejaaGreatDoorJ05
import Derived.Deep.LoopGhost
import Derived.WalkMore
namespace Go.Proofs.YtglcpfnpbcnejaaGreatDoor.Rm
open Go.RowKit Go.WideShapes Go.Shelf Go.Lib Go.Sort

def encP (p : Int × Int) : List Value := [.int .i64 p.1, .int .i64 p.2]
theorem flat_at (l : Pcs) (t : Nat) (h : t < l.length * 2) : (cellsQ l)[t]? = some (flatK encP 2 l.toArray)[t]! := by
  rw [get_flatK _ _ _ _ (by simpa using h)]
  have hd : t / 2 < l.length := by omega
  obtain ⟨h0, h1⟩ := cellsQ_at l (t / 2) hd
  have e : l.toArray[t / 2]! = l.getD (t / 2) (0, 0) := by
    rw [getElem!_pos l.toArray (t / 2) (by simpa using hd)]
    simp [List.getD, List.getElem?_eq_getElem hd]
  rw [e]
  rcases Nat.mod_two_eq_zero_or_one t with hm | hm
  · rw [hm]
    rw [show t / 2 * 2 = t from by omega] at h0
    rw [h0]; rfl
  · rw [hm]
    rw [show t / 2 * 2 + 1 = t from by omega] at h1
    rw [h1]; rfl
theorem holds_own {w : World} {g : Nat} {cur : Array Value} {e : TypeId} {l : Pcs} (hb : w.heap[g]? = some (.cells cur e (0, 0))) (ht : cur.toList.take (l.length * 2) = cellsQ l) : HoldsK encP 2 w g 0 l.toArray := by
  intro j hj
  have hj' : j < l.length * 2 := by simpa using hj
  refine ⟨?_, frozen_of_row _ _ _ _ _ hb⟩
  have h1 := flat_at l j hj'
  rw [← ht, List.getElem?_take_of_lt hj'] at h1
  rw [Nat.zero_add, cell_of_row w g j _ _ _ hb, ← Array.getElem?_toList, h1]
  rfl
theorem heap_rise {w : World} {g n : Nat} {os : Array Obj} {cur : Array Value} {e : TypeId} {fr : Nat × Nat} (d : Array (Int × Int)) (hb : w.heap[g]? = some (.cells cur e fr)) :
    (sortWorldK encP 2 w g 0 n d os).heap[g]? = some (.cells (putCells id 0 (flatK encP 2 d) cur) e fr) := by
  have hg : g < w.heap.size := (Array.getElem?_eq_some_iff.1 hb).1
  unfold sortWorldK putRowK
  rw [heap_grow_old _ _ (by simpa using hg)]
  simp [putRow, mapBlock, Sort.ahead, Array.getElem?_modify, hb, onCells]
theorem grown_rise {w : World} {g n : Nat} {os : Array Obj} (d : Array (Int × Int)) : w.grownBy (sortWorldK encP 2 w g 0 n d os) (some g) := by
  refine ⟨rfl, rfl, rfl, by unfold sortWorldK putRowK; simp, fun k hk hne => ?_⟩
  unfold sortWorldK putRowK
  rw [heap_grow_old _ _ (by simpa using hk)]
  have : g ≠ k := fun e => hne (by rw [e])
  simp [putRow, mapBlock, Sort.ahead, Array.getElem?_modify, this]
theorem own_rise {w : World} {base g cap n : Nat} {os : Array Obj} {cur : Array Value} {l : Pcs} {d : Array (Int × Int)} (hl : d.size = l.length) (hbase : base ≤ g) (hb : w.heap[g]? = some (.cells cur 53 (0, 0)))
    (h1 : l.length ≤ cap) (h2 : cap ≤ maxLen) (h3 : cur.size = cap * 2) : POwn (sortWorldK encP 2 w g 0 n d os) base (.slice (some ⟨g, 0, none⟩) l.length cap) d.toList := by
  refine ⟨by rw [cellsQ_len], .inr ⟨g, cap, _, by simp [hl], hbase, heap_rise d hb, by simpa [hl] using h1, h2, by simp [putCells, h3], ?_⟩⟩
  apply List.ext_getElem?
  intro j
  have hdl : d.toList.length = l.length := by simpa using hl
  by_cases hj : j < d.toList.length * 2
  · rw [List.getElem?_take_of_lt hj, Array.getElem?_toList, flat_at _ _ hj]
    have hs : j < cur.size := by omega
    simp only [putCells, Array.getElem?_mapIdx, Array.getElem?_eq_getElem hs, Option.map_some, Nat.zero_le, Nat.zero_add, true_and, size_flatK, Nat.sub_zero, id]
    rw [if_pos (by simpa using hj), Array.toArray_toList]
  · rw [List.getElem?_take_eq_none (by omega), List.getElem?_eq_none (by rw [cellsQ_len]; omega)]
def cfP (x y : Int × Int) : Int := Lib.compareInt x.1 y.1
theorem lt_cfP (x y : Int × Int) : ltOf cfP x y = decide (x.1 < y.1) := by
  unfold ltOf cfP Lib.compareInt
  by_cases h1 : x.1 < y.1
  · simp [h1]
  · by_cases h2 : y.1 < x.1 <;> simp [h1, h2]
theorem swo_cfP : SWO (ltOf cfP) where
  irrefl x := by rw [lt_cfP]; simp
  trans x y z h1 h2 := by rw [lt_cfP] at *; simp at *; omega
  ntrans x y z h1 h2 := by rw [lt_cfP] at *; simp at *; omega
theorem up_of {d : Array (Int × Int)} {n : Nat} (hn : d.size = n) (h : SortedIn (ltOf cfP) 0 n d) : Up d.toList := by
  unfold Up
  rw [List.pairwise_iff_getElem]
  intro i j hi hj hij
  have hj' : j < d.size := by simpa using hj
  have hi' : i < d.size := by omega
  have := h i j (Nat.zero_le _) hij (by omega)
  rw [lt_cfP, getElem!_pos d j hj', getElem!_pos d i hi'] at this
  simp only [Array.getElem_toList]
  simp at this
  exact this
theorem perm_of {l : Pcs} {d : Array (Int × Int)} (h : PermIn 0 l.toArray.size l.toArray d) : l.Perm d.toList := by
  have h2 := h.2.2
  have hs : d.size = l.toArray.size := h.1
  rw [← hs, Array.extract_eq_self_of_le (Nat.le_refl _), hs, Array.extract_eq_self_of_le (Nat.le_refl _)] at h2
  exact h2.symm

set_option maxHeartbeats 1000000 in
theorem riseFn (x y : Int × Int) (W : World) : Calls Tryz.prog 176 #[.agg #[.int .i64 x.1, .int .i64 x.2], .agg #[.int .i64 y.1, .int .i64 y.2]] W fun e w' => e = .returned (.int .i64 (cfP x y)) ∧ ∃ q os', w' = grow (W.drewN q) os' := by
  have hcon := fun W' => AnyG.cmp_Compare_int laysCmp x.1 y.1 W'
  change ∀ W', Calls Tryz.prog 177 _ _ _ at hcon
  unfold cfP
  generalize Lib.compareInt x.1 y.1 = r at hcon ⊢
  go_enter Tryz.func176, Tryz.ntmps176
  go_wp2_with (go_at_call 177; refine (hcon _).mono ?_; rintro e w' ⟨rfl, rfl⟩)
  go_ret
  exact ⟨rfl, 0, _, by rw [alloc_eq_grow, alloc_eq_grow, grow_grow]; rfl⟩
theorem riseLays (blk off size : Nat) (w : World) : CmpLays Tryz.prog 176 #[] encP 2 cfP blk off size w := fun _ _ _ _ x y => riseFn x y _
theorem eql_nil (w : World) (a : Option Addr) (n c n' c' : Nat) : (binOp .eql 49 (.slice a n c) (.slice none n' c')).run Tryz.prog w = .ok (.bool a.isNone) w := Lib.run_eql_slice_nil w _ _ a n c n' c' Tryz.underlying49
/-- slices.Clone of a slice that is not nil. -/
theorem clone_some (ad : Addr) (l : Pcs) (c : Nat) (w : World) (hn : l.length ≤ 1000000) (hc : ∀ j u, (cellsQ l)[j]? = some u → w.cell? (ad.add j) = some u) :
    Calls Tryz.prog 174 #[.slice (some ad) l.length c] w fun e w' => ∃ v', e = .returned v' ∧ POwn w' w.heap.size v' l ∧ v' ≠ .slice none 0 0 ∧ Below w.heap.size w w' := by
  obtain ⟨i0, hi, hz0, hz1, hz2⟩ := info_parts' info_piece
  have A : Hid (∀ j u, (cellsQ l)[j]? = some u → w.cell? (ad.add j) = some u) := hc
  clear hc
  have HL : Hid ((cellsQ l).length = l.length * 2) := cellsQ_len l
  generalize hln : l.length = n at *
  have q22 := eql_nil
  go_enter Tryz.func174, Tryz.ntmps174
  go_wp2_with (at_builtin; refine wpList_append_own _ rfl _ _ 49 rfl w.heap.size 53 i0 _ 2 16 Tryz.underlying49 hi hz0 hz1 hz2 rfl (by omega) _ _ _ rfl (World.ownsRow_made w #[] 0 (Nat.le_refl _) (Nat.zero_le _) (by simp)) ad n c (cellsQ l) rfl ?qc1 ?qc2 ?qc3 ?qc4 ?qc5 ?qc6 ?_)
  case qc1 => exact HL.out
  case qc2 =>
    intro j u hj
    exact Lib.cell?_alloc_some _ (A.out j u hj)
  case qc3 => exact cellsQ_oneCell l
  case qc4 => unfold maxLen; omega
  case qc5 => omega
  case qc6 => simp
  intro v' w1 hown hgrow hnil
  have R : Hid (POwn w1 w.heap.size v' l) := by
    show POwn _ _ _ _
    unfold POwn
    rw [hln]
    simpa using hown
  have G : Hid (Below w.heap.size w w1) := ((Below.refl _ w).alloc (Nat.le_refl _) _).grown hgrow (by simp) (by intro k hk; simp [Value.ownBlock] at hk; omega)
  clear hown hgrow
  go_wp2
  go_ret
  exact ⟨v', rfl, R.out, hnil, G.out⟩
theorem clone_nil (n c : Nat) (w : World) : Calls Tryz.prog 174 #[.slice none n c] w fun e w' => e = .returned (.slice none 0 0) ∧ w' = w := by
  have q22 := eql_nil
  go_enter Tryz.func174, Tryz.ntmps174
  go_wp2
  go_ret
  exact ⟨rfl, rfl⟩
theorem pcs_news {w : World} {q : Option Addr} {l : Pcs} {ad : Addr} (h : PcsIn w q l) (hq : q = some ad) : ∀ j u, (cellsQ l)[j]? = some u → w.cell? (ad.add j) = some u := by
  subst hq
  intro j u hu
  have hj : j < l.length * 2 := by
    rcases Nat.lt_or_ge j (l.length * 2) with h | h
    · exact h
    · rw [List.getElem?_eq_none (by rw [cellsQ_len]; exact h)] at hu; cases hu
  obtain ⟨b, o, e, hc⟩ := h (by omega)
  simp only [Option.some.injEq] at e
  subst e
  rw [WideShapes.add_plain]
  obtain ⟨h0, h1⟩ := cellsQ_at l (j / 2) (by omega)
  obtain ⟨c0, c1⟩ := hc (j / 2) (by omega)
  rcases Nat.mod_two_eq_zero_or_one j with hm | hm
  · rw [show j / 2 * 2 = j from by omega] at h0 c0
    rw [hu] at h0
    rw [c0, h0]
  · rw [show j / 2 * 2 + 1 = j from by omega] at h1 c1
    rw [hu] at h1
    rw [c1, h1]
theorem enters_rise : ∀ args w, (callFunc 176 args).run Tryz.prog w = .ok (.enter 176 args) w := enters_of Tryz.func176 (by kernel_rfl) rfl
/-- slices.SortFunc of a row of one's own. -/
theorem sort_own (base g cap : Nat) (l : Pcs) (w : World) (ho : POwn w base (.slice (some ⟨g, 0, none⟩) l.length cap) l) (hn : l.length ≤ 1000000) :
    Calls Tryz.prog 175 #[.slice (some ⟨g, 0, none⟩) l.length cap, .func (.func 176) #[] #[]] w fun e w' => e = .returned (.tuple #[]) ∧ ∃ s, POwn w' base (.slice (some ⟨g, 0, none⟩) l.length cap) s ∧ l.Perm s ∧ Up s ∧ w.grownBy w' (some g) := by
  rcases ho.2 with ⟨hv, _⟩ | ⟨g', cap', cur, hv, hb, hg, h1, h2, h3, h4⟩
  · cases hv
  · simp only [Value.slice.injEq, Option.some.injEq, Addr.mk.injEq, and_true, true_and] at hv
    obtain ⟨rfl, rfl⟩ := hv
    have hcon := AnyQ.slices_SortFunc laysSort 2 Tryz.isAgg53 Tryz.sizeOf53 encP (fun _ => rfl) (fun x v hv => by simp [encP] at hv; rcases hv with rfl | rfl <;> rfl) cfP swo_cfP 176 #[] g 0 cap l.toArray w enters_rise (riseLays g 0 _ w) (holds_own hg h4) (lt_heap hg) (by simp; omega)
    refine hcon.mono ?_
    rintro e w' ⟨rfl, d', n, os, hp, hs, rfl⟩
    have hsz : d'.size = l.length := by simpa using hp.1
    exact ⟨rfl, d'.toList, own_rise hsz hb hg h1 h2 h3, perm_of hp, up_of hp.1 hs, grown_rise d'⟩
theorem sort_none (p : Option Addr) (cap : Nat) (fv : Value) (w : World) : Calls Tryz.prog 175 #[.slice p 0 cap, fv] w fun e w' => e = .returned (.tuple #[]) ∧ w' = w := AnyF.slices_SortFunc_none laysSort p cap fv w
set_option maxHeartbeats 1000000 in
theorem rising_any (v : Value) (l : Pcs) (w : World) (hl : PIn w v l) (hn : l.length ≤ 1000000) :
    Calls Tryz.prog 157 #[v] w fun e w' => ∃ v' s, e = .returned v' ∧ POwn w' w.heap.size v' s ∧ l.Perm s ∧ Up s ∧ Below w.heap.size w w' := by
  obtain ⟨q, c, rfl, hp, _, _, _⟩ := hl.lies
  cases q with
  | none =>
    have h0 : l = [] := by
      cases l with
      | nil => rfl
      | cons y ys => obtain ⟨b, o, e, _⟩ := hp (by simp); cases e
    subst h0
    clear hl hp
    go_enter Tryz.func157, Tryz.ntmps157
    go_wp2_with (first
      | (go_at_call 174; refine (clone_nil _ _ _).mono ?_; rintro e w' ⟨rfl, rfl⟩)
      | (go_at_call 175; refine (sort_none _ _ _ _).mono ?_; rintro e w' ⟨rfl, rfl⟩))
    go_ret
    exact ⟨_, [], rfl, pown_nil _ _, List.Perm.refl _, List.Pairwise.nil, Below.refl _ _⟩
  | some ad =>
    have hcl := clone_some ad l c w hn (pcs_news hp rfl)
    clear hl hp
    go_enter Tryz.func157, Tryz.ntmps157
    go_wp2_with (go_at_call 174; refine hcl.mono ?_; rintro e w1 ⟨v1, rfl, ho1, hne1, hb1⟩)
    obtain ⟨g, cap, rfl⟩ : ∃ g cap, v1 = .slice (some ⟨g, 0, none⟩) l.length cap := by
      rcases ho1.2 with ⟨hv, _⟩ | ⟨g, cap, cur, hv, _⟩
      · exact absurd hv hne1
      · exact ⟨g, cap, hv⟩
    have hso := sort_own w.heap.size g cap l w1 ho1 hn
    have HO : Hid _ := ho1
    clear ho1 hcl hne1
    go_wp2_with (go_at_call 175; refine hso.mono ?_; rintro e w2 ⟨rfl, s, ho2, hp2, hu2, hg2⟩)
    have R : Hid _ := ho2
    have G : Hid (Below w.heap.size w w2) := hb1.grown hg2 hb1.size (fun k hk => by simp only [Option.some.injEq] at hk; subst hk; exact (HO.out.lt g rfl).1)
    clear ho2 hg2 hb1
    go_wp2
    go_ret
    exact ⟨_, s, rfl, R.out, hp2, hu2, G.out⟩
theorem rising_sl (v : Value) (l : Pcs) (w : World) (hl : PIn w v l) (hn : l.length ≤ 1000000) :
    Calls Tryz.prog 157 #[v] w fun e w' => ∃ q c s, e = .returned (.slice q (List.length (α := Int × Int) s) c) ∧ POwn w' w.heap.size (.slice q s.length c) s ∧ l.Perm s ∧ Up s ∧ Below w.heap.size w w' ∧ s.length ≤ c ∧ c ≤ 9223372036854775807 := by
  refine (rising_any v l w hl hn).mono ?_
  rintro e w' ⟨v', s, rfl, ho, hp, hu, hb⟩
  obtain ⟨q, m, rfl, h1, h2, h3⟩ := ho.form
  unfold maxLen at h2
  exact ⟨q, m, s, rfl, ho, hp, hu, hb, h1, by omega⟩
end Go.Proofs.YtglcpfnpbcnejaaGreatDoor.Rm
namespace Go.Proofs.YtglcpfnpbcnejaaGreatDoor.Rm
open Go.RowKit Go.WideShapes

def WnK (count : Int) (l : Pcs) (k : Nat) : Prop := ∀ j, j < k → Wn count (l.getD j (0, 0))
theorem WnK.step {count : Int} {l : Pcs} {k : Nat} (h : WnK count l k) (h1 : Wn count (l.getD k (0, 0))) : WnK count l (k + 1) := by
  intro i hi
  rcases Nat.lt_or_ge i k with h' | h'
  · exact h i h'
  · obtain rfl : i = k := by omega
    exact h1
theorem WnK.all {count : Int} {l : Pcs} (h : WnK count l l.length) : ∀ p ∈ l, Wn count p := by
  intro p hp
  obtain ⟨i, hi, rfl⟩ := List.getElem_of_mem hp
  have := h i hi
  rwa [getD_eq hi] at this
theorem not_good_wn {count : Int} {l : Pcs} {k : Nat} (hk : k < l.length) (h : ¬ Wn count (l.getD k (0, 0))) : ¬ Good count l := fun hg => h (hg.wn _ (getD_mem' hk))
theorem split_at {l : Pcs} {k : Nat} (hk : k < l.length) : l = l.take k ++ l.getD k (0, 0) :: l.drop (k + 1) := by
  conv => lhs; rw [← List.take_append_drop k l]
  rw [List.drop_eq_getElem_cons hk, getD_eq hk]
theorem chain_step {count : Int} {s : Pcs} {k : Nat} (hk : k < s.length) (hw : ∀ p ∈ s, Wn count p) (h : Chain (s.take k)) (he : endOf (s.take k) ≤ (s.getD k (0, 0)).1) : Chain (s.take (k + 1)) := by
  rw [take_snoc (d := (0, 0)) hk]
  exact h.snoc (fun p hp => (hw p (List.mem_of_mem_take hp)).2.1) he
theorem end_step {s : Pcs} {k : Nat} (hk : k < s.length) : endOf (s.take (k + 1)) = (s.getD k (0, 0)).1 + (s.getD k (0, 0)).2 := by
  rw [take_snoc (d := (0, 0)) hk, endOf_snoc]
theorem bad_end {count : Int} {s l : Pcs} {k : Nat} (hp : l.Perm s) (hu : Up s) (hk : k < s.length) (hw : ∀ p ∈ s, Wn count p) (he : (s.getD k (0, 0)).1 < endOf (s.take k)) : ¬ Good count l := by
  intro hg
  have hs := split_at hk
  have := hw _ (getD_mem' (d := (0, 0)) hk)
  refine not_good_end (count := count) (s := s.take k) (p := s.getD k (0, 0)) (m := s.drop (k + 1)) this.1 (hs ▸ hu) (hs ▸ hw) he ?_
  exact hs ▸ hg.perm hp

set_option maxHeartbeats 2000000 in
theorem check_any (count : Int) (v : Value) (l : Pcs) (w : World) (hl : PIn w v l) :
    Calls Tryz.prog 138 #[.int .i64 count, v] w fun e w' => e = .returned (.int .i64 (errK count l)) ∧ Below w.heap.size w w' := by
  obtain ⟨q, c, rfl, hq, hlc, hcm, hqn⟩ := hl.lies
  have hwf := hl.wf
  have HL : Hid _ := hl
  clear hl hqn
  unfold maxLen at hcm
  by_cases h1 : 0 ≤ count ∧ count ≤ 4096
  · by_cases h2 : l.length ≤ 4096
    · go_enter Tryz.func138, Tryz.ntmps138
      go_wp2_with (go_at_call 137; refine (mayCount_any count _).mono ?_; rintro e w ⟨rfl, rfl⟩; rw [decide_eq_true h1])
      go_loopw [18] (fun i wr => ∃ k : Nat, k ≤ l.length ∧ i = .int .i64 k ∧ WnK count l k ∧ Below w.heap.size w wr) (fun i _ => l.length - (intOf i).toNat)
      case atStart => exact ⟨0, by omega, rfl, fun i hi => absurd hi (by omega), Below.refl _ _⟩
      case round =>
        obtain ⟨k, hk, rfl, hgood, hbel⟩ := hrel
        have HG : Hid _ := hgood
        clear hgood
        by_cases hkl : k < l.length
        · obtain ⟨b, o, rfl⟩ := hq.addr (by omega)
          obtain ⟨e1, e2⟩ := (hq.below hbel).at hkl
          obtain ⟨f1, f2⟩ := hwf.at hkl
          have HS := WnK.step (k := k) HG.out
          have HE := not_good_wn (k := k) (count := count) hkl
          clear hq hwf
          generalize l.getD k (0, 0) = y at *
          obtain ⟨s, n⟩ := y
          have HS' : Hid _ := HS
          have HE' : Hid _ := HE
          clear HS HE
          simp only at e1 e2 f1 f2
          by_cases g1 : Wn count (s, n)
          · have HG2 : Hid (WnK count l (k + 1)) := HS'.out g1
            have hw1 := wnB_yes g1
            clear g1
            go_wp2_with (go_at_call 156; refine (within_any count s n _ h1 f1).mono ?_; rintro e w1 ⟨rfl, ob, rfl⟩; rw [hw1])
            go_roundw
            case rel => exact ⟨k + 1, by omega, by go_num, HG2.out, (hbel.alloc hbel.size _).alloc (by simp; have := hbel.size; omega) _⟩
            case measure => simp [intOf]; omega
          · have HB : Hid (errK count l = 8) := errK_bad h1 h2 (HE'.out g1)
            have hw1 := wnB_no g1
            clear g1
            go_wp2_with (go_at_call 156; refine (within_any count s n _ h1 f1).mono ?_; rintro e w1 ⟨rfl, ob, rfl⟩; rw [hw1])
            go_ret
            exact ⟨by rw [HB.out]; rfl, (hbel.alloc hbel.size _).alloc (by simp; have := hbel.size; omega) _⟩
        · obtain rfl : k = l.length := by omega
          have HW : Hid (∀ p ∈ l, Wn count p) := WnK.all HG.out
          clear HG hq
          have hrise := rising_sl _ l wr (HL.out.below hbel) (by omega)
          go_wp2_with (go_at_call 157; refine hrise.mono ?_; rintro e w1 ⟨q1, c1, s, rfl, ho, hp, hu, hb1, hc1, hc2⟩)
          clear hrise
          have hq1 := ho.pcs
          have HU : Hid (Up s) := hu
          have HP : Hid (l.Perm s) := hp
          have hsl : s.length = l.length := hp.length_eq.symm
          have HS : Hid (∀ p ∈ s, Wn count p) := fun p hm => HW.out p (hp.mem_iff.2 hm)
          have hb2 : Below w.heap.size w w1 := below_bt hbel hb1
          clear ho hu hp hb1 hbel
          go_loopw [7, 30] (fun e i wr => ∃ k : Nat, k ≤ s.length ∧ i = .int .i64 k ∧ e = .int .i64 (endOf (s.take k)) ∧ Chain (s.take k) ∧ Below w1.heap.size w1 wr) (fun _ i _ => s.length - (intOf i).toNat)
          case atStart => exact ⟨0, by omega, rfl, rfl, List.Pairwise.nil, Below.refl _ _⟩
          case round =>
            obtain ⟨k, hk, rfl, rfl, hch, hbel⟩ := hrel
            have HC : Hid _ := hch
            clear hch
            by_cases hkl : k < s.length
            · obtain ⟨b, o, rfl⟩ := hq1.addr (by omega)
              obtain ⟨e1, e2⟩ := (hq1.below hbel).at hkl
              have hwn := HS.out _ (getD_mem' (d := (0, 0)) hkl)
              have HB := bad_end (count := count) HP.out HU.out hkl HS.out
              have HST := chain_step hkl HS.out HC.out
              have HEN : Hid _ := end_step hkl
              have HB' : Hid _ := HB
              have HST' : Hid _ := HST
              clear hq1 HB HST
              generalize s.getD k (0, 0) = y at *
              obtain ⟨a, n⟩ := y
              generalize endOf (s.take k) = E at *
              unfold Wn at hwn
              simp only at e1 e2 hwn
              by_cases g1 : a < E
              · have HBB : Hid (errK count l = 8) := errK_bad h1 h2 (HB'.out g1)
                clear HB' HST' HEN
                go_wp2
                go_ret
                exact ⟨by rw [HBB.out]; rfl, below_bt hb2 (hbel.alloc hbel.size _)⟩
              · have HCC : Hid (Chain (s.take (k + 1))) := HST'.out (by omega)
                clear HB' HST'
                go_wp2
                go_roundw
                case rel => exact ⟨k + 1, by omega, by go_num, by rw [HEN.out], HCC.out, hbel.alloc hbel.size _⟩
                case measure => simp [intOf]; omega
            · obtain rfl : k = s.length := by omega
              have HO : Hid (errK count l = 0) := by
                refine errK_ok h1 h2 (Good.perm (Chain.good ?_ HS.out) HP.out.symm)
                have := HC.out
                rwa [List.take_length] at this
              clear HC hq1
              go_wp2
              go_ret
              exact ⟨by rw [HO.out]; rfl, below_bt hb2 hbel⟩
    · have HB : Hid (errK count l = 4) := errK_many h1 h2
      go_enter Tryz.func138, Tryz.ntmps138
      go_wp2_with (go_at_call 137; refine (mayCount_any count _).mono ?_; rintro e w ⟨rfl, rfl⟩; rw [decide_eq_true h1])
      go_ret
      exact ⟨by rw [HB.out]; rfl, Below.refl _ _⟩
  · have HB : Hid (errK count l = 2) := errK_arg h1
    go_enter Tryz.func138, Tryz.ntmps138
    go_wp2_with (go_at_call 137; refine (mayCount_any count _).mono ?_; rintro e w ⟨rfl, rfl⟩; rw [decide_eq_false h1])
    go_ret
    exact ⟨by rw [HB.out]; rfl, Below.refl _ _⟩
end Go.Proofs.YtglcpfnpbcnejaaGreatDoor.Rm
namespace Go.Proofs.YtglcpfnpbcnejaaGreatDoor.Rm
open Go.RowKit Go.WideShapes

/-- What stands while the sectors are gone through: k of them are, j of the pieces that rise are behind. -/
structure LeastR (l s : Pcs) (many first base : Nat) (v1 : Value) (w : World) (k j m : Nat) (vo : Value) (tq : Option Addr) (cj : Nat) (wr : World) : Prop where
  own : POwn wr base vo (runsK (freeB l) many first k).1
  sorted : POwn wr base v1 s
  far : ∀ g, v1.ownBlock = some g → some g ≠ vo.ownBlock
  sum : j + m = s.length
  tk : 0 < m → ∃ g, v1.ownBlock = some g ∧ tq = some ⟨g, j * 2, none⟩ ∧ m ≤ cj ∧ cj ≤ 9223372036854775807
  past : Past s j ((first + k : Nat) : Int)
  bel : Below w.heap.size w wr
theorem POwn.at {w : World} {base g : Nat} {v : Value} {l : Pcs} (h : POwn w base v l) (hg : v.ownBlock = some g) {j : Nat} (hj : j < l.length) :
    w.cell? ⟨g, j * 2, none⟩ = some (.int .i64 (l.getD j (0, 0)).1) ∧ w.cell? ⟨g, j * 2 + 1, none⟩ = some (.int .i64 (l.getD j (0, 0)).2) := by
  obtain ⟨q, m, rfl, _⟩ := h.form
  obtain ⟨b, o, e, hc⟩ := h.pcs (by omega)
  subst e
  rcases h.2 with ⟨hv, _⟩ | ⟨g', cap, cur, hv, _⟩
  · cases hv
  · simp only [Value.slice.injEq, Option.some.injEq, Addr.mk.injEq, and_true] at hv
    obtain ⟨⟨rfl, rfl⟩, _⟩ := hv
    simp only [Value.ownBlock, Option.some.injEq] at hg
    subst hg
    have := hc j hj
    simpa using this
theorem LeastR.drew {l s : Pcs} {many first base : Nat} {v1 : Value} {w : World} {k j m : Nat} {vo : Value} {tq : Option Addr} {cj : Nat} {wr : World} (h : LeastR l s many first base v1 w k j m vo tq cj wr) (n : Nat) : LeastR l s many first base v1 w k j m vo tq cj (wr.drewN n) :=
  ⟨h.own.grown (grown_drew _ _ _), h.sorted.grown (grown_drew _ _ _), h.far, h.sum, h.tk, h.past, h.bel.grown (grown_drew _ _ none) h.bel.size (fun k hk => by cases hk)⟩
theorem LeastR.next {l s : Pcs} {many first base : Nat} {v1 : Value} {w : World} {k j m : Nat} {vo : Value} {tq : Option Addr} {cj : Nat} {wr : World} {tq' : Option Addr} {cj' g : Nat} (h : LeastR l s many first base v1 w k j (m + 1) vo tq cj wr) (hg : v1.ownBlock = some g) (he : (s.getD j (0, 0)).1 + (s.getD j (0, 0)).2 ≤ ((first + k : Nat) : Int))
    (ht : 0 < m → tq' = some ⟨g, (j + 1) * 2, none⟩) (hc : m ≤ cj' ∧ cj' ≤ 9223372036854775807) : LeastR l s many first base v1 w k (j + 1) m vo tq' cj' wr :=
  ⟨h.own, h.sorted, h.far, by have := h.sum; omega, fun hm => ⟨g, hg, ht hm, hc⟩, h.past.step (by have := h.sum; omega) he, h.bel⟩
theorem LeastR.over {l s : Pcs} {many first base : Nat} {v1 : Value} {w : World} {k j m : Nat} {vo : Value} {tq : Option Addr} {cj : Nat} {wr : World} (h : LeastR l s many first base v1 w k j m vo tq cj wr) (hr : runsK (freeB l) many first (k + 1) = runsK (freeB l) many first k) : LeastR l s many first base v1 w (k + 1) j m vo tq cj wr :=
  ⟨by rw [hr]; exact h.own, h.sorted, h.far, h.sum, h.tk, h.past.mono (by omega), h.bel⟩
theorem LeastR.put {l s : Pcs} {many first base : Nat} {v1 : Value} {w : World} {k j m : Nat} {vo : Value} {tq : Option Addr} {cj : Nat} {wr : World} {vo' : Value} {w2 : World} (h : LeastR l s many first base v1 w k j m vo tq cj wr) (hb0 : w.heap.size ≤ base)
    (ho : POwn w2 base vo' (runsK (freeB l) many first (k + 1)).1) (hg : wr.grownBy w2 vo.ownBlock) (hf : ∀ k, k < wr.heap.size → some k ≠ vo.ownBlock → some k ≠ vo'.ownBlock) : LeastR l s many first base v1 w (k + 1) j m vo' tq cj w2 := by
  refine ⟨ho, h.sorted.kept hg ?_, fun g e => hf g (h.sorted.lt g e).2 (h.far g e), h.sum, h.tk, h.past.mono (by omega), h.bel.grown hg h.bel.size (fun x hx => Nat.le_trans hb0 (h.own.lt x hx).1)⟩
  cases hv : v1.ownBlock with
  | none => exact .inl rfl
  | some g => exact .inr (h.far g hv)
set_option maxHeartbeats 400000 in
theorem least_any (first count many : Nat) (v : Value) (l : Pcs) (w : World) (hl : PIn w v l) (hn : l.length ≤ 4096) (hg : Good count l) (hf : first ≤ count) (hc : count ≤ 4096) (hm : many ≤ 4096) :
    Calls Tryz.prog 139 #[.int .i64 first, .int .i64 count, v, .int .i64 many] w fun e w' => ∃ v', e = .returned (.tuple #[v', .int .i64 (runsK (freeB l) many first (count - first)).2]) ∧ POwn w' w.heap.size v' (runsK (freeB l) many first (count - first)).1 ∧ Below w.heap.size w w' := by
  obtain ⟨q, c, rfl, _⟩ := hl.lies
  have hrise := rising_sl _ l w hl (by omega)
  clear hl
  go_enter Tryz.func139, Tryz.ntmps139
  go_wp2
  go_step3
  go_wp2_with (go_at_call 157; refine hrise.mono ?_; rintro e w1 ⟨q1, c1, s, rfl, ho, hp, hu, hb1, hc1, hc2⟩)
  clear hrise
  have HU : Hid (Up s) := hu
  have HP : Hid (l.Perm s) := hp
  have HGS : Hid (Good count s) := hg.perm hp
  have H0 : Hid (LeastR l s many first w.heap.size (.slice q1 s.length c1) w 0 0 s.length (.slice none 0 0) q1 c1 w1) := by
    refine ⟨pown_nil _ _, ho, (fun g hg' e => by cases e), by omega, fun hm => ?_, past_zero _ _, hb1⟩
    rcases ho.2 with ⟨_, h0⟩ | ⟨g, cap, cur, hv, _⟩
    · omega
    · simp only [Value.slice.injEq] at hv
      obtain ⟨rfl, _, rfl⟩ := hv
      exact ⟨g, rfl, by simp, hc1, hc2⟩
  have hsl : s.length ≤ 4096 := by rw [← hp.length_eq]; exact hn
  clear hu hp hg ho hb1
  go_step3
  go_wp2
  go_loopg [10, 11, 12, 13] (count - first) (fun gk out got tk n wr => ∃ k j m tq cj, k + gk = count - first ∧ got = .int .i64 ((runsK (freeB l) many first k).2 : Nat) ∧ tk = .slice tq m cj ∧ n = .int .i64 ((first + k : Nat) : Int) ∧ LeastR l s many first w.heap.size (.slice q1 s.length c1) w k j m out tq cj wr)
  case atStart => exact ⟨0, 0, s.length, q1, c1, by omega, rfl, rfl, rfl, H0.out⟩
  case round =>
    obtain ⟨k, j, m, tq, cj, hk, rfl, rfl, rfl, hR⟩ := hrel
    have HR : Hid _ := hR
    clear hR H0
    have hgot := runsK_le (freeB l) many first k
    by_cases h1 : k < count - first
    · by_cases h2 : (runsK (freeB l) many first k).2 < many
      · obtain ⟨g, rfl⟩ : ∃ g, gk = g + 1 := ⟨gk - 1, by omega⟩
        have HY : Hid (∀ hp : freeB l ((first + k : Nat) : Int) = true, runsK (freeB l) many first (k + 1) = (withN (runsK (freeB l) many first k).1 (((first + k : Nat) : Int), 1), (runsK (freeB l) many first k).2 + 1)) := fun hp => runsK_yes h2 hp
        have HNo : Hid (∀ hp : freeB l ((first + k : Nat) : Int) = false, runsK (freeB l) many first (k + 1) = runsK (freeB l) many first k) := fun hp => runsK_no hp
        have HB : Hid (∀ q ∈ (runsK (freeB l) many first k).1, 0 ≤ q.1 ∧ 0 ≤ q.2 ∧ q.1 + q.2 ≤ 8192) := fun q hq => by have := runsK_bounds (freeB l) many first k 8192 (by omega) q hq; omega
        have HLen : Hid ((runsK (freeB l) many first k).1.length ≤ 4096) := by show _ ≤ _; have := runsK_len (freeB l) many first k; omega
        obtain ⟨got, hgg⟩ : ∃ got, (runsK (freeB l) many first k).2 = got := ⟨_, rfl⟩
        have HGG : Hid ((runsK (freeB l) many first k).2 = got) := hgg
        rw [hgg] at hgot h2 ⊢
        clear hgg
        go_wp2
        go_loopg [12] m (fun g2 tk wr => ∃ j tq cj, tk = .slice tq g2 cj ∧ LeastR l s many first w.heap.size (.slice q1 s.length c1) w k j g2 u10 tq cj wr)
        case atStart => exact ⟨j, tq, cj, rfl, HR.out⟩
        case round =>
          clear HR
          obtain ⟨j, tq, cj, rfl, hR⟩ := hrel
          have HR : Hid _ := hR
          clear hR
          cases gk with
          | zero =>
            have hfree : freeB l ((first + k : Nat) : Int) = true := by
              unfold freeB
              rw [cov_perm HP.out, HR.out.past.free HU.out (fun hj => by have := HR.out.sum; omega)]
              rfl
            have HY2 : Hid _ := HY.out hfree
            have hwith := with_any w.heap.size u10 (runsK (freeB l) many first k).1 (((first + k : Nat) : Int), 1) wr HR.out.own HR.out.bel.size HLen.out HB.out ⟨by show (0 : Int) ≤ 1; decide, by show (1 : Int) ≤ 8192; decide⟩
            clear HY HNo HB HLen hfree
            go_wp2_with (go_at_call 158; refine hwith.mono ?_; rintro e w2 ⟨v2, rfl, ho2, hg2, hf2⟩)
            have R : Hid (LeastR l s many first w.heap.size (.slice q1 s.length c1) w (k + 1) j 0 v2 tq cj w2) := HR.out.put (Nat.le_refl _) (by rw [HY2.out]; exact ho2) hg2 hf2
            clear hwith ho2 hg2 hf2 HR
            go_roundg g
            case measure => omega
            case rel => exact ⟨k + 1, j, 0, tq, cj, by omega, by rw [HY2.out, HGG.out]; rfl, rfl, by go_num, R.out⟩
          | succ m =>
            obtain ⟨gb, hgb, rfl, hmc, hcj⟩ := HR.out.tk (by omega)
            have hj : j < s.length := by have := HR.out.sum; omega
            obtain ⟨e1, e2⟩ := HR.out.sorted.at hgb hj
            have hwn := HGS.out.wn _ (getD_mem' (d := (0, 0)) hj)
            have HF := fun (h : ((first + k : Nat) : Int) < (s.getD j (0, 0)).1) => HR.out.past.free HU.out (fun _ => h)
            have HC := cov_at (n := ((first + k : Nat) : Int)) hj
            have HNX := fun (tq' : Option Addr) (cj' : Nat) (n : Nat) he ht hc => (LeastR.next (tq' := tq') (cj' := cj') (HR.out.drew n) hgb he ht hc)
            have HF' : Hid _ := HF
            have HC' : Hid _ := HC
            have HNX' : Hid _ := HNX
            have HGB : Hid ((Value.slice q1 s.length c1).ownBlock = some gb) := hgb
            clear HF HC HNX hgb
            generalize s.getD j (0, 0) = y at *
            obtain ⟨a, n⟩ := y
            unfold Wn at hwn
            simp only at e1 e2 hwn
            by_cases g1 : a ≤ ((first + k : Nat) : Int)
            · by_cases g2 : ((first + k : Nat) : Int) < a + n
              · have hno : freeB l ((first + k : Nat) : Int) = false := by
                  unfold freeB
                  rw [cov_perm HP.out, HC'.out g1 g2]
                  rfl
                have HNo2 : Hid _ := HNo.out hno
                clear HF' HC' HNX' HNo hno HY
                go_wp2
                go_quiet (fail)
                go_wp2
                go_roundg g
                case measure => omega
                case rel => exact ⟨k + 1, j, m + 1, _, cj, by omega, by rw [HNo2.out, HGG.out], rfl, by go_num, (HR.out.over HNo2.out).drew _⟩
              · clear HF' HC' HNo HY
                have g3 : a + n ≤ ((first + k : Nat) : Int) := by omega
                by_cases hc1 : cj = 1
                · subst hc1
                  obtain rfl : m = 0 := by omega
                  go_wp2
                  go_quiet (fail)
                  go_wp2
                  go_roundg 0
                  case measure => omega
                  case rel => exact ⟨j + 1, _, _, rfl, HNX'.out _ _ _ g3 (fun h => absurd h (by omega)) (by omega)⟩
                · go_wp2
                  go_quiet (fail)
                  go_wp2
                  go_roundg m
                  case measure => omega
                  case rel => exact ⟨j + 1, _, _, rfl, HNX'.out _ _ _ g3 (fun _ => by rw [show (j + 1) * 2 = j * 2 + 2 from by omega]) (by omega)⟩
            · have hfree : freeB l ((first + k : Nat) : Int) = true := by
                unfold freeB
                rw [cov_perm HP.out, HF'.out (by simp only; omega)]
                rfl
              have HY2 : Hid _ := HY.out hfree
              have hwith := with_any w.heap.size u10 (runsK (freeB l) many first k).1 (((first + k : Nat) : Int), 1) wr HR.out.own HR.out.bel.size HLen.out HB.out ⟨by show (0 : Int) ≤ 1; decide, by show (1 : Int) ≤ 8192; decide⟩
              clear HY HNo HB HLen hfree HF' HC' HNX'
              go_wp2_with (go_at_call 158; refine hwith.mono ?_; rintro e w2 ⟨v2, rfl, ho2, hg2, hf2⟩)
              have R : Hid (LeastR l s many first w.heap.size (.slice q1 s.length c1) w (k + 1) j (m + 1) v2 (some ⟨gb, j * 2, none⟩) cj w2) := HR.out.put (Nat.le_refl _) (by rw [HY2.out]; exact ho2) hg2 hf2
              clear hwith ho2 hg2 hf2 HR
              go_roundg g
              case measure => omega
              case rel => exact ⟨k + 1, j, m + 1, _, cj, by omega, by rw [HY2.out, HGG.out]; rfl, rfl, by go_num, R.out⟩
      · have HE : Hid (runsK (freeB l) many first (count - first) = runsK (freeB l) many first k) := by
          have := runsK_stay (P := freeB l) h2 (count - first - k)
          rwa [show k + (count - first - k) = count - first from by omega] at this
        go_wp2
        try rw [Exit.noGoto_ret]
        go_ret2
        rw [HE.out]
        exact ⟨_, rfl, HR.out.own, HR.out.bel⟩
    · obtain rfl : k = count - first := by omega
      go_wp2
      try rw [Exit.noGoto_ret]
      go_ret2
      exact ⟨_, rfl, HR.out.own, HR.out.bel⟩
end Go.Proofs.YtglcpfnpbcnejaaGreatDoor.Rm
namespace Go.Proofs.YtglcpfnpbcnejaaGreatDoor.Rm
open Go.RowKit Go.WideShapes

def ListPost (l : Pcs) (e : Int) (w : World) (en : Ending) (w' : World) : Prop :=
  ∃ q c, en = .returned (.tuple #[.slice q l.length c, .int .i64 e]) ∧ POwn w' w.heap.size (.slice q l.length c) l ∧ Below w.heap.size w w'
theorem listPost_nil {l : Pcs} {e : Int} {w w' : World} {en : Ending} (hl : l = []) (he : en = .returned (.tuple #[.slice none 0 0, .int .i64 e])) (hb : Below w.heap.size w w') : ListPost l e w en w' := by
  subst hl
  exact ⟨none, 0, he, pown_nil _ _, hb⟩
theorem listPost_own {l : Pcs} {e : Int} {v : Value} {w w1 w' : World} {en : Ending} (he : en = .returned (.tuple #[v, .int .i64 e])) (ho : POwn w' w1.heap.size v l) (h1 : Below w.heap.size w w1) (hb : Below w1.heap.size w1 w') : ListPost l e w en w' := by
  obtain ⟨q, m, rfl, _⟩ := ho.form
  exact ⟨q, m, he, ho.mono h1.size, below_bt h1 hb⟩

set_option maxHeartbeats 1000000 in
theorem take_any (first count : Int) (v : Value) (l : Pcs) (many : Int) (w : World) (hl : PIn w v l) :
    Calls Tryz.prog 107 #[.int .i64 first, .int .i64 count, v, .int .i64 many] w (ListPost (resT first count l many) (errT first count l many) w) := by
  obtain ⟨q, c, rfl, _⟩ := hl.lies
  have hck := check_any count _ l w hl
  by_cases h1 : (0 ≤ count ∧ count ≤ 4096) ∧ 0 ≤ first ∧ first ≤ count
  · by_cases h0 : 0 ≤ many ∧ many ≤ 4096
    · by_cases h2 : errK count l = 0
      · have hz := errK_zero h2
        rw [h2] at hck
        have h3 : errF first count l = 0 := by rw [errF_ok h1, h2]
        obtain ⟨f, rfl⟩ := Int.eq_ofNat_of_zero_le h1.2.1
        obtain ⟨n, rfl⟩ := Int.eq_ofNat_of_zero_le h1.1.1
        obtain ⟨m, rfl⟩ := Int.eq_ofNat_of_zero_le h0.1
        have hle : ∀ w1, Below w.heap.size w w1 → Calls Tryz.prog 139 #[.int .i64 f, .int .i64 n, .slice q l.length c, .int .i64 m] w1 _ := fun w1 hb => least_any f n m _ l w1 (hl.below hb) hz.2.1 hz.2.2 (by omega) (by omega) (by omega)
        have hgot : gotF (f : Int) (n : Int) l ((m : Int)).toNat = runsK (freeB l) m f (n - f) := by
          unfold gotF
          rw [show ((f : Int)).toNat = f from by omega, show ((n : Int) - (f : Int)).toNat = n - f from by omega, show ((m : Int)).toNat = m from by omega]
        by_cases h5 : (runsK (freeB l) m f (n - f)).2 < m
        · have hE : errT (f : Int) (n : Int) l (m : Int) = 30 := errT_few h0 h3 (by rw [hgot]; omega)
          rw [resT_bad (by rw [hE]; decide), hE]
          generalize runsK (freeB l) m f (n - f) = r at *
          clear hl hz h2 h3 hgot
          go_enter Tryz.func107, Tryz.ntmps107
          go_wp2_with (first
            | (go_at_call 136; refine (mayBegin_any f n _).mono ?_; rintro e w ⟨rfl, rfl⟩; rw [decide_eq_true h1])
            | (go_at_call 137; refine (mayCount_any m _).mono ?_; rintro e w ⟨rfl, rfl⟩; rw [decide_eq_true h0])
            | (go_at_call 138; refine hck.mono ?_; rintro e w1 ⟨rfl, hb1⟩)
            | (go_at_call 139; refine (hle _ hb1).mono ?_; rintro e w2 ⟨v2, rfl, ho2, hb2⟩))
          go_ret2
          exact listPost_nil rfl rfl (below_bt hb1 hb2)
        · have hE : errT (f : Int) (n : Int) l (m : Int) = 0 := errT_ok h0 h3 (by rw [hgot]; omega)
          rw [resT_ok hE, hE, hgot]
          generalize runsK (freeB l) m f (n - f) = r at *
          clear hl hz h2 h3 hgot
          go_enter Tryz.func107, Tryz.ntmps107
          go_wp2_with (first
            | (go_at_call 136; refine (mayBegin_any f n _).mono ?_; rintro e w ⟨rfl, rfl⟩; rw [decide_eq_true h1])
            | (go_at_call 137; refine (mayCount_any m _).mono ?_; rintro e w ⟨rfl, rfl⟩; rw [decide_eq_true h0])
            | (go_at_call 138; refine hck.mono ?_; rintro e w1 ⟨rfl, hb1⟩)
            | (go_at_call 139; refine (hle _ hb1).mono ?_; rintro e w2 ⟨v2, rfl, ho2, hb2⟩))
          go_ret2
          exact listPost_own rfl ho2 hb1 hb2
      · have h3 : errT first count l many = errK count l := by rw [errT_bad h0 (by rw [errF_ok h1]; exact h2), errF_ok h1]
        have hne : (errK count l != 0) = true := by simpa using h2
        rw [resT_bad (by rw [h3]; exact h2), h3]
        generalize errK count l = E at *
        clear hl h2 h3
        go_enter Tryz.func107, Tryz.ntmps107
        go_wp2_with (first
          | (go_at_call 136; refine (mayBegin_any first count _).mono ?_; rintro e w ⟨rfl, rfl⟩; rw [decide_eq_true h1])
          | (go_at_call 137; refine (mayCount_any many _).mono ?_; rintro e w ⟨rfl, rfl⟩; rw [decide_eq_true h0])
          | (go_at_call 138; refine hck.mono ?_; rintro e w1 ⟨rfl, hb1⟩))
        go_ret2
        exact listPost_nil rfl rfl hb1
    · have h3 : errT first count l many = 2 := errT_arg h0
      rw [resT_bad (by rw [h3]; decide), h3]
      go_enter Tryz.func107, Tryz.ntmps107
      go_wp2_with (first
        | (go_at_call 136; refine (mayBegin_any first count _).mono ?_; rintro e w ⟨rfl, rfl⟩; rw [decide_eq_true h1])
        | (go_at_call 137; refine (mayCount_any many _).mono ?_; rintro e w ⟨rfl, rfl⟩; rw [decide_eq_false h0]))
      go_ret2
      exact listPost_nil rfl rfl (Below.refl _ _)
  · have h3 : errT first count l many = 2 := by
      by_cases h0 : 0 ≤ many ∧ many ≤ 4096
      · rw [errT_bad h0 (by rw [errF_arg h1]; decide), errF_arg h1]
      · exact errT_arg h0
    rw [resT_bad (by rw [h3]; decide), h3]
    go_enter Tryz.func107, Tryz.ntmps107
    go_wp2_with (go_at_call 136; refine (mayBegin_any first count _).mono ?_; rintro e w ⟨rfl, rfl⟩; rw [decide_eq_false h1])
    go_ret2
    exact listPost_nil rfl rfl (Below.refl _ _)
end Go.Proofs.YtglcpfnpbcnejaaGreatDoor.Rm
