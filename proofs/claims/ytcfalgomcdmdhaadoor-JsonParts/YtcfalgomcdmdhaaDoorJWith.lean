import Derived.Test.YtcfalgomcdmdhaaDoorJBk
import Derived.Deep.MidRow
namespace Go.Proofs.YtcfalgomcdmdhaaDoor
open Go.RowKit Go.WideShapes Go.Joins
theorem below_setCells {B g : Nat} (hg : B ≤ g) : ∀ (vs : List Value) (o : Nat) {a w : World}, Below B a w → Below B a (w.setCells g o vs)
  | [], _, _, _, h => h
  | v :: r, o, _, _, h => below_setCells hg r (o + 1) (h.setCell (p := ⟨g, o, none⟩) hg v)
inductive Few : JB → Prop where
  | mk (k : Nat) (b : Bool) (n : Int) (t : ByteArray) (ns : List ByteArray) (vs : List JB) (hn : ns.length ≤ 8796093021952) (hv : vs.length ≤ 1759218604390) (hr : ∀ (i : Nat) (x : JB), vs[i]? = some x → Few x) : Few (.mk k b n t ns vs)
def Fr (B : Nat) (w : World) (b : Nat) : Prop := B ≤ b ∧ ∀ o, w.frozen? ⟨b, o, none⟩ = false
theorem fz_block {w w' : World} {b : Nat} (h : w'.heap[b]? = w.heap[b]?) (o : Nat) : w'.frozen? ⟨b, o, none⟩ = w.frozen? ⟨b, o, none⟩ := World.frozen?_of_block h
theorem jin_frb {w w' : World} {B C : Nat} {A : Array Value} {x : JB} (h : JIn w (Fr B w) A x) (hb : Below w.heap.size w w') (hC : C ≤ B) : JIn w' (Fr C w') A x :=
  h.mono fun a _ z hc => ⟨below_cell hc hb, Nat.le_trans hC z.1, fun o => (fz_block (hb.block a.block (World.block_lt_of_cell? _ _ hc)) o).trans (z.2 o)⟩
theorem jin_frg {w w' : World} {B C g : Nat} {A : Array Value} {x : JB} (h : JIn w (Fr B w) A x) (hg : w.grownBy w' (some g)) (hz : g < B) (hC : C ≤ B) : JIn w' (Fr C w') A x :=
  h.mono fun a _ z hc => ⟨hg.cell hc (fun e => by have := z.1; cases e; omega), Nat.le_trans hC z.1, fun o => (fz_block (hg.block a.block (World.block_lt_of_cell? _ _ hc) (fun e => by have := z.1; cases e; omega)) o).trans (z.2 o)⟩
theorem ss_frb {w w' : World} {B C : Nat} {q : Option Addr} {ss : List ByteArray} (h : SsIn w (Fr B w) q ss) (hb : Below w.heap.size w w') (hC : C ≤ B) : SsIn w' (Fr C w') q ss :=
  h.mono fun a _ z hc => ⟨below_cell hc hb, Nat.le_trans hC z.1, fun o => (fz_block (hb.block a.block (World.block_lt_of_cell? _ _ hc)) o).trans (z.2 o)⟩
theorem ss_frg {w w' : World} {B C g : Nat} {q : Option Addr} {ss : List ByteArray} (h : SsIn w (Fr B w) q ss) (hg : w.grownBy w' (some g)) (hz : g < B) (hC : C ≤ B) : SsIn w' (Fr C w') q ss :=
  h.mono fun a _ z hc => ⟨hg.cell hc (fun e => by have := z.1; cases e; omega), Nat.le_trans hC z.1, fun o => (fz_block (hg.block a.block (World.block_lt_of_cell? _ _ hc) (fun e => by have := z.1; cases e; omega)) o).trans (z.2 o)⟩
theorem vs_frg {w w' : World} {B C g : Nat} {q : Option Addr} {F : Nat → Array Value} {n : Nat} (h : VsIn w (Fr B w) q F n) (hs : ∀ i, i < n → (F i).size = 6) (hg : w.grownBy w' (some g)) (hz : g < B) (hC : C ≤ B) : VsIn w' (Fr C w') q F n :=
  h.mono hs fun a _ z hc => ⟨hg.cell hc (fun e => by have := z.1; cases e; omega), Nat.le_trans hC z.1, fun o => (fz_block (hg.block a.block (World.block_lt_of_cell? _ _ hc) (fun e => by have := z.1; cases e; omega)) o).trans (z.2 o)⟩
structure CnP (ns : List ByteArray) (w : World) (e : Ending) (w' : World) : Prop where
  ex : ∃ q' c', e = .returned (.slice q' ns.length c') ∧ ns.length ≤ c' ∧ c' ≤ maxLen ∧ (q' = none → c' = 0) ∧ SsIn w' (Fr w.heap.size w') q' ns ∧ Below w.heap.size w w'
theorem cn_own {ns : List ByteArray} {w w' : World} {v : Value} (h : w'.ownsRow w.heap.size 9 1 v ns.length (ns.map Value.string)) (hb : Below w.heap.size w w') : CnP ns w (.returned v) w' := by
  rcases h.2 with ⟨rfl, h0⟩ | ⟨g, cap, cur, rfl, hg, hblk, hnc, hcm, hcs, htk⟩
  · have : ns = [] := List.length_eq_zero_iff.1 h0
    subst this
    exact ⟨none, 0, rfl, Nat.le_refl _, Nat.zero_le _, fun _ => rfl, ss_nil _ _ _, hb⟩
  · refine ⟨_, cap, rfl, hnc, hcm, (by intro e; cases e), ?_, hb⟩
    intro _
    refine ⟨g, 0, rfl, ⟨hg, fun o => unfrozen_of_block hblk o⟩, fun i s hs => ?_⟩
    have hi : i < ns.length := (List.getElem?_eq_some_iff.1 hs).1
    have := h.cellAt i (by omega)
    rw [List.getElem?_map, hs] at this
    rw [Nat.zero_add]; exact this
theorem clone_names (q : Option Addr) (ns : List ByteArray) (c : Nat) (Z : Nat → Prop) (w : World) (h : SsIn w Z q ns) (hl : ns.length ≤ 8796093021952) (hc : ns.length ≤ c) (hq : q = none → c = 0) :
    Calls Tryd.prog 79 #[.slice q ns.length c] w fun e w' => CnP ns w e w' := by
  by_cases h0 : ns.length = 0
  · have hn : ns = [] := List.length_eq_zero_iff.1 h0
    subst hn
    cases q with
    | none =>
      refine (Any.slices_Clone_string_nil lays16 _ c w).mono ?_
      rintro e w' ⟨rfl, rfl⟩
      exact ⟨none, 0, rfl, Nat.le_refl _, Nat.zero_le _, fun _ => rfl, ss_nil _ _ _, Below.refl _ _⟩
    | some a =>
      refine (Any.slices_Clone_string_zero lays16 a c w).mono ?_
      rintro e w' ⟨v, rfl, ho, _, hb⟩
      exact cn_own (ns := []) ho hb
  · obtain ⟨b, o, rfl⟩ := h.addr (by omega)
    refine (Any.slices_Clone_string lays16 b o ns.length c ns w (Nat.le_refl _) (by omega) (fun j hj => h.at hj)).mono ?_
    rintro e w' ⟨v, rfl, ho, _, hb⟩
    rw [List.take_length] at ho
    exact cn_own ho hb
structure CopP (x : JB) (w : World) (e : Ending) (w' : World) : Prop where
  ex : ∃ A, e = .returned (.agg A) ∧ JIn w' (Fr w.heap.size w') A x ∧ Below w.heap.size w w'
inductive CpI (vs : List JB) (w : World) (n : Nat) (t : Value) (wr : World) : Prop where
  | intro (k : Nat) (G : Nat → Array Value) (hk : k ≤ n) (ht : t = .int .i64 (k : Int)) (hb : Below w.heap.size w wr) (hs : w.heap.size < wr.heap.size) (hth : wr.there w.heap.size 0 (n * 6)) (hU : ∀ o, wr.frozen? ⟨w.heap.size, o, none⟩ = false)
      (hG : ∀ j x, j < k → vs[j]? = some x → JIn wr (Fr (w.heap.size + 1) wr) (G j) x) (hC : ∀ j, j < k → wr.rangeAt w.heap.size (j * 6) (G j).toList)
structure CpsP (vs : List JB) (w : World) (e : Ending) (w' : World) : Prop where
  ex : ∃ q' c' G, e = .returned (.slice q' vs.length c') ∧ vs.length ≤ c' ∧ c' ≤ maxLen ∧ (q' = none → c' = 0) ∧ VsIn w' (Fr w.heap.size w') q' G vs.length ∧ (∀ i x, vs[i]? = some x → JIn w' (Fr w.heap.size w') (G i) x) ∧ Below w.heap.size w w'
theorem there_bel {w w' : World} {b o n : Nat} (h : w.there b o n) (hlt : b < w.heap.size) (hb : Below w.heap.size w w') : w'.there b o n := fun j hj => by
  rw [hb.cell (p := ⟨b, o + j, none⟩) hlt, hb.frozen (p := ⟨b, o + j, none⟩) hlt]
  exact h j hj
theorem range_bel {w w' : World} {b o : Nat} {cs : List Value} (h : w.rangeAt b o cs) (hlt : b < w.heap.size) (hb : Below w.heap.size w w') : w'.rangeAt b o cs := fun j v hv => by
  rw [hb.cell (p := ⟨b, o + j, none⟩) hlt]
  exact h j v hv
theorem jin_setCells {w : World} {g o B : Nat} {vs : List Value} {A : Array Value} {x : JB} (h : JIn w (Fr B w) A x) (hB : g < B) : JIn (w.setCells g o vs) (Fr (g + 1) (w.setCells g o vs)) A x :=
  h.mono fun a v z hc => ⟨(World.cell?_setCells_out g vs o w a (fun e _ => by have := z.1; omega)).trans hc, Nat.le_trans hB z.1, fun o' => (World.frozen?_setCells g vs o w ⟨a.block, o', none⟩).trans (z.2 o')⟩
theorem cp_step {vs : List JB} {w wr w3 : World} {n i : Nat} {G : Nat → Array Value} {A : Array Value} {x : JB} (hx : vs[i]? = some x) (hlt : i < n) (hb : Below w.heap.size w wr) (hs : w.heap.size < wr.heap.size) (hth : wr.there w.heap.size 0 (n * 6)) (hU : ∀ o, wr.frozen? ⟨w.heap.size, o, none⟩ = false)
    (hG : ∀ j x, j < i → vs[j]? = some x → JIn wr (Fr (w.heap.size + 1) wr) (G j) x) (hC : ∀ j, j < i → wr.rangeAt w.heap.size (j * 6) (G j).toList) (hvs : i < vs.length) (h3 : Below wr.heap.size wr w3) (hJ : JIn w3 (Fr wr.heap.size w3) A x) :
    CpI vs w n (.int .i64 ((i + 1 : Nat) : Int)) (w3.setCells w.heap.size (i * 6) A.toList) := by
  have t3 := there_bel hth hs h3
  have b3 := below_more hb h3
  have bs := below_setCells (Nat.le_refl w.heap.size) A.toList (i * 6) b3
  have hsz : w.heap.size < (w3.setCells w.heap.size (i * 6) A.toList).heap.size := Nat.lt_of_lt_of_le (Nat.lt_of_lt_of_le hs h3.size) (below_setCells (Nat.le_refl w.heap.size) A.toList (i * 6) (Below.refl w.heap.size w3)).size
  have hA6 : A.toList.length = 6 := by rw [Array.length_toList]; exact hJ.size
  refine ⟨i + 1, fun j => if j = i then A else G j, by omega, rfl, bs, hsz, World.there_setCells t3 _ _ _, fun o => (World.frozen?_setCells _ _ _ _ _).trans ((fz_block (h3.block _ hs) o).trans (hU o)), ?_, ?_⟩
  · intro j y hj hy
    by_cases e : j = i
    · subst e
      rw [hx] at hy; cases hy
      rw [if_pos rfl]
      exact jin_setCells hJ hs
    · rw [if_neg e]
      exact jin_setCells (jin_frb (hG j y (by omega) hy) h3 (Nat.le_refl _)) (Nat.lt_succ_self _)
  · intro j hj
    by_cases e : j = i
    · subst e
      simp only
      exact World.rangeAt_setCells_same _ _ _ _ (fun k hk => by have := t3 (j * 6 + k) (by rw [hA6] at hk; omega); rw [Nat.zero_add] at this; exact this)
    · simp only [if_neg e]
      refine World.rangeAt_setCells_apart (range_bel (hC j (by omega)) hs h3) _ _ _ (.inr (.inl ?_))
      have := (hG j (vs[j]'(by omega)) (by omega) (List.getElem?_eq_getElem (by omega))).size
      rw [Array.length_toList]
      omega
theorem cp_store {w wr w3 : World} {n i : Nat} {A : Array Value} {x : JB} {Z : Nat → Prop} (hlt : i < n) (hs : w.heap.size < wr.heap.size) (hth : wr.there w.heap.size 0 (n * 6)) (h3 : Below wr.heap.size wr w3) (hJ : JIn w3 Z A x) :
    (storeCells ⟨w.heap.size, i * 6, none⟩ A.toList).run Tryd.prog w3 = .ok () (w3.setCells w.heap.size (i * 6) A.toList) := by
  have t3 := there_bel hth hs h3
  have hA6 : A.toList.length = 6 := by rw [Array.length_toList]; exact hJ.size
  have H : ∀ j, j < A.toList.length → (w3.cell? ⟨w.heap.size, i * 6 + 0 + j, none⟩).isSome = true ∧ w3.frozen? ⟨w.heap.size, i * 6 + 0 + j, none⟩ = false := fun j hj => by
    have := t3 (i * 6 + j) (by rw [hA6] at hj; omega)
    rw [Nat.zero_add] at this
    exact this
  exact run_storeCells_cells w.heap.size (i * 6) A.toList 0 w3 (fun j hj => (H j hj).1) (fun j hj => (H j hj).2) (jin_one hJ)
set_option maxHeartbeats 2000000 in
set_option maxRecDepth 8000 in
theorem copies_walk (vs : List JB) (q : Option Addr) (c : Nat) (F : Nat → Array Value) (Z : Nat → Prop) (w : World) (h1 : VsIn w Z q F vs.length) (hl : vs.length ≤ 1759218604390)
    (hf1 : ∀ i x, vs[i]? = some x → JIn w Z (F i) x)
    (hcall : ∀ i x, vs[i]? = some x → ∀ w', Below w.heap.size w w' → Calls Tryd.prog 48 #[.agg (F i)] w' fun e w'' => CopP x w' e w'') :
    Calls Tryd.prog 51 #[.slice q vs.length c] w fun e w' => CpsP vs w e w' := by
  obtain ⟨n, hn⟩ : ∃ n, vs.length = n := ⟨_, rfl⟩
  have HE : Hid (vs.length = n) := hn
  rw [hn] at h1 hl ⊢
  have HH : Hid (VsIn w Z q F n ∧ (∀ i x, vs[i]? = some x → JIn w Z (F i) x) ∧ vs.length = n) := ⟨h1, hf1, hn⟩
  have HC : Hid (∀ i x, vs[i]? = some x → ∀ w', Below w.heap.size w w' → Calls Tryd.prog 48 #[.agg (F i)] w' fun e w'' => CopP x w' e w'') := hcall
  have hmx : (n : Int) ≤ 9223372036854775807 := by omega
  obtain ⟨i0, hi0, hz0, hz1, hz2⟩ := info_parts' info_json
  clear h1 hf1 hn hcall
  go_enter Tryd.func51, Tryd.ntmps51
  go_wp2_with (at_make; refine wpList_make_full _ rfl _ _ 23 rfl w.heap.size 25 i0 _ 6 Tryd.underlying23 hi0 hz0 hz1 .i64 .i64 _ _ n rfl rfl rfl rfl (by rw [hz2]; omega) (by unfold maxLen; omega) (Nat.le_refl _) ?_)
  intro w1 ho1 hg1
  have hb1 : Below w.heap.size w w1 := (Below.refl _ _).grown hg1 (Nat.le_refl _) (fun k hk => by cases hk)
  have hs1 : w.heap.size < w1.heap.size := (ho1.lt w.heap.size rfl).2
  have ht1 : w1.there w.heap.size 0 (n * 6) := fun j hj => by
    rw [Nat.zero_add]
    refine ⟨?_, ho1.frozenAt j⟩
    rw [ho1.cellAt j hj, List.getElem?_eq_getElem (by rw [ho1.1]; exact hj)]
    rfl
  have HW : Hid (Below w.heap.size w w1 ∧ w.heap.size < w1.heap.size ∧ w1.there w.heap.size 0 (n * 6) ∧ ∀ o, w1.frozen? ⟨w.heap.size, o, none⟩ = false) := ⟨hb1, hs1, ht1, fun o => ho1.frozenAt o⟩
  clear ho1 hg1 hb1 hs1 ht1
  go_wp2_with fail
  go_loopw [11] (fun t wr => CpI vs w n t wr) (fun t _ => n - (intOf t).toNat)
  case atStart => exact ⟨0, fun _ => #[], Nat.zero_le _, rfl, HW.out.1, HW.out.2.1, HW.out.2.2.1, HW.out.2.2.2, (fun j x hj => absurd hj (Nat.not_lt_zero _)), (fun j hj => absurd hj (Nat.not_lt_zero _))⟩
  case round =>
    obtain ⟨i, G, hi, rfl, hb, hs, hth, hU, hG, hC⟩ := hrel
    have HU : Hid (∀ o, wr.frozen? ⟨w.heap.size, o, none⟩ = false) := hU
    clear hU
    by_cases hlt : i < n
    · have hiI : (i : Int) < (n : Int) := by omega
      have hi0 : (0 : Int) ≤ (i : Int) := by omega
      obtain ⟨x, hx⟩ : ∃ x, vs[i]? = some x := ⟨_, List.getElem?_eq_getElem (by rw [HH.out.2.2]; exact hlt)⟩
      obtain ⟨ib, io, rfl⟩ := HH.out.1.addr (by omega)
      have hc1 := (HH.out.1.at hlt).2
      obtain ⟨k, b, m, t, nq, nl, nc, iq, il, ic, hF1⟩ := jin_form (HH.out.2.1 i x hx)
      have HCx := HC.out i x hx
      rw [hF1] at hc1 HCx
      have j1 := (jat_of hc1).below hb
      have B1 := below_new wr (.cells #[.int .u8 (k : Int), .bool b, .int .i64 m, .string t, .slice nq nl nc, .slice iq il ic] 25)
      have n1 := _root_.Go.heap_alloc_new wr (.cells #[.int .u8 (k : Int), .bool b, .int .i64 m, .string t, .slice nq nl nc, .slice iq il ic] 25)
      have BF := below_more hb B1
      have FX := HCx _ BF
      obtain ⟨z0, z1, z2, z3, z4, z5⟩ := j1
      obtain ⟨⟨r0, r1, r2, r3, r4, r5⟩, _, _, _, _, _, _⟩ := row6_cells n1
      have HF : Hid (Below w.heap.size w wr ∧ w.heap.size < wr.heap.size ∧ wr.there w.heap.size 0 (n * 6) ∧ (∀ j x, j < i → vs[j]? = some x → JIn wr (Fr (w.heap.size + 1) wr) (G j) x) ∧ (∀ j, j < i → wr.rangeAt w.heap.size (j * 6) (G j).toList) ∧ vs[i]? = some x ∧ i < n ∧
        Below wr.heap.size wr (wr.alloc (.cells #[.int .u8 (k : Int), .bool b, .int .i64 m, .string t, .slice nq nl nc, .slice iq il ic] 25))) := ⟨hb, hs, hth, hG, hC, hx, hlt, B1⟩
      unfold jA at FX
      clear hc1 hF1 HCx n1 BF hb hs hth hG hC hx hi hlt B1
      go_wp2_with (first | (go_at_call 48; refine FX.mono ?_; rintro e w3 ⟨A, rfl, hJ3, hb3⟩; have hA6 := hJ3.size; have b3 := below_more HF.out.2.2.2.2.2.2.2 hb3; have hst := cp_store HF.out.2.2.2.2.2.2.1 HF.out.2.1 HF.out.2.2.1 b3 hJ3) | fail)
      go_roundw
      case rel =>
        have hF := HF.out
        refine cp_step hF.2.2.2.2.2.1 hF.2.2.2.2.2.2.1 hF.1 hF.2.1 hF.2.2.1 HU.out hF.2.2.2.1 hF.2.2.2.2.1 (List.getElem?_eq_some_iff.1 hF.2.2.2.2.2.1).1 b3 (hJ3.wk fun b hb => ⟨Nat.le_trans (by simp) hb.1, hb.2⟩)
      case measure => have := HF.out.2.2.2.2.2.2.1; simp [intOf]; omega
    · obtain rfl : i = n := by omega
      have HF : Hid (Below w.heap.size w wr ∧ w.heap.size < wr.heap.size ∧ (∀ j x, j < i → vs[j]? = some x → JIn wr (Fr (w.heap.size + 1) wr) (G j) x) ∧ (∀ j, j < i → wr.rangeAt w.heap.size (j * 6) (G j).toList)) := ⟨hb, hs, hG, hC⟩
      clear hb hs hth hG hC hi hlt
      go_wp2
      go_ret
      refine ⟨some ⟨w.heap.size, 0, none⟩, i, G, by rw [HE.out]; rfl, by rw [HE.out]; exact Nat.le_refl _, by unfold maxLen; omega, (by intro e; cases e), ?_, ?_, HF.out.1⟩
      · intro _
        refine ⟨_, _, rfl, ⟨Nat.le_refl _, HU.out⟩, fun j hj k hk => ?_⟩
        rw [HE.out] at hj
        obtain ⟨x, hx⟩ : ∃ x, vs[j]? = some x := ⟨_, List.getElem?_eq_getElem (by rw [HE.out]; exact hj)⟩
        have hsz := (HF.out.2.2.1 j x hj hx).size
        have := HF.out.2.2.2 j hj k
        rw [Array.getElem?_eq_getElem (by omega)]
        have := this _ (by rw [Array.getElem?_toList, Array.getElem?_eq_getElem (by omega)])
        rw [Nat.zero_add]; exact this
      · intro j x hx
        have hj : j < i := by rw [← HE.out]; exact (List.getElem?_eq_some_iff.1 hx).1
        exact (HF.out.2.2.1 j x hj hx).wk fun b hb => ⟨Nat.le_trans (Nat.le_succ _) hb.1, hb.2⟩
theorem set_grown (w : World) (g i : Nat) (u : Value) : w.grownBy (w.setCell ⟨g, i, none⟩ u) (some g) := ⟨rfl, rfl, rfl, by simp, fun k _ hk => Below.heap_setCell w ⟨g, i, none⟩ u k (fun e => hk (by simp [e]))⟩
theorem jin_grown {w w' : World} {Z : Nat → Prop} {A : Array Value} {x : JB} {g : Nat} (h : JIn w Z A x) (hg : w.grownBy w' (some g)) (hz : ∀ b, Z b → b ≠ g) : JIn w' Z A x :=
  h.mono fun _ _ z hc => ⟨hg.cell hc (fun e => hz _ z (Option.some.inj e)), z⟩
theorem copied_end {k : Nat} {b : Bool} {m : Int} {t : ByteArray} {ns : List ByteArray} {vs : List JB} {q' q2 : Option Addr} {c' c2 : Nat} {G : Nat → Array Value} {w w4 w5 : World} {z0 z1 z2 z3 z4 z5 : Value} (hk : k < 256) (hm : J.Rng m)
    (h1 : ns.length ≤ c' ∧ c' ≤ maxLen ∧ (q' = none → c' = 0)) (h2 : vs.length ≤ c2 ∧ c2 ≤ maxLen ∧ (q2 = none → c2 = 0)) (hs4 : w.heap.size + 1 < w4.heap.size)
    (s5 : SsIn w5 (Fr (w.heap.size + 1 + 1) w5) q' ns) (hV : VsIn w5 (Fr w4.heap.size w5) q2 G vs.length) (hR : ∀ i x, vs[i]? = some x → JIn w5 (Fr w4.heap.size w5) (G i) x) (b5 : Below w.heap.size w w5) :
    CopP (.mk k b m t ns vs) w (.returned (.agg (jA k b m t q' ns.length c' q2 vs.length c2))) (set6 (w5.setCell ⟨w.heap.size, 5, none⟩ (.slice q2 vs.length c2)) (w.heap.size + 1) z0 z1 z2 z3 z4 z5) := by
  have g1 := grown_set w5 w.heap.size 5 (.slice q2 vs.length c2)
  have g2 := set6_grown (w5.setCell ⟨w.heap.size, 5, none⟩ (.slice q2 vs.length c2)) (w.heap.size + 1) z0 z1 z2 z3 z4 z5
  have b6 := b5.grown g1 b5.size (fun k hk => by cases hk; exact Nat.le_refl _)
  have b7 := b6.grown g2 b6.size (fun k hk => by cases hk; exact Nat.le_succ _)
  have hsz : ∀ i, i < vs.length → (G i).size = 6 := fun i hi => (hR i _ (List.getElem?_eq_getElem hi)).size
  refine ⟨_, rfl, ?_, b7⟩
  refine .mk k b m t ns vs q' q2 c' c2 G hk hm h1.1 h2.1 h1.2.1 h2.2.1 h1.2.2 h2.2.2 ?_ ?_ ?_
  · exact ss_frg (ss_frg s5 g1 (by omega) (Nat.le_refl _)) g2 (by omega) (by omega)
  · exact vs_frg (vs_frg hV hsz g1 (by omega) (Nat.le_refl _)) hsz g2 (by omega) (by omega)
  · intro i x hx
    exact jin_frg (jin_frg (hR i x hx) g1 (by omega) (Nat.le_refl _)) g2 (by omega) (by omega)
set_option maxHeartbeats 2000000 in
set_option maxRecDepth 8000 in
theorem copied_walk (k : Nat) (b : Bool) (m : Int) (t : ByteArray) (ns : List ByteArray) (vs : List JB) (nq iq : Option Addr) (nc ic : Nat) (F : Nat → Array Value) (Z : Nat → Prop) (w : World) (hk : k < 256) (hm : J.Rng m)
    (hn : SsIn w Z nq ns) (hnl : ns.length ≤ 8796093021952) (hnc : ns.length ≤ nc) (hnq : nq = none → nc = 0) (h1 : VsIn w Z iq F vs.length) (hl : vs.length ≤ 1759218604390) (hf1 : ∀ i x, vs[i]? = some x → JIn w Z (F i) x)
    (hcall : ∀ i x, vs[i]? = some x → ∀ w', Below w.heap.size w w' → Calls Tryd.prog 48 #[.agg (F i)] w' fun e w'' => CopP x w' e w'') :
    Calls Tryd.prog 48 #[.agg (jA k b m t nq ns.length nc iq vs.length ic)] w fun e w' => CopP (.mk k b m t ns vs) w e w' := by
  have B1 := below_new w (.cells (jA k b m t nq ns.length nc iq vs.length ic) 25)
  have n1 := _root_.Go.heap_alloc_new w (.cells (jA k b m t nq ns.length nc iq vs.length ic) 25)
  have B2 := below_new (w.alloc (.cells (jA k b m t nq ns.length nc iq vs.length ic) 25)) (.cells zeroA 25)
  have n2 := _root_.Go.heap_alloc_new (w.alloc (.cells (jA k b m t nq ns.length nc iq vs.length ic) 25)) (.cells zeroA 25)
  rw [World.size_alloc] at n2
  have n1' := box_below n1 B2
  have BF := below_more B1 B2
  have hZ : ∀ w', Below w.heap.size w w' → ∀ a v, Z a.block → w.cell? a = some v → w'.cell? a = some v ∧ Z a.block := fun w' hb a v z hc => ⟨below_cell hc hb, z⟩
  have CN := clone_names nq ns nc Z _ (hn.mono (hZ _ BF)) hnl hnc hnq
  have CV : Hid (∀ w', Below w.heap.size w w' → Calls Tryd.prog 51 #[.slice iq vs.length ic] w' fun e w'' => CpsP vs w' e w'') := fun w' hb =>
    copies_walk vs iq ic F Z w' (h1.mono (fun i hi => (hf1 i _ (List.getElem?_eq_getElem hi)).size) (hZ _ hb)) hl (fun i x hx => (hf1 i x hx).bel hb) (fun i x hx w2 hb2 => hcall i x hx w2 (below_more hb hb2))
  obtain ⟨⟨r0, r1, r2, r3, r4, r5⟩, f0, f1, f2, f3, f4, f5⟩ := row6_cells n1'
  unfold zeroA at BF CN n1' n2 r0 r1 r2 r3 r4 r5 f0 f1 f2 f3 f4 f5
  unfold jA at BF CN n1' n2 r0 r1 r2 r3 r4 r5 f0 f1 f2 f3 f4 f5 ⊢
  have HB : Hid (Below w.heap.size w ((w.alloc (.cells #[.int .u8 (k : Int), .bool b, .int .i64 m, .string t, .slice nq ns.length nc, .slice iq vs.length ic] 25)).alloc (.cells #[.int .u8 0, .bool false, .int .i64 0, .string ⟨#[]⟩, .slice none 0 0, .slice none 0 0] 25))) := BF
  clear B1 n1 B2 BF hZ hn h1 hf1 hcall
  go_enter Tryd.func48, Tryd.ntmps48
  go_wp2_with (first | (go_at_call 79; refine CN.mono ?_; rintro e w3 ⟨q', c', rfl, a1, a2, a3, a4, a5⟩; have G1 := box_below n1' a5; have G2 := box_below n2 a5; have HA : Hid (ns.length ≤ c' ∧ c' ≤ maxLen ∧ (q' = none → c' = 0)) := ⟨a1, a2, a3⟩; have b3 := below_more HB.out a5; clear r0 r1 r2 r3 r4 r5 f0 f1 f2 f3 f4 f5 n1' n2 a1 a2 a3; obtain ⟨⟨r0, r1, r2, r3, r4, r5⟩, f0, f1, f2, f3, f4, f5⟩ := row6_cells G1) | fail)
  have b4 := b3.setCell (p := ⟨w.heap.size, 4, none⟩) (Nat.le_refl _) (.slice q' ns.length c')
  have G3 := block_setCell (i := 4) G1 (.slice q' ns.length c')
  have G4 := (Below.heap_setCell w3 ⟨w.heap.size, 4, none⟩ (.slice q' ns.length c') (w.heap.size + 1) (by simp)).trans G2
  have g4 := set_grown w3 w.heap.size 4 (.slice q' ns.length c')
  simp only [World.size_alloc] at a4
  have s4 := ss_frg a4 g4 (by omega) (Nat.le_refl _)
  have hs3 : w.heap.size + 1 < w3.heap.size := by have := a5.size; simp only [World.size_alloc] at this; omega
  clear a4 a5 G1 G2 b3 g4 r0 r1 r2 r3 r4 r5 f0 f1 f2 f3 f4 f5
  have hs4 : w.heap.size + 1 < (w3.setCell ⟨w.heap.size, 4, none⟩ (.slice q' ns.length c')).heap.size := by simpa using hs3
  generalize w3.setCell ⟨w.heap.size, 4, none⟩ (.slice q' ns.length c') = w4 at *
  refine (CV.out w4 b4).mono ?_
  rintro e w5 ⟨q2, c2, G, rfl, a1, a2, a3, hV, hR, hb5⟩
  have HA2 : Hid (vs.length ≤ c2 ∧ c2 ≤ maxLen ∧ (q2 = none → c2 = 0)) := ⟨a1, a2, a3⟩
  have H1 := box_below G3 hb5
  have H2 := box_below G4 hb5
  have s5 : SsIn w5 (Fr (w.heap.size + 1 + 1) w5) q' ns := ss_frb s4 hb5 (Nat.le_refl _)
  have b5 := below_more b4 hb5
  clear a1 a2 a3 G3 G4 s4 hb5 b4
  obtain ⟨⟨r0, r1, r2, r3, r4, r5⟩, f0, f1, f2, f3, f4, f5⟩ := row6_cells H1
  obtain ⟨⟨x0, x1, x2, x3, x4, x5⟩, g0, g1, g2, g3, g4, g5⟩ := row6_cells H2
  simp only []
  have H2' := (Below.heap_setCell w5 ⟨w.heap.size, 5, none⟩ (.slice q2 vs.length c2) (w.heap.size + 1) (by simp)).trans H2
  clear H1 H2
  go_wp2_with fail
  refine bodyPost_ret (results_cell_row rfl _ _ (w.heap.size + 1) 25 (jA k b m t q' ns.length c' q2 vs.length c2) (0, 0) _ rfl (set6_heap' H2' _ _ _ _ _ _) Tryd.underlying25 rfl size_json) rfl ?_
  exact copied_end hk hm HA.out HA2.out hs4 s5 hV hR b5
theorem copied_any {x : JB} (hf : Few x) : ∀ (A : Array Value) (Z : Nat → Prop) (w : World), JIn w Z A x → Calls Tryd.prog 48 #[.agg A] w fun e w' => CopP x w e w' := by
  induction hf with
  | mk k b n t ns vs hn hv hr ih =>
    intro A Z w hA
    generalize hq : JB.mk k b n t ns vs = v at hA
    cases hA with
    | mk k' b' n' t' ns' vs' nq iq nc ic F hk hn' hnc hic hnm him hnq hiq hN hI hR =>
      cases hq
      exact copied_walk k b n t ns vs nq iq nc ic F Z w hk hn' hN hn hnc hnq hI hv hR (fun i x hx w' hb => ih i x hx (F i) Z w' ((hR i x hx).bel hb))
theorem copies_any {vs : List JB} (hv : vs.length ≤ 1759218604390) (hr : ∀ (i : Nat) (x : JB), vs[i]? = some x → Few x) (q : Option Addr) (c : Nat) (F : Nat → Array Value) (Z : Nat → Prop) (w : World) (h : VsIn w Z q F vs.length) (hf : ∀ i x, vs[i]? = some x → JIn w Z (F i) x) :
    Calls Tryd.prog 51 #[.slice q vs.length c] w fun e w' => CpsP vs w e w' :=
  copies_walk vs q c F Z w h hv hf fun i x hx w' hb => copied_any (hr i x hx) (F i) Z w' ((hf i x hx).bel hb)
end Go.Proofs.YtcfalgomcdmdhaaDoor
namespace Go.Proofs.YtcfalgomcdmdhaaDoor
open Go.RowKit Go.WideShapes Go.Joins
def getI (ns : List ByteArray) (n : Nat) (name : ByteArray) : Int := Lib.idxOfS (ns.take (min ns.length n)) name
def getB (x : JB) (name : ByteArray) : Option JB := if x.kind = 6 ∧ 0 ≤ getI x.names x.items.length name then x.items[(getI x.names x.items.length name).toNat]? else none
structure GetP (r : Option JB) (w : World) (e : Ending) (w' : World) : Prop where
  ex : ∃ A, e = .returned (.tuple #[.agg A, .bool r.isSome]) ∧ JIn w' (Fr w.heap.size w') A (r.getD zeroB) ∧ Below w.heap.size w w'
theorem index_names (q : Option Addr) (ns : List ByteArray) (M c : Nat) (name : ByteArray) (Z : Nat → Prop) (w : World) (h : SsIn w Z q ns) (hl : ns.length ≤ 8796093021952) (hM : M ≤ ns.length) :
    Calls Tryd.prog 47 #[.slice q M c, .string name] w fun e w' => e = .returned (.int .i64 (Lib.idxOfS (ns.take M) name)) ∧ Below w.heap.size w w' := by
  by_cases h0 : M = 0
  · subst h0
    refine (Any.slices_Index_string_empty lays109 q c name w).mono ?_
    rintro e w' ⟨rfl, rfl⟩
    exact ⟨by rw [List.take_zero], Below.refl _ _⟩
  · obtain ⟨b, o, rfl⟩ := h.addr (by omega)
    refine (Any.slices_Index_string lays109 b o M c ns name w hM (by omega) (fun j hj => h.at hj)).mono ?_
    rintro e w' ⟨rfl, rfl⟩
    exact ⟨rfl, Below.refl _ _⟩
theorem results_cell_row2 {fn : Func} {p u : Tmp} {ty : TypeId} (h : fn.results = #[.cell p ty, .tmp u]) (tmps : Array Value) (P : Program) (w : World) (g : Nat) (t : TypeId) (cs : Array Value) (fr : Nat × Nat) (d : TypeDesc)
    (hp : tmps.getD p undef = .pointer (some ⟨g, 0, none⟩)) (hg : w.heap[g]? = some (.cells cs t fr))
    (hd : (match d with | .struct _ | .array _ _ => true | _ => false) = true) (hu : P.underlying ty = some d) (hi : (P.info? ty).map (·.size) = some cs.size) :
    (results fn tmps).run P w = .ok (.tuple #[.agg cs, tmps.getD u undef]) w := by
  have hp' : tmps[p]?.getD undef = .pointer (some ⟨g, 0, none⟩) := by simpa using hp
  simp [results, h, hp', asAddr, run_loadVar_row w g t ty cs fr d hg hu (by cases d <;> exact hd) hi, Result.andThen]
theorem first_at (P : Nat → Prop) : ∀ n, P n → ∃ k, k ≤ n ∧ P k ∧ ∀ j, j < k → ¬ P j := by
  intro n
  induction n using Nat.strongRecOn with
  | ind n ih =>
    intro h
    by_cases e : ∃ j, j < n ∧ P j
    · obtain ⟨j, hj, hp⟩ := e
      obtain ⟨k, hk, r⟩ := ih j hj hp
      exact ⟨k, by omega, r⟩
    · exact ⟨n, Nat.le_refl _, h, fun j hj hp => e ⟨j, hj, hp⟩⟩
theorem idx_at {l : List ByteArray} {x : ByteArray} (h : 0 ≤ Lib.idxOfS l x) : ∃ k, k < l.length ∧ Lib.idxOfS l x = (k : Int) ∧ l.getD k ByteArray.empty = x ∧ ∀ j, j < k → l.getD j ByteArray.empty ≠ x := by
  obtain ⟨i, hi, rfl⟩ := List.getElem_of_mem ((Lib.idxOfS_nonneg_iff l x).1 h)
  have hg : ∀ j, j < l.length → l.getD j ByteArray.empty = l[j]! := fun j hj => by rw [List.getD_eq_getElem?_getD, List.getElem?_eq_getElem hj, getElem!_pos l j hj]; rfl
  have hP : l.getD i ByteArray.empty = l[i] := by rw [List.getD_eq_getElem?_getD, List.getElem?_eq_getElem hi]; rfl
  obtain ⟨k, hk, hk2, hk3⟩ := first_at (fun j => l.getD j ByteArray.empty = l[i]) i hP
  refine ⟨k, by omega, ?_, hk2, hk3⟩
  have := Lib.idxOfS_hit l l.length k l[i] (by omega) (Nat.le_refl _) hk2 hk3
  rwa [List.take_length] at this
theorem get_some {k j : Nat} {b : Bool} {m : Int} {t : ByteArray} {ns : List ByteArray} {vs : List JB} {name : ByteArray} {x : JB} (h : k = 6) (e : getI ns vs.length name = (j : Int)) (hx : vs[j]? = some x) : getB (.mk k b m t ns vs) name = some x := by
  unfold getB
  rw [if_pos ⟨h, by show 0 ≤ getI ns vs.length name; rw [e]; omega⟩]
  show vs[(getI ns vs.length name).toNat]? = some x
  rw [e, Int.toNat_natCast]; exact hx
theorem get_none {k : Nat} {b : Bool} {m : Int} {t : ByteArray} {ns : List ByteArray} {vs : List JB} {name : ByteArray} (h : k ≠ 6 ∨ ¬ 0 ≤ getI ns vs.length name) : getB (.mk k b m t ns vs) name = none := by
  unfold getB
  rw [if_neg]
  intro hh
  rcases h with h | h
  · exact h hh.1
  · exact h hh.2
theorem get_end {w w3 w4 : World} {A : Array Value} {x : JB} {z0 z1 z2 z3 z4 z5 : Value} (hJ : JIn w4 (Fr w3.heap.size w4) A x) (b4 : Below w.heap.size w w4) (h3 : w.heap.size + 1 < w3.heap.size) :
    GetP (some x) w (.returned (.tuple #[.agg A, .bool true])) (set6 w4 (w.heap.size + 1) z0 z1 z2 z3 z4 z5) := by
  have g6 := set6_grown w4 (w.heap.size + 1) z0 z1 z2 z3 z4 z5
  exact ⟨A, rfl, jin_frg hJ g6 (by omega) (by omega), b4.grown g6 b4.size (fun k hk => by cases hk; exact Nat.le_succ _)⟩
theorem get_zero {w w3 w4 : World} (b3 : Below w.heap.size w w3) (g : w3.grownBy w4 (some (w.heap.size + 1))) : GetP none w (.returned (.tuple #[.agg zeroA, .bool false])) w4 :=
  ⟨_, rfl, jin_flat _ _ 0 false 0 ⟨#[]⟩ (by decide) rng_zero, b3.grown g b3.size (fun k hk => by cases hk; exact Nat.le_succ _)⟩
set_option maxHeartbeats 2000000 in
set_option maxRecDepth 8000 in
theorem get_walk (k : Nat) (b : Bool) (m : Int) (t : ByteArray) (ns : List ByteArray) (vs : List JB) (nq iq : Option Addr) (nc ic : Nat) (F : Nat → Array Value) (Z : Nat → Prop) (name : ByteArray) (w : World)
    (hn : SsIn w Z nq ns) (hnl : ns.length ≤ 8796093021952) (hnc : ns.length ≤ nc) (h1 : VsIn w Z iq F vs.length) (hl : vs.length ≤ 1759218604390) (hf1 : ∀ i x, vs[i]? = some x → JIn w Z (F i) x)
    (hfew : ∀ (i : Nat) (x : JB), vs[i]? = some x → Few x) :
    Calls Tryd.prog 24 #[.agg (jA k b m t nq ns.length nc iq vs.length ic), .string name] w fun e w' => GetP (getB (.mk k b m t ns vs) name) w e w' := by
  have B1 := below_new w (.cells (jA k b m t nq ns.length nc iq vs.length ic) 25)
  have n1 := _root_.Go.heap_alloc_new w (.cells (jA k b m t nq ns.length nc iq vs.length ic) 25)
  have B2 := below_new (w.alloc (.cells (jA k b m t nq ns.length nc iq vs.length ic) 25)) (.cells zeroA 25)
  have n2 := _root_.Go.heap_alloc_new (w.alloc (.cells (jA k b m t nq ns.length nc iq vs.length ic) 25)) (.cells zeroA 25)
  rw [World.size_alloc] at n2
  have n1' := box_below n1 B2
  have BF := below_more B1 B2
  have hZ : ∀ w', Below w.heap.size w w' → ∀ a v, Z a.block → w.cell? a = some v → w'.cell? a = some v ∧ Z a.block := fun w' hb a v z hc => ⟨below_cell hc hb, z⟩
  obtain ⟨M, hM⟩ : ∃ M, min ns.length vs.length = M := ⟨_, rfl⟩
  have IX : Hid (∀ w', Below w.heap.size w w' → Calls Tryd.prog 47 #[.slice nq M nc, .string name] w' fun e w'' => e = .returned (.int .i64 (Lib.idxOfS (ns.take M) name)) ∧ Below w'.heap.size w' w'') := fun w' hb =>
    index_names nq ns M nc name Z w' (hn.mono (hZ _ hb)) hnl (by omega)
  have CV : Hid (∀ i x, vs[i]? = some x → ∀ w', Below w.heap.size w w' → Calls Tryd.prog 48 #[.agg (F i)] w' fun e w'' => CopP x w' e w'') := fun i x hx w' hb => copied_any (hfew i x hx) (F i) Z w' ((hf1 i x hx).bel hb)
  obtain ⟨⟨r0, r1, r2, r3, r4, r5⟩, f0, f1, f2, f3, f4, f5⟩ := row6_cells n1'
  obtain ⟨⟨x0, x1, x2, x3, x4, x5⟩, g0, g1, g2, g3, g4, g5⟩ := row6_cells n2
  unfold zeroA at BF n1' n2 r0 r1 r2 r3 r4 r5 f0 f1 f2 f3 f4 f5 x0 x1 x2 x3 x4 x5 g0 g1 g2 g3 g4 g5
  unfold jA at BF n1' n2 r0 r1 r2 r3 r4 r5 f0 f1 f2 f3 f4 f5 x0 x1 x2 x3 x4 x5 g0 g1 g2 g3 g4 g5 ⊢
  have HB : Hid (Below w.heap.size w ((w.alloc (.cells #[.int .u8 (k : Int), .bool b, .int .i64 m, .string t, .slice nq ns.length nc, .slice iq vs.length ic] 25)).alloc (.cells #[.int .u8 0, .bool false, .int .i64 0, .string ⟨#[]⟩, .slice none 0 0, .slice none 0 0] 25))) := BF
  have HN : Hid (_ = _) := n2
  by_cases h6 : k = 6
  · have k6 : ((k : Int) != 6) = false := by rw [h6]; rfl
    have HK : Hid (k = 6) := h6
    have eM : (min (ns.length : Int) (vs.length : Int)).toNat = M := by omega
    have HM : Hid (min ns.length vs.length = M ∧ VsIn w Z iq F vs.length ∧ (∀ i x, vs[i]? = some x → JIn w Z (F i) x)) := ⟨hM, h1, hf1⟩
    clear hM B1 n1 B2 BF hZ hn h1 hf1 hfew h6 x0 x1 x2 x3 x4 x5 g0 g1 g2 g3 g4 g5
    go_enter Tryd.func24, Tryd.ntmps24
    go_wp2_with fail
    refine (IX.out _ HB.out).mono ?_
    rintro e w3 ⟨rfl, b3⟩
    have N3 := box_below n1' b3
    have M3 := box_below n2 b3
    have B3 := below_more HB.out b3
    clear IX HB n1' n2 r0 r1 r2 r3 r4 r5 f0 f1 f2 f3 f4 f5 b3
    by_cases hI : 0 ≤ Lib.idxOfS (ns.take M) name
    · obtain ⟨j, hj, hjI, _, _⟩ := idx_at hI
      have hjM : j < M := by rw [List.length_take] at hj; omega
      have hjv : j < vs.length := by have := HM.out.1; omega
      have hj1 : (j : Int) < (vs.length : Int) := by omega
      have hj0 : (0 : Int) ≤ (j : Int) := by omega
      have hjn : ¬ (j : Int) < 0 := by omega
      obtain ⟨x, hx⟩ : ∃ x, vs[j]? = some x := ⟨_, List.getElem?_eq_getElem hjv⟩
      have HG : Hid (getB (.mk k b m t ns vs) name = some x) := by
        exact get_some HK.out (by unfold getI; rw [HM.out.1]; exact hjI) hx
      obtain ⟨ib, io, rfl⟩ := HM.out.2.1.addr (by omega)
      have hc1 := (HM.out.2.1.at hjv).2
      obtain ⟨k2, b2, m2, t2, nq2, nl2, nc2, iq2, il2, ic2, hF1⟩ := jin_form (HM.out.2.2 j x hx)
      have FX := CV.out j x hx w3 B3
      rw [hF1] at hc1 FX
      obtain ⟨z0, z1, z2, z3, z4, z5⟩ := (jat_of hc1).below B3
      obtain ⟨⟨r0, r1, r2, r3, r4, r5⟩, _, _, _, _, _, _⟩ := row6_cells N3
      rw [hjI]
      unfold jA at FX
      clear hI hj hjI hjM hjv hc1 hF1 CV hx
      simp only []
      go_wp2_with fail
      refine FX.mono ?_
      rintro e w4 ⟨A, rfl, hJ, b4⟩
      have M4 := box_below M3 b4
      obtain ⟨⟨x0, x1, x2, x3, x4, x5⟩, g0, g1, g2, g3, g4, g5⟩ := row6_cells M4
      obtain ⟨k3, b3, m3, t3, nq3, nl3, nc3, iq3, il3, ic3, rfl⟩ := jin_form hJ
      unfold jA
      have HJ : Hid (JIn w4 (Fr w3.heap.size w4) (jA k3 b3 m3 t3 nq3 nl3 nc3 iq3 il3 ic3) x ∧ Below w.heap.size w w4 ∧ w.heap.size + 1 < w3.heap.size) := by
        refine ⟨hJ, below_more B3 b4, ?_⟩
        rcases Nat.lt_or_ge (w.heap.size + 1) w3.heap.size with h' | h'
        · exact h'
        · rw [Array.getElem?_eq_none h'] at M3; cases M3
      clear hJ b4 B3 N3 M3 r0 r1 r2 r3 r4 r5 z0 z1 z2 z3 z4 z5 FX
      simp only []
      go_wp2_with fail
      refine bodyPost_ret (results_cell_row2 rfl _ _ _ (w.heap.size + 1) 25 (jA k3 b3 m3 t3 nq3 nl3 nc3 iq3 il3 ic3) (0, 0) _ rfl (set6_heap' M4 _ _ _ _ _ _) rfl Tryd.underlying25 size_json) rfl ?_
      rw [HG.out]
      exact get_end HJ.out.1 HJ.out.2.1 HJ.out.2.2
    · have HG := get_none (k := k) (b := b) (m := m) (t := t) (vs := vs) (ns := ns) (name := name) (.inr (by unfold getI; rw [HM.out.1]; exact hI))
      have HG2 : Hid (getB (.mk k b m t ns vs) name = none) := HG
      have hI2 : Lib.idxOfS (ns.take M) name < 0 := by omega
      have M4 : Hid (w3.heap[w.heap.size + 1]? = some (.cells #[.int .u8 0, .bool false, .int .i64 0, .string ⟨#[]⟩, .slice none 0 0, .slice none 0 0] 25 (0, 0))) := M3
      have HB3 : Hid (Below w.heap.size w w3) := B3
      obtain ⟨⟨x0, x1, x2, x3, x4, x5⟩, g0, g1, g2, g3, g4, g5⟩ := row6_cells M3
      generalize Lib.idxOfS (ns.take M) name = I at hI2
      clear hI HG N3 M3 B3 CV
      simp only []
      go_wp2_with fail
      refine bodyPost_ret (results_cell_row2 rfl _ _ _ (w.heap.size + 1) 25 zeroA (0, 0) _ rfl (set6_heap' M4.out _ _ _ _ _ _) rfl Tryd.underlying25 size_json) rfl ?_
      rw [HG2.out]
      exact get_zero HB3.out (set6_grown _ _ _ _ _ _ _ _)
  · have k6 : ((k : Int) != 6) = true := by simp; omega
    have HK : Hid (k ≠ 6) := h6
    clear B1 n1 B2 n1' n2 BF hZ hn h1 hf1 hfew h6 IX CV
    go_enter Tryd.func24, Tryd.ntmps24
    go_wp2_with fail
    refine bodyPost_ret (results_cell_row2 rfl _ _ _ (w.heap.size + 1) 25 zeroA (0, 0) _ rfl HN.out rfl Tryd.underlying25 size_json) rfl ?_
    rw [get_none (.inl HK.out)]
    exact ⟨_, rfl, jin_flat _ _ 0 false 0 ⟨#[]⟩ (by decide) rng_zero, HB.out⟩
theorem Get_any {x : JB} (hf : Few x) (A : Array Value) (Z : Nat → Prop) (name : ByteArray) (w : World) (hJ : JIn w Z A x) :
    Calls Tryd.prog 24 #[.agg A, .string name] w fun e w' => GetP (getB x name) w e w' := by
  cases hf with
  | mk k b n t ns vs hn hv hr =>
    generalize hq : JB.mk k b n t ns vs = v at hJ
    cases hJ with
    | mk k' b' n' t' ns' vs' nq iq nc ic F hk hn' hnc hic hnm him hnq hiq hN hI hR =>
      cases hq
      exact get_walk k b n t ns vs nq iq nc ic F Z name w hN hn hnc hI hv hR hr
end Go.Proofs.YtcfalgomcdmdhaaDoor
namespace Go.Proofs.YtcfalgomcdmdhaaDoor
open Go.RowKit Go.WideShapes Go.Joins
theorem eql_nilJ (w : World) (a : Option Addr) (n c n' c' : Nat) : (binOp .eql 23 (.slice a n c) (.slice none n' c')).run Tryd.prog w = .ok (.bool a.isNone) w := Lib.run_eql_slice_nil w _ _ a n c n' c' Tryd.underlying23
theorem clone_namesO (q : Option Addr) (ns : List ByteArray) (c : Nat) (Z : Nat → Prop) (w : World) (h : SsIn w Z q ns) (hl : ns.length ≤ 100000) :
    Calls Tryd.prog 79 #[.slice q ns.length c] w fun e w' => ∃ v, e = .returned v ∧ NmOwn w' w.heap.size v ns ∧ Below w.heap.size w w' := by
  by_cases h0 : ns.length = 0
  · have hn : ns = [] := List.length_eq_zero_iff.1 h0
    subst hn
    cases q with
    | none =>
      refine (Any.slices_Clone_string_nil lays16 _ c w).mono ?_
      rintro e w' ⟨rfl, rfl⟩
      exact ⟨_, rfl, nm_nil _ _, Below.refl _ _⟩
    | some a =>
      refine (Any.slices_Clone_string_zero lays16 a c w).mono ?_
      rintro e w' ⟨v, rfl, ho, _, hb⟩
      exact ⟨v, rfl, ho, hb⟩
  · obtain ⟨b, o, rfl⟩ := h.addr (by omega)
    refine (Any.slices_Clone_string lays16 b o ns.length c ns w (Nat.le_refl _) (by omega) (fun j hj => h.at hj)).mono ?_
    rintro e w' ⟨v, rfl, ho, _, hb⟩
    rw [List.take_length] at ho
    exact ⟨v, rfl, ho, hb⟩
def asF (F : Nat → Array Value) (n : Nat) : List (Array Value) := (List.range n).map F
theorem asF_len (F : Nat → Array Value) (n : Nat) : (asF F n).length = n := by simp [asF]
theorem asF_at {F : Nat → Array Value} {n i : Nat} (h : i < n) : (asF F n)[i]? = some (F i) := by simp [asF, List.getElem?_range h]
theorem asF_sz {F : Nat → Array Value} {n : Nat} (h : ∀ i, i < n → (F i).size = 6) : ∀ A ∈ asF F n, A.size = 6 := by
  intro A hA
  obtain ⟨i, hi, rfl⟩ := List.mem_map.1 hA
  exact h i (List.mem_range.1 hi)
theorem asF_cell {w : World} {Z : Nat → Prop} {b o n : Nat} {F : Nat → Array Value} (h : VsIn w Z (some ⟨b, o, none⟩) F n) (hs : ∀ i, i < n → (F i).size = 6) : ∀ j u, (cellsA (asF F n))[j]? = some u → w.cell? ((⟨b, o, none⟩ : Addr).add j) = some u := by
  intro j u hj
  have hlt : j < n * 6 := by
    have := (List.getElem?_eq_some_iff.1 hj).1
    rwa [cellsA_len (asF_sz hs), asF_len] at this
  have hi : j / 6 < n := by omega
  have hk : j % 6 < 6 := Nat.mod_lt _ (by omega)
  have e : j = j / 6 * 6 + j % 6 := by omega
  rw [e, cellsA_at (asF_sz hs) (by rw [asF_len]; exact hi) hk, List.getD_eq_getElem?_getD, asF_at hi] at hj
  rw [Addr.add_mid, e, ← Nat.add_assoc]
  rw [(h.at hi).2 _ hk]
  exact hj
set_option maxHeartbeats 1000000 in
set_option maxRecDepth 8000 in
theorem clone_items (q : Option Addr) (n c : Nat) (F : Nat → Array Value) (Z : Nat → Prop) (w : World) (h : VsIn w Z q F n) (hs : ∀ i, i < n → (F i).size = 6) (h1c : ∀ i, i < n → ∀ v ∈ (F i).toList, v.oneCell' = true) (hl : n ≤ 100000) (hc : n ≤ c) (hq : q = none → c = 0) :
    Calls Tryd.prog 81 #[.slice q n c] w fun e w' => ∃ v, e = .returned v ∧ ItOwn w' w.heap.size v (asF F n) ∧ Below w.heap.size w w' := by
  have HH : Hid (VsIn w Z q F n ∧ (∀ i, i < n → (F i).size = 6) ∧ (∀ i, i < n → ∀ v ∈ (F i).toList, v.oneCell' = true) ∧ n ≤ 100000 ∧ n ≤ c ∧ (q = none → c = 0)) := ⟨h, hs, h1c, hl, hc, hq⟩
  obtain ⟨i0, hi0, hz0, hz1, hz2⟩ := info_parts' info_json
  have q23 := eql_nilJ
  clear h hs h1c hl hc hq
  go_enter Tryd.func81, Tryd.ntmps81
  cases q with
  | none =>
    have HL : Hid (n = 0) := by have := HH.out.2.2.2.2.2 rfl; have := HH.out.2.2.2.2.1; show n = 0; omega
    go_wp2
    go_ret
    refine ⟨_, rfl, ?_, Below.refl _ _⟩
    rw [HL.out]
    exact it_nil _ _
  | some ad =>
    have HB : Hid (Below w.heap.size w (w.alloc (.cells #[] 25))) := (Below.refl _ _).alloc (Nat.le_refl _) _
    go_wp2_with (at_builtin; refine wpList_append_own _ rfl _ _ 23 rfl w.heap.size 25 i0 _ 6 80 Tryd.underlying23 hi0 hz0 hz1 hz2 rfl (by decide) _ _ _ rfl (World.ownsRow_made w #[] 0 (Nat.le_refl _) (Nat.zero_le _) rfl) ad n c (cellsA (asF F n)) rfl ?qc1 ?qc2 ?qc3 ?qc4 ?qc5 HB.out.size ?_)
    case qc1 => rw [cellsA_len (asF_sz HH.out.2.1), asF_len]
    case qc2 =>
      intro j u hj
      by_cases h0 : n = 0
      · rw [h0] at hj; simp [asF, cellsA] at hj
      · obtain ⟨b, o, e⟩ := HH.out.1.addr (by omega)
        cases e
        exact below_cell (asF_cell HH.out.1 HH.out.2.1 j u hj) HB.out
    case qc3 =>
      intro u hu
      obtain ⟨A, hA, hu⟩ := List.mem_flatMap.1 hu
      obtain ⟨i, hi, rfl⟩ := List.mem_map.1 hA
      exact HH.out.2.2.1 i (List.mem_range.1 hi) u hu
    case qc4 => have := HH.out.2.2.2.1; unfold maxLen; omega
    case qc5 => have := HH.out.2.2.2.1; omega
    intro v' w1 hown hgrow _
    go_wp2
    go_ret
    refine ⟨v', rfl, ⟨asF_sz HH.out.2.1, ?_⟩, ?_⟩
    · rw [asF_len]; simpa using hown
    · exact HB.out.grown hgrow HB.out.size (fun k hk => by simp [Value.ownBlock] at hk; omega)
def withB (ns : List ByteArray) (vs : List JB) (name : ByteArray) (x : JB) : JB :=
  if 0 ≤ Lib.idxOfS ns name then .mk 6 false 0 ⟨#[]⟩ ns (vs.set (Lib.idxOfS ns name).toNat x) else .mk 6 false 0 ⟨#[]⟩ (ns ++ [name]) (vs ++ [x])
structure WithP (y : JB) (w : World) (e : Ending) (w' : World) : Prop where
  ex : ∃ A, e = .returned (.agg A) ∧ JIn w' Anyw A y ∧ Below w.heap.size w w'
theorem heap_setCells_ne (g i : Nat) (hne : i ≠ g) : ∀ (vs : List Value) (o : Nat) (w : World), (w.setCells g o vs).heap[i]? = w.heap[i]?
  | [], _, _ => rfl
  | v :: r, o, w => (heap_setCells_ne g i hne r (o + 1) (w.setCell ⟨g, o, none⟩ v)).trans (Below.heap_setCell w ⟨g, o, none⟩ v i hne)
theorem jin_old {w w' : World} {Z : Nat → Prop} {A : Array Value} {x : JB} {g o : Nat} {cs : List Value} (h : JIn w Z A x) (hb : Below w.heap.size w w') (hg : w.heap.size ≤ g) : JIn (w'.setCells g o cs) (fun b => b < w.heap.size) A x :=
  h.lt.mono fun a _ z hc => ⟨(World.cell?_setCells_out g cs o w' a (fun e _ => by have := z.2; omega)).trans (below_cell hc hb), z.2⟩
theorem with_set {w w3 : World} {Ws w1s g2 j c1 c2 : Nat} {q1 : Option Addr} {ns : List ByteArray} {vs : List JB} {F : Nat → Array Value} {Z ZB : Nat → Prop} {B : Array Value} {x : JB}
    (hx : JIn w ZB B x) (hf : ∀ i y, vs[i]? = some y → JIn w Z (F i) y) (S3 : SsIn w3 (fun b => Ws ≤ b ∧ b < w1s) q1 ns) (I3 : ItOwn w3 w1s (.slice (some ⟨g2, 0, none⟩) vs.length c2) (asF F vs.length)) (hj : j < vs.length) (b3 : Below w.heap.size w w3)
    (hW : w.heap.size + 1 + 1 < Ws) (h1 : Ws ≤ w1s) (a1 : ns.length ≤ c1) (a2 : c1 ≤ maxLen) (a3 : q1 = none → c1 = 0) (a4 : vs.length ≤ c2) (a5 : c2 ≤ maxLen) :
    JIn (w3.setCells g2 (j * 6) B.toList) (fun b => b ≠ w.heap.size + 1 + 1) (jA 6 false 0 ⟨#[]⟩ q1 ns.length c1 (some ⟨g2, 0, none⟩) vs.length c2) (.mk 6 false 0 ⟨#[]⟩ ns (vs.set j x)) ∧ Below w.heap.size w (w3.setCells g2 (j * 6) B.toList) ∧ g2 ≠ w.heap.size + 1 + 1 := by
  have hsz : ∀ i, i < vs.length → (F i).size = 6 := fun i hi => (hf i _ (List.getElem?_eq_getElem hi)).size
  have hB6 : B.toList.length = 6 := by rw [Array.length_toList]; exact hx.size
  have ho := I3.own
  rw [asF_len] at ho
  have hg2 : w1s ≤ g2 := (ho.lt g2 rfl).1
  have hth : w3.there g2 (j * 6) B.toList.length := fun i hi => by
    rw [hB6] at hi
    refine ⟨?_, ho.frozenAt _⟩
    rw [ho.cellAt _ (by omega), List.getElem?_eq_getElem (by rw [ho.1]; omega)]
    rfl
  refine ⟨?_, below_setCells (by omega) _ _ b3, by omega⟩
  have key := JIn.mk (w := w3.setCells g2 (j * 6) B.toList) (Z := fun b => b ≠ w.heap.size + 1 + 1) 6 false 0 ⟨#[]⟩ ns (vs.set j x) q1 (some ⟨g2, 0, none⟩) c1 c2 (fun i => if i = j then B else F i) (by decide) rng_zero a1 (by rw [List.length_set]; exact a4) a2 a5 a3 (fun e => by cases e)
    (S3.mono fun a _ z hc => ⟨(World.cell?_setCells_out g2 _ _ w3 a (fun e _ => by have := z.2; omega)).trans hc, by have := z.1; omega⟩)
    (fun _ => ⟨g2, 0, rfl, by omega, fun i hi k hk => by
      rw [List.length_set] at hi
      rw [Nat.zero_add]
      by_cases e : i = j
      · subst e
        show _ = (if i = i then B else F i)[k]?
        rw [if_pos rfl]
        have := World.rangeAt_setCells_same w3 g2 (i * 6) B.toList hth k
        have hkb : k < B.size := by rw [hx.size]; exact hk
        rw [Array.getElem?_eq_getElem hkb]
        exact this _ (by rw [Array.getElem?_toList, Array.getElem?_eq_getElem hkb])
      · simp only [if_neg e]
        rw [World.cell?_setCells_out g2 _ _ w3 _ (fun _ _ => by rw [hB6]; show i * 6 + k < j * 6 ∨ j * 6 + 6 ≤ i * 6 + k; omega)]
        have hc := (I3.vs.at (i := i) (by rw [asF_len]; exact hi)).2 k hk
        rw [Nat.zero_add] at hc
        rw [hc]
        simp only [List.getD_eq_getElem?_getD, asF_at hi]
        rfl⟩)
    (fun i y hy => by
      by_cases e : i = j
      · subst e
        rw [List.getElem?_set_self hj] at hy
        cases hy
        show JIn _ _ (if i = i then B else F i) x
        rw [if_pos rfl]
        exact (jin_old hx b3 (by omega)).wk fun b hb => by omega
      · simp only [if_neg e]
        rw [List.getElem?_set_ne (fun h => e h.symm)] at hy
        exact (jin_old (hf i y hy) b3 (by omega)).wk fun b hb => by omega)
  rw [List.length_set] at key
  exact key
theorem with_end {w w4 wF : World} {A : Array Value} {y : JB} (hJ : JIn w4 (fun b => b ≠ w.heap.size + 1 + 1) A y) (b4 : Below w.heap.size w w4) (g : w4.grownBy wF (some (w.heap.size + 1 + 1))) : WithP y w (.returned (.agg A)) wF :=
  ⟨A, rfl, (jin_grown hJ g (fun _ hb => hb)).any, b4.grown g b4.size (fun k hk => by cases hk; omega)⟩
theorem it_base {w : World} {b b' : Nat} {v : Value} {As : List (Array Value)} (h : ItOwn w b v As) (hb : b' ≤ b) : ItOwn w b' v As := by
  refine ⟨h.sz, h.own.1, ?_⟩
  rcases h.own.2 with h' | ⟨g, cap, cur, h1, h2, h3⟩
  · exact .inl h'
  · exact .inr ⟨g, cap, cur, h1, Nat.le_trans hb h2, h3⟩
structure Wth (w : World) (b0 : Nat) (P R : Obj) (v1 : Value) (l1 : List ByteArray) (v2 : Value) (As : List (Array Value)) (wr : World) : Prop where
  bel : Below w.heap.size w wr
  box : wr.heap[w.heap.size + 1]? = some P
  res : wr.heap[w.heap.size + 1 + 1]? = some R
  nm : NmOwn wr b0 v1 l1
  it : ItOwn wr b0 v2 As
  ne : v1.ownBlock = none ∨ v1.ownBlock ≠ v2.ownBlock
  lt : w.heap.size + 1 + 1 < b0
  sz : b0 ≤ wr.heap.size
variable {w wr : World} {b0 : Nat} {P R : Obj} {v1 v2 : Value} {l1 : List ByteArray} {As : List (Array Value)}
theorem heap_lt {w : World} {g : Nat} {o : Obj} (h : w.heap[g]? = some o) : g < w.heap.size := by
  rcases Nat.lt_or_ge g w.heap.size with h' | h'
  · exact h'
  · rw [Array.getElem?_eq_none h'] at h; cases h
theorem Wth.more (h : Wth w b0 P R v1 l1 v2 As wr) {w' : World} (hb : Below wr.heap.size wr w') : Wth w b0 P R v1 l1 v2 As w' :=
  ⟨below_more h.bel hb, box_below h.box hb, box_below h.res hb, h.nm.kept (grown_below hb none) (by cases h' : v1.ownBlock with | none => exact .inl rfl | some a => exact .inr (by intro e; cases e)),
    h.it.kept (grown_below hb none) (by cases h' : v2.ownBlock with | none => exact .inl rfl | some a => exact .inr (by intro e; cases e)), h.ne, h.lt, Nat.le_trans h.sz hb.size⟩
theorem Wth.al (h : Wth w b0 P R v1 l1 v2 As wr) (o : Obj) : Wth w b0 P R v1 l1 v2 As (wr.alloc o) := h.more (below_new wr o)
theorem Wth.dr (h : Wth w b0 P R v1 l1 v2 As wr) : Wth w b0 P R v1 l1 v2 As wr.drew := h.more (Below.refl _ _).drew
theorem Wth.own1 (h : Wth w b0 P R v1 l1 v2 As wr) : wr.ownsRow b0 9 1 v1 l1.length (l1.map Value.string) := h.nm
theorem Wth.own2 {F : Nat → Array Value} {n : Nat} (h : Wth w b0 P R v1 l1 v2 (asF F n) wr) : wr.ownsRow b0 25 6 v2 n (cellsA (asF F n)) := by have := h.it.own; rwa [asF_len] at this
theorem Wth.b1 (h : Wth w b0 P R v1 l1 v2 As wr) {g : Nat} (e : v1.ownBlock = some g) : b0 ≤ g ∧ g < wr.heap.size := h.nm.lt g e
theorem Wth.b2 (h : Wth w b0 P R v1 l1 v2 As wr) {g : Nat} (e : v2.ownBlock = some g) : b0 ≤ g ∧ g < wr.heap.size := h.it.own.lt g e
theorem Wth.app1 (h : Wth w b0 P R v1 l1 v2 As wr) {g m c : Nat} {l' : List ByteArray} {w' : World} (ho : NmOwn w' b0 (.slice (some ⟨g, 0, none⟩) m c) l') (hg : wr.grownBy w' v1.ownBlock) (he : v1.ownBlock = some g ∨ g = wr.heap.size) : Wth w b0 P R (.slice (some ⟨g, 0, none⟩) m c) l' v2 As w' := by
  have hlt := h.lt
  have hsz := h.sz
  refine ⟨h.bel.grown hg h.bel.size (fun k hk => by have := h.b1 hk; omega), (hg.block _ (heap_lt h.box) (fun e => by have := h.b1 e.symm; omega)).trans h.box, (hg.block _ (heap_lt h.res) (fun e => by have := h.b1 e.symm; omega)).trans h.res, ho, h.it.kept hg ?_, .inr ?_, hlt, Nat.le_trans hsz hg.size⟩
  · cases e : v2.ownBlock with
    | none => exact .inl rfl
    | some a => exact .inr (by rw [← e]; rcases h.ne with h' | h'; { rw [h', e]; simp }; { exact fun e' => h' e'.symm })
  · intro e
    have e' : v2.ownBlock = some g := e.symm
    rcases he with he | he
    · rcases h.ne with h' | h'
      · rw [h'] at he; cases he
      · exact h' (he.trans e'.symm)
    · have := h.b2 e'; omega
theorem Wth.app2 (h : Wth w b0 P R v1 l1 v2 As wr) {g m c : Nat} {As' : List (Array Value)} {w' : World} (ho : ItOwn w' b0 (.slice (some ⟨g, 0, none⟩) m c) As') (hg : wr.grownBy w' v2.ownBlock) (he : v2.ownBlock = some g ∨ g = wr.heap.size) : Wth w b0 P R v1 l1 (.slice (some ⟨g, 0, none⟩) m c) As' w' := by
  have hlt := h.lt
  have hsz := h.sz
  refine ⟨h.bel.grown hg h.bel.size (fun k hk => by have := h.b2 hk; omega), (hg.block _ (heap_lt h.box) (fun e => by have := h.b2 e.symm; omega)).trans h.box, (hg.block _ (heap_lt h.res) (fun e => by have := h.b2 e.symm; omega)).trans h.res, h.nm.kept hg h.ne, ho, ?_, hlt, Nat.le_trans hsz hg.size⟩
  cases e1 : v1.ownBlock with
  | none => exact .inl rfl
  | some a =>
    refine .inr (fun e => ?_)
    have e' : a = g := Option.some.inj e
    subst e'
    rcases he with he | he
    · rcases h.ne with h' | h'
      · rw [h'] at e1; cases e1
      · exact h' (e1.trans he.symm)
    · have := h.b1 e1; omega
theorem news_str {w : World} {g : Nat} (s : ByteArray) (h : w.heap[g]? = some (.cells #[.string s] 9 (0, 0))) : ∀ j u, [Value.string s][j]? = some u → w.cell? ((⟨g, 0, none⟩ : Addr).add j) = some u := World.news_of_block (cs := #[.string s]) (t := 9) (fr := (0, 0)) h
theorem news_js {w : World} {g : Nat} (A : List Value) (h : w.heap[g]? = some (.cells A.toArray 25 (0, 0))) : ∀ j u, A[j]? = some u → w.cell? ((⟨g, 0, none⟩ : Addr).add j) = some u := by
  have := World.news_of_block (cs := A.toArray) (t := 25) (fr := (0, 0)) h
  simpa using this
theorem blk_new (w : World) (o : Obj) : (w.alloc o).heap[w.heap.size]? = some o := _root_.Go.heap_alloc_new w o
theorem blk_old (w : World) (o o' : Obj) : ((w.alloc o).alloc o').heap[w.heap.size]? = some o := box_below (_root_.Go.heap_alloc_new w o) (below_new _ _)
theorem blk_new1 (w : World) (o o' : Obj) : ((w.alloc o).alloc o').heap[w.heap.size + 1]? = some o' := by
  have := _root_.Go.heap_alloc_new (w.alloc o) o'
  rwa [World.size_alloc] at this
theorem kept_new {w3 w5 wc : World} {o : Obj} (h : Wth w b0 P R v1 l1 v2 As w3) (hg : wc.grownBy w5 v1.ownBlock) {g : Nat} (hb : w3.heap.size ≤ g) (h2 : wc.heap[g]? = some o) : w5.heap[g]? = some o :=
  (hg.block g (heap_lt h2) (fun e => by have := h.b1 e.symm; omega)).trans h2
theorem nm_app {w : World} {b : Nat} {v : Value} {ns : List ByteArray} {name : ByteArray} (h : w.ownsRow b 9 1 v (ns.length + 1) (ns.map Value.string ++ [.string name])) : NmOwn w b v (ns ++ [name]) := by
  unfold NmOwn
  rw [List.length_append, List.map_append]
  exact h
theorem it_app {w : World} {b n : Nat} {v : Value} {As : List (Array Value)} {A : Array Value} (hs : ∀ A ∈ As, A.size = 6) (hA : A.size = 6) (hn : As.length = n) (h : w.ownsRow b 25 6 v (n + 1) (cellsA As ++ A.toList)) : ItOwn w b v (As ++ [A]) := by
  refine ⟨fun B hB => ?_, ?_⟩
  · rcases List.mem_append.1 hB with h' | h'
    · exact hs B h'
    · rw [List.mem_singleton.1 h']; exact hA
  · rw [List.length_append, cellsA_app, hn]
    simpa [cellsA] using h
theorem own_zero {w : World} {b n sz : Nat} {e : TypeId} {v : Value} {xs : List Value} (h : w.ownsRow b e sz v n xs) : w.ownsRow 0 e sz v n xs := by
  refine ⟨h.1, ?_⟩
  rcases h.2 with h' | ⟨g, cap, cur, h1, _, h3⟩
  · exact .inl h'
  · exact .inr ⟨g, cap, cur, h1, Nat.zero_le _, h3⟩
theorem with_end2 {wF : World} {F : Nat → Array Value} {Z ZB : Nat → Prop} {B : Array Value} {x : JB} {vs : List JB} {q1 q2 : Option Addr} {n1 n2 c1 c2 : Nat} (Y : Wth w b0 P R (.slice q1 n1 c1) l1 (.slice q2 n2 c2) (asF F vs.length ++ [B]) wr)
    (hx : JIn w ZB B x) (hf : ∀ i y, vs[i]? = some y → JIn w Z (F i) y) (g : wr.grownBy wF (some (w.heap.size + 1 + 1))) : WithP (.mk 6 false 0 ⟨#[]⟩ l1 (vs ++ [x])) w (.returned (.agg (jA 6 false 0 ⟨#[]⟩ q1 n1 c1 q2 n2 c2))) wF := by
  have hlt := Y.lt
  have bF : Below w.heap.size w wF := Y.bel.grown g Y.bel.size (fun k hk => by cases hk; omega)
  have nF : NmOwn wF 0 (.slice q1 n1 c1) l1 := own_zero (Y.nm.kept g (.inr (fun e => by have := Y.b1 e; omega)))
  have iF : ItOwn wF 0 (.slice q2 n2 c2) (asF F vs.length ++ [B]) := ⟨Y.it.sz, own_zero (Y.it.own.kept g (.inr (fun e => by have := Y.b2 e; omega)))⟩
  have hI : ItsIn wF (fun _ => True) (asF F vs.length ++ [B]) (vs ++ [x]) := by
    refine ItsIn.app ⟨asF_len _ _, fun i A y h1 h2 => ?_⟩ (hx.bel bF).any
    have hi : i < vs.length := (List.getElem?_eq_some_iff.1 h2).1
    rw [asF_at hi] at h1
    cases h1
    exact ((hf i y h2).bel bF).any
  exact ⟨_, rfl, (jin_group (by decide) nF iF hI (fun k _ => Nat.zero_le k)).any, bF⟩
set_option maxHeartbeats 4000000 in
set_option maxRecDepth 8000 in
theorem with_walk (k : Nat) (b : Bool) (m : Int) (t : ByteArray) (ns : List ByteArray) (vs : List JB) (nq iq : Option Addr) (nc ic : Nat) (F : Nat → Array Value) (Z ZB : Nat → Prop) (name : ByteArray) (B : Array Value) (x : JB) (w : World)
    (hn : SsIn w Z nq ns) (hnl : ns.length ≤ 50000) (h1 : VsIn w Z iq F vs.length) (hic : vs.length ≤ ic) (hiq : iq = none → ic = 0) (hf1 : ∀ i x, vs[i]? = some x → JIn w Z (F i) x) (hx : JIn w ZB B x) (he : ns.length = vs.length) :
    Calls Tryd.prog 50 #[.agg (jA k b m t nq ns.length nc iq vs.length ic), .string name, .agg B] w fun e w' => WithP (withB ns vs name x) w e w' := by
  have hl : vs.length ≤ 50000 := by omega
  have hsz : ∀ i, i < vs.length → (F i).size = 6 := fun i hi => (hf1 i _ (List.getElem?_eq_getElem hi)).size
  have hone : ∀ i, i < vs.length → ∀ v ∈ (F i).toList, v.oneCell' = true := fun i hi => jin_one (hf1 i _ (List.getElem?_eq_getElem hi))
  obtain ⟨k2, b2, m2, t2, nq2, nl2, nc2, iq2, il2, ic2, rfl⟩ := jin_form hx
  have hZ : ∀ w', Below w.heap.size w w' → ∀ a v, Z a.block → w.cell? a = some v → w'.cell? a = some v ∧ Z a.block := fun w' hb a v z hc => ⟨below_cell hc hb, z⟩
  have CN : Hid (∀ w', Below w.heap.size w w' → Calls Tryd.prog 79 #[.slice nq ns.length nc] w' fun e w'' => ∃ v, e = .returned v ∧ NmOwn w'' w'.heap.size v ns ∧ Below w'.heap.size w' w'') := fun w' hb =>
    clone_namesO nq ns nc Z w' (hn.mono (hZ _ hb)) (by omega)
  have CI : Hid (∀ w', Below w.heap.size w w' → Calls Tryd.prog 81 #[.slice iq vs.length ic] w' fun e w'' => ∃ v, e = .returned v ∧ ItOwn w'' w'.heap.size v (asF F vs.length) ∧ Below w'.heap.size w' w'') := fun w' hb =>
    clone_items iq vs.length ic F Z w' (h1.mono hsz (hZ _ hb)) hsz hone (by omega) hic hiq
  have B1 := below_new w (.cells (jA k b m t nq ns.length nc iq vs.length ic) 25)
  have n1 := _root_.Go.heap_alloc_new w (.cells (jA k b m t nq ns.length nc iq vs.length ic) 25)
  have B2 := below_new (w.alloc (.cells (jA k b m t nq ns.length nc iq vs.length ic) 25)) (.cells (jA k2 b2 m2 t2 nq2 nl2 nc2 iq2 il2 ic2) 25)
  have n2 := _root_.Go.heap_alloc_new (w.alloc (.cells (jA k b m t nq ns.length nc iq vs.length ic) 25)) (.cells (jA k2 b2 m2 t2 nq2 nl2 nc2 iq2 il2 ic2) 25)
  have B3 := below_new ((w.alloc (.cells (jA k b m t nq ns.length nc iq vs.length ic) 25)).alloc (.cells (jA k2 b2 m2 t2 nq2 nl2 nc2 iq2 il2 ic2) 25)) (.cells zeroA 25)
  have n3 := _root_.Go.heap_alloc_new ((w.alloc (.cells (jA k b m t nq ns.length nc iq vs.length ic) 25)).alloc (.cells (jA k2 b2 m2 t2 nq2 nl2 nc2 iq2 il2 ic2) 25)) (.cells zeroA 25)
  simp only [World.size_alloc] at n2 n3
  have n1' := box_below (box_below n1 B2) B3
  have n2' := box_below n2 B3
  have BF := below_more (below_more B1 B2) B3
  clear B1 B2 B3 n1 n2
  unfold zeroA at BF n1' n2' n3
  unfold jA at BF n1' n2' n3 ⊢
  have HS : Hid (vs.length = ns.length ∧ ns.length ≤ 50000 ∧ (∀ i x, vs[i]? = some x → JIn w Z (F i) x) ∧ JIn w ZB (jA k2 b2 m2 t2 nq2 nl2 nc2 iq2 il2 ic2) x ∧ (∀ i, i < vs.length → (F i).size = 6)) := ⟨he.symm, hnl, hf1, hx, hsz⟩
  clear hsz hone hx hZ hn hnl hl h1 hic hiq hf1 he
  go_enter Tryd.func50, Tryd.ntmps50
  go_upto_region 1 with fail
  change Code.wp _ _ _ _ (((w.alloc (.cells #[.int .u8 (k : Int), .bool b, .int .i64 m, .string t, .slice nq ns.length nc, .slice iq vs.length ic] 25)).alloc (.cells #[.int .u8 (k2 : Int), .bool b2, .int .i64 m2, .string t2, .slice nq2 nl2 nc2, .slice iq2 il2 ic2] 25)).alloc (.cells #[.int .u8 0, .bool false, .int .i64 0, .string ⟨#[]⟩, .slice none 0 0, .slice none 0 0] 25))
  generalize ((w.alloc (.cells #[.int .u8 (k : Int), .bool b, .int .i64 m, .string t, .slice nq ns.length nc, .slice iq vs.length ic] 25)).alloc (.cells #[.int .u8 (k2 : Int), .bool b2, .int .i64 m2, .string t2, .slice nq2 nl2 nc2, .slice iq2 il2 ic2] 25)).alloc (.cells #[.int .u8 0, .bool false, .int .i64 0, .string ⟨#[]⟩, .slice none 0 0, .slice none 0 0] 25) = W at *
  have HK : Hid (∀ w', Below W.heap.size W w' → w'.cell? ⟨w.heap.size, 4, none⟩ = some (.slice nq ns.length nc) ∧ w'.cell? ⟨w.heap.size, 5, none⟩ = some (.slice iq vs.length ic)) := fun w' hb => by
    obtain ⟨⟨_, _, _, _, r4, r5⟩, _⟩ := row6_cells (box_below n1' hb)
    exact ⟨r4, r5⟩
  have HW : Hid (Below w.heap.size w W) := BF
  have HN : Hid (W.heap[w.heap.size + 1]? = some (.cells #[.int .u8 (k2 : Int), .bool b2, .int .i64 m2, .string t2, .slice nq2 nl2 nc2, .slice iq2 il2 ic2] 25 (0, 0)) ∧ W.heap[w.heap.size + 1 + 1]? = some (.cells #[.int .u8 0, .bool false, .int .i64 0, .string ⟨#[]⟩, .slice none 0 0, .slice none 0 0] 25 (0, 0))) := ⟨n2', n3⟩
  obtain ⟨e4, e5⟩ := HK.out W (Below.refl _ _)
  have A0 : Below W.heap.size W W.drew := (Below.refl _ _).drew
  clear n1' n2' n3 BF
  go_region_held3 (fun w' => w'.cell? ⟨w.heap.size, 4, none⟩ = some (.slice nq ns.length nc) ∧ w'.cell? ⟨w.heap.size, 5, none⟩ = some (.slice iq vs.length ic))
    (with_reducible first | exact HK.out _ (Below.refl _ _) | exact HK.out _ A0 | exact HK.out _ A2 | exact HK.out _ A1 | assumption)
    (first
      | (go_at_call 81; refine (CI.out _ (below_more HW.out A1)).mono ?_; rintro e w2 ⟨v2, rfl, i2, hb2⟩; have A2 := below_more A1 hb2)
      | (go_at_call 79; refine (CN.out _ (below_more HW.out A0)).mono ?_; rintro e w1 ⟨v1, rfl, i1, hb1⟩; have A1 := below_more A0 hb1)
      | fail)
  obtain ⟨q1, c1, rfl, l1, m1, z1⟩ := own_form i1
  obtain ⟨q2, c2, rfl, l2, m2', z2⟩ := own_form i2.own
  rw [asF_len] at l2 ⊢
  have N2 : NmOwn w2 W.drew.heap.size (.slice q1 ns.length c1) ns := i1.kept (grown_below hb2 none) (by cases q1 with | none => exact .inl rfl | some a => exact .inr (by intro e; cases e))
  have I2 : ItOwn w2 w1.heap.size (.slice q2 vs.length c2) (asF F vs.length) := by have := i2; rw [asF_len] at this; exact this
  have S2 : SsIn w2 (fun b => W.heap.size ≤ b ∧ b < w1.heap.size) q1 ns := i1.ss.mono fun _ _ z hc => ⟨below_cell hc hb2, z, World.block_lt_of_cell? _ _ hc⟩
  have IX := index_names q1 ns ns.length c1 name _ w2 N2.ss (by have := HS.out; omega) (Nat.le_refl _)
  rw [List.take_length] at IX
  have B2 := below_more HW.out A2
  have P2 := box_below HN.out.1 A2
  have R2 := box_below HN.out.2 A2
  have HZ : Hid (ns.length ≤ c1 ∧ c1 ≤ maxLen ∧ (q1 = none → c1 = 0) ∧ vs.length ≤ c2 ∧ c2 ≤ maxLen ∧ (q2 = none → c2 = 0) ∧ W.heap.size ≤ w1.heap.size ∧ w.heap.size + 1 + 1 < W.heap.size) :=
    ⟨l1, m1, z1, l2, m2', z2, (below_more (Below.refl _ _) A1).size, by
      have h' := HN.out.2
      rcases Nat.lt_or_ge (w.heap.size + 1 + 1) W.heap.size with h | h
      · exact h
      · rw [Array.getElem?_eq_none h] at h'; cases h'⟩
  have X2 : Wth w W.heap.size (.cells #[.int .u8 (k2 : Int), .bool b2, .int .i64 m2, .string t2, .slice nq2 nl2 nc2, .slice iq2 il2 ic2] 25 (0, 0)) (.cells #[.int .u8 0, .bool false, .int .i64 0, .string ⟨#[]⟩, .slice none 0 0, .slice none 0 0] 25 (0, 0)) (.slice q1 ns.length c1) ns (.slice q2 vs.length c2) (asF F vs.length) w2 :=
    ⟨B2, P2, R2, N2, it_base I2 HZ.out.2.2.2.2.2.2.1, by
      cases e : (Value.slice q1 ns.length c1).ownBlock with
      | none => exact .inl rfl
      | some a =>
        refine .inr (fun e2 => ?_)
        have h1' := i1.lt a e
        have h2' := I2.own.lt a e2.symm
        omega, HZ.out.2.2.2.2.2.2.2, A2.size⟩
  clear CN CI HK e4 e5 A0 A1 A2 i1 i2 l1 m1 z1 l2 m2' z2 hb1 hb2 HN
  go_wp2_with fail
  refine IX.mono ?_
  rintro e w3 ⟨rfl, b3⟩
  have N3 : Hid (NmOwn w3 W.heap.size (.slice q1 ns.length c1) ns) := N2.kept (grown_below b3 none) (by cases q1 with | none => exact .inl rfl | some a => exact .inr (by intro e; cases e))
  have I3 : Hid (ItOwn w3 w1.heap.size (.slice q2 vs.length c2) (asF F vs.length)) := I2.kept (grown_below b3 none) (by cases q2 with | none => exact .inl rfl | some a => exact .inr (by intro e; cases e))
  have S3 : Hid (SsIn w3 (fun b => W.heap.size ≤ b ∧ b < w1.heap.size) q1 ns) := S2.mono fun _ _ z hc => ⟨below_cell hc b3, z⟩
  have B3 := below_more B2 b3
  have P3 := box_below P2 b3
  have R3 : Hid (w3.heap[w.heap.size + 1 + 1]? = some (.cells #[.int .u8 0, .bool false, .int .i64 0, .string ⟨#[]⟩, .slice none 0 0, .slice none 0 0] 25 (0, 0))) := box_below R2 b3
  have HB3 : Hid (Below w.heap.size w w3) := B3
  obtain ⟨⟨p0, p1, p2, p3, p4, p5⟩, _, _, _, _, _, _⟩ := row6_cells P3
  have HX : Hid _ := X2.more b3
  clear IX N2 I2 S2 B2 P2 R2 X2 b3 B3 P3
  by_cases hI : 0 ≤ Lib.idxOfS ns name
  · obtain ⟨j, hj, hjI, hjn, hjf⟩ := idx_at hI
    have hj1 : (j : Int) < (vs.length : Int) := by have := HS.out.1; omega
    have hj0 : (0 : Int) ≤ (j : Int) := by omega
    rw [hjI]
    have HI : Hid (Lib.idxOfS ns name = (j : Int) ∧ j < vs.length) := ⟨hjI, by omega⟩
    obtain ⟨g2, hg2⟩ : ∃ g, q2 = some ⟨g, 0, none⟩ := by
      rcases I3.out.own.2 with ⟨hv, hn⟩ | ⟨g, cap, cur, hv, _⟩
      · rw [asF_len] at hn; omega
      · simp only [Value.slice.injEq] at hv; exact ⟨g, hv.1⟩
    subst hg2
    have ht : w3.there g2 (j * 6) 6 := fun i hi => by
      have ho := I3.out.own
      rw [asF_len] at ho
      refine ⟨?_, ho.frozenAt _⟩
      rw [ho.cellAt _ (by omega), List.getElem?_eq_getElem (by rw [ho.1]; omega)]
      rfl
    have HT : Hid (w3.there g2 (j * 6) 6) := ht
    have hv : ∀ i, i < 6 → ∃ u, w3.cell? ⟨g2, j * 6 + i, none⟩ = some u := fun i hi => Option.isSome_iff_exists.1 (ht i hi).1
    obtain ⟨u0, d0⟩ := hv 0 (by omega)
    obtain ⟨u1, d1⟩ := hv 1 (by omega)
    obtain ⟨u2, d2⟩ := hv 2 (by omega)
    obtain ⟨u3, d3⟩ := hv 3 (by omega)
    obtain ⟨u4, d4⟩ := hv 4 (by omega)
    obtain ⟨u5, d5⟩ := hv 5 (by omega)
    have f0 := (ht 0 (by omega)).2
    have f1 := (ht 1 (by omega)).2
    have f2 := (ht 2 (by omega)).2
    have f3 := (ht 3 (by omega)).2
    have f4 := (ht 4 (by omega)).2
    have f5 := (ht 5 (by omega)).2
    rw [Nat.add_zero] at d0 f0
    clear hv
    clear hI hj hjI hjn hjf ht
    simp only []
    go_upto_region 6 with fail
    obtain ⟨J4, b4, hne⟩ := with_set (j := j) HS.out.2.2.2.1 HS.out.2.2.1 S3.out I3.out HI.out.2 HB3.out HZ.out.2.2.2.2.2.2.2 HZ.out.2.2.2.2.2.2.1 HZ.out.1 HZ.out.2.1 HZ.out.2.2.1 HZ.out.2.2.2.1 HZ.out.2.2.2.2.1
    have R4 := (heap_setCells_ne g2 (w.heap.size + 1 + 1) (fun e => hne e.symm) (jA k2 b2 m2 t2 nq2 nl2 nc2 iq2 il2 ic2).toList (j * 6) w3).trans R3.out
    change Code.wp _ _ _ _ (w3.setCells g2 (j * 6) (jA k2 b2 m2 t2 nq2 nl2 nc2 iq2 il2 ic2).toList)
    generalize w3.setCells g2 (j * 6) (jA k2 b2 m2 t2 nq2 nl2 nc2 iq2 il2 ic2).toList = w4 at J4 b4 R4 ⊢
    have HJ4 : Hid (JIn w4 (fun b => b ≠ w.heap.size + 1 + 1) (jA 6 false 0 ⟨#[]⟩ q1 ns.length c1 (some ⟨g2, 0, none⟩) vs.length c2) (.mk 6 false 0 ⟨#[]⟩ ns (vs.set j x)) ∧ Below w.heap.size w w4) := ⟨J4, b4⟩
    have HR4 : Hid (w4.heap[w.heap.size + 1 + 1]? = some (.cells #[.int .u8 0, .bool false, .int .i64 0, .string ⟨#[]⟩, .slice none 0 0, .slice none 0 0] 25 (0, 0))) := R4
    obtain ⟨⟨x0, x1, x2, x3, x4, x5⟩, y0, y1, y2, y3, y4, y5⟩ := row6_cells R4
    clear d0 d1 d2 d3 d4 d5 f0 f1 f2 f3 f4 f5 p0 p1 p2 p3 p4 p5 J4 b4 R4 hne
    go_wp2_with fail
    refine bodyPost_ret (results_cell_row rfl _ _ (w.heap.size + 1 + 1) 25 (jA 6 false 0 ⟨#[]⟩ q1 ns.length c1 (some ⟨g2, 0, none⟩) vs.length c2) (0, 0) _ rfl (set6_heap' HR4.out _ _ _ _ _ _) Tryd.underlying25 rfl size_json) rfl ?_
    refine with_end ?_ HJ4.out.2 (set6_grown _ _ _ _ _ _ _ _)
    unfold withB
    rw [HI.out.1, if_pos (Int.natCast_nonneg j), Int.toNat_natCast]
    exact HJ4.out.1
  · have hI2 : ¬ 0 ≤ Lib.idxOfS ns name := hI
    have HI : Hid (¬ 0 ≤ Lib.idxOfS ns name) := hI
    generalize Lib.idxOfS ns name = I at hI2
    clear hI
    simp only []
    obtain ⟨i0, hi0, hz0, hz1, hz2⟩ := info_parts' info_json
    obtain ⟨i1, hi1, hy0, hy1, hy2⟩ := info_parts' info_str
    go_upto_region 5 with fail
    go_region_held3 (fun w' => w'.cell? ⟨w.heap.size + 1, 0, none⟩ = some (.int .u8 (k2 : Int)) ∧ w'.cell? ⟨w.heap.size + 1, 1, none⟩ = some (.bool b2) ∧ w'.cell? ⟨w.heap.size + 1, 2, none⟩ = some (.int .i64 m2) ∧ w'.cell? ⟨w.heap.size + 1, 3, none⟩ = some (.string t2) ∧ w'.cell? ⟨w.heap.size + 1, 4, none⟩ = some (.slice nq2 nl2 nc2) ∧ w'.cell? ⟨w.heap.size + 1, 5, none⟩ = some (.slice iq2 il2 ic2))
      (with_reducible first | exact (row6_cells Y2.box).1 | exact (row6_cells Y1.box).1 | exact (row6_cells (Y1.al _).box).1 | exact (row6_cells (Y1.al _).dr.box).1 | exact (row6_cells Y1.dr.box).1 | exact (row6_cells (HX.out.al _).box).1 | exact (row6_cells ((HX.out.al _).dr).box).1 | exact (row6_cells (((HX.out.al _).al _)).box).1 | exact (row6_cells (((HX.out.al _).al _).dr).box).1 | exact (row6_cells (HX.out.dr).box).1 | exact (row6_cells (HX.out).box).1 | exact (row6_cells ((HX.out.dr.al _)).box).1 | exact (row6_cells (((HX.out.dr.al _).al _)).box).1)
      (first
        | (refine step_append_lies _ rfl (.tmp 29) (.tmp 31) 23 rfl W.heap.size 25 i0 _ 6 80 Tryd.underlying23 hi0 hz0 hz1 hz2 rfl (by decide) (.slice q2 vs.length c2) vs.length (cellsA (asF F vs.length)) (by rfl) (by (with_reducible first | exact (Y1).own2 | exact (Y1.dr).own2 | exact (Y1.al _).own2 | exact ((Y1.al _).dr).own2)) _ 1 1 [.int .u8 (k2 : Int), .bool b2, .int .i64 m2, .string t2, .slice nq2 nl2 nc2, .slice iq2 il2 ic2] (by rfl) rfl (by first | exact news_js _ (blk_new _ _) | exact news_js _ (blk_newd _ _) | exact news_js _ (K1 _ _ (by simp) (blk_old _ _ _)) | exact news_js _ (K1 _ _ (by simp) (blk_oldd _ _ _)) | exact news_js _ (K1 _ _ (by simp) (blk_new1 _ _ _)) | exact news_js _ (K1 _ _ (by simp) (blk_new1d _ _ _))) (by intro v hv; simp only [List.mem_cons, List.not_mem_nil, or_false] at hv; rcases hv with rfl | rfl | rfl | rfl | rfl | rfl <;> rfl) (by omega) (by have := HS.out.1; have := HS.out.2.1; unfold maxLen; omega) (by have := HS.out.1; have := HS.out.2.1; omega) (by (with_reducible first | exact (Y1).sz | exact (Y1.dr).sz | exact (Y1.al _).sz | exact ((Y1.al _).dr).sz)) _ rfl ?_; intro g2 cap2 w6 ho2 hg2 he2 hl2; have Y2 := Wth.app2 (by (with_reducible first | exact (Y1) | exact (Y1.dr) | exact (Y1.al _) | exact ((Y1.al _).dr))) (it_app (A := #[.int .u8 (k2 : Int), .bool b2, .int .i64 m2, .string t2, .slice nq2 nl2 nc2, .slice iq2 il2 ic2]) (asF_sz HS.out.2.2.2.2) rfl (asF_len F vs.length) ho2) hg2 he2; clear ho2 hg2 he2 hl2 K1)
        | (refine step_append_lies _ rfl (.tmp 25) (.tmp 27) 22 rfl W.heap.size 9 i1 _ 1 16 Tryd.underlying22 hi1 hy0 hy1 hy2 rfl (by decide) (.slice q1 ns.length c1) ns.length (ns.map Value.string) (by rfl) (by (with_reducible first | exact (HX.out.al _).own1 | exact ((HX.out.al _).dr).own1 | exact (((HX.out.al _).al _)).own1 | exact (((HX.out.al _).al _).dr).own1)) _ 1 1 [.string name] (by rfl) rfl (by with_reducible first | exact news_str _ (blk_new _ _) | exact news_str _ (blk_newd _ _) | exact news_str _ (blk_old _ _ _) | exact news_str _ (blk_oldd _ _ _) | exact news_str _ (blk_new1 _ _ _) | exact news_str _ (blk_new1d _ _ _)) (by intro u hu; rw [List.mem_singleton] at hu; rw [hu]; rfl) (by omega) (by have := HS.out.2.1; unfold maxLen; omega) (by have := HS.out.2.1; omega) (by (with_reducible first | exact (HX.out.al _).sz | exact ((HX.out.al _).dr).sz | exact (((HX.out.al _).al _)).sz | exact (((HX.out.al _).al _).dr).sz)) _ rfl ?_; intro g1 cap1 w5 ho1 hg1 he1 hl1; have Y1 := Wth.app1 (by (with_reducible first | exact (HX.out.al _) | exact ((HX.out.al _).dr) | exact (((HX.out.al _).al _)) | exact (((HX.out.al _).al _).dr))) (nm_app ho1) hg1 he1; have K1 := fun (g : Nat) (o : Obj) (hb : w3.heap.size ≤ g) h2 => kept_new (o := o) (g := g) HX.out hg1 hb h2; clear ho1 hg1 he1 hl1)
        | fail)
    all_goals
      have HY : Hid _ := Y2
      obtain ⟨⟨x0, x1, x2, x3, x4, x5⟩, y0, y1, y2, y3, y4, y5⟩ := row6_cells Y2.res
      clear Y1 Y2 p0 p1 p2 p3 p4 p5
      go_wp2_with fail
      refine bodyPost_ret (results_cell_row rfl _ _ (w.heap.size + 1 + 1) 25 (jA 6 false 0 ⟨#[]⟩ (some ⟨g1, 0, none⟩) (ns.length + 1) cap1 (some ⟨g2, 0, none⟩) (vs.length + 1) cap2) (0, 0) _ rfl (set6_heap' HY.out.res _ _ _ _ _ _) Tryd.underlying25 rfl size_json) rfl ?_
      unfold withB
      rw [if_neg (Int.not_le.2 HI.out)]
      exact with_end2 HY.out HS.out.2.2.2.1 HS.out.2.2.1 (set6_grown _ _ _ _ _ _ _ _)
end Go.Proofs.YtcfalgomcdmdhaaDoor
