import Derived.Test.YtblnoekogdpolaaDoorJTxt
namespace Go.Proofs.YtblnoekogdpolaaDoor
open Go.RowKit Go.WideShapes Go.Joins
def sameV : Value := .func (.func 14) #[] #[]
theorem eqNames_yes (ns : List ByteArray) (q1 q2 : Option Addr) (c1 c2 : Nat) (Z1 Z2 : Nat → Prop) (w : World) (h1 : SsIn w Z1 q1 ns) (h2 : SsIn w Z2 q2 ns) (hl : ns.length ≤ maxLen) :
    Calls Tryd.prog 36 #[.slice q1 ns.length c1, .slice q2 ns.length c2] w fun e w' => e = .returned (.bool true) ∧ Below w.heap.size w w' := by
  unfold maxLen at hl
  by_cases h0 : ns.length = 0
  · rw [h0]
    refine (Any.slices_Equal_string_empty lays193 q1 q2 c1 0 c2 w (by omega)).mono ?_
    rintro e w' ⟨rfl, hw⟩
    rw [hw]
    exact ⟨rfl, Below.refl _ _⟩
  · obtain ⟨b1, o1, rfl⟩ := h1.addr (by omega)
    obtain ⟨b2, o2, rfl⟩ := h2.addr (by omega)
    refine (Any.slices_Equal_string lays193 b1 o1 ns.length c1 b2 o2 ns.length c2 ns ns w (Nat.le_refl _) (Nat.le_refl _) (by omega) (by omega) (fun j hj => h1.at hj) (fun j hj => h2.at hj)).mono ?_
    rintro e w' ⟨rfl, q, hw⟩
    rw [hw]
    exact ⟨by simp, below_dN (Below.refl _ _) q⟩
inductive SmI (n : Nat) (w : World) (t : Value) (wr : World) : Prop where
  | intro (k : Nat) (hk : k ≤ n) (ht : t = .int .i64 (k : Int)) (hb : Below w.heap.size w wr)
set_option maxHeartbeats 2000000 in
set_option maxRecDepth 8000 in
theorem eqItems_yes (vs : List JB) (q1 q2 : Option Addr) (c1 c2 : Nat) (F1 F2 : Nat → Array Value) (Z1 Z2 : Nat → Prop) (w : World) (h1 : VsIn w Z1 q1 F1 vs.length) (h2 : VsIn w Z2 q2 F2 vs.length) (hl : vs.length ≤ maxLen)
    (hf1 : ∀ i x, vs[i]? = some x → JIn w Z1 (F1 i) x) (hf2 : ∀ i x, vs[i]? = some x → JIn w Z2 (F2 i) x)
    (hcall : ∀ i x, vs[i]? = some x → ∀ w', Below w.heap.size w w' → Calls Tryd.prog 14 #[.agg (F1 i), .agg (F2 i)] w' fun e w'' => e = .returned (.bool true) ∧ Below w'.heap.size w' w'') :
    Calls Tryd.prog 37 #[.slice q1 vs.length c1, .slice q2 vs.length c2, sameV] w fun e w' => e = .returned (.bool true) ∧ Below w.heap.size w w' := by
  obtain ⟨n, hn⟩ : ∃ n, vs.length = n := ⟨_, rfl⟩
  rw [hn] at h1 h2 hl ⊢
  have HH : Hid (VsIn w Z1 q1 F1 n ∧ VsIn w Z2 q2 F2 n ∧ (∀ i x, vs[i]? = some x → JIn w Z1 (F1 i) x) ∧ (∀ i x, vs[i]? = some x → JIn w Z2 (F2 i) x) ∧ vs.length = n) := ⟨h1, h2, hf1, hf2, hn⟩
  have HC : Hid (∀ i x, vs[i]? = some x → ∀ w', Below w.heap.size w w' → Calls Tryd.prog 14 #[.agg (F1 i), .agg (F2 i)] w' fun e w'' => e = .returned (.bool true) ∧ Below w'.heap.size w' w'') := hcall
  have hmx : (n : Int) ≤ 9223372036854775807 := by unfold maxLen at hl; omega
  have hne : ((n : Int) != (n : Int)) = false := by simp
  unfold sameV
  clear h1 h2 hl hf1 hf2 hn hcall
  go_enter Tryd.func37, Tryd.ntmps37
  go_wp2_with fail
  go_loopw [17] (fun t wr => SmI n w t wr) (fun t _ => n - (intOf t).toNat)
  case atStart => exact ⟨0, Nat.zero_le _, rfl, Below.refl _ _⟩
  case round =>
    obtain ⟨i, hi, rfl, hb⟩ := hrel
    have HB : Hid (Below w.heap.size w wr) := hb
    by_cases hlt : i < n
    · have hiI : (i : Int) < (n : Int) := by omega
      have hi0 : (0 : Int) ≤ (i : Int) := by omega
      obtain ⟨x, hx⟩ : ∃ x, vs[i]? = some x := ⟨_, List.getElem?_eq_getElem (by rw [HH.out.2.2.2.2]; exact hlt)⟩
      obtain ⟨ib, io, rfl⟩ := HH.out.1.addr (by omega)
      obtain ⟨jb, jo, rfl⟩ := HH.out.2.1.addr (by omega)
      have hc1 := (HH.out.1.at hlt).2
      have hc2 := (HH.out.2.1.at hlt).2
      obtain ⟨k, b, m, t, nq, nl, nc, iq, il, ic, hF1⟩ := jin_form (HH.out.2.2.1 i x hx)
      obtain ⟨k', b', m', t', nq', nl', nc', iq', il', ic', hF2⟩ := jin_form (HH.out.2.2.2.1 i x hx)
      have HCx := HC.out i x hx
      rw [hF1] at hc1 HCx
      rw [hF2] at hc2 HCx
      have j1 := (jat_of hc1).below hb
      have B1 := below_new wr (.cells #[.int .u8 (k : Int), .bool b, .int .i64 m, .string t, .slice nq nl nc, .slice iq il ic] 25)
      have n1 := _root_.Go.heap_alloc_new wr (.cells #[.int .u8 (k : Int), .bool b, .int .i64 m, .string t, .slice nq nl nc, .slice iq il ic] 25)
      have j2 := ((jat_of hc2).below hb).below B1
      have B2 := below_new (wr.alloc (.cells #[.int .u8 (k : Int), .bool b, .int .i64 m, .string t, .slice nq nl nc, .slice iq il ic] 25)) (.cells #[.int .u8 (k' : Int), .bool b', .int .i64 m', .string t', .slice nq' nl' nc', .slice iq' il' ic'] 25)
      have n2 := _root_.Go.heap_alloc_new (wr.alloc (.cells #[.int .u8 (k : Int), .bool b, .int .i64 m, .string t, .slice nq nl nc, .slice iq il ic] 25)) (.cells #[.int .u8 (k' : Int), .bool b', .int .i64 m', .string t', .slice nq' nl' nc', .slice iq' il' ic'] 25)
      rw [World.size_alloc] at n2
      have n1' := box_below n1 B2
      have BF := below_more hb (below_more B1 B2)
      obtain ⟨z0, z1, z2, z3, z4, z5⟩ := j1
      obtain ⟨y0, y1, y2, y3, y4, y5⟩ := j2
      obtain ⟨⟨r0, r1, r2, r3, r4, r5⟩, _, _, _, _, _, _⟩ := row6_cells n1'
      obtain ⟨⟨x0, x1, x2, x3, x4, x5⟩, _, _, _, _, _, _⟩ := row6_cells n2
      have FX := HCx _ BF
      have HF : Hid (Below w.heap.size w ((wr.alloc (.cells #[.int .u8 (k : Int), .bool b, .int .i64 m, .string t, .slice nq nl nc, .slice iq il ic] 25)).alloc (.cells #[.int .u8 (k' : Int), .bool b', .int .i64 m', .string t', .slice nq' nl' nc', .slice iq' il' ic'] 25)) ∧ i < n) := ⟨BF, hlt⟩
      unfold jA at FX
      clear hc1 hc2 hF1 hF2 HCx B1 B2 n1 n2 n1' BF hb hx hi hlt
      go_wp2_with (first | (go_at_call 14; refine FX.mono ?_; rintro e w3 ⟨rfl, hb3⟩) | fail)
      go_roundw
      case rel => exact ⟨i + 1, by have := HF.out.2; omega, by go_num, below_more HF.out.1 hb3⟩
      case measure => have := HF.out.2; simp [intOf]; omega
    · obtain rfl : i = n := by omega
      clear hb hi hlt
      go_wp2
      go_ret
      exact ⟨rfl, HB.out⟩
set_option maxHeartbeats 2000000 in
set_option maxRecDepth 8000 in
theorem same_walk (k : Nat) (b : Bool) (m : Int) (t : ByteArray) (ns : List ByteArray) (vs : List JB) (nq iq nq' iq' : Option Addr) (nc ic nc' ic' : Nat) (F1 F2 : Nat → Array Value) (Z1 Z2 : Nat → Prop) (w : World)
    (hn1 : SsIn w Z1 nq ns) (hn2 : SsIn w Z2 nq' ns) (hnl : ns.length ≤ maxLen) (h1 : VsIn w Z1 iq F1 vs.length) (h2 : VsIn w Z2 iq' F2 vs.length) (hl : vs.length ≤ maxLen)
    (hf1 : ∀ i x, vs[i]? = some x → JIn w Z1 (F1 i) x) (hf2 : ∀ i x, vs[i]? = some x → JIn w Z2 (F2 i) x)
    (hcall : ∀ i x, vs[i]? = some x → ∀ w', Below w.heap.size w w' → Calls Tryd.prog 14 #[.agg (F1 i), .agg (F2 i)] w' fun e w'' => e = .returned (.bool true) ∧ Below w'.heap.size w' w'') :
    Calls Tryd.prog 14 #[.agg (jA k b m t nq ns.length nc iq vs.length ic), .agg (jA k b m t nq' ns.length nc' iq' vs.length ic')] w fun e w' => e = .returned (.bool true) ∧ Below w.heap.size w w' := by
  have B1 := below_new w (.cells (jA k b m t nq ns.length nc iq vs.length ic) 25)
  have n1 := _root_.Go.heap_alloc_new w (.cells (jA k b m t nq ns.length nc iq vs.length ic) 25)
  have B2 := below_new (w.alloc (.cells (jA k b m t nq ns.length nc iq vs.length ic) 25)) (.cells (jA k b m t nq' ns.length nc' iq' vs.length ic') 25)
  have n2 := _root_.Go.heap_alloc_new (w.alloc (.cells (jA k b m t nq ns.length nc iq vs.length ic) 25)) (.cells (jA k b m t nq' ns.length nc' iq' vs.length ic') 25)
  rw [World.size_alloc] at n2
  have n1' := box_below n1 B2
  have BF := below_more B1 B2
  have HB : Hid (∀ w', Below ((w.alloc (.cells (jA k b m t nq ns.length nc iq vs.length ic) 25)).alloc (.cells (jA k b m t nq' ns.length nc' iq' vs.length ic') 25)).heap.size ((w.alloc (.cells (jA k b m t nq ns.length nc iq vs.length ic) 25)).alloc (.cells (jA k b m t nq' ns.length nc' iq' vs.length ic') 25)) w' →
      w'.heap[w.heap.size]? = some (.cells (jA k b m t nq ns.length nc iq vs.length ic) 25 (0, 0)) ∧ w'.heap[w.heap.size + 1]? = some (.cells (jA k b m t nq' ns.length nc' iq' vs.length ic') 25 (0, 0)) ∧ Below w.heap.size w w') := fun w' hb => ⟨box_below n1' hb, box_below n2 hb, below_more BF hb⟩
  have hZ1 : ∀ w', Below w.heap.size w w' → ∀ a v, Z1 a.block → w.cell? a = some v → w'.cell? a = some v ∧ Z1 a.block := fun w' hb a v z hc => ⟨below_cell hc hb, z⟩
  have hZ2 : ∀ w', Below w.heap.size w w' → ∀ a v, Z2 a.block → w.cell? a = some v → w'.cell? a = some v ∧ Z2 a.block := fun w' hb a v z hc => ⟨below_cell hc hb, z⟩
  have EN := eqNames_yes ns nq nq' nc nc' Z1 Z2 _ (hn1.mono (hZ1 _ BF)) (hn2.mono (hZ2 _ BF)) hnl
  have HI : Hid (∀ w', Below w.heap.size w w' → Calls Tryd.prog 37 #[.slice iq vs.length ic, .slice iq' vs.length ic', sameV] w' fun e w'' => e = .returned (.bool true) ∧ Below w'.heap.size w' w'') := fun w' hb =>
    eqItems_yes vs iq iq' ic ic' F1 F2 Z1 Z2 w' (h1.mono (fun i hi => (hf1 i _ (List.getElem?_eq_getElem hi)).size) (hZ1 _ hb)) (h2.mono (fun i hi => (hf2 i _ (List.getElem?_eq_getElem hi)).size) (hZ2 _ hb)) hl
      (fun i x hx => (hf1 i x hx).bel hb) (fun i x hx => (hf2 i x hx).bel hb) (fun i x hx w2 hb2 => hcall i x hx w2 (below_more hb hb2))
  have e0 : ((k : Int) == (k : Int)) = true := beq_self_eq_true _
  have e1 : (b == b) = true := beq_self_eq_true _
  have e2 : (m == m) = true := beq_self_eq_true _
  have e3 : (t.toList == t.toList) = true := by simp
  obtain ⟨⟨r0, r1, r2, r3, r4, r5⟩, _, _, _, _, _, _⟩ := row6_cells n1'
  obtain ⟨⟨x0, x1, x2, x3, x4, x5⟩, _, _, _, _, _, _⟩ := row6_cells n2
  unfold sameV at HI
  unfold jA at EN HB r0 r1 r2 r3 r4 r5 x0 x1 x2 x3 x4 x5 ⊢
  clear B1 n1 B2 n2 n1' BF hZ1 hZ2 hn1 hn2 hnl h1 h2 hl hf1 hf2 hcall
  go_enter Tryd.func14, Tryd.ntmps14
  go_wp2_with (first | (go_at_call 37; refine (HI.out _ G3).mono ?_; rintro e w4 ⟨rfl, hb4⟩) | (go_at_call 36; refine EN.mono ?_; rintro e w3 ⟨rfl, hb3⟩; obtain ⟨G1, G2, G3⟩ := HB.out w3 hb3; obtain ⟨⟨s0, s1, s2, s3, s4, s5⟩, _, _, _, _, _, _⟩ := row6_cells G1; obtain ⟨⟨u0, u1, u2, u3, u4, u5⟩, _, _, _, _, _, _⟩ := row6_cells G2) | fail)
  go_ret
  exact ⟨rfl, below_more G3 hb4⟩
theorem Same_yes : ∀ (f : Nat) (x : JB), x.ht ≤ f → ∀ (A B : Array Value) (Z1 Z2 : Nat → Prop) (w : World), JIn w Z1 A x → JIn w Z2 B x →
    Calls Tryd.prog 14 #[.agg A, .agg B] w fun e w' => e = .returned (.bool true) ∧ Below w.heap.size w w' := by
  intro f
  induction f with
  | zero =>
    intro x hx
    cases x
    simp only [JB.ht] at hx
    omega
  | succ f ih =>
    intro x hx A B Z1 Z2 w hA hB
    cases hA with
    | mk k b m t ns vs nq iq nc ic F1 hk hn hnc hic hnm him hnq hiq hN hI hR =>
      generalize hv : JB.mk k b m t ns vs = v at hB
      cases hB with
      | mk k' b' m' t' ns' vs' nq' iq' nc' ic' F2 hk' hn' hnc' hic' hnm' him' hnq' hiq' hN' hI' hR' =>
        cases hv
        simp only [JB.ht] at hx
        refine same_walk k b m t ns vs nq iq nq' iq' nc ic nc' ic' F1 F2 Z1 Z2 w hN hN' (Nat.le_trans hnc hnm) hI hI' (Nat.le_trans hic him) hR hR' ?_
        intro i y hy w' hb
        exact ih y (by have := ht_at hy; omega) (F1 i) (F2 i) Z1 Z2 w' ((hR i y hy).bel hb) ((hR' i y hy).bel hb)
theorem Same_one (x : JB) (A B : Array Value) (Z1 Z2 : Nat → Prop) (w : World) (hA : JIn w Z1 A x) (hB : JIn w Z2 B x) :
    Calls Tryd.prog 14 #[.agg A, .agg B] w fun e w' => e = .returned (.bool true) ∧ Below w.heap.size w w' := Same_yes x.ht x (Nat.le_refl _) A B Z1 Z2 w hA hB
end Go.Proofs.YtblnoekogdpolaaDoor
