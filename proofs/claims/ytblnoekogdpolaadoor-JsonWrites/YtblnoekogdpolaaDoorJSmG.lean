import Derived.Test.YtblnoekogdpolaaDoorJSame
namespace Go.Proofs.YtblnoekogdpolaaDoor
open Go.RowKit Go.WideShapes Go.Joins
def Says (p : Prop) (w : World) (e : Ending) (w' : World) : Prop := (∃ s : Bool, e = .returned (.bool s) ∧ (s = true ↔ p)) ∧ Below w.heap.size w w'
theorem Says.yes {p : Prop} {w w' : World} (hp : p) (hb : Below w.heap.size w w') : Says p w (.returned (.bool true)) w' := ⟨⟨true, rfl, ⟨fun _ => hp, fun _ => rfl⟩⟩, hb⟩
theorem Says.no {p : Prop} {w w' : World} (hp : ¬ p) (hb : Below w.heap.size w w') : Says p w (.returned (.bool false)) w' := ⟨⟨false, rfl, ⟨fun h => (by cases h), fun h => absurd h hp⟩⟩, hb⟩
theorem Says.more {p : Prop} {w w1 w' : World} {e : Ending} (h : Says p w1 e w') (hb : Below w.heap.size w w1) : Says p w e w' := ⟨h.1, below_more hb h.2⟩
theorem eqNames_len (n m c1 c2 : Nat) (q1 q2 : Option Addr) (w : World) (h : n ≠ m) :
    Calls Tryd.prog 36 #[.slice q1 n c1, .slice q2 m c2] w fun e w' => e = .returned (.bool false) ∧ w' = w := by
  have hnm' : ¬ (n : Int) = (m : Int) := by omega
  have hne : ((n : Int) != (m : Int)) = true := by simpa using hnm'
  clear h
  go_enter Tryd.func36, Tryd.ntmps36
  go_wp2_with fail
  go_ret
  exact ⟨rfl, rfl⟩
theorem eqNames_any (ns ms : List ByteArray) (q1 q2 : Option Addr) (c1 c2 : Nat) (Z1 Z2 : Nat → Prop) (w : World) (h1 : SsIn w Z1 q1 ns) (h2 : SsIn w Z2 q2 ms) (hl : ns.length ≤ maxLen) (hl2 : ms.length ≤ maxLen) :
    Calls Tryd.prog 36 #[.slice q1 ns.length c1, .slice q2 ms.length c2] w fun e w' => Says (ns = ms) w e w' := by
  unfold maxLen at hl hl2
  by_cases hlen : ns.length = ms.length
  · by_cases h0 : ns.length = 0
    · have e1 : ns = [] := List.eq_nil_of_length_eq_zero h0
      have e2 : ms = [] := List.eq_nil_of_length_eq_zero (by omega)
      rw [h0]
      refine (Any.slices_Equal_string_empty lays193 q1 q2 c1 ms.length c2 w (by omega)).mono ?_
      rintro e w' ⟨rfl, hw⟩
      rw [hw, decide_eq_true (by omega)]
      exact Says.yes (by rw [e1, e2]) (Below.refl _ _)
    · obtain ⟨b1, o1, rfl⟩ := h1.addr (by omega)
      obtain ⟨b2, o2, rfl⟩ := h2.addr (by omega)
      refine (Any.slices_Equal_string lays193 b1 o1 ns.length c1 b2 o2 ms.length c2 ns ms w (Nat.le_refl _) (Nat.le_refl _) (by omega) (by omega) (fun j hj => h1.at hj) (fun j hj => h2.at hj)).mono ?_
      rintro e w' ⟨rfl, q, hw⟩
      rw [hw, List.take_length, List.take_length]
      by_cases h : ns = ms
      · rw [decide_eq_true h]
        exact Says.yes h (below_dN (Below.refl _ _) q)
      · rw [decide_eq_false h]
        exact Says.no h (below_dN (Below.refl _ _) q)
  · refine (eqNames_len _ _ c1 c2 q1 q2 w hlen).mono ?_
    rintro e w' ⟨rfl, hw⟩
    rw [hw]
    exact Says.no (fun h => hlen (by rw [h])) (Below.refl _ _)
theorem eqItems_len (n m c1 c2 : Nat) (q1 q2 : Option Addr) (w : World) (h : n ≠ m) :
    Calls Tryd.prog 37 #[.slice q1 n c1, .slice q2 m c2, sameV] w fun e w' => e = .returned (.bool false) ∧ w' = w := by
  have hnm' : ¬ (n : Int) = (m : Int) := by omega
  have hne : ((n : Int) != (m : Int)) = true := by simpa using hnm'
  clear h
  unfold sameV
  go_enter Tryd.func37, Tryd.ntmps37
  go_wp2_with fail
  go_ret
  exact ⟨rfl, rfl⟩
inductive SgI (n : Nat) (vs us : List JB) (w : World) (t : Value) (wr : World) : Prop where
  | intro (k : Nat) (hk : k ≤ n) (ht : t = .int .i64 (k : Int)) (hb : Below w.heap.size w wr) (he : ∀ j, j < k → vs[j]? = us[j]?)
theorem all_same {α : Type} {vs us : List α} {n : Nat} (h1 : vs.length = n) (h2 : us.length = n) (h : ∀ j, j < n → vs[j]? = us[j]?) : vs = us := by
  apply List.ext_getElem?
  intro j
  rcases Nat.lt_or_ge j n with hj | hj
  · exact h j hj
  · rw [List.getElem?_eq_none (by omega), List.getElem?_eq_none (by omega)]
set_option maxHeartbeats 2000000 in
set_option maxRecDepth 8000 in
theorem eqItems_any (vs us : List JB) (q1 q2 : Option Addr) (c1 c2 : Nat) (F1 F2 : Nat → Array Value) (Z1 Z2 : Nat → Prop) (w : World) (h1 : VsIn w Z1 q1 F1 vs.length) (h2 : VsIn w Z2 q2 F2 us.length) (hl : vs.length ≤ maxLen)
    (hf1 : ∀ i x, vs[i]? = some x → JIn w Z1 (F1 i) x) (hf2 : ∀ i x, us[i]? = some x → JIn w Z2 (F2 i) x)
    (hcall : ∀ i x y, vs[i]? = some x → us[i]? = some y → ∀ w', Below w.heap.size w w' → Calls Tryd.prog 14 #[.agg (F1 i), .agg (F2 i)] w' fun e w'' => Says (x = y) w' e w'') :
    Calls Tryd.prog 37 #[.slice q1 vs.length c1, .slice q2 us.length c2, sameV] w fun e w' => Says (vs = us) w e w' := by
  by_cases hlen : vs.length = us.length
  · obtain ⟨n, hn⟩ : ∃ n, vs.length = n := ⟨_, rfl⟩
    have hn2 : us.length = n := by omega
    rw [hn] at h1 hl ⊢
    rw [hn2] at h2 ⊢
    have HH : Hid (VsIn w Z1 q1 F1 n ∧ VsIn w Z2 q2 F2 n ∧ (∀ i x, vs[i]? = some x → JIn w Z1 (F1 i) x) ∧ (∀ i x, us[i]? = some x → JIn w Z2 (F2 i) x) ∧ vs.length = n ∧ us.length = n) := ⟨h1, h2, hf1, hf2, hn, hn2⟩
    have HC : Hid (∀ i x y, vs[i]? = some x → us[i]? = some y → ∀ w', Below w.heap.size w w' → Calls Tryd.prog 14 #[.agg (F1 i), .agg (F2 i)] w' fun e w'' => Says (x = y) w' e w'') := hcall
    have hmx : (n : Int) ≤ 9223372036854775807 := by unfold maxLen at hl; omega
    have hne : ((n : Int) != (n : Int)) = false := by simp
    unfold sameV
    clear h1 h2 hl hf1 hf2 hn hn2 hcall hlen
    go_enter Tryd.func37, Tryd.ntmps37
    go_wp2_with fail
    go_loopw [17] (fun t wr => SgI n vs us w t wr) (fun t _ => n - (intOf t).toNat)
    case atStart => exact ⟨0, Nat.zero_le _, rfl, Below.refl _ _, fun j hj => absurd hj (Nat.not_lt_zero _)⟩
    case round =>
      obtain ⟨i, hi, rfl, hb, he⟩ := hrel
      have HB : Hid (Below w.heap.size w wr ∧ ∀ j, j < i → vs[j]? = us[j]?) := ⟨hb, he⟩
      clear he
      by_cases hlt : i < n
      · have hiI : (i : Int) < (n : Int) := by omega
        have hi0 : (0 : Int) ≤ (i : Int) := by omega
        obtain ⟨x, hx⟩ : ∃ x, vs[i]? = some x := ⟨_, List.getElem?_eq_getElem (by rw [HH.out.2.2.2.2.1]; exact hlt)⟩
        obtain ⟨y, hy⟩ : ∃ y, us[i]? = some y := ⟨_, List.getElem?_eq_getElem (by rw [HH.out.2.2.2.2.2]; exact hlt)⟩
        obtain ⟨ib, io, rfl⟩ := HH.out.1.addr (by omega)
        obtain ⟨jb, jo, rfl⟩ := HH.out.2.1.addr (by omega)
        have hc1 := (HH.out.1.at hlt).2
        have hc2 := (HH.out.2.1.at hlt).2
        obtain ⟨k, b, m, t, nq, nl, nc, iq, il, ic, hF1⟩ := jin_form (HH.out.2.2.1 i x hx)
        obtain ⟨k', b', m', t', nq', nl', nc', iq', il', ic', hF2⟩ := jin_form (HH.out.2.2.2.1 i y hy)
        have HCx := HC.out i x y hx hy
        rw [hF1] at hc1 HCx
        rw [hF2] at hc2 HCx
        have j1 := (jat_of hc1).below hb
        have B1 := below_new wr (.cells #[.int .u8 (k : Int), .bool b, .int .i64 m, .string t, .slice nq nl nc, .slice iq il ic] 25)
        have n1 := _root_.Go.heap_alloc_new wr (.cells #[.int .u8 (k : Int), .bool b, .int .i64 m, .string t, .slice nq nl nc, .slice iq il ic] 25)
        have j2 := ((jat_of hc2).below hb).below B1
        have B2 := below_new (wr.alloc (.cells #[.int .u8 (k : Int), .bool b, .int .i64 m, .string t, .slice nq nl nc, .slice iq il ic] 25)) (.cells #[.int .u8 (k' : Int), .bool b', .int .i64 m', .string t', .slice nq' nl' nc', .slice iq' il' ic'] 25)
        have n2 := _root_.Go.heap_alloc_new (wr.alloc (.cells #[.int .u8 (k : Int), .bool b, .int .i64 m, .string t, .slice nq nl nc, .slice iq il ic] 25)) (.cells #[.int .u8 (k' : Int), .bool b', .int .i64 m', .string t', .slice nq' nl' nc', .slice iq' il' ic'] 25)
        rw [World.size_alloc] at n2
        have n1' := box_below n1 B2
        have BF := below_more hb (below_more B1 B2)
        obtain ⟨z0, z1, z2, z3, z4, z5⟩ := j1
        obtain ⟨y0, y1, y2, y3, y4, y5⟩ := j2
        obtain ⟨⟨r0, r1, r2, r3, r4, r5⟩, _, _, _, _, _, _⟩ := row6_cells n1'
        obtain ⟨⟨x0, x1, x2, x3, x4, x5⟩, _, _, _, _, _, _⟩ := row6_cells n2
        have FX := HCx _ BF
        have HF : Hid (Below w.heap.size w ((wr.alloc (.cells #[.int .u8 (k : Int), .bool b, .int .i64 m, .string t, .slice nq nl nc, .slice iq il ic] 25)).alloc (.cells #[.int .u8 (k' : Int), .bool b', .int .i64 m', .string t', .slice nq' nl' nc', .slice iq' il' ic'] 25)) ∧ i < n ∧ vs[i]? = some x ∧ us[i]? = some y) := ⟨BF, hlt, hx, hy⟩
        unfold jA at FX
        clear hc1 hc2 hF1 hF2 HCx B1 B2 n1 n2 n1' BF hb hx hy hi hlt
        go_wp2_with (first | (go_at_call 14; refine FX.mono ?_; rintro e w3 ⟨⟨s, rfl, hs⟩, hb3⟩; cases s) | fail)
        · go_wp2_with fail
          go_ret
          refine Says.no (fun e => ?_) (below_more HF.out.1 hb3)
          have h1 := HF.out.2.2.1
          rw [e, HF.out.2.2.2] at h1
          cases h1
          simp at hs
        · go_wp2_with fail
          go_roundw
          case rel =>
            refine ⟨i + 1, by have := HF.out.2.1; omega, by go_num, below_more HF.out.1 hb3, fun j hj => ?_⟩
            rcases Nat.lt_or_ge j i with h | h
            · exact HB.out.2 j h
            · obtain rfl : j = i := by omega
              rw [HF.out.2.2.1, HF.out.2.2.2, hs.1 (by first | rfl | trivial)]
          case measure => have := HF.out.2.1; simp [intOf]; omega
      · obtain rfl : i = n := by omega
        clear hb hi hlt
        go_wp2_with fail
        go_ret
        exact Says.yes (all_same HH.out.2.2.2.2.1 HH.out.2.2.2.2.2 HB.out.2) HB.out.1
  · refine (eqItems_len _ _ c1 c2 q1 q2 w hlen).mono ?_
    rintro e w' ⟨rfl, hw⟩
    rw [hw]
    exact Says.no (fun h => hlen (by rw [h])) (Below.refl _ _)
set_option maxHeartbeats 4000000 in
set_option maxRecDepth 8000 in
theorem sameG_walk (k k' : Nat) (b b' : Bool) (m m' : Int) (t t' : ByteArray) (ns ms : List ByteArray) (vs us : List JB) (nq iq nq' iq' : Option Addr) (nc ic nc' ic' : Nat) (F1 F2 : Nat → Array Value) (Z1 Z2 : Nat → Prop) (w : World) (PR : Prop) (hPR : Hid (PR ↔ JB.mk k b m t ns vs = JB.mk k' b' m' t' ms us))
    (hn1 : SsIn w Z1 nq ns) (hn2 : SsIn w Z2 nq' ms) (hnl : ns.length ≤ maxLen) (hnl2 : ms.length ≤ maxLen) (h1 : VsIn w Z1 iq F1 vs.length) (h2 : VsIn w Z2 iq' F2 us.length) (hl : vs.length ≤ maxLen)
    (hf1 : ∀ i x, vs[i]? = some x → JIn w Z1 (F1 i) x) (hf2 : ∀ i x, us[i]? = some x → JIn w Z2 (F2 i) x)
    (hcall : ∀ i x y, vs[i]? = some x → us[i]? = some y → ∀ w', Below w.heap.size w w' → Calls Tryd.prog 14 #[.agg (F1 i), .agg (F2 i)] w' fun e w'' => Says (x = y) w' e w'') :
    Calls Tryd.prog 14 #[.agg (jA k b m t nq ns.length nc iq vs.length ic), .agg (jA k' b' m' t' nq' ms.length nc' iq' us.length ic')] w fun e w' => Says PR w e w' := by
  have B1 := below_new w (.cells (jA k b m t nq ns.length nc iq vs.length ic) 25)
  have n1 := _root_.Go.heap_alloc_new w (.cells (jA k b m t nq ns.length nc iq vs.length ic) 25)
  have B2 := below_new (w.alloc (.cells (jA k b m t nq ns.length nc iq vs.length ic) 25)) (.cells (jA k' b' m' t' nq' ms.length nc' iq' us.length ic') 25)
  have n2 := _root_.Go.heap_alloc_new (w.alloc (.cells (jA k b m t nq ns.length nc iq vs.length ic) 25)) (.cells (jA k' b' m' t' nq' ms.length nc' iq' us.length ic') 25)
  rw [World.size_alloc] at n2
  have n1' := box_below n1 B2
  have BF := below_more B1 B2
  have HB : Hid (∀ w', Below ((w.alloc (.cells (jA k b m t nq ns.length nc iq vs.length ic) 25)).alloc (.cells (jA k' b' m' t' nq' ms.length nc' iq' us.length ic') 25)).heap.size ((w.alloc (.cells (jA k b m t nq ns.length nc iq vs.length ic) 25)).alloc (.cells (jA k' b' m' t' nq' ms.length nc' iq' us.length ic') 25)) w' →
      w'.heap[w.heap.size]? = some (.cells (jA k b m t nq ns.length nc iq vs.length ic) 25 (0, 0)) ∧ w'.heap[w.heap.size + 1]? = some (.cells (jA k' b' m' t' nq' ms.length nc' iq' us.length ic') 25 (0, 0)) ∧ Below w.heap.size w w') := fun w' hb => ⟨box_below n1' hb, box_below n2 hb, below_more BF hb⟩
  have HBF : Hid (Below w.heap.size w ((w.alloc (.cells (jA k b m t nq ns.length nc iq vs.length ic) 25)).alloc (.cells (jA k' b' m' t' nq' ms.length nc' iq' us.length ic') 25))) := BF
  have hZ1 : ∀ w', Below w.heap.size w w' → ∀ a v, Z1 a.block → w.cell? a = some v → w'.cell? a = some v ∧ Z1 a.block := fun w' hb a v z hc => ⟨below_cell hc hb, z⟩
  have hZ2 : ∀ w', Below w.heap.size w w' → ∀ a v, Z2 a.block → w.cell? a = some v → w'.cell? a = some v ∧ Z2 a.block := fun w' hb a v z hc => ⟨below_cell hc hb, z⟩
  have EN := eqNames_any ns ms nq nq' nc nc' Z1 Z2 _ (hn1.mono (hZ1 _ BF)) (hn2.mono (hZ2 _ BF)) hnl hnl2
  have HI : Hid (∀ w', Below w.heap.size w w' → Calls Tryd.prog 37 #[.slice iq vs.length ic, .slice iq' us.length ic', sameV] w' fun e w'' => Says (vs = us) w' e w'') := fun w' hb =>
    eqItems_any vs us iq iq' ic ic' F1 F2 Z1 Z2 w' (h1.mono (fun i hi => (hf1 i _ (List.getElem?_eq_getElem hi)).size) (hZ1 _ hb)) (h2.mono (fun i hi => (hf2 i _ (List.getElem?_eq_getElem hi)).size) (hZ2 _ hb)) hl
      (fun i x hx => (hf1 i x hx).bel hb) (fun i x hx => (hf2 i x hx).bel hb) (fun i x y hx hy w2 hb2 => hcall i x y hx hy w2 (below_more hb hb2))
  obtain ⟨⟨r0, r1, r2, r3, r4, r5⟩, _, _, _, _, _, _⟩ := row6_cells n1'
  obtain ⟨⟨x0, x1, x2, x3, x4, x5⟩, _, _, _, _, _, _⟩ := row6_cells n2
  unfold sameV at HI
  unfold jA at EN HB HBF r0 r1 r2 r3 r4 r5 x0 x1 x2 x3 x4 x5 ⊢
  clear B1 n1 B2 n2 n1' BF hZ1 hZ2 hn1 hn2 hnl hnl2 h1 h2 hl hf1 hf2 hcall
  by_cases hk : ¬ (k = k')
  · have e0 : ((k : Int) == (k' : Int)) = false := by simpa using fun e : (k : Int) = (k' : Int) => hk (by omega)
    have HN : Hid (¬ k = k') := hk
    clear hk EN HI
    go_enter Tryd.func14, Tryd.ntmps14
    go_wp2_with fail
    go_ret
    exact Says.no (fun e => HN.out (by have h9 := hPR.out.1 e; cases h9; rfl)) HBF.out
  have hk := Classical.not_not.1 hk
  subst hk
  have e0 : ((k : Int) == (k : Int)) = true := beq_self_eq_true _
  by_cases hb : ¬ (b = b')
  · have e1 : (b == b') = false := by simpa using hb
    have HN : Hid (¬ b = b') := hb
    clear hb EN HI
    go_enter Tryd.func14, Tryd.ntmps14
    go_wp2_with fail
    go_ret
    exact Says.no (fun e => HN.out (by have h9 := hPR.out.1 e; cases h9; rfl)) HBF.out
  have hb := Classical.not_not.1 hb
  subst hb
  have e1 : (b == b) = true := beq_self_eq_true _
  by_cases hm : ¬ (m = m')
  · have e2 : (m == m') = false := by simpa using hm
    have HN : Hid (¬ m = m') := hm
    clear hm EN HI
    go_enter Tryd.func14, Tryd.ntmps14
    go_wp2_with fail
    go_ret
    exact Says.no (fun e => HN.out (by have h9 := hPR.out.1 e; cases h9; rfl)) HBF.out
  have hm := Classical.not_not.1 hm
  subst hm
  have e2 : (m == m) = true := beq_self_eq_true _
  by_cases ht : ¬ (t = t')
  · have e3 : (t.toList == t'.toList) = false := (Lib.bytes_beq_false_iff _ _).2 ht
    have HN : Hid (¬ t = t') := ht
    clear ht EN HI
    go_enter Tryd.func14, Tryd.ntmps14
    go_wp2_with fail
    go_ret
    exact Says.no (fun e => HN.out (by have h9 := hPR.out.1 e; cases h9; rfl)) HBF.out
  have ht := Classical.not_not.1 ht
  subst ht
  have e3 : (t.toList == t.toList) = true := by simp
  clear HBF
  go_enter Tryd.func14, Tryd.ntmps14
  go_wp2_with fail
  refine EN.mono ?_
  rintro e w3 ⟨⟨s1, rfl, hs1⟩, hb3⟩
  obtain ⟨G1, G2, G3⟩ := HB.out w3 hb3
  have HS1 : Hid ((s1 = true ↔ ns = ms) ∧ Below w.heap.size w w3) := ⟨hs1, G3⟩
  have EI := HI.out w3 G3
  clear r0 r1 r2 r3 r4 r5 x0 x1 x2 x3 x4 x5 EN HI hs1 hb3
  obtain ⟨⟨r0, r1, r2, r3, r4, r5⟩, _, _, _, _, _, _⟩ := row6_cells G1
  obtain ⟨⟨x0, x1, x2, x3, x4, x5⟩, _, _, _, _, _, _⟩ := row6_cells G2
  clear G1 G2 G3
  simp only []
  cases s1 with
  | false =>
    go_wp2_with fail
    go_ret
    exact Says.no (fun e => by have h9 := hPR.out.1 e; cases h9; have := HS1.out.1.2 rfl; simp at this) HS1.out.2
  | true =>
    go_wp2_with fail
    refine EI.mono ?_
    rintro e w4 ⟨⟨s2, rfl, hs2⟩, hb4⟩
    have HS2 : Hid ((s2 = true ↔ vs = us) ∧ Below w.heap.size w w4) := ⟨hs2, below_more HS1.out.2 hb4⟩
    clear EI hs2 hb4
    simp only []
    go_wp2_with fail
    go_ret
    refine ⟨⟨s2, rfl, HS2.out.1.trans ((⟨fun e => ?_, fun e => by cases e; rfl⟩ : vs = us ↔ JB.mk k b m t ns vs = JB.mk k b m t ms us).trans hPR.out.symm)⟩, HS2.out.2⟩
    rw [e, HS1.out.1.1 (by first | rfl | trivial)]
theorem Same_says : ∀ (f : Nat) (x y : JB), x.ht ≤ f → ∀ (A B : Array Value) (Z1 Z2 : Nat → Prop) (w : World), JIn w Z1 A x → JIn w Z2 B y →
    Calls Tryd.prog 14 #[.agg A, .agg B] w fun e w' => Says (x = y) w e w' := by
  intro f
  induction f with
  | zero =>
    intro x y hx
    cases x
    simp only [JB.ht] at hx
    omega
  | succ f ih =>
    intro x y hx A B Z1 Z2 w hA hB
    cases hA with
    | mk k b m t ns vs nq iq nc ic F1 hk hn hnc hic hnm him hnq hiq hN hI hR =>
      cases hB with
      | mk k' b' m' t' ns' vs' nq' iq' nc' ic' F2 hk' hn' hnc' hic' hnm' him' hnq' hiq' hN' hI' hR' =>
        simp only [JB.ht] at hx
        refine sameG_walk k k' b b' m m' t t' ns ns' vs vs' nq iq nq' iq' nc ic nc' ic' F1 F2 Z1 Z2 w _ Iff.rfl hN hN' (Nat.le_trans hnc hnm) (Nat.le_trans hnc' hnm') hI hI' (Nat.le_trans hic him) hR hR' ?_
        intro i x y hx' hy' w' hb
        exact ih x y (by have := ht_at hx'; omega) (F1 i) (F2 i) Z1 Z2 w' ((hR i x hx').bel hb) ((hR' i y hy').bel hb)
end Go.Proofs.YtblnoekogdpolaaDoor
