import Derived.Test.YtblnoekogdpolaaDoorJCkR
namespace Go.Proofs.YtblnoekogdpolaaDoor
open Go.RowKit Go.WideShapes Go.Joins
inductive RfI (vs : List JB) (d : Nat) (w : World) (t : Value) (wr : World) : Prop where
  | intro (k : Nat) (hk : k ≤ vs.length) (ht : t = .int .i64 (k : Int)) (he : chksB (vs.drop k) (d + 1) = chksB vs (d + 1)) (hb : Below w.heap.size w wr)
set_option maxHeartbeats 4000000 in
set_option maxRecDepth 8000 in
theorem refused_walk (k : Nat) (b : Bool) (n : Int) (t : ByteArray) (ns : List ByteArray) (vs : List JB) (nq iq : Option Addr) (nc ic : Nat) (F : Nat → Array Value) (Z : Nat → Prop) (d : Nat) (hd : d ≤ 40) (w : World) (h8 : 8 ≤ w.heap.size) (hL : Laid w)
    (h : JIn w Z (jA k b n t nq ns.length nc iq vs.length ic) (.mk k b n t ns vs)) (hI : VsIn w Z iq F vs.length) (hR : ∀ i x, vs[i]? = some x → JIn w Z (F i) x)
    (hcall : aloneB k b n t ns vs.length d = 0 → ∀ i x, vs[i]? = some x → ∀ w', Below w.heap.size w w' → Calls Tryd.prog 43 #[.agg (F i), .int .i64 ((d + 1 : Nat) : Int)] w' fun e w'' => e = .returned (.int .i64 (chkB x (d + 1) : Int)) ∧ Below w'.heap.size w' w'') :
    Calls Tryd.prog 43 #[.agg (jA k b n t nq ns.length nc iq vs.length ic), .int .i64 (d : Int)] w fun e w' => e = .returned (.int .i64 (chkB (.mk k b n t ns vs) d : Int)) ∧ Below w.heap.size w w' := by
  have b1 := below_new w (.cells (jA k b n t nq ns.length nc iq vs.length ic) 25)
  have n1 := _root_.Go.heap_alloc_new w (.cells (jA k b n t nq ns.length nc iq vs.length ic) 25)
  have hz1 := b1.size
  obtain ⟨hk, hnc, hnm, hN⟩ : k < 256 ∧ ns.length ≤ nc ∧ nc ≤ maxLen ∧ SsIn w Z nq ns := by
    generalize hA : jA k b n t nq ns.length nc iq vs.length ic = A at h
    generalize hV : JB.mk k b n t ns vs = V at h
    cases h with
    | mk k' b' n' t' ns' vs' nq' iq' nc' ic' F' hk hn hnc hic hnm him hnq hiq hN hI hR =>
      cases hV
      unfold jA at hA
      simp only [Array.mk.injEq, List.cons.injEq, Value.slice.injEq, and_true, true_and] at hA
      obtain ⟨⟨rfl, rfl⟩, _⟩ := hA
      exact ⟨hk, hnc, hnm, hN⟩
  have AL := alone_any k b n t nq iq ns nc vs.length ic hk d Z _ (Nat.le_trans h8 hz1) (hL.below b1 h8) (hN.below b1) hnc hnm
  have hC : chkB (.mk k b n t ns vs) d = if aloneB k b n t ns vs.length d = 0 then chksB vs (d + 1) else aloneB k b n t ns vs.length d := rfl
  generalize chkB (.mk k b n t ns vs) d = CN at hC ⊢
  generalize aloneB k b n t ns vs.length d = a at AL hC hcall
  obtain ⟨⟨c0, c1, c2, c3, c4, c5⟩, f0, f1, f2, f3, f4, f5⟩ := row6_cells n1
  have HX : Hid (∀ w', Below (w.alloc (.cells (jA k b n t nq ns.length nc iq vs.length ic) 25)).heap.size (w.alloc (.cells (jA k b n t nq ns.length nc iq vs.length ic) 25)) w' → w'.heap[w.heap.size]? = some (.cells (jA k b n t nq ns.length nc iq vs.length ic) 25 (0, 0)) ∧ Below w.heap.size w w') := fun w' hb =>
    ⟨box_below n1 hb, below_more b1 hb⟩
  by_cases ha : a ≠ 0
  · have HA : Hid (CN = a) := by show _ = _; rw [hC, if_neg ha]
    have hx : ((a : Int) != 0) = true := by simpa using fun e : (a : Int) = 0 => ha (by omega)
    unfold jA at AL HX c0 c1 c2 c3 c4 c5 f0 f1 f2 f3 f4 f5 ⊢
    clear hC ha b1 n1 h8 hL h hI hR hcall hk hnc hnm hN hd hz1
    go_enter Tryd.func43, Tryd.ntmps43
    go_wp2_with (first | (go_at_call 77; refine AL.mono ?_; rintro e w1 ⟨rfl, hb1⟩; obtain ⟨n1, B1⟩ := HX.out w1 hb1) | fail)
    go_ret
    exact ⟨by rw [HA.out]; rfl, B1⟩
  have ha := Classical.not_not.1 ha
  subst ha
  have HA : Hid (CN = chksB vs (d + 1)) := by show _ = _; rw [hC, if_pos rfl]
  have hcall := hcall rfl
  obtain ⟨N, hN2⟩ : ∃ N, vs.length = N := ⟨_, rfl⟩
  have HH : Hid (VsIn w Z iq F N ∧ (∀ i x, vs[i]? = some x → JIn w Z (F i) x) ∧ vs.length = N ∧ d ≤ 40 ∧ ∀ i x, vs[i]? = some x → ∀ w', Below w.heap.size w w' → Calls Tryd.prog 43 #[.agg (F i), .int .i64 ((d + 1 : Nat) : Int)] w' fun e w'' => e = .returned (.int .i64 (chkB x (d + 1) : Int)) ∧ Below w'.heap.size w' w'') :=
    ⟨by rw [← hN2]; exact hI, hR, hN2, hd, hcall⟩
  have hmx : (N : Int) ≤ 9223372036854775807 := by
    have : vs.length ≤ maxLen := by
      generalize hA : jA k b n t nq ns.length nc iq vs.length ic = A at h
      generalize hV : JB.mk k b n t ns vs = V at h
      cases h with
      | mk k' b' n' t' ns' vs' nq' iq' nc' ic' F' hk hn hnc hic hnm him hnq hiq hN hI hR =>
        cases hV
        exact Nat.le_trans hic him
    unfold maxLen at this
    omega
  rw [hN2] at AL HX c0 c1 c2 c3 c4 c5 f0 f1 f2 f3 f4 f5 ⊢
  rw [show (((0 : Nat) : Int)) = 0 from rfl] at AL
  obtain ⟨D, hD⟩ : ∃ D : Int, (d : Int) = D := ⟨_, rfl⟩
  rw [hD] at AL ⊢
  have hw1 : ((d + 1 : Nat) : Int) = D + 1 := by omega
  have HW1 : Hid (((d + 1 : Nat) : Int) = D + 1) := hw1
  clear hw1
  have hD0 : 0 ≤ D := by omega
  have hD1 : D ≤ 40 := by omega
  have HD : Hid ((d : Int) = D) := hD
  unfold jA at AL HX c0 c1 c2 c3 c4 c5 f0 f1 f2 f3 f4 f5 ⊢
  clear hC b1 n1 h8 hL h hI hR hcall hk hnc hnm hN hd hz1 hN2 hD
  go_enter Tryd.func43, Tryd.ntmps43
  go_wp2_with (first | (go_at_call 77; refine AL.mono ?_; rintro e w1 ⟨rfl, hb1⟩; obtain ⟨n1, B1⟩ := HX.out w1 hb1; obtain ⟨⟨y0, y1, y2, y3, y4, y5⟩, g0, g1, g2, g3, g4, g5⟩ := row6_cells n1) | fail)
  clear AL c0 c1 c2 c3 c4 c5 f0 f1 f2 f3 f4 f5 y0 y1 y2 y3 y4 y5 g0 g1 g2 g3 g4 g5
  go_loopw [18] (fun t wr => RfI vs d w t wr) (fun t _ => N - (intOf t).toNat)
  case atStart => exact ⟨0, Nat.zero_le _, rfl, rfl, B1⟩
  case round =>
    clear B1 n1 hb1
    obtain ⟨i, hi, rfl, he, hb⟩ := hrel
    have HB : Hid (Below w.heap.size w wr) := hb
    by_cases hlt : i < N
    · have hiI : (i : Int) < (N : Int) := by omega
      have hi0 : (0 : Int) ≤ (i : Int) := by omega
      have hil : i < vs.length := by rw [HH.out.2.2.1]; exact hlt
      obtain ⟨x, hx⟩ : ∃ x, vs[i]? = some x := ⟨_, List.getElem?_eq_getElem hil⟩
      obtain ⟨ib, io, rfl⟩ := HH.out.1.addr (by omega)
      have hcells := (HH.out.1.at hlt).2
      obtain ⟨k', b', n', t', nq', nl', nc', iq', il', ic', hF⟩ := jin_form (HH.out.2.1 i x hx)
      have HC := HH.out.2.2.2.2 i x hx
      rw [hF] at hcells HC
      have hdrop : vs.drop i = x :: vs.drop (i + 1) := by
        rw [List.drop_eq_getElem_cons hil]
        rw [List.getElem?_eq_getElem hil] at hx
        rw [Option.some.inj hx]
      obtain ⟨z0, z1, z2, z3, z4, z5⟩ := (jat_of hcells).below hb
      have HE : Hid ((if chkB x (d + 1) = 0 then chksB (vs.drop (i + 1)) (d + 1) else chkB x (d + 1)) = chksB vs (d + 1) ∧ i < N) := ⟨by rw [← he, hdrop]; rfl, hlt⟩
      generalize hcx : chkB x (d + 1) = c at HC HE
      rw [HW1.out] at HC
      have BX : Below w.heap.size w (wr.alloc (.cells #[.int .u8 (k' : Int), .bool b', .int .i64 n', .string t', .slice nq' nl' nc', .slice iq' il' ic'] 25)) := hb.alloc hb.size _
      have RX : (wr.alloc (.cells #[.int .u8 (k' : Int), .bool b', .int .i64 n', .string t', .slice nq' nl' nc', .slice iq' il' ic'] 25)).heap[wr.heap.size]? = some (.cells #[.int .u8 (k' : Int), .bool b', .int .i64 n', .string t', .slice nq' nl' nc', .slice iq' il' ic'] 25 (0, 0)) := _root_.Go.heap_alloc_new _ _
      have FX := HC _ BX
      obtain ⟨⟨x0, x1, x2, x3, x4, x5⟩, _, _, _, _, _, _⟩ := row6_cells RX
      unfold jA at FX
      clear hcells hF hdrop he hb HC hx hil hi hcx RX
      by_cases hc0 : c = 0
      · subst hc0
        rw [show (((0 : Nat) : Int)) = 0 from rfl] at FX
        go_wp2_with (first | (go_at_call 43; refine FX.mono ?_; rintro e w3 ⟨rfl, hb3⟩) | fail)
        go_roundw
        case rel =>
          have H := HE.out
          rw [if_pos trivial] at H
          exact ⟨i + 1, by rw [HH.out.2.2.1]; omega, by go_num, H.1, below_more BX hb3⟩
        case measure => have H := HE.out; simp [intOf]; omega
      · have hcI : ((c : Int) != 0) = true := by simpa using fun e : (c : Int) = 0 => hc0 (by omega)
        have HR : Hid (chksB vs (d + 1) = c) := by
          have H := HE.out
          rw [if_neg hc0] at H
          exact H.1.symm
        clear hc0 hlt
        go_wp2_with (first | (go_at_call 43; refine FX.mono ?_; rintro e w3 ⟨rfl, hb3⟩) | fail)
        go_ret
        exact ⟨by rw [HA.out, HR.out]; rfl, below_more BX hb3⟩
    · have hiN : i = N := by have := HH.out.2.2.1; omega
      subst hiN
      have HR : Hid (chksB vs (d + 1) = 0) := by
        show _ = _
        rw [← he, ← HH.out.2.2.1, List.drop_length]; rfl
      clear he hb hi hlt
      go_wp2
      go_ret
      exact ⟨by rw [HA.out, HR.out]; rfl, HB.out⟩
theorem has_items {k : Nat} {b : Bool} {n : Int} {t : ByteArray} {ns : List ByteArray} {nv d : Nat} (h : aloneB k b n t ns nv d = 0) (hv : 0 < nv) : d ≤ 32 := by
  unfold aloneB at h
  split at h
  · cases h
  rename_i hp
  have hp := Classical.not_not.1 hp
  split at h
  · cases h
  split at h
  · cases h
  rename_i hd
  unfold HasP at hp
  omega
theorem refused_any : ∀ (f d : Nat), d + f = 33 → ∀ (A : Array Value) (v : JB) (Z : Nat → Prop) (w : World), 8 ≤ w.heap.size → Laid w → JIn w Z A v →
    Calls Tryd.prog 43 #[.agg A, .int .i64 (d : Int)] w fun e w' => e = .returned (.int .i64 (chkB v d : Int)) ∧ Below w.heap.size w w' := by
  intro f
  induction f with
  | zero =>
    intro d hd A v Z w h8 hL h
    cases h with
    | mk k b n t ns vs nq iq nc ic F hk hn hnc hic hnm him hnq hiq hN hI hR =>
      refine refused_walk k b n t ns vs nq iq nc ic F Z d (by omega) w h8 hL (.mk k b n t ns vs nq iq nc ic F hk hn hnc hic hnm him hnq hiq hN hI hR) hI hR ?_
      intro ha i x hx
      have hp : 0 < vs.length := by
        rcases Nat.lt_or_ge i vs.length with h' | h'
        · omega
        · rw [List.getElem?_eq_none h'] at hx; cases hx
      exact absurd (has_items ha hp) (by omega)
  | succ f ih =>
    intro d hd A v Z w h8 hL h
    cases h with
    | mk k b n t ns vs nq iq nc ic F hk hn hnc hic hnm him hnq hiq hN hI hR =>
      refine refused_walk k b n t ns vs nq iq nc ic F Z d (by omega) w h8 hL (.mk k b n t ns vs nq iq nc ic F hk hn hnc hic hnm him hnq hiq hN hI hR) hI hR ?_
      intro ha i x hx w' hb
      exact ih (d + 1) (by omega) (F i) x Z w' (Nat.le_trans h8 hb.size) (hL.below hb h8) ((hR i x hx).bel hb)
theorem Check_any (A : Array Value) (v : JB) (Z : Nat → Prop) (w : World) (h8 : 8 ≤ w.heap.size) (hL : Laid w) (h : JIn w Z A v) :
    Calls Tryd.prog 22 #[.agg A] w fun e w' => e = .returned (.int .i64 (chkB v 1 : Int)) ∧ Below w.heap.size w w' := by
  obtain ⟨k, b, n, t, nq, nl, nc, iq, il, ic, rfl⟩ := jin_form h
  have b1 := below_new w (.cells (jA k b n t nq nl nc iq il ic) 25)
  have n1 := _root_.Go.heap_alloc_new w (.cells (jA k b n t nq nl nc iq il ic) 25)
  have R := refused_any 32 1 (by omega) _ v Z _ (Nat.le_trans h8 b1.size) (hL.below b1 h8) (h.bel b1)
  have HB : Hid (Below w.heap.size w (w.alloc (.cells (jA k b n t nq nl nc iq il ic) 25))) := b1
  obtain ⟨⟨c0, c1, c2, c3, c4, c5⟩, f0, f1, f2, f3, f4, f5⟩ := row6_cells n1
  rw [show (((1 : Nat) : Int)) = 1 from rfl] at R
  unfold jA at R HB c0 c1 c2 c3 c4 c5 f0 f1 f2 f3 f4 f5 ⊢
  clear b1 n1 h8 hL h
  go_enter Tryd.func22, Tryd.ntmps22
  go_wp2_with (go_at_call 43; refine R.mono ?_; rintro e w1 ⟨rfl, hb1⟩)
  go_ret
  exact ⟨rfl, below_more HB.out hb1⟩
end Go.Proofs.YtblnoekogdpolaaDoor
