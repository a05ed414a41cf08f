import Derived.Test.YtblnoekogdpolaaDoorJTxt
namespace Go.Proofs.YtblnoekogdpolaaDoor
open Go.RowKit Go.WideShapes Go.Joins
inductive MnI (n g : Nat) (box : Obj) (w : World) (t5 t : Value) (wr : World) : Prop where
  | intro (k : Nat) (m : Int) (hk : k ≤ n) (ht : t = .int .i64 (k : Int)) (h5 : t5 = .int .i64 m) (hb : Below w.heap.size w wr) (hg : wr.heap[g]? = some box)
set_option maxHeartbeats 4000000 in
set_option maxRecDepth 8000 in
theorem many_walk (k : Nat) (b : Bool) (m : Int) (t : ByteArray) (ns : List ByteArray) (vs : List JB) (nq iq : Option Addr) (nc ic : Nat) (F : Nat → Array Value) (Z : Nat → Prop) (d : Nat) (hd : d ≤ 60) (w : World)
    (hN : SsIn w Z nq ns) (hnl : ns.length ≤ maxLen) (hI : VsIn w Z iq F vs.length) (hil : vs.length ≤ maxLen) (hR : ∀ i x, vs[i]? = some x → JIn w Z (F i) x)
    (hcall : ∀ i x, vs[i]? = some x → ∀ w', Below w.heap.size w w' → Calls Tryd.prog 41 #[.agg (F i), .int .i64 ((d : Int) + 1)] w' fun e w'' => (∃ n, e = .returned (.int .i64 n)) ∧ Below w'.heap.size w' w'') :
    Calls Tryd.prog 41 #[.agg (jA k b m t nq ns.length nc iq vs.length ic), .int .i64 (d : Int)] w fun e w' => (∃ n, e = .returned (.int .i64 n)) ∧ Below w.heap.size w w' := by
  have b1 := below_new w (.cells (jA k b m t nq ns.length nc iq vs.length ic) 25)
  have n1 := _root_.Go.heap_alloc_new w (.cells (jA k b m t nq ns.length nc iq vs.length ic) 25)
  obtain ⟨⟨c0, c1, c2, c3, c4, c5⟩, f0, f1, f2, f3, f4, f5⟩ := row6_cells n1
  obtain ⟨N, hN2⟩ : ∃ N, vs.length = N := ⟨_, rfl⟩
  obtain ⟨L, hL2⟩ : ∃ L, ns.length = L := ⟨_, rfl⟩
  have HH : Hid (SsIn w Z nq ns ∧ VsIn w Z iq F N ∧ (∀ i x, vs[i]? = some x → JIn w Z (F i) x) ∧ vs.length = N ∧ ns.length = L) := ⟨hN, by rw [← hN2]; exact hI, hR, hN2, hL2⟩
  obtain ⟨D, hD⟩ : ∃ D : Int, (d : Int) = D := ⟨_, rfl⟩
  rw [hD] at hcall ⊢
  have HC : Hid (∀ i x, vs[i]? = some x → ∀ w', Below w.heap.size w w' → Calls Tryd.prog 41 #[.agg (F i), .int .i64 (D + 1)] w' fun e w'' => (∃ n, e = .returned (.int .i64 n)) ∧ Below w'.heap.size w' w'') := hcall
  have hD0 : 0 ≤ D := by omega
  have hD1 : ¬ (60 : Int) < D := by omega
  rw [hN2, hL2] at n1 b1 c0 c1 c2 c3 c4 c5 f0 f1 f2 f3 f4 f5 ⊢
  have hmx : (N : Int) ≤ 9223372036854775807 := by unfold maxLen at hil; omega
  have hmy : (L : Int) ≤ 9223372036854775807 := by unfold maxLen at hnl; omega
  have HB : Hid (Below w.heap.size w (w.alloc (.cells (jA k b m t nq L nc iq N ic) 25)) ∧ (w.alloc (.cells (jA k b m t nq L nc iq N ic) 25)).heap[w.heap.size]? = some (.cells (jA k b m t nq L nc iq N ic) 25 (0, 0))) := ⟨b1, n1⟩
  unfold jA at HB c0 c1 c2 c3 c4 c5 f0 f1 f2 f3 f4 f5 ⊢
  clear b1 n1 hN hnl hI hil hR hcall hN2 hL2 hD hd
  go_enter Tryd.func41, Tryd.ntmps41
  go_wp2_with fail
  clear c0 c1 c2 c3 c4 c5 f0 f1 f2 f3 f4 f5
  go_loopw [5, 6] (fun t5 tk wr => MnI L w.heap.size (.cells #[.int .u8 (k : Int), .bool b, .int .i64 m, .string t, .slice nq L nc, .slice iq N ic] 25 (0, 0)) w t5 tk wr) (fun _ tk _ => L - (intOf tk).toNat)
  case atStart => exact ⟨0, _, Nat.zero_le _, rfl, rfl, HB.out.1, HB.out.2⟩
  case round =>
    obtain ⟨i, s, hi, rfl, rfl, hb, hg⟩ := hrel
    obtain ⟨⟨r0, r1, r2, r3, r4, r5⟩, _, _, _, _, _, _⟩ := row6_cells hg
    by_cases hlt : i < L
    · have hiI : (i : Int) < (L : Int) := by omega
      have hi0 : (0 : Int) ≤ (i : Int) := by omega
      obtain ⟨ib, io, rfl⟩ := HH.out.1.addr (by have := HH.out.2.2.2.2; omega)
      have hcell := below_cell (HH.out.1.at (i := i) (by have := HH.out.2.2.2.2; omega)) hb
      generalize ns.getD i ByteArray.empty = u at hcell
      have HQ : Hid (Below w.heap.size w wr ∧ wr.heap[w.heap.size]? = some (.cells #[.int .u8 (k : Int), .bool b, .int .i64 m, .string t, .slice (some ⟨ib, io, none⟩) L nc, .slice iq N ic] 25 (0, 0)) ∧ i < L) := ⟨hb, hg, hlt⟩
      clear hb hg hi hlt
      go_wp2_with fail
      go_roundw
      case rel => exact ⟨i + 1, _, by have := HQ.out.2.2; omega, by go_num, rfl, HQ.out.1, HQ.out.2.1⟩
      case measure => have := HQ.out.2.2; simp [intOf]; omega
    · obtain rfl : i = L := by omega
      have HQ : Hid (Below w.heap.size w wr ∧ wr.heap[w.heap.size]? = some (.cells #[.int .u8 (k : Int), .bool b, .int .i64 m, .string t, .slice nq i nc, .slice iq N ic] 25 (0, 0))) := ⟨hb, hg⟩
      clear hb hg hi hlt
      go_wp2_with fail
      clear r0 r1 r2 r3 r4 r5
      go_loopw [5, 7] (fun t5 tk wr => MnI N w.heap.size (.cells #[.int .u8 (k : Int), .bool b, .int .i64 m, .string t, .slice nq i nc, .slice iq N ic] 25 (0, 0)) w t5 tk wr) (fun _ tk _ => N - (intOf tk).toNat)
      case atStart => exact ⟨0, _, Nat.zero_le _, rfl, rfl, HQ.out.1, HQ.out.2⟩
      case round =>
        obtain ⟨j, s2, hj, rfl, rfl, hb, hg⟩ := hrel
        obtain ⟨⟨r0, r1, r2, r3, r4, r5⟩, _, _, _, _, _, _⟩ := row6_cells hg
        by_cases hlt : j < N
        · have hjI : (j : Int) < (N : Int) := by omega
          have hj0 : (0 : Int) ≤ (j : Int) := by omega
          by_cases hbig : s2 < 1000000
          · obtain ⟨x, hx⟩ : ∃ x, vs[j]? = some x := ⟨_, List.getElem?_eq_getElem (by have := HH.out.2.2.2.1; omega)⟩
            obtain ⟨ib, io, rfl⟩ := HH.out.2.1.addr (by omega)
            have hcells := (HH.out.2.1.at hlt).2
            obtain ⟨k', b', n', t', nq', nl', nc', iq', il', ic', hF⟩ := jin_form (HH.out.2.2.1 j x hx)
            have HCx := HC.out j x hx
            rw [hF] at hcells HCx
            obtain ⟨z0, z1, z2, z3, z4, z5⟩ := (jat_of hcells).below hb
            have FX := HCx wr hb
            have HQ2 : Hid (Below w.heap.size w wr ∧ wr.heap[w.heap.size]? = some (.cells #[.int .u8 (k : Int), .bool b, .int .i64 m, .string t, .slice nq i nc, .slice (some ⟨ib, io, none⟩) N ic] 25 (0, 0)) ∧ j < N) := ⟨hb, hg, hlt⟩
            unfold jA at FX
            clear hb hg hj hlt hcells hF HCx hx
            go_wp2_with (first | (go_at_call 41; refine FX.mono ?_; rintro e w3 ⟨⟨n3, rfl⟩, hb3⟩) | fail)
            go_roundw
            case rel => exact ⟨j + 1, _, by have := HQ2.out.2.2; omega, by go_num, rfl, below_more HQ2.out.1 hb3, box_below HQ2.out.2.1 hb3⟩
            case measure => have := HQ2.out.2.2; simp [intOf]; omega
          · have HQ2 : Hid (Below w.heap.size w wr) := hb
            clear hb hg hj hlt
            go_wp2_with fail
            go_ret
            exact ⟨⟨_, rfl⟩, HQ2.out⟩
        · obtain rfl : j = N := by omega
          have HQ2 : Hid (Below w.heap.size w wr) := hb
          clear hb hg hj hlt
          go_wp2_with fail
          go_ret
          exact ⟨⟨_, rfl⟩, HQ2.out⟩
theorem many_deep (A : Array Value) (v : JB) (Z : Nat → Prop) (w : World) (h : JIn w Z A v) : Calls Tryd.prog 41 #[.agg A, .int .i64 61] w fun e w' => (∃ n, e = .returned (.int .i64 n)) ∧ Below w.heap.size w w' := by
  obtain ⟨k, b, n, t, nq, nl, nc, iq, il, ic, rfl⟩ := jin_form h
  have b1 := below_new w (.cells (jA k b n t nq nl nc iq il ic) 25)
  have HB : Hid (Below w.heap.size w (w.alloc (.cells (jA k b n t nq nl nc iq il ic) 25))) := b1
  unfold jA at HB ⊢
  clear b1 h
  go_enter Tryd.func41, Tryd.ntmps41
  go_wp2_with fail
  go_ret
  exact ⟨⟨_, rfl⟩, HB.out⟩
theorem many_any : ∀ (f d : Nat), d + f = 61 → ∀ (A : Array Value) (v : JB) (Z : Nat → Prop) (w : World), JIn w Z A v →
    Calls Tryd.prog 41 #[.agg A, .int .i64 (d : Int)] w fun e w' => (∃ n, e = .returned (.int .i64 n)) ∧ Below w.heap.size w w' := by
  intro f
  induction f with
  | zero =>
    intro d hd A v Z w h
    obtain rfl : d = 61 := by omega
    exact many_deep A v Z w h
  | succ f ih =>
    intro d hd A v Z w h
    cases h with
    | mk k b n t ns vs nq iq nc ic F hk hn hnc hic hnm him hnq hiq hN hI hR =>
      refine many_walk k b n t ns vs nq iq nc ic F Z d (by omega) w hN (Nat.le_trans hnc hnm) hI (Nat.le_trans hic him) hR ?_
      intro i x hx w' hb
      have R := ih (d + 1) (by omega) (F i) x Z w' ((hR i x hx).bel hb)
      rw [show ((d + 1 : Nat) : Int) = (d : Int) + 1 by omega] at R
      exact R
theorem great_any (A : Array Value) (v : JB) (Z : Nat → Prop) (w : World) (h : JIn w Z A v) : Calls Tryd.prog 19 #[.agg A] w fun e w' => (∃ g : Bool, e = .returned (.bool g)) ∧ Below w.heap.size w w' := by
  obtain ⟨k, b, n, t, nq, nl, nc, iq, il, ic, rfl⟩ := jin_form h
  have b1 := below_new w (.cells (jA k b n t nq nl nc iq il ic) 25)
  have n1 := _root_.Go.heap_alloc_new w (.cells (jA k b n t nq nl nc iq il ic) 25)
  have M := many_any 61 0 rfl _ v Z _ (h.bel b1)
  obtain ⟨⟨c0, c1, c2, c3, c4, c5⟩, _, _, _, _, _, _⟩ := row6_cells n1
  rw [show (((0 : Nat) : Int)) = 0 from rfl] at M
  have HB : Hid (Below w.heap.size w (w.alloc (.cells (jA k b n t nq nl nc iq il ic) 25))) := b1
  unfold jA at HB M c0 c1 c2 c3 c4 c5 ⊢
  clear b1 n1 h
  go_enter Tryd.func19, Tryd.ntmps19
  go_wp2_with (go_at_call 41; refine M.mono ?_; rintro e w3 ⟨⟨n3, rfl⟩, hb3⟩)
  go_ret
  exact ⟨⟨_, rfl⟩, below_more HB.out hb3⟩
end Go.Proofs.YtblnoekogdpolaaDoor
