import Derived.Test.YtcfalgomcdmdhaaDoorJHexB
import Derived.Test.YtcfalgomcdmdhaaDoorJRead
import Derived.Test.YtcfalgomcdmdhaaDoorXShelf
import Derived.Test.YtcfalgomcdmdhaaDoorProg
import Derived.Laws.Externs
import Derived.Lib.FrozenHead2
import Derived.Test.YtcfalgomcdmdhaaDoorJChar
import Derived.Deep.RegionWith
import Derived.Test.YtcfalgomcdmdhaaDoorJRdR
import Derived.Test.YtcfalgomcdmdhaaDoorJCkS
import Derived.Test.YtcfalgomcdmdhaaDoorXShelfS
import Derived.Lib.AppendIntMem
import Derived.Test.YtcfalgomcdmdhaaDoorJMem
import Derived.SliceStrings
import Derived.ChangeShapes
import Derived.Deep.Slices
import Derived.OpenShut
namespace Go.Proofs.YtcfalgomcdmdhaaDoor
open Go.RowKit Go.WideShapes Go.Joins
end Go.Proofs.YtcfalgomcdmdhaaDoor
namespace Go.Proofs.YtcfalgomcdmdhaaDoor
open Go.RowKit Go.WideShapes Go.Joins
inductive MnI (n g : Nat) (box : Obj) (w : World) (t5 t : Value) (wr : World) : Prop where
  | intro (k : Nat) (m : Int) (hk : k ≤ n) (ht : t = .int .i64 (k : Int)) (h5 : t5 = .int .i64 m) (hb : Below w.heap.size w wr) (hg : wr.heap[g]? = some box)
set_option maxHeartbeats 4000000 in
set_option maxRecDepth 8000 in
theorem many_walk (k : Nat) (b : Bool) (m : Int) (t : ByteArray) (ns : List ByteArray) (vs : List JB) (nq iq : Option Addr) (nc ic : Nat) (F : Nat → Array Value) (Z : Nat → Prop) (d : Nat) (hd : d ≤ 60) (w : World)
    (hN : SsIn w Z nq ns) (hnl : ns.length ≤ maxLen) (hI : VsIn w Z iq F vs.length) (hil : vs.length ≤ maxLen) (hR : ∀ i x, vs[i]? = some x → JIn w Z (F i) x)
    (hcall : ∀ i x, vs[i]? = some x → ∀ w', Below w.heap.size w w' → Calls Tryd.prog 41 #[.agg (F i), .int .i64 ((d : Int) + 1)] w' fun e w'' => (∃ n, e = .returned (.int .i64 n)) ∧ Below w'.heap.size w' w'') :
    Calls Tryd.prog 41 #[.agg (jA k b m t nq ns.length nc iq vs.length ic), .int .i64 (d : Int)] w fun e w' => (∃ n, e = .returned (.int .i64 n)) ∧ Below w.heap.size w w' := by
  have b1 := below_new w (.cells (jA k b m t nq ns.length nc iq vs.length ic) 25)
  have n1 := _root_.Go.heap_alloc_new w (.cells (jA k b m t nq ns.length nc iq vs.length ic) 25)
  obtain ⟨⟨c0, c1, c2, c3, c4, c5⟩, f0, f1, f2, f3, f4, f5⟩ := row6_cells n1
  obtain ⟨N, hN2⟩ : ∃ N, vs.length = N := ⟨_, rfl⟩
  obtain ⟨L, hL2⟩ : ∃ L, ns.length = L := ⟨_, rfl⟩
  have HH : Hid (SsIn w Z nq ns ∧ VsIn w Z iq F N ∧ (∀ i x, vs[i]? = some x → JIn w Z (F i) x) ∧ vs.length = N ∧ ns.length = L) := ⟨hN, by rw [← hN2]; exact hI, hR, hN2, hL2⟩
  obtain ⟨D, hD⟩ : ∃ D : Int, (d : Int) = D := ⟨_, rfl⟩
  rw [hD] at hcall ⊢
  have HC : Hid (∀ i x, vs[i]? = some x → ∀ w', Below w.heap.size w w' → Calls Tryd.prog 41 #[.agg (F i), .int .i64 (D + 1)] w' fun e w'' => (∃ n, e = .returned (.int .i64 n)) ∧ Below w'.heap.size w' w'') := hcall
  have hD0 : 0 ≤ D := by omega
  have hD1 : ¬ (60 : Int) < D := by omega
  rw [hN2, hL2] at n1 b1 c0 c1 c2 c3 c4 c5 f0 f1 f2 f3 f4 f5 ⊢
  have hmx : (N : Int) ≤ 9223372036854775807 := by unfold maxLen at hil; omega
  have hmy : (L : Int) ≤ 9223372036854775807 := by unfold maxLen at hnl; omega
  have HB : Hid (Below w.heap.size w (w.alloc (.cells (jA k b m t nq L nc iq N ic) 25)) ∧ (w.alloc (.cells (jA k b m t nq L nc iq N ic) 25)).heap[w.heap.size]? = some (.cells (jA k b m t nq L nc iq N ic) 25 (0, 0))) := ⟨b1, n1⟩
  unfold jA at HB c0 c1 c2 c3 c4 c5 f0 f1 f2 f3 f4 f5 ⊢
  clear b1 n1 hN hnl hI hil hR hcall hN2 hL2 hD hd
  go_enter Tryd.func41, Tryd.ntmps41
  go_wp2_with fail
  clear c0 c1 c2 c3 c4 c5 f0 f1 f2 f3 f4 f5
  go_loopw [5, 6] (fun t5 tk wr => MnI L w.heap.size (.cells #[.int .u8 (k : Int), .bool b, .int .i64 m, .string t, .slice nq L nc, .slice iq N ic] 25 (0, 0)) w t5 tk wr) (fun _ tk _ => L - (intOf tk).toNat)
  case atStart => exact ⟨0, _, Nat.zero_le _, rfl, rfl, HB.out.1, HB.out.2⟩
  case round =>
    obtain ⟨i, s, hi, rfl, rfl, hb, hg⟩ := hrel
    obtain ⟨⟨r0, r1, r2, r3, r4, r5⟩, _, _, _, _, _, _⟩ := row6_cells hg
    by_cases hlt : i < L
    · have hiI : (i : Int) < (L : Int) := by omega
      have hi0 : (0 : Int) ≤ (i : Int) := by omega
      obtain ⟨ib, io, rfl⟩ := HH.out.1.addr (by have := HH.out.2.2.2.2; omega)
      have hcell := below_cell (HH.out.1.at (i := i) (by have := HH.out.2.2.2.2; omega)) hb
      generalize ns.getD i ByteArray.empty = u at hcell
      have HQ : Hid (Below w.heap.size w wr ∧ wr.heap[w.heap.size]? = some (.cells #[.int .u8 (k : Int), .bool b, .int .i64 m, .string t, .slice (some ⟨ib, io, none⟩) L nc, .slice iq N ic] 25 (0, 0)) ∧ i < L) := ⟨hb, hg, hlt⟩
      clear hb hg hi hlt
      go_wp2_with fail
      go_roundw
      case rel => exact ⟨i + 1, _, by have := HQ.out.2.2; omega, by go_num, rfl, HQ.out.1, HQ.out.2.1⟩
      case measure => have := HQ.out.2.2; simp [intOf]; omega
    · obtain rfl : i = L := by omega
      have HQ : Hid (Below w.heap.size w wr ∧ wr.heap[w.heap.size]? = some (.cells #[.int .u8 (k : Int), .bool b, .int .i64 m, .string t, .slice nq i nc, .slice iq N ic] 25 (0, 0))) := ⟨hb, hg⟩
      clear hb hg hi hlt
      go_wp2_with fail
      clear r0 r1 r2 r3 r4 r5
      go_loopw [5, 7] (fun t5 tk wr => MnI N w.heap.size (.cells #[.int .u8 (k : Int), .bool b, .int .i64 m, .string t, .slice nq i nc, .slice iq N ic] 25 (0, 0)) w t5 tk wr) (fun _ tk _ => N - (intOf tk).toNat)
      case atStart => exact ⟨0, _, Nat.zero_le _, rfl, rfl, HQ.out.1, HQ.out.2⟩
      case round =>
        obtain ⟨j, s2, hj, rfl, rfl, hb, hg⟩ := hrel
        obtain ⟨⟨r0, r1, r2, r3, r4, r5⟩, _, _, _, _, _, _⟩ := row6_cells hg
        by_cases hlt : j < N
        · have hjI : (j : Int) < (N : Int) := by omega
          have hj0 : (0 : Int) ≤ (j : Int) := by omega
          by_cases hbig : s2 < 1000000
          · obtain ⟨x, hx⟩ : ∃ x, vs[j]? = some x := ⟨_, List.getElem?_eq_getElem (by have := HH.out.2.2.2.1; omega)⟩
            obtain ⟨ib, io, rfl⟩ := HH.out.2.1.addr (by omega)
            have hcells := (HH.out.2.1.at hlt).2
            obtain ⟨k', b', n', t', nq', nl', nc', iq', il', ic', hF⟩ := jin_form (HH.out.2.2.1 j x hx)
            have HCx := HC.out j x hx
            rw [hF] at hcells HCx
            obtain ⟨z0, z1, z2, z3, z4, z5⟩ := (jat_of hcells).below hb
            have FX := HCx wr hb
            have HQ2 : Hid (Below w.heap.size w wr ∧ wr.heap[w.heap.size]? = some (.cells #[.int .u8 (k : Int), .bool b, .int .i64 m, .string t, .slice nq i nc, .slice (some ⟨ib, io, none⟩) N ic] 25 (0, 0)) ∧ j < N) := ⟨hb, hg, hlt⟩
            unfold jA at FX
            clear hb hg hj hlt hcells hF HCx hx
            go_wp2_with (first | (go_at_call 41; refine FX.mono ?_; rintro e w3 ⟨⟨n3, rfl⟩, hb3⟩) | fail)
            go_roundw
            case rel => exact ⟨j + 1, _, by have := HQ2.out.2.2; omega, by go_num, rfl, below_more HQ2.out.1 hb3, box_below HQ2.out.2.1 hb3⟩
            case measure => have := HQ2.out.2.2; simp [intOf]; omega
          · have HQ2 : Hid (Below w.heap.size w wr) := hb
            clear hb hg hj hlt
            go_wp2_with fail
            go_ret
            exact ⟨⟨_, rfl⟩, HQ2.out⟩
        · obtain rfl : j = N := by omega
          have HQ2 : Hid (Below w.heap.size w wr) := hb
          clear hb hg hj hlt
          go_wp2_with fail
          go_ret
          exact ⟨⟨_, rfl⟩, HQ2.out⟩
theorem many_deep (A : Array Value) (v : JB) (Z : Nat → Prop) (w : World) (h : JIn w Z A v) : Calls Tryd.prog 41 #[.agg A, .int .i64 61] w fun e w' => (∃ n, e = .returned (.int .i64 n)) ∧ Below w.heap.size w w' := by
  obtain ⟨k, b, n, t, nq, nl, nc, iq, il, ic, rfl⟩ := jin_form h
  have b1 := below_new w (.cells (jA k b n t nq nl nc iq il ic) 25)
  have HB : Hid (Below w.heap.size w (w.alloc (.cells (jA k b n t nq nl nc iq il ic) 25))) := b1
  unfold jA at HB ⊢
  clear b1 h
  go_enter Tryd.func41, Tryd.ntmps41
  go_wp2_with fail
  go_ret
  exact ⟨⟨_, rfl⟩, HB.out⟩
theorem many_any : ∀ (f d : Nat), d + f = 61 → ∀ (A : Array Value) (v : JB) (Z : Nat → Prop) (w : World), JIn w Z A v →
    Calls Tryd.prog 41 #[.agg A, .int .i64 (d : Int)] w fun e w' => (∃ n, e = .returned (.int .i64 n)) ∧ Below w.heap.size w w' := by
  intro f
  induction f with
  | zero =>
    intro d hd A v Z w h
    obtain rfl : d = 61 := by omega
    exact many_deep A v Z w h
  | succ f ih =>
    intro d hd A v Z w h
    cases h with
    | mk k b n t ns vs nq iq nc ic F hk hn hnc hic hnm him hnq hiq hN hI hR =>
      refine many_walk k b n t ns vs nq iq nc ic F Z d (by omega) w hN (Nat.le_trans hnc hnm) hI (Nat.le_trans hic him) hR ?_
      intro i x hx w' hb
      have R := ih (d + 1) (by omega) (F i) x Z w' ((hR i x hx).bel hb)
      rw [show ((d + 1 : Nat) : Int) = (d : Int) + 1 by omega] at R
      exact R
theorem great_any (A : Array Value) (v : JB) (Z : Nat → Prop) (w : World) (h : JIn w Z A v) : Calls Tryd.prog 19 #[.agg A] w fun e w' => (∃ g : Bool, e = .returned (.bool g)) ∧ Below w.heap.size w w' := by
  obtain ⟨k, b, n, t, nq, nl, nc, iq, il, ic, rfl⟩ := jin_form h
  have b1 := below_new w (.cells (jA k b n t nq nl nc iq il ic) 25)
  have n1 := _root_.Go.heap_alloc_new w (.cells (jA k b n t nq nl nc iq il ic) 25)
  have M := many_any 61 0 rfl _ v Z _ (h.bel b1)
  obtain ⟨⟨c0, c1, c2, c3, c4, c5⟩, _, _, _, _, _, _⟩ := row6_cells n1
  rw [show (((0 : Nat) : Int)) = 0 from rfl] at M
  have HB : Hid (Below w.heap.size w (w.alloc (.cells (jA k b n t nq nl nc iq il ic) 25))) := b1
  unfold jA at HB M c0 c1 c2 c3 c4 c5 ⊢
  clear b1 n1 h
  go_enter Tryd.func19, Tryd.ntmps19
  go_wp2_with (go_at_call 41; refine M.mono ?_; rintro e w3 ⟨⟨n3, rfl⟩, hb3⟩)
  go_ret
  exact ⟨⟨_, rfl⟩, below_more HB.out hb3⟩
end Go.Proofs.YtcfalgomcdmdhaaDoor
namespace Go.Proofs.YtcfalgomcdmdhaaDoor
open Go.RowKit Go.WideShapes Go.ChangeShapes Go.Deep Go.Joins
theorem add_flat (b o n : Nat) : (⟨b, o, none⟩ : Addr).add n = ⟨b, o + n, none⟩ := by
  unfold Addr.add
  by_cases h : n = 0 <;> simp [h]
theorem spot_none {a : Addr} {w : World} {v : Value} (h : w.cell? (a.add 0) = some v) : ∃ b o, a = ⟨b, o, none⟩ := by
  obtain ⟨b, o, s⟩ := a
  obtain rfl : s = none := by simpa [Addr.add] using World.cell?_spot h
  exact ⟨b, o, rfl⟩
section
variable {w : World} {H : Type} {enc : TypeId × Value → H}
theorem open_names {n : Nat} {v : Value} {x : DataW H × List MemPlace} (h : DataW.trod enc Tryd.prog w 0 (fun _ => true) true n 22 [v] = some x) :
    ∃ (q : Option Addr) (c : Nat) (ss : List ByteArray), v = .slice q ss.length c ∧ ss.length ≤ c ∧ c ≤ maxLen ∧ (q = none → c = 0) ∧ SsIn w (fun _ => True) q ss := by
  rcases open_strings Tryd.underlying22 Tryd.underlying9 (by kernel_rfl) h with ⟨hcs, _⟩ | ⟨a, len, cap, ss, hcs, _, hl, hm, hz, _, hcell, hsz⟩
  · simp only [List.cons.injEq, and_true] at hcs
    exact ⟨none, 0, [], hcs, Nat.le_refl _, by unfold maxLen; omega, fun _ => rfl, ss_nil _ _ _⟩
  · simp only [List.cons.injEq, and_true] at hcs
    have hz' : ss.length = cap := by simpa using hz
    have hlen : (ss.take len).length = len := by simp; omega
    refine ⟨some a, cap, ss.take len, by rw [hlen]; exact hcs, by rw [hlen]; exact hl, hm, by simp, fun hp => ?_⟩
    rw [hlen] at hp
    obtain ⟨b, o, rfl⟩ := spot_none (hcell 0 (by omega))
    refine ⟨b, o, rfl, trivial, fun i s hi => ?_⟩
    have hil : i < len := by
      rcases Nat.lt_or_ge i len with h' | h'
      · exact h'
      · rw [List.getElem?_eq_none (by omega)] at hi; cases hi
    have e := hcell i (by omega)
    rw [add_flat] at e
    rw [e]
    rw [List.getElem?_take_of_lt hil] at hi
    rw [List.getD_eq_getElem?_getD, hi]; rfl
instance : Inhabited (Array Value) := ⟨#[]⟩
instance : Inhabited JB := ⟨zeroB⟩
set_option maxRecDepth 100000 in
theorem open_cells : ∀ (fuel : Nat) (cs : List Value) (x : DataW H × List MemPlace), cs.length = 6 → DataW.trod enc Tryd.prog w 0 (fun _ => true) true fuel 25 cs = some x →
    ∃ (A : Array Value) (v : JB), cs = A.toList ∧ JIn w (fun _ => True) A v := by
  intro fuel
  induction fuel using Nat.strongRecOn with
  | _ fuel ih =>
    intro cs x hl h
    obtain ⟨xs, n, hn, _, _, hxl, hf⟩ := DataW.trod_struct Tryd.underlying25 h
    match cs, hl with
    | [v0, v1, v2, v3, v4, v5], _ =>
      match xs, hxl with
      | [y0, y1, y2, y3, y4, y5], _ =>
        have r0 : DataW.trod enc Tryd.prog w 0 (fun _ => true) true n 5 ((List.drop 0 [v0, v1, v2, v3, v4, v5]).take (Tryd.prog.cellsOf 5)) = some y0 := hf 0 _ rfl
        have r1 : DataW.trod enc Tryd.prog w 0 (fun _ => true) true n 4 ((List.drop 1 [v0, v1, v2, v3, v4, v5]).take (Tryd.prog.cellsOf 4)) = some y1 := hf 1 _ rfl
        have r2 : DataW.trod enc Tryd.prog w 0 (fun _ => true) true n 2 ((List.drop 2 [v0, v1, v2, v3, v4, v5]).take (Tryd.prog.cellsOf 2)) = some y2 := hf 2 _ rfl
        have r3 : DataW.trod enc Tryd.prog w 0 (fun _ => true) true n 9 ((List.drop 3 [v0, v1, v2, v3, v4, v5]).take (Tryd.prog.cellsOf 9)) = some y3 := hf 3 _ rfl
        have r4 : DataW.trod enc Tryd.prog w 0 (fun _ => true) true n 22 ((List.drop 4 [v0, v1, v2, v3, v4, v5]).take (Tryd.prog.cellsOf 22)) = some y4 := hf 4 _ rfl
        have r5 : DataW.trod enc Tryd.prog w 0 (fun _ => true) true n 23 ((List.drop 5 [v0, v1, v2, v3, v4, v5]).take (Tryd.prog.cellsOf 23)) = some y5 := hf 5 _ rfl
        rw [show Tryd.prog.cellsOf 5 = 1 by kernel_rfl] at r0
        rw [show Tryd.prog.cellsOf 4 = 1 by kernel_rfl] at r1
        rw [show Tryd.prog.cellsOf 2 = 1 by kernel_rfl] at r2
        rw [show Tryd.prog.cellsOf 9 = 1 by kernel_rfl] at r3
        rw [show Tryd.prog.cellsOf 22 = 1 by kernel_rfl] at r4
        rw [show Tryd.prog.cellsOf 23 = 1 by kernel_rfl] at r5
        simp only [List.drop_zero, List.drop_succ_cons, List.take_succ_cons, List.take_zero] at r0 r1 r2 r3 r4 r5
        obtain ⟨z0, hz0, _, w0⟩ := DataW.trod_int Tryd.underlying5 r0
        obtain ⟨z1, hz1, _⟩ := DataW.trod_bool Tryd.underlying4 r1
        obtain ⟨z2, hz2, _, w2⟩ := DataW.trod_int Tryd.underlying2 r2
        obtain ⟨s3, hs3, _, w3⟩ := DataW.trod_string Tryd.underlying9 r3
        obtain ⟨q4, c4, ss, hv4, a4, b4, e4, hS⟩ := open_names r4
        simp only [List.cons.injEq, and_true] at hz0 hz1 hz2 hs3
        have hk : 0 ≤ z0 ∧ z0 ≤ 255 := by
          simp [Lit.wf, IntKind.min, IntKind.max, IntKind.signed, IntKind.bits] at w0
          omega
        obtain ⟨k, rfl⟩ : ∃ k : Nat, z0 = (k : Int) := ⟨z0.toNat, by omega⟩
        have hn2 : J.Rng z2 := bounds_i64 w2
        rcases DataW.trod_slice Tryd.underlying23 r5 with ⟨hcs, _⟩ | ⟨a, len, cap, elems, rest, n', hn', hcs, _, _, hlc, hcm, hel, hcell, _⟩
        · simp only [List.cons.injEq, and_true] at hcs
          refine ⟨jA k z1 z2 s3 q4 ss.length c4 none 0 0, .mk k z1 z2 s3 ss [], ?_, ?_⟩
          · rw [hz0, hz1, hz2, hs3, hv4, hcs]; rfl
          · exact .mk k z1 z2 s3 ss [] q4 none c4 0 (fun _ => #[]) (by omega) hn2 a4 (Nat.le_refl _) b4 (Nat.zero_le _) e4 (fun _ => rfl) hS (vs_nil _ _ _ _) (by intro i y hy; simp at hy)
        · simp only [List.cons.injEq, and_true] at hcs
          have each : ∀ i, i < len → ∃ p : Array Value × JB, (∀ k, k < 6 → w.cell? (a.add (i * 6 + k)) = p.1[k]?) ∧ JIn w (fun _ => True) p.1 p.2 := by
            intro i hi
            have e := hcell i hi
            rw [show Tryd.prog.cellsOf 25 = 6 by kernel_rfl, List.getElem?_eq_getElem (by omega)] at e
            obtain ⟨cs', g1, g2⟩ := Option.bind_eq_some_iff.1 e
            obtain ⟨_, hlen, hc⟩ := World.cells?_some g1
            obtain ⟨A, v, hA, hJ⟩ := ih n' (by omega) cs' _ hlen g2
            refine ⟨(A, v), fun k hk => ?_, hJ⟩
            have e0 := hc k hk
            rw [add_add] at e0
            rw [e0, hA]
            simp
          haveI : Inhabited (Array Value × JB) := ⟨(#[], zeroB)⟩
          obtain ⟨f, hf⟩ := choose_lt each
          have hvl : ((List.range len).map fun i => (f i).2).length = len := by simp
          have hvg : ∀ i y, ((List.range len).map fun i => (f i).2)[i]? = some y → i < len ∧ y = (f i).2 := by
            intro i y hy
            rcases Nat.lt_or_ge i len with h' | h'
            · rw [List.getElem?_map, List.getElem?_range h'] at hy
              exact ⟨h', (Option.some.inj hy).symm⟩
            · rw [List.getElem?_eq_none (by simpa using h')] at hy; cases hy
          refine ⟨jA k z1 z2 s3 q4 ss.length c4 (some a) len cap, .mk k z1 z2 s3 ss ((List.range len).map fun i => (f i).2), ?_, ?_⟩
          · rw [hz0, hz1, hz2, hs3, hv4, hcs]; rfl
          · have M := JIn.mk (w := w) (Z := fun _ => True) k z1 z2 s3 ss ((List.range len).map fun i => (f i).2) q4 (some a) c4 cap (fun i => (f i).1) (by omega) hn2 a4 (by rw [hvl]; exact hlc) b4 hcm e4 (by simp) hS ?_ ?_
            · rw [hvl] at M
              exact M
            · rw [hvl]
              intro hp
              have hsz := (hf 0 hp).2.size
              obtain ⟨b, o, rfl⟩ := spot_none (v := (f 0).1[0]) (((hf 0 hp).1 0 (by omega)).trans (Array.getElem?_eq_getElem (by omega)))
              refine ⟨b, o, rfl, trivial, fun i hi k hk => ?_⟩
              have e := (hf i hi).1 k hk
              rw [add_flat] at e
              rw [Nat.add_assoc]
              exact e
            · intro i y hy
              obtain ⟨h1, rfl⟩ := hvg i y hy
              exact (hf i h1).2
set_option maxRecDepth 100000 in
theorem open_json {r : Reach} {b0 : Nat} {v : Value} {d : DataW H} {p : List MemPlace} (hv : Value.okWide Tryd.prog w r b0 25 v) (h : DataW.Trod enc Tryd.prog w 0 (fun _ => true) true 25 v d p) :
    ∃ (A : Array Value) (x : JB), v = .agg A ∧ JIn w (fun _ => True) A x := by
  obtain ⟨cs, rfl, hsz⟩ := okWide_struct Tryd.underlying25 hv
  obtain ⟨fuel, hf⟩ := h
  obtain ⟨A, x, hA, hJ⟩ := open_cells fuel cs.toList _ (by rw [Array.length_toList, hsz]; kernel_rfl) hf
  obtain rfl : cs = A := Array.ext' hA
  exact ⟨_, x, rfl, hJ⟩
end
end Go.Proofs.YtcfalgomcdmdhaaDoor
namespace Go.Proofs.YtcfalgomcdmdhaaDoor
open Go.RowKit Go.WideShapes Go.Joins
abbrev Anyw : Nat → Prop := fun _ => True
end Go.Proofs.YtcfalgomcdmdhaaDoor
