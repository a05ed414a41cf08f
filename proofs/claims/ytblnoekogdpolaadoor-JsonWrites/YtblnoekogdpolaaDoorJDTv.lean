import Derived.Test.YtblnoekogdpolaaDoorJDTw
import Derived.Test.YtblnoekogdpolaaDoorJWith
namespace Go.Proofs.YtblnoekogdpolaaDoor
open Go.RowKit Go.WideShapes Go.Joins
theorem nm_news {w : World} {Z : Nat → Prop} {b o : Nat} {ns : List ByteArray} (h : SsIn w Z (some ⟨b, o, none⟩) ns) : ∀ j u, (ns.map Value.string)[j]? = some u → w.cell? ((⟨b, o, none⟩ : Addr).add j) = some u := by
  intro j u hu
  have hj : j < ns.length := by
    rcases Nat.lt_or_ge j ns.length with h' | h'
    · exact h'
    · rw [List.getElem?_eq_none (by simpa using h')] at hu; cases hu
  rw [show (⟨b, o, none⟩ : Addr).add j = ⟨b, o + j, none⟩ from add_flat b o j, h.at hj]
  rw [List.getElem?_map, List.getElem?_eq_getElem hj] at hu
  rw [List.getD_eq_getElem?_getD, List.getElem?_eq_getElem hj]
  simpa using hu
theorem nm_one {ns : List ByteArray} : ∀ u ∈ ns.map Value.string, u.oneCell' = true := by
  intro u hu
  obtain ⟨s, _, rfl⟩ := List.mem_map.1 hu
  rfl
inductive DTwI (pA : Array Value) (k : Nat) (b : Bool) (n : Int) (t : ByteArray) (ns : List ByteArray) (vs : List JB) (w : World) (tv : Value) (wr : World) : Prop where
  | intro (i : Nat) (As : List (Array Value)) (nv iv : Value) (hi : i ≤ vs.length) (ht : tv = .int .i64 (i : Int)) (hM : TwM pA k b n t w As (vs.take i) ns nv iv wr)
set_option maxHeartbeats 8000000 in
set_option maxRecDepth 8000 in
theorem dtwin_walk (k : Nat) (b : Bool) (n : Int) (t : ByteArray) (ns : List ByteArray) (vs : List JB) (nq iq : Option Addr) (nc ic : Nat) (F : Nat → Array Value) (Z : Nat → Prop) (w : World) (hk : k < 256) (hn : J.Rng n)
    (hN : SsIn w Z nq ns) (hnl : ns.length ≤ 8796093021952) (hnc : ns.length ≤ nc) (hnq : nq = none → nc = 0) (hI : VsIn w Z iq F vs.length) (hvl : vs.length ≤ 1759218604390) (hR : ∀ i x, vs[i]? = some x → JIn w Z (F i) x)
    (hcall : ∀ i x, vs[i]? = some x → ∀ w', Below w.heap.size w w' → Calls Tryd.prog 20 #[.agg (F i)] w' fun e w'' => TwnP x w' e w'') :
    Calls Tryd.prog 20 #[.agg (jA k b n t nq ns.length nc iq vs.length ic)] w fun e w' => TwP k b n t ns vs w e w' := by
  have hb0 := below_new w (.cells (jA k b n t nq ns.length nc iq vs.length ic) 25)
  have hn0 := _root_.Go.heap_alloc_new w (.cells (jA k b n t nq ns.length nc iq vs.length ic) 25)
  obtain ⟨W1, hW1⟩ : ∃ x, w.alloc (.cells (jA k b n t nq ns.length nc iq vs.length ic) 25) = x := ⟨_, rfl⟩
  have hz1 : W1.heap.size = w.heap.size + 1 := by rw [← hW1, World.size_alloc]
  rw [hW1] at hb0 hn0
  have hb1 := below_new W1 jbox
  have hn1 := _root_.Go.heap_alloc_new W1 jbox
  obtain ⟨W2, hW2⟩ : ∃ x, W1.alloc jbox = x := ⟨_, rfl⟩
  have hz2 : W2.heap.size = w.heap.size + 2 := by rw [← hW2, World.size_alloc, hz1]
  rw [hW2] at hb1 hn1
  have hb2 := below_new W2 (.cells (jA k b n t nq ns.length nc iq vs.length ic) 25)
  have hn2 := _root_.Go.heap_alloc_new W2 (.cells (jA k b n t nq ns.length nc iq vs.length ic) 25)
  obtain ⟨W3, hW3⟩ : ∃ x, W2.alloc (.cells (jA k b n t nq ns.length nc iq vs.length ic) 25) = x := ⟨_, rfl⟩
  have hz3 : W3.heap.size = w.heap.size + 3 := by rw [← hW3, World.size_alloc, hz2]
  rw [hW3] at hb2 hn2
  rw [hz1] at hn1
  rw [hz2] at hn2
  have x0 := box_below (box_below hn0 hb1) hb2
  have x1 := box_below hn1 hb2
  have bb := below_more hb0 (below_more hb1 hb2)
  have y2 := block_setCell (i := 4) hn2 (.slice none 0 0)
  have gs := grown_set W3 (w.heap.size + 2) 4 (.slice none 0 0)
  have by2 := bb.grown gs bb.size (fun k hk => by cases hk; omega)
  have y0 := (gs.block _ (by omega) (fun e => by simp only [Option.some.injEq] at e; omega)).trans x0
  have y1 := (gs.block _ (by omega) (fun e => by simp only [Option.some.injEq] at e; omega)).trans x1
  obtain ⟨W4, hW4⟩ : ∃ x, W3.setCell ⟨w.heap.size + 2, 4, none⟩ (.slice none 0 0) = x := ⟨_, rfl⟩
  rw [hW4] at y2 by2 y0 y1
  have hz4 : W4.heap.size = w.heap.size + 3 := by rw [← hW4, World.size_setCell]; exact hz3
  unfold jA at hW1 hW3 y0 y2 x0 hn2 ⊢
  unfold jbox zeroA at hW2 x1 y1
  have HW : Hid (w.alloc _ = W1 ∧ W1.alloc _ = W2 ∧ W2.alloc _ = W3 ∧ W3.setCell _ _ = W4) := ⟨hW1, hW2, hW3, hW4⟩
  clear hW1 hW2 hW3 hW4
  go_enter Tryd.func20, Tryd.ntmps20
  go_upto_region 1 with fail
  rw [HW.out.1, HW.out.2.1]
  have q0 := box_below hn0 hb1
  obtain ⟨⟨d0, d1, d2, d3, d4, d5⟩, _, _, _, _, _, _⟩ := row6_cells q0
  go_upto_region 2 with fail
  rw [HW.out.2.2.1]
  have f4 := frozen_of_row W3 (w.heap.size + 2) 4 _ _ hn2
  have e4 := (row6_cells hn2).1.2.2.2.2.1
  clear q0 d0 d1 d2 d3 d4 d5
  go_upto_region 3 with fail
  rw [HW.out.2.2.2]
  clear f4 e4
  have HY : Hid (Below w.heap.size w W4 ∧ W4.heap[w.heap.size]? = some (.cells #[.int .u8 (k : Int), .bool b, .int .i64 n, .string t, .slice nq ns.length nc, .slice iq vs.length ic] 25 (0, 0)) ∧ W4.heap[w.heap.size + 1]? = some (.cells #[.int .u8 0, .bool false, .int .i64 0, .string ⟨#[]⟩, .slice none 0 0, .slice none 0 0] 25 (0, 0)) ∧
    W4.heap[w.heap.size + 2]? = some (.cells #[.int .u8 (k : Int), .bool b, .int .i64 n, .string t, .slice none 0 0, .slice iq vs.length ic] 25 (0, 0)) ∧ W4.heap.size = w.heap.size + 3) := ⟨by2, y0, y1, y2, hz4⟩
  have HS : Hid (SsIn w Z nq ns ∧ VsIn w Z iq F vs.length ∧ (∀ i x, vs[i]? = some x → JIn w Z (F i) x) ∧ ns.length ≤ 8796093021952 ∧ vs.length ≤ 1759218604390 ∧ k < 256 ∧ J.Rng n) := ⟨hN, hI, hR, hnl, hvl, hk, hn⟩
  have HC : Hid (∀ i x, vs[i]? = some x → ∀ w', Below w.heap.size w w' → Calls Tryd.prog 20 #[.agg (F i)] w' fun e w'' => TwnP x w' e w'') := hcall
  have HL : Hid (ns.length ≤ nc ∧ (nq = none → nc = 0)) := ⟨hnc, hnq⟩
  obtain ⟨⟨c0, c1, c2, c3, c4, c5⟩, _, _, _, _, _, _⟩ := row6_cells y0
  obtain ⟨⟨b0, b1, b2, b3, b4, b5⟩, _, _, _, _, g4, _⟩ := row6_cells y2
  clear HW hb0 hn0 hb1 hn1 hb2 hn2 x0 x1 bb y2 gs by2 y0 y1 hN hI hR hnl hvl hk hn hcall hnc hnq hz1 hz2 hz3 hz4
  go_cut [] from 5 (fun wc => ∃ nv, Below w.heap.size w wc ∧ wc.heap[w.heap.size]? = some (.cells #[.int .u8 (k : Int), .bool b, .int .i64 n, .string t, .slice nq ns.length nc, .slice iq vs.length ic] 25 (0, 0)) ∧ wc.heap[w.heap.size + 1]? = some (.cells #[.int .u8 0, .bool false, .int .i64 0, .string ⟨#[]⟩, .slice none 0 0, .slice none 0 0] 25 (0, 0)) ∧
    wc.heap[w.heap.size + 2]? = some (.cells #[.int .u8 (k : Int), .bool b, .int .i64 n, .string t, nv, .slice iq vs.length ic] 25 (0, 0)) ∧ NmOwn wc (w.heap.size + 3) nv ns)
  case first =>
    obtain ⟨i1, hi1, hy0, hy1, hy2⟩ := info_parts' info_str
    cases nq with
    | none =>
      have hnc0 := HL.out.2 rfl
      have hn0 : ns = [] := List.length_eq_zero_iff.1 (by have := HL.out.1; omega)
      subst hn0
      subst hnc0
      rw [List.length_nil] at *
      go_wp2
      go_meet
      case rel =>
        have h := HY.out
        have gs := grown_set W4 (w.heap.size + 2) 4 (.slice none 0 0)
        exact ⟨_, h.1.grown gs h.1.size (fun k hk => by cases hk; omega), (gs.block _ (by omega) (fun e => by simp only [Option.some.injEq] at e; omega)).trans h.2.1, (gs.block _ (by omega) (fun e => by simp only [Option.some.injEq] at e; omega)).trans h.2.2.1, block_setCell (i := 4) h.2.2.2.1 _, nm_nil _ _⟩
    | some a =>
      have HNW : Hid (∀ j u, (ns.map Value.string)[j]? = some u → W4.cell? (a.add j) = some u) := by
        intro j u hu
        have hj : j < ns.length := by
          rcases Nat.lt_or_ge j ns.length with h' | h'
          · exact h'
          · rw [List.getElem?_eq_none (by simpa using h')] at hu; cases hu
        obtain ⟨ab, ao, e⟩ := HS.out.1.addr (by omega)
        cases e
        have h4 : SsIn W4 Z (some ⟨ab, ao, none⟩) ns := HS.out.1.mono fun a v z hc => ⟨below_cell hc HY.out.1, z⟩
        exact nm_news h4 j u hu
      go_wp2_with (at_builtin; refine wpList_append_own _ rfl _ _ 22 rfl (w.heap.size + 3) 9 i1 _ 1 16 Tryd.underlying22 hi1 hy0 hy1 hy2 rfl (by decide) (.slice none 0 0) 0 [] rfl (World.ownsRow_nil _ _ _ _) a ns.length nc (ns.map Value.string) rfl (by simp) HNW.out nm_one (by have := HS.out.2.2.2.1; unfold maxLen; omega) (by have := HS.out.2.2.2.1; omega) (Nat.le_of_eq HY.out.2.2.2.2.symm) ?_)
      intro nv w5 ho hg _
      obtain ⟨q5, m5, rfl, _, _, _⟩ := own_form ho
      have hb5 : Below w.heap.size w w5 := HY.out.1.grown hg HY.out.1.size (fun k hk => by cases hk)
      have z5 := hg.size
      have p0 := box_at hg HY.out.2.1 (by simp [Value.ownBlock])
      have p1 := box_at hg HY.out.2.2.1 (by simp [Value.ownBlock])
      have p2 := box_at hg HY.out.2.2.2.1 (by simp [Value.ownBlock])
      have HP : Hid (Below w.heap.size w w5 ∧ w5.heap[w.heap.size]? = some (.cells #[.int .u8 (k : Int), .bool b, .int .i64 n, .string t, .slice (some a) ns.length nc, .slice iq vs.length ic] 25 (0, 0)) ∧ w5.heap[w.heap.size + 1]? = some (.cells #[.int .u8 0, .bool false, .int .i64 0, .string ⟨#[]⟩, .slice none 0 0, .slice none 0 0] 25 (0, 0)) ∧
        w5.heap[w.heap.size + 2]? = some (.cells #[.int .u8 (k : Int), .bool b, .int .i64 n, .string t, .slice none 0 0, .slice iq vs.length ic] 25 (0, 0)) ∧ w5.ownsRow (w.heap.size + 3) 9 1 (.slice q5 ns.length m5) ns.length (ns.map Value.string) ∧ w.heap.size + 3 ≤ w5.heap.size) := ⟨hb5, p0, p1, p2, ho, by have := HY.out.2.2.2.2; omega⟩
      have f5 := frozen_of_row w5 (w.heap.size + 2) 4 _ _ p2
      have e5 := (row6_cells p2).1.2.2.2.2.1
      clear hb5 z5 p0 p1 p2 ho hg c0 c1 c2 c3 c4 c5 b0 b1 b2 b3 b4 b5 g4
      go_wp2
      go_meet
      case rel =>
        have h := HP.out
        have gs := grown_set w5 (w.heap.size + 2) 4 (.slice q5 ns.length m5)
        refine ⟨.slice q5 ns.length m5, h.1.grown gs h.1.size (fun k hk => by cases hk; omega), (gs.block _ (by omega) (fun e => by simp only [Option.some.injEq] at e; omega)).trans h.2.1, (gs.block _ (by omega) (fun e => by simp only [Option.some.injEq] at e; omega)).trans h.2.2.1, block_setCell (i := 4) h.2.2.2.1 _, ?_⟩
        exact h.2.2.2.2.1.kept gs (by
          cases hv : (Value.slice q5 ns.length m5).ownBlock with
          | none => exact .inl rfl
          | some j => exact .inr fun e => by have := h.2.2.2.2.1.lt j hv; cases e; omega)
  case rest =>
  obtain ⟨nv, h1, h2, h3, h4, h5⟩ := hcut
  clear c0 c1 c2 c3 c4 c5 b0 b1 b2 b3 b4 b5 g4 HY HL
  have HY : Hid (TwM (jA k b n t nq ns.length nc iq vs.length ic) k b n t w [] [] ns nv (.slice none 0 0) (wc.setCell ⟨w.heap.size + 2, 5, none⟩ (.slice none 0 0))) := by
    have gs := grown_set wc (w.heap.size + 2) 5 (.slice none 0 0)
    have hsz : w.heap.size + 2 < wc.heap.size := by
      rcases Nat.lt_or_ge (w.heap.size + 2) wc.heap.size with h' | h'
      · exact h'
      · rw [Array.getElem?_eq_none h'] at h4; cases h4
    exact ⟨h1.grown gs h1.size (fun k hk => by cases hk; omega), (gs.block _ (by omega) (fun e => by simp only [Option.some.injEq] at e; omega)).trans h2, (gs.block _ (by omega) (fun e => by simp only [Option.some.injEq] at e; omega)).trans h3, block_setCell (i := 5) h4 _,
      h5.kept gs (by
        cases hv : nv.ownBlock with
        | none => exact .inl rfl
        | some j => exact .inr fun e => by have := own_ge h5 hv; cases e; omega), it_nil _ _, its_nil _ _, by
        cases hv : nv.ownBlock with
        | none => exact .inl rfl
        | some j => exact .inr (by simp [Value.ownBlock])⟩
  have f5 := frozen_of_row wc (w.heap.size + 2) 5 _ _ h4
  have e5 := (row6_cells h4).1.2.2.2.2.2
  clear h1 h2 h3 h4 h5
  go_wp2_with fail
  clear f5 e5
  go_loopw [4] (fun t' wr => DTwI (jA k b n t nq ns.length nc iq vs.length ic) k b n t ns vs w t' wr) (fun t _ => vs.length - (intOf t).toNat)
  case atStart => exact ⟨0, [], nv, _, Nat.zero_le _, rfl, HY.out⟩
  case round =>
    clear HY
    obtain ⟨i, As, nv', iv, hi, rfl, hM⟩ := hrel
    have hAL : As.length = i := by rw [hM.its.1, List.length_take]; omega
    obtain ⟨q, m, e1, _, _, _⟩ := own_form hM.it.own
    rw [hAL] at e1
    subst e1
    have hi0 : (0 : Int) ≤ (i : Int) := by omega
    by_cases hlt : i < vs.length
    · have hiI : (i : Int) < (vs.length : Int) := by omega
      have hvM : (vs.length : Int) ≤ 1759218604390 := by have := HS.out.2.2.2.2.1; omega
      obtain ⟨x, hx⟩ : ∃ x, vs[i]? = some x := ⟨_, List.getElem?_eq_getElem hlt⟩
      obtain ⟨ab, ao, rfl⟩ := HS.out.2.1.addr (by omega)
      have hc1 := (HS.out.2.1.at hlt).2
      obtain ⟨kk, bb, nn, tt, nq1, nl1, nc1, iq1, il1, ic1, hF⟩ := jin_form (HS.out.2.2.1 i x hx)
      have HCx := HC.out i x hx
      rw [hF] at hc1 HCx
      have hMd := hM.more (w' := wr.drew) ((Below.refl _ _).drew)
      have HTof : Hid (∀ w', Below w.heap.size w w' → w'.heap[w.heap.size]? = some (.cells (jA k b n t nq ns.length nc (some ⟨ab, ao, none⟩) vs.length ic) 25 (0, 0)) → (w'.cell? ⟨w.heap.size, 5, none⟩ = some (.slice (some ⟨ab, ao, none⟩) vs.length ic) ∧ w'.cell? ⟨ab, ao + i * 6, none⟩ = some (.int .u8 (kk : Int)) ∧ w'.cell? ⟨ab, ao + i * 6 + 1, none⟩ = some (.bool bb) ∧ w'.cell? ⟨ab, ao + i * 6 + 2, none⟩ = some (.int .i64 nn) ∧ w'.cell? ⟨ab, ao + i * 6 + 3, none⟩ = some (.string tt) ∧ w'.cell? ⟨ab, ao + i * 6 + 4, none⟩ = some (.slice nq1 nl1 nc1) ∧ w'.cell? ⟨ab, ao + i * 6 + 5, none⟩ = some (.slice iq1 il1 ic1))) := by
        intro w' hb hbox
        have j := (jat_of hc1).below hb
        exact ⟨(row6_cells hbox).1.2.2.2.2.2, j.c0, j.c1, j.c2, j.c3, j.c4, j.c5⟩
      have hT0 := HTof.out _ hMd.g hMd.vb
      have hS0 := (row6_cells hMd.box).1.2.2.2.2.2
      have CX := HCx _ hMd.g
      obtain ⟨i0, hi0, hz0, hz1, hz2⟩ := info_parts' info_json
      have HM : Hid (TwM (jA k b n t nq ns.length nc (some ⟨ab, ao, none⟩) vs.length ic) k b n t w As (vs.take i) ns nv' (.slice q i m) wr.drew ∧ As.length = i ∧ i < vs.length ∧ vs[i]? = some x ∧ vs.length ≤ 1759218604390) := ⟨hMd, hAL, hlt, hx, HS.out.2.2.2.2.1⟩
      have v5 := (row6_cells hM.vb).1.2.2.2.2.2
      unfold jA at CX
      clear hc1 hF HCx hM hMd hAL hlt hx hi
      go_wp2_with fail
      refine wp_region_noPanic ?_
      refine beginZ (T := fun w' => (w'.cell? ⟨w.heap.size, 5, none⟩ = some (.slice (some ⟨ab, ao, none⟩) vs.length ic) ∧ w'.cell? ⟨ab, ao + i * 6, none⟩ = some (.int .u8 (kk : Int)) ∧ w'.cell? ⟨ab, ao + i * 6 + 1, none⟩ = some (.bool bb) ∧ w'.cell? ⟨ab, ao + i * 6 + 2, none⟩ = some (.int .i64 nn) ∧ w'.cell? ⟨ab, ao + i * 6 + 3, none⟩ = some (.string tt) ∧ w'.cell? ⟨ab, ao + i * 6 + 4, none⟩ = some (.slice nq1 nl1 nc1) ∧ w'.cell? ⟨ab, ao + i * 6 + 5, none⟩ = some (.slice iq1 il1 ic1)))
        (S := fun w' => w'.cell? ⟨w.heap.size + 2, 5, none⟩ = some (.slice q i m)) 11 (by kernel_rfl) ?_
      clear v5
      refine takeT 0 21 (v := ?_) rfl rfl (by kernel_rfl) (by kernel_rfl) (by kernel_rfl) (by kernel_rfl) (fun _ _ _ h => h) (by rfl) ?_ (by assumption) (by assumption) ?_
      rotate_left
      · intro w hTw; go_simp; first | done | with_reducible rfl
      simp only [Act.put, List.setIfInBounds_toArray, List.set_cons_zero, List.set_cons_succ]
      refine takeZ 1 22 9 (v := ?_) rfl rfl (by kernel_rfl) (by kernel_rfl) (by kernel_rfl) (by kernel_rfl) (by kernel_rfl) (by kernel_rfl) (by kernel_rfl) (fun _ _ _ h => h) (by rfl) ?_ (by assumption) (by assumption) ?_
      rotate_left
      · intro w hTw hSw; go_simp; first | done | with_reducible rfl
      simp only [Act.put, List.setIfInBounds_toArray, List.set_cons_zero, List.set_cons_succ]
      refine takeT 2 23 (v := ?_) rfl rfl (by kernel_rfl) (by kernel_rfl) (by kernel_rfl) (by kernel_rfl) (fun _ _ _ h => h) (by rfl) ?_ (by assumption) (by assumption) ?_
      rotate_left
      · intro w hTw; go_simp; first | done | with_reducible rfl
      simp only [Act.put, List.setIfInBounds_toArray, List.set_cons_zero, List.set_cons_succ]
      refine takeT 3 24 (v := ?_) rfl rfl (by kernel_rfl) (by kernel_rfl) (by kernel_rfl) (by kernel_rfl) (fun _ _ _ h => h) (by rfl) ?_ (by assumption) (by assumption) ?_
      rotate_left
      · intro w hTw; obtain ⟨y5, z0, z1, z2, z3, z4, z5⟩ := hTw; go_simp; first | done | with_reducible rfl
      simp only [Act.put, List.setIfInBounds_toArray, List.set_cons_zero, List.set_cons_succ]
      refine takeT 4 25 (v := ?_) rfl rfl (by kernel_rfl) (by kernel_rfl) (by kernel_rfl) (by kernel_rfl) (fun _ _ _ h => h) (by rfl) ?_ (by assumption) (by assumption) ?_
      rotate_left
      · intro w hTw; go_simp; first | done | with_reducible rfl
      simp only [Act.put, List.setIfInBounds_toArray, List.set_cons_zero, List.set_cons_succ]
      refine takeT 5 26 (v := ?_) rfl rfl (by kernel_rfl) (by kernel_rfl) (by kernel_rfl) (by kernel_rfl) (fun _ _ _ h => h) (by rfl) ?_ (by assumption) (by assumption) ?_
      rotate_left
      · intro w hTw; go_simp; first | done | with_reducible rfl
      simp only [Act.put, List.setIfInBounds_toArray, List.set_cons_zero, List.set_cons_succ]
      refine takeT 6 27 (v := ?_) rfl rfl (by kernel_rfl) (by kernel_rfl) (by kernel_rfl) (by kernel_rfl) (fun _ _ _ h => h) (by rfl) ?_ (by assumption) (by assumption) ?_
      rotate_left
      · intro w hTw; obtain ⟨y5, z0, z1, z2, z3, z4, z5⟩ := hTw; go_simp; first | done | with_reducible rfl
      simp only [Act.put, List.setIfInBounds_toArray, List.set_cons_zero, List.set_cons_succ]
      refine oneZ 7 (by kernel_rfl) rfl (by rfl) (fun K hK => ?_)
      go_simp
      refine CX.mono ?_
      rintro e v2 ⟨A, rfl, hA, hb2⟩
      obtain ⟨k3, b3, n3, t3, nq3, nl3, nc3, iq3, il3, ic3, rfl⟩ := jin_form hA
      have hM2 := HM.out.1.more hb2
      have hT2 := HTof.out v2 hM2.g hM2.vb
      have hS2 := (row6_cells hM2.box).1.2.2.2.2.2
      have HM2 : Hid (TwM (jA k b n t nq ns.length nc (some ⟨ab, ao, none⟩) vs.length ic) k b n t w As (vs.take i) ns nv' (.slice q i m) v2 ∧ JIn v2 (fun k => wr.drew.heap.size ≤ k) (jA k3 b3 n3 t3 nq3 nl3 nc3 iq3 il3 ic3) x) := ⟨hM2, hA⟩
      clear hM2 hA hb2 hT0 hS0 CX
      go_simp
      refine hK.out _ _ hT2 hS2 (fun hTx hSx => ?_)
      clear hK K hT2 hS2
      refine oneZ 8 (by kernel_rfl) rfl (by rfl) (fun K hK => ?_)
      unfold jA
      go_simp
      have hn2 := HM2.out.1.more (below_new v2 (.cells (jA k3 b3 n3 t3 nq3 nl3 nc3 iq3 il3 ic3) 25))
      have hT6 := HTof.out _ hn2.g hn2.vb
      have hS6 := (row6_cells hn2.box).1.2.2.2.2.2
      unfold jA at hT6 hS6
      refine hK.out _ _ hT6 hS6 (fun hTy hSy => ?_)
      clear hK K hTx hSx hT6 hS6
      have HN2 : Hid (TwM (jA k b n t nq ns.length nc (some ⟨ab, ao, none⟩) vs.length ic) k b n t w As (vs.take i) ns nv' (.slice q i m) (v2.alloc (.cells (jA k3 b3 n3 t3 nq3 nl3 nc3 iq3 il3 ic3) 25))) := hn2
      clear hn2
      refine oneZ 9 (by kernel_rfl) rfl (by rfl) (fun K hK => ?_)
      refine step_append_lies _ (by rfl) (.tmp 22) (.tmp 29) 23 (by rfl) (w.heap.size + 3) 25 i0 _ 6 80 Tryd.underlying23 hi0 hz0 hz1 hz2 rfl (by omega) (.slice q i m) As.length (cellsA As) (by rfl) HN2.out.it.own ⟨v2.heap.size, 0, none⟩ 1 1 [.int .u8 (k3 : Int), .bool b3, .int .i64 n3, .string t3, .slice nq3 nl3 nc3, .slice iq3 il3 ic3] (by rfl) (by rfl) (World.news_of_block (cs := jA k3 b3 n3 t3 nq3 nl3 nc3 iq3 il3 ic3) (t := 25) (fr := (0, 0)) (heap_alloc_new v2 _)) (jin_one HM2.out.2) (by omega) (by have h := HM.out.2; unfold maxLen; omega) (by have h := HM.out.2; omega) (Nat.succ_le_of_lt HN2.out.sz) _ rfl ?_
      intro g' cap' v4 hown4 hgrow hat hlt4
      have hb4 : Below w.heap.size w v4 := HN2.out.g.grown hgrow HN2.out.g.size (fun k hk => by have := HN2.out.own.2 k hk; omega)
      have hvb4 := box_at hgrow HN2.out.vb (fun e => by have := HN2.out.own.2 _ e.symm; omega)
      have hbox4 := box_at hgrow HN2.out.box (fun e => by have := HN2.out.own.2 _ e.symm; omega)
      have hT7 := HTof.out v4 hb4 hvb4
      have hS7 := (row6_cells hbox4).1.2.2.2.2.2
      refine hK.out _ _ hT7 hS7 (fun hTx hSx => ?_)
      clear hK K hTy hSy hT7 hS7
      have hit := HM2.out.1.item (A := jA k3 b3 n3 t3 nq3 nl3 nc3 iq3 il3 ic3) (x := x) (N1 := wr.drew.heap.size) HM2.out.2 ⟨HM.out.1.sz, fun k hk => (HM.out.1.own.1 k hk).2, fun k hk => (HM.out.1.own.2 k hk).2⟩ (below_new v2 _) hown4 hgrow hat
      have HIT : Hid (TwM (jA k b n t nq ns.length nc (some ⟨ab, ao, none⟩) vs.length ic) k b n t w (As ++ [jA k3 b3 n3 t3 nq3 nl3 nc3 iq3 il3 ic3]) (vs.take i ++ [x]) ns nv' (.slice (some ⟨g', 0, none⟩) (As.length + 1) cap') (v4.setCell ⟨w.heap.size + 2, 5, none⟩ (.slice (some ⟨g', 0, none⟩) (As.length + 1) cap'))) := hit
      clear hit hown4 hgrow hat hlt4 hb4 hvb4
      show wpAnyZ _ _ _ _ _ _ _ _ _ (Act.put _ (some 30) _) _
      simp only [Act.put, List.setIfInBounds_toArray, List.set_cons_zero, List.set_cons_succ]
      refine takeT 10 31 (v := ?_) rfl rfl (by kernel_rfl) (by kernel_rfl) (by kernel_rfl) (by kernel_rfl) (fun _ _ _ h => h) (by rfl) ?_ (by assumption) (by assumption) ?_
      rotate_left
      · intro w hTw; go_simp; first | done | with_reducible rfl
      simp only [Act.put, List.setIfInBounds_toArray, List.set_cons_zero, List.set_cons_succ]
      have hfr := frozen_of_row v4 (w.heap.size + 2) 5 _ _ hbox4
      clear hbox4
      refine lastZ (by kernel_rfl) rfl (by rfl) (fun K hK => ?_)
      go_simp
      have hT8 := HTof.out _ HIT.out.g HIT.out.vb
      refine hK.out _ _ hT8 ?_
      clear hK K hT8 hfr hTx hSx
      refine doneZ (by kernel_rfl) (NoPanic.normal ?_) _
      go_wp2_with fail
      go_roundw
      case rel =>
        have hl := HM.out.2
        have htk : vs.take (i + 1) = vs.take i ++ [x] := by
          rw [List.take_succ_eq_append_getElem hl.2.1]
          have := hl.2.2.1
          rw [List.getElem?_eq_getElem hl.2.1] at this
          rw [Option.some.inj this]
        exact ⟨i + 1, _, nv', _, hl.2.1, by go_num, by rw [htk]; exact HIT.out⟩
      case measure => have := HM.out.2.2.1; simp [intOf]; omega
    · obtain rfl : i = vs.length := by omega
      rw [List.take_length] at hM
      obtain ⟨q2, m2, e2, _, _, _⟩ := own_form hM.nm
      subst e2
      have HM : Hid (TwM (jA k b n t nq ns.length nc iq vs.length ic) k b n t w As vs ns (.slice q2 ns.length m2) (.slice q vs.length m) wr) := hM
      obtain ⟨⟨c0, c1, c2, c3, c4, c5⟩, _, _, _, _, _, _⟩ := row6_cells hM.box
      obtain ⟨⟨d0, d1, d2, d3, d4, d5⟩, f0, f1, f2, f3, f4, f5⟩ := box_cells hM.rb
      have v5 := (row6_cells hM.vb).1.2.2.2.2.2
      clear hM hi hlt hAL
      go_wp2_with fail
      refine bodyPost_ret (results_cell_row rfl _ _ (w.heap.size + 1) 25 (jA k b n t q2 ns.length m2 q vs.length m) (0, 0) _ rfl (set6_heap HM.out.rb _ _ _ _ _ _) Tryd.underlying25 rfl size_json) rfl ?_
      exact HM.out.fin HS.out.2.2.2.2.2.1 HS.out.2.2.2.2.2.2
theorem dTwin_any {x : JB} (hf : Few x) : ∀ (A : Array Value) (Z : Nat → Prop) (w : World), JIn w Z A x → Calls Tryd.prog 20 #[.agg A] w fun e w' => TwnP x w e w' := by
  induction hf with
  | mk k b n t ns vs hn hv hr ih =>
    intro A Z w hA
    generalize hq : JB.mk k b n t ns vs = v at hA
    cases hA with
    | mk k' b' n' t' ns' vs' nq iq nc ic F hk hn' hnc hic hnm him hnq hiq hN hI hR =>
      cases hq
      exact (dtwin_walk k b n t ns vs nq iq nc ic F Z w hk hn' hN hn hnc hnq hI hv hR (fun i x hx w' hb => ih i x hx (F i) Z w' ((hR i x hx).bel hb))).mono fun _ _ h => h.cop
end Go.Proofs.YtblnoekogdpolaaDoor
