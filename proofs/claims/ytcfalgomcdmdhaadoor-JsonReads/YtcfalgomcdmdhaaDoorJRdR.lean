/-
  Read.
-/
import Derived.Test.YtcfalgomcdmdhaaDoorJRdW
namespace Go.Proofs.YtcfalgomcdmdhaaDoor
open Go.RowKit Go.WideShapes Go.Joins

theorem results_cell_row3 {fn : Func} {p u v : Tmp} {ty : TypeId} (h : fn.results = #[.cell p ty, .tmp u, .tmp v]) (tmps : Array Value) (P : Program) (w : World) (g : Nat) (t : TypeId) (cs : Array Value) (fr : Nat × Nat) (d : TypeDesc)
    (hp : tmps.getD p undef = .pointer (some ⟨g, 0, none⟩)) (hg : w.heap[g]? = some (.cells cs t fr))
    (hd : (match d with | .struct _ | .array _ _ => true | _ => false) = true) (hu : P.underlying ty = some d) (hi : (P.info? ty).map (·.size) = some cs.size) :
    (results fn tmps).run P w = .ok (.tuple #[.agg cs, tmps.getD u undef, tmps.getD v undef]) w := by
  have hp' : tmps[p]?.getD undef = .pointer (some ⟨g, 0, none⟩) := by simpa using hp
  simp [results, h, hp', asAddr, run_loadVar_row w g t ty cs fr d hg hu (by cases d <;> exact hd) hi, Result.andThen]
/-- What Read answers. -/
structure ReadP (F : Nat) (s : ByteArray) (w : World) (e : Ending) (w' : World) : Prop where
  ex : ∃ (A : Array Value) (x : JB) (n k : Nat), e = .returned (.tuple #[.agg A, .int .i64 (n : Int), .int .i64 (k : Int)]) ∧ JIn w' (fun k => w.heap.size ≤ k) A x ∧ Below w.heap.size w w' ∧
    (16384 < s.size → k = 3 ∧ n = 0 ∧ x = zeroB) ∧ (s.size ≤ 16384 → match J.read F (numsOf s) with
      | .ok v _ => k = 0 ∧ n = 0 ∧ x.toJ = v
      | .bad e r => k = e ∧ n = s.size - r.length ∧ x = zeroB ∧ e ≠ 0
      | .out => False)
theorem drew_heap (w : World) : w.drew.heap = w.heap := rfl
def rbox (s : ByteArray) : Obj := .cells #[.string s, .int .i64 0, .int .i64 0] 59
theorem jin_zero (w : World) (Z : Nat → Prop) : JIn w Z zeroA zeroB := jin_flat w Z 0 false 0 ByteArray.empty (by decide) rng_zero
theorem below_of_grown {w w0 w' : World} {b : Nat} (h0 : Below w.heap.size w w0) (hg : w0.grownBy w' (some b)) (hb : w.heap.size ≤ b) : Below w.heap.size w w' :=
  ⟨hg.os.trans h0.os, hg.tape.trans h0.tape, hg.output.trans h0.output, Nat.le_trans h0.size hg.size, fun i hi => (hg.block i (Nat.lt_of_lt_of_le hi h0.size) (fun e => by cases e; omega)).trans (h0.block i hi)⟩
set_option maxHeartbeats 800000 in
set_option maxRecDepth 8000 in
theorem Read_any (F : Nat) (hF : 20000 ≤ F) (s : ByteArray) (w : World) (h8 : 8 ≤ w.heap.size) (hL : Laid w) :
    Calls Tryd.prog 9 #[.string s] w fun e w' => ReadP F s w e w' := by
  by_cases hs : 16384 < s.size
  · have hq : (16384 : Int) < (s.size : Int) := by omega
    have HS : Hid (16384 < s.size) := hs
    clear hs h8 hL
    have hn := _root_.Go.heap_alloc_new w jbox
    obtain ⟨⟨d0, d1, d2, d3, d4, d5⟩, f0, f1, f2, f3, f4, f5⟩ := box_cells hn
    have HN : Hid ((w.alloc jbox).heap[w.heap.size]? = some jbox) := hn
    unfold jbox zeroA at d0 d1 d2 d3 d4 d5 f0 f1 f2 f3 f4 f5
    clear hn
    go_enter Tryd.func9, Tryd.ntmps9
    go_wp2
    refine bodyPost_ret (results_cell_row3 rfl _ _ _ w.heap.size 25 zeroA (0, 0) _ rfl HN.out rfl Tryd.underlying25 size_json) rfl ?_
    exact ⟨zeroA, zeroB, 0, 3, rfl, jin_zero _ _, below_new w jbox, fun _ => ⟨rfl, rfl, rfl⟩, fun h => absurd HS.out (by omega)⟩
  · have hq : ¬ (16384 : Int) < (s.size : Int) := by omega
    have HS : Hid (s.size ≤ 16384) := by show _ ≤ _; omega
    have n1 := _root_.Go.heap_alloc_new w jbox
    have b1 := below_new w jbox
    have b2 := below_new (w.alloc jbox) (rbox s)
    have n2 := _root_.Go.heap_alloc_new (w.alloc jbox) (rbox s)
    rw [World.size_alloc] at n2
    have h2 : RIn ((w.alloc jbox).alloc (rbox s)) (w.heap.size + 1) (.live s 0) := ⟨Nat.zero_le _, HS.out, n2⟩
    have Wl := whole_any F (w.heap.size + 1) hF (.live s 0) _ h2 (by omega) (hL.below (below_more b1 b2) h8)
    have HH : Hid (8 ≤ w.heap.size ∧ 20000 ≤ F ∧ Below w.heap.size w ((w.alloc jbox).alloc (rbox s)) ∧ ((w.alloc jbox).alloc (rbox s)).heap[w.heap.size]? = some jbox) := ⟨h8, hF, below_more b1 b2, box_below n1 b2⟩
    clear h8 hL hF hs n1 b1 b2 n2 h2
    unfold rp at Wl
    go_enter Tryd.func9, Tryd.ntmps9
    go_wp2_with fail
    refine (show Calls _ _ _ ((w.alloc jbox).alloc (rbox s)) _ from Wl.mono ?_)
    clear Wl
    rintro e w4 ⟨A, x, rfl, hA, hx, h4, g4⟩
    obtain ⟨kk, bb, nn, tt, qn, nl, nc, qi, il, ic, rfl⟩ := jin_form hA
    simp only []
    have hg : goR (J.read F) (.live s 0) = (match J.read F (numsOf s) with
      | .ok v r => (.live s (s.size - r.length), some v)
      | .bad e r => (.dead (cutS s (s.size - r.length)) e, none)
      | .out => (.dead s 160, none)) := by
      simp only [goR, List.drop_zero]
      cases J.read F (numsOf s) <;> rfl
    have hl : (numsOf s).length < F := by rw [numsOf_len]; have := HS.out; have := HH.out; omega
    have hz3 : ((w.alloc jbox).alloc (rbox s)).heap.size = w.heap.size + 1 + 1 := by simp only [World.size_alloc]
    have z4 := g4.size
    have hn5 := _root_.Go.heap_alloc_new w4 (.cells (jA kk bb nn tt qn nl nc qi il ic) 25)
    have b5 := below_new w4 (.cells (jA kk bb nn tt qn nl nc qi il ic) 25)
    have bx5 := box_below (box_grown HH.out.2.2.2 g4 (by omega)) b5
    have hA5 := (hA.bel b5).wk (Z' := fun k => w.heap.size + 1 < k) (fun k hk => by omega)
    have B5 : Below w.heap.size w (w4.alloc (.cells (jA kk bb nn tt qn nl nc qi il ic) 25)) := (below_of_grown HH.out.2.2.1 g4 (by omega)).trans (b5.mono (by omega))
    have hn5' : (w4.alloc (.cells (jA kk bb nn tt qn nl nc qi il ic) 25)).heap[w4.heap.size]? = some (.cells #[.int .u8 (kk : Int), .bool bb, .int .i64 nn, .string tt, .slice qn nl nc, .slice qi il ic] 25 (0, 0)) := hn5
    obtain ⟨⟨d0, d1, d2, d3, d4, d5⟩, f0, f1, f2, f3, f4, f5⟩ := row6_cells hn5'
    obtain ⟨⟨p0, p1, p2, p3, p4, p5⟩, u0, u1, u2, u3, u4, u5⟩ := box_cells bx5
    have H5 : Hid ((w4.alloc (.cells (jA kk bb nn tt qn nl nc qi il ic) 25)).heap[w.heap.size]? = some jbox ∧ JIn (w4.alloc (.cells (jA kk bb nn tt qn nl nc qi il ic) 25)) (fun k => w.heap.size + 1 < k) (jA kk bb nn tt qn nl nc qi il ic) x ∧ Below w.heap.size w (w4.alloc (.cells (jA kk bb nn tt qn nl nc qi il ic) 25))) := ⟨bx5, hA5, B5⟩
    cases hr : J.read F (numsOf s) with
    | out => exact absurd hr (J.read_fed hl)
    | ok v r =>
      simp only [hr] at hg
      have hx' := hx v (by rw [hg])
      rw [hg] at h4
      have h5 := h4.below b5
      have c2 := h5.c2
      simp only [RS.e] at c2
      rw [show (((0 : Nat) : Int)) = 0 from rfl] at c2
      have HR : Hid (J.read F (numsOf s) = .ok v r ∧ x.toJ = v) := ⟨hr, hx'⟩
      clear hg hl hz3 z4 hn5 b5 bx5 hA5 B5 hn5' hr hx' h4 h5 hx hA g4
      unfold jA at c2 d0 d1 d2 d3 d4 d5 f0 f1 f2 f3 f4 f5 p0 p1 p2 p3 p4 p5 u0 u1 u2 u3 u4 u5 ⊢
      go_wp2
      refine bodyPost_ret (results_cell_row3 rfl _ _ _ w.heap.size 25 (jA kk bb nn tt qn nl nc qi il ic) (0, 0) _ rfl (set6_heap H5.out.1 _ _ _ _ _ _) rfl Tryd.underlying25 size_json) rfl ?_
      have g6 := set6_grown (w4.alloc (.cells (jA kk bb nn tt qn nl nc qi il ic) 25)) w.heap.size (.int .u8 (kk : Int)) (.bool bb) (.int .i64 nn) (.string tt) (.slice qn nl nc) (.slice qi il ic)
      exact ⟨_, x, 0, 0, rfl, (H5.out.2.1.kept g6 (fun k hk e => by cases e; omega)).wk (fun k hk => by omega), below_of_grown H5.out.2.2 g6 (Nat.le_refl _), fun h => absurd HS.out (by omega), fun _ => by rw [HR.out.1]; exact ⟨rfl, rfl, HR.out.2⟩⟩
    | bad er r =>
      simp only [hr] at hg
      rw [hg] at h4
      have h5 := h4.below b5
      have hok := h5.ok
      have c1 := h5.c1
      have c2 := h5.c2
      obtain ⟨a, ha⟩ := J.read_place (by have := HH.out; omega) hr
      have hrl : r.length ≤ s.size := by rw [← numsOf_len, ha, List.length_append]; omega
      simp only [RS.e, RS.i, cutS_size s (Nat.sub_le s.size r.length)] at c1 c2
      have he0 : ((er : Int) == 0) = false := by simpa using fun q : (er : Int) = 0 => hok.1 (by omega)
      have HR : Hid (J.read F (numsOf s) = .bad er r) := hr
      have HNZ : Hid (er ≠ 0) := hok.1
      obtain ⟨E, hE⟩ : ∃ E : Int, (er : Int) = E := ⟨_, rfl⟩
      obtain ⟨I, hI⟩ : ∃ I : Int, ((s.size - r.length : Nat) : Int) = I := ⟨_, rfl⟩
      rw [hE] at he0 c2
      rw [hI] at c1
      have HE : Hid ((er : Int) = E ∧ ((s.size - r.length : Nat) : Int) = I) := ⟨hE, hI⟩
      clear hg hl hz3 z4 hn5 b5 bx5 hA5 B5 hn5' hr h4 h5 hx hA g4 hok ha hrl hE hI
      unfold jA at c1 c2 d0 d1 d2 d3 d4 d5 f0 f1 f2 f3 f4 f5 p0 p1 p2 p3 p4 p5 u0 u1 u2 u3 u4 u5 ⊢
      go_wp2_with fail
      go_region
      go_wp2
      rw [← HE.out.1, ← HE.out.2]
      have g6 := set6_grown (w4.alloc (.cells (jA kk bb nn tt qn nl nc qi il ic) 25)) w.heap.size (.int .u8 0) (.bool false) (.int .i64 0) (.string ⟨#[]⟩) (.slice none 0 0) (.slice none 0 0)
      have B6 := below_of_grown H5.out.2.2 g6 (Nat.le_refl _)
      have hx8 := set6_heap H5.out.1 (.int .u8 0) (.bool false) (.int .i64 0) (.string ⟨#[]⟩) (.slice none 0 0) (.slice none 0 0)
      have hx9 : (World.drew (set6 (w4.alloc (.cells (jA kk bb nn tt qn nl nc qi il ic) 25)) w.heap.size (.int .u8 0) (.bool false) (.int .i64 0) (.string ⟨#[]⟩) (.slice none 0 0) (.slice none 0 0))).heap[w.heap.size]? = some (.cells zeroA 25 (0, 0)) := by rw [drew_heap]; unfold zeroA; exact hx8
      have B7 := B6.drew
      unfold set6 jA at hx9 B7
      refine bodyPost_ret (results_cell_row3 rfl _ _ _ w.heap.size 25 zeroA (0, 0) _ rfl hx9 rfl Tryd.underlying25 size_json) rfl ?_
      exact ⟨zeroA, zeroB, s.size - r.length, er, rfl, jin_zero _ _, B7, fun h => absurd HS.out (by omega), fun _ => by rw [HR.out]; exact ⟨rfl, rfl, rfl, HNZ.out⟩⟩
end Go.Proofs.YtcfalgomcdmdhaaDoor
