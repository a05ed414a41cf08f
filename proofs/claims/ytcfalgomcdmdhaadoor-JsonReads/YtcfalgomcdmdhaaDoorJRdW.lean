/-
  The reader: a whole text.
-/
import Derived.Test.YtcfalgomcdmdhaaDoorJVal
import Derived.Laws.EntriesVeiled
namespace Go.Proofs.YtcfalgomcdmdhaaDoor
open Go.RowKit Go.WideShapes Go.Joins

theorem read_st {F : Nat} (hF : 0 < F) {σ σ2 σ3 : RS} {V : J.JV} (h2 : (goR (J.value F 32) σ).1 = σ2) (hV : ∀ v, (goR (J.value F 32) σ).2 = some v → V = v) (h3 : (goR J.blanks σ2).1 = σ3) (ho : σ3.ok) :
    (goR (J.read F) σ).1 = (if σ3.i < σ3.s.size then σ3.refuse 160 else σ3) ∧ ∀ v, (goR (J.read F) σ).2 = some v → V = v := by
  have e : goR (J.read F) σ = goR (J.close V) σ3 := by
    unfold J.read J.valueE
    rw [then_assoc]
    rw [goR_thenV' (q := fun v => (J.blanks.then fun _ => J.Rd.pure v).then J.close) (J.Good.value hF 32).okS (V := V) (fun v hv => (hV v hv).symm), h2]
    simp only [then_assoc]
    rw [unit_then' J.Good.blanks, h3, pure_then]
  rw [e]
  cases σ3 with
  | dead s x =>
    refine ⟨?_, fun v hv => by cases hv⟩
    rw [if_neg (by simp [RS.i, RS.s])]; rfl
  | live s i =>
    by_cases hi : i < s.size
    · have hl := rest_len s i
      have hc := rest_cons hi
      rw [hc] at hl
      rw [if_pos (by exact hi)]
      simp only [goR, hc, J.close]
      refine ⟨?_, fun v hv => by cases hv⟩
      rw [hl]
      show RS.dead (cutS s (s.size - (s.size - i))) 160 = RS.dead (cutS s i) 160
      rw [show s.size - (s.size - i) = i by omega]
    · rw [if_neg (by exact hi)]
      simp only [goR, rest_nil hi, J.close]
      have : i = s.size := by simp only [RS.ok] at ho; omega
      subst this
      exact ⟨rfl, fun v hv => by cases hv; rfl⟩
def cbox (w : World) (b : Nat) : World := ((w.alloc (.cells #[rp b] 79)).alloc jbox).alloc (.cells #[cloV w.heap.size (w.heap.size + 1 + 1)] 80)
/-- what stands there when the value's reading begins -/
structure Began (w w3 : World) (b : Nat) (σ : RS) : Prop where
  env : Env w3 b w.heap.size (w.heap.size + 1 + 1)
  r : RIn w3 b σ
  bel : Below w.heap.size w w3
  box : w3.heap[w.heap.size + 1]? = some jbox
  sz : w3.heap.size = w.heap.size + 1 + 1 + 1
theorem began {w : World} {b : Nat} {σ : RS} (h : RIn w b σ) (h8 : 8 ≤ b) (hL : Laid w) : Began w (cbox w b) b σ := by
  have hlt := h.lt
  have b1 := below_new w (.cells #[rp b] 79)
  have b2 := below_new (w.alloc (.cells #[rp b] 79)) jbox
  have b3 := below_new ((w.alloc (.cells #[rp b] 79)).alloc jbox) (.cells #[cloV w.heap.size (w.heap.size + 1 + 1)] 80)
  have n1 := _root_.Go.heap_alloc_new w (.cells #[rp b] 79)
  have n2 := _root_.Go.heap_alloc_new (w.alloc (.cells #[rp b] 79)) jbox
  have n3 := _root_.Go.heap_alloc_new ((w.alloc (.cells #[rp b] 79)).alloc jbox) (.cells #[cloV w.heap.size (w.heap.size + 1 + 1)] 80)
  rw [World.size_alloc] at n2
  rw [World.size_alloc, World.size_alloc] at n3
  have n1' := box_below (box_below n1 b2) b3
  have n2' := box_below n2 b3
  have bb : Below w.heap.size w (cbox w b) := below_more b1 (below_more b2 b3)
  have sz : (cbox w b).heap.size = w.heap.size + 1 + 1 + 1 := by unfold cbox; simp only [World.size_alloc]
  refine ⟨⟨?_, ?_, by omega, by omega, h8, hL.below bb (by omega)⟩, h.below bb, bb, n2', sz⟩
  · show (cbox w b).cell? _ = _
    unfold cbox; rw [cell_of_block n1']; rfl
  · show (cbox w b).cell? _ = _
    unfold cbox; rw [cell_of_block n3]; rfl
set_option maxHeartbeats 800000 in
set_option maxRecDepth 8000 in
theorem whole_any (F b : Nat) (hF : 20000 ≤ F) (σ : RS) (w : World) (h : RIn w b σ) (h8 : 8 ≤ b) (hL : Laid w) :
    Calls Tryd.prog 32 #[rp b] w fun e w' => ValP (J.read F) b σ w e w' := by
  have hmf : ∀ (fn : Fn) (first cap : Array Value) (w : World), (Instr.makeFunc fn first cap).run Tryd.prog w = .ok (.func fn first cap) w := fun _ _ _ _ => rfl
  have hlt := h.lt
  have hbg := began h h8 hL
  have Vl := value_any b w.heap.size (w.heap.size + 1 + 1) F hF 32 1 (by decide) (Nat.le_refl _) σ (cbox w b) hbg.env hbg.r
  have HH : Hid (RIn w b σ ∧ b < w.heap.size ∧ 8 ≤ b ∧ 20000 ≤ F) := ⟨h, hlt, h8, hF⟩
  have HB : Hid (Began w (cbox w b) b σ) := hbg
  clear h hlt h8 hL hbg hF
  unfold rp
  unfold pp at Vl
  go_enter Tryd.func32, Tryd.ntmps32
  go_wp2_with fail
  refine (show Calls _ _ _ (cbox w b) _ from Vl.mono ?_)
  clear hmf Vl
  rintro e w4 ⟨A, x, rfl, hA, hx, h4, g4⟩
  obtain ⟨kk, bb, nn, tt, qn, nl, nc, qi, il, ic, rfl⟩ := jin_form hA
  simp only []
  have hz := HB.out.sz
  have hh0 := HH.out
  have HV : Hid (JIn w4 (fun k => (cbox w b).heap.size ≤ k) (jA kk bb nn tt qn nl nc qi il ic) x ∧ (∀ v, (goR (J.value F 32) σ).2 = some v → x.toJ = v)) := ⟨hA, hx⟩
  have e4 := HB.out.env.grown g4 (by omega)
  have bx4 := box_grown HB.out.box g4 (by have := HH.out; omega)
  have hlt4 := g4.size
  have H4 : Hid (RIn w4 b (goR (J.value F 32) σ).1 ∧ (cbox w b).grownBy w4 (some b) ∧ Env w4 b w.heap.size (w.heap.size + 1 + 1) ∧ w4.heap[w.heap.size + 1]? = some jbox ∧ w.heap.size + 1 + 1 + 1 ≤ w4.heap.size) := ⟨h4, g4, e4, bx4, by omega⟩
  have hn5 := _root_.Go.heap_alloc_new w4 (.cells (jA kk bb nn tt qn nl nc qi il ic) 25)
  have b5 := below_new w4 (.cells (jA kk bb nn tt qn nl nc qi il ic) 25)
  have hr5 := (e4.below b5 (by omega)).r
  have h5 := h4.below b5
  have Bk := blanks_any b (goR (J.value F 32) σ).1 _ h5
  have H5 : Hid (RIn (w4.alloc (.cells (jA kk bb nn tt qn nl nc qi il ic) 25)) b (goR (J.value F 32) σ).1 ∧ Below w4.heap.size w4 (w4.alloc (.cells (jA kk bb nn tt qn nl nc qi il ic) 25)) ∧ (w4.alloc (.cells (jA kk bb nn tt qn nl nc qi il ic) 25)).heap[w4.heap.size]? = some (.cells (jA kk bb nn tt qn nl nc qi il ic) 25 (0, 0))) := ⟨h5, b5, hn5⟩
  unfold rp at hr5 Bk
  obtain ⟨KK, hKK⟩ : ∃ KK : Int, (kk : Int) = KK := ⟨_, rfl⟩
  unfold jA at hr5 Bk ⊢
  rw [hKK] at hr5 Bk ⊢
  clear hA hx h4 g4 e4 bx4 hlt4 hz hn5 h5 b5
  go_wp2_with fail
  refine Bk.mono ?_
  rintro e w6 ⟨rfl, h6, g6⟩
  simp only []
  have g6' : (w4.alloc (.cells (jA kk bb nn tt qn nl nc qi il ic) 25)).grownBy w6 (some b) := by unfold jA; rw [hKK]; exact g6
  have hs4 := H4.out.2.2.2.2
  clear hh0
  have hbl := H4.out.1.lt
  have hH := HH.out
  have z5 : w4.heap.size < (w4.alloc (.cells (jA kk bb nn tt qn nl nc qi il ic) 25)).heap.size := by rw [World.size_alloc]; omega
  have x6 := box_grown H5.out.2.2 g6' (by omega)
  have E6 := (H4.out.2.2.1.below H5.out.2.1 (by omega)).grown g6' (by omega)
  have hr6 := E6.r
  have bx6 := box_grown (box_below H4.out.2.2.2.1 H5.out.2.1) g6' (by omega)
  have hst := read_st (F := F) (by omega) rfl HV.out.2 rfl h6.ok
  have HS : Hid ((goR (J.read F) σ).1 = (if (goR J.blanks (goR (J.value F 32) σ).1).1.i < (goR J.blanks (goR (J.value F 32) σ).1).1.s.size then (goR J.blanks (goR (J.value F 32) σ).1).1.refuse 160 else (goR J.blanks (goR (J.value F 32) σ).1).1) ∧ ∀ v, (goR (J.read F) σ).2 = some v → x.toJ = v) := hst
  generalize (goR J.blanks (goR (J.value F 32) σ).1).1 = σ3 at h6 HS
  have hG6 : w.grownBy w6 (some b) := grown_trans (grown_below HB.out.bel _) (grown_trans (grown_trans H4.out.2.1 (grown_below H5.out.2.1 _)) g6')
  have hA6 : JIn w6 (fun k => w.heap.size + 1 + 1 < k) (jA kk bb nn tt qn nl nc qi il ic) x := ((HV.out.1.bel H5.out.2.1).kept g6' (fun k hk e => by cases e; have := HB.out.sz; omega)).wk (fun k hk => by have := HB.out.sz; omega)
  have c0 := h6.c0
  have c1 := h6.c1
  have H6 : Hid (RIn w6 b σ3 ∧ Env w6 b w.heap.size (w.heap.size + 1 + 1) ∧ w.grownBy w6 (some b) ∧ JIn w6 (fun k => w.heap.size + 1 + 1 < k) (jA kk bb nn tt qn nl nc qi il ic) x ∧ w6.heap[w.heap.size + 1]? = some jbox ∧ w6.heap[w4.heap.size]? = some (.cells (jA kk bb nn tt qn nl nc qi il ic) 25 (0, 0)) ∧ w4.heap.size < w6.heap.size) := ⟨h6, E6, hG6, hA6, bx6, x6, Nat.lt_of_lt_of_le z5 g6'.size⟩
  unfold rp at hr6
  have R := fun w' (hw : RIn w' b σ3) => refuse_any b σ3 160 ⟨by decide, by decide⟩ w' hw
  simp only [show (((160 : Nat) : Int)) = 160 from rfl] at R
  unfold rp at R
  -- the end, in a world behind
  have fin : Hid (∀ (w8 : World) (σ4 : RS), RIn w8 b σ4 → w6.grownBy w8 (some b) → (goR (J.read F) σ).1 = σ4 → w8.heap[w.heap.size + 1]? = some jbox ∧ w8.heap[w4.heap.size]? = some (.cells (jA kk bb nn tt qn nl nc qi il ic) 25 (0, 0)) ∧
      ∀ wF, w8.grownBy wF (some (w.heap.size + 1)) → ValP (J.read F) b σ w (.returned (.agg (jA kk bb nn tt qn nl nc qi il ic))) wF) := by
    intro w8 σ4 h8 g8 hs8
    have hh := H6.out
    refine ⟨box_grown hh.2.2.2.2.1 g8 (by omega), box_grown hh.2.2.2.2.2.1 g8 (by omega), fun wF gF => ?_⟩
    have hlb := h8.lt
    have hb9 : b < w.heap.size := HH.out.2.1
    refine ⟨_, x, rfl, ((hh.2.2.2.1.kept g8 (fun k hk e => by cases e; omega)).kept gF (fun k hk e => by cases e; omega)).wk (fun k hk => by omega), HS.out.2, ?_, ?_⟩
    · rw [hs8]; exact h8.at (gF.block b hlb (fun e => by cases e; omega))
    · have g68 := grown_trans hh.2.2.1 g8
      exact ⟨gF.os.trans g68.os, gF.tape.trans g68.tape, gF.output.trans g68.output, Nat.le_trans g68.size gF.size, fun i hi hne => (gF.block i (Nat.lt_of_lt_of_le hi g68.size) (fun e => by cases e; omega)).trans (g68.block i hi hne)⟩
  clear hbl hs4 hH z5 x6 E6 bx6 hst hG6 hA6 h6 g6 g6' Bk hr5
  obtain ⟨I, hI⟩ : ∃ I : Int, (σ3.i : Int) = I := ⟨_, rfl⟩
  obtain ⟨s3, hs3⟩ : ∃ s3, σ3.s = s3 := ⟨_, rfl⟩
  rw [hI] at c1
  rw [hs3] at c0
  by_cases hq : I < (s3.size : Int)
  · have HQ : Hid (σ3.i < σ3.s.size) := by rw [← hI, ← hs3] at hq; show _ < _; omega
    clear hI hs3
    go_wp2_with fail
    go_quiet (fail)
    have B1' : Below w6.heap.size w6 (w6.drewN nq) := below_dN (Below.refl _ _) _
    have R' := R _ (H6.out.1.below B1')
    have E7 := (H6.out.2.1.below B1' (by have := H6.out.2.2.2.2.2.2; have := HH.out; have := H4.out.2.2.2.2; omega)).r
    unfold rp at E7
    have HB7 : Hid (Below w6.heap.size w6 (w6.drewN nq)) := B1'
    generalize w6.drewN nq = w7 at *
    clear c0 c1 hr6 R B1' hq
    go_wp2_with fail
    refine R'.mono ?_
    rintro e w8 ⟨rfl, h8, g8⟩
    simp only []
    have X := fin.out w8 (σ3.refuse 160) h8 (grown_trans (grown_below HB7.out _) g8) (by rw [HS.out.1, if_pos HQ.out])
    have HX : Hid (∀ wF, w8.grownBy wF (some (w.heap.size + 1)) → ValP (J.read F) b σ w (.returned (.agg (jA kk bb nn tt qn nl nc qi il ic))) wF) := X.2.2
    obtain ⟨x1, x2, _⟩ := X
    obtain ⟨⟨p0, p1, p2, p3, p4, p5⟩, u0, u1, u2, u3, u4, u5⟩ := box_cells x1
    have x2' : w8.heap[w4.heap.size]? = some (.cells #[.int .u8 (kk : Int), .bool bb, .int .i64 nn, .string tt, .slice qn nl nc, .slice qi il ic] 25 (0, 0)) := x2
    obtain ⟨⟨d0, d1, d2, d3, d4, d5⟩, f0, f1, f2, f3, f4, f5⟩ := row6_cells x2'
    have HBX : Hid (w8.heap[w.heap.size + 1]? = some jbox) := x1
    clear R' E7 g8 h8 x1 x2 x2'
    subst hKK
    go_wp2
    refine bodyPost_ret (results_cell_row rfl _ _ (w.heap.size + 1) 25 (jA kk bb nn tt qn nl nc qi il ic) (0, 0) _ rfl (set6_heap HBX.out _ _ _ _ _ _) Tryd.underlying25 rfl size_json) rfl ?_
    exact HX.out _ (set6_grown _ _ _ _ _ _ _ _)
  · have HQ : Hid (¬ σ3.i < σ3.s.size) := by rw [← hI, ← hs3] at hq; show ¬ _; omega
    clear hI hs3
    go_wp2_with fail
    go_quiet (fail)
    have B1' : Below w6.heap.size w6 (w6.drewN nq) := below_dN (Below.refl _ _) _
    have HB7 : Hid (Below w6.heap.size w6 (w6.drewN nq)) := B1'
    have h7 := H6.out.1.below B1'
    generalize w6.drewN nq = w7 at *
    clear c0 c1 hr6 R B1'
    have X := fin.out w7 σ3 h7 (grown_below HB7.out _) (by rw [HS.out.1, if_neg HQ.out])
    have HX : Hid (∀ wF, w7.grownBy wF (some (w.heap.size + 1)) → ValP (J.read F) b σ w (.returned (.agg (jA kk bb nn tt qn nl nc qi il ic))) wF) := X.2.2
    obtain ⟨x1, x2, _⟩ := X
    obtain ⟨⟨p0, p1, p2, p3, p4, p5⟩, u0, u1, u2, u3, u4, u5⟩ := box_cells x1
    have x2' : w7.heap[w4.heap.size]? = some (.cells #[.int .u8 (kk : Int), .bool bb, .int .i64 nn, .string tt, .slice qn nl nc, .slice qi il ic] 25 (0, 0)) := x2
    obtain ⟨⟨d0, d1, d2, d3, d4, d5⟩, f0, f1, f2, f3, f4, f5⟩ := row6_cells x2'
    have HBX : Hid (w7.heap[w.heap.size + 1]? = some jbox) := x1
    clear h7 x1 x2 x2'
    subst hKK
    go_wp2
    refine bodyPost_ret (results_cell_row rfl _ _ (w.heap.size + 1) 25 (jA kk bb nn tt qn nl nc qi il ic) (0, 0) _ rfl (set6_heap HBX.out _ _ _ _ _ _) Tryd.underlying25 rfl size_json) rfl ?_
    exact HX.out _ (set6_grown _ _ _ _ _ _ _ _)
end Go.Proofs.YtcfalgomcdmdhaaDoor
