/-
  Next: the document's.
-/
import Derived.Test.YtoagaddciapmkaaDoorJ29
namespace Go.Proofs.YtoagaddciapmkaaDoor
open Go.RowKit Go.WideShapes Go.Maps

set_option maxHeartbeats 4000000 in
set_option maxRecDepth 8000 in
theorem rNext_any (q : Option Addr) (n c : Nat) (l : List RecV) (t : Int) (u d : ByteArray) (o : Int) (w : World) (h : RsL w q n l) (hq : q = none → c = 0) (hnb : (n : Int) ≤ 9223372036854775807) (hs : Mild n l) (m : Int) (hmis : MisP l m) (E : Nat) (hE : nextE l t u d o m = E) :
    Calls Tryd.prog 32 #[.slice q n c, .int .i64 t, .string u, .string d, .int .i64 o] w fun e w' => ∃ v, e = .returned (.tuple #[v, .int .i64 (E : Int)]) ∧ OnR w v (nextL l t u d o E) w' := by
  have RF := rAsked_any q n c l w h hnb hs
  have NIL : Hid (∀ E', E' ≠ 0 → nextL l t u d o E' = []) := fun E' hE' => by unfold nextL; rw [if_neg hE']
  go_enter Tryd.func32, Tryd.ntmps32
  by_cases h0 : refE l = 0
  case neg =>
    have HE : Hid (E = refE l) := by show E = _; rw [← hE]; unfold nextE; rw [if_pos h0]
    have HL : Hid (nextL l t u d o E = []) := NIL.out E (by rw [HE.out]; exact h0)
    generalize refE l = R at RF HE h0
    have hne : ((R : Int) != 0) = true := by simpa using h0
    clear hE h hmis hq hs
    go_wp2_with fail
    refine RF.mono ?_
    rintro e w1 ⟨rfl, hb1⟩
    simp only []
    go_wp2
    go_ret2
    refine ⟨_, ?_, by rw [HL.out]; exact ⟨rown_nil _ _, hb1⟩⟩
    rw [HE.out]; rfl
  rw [h0] at RF
  have ho := ref_ok h0
  have hn5 : (n : Int) ≤ 4096 := by have := h.n; have := ho.1; omega
  have HF : Hid (fldE t u d o ≠ 0 → E = fldE t u d o) := fun h1 => by rw [← hE]; unfold nextE; rw [if_neg (by omega), if_pos h1]
  have MF := fun w' (hb : Below w.heap.size w w') => rFirst_any q n c l w' (h.below hb) ho.2 hn5 m hmis
  have HH : Hid (RsL w q n l) := h
  have HQ : Hid (q = none → c = 0) := hq
  have HM : Hid (MisP l m) := hmis
  have HO : Hid (∀ r ∈ l, MayR r) := ho.2
  have HE0 : Hid (nextE l t u d o m = E) := hE
  have HR0 : Hid (refE l = 0) := h0
  clear h hq hmis ho hE hs h0
  go_wp2_with fail
  refine RF.mono ?_
  rintro e w1 ⟨rfl, hb1⟩
  clear RF
  simp only []
  by_cases t1 : t < 0
  · have e0 : fldE t u d o = 2 := by unfold fldE; rw [if_pos (.inl t1)]
    have HE : Hid (E = 2) := by show _ = _; rw [HF.out (by rw [e0]; decide), e0]
    have HL : Hid (nextL l t u d o E = []) := NIL.out E (by rw [HE.out]; decide)
    clear e0
    go_wp2
    go_ret2
    refine ⟨_, ?_, by rw [HL.out]; exact ⟨rown_nil _ _, hb1⟩⟩
    rw [HE.out]; rfl
  by_cases t2 : (1099511627776 : Int) < t
  · have e0 : fldE t u d o = 2 := by unfold fldE; rw [if_pos (.inr t2)]
    have HE : Hid (E = 2) := by show _ = _; rw [HF.out (by rw [e0]; decide), e0]
    have HL : Hid (nextL l t u d o E = []) := NIL.out E (by rw [HE.out]; decide)
    clear e0
    go_wp2
    go_ret2
    refine ⟨_, ?_, by rw [HL.out]; exact ⟨rown_nil _ _, hb1⟩⟩
    rw [HE.out]; rfl
  by_cases u1 : (32 : Int) < (u.size : Int)
  · have e0 : fldE t u d o = 3 := by unfold fldE; rw [if_neg (by omega), if_pos (.inl (by omega))]
    have HE : Hid (E = 3) := by show _ = _; rw [HF.out (by rw [e0]; decide), e0]
    have HL : Hid (nextL l t u d o E = []) := NIL.out E (by rw [HE.out]; decide)
    clear e0
    go_wp2
    go_ret2
    refine ⟨_, ?_, by rw [HL.out]; exact ⟨rown_nil _ _, hb1⟩⟩
    rw [HE.out]; rfl
  by_cases d1 : (16384 : Int) < (d.size : Int)
  · have e0 : fldE t u d o = 3 := by unfold fldE; rw [if_neg (by omega), if_pos (.inr (by omega))]
    have HE : Hid (E = 3) := by show _ = _; rw [HF.out (by rw [e0]; decide), e0]
    have HL : Hid (nextL l t u d o E = []) := NIL.out E (by rw [HE.out]; decide)
    clear e0
    go_wp2
    go_ret2
    refine ⟨_, ?_, by rw [HL.out]; exact ⟨rown_nil _ _, hb1⟩⟩
    rw [HE.out]; rfl
  by_cases o1 : o < 100
  · have e0 : fldE t u d o = 2 := by unfold fldE; rw [if_neg (by omega), if_neg (by omega), if_pos (.inl o1)]
    have HE : Hid (E = 2) := by show _ = _; rw [HF.out (by rw [e0]; decide), e0]
    have HL : Hid (nextL l t u d o E = []) := NIL.out E (by rw [HE.out]; decide)
    clear e0
    go_wp2
    go_ret2
    refine ⟨_, ?_, by rw [HL.out]; exact ⟨rown_nil _ _, hb1⟩⟩
    rw [HE.out]; rfl
  by_cases o2 : (599 : Int) < o
  · have e0 : fldE t u d o = 2 := by unfold fldE; rw [if_neg (by omega), if_neg (by omega), if_pos (.inr o2)]
    have HE : Hid (E = 2) := by show _ = _; rw [HF.out (by rw [e0]; decide), e0]
    have HL : Hid (nextL l t u d o E = []) := NIL.out E (by rw [HE.out]; decide)
    clear e0
    go_wp2
    go_ret2
    refine ⟨_, ?_, by rw [HL.out]; exact ⟨rown_nil _ _, hb1⟩⟩
    rw [HE.out]; rfl
  have hf0 : fldE t u d o = 0 := by unfold fldE; rw [if_neg (by omega), if_neg (by omega), if_neg (by omega)]
  have HX : Hid (E = if l.length = 4096 then 4 else if t < (prevR l l.length).tim ∨ 0 ≤ m then 150 else 0) := by show _ = _; rw [← HE0.out]; unfold nextE; rw [if_neg (by rw [HR0.out]; decide), if_neg (by omega)]
  clear HF
  by_cases h2 : n = 4096
  · have HE : Hid (E = 4) := by show _ = _; rw [HX.out, if_pos (by rw [← HH.out.n]; exact h2)]
    have HL : Hid (nextL l t u d o E = []) := NIL.out E (by rw [HE.out]; decide)
    subst h2
    clear hn5 hnb
    go_wp2
    go_ret2
    refine ⟨_, ?_, by rw [HL.out]; exact ⟨rown_nil _ _, hb1⟩⟩
    rw [HE.out]; rfl
  have hne : ((n : Int) == 4096) = false := by simpa using fun e : (n : Int) = 4096 => h2 (by omega)
  have HY : Hid (E = if t < (prevR l l.length).tim ∨ 0 ≤ m then 150 else 0) := by show _ = _; rw [HX.out, if_neg (by rw [← HH.out.n]; exact h2)]
  clear HX h2
  have M1 := MF w1 hb1
  clear MF
  by_cases hm0 : 0 ≤ m
  · have HE : Hid (E = 150) := by show _ = _; rw [HY.out, if_pos (.inr hm0)]
    have HL : Hid (nextL l t u d o E = []) := NIL.out E (by rw [HE.out]; decide)
    go_wp2_with (go_at_call 56; refine M1.mono ?_; rintro e w2 ⟨rfl, hb2⟩)
    go_ret2
    refine ⟨_, ?_, by rw [HL.out]; exact ⟨rown_nil _ _, below_more hb1 hb2⟩⟩
    rw [HE.out]; rfl
  have hm1 : MisP l (-1) := by
    have := mis_ge HM.out
    have e : m = -1 := by omega
    rw [← e]; exact HM.out
  have hahd := prev_ahd HO.out (Nat.le_refl l.length)
  have hsq := fit_seq (l := l) l.length (mis_all hm1)
  obtain ⟨bf, hbf⟩ : ∃ b, (prevR l l.length).hash = b := ⟨_, rfl⟩
  have hb64 : bf.size = 64 := by rw [← hbf]; exact dig_size hahd.dig
  obtain ⟨Tm, rfl⟩ : ∃ S : Nat, t = (S : Int) := ⟨t.toNat, by omega⟩
  obtain ⟨O, rfl⟩ : ∃ S : Nat, o = (S : Int) := ⟨o.toNat, by omega⟩
  have HC := fun w' => rhashed_any n Tm O u d ⟨#[]⟩ bf w' (by omega) (by omega) (by omega) (by omega) (by omega) (Nat.le_of_eq hb64)
  have HFR : Hid (folR (prevR l l.length) Tm u d O = ⟨(n : Int), (Tm : Int), u, d, (O : Int), hexD (recN n Tm O u d bf)⟩) := by
    show folR (prevR l l.length) Tm u d O = _
    unfold folR
    rw [hsq, hbf, ← HH.out.n, show (n : Int) - 1 + 1 = (n : Int) by omega]
  have HBF : Hid ((prevR l l.length).hash = bf) := hbf
  generalize hexD (recN (n : Int) (Tm : Int) (O : Int) u d bf) = X at HC HFR
  have HNL : Hid (l.length ≤ 4096) := by show _ ≤ _; rw [← HH.out.n]; omega
  clear hsq hahd hbf hm1 hb64
  by_cases hn0 : n = 0
  · have hz : ¬ (0 : Int) < (n : Int) := by omega
    have HE : Hid (E = 0) := by
      show _ = _
      rw [HY.out, if_neg]
      have e : (prevR l l.length).tim = 0 := by rw [← HH.out.n, hn0]; rfl
      rw [e]; omega
    have hnb0 : nought = bf := by rw [← HBF.out, ← HH.out.n, hn0]; rfl
    have HN0 : Hid _ := hn0
    have hzN : ¬ 0 < n := by omega
    clear hn0
    go_upto_region 17 with (go_at_call 56; refine M1.mono ?_; rintro e w2 ⟨rfl, hb2⟩)
    rw [nought_lit, hnb0]
    clear hnb0 M1 hz hzN
    have HL : Hid (nextL l (Tm : Int) u d (O : Int) E = l ++ [⟨(n : Int), (Tm : Int), u, d, (O : Int), X⟩]) := by show _ = _; unfold nextL; rw [HE.out, if_pos rfl, HFR.out]
    have B2 := below_more hb1 hb2
    have BX : Below w.heap.size w (w2.alloc (.cells #[.int .i64 (n : Int), .int .i64 (Tm : Int), .string u, .string d, .int .i64 (O : Int), .string ⟨#[]⟩] 41)) := B2.alloc B2.size _
    have NX : (w2.alloc (.cells #[.int .i64 (n : Int), .int .i64 (Tm : Int), .string u, .string d, .int .i64 (O : Int), .string ⟨#[]⟩] 41)).heap[w2.heap.size]? = some (.cells #[.int .i64 (n : Int), .int .i64 (Tm : Int), .string u, .string d, .int .i64 (O : Int), .string ⟨#[]⟩] 41 (0, 0)) := _root_.Go.heap_alloc_new _ _
    have sg : w.heap.size ≤ w2.heap.size := B2.size
    go_upto_region 18 with fail
    change Code.wp _ _ _ _ (w2.alloc (.cells #[.int .i64 (n : Int), .int .i64 (Tm : Int), .string u, .string d, .int .i64 (O : Int), .string ⟨#[]⟩] 41))
    generalize w2.heap.size = g at NX sg ⊢
    generalize w2.alloc (.cells #[.int .i64 (n : Int), .int .i64 (Tm : Int), .string u, .string d, .int .i64 (O : Int), .string ⟨#[]⟩] 41) = W3 at NX BX ⊢
    clear B2 hb1 hb2
    have x0 : W3.cell? ⟨g, 0, none⟩ = some (.int .i64 (n : Int)) := Lib.cell_of_heap NX 0
    have x1 : W3.cell? ⟨g, 1, none⟩ = some (.int .i64 (Tm : Int)) := Lib.cell_of_heap NX 1
    have x2 : W3.cell? ⟨g, 2, none⟩ = some (.string u) := Lib.cell_of_heap NX 2
    have x3 : W3.cell? ⟨g, 3, none⟩ = some (.string d) := Lib.cell_of_heap NX 3
    have x4 : W3.cell? ⟨g, 4, none⟩ = some (.int .i64 (O : Int)) := Lib.cell_of_heap NX 4
    have x5 : W3.cell? ⟨g, 5, none⟩ = some (.string ⟨#[]⟩) := Lib.cell_of_heap NX 5
    go_wp2_with fail
    refine (HC _).mono ?_
    rintro e w4 ⟨rfl, hb4⟩
    have N4 := block_below NX hb4
    have B4 := below_more BX hb4
    have c5 : w4.cell? ⟨g, 5, none⟩ = some (.string ⟨#[]⟩) := Lib.cell_of_heap N4 5
    have fz : w4.frozen? ⟨g, 5, none⟩ = false := frozen_of_row w4 _ 5 _ _ N4
    clear x0 x1 x2 x3 x4 x5 NX BX HC hb4
    simp only []
    go_upto_region 19 with fail
    have N5 : (w4.setCell ⟨g, 5, none⟩ (.string X)).heap[g]? = some (.cells #[.int .i64 (n : Int), .int .i64 (Tm : Int), .string u, .string d, .int .i64 (O : Int), .string X] 41 (0, 0)) := by
      rw [heap_setCell_same _ _ _ _ _ _ N4]; rfl
    have B5 : Below w.heap.size w (w4.setCell ⟨g, 5, none⟩ (.string X)) := B4.setCell sg _
    generalize w4.setCell ⟨g, 5, none⟩ (.string X) = W5 at N5 B5 ⊢
    clear N4 B4 c5 fz
    have HR5 := HH.out.below B5
    go_wp2_with (at_builtin; refine wpList_append_recs _ rfl _ _ rfl W5.heap.size (.slice none 0 0) [] l _ n c rfl rfl HR5.n (rown_nil _ _) HR5.lies HQ.out (by have := HNL.out; simp only [List.length_nil]; omega) (Nat.le_refl _) ?_)
    intro v6 w6 ho6 hg6
    have O6 : OnR W5 v6 ([] ++ l) w6 := (OnR.nil W5).two ho6 hg6
    rw [List.nil_append] at O6
    have N6 := block_below N5 O6.bel
    have y0 : w6.cell? ⟨g, 0, none⟩ = some (.int .i64 (n : Int)) := Lib.cell_of_heap N6 0
    have y1 : w6.cell? ⟨g, 1, none⟩ = some (.int .i64 (Tm : Int)) := Lib.cell_of_heap N6 1
    have y2 : w6.cell? ⟨g, 2, none⟩ = some (.string u) := Lib.cell_of_heap N6 2
    have y3 : w6.cell? ⟨g, 3, none⟩ = some (.string d) := Lib.cell_of_heap N6 3
    have y4 : w6.cell? ⟨g, 4, none⟩ = some (.int .i64 (O : Int)) := Lib.cell_of_heap N6 4
    have y5 : w6.cell? ⟨g, 5, none⟩ = some (.string X) := Lib.cell_of_heap N6 5
    have O9 : OnR W5 v6 l (w6.alloc (.cells (recA ⟨(n : Int), (Tm : Int), u, d, (O : Int), X⟩) 41)) := O6.call ((Below.refl _ _).alloc (Nat.le_refl _) _)
    have R9 := rec_one w6 ⟨(n : Int), (Tm : Int), u, d, (O : Int), X⟩ 41
    clear ho6 hg6 O6 N6 N5 HR5
    go_wp2_with (at_builtin; refine wpList_append_recs _ rfl _ _ rfl W5.heap.size v6 l [⟨(n : Int), (Tm : Int), u, d, (O : Int), X⟩] (some ⟨w6.heap.size, 0, none⟩) 1 1 rfl rfl rfl O9.own R9 (fun h => by cases h) (by have := HNL.out; simp only [List.length_singleton]; omega) O9.bel.size ?_)
    intro v7 w7 ho7 hg7
    have R := O9.two ho7 hg7
    clear ho7 hg7 O9 R9
    go_wp2
    go_ret2
    refine ⟨_, ?_, by rw [HL.out]; exact ⟨own_mono R.own B5.size, below_more B5 R.bel⟩⟩
    rw [HE.out]; rfl
  · have hz : (0 : Int) < (n : Int) := by omega
    have hzN : 0 < n := by omega
    obtain ⟨fb, fo, rfl⟩ := HH.out.lies.addr (by rw [← HH.out.n]; omega)
    obtain ⟨k, hk⟩ : ∃ k, n - 1 = k := ⟨_, rfl⟩
    have hp : prevR l l.length = l.getD k zeroR := by unfold prevR; rw [if_neg (by rw [← HH.out.n]; omega), ← HH.out.n, hk]
    have HCL : Hid (∀ w', Below w.heap.size w w' → w'.cell? ⟨fb, fo + k * 6 + 1, none⟩ = some (.int .i64 (prevR l l.length).tim) ∧ w'.cell? ⟨fb, fo + k * 6 + 5, none⟩ = some (.string bf)) := fun w' hb => by
      have rc := (HH.out.below hb).lies.at (k := k) (by rw [← HH.out.n]; omega)
      rw [← HBF.out, hp]
      exact ⟨rc.c1, rc.c5⟩
    have e1 : (n : Int) - 1 = (k : Int) := by omega
    have e2 : (k : Int) < (n : Int) := by omega
    generalize (prevR l l.length).tim = pt at HCL HY
    clear hk hp hn0
    by_cases hlt : (Tm : Int) < pt
    · have HE : Hid (E = 150) := by show _ = _; rw [HY.out, if_pos (.inl hlt)]
      have HL : Hid (nextL l (Tm : Int) u d (O : Int) E = []) := NIL.out E (by rw [HE.out]; decide)
      go_wp2_with (go_at_call 56; refine M1.mono ?_; rintro e w2 ⟨rfl, hb2⟩; obtain ⟨c1, c5⟩ := HCL.out w2 (below_more hb1 hb2))
      go_ret2
      refine ⟨_, ?_, by rw [HL.out]; exact ⟨rown_nil _ _, below_more hb1 hb2⟩⟩
      rw [HE.out]; rfl
    have HE : Hid (E = 0) := by show _ = _; rw [HY.out, if_neg (by omega)]
    go_upto_region 17 with (go_at_call 56; refine M1.mono ?_; rintro e w2 ⟨rfl, hb2⟩; obtain ⟨c1, c5⟩ := HCL.out w2 (below_more hb1 hb2))
    clear c1 c5 M1 hz hzN hlt e1 e2
    have HL : Hid (nextL l (Tm : Int) u d (O : Int) E = l ++ [⟨(n : Int), (Tm : Int), u, d, (O : Int), X⟩]) := by show _ = _; unfold nextL; rw [HE.out, if_pos rfl, HFR.out]
    have B2 := below_more hb1 hb2
    have BX : Below w.heap.size w (w2.alloc (.cells #[.int .i64 (n : Int), .int .i64 (Tm : Int), .string u, .string d, .int .i64 (O : Int), .string ⟨#[]⟩] 41)) := B2.alloc B2.size _
    have NX : (w2.alloc (.cells #[.int .i64 (n : Int), .int .i64 (Tm : Int), .string u, .string d, .int .i64 (O : Int), .string ⟨#[]⟩] 41)).heap[w2.heap.size]? = some (.cells #[.int .i64 (n : Int), .int .i64 (Tm : Int), .string u, .string d, .int .i64 (O : Int), .string ⟨#[]⟩] 41 (0, 0)) := _root_.Go.heap_alloc_new _ _
    have sg : w.heap.size ≤ w2.heap.size := B2.size
    go_upto_region 18 with fail
    change Code.wp _ _ _ _ (w2.alloc (.cells #[.int .i64 (n : Int), .int .i64 (Tm : Int), .string u, .string d, .int .i64 (O : Int), .string ⟨#[]⟩] 41))
    generalize w2.heap.size = g at NX sg ⊢
    generalize w2.alloc (.cells #[.int .i64 (n : Int), .int .i64 (Tm : Int), .string u, .string d, .int .i64 (O : Int), .string ⟨#[]⟩] 41) = W3 at NX BX ⊢
    clear B2 hb1 hb2
    have x0 : W3.cell? ⟨g, 0, none⟩ = some (.int .i64 (n : Int)) := Lib.cell_of_heap NX 0
    have x1 : W3.cell? ⟨g, 1, none⟩ = some (.int .i64 (Tm : Int)) := Lib.cell_of_heap NX 1
    have x2 : W3.cell? ⟨g, 2, none⟩ = some (.string u) := Lib.cell_of_heap NX 2
    have x3 : W3.cell? ⟨g, 3, none⟩ = some (.string d) := Lib.cell_of_heap NX 3
    have x4 : W3.cell? ⟨g, 4, none⟩ = some (.int .i64 (O : Int)) := Lib.cell_of_heap NX 4
    have x5 : W3.cell? ⟨g, 5, none⟩ = some (.string ⟨#[]⟩) := Lib.cell_of_heap NX 5
    go_wp2_with fail
    refine (HC _).mono ?_
    rintro e w4 ⟨rfl, hb4⟩
    have N4 := block_below NX hb4
    have B4 := below_more BX hb4
    have c5 : w4.cell? ⟨g, 5, none⟩ = some (.string ⟨#[]⟩) := Lib.cell_of_heap N4 5
    have fz : w4.frozen? ⟨g, 5, none⟩ = false := frozen_of_row w4 _ 5 _ _ N4
    clear x0 x1 x2 x3 x4 x5 NX BX HC hb4
    simp only []
    go_upto_region 19 with fail
    have N5 : (w4.setCell ⟨g, 5, none⟩ (.string X)).heap[g]? = some (.cells #[.int .i64 (n : Int), .int .i64 (Tm : Int), .string u, .string d, .int .i64 (O : Int), .string X] 41 (0, 0)) := by
      rw [heap_setCell_same _ _ _ _ _ _ N4]; rfl
    have B5 : Below w.heap.size w (w4.setCell ⟨g, 5, none⟩ (.string X)) := B4.setCell sg _
    generalize w4.setCell ⟨g, 5, none⟩ (.string X) = W5 at N5 B5 ⊢
    clear N4 B4 c5 fz
    have HR5 := HH.out.below B5
    go_wp2_with (at_builtin; refine wpList_append_recs _ rfl _ _ rfl W5.heap.size (.slice none 0 0) [] l _ n c rfl rfl HR5.n (rown_nil _ _) HR5.lies HQ.out (by have := HNL.out; simp only [List.length_nil]; omega) (Nat.le_refl _) ?_)
    intro v6 w6 ho6 hg6
    have O6 : OnR W5 v6 ([] ++ l) w6 := (OnR.nil W5).two ho6 hg6
    rw [List.nil_append] at O6
    have N6 := block_below N5 O6.bel
    have y0 : w6.cell? ⟨g, 0, none⟩ = some (.int .i64 (n : Int)) := Lib.cell_of_heap N6 0
    have y1 : w6.cell? ⟨g, 1, none⟩ = some (.int .i64 (Tm : Int)) := Lib.cell_of_heap N6 1
    have y2 : w6.cell? ⟨g, 2, none⟩ = some (.string u) := Lib.cell_of_heap N6 2
    have y3 : w6.cell? ⟨g, 3, none⟩ = some (.string d) := Lib.cell_of_heap N6 3
    have y4 : w6.cell? ⟨g, 4, none⟩ = some (.int .i64 (O : Int)) := Lib.cell_of_heap N6 4
    have y5 : w6.cell? ⟨g, 5, none⟩ = some (.string X) := Lib.cell_of_heap N6 5
    have O9 : OnR W5 v6 l (w6.alloc (.cells (recA ⟨(n : Int), (Tm : Int), u, d, (O : Int), X⟩) 41)) := O6.call ((Below.refl _ _).alloc (Nat.le_refl _) _)
    have R9 := rec_one w6 ⟨(n : Int), (Tm : Int), u, d, (O : Int), X⟩ 41
    clear ho6 hg6 O6 N6 N5 HR5
    go_wp2_with (at_builtin; refine wpList_append_recs _ rfl _ _ rfl W5.heap.size v6 l [⟨(n : Int), (Tm : Int), u, d, (O : Int), X⟩] (some ⟨w6.heap.size, 0, none⟩) 1 1 rfl rfl rfl O9.own R9 (fun h => by cases h) (by have := HNL.out; simp only [List.length_singleton]; omega) O9.bel.size ?_)
    intro v7 w7 ho7 hg7
    have R := O9.two ho7 hg7
    clear ho7 hg7 O9 R9
    go_wp2
    go_ret2
    refine ⟨_, ?_, by rw [HL.out]; exact ⟨own_mono R.own B5.size, below_more B5 R.bel⟩⟩
    rw [HE.out]; rfl
end Go.Proofs.YtoagaddciapmkaaDoor
