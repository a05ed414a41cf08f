/-
  Next: the program's.
-/
import Derived.Test.YtoagaddciapmkaaDoorAApi
namespace Go.Proofs.YtoagaddciapmkaaDoor
open Go.RowKit Go.WideShapes

theorem run_copy_sz {P : Program} (w : World) (dT sT ty elem : TypeId) (g dLen dCap k : Nat) (a : Addr) (sLen sCap : Nat) (cur : Array Value) (t : TypeId) (cs : List Value)
    (hu : P.underlying dT = some (.slice elem)) (hs : (P.info? elem).map (·.size) = some k)
    (hg : w.heap[g]? = some (.cells cur t (0, 0))) (hn : cs.length = Nat.min sLen dLen * k)
    (hsrc : ∀ j v, cs[j]? = some v → w.cell? (a.add j) = some v) (hfit : cs.length ≤ cur.size) (h1 : ∀ v ∈ cs, v.oneCell' = true) :
    (Builtin.copy_ #[dT, sT] ty #[.slice (some ⟨g, 0, none⟩) dLen dCap, .slice (some a) sLen sCap]).run P w =
      .ok (goInt (Nat.min sLen dLen)) (w.setRow g (cs ++ cur.toList.drop cs.length).toArray) := by
  have hl := run_loadCells_list (P := P) w a cs hsrc
  have hst := run_storeCells_at P g 0 t cs 0 cur w hg (by simpa using hfit) h1
  cases hq : P.info? elem with
  | none => simp [hq] at hs
  | some i =>
    have hi : i.size = k := by simpa [hq] using hs
    simp [Builtin.copy_, run_underlying hu, Builtin.lenOf, Builtin.firstCells, sizeOf, typeInfo, hq, hi, ← hn, hl, hst]
theorem copy_recs (w : World) (g : Nat) (ty : TypeId) (q : Option Addr) (n c : Nat) (l : List RecV) (cur : Array Value) (h : RsL w q n l) (hq : q = none → c = 0) (hg : w.heap[g]? = some (.cells cur 41 (0, 0))) (hs : cur.size = (n + 1) * 6) (hn : n ≤ 5000) (base : Nat) (hb : base ≤ g) :
    ∃ w', (Builtin.copy_ #[36, 36] ty #[.slice (some ⟨g, 0, none⟩) n (n + 1), .slice q n c]).run Tryd.prog w = .ok (goInt n) w' ∧ ROwn w' base (.slice (some ⟨g, 0, none⟩) n (n + 1)) l ∧ w.grownBy w' (some g) := by
  have hsz : (Tryd.prog.info? 41).map (·.size) = some 6 := size_rec
  have fin : ∀ w' : World, ∀ tl : List Value, w'.heap[g]? = some (.cells (cellsR l ++ tl).toArray 41 (0, 0)) → (cellsR l ++ tl).length = (n + 1) * 6 → ROwn w' base (.slice (some ⟨g, 0, none⟩) n (n + 1)) l := by
    intro w' tl hg' hl'
    refine ⟨cellsR_len l, .inr ⟨g, n + 1, _, by rw [h.n], hb, hg', by have := h.n; omega, by unfold maxLen; omega, by simpa using hl', ?_⟩⟩
    show List.take (l.length * 6) (cellsR l ++ tl) = _
    rw [← cellsR_len l, List.take_left]
  cases q with
  | none =>
    obtain rfl := hq rfl
    obtain rfl : l = [] := by
      cases l with
      | nil => rfl
      | cons y l => obtain ⟨b, o, e, _⟩ := h.lies (by simp); cases e
    obtain rfl : n = 0 := h.n
    refine ⟨w, run_copy_nil (P := Tryd.prog) w 36 36 ty 41 ⟨g, 0, none⟩ 0 (0 + 1) Tryd.underlying36 (by rw [hsz]; rfl), ?_, ⟨rfl, rfl, rfl, Nat.le_refl _, fun _ _ _ => rfl⟩⟩
    exact fin w cur.toList (by simpa [cellsR] using hg) (by simpa [cellsR] using hs)
  | some ad =>
    have hsrc : ∀ j u, (cellsR l)[j]? = some u → w.cell? (ad.add j) = some u := by
      intro j u hu
      have hpos : 0 < l.length := by
        cases l with
        | nil => simp [cellsR] at hu
        | cons y l => simp
      obtain ⟨b, o, e, _⟩ := h.lies hpos
      simp at e
      subst e
      exact recs_cells h.lies j u hu
    have hmin : Nat.min n n = n := Nat.min_self n
    have hr := run_copy_sz (P := Tryd.prog) w 36 36 ty 41 g n (n + 1) 6 ad n c cur 41 (cellsR l) Tryd.underlying36 hsz hg (by rw [cellsR_len, hmin, h.n]) hsrc (by rw [cellsR_len, hs]; have := h.n; omega) (cellsR_one l)
    rw [hmin] at hr
    refine ⟨_, hr, ?_, grown_setRow _ _ _⟩
    refine fin _ (cur.toList.drop (cellsR l).length) (setRow_heap w g _ _ _ _ hg) ?_
    have e : cur.toList.length = (n + 1) * 6 := by rw [Array.length_toList]; exact hs
    rw [List.length_append, List.length_drop, cellsR_len, e]
    have := h.n
    omega
theorem make_recs (n : Nat) (w : World) (hn : n ≤ 5000) : ∃ cur : Array Value, (Instr.makeSlice 36 (.int .i64 (n : Int)) (.int .i64 ((n : Int) + 1))).run Tryd.prog w = .ok (.slice (some ⟨w.heap.size, 0, none⟩) n (n + 1)) (w.alloc (.cells cur 41)) ∧ cur.size = (n + 1) * 6 := by
  obtain ⟨i0, hi, hz0, hz1, hz2⟩ := info_parts' info_rec
  have hr := run_make (P := Tryd.prog) w 36 41 i0 _ Tryd.underlying36 hi hz0 .i64 .i64 (n : Int) ((n : Int) + 1) (by omega) (by omega) (by rw [hz2]; omega) (by omega)
  rw [show ((n : Int) + 1).toNat = n + 1 by omega, Int.toNat_natCast] at hr
  exact ⟨_, hr, by rw [size_madeCells, hz1]⟩
def nextL (l : List RecV) (t : Int) (u d : ByteArray) (o : Int) (E : Nat) : List RecV := if E = 0 then l ++ [folR (prevR l l.length) t u d o] else []
set_option maxHeartbeats 4000000 in
set_option maxRecDepth 8000 in
theorem Next_any (q : Option Addr) (n c : Nat) (l : List RecV) (t : Int) (u d : ByteArray) (o : Int) (w : World) (hk : KOn w) (h : RsL w q n l) (hq : q = none → c = 0) (hnb : (n : Int) ≤ 9223372036854775807) (m : Int) (hmis : MisP l m) (E : Nat) (hE : nextE l t u d o m = E) :
    Calls Tryd.prog 20 #[.slice q n c, .int .i64 t, .string u, .string d, .int .i64 o] w fun e w' => ∃ v, e = .returned (.tuple #[v, .int .i64 (E : Int)]) ∧ OnR w v (nextL l t u d o E) w' := by
  have RF := refused_any q n c l w h.lies h.n hnb
  have FF := fun w' => refusedFields_any t u d o w'
  go_enter Tryd.func20, Tryd.ntmps20
  by_cases h0 : refE l = 0
  · rw [h0] at RF
    have ho := ref_ok h0
    have hn5 : (n : Int) ≤ 4096 := by have := h.n; have := ho.1; omega
    by_cases h1 : fldE t u d o = 0
    · rw [h1] at FF
      by_cases h2 : n = 4096
      · have HE : Hid (E = 4) := by show E = 4; rw [← hE]; unfold nextE; rw [if_neg (by omega), if_neg (by omega), if_pos (by rw [← h.n]; exact h2)]
        have HL : Hid (nextL l t u d o E = []) := by show _ = _; unfold nextL; rw [HE.out]; rfl
        subst h2
        clear hE ho hn5 h hmis hnb hq
        go_wp2_with fail
        refine RF.mono ?_
        rintro e w1 ⟨rfl, hb1⟩
        simp only []
        go_wp2_with fail
        refine (FF _).mono ?_
        rintro e w2 ⟨rfl, rfl⟩
        simp only []
        go_wp2
        go_ret2
        refine ⟨_, ?_, by rw [HL.out]; exact ⟨rown_nil _ _, hb1⟩⟩
        rw [HE.out]; rfl
      have hne : ((n : Int) == 4096) = false := by simpa using fun e : (n : Int) = 4096 => h2 (by omega)
      have LA := fun w' (hb : Below w.heap.size w w') => last_any q n c l w' (h.lies.below hb) h.n hnb
      have MF := fun w' (hb : Below w.heap.size w w') => misfit_any q n c l w' (hk.below hb hk.pos) (h.lies.below hb) h.n ho.2 hn5 m hmis
      have hge := mis_ge hmis
      have hahd := prev_ahd ho.2 (Nat.le_refl l.length)
      by_cases h3 : t < (prevR l l.length).tim ∨ 0 ≤ m
      · have HE : Hid (E = 150) := by show E = 150; rw [← hE]; unfold nextE; rw [if_neg (by omega), if_neg (by omega), if_neg (by rw [← h.n]; exact h2), if_pos h3]
        have HL : Hid (nextL l t u d o E = []) := by show _ = _; unfold nextL; rw [HE.out]; rfl
        generalize prevR l l.length = a at LA h3 hahd
        obtain ⟨a0, a1, a2, a3, a4, a5⟩ := a
        simp only [recA] at LA h3
        clear hE ho hn5 h hmis hnb hq hahd
        go_wp2_with fail
        refine RF.mono ?_
        rintro e w1 ⟨rfl, hb1⟩
        simp only []
        go_wp2_with fail
        refine (FF _).mono ?_
        rintro e w2 ⟨rfl, rfl⟩
        have L2 := LA _ hb1
        clear LA
        simp only []
        go_wp2_with fail
        refine L2.mono ?_
        rintro e w3 ⟨rfl, hb3⟩
        have B3 := below_more hb1 hb3
        have B4 : Below w.heap.size w (w3.alloc (.cells #[.int .i64 a0, .int .i64 a1, .string a2, .string a3, .int .i64 a4, .string a5] 41)) := B3.alloc B3.size _
        have M4 := MF _ B4
        clear MF
        simp only []
        by_cases h4 : t < a1
        · go_wp2
          go_ret2
          refine ⟨_, ?_, by rw [HL.out]; exact ⟨rown_nil _ _, B4⟩⟩
          rw [HE.out]; rfl
        · have h5 : 0 ≤ m := by omega
          go_wp2_with (go_at_call 42; refine M4.mono ?_; rintro e w5 ⟨rfl, hb5⟩)
          go_ret2
          refine ⟨_, ?_, by rw [HL.out]; exact ⟨rown_nil _ _, below_more B4 hb5⟩⟩
          rw [HE.out]; rfl
      · have HE : Hid (E = 0) := by show E = 0; rw [← hE]; unfold nextE; rw [if_neg (by omega), if_neg (by omega), if_neg (by rw [← h.n]; exact h2), if_neg h3]
        have HL : Hid (nextL l t u d o E = l ++ [folR (prevR l l.length) t u d o]) := by show _ = _; unfold nextL; rw [HE.out]; rfl
        obtain rfl : m = -1 := by omega
        have hsq : (prevR l l.length).seq ≤ 1000000 := by rw [fit_seq l.length (mis_all hmis), ← h.n]; omega
        have FO := fun w' (hb : Below w.heap.size w w') => following_any (prevR l l.length) t u d o w' (hk.below hb hk.pos) hahd hsq h1
        have hn5' : n ≤ 5000 := by omega
        have HR : Hid (RsL w q n l) := h
        have HQ : Hid (q = none → c = 0) := hq
        have HNL : Hid (l.length + 1 ≤ 1000000) := by show _ ≤ _; have := h.n; omega
        have hn1 : ((n + 1 : Nat) : Int) = (n : Int) + 1 := by omega
        generalize hfr : folR (prevR l l.length) t u d o = fr at HL FO
        generalize prevR l l.length = a at LA h3 FO
        obtain ⟨a0, a1, a2, a3, a4, a5⟩ := a
        obtain ⟨f0, f1, f2, f3, f4, f5⟩ := fr
        simp only [recA] at LA h3 FO
        have h4 : ¬ t < a1 := by omega
        clear hE ho h hmis hq hahd hfr hsq h3 h2
        go_wp2_with fail
        refine RF.mono ?_
        rintro e w1 ⟨rfl, hb1⟩
        simp only []
        go_wp2_with fail
        refine (FF _).mono ?_
        rintro e w2 ⟨rfl, rfl⟩
        have L2 := LA _ hb1
        clear LA RF FF
        simp only []
        go_wp2_with fail
        refine L2.mono ?_
        rintro e w3 ⟨rfl, hb3⟩
        have B3 := below_more hb1 hb3
        have B4 : Below w.heap.size w (w3.alloc (.cells #[.int .i64 a0, .int .i64 a1, .string a2, .string a3, .int .i64 a4, .string a5] 41)) := B3.alloc B3.size _
        have N4 : (w3.alloc (.cells #[.int .i64 a0, .int .i64 a1, .string a2, .string a3, .int .i64 a4, .string a5] 41)).heap[w3.heap.size]? = some (.cells #[.int .i64 a0, .int .i64 a1, .string a2, .string a3, .int .i64 a4, .string a5] 41 (0, 0)) := _root_.Go.heap_alloc_new _ _
        simp only []
        go_upto_region 10 with fail
        change Code.wp _ _ _ _ (w3.alloc (.cells #[.int .i64 a0, .int .i64 a1, .string a2, .string a3, .int .i64 a4, .string a5] 41))
        generalize w3.heap.size = g4 at N4 ⊢
        generalize w3.alloc (.cells #[.int .i64 a0, .int .i64 a1, .string a2, .string a3, .int .i64 a4, .string a5] 41) = W4 at N4 B4 ⊢
        have M4 := MF _ B4
        have c1 : W4.cell? ⟨g4, 1, none⟩ = some (.int .i64 a1) := Lib.cell_of_heap N4 1
        clear MF L2 hb3 B3
        go_upto_region 12 with (go_at_call 42; refine M4.mono ?_; rintro e w5 ⟨rfl, hb5⟩)
        have B5 := below_more B4 hb5
        have N5 := (hb5.block _ (rw_lt N4)).trans N4
        clear M4 c1 N4 B4 hb5
        obtain ⟨cur, hmk, hcs⟩ := make_recs n w5 hn5'
        have N6 : (w5.alloc (.cells cur 41)).heap[g4]? = some (.cells #[.int .i64 a0, .int .i64 a1, .string a2, .string a3, .int .i64 a4, .string a5] 41 (0, 0)) := (_root_.Go.heap_alloc_old _ _ (rw_lt N5)).trans N5
        have B6 : Below w.heap.size w (w5.alloc (.cells cur 41)) := B5.alloc B5.size _
        have X6 : (w5.alloc (.cells cur 41)).heap[w5.heap.size]? = some (.cells cur 41 (0, 0)) := _root_.Go.heap_alloc_new _ _
        have l5 := rw_lt N5
        have s5 := B5.size
        obtain ⟨w7, hcp, ho7, hg7⟩ := copy_recs (w5.alloc (.cells cur 41)) w5.heap.size 3 q n c l cur (HR.out.below B6) HQ.out X6 hcs hn5' w.heap.size s5
        go_upto_region 14 with (at_builtin; refine wpList_copy_is rfl _ _ 36 36 rfl rfl rfl hcp ?_)
        have N7 : w7.heap[g4]? = some (.cells #[.int .i64 a0, .int .i64 a1, .string a2, .string a3, .int .i64 a4, .string a5] 41 (0, 0)) := (hg7.block _ (rw_lt N6) (by simp; omega)).trans N6
        have B7 : Below w.heap.size w w7 := B6.grown hg7 B6.size (fun k hk' => by cases hk'; omega)
        have O7 : OnR w (.slice (some ⟨w5.heap.size, 0, none⟩) n (n + 1)) l w7 := ⟨ho7, B7⟩
        have F7 := FO _ B7
        generalize w5.heap.size = g7 at O7 ⊢
        clear hmk hcp ho7 hg7 N5 N6 B5 B6 X6 l5 s5 FO
        have c0 : w7.cell? ⟨g4, 0, none⟩ = some (.int .i64 a0) := Lib.cell_of_heap N7 0
        have c1 : w7.cell? ⟨g4, 1, none⟩ = some (.int .i64 a1) := Lib.cell_of_heap N7 1
        have c2 : w7.cell? ⟨g4, 2, none⟩ = some (.string a2) := Lib.cell_of_heap N7 2
        have c3 : w7.cell? ⟨g4, 3, none⟩ = some (.string a3) := Lib.cell_of_heap N7 3
        have c4 : w7.cell? ⟨g4, 4, none⟩ = some (.int .i64 a4) := Lib.cell_of_heap N7 4
        have c5 : w7.cell? ⟨g4, 5, none⟩ = some (.string a5) := Lib.cell_of_heap N7 5
        go_wp2_with fail
        refine F7.mono ?_
        rintro e w8 ⟨rfl, hb8⟩
        have O8 := O7.call hb8
        have O9 := O8.call (w' := w8.alloc (.cells (recA ⟨f0, f1, f2, f3, f4, f5⟩) 41)) ((Below.refl _ _).alloc (Nat.le_refl _) _)
        have R9 := rec_one w8 ⟨f0, f1, f2, f3, f4, f5⟩ 41
        clear c0 c1 c2 c3 c4 c5 N7 O7 F7 hb8 O8 B7
        simp only []
        go_wp2_with (at_builtin; refine wpList_append_recs _ rfl _ _ rfl w.heap.size _ l [⟨f0, f1, f2, f3, f4, f5⟩] (some ⟨w8.heap.size, 0, none⟩) 1 1 rfl rfl rfl O9.own R9 (fun h => by cases h) HNL.out O9.bel.size ?_)
        intro v' w' ho' hg'
        have R := O9.two ho' hg'
        clear ho' hg' O9 R9
        go_wp2
        go_ret2
        refine ⟨_, ?_, by rw [HL.out]; exact R⟩
        rw [HE.out]; rfl
    · have HE : Hid (E = fldE t u d o) := by show E = _; rw [← hE]; unfold nextE; rw [if_neg (by omega), if_pos h1]
      have HL : Hid (nextL l t u d o E = []) := by show _ = _; unfold nextL; rw [if_neg (by rw [HE.out]; exact h1)]
      generalize fldE t u d o = R at FF HE h1
      have hne : ((R : Int) != 0) = true := by simpa using h1
      clear hE ho hn5 h hmis hq
      go_wp2_with fail
      refine RF.mono ?_
      rintro e w1 ⟨rfl, hb1⟩
      simp only []
      go_wp2_with fail
      refine (FF _).mono ?_
      rintro e w2 ⟨rfl, rfl⟩
      simp only []
      go_wp2
      go_ret2
      refine ⟨_, ?_, by rw [HL.out]; exact ⟨rown_nil _ _, hb1⟩⟩
      rw [HE.out]; rfl
  · have HE : Hid (E = refE l) := by show E = _; rw [← hE]; unfold nextE; rw [if_pos h0]
    have HL : Hid (nextL l t u d o E = []) := by show _ = _; unfold nextL; rw [if_neg (by rw [HE.out]; exact h0)]
    generalize refE l = R at RF HE h0
    have hne : ((R : Int) != 0) = true := by simpa using h0
    clear hE h hmis hq
    go_wp2_with fail
    refine RF.mono ?_
    rintro e w1 ⟨rfl, hb1⟩
    simp only []
    go_wp2
    go_ret2
    refine ⟨_, ?_, by rw [HL.out]; exact ⟨rown_nil _ _, hb1⟩⟩
    rw [HE.out]; rfl
end Go.Proofs.YtoagaddciapmkaaDoor
