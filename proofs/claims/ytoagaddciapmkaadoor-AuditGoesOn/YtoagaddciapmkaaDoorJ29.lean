/-
  Text, Check, Head, Range, Same: the document's; twin.
-/
import Derived.Test.YtoagaddciapmkaaDoorJ26
import Derived.Test.YtoagaddciapmkaaDoorJ28
namespace Go.Proofs.YtoagaddciapmkaaDoor
open Go.RowKit Go.WideShapes Go.Maps

/-- What the document's looks ask of a list's texts. -/
def Mild (n : Nat) (l : List RecV) : Prop := (4096 : Int) < (n : Int) ∨ ∀ r ∈ l, r.hash.size ≤ 1000000
theorem long_mild {l : List RecV} {n : Nat} (hn : n = l.length) (h : LongF l) : Mild n l := by
  rcases h with h | h
  · exact .inr fun r hr => by have := (h.2 r hr).2.2; omega
  · exact .inl (by omega)
set_option maxHeartbeats 1000000 in
set_option maxRecDepth 8000 in
theorem rText_any (r : RecV) (b : ByteArray) (w : World) (hw : r.seq ≤ 9223372036854775807) (hs : r.hash.size ≤ 1000000) (hbs : b.size ≤ 1000000) (E : Nat) (hE : textE r b = E) :
    Calls Tryd.prog 26 #[.agg (recA r), .string b] w fun e w' => e = .returned (.tuple #[.string (if E = 0 then strOf (recN r.seq r.tim r.out r.user r.deed b) else ⟨#[]⟩), .int .i64 (E : Int)]) ∧ Below w.heap.size w w' := by
  have MB := fun w' => rMay_any r w' hs
  have DG := fun w' => rDigest_any b w' hbs
  have N0 := _root_.Go.heap_alloc_new w (.cells (recA r) 41)
  have B0 : Below w.heap.size w (w.alloc (.cells (recA r) 41)) := (Below.refl _ _).alloc (Nat.le_refl _) _
  by_cases hm : mayB r = true
  · by_cases hd : digB b = true
    · obtain rfl : E = 0 := by rw [← hE]; unfold textE; rw [hm, hd]; rfl
      rw [hm] at MB
      rw [hd] at DG
      have hmr := may_iff.1 hm
      have hb64 := dig_size hd
      obtain ⟨s, t, u, d, o, hh⟩ := r
      have q1 := hmr.seq
      have q2 := hmr.t0
      have q3 := hmr.o0
      have q4 := hmr.t1
      have q5 := hmr.o1
      simp only at hw q1 q2 q3 q4 q5
      obtain ⟨S, rfl⟩ : ∃ S : Nat, s = (S : Int) := ⟨s.toNat, by omega⟩
      obtain ⟨Tm, rfl⟩ : ∃ S : Nat, t = (S : Int) := ⟨t.toNat, by omega⟩
      obtain ⟨O, rfl⟩ : ∃ S : Nat, o = (S : Int) := ⟨o.toNat, by omega⟩
      have BH := fun w' => rbytes_any S Tm O u d hh b w' hw q4 q5 hmr.us hmr.de (by omega)
      simp only [if_true]
      generalize recN S Tm O u d b = X at BH ⊢
      clear hE hmr hm hd hb64 q1 q2 q3 q4 q5 hs hbs
      simp only [recA] at MB N0 B0 ⊢
      go_enter Tryd.func26, Tryd.ntmps26
      go_upto_region 1 with fail
      change Code.wp _ _ _ _ (w.alloc (.cells #[.int .i64 (S : Int), .int .i64 (Tm : Int), .string u, .string d, .int .i64 (O : Int), .string hh] 41))
      generalize w.alloc (.cells #[.int .i64 (S : Int), .int .i64 (Tm : Int), .string u, .string d, .int .i64 (O : Int), .string hh] 41) = W at N0 B0 ⊢
      have HC : Hid (∀ w', Below W.heap.size W w' → w'.cell? ⟨w.heap.size, 0, none⟩ = some (.int .i64 (S : Int)) ∧ w'.cell? ⟨w.heap.size, 1, none⟩ = some (.int .i64 (Tm : Int)) ∧ w'.cell? ⟨w.heap.size, 2, none⟩ = some (.string u) ∧ w'.cell? ⟨w.heap.size, 3, none⟩ = some (.string d) ∧ w'.cell? ⟨w.heap.size, 4, none⟩ = some (.int .i64 (O : Int)) ∧ w'.cell? ⟨w.heap.size, 5, none⟩ = some (.string hh)) := fun w' hb => by
        have hx := block_below N0 hb
        exact ⟨Lib.cell_of_heap hx 0, Lib.cell_of_heap hx 1, Lib.cell_of_heap hx 2, Lib.cell_of_heap hx 3, Lib.cell_of_heap hx 4, Lib.cell_of_heap hx 5⟩
      obtain ⟨c0, c1, c2, c3, c4, c5⟩ := HC.out W (Below.refl _ _)
      go_wp2_with fail
      refine (MB _).mono ?_
      rintro e w1 ⟨rfl, hb1⟩
      clear c0 c1 c2 c3 c4 c5
      simp only []
      go_wp2_with fail
      refine (DG _).mono ?_
      rintro e w2 ⟨rfl, hb2⟩
      obtain ⟨c0, c1, c2, c3, c4, c5⟩ := HC.out w2 (below_more hb1 hb2)
      have B2 := below_more B0 (below_more hb1 hb2)
      simp only []
      go_wp2_with fail
      refine (BH _).mono ?_
      rintro e w3 ⟨⟨p3, d3, rfl, i3, k3, z3⟩, hb3⟩
      have cv := conv_at (c := d3) i3 rfl
      clear c0 c1 c2 c3 c4 c5 MB DG BH
      simp only []
      go_wp2
      go_ret2
      exact ⟨rfl, below_more B2 hb3⟩
    · have hd' : digB b = false := by simpa using hd
      obtain rfl : E = 3 := by rw [← hE]; unfold textE; rw [hm, hd']; rfl
      rw [hm] at MB
      rw [hd'] at DG
      obtain ⟨s, t, u, d, o, hh⟩ := r
      clear hE hm hd hd' hw hs hbs
      simp only [recA] at MB N0 B0 ⊢
      go_enter Tryd.func26, Tryd.ntmps26
      go_wp2_with fail
      refine (MB _).mono ?_
      rintro e w1 ⟨rfl, hb1⟩
      simp only []
      go_wp2_with fail
      refine (DG _).mono ?_
      rintro e w2 ⟨rfl, hb2⟩
      simp only []
      go_wp2
      go_ret2
      exact ⟨rfl, below_more B0 (below_more hb1 hb2)⟩
  · have hm' : mayB r = false := by simpa using hm
    obtain rfl : E = 8 := by rw [← hE]; unfold textE; rw [hm']; rfl
    rw [hm'] at MB
    obtain ⟨s, t, u, d, o, hh⟩ := r
    clear hE hm hm' hw hs hbs
    simp only [recA] at MB N0 B0 ⊢
    go_enter Tryd.func26, Tryd.ntmps26
    go_wp2_with fail
    refine (MB _).mono ?_
    rintro e w1 ⟨rfl, hb1⟩
    simp only []
    go_wp2
    go_ret2
    exact ⟨rfl, below_more B0 hb1⟩
set_option maxHeartbeats 1000000 in
theorem rCheck_any (q : Option Addr) (n c : Nat) (l : List RecV) (w : World) (h : RsL w q n l) (hnb : (n : Int) ≤ 9223372036854775807) (hs : Mild n l) (m : Int) (hmis : MisP l m) (E : Nat) (hE : refE l = E) :
    Calls Tryd.prog 27 #[.slice q n c] w fun e w' => e = .returned (.tuple #[.int .i64 (if E = 0 then m else 0), .int .i64 (E : Int)]) ∧ Below w.heap.size w w' := by
  have RF := rAsked_any q n c l w h hnb hs
  rw [hE] at RF
  go_enter Tryd.func27, Tryd.ntmps27
  cases E with
  | zero =>
    have ho := ref_ok hE
    have MF := fun w' (hb : Below w.heap.size w w') => rFirst_any q n c l w' (h.below hb) ho.2 (by have := h.n; have := ho.1; omega) m hmis
    clear hE ho h hmis hs
    go_wp2_with fail
    refine RF.mono ?_
    rintro e w1 ⟨rfl, hb1⟩
    have M1 := MF w1 hb1
    clear RF MF
    simp only []
    go_wp2_with fail
    refine M1.mono ?_
    rintro e w2 ⟨rfl, hb2⟩
    simp only []
    go_wp2
    go_ret2
    exact ⟨rfl, below_more hb1 hb2⟩
  | succ E =>
    clear hE h hmis hs
    have hne : (((E + 1 : Nat) : Int) != 0) = true := by simp; omega
    go_wp2_with fail
    refine RF.mono ?_
    rintro e w1 ⟨rfl, hb1⟩
    simp only []
    go_wp2
    go_ret2
    exact ⟨rfl, hb1⟩
set_option maxHeartbeats 1000000 in
set_option maxRecDepth 8000 in
theorem rHead_any (q : Option Addr) (n c : Nat) (l : List RecV) (w : World) (h : RsL w q n l) (hnb : (n : Int) ≤ 9223372036854775807) (hs : Mild n l) (E : Nat) (hE : refE l = E) :
    Calls Tryd.prog 30 #[.slice q n c] w fun e w' => e = .returned (.tuple #[.string (if E = 0 then (prevR l l.length).hash else ⟨#[]⟩), .int .i64 (E : Int)]) ∧ Below w.heap.size w w' := by
  have RF := rAsked_any q n c l w h hnb hs
  rw [hE] at RF
  go_enter Tryd.func30, Tryd.ntmps30
  cases E with
  | zero =>
    by_cases hn0 : n = 0
    · have HE : Hid ((prevR l l.length).hash = nought) := by show _ = _; rw [← h.n, hn0]; rfl
      have hI : ((n : Int) == 0) = true := by rw [hn0]; rfl
      have HI : Hid _ := hI
      clear hE hs h hI
      subst hn0
      go_wp2_with fail
      refine RF.mono ?_
      rintro e w1 ⟨rfl, hb1⟩
      simp only []
      go_wp2
      go_ret2
      refine ⟨?_, hb1⟩
      rw [HE.out, ← nought_lit]
      rfl
    · have hI : ((n : Int) == 0) = false := by simpa using hn0
      obtain ⟨fb, fo, rfl⟩ := h.lies.addr (by have := h.n; omega)
      have HC : Hid (∀ w', Below w.heap.size w w' → w'.cell? ⟨fb, fo + (n - 1) * 6 + 5, none⟩ = some (.string (l.getD (n - 1) zeroR).hash)) := fun w' hb => ((h.below hb).lies.at (k := n - 1) (by have := h.n; omega)).c5
      have HE : Hid ((prevR l l.length).hash = (l.getD (n - 1) zeroR).hash) := by show _ = _; rw [← h.n]; unfold prevR; rw [if_neg hn0]
      generalize (l.getD (n - 1) zeroR).hash = X at HC HE
      obtain ⟨k, hk⟩ : ∃ k, n - 1 = k := ⟨_, rfl⟩
      rw [hk] at HC
      have e1 : (n : Int) - 1 = (k : Int) := by omega
      have e2 : (k : Int) < (n : Int) := by omega
      clear hE hs h hk hn0
      go_wp2_with fail
      refine RF.mono ?_
      rintro e w1 ⟨rfl, hb1⟩
      have c5 := HC.out w1 hb1
      simp only []
      go_wp2
      go_ret2
      refine ⟨?_, hb1⟩
      rw [HE.out]
      rfl
  | succ E =>
    clear hE h hs
    have hne : (((E + 1 : Nat) : Int) != 0) = true := by simp; omega
    go_wp2_with fail
    refine RF.mono ?_
    rintro e w1 ⟨rfl, hb1⟩
    simp only []
    go_wp2
    go_ret2
    exact ⟨rfl, hb1⟩
inductive RRanI (w : World) (l : List RecV) (F K n : Nat) (v t : Value) (wr : World) : Prop where
  | intro (j : Nat) (hj : j ≤ K) (hn : j = 0 ∨ F + j ≤ n) (ht : t = .int .i64 ((F + j : Nat) : Int)) (ho : OnR w v ((l.drop F).take j) wr)
set_option maxHeartbeats 2000000 in
set_option maxRecDepth 8000 in
theorem rRange_any (q : Option Addr) (n c : Nat) (l : List RecV) (f k : Int) (w : World) (h : RsL w q n l) (hnb : (n : Int) ≤ 9223372036854775807) (hs : Mild n l) (hk : k ≤ 9223372036854775807) (hf : f ≤ 9223372036854775807) (E : Nat) (hE : rangeE l f k = E) :
    Calls Tryd.prog 29 #[.slice q n c, .int .i64 f, .int .i64 k] w fun e w' => ∃ v, e = .returned (.tuple #[v, .int .i64 (E : Int)]) ∧ OnR w v (rangeL l f k) w' := by
  have RF := rAsked_any q n c l w h hnb hs
  go_enter Tryd.func29, Tryd.ntmps29
  by_cases h0 : refE l = 0
  · rw [h0] at RF
    have ho := ref_ok h0
    have hn5 : (n : Int) ≤ 4096 := by have := h.n; have := ho.1; omega
    by_cases hneg : f < 0 ∨ k < 0
    · have HE : Hid (E = 2) := by show E = 2; rw [← hE]; unfold rangeE; rw [if_neg (by omega), if_pos hneg]
      have HL : Hid (rangeL l f k = []) := by show _ = _; unfold rangeL; rw [hE, HE.out]; rfl
      clear hE ho hn5 hs
      go_wp2_with fail
      refine RF.mono ?_
      rintro e w1 ⟨rfl, hb1⟩
      simp only []
      by_cases hf0 : f < 0
      · go_wp2
        go_ret2
        refine ⟨_, ?_, by rw [HL.out]; exact ⟨rown_nil _ _, hb1⟩⟩
        rw [HE.out]; rfl
      · have hk0 : k < 0 := by omega
        go_wp2
        go_ret2
        refine ⟨_, ?_, by rw [HL.out]; exact ⟨rown_nil _ _, hb1⟩⟩
        rw [HE.out]; rfl
    have HE : Hid (E = 0) := by show E = 0; rw [← hE]; unfold rangeE; rw [if_neg (by omega), if_neg hneg]
    have HL : Hid (rangeL l f k = (l.drop f.toNat).take k.toNat) := by show _ = _; unfold rangeL; rw [hE, HE.out]; rfl
    have hf0 : ¬ f < 0 := by omega
    have hk0 : ¬ k < 0 := by omega
    obtain ⟨F, rfl⟩ : ∃ F : Nat, f = (F : Int) := ⟨f.toNat, by omega⟩
    obtain ⟨K, rfl⟩ : ∃ F : Nat, k = (F : Int) := ⟨k.toNat, by omega⟩
    rw [Int.toNat_natCast, Int.toNat_natCast] at HL
    have HR : Hid (RsL w q n l) := h
    clear hE ho hneg h0 h hs
    go_wp2_with fail
    refine RF.mono ?_
    rintro e w1 ⟨rfl, hb1⟩
    have HB1 : Hid (Below w.heap.size w w1) := hb1
    have O1 : OnR w (.slice none 0 0) [] w1 := ⟨rown_nil _ _, hb1⟩
    clear RF hb1
    simp only []
    go_wp2
    go_loopw [9, 10] (fun v t wr => RRanI w l F K n v t wr) (fun _ t _ => n - (intOf t).toNat)
    case atStart => exact ⟨0, by omega, .inl rfl, rfl, by rw [List.take_zero]; exact O1⟩
    case round =>
      clear O1
      obtain ⟨j, hjK, hjn, rfl, on⟩ := hrel
      have HRR := HR.out.below on.bel
      have HJN : Hid (j = 0 ∨ F + j ≤ n) := hjn
      have hlen : ((l.drop F).take j).length = j := by rw [List.length_take, List.length_drop, ← HR.out.n]; omega
      obtain ⟨qv, cv, rfl, _, _, _⟩ := on.own.form
      rw [hlen]
      obtain ⟨G, hG⟩ : ∃ G, F + j = G := ⟨_, rfl⟩
      rw [hG]
      have HG : Hid (F + j = G) := hG
      clear hjn hG
      by_cases hGn : G < n
      · have hI1 : (G : Int) < (n : Int) := by omega
        by_cases hjk : j < K
        · have hI2 : (j : Int) < (K : Int) := by omega
          obtain ⟨fb, fo, rfl⟩ := HRR.lies.addr (by rw [← HRR.n]; omega)
          have hrec := HRR.lies.at (k := G) (by rw [← HRR.n]; exact hGn)
          have HX : Hid ((l.drop F).take j ++ [l.getD G zeroR] = (l.drop F).take (j + 1)) := by
            show _ = _
            rw [List.take_add_one]
            have hlt : G < l.length := by rw [← HRR.n]; exact hGn
            congr 1
            rw [List.getElem?_drop, HG.out]
            simp [List.getD, List.getElem?_eq_getElem hlt]
          have HON : Hid (OnR w (.slice qv ((l.drop F).take j).length cv) ((l.drop F).take j) wr) := on
          generalize l.getD G zeroR = r at hrec HX
          obtain ⟨s, t, u, d, o, hh⟩ := r
          obtain ⟨z0, z1, z2, z3, z4, z5⟩ := hrec
          simp only at z0 z1 z2 z3 z4 z5
          have HL2 : Hid (((l.drop F).take j).length = j) := hlen
          rw [hlen] at HON
          have O9 : OnR w (.slice qv j cv) ((l.drop F).take j) (wr.alloc (.cells (recA ⟨s, t, u, d, o, hh⟩) 41)) := HON.out.call ((Below.refl _ _).alloc (Nat.le_refl _) _)
          have R9 := rec_one wr ⟨s, t, u, d, o, hh⟩ 41
          have hj1 : (((l.drop F).take j).length : Nat) + 1 ≤ 1000000 := by rw [hlen]; have := HG.out; omega
          have HJ1 : Hid _ := hj1
          clear on hlen hj1 HRR
          go_wp2_with (at_builtin; refine wpList_append_recs _ rfl _ _ rfl w.heap.size (.slice qv j cv) ((l.drop F).take j) [⟨s, t, u, d, o, hh⟩] (some ⟨wr.heap.size, 0, none⟩) 1 1 rfl rfl rfl O9.own R9 (fun h => by cases h) HJ1.out O9.bel.size ?_)
          intro v' w' ho' hg'
          have R := O9.two ho' hg'
          rw [HX.out] at R
          clear ho' hg' O9 R9
          go_wp2
          go_roundw
          case rel => exact ⟨j + 1, by omega, .inr (by have := HG.out; omega), by have := HG.out; congr 1; omega, R⟩
          case measure => simp [intOf]; omega
        · obtain rfl : j = K := by omega
          have hI2 : ¬ (j : Int) < (j : Int) := by omega
          go_wp2
          go_ret2
          refine ⟨_, by rw [HE.out]; rfl, ?_⟩
          rw [HL.out]
          rw [hlen] at on
          exact on
      · have hI1 : ¬ (G : Int) < (n : Int) := by omega
        have HF : Hid ((l.drop F).take j = (l.drop F).take K) := by
          show _ = _
          have e1 : (l.drop F).length ≤ j := by rw [List.length_drop, ← HR.out.n]; have := HG.out; omega
          rw [List.take_of_length_le e1, List.take_of_length_le (by omega)]
        go_wp2
        go_ret2
        refine ⟨_, by rw [HE.out]; rfl, ?_⟩
        rw [HL.out, ← HF.out]
        rw [hlen] at on
        exact on
  · have HE : Hid (E = refE l) := by show E = _; rw [← hE]; unfold rangeE; rw [if_pos h0]
    have HL : Hid (rangeL l f k = []) := by show _ = _; unfold rangeL; rw [hE, if_neg (by rw [HE.out]; exact h0)]
    generalize refE l = R at RF HE h0
    have hne : ((R : Int) != 0) = true := by simpa using h0
    clear hE hs
    go_wp2_with fail
    refine RF.mono ?_
    rintro e w1 ⟨rfl, hb1⟩
    simp only []
    go_wp2
    go_ret2
    refine ⟨_, ?_, by rw [HL.out]; exact ⟨rown_nil _ _, hb1⟩⟩
    rw [HE.out]; rfl
inductive SameI (w : World) (n : Nat) (t : Value) (wr : World) : Prop where
  | intro (k : Nat) (hk : k ≤ n) (ht : t = .int .i64 (k : Int)) (hb : Below w.heap.size w wr)
set_option maxHeartbeats 1000000 in
set_option maxRecDepth 8000 in
theorem rSame_yes (qa qb : Option Addr) (n ca cb : Nat) (l : List RecV) (w : World) (ha : RsL w qa n l) (hb : RsL w qb n l) (hnb : (n : Int) ≤ 9223372036854775807) :
    Calls Tryd.prog 31 #[.slice qa n ca, .slice qb n cb] w fun e w' => e = .returned (.bool true) ∧ Below w.heap.size w w' := by
  have HA : Hid (RsL w qa n l) := ha
  have HB : Hid (RsL w qb n l) := hb
  clear ha hb
  go_enter Tryd.func31, Tryd.ntmps31
  go_wp2
  go_loopw [5] (fun t wr => SameI w n t wr) (fun t _ => n - (intOf t).toNat)
  case atStart => exact ⟨0, by omega, rfl, Below.refl _ _⟩
  case round =>
    obtain ⟨k, hkn, rfl, hbw⟩ := hrel
    have HBW : Hid (Below w.heap.size w wr) := hbw
    have ra := HA.out.below hbw
    have rl := HB.out.below hbw
    clear hbw
    by_cases hlt : k < n
    · obtain ⟨ba, oa, rfl⟩ := ra.lies.addr (by rw [← ra.n]; omega)
      obtain ⟨bl, ol, rfl⟩ := rl.lies.addr (by rw [← rl.n]; omega)
      have c1 := ra.lies.at (k := k) (by rw [← ra.n]; exact hlt)
      have c2 := rl.lies.at (k := k) (by rw [← rl.n]; exact hlt)
      have NQ := fun w' => run_neqR (l.getD k zeroR) (l.getD k zeroR) w'
      rw [(recEq_iff (l.getD k zeroR) (l.getD k zeroR)).2 rfl] at NQ
      generalize l.getD k zeroR = r at c1 c2 NQ
      obtain ⟨s, tt, uu, dd, oo, hh⟩ := r
      obtain ⟨a0, a1, a2, a3, a4, a5⟩ := c1
      obtain ⟨b0, b1, b2, b3, b4, b5⟩ := c2
      simp only [recA] at a0 a1 a2 a3 a4 a5 b0 b1 b2 b3 b4 b5 NQ
      have hI1 : (k : Int) < (n : Int) := by omega
      clear ra rl
      go_upto_region 6 with fail
      go_quiet (fail)
      go_wp2
      go_roundw
      case rel => exact ⟨k + 1, by omega, rfl, drewN_below HBW.out _⟩
      case measure => simp [intOf]; omega
    · obtain rfl : k = n := by omega
      go_wp2
      go_ret
      exact ⟨rfl, HBW.out⟩
def sevB : ByteArray := ⟨#[55, 55]⟩
def sevR : RecV := ⟨0, 0, sevB, ⟨#[]⟩, 0, ⟨#[]⟩⟩
set_option maxHeartbeats 1000000 in
set_option maxRecDepth 8000 in
theorem twin_any (q : Option Addr) (n c : Nat) (l : List RecV) (w : World) (h : RsL w q n l) (hq : q = none → c = 0) (hnb : n ≤ 5000) :
    Calls Tryd.prog 25 #[.slice q n c] w fun e w' => ∃ v, e = .returned v ∧ OnR w v (l ++ [sevR]) w' := by
  have HR : Hid (RsL w q n l) := h
  have HQ : Hid (q = none → c = 0) := hq
  have HNB : Hid (n ≤ 5000) := hnb
  clear h hq hnb
  go_enter Tryd.func25, Tryd.ntmps25
  go_wp2_with (at_builtin; refine wpList_append_recs _ rfl _ _ rfl w.heap.size (.slice none 0 0) [] l q n c rfl rfl HR.out.n (rown_nil _ _) HR.out.lies HQ.out (by have := HNB.out; have := HR.out.n; simp only [List.length_nil]; omega) (Nat.le_refl _) ?_)
  intro v1 w1 ho hg
  have O1 : OnR w v1 ([] ++ l) w1 := (OnR.nil w).two ho hg
  rw [List.nil_append] at O1
  have O9 : OnR w v1 l (w1.alloc (.cells (recA sevR) 41)) := O1.call ((Below.refl _ _).alloc (Nat.le_refl _) _)
  have R9 := rec_one w1 sevR 41
  clear ho hg O1
  go_wp2_with (at_builtin; refine wpList_append_recs _ rfl _ _ rfl w.heap.size v1 l [sevR] (some ⟨w1.heap.size, 0, none⟩) 1 1 rfl rfl rfl O9.own R9 (fun h => by cases h) (by have := HNB.out; have := HR.out.n; simp only [List.length_singleton]; omega) O9.bel.size ?_)
  intro v2 w2 ho hg
  have R := O9.two ho hg
  clear ho hg O9 R9
  go_wp2
  go_ret
  exact ⟨_, rfl, R⟩
end Go.Proofs.YtoagaddciapmkaaDoor
