/-
  AuditGrows: the law.
-/
import Derived.Test.YtoagaddciapmkaaDoorALaw0
namespace Go.Proofs.YtoagaddciapmkaaDoor
open Go.RowKit Go.WideShapes

theorem next_cases {l : List RecV} {t : Int} {u d : ByteArray} {o m : Int} (h0 : refE l = 0) (hm : m = -1) (h : nextE l t u d o m ≠ 0) (hl : l.length ≤ 60) (hd : d.size ≤ 3000) :
    t < 0 ∨ 1099511627776 < t ∨ o < 100 ∨ 599 < o ∨ 32 < u.size ∨ (0 < l.length ∧ t < (prevR l l.length).tim) := by
  unfold nextE at h
  rw [if_neg (by omega)] at h
  by_cases h1 : fldE t u d o = 0
  · rw [if_neg (by omega), if_neg (by omega)] at h
    split at h
    · rename_i h2
      by_cases h3 : 0 < l.length
      · exact .inr (.inr (.inr (.inr (.inr ⟨h3, by omega⟩))))
      · obtain rfl : l = [] := List.eq_nil_of_length_eq_zero (by omega)
        have e : (prevR [] ([] : List RecV).length).tim = 0 := rfl
        rw [e] at h2
        exact .inl (by omega)
    · exact absurd rfl h
  · have h2 : ¬ (0 ≤ t ∧ t ≤ 1099511627776 ∧ u.size ≤ 32 ∧ d.size ≤ 16384 ∧ 100 ≤ o ∧ o ≤ 599) := fun hh => h1 (fld_ok.2 hh)
    omega
theorem next_bad {l : List RecV} {t : Int} {u d : ByteArray} {o m : Int} (h : refE l ≠ 0 ∨ 0 ≤ m) : nextE l t u d o m ≠ 0 := by
  unfold nextE
  split
  · rename_i h1; exact h1
  · split
    · rename_i h1; exact h1
    · split
      · decide
      · rw [if_pos (by omega)]; decide
theorem next_ok {l : List RecV} {t : Int} {u d : ByteArray} {o m : Int} (h : nextE l t u d o m = 0) : refE l = 0 ∧ fldE t u d o = 0 ∧ l.length ≠ 4096 ∧ (prevR l l.length).tim ≤ t ∧ m < 0 := by
  unfold nextE at h
  split at h
  · rename_i h1; exact absurd h h1
  · split at h
    · rename_i h1; exact absurd h h1
    · split at h
      · cases h
      · split at h
        · cases h
        · rename_i h1 h2 h3 h4
          exact ⟨by omega, by omega, h3, by omega, by omega⟩
inductive GrowI (w wr0 : World) (n : Nat) (t : Value) (wr : World) : Prop where
  | intro (k : Nat) (hk : k ≤ n) (ht : t = .int .i64 (k : Int)) (hb : Below wr0.heap.size wr0 wr)
set_option maxHeartbeats 4000000 in
set_option maxRecDepth 100000 in
theorem law_grows (q : Option Addr) (n c : Nat) (l : List RecV) (t : Int) (u d : ByteArray) (o : Int) (w : World) (hk : KOn w) (h : RsL w q n l) (hq : q = none → c = 0) (hnb : (n : Int) ≤ 9223372036854775807) :
    Calls Tryd.prog 8 #[.slice q n c, .int .i64 t, .string u, .string d, .int .i64 o] w fun e w' => e = .returned (.bool true) ∧ Below w.heap.size w w' := by
  have AL := alive_any w hk
  have LG := fun w' (hb : Below w.heap.size w w') => long_any q n c l w' (h.below hb) hnb
  obtain ⟨m, hmis⟩ := mis_ex l
  have HN : Hid (n = l.length) := h.n
  go_enter Tryd.func8, Tryd.ntmps8
  go_wp2_with fail
  refine AL.mono ?_
  rintro e w1 ⟨rfl, hb1⟩
  have L1 := LG w1 hb1
  clear AL LG
  simp only []
  go_upto_region 2 with fail
  go_wp2_with fail
  refine L1.mono ?_
  rintro e w2 ⟨⟨b, rfl, hlong⟩, rfl⟩
  clear L1
  have HK : Hid (KOn w2) := hk.below hb1 hk.pos
  have HR : Hid (RsL w2 q n l) := h.below hb1
  have HB1 : Hid (Below w.heap.size w w2) := hb1
  clear hk h
  simp only []
  have ret : ∀ (P : Prop), P → P := fun _ h => h
  cases b with
  | true =>
    go_wp2
    go_ret
    exact ⟨rfl, HB1.out⟩
  | false =>
  by_cases h60 : (60 : Int) < (n : Int)
  · go_wp2
    go_ret
    exact ⟨rfl, HB1.out⟩
  by_cases hu : (3000 : Int) < (u.size : Int)
  · go_wp2
    go_ret
    exact ⟨rfl, HB1.out⟩
  by_cases hd : (3000 : Int) < (d.size : Int)
  · go_wp2
    go_ret
    exact ⟨rfl, HB1.out⟩
  clear hlong ret
  go_upto_region 4 with fail
  obtain ⟨E1, hE1⟩ : ∃ E, refE l = E := ⟨_, rfl⟩
  obtain ⟨E2, hE2⟩ : ∃ E, nextE l t u d o m = E := ⟨_, rfl⟩
  have CK := Check_any q n c l w2 HK.out HR.out hnb m hmis E1 hE1
  have NX := fun w' (hb : Below w2.heap.size w2 w') => Next_any q n c l t u d o w' (HK.out.below hb HK.out.pos) (HR.out.below hb) hq hnb m hmis E2 hE2
  generalize hr1 : (if E1 = 0 then m else 0) = r1 at CK
  have HR1 : Hid _ := hr1
  clear hr1
  go_wp2_with fail
  refine CK.mono ?_
  rintro e w3 ⟨rfl, hb3⟩
  have N3 := NX w3 hb3
  clear CK NX
  simp only []
  go_upto_region 5 with fail
  go_wp2_with fail
  refine N3.mono ?_
  rintro e w4 ⟨v4, rfl, on4⟩
  obtain ⟨q4, c4, rfl, hc4, hm4, hq4⟩ := on4.own.form
  have HB3 : Hid (Below w2.heap.size w2 w3) := hb3
  clear N3 hb3
  simp only []
  have HM : Hid (MisP l m) := hmis
  have HE1 : Hid (refE l = E1) := hE1
  have HE2 : Hid (nextE l t u d o m = E2) := hE2
  have HO : Hid (OnR w3 (.slice q4 (nextL l t u d o E2).length c4) (nextL l t u d o E2) w4) := on4
  have HB4 : Hid (Below w.heap.size w w4) := below_more HB1.out (below_more HB3.out on4.bel)
  clear hE1 hE2 on4 hmis hc4 hm4 hq4 hq
  by_cases hb : E1 ≠ 0 ∨ 0 ≤ m
  · have HX : Hid (E2 ≠ 0) := by show E2 ≠ 0; rw [← HE2.out]; exact next_bad (by rw [HE1.out]; exact hb)
    have HL : (nextL l t u d o E2).length = 0 := by unfold nextL; rw [if_neg HX.out]; rfl
    rw [HL]
    have hne : ((E2 : Int) != 0) = true := by simpa using HX.out
    clear HL
    by_cases h1 : E1 = 0
    · have hm0 : 0 ≤ m := by omega
      subst h1
      obtain rfl : m = r1 := HR1.out
      go_wp2
      go_ret
      exact ⟨rfl, HB4.out⟩
    · have hne1 : ((E1 : Int) != 0) = true := by simpa using h1
      go_wp2
      go_ret
      exact ⟨rfl, HB4.out⟩
  obtain rfl : E1 = 0 := by omega
  have hm0 : ¬ 0 ≤ m := by omega
  have HM1 : Hid (m = -1) := by show m = -1; have := mis_ge HM.out; omega
  obtain rfl : m = r1 := HR1.out
  clear hb
  by_cases h2 : E2 = 0
  · subst h2
    obtain ⟨o1, o2, o3, o4, o5⟩ := next_ok HE2.out
    obtain ⟨p1, p2⟩ := ref_ok o1
    have hm1 : MisP l (-1) := HM1.out ▸ HM.out
    obtain ⟨fr, hfr⟩ : ∃ fr, folR (prevR l l.length) t u d o = fr := ⟨_, rfl⟩
    have hfm : MayR fr := hfr ▸ fol_may (prev_ahd p2 (Nat.le_refl _)) o2
    have hmL : MisP (l ++ [fr]) (-1) := hfr ▸ mis_more hm1 o4
    have hrL : refE (l ++ [fr]) = 0 := ref_of (by have := HN.out; simp only [List.length_append, List.length_singleton]; omega) (fun r hr => by
      rcases List.mem_append.1 hr with h | h
      · exact p2 r h
      · rw [List.mem_singleton.1 h]; exact hfm)
    have hLn : nextL l t u d o 0 = l ++ [fr] := by rw [← hfr]; rfl
    have hfe : ∃ X, fr = ⟨(n : Int), t, u, d, o, X⟩ := by
      refine ⟨fr.hash, ?_⟩
      rw [← hfr]
      unfold folR
      rw [fit_seq l.length (mis_all hm1), ← HN.out]
      simp
    obtain ⟨X, hX⟩ := hfe
    obtain ⟨N, hNN⟩ : ∃ N, (l ++ [fr]).length = N := ⟨_, rfl⟩
    have hN1 : N = n + 1 := by rw [← hNN, List.length_append, List.length_singleton, ← HN.out]
    rw [hLn, hNN] at HO ⊢
    have hga : ∀ k, k < n → (l ++ [fr]).getD k zeroR = l.getD k zeroR := fun k hk => getD_app _ _ (by rw [← HN.out]; exact hk)
    have hgn : (l ++ [fr]).getD n zeroR = fr := by rw [HN.out]; simp [List.getD]
    have hpl : prevR (l ++ [fr]) (l ++ [fr]).length = fr := by unfold prevR; rw [hNN, if_neg (by omega), hN1, Nat.add_sub_cancel]; exact hgn
    have hR4 : RsL w4 q4 N (l ++ [fr]) := HO.out.own.recs
    have K4 : KOn w4 := HK.out.below (below_more HB3.out HO.out.bel) HK.out.pos
    have CK := Check_any q4 N c4 (l ++ [fr]) w4 K4 hR4 (by omega) (-1) hmL 0 hrL
    have HD := fun w' (hb : Below w4.heap.size w4 w') => Head_any q4 N c4 (l ++ [fr]) w' (hR4.below hb) (by omega) 0 hrL
    rw [hpl] at HD
    simp only [if_true] at CK HD
    have eN : (n : Int) + 1 = (N : Int) := by omega
    have HEN : Hid (N = n + 1) := hN1
    have HRA : Hid (RsL w4 q4 N (l ++ [fr])) := hR4
    have HRL : Hid (RsL w4 q n l) := HR.out.below (below_more HB3.out HO.out.bel)
    have HGA : Hid _ := hga
    have HGN : Hid _ := hgn
    have HNN : Hid _ := hNN
    clear o1 o2 o3 o4 o5 p1 p2 hm1 hfm hmL hrL hLn hga hgn hpl hR4 K4 hfr hN1 hNN
    go_wp2_with fail
    refine CK.mono ?_
    rintro e w5 ⟨rfl, hb5⟩
    have H5 : Hid (Below w4.heap.size w4 w5) := hb5
    clear CK hb5
    simp only []
    go_wp2
    go_loopw [18] (fun t wr => GrowI w w5 n t wr) (fun t _ => n - (intOf t).toNat)
    case atStart => exact ⟨0, by omega, rfl, Below.refl _ _⟩
    case round =>
      obtain ⟨k, hkn, rfl, hbw⟩ := hrel
      have HBW : Hid (Below w4.heap.size w4 wr) := below_more H5.out hbw
      have HBV : Hid (Below w5.heap.size w5 wr) := hbw
      have ra := HRA.out.below HBW.out
      have rl := HRL.out.below HBW.out
      obtain ⟨ba, oa, rfl⟩ := ra.lies.addr (by rw [HNN.out]; have := HEN.out; omega)
      clear hbw
      by_cases hlt : k < n
      · obtain ⟨bl, ol, rfl⟩ := rl.lies.addr (by rw [← HN.out]; omega)
        have c1 := ra.lies.at (k := k) (by rw [HNN.out]; have := HEN.out; omega)
        have c2 := rl.lies.at (k := k) (by rw [← HN.out]; exact hlt)
        rw [HGA.out k hlt] at c1
        have NQ := fun w' => run_neqR (l.getD k zeroR) (l.getD k zeroR) w'
        rw [(recEq_iff (l.getD k zeroR) (l.getD k zeroR)).2 rfl] at NQ
        generalize l.getD k zeroR = r at c1 c2 NQ
        obtain ⟨s, tt, uu, dd, oo, hh⟩ := r
        obtain ⟨a0, a1, a2, a3, a4, a5⟩ := c1
        obtain ⟨b0, b1, b2, b3, b4, b5⟩ := c2
        simp only [recA] at a0 a1 a2 a3 a4 a5 b0 b1 b2 b3 b4 b5 NQ
        have hI1 : (k : Int) < (n : Int) := by omega
        have hI2 : (k : Int) < (N : Int) := by have := HEN.out; omega
        clear ra rl HD
        go_upto_region 16 with fail
        go_quiet (fail)
        go_wp2
        go_roundw
        case rel => exact ⟨k + 1, by omega, rfl, drewN_below HBV.out _⟩
        case measure => simp [intOf]; omega
      · obtain rfl : k = n := by omega
        have c1 := ra.lies.at (k := k) (by rw [HNN.out]; have := HEN.out; omega)
        rw [HGN.out] at c1
        subst hX
        obtain ⟨a0, a1, a2, a3, a4, a5⟩ := c1
        simp only at a0 a1 a2 a3 a4 a5
        have hI2 : (k : Int) < (N : Int) := by have := HEN.out; omega
        have BX : Below w4.heap.size w4 (wr.alloc (.cells #[.int .i64 (k : Int), .int .i64 t, .string u, .string d, .int .i64 o, .string X] 41)) := HBW.out.alloc HBW.out.size _
        have NX : (wr.alloc (.cells #[.int .i64 (k : Int), .int .i64 t, .string u, .string d, .int .i64 o, .string X] 41)).heap[wr.heap.size]? = some (.cells #[.int .i64 (k : Int), .int .i64 t, .string u, .string d, .int .i64 o, .string X] 41 (0, 0)) := _root_.Go.heap_alloc_new _ _
        have H1 := HD _ BX
        clear HD ra rl
        go_upto_region 19 with fail
        change Code.wp _ _ _ _ (wr.alloc (.cells #[.int .i64 (k : Int), .int .i64 t, .string u, .string d, .int .i64 o, .string X] 41))
        generalize wr.heap.size = gx at NX ⊢
        generalize wr.alloc (.cells #[.int .i64 (k : Int), .int .i64 t, .string u, .string d, .int .i64 o, .string X] 41) = WX at BX NX H1 ⊢
        clear a0 a1 a2 a3 a4 a5
        go_wp2_with fail
        refine H1.mono ?_
        rintro e w7 ⟨rfl, hb7⟩
        have N7 := block_below NX hb7
        have d0 : w7.cell? ⟨gx, 0, none⟩ = some (.int .i64 (k : Int)) := Lib.cell_of_heap N7 0
        have d1 : w7.cell? ⟨gx, 1, none⟩ = some (.int .i64 t) := Lib.cell_of_heap N7 1
        have d2 : w7.cell? ⟨gx, 2, none⟩ = some (.string u) := Lib.cell_of_heap N7 2
        have d3 : w7.cell? ⟨gx, 3, none⟩ = some (.string d) := Lib.cell_of_heap N7 3
        have d4 : w7.cell? ⟨gx, 4, none⟩ = some (.int .i64 o) := Lib.cell_of_heap N7 4
        have d5 : w7.cell? ⟨gx, 5, none⟩ = some (.string X) := Lib.cell_of_heap N7 5
        have q1 : (X.toList == X.toList) = true := by simp
        have q2 : (u.toList == u.toList) = true := by simp
        have q3 : (d.toList == d.toList) = true := by simp
        clear H1 NX N7
        simp only []
        go_wp2
        go_ret
        exact ⟨rfl, below_more HB4.out (below_more BX hb7)⟩
  · have HL : (nextL l t u d o E2).length = 0 := by unfold nextL; rw [if_neg h2]; rfl
    rw [HL]
    have hne : ((E2 : Int) != 0) = true := by simpa using h2
    have HCS := next_cases HE1.out HM1.out (by rw [HE2.out]; exact h2) (by have := HN.out; omega) (by omega)
    clear HL
    by_cases k1 : t < 0
    · go_wp2
      go_ret
      exact ⟨rfl, HB4.out⟩
    by_cases k2 : (1099511627776 : Int) < t
    · go_wp2
      go_ret
      exact ⟨rfl, HB4.out⟩
    by_cases k3 : o < 100
    · go_wp2
      go_ret
      exact ⟨rfl, HB4.out⟩
    by_cases k4 : (599 : Int) < o
    · go_wp2
      go_ret
      exact ⟨rfl, HB4.out⟩
    by_cases k5 : (32 : Int) < (u.size : Int)
    · go_wp2
      go_ret
      exact ⟨rfl, HB4.out⟩
    have k6 : 0 < l.length ∧ t < (prevR l l.length).tim := by omega
    have hR4 := HR.out.below (below_more HB3.out HO.out.bel)
    obtain ⟨b, f, rfl⟩ := hR4.lies.addr k6.1
    have hnl := hR4.n
    have rc := (hR4.lies.at (k := n - 1) (by omega)).c1
    have hp : prevR l l.length = l.getD (n - 1) zeroR := by unfold prevR; rw [if_neg (by omega), ← hnl]
    have k7 : t < (l.getD (n - 1) zeroR).tim := by rw [← hp]; exact k6.2
    generalize (l.getD (n - 1) zeroR).tim = pt at rc k7
    obtain ⟨k, hk⟩ : ∃ k, n - 1 = k := ⟨_, rfl⟩
    rw [hk] at rc
    have e1 : (n : Int) - 1 = (k : Int) := by omega
    have e2 : (k : Int) < (n : Int) := by omega
    have e3 : (0 : Int) < (n : Int) := by omega
    clear k6 hp hR4 hnl hk HCS
    go_wp2
    go_ret
    exact ⟨rfl, HB4.out⟩
theorem grows_w (v : Value) (l : List RecV) (t : Int) (u d : ByteArray) (o : Int) (w : World) (hk : KOn w) (hr : Recs w v l) (_ : (Lit.int .i64 t).wf = true) (_ : u.size ≤ maxLen) (_ : d.size ≤ maxLen) (_ : (Lit.int .i64 o).wf = true) :
    Calls Tryd.prog 8 #[v, .int .i64 t, .string u, .string d, .int .i64 o] w fun e w' => e = .returned (.bool true) ∧ Below w.heap.size w w' := by
  obtain ⟨q, c, rfl, h1, h2, h3, h4⟩ := hr.lies
  exact law_grows q l.length c l t u d o w hk ⟨rfl, h1⟩ h4 (by unfold maxLen at h3; omega)
end Go.Proofs.YtoagaddciapmkaaDoor
