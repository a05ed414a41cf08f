/-
  AuditTells: the law.
-/
import Derived.Test.YtoagaddciapmkaaDoorJ32
namespace Go.Proofs.YtoagaddciapmkaaDoor
open Go.RowKit Go.WideShapes Go.Maps Go.ChangeShapes Go.Deep Go.Joins

section
variable {P : Program} {w : World} {H : Type} {enc : TypeId × Value → H}
theorem open_recA {r : Reach} {b0 : Nat} {e : TypeId} {f0 f1 f2 f3 f4 f5 : Field} {v : Value} {d : DataW H} {p : List MemPlace} (he : P.underlying e = some (.struct #[f0, f1, f2, f3, f4, f5])) (hC : P.cellsOf e = 6)
    (o0 : f0.offset = 0) (o1 : f1.offset = 1) (o2 : f2.offset = 2) (o3 : f3.offset = 3) (o4 : f4.offset = 4) (o5 : f5.offset = 5) (c0 : P.cellsOf f0.type = 1) (c1 : P.cellsOf f1.type = 1) (c2 : P.cellsOf f2.type = 1) (c3 : P.cellsOf f3.type = 1) (c4 : P.cellsOf f4.type = 1) (c5 : P.cellsOf f5.type = 1)
    (k0 : P.underlying f0.type = some (.int .i64)) (k1 : P.underlying f1.type = some (.int .i64)) (k2 : P.underlying f2.type = some .string) (k3 : P.underlying f3.type = some .string) (k4 : P.underlying f4.type = some (.int .i64)) (k5 : P.underlying f5.type = some .string)
    (hv : Value.okWide P w r b0 e v) (h : DataW.Trod enc P w 0 (fun _ => true) true e v d p) : ∃ y : RecV, v = .agg (recA y) ∧ WfR y := by
  obtain ⟨cs, rfl, hsz⟩ := okWide_struct he hv
  obtain ⟨fuel, hf⟩ := h
  obtain ⟨y, hy, wy⟩ := open_record (cs := cs.toList) he (by rw [Array.length_toList, hsz, hC]) o0 o1 o2 o3 o4 o5 c0 c1 c2 c3 c4 c5 k0 k1 k2 k3 k4 k5 hf
  refine ⟨y, ?_, wy⟩
  have : cs = recA y := by
    apply Array.ext'
    rw [hy]
    rfl
  rw [this]
end
set_option maxHeartbeats 8000000 in
set_option maxRecDepth 100000 in
theorem law_tells (q : Option Addr) (n c : Nat) (l : List RecV) (r : RecV) (b : ByteArray) (f k : Int) (w : World) (hk : KOn w) (h : RsL w q n l) (hq : q = none → c = 0) (hnb : (n : Int) ≤ 9223372036854775807) (hrs : r.seq ≤ 9223372036854775807) (hf : f ≤ 9223372036854775807) (hkk : k ≤ 9223372036854775807) :
    Calls Tryd.prog 6 #[.slice q n c, .agg (recA r), .string b, .int .i64 f, .int .i64 k] w fun e w' => e = .returned (.bool true) ∧ Below w.heap.size w w' := by
  obtain ⟨m, hmis⟩ := mis_ex l
  have HN : Hid (n = l.length) := h.n
  have B0 : Below w.heap.size w (w.alloc (.cells (recA r) 41)) := (Below.refl _ _).alloc (Nat.le_refl _) _
  have N0 := _root_.Go.heap_alloc_new w (.cells (recA r) 41)
  have LG := long_any q n c l (w.alloc (.cells (recA r) 41)) (h.below B0) hnb
  have LR := fun w' => long_any (some ⟨w'.heap.size, 0, none⟩) 1 1 [r] (w'.alloc (.cells (recA r) 41)) ⟨rfl, rec_one w' r 41⟩ (by decide)
  obtain ⟨E1, hE1⟩ : ∃ E, textE r b = E := ⟨_, rfl⟩
  have TX := fun w' => Text_any r b w' hrs E1 hE1
  have RT := fun w' hs hb => rText_any r b w' hrs hs hb E1 hE1
  generalize hS1 : (if E1 = 0 then strOf (recN r.seq r.tim r.out r.user r.deed b) else ⟨#[]⟩) = S1 at TX RT
  have HRS : Hid ((LongF [r] → r.hash.size ≤ 3000)) := fun hl => by
    rcases hl with hl | hl
    · exact (hl.2 r (by simp)).2.2
    · simp at hl
  obtain ⟨E2, hE2⟩ : ∃ E, refE l = E := ⟨_, rfl⟩
  obtain ⟨E3, hE3⟩ : ∃ E, rangeE l f k = E := ⟨_, rfl⟩
  have hRl := rangeL_len l f k
  have HK : Hid (KOn (w.alloc (.cells (recA r) 41))) := hk.below B0 hk.pos
  have HR : Hid (RsL (w.alloc (.cells (recA r) 41)) q n l) := h.below B0
  have HQ : Hid (q = none → c = 0) := hq
  have HB0 : Hid (Below w.heap.size w (w.alloc (.cells (recA r) 41))) := B0
  clear hk h hq B0 hS1 hE1
  have HRC : Hid (∀ w', Below (w.alloc (.cells (recA r) 41)).heap.size (w.alloc (.cells (recA r) 41)) w' → RecAt w' w.heap.size 0 r) := fun w' hb => (rec_new N0).below hb
  clear N0
  generalize hXR : r.hash.size = RH at HRS RT
  obtain ⟨s, t, u, d, o, hh⟩ := r
  simp only [recA] at LG LR TX RT HK HR HB0 HRC ⊢
  clear hXR hrs
  have HRL : Hid (LongF [⟨s, t, u, d, o, hh⟩] → RH ≤ 3000) := HRS.out
  clear HRS
  go_enter Tryd.func6, Tryd.ntmps6
  go_upto_region 1 with fail
  change Code.wp _ _ _ _ (w.alloc (.cells #[.int .i64 s, .int .i64 t, .string u, .string d, .int .i64 o, .string hh] 41))
  generalize w.alloc (.cells #[.int .i64 s, .int .i64 t, .string u, .string d, .int .i64 o, .string hh] 41) = W0 at LG HK HR HB0 HRC ⊢
  obtain ⟨x0, x1, x2, x3, x4, x5⟩ := HRC.out W0 (Below.refl _ _)
  simp only [Nat.zero_add] at x0 x1 x2 x3 x4 x5
  go_wp2_with fail
  refine LG.mono ?_
  rintro e w1 ⟨⟨b1, rfl, hl1⟩, rfl⟩
  clear LG
  have L2 := LR w1
  clear LR
  simp only []
  cases b1 with
  | true =>
    go_wp2
    go_ret
    exact ⟨rfl, HB0.out⟩
  | false =>
  have hF := hl1 rfl
  have HF : Hid (LongF l) := hF
  clear hl1 hF
  have BW : Below w1.heap.size w1 (w1.alloc (.cells #[.int .i64 s, .int .i64 t, .string u, .string d, .int .i64 o, .string hh] 41)) := (Below.refl _ _).alloc (Nat.le_refl _) _
  have HBW : Hid _ := BW
  clear BW
  go_wp2_with fail
  refine L2.mono ?_
  rintro e w2 ⟨⟨b2, rfl, hl2⟩, hw2⟩
  rw [← hw2] at HBW
  have HW2 : Hid (Below w1.heap.size w1 w2) := HBW.out
  clear L2 HBW hw2 x0 x1 x2 x3 x4 x5
  simp only []
  cases b2 with
  | true =>
    go_wp2
    go_ret
    exact ⟨rfl, below_more HB0.out HW2.out⟩
  | false =>
  have hrh : RH ≤ 3000 := HRL.out (hl2 rfl)
  clear hl2
  by_cases kb : (3000 : Int) < (b.size : Int)
  · go_wp2
    go_ret
    exact ⟨rfl, below_more HB0.out HW2.out⟩
  have RT2 := fun w' => RT w' (by omega) (by omega)
  have hn5 : n ≤ 4200 := by have := HN.out; rcases HF.out with hF | hF <;> omega
  have hmild := long_mild HN.out HF.out
  have HRR : Hid ((rangeL l f k).length ≤ 5000) := by
    refine hRl ?_
    rcases HF.out with hF | hF
    · exact .inl (by omega)
    · exact .inl (by omega)
  have TW := twin_any q n c l w2 (HR.out.below HW2.out) HQ.out (by omega)
  have CK := fun w' q' c' hk' (h' : RsL w' q' n l) => Check_any q' n c' l w' hk' h' hnb m hmis E2 hE2
  have RC := fun w' (h' : RsL w' q n l) => rCheck_any q n c l w' h' hnb hmild m hmis E2 hE2
  have RG := fun w' q' c' (h' : RsL w' q' n l) hq' hc' hcb' => Range_any q' n c' l f k w' h' hq' hc' hcb' hkk hf E3 hE3
  have RR := fun w' (h' : RsL w' q n l) => rRange_any q n c l f k w' h' hnb hmild hkk hf E3 hE3
  have HD := fun w' q' c' (h' : RsL w' q' n l) => Head_any q' n c' l w' h' hnb E2 hE2
  have RH2 := fun w' (h' : RsL w' q n l) => rHead_any q n c l w' h' hnb hmild E2 hE2
  generalize (if E2 = 0 then m else 0) = R2 at CK RC
  generalize (if E2 = 0 then (prevR l l.length).hash else ⟨#[]⟩) = S4 at HD RH2
  generalize rangeL l f k = A at RG RR HRR
  clear RT hRl hmild hmis hE2 hE3 hrh HRL
  have eb1 : (S1.toList == S1.toList) = true := by simp
  have eb4 : (S4.toList == S4.toList) = true := by simp
  have hK2 : Hid (KOn w2) := HK.out.below HW2.out HK.out.pos
  have hR2 : Hid (RsL w2 q n l) := HR.out.below HW2.out
  have hRC2 : Hid (∀ w', Below w2.heap.size w2 w' → RecAt w' w.heap.size 0 ⟨s, t, u, d, o, hh⟩) := fun w' hb => HRC.out w' (below_more HW2.out hb)
  clear HK HR HRC
  go_wp2_with fail
  refine TW.mono ?_
  rintro e w3 ⟨v3, rfl, on3⟩
  obtain ⟨q3, c3, rfl, hc3, hm3, hq3⟩ := on3.own.form
  have R3 := on3.own.recs
  obtain ⟨R3l, b3, o3, rfl, R3s⟩ := recs_at R3 HN.out
  have HB3 : Hid (Below w2.heap.size w2 w3) := on3.bel
  have HR3 : Hid (RsL w3 (some ⟨b3, o3, none⟩) n l) := R3l
  have HS3 : Hid (RecAt w3 b3 (o3 + n * 6) sevR) := R3s
  obtain ⟨N3, hN3⟩ : ∃ N, (l ++ [sevR]).length = N := ⟨_, rfl⟩
  have eN : N3 = n + 1 := by rw [← hN3, List.length_append, List.length_singleton, ← HN.out]
  rw [hN3] at hc3 ⊢
  have hnc : (n : Int) ≤ (c3 : Int) := by omega
  have hnN : (n : Int) < (N3 : Int) := by omega
  have hcm : Hid ((c3 : Int) ≤ 9223372036854775807) := by show _ ≤ _; unfold maxLen at hm3; omega
  have HNC : Hid (n ≤ c3) := by show _ ≤ _; omega
  clear on3 R3 R3l R3s TW hm3 hq3 hN3 eN hc3
  simp only []
  obtain ⟨x0, x1, x2, x3, x4, x5⟩ := hRC2.out w3 HB3.out
  simp only [Nat.zero_add] at x0 x1 x2 x3 x4 x5
  go_upto_region 5 with fail
  go_wp2_with fail
  refine (TX _).mono ?_
  rintro e w4 ⟨rfl, hb4⟩
  clear TX x0 x1 x2 x3 x4 x5
  have HB4 : Hid (Below w3.heap.size w3 w4) := hb4
  obtain ⟨x0, x1, x2, x3, x4, x5⟩ := hRC2.out w4 (below_more HB3.out hb4)
  simp only [Nat.zero_add] at x0 x1 x2 x3 x4 x5
  clear hb4
  simp only []
  go_upto_region 6 with fail
  go_wp2_with fail
  refine (RT2 _).mono ?_
  rintro e w5 ⟨rfl, hb5⟩
  clear RT2 x0 x1 x2 x3 x4 x5
  have HB5 : Hid (Below w3.heap.size w3 w5) := below_more HB4.out hb5
  clear hb5
  simp only []
  go_upto_region 7 with fail
  have C5 := CK w5 (some ⟨b3, o3, none⟩) c3 (hK2.out.below (below_more HB3.out HB5.out) hK2.out.pos) (HR3.out.below HB5.out)
  go_wp2_with fail
  refine C5.mono ?_
  rintro e w6 ⟨rfl, hb6⟩
  have HB6 : Hid (Below w3.heap.size w3 w6) := below_more HB5.out hb6
  clear C5 CK hb6
  simp only []
  go_upto_region 8 with fail
  have C6 := RC w6 (hR2.out.below (below_more HB3.out HB6.out))
  go_wp2_with fail
  refine C6.mono ?_
  rintro e w7 ⟨rfl, hb7⟩
  have HB7 : Hid (Below w3.heap.size w3 w7) := below_more HB6.out hb7
  clear C6 RC hb7
  simp only []
  go_upto_region 9 with fail
  have C7 := RG w7 (some ⟨b3, o3, none⟩) c3 (HR3.out.below HB7.out) (fun h => by cases h) HNC.out hcm.out
  go_wp2_with fail
  refine C7.mono ?_
  rintro e w8 ⟨v8, rfl, on8⟩
  have HB8 : Hid (Below w3.heap.size w3 w8) := below_more HB7.out on8.bel
  clear C7 RG
  simp only []
  go_upto_region 10 with fail
  have C8 := RR w8 (hR2.out.below (below_more HB3.out HB8.out))
  go_wp2_with fail
  refine C8.mono ?_
  rintro e w9 ⟨v9, rfl, on9⟩
  have HB9 : Hid (Below w3.heap.size w3 w9) := below_more HB8.out on9.bel
  clear C8 RR
  obtain ⟨q8, c8, rfl, _, _, _⟩ := on8.own.form
  obtain ⟨q9, c9, rfl, _, _, _⟩ := on9.own.form
  obtain ⟨NA, hNA⟩ : ∃ N, A.length = N := ⟨_, rfl⟩
  rw [hNA] at on8 on9 ⊢
  have HO8 : Hid (OnR w7 (.slice q8 NA c8) A w9) := on8.call on9.bel
  have HO9 : Hid (OnR w8 (.slice q9 NA c9) A w9) := on9
  have HNA : Hid _ := hNA
  have hNAb : (NA : Int) ≤ 5000 := by have := HRR.out; omega
  clear on8 on9 hNA
  simp only []
  go_upto_region 11 with fail
  have C9 := HD w9 (some ⟨b3, o3, none⟩) c3 (HR3.out.below HB9.out)
  go_wp2_with fail
  refine C9.mono ?_
  rintro e wa ⟨rfl, hba⟩
  have HBa : Hid (Below w9.heap.size w9 wa) := hba
  clear C9 HD hba
  simp only []
  go_upto_region 12 with fail
  have C10 := RH2 wa (hR2.out.below (below_more HB3.out (below_more HB9.out HBa.out)))
  go_wp2_with fail
  refine C10.mono ?_
  rintro e wb ⟨rfl, hbb⟩
  have HBb : Hid (Below w9.heap.size w9 wb) := below_more HBa.out hbb
  clear C10 RH2 hbb
  simp only []
  go_upto_region 13 with fail
  have SA := rSame_yes q8 q9 NA c8 c9 A wb ((HO8.out.call HBb.out).own.recs) ((HO9.out.call HBb.out).own.recs) (by omega)
  go_wp2_with (go_at_call 31; refine SA.mono ?_; rintro e wc ⟨rfl, hbc⟩)
  have O5 : OnR w7 (.slice q8 NA c8) A wc := HO8.out.call (below_more HBb.out hbc)
  clear SA hbc
  · go_loopw [30] (fun t wr => OverI w7 NA (.slice q8 NA c8) t wr) (fun t _ => NA - (intOf t).toNat)
    case atStart => exact ⟨0, A, by omega, rfl, HNA.out, O5⟩
    case round =>
      clear O5
      obtain ⟨k, L, hkN, rfl, hL, on⟩ := hrel
      have HL : Hid (L.length = NA) := hL
      clear hL
      by_cases hlt : k < NA
      · have hI : (k : Int) < (NA : Int) := by omega
        rcases on.own.2 with ⟨_, h0⟩ | ⟨g, cap, cur, hv, hgb, hrow, _⟩
        · have := HL.out; omega
        have hv2 : Value.slice q8 NA c8 = .slice (some ⟨g, 0, none⟩) NA cap := by rw [hv, HL.out]
        simp only [Value.slice.injEq, true_and] at hv2
        obtain ⟨rfl, rfl⟩ := hv2
        have RS := rown_set on.own HL.out.symm k (by rw [HL.out]; exact hlt) sevR
        obtain ⟨x0, x1, x2, x3, x4, x5⟩ := on.own.recs.lies.at (k := k) (by rw [HL.out]; exact hlt)
        simp only [Nat.zero_add] at x0 x1 x2 x3 x4 x5
        have f0 : wr.frozen? ⟨g, k * 6, none⟩ = false := frozen_of_row wr _ _ _ _ hrow
        have f1 : wr.frozen? ⟨g, k * 6 + 1, none⟩ = false := frozen_of_row wr _ _ _ _ hrow
        have f2 : wr.frozen? ⟨g, k * 6 + 2, none⟩ = false := frozen_of_row wr _ _ _ _ hrow
        have f3 : wr.frozen? ⟨g, k * 6 + 3, none⟩ = false := frozen_of_row wr _ _ _ _ hrow
        have f4 : wr.frozen? ⟨g, k * 6 + 4, none⟩ = false := frozen_of_row wr _ _ _ _ hrow
        have f5 : wr.frozen? ⟨g, k * 6 + 5, none⟩ = false := frozen_of_row wr _ _ _ _ hrow
        have HRS : Hid _ := RS
        have HON : Hid (OnR w7 (.slice (some ⟨g, 0, none⟩) NA c8) L wr) := on
        clear RS hv hrow on
        go_upto_region 16 with fail
        have RS := HRS.out
        clear HRS
        simp only [sevR, sevB] at RS
        generalize (((((wr.setCell ⟨g, k * 6, none⟩ (.int .i64 0)).setCell ⟨g, k * 6 + 1, none⟩ (.int .i64 0)).setCell ⟨g, k * 6 + 2, none⟩ (.string ⟨#[55, 55]⟩)).setCell ⟨g, k * 6 + 3, none⟩ (.string ⟨#[]⟩)).setCell ⟨g, k * 6 + 4, none⟩ (.int .i64 0)).setCell ⟨g, k * 6 + 5, none⟩ (.string ⟨#[]⟩) = w6 at RS ⊢
        have on6 : OnR w7 (.slice (some ⟨g, 0, none⟩) NA c8) (L.set k ⟨0, 0, ⟨#[55, 55]⟩, ⟨#[]⟩, 0, ⟨#[]⟩⟩) w6 := ⟨RS.1, HON.out.bel.grown RS.2 HON.out.bel.size (fun j hj => by cases hj; exact hgb)⟩
        clear RS x0 x1 x2 x3 x4 x5 f0 f1 f2 f3 f4 f5 HON
        go_wp2
        go_roundw
        case rel => exact ⟨k + 1, _, by omega, rfl, by rw [List.length_set]; exact HL.out, on6⟩
        case measure => simp [intOf]; omega
      · obtain rfl : k = NA := by omega
        have HBR : Hid (Below w3.heap.size w3 wr) := below_more HB7.out on.bel
        clear on
        have SB := rSame_yes (some ⟨b3, o3, none⟩) q n c3 c l wr (HR3.out.below HBR.out) (hR2.out.below (below_more HB3.out HBR.out)) hnb
        have EQ := fun w' => run_eqlR sevR sevR w'
        rw [sev_eq] at EQ
        have HSV : Hid (∀ w', Below wr.heap.size wr w' → RecAt w' b3 (o3 + n * 6) sevR) := fun w' hb => HS3.out.below (below_more HBR.out hb)
        simp only [recA, sevR, sevB] at EQ
        go_wp2_with (go_at_call 31; refine SB.mono ?_; rintro e wz ⟨rfl, hbz⟩; obtain ⟨x0, x1, x2, x3, x4, x5⟩ := HSV.out wz hbz; simp only [sevR, sevB] at x0 x1 x2 x3 x4 x5)
        go_ret
        exact ⟨rfl, below_more HB0.out (below_more HW2.out (below_more HB3.out (below_more HBR.out hbz)))⟩
theorem tells_w (v : Value) (l : List RecV) (r : RecV) (b : ByteArray) (f k : Int) (w : World) (hk : KOn w) (hr : Recs w v l) (hw : WfR r) (_ : b.size ≤ maxLen) (hf : (Lit.int .i64 f).wf = true) (hkk : (Lit.int .i64 k).wf = true) :
    Calls Tryd.prog 6 #[v, .agg (recA r), .string b, .int .i64 f, .int .i64 k] w fun e w' => e = .returned (.bool true) ∧ Below w.heap.size w w' := by
  obtain ⟨q, c, rfl, h1, h2, h3, h4⟩ := hr.lies
  exact law_tells q l.length c l r b f k w hk ⟨rfl, h1⟩ h4 (by unfold maxLen at h3; omega) hw.seq.2 (bounds_i64 hf).2 (bounds_i64 hkk).2
end Go.Proofs.YtoagaddciapmkaaDoor
