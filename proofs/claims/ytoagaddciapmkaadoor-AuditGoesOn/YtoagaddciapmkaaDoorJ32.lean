/-
  AuditGoesOn: the law.
-/
import Derived.Test.YtoagaddciapmkaaDoorJ30
import Derived.Test.YtoagaddciapmkaaDoorJ31
namespace Go.Proofs.YtoagaddciapmkaaDoor
open Go.RowKit Go.WideShapes Go.Maps

/-- What was answered is written over, one by one. -/
inductive OverI (W : World) (N : Nat) (v t : Value) (wr : World) : Prop where
  | intro (k : Nat) (L : List RecV) (hk : k ≤ N) (ht : t = .int .i64 (k : Int)) (hL : L.length = N) (ho : OnR W v L wr)
theorem sev_eq : recEq sevR sevR = true := (recEq_iff _ _).2 rfl
theorem recs_at {w : World} {q : Option Addr} {N : Nat} {l : List RecV} {r : RecV} (h : RsL w q N (l ++ [r])) {n : Nat} (hn : n = l.length) : RsL w q n l ∧ ∃ b o, q = some ⟨b, o, none⟩ ∧ RecAt w b (o + n * 6) r := by
  obtain ⟨b, o, rfl⟩ := h.lies.addr (by simp)
  refine ⟨⟨hn, ?_⟩, b, o, rfl, ?_⟩
  · have := h.lies.take l.length
    rwa [List.take_left'] at this
    rfl
  · have := h.lies.at (k := n) (by rw [hn]; simp)
    rwa [show (l ++ [r]).getD n zeroR = r from by rw [hn]; simp [List.getD]] at this
set_option maxHeartbeats 4000000 in
set_option maxRecDepth 100000 in
theorem law_goes (q : Option Addr) (n c : Nat) (l : List RecV) (t : Int) (u d : ByteArray) (o : Int) (w : World) (hk : KOn w) (h : RsL w q n l) (hq : q = none → c = 0) (hnb : (n : Int) ≤ 9223372036854775807) :
    Calls Tryd.prog 7 #[.slice q n c, .int .i64 t, .string u, .string d, .int .i64 o] w fun e w' => e = .returned (.bool true) ∧ Below w.heap.size w w' := by
  have LG := long_any q n c l w h hnb
  obtain ⟨m, hmis⟩ := mis_ex l
  have HN : Hid (n = l.length) := h.n
  go_enter Tryd.func7, Tryd.ntmps7
  go_wp2_with fail
  refine LG.mono ?_
  rintro e w1 ⟨⟨b, rfl, hlong⟩, rfl⟩
  clear LG
  simp only []
  have HB0 : Hid (Below w1.heap.size w1 w1) := Below.refl _ _
  cases b with
  | true =>
    go_wp2
    go_ret
    exact ⟨rfl, HB0.out⟩
  | false =>
  have hF := hlong rfl
  by_cases k1 : (3000 : Int) < (u.size : Int)
  · clear hlong
    go_wp2
    go_ret
    exact ⟨rfl, HB0.out⟩
  by_cases k2 : (3000 : Int) < (d.size : Int) ∧ (d.size : Int) ≤ 16384
  · have k21 := k2.1
    have k22 := k2.2
    clear hlong
    go_wp2
    go_ret
    exact ⟨rfl, HB0.out⟩
  by_cases k3 : (17000 : Int) < (d.size : Int)
  · have k31 : (3000 : Int) < (d.size : Int) := by omega
    have k32 : ¬ (d.size : Int) ≤ 16384 := by omega
    clear hlong k2
    go_wp2
    go_ret
    exact ⟨rfl, HB0.out⟩
  have hn5 : n ≤ 4200 := by have := HN.out; rcases hF with hF | hF <;> omega
  have hmild := long_mild HN.out hF
  obtain ⟨E, hE⟩ : ∃ E, nextE l t u d o m = E := ⟨_, rfl⟩
  have TW := twin_any q n c l w1 h hq (by omega)
  have NX := fun w' q' c' (hb : Below w1.heap.size w1 w') (h' : RsL w' q' n l) hq' => Next_any q' n c' l t u d o w' (hk.below hb hk.pos) h' hq' hnb m hmis E hE
  have RN := fun w' (hb : Below w1.heap.size w1 w') => rNext_any q n c l t u d o w' (h.below hb) hq hnb hmild m hmis E hE
  have HNL : Hid ((nextL l t u d o E).length ≤ 1000000) := by
    show _ ≤ _
    unfold nextL
    split
    · rw [List.length_append, List.length_singleton, ← HN.out]; omega
    · simp
  have HR : Hid (RsL w1 q n l) := h
  have HK5 : Hid (n ≤ 4200) := hn5
  generalize nextL l t u d o E = A at NX RN HNL
  clear hlong hF hmild hmis hE h hq hk hn5
  have go : (decide ((3000 : Int) < (d.size : Int)) && decide ((d.size : Int) ≤ 16384)) = false := by
    rw [Bool.and_eq_false_iff, decide_eq_false_iff_not, decide_eq_false_iff_not]; omega
  by_cases k4 : (3000 : Int) < (d.size : Int)
  case' pos => have k5 : ¬ (d.size : Int) ≤ 16384 := by omega
  all_goals clear go k2
  all_goals go_wp2_with fail
  all_goals refine TW.mono ?_
  all_goals rintro e w2 ⟨v2, rfl, on2⟩
  all_goals obtain ⟨q2, c2, rfl, hc2, hm2, hq2⟩ := on2.own.form
  all_goals have R2 := on2.own.recs
  all_goals obtain ⟨R2l, b2, o2, rfl, R2s⟩ := recs_at R2 HN.out
  all_goals have HB2 : Hid (Below w1.heap.size w1 w2) := on2.bel
  all_goals have HR2 : Hid (RsL w2 (some ⟨b2, o2, none⟩) n l) := R2l
  all_goals have HS2 : Hid (RecAt w2 b2 (o2 + n * 6) sevR) := R2s
  all_goals obtain ⟨N2, hN2⟩ : ∃ N, (l ++ [sevR]).length = N := ⟨_, rfl⟩
  all_goals have eN : N2 = n + 1 := by rw [← hN2, List.length_append, List.length_singleton, ← HN.out]
  all_goals rw [hN2] at hc2 ⊢
  all_goals have hnc : (n : Int) ≤ (c2 : Int) := by omega
  all_goals have hnN : (n : Int) < (N2 : Int) := by omega
  all_goals have HEN : Hid (N2 = n + 1) := eN
  all_goals clear on2 R2 R2l R2s TW hm2 hq2 hN2 eN hc2
  all_goals simp only []
  all_goals go_upto_region 5 with fail
  all_goals have N3 := NX w2 (some ⟨b2, o2, none⟩) c2 HB2.out HR2.out (fun h => by cases h)
  all_goals clear NX
  all_goals go_wp2_with fail
  all_goals refine N3.mono ?_
  all_goals rintro e w3 ⟨v3, rfl, on3⟩
  all_goals clear N3
  all_goals simp only []
  all_goals go_upto_region 6 with fail
  all_goals have RX := RN w3 (below_more HB2.out on3.bel)
  all_goals clear RN
  all_goals go_wp2_with fail
  all_goals refine RX.mono ?_
  all_goals rintro e w4 ⟨v4, rfl, on4⟩
  all_goals clear RX
  all_goals obtain ⟨q3, c3, rfl, hc3, hm3, hq3⟩ := on3.own.form
  all_goals obtain ⟨q4, c4, rfl, hc4, hm4, hq4⟩ := on4.own.form
  all_goals have on3' := on3.call on4.bel
  all_goals obtain ⟨NA, hNA⟩ : ∃ N, A.length = N := ⟨_, rfl⟩
  all_goals rw [hNA] at on3' on4 ⊢
  all_goals have hNAb : (NA : Int) ≤ 1000000 := by have := HNL.out; omega
  all_goals have SA := rSame_yes q3 q4 NA c3 c4 A w4 on3'.own.recs on4.own.recs (by omega)
  all_goals have HO3 : Hid (OnR w2 (.slice q3 NA c3) A w4) := on3'
  all_goals have HNA : Hid _ := hNA
  all_goals clear on3 on3' on4 hc3 hm3 hq3 hc4 hm4 hq4 hNA
  all_goals simp only []
  all_goals go_wp2_with (go_at_call 31; refine SA.mono ?_; rintro e w5 ⟨rfl, hb5⟩)
  all_goals have O5 : OnR w2 (.slice q3 NA c3) A w5 := HO3.out.call hb5
  all_goals clear SA hb5
  · go_loopw [17] (fun t wr => OverI w2 NA (.slice q3 NA c3) t wr) (fun t _ => NA - (intOf t).toNat)
    case atStart => exact ⟨0, A, by omega, rfl, HNA.out, O5⟩
    case round =>
      clear O5
      obtain ⟨k, L, hkN, rfl, hL, on⟩ := hrel
      have HL : Hid (L.length = NA) := hL
      clear hL
      by_cases hlt : k < NA
      · have hI : (k : Int) < (NA : Int) := by omega
        rcases on.own.2 with ⟨_, h0⟩ | ⟨g, cap, cur, hv, hgb, hrow, _⟩
        · have := HL.out; omega
        have hv2 : Value.slice q3 NA c3 = .slice (some ⟨g, 0, none⟩) NA cap := by rw [hv, HL.out]
        simp only [Value.slice.injEq, true_and] at hv2
        obtain ⟨rfl, rfl⟩ := hv2
        have RS := rown_set on.own HL.out.symm k (by rw [HL.out]; exact hlt) sevR
        obtain ⟨x0, x1, x2, x3, x4, x5⟩ := on.own.recs.lies.at (k := k) (by rw [HL.out]; exact hlt)
        simp only [Nat.zero_add] at x0 x1 x2 x3 x4 x5
        have f0 : wr.frozen? ⟨g, k * 6, none⟩ = false := frozen_of_row wr _ _ _ _ hrow
        have f1 : wr.frozen? ⟨g, k * 6 + 1, none⟩ = false := frozen_of_row wr _ _ _ _ hrow
        have f2 : wr.frozen? ⟨g, k * 6 + 2, none⟩ = false := frozen_of_row wr _ _ _ _ hrow
        have f3 : wr.frozen? ⟨g, k * 6 + 3, none⟩ = false := frozen_of_row wr _ _ _ _ hrow
        have f4 : wr.frozen? ⟨g, k * 6 + 4, none⟩ = false := frozen_of_row wr _ _ _ _ hrow
        have f5 : wr.frozen? ⟨g, k * 6 + 5, none⟩ = false := frozen_of_row wr _ _ _ _ hrow
        have HRS : Hid _ := RS
        have HON : Hid (OnR w2 (.slice (some ⟨g, 0, none⟩) NA c3) L wr) := on
        clear RS hv hrow on
        go_upto_region 11 with fail
        have RS := HRS.out
        clear HRS
        simp only [sevR, sevB] at RS
        generalize (((((wr.setCell ⟨g, k * 6, none⟩ (.int .i64 0)).setCell ⟨g, k * 6 + 1, none⟩ (.int .i64 0)).setCell ⟨g, k * 6 + 2, none⟩ (.string ⟨#[55, 55]⟩)).setCell ⟨g, k * 6 + 3, none⟩ (.string ⟨#[]⟩)).setCell ⟨g, k * 6 + 4, none⟩ (.int .i64 0)).setCell ⟨g, k * 6 + 5, none⟩ (.string ⟨#[]⟩) = w6 at RS ⊢
        have on6 : OnR w2 (.slice (some ⟨g, 0, none⟩) NA c3) (L.set k ⟨0, 0, ⟨#[55, 55]⟩, ⟨#[]⟩, 0, ⟨#[]⟩⟩) w6 := ⟨RS.1, HON.out.bel.grown RS.2 HON.out.bel.size (fun j hj => by cases hj; exact hgb)⟩
        clear RS x0 x1 x2 x3 x4 x5 f0 f1 f2 f3 f4 f5 HON
        go_wp2
        go_roundw
        case rel => exact ⟨k + 1, _, by omega, rfl, by rw [List.length_set]; exact HL.out, on6⟩
        case measure => simp [intOf]; omega
      · obtain rfl : k = NA := by omega
        have HBR : Hid (Below w2.heap.size w2 wr) := on.bel
        clear on
        have SB := rSame_yes (some ⟨b2, o2, none⟩) q n c2 c l wr (HR2.out.below HBR.out) (HR.out.below (below_more HB2.out HBR.out)) hnb
        have EQ := fun w' => run_eqlR sevR sevR w'
        rw [sev_eq] at EQ
        have HSV : Hid (∀ w', Below wr.heap.size wr w' → RecAt w' b2 (o2 + n * 6) sevR) := fun w' hb => HS2.out.below (below_more HBR.out hb)
        simp only [recA, sevR, sevB] at EQ
        go_wp2_with (go_at_call 31; refine SB.mono ?_; rintro e w7 ⟨rfl, hb7⟩; obtain ⟨x0, x1, x2, x3, x4, x5⟩ := HSV.out w7 hb7; simp only [sevR, sevB] at x0 x1 x2 x3 x4 x5)
        go_ret
        exact ⟨rfl, below_more HB2.out (below_more HBR.out hb7)⟩
  · go_loopw [17] (fun t wr => OverI w2 NA (.slice q3 NA c3) t wr) (fun t _ => NA - (intOf t).toNat)
    case atStart => exact ⟨0, A, by omega, rfl, HNA.out, O5⟩
    case round =>
      clear O5
      obtain ⟨k, L, hkN, rfl, hL, on⟩ := hrel
      have HL : Hid (L.length = NA) := hL
      clear hL
      by_cases hlt : k < NA
      · have hI : (k : Int) < (NA : Int) := by omega
        rcases on.own.2 with ⟨_, h0⟩ | ⟨g, cap, cur, hv, hgb, hrow, _⟩
        · have := HL.out; omega
        have hv2 : Value.slice q3 NA c3 = .slice (some ⟨g, 0, none⟩) NA cap := by rw [hv, HL.out]
        simp only [Value.slice.injEq, true_and] at hv2
        obtain ⟨rfl, rfl⟩ := hv2
        have RS := rown_set on.own HL.out.symm k (by rw [HL.out]; exact hlt) sevR
        obtain ⟨x0, x1, x2, x3, x4, x5⟩ := on.own.recs.lies.at (k := k) (by rw [HL.out]; exact hlt)
        simp only [Nat.zero_add] at x0 x1 x2 x3 x4 x5
        have f0 : wr.frozen? ⟨g, k * 6, none⟩ = false := frozen_of_row wr _ _ _ _ hrow
        have f1 : wr.frozen? ⟨g, k * 6 + 1, none⟩ = false := frozen_of_row wr _ _ _ _ hrow
        have f2 : wr.frozen? ⟨g, k * 6 + 2, none⟩ = false := frozen_of_row wr _ _ _ _ hrow
        have f3 : wr.frozen? ⟨g, k * 6 + 3, none⟩ = false := frozen_of_row wr _ _ _ _ hrow
        have f4 : wr.frozen? ⟨g, k * 6 + 4, none⟩ = false := frozen_of_row wr _ _ _ _ hrow
        have f5 : wr.frozen? ⟨g, k * 6 + 5, none⟩ = false := frozen_of_row wr _ _ _ _ hrow
        have HRS : Hid _ := RS
        have HON : Hid (OnR w2 (.slice (some ⟨g, 0, none⟩) NA c3) L wr) := on
        clear RS hv hrow on
        go_upto_region 11 with fail
        have RS := HRS.out
        clear HRS
        simp only [sevR, sevB] at RS
        generalize (((((wr.setCell ⟨g, k * 6, none⟩ (.int .i64 0)).setCell ⟨g, k * 6 + 1, none⟩ (.int .i64 0)).setCell ⟨g, k * 6 + 2, none⟩ (.string ⟨#[55, 55]⟩)).setCell ⟨g, k * 6 + 3, none⟩ (.string ⟨#[]⟩)).setCell ⟨g, k * 6 + 4, none⟩ (.int .i64 0)).setCell ⟨g, k * 6 + 5, none⟩ (.string ⟨#[]⟩) = w6 at RS ⊢
        have on6 : OnR w2 (.slice (some ⟨g, 0, none⟩) NA c3) (L.set k ⟨0, 0, ⟨#[55, 55]⟩, ⟨#[]⟩, 0, ⟨#[]⟩⟩) w6 := ⟨RS.1, HON.out.bel.grown RS.2 HON.out.bel.size (fun j hj => by cases hj; exact hgb)⟩
        clear RS x0 x1 x2 x3 x4 x5 f0 f1 f2 f3 f4 f5 HON
        go_wp2
        go_roundw
        case rel => exact ⟨k + 1, _, by omega, rfl, by rw [List.length_set]; exact HL.out, on6⟩
        case measure => simp [intOf]; omega
      · obtain rfl : k = NA := by omega
        have HBR : Hid (Below w2.heap.size w2 wr) := on.bel
        clear on
        have SB := rSame_yes (some ⟨b2, o2, none⟩) q n c2 c l wr (HR2.out.below HBR.out) (HR.out.below (below_more HB2.out HBR.out)) hnb
        have EQ := fun w' => run_eqlR sevR sevR w'
        rw [sev_eq] at EQ
        have HSV : Hid (∀ w', Below wr.heap.size wr w' → RecAt w' b2 (o2 + n * 6) sevR) := fun w' hb => HS2.out.below (below_more HBR.out hb)
        simp only [recA, sevR, sevB] at EQ
        go_wp2_with (go_at_call 31; refine SB.mono ?_; rintro e w7 ⟨rfl, hb7⟩; obtain ⟨x0, x1, x2, x3, x4, x5⟩ := HSV.out w7 hb7; simp only [sevR, sevB] at x0 x1 x2 x3 x4 x5)
        go_ret
        exact ⟨rfl, below_more HB2.out (below_more HBR.out hb7)⟩
theorem goes_w (v : Value) (l : List RecV) (t : Int) (u d : ByteArray) (o : Int) (w : World) (hk : KOn w) (hr : Recs w v l) (_ : (Lit.int .i64 t).wf = true) (_ : u.size ≤ maxLen) (_ : d.size ≤ maxLen) (_ : (Lit.int .i64 o).wf = true) :
    Calls Tryd.prog 7 #[v, .int .i64 t, .string u, .string d, .int .i64 o] w fun e w' => e = .returned (.bool true) ∧ Below w.heap.size w w' := by
  obtain ⟨q, c, rfl, h1, h2, h3, h4⟩ := hr.lies
  exact law_goes q l.length c l t u d o w hk ⟨rfl, h1⟩ h4 (by unfold maxLen at h3; omega)
end Go.Proofs.YtoagaddciapmkaaDoor
