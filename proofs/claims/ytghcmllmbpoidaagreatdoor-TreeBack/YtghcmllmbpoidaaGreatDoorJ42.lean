import Derived.Test.YtghcmllmbpoidaaGreatDoorJ40
import Derived.Test.YtghcmllmbpoidaaGreatDoorJ27
namespace Go.Proofs.YtghcmllmbpoidaaGreatDoor
open Go.RowKit Go.WideShapes
theorem StrsAt {w : World} {q : Option Addr} {L : List ByteArray} (h : Lg.StrsIn w q L) {i : Nat} (hi : i < L.length) : ∃ b o, q = some ⟨b, o, none⟩ ∧ w.cell? ⟨b, o + i, none⟩ = some (.string (L.getD i ByteArray.empty)) := by
  obtain ⟨b, o, e, hc⟩ := h (by omega)
  exact ⟨b, o, e, hc i hi⟩
set_option maxRecDepth 8000 in
set_option maxHeartbeats 4000000 in
theorem records_any (B : Nat) (C R : Int) (p1 p2 p3 p4 q : Option Addr) (n1 n2 n3 n4 n c1 c2 c3 c4 c : Nat) (L : List ByteArray) (ls : List (List Tr.CV)) (E : List Mg.EntV) (w : World)
    (hB : w.heap[B]? = some (.cells #[.int .i64 C, .slice p1 n1 c1, .slice p2 n2 c2, .slice p3 n3 c3, .int .i64 R, .slice p4 n4 c4, .slice none 0 0, .int .i64 0] 60 (0, 0)))
    (hS : Lg.StrsIn w q L) (hn : n = L.length) (hn64 : n ≤ 63)
    (hrd : ∀ i, i < n → (L.getD i ByteArray.empty).size ≤ 100000 ∧ Tr.readE Tr.gP (numsOf (L.getD i ByteArray.empty)) = some (ls.getD i [], i + 1) ∧ (ls.getD i []).length ≤ 64)
    (hE : Mg.allE (rowsK ls n) = (E, 0)) (hr : Mg.RiseE E) (hE12 : E.length ≤ 12) (hL : Mg.Laid w) :
    Calls Tryz.prog 47 #[.pointer (some ⟨B, 0, none⟩), .slice q n c] w fun e w' => (e = .returned .nilIface ∧ ∃ fq fn fc eq ec, w'.heap[B]? = some (.cells #[.int .i64 C, .slice p1 n1 c1, .slice p2 n2 c2, .slice p3 n3 c3, .int .i64 R, .slice fq fn fc, .slice eq E.length ec, .int .i64 (n : Int)] 60 (0, 0)) ∧ Mg.EOwn w' (B + 1) (.slice eq E.length ec) E) ∧ KeptB B w w' := by
  have HB : Hid (w.heap[B]? = some (.cells #[.int .i64 C, .slice p1 n1 c1, .slice p2 n2 c2, .slice p3 n3 c3, .int .i64 R, .slice p4 n4 c4, .slice none 0 0, .int .i64 0] 60 (0, 0))) := hB
  have HS : Hid (Lg.StrsIn w q L) := hS
  have HN : Hid (n = L.length) := hn
  have HRD : Hid (∀ i, i < n → (L.getD i ByteArray.empty).size ≤ 100000 ∧ Tr.readE Tr.gP (numsOf (L.getD i ByteArray.empty)) = some (ls.getD i [], i + 1) ∧ (ls.getD i []).length ≤ 64) := hrd
  have HE : Hid (Mg.allE (rowsK ls n) = (E, 0) ∧ Mg.RiseE E ∧ E.length ≤ 12) := ⟨hE, hr, hE12⟩
  have HL : Hid (Mg.Laid w) := hL
  have c7 : w.cell? ⟨B, 7, none⟩ = some (.int .i64 0) := Lib.cell_of_heap hB 7
  have hnI : (n : Int) ≤ 63 := by omega
  clear hB hS hn hrd hE hr hE12 hL hn64
  go_enter Tryz.func47, Tryz.ntmps47
  go_wp2
  go_loopw [6, 7, 19] (fun s6 s7 s19 wr => ∃ (i : Nat) (K : List Mg.RV) (qv : Option Addr) (lv cv : Nat), s19 = .int .i64 (i : Int) ∧ s6 = .int .i64 (i : Int) ∧ s7 = .slice qv lv cv ∧ i ≤ n ∧ OnRs w ls i (.slice qv lv cv) K wr) (fun _ _ s19 _ => n - (intOf s19).toNat)
  case atStart => exact ⟨0, [], none, 0, 0, rfl, rfl, rfl, by omega, onrs_nil w ls⟩
  case round =>
    obtain ⟨i, K, qv, lv, cv, rfl, rfl, rfl, h1, hon⟩ := hrel
    have HI : Hid (i ≤ n) := h1
    have HO : Hid (OnRs w ls i (.slice qv lv cv) K wr) := hon
    clear h1 hon
    by_cases hlt : i < n
    · have hltI : (i : Int) < (n : Int) := by omega
      have hiI0 : (0 : Int) ≤ (i : Int) := by omega
      obtain ⟨b, o, rfl, hcell⟩ := StrsAt (HS.out.below HO.out.bel) (i := i) (by have := HN.out; omega)
      obtain ⟨hsz, hre, hl64⟩ := HRD.out i hlt
      obtain ⟨s, hs⟩ : ∃ s, L.getD i ByteArray.empty = s := ⟨_, rfl⟩
      rw [hs] at hcell hsz hre
      have hc := Tr.read_t s wr hsz _ hre
      have HL64 : Hid ((ls.getD i []).length ≤ 64) := hl64
      clear hs hsz hre hl64 hlt
      go_wp2_with fail
      refine hc.mono ?_
      rintro e w1 ⟨hb1, ⟨hno, _⟩ | ⟨l, seq, v, hlo, rfl, hco⟩⟩
      · cases hno
      simp only [Option.some.injEq, Prod.mk.injEq] at hlo
      obtain ⟨rfl, rfl⟩ := hlo
      obtain ⟨q2, m2, rfl, _, _⟩ := Tr.own_form hco
      obtain ⟨n2', hn2'⟩ : ∃ k, (ls.getD i []).length = k := ⟨_, rfl⟩
      have HO1 : Hid (OnRs w ls i (.slice qv lv cv) K w1) := HO.out.next hb1
      have hrow := rowOf_any q2 n2' m2 (ls.getD i []) ((i : Int) + 1) w1 hco.cs hn2'.symm (by have := HL64.out; omega) (HL.out.below HO1.out.bel HL.out.size)
      obtain ⟨l3, hl3⟩ : ∃ l3, rowC (ls.getD i []) ((i : Int) + 1) = l3 := ⟨_, rfl⟩
      have hq1 : ((i + 1 : Nat) : Int) = (i : Int) + 1 := by omega
      have HL3 : Hid (l3 = rowC (ls.getD i []) ((i + 1 : Nat) : Int)) := by show _ = _; rw [hq1, hl3]
      rw [hl3] at hrow
      obtain ⟨k3, hk3⟩ : ∃ k, l3.length = k := ⟨_, rfl⟩
      rw [hk3] at hrow
      have HK3 : Hid (l3.length = k3) := hk3
      rw [hn2']
      have HRW : Hid _ := hrow
      have hgt : (0 : Int) < (i : Int) + 1 := by omega
      have hKl : K.length ≤ 1000 := by have := HO.out.len; omega
      have HKL : Hid (K.length ≤ 1000) := hKl
      clear hc hco hb1 hcell hn2' hrow hKl hl3 hk3
      rw [hq1]
      rcases Nat.eq_zero_or_pos i with hi0 | hi0
      · subst hi0
        go_wp2_with fail
        refine Calls.mono HRW.out ?_
        rintro e w2 ⟨⟨q3, c3', rfl, ho3⟩, hb2⟩
        have hbA := below_alloc w2 (.cells #[.slice q3 k3 c3'] 58)
        have HO2 : Hid (OnRs w ls 0 (.slice qv lv cv) K (w2.alloc (.cells #[.slice q3 k3 c3'] 58))) := (HO1.out.next hb2).next hbA
        have HE3 : Hid (Mg.EOwn (w2.alloc (.cells #[.slice q3 k3 c3'] 58)) w.heap.size (Mg.rvV ⟨q3, k3, c3', l3⟩) l3) := Mg.own_mono (Mg.EOwn.below (v := .slice q3 k3 c3') ho3 hbA) HO1.out.bel.size
        have HCE : Hid ((w2.alloc (.cells #[.slice q3 k3 c3'] 58)).cell? ⟨w2.heap.size, 0, none⟩ = some (Mg.rvV ⟨q3, k3, c3', l3⟩)) := Lib.cell_of_heap (heap_alloc_new w2 _) 0
        clear ho3 hb2 hbA HRW
        go_wp2_with (at_builtin; go_loud ((refine Mg.wpList_pushR _ rfl _ _ rfl w.heap.size (.slice qv lv cv) K ⟨q3, k3, c3', l3⟩ w2.heap.size rfl rfl HO2.out.own HCE.out HKL.out HO2.out.bel.size ?_); intro v4 w4 ho4 hg4; have h4 := HO2.out.app HE3.out HL3.out ho4 hg4; obtain ⟨q4, m4, e4, _⟩ := Tr.own_form ho4; obtain ⟨k4, hk4⟩ : ∃ k, (K ++ [(⟨q3, k3, c3', l3⟩ : Mg.RV)]).length = k := ⟨_, rfl⟩; rw [hk4] at e4; subst e4; clear hk4; have H4 : Hid _ := h4; clear ho4 hg4 h4))
        go_roundw
        case rel => exact ⟨0 + 1, _, _, _, _, by go_num, by go_num, rfl, by have := HI.out; omega, H4.out⟩
        case measure => simp [intOf]; omega
      · have hi0I : (0 : Int) < (i : Int) := by omega
        have hie : ((i : Int) == 0) = false := by simp; omega
        clear hi0
        go_wp2_with fail
        refine Calls.mono HRW.out ?_
        rintro e w2 ⟨⟨q3, c3', rfl, ho3⟩, hb2⟩
        have hbA := below_alloc w2 (.cells #[.slice q3 k3 c3'] 58)
        have HO2 : Hid (OnRs w ls i (.slice qv lv cv) K (w2.alloc (.cells #[.slice q3 k3 c3'] 58))) := (HO1.out.next hb2).next hbA
        have HE3 : Hid (Mg.EOwn (w2.alloc (.cells #[.slice q3 k3 c3'] 58)) w.heap.size (Mg.rvV ⟨q3, k3, c3', l3⟩) l3) := Mg.own_mono (Mg.EOwn.below (v := .slice q3 k3 c3') ho3 hbA) HO1.out.bel.size
        have HCE : Hid ((w2.alloc (.cells #[.slice q3 k3 c3'] 58)).cell? ⟨w2.heap.size, 0, none⟩ = some (Mg.rvV ⟨q3, k3, c3', l3⟩)) := Lib.cell_of_heap (heap_alloc_new w2 _) 0
        clear ho3 hb2 hbA HRW
        go_wp2_with (at_builtin; go_loud ((refine Mg.wpList_pushR _ rfl _ _ rfl w.heap.size (.slice qv lv cv) K ⟨q3, k3, c3', l3⟩ w2.heap.size rfl rfl HO2.out.own HCE.out HKL.out HO2.out.bel.size ?_); intro v4 w4 ho4 hg4; have h4 := HO2.out.app HE3.out HL3.out ho4 hg4; obtain ⟨q4, m4, e4, _⟩ := Tr.own_form ho4; obtain ⟨k4, hk4⟩ : ∃ k, (K ++ [(⟨q3, k3, c3', l3⟩ : Mg.RV)]).length = k := ⟨_, rfl⟩; rw [hk4] at e4; subst e4; clear hk4; have H4 : Hid _ := h4; clear ho4 hg4 h4))
        go_roundw
        case rel => exact ⟨i + 1, _, _, _, _, by go_num, by go_num, rfl, by have := HI.out; omega, H4.out⟩
        case measure => simp [intOf]; omega
    · have hltI : (n : Int) ≤ (i : Int) := by omega
      have hin : i = n := by have := HI.out; omega
      subst hin
      obtain ⟨q', m', e', _⟩ := Tr.own_form HO.out.own
      simp only [Value.slice.injEq] at e'
      obtain ⟨rfl, rfl, rfl⟩ := e'
      obtain ⟨ke, hke⟩ : ∃ ke, E.length = ke := ⟨_, rfl⟩
      have hal := Mg.All_any qv K.length cv K wr HO.out.rows (by have := HO.out.len; omega) E 0 (by rw [show Mg.lsR K = rowsK ls i from HO.out.ls]; exact HE.out.1)
      have HAL : Hid _ := hal
      obtain ⟨lv, hlv⟩ : ∃ lv, K.length = lv := ⟨_, rfl⟩
      rw [hlv]
      rw [hlv] at HAL
      have HKE : Hid (E.length = ke) := hke
      have HBR : Hid (Below w.heap.size w wr) := HO.out.bel
      have hiI0 : (0 : Int) ≤ (i : Int) := by omega
      clear hlt hal hlv hke HO
      have key : ∀ (fq : Option Addr) (fc : Nat) (w1 : World), Mg.OnB wr (.slice fq ke fc) E w1 → (w1.cell? ⟨B, 5, none⟩ = some (.slice p4 n4 c4) ∧ w1.frozen? ⟨B, 5, none⟩ = false) ∧ Hid (∀ W2, W2 = w1.setCell ⟨B, 5, none⟩ (.slice fq ke fc) → (W2.cell? ⟨B, 5, none⟩ = some (.slice fq ke fc) ∧ W2.cell? ⟨B, 6, none⟩ = some (.slice none 0 0)) ∧ Mg.EntsIn W2.drew fq E ∧ (fq = none → fc = 0) ∧
          ∀ v' w3, Mg.EOwn w3 W2.drew.heap.size v' E → W2.drew.grownBy w3 none → ∃ eq ec, v' = .slice eq ke ec ∧ w3.cell? ⟨B, 6, none⟩ = some (.slice none 0 0) ∧ w3.frozen? ⟨B, 6, none⟩ = false ∧ Hid ((w3.setCell ⟨B, 6, none⟩ (.slice eq ke ec)).heap[B]? = some (.cells #[.int .i64 C, .slice p1 n1 c1, .slice p2 n2 c2, .slice p3 n3 c3, .int .i64 R, .slice fq ke fc, .slice eq ke ec, .int .i64 0] 60 (0, 0)) ∧ Mg.EOwn (w3.setCell ⟨B, 6, none⟩ (.slice eq ke ec)) (B + 1) (.slice eq ke ec) E ∧ KeptB B w (w3.setCell ⟨B, 6, none⟩ (.slice eq ke ec)))) := by
        intro fq fc w1 hon
        have hbw : Below w.heap.size w w1 := below_bt HBR.out hon.bel
        have hB1 : w1.heap[B]? = some (.cells #[.int .i64 C, .slice p1 n1 c1, .slice p2 n2 c2, .slice p3 n3 c3, .int .i64 R, .slice p4 n4 c4, .slice none 0 0, .int .i64 0] 60 (0, 0)) := (hbw.block _ (lt_heap HB.out)).trans HB.out
        have hBs : B < wr.heap.size := Nat.lt_of_lt_of_le (lt_heap HB.out) HBR.out.size
        have hne : (Value.slice fq ke fc).ownBlock ≠ some B := fun e => by
          have := (World.ownsRow.lt hon.own B e).1
          omega
        refine ⟨⟨Lib.cell_of_heap hB1 5, Lib.frozen_of_heap hB1 5⟩, fun W2 hW2 => ?_⟩
        subst hW2
        have hB2 : (w1.setCell ⟨B, 5, none⟩ (.slice fq ke fc)).heap[B]? = some (.cells #[.int .i64 C, .slice p1 n1 c1, .slice p2 n2 c2, .slice p3 n3 c3, .int .i64 R, .slice fq ke fc, .slice none 0 0, .int .i64 0] 60 (0, 0)) := Lg.block_set hB1 _
        have ho2 : Mg.EOwn (w1.setCell ⟨B, 5, none⟩ (.slice fq ke fc)) wr.heap.size (.slice fq ke fc) E := World.ownsRow.kept hon.own (Lg.grown_set w1 B 5 _) (.inr hne)
        have ho3 := ho2.below (Below.refl _ _).drew
        obtain ⟨_, _, e2, _, _, hz⟩ := ho2.form
        simp only [Value.slice.injEq] at e2
        obtain ⟨rfl, _, rfl⟩ := e2
        refine ⟨⟨Lib.cell_of_heap hB2 5, Lib.cell_of_heap hB2 6⟩, ho3.ents, hz, fun v' w3 ho hg => ?_⟩
        obtain ⟨eq, ec, e3, _⟩ := ho.form
        rw [HKE.out] at e3
        subst e3
        have hB3 : w3.heap[B]? = some (.cells #[.int .i64 C, .slice p1 n1 c1, .slice p2 n2 c2, .slice p3 n3 c3, .int .i64 R, .slice fq ke fc, .slice none 0 0, .int .i64 0] 60 (0, 0)) := (hg.block B (lt_heap hB2) (by simp)).trans hB2
        have hne3 : (Value.slice eq ke ec).ownBlock ≠ some B := fun e => by
          have h1 := (World.ownsRow.lt ho B e).1
          have h2 : B < (w1.setCell ⟨B, 5, none⟩ (.slice fq ke fc)).drew.heap.size := lt_heap hB2
          omega
        have ho4 : Mg.EOwn (w3.setCell ⟨B, 6, none⟩ (.slice eq ke ec)) _ (.slice eq ke ec) E := World.ownsRow.kept ho (Lg.grown_set w3 B 6 _) (.inr hne3)
        refine ⟨eq, ec, rfl, Lib.cell_of_heap hB3 6, Lib.frozen_of_heap hB3 6, Lg.block_set hB3 _, Mg.own_mono ho4 (lt_heap hB2), ?_⟩
        refine (((keptB_below hbw).trans (keptB_set w1 B 5 _)).trans ⟨hg.os, hg.tape, hg.output, hg.size, fun k hk _ => hg.block k hk (by simp)⟩).trans (keptB_set w3 B 6 _)
      have HKEY : Hid _ := key
      clear key
      rcases Nat.eq_zero_or_pos i with hi0 | hi0
      · subst hi0
        go_wp2_with fail
        refine Calls.mono HAL.out ?_
        rintro e w1 ⟨v, rfl, hon⟩
        obtain ⟨fq, fc, e1, _⟩ := hon.own.form
        rw [HKE.out] at e1
        subst e1
        obtain ⟨⟨d5, f5⟩, hk2⟩ := HKEY.out fq fc w1 hon
        obtain ⟨⟨g5, g6⟩, hent, hqn, hk3⟩ := hk2.out _ rfl
        have HENT : Hid _ := And.intro hent hqn
        have HK3 : Hid _ := hk3
        clear hk2 hk3 hent hqn hon HAL HKEY
        go_wp2
        go_region_law (refine Mg.step_ents rfl (.tmp 96) (.tmp 100) rfl _ E fq ke fc (by simp [Act.eval]) (by simp [Act.eval]) HKE.out.symm HENT.out.1 HENT.out.2 (by have := HE.out.2.2; omega) (Nat.le_refl _) ?_; intro v' w3 ho3 hg3; obtain ⟨eq, ec, rfl, c2, f2, hx2⟩ := HK3.out v' w3 ho3 hg3; have HX : Hid _ := hx2; clear hx2 ho3 hg3)
        all_goals (
          obtain ⟨w4, hw4⟩ : ∃ w4, w3.setCell ⟨B, 6, none⟩ (.slice eq ke ec) = w4 := ⟨_, rfl⟩
          rw [hw4] at HX
          have HW4 : Hid _ := hw4
          have d6 : w4.cell? ⟨B, 6, none⟩ = some (.slice eq ke ec) := Lib.cell_of_heap HX.out.1 6
          have hri := rise_any eq ke ec E w4 ⟨HKE.out.symm, HX.out.2.1.ents⟩ HE.out.2.1 (by have := HE.out.2.2; have := HKE.out; omega)
          rw [hw4]
          clear hw4 c2 f2
          go_wp2_with fail
          refine hri.mono ?_
          rintro e w5 ⟨rfl, hb5⟩
          have hB5 := (hb5.block _ (lt_heap HX.out.1)).trans HX.out.1
          have HB5 : Hid _ := hB5
          have d7 : w5.cell? ⟨B, 7, none⟩ = some (.int .i64 0) := Lib.cell_of_heap hB5 7
          have f7 : w5.frozen? ⟨B, 7, none⟩ = false := Lib.frozen_of_heap hB5 7
          have HO5 : Hid (Mg.EOwn w5 (B + 1) (.slice eq ke ec) E) := HX.out.2.1.below hb5
          have HK5 : Hid (KeptB B w w5) := HX.out.2.2.below hb5
          clear hb5 hB5 hri d6
          go_wp2
          go_ret
          refine ⟨⟨rfl, fq, ke, fc, eq, ec, ?_, ?_⟩, HK5.out.trans (keptB_set w5 B 7 _)⟩
          · rw [HKE.out]; exact Lg.block_set HB5.out _
          · rw [HKE.out]; exact World.ownsRow.kept HO5.out (Lg.grown_set w5 B 7 _) (.inr (fun e => by have := (World.ownsRow.lt HO5.out B e).1; omega)))
      · have hi0I : (0 : Int) < (i : Int) := by omega
        clear hi0
        go_wp2_with fail
        refine Calls.mono HAL.out ?_
        rintro e w1 ⟨v, rfl, hon⟩
        obtain ⟨fq, fc, e1, _⟩ := hon.own.form
        rw [HKE.out] at e1
        subst e1
        obtain ⟨⟨d5, f5⟩, hk2⟩ := HKEY.out fq fc w1 hon
        obtain ⟨⟨g5, g6⟩, hent, hqn, hk3⟩ := hk2.out _ rfl
        have HENT : Hid _ := And.intro hent hqn
        have HK3 : Hid _ := hk3
        clear hk2 hk3 hent hqn hon HAL HKEY
        go_wp2
        go_region_law (refine Mg.step_ents rfl (.tmp 96) (.tmp 100) rfl _ E fq ke fc (by simp [Act.eval]) (by simp [Act.eval]) HKE.out.symm HENT.out.1 HENT.out.2 (by have := HE.out.2.2; omega) (Nat.le_refl _) ?_; intro v' w3 ho3 hg3; obtain ⟨eq, ec, rfl, c2, f2, hx2⟩ := HK3.out v' w3 ho3 hg3; have HX : Hid _ := hx2; clear hx2 ho3 hg3)
        all_goals (
          obtain ⟨w4, hw4⟩ : ∃ w4, w3.setCell ⟨B, 6, none⟩ (.slice eq ke ec) = w4 := ⟨_, rfl⟩
          rw [hw4] at HX
          have HW4 : Hid _ := hw4
          have d6 : w4.cell? ⟨B, 6, none⟩ = some (.slice eq ke ec) := Lib.cell_of_heap HX.out.1 6
          have hri := rise_any eq ke ec E w4 ⟨HKE.out.symm, HX.out.2.1.ents⟩ HE.out.2.1 (by have := HE.out.2.2; have := HKE.out; omega)
          rw [hw4]
          clear hw4 c2 f2
          go_wp2_with fail
          refine hri.mono ?_
          rintro e w5 ⟨rfl, hb5⟩
          have hB5 := (hb5.block _ (lt_heap HX.out.1)).trans HX.out.1
          have HB5 : Hid _ := hB5
          have d7 : w5.cell? ⟨B, 7, none⟩ = some (.int .i64 0) := Lib.cell_of_heap hB5 7
          have f7 : w5.frozen? ⟨B, 7, none⟩ = false := Lib.frozen_of_heap hB5 7
          have HO5 : Hid (Mg.EOwn w5 (B + 1) (.slice eq ke ec) E) := HX.out.2.1.below hb5
          have HK5 : Hid (KeptB B w w5) := HX.out.2.2.below hb5
          clear hb5 hB5 hri d6
          go_wp2
          go_ret
          refine ⟨⟨rfl, fq, ke, fc, eq, ec, ?_, ?_⟩, HK5.out.trans (keptB_set w5 B 7 _)⟩
          · rw [HKE.out]; exact Lg.block_set HB5.out _
          · rw [HKE.out]; exact World.ownsRow.kept HO5.out (Lg.grown_set w5 B 7 _) (.inr (fun e => by have := (World.ownsRow.lt HO5.out B e).1; omega)))
end Go.Proofs.YtghcmllmbpoidaaGreatDoor
