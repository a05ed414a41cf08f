/-
  The document's Names and Room.
-/
import Derived.Test.YthifpelappedcaaGreatDoorJ12
import Derived.Test.YthifpelappedcaaGreatDoorJ08
import Derived.Test.YthifpelappedcaaGreatDoorJ11
import Derived.Test.YthifpelappedcaaGreatDoorJ06
import Derived.Test.YthifpelappedcaaGreatDoorJ04
namespace Go.Proofs.YthifpelappedcaaGreatDoor
set_option maxRecDepth 8000
open Go.RowKit Go.WideShapes

theorem may_yes (v : Value) (count : Int) (data : List Nat) (ws : Puts) (w : World) (hd : DiskIn w v count data ws) (ho : Okay count data ws) :
    Calls Tryz.prog 145 #[v] w fun e w' => e = .returned (.bool true) ∧ Below w.heap.size w w' := may_any v count data ws w hd true ⟨fun _ => ho, fun _ => rfl⟩
theorem may_no (v : Value) (count : Int) (data : List Nat) (ws : Puts) (w : World) (hd : DiskIn w v count data ws) (ho : ¬ Okay count data ws) :
    Calls Tryz.prog 145 #[v] w fun e w' => e = .returned (.bool false) ∧ Below w.heap.size w w' := may_any v count data ws w hd false ⟨fun h => (by cases h), fun h => absurd h ho⟩
theorem box1 {w w1 : World} {o : Obj} (h : Below (w.alloc o).heap.size (w.alloc o) w1) : Below (w.heap.size + 1) (w.alloc o) w1 := by simpa using h

set_option maxHeartbeats 1000000 in
theorem rcheck_any (v : Value) (count : Int) (data : List Nat) (ws : Puts) (w : World) (hd : DiskIn w v count data ws) :
    Calls Tryz.prog 113 #[v] w fun e w' => e = .returned (.int .i64 (errC count data ws)) ∧ Below w.heap.size w w' := by
  obtain ⟨p, c, q, m, rfl, _⟩ := hd.parts
  have HD : Hid _ := hd
  clear hd
  by_cases ho : Okay count data ws
  · have HE : Hid _ := errC_ok ho
    go_enter Tryz.func113, Tryz.ntmps113
    go_wp2_with fail
    refine (may_yes _ count data ws _ (HD.out.below (below_alloc w _)) ho).mono ?_
    rintro e w1 ⟨rfl, hb1⟩
    go_wp2
    go_ret
    exact ⟨by rw [HE.out]; rfl, box_below (box1 hb1)⟩
  · have HE : Hid _ := errC_bad ho
    go_enter Tryz.func113, Tryz.ntmps113
    go_wp2_with fail
    refine (may_no _ count data ws _ (HD.out.below (below_alloc w _)) ho).mono ?_
    rintro e w1 ⟨rfl, hb1⟩
    go_wp2
    go_ret
    exact ⟨by rw [HE.out]; rfl, box_below (box1 hb1)⟩
set_option maxHeartbeats 1000000 in
theorem rsure0_any (v : Value) (n : Nat) (count : Int) (data : List Nat) (ws : Puts) (w : World) (hd : DiskIn w v count data ws) (ho : Okay count data ws) (hn : (n : Int) < count) :
    Calls Tryz.prog 146 #[v, .int .i64 n] w fun e w' => (∃ v', e = .returned v' ∧ RowG w' w.heap.size v' (secN data n)) ∧ Below w.heap.size w w' := by
  obtain ⟨p, c, q, m, rfl, hb, hc, hcm, _⟩ := hd.parts
  have hlen := ho.len
  have hhi := ho.hi
  have hnl : (n + 1) * 128 ≤ data.length := by omega
  have HL : Hid ((secN data n).length = 128) := secN_len hnl
  obtain ⟨b, o, rfl⟩ := hb.addr (by omega)
  have HB : Hid (BIn w (some ⟨b, o, none⟩) data) := hb
  have HLL : Hid ((secN data n).length ≤ 140737488355328) := by show _ ≤ _; rw [HL.out]; omega
  have HE : Hid (128 = (secN data n).length) := HL.out.symm
  clear hd ho hlen hb
  go_enter Tryz.func146, Tryz.ntmps146
  go_wp2_with fail
  refine (rbytes_any _ _ _ (secN data n) _ HE.out (bin_sec (HB.out.below (below_alloc w _)) n) (fun h => by cases h) HLL.out).mono ?_
  rintro e w1 ⟨v', rfl, hg, hb1⟩
  have HG : Hid _ := hg.mono (show w.heap.size ≤ _ by simp)
  clear hg
  go_wp2
  go_ret
  exact ⟨⟨_, rfl, HG.out⟩, box_below (box1 hb1)⟩
set_option maxHeartbeats 1000000 in
theorem rnow_any (v : Value) (n : Nat) (count : Int) (data : List Nat) (ws : Puts) (w : World) (hd : DiskIn w v count data ws) (ho : Okay count data ws) (hn : (n : Int) < count) :
    Calls Tryz.prog 118 #[v, .int .i64 n] w fun e w' => (∃ v', e = .returned v' ∧ RowG w' w.heap.size v' (nowN data ws n)) ∧ Below w.heap.size w w' := by
  obtain ⟨p, c, q, m, rfl, hb, hc, _, _, hqp, hqm, hqmm, _⟩ := hd.parts
  have hfew := ho.few
  have HQ : Hid (PutsIn w q ws) := hqp
  have HO : Hid _ := ho
  have HD : Hid _ := hd
  clear hd ho hb hqp
  go_enter Tryz.func118, Tryz.ntmps118
  go_wp2
  go_loopw [5] (fun i wr => ∃ j : Nat, j ≤ ws.length ∧ i = .int .i64 ((j : Int) - 1) ∧ Hid (nowK ws n ws.length = nowK ws n j) ∧ Below (w.heap.size + 1) (w.alloc (.cells #[.int .i64 count, .slice p data.length c, .slice q ws.length m] 25)) wr) (fun i _ => (intOf i + 1).toNat)
  case atStart => exact ⟨ws.length, by omega, rfl, rfl, Below.refl _ _⟩
  case round =>
    obtain ⟨j, hj, rfl, HN, hbk⟩ := hrel
    obtain ⟨r0, r1, r2⟩ := box_cells hbk
    have hz := box_size hbk
    by_cases hj0 : 0 < j
    · obtain ⟨t, rfl⟩ : ∃ t, j = t + 1 := ⟨j - 1, by omega⟩
      rw [show ((t + 1 : Nat) : Int) - 1 = (t : Int) from by omega]
      have htl : t < ws.length := by omega
      have hq := HQ.out.below (box_below hbk)
      obtain ⟨bq, oq, rfl⟩ := hq.addr (by omega)
      obtain ⟨e1, pk, ck, e2, hbi, _, _, hpk⟩ := hq.at htl
      rw [← Nat.add_assoc] at e2
      have hwt := HO.out.wait htl
      have HK : Hid (nowK ws n (t + 1) = if (ws.getD t (0, [])).1 = n then some (ws.getD t (0, [])).2 else nowK ws n t) := rfl
      generalize ws.getD t (0, []) = y at *
      obtain ⟨s, xs⟩ := y
      simp only at e1 e2 hbi hwt
      have HX : Hid (xs.length ≤ 140737488355328) := by show _ ≤ _; rw [hwt.2.2]; omega
      have HBI : Hid (BIn wr pk xs) := hbi
      have HPK : Hid (pk = none → ck = 0) := hpk
      clear hwt hbi hq hpk
      by_cases hs : s = n
      · have HF : Hid (nowN data ws n = xs) := nowN_some (by rw [HN.out, HK.out]; simp [hs])
        have hsb : (s == (n : Int)) = true := by simpa using hs
        clear hs
        go_wp2_with fail
        refine (rbytes_any pk ck _ xs _ rfl HBI.out HPK.out HX.out).mono ?_
        rintro e w3 ⟨v3, rfl, hg3, hb3⟩
        have HG : Hid _ := hg3.mono (show w.heap.size ≤ wr.heap.size by omega)
        have hb4 := (box_below hbk).trans (hb3.mono (by omega))
        clear hg3 hb3
        go_wp2
        go_ret
        refine ⟨⟨_, rfl, ?_⟩, hb4⟩
        rw [HF.out]
        exact HG.out
      · have HF : Hid (nowK ws n ws.length = nowK ws n t) := by show _ = _; rw [HN.out, HK.out]; simp [hs]
        have hsb : (s == (n : Int)) = false := by simpa using hs
        clear hs
        go_wp2
        go_roundw
        case rel => exact ⟨t, by omega, by go_num, HF, hbk⟩
        case measure => simp [intOf]
    · obtain rfl : j = 0 := by omega
      rw [show (((0 : Nat) : Int) - 1) = -1 from by omega]
      have HF : Hid (nowN data ws n = secN data n) := nowN_none (by rw [HN.out]; rfl)
      clear HN
      go_wp2_with fail
      refine (rsure0_any _ n count data ws _ (HD.out.below (box_below hbk)) HO.out hn).mono ?_
      rintro e w3 ⟨⟨v3, rfl, hg3⟩, hb3⟩
      have HG : Hid _ := hg3.mono (show w.heap.size ≤ wr.heap.size by omega)
      have hb4 := (box_below hbk).trans (hb3.mono (by omega))
      clear hg3 hb3
      go_wp2
      go_ret
      refine ⟨⟨_, rfl, ?_⟩, hb4⟩
      rw [HF.out]
      exact HG.out
set_option maxRecDepth 100000 in
set_option maxHeartbeats 400000 in
theorem rnew_bad (count : Int) (w : World) (h : ¬ (1 ≤ count ∧ count ≤ 4096)) :
    Calls Tryz.prog 68 #[.int .i64 count] w fun e w' => e = .returned (.tuple #[zeroDisk, .int .i64 20]) ∧ Below w.heap.size w w' := by
  by_cases h1 : 1 ≤ count
  · have h2 : 4096 < count := by omega
    go_enter Tryz.func68, Tryz.ntmps68
    go_wp2
    (try simp only [Exit.inBlock, Exit.then])
    refine bodyPost_ret (v := .tuple #[zeroDisk, .int .i64 20]) ?_ rfl ⟨rfl, below_alloc _ _⟩
    rw [results_cell_tmp rfl]
    go_simp
  · go_enter Tryz.func68, Tryz.ntmps68
    go_wp2
    (try simp only [Exit.inBlock, Exit.then])
    refine bodyPost_ret (v := .tuple #[zeroDisk, .int .i64 20]) ?_ rfl ⟨rfl, below_alloc _ _⟩
    rw [results_cell_tmp rfl]
    go_simp
set_option maxRecDepth 100000 in
set_option maxHeartbeats 400000 in
theorem rnew_ok (n : Nat) (w : World) (h1 : 1 ≤ n) (h2 : n ≤ 4096) :
    Calls Tryz.prog 68 #[.int .i64 n] w fun e w' => ∃ v, e = .returned (.tuple #[v, .int .i64 0]) ∧ DiskNew w' w.heap.size v n (zeroL n) [] ∧ Below w.heap.size w w' := by
  obtain ⟨i0, hi, hz0, hz1, hz2⟩ := info_parts info_u8
  have h : 1 ≤ (n : Int) ∧ (n : Int) ≤ 4096 := by omega
  go_enter Tryz.func68, Tryz.ntmps68
  go_wp2_with (at_make; refine wpList_make_full _ rfl _ _ 22 rfl (w.heap.size + 1) 5 i0 (.int .u8 0) 1 Tryz.underlying22 hi hz0 hz1 .i64 .i64 _ _ (n * 128) rfl rfl (by omega) (by omega) (by rw [hz2]; omega) (by unfold maxLen; omega) (by simp) ?_)
  intro w1 hown hgrow
  have hrow := row_full hown
  rw [zeros_made] at hrow
  have hb1 : Below (w.heap.size + 1) (w.alloc (.cells #[.int .i64 0, .slice none 0 0, .slice none 0 0] 25)) w1 := (Below.refl _ _).grown hgrow (by simp) (fun k hk => by cases hk)
  obtain ⟨c0, c1, c2⟩ := box_cells hb1
  obtain ⟨f0, f1, f2⟩ := box_free hb1
  have HR : Hid (w1.heap[w.heap.size + 1]? = some (.cells (Bs (zeroL n)).toArray 5 (0, 0))) := hrow
  clear hown hgrow hrow
  go_wp2
  (try simp only [Exit.inBlock, Exit.then])
  refine bodyPost_ret (v := .tuple #[.agg #[.int .i64 n, .slice (some ⟨w.heap.size + 1, 0, none⟩) (n * 128) (n * 128), .slice none 0 0], .int .i64 0]) ?_ rfl ⟨_, rfl, ?_, ?_⟩
  · rw [results_cell_tmp rfl]
    go_simp
  · refine DiskNew.set3 ?_ (box_block hb1) _ _ _
    refine ⟨⟨w.heap.size + 1, none, 0, [], by rw [zeroL_len]; rfl, by omega, HR.out, putsOwn_nil _ _, fun i hi => absurd hi (by simp)⟩, ?_⟩
    intro c hc
    rw [(List.mem_replicate.1 hc).2]
    decide
  · exact set3_below (box_below hb1) (Nat.le_refl _) _ _ _
end Go.Proofs.YthifpelappedcaaGreatDoor
namespace Go.Proofs.YthifpelappedcaaGreatDoor
open Go.RowKit Go.WideShapes Rm

theorem below_dwF {w w' : World} (h : Below w.drew.heap.size w.drew w') : Below w.heap.size w w' := ((Below.refl _ _).drew).trans h
def HeldP (w : World) (count : Int) (xs : List Nat) (e : Ending) (w' : World) : Prop :=
  (∃ x ls lv, (IsDir ltS x xs ∧ errK count (allPcs x.files) = 0) ∧ ls.map Prod.fst = x.files ∧ e = .returned (.tuple #[.agg #[.int .i64 x.gen, lv], .bool true]) ∧ FOwn w' w.heap.size lv ls ∧ Below w.heap.size w w')
  ∨ ((∀ x, IsDir ltS x xs → errK count (allPcs x.files) ≠ 0) ∧ e = .returned (.tuple #[.agg #[.int .i64 0, .slice none 0 0], .bool false]) ∧ Below w.heap.size w w')
set_option maxRecDepth 8000 in
set_option maxHeartbeats 4000000 in
theorem rheld_any (v : Value) (a : Nat) (count : Int) (data : List Nat) (ws : Puts) (w : World) (hd : DiskIn w v count data ws) (ho : Okay count data ws) (ha : ((a + 8 : Nat) : Int) ≤ count) (hcn : count ≤ 4096) (xs : List Nat) (hxs : slotK data ws a 8 = xs) :
    Calls Tryz.prog 114 #[v, .int .i64 (a : Int)] w fun e w' => HeldP w count xs e w' := by
  obtain ⟨p, c, q, m, rfl, _⟩ := hd.parts
  have HD : Hid (DiskIn w (.agg #[.int .i64 count, .slice p data.length c, .slice q ws.length m]) count data ws) := hd
  have HO : Hid (Okay count data ws) := ho
  have HA : Hid (((a + 8 : Nat) : Int) ≤ count ∧ count ≤ 4096) := ⟨ha, hcn⟩
  have HXS : Hid (slotK data ws a 8 = xs) := hxs
  have haI : (a : Int) ≤ 4096 := by omega
  have haI0 : (0 : Int) ≤ (a : Int) := by omega
  have hcI : count ≤ 4096 := hcn
  clear hd ho ha hxs hcn
  have HS0 : Hid (St w [(w.heap.size + 1, #[.int .i64 0, .slice none 0 0], 31), (w.heap.size, #[.int .i64 count, .slice p data.length c, .slice q ws.length m], 25)] ((w.alloc (.cells #[.int .i64 count, .slice p data.length c, .slice q ws.length m] 25)).alloc (.cells #[.int .i64 0, .slice none 0 0] 31)) (.slice none 0 0) []) := by
    have h1 := (St.start (w := w) (bx := []) (fun p hp => by simp at hp)).alloc #[.int .i64 count, .slice p data.length c, .slice q ws.length m] 25 (by decide)
    have h2 := h1.alloc #[.int .i64 0, .slice none 0 0] 31 (by decide)
    rw [show (w.alloc (.cells #[.int .i64 count, .slice p data.length c, .slice q ws.length m] 25)).heap.size = w.heap.size + 1 by simp] at h2
    exact h2
  go_enter Tryz.func114, Tryz.ntmps114
  go_wp2
  go_loopw [6, 7] (fun b i wr => ∃ k : Nat, k ≤ 8 ∧ i = .int .i64 (k : Int) ∧ (∀ c ∈ slotK data ws a k, c < 256) ∧ (slotK data ws a k).length = k * 128 ∧ ∃ bq bc, b = .slice bq (slotK data ws a k).length bc ∧ St w [(w.heap.size + 1, #[.int .i64 0, .slice none 0 0], 31), (w.heap.size, #[.int .i64 count, .slice p data.length c, .slice q ws.length m], 25)] wr (.slice bq (slotK data ws a k).length bc) (slotK data ws a k)) (fun _ i _ => 8 - (intOf i).toNat)
  case atStart => exact ⟨0, by omega, rfl, (fun c hc => by simp [slotK] at hc), rfl, none, 0, rfl, HS0.out⟩
  case round =>
    obtain ⟨k, hk, rfl, hby, hlen, bq, bc, rfl, hst⟩ := hrel
    obtain ⟨KL, hKL⟩ : ∃ KL, (slotK data ws a k).length = KL := ⟨_, rfl⟩
    rw [hKL] at hst ⊢
    have HKL : Hid ((slotK data ws a k).length = KL) := hKL
    have HBY : Hid ((∀ c ∈ slotK data ws a k, c < 256) ∧ (slotK data ws a k).length = k * 128) := ⟨hby, hlen⟩
    have HST : Hid (St w [(w.heap.size + 1, #[.int .i64 0, .slice none 0 0], 31), (w.heap.size, #[.int .i64 count, .slice p data.length c, .slice q ws.length m], 25)] wr (.slice bq KL bc) (slotK data ws a k)) := hst
    have c0 : wr.cell? ⟨w.heap.size, 0, none⟩ = some (.int .i64 count) := hst.cell (List.Mem.tail _ (List.Mem.head _)) 0
    have c1 : wr.cell? ⟨w.heap.size, 1, none⟩ = some (.slice p data.length c) := hst.cell (List.Mem.tail _ (List.Mem.head _)) 1
    have c2 : wr.cell? ⟨w.heap.size, 2, none⟩ = some (.slice q ws.length m) := hst.cell (List.Mem.tail _ (List.Mem.head _)) 2
    clear hby hlen hst HS0 hKL
    by_cases hk8 : k < 8
    · have hkI : (k : Int) < 8 := by omega
      have hkI0 : (0 : Int) ≤ (k : Int) := by omega
      have HK : Hid (k < 8) := hk8
      obtain ⟨j, hj⟩ : ∃ j : Nat, (a : Int) + (k : Int) = (j : Int) := ⟨a + k, by omega⟩
      have HJ : Hid (a + k = j) := by show _ = _; omega
      have hnw : Calls Tryz.prog 118 #[.agg #[.int .i64 count, .slice p data.length c, .slice q ws.length m], .int .i64 ((a : Int) + (k : Int))] wr fun e w' => (∃ v', e = .returned v' ∧ RowG w' wr.heap.size v' (nowN data ws j)) ∧ Below wr.heap.size wr w' := by
        rw [hj]
        exact rnow_any _ j count data ws wr (HD.out.below HST.out.bel) HO.out (by have := HA.out.1; have := HJ.out; omega)
      have hl : (nowN data ws j).length = 128 := nowN_len HO.out (by have := HA.out.1; have := HJ.out; omega)
      clear hk8 hk hj
      go_wp2_with fail
      refine hnw.mono ?_
      rintro e w2 ⟨⟨v', rfl, hrg⟩, hb2⟩
      have HN : Hid ((nowN data ws j).length = 128 ∧ (∀ c ∈ nowN data ws j, c < 256)) := ⟨hl, hrg.bytes⟩
      obtain ⟨vp, vc, rfl, hbi, hvc, hvm, hvn⟩ := hrg.form
      have HI2 : Hid (BIn w2 vp (nowN data ws j) ∧ (vp = none → vc = 0)) := ⟨hbi, hvn⟩
      rw [hl] at hvc ⊢
      have S2 := HST.out.call hb2
      have hsz2 := S2.size
      have HS2 : Hid (St w [(w.heap.size + 1, #[.int .i64 0, .slice none 0 0], 31), (w.heap.size, #[.int .i64 count, .slice p data.length c, .slice q ws.length m], 25)] w2 (.slice bq KL bc) (slotK data ws a k)) := S2
      obtain ⟨vg, vo, rfl⟩ : ∃ g o, vp = some ⟨g, o, none⟩ := by obtain ⟨g, o, h, _⟩ := hbi.1 (by omega); exact ⟨g, o, h⟩
      clear S2 hb2 hbi hl hnw HST c0 c1 c2 hrg hvn
      go_wp2_with (at_builtin; go_loud (refine wpList_append_bytes _ rfl _ _ rfl w.heap.size _ _ (nowN data ws j) (some ⟨vg, vo, none⟩) _ vc rfl rfl HN.out.1.symm HS2.out.own HI2.out.1 (fun h => by cases h) (by have := HBY.out.2; have := HN.out.1; have := HK.out; omega) hsz2 ?_); intro v3 w3 ho3 hg3; have S3 := HS2.out.app ho3 hg3; have HS3 : Hid (St w [(w.heap.size + 1, #[.int .i64 0, .slice none 0 0], 31), (w.heap.size, #[.int .i64 count, .slice p data.length c, .slice q ws.length m], 25)] w3 v3 (slotK data ws a k ++ nowN data ws j)) := S3; clear S3 ho3 hg3)
      go_roundw
      case rel =>
        have hj := HJ.out
        subst hj
        have hs3 := HS3.out.eq (slotK_snoc data ws a k).symm
        obtain ⟨q3, c3, rfl, _, _, _⟩ := own_form hs3.own
        refine ⟨k + 1, HK.out, by go_num, ?_, ?_, q3, c3, rfl, hs3⟩
        · intro c hc
          rw [slotK_snoc] at hc
          rcases List.mem_append.1 hc with hc | hc
          · exact HBY.out.1 c hc
          · exact HN.out.2 c hc
        · rw [slotK_snoc, List.length_append, HBY.out.2, HN.out.1]; omega
      case measure => have := HK.out; simp [intOf]; omega
    · obtain rfl : k = 8 := by omega
      have HBX : Hid (slotK data ws a 8 = xs) := HXS.out
      have hst := HST.out
      rw [HXS.out] at hst
      have hKX : KL = xs.length := by rw [← HKL.out, HXS.out]
      subst hKX
      obtain ⟨bq2, bc2, hbe, hbc, hbm, _⟩ := own_form hst.own
      obtain ⟨e1, _, e3⟩ := Value.slice.inj hbe
      subst e1 e3
      clear hbe HKL
      have hby : ∀ c ∈ xs, c < 256 := by rw [← HXS.out]; exact HBY.out.1
      have hrd := rRead_any bq bc xs wr (own_in hst.own hby) hbc hbm
      have HST8 : Hid (St w [(w.heap.size + 1, #[.int .i64 0, .slice none 0 0], 31), (w.heap.size, #[.int .i64 count, .slice p data.length c, .slice q ws.length m], 25)] wr (.slice bq xs.length bc) xs) := hst
      clear hst hbc hbm hby HBX hk8 HST c0 c1 c2
      obtain ⟨L, hLn⟩ : ∃ L, xs.length = L := ⟨_, rfl⟩
      rw [hLn] at hrd ⊢
      clear hLn
      go_wp2_with fail
      refine hrd.mono ?_
      rintro e w4 hpost
      rcases hpost with ⟨x, ls, lv, hdir, hls, rfl, hfo, hb4⟩ | ⟨hno, rfl, hb4⟩
      · obtain ⟨lq, lm, rfl, _, _, _⟩ := hfo.form
        have hm := hdir.1
        have hfin := hfo.files hm hls
        obtain ⟨_, hpl, hgood⟩ := errK_zero hm.pcs
        have bx := below_alloc w4 (.cells #[.int .i64 x.gen, .slice lq ls.length lm] 31)
        have hst4 := HST8.out.call (below_bt hb4 bx)
        have HFIN : Hid (FIn (w4.alloc (.cells #[.int .i64 x.gen, .slice lq ls.length lm] 31)) (.slice lq ls.length lm) x.files) := hfin.below bx
        have HBD : Hid ((w4.alloc (.cells #[.int .i64 x.gen, .slice lq ls.length lm] 31)).heap[w4.heap.size]? = some (.cells #[.int .i64 x.gen, .slice lq ls.length lm] 31 (0, 0))) := heap_alloc_new _ _
        have HRB : Hid ((w4.alloc (.cells #[.int .i64 x.gen, .slice lq ls.length lm] 31)).heap[w.heap.size + 1]? = some (.cells #[.int .i64 0, .slice none 0 0] 31 (0, 0))) := (hst4.box (w.heap.size + 1, #[.int .i64 0, .slice none 0 0], 31) (by simp)).1
        have HDB : Hid ((w4.alloc (.cells #[.int .i64 x.gen, .slice lq ls.length lm] 31)).heap[w.heap.size]? = some (.cells #[.int .i64 count, .slice p data.length c, .slice q ws.length m] 25 (0, 0))) := (hst4.box (w.heap.size, #[.int .i64 count, .slice p data.length c, .slice q ws.length m], 25) (by simp)).1
        have HBW : Hid (Below w.heap.size w (w4.alloc (.cells #[.int .i64 x.gen, .slice lq ls.length lm] 31))) := hst4.bel
        have HDR : Hid (IsDir ltS x xs ∧ ls.map Prod.fst = x.files) := ⟨hdir, hls⟩
        have HB8 : Hid (w.heap.size + 1 < wr.heap.size) := lt_heap (HST8.out.box (w.heap.size + 1, #[.int .i64 0, .slice none 0 0], 31) (by simp)).1
        obtain ⟨B8, hB8⟩ : ∃ B8, wr.heap.size = B8 := ⟨_, rfl⟩
        rw [hB8] at hfo HB8
        have HFO : Hid (FOwn (w4.alloc (.cells #[.int .i64 x.gen, .slice lq ls.length lm] 31)) B8 (.slice lq ls.length lm) ls) := hfo.below bx
        have HPL : Hid ((allPcs x.files).length ≤ 4096) := hpl
        obtain ⟨E, hE⟩ : ∃ E, errK count (allPcs x.files) = E := ⟨_, rfl⟩
        have HE : Hid (errK count (allPcs x.files) = E) := hE
        clear hB8 hdir hls hfo hb4 hm hfin hpl hgood bx hst4 hrd HST8 hE
        go_upto_region 7 with fail
        generalize w4.alloc (.cells #[.int .i64 x.gen, .slice lq ls.length lm] 31) = w5 at *
        generalize w4.heap.size = gX at *
        obtain ⟨gn, hgn⟩ : ∃ gn, x.gen = gn := ⟨_, rfl⟩
        have HGN : Hid (x.gen = gn) := hgn
        rw [hgn] at HBD ⊢
        clear hgn
        have HPC : Hid (∀ w', Below w5.heap.size w5 w' → Calls Tryz.prog 72 #[.agg #[.int .i64 gn, .slice lq ls.length lm]] w' fun e w'' => ∃ r, e = .returned r ∧ POwn w'' w'.heap.size r (allPcs x.files) ∧ Below w'.heap.size w' w'') := fun w' hb => rpieces_any _ x w' ⟨⟨_, by rw [HGN.out], HFIN.out.below hb⟩, by have h1 := HDR.out.1.1.lo; have h2 := HDR.out.1.1.hi; unfold wf64; omega⟩ (by have := HPL.out; omega)
        have HCK : Hid (∀ w' r, PIn w' r (allPcs x.files) → Calls Tryz.prog 105 #[.int .i64 count, r] w' fun e w'' => e = .returned (.int .i64 E) ∧ Below w'.heap.size w' w'') := fun w' r hr => by
          have h := Rm.rcheck_any count r (allPcs x.files) w' hr
          rw [HE.out] at h
          exact h
        have HKS : Hid (∀ w', Below w5.heap.size w5 w' → (w'.cell? ⟨w.heap.size, 0, none⟩ = some (.int .i64 count)) ∧ (w'.cell? ⟨gX, 0, none⟩ = some (.int .i64 gn) ∧ w'.cell? ⟨gX, 1, none⟩ = some (.slice lq ls.length lm)) ∧ Below w5.heap.size w5 w') := fun w' hb => by
          have h1 := (hb.block _ (lt_heap HDB.out)).trans HDB.out
          have h2 := (hb.block _ (lt_heap HBD.out)).trans HBD.out
          exact ⟨Lib.cell_of_heap h1 0, two_cells h2, hb⟩
        go_region_held3 (fun w' => (w'.cell? ⟨w.heap.size, 0, none⟩ = some (.int .i64 count)) ∧ (w'.cell? ⟨gX, 0, none⟩ = some (.int .i64 gn) ∧ w'.cell? ⟨gX, 1, none⟩ = some (.slice lq ls.length lm)) ∧ Below w5.heap.size w5 w')
          (with_reducible first | exact HKS.out _ (Below.refl _ _).drew | exact HKS.out _ (below_dwF hb6) | exact HKS.out _ (below_bt (below_dwF hb6) hb7) | assumption)
          (first
            | (go_at_call 72; refine (HPC.out _ (Below.refl _ _).drew).mono ?_; rintro e w6 ⟨r1, rfl, ho1, hb6⟩)
            | (go_at_call 105; refine (HCK.out _ _ (ho1.pin HFIN.out.wfp)).mono ?_; rintro e w7 ⟨rfl, hb7⟩)
            | fail)
        rename_i hh
        have HB7 : Hid (Below w5.heap.size w5 w7) := hh.2.2
        obtain ⟨x0, x1⟩ := hh.2.1
        have hrb := (HB7.out.block _ (lt_heap HRB.out)).trans HRB.out
        obtain ⟨d0, d1⟩ := two_cells hrb
        have f0 : w7.frozen? ⟨w.heap.size + 1, 0, none⟩ = false := by simp only [World.frozen?, hrb]; rfl
        have f1 : w7.frozen? ⟨w.heap.size + 1, 1, none⟩ = false := by simp only [World.frozen?, hrb]; rfl
        clear hrb hh hb6 hb7 ho1 HPC HCK HKS
        by_cases hE0 : E = 0
        · subst hE0
          go_wp2
          (try simp only [Exit.inBlock, Exit.then])
          refine bodyPost_ret (v := .tuple #[.agg #[.int .i64 gn, .slice lq ls.length lm], .bool true]) ?_ rfl (.inl ⟨x, ls, .slice lq ls.length lm, ⟨HDR.out.1, HE.out⟩, HDR.out.2, by rw [HGN.out], ?_, set2_below (below_bt HBW.out HB7.out) (by omega) _ _⟩)
          · rw [results_cell_tmp rfl]
            go_simp
          · exact ((HFO.out.below HB7.out).set2 HB8.out _ _).mono (by have := HB8.out; omega)
        · have hne : (E != 0) = true := by simpa using hE0
          have HNE : Hid (E ≠ 0) := hE0
          go_wp2
          (try simp only [Exit.inBlock, Exit.then])
          refine bodyPost_ret (v := .tuple #[.agg #[.int .i64 0, .slice none 0 0], .bool false]) ?_ rfl (.inr ⟨fun y hy he => ?_, rfl, set2_below (below_bt HBW.out HB7.out) (by omega) _ _⟩)
          · rw [results_cell_tmp rfl]
            go_simp
          · obtain rfl := isDir_only HDR.out.1 hy
            rw [HE.out] at he
            exact HNE.out he
      · have bx := below_alloc w4 (.cells #[.int .i64 0, .slice none 0 0] 31)
        have hst4 := HST8.out.call (below_bt hb4 bx)
        have hrb := (hst4.box (w.heap.size + 1, #[.int .i64 0, .slice none 0 0], 31) (by simp)).1
        have HRB : Hid ((w4.alloc (.cells #[.int .i64 0, .slice none 0 0] 31)).heap[w.heap.size + 1]? = some (.cells #[.int .i64 0, .slice none 0 0] 31 (0, 0))) := hrb
        have HB4 : Hid (Below w.heap.size w (w4.alloc (.cells #[.int .i64 0, .slice none 0 0] 31))) := hst4.bel
        have HNO : Hid (∀ x, ¬ IsDir ltS x xs) := hno
        clear hst4 hrb hno hb4 bx HST8 hrd
        go_upto_region 7 with fail
        generalize w4.alloc (.cells #[.int .i64 0, .slice none 0 0] 31) = w5 at *
        obtain ⟨d0, d1⟩ := two_cells HRB.out
        have f0 : w5.frozen? ⟨w.heap.size + 1, 0, none⟩ = false := by simp only [World.frozen?, HRB.out]; rfl
        have f1 : w5.frozen? ⟨w.heap.size + 1, 1, none⟩ = false := by simp only [World.frozen?, HRB.out]; rfl
        go_quiet (fail)
        go_wp2
        (try simp only [Exit.inBlock, Exit.then])
        refine bodyPost_ret (v := .tuple #[.agg #[.int .i64 0, .slice none 0 0], .bool false]) ?_ rfl (.inr ⟨fun y hy _ => HNO.out y hy, rfl, set2_below (below_drewN HB4.out _) (by omega) _ _⟩)
        · rw [results_cell_tmp rfl]
          go_simp
end Go.Proofs.YthifpelappedcaaGreatDoor
namespace Go.Proofs.YthifpelappedcaaGreatDoor
open Go.RowKit Go.WideShapes Rm

theorem rheld_some (v : Value) (a : Nat) (count : Int) (data : List Nat) (ws : Puts) (w : World) (hd : DiskIn w v count data ws) (ho : Okay count data ws) (ha : ((a + 8 : Nat) : Int) ≤ count) (hcn : count ≤ 4096) (x : DirV) (hs : SlotR ltS count (slotK data ws a 8) (some x)) :
    Calls Tryz.prog 114 #[v, .int .i64 (a : Int)] w fun e w' => ∃ ls lv, ls.map Prod.fst = x.files ∧ e = .returned (.tuple #[.agg #[.int .i64 x.gen, lv], .bool true]) ∧ FOwn w' w.heap.size lv ls ∧ Below w.heap.size w w' :=
  (rheld_any v a count data ws w hd ho ha hcn _ rfl).mono fun e w' h => by
    rcases h with ⟨y, ls, lv, h1, h2, h3, h4, h5⟩ | ⟨h1, h2, h3⟩
    · obtain rfl := isDir_only hs.1 h1.1
      exact ⟨ls, lv, h2, h3, h4, h5⟩
    · exact absurd hs.2 (h1 x hs.1)
theorem rheld_none (v : Value) (a : Nat) (count : Int) (data : List Nat) (ws : Puts) (w : World) (hd : DiskIn w v count data ws) (ho : Okay count data ws) (ha : ((a + 8 : Nat) : Int) ≤ count) (hcn : count ≤ 4096) (hs : SlotR ltS count (slotK data ws a 8) none) :
    Calls Tryz.prog 114 #[v, .int .i64 (a : Int)] w fun e w' => e = .returned (.tuple #[.agg #[.int .i64 0, .slice none 0 0], .bool false]) ∧ Below w.heap.size w w' :=
  (rheld_any v a count data ws w hd ho ha hcn _ rfl).mono fun e w' h => by
    rcases h with ⟨y, ls, lv, h1, h2, h3, h4, h5⟩ | ⟨h1, h2, h3⟩
    · exact absurd h1.2 (hs y h1.1)
    · exact ⟨h2, h3⟩
def RMountP (w : World) (r : Option (DirV × Int)) (n : Int) (e : Ending) (w' : World) : Prop :=
  match r with
  | some (x, at_) => ∃ ls lv, ls.map Prod.fst = x.files ∧ e = .returned (.tuple #[.agg #[.int .i64 x.gen, lv], .int .i64 at_, .int .i64 n]) ∧ FOwn w' w.heap.size lv ls ∧ Below w.heap.size w w'
  | none => e = .returned (.tuple #[.agg #[.int .i64 0, .slice none 0 0], .int .i64 0, .int .i64 n]) ∧ Below w.heap.size w w'
set_option maxRecDepth 8000 in
set_option maxHeartbeats 8000000 in
theorem rMounted_any (v : Value) (count : Int) (data : List Nat) (ws : Puts) (w : World) (hd : DiskIn w v count data ws) (r : Option (DirV × Int)) (n : Int) (hm : MountIs count data ws r n) :
    Calls Tryz.prog 69 #[v] w fun e w' => RMountP w r n e w' := by
  obtain ⟨p, c, q, m, rfl, _⟩ := hd.parts
  have hb0 : Below w.heap.size w ((w.alloc (.cells #[.int .i64 count, .slice p data.length c, .slice q ws.length m] 25)).alloc (.cells #[.int .i64 0, .slice none 0 0] 31)) := (below_alloc w _).alloc (by simp) _
  have hck := Go.Proofs.YthifpelappedcaaGreatDoor.rcheck_any _ count data ws _ (hd.below hb0)
  have HD : Hid (∀ w', Below w.heap.size w w' → DiskIn w' (.agg #[.int .i64 count, .slice p data.length c, .slice q ws.length m]) count data ws) := fun w' hb => hd.below hb
  have HDB0 : Hid (((w.alloc (.cells #[.int .i64 count, .slice p data.length c, .slice q ws.length m] 25)).alloc (.cells #[.int .i64 0, .slice none 0 0] 31)).heap[w.heap.size]? = some (.cells #[.int .i64 count, .slice p data.length c, .slice q ws.length m] 25 (0, 0))) := ((below_alloc _ _).block _ (by simp)).trans (heap_alloc_new w _)
  have HRB0 : Hid (((w.alloc (.cells #[.int .i64 count, .slice p data.length c, .slice q ws.length m] 25)).alloc (.cells #[.int .i64 0, .slice none 0 0] 31)).heap[w.heap.size + 1]? = some (.cells #[.int .i64 0, .slice none 0 0] 31 (0, 0))) := by
    have h := heap_alloc_new (w.alloc (.cells #[.int .i64 count, .slice p data.length c, .slice q ws.length m] 25)) (.cells #[.int .i64 0, .slice none 0 0] 31)
    rw [heap_size_alloc] at h
    exact h
  clear hd
  rcases hm with ⟨hno, rfl, rfl⟩ | ⟨hok, hc96, rfl, rfl⟩ | ⟨hok, hc96, a, b, ha, hb, hr, hn⟩
  · rw [errC_bad hno] at hck
    go_enter Tryz.func69, Tryz.ntmps69
    go_wp2_with fail
    refine hck.mono ?_
    rintro e w1 ⟨rfl, hb1⟩
    have HB1 : Hid (Below w.heap.size w w1) := below_bt hb0 hb1

    have HDB1 : Hid (w1.heap[w.heap.size]? = some (.cells #[.int .i64 count, .slice p data.length c, .slice q ws.length m] 25 (0, 0))) := (hb1.block _ (lt_heap HDB0.out)).trans HDB0.out
    have HRB1 : Hid (w1.heap[w.heap.size + 1]? = some (.cells #[.int .i64 0, .slice none 0 0] 31 (0, 0))) := (hb1.block _ (lt_heap HRB0.out)).trans HRB0.out

    clear hck hb0 hb1 HDB0 HRB0

    obtain ⟨d0, d1⟩ := two_cells HRB1.out
    have f0 : w1.frozen? ⟨w.heap.size + 1, 0, none⟩ = false := by simp only [World.frozen?, HRB1.out]; rfl
    have f1 : w1.frozen? ⟨w.heap.size + 1, 1, none⟩ = false := by simp only [World.frozen?, HRB1.out]; rfl
    go_wp2
    (try simp only [Exit.inBlock, Exit.then])
    refine bodyPost_ret (v := .tuple #[.agg #[.int .i64 0, .slice none 0 0], .int .i64 0, .int .i64 20]) ?_ rfl (show RMountP _ _ _ _ _ from ⟨rfl, set2_below HB1.out (by omega) _ _⟩)
    rw [results_cell_tmp2 rfl]
    go_simp
  · rw [errC_ok hok] at hck
    clear hok

    go_enter Tryz.func69, Tryz.ntmps69
    go_wp2_with fail
    refine hck.mono ?_
    rintro e w1 ⟨rfl, hb1⟩
    have HB1 : Hid (Below w.heap.size w w1) := below_bt hb0 hb1

    have HDB1 : Hid (w1.heap[w.heap.size]? = some (.cells #[.int .i64 count, .slice p data.length c, .slice q ws.length m] 25 (0, 0))) := (hb1.block _ (lt_heap HDB0.out)).trans HDB0.out
    have HRB1 : Hid (w1.heap[w.heap.size + 1]? = some (.cells #[.int .i64 0, .slice none 0 0] 31 (0, 0))) := (hb1.block _ (lt_heap HRB0.out)).trans HRB0.out

    clear hck hb0 hb1 HDB0 HRB0

    obtain ⟨d0, d1⟩ := two_cells HRB1.out
    have f0 : w1.frozen? ⟨w.heap.size + 1, 0, none⟩ = false := by simp only [World.frozen?, HRB1.out]; rfl
    have f1 : w1.frozen? ⟨w.heap.size + 1, 1, none⟩ = false := by simp only [World.frozen?, HRB1.out]; rfl
    have c0 : w1.cell? ⟨w.heap.size, 0, none⟩ = some (.int .i64 count) := Lib.cell_of_heap HDB1.out 0
    go_wp2
    (try simp only [Exit.inBlock, Exit.then])
    refine bodyPost_ret (v := .tuple #[.agg #[.int .i64 0, .slice none 0 0], .int .i64 0, .int .i64 40]) ?_ rfl (show RMountP _ _ _ _ _ from ⟨rfl, set2_below HB1.out (by omega) _ _⟩)
    rw [results_cell_tmp2 rfl]
    go_simp
  · rw [errC_ok hok] at hck
    have HOK : Hid (Okay count data ws) := hok
    have hcI : count ≤ 4096 := hok.hi
    have HC : Hid (96 ≤ count ∧ count ≤ 4096) := ⟨hc96, hok.hi⟩
    clear hok
    rcases a with _ | x
    · rcases b with _ | y
      · have hr2 : r = none := hr
        subst hr2
        obtain rfl : n = 40 := by simpa using hn
        clear hr hn
        go_enter Tryz.func69, Tryz.ntmps69
        go_wp2_with fail
        refine hck.mono ?_
        rintro e w1 ⟨rfl, hb1⟩
        have HB1 : Hid (Below w.heap.size w w1) := below_bt hb0 hb1

        have HDB1 : Hid (w1.heap[w.heap.size]? = some (.cells #[.int .i64 count, .slice p data.length c, .slice q ws.length m] 25 (0, 0))) := (hb1.block _ (lt_heap HDB0.out)).trans HDB0.out
        have HRB1 : Hid (w1.heap[w.heap.size + 1]? = some (.cells #[.int .i64 0, .slice none 0 0] 31 (0, 0))) := (hb1.block _ (lt_heap HRB0.out)).trans HRB0.out

        clear hck hb0 hb1 HDB0 HRB0
        obtain ⟨c0, c1, c2⟩ := three_cells HDB1.out
        go_wp2_with fail
        refine (rheld_none _ 0 count data ws w1 (HD.out _ HB1.out) HOK.out (by have := HC.out; omega) HC.out.2 ha).mono ?_
        rintro e w2 ⟨rfl, hb2⟩
        have bx2 := below_bt hb2 (below_alloc w2 (.cells #[.int .i64 0, .slice none 0 0] 31))
        have HB2 : Hid (Below w.heap.size w (w2.alloc (.cells #[.int .i64 0, .slice none 0 0] 31))) := below_bt HB1.out bx2
        have HXA : Hid ((w2.alloc (.cells #[.int .i64 0, .slice none 0 0] 31)).heap[w2.heap.size]? = some (.cells #[.int .i64 0, .slice none 0 0] 31 (0, 0))) := heap_alloc_new _ _

        have HDB2 : Hid ((w2.alloc (.cells #[.int .i64 0, .slice none 0 0] 31)).heap[w.heap.size]? = some (.cells #[.int .i64 count, .slice p data.length c, .slice q ws.length m] 25 (0, 0))) := (bx2.block _ (lt_heap HDB1.out)).trans HDB1.out
        have HRB2 : Hid ((w2.alloc (.cells #[.int .i64 0, .slice none 0 0] 31)).heap[w.heap.size + 1]? = some (.cells #[.int .i64 0, .slice none 0 0] 31 (0, 0))) := (bx2.block _ (lt_heap HRB1.out)).trans HRB1.out
        have HZ1 : Hid (w.heap.size + 1 < w1.heap.size) := lt_heap HRB1.out
        clear hb2 bx2 HDB1 HRB1 c0 c1 c2 ha
        obtain ⟨c0, c1, c2⟩ := three_cells HDB2.out
        go_wp2_with fail
        refine (rheld_none _ 8 count data ws (w2.alloc (.cells #[.int .i64 0, .slice none 0 0] 31)) (HD.out _ HB2.out) HOK.out (by have := HC.out; omega) HC.out.2 hb).mono ?_
        rintro e w3 ⟨rfl, hb3⟩
        have bx3 := below_bt hb3 (below_alloc w3 (.cells #[.int .i64 0, .slice none 0 0] 31))
        have HB3 : Hid (Below w.heap.size w (w3.alloc (.cells #[.int .i64 0, .slice none 0 0] 31))) := below_bt HB2.out bx3
        have HXB : Hid ((w3.alloc (.cells #[.int .i64 0, .slice none 0 0] 31)).heap[w3.heap.size]? = some (.cells #[.int .i64 0, .slice none 0 0] 31 (0, 0))) := heap_alloc_new _ _
        have HXA3 : Hid ((w3.alloc (.cells #[.int .i64 0, .slice none 0 0] 31)).heap[w2.heap.size]? = some (.cells #[.int .i64 0, .slice none 0 0] 31 (0, 0))) := (bx3.block _ (lt_heap HXA.out)).trans HXA.out

        have HDB3 : Hid ((w3.alloc (.cells #[.int .i64 0, .slice none 0 0] 31)).heap[w.heap.size]? = some (.cells #[.int .i64 count, .slice p data.length c, .slice q ws.length m] 25 (0, 0))) := (bx3.block _ (lt_heap HDB2.out)).trans HDB2.out
        have HRB3 : Hid ((w3.alloc (.cells #[.int .i64 0, .slice none 0 0] 31)).heap[w.heap.size + 1]? = some (.cells #[.int .i64 0, .slice none 0 0] 31 (0, 0))) := (bx3.block _ (lt_heap HRB2.out)).trans HRB2.out
        clear hb3 bx3 HXA HDB2 HRB2 c0 c1 c2 hb
        obtain ⟨a0, a1⟩ := two_cells HXA3.out
        obtain ⟨b0, b1⟩ := two_cells HXB.out

        obtain ⟨d0, d1⟩ := two_cells HRB3.out
        have f0 : (w3.alloc (.cells #[.int .i64 0, .slice none 0 0] 31)).frozen? ⟨w.heap.size + 1, 0, none⟩ = false := by simp only [World.frozen?, HRB3.out]; rfl
        have f1 : (w3.alloc (.cells #[.int .i64 0, .slice none 0 0] 31)).frozen? ⟨w.heap.size + 1, 1, none⟩ = false := by simp only [World.frozen?, HRB3.out]; rfl
        go_upto_region 8 with fail
        generalize (w3.alloc (.cells #[.int .i64 0, .slice none 0 0] 31)) = w4 at *
        generalize w2.heap.size = gA at *
        generalize w3.heap.size = gB at *
        go_wp2
        (try simp only [Exit.inBlock, Exit.then])
        refine bodyPost_ret (v := .tuple #[.agg #[.int .i64 0, .slice none 0 0], .int .i64 0, .int .i64 40]) ?_ rfl (show RMountP w none 40 _ _ from ⟨rfl, set2_below HB3.out (by omega) _ _⟩)
        rw [results_cell_tmp2 rfl]
        go_simp
      · have HMR : Hid (mountR none (some y) = some (y, 8)) := rfl
        have hr2 : r = some (y, 8) := hr.trans HMR.out
        subst hr2
        obtain rfl : n = 0 := by simpa using hn
        clear hr hn HMR
        go_enter Tryz.func69, Tryz.ntmps69
        go_wp2_with fail
        refine hck.mono ?_
        rintro e w1 ⟨rfl, hb1⟩
        have HB1 : Hid (Below w.heap.size w w1) := below_bt hb0 hb1

        have HDB1 : Hid (w1.heap[w.heap.size]? = some (.cells #[.int .i64 count, .slice p data.length c, .slice q ws.length m] 25 (0, 0))) := (hb1.block _ (lt_heap HDB0.out)).trans HDB0.out
        have HRB1 : Hid (w1.heap[w.heap.size + 1]? = some (.cells #[.int .i64 0, .slice none 0 0] 31 (0, 0))) := (hb1.block _ (lt_heap HRB0.out)).trans HRB0.out

        clear hck hb0 hb1 HDB0 HRB0
        obtain ⟨c0, c1, c2⟩ := three_cells HDB1.out
        go_wp2_with fail
        refine (rheld_none _ 0 count data ws w1 (HD.out _ HB1.out) HOK.out (by have := HC.out; omega) HC.out.2 ha).mono ?_
        rintro e w2 ⟨rfl, hb2⟩
        have bx2 := below_bt hb2 (below_alloc w2 (.cells #[.int .i64 0, .slice none 0 0] 31))
        have HB2 : Hid (Below w.heap.size w (w2.alloc (.cells #[.int .i64 0, .slice none 0 0] 31))) := below_bt HB1.out bx2
        have HXA : Hid ((w2.alloc (.cells #[.int .i64 0, .slice none 0 0] 31)).heap[w2.heap.size]? = some (.cells #[.int .i64 0, .slice none 0 0] 31 (0, 0))) := heap_alloc_new _ _

        have HDB2 : Hid ((w2.alloc (.cells #[.int .i64 0, .slice none 0 0] 31)).heap[w.heap.size]? = some (.cells #[.int .i64 count, .slice p data.length c, .slice q ws.length m] 25 (0, 0))) := (bx2.block _ (lt_heap HDB1.out)).trans HDB1.out
        have HRB2 : Hid ((w2.alloc (.cells #[.int .i64 0, .slice none 0 0] 31)).heap[w.heap.size + 1]? = some (.cells #[.int .i64 0, .slice none 0 0] 31 (0, 0))) := (bx2.block _ (lt_heap HRB1.out)).trans HRB1.out
        have HZ1 : Hid (w.heap.size + 1 < w1.heap.size) := lt_heap HRB1.out
        clear hb2 bx2 HDB1 HRB1 c0 c1 c2 ha
        obtain ⟨c0, c1, c2⟩ := three_cells HDB2.out
        go_wp2_with fail
        refine (rheld_some _ 8 count data ws (w2.alloc (.cells #[.int .i64 0, .slice none 0 0] 31)) (HD.out _ HB2.out) HOK.out (by have := HC.out; omega) HC.out.2 y hb).mono ?_
        rintro e w3 ⟨lb, vb, hlb, rfl, hfb, hb3⟩
        obtain ⟨bq, bm, rfl, _, _, _⟩ := hfb.form
        have bx3 := below_bt hb3 (below_alloc w3 (.cells #[.int .i64 y.gen, .slice bq lb.length bm] 31))
        have HB3 : Hid (Below w.heap.size w (w3.alloc (.cells #[.int .i64 y.gen, .slice bq lb.length bm] 31))) := below_bt HB2.out bx3
        have HXB : Hid ((w3.alloc (.cells #[.int .i64 y.gen, .slice bq lb.length bm] 31)).heap[w3.heap.size]? = some (.cells #[.int .i64 y.gen, .slice bq lb.length bm] 31 (0, 0))) := heap_alloc_new _ _
        have HXA3 : Hid ((w3.alloc (.cells #[.int .i64 y.gen, .slice bq lb.length bm] 31)).heap[w2.heap.size]? = some (.cells #[.int .i64 0, .slice none 0 0] 31 (0, 0))) := (bx3.block _ (lt_heap HXA.out)).trans HXA.out

        have HDB3 : Hid ((w3.alloc (.cells #[.int .i64 y.gen, .slice bq lb.length bm] 31)).heap[w.heap.size]? = some (.cells #[.int .i64 count, .slice p data.length c, .slice q ws.length m] 25 (0, 0))) := (bx3.block _ (lt_heap HDB2.out)).trans HDB2.out
        have HRB3 : Hid ((w3.alloc (.cells #[.int .i64 y.gen, .slice bq lb.length bm] 31)).heap[w.heap.size + 1]? = some (.cells #[.int .i64 0, .slice none 0 0] 31 (0, 0))) := (bx3.block _ (lt_heap HRB2.out)).trans HRB2.out
        have HFB : Hid (FOwn (w3.alloc (.cells #[.int .i64 y.gen, .slice bq lb.length bm] 31)) (w2.alloc (.cells #[.int .i64 0, .slice none 0 0] 31)).heap.size (.slice bq lb.length bm) lb ∧ lb.map Prod.fst = y.files) := ⟨hfb.below (below_alloc _ _), hlb⟩
        have HZB : Hid (w.heap.size + 1 < (w2.alloc (.cells #[.int .i64 0, .slice none 0 0] 31)).heap.size) := lt_heap HRB2.out
        clear hb3 bx3 HXA HDB2 HRB2 c0 c1 c2 hb hfb hlb
        obtain ⟨a0, a1⟩ := two_cells HXA3.out
        obtain ⟨b0, b1⟩ := two_cells HXB.out

        obtain ⟨d0, d1⟩ := two_cells HRB3.out
        have f0 : (w3.alloc (.cells #[.int .i64 y.gen, .slice bq lb.length bm] 31)).frozen? ⟨w.heap.size + 1, 0, none⟩ = false := by simp only [World.frozen?, HRB3.out]; rfl
        have f1 : (w3.alloc (.cells #[.int .i64 y.gen, .slice bq lb.length bm] 31)).frozen? ⟨w.heap.size + 1, 1, none⟩ = false := by simp only [World.frozen?, HRB3.out]; rfl
        go_upto_region 8 with fail
        generalize (w3.alloc (.cells #[.int .i64 y.gen, .slice bq lb.length bm] 31)) = w4 at *
        generalize w2.heap.size = gA at *
        generalize w3.heap.size = gB at *
        generalize (w2.alloc (.cells #[.int .i64 0, .slice none 0 0] 31)).heap.size = zB at *
        obtain ⟨gy, hgy⟩ : ∃ gy, y.gen = gy := ⟨_, rfl⟩
        have HGY : Hid (y.gen = gy) := hgy
        rw [hgy] at b0 ⊢
        go_wp2
        (try simp only [Exit.inBlock, Exit.then])
        refine bodyPost_ret (v := .tuple #[.agg #[.int .i64 gy, .slice bq lb.length bm], .int .i64 8, .int .i64 0]) ?_ rfl ?_
        · rw [results_cell_tmp2 rfl]
          go_simp
        · exact (show RMountP w (some (y, 8)) 0 _ _ from ⟨lb, .slice bq lb.length bm, HFB.out.2, by rw [HGY.out], (HFB.out.1.set2 HZB.out _ _).mono (by have := HZB.out; omega), set2_below HB3.out (by omega) _ _⟩)
    · rcases b with _ | y
      · have HMR : Hid (mountR (some x) none = some (x, 0)) := rfl
        have hr2 : r = some (x, 0) := hr.trans HMR.out
        subst hr2
        obtain rfl : n = 0 := by simpa using hn
        clear hr hn HMR
        go_enter Tryz.func69, Tryz.ntmps69
        go_wp2_with fail
        refine hck.mono ?_
        rintro e w1 ⟨rfl, hb1⟩
        have HB1 : Hid (Below w.heap.size w w1) := below_bt hb0 hb1

        have HDB1 : Hid (w1.heap[w.heap.size]? = some (.cells #[.int .i64 count, .slice p data.length c, .slice q ws.length m] 25 (0, 0))) := (hb1.block _ (lt_heap HDB0.out)).trans HDB0.out
        have HRB1 : Hid (w1.heap[w.heap.size + 1]? = some (.cells #[.int .i64 0, .slice none 0 0] 31 (0, 0))) := (hb1.block _ (lt_heap HRB0.out)).trans HRB0.out

        clear hck hb0 hb1 HDB0 HRB0
        obtain ⟨c0, c1, c2⟩ := three_cells HDB1.out
        go_wp2_with fail
        refine (rheld_some _ 0 count data ws w1 (HD.out _ HB1.out) HOK.out (by have := HC.out; omega) HC.out.2 x ha).mono ?_
        rintro e w2 ⟨la, va, hla, rfl, hfa, hb2⟩
        obtain ⟨aq, am, rfl, _, _, _⟩ := hfa.form
        have bx2 := below_bt hb2 (below_alloc w2 (.cells #[.int .i64 x.gen, .slice aq la.length am] 31))
        have HB2 : Hid (Below w.heap.size w (w2.alloc (.cells #[.int .i64 x.gen, .slice aq la.length am] 31))) := below_bt HB1.out bx2
        have HXA : Hid ((w2.alloc (.cells #[.int .i64 x.gen, .slice aq la.length am] 31)).heap[w2.heap.size]? = some (.cells #[.int .i64 x.gen, .slice aq la.length am] 31 (0, 0))) := heap_alloc_new _ _

        have HDB2 : Hid ((w2.alloc (.cells #[.int .i64 x.gen, .slice aq la.length am] 31)).heap[w.heap.size]? = some (.cells #[.int .i64 count, .slice p data.length c, .slice q ws.length m] 25 (0, 0))) := (bx2.block _ (lt_heap HDB1.out)).trans HDB1.out
        have HRB2 : Hid ((w2.alloc (.cells #[.int .i64 x.gen, .slice aq la.length am] 31)).heap[w.heap.size + 1]? = some (.cells #[.int .i64 0, .slice none 0 0] 31 (0, 0))) := (bx2.block _ (lt_heap HRB1.out)).trans HRB1.out
        have HFA : Hid (FOwn (w2.alloc (.cells #[.int .i64 x.gen, .slice aq la.length am] 31)) w1.heap.size (.slice aq la.length am) la ∧ la.map Prod.fst = x.files) := ⟨hfa.below (below_alloc _ _), hla⟩
        have HZ1 : Hid (w.heap.size + 1 < w1.heap.size) := lt_heap HRB1.out
        clear hb2 bx2 HDB1 HRB1 c0 c1 c2 ha hfa hla
        obtain ⟨c0, c1, c2⟩ := three_cells HDB2.out
        go_wp2_with fail
        refine (rheld_none _ 8 count data ws (w2.alloc (.cells #[.int .i64 x.gen, .slice aq la.length am] 31)) (HD.out _ HB2.out) HOK.out (by have := HC.out; omega) HC.out.2 hb).mono ?_
        rintro e w3 ⟨rfl, hb3⟩
        have bx3 := below_bt hb3 (below_alloc w3 (.cells #[.int .i64 0, .slice none 0 0] 31))
        have HB3 : Hid (Below w.heap.size w (w3.alloc (.cells #[.int .i64 0, .slice none 0 0] 31))) := below_bt HB2.out bx3
        have HXB : Hid ((w3.alloc (.cells #[.int .i64 0, .slice none 0 0] 31)).heap[w3.heap.size]? = some (.cells #[.int .i64 0, .slice none 0 0] 31 (0, 0))) := heap_alloc_new _ _
        have HXA3 : Hid ((w3.alloc (.cells #[.int .i64 0, .slice none 0 0] 31)).heap[w2.heap.size]? = some (.cells #[.int .i64 x.gen, .slice aq la.length am] 31 (0, 0))) := (bx3.block _ (lt_heap HXA.out)).trans HXA.out

        have HDB3 : Hid ((w3.alloc (.cells #[.int .i64 0, .slice none 0 0] 31)).heap[w.heap.size]? = some (.cells #[.int .i64 count, .slice p data.length c, .slice q ws.length m] 25 (0, 0))) := (bx3.block _ (lt_heap HDB2.out)).trans HDB2.out
        have HRB3 : Hid ((w3.alloc (.cells #[.int .i64 0, .slice none 0 0] 31)).heap[w.heap.size + 1]? = some (.cells #[.int .i64 0, .slice none 0 0] 31 (0, 0))) := (bx3.block _ (lt_heap HRB2.out)).trans HRB2.out
        have HFA3 : Hid (FOwn (w3.alloc (.cells #[.int .i64 0, .slice none 0 0] 31)) w1.heap.size (.slice aq la.length am) la) := HFA.out.1.below bx3
        clear hb3 bx3 HXA HDB2 HRB2 c0 c1 c2 hb
        obtain ⟨a0, a1⟩ := two_cells HXA3.out
        obtain ⟨b0, b1⟩ := two_cells HXB.out

        obtain ⟨d0, d1⟩ := two_cells HRB3.out
        have f0 : (w3.alloc (.cells #[.int .i64 0, .slice none 0 0] 31)).frozen? ⟨w.heap.size + 1, 0, none⟩ = false := by simp only [World.frozen?, HRB3.out]; rfl
        have f1 : (w3.alloc (.cells #[.int .i64 0, .slice none 0 0] 31)).frozen? ⟨w.heap.size + 1, 1, none⟩ = false := by simp only [World.frozen?, HRB3.out]; rfl
        go_upto_region 8 with fail
        generalize (w3.alloc (.cells #[.int .i64 0, .slice none 0 0] 31)) = w4 at *
        generalize w2.heap.size = gA at *
        generalize w3.heap.size = gB at *
        obtain ⟨gx, hgx⟩ : ∃ gx, x.gen = gx := ⟨_, rfl⟩
        have HGX : Hid (x.gen = gx) := hgx
        rw [hgx] at a0 ⊢
        go_wp2
        (try simp only [Exit.inBlock, Exit.then])
        refine bodyPost_ret (v := .tuple #[.agg #[.int .i64 gx, .slice aq la.length am], .int .i64 0, .int .i64 0]) ?_ rfl ?_
        · rw [results_cell_tmp2 rfl]
          go_simp
        · exact (show RMountP w (some (x, 0)) 0 _ _ from ⟨la, .slice aq la.length am, HFA.out.2, by rw [HGX.out], (HFA3.out.set2 HZ1.out _ _).mono (by have := HZ1.out; omega), set2_below HB3.out (by omega) _ _⟩)
      · by_cases hcmp : x.gen < y.gen
        · have HMR : Hid (mountR (some x) (some y) = some (y, 8)) := by show (if x.gen < y.gen then _ else _) = _; rw [if_pos hcmp]
          have hr2 : r = some (y, 8) := hr.trans HMR.out
          subst hr2
          obtain rfl : n = 0 := by simpa using hn
          clear hr hn HMR
          go_enter Tryz.func69, Tryz.ntmps69
          go_wp2_with fail
          refine hck.mono ?_
          rintro e w1 ⟨rfl, hb1⟩
          have HB1 : Hid (Below w.heap.size w w1) := below_bt hb0 hb1

          have HDB1 : Hid (w1.heap[w.heap.size]? = some (.cells #[.int .i64 count, .slice p data.length c, .slice q ws.length m] 25 (0, 0))) := (hb1.block _ (lt_heap HDB0.out)).trans HDB0.out
          have HRB1 : Hid (w1.heap[w.heap.size + 1]? = some (.cells #[.int .i64 0, .slice none 0 0] 31 (0, 0))) := (hb1.block _ (lt_heap HRB0.out)).trans HRB0.out

          clear hck hb0 hb1 HDB0 HRB0
          obtain ⟨c0, c1, c2⟩ := three_cells HDB1.out
          go_wp2_with fail
          refine (rheld_some _ 0 count data ws w1 (HD.out _ HB1.out) HOK.out (by have := HC.out; omega) HC.out.2 x ha).mono ?_
          rintro e w2 ⟨la, va, hla, rfl, hfa, hb2⟩
          obtain ⟨aq, am, rfl, _, _, _⟩ := hfa.form
          have bx2 := below_bt hb2 (below_alloc w2 (.cells #[.int .i64 x.gen, .slice aq la.length am] 31))
          have HB2 : Hid (Below w.heap.size w (w2.alloc (.cells #[.int .i64 x.gen, .slice aq la.length am] 31))) := below_bt HB1.out bx2
          have HXA : Hid ((w2.alloc (.cells #[.int .i64 x.gen, .slice aq la.length am] 31)).heap[w2.heap.size]? = some (.cells #[.int .i64 x.gen, .slice aq la.length am] 31 (0, 0))) := heap_alloc_new _ _

          have HDB2 : Hid ((w2.alloc (.cells #[.int .i64 x.gen, .slice aq la.length am] 31)).heap[w.heap.size]? = some (.cells #[.int .i64 count, .slice p data.length c, .slice q ws.length m] 25 (0, 0))) := (bx2.block _ (lt_heap HDB1.out)).trans HDB1.out
          have HRB2 : Hid ((w2.alloc (.cells #[.int .i64 x.gen, .slice aq la.length am] 31)).heap[w.heap.size + 1]? = some (.cells #[.int .i64 0, .slice none 0 0] 31 (0, 0))) := (bx2.block _ (lt_heap HRB1.out)).trans HRB1.out
          have HFA : Hid (FOwn (w2.alloc (.cells #[.int .i64 x.gen, .slice aq la.length am] 31)) w1.heap.size (.slice aq la.length am) la ∧ la.map Prod.fst = x.files) := ⟨hfa.below (below_alloc _ _), hla⟩
          have HZ1 : Hid (w.heap.size + 1 < w1.heap.size) := lt_heap HRB1.out
          clear hb2 bx2 HDB1 HRB1 c0 c1 c2 ha hfa hla
          obtain ⟨c0, c1, c2⟩ := three_cells HDB2.out
          go_wp2_with fail
          refine (rheld_some _ 8 count data ws (w2.alloc (.cells #[.int .i64 x.gen, .slice aq la.length am] 31)) (HD.out _ HB2.out) HOK.out (by have := HC.out; omega) HC.out.2 y hb).mono ?_
          rintro e w3 ⟨lb, vb, hlb, rfl, hfb, hb3⟩
          obtain ⟨bq, bm, rfl, _, _, _⟩ := hfb.form
          have bx3 := below_bt hb3 (below_alloc w3 (.cells #[.int .i64 y.gen, .slice bq lb.length bm] 31))
          have HB3 : Hid (Below w.heap.size w (w3.alloc (.cells #[.int .i64 y.gen, .slice bq lb.length bm] 31))) := below_bt HB2.out bx3
          have HXB : Hid ((w3.alloc (.cells #[.int .i64 y.gen, .slice bq lb.length bm] 31)).heap[w3.heap.size]? = some (.cells #[.int .i64 y.gen, .slice bq lb.length bm] 31 (0, 0))) := heap_alloc_new _ _
          have HXA3 : Hid ((w3.alloc (.cells #[.int .i64 y.gen, .slice bq lb.length bm] 31)).heap[w2.heap.size]? = some (.cells #[.int .i64 x.gen, .slice aq la.length am] 31 (0, 0))) := (bx3.block _ (lt_heap HXA.out)).trans HXA.out

          have HDB3 : Hid ((w3.alloc (.cells #[.int .i64 y.gen, .slice bq lb.length bm] 31)).heap[w.heap.size]? = some (.cells #[.int .i64 count, .slice p data.length c, .slice q ws.length m] 25 (0, 0))) := (bx3.block _ (lt_heap HDB2.out)).trans HDB2.out
          have HRB3 : Hid ((w3.alloc (.cells #[.int .i64 y.gen, .slice bq lb.length bm] 31)).heap[w.heap.size + 1]? = some (.cells #[.int .i64 0, .slice none 0 0] 31 (0, 0))) := (bx3.block _ (lt_heap HRB2.out)).trans HRB2.out
          have HFA3 : Hid (FOwn (w3.alloc (.cells #[.int .i64 y.gen, .slice bq lb.length bm] 31)) w1.heap.size (.slice aq la.length am) la) := HFA.out.1.below bx3
          have HFB : Hid (FOwn (w3.alloc (.cells #[.int .i64 y.gen, .slice bq lb.length bm] 31)) (w2.alloc (.cells #[.int .i64 x.gen, .slice aq la.length am] 31)).heap.size (.slice bq lb.length bm) lb ∧ lb.map Prod.fst = y.files) := ⟨hfb.below (below_alloc _ _), hlb⟩
          have HZB : Hid (w.heap.size + 1 < (w2.alloc (.cells #[.int .i64 x.gen, .slice aq la.length am] 31)).heap.size) := lt_heap HRB2.out
          clear hb3 bx3 HXA HDB2 HRB2 c0 c1 c2 hb hfb hlb
          obtain ⟨a0, a1⟩ := two_cells HXA3.out
          obtain ⟨b0, b1⟩ := two_cells HXB.out

          obtain ⟨d0, d1⟩ := two_cells HRB3.out
          have f0 : (w3.alloc (.cells #[.int .i64 y.gen, .slice bq lb.length bm] 31)).frozen? ⟨w.heap.size + 1, 0, none⟩ = false := by simp only [World.frozen?, HRB3.out]; rfl
          have f1 : (w3.alloc (.cells #[.int .i64 y.gen, .slice bq lb.length bm] 31)).frozen? ⟨w.heap.size + 1, 1, none⟩ = false := by simp only [World.frozen?, HRB3.out]; rfl
          go_upto_region 8 with fail
          generalize (w3.alloc (.cells #[.int .i64 y.gen, .slice bq lb.length bm] 31)) = w4 at *
          generalize w2.heap.size = gA at *
          generalize w3.heap.size = gB at *
          generalize (w2.alloc (.cells #[.int .i64 x.gen, .slice aq la.length am] 31)).heap.size = zB at *
          obtain ⟨gx, hgx⟩ : ∃ gx, x.gen = gx := ⟨_, rfl⟩
          have HGX : Hid (x.gen = gx) := hgx
          rw [hgx] at a0 ⊢
          obtain ⟨gy, hgy⟩ : ∃ gy, y.gen = gy := ⟨_, rfl⟩
          have HGY : Hid (y.gen = gy) := hgy
          rw [hgy] at b0 ⊢
          rw [hgx, hgy] at hcmp
          have hge : ¬ gy ≤ gx := by omega
          have hgd : decide (gy ≤ gx) = false := by simpa using hge
          go_wp2
          (try simp only [Exit.inBlock, Exit.then])
          refine bodyPost_ret (v := .tuple #[.agg #[.int .i64 gy, .slice bq lb.length bm], .int .i64 8, .int .i64 0]) ?_ rfl ?_
          · rw [results_cell_tmp2 rfl]
            go_simp
          · exact (show RMountP w (some (y, 8)) 0 _ _ from ⟨lb, .slice bq lb.length bm, HFB.out.2, by rw [HGY.out], (HFB.out.1.set2 HZB.out _ _).mono (by have := HZB.out; omega), set2_below HB3.out (by omega) _ _⟩)
        · have HMR : Hid (mountR (some x) (some y) = some (x, 0)) := by show (if x.gen < y.gen then _ else _) = _; rw [if_neg hcmp]
          have hr2 : r = some (x, 0) := hr.trans HMR.out
          subst hr2
          obtain rfl : n = 0 := by simpa using hn
          clear hr hn HMR
          go_enter Tryz.func69, Tryz.ntmps69
          go_wp2_with fail
          refine hck.mono ?_
          rintro e w1 ⟨rfl, hb1⟩
          have HB1 : Hid (Below w.heap.size w w1) := below_bt hb0 hb1

          have HDB1 : Hid (w1.heap[w.heap.size]? = some (.cells #[.int .i64 count, .slice p data.length c, .slice q ws.length m] 25 (0, 0))) := (hb1.block _ (lt_heap HDB0.out)).trans HDB0.out
          have HRB1 : Hid (w1.heap[w.heap.size + 1]? = some (.cells #[.int .i64 0, .slice none 0 0] 31 (0, 0))) := (hb1.block _ (lt_heap HRB0.out)).trans HRB0.out

          clear hck hb0 hb1 HDB0 HRB0
          obtain ⟨c0, c1, c2⟩ := three_cells HDB1.out
          go_wp2_with fail
          refine (rheld_some _ 0 count data ws w1 (HD.out _ HB1.out) HOK.out (by have := HC.out; omega) HC.out.2 x ha).mono ?_
          rintro e w2 ⟨la, va, hla, rfl, hfa, hb2⟩
          obtain ⟨aq, am, rfl, _, _, _⟩ := hfa.form
          have bx2 := below_bt hb2 (below_alloc w2 (.cells #[.int .i64 x.gen, .slice aq la.length am] 31))
          have HB2 : Hid (Below w.heap.size w (w2.alloc (.cells #[.int .i64 x.gen, .slice aq la.length am] 31))) := below_bt HB1.out bx2
          have HXA : Hid ((w2.alloc (.cells #[.int .i64 x.gen, .slice aq la.length am] 31)).heap[w2.heap.size]? = some (.cells #[.int .i64 x.gen, .slice aq la.length am] 31 (0, 0))) := heap_alloc_new _ _

          have HDB2 : Hid ((w2.alloc (.cells #[.int .i64 x.gen, .slice aq la.length am] 31)).heap[w.heap.size]? = some (.cells #[.int .i64 count, .slice p data.length c, .slice q ws.length m] 25 (0, 0))) := (bx2.block _ (lt_heap HDB1.out)).trans HDB1.out
          have HRB2 : Hid ((w2.alloc (.cells #[.int .i64 x.gen, .slice aq la.length am] 31)).heap[w.heap.size + 1]? = some (.cells #[.int .i64 0, .slice none 0 0] 31 (0, 0))) := (bx2.block _ (lt_heap HRB1.out)).trans HRB1.out
          have HFA : Hid (FOwn (w2.alloc (.cells #[.int .i64 x.gen, .slice aq la.length am] 31)) w1.heap.size (.slice aq la.length am) la ∧ la.map Prod.fst = x.files) := ⟨hfa.below (below_alloc _ _), hla⟩
          have HZ1 : Hid (w.heap.size + 1 < w1.heap.size) := lt_heap HRB1.out
          clear hb2 bx2 HDB1 HRB1 c0 c1 c2 ha hfa hla
          obtain ⟨c0, c1, c2⟩ := three_cells HDB2.out
          go_wp2_with fail
          refine (rheld_some _ 8 count data ws (w2.alloc (.cells #[.int .i64 x.gen, .slice aq la.length am] 31)) (HD.out _ HB2.out) HOK.out (by have := HC.out; omega) HC.out.2 y hb).mono ?_
          rintro e w3 ⟨lb, vb, hlb, rfl, hfb, hb3⟩
          obtain ⟨bq, bm, rfl, _, _, _⟩ := hfb.form
          have bx3 := below_bt hb3 (below_alloc w3 (.cells #[.int .i64 y.gen, .slice bq lb.length bm] 31))
          have HB3 : Hid (Below w.heap.size w (w3.alloc (.cells #[.int .i64 y.gen, .slice bq lb.length bm] 31))) := below_bt HB2.out bx3
          have HXB : Hid ((w3.alloc (.cells #[.int .i64 y.gen, .slice bq lb.length bm] 31)).heap[w3.heap.size]? = some (.cells #[.int .i64 y.gen, .slice bq lb.length bm] 31 (0, 0))) := heap_alloc_new _ _
          have HXA3 : Hid ((w3.alloc (.cells #[.int .i64 y.gen, .slice bq lb.length bm] 31)).heap[w2.heap.size]? = some (.cells #[.int .i64 x.gen, .slice aq la.length am] 31 (0, 0))) := (bx3.block _ (lt_heap HXA.out)).trans HXA.out

          have HDB3 : Hid ((w3.alloc (.cells #[.int .i64 y.gen, .slice bq lb.length bm] 31)).heap[w.heap.size]? = some (.cells #[.int .i64 count, .slice p data.length c, .slice q ws.length m] 25 (0, 0))) := (bx3.block _ (lt_heap HDB2.out)).trans HDB2.out
          have HRB3 : Hid ((w3.alloc (.cells #[.int .i64 y.gen, .slice bq lb.length bm] 31)).heap[w.heap.size + 1]? = some (.cells #[.int .i64 0, .slice none 0 0] 31 (0, 0))) := (bx3.block _ (lt_heap HRB2.out)).trans HRB2.out
          have HFA3 : Hid (FOwn (w3.alloc (.cells #[.int .i64 y.gen, .slice bq lb.length bm] 31)) w1.heap.size (.slice aq la.length am) la) := HFA.out.1.below bx3
          have HFB : Hid (FOwn (w3.alloc (.cells #[.int .i64 y.gen, .slice bq lb.length bm] 31)) (w2.alloc (.cells #[.int .i64 x.gen, .slice aq la.length am] 31)).heap.size (.slice bq lb.length bm) lb ∧ lb.map Prod.fst = y.files) := ⟨hfb.below (below_alloc _ _), hlb⟩
          have HZB : Hid (w.heap.size + 1 < (w2.alloc (.cells #[.int .i64 x.gen, .slice aq la.length am] 31)).heap.size) := lt_heap HRB2.out
          clear hb3 bx3 HXA HDB2 HRB2 c0 c1 c2 hb hfb hlb
          obtain ⟨a0, a1⟩ := two_cells HXA3.out
          obtain ⟨b0, b1⟩ := two_cells HXB.out

          obtain ⟨d0, d1⟩ := two_cells HRB3.out
          have f0 : (w3.alloc (.cells #[.int .i64 y.gen, .slice bq lb.length bm] 31)).frozen? ⟨w.heap.size + 1, 0, none⟩ = false := by simp only [World.frozen?, HRB3.out]; rfl
          have f1 : (w3.alloc (.cells #[.int .i64 y.gen, .slice bq lb.length bm] 31)).frozen? ⟨w.heap.size + 1, 1, none⟩ = false := by simp only [World.frozen?, HRB3.out]; rfl
          go_upto_region 8 with fail
          generalize (w3.alloc (.cells #[.int .i64 y.gen, .slice bq lb.length bm] 31)) = w4 at *
          generalize w2.heap.size = gA at *
          generalize w3.heap.size = gB at *
          generalize (w2.alloc (.cells #[.int .i64 x.gen, .slice aq la.length am] 31)).heap.size = zB at *
          obtain ⟨gx, hgx⟩ : ∃ gx, x.gen = gx := ⟨_, rfl⟩
          have HGX : Hid (x.gen = gx) := hgx
          rw [hgx] at a0 ⊢
          obtain ⟨gy, hgy⟩ : ∃ gy, y.gen = gy := ⟨_, rfl⟩
          have HGY : Hid (y.gen = gy) := hgy
          rw [hgy] at b0 ⊢
          rw [hgx, hgy] at hcmp
          have hge : gy ≤ gx := by omega
          have hgd : decide (gy ≤ gx) = true := by simpa using hge
          go_wp2
          (try simp only [Exit.inBlock, Exit.then])
          refine bodyPost_ret (v := .tuple #[.agg #[.int .i64 gx, .slice aq la.length am], .int .i64 0, .int .i64 0]) ?_ rfl ?_
          · rw [results_cell_tmp2 rfl]
            go_simp
          · exact (show RMountP w (some (x, 0)) 0 _ _ from ⟨la, .slice aq la.length am, HFA.out.2, by rw [HGX.out], (HFA3.out.set2 HZ1.out _ _).mono (by have := HZ1.out; omega), set2_below HB3.out (by omega) _ _⟩)
end Go.Proofs.YthifpelappedcaaGreatDoor
namespace Go.Proofs.YthifpelappedcaaGreatDoor
open Go.RowKit Go.WideShapes Rm

theorem beq_ba (a b : ByteArray) : (a == b) = decide (a = b) := by
  rcases a with ⟨x⟩
  rcases b with ⟨y⟩
  show (x == y) = _
  by_cases h : x = y <;> simp [h]
theorem eq_strF (x y : ByteArray) : (x.toList == y.toList) = decide (x = y) := by
  by_cases h : x = y
  · simp [h]
  · have : x.toList ≠ y.toList := fun e => h (by
      rw [ByteArray.toList_eq, ByteArray.toList_eq] at e
      rcases x with ⟨x⟩; rcases y with ⟨y⟩
      rcases x with ⟨x⟩; rcases y with ⟨y⟩
      simp at e; rw [e])
    simp [h, this]
def findI (l : List FileV) (name : ByteArray) : Int :=
  match findN l name with
  | some k => (k : Int)
  | none => -1
theorem findI_hit {l : List FileV} {name : ByteArray} {k : Nat} (hk : k < l.length) (h1 : (l.getD k zeroF).name = name) (h2 : ∀ j, j < k → (l.getD j zeroF).name ≠ name) : findN l name = some k ∧ findI l name = (k : Int) := by
  have h : findN l name = some k := by
    unfold findN
    rw [List.findIdx?_eq_some_iff_getElem]
    refine ⟨hk, ?_, fun j hj => ?_⟩
    · rw [List.getD_eq_getElem?_getD, List.getElem?_eq_getElem hk] at h1
      simpa [beq_ba] using h1
    · have := h2 j hj
      rw [List.getD_eq_getElem?_getD, List.getElem?_eq_getElem (by omega)] at this
      simpa [beq_ba] using this
  exact ⟨h, by unfold findI; rw [h]⟩
theorem findI_miss {l : List FileV} {name : ByteArray} (h2 : ∀ j, j < l.length → (l.getD j zeroF).name ≠ name) : findN l name = none ∧ findI l name = -1 := by
  have h : findN l name = none := by
    unfold findN
    rw [List.findIdx?_eq_none_iff]
    intro x hx
    obtain ⟨j, hj, rfl⟩ := List.getElem_of_mem hx
    have := h2 j hj
    rw [List.getD_eq_getElem?_getD, List.getElem?_eq_getElem hj] at this
    simpa [beq_ba] using this
  exact ⟨h, by unfold findI; rw [h]⟩
theorem findN_some {l : List FileV} {name : ByteArray} {k : Nat} (h : findN l name = some k) : k < l.length ∧ (l.getD k zeroF).name = name := by
  unfold findN at h
  rw [List.findIdx?_eq_some_iff_getElem] at h
  obtain ⟨hk, h1, _⟩ := h
  refine ⟨hk, ?_⟩
  rw [List.getD_eq_getElem?_getD, List.getElem?_eq_getElem hk]
  simpa [beq_ba] using h1
set_option maxRecDepth 8000 in
set_option maxHeartbeats 2000000 in
theorem index_find (q : Option Addr) (c nb : Nat) (l : List FileV) (name : ByteArray) (w : World) (hq : FilesIn w q l) (hlc : l.length ≤ c) (hcm : c ≤ maxLen) (hn : w.cell? ⟨nb, 0, none⟩ = some (.string name)) :
    Calls Tryz.prog 148 #[.slice q l.length c, .func (.func 149) #[] #[.pointer (some ⟨nb, 0, none⟩)]] w fun e w' => e = .returned (.int .i64 (findI l name)) ∧ Below w.heap.size w w' := by
  unfold maxLen at hcm
  obtain ⟨L, hL⟩ : ∃ L, l.length = L := ⟨_, rfl⟩
  have HL : Hid (l.length = L) := hL
  rw [hL] at hlc ⊢
  clear hL
  have HQ : Hid (FilesIn w q l) := hq
  have HN : Hid (w.cell? ⟨nb, 0, none⟩ = some (.string name)) := hn
  clear hq hn
  go_enter Tryz.func148, Tryz.ntmps148
  go_wp2
  go_loopw [8] (fun i wr => ∃ k : Nat, k ≤ L ∧ i = .int .i64 (k : Int) ∧ (∀ j, j < k → (l.getD j zeroF).name ≠ name) ∧ Below w.heap.size w wr) (fun i _ => L - (intOf i).toNat)
  case atStart => exact ⟨0, by omega, rfl, fun j hj => absurd hj (by omega), Below.refl _ _⟩
  case round =>
    obtain ⟨k, hk, rfl, hz, hbw⟩ := hrel
    have HZ : Hid (∀ j, j < k → (l.getD j zeroF).name ≠ name) := hz
    have HB : Hid (Below w.heap.size w wr) := hbw
    clear hz hbw
    by_cases hkl : k < L
    · have hkI : (k : Int) < (L : Int) := by omega
      have hkl2 : k < l.length := by have := HL.out; omega
      obtain ⟨fb, fo, pv, hfe, y0, y1, y2, hpin⟩ := HQ.out.file hkl2
      subst hfe
      have hb := HB.out
      have z0 := (hb.cell (World.block_lt_of_cell? _ _ y0)).trans y0
      have z1 := (hb.cell (World.block_lt_of_cell? _ _ y1)).trans y1
      have z2 := (hb.cell (World.block_lt_of_cell? _ _ y2)).trans y2
      have zn := (hb.cell (World.block_lt_of_cell? _ _ HN.out)).trans HN.out
      have hnlt : nb < wr.heap.size := World.block_lt_of_cell? _ _ zn
      have hne : nb ≠ wr.heap.size := by omega
      obtain ⟨pq, pc, rfl, _⟩ := hpin.lies
      have HKL : Hid (k < L) := hkl
      have HHIT : Hid ((l.getD k zeroF).name = name → findI l name = (k : Int)) := fun h => (findI_hit hkl2 h HZ.out).2
      have HNEXT : Hid ((l.getD k zeroF).name ≠ name → ∀ j, j < k + 1 → (l.getD j zeroF).name ≠ name) := fun h j hj => by
        rcases Nat.lt_or_ge j k with h' | h'
        · exact HZ.out j h'
        · obtain rfl : j = k := by omega
          exact h
      clear hb y0 y1 y2 hkl hkl2 hk hpin HZ
      generalize l.getD k zeroF = f at *
      obtain ⟨fnm, fsz, fpc⟩ := f
      simp only at z0 z1 z2 HHIT HNEXT
      obtain ⟨PL, hPL⟩ : ∃ PL, fpc.length = PL := ⟨_, rfl⟩
      rw [hPL] at z2
      clear hPL
      by_cases g : fnm = name
      · have HH : Hid (findI l name = (k : Int)) := HHIT.out g
        subst g
        clear HHIT HNEXT
        go_wp2
        go_ret
        exact ⟨by rw [HH.out]; rfl, HB.out.alloc HB.out.size _⟩
      · have HNX : Hid _ := HNEXT.out g
        have hne2 : (fnm.toList == name.toList) = false := by rw [eq_strF]; simpa using g
        clear HHIT HNEXT
        go_wp2
        go_roundw
        case rel => exact ⟨k + 1, HKL.out, by go_num, HNX.out, HB.out.alloc HB.out.size _⟩
        case measure => have := HKL.out; simp [intOf]; omega
    · have hkI : (L : Int) ≤ (k : Int) := by omega
      obtain rfl : k = L := by omega
      have HM : Hid (findI l name = -1) := (findI_miss (fun j hj => HZ.out j (by have := HL.out; omega))).2
      clear HZ hkl
      go_wp2
      go_ret
      exact ⟨by rw [HM.out]; rfl, HB.out⟩
set_option maxRecDepth 8000 in
set_option maxHeartbeats 2000000 in
theorem find_any4 (v : Value) (l : List FileV) (name : ByteArray) (w : World) (hf : FIn w v l) :
    Calls Tryz.prog 120 #[v, .string name] w fun e w' => e = .returned (.int .i64 (findI l name)) ∧ Below w.heap.size w w' := by
  obtain ⟨q, c, rfl, hq, hlc, hcm, _⟩ := hf.lies
  have hmf : ∀ (fn : Fn) (first cap : Array Value) (w : World), (Instr.makeFunc fn first cap).run Tryz.prog w = .ok (.func fn first cap) w := fun _ _ _ _ => rfl
  have hix := index_find q c w.heap.size l name (w.alloc (.cells #[.string name] 9)) (hq.below (below_alloc w _)) hlc hcm (by simp)
  clear hf hq hlc hcm
  obtain ⟨L, hL⟩ : ∃ L, l.length = L := ⟨_, rfl⟩
  rw [hL] at hix ⊢
  clear hL
  go_enter Tryz.func120, Tryz.ntmps120
  go_wp2_with fail
  refine hix.mono ?_
  rintro e w2 ⟨rfl, hb2⟩
  have HB : Hid (Below w.heap.size w w2) := below_bt (below_alloc w _) hb2
  clear hb2 hix
  go_wp2
  go_ret
  exact ⟨rfl, HB.out⟩
set_option maxRecDepth 8000 in
set_option maxHeartbeats 2000000 in
theorem sectors_any4 (name : ByteArray) (size : Int) (v : Value) (l : Pcs) (w : World) (hl : PIn w v l) :
    Calls Tryz.prog 121 #[.agg #[.string name, .int .i64 size, v]] w fun e w' => ∃ q c, e = .returned (.slice q (secsN l).length c) ∧ IOwn w' w.heap.size (.slice q (secsN l).length c) (secsN l) ∧ Below w.heap.size w w' := by
  obtain ⟨q, c, rfl, hq, hlc, hcm, _⟩ := hl.lies
  have hs := Rm.sectors_any _ l (w.alloc (.cells #[.string name, .int .i64 size, .slice q l.length c] 51)) (hl.below (below_alloc w _))
  clear hl hq hlc hcm
  obtain ⟨L, hL⟩ : ∃ L, l.length = L := ⟨_, rfl⟩
  rw [hL] at hs ⊢
  clear hL
  go_enter Tryz.func121, Tryz.ntmps121
  go_wp2_with fail
  refine hs.mono ?_
  rintro e w2 ⟨q2, c2, rfl, ho, hb2⟩
  have HO : Hid (IOwn w2 w.heap.size (.slice q2 (secsN l).length c2) (secsN l)) := IOwn.mono ho (by simp)
  have HB : Hid (Below w.heap.size w w2) := below_bt (below_alloc w _) hb2
  clear hb2 hs ho
  go_wp2
  go_ret
  exact ⟨q2, c2, rfl, HO.out, HB.out⟩
end Go.Proofs.YthifpelappedcaaGreatDoor
namespace Go.Proofs.YthifpelappedcaaGreatDoor
open Go.RowKit Go.WideShapes Rm

def RMtP (w : World) (r : Option (DirV × Int)) (n : Int) (e : Ending) (w' : World) : Prop :=
  match r with
  | some (x, _) => ∃ ls lv, ls.map Prod.fst = x.files ∧ e = .returned (.tuple #[.agg #[.int .i64 x.gen, lv], .int .i64 n]) ∧ FOwn w' w.heap.size lv ls ∧ Below w.heap.size w w'
  | none => e = .returned (.tuple #[.agg #[.int .i64 0, .slice none 0 0], .int .i64 n]) ∧ Below w.heap.size w w'
set_option maxRecDepth 8000 in
set_option maxHeartbeats 4000000 in
theorem rMount_any (v : Value) (count : Int) (data : List Nat) (ws : Puts) (w : World) (hd : DiskIn w v count data ws) (r : Option (DirV × Int)) (n : Int) (hm : MountIs count data ws r n) :
    Calls Tryz.prog 28 #[v] w fun e w' => RMtP w r n e w' := by
  obtain ⟨p, c, q, m, rfl, _⟩ := hd.parts
  have hb0 : Below w.heap.size w ((w.alloc (.cells #[.int .i64 count, .slice p data.length c, .slice q ws.length m] 25)).alloc (.cells #[.int .i64 0, .slice none 0 0] 31)) := (below_alloc w _).alloc (by simp) _
  have hmt := rMounted_any _ count data ws _ (hd.below hb0) r n hm
  have HRB0 : Hid (((w.alloc (.cells #[.int .i64 count, .slice p data.length c, .slice q ws.length m] 25)).alloc (.cells #[.int .i64 0, .slice none 0 0] 31)).heap[w.heap.size + 1]? = some (.cells #[.int .i64 0, .slice none 0 0] 31 (0, 0))) := by
    have h := heap_alloc_new (w.alloc (.cells #[.int .i64 count, .slice p data.length c, .slice q ws.length m] 25)) (.cells #[.int .i64 0, .slice none 0 0] 31)
    rw [heap_size_alloc] at h
    exact h
  have HDB0 : Hid (((w.alloc (.cells #[.int .i64 count, .slice p data.length c, .slice q ws.length m] 25)).alloc (.cells #[.int .i64 0, .slice none 0 0] 31)).heap[w.heap.size]? = some (.cells #[.int .i64 count, .slice p data.length c, .slice q ws.length m] 25 (0, 0))) := ((below_alloc _ _).block _ (by simp)).trans (heap_alloc_new w _)
  obtain ⟨c0, c1, c2⟩ := three_cells HDB0.out
  have HZ : Hid (((w.alloc (.cells #[.int .i64 count, .slice p data.length c, .slice q ws.length m] 25)).alloc (.cells #[.int .i64 0, .slice none 0 0] 31)).heap.size = w.heap.size + 1 + 1) := by show _ = _; simp
  clear hd hm
  rcases r with _ | ⟨x, at_⟩
  · skip
    go_enter Tryz.func28, Tryz.ntmps28
    go_wp2_with fail
    refine hmt.mono ?_
    rintro e w1 ⟨rfl, hb1⟩
    have bx := below_bt hb1 (below_alloc w1 (.cells #[.int .i64 0, .slice none 0 0] 31))
    have HB1 : Hid (Below w.heap.size w (w1.alloc (.cells #[.int .i64 0, .slice none 0 0] 31))) := below_bt hb0 bx
    have HRB : Hid ((w1.alloc (.cells #[.int .i64 0, .slice none 0 0] 31)).heap[w.heap.size + 1]? = some (.cells #[.int .i64 0, .slice none 0 0] 31 (0, 0))) := (bx.block _ (lt_heap HRB0.out)).trans HRB0.out
    have HXB : Hid ((w1.alloc (.cells #[.int .i64 0, .slice none 0 0] 31)).heap[w1.heap.size]? = some (.cells #[.int .i64 0, .slice none 0 0] 31 (0, 0))) := heap_alloc_new _ _
    clear hmt hb0 hb1 bx HRB0 HDB0 c0 c1 c2
    obtain ⟨x0, x1⟩ := two_cells HXB.out
    obtain ⟨d0, d1⟩ := two_cells HRB.out
    have f0 : (w1.alloc (.cells #[.int .i64 0, .slice none 0 0] 31)).frozen? ⟨w.heap.size + 1, 0, none⟩ = false := by simp only [World.frozen?, HRB.out]; rfl
    have f1 : (w1.alloc (.cells #[.int .i64 0, .slice none 0 0] 31)).frozen? ⟨w.heap.size + 1, 1, none⟩ = false := by simp only [World.frozen?, HRB.out]; rfl
    go_upto_region 2 with fail
    generalize (w1.alloc (.cells #[.int .i64 0, .slice none 0 0] 31)) = w4 at *
    generalize w1.heap.size = gA at *
    go_wp2
    (try simp only [Exit.inBlock, Exit.then])
    refine bodyPost_ret (v := .tuple #[.agg #[.int .i64 0, .slice none 0 0], .int .i64 n]) ?_ rfl (show RMtP w none n _ _ from ⟨rfl, set2_below HB1.out (by omega) _ _⟩)
    rw [results_cell_tmp rfl]
    go_simp
  · skip
    go_enter Tryz.func28, Tryz.ntmps28
    go_wp2_with fail
    refine hmt.mono ?_
    rintro e w1 ⟨ls, lv, hls, rfl, hfo, hb1⟩
    obtain ⟨lq, lm, rfl, _, _, _⟩ := hfo.form
    rw [HZ.out] at hfo
    have bx := below_bt hb1 (below_alloc w1 (.cells #[.int .i64 x.gen, .slice lq ls.length lm] 31))
    have HB1 : Hid (Below w.heap.size w (w1.alloc (.cells #[.int .i64 x.gen, .slice lq ls.length lm] 31))) := below_bt hb0 bx
    have HRB : Hid ((w1.alloc (.cells #[.int .i64 x.gen, .slice lq ls.length lm] 31)).heap[w.heap.size + 1]? = some (.cells #[.int .i64 0, .slice none 0 0] 31 (0, 0))) := (bx.block _ (lt_heap HRB0.out)).trans HRB0.out
    have HXB : Hid ((w1.alloc (.cells #[.int .i64 x.gen, .slice lq ls.length lm] 31)).heap[w1.heap.size]? = some (.cells #[.int .i64 x.gen, .slice lq ls.length lm] 31 (0, 0))) := heap_alloc_new _ _
    have HFO : Hid (FOwn (w1.alloc (.cells #[.int .i64 x.gen, .slice lq ls.length lm] 31)) (w.heap.size + 1 + 1) (.slice lq ls.length lm) ls ∧ ls.map Prod.fst = x.files) := ⟨hfo.below (below_alloc _ _), hls⟩
    clear hmt hb0 hb1 bx HRB0 HDB0 c0 c1 c2 hfo hls
    obtain ⟨x0, x1⟩ := two_cells HXB.out
    obtain ⟨d0, d1⟩ := two_cells HRB.out
    have f0 : (w1.alloc (.cells #[.int .i64 x.gen, .slice lq ls.length lm] 31)).frozen? ⟨w.heap.size + 1, 0, none⟩ = false := by simp only [World.frozen?, HRB.out]; rfl
    have f1 : (w1.alloc (.cells #[.int .i64 x.gen, .slice lq ls.length lm] 31)).frozen? ⟨w.heap.size + 1, 1, none⟩ = false := by simp only [World.frozen?, HRB.out]; rfl
    go_upto_region 2 with fail
    generalize (w1.alloc (.cells #[.int .i64 x.gen, .slice lq ls.length lm] 31)) = w4 at *
    generalize w1.heap.size = gA at *
    obtain ⟨gx, hgx⟩ : ∃ gx, x.gen = gx := ⟨_, rfl⟩
    have HGX : Hid (x.gen = gx) := hgx
    rw [hgx] at x0 ⊢
    go_wp2
    (try simp only [Exit.inBlock, Exit.then])
    refine bodyPost_ret (v := .tuple #[.agg #[.int .i64 gx, .slice lq ls.length lm], .int .i64 n]) ?_ rfl (show RMtP w (some (x, at_)) n _ _ from ⟨ls, .slice lq ls.length lm, HFO.out.2, by rw [HGX.out], (HFO.out.1.set2 (by omega) _ _).mono (by omega), set2_below HB1.out (by omega) _ _⟩)
    rw [results_cell_tmp rfl]
    go_simp
set_option maxRecDepth 8000 in
set_option maxHeartbeats 2000000 in
theorem rplace_any (gen : Int) (v : Value) (l : List FileV) (name : ByteArray) (w : World) (hf : FIn w v l) :
    Calls Tryz.prog 81 #[.agg #[.int .i64 gen, v], .string name] w fun e w' => e = .returned (.int .i64 (findI l name)) ∧ Below w.heap.size w w' := by
  obtain ⟨q, c, rfl, hq, hlc, hcm, _⟩ := hf.lies
  unfold maxLen at hcm
  obtain ⟨L, hL⟩ : ∃ L, l.length = L := ⟨_, rfl⟩
  have HL : Hid (l.length = L) := hL
  rw [hL] at hlc ⊢
  clear hL hf
  have HQ : Hid (FilesIn (w.alloc (.cells #[.int .i64 gen, .slice q L c] 31)) q l) := hq.below (below_alloc w _)
  have HB0 : Hid (Below w.heap.size w (w.alloc (.cells #[.int .i64 gen, .slice q L c] 31))) := below_alloc w _
  have HXB : Hid ((w.alloc (.cells #[.int .i64 gen, .slice q L c] 31)).heap[w.heap.size]? = some (.cells #[.int .i64 gen, .slice q L c] 31 (0, 0))) := heap_alloc_new _ _
  clear hq
  go_enter Tryz.func81, Tryz.ntmps81
  go_upto_region 1 with fail
  obtain ⟨x0, x1⟩ := two_cells HXB.out
  generalize w.alloc (.cells #[.int .i64 gen, .slice q L c] 31) = w0 at *
  go_wp2
  go_loop [5] (fun i => ∃ k : Nat, k ≤ L ∧ i = .int .i64 (k : Int) ∧ (∀ j, j < k → (l.getD j zeroF).name ≠ name)) (fun i => L - (intOf i).toNat)
  case atStart => exact ⟨0, by omega, rfl, fun j hj => absurd hj (by omega)⟩
  case round =>
    obtain ⟨k, hk, rfl, hz⟩ := hrel
    have HZ : Hid (∀ j, j < k → (l.getD j zeroF).name ≠ name) := hz
    clear hz
    by_cases hkl : k < L
    · have hkI : (k : Int) < (L : Int) := by omega
      have hkl2 : k < l.length := by have := HL.out; omega
      obtain ⟨fb, fo, pv, hfe, y0, y1, y2, hpin⟩ := HQ.out.file hkl2
      subst hfe
      have HKL : Hid (k < L) := hkl
      have HHIT : Hid ((l.getD k zeroF).name = name → findI l name = (k : Int)) := fun h => (findI_hit hkl2 h HZ.out).2
      have HNEXT : Hid ((l.getD k zeroF).name ≠ name → ∀ j, j < k + 1 → (l.getD j zeroF).name ≠ name) := fun h j hj => by
        rcases Nat.lt_or_ge j k with h' | h'
        · exact HZ.out j h'
        · obtain rfl : j = k := by omega
          exact h
      clear y1 y2 hkl hkl2 hk hpin HZ
      generalize l.getD k zeroF = f at *
      obtain ⟨fnm, fsz, fpc⟩ := f
      simp only at y0 HHIT HNEXT
      by_cases g : fnm = name
      · have HH : Hid (findI l name = (k : Int)) := HHIT.out g
        subst g
        clear HHIT HNEXT
        go_wp2
        go_ret
        exact ⟨by rw [HH.out]; rfl, HB0.out⟩
      · have HNX : Hid _ := HNEXT.out g
        have hne2 : (fnm.toList == name.toList) = false := by rw [eq_strF]; simpa using g
        clear HHIT HNEXT
        go_wp2
        go_round
        case rel => exact ⟨k + 1, HKL.out, by go_num, HNX.out⟩
        case measure => have := HKL.out; simp [intOf]; omega
    · have hkI : (L : Int) ≤ (k : Int) := by omega
      obtain rfl : k = L := by omega
      have HM : Hid (findI l name = -1) := (findI_miss (fun j hj => HZ.out j (by have := HL.out; omega))).2
      clear HZ hkl
      go_wp2
      go_ret
      exact ⟨by rw [HM.out]; rfl, HB0.out⟩
end Go.Proofs.YthifpelappedcaaGreatDoor
namespace Go.Proofs.YthifpelappedcaaGreatDoor
open Go.RowKit Go.WideShapes Rm

theorem roomD (a b : Addr) (ev old : Value) (n : Int) (u : FrameMode) (w : World) (hg : ErrT w) (hv : ErrV ev n) (ha : w.cell? a = some ev) (hb : w.cell? b = some old) (hf : w.frozen? b = false) :
    CallsD Tryz.prog 45 #[.pointer (some a), .pointer (some b)] u w fun e u' w' => u' = u ∧ e = .returned (.tuple #[]) ∧ ∃ w1, w' = w1.setCell b (.int .i64 n) ∧ Below w.heap.size w w1 := by
  have hn := number_v ev n hv w hg
  have hlt := World.block_lt_of_cell? _ _ hb
  go_enter_d Tryz.func45, Tryz.ntmps45
  go_wp2_with fail
  refine hn.mono ?_
  rintro e w1 ⟨rfl, hb1⟩
  have hb2 : w1.cell? b = some old := (hb1.cell hlt).trans hb
  have hf2 : w1.frozen? b = false := (hb1.frozen hlt).trans hf
  go_wp2
  go_end0
  exact ⟨rfl, w1, rfl, hb1⟩
def roomN (count : Int) : Option (DirV × Int) → Int
  | some (x, _) => count - 80 - takenN x.files
  | none => 0
set_option maxRecDepth 8000 in
set_option maxHeartbeats 2000000 in
theorem Room_any (v : Value) (count : Int) (data : List Nat) (ws : Puts) (w : World) (hL : Laid w) (hd : DiskIn w v count data ws) (r : Option (DirV × Int)) (n : Int) (hm : MountIs count data ws r n) :
    Calls Tryz.prog 11 #[v] w fun e w' => e = .returned (.tuple #[.int .i64 (roomN count r), .int .i64 n]) ∧ Below w.heap.size w w' := by
  obtain ⟨p, c, q, m, rfl, _⟩ := hd.parts
  have hb3 : Below w.heap.size w (((w.alloc (.cells #[.int .i64 count, .slice p data.length c, .slice q ws.length m] 25)).alloc (.cells #[.int .i64 0] 26)).alloc (.cells #[.nilIface] 93)) := ((below_alloc w _).alloc (by simp) _).alloc (by simp; omega) _
  have hfr := free_any4 _ count data ws (((w.alloc (.cells #[.int .i64 count, .slice p data.length c, .slice q ws.length m] 25)).alloc (.cells #[.int .i64 0] 26)).alloc (.cells #[.nilIface] 93)) (hL.below hb3) (hd.below hb3) r n hm
  have HG : Hid (ErrT w) := hL.err
  have hmf : ∀ (fn : Fn) (first cap : Array Value) (w : World), (Instr.makeFunc fn first cap).run Tryz.prog w = .ok (.func fn first cap) w := fun _ _ _ _ => rfl
  have hdk : (((w.alloc (.cells #[.int .i64 count, .slice p data.length c, .slice q ws.length m] 25)).alloc (.cells #[.int .i64 0] 26)).alloc (.cells #[.nilIface] 93)).heap[w.heap.size]? = some (.cells #[.int .i64 count, .slice p data.length c, .slice q ws.length m] 25 (0, 0)) := by
    have h1 := heap_alloc_new w (.cells #[.int .i64 count, .slice p data.length c, .slice q ws.length m] 25)
    have h2 := ((below_alloc (w.alloc (.cells #[.int .i64 count, .slice p data.length c, .slice q ws.length m] 25)) (.cells #[.int .i64 0] 26)).block _ (by simp)).trans h1
    exact ((below_alloc ((w.alloc (.cells #[.int .i64 count, .slice p data.length c, .slice q ws.length m] 25)).alloc (.cells #[.int .i64 0] 26)) (.cells #[.nilIface] 93)).block _ (by simp; omega)).trans h2
  obtain ⟨c0, c1, c2⟩ := three_cells hdk
  have HMI : Hid (MountIs count data ws r n) := hm
  clear hL hd hm hdk
  rcases r with _ | ⟨x, at_⟩
  · go_enter_defers Tryz.func11, Tryz.ntmps11
    go_wp2_with fail
    refine hfr.mono ?_
    rintro e w1 ⟨ev, rfl, hfl, hbb⟩
    have hs1 := hbb.size
    simp at hs1
    obtain ⟨ce, cr, fe, fr⟩ := vars2 (a := .int .i64 0) (b := .nilIface) (s := 26) (t := 93) (w.alloc (.cells #[.int .i64 count, .slice p data.length c, .slice q ws.length m] 25)) w1 hbb
    simp only [heap_size_alloc] at ce cr fe fr
    have HB : Hid (Below w.heap.size w w1) := hb3.trans (hbb.mono hb3.size)
    have HE : Hid (ErrV ev n) := .inr ⟨by rcases mountIs_none HMI.out with h | h <;> omega, hfl⟩
    obtain ⟨tx, vx, rfl⟩ := hfl.iface
    clear hbb hfr hb3 hfl c0 c1 c2
    have hdoor := doorV (A := ⟨w.heap.size + 1 + 1, 0, none⟩) (E := ⟨w.heap.size + 1, 0, none⟩) (by simp) cr ce fr fe (ev := (.iface tx vx))
    have HDR : Hid (((w1.setCell ⟨w.heap.size + 1 + 1, 0, none⟩ (.iface tx vx)).setCell ⟨w.heap.size + 1, 0, none⟩ (.int .i64 0)).cell? ⟨w.heap.size + 1 + 1, 0, none⟩ = some (.iface tx vx) ∧ ((w1.setCell ⟨w.heap.size + 1 + 1, 0, none⟩ (.iface tx vx)).setCell ⟨w.heap.size + 1, 0, none⟩ (.int .i64 0)).cell? ⟨w.heap.size + 1, 0, none⟩ = some (.int .i64 0) ∧ ((w1.setCell ⟨w.heap.size + 1 + 1, 0, none⟩ (.iface tx vx)).setCell ⟨w.heap.size + 1, 0, none⟩ (.int .i64 0)).frozen? ⟨w.heap.size + 1, 0, none⟩ = false) := hdoor
    clear hdoor
    go_wp2
    obtain ⟨g1, g2, g3⟩ := HDR.out
    have hbW : Below w.heap.size w ((w1.setCell ⟨w.heap.size + 1 + 1, 0, none⟩ (.iface tx vx)).setCell ⟨w.heap.size + 1, 0, none⟩ (.int .i64 0)) := (HB.out.setCell (by simp; omega) _).setCell (by simp) _
    generalize (w1.setCell ⟨w.heap.size + 1 + 1, 0, none⟩ (.iface tx vx)).setCell ⟨w.heap.size + 1, 0, none⟩ (.int .i64 0) = W at *
    refine leaves_cons (f := 45) (args := #[.pointer (some ⟨w.heap.size + 1 + 1, 0, none⟩), .pointer (some ⟨w.heap.size + 1, 0, none⟩)]) (by simp) (by simp [go_sem]) ?_
    refine (roomD ⟨w.heap.size + 1 + 1, 0, none⟩ ⟨w.heap.size + 1, 0, none⟩ (.iface tx vx) (.int .i64 0) n .returning _ (HG.out.below hbW) HE.out g1 g2 g3).mono ?_
    rintro e u' w'' ⟨rfl, rfl, w3, rfl, hb3⟩
    have hltE := World.block_lt_of_cell? _ _ g2
    have k1 : (w3.setCell ⟨w.heap.size + 1, 0, none⟩ (.int .i64 n)).cell? ⟨w.heap.size + 1, 0, none⟩ = some (.int .i64 n) := World.cell?_setCell_same _ _ _ ((hb3.cell hltE).trans g2)
    have k2 : Below w.heap.size w (w3.setCell ⟨w.heap.size + 1, 0, none⟩ (.int .i64 n)) := (hbW.trans (hb3.mono hbW.size)).setCell (by simp) _
    generalize w3.setCell ⟨w.heap.size + 1, 0, none⟩ (.int .i64 n) = w4 at *
    simp [Leaves, settle, results, Tryz.results11, go_sem, k1]
    exact ⟨rfl, k2⟩
  · obtain ⟨_, _, hn0, _⟩ := mountIs_some HMI.out
    subst hn0
    go_enter_defers Tryz.func11, Tryz.ntmps11
    go_wp2_with fail
    refine hfr.mono ?_
    rintro e w1 ⟨rfl, hbb⟩
    have hs1 := hbb.size
    simp at hs1
    obtain ⟨ce, cr, fe, fr⟩ := vars2 (a := .int .i64 0) (b := .nilIface) (s := 26) (t := 93) (w.alloc (.cells #[.int .i64 count, .slice p data.length c, .slice q ws.length m] 25)) w1 hbb
    simp only [heap_size_alloc] at ce cr fe fr
    have HB : Hid (Below w.heap.size w w1) := hb3.trans (hbb.mono hb3.size)
    have HE : Hid (ErrV .nilIface 0) := .inl ⟨rfl, rfl⟩
    obtain ⟨K, hK⟩ : ∃ K, count - 80 - takenN x.files = K := ⟨_, rfl⟩
    have HK : Hid (roomN count (some (x, at_)) = K) := hK
    rw [hK]
    clear hbb hfr hb3 c0 c1 c2 hK
    have hdoor := doorV (A := ⟨w.heap.size + 1 + 1, 0, none⟩) (E := ⟨w.heap.size + 1, 0, none⟩) (by simp) cr ce fr fe (ev := .nilIface)
    have HDR : Hid (((w1.setCell ⟨w.heap.size + 1 + 1, 0, none⟩ .nilIface).setCell ⟨w.heap.size + 1, 0, none⟩ (.int .i64 0)).cell? ⟨w.heap.size + 1 + 1, 0, none⟩ = some .nilIface ∧ ((w1.setCell ⟨w.heap.size + 1 + 1, 0, none⟩ .nilIface).setCell ⟨w.heap.size + 1, 0, none⟩ (.int .i64 0)).cell? ⟨w.heap.size + 1, 0, none⟩ = some (.int .i64 0) ∧ ((w1.setCell ⟨w.heap.size + 1 + 1, 0, none⟩ .nilIface).setCell ⟨w.heap.size + 1, 0, none⟩ (.int .i64 0)).frozen? ⟨w.heap.size + 1, 0, none⟩ = false) := hdoor
    clear hdoor
    go_wp2
    obtain ⟨g1, g2, g3⟩ := HDR.out
    have hbW : Below w.heap.size w ((w1.setCell ⟨w.heap.size + 1 + 1, 0, none⟩ .nilIface).setCell ⟨w.heap.size + 1, 0, none⟩ (.int .i64 0)) := (HB.out.setCell (by simp; omega) _).setCell (by simp) _
    generalize (w1.setCell ⟨w.heap.size + 1 + 1, 0, none⟩ .nilIface).setCell ⟨w.heap.size + 1, 0, none⟩ (.int .i64 0) = W at *
    refine leaves_cons (f := 45) (args := #[.pointer (some ⟨w.heap.size + 1 + 1, 0, none⟩), .pointer (some ⟨w.heap.size + 1, 0, none⟩)]) (by simp) (by simp [go_sem]) ?_
    refine (roomD ⟨w.heap.size + 1 + 1, 0, none⟩ ⟨w.heap.size + 1, 0, none⟩ .nilIface (.int .i64 0) 0 .returning _ (HG.out.below hbW) HE.out g1 g2 g3).mono ?_
    rintro e u' w'' ⟨rfl, rfl, w3, rfl, hb3⟩
    have hltE := World.block_lt_of_cell? _ _ g2
    have k1 : (w3.setCell ⟨w.heap.size + 1, 0, none⟩ (.int .i64 0)).cell? ⟨w.heap.size + 1, 0, none⟩ = some (.int .i64 0) := World.cell?_setCell_same _ _ _ ((hb3.cell hltE).trans g2)
    have k2 : Below w.heap.size w (w3.setCell ⟨w.heap.size + 1, 0, none⟩ (.int .i64 0)) := (hbW.trans (hb3.mono hbW.size)).setCell (by simp) _
    generalize w3.setCell ⟨w.heap.size + 1, 0, none⟩ (.int .i64 0) = w4 at *
    simp [Leaves, settle, results, Tryz.results11, go_sem, k1]
    exact ⟨by rw [HK.out], k2⟩
end Go.Proofs.YthifpelappedcaaGreatDoor
namespace Go.Proofs.YthifpelappedcaaGreatDoor
open Go.RowKit Go.WideShapes Rm

theorem namesD (a b : Addr) (ev old : Value) (n : Int) (u : FrameMode) (w : World) (hg : ErrT w) (hv : ErrV ev n) (ha : w.cell? a = some ev) (hb : w.cell? b = some old) (hf : w.frozen? b = false) :
    CallsD Tryz.prog 83 #[.pointer (some a), .pointer (some b)] u w fun e u' w' => u' = u ∧ e = .returned (.tuple #[]) ∧ ∃ w1, w' = w1.setCell b (.int .i64 n) ∧ Below w.heap.size w w1 := by
  have hn := number_v ev n hv w hg
  have hlt := World.block_lt_of_cell? _ _ hb
  go_enter_d Tryz.func83, Tryz.ntmps83
  go_wp2_with fail
  refine hn.mono ?_
  rintro e w1 ⟨rfl, hb1⟩
  have hb2 : w1.cell? b = some old := (hb1.cell hlt).trans hb
  have hf2 : w1.frozen? b = false := (hb1.frozen hlt).trans hf
  go_wp2
  go_end0
  exact ⟨rfl, w1, rfl, hb1⟩
def Ts (l : List FileV) : List Value := l.map fun f => Value.string f.name
def namesN : Option (DirV × Int) → List FileV
  | some (x, _) => x.files
  | none => []
structure OnT (w0 : World) (v : Value) (l : List FileV) (wr : World) : Prop where
  own : wr.ownsRow w0.heap.size 9 1 v l.length (Ts l)
  bel : Below w0.heap.size w0 wr
theorem OnT.app {w0 wr w' : World} {v v' : Value} {l : List FileV} {f : FileV} (h : OnT w0 v l wr) (hg : wr.grownBy w' v.ownBlock) (ho : w'.ownsRow w0.heap.size 9 1 v' (l.length + 1) (Ts l ++ [.string f.name])) : OnT w0 v' (l ++ [f]) w' := by
  refine ⟨?_, h.bel.grown hg h.bel.size (fun k hk => (World.ownsRow.lt h.own k hk).1)⟩
  rw [List.length_append]
  unfold Ts at ho ⊢
  rw [List.map_append]
  exact ho
theorem OnT.next {w0 wr w' : World} {v : Value} {l : List FileV} (h : OnT w0 v l wr) (hb : Below wr.heap.size wr w') : OnT w0 v l w' := ⟨own_below h.own hb, below_bt h.bel hb⟩
theorem info9s : (Tryz.prog.info? 9).map (fun i => (i.zero, i.size, i.bytes)) = some (some (.string ⟨#[]⟩), 1, 16) := by kernel_rfl
theorem info_parts4 {P : Program} {t : TypeId} {z : Option Value} {s b : Nat} (h : (P.info? t).map (fun i => (i.zero, i.size, i.bytes)) = some (z, s, b)) : ∃ i, P.info? t = some i ∧ i.zero = z ∧ i.size = s ∧ i.bytes = b := by
  cases hi : P.info? t with
  | none => rw [hi] at h; cases h
  | some i => rw [hi] at h; simp at h; exact ⟨i, rfl, h.1, h.2.1, h.2.2⟩
theorem take_file {l : List FileV} {k : Nat} (h : k < l.length) : l.take (k + 1) = l.take k ++ [l.getD k zeroF] := by
  rw [List.take_succ_eq_append_getElem h, List.getD_eq_getElem?_getD, List.getElem?_eq_getElem h]; rfl
set_option maxRecDepth 8000 in
set_option maxHeartbeats 4000000 in
theorem Names_any (v : Value) (count : Int) (data : List Nat) (ws : Puts) (w : World) (hL : Laid w) (hd : DiskIn w v count data ws) (r : Option (DirV × Int)) (n : Int) (hm : MountIs count data ws r n) :
    Calls Tryz.prog 34 #[v] w fun e w' => (∃ lv, e = .returned (.tuple #[lv, .int .i64 n]) ∧ w'.ownsRow w.heap.size 9 1 lv (namesN r).length (Ts (namesN r))) ∧ Below w.heap.size w w' := by
  obtain ⟨p, c, q, m, rfl, _⟩ := hd.parts
  obtain ⟨i0, hi, hz0, hz1, hz2⟩ := info_parts4 info9s
  have HG : Hid (ErrT w) := hL.err
  have hmf : ∀ (fn : Fn) (first cap : Array Value) (w : World), (Instr.makeFunc fn first cap).run Tryz.prog w = .ok (.func fn first cap) w := fun _ _ _ _ => rfl
  have hb2 : Below w.heap.size w ((w.alloc (.cells #[.int .i64 count, .slice p data.length c, .slice q ws.length m] 25)).alloc (.cells #[.int .i64 0] 26)) := (below_alloc w _).alloc (by simp) _
  have HB2 : Hid (Below w.heap.size w ((w.alloc (.cells #[.int .i64 count, .slice p data.length c, .slice q ws.length m] 25)).alloc (.cells #[.int .i64 0] 26))) := hb2
  have HEB2 : Hid (((w.alloc (.cells #[.int .i64 count, .slice p data.length c, .slice q ws.length m] 25)).alloc (.cells #[.int .i64 0] 26)).heap[w.heap.size + 1]? = some (.cells #[.int .i64 0] 26 (0, 0))) := by
    have h := heap_alloc_new (w.alloc (.cells #[.int .i64 count, .slice p data.length c, .slice q ws.length m] 25)) (.cells #[.int .i64 0] 26)
    rw [heap_size_alloc] at h
    exact h
  have hmt := mount_any _ count data ws ((w.alloc (.cells #[.int .i64 count, .slice p data.length c, .slice q ws.length m] 25)).alloc (.cells #[.int .i64 0] 26)) (hL.below hb2) (hd.below hb2) r n hm
  have HMI : Hid (MountIs count data ws r n) := hm
  clear hL hd hm hb2
  rcases r with _ | ⟨x, at_⟩
  · go_enter_defers Tryz.func34, Tryz.ntmps34
    go_wp2_with fail
    refine hmt.mono ?_
    rintro e w1 ⟨ev, rfl, hfl, hb1⟩
    have HE : Hid (ErrV ev n) := .inr ⟨by rcases mountIs_none HMI.out with h | h <;> omega, hfl⟩
    obtain ⟨tx, vx, rfl⟩ := hfl.iface
    have bx1 := below_alloc w1 (.cells #[.int .i64 0, .slice none 0 0] 31)
    have bx2 := below_alloc (w1.alloc (.cells #[.int .i64 0, .slice none 0 0] 31)) (.cells #[.iface tx vx] 93)
    have hbb := below_bt hb1 (below_bt bx1 bx2)
    have HBW0 : Hid (Below w.heap.size w ((w1.alloc (.cells #[.int .i64 0, .slice none 0 0] 31)).alloc (.cells #[.iface tx vx] 93))) := below_bt HB2.out hbb
    have HEB0 : Hid (((w1.alloc (.cells #[.int .i64 0, .slice none 0 0] 31)).alloc (.cells #[.iface tx vx] 93)).heap[w.heap.size + 1]? = some (.cells #[.int .i64 0] 26 (0, 0))) := (hbb.block _ (lt_heap HEB2.out)).trans HEB2.out
    have HAB0 : Hid (((w1.alloc (.cells #[.int .i64 0, .slice none 0 0] 31)).alloc (.cells #[.iface tx vx] 93)).heap[w1.heap.size + 1]? = some (.cells #[.iface tx vx] 93 (0, 0))) := by
      have h := heap_alloc_new (w1.alloc (.cells #[.int .i64 0, .slice none 0 0] 31)) (.cells #[.iface tx vx] 93)
      rw [heap_size_alloc] at h
      exact h
    have HNE : Hid (w1.heap.size + 1 ≠ w.heap.size + 1) := by have h1 := hb1.size; have h2 := HB2.out.size; simp at h1; show _ ≠ _; omega
    clear hbb bx1 bx2 hb1 hmt hfl
    go_wp2
    generalize (w1.alloc (.cells #[.int .i64 0, .slice none 0 0] 31)).alloc (.cells #[.iface tx vx] 93) = w0 at *
    generalize w1.heap.size = gD at *
    obtain ⟨gA, hgA⟩ : ∃ gA, gD + 1 = gA := ⟨_, rfl⟩
    rw [hgA] at HAB0 HNE ⊢
    clear hgA
    go_loopw [2, 19] (fun s i wx => s = .slice none 0 0 ∧ i = .int .i64 0 ∧ wx = w0) (fun _ _ _ => 0)
    case atStart => exact ⟨rfl, rfl, rfl⟩
    case round =>
      obtain ⟨rfl, rfl, rfl⟩ := hrel
      have HON : Hid (OnT wr (.slice none 0 0) [] wr) := ⟨World.ownsRow_nil _ _ _ _, Below.refl _ _⟩
      have HBW : Hid (Below w.heap.size w wr) := HBW0.out
      have HEB : Hid (wr.heap[w.heap.size + 1]? = some (.cells #[.int .i64 0] 26 (0, 0))) := HEB0.out
      have HAB : Hid (wr.heap[gA]? = some (.cells #[.iface tx vx] 93 (0, 0))) := HAB0.out
      have hA : wr.cell? ⟨gA, 0, none⟩ = some (.iface tx vx) := Lib.cell_of_heap ((HON.out.bel.block _ (lt_heap HAB.out)).trans HAB.out) 0
      have hEb := (HON.out.bel.block _ (lt_heap HEB.out)).trans HEB.out
      have hE : wr.cell? ⟨w.heap.size + 1, 0, none⟩ = some (.int .i64 0) := Lib.cell_of_heap hEb 0
      have fE : wr.frozen? ⟨w.heap.size + 1, 0, none⟩ = false := by simp only [World.frozen?, hEb]; rfl
      go_wp2
      have g1 : (wr.setCell ⟨w.heap.size + 1, 0, none⟩ (.int .i64 0)).cell? ⟨gA, 0, none⟩ = some (.iface tx vx) := by rw [World.cell?_setCell_other _ _ _ _ (by intro h; cases h; exact absurd rfl HNE.out)]; exact hA
      have g2 : (wr.setCell ⟨w.heap.size + 1, 0, none⟩ (.int .i64 0)).cell? ⟨w.heap.size + 1, 0, none⟩ = some (.int .i64 0) := World.cell?_setCell_same _ _ _ hE
      have g3 : (wr.setCell ⟨w.heap.size + 1, 0, none⟩ (.int .i64 0)).frozen? ⟨w.heap.size + 1, 0, none⟩ = false := by simp [fE]
      have hbW : Below w.heap.size w (wr.setCell ⟨w.heap.size + 1, 0, none⟩ (.int .i64 0)) := (HBW.out.trans (HON.out.bel.mono HBW.out.size)).setCell (by simp) _
      have hoW := ownsRow_setCell_below HON.out.own (a := ⟨w.heap.size + 1, 0, none⟩) (by have := lt_heap HEB.out; simpa using this) (.int .i64 0)
      generalize wr.setCell ⟨w.heap.size + 1, 0, none⟩ (.int .i64 0) = W at *
      refine leaves_cons (f := 83) (args := #[.pointer (some ⟨gA, 0, none⟩), .pointer (some ⟨w.heap.size + 1, 0, none⟩)]) (by simp) (by simp [go_sem]) ?_
      refine (namesD ⟨gA, 0, none⟩ ⟨w.heap.size + 1, 0, none⟩ (.iface tx vx) (.int .i64 0) n .returning _ (HG.out.below hbW) HE.out g1 g2 g3).mono ?_
      rintro e u' w'' ⟨rfl, rfl, w3, rfl, hb3⟩
      have hltE := World.block_lt_of_cell? _ _ g2
      have k1 : (w3.setCell ⟨w.heap.size + 1, 0, none⟩ (.int .i64 n)).cell? ⟨w.heap.size + 1, 0, none⟩ = some (.int .i64 n) := World.cell?_setCell_same _ _ _ ((hb3.cell hltE).trans g2)
      have k2 : Below w.heap.size w (w3.setCell ⟨w.heap.size + 1, 0, none⟩ (.int .i64 n)) := (hbW.trans (hb3.mono hbW.size)).setCell (by simp) _
      have k3 := ownsRow_setCell_below (own_below hoW hb3) (a := ⟨w.heap.size + 1, 0, none⟩) (by have := lt_heap HEB.out; simpa using this) (.int .i64 n)
      generalize w3.setCell ⟨w.heap.size + 1, 0, none⟩ (.int .i64 n) = w4 at *
      simp [Leaves, settle, results, Tryz.results34, go_sem, k1]
      exact ⟨World.ownsRow_nil _ _ _ _, k2⟩
  · obtain ⟨hmay, _, hn0, _⟩ := mountIs_some HMI.out
    subst hn0
    have HMAY : Hid (May ltS x) := hmay
    clear hmay
    go_enter_defers Tryz.func34, Tryz.ntmps34
    go_wp2_with fail
    refine hmt.mono ?_
    rintro e w1 ⟨ls, lv, hls, rfl, hfo, hb1⟩
    have hfin := hfo.files HMAY.out hls
    obtain ⟨lq, lc, rfl, hfi, _, _, _⟩ := hfin.lies
    obtain ⟨L, hLn⟩ : ∃ L, x.files.length = L := ⟨_, rfl⟩
    have HLN : Hid (x.files.length = L) := hLn
    have hLI : (L : Int) ≤ 32 := by have := HMAY.out.many; omega
    rw [hLn]
    clear hLn
    have bx1 := below_alloc w1 (.cells #[.int .i64 x.gen, .slice lq L lc] 31)
    have bx2 := below_alloc (w1.alloc (.cells #[.int .i64 x.gen, .slice lq L lc] 31)) (.cells #[.nilIface] 93)
    have hbx := below_bt bx1 bx2
    have hbb := below_bt hb1 hbx
    have HBW0 : Hid (Below w.heap.size w ((w1.alloc (.cells #[.int .i64 x.gen, .slice lq L lc] 31)).alloc (.cells #[.nilIface] 93))) := below_bt HB2.out hbb
    have HEB0 : Hid (((w1.alloc (.cells #[.int .i64 x.gen, .slice lq L lc] 31)).alloc (.cells #[.nilIface] 93)).heap[w.heap.size + 1]? = some (.cells #[.int .i64 0] 26 (0, 0))) := (hbb.block _ (lt_heap HEB2.out)).trans HEB2.out
    have HAB0 : Hid (((w1.alloc (.cells #[.int .i64 x.gen, .slice lq L lc] 31)).alloc (.cells #[.nilIface] 93)).heap[w1.heap.size + 1]? = some (.cells #[.nilIface] 93 (0, 0))) := by
      have h := heap_alloc_new (w1.alloc (.cells #[.int .i64 x.gen, .slice lq L lc] 31)) (.cells #[.nilIface] 93)
      rw [heap_size_alloc] at h
      exact h
    have HFI : Hid (FilesIn ((w1.alloc (.cells #[.int .i64 x.gen, .slice lq L lc] 31)).alloc (.cells #[.nilIface] 93)) lq x.files) := by
      obtain ⟨q3, c3, e3, h3, _⟩ := (hfin.below hbx).lies
      obtain ⟨e4, _, e5⟩ := Value.slice.inj e3
      rw [← e4] at h3
      exact h3
    have HE : Hid (ErrV .nilIface 0) := .inl ⟨rfl, rfl⟩
    have HNE : Hid (w1.heap.size + 1 ≠ w.heap.size + 1) := by have h1 := hb1.size; have h2 := HB2.out.size; simp at h1; show _ ≠ _; omega
    clear hbb bx1 bx2 hbx hb1 hmt hls hfo hfin hfi
    go_wp2
    generalize (w1.alloc (.cells #[.int .i64 x.gen, .slice lq L lc] 31)).alloc (.cells #[.nilIface] 93) = w0 at *
    generalize w1.heap.size = gD at *
    obtain ⟨gA, hgA⟩ : ∃ gA, gD + 1 = gA := ⟨_, rfl⟩
    rw [hgA] at HAB0 HNE ⊢
    clear hgA
    go_loopw [2, 19] (fun s i wr => ∃ k : Nat, k ≤ L ∧ i = .int .i64 (k : Int) ∧ ∃ sq sc, s = .slice sq k sc ∧ OnT w0 (.slice sq k sc) (x.files.take k) wr) (fun _ i _ => L - (intOf i).toNat)
    case atStart => exact ⟨0, by omega, rfl, none, 0, rfl, ⟨World.ownsRow_nil _ _ _ _, Below.refl _ _⟩⟩
    case round =>
      obtain ⟨k, hk, rfl, sq, sc, rfl, hon⟩ := hrel
      have HON : Hid (OnT w0 (.slice sq k sc) (x.files.take k) wr) := hon
      clear hon
      by_cases hkl : k < L
      · have hkI : (k : Int) < (L : Int) := by omega
        have hkl2 : k < x.files.length := by have := HLN.out; omega
        obtain ⟨fb, fo, pv, hfe, y0, y1, y2, hpin⟩ := HFI.out.file hkl2
        subst hfe
        have hb := HON.out.bel
        have z0 := (hb.cell (World.block_lt_of_cell? _ _ y0)).trans y0
        have z1 := (hb.cell (World.block_lt_of_cell? _ _ y1)).trans y1
        have z2 := (hb.cell (World.block_lt_of_cell? _ _ y2)).trans y2
        obtain ⟨pq, pc, rfl, _⟩ := hpin.lies
        have HTK : Hid (x.files.take (k + 1) = x.files.take k ++ [x.files.getD k zeroF]) := take_file hkl2
        have HKN : Hid ((x.files.take k).length = k ∧ k ≤ 32) := ⟨by rw [List.length_take]; omega, by omega⟩
        obtain ⟨f, hf⟩ : ∃ f, x.files.getD k zeroF = f := ⟨_, rfl⟩
        rw [hf] at z0 z1 z2 HTK
        have HKL : Hid (k < L) := hkl
        clear hb y0 y1 y2 hkl hkl2 hk hpin hf
        obtain ⟨fnm, fsz, fpc⟩ := f
        simp only at z0 z1 z2
        obtain ⟨PL, hPL⟩ : ∃ PL, fpc.length = PL := ⟨_, rfl⟩
        rw [hPL] at z2
        clear hPL
        have bxa := below_alloc wr (.cells #[.string fnm, .int .i64 fsz, .slice pq PL pc] 51)
        have bxb := below_alloc (wr.alloc (.cells #[.string fnm, .int .i64 fsz, .slice pq PL pc] 51)) (.cells #[.string fnm] 9)
        have HOW : Hid (OnT w0 (.slice sq k sc) (x.files.take k) ((wr.alloc (.cells #[.string fnm, .int .i64 fsz, .slice pq PL pc] 51)).alloc (.cells #[.string fnm] 9))) := (HON.out.next bxa).next bxb
        have HCL : Hid (∀ j u, [Value.string fnm][j]? = some u → ((wr.alloc (.cells #[.string fnm, .int .i64 fsz, .slice pq PL pc] 51)).alloc (.cells #[.string fnm] 9)).cell? ((⟨wr.heap.size + 1, 0, none⟩ : Addr).add j) = some u) := fun j u hj => by
          have hh := heap_alloc_new (wr.alloc (.cells #[.string fnm, .int .i64 fsz, .slice pq PL pc] 51)) (.cells #[.string fnm] 9)
          rw [heap_size_alloc] at hh
          have e : (⟨wr.heap.size + 1, 0, none⟩ : Addr).add j = ⟨wr.heap.size + 1, j, none⟩ := by simp [Addr.add]; intro h; omega
          rw [e, Lib.cell_of_heap hh]
          simpa using hj
        have HOWN : Hid (((wr.alloc (.cells #[.string fnm, .int .i64 fsz, .slice pq PL pc] 51)).alloc (.cells #[.string fnm] 9)).ownsRow w0.heap.size 9 1 (.slice sq k sc) k (Ts (x.files.take k))) := by have h := HOW.out.own; rw [HKN.out.1] at h; exact h
        clear bxa bxb
        go_wp2_with (at_builtin; go_loud (refine wpList_append_own _ rfl _ _ 78 rfl w0.heap.size 9 i0 _ 1 16 Tryz.underlying78 hi hz0 hz1 hz2 rfl (by omega) (.slice sq k sc) _ _ rfl HOWN.out ⟨wr.heap.size + 1, 0, none⟩ 1 1 [.string fnm] rfl rfl HCL.out (by simp [Value.oneCell']) (by have := HKN.out.2; unfold maxLen; omega) (by have := HKN.out.2; omega) HOW.out.bel.size ?_); intro va ua hoa hga _; have hoa2 : ua.ownsRow w0.heap.size 9 1 va ((x.files.take k).length + 1) (Ts (x.files.take k) ++ [.string (⟨fnm, fsz, fpc⟩ : FileV).name]) := (by rw [HKN.out.1]; exact hoa); have HNX : Hid (OnT w0 va (x.files.take k ++ [⟨fnm, fsz, fpc⟩]) ua) := HOW.out.app hga hoa2; clear hoa hoa2 hga)
        go_roundw
        case rel =>
          have hnx := HNX.out
          rw [← HTK.out] at hnx
          obtain ⟨q5, c5, rfl, _, _, _⟩ := own_form hnx.own
          have hl : (x.files.take (k + 1)).length = k + 1 := by rw [List.length_take]; have := HKL.out; have := HLN.out; omega
          rw [hl] at hnx ⊢
          exact ⟨k + 1, HKL.out, by go_num, q5, c5, rfl, hnx⟩
        case measure => have := HKL.out; simp [intOf]; omega
      · have hkI : (L : Int) ≤ (k : Int) := by omega
        have HKE : Hid (x.files.take k = x.files ∧ k = x.files.length) := ⟨List.take_of_length_le (by have := HLN.out; omega), by have := HLN.out; omega⟩
        have HBW : Hid (Below w.heap.size w w0) := HBW0.out
        have HEB : Hid (w0.heap[w.heap.size + 1]? = some (.cells #[.int .i64 0] 26 (0, 0))) := HEB0.out
        have HAB : Hid (w0.heap[gA]? = some (.cells #[.nilIface] 93 (0, 0))) := HAB0.out
        clear hkl hk
        have hA : wr.cell? ⟨gA, 0, none⟩ = some .nilIface := Lib.cell_of_heap ((HON.out.bel.block _ (lt_heap HAB.out)).trans HAB.out) 0
        have hEb := (HON.out.bel.block _ (lt_heap HEB.out)).trans HEB.out
        have hE : wr.cell? ⟨w.heap.size + 1, 0, none⟩ = some (.int .i64 0) := Lib.cell_of_heap hEb 0
        have fE : wr.frozen? ⟨w.heap.size + 1, 0, none⟩ = false := by simp only [World.frozen?, hEb]; rfl
        go_wp2
        have g1 : (wr.setCell ⟨w.heap.size + 1, 0, none⟩ (.int .i64 0)).cell? ⟨gA, 0, none⟩ = some .nilIface := by rw [World.cell?_setCell_other _ _ _ _ (by intro h; cases h; exact absurd rfl HNE.out)]; exact hA
        have g2 : (wr.setCell ⟨w.heap.size + 1, 0, none⟩ (.int .i64 0)).cell? ⟨w.heap.size + 1, 0, none⟩ = some (.int .i64 0) := World.cell?_setCell_same _ _ _ hE
        have g3 : (wr.setCell ⟨w.heap.size + 1, 0, none⟩ (.int .i64 0)).frozen? ⟨w.heap.size + 1, 0, none⟩ = false := by simp [fE]
        have hbW : Below w.heap.size w (wr.setCell ⟨w.heap.size + 1, 0, none⟩ (.int .i64 0)) := (HBW.out.trans (HON.out.bel.mono HBW.out.size)).setCell (by simp) _
        have hoW := ownsRow_setCell_below HON.out.own (a := ⟨w.heap.size + 1, 0, none⟩) (by have := lt_heap HEB.out; simpa using this) (.int .i64 0)
        generalize wr.setCell ⟨w.heap.size + 1, 0, none⟩ (.int .i64 0) = W at *
        refine leaves_cons (f := 83) (args := #[.pointer (some ⟨gA, 0, none⟩), .pointer (some ⟨w.heap.size + 1, 0, none⟩)]) (by simp) (by simp [go_sem]) ?_
        refine (namesD ⟨gA, 0, none⟩ ⟨w.heap.size + 1, 0, none⟩ .nilIface (.int .i64 0) 0 .returning _ (HG.out.below hbW) HE.out g1 g2 g3).mono ?_
        rintro e u' w'' ⟨rfl, rfl, w3, rfl, hb3⟩
        have hltE := World.block_lt_of_cell? _ _ g2
        have k1 : (w3.setCell ⟨w.heap.size + 1, 0, none⟩ (.int .i64 0)).cell? ⟨w.heap.size + 1, 0, none⟩ = some (.int .i64 0) := World.cell?_setCell_same _ _ _ ((hb3.cell hltE).trans g2)
        have k2 : Below w.heap.size w (w3.setCell ⟨w.heap.size + 1, 0, none⟩ (.int .i64 0)) := (hbW.trans (hb3.mono hbW.size)).setCell (by simp) _
        have k3 := ownsRow_setCell_below (own_below hoW hb3) (a := ⟨w.heap.size + 1, 0, none⟩) (by have := lt_heap HEB.out; simpa using this) (.int .i64 0)
        generalize w3.setCell ⟨w.heap.size + 1, 0, none⟩ (.int .i64 0) = w4 at *
        simp [Leaves, settle, results, Tryz.results34, go_sem, k1]
        refine ⟨?_, k2⟩
        have k4 := own_mono k3 HBW.out.size
        rw [HKE.out.1] at k4
        exact k4
end Go.Proofs.YthifpelappedcaaGreatDoor
namespace Go.Proofs.YthifpelappedcaaGreatDoor
open Go.RowKit Go.WideShapes Rm

set_option maxRecDepth 8000 in
set_option maxHeartbeats 4000000 in
theorem rNames_any (v : Value) (count : Int) (data : List Nat) (ws : Puts) (w : World) (hd : DiskIn w v count data ws) (r : Option (DirV × Int)) (n : Int) (hm : MountIs count data ws r n) :
    Calls Tryz.prog 35 #[v] w fun e w' => (∃ lv, e = .returned (.tuple #[lv, .int .i64 n]) ∧ w'.ownsRow w.heap.size 9 1 lv (namesN r).length (Ts (namesN r))) ∧ Below w.heap.size w w' := by
  obtain ⟨p, c, q, m, rfl, _⟩ := hd.parts
  obtain ⟨i0, hi, hz0, hz1, hz2⟩ := info_parts4 info9s
  have hb0 := below_alloc w (.cells #[.int .i64 count, .slice p data.length c, .slice q ws.length m] 25)
  have hmt := rMount_any _ count data ws _ (hd.below hb0) r n hm
  clear hd
  rcases r with _ | ⟨x, at_⟩
  · have hn0 : (n != 0) = true := by rcases mountIs_none hm with h | h <;> subst h <;> rfl
    clear hm
    go_enter Tryz.func35, Tryz.ntmps35
    go_wp2_with fail
    refine hmt.mono ?_
    rintro e w1 ⟨rfl, hb1⟩
    have HB : Hid (Below w.heap.size w w1) := below_bt hb0 hb1
    clear hb0 hb1 hmt
    go_wp2
    go_ret2
    exact ⟨⟨_, rfl, World.ownsRow_nil _ _ _ _⟩, below_bt HB.out (below_alloc _ _)⟩
  · obtain ⟨hmay, _, hn0, _⟩ := mountIs_some hm
    subst hn0
    have HMAY : Hid (May ltS x) := hmay
    clear hmay hm
    go_enter Tryz.func35, Tryz.ntmps35
    go_wp2_with fail
    refine hmt.mono ?_
    rintro e w1 ⟨ls, lv, hls, rfl, hfo, hb1⟩
    have hfin := hfo.files HMAY.out hls
    obtain ⟨lq, lc, rfl, hfi, _, _, _⟩ := hfin.lies
    obtain ⟨L, hLn⟩ : ∃ L, x.files.length = L := ⟨_, rfl⟩
    have HLN : Hid (x.files.length = L) := hLn
    have hLI : (L : Int) ≤ 32 := by have := HMAY.out.many; omega
    rw [hLn]
    clear hLn
    have bx1 := below_alloc w1 (.cells #[.int .i64 x.gen, .slice lq L lc] 31)
    have HBW0 : Hid (Below w.heap.size w (w1.alloc (.cells #[.int .i64 x.gen, .slice lq L lc] 31))) := below_bt hb0 (below_bt hb1 bx1)
    have HXB : Hid ((w1.alloc (.cells #[.int .i64 x.gen, .slice lq L lc] 31)).heap[w1.heap.size]? = some (.cells #[.int .i64 x.gen, .slice lq L lc] 31 (0, 0))) := heap_alloc_new _ _
    have HFI : Hid (FilesIn (w1.alloc (.cells #[.int .i64 x.gen, .slice lq L lc] 31)) lq x.files) := by
      obtain ⟨q3, c3, e3, h3, _⟩ := (hfin.below bx1).lies
      obtain ⟨e4, _, e5⟩ := Value.slice.inj e3
      rw [← e4] at h3
      exact h3
    clear hb0 hb1 bx1 hmt hls hfo hfin hfi
    go_upto_region 4 with fail
    generalize w1.alloc (.cells #[.int .i64 x.gen, .slice lq L lc] 31) = w0 at *
    generalize w1.heap.size = gD at *
    go_wp2
    go_loopw [6, 7] (fun s i wr => ∃ k : Nat, k ≤ L ∧ i = .int .i64 (k : Int) ∧ ∃ sq sc, s = .slice sq k sc ∧ OnT w0 (.slice sq k sc) (x.files.take k) wr) (fun _ i _ => L - (intOf i).toNat)
    case atStart => exact ⟨0, by omega, rfl, none, 0, rfl, ⟨World.ownsRow_nil _ _ _ _, Below.refl _ _⟩⟩
    case round =>
      obtain ⟨k, hk, rfl, sq, sc, rfl, hon⟩ := hrel
      have HON : Hid (OnT w0 (.slice sq k sc) (x.files.take k) wr) := hon
      obtain ⟨x0, x1⟩ := two_cells ((hon.bel.block _ (lt_heap HXB.out)).trans HXB.out)
      clear hon x0
      by_cases hkl : k < L
      · have hkI : (k : Int) < (L : Int) := by omega
        have hkl2 : k < x.files.length := by have := HLN.out; omega
        obtain ⟨fb, fo, pv, hfe, y0, y1, y2, hpin⟩ := HFI.out.file hkl2
        subst hfe
        have hb := HON.out.bel
        have z0 := (hb.cell (World.block_lt_of_cell? _ _ y0)).trans y0
        have HTK : Hid (x.files.take (k + 1) = x.files.take k ++ [x.files.getD k zeroF]) := take_file hkl2
        have HKN : Hid ((x.files.take k).length = k ∧ k ≤ 32) := ⟨by rw [List.length_take]; omega, by omega⟩
        obtain ⟨f, hf⟩ : ∃ f, x.files.getD k zeroF = f := ⟨_, rfl⟩
        rw [hf] at z0 HTK
        have HKL : Hid (k < L) := hkl
        clear hb y0 y1 y2 hkl hkl2 hk hpin hf
        obtain ⟨fnm, fsz, fpc⟩ := f
        simp only at z0
        have HOW : Hid (OnT w0 (.slice sq k sc) (x.files.take k) (wr.alloc (.cells #[.string fnm] 9))) := HON.out.next (below_alloc _ _)
        have HCL : Hid (∀ j u, [Value.string fnm][j]? = some u → (wr.alloc (.cells #[.string fnm] 9)).cell? ((⟨wr.heap.size, 0, none⟩ : Addr).add j) = some u) := fun j u hj => by
          have hh := heap_alloc_new wr (.cells #[.string fnm] 9)
          have e : (⟨wr.heap.size, 0, none⟩ : Addr).add j = ⟨wr.heap.size, j, none⟩ := by simp [Addr.add]; intro h; omega
          rw [e, Lib.cell_of_heap hh]
          simpa using hj
        have HOWN : Hid ((wr.alloc (.cells #[.string fnm] 9)).ownsRow w0.heap.size 9 1 (.slice sq k sc) k (Ts (x.files.take k))) := by have h := HOW.out.own; rw [HKN.out.1] at h; exact h
        go_wp2_with (at_builtin; go_loud (refine wpList_append_own _ rfl _ _ 78 rfl w0.heap.size 9 i0 _ 1 16 Tryz.underlying78 hi hz0 hz1 hz2 rfl (by omega) (.slice sq k sc) _ _ rfl HOWN.out ⟨wr.heap.size, 0, none⟩ 1 1 [.string fnm] rfl rfl HCL.out (by simp [Value.oneCell']) (by have := HKN.out.2; unfold maxLen; omega) (by have := HKN.out.2; omega) HOW.out.bel.size ?_); intro va ua hoa hga _; have hoa2 : ua.ownsRow w0.heap.size 9 1 va ((x.files.take k).length + 1) (Ts (x.files.take k) ++ [.string (⟨fnm, fsz, fpc⟩ : FileV).name]) := (by rw [HKN.out.1]; exact hoa); have HNX : Hid (OnT w0 va (x.files.take k ++ [⟨fnm, fsz, fpc⟩]) ua) := HOW.out.app hga hoa2; clear hoa hoa2 hga)
        go_roundw
        case rel =>
          have hnx := HNX.out
          rw [← HTK.out] at hnx
          obtain ⟨q5, c5, rfl, _, _, _⟩ := own_form hnx.own
          have hl : (x.files.take (k + 1)).length = k + 1 := by rw [List.length_take]; have := HKL.out; have := HLN.out; omega
          rw [hl] at hnx ⊢
          exact ⟨k + 1, HKL.out, by go_num, q5, c5, rfl, hnx⟩
        case measure => have := HKL.out; simp [intOf]; omega
      · have hkI : (L : Int) ≤ (k : Int) := by omega
        have HKE : Hid (x.files.take k = x.files) := List.take_of_length_le (by have := HLN.out; omega)
        clear hkl hk
        go_wp2
        go_ret2
        refine ⟨⟨_, rfl, ?_⟩, below_bt HBW0.out HON.out.bel⟩
        have k4 := own_mono HON.out.own HBW0.out.size
        rw [HKE.out] at k4
        exact k4
set_option maxRecDepth 8000 in
set_option maxHeartbeats 4000000 in
theorem rRoom_any (v : Value) (count : Int) (data : List Nat) (ws : Puts) (w : World) (hd : DiskIn w v count data ws) (r : Option (DirV × Int)) (n : Int) (hm : MountIs count data ws r n) :
    Calls Tryz.prog 36 #[v] w fun e w' => e = .returned (.tuple #[.int .i64 (roomN count r), .int .i64 n]) ∧ Below w.heap.size w w' := by
  obtain ⟨p, c, q, m, rfl, _⟩ := hd.parts
  have hb0 := below_alloc w (.cells #[.int .i64 count, .slice p data.length c, .slice q ws.length m] 25)
  have HDB0 : Hid ((w.alloc (.cells #[.int .i64 count, .slice p data.length c, .slice q ws.length m] 25)).heap[w.heap.size]? = some (.cells #[.int .i64 count, .slice p data.length c, .slice q ws.length m] 25 (0, 0))) := heap_alloc_new _ _
  have hmt := rMount_any _ count data ws _ (hd.below hb0) r n hm
  clear hd
  rcases r with _ | ⟨x, at_⟩
  · have hn0 : (n != 0) = true := by rcases mountIs_none hm with h | h <;> subst h <;> rfl
    clear hm
    go_enter Tryz.func36, Tryz.ntmps36
    go_wp2_with fail
    refine hmt.mono ?_
    rintro e w1 ⟨rfl, hb1⟩
    have HB : Hid (Below w.heap.size w w1) := below_bt hb0 hb1
    clear hb0 hb1 hmt
    go_wp2
    go_ret2
    exact ⟨rfl, below_bt HB.out (below_alloc _ _)⟩
  · obtain ⟨hmay, hek, hn0, hc96, hok⟩ := mountIs_some hm
    subst hn0
    have HMAY : Hid (May ltS x) := hmay
    have hfd := free_dir hmay ⟨by omega, hok.hi⟩ hek
    have HFD : Hid (errF 80 count (allPcs x.files) = 0 ∧ manyN (resF 80 count (allPcs x.files)) = count - 80 - takenN x.files) := hfd
    have HPL : Hid ((allPcs x.files).length ≤ 4096) := (errK_zero hek).2.1
    clear hmay hm hek hc96 hok hfd
    go_enter Tryz.func36, Tryz.ntmps36
    go_wp2_with fail
    refine hmt.mono ?_
    rintro e w1 ⟨ls, lv, hls, rfl, hfo, hb1⟩
    have hfin := hfo.files HMAY.out hls
    obtain ⟨lq, lc, rfl, hfi, _, _, _⟩ := hfin.lies
    obtain ⟨L, hLn⟩ : ∃ L, x.files.length = L := ⟨_, rfl⟩
    rw [hLn] at hfin ⊢
    clear hLn
    have bx1 := below_alloc w1 (.cells #[.int .i64 x.gen, .slice lq L lc] 31)
    have HBW0 : Hid (Below w.heap.size w (w1.alloc (.cells #[.int .i64 x.gen, .slice lq L lc] 31))) := below_bt hb0 (below_bt hb1 bx1)
    have HXB : Hid ((w1.alloc (.cells #[.int .i64 x.gen, .slice lq L lc] 31)).heap[w1.heap.size]? = some (.cells #[.int .i64 x.gen, .slice lq L lc] 31 (0, 0))) := heap_alloc_new _ _
    have HDB : Hid ((w1.alloc (.cells #[.int .i64 x.gen, .slice lq L lc] 31)).heap[w.heap.size]? = some (.cells #[.int .i64 count, .slice p data.length c, .slice q ws.length m] 25 (0, 0))) := ((below_bt hb1 bx1).block _ (lt_heap HDB0.out)).trans HDB0.out
    have HFI : Hid (FIn (w1.alloc (.cells #[.int .i64 x.gen, .slice lq L lc] 31)) (.slice lq L lc) x.files) := hfin.below bx1
    clear hb0 hb1 bx1 hmt hls hfo hfin hfi HDB0
    go_upto_region 4 with fail
    generalize w1.alloc (.cells #[.int .i64 x.gen, .slice lq L lc] 31) = w5 at *
    generalize w1.heap.size = gX at *
    obtain ⟨gn, hgn⟩ : ∃ gn, x.gen = gn := ⟨_, rfl⟩
    have HGN : Hid (x.gen = gn) := hgn
    rw [hgn] at HXB ⊢
    clear hgn
    have HPC : Hid (∀ w', Below w5.heap.size w5 w' → Calls Tryz.prog 72 #[.agg #[.int .i64 gn, .slice lq L lc]] w' fun e w'' => ∃ r, e = .returned r ∧ POwn w'' w'.heap.size r (allPcs x.files) ∧ Below w'.heap.size w' w'') := fun w' hb => rpieces_any _ x w' ⟨⟨_, by rw [HGN.out], HFI.out.below hb⟩, by have h1 := HMAY.out.lo; have h2 := HMAY.out.hi; unfold wf64; omega⟩ (by have := HPL.out; omega)
    have HFR : Hid (∀ w' r, PIn w' r (allPcs x.files) → Calls Tryz.prog 84 #[.int .i64 80, .int .i64 count, r] w' fun e w'' => ∃ q c, e = .returned (.tuple #[.slice q (resF 80 count (allPcs x.files)).length c, .int .i64 0]) ∧ POwn w'' w'.heap.size (.slice q (resF 80 count (allPcs x.files)).length c) (resF 80 count (allPcs x.files)) ∧ Below w'.heap.size w' w'') := fun w' r hr => by
      have h := Rm.rfree_any 80 count r (allPcs x.files) w' hr
      unfold ListPost at h
      rw [HFD.out.1] at h
      exact h
    have HKS : Hid (∀ w', Below w5.heap.size w5 w' → (w'.cell? ⟨w.heap.size, 0, none⟩ = some (.int .i64 count)) ∧ (w'.cell? ⟨gX, 0, none⟩ = some (.int .i64 gn) ∧ w'.cell? ⟨gX, 1, none⟩ = some (.slice lq L lc)) ∧ Below w5.heap.size w5 w') := fun w' hb => by
      have h1 := (hb.block _ (lt_heap HDB.out)).trans HDB.out
      have h2 := (hb.block _ (lt_heap HXB.out)).trans HXB.out
      exact ⟨Lib.cell_of_heap h1 0, two_cells h2, hb⟩
    go_region_held3 (fun w' => (w'.cell? ⟨w.heap.size, 0, none⟩ = some (.int .i64 count)) ∧ (w'.cell? ⟨gX, 0, none⟩ = some (.int .i64 gn) ∧ w'.cell? ⟨gX, 1, none⟩ = some (.slice lq L lc)) ∧ Below w5.heap.size w5 w')
      (with_reducible first | exact HKS.out _ (Below.refl _ _).drew | exact HKS.out _ (below_dwF hb6) | exact HKS.out _ (below_bt (below_dwF hb6) hb7) | assumption)
      (first
        | (go_at_call 72; refine (HPC.out _ (Below.refl _ _).drew).mono ?_; rintro e w6 ⟨r1, rfl, ho1, hb6⟩)
        | (go_at_call 84; refine (HFR.out _ _ (ho1.pin HFI.out.wfp)).mono ?_; rintro e w7 ⟨fq, fc, rfl, hof, hb7⟩)
        | fail)
    rename_i hh
    have HB7 : Hid (Below w5.heap.size w5 w7) := hh.2.2
    have hmn := Rm.rmany_any _ _ w7 (hof.pin (wf_resF _ _ _))
    rw [HFD.out.2] at hmn
    obtain ⟨K, hK⟩ : ∃ K, count - 80 - takenN x.files = K := ⟨_, rfl⟩
    have HK : Hid (roomN count (some (x, at_)) = K) := hK
    rw [hK] at hmn
    clear hh hb6 hb7 ho1 HPC HFR HKS hK
    go_wp2_with fail
    refine hmn.mono ?_
    rintro e w8 ⟨rfl, hb8⟩
    have HB8 : Hid (Below w.heap.size w w8) := below_bt (below_bt HBW0.out HB7.out) hb8
    clear hb8 hmn
    go_wp2
    go_ret2
    exact ⟨by rw [HK.out]; rfl, HB8.out⟩
end Go.Proofs.YthifpelappedcaaGreatDoor
