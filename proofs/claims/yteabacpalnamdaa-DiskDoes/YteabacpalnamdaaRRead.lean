/-
  Contracts of the document's own answers Check, New, asked, sure, Now, Read, Sure.
-/
import Derived.Test.YteabacpalnamdaaRTwin2
namespace Go.Proofs.Yteabacpalnamdaa
open Go.RowKit Go.WideShapes

theorem may_yes (v : Value) (count : Int) (data : List Nat) (ws : Puts) (w : World) (hd : DiskIn w v count data ws) (ho : Okay count data ws) :
    Calls Try.prog 42 #[v] w fun e w' => e = .returned (.bool true) ∧ Below w.heap.size w w' := may_any v count data ws w hd true ⟨fun _ => ho, fun _ => rfl⟩
theorem may_no (v : Value) (count : Int) (data : List Nat) (ws : Puts) (w : World) (hd : DiskIn w v count data ws) (ho : ¬ Okay count data ws) :
    Calls Try.prog 42 #[v] w fun e w' => e = .returned (.bool false) ∧ Below w.heap.size w w' := may_any v count data ws w hd false ⟨fun h => (by cases h), fun h => absurd h ho⟩
theorem box1 {w w1 : World} {o : Obj} (h : Below (w.alloc o).heap.size (w.alloc o) w1) : Below (w.heap.size + 1) (w.alloc o) w1 := by simpa using h

set_option maxHeartbeats 1000000 in
theorem rcheck_any (v : Value) (count : Int) (data : List Nat) (ws : Puts) (w : World) (hd : DiskIn w v count data ws) :
    Calls Try.prog 24 #[v] w fun e w' => e = .returned (.int .i64 (errC count data ws)) ∧ Below w.heap.size w w' := by
  obtain ⟨p, c, q, m, rfl, _⟩ := hd.parts
  have HD : Hid _ := hd
  clear hd
  by_cases ho : Okay count data ws
  · have HE : Hid _ := errC_ok ho
    go_enter Try.func24, Try.ntmps24
    go_wp2_with fail
    refine (may_yes _ count data ws _ (HD.out.below (below_alloc w _)) ho).mono ?_
    rintro e w1 ⟨rfl, hb1⟩
    go_wp2
    go_ret
    exact ⟨by rw [HE.out]; rfl, box_below (box1 hb1)⟩
  · have HE : Hid _ := errC_bad ho
    go_enter Try.func24, Try.ntmps24
    go_wp2_with fail
    refine (may_no _ count data ws _ (HD.out.below (below_alloc w _)) ho).mono ?_
    rintro e w1 ⟨rfl, hb1⟩
    go_wp2
    go_ret
    exact ⟨by rw [HE.out]; rfl, box_below (box1 hb1)⟩
set_option maxHeartbeats 1000000 in
theorem asked_any (v : Value) (n : Int) (count : Int) (data : List Nat) (ws : Puts) (w : World) (hd : DiskIn w v count data ws) :
    Calls Try.prog 39 #[v, .int .i64 n] w fun e w' => e = .returned (.int .i64 (errS count data ws n)) ∧ Below w.heap.size w w' := by
  obtain ⟨p, c, q, m, rfl, _⟩ := hd.parts
  have HD : Hid _ := hd
  clear hd
  by_cases ho : Okay count data ws
  · by_cases h1 : 0 ≤ n
    · by_cases h2 : n < count
      · have HE : Hid _ := errS_ok ho ⟨h1, h2⟩
        go_enter Try.func39, Try.ntmps39
        go_wp2_with fail
        refine (may_yes _ count data ws _ (HD.out.below (below_alloc w _)) ho).mono ?_
        rintro e w1 ⟨rfl, hb1⟩
        obtain ⟨c0, c1, c2⟩ := box_cells (box1 hb1)
        go_wp2
        go_ret
        exact ⟨by rw [HE.out]; rfl, box_below (box1 hb1)⟩
      · have HE : Hid _ := errS_range ho (fun h => h2 h.2)
        go_enter Try.func39, Try.ntmps39
        go_wp2_with fail
        refine (may_yes _ count data ws _ (HD.out.below (below_alloc w _)) ho).mono ?_
        rintro e w1 ⟨rfl, hb1⟩
        obtain ⟨c0, c1, c2⟩ := box_cells (box1 hb1)
        go_wp2
        go_ret
        exact ⟨by rw [HE.out]; rfl, box_below (box1 hb1)⟩
    · have HE : Hid _ := errS_range ho (fun h => h1 h.1)
      go_enter Try.func39, Try.ntmps39
      go_wp2_with fail
      refine (may_yes _ count data ws _ (HD.out.below (below_alloc w _)) ho).mono ?_
      rintro e w1 ⟨rfl, hb1⟩
      obtain ⟨c0, c1, c2⟩ := box_cells (box1 hb1)
      go_wp2
      go_ret
      exact ⟨by rw [HE.out]; rfl, box_below (box1 hb1)⟩
  · have HE : Hid _ := errS_bad n ho
    go_enter Try.func39, Try.ntmps39
    go_wp2_with fail
    refine (may_no _ count data ws _ (HD.out.below (below_alloc w _)) ho).mono ?_
    rintro e w1 ⟨rfl, hb1⟩
    go_wp2
    go_ret
    exact ⟨by rw [HE.out]; rfl, box_below (box1 hb1)⟩
theorem asked_fails (v : Value) (n : Int) (count : Int) (data : List Nat) (ws : Puts) (w : World) (hd : DiskIn w v count data ws) (er : Int) (he : errS count data ws n = er) :
    Calls Try.prog 39 #[v, .int .i64 n] w fun e w' => e = .returned (.int .i64 er) ∧ Below w.heap.size w w' := by
  subst he; exact asked_any v n count data ws w hd
set_option maxHeartbeats 1000000 in
theorem rsure_err (v : Value) (n : Int) (count : Int) (data : List Nat) (ws : Puts) (w : World) (hd : DiskIn w v count data ws) (er : Int) (hne : er ≠ 0) (he : errS count data ws n = er) :
    Calls Try.prog 22 #[v, .int .i64 n] w fun e w' => e = .returned (.tuple #[.slice none 0 0, .int .i64 er]) ∧ Below w.heap.size w w' := by
  obtain ⟨p, c, q, m, rfl, _⟩ := hd.parts
  have HD : Hid _ := hd
  have HE : Hid (errS count data ws n = er) := he
  have hnb : (er != 0) = true := by simpa using hne
  clear hd he hne
  go_enter Try.func22, Try.ntmps22
  go_wp2_with fail
  refine (asked_fails _ n count data ws _ (HD.out.below (below_alloc w _)) er HE.out).mono ?_
  rintro e w1 ⟨rfl, hb1⟩
  go_wp2
  go_ret2
  exact ⟨rfl, box_below (box1 hb1)⟩
set_option maxHeartbeats 1000000 in
theorem rread_err (v : Value) (n : Int) (count : Int) (data : List Nat) (ws : Puts) (w : World) (hd : DiskIn w v count data ws) (er : Int) (hne : er ≠ 0) (he : errS count data ws n = er) :
    Calls Try.prog 21 #[v, .int .i64 n] w fun e w' => e = .returned (.tuple #[.slice none 0 0, .int .i64 er]) ∧ Below w.heap.size w w' := by
  obtain ⟨p, c, q, m, rfl, _⟩ := hd.parts
  have HD : Hid _ := hd
  have HE : Hid (errS count data ws n = er) := he
  have hnb : (er != 0) = true := by simpa using hne
  clear hd he hne
  go_enter Try.func21, Try.ntmps21
  go_wp2_with fail
  refine (asked_fails _ n count data ws _ (HD.out.below (below_alloc w _)) er HE.out).mono ?_
  rintro e w1 ⟨rfl, hb1⟩
  go_wp2
  go_ret2
  exact ⟨rfl, box_below (box1 hb1)⟩
set_option maxHeartbeats 1000000 in
theorem rsure0_any (v : Value) (n : Nat) (count : Int) (data : List Nat) (ws : Puts) (w : World) (hd : DiskIn w v count data ws) (ho : Okay count data ws) (hn : (n : Int) < count) :
    Calls Try.prog 41 #[v, .int .i64 n] w fun e w' => (∃ v', e = .returned v' ∧ RowG w' w.heap.size v' (secN data n)) ∧ Below w.heap.size w w' := by
  obtain ⟨p, c, q, m, rfl, hb, hc, hcm, _⟩ := hd.parts
  have hlen := ho.len
  have hhi := ho.hi
  have hnl : (n + 1) * 128 ≤ data.length := by omega
  have HL : Hid ((secN data n).length = 128) := secN_len hnl
  obtain ⟨b, o, rfl⟩ := hb.addr (by omega)
  have HB : Hid (BIn w (some ⟨b, o, none⟩) data) := hb
  have HLL : Hid ((secN data n).length ≤ 140737488355328) := by show _ ≤ _; rw [HL.out]; omega
  have HE : Hid (128 = (secN data n).length) := HL.out.symm
  clear hd ho hlen hb
  go_enter Try.func41, Try.ntmps41
  go_wp2_with fail
  refine (rbytes_any _ _ _ (secN data n) _ HE.out (bin_sec (HB.out.below (below_alloc w _)) n) (fun h => by cases h) HLL.out).mono ?_
  rintro e w1 ⟨v', rfl, hg, hb1⟩
  have HG : Hid _ := hg.mono (show w.heap.size ≤ _ by simp)
  clear hg
  go_wp2
  go_ret
  exact ⟨⟨_, rfl, HG.out⟩, box_below (box1 hb1)⟩
set_option maxHeartbeats 1000000 in
theorem rsure_ok (v : Value) (n : Nat) (count : Int) (data : List Nat) (ws : Puts) (w : World) (hd : DiskIn w v count data ws) (ho : Okay count data ws) (hn : (n : Int) < count) :
    Calls Try.prog 22 #[v, .int .i64 n] w fun e w' => (∃ v', e = .returned (.tuple #[v', .int .i64 0]) ∧ RowG w' w.heap.size v' (secN data n)) ∧ Below w.heap.size w w' := by
  obtain ⟨p, c, q, m, rfl, _⟩ := hd.parts
  have HD : Hid _ := hd
  have HE : Hid (errS count data ws n = 0) := errS_ok ho ⟨by omega, hn⟩
  clear hd
  go_enter Try.func22, Try.ntmps22
  go_wp2_with fail
  refine (asked_fails _ n count data ws _ (HD.out.below (below_alloc w _)) 0 HE.out).mono ?_
  rintro e w1 ⟨rfl, hb1⟩
  obtain ⟨c0, c1, c2⟩ := box_cells (box1 hb1)
  have hz := box_size (box1 hb1)
  go_wp2_with fail
  refine (rsure0_any _ n count data ws _ (HD.out.below (box_below (box1 hb1))) ho hn).mono ?_
  rintro e w2 ⟨⟨v2, rfl, hg2⟩, hb2⟩
  have HG : Hid _ := hg2.mono (show w.heap.size ≤ w1.heap.size by omega)
  clear hg2
  have hbf := (box_below (box1 hb1)).trans (hb2.mono (by omega))
  go_wp2
  go_ret2
  exact ⟨⟨_, rfl, HG.out⟩, hbf⟩
set_option maxHeartbeats 1000000 in
theorem rnow_any (v : Value) (n : Nat) (count : Int) (data : List Nat) (ws : Puts) (w : World) (hd : DiskIn w v count data ws) (ho : Okay count data ws) (hn : (n : Int) < count) :
    Calls Try.prog 40 #[v, .int .i64 n] w fun e w' => (∃ v', e = .returned v' ∧ RowG w' w.heap.size v' (nowN data ws n)) ∧ Below w.heap.size w w' := by
  obtain ⟨p, c, q, m, rfl, hb, hc, _, _, hqp, hqm, hqmm, _⟩ := hd.parts
  have hfew := ho.few
  have HQ : Hid (PutsIn w q ws) := hqp
  have HO : Hid _ := ho
  have HD : Hid _ := hd
  clear hd ho hb hqp
  go_enter Try.func40, Try.ntmps40
  go_wp2
  go_loopw [5] (fun i wr => ∃ j : Nat, j ≤ ws.length ∧ i = .int .i64 ((j : Int) - 1) ∧ Hid (nowK ws n ws.length = nowK ws n j) ∧ Below (w.heap.size + 1) (w.alloc (.cells #[.int .i64 count, .slice p data.length c, .slice q ws.length m] 25)) wr) (fun i _ => (intOf i + 1).toNat)
  case atStart => exact ⟨ws.length, by omega, rfl, rfl, Below.refl _ _⟩
  case round =>
    obtain ⟨j, hj, rfl, HN, hbk⟩ := hrel
    obtain ⟨r0, r1, r2⟩ := box_cells hbk
    have hz := box_size hbk
    by_cases hj0 : 0 < j
    · obtain ⟨t, rfl⟩ : ∃ t, j = t + 1 := ⟨j - 1, by omega⟩
      rw [show ((t + 1 : Nat) : Int) - 1 = (t : Int) from by omega]
      have htl : t < ws.length := by omega
      have hq := HQ.out.below (box_below hbk)
      obtain ⟨bq, oq, rfl⟩ := hq.addr (by omega)
      obtain ⟨e1, pk, ck, e2, hbi, _, _, hpk⟩ := hq.at htl
      rw [← Nat.add_assoc] at e2
      have hwt := HO.out.wait htl
      have HK : Hid (nowK ws n (t + 1) = if (ws.getD t (0, [])).1 = n then some (ws.getD t (0, [])).2 else nowK ws n t) := rfl
      generalize ws.getD t (0, []) = y at *
      obtain ⟨s, xs⟩ := y
      simp only at e1 e2 hbi hwt
      have HX : Hid (xs.length ≤ 140737488355328) := by show _ ≤ _; rw [hwt.2.2]; omega
      have HBI : Hid (BIn wr pk xs) := hbi
      have HPK : Hid (pk = none → ck = 0) := hpk
      clear hwt hbi hq hpk
      by_cases hs : s = n
      · have HF : Hid (nowN data ws n = xs) := nowN_some (by rw [HN.out, HK.out]; simp [hs])
        have hsb : (s == (n : Int)) = true := by simpa using hs
        clear hs
        go_wp2_with fail
        refine (rbytes_any pk ck _ xs _ rfl HBI.out HPK.out HX.out).mono ?_
        rintro e w3 ⟨v3, rfl, hg3, hb3⟩
        have HG : Hid _ := hg3.mono (show w.heap.size ≤ wr.heap.size by omega)
        have hb4 := (box_below hbk).trans (hb3.mono (by omega))
        clear hg3 hb3
        go_wp2
        go_ret
        refine ⟨⟨_, rfl, ?_⟩, hb4⟩
        rw [HF.out]
        exact HG.out
      · have HF : Hid (nowK ws n ws.length = nowK ws n t) := by show _ = _; rw [HN.out, HK.out]; simp [hs]
        have hsb : (s == (n : Int)) = false := by simpa using hs
        clear hs
        go_wp2
        go_roundw
        case rel => exact ⟨t, by omega, by go_num, HF, hbk⟩
        case measure => simp [intOf]
    · obtain rfl : j = 0 := by omega
      rw [show (((0 : Nat) : Int) - 1) = -1 from by omega]
      have HF : Hid (nowN data ws n = secN data n) := nowN_none (by rw [HN.out]; rfl)
      clear HN
      go_wp2_with fail
      refine (rsure0_any _ n count data ws _ (HD.out.below (box_below hbk)) HO.out hn).mono ?_
      rintro e w3 ⟨⟨v3, rfl, hg3⟩, hb3⟩
      have HG : Hid _ := hg3.mono (show w.heap.size ≤ wr.heap.size by omega)
      have hb4 := (box_below hbk).trans (hb3.mono (by omega))
      clear hg3 hb3
      go_wp2
      go_ret
      refine ⟨⟨_, rfl, ?_⟩, hb4⟩
      rw [HF.out]
      exact HG.out
set_option maxHeartbeats 1000000 in
theorem rread_ok (v : Value) (n : Nat) (count : Int) (data : List Nat) (ws : Puts) (w : World) (hd : DiskIn w v count data ws) (ho : Okay count data ws) (hn : (n : Int) < count) :
    Calls Try.prog 21 #[v, .int .i64 n] w fun e w' => (∃ v', e = .returned (.tuple #[v', .int .i64 0]) ∧ RowG w' w.heap.size v' (nowN data ws n)) ∧ Below w.heap.size w w' := by
  obtain ⟨p, c, q, m, rfl, _⟩ := hd.parts
  have HD : Hid _ := hd
  have HE : Hid (errS count data ws n = 0) := errS_ok ho ⟨by omega, hn⟩
  clear hd
  go_enter Try.func21, Try.ntmps21
  go_wp2_with fail
  refine (asked_fails _ n count data ws _ (HD.out.below (below_alloc w _)) 0 HE.out).mono ?_
  rintro e w1 ⟨rfl, hb1⟩
  obtain ⟨c0, c1, c2⟩ := box_cells (box1 hb1)
  have hz := box_size (box1 hb1)
  go_wp2_with fail
  refine (rnow_any _ n count data ws _ (HD.out.below (box_below (box1 hb1))) ho hn).mono ?_
  rintro e w2 ⟨⟨v2, rfl, hg2⟩, hb2⟩
  have HG : Hid _ := hg2.mono (show w.heap.size ≤ w1.heap.size by omega)
  clear hg2
  have hbf := (box_below (box1 hb1)).trans (hb2.mono (by omega))
  go_wp2
  go_ret2
  exact ⟨⟨_, rfl, HG.out⟩, hbf⟩
set_option maxRecDepth 100000 in
set_option maxHeartbeats 400000 in
theorem rnew_bad (count : Int) (w : World) (h : ¬ (1 ≤ count ∧ count ≤ 4096)) :
    Calls Try.prog 20 #[.int .i64 count] w fun e w' => e = .returned (.tuple #[zeroDisk, .int .i64 20]) ∧ Below w.heap.size w w' := by
  by_cases h1 : 1 ≤ count
  · have h2 : 4096 < count := by omega
    go_enter Try.func20, Try.ntmps20
    go_wp2
    (try simp only [Exit.inBlock, Exit.then])
    refine bodyPost_ret (v := .tuple #[zeroDisk, .int .i64 20]) ?_ rfl ⟨rfl, below_alloc _ _⟩
    rw [results_cell_tmp rfl]
    go_simp
  · go_enter Try.func20, Try.ntmps20
    go_wp2
    (try simp only [Exit.inBlock, Exit.then])
    refine bodyPost_ret (v := .tuple #[zeroDisk, .int .i64 20]) ?_ rfl ⟨rfl, below_alloc _ _⟩
    rw [results_cell_tmp rfl]
    go_simp
set_option maxRecDepth 100000 in
set_option maxHeartbeats 400000 in
theorem rnew_ok (n : Nat) (w : World) (h1 : 1 ≤ n) (h2 : n ≤ 4096) :
    Calls Try.prog 20 #[.int .i64 n] w fun e w' => ∃ v, e = .returned (.tuple #[v, .int .i64 0]) ∧ DiskNew w' w.heap.size v n (zeroL n) [] ∧ Below w.heap.size w w' := by
  obtain ⟨i0, hi, hz0, hz1, hz2⟩ := info_parts info_u8
  have h : 1 ≤ (n : Int) ∧ (n : Int) ≤ 4096 := by omega
  go_enter Try.func20, Try.ntmps20
  go_wp2_with (at_make; refine wpList_make_full _ rfl _ _ 22 rfl (w.heap.size + 1) 5 i0 (.int .u8 0) 1 Try.underlying22 hi hz0 hz1 .i64 .i64 _ _ (n * 128) rfl rfl (by omega) (by omega) (by rw [hz2]; omega) (by unfold maxLen; omega) (by simp) ?_)
  intro w1 hown hgrow
  have hrow := row_full hown
  rw [zeros_made] at hrow
  have hb1 : Below (w.heap.size + 1) (w.alloc (.cells #[.int .i64 0, .slice none 0 0, .slice none 0 0] 25)) w1 := (Below.refl _ _).grown hgrow (by simp) (fun k hk => by cases hk)
  obtain ⟨c0, c1, c2⟩ := box_cells hb1
  obtain ⟨f0, f1, f2⟩ := box_free hb1
  have HR : Hid (w1.heap[w.heap.size + 1]? = some (.cells (Bs (zeroL n)).toArray 5 (0, 0))) := hrow
  clear hown hgrow hrow
  go_wp2
  (try simp only [Exit.inBlock, Exit.then])
  refine bodyPost_ret (v := .tuple #[.agg #[.int .i64 n, .slice (some ⟨w.heap.size + 1, 0, none⟩) (n * 128) (n * 128), .slice none 0 0], .int .i64 0]) ?_ rfl ⟨_, rfl, ?_, ?_⟩
  · rw [results_cell_tmp rfl]
    go_simp
  · refine DiskNew.set3 ?_ (box_block hb1) _ _ _
    refine ⟨⟨w.heap.size + 1, none, 0, [], by rw [zeroL_len]; rfl, by omega, HR.out, putsOwn_nil _ _, fun i hi => absurd hi (by simp)⟩, ?_⟩
    intro c hc
    rw [(List.mem_replicate.1 hc).2]
    decide
  · exact set3_below (box_below hb1) (Nat.le_refl _) _ _ _
end Go.Proofs.Yteabacpalnamdaa
