/-
  Contracts of the document's Many, Join and Sectors.
-/
import Derived.Test.YtfplpdnhhefbaaaRpFree
namespace Go.Proofs.Ytfplpdnhhefbaaa
open Go.RowKit Go.WideShapes

set_option maxHeartbeats 1000000 in
theorem rmany_any (v : Value) (l : Pcs) (w : World) (hl : PIn w v l) :
    Calls Try.prog 22 #[v] w fun e w' => e = .returned (.tuple #[.int .i64 (manyN l), .int .i64 (errK 4096 l)]) ∧ Below w.heap.size w w' := by
  obtain ⟨q, c, rfl, hq, hlc, hcm, _⟩ := hl.lies
  have hck := rcheck_any 4096 _ l w hl
  unfold maxLen at hcm
  by_cases h2 : errK 4096 l = 0
  · have hz := errK_zero h2
    have hg := hz.2.2
    have hlen := hz.2.1
    have HM : Hid (manyN l = sumP l) := by show _ = _; unfold manyN; rw [if_pos h2]
    rw [h2] at hck ⊢
    clear hl hz h2
    go_enter Try.func22, Try.ntmps22
    go_wp2_with fail
    refine hck.mono ?_
    rintro e w1 ⟨rfl, hb1⟩
    go_wp2
    go_loopw [5, 6] (fun s i wr => ∃ k : Nat, k ≤ l.length ∧ i = .int .i64 k ∧ s = .int .i64 (sumP (l.take k)) ∧ Below w.heap.size w wr) (fun _ i _ => l.length - (intOf i).toNat)
    case atStart => exact ⟨0, by omega, rfl, rfl, hb1⟩
    case round =>
      obtain ⟨k, hk, rfl, rfl, hbel⟩ := hrel
      by_cases hkl : k < l.length
      · obtain ⟨b, o, rfl⟩ := hq.addr (by omega)
        obtain ⟨e1, e2⟩ := (hq.below hbel).at hkl
        have hwn := hg.wn _ (getD_mem' (d := (0, 0)) hkl)
        have hs := sumP_bound (wn_take hg k)
        have hsl : (l.take k).length ≤ 4096 := by simp; omega
        have HS : Hid _ := sum_step hkl
        unfold Wn at hwn
        clear hq hg hck
        generalize l.getD k (0, 0) = y at *
        obtain ⟨a, n⟩ := y
        generalize sumP (l.take k) = S at *
        generalize (l.take k).length = L at *
        simp only at e1 e2 hwn
        go_wp2
        go_roundw
        case rel => exact ⟨k + 1, by omega, by go_num, by rw [HS.out], hbel⟩
        case measure => simp [intOf]; omega
      · obtain rfl : k = l.length := by omega
        rw [List.take_length]
        clear hq hg hck
        go_wp2
        go_ret2
        exact ⟨by rw [HM.out]; rfl, hbel⟩
  · have HM : manyN l = 0 := by unfold manyN; rw [if_neg h2]
    have hne : (errK 4096 l != 0) = true := by simpa using h2
    rw [HM]
    generalize errK 4096 l = E at *
    clear hl hq h2
    go_enter Try.func22, Try.ntmps22
    go_wp2_with fail
    refine hck.mono ?_
    rintro e w1 ⟨rfl, hb1⟩
    go_wp2
    go_ret2
    exact ⟨rfl, hb1⟩
set_option maxHeartbeats 1000000 in
theorem rjoin_any (v : Value) (l : Pcs) (w : World) (hl : PIn w v l) : Calls Try.prog 23 #[v] w (ListPost (resJ l) (errK 4096 l) w) := by
  obtain ⟨q, c, rfl, _⟩ := hl.lies
  have hck := rcheck_any 4096 _ l w hl
  by_cases h2 : errK 4096 l = 0
  · have hz := errK_zero h2
    have HM : resJ l = joinN l := by unfold resJ; rw [if_pos h2]
    rw [h2] at hck ⊢
    rw [HM]
    have hta : ∀ w1, Below w.heap.size w w1 → Calls Try.prog 33 #[.int .i64 4096, .slice q l.length c] w1 (TakenPost 4096 l w1) := fun w1 hb => taken_any 4096 _ l w1 (hl.below hb) (Nat.le_refl _)
    have HG : Hid (Good ((4096 : Nat) : Int) l) := hz.2.2
    have hru : ∀ w1 g, BAt w1 g (cov l) 4096 → Calls Try.prog 34 #[.slice (some ⟨g, 0, none⟩) 4096 4096, .int .i64 0, .bool true, .int .i64 4096] w1 fun e w' => ∃ v', e = .returned v' ∧ POwn w' w1.heap.size v' (joinN l) ∧ Below w1.heap.size w1 w' := by
      intro w1 g hb
      have := runs_any (cov l) true g 4096 0 4096 w1 hb (Nat.zero_le _) (Nat.le_refl _) (Nat.le_refl _)
      rwa [runs_join 4096 l] at this
    generalize joinN l = out at *
    clear hl hz h2 HM
    go_enter Try.func23, Try.ntmps23
    go_wp2_with fail
    refine hck.mono ?_
    rintro e w1 ⟨rfl, hb1⟩
    go_wp2_with fail
    refine (hta w1 hb1).mono ?_
    rintro e w2 hT
    obtain ⟨g, rfl, hrow, hge, hb2⟩ := hT.1 HG.out
    have HRow : Hid (BAt w2 g (cov l) 4096) := hrow
    clear hT hrow
    go_wp2_with fail
    refine (hru w2 g HRow.out).mono ?_
    rintro e w3 ⟨v3, rfl, ho3, hb3⟩
    have HO : Hid (POwn w3 w2.heap.size v3 out) := ho3
    clear ho3 HRow hta hru
    go_wp2
    go_ret2
    exact listPost_own rfl HO.out (below_bt hb1 hb2) hb3
  · have HM : resJ l = [] := by unfold resJ; rw [if_neg h2]
    have hne : (errK 4096 l != 0) = true := by simpa using h2
    rw [HM]
    generalize errK 4096 l = E at *
    clear hl h2
    go_enter Try.func23, Try.ntmps23
    go_wp2_with fail
    refine hck.mono ?_
    rintro e w1 ⟨rfl, hb1⟩
    go_wp2
    go_ret2
    exact listPost_nil rfl rfl hb1
set_option maxHeartbeats 2000000 in
theorem rsectors_any (v : Value) (l : Pcs) (w : World) (hl : PIn w v l) :
    Calls Try.prog 24 #[v] w fun e w' => ∃ q c, e = .returned (.tuple #[.slice q (secsN l).length c, .int .i64 (errK 4096 l)]) ∧ IOwn w' w.heap.size (.slice q (secsN l).length c) (secsN l) ∧ Below w.heap.size w w' := by
  obtain ⟨q, c, rfl, hq, hlc, hcm, _⟩ := hl.lies
  have hck := rcheck_any 4096 _ l w hl
  unfold maxLen at hcm
  obtain ⟨i0, hi, hz0, hz1, hz2⟩ := info_parts' info_int
  by_cases h2 : errK 4096 l = 0
  · have hz := errK_zero h2
    have HG : Hid (Good 4096 l) := hz.2.2
    have hlen := hz.2.1
    have HM : secsN l = secs l := by unfold secsN; rw [if_pos h2]
    rw [h2] at hck ⊢
    rw [HM]
    clear hl hz h2 HM
    go_enter Try.func24, Try.ntmps24
    go_wp2_with fail
    refine hck.mono ?_
    rintro e w1 ⟨rfl, hb1⟩
    clear hck
    go_wp2
    go_loopw [5, 6] (fun out i wr => ∃ k : Nat, k ≤ l.length ∧ i = .int .i64 k ∧ IOwn wr w.heap.size out (secs (l.take k)) ∧ Below w.heap.size w wr) (fun _ i _ => l.length - (intOf i).toNat)
    case atStart => exact ⟨0, by omega, rfl, iown_nil _ _, hb1⟩
    case round =>
      obtain ⟨k, hk, rfl, hout, hbel⟩ := hrel
      by_cases hkl : k < l.length
      · obtain ⟨b, o, rfl⟩ := hq.addr (by omega)
        have hwn := wpIn HG.out hkl
        have HCE : Hid (∀ w', Below w.heap.size w w' → w'.cell? ⟨b, o + k * 2, none⟩ = some (.int .i64 (l.getD k (0, 0)).1) ∧ w'.cell? ⟨b, o + k * 2 + 1, none⟩ = some (.int .i64 (l.getD k (0, 0)).2)) := fun w' hb => (hq.below hb).at hkl
        have HS0 : Hid _ := secsI_zero l k
        have HST : Hid (∀ i, secsI l k (i + 1) = secsI l k i ++ [(l.getD k (0, 0)).1 + (i : Nat)]) := secsI_step l k
        have HSF : Hid _ := secsI_full hkl
        have HSL : Hid (∀ i, i ≤ 4096 → (secsI l k i).length ≤ 16781312) := fun i hi => secsI_len HG.out hlen hi
        have HOUT : Hid (IOwn wr w.heap.size u5 (secsI l k 0)) := by show IOwn _ _ _ _; rw [HS0.out]; exact hout
        have HBEL : Hid (Below w.heap.size w wr) := hbel
        clear hq hout hbel HS0
        generalize hy : l.getD k (0, 0) = y at *
        obtain ⟨a, n⟩ := y
        simp only at hwn
        obtain ⟨m, rfl⟩ := Int.eq_ofNat_of_zero_le (show 0 ≤ n by omega)
        go_wp2
        go_loopw [5, 7] (fun out i wq => ∃ j : Nat, j ≤ m ∧ i = .int .i64 j ∧ IOwn wq w.heap.size out (secsI l k j) ∧ Below w.heap.size w wq) (fun _ i _ => m - (intOf i).toNat)
        case atStart => exact ⟨0, by omega, rfl, HOUT.out, HBEL.out⟩
        case round =>
          clear HOUT HBEL
          obtain ⟨j, hj, rfl, hout, hbel⟩ := hrel
          have HOUT : Hid (IOwn wr w.heap.size u5 (secsI l k j)) := hout
          have HBEL : Hid (Below w.heap.size w wr) := hbel
          obtain ⟨e1, e2⟩ := HCE.out wr hbel
          have hlj := HSL.out j (by omega)
          have HSJ : Hid _ := HST.out j
          clear hout hbel
          by_cases hjm : j < m
          · obtain ⟨L, hL⟩ : ∃ L, (secsI l k j).length = L := ⟨_, rfl⟩
            have HL : Hid ((secsI l k j).length = L) := hL
            rw [hL] at hlj
            clear hL
            go_wp2_with (at_builtin; refine wpList_append_lies _ rfl _ _ 30 rfl w.heap.size 3 i0 _ 1 8 Try.underlying30 hi hz0 hz1 hz2 rfl (by omega) u5 L (Is (secsI l k j)) rfl (iown_at HL.out (HOUT.out.below (below_alloc _ _))) ⟨wr.heap.size, 0, none⟩ 1 1 [.int .i64 (a + j)] rfl rfl (World.news_of_block (cs := #[.int .i64 (a + j)]) (heap_alloc_new _ _)) (one_one' _) (by omega) (by unfold maxLen; omega) (by omega) (by have := HBEL.out.size; simp; omega) (wr.heap.size + 1) (by simp) ?_)
            intro g1 cap1 w2 hown1 hgrow1 hat1 hlt1
            have R1 : Hid (IOwn w2 w.heap.size (.slice (some ⟨g1, 0, none⟩) (L + 1) cap1) (secsI l k (j + 1))) := by show IOwn _ _ _ _; rw [HSJ.out]; exact iown_push HL.out hown1
            have R4 : Hid (Below w.heap.size w w2) := (HBEL.out.alloc HBEL.out.size _).grown hgrow1 (by have := HBEL.out.size; simp; omega) (fun x hx => (HOUT.out.lt x hx).1)
            clear hown1 hgrow1 hat1 hlt1 HOUT HBEL e1 e2
            go_wp2
            go_roundw
            case rel => exact ⟨j + 1, by omega, by go_num, R1.out, R4.out⟩
            case measure => simp [intOf]; omega
          · obtain rfl : j = m := by omega
            have R1 : Hid (IOwn wr w.heap.size u5 (secs (l.take (k + 1)))) := by
              have h := HOUT.out
              have e := HSF.out
              simp only [Int.toNat_natCast] at e
              rwa [e] at h
            clear HOUT HSF HST HSJ HSL HCE
            go_wp2
            go_roundw
            case rel => exact ⟨k + 1, by omega, by go_num, R1.out, HBEL.out⟩
            case measure => simp [intOf]; omega
      · obtain rfl : k = l.length := by omega
        rw [List.take_length] at hout
        have HOUT : Hid (IOwn wr w.heap.size u5 (secs l)) := hout
        clear hout hq
        go_wp2
        go_ret2
        obtain ⟨q', m', e, _⟩ := HOUT.out.form
        subst e
        exact ⟨q', m', rfl, HOUT.out, hbel⟩
  · have HM : secsN l = [] := by unfold secsN; rw [if_neg h2]
    have hne : (errK 4096 l != 0) = true := by simpa using h2
    rw [HM]
    generalize errK 4096 l = E at *
    clear hl hq h2
    go_enter Try.func24, Try.ntmps24
    go_wp2_with fail
    refine hck.mono ?_
    rintro e w1 ⟨rfl, hb1⟩
    go_wp2
    go_ret2
    exact ⟨none, 0, rfl, iown_nil _ _, hb1⟩
end Go.Proofs.Ytfplpdnhhefbaaa
