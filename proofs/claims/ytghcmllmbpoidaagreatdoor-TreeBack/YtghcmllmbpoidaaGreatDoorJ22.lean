import Derived.Test.YtghcmllmbpoidaaGreatDoorJ21
namespace Go.Proofs.YtghcmllmbpoidaaGreatDoor
open Go.RowKit Go.WideShapes Rm
theorem fnil (w : World) : FIn w (.slice none 0 0) [] := ⟨⟨none, 0, rfl, fun h => absurd h (by simp), by simp, by unfold maxLen; omega, fun _ => rfl⟩, by simp⟩
theorem told_nil : Told [] := ⟨by simp, by simp, by simp, by simp, by simp⟩
theorem empty_acts : secsA 0 (bytesN emptyD) 8 ++ [flA] = turnA [] 0 emptyD := by unfold turnA; rw [if_pos rfl]; rfl
theorem inside_len : (insideN []).length = 1 := by decide +kernel
theorem empty_bytes : ∀ c ∈ bytesN emptyD, c < 256 := wrote_bytes (Wrote.ok empty_may (by decide +kernel))
theorem empty_few : (turnA [] 0 emptyD).length ≤ 9 := by decide +kernel
theorem inside_nil (w' : World) : Calls Tryz.prog 65 #[.slice none 0 0] w' fun e w'' => ∃ r, e = .returned r ∧ w''.ownsRow w'.heap.size 5 1 r 1 (Bs (insideN [])) ∧ Below w'.heap.size w' w'' := by
  have h := inside_any (.slice none 0 0) [] w' (fnil w') told_nil
  rw [inside_len] at h
  exact h
theorem bytes_one : bytesN emptyD = sectsN 1 (padN (insideN [])) 8 := rfl
theorem parted_one (w' : World) (q2 : Option Addr) (m2 : Nat) (hb : BIn w' q2 (insideN [])) : Calls Tryz.prog 64 #[.int .i64 1, .slice q2 1 m2] w' fun e w'' => ∃ r, e = .returned r ∧ w''.ownsRow w'.heap.size 5 1 r 1024 (Bs (bytesN emptyD)) ∧ Below w'.heap.size w' w'' := by
  have h := parted_any 1 q2 m2 (insideN []) w' (by decide) hb (by rw [inside_len]; decide)
  rw [← bytes_one, inside_len, bytes_len empty_dir] at h
  exact h
theorem slotActs_empty (w' : World) (q3 : Option Addr) (m3 : Nat) (hb : BIn w' q3 (bytesN emptyD)) (h3 : 1024 ≤ m3) (h4 : m3 ≤ maxLen) : Calls Tryz.prog 63 #[.int .i64 0, .slice q3 1024 m3] w' fun e w'' => ∃ v l, e = .returned v ∧ OnA w' v l w'' ∧ l.map Prod.fst = turnA [] 0 emptyD := by
  refine (slotActs_any 0 q3 m3 (bytesN emptyD) w' (by decide) hb (bytes_len empty_dir) h3 h4).mono ?_
  rintro e w'' ⟨v, l, rfl, ha, hm⟩
  exact ⟨v, l, rfl, ha, by rw [hm, empty_acts]⟩
structure FmtP (w : World) (n : Nat) (e : Ending) (w' : World) : Prop where
  ex : ∃ v D, e = .returned (.tuple #[v, .nilIface]) ∧ FmtIs n D ∧ DiskF w.heap.size w' v (n : Int) D [] ∧ Below w.heap.size w w'
set_option maxRecDepth 8000 in
set_option maxHeartbeats 12000000 in
theorem format_ok (n : Nat) (w : World) (h1 : 96 ≤ n) (h2 : n ≤ 4096) :
    Calls Tryz.prog 33 #[.int .i64 (n : Int)] w fun e w' => FmtP w n e w' := by
  obtain ⟨D, hD⟩ := fmt_ex h1 h2
  have h1I : (96 : Int) ≤ (n : Int) := by omega
  have h2I : (n : Int) ≤ 4096 := by omega
  have HD : Hid (FmtIs n D ∧ 96 ≤ n ∧ n ≤ 4096) := ⟨hD, h1, h2⟩
  have hnew := new_ok n (w.alloc (.cells #[.int .i64 0, .slice none 0 0, .slice none 0 0] 35)) (by omega) h2
  have HR : Hid ((w.alloc (.cells #[.int .i64 0, .slice none 0 0, .slice none 0 0] 35)).heap[w.heap.size]? = some (.cells #[.int .i64 0, .slice none 0 0, .slice none 0 0] 35 (0, 0))) := heap_alloc_new _ _
  clear h1 h2 hD
  go_enter Tryz.func33, Tryz.ntmps33
  go_wp2_with fail
  refine hnew.mono ?_
  rintro e w1 ⟨v1, rfl, hn1, hb1⟩
  have hF1 := hn1.fresh (zeros_okay HD.out.2.1 HD.out.2.2)
  have hI1 := hF1.self
  obtain ⟨p, c, q, m, rfl, _⟩ := hI1.parts
  simp only [List.length_nil] at *
  obtain ⟨dl, hdl⟩ : ∃ k, (List.replicate (n * 128) 0).length = k := ⟨_, rfl⟩
  rw [hdl] at hI1 hF1 ⊢
  have HB1 : Hid (Below w.heap.size w w1) := below_bt (below_alloc _ _) hb1
  have HRB : Hid (∀ w', Below w1.heap.size w1 w' → w'.heap[w.heap.size]? = some (.cells #[.int .i64 0, .slice none 0 0, .slice none 0 0] 35 (0, 0))) := fun w' hb => (hb.block _ (lt_heap ((hb1.block _ (lt_heap HR.out)).trans HR.out))).trans ((hb1.block _ (lt_heap HR.out)).trans HR.out)
  have HDI : Hid (∀ w', Below w1.heap.size w1 w' → DiskIn w' (.agg #[.int .i64 (n : Int), .slice p dl c, .slice q 0 m]) (n : Int) (List.replicate (n * 128) 0) []) := fun w' hb => hI1.below hb
  have HBA : Hid (Below w1.heap.size w1 (w1.alloc (.cells #[.int .i64 (n : Int), .slice p dl c, .slice q 0 m] 35))) := below_alloc _ _
  obtain ⟨wB, hwB⟩ : ∃ wB, w1.alloc (.cells #[.int .i64 (n : Int), .slice p dl c, .slice q 0 m] 35) = wB := ⟨_, rfl⟩
  have HBX : Hid (wB.heap[w1.heap.size]? = some (.cells #[.int .i64 (n : Int), .slice p dl c, .slice q 0 m] 35 (0, 0))) := by show _ = _; rw [← hwB]; exact heap_alloc_new _ _
  rw [hwB] at HBA
  have HKS : Hid (∀ w', Below wB.heap.size wB w' → (w'.cell? ⟨w1.heap.size, 0, none⟩ = some (.int .i64 (n : Int)) ∧ w'.cell? ⟨w1.heap.size, 1, none⟩ = some (.slice p dl c) ∧ w'.cell? ⟨w1.heap.size, 2, none⟩ = some (.slice q 0 m))) := fun w' hb => three_cells ((hb.block _ (lt_heap HBX.out)).trans HBX.out)
  obtain ⟨I, hI⟩ : ∃ I, insideN [] = I := ⟨_, rfl⟩
  obtain ⟨B, hB⟩ : ∃ B, bytesN emptyD = B := ⟨_, rfl⟩
  obtain ⟨A, hA⟩ : ∃ A, turnA [] 0 emptyD = A := ⟨_, rfl⟩
  have HIN : Hid (∀ w', Calls Tryz.prog 65 #[.slice none 0 0] w' fun e w'' => ∃ r, e = .returned r ∧ w''.ownsRow w'.heap.size 5 1 r 1 (Bs I) ∧ Below w'.heap.size w' w'') := fun w' => by rw [← hI]; exact inside_nil w'
  have HPT : Hid (∀ w' q2 m2, BIn w' q2 I → Calls Tryz.prog 64 #[.int .i64 1, .slice q2 1 m2] w' fun e w'' => ∃ r, e = .returned r ∧ w''.ownsRow w'.heap.size 5 1 r 1024 (Bs B) ∧ Below w'.heap.size w' w'') := fun w' q2 m2 hb => by rw [← hB]; rw [← hI] at hb; exact parted_one w' q2 m2 hb
  have HBY : Hid (B.length = 1024 ∧ (∀ c ∈ B, c < 256) ∧ (∀ c ∈ I, c < 256) ∧ I.length = 1) := by rw [← hB, ← hI]; exact ⟨bytes_len empty_dir, empty_bytes, insideN_bytes [], inside_len⟩
  have HSA : Hid (∀ w' q3 m3, BIn w' q3 B → 1024 ≤ m3 → m3 ≤ maxLen → Calls Tryz.prog 63 #[.int .i64 0, .slice q3 1024 m3] w' fun e w'' => ∃ v l, e = .returned v ∧ OnA w' v l w'' ∧ l.map Prod.fst = A) := fun w' q3 m3 hb h3 h4 => by rw [← hB] at hb; rw [← hA]; exact slotActs_empty w' q3 m3 hb h3 h4
  have HDO : Hid (∀ w' q4 n4 m4, Below w1.heap.size w1 w' → ActsIn w' q4 A → n4 = A.length → Calls Tryz.prog 18 #[.agg #[.int .i64 (n : Int), .slice p dl c, .slice q 0 m], .slice q4 n4 m4] w' fun e w'' => (∃ v', e = .returned (.tuple #[v', .int .i64 0]) ∧ DiskF w'.heap.size w'' v' (n : Int) D []) ∧ Below w'.heap.size w' w'') := fun w' q4 n4 m4 hb ha hn => by
    have hdo : doAny (n : Int) (List.replicate (n * 128) 0) [] A = .ok (D, []) := by rw [doAny_ok _ (zeros_okay HD.out.2.1 HD.out.2.2), ← hA]; exact HD.out.1
    have hle : A.length ≤ 9223372036854775807 := by rw [← hA]; have := empty_few; omega
    exact do_all _ (n : Int) (List.replicate (n * 128) 0) [] w' (HDI.out w' hb) q4 n4 m4 A hn ha hle (.ok (D, [])) hdo
  have HKF : Hid (∀ w', Below wB.heap.size wB w' → w'.heap[w1.heap.size]? = some (.cells #[.int .i64 (n : Int), .slice p dl c, .slice q 0 m] 35 (0, 0))) := fun w' hb => (hb.block _ (lt_heap HBX.out)).trans HBX.out
  have HLT : Hid (w.heap.size < w1.heap.size ∧ w1.heap.size < wB.heap.size) := ⟨lt_heap ((hb1.block _ (lt_heap HR.out)).trans HR.out), lt_heap HBX.out⟩
  clear hI hB hA hn1 hF1 hI1 hb1 hdl hnew
  go_upto_region 5 with fail
  (try rw [hwB])
  clear hwB
  obtain ⟨x0, x1, x2⟩ := HKS.out wB (Below.refl _ _)
  go_region_with (first
    | (go_at_call 65; refine (HIN.out _).mono ?_; rintro e w2 ⟨r2, rfl, ho2, hb2⟩; have hB2 : Below wB.heap.size wB w2 := (by first | exact below_drC hb2 | exact hb2); obtain ⟨q2, m2, rfl, _⟩ := own_form ho2; have hN2 : BIn w2 q2 I := own_in (by rw [HBY.out.2.2.2]; exact ho2) HBY.out.2.2.1; obtain ⟨y0, y1, y2⟩ := HKS.out w2 hB2; clear ho2 hb2)
    | (go_at_call 64; refine (HPT.out _ q2 m2 (by first | exact hN2 | exact hN2.below (Below.refl _ _).drew)).mono ?_; rintro e w3 ⟨r3, rfl, ho3, hb3⟩; have hB3 : Below wB.heap.size wB w3 := (by first | exact below_bt hB2 (below_drC hb3) | exact below_bt hB2 hb3); obtain ⟨q3, m3, rfl, hm3, hM3, _⟩ := own_form ho3; have hN3 : BIn w3 q3 B := own_in (by rw [HBY.out.1]; exact ho3) HBY.out.2.1; obtain ⟨z0, z1, z2⟩ := HKS.out w3 hB3; clear ho3 hb3)
    | (go_at_call 63; refine (HSA.out _ q3 m3 (by first | exact hN3 | exact hN3.below (Below.refl _ _).drew) hm3 hM3).mono ?_; rintro e w4 ⟨v4, L4, rfl, hA4, hL4⟩; have hb4 := hA4.bel; have hB4 : Below wB.heap.size wB w4 := (by first | exact below_bt hB3 (below_drC hb4) | exact below_bt hB3 hb4); obtain ⟨q4, m4, rfl, _⟩ := hA4.own.form; have hI4 := hA4.own.lies; obtain ⟨u0, u1, u2⟩ := HKS.out w4 hB4; obtain ⟨n4, hn4⟩ : ∃ k, L4.length = k := ⟨_, rfl⟩; rw [hn4])
    | (go_at_call 18; refine (HDO.out _ q4 n4 m4 (by first | exact below_bt HBA.out hB4 | exact below_bt HBA.out (below_bt hB4 (Below.refl _ _).drew)) (by rw [← hL4]; first | exact hI4.2.1 | exact hI4.2.1.below (Below.refl _ _).drew) (by rw [← hL4, List.length_map, hn4])).mono ?_; rintro e w5 ⟨⟨v5, rfl, hF5⟩, hb5⟩; have hB5 : Below wB.heap.size wB w5 := (by first | exact below_bt hB4 (below_drC hb5) | exact below_bt hB4 hb5); obtain ⟨⟨t0, t1, t2⟩, g0, g1, g2⟩ := cells3f (HKF.out w5 hB5); have hI5 := hF5.self; obtain ⟨p5, c5, q5, m5, rfl, _⟩ := hI5.parts; obtain ⟨d5, hd5⟩ : ∃ k, D.length = k := ⟨_, rfl⟩; simp only [List.length_nil]; rw [hd5]))
  all_goals
    have HF5 : Hid (w4.heap.size ≤ w5.heap.size ∧ w.heap.size < w4.heap.size ∧ w1.heap.size < w4.heap.size ∧ DiskF w4.heap.size w5 (.agg #[.int .i64 (n : Int), .slice p5 d5 c5, .slice q5 0 m5]) (n : Int) D []) := ⟨by have h := hb5.size; simpa using h, by have h := hB4.size; have h2 := HLT.out; omega, by have h := hB4.size; have h2 := HLT.out; omega, by rw [hd5] at hF5; simpa using hF5⟩
    have HB5 : Hid (Below w.heap.size w w5) := below_bt HB1.out (below_bt HBA.out hB5)
    obtain ⟨⟨r0, r1, r2⟩, k0, k1, k2⟩ := cells3f (HRB.out w5 (below_bt HBA.out hB5))
    have hne : w.heap.size ≠ w1.heap.size := by have := HLT.out; omega
    have hne2 : w1.heap.size ≠ w.heap.size := by have := HLT.out; omega
    clear hF5 hb5 hB5 hI5 hd5 hB4 hI4 hA4 hL4 hn4 hb4 hB3 hN3 hm3 hM3 hB2 hN2 x0 x1 x2 y0 y1 y2 z0 z1 z2 u0 u1 u2 HKS HKF HIN HPT HBY HSA HDO HDI HRB HBX
    go_wp2
    (try simp only [Exit.inBlock, Exit.then])
    refine bodyPost_ret (v := .tuple #[.agg #[.int .i64 (n : Int), .slice p5 d5 c5, .slice q5 0 m5], .nilIface]) ?_ rfl ?_
    · rw [results_cell_tmp rfl]
      go_simp
    · refine ⟨⟨_, D, rfl, HD.out.1, HF5.out.2.2.2.to (by have := HF5.out; omega) (by simp) (fun k a b => ?_), ?_⟩⟩
      · have e1 : k ≠ w1.heap.size := by have := HF5.out; omega
        have e2 : k ≠ w.heap.size := by have := HF5.out; omega
        repeat' first
          | refine (set_keep e2).trans ?_
          | refine (set_keep e1).trans ?_
          | exact rfl
      · repeat' first
          | exact HB5.out
          | refine below_setR _ _ ?_ (Nat.le_refl w.heap.size)
          | refine below_setR _ _ ?_ (Nat.le_of_lt HLT.out.1)
end Go.Proofs.YtghcmllmbpoidaaGreatDoor
