/-
  A sector held against the mark that is wanted: part, way by way.
-/
import Derived.Test.YtpbfoppaeeafhaaJ04
namespace Go.Proofs.Ytpbfoppaeeafhaa
open Go.RowKit Go.WideShapes

theorem below_dr (w : World) (n : Nat) : Below w.heap.size w (w.drewN n) := ⟨rfl, rfl, rfl, Nat.le_refl _, fun _ _ => rfl⟩
theorem ret_zero {e p : Nat} {xs : List Nat} {R : OpenT} (he0 : e ≠ 0) (h : ∀ s r, ¬ IsRec e p xs s r) (hR : openR e p xs = R) : Ending.returned (.tuple #[.string ByteArray.empty, .int .u32 0, .int .i64 0, .int .i64 0]) = .returned (openE R) := by
  rw [← hR, openR_no he0 h]; rfl
theorem ret_rec {e p s n : Nat} {xs r : List Nat} {R : OpenT} (he0 : e ≠ 0) (he : e < 4294967296) (hp : p < 4294967296) (h : IsRec e p xs s r) (hn : needsN r.length = n) (hR : openR e p xs = R) : Ending.returned (.tuple #[.string (strOf r), .int .u32 s, .int .i64 n, .int .i64 0]) = .returned (openE R) := by
  rw [← hR, openR_yes he0 he hp h, ← hn]; rfl
theorem strs_eq {xs ys : List Nat} (hx : ∀ c ∈ xs, c < 256) (hy : ∀ c ∈ ys, c < 256) : ((strOf xs).toList == (strOf ys).toList) = decide (xs = ys) := by
  rw [ByteArray.toList_eq, ByteArray.toList_eq]
  by_cases h : xs = ys
  · subst h; simp
  · simp only [h, decide_false]
    exact beq_eq_false_iff_ne.2 (fun e => h ((strOf_eq hx hy).1 e))
theorem body_in {w : World} {b o k z : Nat} {xs : List Nat} (h : BIn w (some ⟨b, o, none⟩) xs) (hz : sizeOf2 (secAt xs k) = z) : BIn w (some ⟨b, o + k * 128 + 16, none⟩) (bodyOf (secAt xs k)) := by
  have := (((h.drop' (k * 128)).take' 128).drop' 16).take' z
  unfold bodyOf
  rw [hz]
  exact this
theorem body_len {xs : List Nat} {k z : Nat} (hl : (k + 1) * 128 ≤ xs.length) (hz : sizeOf2 (secAt xs k) = z) (hz1 : z ≤ 112) : (bodyOf (secAt xs k)).length = z := by
  unfold bodyOf
  rw [List.length_take, List.length_drop, secAt_len hl, hz]
  omega
theorem decK_len_le (xs : List Nat) (k : Nat) (h : ∀ i, i < k → sizeOf2 (secAt xs i) ≤ 112) : (decK xs k).length ≤ k * 112 := by
  induction k with
  | zero => exact Nat.le_refl _
  | succ k ih =>
    rw [decK_snoc, List.length_append]
    have h1 := ih (fun i hi => h i (by omega))
    have h2 := h k (by omega)
    have h3 : (bodyOf (secAt xs k)).length ≤ sizeOf2 (secAt xs k) := by unfold bodyOf; rw [List.length_take]; omega
    omega
set_option maxRecDepth 8000 in
set_option maxHeartbeats 4000000 in
theorem ropen_main (e p b o m c : Nat) (xs : List Nat) (w : World) (he0 : e ≠ 0) (he : e < 4294967296) (hp : p < 4294967296) (hm : m = xs.length) (h128 : 128 ≤ m) (hmc : m ≤ c) (hb : BIn w (some ⟨b, o, none⟩) xs) (hL : m ≤ 10000) (R : OpenT) (hR : openR e p xs = R) :
    Calls Try.prog 21 #[.int .u32 e, .int .u32 p, .slice (some ⟨b, o, none⟩) m c] w fun x w' => x = .returned (openE R) ∧ Below w.heap.size w w' := by
  have g0 := beq0 he0
  have HE : Hid (e ≠ 0 ∧ e < 4294967296 ∧ p < 4294967296) := ⟨he0, he, hp⟩
  have HB : Hid (BIn w (some ⟨b, o, none⟩) xs) := hb
  have HR : Hid (openR e p xs = R) := hR
  have HM : Hid (m = xs.length ∧ 128 ≤ m ∧ m ≤ c ∧ m ≤ 10000) := ⟨hm, h128, hmc, hL⟩
  have hmI : (128 : Int) ≤ m := by omega
  have hmI2 : (m : Int) ≤ 10000 := by omega
  have hcI : (m : Int) ≤ c := by omega
  have hcI4 : (4 : Int) ≤ m := by omega
  have hc4 : ¬ c = 4 := by omega
  have h13 : (13 : Int) < m := by omega
  obtain ⟨s, hs⟩ : ∃ s, numAt xs 4 = s := ⟨_, rfl⟩
  obtain ⟨n, hn⟩ : ∃ n, xs.getD 13 0 = n := ⟨_, rfl⟩
  have HSN : Hid (numAt xs 4 = s ∧ xs.getD 13 0 = n) := ⟨hs, hn⟩
  have hs32 : s < 4294967296 := hs ▸ numAt_lt hb.2 4
  have HS32 : Hid (s < 4294967296) := hs32
  have hn256 : n < 256 := hn ▸ getD_lt hb.2 13
  have k0 : IntKind.i64.wrap ((n : Int) * 128) = (n : Int) * 128 := by rw [IntKind.wrap_i64]; omega
  clear he0 he hp hb hR hm h128 hmc hL hs hn hs32
  go_enter Try.func21, Try.ntmps21
  go_wp2_with fail
  refine (rnumber_any (some ⟨b, o + 4, none⟩) (xs.drop 4) _ _ _ (by rw [List.length_drop, ← HM.out.1]) (by rw [List.length_drop]; have := HM.out; omega) (HB.out.drop' 4)).mono ?_
  rintro x w1 ⟨rfl, hb1⟩
  rw [numAt_drop, HSN.out.1]
  have HB1 : Hid (Below w.heap.size w w1) := hb1
  have HI1 : Hid (BIn w1 (some ⟨b, o, none⟩) xs) := HB.out.below hb1
  have c13 : w1.cell? ⟨b, o + 13, none⟩ = some (.int .u8 n) := by have := HI1.out.cell 13 (by have := HM.out; omega); rw [HSN.out.2] at this; exact this
  clear hb1 HB
  by_cases hs0 : s = 0
  · have g1 : ((s : Int) == 0) = true := by simp [hs0]
    have HZ : Hid (s = 0) := hs0
    clear hs0
    go_wp2
    (try simp only [Exit.inBlock, Exit.then]); refine bodyPost_ret (results_tmp4 rfl _ _ _) rfl ?_
    exact ⟨ret_zero HE.out.1 (no_head HE.out.2.1 HE.out.2.2 (.inl (HSN.out.1.trans HZ.out))) HR.out, HB1.out⟩
  have g1 := beq0 hs0
  have HS0 : Hid (s ≠ 0) := hs0
  clear hs0
  by_cases hn0 : n = 0
  · have g2 : decide ((n : Int) < 1) = true := decide_eq_true (by omega)
    have HZ : Hid (n = 0) := hn0
    clear hn0
    go_wp2
    (try simp only [Exit.inBlock, Exit.then]); refine bodyPost_ret (results_tmp4 rfl _ _ _) rfl ?_
    exact ⟨ret_zero HE.out.1 (no_head HE.out.2.1 HE.out.2.2 (.inr (.inl (HSN.out.2.trans HZ.out)))) HR.out, HB1.out⟩
  have g2 : decide ((n : Int) < 1) = false := decide_eq_false (by omega)
  have HN0 : Hid (n ≠ 0) := hn0
  clear hn0
  by_cases hl : m < n * 128
  · have g3 : decide ((m : Int) < (n : Int) * 128) = true := decide_eq_true (by omega)
    have HZ : Hid (m < n * 128) := hl
    clear hl
    go_wp2
    (try simp only [Exit.inBlock, Exit.then]); refine bodyPost_ret (results_tmp4 rfl _ _ _) rfl ?_
    exact ⟨ret_zero HE.out.1 (no_head HE.out.2.1 HE.out.2.2 (.inr (.inr (by rw [HSN.out.2, ← HM.out.1]; exact HZ.out)))) HR.out, HB1.out⟩
  have g3 : decide ((m : Int) < (n : Int) * 128) = false := decide_eq_false (by omega)
  have HL : Hid (n * 128 ≤ m ∧ n < 256) := ⟨by omega, hn256⟩
  clear hl
  go_wp2
  go_loopw [12, 13] (fun v i wr => ∃ k : Nat, k ≤ n ∧ i = .int .i64 k ∧ St w1 [] wr v (decK xs k) ∧ ∀ j, j < k → sizeOf2 (secAt xs j) ≤ 112) (fun _ i _ => n - (intOf i).toNat)
  case atStart => exact ⟨0, by omega, rfl, St.start (fun p hp => by simp at hp), fun j hj => absurd hj (by omega)⟩
  case round =>
    obtain ⟨k, hk, rfl, hst, hsz⟩ := hrel
    have HST : Hid (St w1 [] wr _ (decK xs k)) := hst
    have HSZ : Hid (∀ j, j < k → sizeOf2 (secAt xs j) ≤ 112) := hsz
    have HIR : Hid (BIn wr (some ⟨b, o, none⟩) xs) := HI1.out.below hst.bel
    have HDL : Hid ((decK xs k).length ≤ 30000) := by have := decK_len_le xs k hsz; have := HL.out; show _ ≤ _; omega
    have hzw := hst.size
    clear hst hsz
    by_cases hkn : k < n
    · have hkI : (k : Int) < (n : Int) := by omega
      have HK : Hid (k < n ∧ (k + 1) * 128 ≤ xs.length) := ⟨hkn, by have := HM.out; have := HL.out; omega⟩
      have k1 : IntKind.i64.wrap ((k : Int) * 128) = (k : Int) * 128 := by rw [IntKind.wrap_i64]; omega
      have k2 : IntKind.i64.wrap ((k : Int) * 128 + 128) = (k : Int) * 128 + 128 := by rw [IntKind.wrap_i64]; omega
      have t2 : ((k : Int) * 128 + 128).toNat - k * 128 = 128 := by omega
      have hhi : (k : Int) * 128 + 128 ≤ (c : Int) := by have := HM.out; have := HL.out; omega
      have hck : ¬ c = k * 128 := by have := HM.out; have := HL.out; omega
      have hck2 : ¬ c - k * 128 = 16 := by have := HM.out; have := HL.out; omega
      have hck3 : (128 : Int) ≤ ((c - k * 128 : Nat) : Int) := by have := HM.out; have := HL.out; omega
      obtain ⟨a14, h14⟩ : ∃ a, xs.getD (k * 128 + 14) 0 = a := ⟨_, rfl⟩
      obtain ⟨a15, h15⟩ : ∃ a, xs.getD (k * 128 + 15) 0 = a := ⟨_, rfl⟩
      have c14 : wr.cell? ⟨b, o + k * 128 + 14, none⟩ = some (.int .u8 a14) := by have := HIR.out.cell (k * 128 + 14) (by have := HK.out; omega); rw [h14] at this; rw [Nat.add_assoc]; exact this
      have c15 : wr.cell? ⟨b, o + k * 128 + 15, none⟩ = some (.int .u8 a15) := by have := HIR.out.cell (k * 128 + 15) (by have := HK.out; omega); rw [h15] at this; rw [Nat.add_assoc]; exact this
      have b14 : a14 < 256 := h14 ▸ getD_lt HIR.out.2 _
      have b15 : a15 < 256 := h15 ▸ getD_lt HIR.out.2 _
      have k3 : IntKind.i64.wrap (256 * (a15 : Int)) = 256 * (a15 : Int) := by rw [IntKind.wrap_i64]; omega
      have k4 : IntKind.i64.wrap ((a14 : Int) + 256 * (a15 : Int)) = (a14 : Int) + 256 * (a15 : Int) := by rw [IntKind.wrap_i64]; omega
      have HZ : Hid (sizeOf2 (secAt xs k) = a14 + 256 * a15) := by show _ = _; unfold sizeOf2; rw [sec_getD _ _ _ (by omega), sec_getD _ _ _ (by omega), h14, h15]
      clear h14 h15
      by_cases hz : 112 < a14 + 256 * a15
      · have g4 : decide ((112 : Int) < (a14 : Int) + 256 * (a15 : Int)) = true := decide_eq_true (by omega)
        have HZ2 : Hid (112 < a14 + 256 * a15) := hz
        clear hz hkn
        go_wp2
        go_quiet (fail)
        go_wp2
        (try simp only [Exit.inBlock, Exit.then]); refine bodyPost_ret (results_tmp4 rfl _ _ _) rfl ?_
        exact ⟨ret_zero HE.out.1 (no_sec HE.out.2.1 HE.out.2.2 HSN.out.2 HK.out.1 (fun s hs => by have := hs.le; rw [HZ.out] at this; have := HZ2.out; omega)) HR.out, below_bt HB1.out (HST.out.call (below_dr wr _)).bel⟩
      · have g4 : decide ((112 : Int) < (a14 : Int) + 256 * (a15 : Int)) = false := decide_eq_false (by omega)
        have k5 : IntKind.i64.wrap (16 + ((a14 : Int) + 256 * (a15 : Int))) = 16 + ((a14 : Int) + 256 * (a15 : Int)) := by rw [IntKind.wrap_i64]; omega
        have hhi2 : 16 + ((a14 : Int) + 256 * (a15 : Int)) ≤ ((c - k * 128 : Nat) : Int) := by omega
        have HZ2 : Hid (a14 + 256 * a15 ≤ 112) := by show _ ≤ _; omega
        clear hz hkn
        go_wp2
        go_quiet (fail)
        have HSQ : Hid (St w1 [] (wr.drewN nq) _ (decK xs k)) := HST.out.call (below_dr wr nq)
        have HIQ : Hid (BIn (wr.drewN nq) (some ⟨b, o, none⟩) xs) := HIR.out.below (below_dr wr nq)
        clear HST HIR
        go_wp2_with (at_builtin; go_loud (refine wpList_append_bytes _ rfl _ _ rfl w1.heap.size _ _ (bodyOf (secAt xs k)) (some ⟨b, o + k * 128 + 16, none⟩) _ _ rfl rfl (by rw [body_len HK.out.2 HZ.out HZ2.out]; omega) HSQ.out.own (body_in HIQ.out rfl) (fun h => by cases h) (by have := HDL.out; rw [body_len HK.out.2 HZ.out HZ2.out]; have := HZ2.out; omega) hzw ?_); intro va ua hoa hga; have ta := HSQ.out.app hoa hga; have HTA : Hid _ := ta; clear ta hoa hga)
        go_roundw
        case rel => exact ⟨k + 1, by have := HK.out; omega, by go_num, HTA.out.eq (decK_snoc xs k).symm, fun j hj => by
          rcases Nat.lt_or_ge j k with h' | h'
          · exact HSZ.out j h'
          · obtain rfl : j = k := by omega
            rw [HZ.out]; exact HZ2.out⟩
        case measure => simp [intOf]; omega
    · obtain rfl : k = n := by omega
      obtain ⟨q5, m5, hv5, _, _, hq5⟩ := own_form HST.out.own
      subst hv5
      have HBY : Hid (∀ c ∈ decK xs k, c < 256) := decK_byte HIR.out.2 k
      have cv : (convert 22 9 (.slice q5 (decK xs k).length m5)).run Try.prog wr = .ok (.string (strOf (decK xs k))) wr := conv_at (own_at HST.out.own rfl HBY.out) rfl
      clear hq5
      go_wp2_with fail
      refine (rFrame_any e s p (strOf (decK xs k)) _ HE.out.2.1 HS32.out HE.out.2.2 (by rw [strOf_size]; have := HDL.out; omega)).mono ?_
      rintro x w5 ⟨⟨v5, rfl, ho5⟩, hb5⟩
      have HS5 : Hid (St w1 [] w5 (.slice q5 (decK xs k).length m5) (decK xs k)) := HST.out.call hb5
      have HI5 : Hid (BIn w5 (some ⟨b, o, none⟩) xs) := HIR.out.below hb5
      have cv5 : ∀ j, (convert 22 9 (.slice q5 (decK xs k).length m5)).run Try.prog (w5.drewN j) = .ok (.string (strOf (decK xs k))) (w5.drewN j) := fun j => conv_at (own_at (HS5.out.call (below_dr w5 j)).own rfl HBY.out) rfl
      clear HST HIR cv
      by_cases hlong : 4096 < (decK xs k).length
      · have hF : frameR e s p (numsOf (strOf (decK xs k))) = ([], 3) := by unfold frameR; rw [if_neg (by have := HE.out; have := HS0.out; omega), if_pos (by rw [nums_strOf HBY.out]; exact hlong)]
        have HLG : Hid (4096 < (decK xs k).length) := hlong
        rw [hF] at ho5 ⊢
        obtain ⟨q6, m6, hv6, _, _, hq6⟩ := own_form ho5
        subst hv6
        clear hlong hF ho5 hq6
        go_wp2
        go_quiet (fail)
        go_wp2
        (try simp only [Exit.inBlock, Exit.then]); refine bodyPost_ret (results_tmp4 rfl _ _ _) rfl ?_
        exact ⟨ret_zero HE.out.1 (no_long HE.out.2.1 HE.out.2.2 HSN.out.2 HLG.out) HR.out, below_bt HB1.out (HS5.out.call (below_dr w5 _)).bel⟩
      · have hF : frameR e s p (numsOf (strOf (decK xs k))) = (frameN e s p (decK xs k), 0) := by unfold frameR; rw [if_neg (by have := HE.out; have := HS0.out; omega), if_neg (by rw [nums_strOf HBY.out]; exact hlong), nums_strOf HBY.out]
        have HLG : Hid ((decK xs k).length ≤ 4096) := by show _ ≤ _; omega
        rw [hF] at ho5 ⊢
        obtain ⟨q6, m6, hv6, _, _, hq6⟩ := own_form ho5
        subst hv6
        have cv6 : ∀ j, (convert 22 9 (.slice q6 (frameN e s p (decK xs k)).length m6)).run Try.prog (w5.drewN j) = .ok (.string (strOf (frameN e s p (decK xs k)))) (w5.drewN j) := fun j => conv_at ((own_at ho5 rfl (frameN_byte HBY.out)).below (below_dr w5 j)) rfl
        have cv7 : ∀ j, (convert 22 9 (.slice (some ⟨b, o, none⟩) (k * 128) c)).run Try.prog (w5.drewN j) = .ok (.string (strOf (xs.take (k * 128)))) (w5.drewN j) := fun j => conv_at ((HI5.out.take' (k * 128)).below (below_dr w5 j)) (by rw [List.length_take]; have := HM.out; have := HL.out; omega)
        have t7 : ((k : Int) * 128).toNat = k * 128 := by omega
        have hk7 : (k : Int) * 128 ≤ (c : Int) := by have := HM.out; have := HL.out; omega
        have HEQ : Hid (((strOf (frameN e s p (decK xs k))).toList == (strOf (xs.take (k * 128))).toList) = decide (frameN e s p (decK xs k) = xs.take (k * 128))) := strs_eq (frameN_byte HBY.out) (fun c hc => HI5.out.2 c (List.mem_of_mem_take hc))
        clear hlong hF ho5 hq6
        by_cases hsame : frameN e s p (decK xs k) = xs.take (k * 128)
        · have g8 : ((strOf (frameN e s p (decK xs k))).toList == (strOf (xs.take (k * 128))).toList) = true := HEQ.out.trans (decide_eq_true hsame)
          have HSA : Hid (frameN e s p (decK xs k) = xs.take (k * 128)) := hsame
          clear hsame
          generalize strOf (frameN e s p (decK xs k)) = A at *
          generalize strOf (xs.take (k * 128)) = B at *
          go_wp2
          go_quiet (fail)
          go_wp2
          (try simp only [Exit.inBlock, Exit.then]); refine bodyPost_ret (results_tmp4 rfl _ _ _) rfl ?_
          have hy := yes_other (e := e) (p := p) HI5.out.2 (by rw [HSN.out.1]; exact HS0.out) (by have := HM.out; have := HL.out; omega) HLG.out (by rw [HSN.out.1]; exact HSA.out)
          rw [HSN.out.1] at hy
          exact ⟨ret_rec HE.out.1 HE.out.2.1 HE.out.2.2 hy.1 hy.2 HR.out, below_bt HB1.out (HS5.out.call (below_dr w5 _)).bel⟩
        · have g8 : ((strOf (frameN e s p (decK xs k))).toList == (strOf (xs.take (k * 128))).toList) = false := HEQ.out.trans (decide_eq_false hsame)
          have HSA : Hid (¬ frameN e s p (decK xs k) = xs.take (k * 128)) := hsame
          clear hsame
          generalize strOf (frameN e s p (decK xs k)) = A at *
          generalize strOf (xs.take (k * 128)) = B at *
          go_wp2
          go_quiet (fail)
          go_wp2
          (try simp only [Exit.inBlock, Exit.then]); refine bodyPost_ret (results_tmp4 rfl _ _ _) rfl ?_
          exact ⟨ret_zero HE.out.1 (no_other HE.out.2.1 HE.out.2.2 HSN.out.2 (by rw [HSN.out.1]; exact HSA.out)) HR.out, below_bt HB1.out (HS5.out.call (below_dr w5 _)).bel⟩
theorem rOpen_any (e p m c : Nat) (q : Option Addr) (xs : List Nat) (w : World) (he : e < 4294967296) (hp : p < 4294967296) (hm : m = xs.length) (hmc : m ≤ c) (hb : BIn w q xs) (hL : m ≤ 10000) (R : OpenT) (hR : openR e p xs = R) :
    Calls Try.prog 21 #[.int .u32 e, .int .u32 p, .slice q m c] w fun x w' => x = .returned (openE R) ∧ Below w.heap.size w w' := by
  by_cases h0 : e = 0
  · subst h0
    rw [openR_zero] at hR
    subst hR
    clear he hp
    go_enter Try.func21, Try.ntmps21
    go_wp2
    (try simp only [Exit.inBlock, Exit.then]); refine bodyPost_ret (results_tmp4 rfl _ _ _) rfl ?_
    exact ⟨rfl, Below.refl _ _⟩
  · by_cases h1 : m < 128
    · have g0 := beq0 h0
      have g1 : decide ((m : Int) < 128) = true := decide_eq_true (by omega)
      have HN : Hid (xs.length < 128) := by show _ < _; omega
      have HE : Hid (e ≠ 0) := h0
      have HR : Hid (openR e p xs = R) := hR
      clear h0 h1 hR hm hmc hL he hp hb
      go_enter Try.func21, Try.ntmps21
      go_wp2
      (try simp only [Exit.inBlock, Exit.then]); refine bodyPost_ret (results_tmp4 rfl _ _ _) rfl ?_
      exact ⟨ret_zero HE.out (no_short HN.out) HR.out, Below.refl _ _⟩
    · obtain ⟨b, o, rfl⟩ := hb.addr (by omega)
      exact ropen_main e p b o m c xs w h0 he hp hm (by omega) hmc hb hL R hR
end Go.Proofs.Ytpbfoppaeeafhaa
namespace Go.Proofs.Ytpbfoppaeeafhaa
open Go.RowKit Go.WideShapes

theorem drop_in0 {w : World} {p : Option Addr} {xs : List Nat} (h : xs.length = 0) : BIn w p xs := by
  obtain rfl := List.eq_nil_of_length_eq_zero h
  exact ⟨fun h => by simp at h, by simp⟩
def allZ (xs : List Nat) : Bool := decide (∀ c ∈ xs, c = 0)
end Go.Proofs.Ytpbfoppaeeafhaa
namespace Go.Proofs.Ytpbfoppaeeafhaa
open Go.RowKit Go.WideShapes

set_option maxRecDepth 8000 in
set_option maxHeartbeats 2000000 in
theorem part_ne0 (e s p i n z a0 a1 a2 a3 a4 k : Nat) (b o c : Nat) (xs : List Nat) (w : World) (hx : xs.length = 128) (hc : 128 ≤ c) (hcm : c ≤ maxLen) (hb : BIn w (some ⟨b, o, none⟩) xs) (hm : markOfN xs = .agg #[.int .u32 a0, .int .u32 a1, .int .u32 a2, .int .i64 a3, .int .i64 a4, .int .i64 k]) (hne : a0 ≠ e) :
    Calls Try.prog 67 #[.slice (some ⟨b, o, none⟩) 128 c, markV e s p i n z] w fun x w' => x = .returned (.tuple #[.slice none 0 0, .bool false]) ∧ Below w.heap.size w w' := by
  have g : ((a0 : Int) == (e : Int)) = false := by simp; omega
  clear hne
  have HX : Hid (xs.length = 128) := hx
  have HB : Hid (BIn w (some ⟨b, o, none⟩) xs) := hb
  have HCM : Hid (c ≤ maxLen) := hcm
  have h16c : (16 : Int) < c := by omega
  have hcI : (128 : Int) ≤ c := by omega
  have HC : Hid (128 ≤ c) := hc
  have HM : Hid (markOfN xs = .agg #[.int .u32 a0, .int .u32 a1, .int .u32 a2, .int .i64 a3, .int .i64 a4, .int .i64 k]) := hm
  clear hx hb hc hcm hm
  unfold markV
  go_enter Try.func67, Try.ntmps67
  go_wp2_with fail
  refine (markOf_any (some ⟨b, o, none⟩) xs 128 c _ HX.out.symm (by have := HX.out; omega) HC.out (HB.out.alloc _)).mono ?_
  rintro x w1 ⟨ex, hb1⟩
  rw [HM.out] at ex
  subst ex
  have hbw : Below (w.alloc (.cells #[.int .u32 e, .int .u32 s, .int .u32 p, .int .i64 i, .int .i64 n, .int .i64 z] 116)).heap.size (w.alloc (.cells #[.int .u32 e, .int .u32 s, .int .u32 p, .int .i64 i, .int .i64 n, .int .i64 z] 116)) w1 := hb1
  have hbx : w1.heap[w.heap.size]? = some (.cells #[.int .u32 e, .int .u32 s, .int .u32 p, .int .i64 i, .int .i64 n, .int .i64 z] 116 (0, 0)) := (hbw.block _ (by simp)).trans (heap_alloc_new w _)
  have hlt : w.heap.size < w1.heap.size := lt_heap hbx
  have q0 : w1.cell? ⟨w.heap.size, 0, none⟩ = some (.int .u32 e) := cell_of_row w1 _ 0 _ _ _ hbx
  have q1 : w1.cell? ⟨w.heap.size, 1, none⟩ = some (.int .u32 s) := cell_of_row w1 _ 1 _ _ _ hbx
  have q2 : w1.cell? ⟨w.heap.size, 2, none⟩ = some (.int .u32 p) := cell_of_row w1 _ 2 _ _ _ hbx
  have q3 : w1.cell? ⟨w.heap.size, 3, none⟩ = some (.int .i64 i) := cell_of_row w1 _ 3 _ _ _ hbx
  have q4 : w1.cell? ⟨w.heap.size, 4, none⟩ = some (.int .i64 n) := cell_of_row w1 _ 4 _ _ _ hbx
  have q5 : w1.cell? ⟨w.heap.size, 5, none⟩ = some (.int .i64 z) := cell_of_row w1 _ 5 _ _ _ hbx
  have f5 : w1.frozen? ⟨w.heap.size, 5, none⟩ = false := by simp [World.frozen?, hbx]
  have HW1 : Hid (Below w.heap.size w w1) := (below_alloc w _).trans (hbw.mono (by simp))
  have HZ : Hid (Below w.heap.size w ((w1.setCell ⟨w.heap.size, 5, none⟩ (.int .i64 k)).alloc (.cells #[.int .u32 a0, .int .u32 a1, .int .u32 a2, .int .i64 a3, .int .i64 a4, .int .i64 k] 116))) := (HW1.out.setCell (Nat.le_refl _) _).alloc (by simp [World.setCell]; omega) _
  clear hbx hbw hb1
  go_wp2
  go_ret2
  exact ⟨rfl, HZ.out⟩
set_option maxRecDepth 8000 in
set_option maxHeartbeats 2000000 in
theorem part_ne1 (e s p i n z a1 a2 a3 a4 k : Nat) (b o c : Nat) (xs : List Nat) (w : World) (hx : xs.length = 128) (hc : 128 ≤ c) (hcm : c ≤ maxLen) (hb : BIn w (some ⟨b, o, none⟩) xs) (hm : markOfN xs = .agg #[.int .u32 e, .int .u32 a1, .int .u32 a2, .int .i64 a3, .int .i64 a4, .int .i64 k]) (hne : a1 ≠ s) :
    Calls Try.prog 67 #[.slice (some ⟨b, o, none⟩) 128 c, markV e s p i n z] w fun x w' => x = .returned (.tuple #[.slice none 0 0, .bool false]) ∧ Below w.heap.size w w' := by
  have g : ((a1 : Int) == (s : Int)) = false := by simp; omega
  clear hne
  have HX : Hid (xs.length = 128) := hx
  have HB : Hid (BIn w (some ⟨b, o, none⟩) xs) := hb
  have HCM : Hid (c ≤ maxLen) := hcm
  have h16c : (16 : Int) < c := by omega
  have hcI : (128 : Int) ≤ c := by omega
  have HC : Hid (128 ≤ c) := hc
  have HM : Hid (markOfN xs = .agg #[.int .u32 e, .int .u32 a1, .int .u32 a2, .int .i64 a3, .int .i64 a4, .int .i64 k]) := hm
  clear hx hb hc hcm hm
  unfold markV
  go_enter Try.func67, Try.ntmps67
  go_wp2_with fail
  refine (markOf_any (some ⟨b, o, none⟩) xs 128 c _ HX.out.symm (by have := HX.out; omega) HC.out (HB.out.alloc _)).mono ?_
  rintro x w1 ⟨ex, hb1⟩
  rw [HM.out] at ex
  subst ex
  have hbw : Below (w.alloc (.cells #[.int .u32 e, .int .u32 s, .int .u32 p, .int .i64 i, .int .i64 n, .int .i64 z] 116)).heap.size (w.alloc (.cells #[.int .u32 e, .int .u32 s, .int .u32 p, .int .i64 i, .int .i64 n, .int .i64 z] 116)) w1 := hb1
  have hbx : w1.heap[w.heap.size]? = some (.cells #[.int .u32 e, .int .u32 s, .int .u32 p, .int .i64 i, .int .i64 n, .int .i64 z] 116 (0, 0)) := (hbw.block _ (by simp)).trans (heap_alloc_new w _)
  have hlt : w.heap.size < w1.heap.size := lt_heap hbx
  have q0 : w1.cell? ⟨w.heap.size, 0, none⟩ = some (.int .u32 e) := cell_of_row w1 _ 0 _ _ _ hbx
  have q1 : w1.cell? ⟨w.heap.size, 1, none⟩ = some (.int .u32 s) := cell_of_row w1 _ 1 _ _ _ hbx
  have q2 : w1.cell? ⟨w.heap.size, 2, none⟩ = some (.int .u32 p) := cell_of_row w1 _ 2 _ _ _ hbx
  have q3 : w1.cell? ⟨w.heap.size, 3, none⟩ = some (.int .i64 i) := cell_of_row w1 _ 3 _ _ _ hbx
  have q4 : w1.cell? ⟨w.heap.size, 4, none⟩ = some (.int .i64 n) := cell_of_row w1 _ 4 _ _ _ hbx
  have q5 : w1.cell? ⟨w.heap.size, 5, none⟩ = some (.int .i64 z) := cell_of_row w1 _ 5 _ _ _ hbx
  have f5 : w1.frozen? ⟨w.heap.size, 5, none⟩ = false := by simp [World.frozen?, hbx]
  have HW1 : Hid (Below w.heap.size w w1) := (below_alloc w _).trans (hbw.mono (by simp))
  have HZ : Hid (Below w.heap.size w ((w1.setCell ⟨w.heap.size, 5, none⟩ (.int .i64 k)).alloc (.cells #[.int .u32 e, .int .u32 a1, .int .u32 a2, .int .i64 a3, .int .i64 a4, .int .i64 k] 116))) := (HW1.out.setCell (Nat.le_refl _) _).alloc (by simp [World.setCell]; omega) _
  clear hbx hbw hb1
  go_wp2
  go_ret2
  exact ⟨rfl, HZ.out⟩
set_option maxRecDepth 8000 in
set_option maxHeartbeats 2000000 in
theorem part_ne2 (e s p i n z a2 a3 a4 k : Nat) (b o c : Nat) (xs : List Nat) (w : World) (hx : xs.length = 128) (hc : 128 ≤ c) (hcm : c ≤ maxLen) (hb : BIn w (some ⟨b, o, none⟩) xs) (hm : markOfN xs = .agg #[.int .u32 e, .int .u32 s, .int .u32 a2, .int .i64 a3, .int .i64 a4, .int .i64 k]) (hne : a2 ≠ p) :
    Calls Try.prog 67 #[.slice (some ⟨b, o, none⟩) 128 c, markV e s p i n z] w fun x w' => x = .returned (.tuple #[.slice none 0 0, .bool false]) ∧ Below w.heap.size w w' := by
  have g : ((a2 : Int) == (p : Int)) = false := by simp; omega
  clear hne
  have HX : Hid (xs.length = 128) := hx
  have HB : Hid (BIn w (some ⟨b, o, none⟩) xs) := hb
  have HCM : Hid (c ≤ maxLen) := hcm
  have h16c : (16 : Int) < c := by omega
  have hcI : (128 : Int) ≤ c := by omega
  have HC : Hid (128 ≤ c) := hc
  have HM : Hid (markOfN xs = .agg #[.int .u32 e, .int .u32 s, .int .u32 a2, .int .i64 a3, .int .i64 a4, .int .i64 k]) := hm
  clear hx hb hc hcm hm
  unfold markV
  go_enter Try.func67, Try.ntmps67
  go_wp2_with fail
  refine (markOf_any (some ⟨b, o, none⟩) xs 128 c _ HX.out.symm (by have := HX.out; omega) HC.out (HB.out.alloc _)).mono ?_
  rintro x w1 ⟨ex, hb1⟩
  rw [HM.out] at ex
  subst ex
  have hbw : Below (w.alloc (.cells #[.int .u32 e, .int .u32 s, .int .u32 p, .int .i64 i, .int .i64 n, .int .i64 z] 116)).heap.size (w.alloc (.cells #[.int .u32 e, .int .u32 s, .int .u32 p, .int .i64 i, .int .i64 n, .int .i64 z] 116)) w1 := hb1
  have hbx : w1.heap[w.heap.size]? = some (.cells #[.int .u32 e, .int .u32 s, .int .u32 p, .int .i64 i, .int .i64 n, .int .i64 z] 116 (0, 0)) := (hbw.block _ (by simp)).trans (heap_alloc_new w _)
  have hlt : w.heap.size < w1.heap.size := lt_heap hbx
  have q0 : w1.cell? ⟨w.heap.size, 0, none⟩ = some (.int .u32 e) := cell_of_row w1 _ 0 _ _ _ hbx
  have q1 : w1.cell? ⟨w.heap.size, 1, none⟩ = some (.int .u32 s) := cell_of_row w1 _ 1 _ _ _ hbx
  have q2 : w1.cell? ⟨w.heap.size, 2, none⟩ = some (.int .u32 p) := cell_of_row w1 _ 2 _ _ _ hbx
  have q3 : w1.cell? ⟨w.heap.size, 3, none⟩ = some (.int .i64 i) := cell_of_row w1 _ 3 _ _ _ hbx
  have q4 : w1.cell? ⟨w.heap.size, 4, none⟩ = some (.int .i64 n) := cell_of_row w1 _ 4 _ _ _ hbx
  have q5 : w1.cell? ⟨w.heap.size, 5, none⟩ = some (.int .i64 z) := cell_of_row w1 _ 5 _ _ _ hbx
  have f5 : w1.frozen? ⟨w.heap.size, 5, none⟩ = false := by simp [World.frozen?, hbx]
  have HW1 : Hid (Below w.heap.size w w1) := (below_alloc w _).trans (hbw.mono (by simp))
  have HZ : Hid (Below w.heap.size w ((w1.setCell ⟨w.heap.size, 5, none⟩ (.int .i64 k)).alloc (.cells #[.int .u32 e, .int .u32 s, .int .u32 a2, .int .i64 a3, .int .i64 a4, .int .i64 k] 116))) := (HW1.out.setCell (Nat.le_refl _) _).alloc (by simp [World.setCell]; omega) _
  clear hbx hbw hb1
  go_wp2
  go_ret2
  exact ⟨rfl, HZ.out⟩
set_option maxRecDepth 8000 in
set_option maxHeartbeats 2000000 in
theorem part_ne3 (e s p i n z a3 a4 k : Nat) (b o c : Nat) (xs : List Nat) (w : World) (hx : xs.length = 128) (hc : 128 ≤ c) (hcm : c ≤ maxLen) (hb : BIn w (some ⟨b, o, none⟩) xs) (hm : markOfN xs = .agg #[.int .u32 e, .int .u32 s, .int .u32 p, .int .i64 a3, .int .i64 a4, .int .i64 k]) (hne : a3 ≠ i) :
    Calls Try.prog 67 #[.slice (some ⟨b, o, none⟩) 128 c, markV e s p i n z] w fun x w' => x = .returned (.tuple #[.slice none 0 0, .bool false]) ∧ Below w.heap.size w w' := by
  have g : ((a3 : Int) == (i : Int)) = false := by simp; omega
  clear hne
  have HX : Hid (xs.length = 128) := hx
  have HB : Hid (BIn w (some ⟨b, o, none⟩) xs) := hb
  have HCM : Hid (c ≤ maxLen) := hcm
  have h16c : (16 : Int) < c := by omega
  have hcI : (128 : Int) ≤ c := by omega
  have HC : Hid (128 ≤ c) := hc
  have HM : Hid (markOfN xs = .agg #[.int .u32 e, .int .u32 s, .int .u32 p, .int .i64 a3, .int .i64 a4, .int .i64 k]) := hm
  clear hx hb hc hcm hm
  unfold markV
  go_enter Try.func67, Try.ntmps67
  go_wp2_with fail
  refine (markOf_any (some ⟨b, o, none⟩) xs 128 c _ HX.out.symm (by have := HX.out; omega) HC.out (HB.out.alloc _)).mono ?_
  rintro x w1 ⟨ex, hb1⟩
  rw [HM.out] at ex
  subst ex
  have hbw : Below (w.alloc (.cells #[.int .u32 e, .int .u32 s, .int .u32 p, .int .i64 i, .int .i64 n, .int .i64 z] 116)).heap.size (w.alloc (.cells #[.int .u32 e, .int .u32 s, .int .u32 p, .int .i64 i, .int .i64 n, .int .i64 z] 116)) w1 := hb1
  have hbx : w1.heap[w.heap.size]? = some (.cells #[.int .u32 e, .int .u32 s, .int .u32 p, .int .i64 i, .int .i64 n, .int .i64 z] 116 (0, 0)) := (hbw.block _ (by simp)).trans (heap_alloc_new w _)
  have hlt : w.heap.size < w1.heap.size := lt_heap hbx
  have q0 : w1.cell? ⟨w.heap.size, 0, none⟩ = some (.int .u32 e) := cell_of_row w1 _ 0 _ _ _ hbx
  have q1 : w1.cell? ⟨w.heap.size, 1, none⟩ = some (.int .u32 s) := cell_of_row w1 _ 1 _ _ _ hbx
  have q2 : w1.cell? ⟨w.heap.size, 2, none⟩ = some (.int .u32 p) := cell_of_row w1 _ 2 _ _ _ hbx
  have q3 : w1.cell? ⟨w.heap.size, 3, none⟩ = some (.int .i64 i) := cell_of_row w1 _ 3 _ _ _ hbx
  have q4 : w1.cell? ⟨w.heap.size, 4, none⟩ = some (.int .i64 n) := cell_of_row w1 _ 4 _ _ _ hbx
  have q5 : w1.cell? ⟨w.heap.size, 5, none⟩ = some (.int .i64 z) := cell_of_row w1 _ 5 _ _ _ hbx
  have f5 : w1.frozen? ⟨w.heap.size, 5, none⟩ = false := by simp [World.frozen?, hbx]
  have HW1 : Hid (Below w.heap.size w w1) := (below_alloc w _).trans (hbw.mono (by simp))
  have HZ : Hid (Below w.heap.size w ((w1.setCell ⟨w.heap.size, 5, none⟩ (.int .i64 k)).alloc (.cells #[.int .u32 e, .int .u32 s, .int .u32 p, .int .i64 a3, .int .i64 a4, .int .i64 k] 116))) := (HW1.out.setCell (Nat.le_refl _) _).alloc (by simp [World.setCell]; omega) _
  clear hbx hbw hb1
  go_wp2
  go_ret2
  exact ⟨rfl, HZ.out⟩
set_option maxRecDepth 8000 in
set_option maxHeartbeats 2000000 in
theorem part_ne4 (e s p i n z a4 k : Nat) (b o c : Nat) (xs : List Nat) (w : World) (hx : xs.length = 128) (hc : 128 ≤ c) (hcm : c ≤ maxLen) (hb : BIn w (some ⟨b, o, none⟩) xs) (hm : markOfN xs = .agg #[.int .u32 e, .int .u32 s, .int .u32 p, .int .i64 i, .int .i64 a4, .int .i64 k]) (hne : a4 ≠ n) :
    Calls Try.prog 67 #[.slice (some ⟨b, o, none⟩) 128 c, markV e s p i n z] w fun x w' => x = .returned (.tuple #[.slice none 0 0, .bool false]) ∧ Below w.heap.size w w' := by
  have g : ((a4 : Int) == (n : Int)) = false := by simp; omega
  clear hne
  have HX : Hid (xs.length = 128) := hx
  have HB : Hid (BIn w (some ⟨b, o, none⟩) xs) := hb
  have HCM : Hid (c ≤ maxLen) := hcm
  have h16c : (16 : Int) < c := by omega
  have hcI : (128 : Int) ≤ c := by omega
  have HC : Hid (128 ≤ c) := hc
  have HM : Hid (markOfN xs = .agg #[.int .u32 e, .int .u32 s, .int .u32 p, .int .i64 i, .int .i64 a4, .int .i64 k]) := hm
  clear hx hb hc hcm hm
  unfold markV
  go_enter Try.func67, Try.ntmps67
  go_wp2_with fail
  refine (markOf_any (some ⟨b, o, none⟩) xs 128 c _ HX.out.symm (by have := HX.out; omega) HC.out (HB.out.alloc _)).mono ?_
  rintro x w1 ⟨ex, hb1⟩
  rw [HM.out] at ex
  subst ex
  have hbw : Below (w.alloc (.cells #[.int .u32 e, .int .u32 s, .int .u32 p, .int .i64 i, .int .i64 n, .int .i64 z] 116)).heap.size (w.alloc (.cells #[.int .u32 e, .int .u32 s, .int .u32 p, .int .i64 i, .int .i64 n, .int .i64 z] 116)) w1 := hb1
  have hbx : w1.heap[w.heap.size]? = some (.cells #[.int .u32 e, .int .u32 s, .int .u32 p, .int .i64 i, .int .i64 n, .int .i64 z] 116 (0, 0)) := (hbw.block _ (by simp)).trans (heap_alloc_new w _)
  have hlt : w.heap.size < w1.heap.size := lt_heap hbx
  have q0 : w1.cell? ⟨w.heap.size, 0, none⟩ = some (.int .u32 e) := cell_of_row w1 _ 0 _ _ _ hbx
  have q1 : w1.cell? ⟨w.heap.size, 1, none⟩ = some (.int .u32 s) := cell_of_row w1 _ 1 _ _ _ hbx
  have q2 : w1.cell? ⟨w.heap.size, 2, none⟩ = some (.int .u32 p) := cell_of_row w1 _ 2 _ _ _ hbx
  have q3 : w1.cell? ⟨w.heap.size, 3, none⟩ = some (.int .i64 i) := cell_of_row w1 _ 3 _ _ _ hbx
  have q4 : w1.cell? ⟨w.heap.size, 4, none⟩ = some (.int .i64 n) := cell_of_row w1 _ 4 _ _ _ hbx
  have q5 : w1.cell? ⟨w.heap.size, 5, none⟩ = some (.int .i64 z) := cell_of_row w1 _ 5 _ _ _ hbx
  have f5 : w1.frozen? ⟨w.heap.size, 5, none⟩ = false := by simp [World.frozen?, hbx]
  have HW1 : Hid (Below w.heap.size w w1) := (below_alloc w _).trans (hbw.mono (by simp))
  have HZ : Hid (Below w.heap.size w ((w1.setCell ⟨w.heap.size, 5, none⟩ (.int .i64 k)).alloc (.cells #[.int .u32 e, .int .u32 s, .int .u32 p, .int .i64 i, .int .i64 a4, .int .i64 k] 116))) := (HW1.out.setCell (Nat.le_refl _) _).alloc (by simp [World.setCell]; omega) _
  clear hbx hbw hb1
  go_wp2
  go_ret2
  exact ⟨rfl, HZ.out⟩
end Go.Proofs.Ytpbfoppaeeafhaa
namespace Go.Proofs.Ytpbfoppaeeafhaa
open Go.RowKit Go.WideShapes

set_option maxRecDepth 8000 in
set_option maxHeartbeats 2000000 in
theorem part_few0 (e s p i n z k : Nat) (b o c : Nat) (xs : List Nat) (w : World) (hx : xs.length = 128) (hc : 128 ≤ c) (hcm : c ≤ maxLen) (hb : BIn w (some ⟨b, o, none⟩) xs) (hm : markOfN xs = .agg #[.int .u32 e, .int .u32 s, .int .u32 p, .int .i64 i, .int .i64 n, .int .i64 k]) (hi : i < 256) (hn : n < 256) (h1 : i + 1 < n) (hk : k < 112) :
    Calls Try.prog 67 #[.slice (some ⟨b, o, none⟩) 128 c, markV e s p i n z] w fun x w' => x = .returned (.tuple #[.slice none 0 0, .bool false]) ∧ Below w.heap.size w w' := by
  have g : decide ((k : Int) < 112) = true := decide_eq_true (by omega)
  have gk : (k : Int) < 112 := by omega
  clear hk
  have HI : Hid (i < 256 ∧ n < 256) := ⟨hi, hn⟩
  have HP : Hid (placeN i n = 0) := by show _ = _; unfold placeN; rw [if_pos h1]
  clear hi hn h1
  have HX : Hid (xs.length = 128) := hx
  have HB : Hid (BIn w (some ⟨b, o, none⟩) xs) := hb
  have HCM : Hid (c ≤ maxLen) := hcm
  have h16c : (16 : Int) < c := by omega
  have hcI : (128 : Int) ≤ c := by omega
  have HC : Hid (128 ≤ c) := hc
  have HM : Hid (markOfN xs = .agg #[.int .u32 e, .int .u32 s, .int .u32 p, .int .i64 i, .int .i64 n, .int .i64 k]) := hm
  clear hx hb hc hcm hm
  unfold markV
  go_enter Try.func67, Try.ntmps67
  go_wp2_with fail
  refine (markOf_any (some ⟨b, o, none⟩) xs 128 c _ HX.out.symm (by have := HX.out; omega) HC.out (HB.out.alloc _)).mono ?_
  rintro x w1 ⟨ex, hb1⟩
  rw [HM.out] at ex
  subst ex
  have hbw : Below (w.alloc (.cells #[.int .u32 e, .int .u32 s, .int .u32 p, .int .i64 i, .int .i64 n, .int .i64 z] 116)).heap.size (w.alloc (.cells #[.int .u32 e, .int .u32 s, .int .u32 p, .int .i64 i, .int .i64 n, .int .i64 z] 116)) w1 := hb1
  have hbx : w1.heap[w.heap.size]? = some (.cells #[.int .u32 e, .int .u32 s, .int .u32 p, .int .i64 i, .int .i64 n, .int .i64 z] 116 (0, 0)) := (hbw.block _ (by simp)).trans (heap_alloc_new w _)
  have hlt : w.heap.size < w1.heap.size := lt_heap hbx
  have q0 : w1.cell? ⟨w.heap.size, 0, none⟩ = some (.int .u32 e) := cell_of_row w1 _ 0 _ _ _ hbx
  have q1 : w1.cell? ⟨w.heap.size, 1, none⟩ = some (.int .u32 s) := cell_of_row w1 _ 1 _ _ _ hbx
  have q2 : w1.cell? ⟨w.heap.size, 2, none⟩ = some (.int .u32 p) := cell_of_row w1 _ 2 _ _ _ hbx
  have q3 : w1.cell? ⟨w.heap.size, 3, none⟩ = some (.int .i64 i) := cell_of_row w1 _ 3 _ _ _ hbx
  have q4 : w1.cell? ⟨w.heap.size, 4, none⟩ = some (.int .i64 n) := cell_of_row w1 _ 4 _ _ _ hbx
  have q5 : w1.cell? ⟨w.heap.size, 5, none⟩ = some (.int .i64 z) := cell_of_row w1 _ 5 _ _ _ hbx
  have f5 : w1.frozen? ⟨w.heap.size, 5, none⟩ = false := by simp [World.frozen?, hbx]
  have HW1 : Hid (Below w.heap.size w w1) := (below_alloc w _).trans (hbw.mono (by simp))
  have HZ : Hid (Below w.heap.size w ((w1.setCell ⟨w.heap.size, 5, none⟩ (.int .i64 k)).alloc (.cells #[.int .u32 e, .int .u32 s, .int .u32 p, .int .i64 i, .int .i64 n, .int .i64 k] 116))) := (HW1.out.setCell (Nat.le_refl _) _).alloc (by simp [World.setCell]; omega) _
  clear hbx hbw hb1
  go_wp2_with fail
  refine (place_any e s p i n k 0 _ HI.out.1 HI.out.2 HP.out).mono ?_
  rintro x w2 ⟨ex, hb2⟩
  subst ex
  have hZ := HZ.out
  have hsz2 := hb2.size
  have hszZ : (w1.setCell ⟨w.heap.size, 5, none⟩ (.int .i64 k)).heap.size = w1.heap.size := by simp [World.setCell]
  have hbm : w2.heap[w1.heap.size]? = some (.cells #[.int .u32 e, .int .u32 s, .int .u32 p, .int .i64 i, .int .i64 n, .int .i64 k] 116 (0, 0)) := by
    have h3 := heap_alloc_new (w1.setCell ⟨w.heap.size, 5, none⟩ (.int .i64 k)) (.cells #[.int .u32 e, .int .u32 s, .int .u32 p, .int .i64 i, .int .i64 n, .int .i64 k] 116)
    rw [hszZ] at h3
    exact (hb2.block _ (by rw [World.size_alloc, hszZ]; omega)).trans h3
  have m5 : w2.cell? ⟨w1.heap.size, 5, none⟩ = some (.int .i64 k) := cell_of_row w2 _ 5 _ _ _ hbm
  have HZ2 : Hid (Below w.heap.size w w2) := hZ.trans (hb2.mono hZ.size)
  clear hbm hb2 hZ HZ q0 q1 q2 q3 q4 q5 f5 hszZ
  go_wp2
  go_ret2
  exact ⟨rfl, HZ2.out⟩
set_option maxRecDepth 8000 in
set_option maxHeartbeats 2000000 in
set_option linter.unusedVariables false in
theorem part_many0 (e s p i n z k : Nat) (b o c : Nat) (xs : List Nat) (w : World) (hx : xs.length = 128) (hc : 128 ≤ c) (hcm : c ≤ maxLen) (hb : BIn w (some ⟨b, o, none⟩) xs) (hm : markOfN xs = .agg #[.int .u32 e, .int .u32 s, .int .u32 p, .int .i64 i, .int .i64 n, .int .i64 k]) (hi : i < 256) (hn : n < 256) (h1 : i + 1 < n) (_hk0 : 112 ≤ k) (hk : 112 < k) :
    Calls Try.prog 67 #[.slice (some ⟨b, o, none⟩) 128 c, markV e s p i n z] w fun x w' => x = .returned (.tuple #[.slice none 0 0, .bool false]) ∧ Below w.heap.size w w' := by
  have g0 : decide ((k : Int) < 112) = false := decide_eq_false (by omega)
  have g0' : ¬ (k : Int) < 112 := by omega
  have g00 : ((k : Int) == 0) = false := by simp; omega
  clear _hk0
  have gk : (112 : Int) < k := by omega
  clear hk
  have HI : Hid (i < 256 ∧ n < 256) := ⟨hi, hn⟩
  have HP : Hid (placeN i n = 0) := by show _ = _; unfold placeN; rw [if_pos h1]
  clear hi hn h1
  have HX : Hid (xs.length = 128) := hx
  have HB : Hid (BIn w (some ⟨b, o, none⟩) xs) := hb
  have HCM : Hid (c ≤ maxLen) := hcm
  have h16c : (16 : Int) < c := by omega
  have hcI : (128 : Int) ≤ c := by omega
  have HC : Hid (128 ≤ c) := hc
  have HM : Hid (markOfN xs = .agg #[.int .u32 e, .int .u32 s, .int .u32 p, .int .i64 i, .int .i64 n, .int .i64 k]) := hm
  clear hx hb hc hcm hm
  unfold markV
  go_enter Try.func67, Try.ntmps67
  go_wp2_with fail
  refine (markOf_any (some ⟨b, o, none⟩) xs 128 c _ HX.out.symm (by have := HX.out; omega) HC.out (HB.out.alloc _)).mono ?_
  rintro x w1 ⟨ex, hb1⟩
  rw [HM.out] at ex
  subst ex
  have hbw : Below (w.alloc (.cells #[.int .u32 e, .int .u32 s, .int .u32 p, .int .i64 i, .int .i64 n, .int .i64 z] 116)).heap.size (w.alloc (.cells #[.int .u32 e, .int .u32 s, .int .u32 p, .int .i64 i, .int .i64 n, .int .i64 z] 116)) w1 := hb1
  have hbx : w1.heap[w.heap.size]? = some (.cells #[.int .u32 e, .int .u32 s, .int .u32 p, .int .i64 i, .int .i64 n, .int .i64 z] 116 (0, 0)) := (hbw.block _ (by simp)).trans (heap_alloc_new w _)
  have hlt : w.heap.size < w1.heap.size := lt_heap hbx
  have q0 : w1.cell? ⟨w.heap.size, 0, none⟩ = some (.int .u32 e) := cell_of_row w1 _ 0 _ _ _ hbx
  have q1 : w1.cell? ⟨w.heap.size, 1, none⟩ = some (.int .u32 s) := cell_of_row w1 _ 1 _ _ _ hbx
  have q2 : w1.cell? ⟨w.heap.size, 2, none⟩ = some (.int .u32 p) := cell_of_row w1 _ 2 _ _ _ hbx
  have q3 : w1.cell? ⟨w.heap.size, 3, none⟩ = some (.int .i64 i) := cell_of_row w1 _ 3 _ _ _ hbx
  have q4 : w1.cell? ⟨w.heap.size, 4, none⟩ = some (.int .i64 n) := cell_of_row w1 _ 4 _ _ _ hbx
  have q5 : w1.cell? ⟨w.heap.size, 5, none⟩ = some (.int .i64 z) := cell_of_row w1 _ 5 _ _ _ hbx
  have f5 : w1.frozen? ⟨w.heap.size, 5, none⟩ = false := by simp [World.frozen?, hbx]
  have HW1 : Hid (Below w.heap.size w w1) := (below_alloc w _).trans (hbw.mono (by simp))
  have HZ : Hid (Below w.heap.size w ((w1.setCell ⟨w.heap.size, 5, none⟩ (.int .i64 k)).alloc (.cells #[.int .u32 e, .int .u32 s, .int .u32 p, .int .i64 i, .int .i64 n, .int .i64 k] 116))) := (HW1.out.setCell (Nat.le_refl _) _).alloc (by simp [World.setCell]; omega) _
  clear hbx hbw hb1
  go_wp2_with fail
  refine (place_any e s p i n k 0 _ HI.out.1 HI.out.2 HP.out).mono ?_
  rintro x w2 ⟨ex, hb2⟩
  subst ex
  have hZ := HZ.out
  have hsz2 := hb2.size
  have hszZ : (w1.setCell ⟨w.heap.size, 5, none⟩ (.int .i64 k)).heap.size = w1.heap.size := by simp [World.setCell]
  have hbm : w2.heap[w1.heap.size]? = some (.cells #[.int .u32 e, .int .u32 s, .int .u32 p, .int .i64 i, .int .i64 n, .int .i64 k] 116 (0, 0)) := by
    have h3 := heap_alloc_new (w1.setCell ⟨w.heap.size, 5, none⟩ (.int .i64 k)) (.cells #[.int .u32 e, .int .u32 s, .int .u32 p, .int .i64 i, .int .i64 n, .int .i64 k] 116)
    rw [hszZ] at h3
    exact (hb2.block _ (by rw [World.size_alloc, hszZ]; omega)).trans h3
  have m5 : w2.cell? ⟨w1.heap.size, 5, none⟩ = some (.int .i64 k) := cell_of_row w2 _ 5 _ _ _ hbm
  have HZ2 : Hid (Below w.heap.size w w2) := hZ.trans (hb2.mono hZ.size)
  clear hbm hb2 hZ HZ q0 q1 q2 q3 q4 q5 f5 hszZ
  go_wp2
  go_ret2
  exact ⟨rfl, HZ2.out⟩
set_option maxRecDepth 8000 in
set_option maxHeartbeats 2000000 in
theorem part_z0t1 (e s p i n z : Nat) (b o : Nat) (xs : List Nat) (w : World) (hx : xs.length = 128) (hb : BIn w (some ⟨b, o, none⟩) xs) (hm : markOfN xs = .agg #[.int .u32 e, .int .u32 s, .int .u32 p, .int .i64 i, .int .i64 n, .int .i64 112]) (hi : i < 256) (hn : n < 256) (h1 : i + 1 < n) :
    Calls Try.prog 67 #[.slice (some ⟨b, o, none⟩) 128 128, markV e s p i n z] w fun x w' => x = .returned (.tuple #[.slice (some ⟨b, o + 16, none⟩) (16 + 112 - 16) (128 - 16), .bool true]) ∧ Below w.heap.size w w' := by
  have HI : Hid (i < 256 ∧ n < 256) := ⟨hi, hn⟩
  have HP : Hid (placeN i n = 0) := by show _ = _; unfold placeN; rw [if_pos h1]
  clear hi hn h1
  have HX : Hid (xs.length = 128) := hx
  have HB : Hid (BIn w (some ⟨b, o, none⟩) xs) := hb
  have HM : Hid (markOfN xs = .agg #[.int .u32 e, .int .u32 s, .int .u32 p, .int .i64 i, .int .i64 n, .int .i64 112]) := hm
  clear hx hb hm
  unfold markV
  go_enter Try.func67, Try.ntmps67
  go_wp2_with fail
  refine (markOf_any (some ⟨b, o, none⟩) xs 128 128 _ HX.out.symm (by have := HX.out; omega) (Nat.le_refl _) (HB.out.alloc _)).mono ?_
  rintro x w1 ⟨ex, hb1⟩
  rw [HM.out] at ex
  subst ex
  have hbw : Below (w.alloc (.cells #[.int .u32 e, .int .u32 s, .int .u32 p, .int .i64 i, .int .i64 n, .int .i64 z] 116)).heap.size (w.alloc (.cells #[.int .u32 e, .int .u32 s, .int .u32 p, .int .i64 i, .int .i64 n, .int .i64 z] 116)) w1 := hb1
  have hbx : w1.heap[w.heap.size]? = some (.cells #[.int .u32 e, .int .u32 s, .int .u32 p, .int .i64 i, .int .i64 n, .int .i64 z] 116 (0, 0)) := (hbw.block _ (by simp)).trans (heap_alloc_new w _)
  have hlt : w.heap.size < w1.heap.size := lt_heap hbx
  have q0 : w1.cell? ⟨w.heap.size, 0, none⟩ = some (.int .u32 e) := cell_of_row w1 _ 0 _ _ _ hbx
  have q1 : w1.cell? ⟨w.heap.size, 1, none⟩ = some (.int .u32 s) := cell_of_row w1 _ 1 _ _ _ hbx
  have q2 : w1.cell? ⟨w.heap.size, 2, none⟩ = some (.int .u32 p) := cell_of_row w1 _ 2 _ _ _ hbx
  have q3 : w1.cell? ⟨w.heap.size, 3, none⟩ = some (.int .i64 i) := cell_of_row w1 _ 3 _ _ _ hbx
  have q4 : w1.cell? ⟨w.heap.size, 4, none⟩ = some (.int .i64 n) := cell_of_row w1 _ 4 _ _ _ hbx
  have q5 : w1.cell? ⟨w.heap.size, 5, none⟩ = some (.int .i64 z) := cell_of_row w1 _ 5 _ _ _ hbx
  have f5 : w1.frozen? ⟨w.heap.size, 5, none⟩ = false := by simp [World.frozen?, hbx]
  have HW1 : Hid (Below w.heap.size w w1) := (below_alloc w _).trans (hbw.mono (by simp))
  have HZ : Hid (Below w.heap.size w ((w1.setCell ⟨w.heap.size, 5, none⟩ (.int .i64 112)).alloc (.cells #[.int .u32 e, .int .u32 s, .int .u32 p, .int .i64 i, .int .i64 n, .int .i64 112] 116))) := (HW1.out.setCell (Nat.le_refl _) _).alloc (by simp [World.setCell]; omega) _
  clear hbx hbw hb1
  go_wp2_with fail
  refine (place_any e s p i n 112 0 _ HI.out.1 HI.out.2 HP.out).mono ?_
  rintro x w2 ⟨ex, hb2⟩
  subst ex
  have hZ := HZ.out
  have hsz2 := hb2.size
  have hszZ : (w1.setCell ⟨w.heap.size, 5, none⟩ (.int .i64 112)).heap.size = w1.heap.size := by simp [World.setCell]
  have hbm : w2.heap[w1.heap.size]? = some (.cells #[.int .u32 e, .int .u32 s, .int .u32 p, .int .i64 i, .int .i64 n, .int .i64 112] 116 (0, 0)) := by
    have h3 := heap_alloc_new (w1.setCell ⟨w.heap.size, 5, none⟩ (.int .i64 112)) (.cells #[.int .u32 e, .int .u32 s, .int .u32 p, .int .i64 i, .int .i64 n, .int .i64 112] 116)
    rw [hszZ] at h3
    exact (hb2.block _ (by rw [World.size_alloc, hszZ]; omega)).trans h3
  have m5 : w2.cell? ⟨w1.heap.size, 5, none⟩ = some (.int .i64 112) := cell_of_row w2 _ 5 _ _ _ hbm
  have HZ2 : Hid (Below w.heap.size w w2) := hZ.trans (hb2.mono hZ.size)
  clear hbm hb2 hZ HZ q0 q1 q2 q3 q4 q5 f5 hszZ
  go_wp2_with fail
  refine (noughts_any _ [] _ _ true _ (by simp) (by simp) (by simp [maxLen]) (drop_in0 rfl) (by simp)).mono ?_
  rintro x w3 ⟨ex, ew⟩
  subst ex
  subst ew
  go_wp2
  go_ret2
  exact ⟨rfl, HZ2.out⟩
end Go.Proofs.Ytpbfoppaeeafhaa
namespace Go.Proofs.Ytpbfoppaeeafhaa
open Go.RowKit Go.WideShapes

set_option maxRecDepth 8000 in
set_option maxHeartbeats 2000000 in
theorem part_z0f0 (e s p i n z k : Nat) (b o c : Nat) (xs : List Nat) (w : World) (hx : xs.length = 128) (hc : 128 ≤ c) (hcm : c ≤ maxLen) (hb : BIn w (some ⟨b, o, none⟩) xs) (hm : markOfN xs = .agg #[.int .u32 e, .int .u32 s, .int .u32 p, .int .i64 i, .int .i64 n, .int .i64 k]) (hi : i < 256) (hn : n < 256) (h1 : i + 1 < n) (_hk0 : 112 ≤ k) (hk : k ≤ 112) (hz : allZ (xs.drop (16 + k)) = false) (hcc : ¬ c = 16 + k) :
    Calls Try.prog 67 #[.slice (some ⟨b, o, none⟩) 128 c, markV e s p i n z] w fun x w' => x = .returned (.tuple #[.slice none 0 0, .bool false]) ∧ Below w.heap.size w w' := by
  have g0 : decide ((k : Int) < 112) = false := decide_eq_false (by omega)
  have g0' : ¬ (k : Int) < 112 := by omega
  have g00 : ((k : Int) == 0) = false := by simp; omega
  clear _hk0
  have gk : (k : Int) ≤ 112 := by omega
  have gk' : ¬ (112 : Int) < k := by omega
  have w16 : IntKind.i64.wrap (16 + (k : Int)) = 16 + (k : Int) := by rw [IntKind.wrap_i64]; omega
  have hkc : 16 + (k : Int) ≤ c := by omega
  have HK : Hid (k ≤ 112) := hk
  have HNZ : Hid (allZ (xs.drop (16 + k)) = false) := hz
  have HCC : Hid (¬ c = 16 + k) := hcc
  clear hk hz
  have HI : Hid (i < 256 ∧ n < 256) := ⟨hi, hn⟩
  have HP : Hid (placeN i n = 0) := by show _ = _; unfold placeN; rw [if_pos h1]
  clear hi hn h1
  have HX : Hid (xs.length = 128) := hx
  have HB : Hid (BIn w (some ⟨b, o, none⟩) xs) := hb
  have HCM : Hid (c ≤ maxLen) := hcm
  have h16c : (16 : Int) < c := by omega
  have hcI : (128 : Int) ≤ c := by omega
  have HC : Hid (128 ≤ c) := hc
  have HM : Hid (markOfN xs = .agg #[.int .u32 e, .int .u32 s, .int .u32 p, .int .i64 i, .int .i64 n, .int .i64 k]) := hm
  clear hx hb hc hcm hm
  unfold markV
  go_enter Try.func67, Try.ntmps67
  go_wp2_with fail
  refine (markOf_any (some ⟨b, o, none⟩) xs 128 c _ HX.out.symm (by have := HX.out; omega) HC.out (HB.out.alloc _)).mono ?_
  rintro x w1 ⟨ex, hb1⟩
  rw [HM.out] at ex
  subst ex
  have hbw : Below (w.alloc (.cells #[.int .u32 e, .int .u32 s, .int .u32 p, .int .i64 i, .int .i64 n, .int .i64 z] 116)).heap.size (w.alloc (.cells #[.int .u32 e, .int .u32 s, .int .u32 p, .int .i64 i, .int .i64 n, .int .i64 z] 116)) w1 := hb1
  have hbx : w1.heap[w.heap.size]? = some (.cells #[.int .u32 e, .int .u32 s, .int .u32 p, .int .i64 i, .int .i64 n, .int .i64 z] 116 (0, 0)) := (hbw.block _ (by simp)).trans (heap_alloc_new w _)
  have hlt : w.heap.size < w1.heap.size := lt_heap hbx
  have q0 : w1.cell? ⟨w.heap.size, 0, none⟩ = some (.int .u32 e) := cell_of_row w1 _ 0 _ _ _ hbx
  have q1 : w1.cell? ⟨w.heap.size, 1, none⟩ = some (.int .u32 s) := cell_of_row w1 _ 1 _ _ _ hbx
  have q2 : w1.cell? ⟨w.heap.size, 2, none⟩ = some (.int .u32 p) := cell_of_row w1 _ 2 _ _ _ hbx
  have q3 : w1.cell? ⟨w.heap.size, 3, none⟩ = some (.int .i64 i) := cell_of_row w1 _ 3 _ _ _ hbx
  have q4 : w1.cell? ⟨w.heap.size, 4, none⟩ = some (.int .i64 n) := cell_of_row w1 _ 4 _ _ _ hbx
  have q5 : w1.cell? ⟨w.heap.size, 5, none⟩ = some (.int .i64 z) := cell_of_row w1 _ 5 _ _ _ hbx
  have f5 : w1.frozen? ⟨w.heap.size, 5, none⟩ = false := by simp [World.frozen?, hbx]
  have HW1 : Hid (Below w.heap.size w w1) := (below_alloc w _).trans (hbw.mono (by simp))
  have HZ : Hid (Below w.heap.size w ((w1.setCell ⟨w.heap.size, 5, none⟩ (.int .i64 k)).alloc (.cells #[.int .u32 e, .int .u32 s, .int .u32 p, .int .i64 i, .int .i64 n, .int .i64 k] 116))) := (HW1.out.setCell (Nat.le_refl _) _).alloc (by simp [World.setCell]; omega) _
  clear hbx hbw hb1
  go_wp2_with fail
  refine (place_any e s p i n k 0 _ HI.out.1 HI.out.2 HP.out).mono ?_
  rintro x w2 ⟨ex, hb2⟩
  subst ex
  have hZ := HZ.out
  have hsz2 := hb2.size
  have hszZ : (w1.setCell ⟨w.heap.size, 5, none⟩ (.int .i64 k)).heap.size = w1.heap.size := by simp [World.setCell]
  have hbm : w2.heap[w1.heap.size]? = some (.cells #[.int .u32 e, .int .u32 s, .int .u32 p, .int .i64 i, .int .i64 n, .int .i64 k] 116 (0, 0)) := by
    have h3 := heap_alloc_new (w1.setCell ⟨w.heap.size, 5, none⟩ (.int .i64 k)) (.cells #[.int .u32 e, .int .u32 s, .int .u32 p, .int .i64 i, .int .i64 n, .int .i64 k] 116)
    rw [hszZ] at h3
    exact (hb2.block _ (by rw [World.size_alloc, hszZ]; omega)).trans h3
  have m5 : w2.cell? ⟨w1.heap.size, 5, none⟩ = some (.int .i64 k) := cell_of_row w2 _ 5 _ _ _ hbm
  have HZ2 : Hid (Below w.heap.size w w2) := hZ.trans (hb2.mono hZ.size)
  clear hbm hb2 hZ HZ q0 q1 q2 q3 q4 q5 f5 hszZ
  have HBZ : Hid (BIn w2 (some ⟨b, o, none⟩) xs) := HB.out.below HZ2.out
  go_wp2_with fail
  refine (noughts_any _ (xs.drop (16 + k)) _ _ false _ (by rw [List.length_drop, HX.out]; try omega) (by have := HC.out; have := HCC.out; omega) (by have := HCM.out; omega) (HBZ.out.drop' (16 + k)) HNZ.out).mono ?_
  rintro x w3 ⟨ex, ew⟩
  subst ex
  subst ew
  go_wp2
  go_ret2
  exact ⟨rfl, HZ2.out⟩
set_option maxRecDepth 8000 in
set_option maxHeartbeats 2000000 in
theorem part_z0t0 (e s p i n z k : Nat) (b o c : Nat) (xs : List Nat) (w : World) (hx : xs.length = 128) (hc : 128 ≤ c) (hcm : c ≤ maxLen) (hb : BIn w (some ⟨b, o, none⟩) xs) (hm : markOfN xs = .agg #[.int .u32 e, .int .u32 s, .int .u32 p, .int .i64 i, .int .i64 n, .int .i64 k]) (hi : i < 256) (hn : n < 256) (h1 : i + 1 < n) (_hk0 : 112 ≤ k) (hk : k ≤ 112) (hz : allZ (xs.drop (16 + k)) = true) (hcc : ¬ c = 16 + k) :
    Calls Try.prog 67 #[.slice (some ⟨b, o, none⟩) 128 c, markV e s p i n z] w fun x w' => x = .returned (.tuple #[.slice (some ⟨b, o + 16, none⟩) (16 + k - 16) (c - 16), .bool true]) ∧ Below w.heap.size w w' := by
  have g0 : decide ((k : Int) < 112) = false := decide_eq_false (by omega)
  have g0' : ¬ (k : Int) < 112 := by omega
  have g00 : ((k : Int) == 0) = false := by simp; omega
  clear _hk0
  have gk : (k : Int) ≤ 112 := by omega
  have gk' : ¬ (112 : Int) < k := by omega
  have w16 : IntKind.i64.wrap (16 + (k : Int)) = 16 + (k : Int) := by rw [IntKind.wrap_i64]; omega
  have hkc : 16 + (k : Int) ≤ c := by omega
  have HK : Hid (k ≤ 112) := hk
  have HNZ : Hid (allZ (xs.drop (16 + k)) = true) := hz
  have HCC : Hid (¬ c = 16 + k) := hcc
  clear hk hz
  have HI : Hid (i < 256 ∧ n < 256) := ⟨hi, hn⟩
  have HP : Hid (placeN i n = 0) := by show _ = _; unfold placeN; rw [if_pos h1]
  clear hi hn h1
  have HX : Hid (xs.length = 128) := hx
  have HB : Hid (BIn w (some ⟨b, o, none⟩) xs) := hb
  have HCM : Hid (c ≤ maxLen) := hcm
  have h16c : (16 : Int) < c := by omega
  have hcI : (128 : Int) ≤ c := by omega
  have HC : Hid (128 ≤ c) := hc
  have HM : Hid (markOfN xs = .agg #[.int .u32 e, .int .u32 s, .int .u32 p, .int .i64 i, .int .i64 n, .int .i64 k]) := hm
  clear hx hb hc hcm hm
  unfold markV
  go_enter Try.func67, Try.ntmps67
  go_wp2_with fail
  refine (markOf_any (some ⟨b, o, none⟩) xs 128 c _ HX.out.symm (by have := HX.out; omega) HC.out (HB.out.alloc _)).mono ?_
  rintro x w1 ⟨ex, hb1⟩
  rw [HM.out] at ex
  subst ex
  have hbw : Below (w.alloc (.cells #[.int .u32 e, .int .u32 s, .int .u32 p, .int .i64 i, .int .i64 n, .int .i64 z] 116)).heap.size (w.alloc (.cells #[.int .u32 e, .int .u32 s, .int .u32 p, .int .i64 i, .int .i64 n, .int .i64 z] 116)) w1 := hb1
  have hbx : w1.heap[w.heap.size]? = some (.cells #[.int .u32 e, .int .u32 s, .int .u32 p, .int .i64 i, .int .i64 n, .int .i64 z] 116 (0, 0)) := (hbw.block _ (by simp)).trans (heap_alloc_new w _)
  have hlt : w.heap.size < w1.heap.size := lt_heap hbx
  have q0 : w1.cell? ⟨w.heap.size, 0, none⟩ = some (.int .u32 e) := cell_of_row w1 _ 0 _ _ _ hbx
  have q1 : w1.cell? ⟨w.heap.size, 1, none⟩ = some (.int .u32 s) := cell_of_row w1 _ 1 _ _ _ hbx
  have q2 : w1.cell? ⟨w.heap.size, 2, none⟩ = some (.int .u32 p) := cell_of_row w1 _ 2 _ _ _ hbx
  have q3 : w1.cell? ⟨w.heap.size, 3, none⟩ = some (.int .i64 i) := cell_of_row w1 _ 3 _ _ _ hbx
  have q4 : w1.cell? ⟨w.heap.size, 4, none⟩ = some (.int .i64 n) := cell_of_row w1 _ 4 _ _ _ hbx
  have q5 : w1.cell? ⟨w.heap.size, 5, none⟩ = some (.int .i64 z) := cell_of_row w1 _ 5 _ _ _ hbx
  have f5 : w1.frozen? ⟨w.heap.size, 5, none⟩ = false := by simp [World.frozen?, hbx]
  have HW1 : Hid (Below w.heap.size w w1) := (below_alloc w _).trans (hbw.mono (by simp))
  have HZ : Hid (Below w.heap.size w ((w1.setCell ⟨w.heap.size, 5, none⟩ (.int .i64 k)).alloc (.cells #[.int .u32 e, .int .u32 s, .int .u32 p, .int .i64 i, .int .i64 n, .int .i64 k] 116))) := (HW1.out.setCell (Nat.le_refl _) _).alloc (by simp [World.setCell]; omega) _
  clear hbx hbw hb1
  go_wp2_with fail
  refine (place_any e s p i n k 0 _ HI.out.1 HI.out.2 HP.out).mono ?_
  rintro x w2 ⟨ex, hb2⟩
  subst ex
  have hZ := HZ.out
  have hsz2 := hb2.size
  have hszZ : (w1.setCell ⟨w.heap.size, 5, none⟩ (.int .i64 k)).heap.size = w1.heap.size := by simp [World.setCell]
  have hbm : w2.heap[w1.heap.size]? = some (.cells #[.int .u32 e, .int .u32 s, .int .u32 p, .int .i64 i, .int .i64 n, .int .i64 k] 116 (0, 0)) := by
    have h3 := heap_alloc_new (w1.setCell ⟨w.heap.size, 5, none⟩ (.int .i64 k)) (.cells #[.int .u32 e, .int .u32 s, .int .u32 p, .int .i64 i, .int .i64 n, .int .i64 k] 116)
    rw [hszZ] at h3
    exact (hb2.block _ (by rw [World.size_alloc, hszZ]; omega)).trans h3
  have m5 : w2.cell? ⟨w1.heap.size, 5, none⟩ = some (.int .i64 k) := cell_of_row w2 _ 5 _ _ _ hbm
  have HZ2 : Hid (Below w.heap.size w w2) := hZ.trans (hb2.mono hZ.size)
  clear hbm hb2 hZ HZ q0 q1 q2 q3 q4 q5 f5 hszZ
  have HBZ : Hid (BIn w2 (some ⟨b, o, none⟩) xs) := HB.out.below HZ2.out
  go_wp2_with fail
  refine (noughts_any _ (xs.drop (16 + k)) _ _ true _ (by rw [List.length_drop, HX.out]; try omega) (by have := HC.out; have := HCC.out; omega) (by have := HCM.out; omega) (HBZ.out.drop' (16 + k)) HNZ.out).mono ?_
  rintro x w3 ⟨ex, ew⟩
  subst ex
  subst ew
  go_wp2
  go_ret2
  exact ⟨rfl, HZ2.out⟩
end Go.Proofs.Ytpbfoppaeeafhaa
