/-
  The document's reader: fail, step, is, need.
-/
import Derived.Test.YtkcmidhpbaepoaaDoorGDm
namespace Go.Proofs.YtkcmidhpbaepoaaDoor.G
open Go.RowKit Go.WideShapes Go.Joins

/-- the bytes of the token at a place -/
def nowB (S : ByteArray) (p : Nat) : ByteArray := S.extract p (p + (tok ((numsOf S).drop p)).2)
theorem nowB_nums (S : ByteArray) (p : Nat) : numsOf (nowB S p) = nowL ((numsOf S).drop p) := by
  unfold nowB nowL
  rw [extract_nums, Nat.add_sub_cancel_left]
/-- the document's reader in memory -/
structure DIn (w : World) (b : Nat) (S : ByteArray) (σ : St) : Prop where
  le : σ.p ≤ S.size
  sz : S.size ≤ 16384
  liv : ∀ p, σ = .live p → tkAt (numsOf S) p ≠ .non ∧ w.heap[b]? = some (.cells #[.string S, .int .i64 ((p + (tok ((numsOf S).drop p)).2 : Nat) : Int), .int .i64 (p : Int), .string (nowB S p), .bool false, .int .i64 0] 40 (0, 0))
  ded : ∀ p, σ = .dead p → ∃ (i a : Nat), w.heap[b]? = some (.cells #[.string S, .int .i64 (i : Int), .int .i64 (a : Int), .string ⟨#[]⟩, .bool true, .int .i64 (p : Int)] 40 (0, 0))
theorem DIn.at {w w' : World} {b : Nat} {S : ByteArray} {σ : St} (h : DIn w b S σ) (hb : w'.heap[b]? = w.heap[b]?) : DIn w' b S σ := ⟨h.le, h.sz, fun p e => ⟨(h.liv p e).1, hb.trans (h.liv p e).2⟩, fun p e => by
  obtain ⟨i, a, hx⟩ := h.ded p e
  exact ⟨i, a, hb.trans hx⟩⟩
theorem DIn.lt {w : World} {b : Nat} {S : ByteArray} {σ : St} (h : DIn w b S σ) : b < w.heap.size := by
  cases σ with
  | live p => exact heap_lt (h.liv p rfl).2
  | dead p =>
    obtain ⟨i, a, hx⟩ := h.ded p rfl
    exact heap_lt hx
theorem DIn.below {w w' : World} {b : Nat} {S : ByteArray} {σ : St} (h : DIn w b S σ) (hb : Below w.heap.size w w') : DIn w' b S σ := h.at (hb.block b h.lt)
theorem DIn.aside {w w' : World} {b g : Nat} {S : ByteArray} {σ : St} (h : DIn w b S σ) (hg : w.grownBy w' (some g)) (hne : b ≠ g) : DIn w' b S σ := h.at (hg.block b h.lt (fun e => hne (Option.some.inj e)))
theorem grown_drewN (w : World) (n : Nat) (r : Option Nat) : w.grownBy (w.drewN n) r := grown_below (below_dN (Below.refl _ _) n) r
/-- what fail leaves -/
structure FaP (S : ByteArray) (p b : Nat) (w : World) (e : Ending) (w' : World) : Prop where
  ex : e = .returned (.tuple #[]) ∧ DIn w' b S (.dead p) ∧ w.grownBy w' (some b)
set_option maxHeartbeats 1000000 in
set_option maxRecDepth 8000 in
theorem fail_live (S : ByteArray) (p : Nat) (hp : p ≤ S.size) (hs : S.size ≤ 16384) (b : Nat) (w : World) (i a : Nat) (v5 : Value) (s : ByteArray)
    (hB : w.heap[b]? = some (.cells #[.string S, .int .i64 (i : Int), .int .i64 (a : Int), .string s, .bool false, v5] 40 (0, 0))) :
    Calls Tryd.prog 11 #[rp b, .int .i64 (p : Int)] w fun e w' => FaP S p b w e w' := by
  obtain ⟨⟨c0, c1, c2, c3, c4, c5⟩, f1, f2, f3, f4, f5⟩ := drow_cells hB
  have HF : Hid (FaP S p b w (.returned (.tuple #[])) (((w.setCell ⟨b, 4, none⟩ (.bool true)).setCell ⟨b, 5, none⟩ (.int .i64 (p : Int))).setCell ⟨b, 3, none⟩ (.string ⟨#[]⟩))) := by
    refine ⟨rfl, ⟨hp, hs, fun q e => (by cases e), fun q e => ?_⟩, grown_trans (grown_trans (grown_set _ _ _ _) (grown_set _ _ _ _)) (grown_set _ _ _ _)⟩
    cases e
    exact ⟨i, a, block_setCell (i := 3) (block_setCell (i := 5) (block_setCell (i := 4) hB _) _) _⟩
  clear hB hp hs
  unfold rp
  go_enter Tryd.func11, Tryd.ntmps11
  go_wp2_with fail
  go_end0
  exact HF.out
set_option maxHeartbeats 1000000 in
set_option maxRecDepth 8000 in
theorem fail_dead (S : ByteArray) (p : Nat) (b : Nat) (w : World) (h : DIn w b S (.dead p)) (v : Value) :
    Calls Tryd.prog 11 #[rp b, v] w fun e w' => FaP S p b w e w' := by
  obtain ⟨i, a, hB⟩ := h.ded p rfl
  obtain ⟨⟨c0, c1, c2, c3, c4, c5⟩, f1, f2, f3, f4, f5⟩ := drow_cells hB
  have HF : Hid (FaP S p b w (.returned (.tuple #[])) w) := ⟨rfl, h, grown_refl _ _⟩
  clear hB h
  unfold rp
  go_enter Tryd.func11, Tryd.ntmps11
  go_wp2_with fail
  go_end0
  exact HF.out
/-- what step leaves -/
structure SpP (S : ByteArray) (σ : St) (b : Nat) (w : World) (e : Ending) (w' : World) : Prop where
  ex : e = .returned (.tuple #[]) ∧ DIn w' b S σ ∧ w.grownBy w' (some b)
/-- Between two blanks. -/
inductive DbI (S : ByteArray) (q b : Nat) (a : Int) (s : ByteArray) (w : World) (gk : Nat) (wr : World) : Prop where
  | intro (k : Nat) (h1 : q ≤ k) (hk : k ≤ S.size) (hgk : gk = S.size - k) (hB : wr.heap[b]? = some (.cells #[.string S, .int .i64 (k : Int), .int .i64 a, .string s, .bool false, .int .i64 0] 40 (0, 0))) (hg : w.grownBy wr (some b)) (h : ∀ i, q ≤ i → i < k → (numsOf S).getD i 0 = 32)
/-- at the token -/
structure DtW (S : ByteArray) (k b : Nat) (w W : World) : Prop where
  B : W.heap[b]? = some (.cells #[.string S, .int .i64 (k : Int), .int .i64 (k : Int), .string ⟨#[]⟩, .bool false, .int .i64 0] 40 (0, 0))
  g : w.grownBy W (some b)
theorem dt_new {S : ByteArray} {k b : Nat} {w wr : World} {a : Int} {s : ByteArray} (hB : wr.heap[b]? = some (.cells #[.string S, .int .i64 (k : Int), .int .i64 a, .string s, .bool false, .int .i64 0] 40 (0, 0))) (hg : w.grownBy wr (some b)) (n : Nat) :
    DtW S k b w (((wr.drewN n).setCell ⟨b, 2, none⟩ (.int .i64 (k : Int))).setCell ⟨b, 3, none⟩ (.string ⟨#[]⟩)) :=
  ⟨block_setCell (i := 3) (block_setCell (i := 2) (w := wr.drewN n) hB _) _, grown_trans hg (grown_trans (grown_drewN _ _ _) (grown_trans (grown_set _ _ _ _) (grown_set _ _ _ _)))⟩
theorem nowB_end (S : ByteArray) : nowB S S.size = ⟨#[]⟩ := by
  apply numsOf_inj
  rw [nowB_nums, List.drop_eq_nil_of_le (by rw [numsOf_len]; exact Nat.le_refl _)]
  rfl
set_option maxHeartbeats 2000000 in
set_option maxRecDepth 8000 in
theorem step_any (S : ByteArray) (q b : Nat) (hq : q ≤ S.size) (hs : S.size ≤ 16384) (a : Int) (s : ByteArray) (w : World)
    (hB : w.heap[b]? = some (.cells #[.string S, .int .i64 (q : Int), .int .i64 a, .string s, .bool false, .int .i64 0] 40 (0, 0))) :
    Calls Tryd.prog 9 #[rp b] w fun e w' => SpP S (norm (numsOf S) (skip (numsOf S) q)) b w e w' := by
  obtain ⟨⟨c0, c1, c2, c3, c4, c5⟩, f1, f2, f3, f4, f5⟩ := drow_cells hB
  have HB : Hid (w.heap[b]? = _) := hB
  have HQ : Hid (q ≤ S.size ∧ S.size ≤ 16384) := ⟨hq, hs⟩
  have hsI : (S.size : Int) ≤ 16384 := by omega
  clear hB hq hs
  unfold rp
  go_enter Tryd.func9, Tryd.ntmps9
  go_wp2_with fail
  clear c0 c1 c2 c3 c4 c5 f1 f2 f3 f4 f5
  go_loopg [] (S.size - q) (fun gk wr => DbI S q b a s w gk wr)
  case atStart => exact ⟨q, Nat.le_refl _, HQ.out.1, rfl, HB.out, grown_refl _ _, fun i h1 h2 => by omega⟩
  case round =>
    obtain ⟨k, h1, hk, hgk, hB, hg, h⟩ := hrel
    have HK : Hid (q ≤ k ∧ k ≤ S.size ∧ gk = S.size - k ∧ w.grownBy wr (some b) ∧ (∀ i, q ≤ i → i < k → (numsOf S).getD i 0 = 32) ∧ wr.heap[b]? = _) := ⟨h1, hk, hgk, hg, h, hB⟩
    obtain ⟨⟨c0, c1, c2, c3, c4, c5⟩, f1, f2, f3, f4, f5⟩ := drow_cells hB
    clear HB h1 hgk hg h hB
    by_cases hlt : k < S.size
    · have hkI : (k : Int) < (S.size : Int) := by omega
      have hkD : decide ((k : Int) < (S.size : Int)) = true := decide_eq_true hkI
      have hk0 : (0 : Int) ≤ (k : Int) := by omega
      have hx := fun w' => str_at S k hlt w'
      obtain ⟨d, hd⟩ : ∃ d, (numsOf S).getD k 0 = d := ⟨_, rfl⟩
      rw [hd] at hx
      have HD : Hid ((numsOf S).getD k 0 = d ∧ k < S.size) := ⟨hd, hlt⟩
      clear hd
      by_cases h32 : d = 32
      · have q1 : ((d : Int) == 32) = true := by rw [h32]; rfl
        have H32 : Hid (d = 32) := h32
        clear h32 hlt hk
        go_wp2_with fail
        go_quiet (fail)
        go_wp2_with fail
        go_roundg (gk - 1)
        case measure => have := HK.out.2.2.1; have := HD.out.2; omega
        case rel =>
          refine ⟨k + 1, by have := HK.out.1; omega, HD.out.2, by have := HK.out.2.2.1; omega, ?_, grown_trans HK.out.2.2.2.1 (grown_trans (grown_drewN _ _ _) (grown_set _ _ _ _)), fun i h1 h2 => ?_⟩
          · exact block_setCell (i := 1) (w := wr.drewN _) HK.out.2.2.2.2.2 _
          · rcases Nat.lt_or_ge i k with h3 | h3
            · exact HK.out.2.2.2.2.1 i h1 h3
            · obtain rfl : i = k := by omega
              rw [HD.out.1, H32.out]
      · have q1 : ((d : Int) == 32) = false := bset d 32 h32
        have HS : Hid (skip (numsOf S) q = k) := skip_is HK.out.1 HK.out.2.1 HK.out.2.2.2.2.1 (fun _ => by rw [HD.out.1]; exact h32)
        obtain ⟨n, hn⟩ : ∃ n, (tok ((numsOf S).drop k)).2 = n := ⟨_, rfl⟩
        have hnl : k + n ≤ S.size := by
          have := tok_len ((numsOf S).drop k)
          rw [List.length_drop, numsOf_len] at this
          omega
        have HN : Hid ((tok ((numsOf S).drop k)).2 = n ∧ k + n ≤ S.size) := ⟨hn, hnl⟩
        have LG := fun (W : World) (h : W.cell? ⟨b, 0, none⟩ = some (.string S)) => long_any S k HQ.out.2 HD.out.2 b W h
        have HLG : Hid (∀ (W : World), W.cell? ⟨b, 0, none⟩ = some (.string S) → Calls Tryd.prog 17 #[rp b, .int .i64 (k : Int)] W fun e w' => LgP S k W e w') := LG
        clear h32 hlt hk hn hnl LG
        unfold rp at HLG
        go_wp2_with fail
        go_quiet (fail)
        rename_i nq
        go_upto_region 5 with fail
        refine wp_at (DtW S k b w) (dt_new HK.out.2.2.2.2.2 HK.out.2.2.2.1 nq) (fun w5 H5 => ?_)
        have H5H : Hid (DtW S k b w w5) := H5
        clear c0 c1 c2 c3 c4 c5 f1 f2 f3 f4 f5 hx q1
        obtain ⟨⟨c0, c1, c2, c3, c4, c5⟩, f1, f2, f3, f4, f5⟩ := drow_cells H5.B
        clear H5
        have e5 : ((k : Int) == (S.size : Int)) = false := by simpa using (by omega : ¬ (k : Int) = (S.size : Int))
        go_quiet (fail)
        have LG2 := fun n => HLG.out (w5.drewN n) (by simpa using c0)
        have HB6 : Hid (∀ n w6, Below (w5.drewN n).heap.size (w5.drewN n) w6 → w6.heap[b]? = some (.cells #[.string S, .int .i64 (k : Int), .int .i64 (k : Int), .string ⟨#[]⟩, .bool false, .int .i64 0] 40 (0, 0)) ∧ w.grownBy w6 (some b)) := fun n w6 hb =>
          ⟨box_below (w := w5.drewN n) H5H.out.B hb, grown_trans H5H.out.g (grown_trans (grown_drewN _ _ _) (grown_below hb _))⟩
        clear HLG
        go_wp2_with fail
        refine (LG2 _).mono ?_
        rintro e w6 ⟨rfl, hb6⟩
        rw [HN.out.1]
        obtain ⟨hB6, hg6⟩ := HB6.out _ w6 hb6
        have H6 : Hid (w6.heap[b]? = some (.cells #[.string S, .int .i64 (k : Int), .int .i64 (k : Int), .string ⟨#[]⟩, .bool false, .int .i64 0] 40 (0, 0)) ∧ w.grownBy w6 (some b)) := ⟨hB6, hg6⟩
        clear LG2 HB6 hb6 hg6 c0 c1 c2 c3 c4 c5 f1 f2 f3 f4 f5 e5 hkD
        obtain ⟨⟨c0, c1, c2, c3, c4, c5⟩, f1, f2, f3, f4, f5⟩ := drow_cells hB6
        clear hB6
        simp only []
        by_cases hz : n = 0
        · have hnon : tkAt (numsOf S) k = .non := tok_zero (by rw [HN.out.1, hz]) (fun e => by
            have := congrArg List.length e
            rw [List.length_drop, numsOf_len, List.length_nil] at this
            have := HD.out.2; omega)
          have FL := fail_live S k HK.out.2.1 HQ.out.2 b w6 k k _ _ H6.out.1
          have HT : Hid (tkAt (numsOf S) k = .non) := hnon
          unfold rp at FL
          subst hz
          clear hnon
          simp only [show (((0 : Nat) : Int)) = 0 from rfl]
          go_wp2_with fail
          refine FL.mono ?_
          rintro e w7 ⟨rfl, hD, hg7⟩
          have HF : Hid (SpP S (norm (numsOf S) (skip (numsOf S) q)) b w (.returned (.tuple #[])) w7) := ⟨rfl, by rw [HS.out, norm_dead HT.out]; exact hD, grown_trans H6.out.2 hg7⟩
          clear FL hD hg7 c0 c1 c2 c3 c4 c5 f1 f2 f3 f4 f5
          simp only []
          go_wp2_with fail
          go_end0
          exact HF.out
        · have ez : ((n : Int) == 0) = false := bset n 0 hz
          have hnI : (k : Int) + (n : Int) ≤ (S.size : Int) := by have := HN.out.2; omega
          have hn0 : (0 : Int) ≤ (n : Int) := by omega
          have HT : Hid (tkAt (numsOf S) k ≠ .non) := fun e => by
            have := tok_now ((numsOf S).drop k)
            rw [show (tok ((numsOf S).drop k)).1 = .non from e] at this
            have h9 : nowL ((numsOf S).drop k) = [] := this
            have h8 := congrArg List.length h9
            unfold nowL at h8
            rw [List.length_take, HN.out.1, List.length_drop, numsOf_len, List.length_nil] at h8
            have := HD.out.2; omega
          have XS : ∀ w', (Instr.slice 9 (.string S) (some (.int .i64 (k : Int))) (some (.int .i64 ((k : Int) + (n : Int)))) none).run Tryd.prog w' = .ok (.string (nowB S k)) w' := fun w' => by
            unfold nowB
            rw [HN.out.1, show (k : Int) + (n : Int) = ((k + n : Nat) : Int) by omega]
            exact slice_mid S k (k + n) (by omega) HN.out.2 w'
          clear hz
          generalize hX : nowB S k = X at XS
          have HX : Hid (nowB S k = X) := hX
          clear hX
          go_upto_region 9 with fail
          go_region
          go_wp2_with fail
          go_end0
          refine ⟨rfl, ?_, grown_trans H6.out.2 (grown_trans (grown_trans (grown_set w6 b 3 (.string X)) (grown_below (Below.refl _ _).drew _)) (grown_set _ b 1 _))⟩
          rw [HS.out, norm_live HT.out]
          refine ⟨HK.out.2.1, HQ.out.2, fun p e => ?_, fun p e => by cases e⟩
          cases e
          refine ⟨HT.out, ?_⟩
          rw [HX.out, HN.out.1, show ((k + n : Nat) : Int) = (k : Int) + (n : Int) by omega]
          have h9 := block_setCell (i := 3) H6.out.1 (.string X)
          exact block_setCell (i := 1) (w := (w6.setCell ⟨b, 3, none⟩ (.string X)).drew) h9 _
    · have hkD : decide ((k : Int) < (S.size : Int)) = false := decide_eq_false (by omega)
      obtain rfl : k = S.size := by omega
      have HS : Hid (skip (numsOf S) q = S.size) := skip_is HK.out.1 HK.out.2.1 HK.out.2.2.2.2.1 (fun h => absurd h (by omega))
      clear hlt hk
      go_wp2_with fail
      go_quiet (fail)
      rename_i nq
      go_upto_region 5 with fail
      refine wp_at (DtW S S.size b w) (dt_new HK.out.2.2.2.2.2 HK.out.2.2.2.1 nq) (fun w5 H5 => ?_)
      have H5H : Hid (DtW S S.size b w w5) := H5
      clear c0 c1 c2 c3 c4 c5 f1 f2 f3 f4 f5
      obtain ⟨⟨c0, c1, c2, c3, c4, c5⟩, f1, f2, f3, f4, f5⟩ := drow_cells H5.B
      clear H5
      go_quiet (fail)
      go_wp2_with fail
      go_end0
      refine ⟨rfl, ?_, grown_trans H5H.out.g (grown_drewN _ _ _)⟩
      have hd : (numsOf S).drop S.size = [] := List.drop_eq_nil_of_le (by rw [numsOf_len]; exact Nat.le_refl _)
      have ht : tkAt (numsOf S) S.size = .fin := by unfold tkAt; rw [hd]; rfl
      rw [HS.out, norm_live (by rw [ht]; simp)]
      refine ⟨Nat.le_refl _, HQ.out.2, fun p e => ?_, fun p e => by cases e⟩
      cases e
      refine ⟨by rw [ht]; simp, ?_⟩
      rw [nowB_end, hd]
      exact H5H.out.B
end Go.Proofs.YtkcmidhpbaepoaaDoor.G
