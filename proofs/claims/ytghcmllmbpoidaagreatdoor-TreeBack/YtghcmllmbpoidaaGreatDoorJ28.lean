import Derived.Test.YtghcmllmbpoidaaGreatDoorJ27
import Derived.Test.YtghcmllmbpoidaaGreatDoorJ14
import Derived.Deep.RegionWith
import Derived.Laws.ResultCell
namespace Go.Proofs.YtghcmllmbpoidaaGreatDoor.Lg
open Go.RowKit Go.WideShapes
def logK (data : List Nat) (ws : Puts) (k : Nat) : List Nat := (List.range k).flatMap fun i => nowN data ws ((16 + i : Nat) : Int)
def logN (data : List Nat) (ws : Puts) : List Nat := logK data ws 64
theorem logK_snoc (data : List Nat) (ws : Puts) (k : Nat) : logK data ws (k + 1) = logK data ws k ++ nowN data ws ((16 + k : Nat) : Int) := by
  unfold logK; rw [List.range_succ, List.flatMap_append]; simp
structure LogIs (data : List Nat) (ws : Puts) (k : Nat) : Prop where
  len : (logK data ws k).length = k * 128
  byte : ∀ c ∈ logK data ws k, c < 256
theorem LogIs.next {data : List Nat} {ws : Puts} {k : Nat} (h : LogIs data ws k) (h1 : (nowN data ws ((16 + k : Nat) : Int)).length = 128) (h2 : ∀ c ∈ nowN data ws ((16 + k : Nat) : Int), c < 256) : LogIs data ws (k + 1) := by
  refine ⟨?_, ?_⟩
  · rw [logK_snoc, List.length_append, h.len, h1]; omega
  · intro c hc
    rw [logK_snoc] at hc
    rcases List.mem_append.1 hc with hc | hc
    · exact h.byte c hc
    · exact h2 c hc
theorem now_bad (v : Value) (count : Int) (data : List Nat) (ws : Puts) (w : World) (hd : DiskIn w v count data ws) (ho : ¬ Okay count data ws) :
    Calls Tryz.prog 34 #[v] w fun e w' => e = .returned (.tuple #[.slice none 0 0, .int .i64 20]) ∧ Below w.heap.size w w' := by
  obtain ⟨p, c, q, m, rfl, _⟩ := hd.parts
  have HD : Hid _ := hd
  have HO : Hid (¬ Okay count data ws) := ho
  clear hd ho
  go_enter Tryz.func34, Tryz.ntmps34
  go_wp2_with fail
  refine (check_bad _ count data ws _ (HD.out.below (below_alloc w _)) HO.out).mono ?_
  rintro e w1 ⟨rfl, hb1⟩
  have HB1 : Hid (Below w.heap.size w w1) := below_bt (below_alloc w _) hb1
  clear hb1
  go_wp2
  go_ret2
  exact ⟨rfl, HB1.out⟩
theorem now_few (v : Value) (count : Int) (data : List Nat) (ws : Puts) (w : World) (hd : DiskIn w v count data ws) (ho : Okay count data ws) (hc : count < 80) :
    Calls Tryz.prog 34 #[v] w fun e w' => e = .returned (.tuple #[.slice none 0 0, .int .i64 50]) ∧ Below w.heap.size w w' := by
  obtain ⟨p, c, q, m, rfl, _⟩ := hd.parts
  have HD : Hid _ := hd
  have HO : Hid (Okay count data ws) := ho
  clear hd ho
  go_enter Tryz.func34, Tryz.ntmps34
  go_wp2_with fail
  refine (check_ok _ count data ws _ (HD.out.below (below_alloc w _)) HO.out).mono ?_
  rintro e w1 ⟨rfl, hb1⟩
  have HB1 : Hid (Below w.heap.size w w1) := below_bt (below_alloc w _) hb1
  replace hb1 : Below (w.heap.size + 1) (w.alloc (.cells #[.int .i64 count, .slice p data.length c, .slice q ws.length m] 35)) w1 := by simpa using hb1
  obtain ⟨c0, c1, c2⟩ := box_cells hb1
  clear hb1
  go_wp2
  go_ret2
  exact ⟨rfl, HB1.out⟩
set_option maxRecDepth 8000 in
set_option maxHeartbeats 2000000 in
theorem now_ok (v : Value) (count : Int) (data : List Nat) (ws : Puts) (w : World) (hd : DiskIn w v count data ws) (ho : Okay count data ws) (hc : 80 ≤ count) :
    Calls Tryz.prog 34 #[v] w fun e w' => ∃ v', e = .returned (.tuple #[v', .int .i64 0]) ∧ w'.ownsRow w.heap.size 5 1 v' (logN data ws).length (Bs (logN data ws)) ∧ LogIs data ws 64 ∧ Below w.heap.size w w' := by
  obtain ⟨p, c, q, m, rfl, _⟩ := hd.parts
  have HD : Hid _ := hd
  have HO : Hid (Okay count data ws) := ho
  clear hd ho
  go_enter Tryz.func34, Tryz.ntmps34
  go_wp2_with fail
  refine (check_ok _ count data ws _ (HD.out.below (below_alloc w _)) HO.out).mono ?_
  rintro e w1 ⟨rfl, hb1⟩
  have S1 : St w [(w.heap.size, #[.int .i64 count, .slice p data.length c, .slice q ws.length m], 35)] w1 (.slice none 0 0) [] := by
    have h1 := (St.start (w := w) (bx := []) (fun p hp => by simp at hp)).alloc #[.int .i64 count, .slice p data.length c, .slice q ws.length m] 35 (by decide)
    exact h1.call hb1
  have HS1 : Hid _ := S1
  have c0 : w1.cell? ⟨w.heap.size, 0, none⟩ = some (.int .i64 count) := S1.cell (List.Mem.head _) 0
  clear hb1 S1
  go_wp2
  go_loopw [5, 6] (fun b i wr => ∃ k : Nat, k ≤ 64 ∧ i = .int .i64 ((16 + k : Nat) : Int) ∧ LogIs data ws k ∧ St w [(w.heap.size, #[.int .i64 count, .slice p data.length c, .slice q ws.length m], 35)] wr b (logK data ws k)) (fun _ i _ => 80 - (intOf i).toNat)
  case atStart => exact ⟨0, by omega, rfl, ⟨rfl, fun c hc => by cases hc⟩, HS1.out⟩
  case round =>
    obtain ⟨k, hk, rfl, hli, hst⟩ := hrel
    clear HS1 c0
    have HLI : Hid (LogIs data ws k) := hli
    have HST : Hid _ := hst
    by_cases hk64 : k < 64
    · have hkI : ((16 + k : Nat) : Int) < 80 := by omega
      have r0 : wr.cell? ⟨w.heap.size, 0, none⟩ = some (.int .i64 count) := hst.cell (List.Mem.head _) 0
      have r1 : wr.cell? ⟨w.heap.size, 1, none⟩ = some (.slice p data.length c) := hst.cell (List.Mem.head _) 1
      have r2 : wr.cell? ⟨w.heap.size, 2, none⟩ = some (.slice q ws.length m) := hst.cell (List.Mem.head _) 2
      have HK : Hid (k < 64) := hk64
      clear hli hst hk64
      obtain ⟨j, hj⟩ : ∃ j, 16 + k = j := ⟨_, rfl⟩
      have HJ : Hid (16 + k = j) := hj
      rw [hj] at hkI ⊢
      clear hj
      go_wp2_with fail
      refine (read_okD _ j count data ws _ (HD.out.below HST.out.bel) HO.out (by omega)).mono ?_
      rintro e w2 ⟨⟨v2, rfl, g, rfl, hg1, hg2, hg3, hg4⟩, hb2⟩
      have HI2 : Hid (BIn w2 (some ⟨g, 0, none⟩) (nowN data ws j)) := bin_row hg2 hg4
      have HN : Hid ((nowN data ws j).length = 128 ∧ ∀ c ∈ nowN data ws j, c < 256) := ⟨hg3, hg4⟩
      have S2 := HST.out.call hb2
      have hsz2 := S2.size
      have HS2 : Hid _ := S2
      clear S2 hg1 hg2 hg3 hg4 hb2 HST r0 r1 r2
      go_wp2_with (at_builtin; refine wpList_append_bytes _ rfl _ _ rfl w.heap.size _ _ (nowN data ws j) (some ⟨g, 0, none⟩) _ 128 rfl rfl HN.out.1.symm HS2.out.own HI2.out (fun h => by cases h) (by have := HLI.out.len; have := HN.out.1; have := HK.out; omega) hsz2 ?_; intro v3 w3 ho3 hg3; have S3 := HS2.out.app ho3 hg3; have HS3 : Hid _ := S3; clear S3 ho3 hg3)
      go_roundw
      case rel =>
        have hj := HJ.out
        subst hj
        exact ⟨k + 1, by have := HK.out; omega, by go_num, HLI.out.next HN.out.1 HN.out.2, HS3.out.eq (logK_snoc data ws k).symm⟩
      case measure => simp [intOf]; omega
    · obtain rfl : k = 64 := by omega
      clear hli hst
      go_wp2
      go_ret2
      exact ⟨_, rfl, HST.out.own, HLI.out, HST.out.bel⟩
def epochN (xs : List Nat) : Nat :=
  if joinN (xs.getD 0 0) (xs.getD 1 0) (xs.getD 2 0) (xs.getD 3 0) (xs.getD 4 0) (xs.getD 5 0) (xs.getD 6 0) (xs.getD 7 0) < 4294967296 ∧ ∀ c ∈ (xs.take 128).drop 8, c = 0 then joinN (xs.getD 0 0) (xs.getD 1 0) (xs.getD 2 0) (xs.getD 3 0) (xs.getD 4 0) (xs.getD 5 0) (xs.getD 6 0) (xs.getD 7 0) else 0
theorem epochN_lt (xs : List Nat) : epochN xs < 4294967296 := by
  unfold epochN
  split
  · rename_i h; exact h.1
  · omega
theorem take8 {xs : List Nat} (h : 8 ≤ xs.length) : xs.take 8 = [xs.getD 0 0, xs.getD 1 0, xs.getD 2 0, xs.getD 3 0, xs.getD 4 0, xs.getD 5 0, xs.getD 6 0, xs.getD 7 0] := by
  match xs, h with
  | a0 :: a1 :: a2 :: a3 :: a4 :: a5 :: a6 :: a7 :: ys, _ => rfl
set_option maxRecDepth 8000 in
set_option maxHeartbeats 2000000 in
theorem epochOf_any (b o m c : Nat) (xs : List Nat) (w : World) (r : Nat) (hm : m = xs.length) (h128 : 128 ≤ m) (hmc : m ≤ c) (hcm : c ≤ maxLen) (hb : BIn w (some ⟨b, o, none⟩) xs) (hr : epochN xs = r) :
    Calls Tryz.prog 67 #[.slice (some ⟨b, o, none⟩) m c] w fun e w' => e = .returned (.int .u32 r) ∧ Below w.heap.size w w' := by
  obtain ⟨J, hJ⟩ : ∃ J, joinN (xs.getD 0 0) (xs.getD 1 0) (xs.getD 2 0) (xs.getD 3 0) (xs.getD 4 0) (xs.getD 5 0) (xs.getD 6 0) (xs.getD 7 0) = J := ⟨_, rfl⟩
  have HB8 : Hid (BIn w (some ⟨b, o, none⟩) [xs.getD 0 0, xs.getD 1 0, xs.getD 2 0, xs.getD 3 0, xs.getD 4 0, xs.getD 5 0, xs.getD 6 0, xs.getD 7 0]) := by
    have := hb.take' 8
    rw [take8 (by omega)] at this
    exact this
  have HB120 : Hid (BIn w (some ⟨b, o + 8, none⟩) ((xs.take 128).drop 8)) := (hb.take' 128).drop' 8
  have HL : Hid (120 = ((xs.take 128).drop 8).length) := by show _ = _; rw [List.length_drop, List.length_take]; omega
  have HC : Hid (128 ≤ c ∧ c ≤ maxLen) := ⟨by omega, hcm⟩
  have hcI : (128 : Int) ≤ c := by omega
  have HR : Hid ((if J < 4294967296 ∧ ∀ c ∈ (xs.take 128).drop 8, c = 0 then J else 0) = r) := by show _ = _; rw [← hr, ← hJ]; rfl
  have HJ : Hid _ := hJ
  clear hJ hm h128 hmc hcm hb hr
  have HG : Hid (∀ w' c', Below w.heap.size w w' → Calls Tryz.prog 97 #[.slice (some ⟨b, o, none⟩) 8 c'] w' fun e w2 => e = .returned (.tuple #[.int .u64 J, .int .i64 0]) ∧ Below w'.heap.size w' w2) := fun w' c' hb' => by
    have := get_ok (some ⟨b, o, none⟩) c' _ _ _ _ _ _ _ _ w' (HB8.out.below hb')
    rw [HJ.out] at this
    exact this
  clear HB8 HJ
  go_enter Tryz.func67, Tryz.ntmps67
  go_wp2_with fail
  refine (HG.out _ _ (Below.refl _ _)).mono ?_
  rintro e w1 ⟨rfl, hb1⟩
  have HB1 : Hid (Below w.heap.size w w1) := hb1
  clear hb1 HG
  by_cases hj : J < 4294967296
  · have g1 : decide ((4294967295 : Int) < (J : Int)) = false := decide_eq_false (by omega)
    have HJL : Hid (J < 4294967296) := hj
    have kw : IntKind.u32.wrap (J : Int) = J := by rw [IntKind.wrap_u32']; omega
    clear hj
    by_cases hz : ∀ c ∈ (xs.take 128).drop 8, c = 0
    · have HZ : Hid (decide (∀ c ∈ (xs.take 128).drop 8, c = 0) = true) := decide_eq_true hz
      have HF : Hid (J = r) := by show _ = _; rw [← HR.out, if_pos ⟨HJL.out, hz⟩]
      clear hz
      go_wp2_with (go_at_call 98; refine (noughts_any _ _ 120 _ true _ HL.out (by have := HC.out; omega) (by have := HC.out; omega) (HB120.out.below HB1.out) HZ.out).mono ?_; rintro e w2 ⟨rfl, rfl⟩)
      go_ret
      exact ⟨by rw [HF.out]; rfl, HB1.out⟩
    · have HZ : Hid (decide (∀ c ∈ (xs.take 128).drop 8, c = 0) = false) := decide_eq_false hz
      have HF : Hid (0 = r) := by show _ = _; rw [← HR.out, if_neg (fun h => hz h.2)]
      clear hz
      go_wp2_with (go_at_call 98; refine (noughts_any _ _ 120 _ false _ HL.out (by have := HC.out; omega) (by have := HC.out; omega) (HB120.out.below HB1.out) HZ.out).mono ?_; rintro e w2 ⟨rfl, rfl⟩)
      go_ret
      exact ⟨by rw [← HF.out]; rfl, HB1.out⟩
  · have g1 : decide ((4294967295 : Int) < (J : Int)) = true := decide_eq_true (by omega)
    have HF : Hid (0 = r) := by show _ = _; rw [← HR.out, if_neg (fun h => hj h.1)]
    clear hj
    go_wp2
    go_ret
    exact ⟨by rw [← HF.out]; rfl, HB1.out⟩
theorem numAt_drop2 (xs : List Nat) (d k : Nat) : numAt (xs.drop d) k = numAt xs (d + k) := by simp [numAt, List.getD, Nat.add_assoc]
def mostE (xs : List Nat) : Nat → Nat
  | 0 => epochN xs
  | k + 1 => max (mostE xs k) (numAt xs ((k + 1) * 128))
def mostS (e : Nat) (ys : List Nat) : Nat → Nat
  | 0 => 0
  | k + 1 => if numAt ys (k * 128) = e then max (mostS e ys k) (max (numAt ys (k * 128 + 4)) (numAt ys (k * 128 + 8))) else mostS e ys k
theorem mostE_lt {xs : List Nat} (h : ∀ c ∈ xs, c < 256) (k : Nat) : mostE xs k < 4294967296 := by
  induction k with
  | zero => exact epochN_lt xs
  | succ k ih => have := numAt_lt h ((k + 1) * 128); show max _ _ < _; omega
theorem mostS_lt {e : Nat} {ys : List Nat} (h : ∀ c ∈ ys, c < 256) (k : Nat) : mostS e ys k < 4294967296 := by
  induction k with
  | zero => show 0 < _; omega
  | succ k ih =>
    have h1 := numAt_lt h (k * 128 + 4)
    have h2 := numAt_lt h (k * 128 + 8)
    show (if _ then max _ (max _ _) else _) < _
    split
    · exact Nat.max_lt.2 ⟨ih, Nat.max_lt.2 ⟨h1, h2⟩⟩
    · exact ih
def Rest (b o c n k : Nat) (v : Value) : Prop := ∃ q cc, v = .slice q ((n - k) * 128) cc ∧ (n - k) * 128 ≤ cc ∧ cc ≤ maxLen ∧ (k < n → q = some ⟨b, o + k * 128, none⟩ ∧ cc = c - k * 128)
theorem rest_end {b o c n : Nat} {q : Option Addr} {k l cc : Nat} (hk : k = n) (hl : l = 0) (hc : cc ≤ maxLen) : Rest b o c n k (.slice q l cc) := by
  subst hk hl
  exact ⟨q, cc, by rw [Nat.sub_self], by omega, hc, fun h => absurd h (by omega)⟩
theorem rest_next {b o c n k o' l cc : Nat} (ho : o' = o + k * 128) (hl : l = (n - k) * 128) (hcc : cc = c - k * 128) (h1 : n * 128 ≤ c) (h2 : c ≤ maxLen) : Rest b o c n k (.slice (some ⟨b, o', none⟩) l cc) := by
  subst ho hl hcc
  exact ⟨_, _, rfl, by omega, by omega, fun _ => ⟨rfl, rfl⟩⟩
set_option maxRecDepth 8000 in
set_option maxHeartbeats 2000000 in
theorem nextEpoch_any (b o c n : Nat) (xs : List Nat) (w : World) (hx : xs.length = n * 128) (hn1 : 1 < n) (hn2 : n ≤ 64) (hmc : n * 128 ≤ c) (hcm : c ≤ maxLen) (hb : BIn w (some ⟨b, o, none⟩) xs) :
    Calls Tryz.prog 35 #[.slice (some ⟨b, o, none⟩) (n * 128) c] w fun e w' => e = .returned (.int .u64 ((mostE xs (n - 1) + 1 : Nat) : Int)) ∧ Below w.heap.size w w' := by
  have HB : Hid (BIn w (some ⟨b, o, none⟩) xs) := hb
  have HX : Hid (xs.length = n * 128 ∧ 1 < n ∧ n ≤ 64 ∧ n * 128 ≤ c ∧ c ≤ maxLen) := ⟨hx, hn1, hn2, hmc, hcm⟩
  obtain ⟨m, hm⟩ : ∃ m, n * 128 = m := ⟨_, rfl⟩
  have HM : Hid (n * 128 = m) := hm
  have hmI : (128 : Int) ≤ m := by omega
  have hmc' : (m : Int) ≤ c := by omega
  have hcn : ¬ c = 128 := by omega
  rw [hm]
  clear hb hx hn1 hn2 hmc hcm hm
  go_enter Tryz.func35, Tryz.ntmps35
  go_wp2_with fail
  refine (epochOf_any b o m c xs _ (epochN xs) (by have := HX.out; have := HM.out; omega) (by omega) (by omega) HX.out.2.2.2.2 HB.out rfl).mono ?_
  rintro e w1 ⟨rfl, hb1⟩
  have HB1 : Hid (Below w.heap.size w w1) := hb1
  clear hb1
  go_wp2
  go_loopw [3, 4] (fun mo v wr => ∃ k : Nat, k ≤ n - 1 ∧ mo = .int .u32 (mostE xs k : Nat) ∧ Rest b o c n (k + 1) v ∧ Below w.heap.size w wr) (fun _ v _ => lenV v)
  case atStart => exact ⟨0, by have := HX.out; omega, rfl, rest_next (by omega) (by have := HM.out; omega) (by omega) HX.out.2.2.2.1 HX.out.2.2.2.2, HB1.out⟩
  case round =>
    obtain ⟨k, hk, rfl, ⟨q, cc, rfl, hl1, hl2, hq⟩, hbk⟩ := hrel
    have HBK : Hid (Below w.heap.size w wr) := hbk
    obtain ⟨a, ha⟩ : ∃ a, mostE xs k = a := ⟨_, rfl⟩
    have HA : Hid (mostE xs k = a) := ha
    obtain ⟨L, hL⟩ : ∃ L, (n - (k + 1)) * 128 = L := ⟨_, rfl⟩
    rw [ha, hL]
    rw [hL] at hl1
    by_cases hkn : k + 1 < n
    · obtain ⟨rfl, rfl⟩ := hq hkn
      obtain ⟨D, hD⟩ : ∃ D, (k + 1) * 128 = D := ⟨_, rfl⟩
      rw [hD] at hl1 hl2 ⊢
      have HK : Hid (k + 1 < n ∧ (n - (k + 1)) * 128 = L ∧ (k + 1) * 128 = D) := ⟨hkn, hL, hD⟩
      have hL0 : (128 : Int) ≤ L := by omega
      have hLC : (L : Int) ≤ ((c - D : Nat) : Int) := by omega
      have HCM : Hid (c - D ≤ maxLen) := hl2
      obtain ⟨u, hu⟩ : ∃ u, numAt (xs.drop D) 0 = u := ⟨_, rfl⟩
      have HU : Hid (numAt xs ((k + 1) * 128) = u) := by show _ = _; rw [hD, ← hu, numAt_drop]
      have HMK : Hid (markOfN (xs.drop D) = .agg #[.int .u32 u, .int .u32 (numAt (xs.drop D) 4), .int .u32 (numAt (xs.drop D) 8), .int .i64 ((xs.drop D).getD 12 0 : Nat), .int .i64 ((xs.drop D).getD 13 0 : Nat), .int .i64 (sizeOf2 (xs.drop D))]) := by rw [← hu]; rfl
      obtain ⟨y1, hy1⟩ : ∃ y : Int, (numAt (xs.drop D) 4 : Int) = y := ⟨_, rfl⟩
      obtain ⟨y2, hy2⟩ : ∃ y : Int, (numAt (xs.drop D) 8 : Int) = y := ⟨_, rfl⟩
      obtain ⟨y3, hy3⟩ : ∃ y : Int, (((xs.drop D).getD 12 0 : Nat) : Int) = y := ⟨_, rfl⟩
      obtain ⟨y4, hy4⟩ : ∃ y : Int, (((xs.drop D).getD 13 0 : Nat) : Int) = y := ⟨_, rfl⟩
      obtain ⟨y5, hy5⟩ : ∃ y : Int, (sizeOf2 (xs.drop D) : Int) = y := ⟨_, rfl⟩
      rw [hy1, hy2, hy3, hy4, hy5] at HMK
      have HID : Hid (BIn wr (some ⟨b, o + D, none⟩) (xs.drop D)) := (HB.out.below hbk).drop' D
      have HDL : Hid (L = (xs.drop D).length ∧ 16 ≤ (xs.drop D).length) := by have := HX.out.1; show _ ∧ _; rw [List.length_drop]; omega
      clear hy1 hy2 hy3 hy4 hy5 hu hq hkn hk hl1 hl2 hL hD hbk ha HB1
      go_wp2_with fail
      refine (markOf_any _ _ L (c - D) _ HDL.out.1 HDL.out.2 (by omega) HID.out).mono ?_
      rintro e w2 ⟨rfl, hb2⟩
      rw [HMK.out]
      have HB2 : Hid (Below w.heap.size w w2) := below_bt HBK.out hb2
      clear hb2 HMK HID HDL
      have hf : ∀ w, (Instr.field 131 (.agg #[.int .u32 u, .int .u32 y1, .int .u32 y2, .int .i64 y3, .int .i64 y4, .int .i64 y5]) 0).run Tryz.prog w = .ok (.int .u32 u) w := fun _ => by kernel_rfl
      by_cases hau : a < u
      · have g1 : (a : Int) < u := by omega
        have HM2 : Hid (mostE xs (k + 1) = u) := by show max _ _ = _; rw [HU.out, HA.out]; omega
        clear hau
        by_cases hcc : c - D = 128
        · have HCC : Hid (k + 1 + 1 = n) := by have := HK.out; have := HX.out; show _ = _; omega
          go_wp2
          go_roundw
          case rel => exact ⟨k + 1, by have := HCC.out; omega, by rw [HM2.out], rest_end HCC.out (by have := HCC.out; have := HK.out; omega) (by omega), HB2.out⟩
          case measure => simp [lenV]; omega
        · have HCC : Hid (k + 1 < n) := HK.out.1
          go_wp2
          go_roundw
          case rel => exact ⟨k + 1, by have := HCC.out; omega, by rw [HM2.out], rest_next (by have := HK.out; omega) (by have := HK.out; omega) (by have := HK.out; omega) HX.out.2.2.2.1 HX.out.2.2.2.2, HB2.out⟩
          case measure => simp [lenV]; omega
      · have g1 : ¬ (a : Int) < u := by omega
        have HM2 : Hid (mostE xs (k + 1) = a) := by show max _ _ = _; rw [HU.out, HA.out]; omega
        clear hau
        by_cases hcc : c - D = 128
        · have HCC : Hid (k + 1 + 1 = n) := by have := HK.out; have := HX.out; show _ = _; omega
          go_wp2
          go_roundw
          case rel => exact ⟨k + 1, by have := HCC.out; omega, by rw [HM2.out], rest_end HCC.out (by have := HCC.out; have := HK.out; omega) (by omega), HB2.out⟩
          case measure => simp [lenV]; omega
        · have HCC : Hid (k + 1 < n) := HK.out.1
          go_wp2
          go_roundw
          case rel => exact ⟨k + 1, by have := HCC.out; omega, by rw [HM2.out], rest_next (by have := HK.out; omega) (by have := HK.out; omega) (by have := HK.out; omega) HX.out.2.2.2.1 HX.out.2.2.2.2, HB2.out⟩
          case measure => simp [lenV]; omega
    · obtain rfl : k = n - 1 := by omega
      have hL0 : L = 0 := by omega
      subst hL0
      have k1 : IntKind.u64.wrap (a : Int) = a := by rw [IntKind.wrap_u64]; have := mostE_lt HB.out.2 (n - 1); have := HA.out; omega
      have k2 : IntKind.u64.wrap ((a : Int) + 1) = (a : Int) + 1 := by rw [IntKind.wrap_u64]; have := mostE_lt HB.out.2 (n - 1); have := HA.out; omega
      clear hq hkn hk hl1 hl2 hL hbk ha HB1
      go_wp2
      go_ret
      exact ⟨by rw [HA.out]; exact ret_int (by omega), HBK.out⟩
theorem rest_start {w : World} {q : Option Addr} {n c : Nat} {ys : List Nat} (hb : BIn w q ys) (hy : ys.length = n * 128) (h1 : n * 128 ≤ c) (h2 : c ≤ maxLen) : ∃ b o, Rest b o c n 0 (.slice q (n * 128) c) ∧ (0 < n → q = some ⟨b, o, none⟩) := by
  by_cases h : 0 < n
  · obtain ⟨b, o, rfl⟩ := hb.addr (by omega)
    exact ⟨b, o, rest_next (by omega) (by omega) (by omega) h1 h2, fun _ => rfl⟩
  · exact ⟨0, 0, rest_end (by omega) (by omega) h2, fun h' => absurd h' h⟩
theorem box_at {w w' : World} {C : Array Value} {t : TypeId} (h : Below (w.heap.size + 1) (w.alloc (.cells C t)) w') : w'.heap[w.heap.size]? = some (.cells C t (0, 0)) := (h.block _ (by omega)).trans (heap_alloc_new w _)
set_option maxRecDepth 8000 in
set_option maxHeartbeats 4000000 in
theorem nextSalt_any (e : Nat) (rq : Option Addr) (rl rc : Nat) (at_ la : Int) (q : Option Addr) (n c : Nat) (ys : List Nat) (w : World) (hy : ys.length = n * 128) (hn : n ≤ 64) (hmc : n * 128 ≤ c) (hcm : c ≤ maxLen) (hb : BIn w q ys) :
    Calls Tryz.prog 126 #[.agg #[.int .u32 e, .slice rq rl rc, .int .i64 at_, .int .u32 la, .slice q (n * 128) c]] w fun x w' => x = .returned (.int .u64 ((mostS e ys n + 1 : Nat) : Int)) ∧ Below w.heap.size w w' := by
  obtain ⟨b, o, hrest, hq0⟩ := rest_start hb hy hmc hcm
  have HB : Hid (BIn w q ys) := hb
  have HR : Hid (Rest b o c n 0 (.slice q (n * 128) c)) := hrest
  have HQ : Hid (0 < n → q = some ⟨b, o, none⟩) := hq0
  have HX : Hid (ys.length = n * 128 ∧ n ≤ 64 ∧ n * 128 ≤ c ∧ c ≤ maxLen) := ⟨hy, hn, hmc, hcm⟩
  obtain ⟨m, hm⟩ : ∃ m, n * 128 = m := ⟨_, rfl⟩
  have HM : Hid (n * 128 = m) := hm
  rw [hm]
  rw [hm] at HR
  clear hb hy hn hmc hcm hrest hq0 hm
  go_enter Tryz.func126, Tryz.ntmps126
  go_wp2
  go_loopw [3, 4] (fun mo v wr => ∃ k : Nat, k ≤ n ∧ mo = .int .u32 (mostS e ys k : Nat) ∧ Rest b o c n k v ∧ Below (w.heap.size + 1) (w.alloc (.cells #[.int .u32 e, .slice rq rl rc, .int .i64 at_, .int .u32 la, .slice q m c] 149)) wr) (fun _ v _ => lenV v)
  case atStart => exact ⟨0, by omega, rfl, HR.out, Below.refl _ _⟩
  case round =>
    obtain ⟨k, hk, rfl, ⟨qk, cc, rfl, hl1, hl2, hq⟩, hbk⟩ := hrel
    have HBK : Hid (Below (w.heap.size + 1) (w.alloc (.cells #[.int .u32 e, .slice rq rl rc, .int .i64 at_, .int .u32 la, .slice q m c] 149)) wr) := hbk
    obtain ⟨a, ha⟩ : ∃ a, mostS e ys k = a := ⟨_, rfl⟩
    have HA : Hid (mostS e ys k = a) := ha
    obtain ⟨L, hL⟩ : ∃ L, (n - k) * 128 = L := ⟨_, rfl⟩
    rw [ha, hL]
    rw [hL] at hl1
    by_cases hkn : k < n
    · obtain ⟨rfl, rfl⟩ := hq hkn
      obtain ⟨D, hD⟩ : ∃ D, k * 128 = D := ⟨_, rfl⟩
      rw [hD] at hl1 hl2 ⊢
      have HK : Hid (k < n ∧ (n - k) * 128 = L ∧ k * 128 = D) := ⟨hkn, hL, hD⟩
      have hL0 : (128 : Int) ≤ L := by omega
      have hLC : (L : Int) ≤ ((c - D : Nat) : Int) := by omega
      have HCM : Hid (c - D ≤ maxLen) := hl2
      obtain ⟨u, hu⟩ : ∃ u, numAt (ys.drop D) 0 = u := ⟨_, rfl⟩
      obtain ⟨y1, hy1⟩ : ∃ y, numAt (ys.drop D) 4 = y := ⟨_, rfl⟩
      obtain ⟨y2, hy2⟩ : ∃ y, numAt (ys.drop D) 8 = y := ⟨_, rfl⟩
      have HU : Hid (numAt ys (k * 128) = u ∧ numAt ys (k * 128 + 4) = y1 ∧ numAt ys (k * 128 + 8) = y2) := ⟨by rw [hD, ← hu, numAt_drop], by rw [hD, ← hy1, numAt_drop2], by rw [hD, ← hy2, numAt_drop2]⟩
      have HMK : Hid (markOfN (ys.drop D) = .agg #[.int .u32 u, .int .u32 y1, .int .u32 y2, .int .i64 ((ys.drop D).getD 12 0 : Nat), .int .i64 ((ys.drop D).getD 13 0 : Nat), .int .i64 (sizeOf2 (ys.drop D))]) := by rw [← hu, ← hy1, ← hy2]; rfl
      obtain ⟨y3, hy3⟩ : ∃ y : Int, (((ys.drop D).getD 12 0 : Nat) : Int) = y := ⟨_, rfl⟩
      obtain ⟨y4, hy4⟩ : ∃ y : Int, (((ys.drop D).getD 13 0 : Nat) : Int) = y := ⟨_, rfl⟩
      obtain ⟨y5, hy5⟩ : ∃ y : Int, (sizeOf2 (ys.drop D) : Int) = y := ⟨_, rfl⟩
      rw [hy3, hy4, hy5] at HMK
      have HID : Hid (BIn wr (some ⟨b, o + D, none⟩) (ys.drop D)) := by
        have h := HB.out
        rw [HQ.out (by omega)] at h
        exact (h.below (box_below hbk)).drop' D
      have HDL : Hid (L = (ys.drop D).length ∧ 16 ≤ (ys.drop D).length) := by have := HX.out.1; show _ ∧ _; rw [List.length_drop]; omega
      clear hy1 hy2 hy3 hy4 hy5 hu hq hkn hk hl1 hl2 hL hD hbk ha HR
      go_wp2_with fail
      refine (markOf_any _ _ L (c - D) _ HDL.out.1 HDL.out.2 (by omega) HID.out).mono ?_
      rintro x w2 ⟨rfl, hb2⟩
      rw [HMK.out]
      have hs1 := box_size HBK.out
      have HB2 : Hid (Below (w.heap.size + 1) (w.alloc (.cells #[.int .u32 e, .slice rq rl rc, .int .i64 at_, .int .u32 la, .slice q m c] 149)) w2) := HBK.out.trans (hb2.mono (by omega))
      have hs2 := box_size HB2.out
      have HB3 : Hid (Below (w.heap.size + 1) (w.alloc (.cells #[.int .u32 e, .slice rq rl rc, .int .i64 at_, .int .u32 la, .slice q m c] 149)) (w2.alloc (.cells #[.int .u32 u, .int .u32 y1, .int .u32 y2, .int .i64 y3, .int .i64 y4, .int .i64 y5] 131))) := HB2.out.alloc (by omega) _
      have j0 : w2.cell? ⟨w.heap.size, 0, none⟩ = some (.int .u32 e) := cell_of_row w2 _ 0 _ _ _ (box_at HB2.out)
      clear hb2 HMK HID HDL HBK
      by_cases hue : u = e
      · have g0 : ((u : Int) == (e : Int)) = true := by simp [hue]
        have HM2 : Hid (mostS e ys (k + 1) = max a (max y1 y2)) := by show (if _ then _ else _) = _; rw [HU.out.1, HU.out.2.1, HU.out.2.2, HA.out, if_pos hue]
        clear hue
        by_cases h1 : (a : Int) < y1
        · by_cases h2 : (y1 : Int) < y2
          · have HM3 : Hid (mostS e ys (k + 1) = y2) := by show _ = _; rw [HM2.out]; omega
            by_cases hcc : c - D = 128
            · have HCC : Hid (k + 1 = n) := by have := HK.out; have := HX.out; show _ = _; omega
              go_wp2
              go_roundw
              case rel => exact ⟨k + 1, by have := HCC.out; omega, by rw [HM3.out], rest_end HCC.out (by have := HCC.out; have := HK.out; omega) (by omega), HB3.out⟩
              case measure => simp [lenV]; omega
            · have HCC : Hid (k < n) := HK.out.1
              go_wp2
              go_roundw
              case rel => exact ⟨k + 1, by have := HCC.out; omega, by rw [HM3.out], rest_next (by have := HK.out; omega) (by have := HK.out; omega) (by have := HK.out; omega) HX.out.2.2.1 HX.out.2.2.2, HB3.out⟩
              case measure => simp [lenV]; omega
          · have HM3 : Hid (mostS e ys (k + 1) = y1) := by show _ = _; rw [HM2.out]; omega
            by_cases hcc : c - D = 128
            · have HCC : Hid (k + 1 = n) := by have := HK.out; have := HX.out; show _ = _; omega
              go_wp2
              go_roundw
              case rel => exact ⟨k + 1, by have := HCC.out; omega, by rw [HM3.out], rest_end HCC.out (by have := HCC.out; have := HK.out; omega) (by omega), HB3.out⟩
              case measure => simp [lenV]; omega
            · have HCC : Hid (k < n) := HK.out.1
              go_wp2
              go_roundw
              case rel => exact ⟨k + 1, by have := HCC.out; omega, by rw [HM3.out], rest_next (by have := HK.out; omega) (by have := HK.out; omega) (by have := HK.out; omega) HX.out.2.2.1 HX.out.2.2.2, HB3.out⟩
              case measure => simp [lenV]; omega
        · by_cases h2 : (a : Int) < y2
          · have HM3 : Hid (mostS e ys (k + 1) = y2) := by show _ = _; rw [HM2.out]; omega
            by_cases hcc : c - D = 128
            · have HCC : Hid (k + 1 = n) := by have := HK.out; have := HX.out; show _ = _; omega
              go_wp2
              go_roundw
              case rel => exact ⟨k + 1, by have := HCC.out; omega, by rw [HM3.out], rest_end HCC.out (by have := HCC.out; have := HK.out; omega) (by omega), HB3.out⟩
              case measure => simp [lenV]; omega
            · have HCC : Hid (k < n) := HK.out.1
              go_wp2
              go_roundw
              case rel => exact ⟨k + 1, by have := HCC.out; omega, by rw [HM3.out], rest_next (by have := HK.out; omega) (by have := HK.out; omega) (by have := HK.out; omega) HX.out.2.2.1 HX.out.2.2.2, HB3.out⟩
              case measure => simp [lenV]; omega
          · have HM3 : Hid (mostS e ys (k + 1) = a) := by show _ = _; rw [HM2.out]; omega
            by_cases hcc : c - D = 128
            · have HCC : Hid (k + 1 = n) := by have := HK.out; have := HX.out; show _ = _; omega
              go_wp2
              go_roundw
              case rel => exact ⟨k + 1, by have := HCC.out; omega, by rw [HM3.out], rest_end HCC.out (by have := HCC.out; have := HK.out; omega) (by omega), HB3.out⟩
              case measure => simp [lenV]; omega
            · have HCC : Hid (k < n) := HK.out.1
              go_wp2
              go_roundw
              case rel => exact ⟨k + 1, by have := HCC.out; omega, by rw [HM3.out], rest_next (by have := HK.out; omega) (by have := HK.out; omega) (by have := HK.out; omega) HX.out.2.2.1 HX.out.2.2.2, HB3.out⟩
              case measure => simp [lenV]; omega
      · have g0 : ((u : Int) == (e : Int)) = false := by simp; omega
        have HM2 : Hid (mostS e ys (k + 1) = a) := by show (if _ then _ else _) = _; rw [HU.out.1, HA.out, if_neg hue]
        clear hue
        by_cases hcc : c - D = 128
        · have HCC : Hid (k + 1 = n) := by have := HK.out; have := HX.out; show _ = _; omega
          go_wp2
          go_roundw
          case rel => exact ⟨k + 1, by have := HCC.out; omega, by rw [HM2.out], rest_end HCC.out (by have := HCC.out; have := HK.out; omega) (by omega), HB3.out⟩
          case measure => simp [lenV]; omega
        · have HCC : Hid (k < n) := HK.out.1
          go_wp2
          go_roundw
          case rel => exact ⟨k + 1, by have := HCC.out; omega, by rw [HM2.out], rest_next (by have := HK.out; omega) (by have := HK.out; omega) (by have := HK.out; omega) HX.out.2.2.1 HX.out.2.2.2, HB3.out⟩
          case measure => simp [lenV]; omega
    · obtain rfl : k = n := by omega
      have hL0 : L = 0 := by omega
      subst hL0
      have k1 : IntKind.u64.wrap (a : Int) = a := by rw [IntKind.wrap_u64]; have := mostS_lt (e := e) HB.out.2 k; have := HA.out; omega
      have k2 : IntKind.u64.wrap ((a : Int) + 1) = (a : Int) + 1 := by rw [IntKind.wrap_u64]; have := mostS_lt (e := e) HB.out.2 k; have := HA.out; omega
      clear hq hkn hk hl1 hl2 hL hbk ha HR
      go_wp2
      go_ret
      exact ⟨by rw [HA.out]; exact ret_int (by omega), box_below HBK.out⟩
inductive Recs (e : Nat) : Nat → List Nat → List (List Nat) → Nat → Nat → List Nat → Prop
  | stop {p : Nat} {ys : List Nat} : (∀ s r, ¬ IsRec e p ys s r) → Recs e p ys [] 0 p ys
  | next {p s : Nat} {ys r : List Nat} {l : List (List Nat)} {a la : Nat} {t : List Nat} : IsRec e p ys s r → Recs e s (ys.drop (needsN r.length * 128)) l a la t → Recs e p ys (r :: l) (needsN r.length + a) la t
theorem below_set5 {w w' : World} {a b c d e : Value} (h : Below w.heap.size w w') : Below w.heap.size w (((((w'.setCell ⟨w.heap.size + 1, 0, none⟩ a).setCell ⟨w.heap.size + 1, 1, none⟩ b).setCell ⟨w.heap.size + 1, 2, none⟩ c).setCell ⟨w.heap.size + 1, 3, none⟩ d).setCell ⟨w.heap.size + 1, 4, none⟩ e) := ((((h.setCell (Nat.le_succ _) _).setCell (Nat.le_succ _) _).setCell (Nat.le_succ _) _).setCell (Nat.le_succ _) _).setCell (Nat.le_succ _) _
def zj : Array Value := #[.int .u32 0, .slice none 0 0, .int .i64 0, .int .u32 0, .slice none 0 0]
theorem load_err (v : Value) (count : Int) (data : List Nat) (ws : Puts) (w : World) (hd : DiskIn w v count data ws) (er : Int) (hne : er ≠ 0)
    (HN : ∀ u w', DiskIn w' u count data ws → Calls Tryz.prog 34 #[u] w' fun e w2 => e = .returned (.tuple #[.slice none 0 0, .int .i64 er]) ∧ Below w'.heap.size w' w2) :
    Calls Tryz.prog 78 #[v] w fun e w' => e = .returned (.tuple #[.agg #[.int .u32 0, .slice none 0 0, .int .i64 0, .int .u32 0, .slice none 0 0], .int .i64 er]) ∧ Below w.heap.size w w' := by
  obtain ⟨p, c, q, m, rfl, _⟩ := hd.parts
  have HD : Hid _ := hd
  have HN' : Hid (∀ u w', DiskIn w' u count data ws → Calls Tryz.prog 34 #[u] w' fun e w2 => e = .returned (.tuple #[.slice none 0 0, .int .i64 er]) ∧ Below w'.heap.size w' w2) := HN
  have g1 : (er != 0) = true := by simpa using hne
  clear hd HN hne
  go_enter Tryz.func78, Tryz.ntmps78
  go_wp2_with fail
  refine (HN'.out _ _ (HD.out.below ((below_alloc w _).alloc (by simp) _))).mono ?_
  rintro e w1 ⟨rfl, hb1⟩
  have HB1 : Hid (Below w.heap.size w w1) := below_bt ((below_alloc w _).alloc (by simp) _) hb1
  have HX : Hid (w1.heap[w.heap.size + 1]? = some (.cells zj 149 (0, 0))) := (hb1.block _ (by simp)).trans (heap_alloc2_new w _ _)
  have hx0 : w1.cell? ⟨w.heap.size + 1, 0, none⟩ = some (.int .u32 0) := cell_of_row w1 _ 0 _ _ _ HX.out
  have hx1 : w1.cell? ⟨w.heap.size + 1, 1, none⟩ = some (.slice none 0 0) := cell_of_row w1 _ 1 _ _ _ HX.out
  have hx2 : w1.cell? ⟨w.heap.size + 1, 2, none⟩ = some (.int .i64 0) := cell_of_row w1 _ 2 _ _ _ HX.out
  have hx3 : w1.cell? ⟨w.heap.size + 1, 3, none⟩ = some (.int .u32 0) := cell_of_row w1 _ 3 _ _ _ HX.out
  have hx4 : w1.cell? ⟨w.heap.size + 1, 4, none⟩ = some (.slice none 0 0) := cell_of_row w1 _ 4 _ _ _ HX.out
  have f0 : w1.frozen? ⟨w.heap.size + 1, 0, none⟩ = false := by simp [World.frozen?, HX.out]
  have f1 : w1.frozen? ⟨w.heap.size + 1, 1, none⟩ = false := by simp [World.frozen?, HX.out]
  have f2 : w1.frozen? ⟨w.heap.size + 1, 2, none⟩ = false := by simp [World.frozen?, HX.out]
  have f3 : w1.frozen? ⟨w.heap.size + 1, 3, none⟩ = false := by simp [World.frozen?, HX.out]
  have f4 : w1.frozen? ⟨w.heap.size + 1, 4, none⟩ = false := by simp [World.frozen?, HX.out]
  clear hb1
  go_wp2
  (try simp only [Exit.inBlock, Exit.then])
  refine bodyPost_ret (v := .tuple #[.agg #[.int .u32 0, .slice none 0 0, .int .i64 0, .int .u32 0, .slice none 0 0], .int .i64 er]) ?_ rfl ⟨rfl, ?_⟩
  · rw [results_cell_tmp rfl]
    go_simp
  · exact below_set5 HB1.out
theorem bin_block {w w' : World} {b o : Nat} {xs : List Nat} (h : BIn w (some ⟨b, o, none⟩) xs) (e : w'.heap[b]? = w.heap[b]?) : BIn w' (some ⟨b, o, none⟩) xs := by
  refine ⟨fun h0 => ⟨b, o, rfl, fun i hi => ?_⟩, h.2⟩
  have := h.cell i hi
  unfold World.cell? at this ⊢
  simp only [e]
  exact this
theorem own_row5 {w : World} {base n : Nat} {v : Value} {xs : List Nat} (h : w.ownsRow base 5 1 v n (Bs xs)) (hn : 0 < n) (hx : n = xs.length) (hb : ∀ c ∈ xs, c < 256) : ∃ g c A, v = .slice (some ⟨g, 0, none⟩) n c ∧ base ≤ g ∧ n ≤ c ∧ c ≤ maxLen ∧ w.heap[g]? = some (.cells A 5 (0, 0)) ∧ ∀ w' : World, w'.heap[g]? = some (.cells A 5 (0, 0)) → BIn w' (some ⟨g, 0, none⟩) xs := by
  rcases h.2 with ⟨_, h0⟩ | ⟨g, cap, cur, hv, hg, hgg, h1, h2, _⟩
  · omega
  · subst hx
    have hi := own_in (hv ▸ h) hb
    exact ⟨g, cap, cur, hv, hg, h1, h2, hgg, fun w' hw => bin_block hi (hw.trans hgg.symm)⟩
structure Ld (w wr : World) (g b : Nat) (A C : Array Value) (rv : Value) (l : List (List Nat)) : Prop where
  own : wr.ownsRow w.heap.size 9 1 rv l.length (l.map fun r => .string (strOf r))
  bel : Below w.heap.size w wr
  box : wr.heap[g]? = some (.cells C 149 (0, 0))
  res : wr.heap[w.heap.size + 1]? = some (.cells zj 149 (0, 0))
  gt : w.heap.size + 1 < g
  blk : wr.heap[b]? = some (.cells A 5 (0, 0))
theorem Ld.call {w wr w1 : World} {g b : Nat} {A C : Array Value} {rv : Value} {l : List (List Nat)} (h : Ld w wr g b A C rv l) (hb : Below wr.heap.size wr w1) : Ld w w1 g b A C rv l :=
  ⟨own_below h.own hb, below_bt h.bel hb, (hb.block _ (lt_heap h.box)).trans h.box, (hb.block _ (lt_heap h.res)).trans h.res, h.gt, (hb.block _ (lt_heap h.blk)).trans h.blk⟩
theorem own_neT {w : World} {base n : Nat} {e : TypeId} {v : Value} {xs : List Value} (h : w.ownsRow base e 1 v n xs) {B : Nat} {C : Array Value} {t : TypeId} {fr : Nat × Nat} (hB : w.heap[B]? = some (.cells C t fr)) (ht : t ≠ e) : v.ownBlock ≠ some B := by
  intro e
  rcases h.2 with ⟨hv, _⟩ | ⟨g, cap, cur, hv, _, hgg, _⟩
  · rw [hv] at e; cases e
  · rw [hv] at e
    simp only [Value.ownBlock, Option.some.injEq] at e
    subst e
    rw [hB] at hgg
    simp only [Option.some.injEq, Obj.cells.injEq] at hgg
    exact ht hgg.2.1
theorem ne_type {w : World} {b g : Nat} {C D : Array Value} {t u : TypeId} {fr fs : Nat × Nat} (h : w.heap[b]? = some (.cells C t fr)) (h' : w.heap[g]? = some (.cells D u fs)) (ht : t ≠ u) : b ≠ g := by
  intro e
  subst e
  rw [h] at h'
  simp only [Option.some.injEq, Obj.cells.injEq] at h'
  exact ht h'.2.1
theorem Ld.set {w wr : World} {g b : Nat} {A C : Array Value} {rv : Value} {l : List (List Nat)} (h : Ld w wr g b A C rv l) (i : Nat) (u : Value) : Ld w (wr.setCell ⟨g, i, none⟩ u) g b A (C.setIfInBounds i u) rv l :=
  ⟨World.ownsRow.kept h.own (grown_set wr g i u) (.inr (own_neT h.own h.box (by decide))), h.bel.setCell (by have := h.gt; show w.heap.size ≤ g; omega) _, block_set h.box u,
   (Below.heap_setCell wr ⟨g, i, none⟩ u _ (by have := h.gt; show w.heap.size + 1 ≠ g; omega)).trans h.res, h.gt, (Below.heap_setCell wr ⟨g, i, none⟩ u b (ne_type h.blk h.box (by decide))).trans h.blk⟩
theorem blk_grownT {w w' : World} {base n : Nat} {e : TypeId} {v : Value} {xs : List Value} (h : w.ownsRow base e 1 v n xs) (hg : w.grownBy w' v.ownBlock) {B : Nat} {C : Array Value} {t : TypeId} {fr : Nat × Nat} (hB : w.heap[B]? = some (.cells C t fr)) (ht : t ≠ e) : w'.heap[B]? = some (.cells C t fr) :=
  (hg.block B (lt_heap hB) (fun e => own_neT h hB ht e.symm)).trans hB
theorem Ld.app {w wr w2 : World} {g b : Nat} {A C : Array Value} {rv v2 : Value} {l : List (List Nat)} {r : List Nat} (h : Ld w wr g b A C rv l) (ho : w2.ownsRow w.heap.size 9 1 v2 (l.length + 1) ((l.map fun r => .string (strOf r)) ++ [.string (strOf r)])) (hg : wr.grownBy w2 rv.ownBlock) : Ld w w2 g b A C v2 (l ++ [r]) :=
  ⟨by rw [List.length_append, List.map_append]; exact ho, h.bel.grown hg h.bel.size (fun k hk => (World.ownsRow.lt h.own k hk).1), blk_grownT h.own hg h.box (by decide), blk_grownT h.own hg h.res (by decide), h.gt, blk_grownT h.own hg h.blk (by decide)⟩
theorem five {w : World} {g : Nat} {a b c d e : Value} {t : TypeId} (h : w.heap[g]? = some (.cells #[a, b, c, d, e] t (0, 0))) : (w.cell? ⟨g, 0, none⟩ = some a ∧ w.cell? ⟨g, 1, none⟩ = some b ∧ w.cell? ⟨g, 2, none⟩ = some c ∧ w.cell? ⟨g, 3, none⟩ = some d ∧ w.cell? ⟨g, 4, none⟩ = some e) ∧ w.frozen? ⟨g, 0, none⟩ = false ∧ w.frozen? ⟨g, 1, none⟩ = false ∧ w.frozen? ⟨g, 2, none⟩ = false ∧ w.frozen? ⟨g, 3, none⟩ = false ∧ w.frozen? ⟨g, 4, none⟩ = false :=
  ⟨⟨cell_of_row w _ 0 _ _ _ h, cell_of_row w _ 1 _ _ _ h, cell_of_row w _ 2 _ _ _ h, cell_of_row w _ 3 _ _ _ h, cell_of_row w _ 4 _ _ _ h⟩, by simp [World.frozen?, h], by simp [World.frozen?, h], by simp [World.frozen?, h], by simp [World.frozen?, h], by simp [World.frozen?, h]⟩
theorem blk_old {w1 w2 : World} {k : Nat} (hk : k < w1.heap.size) (h : Below w1.heap.size w1 w2) (o : Obj) : (w2.alloc o).heap[k]? = w1.heap[k]? := ((below_alloc w2 o).block k (Nat.lt_of_lt_of_le hk h.size)).trans (h.block k hk)
theorem set_other {w : World} {g i k : Nat} (v : Value) (hk : k < w.heap.size) (h : k ≠ g) : (w.setCell ⟨g, i, none⟩ v).heap[k]? = w.heap[k]? := (grown_set w g i v).block k hk (fun e => h (Option.some.inj e))
theorem set5_other {w : World} {g k : Nat} {a b c d e : Value} (hk : k < w.heap.size) (h : k ≠ g) : (((((w.setCell ⟨g, 0, none⟩ a).setCell ⟨g, 1, none⟩ b).setCell ⟨g, 2, none⟩ c).setCell ⟨g, 3, none⟩ d).setCell ⟨g, 4, none⟩ e).heap[k]? = w.heap[k]? := by
  exact ((((set_other e (by simpa using hk) h).trans (set_other d (by simpa using hk) h)).trans (set_other c (by simpa using hk) h)).trans (set_other b (by simpa using hk) h)).trans (set_other a hk h)
theorem ld_set5 {w w1 w2 : World} {b : Nat} {A : Array Value} {E : Nat} {tv : Value} (h1 : Below w.heap.size w w1) (hx : w1.heap[w.heap.size + 1]? = some (.cells zj 149 (0, 0))) (hk : w1.heap[b]? = some (.cells A 5 (0, 0))) (h3 : Below w1.heap.size w1 w2) (hz : w2.heap[w1.heap.size]? = some (.cells zj 149 (0, 0))) :
    Ld w (((((w2.setCell ⟨w1.heap.size, 0, none⟩ (.int .u32 E)).setCell ⟨w1.heap.size, 1, none⟩ (.slice none 0 0)).setCell ⟨w1.heap.size, 2, none⟩ (.int .i64 0)).setCell ⟨w1.heap.size, 3, none⟩ (.int .u32 0)).setCell ⟨w1.heap.size, 4, none⟩ tv) w1.heap.size b A #[.int .u32 E, .slice none 0 0, .int .i64 0, .int .u32 0, tv] (.slice none 0 0) [] := by
  have hs := h1.size
  have l1 := lt_heap hx
  have l2 := lt_heap hk
  have l3 := h3.size
  refine ⟨World.ownsRow_nil _ _ _ _, ?_, ?_, ?_, l1, ?_⟩
  · exact (((((below_bt h1 h3).setCell hs _).setCell hs _).setCell hs _).setCell hs _).setCell hs _
  · exact block_set (block_set (block_set (block_set (block_set hz _) _) _) _) _
  · rw [set5_other (by omega) (by omega)]; exact (h3.block _ l1).trans hx
  · rw [set5_other (by omega) (by omega)]; exact (h3.block _ l2).trans hk
theorem boxz (w1 : World) {W w2 : World} (h : Below W.heap.size W w2) (hW : W.heap[w1.heap.size]? = some (.cells zj 149 (0, 0))) :
    Hid (w2.heap[w1.heap.size]? = some (.cells zj 149 (0, 0))) ∧ w2.cell? ⟨w1.heap.size, 0, none⟩ = some (.int .u32 0) ∧ w2.cell? ⟨w1.heap.size, 1, none⟩ = some (.slice none 0 0) ∧ w2.cell? ⟨w1.heap.size, 2, none⟩ = some (.int .i64 0) ∧ w2.cell? ⟨w1.heap.size, 3, none⟩ = some (.int .u32 0) ∧ w2.cell? ⟨w1.heap.size, 4, none⟩ = some (.slice none 0 0) ∧ w2.frozen? ⟨w1.heap.size, 0, none⟩ = false ∧ w2.frozen? ⟨w1.heap.size, 1, none⟩ = false ∧ w2.frozen? ⟨w1.heap.size, 2, none⟩ = false ∧ w2.frozen? ⟨w1.heap.size, 3, none⟩ = false ∧ w2.frozen? ⟨w1.heap.size, 4, none⟩ = false := by
  have hz : w2.heap[w1.heap.size]? = some (.cells zj 149 (0, 0)) := (h.block _ (lt_heap hW)).trans hW
  exact ⟨hz, cell_of_row w2 _ 0 _ _ _ hz, cell_of_row w2 _ 1 _ _ _ hz, cell_of_row w2 _ 2 _ _ _ hz, cell_of_row w2 _ 3 _ _ _ hz, cell_of_row w2 _ 4 _ _ _ hz, by simp [World.frozen?, hz], by simp [World.frozen?, hz], by simp [World.frozen?, hz], by simp [World.frozen?, hz], by simp [World.frozen?, hz]⟩
theorem below_setr {w w' : World} {a b c d e : Value} (h : Below w.heap.size w w') : Below w.heap.size w (((((w'.setCell ⟨w.heap.size + 1, 0, none⟩ a).setCell ⟨w.heap.size + 1, 1, none⟩ b).setCell ⟨w.heap.size + 1, 2, none⟩ c).setCell ⟨w.heap.size + 1, 3, none⟩ d).setCell ⟨w.heap.size + 1, 4, none⟩ e) := below_set5 h
def LoadOk (w : World) (E : Nat) (ys : List Nat) (e : Ending) (w' : World) : Prop :=
  ∃ (rv : Value) (l : List (List Nat)) (a la : Nat) (t : List Nat) (q : Option Addr) (c : Nat), e = .returned (.tuple #[.agg #[.int .u32 E, rv, .int .i64 (a : Nat), .int .u32 (la : Nat), .slice q t.length c], .int .i64 0]) ∧ Recs E 0 ys l a la t ∧ w'.ownsRow w.heap.size 9 1 rv l.length (l.map fun r => .string (strOf r)) ∧ t.length ≤ c ∧ c ≤ maxLen ∧ BIn w' q t ∧ Below w.heap.size w w'
def LoadOut (w : World) (E : Nat) (ys : List Nat) (e : Ending) (w' : World) : Prop :=
  (E = 0 ∧ e = .returned (.tuple #[.agg #[.int .u32 0, .slice none 0 0, .int .i64 0, .int .u32 0, .slice none 0 0], .int .i64 50]) ∧ Below w.heap.size w w') ∨ (E ≠ 0 ∧ LoadOk w E ys e w')
theorem info9 : (Tryz.prog.info? 9).map (fun i => (i.zero, i.size, i.bytes)) = some (some (.string ByteArray.empty), 1, 16) := by kernel_rfl
theorem string_cells (w : World) (s : ByteArray) (t : TypeId) : ∀ j u, [Value.string s][j]? = some u → (w.alloc (.cells #[.string s] t)).cell? ((⟨w.heap.size, 0, none⟩ : Addr).add j) = some u := by
  intro j u hj
  rcases j with _ | j
  · simp only [List.getElem?_cons_zero, Option.some.injEq] at hj
    subst hj
    rw [add_plain]
    exact cell_of_row _ _ 0 _ _ _ (heap_alloc_new w _)
  · simp at hj
theorem own_set5 {w : World} {base n B : Nat} {v : Value} {xs : List Value} {C : Array Value} {a b c d e : Value} (h : w.ownsRow base 9 1 v n xs) (hB : w.heap[B]? = some (.cells C 149 (0, 0))) : (((((w.setCell ⟨B, 0, none⟩ a).setCell ⟨B, 1, none⟩ b).setCell ⟨B, 2, none⟩ c).setCell ⟨B, 3, none⟩ d).setCell ⟨B, 4, none⟩ e).ownsRow base 9 1 v n xs := by
  have hn := own_neT h hB (by decide)
  exact World.ownsRow.kept (World.ownsRow.kept (World.ownsRow.kept (World.ownsRow.kept (World.ownsRow.kept h (grown_set _ _ _ _) (.inr hn)) (grown_set _ _ _ _) (.inr hn)) (grown_set _ _ _ _) (.inr hn)) (grown_set _ _ _ _) (.inr hn)) (grown_set _ _ _ _) (.inr hn)
theorem fin_ld {w w2 : World} {g b : Nat} {A C : Array Value} {rv : Value} {l : List (List Nat)} (h : Ld w w2 g b A C rv l) (v0 v1 v2 v3 v4 : Value) (o : Obj) :
    ((((((w2.setCell ⟨w.heap.size + 1, 0, none⟩ v0).setCell ⟨w.heap.size + 1, 1, none⟩ v1).setCell ⟨w.heap.size + 1, 2, none⟩ v2).setCell ⟨w.heap.size + 1, 3, none⟩ v3).setCell ⟨w.heap.size + 1, 4, none⟩ v4).alloc o).ownsRow w.heap.size 9 1 rv l.length (l.map fun r => .string (strOf r)) ∧
    ((((((w2.setCell ⟨w.heap.size + 1, 0, none⟩ v0).setCell ⟨w.heap.size + 1, 1, none⟩ v1).setCell ⟨w.heap.size + 1, 2, none⟩ v2).setCell ⟨w.heap.size + 1, 3, none⟩ v3).setCell ⟨w.heap.size + 1, 4, none⟩ v4).alloc o).heap[b]? = some (.cells A 5 (0, 0)) ∧
    Below w.heap.size w ((((((w2.setCell ⟨w.heap.size + 1, 0, none⟩ v0).setCell ⟨w.heap.size + 1, 1, none⟩ v1).setCell ⟨w.heap.size + 1, 2, none⟩ v2).setCell ⟨w.heap.size + 1, 3, none⟩ v3).setCell ⟨w.heap.size + 1, 4, none⟩ v4).alloc o) := by
  have h1 := own_set5 (a := v0) (b := v1) (c := v2) (d := v3) (e := v4) h.own h.res
  have h2 := set5_other (a := v0) (b := v1) (c := v2) (d := v3) (e := v4) (lt_heap h.blk) (ne_type h.blk h.res (by decide))
  have h3 := below_setr (a := v0) (b := v1) (c := v2) (d := v3) (e := v4) h.bel
  generalize ((((w2.setCell ⟨w.heap.size + 1, 0, none⟩ v0).setCell ⟨w.heap.size + 1, 1, none⟩ v1).setCell ⟨w.heap.size + 1, 2, none⟩ v2).setCell ⟨w.heap.size + 1, 3, none⟩ v3).setCell ⟨w.heap.size + 1, 4, none⟩ v4 = W at *
  have h4 := h2.trans h.blk
  exact ⟨own_below h1 (below_alloc W o), ((below_alloc W o).block _ (lt_heap h4)).trans h4, below_bt h3 (below_alloc W o)⟩
theorem load_ok_of {w w' : World} {E : Nat} {ys : List Nat} {rv : Value} {l : List (List Nat)} {a la m c : Nat} {ai : Int} {t : List Nat} {q : Option Addr} (h1 : ai = a) (h2 : m = t.length) (h3 : Recs E 0 ys l a la t) (h4 : w'.ownsRow w.heap.size 9 1 rv l.length (l.map fun r => .string (strOf r))) (h5 : m ≤ c) (h6 : c ≤ maxLen) (h7 : BIn w' q t) (h8 : Below w.heap.size w w') :
    LoadOk w E ys (.returned (.tuple #[.agg #[.int .u32 E, rv, .int .i64 ai, .int .u32 la, .slice q m c], .int .i64 0])) w' := by
  subst h1 h2
  exact ⟨rv, l, a, la, t, q, c, rfl, h3, h4, h5, h6, h7, h8⟩
theorem Ld.four {w ua : World} {g b : Nat} {A : Array Value} {x0 x1 x2 x3 x4 : Value} {rv : Value} {l : List (List Nat)} (h : Ld w ua g b A #[x0, x1, x2, x3, x4] rv l) (v1 v2 v3 v4 : Value) :
    Ld w ((((ua.setCell ⟨g, 1, none⟩ v1).setCell ⟨g, 2, none⟩ v2).setCell ⟨g, 3, none⟩ v3).setCell ⟨g, 4, none⟩ v4) g b A #[x0, v1, v2, v3, v4] rv l := (((h.set 1 v1).set 2 v2).set 3 v3).set 4 v4
theorem cell_at {w : World} {a : Addr} {v : Value} (h : w.cell? a = some v) : cellAt w a = v := by unfold cellAt; rw [h]; rfl
theorem drop_len {ys : List Nat} {n a : Nat} (h : ys.length = n * 128) : (ys.drop (a * 128)).length = (n - a) * 128 := by rw [List.length_drop]; omega
set_option maxRecDepth 8000 in
set_option maxHeartbeats 1500000 in
theorem load_main (v : Value) (count : Int) (data : List Nat) (ws : Puts) (w : World) (hd : DiskIn w v count data ws) (ho : Okay count data ws) (hc : 80 ≤ count) (E : Nat) (hE : epochN (logN data ws) = E) :
    Calls Tryz.prog 78 #[v] w (LoadOut w E ((logN data ws).drop 128)) := by
  obtain ⟨p, c, q, m, rfl, _⟩ := hd.parts
  have HD : Hid _ := hd
  have HO : Hid (Okay count data ws ∧ 80 ≤ count ∧ epochN (logN data ws) = E) := ⟨ho, hc, hE⟩
  clear hd ho hc hE
  go_enter Tryz.func78, Tryz.ntmps78
  go_wp2_with fail
  refine (now_ok _ count data ws _ (HD.out.below ((below_alloc w _).alloc (by simp) _)) HO.out.1 HO.out.2.1).mono ?_
  rintro e w1 ⟨v1, rfl, hown, hli, hb1⟩
  obtain ⟨b, cc, A, rfl, hbg, hcc1, hcc2, hblk, hbin⟩ := own_row5 hown (by rw [show (logN data ws).length = 8192 from hli.len]; omega) rfl hli.byte
  have HB1 : Hid (Below w.heap.size w w1) := below_bt ((below_alloc w _).alloc (by simp) _) hb1
  have HX : Hid (w1.heap[w.heap.size + 1]? = some (.cells zj 149 (0, 0))) := (hb1.block _ (by simp)).trans (heap_alloc2_new w _ _)
  obtain ⟨ys, hys⟩ : ∃ ys, logN data ws = ys := ⟨_, rfl⟩
  have HYS : Hid (logN data ws = ys) := hys
  obtain ⟨n, hn⟩ : ∃ n, ys.length = n := ⟨_, rfl⟩
  have HL : Hid (n = 8192 ∧ ys.length = n ∧ epochN ys = E) := ⟨by rw [← hn, ← hys]; exact hli.len, hn, by rw [← hys]; exact HO.out.2.2⟩
  rw [hys] at hcc1 hbin ⊢
  rw [hn] at hcc1 ⊢
  have HBI : Hid (∀ w' : World, w'.heap[b]? = some (.cells A 5 (0, 0)) → BIn w' (some ⟨b, 0, none⟩) ys) := hbin
  have HBK : Hid (w1.heap[b]? = some (.cells A 5 (0, 0))) := hblk
  have HC : Hid (n ≤ cc ∧ cc ≤ maxLen ∧ w.heap.size ≤ b) := ⟨hcc1, hcc2, by simp at hbg; omega⟩
  have hn1 : (128 : Int) ≤ n := by have := HL.out.1; omega
  have hcI : (n : Int) ≤ cc := by omega
  have hcn : ¬ cc = 128 := by have := HL.out.1; omega
  clear hown hli hb1 hbg hcc1 hcc2 hblk hbin hys hn HO HD
  have HEP : Hid (∀ w', Below w1.heap.size w1 w' → Calls Tryz.prog 67 #[.slice (some ⟨b, 0, none⟩) n cc] w' fun e w2 => e = .returned (.int .u32 E) ∧ Below w'.heap.size w' w2) := fun w' hb' =>
    epochOf_any b 0 n cc ys w' E HL.out.2.1.symm (by have := HL.out.1; omega) HC.out.1 HC.out.2.1 (HBI.out w' ((hb'.block _ (lt_heap HBK.out)).trans HBK.out)) HL.out.2.2
  have hnew : ∀ o, (w1.alloc o).drew.heap[w1.heap.size]? = some o := fun o => heap_alloc_new w1 o
  go_upto_region 4 with fail
  go_cut [6] from 8 (fun j wx => ∃ g, j = .pointer (some ⟨g, 0, none⟩) ∧ Ld w wx g b A #[.int .u32 E, .slice none 0 0, .int .i64 0, .int .u32 0, .slice (some ⟨b, 128, none⟩) (n - 128) (cc - 128)] (.slice none 0 0) [])
  case first =>
    go_region_with (go_at_call 67; refine (HEP.out _ ?_).mono ?_; (first | exact (Below.refl _ _).drew | exact ((Below.refl _ _).drew).alloc (by simp) _); rintro e w2 ⟨rfl, hb2⟩; have hz := boxz w1 hb2; try (simp only [hnew] at hz; obtain ⟨HZ, z0, z1, z2, z3, z4, y0, y1, y2, y3, y4⟩ := hz rfl))
    · have hb3 : Below w1.heap.size w1 w2 := below_dw hb2
      have hs1 := hb3.size
      go_wp2
      go_meet
      case rel =>
        exact ⟨_, rfl, World.ownsRow_nil _ _ _ _, below_bt (below_bt HB1.out hb3) (below_alloc _ _), heap_alloc_new _ _, (blk_old (lt_heap HX.out) hb3 _).trans HX.out, Nat.lt_of_lt_of_le (lt_heap HX.out) hs1, (blk_old (lt_heap HBK.out) hb3 _).trans HBK.out⟩
    · have hb3 : Below w1.heap.size w1 w2 := ((Below.refl w1.heap.size w1).alloc (Nat.le_refl _) _).drew.trans (hb2.mono (by simp))
      have hs1 := hb3.size
      go_wp2
      go_meet
      case rel =>
        exact ⟨_, rfl, ld_set5 HB1.out HX.out HBK.out hb3 HZ.out⟩
  case rest =>
    obtain ⟨g, rfl, hld⟩ := hcut
    have HLD : Hid (Ld w wc g b A #[.int .u32 E, .slice none 0 0, .int .i64 0, .int .u32 0, .slice (some ⟨b, 128, none⟩) (n - 128) (cc - 128)] (.slice none 0 0) []) := hld
    obtain ⟨⟨c0, _, _, _, _⟩, _⟩ := five hld.box
    clear hnew HEP hld HB1 HX HBK
    by_cases hE0 : E = 0
    · have g0 : ((E : Int) == 0) = true := by simp [hE0]
      have HE0 : Hid (E = 0) := hE0
      obtain ⟨⟨x0, x1, x2, x3, x4⟩, y0, y1, y2, y3, y4⟩ := five HLD.out.res
      clear hE0
      go_wp2
      (try simp only [Exit.inBlock, Exit.then])
      refine bodyPost_ret (v := .tuple #[.agg #[.int .u32 0, .slice none 0 0, .int .i64 0, .int .u32 0, .slice none 0 0], .int .i64 50]) ?_ rfl (.inl ⟨HE0.out, rfl, below_setr HLD.out.bel⟩)
      rw [results_cell_tmp rfl]
      go_simp
    · have g0 := beq0 hE0
      have HE0 : Hid (E ≠ 0) := hE0
      have HE32 : Hid (E < 4294967296) := by have := epochN_lt ys; have := HL.out.2.2; show _ < _; omega
      obtain ⟨zs, hzs⟩ : ∃ zs, ys.drop 128 = zs := ⟨_, rfl⟩
      have HZS : Hid ((logN data ws).drop 128 = zs ∧ zs.length = 63 * 128) := by
        refine ⟨by rw [HYS.out]; exact hzs, ?_⟩
        rw [← hzs, List.length_drop]
        have := HL.out
        omega
      have HBZ : Hid (∀ w' : World, w'.heap[b]? = some (.cells A 5 (0, 0)) → BIn w' (some ⟨b, 128, none⟩) zs) := fun w' hw => by
        have := (HBI.out w' hw).drop' 128
        rw [hzs, Nat.zero_add] at this
        exact this
      have HCC : Hid (63 * 128 ≤ cc - 128 ∧ cc - 128 ≤ maxLen) := by have := HL.out; have := HC.out; show _ ∧ _; omega
      have HR0 : Hid (Rest b 128 (cc - 128) 63 0 (.slice (some ⟨b, 128, none⟩) (n - 128) (cc - 128))) := rest_next (by omega) (by have := HL.out; omega) (by omega) HCC.out.1 HCC.out.2
      obtain ⟨i0, hi, hz0, hz1, hz2⟩ := info_parts info9
      have HI : Hid (i0.size = 1) := hz1
      clear hE0 hzs HBI HL HC HYS hn1 hcI hcn
      go_wp2
      go_loopw [7] (fun _ wr => ∃ (rv : Value) (l : List (List Nat)) (a la : Nat) (ai : Int) (tv : Value), ai = a ∧ Ld w wr g b A #[.int .u32 E, rv, .int .i64 ai, .int .u32 la, tv] rv l ∧ Rest b 128 (cc - 128) 63 a tv ∧ a ≤ 63 ∧ la < 4294967296 ∧ l.length ≤ a ∧ (∀ l' a' la' t', Recs E la (zs.drop (a * 128)) l' a' la' t' → Recs E 0 zs (l ++ l') (a + a') la' t')) (fun _ wr => lenV (cellAt wr ⟨g, 4, none⟩))
      case atStart => exact ⟨_, [], 0, 0, 0, _, rfl, HLD.out, HR0.out, by omega, by omega, Nat.le_refl _, fun l' a' la' t' h => by simpa using h⟩
      case round =>
        obtain ⟨rv, l, a, la, ai, tv, hai, hld, ⟨q', c', rfl, hr1, hr2, hr3⟩, ha, hla, hll, hrec⟩ := hrel
        obtain ⟨rq, rm, rfl, hrm, hrm2, _⟩ := own_form hld.own
        clear HLD HR0 c0
        obtain ⟨m', hm'⟩ : ∃ m, (63 - a) * 128 = m := ⟨_, rfl⟩
        rw [hm'] at hld hr1
        obtain ⟨xs, hxs⟩ : ∃ xs, zs.drop (a * 128) = xs := ⟨_, rfl⟩
        rw [hxs] at hrec
        have HXL : Hid (m' = xs.length) := by show _ = _; rw [← hxs, ← hm']; exact (drop_len HZS.out.2).symm
        have HA : Hid (ai = a ∧ a ≤ 63 ∧ la < 4294967296 ∧ l.length ≤ a ∧ (63 - a) * 128 = m' ∧ zs.drop (a * 128) = xs) := ⟨hai, ha, hla, hll, hm', hxs⟩
        have HREC : Hid (∀ l' a' la' t', Recs E la xs l' a' la' t' → Recs E 0 zs (l ++ l') (a + a') la' t') := hrec
        have HRR : Hid (m' ≤ c' ∧ c' ≤ maxLen ∧ (a < 63 → q' = some ⟨b, 128 + a * 128, none⟩ ∧ c' = cc - 128 - a * 128)) := ⟨hr1, hr2, hr3⟩
        have HBX : Hid (∀ w' : World, w'.heap[b]? = some (.cells A 5 (0, 0)) → BIn w' q' xs) := fun w' hw => by
          by_cases h63 : a < 63
          · rw [(hr3 h63).1, ← hxs]; exact (HBZ.out w' hw).drop' (a * 128)
          · have h0 : xs = [] := by
              have := HXL.out
              exact List.length_eq_zero_iff.1 (by omega)
            rw [h0]
            exact ⟨fun h => absurd h (by simp), fun c hc => by cases hc⟩
        have HL : Hid (Ld w wr g b A #[.int .u32 E, .slice rq l.length rm, .int .i64 ai, .int .u32 la, .slice q' m' c'] (.slice rq l.length rm) l) := hld
        obtain ⟨⟨c0, c1, c2, c3, c4⟩, _⟩ := five hld.box
        have HC4 : Hid (cellAt wr ⟨g, 4, none⟩ = .slice q' m' c') := cell_at c4
        clear hld hai ha hla hll hrec hr1 hr2 hr3 hm' hxs
        go_wp2_with fail
        refine (open_any E la m' c' q' xs _ HE0.out HE32.out HA.out.2.2.1 HXL.out HRR.out.1 HRR.out.2.1 (HBX.out _ HL.out.blk) (by have := HA.out; omega)).mono ?_
        rintro e w2 ⟨rfl, hb2⟩
        have HL2 : Hid (Ld w w2 g b A #[.int .u32 E, .slice rq l.length rm, .int .i64 ai, .int .u32 la, .slice q' m' c'] (.slice rq l.length rm) l) := HL.out.call hb2
        have hg2 : g < w2.heap.size := lt_heap HL2.out.box
        have hg3 : ¬ g = w2.heap.size := by omega
        have hg4 : ¬ w2.heap.size = g := by omega
        have hw2 : w.heap.size + 1 < w2.heap.size := lt_heap HL2.out.res
        clear hb2 c0 c1 c2 c3 c4 HL
        obtain ⟨⟨c0, c1, c2, c3, c4⟩, e0, e1, e2, e3, e4⟩ := five HL2.out.box
        by_cases hyes : ∃ s r, IsRec E la xs s r
        · obtain ⟨s, r, hsr⟩ := hyes
          have HSR : Hid (IsRec E la xs s r) := hsr
          obtain ⟨n', hn'⟩ : ∃ n', needsN r.length = n' := ⟨_, rfl⟩
          rw [found_yes HE0.out HE32.out HA.out.2.2.1 hsr hn']
          have hp' := needsN_pos r.length
          have hl' := rec_len hsr
          rw [hn'] at hp' hl'
          have HN' : Hid (needsN r.length = n' ∧ 0 < n' ∧ n' * 128 ≤ m' ∧ s < 4294967296) := ⟨hn', hp', by rw [HXL.out]; exact hl', hsr.salt⟩
          have ha63 : a < 63 := by have := HN'.out; have := HA.out; omega
          obtain ⟨hq', hc'⟩ := HRR.out.2.2 ha63
          subst hq'
          have hn0 : ((n' : Int) == 0) = false := by simp; omega
          have k1 : IntKind.i64.wrap (ai + (n' : Int)) = ai + n' := by rw [IntKind.wrap_i64]; have := HN'.out; have := HA.out; omega
          have k2 : IntKind.i64.wrap ((n' : Int) * 128) = (n' : Int) * 128 := by rw [IntKind.wrap_i64]; have := HN'.out; have := HA.out; omega
          have t1 : ((n' : Int) * 128).toNat = n' * 128 := by omega
          have hlo : (0 : Int) ≤ (n' : Int) * 128 := by omega
          have hhi : (n' : Int) * 128 ≤ (m' : Int) := by have := HN'.out; omega
          have hhc : (m' : Int) ≤ (c' : Int) := by have := HRR.out.1; omega
          have hA : a + n' ≤ 63 := by have := HN'.out; have := HA.out; omega
          have HW4 : Hid (Ld w ((w2.alloc (.cells #[.string (strOf r), .int .u32 s, .int .i64 n'] 210)).alloc (.cells #[.string (strOf r)] 9)) g b A #[.int .u32 E, .slice rq l.length rm, .int .i64 ai, .int .u32 la, .slice (some ⟨b, 128 + a * 128, none⟩) m' c'] (.slice rq l.length rm) l) := (HL2.out.call (below_alloc _ _)).call (below_alloc _ _)
          have HF4 : Hid (((w2.alloc (.cells #[.string (strOf r), .int .u32 s, .int .i64 n'] 210)).alloc (.cells #[.string (strOf r)] 9)).heap[w2.heap.size]? = some (.cells #[.string (strOf r), .int .u32 s, .int .i64 n'] 210 (0, 0))) := heap_alloc2_old w2 _ _
          have HCL : Hid (∀ j u, [Value.string (strOf r)][j]? = some u → ((w2.alloc (.cells #[.string (strOf r), .int .u32 s, .int .i64 n'] 210)).alloc (.cells #[.string (strOf r)] 9)).cell? ((⟨w2.heap.size + 1, 0, none⟩ : Addr).add j) = some u) := by
            have h := string_cells (w2.alloc (.cells #[.string (strOf r), .int .u32 s, .int .i64 n'] 210)) (strOf r) 9
            rw [show (w2.alloc (.cells #[.string (strOf r), .int .u32 s, .int .i64 n'] 210)).heap.size = w2.heap.size + 1 by simp] at h
            exact h
          have HONE : Hid (∀ v ∈ [Value.string (strOf r)], v.oneCell' = true) := by intro v hv; simp only [List.mem_cons, List.not_mem_nil, or_false] at hv; subst hv; rfl
          have HLN : Hid (l.length ≤ 63) := by have := HA.out; show _ ≤ _; omega
          have HNX : Hid (∀ l' a' la' t', Recs E s (zs.drop ((a + n') * 128)) l' a' la' t' → Recs E 0 zs ((l ++ [r]) ++ l') (a + n' + a') la' t') := fun l' a' la' t' h => by
            have e1 : zs.drop ((a + n') * 128) = xs.drop (needsN r.length * 128) := by rw [HN'.out.1, ← HA.out.2.2.2.2.2, List.drop_drop]; congr 1; omega
            rw [e1] at h
            have := HREC.out _ _ _ _ (.next HSR.out h)
            rw [HN'.out.1] at this
            rw [List.append_assoc, Nat.add_assoc]
            exact this
          clear hsr hn' hp' hl' ha63
          by_cases hcc : c' = n' * 128
          · have HCC2 : Hid (a + n' = 63) := by have := HN'.out; have := HA.out; have := HCC.out; show _ = _; omega
            go_wp2_with (at_builtin; go_loud (refine wpList_append_own _ rfl _ _ 99 rfl w.heap.size 9 i0 _ 1 16 Tryz.underlying99 hi hz0 hz1 hz2 rfl (by omega) _ _ _ rfl HW4.out.own ⟨w2.heap.size + 1, 0, none⟩ 1 1 [.string (strOf r)] rfl rfl HCL.out HONE.out (by have := HLN.out; unfold maxLen; omega) (by have := HLN.out; omega) HW4.out.bel.size ?_); intro va ua hoa hga _; obtain ⟨vq, vm, rfl, _, _, _⟩ := own_form hoa; have L5 := HW4.out.app hoa hga; have F5 := blk_grownT HW4.out.own hga HF4.out (by decide); obtain ⟨⟨d0, d1, d2, d3, d4⟩, m0, m1, m2, m3, m4⟩ := five L5.box; obtain ⟨i1, i2, i3, _⟩ := box3 F5; have HL5 : Hid _ := L5; clear L5 F5)
            go_roundw
            case rel =>
              refine ⟨_, l ++ [r], a + n', s, ai + n', _, ?_, HL5.out.four _ _ _ _, ?_, hA, HN'.out.2.2.2, ?_, HNX.out⟩
              · have := HA.out.1; omega
              · exact rest_end HCC2.out (by have := HCC2.out; have := HA.out; omega) (by have := HRR.out; omega)
              · have := HA.out; have := HN'.out; simp; omega
            case measure =>
              rw [HC4.out, cell_at (five (HL5.out.four _ _ _ _).box).1.2.2.2.2]
              simp only [lenV]
              have := HN'.out
              omega
          · have HNC : Hid (¬ c' = n' * 128) := hcc
            go_wp2_with (at_builtin; go_loud (refine wpList_append_own _ rfl _ _ 99 rfl w.heap.size 9 i0 _ 1 16 Tryz.underlying99 hi hz0 hz1 hz2 rfl (by omega) _ _ _ rfl HW4.out.own ⟨w2.heap.size + 1, 0, none⟩ 1 1 [.string (strOf r)] rfl rfl HCL.out HONE.out (by have := HLN.out; unfold maxLen; omega) (by have := HLN.out; omega) HW4.out.bel.size ?_); intro va ua hoa hga _; obtain ⟨vq, vm, rfl, _, _, _⟩ := own_form hoa; have L5 := HW4.out.app hoa hga; have F5 := blk_grownT HW4.out.own hga HF4.out (by decide); obtain ⟨⟨d0, d1, d2, d3, d4⟩, m0, m1, m2, m3, m4⟩ := five L5.box; obtain ⟨i1, i2, i3, _⟩ := box3 F5; have HL5 : Hid _ := L5; clear L5 F5)
            go_roundw
            case rel =>
              refine ⟨_, l ++ [r], a + n', s, ai + n', _, ?_, HL5.out.four _ _ _ _, ?_, hA, HN'.out.2.2.2, ?_, HNX.out⟩
              · have := HA.out.1; omega
              · exact rest_next (by omega) (by have := HA.out; omega) (by omega) HCC.out.1 HCC.out.2
              · have := HA.out; have := HN'.out; simp; omega
            case measure =>
              rw [HC4.out, cell_at (five (HL5.out.four _ _ _ _).box).1.2.2.2.2]
              simp only [lenV]
              have := HN'.out
              omega
        · have HNO : Hid (∀ s r, ¬ IsRec E la xs s r) := fun s r h => hyes ⟨s, r, h⟩
          clear hyes
          rw [found_no HE0.out HNO.out]
          obtain ⟨⟨x0, x1, x2, x3, x4⟩, y0, y1, y2, y3, y4⟩ := five HL2.out.res
          go_wp2
          (try simp only [Exit.inBlock, Exit.then])
          refine bodyPost_ret (v := .tuple #[.agg #[.int .u32 E, .slice rq l.length rm, .int .i64 ai, .int .u32 la, .slice q' m' c'], .int .i64 0]) ?_ rfl (.inr ⟨HE0.out, ?_⟩)
          · rw [results_cell_tmp rfl]
            go_simp
          · obtain ⟨f1, f2, f3⟩ := fin_ld HL2.out (.int .u32 E) (.slice rq l.length rm) (.int .i64 ai) (.int .u32 la) (.slice q' m' c') (.cells #[.string ByteArray.empty, .int .u32 0, .int .i64 0] 210)
            have h4 := HREC.out [] 0 la xs (.stop HNO.out)
            exact load_ok_of HA.out.1 HXL.out (by rw [HZS.out.1]; simpa using h4) f1 HRR.out.1 HRR.out.2.1 (HBX.out _ f2) f3
abbrev ActC := (Bool × Int × List Nat) × Value
def cellsA (l : List ActC) : List Value := l.flatMap fun y => [.bool y.1.1, .int .i64 y.1.2.1, y.2]
theorem cellsA_snoc (l : List ActC) (y : ActC) : cellsA (l ++ [y]) = cellsA l ++ [.bool y.1.1, .int .i64 y.1.2.1, y.2] := by simp [cellsA]
theorem cellsA_at : ∀ (l : List ActC) (i : Nat), i < l.length → (cellsA l)[i * 3]? = some (.bool ((l.map Prod.fst).getD i (false, 0, [])).1) ∧ (cellsA l)[i * 3 + 1]? = some (.int .i64 ((l.map Prod.fst).getD i (false, 0, [])).2.1) ∧ ∃ y ∈ l, y.1 = (l.map Prod.fst).getD i (false, 0, []) ∧ (cellsA l)[i * 3 + 2]? = some y.2
  | y :: l, 0, _ => ⟨rfl, rfl, y, by simp, rfl, rfl⟩
  | y :: l, i + 1, h => by
    obtain ⟨h1, h2, z, h3, h4, h5⟩ := cellsA_at l i (by simpa using h)
    rw [show (i + 1) * 3 = i * 3 + 1 + 1 + 1 from by omega]
    have e : ∀ j, (cellsA (y :: l))[j + 1 + 1 + 1]? = (cellsA l)[j]? := fun j => by simp [cellsA]
    have e2 : ((y :: l).map Prod.fst).getD (i + 1) (false, 0, []) = (l.map Prod.fst).getD i (false, 0, []) := by simp [List.getD]
    refine ⟨by rw [e, e2]; exact h1, by rw [show i * 3 + 1 + 1 + 1 + 1 = i * 3 + 1 + 1 + 1 + 1 from rfl, e, e2]; exact h2, z, by simp [h3], by rw [e2]; exact h4, ?_⟩
    rw [show i * 3 + 1 + 1 + 1 + 2 = (i * 3 + 2) + 1 + 1 + 1 from by omega, e]
    exact h5
  | [], _, h => by simp at h
def DataIs (w : World) (base : Nat) (dv : Value) (xs : List Nat) : Prop := (dv = .slice none 0 0 ∧ xs = []) ∨ ∃ g, dv = .slice (some ⟨g, 0, none⟩) 128 128 ∧ base ≤ g ∧ w.heap[g]? = some (.cells (Bs xs).toArray 5 (0, 0)) ∧ xs.length = 128 ∧ ∀ c ∈ xs, c < 256
theorem DataIs.row {w : World} {base : Nat} {dv : Value} {xs : List Nat} (h : DataIs w base dv xs) : Row w dv xs := by
  rcases h with ⟨rfl, rfl⟩ | ⟨g, rfl, _, h1, h2, h3⟩
  · exact ⟨none, 0, rfl, ⟨fun h => absurd h (by simp), fun c hc => by cases hc⟩, by simp, by unfold maxLen; omega, fun _ => rfl⟩
  · exact ⟨some ⟨g, 0, none⟩, 128, by rw [h2], bin_row h1 h3, by omega, by unfold maxLen; omega, fun h => by cases h⟩
theorem DataIs.block {w w' : World} {base : Nat} {dv : Value} {xs : List Nat} (h : DataIs w base dv xs) (hk : ∀ (k : Nat) (cs : Array Value), w.heap[k]? = some (.cells cs 5 (0, 0)) → w'.heap[k]? = w.heap[k]?) : DataIs w' base dv xs := by
  rcases h with h | ⟨g, h0, h1, h2, h3⟩
  · exact .inl h
  · exact .inr ⟨g, h0, h1, (hk g _ h2).trans h2, h3⟩
theorem DataIs.mono {w : World} {base base' : Nat} {dv : Value} {xs : List Nat} (h : DataIs w base dv xs) (hb : base' ≤ base) : DataIs w base' dv xs := by
  rcases h with h | ⟨g, h0, h1, h2⟩
  · exact .inl h
  · exact .inr ⟨g, h0, Nat.le_trans hb h1, h2⟩
structure AOwn (w : World) (base : Nat) (v : Value) (l : List ActC) : Prop where
  row : w.ownsRow base 90 3 v l.length (cellsA l)
  data : ∀ y ∈ l, DataIs w base y.2 y.1.2.2
theorem aown_nil (w : World) (base : Nat) : AOwn w base (.slice none 0 0) [] := ⟨World.ownsRow_nil _ _ _ _, fun y hy => by cases hy⟩
theorem AOwn.below {w w' : World} {base : Nat} {v : Value} {l : List ActC} (h : AOwn w base v l) (hb : Below w.heap.size w w') : AOwn w' base v l :=
  ⟨own_below h.row hb, fun y hy => (h.data y hy).block (fun k _ hk => hb.block k (lt_heap hk))⟩
theorem AOwn.form {w : World} {base : Nat} {v : Value} {l : List ActC} (h : AOwn w base v l) : ∃ q m, v = .slice q l.length m ∧ l.length ≤ m ∧ m ≤ maxLen := by
  obtain ⟨q, m, h1, h2, h3, _⟩ := own_form h.row
  exact ⟨q, m, h1, h2, h3⟩
theorem AOwn.lies {w : World} {base : Nat} {q : Option Addr} {n m : Nat} {l : List ActC} (h : AOwn w base (.slice q n m) l) : n = l.length ∧ ActsIn w q (l.map Prod.fst) ∧ l.length ≤ m ∧ m ≤ maxLen := by
  rcases h.row.2 with ⟨hv, hn⟩ | ⟨g, cap, cur, hv, hb, hg, hle, hmax, hsz, htk⟩
  · simp only [Value.slice.injEq] at hv
    obtain ⟨rfl, rfl, rfl⟩ := hv
    exact ⟨by omega, fun h => by rw [List.length_map] at h; omega, by omega, by unfold maxLen; omega⟩
  · simp only [Value.slice.injEq] at hv
    obtain ⟨rfl, rfl, rfl⟩ := hv
    refine ⟨rfl, fun _ => ⟨g, 0, rfl, fun i hi => ?_⟩, hle, hmax⟩
    rw [List.length_map] at hi
    obtain ⟨c0, c1, y, hy, c2, c3⟩ := cellsA_at l i hi
    have e0 := h.row.cellAt (i * 3) (by omega)
    have e1 := h.row.cellAt (i * 3 + 1) (by omega)
    have e2 := h.row.cellAt (i * 3 + 2) (by omega)
    rw [c0] at e0
    rw [c1] at e1
    rw [c3] at e2
    refine ⟨by rw [Nat.zero_add]; exact e0, by rw [Nat.zero_add]; exact e1, y.2, by rw [Nat.zero_add]; exact e2, ?_⟩
    rw [← c2]
    exact (h.data y hy).row
theorem AOwn.push {w w1 : World} {base : Nat} {v v' dv : Value} {l : List ActC} {f : Bool} {s : Int} {xs : List Nat} (h : AOwn w base v l) (hd : DataIs w base dv xs)
    (hown : w1.ownsRow base 90 3 v' (l.length + 1) (cellsA l ++ [.bool f, .int .i64 s, dv])) (hgrow : w.grownBy w1 v.ownBlock) : AOwn w1 base v' (l ++ [((f, s, xs), dv)]) := by
  have hfar : ∀ (k : Nat) (cs : Array Value), w.heap[k]? = some (.cells cs 5 (0, 0)) → w1.heap[k]? = w.heap[k]? := by
    intro k cs hk
    refine hgrow.block k (lt_heap hk) ?_
    intro e
    rcases h.row.2 with ⟨hv, _⟩ | ⟨g', cap, cur, hv, _, h3, _⟩
    · rw [hv] at e; simp [Value.ownBlock] at e
    · rw [hv] at e
      simp only [Value.ownBlock, Option.some.injEq] at e
      subst e
      rw [hk] at h3
      simp at h3
  refine ⟨by rw [cellsA_snoc, List.length_append]; exact hown, fun y hy => ?_⟩
  rcases List.mem_append.1 hy with hy | hy
  · exact (h.data y hy).block hfar
  · rw [List.mem_singleton.1 hy]
    exact hd.block hfar
def actsK (fr : Int) (xs : List Nat) (k : Nat) : List (Bool × Int × List Nat) := (List.range k).map fun i : Nat => (false, fr + (i : Int), secAt xs i)
theorem actsK_snoc (fr : Int) (xs : List Nat) (k : Nat) : actsK fr xs (k + 1) = actsK fr xs k ++ [(false, fr + (k : Int), secAt xs k)] := by
  unfold actsK; rw [List.range_succ, List.map_append]; rfl
theorem info_act : (Tryz.prog.info? 90).map (fun i => (i.zero, i.size, i.bytes)) = some (some (.agg #[.bool false, .int .i64 0, .slice none 0 0]), 3, 40) := by kernel_rfl
theorem act_cells (w : World) (a b c : Value) (t : TypeId) : ∀ j u, [a, b, c][j]? = some u → (w.alloc (.cells #[a, b, c] t)).cell? ((⟨w.heap.size, 0, none⟩ : Addr).add j) = some u := by
  intro j u hj
  rw [add_plain]
  rw [cell_of_row _ _ (0 + j) _ _ _ (heap_alloc_new w _), Nat.zero_add]
  simpa using hj
theorem act_one (f : Bool) (s : Int) (q : Option Addr) (n c : Nat) : ∀ v ∈ [Value.bool f, .int .i64 s, .slice q n c], v.oneCell' = true := by
  intro v hv
  simp only [List.mem_cons, List.not_mem_nil, or_false] at hv
  rcases hv with rfl | rfl | rfl <;> rfl
theorem sec_byte {xs : List Nat} (h : ∀ c ∈ xs, c < 256) (k : Nat) : ∀ c ∈ secAt xs k, c < 256 := fun c hc => h c (List.mem_of_mem_drop (List.mem_of_mem_take hc))
set_option maxRecDepth 8000 in
set_option maxHeartbeats 2000000 in
theorem writes_any (fr : Int) (b o n m c : Nat) (xs : List Nat) (w : World) (hf0 : 0 ≤ fr) (hf1 : fr ≤ 5000) (hm : m = xs.length) (hn : m = n * 128) (hn0 : 0 < n) (hn1 : n ≤ 64) (hmc : m ≤ c) (hcm : c ≤ maxLen) (hb : BIn w (some ⟨b, o, none⟩) xs) :
    Calls Tryz.prog 37 #[.int .i64 fr, .slice (some ⟨b, o, none⟩) m c] w fun e w' => ∃ v l, e = .returned v ∧ AOwn w' w.heap.size v l ∧ l.map Prod.fst = actsK fr xs n ∧ Below w.heap.size w w' := by
  obtain ⟨i0, hi, hz0, hz1, hz2⟩ := info_parts info5
  obtain ⟨j0, ji, jz0, jz1, jz2⟩ := info_parts info_act
  have HB : Hid (BIn w (some ⟨b, o, none⟩) xs) := hb
  have HM : Hid (m = xs.length ∧ m = n * 128 ∧ 0 < n ∧ n ≤ 64 ∧ m ≤ c ∧ c ≤ maxLen) := ⟨hm, hn, hn0, hn1, hmc, hcm⟩
  have hdiv : (m : Int) / 128 = n := by omega
  have hn2 : (n : Int) ≤ 64 := by omega
  have hcI : (m : Int) ≤ c := by omega
  clear hb hm hn hn0 hn1 hmc hcm
  go_enter Tryz.func37, Tryz.ntmps37
  go_wp2
  go_loopw [5, 11] (fun v i wr => ∃ (k : Nat) (l : List ActC), k ≤ n ∧ i = .int .i64 k ∧ AOwn wr w.heap.size v l ∧ l.map Prod.fst = actsK fr xs k ∧ Below w.heap.size w wr) (fun _ i _ => n - (intOf i).toNat)
  case atStart => exact ⟨0, [], by omega, rfl, aown_nil _ _, rfl, Below.refl _ _⟩
  case round =>
    obtain ⟨k, l, hk, rfl, hao, hml, hbk⟩ := hrel
    obtain ⟨lq, lm, rfl, hlm1, hlm2⟩ := hao.form
    have HAO : Hid (AOwn wr w.heap.size (.slice lq l.length lm) l) := hao
    have HML : Hid (l.map Prod.fst = actsK fr xs k) := hml
    have HLL : Hid (l.length = k) := by have := congrArg List.length hml; unfold actsK at this; show _ = _; simpa using this
    have HBK : Hid (Below w.heap.size w wr) := hbk
    by_cases hkn : k < n
    · have hkI : (k : Int) < (n : Int) := by omega
      have k1 : IntKind.i64.wrap ((k : Int) * 128) = (k : Int) * 128 := by rw [IntKind.wrap_i64]; omega
      have k2 : IntKind.i64.wrap (fr + (k : Int)) = fr + k := by rw [IntKind.wrap_i64]; omega
      have t1 : ((k : Int) * 128).toNat = k * 128 := by omega
      have hhi : (k : Int) * 128 ≤ (m : Int) := by have := HM.out; omega
      have hlo : (0 : Int) ≤ (k : Int) * 128 := by omega
      have hck : ¬ c = k * 128 := by have := HM.out; omega
      have HSL : Hid ((secAt xs k).length = 128) := secAt_len (by have := HM.out; omega)
      have hsz := hbk.size
      clear hao hml hbk hlm1 hlm2
      go_wp2_with (at_make; refine wpList_make_full _ rfl _ _ 32 rfl wr.heap.size 5 i0 (.int .u8 0) 1 Tryz.underlying32 hi hz0 hz1 .i64 .i64 _ _ 128 rfl rfl rfl rfl (by rw [hz2]; decide) (by decide) (by simp) ?_)
      intro w2 hown hgrow
      have hb2 : Below wr.heap.size wr w2 := (Below.refl _ _).grown hgrow (Nat.le_refl _) (fun k hk => by cases hk)
      have hrow := row_full' hown
      rw [zeros_made] at hrow
      have HR2 : Hid (w2.heap[wr.heap.size]? = some (.cells (Bs z128).toArray 5 (0, 0))) := hrow
      have HB2 : Hid (Below wr.heap.size wr w2) := hb2
      obtain ⟨cs, HCS⟩ : ∃ cs, Hid (cs = Bs (secAt xs k)) := ⟨_, rfl⟩
      have HIN : Hid (BIn w2 (some ⟨b, o + k * 128, none⟩) (secAt xs k)) := sec_in ((HB.out.below HBK.out).below hb2)
      have HI3 : Hid (0 < cs.length → ∃ ad, some (⟨b, o + k * 128, none⟩ : Addr) = some ad ∧ ∀ j v, cs[j]? = some v → w2.cell? (ad.add j) = some v) := by
        intro _
        exact ⟨_, rfl, by rw [HCS.out]; exact bin_cells HIN.out⟩
      have HL3 : Hid (cs.length = Nat.min (m - k * 128) 128) := by
        have := HM.out
        show _ = _
        rw [HCS.out, Bs_len, HSL.out]
        exact (Nat.min_eq_right (by omega)).symm
      have HF3 : Hid (0 + cs.length ≤ (Bs z128).length) := by show _ ≤ _; rw [HCS.out, Bs_len, HSL.out, Bs_len]; decide
      have HO3 : Hid (∀ v ∈ cs, v.oneCell' = true) := by show ∀ v ∈ cs, _; rw [HCS.out]; exact Bs_one _
      clear hown hgrow hb2 hrow HIN
      go_wp2_with (refine wpList_copy_splice (o := ⟨some 20, _, _, _, _, _⟩) rfl (.tmp 15) (.tmp 19) 32 32 rfl 5 Tryz.underlying32 size5 (some ⟨wr.heap.size, 0, none⟩) (some ⟨b, o + k * 128, none⟩) 128 128 (m - k * 128) (c - k * 128) rfl rfl wr.heap.size 0 (Bs z128) 5 HR2.out cs HL3.out (fun h => ⟨rfl, HI3.out h⟩) HF3.out HO3.out wr.heap.size wr HB2.out (Nat.le_refl _) ?_)
      intro w3 hrow3 hb3
      have hr3 : w3.heap[wr.heap.size]? = some (.cells (Bs (secAt xs k)).toArray 5 (0, 0)) := by
        rw [hrow3.out, HCS.out, Bs_splice, HSL.out]
        simp [z128]
      have HD3 : Hid (DataIs w3 w.heap.size (.slice (some ⟨wr.heap.size, 0, none⟩) 128 128) (secAt xs k)) := .inr ⟨wr.heap.size, rfl, hsz, hr3, HSL.out, sec_byte HB.out.2 k⟩
      have HA4 : Hid (AOwn (w3.alloc (.cells #[.bool false, .int .i64 (fr + k), .slice (some ⟨wr.heap.size, 0, none⟩) 128 128] 90)) w.heap.size (.slice lq l.length lm) l) := (HAO.out.below hb3).below (below_alloc _ _)
      have HD4 : Hid (DataIs (w3.alloc (.cells #[.bool false, .int .i64 (fr + k), .slice (some ⟨wr.heap.size, 0, none⟩) 128 128] 90)) w.heap.size (.slice (some ⟨wr.heap.size, 0, none⟩) 128 128) (secAt xs k)) := HD3.out.block (fun j _ hj => (below_alloc w3 _).block j (lt_heap hj))
      have HB4 : Hid (Below w.heap.size w (w3.alloc (.cells #[.bool false, .int .i64 (fr + k), .slice (some ⟨wr.heap.size, 0, none⟩) 128 128] 90))) := below_bt (below_bt HBK.out hb3) (below_alloc _ _)
      have HCL : Hid (∀ j u, [Value.bool false, .int .i64 (fr + k), .slice (some ⟨wr.heap.size, 0, none⟩) 128 128][j]? = some u → (w3.alloc (.cells #[.bool false, .int .i64 (fr + k), .slice (some ⟨wr.heap.size, 0, none⟩) 128 128] 90)).cell? ((⟨w3.heap.size, 0, none⟩ : Addr).add j) = some u) := act_cells w3 _ _ _ _
      have HK : Hid (l.length ≤ 64) := by have := HLL.out; show _ ≤ _; omega
      clear hr3 hrow3 hb3 HD3 HR2 HB2 HI3 HL3 HF3 HO3 HCS hck hlo hhi t1 k1
      go_wp2_with (at_builtin; go_loud (refine wpList_append_own _ rfl _ _ 51 rfl w.heap.size 90 j0 _ 3 40 Tryz.underlying51 ji jz0 jz1 jz2 rfl (by omega) _ _ _ rfl HA4.out.row ⟨w3.heap.size, 0, none⟩ 1 1 [.bool false, .int .i64 (fr + k), .slice (some ⟨wr.heap.size, 0, none⟩) 128 128] rfl rfl HCL.out (act_one _ _ _ _ _) (by have := HK.out; unfold maxLen; omega) (by have := HK.out; omega) HB4.out.size ?_); intro va ua hoa hga _; have A5 := HA4.out.push HD4.out hoa hga; have B5 := HB4.out.grown hga HB4.out.size (fun k hk => (World.ownsRow.lt HA4.out.row k hk).1); have HA5 : Hid _ := A5; have HB5 : Hid _ := B5; clear A5 B5 hoa hga)
      go_roundw
      case rel => exact ⟨k + 1, _, by omega, by go_num, HA5.out, by rw [List.map_append, HML.out, actsK_snoc]; rfl, HB5.out⟩
      case measure => simp [intOf]; omega
    · obtain rfl : k = n := by omega
      clear hao hml hbk hlm1 hlm2
      go_wp2
      go_ret
      exact ⟨_, l, rfl, HAO.out, HML.out, HBK.out⟩
end Go.Proofs.YtghcmllmbpoidaaGreatDoor.Lg
