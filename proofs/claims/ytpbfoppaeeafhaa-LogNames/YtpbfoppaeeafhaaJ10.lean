/-
  The next salt.
-/
import Derived.Test.YtpbfoppaeeafhaaJ09
import Derived.Test.YtpbfoppaeeafhaaJ07
namespace Go.Proofs.Ytpbfoppaeeafhaa
open Go.RowKit Go.WideShapes

/-- What is wrong with a disk, a sector. -/
noncomputable def errS (count : Int) (data : List Nat) (ws : Puts) (n : Int) : Int := if errC count data ws = 0 then (if 0 ≤ n ∧ n < count then 0 else 21) else 20
theorem errS_bad {count : Int} {data : List Nat} {ws : Puts} (n : Int) (h : ¬ Okay count data ws) : errS count data ws n = 20 := by simp [errS, errC_bad h]
theorem errS_range {count : Int} {data : List Nat} {ws : Puts} {n : Int} (h : Okay count data ws) (hn : ¬ (0 ≤ n ∧ n < count)) : errS count data ws n = 21 := by simp [errS, errC_ok h, hn]
theorem errS_ok {count : Int} {data : List Nat} {ws : Puts} {n : Int} (h : Okay count data ws) (hn : 0 ≤ n ∧ n < count) : errS count data ws n = 0 := by simp [errS, errC_ok h, hn]

set_option maxRecDepth 20000 in
set_option maxHeartbeats 1000000 in
theorem checkSector_any (v : Value) (n : Int) (count : Int) (data : List Nat) (ws : Puts) (w : World) (hd : DiskIn w v count data ws) :
    Calls Try.prog 73 #[v, .int .i64 n] w fun e w' => e = .returned (.int .i64 (errS count data ws n)) ∧ Below w.heap.size w w' := by
  obtain ⟨p, c, q, m, rfl, _⟩ := hd.parts
  have HD : Hid _ := hd
  clear hd
  by_cases ho : Okay count data ws
  · by_cases hn : 0 ≤ n ∧ n < count
    · have HE : Hid _ := errS_ok ho hn
      go_enter Try.func73, Try.ntmps73
      go_wp2_with fail
      refine (check_ok _ count data ws _ (HD.out.below (below_alloc w _)) ho).mono ?_
      rintro e w1 ⟨rfl, hb1⟩
      replace hb1 : Below (w.heap.size + 1) (w.alloc (.cells #[.int .i64 count, .slice p data.length c, .slice q ws.length m] 25)) w1 := by simpa using hb1
      obtain ⟨c0, c1, c2⟩ := box_cells hb1
      go_wp2_with (go_at_call 65; refine (has_any count n _ _ _).mono ?_; rintro e w2 ⟨rfl, ob, rfl⟩; rw [decide_eq_true hn])
      go_ret
      exact ⟨by rw [HE.out]; rfl, box_below (hb1.alloc (by have := box_size hb1; omega) _)⟩
    · have HE : Hid _ := errS_range ho hn
      go_enter Try.func73, Try.ntmps73
      go_wp2_with fail
      refine (check_ok _ count data ws _ (HD.out.below (below_alloc w _)) ho).mono ?_
      rintro e w1 ⟨rfl, hb1⟩
      replace hb1 : Below (w.heap.size + 1) (w.alloc (.cells #[.int .i64 count, .slice p data.length c, .slice q ws.length m] 25)) w1 := by simpa using hb1
      obtain ⟨c0, c1, c2⟩ := box_cells hb1
      go_wp2_with (go_at_call 65; refine (has_any count n _ _ _).mono ?_; rintro e w2 ⟨rfl, ob, rfl⟩; rw [decide_eq_false hn])
      go_ret
      exact ⟨by rw [HE.out]; rfl, box_below (hb1.alloc (by have := box_size hb1; omega) _)⟩
  · have HE : Hid _ := errS_bad n ho
    go_enter Try.func73, Try.ntmps73
    go_wp2_with fail
    refine (check_bad _ count data ws _ (HD.out.below (below_alloc w _)) ho).mono ?_
    rintro e w1 ⟨rfl, hb1⟩
    replace hb1 : Below (w.heap.size + 1) (w.alloc (.cells #[.int .i64 count, .slice p data.length c, .slice q ws.length m] 25)) w1 := by simpa using hb1
    go_wp2
    go_ret
    exact ⟨by rw [HE.out]; rfl, box_below hb1⟩
theorem sector_fails (v : Value) (n : Int) (count : Int) (data : List Nat) (ws : Puts) (w : World) (hd : DiskIn w v count data ws) (er : Int) (he : errS count data ws n = er) :
    Calls Try.prog 73 #[v, .int .i64 n] w fun e w' => e = .returned (.int .i64 er) ∧ Below w.heap.size w w' := by
  subst he; exact checkSector_any v n count data ws w hd

/-- A sector answered: in a row of its own. -/
def SecNew (w : World) (base : Nat) (v : Value) (xs : List Nat) : Prop := ∃ g, v = .slice (some ⟨g, 0, none⟩) 128 128 ∧ base ≤ g ∧ w.heap[g]? = some (.cells (Bs xs).toArray 5 (0, 0)) ∧ xs.length = 128 ∧ ∀ c ∈ xs, c < 256

set_option maxRecDepth 20000 in
set_option maxHeartbeats 1000000 in
theorem read_err (v : Value) (n : Int) (count : Int) (data : List Nat) (ws : Puts) (w : World) (hd : DiskIn w v count data ws) (er : Int) (hne : er ≠ 0) (he : errS count data ws n = er) :
    Calls Try.prog 61 #[v, .int .i64 n] w fun e w' => e = .returned (.tuple #[.slice none 0 0, .int .i64 er]) ∧ Below w.heap.size w w' := by
  obtain ⟨p, c, q, m, rfl, _⟩ := hd.parts
  have HD : Hid _ := hd
  have HE : Hid (errS count data ws n = er) := he
  have hnb : (er != 0) = true := by simpa using hne
  clear hd he hne
  go_enter Try.func61, Try.ntmps61
  go_wp2_with fail
  refine (sector_fails _ n count data ws _ (HD.out.below (below_alloc w _)) er HE.out).mono ?_
  rintro e w1 ⟨rfl, hb1⟩
  replace hb1 : Below (w.heap.size + 1) (w.alloc (.cells #[.int .i64 count, .slice p data.length c, .slice q ws.length m] 25)) w1 := by simpa using hb1
  go_wp2
  go_ret2
  exact ⟨rfl, box_below hb1⟩
theorem secN_mem {data : List Nat} {n : Nat} (h : ∀ c ∈ data, c < 256) : ∀ c ∈ secN data n, c < 256 := fun c hc => h c (List.mem_of_mem_drop (List.mem_of_mem_take hc))
/-- Where a sector lies among all bytes. -/
theorem bin_sec {w : World} {b o : Nat} {data : List Nat} (h : BIn w (some ⟨b, o, none⟩) data) (n : Nat) : BIn w (some ⟨b, o + n * 128, none⟩) (secN data n) := by
  refine ⟨fun _ => ⟨b, o + n * 128, rfl, fun i hi => ?_⟩, secN_mem h.2⟩
  have := sec_news h n i (.int .u8 ((secN data n).getD i 0 : Nat)) (by simp [Bs, List.getD, List.getElem?_eq_getElem hi])
  rw [add_plain] at this
  exact this

end Go.Proofs.Ytpbfoppaeeafhaa
namespace Go.Proofs.Ytpbfoppaeeafhaa
open Go.RowKit Go.WideShapes

theorem nowN_some {data : List Nat} {ws : Puts} {n : Int} {xs : List Nat} (h : nowK ws n ws.length = some xs) : nowN data ws n = xs := by simp [nowN, h]
theorem nowN_none {data : List Nat} {ws : Puts} {n : Nat} (h : nowK ws n ws.length = none) : nowN data ws n = secN data n := by simp [nowN, h]

set_option maxRecDepth 20000 in
set_option maxHeartbeats 1000000 in
theorem read_ok (v : Value) (n : Nat) (count : Int) (data : List Nat) (ws : Puts) (w : World) (hd : DiskIn w v count data ws) (ho : Okay count data ws) (hn : (n : Int) < count) :
    Calls Try.prog 61 #[v, .int .i64 n] w fun e w' => (∃ v', e = .returned (.tuple #[v', .int .i64 0]) ∧ SecNew w' w.heap.size v' (nowN data ws n)) ∧ Below w.heap.size w w' := by
  obtain ⟨p, c, q, m, rfl, hb, hc, _, _, hqp, _⟩ := hd.parts
  have hlen := ho.len
  have hhi := ho.hi
  have hfew := ho.few
  have hnl : (n + 1) * 128 ≤ data.length := by omega
  have HL : Hid ((secN data n).length = 128) := secN_len hnl
  obtain ⟨b, o, rfl⟩ := hb.addr (by omega)
  have HB : Hid (BIn w (some ⟨b, o, none⟩) data) := hb
  have HQ : Hid (PutsIn w q ws) := hqp
  have HO : Hid _ := ho
  have HD : Hid _ := hd
  have HE : Hid (errS count data ws n = 0) := errS_ok ho ⟨by omega, hn⟩
  clear hd ho hlen hb hqp
  go_enter Try.func61, Try.ntmps61
  go_wp2_with fail
  refine (sector_fails _ n count data ws _ (HD.out.below (below_alloc w _)) 0 HE.out).mono ?_
  rintro e w1 ⟨rfl, hb1⟩
  replace hb1 : Below (w.heap.size + 1) (w.alloc (.cells #[.int .i64 count, .slice (some ⟨b, o, none⟩) data.length c, .slice q ws.length m] 25)) w1 := by simpa using hb1
  obtain ⟨c0, c1, c2⟩ := box_cells hb1
  go_wp2
  go_loopw [18] (fun i wr => ∃ k : Nat, k ≤ ws.length ∧ i = .int .i64 k ∧ Hid (nowK ws n ws.length = nowK ws n (ws.length - k)) ∧ Below (w.heap.size + 1) (w.alloc (.cells #[.int .i64 count, .slice (some ⟨b, o, none⟩) data.length c, .slice q ws.length m] 25)) wr) (fun i _ => ws.length - (intOf i).toNat)
  case atStart => exact ⟨0, by omega, rfl, rfl, hb1⟩
  case round =>
    obtain ⟨k, hk, rfl, HN, hbk⟩ := hrel
    obtain ⟨r0, r1, r2⟩ := box_cells hbk
    have hz := box_size hbk
    by_cases hkl : k < ws.length
    · have hq := HQ.out.below (box_below hbk)
      obtain ⟨bq, oq, rfl⟩ := hq.addr (by omega)
      obtain ⟨j, hj⟩ : ∃ j, j = ws.length - 1 - k := ⟨_, rfl⟩
      have hjl : j < ws.length := by omega
      obtain ⟨e1, pk, ck, e2, hbi⟩ := hq.at2 hjl
      have hwt := HO.out.wait hjl
      have HK : Hid (nowK ws n (ws.length - k) = if (ws.getD j (0, [])).1 = n then some (ws.getD j (0, [])).2 else nowK ws n j) := by
        show _ = _
        rw [show ws.length - k = j + 1 from by omega]; rfl
      have hidx : (ws.length : Int) - 1 - (k : Int) = (j : Int) := by omega
      have HJ : Hid (ws.length - (k + 1) = j) := by show _ = _; omega
      rw [hwt.2.2] at e2
      generalize ws.getD j (0, []) = y at *
      obtain ⟨s, xs⟩ := y
      simp only at e1 e2 hbi hwt
      have HX : Hid (xs.length = 128) := hwt.2.2
      have HBI : Hid (BIn wr pk xs) := hbi
      clear hwt hbi hq hj
      by_cases hs : s = n
      · have HF : Hid (nowN data ws n = xs) := nowN_some (by rw [HN.out, HK.out]; simp [hs])
        have hsb : (s == (n : Int)) = true := by simpa using hs
        clear hs
        go_wp2_with fail
        refine (copyOf_any pk ck xs _ (HBI.out.alloc _) HX.out).mono ?_
        rintro e w3 ⟨g, rfl, hg1, hg2, hb3⟩
        have hb4 := (box_below (hbk.alloc (by omega) _)).trans (hb3.mono (by simp; omega))
        have hgz : w.heap.size ≤ g := by simp at hg1; omega
        have HG : Hid _ := hg2
        clear hg2 hg1 hb3
        go_wp2
        go_ret2
        refine ⟨⟨_, rfl, ?_⟩, hb4⟩
        rw [HF.out]
        exact ⟨g, rfl, hgz, HG.out, HX.out, HBI.out.2⟩
      · have HF : Hid (nowK ws n ws.length = nowK ws n (ws.length - (k + 1))) := by show _ = _; rw [HN.out, HK.out, HJ.out]; simp [hs]
        have hsb : (s == (n : Int)) = false := by simpa using hs
        clear hs
        go_wp2
        go_roundw
        case rel => exact ⟨k + 1, by omega, by go_num, HF, hbk.alloc (by omega) _⟩
        case measure => simp [intOf]; omega
    · obtain rfl : k = ws.length := by omega
      have HF : Hid (nowN data ws n = secN data n) := nowN_none (by rw [HN.out, Nat.sub_self]; rfl)
      clear HN
      go_wp2_with (go_at_call 59; refine (sector_any b o data.length c n _ (by omega) hnl hc).mono ?_; rintro e w2 ⟨rfl, rfl⟩)
      refine (copyOf_any _ _ (secN data n) _ (bin_sec (HB.out.below (box_below hbk)) n) HL.out).mono ?_
      rintro e w3 ⟨g, rfl, hg1, hg2, hb3⟩
      have hb4 := (box_below hbk).trans (hb3.mono (by omega))
      have HG : Hid _ := hg2
      clear hg2
      go_wp2
      go_ret2
      refine ⟨⟨_, rfl, ?_⟩, hb4⟩
      rw [HF.out]
      exact ⟨g, rfl, by omega, HG.out, HL.out, secN_mem HB.out.2⟩
end Go.Proofs.Ytpbfoppaeeafhaa
namespace Go.Proofs.Ytpbfoppaeeafhaa
open Go.RowKit Go.WideShapes

def logK (data : List Nat) (ws : Puts) (k : Nat) : List Nat := (List.range k).flatMap fun i => nowN data ws ((16 + i : Nat) : Int)
def logN (data : List Nat) (ws : Puts) : List Nat := logK data ws 64
theorem logK_snoc (data : List Nat) (ws : Puts) (k : Nat) : logK data ws (k + 1) = logK data ws k ++ nowN data ws ((16 + k : Nat) : Int) := by
  unfold logK; rw [List.range_succ, List.flatMap_append]; simp
structure LogIs (data : List Nat) (ws : Puts) (k : Nat) : Prop where
  len : (logK data ws k).length = k * 128
  byte : ∀ c ∈ logK data ws k, c < 256
theorem LogIs.next {data : List Nat} {ws : Puts} {k : Nat} (h : LogIs data ws k) (h1 : (nowN data ws ((16 + k : Nat) : Int)).length = 128) (h2 : ∀ c ∈ nowN data ws ((16 + k : Nat) : Int), c < 256) : LogIs data ws (k + 1) := by
  refine ⟨?_, ?_⟩
  · rw [logK_snoc, List.length_append, h.len, h1]; omega
  · intro c hc
    rw [logK_snoc] at hc
    rcases List.mem_append.1 hc with hc | hc
    · exact h.byte c hc
    · exact h2 c hc
theorem now_bad (v : Value) (count : Int) (data : List Nat) (ws : Puts) (w : World) (hd : DiskIn w v count data ws) (ho : ¬ Okay count data ws) :
    Calls Try.prog 37 #[v] w fun e w' => e = .returned (.tuple #[.slice none 0 0, .int .i64 20]) ∧ Below w.heap.size w w' := by
  obtain ⟨p, c, q, m, rfl, _⟩ := hd.parts
  have HD : Hid _ := hd
  have HO : Hid (¬ Okay count data ws) := ho
  clear hd ho
  go_enter Try.func37, Try.ntmps37
  go_wp2_with fail
  refine (check_bad _ count data ws _ (HD.out.below (below_alloc w _)) HO.out).mono ?_
  rintro e w1 ⟨rfl, hb1⟩
  have HB1 : Hid (Below w.heap.size w w1) := below_bt (below_alloc w _) hb1
  clear hb1
  go_wp2
  go_ret2
  exact ⟨rfl, HB1.out⟩
theorem now_few (v : Value) (count : Int) (data : List Nat) (ws : Puts) (w : World) (hd : DiskIn w v count data ws) (ho : Okay count data ws) (hc : count < 80) :
    Calls Try.prog 37 #[v] w fun e w' => e = .returned (.tuple #[.slice none 0 0, .int .i64 50]) ∧ Below w.heap.size w w' := by
  obtain ⟨p, c, q, m, rfl, _⟩ := hd.parts
  have HD : Hid _ := hd
  have HO : Hid (Okay count data ws) := ho
  clear hd ho
  go_enter Try.func37, Try.ntmps37
  go_wp2_with fail
  refine (check_ok _ count data ws _ (HD.out.below (below_alloc w _)) HO.out).mono ?_
  rintro e w1 ⟨rfl, hb1⟩
  have HB1 : Hid (Below w.heap.size w w1) := below_bt (below_alloc w _) hb1
  replace hb1 : Below (w.heap.size + 1) (w.alloc (.cells #[.int .i64 count, .slice p data.length c, .slice q ws.length m] 25)) w1 := by simpa using hb1
  obtain ⟨c0, c1, c2⟩ := box_cells hb1
  clear hb1
  go_wp2
  go_ret2
  exact ⟨rfl, HB1.out⟩
set_option maxRecDepth 8000 in
set_option maxHeartbeats 2000000 in
theorem now_ok (v : Value) (count : Int) (data : List Nat) (ws : Puts) (w : World) (hd : DiskIn w v count data ws) (ho : Okay count data ws) (hc : 80 ≤ count) :
    Calls Try.prog 37 #[v] w fun e w' => ∃ v', e = .returned (.tuple #[v', .int .i64 0]) ∧ w'.ownsRow w.heap.size 5 1 v' (logN data ws).length (Bs (logN data ws)) ∧ LogIs data ws 64 ∧ Below w.heap.size w w' := by
  obtain ⟨p, c, q, m, rfl, _⟩ := hd.parts
  have HD : Hid _ := hd
  have HO : Hid (Okay count data ws) := ho
  clear hd ho
  go_enter Try.func37, Try.ntmps37
  go_wp2_with fail
  refine (check_ok _ count data ws _ (HD.out.below (below_alloc w _)) HO.out).mono ?_
  rintro e w1 ⟨rfl, hb1⟩
  have S1 : St w [(w.heap.size, #[.int .i64 count, .slice p data.length c, .slice q ws.length m], 25)] w1 (.slice none 0 0) [] := by
    have h1 := (St.start (w := w) (bx := []) (fun p hp => by simp at hp)).alloc #[.int .i64 count, .slice p data.length c, .slice q ws.length m] 25 (by decide)
    exact h1.call hb1
  have HS1 : Hid _ := S1
  have c0 : w1.cell? ⟨w.heap.size, 0, none⟩ = some (.int .i64 count) := S1.cell (List.Mem.head _) 0
  clear hb1 S1
  go_wp2
  go_loopw [5, 6] (fun b i wr => ∃ k : Nat, k ≤ 64 ∧ i = .int .i64 ((16 + k : Nat) : Int) ∧ LogIs data ws k ∧ St w [(w.heap.size, #[.int .i64 count, .slice p data.length c, .slice q ws.length m], 25)] wr b (logK data ws k)) (fun _ i _ => 80 - (intOf i).toNat)
  case atStart => exact ⟨0, by omega, rfl, ⟨rfl, fun c hc => by cases hc⟩, HS1.out⟩
  case round =>
    obtain ⟨k, hk, rfl, hli, hst⟩ := hrel
    clear HS1 c0
    have HLI : Hid (LogIs data ws k) := hli
    have HST : Hid _ := hst
    by_cases hk64 : k < 64
    · have hkI : ((16 + k : Nat) : Int) < 80 := by omega
      have r0 : wr.cell? ⟨w.heap.size, 0, none⟩ = some (.int .i64 count) := hst.cell (List.Mem.head _) 0
      have r1 : wr.cell? ⟨w.heap.size, 1, none⟩ = some (.slice p data.length c) := hst.cell (List.Mem.head _) 1
      have r2 : wr.cell? ⟨w.heap.size, 2, none⟩ = some (.slice q ws.length m) := hst.cell (List.Mem.head _) 2
      have HK : Hid (k < 64) := hk64
      clear hli hst hk64
      obtain ⟨j, hj⟩ : ∃ j, 16 + k = j := ⟨_, rfl⟩
      have HJ : Hid (16 + k = j) := hj
      rw [hj] at hkI ⊢
      clear hj
      go_wp2_with fail
      refine (read_ok _ j count data ws _ (HD.out.below HST.out.bel) HO.out (by omega)).mono ?_
      rintro e w2 ⟨⟨v2, rfl, g, rfl, hg1, hg2, hg3, hg4⟩, hb2⟩
      have HI2 : Hid (BIn w2 (some ⟨g, 0, none⟩) (nowN data ws j)) := bin_row hg2 hg4
      have HN : Hid ((nowN data ws j).length = 128 ∧ ∀ c ∈ nowN data ws j, c < 256) := ⟨hg3, hg4⟩
      have S2 := HST.out.call hb2
      have hsz2 := S2.size
      have HS2 : Hid _ := S2
      clear S2 hg1 hg2 hg3 hg4 hb2 HST r0 r1 r2
      go_wp2_with (at_builtin; refine wpList_append_bytes _ rfl _ _ rfl w.heap.size _ _ (nowN data ws j) (some ⟨g, 0, none⟩) _ 128 rfl rfl HN.out.1.symm HS2.out.own HI2.out (fun h => by cases h) (by have := HLI.out.len; have := HN.out.1; have := HK.out; omega) hsz2 ?_; intro v3 w3 ho3 hg3; have S3 := HS2.out.app ho3 hg3; have HS3 : Hid _ := S3; clear S3 ho3 hg3)
      go_roundw
      case rel =>
        have hj := HJ.out
        subst hj
        exact ⟨k + 1, by have := HK.out; omega, by go_num, HLI.out.next HN.out.1 HN.out.2, HS3.out.eq (logK_snoc data ws k).symm⟩
      case measure => simp [intOf]; omega
    · obtain rfl : k = 64 := by omega
      clear hli hst
      go_wp2
      go_ret2
      exact ⟨_, rfl, HST.out.own, HLI.out, HST.out.bel⟩
/-- The epoch that the log's head holds. -/
def epochN (xs : List Nat) : Nat :=
  if joinN (xs.getD 0 0) (xs.getD 1 0) (xs.getD 2 0) (xs.getD 3 0) (xs.getD 4 0) (xs.getD 5 0) (xs.getD 6 0) (xs.getD 7 0) < 4294967296 ∧ ∀ c ∈ (xs.take 128).drop 8, c = 0 then joinN (xs.getD 0 0) (xs.getD 1 0) (xs.getD 2 0) (xs.getD 3 0) (xs.getD 4 0) (xs.getD 5 0) (xs.getD 6 0) (xs.getD 7 0) else 0
theorem epochN_lt (xs : List Nat) : epochN xs < 4294967296 := by
  unfold epochN
  split
  · rename_i h; exact h.1
  · omega
theorem take8 {xs : List Nat} (h : 8 ≤ xs.length) : xs.take 8 = [xs.getD 0 0, xs.getD 1 0, xs.getD 2 0, xs.getD 3 0, xs.getD 4 0, xs.getD 5 0, xs.getD 6 0, xs.getD 7 0] := by
  match xs, h with
  | a0 :: a1 :: a2 :: a3 :: a4 :: a5 :: a6 :: a7 :: ys, _ => rfl
set_option maxRecDepth 8000 in
set_option maxHeartbeats 2000000 in
theorem epochOf_any (b o m c : Nat) (xs : List Nat) (w : World) (r : Nat) (hm : m = xs.length) (h128 : 128 ≤ m) (hmc : m ≤ c) (hcm : c ≤ maxLen) (hb : BIn w (some ⟨b, o, none⟩) xs) (hr : epochN xs = r) :
    Calls Try.prog 60 #[.slice (some ⟨b, o, none⟩) m c] w fun e w' => e = .returned (.int .u32 r) ∧ Below w.heap.size w w' := by
  obtain ⟨J, hJ⟩ : ∃ J, joinN (xs.getD 0 0) (xs.getD 1 0) (xs.getD 2 0) (xs.getD 3 0) (xs.getD 4 0) (xs.getD 5 0) (xs.getD 6 0) (xs.getD 7 0) = J := ⟨_, rfl⟩
  have HB8 : Hid (BIn w (some ⟨b, o, none⟩) [xs.getD 0 0, xs.getD 1 0, xs.getD 2 0, xs.getD 3 0, xs.getD 4 0, xs.getD 5 0, xs.getD 6 0, xs.getD 7 0]) := by
    have := hb.take' 8
    rw [take8 (by omega)] at this
    exact this
  have HB120 : Hid (BIn w (some ⟨b, o + 8, none⟩) ((xs.take 128).drop 8)) := (hb.take' 128).drop' 8
  have HL : Hid (120 = ((xs.take 128).drop 8).length) := by show _ = _; rw [List.length_drop, List.length_take]; omega
  have HC : Hid (128 ≤ c ∧ c ≤ maxLen) := ⟨by omega, hcm⟩
  have hcI : (128 : Int) ≤ c := by omega
  have HR : Hid ((if J < 4294967296 ∧ ∀ c ∈ (xs.take 128).drop 8, c = 0 then J else 0) = r) := by show _ = _; rw [← hr, ← hJ]; rfl
  have HJ : Hid _ := hJ
  clear hJ hm h128 hmc hcm hb hr
  have HG : Hid (∀ w' c', Below w.heap.size w w' → Calls Try.prog 71 #[.slice (some ⟨b, o, none⟩) 8 c'] w' fun e w2 => e = .returned (.tuple #[.int .u64 J, .int .i64 0]) ∧ Below w'.heap.size w' w2) := fun w' c' hb' => by
    have := get_ok (some ⟨b, o, none⟩) c' _ _ _ _ _ _ _ _ w' (HB8.out.below hb')
    rw [HJ.out] at this
    exact this
  clear HB8 HJ
  go_enter Try.func60, Try.ntmps60
  go_wp2_with fail
  refine (HG.out _ _ (Below.refl _ _)).mono ?_
  rintro e w1 ⟨rfl, hb1⟩
  have HB1 : Hid (Below w.heap.size w w1) := hb1
  clear hb1 HG
  by_cases hj : J < 4294967296
  · have g1 : decide ((4294967295 : Int) < (J : Int)) = false := decide_eq_false (by omega)
    have HJL : Hid (J < 4294967296) := hj
    have kw : IntKind.u32.wrap (J : Int) = J := by rw [IntKind.wrap_u32']; omega
    clear hj
    by_cases hz : ∀ c ∈ (xs.take 128).drop 8, c = 0
    · have HZ : Hid (decide (∀ c ∈ (xs.take 128).drop 8, c = 0) = true) := decide_eq_true hz
      have HF : Hid (J = r) := by show _ = _; rw [← HR.out, if_pos ⟨HJL.out, hz⟩]
      clear hz
      go_wp2_with (go_at_call 72; refine (noughts_any _ _ 120 _ true _ HL.out (by have := HC.out; omega) (by have := HC.out; omega) (HB120.out.below HB1.out) HZ.out).mono ?_; rintro e w2 ⟨rfl, rfl⟩)
      go_ret
      exact ⟨by rw [HF.out]; rfl, HB1.out⟩
    · have HZ : Hid (decide (∀ c ∈ (xs.take 128).drop 8, c = 0) = false) := decide_eq_false hz
      have HF : Hid (0 = r) := by show _ = _; rw [← HR.out, if_neg (fun h => hz h.2)]
      clear hz
      go_wp2_with (go_at_call 72; refine (noughts_any _ _ 120 _ false _ HL.out (by have := HC.out; omega) (by have := HC.out; omega) (HB120.out.below HB1.out) HZ.out).mono ?_; rintro e w2 ⟨rfl, rfl⟩)
      go_ret
      exact ⟨by rw [← HF.out]; rfl, HB1.out⟩
  · have g1 : decide ((4294967295 : Int) < (J : Int)) = true := decide_eq_true (by omega)
    have HF : Hid (0 = r) := by show _ = _; rw [← HR.out, if_neg (fun h => hj h.1)]
    clear hj
    go_wp2
    go_ret
    exact ⟨by rw [← HF.out]; rfl, HB1.out⟩
end Go.Proofs.Ytpbfoppaeeafhaa
namespace Go.Proofs.Ytpbfoppaeeafhaa
open Go.RowKit Go.WideShapes

theorem numAt_drop2 (xs : List Nat) (d k : Nat) : numAt (xs.drop d) k = numAt xs (d + k) := by simp [numAt, List.getD, Nat.add_assoc]
def mostE (xs : List Nat) : Nat → Nat
  | 0 => epochN xs
  | k + 1 => max (mostE xs k) (numAt xs ((k + 1) * 128))
def mostS (e : Nat) (ys : List Nat) : Nat → Nat
  | 0 => 0
  | k + 1 => if numAt ys (k * 128) = e then max (mostS e ys k) (max (numAt ys (k * 128 + 4)) (numAt ys (k * 128 + 8))) else mostS e ys k
theorem mostE_lt {xs : List Nat} (h : ∀ c ∈ xs, c < 256) (k : Nat) : mostE xs k < 4294967296 := by
  induction k with
  | zero => exact epochN_lt xs
  | succ k ih => have := numAt_lt h ((k + 1) * 128); show max _ _ < _; omega
theorem mostS_lt {e : Nat} {ys : List Nat} (h : ∀ c ∈ ys, c < 256) (k : Nat) : mostS e ys k < 4294967296 := by
  induction k with
  | zero => show 0 < _; omega
  | succ k ih =>
    have h1 := numAt_lt h (k * 128 + 4)
    have h2 := numAt_lt h (k * 128 + 8)
    show (if _ then max _ (max _ _) else _) < _
    split
    · exact Nat.max_lt.2 ⟨ih, Nat.max_lt.2 ⟨h1, h2⟩⟩
    · exact ih
/-- The log from a sector on; none of its bytes are looked at where there is no sector left. -/
def Rest (b o c n k : Nat) (v : Value) : Prop := ∃ q cc, v = .slice q ((n - k) * 128) cc ∧ (n - k) * 128 ≤ cc ∧ cc ≤ maxLen ∧ (k < n → q = some ⟨b, o + k * 128, none⟩ ∧ cc = c - k * 128)
theorem rest_end {b o c n : Nat} {q : Option Addr} {k l cc : Nat} (hk : k = n) (hl : l = 0) (hc : cc ≤ maxLen) : Rest b o c n k (.slice q l cc) := by
  subst hk hl
  exact ⟨q, cc, by rw [Nat.sub_self], by omega, hc, fun h => absurd h (by omega)⟩
theorem rest_next {b o c n k o' l cc : Nat} (ho : o' = o + k * 128) (hl : l = (n - k) * 128) (hcc : cc = c - k * 128) (h1 : n * 128 ≤ c) (h2 : c ≤ maxLen) : Rest b o c n k (.slice (some ⟨b, o', none⟩) l cc) := by
  subst ho hl hcc
  exact ⟨_, _, rfl, by omega, by omega, fun _ => ⟨rfl, rfl⟩⟩
set_option maxRecDepth 8000 in
set_option maxHeartbeats 2000000 in
theorem nextEpoch_any (b o c n : Nat) (xs : List Nat) (w : World) (hx : xs.length = n * 128) (hn1 : 1 < n) (hn2 : n ≤ 64) (hmc : n * 128 ≤ c) (hcm : c ≤ maxLen) (hb : BIn w (some ⟨b, o, none⟩) xs) :
    Calls Try.prog 38 #[.slice (some ⟨b, o, none⟩) (n * 128) c] w fun e w' => e = .returned (.int .u64 ((mostE xs (n - 1) + 1 : Nat) : Int)) ∧ Below w.heap.size w w' := by
  have HB : Hid (BIn w (some ⟨b, o, none⟩) xs) := hb
  have HX : Hid (xs.length = n * 128 ∧ 1 < n ∧ n ≤ 64 ∧ n * 128 ≤ c ∧ c ≤ maxLen) := ⟨hx, hn1, hn2, hmc, hcm⟩
  obtain ⟨m, hm⟩ : ∃ m, n * 128 = m := ⟨_, rfl⟩
  have HM : Hid (n * 128 = m) := hm
  have hmI : (128 : Int) ≤ m := by omega
  have hmc' : (m : Int) ≤ c := by omega
  have hcn : ¬ c = 128 := by omega
  rw [hm]
  clear hb hx hn1 hn2 hmc hcm hm
  go_enter Try.func38, Try.ntmps38
  go_wp2_with fail
  refine (epochOf_any b o m c xs _ (epochN xs) (by have := HX.out; have := HM.out; omega) (by omega) (by omega) HX.out.2.2.2.2 HB.out rfl).mono ?_
  rintro e w1 ⟨rfl, hb1⟩
  have HB1 : Hid (Below w.heap.size w w1) := hb1
  clear hb1
  go_wp2
  go_loopw [3, 4] (fun mo v wr => ∃ k : Nat, k ≤ n - 1 ∧ mo = .int .u32 (mostE xs k : Nat) ∧ Rest b o c n (k + 1) v ∧ Below w.heap.size w wr) (fun _ v _ => lenV v)
  case atStart => exact ⟨0, by have := HX.out; omega, rfl, rest_next (by omega) (by have := HM.out; omega) (by omega) HX.out.2.2.2.1 HX.out.2.2.2.2, HB1.out⟩
  case round =>
    obtain ⟨k, hk, rfl, ⟨q, cc, rfl, hl1, hl2, hq⟩, hbk⟩ := hrel
    have HBK : Hid (Below w.heap.size w wr) := hbk
    obtain ⟨a, ha⟩ : ∃ a, mostE xs k = a := ⟨_, rfl⟩
    have HA : Hid (mostE xs k = a) := ha
    obtain ⟨L, hL⟩ : ∃ L, (n - (k + 1)) * 128 = L := ⟨_, rfl⟩
    rw [ha, hL]
    rw [hL] at hl1
    by_cases hkn : k + 1 < n
    · obtain ⟨rfl, rfl⟩ := hq hkn
      obtain ⟨D, hD⟩ : ∃ D, (k + 1) * 128 = D := ⟨_, rfl⟩
      rw [hD] at hl1 hl2 ⊢
      have HK : Hid (k + 1 < n ∧ (n - (k + 1)) * 128 = L ∧ (k + 1) * 128 = D) := ⟨hkn, hL, hD⟩
      have hL0 : (128 : Int) ≤ L := by omega
      have hLC : (L : Int) ≤ ((c - D : Nat) : Int) := by omega
      have HCM : Hid (c - D ≤ maxLen) := hl2
      obtain ⟨u, hu⟩ : ∃ u, numAt (xs.drop D) 0 = u := ⟨_, rfl⟩
      have HU : Hid (numAt xs ((k + 1) * 128) = u) := by show _ = _; rw [hD, ← hu, numAt_drop]
      have HMK : Hid (markOfN (xs.drop D) = .agg #[.int .u32 u, .int .u32 (numAt (xs.drop D) 4), .int .u32 (numAt (xs.drop D) 8), .int .i64 ((xs.drop D).getD 12 0 : Nat), .int .i64 ((xs.drop D).getD 13 0 : Nat), .int .i64 (sizeOf2 (xs.drop D))]) := by rw [← hu]; rfl
      obtain ⟨y1, hy1⟩ : ∃ y : Int, (numAt (xs.drop D) 4 : Int) = y := ⟨_, rfl⟩
      obtain ⟨y2, hy2⟩ : ∃ y : Int, (numAt (xs.drop D) 8 : Int) = y := ⟨_, rfl⟩
      obtain ⟨y3, hy3⟩ : ∃ y : Int, (((xs.drop D).getD 12 0 : Nat) : Int) = y := ⟨_, rfl⟩
      obtain ⟨y4, hy4⟩ : ∃ y : Int, (((xs.drop D).getD 13 0 : Nat) : Int) = y := ⟨_, rfl⟩
      obtain ⟨y5, hy5⟩ : ∃ y : Int, (sizeOf2 (xs.drop D) : Int) = y := ⟨_, rfl⟩
      rw [hy1, hy2, hy3, hy4, hy5] at HMK
      have HID : Hid (BIn wr (some ⟨b, o + D, none⟩) (xs.drop D)) := (HB.out.below hbk).drop' D
      have HDL : Hid (L = (xs.drop D).length ∧ 16 ≤ (xs.drop D).length) := by have := HX.out.1; show _ ∧ _; rw [List.length_drop]; omega
      clear hy1 hy2 hy3 hy4 hy5 hu hq hkn hk hl1 hl2 hL hD hbk ha HB1
      go_wp2_with fail
      refine (markOf_any _ _ L (c - D) _ HDL.out.1 HDL.out.2 (by omega) HID.out).mono ?_
      rintro e w2 ⟨rfl, hb2⟩
      rw [HMK.out]
      have HB2 : Hid (Below w.heap.size w w2) := below_bt HBK.out hb2
      clear hb2 HMK HID HDL
      have hf : ∀ w, (Instr.field 116 (.agg #[.int .u32 u, .int .u32 y1, .int .u32 y2, .int .i64 y3, .int .i64 y4, .int .i64 y5]) 0).run Try.prog w = .ok (.int .u32 u) w := fun _ => by kernel_rfl
      by_cases hau : a < u
      · have g1 : (a : Int) < u := by omega
        have HM2 : Hid (mostE xs (k + 1) = u) := by show max _ _ = _; rw [HU.out, HA.out]; omega
        clear hau
        by_cases hcc : c - D = 128
        · have HCC : Hid (k + 1 + 1 = n) := by have := HK.out; have := HX.out; show _ = _; omega
          go_wp2
          go_roundw
          case rel => exact ⟨k + 1, by have := HCC.out; omega, by rw [HM2.out], rest_end HCC.out (by have := HCC.out; have := HK.out; omega) (by omega), HB2.out⟩
          case measure => simp [lenV]; omega
        · have HCC : Hid (k + 1 < n) := HK.out.1
          go_wp2
          go_roundw
          case rel => exact ⟨k + 1, by have := HCC.out; omega, by rw [HM2.out], rest_next (by have := HK.out; omega) (by have := HK.out; omega) (by have := HK.out; omega) HX.out.2.2.2.1 HX.out.2.2.2.2, HB2.out⟩
          case measure => simp [lenV]; omega
      · have g1 : ¬ (a : Int) < u := by omega
        have HM2 : Hid (mostE xs (k + 1) = a) := by show max _ _ = _; rw [HU.out, HA.out]; omega
        clear hau
        by_cases hcc : c - D = 128
        · have HCC : Hid (k + 1 + 1 = n) := by have := HK.out; have := HX.out; show _ = _; omega
          go_wp2
          go_roundw
          case rel => exact ⟨k + 1, by have := HCC.out; omega, by rw [HM2.out], rest_end HCC.out (by have := HCC.out; have := HK.out; omega) (by omega), HB2.out⟩
          case measure => simp [lenV]; omega
        · have HCC : Hid (k + 1 < n) := HK.out.1
          go_wp2
          go_roundw
          case rel => exact ⟨k + 1, by have := HCC.out; omega, by rw [HM2.out], rest_next (by have := HK.out; omega) (by have := HK.out; omega) (by have := HK.out; omega) HX.out.2.2.2.1 HX.out.2.2.2.2, HB2.out⟩
          case measure => simp [lenV]; omega
    · obtain rfl : k = n - 1 := by omega
      have hL0 : L = 0 := by omega
      subst hL0
      have k1 : IntKind.u64.wrap (a : Int) = a := by rw [IntKind.wrap_u64]; have := mostE_lt HB.out.2 (n - 1); have := HA.out; omega
      have k2 : IntKind.u64.wrap ((a : Int) + 1) = (a : Int) + 1 := by rw [IntKind.wrap_u64]; have := mostE_lt HB.out.2 (n - 1); have := HA.out; omega
      clear hq hkn hk hl1 hl2 hL hbk ha HB1
      go_wp2
      go_ret
      exact ⟨by rw [HA.out]; exact ret_int (by omega), HBK.out⟩
end Go.Proofs.Ytpbfoppaeeafhaa
namespace Go.Proofs.Ytpbfoppaeeafhaa
open Go.RowKit Go.WideShapes

theorem rest_start {w : World} {q : Option Addr} {n c : Nat} {ys : List Nat} (hb : BIn w q ys) (hy : ys.length = n * 128) (h1 : n * 128 ≤ c) (h2 : c ≤ maxLen) : ∃ b o, Rest b o c n 0 (.slice q (n * 128) c) ∧ (0 < n → q = some ⟨b, o, none⟩) := by
  by_cases h : 0 < n
  · obtain ⟨b, o, rfl⟩ := hb.addr (by omega)
    exact ⟨b, o, rest_next (by omega) (by omega) (by omega) h1 h2, fun _ => rfl⟩
  · exact ⟨0, 0, rest_end (by omega) (by omega) h2, fun h' => absurd h' h⟩
theorem box_at {w w' : World} {C : Array Value} {t : TypeId} (h : Below (w.heap.size + 1) (w.alloc (.cells C t)) w') : w'.heap[w.heap.size]? = some (.cells C t (0, 0)) := (h.block _ (by omega)).trans (heap_alloc_new w _)
set_option maxRecDepth 8000 in
set_option maxHeartbeats 4000000 in
theorem nextSalt_any (e : Nat) (rq : Option Addr) (rl rc : Nat) (at_ la : Int) (q : Option Addr) (n c : Nat) (ys : List Nat) (w : World) (hy : ys.length = n * 128) (hn : n ≤ 64) (hmc : n * 128 ≤ c) (hcm : c ≤ maxLen) (hb : BIn w q ys) :
    Calls Try.prog 41 #[.agg #[.int .u32 e, .slice rq rl rc, .int .i64 at_, .int .u32 la, .slice q (n * 128) c]] w fun x w' => x = .returned (.int .u64 ((mostS e ys n + 1 : Nat) : Int)) ∧ Below w.heap.size w w' := by
  obtain ⟨b, o, hrest, hq0⟩ := rest_start hb hy hmc hcm
  have HB : Hid (BIn w q ys) := hb
  have HR : Hid (Rest b o c n 0 (.slice q (n * 128) c)) := hrest
  have HQ : Hid (0 < n → q = some ⟨b, o, none⟩) := hq0
  have HX : Hid (ys.length = n * 128 ∧ n ≤ 64 ∧ n * 128 ≤ c ∧ c ≤ maxLen) := ⟨hy, hn, hmc, hcm⟩
  obtain ⟨m, hm⟩ : ∃ m, n * 128 = m := ⟨_, rfl⟩
  have HM : Hid (n * 128 = m) := hm
  rw [hm]
  rw [hm] at HR
  clear hb hy hn hmc hcm hrest hq0 hm
  go_enter Try.func41, Try.ntmps41
  go_wp2
  go_loopw [3, 4] (fun mo v wr => ∃ k : Nat, k ≤ n ∧ mo = .int .u32 (mostS e ys k : Nat) ∧ Rest b o c n k v ∧ Below (w.heap.size + 1) (w.alloc (.cells #[.int .u32 e, .slice rq rl rc, .int .i64 at_, .int .u32 la, .slice q m c] 82)) wr) (fun _ v _ => lenV v)
  case atStart => exact ⟨0, by omega, rfl, HR.out, Below.refl _ _⟩
  case round =>
    obtain ⟨k, hk, rfl, ⟨qk, cc, rfl, hl1, hl2, hq⟩, hbk⟩ := hrel
    have HBK : Hid (Below (w.heap.size + 1) (w.alloc (.cells #[.int .u32 e, .slice rq rl rc, .int .i64 at_, .int .u32 la, .slice q m c] 82)) wr) := hbk
    obtain ⟨a, ha⟩ : ∃ a, mostS e ys k = a := ⟨_, rfl⟩
    have HA : Hid (mostS e ys k = a) := ha
    obtain ⟨L, hL⟩ : ∃ L, (n - k) * 128 = L := ⟨_, rfl⟩
    rw [ha, hL]
    rw [hL] at hl1
    by_cases hkn : k < n
    · obtain ⟨rfl, rfl⟩ := hq hkn
      obtain ⟨D, hD⟩ : ∃ D, k * 128 = D := ⟨_, rfl⟩
      rw [hD] at hl1 hl2 ⊢
      have HK : Hid (k < n ∧ (n - k) * 128 = L ∧ k * 128 = D) := ⟨hkn, hL, hD⟩
      have hL0 : (128 : Int) ≤ L := by omega
      have hLC : (L : Int) ≤ ((c - D : Nat) : Int) := by omega
      have HCM : Hid (c - D ≤ maxLen) := hl2
      obtain ⟨u, hu⟩ : ∃ u, numAt (ys.drop D) 0 = u := ⟨_, rfl⟩
      obtain ⟨y1, hy1⟩ : ∃ y, numAt (ys.drop D) 4 = y := ⟨_, rfl⟩
      obtain ⟨y2, hy2⟩ : ∃ y, numAt (ys.drop D) 8 = y := ⟨_, rfl⟩
      have HU : Hid (numAt ys (k * 128) = u ∧ numAt ys (k * 128 + 4) = y1 ∧ numAt ys (k * 128 + 8) = y2) := ⟨by rw [hD, ← hu, numAt_drop], by rw [hD, ← hy1, numAt_drop2], by rw [hD, ← hy2, numAt_drop2]⟩
      have HMK : Hid (markOfN (ys.drop D) = .agg #[.int .u32 u, .int .u32 y1, .int .u32 y2, .int .i64 ((ys.drop D).getD 12 0 : Nat), .int .i64 ((ys.drop D).getD 13 0 : Nat), .int .i64 (sizeOf2 (ys.drop D))]) := by rw [← hu, ← hy1, ← hy2]; rfl
      obtain ⟨y3, hy3⟩ : ∃ y : Int, (((ys.drop D).getD 12 0 : Nat) : Int) = y := ⟨_, rfl⟩
      obtain ⟨y4, hy4⟩ : ∃ y : Int, (((ys.drop D).getD 13 0 : Nat) : Int) = y := ⟨_, rfl⟩
      obtain ⟨y5, hy5⟩ : ∃ y : Int, (sizeOf2 (ys.drop D) : Int) = y := ⟨_, rfl⟩
      rw [hy3, hy4, hy5] at HMK
      have HID : Hid (BIn wr (some ⟨b, o + D, none⟩) (ys.drop D)) := by
        have h := HB.out
        rw [HQ.out (by omega)] at h
        exact (h.below (box_below hbk)).drop' D
      have HDL : Hid (L = (ys.drop D).length ∧ 16 ≤ (ys.drop D).length) := by have := HX.out.1; show _ ∧ _; rw [List.length_drop]; omega
      clear hy1 hy2 hy3 hy4 hy5 hu hq hkn hk hl1 hl2 hL hD hbk ha HR
      go_wp2_with fail
      refine (markOf_any _ _ L (c - D) _ HDL.out.1 HDL.out.2 (by omega) HID.out).mono ?_
      rintro x w2 ⟨rfl, hb2⟩
      rw [HMK.out]
      have hs1 := box_size HBK.out
      have HB2 : Hid (Below (w.heap.size + 1) (w.alloc (.cells #[.int .u32 e, .slice rq rl rc, .int .i64 at_, .int .u32 la, .slice q m c] 82)) w2) := HBK.out.trans (hb2.mono (by omega))
      have hs2 := box_size HB2.out
      have HB3 : Hid (Below (w.heap.size + 1) (w.alloc (.cells #[.int .u32 e, .slice rq rl rc, .int .i64 at_, .int .u32 la, .slice q m c] 82)) (w2.alloc (.cells #[.int .u32 u, .int .u32 y1, .int .u32 y2, .int .i64 y3, .int .i64 y4, .int .i64 y5] 116))) := HB2.out.alloc (by omega) _
      have j0 : w2.cell? ⟨w.heap.size, 0, none⟩ = some (.int .u32 e) := cell_of_row w2 _ 0 _ _ _ (box_at HB2.out)
      clear hb2 HMK HID HDL HBK
      by_cases hue : u = e
      · have g0 : ((u : Int) == (e : Int)) = true := by simp [hue]
        have HM2 : Hid (mostS e ys (k + 1) = max a (max y1 y2)) := by show (if _ then _ else _) = _; rw [HU.out.1, HU.out.2.1, HU.out.2.2, HA.out, if_pos hue]
        clear hue
        by_cases h1 : (a : Int) < y1
        · by_cases h2 : (y1 : Int) < y2
          · have HM3 : Hid (mostS e ys (k + 1) = y2) := by show _ = _; rw [HM2.out]; omega
            by_cases hcc : c - D = 128
            · have HCC : Hid (k + 1 = n) := by have := HK.out; have := HX.out; show _ = _; omega
              go_wp2
              go_roundw
              case rel => exact ⟨k + 1, by have := HCC.out; omega, by rw [HM3.out], rest_end HCC.out (by have := HCC.out; have := HK.out; omega) (by omega), HB3.out⟩
              case measure => simp [lenV]; omega
            · have HCC : Hid (k < n) := HK.out.1
              go_wp2
              go_roundw
              case rel => exact ⟨k + 1, by have := HCC.out; omega, by rw [HM3.out], rest_next (by have := HK.out; omega) (by have := HK.out; omega) (by have := HK.out; omega) HX.out.2.2.1 HX.out.2.2.2, HB3.out⟩
              case measure => simp [lenV]; omega
          · have HM3 : Hid (mostS e ys (k + 1) = y1) := by show _ = _; rw [HM2.out]; omega
            by_cases hcc : c - D = 128
            · have HCC : Hid (k + 1 = n) := by have := HK.out; have := HX.out; show _ = _; omega
              go_wp2
              go_roundw
              case rel => exact ⟨k + 1, by have := HCC.out; omega, by rw [HM3.out], rest_end HCC.out (by have := HCC.out; have := HK.out; omega) (by omega), HB3.out⟩
              case measure => simp [lenV]; omega
            · have HCC : Hid (k < n) := HK.out.1
              go_wp2
              go_roundw
              case rel => exact ⟨k + 1, by have := HCC.out; omega, by rw [HM3.out], rest_next (by have := HK.out; omega) (by have := HK.out; omega) (by have := HK.out; omega) HX.out.2.2.1 HX.out.2.2.2, HB3.out⟩
              case measure => simp [lenV]; omega
        · by_cases h2 : (a : Int) < y2
          · have HM3 : Hid (mostS e ys (k + 1) = y2) := by show _ = _; rw [HM2.out]; omega
            by_cases hcc : c - D = 128
            · have HCC : Hid (k + 1 = n) := by have := HK.out; have := HX.out; show _ = _; omega
              go_wp2
              go_roundw
              case rel => exact ⟨k + 1, by have := HCC.out; omega, by rw [HM3.out], rest_end HCC.out (by have := HCC.out; have := HK.out; omega) (by omega), HB3.out⟩
              case measure => simp [lenV]; omega
            · have HCC : Hid (k < n) := HK.out.1
              go_wp2
              go_roundw
              case rel => exact ⟨k + 1, by have := HCC.out; omega, by rw [HM3.out], rest_next (by have := HK.out; omega) (by have := HK.out; omega) (by have := HK.out; omega) HX.out.2.2.1 HX.out.2.2.2, HB3.out⟩
              case measure => simp [lenV]; omega
          · have HM3 : Hid (mostS e ys (k + 1) = a) := by show _ = _; rw [HM2.out]; omega
            by_cases hcc : c - D = 128
            · have HCC : Hid (k + 1 = n) := by have := HK.out; have := HX.out; show _ = _; omega
              go_wp2
              go_roundw
              case rel => exact ⟨k + 1, by have := HCC.out; omega, by rw [HM3.out], rest_end HCC.out (by have := HCC.out; have := HK.out; omega) (by omega), HB3.out⟩
              case measure => simp [lenV]; omega
            · have HCC : Hid (k < n) := HK.out.1
              go_wp2
              go_roundw
              case rel => exact ⟨k + 1, by have := HCC.out; omega, by rw [HM3.out], rest_next (by have := HK.out; omega) (by have := HK.out; omega) (by have := HK.out; omega) HX.out.2.2.1 HX.out.2.2.2, HB3.out⟩
              case measure => simp [lenV]; omega
      · have g0 : ((u : Int) == (e : Int)) = false := by simp; omega
        have HM2 : Hid (mostS e ys (k + 1) = a) := by show (if _ then _ else _) = _; rw [HU.out.1, HA.out, if_neg hue]
        clear hue
        by_cases hcc : c - D = 128
        · have HCC : Hid (k + 1 = n) := by have := HK.out; have := HX.out; show _ = _; omega
          go_wp2
          go_roundw
          case rel => exact ⟨k + 1, by have := HCC.out; omega, by rw [HM2.out], rest_end HCC.out (by have := HCC.out; have := HK.out; omega) (by omega), HB3.out⟩
          case measure => simp [lenV]; omega
        · have HCC : Hid (k < n) := HK.out.1
          go_wp2
          go_roundw
          case rel => exact ⟨k + 1, by have := HCC.out; omega, by rw [HM2.out], rest_next (by have := HK.out; omega) (by have := HK.out; omega) (by have := HK.out; omega) HX.out.2.2.1 HX.out.2.2.2, HB3.out⟩
          case measure => simp [lenV]; omega
    · obtain rfl : k = n := by omega
      have hL0 : L = 0 := by omega
      subst hL0
      have k1 : IntKind.u64.wrap (a : Int) = a := by rw [IntKind.wrap_u64]; have := mostS_lt (e := e) HB.out.2 k; have := HA.out; omega
      have k2 : IntKind.u64.wrap ((a : Int) + 1) = (a : Int) + 1 := by rw [IntKind.wrap_u64]; have := mostS_lt (e := e) HB.out.2 k; have := HA.out; omega
      clear hq hkn hk hl1 hl2 hL hbk ha HR
      go_wp2
      go_ret
      exact ⟨by rw [HA.out]; exact ret_int (by omega), box_below HBK.out⟩
end Go.Proofs.Ytpbfoppaeeafhaa
