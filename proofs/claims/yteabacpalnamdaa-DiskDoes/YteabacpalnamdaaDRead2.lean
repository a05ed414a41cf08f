/-
  Contract of the call Read on a sector that there is: what it is now.
-/
import Derived.Test.YteabacpalnamdaaDRead
namespace Go.Proofs.Yteabacpalnamdaa
open Go.RowKit Go.WideShapes

theorem nowN_some {data : List Nat} {ws : Puts} {n : Int} {xs : List Nat} (h : nowK ws n ws.length = some xs) : nowN data ws n = xs := by simp [nowN, h]
theorem nowN_none {data : List Nat} {ws : Puts} {n : Nat} (h : nowK ws n ws.length = none) : nowN data ws n = secN data n := by simp [nowN, h]

set_option maxHeartbeats 1000000 in
theorem read_ok (v : Value) (n : Nat) (count : Int) (data : List Nat) (ws : Puts) (w : World) (hd : DiskIn w v count data ws) (ho : Okay count data ws) (hn : (n : Int) < count) :
    Calls Try.prog 15 #[v, .int .i64 n] w fun e w' => (∃ v', e = .returned (.tuple #[v', .int .i64 0]) ∧ SecNew w' w.heap.size v' (nowN data ws n)) ∧ Below w.heap.size w w' := by
  obtain ⟨p, c, q, m, rfl, hb, hc, _, _, hqp, _⟩ := hd.parts
  have hlen := ho.len
  have hhi := ho.hi
  have hfew := ho.few
  have hnl : (n + 1) * 128 ≤ data.length := by omega
  have HL : Hid ((secN data n).length = 128) := secN_len hnl
  obtain ⟨b, o, rfl⟩ := hb.addr (by omega)
  have HB : Hid (BIn w (some ⟨b, o, none⟩) data) := hb
  have HQ : Hid (PutsIn w q ws) := hqp
  have HO : Hid _ := ho
  have HD : Hid _ := hd
  have HE : Hid (errS count data ws n = 0) := errS_ok ho ⟨by omega, hn⟩
  clear hd ho hlen hb hqp
  go_enter Try.func15, Try.ntmps15
  go_wp2_with fail
  refine (sector_fails _ n count data ws _ (HD.out.below (below_alloc w _)) 0 HE.out).mono ?_
  rintro e w1 ⟨rfl, hb1⟩
  replace hb1 : Below (w.heap.size + 1) (w.alloc (.cells #[.int .i64 count, .slice (some ⟨b, o, none⟩) data.length c, .slice q ws.length m] 25)) w1 := by simpa using hb1
  obtain ⟨c0, c1, c2⟩ := box_cells hb1
  go_wp2
  go_loopw [18] (fun i wr => ∃ k : Nat, k ≤ ws.length ∧ i = .int .i64 k ∧ Hid (nowK ws n ws.length = nowK ws n (ws.length - k)) ∧ Below (w.heap.size + 1) (w.alloc (.cells #[.int .i64 count, .slice (some ⟨b, o, none⟩) data.length c, .slice q ws.length m] 25)) wr) (fun i _ => ws.length - (intOf i).toNat)
  case atStart => exact ⟨0, by omega, rfl, rfl, hb1⟩
  case round =>
    obtain ⟨k, hk, rfl, HN, hbk⟩ := hrel
    obtain ⟨r0, r1, r2⟩ := box_cells hbk
    have hz := box_size hbk
    by_cases hkl : k < ws.length
    · have hq := HQ.out.below (box_below hbk)
      obtain ⟨bq, oq, rfl⟩ := hq.addr (by omega)
      obtain ⟨j, hj⟩ : ∃ j, j = ws.length - 1 - k := ⟨_, rfl⟩
      have hjl : j < ws.length := by omega
      obtain ⟨e1, pk, ck, e2, hbi⟩ := hq.at2 hjl
      have hwt := HO.out.wait hjl
      have HK : Hid (nowK ws n (ws.length - k) = if (ws.getD j (0, [])).1 = n then some (ws.getD j (0, [])).2 else nowK ws n j) := by
        show _ = _
        rw [show ws.length - k = j + 1 from by omega]; rfl
      have hidx : (ws.length : Int) - 1 - (k : Int) = (j : Int) := by omega
      have HJ : Hid (ws.length - (k + 1) = j) := by show _ = _; omega
      rw [hwt.2.2] at e2
      generalize ws.getD j (0, []) = y at *
      obtain ⟨s, xs⟩ := y
      simp only at e1 e2 hbi hwt
      have HX : Hid (xs.length = 128) := hwt.2.2
      have HBI : Hid (BIn wr pk xs) := hbi
      clear hwt hbi hq hj
      by_cases hs : s = n
      · have HF : Hid (nowN data ws n = xs) := nowN_some (by rw [HN.out, HK.out]; simp [hs])
        have hsb : (s == (n : Int)) = true := by simpa using hs
        clear hs
        go_wp2_with fail
        refine (copyOf_any pk ck xs _ (HBI.out.alloc _) HX.out).mono ?_
        rintro e w3 ⟨g, rfl, hg1, hg2, hb3⟩
        have hb4 := (box_below (hbk.alloc (by omega) _)).trans (hb3.mono (by simp; omega))
        have hgz : w.heap.size ≤ g := by simp at hg1; omega
        have HG : Hid _ := hg2
        clear hg2 hg1 hb3
        go_wp2
        go_ret2
        refine ⟨⟨_, rfl, ?_⟩, hb4⟩
        rw [HF.out]
        exact ⟨g, rfl, hgz, HG.out, HX.out, HBI.out.2⟩
      · have HF : Hid (nowK ws n ws.length = nowK ws n (ws.length - (k + 1))) := by show _ = _; rw [HN.out, HK.out, HJ.out]; simp [hs]
        have hsb : (s == (n : Int)) = false := by simpa using hs
        clear hs
        go_wp2
        go_roundw
        case rel => exact ⟨k + 1, by omega, by go_num, HF, hbk.alloc (by omega) _⟩
        case measure => simp [intOf]; omega
    · obtain rfl : k = ws.length := by omega
      have HF : Hid (nowN data ws n = secN data n) := nowN_none (by rw [HN.out, Nat.sub_self]; rfl)
      clear HN
      go_wp2_with (go_at_call 34; refine (sector_any b o data.length c n _ (by omega) hnl hc).mono ?_; rintro e w2 ⟨rfl, rfl⟩)
      refine (copyOf_any _ _ (secN data n) _ (bin_sec (HB.out.below (box_below hbk)) n) HL.out).mono ?_
      rintro e w3 ⟨g, rfl, hg1, hg2, hb3⟩
      have hb4 := (box_below hbk).trans (hb3.mono (by omega))
      have HG : Hid _ := hg2
      clear hg2
      go_wp2
      go_ret2
      refine ⟨⟨_, rfl, ?_⟩, hb4⟩
      rw [HF.out]
      exact ⟨g, rfl, by omega, HG.out, HL.out, secN_mem HB.out.2⟩
end Go.Proofs.Yteabacpalnamdaa
