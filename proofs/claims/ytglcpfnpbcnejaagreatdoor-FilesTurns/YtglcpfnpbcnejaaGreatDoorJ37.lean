/-
  The document's named, wrong, newest.
-/
import Derived.Test.YtglcpfnpbcnejaaGreatDoorJ36
import Derived.Test.YtglcpfnpbcnejaaGreatDoorJ21
import Derived.Test.YtglcpfnpbcnejaaGreatDoorJ35
import Derived.Test.YtglcpfnpbcnejaaGreatDoorJ27
import Derived.Test.YtglcpfnpbcnejaaGreatDoorJ25
namespace Go.Proofs.YtglcpfnpbcnejaaGreatDoor
open Go.RowKit Go.WideShapes Rm

theorem below_dwF {w w' : World} (h : Below w.drew.heap.size w.drew w') : Below w.heap.size w w' := ((Below.refl _ _).drew).trans h
def HeldP (w : World) (count : Int) (xs : List Nat) (e : Ending) (w' : World) : Prop :=
  (∃ x ls lv, (IsDir ltS x xs ∧ errK count (allPcs x.files) = 0) ∧ ls.map Prod.fst = x.files ∧ e = .returned (.tuple #[.agg #[.int .i64 x.gen, lv], .bool true]) ∧ FOwn w' w.heap.size lv ls ∧ Below w.heap.size w w')
  ∨ ((∀ x, IsDir ltS x xs → errK count (allPcs x.files) ≠ 0) ∧ e = .returned (.tuple #[.agg #[.int .i64 0, .slice none 0 0], .bool false]) ∧ Below w.heap.size w w')
set_option maxRecDepth 8000 in
set_option maxHeartbeats 4000000 in
theorem rheld_any (v : Value) (a : Nat) (count : Int) (data : List Nat) (ws : Puts) (w : World) (hd : DiskIn w v count data ws) (ho : Okay count data ws) (ha : ((a + 8 : Nat) : Int) ≤ count) (hcn : count ≤ 4096) (xs : List Nat) (hxs : slotK data ws a 8 = xs) :
    Calls Tryz.prog 84 #[v, .int .i64 (a : Int)] w fun e w' => HeldP w count xs e w' := by
  obtain ⟨p, c, q, m, rfl, _⟩ := hd.parts
  have HD : Hid (DiskIn w (.agg #[.int .i64 count, .slice p data.length c, .slice q ws.length m]) count data ws) := hd
  have HO : Hid (Okay count data ws) := ho
  have HA : Hid (((a + 8 : Nat) : Int) ≤ count ∧ count ≤ 4096) := ⟨ha, hcn⟩
  have HXS : Hid (slotK data ws a 8 = xs) := hxs
  have haI : (a : Int) ≤ 4096 := by omega
  have haI0 : (0 : Int) ≤ (a : Int) := by omega
  have hcI : count ≤ 4096 := hcn
  clear hd ho ha hxs hcn
  have HS0 : Hid (St w [(w.heap.size + 1, #[.int .i64 0, .slice none 0 0], 31), (w.heap.size, #[.int .i64 count, .slice p data.length c, .slice q ws.length m], 25)] ((w.alloc (.cells #[.int .i64 count, .slice p data.length c, .slice q ws.length m] 25)).alloc (.cells #[.int .i64 0, .slice none 0 0] 31)) (.slice none 0 0) []) := by
    have h1 := (St.start (w := w) (bx := []) (fun p hp => by simp at hp)).alloc #[.int .i64 count, .slice p data.length c, .slice q ws.length m] 25 (by decide)
    have h2 := h1.alloc #[.int .i64 0, .slice none 0 0] 31 (by decide)
    rw [show (w.alloc (.cells #[.int .i64 count, .slice p data.length c, .slice q ws.length m] 25)).heap.size = w.heap.size + 1 by simp] at h2
    exact h2
  go_enter Tryz.func84, Tryz.ntmps84
  go_wp2
  go_loopw [6, 7] (fun b i wr => ∃ k : Nat, k ≤ 8 ∧ i = .int .i64 (k : Int) ∧ (∀ c ∈ slotK data ws a k, c < 256) ∧ (slotK data ws a k).length = k * 128 ∧ ∃ bq bc, b = .slice bq (slotK data ws a k).length bc ∧ St w [(w.heap.size + 1, #[.int .i64 0, .slice none 0 0], 31), (w.heap.size, #[.int .i64 count, .slice p data.length c, .slice q ws.length m], 25)] wr (.slice bq (slotK data ws a k).length bc) (slotK data ws a k)) (fun _ i _ => 8 - (intOf i).toNat)
  case atStart => exact ⟨0, by omega, rfl, (fun c hc => by simp [slotK] at hc), rfl, none, 0, rfl, HS0.out⟩
  case round =>
    obtain ⟨k, hk, rfl, hby, hlen, bq, bc, rfl, hst⟩ := hrel
    obtain ⟨KL, hKL⟩ : ∃ KL, (slotK data ws a k).length = KL := ⟨_, rfl⟩
    rw [hKL] at hst ⊢
    have HKL : Hid ((slotK data ws a k).length = KL) := hKL
    have HBY : Hid ((∀ c ∈ slotK data ws a k, c < 256) ∧ (slotK data ws a k).length = k * 128) := ⟨hby, hlen⟩
    have HST : Hid (St w [(w.heap.size + 1, #[.int .i64 0, .slice none 0 0], 31), (w.heap.size, #[.int .i64 count, .slice p data.length c, .slice q ws.length m], 25)] wr (.slice bq KL bc) (slotK data ws a k)) := hst
    have c0 : wr.cell? ⟨w.heap.size, 0, none⟩ = some (.int .i64 count) := hst.cell (List.Mem.tail _ (List.Mem.head _)) 0
    have c1 : wr.cell? ⟨w.heap.size, 1, none⟩ = some (.slice p data.length c) := hst.cell (List.Mem.tail _ (List.Mem.head _)) 1
    have c2 : wr.cell? ⟨w.heap.size, 2, none⟩ = some (.slice q ws.length m) := hst.cell (List.Mem.tail _ (List.Mem.head _)) 2
    clear hby hlen hst HS0 hKL
    by_cases hk8 : k < 8
    · have hkI : (k : Int) < 8 := by omega
      have hkI0 : (0 : Int) ≤ (k : Int) := by omega
      have HK : Hid (k < 8) := hk8
      obtain ⟨j, hj⟩ : ∃ j : Nat, (a : Int) + (k : Int) = (j : Int) := ⟨a + k, by omega⟩
      have HJ : Hid (a + k = j) := by show _ = _; omega
      have hnw : Calls Tryz.prog 92 #[.agg #[.int .i64 count, .slice p data.length c, .slice q ws.length m], .int .i64 ((a : Int) + (k : Int))] wr fun e w' => (∃ v', e = .returned v' ∧ RowG w' wr.heap.size v' (nowN data ws j)) ∧ Below wr.heap.size wr w' := by
        rw [hj]
        exact rnow_any _ j count data ws wr (HD.out.below HST.out.bel) HO.out (by have := HA.out.1; have := HJ.out; omega)
      have hl : (nowN data ws j).length = 128 := nowN_len HO.out (by have := HA.out.1; have := HJ.out; omega)
      clear hk8 hk hj
      go_wp2_with fail
      refine hnw.mono ?_
      rintro e w2 ⟨⟨v', rfl, hrg⟩, hb2⟩
      have HN : Hid ((nowN data ws j).length = 128 ∧ (∀ c ∈ nowN data ws j, c < 256)) := ⟨hl, hrg.bytes⟩
      obtain ⟨vp, vc, rfl, hbi, hvc, hvm, hvn⟩ := hrg.form
      have HI2 : Hid (BIn w2 vp (nowN data ws j) ∧ (vp = none → vc = 0)) := ⟨hbi, hvn⟩
      rw [hl] at hvc ⊢
      have S2 := HST.out.call hb2
      have hsz2 := S2.size
      have HS2 : Hid (St w [(w.heap.size + 1, #[.int .i64 0, .slice none 0 0], 31), (w.heap.size, #[.int .i64 count, .slice p data.length c, .slice q ws.length m], 25)] w2 (.slice bq KL bc) (slotK data ws a k)) := S2
      obtain ⟨vg, vo, rfl⟩ : ∃ g o, vp = some ⟨g, o, none⟩ := by obtain ⟨g, o, h, _⟩ := hbi.1 (by omega); exact ⟨g, o, h⟩
      clear S2 hb2 hbi hl hnw HST c0 c1 c2 hrg hvn
      go_wp2_with (at_builtin; go_loud (refine wpList_append_bytes _ rfl _ _ rfl w.heap.size _ _ (nowN data ws j) (some ⟨vg, vo, none⟩) _ vc rfl rfl HN.out.1.symm HS2.out.own HI2.out.1 (fun h => by cases h) (by have := HBY.out.2; have := HN.out.1; have := HK.out; omega) hsz2 ?_); intro v3 w3 ho3 hg3; have S3 := HS2.out.app ho3 hg3; have HS3 : Hid (St w [(w.heap.size + 1, #[.int .i64 0, .slice none 0 0], 31), (w.heap.size, #[.int .i64 count, .slice p data.length c, .slice q ws.length m], 25)] w3 v3 (slotK data ws a k ++ nowN data ws j)) := S3; clear S3 ho3 hg3)
      go_roundw
      case rel =>
        have hj := HJ.out
        subst hj
        have hs3 := HS3.out.eq (slotK_snoc data ws a k).symm
        obtain ⟨q3, c3, rfl, _, _, _⟩ := own_form hs3.own
        refine ⟨k + 1, HK.out, by go_num, ?_, ?_, q3, c3, rfl, hs3⟩
        · intro c hc
          rw [slotK_snoc] at hc
          rcases List.mem_append.1 hc with hc | hc
          · exact HBY.out.1 c hc
          · exact HN.out.2 c hc
        · rw [slotK_snoc, List.length_append, HBY.out.2, HN.out.1]; omega
      case measure => have := HK.out; simp [intOf]; omega
    · obtain rfl : k = 8 := by omega
      have HBX : Hid (slotK data ws a 8 = xs) := HXS.out
      have hst := HST.out
      rw [HXS.out] at hst
      have hKX : KL = xs.length := by rw [← HKL.out, HXS.out]
      subst hKX
      obtain ⟨bq2, bc2, hbe, hbc, hbm, _⟩ := own_form hst.own
      obtain ⟨e1, _, e3⟩ := Value.slice.inj hbe
      subst e1 e3
      clear hbe HKL
      have hby : ∀ c ∈ xs, c < 256 := by rw [← HXS.out]; exact HBY.out.1
      have hrd := rRead_any bq bc xs wr (own_in hst.own hby) hbc hbm
      have HST8 : Hid (St w [(w.heap.size + 1, #[.int .i64 0, .slice none 0 0], 31), (w.heap.size, #[.int .i64 count, .slice p data.length c, .slice q ws.length m], 25)] wr (.slice bq xs.length bc) xs) := hst
      clear hst hbc hbm hby HBX hk8 HST c0 c1 c2
      obtain ⟨L, hLn⟩ : ∃ L, xs.length = L := ⟨_, rfl⟩
      rw [hLn] at hrd ⊢
      clear hLn
      go_wp2_with fail
      refine hrd.mono ?_
      rintro e w4 hpost
      rcases hpost with ⟨x, ls, lv, hdir, hls, rfl, hfo, hb4⟩ | ⟨hno, rfl, hb4⟩
      · obtain ⟨lq, lm, rfl, _, _, _⟩ := hfo.form
        have hm := hdir.1
        have hfin := hfo.files hm hls
        obtain ⟨_, hpl, hgood⟩ := errK_zero hm.pcs
        have bx := below_alloc w4 (.cells #[.int .i64 x.gen, .slice lq ls.length lm] 31)
        have hst4 := HST8.out.call (below_bt hb4 bx)
        have HFIN : Hid (FIn (w4.alloc (.cells #[.int .i64 x.gen, .slice lq ls.length lm] 31)) (.slice lq ls.length lm) x.files) := hfin.below bx
        have HBD : Hid ((w4.alloc (.cells #[.int .i64 x.gen, .slice lq ls.length lm] 31)).heap[w4.heap.size]? = some (.cells #[.int .i64 x.gen, .slice lq ls.length lm] 31 (0, 0))) := heap_alloc_new _ _
        have HRB : Hid ((w4.alloc (.cells #[.int .i64 x.gen, .slice lq ls.length lm] 31)).heap[w.heap.size + 1]? = some (.cells #[.int .i64 0, .slice none 0 0] 31 (0, 0))) := (hst4.box (w.heap.size + 1, #[.int .i64 0, .slice none 0 0], 31) (by simp)).1
        have HDB : Hid ((w4.alloc (.cells #[.int .i64 x.gen, .slice lq ls.length lm] 31)).heap[w.heap.size]? = some (.cells #[.int .i64 count, .slice p data.length c, .slice q ws.length m] 25 (0, 0))) := (hst4.box (w.heap.size, #[.int .i64 count, .slice p data.length c, .slice q ws.length m], 25) (by simp)).1
        have HBW : Hid (Below w.heap.size w (w4.alloc (.cells #[.int .i64 x.gen, .slice lq ls.length lm] 31))) := hst4.bel
        have HDR : Hid (IsDir ltS x xs ∧ ls.map Prod.fst = x.files) := ⟨hdir, hls⟩
        have HB8 : Hid (w.heap.size + 1 < wr.heap.size) := lt_heap (HST8.out.box (w.heap.size + 1, #[.int .i64 0, .slice none 0 0], 31) (by simp)).1
        obtain ⟨B8, hB8⟩ : ∃ B8, wr.heap.size = B8 := ⟨_, rfl⟩
        rw [hB8] at hfo HB8
        have HFO : Hid (FOwn (w4.alloc (.cells #[.int .i64 x.gen, .slice lq ls.length lm] 31)) B8 (.slice lq ls.length lm) ls) := hfo.below bx
        have HPL : Hid ((allPcs x.files).length ≤ 4096) := hpl
        obtain ⟨E, hE⟩ : ∃ E, errK count (allPcs x.files) = E := ⟨_, rfl⟩
        have HE : Hid (errK count (allPcs x.files) = E) := hE
        clear hB8 hdir hls hfo hb4 hm hfin hpl hgood bx hst4 hrd HST8 hE
        go_upto_region 7 with fail
        generalize w4.alloc (.cells #[.int .i64 x.gen, .slice lq ls.length lm] 31) = w5 at *
        generalize w4.heap.size = gX at *
        obtain ⟨gn, hgn⟩ : ∃ gn, x.gen = gn := ⟨_, rfl⟩
        have HGN : Hid (x.gen = gn) := hgn
        rw [hgn] at HBD ⊢
        clear hgn
        have HPC : Hid (∀ w', Below w5.heap.size w5 w' → Calls Tryz.prog 51 #[.agg #[.int .i64 gn, .slice lq ls.length lm]] w' fun e w'' => ∃ r, e = .returned r ∧ POwn w'' w'.heap.size r (allPcs x.files) ∧ Below w'.heap.size w' w'') := fun w' hb => rpieces_any _ x w' ⟨⟨_, by rw [HGN.out], HFIN.out.below hb⟩, by have h1 := HDR.out.1.1.lo; have h2 := HDR.out.1.1.hi; unfold wf64; omega⟩ (by have := HPL.out; omega)
        have HCK : Hid (∀ w' r, PIn w' r (allPcs x.files) → Calls Tryz.prog 90 #[.int .i64 count, r] w' fun e w'' => e = .returned (.int .i64 E) ∧ Below w'.heap.size w' w'') := fun w' r hr => by
          have h := Rm.rcheck_any count r (allPcs x.files) w' hr
          rw [HE.out] at h
          exact h
        have HKS : Hid (∀ w', Below w5.heap.size w5 w' → (w'.cell? ⟨w.heap.size, 0, none⟩ = some (.int .i64 count)) ∧ (w'.cell? ⟨gX, 0, none⟩ = some (.int .i64 gn) ∧ w'.cell? ⟨gX, 1, none⟩ = some (.slice lq ls.length lm)) ∧ Below w5.heap.size w5 w') := fun w' hb => by
          have h1 := (hb.block _ (lt_heap HDB.out)).trans HDB.out
          have h2 := (hb.block _ (lt_heap HBD.out)).trans HBD.out
          exact ⟨Lib.cell_of_heap h1 0, two_cells h2, hb⟩
        go_region_held3 (fun w' => (w'.cell? ⟨w.heap.size, 0, none⟩ = some (.int .i64 count)) ∧ (w'.cell? ⟨gX, 0, none⟩ = some (.int .i64 gn) ∧ w'.cell? ⟨gX, 1, none⟩ = some (.slice lq ls.length lm)) ∧ Below w5.heap.size w5 w')
          (with_reducible first | exact HKS.out _ (Below.refl _ _).drew | exact HKS.out _ (below_dwF hb6) | exact HKS.out _ (below_bt (below_dwF hb6) hb7) | assumption)
          (first
            | (go_at_call 51; refine (HPC.out _ (Below.refl _ _).drew).mono ?_; rintro e w6 ⟨r1, rfl, ho1, hb6⟩)
            | (go_at_call 90; refine (HCK.out _ _ (ho1.pin HFIN.out.wfp)).mono ?_; rintro e w7 ⟨rfl, hb7⟩)
            | fail)
        rename_i hh
        have HB7 : Hid (Below w5.heap.size w5 w7) := hh.2.2
        obtain ⟨x0, x1⟩ := hh.2.1
        have hrb := (HB7.out.block _ (lt_heap HRB.out)).trans HRB.out
        obtain ⟨d0, d1⟩ := two_cells hrb
        have f0 : w7.frozen? ⟨w.heap.size + 1, 0, none⟩ = false := by simp only [World.frozen?, hrb]; rfl
        have f1 : w7.frozen? ⟨w.heap.size + 1, 1, none⟩ = false := by simp only [World.frozen?, hrb]; rfl
        clear hrb hh hb6 hb7 ho1 HPC HCK HKS
        by_cases hE0 : E = 0
        · subst hE0
          go_wp2
          (try simp only [Exit.inBlock, Exit.then])
          refine bodyPost_ret (v := .tuple #[.agg #[.int .i64 gn, .slice lq ls.length lm], .bool true]) ?_ rfl (.inl ⟨x, ls, .slice lq ls.length lm, ⟨HDR.out.1, HE.out⟩, HDR.out.2, by rw [HGN.out], ?_, set2_below (below_bt HBW.out HB7.out) (by omega) _ _⟩)
          · rw [results_cell_tmp rfl]
            go_simp
          · exact ((HFO.out.below HB7.out).set2 HB8.out _ _).mono (by have := HB8.out; omega)
        · have hne : (E != 0) = true := by simpa using hE0
          have HNE : Hid (E ≠ 0) := hE0
          go_wp2
          (try simp only [Exit.inBlock, Exit.then])
          refine bodyPost_ret (v := .tuple #[.agg #[.int .i64 0, .slice none 0 0], .bool false]) ?_ rfl (.inr ⟨fun y hy he => ?_, rfl, set2_below (below_bt HBW.out HB7.out) (by omega) _ _⟩)
          · rw [results_cell_tmp rfl]
            go_simp
          · obtain rfl := isDir_only HDR.out.1 hy
            rw [HE.out] at he
            exact HNE.out he
      · have bx := below_alloc w4 (.cells #[.int .i64 0, .slice none 0 0] 31)
        have hst4 := HST8.out.call (below_bt hb4 bx)
        have hrb := (hst4.box (w.heap.size + 1, #[.int .i64 0, .slice none 0 0], 31) (by simp)).1
        have HRB : Hid ((w4.alloc (.cells #[.int .i64 0, .slice none 0 0] 31)).heap[w.heap.size + 1]? = some (.cells #[.int .i64 0, .slice none 0 0] 31 (0, 0))) := hrb
        have HB4 : Hid (Below w.heap.size w (w4.alloc (.cells #[.int .i64 0, .slice none 0 0] 31))) := hst4.bel
        have HNO : Hid (∀ x, ¬ IsDir ltS x xs) := hno
        clear hst4 hrb hno hb4 bx HST8 hrd
        go_upto_region 7 with fail
        generalize w4.alloc (.cells #[.int .i64 0, .slice none 0 0] 31) = w5 at *
        obtain ⟨d0, d1⟩ := two_cells HRB.out
        have f0 : w5.frozen? ⟨w.heap.size + 1, 0, none⟩ = false := by simp only [World.frozen?, HRB.out]; rfl
        have f1 : w5.frozen? ⟨w.heap.size + 1, 1, none⟩ = false := by simp only [World.frozen?, HRB.out]; rfl
        go_quiet (fail)
        go_wp2
        (try simp only [Exit.inBlock, Exit.then])
        refine bodyPost_ret (v := .tuple #[.agg #[.int .i64 0, .slice none 0 0], .bool false]) ?_ rfl (.inr ⟨fun y hy _ => HNO.out y hy, rfl, set2_below (below_drewN HB4.out _) (by omega) _ _⟩)
        · rw [results_cell_tmp rfl]
          go_simp
end Go.Proofs.YtglcpfnpbcnejaaGreatDoor
namespace Go.Proofs.YtglcpfnpbcnejaaGreatDoor
open Go.RowKit Go.WideShapes Rm

theorem rheld_some (v : Value) (a : Nat) (count : Int) (data : List Nat) (ws : Puts) (w : World) (hd : DiskIn w v count data ws) (ho : Okay count data ws) (ha : ((a + 8 : Nat) : Int) ≤ count) (hcn : count ≤ 4096) (x : DirV) (hs : SlotR ltS count (slotK data ws a 8) (some x)) :
    Calls Tryz.prog 84 #[v, .int .i64 (a : Int)] w fun e w' => ∃ ls lv, ls.map Prod.fst = x.files ∧ e = .returned (.tuple #[.agg #[.int .i64 x.gen, lv], .bool true]) ∧ FOwn w' w.heap.size lv ls ∧ Below w.heap.size w w' :=
  (rheld_any v a count data ws w hd ho ha hcn _ rfl).mono fun e w' h => by
    rcases h with ⟨y, ls, lv, h1, h2, h3, h4, h5⟩ | ⟨h1, h2, h3⟩
    · obtain rfl := isDir_only hs.1 h1.1
      exact ⟨ls, lv, h2, h3, h4, h5⟩
    · exact absurd hs.2 (h1 x hs.1)
theorem rheld_none (v : Value) (a : Nat) (count : Int) (data : List Nat) (ws : Puts) (w : World) (hd : DiskIn w v count data ws) (ho : Okay count data ws) (ha : ((a + 8 : Nat) : Int) ≤ count) (hcn : count ≤ 4096) (hs : SlotR ltS count (slotK data ws a 8) none) :
    Calls Tryz.prog 84 #[v, .int .i64 (a : Int)] w fun e w' => e = .returned (.tuple #[.agg #[.int .i64 0, .slice none 0 0], .bool false]) ∧ Below w.heap.size w w' :=
  (rheld_any v a count data ws w hd ho ha hcn _ rfl).mono fun e w' h => by
    rcases h with ⟨y, ls, lv, h1, h2, h3, h4, h5⟩ | ⟨h1, h2, h3⟩
    · exact absurd h1.2 (hs y h1.1)
    · exact ⟨h2, h3⟩
def RMountP (w : World) (r : Option (DirV × Int)) (n : Int) (e : Ending) (w' : World) : Prop :=
  match r with
  | some (x, at_) => ∃ ls lv, ls.map Prod.fst = x.files ∧ e = .returned (.tuple #[.agg #[.int .i64 x.gen, lv], .int .i64 at_, .int .i64 n]) ∧ FOwn w' w.heap.size lv ls ∧ Below w.heap.size w w'
  | none => e = .returned (.tuple #[.agg #[.int .i64 0, .slice none 0 0], .int .i64 0, .int .i64 n]) ∧ Below w.heap.size w w'
set_option maxRecDepth 8000 in
set_option maxHeartbeats 8000000 in
theorem rMounted_any (v : Value) (count : Int) (data : List Nat) (ws : Puts) (w : World) (hd : DiskIn w v count data ws) (r : Option (DirV × Int)) (n : Int) (hm : MountIs count data ws r n) :
    Calls Tryz.prog 48 #[v] w fun e w' => RMountP w r n e w' := by
  obtain ⟨p, c, q, m, rfl, _⟩ := hd.parts
  have hb0 : Below w.heap.size w ((w.alloc (.cells #[.int .i64 count, .slice p data.length c, .slice q ws.length m] 25)).alloc (.cells #[.int .i64 0, .slice none 0 0] 31)) := (below_alloc w _).alloc (by simp) _
  have hck := Go.Proofs.YtglcpfnpbcnejaaGreatDoor.rcheck_any _ count data ws _ (hd.below hb0)
  have HD : Hid (∀ w', Below w.heap.size w w' → DiskIn w' (.agg #[.int .i64 count, .slice p data.length c, .slice q ws.length m]) count data ws) := fun w' hb => hd.below hb
  have HDB0 : Hid (((w.alloc (.cells #[.int .i64 count, .slice p data.length c, .slice q ws.length m] 25)).alloc (.cells #[.int .i64 0, .slice none 0 0] 31)).heap[w.heap.size]? = some (.cells #[.int .i64 count, .slice p data.length c, .slice q ws.length m] 25 (0, 0))) := ((below_alloc _ _).block _ (by simp)).trans (heap_alloc_new w _)
  have HRB0 : Hid (((w.alloc (.cells #[.int .i64 count, .slice p data.length c, .slice q ws.length m] 25)).alloc (.cells #[.int .i64 0, .slice none 0 0] 31)).heap[w.heap.size + 1]? = some (.cells #[.int .i64 0, .slice none 0 0] 31 (0, 0))) := by
    have h := heap_alloc_new (w.alloc (.cells #[.int .i64 count, .slice p data.length c, .slice q ws.length m] 25)) (.cells #[.int .i64 0, .slice none 0 0] 31)
    rw [heap_size_alloc] at h
    exact h
  clear hd
  rcases hm with ⟨hno, rfl, rfl⟩ | ⟨hok, hc96, rfl, rfl⟩ | ⟨hok, hc96, a, b, ha, hb, hr, hn⟩
  · rw [errC_bad hno] at hck
    go_enter Tryz.func48, Tryz.ntmps48
    go_wp2_with fail
    refine hck.mono ?_
    rintro e w1 ⟨rfl, hb1⟩
    have HB1 : Hid (Below w.heap.size w w1) := below_bt hb0 hb1

    have HDB1 : Hid (w1.heap[w.heap.size]? = some (.cells #[.int .i64 count, .slice p data.length c, .slice q ws.length m] 25 (0, 0))) := (hb1.block _ (lt_heap HDB0.out)).trans HDB0.out
    have HRB1 : Hid (w1.heap[w.heap.size + 1]? = some (.cells #[.int .i64 0, .slice none 0 0] 31 (0, 0))) := (hb1.block _ (lt_heap HRB0.out)).trans HRB0.out

    clear hck hb0 hb1 HDB0 HRB0

    obtain ⟨d0, d1⟩ := two_cells HRB1.out
    have f0 : w1.frozen? ⟨w.heap.size + 1, 0, none⟩ = false := by simp only [World.frozen?, HRB1.out]; rfl
    have f1 : w1.frozen? ⟨w.heap.size + 1, 1, none⟩ = false := by simp only [World.frozen?, HRB1.out]; rfl
    go_wp2
    (try simp only [Exit.inBlock, Exit.then])
    refine bodyPost_ret (v := .tuple #[.agg #[.int .i64 0, .slice none 0 0], .int .i64 0, .int .i64 20]) ?_ rfl (show RMountP _ _ _ _ _ from ⟨rfl, set2_below HB1.out (by omega) _ _⟩)
    rw [results_cell_tmp2 rfl]
    go_simp
  · rw [errC_ok hok] at hck
    clear hok

    go_enter Tryz.func48, Tryz.ntmps48
    go_wp2_with fail
    refine hck.mono ?_
    rintro e w1 ⟨rfl, hb1⟩
    have HB1 : Hid (Below w.heap.size w w1) := below_bt hb0 hb1

    have HDB1 : Hid (w1.heap[w.heap.size]? = some (.cells #[.int .i64 count, .slice p data.length c, .slice q ws.length m] 25 (0, 0))) := (hb1.block _ (lt_heap HDB0.out)).trans HDB0.out
    have HRB1 : Hid (w1.heap[w.heap.size + 1]? = some (.cells #[.int .i64 0, .slice none 0 0] 31 (0, 0))) := (hb1.block _ (lt_heap HRB0.out)).trans HRB0.out

    clear hck hb0 hb1 HDB0 HRB0

    obtain ⟨d0, d1⟩ := two_cells HRB1.out
    have f0 : w1.frozen? ⟨w.heap.size + 1, 0, none⟩ = false := by simp only [World.frozen?, HRB1.out]; rfl
    have f1 : w1.frozen? ⟨w.heap.size + 1, 1, none⟩ = false := by simp only [World.frozen?, HRB1.out]; rfl
    have c0 : w1.cell? ⟨w.heap.size, 0, none⟩ = some (.int .i64 count) := Lib.cell_of_heap HDB1.out 0
    go_wp2
    (try simp only [Exit.inBlock, Exit.then])
    refine bodyPost_ret (v := .tuple #[.agg #[.int .i64 0, .slice none 0 0], .int .i64 0, .int .i64 40]) ?_ rfl (show RMountP _ _ _ _ _ from ⟨rfl, set2_below HB1.out (by omega) _ _⟩)
    rw [results_cell_tmp2 rfl]
    go_simp
  · rw [errC_ok hok] at hck
    have HOK : Hid (Okay count data ws) := hok
    have hcI : count ≤ 4096 := hok.hi
    have HC : Hid (96 ≤ count ∧ count ≤ 4096) := ⟨hc96, hok.hi⟩
    clear hok
    rcases a with _ | x
    · rcases b with _ | y
      · have hr2 : r = none := hr
        subst hr2
        obtain rfl : n = 40 := by simpa using hn
        clear hr hn
        go_enter Tryz.func48, Tryz.ntmps48
        go_wp2_with fail
        refine hck.mono ?_
        rintro e w1 ⟨rfl, hb1⟩
        have HB1 : Hid (Below w.heap.size w w1) := below_bt hb0 hb1

        have HDB1 : Hid (w1.heap[w.heap.size]? = some (.cells #[.int .i64 count, .slice p data.length c, .slice q ws.length m] 25 (0, 0))) := (hb1.block _ (lt_heap HDB0.out)).trans HDB0.out
        have HRB1 : Hid (w1.heap[w.heap.size + 1]? = some (.cells #[.int .i64 0, .slice none 0 0] 31 (0, 0))) := (hb1.block _ (lt_heap HRB0.out)).trans HRB0.out

        clear hck hb0 hb1 HDB0 HRB0
        obtain ⟨c0, c1, c2⟩ := three_cells HDB1.out
        go_wp2_with fail
        refine (rheld_none _ 0 count data ws w1 (HD.out _ HB1.out) HOK.out (by have := HC.out; omega) HC.out.2 ha).mono ?_
        rintro e w2 ⟨rfl, hb2⟩
        have bx2 := below_bt hb2 (below_alloc w2 (.cells #[.int .i64 0, .slice none 0 0] 31))
        have HB2 : Hid (Below w.heap.size w (w2.alloc (.cells #[.int .i64 0, .slice none 0 0] 31))) := below_bt HB1.out bx2
        have HXA : Hid ((w2.alloc (.cells #[.int .i64 0, .slice none 0 0] 31)).heap[w2.heap.size]? = some (.cells #[.int .i64 0, .slice none 0 0] 31 (0, 0))) := heap_alloc_new _ _

        have HDB2 : Hid ((w2.alloc (.cells #[.int .i64 0, .slice none 0 0] 31)).heap[w.heap.size]? = some (.cells #[.int .i64 count, .slice p data.length c, .slice q ws.length m] 25 (0, 0))) := (bx2.block _ (lt_heap HDB1.out)).trans HDB1.out
        have HRB2 : Hid ((w2.alloc (.cells #[.int .i64 0, .slice none 0 0] 31)).heap[w.heap.size + 1]? = some (.cells #[.int .i64 0, .slice none 0 0] 31 (0, 0))) := (bx2.block _ (lt_heap HRB1.out)).trans HRB1.out
        have HZ1 : Hid (w.heap.size + 1 < w1.heap.size) := lt_heap HRB1.out
        clear hb2 bx2 HDB1 HRB1 c0 c1 c2 ha
        obtain ⟨c0, c1, c2⟩ := three_cells HDB2.out
        go_wp2_with fail
        refine (rheld_none _ 8 count data ws (w2.alloc (.cells #[.int .i64 0, .slice none 0 0] 31)) (HD.out _ HB2.out) HOK.out (by have := HC.out; omega) HC.out.2 hb).mono ?_
        rintro e w3 ⟨rfl, hb3⟩
        have bx3 := below_bt hb3 (below_alloc w3 (.cells #[.int .i64 0, .slice none 0 0] 31))
        have HB3 : Hid (Below w.heap.size w (w3.alloc (.cells #[.int .i64 0, .slice none 0 0] 31))) := below_bt HB2.out bx3
        have HXB : Hid ((w3.alloc (.cells #[.int .i64 0, .slice none 0 0] 31)).heap[w3.heap.size]? = some (.cells #[.int .i64 0, .slice none 0 0] 31 (0, 0))) := heap_alloc_new _ _
        have HXA3 : Hid ((w3.alloc (.cells #[.int .i64 0, .slice none 0 0] 31)).heap[w2.heap.size]? = some (.cells #[.int .i64 0, .slice none 0 0] 31 (0, 0))) := (bx3.block _ (lt_heap HXA.out)).trans HXA.out

        have HDB3 : Hid ((w3.alloc (.cells #[.int .i64 0, .slice none 0 0] 31)).heap[w.heap.size]? = some (.cells #[.int .i64 count, .slice p data.length c, .slice q ws.length m] 25 (0, 0))) := (bx3.block _ (lt_heap HDB2.out)).trans HDB2.out
        have HRB3 : Hid ((w3.alloc (.cells #[.int .i64 0, .slice none 0 0] 31)).heap[w.heap.size + 1]? = some (.cells #[.int .i64 0, .slice none 0 0] 31 (0, 0))) := (bx3.block _ (lt_heap HRB2.out)).trans HRB2.out
        clear hb3 bx3 HXA HDB2 HRB2 c0 c1 c2 hb
        obtain ⟨a0, a1⟩ := two_cells HXA3.out
        obtain ⟨b0, b1⟩ := two_cells HXB.out

        obtain ⟨d0, d1⟩ := two_cells HRB3.out
        have f0 : (w3.alloc (.cells #[.int .i64 0, .slice none 0 0] 31)).frozen? ⟨w.heap.size + 1, 0, none⟩ = false := by simp only [World.frozen?, HRB3.out]; rfl
        have f1 : (w3.alloc (.cells #[.int .i64 0, .slice none 0 0] 31)).frozen? ⟨w.heap.size + 1, 1, none⟩ = false := by simp only [World.frozen?, HRB3.out]; rfl
        go_upto_region 8 with fail
        generalize (w3.alloc (.cells #[.int .i64 0, .slice none 0 0] 31)) = w4 at *
        generalize w2.heap.size = gA at *
        generalize w3.heap.size = gB at *
        go_wp2
        (try simp only [Exit.inBlock, Exit.then])
        refine bodyPost_ret (v := .tuple #[.agg #[.int .i64 0, .slice none 0 0], .int .i64 0, .int .i64 40]) ?_ rfl (show RMountP w none 40 _ _ from ⟨rfl, set2_below HB3.out (by omega) _ _⟩)
        rw [results_cell_tmp2 rfl]
        go_simp
      · have HMR : Hid (mountR none (some y) = some (y, 8)) := rfl
        have hr2 : r = some (y, 8) := hr.trans HMR.out
        subst hr2
        obtain rfl : n = 0 := by simpa using hn
        clear hr hn HMR
        go_enter Tryz.func48, Tryz.ntmps48
        go_wp2_with fail
        refine hck.mono ?_
        rintro e w1 ⟨rfl, hb1⟩
        have HB1 : Hid (Below w.heap.size w w1) := below_bt hb0 hb1

        have HDB1 : Hid (w1.heap[w.heap.size]? = some (.cells #[.int .i64 count, .slice p data.length c, .slice q ws.length m] 25 (0, 0))) := (hb1.block _ (lt_heap HDB0.out)).trans HDB0.out
        have HRB1 : Hid (w1.heap[w.heap.size + 1]? = some (.cells #[.int .i64 0, .slice none 0 0] 31 (0, 0))) := (hb1.block _ (lt_heap HRB0.out)).trans HRB0.out

        clear hck hb0 hb1 HDB0 HRB0
        obtain ⟨c0, c1, c2⟩ := three_cells HDB1.out
        go_wp2_with fail
        refine (rheld_none _ 0 count data ws w1 (HD.out _ HB1.out) HOK.out (by have := HC.out; omega) HC.out.2 ha).mono ?_
        rintro e w2 ⟨rfl, hb2⟩
        have bx2 := below_bt hb2 (below_alloc w2 (.cells #[.int .i64 0, .slice none 0 0] 31))
        have HB2 : Hid (Below w.heap.size w (w2.alloc (.cells #[.int .i64 0, .slice none 0 0] 31))) := below_bt HB1.out bx2
        have HXA : Hid ((w2.alloc (.cells #[.int .i64 0, .slice none 0 0] 31)).heap[w2.heap.size]? = some (.cells #[.int .i64 0, .slice none 0 0] 31 (0, 0))) := heap_alloc_new _ _

        have HDB2 : Hid ((w2.alloc (.cells #[.int .i64 0, .slice none 0 0] 31)).heap[w.heap.size]? = some (.cells #[.int .i64 count, .slice p data.length c, .slice q ws.length m] 25 (0, 0))) := (bx2.block _ (lt_heap HDB1.out)).trans HDB1.out
        have HRB2 : Hid ((w2.alloc (.cells #[.int .i64 0, .slice none 0 0] 31)).heap[w.heap.size + 1]? = some (.cells #[.int .i64 0, .slice none 0 0] 31 (0, 0))) := (bx2.block _ (lt_heap HRB1.out)).trans HRB1.out
        have HZ1 : Hid (w.heap.size + 1 < w1.heap.size) := lt_heap HRB1.out
        clear hb2 bx2 HDB1 HRB1 c0 c1 c2 ha
        obtain ⟨c0, c1, c2⟩ := three_cells HDB2.out
        go_wp2_with fail
        refine (rheld_some _ 8 count data ws (w2.alloc (.cells #[.int .i64 0, .slice none 0 0] 31)) (HD.out _ HB2.out) HOK.out (by have := HC.out; omega) HC.out.2 y hb).mono ?_
        rintro e w3 ⟨lb, vb, hlb, rfl, hfb, hb3⟩
        obtain ⟨bq, bm, rfl, _, _, _⟩ := hfb.form
        have bx3 := below_bt hb3 (below_alloc w3 (.cells #[.int .i64 y.gen, .slice bq lb.length bm] 31))
        have HB3 : Hid (Below w.heap.size w (w3.alloc (.cells #[.int .i64 y.gen, .slice bq lb.length bm] 31))) := below_bt HB2.out bx3
        have HXB : Hid ((w3.alloc (.cells #[.int .i64 y.gen, .slice bq lb.length bm] 31)).heap[w3.heap.size]? = some (.cells #[.int .i64 y.gen, .slice bq lb.length bm] 31 (0, 0))) := heap_alloc_new _ _
        have HXA3 : Hid ((w3.alloc (.cells #[.int .i64 y.gen, .slice bq lb.length bm] 31)).heap[w2.heap.size]? = some (.cells #[.int .i64 0, .slice none 0 0] 31 (0, 0))) := (bx3.block _ (lt_heap HXA.out)).trans HXA.out

        have HDB3 : Hid ((w3.alloc (.cells #[.int .i64 y.gen, .slice bq lb.length bm] 31)).heap[w.heap.size]? = some (.cells #[.int .i64 count, .slice p data.length c, .slice q ws.length m] 25 (0, 0))) := (bx3.block _ (lt_heap HDB2.out)).trans HDB2.out
        have HRB3 : Hid ((w3.alloc (.cells #[.int .i64 y.gen, .slice bq lb.length bm] 31)).heap[w.heap.size + 1]? = some (.cells #[.int .i64 0, .slice none 0 0] 31 (0, 0))) := (bx3.block _ (lt_heap HRB2.out)).trans HRB2.out
        have HFB : Hid (FOwn (w3.alloc (.cells #[.int .i64 y.gen, .slice bq lb.length bm] 31)) (w2.alloc (.cells #[.int .i64 0, .slice none 0 0] 31)).heap.size (.slice bq lb.length bm) lb ∧ lb.map Prod.fst = y.files) := ⟨hfb.below (below_alloc _ _), hlb⟩
        have HZB : Hid (w.heap.size + 1 < (w2.alloc (.cells #[.int .i64 0, .slice none 0 0] 31)).heap.size) := lt_heap HRB2.out
        clear hb3 bx3 HXA HDB2 HRB2 c0 c1 c2 hb hfb hlb
        obtain ⟨a0, a1⟩ := two_cells HXA3.out
        obtain ⟨b0, b1⟩ := two_cells HXB.out

        obtain ⟨d0, d1⟩ := two_cells HRB3.out
        have f0 : (w3.alloc (.cells #[.int .i64 y.gen, .slice bq lb.length bm] 31)).frozen? ⟨w.heap.size + 1, 0, none⟩ = false := by simp only [World.frozen?, HRB3.out]; rfl
        have f1 : (w3.alloc (.cells #[.int .i64 y.gen, .slice bq lb.length bm] 31)).frozen? ⟨w.heap.size + 1, 1, none⟩ = false := by simp only [World.frozen?, HRB3.out]; rfl
        go_upto_region 8 with fail
        generalize (w3.alloc (.cells #[.int .i64 y.gen, .slice bq lb.length bm] 31)) = w4 at *
        generalize w2.heap.size = gA at *
        generalize w3.heap.size = gB at *
        generalize (w2.alloc (.cells #[.int .i64 0, .slice none 0 0] 31)).heap.size = zB at *
        obtain ⟨gy, hgy⟩ : ∃ gy, y.gen = gy := ⟨_, rfl⟩
        have HGY : Hid (y.gen = gy) := hgy
        rw [hgy] at b0 ⊢
        go_wp2
        (try simp only [Exit.inBlock, Exit.then])
        refine bodyPost_ret (v := .tuple #[.agg #[.int .i64 gy, .slice bq lb.length bm], .int .i64 8, .int .i64 0]) ?_ rfl ?_
        · rw [results_cell_tmp2 rfl]
          go_simp
        · exact (show RMountP w (some (y, 8)) 0 _ _ from ⟨lb, .slice bq lb.length bm, HFB.out.2, by rw [HGY.out], (HFB.out.1.set2 HZB.out _ _).mono (by have := HZB.out; omega), set2_below HB3.out (by omega) _ _⟩)
    · rcases b with _ | y
      · have HMR : Hid (mountR (some x) none = some (x, 0)) := rfl
        have hr2 : r = some (x, 0) := hr.trans HMR.out
        subst hr2
        obtain rfl : n = 0 := by simpa using hn
        clear hr hn HMR
        go_enter Tryz.func48, Tryz.ntmps48
        go_wp2_with fail
        refine hck.mono ?_
        rintro e w1 ⟨rfl, hb1⟩
        have HB1 : Hid (Below w.heap.size w w1) := below_bt hb0 hb1

        have HDB1 : Hid (w1.heap[w.heap.size]? = some (.cells #[.int .i64 count, .slice p data.length c, .slice q ws.length m] 25 (0, 0))) := (hb1.block _ (lt_heap HDB0.out)).trans HDB0.out
        have HRB1 : Hid (w1.heap[w.heap.size + 1]? = some (.cells #[.int .i64 0, .slice none 0 0] 31 (0, 0))) := (hb1.block _ (lt_heap HRB0.out)).trans HRB0.out

        clear hck hb0 hb1 HDB0 HRB0
        obtain ⟨c0, c1, c2⟩ := three_cells HDB1.out
        go_wp2_with fail
        refine (rheld_some _ 0 count data ws w1 (HD.out _ HB1.out) HOK.out (by have := HC.out; omega) HC.out.2 x ha).mono ?_
        rintro e w2 ⟨la, va, hla, rfl, hfa, hb2⟩
        obtain ⟨aq, am, rfl, _, _, _⟩ := hfa.form
        have bx2 := below_bt hb2 (below_alloc w2 (.cells #[.int .i64 x.gen, .slice aq la.length am] 31))
        have HB2 : Hid (Below w.heap.size w (w2.alloc (.cells #[.int .i64 x.gen, .slice aq la.length am] 31))) := below_bt HB1.out bx2
        have HXA : Hid ((w2.alloc (.cells #[.int .i64 x.gen, .slice aq la.length am] 31)).heap[w2.heap.size]? = some (.cells #[.int .i64 x.gen, .slice aq la.length am] 31 (0, 0))) := heap_alloc_new _ _

        have HDB2 : Hid ((w2.alloc (.cells #[.int .i64 x.gen, .slice aq la.length am] 31)).heap[w.heap.size]? = some (.cells #[.int .i64 count, .slice p data.length c, .slice q ws.length m] 25 (0, 0))) := (bx2.block _ (lt_heap HDB1.out)).trans HDB1.out
        have HRB2 : Hid ((w2.alloc (.cells #[.int .i64 x.gen, .slice aq la.length am] 31)).heap[w.heap.size + 1]? = some (.cells #[.int .i64 0, .slice none 0 0] 31 (0, 0))) := (bx2.block _ (lt_heap HRB1.out)).trans HRB1.out
        have HFA : Hid (FOwn (w2.alloc (.cells #[.int .i64 x.gen, .slice aq la.length am] 31)) w1.heap.size (.slice aq la.length am) la ∧ la.map Prod.fst = x.files) := ⟨hfa.below (below_alloc _ _), hla⟩
        have HZ1 : Hid (w.heap.size + 1 < w1.heap.size) := lt_heap HRB1.out
        clear hb2 bx2 HDB1 HRB1 c0 c1 c2 ha hfa hla
        obtain ⟨c0, c1, c2⟩ := three_cells HDB2.out
        go_wp2_with fail
        refine (rheld_none _ 8 count data ws (w2.alloc (.cells #[.int .i64 x.gen, .slice aq la.length am] 31)) (HD.out _ HB2.out) HOK.out (by have := HC.out; omega) HC.out.2 hb).mono ?_
        rintro e w3 ⟨rfl, hb3⟩
        have bx3 := below_bt hb3 (below_alloc w3 (.cells #[.int .i64 0, .slice none 0 0] 31))
        have HB3 : Hid (Below w.heap.size w (w3.alloc (.cells #[.int .i64 0, .slice none 0 0] 31))) := below_bt HB2.out bx3
        have HXB : Hid ((w3.alloc (.cells #[.int .i64 0, .slice none 0 0] 31)).heap[w3.heap.size]? = some (.cells #[.int .i64 0, .slice none 0 0] 31 (0, 0))) := heap_alloc_new _ _
        have HXA3 : Hid ((w3.alloc (.cells #[.int .i64 0, .slice none 0 0] 31)).heap[w2.heap.size]? = some (.cells #[.int .i64 x.gen, .slice aq la.length am] 31 (0, 0))) := (bx3.block _ (lt_heap HXA.out)).trans HXA.out

        have HDB3 : Hid ((w3.alloc (.cells #[.int .i64 0, .slice none 0 0] 31)).heap[w.heap.size]? = some (.cells #[.int .i64 count, .slice p data.length c, .slice q ws.length m] 25 (0, 0))) := (bx3.block _ (lt_heap HDB2.out)).trans HDB2.out
        have HRB3 : Hid ((w3.alloc (.cells #[.int .i64 0, .slice none 0 0] 31)).heap[w.heap.size + 1]? = some (.cells #[.int .i64 0, .slice none 0 0] 31 (0, 0))) := (bx3.block _ (lt_heap HRB2.out)).trans HRB2.out
        have HFA3 : Hid (FOwn (w3.alloc (.cells #[.int .i64 0, .slice none 0 0] 31)) w1.heap.size (.slice aq la.length am) la) := HFA.out.1.below bx3
        clear hb3 bx3 HXA HDB2 HRB2 c0 c1 c2 hb
        obtain ⟨a0, a1⟩ := two_cells HXA3.out
        obtain ⟨b0, b1⟩ := two_cells HXB.out

        obtain ⟨d0, d1⟩ := two_cells HRB3.out
        have f0 : (w3.alloc (.cells #[.int .i64 0, .slice none 0 0] 31)).frozen? ⟨w.heap.size + 1, 0, none⟩ = false := by simp only [World.frozen?, HRB3.out]; rfl
        have f1 : (w3.alloc (.cells #[.int .i64 0, .slice none 0 0] 31)).frozen? ⟨w.heap.size + 1, 1, none⟩ = false := by simp only [World.frozen?, HRB3.out]; rfl
        go_upto_region 8 with fail
        generalize (w3.alloc (.cells #[.int .i64 0, .slice none 0 0] 31)) = w4 at *
        generalize w2.heap.size = gA at *
        generalize w3.heap.size = gB at *
        obtain ⟨gx, hgx⟩ : ∃ gx, x.gen = gx := ⟨_, rfl⟩
        have HGX : Hid (x.gen = gx) := hgx
        rw [hgx] at a0 ⊢
        go_wp2
        (try simp only [Exit.inBlock, Exit.then])
        refine bodyPost_ret (v := .tuple #[.agg #[.int .i64 gx, .slice aq la.length am], .int .i64 0, .int .i64 0]) ?_ rfl ?_
        · rw [results_cell_tmp2 rfl]
          go_simp
        · exact (show RMountP w (some (x, 0)) 0 _ _ from ⟨la, .slice aq la.length am, HFA.out.2, by rw [HGX.out], (HFA3.out.set2 HZ1.out _ _).mono (by have := HZ1.out; omega), set2_below HB3.out (by omega) _ _⟩)
      · by_cases hcmp : x.gen < y.gen
        · have HMR : Hid (mountR (some x) (some y) = some (y, 8)) := by show (if x.gen < y.gen then _ else _) = _; rw [if_pos hcmp]
          have hr2 : r = some (y, 8) := hr.trans HMR.out
          subst hr2
          obtain rfl : n = 0 := by simpa using hn
          clear hr hn HMR
          go_enter Tryz.func48, Tryz.ntmps48
          go_wp2_with fail
          refine hck.mono ?_
          rintro e w1 ⟨rfl, hb1⟩
          have HB1 : Hid (Below w.heap.size w w1) := below_bt hb0 hb1

          have HDB1 : Hid (w1.heap[w.heap.size]? = some (.cells #[.int .i64 count, .slice p data.length c, .slice q ws.length m] 25 (0, 0))) := (hb1.block _ (lt_heap HDB0.out)).trans HDB0.out
          have HRB1 : Hid (w1.heap[w.heap.size + 1]? = some (.cells #[.int .i64 0, .slice none 0 0] 31 (0, 0))) := (hb1.block _ (lt_heap HRB0.out)).trans HRB0.out

          clear hck hb0 hb1 HDB0 HRB0
          obtain ⟨c0, c1, c2⟩ := three_cells HDB1.out
          go_wp2_with fail
          refine (rheld_some _ 0 count data ws w1 (HD.out _ HB1.out) HOK.out (by have := HC.out; omega) HC.out.2 x ha).mono ?_
          rintro e w2 ⟨la, va, hla, rfl, hfa, hb2⟩
          obtain ⟨aq, am, rfl, _, _, _⟩ := hfa.form
          have bx2 := below_bt hb2 (below_alloc w2 (.cells #[.int .i64 x.gen, .slice aq la.length am] 31))
          have HB2 : Hid (Below w.heap.size w (w2.alloc (.cells #[.int .i64 x.gen, .slice aq la.length am] 31))) := below_bt HB1.out bx2
          have HXA : Hid ((w2.alloc (.cells #[.int .i64 x.gen, .slice aq la.length am] 31)).heap[w2.heap.size]? = some (.cells #[.int .i64 x.gen, .slice aq la.length am] 31 (0, 0))) := heap_alloc_new _ _

          have HDB2 : Hid ((w2.alloc (.cells #[.int .i64 x.gen, .slice aq la.length am] 31)).heap[w.heap.size]? = some (.cells #[.int .i64 count, .slice p data.length c, .slice q ws.length m] 25 (0, 0))) := (bx2.block _ (lt_heap HDB1.out)).trans HDB1.out
          have HRB2 : Hid ((w2.alloc (.cells #[.int .i64 x.gen, .slice aq la.length am] 31)).heap[w.heap.size + 1]? = some (.cells #[.int .i64 0, .slice none 0 0] 31 (0, 0))) := (bx2.block _ (lt_heap HRB1.out)).trans HRB1.out
          have HFA : Hid (FOwn (w2.alloc (.cells #[.int .i64 x.gen, .slice aq la.length am] 31)) w1.heap.size (.slice aq la.length am) la ∧ la.map Prod.fst = x.files) := ⟨hfa.below (below_alloc _ _), hla⟩
          have HZ1 : Hid (w.heap.size + 1 < w1.heap.size) := lt_heap HRB1.out
          clear hb2 bx2 HDB1 HRB1 c0 c1 c2 ha hfa hla
          obtain ⟨c0, c1, c2⟩ := three_cells HDB2.out
          go_wp2_with fail
          refine (rheld_some _ 8 count data ws (w2.alloc (.cells #[.int .i64 x.gen, .slice aq la.length am] 31)) (HD.out _ HB2.out) HOK.out (by have := HC.out; omega) HC.out.2 y hb).mono ?_
          rintro e w3 ⟨lb, vb, hlb, rfl, hfb, hb3⟩
          obtain ⟨bq, bm, rfl, _, _, _⟩ := hfb.form
          have bx3 := below_bt hb3 (below_alloc w3 (.cells #[.int .i64 y.gen, .slice bq lb.length bm] 31))
          have HB3 : Hid (Below w.heap.size w (w3.alloc (.cells #[.int .i64 y.gen, .slice bq lb.length bm] 31))) := below_bt HB2.out bx3
          have HXB : Hid ((w3.alloc (.cells #[.int .i64 y.gen, .slice bq lb.length bm] 31)).heap[w3.heap.size]? = some (.cells #[.int .i64 y.gen, .slice bq lb.length bm] 31 (0, 0))) := heap_alloc_new _ _
          have HXA3 : Hid ((w3.alloc (.cells #[.int .i64 y.gen, .slice bq lb.length bm] 31)).heap[w2.heap.size]? = some (.cells #[.int .i64 x.gen, .slice aq la.length am] 31 (0, 0))) := (bx3.block _ (lt_heap HXA.out)).trans HXA.out

          have HDB3 : Hid ((w3.alloc (.cells #[.int .i64 y.gen, .slice bq lb.length bm] 31)).heap[w.heap.size]? = some (.cells #[.int .i64 count, .slice p data.length c, .slice q ws.length m] 25 (0, 0))) := (bx3.block _ (lt_heap HDB2.out)).trans HDB2.out
          have HRB3 : Hid ((w3.alloc (.cells #[.int .i64 y.gen, .slice bq lb.length bm] 31)).heap[w.heap.size + 1]? = some (.cells #[.int .i64 0, .slice none 0 0] 31 (0, 0))) := (bx3.block _ (lt_heap HRB2.out)).trans HRB2.out
          have HFA3 : Hid (FOwn (w3.alloc (.cells #[.int .i64 y.gen, .slice bq lb.length bm] 31)) w1.heap.size (.slice aq la.length am) la) := HFA.out.1.below bx3
          have HFB : Hid (FOwn (w3.alloc (.cells #[.int .i64 y.gen, .slice bq lb.length bm] 31)) (w2.alloc (.cells #[.int .i64 x.gen, .slice aq la.length am] 31)).heap.size (.slice bq lb.length bm) lb ∧ lb.map Prod.fst = y.files) := ⟨hfb.below (below_alloc _ _), hlb⟩
          have HZB : Hid (w.heap.size + 1 < (w2.alloc (.cells #[.int .i64 x.gen, .slice aq la.length am] 31)).heap.size) := lt_heap HRB2.out
          clear hb3 bx3 HXA HDB2 HRB2 c0 c1 c2 hb hfb hlb
          obtain ⟨a0, a1⟩ := two_cells HXA3.out
          obtain ⟨b0, b1⟩ := two_cells HXB.out

          obtain ⟨d0, d1⟩ := two_cells HRB3.out
          have f0 : (w3.alloc (.cells #[.int .i64 y.gen, .slice bq lb.length bm] 31)).frozen? ⟨w.heap.size + 1, 0, none⟩ = false := by simp only [World.frozen?, HRB3.out]; rfl
          have f1 : (w3.alloc (.cells #[.int .i64 y.gen, .slice bq lb.length bm] 31)).frozen? ⟨w.heap.size + 1, 1, none⟩ = false := by simp only [World.frozen?, HRB3.out]; rfl
          go_upto_region 8 with fail
          generalize (w3.alloc (.cells #[.int .i64 y.gen, .slice bq lb.length bm] 31)) = w4 at *
          generalize w2.heap.size = gA at *
          generalize w3.heap.size = gB at *
          generalize (w2.alloc (.cells #[.int .i64 x.gen, .slice aq la.length am] 31)).heap.size = zB at *
          obtain ⟨gx, hgx⟩ : ∃ gx, x.gen = gx := ⟨_, rfl⟩
          have HGX : Hid (x.gen = gx) := hgx
          rw [hgx] at a0 ⊢
          obtain ⟨gy, hgy⟩ : ∃ gy, y.gen = gy := ⟨_, rfl⟩
          have HGY : Hid (y.gen = gy) := hgy
          rw [hgy] at b0 ⊢
          rw [hgx, hgy] at hcmp
          have hge : ¬ gy ≤ gx := by omega
          have hgd : decide (gy ≤ gx) = false := by simpa using hge
          go_wp2
          (try simp only [Exit.inBlock, Exit.then])
          refine bodyPost_ret (v := .tuple #[.agg #[.int .i64 gy, .slice bq lb.length bm], .int .i64 8, .int .i64 0]) ?_ rfl ?_
          · rw [results_cell_tmp2 rfl]
            go_simp
          · exact (show RMountP w (some (y, 8)) 0 _ _ from ⟨lb, .slice bq lb.length bm, HFB.out.2, by rw [HGY.out], (HFB.out.1.set2 HZB.out _ _).mono (by have := HZB.out; omega), set2_below HB3.out (by omega) _ _⟩)
        · have HMR : Hid (mountR (some x) (some y) = some (x, 0)) := by show (if x.gen < y.gen then _ else _) = _; rw [if_neg hcmp]
          have hr2 : r = some (x, 0) := hr.trans HMR.out
          subst hr2
          obtain rfl : n = 0 := by simpa using hn
          clear hr hn HMR
          go_enter Tryz.func48, Tryz.ntmps48
          go_wp2_with fail
          refine hck.mono ?_
          rintro e w1 ⟨rfl, hb1⟩
          have HB1 : Hid (Below w.heap.size w w1) := below_bt hb0 hb1

          have HDB1 : Hid (w1.heap[w.heap.size]? = some (.cells #[.int .i64 count, .slice p data.length c, .slice q ws.length m] 25 (0, 0))) := (hb1.block _ (lt_heap HDB0.out)).trans HDB0.out
          have HRB1 : Hid (w1.heap[w.heap.size + 1]? = some (.cells #[.int .i64 0, .slice none 0 0] 31 (0, 0))) := (hb1.block _ (lt_heap HRB0.out)).trans HRB0.out

          clear hck hb0 hb1 HDB0 HRB0
          obtain ⟨c0, c1, c2⟩ := three_cells HDB1.out
          go_wp2_with fail
          refine (rheld_some _ 0 count data ws w1 (HD.out _ HB1.out) HOK.out (by have := HC.out; omega) HC.out.2 x ha).mono ?_
          rintro e w2 ⟨la, va, hla, rfl, hfa, hb2⟩
          obtain ⟨aq, am, rfl, _, _, _⟩ := hfa.form
          have bx2 := below_bt hb2 (below_alloc w2 (.cells #[.int .i64 x.gen, .slice aq la.length am] 31))
          have HB2 : Hid (Below w.heap.size w (w2.alloc (.cells #[.int .i64 x.gen, .slice aq la.length am] 31))) := below_bt HB1.out bx2
          have HXA : Hid ((w2.alloc (.cells #[.int .i64 x.gen, .slice aq la.length am] 31)).heap[w2.heap.size]? = some (.cells #[.int .i64 x.gen, .slice aq la.length am] 31 (0, 0))) := heap_alloc_new _ _

          have HDB2 : Hid ((w2.alloc (.cells #[.int .i64 x.gen, .slice aq la.length am] 31)).heap[w.heap.size]? = some (.cells #[.int .i64 count, .slice p data.length c, .slice q ws.length m] 25 (0, 0))) := (bx2.block _ (lt_heap HDB1.out)).trans HDB1.out
          have HRB2 : Hid ((w2.alloc (.cells #[.int .i64 x.gen, .slice aq la.length am] 31)).heap[w.heap.size + 1]? = some (.cells #[.int .i64 0, .slice none 0 0] 31 (0, 0))) := (bx2.block _ (lt_heap HRB1.out)).trans HRB1.out
          have HFA : Hid (FOwn (w2.alloc (.cells #[.int .i64 x.gen, .slice aq la.length am] 31)) w1.heap.size (.slice aq la.length am) la ∧ la.map Prod.fst = x.files) := ⟨hfa.below (below_alloc _ _), hla⟩
          have HZ1 : Hid (w.heap.size + 1 < w1.heap.size) := lt_heap HRB1.out
          clear hb2 bx2 HDB1 HRB1 c0 c1 c2 ha hfa hla
          obtain ⟨c0, c1, c2⟩ := three_cells HDB2.out
          go_wp2_with fail
          refine (rheld_some _ 8 count data ws (w2.alloc (.cells #[.int .i64 x.gen, .slice aq la.length am] 31)) (HD.out _ HB2.out) HOK.out (by have := HC.out; omega) HC.out.2 y hb).mono ?_
          rintro e w3 ⟨lb, vb, hlb, rfl, hfb, hb3⟩
          obtain ⟨bq, bm, rfl, _, _, _⟩ := hfb.form
          have bx3 := below_bt hb3 (below_alloc w3 (.cells #[.int .i64 y.gen, .slice bq lb.length bm] 31))
          have HB3 : Hid (Below w.heap.size w (w3.alloc (.cells #[.int .i64 y.gen, .slice bq lb.length bm] 31))) := below_bt HB2.out bx3
          have HXB : Hid ((w3.alloc (.cells #[.int .i64 y.gen, .slice bq lb.length bm] 31)).heap[w3.heap.size]? = some (.cells #[.int .i64 y.gen, .slice bq lb.length bm] 31 (0, 0))) := heap_alloc_new _ _
          have HXA3 : Hid ((w3.alloc (.cells #[.int .i64 y.gen, .slice bq lb.length bm] 31)).heap[w2.heap.size]? = some (.cells #[.int .i64 x.gen, .slice aq la.length am] 31 (0, 0))) := (bx3.block _ (lt_heap HXA.out)).trans HXA.out

          have HDB3 : Hid ((w3.alloc (.cells #[.int .i64 y.gen, .slice bq lb.length bm] 31)).heap[w.heap.size]? = some (.cells #[.int .i64 count, .slice p data.length c, .slice q ws.length m] 25 (0, 0))) := (bx3.block _ (lt_heap HDB2.out)).trans HDB2.out
          have HRB3 : Hid ((w3.alloc (.cells #[.int .i64 y.gen, .slice bq lb.length bm] 31)).heap[w.heap.size + 1]? = some (.cells #[.int .i64 0, .slice none 0 0] 31 (0, 0))) := (bx3.block _ (lt_heap HRB2.out)).trans HRB2.out
          have HFA3 : Hid (FOwn (w3.alloc (.cells #[.int .i64 y.gen, .slice bq lb.length bm] 31)) w1.heap.size (.slice aq la.length am) la) := HFA.out.1.below bx3
          have HFB : Hid (FOwn (w3.alloc (.cells #[.int .i64 y.gen, .slice bq lb.length bm] 31)) (w2.alloc (.cells #[.int .i64 x.gen, .slice aq la.length am] 31)).heap.size (.slice bq lb.length bm) lb ∧ lb.map Prod.fst = y.files) := ⟨hfb.below (below_alloc _ _), hlb⟩
          have HZB : Hid (w.heap.size + 1 < (w2.alloc (.cells #[.int .i64 x.gen, .slice aq la.length am] 31)).heap.size) := lt_heap HRB2.out
          clear hb3 bx3 HXA HDB2 HRB2 c0 c1 c2 hb hfb hlb
          obtain ⟨a0, a1⟩ := two_cells HXA3.out
          obtain ⟨b0, b1⟩ := two_cells HXB.out

          obtain ⟨d0, d1⟩ := two_cells HRB3.out
          have f0 : (w3.alloc (.cells #[.int .i64 y.gen, .slice bq lb.length bm] 31)).frozen? ⟨w.heap.size + 1, 0, none⟩ = false := by simp only [World.frozen?, HRB3.out]; rfl
          have f1 : (w3.alloc (.cells #[.int .i64 y.gen, .slice bq lb.length bm] 31)).frozen? ⟨w.heap.size + 1, 1, none⟩ = false := by simp only [World.frozen?, HRB3.out]; rfl
          go_upto_region 8 with fail
          generalize (w3.alloc (.cells #[.int .i64 y.gen, .slice bq lb.length bm] 31)) = w4 at *
          generalize w2.heap.size = gA at *
          generalize w3.heap.size = gB at *
          generalize (w2.alloc (.cells #[.int .i64 x.gen, .slice aq la.length am] 31)).heap.size = zB at *
          obtain ⟨gx, hgx⟩ : ∃ gx, x.gen = gx := ⟨_, rfl⟩
          have HGX : Hid (x.gen = gx) := hgx
          rw [hgx] at a0 ⊢
          obtain ⟨gy, hgy⟩ : ∃ gy, y.gen = gy := ⟨_, rfl⟩
          have HGY : Hid (y.gen = gy) := hgy
          rw [hgy] at b0 ⊢
          rw [hgx, hgy] at hcmp
          have hge : gy ≤ gx := by omega
          have hgd : decide (gy ≤ gx) = true := by simpa using hge
          go_wp2
          (try simp only [Exit.inBlock, Exit.then])
          refine bodyPost_ret (v := .tuple #[.agg #[.int .i64 gx, .slice aq la.length am], .int .i64 0, .int .i64 0]) ?_ rfl ?_
          · rw [results_cell_tmp2 rfl]
            go_simp
          · exact (show RMountP w (some (x, 0)) 0 _ _ from ⟨la, .slice aq la.length am, HFA.out.2, by rw [HGX.out], (HFA3.out.set2 HZ1.out _ _).mono (by have := HZ1.out; omega), set2_below HB3.out (by omega) _ _⟩)
end Go.Proofs.YtglcpfnpbcnejaaGreatDoor
namespace Go.Proofs.YtglcpfnpbcnejaaGreatDoor
open Go.RowKit Go.WideShapes Rm

def RMtP (w : World) (r : Option (DirV × Int)) (n : Int) (e : Ending) (w' : World) : Prop :=
  match r with
  | some (x, _) => ∃ ls lv, ls.map Prod.fst = x.files ∧ e = .returned (.tuple #[.agg #[.int .i64 x.gen, lv], .int .i64 n]) ∧ FOwn w' w.heap.size lv ls ∧ Below w.heap.size w w'
  | none => e = .returned (.tuple #[.agg #[.int .i64 0, .slice none 0 0], .int .i64 n]) ∧ Below w.heap.size w w'
set_option maxRecDepth 8000 in
set_option maxHeartbeats 4000000 in
theorem rMount_any (v : Value) (count : Int) (data : List Nat) (ws : Puts) (w : World) (hd : DiskIn w v count data ws) (r : Option (DirV × Int)) (n : Int) (hm : MountIs count data ws r n) :
    Calls Tryz.prog 22 #[v] w fun e w' => RMtP w r n e w' := by
  obtain ⟨p, c, q, m, rfl, _⟩ := hd.parts
  have hb0 : Below w.heap.size w ((w.alloc (.cells #[.int .i64 count, .slice p data.length c, .slice q ws.length m] 25)).alloc (.cells #[.int .i64 0, .slice none 0 0] 31)) := (below_alloc w _).alloc (by simp) _
  have hmt := rMounted_any _ count data ws _ (hd.below hb0) r n hm
  have HRB0 : Hid (((w.alloc (.cells #[.int .i64 count, .slice p data.length c, .slice q ws.length m] 25)).alloc (.cells #[.int .i64 0, .slice none 0 0] 31)).heap[w.heap.size + 1]? = some (.cells #[.int .i64 0, .slice none 0 0] 31 (0, 0))) := by
    have h := heap_alloc_new (w.alloc (.cells #[.int .i64 count, .slice p data.length c, .slice q ws.length m] 25)) (.cells #[.int .i64 0, .slice none 0 0] 31)
    rw [heap_size_alloc] at h
    exact h
  have HDB0 : Hid (((w.alloc (.cells #[.int .i64 count, .slice p data.length c, .slice q ws.length m] 25)).alloc (.cells #[.int .i64 0, .slice none 0 0] 31)).heap[w.heap.size]? = some (.cells #[.int .i64 count, .slice p data.length c, .slice q ws.length m] 25 (0, 0))) := ((below_alloc _ _).block _ (by simp)).trans (heap_alloc_new w _)
  obtain ⟨c0, c1, c2⟩ := three_cells HDB0.out
  have HZ : Hid (((w.alloc (.cells #[.int .i64 count, .slice p data.length c, .slice q ws.length m] 25)).alloc (.cells #[.int .i64 0, .slice none 0 0] 31)).heap.size = w.heap.size + 1 + 1) := by show _ = _; simp
  clear hd hm
  rcases r with _ | ⟨x, at_⟩
  · skip
    go_enter Tryz.func22, Tryz.ntmps22
    go_wp2_with fail
    refine hmt.mono ?_
    rintro e w1 ⟨rfl, hb1⟩
    have bx := below_bt hb1 (below_alloc w1 (.cells #[.int .i64 0, .slice none 0 0] 31))
    have HB1 : Hid (Below w.heap.size w (w1.alloc (.cells #[.int .i64 0, .slice none 0 0] 31))) := below_bt hb0 bx
    have HRB : Hid ((w1.alloc (.cells #[.int .i64 0, .slice none 0 0] 31)).heap[w.heap.size + 1]? = some (.cells #[.int .i64 0, .slice none 0 0] 31 (0, 0))) := (bx.block _ (lt_heap HRB0.out)).trans HRB0.out
    have HXB : Hid ((w1.alloc (.cells #[.int .i64 0, .slice none 0 0] 31)).heap[w1.heap.size]? = some (.cells #[.int .i64 0, .slice none 0 0] 31 (0, 0))) := heap_alloc_new _ _
    clear hmt hb0 hb1 bx HRB0 HDB0 c0 c1 c2
    obtain ⟨x0, x1⟩ := two_cells HXB.out
    obtain ⟨d0, d1⟩ := two_cells HRB.out
    have f0 : (w1.alloc (.cells #[.int .i64 0, .slice none 0 0] 31)).frozen? ⟨w.heap.size + 1, 0, none⟩ = false := by simp only [World.frozen?, HRB.out]; rfl
    have f1 : (w1.alloc (.cells #[.int .i64 0, .slice none 0 0] 31)).frozen? ⟨w.heap.size + 1, 1, none⟩ = false := by simp only [World.frozen?, HRB.out]; rfl
    go_upto_region 2 with fail
    generalize (w1.alloc (.cells #[.int .i64 0, .slice none 0 0] 31)) = w4 at *
    generalize w1.heap.size = gA at *
    go_wp2
    (try simp only [Exit.inBlock, Exit.then])
    refine bodyPost_ret (v := .tuple #[.agg #[.int .i64 0, .slice none 0 0], .int .i64 n]) ?_ rfl (show RMtP w none n _ _ from ⟨rfl, set2_below HB1.out (by omega) _ _⟩)
    rw [results_cell_tmp rfl]
    go_simp
  · skip
    go_enter Tryz.func22, Tryz.ntmps22
    go_wp2_with fail
    refine hmt.mono ?_
    rintro e w1 ⟨ls, lv, hls, rfl, hfo, hb1⟩
    obtain ⟨lq, lm, rfl, _, _, _⟩ := hfo.form
    rw [HZ.out] at hfo
    have bx := below_bt hb1 (below_alloc w1 (.cells #[.int .i64 x.gen, .slice lq ls.length lm] 31))
    have HB1 : Hid (Below w.heap.size w (w1.alloc (.cells #[.int .i64 x.gen, .slice lq ls.length lm] 31))) := below_bt hb0 bx
    have HRB : Hid ((w1.alloc (.cells #[.int .i64 x.gen, .slice lq ls.length lm] 31)).heap[w.heap.size + 1]? = some (.cells #[.int .i64 0, .slice none 0 0] 31 (0, 0))) := (bx.block _ (lt_heap HRB0.out)).trans HRB0.out
    have HXB : Hid ((w1.alloc (.cells #[.int .i64 x.gen, .slice lq ls.length lm] 31)).heap[w1.heap.size]? = some (.cells #[.int .i64 x.gen, .slice lq ls.length lm] 31 (0, 0))) := heap_alloc_new _ _
    have HFO : Hid (FOwn (w1.alloc (.cells #[.int .i64 x.gen, .slice lq ls.length lm] 31)) (w.heap.size + 1 + 1) (.slice lq ls.length lm) ls ∧ ls.map Prod.fst = x.files) := ⟨hfo.below (below_alloc _ _), hls⟩
    clear hmt hb0 hb1 bx HRB0 HDB0 c0 c1 c2 hfo hls
    obtain ⟨x0, x1⟩ := two_cells HXB.out
    obtain ⟨d0, d1⟩ := two_cells HRB.out
    have f0 : (w1.alloc (.cells #[.int .i64 x.gen, .slice lq ls.length lm] 31)).frozen? ⟨w.heap.size + 1, 0, none⟩ = false := by simp only [World.frozen?, HRB.out]; rfl
    have f1 : (w1.alloc (.cells #[.int .i64 x.gen, .slice lq ls.length lm] 31)).frozen? ⟨w.heap.size + 1, 1, none⟩ = false := by simp only [World.frozen?, HRB.out]; rfl
    go_upto_region 2 with fail
    generalize (w1.alloc (.cells #[.int .i64 x.gen, .slice lq ls.length lm] 31)) = w4 at *
    generalize w1.heap.size = gA at *
    obtain ⟨gx, hgx⟩ : ∃ gx, x.gen = gx := ⟨_, rfl⟩
    have HGX : Hid (x.gen = gx) := hgx
    rw [hgx] at x0 ⊢
    go_wp2
    (try simp only [Exit.inBlock, Exit.then])
    refine bodyPost_ret (v := .tuple #[.agg #[.int .i64 gx, .slice lq ls.length lm], .int .i64 n]) ?_ rfl (show RMtP w (some (x, at_)) n _ _ from ⟨ls, .slice lq ls.length lm, HFO.out.2, by rw [HGX.out], (HFO.out.1.set2 (by omega) _ _).mono (by omega), set2_below HB1.out (by omega) _ _⟩)
    rw [results_cell_tmp rfl]
    go_simp
set_option maxRecDepth 8000 in
set_option maxHeartbeats 2000000 in
theorem rplace_any (gen : Int) (v : Value) (l : List FileV) (name : ByteArray) (w : World) (hf : FIn w v l) :
    Calls Tryz.prog 86 #[.agg #[.int .i64 gen, v], .string name] w fun e w' => e = .returned (.int .i64 (findI l name)) ∧ Below w.heap.size w w' := by
  obtain ⟨q, c, rfl, hq, hlc, hcm, _⟩ := hf.lies
  unfold maxLen at hcm
  obtain ⟨L, hL⟩ : ∃ L, l.length = L := ⟨_, rfl⟩
  have HL : Hid (l.length = L) := hL
  rw [hL] at hlc ⊢
  clear hL hf
  have HQ : Hid (FilesIn (w.alloc (.cells #[.int .i64 gen, .slice q L c] 31)) q l) := hq.below (below_alloc w _)
  have HB0 : Hid (Below w.heap.size w (w.alloc (.cells #[.int .i64 gen, .slice q L c] 31))) := below_alloc w _
  have HXB : Hid ((w.alloc (.cells #[.int .i64 gen, .slice q L c] 31)).heap[w.heap.size]? = some (.cells #[.int .i64 gen, .slice q L c] 31 (0, 0))) := heap_alloc_new _ _
  clear hq
  go_enter Tryz.func86, Tryz.ntmps86
  go_upto_region 1 with fail
  obtain ⟨x0, x1⟩ := two_cells HXB.out
  generalize w.alloc (.cells #[.int .i64 gen, .slice q L c] 31) = w0 at *
  go_wp2
  go_loop [5] (fun i => ∃ k : Nat, k ≤ L ∧ i = .int .i64 (k : Int) ∧ (∀ j, j < k → (l.getD j zeroF).name ≠ name)) (fun i => L - (intOf i).toNat)
  case atStart => exact ⟨0, by omega, rfl, fun j hj => absurd hj (by omega)⟩
  case round =>
    obtain ⟨k, hk, rfl, hz⟩ := hrel
    have HZ : Hid (∀ j, j < k → (l.getD j zeroF).name ≠ name) := hz
    clear hz
    by_cases hkl : k < L
    · have hkI : (k : Int) < (L : Int) := by omega
      have hkl2 : k < l.length := by have := HL.out; omega
      obtain ⟨fb, fo, pv, hfe, y0, y1, y2, hpin⟩ := HQ.out.file hkl2
      subst hfe
      have HKL : Hid (k < L) := hkl
      have HHIT : Hid ((l.getD k zeroF).name = name → findI l name = (k : Int)) := fun h => (findI_hit hkl2 h HZ.out).2
      have HNEXT : Hid ((l.getD k zeroF).name ≠ name → ∀ j, j < k + 1 → (l.getD j zeroF).name ≠ name) := fun h j hj => by
        rcases Nat.lt_or_ge j k with h' | h'
        · exact HZ.out j h'
        · obtain rfl : j = k := by omega
          exact h
      clear y1 y2 hkl hkl2 hk hpin HZ
      generalize l.getD k zeroF = f at *
      obtain ⟨fnm, fsz, fpc⟩ := f
      simp only at y0 HHIT HNEXT
      by_cases g : fnm = name
      · have HH : Hid (findI l name = (k : Int)) := HHIT.out g
        subst g
        clear HHIT HNEXT
        go_wp2
        go_ret
        exact ⟨by rw [HH.out]; rfl, HB0.out⟩
      · have HNX : Hid _ := HNEXT.out g
        have hne2 : (fnm.toList == name.toList) = false := by rw [eq_strF]; simpa using g
        clear HHIT HNEXT
        go_wp2
        go_round
        case rel => exact ⟨k + 1, HKL.out, by go_num, HNX.out⟩
        case measure => have := HKL.out; simp [intOf]; omega
    · have hkI : (L : Int) ≤ (k : Int) := by omega
      obtain rfl : k = L := by omega
      have HM : Hid (findI l name = -1) := (findI_miss (fun j hj => HZ.out j (by have := HL.out; omega))).2
      clear HZ hkl
      go_wp2
      go_ret
      exact ⟨by rw [HM.out]; rfl, HB0.out⟩
end Go.Proofs.YtglcpfnpbcnejaaGreatDoor
namespace Go.Proofs.YtglcpfnpbcnejaaGreatDoor
open Go.RowKit Go.WideShapes Rm

set_option maxRecDepth 8000 in
set_option maxHeartbeats 1000000 in
theorem rnamed_any (q : Option Addr) (n c : Nat) (l : List CV) (name : ByteArray) (w : World) (hq : CsIn w q l) (hn0 : n = l.length) (hnb : (n : Int) ≤ 9223372036854775807) (r : Bool) (hr : namedC l name = r) :
    Calls Tryz.prog 50 #[.slice q n c, .string name] w fun e w' => e = .returned (.bool r) ∧ w' = w := by
  have HQ : Hid (CsIn w q l ∧ n = l.length) := ⟨hq, hn0⟩
  have HR : Hid (namedC l name = r) := hr
  clear hq hn0 hr
  go_enter Tryz.func50, Tryz.ntmps50
  go_wp2
  go_loop [5] (fun i => ∃ k : Nat, k ≤ n ∧ i = .int .i64 (k : Int) ∧ ∀ j, j < k → (l.getD j zeroCV).key ≠ name) (fun i => n - (intOf i).toNat)
  case atStart => exact ⟨0, by omega, rfl, fun j hj => absurd hj (by omega)⟩
  case round =>
    obtain ⟨k, hk, rfl, hno⟩ := hrel
    have HNO : Hid (∀ j, j < k → (l.getD j zeroCV).key ≠ name) := hno
    clear hno
    by_cases hkn : k < n
    · have hkI : (k : Int) < (n : Int) := by omega
      have k0 : (0 : Int) ≤ (k : Int) := by omega
      have hkl : k < l.length := by have := HQ.out.2; omega
      obtain ⟨fb, fo, rfl⟩ := HQ.out.1.addr (by omega)
      obtain ⟨z0, z1, z2⟩ := HQ.out.1.at hkl
      have HKN : Hid (k < n) := hkn
      have HH : Hid ((l.getD k zeroCV).key = name → r = true) := fun h => by rw [← HR.out]; exact named_hit hkl h
      have HN : Hid ((l.getD k zeroCV).key ≠ name → ∀ j, j < k + 1 → (l.getD j zeroCV).key ≠ name) := fun h j hj => by
        rcases Nat.lt_or_ge j k with h1 | h1
        · exact HNO.out j h1
        · rw [show j = k by omega]; exact h
      generalize (l.getD k zeroCV).key = ck at *
      clear z1 z2 hkl hkn hk
      by_cases he : ck = name
      · have HT : Hid (r = true) := HH.out he
        have he2 : (ck.toList == name.toList) = true := by rw [eq_strF]; simpa using he
        clear he HH HN
        go_wp2
        go_ret
        exact ⟨by rw [HT.out]; rfl, rfl⟩
      · have HN1 : Hid _ := HN.out he
        have he2 : (ck.toList == name.toList) = false := by rw [eq_strF]; simpa using he
        clear he HH HN
        go_wp2
        go_round
        case rel => exact ⟨k + 1, HKN.out, by go_num, HN1.out⟩
        case measure => have := HKN.out; simp [intOf]; omega
    · have hkI : (n : Int) ≤ (k : Int) := by omega
      have HF : Hid (r = false) := by
        show r = false
        rw [← HR.out]
        exact named_miss fun j hj => HNO.out j (by have := HQ.out.2; omega)
      clear hkn hk
      go_wp2
      go_ret
      exact ⟨by rw [HF.out]; rfl, rfl⟩
set_option maxRecDepth 8000 in
set_option maxHeartbeats 4000000 in
theorem rwrong_any (gen : Int) (fv : Value) (old : List FileV) (q : Option Addr) (n c : Nat) (l : List CV) (w : World) (hf : FIn w fv old) (hq : CsIn w q l) (hn0 : n = l.length) (hnc : n ≤ c) (hnb : (n : Int) ≤ 9223372036854775807) (hs : ∀ x ∈ l, (x.key.size : Int) ≤ 9223372036854775807) (E : Int) (hE : chgE old l = E) :
    Calls Tryz.prog 49 #[.agg #[.int .i64 gen, fv], .slice q n c] w fun e w' => e = .returned (.int .i64 E) ∧ Below w.heap.size w w' := by
  obtain ⟨fq, fm, rfl, _⟩ := hf.lies
  have HF : Hid (FIn w (.slice fq old.length fm) old) := hf
  obtain ⟨ol, hol⟩ : ∃ m, old.length = m := ⟨_, rfl⟩
  rw [hol] at HF ⊢
  have HQ : Hid (CsIn w q l ∧ n = l.length) := ⟨hq, hn0⟩
  have HKS : Hid (∀ k, k < l.length → ((l.getD k zeroCV).key.size : Int) ≤ 9223372036854775807) := by
    intro k hk
    refine hs _ ?_
    rw [List.getD_eq_getElem?_getD, List.getElem?_eq_getElem hk]
    exact List.getElem_mem _
  clear hf hs hol
  by_cases hbig : 64 < n
  · have HE : Hid (E = 4) := by show E = 4; rw [← hE]; unfold chgE; rw [if_pos (by omega)]
    have hbI : (64 : Int) < (n : Int) := by omega
    clear hE hq hn0 hbig
    go_enter Tryz.func49, Tryz.ntmps49
    go_wp2
    go_ret
    exact ⟨by rw [HE.out]; rfl, below_alloc _ _⟩
  · have HE0 : Hid (fromC old l n 0 = E) := by show _ = E; rw [← hE]; unfold chgE; rw [if_neg (by omega), hn0]
    have hbI : (n : Int) ≤ 64 := by omega
    have HN64 : Hid (n ≤ 64 ∧ n ≤ c) := ⟨by omega, hnc⟩
    have hncI : (n : Int) ≤ (c : Int) := by omega
    clear hE hq hn0 hbig hnb
    go_enter Tryz.func49, Tryz.ntmps49
    go_wp2
    go_loopw [5] (fun i wr => ∃ k : Nat, k ≤ n ∧ i = .int .i64 (k : Int) ∧ fromC old l (n - k) k = E ∧ Below w.heap.size w wr ∧ wr.heap[w.heap.size]? = some (.cells #[.int .i64 gen, .slice fq ol fm] 31 (0, 0))) (fun i _ => n - (intOf i).toNat)
    case atStart => exact ⟨0, by omega, rfl, HE0.out, below_alloc _ _, heap_alloc_new _ _⟩
    case round =>
      obtain ⟨k, hk, rfl, he, hb, hbx⟩ := hrel
      clear HE0
      have HB : Hid (Below w.heap.size w wr ∧ wr.heap[w.heap.size]? = some (.cells #[.int .i64 gen, .slice fq ol fm] 31 (0, 0))) := ⟨hb, hbx⟩
      by_cases hkn : k < n
      · have hkI : (k : Int) < (n : Int) := by omega
        have k0 : (0 : Int) ≤ (k : Int) := by omega
        have HKN : Hid (k < n) := hkn
        have hkl : k < l.length := by have := HQ.out.2; omega
        have hen := HQ.out.1.below hb
        obtain ⟨fb, fo, rfl⟩ := hen.addr (by omega)
        obtain ⟨⟨ck, cv, cg⟩, hc⟩ : ∃ f, l.getD k zeroCV = f := ⟨_, rfl⟩
        have hsz := HKS.out k hkl
        have HFE : Hid (fromC old l (n - (k + 1) + 1) k = E) := by
          show _ = E
          rw [show n - (k + 1) + 1 = n - k by omega]
          exact he
        have HO : Hid (oneC old l k = if isNameN (l.getD k zeroCV).key = false then 5 else if namedC (l.take k) (l.getD k zeroCV).key = true then 8 else if (l.getD k zeroCV).gone = true ∧ findI old (l.getD k zeroCV).key < 0 then 6 else 0) := rfl
        have HZ : Hid (∀ w', Below wr.heap.size wr w' → (w'.cell? ⟨fb, fo + k * 3, none⟩ = some (.string ck) ∧ w'.cell? ⟨fb, fo + k * 3 + 2, none⟩ = some (.bool cg)) ∧ (w'.cell? ⟨w.heap.size, 0, none⟩ = some (.int .i64 gen) ∧ w'.cell? ⟨w.heap.size, 1, none⟩ = some (.slice fq ol fm)) ∧ Below wr.heap.size wr w') := fun w' hb' => by
          obtain ⟨z0, z1, z2⟩ := (hen.below hb').at hkl
          rw [hc] at z0 z2
          exact ⟨⟨z0, z2⟩, two_cells ((hb'.block _ (lt_heap HB.out.2)).trans HB.out.2), hb'⟩
        rw [hc] at hsz HO
        simp only at hsz HO
        obtain ⟨r1, hr1⟩ : ∃ r, isNameN ck = r := ⟨_, rfl⟩
        have hin := risName_r ck r1 hr1 wr hsz
        rw [hr1] at HO
        obtain ⟨⟨z0, z2⟩, _, _⟩ := HZ.out wr (Below.refl _ _)
        clear he hb hbx hen hkn hk hkl hc
        go_wp2_with fail
        refine hin.mono ?_
        rintro e w1 ⟨rfl, rfl⟩
        clear hin
        cases r1 with
        | false =>
          have HE : Hid (E = 5) := fromC_err HFE.out (HO.out.trans (if_pos rfl)) (by decide)
          go_wp2
          go_ret
          exact ⟨by rw [HE.out]; rfl, HB.out.1⟩
        | true =>
          obtain ⟨r2, hr2⟩ : ∃ r, namedC (l.take k) ck = r := ⟨_, rfl⟩
          rw [if_neg (by simp), hr2] at HO
          have HNM : Hid (∀ w', Below w1.heap.size w1 w' → Calls Tryz.prog 50 #[.slice (some ⟨fb, fo, none⟩) k c, .string ck] w' fun e w'' => e = .returned (.bool r2) ∧ w'' = w') := fun w' hb' => rnamed_any _ k c (l.take k) ck w' ((HQ.out.1.below (below_bt HB.out.1 hb')).take k) (by rw [List.length_take]; have := HQ.out.2; have := HKN.out; omega) (by omega) r2 hr2
          have hkc : (k : Int) ≤ (c : Int) := by omega
          clear hr1 hr2
          go_upto_region 8 with fail
          go_region_with (go_at_call 50; refine (HNM.out _ (by first | exact (Below.refl _ _).drew | exact Below.refl _ _)).mono ?_; rintro e w6 ⟨rfl, rfl⟩)
          all_goals
            obtain ⟨wd, hwd⟩ : ∃ wd, w1.drew = wd := ⟨_, rfl⟩
            have HB6 : Hid (Below w1.heap.size w1 wd) := by show Below _ _ _; rw [← hwd]; exact (Below.refl _ _).drew
            rw [hwd]
            clear hwd z0 z2
            have HFD : Hid (∀ w', Below w1.heap.size w1 w' → Calls Tryz.prog 86 #[.agg #[.int .i64 gen, .slice fq ol fm], .string ck] w' fun e w'' => e = .returned (.int .i64 (findI old ck)) ∧ Below w'.heap.size w' w'') := fun w' hb' => rplace_any gen _ old ck w' (HF.out.below (below_bt HB.out.1 hb'))
            cases r2 with
            | true =>
              have HE : Hid (E = 8) := fromC_err HFE.out (HO.out.trans (if_pos rfl)) (by decide)
              go_wp2
              go_ret
              exact ⟨by rw [HE.out]; rfl, below_bt HB.out.1 HB6.out⟩
            | false =>
              obtain ⟨⟨z0, z2⟩, ⟨y0, y1⟩, _⟩ := HZ.out wd HB6.out
              cases cg with
              | false =>
                have HG : Hid (fromC old l (n - (k + 1)) (k + 1) = E) := fromC_go HFE.out (HO.out.trans ((if_neg (by simp)).trans (if_neg (by simp))))
                go_upto_region 10 with fail
                go_quiet (fail)
                go_wp2
                go_roundw
                case rel => exact ⟨k + 1, HKN.out, by go_num, HG.out, below_drewN (below_bt HB.out.1 HB6.out) _, (HB6.out.block _ (lt_heap HB.out.2)).trans HB.out.2⟩
                case measure => have := HKN.out; simp [intOf]; omega
              | true =>
                obtain ⟨fi, hfi⟩ : ∃ i, findI old ck = i := ⟨_, rfl⟩
                rw [hfi] at HFD HO
                have HKS6 : Hid (∀ w', Below wd.heap.size wd w' → (w'.cell? ⟨fb, fo + k * 3, none⟩ = some (.string ck) ∧ w'.cell? ⟨fb, fo + k * 3 + 2, none⟩ = some (.bool true)) ∧ (w'.cell? ⟨w.heap.size, 0, none⟩ = some (.int .i64 gen) ∧ w'.cell? ⟨w.heap.size, 1, none⟩ = some (.slice fq ol fm)) ∧ Below wd.heap.size wd w') := fun w' hb' => ⟨(HZ.out w' (below_bt HB6.out hb')).1, (HZ.out w' (below_bt HB6.out hb')).2.1, hb'⟩
                have HE6 : Hid (fi < 0 → E = 6) := fun h => fromC_err HFE.out (HO.out.trans ((if_neg (by simp)).trans (if_pos ⟨rfl, h⟩))) (by decide)
                have HG6 : Hid (0 ≤ fi → fromC old l (n - (k + 1)) (k + 1) = E) := fun h => fromC_go HFE.out (HO.out.trans ((if_neg (by simp)).trans (if_neg (fun h2 => absurd h2.2 (by omega)))))
                clear hfi HO HFE
                go_upto_region 10 with fail
                go_region_held3 (fun w' => (w'.cell? ⟨fb, fo + k * 3, none⟩ = some (.string ck) ∧ w'.cell? ⟨fb, fo + k * 3 + 2, none⟩ = some (.bool true)) ∧ (w'.cell? ⟨w.heap.size, 0, none⟩ = some (.int .i64 gen) ∧ w'.cell? ⟨w.heap.size, 1, none⟩ = some (.slice fq ol fm)) ∧ Below wd.heap.size wd w')
                  (with_reducible first | exact HKS6.out _ (Below.refl _ _).drew | exact HKS6.out _ (Below.refl _ _) | exact HKS6.out _ hB7 | assumption)
                  (first
                    | (go_at_call 86; refine (HFD.out _ (below_bt HB6.out (by first | exact Below.refl _ _ | exact (Below.refl _ _).drew))).mono ?_; rintro e w7 ⟨rfl, hb7⟩; have hB7 : Below wd.heap.size wd w7 := (by first | exact hb7 | exact below_drC hb7))
                    | fail)
                rename_i hh
                have HW7 : Hid (Below w.heap.size w w7 ∧ w7.heap[w.heap.size]? = some (.cells #[.int .i64 gen, .slice fq ol fm] 31 (0, 0))) := ⟨below_bt HB.out.1 (below_bt HB6.out hB7), ((below_bt HB6.out hB7).block _ (lt_heap HB.out.2)).trans HB.out.2⟩
                clear hh hB7 hb7
                by_cases hf0 : fi < 0
                · have HE : Hid (E = 6) := HE6.out hf0
                  have hf0' : decide (fi < 0) = true := decide_eq_true hf0
                  clear HE6 HG6
                  go_wp2
                  go_ret
                  exact ⟨by rw [HE.out]; rfl, HW7.out.1⟩
                · have HG : Hid (fromC old l (n - (k + 1)) (k + 1) = E) := HG6.out (by omega)
                  have hf0' : decide (fi < 0) = false := decide_eq_false hf0
                  have hf1 : 0 ≤ fi := by omega
                  clear HE6 HG6
                  go_wp2
                  go_roundw
                  case rel => exact ⟨k + 1, HKN.out, by go_num, HG.out, HW7.out⟩
                  case measure => have := HKN.out; simp [intOf]; omega
      · have hkI : (n : Int) ≤ (k : Int) := by omega
        have HE : Hid (E = 0) := by
          show E = 0
          rw [← he, show n - k = 0 by omega]
          rfl
        clear he hb hbx hkn hk
        go_wp2
        go_ret
        exact ⟨by rw [HE.out]; rfl, HB.out.1⟩
set_option maxRecDepth 8000 in
set_option maxHeartbeats 2000000 in
theorem rnewest_any (v : Value) (count : Int) (data : List Nat) (ws : Puts) (w : World) (hd : DiskIn w v count data ws) (ho : Okay count data ws) (g : Int) (o : Nat) (hg0 : 0 ≤ g) (hg1 : g < 4611686018427387904) (hoc : (o : Int) + 8 ≤ count) (hc : count ≤ 4096) :
    Calls Tryz.prog 56 #[v, .int .i64 g, .int .i64 (o : Int)] w fun e w' => e = .returned (.int .i64 (genK data ws o g 8 + 1)) ∧ Below w.heap.size w w' := by
  obtain ⟨p, c, q, m, rfl, _⟩ := hd.parts
  have HD : Hid (DiskIn w (.agg #[.int .i64 count, .slice p data.length c, .slice q ws.length m]) count data ws ∧ Okay count data ws) := ⟨hd, ho⟩
  have HG : Hid (∀ k, g ≤ genK data ws o g k ∧ genK data ws o g k < 4611686018427387904) := fun k => ⟨genK_le _ _ _ _ _, genK_hi _ _ _ _ hg1 _⟩
  have HG0 : Hid (0 ≤ g) := hg0
  have hoI : (o : Int) + 8 ≤ 4096 := by omega
  obtain ⟨dl, hdl⟩ : ∃ n, data.length = n := ⟨_, rfl⟩
  obtain ⟨wl, hwl⟩ : ∃ n, ws.length = n := ⟨_, rfl⟩
  rw [hdl, hwl] at HD ⊢
  have HOC : Hid ((o : Int) + 8 ≤ count) := hoc
  clear hd ho hg1 hdl hwl hoc hc
  go_enter Tryz.func56, Tryz.ntmps56
  go_wp2
  go_loopw [1, 7] (fun s i wr => ∃ k : Nat, k ≤ 8 ∧ i = .int .i64 (k : Int) ∧ s = .int .i64 (genK data ws o g k) ∧ Below w.heap.size w wr ∧ wr.heap[w.heap.size]? = some (.cells #[.int .i64 count, .slice p dl c, .slice q wl m] 25 (0, 0))) (fun _ i _ => 8 - (intOf i).toNat)
  case atStart => exact ⟨0, by omega, rfl, rfl, below_alloc _ _, heap_alloc_new _ _⟩
  case round =>
    obtain ⟨k, hk, rfl, rfl, hbw, hbx⟩ := hrel
    have HB : Hid (Below w.heap.size w wr ∧ wr.heap[w.heap.size]? = some (.cells #[.int .i64 count, .slice p dl c, .slice q wl m] 25 (0, 0))) := ⟨hbw, hbx⟩
    obtain ⟨x0, x1, x2⟩ := three_cells hbx
    obtain ⟨G, hG⟩ : ∃ G, genK data ws o g k = G := ⟨_, rfl⟩
    have HGK : Hid (genK data ws o g k = G) := hG
    have hG0 : 0 ≤ G := by have := HG.out k; have := HG0.out; omega
    have hG1 : G < 4611686018427387904 := by have := HG.out k; omega
    rw [hG]
    clear hbw hbx hG
    by_cases hk8 : k < 8
    · have hkI : (k : Int) < 8 := by omega
      have HK : Hid (k < 8) := hk8
      have HON : Hid ((o : Int) + (k : Int) = ((o + k : Nat) : Int)) := by show _ = _; omega
      have hnw := rnow_any _ (o + k) count data ws wr (HD.out.1.below HB.out.1) HD.out.2 (by have := HOC.out; omega)
      have hnl : (nowN data ws ((o + k : Nat) : Int)).length = 128 := nowN_len HD.out.2 (by have := HOC.out; omega)
      clear hk8 hk
      go_wp2_with fail
      rw [HON.out]
      refine hnw.mono ?_
      rintro e w2 ⟨⟨v', rfl, hrg⟩, hb2⟩
      obtain ⟨pn, cn, rfl, hbin, hcn, hcm, _⟩ := hrg.form
      obtain ⟨gb, go, rfl, _⟩ := hbin.1 (by omega)
      have hb8 := bin_take hbin 8
      rw [list8' (by omega)] at hb8
      obtain ⟨b, hbe⟩ : ∃ b, beg8 (nowN data ws ((o + k : Nat) : Int)) = b := ⟨_, rfl⟩
      have hbg : ∀ c', Calls Tryz.prog 91 #[.slice (some ⟨gb, go, none⟩) 8 c'] w2 fun e w' => e = .returned (.tuple #[.int .u64 ((beg8 (nowN data ws ((o + k : Nat) : Int)) : Nat) : Int), .int .i64 0]) ∧ w' = w2 := fun c' => refGet_ok _ c' _ _ _ _ _ _ _ _ w2 hb8
      rw [hbe] at hbg
      rw [hnl] at hcn ⊢
      have HS : Hid (genK data ws o g (k + 1) = if b < 4611686018427387904 then max G (b : Nat) else G) := by
        show _ = _
        rw [genK, hbe, HGK.out]
      have HB2 : Hid (Below w.heap.size w w2 ∧ w2.heap[w.heap.size]? = some (.cells #[.int .i64 count, .slice p dl c, .slice q wl m] 25 (0, 0))) := ⟨below_bt HB.out.1 hb2, (hb2.block _ (lt_heap HB.out.2)).trans HB.out.2⟩
      have hcnI : (8 : Int) ≤ (cn : Int) := by omega
      unfold maxLen at hcm
      have hcmI : (cn : Int) ≤ 9223372036854775807 := by omega
      clear hnw hbin hb2 hbe HB hrg hb8 hnl hcn hcm
      go_wp2_with fail
      refine (hbg _).mono ?_
      rintro e w3 ⟨rfl, rfl⟩
      clear hbg
      by_cases hb : b < 4611686018427387904
      · have hbI : (b : Int) < 4611686018427387904 := by omega
        have hbw : IntKind.i64.wrap (b : Int) = (b : Int) := by rw [IntKind.wrap_i64]; omega
        have HS1 : Hid (genK data ws o g (k + 1) = max G (b : Nat)) := by show _ = _; rw [HS.out, if_pos hb]
        clear HS hb
        go_wp2
        go_roundw
        case rel => exact ⟨k + 1, HK.out, by go_num, by rw [HS1.out], HB2.out⟩
        case measure => have := HK.out; simp [intOf]; omega
      · have hbI : decide ((b : Int) < 4611686018427387904) = false := decide_eq_false (by omega)
        have HS1 : Hid (genK data ws o g (k + 1) = G) := by show _ = _; rw [HS.out, if_neg hb]
        clear HS hb
        go_wp2
        go_roundw
        case rel => exact ⟨k + 1, HK.out, by go_num, by rw [HS1.out], HB2.out⟩
        case measure => have := HK.out; simp [intOf]; omega
    · obtain rfl : k = 8 := by omega
      have HZ : Hid (genK data ws o g 8 = G) := HGK.out
      clear hk8 hk
      go_wp2
      go_ret
      exact ⟨by rw [HZ.out]; rfl, HB.out.1⟩
end Go.Proofs.YtglcpfnpbcnejaaGreatDoor
