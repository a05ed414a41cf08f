/-
  Room: how many sectors are free for files.
-/
import Derived.Test.YtkgmhmhphgaclabGreatDoorJ31
import Derived.Test.YtkgmhmhphgaclabGreatDoorJ26
import Derived.Test.YtkgmhmhphgaclabGreatDoorJ22
namespace Go.Proofs.YtkgmhmhphgaclabGreatDoor
open Go.RowKit Go.WideShapes Rm

theorem stay_map (ls : FPs) (l : List CV) : (stayP ls l).map Prod.fst = (ls.map Prod.fst).filter fun f => !namedC l f.name := by
  unfold stayP
  rw [List.filter_map]
  rfl
theorem wrote_len {x : DirV} {b : List Nat} (h : Wrote x 0 b) : b.length = 1024 := by
  cases h with
  | ok h1 h2 => exact isDir_len ⟨h1, h2, rfl⟩
theorem filesA_le : ∀ (fs : List FileV) (vs : List (List Nat)), (filesA fs vs).length ≤ (secs (allPcs fs)).length
  | f :: fs, v :: vs => by
    have e : secs (allPcs (f :: fs)) = secs f.pcs ++ secs (allPcs fs) := by rw [← secs_append]; simp [allPcs]
    have h := filesA_le fs vs
    rw [e, filesA, List.length_append, List.length_append]
    have h2 : (fileA f v).length = (secs f.pcs).length := by unfold fileA; rw [List.length_map, List.length_range]
    omega
  | [], _ => by simp [filesA]
  | _ :: _, [] => by simp [filesA]
theorem secs_few {count : Int} (hz : 80 ≤ count ∧ count ≤ 4096) {l : Pcs} (h : Rm.Good count l) : (secs l).length ≤ 4096 := by
  have h1 := secs_len_good h (f := 0) (k := count.toNat) (fun p hp => by have := h.wn p hp; unfold Wn at this; omega) (by omega)
  have h2 := meant_all_len (cov l) 0 count.toNat
  omega
theorem acts_few {F : Acts} {L : List ActF} (h : L.map Prod.fst = if F = [] then [] else F ++ [flA]) (hF : F.length ≤ 4096) : L.length ≤ 4097 := by
  have h1 := congrArg List.length h
  rw [List.length_map] at h1
  split at h1
  · rw [h1]; simp
  · rw [h1, List.length_append]; simp; omega
/-- What turn answers where the files that are put have their sectors. -/
structure TGo (w : World) (G : Int) (o : Nat) (S P : List FileV) (F : Acts) (e : Ending) (w' : World) : Prop where
  ex : (G = 4611686018427387904 ∧ TErr w 42 e w') ∨ (G ≠ 4611686018427387904 ∧ ∃ ss : List FileV, (S ++ P).Perm ss ∧ (ss.Pairwise fun x y => Op.bytesLess y.name.toList x.name.toList = false) ∧ ∃ n b, Wrote ⟨G, ss⟩ n b ∧ ((n ≠ 0 ∧ TErr w n e w') ∨
    (n = 0 ∧ ∃ v L, e = .returned (.tuple #[v, .nilIface]) ∧ AOwn w' w.heap.size v L ∧ L.map Prod.fst = (if F = [] then [] else F ++ [flA]) ++ (secsA o b 8 ++ [flA]) ∧ Below w.heap.size w w')))
set_option maxRecDepth 8000 in
set_option maxHeartbeats 4000000 in
theorem turn_go (v : Value) (count : Int) (data : List Nat) (ws : Puts) (lq : Option Addr) (ln lc : Nat) (l : List CV) (w : World) (hL : Laid w) (hd : DiskIn w v count data ws) (x : DirV) (at_ n : Int) (hm : MountIs count data ws (some (x, at_)) n)
    (hl : ChgIn w lq ln lc l) (hvs : ∀ y ∈ l, (y.val.size : Int) ≤ 9223372036854775000) (hE : chgE x.files l = 0) (hfew : (x.files.filter fun f => !namedC l f.name).length + (putsC l).length ≤ 32) (P : List FileV) (hpl : placeN count (allPcs x.files) (csOf (putsC l)) = .ok P) (o : Nat) (hoo : at_ = 8 - (o : Int)) (ho8 : o ≤ 8) (G : Int) (hG : genK data ws o x.gen 8 + 1 = G) (F : Acts) (hF : filesA P (valsOf (putsC l)) = F) :
    Calls Tryz.prog 24 #[v, .slice lq ln lc] w fun e w' => TGo w G o (x.files.filter fun f => !namedC l f.name) P F e w' := by
  obtain ⟨p, c, q, m, rfl, _⟩ := hd.parts
  have HMT := mount_any _ count data ws (w.alloc (.cells #[.int .i64 count, .slice p data.length c, .slice q ws.length m] 25)) (hL.below (below_alloc _ _)) (hd.below (below_alloc _ _)) _ n hm
  have HDD : Hid (DiskIn w (.agg #[.int .i64 count, .slice p data.length c, .slice q ws.length m]) count data ws ∧ Okay count data ws ∧ 96 ≤ count ∧ count ≤ 4096) := ⟨hd, (mountIs_some hm).2.2.2.2, (mountIs_some hm).2.2.2.1, (errK_zero (mountIs_some hm).2.1).1.2⟩
  have HOO : Hid (at_ = 8 - (o : Int) ∧ o ≤ 8 ∧ genK data ws o x.gen 8 + 1 = G ∧ filesA P (valsOf (putsC l)) = F) := ⟨hoo, ho8, hG, hF⟩
  have hat0 : 0 ≤ at_ := by omega
  have hat1 : at_ ≤ 8 := by omega
  have HMAY : Hid (May ltS x) := (mountIs_some hm).1
  have HLL : Hid (ChgIn w lq ln lc l ∧ chgE x.files l = 0 ∧ (x.files.filter fun f => !namedC l f.name).length + (putsC l).length ≤ 32) := ⟨hl, hE, hfew⟩
  have HVS : Hid (∀ y ∈ l, (y.val.size : Int) ≤ 9223372036854775000) := hvs
  have HEK : Hid (Rm.Good count (allPcs x.files) ∧ (allPcs x.files).length ≤ 4096 ∧ Wf (allPcs x.files)) := by
    have h := errK_zero (mountIs_some hm).2.1
    exact ⟨h.2.2, h.2.1, Rm.Good.wf h.2.2 h.1.2⟩
  have HKK : Hid (errK count (allPcs x.files) = 0) := (mountIs_some hm).2.1
  have HPL : Hid (placeN count (allPcs x.files) (csOf (putsC l)) = .ok P) := hpl
  have HDB : Hid ((w.alloc (.cells #[.int .i64 count, .slice p data.length c, .slice q ws.length m] 25)).heap[w.heap.size]? = some (.cells #[.int .i64 count, .slice p data.length c, .slice q ws.length m] 25 (0, 0))) := heap_alloc_new _ _
  have HWS : Hid (w.heap.size < (w.alloc (.cells #[.int .i64 count, .slice p data.length c, .slice q ws.length m] 25)).heap.size) := lt_heap HDB.out
  clear hd hL hm hl hE hfew hvs hpl hoo ho8 hG hF
  go_enter Tryz.func24, Tryz.ntmps24
  go_wp2_with fail
  refine HMT.mono ?_
  rintro e w2 ⟨ls, lv, hls, rfl, hfo, hb2⟩
  obtain ⟨B0, hfo, hB0, hB1⟩ : ∃ B0, FOwn w2 B0 lv ls ∧ w.heap.size ≤ B0 ∧ B0 ≤ w2.heap.size := ⟨_, hfo, by simp, hb2.size⟩
  have HB0 : Hid (w.heap.size ≤ B0 ∧ B0 ≤ w2.heap.size) := ⟨hB0, hB1⟩
  clear hB0 hB1
  obtain ⟨fq, fm, rfl, _⟩ := hfo.form
  have hB2 : Below w.heap.size w w2 := below_bt (below_alloc _ _) hb2
  have HDB2 : Hid (w2.heap[w.heap.size]? = some (.cells #[.int .i64 count, .slice p data.length c, .slice q ws.length m] 25 (0, 0))) := (hb2.block _ (lt_heap HDB.out)).trans HDB.out
  have hl32 : ls.length ≤ 32 := by
    have h := congrArg List.length hls
    rw [List.length_map] at h
    rw [h]
    exact HMAY.out.many
  obtain ⟨L, hLn⟩ : ∃ L, ls.length = L := ⟨_, rfl⟩
  have HLS : Hid (ls.map Prod.fst = x.files ∧ ls.length ≤ 32) := ⟨hls, hl32⟩
  rw [hLn] at hfo ⊢
  have hB3 : Below w.heap.size w (w2.alloc (.cells #[.int .i64 x.gen, .slice fq L fm] 43)) := below_bt hB2 (below_alloc _ _)
  have hck := checkChanges_any (.slice fq L fm) x.files lq ln lc l (w2.alloc (.cells #[.int .i64 x.gen, .slice fq L fm] 43)) ((hfo.files HMAY.out hls).below (below_alloc _ _)) (HLL.out.1.lies.below hB3) HLL.out.1.len HLL.out.1.cap HLL.out.1.fits HLL.out.1.keys 0 HLL.out.2.1
  have HB3 : Hid (Below w.heap.size w (w2.alloc (.cells #[.int .i64 x.gen, .slice fq L fm] 43))) := hB3
  have HX3 : Hid ((w2.alloc (.cells #[.int .i64 x.gen, .slice fq L fm] 43)).heap[w2.heap.size]? = some (.cells #[.int .i64 x.gen, .slice fq L fm] 43 (0, 0))) := heap_alloc_new _ _
  have HFO : Hid (FMix (w2.alloc (.cells #[.int .i64 x.gen, .slice fq L fm] 43)) _ _ (.slice fq L fm) ls) := (hfo.mix.below (below_alloc _ _))
  clear HMT hb2 hB2 hB3 hfo hls hLn hl32
  go_wp2_with fail
  refine hck.mono ?_
  rintro e w4 ⟨ev, rfl, hev, hb4⟩
  obtain rfl : ev = .nilIface := by
    rcases hev with ⟨_, h⟩ | ⟨h, _⟩
    · exact h
    · exact absurd rfl h
  have HB4 : Hid (Below w.heap.size w w4) := below_bt HB3.out hb4
  have HB24 : Hid (Below w2.heap.size w2 w4) := below_bt (below_alloc _ _) hb4
  have HX4' : Hid (w4.heap[w2.heap.size]? = some (.cells #[.int .i64 x.gen, .slice fq L fm] 43 (0, 0))) := (hb4.block _ (lt_heap HX3.out)).trans HX3.out
  have HFO4 : Hid _ := HFO.out.below hb4
  have HX4 := (hb4.block _ (lt_heap HX3.out)).trans HX3.out
  obtain ⟨x0, x1⟩ := two_cells HX4
  have hst := staying_any (.slice fq L fm) ls _ _ lq ln lc l w4 (HFO.out.below hb4) (by have := HLS.out.2; omega) (HLL.out.1.lies.below HB4.out) HLL.out.1.len HLL.out.1.fits
  clear hck hev hb4 HX3 HX4 HFO HB3
  go_wp2_with fail
  refine hst.mono ?_
  rintro e w5 ⟨sv, rfl, hsv⟩
  obtain ⟨sq, sm, rfl, _⟩ := hsv.own.form
  have HB5 : Hid (Below w.heap.size w w5) := below_bt HB4.out hsv.bel
  have HB25 : Hid (Below w4.heap.size w4 w5) := hsv.bel
  have HSV : Hid (FMix w5 w4.heap.size B0 (.slice sq (stayP ls l).length sm) (stayP ls l)) := hsv.own
  have hpt := putting_any lq ln lc l w5 (HLL.out.1.lies.below HB5.out) HLL.out.1.len (by have := chg_few HLL.out.2.1; have := HLL.out.1.len; omega)
  have hlen : (stayP ls l).length = (x.files.filter fun f => !namedC l f.name).length := by
    rw [← HLS.out.1]
    unfold stayP
    rw [List.filter_map, List.length_map]
    rfl
  obtain ⟨sl, hsl⟩ : ∃ m, (stayP ls l).length = m := ⟨_, rfl⟩
  have HSL : Hid (sl + (putsC l).length ≤ 32 ∧ sl ≤ 32) := ⟨by rw [← hsl, hlen]; exact HLL.out.2.2, by have h1 := stayP_len ls l ls.length; rw [List.take_length] at h1; have h2 := HLS.out.2; omega⟩
  rw [hsl] at HSV ⊢
  have HSLN : Hid ((stayP ls l).length = sl) := hsl
  clear hst hsv hlen hsl x0 x1
  go_wp2_with fail
  refine hpt.mono ?_
  rintro e w6 ⟨pv, rfl, hpv⟩
  obtain ⟨pq, pm, rfl, _⟩ := own_form hpv.own
  have HB6 : Hid (Below w.heap.size w w6) := below_bt HB5.out hpv.bel
  obtain ⟨pl, hpl⟩ : ∃ m, (putsC l).length = m := ⟨_, rfl⟩
  have hlt : (sl : Int) + (pl : Int) ≤ 32 := by have := HSL.out.1; omega
  have hle : (sl : Int) ≤ 32 := by have := HSL.out.2; omega
  have hle2 : (pl : Int) ≤ 64 := by have h1 := chg_few HLL.out.2.1; have h2 := putsC_len l l.length; rw [List.take_length] at h2; omega
  have HPV : Hid (COwn w6 w5.heap.size (.slice pq (putsC l).length pm) (putsC l)) := hpv.own
  have HB46 : Hid (Below w4.heap.size w4 w6) := below_bt HB25.out hpv.bel
  have HSV6 : Hid (FMix w6 w4.heap.size B0 (.slice sq sl sm) (stayP ls l) ∧ w4.heap.size ≤ w6.heap.size ∧ w2.heap.size ≤ w4.heap.size) := ⟨HSV.out.below hpv.bel, HB46.out.size, HB24.out.size⟩
  rw [hpl] at HPV ⊢
  have HPLN : Hid ((putsC l).length = pl) := hpl
  clear hpt hpv hpl
  have HD6 : Hid (w6.heap[w.heap.size]? = some (.cells #[.int .i64 count, .slice p data.length c, .slice q ws.length m] 25 (0, 0))) := ((below_bt HB24.out HB46.out).block _ (lt_heap HDB2.out)).trans HDB2.out
  have HX6 : Hid (w6.heap[w2.heap.size]? = some (.cells #[.int .i64 x.gen, .slice fq L fm] 43 (0, 0))) := (HB46.out.block _ (lt_heap HX4'.out)).trans HX4'.out
  have HF6 : Hid (FIn w6 (.slice fq L fm) x.files) := ((HFO4.out.own (Nat.le_refl _)).files HMAY.out HLS.out.1).below HB46.out
  have HPC : Hid (∀ w', Below w6.heap.size w6 w' → Calls Tryz.prog 50 #[.slice fq L fm] w' fun e w'' => ∃ r, e = .returned r ∧ POwn w'' w'.heap.size r (allPcs x.files) ∧ Below w'.heap.size w' w'') := fun w' hb' => pieces_any _ x.files w' (HF6.out.below hb') (by have := HEK.out.2.1; omega)
  have HKS : Hid (∀ w', Below w6.heap.size w6 w' → (w'.cell? ⟨w.heap.size, 0, none⟩ = some (.int .i64 count) ∧ w'.cell? ⟨w2.heap.size, 1, none⟩ = some (.slice fq L fm))) := fun w' hb' => ⟨(three_cells ((hb'.block _ (lt_heap HD6.out)).trans HD6.out)).1, (two_cells ((hb'.block _ (lt_heap HX6.out)).trans HX6.out)).2⟩
  have HPP : Hid (∀ w7 base' uv, base' ≤ w7.heap.size → POwn w7 base' uv (allPcs x.files) → Below w6.heap.size w6 w7 → Calls Tryz.prog 49 #[.int .i64 count, uv, .slice pq pl pm] w7 fun e w' => PlaceP w7 uv.ownBlock (.ok P) e w') := fun w7 base' uv hb' hu h67 => by
    have hcs := HPV.out.below h67
    exact place_any count uv (allPcs x.files) base' pq pl pm (putsC l) w7 hu HEK.out.2.2 hb' hcs.cs (fun b o e => by subst e; have := own_far hcs hu; exact this) HPLN.out.symm (by omega) (fun y hy => HVS.out y ((List.mem_filter.1 hy).1)) _ HPL.out
  clear HX4' HDB2 HDB HWS HFO4 HB24 HB25 HB46
  go_upto_region 10 with fail
  obtain ⟨d6, f6⟩ := HKS.out _ (Below.refl _ _)
  go_region_with (first
    | (go_at_call 50; refine (HPC.out _ (by first | exact (Below.refl _ _).drew | exact Below.refl _ _)).mono ?_; rintro e w7 ⟨uv, rfl, huv, hb7⟩; obtain ⟨d7, f7⟩ := HKS.out w7 (by first | exact below_drC hb7 | exact hb7))
    | (go_at_call 49; refine (HPP.out _ _ _ (by first | exact hb7.size | (simpa using hb7.size)) (by first | exact huv | exact huv.below (Below.refl _ _).drew) (by first | exact below_drC hb7 | exact hb7)).mono ?_; rintro e w8 ⟨ov, O, rfl, hO, hmix, hgr⟩))
  all_goals
    have h67 : Below w6.heap.size w6 w7 := by first | exact below_drC hb7 | exact hb7
    have hlo : ∀ k, uv.ownBlock = some k → w.heap.size ≤ k := fun k hk => by
      have h1 := (huv.lt k hk).1
      have h2 := HB6.out.size
      simp at h1
      omega
    have hB7 : Below w.heap.size w w7 := below_bt HB6.out h67
    have hgr7 : w7.grownBy w8 uv.ownBlock := by first | exact hgr | exact grown_trans (grown_below (Below.refl _ _).drew _) hgr
    have hmx : FMix w8 w7.heap.size w7.heap.size ov O := by first | exact hmix | simpa using hmix
    have hw6 : POwn w7 w6.heap.size uv (allPcs x.files) := by first | exact huv | simpa using huv
    have hB8 : Below w.heap.size w w8 := hB7.grown hgr7 hB7.size hlo
    obtain ⟨oq, om, rfl, _⟩ := hmx.form
    obtain ⟨ol, hol⟩ : ∃ m, O.length = m := ⟨_, rfl⟩
    rw [hol] at hmx ⊢
    have HW8 : Hid (FMix w8 w7.heap.size B0 (.slice oq ol om) O ∧ FMix w8 w4.heap.size B0 (.slice sq sl sm) (stayP ls l) ∧ COwn w8 w5.heap.size (.slice pq pl pm) (putsC l) ∧ O.map Prod.fst = P ∧ O.length = ol ∧ Below w.heap.size w w8 ∧ w7.heap.size ≤ w8.heap.size ∧ w6.heap.size ≤ w7.heap.size) := ⟨hmx.mono0 (Nat.le_refl _) (by have := HB0.out.2; have := HSV6.out.2; have := h67.size; omega), HSV6.out.1.past h67 hw6 (Nat.le_refl _) hgr7, (HPV.out.below h67).growP hw6 hgr7, hO, hol, hB8, hgr7.size, h67.size⟩
    have HD8 : Hid (w8.heap[w.heap.size]? = some (.cells #[.int .i64 count, .slice p data.length c, .slice q ws.length m] 25 (0, 0))) := box_grow hw6 hgr7 ((h67.block _ (lt_heap HD6.out)).trans HD6.out) (by decide)
    have HX8 : Hid (w8.heap[w2.heap.size]? = some (.cells #[.int .i64 x.gen, .slice fq L fm] 43 (0, 0))) := box_grow hw6 hgr7 ((h67.block _ (lt_heap HX6.out)).trans HX6.out) (by decide)
    obtain ⟨e0, e1, e2⟩ := three_cells HD8.out
    obtain ⟨g0, g1⟩ := two_cells HX8.out
    have hng := nextGen_any _ count data ws w8 (HDD.out.1.below hB8) HDD.out.2.1 x.gen o (by have := HMAY.out.lo; omega) (by have := HMAY.out.hi; omega) (by have := HDD.out.2.2.1; have := HOO.out.2.1; omega) HDD.out.2.2.2
    rw [HOO.out.2.2.1] at hng
    have HOI : Hid (8 - at_ = (o : Int)) := by have := HOO.out.1; show _ = _; omega
    clear hgr hmix huv hb7 h67 hlo hB7 hgr7 hmx hw6 hB8 hO hol HPC HKS HPP d6 f6 d7 f7
    go_wp2_with fail
    rw [HOI.out]
    refine hng.mono ?_
    rintro e w9 ⟨rfl, hb9⟩
    have HS9 : Hid (FMix w9 w4.heap.size B0 (.slice sq sl sm) (stayP ls l)) := HW8.out.2.1.below hb9
    have HO9 : Hid (FMix w9 w7.heap.size B0 (.slice oq ol om) O) := HW8.out.1.below hb9
    have HC9 : Hid (COwn w9 w5.heap.size (.slice pq pl pm) (putsC l)) := own_below HW8.out.2.2.1 hb9
    have HB9 : Hid (Below w.heap.size w w9 ∧ w4.heap.size ≤ w9.heap.size) := ⟨below_bt HW8.out.2.2.2.2.2.1 hb9, by have h1 := HW8.out.2.2.2.2.2.2; have h2 := HSV6.out.2; have h3 := hb9.size; omega⟩
    have HNE : Hid ((Value.slice oq ol om).ownBlock = none ∨ (Value.slice oq ol om).ownBlock ≠ (Value.slice sq sl sm).ownBlock) := apart_ahead HO9.out (fun k hk => by have h1 := (World.ownsRow.lt HSV6.out.1.row k hk).2; have h2 := HW8.out.2.2.2.2.2.2.2; omega)
    have HNW := next_wf (O := O) ⟨by have := HDD.out.2.2.1; omega, HDD.out.2.2.2⟩ HMAY.out HKK.out HLS.out.1 HPL.out HW8.out.2.2.2.1 HLL.out.1.keys
    have HGW := gen_wf HMAY.out.lo HMAY.out.hi HOO.out.2.2.1
    have HLN : Hid ((stayP ls l).length = sl ∧ O.length = ol ∧ sl ≤ 32 ∧ ol ≤ 32) := ⟨HSLN.out, HW8.out.2.2.2.2.1, HSL.out.2, by have h1 := HNW.2.2; have h2 := HSL.out.1; have h3 := HW8.out.2.2.2.2.1; omega⟩
    have HWN : Hid (∀ w' v', FMix w' w4.heap.size B0 v' (stayP ls l ++ O) → Calls Tryz.prog 51 #[.int .i64 G, v'] w' fun e w'' => WNextP w' w4.heap.size B0 v' G (stayP ls l ++ O) e w'') := fun w' v' h => writeNext_any G v' (stayP ls l ++ O) w4.heap.size B0 w' HGW.1 (by have h1 := HB0.out.2; have h2 := HSV6.out.2.2; omega) h (by rw [List.length_append]; have := HLN.out; omega) HNW.1 HNW.2.1
    have HOP : Hid (O.map Prod.fst = P) := HW8.out.2.2.2.1
    clear hng hb9 HW8 HNW HGW e0 e1 e2 g0 g1
    go_wp2_with (at_builtin; (refine wpList_append_mixX _ rfl _ _ rfl w4.heap.size B0 w7.heap.size (.slice sq sl sm) (stayP ls l) O oq ol om rfl rfl HLN.out.2.1.symm HS9.out HO9.out (by have := HLN.out; omega) HB9.out.2 ?_); intro v10 w10 ho10 hg10 hw10; have H10 : Hid (FMix w10 w4.heap.size B0 v10 (stayP ls l ++ O) ∧ FMix w10 w7.heap.size B0 (.slice oq ol om) O ∧ ((Value.slice oq ol om).ownBlock = none ∨ (Value.slice oq ol om).ownBlock ≠ v10.ownBlock) ∧ COwn w10 w5.heap.size (.slice pq pl pm) (putsC l) ∧ Below w.heap.size w w10) := ⟨ho10, HO9.out.beside HS9.out HNE.out hg10, apart_grown HO9.out HNE.out hw10, HC9.out.growF HS9.out hg10, HB9.out.1.grown hg10 HB9.out.1.size (fun k hk => by have h1 := (World.ownsRow.lt HS9.out.row k hk).1; have h2 := HB4.out.size; omega)⟩; clear ho10 hg10 hw10)
    refine (HWN.out _ _ H10.out.1).mono ?_
    rintro e w11 ⟨hwx⟩
    rcases hwx with ⟨hG, rfl, ev, rfl, hfa⟩ | ⟨hG, ss, r, ev, n', b, rfl, hpm, hup, hw, hev, hown, hfm, hg11⟩
    · have HFA : Hid (Faults ev 42 ∧ G = 4611686018427387904) := ⟨hfa, hG⟩
      obtain ⟨T, vv, rfl⟩ := hfa.iface
      clear hfa hG HWN
      go_wp2
      go_ret2
      exact ⟨.inl ⟨HFA.out.2, ⟨_, rfl, HFA.out.1, H10.out.2.2.2.2⟩⟩⟩
    · have hB11 : Below w.heap.size w w11 := H10.out.2.2.2.2.grown hg11 H10.out.2.2.2.2.size (fun k hk => by have h1 := (World.ownsRow.lt H10.out.1.row k hk).1; have h2 := HB4.out.size; omega)
      have HSS : Hid (G ≠ 4611686018427387904 ∧ ((x.files.filter fun f => !namedC l f.name) ++ P).Perm (ss.map Prod.fst) ∧ ((ss.map Prod.fst).Pairwise fun x y => Op.bytesLess y.name.toList x.name.toList = false) ∧ Wrote ⟨G, ss.map Prod.fst⟩ n' b) := ⟨hG, by have h := hpm.map Prod.fst; rw [List.map_append, HOP.out, stay_map, HLS.out.1] at h; exact h, by rw [List.pairwise_map]; exact hup, hw⟩
      have HB11 : Hid (Below w.heap.size w w11) := hB11
      obtain ⟨rq, rm, rfl, _⟩ := own_form hown
      rcases hev with ⟨rfl, rfl⟩ | ⟨hn0, hfa⟩
      · have hl4 : b.length = 1024 := wrote_len HSS.out.2.2.2
        have hb4 := wrote_bytes HSS.out.2.2.2
        rw [hl4] at hown ⊢
        have HR11 : Hid (BIn w11 rq b ∧ 1024 ≤ rm ∧ rm ≤ maxLen) := by
          obtain ⟨_, _, e, h1, h2, _⟩ := own_form hown
          cases e
          exact ⟨own_in (by rw [hl4]; exact hown) hb4, h1, h2⟩
        have HO11 : Hid (FMix w11 w7.heap.size B0 (.slice oq ol om) O) := H10.out.2.1.beside H10.out.1 H10.out.2.2.1 hg11
        have HC11 : Hid (COwn w11 w5.heap.size (.slice pq pl pm) (putsC l)) := H10.out.2.2.2.1.growF H10.out.1 hg11
        have hfa := fileActs_any (.slice oq ol om) O _ _ pq pl pm (putsC l) w11 HO11.out HC11.out.cs HPLN.out.symm (placed_fits ⟨by have := HDD.out.2.2.1; omega, HDD.out.2.2.2⟩ HEK.out.1 HPL.out (by have h1 := HSL.out.1; omega) HOP.out) F (by rw [HOP.out]; exact HOO.out.2.2.2)
        have HLN2 : Hid (b.length = 1024) := hl4
        clear hG HWN hpm hup hw hown hfm hg11 hB11 hl4 hb4
        go_wp2_with fail
        refine hfa.mono ?_
        rintro e w12 ⟨⟨v12, L12, rfl, hA12, hm12⟩⟩
        obtain ⟨aq, am, rfl, _⟩ := hA12.own.form
        have hsl := slotActs_any o rq rm b w12 (by have := HOO.out.2.1; omega) (HR11.out.1.below hA12.bel) HLN2.out HR11.out.2.1 HR11.out.2.2
        have HA12 : Hid (OnA w11 (.slice aq L12.length am) L12 w12) := hA12
        have HM12 : Hid (L12.map Prod.fst = if F = [] then [] else F ++ [flA]) := hm12
        obtain ⟨al, hal⟩ : ∃ m, L12.length = m := ⟨_, rfl⟩
        rw [hal] at HA12 ⊢
        clear hfa hA12 hm12
        go_wp2_with fail
        refine hsl.mono ?_
        rintro e w13 ⟨v13, L13, rfl, hA13, hm13⟩
        obtain ⟨zq, zm, rfl, hz1, _, hz2⟩ := hA13.own.form
        have h9 : L13.length = 9 := by have h := congrArg List.length hm13; rw [List.length_map] at h; rw [h]; unfold secsA; simp
        rw [h9] at hz1
        obtain ⟨za, rfl⟩ : ∃ a, zq = some a := by
          cases zq with
          | none => have := hz2 rfl; omega
          | some a => exact ⟨a, rfl⟩
        have HA : Hid (AOwn w13 w.heap.size (.slice aq al am) L12 ∧ (∀ y ∈ L13, DataO w13 w.heap.size y.2 y.1.2.2) ∧ (∀ j u, (cellsT L13)[j]? = some u → w13.cell? (za.add j) = some u) ∧ Below w.heap.size w w13) := ⟨(HA12.out.own.below hA13.bel).mono HB11.out.size, fun y hy => (hA13.own.data y hy).mono (below_bt HB11.out HA12.out.bel).size, hA13.own.cells, below_bt (below_bt HB11.out HA12.out.bel) hA13.bel⟩
        have HM13 : Hid (L13.map Prod.fst = secsA o b 8 ++ [flA] ∧ L13.length = 9) := ⟨hm13, h9⟩
        have HFW : Hid (L12.length ≤ 4097) := acts_few HM12.out (by rw [← HOO.out.2.2.2]; have h1 := filesA_le P (valsOf (putsC l)); have h2 := secs_few ⟨by have := HDD.out.2.2.1; omega, HDD.out.2.2.2⟩ (placed_wf ⟨by have := HDD.out.2.2.1; omega, HDD.out.2.2.2⟩ HEK.out.1 HPL.out).2.2.right; omega)
        rw [h9]
        clear hsl hA13 hm13 hz1 hz2 h9
        go_wp2_with (at_builtin; (refine wpList_append_acts _ rfl _ _ rfl w.heap.size (.slice aq al am) L12 L13 za 9 zm rfl rfl HM13.out.2.symm HA.out.1 HA.out.2.1 HA.out.2.2.1 (by have h1 := HFW.out; have h2 := HM13.out.2; omega) HA.out.2.2.2.size ?_); intro v14 w14 ho14 hg14; have H14 : Hid (AOwn w14 w.heap.size v14 (L12 ++ L13) ∧ Below w.heap.size w w14) := ⟨ho14, HA.out.2.2.2.grown hg14 HA.out.2.2.2.size (fun k hk => (World.ownsRow.lt HA.out.1.row k hk).1)⟩; clear ho14 hg14)
        go_ret2
        exact ⟨.inr ⟨HSS.out.1, _, HSS.out.2.1, HSS.out.2.2.1, 0, b, HSS.out.2.2.2, .inr ⟨rfl, _, _, rfl, H14.out.1, by rw [List.map_append, HM12.out, HM13.out.1], H14.out.2⟩⟩⟩
      · have HFA : Hid (Faults ev n' ∧ n' ≠ 0) := ⟨hfa, hn0⟩
        obtain ⟨T, vv, rfl⟩ := hfa.iface
        clear hfa hG HWN hpm hup hw hown hfm hg11 hB11 hn0
        go_wp2
        go_ret2
        exact ⟨.inr ⟨HSS.out.1, _, HSS.out.2.1, HSS.out.2.2.1, n', b, HSS.out.2.2.2, .inl ⟨HFA.out.2, ⟨_, rfl, HFA.out.1, HB11.out⟩⟩⟩⟩
end Go.Proofs.YtkgmhmhphgaclabGreatDoor
namespace Go.Proofs.YtkgmhmhphgaclabGreatDoor
open Go.RowKit Go.WideShapes Rm

/-- What Turn answers: its number and its acts. -/
inductive TurnIs (count : Int) (data : List Nat) (ws : Puts) (r : Option (DirV × Int)) (n : Int) (l : List CV) : Int → Acts → Prop
  | none (h : r = none) : TurnIs count data ws r n l n []
  | chg (x : DirV) (at_ E : Int) (h : r = some (x, at_)) (hE : chgE x.files l = E) (h0 : E ≠ 0) : TurnIs count data ws r n l E []
  | many (x : DirV) (at_ : Int) (h : r = some (x, at_)) (hE : chgE x.files l = 0) (hm : 32 < (x.files.filter fun f => !namedC l f.name).length + (putsC l).length) : TurnIs count data ws r n l 42 []
  | place (x : DirV) (at_ E : Int) (h : r = some (x, at_)) (hE : chgE x.files l = 0) (hm : (x.files.filter fun f => !namedC l f.name).length + (putsC l).length ≤ 32) (hp : placeN count (allPcs x.files) (csOf (putsC l)) = .error E) : TurnIs count data ws r n l E []
  | last (x : DirV) (o : Nat) (P : List FileV) (h : r = some (x, 8 - (o : Int))) (ho : o = 0 ∨ o = 8) (hE : chgE x.files l = 0) (hm : (x.files.filter fun f => !namedC l f.name).length + (putsC l).length ≤ 32) (hp : placeN count (allPcs x.files) (csOf (putsC l)) = .ok P) (hG : genK data ws o x.gen 8 + 1 = 4611686018427387904) : TurnIs count data ws r n l 42 []
  | bad (x : DirV) (o : Nat) (P ss : List FileV) (G m : Int) (b : List Nat) (h : r = some (x, 8 - (o : Int))) (ho : o = 0 ∨ o = 8) (hE : chgE x.files l = 0) (hm : (x.files.filter fun f => !namedC l f.name).length + (putsC l).length ≤ 32) (hp : placeN count (allPcs x.files) (csOf (putsC l)) = .ok P) (hG : genK data ws o x.gen 8 + 1 = G) (hG2 : G ≠ 4611686018427387904) (hpm : ((x.files.filter fun f => !namedC l f.name) ++ P).Perm ss) (hup : ss.Pairwise fun x y => Op.bytesLess y.name.toList x.name.toList = false) (hw : Wrote ⟨G, ss⟩ m b) (hm0 : m ≠ 0) : TurnIs count data ws r n l m []
  | ok (x : DirV) (o : Nat) (P ss : List FileV) (G : Int) (b : List Nat) (F : Acts) (h : r = some (x, 8 - (o : Int))) (ho : o = 0 ∨ o = 8) (hE : chgE x.files l = 0) (hm : (x.files.filter fun f => !namedC l f.name).length + (putsC l).length ≤ 32) (hp : placeN count (allPcs x.files) (csOf (putsC l)) = .ok P) (hG : genK data ws o x.gen 8 + 1 = G) (hG2 : G ≠ 4611686018427387904) (hpm : ((x.files.filter fun f => !namedC l f.name) ++ P).Perm ss) (hup : ss.Pairwise fun x y => Op.bytesLess y.name.toList x.name.toList = false) (hw : Wrote ⟨G, ss⟩ 0 b) (hF : filesA P (valsOf (putsC l)) = F) :
      TurnIs count data ws r n l 0 ((if F = [] then [] else F ++ [flA]) ++ (secsA o b 8 ++ [flA]))
/-- What turn leaves in memory. -/
structure TurnOut (w : World) (S : Int → Acts → Prop) (e : Ending) (w' : World) : Prop where
  ex : ∃ m A v ev L, S m A ∧ e = .returned (.tuple #[v, ev]) ∧ ErrV ev m ∧ AOwn w' w.heap.size v L ∧ L.map Prod.fst = A ∧ Below w.heap.size w w'
theorem place_ne : ∀ {count : Int} {cs : List (ByteArray × List Nat)} {used : Pcs} {E : Int}, placeN count used cs = .error E → E ≠ 0
  | count, [], used, E, h => by cases h
  | count, c :: cs, used, E, h => by
    unfold placeN at h
    split at h
    · cases h; decide
    · split at h
      · rename_i h2
        cases h
        exact h2
      · split at h
        · cases h
        · rename_i h3
          cases h
          exact place_ne h3
theorem tErr_out {w : World} {S : Int → Acts → Prop} {m : Int} {e : Ending} {w' : World} (h : TErr w m e w') (hS : S m []) (hm : m ≠ 0) : TurnOut w S e w' := by
  obtain ⟨ev, rfl, hf, hb⟩ := h.ex
  exact ⟨⟨m, [], _, ev, [], hS, rfl, .inr ⟨hm, hf⟩, aown_nil _ _, rfl, hb⟩⟩
theorem turn_any (v : Value) (count : Int) (data : List Nat) (ws : Puts) (lq : Option Addr) (ln lc : Nat) (l : List CV) (w : World) (hL : Laid w) (hd : DiskIn w v count data ws) (r : Option (DirV × Int)) (n : Int) (hm : MountIs count data ws r n)
    (hl : ChgIn w lq ln lc l) (hvs : ∀ y ∈ l, (y.val.size : Int) ≤ 9223372036854775000) :
    Calls Tryz.prog 24 #[v, .slice lq ln lc] w fun e w' => TurnOut w (TurnIs count data ws r n l) e w' := by
  rcases r with _ | ⟨x, at_⟩
  · refine (turn_none v count data ws lq ln lc w hL hd n hm).mono fun e w' h => tErr_out h (.none rfl) ?_
    rcases mountIs_none hm with h | h <;> omega
  · by_cases hE : chgE x.files l = 0
    · by_cases hfew : (x.files.filter fun f => !namedC l f.name).length + (putsC l).length ≤ 32
      · cases hp : placeN count (allPcs x.files) (csOf (putsC l)) with
        | error E => exact (turn_place v count data ws lq ln lc l w hL hd x at_ n hm hl hvs hE hfew E hp).mono fun e w' h => tErr_out h (.place x at_ E rfl hE hfew hp) (place_ne hp)
        | ok P =>
          obtain ⟨o, ho, hoo⟩ : ∃ o : Nat, at_ = 8 - (o : Int) ∧ (o = 0 ∨ o = 8) := by
            rcases mount_at hm with h | h
            · exact ⟨8, by omega, .inr rfl⟩
            · exact ⟨0, by omega, .inl rfl⟩
          subst ho
          refine (turn_go v count data ws lq ln lc l w hL hd x _ n hm hl hvs hE hfew P hp o rfl (by omega) _ rfl _ rfl).mono fun e w' h => ?_
          rcases h.ex with ⟨hG, ht⟩ | ⟨hG, ss, hpm, hup, m, b, hw, ⟨hm0, ht⟩ | ⟨rfl, v', L, rfl, ha, hLm, hb⟩⟩
          · exact tErr_out ht (.last x o P rfl hoo hE hfew hp hG) (by decide)
          · exact tErr_out ht (.bad x o P ss _ m b rfl hoo hE hfew hp rfl hG hpm hup hw hm0) hm0
          · exact ⟨⟨0, _, v', .nilIface, L, .ok x o P ss _ b _ rfl hoo hE hfew hp rfl hG hpm hup hw rfl, rfl, .inl ⟨rfl, rfl⟩, ha, hLm, hb⟩⟩
      · exact (turn_many v count data ws lq ln lc l w hL hd x at_ n hm hl hE (by omega)).mono fun e w' h => tErr_out h (.many x at_ rfl hE (by omega)) (by decide)
    · exact (turn_chg v count data ws lq ln lc l w hL hd x at_ n hm hl.lies hl.len hl.cap hl.fits hl.keys _ rfl hE).mono fun e w' h => tErr_out h (.chg x at_ _ rfl rfl hE) hE
theorem AOwn.set {w : World} {base : Nat} {v : Value} {l : List ActF} (h : AOwn w base v l) {a : Addr} (ha : a.block < base) (x : Value) : AOwn (w.setCell a x) base v l := ⟨ownsRow_setCell_below h.row ha x, fun y hy => ⟨ownsRow_setCell_below (h.data y hy).own ha x, (h.data y hy).byt⟩⟩
end Go.Proofs.YtkgmhmhphgaclabGreatDoor
namespace Go.Proofs.YtkgmhmhphgaclabGreatDoor
open Go.RowKit Go.WideShapes Rm

def toV (c : CV) : ChgV := ⟨c.key, numsOf c.val, c.gone⟩
theorem putting_of (l : List CV) : puttingN (l.map toV) = csOf (putsC l) := by
  unfold puttingN csOf putsC
  rw [List.filter_map, List.map_map]
  rfl
theorem vals_of (l : List CV) : (puttingN (l.map toV)).map Prod.snd = valsOf (putsC l) := by
  rw [putting_of]
  unfold csOf valsOf
  rw [List.map_map]
  rfl
theorem stay_of (old : List FileV) (l : List CV) : stayN old (l.map toV) = old.filter fun f => !namedC l f.name := by
  unfold stayN namedC
  refine List.filter_congr fun f _ => ?_
  rw [List.all_map]
  induction l with
  | nil => rfl
  | cons c l ih =>
    simp only [List.all_cons, List.any_cons, Bool.not_or, ih]
    congr 1
    by_cases hh : c.key = f.name <;> simp [toV, hh]
theorem fromC_zero {old : List FileV} {l : List CV} : ∀ {m k : Nat}, fromC old l m k = 0 → ∀ j, k ≤ j → j < k + m → oneC old l j = 0
  | 0, k, _, j, h1, h2 => by omega
  | m + 1, k, h, j, h1, h2 => by
    rw [fromC] at h
    split at h
    · rename_i h3
      exact absurd h h3
    · rename_i h3
      have h4 : oneC old l k = 0 := Classical.byContradiction h3
      rcases Nat.lt_or_ge k j with h5 | h5
      · exact fromC_zero h j (by omega) (by omega)
      · rw [show j = k by omega]; exact h4
theorem chg_each {old : List FileV} {l : List CV} (h : chgE old l = 0) {k : Nat} (hk : k < l.length) : isNameN (l.getD k zeroCV).key = true ∧ namedC (l.take k) (l.getD k zeroCV).key = false := by
  unfold chgE at h
  split at h
  · cases h
  · have h1 := fromC_zero h k (by omega) (by omega)
    unfold oneC at h1
    split at h1
    · cases h1
    · split at h1
      · cases h1
      · rename_i a b
        exact ⟨by simpa using a, by simpa using b⟩
theorem chg_pair {old : List FileV} {l : List CV} (h : chgE old l = 0) : (l.map toV).Pairwise fun c d => c.key ≠ d.key := by
  rw [List.pairwise_map, List.pairwise_iff_getElem]
  intro i j hi hj hij e
  have h1 := (chg_each h hj).2
  rw [named_hit (k := i) (by rw [List.length_take]; omega) ?_] at h1
  · cases h1
  · rw [List.getD_eq_getElem?_getD, List.getElem?_take_of_lt hij, List.getElem?_eq_getElem hi, List.getD_eq_getElem?_getD, List.getElem?_eq_getElem hj]
    exact e
/-- A turn that can be done: all that the mathematics asks. -/
structure TurnOk (count : Int) (data : List Nat) (ws : Puts) (l : List CV) (x y : DirV) (at_ other : Nat) (fs : List FileV) (A : Acts) : Prop where
  hao : (at_ = 0 ∧ other = 8) ∨ (at_ = 8 ∧ other = 0)
  ho : Okay count data ws
  hc : 96 ≤ count
  hsx : SlotR ltS count (slotK data ws at_ 8) (some x)
  hso : ∃ o, SlotR ltS count (slotK data ws other 8) o ∧ mountS at_ (some x) o = some (x, (at_ : Int))
  hy : IsDir ltS y (bytesN y)
  hxy : x.gen < y.gen
  hg : ∀ i, i < 8 → ((beg8 (nowN data ws ((other + i : Nat) : Int)) : Nat) : Int) ≠ y.gen
  hd : (l.map toV).Pairwise fun c d => c.key ≠ d.key
  hpl : placeN count (allPcs x.files) (puttingN (l.map toV)) = .ok fs
  hmem : ∀ f, f ∈ y.files ↔ f ∈ stayN x.files (l.map toV) ∨ f ∈ fs
  hA : A = turnA (filesA fs ((puttingN (l.map toV)).map Prod.snd)) other y
theorem mount_slot {count : Int} {data : List Nat} {ws : Puts} {x : DirV} {o : Nat} {n : Int} (ho : o = 0 ∨ o = 8) (h : MountIs count data ws (some (x, 8 - (o : Int))) n) : SlotR ltS count (slotK data ws (8 - o) 8) (some x) ∧ ∃ z, SlotR ltS count (slotK data ws o 8) z ∧ mountS (8 - o) (some x) z = some (x, ((8 - o : Nat) : Int)) := by
  rcases h with ⟨_, h, _⟩ | ⟨_, _, h, _⟩ | ⟨_, _, a, b, ha, hb, h, _⟩
  · cases h
  · cases h
  · rcases ho with rfl | rfl
    · have e : b = some x := by
        cases a with
        | none => cases b with
          | none => cases h
          | some y => simp [mountR] at h; rw [h]
        | some z => cases b with
          | none => simp [mountR] at h
          | some y =>
            simp only [mountR] at h
            split at h
            · simp only [Option.some.injEq, Prod.mk.injEq] at h; rw [h.1]
            · simp only [Option.some.injEq, Prod.mk.injEq] at h; exact absurd h.2 (by decide)
      subst e
      exact ⟨hb, a, ha, by show mountR a (some x) = _; rw [← h]; rfl⟩
    · have e : a = some x := by
        cases a with
        | none => cases b with
          | none => cases h
          | some y => simp [mountR] at h
        | some z => cases b with
          | none => simp [mountR] at h; rw [h]
          | some y =>
            simp only [mountR] at h
            split at h
            · simp only [Option.some.injEq, Prod.mk.injEq] at h; exact absurd h.2 (by decide)
            · simp only [Option.some.injEq, Prod.mk.injEq] at h; rw [h.1]
      subst e
      exact ⟨ha, b, hb, by show mountR (some x) b = _; rw [← h]; rfl⟩
theorem turnIs_ok {count : Int} {data : List Nat} {ws : Puts} {r : Option (DirV × Int)} {n : Int} {l : List CV} {A : Acts} (hm : MountIs count data ws r n) (h : TurnIs count data ws r n l 0 A) : ∃ (x y : DirV) (at_ other : Nat) (fs : List FileV), r = some (x, (at_ : Int)) ∧ TurnOk count data ws l x y at_ other fs A := by
  generalize hz : (0 : Int) = z at h
  cases h with
  | none h =>
    subst h
    rcases mountIs_none hm with h | h <;> omega
  | chg x at_ E h hE h0 => exact absurd hz.symm h0
  | many x at_ h hE hm' => cases hz
  | place x at_ E h hE hm' hp => exact absurd hz.symm (place_ne hp)
  | last x o P h ho hE hm' hp hG => cases hz
  | bad x o P ss G m b h ho hE hm' hp hG hG2 hpm hup hw hm0 => exact absurd hz.symm hm0
  | ok x o P ss G b F h ho hE hm' hp hG hG2 hpm hup hw hF =>
    subst h
    have hms := mount_slot ho hm
    have hsm := mountIs_some hm
    have hG' : G < 4611686018427387904 := by
      have h1 := genK_hi data ws o x.gen hsm.1.hi 8
      omega
    have hfr := next_fresh hG hG'
    cases hw with
    | ok h1 h2 =>
      refine ⟨x, ⟨G, ss⟩, 8 - o, o, P, ?_, ⟨by omega, hsm.2.2.2.2, hsm.2.2.2.1, hms.1, hms.2, ⟨h1, h2, rfl⟩, hfr.1, hfr.2, chg_pair hE, by rw [putting_of]; exact hp, fun f => ?_, ?_⟩⟩
      · have : ((8 - o : Nat) : Int) = 8 - (o : Int) := by omega
        rw [this]
      · rw [stay_of]
        show f ∈ ss ↔ _
        rw [← hpm.mem_iff, List.mem_append]
      · rw [vals_of, hF]
        rfl
def ltB (a b : ByteArray) : Bool := Op.bytesLess a.toList b.toList
theorem ltB_irr (a : ByteArray) : ltB a a = false := bl_irrefl _
theorem ltB_tr (a b c : ByteArray) (h1 : ltB a b = true) (h2 : ltB b c = true) : ltB a c = true := bl_trans _ _ _ h1 h2
theorem ba_list {a b : ByteArray} (h : a.toList = b.toList) : a = b := by
  rw [ByteArray.toList_eq, ByteArray.toList_eq] at h
  rcases a with ⟨a⟩; rcases b with ⟨b⟩
  rcases a with ⟨a⟩; rcases b with ⟨b⟩
  simp at h; rw [h]
theorem ltB_tot (a b : ByteArray) (h : a ≠ b) : ltB a b = true ∨ ltB b a = true := by
  cases h1 : ltB a b with
  | true => exact .inl rfl
  | false =>
    cases h2 : ltB b a with
    | true => exact .inr rfl
    | false => exact absurd (ba_list (bl_tri _ _ h1 h2)) h
theorem filesA_full : ∀ {fs : List FileV} {vs : List (List Nat)} {a : Bool × Int × List Nat}, a ∈ filesA fs vs → a.2.2.length = 128
  | f :: fs, v :: vs, a, h => by
    rw [filesA] at h
    rcases List.mem_append.1 h with h | h
    · obtain ⟨k, _, rfl⟩ := fileA_mem h
      exact partN_len v k
    · exact filesA_full h
  | [], _, a, h => by simp [filesA] at h
  | _ :: _, [], a, h => by simp [filesA] at h
/-- The acts can be done, where not too many writes wait; behind them no write waits, and the new directory counts. -/
theorem turn_result {count : Int} {data : List Nat} {ws : Puts} {l : List CV} {x y : DirV} {at_ other : Nat} {fs : List FileV} {A : Acts} (h : TurnOk count data ws l x y at_ other fs A) (hf : ws.length + A.length ≤ 4096) :
    ∃ D, doN count (data, ws) A = .ok (D, []) ∧ Okay count D [] ∧ MountIs count D [] (some (y, (other : Int))) 0 ∧ filesD D [] y = wantN ltB (filesD data ws x) (l.map toV) := by
  have hz : 80 ≤ count ∧ count ≤ 4096 := ⟨by have := h.hc; omega, h.ho.hi⟩
  have hgx := (errK_zero h.hsx.2).2.2
  obtain ⟨p1, p2, p3⟩ := place_facts hz hgx h.hpl
  have h80 : ∀ p ∈ allPcs fs, 80 ≤ p.1 := fun p hp => by obtain ⟨f, hf, hpf⟩ := List.mem_flatMap.1 hp; exact (p3 f hf).1 p hpf
  have hFA := filesA_acts (vs := (puttingN (l.map toV)).map Prod.snd) p1 h80
  obtain ⟨D, W, e⟩ := can_do (count := count) (B := A) (data := data) (ws := ws) (by
    intro a ha
    rw [h.hA] at ha
    rcases List.mem_append.1 ha with ha | ha
    · split at ha
      · cases ha
      · rcases List.mem_append.1 ha with ha | ha
        · obtain ⟨_, s, e1, e2, e3, _⟩ := hFA.each a ha
          exact .inr ⟨by omega, by omega, filesA_full ha⟩
        · rw [List.mem_singleton.1 ha]; exact .inl rfl
    · rcases List.mem_append.1 ha with ha | ha
      · obtain ⟨i, hi, rfl⟩ := List.mem_map.1 ha
        rw [List.mem_range] at hi
        have := h.hao
        have := h.hc
        exact .inr ⟨by simp only; omega, by simp only; omega, (sec_bytes h.hy hi).1⟩
      · rw [List.mem_singleton.1 ha]; exact .inl rfl) hf
  have e' := e
  rw [h.hA] at e'
  have hW := turn_sure e'
  subst hW
  have hdn := done_holds ltB_tot ltB_irr ltB_tr h.hao h.ho h.hc h.hsx h.hy h.hxy h.hd h.hpl h.hmem e'
  have hok : Okay count D [] := okay_do _ (s := (data, ws)) (s' := (D, [])) h.ho e
  refine ⟨D, e, hok, ?_, hdn.2.2.2⟩
  refine .inr (.inr ⟨hok, h.hc, ?_⟩)
  rcases h.hao with ⟨rfl, rfl⟩ | ⟨rfl, rfl⟩
  · exact ⟨some x, some y, hdn.1, hdn.2.1, hdn.2.2.1.symm, by simp⟩
  · exact ⟨some y, some x, hdn.2.1, hdn.1, hdn.2.2.1.symm, by simp⟩
end Go.Proofs.YtkgmhmhphgaclabGreatDoor
namespace Go.Proofs.YtkgmhmhphgaclabGreatDoor
open Go.RowKit Go.WideShapes Rm

theorem roomD (a b : Addr) (ev old : Value) (n : Int) (u : FrameMode) (w : World) (hg : ErrT w) (hv : ErrV ev n) (ha : w.cell? a = some ev) (hb : w.cell? b = some old) (hf : w.frozen? b = false) :
    CallsD Tryz.prog 35 #[.pointer (some a), .pointer (some b)] u w fun e u' w' => u' = u ∧ e = .returned (.tuple #[]) ∧ ∃ w1, w' = w1.setCell b (.int .i64 n) ∧ Below w.heap.size w w1 := by
  have hn := number_v ev n hv w hg
  have hlt := World.block_lt_of_cell? _ _ hb
  go_enter_d Tryz.func35, Tryz.ntmps35
  go_wp2_with fail
  refine hn.mono ?_
  rintro e w1 ⟨rfl, hb1⟩
  have hb2 : w1.cell? b = some old := (hb1.cell hlt).trans hb
  have hf2 : w1.frozen? b = false := (hb1.frozen hlt).trans hf
  go_wp2
  go_end0
  exact ⟨rfl, w1, rfl, hb1⟩
def roomN (count : Int) : Option (DirV × Int) → Int
  | some (x, _) => count - 80 - takenN x.files
  | none => 0
set_option maxRecDepth 8000 in
set_option maxHeartbeats 2000000 in
theorem Room_any (v : Value) (count : Int) (data : List Nat) (ws : Puts) (w : World) (hL : Laid w) (hd : DiskIn w v count data ws) (r : Option (DirV × Int)) (n : Int) (hm : MountIs count data ws r n) :
    Calls Tryz.prog 15 #[v] w fun e w' => e = .returned (.tuple #[.int .i64 (roomN count r), .int .i64 n]) ∧ Below w.heap.size w w' := by
  obtain ⟨p, c, q, m, rfl, _⟩ := hd.parts
  have hb3 : Below w.heap.size w (((w.alloc (.cells #[.int .i64 count, .slice p data.length c, .slice q ws.length m] 25)).alloc (.cells #[.int .i64 0] 31)).alloc (.cells #[.nilIface] 63)) := ((below_alloc w _).alloc (by simp) _).alloc (by simp; omega) _
  have hfr := free_any4 _ count data ws (((w.alloc (.cells #[.int .i64 count, .slice p data.length c, .slice q ws.length m] 25)).alloc (.cells #[.int .i64 0] 31)).alloc (.cells #[.nilIface] 63)) (hL.below hb3) (hd.below hb3) r n hm
  have HG : Hid (ErrT w) := hL.err
  have hmf : ∀ (fn : Fn) (first cap : Array Value) (w : World), (Instr.makeFunc fn first cap).run Tryz.prog w = .ok (.func fn first cap) w := fun _ _ _ _ => rfl
  have hdk : (((w.alloc (.cells #[.int .i64 count, .slice p data.length c, .slice q ws.length m] 25)).alloc (.cells #[.int .i64 0] 31)).alloc (.cells #[.nilIface] 63)).heap[w.heap.size]? = some (.cells #[.int .i64 count, .slice p data.length c, .slice q ws.length m] 25 (0, 0)) := by
    have h1 := heap_alloc_new w (.cells #[.int .i64 count, .slice p data.length c, .slice q ws.length m] 25)
    have h2 := ((below_alloc (w.alloc (.cells #[.int .i64 count, .slice p data.length c, .slice q ws.length m] 25)) (.cells #[.int .i64 0] 31)).block _ (by simp)).trans h1
    exact ((below_alloc ((w.alloc (.cells #[.int .i64 count, .slice p data.length c, .slice q ws.length m] 25)).alloc (.cells #[.int .i64 0] 31)) (.cells #[.nilIface] 63)).block _ (by simp; omega)).trans h2
  obtain ⟨c0, c1, c2⟩ := three_cells hdk
  have HMI : Hid (MountIs count data ws r n) := hm
  clear hL hd hm hdk
  rcases r with _ | ⟨x, at_⟩
  · go_enter_defers Tryz.func15, Tryz.ntmps15
    go_wp2_with fail
    refine hfr.mono ?_
    rintro e w1 ⟨ev, rfl, hfl, hbb⟩
    have hs1 := hbb.size
    simp at hs1
    obtain ⟨ce, cr, fe, fr⟩ := vars2 (a := .int .i64 0) (b := .nilIface) (s := 31) (t := 63) (w.alloc (.cells #[.int .i64 count, .slice p data.length c, .slice q ws.length m] 25)) w1 hbb
    simp only [heap_size_alloc] at ce cr fe fr
    have HB : Hid (Below w.heap.size w w1) := hb3.trans (hbb.mono hb3.size)
    have HE : Hid (ErrV ev n) := .inr ⟨by rcases mountIs_none HMI.out with h | h <;> omega, hfl⟩
    obtain ⟨tx, vx, rfl⟩ := hfl.iface
    clear hbb hfr hb3 hfl c0 c1 c2
    have hdoor := doorV (A := ⟨w.heap.size + 1 + 1, 0, none⟩) (E := ⟨w.heap.size + 1, 0, none⟩) (by simp) cr ce fr fe (ev := (.iface tx vx))
    have HDR : Hid (((w1.setCell ⟨w.heap.size + 1 + 1, 0, none⟩ (.iface tx vx)).setCell ⟨w.heap.size + 1, 0, none⟩ (.int .i64 0)).cell? ⟨w.heap.size + 1 + 1, 0, none⟩ = some (.iface tx vx) ∧ ((w1.setCell ⟨w.heap.size + 1 + 1, 0, none⟩ (.iface tx vx)).setCell ⟨w.heap.size + 1, 0, none⟩ (.int .i64 0)).cell? ⟨w.heap.size + 1, 0, none⟩ = some (.int .i64 0) ∧ ((w1.setCell ⟨w.heap.size + 1 + 1, 0, none⟩ (.iface tx vx)).setCell ⟨w.heap.size + 1, 0, none⟩ (.int .i64 0)).frozen? ⟨w.heap.size + 1, 0, none⟩ = false) := hdoor
    clear hdoor
    go_wp2
    obtain ⟨g1, g2, g3⟩ := HDR.out
    have hbW : Below w.heap.size w ((w1.setCell ⟨w.heap.size + 1 + 1, 0, none⟩ (.iface tx vx)).setCell ⟨w.heap.size + 1, 0, none⟩ (.int .i64 0)) := (HB.out.setCell (by simp; omega) _).setCell (by simp) _
    generalize (w1.setCell ⟨w.heap.size + 1 + 1, 0, none⟩ (.iface tx vx)).setCell ⟨w.heap.size + 1, 0, none⟩ (.int .i64 0) = W at *
    refine leaves_cons (f := 35) (args := #[.pointer (some ⟨w.heap.size + 1 + 1, 0, none⟩), .pointer (some ⟨w.heap.size + 1, 0, none⟩)]) (by simp) (by simp [go_sem]) ?_
    refine (roomD ⟨w.heap.size + 1 + 1, 0, none⟩ ⟨w.heap.size + 1, 0, none⟩ (.iface tx vx) (.int .i64 0) n .returning _ (HG.out.below hbW) HE.out g1 g2 g3).mono ?_
    rintro e u' w'' ⟨rfl, rfl, w3, rfl, hb3⟩
    have hltE := World.block_lt_of_cell? _ _ g2
    have k1 : (w3.setCell ⟨w.heap.size + 1, 0, none⟩ (.int .i64 n)).cell? ⟨w.heap.size + 1, 0, none⟩ = some (.int .i64 n) := World.cell?_setCell_same _ _ _ ((hb3.cell hltE).trans g2)
    have k2 : Below w.heap.size w (w3.setCell ⟨w.heap.size + 1, 0, none⟩ (.int .i64 n)) := (hbW.trans (hb3.mono hbW.size)).setCell (by simp) _
    generalize w3.setCell ⟨w.heap.size + 1, 0, none⟩ (.int .i64 n) = w4 at *
    simp [Leaves, settle, results, Tryz.results15, go_sem, k1]
    exact ⟨rfl, k2⟩
  · obtain ⟨_, _, hn0, _⟩ := mountIs_some HMI.out
    subst hn0
    go_enter_defers Tryz.func15, Tryz.ntmps15
    go_wp2_with fail
    refine hfr.mono ?_
    rintro e w1 ⟨rfl, hbb⟩
    have hs1 := hbb.size
    simp at hs1
    obtain ⟨ce, cr, fe, fr⟩ := vars2 (a := .int .i64 0) (b := .nilIface) (s := 31) (t := 63) (w.alloc (.cells #[.int .i64 count, .slice p data.length c, .slice q ws.length m] 25)) w1 hbb
    simp only [heap_size_alloc] at ce cr fe fr
    have HB : Hid (Below w.heap.size w w1) := hb3.trans (hbb.mono hb3.size)
    have HE : Hid (ErrV .nilIface 0) := .inl ⟨rfl, rfl⟩
    obtain ⟨K, hK⟩ : ∃ K, count - 80 - takenN x.files = K := ⟨_, rfl⟩
    have HK : Hid (roomN count (some (x, at_)) = K) := hK
    rw [hK]
    clear hbb hfr hb3 c0 c1 c2 hK
    have hdoor := doorV (A := ⟨w.heap.size + 1 + 1, 0, none⟩) (E := ⟨w.heap.size + 1, 0, none⟩) (by simp) cr ce fr fe (ev := .nilIface)
    have HDR : Hid (((w1.setCell ⟨w.heap.size + 1 + 1, 0, none⟩ .nilIface).setCell ⟨w.heap.size + 1, 0, none⟩ (.int .i64 0)).cell? ⟨w.heap.size + 1 + 1, 0, none⟩ = some .nilIface ∧ ((w1.setCell ⟨w.heap.size + 1 + 1, 0, none⟩ .nilIface).setCell ⟨w.heap.size + 1, 0, none⟩ (.int .i64 0)).cell? ⟨w.heap.size + 1, 0, none⟩ = some (.int .i64 0) ∧ ((w1.setCell ⟨w.heap.size + 1 + 1, 0, none⟩ .nilIface).setCell ⟨w.heap.size + 1, 0, none⟩ (.int .i64 0)).frozen? ⟨w.heap.size + 1, 0, none⟩ = false) := hdoor
    clear hdoor
    go_wp2
    obtain ⟨g1, g2, g3⟩ := HDR.out
    have hbW : Below w.heap.size w ((w1.setCell ⟨w.heap.size + 1 + 1, 0, none⟩ .nilIface).setCell ⟨w.heap.size + 1, 0, none⟩ (.int .i64 0)) := (HB.out.setCell (by simp; omega) _).setCell (by simp) _
    generalize (w1.setCell ⟨w.heap.size + 1 + 1, 0, none⟩ .nilIface).setCell ⟨w.heap.size + 1, 0, none⟩ (.int .i64 0) = W at *
    refine leaves_cons (f := 35) (args := #[.pointer (some ⟨w.heap.size + 1 + 1, 0, none⟩), .pointer (some ⟨w.heap.size + 1, 0, none⟩)]) (by simp) (by simp [go_sem]) ?_
    refine (roomD ⟨w.heap.size + 1 + 1, 0, none⟩ ⟨w.heap.size + 1, 0, none⟩ .nilIface (.int .i64 0) 0 .returning _ (HG.out.below hbW) HE.out g1 g2 g3).mono ?_
    rintro e u' w'' ⟨rfl, rfl, w3, rfl, hb3⟩
    have hltE := World.block_lt_of_cell? _ _ g2
    have k1 : (w3.setCell ⟨w.heap.size + 1, 0, none⟩ (.int .i64 0)).cell? ⟨w.heap.size + 1, 0, none⟩ = some (.int .i64 0) := World.cell?_setCell_same _ _ _ ((hb3.cell hltE).trans g2)
    have k2 : Below w.heap.size w (w3.setCell ⟨w.heap.size + 1, 0, none⟩ (.int .i64 0)) := (hbW.trans (hb3.mono hbW.size)).setCell (by simp) _
    generalize w3.setCell ⟨w.heap.size + 1, 0, none⟩ (.int .i64 0) = w4 at *
    simp [Leaves, settle, results, Tryz.results15, go_sem, k1]
    exact ⟨by rw [HK.out], k2⟩
end Go.Proofs.YtkgmhmhphgaclabGreatDoor
