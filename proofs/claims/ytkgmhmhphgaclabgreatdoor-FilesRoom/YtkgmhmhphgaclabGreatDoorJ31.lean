/-
  What writeNext asks, of the files that stay and those that are placed; with no program.
-/
import Derived.Test.YtkgmhmhphgaclabGreatDoorJ30
namespace Go.Proofs.YtkgmhmhphgaclabGreatDoor
open Go.RowKit Go.WideShapes Rm

/-- What is asked of the changes in memory. -/
structure ChgIn (w : World) (lq : Option Addr) (ln lc : Nat) (l : List CV) : Prop where
  lies : CsIn w lq l
  len : ln = l.length
  cap : ln ≤ lc
  fits : (ln : Int) ≤ 9223372036854775807
  keys : ∀ y ∈ l, (y.key.size : Int) ≤ 9223372036854775807
theorem chg_few {old : List FileV} {l : List CV} (h : chgE old l = 0) : l.length ≤ 64 := by
  rcases Nat.lt_or_ge 64 l.length with h1 | h1
  · unfold chgE at h
    rw [if_pos h1] at h
    cases h
  · exact h1
set_option maxRecDepth 8000 in
set_option maxHeartbeats 4000000 in
theorem turn_many (v : Value) (count : Int) (data : List Nat) (ws : Puts) (lq : Option Addr) (ln lc : Nat) (l : List CV) (w : World) (hL : Laid w) (hd : DiskIn w v count data ws) (x : DirV) (at_ n : Int) (hm : MountIs count data ws (some (x, at_)) n)
    (hl : ChgIn w lq ln lc l) (hE : chgE x.files l = 0) (hmany : 32 < (x.files.filter fun f => !namedC l f.name).length + (putsC l).length) :
    Calls Tryz.prog 24 #[v, .slice lq ln lc] w fun e w' => TErr w 42 e w' := by
  obtain ⟨p, c, q, m, rfl, _⟩ := hd.parts
  have HMT := mount_any _ count data ws (w.alloc (.cells #[.int .i64 count, .slice p data.length c, .slice q ws.length m] 25)) (hL.below (below_alloc _ _)) (hd.below (below_alloc _ _)) _ n hm
  have HMAY : Hid (May ltS x) := (mountIs_some hm).1
  have HLL : Hid (ChgIn w lq ln lc l ∧ chgE x.files l = 0 ∧ 32 < (x.files.filter fun f => !namedC l f.name).length + (putsC l).length) := ⟨hl, hE, hmany⟩
  clear hd hL hm hl hE hmany
  go_enter Tryz.func24, Tryz.ntmps24
  go_wp2_with fail
  refine HMT.mono ?_
  rintro e w2 ⟨ls, lv, hls, rfl, hfo, hb2⟩
  obtain ⟨fq, fm, rfl, _⟩ := hfo.form
  have hB2 : Below w.heap.size w w2 := below_bt (below_alloc _ _) hb2
  have hl32 : ls.length ≤ 32 := by
    have h := congrArg List.length hls
    rw [List.length_map] at h
    rw [h]
    exact HMAY.out.many
  obtain ⟨L, hLn⟩ : ∃ L, ls.length = L := ⟨_, rfl⟩
  have HLS : Hid (ls.map Prod.fst = x.files ∧ ls.length ≤ 32) := ⟨hls, hl32⟩
  rw [hLn] at hfo ⊢
  have hB3 : Below w.heap.size w (w2.alloc (.cells #[.int .i64 x.gen, .slice fq L fm] 43)) := below_bt hB2 (below_alloc _ _)
  have hck := checkChanges_any (.slice fq L fm) x.files lq ln lc l (w2.alloc (.cells #[.int .i64 x.gen, .slice fq L fm] 43)) ((hfo.files HMAY.out hls).below (below_alloc _ _)) (HLL.out.1.lies.below hB3) HLL.out.1.len HLL.out.1.cap HLL.out.1.fits HLL.out.1.keys 0 HLL.out.2.1
  have HB3 : Hid (Below w.heap.size w (w2.alloc (.cells #[.int .i64 x.gen, .slice fq L fm] 43))) := hB3
  have HX3 : Hid ((w2.alloc (.cells #[.int .i64 x.gen, .slice fq L fm] 43)).heap[w2.heap.size]? = some (.cells #[.int .i64 x.gen, .slice fq L fm] 43 (0, 0))) := heap_alloc_new _ _
  have HFO : Hid (FMix (w2.alloc (.cells #[.int .i64 x.gen, .slice fq L fm] 43)) _ _ (.slice fq L fm) ls) := (hfo.mix.below (below_alloc _ _))
  clear HMT hb2 hB2 hB3 hfo hls hLn hl32
  go_wp2_with fail
  refine hck.mono ?_
  rintro e w4 ⟨ev, rfl, hev, hb4⟩
  obtain rfl : ev = .nilIface := by
    rcases hev with ⟨_, h⟩ | ⟨h, _⟩
    · exact h
    · exact absurd rfl h
  have HB4 : Hid (Below w.heap.size w w4) := below_bt HB3.out hb4
  have HX4 := (hb4.block _ (lt_heap HX3.out)).trans HX3.out
  obtain ⟨x0, x1⟩ := two_cells HX4
  have hst := staying_any (.slice fq L fm) ls _ _ lq ln lc l w4 (HFO.out.below hb4) (by have := HLS.out.2; omega) (HLL.out.1.lies.below HB4.out) HLL.out.1.len HLL.out.1.fits
  clear hck hev hb4 HX3 HX4 HFO HB3
  go_wp2_with fail
  refine hst.mono ?_
  rintro e w5 ⟨sv, rfl, hsv⟩
  obtain ⟨sq, sm, rfl, _⟩ := hsv.own.form
  have HB5 : Hid (Below w.heap.size w w5) := below_bt HB4.out hsv.bel
  have hpt := putting_any lq ln lc l w5 (HLL.out.1.lies.below HB5.out) HLL.out.1.len (by have := chg_few HLL.out.2.1; have := HLL.out.1.len; omega)
  have hlen : (stayP ls l).length = (x.files.filter fun f => !namedC l f.name).length := by
    rw [← HLS.out.1]
    unfold stayP
    rw [List.filter_map, List.length_map]
    rfl
  obtain ⟨sl, hsl⟩ : ∃ m, (stayP ls l).length = m := ⟨_, rfl⟩
  have HSL : Hid (32 < sl + (putsC l).length ∧ sl ≤ 32) := ⟨by rw [← hsl, hlen]; exact HLL.out.2.2, by have h1 := stayP_len ls l ls.length; rw [List.take_length] at h1; have h2 := HLS.out.2; omega⟩
  rw [hsl]
  clear hst hsv hlen hsl x0 x1
  go_wp2_with fail
  refine hpt.mono ?_
  rintro e w6 ⟨pv, rfl, hpv⟩
  obtain ⟨pq, pm, rfl, _⟩ := own_form hpv.own
  have HB6 : Hid (Below w.heap.size w w6) := below_bt HB5.out hpv.bel
  obtain ⟨pl, hpl⟩ : ∃ m, (putsC l).length = m := ⟨_, rfl⟩
  have hlt : (32 : Int) < (sl : Int) + (pl : Int) := by have := HSL.out.1; omega
  have hle : (sl : Int) ≤ 32 := by have := HSL.out.2; omega
  have hle2 : (pl : Int) ≤ 64 := by have h1 := chg_few HLL.out.2.1; have h2 := putsC_len l l.length; rw [List.take_length] at h2; omega
  rw [hpl]
  clear hpt hpv hpl
  go_wp2
  go_ret2
  exact ⟨⟨_, rfl, Faults.one _ _, HB6.out⟩⟩
end Go.Proofs.YtkgmhmhphgaclabGreatDoor
namespace Go.Proofs.YtkgmhmhphgaclabGreatDoor
open Go.RowKit Go.WideShapes Rm

theorem own_far {w : World} {base n m : Nat} {b o : Nat} {l : List CV} (h : COwn w base (.slice (some ⟨b, o, none⟩) n m) l) {base' : Nat} {u : Value} {U : Pcs} (hu : POwn w base' u U) : some b ≠ u.ownBlock := by
  intro e
  obtain ⟨C, h2⟩ := own_blk hu e.symm
  rcases h.2 with ⟨hv, _⟩ | ⟨g, cap, cur, hv, _, hg, _⟩
  · cases hv
  · simp only [Value.slice.injEq, Option.some.injEq, Addr.mk.injEq] at hv
    obtain ⟨⟨rfl, _, _⟩, _, _⟩ := hv
    rw [hg] at h2
    simp at h2
set_option maxRecDepth 8000 in
set_option maxHeartbeats 4000000 in
theorem turn_place (v : Value) (count : Int) (data : List Nat) (ws : Puts) (lq : Option Addr) (ln lc : Nat) (l : List CV) (w : World) (hL : Laid w) (hd : DiskIn w v count data ws) (x : DirV) (at_ n : Int) (hm : MountIs count data ws (some (x, at_)) n)
    (hl : ChgIn w lq ln lc l) (hvs : ∀ y ∈ l, (y.val.size : Int) ≤ 9223372036854775000) (hE : chgE x.files l = 0) (hfew : (x.files.filter fun f => !namedC l f.name).length + (putsC l).length ≤ 32) (E : Int) (hpl : placeN count (allPcs x.files) (csOf (putsC l)) = .error E) :
    Calls Tryz.prog 24 #[v, .slice lq ln lc] w fun e w' => TErr w E e w' := by
  obtain ⟨p, c, q, m, rfl, _⟩ := hd.parts
  have HMT := mount_any _ count data ws (w.alloc (.cells #[.int .i64 count, .slice p data.length c, .slice q ws.length m] 25)) (hL.below (below_alloc _ _)) (hd.below (below_alloc _ _)) _ n hm
  have HMAY : Hid (May ltS x) := (mountIs_some hm).1
  have HLL : Hid (ChgIn w lq ln lc l ∧ chgE x.files l = 0 ∧ (x.files.filter fun f => !namedC l f.name).length + (putsC l).length ≤ 32) := ⟨hl, hE, hfew⟩
  have HVS : Hid (∀ y ∈ l, (y.val.size : Int) ≤ 9223372036854775000) := hvs
  have HEK : Hid (Rm.Good count (allPcs x.files) ∧ (allPcs x.files).length ≤ 4096 ∧ Wf (allPcs x.files)) := by
    have h := errK_zero (mountIs_some hm).2.1
    exact ⟨h.2.2, h.2.1, Rm.Good.wf h.2.2 h.1.2⟩
  have HPL : Hid (placeN count (allPcs x.files) (csOf (putsC l)) = .error E) := hpl
  have HDB : Hid ((w.alloc (.cells #[.int .i64 count, .slice p data.length c, .slice q ws.length m] 25)).heap[w.heap.size]? = some (.cells #[.int .i64 count, .slice p data.length c, .slice q ws.length m] 25 (0, 0))) := heap_alloc_new _ _
  have HWS : Hid (w.heap.size < (w.alloc (.cells #[.int .i64 count, .slice p data.length c, .slice q ws.length m] 25)).heap.size) := lt_heap HDB.out
  clear hd hL hm hl hE hfew hvs hpl
  go_enter Tryz.func24, Tryz.ntmps24
  go_wp2_with fail
  refine HMT.mono ?_
  rintro e w2 ⟨ls, lv, hls, rfl, hfo, hb2⟩
  obtain ⟨fq, fm, rfl, _⟩ := hfo.form
  have hB2 : Below w.heap.size w w2 := below_bt (below_alloc _ _) hb2
  have HDB2 : Hid (w2.heap[w.heap.size]? = some (.cells #[.int .i64 count, .slice p data.length c, .slice q ws.length m] 25 (0, 0))) := (hb2.block _ (lt_heap HDB.out)).trans HDB.out
  have hl32 : ls.length ≤ 32 := by
    have h := congrArg List.length hls
    rw [List.length_map] at h
    rw [h]
    exact HMAY.out.many
  obtain ⟨L, hLn⟩ : ∃ L, ls.length = L := ⟨_, rfl⟩
  have HLS : Hid (ls.map Prod.fst = x.files ∧ ls.length ≤ 32) := ⟨hls, hl32⟩
  rw [hLn] at hfo ⊢
  have hB3 : Below w.heap.size w (w2.alloc (.cells #[.int .i64 x.gen, .slice fq L fm] 43)) := below_bt hB2 (below_alloc _ _)
  have hck := checkChanges_any (.slice fq L fm) x.files lq ln lc l (w2.alloc (.cells #[.int .i64 x.gen, .slice fq L fm] 43)) ((hfo.files HMAY.out hls).below (below_alloc _ _)) (HLL.out.1.lies.below hB3) HLL.out.1.len HLL.out.1.cap HLL.out.1.fits HLL.out.1.keys 0 HLL.out.2.1
  have HB3 : Hid (Below w.heap.size w (w2.alloc (.cells #[.int .i64 x.gen, .slice fq L fm] 43))) := hB3
  have HX3 : Hid ((w2.alloc (.cells #[.int .i64 x.gen, .slice fq L fm] 43)).heap[w2.heap.size]? = some (.cells #[.int .i64 x.gen, .slice fq L fm] 43 (0, 0))) := heap_alloc_new _ _
  have HFO : Hid (FMix (w2.alloc (.cells #[.int .i64 x.gen, .slice fq L fm] 43)) _ _ (.slice fq L fm) ls) := (hfo.mix.below (below_alloc _ _))
  clear HMT hb2 hB2 hB3 hfo hls hLn hl32
  go_wp2_with fail
  refine hck.mono ?_
  rintro e w4 ⟨ev, rfl, hev, hb4⟩
  obtain rfl : ev = .nilIface := by
    rcases hev with ⟨_, h⟩ | ⟨h, _⟩
    · exact h
    · exact absurd rfl h
  have HB4 : Hid (Below w.heap.size w w4) := below_bt HB3.out hb4
  have HB24 : Hid (Below w2.heap.size w2 w4) := below_bt (below_alloc _ _) hb4
  have HX4' : Hid (w4.heap[w2.heap.size]? = some (.cells #[.int .i64 x.gen, .slice fq L fm] 43 (0, 0))) := (hb4.block _ (lt_heap HX3.out)).trans HX3.out
  have HFO4 : Hid _ := HFO.out.below hb4
  have HX4 := (hb4.block _ (lt_heap HX3.out)).trans HX3.out
  obtain ⟨x0, x1⟩ := two_cells HX4
  have hst := staying_any (.slice fq L fm) ls _ _ lq ln lc l w4 (HFO.out.below hb4) (by have := HLS.out.2; omega) (HLL.out.1.lies.below HB4.out) HLL.out.1.len HLL.out.1.fits
  clear hck hev hb4 HX3 HX4 HFO HB3
  go_wp2_with fail
  refine hst.mono ?_
  rintro e w5 ⟨sv, rfl, hsv⟩
  obtain ⟨sq, sm, rfl, _⟩ := hsv.own.form
  have HB5 : Hid (Below w.heap.size w w5) := below_bt HB4.out hsv.bel
  have HB25 : Hid (Below w4.heap.size w4 w5) := hsv.bel
  have hpt := putting_any lq ln lc l w5 (HLL.out.1.lies.below HB5.out) HLL.out.1.len (by have := chg_few HLL.out.2.1; have := HLL.out.1.len; omega)
  have hlen : (stayP ls l).length = (x.files.filter fun f => !namedC l f.name).length := by
    rw [← HLS.out.1]
    unfold stayP
    rw [List.filter_map, List.length_map]
    rfl
  obtain ⟨sl, hsl⟩ : ∃ m, (stayP ls l).length = m := ⟨_, rfl⟩
  have HSL : Hid (sl + (putsC l).length ≤ 32 ∧ sl ≤ 32) := ⟨by rw [← hsl, hlen]; exact HLL.out.2.2, by have h1 := stayP_len ls l ls.length; rw [List.take_length] at h1; have h2 := HLS.out.2; omega⟩
  rw [hsl]
  clear hst hsv hlen hsl x0 x1
  go_wp2_with fail
  refine hpt.mono ?_
  rintro e w6 ⟨pv, rfl, hpv⟩
  obtain ⟨pq, pm, rfl, _⟩ := own_form hpv.own
  have HB6 : Hid (Below w.heap.size w w6) := below_bt HB5.out hpv.bel
  obtain ⟨pl, hpl⟩ : ∃ m, (putsC l).length = m := ⟨_, rfl⟩
  have hlt : (sl : Int) + (pl : Int) ≤ 32 := by have := HSL.out.1; omega
  have hle : (sl : Int) ≤ 32 := by have := HSL.out.2; omega
  have hle2 : (pl : Int) ≤ 64 := by have h1 := chg_few HLL.out.2.1; have h2 := putsC_len l l.length; rw [List.take_length] at h2; omega
  have HPV : Hid (COwn w6 w5.heap.size (.slice pq (putsC l).length pm) (putsC l)) := hpv.own
  have HB46 : Hid (Below w4.heap.size w4 w6) := below_bt HB25.out hpv.bel
  rw [hpl] at HPV ⊢
  have HPLN : Hid ((putsC l).length = pl) := hpl
  clear hpt hpv hpl
  have HD6 : Hid (w6.heap[w.heap.size]? = some (.cells #[.int .i64 count, .slice p data.length c, .slice q ws.length m] 25 (0, 0))) := ((below_bt HB24.out HB46.out).block _ (lt_heap HDB2.out)).trans HDB2.out
  have HX6 : Hid (w6.heap[w2.heap.size]? = some (.cells #[.int .i64 x.gen, .slice fq L fm] 43 (0, 0))) := (HB46.out.block _ (lt_heap HX4'.out)).trans HX4'.out
  have HF6 : Hid (FIn w6 (.slice fq L fm) x.files) := ((HFO4.out.own (Nat.le_refl _)).files HMAY.out HLS.out.1).below HB46.out
  have HPC : Hid (∀ w', Below w6.heap.size w6 w' → Calls Tryz.prog 50 #[.slice fq L fm] w' fun e w'' => ∃ r, e = .returned r ∧ POwn w'' w'.heap.size r (allPcs x.files) ∧ Below w'.heap.size w' w'') := fun w' hb' => pieces_any _ x.files w' (HF6.out.below hb') (by have := HEK.out.2.1; omega)
  have HKS : Hid (∀ w', Below w6.heap.size w6 w' → (w'.cell? ⟨w.heap.size, 0, none⟩ = some (.int .i64 count) ∧ w'.cell? ⟨w2.heap.size, 1, none⟩ = some (.slice fq L fm))) := fun w' hb' => ⟨(three_cells ((hb'.block _ (lt_heap HD6.out)).trans HD6.out)).1, (two_cells ((hb'.block _ (lt_heap HX6.out)).trans HX6.out)).2⟩
  have HPP : Hid (∀ w7 base' uv, base' ≤ w7.heap.size → POwn w7 base' uv (allPcs x.files) → Below w6.heap.size w6 w7 → Calls Tryz.prog 49 #[.int .i64 count, uv, .slice pq pl pm] w7 fun e w' => PlaceP w7 uv.ownBlock (.error E) e w') := fun w7 base' uv hb' hu h67 => by
    have hcs := HPV.out.below h67
    exact place_any count uv (allPcs x.files) base' pq pl pm (putsC l) w7 hu HEK.out.2.2 hb' hcs.cs (fun b o e => by subst e; have := own_far hcs hu; exact this) HPLN.out.symm (by omega) (fun y hy => HVS.out y ((List.mem_filter.1 hy).1)) _ HPL.out
  clear HX4' HDB2 HDB HWS HFO4 HB24 HB25 HB46
  go_upto_region 10 with fail
  obtain ⟨d6, f6⟩ := HKS.out _ (Below.refl _ _)
  go_region_with (first
    | (go_at_call 50; refine (HPC.out _ (by first | exact (Below.refl _ _).drew | exact Below.refl _ _)).mono ?_; rintro e w7 ⟨uv, rfl, huv, hb7⟩; obtain ⟨d7, f7⟩ := HKS.out w7 (by first | exact below_drC hb7 | exact hb7))
    | (go_at_call 49; refine (HPP.out _ _ _ (by first | exact hb7.size | (simpa using hb7.size)) (by first | exact huv | exact huv.below (Below.refl _ _).drew) (by first | exact below_drC hb7 | exact hb7)).mono ?_; rintro e w8 ⟨ev, rfl, hfa, hgr⟩))
  all_goals
    have h67 : Below w6.heap.size w6 w7 := by first | exact below_drC hb7 | exact hb7
    have hlo : ∀ k, uv.ownBlock = some k → w.heap.size ≤ k := fun k hk => by
      have h1 := (huv.lt k hk).1
      have h2 := HB6.out.size
      simp at h1
      omega
    have hB7 : Below w.heap.size w w7 := below_bt HB6.out h67
    have HB8 : Hid (Below w.heap.size w w8) := by
      first
        | exact hB7.grown hgr hB7.size hlo
        | exact (below_bt hB7 (Below.refl _ _).drew).grown hgr (below_bt hB7 (Below.refl _ _).drew).size hlo
    have HFA : Hid (Faults ev E) := hfa
    obtain ⟨T, vv, rfl⟩ := hfa.iface
    clear hfa hgr huv hb7 h67 hlo hB7 HPC HKS HPP d6 f6
    go_wp2
    go_ret2
    exact ⟨⟨_, rfl, HFA.out, HB8.out⟩⟩
end Go.Proofs.YtkgmhmhphgaclabGreatDoor
namespace Go.Proofs.YtkgmhmhphgaclabGreatDoor
open Go.RowKit Go.WideShapes Rm

/-- A row of files from before the list of sectors in use lives past place. -/
theorem FMix.past {w6 w7 w8 : World} {base base0 B : Nat} {v uv : Value} {ls : FPs} {U : Pcs} (h : FMix w6 base base0 v ls) (h67 : Below w6.heap.size w6 w7) (hu : POwn w7 B uv U) (hB : w6.heap.size ≤ B) (hg : w7.grownBy w8 uv.ownBlock) : FMix w8 base base0 v ls := by
  have h7 := h.below h67
  refine ⟨World.ownsRow.kept h7.row hg (apart_own h7.row hu (by decide)), fun x hx => (h7.pcs x hx).kept hg ?_⟩
  cases hk : x.2.ownBlock with
  | none => exact .inl rfl
  | some k =>
    refine .inr fun e => ?_
    have h1 := ((h.pcs x hx).lt k hk).2
    have h2 := (hu.lt k e.symm).1
    omega
theorem FMix.mono0 {w : World} {base base0 base' base0' : Nat} {v : Value} {ls : FPs} (h : FMix w base base0 v ls) (h1 : base' ≤ base) (h2 : base0' ≤ base0) : FMix w base' base0' v ls := ⟨own_mono h.row h1, fun x hx => (h.pcs x hx).mono h2⟩
/-- A row of files lives where another row of files grows that lies ahead of it. -/
theorem FMix.beside {w w' : World} {base base0 bs bs0 : Nat} {v sv : Value} {ls ss : FPs} (h : FMix w base base0 v ls) (hs : FMix w bs bs0 sv ss) (hne : v.ownBlock = none ∨ v.ownBlock ≠ sv.ownBlock) (hg : w.grownBy w' sv.ownBlock) : FMix w' base base0 v ls :=
  ⟨World.ownsRow.kept h.row hg hne, fun x hx => (h.pcs x hx).kept hg (apart_own (h.pcs x hx) hs.row (by decide))⟩
/-- A row that begins behind all of another one is another one. -/
theorem apart_ahead {w : World} {base base0 : Nat} {v sv : Value} {ls : FPs} (h : FMix w base base0 v ls) (hs : ∀ k, sv.ownBlock = some k → k < base) : v.ownBlock = none ∨ v.ownBlock ≠ sv.ownBlock := by
  cases hk : v.ownBlock with
  | none => exact .inl rfl
  | some k =>
    refine .inr fun e => ?_
    have h1 := (World.ownsRow.lt h.row k hk).1
    have h2 := hs k e.symm
    omega
/-- .. and so it is behind the append. -/
theorem apart_grown {w : World} {base base0 : Nat} {v sv sv' : Value} {ls : FPs} (h : FMix w base base0 v ls) (hne : v.ownBlock = none ∨ v.ownBlock ≠ sv.ownBlock) (hw : sv'.ownBlock = sv.ownBlock ∨ sv'.ownBlock = some w.heap.size) : v.ownBlock = none ∨ v.ownBlock ≠ sv'.ownBlock := by
  rcases hw with e | e
  · rw [e]; exact hne
  · cases hk : v.ownBlock with
    | none => exact .inl rfl
    | some k =>
      refine .inr fun e2 => ?_
      have h1 := (World.ownsRow.lt h.row k hk).2
      rw [e] at e2
      have := Option.some.inj e2
      omega
theorem COwn.growF {w w' : World} {base bs bs0 : Nat} {v sv : Value} {l : List CV} {ss : FPs} (h : COwn w base v l) (hs : FMix w bs bs0 sv ss) (hg : w.grownBy w' sv.ownBlock) : COwn w' base v l := World.ownsRow.kept h hg (apart_own h hs.row (by decide))
theorem COwn.growP {w w' : World} {base B : Nat} {v uv : Value} {l : List CV} {U : Pcs} (h : COwn w base v l) (hu : POwn w B uv U) (hg : w.grownBy w' uv.ownBlock) : COwn w' base v l := World.ownsRow.kept h hg (apart_own h hu (by decide))
/-- A box lives where a row of another type grows. -/
theorem box_grow {w w' : World} {base n s B : Nat} {e t : TypeId} {v : Value} {xs : List Value} {C : Array Value} (h : w.ownsRow base e s v n xs) (hg : w.grownBy w' v.ownBlock) (hB : w.heap[B]? = some (.cells C t (0, 0))) (hne : e ≠ t) : w'.heap[B]? = some (.cells C t (0, 0)) := by
  refine (hg.block _ (lt_heap hB) fun e2 => ?_).trans hB
  obtain ⟨C', h2⟩ := own_blk h e2.symm
  rw [hB] at h2
  simp only [Option.some.injEq, Obj.cells.injEq] at h2
  exact hne h2.2.1.symm
/-- The slot that the next directory goes to. -/
theorem mount_at {count : Int} {data : List Nat} {ws : Puts} {x : DirV} {at_ n : Int} (h : MountIs count data ws (some (x, at_)) n) : at_ = 0 ∨ at_ = 8 := by
  rcases h with ⟨_, h, _⟩ | ⟨_, _, h, _⟩ | ⟨_, _, a, b, _, _, h, _⟩
  · cases h
  · cases h
  · unfold mountR at h
    cases a <;> cases b <;> simp at h
    · exact .inr h.2
    · exact .inl h.2
    · split at h
      · simp at h; exact .inr h.2
      · simp at h; exact .inl h.2
end Go.Proofs.YtkgmhmhphgaclabGreatDoor
namespace Go.Proofs.YtkgmhmhphgaclabGreatDoor
open Go.RowKit Go.WideShapes Rm

theorem name_few {s : ByteArray} (h : isNameN s = true) : s.size ≤ 32 := by
  unfold isNameN at h
  rw [Bool.and_eq_true] at h
  exact (of_decide_eq_true h.1).2
theorem stay_pcs (ls : FPs) (l : List CV) : (allPcs ((stayP ls l).map Prod.fst)).length ≤ (allPcs (ls.map Prod.fst)).length := by
  induction ls with
  | nil => exact Nat.le_refl _
  | cons y ls ih =>
    have e : ∀ (a : FileV) (m : List FileV), (allPcs (a :: m)).length = a.pcs.length + (allPcs m).length := fun a m => by simp [allPcs]
    unfold stayP at ih ⊢
    rw [List.map_cons, e]
    by_cases h : (!namedC l y.1.name) = true
    · rw [List.filter_cons, if_pos h, List.map_cons, e]
      omega
    · rw [List.filter_cons, if_neg h]
      omega
theorem next_wf {count : Int} (hz : 80 ≤ count ∧ count ≤ 4096) {x : DirV} (hm : May ltS x) (hk : errK count (allPcs x.files) = 0) {ls O : FPs} (hls : ls.map Prod.fst = x.files) {l : List CV} {P : List FileV} (hp : placeN count (allPcs x.files) (csOf (putsC l)) = .ok P) (hO : O.map Prod.fst = P) (hky : ∀ y ∈ l, (y.key.size : Int) ≤ 9223372036854775807) :
    (∀ y ∈ stayP ls l ++ O, Wf y.1.pcs ∧ wf64 y.1.size ∧ (y.1.name.size : Int) ≤ 9223372036854775807) ∧ (allPcs ((stayP ls l ++ O).map Prod.fst)).length ≤ 1000000 ∧ O.length = (putsC l).length := by
  obtain ⟨h1, h2, h3⟩ := placed_wf hz (errK_zero hk).2.2 hp
  refine ⟨fun y hy => ?_, ?_, ?_⟩
  · rcases List.mem_append.1 hy with h | h
    · have hx : y.1 ∈ x.files := by rw [← hls]; exact List.mem_map_of_mem (List.mem_filter.1 h).1
      have hf := hm.fin _ hx
      have hn := name_few (hm.each _ hx).1
      exact ⟨hf.2, hf.1, by omega⟩
    · have hx : y.1 ∈ P := by rw [← hO]; exact List.mem_map_of_mem h
      obtain ⟨a, b, c, hc, e⟩ := h2 _ hx
      exact ⟨a, b, by rw [e]; exact hky c (List.mem_filter.1 hc).1⟩
  · have e : (allPcs ((stayP ls l ++ O).map Prod.fst)).length = (allPcs ((stayP ls l).map Prod.fst)).length + (allPcs P).length := by
      rw [List.map_append, hO]
      simp [allPcs]
    have h4 := stay_pcs ls l
    rw [hls] at h4
    have h5 := (errK_zero hk).2.1
    have h6 : (allPcs P).length ≤ 4096 := good_len (count := 4096) (Rm.good_more h3.right hz.2)
    omega
  · have := congrArg List.length hO
    rw [List.length_map] at this
    omega
theorem gen_wf {data : List Nat} {ws : Puts} {o : Nat} {g G : Int} (h1 : 1 ≤ g) (h2 : g < 4611686018427387904) (hG : genK data ws o g 8 + 1 = G) : wf64 G ∧ 1 < G ∧ G ≤ 4611686018427387904 := by
  have a := genK_le data ws o g 8
  have b := genK_hi data ws o g h2 8
  unfold wf64
  omega
end Go.Proofs.YtkgmhmhphgaclabGreatDoor
