/-
  turn where there is room: the next directory, and the acts.
-/
import Derived.Test.YtglcpfnpbcnejaaGreatDoorJ29
namespace Go.Proofs.YtglcpfnpbcnejaaGreatDoor
open Go.RowKit Go.WideShapes Rm

theorem own_far {w : World} {base n m : Nat} {b o : Nat} {l : List CV} (h : COwn w base (.slice (some ⟨b, o, none⟩) n m) l) {base' : Nat} {u : Value} {U : Pcs} (hu : POwn w base' u U) : some b ≠ u.ownBlock := by
  intro e
  obtain ⟨C, h2⟩ := own_blk hu e.symm
  rcases h.2 with ⟨hv, _⟩ | ⟨g, cap, cur, hv, _, hg, _⟩
  · cases hv
  · simp only [Value.slice.injEq, Option.some.injEq, Addr.mk.injEq] at hv
    obtain ⟨⟨rfl, _, _⟩, _, _⟩ := hv
    rw [hg] at h2
    simp at h2
set_option maxRecDepth 8000 in
set_option maxHeartbeats 4000000 in
theorem turn_place (v : Value) (count : Int) (data : List Nat) (ws : Puts) (lq : Option Addr) (ln lc : Nat) (l : List CV) (w : World) (hL : Laid w) (hd : DiskIn w v count data ws) (x : DirV) (at_ n : Int) (hm : MountIs count data ws (some (x, at_)) n)
    (hl : ChgIn w lq ln lc l) (hvs : ∀ y ∈ l, (y.val.size : Int) ≤ 9223372036854775000) (hE : chgE x.files l = 0) (hfew : (x.files.filter fun f => !namedC l f.name).length + (putsC l).length ≤ 32) (E : Int) (hpl : placeN count (allPcs x.files) (csOf (putsC l)) = .error E) :
    Calls Tryz.prog 38 #[v, .slice lq ln lc] w fun e w' => TErr w E e w' := by
  obtain ⟨p, c, q, m, rfl, _⟩ := hd.parts
  have HMT := mount_any _ count data ws (w.alloc (.cells #[.int .i64 count, .slice p data.length c, .slice q ws.length m] 25)) (hL.below (below_alloc _ _)) (hd.below (below_alloc _ _)) _ n hm
  have HMAY : Hid (May ltS x) := (mountIs_some hm).1
  have HLL : Hid (ChgIn w lq ln lc l ∧ chgE x.files l = 0 ∧ (x.files.filter fun f => !namedC l f.name).length + (putsC l).length ≤ 32) := ⟨hl, hE, hfew⟩
  have HVS : Hid (∀ y ∈ l, (y.val.size : Int) ≤ 9223372036854775000) := hvs
  have HEK : Hid (Rm.Good count (allPcs x.files) ∧ (allPcs x.files).length ≤ 4096 ∧ Wf (allPcs x.files)) := by
    have h := errK_zero (mountIs_some hm).2.1
    exact ⟨h.2.2, h.2.1, Rm.Good.wf h.2.2 h.1.2⟩
  have HPL : Hid (placeN count (allPcs x.files) (csOf (putsC l)) = .error E) := hpl
  have HDB : Hid ((w.alloc (.cells #[.int .i64 count, .slice p data.length c, .slice q ws.length m] 25)).heap[w.heap.size]? = some (.cells #[.int .i64 count, .slice p data.length c, .slice q ws.length m] 25 (0, 0))) := heap_alloc_new _ _
  have HWS : Hid (w.heap.size < (w.alloc (.cells #[.int .i64 count, .slice p data.length c, .slice q ws.length m] 25)).heap.size) := lt_heap HDB.out
  clear hd hL hm hl hE hfew hvs hpl
  go_enter Tryz.func38, Tryz.ntmps38
  go_wp2_with fail
  refine HMT.mono ?_
  rintro e w2 ⟨ls, lv, hls, rfl, hfo, hb2⟩
  obtain ⟨fq, fm, rfl, _⟩ := hfo.form
  have hB2 : Below w.heap.size w w2 := below_bt (below_alloc _ _) hb2
  have HDB2 : Hid (w2.heap[w.heap.size]? = some (.cells #[.int .i64 count, .slice p data.length c, .slice q ws.length m] 25 (0, 0))) := (hb2.block _ (lt_heap HDB.out)).trans HDB.out
  have hl32 : ls.length ≤ 32 := by
    have h := congrArg List.length hls
    rw [List.length_map] at h
    rw [h]
    exact HMAY.out.many
  obtain ⟨L, hLn⟩ : ∃ L, ls.length = L := ⟨_, rfl⟩
  have HLS : Hid (ls.map Prod.fst = x.files ∧ ls.length ≤ 32) := ⟨hls, hl32⟩
  rw [hLn] at hfo ⊢
  have hB3 : Below w.heap.size w (w2.alloc (.cells #[.int .i64 x.gen, .slice fq L fm] 31)) := below_bt hB2 (below_alloc _ _)
  have hck := checkChanges_any (.slice fq L fm) x.files lq ln lc l (w2.alloc (.cells #[.int .i64 x.gen, .slice fq L fm] 31)) ((hfo.files HMAY.out hls).below (below_alloc _ _)) (HLL.out.1.lies.below hB3) HLL.out.1.len HLL.out.1.cap HLL.out.1.fits HLL.out.1.keys 0 HLL.out.2.1
  have HB3 : Hid (Below w.heap.size w (w2.alloc (.cells #[.int .i64 x.gen, .slice fq L fm] 31))) := hB3
  have HX3 : Hid ((w2.alloc (.cells #[.int .i64 x.gen, .slice fq L fm] 31)).heap[w2.heap.size]? = some (.cells #[.int .i64 x.gen, .slice fq L fm] 31 (0, 0))) := heap_alloc_new _ _
  have HFO : Hid (FMix (w2.alloc (.cells #[.int .i64 x.gen, .slice fq L fm] 31)) _ _ (.slice fq L fm) ls) := (hfo.mix.below (below_alloc _ _))
  clear HMT hb2 hB2 hB3 hfo hls hLn hl32
  go_wp2_with fail
  refine hck.mono ?_
  rintro e w4 ⟨ev, rfl, hev, hb4⟩
  obtain rfl : ev = .nilIface := by
    rcases hev with ⟨_, h⟩ | ⟨h, _⟩
    · exact h
    · exact absurd rfl h
  have HB4 : Hid (Below w.heap.size w w4) := below_bt HB3.out hb4
  have HB24 : Hid (Below w2.heap.size w2 w4) := below_bt (below_alloc _ _) hb4
  have HX4' : Hid (w4.heap[w2.heap.size]? = some (.cells #[.int .i64 x.gen, .slice fq L fm] 31 (0, 0))) := (hb4.block _ (lt_heap HX3.out)).trans HX3.out
  have HFO4 : Hid _ := HFO.out.below hb4
  have HX4 := (hb4.block _ (lt_heap HX3.out)).trans HX3.out
  obtain ⟨x0, x1⟩ := two_cells HX4
  have hst := staying_any (.slice fq L fm) ls _ _ lq ln lc l w4 (HFO.out.below hb4) (by have := HLS.out.2; omega) (HLL.out.1.lies.below HB4.out) HLL.out.1.len HLL.out.1.fits
  clear hck hev hb4 HX3 HX4 HFO HB3
  go_wp2_with fail
  refine hst.mono ?_
  rintro e w5 ⟨sv, rfl, hsv⟩
  obtain ⟨sq, sm, rfl, _⟩ := hsv.own.form
  have HB5 : Hid (Below w.heap.size w w5) := below_bt HB4.out hsv.bel
  have HB25 : Hid (Below w4.heap.size w4 w5) := hsv.bel
  have hpt := putting_any lq ln lc l w5 (HLL.out.1.lies.below HB5.out) HLL.out.1.len (by have := chg_few HLL.out.2.1; have := HLL.out.1.len; omega)
  have hlen : (stayP ls l).length = (x.files.filter fun f => !namedC l f.name).length := by
    rw [← HLS.out.1]
    unfold stayP
    rw [List.filter_map, List.length_map]
    rfl
  obtain ⟨sl, hsl⟩ : ∃ m, (stayP ls l).length = m := ⟨_, rfl⟩
  have HSL : Hid (sl + (putsC l).length ≤ 32 ∧ sl ≤ 32) := ⟨by rw [← hsl, hlen]; exact HLL.out.2.2, by have h1 := stayP_len ls l ls.length; rw [List.take_length] at h1; have h2 := HLS.out.2; omega⟩
  rw [hsl]
  clear hst hsv hlen hsl x0 x1
  go_wp2_with fail
  refine hpt.mono ?_
  rintro e w6 ⟨pv, rfl, hpv⟩
  obtain ⟨pq, pm, rfl, _⟩ := own_form hpv.own
  have HB6 : Hid (Below w.heap.size w w6) := below_bt HB5.out hpv.bel
  obtain ⟨pl, hpl⟩ : ∃ m, (putsC l).length = m := ⟨_, rfl⟩
  have hlt : (sl : Int) + (pl : Int) ≤ 32 := by have := HSL.out.1; omega
  have hle : (sl : Int) ≤ 32 := by have := HSL.out.2; omega
  have hle2 : (pl : Int) ≤ 64 := by have h1 := chg_few HLL.out.2.1; have h2 := putsC_len l l.length; rw [List.take_length] at h2; omega
  have HPV : Hid (COwn w6 w5.heap.size (.slice pq (putsC l).length pm) (putsC l)) := hpv.own
  have HB46 : Hid (Below w4.heap.size w4 w6) := below_bt HB25.out hpv.bel
  rw [hpl] at HPV ⊢
  have HPLN : Hid ((putsC l).length = pl) := hpl
  clear hpt hpv hpl
  have HD6 : Hid (w6.heap[w.heap.size]? = some (.cells #[.int .i64 count, .slice p data.length c, .slice q ws.length m] 25 (0, 0))) := ((below_bt HB24.out HB46.out).block _ (lt_heap HDB2.out)).trans HDB2.out
  have HX6 : Hid (w6.heap[w2.heap.size]? = some (.cells #[.int .i64 x.gen, .slice fq L fm] 31 (0, 0))) := (HB46.out.block _ (lt_heap HX4'.out)).trans HX4'.out
  have HF6 : Hid (FIn w6 (.slice fq L fm) x.files) := ((HFO4.out.own (Nat.le_refl _)).files HMAY.out HLS.out.1).below HB46.out
  have HPC : Hid (∀ w', Below w6.heap.size w6 w' → Calls Tryz.prog 71 #[.slice fq L fm] w' fun e w'' => ∃ r, e = .returned r ∧ POwn w'' w'.heap.size r (allPcs x.files) ∧ Below w'.heap.size w' w'') := fun w' hb' => pieces_any _ x.files w' (HF6.out.below hb') (by have := HEK.out.2.1; omega)
  have HKS : Hid (∀ w', Below w6.heap.size w6 w' → (w'.cell? ⟨w.heap.size, 0, none⟩ = some (.int .i64 count) ∧ w'.cell? ⟨w2.heap.size, 1, none⟩ = some (.slice fq L fm))) := fun w' hb' => ⟨(three_cells ((hb'.block _ (lt_heap HD6.out)).trans HD6.out)).1, (two_cells ((hb'.block _ (lt_heap HX6.out)).trans HX6.out)).2⟩
  have HPP : Hid (∀ w7 base' uv, base' ≤ w7.heap.size → POwn w7 base' uv (allPcs x.files) → Below w6.heap.size w6 w7 → Calls Tryz.prog 70 #[.int .i64 count, uv, .slice pq pl pm] w7 fun e w' => PlaceP w7 uv.ownBlock (.error E) e w') := fun w7 base' uv hb' hu h67 => by
    have hcs := HPV.out.below h67
    exact place_any count uv (allPcs x.files) base' pq pl pm (putsC l) w7 hu HEK.out.2.2 hb' hcs.cs (fun b o e => by subst e; have := own_far hcs hu; exact this) HPLN.out.symm (by omega) (fun y hy => HVS.out y ((List.mem_filter.1 hy).1)) _ HPL.out
  clear HX4' HDB2 HDB HWS HFO4 HB24 HB25 HB46
  go_upto_region 10 with fail
  obtain ⟨d6, f6⟩ := HKS.out _ (Below.refl _ _)
  go_region_with (first
    | (go_at_call 71; refine (HPC.out _ (by first | exact (Below.refl _ _).drew | exact Below.refl _ _)).mono ?_; rintro e w7 ⟨uv, rfl, huv, hb7⟩; obtain ⟨d7, f7⟩ := HKS.out w7 (by first | exact below_drC hb7 | exact hb7))
    | (go_at_call 70; refine (HPP.out _ _ _ (by first | exact hb7.size | (simpa using hb7.size)) (by first | exact huv | exact huv.below (Below.refl _ _).drew) (by first | exact below_drC hb7 | exact hb7)).mono ?_; rintro e w8 ⟨ev, rfl, hfa, hgr⟩))
  all_goals
    have h67 : Below w6.heap.size w6 w7 := by first | exact below_drC hb7 | exact hb7
    have hlo : ∀ k, uv.ownBlock = some k → w.heap.size ≤ k := fun k hk => by
      have h1 := (huv.lt k hk).1
      have h2 := HB6.out.size
      simp at h1
      omega
    have hB7 : Below w.heap.size w w7 := below_bt HB6.out h67
    have HB8 : Hid (Below w.heap.size w w8) := by
      first
        | exact hB7.grown hgr hB7.size hlo
        | exact (below_bt hB7 (Below.refl _ _).drew).grown hgr (below_bt hB7 (Below.refl _ _).drew).size hlo
    have HFA : Hid (Faults ev E) := hfa
    obtain ⟨T, vv, rfl⟩ := hfa.iface
    clear hfa hgr huv hb7 h67 hlo hB7 HPC HKS HPP d6 f6
    go_wp2
    go_ret2
    exact ⟨⟨_, rfl, HFA.out, HB8.out⟩⟩
end Go.Proofs.YtglcpfnpbcnejaaGreatDoor
namespace Go.Proofs.YtglcpfnpbcnejaaGreatDoor
open Go.RowKit Go.WideShapes Rm

/-- A row of files from before the list of sectors in use lives past place. -/
theorem FMix.past {w6 w7 w8 : World} {base base0 B : Nat} {v uv : Value} {ls : FPs} {U : Pcs} (h : FMix w6 base base0 v ls) (h67 : Below w6.heap.size w6 w7) (hu : POwn w7 B uv U) (hB : w6.heap.size ≤ B) (hg : w7.grownBy w8 uv.ownBlock) : FMix w8 base base0 v ls := by
  have h7 := h.below h67
  refine ⟨World.ownsRow.kept h7.row hg (apart_own h7.row hu (by decide)), fun x hx => (h7.pcs x hx).kept hg ?_⟩
  cases hk : x.2.ownBlock with
  | none => exact .inl rfl
  | some k =>
    refine .inr fun e => ?_
    have h1 := ((h.pcs x hx).lt k hk).2
    have h2 := (hu.lt k e.symm).1
    omega
theorem FMix.mono0 {w : World} {base base0 base' base0' : Nat} {v : Value} {ls : FPs} (h : FMix w base base0 v ls) (h1 : base' ≤ base) (h2 : base0' ≤ base0) : FMix w base' base0' v ls := ⟨own_mono h.row h1, fun x hx => (h.pcs x hx).mono h2⟩
/-- A row of files lives where another row of files grows that lies ahead of it. -/
theorem FMix.beside {w w' : World} {base base0 bs bs0 : Nat} {v sv : Value} {ls ss : FPs} (h : FMix w base base0 v ls) (hs : FMix w bs bs0 sv ss) (hne : v.ownBlock = none ∨ v.ownBlock ≠ sv.ownBlock) (hg : w.grownBy w' sv.ownBlock) : FMix w' base base0 v ls :=
  ⟨World.ownsRow.kept h.row hg hne, fun x hx => (h.pcs x hx).kept hg (apart_own (h.pcs x hx) hs.row (by decide))⟩
/-- A row that begins behind all of another one is another one. -/
theorem apart_ahead {w : World} {base base0 : Nat} {v sv : Value} {ls : FPs} (h : FMix w base base0 v ls) (hs : ∀ k, sv.ownBlock = some k → k < base) : v.ownBlock = none ∨ v.ownBlock ≠ sv.ownBlock := by
  cases hk : v.ownBlock with
  | none => exact .inl rfl
  | some k =>
    refine .inr fun e => ?_
    have h1 := (World.ownsRow.lt h.row k hk).1
    have h2 := hs k e.symm
    omega
/-- .. and so it is behind the append. -/
theorem apart_grown {w : World} {base base0 : Nat} {v sv sv' : Value} {ls : FPs} (h : FMix w base base0 v ls) (hne : v.ownBlock = none ∨ v.ownBlock ≠ sv.ownBlock) (hw : sv'.ownBlock = sv.ownBlock ∨ sv'.ownBlock = some w.heap.size) : v.ownBlock = none ∨ v.ownBlock ≠ sv'.ownBlock := by
  rcases hw with e | e
  · rw [e]; exact hne
  · cases hk : v.ownBlock with
    | none => exact .inl rfl
    | some k =>
      refine .inr fun e2 => ?_
      have h1 := (World.ownsRow.lt h.row k hk).2
      rw [e] at e2
      have := Option.some.inj e2
      omega
theorem COwn.growF {w w' : World} {base bs bs0 : Nat} {v sv : Value} {l : List CV} {ss : FPs} (h : COwn w base v l) (hs : FMix w bs bs0 sv ss) (hg : w.grownBy w' sv.ownBlock) : COwn w' base v l := World.ownsRow.kept h hg (apart_own h hs.row (by decide))
theorem COwn.growP {w w' : World} {base B : Nat} {v uv : Value} {l : List CV} {U : Pcs} (h : COwn w base v l) (hu : POwn w B uv U) (hg : w.grownBy w' uv.ownBlock) : COwn w' base v l := World.ownsRow.kept h hg (apart_own h hu (by decide))
/-- A box lives where a row of another type grows. -/
theorem box_grow {w w' : World} {base n s B : Nat} {e t : TypeId} {v : Value} {xs : List Value} {C : Array Value} (h : w.ownsRow base e s v n xs) (hg : w.grownBy w' v.ownBlock) (hB : w.heap[B]? = some (.cells C t (0, 0))) (hne : e ≠ t) : w'.heap[B]? = some (.cells C t (0, 0)) := by
  refine (hg.block _ (lt_heap hB) fun e2 => ?_).trans hB
  obtain ⟨C', h2⟩ := own_blk h e2.symm
  rw [hB] at h2
  simp only [Option.some.injEq, Obj.cells.injEq] at h2
  exact hne h2.2.1.symm
/-- The slot that the next directory goes to. -/
theorem mount_at {count : Int} {data : List Nat} {ws : Puts} {x : DirV} {at_ n : Int} (h : MountIs count data ws (some (x, at_)) n) : at_ = 0 ∨ at_ = 8 := by
  rcases h with ⟨_, h, _⟩ | ⟨_, _, h, _⟩ | ⟨_, _, a, b, _, _, h, _⟩
  · cases h
  · cases h
  · unfold mountR at h
    cases a <;> cases b <;> simp at h
    · exact .inr h.2
    · exact .inl h.2
    · split at h
      · simp at h; exact .inr h.2
      · simp at h; exact .inl h.2
end Go.Proofs.YtglcpfnpbcnejaaGreatDoor
namespace Go.Proofs.YtglcpfnpbcnejaaGreatDoor
open Go.RowKit Go.WideShapes Rm

theorem name_few {s : ByteArray} (h : isNameN s = true) : s.size ≤ 32 := by
  unfold isNameN at h
  rw [Bool.and_eq_true] at h
  exact (of_decide_eq_true h.1).2
theorem stay_pcs (ls : FPs) (l : List CV) : (allPcs ((stayP ls l).map Prod.fst)).length ≤ (allPcs (ls.map Prod.fst)).length := by
  induction ls with
  | nil => exact Nat.le_refl _
  | cons y ls ih =>
    have e : ∀ (a : FileV) (m : List FileV), (allPcs (a :: m)).length = a.pcs.length + (allPcs m).length := fun a m => by simp [allPcs]
    unfold stayP at ih ⊢
    rw [List.map_cons, e]
    by_cases h : (!namedC l y.1.name) = true
    · rw [List.filter_cons, if_pos h, List.map_cons, e]
      omega
    · rw [List.filter_cons, if_neg h]
      omega
theorem next_wf {count : Int} (hz : 80 ≤ count ∧ count ≤ 4096) {x : DirV} (hm : May ltS x) (hk : errK count (allPcs x.files) = 0) {ls O : FPs} (hls : ls.map Prod.fst = x.files) {l : List CV} {P : List FileV} (hp : placeN count (allPcs x.files) (csOf (putsC l)) = .ok P) (hO : O.map Prod.fst = P) (hky : ∀ y ∈ l, (y.key.size : Int) ≤ 9223372036854775807) :
    (∀ y ∈ stayP ls l ++ O, Wf y.1.pcs ∧ wf64 y.1.size ∧ (y.1.name.size : Int) ≤ 9223372036854775807) ∧ (allPcs ((stayP ls l ++ O).map Prod.fst)).length ≤ 1000000 ∧ O.length = (putsC l).length := by
  obtain ⟨h1, h2, h3⟩ := placed_wf hz (errK_zero hk).2.2 hp
  refine ⟨fun y hy => ?_, ?_, ?_⟩
  · rcases List.mem_append.1 hy with h | h
    · have hx : y.1 ∈ x.files := by rw [← hls]; exact List.mem_map_of_mem (List.mem_filter.1 h).1
      have hf := hm.fin _ hx
      have hn := name_few (hm.each _ hx).1
      exact ⟨hf.2, hf.1, by omega⟩
    · have hx : y.1 ∈ P := by rw [← hO]; exact List.mem_map_of_mem h
      obtain ⟨a, b, c, hc, e⟩ := h2 _ hx
      exact ⟨a, b, by rw [e]; exact hky c (List.mem_filter.1 hc).1⟩
  · have e : (allPcs ((stayP ls l ++ O).map Prod.fst)).length = (allPcs ((stayP ls l).map Prod.fst)).length + (allPcs P).length := by
      rw [List.map_append, hO]
      simp [allPcs]
    have h4 := stay_pcs ls l
    rw [hls] at h4
    have h5 := (errK_zero hk).2.1
    have h6 : (allPcs P).length ≤ 4096 := good_len (count := 4096) (Rm.good_more h3.right hz.2)
    omega
  · have := congrArg List.length hO
    rw [List.length_map] at this
    omega
theorem gen_wf {data : List Nat} {ws : Puts} {o : Nat} {g G : Int} (h1 : 1 ≤ g) (h2 : g < 4611686018427387904) (hG : genK data ws o g 8 + 1 = G) : wf64 G ∧ 1 < G ∧ G ≤ 4611686018427387904 := by
  have a := genK_le data ws o g 8
  have b := genK_hi data ws o g h2 8
  unfold wf64
  omega
end Go.Proofs.YtglcpfnpbcnejaaGreatDoor
namespace Go.Proofs.YtglcpfnpbcnejaaGreatDoor
open Go.RowKit Go.WideShapes Rm

theorem stay_map (ls : FPs) (l : List CV) : (stayP ls l).map Prod.fst = (ls.map Prod.fst).filter fun f => !namedC l f.name := by
  unfold stayP
  rw [List.filter_map]
  rfl
theorem wrote_len {x : DirV} {b : List Nat} (h : Wrote x 0 b) : b.length = 1024 := by
  cases h with
  | ok h1 h2 => exact isDir_len ⟨h1, h2, rfl⟩
theorem filesA_le : ∀ (fs : List FileV) (vs : List (List Nat)), (filesA fs vs).length ≤ (secs (allPcs fs)).length
  | f :: fs, v :: vs => by
    have e : secs (allPcs (f :: fs)) = secs f.pcs ++ secs (allPcs fs) := by rw [← secs_append]; simp [allPcs]
    have h := filesA_le fs vs
    rw [e, filesA, List.length_append, List.length_append]
    have h2 : (fileA f v).length = (secs f.pcs).length := by unfold fileA; rw [List.length_map, List.length_range]
    omega
  | [], _ => by simp [filesA]
  | _ :: _, [] => by simp [filesA]
theorem secs_few {count : Int} (hz : 80 ≤ count ∧ count ≤ 4096) {l : Pcs} (h : Rm.Good count l) : (secs l).length ≤ 4096 := by
  have h1 := secs_len_good h (f := 0) (k := count.toNat) (fun p hp => by have := h.wn p hp; unfold Wn at this; omega) (by omega)
  have h2 := meant_all_len (cov l) 0 count.toNat
  omega
theorem acts_few {F : Acts} {L : List ActF} (h : L.map Prod.fst = if F = [] then [] else F ++ [flA]) (hF : F.length ≤ 4096) : L.length ≤ 4097 := by
  have h1 := congrArg List.length h
  rw [List.length_map] at h1
  split at h1
  · rw [h1]; simp
  · rw [h1, List.length_append]; simp; omega
/-- What turn answers where the files that are put have their sectors. -/
structure TGo (w : World) (G : Int) (o : Nat) (S P : List FileV) (F : Acts) (e : Ending) (w' : World) : Prop where
  ex : (G = 4611686018427387904 ∧ TErr w 42 e w') ∨ (G ≠ 4611686018427387904 ∧ ∃ ss : List FileV, (S ++ P).Perm ss ∧ (ss.Pairwise fun x y => Op.bytesLess y.name.toList x.name.toList = false) ∧ ∃ n b, Wrote ⟨G, ss⟩ n b ∧ ((n ≠ 0 ∧ TErr w n e w') ∨
    (n = 0 ∧ ∃ v L, e = .returned (.tuple #[v, .nilIface]) ∧ AOwn w' w.heap.size v L ∧ L.map Prod.fst = (if F = [] then [] else F ++ [flA]) ++ (secsA o b 8 ++ [flA]) ∧ Below w.heap.size w w')))
set_option maxRecDepth 8000 in
set_option maxHeartbeats 4000000 in
theorem turn_go (v : Value) (count : Int) (data : List Nat) (ws : Puts) (lq : Option Addr) (ln lc : Nat) (l : List CV) (w : World) (hL : Laid w) (hd : DiskIn w v count data ws) (x : DirV) (at_ n : Int) (hm : MountIs count data ws (some (x, at_)) n)
    (hl : ChgIn w lq ln lc l) (hvs : ∀ y ∈ l, (y.val.size : Int) ≤ 9223372036854775000) (hE : chgE x.files l = 0) (hfew : (x.files.filter fun f => !namedC l f.name).length + (putsC l).length ≤ 32) (P : List FileV) (hpl : placeN count (allPcs x.files) (csOf (putsC l)) = .ok P) (o : Nat) (hoo : at_ = 8 - (o : Int)) (ho8 : o ≤ 8) (G : Int) (hG : genK data ws o x.gen 8 + 1 = G) (F : Acts) (hF : filesA P (valsOf (putsC l)) = F) :
    Calls Tryz.prog 38 #[v, .slice lq ln lc] w fun e w' => TGo w G o (x.files.filter fun f => !namedC l f.name) P F e w' := by
  obtain ⟨p, c, q, m, rfl, _⟩ := hd.parts
  have HMT := mount_any _ count data ws (w.alloc (.cells #[.int .i64 count, .slice p data.length c, .slice q ws.length m] 25)) (hL.below (below_alloc _ _)) (hd.below (below_alloc _ _)) _ n hm
  have HDD : Hid (DiskIn w (.agg #[.int .i64 count, .slice p data.length c, .slice q ws.length m]) count data ws ∧ Okay count data ws ∧ 96 ≤ count ∧ count ≤ 4096) := ⟨hd, (mountIs_some hm).2.2.2.2, (mountIs_some hm).2.2.2.1, (errK_zero (mountIs_some hm).2.1).1.2⟩
  have HOO : Hid (at_ = 8 - (o : Int) ∧ o ≤ 8 ∧ genK data ws o x.gen 8 + 1 = G ∧ filesA P (valsOf (putsC l)) = F) := ⟨hoo, ho8, hG, hF⟩
  have hat0 : 0 ≤ at_ := by omega
  have hat1 : at_ ≤ 8 := by omega
  have HMAY : Hid (May ltS x) := (mountIs_some hm).1
  have HLL : Hid (ChgIn w lq ln lc l ∧ chgE x.files l = 0 ∧ (x.files.filter fun f => !namedC l f.name).length + (putsC l).length ≤ 32) := ⟨hl, hE, hfew⟩
  have HVS : Hid (∀ y ∈ l, (y.val.size : Int) ≤ 9223372036854775000) := hvs
  have HEK : Hid (Rm.Good count (allPcs x.files) ∧ (allPcs x.files).length ≤ 4096 ∧ Wf (allPcs x.files)) := by
    have h := errK_zero (mountIs_some hm).2.1
    exact ⟨h.2.2, h.2.1, Rm.Good.wf h.2.2 h.1.2⟩
  have HKK : Hid (errK count (allPcs x.files) = 0) := (mountIs_some hm).2.1
  have HPL : Hid (placeN count (allPcs x.files) (csOf (putsC l)) = .ok P) := hpl
  have HDB : Hid ((w.alloc (.cells #[.int .i64 count, .slice p data.length c, .slice q ws.length m] 25)).heap[w.heap.size]? = some (.cells #[.int .i64 count, .slice p data.length c, .slice q ws.length m] 25 (0, 0))) := heap_alloc_new _ _
  have HWS : Hid (w.heap.size < (w.alloc (.cells #[.int .i64 count, .slice p data.length c, .slice q ws.length m] 25)).heap.size) := lt_heap HDB.out
  clear hd hL hm hl hE hfew hvs hpl hoo ho8 hG hF
  go_enter Tryz.func38, Tryz.ntmps38
  go_wp2_with fail
  refine HMT.mono ?_
  rintro e w2 ⟨ls, lv, hls, rfl, hfo, hb2⟩
  obtain ⟨B0, hfo, hB0, hB1⟩ : ∃ B0, FOwn w2 B0 lv ls ∧ w.heap.size ≤ B0 ∧ B0 ≤ w2.heap.size := ⟨_, hfo, by simp, hb2.size⟩
  have HB0 : Hid (w.heap.size ≤ B0 ∧ B0 ≤ w2.heap.size) := ⟨hB0, hB1⟩
  clear hB0 hB1
  obtain ⟨fq, fm, rfl, _⟩ := hfo.form
  have hB2 : Below w.heap.size w w2 := below_bt (below_alloc _ _) hb2
  have HDB2 : Hid (w2.heap[w.heap.size]? = some (.cells #[.int .i64 count, .slice p data.length c, .slice q ws.length m] 25 (0, 0))) := (hb2.block _ (lt_heap HDB.out)).trans HDB.out
  have hl32 : ls.length ≤ 32 := by
    have h := congrArg List.length hls
    rw [List.length_map] at h
    rw [h]
    exact HMAY.out.many
  obtain ⟨L, hLn⟩ : ∃ L, ls.length = L := ⟨_, rfl⟩
  have HLS : Hid (ls.map Prod.fst = x.files ∧ ls.length ≤ 32) := ⟨hls, hl32⟩
  rw [hLn] at hfo ⊢
  have hB3 : Below w.heap.size w (w2.alloc (.cells #[.int .i64 x.gen, .slice fq L fm] 31)) := below_bt hB2 (below_alloc _ _)
  have hck := checkChanges_any (.slice fq L fm) x.files lq ln lc l (w2.alloc (.cells #[.int .i64 x.gen, .slice fq L fm] 31)) ((hfo.files HMAY.out hls).below (below_alloc _ _)) (HLL.out.1.lies.below hB3) HLL.out.1.len HLL.out.1.cap HLL.out.1.fits HLL.out.1.keys 0 HLL.out.2.1
  have HB3 : Hid (Below w.heap.size w (w2.alloc (.cells #[.int .i64 x.gen, .slice fq L fm] 31))) := hB3
  have HX3 : Hid ((w2.alloc (.cells #[.int .i64 x.gen, .slice fq L fm] 31)).heap[w2.heap.size]? = some (.cells #[.int .i64 x.gen, .slice fq L fm] 31 (0, 0))) := heap_alloc_new _ _
  have HFO : Hid (FMix (w2.alloc (.cells #[.int .i64 x.gen, .slice fq L fm] 31)) _ _ (.slice fq L fm) ls) := (hfo.mix.below (below_alloc _ _))
  clear HMT hb2 hB2 hB3 hfo hls hLn hl32
  go_wp2_with fail
  refine hck.mono ?_
  rintro e w4 ⟨ev, rfl, hev, hb4⟩
  obtain rfl : ev = .nilIface := by
    rcases hev with ⟨_, h⟩ | ⟨h, _⟩
    · exact h
    · exact absurd rfl h
  have HB4 : Hid (Below w.heap.size w w4) := below_bt HB3.out hb4
  have HB24 : Hid (Below w2.heap.size w2 w4) := below_bt (below_alloc _ _) hb4
  have HX4' : Hid (w4.heap[w2.heap.size]? = some (.cells #[.int .i64 x.gen, .slice fq L fm] 31 (0, 0))) := (hb4.block _ (lt_heap HX3.out)).trans HX3.out
  have HFO4 : Hid _ := HFO.out.below hb4
  have HX4 := (hb4.block _ (lt_heap HX3.out)).trans HX3.out
  obtain ⟨x0, x1⟩ := two_cells HX4
  have hst := staying_any (.slice fq L fm) ls _ _ lq ln lc l w4 (HFO.out.below hb4) (by have := HLS.out.2; omega) (HLL.out.1.lies.below HB4.out) HLL.out.1.len HLL.out.1.fits
  clear hck hev hb4 HX3 HX4 HFO HB3
  go_wp2_with fail
  refine hst.mono ?_
  rintro e w5 ⟨sv, rfl, hsv⟩
  obtain ⟨sq, sm, rfl, _⟩ := hsv.own.form
  have HB5 : Hid (Below w.heap.size w w5) := below_bt HB4.out hsv.bel
  have HB25 : Hid (Below w4.heap.size w4 w5) := hsv.bel
  have HSV : Hid (FMix w5 w4.heap.size B0 (.slice sq (stayP ls l).length sm) (stayP ls l)) := hsv.own
  have hpt := putting_any lq ln lc l w5 (HLL.out.1.lies.below HB5.out) HLL.out.1.len (by have := chg_few HLL.out.2.1; have := HLL.out.1.len; omega)
  have hlen : (stayP ls l).length = (x.files.filter fun f => !namedC l f.name).length := by
    rw [← HLS.out.1]
    unfold stayP
    rw [List.filter_map, List.length_map]
    rfl
  obtain ⟨sl, hsl⟩ : ∃ m, (stayP ls l).length = m := ⟨_, rfl⟩
  have HSL : Hid (sl + (putsC l).length ≤ 32 ∧ sl ≤ 32) := ⟨by rw [← hsl, hlen]; exact HLL.out.2.2, by have h1 := stayP_len ls l ls.length; rw [List.take_length] at h1; have h2 := HLS.out.2; omega⟩
  rw [hsl] at HSV ⊢
  have HSLN : Hid ((stayP ls l).length = sl) := hsl
  clear hst hsv hlen hsl x0 x1
  go_wp2_with fail
  refine hpt.mono ?_
  rintro e w6 ⟨pv, rfl, hpv⟩
  obtain ⟨pq, pm, rfl, _⟩ := own_form hpv.own
  have HB6 : Hid (Below w.heap.size w w6) := below_bt HB5.out hpv.bel
  obtain ⟨pl, hpl⟩ : ∃ m, (putsC l).length = m := ⟨_, rfl⟩
  have hlt : (sl : Int) + (pl : Int) ≤ 32 := by have := HSL.out.1; omega
  have hle : (sl : Int) ≤ 32 := by have := HSL.out.2; omega
  have hle2 : (pl : Int) ≤ 64 := by have h1 := chg_few HLL.out.2.1; have h2 := putsC_len l l.length; rw [List.take_length] at h2; omega
  have HPV : Hid (COwn w6 w5.heap.size (.slice pq (putsC l).length pm) (putsC l)) := hpv.own
  have HB46 : Hid (Below w4.heap.size w4 w6) := below_bt HB25.out hpv.bel
  have HSV6 : Hid (FMix w6 w4.heap.size B0 (.slice sq sl sm) (stayP ls l) ∧ w4.heap.size ≤ w6.heap.size ∧ w2.heap.size ≤ w4.heap.size) := ⟨HSV.out.below hpv.bel, HB46.out.size, HB24.out.size⟩
  rw [hpl] at HPV ⊢
  have HPLN : Hid ((putsC l).length = pl) := hpl
  clear hpt hpv hpl
  have HD6 : Hid (w6.heap[w.heap.size]? = some (.cells #[.int .i64 count, .slice p data.length c, .slice q ws.length m] 25 (0, 0))) := ((below_bt HB24.out HB46.out).block _ (lt_heap HDB2.out)).trans HDB2.out
  have HX6 : Hid (w6.heap[w2.heap.size]? = some (.cells #[.int .i64 x.gen, .slice fq L fm] 31 (0, 0))) := (HB46.out.block _ (lt_heap HX4'.out)).trans HX4'.out
  have HF6 : Hid (FIn w6 (.slice fq L fm) x.files) := ((HFO4.out.own (Nat.le_refl _)).files HMAY.out HLS.out.1).below HB46.out
  have HPC : Hid (∀ w', Below w6.heap.size w6 w' → Calls Tryz.prog 71 #[.slice fq L fm] w' fun e w'' => ∃ r, e = .returned r ∧ POwn w'' w'.heap.size r (allPcs x.files) ∧ Below w'.heap.size w' w'') := fun w' hb' => pieces_any _ x.files w' (HF6.out.below hb') (by have := HEK.out.2.1; omega)
  have HKS : Hid (∀ w', Below w6.heap.size w6 w' → (w'.cell? ⟨w.heap.size, 0, none⟩ = some (.int .i64 count) ∧ w'.cell? ⟨w2.heap.size, 1, none⟩ = some (.slice fq L fm))) := fun w' hb' => ⟨(three_cells ((hb'.block _ (lt_heap HD6.out)).trans HD6.out)).1, (two_cells ((hb'.block _ (lt_heap HX6.out)).trans HX6.out)).2⟩
  have HPP : Hid (∀ w7 base' uv, base' ≤ w7.heap.size → POwn w7 base' uv (allPcs x.files) → Below w6.heap.size w6 w7 → Calls Tryz.prog 70 #[.int .i64 count, uv, .slice pq pl pm] w7 fun e w' => PlaceP w7 uv.ownBlock (.ok P) e w') := fun w7 base' uv hb' hu h67 => by
    have hcs := HPV.out.below h67
    exact place_any count uv (allPcs x.files) base' pq pl pm (putsC l) w7 hu HEK.out.2.2 hb' hcs.cs (fun b o e => by subst e; have := own_far hcs hu; exact this) HPLN.out.symm (by omega) (fun y hy => HVS.out y ((List.mem_filter.1 hy).1)) _ HPL.out
  clear HX4' HDB2 HDB HWS HFO4 HB24 HB25 HB46
  go_upto_region 10 with fail
  obtain ⟨d6, f6⟩ := HKS.out _ (Below.refl _ _)
  go_region_with (first
    | (go_at_call 71; refine (HPC.out _ (by first | exact (Below.refl _ _).drew | exact Below.refl _ _)).mono ?_; rintro e w7 ⟨uv, rfl, huv, hb7⟩; obtain ⟨d7, f7⟩ := HKS.out w7 (by first | exact below_drC hb7 | exact hb7))
    | (go_at_call 70; refine (HPP.out _ _ _ (by first | exact hb7.size | (simpa using hb7.size)) (by first | exact huv | exact huv.below (Below.refl _ _).drew) (by first | exact below_drC hb7 | exact hb7)).mono ?_; rintro e w8 ⟨ov, O, rfl, hO, hmix, hgr⟩))
  all_goals
    have h67 : Below w6.heap.size w6 w7 := by first | exact below_drC hb7 | exact hb7
    have hlo : ∀ k, uv.ownBlock = some k → w.heap.size ≤ k := fun k hk => by
      have h1 := (huv.lt k hk).1
      have h2 := HB6.out.size
      simp at h1
      omega
    have hB7 : Below w.heap.size w w7 := below_bt HB6.out h67
    have hgr7 : w7.grownBy w8 uv.ownBlock := by first | exact hgr | exact grown_trans (grown_below (Below.refl _ _).drew _) hgr
    have hmx : FMix w8 w7.heap.size w7.heap.size ov O := by first | exact hmix | simpa using hmix
    have hw6 : POwn w7 w6.heap.size uv (allPcs x.files) := by first | exact huv | simpa using huv
    have hB8 : Below w.heap.size w w8 := hB7.grown hgr7 hB7.size hlo
    obtain ⟨oq, om, rfl, _⟩ := hmx.form
    obtain ⟨ol, hol⟩ : ∃ m, O.length = m := ⟨_, rfl⟩
    rw [hol] at hmx ⊢
    have HW8 : Hid (FMix w8 w7.heap.size B0 (.slice oq ol om) O ∧ FMix w8 w4.heap.size B0 (.slice sq sl sm) (stayP ls l) ∧ COwn w8 w5.heap.size (.slice pq pl pm) (putsC l) ∧ O.map Prod.fst = P ∧ O.length = ol ∧ Below w.heap.size w w8 ∧ w7.heap.size ≤ w8.heap.size ∧ w6.heap.size ≤ w7.heap.size) := ⟨hmx.mono0 (Nat.le_refl _) (by have := HB0.out.2; have := HSV6.out.2; have := h67.size; omega), HSV6.out.1.past h67 hw6 (Nat.le_refl _) hgr7, (HPV.out.below h67).growP hw6 hgr7, hO, hol, hB8, hgr7.size, h67.size⟩
    have HD8 : Hid (w8.heap[w.heap.size]? = some (.cells #[.int .i64 count, .slice p data.length c, .slice q ws.length m] 25 (0, 0))) := box_grow hw6 hgr7 ((h67.block _ (lt_heap HD6.out)).trans HD6.out) (by decide)
    have HX8 : Hid (w8.heap[w2.heap.size]? = some (.cells #[.int .i64 x.gen, .slice fq L fm] 31 (0, 0))) := box_grow hw6 hgr7 ((h67.block _ (lt_heap HX6.out)).trans HX6.out) (by decide)
    obtain ⟨e0, e1, e2⟩ := three_cells HD8.out
    obtain ⟨g0, g1⟩ := two_cells HX8.out
    have hng := nextGen_any _ count data ws w8 (HDD.out.1.below hB8) HDD.out.2.1 x.gen o (by have := HMAY.out.lo; omega) (by have := HMAY.out.hi; omega) (by have := HDD.out.2.2.1; have := HOO.out.2.1; omega) HDD.out.2.2.2
    rw [HOO.out.2.2.1] at hng
    have HOI : Hid (8 - at_ = (o : Int)) := by have := HOO.out.1; show _ = _; omega
    clear hgr hmix huv hb7 h67 hlo hB7 hgr7 hmx hw6 hB8 hO hol HPC HKS HPP d6 f6 d7 f7
    go_wp2_with fail
    rw [HOI.out]
    refine hng.mono ?_
    rintro e w9 ⟨rfl, hb9⟩
    have HS9 : Hid (FMix w9 w4.heap.size B0 (.slice sq sl sm) (stayP ls l)) := HW8.out.2.1.below hb9
    have HO9 : Hid (FMix w9 w7.heap.size B0 (.slice oq ol om) O) := HW8.out.1.below hb9
    have HC9 : Hid (COwn w9 w5.heap.size (.slice pq pl pm) (putsC l)) := own_below HW8.out.2.2.1 hb9
    have HB9 : Hid (Below w.heap.size w w9 ∧ w4.heap.size ≤ w9.heap.size) := ⟨below_bt HW8.out.2.2.2.2.2.1 hb9, by have h1 := HW8.out.2.2.2.2.2.2; have h2 := HSV6.out.2; have h3 := hb9.size; omega⟩
    have HNE : Hid ((Value.slice oq ol om).ownBlock = none ∨ (Value.slice oq ol om).ownBlock ≠ (Value.slice sq sl sm).ownBlock) := apart_ahead HO9.out (fun k hk => by have h1 := (World.ownsRow.lt HSV6.out.1.row k hk).2; have h2 := HW8.out.2.2.2.2.2.2.2; omega)
    have HNW := next_wf (O := O) ⟨by have := HDD.out.2.2.1; omega, HDD.out.2.2.2⟩ HMAY.out HKK.out HLS.out.1 HPL.out HW8.out.2.2.2.1 HLL.out.1.keys
    have HGW := gen_wf HMAY.out.lo HMAY.out.hi HOO.out.2.2.1
    have HLN : Hid ((stayP ls l).length = sl ∧ O.length = ol ∧ sl ≤ 32 ∧ ol ≤ 32) := ⟨HSLN.out, HW8.out.2.2.2.2.1, HSL.out.2, by have h1 := HNW.2.2; have h2 := HSL.out.1; have h3 := HW8.out.2.2.2.2.1; omega⟩
    have HWN : Hid (∀ w' v', FMix w' w4.heap.size B0 v' (stayP ls l ++ O) → Calls Tryz.prog 72 #[.int .i64 G, v'] w' fun e w'' => WNextP w' w4.heap.size B0 v' G (stayP ls l ++ O) e w'') := fun w' v' h => writeNext_any G v' (stayP ls l ++ O) w4.heap.size B0 w' HGW.1 (by have h1 := HB0.out.2; have h2 := HSV6.out.2.2; omega) h (by rw [List.length_append]; have := HLN.out; omega) HNW.1 HNW.2.1
    have HOP : Hid (O.map Prod.fst = P) := HW8.out.2.2.2.1
    clear hng hb9 HW8 HNW HGW e0 e1 e2 g0 g1
    go_wp2_with (at_builtin; (refine wpList_append_mixX _ rfl _ _ rfl w4.heap.size B0 w7.heap.size (.slice sq sl sm) (stayP ls l) O oq ol om rfl rfl HLN.out.2.1.symm HS9.out HO9.out (by have := HLN.out; omega) HB9.out.2 ?_); intro v10 w10 ho10 hg10 hw10; have H10 : Hid (FMix w10 w4.heap.size B0 v10 (stayP ls l ++ O) ∧ FMix w10 w7.heap.size B0 (.slice oq ol om) O ∧ ((Value.slice oq ol om).ownBlock = none ∨ (Value.slice oq ol om).ownBlock ≠ v10.ownBlock) ∧ COwn w10 w5.heap.size (.slice pq pl pm) (putsC l) ∧ Below w.heap.size w w10) := ⟨ho10, HO9.out.beside HS9.out HNE.out hg10, apart_grown HO9.out HNE.out hw10, HC9.out.growF HS9.out hg10, HB9.out.1.grown hg10 HB9.out.1.size (fun k hk => by have h1 := (World.ownsRow.lt HS9.out.row k hk).1; have h2 := HB4.out.size; omega)⟩; clear ho10 hg10 hw10)
    refine (HWN.out _ _ H10.out.1).mono ?_
    rintro e w11 ⟨hwx⟩
    rcases hwx with ⟨hG, rfl, ev, rfl, hfa⟩ | ⟨hG, ss, r, ev, n', b, rfl, hpm, hup, hw, hev, hown, hfm, hg11⟩
    · have HFA : Hid (Faults ev 42 ∧ G = 4611686018427387904) := ⟨hfa, hG⟩
      obtain ⟨T, vv, rfl⟩ := hfa.iface
      clear hfa hG HWN
      go_wp2
      go_ret2
      exact ⟨.inl ⟨HFA.out.2, ⟨_, rfl, HFA.out.1, H10.out.2.2.2.2⟩⟩⟩
    · have hB11 : Below w.heap.size w w11 := H10.out.2.2.2.2.grown hg11 H10.out.2.2.2.2.size (fun k hk => by have h1 := (World.ownsRow.lt H10.out.1.row k hk).1; have h2 := HB4.out.size; omega)
      have HSS : Hid (G ≠ 4611686018427387904 ∧ ((x.files.filter fun f => !namedC l f.name) ++ P).Perm (ss.map Prod.fst) ∧ ((ss.map Prod.fst).Pairwise fun x y => Op.bytesLess y.name.toList x.name.toList = false) ∧ Wrote ⟨G, ss.map Prod.fst⟩ n' b) := ⟨hG, by have h := hpm.map Prod.fst; rw [List.map_append, HOP.out, stay_map, HLS.out.1] at h; exact h, by rw [List.pairwise_map]; exact hup, hw⟩
      have HB11 : Hid (Below w.heap.size w w11) := hB11
      obtain ⟨rq, rm, rfl, _⟩ := own_form hown
      rcases hev with ⟨rfl, rfl⟩ | ⟨hn0, hfa⟩
      · have hl4 : b.length = 1024 := wrote_len HSS.out.2.2.2
        have hb4 := wrote_bytes HSS.out.2.2.2
        rw [hl4] at hown ⊢
        have HR11 : Hid (BIn w11 rq b ∧ 1024 ≤ rm ∧ rm ≤ maxLen) := by
          obtain ⟨_, _, e, h1, h2, _⟩ := own_form hown
          cases e
          exact ⟨own_in (by rw [hl4]; exact hown) hb4, h1, h2⟩
        have HO11 : Hid (FMix w11 w7.heap.size B0 (.slice oq ol om) O) := H10.out.2.1.beside H10.out.1 H10.out.2.2.1 hg11
        have HC11 : Hid (COwn w11 w5.heap.size (.slice pq pl pm) (putsC l)) := H10.out.2.2.2.1.growF H10.out.1 hg11
        have hfa := fileActs_any (.slice oq ol om) O _ _ pq pl pm (putsC l) w11 HO11.out HC11.out.cs HPLN.out.symm (placed_fits ⟨by have := HDD.out.2.2.1; omega, HDD.out.2.2.2⟩ HEK.out.1 HPL.out (by have h1 := HSL.out.1; omega) HOP.out) F (by rw [HOP.out]; exact HOO.out.2.2.2)
        have HLN2 : Hid (b.length = 1024) := hl4
        clear hG HWN hpm hup hw hown hfm hg11 hB11 hl4 hb4
        go_wp2_with fail
        refine hfa.mono ?_
        rintro e w12 ⟨⟨v12, L12, rfl, hA12, hm12⟩⟩
        obtain ⟨aq, am, rfl, _⟩ := hA12.own.form
        have hsl := slotActs_any o rq rm b w12 (by have := HOO.out.2.1; omega) (HR11.out.1.below hA12.bel) HLN2.out HR11.out.2.1 HR11.out.2.2
        have HA12 : Hid (OnA w11 (.slice aq L12.length am) L12 w12) := hA12
        have HM12 : Hid (L12.map Prod.fst = if F = [] then [] else F ++ [flA]) := hm12
        obtain ⟨al, hal⟩ : ∃ m, L12.length = m := ⟨_, rfl⟩
        rw [hal] at HA12 ⊢
        clear hfa hA12 hm12
        go_wp2_with fail
        refine hsl.mono ?_
        rintro e w13 ⟨v13, L13, rfl, hA13, hm13⟩
        obtain ⟨zq, zm, rfl, hz1, _, hz2⟩ := hA13.own.form
        have h9 : L13.length = 9 := by have h := congrArg List.length hm13; rw [List.length_map] at h; rw [h]; unfold secsA; simp
        rw [h9] at hz1
        obtain ⟨za, rfl⟩ : ∃ a, zq = some a := by
          cases zq with
          | none => have := hz2 rfl; omega
          | some a => exact ⟨a, rfl⟩
        have HA : Hid (AOwn w13 w.heap.size (.slice aq al am) L12 ∧ (∀ y ∈ L13, DataO w13 w.heap.size y.2 y.1.2.2) ∧ (∀ j u, (cellsT L13)[j]? = some u → w13.cell? (za.add j) = some u) ∧ Below w.heap.size w w13) := ⟨(HA12.out.own.below hA13.bel).mono HB11.out.size, fun y hy => (hA13.own.data y hy).mono (below_bt HB11.out HA12.out.bel).size, hA13.own.cells, below_bt (below_bt HB11.out HA12.out.bel) hA13.bel⟩
        have HM13 : Hid (L13.map Prod.fst = secsA o b 8 ++ [flA] ∧ L13.length = 9) := ⟨hm13, h9⟩
        have HFW : Hid (L12.length ≤ 4097) := acts_few HM12.out (by rw [← HOO.out.2.2.2]; have h1 := filesA_le P (valsOf (putsC l)); have h2 := secs_few ⟨by have := HDD.out.2.2.1; omega, HDD.out.2.2.2⟩ (placed_wf ⟨by have := HDD.out.2.2.1; omega, HDD.out.2.2.2⟩ HEK.out.1 HPL.out).2.2.right; omega)
        rw [h9]
        clear hsl hA13 hm13 hz1 hz2 h9
        go_wp2_with (at_builtin; (refine wpList_append_acts _ rfl _ _ rfl w.heap.size (.slice aq al am) L12 L13 za 9 zm rfl rfl HM13.out.2.symm HA.out.1 HA.out.2.1 HA.out.2.2.1 (by have h1 := HFW.out; have h2 := HM13.out.2; omega) HA.out.2.2.2.size ?_); intro v14 w14 ho14 hg14; have H14 : Hid (AOwn w14 w.heap.size v14 (L12 ++ L13) ∧ Below w.heap.size w w14) := ⟨ho14, HA.out.2.2.2.grown hg14 HA.out.2.2.2.size (fun k hk => (World.ownsRow.lt HA.out.1.row k hk).1)⟩; clear ho14 hg14)
        go_ret2
        exact ⟨.inr ⟨HSS.out.1, _, HSS.out.2.1, HSS.out.2.2.1, 0, b, HSS.out.2.2.2, .inr ⟨rfl, _, _, rfl, H14.out.1, by rw [List.map_append, HM12.out, HM13.out.1], H14.out.2⟩⟩⟩
      · have HFA : Hid (Faults ev n' ∧ n' ≠ 0) := ⟨hfa, hn0⟩
        obtain ⟨T, vv, rfl⟩ := hfa.iface
        clear hfa hG HWN hpm hup hw hown hfm hg11 hB11 hn0
        go_wp2
        go_ret2
        exact ⟨.inr ⟨HSS.out.1, _, HSS.out.2.1, HSS.out.2.2.1, n', b, HSS.out.2.2.2, .inl ⟨HFA.out.2, ⟨_, rfl, HFA.out.1, HB11.out⟩⟩⟩⟩
end Go.Proofs.YtglcpfnpbcnejaaGreatDoor
