/-
  turn up to the files that stay and the changes that put: too many files.
-/
import Derived.Test.YtglcpfnpbcnejaaGreatDoorJ28
namespace Go.Proofs.YtglcpfnpbcnejaaGreatDoor
open Go.RowKit Go.WideShapes Rm

theorem cellsF_one {w : World} {base : Nat} {ls : FPs} (h : ∀ x ∈ ls, POwn w base x.2 x.1.pcs) : ∀ u ∈ cellsF ls, u.oneCell' = true := by
  intro u hu
  simp only [cellsF, List.mem_flatMap, List.mem_cons, List.not_mem_nil, or_false] at hu
  obtain ⟨y, hy, rfl | rfl | rfl⟩ := hu
  · rfl
  · rfl
  · obtain ⟨q, m, e, _⟩ := (h y hy).form
    rw [e]
    rfl
theorem FMix.cells {w : World} {base base0 n m : Nat} {ad : Addr} {ls : FPs} (h : FMix w base base0 (.slice (some ad) n m) ls) : ∀ j u, (cellsF ls)[j]? = some u → w.cell? (ad.add j) = some u := by
  intro j u hu
  rcases h.row.2 with ⟨hv, _⟩ | ⟨g, cap, cur, hv, hb, hg, hle, hmax, hsz, htk⟩
  · cases hv
  · simp only [Value.slice.injEq, Option.some.injEq] at hv
    obtain ⟨rfl, rfl, rfl⟩ := hv
    have hj : j < ls.length * 3 := by rw [← cellsF_len]; exact (List.getElem?_eq_some_iff.1 hu).1
    rw [add_plain, cell_of_row w g (0 + j) cur _ _ hg, Nat.zero_add]
    rw [← htk, List.getElem?_take_of_lt hj] at hu
    simpa using hu
theorem run_append_mixX (w : World) (ty : TypeId) (base base0 B : Nat) (v : Value) (ls ms : FPs) (q : Option Addr) (c : Nat) (hown : FMix w base base0 v ls) (hm : FMix w B base0 (.slice q ms.length c) ms) (hlen : ls.length + ms.length ≤ 1000000) (hbase : base ≤ w.heap.size) :
    ∃ v' w', (Builtin.append_ #[29, 29] ty #[v, .slice q ms.length c]).run Tryz.prog w = .ok v' w' ∧ FMix w' base base0 v' (ls ++ ms) ∧ w.grownBy w' v.ownBlock ∧ (v'.ownBlock = v.ownBlock ∨ v'.ownBlock = some w.heap.size) := by
  obtain ⟨i0, hi, hz0, hz1, hz2⟩ := info_parts' info_file
  cases q with
  | none =>
    obtain ⟨_, _, e, h1, _, h2⟩ := hm.form
    cases e
    obtain rfl := h2 rfl
    have h0 : ms = [] := List.eq_nil_of_length_eq_zero (by omega)
    subst h0
    exact ⟨v, w, run_append_owned_none (P := Tryz.prog) w base 29 ty 51 i0 3 Tryz.underlying29 hi v ls.length (cellsF ls) hown.row, by simpa using hown, ⟨rfl, rfl, rfl, Nat.le_refl _, fun _ _ _ => rfl⟩, .inl rfl⟩
  | some ad =>
    have hc := hm.cells
    have h1c := cellsF_one hm.pcs
    obtain ⟨v', w', hr, h2, h3, h4⟩ := run_append_own (P := Tryz.prog) w base 29 ty 51 i0 _ 3 48 Tryz.underlying29 hi hz0 hz1 hz2 rfl (by decide) v ls.length (cellsF ls) hown.row ad ms.length c (cellsF ms) (cellsF_len ms) hc h1c (by unfold maxLen; omega) (by omega) hbase
    refine ⟨v', w', hr, ⟨?_, fun y hy => ?_⟩, h3, ?_⟩
    · rw [cellsF_app, List.length_append]
      exact h2
    · have hy' : POwn w base0 y.2 y.1.pcs := by
        rcases List.mem_append.1 hy with h | h
        · exact hown.pcs y h
        · exact hm.pcs y h
      exact hy'.kept h3 (apart_own hy' hown.row (by decide))
    rcases hown.row.2 with ⟨h0, hn0⟩ | ⟨g, cap, cur, hv, hbg, hg, hnc, hcm, hcs, htake⟩
    · subst h0
      by_cases hy : ms.length = 0
      · left
        rw [h4.2 ⟨rfl, hy⟩]
      · right
        have hr2 := run_append_nil (P := Tryz.prog) w 29 ty 51 i0 _ Tryz.underlying29 hi hz0 ad ms.length c (cellsF ms) (by rw [hz1, cellsF_len]) hc (by omega) (by omega) (by rw [hz2]; omega)
        have e := hr.symm.trans hr2
        exact (congrArg Value.ownBlock (ok_fst e)).trans rfl
    · subst hv
      by_cases hroom : ls.length + ms.length ≤ cap
      · left
        have hr2 := run_append_room (P := Tryz.prog) w 29 ty 51 i0 Tryz.underlying29 hi g ls.length cap cur hg ad ms.length c (cellsF ms) (by rw [hz1, cellsF_len]) hc h1c hroom (by rw [hz1, cellsF_len, hcs]; omega)
        have e := hr.symm.trans hr2
        exact (congrArg Value.ownBlock (ok_fst e)).trans rfl
      · right
        have hr2 := run_append_grow (P := Tryz.prog) w 29 ty 51 i0 _ Tryz.underlying29 hi hz0 ⟨g, 0, none⟩ ls.length cap (cellsF ls) (by rw [hz1, cellsF_len]) (hown.row.cells (g := g) rfl) ad ms.length c (cellsF ms) (by rw [hz1, cellsF_len]) hc (by omega) (by omega) (growslice_fits (by omega) (by rw [hz2]; omega))
        have e := hr.symm.trans hr2
        exact (congrArg Value.ownBlock (ok_fst e)).trans rfl
theorem wpList_append_mixX (w : World) {ops : Array Oper} {rest : List Oper} {o : Oper} {a : Act} {Q : Exit → Act → World → Prop} (hgd : o.guard = none) (s x : Operand)
    (ho : o.op = .call { callee := .builtin .append, args := #[s, x], argTypes := #[29, 29] }) (base base0 B : Nat) (v : Value) (ls ms : FPs) (q : Option Addr) (n c : Nat) (hs : a.eval s = v) (hx : a.eval x = .slice q n c) (hn : n = ms.length)
    (hown : FMix w base base0 v ls) (hm : FMix w B base0 (.slice q n c) ms) (hlen : ls.length + ms.length ≤ 1000000) (hbase : base ≤ w.heap.size)
    (h : ∀ v' w', FMix w' base base0 v' (ls ++ ms) → w.grownBy w' v.ownBlock → (v'.ownBlock = v.ownBlock ∨ v'.ownBlock = some w.heap.size) → wpList Tryz.prog ops Q rest (a.put o.dst v') w') : wpList Tryz.prog ops Q (o :: rest) a w := by
  subst hn
  refine wpList_plain hgd fun K hK => ?_
  obtain ⟨v', w', hr, g2, g3, g4⟩ := run_append_mixX w o.type base base0 B v ls ms q c hown hm hlen hbase
  unfold Oper.wp execOp
  simp only [ho, resolve, invoke, builtin, Sem.run_bind, Sem.run_pure, Result.andThen_ok, List.map_toArray, List.map_cons, List.map_nil, hs, hx, hr]
  exact hK _ _ (h v' w' g2 g3 g4)
end Go.Proofs.YtglcpfnpbcnejaaGreatDoor
namespace Go.Proofs.YtglcpfnpbcnejaaGreatDoor
open Go.RowKit Go.WideShapes Rm

theorem good_of {count : Int} {l : List FileV} {f : FileV} (h : Rm.Good count (allPcs l)) (hf : f ∈ l) : Rm.Good count f.pcs := by
  obtain ⟨a, b, e⟩ := List.append_of_mem hf
  have e2 : allPcs l = allPcs a ++ (f.pcs ++ allPcs b) := by rw [e]; simp [allPcs]
  rw [e2] at h
  exact h.right.left
theorem placed_fits {count : Int} (hz : 80 ≤ count ∧ count ≤ 4096) {U : Pcs} (hu : Rm.Good count U) {l : List CV} {P : List FileV} (hp : placeN count U (csOf l) = .ok P) (hl : l.length ≤ 100) {O : FPs} (hO : O.map Prod.fst = P) : Fits O l := by
  obtain ⟨h1, h2, h3⟩ := place_facts hz hu hp
  have hlen : O.length = l.length := by
    have := congrArg List.length h2
    rw [List.length_map, List.length_map, ← hO, List.length_map] at this
    unfold csOf at this
    rwa [List.length_map] at this
  refine ⟨hlen, by omega, fun i hi => ?_⟩
  have hm : (O.getD i zeroFP).1 ∈ P := by rw [← hO]; exact List.mem_map_of_mem (getD_fp hi).2
  have hg := good_of h1.right hm
  have hg4 := Rm.good_more hg hz.2
  have hw := Rm.Good.wf hg hz.2
  have hpl : (O.getD i zeroFP).1.pcs.length ≤ 4096 := good_len (count := 4096) hg4
  have hk : errK 4096 (O.getD i zeroFP).1.pcs = 0 := errK_ok (by omega) hpl hg4
  have hsz : (O.getD i zeroFP).1.size = (((l.getD i zeroCV).val.size : Nat) : Int) := by
    have h := congrArg (fun t => t[i]?) h2
    simp only [List.getElem?_map] at h
    have hc : (csOf l)[i]? = some ((l.getD i zeroCV).key, numsOf (l.getD i zeroCV).val) := by
      unfold csOf
      rw [List.getElem?_map, List.getD_eq_getElem?_getD, List.getElem?_eq_getElem (by omega)]
      rfl
    have hP : P[i]? = some (O.getD i zeroFP).1 := by
      rw [← hO, List.getElem?_map, (getD_fp hi).1]
      rfl
    rw [hP, hc] at h
    simp only [Option.map_some, Option.some.injEq, Prod.mk.injEq] at h
    rw [h.2, nums_len]
  have hs : ((secs (O.getD i zeroFP).1.pcs).length : Int) = needsN (((l.getD i zeroCV).val.size : Nat) : Int) := by
    rw [secs_len_sum (fun p hp => by have := hg.wn p hp; unfold Wn at this; omega), ← hsz]
    exact (h3 _ hm).2.1
  refine ⟨by unfold secsN; rw [if_pos hk], hw, hs, ?_⟩
  have h4 := (h3 _ hm).2.2.2
  rw [hsz] at h4
  unfold needsN at hs
  omega
/-- The names of what is placed, and their sizes. -/
theorem placed_wf {count : Int} (hz : 80 ≤ count ∧ count ≤ 4096) {U : Pcs} (hu : Rm.Good count U) {l : List CV} {P : List FileV} (hp : placeN count U (csOf l) = .ok P) : P.length = l.length ∧ (∀ f ∈ P, Wf f.pcs ∧ wf64 f.size ∧ ∃ c ∈ l, f.name = c.key) ∧ Rm.Good count (U ++ allPcs P) := by
  obtain ⟨h1, h2, h3⟩ := place_facts hz hu hp
  refine ⟨?_, fun f hf => ⟨Rm.Good.wf (good_of h1.right hf) hz.2, ?_, ?_⟩, h1⟩
  · have := congrArg List.length h2
    rw [List.length_map, List.length_map] at this
    unfold csOf at this
    rwa [List.length_map] at this
  · have h := (h3 f hf).2.2
    unfold wf64
    omega
  · have hm : (f.name, f.size) ∈ (csOf l).map (fun c => (c.1, ((c.2.length : Nat) : Int))) := by
      rw [← h2]
      exact List.mem_map_of_mem (f := fun f : FileV => (f.name, f.size)) hf
    obtain ⟨c, hc, e⟩ := List.mem_map.1 hm
    unfold csOf at hc
    obtain ⟨d, hd, rfl⟩ := List.mem_map.1 hc
    simp only [Prod.mk.injEq] at e
    exact ⟨d, hd, e.1.symm⟩
end Go.Proofs.YtglcpfnpbcnejaaGreatDoor
namespace Go.Proofs.YtglcpfnpbcnejaaGreatDoor
open Go.RowKit Go.WideShapes Rm

/-- An error is answered. -/
structure TErr (w : World) (m : Int) (e : Ending) (w' : World) : Prop where
  ex : ∃ ev, e = .returned (.tuple #[.slice none 0 0, ev]) ∧ Faults ev m ∧ Below w.heap.size w w'
set_option maxRecDepth 8000 in
set_option maxHeartbeats 4000000 in
theorem turn_none (v : Value) (count : Int) (data : List Nat) (ws : Puts) (lq : Option Addr) (ln lc : Nat) (w : World) (hL : Laid w) (hd : DiskIn w v count data ws) (n : Int) (hm : MountIs count data ws none n) :
    Calls Tryz.prog 38 #[v, .slice lq ln lc] w fun e w' => TErr w n e w' := by
  obtain ⟨p, c, q, m, rfl, _⟩ := hd.parts
  have HMT := mount_any _ count data ws (w.alloc (.cells #[.int .i64 count, .slice p data.length c, .slice q ws.length m] 25)) (hL.below (below_alloc _ _)) (hd.below (below_alloc _ _)) none n hm
  clear hd hL hm
  go_enter Tryz.func38, Tryz.ntmps38
  go_wp2_with fail
  refine HMT.mono ?_
  rintro e w2 ⟨ev, rfl, hfa, hb2⟩
  have HFA : Hid (Faults ev n) := hfa
  have HB2 : Hid (Below w.heap.size w (w2.alloc (.cells #[.int .i64 0, .slice none 0 0] 31))) := below_bt (below_bt (below_alloc _ _) hb2) (below_alloc _ _)
  obtain ⟨T, vv, rfl⟩ := hfa.iface
  clear hfa hb2 HMT
  go_wp2
  go_ret2
  exact ⟨⟨_, rfl, HFA.out, HB2.out⟩⟩
set_option maxRecDepth 8000 in
set_option maxHeartbeats 4000000 in
theorem turn_chg (v : Value) (count : Int) (data : List Nat) (ws : Puts) (lq : Option Addr) (ln lc : Nat) (l : List CV) (w : World) (hL : Laid w) (hd : DiskIn w v count data ws) (x : DirV) (at_ n : Int) (hm : MountIs count data ws (some (x, at_)) n)
    (hl : CsIn w lq l) (hl0 : ln = l.length) (hlc : ln ≤ lc) (hlb : (ln : Int) ≤ 9223372036854775807) (hs : ∀ y ∈ l, (y.key.size : Int) ≤ 9223372036854775807) (E : Int) (hE : chgE x.files l = E) (hE0 : E ≠ 0) :
    Calls Tryz.prog 38 #[v, .slice lq ln lc] w fun e w' => TErr w E e w' := by
  obtain ⟨p, c, q, m, rfl, _⟩ := hd.parts
  have HMT := mount_any _ count data ws (w.alloc (.cells #[.int .i64 count, .slice p data.length c, .slice q ws.length m] 25)) (hL.below (below_alloc _ _)) (hd.below (below_alloc _ _)) _ n hm
  have HMAY : Hid (May ltS x) := (mountIs_some hm).1
  have HLL : Hid (CsIn w lq l ∧ ln = l.length ∧ ln ≤ lc ∧ (ln : Int) ≤ 9223372036854775807 ∧ (∀ y ∈ l, (y.key.size : Int) ≤ 9223372036854775807) ∧ chgE x.files l = E ∧ E ≠ 0) := ⟨hl, hl0, hlc, hlb, hs, hE, hE0⟩
  clear hd hL hm hl hl0 hlc hlb hs hE hE0
  go_enter Tryz.func38, Tryz.ntmps38
  go_wp2_with fail
  refine HMT.mono ?_
  rintro e w2 ⟨ls, lv, hls, rfl, hfo, hb2⟩
  obtain ⟨fq, fm, rfl, _⟩ := hfo.form
  have hB2 : Below w.heap.size w w2 := below_bt (below_alloc _ _) hb2
  obtain ⟨L, hLn⟩ : ∃ L, ls.length = L := ⟨_, rfl⟩
  rw [hLn] at hfo ⊢
  have hB3 : Below w.heap.size w (w2.alloc (.cells #[.int .i64 x.gen, .slice fq L fm] 31)) := below_bt hB2 (below_alloc _ _)
  have hck := checkChanges_any (.slice fq L fm) x.files lq ln lc l (w2.alloc (.cells #[.int .i64 x.gen, .slice fq L fm] 31)) ((hfo.files HMAY.out hls).below (below_alloc _ _)) (HLL.out.1.below hB3) HLL.out.2.1 HLL.out.2.2.1 HLL.out.2.2.2.1 HLL.out.2.2.2.2.1 E HLL.out.2.2.2.2.2.1
  have HB3 : Hid (Below w.heap.size w (w2.alloc (.cells #[.int .i64 x.gen, .slice fq L fm] 31))) := hB3
  clear HMT hb2 hB2 hB3 hfo hls hLn
  go_wp2_with fail
  refine hck.mono ?_
  rintro e w4 ⟨ev, rfl, hev, hb4⟩
  have hfa : Faults ev E := by
    rcases hev with ⟨h, _⟩ | ⟨_, h⟩
    · exact absurd h HLL.out.2.2.2.2.2.2
    · exact h
  have HFA : Hid (Faults ev E) := hfa
  have HB4 : Hid (Below w.heap.size w w4) := below_bt HB3.out hb4
  obtain ⟨T, vv, rfl⟩ := hfa.iface
  clear hck hev hb4 hfa
  go_wp2
  go_ret2
  exact ⟨⟨_, rfl, HFA.out, HB4.out⟩⟩
end Go.Proofs.YtglcpfnpbcnejaaGreatDoor
namespace Go.Proofs.YtglcpfnpbcnejaaGreatDoor
open Go.RowKit Go.WideShapes Rm

/-- What is asked of the changes in memory. -/
structure ChgIn (w : World) (lq : Option Addr) (ln lc : Nat) (l : List CV) : Prop where
  lies : CsIn w lq l
  len : ln = l.length
  cap : ln ≤ lc
  fits : (ln : Int) ≤ 9223372036854775807
  keys : ∀ y ∈ l, (y.key.size : Int) ≤ 9223372036854775807
theorem chg_few {old : List FileV} {l : List CV} (h : chgE old l = 0) : l.length ≤ 64 := by
  rcases Nat.lt_or_ge 64 l.length with h1 | h1
  · unfold chgE at h
    rw [if_pos h1] at h
    cases h
  · exact h1
set_option maxRecDepth 8000 in
set_option maxHeartbeats 4000000 in
theorem turn_many (v : Value) (count : Int) (data : List Nat) (ws : Puts) (lq : Option Addr) (ln lc : Nat) (l : List CV) (w : World) (hL : Laid w) (hd : DiskIn w v count data ws) (x : DirV) (at_ n : Int) (hm : MountIs count data ws (some (x, at_)) n)
    (hl : ChgIn w lq ln lc l) (hE : chgE x.files l = 0) (hmany : 32 < (x.files.filter fun f => !namedC l f.name).length + (putsC l).length) :
    Calls Tryz.prog 38 #[v, .slice lq ln lc] w fun e w' => TErr w 42 e w' := by
  obtain ⟨p, c, q, m, rfl, _⟩ := hd.parts
  have HMT := mount_any _ count data ws (w.alloc (.cells #[.int .i64 count, .slice p data.length c, .slice q ws.length m] 25)) (hL.below (below_alloc _ _)) (hd.below (below_alloc _ _)) _ n hm
  have HMAY : Hid (May ltS x) := (mountIs_some hm).1
  have HLL : Hid (ChgIn w lq ln lc l ∧ chgE x.files l = 0 ∧ 32 < (x.files.filter fun f => !namedC l f.name).length + (putsC l).length) := ⟨hl, hE, hmany⟩
  clear hd hL hm hl hE hmany
  go_enter Tryz.func38, Tryz.ntmps38
  go_wp2_with fail
  refine HMT.mono ?_
  rintro e w2 ⟨ls, lv, hls, rfl, hfo, hb2⟩
  obtain ⟨fq, fm, rfl, _⟩ := hfo.form
  have hB2 : Below w.heap.size w w2 := below_bt (below_alloc _ _) hb2
  have hl32 : ls.length ≤ 32 := by
    have h := congrArg List.length hls
    rw [List.length_map] at h
    rw [h]
    exact HMAY.out.many
  obtain ⟨L, hLn⟩ : ∃ L, ls.length = L := ⟨_, rfl⟩
  have HLS : Hid (ls.map Prod.fst = x.files ∧ ls.length ≤ 32) := ⟨hls, hl32⟩
  rw [hLn] at hfo ⊢
  have hB3 : Below w.heap.size w (w2.alloc (.cells #[.int .i64 x.gen, .slice fq L fm] 31)) := below_bt hB2 (below_alloc _ _)
  have hck := checkChanges_any (.slice fq L fm) x.files lq ln lc l (w2.alloc (.cells #[.int .i64 x.gen, .slice fq L fm] 31)) ((hfo.files HMAY.out hls).below (below_alloc _ _)) (HLL.out.1.lies.below hB3) HLL.out.1.len HLL.out.1.cap HLL.out.1.fits HLL.out.1.keys 0 HLL.out.2.1
  have HB3 : Hid (Below w.heap.size w (w2.alloc (.cells #[.int .i64 x.gen, .slice fq L fm] 31))) := hB3
  have HX3 : Hid ((w2.alloc (.cells #[.int .i64 x.gen, .slice fq L fm] 31)).heap[w2.heap.size]? = some (.cells #[.int .i64 x.gen, .slice fq L fm] 31 (0, 0))) := heap_alloc_new _ _
  have HFO : Hid (FMix (w2.alloc (.cells #[.int .i64 x.gen, .slice fq L fm] 31)) _ _ (.slice fq L fm) ls) := (hfo.mix.below (below_alloc _ _))
  clear HMT hb2 hB2 hB3 hfo hls hLn hl32
  go_wp2_with fail
  refine hck.mono ?_
  rintro e w4 ⟨ev, rfl, hev, hb4⟩
  obtain rfl : ev = .nilIface := by
    rcases hev with ⟨_, h⟩ | ⟨h, _⟩
    · exact h
    · exact absurd rfl h
  have HB4 : Hid (Below w.heap.size w w4) := below_bt HB3.out hb4
  have HX4 := (hb4.block _ (lt_heap HX3.out)).trans HX3.out
  obtain ⟨x0, x1⟩ := two_cells HX4
  have hst := staying_any (.slice fq L fm) ls _ _ lq ln lc l w4 (HFO.out.below hb4) (by have := HLS.out.2; omega) (HLL.out.1.lies.below HB4.out) HLL.out.1.len HLL.out.1.fits
  clear hck hev hb4 HX3 HX4 HFO HB3
  go_wp2_with fail
  refine hst.mono ?_
  rintro e w5 ⟨sv, rfl, hsv⟩
  obtain ⟨sq, sm, rfl, _⟩ := hsv.own.form
  have HB5 : Hid (Below w.heap.size w w5) := below_bt HB4.out hsv.bel
  have hpt := putting_any lq ln lc l w5 (HLL.out.1.lies.below HB5.out) HLL.out.1.len (by have := chg_few HLL.out.2.1; have := HLL.out.1.len; omega)
  have hlen : (stayP ls l).length = (x.files.filter fun f => !namedC l f.name).length := by
    rw [← HLS.out.1]
    unfold stayP
    rw [List.filter_map, List.length_map]
    rfl
  obtain ⟨sl, hsl⟩ : ∃ m, (stayP ls l).length = m := ⟨_, rfl⟩
  have HSL : Hid (32 < sl + (putsC l).length ∧ sl ≤ 32) := ⟨by rw [← hsl, hlen]; exact HLL.out.2.2, by have h1 := stayP_len ls l ls.length; rw [List.take_length] at h1; have h2 := HLS.out.2; omega⟩
  rw [hsl]
  clear hst hsv hlen hsl x0 x1
  go_wp2_with fail
  refine hpt.mono ?_
  rintro e w6 ⟨pv, rfl, hpv⟩
  obtain ⟨pq, pm, rfl, _⟩ := own_form hpv.own
  have HB6 : Hid (Below w.heap.size w w6) := below_bt HB5.out hpv.bel
  obtain ⟨pl, hpl⟩ : ∃ m, (putsC l).length = m := ⟨_, rfl⟩
  have hlt : (32 : Int) < (sl : Int) + (pl : Int) := by have := HSL.out.1; omega
  have hle : (sl : Int) ≤ 32 := by have := HSL.out.2; omega
  have hle2 : (pl : Int) ≤ 64 := by have h1 := chg_few HLL.out.2.1; have h2 := putsC_len l l.length; rw [List.take_length] at h2; omega
  rw [hpl]
  clear hpt hpv hpl
  go_wp2
  go_ret2
  exact ⟨⟨_, rfl, Faults.one _ _, HB6.out⟩⟩
end Go.Proofs.YtglcpfnpbcnejaaGreatDoor
