/-
  turn where it stops early: no directory, wrong changes, too many files.
-/
import Derived.Test.YtkgmhmhphgaclabGreatDoorJ29
namespace Go.Proofs.YtkgmhmhphgaclabGreatDoor
open Go.RowKit Go.WideShapes Rm

/-- What writeNext answers. -/
structure WNextP (w : World) (base base0 : Nat) (v : Value) (G : Int) (ls : FPs) (e : Ending) (w' : World) : Prop where
  ex : (G = 4611686018427387904 ∧ w' = w ∧ ∃ ev, e = .returned (.tuple #[.slice none 0 0, ev]) ∧ Faults ev 42) ∨
    (G ≠ 4611686018427387904 ∧ ∃ ss r ev n b, e = .returned (.tuple #[r, ev]) ∧ ls.Perm ss ∧ (ss.Pairwise fun x y => Op.bytesLess y.1.name.toList x.1.name.toList = false) ∧ Wrote ⟨G, ss.map Prod.fst⟩ n b ∧ ErrV ev n ∧ w'.ownsRow w.heap.size 5 1 r b.length (Bs b) ∧ FMix w' base base0 v ss ∧ w.grownBy w' v.ownBlock)
theorem allPcs_perm {ls ss : FPs} (h : ls.Perm ss) : (allPcs (ls.map Prod.fst)).length = (allPcs (ss.map Prod.fst)).length := by
  unfold allPcs
  exact ((h.map _).flatMap_right _).length_eq
set_option maxRecDepth 8000 in
set_option maxHeartbeats 2000000 in
theorem writeNext_any (G : Int) (v : Value) (ls : FPs) (base base0 : Nat) (w : World) (hG : wf64 G) (hb : base0 ≤ base) (ho : FMix w base base0 v ls) (hn : ls.length ≤ 100000) (hwf : ∀ x ∈ ls, Wf x.1.pcs ∧ wf64 x.1.size ∧ (x.1.name.size : Int) ≤ 9223372036854775807) (hsum : (allPcs (ls.map Prod.fst)).length ≤ 1000000) :
    Calls Tryz.prog 51 #[.int .i64 G, v] w fun e w' => WNextP w base base0 v G ls e w' := by
  have hst := sort_files base base0 v ls w ho hn
  obtain ⟨q, m, rfl, _⟩ := ho.form
  have HH : Hid (wf64 G ∧ base0 ≤ base ∧ ls.length ≤ 100000 ∧ (∀ x ∈ ls, Wf x.1.pcs ∧ wf64 x.1.size ∧ (x.1.name.size : Int) ≤ 9223372036854775807) ∧ (allPcs (ls.map Prod.fst)).length ≤ 1000000) := ⟨hG, hb, hn, hwf, hsum⟩
  obtain ⟨L, hL⟩ : ∃ L, ls.length = L := ⟨_, rfl⟩
  have HL : Hid (ls.length = L) := hL
  rw [hL] at hst ⊢
  clear ho hG hb hn hwf hsum hL
  by_cases h0 : G = 4611686018427387904
  · subst h0
    clear hst
    go_enter Tryz.func51, Tryz.ntmps51
    go_wp2
    go_ret2
    exact ⟨.inl ⟨rfl, rfl, _, rfl, Faults.one _ _⟩⟩
  · have HG : Hid (G ≠ 4611686018427387904) := h0
    have g1 : (G == 4611686018427387904) = false := by simpa using h0
    clear h0
    go_enter Tryz.func51, Tryz.ntmps51
    go_wp2_with fail
    refine hst.mono ?_
    rintro e w1 ⟨rfl, ss, hss, hpm, hup, hgr⟩
    have hlen : ss.length = L := by rw [← hpm.length_eq]; exact HL.out
    have hmem : ∀ x ∈ ss, Wf x.1.pcs ∧ wf64 x.1.size ∧ (x.1.name.size : Int) ≤ 9223372036854775807 := fun x hx => HH.out.2.2.2.1 x (hpm.mem_iff.2 hx)
    have hdir : DirIn w1 (.agg #[.int .i64 G, .slice q L m]) ⟨G, ss.map Prod.fst⟩ := ⟨⟨_, rfl, (hss.own HH.out.2.1).fin (fun x hx => (hmem x hx).1) (fun x hx => (hmem x hx).2.1)⟩, HH.out.1⟩
    have hwr := write_any _ ⟨G, ss.map Prod.fst⟩ w1 hdir (fun f hf => by obtain ⟨x, hx, rfl⟩ := List.mem_map.1 hf; exact (hmem x hx).2.2) (by rw [← allPcs_perm hpm]; exact HH.out.2.2.2.2)
    have HS : Hid (ls.Perm ss ∧ (ss.Pairwise fun x y => Op.bytesLess y.1.name.toList x.1.name.toList = false) ∧ FMix w1 base base0 (.slice q L m) ss ∧ w.grownBy w1 (Value.slice q L m).ownBlock) := ⟨hpm, hup, hss, hgr⟩
    clear hst hss hpm hup hgr hlen hmem hdir
    go_wp2_with fail
    refine hwr.mono ?_
    rintro e w2 ⟨r, ev, n, b, rfl, hw, hev, hown, hb2⟩
    have HF : Hid (WNextP w base base0 (.slice q L m) G ls (.returned (.tuple #[r, ev])) w2) := ⟨.inr ⟨HG.out, ss, r, ev, n, b, rfl, HS.out.1, HS.out.2.1, hw, hev, own_mono hown HS.out.2.2.2.size, HS.out.2.2.1.below hb2, grown_trans HS.out.2.2.2 (grown_below hb2 _)⟩⟩
    obtain ⟨rq, rm, rfl, _⟩ := own_form hown
    have hev2 : (∃ tx vx, ev = .iface tx vx) ∨ ev = .nilIface := by
      rcases hev with ⟨_, h⟩ | ⟨_, h⟩
      · exact .inr h
      · exact .inl h.iface
    clear hwr hw hev hown hb2 HS
    rcases hev2 with ⟨tx, vx, rfl⟩ | rfl
    · go_wp2
      go_ret2
      exact HF.out
    · go_wp2
      go_ret2
      exact HF.out
end Go.Proofs.YtkgmhmhphgaclabGreatDoor
namespace Go.Proofs.YtkgmhmhphgaclabGreatDoor
open Go.RowKit Go.WideShapes Rm

theorem cellsF_one {w : World} {base : Nat} {ls : FPs} (h : ∀ x ∈ ls, POwn w base x.2 x.1.pcs) : ∀ u ∈ cellsF ls, u.oneCell' = true := by
  intro u hu
  simp only [cellsF, List.mem_flatMap, List.mem_cons, List.not_mem_nil, or_false] at hu
  obtain ⟨y, hy, rfl | rfl | rfl⟩ := hu
  · rfl
  · rfl
  · obtain ⟨q, m, e, _⟩ := (h y hy).form
    rw [e]
    rfl
theorem FMix.cells {w : World} {base base0 n m : Nat} {ad : Addr} {ls : FPs} (h : FMix w base base0 (.slice (some ad) n m) ls) : ∀ j u, (cellsF ls)[j]? = some u → w.cell? (ad.add j) = some u := by
  intro j u hu
  rcases h.row.2 with ⟨hv, _⟩ | ⟨g, cap, cur, hv, hb, hg, hle, hmax, hsz, htk⟩
  · cases hv
  · simp only [Value.slice.injEq, Option.some.injEq] at hv
    obtain ⟨rfl, rfl, rfl⟩ := hv
    have hj : j < ls.length * 3 := by rw [← cellsF_len]; exact (List.getElem?_eq_some_iff.1 hu).1
    rw [add_plain, cell_of_row w g (0 + j) cur _ _ hg, Nat.zero_add]
    rw [← htk, List.getElem?_take_of_lt hj] at hu
    simpa using hu
theorem run_append_mixX (w : World) (ty : TypeId) (base base0 B : Nat) (v : Value) (ls ms : FPs) (q : Option Addr) (c : Nat) (hown : FMix w base base0 v ls) (hm : FMix w B base0 (.slice q ms.length c) ms) (hlen : ls.length + ms.length ≤ 1000000) (hbase : base ≤ w.heap.size) :
    ∃ v' w', (Builtin.append_ #[41, 41] ty #[v, .slice q ms.length c]).run Tryz.prog w = .ok v' w' ∧ FMix w' base base0 v' (ls ++ ms) ∧ w.grownBy w' v.ownBlock ∧ (v'.ownBlock = v.ownBlock ∨ v'.ownBlock = some w.heap.size) := by
  obtain ⟨i0, hi, hz0, hz1, hz2⟩ := info_parts' info_file
  cases q with
  | none =>
    obtain ⟨_, _, e, h1, _, h2⟩ := hm.form
    cases e
    obtain rfl := h2 rfl
    have h0 : ms = [] := List.eq_nil_of_length_eq_zero (by omega)
    subst h0
    exact ⟨v, w, run_append_owned_none (P := Tryz.prog) w base 41 ty 50 i0 3 Tryz.underlying41 hi v ls.length (cellsF ls) hown.row, by simpa using hown, ⟨rfl, rfl, rfl, Nat.le_refl _, fun _ _ _ => rfl⟩, .inl rfl⟩
  | some ad =>
    have hc := hm.cells
    have h1c := cellsF_one hm.pcs
    obtain ⟨v', w', hr, h2, h3, h4⟩ := run_append_own (P := Tryz.prog) w base 41 ty 50 i0 _ 3 48 Tryz.underlying41 hi hz0 hz1 hz2 rfl (by decide) v ls.length (cellsF ls) hown.row ad ms.length c (cellsF ms) (cellsF_len ms) hc h1c (by unfold maxLen; omega) (by omega) hbase
    refine ⟨v', w', hr, ⟨?_, fun y hy => ?_⟩, h3, ?_⟩
    · rw [cellsF_app, List.length_append]
      exact h2
    · have hy' : POwn w base0 y.2 y.1.pcs := by
        rcases List.mem_append.1 hy with h | h
        · exact hown.pcs y h
        · exact hm.pcs y h
      exact hy'.kept h3 (apart_own hy' hown.row (by decide))
    rcases hown.row.2 with ⟨h0, hn0⟩ | ⟨g, cap, cur, hv, hbg, hg, hnc, hcm, hcs, htake⟩
    · subst h0
      by_cases hy : ms.length = 0
      · left
        rw [h4.2 ⟨rfl, hy⟩]
      · right
        have hr2 := run_append_nil (P := Tryz.prog) w 41 ty 50 i0 _ Tryz.underlying41 hi hz0 ad ms.length c (cellsF ms) (by rw [hz1, cellsF_len]) hc (by omega) (by omega) (by rw [hz2]; omega)
        have e := hr.symm.trans hr2
        exact (congrArg Value.ownBlock (ok_fst e)).trans rfl
    · subst hv
      by_cases hroom : ls.length + ms.length ≤ cap
      · left
        have hr2 := run_append_room (P := Tryz.prog) w 41 ty 50 i0 Tryz.underlying41 hi g ls.length cap cur hg ad ms.length c (cellsF ms) (by rw [hz1, cellsF_len]) hc h1c hroom (by rw [hz1, cellsF_len, hcs]; omega)
        have e := hr.symm.trans hr2
        exact (congrArg Value.ownBlock (ok_fst e)).trans rfl
      · right
        have hr2 := run_append_grow (P := Tryz.prog) w 41 ty 50 i0 _ Tryz.underlying41 hi hz0 ⟨g, 0, none⟩ ls.length cap (cellsF ls) (by rw [hz1, cellsF_len]) (hown.row.cells (g := g) rfl) ad ms.length c (cellsF ms) (by rw [hz1, cellsF_len]) hc (by omega) (by omega) (growslice_fits (by omega) (by rw [hz2]; omega))
        have e := hr.symm.trans hr2
        exact (congrArg Value.ownBlock (ok_fst e)).trans rfl
theorem wpList_append_mixX (w : World) {ops : Array Oper} {rest : List Oper} {o : Oper} {a : Act} {Q : Exit → Act → World → Prop} (hgd : o.guard = none) (s x : Operand)
    (ho : o.op = .call { callee := .builtin .append, args := #[s, x], argTypes := #[41, 41] }) (base base0 B : Nat) (v : Value) (ls ms : FPs) (q : Option Addr) (n c : Nat) (hs : a.eval s = v) (hx : a.eval x = .slice q n c) (hn : n = ms.length)
    (hown : FMix w base base0 v ls) (hm : FMix w B base0 (.slice q n c) ms) (hlen : ls.length + ms.length ≤ 1000000) (hbase : base ≤ w.heap.size)
    (h : ∀ v' w', FMix w' base base0 v' (ls ++ ms) → w.grownBy w' v.ownBlock → (v'.ownBlock = v.ownBlock ∨ v'.ownBlock = some w.heap.size) → wpList Tryz.prog ops Q rest (a.put o.dst v') w') : wpList Tryz.prog ops Q (o :: rest) a w := by
  subst hn
  refine wpList_plain hgd fun K hK => ?_
  obtain ⟨v', w', hr, g2, g3, g4⟩ := run_append_mixX w o.type base base0 B v ls ms q c hown hm hlen hbase
  unfold Oper.wp execOp
  simp only [ho, resolve, invoke, builtin, Sem.run_bind, Sem.run_pure, Result.andThen_ok, List.map_toArray, List.map_cons, List.map_nil, hs, hx, hr]
  exact hK _ _ (h v' w' g2 g3 g4)
end Go.Proofs.YtkgmhmhphgaclabGreatDoor
namespace Go.Proofs.YtkgmhmhphgaclabGreatDoor
open Go.RowKit Go.WideShapes Rm

theorem good_of {count : Int} {l : List FileV} {f : FileV} (h : Rm.Good count (allPcs l)) (hf : f ∈ l) : Rm.Good count f.pcs := by
  obtain ⟨a, b, e⟩ := List.append_of_mem hf
  have e2 : allPcs l = allPcs a ++ (f.pcs ++ allPcs b) := by rw [e]; simp [allPcs]
  rw [e2] at h
  exact h.right.left
theorem placed_fits {count : Int} (hz : 80 ≤ count ∧ count ≤ 4096) {U : Pcs} (hu : Rm.Good count U) {l : List CV} {P : List FileV} (hp : placeN count U (csOf l) = .ok P) (hl : l.length ≤ 100) {O : FPs} (hO : O.map Prod.fst = P) : Fits O l := by
  obtain ⟨h1, h2, h3⟩ := place_facts hz hu hp
  have hlen : O.length = l.length := by
    have := congrArg List.length h2
    rw [List.length_map, List.length_map, ← hO, List.length_map] at this
    unfold csOf at this
    rwa [List.length_map] at this
  refine ⟨hlen, by omega, fun i hi => ?_⟩
  have hm : (O.getD i zeroFP).1 ∈ P := by rw [← hO]; exact List.mem_map_of_mem (getD_fp hi).2
  have hg := good_of h1.right hm
  have hg4 := Rm.good_more hg hz.2
  have hw := Rm.Good.wf hg hz.2
  have hpl : (O.getD i zeroFP).1.pcs.length ≤ 4096 := good_len (count := 4096) hg4
  have hk : errK 4096 (O.getD i zeroFP).1.pcs = 0 := errK_ok (by omega) hpl hg4
  have hsz : (O.getD i zeroFP).1.size = (((l.getD i zeroCV).val.size : Nat) : Int) := by
    have h := congrArg (fun t => t[i]?) h2
    simp only [List.getElem?_map] at h
    have hc : (csOf l)[i]? = some ((l.getD i zeroCV).key, numsOf (l.getD i zeroCV).val) := by
      unfold csOf
      rw [List.getElem?_map, List.getD_eq_getElem?_getD, List.getElem?_eq_getElem (by omega)]
      rfl
    have hP : P[i]? = some (O.getD i zeroFP).1 := by
      rw [← hO, List.getElem?_map, (getD_fp hi).1]
      rfl
    rw [hP, hc] at h
    simp only [Option.map_some, Option.some.injEq, Prod.mk.injEq] at h
    rw [h.2, nums_len]
  have hs : ((secs (O.getD i zeroFP).1.pcs).length : Int) = needsN (((l.getD i zeroCV).val.size : Nat) : Int) := by
    rw [secs_len_sum (fun p hp => by have := hg.wn p hp; unfold Wn at this; omega), ← hsz]
    exact (h3 _ hm).2.1
  refine ⟨by unfold secsN; rw [if_pos hk], hw, hs, ?_⟩
  have h4 := (h3 _ hm).2.2.2
  rw [hsz] at h4
  unfold needsN at hs
  omega
/-- The names of what is placed, and their sizes. -/
theorem placed_wf {count : Int} (hz : 80 ≤ count ∧ count ≤ 4096) {U : Pcs} (hu : Rm.Good count U) {l : List CV} {P : List FileV} (hp : placeN count U (csOf l) = .ok P) : P.length = l.length ∧ (∀ f ∈ P, Wf f.pcs ∧ wf64 f.size ∧ ∃ c ∈ l, f.name = c.key) ∧ Rm.Good count (U ++ allPcs P) := by
  obtain ⟨h1, h2, h3⟩ := place_facts hz hu hp
  refine ⟨?_, fun f hf => ⟨Rm.Good.wf (good_of h1.right hf) hz.2, ?_, ?_⟩, h1⟩
  · have := congrArg List.length h2
    rw [List.length_map, List.length_map] at this
    unfold csOf at this
    rwa [List.length_map] at this
  · have h := (h3 f hf).2.2
    unfold wf64
    omega
  · have hm : (f.name, f.size) ∈ (csOf l).map (fun c => (c.1, ((c.2.length : Nat) : Int))) := by
      rw [← h2]
      exact List.mem_map_of_mem (f := fun f : FileV => (f.name, f.size)) hf
    obtain ⟨c, hc, e⟩ := List.mem_map.1 hm
    unfold csOf at hc
    obtain ⟨d, hd, rfl⟩ := List.mem_map.1 hc
    simp only [Prod.mk.injEq] at e
    exact ⟨d, hd, e.1.symm⟩
end Go.Proofs.YtkgmhmhphgaclabGreatDoor
namespace Go.Proofs.YtkgmhmhphgaclabGreatDoor
open Go.RowKit Go.WideShapes Rm

/-- An error is answered. -/
structure TErr (w : World) (m : Int) (e : Ending) (w' : World) : Prop where
  ex : ∃ ev, e = .returned (.tuple #[.slice none 0 0, ev]) ∧ Faults ev m ∧ Below w.heap.size w w'
set_option maxRecDepth 8000 in
set_option maxHeartbeats 4000000 in
theorem turn_none (v : Value) (count : Int) (data : List Nat) (ws : Puts) (lq : Option Addr) (ln lc : Nat) (w : World) (hL : Laid w) (hd : DiskIn w v count data ws) (n : Int) (hm : MountIs count data ws none n) :
    Calls Tryz.prog 24 #[v, .slice lq ln lc] w fun e w' => TErr w n e w' := by
  obtain ⟨p, c, q, m, rfl, _⟩ := hd.parts
  have HMT := mount_any _ count data ws (w.alloc (.cells #[.int .i64 count, .slice p data.length c, .slice q ws.length m] 25)) (hL.below (below_alloc _ _)) (hd.below (below_alloc _ _)) none n hm
  clear hd hL hm
  go_enter Tryz.func24, Tryz.ntmps24
  go_wp2_with fail
  refine HMT.mono ?_
  rintro e w2 ⟨ev, rfl, hfa, hb2⟩
  have HFA : Hid (Faults ev n) := hfa
  have HB2 : Hid (Below w.heap.size w (w2.alloc (.cells #[.int .i64 0, .slice none 0 0] 43))) := below_bt (below_bt (below_alloc _ _) hb2) (below_alloc _ _)
  obtain ⟨T, vv, rfl⟩ := hfa.iface
  clear hfa hb2 HMT
  go_wp2
  go_ret2
  exact ⟨⟨_, rfl, HFA.out, HB2.out⟩⟩
set_option maxRecDepth 8000 in
set_option maxHeartbeats 4000000 in
theorem turn_chg (v : Value) (count : Int) (data : List Nat) (ws : Puts) (lq : Option Addr) (ln lc : Nat) (l : List CV) (w : World) (hL : Laid w) (hd : DiskIn w v count data ws) (x : DirV) (at_ n : Int) (hm : MountIs count data ws (some (x, at_)) n)
    (hl : CsIn w lq l) (hl0 : ln = l.length) (hlc : ln ≤ lc) (hlb : (ln : Int) ≤ 9223372036854775807) (hs : ∀ y ∈ l, (y.key.size : Int) ≤ 9223372036854775807) (E : Int) (hE : chgE x.files l = E) (hE0 : E ≠ 0) :
    Calls Tryz.prog 24 #[v, .slice lq ln lc] w fun e w' => TErr w E e w' := by
  obtain ⟨p, c, q, m, rfl, _⟩ := hd.parts
  have HMT := mount_any _ count data ws (w.alloc (.cells #[.int .i64 count, .slice p data.length c, .slice q ws.length m] 25)) (hL.below (below_alloc _ _)) (hd.below (below_alloc _ _)) _ n hm
  have HMAY : Hid (May ltS x) := (mountIs_some hm).1
  have HLL : Hid (CsIn w lq l ∧ ln = l.length ∧ ln ≤ lc ∧ (ln : Int) ≤ 9223372036854775807 ∧ (∀ y ∈ l, (y.key.size : Int) ≤ 9223372036854775807) ∧ chgE x.files l = E ∧ E ≠ 0) := ⟨hl, hl0, hlc, hlb, hs, hE, hE0⟩
  clear hd hL hm hl hl0 hlc hlb hs hE hE0
  go_enter Tryz.func24, Tryz.ntmps24
  go_wp2_with fail
  refine HMT.mono ?_
  rintro e w2 ⟨ls, lv, hls, rfl, hfo, hb2⟩
  obtain ⟨fq, fm, rfl, _⟩ := hfo.form
  have hB2 : Below w.heap.size w w2 := below_bt (below_alloc _ _) hb2
  obtain ⟨L, hLn⟩ : ∃ L, ls.length = L := ⟨_, rfl⟩
  rw [hLn] at hfo ⊢
  have hB3 : Below w.heap.size w (w2.alloc (.cells #[.int .i64 x.gen, .slice fq L fm] 43)) := below_bt hB2 (below_alloc _ _)
  have hck := checkChanges_any (.slice fq L fm) x.files lq ln lc l (w2.alloc (.cells #[.int .i64 x.gen, .slice fq L fm] 43)) ((hfo.files HMAY.out hls).below (below_alloc _ _)) (HLL.out.1.below hB3) HLL.out.2.1 HLL.out.2.2.1 HLL.out.2.2.2.1 HLL.out.2.2.2.2.1 E HLL.out.2.2.2.2.2.1
  have HB3 : Hid (Below w.heap.size w (w2.alloc (.cells #[.int .i64 x.gen, .slice fq L fm] 43))) := hB3
  clear HMT hb2 hB2 hB3 hfo hls hLn
  go_wp2_with fail
  refine hck.mono ?_
  rintro e w4 ⟨ev, rfl, hev, hb4⟩
  have hfa : Faults ev E := by
    rcases hev with ⟨h, _⟩ | ⟨_, h⟩
    · exact absurd h HLL.out.2.2.2.2.2.2
    · exact h
  have HFA : Hid (Faults ev E) := hfa
  have HB4 : Hid (Below w.heap.size w w4) := below_bt HB3.out hb4
  obtain ⟨T, vv, rfl⟩ := hfa.iface
  clear hck hev hb4 hfa
  go_wp2
  go_ret2
  exact ⟨⟨_, rfl, HFA.out, HB4.out⟩⟩
end Go.Proofs.YtkgmhmhphgaclabGreatDoor
