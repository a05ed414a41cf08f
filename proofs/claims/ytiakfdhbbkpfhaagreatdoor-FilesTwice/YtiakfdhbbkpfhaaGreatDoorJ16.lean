/-
  Contract of the call Read on a sector that there is: what it is now.
-/
import Derived.Test.YtiakfdhbbkpfhaaGreatDoorJ15
namespace Go.Proofs.YtiakfdhbbkpfhaaGreatDoor
set_option maxRecDepth 8000
open Go.RowKit Go.WideShapes

theorem doN_one (count : Int) (s : List Nat × Puts) (a : Bool × Int × List Nat) : doN count s [a] = stepA count s a := by
  simp only [doN]
  cases stepA count s a <;> rfl
/-- One act in a block of its own. -/
theorem acts_one {X : World} {H : Nat} (hH : H = X.heap.size) {f : Bool} {s : Int} {p : Option Addr} {c : Nat} {xs : List Nat} {t : TypeId} (hb : BIn X p xs) (h1 : xs.length ≤ c) (h2 : c ≤ maxLen) (h3 : p = none → c = 0) :
    ActsIn (X.alloc (.cells #[.bool f, .int .i64 s, .slice p xs.length c] t)) (some ⟨H, 0, none⟩) [(f, s, xs)] := by
  subst hH
  intro _
  have hh := heap_alloc_new X (.cells #[.bool f, .int .i64 s, .slice p xs.length c] t)
  refine ⟨X.heap.size, 0, rfl, fun i hi => ?_⟩
  obtain rfl : i = 0 := by simpa using hi
  refine ⟨cell_of_row _ _ _ _ _ _ hh, cell_of_row _ _ _ _ _ _ hh, _, cell_of_row _ _ _ _ _ _ hh, ⟨p, c, rfl, hb.alloc _, h1, h2, h3⟩⟩

end Go.Proofs.YtiakfdhbbkpfhaaGreatDoor
namespace Go.Proofs.YtiakfdhbbkpfhaaGreatDoor
set_option maxRecDepth 8000
open Go.RowKit Go.WideShapes
attribute [local go_sem ↓] Go.wp_at_zero Go.wp_at_succ

set_option maxHeartbeats 1000000 in
theorem crash_bad (v l : Value) (count : Int) (data : List Nat) (ws : Puts) (w : World) (hd : DiskIn w v count data ws) (ho : ¬ Okay count data ws) :
    Calls Tryz.prog 28 #[v, l] w fun e w' => e = .returned (.tuple #[zeroDisk, .int .i64 20]) ∧ Below w.heap.size w w' := by
  obtain ⟨p, c, q, m, rfl, _⟩ := hd.parts
  have HD : Hid _ := hd
  clear hd
  go_enter Tryz.func28, Tryz.ntmps28
  go_wp2_with fail
  refine (check_bad _ count data ws _ (HD.out.below ((below_alloc w _).alloc (by simp) _)) ho).mono ?_
  rintro e w1 ⟨rfl, hb1⟩
  replace hb1 : Below (w.heap.size + 2) ((w.alloc (.cells #[.int .i64 count, .slice p data.length c, .slice q ws.length m] 25)).alloc (.cells #[.int .i64 0, .slice none 0 0, .slice none 0 0] 25)) w1 := by simpa using hb1
  obtain ⟨hB, hR⟩ := box2_cells hb1
  obtain ⟨c0, c1, c2⟩ := cells3 hR
  obtain ⟨f0, f1, f2⟩ := free3 hR
  clear hB hR
  go_wp2
  (try simp only [Exit.inBlock, Exit.then])
  refine bodyPost_ret (v := .tuple #[zeroDisk, .int .i64 20]) ?_ rfl ⟨rfl, ?_⟩
  · rw [results_cell_tmp rfl]
    go_simp
  · exact set3_below (box2_below hb1) (by omega) _ _ _

theorem BoolsIn.addr {w : World} {q : Option Addr} {l : List Bool} (h : BoolsIn w q l) (hw : 0 < l.length) : ∃ b o, q = some ⟨b, o, none⟩ := by
  obtain ⟨b, o, e, _⟩ := h hw
  exact ⟨b, o, e⟩
theorem BoolsIn.at {w : World} {b o : Nat} {l : List Bool} (h : BoolsIn w (some ⟨b, o, none⟩) l) {k : Nat} (hk : k < l.length) : w.cell? ⟨b, o + k, none⟩ = some (.bool (l.getD k false)) := by
  obtain ⟨b', o', e, hc⟩ := h (by omega)
  simp only [Option.some.injEq, Addr.mk.injEq, and_true] at e
  obtain ⟨rfl, rfl⟩ := e
  exact hc k hk
theorem puts_bytes {w : World} {q : Option Addr} {ws : Puts} (h : PutsIn w q ws) : ∀ y ∈ ws, ∀ c ∈ y.2, c < 256 := by
  intro y hy
  obtain ⟨i, hi, rfl⟩ := List.getElem_of_mem hy
  obtain ⟨b, o, rfl⟩ := h.addr (by omega)
  obtain ⟨_, p, c, _, hb, _⟩ := h.at hi
  have := hb.2
  simpa [List.getD, List.getElem?_eq_getElem hi] using this
/-- The disk that is being made: its block, its sectors. -/
structure Half (w : World) (base B0 gd : Nat) (count : Int) (n : Nat) (data : List Nat) : Prop where
  box : w.heap[B0]? = some (.cells #[.int .i64 count, .slice (some ⟨gd, 0, none⟩) n n, .slice none 0 0] 25 (0, 0))
  hB : base ≤ B0
  hgd : base ≤ gd
  drow : w.heap[gd]? = some (.cells (Bs data).toArray 5 (0, 0))
theorem Half.ne {w : World} {base B0 gd : Nat} {count : Int} {n : Nat} {data : List Nat} (h : Half w base B0 gd count n data) : B0 ≠ gd := by
  intro e
  have h1 := h.box
  rw [e, h.drow] at h1
  simp at h1
theorem Half.below {w w' : World} {base B0 gd : Nat} {count : Int} {n : Nat} {data : List Nat} (h : Half w base B0 gd count n data) (hb : Below w.heap.size w w') : Half w' base B0 gd count n data :=
  ⟨(hb.block _ (lt_heap h.box)).trans h.box, h.hB, h.hgd, (hb.block _ (lt_heap h.drow)).trans h.drow⟩

set_option maxHeartbeats 2000000 in
theorem crash_ok (v : Value) (count : Int) (data : List Nat) (ws : Puts) (w : World) (hd : DiskIn w v count data ws) (ho : Okay count data ws) (ql : Option Addr) (ml : Nat) (keep : List Bool) (hl : BoolsIn w ql keep) (hll : keep.length ≤ 9223372036854775807) :
    Calls Tryz.prog 28 #[v, .slice ql keep.length ml] w fun e w' => (∃ v', e = .returned (.tuple #[v', .int .i64 0]) ∧ DiskNew w' w.heap.size v' count (crashN data ws keep) []) ∧ Below w.heap.size w w' := by
  obtain ⟨p, c, q, m, rfl, hb, _, _, _, hqp, hqm, hqmm, _⟩ := hd.parts
  have HBY : Hid (∀ c ∈ data, c < 256) := hb.2
  have HQ : Hid (PutsIn w q ws) := hqp
  have HPB : Hid (∀ y ∈ ws, ∀ c ∈ y.2, c < 256) := puts_bytes hqp
  have hfew := ho.few
  have hhi := ho.hi
  have hlen := ho.len
  have HLEN : Hid ((data.length : Int) = count * 128) := hlen
  clear hb hqp hlen
  have HD : Hid _ := hd
  have HO : Hid _ := ho
  clear hd ho
  go_enter Tryz.func28, Tryz.ntmps28
  go_wp2_with fail
  refine (check_ok _ count data ws _ (HD.out.below ((below_alloc w _).alloc (by simp) _)) HO.out).mono ?_
  rintro e w1 ⟨rfl, hb1⟩
  replace hb1 : Below (w.heap.size + 2) ((w.alloc (.cells #[.int .i64 count, .slice p data.length c, .slice q ws.length m] 25)).alloc (.cells #[.int .i64 0, .slice none 0 0, .slice none 0 0] 25)) w1 := by simpa using hb1
  have hz1 := box2_size hb1
  obtain ⟨hB, hR⟩ := box2_cells hb1
  obtain ⟨c0, c1, c2⟩ := cells3 hB
  clear hB hR
  go_wp2
  obtain ⟨W, hW⟩ : ∃ W, W = (w.alloc (.cells #[.int .i64 count, .slice p data.length c, .slice q ws.length m] 25)).alloc (.cells #[.int .i64 0, .slice none 0 0, .slice none 0 0] 25) := ⟨_, rfl⟩
  have HDx : Hid (∀ w', Below (w.heap.size + 2) W w' → DiskIn w' (.agg #[.int .i64 count, .slice p data.length c, .slice q ws.length m]) count data ws) := by
    intro w' h
    rw [hW] at h
    exact HD.out.below (box2_below h)
  rw [← hW] at hb1
  have HS1 : (w1.drew.cell? ⟨w.heap.size, 0, none⟩ = some (.int .i64 count) ∧ w1.drew.cell? ⟨w.heap.size, 1, none⟩ = some (.slice p data.length c) ∧ w1.drew.cell? ⟨w.heap.size, 2, none⟩ = some (.slice q ws.length m)) ∧ Hid (Below (w.heap.size + 2) W w1.drew) := ⟨⟨c0, c1, c2⟩, hb1.drew⟩
  have HWz : Hid (w.heap.size + 2 ≤ W.heap.size) := by show _ ≤ _; rw [hW]; simp
  go_cut [7] from 10 (fun s7 w5 => ∃ B0 gd, s7 = .pointer (some ⟨B0, 0, none⟩) ∧ Half w5 (w.heap.size + 2) B0 gd count data.length data ∧ Below (w.heap.size + 2) W w5)
  case first =>
    refine wp_region_noPanic ?_
    refine wp_region_held_drew (S := fun w' => (w'.cell? ⟨w.heap.size, 0, none⟩ = some (.int .i64 count) ∧ w'.cell? ⟨w.heap.size, 1, none⟩ = some (.slice p data.length c) ∧ w'.cell? ⟨w.heap.size, 2, none⟩ = some (.slice q ws.length m)) ∧ Hid (Below (w.heap.size + 2) W w')) (by kernel_rfl) HS1 (fun hS0 => ?_)
    have sz0 := Nat.le_trans HWz.out hS0.2.out.size
    clear HS1 c0 c1 c2 hb1
    refine takeH 0 16 (v := ?_) rfl rfl (by kernel_rfl) (by kernel_rfl) (by kernel_rfl) (fun _ _ _ h => h) (by rfl) ?_ (by assumption) ?_
    rotate_left
    · intro w hSw; go_simp; first | done | with_reducible rfl
    simp only [Act.put, List.setIfInBounds_toArray, List.set_cons_zero, List.set_cons_succ]
    refine takeH 1 17 (v := ?_) rfl rfl (by kernel_rfl) (by kernel_rfl) (by kernel_rfl) (fun _ _ _ h => h) (by rfl) ?_ (by assumption) ?_
    rotate_left
    · intro w hSw; go_simp; first | done | with_reducible rfl
    simp only [Act.put, List.setIfInBounds_toArray, List.set_cons_zero, List.set_cons_succ]
    refine takeH 2 18 (v := ?_) rfl rfl (by kernel_rfl) (by kernel_rfl) (by kernel_rfl) (fun _ _ _ h => h) (by rfl) ?_ (by assumption) ?_
    rotate_left
    · intro w hSw; go_simp; first | done | with_reducible rfl
    simp only [Act.put, List.setIfInBounds_toArray, List.set_cons_zero, List.set_cons_succ]
    refine wpAnyH_ready (rs := [3, 5]) (by kernel_rfl) (by simp) ?_
    refine AllReadyH.cons rfl (fun K hK => ?_) (AllReadyH.cons rfl (fun K hK => ?_) AllReadyH.nil)
    · go_simp
      refine (sectors_any _ count data ws _ (HDx.out _ hS0.2.out) HO.out).mono ?_
      rintro e ws1 ⟨gd, rfl, hg1, hg2, hb1⟩
      go_simp
      refine hK.out _ _ (keepS HWz.out hS0 hb1) (fun hS1 => ?_)
      clear hK K
      have sz1 := Nat.le_trans HWz.out hS1.2.out.size
      refine takeH 4 20 (v := ?_) rfl rfl (by kernel_rfl) (by kernel_rfl) (by kernel_rfl) (fun _ _ _ h => h) (by rfl) ?_ (by assumption) ?_
      rotate_left
      · intro w hSw; go_simp; first | done | with_reducible rfl
      simp only [Act.put, List.setIfInBounds_toArray, List.set_cons_zero, List.set_cons_succ]
      refine wpAnyH_ready (rs := [5]) (by kernel_rfl) (by simp) ?_
      refine AllReadyH.cons rfl (fun K hK => ?_) AllReadyH.nil
      go_simp
      refine hK.out _ _ (keepS HWz.out hS1 (below_alloc ws1 _)) (fun hS2 => ?_)
      clear hK K
      refine wpAnyH_ready (rs := [6]) (by kernel_rfl) (by simp) ?_
      refine AllReadyH.cons rfl (fun K hK => ?_) AllReadyH.nil
      go_simp
      refine hK.out _ _ (keepA HWz.out hS1 _) (fun hSz => ?_)
      clear hK K
      refine wpAnyH_done (by kernel_rfl) (NoPanic.normal ?_) _
      go_wp2
      go_meet
      case rel =>
        exact ⟨_, gd, rfl, ⟨heap_alloc_new _ _, sz1, Nat.le_trans sz0 hg1, ((below_alloc ws1 _).block _ (lt_heap hg2)).trans hg2⟩, hSz.2.out⟩
    · have hb1 := below_alloc w1.drew (.cells #[.int .i64 0, .slice none 0 0, .slice none 0 0] 25)
      go_simp
      refine hK.out _ _ (keepS HWz.out hS0 hb1) (fun hS1 => ?_)
      clear hK K
      refine wpAnyH_ready (rs := [3]) (by kernel_rfl) (by simp) ?_
      refine AllReadyH.cons rfl (fun K hK => ?_) AllReadyH.nil
      go_simp
      refine (sectors_any _ count data ws _ (HDx.out _ hS1.2.out) HO.out).mono ?_
      rintro e ws2 ⟨gd, rfl, hg1, hg2, hb2⟩
      go_simp
      refine hK.out _ _ (keepS HWz.out hS1 hb2) (fun hS2 => ?_)
      clear hK K
      have sz1 := Nat.le_trans HWz.out hS1.2.out.size
      refine takeH 4 20 (v := ?_) rfl rfl (by kernel_rfl) (by kernel_rfl) (by kernel_rfl) (fun _ _ _ h => h) (by rfl) ?_ (by assumption) ?_
      rotate_left
      · intro w hSw; go_simp; first | done | with_reducible rfl
      simp only [Act.put, List.setIfInBounds_toArray, List.set_cons_zero, List.set_cons_succ]
      refine wpAnyH_ready (rs := [6]) (by kernel_rfl) (by simp) ?_
      refine AllReadyH.cons rfl (fun K hK => ?_) AllReadyH.nil
      have hZ : ws2.heap[w1.heap.size]? = some (.cells #[.int .i64 0, .slice none 0 0, .slice none 0 0] 25 (0, 0)) := (hb2.block _ (by show _ < (w1.alloc _).heap.size; rw [World.size_alloc]; exact Nat.lt_succ_self _)).trans (heap_alloc_new w1 _)
      obtain ⟨z0, z1, z2⟩ := cells3 hZ
      obtain ⟨y0, y1, y2⟩ := free3 hZ
      have HZ : Hid _ := hZ
      clear hZ
      have sz0' : w.heap.size + 2 ≤ w1.heap.size := sz0
      go_simp
      refine hK.out _ _ (keep3 hS2 ⟨by omega, sz0'⟩ _ _ _) (fun hSz => ?_)
      clear hK K
      refine wpAnyH_done (by kernel_rfl) (NoPanic.normal ?_) _
      go_wp2
      go_meet
      case rel =>
        refine ⟨_, gd, rfl, ⟨set3_same _ _ _ _ _ _ _ _ _ HZ.out, sz0', Nat.le_trans sz1 hg1, (set3_other _ _ gd _ _ _ ?_).trans hg2⟩, hSz.2.out⟩
        rintro rfl
        have h2 := HZ.out
        rw [hg2] at h2
        simp at h2
  case rest =>
    obtain ⟨B0, gd, rfl, hhf, hbc⟩ := hcut
    have HX : Hid (∀ w', Below (w.heap.size + 2) W w' → w'.heap[w.heap.size]? = some (.cells #[.int .i64 count, .slice p data.length c, .slice q ws.length m] 25 (0, 0)) ∧ w'.heap[w.heap.size + 1]? = some (.cells #[.int .i64 0, .slice none 0 0, .slice none 0 0] 25 (0, 0)) ∧ Below w.heap.size w w' ∧ w.heap.size + 2 ≤ w'.heap.size) := by
      intro w' h
      rw [hW] at h
      exact ⟨(box2_cells h).1, (box2_cells h).2, box2_below h, box2_size h⟩
    have HO0 : Hid (Half wc (w.heap.size + 2) B0 gd count data.length data) := hhf
    obtain ⟨c0, c1, c2⟩ := cells3 (HX.out _ hbc).1
    clear hhf hW HD HDx HS1 hb1 hz1
    go_wp2
    go_loopw [24] (fun i wr => ∃ k : Nat, k ≤ ws.length ∧ i = .int .i64 k ∧ Half wr (w.heap.size + 2) B0 gd count data.length (crashK data ws keep k) ∧ Below (w.heap.size + 2) W wr) (fun i _ => ws.length - (intOf i).toNat)
    case atStart => exact ⟨0, by omega, rfl, HO0.out, hbc⟩
    case round =>
      obtain ⟨k, hk, rfl, hok, hbk⟩ := hrel
      obtain ⟨hbx, hres, hbw, hsz⟩ := HX.out _ hbk
      obtain ⟨b0, b1, b2⟩ := cells3 hok.box
      by_cases hkl : k < ws.length
      · have hq := HQ.out.below hbw
        obtain ⟨b, o, rfl⟩ := hq.addr (by omega)
        obtain ⟨e1, pk, ck, e2, hbi⟩ := hq.at2 hkl
        have hwt := HO.out.wait hkl
        have HSc : Hid (crashK data ws keep (k + 1) = if keep.getD k false = true then putS (crashK data ws keep k) (ws.getD k (0, [])) else crashK data ws keep k) := rfl
        have HL : Hid ((crashK data ws keep k).length = data.length) := crashK_len HO.out keep k hk
        have hkeep : k < keep.length → ∃ b' o', ql = some ⟨b', o', none⟩ ∧ wr.cell? ⟨b', o' + k, none⟩ = some (.bool (keep.getD k false)) := by
          intro h
          obtain ⟨b', o', rfl⟩ := hl.addr (by omega)
          exact ⟨b', o', rfl, (hl.below hbw).at h⟩
        have hkn : ¬ k < keep.length → keep.getD k false = false := by
          intro h
          simp [List.getD, List.getElem?_eq_none (show keep.length ≤ k by omega)]
        rw [hwt.2.2] at e2
        generalize ws.getD k (0, []) = y at *
        obtain ⟨s, xs⟩ := y
        simp only at e1 e2 hbi hwt
        obtain ⟨hw1, hw2, hw3⟩ := hwt
        obtain ⟨n, rfl⟩ := Int.eq_ofNat_of_zero_le hw1
        have HXL : Hid (xs.length = 128) := hw3
        have hnl : (n + 1) * 128 ≤ data.length := by have := HLEN.out; omega
        have HBI : Hid (BIn wr pk xs) := hbi
        have HOK : Hid (Half wr (w.heap.size + 2) B0 gd count data.length (crashK data ws keep k)) := hok
        clear hq hw3 hbi hok hbx hres HO0 hl
        by_cases hkk : k < keep.length
        · obtain ⟨b', o', rfl, ek⟩ := hkeep hkk
          have hbl : b' < wr.heap.size := World.block_lt_of_cell? _ _ ek
          clear hkeep hkn
          generalize keep.getD k false = kb at *
          cases kb with
          | true =>
            obtain ⟨bp, op, rfl⟩ := HBI.out.addr (by rw [HXL.out]; omega)
            have hlt := lt_heap HOK.out.drow
            have hn1 : some B0 ≠ some gd := fun e => HOK.out.ne (by simpa using e)
            have HWs : Hid (∀ j v, (Bs xs)[j]? = some v → (wr.alloc (.cells #[.int .i64 n, .slice (some ⟨bp, op, none⟩) 128 ck] 45)).drew.cell? ((⟨bp, op, none⟩ : Addr).add j) = some v) := bin_news (HBI.out.alloc _)
            have HC : Hid ((wr.alloc (.cells #[.int .i64 n, .slice (some ⟨bp, op, none⟩) 128 ck] 45)).cell? ⟨wr.heap.size, 0, none⟩ = some (.int .i64 n) ∧ (wr.alloc (.cells #[.int .i64 n, .slice (some ⟨bp, op, none⟩) 128 ck] 45)).cell? ⟨wr.heap.size, 1, none⟩ = some (.slice (some ⟨bp, op, none⟩) 128 ck)) := put_cells (Below.refl _ _)
            have HH : Hid (Half (wr.alloc (.cells #[.int .i64 n, .slice (some ⟨bp, op, none⟩) 128 ck] 45)) (w.heap.size + 2) B0 gd count data.length (crashK data ws keep k)) := HOK.out.below (below_alloc wr _)
            have r1' : Hid ((wr.alloc (.cells #[.int .i64 n, .slice (some ⟨bp, op, none⟩) 128 ck] 45)).cell? ⟨B0, 1, none⟩ = some (.slice (some ⟨gd, 0, none⟩) data.length data.length)) := (cells3 HH.out.box).2.1
            have hl2 : Hid ((Bs xs).length = Nat.min 128 128) := by show _ = _; rw [Bs_len, HXL.out]; rfl
            have hf : Hid (n * 128 + (Bs xs).length ≤ (Bs (crashK data ws keep k)).length) := by show _ ≤ _; rw [Bs_len, Bs_len, HXL.out, HL.out]; omega
            have hs2 : Hid (splice (Bs (crashK data ws keep k)) (n * 128) (Bs xs) = Bs (crashK data ws keep (k + 1))) := by show _ = _; rw [Bs_splice, HSc.out]; rfl
            have hn2 : Hid (some wr.heap.size ≠ some gd) := by show _ ≠ _; intro e; simp only [Option.some.injEq] at e; omega
            have hn1' : Hid (some B0 ≠ some gd) := hn1
            have hbk1 : Below (w.heap.size + 2) W (wr.alloc (.cells #[.int .i64 n, .slice (some ⟨bp, op, none⟩) 128 ck] 45)) := hbk.alloc (by omega) _
            clear hn1 HL HSc HBI HOK hbk hbw
            go_wp2
            clear e1 e2 b0 b1 b2 ek
            have hz2 : w.heap.size + 2 ≤ (wr.alloc (.cells #[.int .i64 n, .slice (some ⟨bp, op, none⟩) 128 ck] 45)).heap.size := by rw [World.size_alloc]; omega
            obtain ⟨w2, hw2⟩ : ∃ w2, w2 = wr.alloc (.cells #[.int .i64 n, .slice (some ⟨bp, op, none⟩) 128 ck] 45) := ⟨_, rfl⟩
            rw [← hw2] at HWs HC HH hbk1 r1' hz2 ⊢
            clear hw2
            have HC' := HC
            replace HC := HC.out
            have r1 := r1'.out
            go_region_held3 (fun w' => (w'.cell? ⟨wr.heap.size, 0, none⟩ = some (.int .i64 n) ∧ w'.cell? ⟨wr.heap.size, 1, none⟩ = some (.slice (some ⟨bp, op, none⟩) 128 ck)) ∧ w'.cell? ⟨B0, 1, none⟩ = some (.slice (some ⟨gd, 0, none⟩) data.length data.length)) (first | go_keep | exact ⟨c2_grown HC'.out (grown_trans (grown_drew _ _) hg2) hn2.out, (grown_trans (grown_drew _ _) hg2).cell r1'.out hn1'.out⟩)
              (first
                | (go_at_call 60; refine (sector_any gd 0 data.length data.length n _ (by omega) hnl (by omega)).mono ?_; rintro e w1 ⟨rfl, rfl⟩)
                | (refine step_copy_grown (by rfl) (.tmp 43) (.tmp 45) 22 22 (by rfl) 5 Tryz.underlying22 size_u8 gd (n * 128) ⟨bp, op, none⟩ 128 (data.length - n * 128) 128 ck (by simp [Act.eval]) (by simp [Act.eval]) (Bs (crashK data ws keep k)) 5 HH.out.drow (Bs xs) hl2.out HWs.out hf.out (Bs_oneCell _) ?_; intro w3 hrow2 hg2)
                | fail)
            have hg3 := grown_trans (grown_drew w2 _) hg2
            have hh3 : Half w3 (w.heap.size + 2) B0 gd count data.length (crashK data ws keep (k + 1)) := ⟨(hg3.block _ (lt_heap HH.out.box) hn1'.out).trans HH.out.box, HH.out.hB, HH.out.hgd, by rw [← hs2.out]; exact hrow2.out⟩
            have hb3 : Below (w.heap.size + 2) W w3 := hbk1.trans (below_of_grown hg3 hz2 HH.out.hgd)
            have HH3 : Hid _ := hh3
            clear hrow2 hg2 hg3 HH HWs hh3
            go_wp2
            go_roundw
            case rel => exact ⟨k + 1, by omega, by go_num, HH3.out, hb3⟩
            case measure => simp [intOf]; omega
          | false =>
            have HE : Hid (crashK data ws keep (k + 1) = crashK data ws keep k) := by show _ = _; rw [HSc.out]; simp
            go_wp2
            go_roundw
            case rel => exact ⟨k + 1, by omega, by go_num, by rw [HE.out]; exact HOK.out.below (below_alloc wr _), hbk.alloc (by omega) _⟩
            case measure => simp [intOf]; omega
        · have hkf := hkn hkk
          have HE : Hid (crashK data ws keep (k + 1) = crashK data ws keep k) := by show _ = _; rw [HSc.out, hkf]; simp
          have hdk : decide ((k : Int) < (keep.length : Int)) = false := by simp; omega
          clear hkeep hkn hkf
          go_wp2
          go_roundw
          case rel => exact ⟨k + 1, by omega, by go_num, by rw [HE.out]; exact HOK.out.below (below_alloc wr _), hbk.alloc (by omega) _⟩
          case measure => simp [intOf]; omega
      · obtain rfl : k = ws.length := by omega
        obtain ⟨r0, r1, r2⟩ := cells3 hres
        obtain ⟨f0, f1, f2⟩ := free3 hres
        have HLc : Hid ((crashN data ws keep).length = data.length) := crashK_len HO.out keep _ (Nat.le_refl _)
        have HF : Hid (DiskNew wr w.heap.size (.agg #[.int .i64 count, .slice (some ⟨gd, 0, none⟩) data.length data.length, .slice none 0 0]) count (crashN data ws keep) []) :=
          ⟨⟨gd, none, 0, [], by rw [HLc.out]; rfl, by have := hok.hgd; omega, hok.drow, putsOwn_nil _ _, fun i hi => absurd hi (by simp)⟩, crashK_bytes HBY.out (fun y hy => HPB.out y hy) _ (Nat.le_refl _)⟩
        have HR : Hid _ := hres
        clear hok hres HO0 hl hbx
        go_wp2
        (try simp only [Exit.inBlock, Exit.then])
        refine bodyPost_ret (v := .tuple #[.agg #[.int .i64 count, .slice (some ⟨gd, 0, none⟩) data.length data.length, .slice none 0 0], .int .i64 0]) ?_ rfl ⟨?_, ?_⟩
        · rw [results_cell_tmp rfl]
          go_simp
        · exact ⟨_, rfl, HF.out.set3 HR.out _ _ _⟩
        · exact set3_below hbw (by omega) _ _ _
end Go.Proofs.YtiakfdhbbkpfhaaGreatDoor
namespace Go.Proofs.YtiakfdhbbkpfhaaGreatDoor
set_option maxRecDepth 8000
open Go.RowKit Go.WideShapes

/-- What is wrong with a disk, a sector. -/
noncomputable def errS (count : Int) (data : List Nat) (ws : Puts) (n : Int) : Int := if errC count data ws = 0 then (if 0 ≤ n ∧ n < count then 0 else 21) else 20
theorem errS_bad {count : Int} {data : List Nat} {ws : Puts} (n : Int) (h : ¬ Okay count data ws) : errS count data ws n = 20 := by simp [errS, errC_bad h]
theorem errS_range {count : Int} {data : List Nat} {ws : Puts} {n : Int} (h : Okay count data ws) (hn : ¬ (0 ≤ n ∧ n < count)) : errS count data ws n = 21 := by simp [errS, errC_ok h, hn]
theorem errS_ok {count : Int} {data : List Nat} {ws : Puts} {n : Int} (h : Okay count data ws) (hn : 0 ≤ n ∧ n < count) : errS count data ws n = 0 := by simp [errS, errC_ok h, hn]

set_option maxHeartbeats 1000000 in
theorem checkSector_any (v : Value) (n : Int) (count : Int) (data : List Nat) (ws : Puts) (w : World) (hd : DiskIn w v count data ws) :
    Calls Tryz.prog 147 #[v, .int .i64 n] w fun e w' => e = .returned (.int .i64 (errS count data ws n)) ∧ Below w.heap.size w w' := by
  obtain ⟨p, c, q, m, rfl, _⟩ := hd.parts
  have HD : Hid _ := hd
  clear hd
  by_cases ho : Okay count data ws
  · by_cases hn : 0 ≤ n ∧ n < count
    · have HE : Hid _ := errS_ok ho hn
      go_enter Tryz.func147, Tryz.ntmps147
      go_wp2_with fail
      refine (check_ok _ count data ws _ (HD.out.below (below_alloc w _)) ho).mono ?_
      rintro e w1 ⟨rfl, hb1⟩
      replace hb1 : Below (w.heap.size + 1) (w.alloc (.cells #[.int .i64 count, .slice p data.length c, .slice q ws.length m] 25)) w1 := by simpa using hb1
      obtain ⟨c0, c1, c2⟩ := box_cells hb1
      go_wp2_with (go_at_call 75; refine (has_any count n _ _ _).mono ?_; rintro e w2 ⟨rfl, ob, rfl⟩; rw [decide_eq_true hn])
      go_ret
      exact ⟨by rw [HE.out]; rfl, box_below (hb1.alloc (by have := box_size hb1; omega) _)⟩
    · have HE : Hid _ := errS_range ho hn
      go_enter Tryz.func147, Tryz.ntmps147
      go_wp2_with fail
      refine (check_ok _ count data ws _ (HD.out.below (below_alloc w _)) ho).mono ?_
      rintro e w1 ⟨rfl, hb1⟩
      replace hb1 : Below (w.heap.size + 1) (w.alloc (.cells #[.int .i64 count, .slice p data.length c, .slice q ws.length m] 25)) w1 := by simpa using hb1
      obtain ⟨c0, c1, c2⟩ := box_cells hb1
      go_wp2_with (go_at_call 75; refine (has_any count n _ _ _).mono ?_; rintro e w2 ⟨rfl, ob, rfl⟩; rw [decide_eq_false hn])
      go_ret
      exact ⟨by rw [HE.out]; rfl, box_below (hb1.alloc (by have := box_size hb1; omega) _)⟩
  · have HE : Hid _ := errS_bad n ho
    go_enter Tryz.func147, Tryz.ntmps147
    go_wp2_with fail
    refine (check_bad _ count data ws _ (HD.out.below (below_alloc w _)) ho).mono ?_
    rintro e w1 ⟨rfl, hb1⟩
    replace hb1 : Below (w.heap.size + 1) (w.alloc (.cells #[.int .i64 count, .slice p data.length c, .slice q ws.length m] 25)) w1 := by simpa using hb1
    go_wp2
    go_ret
    exact ⟨by rw [HE.out]; rfl, box_below hb1⟩
theorem sector_fails (v : Value) (n : Int) (count : Int) (data : List Nat) (ws : Puts) (w : World) (hd : DiskIn w v count data ws) (er : Int) (he : errS count data ws n = er) :
    Calls Tryz.prog 147 #[v, .int .i64 n] w fun e w' => e = .returned (.int .i64 er) ∧ Below w.heap.size w w' := by
  subst he; exact checkSector_any v n count data ws w hd

/-- A sector answered: in a row of its own. -/
def SecNew (w : World) (base : Nat) (v : Value) (xs : List Nat) : Prop := ∃ g, v = .slice (some ⟨g, 0, none⟩) 128 128 ∧ base ≤ g ∧ w.heap[g]? = some (.cells (Bs xs).toArray 5 (0, 0)) ∧ xs.length = 128 ∧ ∀ c ∈ xs, c < 256

set_option maxHeartbeats 1000000 in
theorem read_err (v : Value) (n : Int) (count : Int) (data : List Nat) (ws : Puts) (w : World) (hd : DiskIn w v count data ws) (er : Int) (hne : er ≠ 0) (he : errS count data ws n = er) :
    Calls Tryz.prog 124 #[v, .int .i64 n] w fun e w' => e = .returned (.tuple #[.slice none 0 0, .int .i64 er]) ∧ Below w.heap.size w w' := by
  obtain ⟨p, c, q, m, rfl, _⟩ := hd.parts
  have HD : Hid _ := hd
  have HE : Hid (errS count data ws n = er) := he
  have hnb : (er != 0) = true := by simpa using hne
  clear hd he hne
  go_enter Tryz.func124, Tryz.ntmps124
  go_wp2_with fail
  refine (sector_fails _ n count data ws _ (HD.out.below (below_alloc w _)) er HE.out).mono ?_
  rintro e w1 ⟨rfl, hb1⟩
  replace hb1 : Below (w.heap.size + 1) (w.alloc (.cells #[.int .i64 count, .slice p data.length c, .slice q ws.length m] 25)) w1 := by simpa using hb1
  go_wp2
  go_ret2
  exact ⟨rfl, box_below hb1⟩
theorem secN_mem {data : List Nat} {n : Nat} (h : ∀ c ∈ data, c < 256) : ∀ c ∈ secN data n, c < 256 := fun c hc => h c (List.mem_of_mem_drop (List.mem_of_mem_take hc))
/-- Where a sector lies among all bytes. -/
theorem bin_sec {w : World} {b o : Nat} {data : List Nat} (h : BIn w (some ⟨b, o, none⟩) data) (n : Nat) : BIn w (some ⟨b, o + n * 128, none⟩) (secN data n) := by
  refine ⟨fun _ => ⟨b, o + n * 128, rfl, fun i hi => ?_⟩, secN_mem h.2⟩
  have := sec_news h n i (.int .u8 ((secN data n).getD i 0 : Nat)) (by simp [Bs, List.getD, List.getElem?_eq_getElem hi])
  rw [add_plain] at this
  exact this

end Go.Proofs.YtiakfdhbbkpfhaaGreatDoor
namespace Go.Proofs.YtiakfdhbbkpfhaaGreatDoor
set_option maxRecDepth 8000
open Go.RowKit Go.WideShapes

theorem nowN_some {data : List Nat} {ws : Puts} {n : Int} {xs : List Nat} (h : nowK ws n ws.length = some xs) : nowN data ws n = xs := by simp [nowN, h]
theorem nowN_none {data : List Nat} {ws : Puts} {n : Nat} (h : nowK ws n ws.length = none) : nowN data ws n = secN data n := by simp [nowN, h]

set_option maxHeartbeats 1000000 in
theorem read_okD (v : Value) (n : Nat) (count : Int) (data : List Nat) (ws : Puts) (w : World) (hd : DiskIn w v count data ws) (ho : Okay count data ws) (hn : (n : Int) < count) :
    Calls Tryz.prog 124 #[v, .int .i64 n] w fun e w' => (∃ v', e = .returned (.tuple #[v', .int .i64 0]) ∧ SecNew w' w.heap.size v' (nowN data ws n)) ∧ Below w.heap.size w w' := by
  obtain ⟨p, c, q, m, rfl, hb, hc, _, _, hqp, _⟩ := hd.parts
  have hlen := ho.len
  have hhi := ho.hi
  have hfew := ho.few
  have hnl : (n + 1) * 128 ≤ data.length := by omega
  have HL : Hid ((secN data n).length = 128) := secN_len hnl
  obtain ⟨b, o, rfl⟩ := hb.addr (by omega)
  have HB : Hid (BIn w (some ⟨b, o, none⟩) data) := hb
  have HQ : Hid (PutsIn w q ws) := hqp
  have HO : Hid _ := ho
  have HD : Hid _ := hd
  have HE : Hid (errS count data ws n = 0) := errS_ok ho ⟨by omega, hn⟩
  clear hd ho hlen hb hqp
  go_enter Tryz.func124, Tryz.ntmps124
  go_wp2_with fail
  refine (sector_fails _ n count data ws _ (HD.out.below (below_alloc w _)) 0 HE.out).mono ?_
  rintro e w1 ⟨rfl, hb1⟩
  replace hb1 : Below (w.heap.size + 1) (w.alloc (.cells #[.int .i64 count, .slice (some ⟨b, o, none⟩) data.length c, .slice q ws.length m] 25)) w1 := by simpa using hb1
  obtain ⟨c0, c1, c2⟩ := box_cells hb1
  go_wp2
  go_loopw [18] (fun i wr => ∃ k : Nat, k ≤ ws.length ∧ i = .int .i64 k ∧ Hid (nowK ws n ws.length = nowK ws n (ws.length - k)) ∧ Below (w.heap.size + 1) (w.alloc (.cells #[.int .i64 count, .slice (some ⟨b, o, none⟩) data.length c, .slice q ws.length m] 25)) wr) (fun i _ => ws.length - (intOf i).toNat)
  case atStart => exact ⟨0, by omega, rfl, rfl, hb1⟩
  case round =>
    obtain ⟨k, hk, rfl, HN, hbk⟩ := hrel
    obtain ⟨r0, r1, r2⟩ := box_cells hbk
    have hz := box_size hbk
    by_cases hkl : k < ws.length
    · have hq := HQ.out.below (box_below hbk)
      obtain ⟨bq, oq, rfl⟩ := hq.addr (by omega)
      obtain ⟨j, hj⟩ : ∃ j, j = ws.length - 1 - k := ⟨_, rfl⟩
      have hjl : j < ws.length := by omega
      obtain ⟨e1, pk, ck, e2, hbi⟩ := hq.at2 hjl
      have hwt := HO.out.wait hjl
      have HK : Hid (nowK ws n (ws.length - k) = if (ws.getD j (0, [])).1 = n then some (ws.getD j (0, [])).2 else nowK ws n j) := by
        show _ = _
        rw [show ws.length - k = j + 1 from by omega]; rfl
      have hidx : (ws.length : Int) - 1 - (k : Int) = (j : Int) := by omega
      have HJ : Hid (ws.length - (k + 1) = j) := by show _ = _; omega
      rw [hwt.2.2] at e2
      generalize ws.getD j (0, []) = y at *
      obtain ⟨s, xs⟩ := y
      simp only at e1 e2 hbi hwt
      have HX : Hid (xs.length = 128) := hwt.2.2
      have HBI : Hid (BIn wr pk xs) := hbi
      clear hwt hbi hq hj
      by_cases hs : s = n
      · have HF : Hid (nowN data ws n = xs) := nowN_some (by rw [HN.out, HK.out]; simp [hs])
        have hsb : (s == (n : Int)) = true := by simpa using hs
        clear hs
        go_wp2_with fail
        refine (copyOf_any pk ck xs _ (HBI.out.alloc _) HX.out).mono ?_
        rintro e w3 ⟨g, rfl, hg1, hg2, hb3⟩
        have hb4 := (box_below (hbk.alloc (by omega) _)).trans (hb3.mono (by simp; omega))
        have hgz : w.heap.size ≤ g := by simp at hg1; omega
        have HG : Hid _ := hg2
        clear hg2 hg1 hb3
        go_wp2
        go_ret2
        refine ⟨⟨_, rfl, ?_⟩, hb4⟩
        rw [HF.out]
        exact ⟨g, rfl, hgz, HG.out, HX.out, HBI.out.2⟩
      · have HF : Hid (nowK ws n ws.length = nowK ws n (ws.length - (k + 1))) := by show _ = _; rw [HN.out, HK.out, HJ.out]; simp [hs]
        have hsb : (s == (n : Int)) = false := by simpa using hs
        clear hs
        go_wp2
        go_roundw
        case rel => exact ⟨k + 1, by omega, by go_num, HF, hbk.alloc (by omega) _⟩
        case measure => simp [intOf]; omega
    · obtain rfl : k = ws.length := by omega
      have HF : Hid (nowN data ws n = secN data n) := nowN_none (by rw [HN.out, Nat.sub_self]; rfl)
      clear HN
      go_wp2_with (go_at_call 60; refine (sector_any b o data.length c n _ (by omega) hnl hc).mono ?_; rintro e w2 ⟨rfl, rfl⟩)
      refine (copyOf_any _ _ (secN data n) _ (bin_sec (HB.out.below (box_below hbk)) n) HL.out).mono ?_
      rintro e w3 ⟨g, rfl, hg1, hg2, hb3⟩
      have hb4 := (box_below hbk).trans (hb3.mono (by omega))
      have HG : Hid _ := hg2
      clear hg2
      go_wp2
      go_ret2
      refine ⟨⟨_, rfl, ?_⟩, hb4⟩
      rw [HF.out]
      exact ⟨g, rfl, by omega, HG.out, HL.out, secN_mem HB.out.2⟩
end Go.Proofs.YtiakfdhbbkpfhaaGreatDoor
