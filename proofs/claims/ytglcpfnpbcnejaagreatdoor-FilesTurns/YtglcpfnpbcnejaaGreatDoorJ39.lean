/-
  The document's Turn.
-/
import Derived.Test.YtglcpfnpbcnejaaGreatDoorJ38
import Derived.Test.YtglcpfnpbcnejaaGreatDoorJ33
namespace Go.Proofs.YtglcpfnpbcnejaaGreatDoor
open Go.RowKit Go.WideShapes Rm

/-- What the document's Turn answers. -/
structure RTurnP (w : World) (V : Int × Acts) (e : Ending) (w' : World) : Prop where
  ex : ∃ v L, e = .returned (.tuple #[v, .int .i64 V.1]) ∧ AMix w' w.heap.size v L ∧ L.map Prod.fst = V.2 ∧ Below w.heap.size w w'
theorem rturn_err {w w' : World} {V : Int × Acts} {e : Ending} (m : Int) (hV : V = (m, [])) (he : e = .returned (.tuple #[.slice none 0 0, .int .i64 m])) (hb : Below w.heap.size w w') : RTurnP w V e w' := by
  subst hV
  exact ⟨⟨_, [], he, amix_nil _ _, rfl, hb⟩⟩
theorem putsC_snoc {l : List CV} {k : Nat} (h : k < l.length) : putsC (l.take (k + 1)) = putsC (l.take k) ++ (if (l.getD k zeroCV).gone = true then [] else [l.getD k zeroCV]) := by
  cases hg : (l.getD k zeroCV).gone with
  | true => rw [putsC_no h hg]; simp
  | false => rw [putsC_yes h hg]; simp
theorem putsC_drop {l : List CV} {k : Nat} (h : k < l.length) : putsC (l.drop k) = (if (l.getD k zeroCV).gone = true then [] else [l.getD k zeroCV]) ++ putsC (l.drop (k + 1)) := by
  rw [List.drop_eq_getElem_cons h, getD_eq h]
  unfold putsC
  rw [List.filter_cons]
  cases l[k].gone <;> simp
/-- The k-th sector's bytes of a file, the first t laid down. -/
def partJ (v : List Nat) (k t : Nat) : List Nat := (v.drop (k * 128)).take t ++ List.replicate (128 - t) 0
theorem partJ_step {v : List Nat} {k t : Nat} (h1 : t < 128) (h2 : k * 128 + t < v.length) : (partJ v k t).set t (v.getD (k * 128 + t) 0) = partJ v k (t + 1) := by
  have hl : ((v.drop (k * 128)).take t).length = t := by rw [List.length_take, List.length_drop]; omega
  unfold partJ
  rw [List.set_append_right _ _ (by omega), hl, Nat.sub_self, show 128 - t = (128 - (t + 1)) + 1 by omega, List.replicate_succ, List.set_cons_zero, List.take_succ_eq_append_getElem (by rw [List.length_drop]; omega), List.append_assoc]
  congr 1
  rw [List.getElem_drop, getD_eq h2]
  rfl
theorem partJ_end {v : List Nat} {k t : Nat} (h0 : t ≤ 128) (h1 : t = 0 ∨ k * 128 + t ≤ v.length) (h2 : ¬ (t < 128 ∧ k * 128 + t < v.length)) : partJ v k t = partN v k := by
  unfold partJ partN
  have e : (v.drop (k * 128)).take 128 = (v.drop (k * 128)).take t := by
    by_cases ht : t = 128
    · rw [ht]
    · rw [List.take_of_length_le (by rw [List.length_drop]; omega), List.take_of_length_le (by rw [List.length_drop]; omega)]
  have hl : ((v.drop (k * 128)).take t).length = t ∨ (t = 0 ∧ ((v.drop (k * 128)).take t).length = 0) := by
    rcases h1 with rfl | h1
    · exact .inr ⟨rfl, by simp⟩
    · exact .inl (by rw [List.length_take, List.length_drop]; omega)
  rw [e]
  rcases hl with hl | ⟨rfl, hl⟩ <;> rw [hl]
theorem partJ_len {v : List Nat} {k t : Nat} (h0 : t ≤ 128) (h1 : t = 0 ∨ k * 128 + t ≤ v.length) : (partJ v k t).length = 128 := by
  unfold partJ
  rw [List.length_append, List.length_take, List.length_drop, List.length_replicate]
  omega
theorem iown_at {w : World} {base n : Nat} {q : Option Addr} {m : Nat} {xs : List Int} (h : IOwn w base (.slice q n m) xs) {k : Nat} (hk : k < xs.length) : ∃ g, q = some ⟨g, 0, none⟩ ∧ w.cell? ⟨g, k, none⟩ = some (.int .i64 (xs.getD k 0)) := by
  rcases h.2 with ⟨_, h0⟩ | ⟨g, cap, cur, hv, _, hg, h1, _, _, ht⟩
  · omega
  · obtain ⟨rfl, _, _⟩ := Value.slice.inj hv
    refine ⟨g, rfl, ?_⟩
    have h5 := congrArg (fun l : List Value => l[k]?) ht
    simp only [Nat.mul_one] at h5
    rw [List.getElem?_take_of_lt hk] at h5
    rw [cell_of_row w g k cur _ _ hg, ← Array.getElem?_toList, h5]
    simp [Is, List.getD_eq_getElem?_getD, List.getElem?_eq_getElem hk]
theorem fileA_snoc {f : FileV} {v : List Nat} {j : Nat} (h : j < (secs f.pcs).length) : (fileA f v).take (j + 1) = (fileA f v).take j ++ [(false, (secs f.pcs).getD j 0, partN v j)] := by
  have hl : (fileA f v).length = (secs f.pcs).length := by unfold fileA; rw [List.length_map, List.length_range]
  rw [List.take_succ_eq_append_getElem (by omega)]
  congr 2
  unfold fileA
  rw [List.getElem_map, List.getElem_range]
/-- What the loop over the changes knows. -/
structure RSM (count : Int) (x : DirV) (l : List CV) (R0 : Except Int (List FileV)) (k : Nat) (ls : FPs) (Pd : List FileV) (L : List ActF) : Prop where
  fst : ls.map Prod.fst = insAll (x.files.filter fun f => !namedC l f.name) Pd
  cnt : Pd.length = (putsC (l.take k)).length
  good : Rm.Good count (allPcs x.files ++ allPcs Pd)
  rest : joinR Pd (placeN count (allPcs x.files ++ allPcs Pd) (csOf (putsC (l.drop k)))) = R0
  acts : L.map Prod.fst = filesA Pd (valsOf (putsC (l.take k)))
theorem RSM.skip {count : Int} {x : DirV} {l : List CV} {R0 : Except Int (List FileV)} {k : Nat} {ls : FPs} {Pd : List FileV} {L : List ActF} (h : RSM count x l R0 k ls Pd L) (hk : k < l.length) (hg : (l.getD k zeroCV).gone = true) : RSM count x l R0 (k + 1) ls Pd L := by
  have h1 := putsC_snoc hk
  have h2 := putsC_drop hk
  rw [if_pos hg, List.append_nil] at h1
  rw [if_pos hg, List.nil_append] at h2
  exact ⟨h.fst, by rw [h1]; exact h.cnt, h.good, by rw [← h2]; exact h.rest, by rw [h1]; exact h.acts⟩
theorem RSM.head {count : Int} {x : DirV} {l : List CV} {R0 : Except Int (List FileV)} {k : Nat} {ls : FPs} {Pd : List FileV} {L : List ActF} (h : RSM count x l R0 k ls Pd L) (hk : k < l.length) {ck cv : ByteArray} (hc : l.getD k zeroCV = ⟨ck, cv, false⟩) : joinR Pd (placeN count (allPcs x.files ++ allPcs Pd) ((ck, numsOf cv) :: csOf (putsC (l.drop (k + 1))))) = R0 := by
  have h2 := putsC_drop hk
  rw [hc] at h2
  have h3 := h.rest
  rw [h2] at h3
  exact h3
theorem RSM.put {count : Int} {x : DirV} {l : List CV} {R0 : Except Int (List FileV)} {k : Nat} {ls : FPs} {Pd : List FileV} {L L' : List ActF} (h : RSM count x l R0 k ls Pd L) (hz : 80 ≤ count ∧ count ≤ 4096) (hk : k < l.length) {ck cv : ByteArray} (hc : l.getD k zeroCV = ⟨ck, cv, false⟩) (h1 : ¬ 4096 < needsN ((cv.size : Nat) : Int)) (h2 : errT 80 count (allPcs x.files ++ allPcs Pd) (needsN ((cv.size : Nat) : Int)) = 0) {pv : Value} {P : Pcs} (hP : resT 80 count (allPcs x.files ++ allPcs Pd) (needsN ((cv.size : Nat) : Int)) = P)
    (hL : L'.map Prod.fst = L.map Prod.fst ++ fileA ⟨ck, ((cv.size : Nat) : Int), P⟩ (numsOf cv)) : RSM count x l R0 (k + 1) (inF (⟨ck, ((cv.size : Nat) : Int), P⟩, pv) ls) (Pd ++ [⟨ck, ((cv.size : Nat) : Int), P⟩]) L' ∧ (allPcs x.files ++ allPcs Pd) ++ P = allPcs x.files ++ allPcs (Pd ++ [⟨ck, ((cv.size : Nat) : Int), P⟩]) := by
  have hsn := putsC_snoc hk
  rw [hc] at hsn
  simp only [Bool.false_eq_true, if_false] at hsn
  have hl : (numsOf cv).length = cv.size := numsOf_len cv
  have hh := h.head hk hc
  rw [place_step (by rw [hl]; exact h1) (by rw [hl]; exact h2), hl, hP] at hh
  have hap : allPcs (Pd ++ [⟨ck, ((cv.size : Nat) : Int), P⟩]) = allPcs Pd ++ P := by rw [allPcs_app]; simp [allPcs]
  have hgood : Rm.Good count ((allPcs x.files ++ allPcs Pd) ++ P) := by
    have hpl : placeN count (allPcs x.files ++ allPcs Pd) [(ck, numsOf cv)] = .ok [⟨ck, ((cv.size : Nat) : Int), P⟩] := by
      rw [placeN, if_neg (by rw [hl]; exact h1), if_neg (by rw [hl]; simp [h2])]
      simp only [placeN]
      rw [hl, hP]
    have h3 := (place_facts hz h.good hpl).1
    have h4 : allPcs [(⟨ck, ((cv.size : Nat) : Int), P⟩ : FileV)] = P := by simp [allPcs]
    rw [h4] at h3
    exact h3
  refine ⟨⟨?_, ?_, ?_, ?_, ?_⟩, ?_⟩
  · rw [inF_fst, h.fst, insAll_snoc]
  · rw [hsn, List.length_append, List.length_append, h.cnt]
    rfl
  · rw [hap, ← List.append_assoc]; exact hgood
  · rw [hap, ← List.append_assoc]; exact hh
  · rw [hsn, hL, h.acts]
    have hv : valsOf (putsC (l.take k) ++ [⟨ck, cv, false⟩]) = valsOf (putsC (l.take k)) ++ [numsOf cv] := by unfold valsOf; rw [List.map_append]; rfl
    rw [hv, filesA_snoc (by rw [h.cnt]; unfold valsOf; rw [List.length_map])]
  · rw [hap, List.append_assoc]
set_option maxRecDepth 20000 in
set_option maxHeartbeats 12000000 in
theorem rTurn_any (v : Value) (count : Int) (data : List Nat) (ws : Puts) (lq : Option Addr) (ln lc : Nat) (l : List CV) (w : World) (hd : DiskIn w v count data ws) (r : Option (DirV × Int)) (n : Int) (hm : MountIs count data ws r n)
    (hl : ChgIn w lq ln lc l) (hvs : ∀ y ∈ l, (y.val.size : Int) ≤ 9223372036854775000) :
    Calls Tryz.prog 23 #[v, .slice lq ln lc] w fun e w' => RTurnP w (turnV count data ws r n l) e w' := by
  obtain ⟨p, c, q, m, rfl, _⟩ := hd.parts
  have HD : Hid (DiskIn w (.agg #[.int .i64 count, .slice p data.length c, .slice q ws.length m]) count data ws) := hd
  have HM : Hid (MountIs count data ws r n) := hm
  have HCH : Hid (ChgIn w lq ln lc l) := hl
  have HVS : Hid (∀ y ∈ l, (y.val.size : Int) ≤ 9223372036854775000) := hvs
  obtain ⟨dl, hdl⟩ : ∃ k, data.length = k := ⟨_, rfl⟩
  obtain ⟨wl, hwl⟩ : ∃ k, ws.length = k := ⟨_, rfl⟩
  rw [hdl, hwl] at HD ⊢
  obtain ⟨w0, hw0⟩ : ∃ w0, w.alloc (.cells #[.int .i64 count, .slice p dl c, .slice q wl m] 25) = w0 := ⟨_, rfl⟩
  have HB0 : Hid (Below w.heap.size w w0) := by show Below _ _ _; rw [← hw0]; exact below_alloc _ _
  have HX0 : Hid (w0.heap[w.heap.size]? = some (.cells #[.int .i64 count, .slice p dl c, .slice q wl m] 25 (0, 0))) := by show _ = _; rw [← hw0]; exact heap_alloc_new _ _
  have hmt := rMounted_any _ count data ws w0 (HD.out.below HB0.out) r n hm
  obtain ⟨V, hV⟩ : ∃ V, turnV count data ws r n l = V := ⟨_, rfl⟩
  have HV : Hid (turnV count data ws r n l = V) := hV
  rw [hV]
  obtain ⟨x0, x1, x2⟩ := three_cells HX0.out
  clear hd hm hl hvs hdl hwl hV
  go_enter Tryz.func23, Tryz.ntmps23
  go_upto_region 1 with fail
  (try rw [hw0])
  clear hw0
  go_wp2_with fail
  refine hmt.mono ?_
  rintro e w1 hp1
  clear hmt x0 x1 x2
  rcases r with _ | ⟨x, at_⟩
  · obtain ⟨rfl, hb1⟩ := hp1
    have hn0 : (n != 0) = true := by rcases mountIs_none HM.out with h | h <;> subst h <;> rfl
    have HVE : Hid (V = (n, [])) := HV.out.symm
    have HBE : Hid (Below w.heap.size w w1) := below_bt HB0.out hb1
    clear hb1 HV
    go_wp2
    go_ret2
    exact rturn_err n HVE.out rfl (below_bt HBE.out (below_alloc _ _))
  · obtain ⟨ls, lv, hls, rfl, hfo, hb1⟩ := hp1
    obtain ⟨hmay, hek, hn0, hc96, hok⟩ := mountIs_some HM.out
    subst hn0
    obtain ⟨fq, fm, rfl, _, _, _⟩ := hfo.form
    have HMY : Hid (May ltS x ∧ errK count (allPcs x.files) = 0 ∧ 96 ≤ count ∧ Okay count data ws) := ⟨hmay, hek, hc96, hok⟩
    have HLS : Hid (ls.map Prod.fst = x.files) := hls
    obtain ⟨LF, hLF⟩ : ∃ k, ls.length = k := ⟨_, rfl⟩
    have HLF : Hid (ls.length = LF ∧ LF ≤ 32) := ⟨hLF, by
      have h1 := hmay.many
      have h2 := congrArg List.length hls
      rw [List.length_map] at h2
      omega⟩
    have hLFI : (LF : Int) ≤ 32 := by have := HLF.out.2; omega
    rw [hLF] at hfo ⊢
    obtain ⟨gen, hgen⟩ : ∃ g, x.gen = g := ⟨_, rfl⟩
    have HGN : Hid (x.gen = gen) := hgen
    rw [hgen]
    obtain ⟨wO, hwO⟩ : ∃ wO, w1.alloc (.cells #[.int .i64 gen, .slice fq LF fm] 31) = wO := ⟨_, rfl⟩
    have HOB : Hid (wO.heap[w1.heap.size]? = some (.cells #[.int .i64 gen, .slice fq LF fm] 31 (0, 0))) := by show _ = _; rw [← hwO]; exact heap_alloc_new _ _
    have HB1 : Hid (Below w0.heap.size w0 wO) := by show Below _ _ _; rw [← hwO]; exact below_bt hb1 (below_alloc _ _)
    have HFM : Hid (FMix wO w0.heap.size w0.heap.size (.slice fq LF fm) ls) := by show FMix _ _ _ _ _; rw [← hwO]; exact hfo.mix.below (below_alloc _ _)
    have HFI : Hid (FIn wO (.slice fq LF fm) x.files) := by show FIn _ _ _; rw [← hwO]; exact (FOwn.below hfo (below_alloc _ _)).files hmay hls
    clear hb1 hfo hmay hek hc96 hok hls hLF hgen
    go_upto_region 4 with fail
    (try rw [hwO])
    clear hwO
    obtain ⟨E, hE⟩ : ∃ E, chgE x.files l = E := ⟨_, rfl⟩
    have hwr := rwrong_any gen _ x.files lq ln lc l wO HFI.out (HCH.out.lies.below (below_bt HB0.out HB1.out)) HCH.out.len HCH.out.cap HCH.out.fits HCH.out.keys E hE
    obtain ⟨o0, o1⟩ := two_cells HOB.out
    go_wp2_with fail
    refine hwr.mono ?_
    rintro e w2 ⟨rfl, hb2⟩
    clear hwr o0 o1
    by_cases hE0 : E = 0
    · subst hE0
      have HE : Hid (chgE x.files l = 0) := hE
      have HB2 : Hid (Below w0.heap.size w0 w2) := below_bt HB1.out hb2
      have HOB2 : Hid (w2.heap[w1.heap.size]? = some (.cells #[.int .i64 gen, .slice fq LF fm] 31 (0, 0))) := (hb2.block _ (lt_heap HOB.out)).trans HOB.out
      have HFM2 : Hid (FMix w2 w0.heap.size w0.heap.size (.slice fq LF fm) ls) := HFM.out.below hb2
      have hlI : (ln : Int) ≤ 64 := by have := chg_few hE; have := HCH.out.len; omega
      have HLN : Hid (ln ≤ 64) := by show _ ≤ _; omega
      clear hb2 hE HFM HFI HOB
      obtain ⟨o0, o1⟩ := two_cells HOB2.out
      go_wp2
      go_loopw [9, 10] (fun v i wr => ∃ k : Nat, k ≤ LF ∧ i = .int .i64 (k : Int) ∧ OnF w2 w0.heap.size v (stayP (ls.take k) l) wr) (fun _ i _ => LF - (intOf i).toNat)
      case atStart => exact ⟨0, by omega, rfl, fmix_nil _ _ _, Below.refl _ _⟩
      case round =>
        obtain ⟨k, hk, rfl, hz⟩ := hrel
        obtain ⟨vq, vm, rfl, _, _, _⟩ := hz.own.form
        obtain ⟨P, hP⟩ : ∃ P, stayP (ls.take k) l = P := ⟨_, rfl⟩
        have HPL : Hid (P.length ≤ 1000) := by have := stayP_len ls l k; rw [hP] at this; have := HLF.out; show _ ≤ _; omega
        have HP : Hid (stayP (ls.take k) l = P) := hP
        rw [hP] at hz ⊢
        have HZ : Hid (OnF w2 w0.heap.size (.slice vq P.length vm) P wr) := hz
        obtain ⟨lp, hlp⟩ : ∃ lp, P.length = lp := ⟨_, rfl⟩
        have HLP : Hid (P.length = lp) := hlp
        rw [hlp] at HZ ⊢
        have HOBr : Hid (wr.heap[w1.heap.size]? = some (.cells #[.int .i64 gen, .slice fq LF fm] 31 (0, 0))) := (hz.bel.block _ (lt_heap HOB2.out)).trans HOB2.out
        have HBr : Hid (Below w0.heap.size w0 wr) := below_bt HB2.out hz.bel
        clear hP hlp hz o0 o1
        obtain ⟨o0, o1⟩ := two_cells HOBr.out
        by_cases hkl : k < LF
        · have hkI : (k : Int) < (LF : Int) := by omega
          have k0 : (0 : Int) ≤ (k : Int) := by omega
          have hkl2 : k < ls.length := by have := HLF.out; omega
          have hen := HFM2.out.below HZ.out.bel
          obtain ⟨g, rfl, z0, z1, z2, hpo⟩ := hen.at hkl2
          have HKL : Hid (k < LF) := hkl
          have HY : Hid (namedC l (ls.getD k zeroFP).1.name = false → stayP (ls.take (k + 1)) l = P ++ [ls.getD k zeroFP]) := fun h => by rw [stayP_yes hkl2 h, HP.out]
          have HN : Hid (namedC l (ls.getD k zeroFP).1.name = true → stayP (ls.take (k + 1)) l = P) := fun h => by rw [stayP_no hkl2 h, HP.out]
          obtain ⟨⟨⟨nm, sz, pc⟩, pv⟩, hc⟩ : ∃ f, ls.getD k zeroFP = f := ⟨_, rfl⟩
          rw [hc] at z0 z1 z2 HY HN hpo
          simp only [Nat.zero_add] at z0 z1 z2 HY HN hpo
          obtain ⟨pq, pm, rfl, _, _, _⟩ := hpo.form
          have HPO : Hid (POwn wr w0.heap.size (.slice pq pc.length pm) pc) := hpo
          obtain ⟨lcc, hlc⟩ : ∃ lc, pc.length = lc := ⟨_, rfl⟩
          rw [hlc] at z2 HPO HY
          obtain ⟨rr, hr⟩ : ∃ r, namedC l nm = r := ⟨_, rfl⟩
          have HNM := rnamed_any lq ln lc l nm wr (HCH.out.lies.below (below_bt HB0.out HBr.out)) HCH.out.len HCH.out.fits rr hr
          rw [hr] at HY HN
          clear hen hkl hkl2 hk hc HP hpo hr hlc
          go_wp2_with fail
          refine HNM.mono ?_
          rintro e w3 ⟨rfl, rfl⟩
          clear HNM
          cases rr with
          | true =>
            have HN1 : Hid (stayP (ls.take (k + 1)) l = P) := HN.out rfl
            clear HY HN
            go_wp2
            go_roundw
            case rel => exact ⟨k + 1, HKL.out, by go_num, by rw [HN1.out]; exact HZ.out⟩
            case measure => have := HKL.out; simp [intOf]; omega
          | false =>
            have HY1 : Hid (stayP (ls.take (k + 1)) l = P ++ [(⟨nm, sz, pc⟩, .slice pq lcc pm)]) := HY.out rfl
            clear HY HN
            have H1 : Hid (OnF w2 w0.heap.size (.slice vq lp vm) P (w3.alloc (.cells #[.string nm, .int .i64 sz, .slice pq lcc pm] 51))) := HZ.out.next (below_alloc _ _)
            have HPO1 : Hid (POwn (w3.alloc (.cells #[.string nm, .int .i64 sz, .slice pq lcc pm] 51)) w0.heap.size (.slice pq lcc pm) pc) := HPO.out.below (below_alloc _ _)
            have HC := new3 w3 (.string nm) (.int .i64 sz) (.slice pq lcc pm) 51 w3.heap.size rfl
            have HC1 : Hid _ := HC
            clear HC
            go_wp2_with (at_builtin; go_loud ((refine wpList_append_mix _ rfl _ _ rfl w2.heap.size w0.heap.size (.slice vq lp vm) P (⟨nm, sz, pc⟩, .slice pq lcc pm) ⟨w3.heap.size, 0, none⟩ 1 rfl rfl H1.out.own rfl HPO1.out HC1.out.1 HC1.out.2.1 HC1.out.2.2 (by have := HPL.out; omega) H1.out.bel.size ?_); intro v5 w5 ho5 hg5; have H5 : Hid (OnF w2 w0.heap.size v5 (P ++ [(⟨nm, sz, pc⟩, .slice pq lcc pm)]) w5) := H1.out.app hg5 ho5; clear ho5 hg5))
            go_roundw
            case rel => exact ⟨k + 1, HKL.out, by go_num, by rw [HY1.out]; exact H5.out⟩
            case measure => have := HKL.out; simp [intOf]; omega
        · have hkI : (LF : Int) ≤ (k : Int) := by omega
          have HPS : Hid (P = stayP ls l) := by
            show P = _
            rw [← HP.out, List.take_of_length_le (by have := HLF.out; omega)]
          have hlpI : (lp : Int) ≤ 32 := by
            have h1 := stayP_len ls l LF
            have h2 : stayP (ls.take LF) l = P := by rw [HPS.out, List.take_of_length_le (by have := HLF.out; omega)]
            have := HLF.out
            have := HLP.out
            rw [h2] at h1
            omega
          have HZF : Hid (OnF w2 w0.heap.size (.slice vq lp vm) P wr) := HZ.out
          clear hkl hk HZ HP HPL
          rename World => wF
          go_wp2
          go_loop [11, 12] (fun a i => ∃ k : Nat, k ≤ ln ∧ i = .int .i64 (k : Int) ∧ a = .int .i64 ((lp + (putsC (l.take k)).length : Nat) : Int)) (fun _ i => ln - (intOf i).toNat)
          case atStart => exact ⟨0, by omega, rfl, by simp [putsC]⟩
          case round =>
            obtain ⟨k2, hk2, rfl, rfl⟩ := hrel
            obtain ⟨mm, hmm⟩ : ∃ mm : Nat, lp + (putsC (l.take k2)).length = mm := ⟨_, rfl⟩
            have HMM : Hid (lp + (putsC (l.take k2)).length = mm) := hmm
            have hmmI : (mm : Int) ≤ 96 := by
              have := putsC_len l k2
              have := HCH.out.len
              have := HLN.out
              omega
            rw [hmm]
            clear hmm
            by_cases hkl2 : k2 < ln
            · have hkI2 : (k2 : Int) < (ln : Int) := by omega
              have k02 : (0 : Int) ≤ (k2 : Int) := by omega
              have hkl3 : k2 < l.length := by have := HCH.out.len; omega
              have hen := HCH.out.lies.below (below_bt HB0.out HBr.out)
              obtain ⟨fb, fo, rfl⟩ := hen.addr (by omega)
              obtain ⟨z0, z1, z2⟩ := hen.at hkl3
              have HK2 : Hid (k2 < ln) := hkl2
              have HSN : Hid _ := putsC_snoc hkl3
              generalize (l.getD k2 zeroCV).gone = cg at *
              clear hen z0 z1 hkl3 hkl2 hk2
              cases cg with
              | true =>
                have HS : Hid (lp + (putsC (l.take (k2 + 1))).length = mm) := by show _ = _; rw [HSN.out]; simpa using HMM.out
                go_wp2
                go_round
                case rel => exact ⟨k2 + 1, HK2.out, by go_num, by rw [HS.out]⟩
                case measure => have := HK2.out; simp [intOf]; omega
              | false =>
                have HS : Hid (lp + (putsC (l.take (k2 + 1))).length = mm + 1) := by show _ = _; rw [HSN.out]; have := HMM.out; simp; omega
                go_wp2
                go_round
                case rel => exact ⟨k2 + 1, HK2.out, by go_num, by rw [HS.out]; rfl⟩
                case measure => have := HK2.out; simp [intOf]; omega
            · have hkI2 : (ln : Int) ≤ (k2 : Int) := by omega
              have HMV : Hid (mm = (x.files.filter fun f => !namedC l f.name).length + (putsC l).length) := by
                show mm = _
                have h1 : l.take k2 = l := List.take_of_length_le (by have := HCH.out.len; omega)
                have h2 : (stayP ls l).map Prod.fst = x.files.filter fun f => !namedC l f.name := by
                  rw [← HLS.out]
                  unfold stayP
                  rw [List.filter_map]
                  rfl
                rw [← HMM.out, h1, ← HLP.out, HPS.out, ← h2, List.length_map]
              clear hkl2 hk2
              by_cases h32 : 32 < mm
              · have h32I : (32 : Int) < (mm : Int) := by omega
                have HVE : Hid (V = (42, [])) := by
                  show V = _
                  rw [← HV.out]
                  simp only [turnV, HE.out]
                  rw [if_neg (by simp), if_pos (by have := HMV.out; omega)]
                clear h32
                go_wp2
                go_ret2
                exact rturn_err 42 HVE.out rfl (below_bt HB0.out HBr.out)
              · have h32I : (mm : Int) ≤ 32 := by omega
                clear h32
                have HFW : Hid (mm ≤ 32) := by show _ ≤ _; omega
                have HCN : Hid (80 ≤ count ∧ count ≤ 4096) := ⟨by have := HMY.out.2.2.1; omega, HMY.out.2.2.2.hi⟩
                obtain ⟨R0, hR0⟩ : ∃ R, placeN count (allPcs x.files) (csOf (putsC l)) = R := ⟨_, rfl⟩
                have HVR : Hid (∀ E, R0 = .error E → V = (E, [])) := fun E h => by
                  rw [← HV.out]
                  simp only [turnV, HE.out]
                  rw [if_neg (by simp), if_neg (by have := HMV.out; have := HFW.out; omega), hR0, h]
                have HR0 : Hid (placeN count (allPcs x.files) (csOf (putsC l)) = R0) := hR0
                have hfF : FOwn wF w0.heap.size (.slice fq LF fm) ls := (HFM2.out.below HZF.out.bel).own (Nat.le_refl _)
                have hgI : wf64 x.gen := by have h1 := HMY.out.1.lo; have h2 := HMY.out.1.hi; unfold wf64; omega
                have hpc := rpieces_any (.agg #[.int .i64 gen, .slice fq LF fm]) x wF ⟨⟨_, by rw [HGN.out], hfF.files HMY.out.1 HLS.out⟩, hgI⟩ (by have := (errK_zero HMY.out.2.1).2.1; omega)
                clear hfF hgI hR0
                go_wp2_with fail
                refine hpc.mono ?_
                rintro e wU ⟨uv, rfl, hpo, hbU⟩
                obtain ⟨uq, um, rfl, _, _, _⟩ := hpo.form
                have HRS : Hid (RS w0 w1.heap.size #[.int .i64 gen, .slice fq LF fm] (.slice vq lp vm) P (.slice uq (allPcs x.files).length um) (allPcs x.files ++ allPcs []) (.slice none 0 0) [] wU) := by
                  have h1 : FMix wF w0.heap.size w0.heap.size (.slice vq lp vm) P := HZF.out.own.mono0 HB2.out.size (Nat.le_refl _)
                  refine ⟨h1.below hbU, ?_, fun y hy => ?_, amix_nil _ _, below_bt HBr.out hbU, (hbU.block _ (lt_heap HOBr.out)).trans HOBr.out⟩
                  · have h2 : allPcs x.files ++ allPcs [] = allPcs x.files := by simp [allPcs]
                    rw [h2]
                    exact hpo.mono HBr.out.size
                  · cases hk : y.2.ownBlock with
                    | none => exact .inl rfl
                    | some k =>
                      refine .inr fun e2 => ?_
                      have h3 := ((h1.pcs y hy).lt k hk).2
                      have h4 := (World.ownsRow.lt hpo k e2.symm).1
                      omega
                have HRM : Hid (RSM count x l R0 0 P [] []) := by
                  refine ⟨?_, rfl, ?_, ?_, rfl⟩
                  · rw [HPS.out, ← HLS.out]
                    unfold stayP insAll
                    rw [List.filter_map]
                    rfl
                  · have h2 : allPcs x.files ++ allPcs [] = allPcs x.files := by simp [allPcs]
                    rw [h2]
                    exact (errK_zero HMY.out.2.1).2.2
                  · have h2 : allPcs x.files ++ allPcs [] = allPcs x.files := by simp [allPcs]
                    rw [h2, List.drop_zero, HR0.out]
                    cases R0 <;> rfl
                obtain ⟨ul, hul⟩ : ∃ k, (allPcs x.files).length = k := ⟨_, rfl⟩
                rw [hul] at HRS ⊢
                clear hpc hpo hbU hul o0 o1
                go_wp2
                go_loopw [9, 13, 14, 15] (fun f u a i wr => ∃ (k : Nat) (ls3 : FPs) (Pd : List FileV) (L : List ActF), k ≤ ln ∧ i = .int .i64 (k : Int) ∧ RSM count x l R0 k ls3 Pd L ∧ RS w0 w1.heap.size #[.int .i64 gen, .slice fq LF fm] f ls3 u (allPcs x.files ++ allPcs Pd) a L wr) (fun _ _ _ i _ => ln - (intOf i).toNat)
                case atStart => exact ⟨0, P, [], [], by omega, rfl, HRM.out, HRS.out⟩
                case round =>
                  clear HRS HRM
                  obtain ⟨k, ls3, Pd, L, hk, rfl, hrm, hrs⟩ := hrel
                  obtain ⟨fq3, fm3, rfl, _, _, _⟩ := hrs.files.form
                  obtain ⟨uq3, um3, rfl, _, _, _⟩ := hrs.used.form
                  obtain ⟨aq3, am3, rfl, _, _, _⟩ := hrs.acts.form
                  have HRM : Hid (RSM count x l R0 k ls3 Pd L) := hrm
                  have HRS : Hid (RS w0 w1.heap.size #[.int .i64 gen, .slice fq LF fm] (.slice fq3 ls3.length fm3) ls3 (.slice uq3 (allPcs x.files ++ allPcs Pd).length um3) (allPcs x.files ++ allPcs Pd) (.slice aq3 L.length am3) L wr) := hrs
                  obtain ⟨n1, hn1⟩ : ∃ k, ls3.length = k := ⟨_, rfl⟩
                  obtain ⟨U, hU⟩ : ∃ U, allPcs x.files ++ allPcs Pd = U := ⟨_, rfl⟩
                  have HU : Hid (allPcs x.files ++ allPcs Pd = U) := hU
                  rw [hU] at HRS ⊢
                  obtain ⟨n2, hn2⟩ : ∃ k, U.length = k := ⟨_, rfl⟩
                  obtain ⟨n3, hn3⟩ : ∃ k, L.length = k := ⟨_, rfl⟩
                  have HNN : Hid (ls3.length = n1 ∧ U.length = n2 ∧ L.length = n3 ∧ n1 ≤ 1000 ∧ n2 ≤ 4096 ∧ n3 ≤ 4096 ∧ Wf U) := by
                    have h1 : Pd.length ≤ ln := by rw [hrm.cnt]; have := putsC_len l k; have := HCH.out.len; omega
                    have h2 : ls3.length = (x.files.filter fun f => !namedC l f.name).length + Pd.length := by
                      have h := congrArg List.length hrm.fst
                      rw [List.length_map, (insAll_perm Pd _).length_eq, List.length_append] at h
                      exact h
                    have h3 : (x.files.filter fun f => !namedC l f.name).length ≤ 32 := Nat.le_trans (List.length_filter_le _ _) HMY.out.1.many
                    have hg := hrm.good
                    have h4 : U.length ≤ 4096 := by rw [← hU]; exact good_len (count := 4096) (Rm.good_more hg HCN.out.2)
                    have h5 : L.length ≤ 4096 := by
                      have h := congrArg List.length hrm.acts
                      rw [List.length_map] at h
                      have h6 := filesA_le Pd (valsOf (putsC (l.take k)))
                      have h7 := secs_few HCN.out hg.right
                      omega
                    have := HLN.out
                    exact ⟨hn1, hn2, hn3, by omega, by omega, by omega, by rw [← hU]; exact Rm.Good.wf hg HCN.out.2⟩
                  rw [hn1, hn2, hn3] at HRS
                  rw [hn1, hn2, hn3]
                  clear hrm hrs hn1 hn2 hn3 hU
                  have HBw : Hid (Below w.heap.size w wr) := below_bt HB0.out HRS.out.bel
                  by_cases hkl : k < ln
                  · have hkI : (k : Int) < (ln : Int) := by omega
                    have k0 : (0 : Int) ≤ (k : Int) := by omega
                    have hkl3 : k < l.length := by have := HCH.out.len; omega
                    have HK : Hid (k < ln ∧ k < l.length) := ⟨hkl, hkl3⟩
                    have hen := HCH.out.lies.below HBw.out
                    obtain ⟨fb, fo, rfl⟩ := hen.addr (by omega)
                    obtain ⟨⟨ck, cv, cg⟩, hc⟩ : ∃ f, l.getD k zeroCV = f := ⟨_, rfl⟩
                    have HC : Hid (l.getD k zeroCV = ⟨ck, cv, cg⟩) := hc
                    have HZ : Hid (∀ w', Below w.heap.size w w' → w'.cell? ⟨fb, fo + k * 3, none⟩ = some (.string ck) ∧ w'.cell? ⟨fb, fo + k * 3 + 1, none⟩ = some (.string cv) ∧ w'.cell? ⟨fb, fo + k * 3 + 2, none⟩ = some (.bool cg)) := fun w' hb => by
                      obtain ⟨z0, z1, z2⟩ := (HCH.out.lies.below hb).at hkl3
                      rw [hc] at z0 z1 z2
                      exact ⟨z0, z1, z2⟩
                    obtain ⟨z0, z1, z2⟩ := HZ.out wr HBw.out
                    have hsz : (cv.size : Int) ≤ 9223372036854775000 := by
                      have h := HVS.out (l.getD k zeroCV) (by rw [getD_eq hkl3]; exact List.getElem_mem hkl3)
                      rw [hc] at h
                      exact h
                    clear hen hkl hkl3 hk hc
                    cases cg with
                    | true =>
                      have HRM1 : Hid (RSM count x l R0 (k + 1) ls3 Pd L) := HRM.out.skip HK.out.2 (by rw [HC.out])
                      go_wp2
                      go_roundw
                      case rel => exact ⟨k + 1, ls3, Pd, L, HK.out.1, by go_num, HRM1.out, by rw [HU.out]; exact HRS.out⟩
                      case measure => have := HK.out.1; simp [intOf]; omega
                    | false =>
                      obtain ⟨sz, hszz⟩ : ∃ s, cv.size = s := ⟨_, rfl⟩
                      have HSZ : Hid (cv.size = sz) := hszz
                      rw [hszz] at hsz
                      have hnd := rneeds_any (sz : Int) wr ⟨by omega, hsz⟩
                      obtain ⟨N, hN⟩ : ∃ N, needsN (sz : Int) = N := ⟨_, rfl⟩
                      have HN : Hid (needsN (sz : Int) = N) := hN
                      rw [hN] at hnd
                      have hNb : 0 ≤ N ∧ N ≤ 9223372036854775000 := by unfold needsN at hN; omega
                      clear hN hszz
                      go_wp2_with fail
                      (try rw [HSZ.out])
                      refine hnd.mono ?_
                      rintro e w3 ⟨rfl, rfl⟩
                      clear hnd
                      by_cases hbig : 4096 < N
                      · have HVE : Hid (V = (30, [])) := HVR.out 30 (by
                          rw [← HRM.out.head HK.out.2 HC.out, HU.out, placeN, if_pos (by rw [numsOf_len, HSZ.out, HN.out]; exact hbig)]
                          rfl)
                        clear z0 z1 z2
                        go_wp2
                        go_ret2
                        exact rturn_err 30 HVE.out rfl HBw.out
                      · have hbig' : N ≤ 4096 := by omega
                        have htk := Rm.rtake_any 80 count _ U N w3 (HRS.out.used.pin HNN.out.2.2.2.2.2.2)
                        obtain ⟨E, hE⟩ : ∃ E, errT 80 count U N = E := ⟨_, rfl⟩
                        obtain ⟨Q, hQ⟩ : ∃ Q, resT 80 count U N = Q := ⟨_, rfl⟩
                        have HEQ : Hid (errT 80 count U N = E ∧ resT 80 count U N = Q ∧ Wf Q) := ⟨hE, hQ, by rw [← hQ]; exact wf_resT _ _ _ _⟩
                        rw [hE, hQ] at htk
                        obtain ⟨d0, d1, d2⟩ := three_cells ((HRS.out.bel.block _ (lt_heap HX0.out)).trans HX0.out)
                        clear hbig hE hQ z0 z1 z2
                        go_wp2_with fail
                        refine htk.mono ?_
                        rintro e w4 ⟨pq, pm, rfl, hpo, hb4⟩
                        have HRS4 : Hid (RS w0 w1.heap.size #[.int .i64 gen, .slice fq LF fm] (.slice fq3 n1 fm3) ls3 (.slice uq3 n2 um3) U (.slice aq3 n3 am3) L w4) := HRS.out.next hb4
                        have HPO : Hid (POwn w4 w3.heap.size (.slice pq Q.length pm) Q) := hpo
                        have HUO : Hid (POwn w3 w0.heap.size (.slice uq3 n2 um3) U) := HRS.out.used
                        have HBw4 : Hid (Below w.heap.size w w4) := below_bt HBw.out hb4
                        obtain ⟨ql, hql⟩ : ∃ k, Q.length = k := ⟨_, rfl⟩
                        have HQL : Hid (Q.length = ql) := hql
                        rw [hql] at HPO ⊢
                        clear htk hpo hb4 d0 d1 d2 hql
                        by_cases hE0 : E = 0
                        · subst hE0
                          have HQS : Hid (Q.length ≤ 4096 ∧ Rm.Good count Q ∧ errK 4096 Q = 0) := by
                            have h1 := (HRM.out.put (pv := .slice none 0 0) (L' := L.map id ++ (fileA ⟨ck, ((cv.size : Nat) : Int), Q⟩ (numsOf cv)).map (fun a => (a, Value.slice none 0 0))) HCN.out HK.out.2 HC.out (by rw [HSZ.out, HN.out]; omega) (by rw [HU.out, HSZ.out, HN.out]; exact HEQ.out.1) (P := Q) (by rw [HU.out, HSZ.out, HN.out]; exact HEQ.out.2.1) (by simp [List.map_append, List.map_map, Function.comp_def]))
                            have hg : Rm.Good count Q := by
                              have h2 := h1.1.good
                              rw [← h1.2] at h2
                              exact h2.right
                            have hg4 := Rm.good_more hg HCN.out.2
                            have hl4 : Q.length ≤ 4096 := good_len (count := 4096) hg4
                            exact ⟨hl4, hg, errK_ok (by omega) hl4 hg4⟩
                          have HBs : Hid (w0.heap.size ≤ w4.heap.size) := HRS4.out.bel.size
                          go_wp2_with (at_builtin; go_loud ((refine wpList_append_pcsX _ rfl _ _ rfl w0.heap.size (.slice uq3 n2 um3) U Q pq ql pm rfl rfl HQL.out.symm HRS4.out.used HPO.out.pcs (by obtain ⟨_, _, e, _, _, h⟩ := HPO.out.form; cases e; exact h) (by have := HQS.out.1; have := HNN.out; omega) HBs.out ?_); intro v5 w5 ho5 hg5 hw5; have HPA := pv_apart HUO.out HPO.out hw5; have H5 : Hid (RS w0 w1.heap.size #[.int .i64 gen, .slice fq LF fm] (.slice fq3 n1 fm3) ls3 v5 (U ++ Q) (.slice aq3 n3 am3) L w5) := HRS4.out.use ho5 hg5 hw5; have HP5 : Hid (POwn w5 w0.heap.size (.slice pq ql pm) Q ∧ ((Value.slice pq ql pm).ownBlock = none ∨ (Value.slice pq ql pm).ownBlock ≠ v5.ownBlock)) := ⟨(HPO.out.mono HRS.out.bel.size).kept hg5 HPA.1, HPA.2⟩; obtain ⟨uq5, um5, rfl, _, _, _⟩ := ho5.form; obtain ⟨n5, hn5⟩ : ∃ k, (U ++ Q).length = k := ⟨_, rfl⟩; rw [hn5] at H5 HP5 ⊢; obtain ⟨z0, z1, z2⟩ := HZ.out w5 (below_bt HB0.out H5.out.bel); clear HPA ho5 hg5 hw5 hn5))
                          (try rw [HSZ.out])
                          have hin := rin_any (.slice fq3 n1 fm3) ls3 w0.heap.size w0.heap.size ck (sz : Int) Q (.slice pq ql pm) w5 H5.out.files (by have := HNN.out; omega) HP5.out.1
                          refine hin.mono ?_
                          rintro e w6 ⟨v6, rfl, ho6⟩
                          have HRS6 : Hid (RS w0 w1.heap.size #[.int .i64 gen, .slice fq LF fm] v6 (inF (⟨ck, (sz : Int), Q⟩, .slice pq ql pm) ls3) (.slice uq5 n5 um5) (U ++ Q) (.slice aq3 n3 am3) L w6) := H5.out.put ho6 HP5.out.2
                          have HP6 : Hid (POwn w6 w0.heap.size (.slice pq ql pm) Q) := HP5.out.1.below ho6.bel
                          clear hin ho6 z0 z1 z2
                          obtain ⟨fq6, fm6, rfl, _, _, _⟩ := HRS6.out.files.form
                          obtain ⟨n6, hn6⟩ : ∃ k, (inF (⟨ck, (sz : Int), Q⟩, .slice pq ql pm) ls3).length = k := ⟨_, rfl⟩
                          rw [hn6] at HRS6 ⊢
                          clear hn6
                          have hsc := Rm.rsectors_any (.slice pq ql pm) Q w6 (HP6.out.pin HEQ.out.2.2)
                          have hsec : secsN Q = secs Q := by unfold secsN; rw [if_pos HQS.out.2.2]
                          rw [hsec] at hsc
                          obtain ⟨sl, hsl⟩ : ∃ k, (secs Q).length = k := ⟨_, rfl⟩
                          have HSL : Hid ((secs Q).length = sl ∧ sl ≤ 4096) := ⟨hsl, by rw [← hsl]; exact secs_few HCN.out HQS.out.2.1⟩
                          rw [hsl] at hsc
                          clear hsec hsl
                          go_wp2_with fail
                          refine hsc.mono ?_
                          rintro e w7 ⟨sq, scc, rfl, hio, hb7⟩
                          have HRS7 : Hid (RS w0 w1.heap.size #[.int .i64 gen, .slice fq LF fm] (.slice fq6 n6 fm6) (inF (⟨ck, (sz : Int), Q⟩, .slice pq ql pm) ls3) (.slice uq5 n5 um5) (U ++ Q) (.slice aq3 n3 am3) L w7) := HRS6.out.next hb7
                          have HIO : Hid (IOwn w7 w6.heap.size (.slice sq sl scc) (secs Q)) := hio
                          have hslI : (sl : Int) ≤ 4096 := by have := HSL.out.2; omega
                          obtain ⟨i0, hi, hz0, hz1, hz2⟩ := info_parts info_u8
                          have HI0 : Hid (Tryz.prog.info? 5 = some i0 ∧ i0.zero = some (.int .u8 0) ∧ i0.size = 1 ∧ i0.bytes = 1) := ⟨hi, hz0, hz1, hz2⟩
                          clear hsc hio hb7 hi hz0 hz1 hz2
                          go_wp2
                          go_loopw [14, 22] (fun a i wr => ∃ (j : Nat) (L2 : List ActF), j ≤ sl ∧ i = .int .i64 (j : Int) ∧ L2.map Prod.fst = L.map Prod.fst ++ (fileA ⟨ck, (sz : Int), Q⟩ (numsOf cv)).take j ∧ OnX w7 w0.heap.size a L2 wr) (fun _ i _ => sl - (intOf i).toNat)
                          case atStart => exact ⟨0, L, by omega, rfl, by simp, HRS7.out.acts, KeepT.refl _ _, Below.refl _ _, HRS7.out.bel.size⟩
                          case round =>
                            rename World => wb
                            obtain ⟨j, L2, hj, rfl, hL2, hox⟩ := hrel
                            obtain ⟨aq4, am4, rfl, _, _, _⟩ := hox.own.form
                            have HOX : Hid (OnX w7 w0.heap.size (.slice aq4 L2.length am4) L2 wb) := hox
                            have HL2 : Hid (L2.map Prod.fst = L.map Prod.fst ++ (fileA ⟨ck, (sz : Int), Q⟩ (numsOf cv)).take j) := hL2
                            obtain ⟨n4, hn4⟩ : ∃ k, L2.length = k := ⟨_, rfl⟩
                            have HN4 : Hid (L2.length = n4 ∧ n4 ≤ 10000) := ⟨hn4, by
                              have h := congrArg List.length hL2
                              rw [List.length_map, List.length_append, List.length_map, List.length_take] at h
                              have := HNN.out
                              have := HSL.out
                              omega⟩
                            rw [hn4] at HOX ⊢
                            clear hox hL2 hn4
                            by_cases hjl : j < sl
                            · have hjI : (j : Int) < (sl : Int) := by omega
                              have j0 : (0 : Int) ≤ (j : Int) := by omega
                              have HJ : Hid (j < sl) := hjl
                              have HIOb : Hid (IOwn wb w6.heap.size (.slice sq sl scc) (secs Q)) := own_keepT HIO.out (by decide) HOX.out.keep
                              obtain ⟨sg, rfl, _⟩ := iown_at HIOb.out (k := j) (by have := HSL.out.1; omega)
                              have HSC : Hid (∀ w', Below wb.heap.size wb w' → w'.cell? ⟨sg, j, none⟩ = some (.int .i64 ((secs Q).getD j 0))) := fun w' hb => by
                                obtain ⟨g2, e2, h2⟩ := iown_at HIOb.out (k := j) (by have := HSL.out.1; omega)
                                have e3 : g2 = sg := by simp only [Option.some.injEq, Addr.mk.injEq] at e2; exact e2.1.symm
                                rw [e3] at h2
                                exact cellB h2 hb
                              have HFS : Hid _ := fileA_snoc (f := ⟨ck, (sz : Int), Q⟩) (v := numsOf cv) (j := j) (by have := HSL.out.1; show j < (secs Q).length; omega)
                              obtain ⟨sj, hsj⟩ : ∃ s, (secs Q).getD j 0 = s := ⟨_, rfl⟩
                              simp only at HFS
                              rw [hsj] at HSC HFS
                              clear hsj hjl hj
                              go_wp2_with (at_make; go_loud (refine wpList_make_full _ rfl _ _ 22 rfl wb.heap.size 5 i0 (.int .u8 0) 1 Tryz.underlying22 HI0.out.1 HI0.out.2.1 HI0.out.2.2.1 .i64 .i64 _ _ 128 rfl rfl rfl rfl (by rw [HI0.out.2.2.2]; decide) (by unfold maxLen; decide) (Nat.le_refl _) ?_))
                              intro w8 hown hgrow
                              have hrow := row_full hown
                              have hb8 : Below wb.heap.size wb w8 := (Below.refl _ _).grown hgrow (Nat.le_refl _) (fun k hk => by cases hk)
                              have HR : Hid (w8.heap[wb.heap.size]? = some (.cells (Bs (partJ (numsOf cv) j 0)).toArray 5 (0, 0))) := by
                                show _ = _
                                rw [show partJ (numsOf cv) j 0 = List.replicate 128 0 from by simp [partJ]]
                                rw [zeros_made] at hrow
                                exact hrow
                              have HB8 : Hid (Below wb.heap.size wb w8) := hb8
                              clear hown hgrow hrow hb8
                              go_wp2
                              go_loopw [24] (fun i wr => ∃ t : Nat, t ≤ 128 ∧ (t = 0 ∨ j * 128 + t ≤ sz) ∧ i = .int .i64 (t : Int) ∧ Hid (wr.heap[wb.heap.size]? = some (.cells (Bs (partJ (numsOf cv) j t)).toArray 5 (0, 0))) ∧ Below wb.heap.size wb wr) (fun i _ => 128 - (intOf i).toNat)
                              case atStart => exact ⟨0, by omega, .inl rfl, rfl, HR, HB8.out⟩
                              case round =>
                                clear HR HB8
                                obtain ⟨t, ht, ht2, rfl, HK5, hb5⟩ := hrel
                                have HB5 : Hid (Below wb.heap.size wb wr) := hb5
                                have HT2 : Hid (t ≤ 128 ∧ (t = 0 ∨ j * 128 + t ≤ sz)) := ⟨ht, ht2⟩
                                have hjm : (j : Int) ≤ 4096 := by omega
                                have htI : (t : Int) ≤ 128 := by omega
                                have t0 : (0 : Int) ≤ (t : Int) := by omega
                                have hnl : (numsOf cv).length = sz := by rw [numsOf_len, HSZ.out]
                                clear hb5 ht ht2
                                by_cases hc : t < 128 ∧ j * 128 + t < sz
                                · have hc1 : (t : Int) < 128 := by omega
                                  have hc2 : (j : Int) * 128 + (t : Int) < (sz : Int) := by omega
                                  have HC5 : Hid (t < 128 ∧ j * 128 + t < sz) := hc
                                  have hx : ∀ w', (Instr.index 9 (.string cv) (.int .i64 ((j : Int) * 128 + (t : Int)))).run Tryz.prog w' = .ok (.int .u8 (((numsOf cv).getD (j * 128 + t) 0 : Nat) : Int)) w' := fun w' => by
                                    have h := str_at cv (j * 128 + t) (by rw [HSZ.out]; exact hc.2) w'
                                    rw [show ((j * 128 + t : Nat) : Int) = (j : Int) * 128 + (t : Int) by omega] at h
                                    exact h
                                  have hcell := cell_of_row wr wb.heap.size t _ _ _ HK5.out
                                  rw [show (Bs (partJ (numsOf cv) j t)).toArray[t]? = some (.int .u8 ((partJ (numsOf cv) j t).getD t 0 : Nat)) from by
                                    have hl := partJ_len (v := numsOf cv) (k := j) HT2.out.1 (by rw [hnl]; exact HT2.out.2)
                                    simp [Bs, List.getD, List.getElem?_eq_getElem (show t < (partJ (numsOf cv) j t).length by omega)]] at hcell
                                  have hfr := frozen_of_row wr wb.heap.size t _ _ HK5.out
                                  obtain ⟨xx, hxx⟩ : ∃ z : Nat, (numsOf cv).getD (j * 128 + t) 0 = z := ⟨_, rfl⟩
                                  have HS : Hid ((wr.setCell ⟨wb.heap.size, t, none⟩ (.int .u8 (xx : Int))).heap[wb.heap.size]? = some (.cells (Bs (partJ (numsOf cv) j (t + 1))).toArray 5 (0, 0))) := by
                                    show _ = _
                                    rw [heap_setCell_same wr _ t _ _ _ HK5.out, Bs_set, ← hxx, partJ_step hc.1 (by rw [hnl]; exact hc.2)]
                                  rw [hxx] at hx
                                  have hszc : (cv.size : Int) = (sz : Int) := by rw [HSZ.out]
                                  generalize (partJ (numsOf cv) j t).getD t 0 = old at *
                                  clear hxx hc hnl
                                  go_wp2
                                  go_roundw
                                  case rel => exact ⟨t + 1, by have := HC5.out; omega, .inr (by have := HC5.out; omega), by go_num, HS, HB5.out.setCell (Nat.le_refl _) _⟩
                                  case measure => have := HC5.out; simp [intOf]; omega
                                · have HPE : Hid (partJ (numsOf cv) j t = partN (numsOf cv) j) := partJ_end HT2.out.1 (by rw [hnl]; exact HT2.out.2) (by rw [hnl]; exact hc)
                                  have hszc : (cv.size : Int) = (sz : Int) := by rw [HSZ.out]
                                  have HDI : Hid (DataI wr (.slice (some ⟨wb.heap.size, 0, none⟩) 128 128) (partN (numsOf cv) j)) := by
                                    have hl := partN_len (numsOf cv) j
                                    have hcs := HK5.out
                                    rw [HPE.out] at hcs
                                    refine ⟨.inr ⟨wb.heap.size, 0, 128, _, by rw [hl], by omega, by unfold maxLen; omega, hcs, fun i hi => ?_⟩, fun c hc => ?_⟩
                                    · simp [Bs, List.getD_eq_getElem?_getD, List.getElem?_eq_getElem hi]
                                    · unfold partN at hc
                                      rcases List.mem_append.1 hc with h | h
                                      · exact numsOf_lt cv c (List.mem_of_mem_drop (List.mem_of_mem_take h))
                                      · rw [(List.mem_replicate.1 h).2]; decide
                                  have hscell := HSC.out wr HB5.out
                                  have H1 : Hid (OnX w7 w0.heap.size (.slice aq4 n4 am4) L2 (wr.alloc (.cells #[.bool false, .int .i64 sj, .slice (some ⟨wb.heap.size, 0, none⟩) 128 128] 47))) := (HOX.out.next HB5.out).next (below_alloc _ _)
                                  have HD1 : Hid (DataI (wr.alloc (.cells #[.bool false, .int .i64 sj, .slice (some ⟨wb.heap.size, 0, none⟩) 128 128] 47)) (.slice (some ⟨wb.heap.size, 0, none⟩) 128 128) (partN (numsOf cv) j)) := HDI.out.keepT (T := fun _ => True) trivial (.of_below (below_alloc _ _))
                                  have HC1 : Hid _ := new3 wr (.bool false) (.int .i64 sj) (.slice (some ⟨wb.heap.size, 0, none⟩) 128 128) 47 wr.heap.size rfl
                                  have HBS : Hid (w0.heap.size ≤ (wr.alloc (.cells #[.bool false, .int .i64 sj, .slice (some ⟨wb.heap.size, 0, none⟩) 128 128] 47)).heap.size) := Nat.le_trans H1.out.ins H1.out.bel.size
                                  rcases (show ¬ t < 128 ∨ (t < 128 ∧ ¬ j * 128 + t < sz) by omega) with hd | ⟨hd, hd2⟩
                                  · have hc1 : (128 : Int) ≤ (t : Int) := by omega
                                    clear hc hnl HK5 hd
                                    go_wp2_with (at_builtin; go_loud ((refine wpList_append_amix _ rfl _ _ rfl w0.heap.size (.slice aq4 n4 am4) L2 false sj (.slice (some ⟨wb.heap.size, 0, none⟩) 128 128) (partN (numsOf cv) j) ⟨wr.heap.size, 0, none⟩ 1 rfl rfl H1.out.own HD1.out HC1.out.1 HC1.out.2.1 HC1.out.2.2 (by have := HN4.out; omega) HBS.out ?_); intro v9 w9 ho9 hg9; have H9 : Hid (OnX w7 w0.heap.size v9 (L2 ++ [((false, sj, partN (numsOf cv) j), .slice (some ⟨wb.heap.size, 0, none⟩) 128 128)]) w9) := H1.out.app hg9 ho9; clear ho9 hg9))
                                    go_roundw
                                    case rel => exact ⟨j + 1, _, HJ.out, by go_num, by rw [List.map_append, HL2.out, HFS.out, List.append_assoc]; rfl, H9.out⟩
                                    case measure => have := HJ.out; simp [intOf]; omega
                                  · have hc1 : (t : Int) < 128 := by omega
                                    have hc2 : (sz : Int) ≤ (j : Int) * 128 + (t : Int) := by omega
                                    clear hc hnl HK5 hd hd2
                                    go_wp2_with (at_builtin; go_loud ((refine wpList_append_amix _ rfl _ _ rfl w0.heap.size (.slice aq4 n4 am4) L2 false sj (.slice (some ⟨wb.heap.size, 0, none⟩) 128 128) (partN (numsOf cv) j) ⟨wr.heap.size, 0, none⟩ 1 rfl rfl H1.out.own HD1.out HC1.out.1 HC1.out.2.1 HC1.out.2.2 (by have := HN4.out; omega) HBS.out ?_); intro v9 w9 ho9 hg9; have H9 : Hid (OnX w7 w0.heap.size v9 (L2 ++ [((false, sj, partN (numsOf cv) j), .slice (some ⟨wb.heap.size, 0, none⟩) 128 128)]) w9) := H1.out.app hg9 ho9; clear ho9 hg9))
                                    go_roundw
                                    case rel => exact ⟨j + 1, _, HJ.out, by go_num, by rw [List.map_append, HL2.out, HFS.out, List.append_assoc]; rfl, H9.out⟩
                                    case measure => have := HJ.out; simp [intOf]; omega
                            · have hjI : (sl : Int) ≤ (j : Int) := by omega
                              have hL3 : L2.map Prod.fst = L.map Prod.fst ++ fileA ⟨ck, (sz : Int), Q⟩ (numsOf cv) := by
                                rw [HL2.out, List.take_of_length_le]
                                unfold fileA
                                rw [List.length_map, List.length_range]
                                have := HSL.out.1
                                show (secs Q).length ≤ j
                                omega
                              have HRM2 : Hid (RSM count x l R0 (k + 1) (inF (⟨ck, (sz : Int), Q⟩, .slice pq ql pm) ls3) (Pd ++ [⟨ck, (sz : Int), Q⟩]) L2 ∧ U ++ Q = allPcs x.files ++ allPcs (Pd ++ [⟨ck, (sz : Int), Q⟩])) := by
                                have h := HRM.out.put (pv := .slice pq ql pm) (L' := L2) HCN.out HK.out.2 HC.out (by rw [HSZ.out, HN.out]; omega) (by rw [HU.out, HSZ.out, HN.out]; exact HEQ.out.1) (P := Q) (by rw [HU.out, HSZ.out, HN.out]; exact HEQ.out.2.1) (by rw [HSZ.out]; exact hL3)
                                rw [HSZ.out, HU.out] at h
                                exact h
                              have HRSE : Hid (RS w0 w1.heap.size #[.int .i64 gen, .slice fq LF fm] (.slice fq6 n6 fm6) (inF (⟨ck, (sz : Int), Q⟩, .slice pq ql pm) ls3) (.slice uq5 n5 um5) (U ++ Q) (.slice aq4 n4 am4) L2 wb) := HRS7.out.act HOX.out
                              clear hjl hj hL3
                              go_wp2
                              go_roundw
                              case rel => exact ⟨k + 1, _, _, _, HK.out.1, by go_num, HRM2.out.1, by rw [← HRM2.out.2]; exact HRSE.out⟩
                              case measure => have := HK.out.1; simp [intOf]; omega
                        · have hE1 : (E != 0) = true := by simpa using hE0
                          have hE2 : (E == 0) = false := by simpa using hE0
                          have HVE : Hid (V = (E, [])) := HVR.out E (by
                            rw [← HRM.out.head HK.out.2 HC.out, HU.out, placeN, if_neg (by rw [numsOf_len, HSZ.out, HN.out]; omega), if_pos (by rw [numsOf_len, HSZ.out, HN.out, HEQ.out.1]; exact hE0), numsOf_len, HSZ.out, HN.out, HEQ.out.1]
                            rfl)
                          clear hE0
                          go_wp2
                          go_ret2
                          exact rturn_err E HVE.out rfl HBw4.out
                  · have hkI : (ln : Int) ≤ (k : Int) := by omega
                    have HRE : Hid (R0 = .ok Pd) := by
                      show R0 = _
                      rw [← HRM.out.rest, List.drop_eq_nil_of_le (by have := HCH.out.len; omega)]
                      show joinR Pd (.ok []) = _
                      simp [joinR]
                    obtain ⟨o, hao, hoo⟩ : ∃ o : Nat, at_ = 8 - (o : Int) ∧ (o = 0 ∨ o = 8) := by
                      rcases mount_at HM.out with h | h
                      · exact ⟨8, by omega, .inr rfl⟩
                      · exact ⟨0, by omega, .inl rfl⟩
                    have HAO : Hid (at_ = 8 - (o : Int) ∧ (o = 0 ∨ o = 8)) := ⟨hao, hoo⟩
                    have hoI : (8 : Int) - at_ = (o : Int) := by omega
                    have hat0 : 0 ≤ at_ ∧ at_ ≤ 8 := by omega
                    have hat1 : 0 ≤ at_ := hat0.1
                    have hat2 : at_ ≤ 8 := hat0.2
                    have ho8 : (o : Int) ≤ 8 := by omega
                    have hxg0 : 0 ≤ gen := by have h1 := HMY.out.1.lo; have := HGN.out; omega
                    have hnw := rnewest_any _ count data ws wr (HD.out.below HBw.out) HMY.out.2.2.2 gen o hxg0 (by have h1 := HMY.out.1.hi; have := HGN.out; omega) (by have := HMY.out.2.2.1; omega) HCN.out.2
                    obtain ⟨G, hG⟩ : ∃ G, genK data ws o gen 8 + 1 = G := ⟨_, rfl⟩
                    have HGG : Hid (genK data ws o x.gen 8 + 1 = G ∧ 1 < G ∧ G ≤ 4611686018427387904) := by
                      have h1 := gen_wf (data := data) (ws := ws) (o := o) (G := G) HMY.out.1.lo HMY.out.1.hi (by rw [HGN.out]; exact hG)
                      exact ⟨by rw [HGN.out]; exact hG, h1.2⟩
                    have hGI : G ≤ 4611686018427387904 := HGG.out.2.2
                    have hGI1 : 1 < G := HGG.out.2.1
                    rw [hG] at hnw
                    obtain ⟨d0, d1, d2⟩ := three_cells ((HRS.out.bel.block _ (lt_heap HX0.out)).trans HX0.out)
                    obtain ⟨o0, o1⟩ := two_cells HRS.out.old
                    clear hao hoo hat0 hG hkl hk
                    go_wp2_with fail
                    refine hnw.mono ?_
                    rintro e w3 ⟨rfl, hb3⟩
                    have HRS3 : Hid (RS w0 w1.heap.size #[.int .i64 gen, .slice fq LF fm] (.slice fq3 n1 fm3) ls3 (.slice uq3 n2 um3) U (.slice aq3 n3 am3) L w3) := HRS.out.next hb3
                    have HBw3 : Hid (Below w.heap.size w w3) := below_bt HBw.out hb3
                    have HVG : Hid (∀ X, (if G = 4611686018427387904 then (42, []) else if (insideN (insAll (x.files.filter fun f => !namedC l f.name) Pd)).length ≤ 952 then (0, (if filesA Pd (valsOf (putsC l)) = [] then [] else filesA Pd (valsOf (putsC l)) ++ [flA]) ++ (secsA o (bytesN ⟨G, insAll (x.files.filter fun f => !namedC l f.name) Pd⟩) 8 ++ [flA])) else (42, [])) = X → V = X) := fun X hX => by
                      rw [← HV.out, ← hX]
                      simp only [turnV, HE.out]
                      rw [if_neg (by simp), if_neg (by have := HMV.out; have := HFW.out; omega), HR0.out, HRE.out]
                      simp only
                      rw [show (8 - at_).toNat = o by omega, HGG.out.1]
                    clear hnw hb3 d0 d1 d2 o0 o1
                    by_cases hGe : G = 4611686018427387904
                    · have HVE : Hid (V = (42, [])) := HVG.out _ (by rw [if_pos hGe])
                      have hge : decide ((4611686018427387904 : Int) ≤ G) = true := decide_eq_true (by omega)
                      have hge2 : (4611686018427387904 : Int) ≤ G := by omega
                      clear hGe
                      go_wp2
                      go_ret2
                      exact rturn_err 42 HVE.out rfl HBw3.out
                    · have HGN2 : Hid (G ≠ 4611686018427387904) := hGe
                      have hglt : G < 4611686018427387904 := by omega
                      have hge : decide ((4611686018427387904 : Int) ≤ G) = false := decide_eq_false (by omega)
                      obtain ⟨SS, hSS⟩ : ∃ SS, insAll (x.files.filter fun f => !namedC l f.name) Pd = SS := ⟨_, rfl⟩
                      have HSS : Hid (insAll (x.files.filter fun f => !namedC l f.name) Pd = SS) := hSS
                      have hmayN : May ltS ⟨G, SS⟩ := new_may HCN.out HMY.out.1 HMY.out.2.1 HE.out (by have := HMV.out; have := HFW.out; omega) (HR0.out.trans HRE.out) (by omega) hglt (by rw [← hSS]; exact (insAll_perm Pd _).symm) (by rw [← hSS]; exact insAll_srt (stay_srt HMY.out.1 l))
                      have hfst : ls3.map Prod.fst = (⟨G, SS⟩ : DirV).files := HRM.out.fst.trans hSS
                      have HMYN : Hid (May ltS ⟨G, SS⟩) := hmayN
                      have hwt := rWrite_any (.agg #[.int .i64 G, .slice fq3 n1 fm3]) ⟨G, SS⟩ w3 ⟨⟨_, rfl, (HRS3.out.files.own (Nat.le_refl _)).files hmayN hfst⟩, by show wf64 G; unfold wf64; omega⟩ (fun f hf => by have := hmayN.told.name f hf; omega) (by have := (errK_zero hmayN.pcs).2.1; omega)
                      clear hSS hmayN hfst hGe
                      go_wp2_with fail
                      refine hwt.mono ?_
                      rintro e w4 ⟨bv, nn, b, rfl, hwrote, hbrow, hb4⟩
                      have HRS4 : Hid (RS w0 w1.heap.size #[.int .i64 gen, .slice fq LF fm] (.slice fq3 n1 fm3) ls3 (.slice uq3 n2 um3) U (.slice aq3 n3 am3) L w4) := HRS3.out.next hb4
                      have HBw4 : Hid (Below w.heap.size w w4) := below_bt HBw3.out hb4
                      clear hwt hb4
                      by_cases hnn : nn = 0
                      · subst hnn
                        have HWB : Hid (b = bytesN ⟨G, SS⟩ ∧ (insideN SS).length ≤ 952 ∧ b.length = 1024 ∧ ∀ c ∈ b, c < 256) := by
                          have hby := wrote_bytes hwrote
                          generalize hz : (0 : Int) = z at hwrote
                          cases hwrote with
                          | many h1 => cases hz
                          | bad h1 h2 => cases hz
                          | long h1 h2 => cases hz
                          | ok h1 h2 => exact ⟨rfl, h2, bytes_len ⟨h1, h2, rfl⟩, hby⟩
                        obtain ⟨bq, bm, rfl, hbl, hbx, _⟩ := own_form hbrow
                        have hb1024 := HWB.out.2.2.1
                        rw [hb1024] at hbl hbrow ⊢
                        have HBR : Hid (w4.ownsRow w3.heap.size 5 1 (.slice bq 1024 bm) 1024 (Bs b)) := hbrow
                        unfold maxLen at hbx
                        have hbmI : (1024 : Int) ≤ (bm : Int) := by omega
                        have hbmX : (bm : Int) ≤ 9223372036854775807 := by omega
                        obtain ⟨bg, rfl, cs, hcs, hcl⟩ : ∃ bg, bq = some ⟨bg, 0, none⟩ ∧ ∃ cs : Array Value, w4.heap[bg]? = some (.cells cs 5 (0, 0)) ∧ ∀ i, i < 1024 → cs[i]? = some (.int .u8 ((b.getD i 0 : Nat) : Int)) := by
                          rcases HBR.out.2 with ⟨_, h0⟩ | ⟨g, cap, cur, hv, _, hg, h1, _, _, ht⟩
                          · omega
                          · obtain ⟨rfl, _, _⟩ := Value.slice.inj hv
                            refine ⟨g, rfl, cur, hg, fun i hi => ?_⟩
                            have h5 := congrArg (fun l : List Value => l[i]?) ht
                            simp only [Nat.mul_one] at h5
                            rw [List.getElem?_take_of_lt hi] at h5
                            rw [← Array.getElem?_toList, h5]
                            simp [Bs, List.getD_eq_getElem?_getD, List.getElem?_eq_getElem (show i < b.length by omega)]
                        have HCS : Hid (w4.heap[bg]? = some (.cells cs 5 (0, 0)) ∧ ∀ i, i < 1024 → cs[i]? = some (.int .u8 ((b.getD i 0 : Nat) : Int))) := ⟨hcs, hcl⟩
                        have HV0 : Hid (V = (0, (if L.map Prod.fst = [] then [] else L.map Prod.fst ++ [flA]) ++ (secsA o b 8 ++ [flA]))) := HVG.out _ (by
                          have hta : l.take k = l := List.take_of_length_le (by have := HCH.out.len; omega)
                          rw [if_neg HGN2.out, HSS.out, if_pos HWB.out.2.1, HRM.out.acts, hta, HWB.out.1])
                        have HX4 : Hid (OnX w4 w0.heap.size (.slice aq3 n3 am3) L w4) := ⟨HRS4.out.acts, KeepT.refl _ _, Below.refl _ _, HRS4.out.bel.size⟩
                        clear hwrote hbrow hcs hcl hbl hbx hb1024
                        have HAL : Hid ((if L.map Prod.fst = [] then [] else L.map Prod.fst ++ [flA]).length ≤ 5000) := by
                          show _ ≤ _
                          have := HNN.out
                          split
                          · simp
                          · rw [List.length_append, List.length_map]; simp; omega
                        obtain ⟨A1, hA1⟩ : ∃ A1, (if L.map Prod.fst = [] then [] else L.map Prod.fst ++ [flA]) = A1 := ⟨_, rfl⟩
                        rw [hA1] at HAL HV0
                        by_cases hn3 : n3 = 0
                        · have hL0 : L = [] := List.eq_nil_of_length_eq_zero (by have := HNN.out; omega)
                          have HA1 : Hid (L.map Prod.fst = A1) := by show _ = _; rw [← hA1, hL0]; rfl
                          have HXS : Hid (OnX w4 w0.heap.size (.slice aq3 n3 am3) L w4) := HX4.out
                          have hn3I : (n3 : Int) ≤ 0 := by omega
                          have hn3d : decide (0 < n3) = false := decide_eq_false (by omega)
                          clear hL0 hA1 hn3
                          go_wp2
                          go_loopw [14, 28] (fun a i wr => ∃ (i6 : Nat) (L6 : List ActF), i6 ≤ 8 ∧ i = .int .i64 (i6 : Int) ∧ L6.map Prod.fst = A1 ++ secsA o b i6 ∧ OnX w4 w0.heap.size a L6 wr) (fun _ i _ => 8 - (intOf i).toNat)
                          case atStart => exact ⟨0, L, by omega, rfl, by rw [HA1.out]; simp [secsA], HXS.out⟩
                          case round =>
                            obtain ⟨i6, L6, h6, rfl, hL6, hox⟩ := hrel
                            obtain ⟨aq6, am6, rfl, _, _, _⟩ := hox.own.form
                            have HL6 : Hid (L6.map Prod.fst = A1 ++ secsA o b i6) := hL6
                            have HOX : Hid (OnX w4 w0.heap.size (.slice aq6 L6.length am6) L6 wr) := hox
                            obtain ⟨n6, hn6⟩ : ∃ k, L6.length = k := ⟨_, rfl⟩
                            have HN6 : Hid (L6.length = n6 ∧ n6 ≤ 10000) := ⟨hn6, by
                              have h := congrArg List.length hL6
                              rw [List.length_map, List.length_append] at h
                              have h2 : (secsA o b i6).length = i6 := by simp [secsA]
                              have := HAL.out
                              omega⟩
                            rw [hn6] at HOX ⊢
                            clear hox hL6 hn6
                            by_cases h68 : i6 < 8
                            · have hiI : (i6 : Int) < 8 := by omega
                              have hi0 : (0 : Int) ≤ (i6 : Int) := by omega
                              have HI6 : Hid (i6 < 8) := h68
                              have hbd : i6 * 128 + 128 ≤ 1024 := by omega
                              have hbdI : (i6 : Int) * 128 + 128 ≤ 1024 := by omega
                              have HSN : Hid _ := secsA_snoc o b i6
                              obtain ⟨bc, hbc⟩ : ∃ bc, bm - i6 * 128 = bc := ⟨_, rfl⟩
                              have HDI : Hid (DataI wr (.slice (some ⟨bg, i6 * 128, none⟩) 128 bc) (secAt b i6)) := by
                                have hsl : (secAt b i6).length = 128 := secAt_len HWB.out.2.2.1 h68
                                refine ⟨.inr ⟨bg, i6 * 128, bc, cs, by rw [hsl], by omega, by unfold maxLen; omega, HOX.out.keep.same _ _ _ (by decide) HCS.out.1, fun t ht => ?_⟩, fun c hc => ?_⟩
                                · rw [hsl] at ht
                                  rw [HCS.out.2 (i6 * 128 + t) (by omega)]
                                  unfold secAt
                                  rw [List.getD_eq_getElem?_getD, List.getD_eq_getElem?_getD, List.getElem?_take_of_lt ht, List.getElem?_drop]
                                · exact HWB.out.2.2.2 c (List.mem_of_mem_drop (List.mem_of_mem_take hc))
                              have H1 : Hid (OnX w4 w0.heap.size (.slice aq6 n6 am6) L6 (wr.alloc (.cells #[.bool false, .int .i64 ((o : Int) + (i6 : Int)), .slice (some ⟨bg, i6 * 128, none⟩) 128 bc] 47))) := HOX.out.next (below_alloc _ _)
                              have HD1 : Hid (DataI (wr.alloc (.cells #[.bool false, .int .i64 ((o : Int) + (i6 : Int)), .slice (some ⟨bg, i6 * 128, none⟩) 128 bc] 47)) (.slice (some ⟨bg, i6 * 128, none⟩) 128 bc) (secAt b i6)) := HDI.out.keepT (T := fun _ => True) trivial (.of_below (below_alloc _ _))
                              have HC1 : Hid _ := new3 wr (.bool false) (.int .i64 ((o : Int) + (i6 : Int))) (.slice (some ⟨bg, i6 * 128, none⟩) 128 bc) 47 wr.heap.size rfl
                              have HBS : Hid (w0.heap.size ≤ (wr.alloc (.cells #[.bool false, .int .i64 ((o : Int) + (i6 : Int)), .slice (some ⟨bg, i6 * 128, none⟩) 128 bc] 47)).heap.size) := Nat.le_trans H1.out.ins H1.out.bel.size
                              have HOI : Hid ((o : Int) + (i6 : Int) = ((o + i6 : Nat) : Int)) := by show _ = _; omega
                              clear h68 h6
                              go_wp2_with (at_builtin; go_loud ((refine wpList_append_amix _ rfl _ _ rfl w0.heap.size (.slice aq6 n6 am6) L6 false ((o : Int) + (i6 : Int)) (.slice (some ⟨bg, i6 * 128, none⟩) 128 bc) (secAt b i6) ⟨wr.heap.size, 0, none⟩ 1 rfl rfl H1.out.own HD1.out HC1.out.1 HC1.out.2.1 HC1.out.2.2 (by have := HN6.out; omega) HBS.out ?_); intro v9 w9 ho9 hg9; have H9 : Hid (OnX w4 w0.heap.size v9 (L6 ++ [((false, (o : Int) + (i6 : Int), secAt b i6), .slice (some ⟨bg, i6 * 128, none⟩) 128 bc)]) w9) := H1.out.app hg9 ho9; clear ho9 hg9))
                              go_roundw
                              case rel => exact ⟨i6 + 1, _, HI6.out, by go_num, by rw [List.map_append, HL6.out, HSN.out, List.append_assoc, ← HOI.out]; rfl, H9.out⟩
                              case measure => have := HI6.out; simp [intOf]; omega
                            · obtain rfl : i6 = 8 := by omega
                              have H1 : Hid (OnX w4 w0.heap.size (.slice aq6 n6 am6) L6 (wr.alloc (.cells #[.bool true, .int .i64 0, .slice none 0 0] 47))) := HOX.out.next (below_alloc _ _)
                              have HC1 : Hid _ := new3 wr (.bool true) (.int .i64 0) (.slice none 0 0) 47 wr.heap.size rfl
                              have HBS : Hid (w0.heap.size ≤ (wr.alloc (.cells #[.bool true, .int .i64 0, .slice none 0 0] 47)).heap.size) := Nat.le_trans H1.out.ins H1.out.bel.size
                              clear h68 h6
                              go_wp2_with (at_builtin; go_loud ((refine wpList_append_amix _ rfl _ _ rfl w0.heap.size (.slice aq6 n6 am6) L6 true 0 (.slice none 0 0) [] ⟨wr.heap.size, 0, none⟩ 1 rfl rfl H1.out.own ⟨.inl ⟨rfl, rfl⟩, by simp⟩ HC1.out.1 HC1.out.2.1 HC1.out.2.2 (by have := HN6.out; omega) HBS.out ?_); intro v9 w9 ho9 hg9; have H9 : Hid (OnX w4 w0.heap.size v9 (L6 ++ [((true, 0, []), .slice none 0 0)]) w9) := H1.out.app hg9 ho9; clear ho9 hg9))
                              go_ret2
                              refine ⟨⟨v9, _, by rw [HV0.out]; rfl, ⟨own_mono H9.out.own.row HB0.out.size, H9.out.own.data⟩, ?_, ?_⟩⟩
                              · rw [HV0.out, List.map_append, HL6.out, List.append_assoc]
                                rfl
                              · exact HBw4.out.trans (H9.out.bel.mono HB0.out.size)
                        · have HA1 : Hid ((L ++ [((true, 0, []), Value.slice none 0 0)]).map Prod.fst = A1) := by
                            show _ = _
                            rw [← hA1, if_neg (fun h => hn3 (by have h2 := congrArg List.length h; rw [List.length_map, HNN.out.2.2.1] at h2; exact h2)), List.map_append]
                            rfl
                          have hn3I : (0 : Int) < (n3 : Int) := by omega
                          have hn3d : decide (0 < n3) = true := decide_eq_true (by omega)
                          have H1 : Hid (OnX w4 w0.heap.size (.slice aq3 n3 am3) L (w4.alloc (.cells #[.bool true, .int .i64 0, .slice none 0 0] 47))) := HX4.out.next (below_alloc _ _)
                          have HC1 : Hid _ := new3 w4 (.bool true) (.int .i64 0) (.slice none 0 0) 47 w4.heap.size rfl
                          have HBS : Hid (w0.heap.size ≤ (w4.alloc (.cells #[.bool true, .int .i64 0, .slice none 0 0] 47)).heap.size) := Nat.le_trans H1.out.ins H1.out.bel.size
                          clear hA1 hn3
                          go_wp2_with (at_builtin; go_loud ((refine wpList_append_amix _ rfl _ _ rfl w0.heap.size (.slice aq3 n3 am3) L true 0 (.slice none 0 0) [] ⟨w4.heap.size, 0, none⟩ 1 rfl rfl H1.out.own ⟨.inl ⟨rfl, rfl⟩, by simp⟩ HC1.out.1 HC1.out.2.1 HC1.out.2.2 (by have := HNN.out; omega) HBS.out ?_); intro v5 w5 ho5 hg5; have HXS : Hid (OnX w4 w0.heap.size v5 (L ++ [((true, 0, []), Value.slice none 0 0)]) w5) := H1.out.app hg5 ho5; clear ho5 hg5))
                          go_loopw [14, 28] (fun a i wr => ∃ (i6 : Nat) (L6 : List ActF), i6 ≤ 8 ∧ i = .int .i64 (i6 : Int) ∧ L6.map Prod.fst = A1 ++ secsA o b i6 ∧ OnX w4 w0.heap.size a L6 wr) (fun _ i _ => 8 - (intOf i).toNat)
                          case atStart => exact ⟨0, _, by omega, rfl, by rw [HA1.out]; simp [secsA], HXS.out⟩
                          case round =>
                            obtain ⟨i6, L6, h6, rfl, hL6, hox⟩ := hrel
                            obtain ⟨aq6, am6, rfl, _, _, _⟩ := hox.own.form
                            have HL6 : Hid (L6.map Prod.fst = A1 ++ secsA o b i6) := hL6
                            have HOX : Hid (OnX w4 w0.heap.size (.slice aq6 L6.length am6) L6 wr) := hox
                            obtain ⟨n6, hn6⟩ : ∃ k, L6.length = k := ⟨_, rfl⟩
                            have HN6 : Hid (L6.length = n6 ∧ n6 ≤ 10000) := ⟨hn6, by
                              have h := congrArg List.length hL6
                              rw [List.length_map, List.length_append] at h
                              have h2 : (secsA o b i6).length = i6 := by simp [secsA]
                              have := HAL.out
                              omega⟩
                            rw [hn6] at HOX ⊢
                            clear hox hL6 hn6
                            by_cases h68 : i6 < 8
                            · have hiI : (i6 : Int) < 8 := by omega
                              have hi0 : (0 : Int) ≤ (i6 : Int) := by omega
                              have HI6 : Hid (i6 < 8) := h68
                              have hbd : i6 * 128 + 128 ≤ 1024 := by omega
                              have hbdI : (i6 : Int) * 128 + 128 ≤ 1024 := by omega
                              have HSN : Hid _ := secsA_snoc o b i6
                              obtain ⟨bc, hbc⟩ : ∃ bc, bm - i6 * 128 = bc := ⟨_, rfl⟩
                              have HDI : Hid (DataI wr (.slice (some ⟨bg, i6 * 128, none⟩) 128 bc) (secAt b i6)) := by
                                have hsl : (secAt b i6).length = 128 := secAt_len HWB.out.2.2.1 h68
                                refine ⟨.inr ⟨bg, i6 * 128, bc, cs, by rw [hsl], by omega, by unfold maxLen; omega, HOX.out.keep.same _ _ _ (by decide) HCS.out.1, fun t ht => ?_⟩, fun c hc => ?_⟩
                                · rw [hsl] at ht
                                  rw [HCS.out.2 (i6 * 128 + t) (by omega)]
                                  unfold secAt
                                  rw [List.getD_eq_getElem?_getD, List.getD_eq_getElem?_getD, List.getElem?_take_of_lt ht, List.getElem?_drop]
                                · exact HWB.out.2.2.2 c (List.mem_of_mem_drop (List.mem_of_mem_take hc))
                              have H1 : Hid (OnX w4 w0.heap.size (.slice aq6 n6 am6) L6 (wr.alloc (.cells #[.bool false, .int .i64 ((o : Int) + (i6 : Int)), .slice (some ⟨bg, i6 * 128, none⟩) 128 bc] 47))) := HOX.out.next (below_alloc _ _)
                              have HD1 : Hid (DataI (wr.alloc (.cells #[.bool false, .int .i64 ((o : Int) + (i6 : Int)), .slice (some ⟨bg, i6 * 128, none⟩) 128 bc] 47)) (.slice (some ⟨bg, i6 * 128, none⟩) 128 bc) (secAt b i6)) := HDI.out.keepT (T := fun _ => True) trivial (.of_below (below_alloc _ _))
                              have HC1 : Hid _ := new3 wr (.bool false) (.int .i64 ((o : Int) + (i6 : Int))) (.slice (some ⟨bg, i6 * 128, none⟩) 128 bc) 47 wr.heap.size rfl
                              have HBS : Hid (w0.heap.size ≤ (wr.alloc (.cells #[.bool false, .int .i64 ((o : Int) + (i6 : Int)), .slice (some ⟨bg, i6 * 128, none⟩) 128 bc] 47)).heap.size) := Nat.le_trans H1.out.ins H1.out.bel.size
                              have HOI : Hid ((o : Int) + (i6 : Int) = ((o + i6 : Nat) : Int)) := by show _ = _; omega
                              clear h68 h6
                              go_wp2_with (at_builtin; go_loud ((refine wpList_append_amix _ rfl _ _ rfl w0.heap.size (.slice aq6 n6 am6) L6 false ((o : Int) + (i6 : Int)) (.slice (some ⟨bg, i6 * 128, none⟩) 128 bc) (secAt b i6) ⟨wr.heap.size, 0, none⟩ 1 rfl rfl H1.out.own HD1.out HC1.out.1 HC1.out.2.1 HC1.out.2.2 (by have := HN6.out; omega) HBS.out ?_); intro v9 w9 ho9 hg9; have H9 : Hid (OnX w4 w0.heap.size v9 (L6 ++ [((false, (o : Int) + (i6 : Int), secAt b i6), .slice (some ⟨bg, i6 * 128, none⟩) 128 bc)]) w9) := H1.out.app hg9 ho9; clear ho9 hg9))
                              go_roundw
                              case rel => exact ⟨i6 + 1, _, HI6.out, by go_num, by rw [List.map_append, HL6.out, HSN.out, List.append_assoc, ← HOI.out]; rfl, H9.out⟩
                              case measure => have := HI6.out; simp [intOf]; omega
                            · obtain rfl : i6 = 8 := by omega
                              have H1 : Hid (OnX w4 w0.heap.size (.slice aq6 n6 am6) L6 (wr.alloc (.cells #[.bool true, .int .i64 0, .slice none 0 0] 47))) := HOX.out.next (below_alloc _ _)
                              have HC1 : Hid _ := new3 wr (.bool true) (.int .i64 0) (.slice none 0 0) 47 wr.heap.size rfl
                              have HBS : Hid (w0.heap.size ≤ (wr.alloc (.cells #[.bool true, .int .i64 0, .slice none 0 0] 47)).heap.size) := Nat.le_trans H1.out.ins H1.out.bel.size
                              clear h68 h6
                              go_wp2_with (at_builtin; go_loud ((refine wpList_append_amix _ rfl _ _ rfl w0.heap.size (.slice aq6 n6 am6) L6 true 0 (.slice none 0 0) [] ⟨wr.heap.size, 0, none⟩ 1 rfl rfl H1.out.own ⟨.inl ⟨rfl, rfl⟩, by simp⟩ HC1.out.1 HC1.out.2.1 HC1.out.2.2 (by have := HN6.out; omega) HBS.out ?_); intro v9 w9 ho9 hg9; have H9 : Hid (OnX w4 w0.heap.size v9 (L6 ++ [((true, 0, []), .slice none 0 0)]) w9) := H1.out.app hg9 ho9; clear ho9 hg9))
                              go_ret2
                              refine ⟨⟨v9, _, by rw [HV0.out]; rfl, ⟨own_mono H9.out.own.row HB0.out.size, H9.out.own.data⟩, ?_, ?_⟩⟩
                              · rw [HV0.out, List.map_append, HL6.out, List.append_assoc]
                                rfl
                              · exact HBw4.out.trans (H9.out.bel.mono HB0.out.size)
                      · have HVE : Hid (V = (42, [])) := HVG.out _ (by
                          rw [if_neg HGN2.out, HSS.out]
                          cases hwrote with
                          | many h1 => exact absurd HMYN.out.many (by omega)
                          | bad h1 h2 => exact absurd HMYN.out h2
                          | long h1 h2 => exact if_neg (by have h3 : 952 < (insideN SS).length := h2; omega)
                          | ok h1 h2 => exact absurd rfl hnn)
                        have hn1 : (nn != 0) = true := by simpa using hnn
                        have hn2 : (nn == 0) = false := by simpa using hnn
                        clear hnn hwrote hbrow
                        go_wp2
                        go_ret2
                        exact rturn_err 42 HVE.out rfl HBw4.out
    · have hE1 : (E != 0) = true := by simpa using hE0
      have hE2 : (E == 0) = false := by simpa using hE0
      have HVE : Hid (V = (E, [])) := by
        show V = _
        rw [← HV.out]
        simp only [turnV, hE]
        rw [if_pos hE0]
      have HBE : Hid (Below w.heap.size w w2) := below_bt HB0.out (below_bt HB1.out hb2)
      clear hE0 hE hb2
      go_wp2
      go_ret2
      exact rturn_err E HVE.out rfl HBE.out
end Go.Proofs.YtglcpfnpbcnejaaGreatDoor
