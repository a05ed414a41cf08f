/-
  Contracts of write and of the call Write.
-/
import Derived.Test.YtglcpfnpbcnejaaGreatDoorJ11
import Derived.Test.YtglcpfnpbcnejaaGreatDoorJ08
import Derived.Laws.CopyOwn
import Derived.Test.YtglcpfnpbcnejaaGreatDoorJ09
import Derived.Defers
namespace Go.Proofs.YtglcpfnpbcnejaaGreatDoor
open Go.RowKit Go.WideShapes Rm

/-- What may asks. -/
structure MayR (x : DirV) : Prop where
  lo : 1 ≤ x.gen
  hi : x.gen < 4611686018427387904
  rise : Rises ltS x.files
  pcs : errK 4096 (allPcs x.files) = 0
  each : ∀ f ∈ x.files, FileOk f
theorem mayR_iff {x : DirV} (h : x.files.length ≤ 32) : MayR x ↔ May ltS x := ⟨fun k => ⟨k.lo, k.hi, h, k.rise, k.pcs, k.each⟩, fun k => ⟨k.lo, k.hi, k.rise, k.pcs, k.each⟩⟩
theorem sum_eq (l : Pcs) : sumP l = sumC l := by
  induction l with
  | nil => rfl
  | cons p l ih => simp [sumP, sumC] at *
/-- A file, but for its pieces: as one test asks. -/
def FOk1 (l : List FileV) (k : Nat) : Prop := isNameN (l.getD k zeroF).name = true ∧ (0 < k → ltS (l.getD (k - 1) zeroF).name (l.getD k zeroF).name) ∧ 0 ≤ (l.getD k zeroF).size ∧ (l.getD k zeroF).size ≤ 524288
def FOk2 (l : List FileV) (k : Nat) : Prop := FOk1 l k ∧ sumC (l.getD k zeroF).pcs = needsN (l.getD k zeroF).size
theorem FOk2.step {l : List FileV} {k : Nat} (h : ∀ j, j < k → FOk2 l j) (h1 : FOk2 l k) : ∀ j, j < k + 1 → FOk2 l j := by
  intro j hj
  rcases Nat.lt_or_ge j k with h' | h'
  · exact h j h'
  · obtain rfl : j = k := by omega
    exact h1
theorem mayR_of {gen : Int} {l : List FileV} (h1 : 1 ≤ gen) (h2 : gen < 4611686018427387904) (h3 : errK 4096 (allPcs l) = 0) (h4 : ∀ p ∈ allPcs l, 80 ≤ p.1) (h5 : ∀ j, j < l.length → FOk2 l j) : MayR ⟨gen, l⟩ := by
  refine ⟨h1, h2, fun i hi => ?_, h3, fun f hf => ?_⟩
  · exact (h5 (i + 1) hi).1.2.1 (by omega)
  · obtain ⟨i, hi, rfl⟩ := List.getElem_of_mem hf
    have := h5 i hi
    unfold FOk2 FOk1 at this
    rw [getD_eq hi] at this
    exact ⟨this.1.1, this.1.2.2.1, this.1.2.2.2, fun p hp => h4 p (mem_allPcs hf hp), this.2⟩
theorem mayR_ok2 {gen : Int} {l : List FileV} (h : MayR ⟨gen, l⟩) {k : Nat} (hk : k < l.length) : FOk2 l k := by
  have hf := h.each _ (getD_mem' (d := zeroF) hk)
  refine ⟨⟨hf.1, fun h0 => ?_, hf.2.1, hf.2.2.1⟩, hf.2.2.2.2⟩
  have := h.rise (k - 1) (by simp only; omega)
  rwa [show k - 1 + 1 = k from by omega] at this
set_option maxRecDepth 4000 in
set_option maxHeartbeats 800000 in
theorem rmay_any (v : Value) (x : DirV) (r : Bool) (w : World) (hr : r = true ↔ MayR x) (hx : DirIn w v x) (hs : ∀ f ∈ x.files, (f.name.size : Int) ≤ 9223372036854775807) (hsum : (allPcs x.files).length ≤ 1000000) :
    Calls Tryz.prog 79 #[v] w fun e w' => e = .returned (.bool r) ∧ Below w.heap.size w w' := by
  obtain ⟨fv, rfl, hf⟩ := hx.lies
  obtain ⟨gen, l⟩ := x
  have HR : Hid (r = true ↔ MayR ⟨gen, l⟩) := hr
  have HNO : Hid (¬ MayR ⟨gen, l⟩ → r = false) := fun h => by cases r with | false => rfl | true => exact absurd (HR.out.1 rfl) h
  have hgw := hx.wf
  unfold wf64 at hgw
  have HX : Hid (DirIn w (.agg #[.int .i64 gen, fv]) ⟨gen, l⟩) := hx
  have HF : Hid (FIn w fv l) := hf
  obtain ⟨q, c, rfl, hq, hlc, hcm, hqn⟩ := hf.lies
  have hwf := hf.wf
  unfold maxLen at hcm
  simp only at hs hsum hlc hgw ⊢
  have HQ : Hid (FilesIn w q l) := hq
  have HWF : Hid (∀ f ∈ l, wf64 f.size) := hwf
  have HSZ : Hid (∀ f ∈ l, (f.name.size : Int) ≤ 9223372036854775807) := hs
  clear hq hqn hf hx hwf hs hr
  by_cases h1 : 1 ≤ gen ∧ gen < 4611686018427387904
  · have hpc := rpieces_any _ ⟨gen, l⟩ (w.alloc (.cells #[.int .i64 gen, .slice q l.length c] 31)) (HX.out.below (below_alloc w _)) hsum
    go_enter Tryz.func79, Tryz.ntmps79
    go_wp2_with fail
    refine hpc.mono ?_
    rintro e w1 ⟨r1, rfl, ho1, hb1⟩
    have hs1 := hb1.size
    simp at hs1
    have HWP : Hid (Wf (allPcs l)) := HF.out.wfp
    have hck := Rm.rcheck_any 4096 r1 (allPcs l) w1 (ho1.pin HWP.out)
    clear hpc
    go_wp2_with fail
    refine hck.mono ?_
    rintro e w2 ⟨rfl, hb2⟩
    have hs2 := hb2.size
    have hbel2 : Below (w.heap.size + 1) (w.alloc (.cells #[.int .i64 gen, .slice q l.length c] 31)) w2 := (hb1.mono (by simp)).trans (hb2.mono (by omega))
    have HB2 : Hid (Below w.heap.size w w2) := box_below hbel2
    have HO2 : Hid (POwn w2 (w.alloc (.cells #[.int .i64 gen, .slice q l.length c] 31)).heap.size r1 (allPcs l)) := ho1.below hb2
    obtain ⟨q1, m1, rfl, hm1, hm2, _⟩ := ho1.form
    clear hck hb1 hb2 ho1
    unfold maxLen at hm2
    by_cases h3 : errK 4096 (allPcs l) = 0
    · have HK : Hid (errK 4096 (allPcs l) = 0) := h3
      rw [h3]
      clear h3
      go_wp2
      go_loop [4] (fun i => ∃ k : Nat, k ≤ (allPcs l).length ∧ i = .int .i64 k ∧ ∀ j, j < k → 80 ≤ ((allPcs l).getD j (0, 0)).1) (fun i => (allPcs l).length - (intOf i).toNat)
      case atStart => exact ⟨0, by omega, rfl, fun j hj => absurd hj (by omega)⟩
      case round =>
        obtain ⟨k, hk, rfl, hlo⟩ := hrel
        have HLO : Hid (∀ j, j < k → 80 ≤ ((allPcs l).getD j (0, 0)).1) := hlo
        clear hlo
        by_cases hkl : k < (allPcs l).length
        · have hpq := POwn.pcs HO2.out
          obtain ⟨b, o, rfl⟩ := hpq.addr (by omega)
          obtain ⟨e1, _⟩ := hpq.at hkl
          have hwk := (HWP.out.at hkl).1
          have HST : Hid (80 ≤ ((allPcs l).getD k (0, 0)).1 → ∀ j, j < k + 1 → 80 ≤ ((allPcs l).getD j (0, 0)).1) := eqlK_step HLO.out
          have HN2 : Hid (¬ 80 ≤ ((allPcs l).getD k (0, 0)).1 → r = false) := fun h => HNO.out fun hm => h (by
            obtain ⟨f, hf, hp⟩ := List.mem_flatMap.1 (getD_mem' (d := (0, 0)) hkl)
            exact (hm.each f hf).2.2.2.1 _ hp)
          clear HLO hpq
          generalize (allPcs l).getD k (0, 0) = y at *
          obtain ⟨a, n⟩ := y
          simp only at e1 hwk
          by_cases g : 80 ≤ a
          · have H3 : Hid _ := HST.out g
            clear HST HN2
            go_wp2
            go_round
            case rel => exact ⟨k + 1, by omega, by go_num, H3.out⟩
            case measure => simp [intOf]; omega
          · have H3 : Hid (r = false) := HN2.out g
            clear HST HN2
            go_wp2
            go_ret
            exact ⟨by rw [H3.out]; rfl, HB2.out⟩
        · obtain rfl : k = (allPcs l).length := by omega
          have HALL : Hid (∀ p ∈ allPcs l, 80 ≤ p.1) := by
            intro p hp
            obtain ⟨i, hi, rfl⟩ := List.getElem_of_mem hp
            have := HLO.out i hi
            rwa [getD_eq hi] at this
          clear HLO
          go_wp2
          go_loopw [5] (fun i wr => ∃ k : Nat, k ≤ l.length ∧ i = .int .i64 k ∧ (∀ j, j < k → FOk2 l j) ∧ Below (w.heap.size + 1) (w.alloc (.cells #[.int .i64 gen, .slice q l.length c] 31)) wr) (fun i _ => l.length - (intOf i).toNat)
          case atStart => exact ⟨0, by omega, rfl, fun j hj => absurd hj (by omega), hbel2⟩
          case round =>
            clear hbel2 HB2 HO2
            obtain ⟨k, hk, rfl, hok, hbel⟩ := hrel
            have HOK : Hid (∀ j, j < k → FOk2 l j) := hok
            clear hok
            have hsz := hbel.size
            simp at hsz
            have hbw : Below w.heap.size w wr := box_below hbel
            have HBW : Hid (Below w.heap.size w wr) := hbw
            obtain ⟨d0, d1⟩ := box2 hbel
            by_cases hkl : k < l.length
            · obtain ⟨b, o, rfl⟩ := HQ.out.addr (by omega)
              obtain ⟨e0, e1, pv, e2, hp⟩ := (HQ.out.below hbw).at hkl
              have hwfk := HWF.out _ (getD_mem' (d := zeroF) hkl)
              have hszk := HSZ.out _ (getD_mem' (d := zeroF) hkl)
              have HPI : Hid (PIn wr pv (l.getD k zeroF).pcs) := hp
              obtain ⟨qp, cp, rfl, _⟩ := hp.lies
              have hgood := (errK_zero HK.out).2.2
              have HPK : Hid (errK 4096 (l.getD k zeroF).pcs = 0) := by
                refine errK_ok (by omega) ?_ ⟨fun p hp => hgood.wn p (mem_allPcs (getD_mem' hkl) hp), ?_⟩
                · have h1 := len_allPcs (getD_mem' (d := zeroF) hkl); have h2 := (errK_zero HK.out).2.1; omega
                · have hsub : List.Sublist (l.getD k zeroF).pcs (allPcs l) := by
                    unfold allPcs
                    rw [List.flatMap_def]
                    exact List.sublist_flatten_of_mem (List.mem_map_of_mem (getD_mem' hkl))
                  exact hgood.apart.sublist hsub
              have HYES : Hid (FOk2 l k → ∀ j, j < k + 1 → FOk2 l j) := FOk2.step HOK.out
              have HN1 : Hid (¬ FOk2 l k → r = false) := fun h => HNO.out fun hm => h (mayR_ok2 hm hkl)
              have hprev : 0 < k → wr.cell? ⟨b, o + (k - 1) * 3, none⟩ = some (.string (l.getD (k - 1) zeroF).name) := fun _ => ((HQ.out.below hbw).at (k := k - 1) (by omega)).1
              have HDEF : Hid (FOk2 l k ↔ (isNameN (l.getD k zeroF).name = true ∧ (0 < k → ltS (l.getD (k - 1) zeroF).name (l.getD k zeroF).name) ∧ 0 ≤ (l.getD k zeroF).size ∧ (l.getD k zeroF).size ≤ 524288) ∧ sumC (l.getD k zeroF).pcs = needsN (l.getD k zeroF).size) := Iff.rfl
              clear HOK hp hgood hbw
              unfold wf64 at hwfk
              generalize l.getD k zeroF = y at *
              generalize l.getD (k - 1) zeroF = z at *
              obtain ⟨nm, sz, pl⟩ := y
              obtain ⟨nm0, sz0, pl0⟩ := z
              simp only at e0 e1 e2 hwfk hszk hprev
              have d1' : (wr.alloc (.cells #[.string nm, .int .i64 sz, .slice qp pl.length cp] 51)).cell? ⟨w.heap.size, 1, none⟩ = some (.slice (some ⟨b, o, none⟩) l.length c) := by rw [World.cell?_alloc_lt _ _ _ (by simp; omega)]; exact d1
              have hgeq := str_geq
              have hpin2 := HPI.out.below (below_alloc wr (.cells #[.string nm, .int .i64 sz, .slice qp pl.length cp] 51))
              have HP2 : Hid _ := hpin2
              clear hpin2 d0
              rcases k with _ | k
              · simp only [Nat.zero_mul, Nat.add_zero] at e0 e1 e2
                clear hprev
                cases hnm : isNameN nm with
                | false =>
                  have H3 : Hid (r = false) := HN1.out (fun h => by rw [(HDEF.out.1 h).1.1] at hnm; cases hnm)
                  clear HN1 HYES HDEF
                  go_wp2
                  go_quiet (first | (go_at_call 85; refine Calls.quiet_of_same (risName_r nm false hnm _ hszk)))
                  go_wp2
                  go_ret
                  exact ⟨by rw [H3.out]; rfl, below_drewN (HBW.out.alloc HBW.out.size _) _⟩
                | true =>
                  by_cases g1 : 0 ≤ sz
                  · by_cases g2 : sz ≤ 524288
                    · have hmn := Rm.rmany_any (.slice qp pl.length cp) pl
                      have q1 : decide (sz < 0) = false := by simp; omega
                      have q2 : decide ((524288 : Int) < sz) = false := by simp; omega
                      have HMN : Hid (manyN pl = sumC pl) := by show _ = _; unfold manyN; rw [if_pos HPK.out, sum_eq]
                      generalize hSS : sumC pl = SS at *
                      by_cases g3 : SS = needsN sz
                      · have HY : Hid (∀ j, j < 0 + 1 → FOk2 l j) := HYES.out (HDEF.out.2 ⟨⟨hnm, fun h => absurd h (by omega), g1, g2⟩, g3⟩)
                        have hne : (SS != needsN sz) = false := by simp [g3]
                        clear HYES HN1 HDEF g3
                        generalize hnn : needsN sz = nn at *
                        go_wp2
                        go_quiet (first | (go_at_call 85; refine Calls.quiet_of_same (risName_r nm true hnm _ hszk)))
                        go_wp2_with fail
                        refine (hmn _ (PIn.below HP2.out (below_drewN (Below.refl _ _) _))).mono ?_
                        rintro e w3 ⟨rfl, hb3⟩
                        have hb3' : Below (wr.heap.size + 1) (wr.alloc (.cells #[.string nm, .int .i64 sz, .slice qp pl.length cp] 51)) w3 := (below_drewN (Below.refl _ _) _).trans (hb3.mono (by simp [World.drewN]))
                        obtain ⟨x0, x1, x2⟩ := box3 hb3'
                        have HB3 : Hid (Below wr.heap.size wr w3) := box_below hb3'
                        have hs3 := HB3.out.size
                        rw [HMN.out]
                        clear hb3 hb3' hmn
                        go_wp2_with (go_at_call 52; refine (rneeds_any sz _ (by omega)).mono ?_; rintro e w4 ⟨rfl, rfl⟩; rw [hnn])
                        go_roundw
                        case rel => exact ⟨0 + 1, by omega, by go_num, HY.out, hbel.trans (HB3.out.mono hsz)⟩
                        case measure => simp [intOf]; omega
                      · have H3 : Hid (r = false) := HN1.out (fun h => g3 (HDEF.out.1 h).2)
                        have hne : (SS != needsN sz) = true := by simpa using g3
                        clear HYES HN1 HDEF g3
                        generalize hnn : needsN sz = nn at *
                        go_wp2
                        go_quiet (first | (go_at_call 85; refine Calls.quiet_of_same (risName_r nm true hnm _ hszk)))
                        go_wp2_with fail
                        refine (hmn _ (PIn.below HP2.out (below_drewN (Below.refl _ _) _))).mono ?_
                        rintro e w3 ⟨rfl, hb3⟩
                        have hb3' : Below (wr.heap.size + 1) (wr.alloc (.cells #[.string nm, .int .i64 sz, .slice qp pl.length cp] 51)) w3 := (below_drewN (Below.refl _ _) _).trans (hb3.mono (by simp [World.drewN]))
                        obtain ⟨x0, x1, x2⟩ := box3 hb3'
                        have HB3 : Hid (Below wr.heap.size wr w3) := box_below hb3'
                        have hs3 := HB3.out.size
                        rw [HMN.out]
                        clear hb3 hb3' hmn
                        go_wp2_with (go_at_call 52; refine (rneeds_any sz _ (by omega)).mono ?_; rintro e w4 ⟨rfl, rfl⟩; rw [hnn])
                        go_ret
                        exact ⟨by rw [H3.out]; rfl, HBW.out.trans (HB3.out.mono HBW.out.size)⟩
                    · have H3 : Hid (r = false) := HN1.out (fun h => g2 (HDEF.out.1 h).1.2.2.2)
                      have q1 : decide (sz < 0) = false := by simp; omega
                      have q2 : decide ((524288 : Int) < sz) = true := by simp; omega
                      clear HN1 HYES HDEF
                      go_wp2
                      go_quiet (first | (go_at_call 85; refine Calls.quiet_of_same (risName_r nm true hnm _ hszk)))
                      go_wp2
                      go_ret
                      exact ⟨by rw [H3.out]; rfl, below_drewN (HBW.out.alloc HBW.out.size _) _⟩
                  · have H3 : Hid (r = false) := HN1.out (fun h => g1 (HDEF.out.1 h).1.2.2.1)
                    have q1 : decide (sz < 0) = true := by simp; omega
                    clear HN1 HYES HDEF
                    go_wp2
                    go_quiet (first | (go_at_call 85; refine Calls.quiet_of_same (risName_r nm true hnm _ hszk)))
                    go_wp2
                    go_ret
                    exact ⟨by rw [H3.out]; rfl, below_drewN (HBW.out.alloc HBW.out.size _) _⟩
              · have hp0 := hprev (by omega)
                simp only [Nat.add_sub_cancel] at hp0 HDEF
                have hp0' : (wr.alloc (.cells #[.string nm, .int .i64 sz, .slice qp pl.length cp] 51)).cell? ⟨b, o + k * 3, none⟩ = some (.string nm0) := by rw [World.cell?_alloc_lt _ _ _ (World.block_lt_of_cell? _ _ hp0)]; exact hp0
                clear hprev
                cases hnm : isNameN nm with
                | false =>
                  have H3 : Hid (r = false) := HN1.out (fun h => by rw [(HDEF.out.1 h).1.1] at hnm; cases hnm)
                  clear HN1 HYES HDEF
                  go_wp2
                  go_quiet (first | (go_at_call 85; refine Calls.quiet_of_same (risName_r nm false hnm _ hszk)))
                  go_wp2
                  go_ret
                  exact ⟨by rw [H3.out]; rfl, below_drewN (HBW.out.alloc HBW.out.size _) _⟩
                | true =>
                  by_cases g : ltS nm0 nm
                  · have HLT : Hid (ltS nm0 nm) := g
                    unfold ltS at g
                    by_cases g1 : 0 ≤ sz
                    · by_cases g2 : sz ≤ 524288
                      · have hmn := Rm.rmany_any (.slice qp pl.length cp) pl
                        have q1 : decide (sz < 0) = false := by simp; omega
                        have q2 : decide ((524288 : Int) < sz) = false := by simp; omega
                        have HMN : Hid (manyN pl = sumC pl) := by show _ = _; unfold manyN; rw [if_pos HPK.out, sum_eq]
                        generalize hSS : sumC pl = SS at *
                        by_cases g3 : SS = needsN sz
                        · have HY : Hid (∀ j, j < k + 1 + 1 → FOk2 l j) := HYES.out (HDEF.out.2 ⟨⟨hnm, fun _ => HLT.out, g1, g2⟩, g3⟩)
                          have hne : (SS != needsN sz) = false := by simp [g3]
                          clear HYES HN1 HDEF g3
                          generalize hnn : needsN sz = nn at *
                          go_wp2
                          go_quiet (first | (go_at_call 85; refine Calls.quiet_of_same (risName_r nm true hnm _ hszk)))
                          go_wp2_with fail
                          refine (hmn _ (PIn.below HP2.out (below_drewN (Below.refl _ _) _))).mono ?_
                          rintro e w3 ⟨rfl, hb3⟩
                          have hb3' : Below (wr.heap.size + 1) (wr.alloc (.cells #[.string nm, .int .i64 sz, .slice qp pl.length cp] 51)) w3 := (below_drewN (Below.refl _ _) _).trans (hb3.mono (by simp [World.drewN]))
                          obtain ⟨x0, x1, x2⟩ := box3 hb3'
                          have HB3 : Hid (Below wr.heap.size wr w3) := box_below hb3'
                          have hs3 := HB3.out.size
                          rw [HMN.out]
                          clear hb3 hb3' hmn
                          go_wp2_with (go_at_call 52; refine (rneeds_any sz _ (by omega)).mono ?_; rintro e w4 ⟨rfl, rfl⟩; rw [hnn])
                          go_roundw
                          case rel => exact ⟨k + 1 + 1, by omega, by go_num, HY.out, hbel.trans (HB3.out.mono hsz)⟩
                          case measure => simp [intOf]; omega
                        · have H3 : Hid (r = false) := HN1.out (fun h => g3 (HDEF.out.1 h).2)
                          have hne : (SS != needsN sz) = true := by simpa using g3
                          clear HYES HN1 HDEF g3
                          generalize hnn : needsN sz = nn at *
                          go_wp2
                          go_quiet (first | (go_at_call 85; refine Calls.quiet_of_same (risName_r nm true hnm _ hszk)))
                          go_wp2_with fail
                          refine (hmn _ (PIn.below HP2.out (below_drewN (Below.refl _ _) _))).mono ?_
                          rintro e w3 ⟨rfl, hb3⟩
                          have hb3' : Below (wr.heap.size + 1) (wr.alloc (.cells #[.string nm, .int .i64 sz, .slice qp pl.length cp] 51)) w3 := (below_drewN (Below.refl _ _) _).trans (hb3.mono (by simp [World.drewN]))
                          obtain ⟨x0, x1, x2⟩ := box3 hb3'
                          have HB3 : Hid (Below wr.heap.size wr w3) := box_below hb3'
                          have hs3 := HB3.out.size
                          rw [HMN.out]
                          clear hb3 hb3' hmn
                          go_wp2_with (go_at_call 52; refine (rneeds_any sz _ (by omega)).mono ?_; rintro e w4 ⟨rfl, rfl⟩; rw [hnn])
                          go_ret
                          exact ⟨by rw [H3.out]; rfl, HBW.out.trans (HB3.out.mono HBW.out.size)⟩
                      · have H3 : Hid (r = false) := HN1.out (fun h => g2 (HDEF.out.1 h).1.2.2.2)
                        have q1 : decide (sz < 0) = false := by simp; omega
                        have q2 : decide ((524288 : Int) < sz) = true := by simp; omega
                        clear HN1 HYES HDEF
                        go_wp2
                        go_quiet (first | (go_at_call 85; refine Calls.quiet_of_same (risName_r nm true hnm _ hszk)))
                        go_wp2
                        go_ret
                        exact ⟨by rw [H3.out]; rfl, below_drewN (HBW.out.alloc HBW.out.size _) _⟩
                    · have H3 : Hid (r = false) := HN1.out (fun h => g1 (HDEF.out.1 h).1.2.2.1)
                      have q1 : decide (sz < 0) = true := by simp; omega
                      clear HN1 HYES HDEF
                      go_wp2
                      go_quiet (first | (go_at_call 85; refine Calls.quiet_of_same (risName_r nm true hnm _ hszk)))
                      go_wp2
                      go_ret
                      exact ⟨by rw [H3.out]; rfl, below_drewN (HBW.out.alloc HBW.out.size _) _⟩
                  · have HLT : Hid (¬ ltS nm0 nm) := g
                    unfold ltS at g
                    simp only [Bool.not_eq_true] at g
                    have H3 : Hid (r = false) := HN1.out (fun h => HLT.out ((HDEF.out.1 h).1.2.1 (by omega)))
                    clear HN1 HYES HDEF
                    go_wp2
                    go_quiet (first | (go_at_call 85; refine Calls.quiet_of_same (risName_r nm true hnm _ hszk)))
                    go_wp2
                    go_ret
                    exact ⟨by rw [H3.out]; rfl, below_drewN (HBW.out.alloc HBW.out.size _) _⟩
            · obtain rfl : k = l.length := by omega
              have HM : Hid (r = true) := HR.out.2 (mayR_of h1.1 h1.2 HK.out HALL.out HOK.out)
              clear HOK
              go_wp2
              go_ret
              exact ⟨by rw [HM.out]; rfl, HBW.out⟩
    · have hne : (errK 4096 (allPcs l) != 0) = true := by simpa using h3
      have H3 : Hid (r = false) := HNO.out fun h => h3 h.pcs
      generalize errK 4096 (allPcs l) = E at *
      clear h3
      go_wp2
      go_ret
      exact ⟨by rw [H3.out]; rfl, HB2.out⟩
  · have H3 : Hid (r = false) := HNO.out fun h => h1 ⟨h.lo, h.hi⟩
    go_enter Tryz.func79, Tryz.ntmps79
    go_wp2
    all_goals
      go_ret
      exact ⟨by rw [H3.out]; rfl, below_alloc _ _⟩
end Go.Proofs.YtglcpfnpbcnejaaGreatDoor
namespace Go.Proofs.YtglcpfnpbcnejaaGreatDoor
open Go.RowKit Go.WideShapes Rm

set_option maxRecDepth 4000 in
set_option maxHeartbeats 4000000 in
theorem inside_any (v : Value) (l : List FileV) (w : World) (hf : FIn w v l) (ht : Told l) :
    Calls Tryz.prog 64 #[v] w fun e w' => ∃ r, e = .returned r ∧ w'.ownsRow w.heap.size 5 1 r (insideN l).length (Bs (insideN l)) ∧ Below w.heap.size w w' := by
  obtain ⟨q, c, rfl, hq, hlc, hcm, hqn⟩ := hf.lies
  have hmany := ht.many
  have HT : Hid (Told l) := ht
  have HQ : Hid (FilesIn w q l) := hq
  unfold maxLen at hcm
  clear hf hq hqn ht
  have hlen0 := smallN_ten l.length (by omega)
  go_enter Tryz.func64, Tryz.ntmps64
  go_wp2_with fail
  refine (small4_any l.length w (by omega)).mono ?_
  rintro e w0 ⟨v0, rfl, ho0, hb0⟩
  rw [Int.toNat_natCast] at ho0
  have S0 : St w [] w0 v0 (smallN l.length) := ⟨ho0, hb0, fun p hp => by simp at hp⟩
  clear ho0 hb0
  go_wp2
  go_loopw [3, 13] (fun m i wr => ∃ k : Nat, k ≤ l.length ∧ i = .int .i64 k ∧ St w [] wr m (smallN l.length ++ (l.take k).flatMap fileN)) (fun _ i _ => l.length - (intOf i).toNat)
  case atStart => exact ⟨0, by omega, rfl, by simpa using S0⟩
  case round =>
    obtain ⟨k, hk, rfl, hst⟩ := hrel
    clear S0
    have HS : Hid _ := hst
    by_cases hkl : k < l.length
    · obtain ⟨b, o, rfl⟩ := HQ.out.addr (by omega)
      have hat := HQ.out.at hkl
      obtain ⟨e0, e1, pv, e2, hp⟩ := hat
      have f0 := (hst.bel.cell (World.block_lt_of_cell? _ _ e0)).trans e0
      have f1 := (hst.bel.cell (World.block_lt_of_cell? _ _ e1)).trans e1
      have f2 := (hst.bel.cell (World.block_lt_of_cell? _ _ e2)).trans e2
      obtain ⟨qp, cp, rfl, hqp, hlc2, hcm2, _⟩ := hp.lies
      have hmem : l.getD k zeroF ∈ l := getD_mem' hkl
      have h32 := HT.out.name _ hmem
      have hsz := HT.out.size _ hmem
      have hpl := HT.out.pcs _ hmem
      have HPC : Hid _ := HT.out.piece _ hmem
      have HPT : Hid _ := pcs_take_len HT.out hmem
      have hfl := files_take_len HT.out k
      have HFF : Hid _ := files_flat hkl
      have HFN : Hid (fileN (l.getD k zeroF) = textN (l.getD k zeroF).name ++ smallN (l.getD k zeroF).size.toNat ++ smallN (l.getD k zeroF).pcs.length ++ (l.getD k zeroF).pcs.flatMap pieceN) := rfl
      have HP : Hid (PcsIn w qp (l.getD k zeroF).pcs) := hqp
      clear hp hqp hmem e0 e1 e2
      generalize hy : l.getD k zeroF = y at *
      obtain ⟨nm, sz, pl⟩ := y
      simp only at f0 f1 f2 h32 hsz hpl hlc2
      have hal := hst.alloc #[.string nm, .int .i64 sz, .slice qp pl.length cp] 51 (by decide)
      have HA : Hid (St w [(wr.heap.size, #[.string nm, .int .i64 sz, .slice qp pl.length cp], 51)] (wr.alloc (.cells #[.string nm, .int .i64 sz, .slice qp pl.length cp] 51)) _ (smallN l.length ++ (l.take k).flatMap fileN)) := hal
      clear hal hst HS
      have htx := textN_len nm (by omega)
      have hss := smallN_ten sz.toNat (by omega)
      have hsp := smallN_ten pl.length (by omega)
      unfold maxLen at hcm2
      go_wp2_with fail
      refine (text_any nm _ (by omega)).mono ?_
      rintro e w1a ⟨v1a, rfl, ho1, hb1⟩
      have S1a := HA.out.call hb1
      obtain ⟨q1, m1, rfl, _, _, hn1⟩ := own_form ho1
      have hi1 := own_in ho1 (textN_bytes nm)
      have HS1a : Hid _ := S1a
      have HI1 : Hid _ := hi1
      have hsz1 := S1a.size
      clear S1a hi1 ho1 hb1 HA
      go_wp2_with (at_builtin; refine wpList_append_bytes _ rfl _ _ rfl w.heap.size _ _ (textN nm) q1 _ m1 rfl rfl rfl HS1a.out.own HI1.out hn1 (by simp only [List.length_append]; omega) hsz1 ?_; intro v1b w1b ho1b hg1b; have S1b := HS1a.out.app ho1b hg1b; have c11 : w1b.cell? ⟨wr.heap.size, 1, none⟩ = some (.int .i64 sz) := S1b.cell List.mem_cons_self 1; have c12 : w1b.cell? ⟨wr.heap.size, 2, none⟩ = some (.slice qp pl.length cp) := S1b.cell List.mem_cons_self 2)
      have H1 : Hid _ := S1b
      clear S1b HS1a HI1 ho1b hg1b
      go_wp2_with fail
      refine (small4_any sz _ (by omega)).mono ?_
      rintro e w2a ⟨v2a, rfl, ho2, hb2⟩
      have S2a := H1.out.call hb2
      obtain ⟨q2, m2, rfl, _, _, hn2⟩ := own_form ho2
      have hi2 := own_in ho2 (smallN_bytes _)
      have HS2a : Hid _ := S2a
      have HI2 : Hid _ := hi2
      have hsz2 := S2a.size
      clear S2a hi2 ho2 hb2 H1
      go_wp2_with (at_builtin; refine wpList_append_bytes _ rfl _ _ rfl w.heap.size _ _ (smallN sz.toNat) q2 _ m2 rfl rfl rfl HS2a.out.own HI2.out hn2 (by simp only [List.length_append]; omega) hsz2 ?_; intro v2b w2b ho2b hg2b; have S2b := HS2a.out.app ho2b hg2b; have c22 : w2b.cell? ⟨wr.heap.size, 2, none⟩ = some (.slice qp pl.length cp) := S2b.cell List.mem_cons_self 2)
      have H2 : Hid _ := S2b
      clear S2b HS2a HI2 ho2b hg2b c11 c12
      go_wp2_with fail
      refine (small4_any pl.length _ (by omega)).mono ?_
      rintro e w3a ⟨v3a, rfl, ho3, hb3⟩
      have S3a := H2.out.call hb3
      obtain ⟨q3, m3, rfl, _, _, hn3⟩ := own_form ho3
      have hi3 := own_in ho3 (smallN_bytes _)
      have HS3a : Hid _ := S3a
      have HI3 : Hid _ := hi3
      have hsz3 := S3a.size
      clear S3a hi3 ho3 hb3 H2
      go_wp2_with (at_builtin; refine wpList_append_bytes _ rfl _ _ rfl w.heap.size _ _ (smallN pl.length) q3 _ m3 rfl rfl rfl HS3a.out.own HI3.out hn3 (by simp only [List.length_append]; omega) hsz3 ?_; intro v3b w3b ho3b hg3b; have S3b := HS3a.out.app ho3b hg3b; have c32 : w3b.cell? ⟨wr.heap.size, 2, none⟩ = some (.slice qp pl.length cp) := S3b.cell List.mem_cons_self 2)
      have H3 : Hid (St w [(wr.heap.size, #[.string nm, .int .i64 sz, .slice qp pl.length cp], 51)] w3b v3b (smallN l.length ++ (l.take k).flatMap fileN ++ textN nm ++ smallN sz.toNat ++ smallN pl.length)) := S3b
      clear S3b HS3a HI3 ho3b hg3b c22
      generalize hX : smallN l.length ++ (l.take k).flatMap fileN ++ textN nm ++ smallN sz.toNat ++ smallN pl.length = X at *
      have hXl : X.length ≤ 7000000 := by rw [← hX]; simp only [List.length_append]; omega
      go_wp2
      go_loopw [3, 36] (fun m i wn => ∃ j : Nat, j ≤ pl.length ∧ i = .int .i64 j ∧ St w [(wr.heap.size, #[.string nm, .int .i64 sz, .slice qp pl.length cp], 51)] wn m (X ++ (pl.take j).flatMap pieceN)) (fun _ i _ => pl.length - (intOf i).toNat)
      case atStart => exact ⟨0, by omega, rfl, by simpa using H3.out⟩
      case round =>
        obtain ⟨j, hj, rfl, hst⟩ := hrel
        clear H3
        have HS : Hid _ := hst
        by_cases hjl : j < pl.length
        · obtain ⟨bp, op, rfl⟩ := HP.out.addr (by omega)
          obtain ⟨e1, e2⟩ := (HP.out.below hst.bel).at hjl
          have hpt := HPT.out j
          have hpc := HPC.out _ (getD_mem' (d := (0, 0)) hjl)
          have HPF : Hid _ := pcs_flat hjl
          generalize pl.getD j (0, 0) = z at *
          obtain ⟨a, n⟩ := z
          simp only at e1 e2 hpc
          have hal := hst.alloc #[.int .i64 a, .int .i64 n] 53 (by decide)
          have HA : Hid _ := hal
          clear hal hst HS
          have hsa := smallN_ten a.toNat (by omega)
          have hsn := smallN_ten n.toNat (by omega)
          go_wp2_with fail
          refine (small4_any a _ (by omega)).mono ?_
          rintro e w4a ⟨v4a, rfl, ho4, hb4⟩
          have S4a := HA.out.call hb4
          obtain ⟨q4, m4, rfl, _, _, hn4⟩ := own_form ho4
          have hi4 := own_in ho4 (smallN_bytes _)
          have HS4a : Hid _ := S4a
          have HI4 : Hid _ := hi4
          have hsz4 := S4a.size
          clear S4a hi4 ho4 hb4 HA
          go_wp2_with (at_builtin; refine wpList_append_bytes _ rfl _ _ rfl w.heap.size _ _ (smallN a.toNat) q4 _ m4 rfl rfl rfl HS4a.out.own HI4.out hn4 (by simp only [List.length_append]; omega) hsz4 ?_; intro v4b w4b ho4b hg4b; have S4b := HS4a.out.app ho4b hg4b; have c41 : w4b.cell? ⟨wr.heap.size, 1, none⟩ = some (.int .i64 n) := S4b.cell List.mem_cons_self 1)
          have H4 : Hid _ := S4b
          clear S4b HS4a HI4 ho4b hg4b
          go_wp2_with fail
          refine (small4_any n _ (by omega)).mono ?_
          rintro e w5a ⟨v5a, rfl, ho5, hb5⟩
          have S5a := H4.out.call hb5
          obtain ⟨q5, m5, rfl, _, _, hn5⟩ := own_form ho5
          have hi5 := own_in ho5 (smallN_bytes _)
          have HS5a : Hid _ := S5a
          have HI5 : Hid _ := hi5
          have hsz5 := S5a.size
          clear S5a hi5 ho5 hb5 H4
          go_wp2_with (at_builtin; refine wpList_append_bytes _ rfl _ _ rfl w.heap.size _ _ (smallN n.toNat) q5 _ m5 rfl rfl rfl HS5a.out.own HI5.out hn5 (by simp only [List.length_append]; omega) hsz5 ?_; intro v5b w5b ho5b hg5b; have S5b := HS5a.out.app ho5b hg5b)
          have H5 : Hid _ := S5b.drop
          clear S5b HS5a HI5 ho5b hg5b c41
          go_roundw
          case rel => exact ⟨j + 1, by omega, by go_num, H5.out.eq (by rw [HPF.out]; unfold pieceN; simp only [List.append_assoc])⟩
          case measure => simp [intOf]; omega
        · obtain rfl : j = pl.length := by omega
          rw [List.take_length] at HS
          clear hst
          go_wp2
          refine ⟨⟨k + 1, by omega, by go_num, HS.out.drop.eq ?_⟩, by simp [intOf]; omega⟩
          rw [HFF.out, HFN.out, ← hX]
          simp only [List.append_assoc]
    · obtain rfl : k = l.length := by omega
      rw [List.take_length] at HS
      clear hst
      go_wp2
      go_ret
      exact ⟨_, rfl, HS.out.own, HS.out.bel⟩
end Go.Proofs.YtglcpfnpbcnejaaGreatDoor
namespace Go.Proofs.YtglcpfnpbcnejaaGreatDoor
open Go.RowKit Go.WideShapes Rm

theorem zeros_made4 (n : Nat) : (madeCells #[Value.int .u8 0] n).toList = Bs (List.replicate n 0) := by
  rw [toList_madeCells_one]
  simp [Bs]
theorem size5 : (Tryz.prog.info? 5).map (·.size) = some 1 := by kernel_rfl
theorem bin_row4 {w : World} {g t : Nat} {xs : List Nat} (h : w.heap[g]? = some (.cells (Bs xs).toArray t (0, 0))) (hx : ∀ c ∈ xs, c < 256) : BIn w (some ⟨g, 0, none⟩) xs := by
  refine ⟨fun _ => ⟨g, 0, rfl, fun i hi => ?_⟩, hx⟩
  rw [Nat.zero_add, cell_of_row w g i _ _ _ h]
  simp [Bs, List.getD, List.getElem?_eq_getElem hi]
theorem bin_part4 {w : World} {g o : Nat} {xs : List Nat} (h : BIn w (some ⟨g, o, none⟩) xs) (a n : Nat) (hl : a + n ≤ xs.length) : BIn w (some ⟨g, o + a, none⟩) ((xs.drop a).take n) := by
  refine ⟨fun hp => ⟨g, o + a, rfl, fun i hi => ?_⟩, fun c hc => h.2 c (List.mem_of_mem_drop (List.mem_of_mem_take hc))⟩
  have hn : i < n := by simp at hi; omega
  obtain ⟨b', o', e, hc⟩ := h.1 (by omega)
  simp only [Option.some.injEq, Addr.mk.injEq, and_true] at e
  obtain ⟨rfl, rfl⟩ := e
  rw [Nat.add_assoc, hc (a + i) (by omega)]
  simp [List.getD, hn]
theorem put_in (n : Nat) (w : World) (hn : n < 18446744073709551616) : Calls Tryz.prog 99 #[.int .u64 n] w fun e w' => ∃ g, e = .returned (.slice (some ⟨g, 0, none⟩) 8 8) ∧ BIn w' (some ⟨g, 0, none⟩) (putN n) ∧ Below w.heap.size w w' := by
  refine (put_any n w hn).mono ?_
  rintro e w' ⟨w1, rfl, rfl, hb⟩
  exact ⟨_, rfl, bin_lit _ _ _ _ _ _ rfl rfl (putN_bytes n hn), hb.alloc hb.size _⟩
theorem own_mono {w : World} {base base' n s : Nat} {e : TypeId} {v : Value} {xs : List Value} (h : w.ownsRow base e s v n xs) (hb : base' ≤ base) : w.ownsRow base' e s v n xs := by
  refine ⟨h.1, ?_⟩
  rcases h.2 with h' | ⟨g, cap, cur, h1, h2, h3⟩
  · exact .inl h'
  · exact .inr ⟨g, cap, cur, h1, Nat.le_trans hb h2, h3⟩
theorem pad_splice (xs : List Nat) : splice (Bs (List.replicate 952 0)) 0 (Bs xs) = Bs (padN xs) := by
  unfold splice padN
  rw [Bs_app, Bs_len]
  simp only [List.take_zero, List.nil_append, Nat.zero_add]
  congr 1
  unfold Bs
  rw [← List.map_drop, List.drop_replicate]
theorem pad_bytes {xs : List Nat} (h : ∀ c ∈ xs, c < 256) : ∀ c ∈ padN xs, c < 256 := by
  intro c hc
  unfold padN at hc
  rcases List.mem_append.1 hc with hc | hc
  · exact h c hc
  · have := (List.mem_replicate.1 hc).2; omega
theorem sects_snoc (gen : Nat) (xs : List Nat) (k : Nat) : sectsN gen xs (k + 1) = sectsN gen xs k ++ putN gen ++ [k] ++ (xs.drop (k * 119)).take 119 := by
  unfold sectsN
  rw [List.range_succ, List.flatMap_append]
  simp [sectN]

set_option maxRecDepth 4000 in
set_option maxHeartbeats 2000000 in
theorem parted_any (gen : Nat) (p : Option Addr) (cap : Nat) (xs : List Nat) (w : World) (hg : gen < 4611686018427387904) (hb : BIn w p xs) (hl : xs.length ≤ 952) :
    Calls Tryz.prog 63 #[.int .i64 gen, .slice p xs.length cap] w fun e w' => ∃ r, e = .returned r ∧ w'.ownsRow w.heap.size 5 1 r (sectsN gen (padN xs) 8).length (Bs (sectsN gen (padN xs) 8)) ∧ Below w.heap.size w w' := by
  obtain ⟨i0, hi, hz0, hz1, hz2⟩ := info_parts info5
  have hx := hb.2
  go_enter Tryz.func63, Tryz.ntmps63
  go_wp2_with (at_make; refine wpList_make_full _ rfl _ _ 22 rfl w.heap.size 5 i0 (.int .u8 0) 1 Tryz.underlying22 hi hz0 hz1 .i64 .i64 _ _ 952 rfl rfl rfl rfl (by rw [hz2]; decide) (by decide) (Nat.le_refl _) ?_)
  intro w1 hown hgrow
  have hrow := row_full' hown
  rw [zeros_made4] at hrow
  have hb1 : Below w.heap.size w w1 := (Below.refl _ _).grown hgrow (Nat.le_refl _) (fun k hk => by cases hk)
  have hbb := hb.below hb1
  have HR : Hid (w1.heap[w.heap.size]? = some (.cells (Bs (List.replicate 952 0)).toArray 5 (0, 0))) := hrow
  have HL : Hid ((Bs xs).length = Nat.min xs.length 952) := by show _ = _; rw [Bs_len]; exact (Nat.min_eq_left hl).symm
  have HF : Hid (0 + (Bs xs).length ≤ (Bs (List.replicate 952 0)).length) := by show _ ≤ _; rw [Bs_len, Bs_len, List.length_replicate]; omega
  have HP : Hid (0 < (Bs xs).length → some (⟨w.heap.size, 0, none⟩ : Addr) = some ⟨w.heap.size, 0, none⟩ ∧ ∃ ad, p = some ad ∧ ∀ j v, (Bs xs)[j]? = some v → w1.cell? (ad.add j) = some v) := by
    intro h
    rw [Bs_len] at h
    obtain ⟨b, o, rfl, _⟩ := hbb.1 h
    exact ⟨rfl, _, rfl, bin_cells hbb⟩
  clear hown hgrow hrow hb hbb
  go_wp2_with (refine wpList_copy_splice (o := ⟨some 11, _, _, _, _, _⟩) rfl (.tmp 9) (.tmp 10) 22 22 rfl 5 Tryz.underlying22 size5 (some ⟨w.heap.size, 0, none⟩) p 952 952 xs.length cap rfl rfl w.heap.size 0 (Bs (List.replicate 952 0)) 5 HR.out (Bs xs) HL.out HP.out HF.out (Bs_one xs) w.heap.size w hb1 (Nat.le_refl _) ?_)
  intro w2 hrow2 hb2
  have hr2 : w2.heap[w.heap.size]? = some (.cells (Bs (padN xs)).toArray 5 (0, 0)) := by rw [← pad_splice xs]; exact hrow2.out
  have hpl := pad_len hl
  have hpb := bin_row4 hr2 (pad_bytes hx)
  have hlt := lt_heap hr2
  clear hr2 hrow2 HR HL HF HP hb1
  generalize hys : padN xs = ys at *
  have HB : Hid (BIn w2 (some ⟨w.heap.size, 0, none⟩) ys) := hpb
  have HB2 : Hid (Below w.heap.size w w2) := hb2
  have hsz2 := hb2.size
  clear hpb hb2
  go_wp2
  go_loopw [6, 12] (fun m i wr => ∃ k : Nat, k ≤ 8 ∧ i = .int .i64 k ∧ St w2 [] wr m (sectsN gen ys k)) (fun _ i _ => 8 - (intOf i).toNat)
  case atStart => exact ⟨0, by omega, rfl, St.start (fun p hp => by simp at hp)⟩
  case round =>
    obtain ⟨k, hk, rfl, hst⟩ := hrel
    have HS : Hid _ := hst
    by_cases hkl : k < 8
    · have hlen : (sectsN gen ys k).length ≤ 2000 := by
        unfold sectsN
        have := flat_le (l := List.range k) (f := sectN gen ys) (c := 128) (fun i _ => by unfold sectN; simp [putN_len]; omega)
        simp at this ⊢
        omega
      have HSN : Hid _ := sects_snoc gen ys k
      have hwr : IntKind.u64.wrap (gen : Int) = (gen : Int) := by rw [IntKind.wrap_u64]; omega
      have hwk : IntKind.u8.wrap (k : Int) = (k : Int) := by rw [IntKind.wrap_u8]; omega
      clear hst
      go_wp2_with fail
      refine (put_in gen _ (by omega)).mono ?_
      rintro e w3 ⟨g3, rfl, hi3, hb3⟩
      have S3 := HS.out.call hb3
      have hs3 := S3.size
      have H3 : Hid _ := S3
      have HI3 : Hid _ := hi3
      clear S3 hi3 hb3 HS
      go_wp2_with (first
        | (at_builtin; refine wpList_append_bytes _ rfl _ _ rfl w2.heap.size _ _ (putN gen) (some ⟨g3, 0, none⟩) _ 8 rfl rfl rfl H3.out.own HI3.out (fun h => by cases h) (by simp [putN_len]; omega) hs3 ?_; intro v4 w4 ho4 hg4; have S4 := H3.out.app ho4 hg4; have hs4 := S4.size; have H4 : Hid _ := S4; clear S4 ho4 hg4 H3 HI3)
        | (at_builtin; refine wpList_append_bytes _ rfl _ _ rfl w2.heap.size _ _ [k] (some ⟨w4.heap.size, 0, none⟩) _ 1 rfl rfl rfl (H4.out.call (below_alloc w4 (.cells #[.int .u8 k] 5))).own (bin_lit w4 _ _ _ _ [k] rfl rfl (by simp; omega)) (fun h => by cases h) (by simp [putN_len]; omega) (by simp; omega) ?_; intro v5 w5 ho5 hg5; have S5 := (H4.out.call (below_alloc w4 (.cells #[.int .u8 k] 5))).app ho5 hg5; have hs5 := S5.size; have hbb := bin_part4 (HB.out.below S5.bel) (k * 119) 119 (by omega); rw [Nat.zero_add] at hbb; have HBB : Hid _ := hbb; have H5 : Hid _ := S5; clear hbb S5 ho5 hg5 H4)
        | (at_builtin; refine wpList_append_bytes _ rfl _ _ rfl w2.heap.size _ _ ((ys.drop (k * 119)).take 119) (some ⟨w.heap.size, k * 119, none⟩) _ (952 - k * 119) rfl rfl (by rw [List.length_take, List.length_drop]; omega) H5.out.own HBB.out (fun h => by cases h) (by simp only [List.length_append, List.length_take, List.length_drop, List.length_singleton, putN_len]; omega) hs5 ?_; intro v6 w6 ho6 hg6; have S6 := H5.out.app ho6 hg6; have H6 : Hid _ := S6; clear S6 ho6 hg6 H5 HBB)
        | fail)
      go_roundw
      case rel => exact ⟨k + 1, by omega, by go_num, H6.out.eq HSN.out.symm⟩
      case measure => simp [intOf]; omega
    · obtain rfl : k = 8 := by omega
      clear hst
      go_wp2
      go_ret
      exact ⟨_, rfl, by rw [hys]; exact own_mono HS.out.own hsz2, HB2.out.trans (HS.out.bel.mono hsz2)⟩
end Go.Proofs.YtglcpfnpbcnejaaGreatDoor
namespace Go.Proofs.YtglcpfnpbcnejaaGreatDoor
open Go.RowKit Go.WideShapes Rm

/-- What Write answers: an error's number, or the bytes. -/
inductive Wrote (x : DirV) : Int → List Nat → Prop
  | many (h : 32 < x.files.length) : Wrote x 42 []
  | bad (h1 : x.files.length ≤ 32) (h2 : ¬ May ltS x) : Wrote x 8 []
  | long (h1 : May ltS x) (h2 : 952 < (insideN x.files).length) : Wrote x 42 []
  | ok (h1 : May ltS x) (h2 : (insideN x.files).length ≤ 952) : Wrote x 0 (bytesN x)
theorem Wrote.only {x : DirV} {e f : Int} {b c : List Nat} (h1 : Wrote x e b) (h2 : Wrote x f c) : e = f ∧ b = c := by
  cases h1 with
  | many h => cases h2 with
    | many => exact ⟨rfl, rfl⟩
    | bad a _ => omega
    | long a _ => exact absurd a.many (by omega)
    | ok a _ => exact absurd a.many (by omega)
  | bad h k => cases h2 with
    | many a => omega
    | bad => exact ⟨rfl, rfl⟩
    | long a _ => exact absurd a k
    | ok a _ => exact absurd a k
  | long h k => cases h2 with
    | many a => exact absurd h.many (by omega)
    | bad _ a => exact absurd h a
    | long => exact ⟨rfl, rfl⟩
    | ok _ a => omega
  | ok h k => cases h2 with
    | many a => exact absurd h.many (by omega)
    | bad _ a => exact absurd h a
    | long _ a => omega
    | ok => exact ⟨rfl, rfl⟩
theorem insideN_bytes (l : List FileV) : ∀ c ∈ insideN l, c < 256 := by
  intro c hc
  unfold insideN at hc
  rcases List.mem_append.1 hc with h | h
  · exact smallN_bytes _ c h
  · obtain ⟨f, _, h⟩ := List.mem_flatMap.1 h
    unfold fileN at h
    simp only [List.mem_append] at h
    rcases h with ((h | h) | h) | h
    · exact textN_bytes _ c h
    · exact smallN_bytes _ c h
    · exact smallN_bytes _ c h
    · obtain ⟨p, _, h⟩ := List.mem_flatMap.1 h
      unfold pieceN at h
      rcases List.mem_append.1 h with h | h <;> exact smallN_bytes _ c h
/-- What is answered beside: nil where all is well, else an error that wraps the number. -/
def ErrV (v : Value) (e : Int) : Prop := (e = 0 ∧ v = .nilIface) ∨ (e ≠ 0 ∧ Faults v e)
set_option maxHeartbeats 1000000 in
theorem write_any (v : Value) (x : DirV) (w : World) (hx : DirIn w v x) (hs : ∀ f ∈ x.files, (f.name.size : Int) ≤ 9223372036854775807) (hsum : (allPcs x.files).length ≤ 1000000) :
    Calls Tryz.prog 111 #[v] w fun e w' => ∃ r ev n b, e = .returned (.tuple #[r, ev]) ∧ Wrote x n b ∧ ErrV ev n ∧ w'.ownsRow w.heap.size 5 1 r b.length (Bs b) ∧ Below w.heap.size w w' := by
  obtain ⟨fv, rfl, hf⟩ := hx.lies
  have HX : Hid (DirIn w (.agg #[.int .i64 x.gen, fv]) x) := hx
  have HF : Hid (FIn w fv x.files) := hf
  have hgw := hx.wf
  unfold wf64 at hgw
  obtain ⟨q, c, rfl, hq, hlc, hcm, _⟩ := hf.lies
  unfold maxLen at hcm
  clear hq hx hf
  have hck := check4_any _ x (w.alloc (.cells #[.int .i64 x.gen, .slice q x.files.length c] 31)) (HX.out.below (below_alloc w _)) hs hsum
  by_cases h1 : x.files.length ≤ 32
  · go_enter Tryz.func111, Tryz.ntmps111
    go_wp2_with fail
    refine hck.mono ?_
    rintro e w1 ⟨r, rfl, hr, hb1⟩
    have hs1 := hb1.size
    simp at hs1
    have hb1' : Below (w.heap.size + 1) (w.alloc (.cells #[.int .i64 x.gen, .slice q x.files.length c] 31)) w1 := hb1.mono (by simp)
    obtain ⟨d0, d1⟩ := box2 hb1'
    have HB1 : Hid (Below w.heap.size w w1) := box_below hb1'
    clear hck hb1 hb1'
    rcases hr with ⟨hok, rfl⟩ | ⟨hno, hfl⟩
    · have HM : Hid (May ltS x) := hok
      have hgen := hok.lo
      have hgh := hok.hi
      have hin := inside_any _ x.files w1 (HF.out.below HB1.out) hok.told
      clear hok
      go_wp2_with fail
      refine hin.mono ?_
      rintro e w2 ⟨r2, rfl, ho2, hb2⟩
      have hs2 := hb2.size
      obtain ⟨q2, m2, rfl, _, _, _⟩ := own_form ho2
      have hi2 := own_in ho2 (insideN_bytes _)
      have d0' : w2.cell? ⟨w.heap.size, 0, none⟩ = some (.int .i64 x.gen) := (hb2.cell (by simp; omega)).trans d0
      have HI2 : Hid _ := hi2
      have HB2 : Hid (Below w.heap.size w w2) := HB1.out.trans (hb2.mono (by omega))
      clear hin hb2 ho2 hi2 d0 d1
      obtain ⟨gn, hgn⟩ := Int.eq_ofNat_of_zero_le (show 0 ≤ x.gen by omega)
      have HIL : Hid ((insideN x.files).length ≤ 952 → Wrote x 0 (bytesN x)) := fun h => .ok HM.out h
      have HIG : Hid (952 < (insideN x.files).length → Wrote x 42 []) := fun h => .long HM.out h
      by_cases h2 : (insideN x.files).length ≤ 952
      · have HW := HIL.out h2
        have hpa := parted_any gn q2 m2 _ w2 (by omega) HI2.out h2
        rw [hgn] at d0'
        unfold bytesN at HW
        rw [hgn, Int.toNat_natCast] at HW
        have HW' : Hid (Wrote x 0 (sectsN gn (padN (insideN x.files)) 8)) := HW
        clear HW HIL HIG
        generalize (insideN x.files).length = L at *
        go_wp2_with fail
        refine hpa.mono ?_
        rintro e w3 ⟨r3, rfl, ho3, hb3⟩
        have hs3 := hb3.size
        go_wp2
        go_ret2
        exact ⟨_, _, 0, _, rfl, HW'.out, .inl ⟨rfl, rfl⟩, own_mono ho3 (by omega), HB2.out.trans (hb3.mono (by omega))⟩
      · have HW := HIG.out (by omega)
        have HW' : Hid (Wrote x 42 []) := HW
        clear HW HIL HIG
        generalize (insideN x.files).length = L at *
        go_wp2
        go_ret2
        exact ⟨_, _, 42, [], rfl, HW'.out, .inr ⟨by decide, Faults.one _ _⟩, World.ownsRow_nil _ _ _ _, HB2.out⟩
    · have HW : Hid (Wrote x 8 []) := .bad h1 hno
      have HFL : Hid (Faults r 8) := hfl
      obtain ⟨tx, vx, rfl⟩ := hfl.iface
      clear hfl hno
      go_wp2
      go_ret2
      exact ⟨_, _, 8, [], rfl, HW.out, .inr ⟨by decide, HFL.out⟩, World.ownsRow_nil _ _ _ _, HB1.out⟩
  · go_enter Tryz.func111, Tryz.ntmps111
    go_wp2
    go_ret2
    exact ⟨_, _, 42, [], rfl, .many (by omega), .inr ⟨by decide, Faults.one _ _⟩, World.ownsRow_nil _ _ _ _, below_alloc _ _⟩
end Go.Proofs.YtglcpfnpbcnejaaGreatDoor
