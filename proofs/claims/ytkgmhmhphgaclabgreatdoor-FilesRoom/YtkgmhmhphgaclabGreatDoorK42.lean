/-
  A world that meets the row's condition on the program's variables: the settled one, the four variables laid.
-/
import Derived.Test.YtkgmhmhphgaclabGreatDoorK37
import Derived.Test.YtkgmhmhphgaclabGreatDoorK38
import Derived.Test.YtkgmhmhphgaclabGreatDoorK41
import Derived.Test.YtkgmhmhphgaclabGreatDoorRows
import Derived.Test.YtkgmhmhphgaclabGreatDoorJ08
import Derived.LaidSub
import Derived.LaidHandle
import Derived.LaidLaws
import Derived.RowKitTokens
import Derived.Lib.LaidTab
import Derived.Test.YtkgmhmhphgaclabGreatDoorJ17
import Derived.SizedLaws
import Derived.Test.YtkgmhmhphgaclabGreatDoorChecked
import Derived.ChangeSame
import Derived.ChangeVars
import Derived.JoinedOf
import Derived.RowKit
import Derived.Stop.Joined
namespace Go.Proofs.YtkgmhmhphgaclabGreatDoor
open Go.RowKit Go.WideShapes Rm

theorem taken_bound : ∀ {l : List FileV}, (∀ f ∈ l, FileOk f) → 0 ≤ takenN l ∧ takenN l ≤ 4097 * (l.length : Int)
  | [], _ => by simp [takenN]
  | f :: l, h => by
    obtain ⟨h1, h2⟩ := taken_bound (l := l) (fun g hg => h g (List.mem_cons_of_mem _ hg))
    have hf := h f (List.mem_cons_self ..)
    have h3 := hf.2.1
    have h4 := hf.2.2.1
    rw [takenN_cons]
    have h5 : 0 ≤ needsN f.size ∧ needsN f.size ≤ 4097 := by unfold needsN; omega
    simp only [List.length_cons]
    omega
theorem fown_files {w : World} {base : Nat} {q : Option Addr} {n m : Nat} {ls : FPs} {x : DirV} (h : FOwn w base (.slice q n m) ls) (hm : May ltS x) (hl : ls.map Prod.fst = x.files) : FilesIn w q x.files := by
  obtain ⟨fv, e, hf⟩ := (fown_dir h hm hl).lies
  obtain ⟨q', c', e2, hq, _⟩ := hf.lies
  have e3 : Value.slice q n m = fv := by
    simp only [Value.agg.injEq] at e
    have := congrArg (fun a : Array Value => a[1]?) e
    simpa using this
  rw [← e3] at e2
  simp only [Value.slice.injEq] at e2
  rw [e2.1]
  exact hq
theorem chg_g {w : World} {g : Nat} {name : ByteArray} (hs : (name.size : Int) ≤ 9223372036854775807) (h : w.heap[g]? = some (.cells #[.string name, .string ⟨#[]⟩, .bool true] 52 (0, 0))) : ChgIn w (some ⟨g, 0, none⟩) 1 1 [⟨name, ⟨#[]⟩, true⟩] := by
  obtain ⟨c0, c1, c2⟩ := three_cells h
  refine ⟨fun _ => ⟨g, 0, rfl, fun i hi => ?_⟩, rfl, Nat.le_refl _, by decide, fun y hy => ?_⟩
  · obtain rfl : i = 0 := by simp at hi; exact hi
    exact ⟨c0, c1, c2⟩
  · rw [List.mem_singleton.1 hy]
    exact hs
set_option maxRecDepth 20000 in
set_option maxHeartbeats 4000000 in
theorem law_room (v : Value) (count : Int) (data : List Nat) (ws : Puts) (name : ByteArray) (w : World) (hL : Laid w) (hd : DiskIn w v count data ws) (hs : (name.size : Int) ≤ 9223372036854775807) :
    Calls Tryz.prog 4 #[v, .string name] w fun e w' => e = .returned (.bool true) ∧ Below w.heap.size w w' := by
  obtain ⟨p, c, q, m, rfl, _⟩ := hd.parts
  have HL : Hid (Laid w) := hL
  have HD : Hid (DiskIn w (.agg #[.int .i64 count, .slice p data.length c, .slice q ws.length m]) count data ws) := hd
  obtain ⟨r, n, hm⟩ := mountIs_ex count data ws
  have HM : Hid (MountIs count data ws r n) := hm
  obtain ⟨dl, hdl⟩ : ∃ k, data.length = k := ⟨_, rfl⟩
  obtain ⟨wl, hwl⟩ : ∃ k, ws.length = k := ⟨_, rfl⟩
  rw [hdl, hwl] at HD ⊢
  have HWL : Hid (data.length = dl ∧ ws.length = wl) := ⟨hdl, hwl⟩
  obtain ⟨w0, hw0⟩ : ∃ w0, w.alloc (.cells #[.int .i64 count, .slice p dl c, .slice q wl m] 25) = w0 := ⟨_, rfl⟩
  have HB0 : Hid (Below w.heap.size w w0) := by show Below _ _ _; rw [← hw0]; exact below_alloc _ _
  have HX0 : Hid (w0.heap[w.heap.size]? = some (.cells #[.int .i64 count, .slice p dl c, .slice q wl m] 25 (0, 0))) := by show _ = _; rw [← hw0]; exact heap_alloc_new _ _
  have hal := alive_t w0 (HL.out.below HB0.out)
  clear hd hL hm hdl hwl
  go_enter Tryz.func4, Tryz.ntmps4
  go_upto_region 1 with fail
  (try rw [hw0])
  clear hw0
  go_wp2_with fail
  refine hal.mono ?_
  rintro e w1 ⟨rfl, hb1⟩
  have HB1 : Hid (Below w.heap.size w w1) := below_bt HB0.out hb1
  have HX1 : Hid (w1.heap[w.heap.size]? = some (.cells #[.int .i64 count, .slice p dl c, .slice q wl m] 25 (0, 0))) := (hb1.block _ (lt_heap HX0.out)).trans HX0.out
  obtain ⟨d0, d1, d2⟩ := three_cells HX1.out
  clear hal hb1
  have hlg := large4_any _ count data ws w1 (HD.out.below HB1.out)
  go_wp2_with fail
  refine hlg.mono ?_
  rintro e w2 ⟨rfl, hb2⟩
  have HB2 : Hid (Below w.heap.size w w2) := below_bt HB1.out hb2
  have HX2 : Hid (w2.heap[w.heap.size]? = some (.cells #[.int .i64 count, .slice p dl c, .slice q wl m] 25 (0, 0))) := (hb2.block _ (lt_heap HX1.out)).trans HX1.out
  clear hlg hb2 d0 d1 d2
  obtain ⟨d0, d1, d2⟩ := three_cells HX2.out
  by_cases hlarge : largeL count data ws
  · have e1 : decide (largeL count data ws) = true := by simpa using hlarge
    rw [e1]
    go_wp2
    go_ret
    exact ⟨rfl, HB2.out⟩
  · have e1 : decide (largeL count data ws) = false := by simpa using hlarge
    rw [e1]
    have HNL : Hid (wl ≤ 300) := by
      show wl ≤ 300
      have := HWL.out.2
      unfold largeL at hlarge
      omega
    clear hlarge e1
    by_cases hns : (name.size : Int) ≤ 1000
    · have hmt := Mount_any _ count data ws w2 (HL.out.below HB2.out) (HD.out.below HB2.out) r n HM.out
      go_wp2_with fail
      refine hmt.mono ?_
      rintro e w3 hq3
      clear hmt d0 d1 d2
      rcases r with _ | ⟨x, at_⟩
      · obtain ⟨rfl, hb3⟩ := hq3
        have HB3 : Hid (Below w.heap.size w w3) := below_bt HB2.out hb3
        have hn0 : n = 20 ∨ n = 40 := mountIs_none HM.out
        have hnb : (n == 0) = false := by rcases hn0 with rfl | rfl <;> rfl
        clear hb3
        go_wp2
        go_ret
        exact ⟨rfl, below_bt HB3.out (below_alloc _ _)⟩
      · obtain ⟨ls, lv, rfl, hls, rfl, hfo, hb3⟩ := hq3
        have HMY : Hid (May ltS x ∧ errK count (allPcs x.files) = 0 ∧ (0 : Int) = 0 ∧ 96 ≤ count ∧ Okay count data ws) := mountIs_some HM.out
        obtain ⟨ql, ml, rfl, _⟩ := hfo.form
        have HB4 : Hid (Below w.heap.size w (w3.alloc (.cells #[.int .i64 x.gen, .slice ql ls.length ml] 43))) := below_bt (below_bt HB2.out hb3) (below_alloc _ _)
        have HX4 : Hid ((w3.alloc (.cells #[.int .i64 x.gen, .slice ql ls.length ml] 43)).heap[w.heap.size]? = some (.cells #[.int .i64 count, .slice p dl c, .slice q wl m] 25 (0, 0))) := ((below_bt hb3 (below_alloc _ _)).block _ (lt_heap HX2.out)).trans HX2.out
        obtain ⟨d0, d1, d2⟩ := three_cells HX4.out
        have HFO : Hid (FOwn (w3.alloc (.cells #[.int .i64 x.gen, .slice ql ls.length ml] 43)) w2.heap.size (.slice ql ls.length ml) ls) := hfo.below (below_alloc _ _)
        have HLS : Hid (ls.map Prod.fst = x.files) := hls
        have hrm := Room_any _ count data ws (w3.alloc (.cells #[.int .i64 x.gen, .slice ql ls.length ml] 43)) (HL.out.below HB4.out) (HD.out.below HB4.out) _ 0 HM.out
        have HM4 : Hid ((w3.alloc (.cells #[.int .i64 x.gen, .slice ql ls.length ml] 43)).heap[w3.heap.size]? = some (.cells #[.int .i64 x.gen, .slice ql ls.length ml] 43 (0, 0))) := heap_alloc_new _ _
        clear hb3 hfo hls
        go_wp2_with fail
        refine hrm.mono ?_
        rintro e w5 ⟨rfl, hb5⟩
        clear hrm d0 d1 d2
        have HB5 : Hid (Below w.heap.size w w5) := below_bt HB4.out hb5
        have HX5 : Hid (w5.heap[w.heap.size]? = some (.cells #[.int .i64 count, .slice p dl c, .slice q wl m] 25 (0, 0))) := (hb5.block _ (lt_heap HX4.out)).trans HX4.out
        have HM5 : Hid (w5.heap[w3.heap.size]? = some (.cells #[.int .i64 x.gen, .slice ql ls.length ml] 43 (0, 0))) := (hb5.block _ (lt_heap HM4.out)).trans HM4.out
        have HFO5 : Hid (FOwn w5 w2.heap.size (.slice ql ls.length ml) ls) := HFO.out.below hb5
        have m0 : w5.cell? ⟨w3.heap.size, 0, none⟩ = some (.int .i64 x.gen) := cell_of_row _ _ _ _ _ _ HM5.out
        have m1 : w5.cell? ⟨w3.heap.size, 1, none⟩ = some (.slice ql ls.length ml) := cell_of_row _ _ _ _ _ _ HM5.out
        clear hb5
        obtain ⟨N, hN⟩ : ∃ N, roomN count (some (x, at_)) = N := ⟨_, rfl⟩
        have HN : Hid (N = count - 80 - takenN x.files) := hN.symm
        rw [hN]
        have hll : ls.length = x.files.length := by
          have h := congrArg List.length HLS.out
          rw [List.length_map] at h
          exact h
        rw [hll] at m1 ⊢
        have HFI : Hid (FilesIn w5 ql x.files) := fown_files HFO5.out HMY.out.1 HLS.out
        have HEA : Hid (∀ f ∈ x.files, FileOk f) := HMY.out.1.each
        have hmany : x.files.length ≤ 32 := HMY.out.1.many
        clear hll hN
        go_wp2
        go_loop [10, 11, 12] (fun s g i => ∃ k : Nat, k ≤ x.files.length ∧ i = .int .i64 k ∧ s = .int .i64 (takenK x.files k) ∧ g = .int .i64 (goneL (x.files.take k) name)) (fun _ _ i => x.files.length - (intOf i).toNat)
        case atStart => exact ⟨0, by omega, rfl, rfl, rfl⟩
        case round =>
          obtain ⟨k, hk, rfl, rfl, rfl⟩ := hrel
          by_cases hkl : k < x.files.length
          · obtain ⟨b, o, rfl⟩ := HFI.out.addr (by omega)
            obtain ⟨e0, e1, pv, e2, hp⟩ := HFI.out.at hkl
            have hfok : FileOk (x.files.getD k zeroF) := HEA.out _ (by rw [getD_eq hkl]; exact List.getElem_mem hkl)
            have HTK : Hid (takenK x.files (k + 1) = takenK x.files k + needsN (x.files.getD k zeroF).size) := takenK_next hkl
            have HGK : Hid _ := goneL_snoc hkl name
            have hbd : 0 ≤ takenK x.files k ∧ takenK x.files k ≤ 1000000 := by
              have h := taken_bound (l := x.files.take k) (fun f hf => HEA.out f (List.mem_of_mem_take hf))
              have h2 : (x.files.take k).length ≤ 32 := by rw [List.length_take]; omega
              unfold takenK
              omega
            obtain ⟨tk, htk⟩ : ∃ tk, takenK x.files k = tk := ⟨_, rfl⟩
            obtain ⟨gk, hgk⟩ : ∃ gk, goneL (x.files.take k) name = gk := ⟨_, rfl⟩
            rw [htk] at HTK hbd ⊢
            rw [hgk] at HGK ⊢
            clear hp
            generalize hff : x.files.getD k zeroF = f at *
            obtain ⟨nm, sz, pl⟩ := f
            simp only at e0 e1 e2 hfok
            have h3 := hfok.2.1
            have h4 := hfok.2.2.1
            simp only at h3 h4
            have hdv : (sz + 127).tdiv 128 = needsN sz := Int.tdiv_eq_ediv_of_nonneg (by omega)
            have h5 : 0 ≤ needsN sz ∧ needsN sz ≤ 4097 := by unfold needsN; omega
            obtain ⟨nd, hnd⟩ : ∃ nd, needsN sz = nd := ⟨_, rfl⟩
            rw [hnd] at hdv h5
            have HND : Hid (needsN sz = nd) := hnd
            have HKL : Hid (k < x.files.length) := hkl
            by_cases hnm : nm = name
            · subst hnm
              clear hfok hnd htk hgk hff
              go_wp2
              go_round
              case rel => exact ⟨k + 1, HKL.out, by go_num, by rw [HTK.out]; exact congrArg (fun z => Value.int .i64 (tk + z)) HND.out.symm, by rw [HGK.out, if_pos rfl]; exact congrArg (Value.int .i64) HND.out.symm⟩
              case measure => have := HKL.out; simp [intOf]; omega
            · have hne2 : (nm.toList == name.toList) = false := by rw [eq_strF]; simpa using hnm
              have HNE : Hid (nm ≠ name) := hnm
              clear hfok hnd htk hgk hff hnm
              go_wp2
              go_round
              case rel => exact ⟨k + 1, HKL.out, by go_num, by rw [HTK.out]; exact congrArg (fun z => Value.int .i64 (tk + z)) HND.out.symm, by rw [HGK.out, if_neg HNE.out]⟩
              case measure => have := HKL.out; simp [intOf]; omega
          · obtain rfl : k = x.files.length := by omega
            have hT : takenK x.files x.files.length = takenN x.files := by unfold takenK; rw [List.take_length]
            rw [hT, List.take_length]
            have hbd : 0 ≤ takenN x.files ∧ takenN x.files ≤ 1000000 := by
              have h := taken_bound HEA.out
              omega
            have HGO : Hid _ := goneL_or x.files name
            obtain ⟨T, hTe⟩ : ∃ T, takenN x.files = T := ⟨_, rfl⟩
            obtain ⟨gg, hgg⟩ : ∃ gg, goneL x.files name = gg := ⟨_, rfl⟩
            have HTE : Hid (takenN x.files = T ∧ goneL x.files name = gg) := ⟨hTe, hgg⟩
            rw [hTe] at hbd ⊢
            rw [hgg]
            have hNT : N + T = count - 80 := by have := HN.out; omega
            have hcl : 96 ≤ count := HMY.out.2.2.2.1
            have hch : count ≤ 4096 := HMY.out.2.2.2.2.hi
            obtain ⟨d0, d1, d2⟩ := three_cells HX5.out
            have HTD : Hid (∀ w' g, Below w5.heap.size w5 w' → w'.heap[g]? = some (.cells #[.string name, .string ⟨#[]⟩, .bool true] 52 (0, 0)) → Calls Tryz.prog 9 #[.agg #[.int .i64 count, .slice p dl c, .slice q wl m], .slice (some ⟨g, 0, none⟩) 1 1] w' fun e w'' => TdQ w' count data ws (TurnIs count data ws (some (x, at_)) 0 [⟨name, ⟨#[]⟩, true⟩]) e w'') := fun w' g hb hg =>
              turned_any2 _ count data ws _ 1 1 [⟨name, ⟨#[]⟩, true⟩] w' (HL.out.below (below_bt HB5.out hb)) (HD.out.below (below_bt HB5.out hb)) _ 0 HM.out (chg_g hs hg) (fun y hy => by rw [List.mem_singleton.1 hy]; show (((⟨#[]⟩ : ByteArray).size : Nat) : Int) ≤ _; decide)
            clear hT hTe hgg
            go_wp2_with fail
            refine (HTD.out _ _ (below_alloc _ _) (heap_alloc_new _ _)).mono ?_
            rintro e w6 ⟨mm, A, c0, q1, n1, m1', q2, n2, m2', E, hS, rfl, hb6, hcase⟩
            have HB6 : Hid (Below w.heap.size w w6) := below_bt (below_bt HB5.out (below_alloc _ _)) hb6
            have HB7 : Hid (Below w.heap.size w (w6.alloc (.cells #[.int .i64 c0, .slice q1 n1 m1', .slice q2 n2 m2'] 25))) := below_bt HB6.out (below_alloc _ _)
            clear HTD hb6 d0 d1 d2 m0 m1
            rcases HGO.out with ⟨hno, hge⟩ | ⟨f, hf, hfn, hge⟩
            · have hE : E ≠ 0 := by
                rcases hcase with ⟨h0, rfl, _⟩ | ⟨h0, _, _⟩
                · exact h0
                · subst h0
                  obtain ⟨f, h1, h2⟩ := turn_named hS
                  exact absurd h2 (hno f h1)
              have hg1 : gg = -1 := HTE.out.2.symm.trans hge
              subst hg1
              have hEb : (E == 0) = false := by simpa using hE
              have hEc : (E != 0) = true := by simpa using hE
              clear hcase hS hno hge hE HGO HTE
              go_wp2
              go_ret
              exact ⟨rfl, HB7.out⟩
            · have hg1 : gg = needsN f.size := HTE.out.2.symm.trans hge
              have hg0 : 0 ≤ gg ∧ gg ≤ 4097 := by
                have hk := HEA.out f hf
                have h3 := hk.2.1
                have h4 := hk.2.2.1
                rw [hg1]
                unfold needsN
                omega
              have hgl : ¬ gg < 0 := by omega
              by_cases hm0 : mm = 0
              · subst hm0
                obtain ⟨D, y, s, hdo, hmy, htk⟩ := turn_room HM.out hS rfl (by have := HNL.out; have := HWL.out.2; omega) hf hfn
                rcases hcase with ⟨h0, _⟩ | ⟨_, hE, hdi⟩
                · exact absurd rfl h0
                · rw [hdo] at hE hdi
                  simp only [resE, resC, resD, resW] at hE hdi
                  subst hE
                  have hrm2 := Room_any _ count D [] (w6.alloc (.cells #[.int .i64 c0, .slice q1 n1 m1', .slice q2 n2 m2'] 25)) (HL.out.below HB7.out) (hdi.below (below_alloc _ _)) _ 0 hmy
                  have hk2 : roomN count (some (y, s)) = N + gg := by
                    have h1 := HN.out
                    show count - 80 - takenN y.files = N + gg
                    rw [htk, ← hg1]
                    omega
                  rw [hk2] at hrm2
                  clear hdo hmy htk hS hdi hk2 hge hfn HGO HTE
                  go_wp2_with fail
                  refine hrm2.mono ?_
                  rintro e w7 ⟨rfl, hb7⟩
                  have HB8 : Hid (Below w.heap.size w w7) := below_bt HB7.out hb7
                  clear hrm2 hb7
                  go_wp2
                  go_ret
                  exact ⟨rfl, HB8.out⟩
              · rcases hcase with ⟨_, hE, hdi⟩ | ⟨h0, _, _⟩
                · subst hE
                  have hEb : (E == 0) = false := by simpa using hm0
                  have hrm2 := Room_any _ count data ws (w6.alloc (.cells #[.int .i64 c0, .slice q1 n1 m1', .slice q2 n2 m2'] 25)) (HL.out.below HB7.out) (hdi.below (below_alloc _ _)) _ 0 HM.out
                  clear hS hdi hge hfn hm0 HGO HTE
                  go_wp2_with fail
                  refine hrm2.mono ?_
                  rintro e w7 ⟨rfl, hb7⟩
                  have HB8 : Hid (Below w.heap.size w w7) := below_bt HB7.out hb7
                  clear hrm2 hb7
                  go_wp2
                  go_ret
                  exact ⟨rfl, HB8.out⟩
                · exact absurd h0 hm0
    · have hns2 : ¬ (name.size : Int) ≤ 1000 := hns
      go_wp2
      go_ret
      exact ⟨rfl, HB2.out⟩
end Go.Proofs.YtkgmhmhphgaclabGreatDoor
namespace Go.Proofs.YtkgmhmhphgaclabGreatDoor
open Go.RowKit Go.WideShapes Rm

theorem lh.rt : (Tryz.prog.cutTypes.find? (·.1 == "internal/reflectlite.rtype")).map (·.2) = some 167 := by kernel_rfl
theorem lh.et : Tryz.prog.globalNamed "errors.errorType" = some 0 := by kernel_rfl
theorem lh.size : Tryz.prog.types.size = 272 := by kernel_rfl
theorem lh.oneRow : ((List.range 272).filter fun t => Tryz.prog.rowNamed t [101, 114, 114, 111, 114]) = [63] := by kernel_rfl
theorem lh.handle : typeHandle Tryz.prog 63 = .pointer (some ⟨5, 63, none⟩) := by kernel_rfl
def laidL : List (String × DataW Unit) := [("math/bits.deBruijn32tab", Rows.laid_math_bits_deBruijn32tab), ("math/bits.deBruijn64tab", Rows.laid_math_bits_deBruijn64tab), ("internal/strconv.uint64pow10", Rows.laid_internal_strconv_uint64pow10), ("errors.errorType", Rows.laid_errors_errorType)]
theorem errT_of {W : World} (h : handlesMet Tryz.prog [("errors.errorType", Rows.laid_errors_errorType)] W) : ErrT W := by
  obtain ⟨name, u, ty, e1, e2, e3, e4, e5⟩ := h _ (List.mem_singleton.2 rfl)
  have en : name = [101, 114, 114, 111, 114] := (Option.some.inj e1).symm
  subst en
  obtain rfl := Option.some.inj (lh.rt.symm.trans e2)
  have hm : ty ∈ (List.range 272).filter fun t => Tryz.prog.rowNamed t [101, 114, 114, 111, 114] := List.mem_filter.2 ⟨List.mem_range.2 (by rw [← lh.size]; exact e3), e4⟩
  rw [lh.oneRow] at hm
  obtain rfl := List.mem_singleton.1 hm
  rw [lh.handle] at e5
  simpa [ErrT] using World.var?_cell lh.et e5 0
theorem tab_of {W : World} (h : laidMet Tryz.prog [("internal/strconv.uint64pow10", Rows.laid_internal_strconv_uint64pow10)] W) : Lib.TabIs Tryz.prog W "internal/strconv.uint64pow10" .u64 Lib.pow10Tab :=
  Lib.tabIs_of_head (rest := []) g_pow (t := 236) (e := 145) (n := 20) (by kernel_rfl) Tryz.underlying236 Tryz.underlying145 (by kernel_rfl) (by kernel_rfl) h
theorem laid_of {W : World} (h : laidMetH Tryz.prog laidL W) : Laid W := by
  obtain ⟨h1, h2⟩ := laidMetH_iff.1 h
  refine ⟨errT_of fun x hx => h2 x ?_, tab_of ?_⟩
  · rw [List.mem_singleton.1 hx]
    exact List.mem_filter.2 ⟨by simp [laidL], by rfl⟩
  · have h3 := h1.filter (fun x => x.1 == "internal/strconv.uint64pow10")
    exact h3
end Go.Proofs.YtkgmhmhphgaclabGreatDoor
namespace Go.Proofs.YtkgmhmhphgaclabGreatDoor
set_option maxRecDepth 8000
open Go.RowKit Go.WideShapes Go.ChangeShapes Go.Deep Go.Joins

section
variable {P : Program} {w : World} {H : Type} {enc : TypeId × Value → H}
theorem open_bytes_sized {t e : TypeId} {n : Nat} {v : Value} {x : DataW H × List MemPlace} (ht : P.underlying t = some (.slice e)) (he : P.underlying e = some (.int .u8)) (hc : P.cellsOf e = 1) (hby : P.bytesOf e = 1)
    (h : DataW.trod enc P w 0 (fun _ => true) true n t [v] = some x) (hw : ∀ k ∈ x.1.weights P t, k ≤ reachBytes) : ∃ xs, Row w v xs ∧ xs.length ≤ reachBytes := by
  obtain ⟨xs, hx⟩ := open_bytes ht he hc h
  refine ⟨xs, hx, ?_⟩
  obtain ⟨p, c, rfl, _⟩ := hx.lies
  rcases open_ints ht he hc h with ⟨hcs, _⟩ | ⟨a, len, cap, zs, hcs, _, hl, hm, hz, rfl, hcell, hwz⟩
  · simp only [List.cons.injEq, Value.slice.injEq, and_true] at hcs
    rw [hcs.2.1]; exact Nat.zero_le _
  · simp only [List.cons.injEq, Value.slice.injEq, and_true] at hcs
    have := hw (((lits .u8 (zs.take len) : List (DataW H)).length + (lits .u8 (zs.drop len) : List (DataW H)).length) * P.bytesOf e) (by simp [DataW.weights, ht])
    rw [hby] at this
    have hz' : zs.length = cap := by simpa using hz
    simp only [lits, List.length_map, List.length_take, List.length_drop] at this
    omega
theorem weightsAll_mem {e : TypeId} {l : List (DataW H)} {d : DataW H} (hd : d ∈ l) {k : Nat} (hk : k ∈ d.weights P e) : k ∈ DataW.weightsAll P e l := by
  induction l with
  | nil => cases hd
  | cons a l ih =>
    simp only [DataW.weightsAll, List.mem_append]
    rcases List.mem_cons.1 hd with rfl | h
    · exact .inl hk
    · exact .inr (ih h)
theorem puts_sized {t e tb eb : TypeId} {f0 f1 : Field} {n : Nat} {v : Value} {x : DataW H × List MemPlace} (ht : P.underlying t = some (.slice e)) (he : P.underlying e = some (.struct #[f0, f1])) (ce : P.cellsOf e = 2) (o0 : f0.offset = 0) (o1 : f1.offset = 1)
    (c0 : P.cellsOf f0.type = 1) (c1 : P.cellsOf f1.type = 1) (k1 : f1.type = tb) (hb : P.underlying tb = some (.slice eb)) (heb : P.underlying eb = some (.int .u8)) (hceb : P.cellsOf eb = 1) (hby : P.bytesOf eb = 1)
    (h : DataW.trod enc P w 0 (fun _ => true) true n t [v] = some x) (hw : ∀ k ∈ x.1.weights P t, k ≤ reachBytes) {q : Option Addr} {c : Nat} {ws : List (Int × List Nat)} (hv : v = .slice q ws.length c) (hp : PutsIn w q ws) : ∀ y ∈ ws, y.2.length ≤ reachBytes := by
  subst k1
  subst hv
  rcases open_slice_pairs ht he ce o0 o1 c0 c1 h with ⟨hcs, _⟩ | ⟨a, len, cap, m, k, V0, V1, D0, D1, P0, P1, hcs, _, hl, hm, hmm, rfl, hel⟩
  · simp only [List.cons.injEq, Value.slice.injEq, and_true] at hcs
    intro y hy
    obtain rfl : ws = [] := List.eq_nil_of_length_eq_zero hcs.2.1
    cases hy
  · simp only [List.cons.injEq, Value.slice.injEq, and_true] at hcs
    obtain ⟨rfl, hlen, rfl⟩ := hcs
    have hmc : m = c := by simpa using hmm
    intro y hy
    obtain ⟨i, hi, rfl⟩ := List.getElem_of_mem hy
    obtain ⟨b, o, e1, hc⟩ := hp (by omega)
    simp only [Option.some.injEq] at e1
    subst e1
    obtain ⟨_, g1, _, t1⟩ := hel i (by omega)
    obtain ⟨_, vv, g2, hr⟩ := hc i hi
    rw [add_plain] at g1
    rw [g1] at g2
    simp only [Option.some.injEq] at g2
    subst g2
    obtain ⟨xs, hx, hxl⟩ := open_bytes_sized hb heb hceb hby t1 (fun k' hk' => hw k' (by
      simp only [DataW.weights, ht, List.mem_cons, List.mem_append]
      refine .inr (.inl (weightsAll_mem (d := .agg [D0 i, D1 i]) (List.mem_map.2 ⟨i, List.mem_range.2 (by omega), rfl⟩) ?_))
      simp only [DataW.weights, he]
      simp only [List.map_cons, List.map_nil, DataW.weightsEach, List.mem_append]
      exact .inr (.inl hk')))
    obtain ⟨p1, c1', e1, _⟩ := hr.lies
    obtain ⟨p2, c2', e2, _⟩ := hx.lies
    rw [e1] at e2
    simp only [Value.slice.injEq] at e2
    have e3 : ws.getD i (0, []) = ws[i] := by simp [List.getD, List.getElem?_eq_getElem hi]
    rw [e3] at e2
    omega
theorem open_disk_sized {tD t e tb eb : TypeId} {d0 d1 d2 f0 f1 : Field} {r : Reach} {b0 : Nat} {v : Value} {d : DataW H} {p : List MemPlace}
    (hD : P.underlying tD = some (.struct #[d0, d1, d2])) (hone : oneCellFields P #[d0, d1, d2] = true) (hC : P.cellsOf tD = 3)
    (kd0 : P.underlying d0.type = some (.int .i64)) (kd1 : d1.type = tb) (kd2 : d2.type = t)
    (ht : P.underlying t = some (.slice e)) (he : P.underlying e = some (.struct #[f0, f1])) (ce : P.cellsOf e = 2) (o0 : f0.offset = 0) (o1 : f1.offset = 1)
    (c0 : P.cellsOf f0.type = 1) (c1 : P.cellsOf f1.type = 1) (k0 : P.underlying f0.type = some (.int .i64)) (k1 : f1.type = tb) (hb : P.underlying tb = some (.slice eb)) (heb : P.underlying eb = some (.int .u8)) (hceb : P.cellsOf eb = 1) (hby : P.bytesOf eb = 1)
    (hv : Value.okWide P w r b0 tD v) (h : DataW.Trod enc P w 0 (fun _ => true) true tD v d p) (hw : ∀ k ∈ d.weights P tD, k ≤ reachBytes) : ∃ count data ws, DiskIn w v count data ws ∧ ∀ y ∈ ws, y.2.length ≤ reachBytes := by
  obtain ⟨v0, v1, v2, y0, y1, y2, n, rfl, rfl, _, h0, h1, h2⟩ := open_agg3 hD hone hC hv h
  obtain ⟨z, hz, _, wz⟩ := DataW.trod_int kd0 h0
  simp only [List.cons.injEq, and_true] at hz
  subst hz
  rw [kd1] at h1
  rw [kd2] at h2
  obtain ⟨xs, hx⟩ := open_bytes hb heb hceb h1
  obtain ⟨q, ws, c, hv2, g1, g2, g3, g4, g5⟩ := open_puts ht he ce o0 o1 c0 c1 k0 k1 hb heb hceb h2
  refine ⟨z, xs, ws, ⟨⟨v1, q, c, by rw [hv2], hx, g1, g2, g3, g4⟩, wz, g5⟩, ?_⟩
  refine puts_sized ht he ce o0 o1 c0 c1 k1 hb heb hceb hby h2 (fun k hk => hw k ?_) hv2 g1
  simp only [DataW.weights, hD]
  simp only [List.map_cons, List.map_nil, DataW.weightsEach, List.mem_append]
  exact .inr (.inr (.inl (by rw [kd2]; exact hk)))
end
end Go.Proofs.YtkgmhmhphgaclabGreatDoor
namespace Go.Proofs.YtkgmhmhphgaclabGreatDoor
open Go.RowKit

noncomputable def tabCells : DataW Unit → Array Value
  | .agg l => (l.map fun | .lit (.int k z) => .int k z | _ => .nilIface).toArray
  | _ => #[]
noncomputable def layCells (cs : Array Value) : Obj → Obj
  | .cells _ t frozen => .cells cs t frozen
  | o => o
noncomputable def gIx (s : String) : Nat := (Tryz.prog.globalNamed s).getD 0
noncomputable def laidWorld (os : Os) : World :=
  let w0 := World.holding Tryz.prog os ⟨#[], #[], []⟩
  { w0 with heap := ((((w0.heap.modify (gIx "math/bits.deBruijn32tab") (layCells (tabCells Rows.laid_math_bits_deBruijn32tab))).modify (gIx "math/bits.deBruijn64tab") (layCells (tabCells Rows.laid_math_bits_deBruijn64tab))).modify (gIx "internal/strconv.uint64pow10") (layCells (tabCells Rows.laid_internal_strconv_uint64pow10))).modify (gIx "errors.errorType") (layCells #[.iface 167 (.agg #[.pointer (some ⟨5, 63, none⟩)])])) }
def laidLs : List (String × DataW Unit) := [("math/bits.deBruijn32tab", Rows.laid_math_bits_deBruijn32tab), ("math/bits.deBruijn64tab", Rows.laid_math_bits_deBruijn64tab), ("internal/strconv.uint64pow10", Rows.laid_internal_strconv_uint64pow10), ("errors.errorType", Rows.laid_errors_errorType)]
theorem laidWorld_met (os : Os) (args : Array Value) : laidMetH Tryz.prog laidLs ((laidWorld os).forCall (fun _ _ => 0) ⟨#[], args, []⟩).memory :=
  laidMetH_of_parts (laidMet_of_run' 8 (by kernel_rfl) (by kernel_rfl)) (by kernel_rfl)
end Go.Proofs.YtkgmhmhphgaclabGreatDoor
