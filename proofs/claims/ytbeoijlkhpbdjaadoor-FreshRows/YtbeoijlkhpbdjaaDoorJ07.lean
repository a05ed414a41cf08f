/-
  The tied card of FreshRows holds: whatever entries, keys and numbers are handed in, a row to which entries are put one behind the other has and tells what the document says, refusing what it refuses. Condition: the two package-level tables of math/bits hold what the program's text lays there.
-/
import Derived.Test.YtbeoijlkhpbdjaaDoorJ06
import Derived.Deep.Cut
import Derived.Deep.CutRange
import Derived.Test.YtbeoijlkhpbdjaaDoorRows
import Derived.Test.YtbeoijlkhpbdjaaDoorJ04
import Derived.Test.YtbeoijlkhpbdjaaDoorTie
import Derived.Test.YtbeoijlkhpbdjaaDoorCards
import Derived.SevenTiedAt
import Derived.WalkKit
import Derived.ProofKit
import Derived.OpenShut
import Derived.ShutString
import Derived.ChangeOld
import Derived.Below
namespace Go.Proofs.YtbeoijlkhpbdjaaDoor
open Go.RowKit Go.WideShapes

structure OnR (w : World) (x : EntV) (wr : World) : Prop where
  bel : Below w.heap.size w wr
  xb : wr.heap[w.heap.size]? = some (.cells #[.string x.key, .string x.val, .int .i64 x.seq, .bool x.gone] 23 (0, 0))
theorem OnR.next {w wr w' : World} {x : EntV} (h : OnR w x wr) (hb : Below wr.heap.size wr w') : OnR w x w' := ⟨below_bt h.bel hb, block_below' h.xb hb⟩
theorem place_snoc {l : List EntV} {x : EntV} {j : Nat} (h : ∀ y ∈ l.take j, lessE y x = true) (hj : j < l.length) (hl : lessE (l.getD j zeroE) x = true) : ∀ y ∈ l.take (j + 1), lessE y x = true := by
  intro y hy
  rw [take_snoc hj rfl] at hy
  rcases List.mem_append.1 hy with hy | hy
  · exact h y hy
  · rw [List.mem_singleton.1 hy]; exact hl
set_option maxRecDepth 8000 in
set_option maxHeartbeats 8000000 in
theorem rPut_any (q : Option Addr) (n c : Nat) (l : List EntV) (x : EntV) (w : World) (h : EntsL w q n l) (hnc : n ≤ c) (hqn : q = none → c = 0) (l' : List EntV) (E : Nat) (hR : putE l x = (l', E)) :
    Calls Tryd.prog 16 #[.slice q n c, entV x] w fun e w' => (∃ uq uc, e = .returned (.tuple #[.slice uq l'.length uc, .int .i64 (E : Int)]) ∧ EOwn w' w.heap.size (.slice uq l'.length uc) l') ∧ Below w.heap.size w w' := by
  have HQ : Hid (EntsIn w q l) := h.lies
  have HN : Hid (n = l.length) := h.n
  have HNC : Hid (n ≤ c) := hnc
  have HQN : Hid (q = none → c = 0) := hqn
  have HRE : Hid (putE l x = (l', E)) := hR
  obtain ⟨C, hC⟩ : ∃ C, checkE l = C := ⟨_, rfl⟩
  obtain ⟨O, hO⟩ : ∃ O, oneE x = O := ⟨_, rfl⟩
  have HC : Hid (checkE l = C) := hC
  have HO : Hid (oneE x = O) := hO
  have HCK := fun w' hb => rCheck_any q n c l w' (h.below hb) C hC
  have H1 := fun w' => rone_any x w' O hO
  obtain ⟨ke, ve, se, ge⟩ := x
  simp only [entV_def] at H1 ⊢
  clear h hnc hqn hR hC hO
  have HXB : Hid ((w.alloc (.cells #[.string ke, .string ve, .int .i64 se, .bool ge] 23)).heap[w.heap.size]? = some (.cells #[.string ke, .string ve, .int .i64 se, .bool ge] 23 (0, 0))) := heap_alloc_new _ _
  go_enter Tryd.func16, Tryd.ntmps16
  go_wp2_with fail
  refine (HCK _ (below_alloc _ _)).mono ?_
  rintro e w2 ⟨rfl, hb2⟩
  have HB2 : Hid (Below w.heap.size w w2) := below_bt (below_alloc _ _) hb2
  have HX2 : Hid (w2.heap[w.heap.size]? = some (.cells #[.string ke, .string ve, .int .i64 se, .bool ge] 23 (0, 0))) := block_below' HXB.out hb2
  clear hb2 HCK HXB
  rcases Nat.eq_zero_or_pos C with h0 | h0
  · subst h0
    have HLE4 : Hid (n ≤ 4096) := by have := ((checkE_rise l).1 HC.out).1; have h2 := HN.out; show _ ≤ _; omega
    obtain ⟨x0, x1, x2, x3⟩ := four_cells HX2.out
    go_wp2_with fail
    refine (H1 _).mono ?_
    rintro e w3 ⟨rfl, hb3⟩
    have HB3 : Hid (Below w.heap.size w w3) := below_bt HB2.out hb3
    have HX3 : Hid (w3.heap[w.heap.size]? = some (.cells #[.string ke, .string ve, .int .i64 se, .bool ge] 23 (0, 0))) := block_below' HX2.out hb3
    clear hb3 H1 x0 x1 x2 x3
    rcases Nat.eq_zero_or_pos O with h0 | h0
    · subst h0
      go_wp2
      go_loopw [7] (fun a wr => ∃ j : Nat, j ≤ n ∧ a = .int .i64 (j : Int) ∧ (∀ y ∈ l.take j, lessE y ⟨ke, ve, se, ge⟩ = true) ∧ OnR w ⟨ke, ve, se, ge⟩ wr) (fun a _ => n - (intOf a).toNat)
      case atStart => exact ⟨0, by omega, rfl, by simp, HB3.out, HX3.out⟩
      case round =>
        obtain ⟨j, hj, rfl, hls, hon⟩ := hrel
        have HON : Hid (OnR w ⟨ke, ve, se, ge⟩ wr) := hon
        have HLS : Hid (∀ y ∈ l.take j, lessE y ⟨ke, ve, se, ge⟩ = true) := hls
        have HJN : Hid (j ≤ n) := hj
        have hjI0 : (0 : Int) ≤ (j : Int) := by omega
        have hjB : (j : Int) ≤ 5000 := by have := HLE4.out; omega
        have kw0 : IntKind.i64.wrap (j : Int) = (j : Int) := by rw [IntKind.wrap_i64]; have := HLE4.out; omega
        clear hon hls
        by_cases hjn : j < n
        · have hjI : (j : Int) < (n : Int) := by omega
          have hjD : decide (j < n) = true := decide_eq_true hjn
          have hjl : j < l.length := by have := HN.out; omega
          obtain ⟨b, o, rfl⟩ := HQ.out.addr (by omega)
          obtain ⟨y0, y1, y2, y3⟩ := (HQ.out.below HON.out.bel).at hjl
          obtain ⟨mE, hm⟩ : ∃ mE, l.getD j zeroE = mE := ⟨_, rfl⟩
          rw [hm] at y0 y1 y2 y3
          obtain ⟨r, hr⟩ : ∃ r, lessE mE ⟨ke, ve, se, ge⟩ = r := ⟨_, rfl⟩
          have HLE := fun w' => rless_any mE ⟨ke, ve, se, ge⟩ w'
          have HLX := fun w' => rless_any ⟨ke, ve, se, ge⟩ mE w'
          rw [hr] at HLE
          obtain ⟨r2, hr2⟩ : ∃ r2, lessE ⟨ke, ve, se, ge⟩ mE = r2 := ⟨_, rfl⟩
          rw [hr2] at HLX
          have HM : Hid (l.getD j zeroE = mE ∧ lessE mE ⟨ke, ve, se, ge⟩ = r ∧ lessE ⟨ke, ve, se, ge⟩ mE = r2 ∧ j < l.length) := ⟨hm, hr, hr2, hjl⟩
          clear hm hr hr2 hjl hjn hj
          obtain ⟨kx, vx, sx, gx⟩ := mE
          simp only at y0 y1 y2 y3
          simp only [entV_def] at HLE HLX
          have HKS : ∀ w', Below wr.heap.size wr w' → (w'.cell? ⟨b, o + j * 4, none⟩ = some (.string kx) ∧ w'.cell? ⟨b, o + j * 4 + 1, none⟩ = some (.string vx) ∧ w'.cell? ⟨b, o + j * 4 + 2, none⟩ = some (.int .i64 sx) ∧ w'.cell? ⟨b, o + j * 4 + 3, none⟩ = some (.bool gx)) ∧ (w'.cell? ⟨w.heap.size, 0, none⟩ = some (.string ke) ∧ w'.cell? ⟨w.heap.size, 1, none⟩ = some (.string ve) ∧ w'.cell? ⟨w.heap.size, 2, none⟩ = some (.int .i64 se) ∧ w'.cell? ⟨w.heap.size, 3, none⟩ = some (.bool ge)) ∧ Below wr.heap.size wr w' := fun w' hb => by
            obtain ⟨q0, q1, q2, q3⟩ := four_cells (block_below' HON.out.xb hb)
            exact ⟨⟨(hb.cell (World.block_lt_of_cell? _ _ y0)).trans y0, (hb.cell (World.block_lt_of_cell? _ _ y1)).trans y1, (hb.cell (World.block_lt_of_cell? _ _ y2)).trans y2, (hb.cell (World.block_lt_of_cell? _ _ y3)).trans y3⟩, ⟨q0, q1, q2, q3⟩, hb⟩
          have HKSH : Hid (∀ w', Below wr.heap.size wr w' → (w'.cell? ⟨b, o + j * 4, none⟩ = some (.string kx) ∧ w'.cell? ⟨b, o + j * 4 + 1, none⟩ = some (.string vx) ∧ w'.cell? ⟨b, o + j * 4 + 2, none⟩ = some (.int .i64 sx) ∧ w'.cell? ⟨b, o + j * 4 + 3, none⟩ = some (.bool gx)) ∧ (w'.cell? ⟨w.heap.size, 0, none⟩ = some (.string ke) ∧ w'.cell? ⟨w.heap.size, 1, none⟩ = some (.string ve) ∧ w'.cell? ⟨w.heap.size, 2, none⟩ = some (.int .i64 se) ∧ w'.cell? ⟨w.heap.size, 3, none⟩ = some (.bool ge)) ∧ Below wr.heap.size wr w') := HKS
          have HAL : Hid ((wr.cell? ⟨b, o + j * 4, none⟩ = some (.string kx) ∧ wr.cell? ⟨b, o + j * 4 + 1, none⟩ = some (.string vx) ∧ wr.cell? ⟨b, o + j * 4 + 2, none⟩ = some (.int .i64 sx) ∧ wr.cell? ⟨b, o + j * 4 + 3, none⟩ = some (.bool gx)) ∧ (wr.cell? ⟨w.heap.size, 0, none⟩ = some (.string ke) ∧ wr.cell? ⟨w.heap.size, 1, none⟩ = some (.string ve) ∧ wr.cell? ⟨w.heap.size, 2, none⟩ = some (.int .i64 se) ∧ wr.cell? ⟨w.heap.size, 3, none⟩ = some (.bool ge)) ∧ Below wr.heap.size wr wr) := HKS wr (Below.refl _ _)
          clear HKS y0 y1 y2 y3
          go_wp2
          go_region_held3 (fun w' => (w'.cell? ⟨b, o + j * 4, none⟩ = some (.string kx) ∧ w'.cell? ⟨b, o + j * 4 + 1, none⟩ = some (.string vx) ∧ w'.cell? ⟨b, o + j * 4 + 2, none⟩ = some (.int .i64 sx) ∧ w'.cell? ⟨b, o + j * 4 + 3, none⟩ = some (.bool gx)) ∧ (w'.cell? ⟨w.heap.size, 0, none⟩ = some (.string ke) ∧ w'.cell? ⟨w.heap.size, 1, none⟩ = some (.string ve) ∧ w'.cell? ⟨w.heap.size, 2, none⟩ = some (.int .i64 se) ∧ w'.cell? ⟨w.heap.size, 3, none⟩ = some (.bool ge)) ∧ Below wr.heap.size wr w')
            (with_reducible first | exact HAL.out | exact HKSH.out _ (Below.refl _ _).drew | exact HKSH.out _ (below_dw (by assumption)) | assumption)
            (first
              | (go_at_call 33; refine (HLE _).mono ?_; rintro e w4 ⟨rfl, hb4⟩)
              | fail)
          rename_i hh
          have HB4 : Hid (Below wr.heap.size wr w4) := hh.2.2
          have HON4 : Hid (OnR w ⟨ke, ve, se, ge⟩ w4) := HON.out.next hh.2.2
          clear hh hb4 HAL HLE
          cases r with
          | true =>
            go_wp2
            go_roundw
            case rel => exact ⟨j + 1, by have := HM.out.2.2.2; have := HN.out; omega, by go_num, place_snoc HLS.out HM.out.2.2.2 (by rw [HM.out.1]; exact HM.out.2.1), HON4.out⟩
            case measure => have := HM.out.2.2.2; have := HN.out; simp [intOf]; omega
          | false =>
            have hpk : placeE l ⟨ke, ve, se, ge⟩ = j := place_next HLS.out (by have := HM.out.2.2.2; omega) (.inr (by rw [HM.out.1]; exact HM.out.2.1))
            have HK : Hid (placeE l ⟨ke, ve, se, ge⟩ = j) := hpk
            have HINS : Hid (insE l ⟨ke, ve, se, ge⟩ = l.take j ++ [⟨ke, ve, se, ge⟩] ++ l.drop j) := by show _ = _; unfold insE; rw [hpk]; simp
            have HKS2 : ∀ w', Below w4.heap.size w4 w' → (w'.cell? ⟨b, o + j * 4, none⟩ = some (.string kx) ∧ w'.cell? ⟨b, o + j * 4 + 1, none⟩ = some (.string vx) ∧ w'.cell? ⟨b, o + j * 4 + 2, none⟩ = some (.int .i64 sx) ∧ w'.cell? ⟨b, o + j * 4 + 3, none⟩ = some (.bool gx)) ∧ (w'.cell? ⟨w.heap.size, 0, none⟩ = some (.string ke) ∧ w'.cell? ⟨w.heap.size, 1, none⟩ = some (.string ve) ∧ w'.cell? ⟨w.heap.size, 2, none⟩ = some (.int .i64 se) ∧ w'.cell? ⟨w.heap.size, 3, none⟩ = some (.bool ge)) ∧ Below w4.heap.size w4 w' := fun w' hb => by
              obtain ⟨a1, a2, a3⟩ := HKSH.out w' (below_bt HB4.out hb)
              exact ⟨a1, a2, hb⟩
            have HKSH2 : Hid (∀ w', Below w4.heap.size w4 w' → (w'.cell? ⟨b, o + j * 4, none⟩ = some (.string kx) ∧ w'.cell? ⟨b, o + j * 4 + 1, none⟩ = some (.string vx) ∧ w'.cell? ⟨b, o + j * 4 + 2, none⟩ = some (.int .i64 sx) ∧ w'.cell? ⟨b, o + j * 4 + 3, none⟩ = some (.bool gx)) ∧ (w'.cell? ⟨w.heap.size, 0, none⟩ = some (.string ke) ∧ w'.cell? ⟨w.heap.size, 1, none⟩ = some (.string ve) ∧ w'.cell? ⟨w.heap.size, 2, none⟩ = some (.int .i64 se) ∧ w'.cell? ⟨w.heap.size, 3, none⟩ = some (.bool ge)) ∧ Below w4.heap.size w4 w') := HKS2
            have HAL2 : Hid ((w4.cell? ⟨b, o + j * 4, none⟩ = some (.string kx) ∧ w4.cell? ⟨b, o + j * 4 + 1, none⟩ = some (.string vx) ∧ w4.cell? ⟨b, o + j * 4 + 2, none⟩ = some (.int .i64 sx) ∧ w4.cell? ⟨b, o + j * 4 + 3, none⟩ = some (.bool gx)) ∧ (w4.cell? ⟨w.heap.size, 0, none⟩ = some (.string ke) ∧ w4.cell? ⟨w.heap.size, 1, none⟩ = some (.string ve) ∧ w4.cell? ⟨w.heap.size, 2, none⟩ = some (.int .i64 se) ∧ w4.cell? ⟨w.heap.size, 3, none⟩ = some (.bool ge)) ∧ Below w4.heap.size w4 w4) := HKS2 w4 (Below.refl _ _)
            clear HKS2 hpk
            go_wp2
            go_region_held3 (fun w' => (w'.cell? ⟨b, o + j * 4, none⟩ = some (.string kx) ∧ w'.cell? ⟨b, o + j * 4 + 1, none⟩ = some (.string vx) ∧ w'.cell? ⟨b, o + j * 4 + 2, none⟩ = some (.int .i64 sx) ∧ w'.cell? ⟨b, o + j * 4 + 3, none⟩ = some (.bool gx)) ∧ (w'.cell? ⟨w.heap.size, 0, none⟩ = some (.string ke) ∧ w'.cell? ⟨w.heap.size, 1, none⟩ = some (.string ve) ∧ w'.cell? ⟨w.heap.size, 2, none⟩ = some (.int .i64 se) ∧ w'.cell? ⟨w.heap.size, 3, none⟩ = some (.bool ge)) ∧ Below w4.heap.size w4 w')
              (with_reducible first | exact HAL2.out | exact HKSH2.out _ (Below.refl _ _).drew | exact HKSH2.out _ (below_dw (by assumption)) | assumption)
              (first
                | (go_at_call 33; refine (HLX _).mono ?_; rintro e w5 ⟨rfl, hb5⟩)
                | fail)
            rename_i hh
            have HB5 : Hid (Below w.heap.size w w5) := (HON4.out.next hh.2.2).bel
            have HX5 : Hid (w5.heap[w.heap.size]? = some (.cells #[.string ke, .string ve, .int .i64 se, .bool ge] 23 (0, 0))) := (HON4.out.next hh.2.2).xb
            have HKN : Hid (j ≤ n) := HJN.out
            clear hh hb5 HKSH2 HAL2 HLX HKSH hjD
            cases r2 with
            | false =>
              have HE : Hid (l' = [] ∧ E = 100) := by
                have h := HRE.out
                unfold putE at h
                rw [if_neg (by simp [HC.out]), if_neg (by simp [HO.out]), if_pos (by rw [HK.out, HM.out.1]; exact ⟨HM.out.2.2.2, HM.out.2.2.1⟩)] at h
                exact ⟨(Prod.mk.inj h).1.symm, (Prod.mk.inj h).2.symm⟩
              go_wp2
              go_ret2
              exact ⟨⟨none, 0, by rw [HE.out.1, HE.out.2]; rfl, by rw [HE.out.1]; exact eown_nil _ _⟩, HB5.out⟩
            | true =>
              have HNS : Hid (¬ (placeE l ⟨ke, ve, se, ge⟩ < l.length ∧ lessE ⟨ke, ve, se, ge⟩ (l.getD (placeE l ⟨ke, ve, se, ge⟩) zeroE) = false)) := fun h => by
                have h2 := h.2
                rw [HK.out, HM.out.1, HM.out.2.2.1] at h2
                cases h2
              generalize (some ⟨b, o, none⟩ : Option Addr) = q at *
              by_cases hmany : n = 4096
              · have HE : Hid (l' = [] ∧ E = 4) := by
                  have h := HRE.out
                  unfold putE at h
                  rw [if_neg (by simp [HC.out]), if_neg (by simp [HO.out]), if_neg HNS.out, if_pos (by have := HN.out; omega)] at h
                  exact ⟨(Prod.mk.inj h).1.symm, (Prod.mk.inj h).2.symm⟩
                have hmI : (4096 : Int) ≤ (n : Int) := by omega
                clear hmany
                go_wp2
                go_ret2
                exact ⟨⟨none, 0, by rw [HE.out.1, HE.out.2]; rfl, by rw [HE.out.1]; exact eown_nil _ _⟩, HB5.out⟩
              · have HNM : Hid (n < 4096) := by have := HLE4.out; show _ < _; omega
                have hmI : decide ((4096 : Int) ≤ (n : Int)) = false := decide_eq_false (by have := HNM.out; omega)
                have hmI2 : decide (4096 ≤ n) = false := decide_eq_false (by have := HNM.out; omega)
                have HE : Hid (l' = insE l ⟨ke, ve, se, ge⟩ ∧ E = 0) := by
                  have h := HRE.out
                  unfold putE at h
                  rw [if_neg (by simp [HC.out]), if_neg (by simp [HO.out]), if_neg HNS.out, if_neg (by have := HN.out; have := HNM.out; omega)] at h
                  exact ⟨(Prod.mk.inj h).1.symm, (Prod.mk.inj h).2.symm⟩
                clear hmany
                have r0 := cutE_to q n c j HNC.out HKN.out
                obtain ⟨p', hcf0, hcin, hcz⟩ := cutE_from q n c j l HN.out HNC.out HKN.out HQN.out
                obtain ⟨m, hm⟩ : ∃ m, n - j = m := ⟨_, rfl⟩
                obtain ⟨d, hd⟩ : ∃ d, c - j = d := ⟨_, rfl⟩
                rw [hm, hd] at hcf0
                rw [hd] at hcz
                have hcf := hcf0
                have HP : Hid ((∀ w, EntsIn w q l → EntsIn w p' (l.drop j)) ∧ (p' = none → d = 0) ∧ m = (l.drop j).length ∧ j = (l.take j).length) := ⟨hcin, hcz, by rw [List.length_drop]; have := HN.out; omega, by rw [List.length_take]; have := HN.out; have := HKN.out; omega⟩
                clear hcf0 hcin hcz hm hd
                have HKB : Hid ((l.take j).length ≤ 4096 ∧ (l.drop j).length ≤ 4096) := by have a1 := HN.out; have a2 := HNM.out; rw [List.length_take, List.length_drop]; exact ⟨by omega, by omega⟩
                obtain ⟨i0, hi, hz0, hz1, hz2⟩ := info_parts' info_entry
                go_wp2_with (at_builtin; go_loud (refine wpList_append_ents _ rfl _ _ rfl w.heap.size (l.take j) q j c rfl rfl HP.out.2.2.2 ((HQ.out.below HB5.out).take' j) HQN.out (by have := HKB.out; omega) HB5.out.size ?_); intro va ua hoa hga; have HO1 : Hid (OnB w va (l.take j) ua) := ⟨hoa, HB5.out.grown hga HB5.out.size (fun k hk => by cases hk)⟩; have hxa : ua.heap[w.heap.size]? = some (.cells #[.string ke, .string ve, .int .i64 se, .bool ge] 23 (0, 0)) := (hga.block _ (lt_heap HX5.out) (by simp)).trans HX5.out; have HXA : Hid (ua.heap[w.heap.size]? = some (.cells #[.string ke, .string ve, .int .i64 se, .bool ge] 23 (0, 0))) := hxa; obtain ⟨a0, a1, a2, a3⟩ := four_cells hxa; have HOW : Hid (OnB w va (l.take j) (ua.alloc (.cells #[.string ke, .string ve, .int .i64 se, .bool ge] 23))) := HO1.out.next (below_alloc _ _); have HCL : Hid (∀ j u, [Value.string ke, .string ve, .int .i64 se, .bool ge][j]? = some u → (ua.alloc (.cells #[.string ke, .string ve, .int .i64 se, .bool ge] 23)).cell? ((⟨ua.heap.size, 0, none⟩ : Addr).add j) = some u) := ent_cells ua _ _ _ _ _; clear hoa hga hxa; go_wp2_with (at_builtin; go_loud (refine wpList_append_own _ rfl _ _ 25 rfl w.heap.size 23 i0 _ 4 48 Tryd.underlying25 hi hz0 hz1 hz2 rfl (by omega) va _ _ rfl HOW.out.own ⟨ua.heap.size, 0, none⟩ 1 1 [.string ke, .string ve, .int .i64 se, .bool ge] rfl rfl HCL.out (ent_one ke ve se ge) (by have := HKB.out; unfold maxLen; omega) (by have := HKB.out; omega) HOW.out.bel.size ?_); intro vb ub hob hgb _; obtain ⟨hq2, hc2, hva, _, _, _⟩ := HOW.out.own.form; subst hva; have HO2 : Hid (OnB w vb (l.take j ++ [⟨ke, ve, se, ge⟩]) ub) := HOW.out.app hgb hob; clear hob hgb a0 a1 a2 a3; go_wp2_with (at_builtin; go_loud (refine wpList_append_two _ rfl _ _ rfl w.heap.size vb (l.take j ++ [⟨ke, ve, se, ge⟩]) (l.drop j) p' m d rfl rfl HP.out.2.2.1 HO2.out.own (HP.out.1 _ (HQ.out.below HO2.out.bel)) HP.out.2.1 (by have := HKB.out; simp only [List.length_append, List.length_cons, List.length_nil]; omega) HO2.out.bel.size ?_); intro vc uc hoc hgc; have HO3 : Hid (OnB w vc (l.take j ++ [⟨ke, ve, se, ge⟩] ++ l.drop j) uc) := HO2.out.two hoc hgc; clear hoc hgc)))
                obtain ⟨qz, cz, rfl, _, _, _⟩ := HO3.out.own.form
                go_ret2
                refine ⟨⟨qz, cz, ?_, ?_⟩, HO3.out.bel⟩
                · rw [HE.out.1, HE.out.2, HINS.out]; rfl
                · rw [HE.out.1, HINS.out]; exact HO3.out.own
        · have hjI : (n : Int) ≤ (j : Int) := by omega
          have hjD : decide (j < n) = false := decide_eq_false hjn
          have hpk : placeE l ⟨ke, ve, se, ge⟩ = j := place_next HLS.out (by have := HN.out; omega) (.inl (by have := HN.out; omega))
          have HK : Hid (placeE l ⟨ke, ve, se, ge⟩ = j) := hpk
          have HINS : Hid (insE l ⟨ke, ve, se, ge⟩ = l.take j ++ [⟨ke, ve, se, ge⟩] ++ l.drop j) := by show _ = _; unfold insE; rw [hpk]; simp
          have HNS : Hid (¬ (placeE l ⟨ke, ve, se, ge⟩ < l.length ∧ lessE ⟨ke, ve, se, ge⟩ (l.getD (placeE l ⟨ke, ve, se, ge⟩) zeroE) = false)) := fun h => by have h1 := h.1; rw [HK.out] at h1; have := HN.out; omega
          have HKN : Hid (j ≤ n) := HJN.out
          clear hpk hjn hj
          go_wp2
          go_quiet (fail)
          rename Nat => n1
          go_wp2
          go_quiet (fail)
          have HB5 : Hid (Below w.heap.size w ((wr.drewN n1).drewN nq)) := below_drewN (below_drewN HON.out.bel _) _
          have HX5 : Hid (((wr.drewN n1).drewN nq).heap[w.heap.size]? = some (.cells #[.string ke, .string ve, .int .i64 se, .bool ge] 23 (0, 0))) := HON.out.xb
          generalize (wr.drewN n1).drewN nq = w5 at HB5 HX5 ⊢
          by_cases hmany : n = 4096
          · have HE : Hid (l' = [] ∧ E = 4) := by
              have h := HRE.out
              unfold putE at h
              rw [if_neg (by simp [HC.out]), if_neg (by simp [HO.out]), if_neg HNS.out, if_pos (by have := HN.out; omega)] at h
              exact ⟨(Prod.mk.inj h).1.symm, (Prod.mk.inj h).2.symm⟩
            have hmI : (4096 : Int) ≤ (n : Int) := by omega
            clear hmany
            go_wp2
            go_ret2
            exact ⟨⟨none, 0, by rw [HE.out.1, HE.out.2]; rfl, by rw [HE.out.1]; exact eown_nil _ _⟩, HB5.out⟩
          · have HNM : Hid (n < 4096) := by have := HLE4.out; show _ < _; omega
            have hmI : decide ((4096 : Int) ≤ (n : Int)) = false := decide_eq_false (by have := HNM.out; omega)
            have hmI2 : decide (4096 ≤ n) = false := decide_eq_false (by have := HNM.out; omega)
            have HE : Hid (l' = insE l ⟨ke, ve, se, ge⟩ ∧ E = 0) := by
              have h := HRE.out
              unfold putE at h
              rw [if_neg (by simp [HC.out]), if_neg (by simp [HO.out]), if_neg HNS.out, if_neg (by have := HN.out; have := HNM.out; omega)] at h
              exact ⟨(Prod.mk.inj h).1.symm, (Prod.mk.inj h).2.symm⟩
            clear hmany
            have r0 := cutE_to q n c j HNC.out HKN.out
            obtain ⟨p', hcf0, hcin, hcz⟩ := cutE_from q n c j l HN.out HNC.out HKN.out HQN.out
            obtain ⟨m, hm⟩ : ∃ m, n - j = m := ⟨_, rfl⟩
            obtain ⟨d, hd⟩ : ∃ d, c - j = d := ⟨_, rfl⟩
            rw [hm, hd] at hcf0
            rw [hd] at hcz
            have hcf := hcf0
            have HP : Hid ((∀ w, EntsIn w q l → EntsIn w p' (l.drop j)) ∧ (p' = none → d = 0) ∧ m = (l.drop j).length ∧ j = (l.take j).length) := ⟨hcin, hcz, by rw [List.length_drop]; have := HN.out; omega, by rw [List.length_take]; have := HN.out; have := HKN.out; omega⟩
            clear hcf0 hcin hcz hm hd
            have HKB : Hid ((l.take j).length ≤ 4096 ∧ (l.drop j).length ≤ 4096) := by have a1 := HN.out; have a2 := HNM.out; rw [List.length_take, List.length_drop]; exact ⟨by omega, by omega⟩
            obtain ⟨i0, hi, hz0, hz1, hz2⟩ := info_parts' info_entry
            go_wp2_with (at_builtin; go_loud (refine wpList_append_ents _ rfl _ _ rfl w.heap.size (l.take j) q j c rfl rfl HP.out.2.2.2 ((HQ.out.below HB5.out).take' j) HQN.out (by have := HKB.out; omega) HB5.out.size ?_); intro va ua hoa hga; have HO1 : Hid (OnB w va (l.take j) ua) := ⟨hoa, HB5.out.grown hga HB5.out.size (fun k hk => by cases hk)⟩; have hxa : ua.heap[w.heap.size]? = some (.cells #[.string ke, .string ve, .int .i64 se, .bool ge] 23 (0, 0)) := (hga.block _ (lt_heap HX5.out) (by simp)).trans HX5.out; have HXA : Hid (ua.heap[w.heap.size]? = some (.cells #[.string ke, .string ve, .int .i64 se, .bool ge] 23 (0, 0))) := hxa; obtain ⟨a0, a1, a2, a3⟩ := four_cells hxa; have HOW : Hid (OnB w va (l.take j) (ua.alloc (.cells #[.string ke, .string ve, .int .i64 se, .bool ge] 23))) := HO1.out.next (below_alloc _ _); have HCL : Hid (∀ j u, [Value.string ke, .string ve, .int .i64 se, .bool ge][j]? = some u → (ua.alloc (.cells #[.string ke, .string ve, .int .i64 se, .bool ge] 23)).cell? ((⟨ua.heap.size, 0, none⟩ : Addr).add j) = some u) := ent_cells ua _ _ _ _ _; clear hoa hga hxa; go_wp2_with (at_builtin; go_loud (refine wpList_append_own _ rfl _ _ 25 rfl w.heap.size 23 i0 _ 4 48 Tryd.underlying25 hi hz0 hz1 hz2 rfl (by omega) va _ _ rfl HOW.out.own ⟨ua.heap.size, 0, none⟩ 1 1 [.string ke, .string ve, .int .i64 se, .bool ge] rfl rfl HCL.out (ent_one ke ve se ge) (by have := HKB.out; unfold maxLen; omega) (by have := HKB.out; omega) HOW.out.bel.size ?_); intro vb ub hob hgb _; obtain ⟨hq2, hc2, hva, _, _, _⟩ := HOW.out.own.form; subst hva; have HO2 : Hid (OnB w vb (l.take j ++ [⟨ke, ve, se, ge⟩]) ub) := HOW.out.app hgb hob; clear hob hgb a0 a1 a2 a3; go_wp2_with (at_builtin; go_loud (refine wpList_append_two _ rfl _ _ rfl w.heap.size vb (l.take j ++ [⟨ke, ve, se, ge⟩]) (l.drop j) p' m d rfl rfl HP.out.2.2.1 HO2.out.own (HP.out.1 _ (HQ.out.below HO2.out.bel)) HP.out.2.1 (by have := HKB.out; simp only [List.length_append, List.length_cons, List.length_nil]; omega) HO2.out.bel.size ?_); intro vc uc hoc hgc; have HO3 : Hid (OnB w vc (l.take j ++ [⟨ke, ve, se, ge⟩] ++ l.drop j) uc) := HO2.out.two hoc hgc; clear hoc hgc)))
            obtain ⟨qz, cz, rfl, _, _, _⟩ := HO3.out.own.form
            go_ret2
            refine ⟨⟨qz, cz, ?_, ?_⟩, HO3.out.bel⟩
            · rw [HE.out.1, HE.out.2, HINS.out]; rfl
            · rw [HE.out.1, HINS.out]; exact HO3.out.own
    · have hO1 : ((O : Int) == 0) = false := by simp; omega
      have HOp : Hid (O ≠ 0) := by show _ ≠ _; omega
      clear h0
      have HE : Hid (l' = [] ∧ E = O) := by
        have h := HRE.out
        rw [putE_one HC.out (by rw [HO.out]; exact HOp.out), HO.out] at h
        exact ⟨(Prod.mk.inj h).1.symm, (Prod.mk.inj h).2.symm⟩
      go_wp2
      go_ret2
      exact ⟨⟨none, 0, by rw [HE.out.1, HE.out.2]; rfl, by rw [HE.out.1]; exact eown_nil _ _⟩, HB3.out⟩
  · have hO1 : ((C : Int) == 0) = false := by simp; omega
    have HOp : Hid (C ≠ 0) := by show _ ≠ _; omega
    clear h0
    have HE : Hid (l' = [] ∧ E = C) := by
      have h := HRE.out
      rw [putE_bad (by rw [HC.out]; exact HOp.out), HC.out] at h
      exact ⟨(Prod.mk.inj h).1.symm, (Prod.mk.inj h).2.symm⟩
    go_wp2
    go_ret2
    exact ⟨⟨none, 0, by rw [HE.out.1, HE.out.2]; rfl, by rw [HE.out.1]; exact eown_nil _ _⟩, HB2.out⟩
end Go.Proofs.YtbeoijlkhpbdjaaDoor
namespace Go.Proofs.YtbeoijlkhpbdjaaDoor
open Go.RowKit Go.WideShapes

def zd4 : Array Value := #[.string ⟨#[]⟩, .string ⟨#[]⟩, .int .i64 0, .bool false]
theorem boxz4 (w1 : World) {W w2 : World} (h : Below W.heap.size W w2) (hW : W.heap[w1.heap.size]? = some (.cells zd4 23 (0, 0))) :
    Hid (w2.heap[w1.heap.size]? = some (.cells zd4 23 (0, 0))) ∧ w2.cell? ⟨w1.heap.size, 0, none⟩ = some (.string ⟨#[]⟩) ∧ w2.cell? ⟨w1.heap.size, 1, none⟩ = some (.string ⟨#[]⟩) ∧ w2.cell? ⟨w1.heap.size, 2, none⟩ = some (.int .i64 0) ∧ w2.cell? ⟨w1.heap.size, 3, none⟩ = some (.bool false) ∧ w2.frozen? ⟨w1.heap.size, 0, none⟩ = false ∧ w2.frozen? ⟨w1.heap.size, 1, none⟩ = false ∧ w2.frozen? ⟨w1.heap.size, 2, none⟩ = false ∧ w2.frozen? ⟨w1.heap.size, 3, none⟩ = false := by
  have hh := (h.block _ (lt_heap hW)).trans hW
  exact ⟨hh, cell_of_row _ _ 0 _ _ _ hh, cell_of_row _ _ 1 _ _ _ hh, cell_of_row _ _ 2 _ _ _ hh, cell_of_row _ _ 3 _ _ _ hh, frozen_row hh 0, frozen_row hh 1, frozen_row hh 2, frozen_row hh 3⟩
structure BoxE (w0 w : World) (B : Nat) (cs : Array Value) : Prop where
  box : w.heap[B]? = some (.cells cs 23 (0, 0))
  bel : Below w0.heap.size w0 w
theorem boxe_behind {w1 w2 : World} {cs : Array Value} (hb : Below w1.heap.size w1 w2) : BoxE w1 (w2.alloc (.cells cs 23)) w2.heap.size cs := ⟨heap_alloc_new _ _, below_bt hb (below_alloc _ _)⟩
theorem boxe_ahead {w1 w2 : World} {a b c d : Value} (hz : w2.heap[w1.heap.size]? = some (.cells zd4 23 (0, 0))) (hb : Below w1.heap.size w1 w2) : BoxE w1 ((((w2.setCell ⟨w1.heap.size, 0, none⟩ a).setCell ⟨w1.heap.size, 1, none⟩ b).setCell ⟨w1.heap.size, 2, none⟩ c).setCell ⟨w1.heap.size, 3, none⟩ d) w1.heap.size #[a, b, c, d] := by
  have e0 := heap_setCell_same w2 w1.heap.size 0 _ _ a hz
  have e1 := heap_setCell_same _ w1.heap.size 1 _ _ b e0
  have e2 := heap_setCell_same _ w1.heap.size 2 _ _ c e1
  have e3 := heap_setCell_same _ w1.heap.size 3 _ _ d e2
  exact ⟨e3, set4_at hb (Nat.le_refl _)⟩
/-- While what All answered is written over. -/
structure OnZ (w0 : World) (g m : Nat) (wr : World) : Prop where
  bel : Below w0.heap.size w0 wr
  blk : ∃ cur, wr.heap[g]? = some (.cells cur 23 (0, 0)) ∧ m * 4 ≤ cur.size
theorem OnZ.cells {w0 wr : World} {g m i : Nat} (h : OnZ w0 g m wr) (hi : i < m * 4) : (∃ v, wr.cell? ⟨g, i, none⟩ = some v) ∧ wr.frozen? ⟨g, i, none⟩ = false := by
  obtain ⟨cur, h1, h2⟩ := h.blk
  exact ⟨⟨cur[i]'(by omega), (cell_of_row wr g i cur _ _ h1).trans (Array.getElem?_eq_getElem _)⟩, frozen_row h1 i⟩
theorem OnZ.set {w0 wr : World} {g m i : Nat} (h : OnZ w0 g m wr) (hg : w0.heap.size ≤ g) (v : Value) : OnZ w0 g m (wr.setCell ⟨g, i, none⟩ v) := by
  obtain ⟨cur, h1, h2⟩ := h.blk
  exact ⟨h.bel.setCell (p := ⟨g, i, none⟩) hg v, _, heap_setCell_same wr g i _ _ v h1, by simpa using h2⟩
theorem rows_form {wr : World} {B : Nat} {q : Option Addr} {n c : Nat} {l : List EntV} (h : EOwn wr B (.slice q n c) l) : n = l.length ∧ l.length ≤ c ∧ (q = none → c = 0) := by
  obtain ⟨q2, c2, e, h1, _, h3⟩ := h.form
  obtain ⟨e1, e2, e3⟩ := Value.slice.inj e
  subst e1 e3
  exact ⟨e2, h1, h3⟩
set_option maxRecDepth 8000 in
set_option maxHeartbeats 8000000 in
theorem law_rows (v : Value) (l : List EntV) (v1 : Value) (keys : List ByteArray) (v2 : Value) (seqs : List Int) (W : World) (hL : Laid W) (hv : Ents W v l) (hv1 : StrRow W v1 keys) (hv2 : IntRow W v2 seqs) :
    Calls Tryd.prog 4 #[v, v1, v2] W fun e W' => e = .returned (.bool true) ∧ Below W.heap.size W W' := by
  obtain ⟨q, c, rfl, hin, _, _, _⟩ := hv.lies
  obtain ⟨kq, kc, rfl, hki, _, _, _⟩ := hv1.lies
  obtain ⟨sq, sc, rfl, hsi⟩ := hv2.lies
  obtain ⟨n, hn⟩ : ∃ n, l.length = n := ⟨_, rfl⟩
  obtain ⟨nk, hnk⟩ : ∃ nk, keys.length = nk := ⟨_, rfl⟩
  obtain ⟨ns, hns⟩ : ∃ ns, seqs.length = ns := ⟨_, rfl⟩
  rw [hn, hnk, hns]
  have HN : Hid (l.length = n) := hn
  have HKN : Hid (keys.length = nk) := hnk
  have HSN : Hid (seqs.length = ns) := hns
  have HIN : Hid (EntsIn W q l) := hin
  have HKI : Hid (StrsIn W kq keys) := hki
  have HSI : Hid (IntsIn W sq seqs) := hsi
  have HL : Hid (Laid W) := hL
  have H2 : Hid (2 ≤ W.heap.size) := hL.size
  clear hv hv1 hv2 hin hki hsi hL hn hnk hns
  go_enter Tryd.func4, Tryd.ntmps4
  by_cases hbig : 200 < n
  · have g1 : (200 : Int) < (n : Int) := by omega
    clear hbig
    go_wp2
    go_ret
    exact ⟨rfl, Below.refl _ _⟩
  have HS : Hid (n ≤ 200) := by show _ ≤ _; omega
  have g1 : (n : Int) ≤ 200 := by omega
  clear hbig
  go_wp2_with fail
  refine (New_any _).mono ?_
  rintro e w2 ⟨rfl, hr1, hb2⟩
  obtain ⟨r1, hr1e⟩ : ∃ r1, W.heap.size + 3 = r1 := ⟨_, rfl⟩
  rw [hr1e] at hr1 ⊢
  have HZA : ∃ Z : Nat → Prop, Z = fun k => W.heap.size ≤ k := ⟨_, rfl⟩
  obtain ⟨Z, hZ⟩ := HZA
  have HA0 : Hid (OnW W Z r1 W.heap.size [] w2) := ⟨by rw [hZ]; exact hr1, HL.out.below hb2 HL.out.size, hb2, hb2.size⟩
  have HZW : Hid (∀ k, k < W.heap.size → ¬ Z k) := fun k hk h2 => by
    rw [hZ] at h2
    have : W.heap.size ≤ k := h2
    omega
  obtain ⟨E3, hE3⟩ : ∃ E3, W.heap.size = E3 := ⟨_, rfl⟩
  have HA0' : Hid (OnW W Z r1 E3 [] w2) := by rw [← hE3]; exact HA0
  have HEA : Hid (∀ k, E3 ≤ k → Z k) := fun k hk => by rw [hZ]; show W.heap.size ≤ k; omega
  clear hr1 hb2 hr1e hZ hE3 HA0
  go_wp2
  go_loopw [8, 9] (fun s i wr => ∃ k : Nat, k ≤ n ∧ i = .int .i64 (k : Int) ∧ (∃ uq uc, s = .slice uq (rowE [] (l.take k)).length uc ∧ EOwn wr W.heap.size (.slice uq (rowE [] (l.take k)).length uc) (rowE [] (l.take k))) ∧ OnW W Z r1 E3 (rowE [] (l.take k)) wr) (fun _ i _ => n - (intOf i).toNat)
  case atStart => exact ⟨0, by omega, rfl, ⟨none, 0, rfl, eown_nil _ _⟩, HA0'.out⟩
  case round =>
    obtain ⟨k, hk, rfl, ⟨uq, uc, rfl, hown⟩, hon⟩ := hrel
    obtain ⟨A, hA⟩ : ∃ A, rowE [] (l.take k) = A := ⟨_, rfl⟩
    rw [hA] at hown hon ⊢
    have HA : Hid (rowE [] (l.take k) = A) := hA
    have HON : Hid (OnW W Z r1 E3 A wr) := hon
    have HOW : Hid (EOwn wr W.heap.size (.slice uq A.length uc) A) := hown
    have HCA : Hid (checkE A = 0) := by show _ = _; rw [← hA]; exact rowE_check check_nil _
    have HAL : Hid (A.length ≤ 4096) := ((checkE_rise A).1 HCA.out).1
    clear hon hown hA HA0'
    by_cases hkn : k < n
    · have hkI : (k : Int) < (n : Int) := by omega
      have hkI0 : (0 : Int) ≤ (k : Int) := by omega
      have kw0 : IntKind.i64.wrap (k : Int) = (k : Int) := by rw [IntKind.wrap_i64]; have := HS.out; omega
      have HK : Hid (k < n) := hkn
      have hkl : k < l.length := by have := HN.out; omega
      have hen := HIN.out.below HON.out.bel
      obtain ⟨b, o, rfl⟩ := hen.addr (by omega)
      obtain ⟨x0, x1, x2, x3⟩ := hen.at hkl
      obtain ⟨x, hx⟩ : ∃ x, l.getD k zeroE = x := ⟨_, rfl⟩
      rw [hx] at x0 x1 x2 x3
      obtain ⟨P, e, hPe⟩ : ∃ P e, putE A x = (P, e) := ⟨_, _, rfl⟩
      obtain ⟨_, hfc, hfn⟩ := rows_form HOW.out
      obtain ⟨R, hRD⟩ : ∃ R, rowE [] (l.take (k + 1)) = R := ⟨_, rfl⟩
      have HRD : Hid (rowE [] (l.take (k + 1)) = R) := hRD
      have HST : Hid (stepE A x = R) := by show _ = _; rw [← HA.out, ← hRD]; exact row_next hkl hx
      have HPE : Hid (putE A x = (P, e)) := hPe
      have HCR : Hid (checkE R = 0) := by show _ = _; rw [← hRD]; exact rowE_check check_nil _
      have HEN : Hid (∀ u, Below W.heap.size W u → C4 u b (o + k * 4) (.string x.key) (.string x.val) (.int .i64 x.seq) (.bool x.gone)) := fun u hu => by
        have h := (HIN.out.below hu).at hkl
        rw [hx] at h
        exact h
      have hcl := HON.out.call HCA.out HZW.out H2.out HEA.out x R e HST.out (by rw [HPE.out])
      have HP := fun wx (hi : EntsIn wx uq A) => rPut_any uq A.length uc A x wx ⟨rfl, hi⟩ hfc hfn P e hPe
      clear hen hx hkl hkn hk hfc hfn hPe hRD
      obtain ⟨ke, ve, se, ge⟩ := x
      simp only at x0 x1 x2 x3 HEN
      rw [entV_def] at hcl
      simp only [entV_def] at HP
      go_wp2_with fail
      refine hcl.mono ?_
      rintro e' w3 ⟨rfl, hon3, hk3⟩
      have HON3 : Hid (OnW W Z r1 E3 R w3) := hon3
      have HOW3 : Hid (EOwn w3 W.heap.size (.slice uq A.length uc) A) := HOW.out.kept hk3
      have hp := HP w3 HOW3.out.ents
      clear hon3 hk3 hcl x0 x1 x2 x3 HP HON HOW
      obtain ⟨x0, x1, x2, x3⟩ := HEN.out w3 HON3.out.bel
      go_wp2_with fail
      refine hp.mono ?_
      rintro e' w5 ⟨⟨pq, pc, rfl, hpo⟩, hb5⟩
      have HPO : Hid (EOwn w5 W.heap.size (.slice pq P.length pc) P) := own_mono hpo HON3.out.bel.size
      have HOW5 : Hid (EOwn w5 W.heap.size (.slice uq A.length uc) A) := HOW3.out.below hb5
      have HON5 : Hid (OnW W Z r1 E3 R w5) := HON3.out.next hb5
      clear hp hpo hb5 x0 x1 x2 x3 HON3 HOW3
      rcases Nat.eq_zero_or_pos e with h0 | h0
      · subst h0
        have HLR : Hid (P = R) := by show _ = _; rw [← HST.out]; unfold stepE; rw [HPE.out, if_pos rfl]
        by_cases hk1 : k < nk
        · by_cases hk2 : k < ns
          · have kI1 : (k : Int) < (nk : Int) := by omega
            have kI2 : (k : Int) < (ns : Int) := by omega
            have kD1 : decide (k < nk) = true := decide_eq_true hk1
            have kD2 : decide (k < ns) = true := decide_eq_true hk2
            obtain ⟨kb, ko, rfl⟩ := HKI.out.addr (by have := HKN.out; omega)
            obtain ⟨sb, so, hse, hsc⟩ := HSI.out (by have := HSN.out; omega)
            subst hse
            obtain ⟨kk, hkk⟩ : ∃ kk, keys.getD k ByteArray.empty = kk := ⟨_, rfl⟩
            obtain ⟨ss, hss⟩ : ∃ ss, seqs.getD k 0 = ss := ⟨_, rfl⟩
            have c1 := HKI.out.at (i := k) (by have := HKN.out; omega)
            have c2 := hsc k (by have := HSN.out; omega)
            rw [hkk] at c1
            rw [hss] at c2
            have HC12 : Hid (∀ u, Below W.heap.size W u → u.cell? ⟨kb, ko + k, none⟩ = some (.string kk) ∧ u.cell? ⟨sb, so + k, none⟩ = some (.int .i64 ss) ∧ kb < u.heap.size ∧ sb < u.heap.size) := fun u hu => by
              have l1 := World.block_lt_of_cell? _ _ c1
              have l2 := World.block_lt_of_cell? _ _ c2
              exact ⟨(hu.cell l1).trans c1, (hu.cell l2).trans c2, Nat.lt_of_lt_of_le l1 hu.size, Nat.lt_of_lt_of_le l2 hu.size⟩
            clear c1 c2 hsc hkk hss hk1 hk2
            obtain ⟨y, is, E, hF⟩ : ∃ y is E, findL R kk ss = (y, is, E) := ⟨_, _, _, rfl⟩
            have HF1 : Hid (∀ w', Below w5.heap.size w5 w' → Calls Tryd.prog 11 #[.pointer (some ⟨r1, 0, none⟩), .string kk, .int .i64 ss] w' fun e w'' => e = .returned (.tuple #[entV y, .bool is, .int .i64 (E : Int)]) ∧ Below w'.heap.size w' w'') := fun w' hb => rowFind_any Z r1 R kk ss w' (HON5.out.row.below hb) HCR.out y is E hF
            have HF2 : Hid (∀ w', Below w5.heap.size w5 w' → Calls Tryd.prog 17 #[.slice pq P.length pc, .string kk, .int .i64 ss] w' fun e w'' => e = .returned (.tuple #[entV y, .bool is, .int .i64 (E : Int)]) ∧ Below w'.heap.size w' w'') := fun w' hb => rFind_any pq P.length pc P kk ss w' ⟨rfl, HPO.out.ents.below hb⟩ y is E (by rw [HLR.out]; exact hF)
            clear hF
            obtain ⟨ky, vy, sy, gy⟩ := y
            simp only [entV_def] at HF1 HF2
            obtain ⟨d1, d2, l1, l2⟩ := HC12.out w5 HON5.out.bel
            have hnew : ∀ o, (w5.alloc o).drew.heap[w5.heap.size]? = some o := fun o => heap_alloc_new w5 o
            go_wp2
            go_cut [13, 14, 15] from 66 to 105 (fun s13 s14 s15 wx => ∃ B, s13 = .pointer (some ⟨B, 0, none⟩) ∧ s14 = .bool is ∧ s15 = .int .i64 (E : Int) ∧ BoxE w5 wx B #[.string ky, .string vy, .int .i64 sy, .bool gy])
            case first =>
              go_region_with (go_at_call 11; refine (HF1.out _ ?_).mono ?_; (first | exact (Below.refl _ _).drew | exact ((Below.refl _ _).drew).alloc (by simp) _); rintro e w6 ⟨rfl, hb6⟩; have hz := boxz4 w5 hb6; try (simp only [hnew] at hz; obtain ⟨HZ, z0, z1, z2, z3, f0, f1, f2, f3⟩ := hz rfl))
              all_goals
                go_wp2
                go_meet
                case rel =>
                  first
                    | exact ⟨_, rfl, rfl, rfl, boxe_behind (below_dw hb6)⟩
                    | exact ⟨_, rfl, rfl, rfl, boxe_ahead HZ.out (((Below.refl w5.heap.size w5).alloc (Nat.le_refl _) _).drew.trans (hb6.mono (by simp)))⟩
            case rest =>
              obtain ⟨B1, rfl, rfl, rfl, hbx⟩ := hcut
              have HBX : Hid (BoxE w5 wc B1 #[.string ky, .string vy, .int .i64 sy, .bool gy]) := hbx
              clear hbx hnew d1 d2 l1 l2
              have HBW : Hid (Below W.heap.size W wc) := below_bt HON5.out.bel HBX.out.bel
              obtain ⟨d1, d2, l1, l2⟩ := HC12.out wc HBW.out
              have hnew : ∀ o, (wc.alloc o).drew.heap[wc.heap.size]? = some o := fun o => heap_alloc_new wc o
              have HF3 : Hid (∀ w', Below wc.heap.size wc w' → Calls Tryd.prog 17 #[.slice pq P.length pc, .string kk, .int .i64 ss] w' fun e w'' => e = .returned (.tuple #[.agg #[.string ky, .string vy, .int .i64 sy, .bool gy], .bool is, .int .i64 (E : Int)]) ∧ Below w'.heap.size w' w'') := fun w' hb => HF2.out w' (below_bt HBX.out.bel hb)
              generalize wc = wd at *
              go_wp2
              go_cut [16, 17, 18] from 80 to 105 (fun s16 s17 s18 wx => ∃ B, s16 = .pointer (some ⟨B, 0, none⟩) ∧ s17 = .bool is ∧ s18 = .int .i64 (E : Int) ∧ BoxE wd wx B #[.string ky, .string vy, .int .i64 sy, .bool gy])
              case first =>
                go_region_with (go_at_call 17; refine (HF3.out _ ?_).mono ?_; (first | exact (Below.refl _ _).drew | exact ((Below.refl _ _).drew).alloc (by simp) _); rintro e w6 ⟨rfl, hb6⟩; have hz := boxz4 wd hb6; try (simp only [hnew] at hz; obtain ⟨HZ, z0, z1, z2, z3, f0, f1, f2, f3⟩ := hz rfl))
                all_goals
                  go_wp2
                  go_meet
                  case rel =>
                    first
                      | exact ⟨_, rfl, rfl, rfl, boxe_behind (below_dw hb6)⟩
                      | exact ⟨_, rfl, rfl, rfl, boxe_ahead HZ.out (((Below.refl wd.heap.size wd).alloc (Nat.le_refl _) _).drew.trans (hb6.mono (by simp)))⟩
              case rest =>
                obtain ⟨B2, rfl, rfl, rfl, hbx⟩ := hcut
                have HBX2 : Hid (BoxE wd wc B2 #[.string ky, .string vy, .int .i64 sy, .bool gy]) := hbx
                clear hbx hnew d1 d2 l1 l2
                have HBT : Hid (Below w5.heap.size w5 wc) := below_bt HBX.out.bel HBX2.out.bel
                obtain ⟨a0, a1, a2, a3⟩ := four_cells (block_below' HBX.out.box HBX2.out.bel)
                obtain ⟨b0, b1, b2, b3⟩ := four_cells HBX2.out.box
                go_wp2
                go_roundw
                case rel => exact ⟨k + 1, HK.out, by go_num, ⟨pq, pc, by rw [HLR.out, HRD.out], by rw [HRD.out, ← HLR.out]; exact HPO.out.below HBT.out⟩, by rw [HRD.out]; exact HON5.out.next HBT.out⟩
                case measure => have := HK.out; simp [intOf]; omega
          · have kI1 : (k : Int) < (nk : Int) := by omega
            have kI2 : (ns : Int) ≤ (k : Int) := by omega
            have kD1 : decide (k < nk) = true := decide_eq_true hk1
            have kD2 : decide (k < ns) = false := decide_eq_false hk2
            clear hk1 hk2
            go_wp2
            go_roundw
            case rel => exact ⟨k + 1, HK.out, by go_num, ⟨pq, pc, by rw [HLR.out, HRD.out], by rw [HRD.out, ← HLR.out]; exact HPO.out⟩, by rw [HRD.out]; exact HON5.out⟩
            case measure => have := HK.out; simp [intOf]; omega
        · have kI1 : (nk : Int) ≤ (k : Int) := by omega
          have kD1 : decide (k < nk) = false := decide_eq_false hk1
          clear hk1
          go_wp2
          go_roundw
          case rel => exact ⟨k + 1, HK.out, by go_num, ⟨pq, pc, by rw [HLR.out, HRD.out], by rw [HRD.out, ← HLR.out]; exact HPO.out⟩, by rw [HRD.out]; exact HON5.out⟩
          case measure => have := HK.out; simp [intOf]; omega
      · have heI : ((e : Int) == 0) = false := by simp; omega
        have HLR : Hid (A = R) := by show _ = _; rw [← HST.out]; unfold stepE; rw [HPE.out, if_neg (by show ¬ e = 0; omega)]
        clear h0
        by_cases hk1 : k < nk
        · by_cases hk2 : k < ns
          · have kI1 : (k : Int) < (nk : Int) := by omega
            have kI2 : (k : Int) < (ns : Int) := by omega
            have kD1 : decide (k < nk) = true := decide_eq_true hk1
            have kD2 : decide (k < ns) = true := decide_eq_true hk2
            obtain ⟨kb, ko, rfl⟩ := HKI.out.addr (by have := HKN.out; omega)
            obtain ⟨sb, so, hse, hsc⟩ := HSI.out (by have := HSN.out; omega)
            subst hse
            obtain ⟨kk, hkk⟩ : ∃ kk, keys.getD k ByteArray.empty = kk := ⟨_, rfl⟩
            obtain ⟨ss, hss⟩ : ∃ ss, seqs.getD k 0 = ss := ⟨_, rfl⟩
            have c1 := HKI.out.at (i := k) (by have := HKN.out; omega)
            have c2 := hsc k (by have := HSN.out; omega)
            rw [hkk] at c1
            rw [hss] at c2
            have HC12 : Hid (∀ u, Below W.heap.size W u → u.cell? ⟨kb, ko + k, none⟩ = some (.string kk) ∧ u.cell? ⟨sb, so + k, none⟩ = some (.int .i64 ss) ∧ kb < u.heap.size ∧ sb < u.heap.size) := fun u hu => by
              have l1 := World.block_lt_of_cell? _ _ c1
              have l2 := World.block_lt_of_cell? _ _ c2
              exact ⟨(hu.cell l1).trans c1, (hu.cell l2).trans c2, Nat.lt_of_lt_of_le l1 hu.size, Nat.lt_of_lt_of_le l2 hu.size⟩
            clear c1 c2 hsc hkk hss hk1 hk2
            obtain ⟨y, is, E, hF⟩ : ∃ y is E, findL R kk ss = (y, is, E) := ⟨_, _, _, rfl⟩
            have HF1 : Hid (∀ w', Below w5.heap.size w5 w' → Calls Tryd.prog 11 #[.pointer (some ⟨r1, 0, none⟩), .string kk, .int .i64 ss] w' fun e w'' => e = .returned (.tuple #[entV y, .bool is, .int .i64 (E : Int)]) ∧ Below w'.heap.size w' w'') := fun w' hb => rowFind_any Z r1 R kk ss w' (HON5.out.row.below hb) HCR.out y is E hF
            have HF2 : Hid (∀ w', Below w5.heap.size w5 w' → Calls Tryd.prog 17 #[.slice uq A.length uc, .string kk, .int .i64 ss] w' fun e w'' => e = .returned (.tuple #[entV y, .bool is, .int .i64 (E : Int)]) ∧ Below w'.heap.size w' w'') := fun w' hb => rFind_any uq A.length uc A kk ss w' ⟨rfl, HOW5.out.ents.below hb⟩ y is E (by rw [HLR.out]; exact hF)
            clear hF
            obtain ⟨ky, vy, sy, gy⟩ := y
            simp only [entV_def] at HF1 HF2
            obtain ⟨d1, d2, l1, l2⟩ := HC12.out w5 HON5.out.bel
            have hnew : ∀ o, (w5.alloc o).drew.heap[w5.heap.size]? = some o := fun o => heap_alloc_new w5 o
            go_wp2
            go_cut [13, 14, 15] from 66 to 105 (fun s13 s14 s15 wx => ∃ B, s13 = .pointer (some ⟨B, 0, none⟩) ∧ s14 = .bool is ∧ s15 = .int .i64 (E : Int) ∧ BoxE w5 wx B #[.string ky, .string vy, .int .i64 sy, .bool gy])
            case first =>
              go_region_with (go_at_call 11; refine (HF1.out _ ?_).mono ?_; (first | exact (Below.refl _ _).drew | exact ((Below.refl _ _).drew).alloc (by simp) _); rintro e w6 ⟨rfl, hb6⟩; have hz := boxz4 w5 hb6; try (simp only [hnew] at hz; obtain ⟨HZ, z0, z1, z2, z3, f0, f1, f2, f3⟩ := hz rfl))
              all_goals
                go_wp2
                go_meet
                case rel =>
                  first
                    | exact ⟨_, rfl, rfl, rfl, boxe_behind (below_dw hb6)⟩
                    | exact ⟨_, rfl, rfl, rfl, boxe_ahead HZ.out (((Below.refl w5.heap.size w5).alloc (Nat.le_refl _) _).drew.trans (hb6.mono (by simp)))⟩
            case rest =>
              obtain ⟨B1, rfl, rfl, rfl, hbx⟩ := hcut
              have HBX : Hid (BoxE w5 wc B1 #[.string ky, .string vy, .int .i64 sy, .bool gy]) := hbx
              clear hbx hnew d1 d2 l1 l2
              have HBW : Hid (Below W.heap.size W wc) := below_bt HON5.out.bel HBX.out.bel
              obtain ⟨d1, d2, l1, l2⟩ := HC12.out wc HBW.out
              have hnew : ∀ o, (wc.alloc o).drew.heap[wc.heap.size]? = some o := fun o => heap_alloc_new wc o
              have HF3 : Hid (∀ w', Below wc.heap.size wc w' → Calls Tryd.prog 17 #[.slice uq A.length uc, .string kk, .int .i64 ss] w' fun e w'' => e = .returned (.tuple #[.agg #[.string ky, .string vy, .int .i64 sy, .bool gy], .bool is, .int .i64 (E : Int)]) ∧ Below w'.heap.size w' w'') := fun w' hb => HF2.out w' (below_bt HBX.out.bel hb)
              generalize wc = wd at *
              go_wp2
              go_cut [16, 17, 18] from 80 to 105 (fun s16 s17 s18 wx => ∃ B, s16 = .pointer (some ⟨B, 0, none⟩) ∧ s17 = .bool is ∧ s18 = .int .i64 (E : Int) ∧ BoxE wd wx B #[.string ky, .string vy, .int .i64 sy, .bool gy])
              case first =>
                go_region_with (go_at_call 17; refine (HF3.out _ ?_).mono ?_; (first | exact (Below.refl _ _).drew | exact ((Below.refl _ _).drew).alloc (by simp) _); rintro e w6 ⟨rfl, hb6⟩; have hz := boxz4 wd hb6; try (simp only [hnew] at hz; obtain ⟨HZ, z0, z1, z2, z3, f0, f1, f2, f3⟩ := hz rfl))
                all_goals
                  go_wp2
                  go_meet
                  case rel =>
                    first
                      | exact ⟨_, rfl, rfl, rfl, boxe_behind (below_dw hb6)⟩
                      | exact ⟨_, rfl, rfl, rfl, boxe_ahead HZ.out (((Below.refl wd.heap.size wd).alloc (Nat.le_refl _) _).drew.trans (hb6.mono (by simp)))⟩
              case rest =>
                obtain ⟨B2, rfl, rfl, rfl, hbx⟩ := hcut
                have HBX2 : Hid (BoxE wd wc B2 #[.string ky, .string vy, .int .i64 sy, .bool gy]) := hbx
                clear hbx hnew d1 d2 l1 l2
                have HBT : Hid (Below w5.heap.size w5 wc) := below_bt HBX.out.bel HBX2.out.bel
                obtain ⟨a0, a1, a2, a3⟩ := four_cells (block_below' HBX.out.box HBX2.out.bel)
                obtain ⟨b0, b1, b2, b3⟩ := four_cells HBX2.out.box
                go_wp2
                go_roundw
                case rel => exact ⟨k + 1, HK.out, by go_num, ⟨uq, uc, by rw [HLR.out, HRD.out], by rw [HRD.out, ← HLR.out]; exact HOW5.out.below HBT.out⟩, by rw [HRD.out]; exact HON5.out.next HBT.out⟩
                case measure => have := HK.out; simp [intOf]; omega
          · have kI1 : (k : Int) < (nk : Int) := by omega
            have kI2 : (ns : Int) ≤ (k : Int) := by omega
            have kD1 : decide (k < nk) = true := decide_eq_true hk1
            have kD2 : decide (k < ns) = false := decide_eq_false hk2
            clear hk1 hk2
            go_wp2
            go_roundw
            case rel => exact ⟨k + 1, HK.out, by go_num, ⟨uq, uc, by rw [HLR.out, HRD.out], by rw [HRD.out, ← HLR.out]; exact HOW5.out⟩, by rw [HRD.out]; exact HON5.out⟩
            case measure => have := HK.out; simp [intOf]; omega
        · have kI1 : (nk : Int) ≤ (k : Int) := by omega
          have kD1 : decide (k < nk) = false := decide_eq_false hk1
          clear hk1
          go_wp2
          go_roundw
          case rel => exact ⟨k + 1, HK.out, by go_num, ⟨uq, uc, by rw [HLR.out, HRD.out], by rw [HRD.out, ← HLR.out]; exact HOW5.out⟩, by rw [HRD.out]; exact HON5.out⟩
          case measure => have := HK.out; simp [intOf]; omega
    · have hkI : (n : Int) ≤ (k : Int) := by omega
      clear hkn hk
      have hA1 := fun wx (h : RowIn wx Z r1 A) => rowAll_any Z r1 A wx h HCA.out
      have HRW : Hid (RowIn wr Z r1 A) := HON.out.row
      have HBB : Hid (Below W.heap.size W wr) := HON.out.bel
      have HEI : Hid (EntsIn wr uq A) := HOW.out.ents
      clear HON HOW
      obtain ⟨m, hm⟩ : ∃ m, A.length = m := ⟨_, rfl⟩
      have HM : Hid (A.length = m) := hm
      rw [hm] at hA1 ⊢
      have hmI : (m : Int) ≤ 5000 := by have := HAL.out; omega
      clear hm
      go_wp2_with fail
      refine (hA1 wr HRW.out).mono ?_
      rintro e w3 ⟨⟨q1, c1, rfl, ho1⟩, hb3⟩
      have HO1 : Hid (EOwn w3 wr.heap.size (.slice q1 m c1) A) := ho1
      have HB3 : Hid (Below wr.heap.size wr w3) := hb3
      have hsm := rsame_yes q1 uq m c1 uc A w3 HM.out.symm (by omega) ho1.ents (HEI.out.below hb3)
      clear ho1 hb3
      go_wp2_with fail
      refine hsm.mono ?_
      rintro e w4 ⟨rfl, hb4⟩
      have HB4 : Hid (Below wr.heap.size wr w4) := below_bt HB3.out hb4
      have HOZ : Hid (0 < m → ∃ g, q1 = some ⟨g, 0, none⟩ ∧ wr.heap.size ≤ g ∧ OnZ wr g m w4) := fun h0 => by
        have h := HO1.out.below hb4
        rcases h.2 with ⟨_, h2⟩ | ⟨g, cap, cur, h1, h2, h3, h4, h5, h6, _⟩
        · have := HM.out; omega
        · obtain ⟨e1, _, e3⟩ := Value.slice.inj h1
          exact ⟨g, e1, h2, HB4.out, cur, h3, by rw [h6]; have := HM.out; omega⟩
      clear hb4 hsm HO1 HB3
      go_wp2
      generalize wr = wq at *
      rcases Nat.eq_zero_or_pos m with hm0 | hm0
      · subst hm0
        go_loopw [21] (fun i wx => i = .int .i64 0 ∧ wx = w4) (fun _ _ => 0)
        case atStart => exact ⟨rfl, rfl⟩
        case round =>
          obtain ⟨rfl, rfl⟩ := hrel
          have HZB : Hid (Below wq.heap.size wq wr) := HB4.out
          go_wp2_with fail
          refine (hA1 wr (HRW.out.below HZB.out)).mono ?_
          rintro e w8 ⟨⟨q2, c2, rfl, ho2⟩, hb8⟩
          have HB8 : Hid (Below W.heap.size W w8) := below_bt HBB.out (below_bt HZB.out hb8)
          have hsm2 := rsame_yes q2 uq 0 c2 uc A w8 HM.out.symm (by omega) ho2.ents (HEI.out.below (below_bt HZB.out hb8))
          clear ho2 hb8
          go_wp2_with fail
          refine hsm2.mono ?_
          rintro e w9 ⟨rfl, hb9⟩
          have HB9 : Hid (Below W.heap.size W w9) := below_bt HB8.out hb9
          clear hb9 hsm2
          go_wp2
          go_ret
          exact ⟨rfl, HB9.out⟩
      · obtain ⟨g, rfl, hg, hoz⟩ := HOZ.out hm0
        have HG : Hid (wq.heap.size ≤ g) := hg
        have HOZ0 : Hid (OnZ wq g m w4) := hoz
        clear hg hoz hm0 HOZ
        go_loopw [21] (fun i wx => ∃ j : Nat, j ≤ m ∧ i = .int .i64 (j : Int) ∧ OnZ wq g m wx) (fun i _ => m - (intOf i).toNat)
        case atStart => exact ⟨0, by omega, rfl, HOZ0.out⟩
        case round =>
          obtain ⟨j, hj, rfl, hoz⟩ := hrel
          have HO : Hid (OnZ wq g m wr) := hoz
          clear hoz
          by_cases hjm : j < m
          · have hjI : (j : Int) < (m : Int) := by omega
            have hjI0 : (0 : Int) ≤ (j : Int) := by omega
            have HJ : Hid (j < m) := hjm
            obtain ⟨⟨u0, c0⟩, f0⟩ := HO.out.cells (i := j * 4) (by omega)
            obtain ⟨⟨u1, c1'⟩, f1⟩ := HO.out.cells (i := j * 4 + 1) (by omega)
            obtain ⟨⟨u2, c2⟩, f2⟩ := HO.out.cells (i := j * 4 + 2) (by omega)
            obtain ⟨⟨u3, c3⟩, f3⟩ := HO.out.cells (i := j * 4 + 3) (by omega)
            clear hjm hj
            go_wp2
            go_roundw
            case rel => exact ⟨j + 1, HJ.out, by go_num, (((HO.out.set HG.out _).set HG.out _).set HG.out _).set HG.out _⟩
            case measure => have := HJ.out; simp [intOf]; omega
          · have hjI : (m : Int) ≤ (j : Int) := by omega
            clear hjm hj
            have HZB : Hid (Below wq.heap.size wq wr) := HO.out.bel
            go_wp2_with fail
            refine (hA1 wr (HRW.out.below HZB.out)).mono ?_
            rintro e w8 ⟨⟨q2, c2, rfl, ho2⟩, hb8⟩
            have HB8 : Hid (Below W.heap.size W w8) := below_bt HBB.out (below_bt HZB.out hb8)
            have hsm2 := rsame_yes q2 uq m c2 uc A w8 HM.out.symm (by omega) ho2.ents (HEI.out.below (below_bt HZB.out hb8))
            clear ho2 hb8
            go_wp2_with fail
            refine hsm2.mono ?_
            rintro e w9 ⟨rfl, hb9⟩
            have HB9 : Hid (Below W.heap.size W w9) := below_bt HB8.out hb9
            clear hb9 hsm2
            go_wp2
            go_ret
            exact ⟨rfl, HB9.out⟩
end Go.Proofs.YtbeoijlkhpbdjaaDoor
namespace Go.Proofs.YtbeoijlkhpbdjaaDoor.freshRows
open Go.ChangeShapes Go.WideShapes Go.ChangeAt Go.RowKit Go.Deep Go.Joins
open Go.ChangeMaps (open_string shut_string)
set_option linter.unusedVariables false

theorem own : ownKnob Tryd.prog.godebug = none := by kernel_rfl
theorem laidOut : laidOutB Tryd.prog = true := by kernel_rfl

set_option maxHeartbeats 4000000 in
set_option maxRecDepth 100000 in
theorem lifted (os : Os) (started : os.Started) (H : Type) (enc : TypeId × Value → H) :
    ReturnsInHanded {} Tryd.checked os 4 .any (fun w args => (Rows.freshRowsSpec.pre enc Tryd.prog Tryd.f4 [] false w args ∧ laidMetH Tryd.prog laidLs w) ∧ sizedMet enc Tryd.prog Tryd.f4 (OpenSpec.ofChange Rows.freshRowsSpec) false w args)
      (Rows.freshRowsSpec.post enc Tryd.prog Tryd.f4 false true false false) := by
  refine returnsInHanded_of_change_and (C := Tryd.checked) (X := fun w _ => laidMetH Tryd.prog laidLs w) (fun _ _ _ hh h => h.of_heap hh) own started (by kernel_rfl) Tryd.func4
    (ChangeSpec.witness_at (enc := enc) (C := Tryd.checked) (os := os) (X := fun w _ => laidMetH Tryd.prog laidLs w) false (laidWorld os) #[.slice none 0 0, .slice none 0 0, .slice none 0 0] 8 rfl (by kernel_rfl) (by kernel_rfl) (by kernel_rfl) (by kernel_rfl) (by kernel_rfl) (laidWorld_met os _)) ?_
  intro W base args ds gs before hval0 hW _ _ hL _
  have hval : ∀ (j : Nat) t v, Tryd.f4.params[j]? = some t → args[j]? = some v → Value.okWide Tryd.prog W .any base t v := hval0
  have hW' := hW
  obtain ⟨p, q, hA0, hV, rfl, hfz, hnd⟩ := hW
  have hA : DataW.TrodAll enc Tryd.prog W 0 (fun _ => true) true Tryd.f4.params.toList args.toList ds p := hA0
  rw [Tryd.params4] at hA hval
  obtain ⟨v0, vs0, d0, ds0, p0, q0, hargs, rfl, rfl, h0, r0⟩ := trodAll_cons hA
  obtain ⟨v1, vs1, d1, ds1, p1, q1, rfl, rfl, rfl, h1, r1⟩ := trodAll_cons r0
  obtain ⟨v2, vs2, d2, ds2, p2, q2, rfl, rfl, rfl, h2, r2⟩ := trodAll_cons r1
  obtain ⟨rfl, rfl, rfl⟩ := trodAll_nil r2
  obtain rfl : args = #[v0, v1, v2] := by cases args; simp_all
  obtain ⟨rfl, rfl⟩ := trodVars_none hV
  have k0 := h0
  have lt0 : ∀ x ∈ p0, x.block < W.heap.size := by obtain ⟨m, hm⟩ := k0; exact DataW.trod_lt m _ _ _ hm
  obtain ⟨qa0, la0, ca0, rfl⟩ := okWide_slice Tryd.underlying25 (hval 0 25 v0 rfl rfl)
  obtain ⟨fu0, hf0⟩ := h0
  obtain ⟨l0, w0⟩ := open_entries Tryd.underlying25 Tryd.underlying23 (by kernel_rfl) rfl rfl rfl rfl (by kernel_rfl) (by kernel_rfl) (by kernel_rfl) (by kernel_rfl) Tryd.underlying9 Tryd.underlying9 Tryd.underlying3 Tryd.underlying4 hf0
  have k1 := h1
  have lt1 : ∀ x ∈ p1, x.block < W.heap.size := by obtain ⟨m, hm⟩ := k1; exact DataW.trod_lt m _ _ _ hm
  obtain ⟨qa1, la1, ca1, rfl⟩ := okWide_slice Tryd.underlying40 (hval 1 40 v1 rfl rfl)
  obtain ⟨fu1, hf1⟩ := h1
  obtain ⟨l1, w1⟩ := open_strs Tryd.underlying40 Tryd.underlying9 (by kernel_rfl) hf1
  have k2 := h2
  have lt2 : ∀ x ∈ p2, x.block < W.heap.size := by obtain ⟨m, hm⟩ := k2; exact DataW.trod_lt m _ _ _ hm
  obtain ⟨qa2, la2, ca2, rfl⟩ := okWide_slice Tryd.underlying41 (hval 2 41 v2 rfl rfl)
  obtain ⟨fu2, hf2⟩ := h2
  obtain ⟨l2, w2⟩ := open_intsR Tryd.underlying41 Tryd.underlying3 (by kernel_rfl) hf2
  clear hA0 hval0
  refine (law_rows (.slice qa0 la0 ca0) l0 (.slice qa1 la1 ca1) l1 (.slice qa2 la2 ca2) l2 W (laid_of hL) w0 w1 w2).mono fun e W' ⟨he, bel⟩ => ?_
  subst he
  exact ⟨_, rfl, _, _, _, [], _, [], hW', trodAll_mk1 (shut_bool Tryd.underlying4 _), (trodAll_cons_mk (Below.trod laidOut (by kernel_rfl) (of_decide_eq_true (by kernel_rfl)) k0 bel lt0) (trodAll_cons_mk (Below.trod laidOut (by kernel_rfl) (of_decide_eq_true (by kernel_rfl)) k1 bel lt1) (trodAll_cons_mk (Below.trod laidOut (by kernel_rfl) (of_decide_eq_true (by kernel_rfl)) k2 bel lt2) trodAll_mk0))), rfl, bel.frame _, fun h => by cases h⟩

theorem over : Rows.FreshRowsSaid :=
  OpenClaim.holds_of_wide 4 Tryd.f4 rfl rfl rfl rfl rfl rfl rfl ⟨rfl, rfl, rfl, rfl, rfl⟩ rfl rfl rfl rfl rfl (by kernel_rfl) Tryd.func4 (by kernel_rfl)
    (of_decide_eq_true (by kernel_rfl)) (by unfold Func.isWrapper; first | (rw [if_pos (by decide +kernel)]; kernel_rfl) | (rw [if_neg (by decide +kernel)]; exact ⟨rfl, rfl⟩))
    (fun os started H enc _ => lifted os started H enc)
end Go.Proofs.YtbeoijlkhpbdjaaDoor.freshRows
namespace Go.Proofs.YtbeoijlkhpbdjaaDoor
open Go

theorem freshRows_card : Rows.FreshRowsCardSaid :=
  Claim7.holds_tied_plain_at .later [] [.data, .data] true (true, "1bc8f0705ab44bb7a2a0f148c5f08ef8bf3cf4a3f0089facf2d99ec70e84e4ce") false
    freshRows.over (fun _ h => by cases h) (by kernel_rfl) (fun _ h => by cases h) freshRows_row_tie rfl ⟨rfl, rfl⟩ (by kernel_rfl) rfl
    (fun f fn hf hfn => by
      obtain rfl : f = 4 := Option.some.inj ((show Tryd.prog.funcNamed "docket/docketlaw10.FreshRows" = some 4 by kernel_rfl).symm.trans hf) |>.symm
      obtain rfl : fn = Tryd.f4 := (Option.some.inj (Tryd.func4.symm.trans hfn)).symm
      exact ⟨by kernel_rfl, fun j t ht => by
        rw [Tryd.params4] at ht
        have h3 : t = 25 ∨ t = 40 ∨ t = 41 := by
          rcases j with _ | _ | _ | j
          · exact (.inl (by simpa using ht.symm))
          · exact (.inr (.inl (by simpa using ht.symm)))
          · exact (.inr (.inr (by simpa using ht.symm)))
          · simp at ht
        rcases h3 with rfl | rfl | rfl
        · exact (show Tryd.prog.wantsStandIn 25 = false by kernel_rfl)
        · exact (show Tryd.prog.wantsStandIn 40 = false by kernel_rfl)
        · exact (show Tryd.prog.wantsStandIn 41 = false by kernel_rfl)⟩)
    (by kernel_rfl)
#print axioms freshRows_card
end Go.Proofs.YtbeoijlkhpbdjaaDoor
