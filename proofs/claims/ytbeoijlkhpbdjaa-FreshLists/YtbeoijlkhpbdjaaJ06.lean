/-
  The law FreshLists holds: whatever entries, entry, key and number are handed in, a row gets one more entry, and is searched, as the document says; what is handed in stays, and what is answered is new memory.
-/
import Derived.Test.YtbeoijlkhpbdjaaJ05
import Derived.Test.YtbeoijlkhpbdjaaRows
import Derived.WalkKit
import Derived.ProofKit
import Derived.OpenShut
import Derived.ShutString
import Derived.ChangeOld
import Derived.Below
namespace Go.Proofs.Ytbeoijlkhpbdjaa
open Go.RowKit Go.WideShapes

set_option maxRecDepth 8000 in
set_option maxHeartbeats 4000000 in
theorem rCheck_any (q : Option Addr) (n c : Nat) (l : List EntV) (w : World) (h : EntsL w q n l) (C : Nat) (hC : checkE l = C) :
    Calls Try.prog 9 #[.slice q n c] w fun e w' => e = .returned (.int .i64 (C : Int)) ∧ Below w.heap.size w w' := by
  unfold checkE at hC
  have HN : Hid (n = l.length) := h.n
  by_cases hl : 4096 < l.length
  · rw [if_pos hl] at hC
    subst hC
    have g1 : (4096 : Int) < (n : Int) := by have := h.n; omega
    clear hl h
    go_enter Try.func9, Try.ntmps9
    go_wp2
    go_ret
    exact ⟨rfl, Below.refl _ _⟩
  rw [if_neg hl] at hC
  have g1 : (n : Int) ≤ 4096 := by have := h.n; omega
  have HQ : Hid (EntsIn w q l) := h.lies
  have HC : Hid (checkF (prevE l 0) (l.drop 0) = C) := hC
  clear hC h hl
  go_enter Try.func9, Try.ntmps9
  go_wp2
  go_loopw [3] (fun i wr => ∃ k : Nat, k ≤ n ∧ i = .int .i64 k ∧ checkF (prevE l k) (l.drop k) = C ∧ Below w.heap.size w wr) (fun i _ => n - (intOf i).toNat)
  case atStart => exact ⟨0, by omega, rfl, HC.out, Below.refl _ _⟩
  case round =>
    obtain ⟨k, hk, rfl, hs, hbel⟩ := hrel
    have HK : Hid (checkF (prevE l k) (l.drop k) = C) := hs
    have HB : Hid (Below w.heap.size w wr) := hbel
    clear hs hbel
    by_cases hkl : k < n
    · have g9 : decide (k < n) = true := decide_eq_true hkl
      have hkl' : k < l.length := by have := HN.out; omega
      obtain ⟨b, o, rfl⟩ := HQ.out.addr (by omega)
      have HQ2 := (HQ.out.below HB.out)
      obtain ⟨e0, e1, e2, e3⟩ := HQ2.at hkl'
      obtain ⟨y, hy⟩ : ∃ y, l.getD k zeroE = y := ⟨_, rfl⟩
      rw [hy] at e0 e1 e2 e3
      have HY : Hid (l.getD k zeroE = y) := hy
      obtain ⟨ke, ve, se, ge⟩ := y
      simp only at e0 e1 e2 e3
      obtain ⟨E, hE⟩ : ∃ E, oneE ⟨ke, ve, se, ge⟩ = E := ⟨_, rfl⟩
      have HE : Hid (oneE ⟨ke, ve, se, ge⟩ = E) := hE
      have HCE := fun w' => rone_any ⟨ke, ve, se, ge⟩ w' E hE
      rw [entV_def] at HCE
      have HBX : Hid (C4 wr b (o + k * 4) (.string ke) (.string ve) (.int .i64 se) (.bool ge)) := ⟨e0, e1, e2, e3⟩
      have hkn : (k : Int) < (n : Int) := by omega
      have HKL : Hid (k < l.length) := hkl'
      clear hE hy hkl'
      rcases Nat.eq_zero_or_pos E with hE0 | hE0
      · subst hE0
        rcases k with _ | k
        · have H2 : Hid (checkF (prevE l 1) (l.drop 1) = C) := by show _ = _; rw [← checkF_zero HKL.out HY.out HE.out]; exact HK.out
          clear HQ2
          simp only [Nat.zero_mul, Nat.add_zero] at e0 e1 e2 e3
          go_wp2_with fail
          refine (HCE _).mono ?_
          rintro e w2 ⟨rfl, hb2⟩
          have HB2 : Hid (Below w.heap.size w w2) := below_bt HB.out hb2
          clear hb2 HCE HBX
          go_wp2
          go_quiet (fail)
          go_wp2
          go_roundw
          case rel => exact ⟨1, by omega, by go_num, H2.out, below_drewN HB2.out _⟩
          case measure => simp [intOf]; omega
        · obtain ⟨x, hx⟩ : ∃ x, l.getD k zeroE = x := ⟨_, rfl⟩
          obtain ⟨kx, vx, sx, gx⟩ := x
          have h4 := HQ2.at (k := k) (by have := HKL.out; omega)
          rw [hx] at h4
          have HP : Hid (C4 wr b (o + k * 4) (.string kx) (.string vx) (.int .i64 sx) (.bool gx)) := h4
          have HNX := checkF_next HKL.out hx HY.out HE.out
          obtain ⟨r, hr⟩ : ∃ r, lessE ⟨kx, vx, sx, gx⟩ ⟨ke, ve, se, ge⟩ = r := ⟨_, rfl⟩
          have HLE := fun w' => rless_any ⟨kx, vx, sx, gx⟩ ⟨ke, ve, se, ge⟩ w'
          rw [hr, entV_def, entV_def] at HLE
          rw [hr, HK.out] at HNX
          have HNX' : Hid (C = if r = true then checkF (prevE l (k + 2)) (l.drop (k + 2)) else 100) := HNX
          clear hx hr HQ2 h4 HNX
          go_wp2_with fail
          refine (HCE _).mono ?_
          rintro e w2 ⟨rfl, hb2⟩
          have HD : Hid (C4 w2 b (o + (k + 1) * 4) (.string ke) (.string ve) (.int .i64 se) (.bool ge)) := c4_below HBX.out hb2
          have HP2 : Hid (C4 w2 b (o + k * 4) (.string kx) (.string vx) (.int .i64 sx) (.bool gx)) := c4_below HP.out hb2
          have HB2 : Hid (Below w.heap.size w w2) := below_bt HB.out hb2
          clear hb2 HCE HBX HP
          have kw0 : IntKind.i64.wrap (k : Int) = (k : Int) := by rw [IntKind.wrap_i64]; omega
          have kw1 : IntKind.i64.wrap ((k : Int) + 1 - 1) = (k : Int) := by rw [IntKind.wrap_i64]; omega
          have kw2 : IntKind.i64.wrap (((k + 1 : Nat) : Int) - 1) = (k : Int) := by rw [IntKind.wrap_i64]; omega
          have kb0 : (0 : Int) ≤ (k : Int) := by omega
          have kb2 : (0 : Int) ≤ (k : Int) + 1 := by omega
          have kb3 : (k : Int) + 1 < (n : Int) := by omega
          have kb4 : ((k : Int) + 1).toNat = k + 1 := by omega
          have kb1 : (k : Int) < (n : Int) := by omega
          go_wp2
          go_region_held3 (fun w' => (w'.cell? ⟨b, o + (k + 1) * 4, none⟩ = some (.string ke) ∧ w'.cell? ⟨b, o + (k + 1) * 4 + 1, none⟩ = some (.string ve) ∧ w'.cell? ⟨b, o + (k + 1) * 4 + 2, none⟩ = some (.int .i64 se) ∧ w'.cell? ⟨b, o + (k + 1) * 4 + 3, none⟩ = some (.bool ge)) ∧ (w'.cell? ⟨b, o + k * 4, none⟩ = some (.string kx) ∧ w'.cell? ⟨b, o + k * 4 + 1, none⟩ = some (.string vx) ∧ w'.cell? ⟨b, o + k * 4 + 2, none⟩ = some (.int .i64 sx) ∧ w'.cell? ⟨b, o + k * 4 + 3, none⟩ = some (.bool gx)) ∧ Below w2.heap.size w2 w')
            (with_reducible first | exact ⟨HD.out, HP2.out, Below.refl _ _⟩ | exact ⟨c4_below HD.out (Below.refl _ _).drew, c4_below HP2.out (Below.refl _ _).drew, (Below.refl _ _).drew⟩ | exact ⟨c4_below HD.out (below_dw (by assumption)), c4_below HP2.out (below_dw (by assumption)), below_dw (by assumption)⟩ | assumption)
            (first
              | (go_at_call 16; refine (HLE _).mono ?_; rintro e w3 ⟨rfl, hb3⟩)
              | fail)
          rename_i hh
          have HB3 : Hid (Below w.heap.size w w3) := below_bt HB2.out hh.2.2
          clear hh
          cases r with
          | true =>
            have H2 : Hid (checkF (prevE l (k + 2)) (l.drop (k + 2)) = C) := by have := HNX'.out; rw [if_pos rfl] at this; exact this.symm
            go_wp2
            go_roundw
            case rel => exact ⟨k + 2, by omega, by go_num, H2.out, HB3.out⟩
            case measure => simp [intOf]; omega
          | false =>
            have H2 : Hid (C = 100) := by have := HNX'.out; rw [if_neg (by simp)] at this; exact this
            go_wp2
            go_ret
            exact ⟨by rw [H2.out]; rfl, HB3.out⟩
      · have hne : ((E : Int) != 0) = true := by simp; omega
        have H2 : Hid (E = C) := by show _ = _; rw [← HK.out, checkF_one HKL.out HY.out (by rw [HE.out]; omega), HE.out]
        clear HQ2 hE0
        go_wp2_with fail
        refine (HCE _).mono ?_
        rintro e w2 ⟨rfl, hb2⟩
        have HB2 : Hid (Below w.heap.size w w2) := below_bt HB.out hb2
        clear hb2 HCE HBX
        go_wp2
        go_ret
        exact ⟨by rw [← H2.out]; rfl, HB2.out⟩
    · have g2 : (n : Int) ≤ (k : Int) := by omega
      have g9 : decide (k < n) = false := decide_eq_false hkl
      have H2 : Hid (C = 0) := by show _ = _; rw [← HK.out]; exact checkF_end l k (by have := HN.out; omega)
      go_wp2
      go_ret
      exact ⟨by rw [H2.out]; rfl, HB.out⟩
end Go.Proofs.Ytbeoijlkhpbdjaa
namespace Go.Proofs.Ytbeoijlkhpbdjaa
open Go.RowKit Go.WideShapes

structure OnR (w : World) (x : EntV) (wr : World) : Prop where
  bel : Below w.heap.size w wr
  xb : wr.heap[w.heap.size]? = some (.cells #[.string x.key, .string x.val, .int .i64 x.seq, .bool x.gone] 24 (0, 0))
theorem OnR.next {w wr w' : World} {x : EntV} (h : OnR w x wr) (hb : Below wr.heap.size wr w') : OnR w x w' := ⟨below_bt h.bel hb, block_below' h.xb hb⟩
theorem place_snoc {l : List EntV} {x : EntV} {j : Nat} (h : ∀ y ∈ l.take j, lessE y x = true) (hj : j < l.length) (hl : lessE (l.getD j zeroE) x = true) : ∀ y ∈ l.take (j + 1), lessE y x = true := by
  intro y hy
  rw [take_snoc hj rfl] at hy
  rcases List.mem_append.1 hy with hy | hy
  · exact h y hy
  · rw [List.mem_singleton.1 hy]; exact hl
set_option maxRecDepth 8000 in
set_option maxHeartbeats 8000000 in
theorem rPut_any (q : Option Addr) (n c : Nat) (l : List EntV) (x : EntV) (w : World) (h : EntsL w q n l) (hnc : n ≤ c) (hqn : q = none → c = 0) (l' : List EntV) (E : Nat) (hR : putE l x = (l', E)) :
    Calls Try.prog 5 #[.slice q n c, entV x] w fun e w' => (∃ uq uc, e = .returned (.tuple #[.slice uq l'.length uc, .int .i64 (E : Int)]) ∧ EOwn w' w.heap.size (.slice uq l'.length uc) l') ∧ Below w.heap.size w w' := by
  have HQ : Hid (EntsIn w q l) := h.lies
  have HN : Hid (n = l.length) := h.n
  have HNC : Hid (n ≤ c) := hnc
  have HQN : Hid (q = none → c = 0) := hqn
  have HRE : Hid (putE l x = (l', E)) := hR
  obtain ⟨C, hC⟩ : ∃ C, checkE l = C := ⟨_, rfl⟩
  obtain ⟨O, hO⟩ : ∃ O, oneE x = O := ⟨_, rfl⟩
  have HC : Hid (checkE l = C) := hC
  have HO : Hid (oneE x = O) := hO
  have HCK := fun w' hb => rCheck_any q n c l w' (h.below hb) C hC
  have H1 := fun w' => rone_any x w' O hO
  obtain ⟨ke, ve, se, ge⟩ := x
  simp only [entV_def] at H1 ⊢
  clear h hnc hqn hR hC hO
  have HXB : Hid ((w.alloc (.cells #[.string ke, .string ve, .int .i64 se, .bool ge] 24)).heap[w.heap.size]? = some (.cells #[.string ke, .string ve, .int .i64 se, .bool ge] 24 (0, 0))) := heap_alloc_new _ _
  go_enter Try.func5, Try.ntmps5
  go_wp2_with fail
  refine (HCK _ (below_alloc _ _)).mono ?_
  rintro e w2 ⟨rfl, hb2⟩
  have HB2 : Hid (Below w.heap.size w w2) := below_bt (below_alloc _ _) hb2
  have HX2 : Hid (w2.heap[w.heap.size]? = some (.cells #[.string ke, .string ve, .int .i64 se, .bool ge] 24 (0, 0))) := block_below' HXB.out hb2
  clear hb2 HCK HXB
  rcases Nat.eq_zero_or_pos C with h0 | h0
  · subst h0
    have HLE4 : Hid (n ≤ 4096) := by have := ((checkE_rise l).1 HC.out).1; have h2 := HN.out; show _ ≤ _; omega
    obtain ⟨x0, x1, x2, x3⟩ := four_cells HX2.out
    go_wp2_with fail
    refine (H1 _).mono ?_
    rintro e w3 ⟨rfl, hb3⟩
    have HB3 : Hid (Below w.heap.size w w3) := below_bt HB2.out hb3
    have HX3 : Hid (w3.heap[w.heap.size]? = some (.cells #[.string ke, .string ve, .int .i64 se, .bool ge] 24 (0, 0))) := block_below' HX2.out hb3
    clear hb3 H1 x0 x1 x2 x3
    rcases Nat.eq_zero_or_pos O with h0 | h0
    · subst h0
      go_wp2
      go_loopw [7] (fun a wr => ∃ j : Nat, j ≤ n ∧ a = .int .i64 (j : Int) ∧ (∀ y ∈ l.take j, lessE y ⟨ke, ve, se, ge⟩ = true) ∧ OnR w ⟨ke, ve, se, ge⟩ wr) (fun a _ => n - (intOf a).toNat)
      case atStart => exact ⟨0, by omega, rfl, by simp, HB3.out, HX3.out⟩
      case round =>
        obtain ⟨j, hj, rfl, hls, hon⟩ := hrel
        have HON : Hid (OnR w ⟨ke, ve, se, ge⟩ wr) := hon
        have HLS : Hid (∀ y ∈ l.take j, lessE y ⟨ke, ve, se, ge⟩ = true) := hls
        have HJN : Hid (j ≤ n) := hj
        have hjI0 : (0 : Int) ≤ (j : Int) := by omega
        have hjB : (j : Int) ≤ 5000 := by have := HLE4.out; omega
        have kw0 : IntKind.i64.wrap (j : Int) = (j : Int) := by rw [IntKind.wrap_i64]; have := HLE4.out; omega
        clear hon hls
        by_cases hjn : j < n
        · have hjI : (j : Int) < (n : Int) := by omega
          have hjD : decide (j < n) = true := decide_eq_true hjn
          have hjl : j < l.length := by have := HN.out; omega
          obtain ⟨b, o, rfl⟩ := HQ.out.addr (by omega)
          obtain ⟨y0, y1, y2, y3⟩ := (HQ.out.below HON.out.bel).at hjl
          obtain ⟨mE, hm⟩ : ∃ mE, l.getD j zeroE = mE := ⟨_, rfl⟩
          rw [hm] at y0 y1 y2 y3
          obtain ⟨r, hr⟩ : ∃ r, lessE mE ⟨ke, ve, se, ge⟩ = r := ⟨_, rfl⟩
          have HLE := fun w' => rless_any mE ⟨ke, ve, se, ge⟩ w'
          have HLX := fun w' => rless_any ⟨ke, ve, se, ge⟩ mE w'
          rw [hr] at HLE
          obtain ⟨r2, hr2⟩ : ∃ r2, lessE ⟨ke, ve, se, ge⟩ mE = r2 := ⟨_, rfl⟩
          rw [hr2] at HLX
          have HM : Hid (l.getD j zeroE = mE ∧ lessE mE ⟨ke, ve, se, ge⟩ = r ∧ lessE ⟨ke, ve, se, ge⟩ mE = r2 ∧ j < l.length) := ⟨hm, hr, hr2, hjl⟩
          clear hm hr hr2 hjl hjn hj
          obtain ⟨kx, vx, sx, gx⟩ := mE
          simp only at y0 y1 y2 y3
          simp only [entV_def] at HLE HLX
          have HKS : ∀ w', Below wr.heap.size wr w' → (w'.cell? ⟨b, o + j * 4, none⟩ = some (.string kx) ∧ w'.cell? ⟨b, o + j * 4 + 1, none⟩ = some (.string vx) ∧ w'.cell? ⟨b, o + j * 4 + 2, none⟩ = some (.int .i64 sx) ∧ w'.cell? ⟨b, o + j * 4 + 3, none⟩ = some (.bool gx)) ∧ (w'.cell? ⟨w.heap.size, 0, none⟩ = some (.string ke) ∧ w'.cell? ⟨w.heap.size, 1, none⟩ = some (.string ve) ∧ w'.cell? ⟨w.heap.size, 2, none⟩ = some (.int .i64 se) ∧ w'.cell? ⟨w.heap.size, 3, none⟩ = some (.bool ge)) ∧ Below wr.heap.size wr w' := fun w' hb => by
            obtain ⟨q0, q1, q2, q3⟩ := four_cells (block_below' HON.out.xb hb)
            exact ⟨⟨(hb.cell (World.block_lt_of_cell? _ _ y0)).trans y0, (hb.cell (World.block_lt_of_cell? _ _ y1)).trans y1, (hb.cell (World.block_lt_of_cell? _ _ y2)).trans y2, (hb.cell (World.block_lt_of_cell? _ _ y3)).trans y3⟩, ⟨q0, q1, q2, q3⟩, hb⟩
          have HKSH : Hid (∀ w', Below wr.heap.size wr w' → (w'.cell? ⟨b, o + j * 4, none⟩ = some (.string kx) ∧ w'.cell? ⟨b, o + j * 4 + 1, none⟩ = some (.string vx) ∧ w'.cell? ⟨b, o + j * 4 + 2, none⟩ = some (.int .i64 sx) ∧ w'.cell? ⟨b, o + j * 4 + 3, none⟩ = some (.bool gx)) ∧ (w'.cell? ⟨w.heap.size, 0, none⟩ = some (.string ke) ∧ w'.cell? ⟨w.heap.size, 1, none⟩ = some (.string ve) ∧ w'.cell? ⟨w.heap.size, 2, none⟩ = some (.int .i64 se) ∧ w'.cell? ⟨w.heap.size, 3, none⟩ = some (.bool ge)) ∧ Below wr.heap.size wr w') := HKS
          have HAL : Hid ((wr.cell? ⟨b, o + j * 4, none⟩ = some (.string kx) ∧ wr.cell? ⟨b, o + j * 4 + 1, none⟩ = some (.string vx) ∧ wr.cell? ⟨b, o + j * 4 + 2, none⟩ = some (.int .i64 sx) ∧ wr.cell? ⟨b, o + j * 4 + 3, none⟩ = some (.bool gx)) ∧ (wr.cell? ⟨w.heap.size, 0, none⟩ = some (.string ke) ∧ wr.cell? ⟨w.heap.size, 1, none⟩ = some (.string ve) ∧ wr.cell? ⟨w.heap.size, 2, none⟩ = some (.int .i64 se) ∧ wr.cell? ⟨w.heap.size, 3, none⟩ = some (.bool ge)) ∧ Below wr.heap.size wr wr) := HKS wr (Below.refl _ _)
          clear HKS y0 y1 y2 y3
          go_wp2
          go_region_held3 (fun w' => (w'.cell? ⟨b, o + j * 4, none⟩ = some (.string kx) ∧ w'.cell? ⟨b, o + j * 4 + 1, none⟩ = some (.string vx) ∧ w'.cell? ⟨b, o + j * 4 + 2, none⟩ = some (.int .i64 sx) ∧ w'.cell? ⟨b, o + j * 4 + 3, none⟩ = some (.bool gx)) ∧ (w'.cell? ⟨w.heap.size, 0, none⟩ = some (.string ke) ∧ w'.cell? ⟨w.heap.size, 1, none⟩ = some (.string ve) ∧ w'.cell? ⟨w.heap.size, 2, none⟩ = some (.int .i64 se) ∧ w'.cell? ⟨w.heap.size, 3, none⟩ = some (.bool ge)) ∧ Below wr.heap.size wr w')
            (with_reducible first | exact HAL.out | exact HKSH.out _ (Below.refl _ _).drew | exact HKSH.out _ (below_dw (by assumption)) | assumption)
            (first
              | (go_at_call 16; refine (HLE _).mono ?_; rintro e w4 ⟨rfl, hb4⟩)
              | fail)
          rename_i hh
          have HB4 : Hid (Below wr.heap.size wr w4) := hh.2.2
          have HON4 : Hid (OnR w ⟨ke, ve, se, ge⟩ w4) := HON.out.next hh.2.2
          clear hh hb4 HAL HLE
          cases r with
          | true =>
            go_wp2
            go_roundw
            case rel => exact ⟨j + 1, by have := HM.out.2.2.2; have := HN.out; omega, by go_num, place_snoc HLS.out HM.out.2.2.2 (by rw [HM.out.1]; exact HM.out.2.1), HON4.out⟩
            case measure => have := HM.out.2.2.2; have := HN.out; simp [intOf]; omega
          | false =>
            have hpk : placeE l ⟨ke, ve, se, ge⟩ = j := place_next HLS.out (by have := HM.out.2.2.2; omega) (.inr (by rw [HM.out.1]; exact HM.out.2.1))
            have HK : Hid (placeE l ⟨ke, ve, se, ge⟩ = j) := hpk
            have HINS : Hid (insE l ⟨ke, ve, se, ge⟩ = l.take j ++ [⟨ke, ve, se, ge⟩] ++ l.drop j) := by show _ = _; unfold insE; rw [hpk]; simp
            have HKS2 : ∀ w', Below w4.heap.size w4 w' → (w'.cell? ⟨b, o + j * 4, none⟩ = some (.string kx) ∧ w'.cell? ⟨b, o + j * 4 + 1, none⟩ = some (.string vx) ∧ w'.cell? ⟨b, o + j * 4 + 2, none⟩ = some (.int .i64 sx) ∧ w'.cell? ⟨b, o + j * 4 + 3, none⟩ = some (.bool gx)) ∧ (w'.cell? ⟨w.heap.size, 0, none⟩ = some (.string ke) ∧ w'.cell? ⟨w.heap.size, 1, none⟩ = some (.string ve) ∧ w'.cell? ⟨w.heap.size, 2, none⟩ = some (.int .i64 se) ∧ w'.cell? ⟨w.heap.size, 3, none⟩ = some (.bool ge)) ∧ Below w4.heap.size w4 w' := fun w' hb => by
              obtain ⟨a1, a2, a3⟩ := HKSH.out w' (below_bt HB4.out hb)
              exact ⟨a1, a2, hb⟩
            have HKSH2 : Hid (∀ w', Below w4.heap.size w4 w' → (w'.cell? ⟨b, o + j * 4, none⟩ = some (.string kx) ∧ w'.cell? ⟨b, o + j * 4 + 1, none⟩ = some (.string vx) ∧ w'.cell? ⟨b, o + j * 4 + 2, none⟩ = some (.int .i64 sx) ∧ w'.cell? ⟨b, o + j * 4 + 3, none⟩ = some (.bool gx)) ∧ (w'.cell? ⟨w.heap.size, 0, none⟩ = some (.string ke) ∧ w'.cell? ⟨w.heap.size, 1, none⟩ = some (.string ve) ∧ w'.cell? ⟨w.heap.size, 2, none⟩ = some (.int .i64 se) ∧ w'.cell? ⟨w.heap.size, 3, none⟩ = some (.bool ge)) ∧ Below w4.heap.size w4 w') := HKS2
            have HAL2 : Hid ((w4.cell? ⟨b, o + j * 4, none⟩ = some (.string kx) ∧ w4.cell? ⟨b, o + j * 4 + 1, none⟩ = some (.string vx) ∧ w4.cell? ⟨b, o + j * 4 + 2, none⟩ = some (.int .i64 sx) ∧ w4.cell? ⟨b, o + j * 4 + 3, none⟩ = some (.bool gx)) ∧ (w4.cell? ⟨w.heap.size, 0, none⟩ = some (.string ke) ∧ w4.cell? ⟨w.heap.size, 1, none⟩ = some (.string ve) ∧ w4.cell? ⟨w.heap.size, 2, none⟩ = some (.int .i64 se) ∧ w4.cell? ⟨w.heap.size, 3, none⟩ = some (.bool ge)) ∧ Below w4.heap.size w4 w4) := HKS2 w4 (Below.refl _ _)
            clear HKS2 hpk
            go_wp2
            go_region_held3 (fun w' => (w'.cell? ⟨b, o + j * 4, none⟩ = some (.string kx) ∧ w'.cell? ⟨b, o + j * 4 + 1, none⟩ = some (.string vx) ∧ w'.cell? ⟨b, o + j * 4 + 2, none⟩ = some (.int .i64 sx) ∧ w'.cell? ⟨b, o + j * 4 + 3, none⟩ = some (.bool gx)) ∧ (w'.cell? ⟨w.heap.size, 0, none⟩ = some (.string ke) ∧ w'.cell? ⟨w.heap.size, 1, none⟩ = some (.string ve) ∧ w'.cell? ⟨w.heap.size, 2, none⟩ = some (.int .i64 se) ∧ w'.cell? ⟨w.heap.size, 3, none⟩ = some (.bool ge)) ∧ Below w4.heap.size w4 w')
              (with_reducible first | exact HAL2.out | exact HKSH2.out _ (Below.refl _ _).drew | exact HKSH2.out _ (below_dw (by assumption)) | assumption)
              (first
                | (go_at_call 16; refine (HLX _).mono ?_; rintro e w5 ⟨rfl, hb5⟩)
                | fail)
            rename_i hh
            have HB5 : Hid (Below w.heap.size w w5) := (HON4.out.next hh.2.2).bel
            have HX5 : Hid (w5.heap[w.heap.size]? = some (.cells #[.string ke, .string ve, .int .i64 se, .bool ge] 24 (0, 0))) := (HON4.out.next hh.2.2).xb
            have HKN : Hid (j ≤ n) := HJN.out
            clear hh hb5 HKSH2 HAL2 HLX HKSH hjD
            cases r2 with
            | false =>
              have HE : Hid (l' = [] ∧ E = 100) := by
                have h := HRE.out
                unfold putE at h
                rw [if_neg (by simp [HC.out]), if_neg (by simp [HO.out]), if_pos (by rw [HK.out, HM.out.1]; exact ⟨HM.out.2.2.2, HM.out.2.2.1⟩)] at h
                exact ⟨(Prod.mk.inj h).1.symm, (Prod.mk.inj h).2.symm⟩
              go_wp2
              go_ret2
              exact ⟨⟨none, 0, by rw [HE.out.1, HE.out.2]; rfl, by rw [HE.out.1]; exact eown_nil _ _⟩, HB5.out⟩
            | true =>
              have HNS : Hid (¬ (placeE l ⟨ke, ve, se, ge⟩ < l.length ∧ lessE ⟨ke, ve, se, ge⟩ (l.getD (placeE l ⟨ke, ve, se, ge⟩) zeroE) = false)) := fun h => by
                have h2 := h.2
                rw [HK.out, HM.out.1, HM.out.2.2.1] at h2
                cases h2
              generalize (some ⟨b, o, none⟩ : Option Addr) = q at *
              by_cases hmany : n = 4096
              · have HE : Hid (l' = [] ∧ E = 4) := by
                  have h := HRE.out
                  unfold putE at h
                  rw [if_neg (by simp [HC.out]), if_neg (by simp [HO.out]), if_neg HNS.out, if_pos (by have := HN.out; omega)] at h
                  exact ⟨(Prod.mk.inj h).1.symm, (Prod.mk.inj h).2.symm⟩
                have hmI : (4096 : Int) ≤ (n : Int) := by omega
                clear hmany
                go_wp2
                go_ret2
                exact ⟨⟨none, 0, by rw [HE.out.1, HE.out.2]; rfl, by rw [HE.out.1]; exact eown_nil _ _⟩, HB5.out⟩
              · have HNM : Hid (n < 4096) := by have := HLE4.out; show _ < _; omega
                have hmI : decide ((4096 : Int) ≤ (n : Int)) = false := decide_eq_false (by have := HNM.out; omega)
                have hmI2 : decide (4096 ≤ n) = false := decide_eq_false (by have := HNM.out; omega)
                have HE : Hid (l' = insE l ⟨ke, ve, se, ge⟩ ∧ E = 0) := by
                  have h := HRE.out
                  unfold putE at h
                  rw [if_neg (by simp [HC.out]), if_neg (by simp [HO.out]), if_neg HNS.out, if_neg (by have := HN.out; have := HNM.out; omega)] at h
                  exact ⟨(Prod.mk.inj h).1.symm, (Prod.mk.inj h).2.symm⟩
                clear hmany
                have r0 := cutE_to q n c j HNC.out HKN.out
                obtain ⟨p', hcf0, hcin, hcz⟩ := cutE_from q n c j l HN.out HNC.out HKN.out HQN.out
                obtain ⟨m, hm⟩ : ∃ m, n - j = m := ⟨_, rfl⟩
                obtain ⟨d, hd⟩ : ∃ d, c - j = d := ⟨_, rfl⟩
                rw [hm, hd] at hcf0
                rw [hd] at hcz
                have hcf := hcf0
                have HP : Hid ((∀ w, EntsIn w q l → EntsIn w p' (l.drop j)) ∧ (p' = none → d = 0) ∧ m = (l.drop j).length ∧ j = (l.take j).length) := ⟨hcin, hcz, by rw [List.length_drop]; have := HN.out; omega, by rw [List.length_take]; have := HN.out; have := HKN.out; omega⟩
                clear hcf0 hcin hcz hm hd
                have HKB : Hid ((l.take j).length ≤ 4096 ∧ (l.drop j).length ≤ 4096) := by have a1 := HN.out; have a2 := HNM.out; rw [List.length_take, List.length_drop]; exact ⟨by omega, by omega⟩
                obtain ⟨i0, hi, hz0, hz1, hz2⟩ := info_parts' info_entry
                go_wp2_with (at_builtin; go_loud (refine wpList_append_ents _ rfl _ _ rfl w.heap.size (l.take j) q j c rfl rfl HP.out.2.2.2 ((HQ.out.below HB5.out).take' j) HQN.out (by have := HKB.out; omega) HB5.out.size ?_); intro va ua hoa hga; have HO1 : Hid (OnB w va (l.take j) ua) := ⟨hoa, HB5.out.grown hga HB5.out.size (fun k hk => by cases hk)⟩; have hxa : ua.heap[w.heap.size]? = some (.cells #[.string ke, .string ve, .int .i64 se, .bool ge] 24 (0, 0)) := (hga.block _ (lt_heap HX5.out) (by simp)).trans HX5.out; have HXA : Hid (ua.heap[w.heap.size]? = some (.cells #[.string ke, .string ve, .int .i64 se, .bool ge] 24 (0, 0))) := hxa; obtain ⟨a0, a1, a2, a3⟩ := four_cells hxa; have HOW : Hid (OnB w va (l.take j) (ua.alloc (.cells #[.string ke, .string ve, .int .i64 se, .bool ge] 24))) := HO1.out.next (below_alloc _ _); have HCL : Hid (∀ j u, [Value.string ke, .string ve, .int .i64 se, .bool ge][j]? = some u → (ua.alloc (.cells #[.string ke, .string ve, .int .i64 se, .bool ge] 24)).cell? ((⟨ua.heap.size, 0, none⟩ : Addr).add j) = some u) := ent_cells ua _ _ _ _ _; clear hoa hga hxa; go_wp2_with (at_builtin; go_loud (refine wpList_append_own _ rfl _ _ 22 rfl w.heap.size 24 i0 _ 4 48 Try.underlying22 hi hz0 hz1 hz2 rfl (by omega) va _ _ rfl HOW.out.own ⟨ua.heap.size, 0, none⟩ 1 1 [.string ke, .string ve, .int .i64 se, .bool ge] rfl rfl HCL.out (ent_one ke ve se ge) (by have := HKB.out; unfold maxLen; omega) (by have := HKB.out; omega) HOW.out.bel.size ?_); intro vb ub hob hgb _; obtain ⟨hq2, hc2, hva, _, _, _⟩ := HOW.out.own.form; subst hva; have HO2 : Hid (OnB w vb (l.take j ++ [⟨ke, ve, se, ge⟩]) ub) := HOW.out.app hgb hob; clear hob hgb a0 a1 a2 a3; go_wp2_with (at_builtin; go_loud (refine wpList_append_two _ rfl _ _ rfl w.heap.size vb (l.take j ++ [⟨ke, ve, se, ge⟩]) (l.drop j) p' m d rfl rfl HP.out.2.2.1 HO2.out.own (HP.out.1 _ (HQ.out.below HO2.out.bel)) HP.out.2.1 (by have := HKB.out; simp only [List.length_append, List.length_cons, List.length_nil]; omega) HO2.out.bel.size ?_); intro vc uc hoc hgc; have HO3 : Hid (OnB w vc (l.take j ++ [⟨ke, ve, se, ge⟩] ++ l.drop j) uc) := HO2.out.two hoc hgc; clear hoc hgc)))
                obtain ⟨qz, cz, rfl, _, _, _⟩ := HO3.out.own.form
                go_ret2
                refine ⟨⟨qz, cz, ?_, ?_⟩, HO3.out.bel⟩
                · rw [HE.out.1, HE.out.2, HINS.out]; rfl
                · rw [HE.out.1, HINS.out]; exact HO3.out.own
        · have hjI : (n : Int) ≤ (j : Int) := by omega
          have hjD : decide (j < n) = false := decide_eq_false hjn
          have hpk : placeE l ⟨ke, ve, se, ge⟩ = j := place_next HLS.out (by have := HN.out; omega) (.inl (by have := HN.out; omega))
          have HK : Hid (placeE l ⟨ke, ve, se, ge⟩ = j) := hpk
          have HINS : Hid (insE l ⟨ke, ve, se, ge⟩ = l.take j ++ [⟨ke, ve, se, ge⟩] ++ l.drop j) := by show _ = _; unfold insE; rw [hpk]; simp
          have HNS : Hid (¬ (placeE l ⟨ke, ve, se, ge⟩ < l.length ∧ lessE ⟨ke, ve, se, ge⟩ (l.getD (placeE l ⟨ke, ve, se, ge⟩) zeroE) = false)) := fun h => by have h1 := h.1; rw [HK.out] at h1; have := HN.out; omega
          have HKN : Hid (j ≤ n) := HJN.out
          clear hpk hjn hj
          go_wp2
          go_quiet (fail)
          rename Nat => n1
          go_wp2
          go_quiet (fail)
          have HB5 : Hid (Below w.heap.size w ((wr.drewN n1).drewN nq)) := below_drewN (below_drewN HON.out.bel _) _
          have HX5 : Hid (((wr.drewN n1).drewN nq).heap[w.heap.size]? = some (.cells #[.string ke, .string ve, .int .i64 se, .bool ge] 24 (0, 0))) := HON.out.xb
          generalize (wr.drewN n1).drewN nq = w5 at HB5 HX5 ⊢
          by_cases hmany : n = 4096
          · have HE : Hid (l' = [] ∧ E = 4) := by
              have h := HRE.out
              unfold putE at h
              rw [if_neg (by simp [HC.out]), if_neg (by simp [HO.out]), if_neg HNS.out, if_pos (by have := HN.out; omega)] at h
              exact ⟨(Prod.mk.inj h).1.symm, (Prod.mk.inj h).2.symm⟩
            have hmI : (4096 : Int) ≤ (n : Int) := by omega
            clear hmany
            go_wp2
            go_ret2
            exact ⟨⟨none, 0, by rw [HE.out.1, HE.out.2]; rfl, by rw [HE.out.1]; exact eown_nil _ _⟩, HB5.out⟩
          · have HNM : Hid (n < 4096) := by have := HLE4.out; show _ < _; omega
            have hmI : decide ((4096 : Int) ≤ (n : Int)) = false := decide_eq_false (by have := HNM.out; omega)
            have hmI2 : decide (4096 ≤ n) = false := decide_eq_false (by have := HNM.out; omega)
            have HE : Hid (l' = insE l ⟨ke, ve, se, ge⟩ ∧ E = 0) := by
              have h := HRE.out
              unfold putE at h
              rw [if_neg (by simp [HC.out]), if_neg (by simp [HO.out]), if_neg HNS.out, if_neg (by have := HN.out; have := HNM.out; omega)] at h
              exact ⟨(Prod.mk.inj h).1.symm, (Prod.mk.inj h).2.symm⟩
            clear hmany
            have r0 := cutE_to q n c j HNC.out HKN.out
            obtain ⟨p', hcf0, hcin, hcz⟩ := cutE_from q n c j l HN.out HNC.out HKN.out HQN.out
            obtain ⟨m, hm⟩ : ∃ m, n - j = m := ⟨_, rfl⟩
            obtain ⟨d, hd⟩ : ∃ d, c - j = d := ⟨_, rfl⟩
            rw [hm, hd] at hcf0
            rw [hd] at hcz
            have hcf := hcf0
            have HP : Hid ((∀ w, EntsIn w q l → EntsIn w p' (l.drop j)) ∧ (p' = none → d = 0) ∧ m = (l.drop j).length ∧ j = (l.take j).length) := ⟨hcin, hcz, by rw [List.length_drop]; have := HN.out; omega, by rw [List.length_take]; have := HN.out; have := HKN.out; omega⟩
            clear hcf0 hcin hcz hm hd
            have HKB : Hid ((l.take j).length ≤ 4096 ∧ (l.drop j).length ≤ 4096) := by have a1 := HN.out; have a2 := HNM.out; rw [List.length_take, List.length_drop]; exact ⟨by omega, by omega⟩
            obtain ⟨i0, hi, hz0, hz1, hz2⟩ := info_parts' info_entry
            go_wp2_with (at_builtin; go_loud (refine wpList_append_ents _ rfl _ _ rfl w.heap.size (l.take j) q j c rfl rfl HP.out.2.2.2 ((HQ.out.below HB5.out).take' j) HQN.out (by have := HKB.out; omega) HB5.out.size ?_); intro va ua hoa hga; have HO1 : Hid (OnB w va (l.take j) ua) := ⟨hoa, HB5.out.grown hga HB5.out.size (fun k hk => by cases hk)⟩; have hxa : ua.heap[w.heap.size]? = some (.cells #[.string ke, .string ve, .int .i64 se, .bool ge] 24 (0, 0)) := (hga.block _ (lt_heap HX5.out) (by simp)).trans HX5.out; have HXA : Hid (ua.heap[w.heap.size]? = some (.cells #[.string ke, .string ve, .int .i64 se, .bool ge] 24 (0, 0))) := hxa; obtain ⟨a0, a1, a2, a3⟩ := four_cells hxa; have HOW : Hid (OnB w va (l.take j) (ua.alloc (.cells #[.string ke, .string ve, .int .i64 se, .bool ge] 24))) := HO1.out.next (below_alloc _ _); have HCL : Hid (∀ j u, [Value.string ke, .string ve, .int .i64 se, .bool ge][j]? = some u → (ua.alloc (.cells #[.string ke, .string ve, .int .i64 se, .bool ge] 24)).cell? ((⟨ua.heap.size, 0, none⟩ : Addr).add j) = some u) := ent_cells ua _ _ _ _ _; clear hoa hga hxa; go_wp2_with (at_builtin; go_loud (refine wpList_append_own _ rfl _ _ 22 rfl w.heap.size 24 i0 _ 4 48 Try.underlying22 hi hz0 hz1 hz2 rfl (by omega) va _ _ rfl HOW.out.own ⟨ua.heap.size, 0, none⟩ 1 1 [.string ke, .string ve, .int .i64 se, .bool ge] rfl rfl HCL.out (ent_one ke ve se ge) (by have := HKB.out; unfold maxLen; omega) (by have := HKB.out; omega) HOW.out.bel.size ?_); intro vb ub hob hgb _; obtain ⟨hq2, hc2, hva, _, _, _⟩ := HOW.out.own.form; subst hva; have HO2 : Hid (OnB w vb (l.take j ++ [⟨ke, ve, se, ge⟩]) ub) := HOW.out.app hgb hob; clear hob hgb a0 a1 a2 a3; go_wp2_with (at_builtin; go_loud (refine wpList_append_two _ rfl _ _ rfl w.heap.size vb (l.take j ++ [⟨ke, ve, se, ge⟩]) (l.drop j) p' m d rfl rfl HP.out.2.2.1 HO2.out.own (HP.out.1 _ (HQ.out.below HO2.out.bel)) HP.out.2.1 (by have := HKB.out; simp only [List.length_append, List.length_cons, List.length_nil]; omega) HO2.out.bel.size ?_); intro vc uc hoc hgc; have HO3 : Hid (OnB w vc (l.take j ++ [⟨ke, ve, se, ge⟩] ++ l.drop j) uc) := HO2.out.two hoc hgc; clear hoc hgc)))
            obtain ⟨qz, cz, rfl, _, _, _⟩ := HO3.out.own.form
            go_ret2
            refine ⟨⟨qz, cz, ?_, ?_⟩, HO3.out.bel⟩
            · rw [HE.out.1, HE.out.2, HINS.out]; rfl
            · rw [HE.out.1, HINS.out]; exact HO3.out.own
    · have hO1 : ((O : Int) == 0) = false := by simp; omega
      have HOp : Hid (O ≠ 0) := by show _ ≠ _; omega
      clear h0
      have HE : Hid (l' = [] ∧ E = O) := by
        have h := HRE.out
        rw [putE_one HC.out (by rw [HO.out]; exact HOp.out), HO.out] at h
        exact ⟨(Prod.mk.inj h).1.symm, (Prod.mk.inj h).2.symm⟩
      go_wp2
      go_ret2
      exact ⟨⟨none, 0, by rw [HE.out.1, HE.out.2]; rfl, by rw [HE.out.1]; exact eown_nil _ _⟩, HB3.out⟩
  · have hO1 : ((C : Int) == 0) = false := by simp; omega
    have HOp : Hid (C ≠ 0) := by show _ ≠ _; omega
    clear h0
    have HE : Hid (l' = [] ∧ E = C) := by
      have h := HRE.out
      rw [putE_bad (by rw [HC.out]; exact HOp.out), HC.out] at h
      exact ⟨(Prod.mk.inj h).1.symm, (Prod.mk.inj h).2.symm⟩
    go_wp2
    go_ret2
    exact ⟨⟨none, 0, by rw [HE.out.1, HE.out.2]; rfl, by rw [HE.out.1]; exact eown_nil _ _⟩, HB2.out⟩
end Go.Proofs.Ytbeoijlkhpbdjaa
namespace Go.Proofs.Ytbeoijlkhpbdjaa
open Go.RowKit Go.WideShapes

abbrev zE : Array Value := #[.string ⟨#[]⟩, .string ⟨#[]⟩, .int .i64 0, .bool false]
set_option maxRecDepth 8000 in
set_option maxHeartbeats 2000000 in
theorem rNewest_any (q : Option Addr) (n c : Nat) (l : List EntV) (key : ByteArray) (seq : Int) (w : World) (h : EntsL w q n l) (hz : n ≤ 1000000) (y : EntV) (is : Bool) (hR : newL l key seq = (y, is)) :
    Calls Try.prog 17 #[.slice q n c, .string key, .int .i64 seq] w fun e w' => e = .returned (.tuple #[entV y, .bool is]) ∧ Below w.heap.size w w' := by
  have HE : Hid (EntsIn w q l ∧ n = l.length) := ⟨h.lies, h.n⟩
  have hzI : (n : Int) ≤ 1000000 := by omega
  have HR : Hid (newL (l.drop 0) key seq = (y, is)) := hR
  have HNW : Hid (Below w.heap.size w (w.alloc (.cells zE 24)) ∧ (w.alloc (.cells zE 24)).heap[w.heap.size]? = some (.cells zE 24 (0, 0))) := ⟨below_alloc _ _, heap_alloc_new _ _⟩
  clear h hR
  go_enter Try.func17, Try.ntmps17
  go_wp2
  go_loopw [8] (fun i wr => ∃ k : Nat, k ≤ n ∧ i = .int .i64 k ∧ newL (l.drop k) key seq = (y, is) ∧ Below w.heap.size w wr ∧ wr.heap[w.heap.size]? = some (.cells zE 24 (0, 0))) (fun i _ => n - (intOf i).toNat)
  case atStart => exact ⟨0, by omega, rfl, HR.out, HNW.out⟩
  case round =>
    obtain ⟨k, hk, rfl, hnew, hbel, hblk⟩ := hrel
    have HO : Hid (Below w.heap.size w wr ∧ wr.heap[w.heap.size]? = some (.cells zE 24 (0, 0))) := ⟨hbel, hblk⟩
    have HW : Hid (newL (l.drop k) key seq = (y, is)) := hnew
    obtain ⟨⟨z0, z1, z2, z3⟩, f0, f1, f2, f3⟩ := four hblk
    clear hbel hblk hnew HNW HR
    by_cases hkn : k < n
    · have hkI : (k : Int) < (n : Int) := by omega
      have hen := HE.out.1.below HO.out.1
      obtain ⟨be, oe, rfl⟩ := hen.addr (by have := HE.out.2; omega)
      obtain ⟨x0, x1, x2, x3⟩ := hen.at (k := k) (by have := HE.out.2; omega)
      obtain ⟨x, hx⟩ : ∃ x, l.getD k zeroE = x := ⟨_, rfl⟩
      rw [hx] at x0 x1 x2 x3
      have HNA := newL_at (l := l) (i := k) (by have := HE.out.2; omega) hx key seq
      obtain ⟨ke, ve, se, ge⟩ := x
      simp only at x0 x1 x2 x3
      have HNA' : Hid (newL (l.drop k) key seq = if ke = key ∧ se ≤ seq then (⟨ke, ve, se, ge⟩, true) else newL (l.drop (k + 1)) key seq) := HNA
      have HKN : Hid (k < n) := hkn
      clear hen hx HNA hkn
      by_cases hke : ke = key
      · have g4 : (ke.toList == key.toList) = true := by rw [eq_str]; simp [hke]
        by_cases hsq : se ≤ seq
        · have g5 : decide (se ≤ seq) = true := decide_eq_true hsq
          have HY : Hid (y = ⟨ke, ve, se, ge⟩ ∧ is = true) := by
            have := HW.out
            rw [HNA'.out, if_pos ⟨hke, hsq⟩] at this
            simp only [Prod.mk.injEq] at this
            exact ⟨this.1.symm, this.2.symm⟩
          clear hke
          go_wp2
          (try simp only [Exit.inBlock, Exit.then])
          refine bodyPost_ret (v := .tuple #[entV ⟨ke, ve, se, ge⟩, .bool true]) ?_ rfl ⟨by rw [HY.out.1, HY.out.2], ?_⟩
          · rw [results_cell_tmp rfl]
            go_simp
            rfl
          · exact set4_at HO.out.1 (Nat.le_refl _)
        · have g5 : decide (se ≤ seq) = false := decide_eq_false hsq
          have HN2 : Hid (newL (l.drop (k + 1)) key seq = (y, is)) := by
            have := HW.out
            rw [HNA'.out, if_neg (fun hh => hsq hh.2)] at this
            exact this
          clear hke hsq
          go_wp2
          go_roundw
          case rel => exact ⟨k + 1, by have := HKN.out; omega, by go_num, HN2.out, HO.out⟩
          case measure => have := HKN.out; simp [intOf]; omega
      · have g4 : (ke.toList == key.toList) = false := by rw [eq_str]; simp [hke]
        have HN2 : Hid (newL (l.drop (k + 1)) key seq = (y, is)) := by
          have := HW.out
          rw [HNA'.out, if_neg (fun hh => hke hh.1)] at this
          exact this
        clear hke
        go_wp2
        go_roundw
        case rel => exact ⟨k + 1, by have := HKN.out; omega, by go_num, HN2.out, HO.out⟩
        case measure => have := HKN.out; simp [intOf]; omega
    · have hkI : (n : Int) ≤ (k : Int) := by omega
      have HY : Hid (y = zeroE ∧ is = false) := by
        have := HW.out
        rw [List.drop_eq_nil_of_le (by have := HE.out.2; omega)] at this
        simp only [newL, Prod.mk.injEq] at this
        exact ⟨this.1.symm, this.2.symm⟩
      go_wp2
      (try simp only [Exit.inBlock, Exit.then])
      refine bodyPost_ret (v := .tuple #[entV zeroE, .bool false]) ?_ rfl ⟨by rw [HY.out.1, HY.out.2], ?_⟩
      · rw [results_cell_tmp rfl]
        go_simp
        rfl
      · exact set4_at HO.out.1 (Nat.le_refl _)
set_option maxRecDepth 8000 in
set_option maxHeartbeats 2000000 in
theorem rFind_any (q : Option Addr) (n c : Nat) (l : List EntV) (key : ByteArray) (seq : Int) (w : World) (h : EntsL w q n l) (y : EntV) (is : Bool) (E : Nat) (hR : findL l key seq = (y, is, E)) :
    Calls Try.prog 7 #[.slice q n c, .string key, .int .i64 seq] w fun e w' => e = .returned (.tuple #[entV y, .bool is, .int .i64 (E : Int)]) ∧ Below w.heap.size w w' := by
  obtain ⟨C, hC⟩ : ∃ C, checkE l = C := ⟨_, rfl⟩
  have HCK := fun w' hb => rCheck_any q n c l w' (h.below hb) C hC
  obtain ⟨yn, isn, hnl⟩ : ∃ yn isn, newL l key seq = (yn, isn) := ⟨_, _, rfl⟩
  have HNW := fun w' (hb : Below w.heap.size w w') (h0 : Hid (C = 0)) => rNewest_any q n c l key seq w' (h.below hb) (by have := ((checkE_rise l).1 (hC.trans h0.out)).1; have := h.n; omega) yn isn hnl
  have HR : Hid ((if C ≠ 0 then (zeroE, false, C) else if key.size < 1 ∨ 256 < key.size then (zeroE, false, 60) else if seq < 0 ∨ 2147483647 < seq then (zeroE, false, 2) else (yn, isn, 0)) = (y, is, E)) := by
    show _ = _
    rw [← hR]
    unfold findL
    rw [hC, hnl]
  clear h hC hR hnl
  go_enter Try.func7, Try.ntmps7
  go_wp2_with fail
  refine (HCK _ (below_alloc _ _)).mono ?_
  rintro e w2 ⟨rfl, hb2⟩
  have HB2 : Hid (Below w.heap.size w w2) := below_bt (below_alloc _ _) hb2
  have HR2 : Hid (w2.heap[w.heap.size]? = some (.cells #[.string ⟨#[]⟩, .string ⟨#[]⟩, .int .i64 0, .bool false] 24 (0, 0))) := block_below' (heap_alloc_new _ _) hb2
  clear hb2 HCK
  obtain ⟨⟨z0, z1, z2, z3⟩, f0, f1, f2, f3⟩ := four HR2.out
  rcases Nat.eq_zero_or_pos C with h0 | h0
  · have HC0 : Hid (C = 0) := h0
    subst h0
    by_cases h1 : key.size < 1
    · have HK : Hid (key.size < 1) := h1
      have g1 : (key.size : Int) < 1 := by omega
      clear h1
      go_wp2
      (try simp only [Exit.inBlock, Exit.then])
      refine bodyPost_ret (v := .tuple #[entV zeroE, .bool false, .int .i64 60]) ?_ rfl ⟨by
        have h := HR.out
        rw [if_neg (by simp), if_pos (.inl HK.out)] at h
        obtain ⟨rfl, rfl, rfl⟩ := (show zeroE = y ∧ false = is ∧ 60 = E from ⟨(Prod.mk.inj h).1, (Prod.mk.inj (Prod.mk.inj h).2).1, (Prod.mk.inj (Prod.mk.inj h).2).2⟩)
        rfl, ?_⟩
      · rw [results_cell_tmp2 rfl]
        go_simp
        rfl
      · exact set4_at HB2.out (Nat.le_refl _)
    · have g1 : (1 : Int) ≤ (key.size : Int) := by omega
      by_cases h2 : 256 < key.size
      · have HK : Hid (256 < key.size) := h2
        have g2 : (256 : Int) < (key.size : Int) := by omega
        clear h1 h2
        go_wp2
        (try simp only [Exit.inBlock, Exit.then])
        refine bodyPost_ret (v := .tuple #[entV zeroE, .bool false, .int .i64 60]) ?_ rfl ⟨by
          have h := HR.out
          rw [if_neg (by simp), if_pos (.inr HK.out)] at h
          obtain ⟨rfl, rfl, rfl⟩ := (show zeroE = y ∧ false = is ∧ 60 = E from ⟨(Prod.mk.inj h).1, (Prod.mk.inj (Prod.mk.inj h).2).1, (Prod.mk.inj (Prod.mk.inj h).2).2⟩)
          rfl, ?_⟩
        · rw [results_cell_tmp2 rfl]
          go_simp
          rfl
        · exact set4_at HB2.out (Nat.le_refl _)
      · have HK : Hid (¬ (key.size < 1 ∨ 256 < key.size)) := by show ¬ _; omega
        have g2 : (key.size : Int) ≤ 256 := by omega
        have g2' : decide ((256 : Int) < (key.size : Int)) = false := decide_eq_false (by omega)
        clear h1 h2
        by_cases h3 : seq < 0
        · have HS : Hid (seq < 0) := h3
          go_wp2
          (try simp only [Exit.inBlock, Exit.then])
          refine bodyPost_ret (v := .tuple #[entV zeroE, .bool false, .int .i64 2]) ?_ rfl ⟨by
            have h := HR.out
            rw [if_neg (by simp), if_neg HK.out, if_pos (.inl HS.out)] at h
            obtain ⟨rfl, rfl, rfl⟩ := (show zeroE = y ∧ false = is ∧ 2 = E from ⟨(Prod.mk.inj h).1, (Prod.mk.inj (Prod.mk.inj h).2).1, (Prod.mk.inj (Prod.mk.inj h).2).2⟩)
            rfl, ?_⟩
          · rw [results_cell_tmp2 rfl]
            go_simp
            rfl
          · exact set4_at HB2.out (Nat.le_refl _)
        · have g3 : (0 : Int) ≤ seq := by omega
          have g3' : decide (seq < 0) = false := decide_eq_false h3
          by_cases h4 : 2147483647 < seq
          · have HS : Hid (2147483647 < seq) := h4
            clear h3
            go_wp2
            (try simp only [Exit.inBlock, Exit.then])
            refine bodyPost_ret (v := .tuple #[entV zeroE, .bool false, .int .i64 2]) ?_ rfl ⟨by
              have h := HR.out
              rw [if_neg (by simp), if_neg HK.out, if_pos (.inr HS.out)] at h
              obtain ⟨rfl, rfl, rfl⟩ := (show zeroE = y ∧ false = is ∧ 2 = E from ⟨(Prod.mk.inj h).1, (Prod.mk.inj (Prod.mk.inj h).2).1, (Prod.mk.inj (Prod.mk.inj h).2).2⟩)
              rfl, ?_⟩
            · rw [results_cell_tmp2 rfl]
              go_simp
              rfl
            · exact set4_at HB2.out (Nat.le_refl _)
          · have HS : Hid (¬ (seq < 0 ∨ 2147483647 < seq)) := by show ¬ _; omega
            have g4 : seq ≤ 2147483647 := by omega
            have g4' : decide (2147483647 < seq) = false := decide_eq_false h4
            have hnw := HNW w2 HB2.out HC0
            clear h3 h4 HNW z0 z1 z2 z3 f0 f1 f2 f3
            go_wp2_with fail
            refine hnw.mono ?_
            rintro e w3 ⟨rfl, hb3⟩
            have HB3 : Hid (Below w.heap.size w w3) := below_bt HB2.out hb3
            obtain ⟨kx, vx, sx, gx⟩ := yn
            rw [entV_def]
            obtain ⟨⟨z0, z1, z2, z3⟩, f0, f1, f2, f3⟩ := four (block_below' (block_below' HR2.out hb3) (below_alloc w3 (.cells #[.string kx, .string vx, .int .i64 sx, .bool gx] 24)))
            clear hb3 hnw
            go_wp2
            (try simp only [Exit.inBlock, Exit.then])
            refine bodyPost_ret (v := .tuple #[entV ⟨kx, vx, sx, gx⟩, .bool isn, .int .i64 0]) ?_ rfl ⟨by
              have h := HR.out
              rw [if_neg (by simp), if_neg HK.out, if_neg HS.out] at h
              obtain ⟨rfl, rfl, rfl⟩ := (show (⟨kx, vx, sx, gx⟩ : EntV) = y ∧ isn = is ∧ 0 = E from ⟨(Prod.mk.inj h).1, (Prod.mk.inj (Prod.mk.inj h).2).1, (Prod.mk.inj (Prod.mk.inj h).2).2⟩)
              rfl, ?_⟩
            · rw [results_cell_tmp2 rfl]
              go_simp
              rfl
            · exact set4_at (below_bt HB3.out (below_alloc _ _)) (Nat.le_refl _)
  · have hO1 : ((C : Int) == 0) = false := by simp; omega
    have HOp : Hid (C ≠ 0) := by show _ ≠ _; omega
    clear h0
    go_wp2
    (try simp only [Exit.inBlock, Exit.then])
    refine bodyPost_ret (v := .tuple #[entV zeroE, .bool false, .int .i64 (C : Int)]) ?_ rfl ⟨by
      have h := HR.out
      rw [if_pos HOp.out] at h
      obtain ⟨rfl, rfl, rfl⟩ := (show zeroE = y ∧ false = is ∧ C = E from ⟨(Prod.mk.inj h).1, (Prod.mk.inj (Prod.mk.inj h).2).1, (Prod.mk.inj (Prod.mk.inj h).2).2⟩)
      rfl, ?_⟩
    · rw [results_cell_tmp2 rfl]
      go_simp
      rfl
    · exact set4_at HB2.out (Nat.le_refl _)
end Go.Proofs.Ytbeoijlkhpbdjaa
namespace Go.Proofs.Ytbeoijlkhpbdjaa.freshLists
open Go.ChangeShapes Go.WideShapes Go.ChangeAt Go.RowKit
open Go.ChangeMaps (open_string shut_string)
set_option linter.unusedVariables false

theorem own : ownKnob Try.prog.godebug = none := by kernel_rfl
theorem laidOut : laidOutB Try.prog = true := by kernel_rfl

open Go.Joins Go.Deep
section
variable {P : Program} {w : World} {H : Type} {enc : TypeId × Value → H}
theorem open_entryA {e : TypeId} {f0 f1 f2 f3 : Field} {r : Reach} {b0 : Nat} {v : Value} {d : DataW H} {p : List MemPlace} (he : P.underlying e = some (.struct #[f0, f1, f2, f3])) (hone : oneCellFields P #[f0, f1, f2, f3] = true) (hC : P.cellsOf e = 4)
    (k0 : P.underlying f0.type = some .string) (k1 : P.underlying f1.type = some .string) (k2 : P.underlying f2.type = some (.int .i64)) (k3 : P.underlying f3.type = some .bool)
    (hv : Value.okWide P w r b0 e v) (h : DataW.Trod enc P w 0 (fun _ => true) true e v d p) : ∃ y : EntV, v = entV y ∧ WfE y := by
  obtain ⟨v0, v1, v2, v3, y0, y1, y2, y3, n, rfl, _, _, h0, h1, h2, h3⟩ := open_agg4 he hone hC hv h
  obtain ⟨s, hs, _, hsz⟩ := DataW.trod_string k0 h0
  obtain ⟨s1, hs1, _, hsz1⟩ := DataW.trod_string k1 h1
  obtain ⟨z, hz, _, wz⟩ := DataW.trod_int k2 h2
  obtain ⟨g, hg, _⟩ := DataW.trod_bool k3 h3
  simp only [List.cons.injEq, and_true] at hs hs1 hz hg
  subst hs hs1 hz hg
  exact ⟨⟨s, s1, z, g⟩, rfl, ⟨hsz, hsz1, bounds_i64 wz⟩⟩
end
/-- What was answered is written over: all else stays. -/
structure OnZ (w0 : World) (g m : Nat) (wr : World) : Prop where
  bel : Below w0.heap.size w0 wr
  blk : ∃ cur, wr.heap[g]? = some (.cells cur 24 (0, 0)) ∧ m * 4 ≤ cur.size
theorem OnZ.cells {w0 wr : World} {g m i : Nat} (h : OnZ w0 g m wr) (hi : i < m * 4) : (∃ v, wr.cell? ⟨g, i, none⟩ = some v) ∧ wr.frozen? ⟨g, i, none⟩ = false := by
  obtain ⟨cur, h1, h2⟩ := h.blk
  exact ⟨⟨cur[i]'(by omega), (cell_of_row wr g i cur _ _ h1).trans (Array.getElem?_eq_getElem _)⟩, frozen_row h1 i⟩
theorem OnZ.set {w0 wr : World} {g m i : Nat} (h : OnZ w0 g m wr) (hg : w0.heap.size ≤ g) (v : Value) : OnZ w0 g m (wr.setCell ⟨g, i, none⟩ v) := by
  obtain ⟨cur, h1, h2⟩ := h.blk
  exact ⟨h.bel.setCell (p := ⟨g, i, none⟩) hg v, _, heap_setCell_same wr g i _ _ v h1, by simpa using h2⟩
set_option maxRecDepth 8000 in
set_option maxHeartbeats 8000000 in
theorem walk (v : Value) (l : List EntV) (x : EntV) (key : ByteArray) (seq : Int) (W : World) (hv : Ents W v l) (hx : WfE x) (hk : key.size ≤ maxLen) (hs : (Lit.int .i64 seq).wf = true) :
    Calls Try.prog 3 #[v, entV x, .string key, .int .i64 seq] W fun e W' => e = .returned (.bool true) ∧ Below W.heap.size W W' := by
  obtain ⟨q, c, rfl, hin, hlc, _, hqn⟩ := hv.lies
  obtain ⟨n, hn⟩ : ∃ n, l.length = n := ⟨_, rfl⟩
  rw [hn] at hlc ⊢
  have HN : Hid (l.length = n) := hn
  have HIN : Hid (EntsIn W q l) := hin
  have HLC : Hid (n ≤ c) := hlc
  have HQN : Hid (q = none → c = 0) := hqn
  obtain ⟨P, e, hPe⟩ : ∃ P e, putE l x = (P, e) := ⟨_, _, rfl⟩
  obtain ⟨y, is, E, hF⟩ : ∃ y is E, findL l key seq = (y, is, E) := ⟨_, _, _, rfl⟩
  obtain ⟨C, hC⟩ : ∃ C, checkE l = C := ⟨_, rfl⟩
  have HP1 := fun wx (q' : Option Addr) (c' : Nat) (h : EntsIn wx q' l) (h1 : l.length ≤ c') (h2 : q' = none → c' = 0) => putF_any q' l.length c' l x wx ⟨rfl, h⟩ h1 h2 P e hPe
  have HP2 := fun wx (h : EntsIn wx q l) => rPut_any q l.length c l x wx ⟨rfl, h⟩ (by rw [HN.out]; exact HLC.out) HQN.out P e hPe
  have HF1 := fun wx (q' : Option Addr) (c' : Nat) (h : EntsIn wx q' l) => find_any q' l.length c' l key seq wx ⟨rfl, h⟩ y is E hF
  have HF2 := fun wx (h : EntsIn wx q l) => rFind_any q l.length c l key seq wx ⟨rfl, h⟩ y is E hF
  have HC1 := fun wx (q' : Option Addr) (c' : Nat) (h : EntsIn wx q' l) => fCheck_any q' l.length c' l wx ⟨rfl, h⟩ C hC
  have HC2 := fun wx (h : EntsIn wx q l) => rCheck_any q l.length c l wx ⟨rfl, h⟩ C hC
  have HPL : Hid (l.length ≤ 5000 → P.length ≤ 10000) := fun h => by
    by_cases h0 : e = 0
    · subst h0
      have h1 := (putE_ok hPe).2.2.2.2.1
      rw [h1, insE_len]
      omega
    · have h1 : P = [] := by
        unfold putE at hPe
        split at hPe
        · exact (Prod.mk.inj hPe).1.symm
        split at hPe
        · exact (Prod.mk.inj hPe).1.symm
        split at hPe
        · exact (Prod.mk.inj hPe).1.symm
        split at hPe
        · exact (Prod.mk.inj hPe).1.symm
        · exact absurd (Prod.mk.inj hPe).2.symm h0
      rw [h1]
      simp
  obtain ⟨ke, ve, se, ge⟩ := x
  obtain ⟨ky, vy, sy, gy⟩ := y
  simp only [entV_def] at HP1 HP2 HF1 HF2 ⊢
  rw [hn] at HP2 HF2 HC2
  clear hv hin hlc hqn hn hPe hF hC hx hk hs
  have HXB : Hid ((W.alloc (.cells #[.string ke, .string ve, .int .i64 se, .bool ge] 24)).heap[W.heap.size]? = some (.cells #[.string ke, .string ve, .int .i64 se, .bool ge] 24 (0, 0))) := heap_alloc_new _ _
  have HBX : Hid (Below W.heap.size W (W.alloc (.cells #[.string ke, .string ve, .int .i64 se, .bool ge] 24))) := below_alloc _ _
  go_enter Try.func3, Try.ntmps3
  by_cases hb1 : 300 < n ∧ n < 4096
  · have g1 : (300 : Int) < (n : Int) := by omega
    have g2 : decide ((n : Int) < 4096) = true := decide_eq_true (by omega)
    clear hb1
    go_wp2
    go_ret
    exact ⟨rfl, HBX.out⟩
  by_cases hb2 : 5000 < n
  · have g1 : (300 : Int) < (n : Int) := by omega
    have g2 : decide ((n : Int) < 4096) = false := decide_eq_false (by omega)
    have g3 : decide ((5000 : Int) < (n : Int)) = true := decide_eq_true (by omega)
    clear hb1 hb2
    go_wp2
    go_ret
    exact ⟨rfl, HBX.out⟩
  have g3 : decide ((5000 : Int) < (n : Int)) = false := decide_eq_false (by omega)
  by_cases hb3 : 10000 < key.size
  · have g4 : (10000 : Int) < (key.size : Int) := by omega
    by_cases hb4 : 300 < n
    · have g1 : decide ((300 : Int) < (n : Int)) = true := decide_eq_true (by omega)
      have g2 : decide ((n : Int) < 4096) = false := decide_eq_false (by omega)
      clear hb1 hb2 hb3 hb4
      go_wp2
      go_ret
      exact ⟨rfl, HBX.out⟩
    · have g1 : decide ((300 : Int) < (n : Int)) = false := decide_eq_false (by omega)
      clear hb1 hb2 hb3 hb4
      go_wp2
      go_ret
      exact ⟨rfl, HBX.out⟩
  have g4 : decide ((10000 : Int) < (key.size : Int)) = false := decide_eq_false (by omega)
  have HN5 : Hid (n ≤ 5000) := by show _ ≤ _; omega
  have HG : Hid ((decide ((300 : Int) < (n : Int)) = true ∧ decide ((n : Int) < 4096) = false) ∨ decide ((300 : Int) < (n : Int)) = false) := by
    by_cases h : 300 < n
    · exact .inl ⟨decide_eq_true (by omega), decide_eq_false (by omega)⟩
    · exact .inr (decide_eq_false (by omega))
  clear hb1 hb2 hb3
  rcases HG.out with ⟨g1, g2⟩ | g1
  all_goals
    go_wp2_with (at_builtin; go_loud (refine wpList_append_ents _ rfl _ _ rfl W.heap.size l q n c rfl rfl HN.out.symm (HIN.out.below HBX.out) HQN.out (by have := HN.out; have := HN5.out; omega) HBX.out.size ?_); intro va ua hoa hga; have HBA : Hid (Below W.heap.size W ua) := HBX.out.grown hga HBX.out.size (fun k hk => by cases hk); have HXA : Hid (ua.heap[W.heap.size]? = some (.cells #[.string ke, .string ve, .int .i64 se, .bool ge] 24 (0, 0))) := (hga.block _ (lt_heap HXB.out) (by simp)).trans HXB.out; obtain ⟨aq, ac, rfl, hac, _, han⟩ := hoa.form; have HOA : Hid (EntsIn ua aq l) := hoa.ents; have HAC : Hid (l.length ≤ ac ∧ (aq = none → ac = 0)) := ⟨hac, han⟩; clear hoa hga hac han; obtain ⟨x0, x1, x2, x3⟩ := four_cells HXA.out)
    refine (HP1 ua aq ac HOA.out HAC.out.1 HAC.out.2).mono ?_
    rintro e' w1 ⟨⟨pq, pc, rfl, hpo⟩, hb1⟩
    have HPO : Hid (EOwn w1 ua.heap.size (.slice pq P.length pc) P) := hpo
    have HB1 : Hid (Below ua.heap.size ua w1) := hb1
    have hp2 := HP2 w1 (HIN.out.below (below_bt HBA.out hb1))
    clear hpo x0 x1 x2 x3 g1 g3 g4 HP1 HP2
    try clear g2
    obtain ⟨x0, x1, x2, x3⟩ := four_cells (block_below' HXA.out hb1)
    clear hb1
    go_wp2_with fail
    refine hp2.mono ?_
    rintro e' w2 ⟨⟨rq, rc, rfl, hro⟩, hb2⟩
    have HRO : Hid (EntsIn w2 rq P) := hro.ents
    have HPO2 : Hid (EOwn w2 ua.heap.size (.slice pq P.length pc) P) := HPO.out.below hb2
    have HB2 : Hid (Below ua.heap.size ua w2) := below_bt HB1.out hb2
    have hf1 := HF1 w2 aq ac (HOA.out.below HB2.out)
    clear hro hb2 hp2 x0 x1 x2 x3 HF1 HPO HB1
    go_wp2_with fail
    refine hf1.mono ?_
    rintro e' w3 ⟨rfl, hb3⟩
    have hb3' := below_bt hb3 (below_alloc w3 (.cells #[.string ky, .string vy, .int .i64 sy, .bool gy] 24))
    have HB3 : Hid (Below ua.heap.size ua (w3.alloc (.cells #[.string ky, .string vy, .int .i64 sy, .bool gy] 24))) := below_bt HB2.out hb3'
    have HRO3 : Hid (EntsIn (w3.alloc (.cells #[.string ky, .string vy, .int .i64 sy, .bool gy] 24)) rq P) := HRO.out.below hb3'
    have HPO3 : Hid (EOwn (w3.alloc (.cells #[.string ky, .string vy, .int .i64 sy, .bool gy] 24)) ua.heap.size (.slice pq P.length pc) P) := HPO2.out.below hb3'
    have HG3 : Hid ((w3.alloc (.cells #[.string ky, .string vy, .int .i64 sy, .bool gy] 24)).heap[w3.heap.size]? = some (.cells #[.string ky, .string vy, .int .i64 sy, .bool gy] 24 (0, 0))) := heap_alloc_new _ _
    have hf2 := HF2 _ (HIN.out.below (below_bt HBA.out HB3.out))
    clear hb3 hb3' hf1 HF2 HRO HPO2 HB2
    go_wp2_with fail
    refine hf2.mono ?_
    rintro e' w4 ⟨rfl, hb4⟩
    have hb4' := below_bt hb4 (below_alloc w4 (.cells #[.string ky, .string vy, .int .i64 sy, .bool gy] 24))
    have HB4 : Hid (Below ua.heap.size ua (w4.alloc (.cells #[.string ky, .string vy, .int .i64 sy, .bool gy] 24))) := below_bt HB3.out hb4'
    have HRO4 : Hid (EntsIn (w4.alloc (.cells #[.string ky, .string vy, .int .i64 sy, .bool gy] 24)) rq P) := HRO3.out.below hb4'
    have HPO4 : Hid (EOwn (w4.alloc (.cells #[.string ky, .string vy, .int .i64 sy, .bool gy] 24)) ua.heap.size (.slice pq P.length pc) P) := HPO3.out.below hb4'
    have HG4 : Hid ((w4.alloc (.cells #[.string ky, .string vy, .int .i64 sy, .bool gy] 24)).heap[w4.heap.size]? = some (.cells #[.string ky, .string vy, .int .i64 sy, .bool gy] 24 (0, 0))) := heap_alloc_new _ _
    have HG34 : Hid ((w4.alloc (.cells #[.string ky, .string vy, .int .i64 sy, .bool gy] 24)).heap[w3.heap.size]? = some (.cells #[.string ky, .string vy, .int .i64 sy, .bool gy] 24 (0, 0))) := block_below' HG3.out hb4'
    have hc1 := HC1 _ aq ac (HOA.out.below HB4.out)
    clear hb4 hb4' hf2 HRO3 HPO3 HB3 HG3 HC1
    go_wp2_with fail
    refine hc1.mono ?_
    rintro e' w5 ⟨rfl, hb5⟩
    have hc2 := HC2 w5 (HIN.out.below (below_bt HBA.out (below_bt HB4.out hb5)))
    have HB5 : Hid (Below (w4.alloc (.cells #[.string ky, .string vy, .int .i64 sy, .bool gy] 24)).heap.size (w4.alloc (.cells #[.string ky, .string vy, .int .i64 sy, .bool gy] 24)) w5) := hb5
    clear hb5 hc1 HC2
    go_wp2_with fail
    refine hc2.mono ?_
    rintro e' w6 ⟨rfl, hb6⟩
    have hb46 := below_bt HB5.out hb6
    have HB6 : Hid (Below ua.heap.size ua w6) := below_bt HB4.out hb46
    have HPO6 : Hid (EOwn w6 ua.heap.size (.slice pq P.length pc) P) := HPO4.out.below hb46
    have HG36 : Hid (w6.heap[w3.heap.size]? = some (.cells #[.string ky, .string vy, .int .i64 sy, .bool gy] 24 (0, 0))) := block_below' HG34.out hb46
    have HG46 : Hid (w6.heap[w4.heap.size]? = some (.cells #[.string ky, .string vy, .int .i64 sy, .bool gy] 24 (0, 0))) := block_below' HG4.out hb46
    have hPI : (P.length : Int) ≤ 10000 := by have := HPL.out (by have := HN.out; have := HN5.out; omega); omega
    have hsm := rsame_yes pq rq P.length pc rc P w6 rfl (by omega) HPO6.out.ents (HRO4.out.below hb46)
    clear hb6 hb46 hc2 HB5 HB4 HRO4 HPO4 HG4 HG34
    go_wp2_with fail
    refine hsm.mono ?_
    rintro e' w7 ⟨rfl, hb7⟩
    have HB7 : Hid (Below ua.heap.size ua w7) := below_bt HB6.out hb7
    obtain ⟨a0, a1, a2, a3⟩ := four_cells (block_below' HG36.out hb7)
    obtain ⟨b0, b1, b2, b3⟩ := four_cells (block_below' HG46.out hb7)
    have hpo7 := HPO6.out.below hb7
    obtain ⟨m, hm⟩ : ∃ m, P.length = m := ⟨_, rfl⟩
    rw [hm] at hpo7 hPI ⊢
    have HOZ : Hid (0 < m → ∃ g, pq = some ⟨g, 0, none⟩ ∧ ua.heap.size ≤ g ∧ OnZ ua g m w7) := fun h0 => by
      rcases hpo7.2 with ⟨_, h2⟩ | ⟨g, cap, cur, h1, h2, h3, h4, h5, h6, _⟩
      · omega
      · obtain ⟨e1, _, e3⟩ := Value.slice.inj h1
        exact ⟨g, e1, h2, HB7.out, cur, h3, by rw [h6]; omega⟩
    clear hpo7 hm hb7 hsm HG36 HG46 HPO6
    go_wp2
    rcases Nat.eq_zero_or_pos m with hm0 | hm0
    · subst hm0
      go_loopw [20] (fun i wx => i = .int .i64 0 ∧ wx = w7) (fun _ _ => 0)
      case atStart => exact ⟨rfl, rfl⟩
      case round =>
        obtain ⟨rfl, rfl⟩ := hrel
        have hsm2 := rsame_yes aq q l.length ac c l wr rfl (by have := HN.out; have := HN5.out; omega) (HOA.out.below HB7.out) (HIN.out.below (below_bt HBA.out HB7.out))
        rw [HN.out] at hsm2
        rw [HN.out]
        go_wp2_with fail
        refine hsm2.mono ?_
        rintro e w8 ⟨rfl, hb8⟩
        have HB8 : Hid (Below W.heap.size W w8) := below_bt HBA.out (below_bt HB7.out hb8)
        clear hb8 hsm2
        go_wp2
        go_ret
        exact ⟨rfl, HB8.out⟩
    · obtain ⟨g, rfl, hg, hoz⟩ := HOZ.out hm0
      have HG : Hid (ua.heap.size ≤ g) := hg
      have HOZ0 : Hid (OnZ ua g m w7) := hoz
      clear hg hoz hm0 HOZ
      go_loopw [20] (fun i wx => ∃ j : Nat, j ≤ m ∧ i = .int .i64 (j : Int) ∧ OnZ ua g m wx) (fun i _ => m - (intOf i).toNat)
      case atStart => exact ⟨0, by omega, rfl, HOZ0.out⟩
      case round =>
        obtain ⟨j, hj, rfl, hoz⟩ := hrel
        have HO : Hid (OnZ ua g m wr) := hoz
        clear hoz
        by_cases hjm : j < m
        · have hjI : (j : Int) < (m : Int) := by omega
          have hjI0 : (0 : Int) ≤ (j : Int) := by omega
          have HJ : Hid (j < m) := hjm
          obtain ⟨⟨u0, c0⟩, f0⟩ := HO.out.cells (i := j * 4) (by omega)
          obtain ⟨⟨u1, c1'⟩, f1⟩ := HO.out.cells (i := j * 4 + 1) (by omega)
          obtain ⟨⟨u2, c2⟩, f2⟩ := HO.out.cells (i := j * 4 + 2) (by omega)
          obtain ⟨⟨u3, c3⟩, f3⟩ := HO.out.cells (i := j * 4 + 3) (by omega)
          clear hjm hj a0 a1 a2 a3 b0 b1 b2 b3
          go_wp2
          go_roundw
          case rel => exact ⟨j + 1, HJ.out, by go_num, (((HO.out.set HG.out _).set HG.out _).set HG.out _).set HG.out _⟩
          case measure => have := HJ.out; simp [intOf]; omega
        · have hjI : (m : Int) ≤ (j : Int) := by omega
          have hsm2 := rsame_yes aq q l.length ac c l wr rfl (by have := HN.out; have := HN5.out; omega) (HOA.out.below HO.out.bel) (HIN.out.below (below_bt HBA.out HO.out.bel))
          rw [HN.out] at hsm2
          rw [HN.out]
          clear hjm hj
          go_wp2_with fail
          refine hsm2.mono ?_
          rintro e w8 ⟨rfl, hb8⟩
          have HB8 : Hid (Below W.heap.size W w8) := below_bt HBA.out (below_bt HO.out.bel hb8)
          clear hb8 hsm2
          go_wp2
          go_ret
          exact ⟨rfl, HB8.out⟩

/-! ### THE ROW's STEP -/
set_option maxRecDepth 100000 in
theorem lifted (os : Os) (started : os.Started) (H : Type) (enc : TypeId × Value → H) :
    ReturnsInHanded {} Try.checked os 3 .any (Rows.freshListsSpec.pre6 enc Try.prog Try.f3 Rows.freshListsRow.domain false) (Rows.freshListsSpec.post enc Try.prog Try.f3 false true false false) := by
  refine returnsInHanded_of_change (C := Try.checked) own started (by kernel_rfl) Try.func3
    (ChangeSpec.witness6 (enc := enc) (C := Try.checked) false ⟨#[], #[.slice none 0 0, .agg #[.string ByteArray.empty, .string ByteArray.empty, .int .i64 0, .bool false], .string ByteArray.empty, .int .i64 0], []⟩ 8 (by kernel_rfl) (by kernel_rfl) (by kernel_rfl) (by kernel_rfl)) ?_
  intro W base args ds gs before hval0 hW hcnd _
  have hval : ∀ (j : Nat) t v, Try.f3.params[j]? = some t → args[j]? = some v → Value.okWide Try.prog W .any base t v := hval0
  have hW' := hW
  obtain ⟨p, q, hA0, hV, rfl, hfz, hnd⟩ := hW
  have hA : DataW.TrodAll enc Try.prog W 0 (fun _ => true) true Try.f3.params.toList args.toList ds p := hA0
  rw [Try.params3] at hA hval
  obtain ⟨v0, vs0, d0, ds0, p0, q0, hargs, rfl, rfl, h0, r0⟩ := trodAll_cons hA
  obtain ⟨v1, vs1, d1, ds1, p1, q1, rfl, rfl, rfl, h1, r1⟩ := trodAll_cons r0
  obtain ⟨v2, vs2, d2, ds2, p2, q2, rfl, rfl, rfl, h2, r2⟩ := trodAll_cons r1
  obtain ⟨v3, vs3, d3, ds3, p3, q3, rfl, rfl, rfl, h3, r3⟩ := trodAll_cons r2
  obtain ⟨rfl, rfl, rfl⟩ := trodAll_nil r3
  obtain rfl : args = #[v0, v1, v2, v3] := by cases args; simp_all
  obtain ⟨rfl, rfl⟩ := trodVars_none hV
  have k0 := h0
  have lt0 : ∀ x ∈ p0, x.block < W.heap.size := by obtain ⟨m, hm⟩ := k0; exact DataW.trod_lt m _ _ _ hm
  obtain ⟨qa0, la0, ca0, rfl⟩ := okWide_slice Try.underlying22 (hval 0 22 v0 rfl rfl)
  obtain ⟨fu0, hf0⟩ := h0
  obtain ⟨l0, w0⟩ := open_entries Try.underlying22 Try.underlying24 (by kernel_rfl) rfl rfl rfl rfl (by kernel_rfl) (by kernel_rfl) (by kernel_rfl) (by kernel_rfl) Try.underlying9 Try.underlying9 Try.underlying3 Try.underlying4 hf0
  have k1 := h1
  have lt1 : ∀ x ∈ p1, x.block < W.heap.size := by obtain ⟨m, hm⟩ := k1; exact DataW.trod_lt m _ _ _ hm
  obtain ⟨y1, rfl, w1⟩ := open_entryA Try.underlying24 (by kernel_rfl) (by kernel_rfl) Try.underlying9 Try.underlying9 Try.underlying3 Try.underlying4 (hval 1 24 v1 rfl rfl) h1
  obtain ⟨a2, rfl, rfl, rfl, w2⟩ := open_string Try.underlying9 (hval 2 9 v2 rfl rfl) h2
  obtain ⟨a3, rfl, rfl, rfl, w3⟩ := open_int Try.underlying3 (hval 3 3 v3 rfl rfl) h3
  clear hA0 hval0
  refine (walk (.slice qa0 la0 ca0) l0 y1 a2 a3 W w0 w1 w2 w3).mono fun e W' ⟨he, bel⟩ => ?_
  subst he
  exact ⟨_, rfl, _, _, _, [], _, [], hW', trodAll_mk1 (shut_bool Try.underlying4 _), (trodAll_cons_mk (Below.trod laidOut (by kernel_rfl) (of_decide_eq_true (by kernel_rfl)) k0 bel lt0) (trodAll_cons_mk (Below.trod laidOut (by kernel_rfl) (of_decide_eq_true (by kernel_rfl)) k1 bel lt1) (trodAll_cons_mk (shut_string Try.underlying9 w2) (trodAll_cons_mk (shut_int Try.underlying3 w3) trodAll_mk0)))), rfl, bel.frame _, fun h => by cases h⟩

theorem over : Rows.freshListsRow.holds Try.pinned (OpenSpec.ofChange Rows.freshListsSpec) :=
  OpenClaim.holds_of_wide 3 Try.f3 rfl rfl rfl rfl rfl rfl rfl ⟨rfl, rfl, rfl, rfl, rfl⟩ rfl rfl rfl rfl rfl (by kernel_rfl) Try.func3 (by kernel_rfl)
    (of_decide_eq_true (by kernel_rfl)) (by unfold Func.isWrapper; first | (rw [if_pos (by decide +kernel)]; kernel_rfl) | (rw [if_neg (by decide +kernel)]; exact ⟨rfl, rfl⟩))
    (fun os started H enc _ => lifted os started H enc)

theorem proved : Rows.FreshListsSaid := over
end Go.Proofs.Ytbeoijlkhpbdjaa.freshLists
namespace Go.Proofs.Ytbeoijlkhpbdjaa
theorem freshLists_holds : Rows.FreshListsSaid := freshLists.proved
#print axioms freshLists_holds
end Go.Proofs.Ytbeoijlkhpbdjaa
