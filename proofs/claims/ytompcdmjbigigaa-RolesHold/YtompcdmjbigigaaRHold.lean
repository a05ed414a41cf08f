/-
  The law RolesHold walked.
-/
import Derived.Test.YtompcdmjbigigaaRDClo
import Derived.Test.YtompcdmjbigigaaRLawB
namespace Go.Proofs.Ytompcdmjbigigaa
open Go.RowKit Go.WideShapes Go.Joins Go.Maps

set_option maxHeartbeats 8000000 in
set_option maxRecDepth 8000 in
theorem hold_walk (q : Option Addr) (c : Nat) (L : List Rl) (q2 : Option Addr) (c2 : Nat) (ns : List ByteArray) (d : ByteArray) (w : World) (h : RolesIn w q L c) (hn : StrsIn w q2 ns c2) (hd : d.size ≤ maxLen) :
    Calls Try.prog 4 #[.slice q L.length c, .slice q2 ns.length c2, .string d] w fun e w' => e = .returned (.bool true) ∧ Below w.heap.size w w' := by
  have GR := great_any q c L q2 c2 ns w h hn
  have HH : Hid (RolesIn w q L c ∧ StrsIn w q2 ns c2 ∧ d.size ≤ maxLen) := ⟨h, hn, hd⟩
  have hnI : (L.length : Int) ≤ 9223372036854775807 := by have := h.le; have := h.cap; unfold maxLen at this; omega
  have hmI : (ns.length : Int) ≤ 9223372036854775807 := by have := hn.le; have := hn.cap; unfold maxLen at this; omega
  obtain ⟨n, hN⟩ : ∃ n, L.length = n := ⟨_, rfl⟩
  obtain ⟨m, hM⟩ : ∃ m, ns.length = m := ⟨_, rfl⟩
  rw [hN, hM] at GR
  rw [hN] at hnI ⊢
  rw [hM] at hmI ⊢
  have HN : Hid (L.length = n ∧ ns.length = m) := ⟨hN, hM⟩
  clear h hn hd hN hM
  go_enter Try.func4, Try.ntmps4
  go_wp2_with fail
  refine GR.mono ?_
  rintro e w1 ⟨g, rfl, hg, hb1⟩
  simp only []
  have HB1 : Hid (Below w.heap.size w w1) := hb1
  clear GR hb1
  cases hg with
  | yes =>
    go_wp2_with fail
    go_ret
    exact ⟨rfl, HB1.out⟩
  | no gl gn =>
    have HF : Hid (L.length ≤ 40 ∧ ns.length ≤ 1100) := ⟨gl, gn⟩
    clear gl gn
    have N0 := OwnS.nil w1 w1.heap.size
    have i2 := HH.out.2.1.below HB1.out
    have e1 : ([] ++ ns : List ByteArray).length = m := HN.out.2
    go_wp2_with (first
      | (at_builtin; refine wpList_append_strs rfl _ _ rfl w1.heap.size _ [] q2 ns m c2 rfl N0 rfl i2 HN.out.2 (by have := HF.out; simp; omega) (Nat.le_refl _) ?_; intro q4 c4 w4 ho4 hb4; rw [e1] at ho4 ⊢)
      | fail)
    rw [List.nil_append] at ho4
    obtain ⟨q6, c6, e6, i4, -⟩ := ho4.read
    rw [HN.out.2] at e6
    simp only [Value.slice.injEq, true_and] at e6
    obtain ⟨rfl, rfl⟩ := e6
    have H4 : Hid (Below w.heap.size w w4 ∧ StrsIn w4 q4 ns c4) := ⟨below_more HB1.out hb4, i4⟩
    clear N0 i2 e1 ho4 hb4 i4
    have C1 := Closed_any q c L q4 c4 ns w4 (HH.out.1.below H4.out.1) H4.out.2
    rw [HN.out.1, HN.out.2] at C1
    generalize hE : clE L ns = E at C1
    have HE : Hid (clE L ns = E) := hE
    clear hE
    refine C1.mono ?_
    rintro e w5 ⟨va, a, rfl, hoa, hA, hb5⟩
    obtain ⟨qa, ca, rfl⟩ := ownsRow_slice hoa.row
    simp only []
    obtain ⟨al, hal⟩ : ∃ al, a.length = al := ⟨_, rfl⟩
    rw [hal]
    rw [hal] at hoa
    have H5 : Hid (Below w4.heap.size w4 w5 ∧ OwnS w5 w4.heap.size (.slice qa al ca) a ∧ ClA L ns a ∧ a.length = al ∧ al ≤ 32) := ⟨hb5, hoa, hA, hal, by rw [← hal]; exact hA.few⟩
    clear C1 hoa hA hb5 hal
    have B5 : Hid (Below w.heap.size w w5) := below_more H4.out.1 H5.out.1
    have C2 := dClosed_any q c L q2 c2 ns w5 (HH.out.1.below B5.out) (HH.out.2.1.below B5.out)
    rw [HN.out.1, HN.out.2, HE.out] at C2
    go_wp2_with fail
    refine C2.mono ?_
    rintro e w6 ⟨vb, b, rfl, hob, hB, hb6⟩
    obtain rfl : b = a := hB.one H5.out.2.2.1
    obtain ⟨qb, cb, rfl, ib, -⟩ := hob.read
    simp only []
    rw [H5.out.2.2.2.1]
    have H6 : Hid (Below w5.heap.size w5 w6 ∧ StrsIn w6 qb b cb) := ⟨hb6, ib⟩
    have B6 : Hid (Below w.heap.size w w6 ∧ Below w4.heap.size w4 w6) := ⟨below_more B5.out hb6, below_more H5.out.1 hb6⟩
    clear C2 hob hB hb6 ib
    have M1 := May_any q c L q4 c4 ns d w6 (HH.out.1.below B6.out.1) (H4.out.2.below B6.out.2) HH.out.2.2
    rw [HN.out.1, HN.out.2] at M1
    generalize hF : mayE L ns d = F at M1
    have HFE : Hid (mayE L ns d = F) := hF
    clear hF
    go_wp2_with fail
    refine M1.mono ?_
    rintro e w7 ⟨v1, rfl, hv1, hb7⟩
    simp only []
    have B7 : Hid (Below w.heap.size w w7 ∧ Below w5.heap.size w5 w7 ∧ Below w6.heap.size w6 w7) := ⟨below_more B6.out.1 hb7, below_more H6.out.1 hb7, hb7⟩
    have HV1 : Hid (MayA L ns d v1) := hv1
    clear M1 hv1 hb7
    have M2 := dMay_any q c L q2 c2 ns d w7 (HH.out.1.below B7.out.1) (HH.out.2.1.below B7.out.1) HH.out.2.2
    rw [HN.out.1, HN.out.2, HFE.out] at M2
    go_wp2_with fail
    refine M2.mono ?_
    rintro e w8 ⟨v2, rfl, hv2, hb8⟩
    obtain rfl := hv2.one HV1.out
    simp only []
    have B8 : Hid (Below w.heap.size w w8 ∧ Below w5.heap.size w5 w8 ∧ Below w6.heap.size w6 w8) := ⟨below_more B7.out.1 hb8, below_more B7.out.2.1 hb8, below_more B7.out.2.2 hb8⟩
    clear M2 hv2 hb8
    have K1 := Check_any q c L w8 (HH.out.1.below B8.out.1)
    rw [HN.out.1] at K1
    have K2 : Hid (∀ w', Below w8.heap.size w8 w' → Calls Try.prog 18 #[.slice q n c] w' fun e w'' => e = .returned (.int .i64 (chkE L : Nat)) ∧ w'' = w') := fun w' hb => by
      have := dCheck_any q c L w' ((HH.out.1.below B8.out.1).below hb)
      rwa [HN.out.1] at this
    generalize chkE L = K at K1 K2
    have kk : ((K : Int) == (K : Int)) = true := by simp
    have ee : ((E : Int) == (E : Int)) = true := by simp
    have ff : ((F : Int) == (F : Int)) = true := by simp
    have vv : (v2 == v2) = true := by simp
    go_wp2_with fail
    refine K1.mono ?_
    rintro e w9 ⟨rfl, hb9⟩
    simp only []
    have K3 := K2.out w9 hb9
    have B9 : Hid (Below w.heap.size w w9 ∧ Below w5.heap.size w5 w9 ∧ Below w6.heap.size w6 w9) := ⟨below_more B8.out.1 hb9, below_more B8.out.2.1 hb9, below_more B8.out.2.2 hb9⟩
    clear K1 hb9
    go_wp2_with fail
    refine K3.mono ?_
    rintro e w10 ⟨rfl, hw⟩
    subst hw
    simp only []
    clear K3
    obtain ⟨q7, c7, e7, i7, hsh⟩ := (H5.out.2.1.below B9.out.2.1).read
    rw [H5.out.2.2.2.1] at e7
    simp only [Value.slice.injEq, true_and] at e7
    obtain ⟨rfl, rfl⟩ := e7
    have TX := texts_any qa ca b qb cb b w10 i7 (H6.out.2.below B9.out.2.2)
    rw [H5.out.2.2.2.1, decide_eq_true rfl] at TX
    have HROW : Hid (OwnS w10 w4.heap.size (.slice qa al ca) b) := H5.out.2.1.below B9.out.2.1
    clear i7 hsh
    go_wp2_with fail
    refine TX.mono ?_
    rintro e w11 ⟨rfl, hb11⟩
    simp only []
    have H11 : Hid (Below w.heap.size w w11 ∧ Below w4.heap.size w4 w11 ∧ OwnS w11 w4.heap.size (.slice qa al ca) b) := ⟨below_more B9.out.1 hb11, below_more (below_more H5.out.1 B9.out.2.1) hb11, HROW.out.below hb11⟩
    clear TX hb11
    have aI : (al : Int) ≤ 32 := by have := H5.out.2.2.2.2; omega
    go_wp2_with fail
    have KEY : Hid (∀ wz, Below w4.heap.size w4 wz → Below w.heap.size w wz → Calls Try.prog 19 #[.slice q4 m c4, .slice q2 m c2] wz fun e w' => e = .returned (.bool true) ∧ Below wz.heap.size wz w') := fun wz h1 h2 => by
      have := texts_any q4 c4 ns q2 c2 ns wz (H4.out.2.below h1) (HH.out.2.1.below h2)
      rwa [HN.out.2, decide_eq_true rfl] at this
    by_cases h0 : al = 0
    · subst h0
      go_loopw [17] (fun t wr => t = .int .i64 0 ∧ wr = w11) (fun _ _ => 0)
      case atStart => exact ⟨rfl, rfl⟩
      case round =>
        obtain ⟨rfl, rfl⟩ := hrel
        have TZ := KEY.out wr H11.out.2.1 H11.out.1
        go_wp2_with fail
        refine TZ.mono ?_
        rintro e w12 ⟨rfl, hb12⟩
        simp only []
        go_wp2_with fail
        go_ret
        exact ⟨rfl, below_more H11.out.1 hb12⟩
    · obtain ⟨g, cap, cur, hq, hgb, hgh, hcs⟩ : ∃ g cap cur, Value.slice qa al ca = .slice (some ⟨g, 0, none⟩) al cap ∧ w4.heap.size ≤ g ∧ w11.heap[g]? = some (.cells cur 9 (0, 0)) ∧ al ≤ cur.size := by
        have hr := H11.out.2.2.row
        rw [H5.out.2.2.2.1] at hr
        rcases hr.2 with ⟨_, hz⟩ | ⟨g, cap, cur, e, hb, hg, h1, h2, h3, _⟩
        · exact absurd hz h0
        · exact ⟨g, cap, cur, e, hb, hg, by omega⟩
      simp only [Value.slice.injEq, true_and] at hq
      obtain ⟨rfl, rfl⟩ := hq
      have HG : Hid (w4.heap.size ≤ g ∧ w11.heap[g]? = some (.cells cur 9 (0, 0)) ∧ al ≤ cur.size) := ⟨hgb, hgh, hcs⟩
      clear h0 hgb hgh hcs
      go_loopw [17] (fun t wr => ∃ (i : Nat) (cs : Array Value), i ≤ al ∧ t = .int .i64 (i : Int) ∧ wr.heap[g]? = some (.cells cs 9 (0, 0)) ∧ al ≤ cs.size ∧ Below w4.heap.size w4 wr ∧ Below w.heap.size w wr) (fun t _ => al - (intOf t).toNat)
      case atStart => exact ⟨0, cur, Nat.zero_le _, rfl, HG.out.2.1, HG.out.2.2, H11.out.2.1, H11.out.1⟩
      case round =>
        obtain ⟨i, cs, hi, rfl, hg, hcs, hb, hb2⟩ := hrel
        have HI : Hid (wr.heap[g]? = some (.cells cs 9 (0, 0)) ∧ al ≤ cs.size ∧ Below w4.heap.size w4 wr ∧ Below w.heap.size w wr) := ⟨hg, hcs, hb, hb2⟩
        clear hg hcs hb hb2
        by_cases hlt : i < al
        · have iI : (i : Int) < (al : Int) := by omega
          have i0 : (0 : Int) ≤ (i : Int) := by omega
          have HK : Hid (i < al ∧ i < cs.size) := ⟨hlt, by have := HI.out.2.1; omega⟩
          have c0 : wr.cell? ⟨g, i, none⟩ = some (cs[i]'HK.out.2) := by rw [Lib.cell_of_heap HI.out.1 i, Array.getElem?_eq_getElem HK.out.2]
          have f0 : wr.frozen? ⟨g, i, none⟩ = false := by simp [World.frozen?, HI.out.1]
          generalize cs[i]'HK.out.2 = x at c0
          clear hi hlt
          go_wp2_with fail
          go_roundw
          case rel =>
            have hw4 := HG.out.1
            have h4w := H4.out.1.size
            exact ⟨i + 1, _, HK.out.1, by go_num, block_setCell HI.out.1 _, by simp; exact HI.out.2.1, HI.out.2.2.1.setCell (p := ⟨g, i, none⟩) hw4 _, HI.out.2.2.2.setCell (p := ⟨g, i, none⟩) (Nat.le_trans h4w hw4) _⟩
          case measure => have := HK.out; simp [intOf]; omega
        · obtain rfl : i = al := by omega
          have TZ := KEY.out wr HI.out.2.2.1 HI.out.2.2.2
          clear hi hlt
          go_wp2_with fail
          refine TZ.mono ?_
          rintro e w12 ⟨rfl, hb12⟩
          simp only []
          go_wp2_with fail
          go_ret
          exact ⟨rfl, below_more HI.out.2.2.2 hb12⟩
end Go.Proofs.Ytompcdmjbigigaa
