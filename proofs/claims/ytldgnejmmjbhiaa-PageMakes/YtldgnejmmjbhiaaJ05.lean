/-
  For any entries the law PageMakes answers true: entries are held to what they may be, and made a page, as the document says.
-/
import Derived.Test.YtldgnejmmjbhiaaJ04
import Derived.Laws.AppendOwnNone
import Derived.Test.YtldgnejmmjbhiaaRows
import Derived.WalkKit
import Derived.ProofKit
import Derived.OpenShut
import Derived.ShutString
import Derived.ChangeOld
import Derived.Below
namespace Go.Proofs.Ytldgnejmmjbhiaa
open Go.RowKit Go.WideShapes

set_option maxHeartbeats 1000000 in
theorem Summed_any (w0 : World) (bx : List Box) (w : World) (v : Value) (xs : List Nat) (hst : St w0 bx w v xs) (hx : ∀ c ∈ xs, c < 256) (hl : xs.length ≤ 100000000) :
    Calls Try.prog 43 #[v] w fun e w' => ∃ v', e = .returned v' ∧ St w0 bx w' v' (xs ++ sum4 xs) := by
  obtain ⟨p, c, rfl, _, _, _⟩ := own_form hst.own
  obtain ⟨z, hz⟩ : ∃ z, sumN xs = z := ⟨_, rfl⟩
  have hz1 : z < 4294967296 := hz ▸ sumN_lt hx
  have hcw : IntKind.u64.wrap (z : Int) = (z : Int) := by rw [IntKind.wrap_u64]; omega
  have HS := refSum_any p c xs w (own_in hst.own hx) (by unfold maxLen; omega)
  rw [hz] at HS
  have HQ : Hid (sum4 xs = (putN z).take 4 ∧ (putN z).length = 8 ∧ (∀ c ∈ putN z, c < 256) ∧ xs.length ≤ 100000000) := ⟨by unfold sum4; rw [hz], rfl, putN_bytes z (by omega), hl⟩
  have HST : Hid (St w0 bx w (.slice p xs.length c) xs) := hst
  clear hst hx hz hl
  go_enter Try.func43, Try.ntmps43
  go_wp2_with fail
  refine HS.mono ?_
  rintro e w1 ⟨rfl, rfl⟩
  go_wp2_with fail
  refine (refPut_any z _ (by omega)).mono ?_
  rintro e w2 ⟨v2, rfl, ho2, hb2⟩
  obtain ⟨p2, c2, rfl, h8, _, hp2⟩ := own_form ho2
  have H2 : Hid (St w0 bx w2 (.slice p xs.length c) xs) := HST.out.call hb2
  have HI2 : Hid (BIn w2 p2 (sum4 xs)) := by
    show BIn _ _ _
    rw [HQ.out.1]
    exact (own_in (xs := putN z) (by rw [HQ.out.2.1]; exact ho2) HQ.out.2.2.1).take' 4
  have h4c : (4 : Int) ≤ (c2 : Int) := by omega
  have hz2 := H2.out.size
  clear ho2 hb2 HST h8
  go_wp2_with (at_builtin; go_loud (refine wpList_append_bytes _ rfl _ _ rfl w0.heap.size _ _ (sum4 xs) p2 _ c2 rfl rfl rfl H2.out.own HI2.out hp2 (by rw [sum4_len]; have := HQ.out; omega) hz2 ?_); intro v3 w3 ho3 hg3; have t3 := H2.out.app ho3 hg3; have H3 : Hid _ := t3; clear t3 ho3 hg3)
  go_ret
  exact ⟨v3, rfl, H3.out⟩
end Go.Proofs.Ytldgnejmmjbhiaa
namespace Go.Proofs.Ytldgnejmmjbhiaa
open Go.RowKit Go.WideShapes

theorem wayN_bound {l : List EntV} (h : ∀ x ∈ l, OkE x) (hn : l.length ≤ 4096) : ∀ k, k ≤ l.length → (wayN l k).length ≤ 5 + k * 5000 := by
  intro k
  induction k with
  | zero =>
    intro _
    unfold wayN
    have := smallN_five l.length (by omega)
    simp [entsN]
    omega
  | succ k ih =>
    intro hk
    have hk' : k < l.length := by omega
    obtain ⟨s, hs⟩ : ∃ s : ByteArray, numsOf s = lastK [] (l.take k) := by
      rcases Nat.eq_zero_or_pos k with h0 | h0
      · subst h0; exact ⟨ByteArray.empty, by simp [lastK, nums_empty]⟩
      · refine ⟨(l.getD (k - 1) zeroE).key, ?_⟩
        have := take_snoc (l := l) (k := k - 1) (by omega) rfl
        rw [show k - 1 + 1 = k from by omega] at this
        rw [this, lastK_snoc]
    have := (wayN_next hk' rfl hs).1
    rw [← this, List.length_append]
    have h1 := ih (by omega)
    have h2 := entN_len (numsOf s) (h _ (getD_mem' hk'))
    omega
set_option maxRecDepth 8000 in
set_option maxHeartbeats 4000000 in
theorem Made_any (q : Option Addr) (nn c : Nat) (l : List EntV) (w : World) (h : EntsL w q nn l) (hk0 : checkE l = 0) :
    Calls Try.prog 29 #[.slice q nn c] w fun e w' => ∃ v, e = .returned v ∧ w'.ownsRow w.heap.size 5 1 v (pageN l).length (Bs (pageN l)) ∧ Below w.heap.size w w' := by
  have HN : Hid (nn = l.length) := h.n
  have HQ : Hid (EntsIn w q l) := h.lies
  have HO := checkE_ok hk0
  have hn4 : (nn : Int) ≤ 4096 := by have := HN.out; have := HO.1; omega
  have HOK : Hid ((∀ x ∈ l, OkE x) ∧ l.length ≤ 4096) := ⟨HO.2, HO.1⟩
  clear HO h hk0
  go_enter Try.func29, Try.ntmps29
  go_wp2_with fail
  refine (rsmall_i (nn : Int) _ (by omega)).mono ?_
  rintro e w2 ⟨v2, rfl, ho2, hb2⟩
  rw [Int.toNat_natCast] at ho2
  have HS2 : Hid (St w [] w2 v2 (smallN nn)) := ⟨ho2, hb2, fun p hp => by simp at hp⟩
  clear ho2 hb2
  go_wp2
  go_loopw [3, 4, 5] (fun v a i wr => ∃ k : Nat, ∃ s : ByteArray, k ≤ nn ∧ i = .int .i64 k ∧ a = .string s ∧ numsOf s = lastK [] (l.take k) ∧ s.size ≤ 256 ∧ (wayN l k).length ≤ 30000000 ∧ St w [] wr v (wayN l k)) (fun _ _ i _ => nn - (intOf i).toNat)
  case atStart =>
    have e : wayN l 0 = smallN nn := by unfold wayN; rw [HN.out]; simp [entsN]
    refine ⟨0, ByteArray.empty, by omega, rfl, rfl, rfl, by decide, ?_, by rw [e]; exact HS2.out⟩
    rw [e]
    have := smallN_five nn (by omega)
    omega
  case round =>
    obtain ⟨k, s, hk, rfl, rfl, hs, hsz, hlen, hst⟩ := hrel
    by_cases hkl : k < nn
    · have g9 : decide (k < nn) = true := decide_eq_true hkl
      have hkl' : k < l.length := by have := HN.out; omega
      obtain ⟨b, o, rfl⟩ := HQ.out.addr (by omega)
      obtain ⟨e0, e1, e2, e3⟩ := (HQ.out.below hst.bel).at hkl'
      obtain ⟨y, hy⟩ : ∃ y, l.getD k zeroE = y := ⟨_, rfl⟩
      rw [hy] at e0 e1 e2 e3
      have hoy : OkE y := HOK.out.1 y (by rw [← hy]; exact getD_mem' hkl')
      obtain ⟨hw1, hw2⟩ := wayN_next hkl' hy hs
      obtain ⟨zs, hzs⟩ : ∃ zs, wayN l (k + 1) = zs := ⟨_, rfl⟩
      have hzl := wayN_bound HOK.out.1 HOK.out.2 (k + 1) (by omega)
      obtain ⟨xs, hxs⟩ : ∃ xs, wayN l k = xs := ⟨_, rfl⟩
      rw [hzs, hxs] at hw1
      rw [hxs] at hst hlen
      obtain ⟨ke, ve, se, ge⟩ := y
      obtain ⟨hk1, hk2, hv, hs1, hs2, hg⟩ := hoy
      simp only at e0 e1 e2 e3 hw2 hk1 hk2 hv hs1 hs2
      have HW : Hid (numsOf ke = lastK [] (l.take (k + 1)) ∧ ke.size ≤ 256 ∧ wayN l (k + 1) = zs ∧ (wayN l (k + 1)).length ≤ 30000000) := ⟨hw2, hk2, hzs, by have := HOK.out.2; omega⟩
      obtain ⟨n, hn⟩ : ∃ n, sharedN (numsOf s) (numsOf ke) = n := ⟨_, rfl⟩
      have hnk : n ≤ ke.size := by have := (sharedN_le (numsOf s) (numsOf ke)).2; rw [numsOf_len] at this; omega
      have HJ : Hid (∀ tl, tailN ⟨ke, ve, se, ge⟩ = tl → xs ++ smallN n ++ textN (ke.extract n ke.size) ++ smallN se.toNat ++ tl = zs) := by
        intro tl ht
        have := ent_join (numsOf s) ke ve se xs ge tl ht
        rw [hn, hw1] at this
        exact this
      have HX : Hid (xs.length ≤ 30000000 ∧ n ≤ 256 ∧ ke.size ≤ 256 ∧ (smallN n).length ≤ 5 ∧ (textN (ke.extract n ke.size)).length ≤ 300 ∧ (smallN se.toNat).length ≤ 5) := by
        have h1 := textN_len (ke.extract n ke.size) (by rw [ByteArray.size_extract]; omega)
        rw [ByteArray.size_extract] at h1
        exact ⟨hlen, by omega, hk2, smallN_five n (by omega), by omega, smallN_five _ (by omega)⟩
      have HTG := fun w' => together_any s ke w' (by omega) n hn
      have q1 : (n : Int) ≤ (ke.size : Int) := by omega
      have q2 : (ke.size : Int) ≤ 256 := by omega
      have hs3 : 0 ≤ se ∧ se ≤ 9223372036854775807 := by omega
      have HV : Hid (ve.size ≤ 100000 ∧ (textN ve).length ≤ 5000) := ⟨by omega, by have := textN_len ve (by omega); omega⟩
      have HBY : Hid (∀ l ∈ [smallN n, textN (ke.extract n ke.size), smallN se.toNat, textN ve], ∀ c ∈ l, c < 256) := by
        intro l hl c hc
        simp only [List.mem_cons, List.not_mem_nil, or_false] at hl
        rcases hl with rfl | rfl | rfl | rfl
        · exact smallN_bytes _ c hc
        · exact textN_lt _ c hc
        · exact smallN_bytes _ c hc
        · exact textN_lt _ c hc
      have HKX : Hid ((ke.extract n ke.size).size ≤ 100000) := by show _ ≤ _; rw [ByteArray.size_extract]; omega
      have HST : Hid (St w ((wr.heap.size, #[.string ke, .string ve, .int .i64 se, .bool ge], 27) :: []) (wr.alloc (.cells #[.string ke, .string ve, .int .i64 se, .bool ge] 27)) u3 xs) := hst.alloc _ _ (by decide)
      have hkn : (k : Int) < (nn : Int) := by omega
      clear hst hn hnk hy hg hk1 hk2 hv hs1 hs2 hw1 hw2 hzs hxs hzl hs hsz hlen hkl'
      go_wp2_with fail
      refine (HTG _).mono ?_
      rintro e w1 ⟨rfl, hb1⟩
      have H1 : Hid (St w ((wr.heap.size, #[.string ke, .string ve, .int .i64 se, .bool ge], 27) :: []) w1 u3 (xs)) := HST.out.call hb1
      clear hb1 HTG HST
      go_wp2_with fail
      refine (rsmall_i (n : Int) _ (by omega)).mono ?_
      rintro e w2 ⟨v2, rfl, ho2, hb2⟩
      rw [Int.toNat_natCast] at ho2
      obtain ⟨p2, c2, rfl, _, _, hp2⟩ := own_form ho2
      have H2 : Hid (St w ((wr.heap.size, #[.string ke, .string ve, .int .i64 se, .bool ge], 27) :: []) w2 u3 (xs)) := H1.out.call hb2
      have HI2 : Hid (BIn w2 p2 (smallN n)) := own_in ho2 (HBY.out _ (by simp))
      have hz2 := H2.out.size
      clear ho2 hb2 H1
      go_wp2_with (at_builtin; go_loud (refine wpList_append_bytes _ rfl _ _ rfl w.heap.size _ _ (smallN n) p2 _ c2 rfl rfl rfl H2.out.own HI2.out hp2 (by (try simp only [List.length_append]); have := HX.out; omega) hz2 ?_); intro v3 w3 ho3 hg3; have t3 := H2.out.app ho3 hg3; have H3 : Hid _ := t3; have bx0 := t3.box0 0; have bx1 := t3.box0 1; have bx2 := t3.box0 2; have bx3 := t3.box0 3; clear t3 ho3 hg3 H2 HI2)
      go_wp2_with fail
      refine (refText_any (ke.extract n ke.size) _ HKX.out).mono ?_
      rintro e w4 ⟨v4, rfl, ho4, hb4⟩
      clear bx0 bx1 bx2 bx3
      obtain ⟨p4, c4, rfl, _, _, hp4⟩ := own_form ho4
      have H4 : Hid (St w ((wr.heap.size, #[.string ke, .string ve, .int .i64 se, .bool ge], 27) :: []) w4 v3 (xs ++ smallN n)) := H3.out.call hb4
      have HI4 : Hid (BIn w4 p4 (textN (ke.extract n ke.size))) := own_in ho4 (HBY.out _ (by simp))
      have hz4 := H4.out.size
      clear ho4 hb4 H3
      go_wp2_with (at_builtin; go_loud (refine wpList_append_bytes _ rfl _ _ rfl w.heap.size _ _ (textN (ke.extract n ke.size)) p4 _ c4 rfl rfl rfl H4.out.own HI4.out hp4 (by (try simp only [List.length_append]); have := HX.out; omega) hz4 ?_); intro v5 w5 ho5 hg5; have t5 := H4.out.app ho5 hg5; have H5 : Hid _ := t5; have bx0 := t5.box0 0; have bx1 := t5.box0 1; have bx2 := t5.box0 2; have bx3 := t5.box0 3; clear t5 ho5 hg5 H4 HI4)
      go_wp2_with fail
      refine (rsmall_i se _ hs3).mono ?_
      rintro e w6 ⟨v6, rfl, ho6, hb6⟩
      clear bx0 bx1 bx2 bx3
      obtain ⟨p6, c6, rfl, _, _, hp6⟩ := own_form ho6
      have H6 : Hid (St w ((wr.heap.size, #[.string ke, .string ve, .int .i64 se, .bool ge], 27) :: []) w6 v5 (xs ++ smallN n ++ textN (ke.extract n ke.size))) := H5.out.call hb6
      have HI6 : Hid (BIn w6 p6 (smallN se.toNat)) := own_in ho6 (HBY.out _ (by simp))
      have hz6 := H6.out.size
      clear ho6 hb6 H5
      cases ge with
      | true =>
        have HE : Hid (xs ++ smallN n ++ textN (ke.extract n ke.size) ++ smallN se.toNat ++ [1] = zs) := HJ.out [1] (by unfold tailN; rw [if_pos rfl, small1])
        go_wp2_with (first
          | (at_builtin; go_loud (refine wpList_append_bytes _ rfl _ _ rfl w.heap.size _ _ (smallN se.toNat) p6 _ c6 rfl rfl rfl H6.out.own HI6.out hp6 (by (try simp only [List.length_append]); have := HX.out; omega) hz6 ?_); intro v7 w7 ho7 hg7; have t7 := H6.out.app ho7 hg7; have H7 : Hid _ := t7; have bx0 := t7.box0 0; have bx1 := t7.box0 1; have bx2 := t7.box0 2; have bx3 := t7.box0 3; clear t7 ho7 hg7 H6 HI6; have S8 := H7.out.call (below_alloc w7 (.cells #[.int .u8 1] 5)); have HI8 : Hid (BIn (w7.alloc (.cells #[.int .u8 1] 5)) (some ⟨w7.heap.size, 0, none⟩) [1]) := bin_lit w7 _ _ 5 (0, 0) _ rfl (by simp [Bs]) (by intro c hc; simp at hc; omega); have H8 : Hid _ := S8; have hz8 := S8.size; clear S8)
          | (at_builtin; go_loud (refine wpList_append_bytes _ rfl _ _ rfl w.heap.size _ _ [1] (some ⟨w7.heap.size, 0, none⟩) _ 1 rfl rfl rfl H8.out.own HI8.out (fun h => by cases h) (by simp only [List.length_append, List.length_cons, List.length_nil]; have := HX.out; omega) hz8 ?_); intro v9 w9 ho9 hg9; have t9 := H8.out.app ho9 hg9; have H9 : Hid _ := t9; clear bx0 bx1 bx2 bx3; have bx0 := t9.box0 0; have bx1 := t9.box0 1; clear t9 ho9 hg9))
        go_roundw
        case rel => exact ⟨k + 1, ke, by omega, by go_num, rfl, HW.out.1, HW.out.2.1, HW.out.2.2.2, by rw [HW.out.2.2.1]; exact (H9.out.eq HE.out).drop⟩
        case measure => simp [intOf]; omega
      | false =>
        have HE : Hid (xs ++ smallN n ++ textN (ke.extract n ke.size) ++ smallN se.toNat ++ [0] ++ textN ve = zs) := by
          have := HJ.out ([0] ++ textN ve) (by unfold tailN textN; rw [if_neg (by simp), small0])
          rw [← List.append_assoc] at this
          exact this
        go_wp2_with (first
          | (at_builtin; go_loud (refine wpList_append_bytes _ rfl _ _ rfl w.heap.size _ _ (smallN se.toNat) p6 _ c6 rfl rfl rfl H6.out.own HI6.out hp6 (by (try simp only [List.length_append]); have := HX.out; omega) hz6 ?_); intro v7 w7 ho7 hg7; have t7 := H6.out.app ho7 hg7; have H7 : Hid _ := t7; have bx0 := t7.box0 0; have bx1 := t7.box0 1; have bx2 := t7.box0 2; have bx3 := t7.box0 3; clear t7 ho7 hg7 H6 HI6; have S8 := H7.out.call (below_alloc w7 (.cells #[.int .u8 0] 5)); have HI8 : Hid (BIn (w7.alloc (.cells #[.int .u8 0] 5)) (some ⟨w7.heap.size, 0, none⟩) [0]) := bin_lit w7 _ _ 5 (0, 0) _ rfl (by simp [Bs]) (by intro c hc; simp at hc; omega); have H8 : Hid _ := S8; have hz8 := S8.size; clear S8)
          | (at_builtin; go_loud (refine wpList_append_bytes _ rfl _ _ rfl w.heap.size _ _ [0] (some ⟨w7.heap.size, 0, none⟩) _ 1 rfl rfl rfl H8.out.own HI8.out (fun h => by cases h) (by simp only [List.length_append, List.length_cons, List.length_nil]; have := HX.out; omega) hz8 ?_); intro v9 w9 ho9 hg9; have t9 := H8.out.app ho9 hg9; have H9 : Hid _ := t9; clear bx0 bx1 bx2 bx3; have bx0 := t9.box0 0; have bx1 := t9.box0 1; clear t9 ho9 hg9))
        go_wp2_with fail
        refine (refText_any ve _ HV.out.1).mono ?_
        rintro e w10 ⟨v10, rfl, ho10, hb10⟩
        obtain ⟨p10, c10, rfl, _, _, hp10⟩ := own_form ho10
        have H10 : Hid (St w ((wr.heap.size, #[.string ke, .string ve, .int .i64 se, .bool false], 27) :: []) w10 v9 (xs ++ smallN n ++ textN (ke.extract n ke.size) ++ smallN se.toNat ++ [0])) := H9.out.call hb10
        have HI10 : Hid (BIn w10 p10 (textN ve)) := own_in ho10 (HBY.out _ (by simp))
        have hz10 := H10.out.size
        clear ho10 hb10 H9 H8 bx0 bx1
        go_wp2_with (at_builtin; go_loud (refine wpList_append_bytes _ rfl _ _ rfl w.heap.size _ _ (textN ve) p10 _ c10 rfl rfl rfl H10.out.own HI10.out hp10 (by simp only [List.length_append, List.length_cons, List.length_nil]; have := HX.out; have := HV.out; omega) hz10 ?_); intro v11 w11 ho11 hg11; have t11 := H10.out.app ho11 hg11; have H11 : Hid _ := t11; have bx0 := t11.box0 0; clear t11 ho11 hg11)
        go_roundw
        case rel => exact ⟨k + 1, ke, by omega, by go_num, rfl, HW.out.1, HW.out.2.1, HW.out.2.2.2, by rw [HW.out.2.2.1]; exact (H11.out.eq HE.out).drop⟩
        case measure => simp [intOf]; omega
    · have g2 : (nn : Int) ≤ (k : Int) := by omega
      have g9 : decide (k < nn) = false := decide_eq_false hkl
      have hwa := wayN_all (l := l) (k := k) (by have := HN.out; omega)
      rw [hwa] at hst hlen
      have HSM := Summed_any w [] wr u3 (bodyN l) hst (bodyN_lt l) (by omega)
      clear hwa hst hs hlen
      go_wp2_with fail
      refine HSM.mono ?_
      rintro e w4 ⟨v4, rfl, hs4⟩
      have HS4 : Hid (St w [] w4 v4 (pageN l)) := hs4
      clear hs4 HSM
      go_wp2
      go_ret
      exact ⟨v4, rfl, HS4.out.own, HS4.out.bel⟩
set_option maxHeartbeats 1000000 in
theorem rMake_any (q : Option Addr) (n c : Nat) (l : List EntV) (w : World) (h : EntsL w q n l) (ys : List Nat) (E : Nat) (hR : makeE l = (ys, E)) :
    Calls Try.prog 14 #[.slice q n c] w fun e w' => ∃ v, e = .returned (.tuple #[v, .int .i64 (E : Int)]) ∧ w'.ownsRow w.heap.size 5 1 v ys.length (Bs ys) ∧ Below w.heap.size w w' := by
  obtain ⟨C, hC⟩ : ∃ C, checkE l = C := ⟨_, rfl⟩
  have HCK := rCheck_any q n c l w h C hC
  have HR : Hid (makeE l = (ys, E)) := hR
  have HQ : Hid (EntsL w q n l) := h
  have HC : Hid (checkE l = C) := hC
  clear h hR hC
  go_enter Try.func14, Try.ntmps14
  go_wp2_with fail
  refine HCK.mono ?_
  rintro e w1 ⟨rfl, hb1⟩
  have HB1 : Hid (Below w.heap.size w w1) := hb1
  clear hb1 HCK
  rcases Nat.eq_zero_or_pos C with h0 | h0
  · subst h0
    go_wp2_with fail
    refine (Made_any q n c l _ (HQ.out.below HB1.out) HC.out).mono ?_
    rintro e w2 ⟨v2, rfl, ho2, hb2⟩
    obtain ⟨p2, c2, rfl, _, _, _⟩ := own_form ho2
    have HO2 : Hid (w2.ownsRow w.heap.size 5 1 (.slice p2 (pageN l).length c2) (pageN l).length (Bs (pageN l)) ∧ Below w.heap.size w w2) := ⟨own_mono ho2 HB1.out.size, below_bt HB1.out hb2⟩
    clear ho2 hb2
    by_cases hbig : 65536 < (pageN l).length
    · have g5 : decide ((65536 : Int) < ((pageN l).length : Int)) = true := decide_eq_true (by omega)
      have HE : Hid (ys = [] ∧ E = 7) := by
        have e : makeE l = ([], 7) := by unfold makeE; rw [if_pos HC.out, if_pos hbig]
        rw [HR.out] at e
        show _ ∧ _
        simpa using e
      clear hbig
      go_wp2
      go_ret2
      exact ⟨.slice none 0 0, by rw [HE.out.2]; rfl, by rw [HE.out.1]; exact World.ownsRow_nil _ _ _ _, HO2.out.2⟩
    · have g5 : decide ((65536 : Int) < ((pageN l).length : Int)) = false := decide_eq_false (by omega)
      have HE : Hid (ys = pageN l ∧ E = 0) := by
        have e : makeE l = (pageN l, 0) := by unfold makeE; rw [if_pos HC.out, if_neg hbig]
        rw [HR.out] at e
        show _ ∧ _
        simpa using e
      clear hbig
      go_wp2
      go_ret2
      exact ⟨_, by rw [HE.out.2]; rfl, by rw [HE.out.1]; exact HO2.out.1, HO2.out.2⟩
  · have hne : ((C : Int) != 0) = true := by simp; omega
    have HE : Hid (ys = [] ∧ E = C) := by
      have := makeE_no (l := l) (by rw [HC.out]; omega)
      rw [HR.out, HC.out] at this
      show _ ∧ _
      simpa using this
    clear h0
    go_wp2
    go_ret2
    exact ⟨.slice none 0 0, by rw [HE.out.2]; rfl, by rw [HE.out.1]; exact World.ownsRow_nil _ _ _ _, HB1.out⟩
end Go.Proofs.Ytldgnejmmjbhiaa
namespace Go.Proofs.Ytldgnejmmjbhiaa
open Go.RowKit Go.WideShapes

theorem ents_cells {w : World} {b o : Nat} {l : List EntV} (h : EntsIn w (some ⟨b, o, none⟩) l) : ∀ j u, (cellsE l)[j]? = some u → w.cell? ((⟨b, o, none⟩ : Addr).add j) = some u := by
  intro j u hj
  have hlt : j < l.length * 4 := by rw [← cellsE_len]; exact (List.getElem?_eq_some_iff.1 hj).1
  have hi : j / 4 < l.length := by omega
  obtain ⟨c0, c1, c2, c3⟩ := cellsE_at l (j / 4) hi
  obtain ⟨d0, d1, d2, d3⟩ := h.at hi
  rw [add_plain]
  have hr : j % 4 = 0 ∨ j % 4 = 1 ∨ j % 4 = 2 ∨ j % 4 = 3 := by omega
  rcases hr with hr | hr | hr | hr
  · have e : j = j / 4 * 4 := by omega
    rw [← e] at c0 d0
    rw [c0] at hj; rw [d0, ← Option.some.inj hj]
  · have e : j = j / 4 * 4 + 1 := by omega
    rw [Nat.add_assoc] at d1
    rw [← e] at c1 d1
    rw [c1] at hj; rw [d1, ← Option.some.inj hj]
  · have e : j = j / 4 * 4 + 2 := by omega
    rw [Nat.add_assoc] at d2
    rw [← e] at c2 d2
    rw [c2] at hj; rw [d2, ← Option.some.inj hj]
  · have e : j = j / 4 * 4 + 3 := by omega
    rw [Nat.add_assoc] at d3
    rw [← e] at c3 d3
    rw [c3] at hj; rw [d3, ← Option.some.inj hj]
theorem cellsE_one (l : List EntV) : ∀ u ∈ cellsE l, u.oneCell' = true := by
  intro u hu
  simp only [cellsE, List.mem_flatMap, List.mem_cons, List.not_mem_nil, or_false] at hu
  obtain ⟨p, _, h⟩ := hu
  rcases h with rfl | rfl | rfl | rfl <;> rfl
theorem run_append_ents (w : World) (base : Nat) (ty : TypeId) (l : List EntV) (p : Option Addr) (c : Nat) (hin : EntsIn w p l) (hp : p = none → c = 0) (hlen : l.length ≤ 100000) (hbase : base ≤ w.heap.size) :
    ∃ v' w', (Builtin.append_ #[28, 28] ty #[.slice none 0 0, .slice p l.length c]).run Try.prog w = .ok v' w' ∧ EOwn w' base v' l ∧ w.grownBy w' none := by
  obtain ⟨i0, hi, hz0, hz1, hz2⟩ := info_parts' info_entry
  have hown := eown_nil w base
  have hmax : 0 + l.length ≤ maxLen := by unfold maxLen; omega
  cases p with
  | none =>
    obtain rfl : l = [] := by
      cases l with
      | nil => rfl
      | cons y l => obtain ⟨b, o, e, _⟩ := hin (by simp); cases e
    obtain rfl := hp rfl
    exact ⟨_, w, run_append_owned_none (P := Try.prog) w base 28 ty 27 i0 4 Try.underlying28 hi (.slice none 0 0) 0 [] hown, hown, ⟨rfl, rfl, rfl, Nat.le_refl _, fun _ _ _ => rfl⟩⟩
  | some ad =>
    have hc : ∀ j u, (cellsE l)[j]? = some u → w.cell? (ad.add j) = some u := by
      intro j u hu
      have hpos : 0 < l.length := by
        cases l with
        | nil => simp [cellsE] at hu
        | cons y l => simp
      obtain ⟨b, o, e, _⟩ := hin hpos
      simp at e
      subst e
      exact ents_cells hin j u hu
    obtain ⟨v', w', h1, h2, h3, _⟩ := run_append_own (P := Try.prog) w base 28 ty 27 i0 (.agg #[.string ByteArray.empty, .string ByteArray.empty, .int .i64 0, .bool false]) 4 48 Try.underlying28 hi hz0 hz1 hz2 rfl (by decide) (.slice none 0 0) 0 [] hown ad l.length c (cellsE l) (cellsE_len l) hc (cellsE_one l) hmax (by omega) hbase
    exact ⟨v', w', h1, by simpa [EOwn] using h2, h3⟩
theorem wpList_append_ents (w : World) {ops : Array Oper} {rest : List Oper} {o : Oper} {a : Act} {Q : Exit → Act → World → Prop} (hgd : o.guard = none) (s x : Operand)
    (ho : o.op = .call { callee := .builtin .append, args := #[s, x], argTypes := #[28, 28] }) (base : Nat) (l : List EntV) (p : Option Addr) (m c : Nat) (hs : a.eval s = .slice none 0 0) (hx : a.eval x = .slice p m c) (hm : m = l.length)
    (hin : EntsIn w p l) (hp : p = none → c = 0) (hlen : l.length ≤ 100000) (hbase : base ≤ w.heap.size)
    (h : ∀ v' w', EOwn w' base v' l → w.grownBy w' none → wpList Try.prog ops Q rest (a.put o.dst v') w') : wpList Try.prog ops Q (o :: rest) a w := by
  subst hm
  refine wpList_plain hgd fun K hK => ?_
  obtain ⟨v', w', hr, h2, h3⟩ := run_append_ents w base o.type l p c hin hp hlen hbase
  unfold Oper.wp execOp
  simp only [ho, resolve, invoke, builtin, Sem.run_bind, Sem.run_pure, Result.andThen_ok, List.map_toArray, List.map_cons, List.map_nil, hs, hx, hr]
  exact hK _ _ (h v' w' h2 h3)
end Go.Proofs.Ytldgnejmmjbhiaa
namespace Go.Proofs.Ytldgnejmmjbhiaa.pageMakes
open Go.ChangeShapes Go.WideShapes Go.ChangeAt Go.RowKit
open Go.ChangeMaps (open_string shut_string)
set_option linter.unusedVariables false

theorem own : ownKnob Try.prog.godebug = none := by kernel_rfl
theorem laidOut : laidOutB Try.prog = true := by kernel_rfl

set_option maxRecDepth 20000 in
set_option maxHeartbeats 4000000 in
theorem walk (va : Value) (l : List EntV) (w : World) (ha : Ents w va l) :
    Calls Try.prog 4 #[va] w fun e w' => e = .returned (.bool true) ∧ Below w.heap.size w w' := by
  obtain ⟨q, c, rfl, hq, hc1, hc2, hc3⟩ := ha.lies
  have HQ : Hid (EntsIn w q l ∧ (l.length : Int) ≤ 9223372036854775807 ∧ (q = none → c = 0)) := ⟨hq, by unfold maxLen at hc2; omega, hc3⟩
  obtain ⟨ys, E, hR⟩ : ∃ ys E, makeE l = (ys, E) := ⟨_, _, rfl⟩
  have HR : Hid (makeE l = (ys, E)) := hR
  have HYB : Hid (∀ c ∈ ys, c < 256) := by
    intro c hc
    by_cases h1 : checkE l = 0
    · by_cases h2 : 65536 < (pageN l).length
      · have e : makeE l = ([], 7) := by unfold makeE; rw [if_pos h1, if_pos h2]
        rw [hR] at e; simp only [Prod.mk.injEq] at e; rw [e.1] at hc; simp at hc
      · have e : makeE l = (pageN l, 0) := by unfold makeE; rw [if_pos h1, if_neg h2]
        rw [hR] at e; simp only [Prod.mk.injEq] at e; rw [e.1] at hc; exact pageN_lt l c hc
    · have e := makeE_no h1
      rw [hR] at e; simp only [Prod.mk.injEq] at e; rw [e.1] at hc; simp at hc
  obtain ⟨C, hC⟩ : ∃ C, checkE l = C := ⟨_, rfl⟩
  have HC : Hid (checkE l = C) := hC
  clear ha hq hc1 hc2 hc3 hR hC
  go_enter Try.func4, Try.ntmps4
  go_wp2_with fail
  refine (heavy_any q l.length c l _ ⟨rfl, HQ.out.1⟩ HQ.out.2.1).mono ?_
  rintro e w2 ⟨⟨r, rfl, hr⟩, hb2⟩
  have HB2 : Hid (Below w.heap.size w w2) := hb2
  clear hb2
  cases r with
  | true =>
    clear hr
    go_wp2
    go_ret
    exact ⟨rfl, HB2.out⟩
  | false =>
    have HN5 : Hid (l.length ≤ 5000) := hr rfl
    have hn5 : (l.length : Int) ≤ 5000 := by have := HN5.out; omega
    have hz2 := HB2.out.size
    clear hr
    go_wp2_with (at_builtin; go_loud (refine wpList_append_ents _ rfl _ _ rfl w.heap.size l q _ c rfl rfl rfl (HQ.out.1.below HB2.out) HQ.out.2.2 (by have := HN5.out; omega) hz2 ?_); intro v3 w3 ho3 hg3; obtain ⟨q3, c3, rfl, _, _, _⟩ := ho3.form; have HO3 : Hid (EOwn w3 w.heap.size (.slice q3 l.length c3) l ∧ Below w.heap.size w w3) := ⟨ho3, HB2.out.grown hg3 HB2.out.size (fun k hk => by cases hk)⟩; clear ho3 hg3)
    refine (Make_any q3 l.length c3 l _ ⟨rfl, HO3.out.1.ents⟩ ys E HR.out).mono ?_
    rintro e w4 ⟨v4, rfl, ho4, hb4⟩
    obtain ⟨p4, c4, rfl, _, _, _⟩ := own_form ho4
    have HB4 : Hid (Below w.heap.size w w4) := below_bt HO3.out.2 hb4
    have HE4 : Hid (EntsIn w4 q3 l ∧ BIn w4 p4 ys) := ⟨HO3.out.1.ents.below hb4, own_in ho4 HYB.out⟩
    clear ho4 hb4
    go_wp2_with fail
    refine (rMake_any q l.length c l _ ⟨rfl, HQ.out.1.below HB4.out⟩ ys E HR.out).mono ?_
    rintro e w5 ⟨v5, rfl, ho5, hb5⟩
    obtain ⟨p5, c5, rfl, _, _, _⟩ := own_form ho5
    have HB5 : Hid (Below w.heap.size w w5) := below_bt HB4.out hb5
    have HE5 : Hid (EntsIn w5 q3 l ∧ BIn w5 p4 ys ∧ BIn w5 p5 ys) := ⟨HE4.out.1.below hb5, HE4.out.2.below hb5, own_in ho5 HYB.out⟩
    clear ho5 hb5
    go_wp2
    go_loopw [8] (fun i wr => ∃ k : Nat, (k ≤ l.length + 1) ∧ i = .int .i64 (k : Int) ∧ 1 ≤ k ∧ Below w5.heap.size w5 wr) (fun i _ => l.length + 1 - (intOf i).toNat)
    case atStart => exact ⟨1, by omega, rfl, by omega, Below.refl _ _⟩
    case round =>
      obtain ⟨k, hk, rfl, hk1, hbel⟩ := hrel
      have HB : Hid (Below w5.heap.size w5 wr) := hbel
      clear hbel
      by_cases hgo : k < l.length ∧ k < 400
      · obtain ⟨hkl, hk4⟩ := hgo
        obtain ⟨j, rfl⟩ : ∃ j, k = j + 1 := ⟨k - 1, by omega⟩
        have g1 : decide (j + 1 < l.length) = true := decide_eq_true hkl
        have g1' : decide (((j : Int) + 1) < (l.length : Int)) = true := decide_eq_true (by omega)
        have g2 : decide (((j + 1 : Nat) : Int) < 400) = true := decide_eq_true (by omega)
        have g2' : decide ((j : Int) + 1 < 400) = true := decide_eq_true (by omega)
        obtain ⟨b, o, rfl⟩ := HQ.out.1.addr (by omega)
        obtain ⟨x, hx⟩ : ∃ x, l.getD j zeroE = x := ⟨_, rfl⟩
        obtain ⟨y, hy⟩ : ∃ y, l.getD (j + 1) zeroE = y := ⟨_, rfl⟩
        obtain ⟨kx, vx, sx, gx⟩ := x
        obtain ⟨ky, vy, sy, gy⟩ := y
        obtain ⟨r1, hr1⟩ : ∃ r, lessE ⟨kx, vx, sx, gx⟩ ⟨ky, vy, sy, gy⟩ = r := ⟨_, rfl⟩
        obtain ⟨r2, hr2⟩ : ∃ r, lessE ⟨ky, vy, sy, gy⟩ ⟨kx, vx, sx, gx⟩ = r := ⟨_, rfl⟩
        have HL1 := fun w' => less_any ⟨kx, vx, sx, gx⟩ ⟨ky, vy, sy, gy⟩ w'
        have HL2 := fun w' => rless_any ⟨kx, vx, sx, gx⟩ ⟨ky, vy, sy, gy⟩ w'
        have HL3 := fun w' => less_any ⟨ky, vy, sy, gy⟩ ⟨kx, vx, sx, gx⟩ w'
        have HL4 := fun w' => rless_any ⟨ky, vy, sy, gy⟩ ⟨kx, vx, sx, gx⟩ w'
        rw [hr1, entV_def, entV_def] at HL1 HL2
        rw [hr2, entV_def, entV_def] at HL3 HL4
        have KS : Hid (∀ w', Below wr.heap.size wr w' → (w'.cell? ⟨b, o + j * 4, none⟩ = some (.string kx) ∧ w'.cell? ⟨b, o + j * 4 + 1, none⟩ = some (.string vx) ∧ w'.cell? ⟨b, o + j * 4 + 2, none⟩ = some (.int .i64 sx) ∧ w'.cell? ⟨b, o + j * 4 + 3, none⟩ = some (.bool gx)) ∧ (w'.cell? ⟨b, o + (j + 1) * 4, none⟩ = some (.string ky) ∧ w'.cell? ⟨b, o + (j + 1) * 4 + 1, none⟩ = some (.string vy) ∧ w'.cell? ⟨b, o + (j + 1) * 4 + 2, none⟩ = some (.int .i64 sy) ∧ w'.cell? ⟨b, o + (j + 1) * 4 + 3, none⟩ = some (.bool gy)) ∧ Below wr.heap.size wr w') := by
          intro w' hb
          have hin := HQ.out.1.below (below_bt (below_bt HB5.out HB.out) hb)
          have h1 := hin.at (k := j) (by omega)
          have h2 := hin.at (k := j + 1) (by omega)
          rw [hx] at h1
          rw [hy] at h2
          exact ⟨h1, h2, hb⟩
        have kw0 : IntKind.i64.wrap (j : Int) = (j : Int) := by rw [IntKind.wrap_i64]; omega
        have kw1 : IntKind.i64.wrap ((j : Int) + 1 - 1) = (j : Int) := by rw [IntKind.wrap_i64]; omega
        have kw2 : IntKind.i64.wrap (((j + 1 : Nat) : Int) - 1) = (j : Int) := by rw [IntKind.wrap_i64]; omega
        have kb0 : (0 : Int) ≤ (j : Int) := by omega
        have kb1 : (j : Int) < (l.length : Int) := by omega
        have kb2 : (0 : Int) ≤ (j : Int) + 1 := by omega
        have kb3 : (j : Int) + 1 < (l.length : Int) := by omega
        have kb4 : ((j : Int) + 1).toNat = j + 1 := by omega
        have HJ : Hid (j + 1 < l.length) := hkl
        clear hx hy hr1 hr2 hk hk1 hkl hk4
        go_wp2
        go_region_held3 (fun w' => (w'.cell? ⟨b, o + j * 4, none⟩ = some (.string kx) ∧ w'.cell? ⟨b, o + j * 4 + 1, none⟩ = some (.string vx) ∧ w'.cell? ⟨b, o + j * 4 + 2, none⟩ = some (.int .i64 sx) ∧ w'.cell? ⟨b, o + j * 4 + 3, none⟩ = some (.bool gx)) ∧ (w'.cell? ⟨b, o + (j + 1) * 4, none⟩ = some (.string ky) ∧ w'.cell? ⟨b, o + (j + 1) * 4 + 1, none⟩ = some (.string vy) ∧ w'.cell? ⟨b, o + (j + 1) * 4 + 2, none⟩ = some (.int .i64 sy) ∧ w'.cell? ⟨b, o + (j + 1) * 4 + 3, none⟩ = some (.bool gy)) ∧ Below wr.heap.size wr w')
          (with_reducible first
            | exact KS.out _ HBd.out
            | exact KS.out _ HBc.out
            | exact KS.out _ HBb.out
            | exact KS.out _ HBa.out
            | exact KS.out _ (Below.refl _ _).drew
            | assumption)
          (first
            | (go_at_call 16; have q1 := HBc.out; clear q1; refine (HL4 _).mono ?_; rintro e wd ⟨rfl, hbd⟩; have HBd : Hid (Below wr.heap.size wr wd) := below_bt HBc.out hbd; clear hbd)
            | (go_at_call 15; have q1 := HBb.out; clear q1; refine (HL3 _).mono ?_; rintro e wc ⟨rfl, hbc⟩; have HBc : Hid (Below wr.heap.size wr wc) := below_bt HBb.out hbc; clear hbc)
            | (go_at_call 16; have q1 := HBa.out; clear q1; refine (HL2 _).mono ?_; rintro e wb ⟨rfl, hbb⟩; have HBb : Hid (Below wr.heap.size wr wb) := below_bt HBa.out hbb; clear hbb)
            | (go_at_call 15; refine (HL1 _).mono ?_; rintro e wa ⟨rfl, hba⟩; have HBa : Hid (Below wr.heap.size wr wa) := below_dw hba; clear hba)
            | fail)
        rename_i hh
        have HBE : Hid (Below wr.heap.size wr _) := hh.2.2
        clear hh
        go_wp2
        go_roundw
        case rel => exact ⟨j + 1 + 1, by have := HJ.out; omega, by go_num, by omega, below_bt HB.out HBE.out⟩
        case measure => have := HJ.out; simp [intOf]; omega
      · have HX : Hid (EntsIn wr q3 l ∧ EntsIn wr q l ∧ BIn wr p4 ys ∧ BIn wr p5 ys ∧ Below w.heap.size w wr) := ⟨HE5.out.1.below HB.out, HQ.out.1.below (below_bt HB5.out HB.out), HE5.out.2.1.below HB.out, HE5.out.2.2.below HB.out, below_bt HB5.out HB.out⟩
        have hcv1 := conv_bytes HX.out.2.2.1 rfl c4
        have hcv2 := conv_bytes HX.out.2.2.2.1 rfl c5
        have HCK := Check_any q3 l.length c3 l wr ⟨rfl, HX.out.1⟩ C HC.out
        have HRC : Hid (∀ w', Below wr.heap.size wr w' → Calls Try.prog 17 #[.slice q l.length c] w' fun e w2 => e = .returned (.int .i64 (C : Int)) ∧ Below w'.heap.size w' w2) := fun w' hb => rCheck_any q l.length c l w' ⟨rfl, HX.out.2.1.below hb⟩ C HC.out
        have HSA : Hid (∀ w', Below wr.heap.size wr w' → Calls Try.prog 18 #[.slice q3 l.length c3, .slice q l.length c] w' fun e w2 => e = .returned (.bool true) ∧ Below w'.heap.size w' w2) := fun w' hb => rsame_yes q3 q l.length c3 c l w' rfl (by have := HN5.out; omega) (HX.out.1.below hb) (HX.out.2.1.below hb)
        by_cases hkl : k < l.length
        · have g1 : decide (k < l.length) = true := decide_eq_true hkl
          have g2 : decide ((k : Int) < 400) = false := decide_eq_false (by omega)
          clear hgo hkl hk hk1
          go_wp2_with fail
          refine HCK.mono ?_
          rintro e w6 ⟨rfl, hb6⟩
          have HB6 : Hid (Below wr.heap.size wr w6) := hb6
          clear hb6 HCK hcv1 hcv2
          go_wp2_with fail
          refine (HRC.out _ HB6.out).mono ?_
          rintro e w7 ⟨rfl, hb7⟩
          have HB7 : Hid (Below wr.heap.size wr w7) := below_bt HB6.out hb7
          clear hb7
          go_wp2_with fail
          refine (HSA.out _ HB7.out).mono ?_
          rintro e w8 ⟨rfl, hb8⟩
          have HB8 : Hid (Below w.heap.size w w8) := below_bt HX.out.2.2.2.2 (below_bt HB7.out hb8)
          clear hb8
          go_wp2
          go_ret
          exact ⟨rfl, HB8.out⟩
        · have g1 : decide (k < l.length) = false := decide_eq_false hkl
          clear hgo hkl hk hk1
          go_wp2_with fail
          refine HCK.mono ?_
          rintro e w6 ⟨rfl, hb6⟩
          have HB6 : Hid (Below wr.heap.size wr w6) := hb6
          clear hb6 HCK hcv1 hcv2
          go_wp2_with fail
          refine (HRC.out _ HB6.out).mono ?_
          rintro e w7 ⟨rfl, hb7⟩
          have HB7 : Hid (Below wr.heap.size wr w7) := below_bt HB6.out hb7
          clear hb7
          go_wp2_with fail
          refine (HSA.out _ HB7.out).mono ?_
          rintro e w8 ⟨rfl, hb8⟩
          have HB8 : Hid (Below w.heap.size w w8) := below_bt HX.out.2.2.2.2 (below_bt HB7.out hb8)
          clear hb8
          go_wp2
          go_ret
          exact ⟨rfl, HB8.out⟩

/-! ### THE ROW's STEP -/
set_option maxRecDepth 100000 in
theorem lifted (os : Os) (started : os.Started) (H : Type) (enc : TypeId × Value → H) :
    ReturnsInHanded {} Try.checked os 4 .any (Rows.pageMakesSpec.pre6 enc Try.prog Try.f4 Rows.pageMakesRow.domain false) (Rows.pageMakesSpec.post enc Try.prog Try.f4 false true false false) := by
  refine returnsInHanded_of_change (C := Try.checked) own started (by kernel_rfl) Try.func4
    (ChangeSpec.witness6 (enc := enc) (C := Try.checked) false ⟨#[], #[.slice none 0 0], []⟩ 8 (by kernel_rfl) (by kernel_rfl) (by kernel_rfl) (by kernel_rfl)) ?_
  intro W base args ds gs before hval0 hW hcnd _
  have hval : ∀ (j : Nat) t v, Try.f4.params[j]? = some t → args[j]? = some v → Value.okWide Try.prog W .any base t v := hval0
  have hW' := hW
  obtain ⟨p, q, hA0, hV, rfl, hfz, hnd⟩ := hW
  have hA : DataW.TrodAll enc Try.prog W 0 (fun _ => true) true Try.f4.params.toList args.toList ds p := hA0
  rw [Try.params4] at hA hval
  obtain ⟨v0, vs0, d0, ds0, p0, q0, hargs, rfl, rfl, h0, r0⟩ := trodAll_cons hA
  obtain ⟨rfl, rfl, rfl⟩ := trodAll_nil r0
  obtain rfl : args = #[v0] := by cases args; simp_all
  obtain ⟨rfl, rfl⟩ := trodVars_none hV
  have k0 := h0
  have lt0 : ∀ x ∈ p0, x.block < W.heap.size := by obtain ⟨m, hm⟩ := k0; exact DataW.trod_lt m _ _ _ hm
  obtain ⟨qa0, la0, ca0, rfl⟩ := okWide_slice Try.underlying28 (hval 0 28 v0 rfl rfl)
  obtain ⟨fu0, hf0⟩ := h0
  obtain ⟨l0, w0⟩ := open_entries Try.underlying28 Try.underlying27 (by kernel_rfl) rfl rfl rfl rfl (by kernel_rfl) (by kernel_rfl) (by kernel_rfl) (by kernel_rfl) Try.underlying9 Try.underlying9 Try.underlying3 Try.underlying4 hf0
  clear hA0 hval0
  refine (walk (.slice qa0 la0 ca0) l0 W w0).mono fun e W' ⟨he, bel⟩ => ?_
  subst he
  exact ⟨_, rfl, _, _, _, [], _, [], hW', trodAll_mk1 (shut_bool Try.underlying4 _), (trodAll_cons_mk (Below.trod laidOut (by kernel_rfl) (of_decide_eq_true (by kernel_rfl)) k0 bel lt0) trodAll_mk0), rfl, bel.frame _, fun h => by cases h⟩

theorem over : Rows.pageMakesRow.holds Try.pinned (OpenSpec.ofChange Rows.pageMakesSpec) :=
  OpenClaim.holds_of_wide 4 Try.f4 rfl rfl rfl rfl rfl rfl rfl ⟨rfl, rfl, rfl, rfl, rfl⟩ rfl rfl rfl rfl rfl (by kernel_rfl) Try.func4 (by kernel_rfl)
    (of_decide_eq_true (by kernel_rfl)) (by unfold Func.isWrapper; first | (rw [if_pos (by decide +kernel)]; kernel_rfl) | (rw [if_neg (by decide +kernel)]; exact ⟨rfl, rfl⟩))
    (fun os started H enc _ => lifted os started H enc)

theorem proved : Rows.PageMakesSaid := over
end Go.Proofs.Ytldgnejmmjbhiaa.pageMakes
namespace Go.Proofs.Ytldgnejmmjbhiaa
theorem pageMakes_holds : Rows.PageMakesSaid := pageMakes.proved
#print axioms pageMakes_holds
end Go.Proofs.Ytldgnejmmjbhiaa
