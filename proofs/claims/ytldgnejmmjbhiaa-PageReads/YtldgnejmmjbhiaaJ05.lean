/-
  A page in which one byte is another one is no page; no program is named here, but for the row that is written to.
-/
import Derived.Test.YtldgnejmmjbhiaaJ04
import Derived.Laws.AppendOwnNone
import Derived.Test.YtldgnejmmjbhiaaJ03
import Derived.Test.YtldgnejmmjbhiaaJ01
namespace Go.Proofs.Ytldgnejmmjbhiaa
open Go.RowKit Go.WideShapes

set_option maxHeartbeats 1000000 in
theorem Summed_any (w0 : World) (bx : List Box) (w : World) (v : Value) (xs : List Nat) (hst : St w0 bx w v xs) (hx : ∀ c ∈ xs, c < 256) (hl : xs.length ≤ 100000000) :
    Calls Try.prog 43 #[v] w fun e w' => ∃ v', e = .returned v' ∧ St w0 bx w' v' (xs ++ sum4 xs) := by
  obtain ⟨p, c, rfl, _, _, _⟩ := own_form hst.own
  obtain ⟨z, hz⟩ : ∃ z, sumN xs = z := ⟨_, rfl⟩
  have hz1 : z < 4294967296 := hz ▸ sumN_lt hx
  have hcw : IntKind.u64.wrap (z : Int) = (z : Int) := by rw [IntKind.wrap_u64]; omega
  have HS := refSum_any p c xs w (own_in hst.own hx) (by unfold maxLen; omega)
  rw [hz] at HS
  have HQ : Hid (sum4 xs = (putN z).take 4 ∧ (putN z).length = 8 ∧ (∀ c ∈ putN z, c < 256) ∧ xs.length ≤ 100000000) := ⟨by unfold sum4; rw [hz], rfl, putN_bytes z (by omega), hl⟩
  have HST : Hid (St w0 bx w (.slice p xs.length c) xs) := hst
  clear hst hx hz hl
  go_enter Try.func43, Try.ntmps43
  go_wp2_with fail
  refine HS.mono ?_
  rintro e w1 ⟨rfl, rfl⟩
  go_wp2_with fail
  refine (refPut_any z _ (by omega)).mono ?_
  rintro e w2 ⟨v2, rfl, ho2, hb2⟩
  obtain ⟨p2, c2, rfl, h8, _, hp2⟩ := own_form ho2
  have H2 : Hid (St w0 bx w2 (.slice p xs.length c) xs) := HST.out.call hb2
  have HI2 : Hid (BIn w2 p2 (sum4 xs)) := by
    show BIn _ _ _
    rw [HQ.out.1]
    exact (own_in (xs := putN z) (by rw [HQ.out.2.1]; exact ho2) HQ.out.2.2.1).take' 4
  have h4c : (4 : Int) ≤ (c2 : Int) := by omega
  have hz2 := H2.out.size
  clear ho2 hb2 HST h8
  go_wp2_with (at_builtin; go_loud (refine wpList_append_bytes _ rfl _ _ rfl w0.heap.size _ _ (sum4 xs) p2 _ c2 rfl rfl rfl H2.out.own HI2.out hp2 (by rw [sum4_len]; have := HQ.out; omega) hz2 ?_); intro v3 w3 ho3 hg3; have t3 := H2.out.app ho3 hg3; have H3 : Hid _ := t3; clear t3 ho3 hg3)
  go_ret
  exact ⟨v3, rfl, H3.out⟩
end Go.Proofs.Ytldgnejmmjbhiaa
namespace Go.Proofs.Ytldgnejmmjbhiaa
open Go.RowKit Go.WideShapes

theorem wayN_bound {l : List EntV} (h : ∀ x ∈ l, OkE x) (hn : l.length ≤ 4096) : ∀ k, k ≤ l.length → (wayN l k).length ≤ 5 + k * 5000 := by
  intro k
  induction k with
  | zero =>
    intro _
    unfold wayN
    have := smallN_five l.length (by omega)
    simp [entsN]
    omega
  | succ k ih =>
    intro hk
    have hk' : k < l.length := by omega
    obtain ⟨s, hs⟩ : ∃ s : ByteArray, numsOf s = lastK [] (l.take k) := by
      rcases Nat.eq_zero_or_pos k with h0 | h0
      · subst h0; exact ⟨ByteArray.empty, by simp [lastK, nums_empty]⟩
      · refine ⟨(l.getD (k - 1) zeroE).key, ?_⟩
        have := take_snoc (l := l) (k := k - 1) (by omega) rfl
        rw [show k - 1 + 1 = k from by omega] at this
        rw [this, lastK_snoc]
    have := (wayN_next hk' rfl hs).1
    rw [← this, List.length_append]
    have h1 := ih (by omega)
    have h2 := entN_len (numsOf s) (h _ (getD_mem' hk'))
    omega
set_option maxRecDepth 8000 in
set_option maxHeartbeats 4000000 in
theorem Made_any (q : Option Addr) (nn c : Nat) (l : List EntV) (w : World) (h : EntsL w q nn l) (hk0 : checkE l = 0) :
    Calls Try.prog 29 #[.slice q nn c] w fun e w' => ∃ v, e = .returned v ∧ w'.ownsRow w.heap.size 5 1 v (pageN l).length (Bs (pageN l)) ∧ Below w.heap.size w w' := by
  have HN : Hid (nn = l.length) := h.n
  have HQ : Hid (EntsIn w q l) := h.lies
  have HO := checkE_ok hk0
  have hn4 : (nn : Int) ≤ 4096 := by have := HN.out; have := HO.1; omega
  have HOK : Hid ((∀ x ∈ l, OkE x) ∧ l.length ≤ 4096) := ⟨HO.2, HO.1⟩
  clear HO h hk0
  go_enter Try.func29, Try.ntmps29
  go_wp2_with fail
  refine (rsmall_i (nn : Int) _ (by omega)).mono ?_
  rintro e w2 ⟨v2, rfl, ho2, hb2⟩
  rw [Int.toNat_natCast] at ho2
  have HS2 : Hid (St w [] w2 v2 (smallN nn)) := ⟨ho2, hb2, fun p hp => by simp at hp⟩
  clear ho2 hb2
  go_wp2
  go_loopw [3, 4, 5] (fun v a i wr => ∃ k : Nat, ∃ s : ByteArray, k ≤ nn ∧ i = .int .i64 k ∧ a = .string s ∧ numsOf s = lastK [] (l.take k) ∧ s.size ≤ 256 ∧ (wayN l k).length ≤ 30000000 ∧ St w [] wr v (wayN l k)) (fun _ _ i _ => nn - (intOf i).toNat)
  case atStart =>
    have e : wayN l 0 = smallN nn := by unfold wayN; rw [HN.out]; simp [entsN]
    refine ⟨0, ByteArray.empty, by omega, rfl, rfl, rfl, by decide, ?_, by rw [e]; exact HS2.out⟩
    rw [e]
    have := smallN_five nn (by omega)
    omega
  case round =>
    obtain ⟨k, s, hk, rfl, rfl, hs, hsz, hlen, hst⟩ := hrel
    by_cases hkl : k < nn
    · have g9 : decide (k < nn) = true := decide_eq_true hkl
      have hkl' : k < l.length := by have := HN.out; omega
      obtain ⟨b, o, rfl⟩ := HQ.out.addr (by omega)
      obtain ⟨e0, e1, e2, e3⟩ := (HQ.out.below hst.bel).at hkl'
      obtain ⟨y, hy⟩ : ∃ y, l.getD k zeroE = y := ⟨_, rfl⟩
      rw [hy] at e0 e1 e2 e3
      have hoy : OkE y := HOK.out.1 y (by rw [← hy]; exact getD_mem' hkl')
      obtain ⟨hw1, hw2⟩ := wayN_next hkl' hy hs
      obtain ⟨zs, hzs⟩ : ∃ zs, wayN l (k + 1) = zs := ⟨_, rfl⟩
      have hzl := wayN_bound HOK.out.1 HOK.out.2 (k + 1) (by omega)
      obtain ⟨xs, hxs⟩ : ∃ xs, wayN l k = xs := ⟨_, rfl⟩
      rw [hzs, hxs] at hw1
      rw [hxs] at hst hlen
      obtain ⟨ke, ve, se, ge⟩ := y
      obtain ⟨hk1, hk2, hv, hs1, hs2, hg⟩ := hoy
      simp only at e0 e1 e2 e3 hw2 hk1 hk2 hv hs1 hs2
      have HW : Hid (numsOf ke = lastK [] (l.take (k + 1)) ∧ ke.size ≤ 256 ∧ wayN l (k + 1) = zs ∧ (wayN l (k + 1)).length ≤ 30000000) := ⟨hw2, hk2, hzs, by have := HOK.out.2; omega⟩
      obtain ⟨n, hn⟩ : ∃ n, sharedN (numsOf s) (numsOf ke) = n := ⟨_, rfl⟩
      have hnk : n ≤ ke.size := by have := (sharedN_le (numsOf s) (numsOf ke)).2; rw [numsOf_len] at this; omega
      have HJ : Hid (∀ tl, tailN ⟨ke, ve, se, ge⟩ = tl → xs ++ smallN n ++ textN (ke.extract n ke.size) ++ smallN se.toNat ++ tl = zs) := by
        intro tl ht
        have := ent_join (numsOf s) ke ve se xs ge tl ht
        rw [hn, hw1] at this
        exact this
      have HX : Hid (xs.length ≤ 30000000 ∧ n ≤ 256 ∧ ke.size ≤ 256 ∧ (smallN n).length ≤ 5 ∧ (textN (ke.extract n ke.size)).length ≤ 300 ∧ (smallN se.toNat).length ≤ 5) := by
        have h1 := textN_len (ke.extract n ke.size) (by rw [ByteArray.size_extract]; omega)
        rw [ByteArray.size_extract] at h1
        exact ⟨hlen, by omega, hk2, smallN_five n (by omega), by omega, smallN_five _ (by omega)⟩
      have HTG := fun w' => together_any s ke w' (by omega) n hn
      have q1 : (n : Int) ≤ (ke.size : Int) := by omega
      have q2 : (ke.size : Int) ≤ 256 := by omega
      have hs3 : 0 ≤ se ∧ se ≤ 9223372036854775807 := by omega
      have HV : Hid (ve.size ≤ 100000 ∧ (textN ve).length ≤ 5000) := ⟨by omega, by have := textN_len ve (by omega); omega⟩
      have HBY : Hid (∀ l ∈ [smallN n, textN (ke.extract n ke.size), smallN se.toNat, textN ve], ∀ c ∈ l, c < 256) := by
        intro l hl c hc
        simp only [List.mem_cons, List.not_mem_nil, or_false] at hl
        rcases hl with rfl | rfl | rfl | rfl
        · exact smallN_bytes _ c hc
        · exact textN_lt _ c hc
        · exact smallN_bytes _ c hc
        · exact textN_lt _ c hc
      have HKX : Hid ((ke.extract n ke.size).size ≤ 100000) := by show _ ≤ _; rw [ByteArray.size_extract]; omega
      have HST : Hid (St w ((wr.heap.size, #[.string ke, .string ve, .int .i64 se, .bool ge], 27) :: []) (wr.alloc (.cells #[.string ke, .string ve, .int .i64 se, .bool ge] 27)) u3 xs) := hst.alloc _ _ (by decide)
      have hkn : (k : Int) < (nn : Int) := by omega
      clear hst hn hnk hy hg hk1 hk2 hv hs1 hs2 hw1 hw2 hzs hxs hzl hs hsz hlen hkl'
      go_wp2_with fail
      refine (HTG _).mono ?_
      rintro e w1 ⟨rfl, hb1⟩
      have H1 : Hid (St w ((wr.heap.size, #[.string ke, .string ve, .int .i64 se, .bool ge], 27) :: []) w1 u3 (xs)) := HST.out.call hb1
      clear hb1 HTG HST
      go_wp2_with fail
      refine (rsmall_i (n : Int) _ (by omega)).mono ?_
      rintro e w2 ⟨v2, rfl, ho2, hb2⟩
      rw [Int.toNat_natCast] at ho2
      obtain ⟨p2, c2, rfl, _, _, hp2⟩ := own_form ho2
      have H2 : Hid (St w ((wr.heap.size, #[.string ke, .string ve, .int .i64 se, .bool ge], 27) :: []) w2 u3 (xs)) := H1.out.call hb2
      have HI2 : Hid (BIn w2 p2 (smallN n)) := own_in ho2 (HBY.out _ (by simp))
      have hz2 := H2.out.size
      clear ho2 hb2 H1
      go_wp2_with (at_builtin; go_loud (refine wpList_append_bytes _ rfl _ _ rfl w.heap.size _ _ (smallN n) p2 _ c2 rfl rfl rfl H2.out.own HI2.out hp2 (by (try simp only [List.length_append]); have := HX.out; omega) hz2 ?_); intro v3 w3 ho3 hg3; have t3 := H2.out.app ho3 hg3; have H3 : Hid _ := t3; have bx0 := t3.box0 0; have bx1 := t3.box0 1; have bx2 := t3.box0 2; have bx3 := t3.box0 3; clear t3 ho3 hg3 H2 HI2)
      go_wp2_with fail
      refine (refText_any (ke.extract n ke.size) _ HKX.out).mono ?_
      rintro e w4 ⟨v4, rfl, ho4, hb4⟩
      clear bx0 bx1 bx2 bx3
      obtain ⟨p4, c4, rfl, _, _, hp4⟩ := own_form ho4
      have H4 : Hid (St w ((wr.heap.size, #[.string ke, .string ve, .int .i64 se, .bool ge], 27) :: []) w4 v3 (xs ++ smallN n)) := H3.out.call hb4
      have HI4 : Hid (BIn w4 p4 (textN (ke.extract n ke.size))) := own_in ho4 (HBY.out _ (by simp))
      have hz4 := H4.out.size
      clear ho4 hb4 H3
      go_wp2_with (at_builtin; go_loud (refine wpList_append_bytes _ rfl _ _ rfl w.heap.size _ _ (textN (ke.extract n ke.size)) p4 _ c4 rfl rfl rfl H4.out.own HI4.out hp4 (by (try simp only [List.length_append]); have := HX.out; omega) hz4 ?_); intro v5 w5 ho5 hg5; have t5 := H4.out.app ho5 hg5; have H5 : Hid _ := t5; have bx0 := t5.box0 0; have bx1 := t5.box0 1; have bx2 := t5.box0 2; have bx3 := t5.box0 3; clear t5 ho5 hg5 H4 HI4)
      go_wp2_with fail
      refine (rsmall_i se _ hs3).mono ?_
      rintro e w6 ⟨v6, rfl, ho6, hb6⟩
      clear bx0 bx1 bx2 bx3
      obtain ⟨p6, c6, rfl, _, _, hp6⟩ := own_form ho6
      have H6 : Hid (St w ((wr.heap.size, #[.string ke, .string ve, .int .i64 se, .bool ge], 27) :: []) w6 v5 (xs ++ smallN n ++ textN (ke.extract n ke.size))) := H5.out.call hb6
      have HI6 : Hid (BIn w6 p6 (smallN se.toNat)) := own_in ho6 (HBY.out _ (by simp))
      have hz6 := H6.out.size
      clear ho6 hb6 H5
      cases ge with
      | true =>
        have HE : Hid (xs ++ smallN n ++ textN (ke.extract n ke.size) ++ smallN se.toNat ++ [1] = zs) := HJ.out [1] (by unfold tailN; rw [if_pos rfl, small1])
        go_wp2_with (first
          | (at_builtin; go_loud (refine wpList_append_bytes _ rfl _ _ rfl w.heap.size _ _ (smallN se.toNat) p6 _ c6 rfl rfl rfl H6.out.own HI6.out hp6 (by (try simp only [List.length_append]); have := HX.out; omega) hz6 ?_); intro v7 w7 ho7 hg7; have t7 := H6.out.app ho7 hg7; have H7 : Hid _ := t7; have bx0 := t7.box0 0; have bx1 := t7.box0 1; have bx2 := t7.box0 2; have bx3 := t7.box0 3; clear t7 ho7 hg7 H6 HI6; have S8 := H7.out.call (below_alloc w7 (.cells #[.int .u8 1] 5)); have HI8 : Hid (BIn (w7.alloc (.cells #[.int .u8 1] 5)) (some ⟨w7.heap.size, 0, none⟩) [1]) := bin_lit w7 _ _ 5 (0, 0) _ rfl (by simp [Bs]) (by intro c hc; simp at hc; omega); have H8 : Hid _ := S8; have hz8 := S8.size; clear S8)
          | (at_builtin; go_loud (refine wpList_append_bytes _ rfl _ _ rfl w.heap.size _ _ [1] (some ⟨w7.heap.size, 0, none⟩) _ 1 rfl rfl rfl H8.out.own HI8.out (fun h => by cases h) (by simp only [List.length_append, List.length_cons, List.length_nil]; have := HX.out; omega) hz8 ?_); intro v9 w9 ho9 hg9; have t9 := H8.out.app ho9 hg9; have H9 : Hid _ := t9; clear bx0 bx1 bx2 bx3; have bx0 := t9.box0 0; have bx1 := t9.box0 1; clear t9 ho9 hg9))
        go_roundw
        case rel => exact ⟨k + 1, ke, by omega, by go_num, rfl, HW.out.1, HW.out.2.1, HW.out.2.2.2, by rw [HW.out.2.2.1]; exact (H9.out.eq HE.out).drop⟩
        case measure => simp [intOf]; omega
      | false =>
        have HE : Hid (xs ++ smallN n ++ textN (ke.extract n ke.size) ++ smallN se.toNat ++ [0] ++ textN ve = zs) := by
          have := HJ.out ([0] ++ textN ve) (by unfold tailN textN; rw [if_neg (by simp), small0])
          rw [← List.append_assoc] at this
          exact this
        go_wp2_with (first
          | (at_builtin; go_loud (refine wpList_append_bytes _ rfl _ _ rfl w.heap.size _ _ (smallN se.toNat) p6 _ c6 rfl rfl rfl H6.out.own HI6.out hp6 (by (try simp only [List.length_append]); have := HX.out; omega) hz6 ?_); intro v7 w7 ho7 hg7; have t7 := H6.out.app ho7 hg7; have H7 : Hid _ := t7; have bx0 := t7.box0 0; have bx1 := t7.box0 1; have bx2 := t7.box0 2; have bx3 := t7.box0 3; clear t7 ho7 hg7 H6 HI6; have S8 := H7.out.call (below_alloc w7 (.cells #[.int .u8 0] 5)); have HI8 : Hid (BIn (w7.alloc (.cells #[.int .u8 0] 5)) (some ⟨w7.heap.size, 0, none⟩) [0]) := bin_lit w7 _ _ 5 (0, 0) _ rfl (by simp [Bs]) (by intro c hc; simp at hc; omega); have H8 : Hid _ := S8; have hz8 := S8.size; clear S8)
          | (at_builtin; go_loud (refine wpList_append_bytes _ rfl _ _ rfl w.heap.size _ _ [0] (some ⟨w7.heap.size, 0, none⟩) _ 1 rfl rfl rfl H8.out.own HI8.out (fun h => by cases h) (by simp only [List.length_append, List.length_cons, List.length_nil]; have := HX.out; omega) hz8 ?_); intro v9 w9 ho9 hg9; have t9 := H8.out.app ho9 hg9; have H9 : Hid _ := t9; clear bx0 bx1 bx2 bx3; have bx0 := t9.box0 0; have bx1 := t9.box0 1; clear t9 ho9 hg9))
        go_wp2_with fail
        refine (refText_any ve _ HV.out.1).mono ?_
        rintro e w10 ⟨v10, rfl, ho10, hb10⟩
        obtain ⟨p10, c10, rfl, _, _, hp10⟩ := own_form ho10
        have H10 : Hid (St w ((wr.heap.size, #[.string ke, .string ve, .int .i64 se, .bool false], 27) :: []) w10 v9 (xs ++ smallN n ++ textN (ke.extract n ke.size) ++ smallN se.toNat ++ [0])) := H9.out.call hb10
        have HI10 : Hid (BIn w10 p10 (textN ve)) := own_in ho10 (HBY.out _ (by simp))
        have hz10 := H10.out.size
        clear ho10 hb10 H9 H8 bx0 bx1
        go_wp2_with (at_builtin; go_loud (refine wpList_append_bytes _ rfl _ _ rfl w.heap.size _ _ (textN ve) p10 _ c10 rfl rfl rfl H10.out.own HI10.out hp10 (by simp only [List.length_append, List.length_cons, List.length_nil]; have := HX.out; have := HV.out; omega) hz10 ?_); intro v11 w11 ho11 hg11; have t11 := H10.out.app ho11 hg11; have H11 : Hid _ := t11; have bx0 := t11.box0 0; clear t11 ho11 hg11)
        go_roundw
        case rel => exact ⟨k + 1, ke, by omega, by go_num, rfl, HW.out.1, HW.out.2.1, HW.out.2.2.2, by rw [HW.out.2.2.1]; exact (H11.out.eq HE.out).drop⟩
        case measure => simp [intOf]; omega
    · have g2 : (nn : Int) ≤ (k : Int) := by omega
      have g9 : decide (k < nn) = false := decide_eq_false hkl
      have hwa := wayN_all (l := l) (k := k) (by have := HN.out; omega)
      rw [hwa] at hst hlen
      have HSM := Summed_any w [] wr u3 (bodyN l) hst (bodyN_lt l) (by omega)
      clear hwa hst hs hlen
      go_wp2_with fail
      refine HSM.mono ?_
      rintro e w4 ⟨v4, rfl, hs4⟩
      have HS4 : Hid (St w [] w4 v4 (pageN l)) := hs4
      clear hs4 HSM
      go_wp2
      go_ret
      exact ⟨v4, rfl, HS4.out.own, HS4.out.bel⟩
set_option maxHeartbeats 1000000 in
theorem rMake_any (q : Option Addr) (n c : Nat) (l : List EntV) (w : World) (h : EntsL w q n l) (ys : List Nat) (E : Nat) (hR : makeE l = (ys, E)) :
    Calls Try.prog 14 #[.slice q n c] w fun e w' => ∃ v, e = .returned (.tuple #[v, .int .i64 (E : Int)]) ∧ w'.ownsRow w.heap.size 5 1 v ys.length (Bs ys) ∧ Below w.heap.size w w' := by
  obtain ⟨C, hC⟩ : ∃ C, checkE l = C := ⟨_, rfl⟩
  have HCK := rCheck_any q n c l w h C hC
  have HR : Hid (makeE l = (ys, E)) := hR
  have HQ : Hid (EntsL w q n l) := h
  have HC : Hid (checkE l = C) := hC
  clear h hR hC
  go_enter Try.func14, Try.ntmps14
  go_wp2_with fail
  refine HCK.mono ?_
  rintro e w1 ⟨rfl, hb1⟩
  have HB1 : Hid (Below w.heap.size w w1) := hb1
  clear hb1 HCK
  rcases Nat.eq_zero_or_pos C with h0 | h0
  · subst h0
    go_wp2_with fail
    refine (Made_any q n c l _ (HQ.out.below HB1.out) HC.out).mono ?_
    rintro e w2 ⟨v2, rfl, ho2, hb2⟩
    obtain ⟨p2, c2, rfl, _, _, _⟩ := own_form ho2
    have HO2 : Hid (w2.ownsRow w.heap.size 5 1 (.slice p2 (pageN l).length c2) (pageN l).length (Bs (pageN l)) ∧ Below w.heap.size w w2) := ⟨own_mono ho2 HB1.out.size, below_bt HB1.out hb2⟩
    clear ho2 hb2
    by_cases hbig : 65536 < (pageN l).length
    · have g5 : decide ((65536 : Int) < ((pageN l).length : Int)) = true := decide_eq_true (by omega)
      have HE : Hid (ys = [] ∧ E = 7) := by
        have e : makeE l = ([], 7) := by unfold makeE; rw [if_pos HC.out, if_pos hbig]
        rw [HR.out] at e
        show _ ∧ _
        simpa using e
      clear hbig
      go_wp2
      go_ret2
      exact ⟨.slice none 0 0, by rw [HE.out.2]; rfl, by rw [HE.out.1]; exact World.ownsRow_nil _ _ _ _, HO2.out.2⟩
    · have g5 : decide ((65536 : Int) < ((pageN l).length : Int)) = false := decide_eq_false (by omega)
      have HE : Hid (ys = pageN l ∧ E = 0) := by
        have e : makeE l = (pageN l, 0) := by unfold makeE; rw [if_pos HC.out, if_neg hbig]
        rw [HR.out] at e
        show _ ∧ _
        simpa using e
      clear hbig
      go_wp2
      go_ret2
      exact ⟨_, by rw [HE.out.2]; rfl, by rw [HE.out.1]; exact HO2.out.1, HO2.out.2⟩
  · have hne : ((C : Int) != 0) = true := by simp; omega
    have HE : Hid (ys = [] ∧ E = C) := by
      have := makeE_no (l := l) (by rw [HC.out]; omega)
      rw [HR.out, HC.out] at this
      show _ ∧ _
      simpa using this
    clear h0
    go_wp2
    go_ret2
    exact ⟨.slice none 0 0, by rw [HE.out.2]; rfl, by rw [HE.out.1]; exact World.ownsRow_nil _ _ _ _, HB1.out⟩
end Go.Proofs.Ytldgnejmmjbhiaa
namespace Go.Proofs.Ytldgnejmmjbhiaa
open Go.RowKit Go.WideShapes

theorem ents_cells {w : World} {b o : Nat} {l : List EntV} (h : EntsIn w (some ⟨b, o, none⟩) l) : ∀ j u, (cellsE l)[j]? = some u → w.cell? ((⟨b, o, none⟩ : Addr).add j) = some u := by
  intro j u hj
  have hlt : j < l.length * 4 := by rw [← cellsE_len]; exact (List.getElem?_eq_some_iff.1 hj).1
  have hi : j / 4 < l.length := by omega
  obtain ⟨c0, c1, c2, c3⟩ := cellsE_at l (j / 4) hi
  obtain ⟨d0, d1, d2, d3⟩ := h.at hi
  rw [add_plain]
  have hr : j % 4 = 0 ∨ j % 4 = 1 ∨ j % 4 = 2 ∨ j % 4 = 3 := by omega
  rcases hr with hr | hr | hr | hr
  · have e : j = j / 4 * 4 := by omega
    rw [← e] at c0 d0
    rw [c0] at hj; rw [d0, ← Option.some.inj hj]
  · have e : j = j / 4 * 4 + 1 := by omega
    rw [Nat.add_assoc] at d1
    rw [← e] at c1 d1
    rw [c1] at hj; rw [d1, ← Option.some.inj hj]
  · have e : j = j / 4 * 4 + 2 := by omega
    rw [Nat.add_assoc] at d2
    rw [← e] at c2 d2
    rw [c2] at hj; rw [d2, ← Option.some.inj hj]
  · have e : j = j / 4 * 4 + 3 := by omega
    rw [Nat.add_assoc] at d3
    rw [← e] at c3 d3
    rw [c3] at hj; rw [d3, ← Option.some.inj hj]
theorem cellsE_one (l : List EntV) : ∀ u ∈ cellsE l, u.oneCell' = true := by
  intro u hu
  simp only [cellsE, List.mem_flatMap, List.mem_cons, List.not_mem_nil, or_false] at hu
  obtain ⟨p, _, h⟩ := hu
  rcases h with rfl | rfl | rfl | rfl <;> rfl
theorem run_append_ents (w : World) (base : Nat) (ty : TypeId) (l : List EntV) (p : Option Addr) (c : Nat) (hin : EntsIn w p l) (hp : p = none → c = 0) (hlen : l.length ≤ 100000) (hbase : base ≤ w.heap.size) :
    ∃ v' w', (Builtin.append_ #[28, 28] ty #[.slice none 0 0, .slice p l.length c]).run Try.prog w = .ok v' w' ∧ EOwn w' base v' l ∧ w.grownBy w' none := by
  obtain ⟨i0, hi, hz0, hz1, hz2⟩ := info_parts' info_entry
  have hown := eown_nil w base
  have hmax : 0 + l.length ≤ maxLen := by unfold maxLen; omega
  cases p with
  | none =>
    obtain rfl : l = [] := by
      cases l with
      | nil => rfl
      | cons y l => obtain ⟨b, o, e, _⟩ := hin (by simp); cases e
    obtain rfl := hp rfl
    exact ⟨_, w, run_append_owned_none (P := Try.prog) w base 28 ty 27 i0 4 Try.underlying28 hi (.slice none 0 0) 0 [] hown, hown, ⟨rfl, rfl, rfl, Nat.le_refl _, fun _ _ _ => rfl⟩⟩
  | some ad =>
    have hc : ∀ j u, (cellsE l)[j]? = some u → w.cell? (ad.add j) = some u := by
      intro j u hu
      have hpos : 0 < l.length := by
        cases l with
        | nil => simp [cellsE] at hu
        | cons y l => simp
      obtain ⟨b, o, e, _⟩ := hin hpos
      simp at e
      subst e
      exact ents_cells hin j u hu
    obtain ⟨v', w', h1, h2, h3, _⟩ := run_append_own (P := Try.prog) w base 28 ty 27 i0 (.agg #[.string ByteArray.empty, .string ByteArray.empty, .int .i64 0, .bool false]) 4 48 Try.underlying28 hi hz0 hz1 hz2 rfl (by decide) (.slice none 0 0) 0 [] hown ad l.length c (cellsE l) (cellsE_len l) hc (cellsE_one l) hmax (by omega) hbase
    exact ⟨v', w', h1, by simpa [EOwn] using h2, h3⟩
theorem wpList_append_ents (w : World) {ops : Array Oper} {rest : List Oper} {o : Oper} {a : Act} {Q : Exit → Act → World → Prop} (hgd : o.guard = none) (s x : Operand)
    (ho : o.op = .call { callee := .builtin .append, args := #[s, x], argTypes := #[28, 28] }) (base : Nat) (l : List EntV) (p : Option Addr) (m c : Nat) (hs : a.eval s = .slice none 0 0) (hx : a.eval x = .slice p m c) (hm : m = l.length)
    (hin : EntsIn w p l) (hp : p = none → c = 0) (hlen : l.length ≤ 100000) (hbase : base ≤ w.heap.size)
    (h : ∀ v' w', EOwn w' base v' l → w.grownBy w' none → wpList Try.prog ops Q rest (a.put o.dst v') w') : wpList Try.prog ops Q (o :: rest) a w := by
  subst hm
  refine wpList_plain hgd fun K hK => ?_
  obtain ⟨v', w', hr, h2, h3⟩ := run_append_ents w base o.type l p c hin hp hlen hbase
  unfold Oper.wp execOp
  simp only [ho, resolve, invoke, builtin, Sem.run_bind, Sem.run_pure, Result.andThen_ok, List.map_toArray, List.map_cons, List.map_nil, hs, hx, hr]
  exact hK _ _ (h v' w' h2 h3)
end Go.Proofs.Ytldgnejmmjbhiaa
namespace Go.Proofs.Ytldgnejmmjbhiaa
open Go.RowKit Go.WideShapes


/-- The number of bytes, seven bits each, the lowest first. -/
def val : List Nat → Nat
  | [] => 0
  | c :: l => c % 128 + 128 * val l
theorem val_snoc (l : List Nat) (c : Nat) : val (l ++ [c]) = c % 128 * 2 ^ (7 * l.length) + val l := by
  induction l with
  | nil => simp [val]
  | cons a l ih =>
    rw [List.cons_append, val, val, ih, List.length_cons, show 7 * (l.length + 1) = 7 * l.length + 7 from by omega, Nat.pow_add]
    generalize 2 ^ (7 * l.length) = X
    rw [show 128 * (c % 128 * X + val l) = c % 128 * (X * 2 ^ 7) + 128 * val l from by rw [Nat.mul_add, ← Nat.mul_assoc, Nat.mul_comm 128 (c % 128), Nat.mul_assoc, Nat.mul_comm 128 X]]
    omega
theorem val_lt (l : List Nat) : val l < 2 ^ (7 * l.length) := by
  induction l with
  | nil => simp [val]
  | cons a l ih =>
    rw [val, List.length_cons, show 7 * (l.length + 1) = 7 * l.length + 7 from by omega, Nat.pow_add]
    omega
theorem take_at (xs : List Nat) (k : Nat) (h : k < xs.length) : xs.take (k + 1) = xs.take k ++ [xs.getD k 0] := by
  rw [List.take_succ_eq_append_getElem h]; simp [List.getD, List.getElem?_eq_getElem h]
theorem val_take (xs : List Nat) (k : Nat) (h : k < xs.length) : val (xs.take (k + 1)) = xs.getD k 0 % 128 * 2 ^ (7 * k) + val (xs.take k) := by
  rw [take_at xs k h, val_snoc, List.length_take, Nat.min_eq_left (by omega)]
theorem val_drop (xs : List Nat) (k t : Nat) (h : t ≤ k) (hk : k < xs.length) : val ((xs.take (k + 1)).drop t) = xs.getD t 0 % 128 + 128 * val ((xs.take (k + 1)).drop (t + 1)) := by
  have hl : t < (xs.take (k + 1)).length := by simp; omega
  rw [List.drop_eq_getElem_cons hl, val]
  congr 1
  simp [List.getD, List.getElem?_eq_getElem (show t < xs.length from by omega)]
theorem val_drop_le (l : List Nat) (t : Nat) : val (l.drop t) ≤ val l := by
  induction l generalizing t with
  | nil => simp
  | cons a l ih =>
    cases t with
    | zero => simp
    | succ t => rw [List.drop_succ_cons, val]; have := ih t; omega
theorem val_fits {l : List Nat} {t : Nat} (h : val l < 18446744073709551616) : val (l.drop t) < 18446744073709551616 := Nat.lt_of_le_of_lt (val_drop_le l t) h
theorem read_skip {xs : List Nat} (j : Nat) (hj : j ≤ 9) (hlen : j ≤ xs.length) (hall : ∀ i, i < j → 128 ≤ xs.getD i 0) : readN xs = readAux j (val (xs.take j)) (xs.drop j) := by
  induction j with
  | zero => simp [val, readN]
  | succ j ih =>
    rw [ih (by omega) (by omega) (fun i hi => hall i (by omega)), drop_at xs j (by omega), aux_hi (by omega) (hall j (by omega)), val_take xs j (by omega)]
theorem read_over {xs : List Nat} (hlen : 10 ≤ xs.length) (hall : ∀ i, i < 10 → 128 ≤ xs.getD i 0) : readN xs = none := by
  have := hall 9 (by omega)
  rw [read_skip 9 (by omega) (by omega) (fun i hi => hall i (by omega)), drop_at xs 9 (by omega), aux_big ⟨rfl, by omega⟩]
theorem read_end {xs : List Nat} (hlen : xs.length ≤ 9) (hall : ∀ i, i < xs.length → 128 ≤ xs.getD i 0) : readN xs = none := by
  rw [read_skip xs.length hlen (by omega) hall, List.drop_length]; rfl
theorem read_big {xs : List Nat} (hlen : 9 < xs.length) (hall : ∀ i, i < 9 → 128 ≤ xs.getD i 0) (h : 1 < xs.getD 9 0) : readN xs = none := by
  rw [read_skip 9 (by omega) (by omega) hall, drop_at xs 9 hlen, aux_big ⟨rfl, h⟩]
theorem read_zero {xs : List Nat} {k : Nat} (hlen : k < xs.length) (hk : k ≤ 9) (hall : ∀ i, i < k → 128 ≤ xs.getD i 0) (h0 : 0 < k) (h : xs.getD k 0 = 0) : readN xs = none := by
  rw [read_skip k hk (by omega) hall, drop_at xs k hlen, aux_zero (by omega) (by omega) ⟨h, h0⟩]
theorem read_ok {xs : List Nat} {k : Nat} (hlen : k < xs.length) (hk : k ≤ 9) (hall : ∀ i, i < k → 128 ≤ xs.getD i 0) (hc : xs.getD k 0 < 128) (hbig : k = 9 → xs.getD k 0 ≤ 1) (hz : 0 < k → xs.getD k 0 ≠ 0) : readN xs = some (val (xs.take (k + 1)), k + 1) := by
  rw [read_skip k hk (by omega) hall, drop_at xs k hlen, aux_end (by omega) (by omega) (by omega), val_take xs k hlen]
theorem read_ok_fits {xs : List Nat} {k : Nat} (hlen : k < xs.length) (hk : k ≤ 9) (hall : ∀ i, i < k → 128 ≤ xs.getD i 0) (hc : xs.getD k 0 < 128) (hbig : k = 9 → xs.getD k 0 ≤ 1) (hz : 0 < k → xs.getD k 0 ≠ 0) : val (xs.take (k + 1)) < 18446744073709551616 :=
  (readN_some (read_ok hlen hk hall hc hbig hz)).2.2.2

set_option maxHeartbeats 2000000 in
set_option maxRecDepth 100000 in
theorem refRead_any (p : Option Addr) (cap : Nat) (xs : List Nat) (w : World) (hb : BIn w p xs) (hm : xs.length ≤ maxLen) :
    Calls Try.prog 33 #[.slice p xs.length cap] w fun e w' => e = .returned (readV (readN xs)) ∧ w' = w := by
  unfold maxLen at hm
  have hlt := hb.2
  go_enter Try.func33, Try.ntmps33
  go_wp2
  go_loop [5] (fun i => ∃ k : Nat, k ≤ xs.length ∧ k ≤ 10 ∧ i = .int .i64 k ∧ ∀ i, i < k → 128 ≤ xs.getD i 0) (fun i => xs.length - (intOf i).toNat)
  case atStart => exact ⟨0, by omega, by omega, rfl, by intro i hi; omega⟩
  case round =>
    obtain ⟨k, hk, hk10, rfl, hall⟩ := hrel
    have HA : Hid (∀ i, i < k → 128 ≤ xs.getD i 0) := hall
    clear hall
    by_cases hlen : k < xs.length
    · obtain ⟨b, o, rfl, hcell⟩ := hb.1 (by omega)
      have hck := hcell k hlen
      have hb8 := getD_lt hlt k
      by_cases h10 : k < 10
      · by_cases hc128 : 128 ≤ xs.getD k 0
        · have HC : Hid (128 ≤ xs.getD k 0) := hc128
          generalize hcd : xs.getD k 0 = c at *
          have HCD : Hid _ := hcd
          clear hcd hcell hb hlt
          go_wp2
          go_round
          case rel => exact ⟨k + 1, by omega, by omega, by go_num, fun i hi => by
            rcases Nat.lt_or_ge i k with h | h
            · exact HA.out i h
            · obtain rfl : i = k := by omega
              rw [HCD.out]; exact hc128⟩
          case measure => simp [intOf]; omega
        · have hc128 : xs.getD k 0 < 128 := by omega
          have hk9 : k ≤ 9 := by omega
          have hall := HA.out
          clear HA hb
          by_cases hk9' : k = 9
          · by_cases hbig0 : 1 < xs.getD k 0
            · have HN : Hid (readN xs = none) := by subst hk9'; exact read_big hlen hall hbig0
              subst hk9'
              clear hcell hall hlt
              generalize xs.getD 9 0 = c at *
              go_wp2
              go_ret3
              exact ⟨by rw [HN.out]; rfl, rfl⟩
            · have hbig : k = 9 → xs.getD k 0 ≤ 1 := fun _ => by omega
              by_cases h0 : xs.getD k 0 = 0
              · have HN : Hid (readN xs = none) := read_zero hlen hk9 hall (by omega) h0
                have hc0 : ((xs.getD k 0 : Nat) : Int) ≤ 0 := by omega
                have hc0b : (((xs.getD k 0 : Nat) : Int) == 0) = true := by rw [h0]; rfl
                have hc1 : ((xs.getD k 0 : Nat) : Int) ≤ 1 := by omega
                clear h0 hbig
                subst hk9'
                clear hcell hall hlt
                generalize xs.getD 9 0 = c at *
                go_wp2
                go_ret3
                exact ⟨by rw [HN.out]; rfl, rfl⟩
              · have hzer : 0 < k → xs.getD k 0 ≠ 0 := fun _ => h0
                have hc1 : ((xs.getD k 0 : Nat) : Int) ≤ 1 := by omega
                have hc0b : (((xs.getD k 0 : Nat) : Int) == 0) = false := by simpa using h0
                subst hk9'
                clear h0
                have HE : Hid _ := read_ok hlen hk9 hall hc128 hbig hzer
                have HF : Hid _ := read_ok_fits hlen hk9 hall hc128 hbig hzer
                have hLl : Hid ((xs.take (9 + 1)).length = 9 + 1) := by show _ = _; simp; omega
                clear hall hbig hzer
                generalize xs.getD 9 0 = ck at *
                have HCell : Hid _ := hcell
                clear hcell
                go_wp2
                go_loop [6, 7] (fun t i => ∃ j : Nat, j ≤ 9 + 1 ∧ i = .int .i64 ((j : Int) - 1) ∧ t = .int .u64 (val ((xs.take (9 + 1)).drop j) : Nat)) (fun _ i => (intOf i + 1).toNat)
                case atStart => exact ⟨9 + 1, by omega, by go_num, by rw [List.drop_eq_nil_of_le (by rw [hLl.out]; exact Nat.le_refl _)]; rfl⟩
                case round =>
                  obtain ⟨j, hj, rfl, rfl⟩ := hrel
                  by_cases hj0 : 0 < j
                  · obtain ⟨t, rfl⟩ : ∃ t, j = t + 1 := ⟨j - 1, by omega⟩
                    rw [show ((t + 1 : Nat) : Int) - 1 = (t : Int) from by omega]
                    have htk : t ≤ 9 := by omega
                    have hct := HCell.out t (by omega)
                    have hb8t := getD_lt hlt t
                    have HV : Hid _ := val_drop xs 9 t htk (by omega)
                    have hv2 := val_fits (t := t) HF.out
                    rw [HV.out] at hv2
                    generalize val ((xs.take (9 + 1)).drop (t + 1)) = q at *
                    generalize xs.getD t 0 = ct at *
                    clear HCell hck
                    go_wp2
                    go_round
                    case rel => exact ⟨t, by omega, by go_num, by rw [HV.out]; go_num⟩
                    case measure => simp [intOf]
                  · obtain rfl : j = 0 := by omega
                    rw [List.drop_zero]
                    rw [show (((0 : Nat) : Int) - 1) = -1 from by omega]
                    generalize val (xs.take (9 + 1)) = q at *
                    clear HCell hck
                    go_wp2
                    go_ret3
                    exact ⟨by rw [HE.out]; rfl, rfl⟩

          · have hk9b : ((k : Int) == 9) = false := by simp; omega
            have hbig : k = 9 → xs.getD k 0 ≤ 1 := fun h => absurd h hk9'
            clear hk9'
            by_cases hk0 : 0 < k
            · by_cases h0 : xs.getD k 0 = 0
              · have HN : Hid (readN xs = none) := read_zero hlen hk9 hall hk0 h0
                have hc0b : (((xs.getD k 0 : Nat) : Int) == 0) = true := by rw [h0]; rfl
                clear h0 hbig hcell hall hlt
                generalize xs.getD k 0 = c at *
                go_wp2
                go_ret3
                exact ⟨by rw [HN.out]; rfl, rfl⟩
              · have hzer : 0 < k → xs.getD k 0 ≠ 0 := fun _ => h0
                have hc0b : (((xs.getD k 0 : Nat) : Int) == 0) = false := by simpa using h0
                clear h0
                have HE : Hid _ := read_ok hlen hk9 hall hc128 hbig hzer
                have HF : Hid _ := read_ok_fits hlen hk9 hall hc128 hbig hzer
                have hLl : Hid ((xs.take (k + 1)).length = k + 1) := by show _ = _; simp; omega
                clear hall hbig hzer
                generalize xs.getD k 0 = ck at *
                have HCell : Hid _ := hcell
                clear hcell
                go_wp2
                go_loop [6, 7] (fun t i => ∃ j : Nat, j ≤ k + 1 ∧ i = .int .i64 ((j : Int) - 1) ∧ t = .int .u64 (val ((xs.take (k + 1)).drop j) : Nat)) (fun _ i => (intOf i + 1).toNat)
                case atStart => exact ⟨k + 1, by omega, by go_num, by rw [List.drop_eq_nil_of_le (by rw [hLl.out]; exact Nat.le_refl _)]; rfl⟩
                case round =>
                  obtain ⟨j, hj, rfl, rfl⟩ := hrel
                  by_cases hj0 : 0 < j
                  · obtain ⟨t, rfl⟩ : ∃ t, j = t + 1 := ⟨j - 1, by omega⟩
                    rw [show ((t + 1 : Nat) : Int) - 1 = (t : Int) from by omega]
                    have htk : t ≤ k := by omega
                    have hct := HCell.out t (by omega)
                    have hb8t := getD_lt hlt t
                    have HV : Hid _ := val_drop xs k t htk (by omega)
                    have hv2 := val_fits (t := t) HF.out
                    rw [HV.out] at hv2
                    generalize val ((xs.take (k + 1)).drop (t + 1)) = q at *
                    generalize xs.getD t 0 = ct at *
                    clear HCell hck
                    go_wp2
                    go_round
                    case rel => exact ⟨t, by omega, by go_num, by rw [HV.out]; go_num⟩
                    case measure => simp [intOf]
                  · obtain rfl : j = 0 := by omega
                    rw [List.drop_zero]
                    rw [show (((0 : Nat) : Int) - 1) = -1 from by omega]
                    generalize val (xs.take (k + 1)) = q at *
                    clear HCell hck
                    go_wp2
                    go_ret3
                    exact ⟨by rw [HE.out]; rfl, rfl⟩
            · have hzer : 0 < k → xs.getD k 0 ≠ 0 := fun h => absurd h hk0
              have HE : Hid _ := read_ok hlen hk9 hall hc128 hbig hzer
              have HF : Hid _ := read_ok_fits hlen hk9 hall hc128 hbig hzer
              have hLl : Hid ((xs.take (k + 1)).length = k + 1) := by show _ = _; simp; omega
              clear hall hbig hzer
              generalize xs.getD k 0 = ck at *
              have HCell : Hid _ := hcell
              clear hcell
              go_wp2
              go_loop [6, 7] (fun t i => ∃ j : Nat, j ≤ k + 1 ∧ i = .int .i64 ((j : Int) - 1) ∧ t = .int .u64 (val ((xs.take (k + 1)).drop j) : Nat)) (fun _ i => (intOf i + 1).toNat)
              case atStart => exact ⟨k + 1, by omega, by go_num, by rw [List.drop_eq_nil_of_le (by rw [hLl.out]; exact Nat.le_refl _)]; rfl⟩
              case round =>
                obtain ⟨j, hj, rfl, rfl⟩ := hrel
                by_cases hj0 : 0 < j
                · obtain ⟨t, rfl⟩ : ∃ t, j = t + 1 := ⟨j - 1, by omega⟩
                  rw [show ((t + 1 : Nat) : Int) - 1 = (t : Int) from by omega]
                  have htk : t ≤ k := by omega
                  have hct := HCell.out t (by omega)
                  have hb8t := getD_lt hlt t
                  have HV : Hid _ := val_drop xs k t htk (by omega)
                  have hv2 := val_fits (t := t) HF.out
                  rw [HV.out] at hv2
                  generalize val ((xs.take (k + 1)).drop (t + 1)) = q at *
                  generalize xs.getD t 0 = ct at *
                  clear HCell hck
                  go_wp2
                  go_round
                  case rel => exact ⟨t, by omega, by go_num, by rw [HV.out]; go_num⟩
                  case measure => simp [intOf]
                · obtain rfl : j = 0 := by omega
                  rw [List.drop_zero]
                  rw [show (((0 : Nat) : Int) - 1) = -1 from by omega]
                  generalize val (xs.take (k + 1)) = q at *
                  clear HCell hck
                  go_wp2
                  go_ret3
                  exact ⟨by rw [HE.out]; rfl, rfl⟩

      · obtain rfl : k = 10 := by omega
        have HN : Hid (readN xs = none) := read_over (Nat.le_of_lt hlen) HA.out
        clear hcell hb hlt HA
        generalize xs.getD 10 0 = c at *
        go_wp2
        go_ret3
        exact ⟨by rw [HN.out]; rfl, rfl⟩
    · obtain rfl : k = xs.length := by omega
      have HN : Hid (readN xs = none) := by
        show _ = _
        rcases Nat.lt_or_ge xs.length 10 with h | h
        · exact read_end (by omega) HA.out
        · exact read_over h (fun i hi => HA.out i (by omega))
      clear hb hlt HA
      go_wp2
      go_ret3
      exact ⟨by rw [HN.out]; rfl, rfl⟩
end Go.Proofs.Ytldgnejmmjbhiaa
namespace Go.Proofs.Ytldgnejmmjbhiaa
open Go.RowKit Go.WideShapes


theorem refRead_some (p : Option Addr) (len cap : Nat) (xs : List Nat) (w : World) (n k : Nat) (hlen : len = xs.length) (hb : BIn w p xs) (hm : xs.length ≤ maxLen) (hr : readN xs = some (n, k)) :
    Calls Try.prog 33 #[.slice p len cap] w fun e w' => e = .returned (.tuple #[.int .u64 n, .int .i64 k, .int .i64 0]) ∧ w' = w := by
  subst hlen
  refine (refRead_any p cap xs w hb hm).mono fun e w' h => ⟨?_, h.2⟩
  rw [h.1, hr]; rfl
theorem refRead_none (p : Option Addr) (len cap : Nat) (xs : List Nat) (w : World) (hlen : len = xs.length) (hb : BIn w p xs) (hm : xs.length ≤ maxLen) (hr : readN xs = none) :
    Calls Try.prog 33 #[.slice p len cap] w fun e w' => e = .returned (.tuple #[.int .u64 0, .int .i64 0, .int .i64 8]) ∧ w' = w := by
  subst hlen
  refine (refRead_any p cap xs w hb hm).mono fun e w' h => ⟨?_, h.2⟩
  rw [h.1, hr]; rfl
set_option maxHeartbeats 400000 in
theorem refCut_none (p : Option Addr) (cap : Nat) (xs : List Nat) (w : World) (hb : BIn w p xs) (hm : xs.length ≤ maxLen) (hr : readN xs = none) :
    Calls Try.prog 34 #[.slice p xs.length cap] w fun e w' => e = .returned (.tuple #[.string ByteArray.empty, .slice none 0 0, .int .i64 8]) ∧ w' = w := by
  have HR : Hid _ := hr
  clear hr
  go_enter Try.func34, Try.ntmps34
  go_wp2_with fail
  refine (refRead_none p xs.length cap xs w rfl hb hm HR.out).mono ?_
  rintro e w1 ⟨rfl, rfl⟩
  go_wp2
  go_ret3
  exact ⟨rfl, rfl⟩
set_option maxHeartbeats 400000 in
theorem refCut_long (p : Option Addr) (cap : Nat) (xs : List Nat) (w : World) (hb : BIn w p xs) (hm : xs.length ≤ maxLen) (n k : Nat) (hr : readN xs = some (n, k)) (hl : xs.length < k + n) :
    Calls Try.prog 34 #[.slice p xs.length cap] w fun e w' => e = .returned (.tuple #[.string ByteArray.empty, .slice none 0 0, .int .i64 8]) ∧ w' = w := by
  obtain ⟨k1, k2, k3, k4⟩ := readN_some hr
  have hm' := hm
  unfold maxLen at hm'
  have HR : Hid _ := hr
  clear hr
  go_enter Try.func34, Try.ntmps34
  go_wp2_with fail
  refine (refRead_some p xs.length cap xs w n k rfl hb hm HR.out).mono ?_
  rintro e w1 ⟨rfl, rfl⟩
  clear HR hb
  go_wp2
  go_ret3
  exact ⟨rfl, rfl⟩
set_option maxHeartbeats 400000 in
theorem refCut_ok (p : Option Addr) (cap : Nat) (xs : List Nat) (w : World) (hb : BIn w p xs) (hm : xs.length ≤ 100000) (hcap : xs.length ≤ cap) (n k : Nat) (hr : readN xs = some (n, k)) (hl : k + n ≤ xs.length) :
    Calls Try.prog 34 #[.slice p xs.length cap] w fun e w' => ∃ v, e = .returned (.tuple #[.string (strOf ((xs.drop k).take n)), v, .int .i64 0]) ∧ w'.ownsRow w.heap.size 5 1 v (xs.drop (k + n)).length (Bs (xs.drop (k + n))) ∧ Below w.heap.size w w' := by
  obtain ⟨k1, k2, k3, k4⟩ := readN_some hr
  obtain ⟨b, o, rfl, hc⟩ := hb.1 (by omega)
  have HR : Hid _ := hr
  clear hr hc
  have hm' : xs.length ≤ maxLen := by unfold maxLen; omega
  have q1 : (0 : Int) ≤ (k : Int) + n ∧ (k : Int) + n ≤ cap := by omega
  have q2 : ((k : Int) + n).toNat = k + n := by omega
  have q3 : k ≤ k + n := by omega
  have q4 : (k : Int) + n ≤ xs.length := by omega
  have B1 := bin_part hb cap k hcap n
  have B2 := bin_part hb cap (k + n) hcap xs.length
  have e2 : Hid ((xs.drop (k + n)).take xs.length = xs.drop (k + n)) := List.take_of_length_le (by simp)
  rw [e2.out] at B2
  have L1 : Hid (n = ((xs.drop k).take n).length) := by show _ = _; simp; omega
  have L2 : Hid (xs.length - (k + n) = (xs.drop (k + n)).length) := by show _ = _; simp
  obtain ⟨A1, hA1⟩ : ∃ A, (if cap = k then some (⟨b, o, none⟩ : Addr) else some ⟨b, o + k, none⟩) = A := ⟨_, rfl⟩
  obtain ⟨A2, hA2⟩ : ∃ A, (if cap = k + n then some (⟨b, o, none⟩ : Addr) else some ⟨b, o + (k + n), none⟩) = A := ⟨_, rfl⟩
  rw [hA1] at B1
  rw [hA2] at B2
  have HB1 : Hid _ := B1
  have HB2 : Hid _ := B2
  have P2 : Hid (A2 = none → cap - (k + n) = 0) := by show _ → _; intro h; rw [h] at hA2; split at hA2 <;> cases hA2
  have Z2 : Hid (([] : List Nat).length + (xs.drop (k + n)).length ≤ 140737488355328) := by show _ ≤ _; simp; omega
  have HI : Hid (BIn w (some ⟨b, o, none⟩) xs) := hb
  clear B1 B2 hb
  go_enter Try.func34, Try.ntmps34
  go_wp2_with fail
  refine (refRead_some _ xs.length cap xs w n k rfl HI.out hm' HR.out).mono ?_
  rintro e w1 ⟨rfl, rfl⟩
  clear HR hm'
  go_wp2_with (at_builtin; refine wpList_append_bytes _ rfl _ _ rfl w1.heap.size _ [] (xs.drop (k + n)) A2 _ _ rfl rfl L2.out (World.ownsRow_nil _ _ _ _) HB2.out P2.out Z2.out (Nat.le_refl _) ?_)
  intro v' w2 hown hgrow
  have hbl : Below w1.heap.size w1 w2 := (Below.refl w1.heap.size w1).grown hgrow (Nat.le_refl _) (fun k hk => by simp [Value.ownBlock] at hk)
  have cv1 := conv_at (c := cap - k) (BIn.below HB1.out hbl) L1.out
  have HO : Hid (w2.ownsRow w1.heap.size 5 1 v' (xs.drop (k + n)).length (Bs (xs.drop (k + n)))) := by show World.ownsRow _ _ _ _ _ _ _; simpa using hown
  clear hown hgrow
  go_wp2
  go_ret3
  exact ⟨v', rfl, HO.out, hbl⟩
end Go.Proofs.Ytldgnejmmjbhiaa
namespace Go.Proofs.Ytldgnejmmjbhiaa
open Go.RowKit Go.WideShapes

def cutT (xs : List Nat) : Option (List Nat × List Nat) :=
  match readN xs with
  | none => none
  | some (n, k) => if xs.length < k + n then none else some ((xs.drop k).take n, xs.drop (k + n))
def gEnt (a : ByteArray) (xs : List Nat) : Option (EntV × List Nat) :=
  match readN xs with
  | none => none
  | some (p, k) => if a.size < p then none else
    match cutT (xs.drop k) with
    | none => none
    | some (rest, in2) =>
      match readN in2 with
      | none => none
      | some (seq, k2) => if 2147483647 < seq ∨ in2.length = k2 then none else
        if in2.getD k2 0 = 1 then some (⟨a.extract 0 p ++ strOf rest, ByteArray.empty, (seq : Int), true⟩, in2.drop (k2 + 1)) else
        match cutT (in2.drop (k2 + 1)) with
        | none => none
        | some (v, in3) => some (⟨a.extract 0 p ++ strOf rest, strOf v, (seq : Int), false⟩, in3)
def gL : Nat → ByteArray → List Nat → Option (List EntV)
  | 0, _, _ => some []
  | k + 1, a, xs =>
    match gEnt a xs with
    | none => none
    | some (x, r) => (gL k x.key r).map fun l => x :: l
def gD (xs : List Nat) : Option (List EntV) :=
  match readN xs with
  | none => none
  | some (n, k) => if 4096 < n then none else gL n ByteArray.empty (xs.drop k)
def docR (xs : List Nat) : Option (List EntV) :=
  if xs.length < 5 ∨ 65536 < xs.length then none else
  match gD (xs.take (xs.length - 4)) with
  | none => none
  | some l => if makeE l = (xs, 0) then some l else none
theorem cutT_back (t r : List Nat) (h : t.length < 18446744073709551616) : cutT (smallN t.length ++ (t ++ r)) = some (t, r) := by
  unfold cutT
  rw [read_back t.length (t ++ r) h]
  simp only
  rw [if_neg (by simp), List.drop_left, List.take_left, ← List.drop_drop, List.drop_left, List.drop_left]
theorem str_app' (x y : ByteArray) : strOf (numsOf x ++ numsOf y) = x ++ y := str_app x y
theorem key_back (a k : ByteArray) : a.extract 0 (sharedN (numsOf a) (numsOf k)) ++ strOf ((numsOf k).drop (sharedN (numsOf a) (numsOf k))) = k := by
  rw [key_str a _ _ (fun c hc => numsOf_lt k c (List.mem_of_mem_drop hc)), sharedN_take, List.take_append_drop, strOf_nums]
theorem gEnt_back (a : ByteArray) (x : EntV) (r : List Nat) (h : OkE x) : gEnt a (entN (numsOf a) x ++ r) = some (x, r) := by
  have hs := sharedN_le (numsOf a) (numsOf x.key)
  rw [numsOf_len, numsOf_len] at hs
  have hk := h.key2
  have hq1 := h.seq1
  have hq2 := h.seq2
  have e1 : entN (numsOf a) x ++ r = smallN (sharedN (numsOf a) (numsOf x.key)) ++ (smallN ((numsOf x.key).drop (sharedN (numsOf a) (numsOf x.key))).length ++ ((numsOf x.key).drop (sharedN (numsOf a) (numsOf x.key)) ++ (smallN x.seq.toNat ++ (tailN x ++ r)))) := by
    unfold entN keyN
    rw [List.length_drop]
    simp only [List.append_assoc]
  unfold gEnt
  rw [e1, read_back _ _ (by omega)]
  simp only
  rw [if_neg (by omega), List.drop_left, cutT_back _ _ (by rw [List.length_drop, numsOf_len]; omega)]
  simp only
  rw [read_back _ _ (by omega)]
  simp only
  have hlen : ¬ (2147483647 < x.seq.toNat ∨ (smallN x.seq.toNat ++ (tailN x ++ r)).length = (smallN x.seq.toNat).length) := by
    have : 0 < (tailN x).length := by
      unfold tailN
      split
      · exact smallN_pos _
      · rw [List.length_append]; have := smallN_pos 0; omega
    simp only [List.length_append]
    omega
  rw [if_neg hlen, key_back]
  have hgd : ∀ (A B : List Nat) (c : Nat), (A ++ (c :: B)).getD A.length 0 = c := by intro A B c; simp
  have hdr : ∀ (A B : List Nat) (c : Nat), (A ++ (c :: B)).drop (A.length + 1) = B := by intro A B c; rw [← List.drop_drop, List.drop_left]; rfl
  cases hg : x.gone with
  | true =>
    have ht : tailN x ++ r = 1 :: r := by unfold tailN; rw [hg, if_pos rfl, small1]; rfl
    rw [ht, hgd, if_pos rfl, hdr]
    have hv := h.gone hg
    obtain ⟨xk, xv, xs, xg⟩ := x
    simp only at hg hv hq1 ⊢
    subst hg hv
    rw [Int.toNat_of_nonneg hq1]
  | false =>
    have ht : tailN x ++ r = 0 :: (smallN (numsOf x.val).length ++ (numsOf x.val ++ r)) := by unfold tailN; rw [hg, if_neg (by simp), small0, numsOf_len]; simp
    rw [ht, hgd, if_neg (by omega), hdr, cutT_back _ _ (by rw [numsOf_len]; have := h.val; omega)]
    simp only
    rw [strOf_nums, Int.toNat_of_nonneg hq1, ← hg]
theorem gL_back : ∀ (l : List EntV) (a : ByteArray), (∀ x ∈ l, OkE x) → gL l.length a (entsN (numsOf a) l) = some l
  | [], _, _ => rfl
  | x :: l, a, h => by
    have e := gEnt_back a x (entsN (numsOf x.key) l) (h x (by simp))
    have ih := gL_back l x.key (fun y hy => h y (by simp [hy]))
    simp only [List.length_cons, entsN, gL, e, ih]
    simp
theorem gD_back {l : List EntV} (hn : l.length ≤ 4096) (h : ∀ x ∈ l, OkE x) : gD (bodyN l) = some l := by
  unfold gD bodyN
  rw [read_back _ _ (by omega)]
  simp only
  rw [if_neg (by omega), List.drop_left]
  have := gL_back l ByteArray.empty h
  rw [nums_empty] at this
  exact this
theorem body_pos (l : List EntV) : 1 ≤ (bodyN l).length := by unfold bodyN; rw [List.length_append]; have := smallN_pos l.length; omega
theorem docR_eq {xs : List Nat} (hx : ∀ c ∈ xs, c < 256) : docR xs = readE xs := by
  cases hr : readE xs with
  | some l =>
    have hm := make_read hx hr
    obtain ⟨h1, h2, h3⟩ := makeE_ok hm
    obtain ⟨c1, c2⟩ := checkE_ok h1
    obtain ⟨p1, p2, p3, p4⟩ := page_cut l
    have hb := body_pos l
    unfold docR
    rw [if_neg (by rw [h2, page_len]; rw [h2, page_len] at h3; omega)]
    have : gD (xs.take (xs.length - 4)) = some l := by rw [h2, p1, p2]; exact gD_back c1 c2
    rw [this]
    simp only
    rw [if_pos hm]
  | none =>
    unfold docR
    split
    · rfl
    · split
      · rfl
      · split
        · rename_i l _ hm
          rw [read_make hm] at hr
          cases hr
        · rfl
theorem docR_len {xs : List Nat} (h : xs.length < 5 ∨ 65536 < xs.length) : docR xs = none := by unfold docR; rw [if_pos h]
theorem docR_no {xs : List Nat} (h : ¬ (xs.length < 5 ∨ 65536 < xs.length)) (hg : gD (xs.take (xs.length - 4)) = none) : docR xs = none := by unfold docR; rw [if_neg h, hg]
theorem docR_some {xs : List Nat} (h : ¬ (xs.length < 5 ∨ 65536 < xs.length)) {l : List EntV} (hg : gD (xs.take (xs.length - 4)) = some l) : docR xs = if makeE l = (xs, 0) then some l else none := by unfold docR; rw [if_neg h, hg]
/-! ### Steps -/
theorem cutT_none1 {xs : List Nat} (h : readN xs = none) : cutT xs = none := by unfold cutT; rw [h]
theorem cutT_none2 {xs : List Nat} {n k : Nat} (h : readN xs = some (n, k)) (hl : xs.length < k + n) : cutT xs = none := by unfold cutT; rw [h]; simp only; rw [if_pos hl]
theorem cutT_some {xs : List Nat} {n k : Nat} (h : readN xs = some (n, k)) (hl : ¬ xs.length < k + n) : cutT xs = some ((xs.drop k).take n, xs.drop (k + n)) := by unfold cutT; rw [h]; simp only; rw [if_neg hl]
/-- The document's Cut, in one word. -/
def CutO (xs : List Nat) (w : World) (e : Ending) (w' : World) : Prop :=
  (cutT xs = none ∧ e = .returned (.tuple #[.string ByteArray.empty, .slice none 0 0, .int .i64 8]) ∧ Below w.heap.size w w') ∨
  (∃ t r v, cutT xs = some (t, r) ∧ e = .returned (.tuple #[.string (strOf t), v, .int .i64 0]) ∧ w'.ownsRow w.heap.size 5 1 v r.length (Bs r) ∧ Below w.heap.size w w' ∧ t.length + r.length ≤ xs.length ∧ (∀ c ∈ r, c < 256) ∧ (∀ c ∈ t, c < 256))
theorem refCut_u (p : Option Addr) (n cap : Nat) (xs : List Nat) (w : World) (hn : n = xs.length) (hb : BIn w p xs) (hm : xs.length ≤ 100000) (hcap : xs.length ≤ cap) :
    Calls Try.prog 34 #[.slice p n cap] w fun e w' => CutO xs w e w' := by
  subst hn
  rcases hr : readN xs with _ | ⟨n, k⟩
  · refine (refCut_none p cap xs w hb (by unfold maxLen; omega) hr).mono ?_
    rintro e w' ⟨rfl, rfl⟩
    exact .inl ⟨cutT_none1 hr, rfl, Below.refl _ _⟩
  · by_cases hl : xs.length < k + n
    · refine (refCut_long p cap xs w hb (by unfold maxLen; omega) n k hr hl).mono ?_
      rintro e w' ⟨rfl, rfl⟩
      exact .inl ⟨cutT_none2 hr hl, rfl, Below.refl _ _⟩
    · refine (refCut_ok p cap xs w hb hm hcap n k hr (by omega)).mono ?_
      rintro e w' ⟨v, rfl, ho, hbb⟩
      exact .inr ⟨_, _, v, cutT_some hr hl, rfl, ho, hbb, by rw [List.length_take, List.length_drop, List.length_drop]; omega, fun c hc => hb.2 c (List.mem_of_mem_drop hc), fun c hc => hb.2 c (List.mem_of_mem_drop (List.mem_of_mem_take hc))⟩
theorem gEnt_1 {a : ByteArray} {xs : List Nat} (h : readN xs = none) : gEnt a xs = none := by unfold gEnt; rw [h]
section
variable {a : ByteArray} {xs : List Nat} {p k : Nat} (h1 : readN xs = some (p, k))
include h1
theorem gEnt_2 (h2 : a.size < p) : gEnt a xs = none := by unfold gEnt; rw [h1]; simp only; rw [if_pos h2]
theorem gEnt_3 (h2 : ¬ a.size < p) (h3 : cutT (xs.drop k) = none) : gEnt a xs = none := by unfold gEnt; rw [h1]; simp only; rw [if_neg h2, h3]
variable {rest in2 : List Nat}
theorem gEnt_4 (h2 : ¬ a.size < p) (h3 : cutT (xs.drop k) = some (rest, in2)) (h4 : readN in2 = none) : gEnt a xs = none := by unfold gEnt; rw [h1]; simp only; rw [if_neg h2, h3]; simp only; rw [h4]
variable {seq k2 : Nat}
theorem gEnt_5 (h2 : ¬ a.size < p) (h3 : cutT (xs.drop k) = some (rest, in2)) (h4 : readN in2 = some (seq, k2)) (h5 : 2147483647 < seq ∨ in2.length = k2) : gEnt a xs = none := by unfold gEnt; rw [h1]; simp only; rw [if_neg h2, h3]; simp only; rw [h4]; simp only; rw [if_pos h5]
theorem gEnt_6 (h2 : ¬ a.size < p) (h3 : cutT (xs.drop k) = some (rest, in2)) (h4 : readN in2 = some (seq, k2)) (h5 : ¬ (2147483647 < seq ∨ in2.length = k2)) (h6 : in2.getD k2 0 = 1) : gEnt a xs = some (⟨a.extract 0 p ++ strOf rest, ByteArray.empty, (seq : Int), true⟩, in2.drop (k2 + 1)) := by unfold gEnt; rw [h1]; simp only; rw [if_neg h2, h3]; simp only; rw [h4]; simp only; rw [if_neg h5, if_pos h6]
theorem gEnt_7 (h2 : ¬ a.size < p) (h3 : cutT (xs.drop k) = some (rest, in2)) (h4 : readN in2 = some (seq, k2)) (h5 : ¬ (2147483647 < seq ∨ in2.length = k2)) (h6 : ¬ in2.getD k2 0 = 1) (h7 : cutT (in2.drop (k2 + 1)) = none) : gEnt a xs = none := by unfold gEnt; rw [h1]; simp only; rw [if_neg h2, h3]; simp only; rw [h4]; simp only; rw [if_neg h5, if_neg h6, h7]
theorem gEnt_8 (h2 : ¬ a.size < p) (h3 : cutT (xs.drop k) = some (rest, in2)) (h4 : readN in2 = some (seq, k2)) (h5 : ¬ (2147483647 < seq ∨ in2.length = k2)) (h6 : ¬ in2.getD k2 0 = 1) {v in3 : List Nat} (h7 : cutT (in2.drop (k2 + 1)) = some (v, in3)) : gEnt a xs = some (⟨a.extract 0 p ++ strOf rest, strOf v, (seq : Int), false⟩, in3) := by unfold gEnt; rw [h1]; simp only; rw [if_neg h2, h3]; simp only; rw [h4]; simp only; rw [if_neg h5, if_neg h6, h7]
end
end Go.Proofs.Ytldgnejmmjbhiaa
namespace Go.Proofs.Ytldgnejmmjbhiaa
open Go.RowKit Go.WideShapes

theorem xor_half (a b : Nat) : (a ^^^ b) / 2 = a / 2 ^^^ b / 2 := by
  have := Nat.xor_div_two_pow (a := a) (b := b) (n := 1)
  simpa using this
theorem xor_low (a b : Nat) : (a ^^^ b) % 2 = (a % 2 + b % 2) % 2 := by
  have h := Nat.xor_mod_two_pow (a := a) (b := b) (n := 1)
  simp only [Nat.pow_one] at h
  rw [h]
  rcases Nat.mod_two_eq_zero_or_one a with h1 | h1 <;> rcases Nat.mod_two_eq_zero_or_one b with h2 | h2 <;> rw [h1, h2] <;> rfl
theorem crcBit_xor (a b : Nat) : crcBit (a ^^^ b) = crcBit a ^^^ crcBit b := by
  unfold crcBit
  rw [xor_low, xor_half]
  generalize (3988292384 : Nat) = P
  rcases Nat.mod_two_eq_zero_or_one a with h1 | h1 <;> rcases Nat.mod_two_eq_zero_or_one b with h2 | h2 <;> rw [h1, h2]
  · simp
  · simp only [Nat.zero_add, Nat.mod_succ, if_true, Nat.zero_ne_one, if_false, Nat.xor_assoc]
  · simp only [Nat.add_zero, Nat.mod_succ, if_true, Nat.zero_ne_one, if_false]
    rw [Nat.xor_assoc, Nat.xor_comm (b / 2) P, ← Nat.xor_assoc]
  · simp only [Nat.reduceAdd, Nat.mod_self, Nat.zero_ne_one, if_false, if_true]
    rw [Nat.xor_assoc (a / 2) P, ← Nat.xor_assoc P, Nat.xor_comm P (b / 2), Nat.xor_assoc (b / 2), Nat.xor_self, Nat.xor_zero]
theorem crcBits_xor (k a b : Nat) : crcBits k (a ^^^ b) = crcBits k a ^^^ crcBits k b := by
  induction k with
  | zero => rfl
  | succ k ih => rw [crcBits, ih, crcBit_xor]; rfl
theorem crcBits_add (j k r : Nat) : crcBits (j + k) r = crcBits j (crcBits k r) := by
  induction j with
  | zero => simp [crcBits]
  | succ j ih => rw [show j + 1 + k = (j + k) + 1 from by omega, crcBits, ih]; rfl
theorem crcBit_zero {r : Nat} (hr : r < 4294967296) (h : crcBit r = 0) : r = 0 := by
  unfold crcBit at h
  split at h
  · have : r / 2 = 3988292384 := by
      have h2 := congrArg (· ^^^ 3988292384) h
      simp only [Nat.xor_assoc, Nat.xor_self, Nat.xor_zero, Nat.zero_xor] at h2
      exact h2
    omega
  · omega
theorem crcBits_zero (k : Nat) {r : Nat} (hr : r < 4294967296) (h : crcBits k r = 0) : r = 0 := by
  induction k with
  | zero => exact h
  | succ k ih => exact ih (crcBit_zero (crcBits_lt k r hr) h)
theorem crcBits_of_zero (k : Nat) : crcBits k 0 = 0 := by
  induction k with
  | zero => rfl
  | succ k ih => rw [crcBits, ih]; rfl
theorem xor_eq_zero {a b : Nat} (h : a ^^^ b = 0) : a = b := by
  have h2 := congrArg (· ^^^ b) h
  simp only [Nat.xor_assoc, Nat.xor_self, Nat.xor_zero, Nat.zero_xor] at h2
  exact h2
theorem xor_left {a b c : Nat} (h : a ^^^ b = a ^^^ c) : b = c := by
  have h2 := congrArg (a ^^^ ·) h
  simp only [← Nat.xor_assoc, Nat.xor_self, Nat.zero_xor] at h2
  exact h2
theorem xor_move {a b c : Nat} (h : a ^^^ b = c) : a = b ^^^ c := by
  rw [← h, Nat.xor_comm a b, ← Nat.xor_assoc, Nat.xor_self, Nat.zero_xor]
theorem crcBits_inj (k : Nat) {a b : Nat} (ha : a < 4294967296) (hb : b < 4294967296) (h : crcBits k a = crcBits k b) : a = b := by
  apply xor_eq_zero
  apply crcBits_zero k (Nat.xor_lt_two_pow (n := 32) ha hb)
  rw [crcBits_xor, h, Nat.xor_self]
theorem crcBits_shift (k y : Nat) : crcBits k (2 ^ k * y) = y := by
  induction k generalizing y with
  | zero => simp [crcBits]
  | succ k ih =>
    rw [crcBits, Nat.pow_succ, Nat.mul_assoc, ih]
    unfold crcBit
    rw [if_neg (by omega)]; omega
theorem crc_add (l : List Nat) : ∀ r d, crc (r ^^^ d) l = crc r l ^^^ crcBits (8 * l.length) d := by
  induction l with
  | nil => intro r d; rfl
  | cons c l ih =>
    intro r d
    show crc (crcBits 8 (r ^^^ d ^^^ c)) l = crc (crcBits 8 (r ^^^ c)) l ^^^ _
    rw [show r ^^^ d ^^^ c = (r ^^^ c) ^^^ d from by rw [Nat.xor_assoc, Nat.xor_comm d c, ← Nat.xor_assoc], crcBits_xor, ih]
    congr 1
    rw [List.length_cons, Nat.mul_add, Nat.mul_one, crcBits_add]
/-- One byte that is another one. -/
theorem crc_set (x : Nat) (l : List Nat) : ∀ (p r : Nat), p < l.length → crc r (l.set p (l.getD p 0 ^^^ x)) = crc r l ^^^ crcBits (8 * (l.length - p)) x := by
  induction l with
  | nil => intro p r h; simp at h
  | cons c l ih =>
    intro p r h
    cases p with
    | zero =>
      show crc (crcBits 8 (r ^^^ (c ^^^ x))) l = crc (crcBits 8 (r ^^^ c)) l ^^^ _
      rw [← Nat.xor_assoc, crcBits_xor, crc_add]
      congr 1
      rw [List.length_cons, Nat.sub_zero, Nat.mul_add, Nat.mul_one, crcBits_add]
    | succ p =>
      have hp : p < l.length := by simpa using h
      show crc (crcBits 8 (r ^^^ c)) (l.set p (l.getD p 0 ^^^ x)) = crc (crcBits 8 (r ^^^ c)) l ^^^ _
      rw [ih p _ hp]
      congr 2
      simp
/-- The sum of the bytes by which fourX were changed. -/
def turnT (x : Nat → Nat) : Nat → Nat
  | 0 => 0
  | k + 1 => crcBits 8 (turnT x k ^^^ x k)
/-- The bytes, of which those from 'at' on are changed. -/
def turnL (xs : List Nat) (p : Nat) (x : Nat → Nat) : Nat → List Nat
  | 0 => xs
  | k + 1 => (turnL xs p x k).set (p + k) ((turnL xs p x k).getD (p + k) 0 ^^^ x k)
def turnB (x : Nat → Nat) : Nat → Bool
  | 0 => false
  | k + 1 => turnB x k || decide (x k ≠ 0)
theorem turnL_len (xs : List Nat) (p : Nat) (x : Nat → Nat) (k : Nat) : (turnL xs p x k).length = xs.length := by
  induction k with
  | zero => rfl
  | succ k ih => rw [turnL, List.length_set, ih]
theorem turnL_bytes {xs : List Nat} (p : Nat) {x : Nat → Nat} (hx : ∀ c ∈ xs, c < 256) (hb : ∀ k, x k < 256) (k : Nat) : ∀ c ∈ turnL xs p x k, c < 256 := by
  induction k with
  | zero => exact hx
  | succ k ih =>
    intro c hc
    rcases List.mem_or_eq_of_mem_set hc with h | h
    · exact ih c h
    · rw [h]; exact Nat.xor_lt_two_pow (n := 8) (getD_lt ih _) (hb k)
theorem crc_turn (xs : List Nat) (p : Nat) (x : Nat → Nat) (r k : Nat) (h : p + k ≤ xs.length) : crc r (turnL xs p x k) = crc r xs ^^^ crcBits (8 * (xs.length - p - k)) (turnT x k) := by
  induction k with
  | zero => simp [turnL, turnT, crcBits_of_zero]
  | succ k ih =>
    rw [turnL, crc_set _ _ _ _ (by rw [turnL_len]; omega), turnL_len, ih (by omega), Nat.xor_assoc]
    congr 1
    rw [show xs.length - (p + k) = xs.length - p - k from by omega, ← crcBits_xor, turnT, ← crcBits_add]
    congr 1
    omega
theorem turnT_lt {x : Nat → Nat} (hb : ∀ k, x k < 256) (k : Nat) : turnT x k < 4294967296 := by
  cases k with
  | zero => show (0 : Nat) < 4294967296; decide
  | succ k =>
    rw [turnT]
    induction k with
    | zero => exact crcBits_lt 8 _ (Nat.xor_lt_two_pow (n := 32) (show (0 : Nat) < 4294967296 by decide) (by have := hb 0; omega))
    | succ k ih => exact crcBits_lt 8 _ (Nat.xor_lt_two_pow (n := 32) ih (by have := hb (k + 1); omega))
/-- Four bytes, not all of them 0, have a sum that is not 0. -/
theorem fourX {x0 x1 x2 x3 : Nat} (h0 : x0 < 256) (h1 : x1 < 256) (h2 : x2 < 256) (h3 : x3 < 256)
    (h : crcBits 8 (crcBits 8 (crcBits 8 (crcBits 8 x0 ^^^ x1) ^^^ x2) ^^^ x3) = 0) : x0 = 0 ∧ x1 = 0 ∧ x2 = 0 ∧ x3 = 0 := by
  have b0 := crcBits_lt 8 x0 (by omega)
  have b1 : crcBits 8 x0 ^^^ x1 < 4294967296 := Nat.xor_lt_two_pow (n := 32) b0 (by omega)
  have b2 : crcBits 8 (crcBits 8 x0 ^^^ x1) ^^^ x2 < 4294967296 := Nat.xor_lt_two_pow (n := 32) (crcBits_lt 8 _ b1) (by omega)
  have b3 : crcBits 8 (crcBits 8 (crcBits 8 x0 ^^^ x1) ^^^ x2) ^^^ x3 < 4294967296 := Nat.xor_lt_two_pow (n := 32) (crcBits_lt 8 _ b2) (by omega)
  have e3 := xor_eq_zero (crcBits_zero 8 b3 h)
  have y2 : x2 ^^^ 256 * x3 < 65536 := Nat.xor_lt_two_pow (n := 16) (by omega) (by omega)
  have y1 : x1 ^^^ 256 * (x2 ^^^ 256 * x3) < 16777216 := Nat.xor_lt_two_pow (n := 24) (by omega) (by omega)
  have s3 : crcBits 8 (crcBits 8 x0 ^^^ x1) ^^^ x2 = 256 * x3 := crcBits_inj 8 b2 (by omega) (by rw [e3]; exact (crcBits_shift 8 x3).symm)
  have f2 : crcBits 8 (crcBits 8 x0 ^^^ x1) = x2 ^^^ 256 * x3 := xor_move s3
  have s2 : crcBits 8 x0 ^^^ x1 = 256 * (x2 ^^^ 256 * x3) := crcBits_inj 8 b1 (by omega) (by rw [f2]; exact (crcBits_shift 8 _).symm)
  have f1 : crcBits 8 x0 = x1 ^^^ 256 * (x2 ^^^ 256 * x3) := xor_move s2
  have s1 : x0 = 256 * (x1 ^^^ 256 * (x2 ^^^ 256 * x3)) := crcBits_inj 8 (by omega) (by omega) (by rw [f1]; exact (crcBits_shift 8 _).symm)
  have z1 : x1 ^^^ 256 * (x2 ^^^ 256 * x3) = 0 := by omega
  have w1 := xor_eq_zero z1
  have z2 : x2 ^^^ 256 * x3 = 0 := by omega
  have w2 := xor_eq_zero z2
  omega
theorem turn_none {x : Nat → Nat} (hb : ∀ k, x k < 256) {m : Nat} (hm : m ≤ 4) (h : turnT x m = 0) : turnB x m = false := by
  have z := crcBits_of_zero 8
  match m, hm with
  | 0, _ => rfl
  | 1, _ =>
    have := fourX (x0 := 0) (x1 := 0) (x2 := 0) (by decide) (by decide) (by decide) (hb 0) (by rw [z, Nat.xor_self, z, Nat.xor_self, z]; exact h)
    simp [turnB, this.2.2.2]
  | 2, _ =>
    have := fourX (x0 := 0) (x1 := 0) (by decide) (by decide) (hb 0) (hb 1) (by rw [z, Nat.xor_self, z]; exact h)
    simp [turnB, this.2.2.2, this.2.2.1]
  | 3, _ =>
    have := fourX (x0 := 0) (by decide) (hb 0) (hb 1) (hb 2) (by rw [z]; exact h)
    simp [turnB, this.2.2.2, this.2.2.1, this.2.1]
  | 4, _ =>
    have := fourX (hb 0) (hb 1) (hb 2) (hb 3) (by have h2 := h; simp only [turnT, Nat.zero_xor] at h2; exact h2)
    simp [turnB, this.2.2.2, this.2.2.1, this.2.1, this.1]
theorem turnT_of_none {x : Nat → Nat} {m : Nat} (h : turnB x m = false) : turnT x m = 0 := by
  induction m with
  | zero => rfl
  | succ m ih =>
    simp only [turnB, Bool.or_eq_false_iff, decide_eq_false_iff_not, Decidable.not_not] at h
    rw [turnT, ih h.1, h.2]
    exact crcBits_of_zero 8
theorem sum_turn {xs : List Nat} {p : Nat} {x : Nat → Nat} (hb : ∀ k, x k < 256) {m : Nat} (hm : m ≤ 4) (hp : p + m ≤ xs.length) : ((sumN xs : Int) == (sumN (turnL xs p x m) : Int)) = !(turnB x m) := by
  have hlt := turnT_lt hb m
  rw [Bool.eq_iff_iff]
  simp only [beq_iff_eq, Bool.not_eq_true', Int.ofNat_inj]
  unfold sumN
  rw [crc_turn xs p x _ m hp]
  constructor
  · intro h
    apply turn_none hb hm
    apply crcBits_zero (8 * (xs.length - p - m)) hlt
    have h2 := xor_left h
    rw [show crc 4294967295 xs = crc 4294967295 xs ^^^ 0 from (Nat.xor_zero _).symm, Nat.xor_assoc, Nat.zero_xor] at h2
    exact (xor_left h2).symm
  · intro h
    rw [turnT_of_none h, crcBits_of_zero, Nat.xor_zero]
end Go.Proofs.Ytldgnejmmjbhiaa
namespace Go.Proofs.Ytldgnejmmjbhiaa
open Go.RowKit Go.WideShapes

theorem sum4_inj {a b : List Nat} (ha : ∀ c ∈ a, c < 256) (hb : ∀ c ∈ b, c < 256) (h : sum4 a = sum4 b) : sumN a = sumN b := by
  have h1 := sumN_lt ha
  have h2 := sumN_lt hb
  unfold sum4 putN at h
  simp only [List.take_succ_cons, List.take_zero, List.cons.injEq, and_true] at h
  omega
theorem xor_ne {x y : Nat} (h : y ≠ 0) : x ^^^ y ≠ x := by
  intro e
  have : x ^^^ y = x ^^^ 0 := by rw [e]; simp
  exact h (xor_left this)
theorem xor_byte {x y : Nat} (hx : x < 256) (hy : y < 256) : x ^^^ y < 256 := Nat.xor_lt_two_pow (n := 8) hx hy
theorem sum_one {xs : List Nat} {p y : Nat} (hp : p < xs.length) (hy : y ≠ 0) (hy2 : y < 256) : sumN (xs.set p (xs.getD p 0 ^^^ y)) ≠ sumN xs := by
  intro e
  unfold sumN at e
  have e1 := xor_left e
  rw [crc_set y xs p 4294967295 hp] at e1
  have e2 : crcBits (8 * (xs.length - p)) y ≠ 0 := fun h0 => hy (crcBits_zero _ (by omega) h0)
  exact xor_ne e2 e1
theorem set_byte {xs : List Nat} {p y : Nat} (h : ∀ c ∈ xs, c < 256) (hy : y < 256) : ∀ c ∈ xs.set p (xs.getD p 0 ^^^ y), c < 256 := by
  intro c hc
  rcases List.mem_or_eq_of_mem_set hc with h1 | h1
  · exact h c h1
  · rw [h1]; exact xor_byte (getD_lt h p) hy
theorem turned_none {l : List EntV} {ys : List Nat} (h : makeE l = (ys, 0)) {p y : Nat} (hp : p < ys.length) (hy : y ≠ 0) (hy2 : y < 256) : readE (ys.set p (ys.getD p 0 ^^^ y)) = none := by
  obtain ⟨_, rfl, hl⟩ := makeE_ok h
  obtain ⟨p1, p2, p3, p4⟩ := page_cut l
  refine readE_sum (by rw [List.length_set]; omega) ?_
  rw [List.length_set, p1]
  rcases Nat.lt_or_ge p (bodyN l).length with hb | hb
  · have hg : (pageN l).getD p 0 = (bodyN l).getD p 0 := by
      unfold pageN
      rw [List.getD_eq_getElem?_getD, List.getD_eq_getElem?_getD, List.getElem?_append_left hb]
    rw [List.drop_set, if_pos hb, List.take_set, p2, p3, hg]
    intro e
    exact sum_one hb hy hy2 (sum4_inj (set_byte (bodyN_lt l) hy2) (bodyN_lt l) e.symm)
  · have hset : ∀ v, (bodyN l).set p v = bodyN l := fun v => List.set_eq_of_length_le hb
    rw [List.drop_set, if_neg (by omega), List.take_set, p2, p3, hset]
    intro e
    have hlen := page_len l
    have hlt : p - (bodyN l).length < (sum4 (bodyN l)).length := by rw [sum4_len]; omega
    have hg : (pageN l).getD p 0 = (sum4 (bodyN l)).getD (p - (bodyN l).length) 0 := by
      unfold pageN
      rw [List.getD_eq_getElem?_getD, List.getD_eq_getElem?_getD, List.getElem?_append_right hb]
    have e2 := congrArg (fun z => z.getD (p - (bodyN l).length) 0) e

    rw [List.getD_eq_getElem?_getD, List.getElem?_set, if_pos rfl, if_pos hlt, hg] at e2
    exact xor_ne hy e2
/-- A row of one's own that is not empty, and a byte of it written over. -/
theorem own_some {w : World} {base n : Nat} {q : Option Addr} {m : Nat} {xs : List Value} (h : w.ownsRow base 5 1 (.slice q n m) n xs) (hn : 0 < n) : ∃ g cur, q = some ⟨g, 0, none⟩ ∧ base ≤ g ∧ w.heap[g]? = some (.cells cur 5 (0, 0)) := by
  rcases h.2 with ⟨hv, h0⟩ | ⟨g, cap, cur, hv, hb, hg, _⟩
  · omega
  · simp only [Value.slice.injEq] at hv
    exact ⟨g, cur, hv.1, hb, hg⟩
theorem bin_set {w : World} {g : Nat} {cur : Array Value} {xs : List Nat} (hg : w.heap[g]? = some (.cells cur 5 (0, 0))) (h : BIn w (some ⟨g, 0, none⟩) xs) {p x : Nat} (hx : x < 256) : BIn (w.setCell ⟨g, p, none⟩ (.int .u8 (x : Int))) (some ⟨g, 0, none⟩) (xs.set p x) := by
  refine ⟨fun hp => ⟨g, 0, rfl, fun i hi => ?_⟩, ?_⟩
  · rw [List.length_set] at hi
    have h1 := h.cell i hi
    rw [cell_of_row w g (0 + i) _ _ _ hg] at h1
    rw [cell_of_row _ g (0 + i) _ _ _ (block_set hg _), Nat.zero_add]
    rw [Nat.zero_add] at h1
    have hs : i < cur.size := (Array.getElem?_eq_some_iff.1 h1).1
    rw [List.getD_eq_getElem?_getD, List.getElem?_set]
    by_cases hpi : p = i
    · subst hpi
      rw [if_pos rfl, if_pos hi, Array.getElem?_setIfInBounds_self_of_lt hs]
      rfl
    · rw [if_neg hpi, Array.getElem?_setIfInBounds_ne hpi, h1, List.getD_eq_getElem?_getD]
  · intro c hc
    rcases List.mem_or_eq_of_mem_set hc with h1 | h1
    · exact h.2 c h1
    · rw [h1]; exact hx
end Go.Proofs.Ytldgnejmmjbhiaa
