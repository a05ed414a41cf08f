/-
  Pages read out of bytes: endsWell, readPages.
-/
import Derived.Test.YtlcbjmbphekliaaJ06
import Derived.Test.YtlcbjmbphekliaaJ05
namespace Go.Proofs.Ytlcbjmbphekliaa
open Go.RowKit Go.WideShapes

/-- Pages that are pages, and not too many. -/
structure OkT (ss : List ShV) : Prop where
  few : FewT ss
  ok : ∀ s ∈ ss, checkE s.ents = 0 ∧ (pageN s.ents).length ≤ 65536 ∧ 0 < s.ents.length
theorem ok_keys {p : List EntV} (h : checkE p = 0) (h0 : 0 < p.length) : (firstK p).size ≤ 256 ∧ (lastKy p).size ≤ 256 ∧ p.length ≤ 4096 := by
  obtain ⟨h1, h2, _⟩ := (checkE_rise p).1 h
  exact ⟨(h2 _ (getD_mem' h0)).key2, (h2 _ (getD_mem' (by omega))).key2, h1⟩
theorem spotN_len {p : List EntV} (h : checkE p = 0) (h0 : 0 < p.length) (hl : (pageN p).length ≤ 65536) : (spotN p).length ≤ 600 := by
  obtain ⟨h1, h2, _⟩ := ok_keys h h0
  have a1 := textN_len (firstK p) (by omega)
  have a2 := textN_len (lastKy p) (by omega)
  have a3 := smallN_five (pageN p).length (by omega)
  unfold spotN
  simp only [List.length_append]
  omega
theorem spotsN_app (a b : List (List EntV)) : spotsN (a ++ b) = spotsN a ++ spotsN b := by simp [spotsN]
theorem spotsN_one (p : List EntV) : spotsN [p] = spotN p := by simp [spotsN]
theorem spotsN_len : ∀ (ps : List (List EntV)), (∀ p ∈ ps, (spotN p).length ≤ 600) → (spotsN ps).length ≤ 600 * ps.length
  | [], _ => by simp [spotsN]
  | p :: ps, h => by
    have h1 := h p (by simp)
    have h2 := spotsN_len ps (fun q hq => h q (by simp [hq]))
    have e : spotsN (p :: ps) = spotN p ++ spotsN ps := by simp [spotsN]
    rw [e, List.length_append, List.length_cons]; omega
def idxK (ss : List ShV) (k : Nat) : List Nat := smallN ss.length ++ spotsN (pagesOf (ss.take k))
theorem idxK_next {ss : List ShV} {k : Nat} (h : k < ss.length) {p : List EntV} (hp : (ss.getD k zeroS).ents = p) : idxK ss k ++ textN (firstK p) ++ textN (lastKy p) ++ smallN (pageN p).length = idxK ss (k + 1) := by
  unfold idxK
  rw [pages_take h hp, spotsN_app, spotsN_one]
  unfold spotN
  simp only [List.append_assoc]
theorem idxK_len {ss : List ShV} (h : OkT ss) (k : Nat) : (idxK ss k).length ≤ 700000000 := by
  have h1 := smallN_five ss.length (by have := h.few.n; omega)
  have h2 := spotsN_len (pagesOf (ss.take k)) (fun p hp => by
    obtain ⟨s, hs, rfl⟩ := List.mem_map.1 hp
    obtain ⟨a, b, c⟩ := h.ok s (List.mem_of_mem_take hs)
    exact spotN_len a c b)
  have h3 : (pagesOf (ss.take k)).length ≤ 1000000 := by rw [pagesOf_len, List.length_take]; have := h.few.n; omega
  unfold idxK
  rw [List.length_append]
  have : 600 * (pagesOf (ss.take k)).length ≤ 600 * 1000000 := Nat.mul_le_mul_left _ h3
  omega
theorem idxK_all {ss : List ShV} {k : Nat} (h : ss.length ≤ k) : idxK ss k = indexN (pagesOf ss) := by
  unfold idxK indexN
  rw [List.take_of_length_le h, pagesOf_len]
set_option maxRecDepth 8000 in
set_option maxHeartbeats 4000000 in
theorem index_any (q : Option Addr) (n c : Nat) (ss : List ShV) (w : World) (h : Sheets w q n ss) (hok : OkT ss) :
    Calls Try.prog 54 #[.slice q n c] w fun e w' => ∃ v, e = .returned v ∧ w'.ownsRow w.heap.size 5 1 v (indexN (pagesOf ss)).length (Bs (indexN (pagesOf ss))) ∧ Below w.heap.size w w' := by
  have HS : Hid (Sheets w q n ss) := h
  have HN : Hid (n = ss.length) := h.n
  have HOK : Hid (OkT ss) := hok
  have hzI : (n : Int) ≤ 1000000 := by have := hok.few.n; have := h.n; omega
  have hw0 : IntKind.u64.wrap (n : Int) = (n : Int) := by rw [IntKind.wrap_u64]; omega
  clear h hok
  go_enter Try.func54, Try.ntmps54
  go_wp2_with fail
  refine (pcount_any q n c _).mono ?_
  rintro e w1 ⟨rfl, rfl⟩
  go_wp2_with fail
  refine (small_any n _ (by omega)).mono ?_
  rintro e w2 ⟨v2, rfl, ho2, hb2⟩
  have HS2 : Hid (St w1 [] w2 v2 (idxK ss 0)) := by
    have e : idxK ss 0 = smallN n := by unfold idxK; rw [HN.out]; simp [pagesOf, spotsN]
    rw [e]
    exact ⟨ho2, hb2, fun p hp => by simp at hp⟩
  clear ho2 hb2
  go_wp2
  go_loopw [3, 12] (fun v i wr => ∃ k : Nat, k ≤ n ∧ i = .int .i64 k ∧ St w1 [] wr v (idxK ss k)) (fun _ i _ => n - (intOf i).toNat)
  case atStart => exact ⟨0, by omega, rfl, HS2.out⟩
  case round =>
    obtain ⟨k, hk, rfl, hst⟩ := hrel
    obtain ⟨vq, vc, rfl, _, _, _⟩ := own_form hst.own
    have HST : Hid (St w1 [] wr (.slice vq (idxK ss k).length vc) (idxK ss k)) := hst
    clear hst HS2
    by_cases hkn : k < n
    · have hkI : (k : Int) < (n : Int) := by omega
      obtain ⟨b, o, rfl, qe, ce, qb, cb, p, hs, _, _, hok0⟩ := HS.out.get hkn
      obtain ⟨b', o', hbo, qe', ce', qb', cb', p', hs', e0, e1, _⟩ := (HS.out.below HST.out.bel).get hkn
      rw [hs] at hs'
      simp only [ShV.mk.injEq] at hs'
      obtain ⟨rfl, rfl, rfl, rfl, rfl⟩ := hs'
      simp only [Option.some.injEq, Addr.mk.injEq, and_true] at hbo
      obtain ⟨rfl, rfl⟩ := hbo
      have hp0 := HOK.out.ok _ (getD_memS (k := k) (by have := HN.out; omega))
      rw [hs] at hp0
      have HP : Hid (checkE p = 0 ∧ (pageN p).length ≤ 65536 ∧ 0 < p.length) := hp0
      have HEN : Hid (EntsIn w1 qe p) := hok0.ents
      obtain ⟨hf, hl, hpl⟩ := ok_keys hp0.1 hp0.2.2
      obtain ⟨kf, hkf⟩ : ∃ kf, firstK p = kf := ⟨_, rfl⟩
      obtain ⟨kl, hkl⟩ : ∃ kl, lastKy p = kl := ⟨_, rfl⟩
      obtain ⟨N, hN⟩ : ∃ N, (pageN p).length = N := ⟨_, rfl⟩
      have HK : Hid (firstK p = kf ∧ lastKy p = kl ∧ (pageN p).length = N ∧ kf.size ≤ 256 ∧ kl.size ≤ 256 ∧ N ≤ 65536 ∧ p.length ≤ 4096) := ⟨hkf, hkl, hN, by rw [← hkf]; exact hf, by rw [← hkl]; exact hl, by rw [← hN]; exact hp0.2.1, hpl⟩
      have hNX := idxK_next (ss := ss) (k := k) (by have := HN.out; omega) (p := p) (by rw [hs])
      rw [hkf, hkl, hN] at hNX
      rw [hN] at e1
      have HLN : Hid ((idxK ss k).length ≤ 700000000) := idxK_len HOK.out k
      obtain ⟨X, hX⟩ : ∃ X, idxK ss k = X := ⟨_, rfl⟩
      rw [hX] at hNX ⊢
      have HNX : Hid (X ++ textN kf ++ textN kl ++ smallN N = idxK ss (k + 1)) := hNX
      have HSTX : Hid (St w1 [] wr (.slice vq X.length vc) X) := by rw [← hX]; exact HST.out
      have HXL : Hid (X.length ≤ 700000000) := by rw [← hX]; exact HLN.out
      have hNI : (N : Int) ≤ 65536 := by have := HK.out; omega
      have hwN : IntKind.u64.wrap (N : Int) = (N : Int) := by rw [IntKind.wrap_u64]; omega
      have HTX : Hid ((textN kf).length ≤ 300 ∧ (textN kl).length ≤ 300 ∧ (smallN N).length ≤ 5) := ⟨by have := textN_len kf (by have := HK.out; omega); have := HK.out; omega, by have := textN_len kl (by have := HK.out; omega); have := HK.out; omega, smallN_five N (by have := HK.out; omega)⟩
      have HKN : Hid (k < n) := hkn
      have S1 := HSTX.out.alloc #[.slice qe p.length ce, .slice qb N cb] 92 (by decide)
      have HS1 : Hid (St w1 [(wr.heap.size, #[.slice qe p.length ce, .slice qb N cb], 92)] (wr.alloc (.cells #[.slice qe p.length ce, .slice qb N cb] 92)) (.slice vq X.length vc) X) := S1
      have HFI := sfirst_any qe p.length ce qb N cb p _ ⟨rfl, HEN.out.below S1.bel⟩ HP.out.2.2 kf hkf
      clear hs hp0 hok0 hf hl hpl hkf hkl hN hNX HST HLN hX hkn S1
      go_wp2_with fail
      refine HFI.mono ?_
      rintro e w3 ⟨rfl, hb3⟩
      have HS3 : Hid (St w1 [(wr.heap.size, #[.slice qe p.length ce, .slice qb N cb], 92)] w3 (.slice vq X.length vc) X) := HS1.out.call hb3
      clear hb3 HFI HS1
      go_wp2_with fail
      refine (text_any kf _ (by have := HK.out; omega)).mono ?_
      rintro e w4 ⟨v4, rfl, ho4, hb4⟩
      obtain ⟨p4, c4, rfl, _, _, hp4⟩ := own_form ho4
      have HS4 : Hid (St w1 [(wr.heap.size, #[.slice qe p.length ce, .slice qb N cb], 92)] w4 (.slice vq X.length vc) X) := HS3.out.call hb4
      have HI4 : Hid (BIn w4 p4 (textN kf)) := own_in ho4 (textN_lt _)
      have hz4 := HS4.out.size
      clear ho4 hb4 HS3
      go_wp2_with (at_builtin; go_loud (refine wpList_append_bytes _ rfl _ _ rfl w1.heap.size _ _ (textN kf) p4 _ c4 rfl rfl rfl HS4.out.own HI4.out hp4 (by have := HXL.out; have := HTX.out; omega) hz4 ?_); intro v5 w5 ho5 hg5; have t5 := HS4.out.app ho5 hg5; have HS5 : Hid _ := t5; have bx0 := t5.box0 0; have bx1 := t5.box0 1; clear t5 ho5 hg5 HS4 HI4)
      have HLA := slast_any qe p.length ce qb N cb p w5 ⟨rfl, HEN.out.below HS5.out.bel⟩ HP.out.2.2 (by have := HK.out; omega) kl HK.out.2.1
      go_wp2_with fail
      refine HLA.mono ?_
      rintro e w6 ⟨rfl, hb6⟩
      have HS6 : Hid (St w1 [(wr.heap.size, #[.slice qe p.length ce, .slice qb N cb], 92)] w6 v5 (X ++ textN kf)) := HS5.out.call hb6
      clear hb6 HLA HS5 bx0 bx1
      go_wp2_with fail
      refine (text_any kl _ (by have := HK.out; omega)).mono ?_
      rintro e w7 ⟨v7, rfl, ho7, hb7⟩
      obtain ⟨p7, c7, rfl, _, _, hp7⟩ := own_form ho7
      have HS7 : Hid (St w1 [(wr.heap.size, #[.slice qe p.length ce, .slice qb N cb], 92)] w7 v5 (X ++ textN kf)) := HS6.out.call hb7
      have HI7 : Hid (BIn w7 p7 (textN kl)) := own_in ho7 (textN_lt _)
      have hz7 := HS7.out.size
      clear ho7 hb7 HS6
      go_wp2_with (at_builtin; go_loud (refine wpList_append_bytes _ rfl _ _ rfl w1.heap.size _ _ (textN kl) p7 _ c7 rfl rfl rfl HS7.out.own HI7.out hp7 (by simp only [List.length_append]; have := HXL.out; have := HTX.out; omega) hz7 ?_); intro v8 w8 ho8 hg8; have t8 := HS7.out.app ho8 hg8; have HS8 : Hid _ := t8; have bx0 := t8.box0 0; have bx1 := t8.box0 1; clear t8 ho8 hg8 HS7 HI7)
      go_wp2_with fail
      refine (small_any N _ (by omega)).mono ?_
      rintro e w9 ⟨v9, rfl, ho9, hb9⟩
      obtain ⟨p9, c9, rfl, _, _, hp9⟩ := own_form ho9
      have HS9 : Hid (St w1 [(wr.heap.size, #[.slice qe p.length ce, .slice qb N cb], 92)] w9 v8 (X ++ textN kf ++ textN kl)) := HS8.out.call hb9
      have HI9 : Hid (BIn w9 p9 (smallN N)) := own_in ho9 (smallN_bytes _)
      have hz9 := HS9.out.size
      clear ho9 hb9 HS8 bx0 bx1
      go_wp2_with (at_builtin; go_loud (refine wpList_append_bytes _ rfl _ _ rfl w1.heap.size _ _ (smallN N) p9 _ c9 rfl rfl rfl HS9.out.own HI9.out hp9 (by simp only [List.length_append]; have := HXL.out; have := HTX.out; omega) hz9 ?_); intro v10 w10 ho10 hg10; have t10 := HS9.out.app ho10 hg10; have HS10 : Hid _ := t10; clear t10 ho10 hg10 HS9 HI9)
      go_wp2
      go_roundw
      case rel => exact ⟨k + 1, by have := HKN.out; omega, by go_num, (HS10.out.eq HNX.out).drop⟩
      case measure => have := HKN.out; simp [intOf]; omega
    · have hkI : (n : Int) ≤ (k : Int) := by omega
      have HX : Hid (idxK ss k = indexN (pagesOf ss)) := idxK_all (by have := HN.out; omega)
      go_wp2
      go_ret
      exact ⟨_, rfl, (HST.out.eq HX.out).own, HST.out.bel⟩
end Go.Proofs.Ytlcbjmbphekliaa
namespace Go.Proofs.Ytlcbjmbphekliaa
open Go.RowKit Go.WideShapes

theorem pagesN_take {ss : List ShV} {k : Nat} (h : k < ss.length) {p : List EntV} (hp : (ss.getD k zeroS).ents = p) : pagesN (pagesOf (ss.take k)) ++ pageN p = pagesN (pagesOf (ss.take (k + 1))) := by
  rw [pages_take h hp, pagesN, pagesN, List.flatMap_append]
  simp
theorem pagesN_take_len (ss : List ShV) (k : Nat) : (pagesN (pagesOf (ss.take k))).length ≤ (pagesN (pagesOf ss)).length := by
  have : pagesN (pagesOf ss) = pagesN (pagesOf (ss.take k)) ++ pagesN (pagesOf (ss.drop k)) := by
    unfold pagesN pagesOf
    rw [← List.flatMap_append, ← List.map_append, List.take_append_drop]
  rw [this, List.length_append]; omega
def putsK (ns : List Nat) (k : Nat) : List Nat := (ns.take k).flatMap putN
theorem putsK_next (ns : List Nat) {k : Nat} (h : k < ns.length) {N : Nat} (hN : ns.getD k 0 = N) : putsK ns k ++ putN N = putsK ns (k + 1) := by
  unfold putsK
  rw [List.take_succ_eq_append_getElem h, List.flatMap_append, ← hN]
  simp [List.getD, List.getElem?_eq_getElem h]
theorem putsK_len (ns : List Nat) (k : Nat) : (putsK ns k).length ≤ 8 * ns.length := by
  unfold putsK
  have h : ∀ l : List Nat, (l.flatMap putN).length = 8 * l.length := by
    intro l
    induction l with
    | nil => rfl
    | cons x l ih => rw [List.flatMap_cons, List.length_append, ih, putN_len, List.length_cons]; omega
  rw [h, List.length_take]; omega
def ends3 (P I S : Nat) : List Nat := [P, I, S]
theorem table_join (ps : List (List EntV)) (P I S : Nat) (hP : (pagesN ps).length = P) (hI : (indexN ps).length = I) (hS : (sieveN ps.flatten).length = S) : pagesN ps ++ indexN ps ++ sieveN ps.flatten ++ putsK (ends3 P I S) 3 = coreN ps := by
  subst hP hI hS
  unfold coreN endN putsK ends3
  simp only [List.take_succ_cons, List.take_zero, List.flatMap_cons, List.flatMap_nil, List.append_assoc, List.append_nil]
theorem ints3 (P I S k : Nat) (h : k < 3) : (#[Value.int .i64 (P : Int), .int .i64 (I : Int), .int .i64 (S : Int)])[k]? = some (.int .i64 (((ends3 P I S).getD k 0 : Nat) : Int)) := by
  match k, h with
  | 0, _ => rfl
  | 1, _ => rfl
  | 2, _ => rfl
set_option maxRecDepth 8000 in
set_option maxHeartbeats 4000000 in
theorem bytes_any (q : Option Addr) (n c : Nat) (p : Option Addr) (m cp : Nat) (ss : List ShV) (w : World) (h : Sheets w q n ss) (hok : OkT ss) (L : List EntV) (hL : (pagesOf ss).flatten = L) (hb : BIn w p (sieveN L)) (hm : m = (sieveN L).length) (hcp : p = none → cp = 0) (hfew : (pagesN (pagesOf ss)).length ≤ 1000000) :
    Calls Try.prog 31 #[.agg #[.slice q n c, .slice p m cp]] w fun e w' => ∃ v, e = .returned v ∧ w'.ownsRow w.heap.size 5 1 v (tableN (pagesOf ss)).length (Bs (tableN (pagesOf ss))) ∧ Below w.heap.size w w' := by
  have HS : Hid (Sheets w q n ss) := h
  have HN : Hid (n = ss.length) := h.n
  have HOK : Hid (OkT ss) := hok
  have HL : Hid ((pagesOf ss).flatten = L) := hL
  have HBS : Hid (BIn w p (sieveN L) ∧ m = (sieveN L).length) := ⟨hb, hm⟩
  have HFW : Hid ((pagesN (pagesOf ss)).length ≤ 1000000) := hfew
  have hzI : (n : Int) ≤ 1000000 := by have := hok.few.n; have := h.n; omega
  have HML : Hid (m ≤ 2000000) := by
    show _ ≤ _
    rw [hm, sieveN_len, ← hL]
    have := hok.few.l
    omega
  have HS0 : Hid (St w [(w.heap.size, #[.slice q n c, .slice p m cp], 65)] (w.alloc (.cells #[.slice q n c, .slice p m cp] 65)) (.slice none 0 0) []) := (St.start (w := w) (bx := []) (fun p hp => by simp at hp)).alloc _ _ (by decide)
  clear h hok hL hb hm hfew
  go_enter Try.func31, Try.ntmps31
  go_wp2
  go_loopw [3, 13] (fun v i wr => ∃ k : Nat, k ≤ n ∧ i = .int .i64 k ∧ St w [(w.heap.size, #[.slice q n c, .slice p m cp], 65)] wr v (pagesN (pagesOf (ss.take k)))) (fun _ i _ => n - (intOf i).toNat)
  case atStart => exact ⟨0, by omega, rfl, HS0.out⟩
  case round =>
    obtain ⟨k, hk, rfl, hst⟩ := hrel
    obtain ⟨X, hX⟩ : ∃ X, pagesN (pagesOf (ss.take k)) = X := ⟨_, rfl⟩
    rw [hX] at hst
    obtain ⟨vq, vc, rfl, _, _, _⟩ := own_form hst.own
    have HST : Hid (St w [(w.heap.size, #[.slice q n c, .slice p m cp], 65)] wr (.slice vq X.length vc) X) := hst
    have HX : Hid (pagesN (pagesOf (ss.take k)) = X) := hX
    have HXL : Hid (X.length ≤ 1000000) := by show _ ≤ _; rw [← hX]; exact Nat.le_trans (pagesN_take_len ss k) HFW.out
    clear hst HS0 hX
    by_cases hkn : k < n
    · have hkI : (k : Int) < (n : Int) := by omega
      obtain ⟨b, o, rfl, qe, ce, qb, cb, pp, hs, _, _, hok0⟩ := HS.out.get hkn
      obtain ⟨b', o', hbo, qe', ce', qb', cb', pp', hs', e0, e1, _⟩ := (HS.out.below HST.out.bel).get hkn
      rw [hs] at hs'
      simp only [ShV.mk.injEq] at hs'
      obtain ⟨rfl, rfl, rfl, rfl, rfl⟩ := hs'
      simp only [Option.some.injEq, Addr.mk.injEq, and_true] at hbo
      obtain ⟨rfl, rfl⟩ := hbo
      have hp0 := HOK.out.ok _ (getD_memS (k := k) (by have := HN.out; omega))
      rw [hs] at hp0
      have hNX := pagesN_take (ss := ss) (k := k) (by have := HN.out; omega) (p := pp) (by rw [hs])
      rw [HX.out] at hNX
      obtain ⟨Y, hY⟩ : ∃ Y, pageN pp = Y := ⟨_, rfl⟩
      rw [hY] at hNX e1
      have S1 := HST.out.alloc #[.slice qe pp.length ce, .slice qb Y.length cb] 92 (by decide)
      have HS1 : Hid (St w _ _ _ X) := S1
      have HI : Hid (BIn (wr.alloc (.cells #[.slice qe pp.length ce, .slice qb Y.length cb] 92)) qb Y) := by have := hok0.bytes.below S1.bel; rw [hY] at this; exact this
      have hpb : qb = none → cb = 0 := hok0.capb.2.2
      have HYL : Hid (Y.length ≤ 65536) := by show _ ≤ _; rw [← hY]; exact hp0.2.1
      have HNX : Hid (X ++ Y = pagesN (pagesOf (ss.take (k + 1)))) := hNX
      have hz1 := S1.size
      have HKN : Hid (k < n) := hkn
      clear hs hok0 hp0 hNX hY S1 hkn
      go_wp2_with (at_builtin; go_loud (refine wpList_append_bytes _ rfl _ _ rfl w.heap.size _ _ Y qb _ cb rfl rfl rfl HS1.out.own HI.out hpb (by have := HXL.out; have := HYL.out; omega) hz1 ?_); intro v5 w5 ho5 hg5; have t5 := HS1.out.app ho5 hg5; have HS5 : Hid _ := t5; clear t5 ho5 hg5)
      go_wp2
      go_roundw
      case rel => exact ⟨k + 1, by have := HKN.out; omega, by go_num, (HS5.out.eq HNX.out).drop⟩
      case measure => have := HKN.out; simp [intOf]; omega
    · have hkI : (n : Int) ≤ (k : Int) := by omega
      have hXX : X = pagesN (pagesOf ss) := by rw [← HX.out, List.take_of_length_le (by have := HN.out; omega)]
      have HXX : Hid (X = pagesN (pagesOf ss)) := hXX
      have bx0 := HST.out.box0 0
      have bx1 := HST.out.box0 1
      have HID := index_any q n c ss wr (HS.out.below HST.out.bel) HOK.out
      have HIL : Hid ((indexN (pagesOf ss)).length ≤ 700000000) := by
        have := idxK_len HOK.out ss.length
        rw [idxK_all (Nat.le_refl _)] at this
        exact this
      obtain ⟨Y, hY⟩ : ∃ Y, indexN (pagesOf ss) = Y := ⟨_, rfl⟩
      rw [hY] at HID
      have HYL : Hid (Y.length ≤ 700000000 ∧ ∀ c ∈ Y, c < 256) := ⟨by rw [← hY]; exact HIL.out, by rw [← hY]; exact indexN_lt _⟩
      have HYY : Hid (indexN (pagesOf ss) = Y) := hY
      clear hXX hY HIL
      go_wp2_with fail
      refine HID.mono ?_
      rintro e w2 ⟨v2, rfl, ho2, hb2⟩
      obtain ⟨p2, c2, rfl, _, _, hp2⟩ := own_form ho2
      have HS2 : Hid (St w [(w.heap.size, #[.slice q n c, .slice p m cp], 65)] w2 (.slice vq X.length vc) X) := HST.out.call hb2
      have HI2 : Hid (BIn w2 p2 Y) := own_in ho2 HYL.out.2
      have hz2 := HS2.out.size
      obtain ⟨Z, hZ⟩ : ∃ Z, sieveN L = Z := ⟨_, rfl⟩
      have HZZ : Hid (sieveN L = Z) := hZ
      have HBZ : Hid (BIn w p Z ∧ m = Z.length) := by rw [← hZ]; exact HBS.out
      clear ho2 hb2 HID hZ bx0 bx1
      have hXI : (X.length : Int) ≤ 1000000 := by have := HXL.out; omega
      have hYI : (Y.length : Int) ≤ 700000000 := by have := HYL.out; omega
      have hZI : (m : Int) ≤ 2000000 := by have := HML.out; omega
      obtain ⟨P, hP⟩ : ∃ P, X.length = P := ⟨_, rfl⟩
      obtain ⟨I, hI⟩ : ∃ I, Y.length = I := ⟨_, rfl⟩
      have HPIS : Hid (X.length = P ∧ Y.length = I ∧ m = Z.length) := ⟨hP, hI, HBZ.out.2⟩
      rw [hP] at hXI HS2 ⊢
      rw [hI] at hYI ⊢
      clear hP hI
      go_wp2_with (first
        | (at_builtin; go_loud (refine wpList_append_bytes _ rfl _ _ rfl w.heap.size _ _ Y p2 _ c2 rfl rfl HPIS.out.2.1.symm HS2.out.own HI2.out hp2 (by have := HXL.out; have := HYL.out; omega) hz2 ?_); intro v3 w3 ho3 hg3; have t3 := HS2.out.app ho3 hg3; have HS3 : Hid _ := t3; have bx0 := t3.box0 0; have bx1 := t3.box0 1; have hz3 := t3.size; have HI3 : Hid (BIn w3 p Z) := HBZ.out.1.below t3.bel; clear t3 ho3 hg3 HS2 HI2)
        | (at_builtin; go_loud (refine wpList_append_bytes _ rfl _ _ rfl w.heap.size _ _ Z p _ cp rfl rfl HPIS.out.2.2 HS3.out.own HI3.out hcp (by simp only [List.length_append]; have := HXL.out; have := HYL.out; have := HML.out; have := HPIS.out; omega) hz3 ?_); intro v4 w4 ho4 hg4; have t4 := HS3.out.app ho4 hg4; have HS4 : Hid _ := t4; clear bx0 bx1; have bx0 := t4.box0 0; have bx1 := t4.box0 1; clear t4 ho4 hg4 HS3 HI3))
      obtain ⟨W, hW⟩ : ∃ W, X ++ Y ++ Z = W := ⟨_, rfl⟩
      have HS5 : Hid (St w [(w4.heap.size, #[.int .i64 (P : Int), .int .i64 (I : Int), .int .i64 (m : Int)], 3), (w.heap.size, #[.slice q n c, .slice p m cp], 65)] (w4.alloc (.cells #[.int .i64 (P : Int), .int .i64 (I : Int), .int .i64 (m : Int)] 3)) v4 W) := by rw [← hW]; exact HS4.out.alloc _ _ (by decide)
      have HWL : Hid (W.length ≤ 800000000) := by
        show _ ≤ _
        rw [← hW]
        simp only [List.length_append]
        have := HXL.out; have := HYL.out; have := HML.out; have := HPIS.out
        omega
      have HNB : Hid (∀ j, (ends3 P I m).getD j 0 ≤ 700000000) := by
        intro j
        have := HXL.out; have := HYL.out; have := HML.out; have := HPIS.out
        match j with
        | 0 => show P ≤ _; omega
        | 1 => show I ≤ _; omega
        | 2 => show m ≤ _; omega
        | j + 3 => show 0 ≤ _; omega
      have HCR : Hid (W ++ putsK (ends3 P I m) 3 = coreN (pagesOf ss)) := by
        show _ = _
        rw [← hW, HXX.out, ← HYY.out, ← HZZ.out, ← HL.out]
        exact table_join _ P I m (by rw [← HXX.out]; exact HPIS.out.1) (by rw [HYY.out]; exact HPIS.out.2.1) (by rw [HL.out, HZZ.out]; exact HPIS.out.2.2.symm)
      clear hW bx0 bx1 HS4
      go_loopw [3, 42] (fun v i wr => ∃ j : Nat, j ≤ 3 ∧ i = .int .i64 j ∧ St w [(w4.heap.size, #[.int .i64 (P : Int), .int .i64 (I : Int), .int .i64 (m : Int)], 3), (w.heap.size, #[.slice q n c, .slice p m cp], 65)] wr v (W ++ putsK (ends3 P I m) j)) (fun _ i _ => 3 - (intOf i).toNat)
      case atStart => exact ⟨0, by omega, rfl, by rw [show putsK (ends3 P I m) 0 = [] from rfl, List.append_nil]; exact HS5.out⟩
      case round =>
        obtain ⟨j, hj, rfl, hst2⟩ := hrel
        obtain ⟨V, hV⟩ : ∃ V, W ++ putsK (ends3 P I m) j = V := ⟨_, rfl⟩
        rw [hV] at hst2
        obtain ⟨uq, uc, rfl, _, _, _⟩ := own_form hst2.own
        have HT : Hid (St w [(w4.heap.size, #[.int .i64 (P : Int), .int .i64 (I : Int), .int .i64 (m : Int)], 3), (w.heap.size, #[.slice q n c, .slice p m cp], 65)] wr (.slice uq V.length uc) V) := hst2
        have HVV : Hid (W ++ putsK (ends3 P I m) j = V) := hV
        have HVL : Hid (V.length ≤ 800000100) := by
          show _ ≤ _
          rw [← hV, List.length_append]
          have := putsK_len (ends3 P I m) j
          rw [show (ends3 P I m).length = 3 from rfl] at this
          have := HWL.out
          omega
        by_cases hj3 : j < 3
        · have hjI : (j : Int) < 3 := by omega
          have b0 := hst2.box0 j
          rw [ints3 P I m j hj3] at b0
          obtain ⟨N, hN⟩ : ∃ N, (ends3 P I m).getD j 0 = N := ⟨_, rfl⟩
          rw [hN] at b0
          have hNb : N ≤ 700000000 := by rw [← hN]; exact HNB.out j
          have hwN : IntKind.u64.wrap (N : Int) = (N : Int) := by rw [IntKind.wrap_u64]; omega
          have HNX : Hid (V ++ putN N = W ++ putsK (ends3 P I m) (j + 1)) := by
            show _ = _
            rw [← putsK_next (ends3 P I m) (by exact hj3) hN, ← hV, List.append_assoc]
          have HJ : Hid (j < 3 ∧ N ≤ 700000000) := ⟨hj3, hNb⟩
          clear hst2 hV hN hj3 HS5 hNb
          go_wp2_with fail
          refine (put_any N _ (by have := HJ.out; omega)).mono ?_
          rintro e w6 ⟨w7, rfl, rfl, hb7⟩
          have HT6 : Hid (St w [(w4.heap.size, #[.int .i64 (P : Int), .int .i64 (I : Int), .int .i64 (m : Int)], 3), (w.heap.size, #[.slice q n c, .slice p m cp], 65)] (w7.alloc (.cells (Bs (putN N)).toArray 117)) (.slice uq V.length uc) V) := (HT.out.call hb7).call (below_alloc _ _)
          have HI6 : Hid (BIn (w7.alloc (.cells (Bs (putN N)).toArray 117)) (some ⟨w7.heap.size, 0, none⟩) (putN N)) := bin_alloc w7 (putN N) _ (putN_bytes N (by have := HJ.out; omega))
          have hz6 := HT6.out.size
          generalize w7.alloc (.cells (Bs (putN N)).toArray 117) = w8 at *
          clear hb7 b0
          go_wp2_with (at_builtin; go_loud (refine wpList_append_bytes _ rfl _ _ rfl w.heap.size _ _ (putN N) (some ⟨w7.heap.size, 0, none⟩) _ 8 rfl rfl (putN_len N).symm HT6.out.own HI6.out (fun h => by cases h) (by rw [putN_len]; have := HVL.out; omega) hz6 ?_); intro v9 w9 ho9 hg9; have t9 := HT6.out.app ho9 hg9; have HT9 : Hid _ := t9; clear t9 ho9 hg9)
          go_wp2
          go_roundw
          case rel => exact ⟨j + 1, by have := HJ.out; omega, by go_num, HT9.out.eq HNX.out⟩
          case measure => have := HJ.out; simp [intOf]; omega
        · have hj33 : j = 3 := by omega
          subst hj33
          rw [HCR.out] at hV
          have HVC : Hid (coreN (pagesOf ss) = V) := hV
          have HVB : Hid (∀ c ∈ V, c < 256) := by
            have h1 := HXL.out; have h2 := HYL.out; have h3 := HML.out; have h4 := HPIS.out
            rw [← hV]
            refine coreN_lt ⟨?_, ?_, ?_⟩
            · rw [← HXX.out]; omega
            · rw [HYY.out]; omega
            · rw [HL.out, HZZ.out]; omega
          obtain ⟨z, hz⟩ : ∃ z, sumN V = z := ⟨_, rfl⟩
          have hz1 : z < 4294967296 := hz ▸ sumN_lt HVB.out
          have hcz : IntKind.u64.wrap (z : Int) = (z : Int) := by rw [IntKind.wrap_u64]; omega
          have HSM := sum_at uq V.length uc V wr (z : Int) rfl (by rw [hz]) (own_in HT.out.own HVB.out) (by have := HVL.out; unfold maxLen; omega)
          have HQ : Hid (sum4 V = (putN z).take 4 ∧ z < 4294967296) := ⟨by unfold sum4; rw [hz], hz1⟩
          clear hst2 hV hz hz1 HS5 hj3
          go_wp2_with fail
          refine HSM.mono ?_
          rintro e w6 ⟨rfl, rfl⟩
          go_wp2_with fail
          refine (put_any z _ (by have := HQ.out; omega)).mono ?_
          rintro e w7 ⟨w8, rfl, rfl, hb8⟩
          have HT6 : Hid (St w [(w4.heap.size, #[.int .i64 (P : Int), .int .i64 (I : Int), .int .i64 (m : Int)], 3), (w.heap.size, #[.slice q n c, .slice p m cp], 65)] (w8.alloc (.cells (Bs (putN z)).toArray 117)) (.slice uq V.length uc) V) := (HT.out.call hb8).call (below_alloc _ _)
          have HI6 : Hid (BIn (w8.alloc (.cells (Bs (putN z)).toArray 117)) (some ⟨w8.heap.size, 0, none⟩) (sum4 V)) := by
            rw [HQ.out.1]
            exact (bin_alloc w8 (putN z) _ (putN_bytes z (by have := HQ.out; omega))).take' 4
          have hz6 := HT6.out.size
          have HSL : Hid ((4 : Nat) = (sum4 V).length) := (sum4_len V).symm
          generalize w8.alloc (.cells (Bs (putN z)).toArray 117) = w9 at *
          clear hb8 HSM
          go_wp2_with (at_builtin; go_loud (refine wpList_append_bytes _ rfl _ _ rfl w.heap.size _ _ (sum4 V) (some ⟨w8.heap.size, 0, none⟩) _ 8 rfl rfl HSL.out HT6.out.own HI6.out (fun h => by cases h) (by rw [sum4_len]; have := HVL.out; omega) hz6 ?_); intro v10 w10 ho10 hg10; have t10 := HT6.out.app ho10 hg10; have HT10 : Hid _ := t10; clear t10 ho10 hg10)
          go_ret
          have hfin : V ++ sum4 V = tableN (pagesOf ss) := by rw [← HVC.out]; rfl
          exact ⟨v10, rfl, (HT10.out.eq hfin).own, HT10.out.bel⟩
end Go.Proofs.Ytlcbjmbphekliaa
namespace Go.Proofs.Ytlcbjmbphekliaa
open Go.RowKit Go.WideShapes
variable {B : Nat}

structure Twk (B : Nat) (w : World) (g : Nat) (xs : List Nat) (lost : Bool) (p : Option Addr) (c : Nat) : Prop where
  box : w.heap[g]? = some (.cells #[.slice p xs.length c, .bool lost] 123 (0, 0))
  bin : BIn w p xs
  cap : xs.length ≤ c ∧ c ≤ maxLen ∧ (p = none → c = 0)
  old : 0 < xs.length → ∀ a, p = some a → a.block < B
theorem Twk.grow {w w' : World} {g : Nat} {xs : List Nat} {lost : Bool} {p : Option Addr} {c : Nat} (h : Twk B w g xs lost p c) {q : Option Addr} {ys : List Nat} (hq : BIn w q ys) (hg : w.grownBy w' (some g)) : BIn w' q ys := bin_grown h.box (by simp) (by simp) hq hg
theorem Twk.below {w w' : World} {g : Nat} {xs : List Nat} {lost : Bool} {p : Option Addr} {c : Nat} (h : Twk B w g xs lost p c) (hb : Below w.heap.size w w') : Twk B w' g xs lost p c := ⟨block_below h.box hb, h.bin.below hb, h.cap, h.old⟩
theorem Twk.lose {w : World} {g : Nat} {xs : List Nat} {lost : Bool} {p : Option Addr} {c : Nat} (h : Twk B w g xs lost p c) : Twk B (w.setCell ⟨g, 1, none⟩ (.bool true)) g xs true p c := ⟨block_set h.box _, h.grow h.bin (grown_set _ _ _ _), h.cap, h.old⟩
theorem Twk.go {w : World} {g : Nat} {xs : List Nat} {lost : Bool} {p : Option Addr} {c k : Nat} (h : Twk B w g xs lost p c) {p' : Option Addr} (hb : BIn w p' (xs.drop k)) (hp : p' = none → c - k = 0) (ho : ∀ a', p' = some a' → ∃ a, p = some a ∧ a'.block = a.block) : Twk B (w.setCell ⟨g, 0, none⟩ (.slice p' (xs.length - k) (c - k))) g (xs.drop k) lost p' (c - k) :=
  ⟨by rw [List.length_drop]; exact block_set h.box _, h.grow hb (grown_set _ _ _ _), by have := h.cap; rw [List.length_drop]; exact ⟨by omega, by omega, hp⟩, fun hp a' ha => by obtain ⟨a, h1, h2⟩ := ho a' ha; rw [h2]; exact h.old (by rw [List.length_drop] at hp; omega) a h1⟩
theorem Twk.own {w w' : World} {g : Nat} {xs : List Nat} {lost : Bool} {p : Option Addr} {c : Nat} (h : Twk B w g xs lost p c) {r : Option Nat} (hg : w.grownBy w' r) (hr : ∀ k, r = some k → B ≤ k ∧ k ≠ g) : Twk B w' g xs lost p c := by
  refine ⟨(hg.block g (lt_heap h.box) (fun e => (hr g e.symm).2 rfl)).trans h.box, ⟨fun hp => ?_, h.bin.2⟩, h.cap, h.old⟩
  obtain ⟨b', o, e, hc⟩ := h.bin.1 hp
  refine ⟨b', o, e, fun i hi => ?_⟩
  have e2 := hc i hi
  have hlt := World.block_lt_of_cell? _ _ e2
  have hb := h.old hp _ e
  have hbk : w'.heap[b']? = w.heap[b']? := hg.block b' hlt (fun e => by have := (hr b' e.symm).1; exact absurd hb (by simp only; omega))
  rw [← e2]
  unfold World.cell?
  simp only [hbk]
set_option maxRecDepth 8000 in
set_option maxHeartbeats 1000000 in
theorem tnumber_any (g : Nat) (xs : List Nat) (lost : Bool) (p : Option Addr) (c : Nat) (w : World) (h : Twk B w g xs lost p c) (hx : xs.length ≤ 1000000) (n : Nat) (xs' : List Nat) (lost' : Bool) (hR : numW 524288 ⟨xs, lost⟩ = (n, ⟨xs', lost'⟩)) :
    Calls Try.prog 83 #[.pointer (some ⟨g, 0, none⟩)] w fun e w' => e = .returned (.int .i64 (n : Int)) ∧ (∃ p' c', Twk B w' g xs' lost' p' c') ∧ w.grownBy w' (some g) := by
  obtain ⟨⟨c0, c1⟩, z0, z1⟩ := two2 h.box
  have HW : Hid (Twk B w g xs lost p c) := h
  rcases hr : readN xs with _ | ⟨m, k⟩
  · rw [numW_none hr] at hR
    simp only [Prod.mk.injEq, Wk.mk.injEq] at hR
    obtain ⟨rfl, rfl, rfl⟩ := hR
    have HRD := read_none p xs.length c xs w rfl h.bin (by unfold maxLen; omega) hr
    clear h hr hx
    go_enter Try.func83, Try.ntmps83
    go_wp2_with fail
    refine HRD.mono ?_
    rintro e w1 ⟨rfl, rfl⟩
    go_wp2
    go_ret
    exact ⟨rfl, ⟨p, c, HW.out.lose⟩, grown_set _ _ _ _⟩
  · have HRD := read_some p xs.length c xs w m k rfl h.bin (by unfold maxLen; omega) hr
    obtain ⟨k1, k2, k3, k4⟩ := readN_some hr
    rcases Nat.lt_or_ge 524288 m with hm | hm
    · rw [numW_big hr hm] at hR
      simp only [Prod.mk.injEq, Wk.mk.injEq] at hR
      obtain ⟨rfl, rfl, rfl⟩ := hR
      have g1 : decide ((524288 : Int) < (m : Int)) = true := decide_eq_true (by omega)
      have g1' : (524288 : Int) < (m : Int) := by omega
      clear h hr hx k4
      go_enter Try.func83, Try.ntmps83
      go_wp2_with fail
      refine HRD.mono ?_
      rintro e w1 ⟨rfl, rfl⟩
      go_wp2
      go_ret
      exact ⟨rfl, ⟨p, c, HW.out.lose⟩, grown_set _ _ _ _⟩
    · rw [numW_some hr hm] at hR
      simp only [Prod.mk.injEq, Wk.mk.injEq] at hR
      obtain ⟨rfl, rfl, rfl⟩ := hR
      have g1 : decide ((524288 : Int) < (m : Int)) = false := decide_eq_false (by omega)
      have g1' : (m : Int) ≤ 524288 := by omega
      have g2 : IntKind.i64.wrap (m : Int) = (m : Int) := by rw [IntKind.wrap_i64]; omega
      obtain ⟨p', hs, hbn, hpn, hpo⟩ := cut_from p xs.length c k xs rfl h.cap.1 k2 h.cap.2.2
      have HB : Hid (BIn w p' (xs.drop k) ∧ (p' = none → c - k = 0) ∧ (∀ a', p' = some a' → ∃ a, p = some a ∧ a'.block = a.block)) := ⟨hbn w h.bin, hpn, hpo⟩
      clear h hr hx hm k4 k1 k2 k3 hbn hpn hpo
      go_enter Try.func83, Try.ntmps83
      go_wp2_with fail
      refine HRD.mono ?_
      rintro e w1 ⟨rfl, rfl⟩
      go_wp2
      go_ret
      exact ⟨rfl, ⟨p', c - k, HW.out.go HB.out.1 HB.out.2.1 HB.out.2.2⟩, grown_set _ _ _ _⟩
theorem passW_some {s s1 : Wk} {n : Nat} (h : numW 524288 s = (n, s1)) (hn : n ≤ s1.rest.length) : passW s = ⟨s1.rest.drop n, s1.lost⟩ := by unfold passW; rw [textW_some h hn]
theorem passW_none {s s1 : Wk} {n : Nat} (h : numW 524288 s = (n, s1)) (hn : s1.rest.length < n) : passW s = ⟨s1.rest, true⟩ := by unfold passW; rw [textW_none h hn]
theorem passW_short (s : Wk) : (passW s).rest.length ≤ s.rest.length := textW_short 524288 s
set_option maxRecDepth 8000 in
set_option maxHeartbeats 1000000 in
theorem pass_any (g : Nat) (xs : List Nat) (lost : Bool) (p : Option Addr) (c : Nat) (w : World) (h : Twk B w g xs lost p c) (hx : xs.length ≤ 1000000) (xs' : List Nat) (lost' : Bool) (hR : passW ⟨xs, lost⟩ = ⟨xs', lost'⟩) :
    Calls Try.prog 84 #[.pointer (some ⟨g, 0, none⟩)] w fun e w' => e = .returned (.tuple #[]) ∧ (∃ p' c', Twk B w' g xs' lost' p' c') ∧ w.grownBy w' (some g) := by
  obtain ⟨m, s1, hm⟩ : ∃ m s1, numW 524288 ⟨xs, lost⟩ = (m, s1) := ⟨_, _, rfl⟩
  obtain ⟨x1, l1⟩ := s1
  have HN := tnumber_any g xs lost p c w h hx m x1 l1 hm
  have hx1 : x1.length ≤ 1000000 := by have := numW_short 524288 ⟨xs, lost⟩; rw [hm] at this; exact Nat.le_trans this hx
  have hml : m ≤ 524288 := by have := numW_le 524288 ⟨xs, lost⟩; rw [hm] at this; exact this
  have hmi : (m : Int) ≤ 524288 := by omega
  have HT : Hid (passW ⟨xs, lost⟩ = ⟨xs', lost'⟩) := hR
  have HM : Hid (numW 524288 ⟨xs, lost⟩ = (m, ⟨x1, l1⟩)) := hm
  clear h hx hR hm hml
  go_enter Try.func84, Try.ntmps84
  go_wp2_with fail
  refine HN.mono ?_
  rintro e w1 ⟨rfl, ⟨p1, c1, hw1⟩, hg1⟩
  obtain ⟨⟨a0, a1⟩, z0, z1⟩ := two2 hw1.box
  have HW : Hid (Twk B w1 g x1 l1 p1 c1) := hw1
  have HG : Hid (w.grownBy w1 (some g)) := hg1
  rcases Nat.lt_or_ge x1.length m with h1 | h1
  · have e1 := passW_none HM.out h1
    have g1 : decide ((x1.length : Int) < (m : Int)) = true := decide_eq_true (by omega)
    rw [HT.out] at e1
    simp only [Wk.mk.injEq] at e1
    obtain ⟨rfl, rfl⟩ := e1
    clear hw1 hg1 HN hx1 hmi
    go_wp2
    (try simp only [Exit.inBlock, Exit.then])
    exact bodyPost_ret (v := .tuple #[]) (by simp [results, Try.results84, go_sem]) rfl ⟨rfl, ⟨p1, c1, HW.out.lose⟩, grown_trans HG.out (grown_set _ _ _ _)⟩
  · have e1 := passW_some HM.out h1
    rw [HT.out] at e1
    simp only [Wk.mk.injEq] at e1
    obtain ⟨rfl, rfl⟩ := e1
    have g1 : decide ((x1.length : Int) < (m : Int)) = false := decide_eq_false (by omega)
    have g1' : ¬ x1.length < m := by omega
    obtain ⟨p', hs, hbn, hpn, hpo⟩ := cut_from p1 x1.length c1 m x1 rfl hw1.cap.1 h1 hw1.cap.2.2
    have HB : Hid (BIn w1 p' (x1.drop m) ∧ (p' = none → c1 - m = 0) ∧ (∀ a', p' = some a' → ∃ a, p1 = some a ∧ a'.block = a.block)) := ⟨hbn _ hw1.bin, hpn, hpo⟩
    clear hw1 hg1 HN h1 hx1 hmi hbn hpn hpo
    go_wp2
    go_end0
    exact ⟨rfl, ⟨p', c1 - m, HW.out.go HB.out.1 HB.out.2.1 HB.out.2.2⟩, grown_trans HG.out (grown_set _ _ _ _)⟩
end Go.Proofs.Ytlcbjmbphekliaa
namespace Go.Proofs.Ytlcbjmbphekliaa
open Go.RowKit Go.WideShapes

def cellsI (l : List Nat) : List Value := l.map fun n : Nat => Value.int .i64 (n : Int)
def IOwn (w : World) (base : Nat) (v : Value) (l : List Nat) : Prop := w.ownsRow base 3 1 v l.length (cellsI l)
theorem iown_nil (w : World) (base : Nat) : IOwn w base (.slice none 0 0) [] := World.ownsRow_nil _ _ _ _
theorem IOwn.form {w : World} {base : Nat} {v : Value} {l : List Nat} (h : IOwn w base v l) : ∃ q m, v = .slice q l.length m ∧ l.length ≤ m ∧ m ≤ maxLen ∧ (q = none → m = 0) := own_form h
theorem IOwn.below {w w' : World} {base : Nat} {v : Value} {l : List Nat} (h : IOwn w base v l) (hb : Below w.heap.size w w') : IOwn w' base v l := own_below h hb
def IntsN (w : World) (q : Option Addr) (l : List Nat) : Prop := 0 < l.length → ∃ b o, q = some ⟨b, o, none⟩ ∧ ∀ i, i < l.length → w.cell? ⟨b, o + i, none⟩ = some (.int .i64 ((l.getD i 0 : Nat) : Int))
theorem IntsN.below {w w' : World} {q : Option Addr} {l : List Nat} (h : IntsN w q l) (hb : Below w.heap.size w w') : IntsN w' q l := by
  intro hp
  obtain ⟨b, o, rfl, hc⟩ := h hp
  exact ⟨b, o, rfl, fun i hi => (hb.cell (World.block_lt_of_cell? _ _ (hc i hi))).trans (hc i hi)⟩
theorem IntsN.addr {w : World} {q : Option Addr} {l : List Nat} (h : IntsN w q l) (hp : 0 < l.length) : ∃ b o, q = some ⟨b, o, none⟩ := by
  obtain ⟨b, o, e, _⟩ := h hp
  exact ⟨b, o, e⟩
theorem IntsN.at {w : World} {b o : Nat} {l : List Nat} (h : IntsN w (some ⟨b, o, none⟩) l) {i : Nat} (hi : i < l.length) : w.cell? ⟨b, o + i, none⟩ = some (.int .i64 ((l.getD i 0 : Nat) : Int)) := by
  obtain ⟨b', o', e, hc⟩ := h (by omega)
  simp only [Option.some.injEq, Addr.mk.injEq, and_true] at e
  obtain ⟨rfl, rfl⟩ := e
  exact hc i hi
theorem IOwn.ints {w : World} {base : Nat} {q : Option Addr} {n m : Nat} {l : List Nat} (h : IOwn w base (.slice q n m) l) : IntsN w q l := by
  intro hp
  rcases h.2 with ⟨_, hn⟩ | ⟨g, cap, cur, hv, hb, hg, hle, hmax, hsz, htk⟩
  · omega
  · simp only [Value.slice.injEq] at hv
    obtain ⟨rfl, rfl, rfl⟩ := hv
    refine ⟨g, 0, rfl, fun i hi => ?_⟩
    rw [Nat.zero_add, World.ownsRow.cellAt h _ (by omega)]
    simp [cellsI, List.getD, hi]
theorem info_int : (Try.prog.info? 3).map (fun i => (i.zero, i.size, i.bytes)) = some (some (.int .i64 0), 1, 8) := by kernel_rfl
theorem int_cells (w : World) (v : Value) (t : TypeId) : ∀ j u, [v][j]? = some u → (w.alloc (.cells #[v] t)).cell? ((⟨w.heap.size, 0, none⟩ : Addr).add j) = some u := by
  intro j u hj
  have hh := heap_alloc_new w (.cells #[v] t)
  have e : (⟨w.heap.size, 0, none⟩ : Addr).add j = ⟨w.heap.size, j, none⟩ := by simp [Addr.add]; intro h; omega
  rw [e, Lib.cell_of_heap hh]
  simpa using hj
theorem int_one (n : Int) : ∀ u ∈ [Value.int .i64 n], u.oneCell' = true := by
  intro u hu
  rw [List.mem_singleton.1 hu]
  rfl
structure OnS (w : World) (R : Option (List Nat × Wk)) (k : Nat) (xs : List Nat) (lost : Bool) (v : Value) (l : List Nat) (wr : World) : Prop where
  own : IOwn wr w.heap.size v l
  bel : Below w.heap.size w wr
  wk : ∃ p c, Twk w.heap.size wr w.heap.size xs lost p c
  cut : R = (sizesL k ⟨xs, lost⟩).map fun p => (l ++ p.1, p.2)
  len : xs.length ≤ 1000000
theorem OnS.walk {w : World} {R : Option (List Nat × Wk)} {k : Nat} {xs : List Nat} {lost : Bool} {v : Value} {l : List Nat} {wr w' : World} (h : OnS w R k xs lost v l wr) (hg : wr.grownBy w' (some w.heap.size)) : IOwn w' w.heap.size v l ∧ Below w.heap.size w w' := by
  obtain ⟨p, c, hh⟩ := h.wk
  exact ⟨World.ownsRow.kept h.own hg (.inr (own_neS h.own hh.box (by decide))), h.bel.grown hg h.bel.size (fun k hk => by have := Option.some.inj hk; omega)⟩
theorem numW_lost {lim : Nat} {s s' : Wk} {n : Nat} (h : numW lim s = (n, s')) (hs : s.lost = false) (hl : s'.lost = true) : n = 0 := by
  unfold numW at h
  split at h
  · split at h
    · simp only [Prod.mk.injEq] at h; rw [← h.2] at hl; simp only at hl; rw [hs] at hl; cases hl
    · simp only [Prod.mk.injEq] at h; exact h.1.symm
  · simp only [Prod.mk.injEq] at h; exact h.1.symm
def SizOut (xs : List Nat) (base : Nat) (e : Ending) (w' : World) : Prop :=
  (∃ ns v, sizesT xs = some ns ∧ e = .returned (.tuple #[v, .bool true]) ∧ IOwn w' base v ns) ∨ (∃ q n c, sizesT xs = none ∧ e = .returned (.tuple #[.slice q n c, .bool false]))
set_option maxRecDepth 8000 in
set_option maxHeartbeats 2000000 in
theorem readSizes_any (p : Option Addr) (n c : Nat) (xs : List Nat) (w : World) (hn : n = xs.length) (hb : BIn w p xs) (hc : n ≤ c ∧ c ≤ maxLen ∧ (p = none → c = 0)) (hx : xs.length ≤ 1000000) :
    Calls Try.prog 58 #[.slice p n c] w fun e w' => SizOut xs w.heap.size e w' ∧ Below w.heap.size w w' := by
  subst hn
  obtain ⟨m, s1, e1⟩ : ∃ m s, numW 524288 ⟨xs, false⟩ = (m, s) := ⟨_, _, rfl⟩
  obtain ⟨x1, l1⟩ := s1
  have hm : m ≤ 524288 := by have := numW_le 524288 ⟨xs, false⟩; rw [e1] at this; exact this
  have hx1 : x1.length ≤ 1000000 := by have := numW_short 524288 ⟨xs, false⟩; rw [e1] at this; exact Nat.le_trans this hx
  have hl1 : l1 = true → m = 0 := fun hl => numW_lost e1 rfl hl
  obtain ⟨R, hR⟩ : ∃ R, sizesL m ⟨x1, l1⟩ = R := ⟨_, rfl⟩
  have HCE : Hid (sizesT xs = endS R) := by show _ = _; unfold sizesT; rw [e1]; simp only; rw [hR]
  have hw0 : Twk w.heap.size (w.alloc (.cells #[.slice p xs.length c, .bool false] 123)) w.heap.size xs false p c := ⟨heap_alloc_new _ _, hb.alloc _, hc, fun hp a ha => by obtain ⟨b, o, e, hcc⟩ := hb.1 hp; rw [ha] at e; rw [Option.some.inj e]; exact World.block_lt_of_cell? _ _ (hcc 0 hp)⟩
  have HNA := tnumber_any w.heap.size xs false p c _ hw0 hx m x1 l1 e1
  have HM : Hid (m ≤ 524288 ∧ (l1 = true → m = 0) ∧ x1.length ≤ 1000000) := ⟨hm, hl1, hx1⟩
  have HR : Hid (sizesL m ⟨x1, l1⟩ = R) := hR
  obtain ⟨i0, hi, hz0, hz1, hz2⟩ := info_parts' info_int
  have hmI : (m : Int) ≤ 524288 := by omega
  clear hb hc hx e1 hm hx1 hl1 hR hw0
  go_enter Try.func58, Try.ntmps58
  go_wp2_with fail
  refine HNA.mono ?_
  rintro e w1 ⟨rfl, hw1, hg1⟩
  have HON : Hid (OnS w R m x1 l1 (.slice none 0 0) [] w1) := ⟨iown_nil _ _, (below_alloc w _).grown hg1 (by simp) (fun k hk => by have := Option.some.inj hk; omega), hw1, by rw [← HR.out]; simp, HM.out.2.2⟩
  clear hw1 hg1 HNA
  go_wp2
  go_loopw [5, 9] (fun v i wr => ∃ k xk lk l, k ≤ m ∧ i = .int .i64 ((k : Nat) : Int) ∧ (lk = true → m = 0) ∧ l.length = k ∧ OnS w R (m - k) xk lk v l wr) (fun _ i _ => m - (intOf i).toNat)
  case atStart => exact ⟨0, x1, l1, [], by omega, rfl, HM.out.2.1, rfl, HON.out⟩
  case round =>
    obtain ⟨k, xk, lk, l, hk, rfl, hlk, hll, hon⟩ := hrel
    obtain ⟨q, cq, rfl, _, _, _⟩ := hon.own.form
    have HO : Hid (OnS w R (m - k) xk lk (.slice q l.length cq) l wr) := hon
    have HLL : Hid (l.length = k ∧ k ≤ 524288) := ⟨hll, by have := HM.out.1; omega⟩
    clear hll HON
    by_cases hkm : k < m
    · have hlkf : lk = false := by cases lk with | false => rfl | true => exact absurd (hlk rfl) (by omega)
      subst hlkf
      obtain ⟨s2, e2⟩ : ∃ s, passW ⟨xk, false⟩ = s := ⟨_, rfl⟩
      obtain ⟨x2, l2⟩ := s2
      obtain ⟨s3, e3⟩ : ∃ s, passW ⟨x2, l2⟩ = s := ⟨_, rfl⟩
      obtain ⟨x3, l3⟩ := s3
      obtain ⟨N, s4, e4⟩ : ∃ n s, numW 524288 ⟨x3, l3⟩ = (n, s) := ⟨_, _, rfl⟩
      obtain ⟨x4, l4⟩ := s4
      have hb2 := passW_short ⟨xk, false⟩
      have hb3 := passW_short ⟨x2, l2⟩
      have hb4 := numW_short 524288 ⟨x3, l3⟩
      rw [e2] at hb2
      rw [e3] at hb3
      rw [e4] at hb4
      simp only at hb2 hb3 hb4
      have hN : N ≤ 524288 := by have := numW_le 524288 ⟨x3, l3⟩; rw [e4] at this; exact this
      have HX : Hid (x2.length ≤ 1000000 ∧ x3.length ≤ 1000000 ∧ x4.length ≤ 1000000) := ⟨by have := hon.len; omega, by have := hon.len; omega, by have := hon.len; omega⟩
      obtain ⟨pk, ck, hwk⟩ := hon.wk
      have HP1 := pass_any w.heap.size xk false pk ck wr hwk hon.len x2 l2 e2
      have HE : Hid (passW ⟨x2, l2⟩ = ⟨x3, l3⟩ ∧ numW 524288 ⟨x3, l3⟩ = (N, ⟨x4, l4⟩)) := ⟨e3, e4⟩
      have HSL : Hid (sizesL (m - k) ⟨xk, false⟩ = if l4 = true then none else (sizesL (m - (k + 1)) ⟨x4, l4⟩).map fun p => (N :: p.1, p.2)) := by
        show _ = _
        rw [show m - k = (m - (k + 1)) + 1 by omega]
        simp only [sizesL, e2, e3, e4]
      have hkI : (k : Int) < (m : Int) := by omega
      have HKM : Hid (k < m) := hkm
      clear hwk e2 e3 e4 hb2 hb3 hb4 hon hlk hkm
      go_wp2_with fail
      refine HP1.mono ?_
      rintro e w2 ⟨rfl, hw2, hg2⟩
      obtain ⟨ho2, hbe2⟩ := HO.out.walk hg2
      have H2 : Hid (IOwn w2 w.heap.size (.slice q l.length cq) l ∧ Below w.heap.size w w2) := ⟨ho2, hbe2⟩
      obtain ⟨p2, c2, hwk2⟩ := hw2
      have HP2 := pass_any w.heap.size x2 l2 p2 c2 w2 hwk2 HX.out.1 x3 l3 HE.out.1
      have HB2 : Hid (∃ C, w2.heap[w.heap.size]? = some (.cells C 123 (0, 0))) := ⟨_, hwk2.box⟩
      clear HP1 hg2 ho2 hbe2 hwk2
      go_wp2_with fail
      refine HP2.mono ?_
      rintro e w3 ⟨rfl, hw3, hg3⟩
      obtain ⟨p3, c3, hwk3⟩ := hw3
      have H3 : Hid (IOwn w3 w.heap.size (.slice q l.length cq) l ∧ Below w.heap.size w w3) := by
        obtain ⟨C, hC⟩ := HB2.out
        exact ⟨World.ownsRow.kept H2.out.1 hg3 (.inr (own_neS H2.out.1 hC (by decide))), H2.out.2.grown hg3 H2.out.2.size (fun k hk => by have := Option.some.inj hk; omega)⟩
      have HN3 := tnumber_any w.heap.size x3 l3 p3 c3 w3 hwk3 HX.out.2.1 N x4 l4 HE.out.2
      have HB3 : Hid (∃ C, w3.heap[w.heap.size]? = some (.cells C 123 (0, 0))) := ⟨_, hwk3.box⟩
      clear HP2 hg3 hwk3
      go_wp2_with fail
      refine HN3.mono ?_
      rintro e w4 ⟨rfl, hw4, hg4⟩
      obtain ⟨p4, c4, hwk4⟩ := hw4
      have H4 : Hid (IOwn w4 w.heap.size (.slice q l.length cq) l ∧ Below w.heap.size w w4) := by
        obtain ⟨C, hC⟩ := HB3.out
        exact ⟨World.ownsRow.kept H3.out.1 hg4 (.inr (own_neS H3.out.1 hC (by decide))), H3.out.2.grown hg4 H3.out.2.size (fun k hk => by have := Option.some.inj hk; omega)⟩
      have HW4 : Hid (Twk w.heap.size (w4.alloc (.cells #[.int .i64 (N : Int)] 3)) w.heap.size x4 l4 p4 c4) := hwk4.below (below_alloc _ _)
      have HOW : Hid (IOwn (w4.alloc (.cells #[.int .i64 (N : Int)] 3)) w.heap.size (.slice q l.length cq) l ∧ Below w.heap.size w (w4.alloc (.cells #[.int .i64 (N : Int)] 3))) := ⟨H4.out.1.below (below_alloc _ _), below_bt H4.out.2 (below_alloc _ _)⟩
      have HCL : Hid (∀ j u, [Value.int .i64 (N : Int)][j]? = some u → (w4.alloc (.cells #[.int .i64 (N : Int)] 3)).cell? ((⟨w4.heap.size, 0, none⟩ : Addr).add j) = some u) := int_cells w4 _ _
      have HNE : Hid (∀ k, (Value.slice q l.length cq).ownBlock = some k → w.heap.size ≤ k ∧ k ≠ w.heap.size) := fun k hk => ⟨(World.ownsRow.lt HOW.out.1 k hk).1, fun e => own_neS HOW.out.1 HW4.out.box (by decide) (by rw [hk, e])⟩
      have HBA : Hid (∀ ua, (w4.alloc (.cells #[.int .i64 (N : Int)] 3)).grownBy ua (Value.slice q l.length cq).ownBlock → ua.cell? ⟨w.heap.size, 1, none⟩ = some (.bool l4)) := fun ua hga => (two2 (HW4.out.own hga HNE.out).box).1.2
      clear HN3 hg4 hwk4
      cases l4 with
      | true =>
        go_wp2_with (at_builtin; go_loud (refine wpList_append_own _ rfl _ _ 94 rfl w.heap.size 3 i0 _ 1 8 Try.underlying94 hi hz0 hz1 hz2 rfl (by omega) _ _ _ rfl HOW.out.1 ⟨w4.heap.size, 0, none⟩ 1 1 [.int .i64 (N : Int)] rfl rfl HCL.out (int_one _) (by have := HLL.out; unfold maxLen; omega) (by have := HLL.out; omega) HOW.out.2.size ?_); intro va ua hoa hga _; have d0 := HBA.out ua hga)
        have HU : Hid (IOwn ua w.heap.size va (l ++ [N]) ∧ Below w.heap.size w ua ∧ Twk w.heap.size ua w.heap.size x4 true p4 c4) := by
          refine ⟨?_, HOW.out.2.grown hga HOW.out.2.size (fun k hk => (World.ownsRow.lt HOW.out.1 k hk).1), HW4.out.own hga HNE.out⟩
          unfold IOwn cellsI
          rw [List.map_append, List.length_append]
          exact hoa
        clear hoa hga
        have HNN : Hid (sizesT xs = none) := by
          show _ = _
          rw [HCE.out, HO.out.cut, HSL.out]
          rfl
        go_ret2
        exact ⟨.inr ⟨none, 0, 0, HNN.out, rfl⟩, HU.out.2.1⟩
      | false =>
        go_wp2_with (at_builtin; go_loud (refine wpList_append_own _ rfl _ _ 94 rfl w.heap.size 3 i0 _ 1 8 Try.underlying94 hi hz0 hz1 hz2 rfl (by omega) _ _ _ rfl HOW.out.1 ⟨w4.heap.size, 0, none⟩ 1 1 [.int .i64 (N : Int)] rfl rfl HCL.out (int_one _) (by have := HLL.out; unfold maxLen; omega) (by have := HLL.out; omega) HOW.out.2.size ?_); intro va ua hoa hga _; have d0 := HBA.out ua hga)
        have HU : Hid (IOwn ua w.heap.size va (l ++ [N]) ∧ Below w.heap.size w ua ∧ Twk w.heap.size ua w.heap.size x4 false p4 c4) := by
          refine ⟨?_, HOW.out.2.grown hga HOW.out.2.size (fun k hk => (World.ownsRow.lt HOW.out.1 k hk).1), HW4.out.own hga HNE.out⟩
          unfold IOwn cellsI
          rw [List.map_append, List.length_append]
          exact hoa
        clear hoa hga
        have HNX : Hid (OnS w R (m - (k + 1)) x4 false va (l ++ [N]) ua) := by
          refine ⟨HU.out.1, HU.out.2.1, ⟨p4, c4, HU.out.2.2⟩, ?_, HX.out.2.2⟩
          rw [HO.out.cut, HSL.out, if_neg (by simp), Option.map_map]
          congr 1
          funext p
          simp
        go_roundw
        case rel => exact ⟨k + 1, x4, false, _, by have := HKM.out; omega, by go_num, by simp, by rw [List.length_append, HLL.out.1]; rfl, HNX.out⟩
        case measure => have := HKM.out; simp [intOf]; omega
    · have hkI : (m : Int) ≤ (k : Int) := by omega
      obtain ⟨pk, ck, hwk⟩ := hon.wk
      obtain ⟨⟨a0, a1⟩, _⟩ := two2 hwk.box
      have HEN : Hid (sizesT xs = if lk = true then none else some l) := by
        show _ = _
        rw [HCE.out, hon.cut, show m - k = 0 from by omega]
        unfold sizesL endS
        simp
      clear hwk hon hlk
      cases lk with
      | true =>
        have HNN : Hid (sizesT xs = none) := by show _ = _; rw [HEN.out]; simp
        go_wp2
        go_quiet (fail)
        go_wp2
        go_ret2
        exact ⟨.inr ⟨q, l.length, cq, HNN.out, rfl⟩, below_drewN HO.out.bel _⟩
      | false =>
        have HNN : Hid (sizesT xs = some l) := by show _ = _; rw [HEN.out]; simp
        go_wp2
        go_quiet (fail)
        go_wp2
        go_ret2
        exact ⟨.inl ⟨l, _, HNN.out, rfl, HO.out.own.below (below_drewN (Below.refl _ _) _)⟩, below_drewN HO.out.bel _⟩
end Go.Proofs.Ytlcbjmbphekliaa
namespace Go.Proofs.Ytlcbjmbphekliaa
open Go.RowKit Go.WideShapes

theorem elem_ents (w : World) : (sizeOf (Try.prog.elem 26)).run Try.prog w = .ok 4 w := by kernel_rfl
theorem ecut_to (p : Option Addr) (n c k : Nat) (hk : k ≤ c) : ∀ w, (Instr.slice 26 (.slice p n c) none (some (.int .i64 (k : Int))) none).run Try.prog w = .ok (.slice p k c) w := by
  intro w
  rw [run_slice_h w 26 p n c (by kernel_rfl) .i64 k (by omega) (by omega), elem_ents]
  have e2 : (if c = 0 then p else p.map (·.add (0 * 4))) = p := by
    split
    · rfl
    · cases p with
      | none => rfl
      | some a => rw [Option.map_some, Nat.zero_mul]; rcases a with ⟨b, o, s⟩; cases s <;> simp [Addr.add]
  show Result.ok (Value.slice (if c = 0 then p else p.map (·.add (0 * 4))) (k - 0) (c - 0)) w = _
  rw [e2]
  rfl
theorem EntsIn.take' {w : World} {q : Option Addr} {l : List EntV} (h : EntsIn w q l) (k : Nat) : EntsIn w q (l.take k) := by
  intro hp
  rw [List.length_take] at hp
  obtain ⟨b, o, e, hc⟩ := h (by omega)
  refine ⟨b, o, e, fun i hi => ?_⟩
  rw [List.length_take] at hi
  have hg : (l.take k).getD i zeroE = l.getD i zeroE := by simp [List.getD, List.getElem?_take_of_lt (show i < k by omega)]
  rw [hg]
  exact hc i (by omega)
theorem ecut_from (p : Option Addr) (n c k : Nat) (l : List EntV) (hn : n = l.length) (hc : n ≤ c) (hk : k ≤ n) :
    ∃ p', (∀ w, (Instr.slice 26 (.slice p n c) (some (.int .i64 (k : Int))) none none).run Try.prog w = .ok (.slice p' (n - k) (c - k)) w) ∧ (∀ w, EntsIn w p l → EntsIn w p' (l.drop k)) := by
  have hr : ∀ w, (Instr.slice 26 (.slice p n c) (some (.int .i64 k)) none none).run Try.prog w = .ok (.slice (if c = k then p else p.map (·.add (k * 4))) (n - k) (c - k)) w := by
    intro w
    rw [run_slice_l w 26 p n c (by kernel_rfl) .i64 k (by omega) (by omega), elem_ents]
    rfl
  refine ⟨_, hr, fun w h hp => ?_⟩
  rw [List.length_drop] at hp
  obtain ⟨b, o, rfl, hcell⟩ := h (by omega)
  rw [if_neg (by omega), Option.map_some, add_plain]
  refine ⟨b, o + k * 4, rfl, fun i hi => ?_⟩
  rw [List.length_drop] at hi
  obtain ⟨h0, h1, h2, h3⟩ := hcell (k + i) (by omega)
  have hg : (l.drop k).getD i zeroE = l.getD (k + i) zeroE := by simp [List.getD, List.getElem?_drop]
  rw [hg]
  refine ⟨?_, ?_, ?_, ?_⟩
  · rw [show o + k * 4 + i * 4 = o + (k + i) * 4 by omega]; exact h0
  · rw [show o + k * 4 + (i * 4 + 1) = o + ((k + i) * 4 + 1) by omega]; exact h1
  · rw [show o + k * 4 + (i * 4 + 2) = o + ((k + i) * 4 + 2) by omega]; exact h2
  · rw [show o + k * 4 + (i * 4 + 3) = o + ((k + i) * 4 + 3) by omega]; exact h3
theorem results_cell1' {fn : Func} {p : Tmp} {ty : TypeId} (h : fn.results = #[.cell p ty]) (tmps : Array Value) (P : Program) (w : World) :
    (results fn tmps).run P w = ((asAddr (tmps.getD p undef)).run P w).andThen fun a w₁ => (loadVar ty a).run P w₁ := results_cell1 h tmps P w
/-- A row of bytes beside a page's box that is written. -/
theorem own_kept2 {w : World} {base g n : Nat} {v a b a' b' : Value} {xs : List Value} (h : w.ownsRow base 5 1 v n xs) (hg : w.heap[g]? = some (.cells #[a, b] 92 (0, 0))) : ((w.setCell ⟨g, 0, none⟩ a').setCell ⟨g, 1, none⟩ b').ownsRow base 5 1 v n xs := by
  have h1 : (w.setCell ⟨g, 0, none⟩ a').ownsRow base 5 1 v n xs := World.ownsRow.kept h (grown_set w g 0 a') (.inr (own_neS h hg (by decide)))
  exact World.ownsRow.kept h1 (grown_set _ g 1 b') (.inr (own_neS h1 (block_set hg a') (by decide)))
def FirstOut (l : List EntV) (q : Option Addr) (c base : Nat) (e : Ending) (w' : World) : Prop :=
  ∃ m qb cb, m = firstN l ∧ e = .returned (.agg #[.slice q m c, .slice qb (pageN (l.take m)).length cb]) ∧ w'.ownsRow base 5 1 (.slice qb (pageN (l.take m)).length cb) (pageN (l.take m)).length (Bs (pageN (l.take m)))
set_option maxRecDepth 8000 in
set_option maxHeartbeats 1000000 in
theorem firstSheet_any (q : Option Addr) (n c : Nat) (l : List EntV) (w : World) (h : EntsL w q n l) (hc : checkE l = 0) (h0 : 0 < n) (hcap : n ≤ c) :
    Calls Try.prog 52 #[.slice q n c] w fun e w' => FirstOut l q c w.heap.size e w' ∧ Below w.heap.size w w' := by
  have HE : Hid (EntsIn w q l ∧ n = l.length) := ⟨h.lies, h.n⟩
  have HC : Hid (checkE l = 0) := hc
  have hz : (n : Int) ≤ 1000000 := by have := ((checkE_rise l).1 hc).1; have := h.n; omega
  have HCAP : Hid (n ≤ c ∧ 0 < n) := ⟨hcap, h0⟩
  have HBX : Hid ((w.alloc (.cells #[.slice none 0 0, .slice none 0 0] 92)).heap[w.heap.size]? = some (.cells #[.slice none 0 0, .slice none 0 0] 92 (0, 0))) := heap_alloc_new _ _
  clear h hc h0 hcap
  go_enter Try.func52, Try.ntmps52
  go_wp2
  go_loopw [3] (fun i wr => ∃ k : Nat, 1 ≤ k ∧ k ≤ n ∧ i = .int .i64 k ∧ (∀ m, 1 ≤ m → m < k → (pageN (l.take m)).length < 512) ∧ Below w.heap.size w wr ∧ wr.heap[w.heap.size]? = some (.cells #[.slice none 0 0, .slice none 0 0] 92 (0, 0))) (fun i _ => n - (intOf i).toNat)
  case atStart => exact ⟨1, by omega, HCAP.out.2, rfl, fun m a b => by omega, below_alloc _ _, HBX.out⟩
  case round =>
    obtain ⟨k, hk1, hkn, rfl, hsm, hbel, hbox⟩ := hrel
    have HSM : Hid (∀ m, 1 ≤ m → m < k → (pageN (l.take m)).length < 512) := hsm
    have HB : Hid (Below w.heap.size w wr ∧ wr.heap[w.heap.size]? = some (.cells #[.slice none 0 0, .slice none 0 0] 92 (0, 0))) := ⟨hbel, hbox⟩
    have HK : Hid (1 ≤ k ∧ k ≤ n) := ⟨hk1, hkn⟩
    have hs := ecut_to q n c k (by have := HCAP.out; omega)
    have hpl : (pageN (l.take k)).length ≤ 6000 := by
      obtain ⟨j, rfl⟩ : ∃ j, k = j + 1 := ⟨k - 1, by omega⟩
      refine page_step HC.out j ?_
      rcases Nat.eq_zero_or_pos j with h0 | h0
      · exact .inr h0
      · exact .inl (HSM.out j h0 (by omega))
    have HMK := Make_any q k c (l.take k) wr ⟨by rw [List.length_take]; have := HE.out.2; omega, (HE.out.1.below hbel).take' k⟩ (pageN (l.take k)) 0 (makeE_page (checkE_take k HC.out) (by omega))
    obtain ⟨N, hN⟩ : ∃ N, (pageN (l.take k)).length = N := ⟨_, rfl⟩
    have HNN : Hid ((pageN (l.take k)).length = N) := hN
    rw [hN] at hpl HMK
    have hplI : (N : Int) ≤ 6000 := by omega
    have HFST : Hid ((512 ≤ N ∨ k = n) → k = firstN l) := by
      intro h
      refine IsFirst.only (l := l) ⟨hk1, by have := HE.out.2; omega, ?_, HSM.out⟩ (firstN_is (by have := HE.out.2; have := HCAP.out.2; omega))
      rw [hN, ← HE.out.2]
      exact h
    clear hsm hbel hbox hN hpl
    go_wp2_with fail
    refine HMK.mono ?_
    rintro e w2 ⟨v2, rfl, ho2, hb2⟩
    obtain ⟨qb, cb, rfl, _, _, _⟩ := own_form ho2
    have HO2 : Hid (w2.ownsRow w.heap.size 5 1 (.slice qb N cb) N (Bs (pageN (l.take k)))) := own_mono ho2 HB.out.1.size
    have HB2 : Hid (Below w.heap.size w w2) := below_bt HB.out.1 hb2
    obtain ⟨⟨z0, z1⟩, f0, f1⟩ := two2 (block_below HB.out.2 hb2)
    have HBX2 : Hid (w2.heap[w.heap.size]? = some (.cells #[.slice none 0 0, .slice none 0 0] 92 (0, 0))) := block_below HB.out.2 hb2
    clear ho2 hb2 HMK
    by_cases h5 : 512 ≤ N
    · have g1 : decide ((512 : Int) ≤ (N : Int)) = true := decide_eq_true (by omega)
      have g1' : (512 : Int) ≤ (N : Int) := by omega
      have HF : Hid (k = firstN l) := HFST.out (.inl h5)
      clear h5
      go_wp2
      (try simp only [Exit.inBlock, Exit.then])
      refine bodyPost_ret (v := .agg #[.slice q k c, .slice qb N cb]) ?_ rfl ⟨⟨k, qb, cb, HF.out, by rw [HNN.out], ?_⟩, ?_⟩
      · rw [results_cell1' rfl]
        go_simp
      · rw [HNN.out]
        exact own_kept2 HO2.out HBX2.out
      · exact (HB2.out.setCell (p := ⟨w.heap.size, 0, none⟩) (Nat.le_refl _) _).setCell (p := ⟨w.heap.size, 1, none⟩) (Nat.le_refl _) _
    · have g1 : decide ((512 : Int) ≤ (N : Int)) = false := decide_eq_false (by omega)
      have g1' : (N : Int) < 512 := by omega
      by_cases h6 : k = n
      · subst h6
        have HF : Hid (k = firstN l) := HFST.out (.inr rfl)
        clear h5
        go_wp2
        (try simp only [Exit.inBlock, Exit.then])
        refine bodyPost_ret (v := .agg #[.slice q k c, .slice qb N cb]) ?_ rfl ⟨⟨k, qb, cb, HF.out, by rw [HNN.out], ?_⟩, ?_⟩
        · rw [results_cell1' rfl]
          go_simp
        · rw [HNN.out]
          exact own_kept2 HO2.out HBX2.out
        · exact (HB2.out.setCell (p := ⟨w.heap.size, 0, none⟩) (Nat.le_refl _) _).setCell (p := ⟨w.heap.size, 1, none⟩) (Nat.le_refl _) _
      · have g2 : ((k : Int) == (n : Int)) = false := by simp; omega
        have g2' : ¬ (k : Int) = (n : Int) := by omega
        have HX : Hid (k < n ∧ N < 512) := ⟨by omega, by omega⟩
        clear h5 h6
        go_wp2
        go_roundw
        case rel =>
          refine ⟨k + 1, by omega, by have := HX.out; omega, by go_num, fun m a b => ?_, HB2.out, HBX2.out⟩
          rcases Nat.lt_or_ge m k with hm | hm
          · exact HSM.out m a hm
          · obtain rfl : m = k := by omega
            rw [HNN.out]; exact HX.out.2
        case measure => have := HX.out; simp [intOf]; omega
end Go.Proofs.Ytlcbjmbphekliaa
namespace Go.Proofs.Ytlcbjmbphekliaa
open Go.RowKit Go.WideShapes

def lenV : Value → Nat
  | .slice _ n _ => n
  | _ => 0
theorem partE_step {l : List EntV} (h : 0 < l.length) : partE l = l.take (firstN l) :: partE (l.drop (firstN l)) :=
  (parts_is l).only (.cons l (firstN l) _ (firstN_is h) (parts_is _))
theorem partE_nil {l : List EntV} (h : l.length = 0) : partE l = [] := by
  obtain rfl := List.eq_nil_of_length_eq_zero h
  rfl
theorem pagesN_app (a b : List (List EntV)) : pagesN (a ++ b) = pagesN a ++ pagesN b := by simp [pagesN]
theorem pagesN_one (p : List EntV) : pagesN [p] = pageN p := by simp [pagesN]
theorem pagesN_cons (p : List EntV) (ps : List (List EntV)) : pagesN (p :: ps) = pageN p ++ pagesN ps := by simp [pagesN]
theorem pages_count : ∀ (ps : List (List EntV)), ps.length ≤ (pagesN ps).length
  | [] => by simp
  | p :: ps => by
    have h1 := page_pos p
    have h2 := pages_count ps
    rw [pagesN_cons, List.length_append, List.length_cons]; omega
theorem sh_cells2 (w : World) (a b : Value) (t : TypeId) : ∀ j u, [a, b][j]? = some u → ((w.alloc (.cells #[a, b] t)).alloc (.cells #[a, b] t)).cell? ((⟨w.heap.size + 1, 0, none⟩ : Addr).add j) = some u := by
  intro j u hj
  have hh := heap_alloc_new (w.alloc (.cells #[a, b] t)) (.cells #[a, b] t)
  rw [show (w.alloc (.cells #[a, b] t)).heap.size = w.heap.size + 1 by simp] at hh
  have e : (⟨w.heap.size + 1, 0, none⟩ : Addr).add j = ⟨w.heap.size + 1, j, none⟩ := by simp [Addr.add]; intro h; omega
  rw [e, Lib.cell_of_heap hh]
  simpa using hj
theorem sh_one' (a b : Option Addr) (n c m d : Nat) : ∀ u ∈ [Value.slice a n c, .slice b m d], u.oneCell' = true := by
  intro u hu
  simp only [List.mem_cons, List.not_mem_nil, or_false] at hu
  rcases hu with rfl | rfl <;> rfl
def PartOut (l : List EntV) (base : Nat) (e : Ending) (w' : World) : Prop :=
  (∃ v ss, e = .returned (.tuple #[v, .bool true]) ∧ SOwn w' base v ss ∧ pagesOf ss = partE l ∧ (pagesN (partE l)).length ≤ 524288) ∨ (e = .returned (.tuple #[.slice none 0 0, .bool false]) ∧ 524288 < (pagesN (partE l)).length)
structure OnP (w : World) (l : List EntV) (v : Value) (k : Nat) (ss : List ShV) (wr : World) : Prop where
  own : SOwn wr w.heap.size v ss
  bel : Below w.heap.size w wr
  eq : pagesOf ss ++ partE (l.drop k) = partE l
  few : (pagesN (pagesOf ss)).length ≤ 524288
theorem OnP.next {w wr w' : World} {l : List EntV} {v : Value} {k : Nat} {ss : List ShV} (h : OnP w l v k ss wr) (hb : Below wr.heap.size wr w') : OnP w l v k ss w' := ⟨h.own.below hb, below_bt h.bel hb, h.eq, h.few⟩
set_option maxRecDepth 8000 in
set_option maxHeartbeats 2000000 in
theorem part_any (q : Option Addr) (n c : Nat) (l : List EntV) (w : World) (h : EntsL w q n l) (hc : checkE l = 0) (hcap : n ≤ c ∧ c ≤ maxLen) :
    Calls Try.prog 29 #[.slice q n c] w fun e w' => PartOut l w.heap.size e w' ∧ Below w.heap.size w w' := by
  have HE : Hid (EntsIn w q l ∧ n = l.length) := ⟨h.lies, h.n⟩
  have HC : Hid (checkE l = 0) := hc
  have HZ : Hid (n ≤ 4096 ∧ n ≤ c ∧ c ≤ maxLen) := ⟨by have := ((checkE_rise l).1 hc).1; have := h.n; omega, hcap⟩
  obtain ⟨i0, hi, hz0, hz1, hz2⟩ := info_parts' info_sheet
  clear h hc hcap
  go_enter Try.func29, Try.ntmps29
  go_wp2
  go_loopw [0, 4, 5] (fun s0 v s5 wr => ∃ (k : Nat) (ql : Option Addr) (cl : Nat) (ss : List ShV), k ≤ n ∧ s0 = .slice ql (n - k) cl ∧ EntsIn w ql (l.drop k) ∧ n - k ≤ cl ∧ cl ≤ maxLen ∧ s5 = .int .i64 ((pagesN (pagesOf ss)).length : Nat) ∧ OnP w l v k ss wr) (fun s0 _ _ _ => lenV s0)
  case atStart => exact ⟨0, q, c, [], by omega, rfl, HE.out.1, HZ.out.2.1, HZ.out.2.2, rfl, sown_nil _ _, Below.refl _ _, rfl, by simp [pagesOf, pagesN]⟩
  case round =>
    obtain ⟨k, ql, cl, ss, hk, rfl, hel, hcl1, hcl2, rfl, hon⟩ := hrel
    obtain ⟨vq, vc, rfl, _, _, _⟩ := hon.own.form
    obtain ⟨m, hm⟩ : ∃ m, n - k = m := ⟨_, rfl⟩
    obtain ⟨Z, hZ⟩ : ∃ Z, (pagesN (pagesOf ss)).length = Z := ⟨_, rfl⟩
    have HO : Hid (OnP w l (.slice vq ss.length vc) k ss wr) := hon
    have HEL : Hid (EntsIn w ql (l.drop k)) := hel
    have HM : Hid (n - k = m ∧ k ≤ n ∧ m ≤ cl ∧ cl ≤ maxLen) := ⟨hm, hk, by omega, hcl2⟩
    have HZZ : Hid ((pagesN (pagesOf ss)).length = Z ∧ Z ≤ 524288) := ⟨hZ, by have := hon.few; omega⟩
    rw [hm, hZ]
    have hZI : (Z : Int) ≤ 524288 := by have := HZZ.out.2; omega
    clear hon hel hm hcl1 hcl2 hZ
    by_cases hm0 : 0 < m
    · have hmI : (0 : Int) < (m : Int) := by omega
      have hdl : (l.drop k).length = m := by rw [List.length_drop]; have := HM.out; have := HE.out.2; omega
      have HFS := firstSheet_any ql m cl (l.drop k) wr ⟨hdl.symm, HEL.out.below HO.out.bel⟩ (checkE_drop k HC.out) hm0 HM.out.2.2.1
      have HDL : Hid ((l.drop k).length = m ∧ 0 < m) := ⟨hdl, hm0⟩
      clear hdl hm0
      go_wp2_with fail
      refine HFS.mono ?_
      rintro e w2 ⟨⟨j, qb, cb, hj, rfl, how⟩, hb2⟩
      have hfst := firstN_is (l := l.drop k) (by have := HDL.out; omega)
      rw [← hj] at hfst
      have hj1 := hfst.1
      have hj2 := hfst.2.1
      obtain ⟨p, hp⟩ : ∃ p, (l.drop k).take j = p := ⟨_, rfl⟩
      rw [hp] at how ⊢
      have hpj : p.length = j := by rw [← hp, List.length_take]; omega
      obtain ⟨N, hN⟩ : ∃ N, (pageN p).length = N := ⟨_, rfl⟩
      have hsm : N ≤ 6000 := by rw [← hN]; exact ((parts_is (l.drop k)).small (checkE_drop k HC.out) p (by rw [partE_step (by have := HDL.out; omega), ← hj, hp]; simp)).2
      obtain ⟨_, _, hfm, hcb1, hcb2, hcb3⟩ := own_form how
      simp only [Value.slice.injEq] at hfm
      obtain ⟨rfl, _, rfl⟩ := hfm
      have HSH : Hid (ShOk w2 ⟨ql, cl, qb, cb, p⟩ ∧ Safe 92 w.heap.size w2 ql ∧ Safe 92 w.heap.size w2 qb) := by
        have hep : EntsIn w ql p := by rw [← hp]; exact HEL.out.take' j
        refine ⟨⟨hep.below (below_bt HO.out.bel hb2), own_in how (pageN_lt p), by show 0 < p.length; omega, ⟨by have := HM.out; have := HDL.out; show p.length ≤ cl; omega, HM.out.2.2.2⟩, ⟨hcb1, hcb2, hcb3⟩⟩, safe_old hep (by omega), safe_own how (by decide)⟩
      have HON2 : Hid (OnP w l (.slice vq ss.length vc) k ss w2) := HO.out.next hb2
      have HPS : Hid (pagesOf (ss ++ [⟨ql, cl, qb, cb, p⟩]) ++ partE (l.drop (k + j)) = partE l) := by
        show _ = _
        rw [← HO.out.eq, partE_step (l := l.drop k) (by have := HDL.out; omega), ← hj, hp, List.drop_drop]
        simp [pagesOf]
      have HPN : Hid ((pagesN (pagesOf (ss ++ [⟨ql, cl, qb, cb, p⟩]))).length = Z + N) := by
        show _ = _
        have : pagesOf (ss ++ [⟨ql, cl, qb, cb, p⟩]) = pagesOf ss ++ [p] := by simp [pagesOf]
        rw [this, pagesN_app, pagesN_one, List.length_append, HZZ.out.1, hN]
      have HJ : Hid (1 ≤ j ∧ j ≤ m ∧ p.length = j ∧ (pageN p).length = N) := ⟨hj1, by have := HDL.out; omega, hpj, hN⟩
      rw [hN]
      have HX1 : Hid ((w2.alloc (.cells #[.slice ql j cl, .slice qb N cb] 92)).heap[w2.heap.size]? = some (.cells #[.slice ql j cl, .slice qb N cb] 92 (0, 0))) := heap_alloc_new _ _
      obtain ⟨⟨y0, y1⟩, _, _⟩ := two2 HX1.out
      have hw1 : IntKind.i64.wrap ((Z : Int) + (N : Int)) = ((Z + N : Nat) : Int) := by rw [IntKind.wrap_i64]; omega
      clear hfst hj1 hj2 hpj hN hcb1 hcb2 hcb3 how hb2 HFS hj hp
      obtain ⟨ZN, hZN⟩ : ∃ ZN, Z + N = ZN := ⟨_, rfl⟩
      rw [hZN] at hw1
      have HZN : Hid (Z + N = ZN) := hZN
      by_cases hbig : 524288 < ZN
      · have hbI : (524288 : Int) < (ZN : Int) := by omega
        have HBIG : Hid (524288 < (pagesN (partE l)).length) := by
          show _ < _
          rw [← HPS.out, pagesN_app, List.length_append, HPN.out]; omega
        clear hbig hZN hsm
        go_wp2
        go_ret2
        exact ⟨.inr ⟨rfl, HBIG.out⟩, below_bt HON2.out.bel (below_alloc _ _)⟩
      · have hbI : (ZN : Int) ≤ 524288 := by omega
        have HFEW : Hid (ZN ≤ 524288) := by show _ ≤ _; omega
        have HSL : Hid (ss.length ≤ 524288) := by
          show _ ≤ _
          have h1 := pages_count (pagesOf ss)
          rw [pagesOf_len, HZZ.out.1] at h1
          have := HZZ.out.2
          omega
        have HOW : Hid (OnP w l (.slice vq ss.length vc) k ss ((w2.alloc (.cells #[.slice ql j cl, .slice qb N cb] 92)).alloc (.cells #[.slice ql j cl, .slice qb N cb] 92))) := (HON2.out.next (below_alloc _ _)).next (below_alloc _ _)
        have HCL : Hid (∀ i u, [Value.slice ql j cl, .slice qb N cb][i]? = some u → ((w2.alloc (.cells #[.slice ql j cl, .slice qb N cb] 92)).alloc (.cells #[.slice ql j cl, .slice qb N cb] 92)).cell? ((⟨w2.heap.size + 1, 0, none⟩ : Addr).add i) = some u) := sh_cells2 w2 _ _ _
        have HYA : Hid (∀ ua, ((w2.alloc (.cells #[.slice ql j cl, .slice qb N cb] 92)).alloc (.cells #[.slice ql j cl, .slice qb N cb] 92)).grownBy ua (Value.slice vq ss.length vc).ownBlock → ua.cell? ⟨w2.heap.size, 0, none⟩ = some (.slice ql j cl)) := by
          intro ua hga
          have h1 := block_below HX1.out (below_alloc _ (.cells #[.slice ql j cl, .slice qb N cb] 92))
          exact (two2 ((hga.block _ (lt_heap h1) (fun e => by have := (World.ownsRow.lt HON2.out.own.own _ e.symm).2; omega)).trans h1)).1.1
        obtain ⟨p', hcf, hce⟩ := ecut_from ql m cl j (l.drop k) HDL.out.1.symm HM.out.2.2.1 HJ.out.2.1
        have HCE : Hid (EntsIn w p' (l.drop (k + j))) := by have := hce w HEL.out; rw [List.drop_drop] at this; exact this
        clear hbig hZN hsm hce
        go_wp2_with (at_builtin; go_loud (refine wpList_append_own _ rfl _ _ 61 rfl w.heap.size 92 i0 _ 2 48 Try.underlying61 hi hz0 hz1 hz2 rfl (by omega) _ _ _ rfl HOW.out.own.own ⟨w2.heap.size + 1, 0, none⟩ 1 1 [.slice ql j cl, .slice qb N cb] rfl rfl HCL.out (sh_one' ql qb j cl N cb) (by have := HSL.out; unfold maxLen; omega) (by have := HSL.out; omega) HOW.out.bel.size ?_); intro va ua hoa hga _; have d0 := HYA.out ua hga)
        have HNX : Hid (OnP w l va (k + j) (ss ++ [⟨ql, cl, qb, cb, p⟩]) ua) := by
          have hsh := HSH.out
          have hb3 : Below w2.heap.size w2 ((w2.alloc (.cells #[.slice ql j cl, .slice qb N cb] 92)).alloc (.cells #[.slice ql j cl, .slice qb N cb] 92)) := below_bt (below_alloc _ _) (below_alloc _ _)
          refine ⟨HOW.out.own.app hga ?_ ⟨hsh.1.below hb3, hsh.2.1.below hb3, hsh.2.2.below hb3⟩, HOW.out.bel.grown hga HOW.out.bel.size (fun k hk => (World.ownsRow.lt HOW.out.own.own k hk).1), HPS.out, ?_⟩
          · have := hoa
            unfold shE shB
            simp only
            rw [HJ.out.2.2.1, HJ.out.2.2.2]
            exact this
          · rw [HPN.out, HZN.out]; exact HFEW.out
        clear hoa hga
        go_wp2
        go_roundw
        case rel => exact ⟨k + j, p', cl - j, ss ++ [⟨ql, cl, qb, cb, p⟩], by have := HJ.out; have := HM.out; omega, by rw [show n - (k + j) = m - j by have := HM.out; omega], HCE.out, by have := HM.out; have := HJ.out; omega, by have := HM.out; omega, by rw [HPN.out, HZN.out], HNX.out⟩
        case measure => have := HJ.out; simp [lenV]; omega
    · have hmI : (m : Int) ≤ 0 := by omega
      have hm00 : m = 0 := by omega
      subst hm00
      have HEQ : Hid (pagesOf ss = partE l) := by
        show _ = _
        rw [← HO.out.eq, partE_nil (l := l.drop k) (by rw [List.length_drop]; have := HM.out; have := HE.out.2; omega), List.append_nil]
      go_wp2
      go_ret2
      exact ⟨.inl ⟨_, ss, rfl, HO.out.own, HEQ.out, by rw [← HEQ.out]; exact HO.out.few⟩, HO.out.bel⟩
end Go.Proofs.Ytlcbjmbphekliaa
namespace Go.Proofs.Ytlcbjmbphekliaa
open Go.RowKit Go.WideShapes

theorem bin_eight {w : World} {p : Option Addr} {xs : List Nat} (h : BIn w p xs) (h8 : 8 ≤ xs.length) : BIn w p [xs.getD 0 0, xs.getD 1 0, xs.getD 2 0, xs.getD 3 0, xs.getD 4 0, xs.getD 5 0, xs.getD 6 0, xs.getD 7 0] := by
  have e : xs.take 8 = [xs.getD 0 0, xs.getD 1 0, xs.getD 2 0, xs.getD 3 0, xs.getD 4 0, xs.getD 5 0, xs.getD 6 0, xs.getD 7 0] := by
    match xs, h8 with
    | a :: b :: c :: d :: e :: f :: g :: i :: r, _ => rfl
  rw [← e]
  exact h.take' 8
theorem get8_any (p : Option Addr) (c : Nat) (xs : List Nat) (w : World) (h : BIn w p xs) (h8 : 8 ≤ xs.length) (N : Nat) (hN : get8 xs = N) :
    Calls Try.prog 82 #[.slice p 8 c] w fun e w' => e = .returned (.tuple #[.int .u64 (N : Int), .int .i64 0]) ∧ Below w.heap.size w w' := by
  subst hN
  exact get_ok p c _ _ _ _ _ _ _ _ w (bin_eight h h8)
theorem get8_lt {xs : List Nat} (h : ∀ c ∈ xs, c < 256) : get8 xs < 18446744073709551616 := by
  have g := fun k => getD_lt h k
  have h0 := g 0; have h1 := g 1; have h2 := g 2; have h3 := g 3; have h4 := g 4; have h5 := g 5; have h6 := g 6; have h7 := g 7
  unfold get8 joinN
  omega
theorem cut_mid (p : Option Addr) (n c i j : Nat) (k1 k2 : IntKind) (xs : List Nat) (hn : n = xs.length) (hc : n ≤ c) (hij : i ≤ j) (hj : j ≤ n) :
    ∃ p' c', (∀ w, (Instr.slice 22 (.slice p n c) (some (.int k1 i)) (some (.int k2 j)) none).run Try.prog w = .ok (.slice p' (j - i) c') w) ∧ (∀ w, BIn w p xs → BIn w p' ((xs.drop i).take (j - i))) ∧ c' = c - i ∧ (p = none → p' = none) ∧ (p' = none → p = none) := by
  have hr : ∀ w, (Instr.slice 22 (.slice p n c) (some (.int k1 i)) (some (.int k2 j)) none).run Try.prog w = .ok (.slice (if c = i then p else p.map (·.add (i * 1))) (j - i) (c - i)) w := by
    intro w
    rw [run_slice_lh w 22 p n c (by kernel_rfl) k1 k2 i j (by omega) (by omega) (by omega)]
    have hs : (sizeOf (Try.prog.elem 22)).run Try.prog w = .ok 1 w := by kernel_rfl
    rw [hs]
    rfl
  refine ⟨_, _, hr, fun w h => ?_, rfl, ?_, ?_⟩
  · rcases Nat.eq_zero_or_pos xs.length with h0 | h0
    · refine ⟨fun hp => absurd hp (by rw [List.length_take, List.length_drop]; omega), fun c hc => h.2 c (List.mem_of_mem_drop (List.mem_of_mem_take hc))⟩
    obtain ⟨b, o, e, _⟩ := h.1 h0
    subst e
    have := bin_part h c i (by omega) (j - i)
    have e2 : (if c = i then some (⟨b, o, none⟩ : Addr) else (some (⟨b, o, none⟩ : Addr)).map (·.add (i * 1))) = (if c = i then some ⟨b, o, none⟩ else some ⟨b, o + i, none⟩) := by
      split
      · rfl
      · rw [Option.map_some, add_plain, Nat.mul_one]
    rw [e2]
    exact this
  · intro h
    subst h
    split <;> rfl
  · intro h
    cases p with
    | none => rfl
    | some a => split at h <;> simp at h
theorem cut_toK (k1 : IntKind) (p : Option Addr) (n c k : Nat) (hk : k ≤ c) : ∀ w, (Instr.slice 22 (.slice p n c) none (some (.int k1 (k : Int))) none).run Try.prog w = .ok (.slice p k c) w := by
  intro w
  rw [run_slice_h w 22 p n c (by kernel_rfl) k1 k (by omega) (by omega)]
  have hs : (sizeOf (Try.prog.elem 22)).run Try.prog w = .ok 1 w := by kernel_rfl
  rw [hs]
  have e2 : (if c = 0 then p else p.map (·.add (0 * 1))) = p := by
    split
    · rfl
    · cases p with
      | none => rfl
      | some a => rw [Option.map_some, Nat.zero_mul]; rcases a with ⟨b, o, s⟩; cases s <;> simp [Addr.add]
  show Result.ok (Value.slice (if c = 0 then p else p.map (·.add (0 * 1))) (k - 0) (c - 0)) w = _
  rw [e2]
  rfl
def CutTOut (xs : List Nat) (e : Ending) (w' : World) : Prop :=
  (∃ xi yi p1 c1 p2 c2, cutTab xs = some (xi, yi) ∧ e = .returned (.tuple #[.slice p1 xi.length c1, .slice p2 yi.length c2, .bool true]) ∧ (BIn w' p1 xi ∧ xi.length ≤ c1 ∧ c1 ≤ maxLen ∧ (p1 = none → c1 = 0)) ∧ (BIn w' p2 yi ∧ yi.length ≤ c2 ∧ c2 ≤ maxLen ∧ (p2 = none → c2 = 0)) ∧ xi.length ≤ 524288 ∧ yi.length ≤ 524288) ∨ (cutTab xs = none ∧ e = .returned (.tuple #[.slice none 0 0, .slice none 0 0, .bool false]))
theorem cutTab_bad {xs : List Nat} (h : xs.length < 28 ∨ 524288 < xs.length) : cutTab xs = none := by unfold cutTab; rw [if_pos h]
theorem cutTab_is {xs : List Nat} {z P I : Nat} (h : ¬ (xs.length < 28 ∨ 524288 < xs.length)) (hz : xs.length - 28 = z) (hP : get8 (xs.drop z) = P) (hI : get8 ((xs.drop z).drop 8) = I) : cutTab xs = if P ≤ z ∧ I ≤ z - P then some (xs.take P, (xs.drop P).take I) else none := by
  unfold cutTab
  rw [if_neg h, hz, hP]
  rw [List.drop_drop] at hI
  rw [show xs.length - 20 = z + 8 by omega, hI]
set_option maxRecDepth 8000 in
set_option maxHeartbeats 2000000 in
theorem cut_any (p : Option Addr) (n c : Nat) (xs : List Nat) (w : World) (hn : n = xs.length) (hb : BIn w p xs) (hc : n ≤ c ∧ c ≤ maxLen ∧ (p = none → c = 0)) :
    Calls Try.prog 57 #[.slice p n c] w fun e w' => CutTOut xs e w' ∧ Below w.heap.size w w' := by
  by_cases h1 : n < 28
  · have g1 : (n : Int) < 28 := by omega
    have HN : Hid (cutTab xs = none) := cutTab_bad (by omega)
    clear h1 hb hc hn
    go_enter Try.func57, Try.ntmps57
    go_wp2
    go_ret3
    exact ⟨.inr ⟨HN.out, rfl⟩, Below.refl _ _⟩
  by_cases h2 : 524288 < n
  · have g1 : (28 : Int) ≤ (n : Int) := by omega
    have g2 : (524288 : Int) < (n : Int) := by omega
    have HN : Hid (cutTab xs = none) := cutTab_bad (by omega)
    clear h1 h2 hb hc hn
    go_enter Try.func57, Try.ntmps57
    go_wp2
    go_ret3
    exact ⟨.inr ⟨HN.out, rfl⟩, Below.refl _ _⟩
  obtain ⟨z, hz⟩ : ∃ z, n - 28 = z := ⟨_, rfl⟩
  have hw : IntKind.i64.wrap ((n : Int) - 28) = (z : Int) := by rw [IntKind.wrap_i64]; omega
  have hs1 := cut_to p n c z (by omega)
  obtain ⟨pe, hs2, hbn, hpn, _⟩ := cut_from p n c z xs hn hc.1 (by omega) hc.2.2
  have hel : n - z = 28 := by omega
  obtain ⟨ce, hce⟩ : ∃ ce, c - z = ce := ⟨_, rfl⟩
  rw [hel, hce] at hs2
  have hed : (xs.drop z).length = 28 := by rw [List.length_drop]; omega
  have HBE : Hid (BIn w pe (xs.drop z)) := hbn w hb
  obtain ⟨P, hP⟩ : ∃ P, get8 (xs.drop z) = P := ⟨_, rfl⟩
  obtain ⟨I, hI⟩ : ∃ I, get8 ((xs.drop z).drop 8) = I := ⟨_, rfl⟩
  have hs3 : ∀ w, (Instr.slice 22 (.slice pe 28 ce) none (some (.int .i64 8)) none).run Try.prog w = .ok (.slice pe 8 ce) w := cut_to pe 28 ce 8 (by omega)
  obtain ⟨pm, cm, hs4', hbm, hx1, hx2, hx3⟩ := cut_mid pe 28 ce 8 16 .i64 .i64 (xs.drop z) hed.symm (by omega) (by omega) (by omega)
  have hs4 : ∀ w, (Instr.slice 22 (.slice pe 28 ce) (some (.int .i64 8)) (some (.int .i64 16)) none).run Try.prog w = .ok (.slice pm 8 cm) w := hs4'
  clear hs4' hx1 hx2 hx3
  have HG1 : Hid (∀ w', Below w.heap.size w w' → Calls Try.prog 82 #[.slice pe 8 ce] w' fun e w2 => e = .returned (.tuple #[.int .u64 (P : Int), .int .i64 0]) ∧ Below w'.heap.size w' w2) := fun w' hb' => get8_any pe ce (xs.drop z) w' (HBE.out.below hb') (by omega) P hP
  have HG2 : Hid (∀ w', Below w.heap.size w w' → Calls Try.prog 82 #[.slice pm 8 cm] w' fun e w2 => e = .returned (.tuple #[.int .u64 (I : Int), .int .i64 0]) ∧ Below w'.heap.size w' w2) := by
    intro w' hb'
    have h3 := hbm w' (HBE.out.below hb')
    have h4 : get8 (((xs.drop z).drop 8).take (16 - 8)) = I := by
      rw [← hI]
      have hl : 8 ≤ ((xs.drop z).drop 8).length := by rw [List.length_drop]; omega
      generalize (xs.drop z).drop 8 = ys at hl
      match ys, hl with
      | a :: b :: c :: d :: e :: f :: g :: i :: r, _ => rfl
    exact get8_any pm cm _ w' h3 (by rw [List.length_take, List.length_drop]; omega) I h4
  have hPl : P < 18446744073709551616 := hP ▸ get8_lt (fun c hc => hb.2 c (List.mem_of_mem_drop hc))
  have hIl : I < 18446744073709551616 := hI ▸ get8_lt (fun c hc => hb.2 c (List.mem_of_mem_drop (List.mem_of_mem_drop hc)))
  have HCT := cutTab_is (xs := xs) (by omega) (by omega) hP hI
  have HB : Hid (BIn w p xs ∧ n = xs.length ∧ n ≤ c ∧ c ≤ maxLen ∧ (p = none → c = 0)) := ⟨hb, hn, hc⟩
  have g1 : (28 : Int) ≤ (n : Int) := by omega
  have g2 : (n : Int) ≤ 524288 := by omega
  have hwz : IntKind.u64.wrap (z : Int) = (z : Int) := by rw [IntKind.wrap_u64]; omega
  have hzn : (z : Int) ≤ (n : Int) := by omega
  have hznc : (z : Int) ≤ (c : Int) := by omega
  have HZ : Hid (z ≤ n ∧ z ≤ 524288) := ⟨by omega, by omega⟩
  have h8c : (8 : Int) ≤ (ce : Int) := by omega
  have h16c : (16 : Int) ≤ (ce : Int) := by omega
  have HCT' : Hid (cutTab xs = if P ≤ z ∧ I ≤ z - P then some (xs.take P, (xs.drop P).take I) else none) := HCT
  clear HCT hPl hIl hbn hpn hel hce hed hbm hP hI h1 h2 hz hn hc hb
  go_enter Try.func57, Try.ntmps57
  go_wp2
  go_quiet (fail)
  go_wp2_with fail
  refine (HG1.out _ (below_drewN (Below.refl _ _) _)).mono ?_
  rintro e w1 ⟨rfl, hb1⟩
  have HB1 : Hid (Below w.heap.size w w1) := below_bt (below_drewN (Below.refl _ _) _) hb1
  clear hb1 HG1
  go_wp2_with fail
  refine (HG2.out _ HB1.out).mono ?_
  rintro e w2 ⟨rfl, hb2⟩
  have HB2 : Hid (Below w.heap.size w w2) := below_bt HB1.out hb2
  clear hb2 HG2
  by_cases hA : z < P
  · have gA : decide ((z : Int) < (P : Int)) = true := decide_eq_true (by omega)
    have gA' : (z : Int) < (P : Int) := by omega
    have HN : Hid (cutTab xs = none) := by show _ = _; rw [HCT'.out, if_neg (by omega)]
    clear hA
    go_wp2
    go_ret3
    exact ⟨.inr ⟨HN.out, rfl⟩, HB2.out⟩
  · have gA : decide ((z : Int) < (P : Int)) = false := decide_eq_false (by omega)
    have gA' : (P : Int) ≤ (z : Int) := by omega
    obtain ⟨D, hD⟩ : ∃ D, z - P = D := ⟨_, rfl⟩
    have hsub : IntKind.u64.wrap ((z : Int) - (P : Int)) = (D : Int) := by rw [IntKind.wrap_u64]; omega
    by_cases hC : D < I
    · have gC : decide ((D : Int) < (I : Int)) = true := decide_eq_true (by omega)
      have gC' : (D : Int) < (I : Int) := by omega
      have HN : Hid (cutTab xs = none) := by show _ = _; rw [HCT'.out, if_neg (by omega)]
      clear hA hC hD
      go_wp2
      go_ret3
      exact ⟨.inr ⟨HN.out, rfl⟩, HB2.out⟩
    · have gC : decide ((D : Int) < (I : Int)) = false := decide_eq_false (by omega)
      have gC' : (I : Int) ≤ (D : Int) := by omega
      have HY : Hid (cutTab xs = some (xs.take P, (xs.drop P).take I)) := by show _ = _; rw [HCT'.out, if_pos (by omega)]
      obtain ⟨Q, hQ⟩ : ∃ Q, P + I = Q := ⟨_, rfl⟩
      have hadd : IntKind.u64.wrap ((P : Int) + (I : Int)) = (Q : Int) := by rw [IntKind.wrap_u64]; have := HZ.out; omega
      have hZ := HZ.out
      have hBB := HB.out
      have hs5 := cut_toK .u64 p z c P (by omega)
      have hzl : z = (xs.take z).length := by rw [List.length_take]; omega
      obtain ⟨p6, c6, hs6, hb6, hc6, hx6, hp6⟩ := cut_mid p z c P Q .u64 .u64 (xs.take z) hzl (by omega) (by omega) (by omega)
      have hlen1 : (xs.take P).length = P := by rw [List.length_take]; omega
      have hsame : ((xs.take z).drop P).take (Q - P) = (xs.drop P).take I := by
        rw [List.drop_take, List.take_take, show min (Q - P) (z - P) = I by omega]
      have hlen2 : ((xs.drop P).take I).length = Q - P := by rw [List.length_take, List.length_drop]; omega
      have HR1 : Hid (∀ w', Below w.heap.size w w' → BIn w' p (xs.take P) ∧ (xs.take P).length ≤ c ∧ c ≤ maxLen ∧ (p = none → c = 0)) := fun w' hb' => ⟨(hBB.1.below hb').take' P, by omega, hBB.2.2.2.1, hBB.2.2.2.2⟩
      have HR2 : Hid (∀ w', Below w.heap.size w w' → BIn w' p6 ((xs.drop P).take I) ∧ ((xs.drop P).take I).length ≤ c6 ∧ c6 ≤ maxLen ∧ (p6 = none → c6 = 0)) := fun w' hb' => ⟨by rw [← hsame]; exact hb6 w' ((hBB.1.below hb').take' z), by omega, by omega, fun h => by have := hBB.2.2.2.2 (hp6 h); omega⟩
      have HLL : Hid ((xs.take P).length = P ∧ ((xs.drop P).take I).length = Q - P ∧ P ≤ 524288 ∧ Q - P ≤ 524288) := ⟨hlen1, hlen2, by omega, by omega⟩
      clear hA hC hD hQ hZ hBB hzl hb6 hc6 hp6 hx6 hlen1 hlen2 hsame
      go_wp2
      go_quiet (fail)
      go_wp2
      go_ret3
      have hbq := below_drewN HB2.out nq
      refine ⟨.inl ⟨_, _, p, c, p6, c6, HY.out, ?_, HR1.out _ hbq, HR2.out _ hbq, by rw [HLL.out.1]; exact HLL.out.2.2.1, by rw [HLL.out.2.1]; exact HLL.out.2.2.2⟩, hbq⟩
      rw [HLL.out.1, HLL.out.2.1]
      rfl
end Go.Proofs.Ytlcbjmbphekliaa
namespace Go.Proofs.Ytlcbjmbphekliaa
open Go.RowKit Go.WideShapes

def endsB (l : List EntV) (n : Nat) (last : Bool) : Bool := decide (0 < l.length) && (decide (512 ≤ n) || last) && decide ((pageN (l.take (l.length - 1))).length < 512)
theorem endsB_is (l : List EntV) (n : Nat) (ns : List Nat) (last : Bool) (h : last = decide (ns = [])) : endsB l n last = true ↔ EndsP l n (ns = []) := by
  subst h
  unfold endsB EndsP
  simp [and_assoc]
set_option maxRecDepth 8000 in
set_option maxHeartbeats 1000000 in
theorem endsWell_any (q : Option Addr) (m c : Nat) (l : List EntV) (n : Nat) (last : Bool) (w : World) (h : EntsL w q m l) (hcap : m ≤ c) (hc : checkE l = 0) (hp : (pageN l).length ≤ 65536) (hn : n ≤ 1000000) (r : Bool) (hr : endsB l n last = r) :
    Calls Try.prog 86 #[.slice q m c, .int .i64 (n : Int), .bool last] w fun e w' => e = .returned (.bool r) ∧ Below w.heap.size w w' := by
  have hm := h.n
  have hl := ((checkE_rise l).1 hc).1
  have hnI : (n : Int) ≤ 1000000 := by omega
  by_cases h0 : m = 0
  · have HF : Hid (r = false) := by show _ = _; rw [← hr]; unfold endsB; simp; intro h1; omega
    subst h0
    clear h hcap hc hp hr hm hl hn
    go_enter Try.func86, Try.ntmps86
    go_wp2
    go_ret
    exact ⟨by rw [HF.out]; rfl, Below.refl _ _⟩
  have g0 : ((m : Int) == 0) = false := by simp; omega
  have g0' : ¬ (m : Int) = 0 := by omega
  have g0'' : (0 : Int) < (m : Int) := by omega
  obtain ⟨j, hj⟩ : ∃ j, m = j + 1 := ⟨m - 1, by omega⟩
  have hwj : IntKind.i64.wrap ((m : Int) - 1) = (j : Int) := by rw [IntKind.wrap_i64]; omega
  have hs := ecut_to q m c j (by omega)
  have hpj : (pageN (l.take j)).length ≤ 65536 := by
    have := page_mono l (m := j) (n := l.length) (by omega)
    rw [List.take_of_length_le (Nat.le_refl _)] at this
    omega
  have HMK := Make_any q j c (l.take j) w ⟨by rw [List.length_take]; omega, h.lies.take' j⟩ (pageN (l.take j)) 0 (makeE_page (checkE_take j hc) hpj)
  obtain ⟨N, hN⟩ : ∃ N, (pageN (l.take j)).length = N := ⟨_, rfl⟩
  rw [hN] at HMK
  have hNI : (N : Int) ≤ 65536 := by omega
  have HR : Hid (r = ((decide (512 ≤ n) || last) && decide (N < 512))) := by
    show _ = _
    rw [← hr]
    unfold endsB
    rw [decide_eq_true (by omega : 0 < l.length), show l.length - 1 = j by omega, hN, Bool.true_and]
  clear h hcap hc hp hr hm hl hpj hN hj h0
  by_cases h5 : n < 512
  · have g1 : decide ((n : Int) < 512) = true := decide_eq_true (by omega)
    have g1' : (n : Int) < 512 := by omega
    cases last with
    | false =>
      have HF : Hid (r = false) := by show _ = _; rw [HR.out]; simp; omega
      clear h5 hn
      go_enter Try.func86, Try.ntmps86
      go_wp2
      go_ret
      exact ⟨by rw [HF.out]; rfl, Below.refl _ _⟩
    | true =>
      have HF : Hid (decide ((N : Int) < 512) = r) := by show _ = _; rw [HR.out]; simp; omega
      clear h5 hn
      go_enter Try.func86, Try.ntmps86
      go_wp2_with fail
      refine HMK.mono ?_
      rintro e w1 ⟨v1, rfl, ho1, hb1⟩
      obtain ⟨p1, c1, rfl, _, _, _⟩ := own_form ho1
      have HB : Hid (Below w.heap.size w w1) := hb1
      clear ho1 hb1 HMK
      go_wp2
      go_ret
      exact ⟨by rw [← HF.out]; rfl, HB.out⟩
  · have g1 : decide ((n : Int) < 512) = false := decide_eq_false (by omega)
    have g1' : (512 : Int) ≤ (n : Int) := by omega
    have HF : Hid (decide ((N : Int) < 512) = r) := by show _ = _; rw [HR.out, decide_eq_true (by omega : 512 ≤ n)]; simp; omega
    clear h5 hn
    go_enter Try.func86, Try.ntmps86
    go_wp2_with fail
    refine HMK.mono ?_
    rintro e w1 ⟨v1, rfl, ho1, hb1⟩
    obtain ⟨p1, c1, rfl, _, _, _⟩ := own_form ho1
    have HB : Hid (Below w.heap.size w w1) := hb1
    clear ho1 hb1 HMK
    go_wp2
    go_ret
    exact ⟨by rw [← HF.out]; rfl, HB.out⟩
end Go.Proofs.Ytlcbjmbphekliaa
