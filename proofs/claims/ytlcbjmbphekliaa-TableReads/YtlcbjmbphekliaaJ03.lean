/-
  Contract of Cut.
-/
import Derived.Test.YtlcbjmbphekliaaJ02
import Derived.Deep.RegionHeld3
import Derived.Deep.RegionLaw
namespace Go.Proofs.Ytlcbjmbphekliaa
open Go.RowKit Go.WideShapes

theorem nums_extract (r : ByteArray) (a b : Nat) : numsOf (r.extract a b) = ((numsOf r).drop a).take (b - a) := by
  unfold numsOf
  rw [ByteArray.data_extract, Array.toList_extract, List.extract_eq_take_drop, List.map_take, List.map_drop]
theorem text_drop (k : ByteArray) (n : Nat) : textN (k.extract n k.size) = smallN ((numsOf k).length - n) ++ (numsOf k).drop n := by
  unfold textN
  rw [nums_extract, List.take_of_length_le (by rw [List.length_drop, numsOf_len]; omega), ByteArray.size_extract, numsOf_len, Nat.min_self]
theorem St.box0 {w : World} {bx : List Box} {wc : World} {v : Value} {xs : List Nat} {B : Nat} {C : Array Value} {t : TypeId} (h : St w ((B, C, t) :: bx) wc v xs) (i : Nat) : wc.cell? ⟨B, i, none⟩ = C[i]? := h.cell (t := t) (by simp) i
theorem ent_join (a : List Nat) (k v : ByteArray) (s : Int) (xs : List Nat) (g : Bool) (tl : List Nat) (ht : tailN ⟨k, v, s, g⟩ = tl) : xs ++ smallN (sharedN a (numsOf k)) ++ textN (k.extract (sharedN a (numsOf k)) k.size) ++ smallN s.toNat ++ tl = xs ++ entN a ⟨k, v, s, g⟩ := by
  rw [text_drop, ← ht]
  unfold entN keyN
  simp only [List.append_assoc]
theorem textN_lt (s : ByteArray) : ∀ c ∈ textN s, c < 256 := by
  intro c hc
  rcases List.mem_append.1 hc with h | h
  · exact smallN_bytes _ c h
  · exact numsOf_lt _ c h
theorem smallN_five (n : Nat) (h : n < 34359738368) : (smallN n).length ≤ 5 := smallN_len 4 n (by omega)
theorem textN_len (s : ByteArray) (h : s.size ≤ 100000) : (textN s).length ≤ s.size + 5 := by
  unfold textN
  have := smallN_five s.size (by omega)
  rw [List.length_append, numsOf_len]; omega
set_option maxRecDepth 8000 in
set_option maxHeartbeats 4000000 in
theorem appendEntry_any (w0 : World) (bx : List Box) (w : World) (v : Value) (xs : List Nat) (a : ByteArray) (x : EntV) (hst : St w0 bx w v xs) (hx : OkE x) (ha : a.size ≤ 256) (hl : xs.length ≤ 1000000) (ys : List Nat) (hy : xs ++ entN (numsOf a) x = ys) :
    Calls Try.prog 92 #[v, .string a, entV x] w fun e w' => ∃ v', e = .returned v' ∧ St w0 bx w' v' ys := by
  obtain ⟨k, vl, s, g⟩ := x
  rw [entV_def]
  obtain ⟨hk1, hk2, hv, hs1, hs2, hg⟩ := hx
  simp only at hk1 hk2 hv hs1 hs2 hg
  obtain ⟨n, hn⟩ : ∃ n, sharedN (numsOf a) (numsOf k) = n := ⟨_, rfl⟩
  have hnk : n ≤ k.size := by have := (sharedN_le (numsOf a) (numsOf k)).2; rw [numsOf_len] at this; omega
  have HJ : Hid (∀ tl, tailN ⟨k, vl, s, g⟩ = tl → xs ++ smallN n ++ textN (k.extract n k.size) ++ smallN s.toNat ++ tl = ys) := by
    intro tl ht
    have := ent_join (numsOf a) k vl s xs g tl ht
    rw [hn, hy] at this
    exact this
  have HX : Hid (xs.length ≤ 1000000 ∧ n ≤ 256 ∧ k.size ≤ 256 ∧ (smallN n).length ≤ 5 ∧ (textN (k.extract n k.size)).length ≤ 300 ∧ (smallN s.toNat).length ≤ 5) := by
    have h1 := textN_len (k.extract n k.size) (by rw [ByteArray.size_extract]; omega)
    rw [ByteArray.size_extract] at h1
    exact ⟨hl, by omega, hk2, smallN_five n (by omega), by omega, smallN_five _ (by omega)⟩
  have HSH := fun w' => shared_any a k w' (by omega) n hn
  have q1 : (n : Int) ≤ (k.size : Int) := by omega
  have q2 : (k.size : Int) ≤ 256 := by omega
  have hs3 : 0 ≤ s ∧ s ≤ 9223372036854775807 := by omega
  have HV : Hid (vl.size ≤ 100000 ∧ (textN vl).length ≤ 5000) := ⟨by omega, by have := textN_len vl (by omega); omega⟩
  have HBY : Hid (∀ l ∈ [smallN n, textN (k.extract n k.size), smallN s.toNat, textN vl], ∀ c ∈ l, c < 256) := by
    intro l hl c hc
    simp only [List.mem_cons, List.not_mem_nil, or_false] at hl
    rcases hl with rfl | rfl | rfl | rfl
    · exact smallN_bytes _ c hc
    · exact textN_lt _ c hc
    · exact smallN_bytes _ c hc
    · exact textN_lt _ c hc
  have HKX : Hid ((k.extract n k.size).size ≤ 100000) := by show _ ≤ _; rw [ByteArray.size_extract]; omega
  have HST : Hid (St w0 bx w v xs) := hst
  clear hst hn hnk hy hl hg hk1 hk2 hv hs1 hs2 ha
  go_enter Try.func92, Try.ntmps92
  go_wp2_with fail
  refine (HSH _).mono ?_
  rintro e w1 ⟨rfl, hb1⟩
  have H1 : Hid (St w0 ((w.heap.size, #[.string k, .string vl, .int .i64 s, .bool g], 29) :: bx) w1 v xs) := (HST.out.alloc _ _ (by decide)).call hb1
  clear hb1 HSH HST
  go_wp2_with fail
  refine (small_i (n : Int) _ (by omega)).mono ?_
  rintro e w2 ⟨v2, rfl, ho2, hb2⟩
  rw [Int.toNat_natCast] at ho2
  obtain ⟨p2, c2, rfl, _, _, hp2⟩ := own_form ho2
  have H2 : Hid (St w0 ((w.heap.size, #[.string k, .string vl, .int .i64 s, .bool g], 29) :: bx) w2 v (xs)) := H1.out.call hb2
  have HI2 : Hid (BIn w2 p2 (smallN n)) := own_in ho2 (HBY.out _ (by simp))
  have hz2 := H2.out.size
  clear ho2 hb2 H1
  go_wp2_with (at_builtin; go_loud (refine wpList_append_bytes _ rfl _ _ rfl w0.heap.size _ _ (smallN n) p2 _ c2 rfl rfl rfl H2.out.own HI2.out hp2 (by (try simp only [List.length_append]); have := HX.out; omega) hz2 ?_); intro v3 w3 ho3 hg3; have t3 := H2.out.app ho3 hg3; have H3 : Hid _ := t3; have bx0 := t3.box0 0; have bx1 := t3.box0 1; have bx2 := t3.box0 2; have bx3 := t3.box0 3; clear t3 ho3 hg3 H2 HI2)
  go_wp2_with fail
  refine (text_any (k.extract n k.size) _ HKX.out).mono ?_
  rintro e w4 ⟨v4, rfl, ho4, hb4⟩
  clear bx0 bx1 bx2 bx3
  obtain ⟨p4, c4, rfl, _, _, hp4⟩ := own_form ho4
  have H4 : Hid (St w0 ((w.heap.size, #[.string k, .string vl, .int .i64 s, .bool g], 29) :: bx) w4 v3 (xs ++ smallN n)) := H3.out.call hb4
  have HI4 : Hid (BIn w4 p4 (textN (k.extract n k.size))) := own_in ho4 (HBY.out _ (by simp))
  have hz4 := H4.out.size
  clear ho4 hb4 H3
  go_wp2_with (at_builtin; go_loud (refine wpList_append_bytes _ rfl _ _ rfl w0.heap.size _ _ (textN (k.extract n k.size)) p4 _ c4 rfl rfl rfl H4.out.own HI4.out hp4 (by (try simp only [List.length_append]); have := HX.out; omega) hz4 ?_); intro v5 w5 ho5 hg5; have t5 := H4.out.app ho5 hg5; have H5 : Hid _ := t5; have bx0 := t5.box0 0; have bx1 := t5.box0 1; have bx2 := t5.box0 2; have bx3 := t5.box0 3; clear t5 ho5 hg5 H4 HI4)
  go_wp2_with fail
  refine (small_i s _ hs3).mono ?_
  rintro e w6 ⟨v6, rfl, ho6, hb6⟩
  clear bx0 bx1 bx2 bx3
  obtain ⟨p6, c6, rfl, _, _, hp6⟩ := own_form ho6
  have H6 : Hid (St w0 ((w.heap.size, #[.string k, .string vl, .int .i64 s, .bool g], 29) :: bx) w6 v5 (xs ++ smallN n ++ textN (k.extract n k.size))) := H5.out.call hb6
  have HI6 : Hid (BIn w6 p6 (smallN s.toNat)) := own_in ho6 (HBY.out _ (by simp))
  have hz6 := H6.out.size
  clear ho6 hb6 H5
  cases g with
  | true =>
    have HE : Hid (xs ++ smallN n ++ textN (k.extract n k.size) ++ smallN s.toNat ++ [1] = ys) := HJ.out [1] (by unfold tailN; rw [if_pos rfl, small1])
    go_wp2_with (first
      | (at_builtin; go_loud (refine wpList_append_bytes _ rfl _ _ rfl w0.heap.size _ _ (smallN s.toNat) p6 _ c6 rfl rfl rfl H6.out.own HI6.out hp6 (by (try simp only [List.length_append]); have := HX.out; omega) hz6 ?_); intro v7 w7 ho7 hg7; have t7 := H6.out.app ho7 hg7; have H7 : Hid _ := t7; have bx0 := t7.box0 0; have bx1 := t7.box0 1; have bx2 := t7.box0 2; have bx3 := t7.box0 3; clear t7 ho7 hg7 H6 HI6; have S8 := H7.out.call (below_alloc w7 (.cells #[.int .u8 1] 5)); have HI8 : Hid (BIn (w7.alloc (.cells #[.int .u8 1] 5)) (some ⟨w7.heap.size, 0, none⟩) [1]) := bin_lit w7 _ _ 5 (0, 0) _ rfl (by simp [Bs]) (by intro c hc; simp at hc; omega); have H8 : Hid _ := S8; have hz8 := S8.size; clear S8)
      | (at_builtin; go_loud (refine wpList_append_bytes _ rfl _ _ rfl w0.heap.size _ _ [1] (some ⟨w7.heap.size, 0, none⟩) _ 1 rfl rfl rfl H8.out.own HI8.out (fun h => by cases h) (by simp only [List.length_append, List.length_cons, List.length_nil]; have := HX.out; omega) hz8 ?_); intro v9 w9 ho9 hg9; have t9 := H8.out.app ho9 hg9; have H9 : Hid _ := t9; clear t9 ho9 hg9))
    go_ret
    exact ⟨v9, rfl, (H9.out.eq HE.out).drop⟩
  | false =>
    have HE : Hid (xs ++ smallN n ++ textN (k.extract n k.size) ++ smallN s.toNat ++ [0] ++ textN vl = ys) := by
      have := HJ.out ([0] ++ textN vl) (by unfold tailN textN; rw [if_neg (by simp), small0])
      rw [← List.append_assoc] at this
      exact this
    go_wp2_with (first
      | (at_builtin; go_loud (refine wpList_append_bytes _ rfl _ _ rfl w0.heap.size _ _ (smallN s.toNat) p6 _ c6 rfl rfl rfl H6.out.own HI6.out hp6 (by (try simp only [List.length_append]); have := HX.out; omega) hz6 ?_); intro v7 w7 ho7 hg7; have t7 := H6.out.app ho7 hg7; have H7 : Hid _ := t7; have bx0 := t7.box0 0; have bx1 := t7.box0 1; have bx2 := t7.box0 2; have bx3 := t7.box0 3; clear t7 ho7 hg7 H6 HI6; have S8 := H7.out.call (below_alloc w7 (.cells #[.int .u8 0] 5)); have HI8 : Hid (BIn (w7.alloc (.cells #[.int .u8 0] 5)) (some ⟨w7.heap.size, 0, none⟩) [0]) := bin_lit w7 _ _ 5 (0, 0) _ rfl (by simp [Bs]) (by intro c hc; simp at hc; omega); have H8 : Hid _ := S8; have hz8 := S8.size; clear S8)
      | (at_builtin; go_loud (refine wpList_append_bytes _ rfl _ _ rfl w0.heap.size _ _ [0] (some ⟨w7.heap.size, 0, none⟩) _ 1 rfl rfl rfl H8.out.own HI8.out (fun h => by cases h) (by simp only [List.length_append, List.length_cons, List.length_nil]; have := HX.out; omega) hz8 ?_); intro v9 w9 ho9 hg9; have t9 := H8.out.app ho9 hg9; have H9 : Hid _ := t9; clear bx0 bx1 bx2 bx3; have bx1 := t9.box0 1; clear t9 ho9 hg9))
    go_wp2_with fail
    refine (text_any vl _ HV.out.1).mono ?_
    rintro e w10 ⟨v10, rfl, ho10, hb10⟩
    obtain ⟨p10, c10, rfl, _, _, hp10⟩ := own_form ho10
    have H10 : Hid (St w0 ((w.heap.size, #[.string k, .string vl, .int .i64 s, .bool false], 29) :: bx) w10 v9 (xs ++ smallN n ++ textN (k.extract n k.size) ++ smallN s.toNat ++ [0])) := H9.out.call hb10
    have HI10 : Hid (BIn w10 p10 (textN vl)) := own_in ho10 (HBY.out _ (by simp))
    have hz10 := H10.out.size
    clear ho10 hb10 H9 H8
    go_wp2_with (at_builtin; go_loud (refine wpList_append_bytes _ rfl _ _ rfl w0.heap.size _ _ (textN vl) p10 _ c10 rfl rfl rfl H10.out.own HI10.out hp10 (by simp only [List.length_append, List.length_cons, List.length_nil]; have := HX.out; have := HV.out; omega) hz10 ?_); intro v11 w11 ho11 hg11; have t11 := H10.out.app ho11 hg11; have H11 : Hid _ := t11; clear t11 ho11 hg11)
    go_ret
    exact ⟨v11, rfl, (H11.out.eq HE.out).drop⟩
end Go.Proofs.Ytlcbjmbphekliaa
namespace Go.Proofs.Ytlcbjmbphekliaa
open Go.RowKit Go.WideShapes

def prevE (l : List EntV) (k : Nat) : Option EntV := if k = 0 then none else some (l.getD (k - 1) zeroE)
theorem dropE {l : List EntV} {k : Nat} (h : k < l.length) : l.drop k = l.getD k zeroE :: l.drop (k + 1) := by
  rw [List.getD_eq_getElem?_getD, List.getElem?_eq_getElem h]; exact List.drop_eq_getElem_cons h
theorem checkF_one {l : List EntV} {k : Nat} (h : k < l.length) {y : EntV} (hy : l.getD k zeroE = y) (h1 : oneE y ≠ 0) : checkF (prevE l k) (l.drop k) = oneE y := by
  rw [dropE h, hy]
  cases hp : prevE l k <;> (unfold checkF; rw [if_pos h1])
theorem checkF_zero {l : List EntV} (h : 0 < l.length) {y : EntV} (hy : l.getD 0 zeroE = y) (h1 : oneE y = 0) : checkF (prevE l 0) (l.drop 0) = checkF (prevE l 1) (l.drop 1) := by
  rw [dropE h, hy]
  have e0 : prevE l 0 = none := rfl
  have e1 : prevE l 1 = some y := by unfold prevE; rw [if_neg (by omega)]; rw [show 1 - 1 = 0 from rfl, hy]
  rw [e0, e1]
  conv => lhs; unfold checkF
  rw [if_neg (by simp [h1])]
theorem checkF_next {l : List EntV} {k : Nat} (h : k + 1 < l.length) {x y : EntV} (hx : l.getD k zeroE = x) (hy : l.getD (k + 1) zeroE = y) (h1 : oneE y = 0) : checkF (prevE l (k + 1)) (l.drop (k + 1)) = if lessE x y = true then checkF (prevE l (k + 2)) (l.drop (k + 2)) else 100 := by
  rw [dropE h, hy]
  have e0 : prevE l (k + 1) = some x := by unfold prevE; rw [if_neg (by omega), show k + 1 - 1 = k from by omega, hx]
  have e1 : prevE l (k + 2) = some y := by unfold prevE; rw [if_neg (by omega), show k + 2 - 1 = k + 1 from by omega, hy]
  rw [e0, e1]
  conv => lhs; unfold checkF
  rw [if_neg (by simp [h1])]
theorem checkF_end (l : List EntV) (k : Nat) (h : l.length ≤ k) : checkF (prevE l k) (l.drop k) = 0 := by
  rw [List.drop_eq_nil_of_le h]
  cases prevE l k <;> rfl
theorem box4c (w : World) (a b c d : Value) (t : TypeId) : (w.alloc (.cells #[a, b, c, d] t)).cell? ⟨w.heap.size, 0, none⟩ = some a ∧ (w.alloc (.cells #[a, b, c, d] t)).cell? ⟨w.heap.size, 1, none⟩ = some b ∧ (w.alloc (.cells #[a, b, c, d] t)).cell? ⟨w.heap.size, 2, none⟩ = some c ∧ (w.alloc (.cells #[a, b, c, d] t)).cell? ⟨w.heap.size, 3, none⟩ = some d := by
  have h := heap_alloc_new w (.cells #[a, b, c, d] t)
  exact ⟨Lib.cell_of_heap h 0, Lib.cell_of_heap h 1, Lib.cell_of_heap h 2, Lib.cell_of_heap h 3⟩
theorem below_dw {a c : World} (h : Below a.drew.heap.size a.drew c) : Below a.heap.size a c := ⟨h.os, h.tape, h.output, h.size, h.block⟩
/-- Four cells side by side. -/
abbrev C4 (w : World) (g o : Nat) (a b c d : Value) : Prop := w.cell? ⟨g, o, none⟩ = some a ∧ w.cell? ⟨g, o + 1, none⟩ = some b ∧ w.cell? ⟨g, o + 2, none⟩ = some c ∧ w.cell? ⟨g, o + 3, none⟩ = some d
theorem c4_below {w w' : World} {g o : Nat} {a b c d : Value} (h : C4 w g o a b c d) (hb : Below w.heap.size w w') : C4 w' g o a b c d := by
  obtain ⟨a0, a1, a2, a3⟩ := h
  exact ⟨(hb.cell (World.block_lt_of_cell? _ _ a0)).trans a0, (hb.cell (World.block_lt_of_cell? _ _ a1)).trans a1, (hb.cell (World.block_lt_of_cell? _ _ a2)).trans a2, (hb.cell (World.block_lt_of_cell? _ _ a3)).trans a3⟩
set_option maxRecDepth 8000 in
set_option maxHeartbeats 4000000 in
theorem Check_any (q : Option Addr) (n c : Nat) (l : List EntV) (w : World) (h : EntsL w q n l) (C : Nat) (hC : checkE l = C) :
    Calls Try.prog 28 #[.slice q n c] w fun e w' => e = .returned (.int .i64 (C : Int)) ∧ Below w.heap.size w w' := by
  unfold checkE at hC
  have HN : Hid (n = l.length) := h.n
  by_cases hl : 4096 < l.length
  · rw [if_pos hl] at hC
    subst hC
    have g1 : (4096 : Int) < (n : Int) := by have := h.n; omega
    clear hl h
    go_enter Try.func28, Try.ntmps28
    go_wp2
    go_ret
    exact ⟨rfl, Below.refl _ _⟩
  rw [if_neg hl] at hC
  have g1 : (n : Int) ≤ 4096 := by have := h.n; omega
  have HQ : Hid (EntsIn w q l) := h.lies
  have HC : Hid (checkF (prevE l 0) (l.drop 0) = C) := hC
  clear hC h hl
  go_enter Try.func28, Try.ntmps28
  go_wp2
  go_loopw [11] (fun i wr => ∃ k : Nat, k ≤ n ∧ i = .int .i64 k ∧ checkF (prevE l k) (l.drop k) = C ∧ Below w.heap.size w wr) (fun i _ => n - (intOf i).toNat)
  case atStart => exact ⟨0, by omega, rfl, HC.out, Below.refl _ _⟩
  case round =>
    obtain ⟨k, hk, rfl, hs, hbel⟩ := hrel
    have HK : Hid (checkF (prevE l k) (l.drop k) = C) := hs
    have HB : Hid (Below w.heap.size w wr) := hbel
    clear hs hbel
    by_cases hkl : k < n
    · have hkl' : k < l.length := by have := HN.out; omega
      obtain ⟨b, o, rfl⟩ := HQ.out.addr (by omega)
      have HQ2 := (HQ.out.below HB.out)
      obtain ⟨e0, e1, e2, e3⟩ := HQ2.at hkl'
      obtain ⟨y, hy⟩ : ∃ y, l.getD k zeroE = y := ⟨_, rfl⟩
      rw [hy] at e0 e1 e2 e3
      have HY : Hid (l.getD k zeroE = y) := hy
      obtain ⟨ke, ve, se, ge⟩ := y
      simp only at e0 e1 e2 e3
      obtain ⟨E, hE⟩ : ∃ E, oneE ⟨ke, ve, se, ge⟩ = E := ⟨_, rfl⟩
      have HE : Hid (oneE ⟨ke, ve, se, ge⟩ = E) := hE
      have HCE := fun w' => checkEntry_any ⟨ke, ve, se, ge⟩ w' E hE
      rw [entV_def] at HCE
      have BX := box4c wr (.string ke) (.string ve) (.int .i64 se) (.bool ge) 29
      have HBX : Hid (C4 (wr.alloc (.cells #[.string ke, .string ve, .int .i64 se, .bool ge] 29)) wr.heap.size 0 (.string ke) (.string ve) (.int .i64 se) (.bool ge)) := BX
      have hkn : (k : Int) < (n : Int) := by omega
      have HKL : Hid (k < l.length) := hkl'
      clear hE hy BX hkl'
      rcases Nat.eq_zero_or_pos E with hE0 | hE0
      · subst hE0
        rcases k with _ | k
        · have H2 : Hid (checkF (prevE l 1) (l.drop 1) = C) := by show _ = _; rw [← checkF_zero HKL.out HY.out HE.out]; exact HK.out
          clear HQ2
          simp only [Nat.zero_mul, Nat.add_zero] at e0 e1 e2 e3
          go_wp2_with fail
          refine (HCE _).mono ?_
          rintro e w2 ⟨rfl, hb2⟩
          obtain ⟨d0, d1, d2, d3⟩ := c4_below HBX.out hb2
          have HB2 : Hid (Below w.heap.size w w2) := below_bt (below_bt HB.out (below_alloc _ _)) hb2
          clear hb2 HCE HBX
          go_wp2
          go_quiet (fail)
          go_wp2
          go_roundw
          case rel => exact ⟨1, by omega, by go_num, H2.out, below_drewN HB2.out _⟩
          case measure => simp [intOf]; omega
        · obtain ⟨x, hx⟩ : ∃ x, l.getD k zeroE = x := ⟨_, rfl⟩
          obtain ⟨kx, vx, sx, gx⟩ := x
          have h4 := HQ2.at (k := k) (by have := HKL.out; omega)
          rw [hx] at h4
          have HP : Hid (C4 wr b (o + k * 4) (.string kx) (.string vx) (.int .i64 sx) (.bool gx)) := h4
          have HNX := checkF_next HKL.out hx HY.out HE.out
          obtain ⟨r, hr⟩ : ∃ r, lessE ⟨kx, vx, sx, gx⟩ ⟨ke, ve, se, ge⟩ = r := ⟨_, rfl⟩
          have HLE := fun w' => less_any ⟨kx, vx, sx, gx⟩ ⟨ke, ve, se, ge⟩ w'
          rw [hr, entV_def, entV_def] at HLE
          rw [hr, HK.out] at HNX
          have HNX' : Hid (C = if r = true then checkF (prevE l (k + 2)) (l.drop (k + 2)) else 100) := HNX
          clear hx hr HQ2 h4 HNX
          go_wp2_with fail
          refine (HCE _).mono ?_
          rintro e w2 ⟨rfl, hb2⟩
          have HD : Hid (C4 w2 wr.heap.size 0 (.string ke) (.string ve) (.int .i64 se) (.bool ge)) := c4_below HBX.out hb2
          have HP2 : Hid (C4 w2 b (o + k * 4) (.string kx) (.string vx) (.int .i64 sx) (.bool gx)) := c4_below HP.out (below_bt (below_alloc _ _) hb2)
          have HB2 : Hid (Below w.heap.size w w2) := below_bt (below_bt HB.out (below_alloc _ _)) hb2
          clear hb2 HCE HBX HP
          generalize wr.heap.size = g at *
          have kw0 : IntKind.i64.wrap (k : Int) = (k : Int) := by rw [IntKind.wrap_i64]; omega
          have kw1 : IntKind.i64.wrap ((k : Int) + 1 - 1) = (k : Int) := by rw [IntKind.wrap_i64]; omega
          have kw2 : IntKind.i64.wrap (((k + 1 : Nat) : Int) - 1) = (k : Int) := by rw [IntKind.wrap_i64]; omega
          have kb0 : (0 : Int) ≤ (k : Int) := by omega
          have kb1 : (k : Int) < (n : Int) := by omega
          go_wp2
          go_region_held3 (fun w' => (w'.cell? ⟨g, 0, none⟩ = some (.string ke) ∧ w'.cell? ⟨g, 0 + 1, none⟩ = some (.string ve) ∧ w'.cell? ⟨g, 0 + 2, none⟩ = some (.int .i64 se) ∧ w'.cell? ⟨g, 0 + 3, none⟩ = some (.bool ge)) ∧ (w'.cell? ⟨b, o + k * 4, none⟩ = some (.string kx) ∧ w'.cell? ⟨b, o + k * 4 + 1, none⟩ = some (.string vx) ∧ w'.cell? ⟨b, o + k * 4 + 2, none⟩ = some (.int .i64 sx) ∧ w'.cell? ⟨b, o + k * 4 + 3, none⟩ = some (.bool gx)) ∧ Below w2.heap.size w2 w')
            (with_reducible first | exact ⟨HD.out, HP2.out, Below.refl _ _⟩ | exact ⟨c4_below HD.out (Below.refl _ _).drew, c4_below HP2.out (Below.refl _ _).drew, (Below.refl _ _).drew⟩ | exact ⟨c4_below HD.out (below_dw (by assumption)), c4_below HP2.out (below_dw (by assumption)), below_dw (by assumption)⟩ | assumption)
            (first
              | (go_at_call 51; refine (HLE _).mono ?_; rintro e w3 ⟨rfl, hb3⟩)
              | fail)
          rename_i hh
          have HB3 : Hid (Below w.heap.size w w3) := below_bt HB2.out hh.2.2
          clear hh
          cases r with
          | true =>
            have H2 : Hid (checkF (prevE l (k + 2)) (l.drop (k + 2)) = C) := by have := HNX'.out; rw [if_pos rfl] at this; exact this.symm
            go_wp2
            go_roundw
            case rel => exact ⟨k + 2, by omega, by go_num, H2.out, HB3.out⟩
            case measure => simp [intOf]; omega
          | false =>
            have H2 : Hid (C = 100) := by have := HNX'.out; rw [if_neg (by simp)] at this; exact this
            go_wp2
            go_ret
            exact ⟨by rw [H2.out]; rfl, HB3.out⟩
      · have hne : ((E : Int) != 0) = true := by simp; omega
        have H2 : Hid (E = C) := by show _ = _; rw [← HK.out, checkF_one HKL.out HY.out (by rw [HE.out]; omega), HE.out]
        clear HQ2 hE0
        go_wp2_with fail
        refine (HCE _).mono ?_
        rintro e w2 ⟨rfl, hb2⟩
        have HB2 : Hid (Below w.heap.size w w2) := below_bt (below_bt HB.out (below_alloc _ _)) hb2
        clear hb2 HCE HBX
        go_wp2
        go_ret
        exact ⟨by rw [← H2.out]; rfl, HB2.out⟩
    · have g2 : (n : Int) ≤ (k : Int) := by omega
      have H2 : Hid (C = 0) := by show _ = _; rw [← HK.out]; exact checkF_end l k (by have := HN.out; omega)
      go_wp2
      go_ret
      exact ⟨by rw [H2.out]; rfl, HB.out⟩
end Go.Proofs.Ytlcbjmbphekliaa
namespace Go.Proofs.Ytlcbjmbphekliaa
open Go.RowKit Go.WideShapes

def lastK : List Nat → List EntV → List Nat
  | a, [] => a
  | _, x :: l => lastK (numsOf x.key) l
theorem entsN_app : ∀ (l m : List EntV) (a : List Nat), entsN a (l ++ m) = entsN a l ++ entsN (lastK a l) m
  | [], m, a => rfl
  | x :: l, m, a => by simp only [List.cons_append, entsN, lastK, entsN_app l m, List.append_assoc]
theorem lastK_snoc : ∀ (l : List EntV) (x : EntV) (a : List Nat), lastK a (l ++ [x]) = numsOf x.key
  | [], x, a => rfl
  | y :: l, x, a => by simp only [List.cons_append, lastK, lastK_snoc l x]
theorem take_snoc {l : List EntV} {k : Nat} (h : k < l.length) {y : EntV} (hy : l.getD k zeroE = y) : l.take (k + 1) = l.take k ++ [y] := by
  rw [List.take_add_one, List.getElem?_eq_getElem h, ← hy, List.getD_eq_getElem?_getD, List.getElem?_eq_getElem h]; rfl
/-- What Make has written ahead of the entry k. -/
def wayN (l : List EntV) (k : Nat) : List Nat := smallN l.length ++ entsN [] (l.take k)
theorem wayN_next {l : List EntV} {k : Nat} (h : k < l.length) {y : EntV} (hy : l.getD k zeroE = y) {a : ByteArray} (ha : numsOf a = lastK [] (l.take k)) : wayN l k ++ entN (numsOf a) y = wayN l (k + 1) ∧ numsOf y.key = lastK [] (l.take (k + 1)) := by
  unfold wayN
  rw [take_snoc h hy, entsN_app, lastK_snoc, ← ha]
  simp [entsN]
theorem wayN_len (l : List EntV) (k : Nat) : (wayN l k).length ≤ (bodyN l).length := by
  unfold wayN bodyN
  have : entsN [] l = entsN [] (l.take k) ++ entsN (lastK [] (l.take k)) (l.drop k) := by rw [← entsN_app, List.take_append_drop]
  rw [this]
  simp only [List.length_append]
  omega
theorem wayN_all {l : List EntV} {k : Nat} (h : l.length ≤ k) : wayN l k = bodyN l := by unfold wayN bodyN; rw [List.take_of_length_le h]
theorem page_len (l : List EntV) : (pageN l).length = (bodyN l).length + 4 := by unfold pageN; rw [List.length_append, sum4_len]
theorem own_mono {w : World} {B B' e size n : Nat} {v : Value} {xs : List Value} (h : w.ownsRow B' e size v n xs) (hB : B ≤ B') : w.ownsRow B e size v n xs := by
  rcases h with ⟨h1, h2⟩
  refine ⟨h1, ?_⟩
  rcases h2 with h | ⟨g, cap, cur, hv, hb, hr⟩
  · exact .inl h
  · exact .inr ⟨g, cap, cur, hv, Nat.le_trans hB hb, hr⟩
theorem entN_len (a : List Nat) {x : EntV} (h : OkE x) : (entN a x).length ≤ 5000 := by
  have h1 := (sharedN_le a (numsOf x.key)).2
  rw [numsOf_len] at h1
  have := h.key2; have := h.val; have := h.seq1; have := h.seq2
  have s1 := smallN_five (sharedN a (numsOf x.key)) (by omega)
  have s2 := smallN_five (x.key.size - sharedN a (numsOf x.key)) (by omega)
  have s3 := smallN_five x.seq.toNat (by omega)
  have s4 := smallN_five x.val.size (by omega)
  unfold entN keyN tailN
  rw [small1, small0]
  simp only [List.length_append, List.length_drop, numsOf_len]
  split
  · simp only [List.length_cons, List.length_nil]; omega
  · simp only [List.length_append, List.length_cons, List.length_nil, numsOf_len]; omega
theorem makeE_long {l : List EntV} (h : checkE l = 0) {k : Nat} (hk : 65532 < (wayN l k).length) : makeE l = ([], 7) := by
  unfold makeE
  have := wayN_len l k
  rw [if_pos h, if_pos (by rw [page_len]; omega)]
theorem makeE_all {l : List EntV} (h : checkE l = 0) (hk : (bodyN l).length ≤ 65532) : makeE l = (pageN l, 0) := by
  unfold makeE
  rw [if_pos h, if_neg (by rw [page_len]; omega)]
theorem makeE_no {l : List EntV} (h : checkE l ≠ 0) : makeE l = ([], checkE l) := by
  unfold makeE
  rw [if_neg h]
set_option maxRecDepth 8000 in
set_option maxHeartbeats 1000000 in
theorem Make_any (q : Option Addr) (n c : Nat) (l : List EntV) (w : World) (h : EntsL w q n l) (ys : List Nat) (E : Nat) (hR : makeE l = (ys, E)) :
    Calls Try.prog 76 #[.slice q n c] w fun e w' => ∃ v, e = .returned (.tuple #[v, .int .i64 (E : Int)]) ∧ w'.ownsRow w.heap.size 5 1 v ys.length (Bs ys) ∧ Below w.heap.size w w' := by
  have HN : Hid (n = l.length) := h.n
  obtain ⟨C, hC⟩ : ∃ C, checkE l = C := ⟨_, rfl⟩
  have HCK := Check_any q n c l w h C hC
  have HR : Hid (makeE l = (ys, E)) := hR
  have HQ : Hid (EntsL w q n l) := h
  have HC : Hid (checkE l = C) := hC
  clear h hR hC
  go_enter Try.func76, Try.ntmps76
  go_wp2_with fail
  refine HCK.mono ?_
  rintro e w1 ⟨rfl, hb1⟩
  have HB1 : Hid (Below w.heap.size w w1) := hb1
  clear hb1 HCK
  rcases Nat.eq_zero_or_pos C with h0 | h0
  · subst h0
    have HO := checkE_ok HC.out
    have hn4 : (n : Int) ≤ 4096 := by have := HN.out; have := HO.1; omega
    have HOK : Hid (∀ x ∈ l, OkE x) := HO.2
    clear HO
    go_wp2_with fail
    refine (small_i (n : Int) _ (by omega)).mono ?_
    rintro e w2 ⟨v2, rfl, ho2, hb2⟩
    rw [Int.toNat_natCast] at ho2
    have HS2 : Hid (St w [] w2 v2 (smallN n)) := ⟨own_mono ho2 HB1.out.size, below_bt HB1.out hb2, fun p hp => by simp at hp⟩
    clear ho2 hb2
    go_wp2
    go_loopw [5, 6, 19] (fun v a i wr => ∃ k : Nat, ∃ s : ByteArray, k ≤ n ∧ i = .int .i64 k ∧ a = .string s ∧ numsOf s = lastK [] (l.take k) ∧ s.size ≤ 256 ∧ (wayN l k).length ≤ 65532 ∧ St w [] wr v (wayN l k)) (fun _ _ i _ => n - (intOf i).toNat)
    case atStart =>
      have e : wayN l 0 = smallN n := by unfold wayN; rw [HN.out]; simp [entsN]
      refine ⟨0, ByteArray.empty, by omega, rfl, rfl, rfl, by decide, ?_, by rw [e]; exact HS2.out⟩
      rw [e]
      have := smallN_five n (by omega)
      omega
    case round =>
      obtain ⟨k, s, hk, rfl, rfl, hs, hsz, hlen, hst⟩ := hrel
      have HST : Hid (St w [] wr u5 (wayN l k)) := hst
      have HSS : Hid (numsOf s = lastK [] (l.take k) ∧ s.size ≤ 256 ∧ (wayN l k).length ≤ 65532) := ⟨hs, hsz, hlen⟩
      clear hst hs hsz hlen
      by_cases hkl : k < n
      · have hkl' : k < l.length := by have := HN.out; omega
        obtain ⟨b, o, rfl⟩ := HQ.out.lies.addr (by omega)
        obtain ⟨e0, e1, e2, e3⟩ := (HQ.out.lies.below HST.out.bel).at hkl'
        obtain ⟨y, hy⟩ : ∃ y, l.getD k zeroE = y := ⟨_, rfl⟩
        rw [hy] at e0 e1 e2 e3
        have HOY : Hid (OkE y) := HOK.out y (by rw [← hy]; exact getD_mem' hkl')
        obtain ⟨hw1, hw2⟩ := wayN_next hkl' hy HSS.out.1
        obtain ⟨zs, hzs⟩ : ∃ zs, wayN l (k + 1) = zs := ⟨_, rfl⟩
        rw [hzs] at hw1
        obtain ⟨ke, ve, se, ge⟩ := y
        simp only at e0 e1 e2 e3 hw2
        have HA := appendEntry_any w [(wr.heap.size, #[.string ke, .string ve, .int .i64 se, .bool ge], 29)] _ _ _ s ⟨ke, ve, se, ge⟩ (HST.out.alloc #[.string ke, .string ve, .int .i64 se, .bool ge] 29 (by decide)) HOY.out HSS.out.2.1 (by have := HSS.out; omega) zs hw1
        rw [entV_def] at HA
        have HW : Hid (numsOf ke = lastK [] (l.take (k + 1)) ∧ ke.size ≤ 256 ∧ wayN l (k + 1) = zs) := ⟨hw2, HOY.out.key2, hzs⟩
        have hkn : (k : Int) < (n : Int) := by omega
        have HZL : Hid (zs.length ≤ 100000) := by show _ ≤ _; rw [← hw1, List.length_append]; have := entN_len (numsOf s) HOY.out; have := HSS.out.2.2; omega
        clear hy hw1 hw2 hzs HST
        go_wp2_with fail
        refine HA.mono ?_
        rintro e w3 ⟨v3, rfl, hs3⟩
        obtain ⟨p3, c3, rfl, _, hc3, _⟩ := own_form hs3.own
        have HS3 : Hid _ := hs3
        have hz3 : IntKind.i64.wrap ((zs.length : Int) + 4) = (zs.length : Int) + 4 := by have := HZL.out; rw [IntKind.wrap_i64]; omega
        have d0 := hs3.box0 0
        clear hs3 HA
        by_cases hbig : 65532 < zs.length
        · have g5 : decide ((65536 : Int) < (zs.length : Int) + 4) = true := decide_eq_true (by omega)
          have HE : Hid (ys = [] ∧ E = 7) := by
            have := makeE_long HC.out (k := k + 1) (by rw [HW.out.2.2]; exact hbig)
            rw [HR.out] at this
            show _ ∧ _
            simpa using this
          clear hbig
          go_wp2
          go_ret2
          exact ⟨.slice none 0 0, by rw [HE.out.2]; rfl, by rw [HE.out.1]; exact World.ownsRow_nil _ _ _ _, HS3.out.bel⟩
        · have g5 : decide ((65536 : Int) < (zs.length : Int) + 4) = false := decide_eq_false (by omega)
          have HBG : Hid (zs.length ≤ 65532) := by show _ ≤ _; omega
          clear hbig
          go_wp2
          go_roundw
          case rel => exact ⟨k + 1, ke, by omega, by go_num, rfl, HW.out.1, HW.out.2.1, by rw [HW.out.2.2]; exact HBG.out, by rw [HW.out.2.2]; exact HS3.out.drop⟩
          case measure => simp [intOf]; omega
      · have g2 : (n : Int) ≤ (k : Int) := by omega
        have hwa := wayN_all (l := l) (k := k) (by have := HN.out; omega)
        have HE : Hid (ys = pageN l ∧ E = 0) := by
          have := makeE_all HC.out (by rw [← hwa]; exact HSS.out.2.2)
          rw [HR.out] at this
          show _ ∧ _
          simpa using this
        obtain ⟨bs, hbs⟩ : ∃ bs, bodyN l = bs := ⟨_, rfl⟩
        have HBS : Hid (bodyN l = bs) := hbs
        have HST2 : Hid (St w [] wr u5 bs) := by rw [← hbs, ← hwa]; exact HST.out
        have HLB : Hid (bs.length ≤ 65532 ∧ ∀ c ∈ bs, c < 256) := ⟨by rw [← hbs, ← hwa]; exact HSS.out.2.2, hbs ▸ bodyN_lt l⟩
        obtain ⟨p5, c5, rfl, _, _, _⟩ := own_form HST2.out.own
        have HSM := sum_page p5 bs.length c5 bs wr rfl (own_in HST2.out.own HLB.out.2) (by have := HLB.out.1; omega)
        clear hwa HST hbs
        go_wp2_with fail
        refine HSM.mono ?_
        rintro e w4 ⟨g4, rfl, hi4, hb4⟩
        have HS4 : Hid (St w [] w4 (.slice p5 bs.length c5) bs) := HST2.out.call hb4
        have HI4 : Hid (BIn w4 (some ⟨g4, 0, none⟩) (sum4 bs)) := hi4
        have hz4 := HS4.out.size
        clear hi4 hb4 HST2
        go_wp2_with (at_builtin; go_loud (refine wpList_append_bytes _ rfl _ _ rfl w.heap.size _ _ (sum4 bs) (some ⟨g4, 0, none⟩) _ 8 rfl rfl rfl HS4.out.own HI4.out (fun h => by cases h) (by rw [sum4_len]; have := HLB.out; omega) hz4 ?_); intro v6 w6 ho6 hg6; have t6 := HS4.out.app ho6 hg6; have H6 : Hid _ := t6; clear t6 ho6 hg6)
        go_ret2
        have hpg : bs ++ sum4 bs = ys := by rw [HE.out.1, ← HBS.out]; rfl
        exact ⟨v6, by rw [HE.out.2]; rfl, (H6.out.eq hpg).own, H6.out.bel⟩
  · have hne : ((C : Int) != 0) = true := by simp; omega
    have HE : Hid (ys = [] ∧ E = C) := by
      have := makeE_no (l := l) (by rw [HC.out]; omega)
      rw [HR.out, HC.out] at this
      show _ ∧ _
      simpa using this
    clear h0
    go_wp2
    go_ret2
    exact ⟨.slice none 0 0, by rw [HE.out.2]; rfl, by rw [HE.out.1]; exact World.ownsRow_nil _ _ _ _, HB1.out⟩
end Go.Proofs.Ytlcbjmbphekliaa
namespace Go.Proofs.Ytlcbjmbphekliaa
open Go.RowKit Go.WideShapes

theorem tb_irrefl : ∀ (a : List UInt8), Op.bytesLess a a = false
  | [] => rfl
  | x :: a => by
    unfold Op.bytesLess
    simp [UInt8.lt_irrefl x, tb_irrefl a]
theorem tb_trans : ∀ (a b c : List UInt8), Op.bytesLess a b = true → Op.bytesLess b c = true → Op.bytesLess a c = true
  | [], b, [], _, h2 => by cases b <;> simp [Op.bytesLess] at h2
  | [], _, _ :: _, _, _ => rfl
  | _ :: _, [], _, h1, _ => by simp [Op.bytesLess] at h1
  | _ :: _, _ :: _, [], _, h2 => by simp [Op.bytesLess] at h2
  | x :: a, y :: b, z :: c, h1, h2 => by
    unfold Op.bytesLess at h1 h2 ⊢
    simp only [Bool.or_eq_true, Bool.and_eq_true, decide_eq_true_eq, beq_iff_eq] at h1 h2 ⊢
    rcases h1 with h1 | ⟨h1, h1'⟩
    · rcases h2 with h2 | ⟨h2, _⟩
      · exact .inl (UInt8.lt_trans h1 h2)
      · subst h2; exact .inl h1
    · subst h1
      rcases h2 with h2 | ⟨h2, h2'⟩
      · exact .inl h2
      · exact .inr ⟨h2, tb_trans a b c h1' h2'⟩
theorem tb_tri : ∀ (a b : List UInt8), Op.bytesLess a b = false → Op.bytesLess b a = false → a = b
  | [], [], _, _ => rfl
  | [], _ :: _, h1, _ => by simp [Op.bytesLess] at h1
  | _ :: _, [], _, h2 => by simp [Op.bytesLess] at h2
  | x :: a, y :: b, h1, h2 => by
    unfold Op.bytesLess at h1 h2
    simp only [Bool.or_eq_false_iff, Bool.and_eq_false_iff, decide_eq_false_iff_not, beq_eq_false_iff_ne, ne_eq] at h1 h2
    have hxy : x = y := UInt8.le_antisymm (UInt8.not_lt.1 h2.1) (UInt8.not_lt.1 h1.1)
    subst hxy
    rw [tb_tri a b (by simpa using h1.2) (by simpa using h2.2)]
theorem tb_nil (a : List UInt8) : Op.bytesLess a [] = false := by cases a <;> rfl
/-- One text stands ahead of another one. -/
def ltB (a b : ByteArray) : Bool := Op.bytesLess a.toList b.toList
theorem ltB_irrefl (a : ByteArray) : ltB a a = false := tb_irrefl _
theorem ltB_trans {a b c : ByteArray} (h1 : ltB a b = true) (h2 : ltB b c = true) : ltB a c = true := tb_trans _ _ _ h1 h2
theorem ltB_tri {a b : ByteArray} (h1 : ltB a b = false) (h2 : ltB b a = false) : a = b := by
  apply ba_ext.1
  rw [← ByteArray.toList_eq, ← ByteArray.toList_eq]
  exact tb_tri _ _ h1 h2
theorem ltB_empty (a : ByteArray) : ltB a ByteArray.empty = false := by
  unfold ltB
  rw [ByteArray.toList_eq ByteArray.empty]
  exact tb_nil _
theorem ltB_asymm {a b : ByteArray} (h : ltB a b = true) : ltB b a = false := by
  rw [Bool.eq_false_iff]
  intro h2
  have := ltB_trans h h2
  rw [ltB_irrefl] at this
  cases this
/-- Not below, and below: so it goes on. -/
theorem ltB_le_lt {a b c : ByteArray} (h1 : ltB b a = false) (h2 : ltB b c = true) : ltB a c = true := by
  cases h : ltB a b with
  | true => exact ltB_trans h h2
  | false => rw [ltB_tri h h1]; exact h2
theorem ltB_lt_le {a b c : ByteArray} (h1 : ltB a b = true) (h2 : ltB c b = false) : ltB a c = true := by
  cases h : ltB b c with
  | true => exact ltB_trans h1 h
  | false => rw [← ltB_tri h h2]; exact h1
theorem lessE_def (a b : EntV) : lessE a b = true ↔ (ltB a.key b.key = true ∨ (a.key = b.key ∧ b.seq < a.seq)) := by
  unfold lessE ltB
  rw [eq_str]
  simp
theorem lessE_irrefl (a : EntV) : lessE a a = false := by
  rw [Bool.eq_false_iff]
  intro h
  rcases (lessE_def a a).1 h with h | h
  · rw [ltB_irrefl] at h; cases h
  · omega
theorem lessE_trans {a b c : EntV} (h1 : lessE a b = true) (h2 : lessE b c = true) : lessE a c = true := by
  rw [lessE_def] at *
  rcases h1 with h1 | ⟨h1, h1'⟩
  · rcases h2 with h2 | ⟨h2, _⟩
    · exact .inl (ltB_trans h1 h2)
    · rw [← h2]; exact .inl h1
  · rcases h2 with h2 | ⟨h2, h2'⟩
    · rw [h1]; exact .inl h2
    · exact .inr ⟨h1.trans h2, by omega⟩
theorem lessE_key {a b : EntV} (h : lessE a b = true) : ltB b.key a.key = false := by
  rcases (lessE_def a b).1 h with h | ⟨h, _⟩
  · exact ltB_asymm h
  · rw [h, ltB_irrefl]
abbrev RiseE (l : List EntV) : Prop := l.Pairwise fun a b => lessE a b = true
theorem checkF_some : ∀ (l : List EntV) (y : EntV), checkF (some y) l = 0 ↔ (∀ x ∈ l, OkE x) ∧ (∀ x ∈ l, lessE y x = true) ∧ RiseE l
  | [], y => by simp [checkF]
  | x :: l, y => by
    have ih := checkF_some l x
    unfold checkF
    constructor
    · intro h
      split at h
      · rename_i h1; exact absurd h h1
      · rename_i h1
        have hx := oneE_ok.1 (Classical.not_not.1 h1)
        split at h
        · rename_i h2
          obtain ⟨i1, i2, i3⟩ := ih.1 h
          refine ⟨?_, ?_, List.pairwise_cons.2 ⟨i2, i3⟩⟩
          · intro z hz
            rcases List.mem_cons.1 hz with rfl | hz
            · exact hx
            · exact i1 z hz
          · intro z hz
            rcases List.mem_cons.1 hz with rfl | hz
            · exact h2
            · exact lessE_trans h2 (i2 z hz)
        · cases h
    · rintro ⟨h1, h2, h3⟩
      obtain ⟨h4, h5⟩ := List.pairwise_cons.1 h3
      rw [if_neg (by simp [oneE_ok.2 (h1 x (by simp))]), if_pos (h2 x (by simp))]
      exact ih.2 ⟨fun z hz => h1 z (by simp [hz]), h4, h5⟩
theorem checkF_none (l : List EntV) : checkF none l = 0 ↔ (∀ x ∈ l, OkE x) ∧ RiseE l := by
  cases l with
  | nil => simp [checkF]
  | cons x l =>
    have ih := checkF_some l x
    unfold checkF
    constructor
    · intro h
      split at h
      · rename_i h1; exact absurd h h1
      · rename_i h1
        have hx := oneE_ok.1 (Classical.not_not.1 h1)
        obtain ⟨i1, i2, i3⟩ := ih.1 h
        refine ⟨fun z hz => ?_, List.pairwise_cons.2 ⟨i2, i3⟩⟩
        rcases List.mem_cons.1 hz with rfl | hz
        · exact hx
        · exact i1 z hz
    · rintro ⟨h1, h3⟩
      obtain ⟨h4, h5⟩ := List.pairwise_cons.1 h3
      rw [if_neg (by simp [oneE_ok.2 (h1 x (by simp))])]
      exact ih.2 ⟨fun z hz => h1 z (by simp [hz]), h4, h5⟩
theorem checkE_rise (l : List EntV) : checkE l = 0 ↔ l.length ≤ 4096 ∧ (∀ x ∈ l, OkE x) ∧ RiseE l := by
  unfold checkE
  split
  · constructor
    · intro h; cases h
    · intro h; omega
  · rw [checkF_none]
    constructor
    · intro h; exact ⟨by omega, h⟩
    · intro h; exact h.2
theorem checkE_sub {l m : List EntV} (hs : m.Sublist l) (h : checkE l = 0) : checkE m = 0 := by
  obtain ⟨h1, h2, h3⟩ := (checkE_rise l).1 h
  exact (checkE_rise m).2 ⟨Nat.le_trans hs.length_le h1, fun x hx => h2 x (hs.subset hx), h3.sublist hs⟩
theorem checkE_take {l : List EntV} (n : Nat) (h : checkE l = 0) : checkE (l.take n) = 0 := checkE_sub (List.take_sublist n l) h
theorem checkE_drop {l : List EntV} (n : Nat) (h : checkE l = 0) : checkE (l.drop n) = 0 := checkE_sub (List.drop_sublist n l) h
/-! ### How long pages are -/
theorem smallN_mono : ∀ (n m : Nat), m ≤ n → (smallN m).length ≤ (smallN n).length := by
  intro n
  induction n using Nat.strongRecOn with
  | _ n ih =>
    intro m hm
    by_cases h : m < 128
    · rw [smallN_lo h]; exact smallN_pos n
    · rw [smallN_hi h, smallN_hi (show ¬ n < 128 by omega)]
      have := ih (n / 128) (by omega) (m / 128) (by omega)
      simp only [List.length_cons]; omega
theorem entsN_take (l : List EntV) (k : Nat) : (entsN [] (l.take k)).length ≤ (entsN [] l).length := by
  have : entsN [] l = entsN [] (l.take k) ++ entsN (lastK [] (l.take k)) (l.drop k) := by rw [← entsN_app, List.take_append_drop]
  rw [this, List.length_append]; omega
theorem page_mono (l : List EntV) {m n : Nat} (h : m ≤ n) : (pageN (l.take m)).length ≤ (pageN (l.take n)).length := by
  rw [page_len, page_len]
  unfold bodyN
  have h1 := smallN_mono (l.take n).length (l.take m).length (by simp only [List.length_take]; omega)
  have h2 := entsN_take (l.take n) m
  rw [List.take_take, Nat.min_eq_left h] at h2
  simp only [List.length_append]; omega
theorem page_step {l : List EntV} (hc : checkE l = 0) (n : Nat) (h : (pageN (l.take n)).length < 512 ∨ n = 0) : (pageN (l.take (n + 1))).length ≤ 6000 := by
  rcases Nat.lt_or_ge n l.length with hn | hn
  · obtain ⟨_, h2, _⟩ := (checkE_rise l).1 hc
    have hy : l.getD n zeroE ∈ l := by rw [List.getD_eq_getElem?_getD, List.getElem?_eq_getElem hn]; exact List.getElem_mem _
    have e := take_snoc hn rfl
    rw [page_len, e]
    unfold bodyN
    rw [entsN_app]
    have h3 := entN_len (lastK [] (l.take n)) (h2 _ hy)
    have hlen : (l.take n ++ [l.getD n zeroE]).length < 34359738368 := by
      have := ((checkE_rise l).1 hc).1
      simp only [List.length_append, List.length_take, List.length_cons, List.length_nil]; omega
    have h4 := smallN_five _ hlen
    have h5 : (entsN [] (l.take n)).length < 512 := by
      rcases h with h | h
      · rw [page_len] at h; unfold bodyN at h; simp only [List.length_append] at h; omega
      · subst h; simp [entsN]
    have h6 : entsN (lastK [] (l.take n)) [l.getD n zeroE] = entN (lastK [] (l.take n)) (l.getD n zeroE) := by simp [entsN]
    rw [h6]
    simp only [List.length_append] at h4 ⊢
    omega
  · rcases h with h | h
    · rw [List.take_of_length_le (by omega)]
      rw [List.take_of_length_le hn] at h
      omega
    · subst h
      obtain rfl : l = [] := List.eq_nil_of_length_eq_zero (by omega)
      rw [page_len]
      decide +kernel
theorem makeE_page {l : List EntV} (hc : checkE l = 0) (h : (pageN l).length ≤ 65536) : makeE l = (pageN l, 0) := makeE_all hc (by rw [page_len] at h; omega)
end Go.Proofs.Ytlcbjmbphekliaa
namespace Go.Proofs.Ytlcbjmbphekliaa
open Go.RowKit Go.WideShapes

/-- So many entries make the first page. -/
def IsFirst (l : List EntV) (n : Nat) : Prop := 1 ≤ n ∧ n ≤ l.length ∧ (512 ≤ (pageN (l.take n)).length ∨ n = l.length) ∧ ∀ m, 1 ≤ m → m < n → (pageN (l.take m)).length < 512
theorem IsFirst.only {l : List EntV} {n m : Nat} (h : IsFirst l n) (k : IsFirst l m) : n = m := by
  obtain ⟨h1, h2, h3, h4⟩ := h
  obtain ⟨k1, k2, k3, k4⟩ := k
  rcases Nat.lt_trichotomy n m with c | c | c
  · have := k4 n h1 c
    rcases h3 with h3 | h3 <;> omega
  · exact c
  · have := h4 m k1 c
    rcases k3 with k3 | k3 <;> omega
def firstF : Nat → List EntV → Nat → Nat
  | 0, _, n => n
  | f + 1, l, n => if 512 ≤ (pageN (l.take n)).length ∨ n = l.length then n else firstF f l (n + 1)
theorem firstF_is : ∀ (f : Nat) (l : List EntV) (n : Nat), 1 ≤ n → n ≤ l.length → l.length ≤ n + f → (∀ m, 1 ≤ m → m < n → (pageN (l.take m)).length < 512) → IsFirst l (firstF f l n)
  | 0, l, n, h1, h2, h3, h4 => ⟨h1, h2, .inr (by simp only [firstF]; omega), h4⟩
  | f + 1, l, n, h1, h2, h3, h4 => by
    unfold firstF
    split
    · rename_i h; exact ⟨h1, h2, h, h4⟩
    · rename_i h
      refine firstF_is f l (n + 1) (by omega) (by omega) (by omega) (fun m a b => ?_)
      rcases Nat.lt_or_ge m n with c | c
      · exact h4 m a c
      · obtain rfl : m = n := by omega
        omega
def firstN (l : List EntV) : Nat := firstF l.length l 1
theorem firstN_is {l : List EntV} (h : 0 < l.length) : IsFirst l (firstN l) := firstF_is _ _ _ (by omega) h (by omega) (fun m a b => by omega)
def partF : Nat → List EntV → List (List EntV)
  | 0, _ => []
  | _ + 1, [] => []
  | f + 1, x :: l => (x :: l).take (firstN (x :: l)) :: partF f ((x :: l).drop (firstN (x :: l)))
/-- The pages of entries. -/
def partE (l : List EntV) : List (List EntV) := partF l.length l
inductive Parts : List EntV → List (List EntV) → Prop
  | nil : Parts [] []
  | cons (l : List EntV) (n : Nat) (ps : List (List EntV)) : IsFirst l n → Parts (l.drop n) ps → Parts l (l.take n :: ps)
theorem partF_is : ∀ (f : Nat) (l : List EntV), l.length ≤ f → Parts l (partF f l)
  | 0, [], _ => .nil
  | 0, x :: l, h => absurd h (by simp)
  | f + 1, [], _ => .nil
  | f + 1, x :: l, h => by
    have hf := firstN_is (l := x :: l) (by simp)
    refine .cons _ _ _ hf (partF_is f _ ?_)
    have := hf.1
    rw [List.length_drop]
    simp only [List.length_cons] at *
    omega
theorem parts_is (l : List EntV) : Parts l (partE l) := partF_is _ _ (Nat.le_refl _)
theorem Parts.only {l : List EntV} {ps : List (List EntV)} (h : Parts l ps) : ∀ {qs}, Parts l qs → ps = qs := by
  induction h with
  | nil =>
    intro qs k
    generalize hl : ([] : List EntV) = l at k
    cases k with
    | nil => rfl
    | cons _ n ps h1 _ => subst hl; have := h1.1; have := h1.2.1; simp at this; omega
  | cons l n ps h1 _ ih =>
    intro qs k
    cases k with
    | nil => have := h1.1; have := h1.2.1; simp at this; omega
    | cons _ m qs k1 k2 =>
      obtain rfl := h1.only k1
      rw [ih k2]
theorem Parts.flat {l : List EntV} {ps : List (List EntV)} (h : Parts l ps) : ps.flatten = l := by
  induction h with
  | nil => rfl
  | cons l n ps h1 _ ih => rw [List.flatten_cons, ih, List.take_append_drop]
theorem Parts.pos {l : List EntV} {ps : List (List EntV)} (h : Parts l ps) : ∀ p ∈ ps, 0 < p.length := by
  induction h with
  | nil => intro p hp; simp at hp
  | cons l n ps h1 _ ih =>
    intro p hp
    rcases List.mem_cons.1 hp with rfl | hp
    · rw [List.length_take]; have := h1.1; have := h1.2.1; omega
    · exact ih p hp
theorem Parts.small {l : List EntV} {ps : List (List EntV)} (h : Parts l ps) (hc : checkE l = 0) : ∀ p ∈ ps, checkE p = 0 ∧ (pageN p).length ≤ 6000 := by
  induction h with
  | nil => intro p hp; simp at hp
  | cons l n ps h1 _ ih =>
    intro p hp
    rcases List.mem_cons.1 hp with rfl | hp
    · refine ⟨checkE_take n hc, ?_⟩
      obtain ⟨a, b, _, d⟩ := h1
      obtain ⟨k, rfl⟩ : ∃ k, n = k + 1 := ⟨n - 1, by omega⟩
      refine page_step hc k ?_
      rcases Nat.eq_zero_or_pos k with h0 | h0
      · exact .inr h0
      · exact .inl (d k h0 (by omega))
    · exact ih (checkE_drop n hc) p hp
theorem Parts.one {l : List EntV} {ps : List (List EntV)} (h : Parts l ps) (hl : 0 < l.length) : 0 < ps.length := by
  cases h with
  | nil => simp at hl
  | cons => simp
theorem len_flat : ∀ (ps : List (List EntV)), (∀ p ∈ ps, 0 < p.length) → ps.length ≤ ps.flatten.length
  | [], _ => by simp
  | p :: ps, h => by
    have h1 := h p (by simp)
    have h2 := len_flat ps (fun q hq => h q (by simp [hq]))
    rw [List.flatten_cons, List.length_append, List.length_cons]; omega
/-- A page of so many bytes is closed where it must be. -/
def EndsP (p : List EntV) (n : Nat) (last : Prop) : Prop := 0 < p.length ∧ (512 ≤ n ∨ last) ∧ (pageN (p.take (p.length - 1))).length < 512
theorem Parts.ends {l : List EntV} {ps : List (List EntV)} (h : Parts l ps) : ∀ p qs, (p :: qs) <:+ ps → EndsP p (pageN p).length (qs = []) := by
  induction h with
  | nil => intro p qs hs; have := hs.length_le; simp at this
  | cons l n ps h1 h2 ih =>
    intro p qs hs
    rcases List.suffix_cons_iff.1 hs with e | hs
    · obtain ⟨rfl, rfl⟩ := List.cons.inj e
      obtain ⟨a, b, c, d⟩ := h1
      have hl : (l.take n).length = n := by rw [List.length_take]; omega
      refine ⟨by omega, ?_, ?_⟩
      · rcases c with c | c
        · exact .inl c
        · right
          subst c
          rw [List.drop_length] at h2
          cases h2 with
          | nil => rfl
          | cons _ m qs k1 _ => have := k1.1; have := k1.2.1; simp at this; omega
      · rw [hl, List.take_take, Nat.min_eq_left (by omega)]
        rcases Nat.eq_zero_or_pos (n - 1) with h0 | h0
        · rw [h0, List.take_zero]; decide +kernel
        · exact d (n - 1) h0 (by omega)
    · exact ih p qs hs
theorem parts_of_ends : ∀ (ps : List (List EntV)), (∀ p qs, (p :: qs) <:+ ps → EndsP p (pageN p).length (qs = [])) → Parts ps.flatten ps
  | [], _ => .nil
  | p :: ps, h => by
    obtain ⟨h1, h2, h3⟩ := h p ps (List.suffix_refl _)
    have ih := parts_of_ends ps (fun q qs hq => h q qs (hq.trans (List.suffix_cons _ _)))
    have ht : (p :: ps).flatten.take p.length = p := by rw [List.flatten_cons, List.take_left]
    have hd : (p :: ps).flatten.drop p.length = ps.flatten := by rw [List.flatten_cons, List.drop_left]
    have hf : IsFirst (p :: ps).flatten p.length := by
      refine ⟨h1, by rw [List.flatten_cons, List.length_append]; omega, ?_, ?_⟩
      · rw [ht]
        rcases h2 with h2 | h2
        · exact .inl h2
        · right; subst h2; simp
      · intro m a b
        rw [List.flatten_cons, List.take_append_of_le_length (by omega)]
        exact Nat.lt_of_le_of_lt (page_mono p (by omega)) h3
    have := Parts.cons _ _ ps hf (by rw [hd]; exact ih)
    rw [ht] at this
    exact this
theorem parts_eq {ps : List (List EntV)} (h : ∀ p qs, (p :: qs) <:+ ps → EndsP p (pageN p).length (qs = [])) : partE ps.flatten = ps := (parts_is _).only (parts_of_ends ps h)
end Go.Proofs.Ytlcbjmbphekliaa
namespace Go.Proofs.Ytlcbjmbphekliaa.Sv
open Go.RowKit Go.WideShapes

def sieveH (s : ByteArray) : Nat := sumN (numsOf s)
def sieveG (s : ByteArray) : Nat := sumN (numsOf s ++ [1]) ||| 1
def markAt (s : ByteArray) (i : Nat) : Nat := (sieveH s + i * sieveG s) % 4294967296
def marksN (s : ByteArray) (m : Nat) : List Nat := [markAt s 0 % m, markAt s 1 % m, markAt s 2 % m, markAt s 3 % m]
def setN (b : List Nat) (n : Nat) : List Nat := b.set (n / 8) (b.getD (n / 8) 0 ||| 2 ^ (n % 8))
def setsN (b : List Nat) (l : List Nat) : List Nat := l.foldl setN b
def makeN (keys : List ByteArray) (m : Nat) : List Nat := keys.foldl (fun b k => setsN b (marksN k m)) (List.replicate (m / 8) 0)
def hasB (b : List Nat) (k : ByteArray) : Bool := (marksN k (8 * b.length)).all fun n => (b.getD (n / 8) 0).testBit (n % 8)

theorem sumN_lt (xs : List Nat) (h : ∀ c ∈ xs, c < 256) : sumN xs < 4294967296 := Nat.xor_lt_two_pow (n := 32) (by omega) (crc_lt xs 4294967295 (by decide) h)
theorem sieveH_lt (s : ByteArray) : sieveH s < 4294967296 := sumN_lt _ (numsOf_lt s)
theorem one_lt (s : ByteArray) : ∀ c ∈ numsOf s ++ [1], c < 256 := by
  intro c hc
  rcases List.mem_append.1 hc with h | h
  · exact numsOf_lt s c h
  · simp at h; omega
theorem sieveG_lt (s : ByteArray) : sieveG s < 4294967296 := Nat.or_lt_two_pow (n := 32) (sumN_lt _ (one_lt s)) (by omega)
theorem or_one (x : Nat) : x ||| 1 = if x % 2 = 0 then x + 1 else x := by
  apply Nat.eq_of_testBit_eq
  intro i
  rw [Nat.testBit_or]
  cases i with
  | zero =>
    rcases Nat.mod_two_eq_zero_or_one x with h | h
    · rw [if_pos h]; simp [Nat.testBit_zero]; omega
    · rw [if_neg (by omega)]; simp [Nat.testBit_zero]; omega
  | succ i =>
    rcases Nat.mod_two_eq_zero_or_one x with h | h
    · rw [if_pos h, Nat.testBit_succ, Nat.testBit_succ, Nat.testBit_succ, show (x + 1) / 2 = x / 2 from by omega]; simp
    · rw [if_neg (by omega), Nat.testBit_succ, Nat.testBit_succ]; simp
theorem markAt_lt (s : ByteArray) (i : Nat) : markAt s i < 4294967296 := Nat.mod_lt _ (by decide)
theorem markAt_zero (s : ByteArray) : markAt s 0 = sieveH s := by unfold markAt; rw [Nat.zero_mul, Nat.add_zero, Nat.mod_eq_of_lt (sieveH_lt s)]
theorem markAt_succ (s : ByteArray) (i : Nat) : markAt s (i + 1) = (markAt s i + sieveG s) % 4294967296 := by
  unfold markAt; rw [Nat.add_mul, Nat.one_mul, Nat.mod_add_mod, Nat.add_assoc]
theorem marksN_len (s : ByteArray) (m : Nat) : (marksN s m).length = 4 := rfl
theorem marksN_at (s : ByteArray) (m i : Nat) (h : i < 4) : (marksN s m).getD i 0 = markAt s i % m := by
  match i, h with
  | 0, _ => rfl
  | 1, _ => rfl
  | 2, _ => rfl
  | 3, _ => rfl
theorem marksN_lt (s : ByteArray) (m : Nat) (h : 0 < m) : ∀ n ∈ marksN s m, n < m := by
  intro n hn
  simp only [marksN, List.mem_cons, List.not_mem_nil, or_false] at hn
  rcases hn with rfl | rfl | rfl | rfl <;> exact Nat.mod_lt _ h

theorem setN_len (b : List Nat) (n : Nat) : (setN b n).length = b.length := by simp [setN]
theorem setsN_len (l : List Nat) : ∀ b, (setsN b l).length = b.length := by
  induction l with
  | nil => intro b; rfl
  | cons n l ih => intro b; exact (ih (setN b n)).trans (setN_len b n)
theorem setN_lt {b : List Nat} (h : ∀ c ∈ b, c < 256) (n : Nat) : ∀ c ∈ setN b n, c < 256 := by
  intro c hc
  rcases List.mem_or_eq_of_mem_set hc with h1 | rfl
  · exact h c h1
  · have h8 : 2 ^ (n % 8) < 2 ^ 8 := Nat.pow_lt_pow_right (by decide) (Nat.mod_lt _ (by decide))
    exact Nat.or_lt_two_pow (n := 8) (getD_lt h _) h8
theorem setsN_lt (l : List Nat) : ∀ b, (∀ c ∈ b, c < 256) → ∀ c ∈ setsN b l, c < 256 := by
  induction l with
  | nil => intro b h; exact h
  | cons n l ih => intro b h; exact ih (setN b n) (setN_lt h n)
theorem setN_bit (b : List Nat) (n i j : Nat) (h : n / 8 < b.length) : ((setN b n).getD i 0).testBit j = ((b.getD i 0).testBit j || decide (i = n / 8 ∧ j = n % 8)) := by
  unfold setN
  by_cases e : i = n / 8
  · subst e
    rw [List.getD_eq_getElem?_getD, List.getElem?_set_self h, Option.getD_some, Nat.testBit_or, Nat.testBit_two_pow]
    congr 1
    simp [eq_comm]
  · rw [List.getD_eq_getElem?_getD, List.getElem?_set_ne (fun h => e h.symm), ← List.getD_eq_getElem?_getD]
    simp [e]
theorem setsN_bit (l : List Nat) : ∀ (b : List Nat) (i j : Nat), (∀ n ∈ l, n / 8 < b.length) → ((setsN b l).getD i 0).testBit j = ((b.getD i 0).testBit j || l.any fun n => decide (i = n / 8 ∧ j = n % 8)) := by
  induction l with
  | nil => intro b i j _; simp [setsN]
  | cons n l ih =>
    intro b i j h
    have := ih (setN b n) i j (fun m hm => by rw [setN_len]; exact h m (by simp [hm]))
    rw [show setsN b (n :: l) = setsN (setN b n) l from rfl, this, setN_bit b n i j (h n (by simp)), List.any_cons, Bool.or_assoc]
/-- All marks of keys, set into a filter. -/
def fillN (b : List Nat) (keys : List ByteArray) (m : Nat) : List Nat := keys.foldl (fun b k => setsN b (marksN k m)) b
theorem fillN_len (keys : List ByteArray) (m : Nat) : ∀ b, (fillN b keys m).length = b.length := by
  induction keys with
  | nil => intro b; rfl
  | cons k l ih => intro b; exact (ih _).trans (setsN_len _ _)
theorem fillN_lt (keys : List ByteArray) (m : Nat) : ∀ b, (∀ c ∈ b, c < 256) → ∀ c ∈ fillN b keys m, c < 256 := by
  induction keys with
  | nil => intro b h; exact h
  | cons k l ih => intro b h; exact ih _ (setsN_lt _ _ h)
theorem mark_in {m n : Nat} (h8 : m % 8 = 0) (h : n < m) : n / 8 < m / 8 := by omega
theorem fillN_bit (keys : List ByteArray) (m : Nat) (h0 : 0 < m) (h8 : m % 8 = 0) : ∀ (b : List Nat) (i j : Nat), b.length = m / 8 → ((fillN b keys m).getD i 0).testBit j = ((b.getD i 0).testBit j || keys.any fun k => (marksN k m).any fun n => decide (i = n / 8 ∧ j = n % 8)) := by
  induction keys with
  | nil => intro b i j _; simp [fillN]
  | cons k l ih =>
    intro b i j hb
    have := ih (setsN b (marksN k m)) i j (by rw [setsN_len]; exact hb)
    rw [show fillN b (k :: l) m = fillN (setsN b (marksN k m)) l m from rfl, this, setsN_bit _ _ _ _ (fun n hn => by rw [hb]; exact mark_in h8 (marksN_lt k m h0 n hn)), List.any_cons, Bool.or_assoc]
theorem makeN_len (keys : List ByteArray) (m : Nat) : (makeN keys m).length = m / 8 := (fillN_len keys m _).trans (by simp)
theorem makeN_lt (keys : List ByteArray) (m : Nat) : ∀ c ∈ makeN keys m, c < 256 := fillN_lt keys m _ (by intro c hc; have := List.eq_of_mem_replicate hc; omega)
theorem zero_bit (k i j : Nat) : ((List.replicate k 0).getD i 0).testBit j = false := by
  have : (List.replicate k 0).getD i 0 = 0 := by
    rw [List.getD_eq_getElem?_getD, List.getElem?_replicate]
    split <;> rfl
  rw [this, Nat.zero_testBit]
theorem makeN_bit (keys : List ByteArray) (m : Nat) (h0 : 0 < m) (h8 : m % 8 = 0) (i j : Nat) : ((makeN keys m).getD i 0).testBit j = keys.any fun k => (marksN k m).any fun n => decide (i = n / 8 ∧ j = n % 8) := by
  have := fillN_bit keys m h0 h8 (List.replicate (m / 8) 0) i j (by simp)
  rw [show makeN keys m = fillN (List.replicate (m / 8) 0) keys m from rfl, this, zero_bit, Bool.false_or]
theorem makeN_app (a b : List ByteArray) (m : Nat) (h0 : 0 < m) (h8 : m % 8 = 0) (i : Nat) : (makeN (a ++ b) m).getD i 0 = (makeN a m).getD i 0 ||| (makeN b m).getD i 0 := by
  apply Nat.eq_of_testBit_eq
  intro j
  rw [Nat.testBit_or, makeN_bit _ m h0 h8, makeN_bit _ m h0 h8, makeN_bit _ m h0 h8, List.any_append]
theorem nums_ext {a b : List Nat} (hn : a.length = b.length) (h : ∀ i, i < a.length → a.getD i 0 = b.getD i 0) : a = b := by
  refine List.ext_getElem hn (fun i h1 h2 => ?_)
  have := h i h1
  simpa [List.getD, h1, h2] using this
theorem makeN_swap (a b : List ByteArray) (m : Nat) (h0 : 0 < m) (h8 : m % 8 = 0) : makeN (a ++ b) m = makeN (b ++ a) m :=
  nums_ext (by rw [makeN_len, makeN_len]) (fun i _ => by rw [makeN_app a b m h0 h8, makeN_app b a m h0 h8, Nat.or_comm])
theorem makeN_has (keys : List ByteArray) (m : Nat) (h0 : 0 < m) (h8 : m % 8 = 0) (k : ByteArray) (hk : k ∈ keys) : hasB (makeN keys m) k = true := by
  unfold hasB
  rw [List.all_eq_true, makeN_len, show 8 * (m / 8) = m from by omega]
  intro n hn
  rw [makeN_bit _ m h0 h8, List.any_eq_true]
  refine ⟨k, hk, ?_⟩
  rw [List.any_eq_true]
  exact ⟨n, hn, by simp⟩
theorem has_zero (n : Nat) (k : ByteArray) : hasB (List.replicate n 0) k = false := by
  unfold hasB marksN
  rw [List.all_cons, zero_bit, Bool.false_and]
theorem full_bit (j : Nat) (h : j < 8) : Nat.testBit 255 j = true := by
  have : ∀ j, j < 8 → Nat.testBit 255 j = true := by decide
  exact this j h
theorem has_full (n : Nat) (h : 0 < n) (k : ByteArray) : hasB (List.replicate n 255) k = true := by
  unfold hasB
  rw [List.all_eq_true]
  intro x hx
  have hl := marksN_lt k (8 * (List.replicate n 255).length) (by rw [List.length_replicate]; omega) x hx
  rw [List.length_replicate] at hl
  rw [List.getD_eq_getElem?_getD, List.getElem?_replicate, if_pos (by omega), Option.getD_some]
  exact full_bit _ (Nat.mod_lt _ (by decide))
theorem has_more {b c : List Nat} (hn : b.length = c.length) (h : ∀ i, i < b.length → ∃ y, c.getD i 0 = b.getD i 0 ||| y) (k : ByteArray) (hb : hasB b k = true) : hasB c k = true := by
  unfold hasB at *
  rw [List.all_eq_true] at *
  intro x hx
  rw [← hn] at hx
  have h0 : 0 < b.length := by
    rcases Nat.eq_zero_or_pos b.length with e | e
    · exfalso
      have := hb x hx
      rw [List.eq_nil_of_length_eq_zero e] at this
      simp at this
    · exact e
  have hl := marksN_lt k (8 * b.length) (by omega) x hx
  obtain ⟨y, hy⟩ := h (x / 8) (by omega)
  rw [hy, Nat.testBit_or, hb x hx, Bool.true_or]
theorem makeN_take (keys : List ByteArray) (m k : Nat) (h : k < keys.length) : makeN (keys.take (k + 1)) m = setsN (makeN (keys.take k) m) (marksN (keys.getD k ByteArray.empty) m) := by
  rw [List.take_succ_eq_append_getElem h, makeN, List.foldl_append]
  simp [makeN, List.getD, List.getElem?_eq_getElem h]
theorem setsN_take (b l : List Nat) (k : Nat) (h : k < l.length) : setsN b (l.take (k + 1)) = setN (setsN b (l.take k)) (l.getD k 0) := by
  rw [List.take_succ_eq_append_getElem h, setsN, List.foldl_append]
  simp [setsN, List.getD, List.getElem?_eq_getElem h]
end Go.Proofs.Ytlcbjmbphekliaa.Sv
namespace Go.Proofs.Ytlcbjmbphekliaa
open Go.RowKit Go.WideShapes

def firstK (p : List EntV) : ByteArray := (p.getD 0 zeroE).key
def lastKy (p : List EntV) : ByteArray := (p.getD (p.length - 1) zeroE).key
def pagesN (ps : List (List EntV)) : List Nat := ps.flatMap pageN
def spotN (p : List EntV) : List Nat := textN (firstK p) ++ (textN (lastKy p) ++ smallN (pageN p).length)
def spotsN (ps : List (List EntV)) : List Nat := ps.flatMap spotN
def indexN (ps : List (List EntV)) : List Nat := smallN ps.length ++ spotsN ps
def keysE (l : List EntV) : List ByteArray := l.map EntV.key
def sieveN (l : List EntV) : List Nat := Sv.makeN (keysE l) ((10 * l.length + 7) / 8 * 8)
def endN (ps : List (List EntV)) : List Nat := putN (pagesN ps).length ++ (putN (indexN ps).length ++ putN (sieveN ps.flatten).length)
def coreN (ps : List (List EntV)) : List Nat := pagesN ps ++ (indexN ps ++ (sieveN ps.flatten ++ endN ps))
def tableN (ps : List (List EntV)) : List Nat := coreN ps ++ sum4 (coreN ps)
/-- The table of entries, or what is wrong with them. -/
def makeT (l : List EntV) : List Nat × Nat :=
  if checkE l = 0 then (if l.length = 0 then ([], 90) else if 524288 < (tableN (partE l)).length then ([], 7) else (tableN (partE l), 0)) else ([], checkE l)
theorem makeT_ok {l : List EntV} {xs : List Nat} (h : makeT l = (xs, 0)) : checkE l = 0 ∧ 0 < l.length ∧ xs = tableN (partE l) ∧ xs.length ≤ 524288 := by
  unfold makeT at h
  split at h
  · split at h
    · simp at h
    · split at h
      · simp at h
      · rename_i h1 h2 h3
        simp only [Prod.mk.injEq, and_true] at h
        subst h
        exact ⟨h1, by omega, rfl, by omega⟩
  · rename_i h1
    simp only [Prod.mk.injEq] at h
    exact absurd h.2 h1
theorem makeT_is {l : List EntV} (h1 : checkE l = 0) (h2 : 0 < l.length) (h3 : (tableN (partE l)).length ≤ 524288) : makeT l = (tableN (partE l), 0) := by
  unfold makeT
  rw [if_pos h1, if_neg (by omega), if_neg (by omega)]
theorem makeT_bad {l : List EntV} (h1 : checkE l ≠ 0) : makeT l = ([], checkE l) := by unfold makeT; rw [if_neg h1]
theorem makeT_none {l : List EntV} (h1 : checkE l = 0) (h2 : l.length = 0) : makeT l = ([], 90) := by unfold makeT; rw [if_pos h1, if_pos h2]
theorem makeT_cap {l : List EntV} (h1 : checkE l = 0) (h2 : 0 < l.length) (h3 : 524288 < (tableN (partE l)).length) : makeT l = ([], 7) := by unfold makeT; rw [if_pos h1, if_neg (by omega), if_pos h3]
theorem pagesN_lt (ps : List (List EntV)) : ∀ c ∈ pagesN ps, c < 256 := by
  intro c hc
  obtain ⟨p, _, h⟩ := List.mem_flatMap.1 hc
  exact pageN_lt p c h
theorem spotN_lt (p : List EntV) : ∀ c ∈ spotN p, c < 256 := by
  intro c hc
  simp only [spotN, List.mem_append] at hc
  rcases hc with h | h | h
  · exact textN_lt _ c h
  · exact textN_lt _ c h
  · exact smallN_bytes _ c h
theorem spotsN_lt (ps : List (List EntV)) : ∀ c ∈ spotsN ps, c < 256 := by
  intro c hc
  obtain ⟨p, _, h⟩ := List.mem_flatMap.1 hc
  exact spotN_lt p c h
theorem indexN_lt (ps : List (List EntV)) : ∀ c ∈ indexN ps, c < 256 := by
  intro c hc
  rcases List.mem_append.1 hc with h | h
  · exact smallN_bytes _ c h
  · exact spotsN_lt ps c h
theorem sieveN_lt (l : List EntV) : ∀ c ∈ sieveN l, c < 256 := Sv.makeN_lt _ _
theorem sieveN_len (l : List EntV) : (sieveN l).length = (10 * l.length + 7) / 8 := by unfold sieveN; rw [Sv.makeN_len]; omega
/-- Lengths that fit a number of eight bytes. -/
def Fits (ps : List (List EntV)) : Prop := (pagesN ps).length < 18446744073709551616 ∧ (indexN ps).length < 18446744073709551616 ∧ (sieveN ps.flatten).length < 18446744073709551616
theorem endN_lt {ps : List (List EntV)} (h : Fits ps) : ∀ c ∈ endN ps, c < 256 := by
  intro c hc
  simp only [endN, List.mem_append] at hc
  rcases hc with h1 | h1 | h1
  · exact putN_bytes _ h.1 c h1
  · exact putN_bytes _ h.2.1 c h1
  · exact putN_bytes _ h.2.2 c h1
theorem coreN_lt {ps : List (List EntV)} (h : Fits ps) : ∀ c ∈ coreN ps, c < 256 := by
  intro c hc
  simp only [coreN, List.mem_append] at hc
  rcases hc with h1 | h1 | h1 | h1
  · exact pagesN_lt _ c h1
  · exact indexN_lt _ c h1
  · exact sieveN_lt _ c h1
  · exact endN_lt h c h1
theorem tableN_lt {ps : List (List EntV)} (h : Fits ps) : ∀ c ∈ tableN ps, c < 256 := by
  intro c hc
  rcases List.mem_append.1 hc with h1 | h1
  · exact coreN_lt h c h1
  · exact sum4_lt (coreN_lt h) c h1
theorem putN_len (n : Nat) : (putN n).length = 8 := rfl
theorem endN_len (ps : List (List EntV)) : (endN ps).length = 24 := by unfold endN; simp only [List.length_append, putN_len]
theorem tableN_len (ps : List (List EntV)) : (tableN ps).length = (pagesN ps).length + ((indexN ps).length + ((sieveN ps.flatten).length + 28)) := by
  unfold tableN coreN
  simp only [List.length_append, endN_len, sum4_len]; omega
theorem fits_of {ps : List (List EntV)} (h : (tableN ps).length ≤ 524288) : Fits ps := by
  rw [tableN_len] at h
  exact ⟨by omega, by omega, by omega⟩
theorem textN_def (s : ByteArray) : textN s = smallN s.size ++ numsOf s := rfl
/-! ### Reading -/
def get8 (xs : List Nat) : Nat := joinN (xs.getD 0 0) (xs.getD 1 0) (xs.getD 2 0) (xs.getD 3 0) (xs.getD 4 0) (xs.getD 5 0) (xs.getD 6 0) (xs.getD 7 0)
theorem get8_put (n : Nat) (h : n < 18446744073709551616) (r : List Nat) : get8 (putN n ++ r) = n := join_put n h
def cutTab (xs : List Nat) : Option (List Nat × List Nat) :=
  if xs.length < 28 ∨ 524288 < xs.length then none else
  if get8 (xs.drop (xs.length - 28)) ≤ xs.length - 28 ∧ get8 (xs.drop (xs.length - 20)) ≤ xs.length - 28 - get8 (xs.drop (xs.length - 28)) then
    some (xs.take (get8 (xs.drop (xs.length - 28))), (xs.drop (get8 (xs.drop (xs.length - 28)))).take (get8 (xs.drop (xs.length - 20)))) else none
def passW (s : Wk) : Wk := (textW 524288 s).2
def sizesL : Nat → Wk → Option (List Nat × Wk)
  | 0, s => some ([], s)
  | k + 1, s => if (numW 524288 (passW (passW s))).2.lost = true then none else (sizesL k (numW 524288 (passW (passW s))).2).map fun p => ((numW 524288 (passW (passW s))).1 :: p.1, p.2)
def endS : Option (List Nat × Wk) → Option (List Nat)
  | none => none
  | some p => if p.2.lost = true then none else some p.1
def sizesT (xs : List Nat) : Option (List Nat) := endS (sizesL (numW 524288 ⟨xs, false⟩).1 (numW 524288 ⟨xs, false⟩).2)
instance endsP_dec (p : List EntV) (n : Nat) (q : List Nat) : Decidable (EndsP p n (q = [])) := by unfold EndsP; exact inferInstance
def pagesR : List Nat → List Nat → Option (List (List EntV))
  | _, [] => some []
  | b, n :: ns => if b.length < n then none else
    match readE (b.take n) with
    | none => none
    | some l => if EndsP l n (ns = []) then (pagesR (b.drop n) ns).map fun ps => l :: ps else none
noncomputable def readT (xs : List Nat) : Option (List (List EntV)) :=
  match cutTab xs with
  | none => none
  | some (inner, index) =>
    match sizesT index with
    | none => none
    | some ns =>
      match pagesR inner ns with
      | none => none
      | some ps => if 0 < ps.length ∧ checkE ps.flatten = 0 ∧ tableN ps = xs then some ps else none
theorem cutTab_table {ps : List (List EntV)} (h : (tableN ps).length ≤ 524288) : cutTab (tableN ps) = some (pagesN ps, indexN ps) := by
  have hf := fits_of h
  have hl := tableN_len ps
  have e1 : (tableN ps).drop ((tableN ps).length - 28) = putN (pagesN ps).length ++ (putN (indexN ps).length ++ (putN (sieveN ps.flatten).length ++ sum4 (coreN ps))) := by
    have : tableN ps = (pagesN ps ++ (indexN ps ++ sieveN ps.flatten)) ++ (putN (pagesN ps).length ++ (putN (indexN ps).length ++ (putN (sieveN ps.flatten).length ++ sum4 (coreN ps)))) := by
      conv => lhs; unfold tableN
      generalize sum4 (coreN ps) = z
      unfold coreN endN
      simp only [List.append_assoc]
    conv => lhs; arg 2; rw [this]
    exact List.drop_left' (by simp only [List.length_append]; omega)
  have e2 : (tableN ps).drop ((tableN ps).length - 20) = putN (indexN ps).length ++ (putN (sieveN ps.flatten).length ++ sum4 (coreN ps)) := by
    have : (tableN ps).drop ((tableN ps).length - 20) = ((tableN ps).drop ((tableN ps).length - 28)).drop 8 := by
      rw [List.drop_drop]; congr 1; omega
    rw [this, e1]
    exact List.drop_left' (putN_len _)
  have g1 : get8 ((tableN ps).drop ((tableN ps).length - 28)) = (pagesN ps).length := by rw [e1]; exact get8_put _ hf.1 _
  have g2 : get8 ((tableN ps).drop ((tableN ps).length - 20)) = (indexN ps).length := by rw [e2]; exact get8_put _ hf.2.1 _
  unfold cutTab
  rw [if_neg (by omega), g1, g2, if_pos (by omega)]
  have e3 : tableN ps = pagesN ps ++ (indexN ps ++ (sieveN ps.flatten ++ (endN ps ++ sum4 (coreN ps)))) := by
    conv => lhs; unfold tableN
    rw [show coreN ps = pagesN ps ++ (indexN ps ++ (sieveN ps.flatten ++ endN ps)) from rfl]
    simp only [List.append_assoc]
  rw [e3, List.take_left' rfl, List.drop_left' rfl, List.take_left' rfl]
theorem passW_back (s : ByteArray) (r : List Nat) (h : s.size ≤ 524288) : passW ⟨textN s ++ r, false⟩ = ⟨r, false⟩ := by
  unfold passW
  have := textW_back 524288 (numsOf s) r false (by rw [numsOf_len]; exact h) (by rw [numsOf_len]; omega)
  rw [numsOf_len] at this
  rw [textN_def, List.append_assoc, this]
/-- Pages as they are written: no key, no page too long. -/
def OkP (p : List EntV) : Prop := (firstK p).size ≤ 256 ∧ (lastKy p).size ≤ 256 ∧ (pageN p).length ≤ 6000
theorem sizesL_back : ∀ (ps : List (List EntV)) (r : List Nat), (∀ p ∈ ps, OkP p) → sizesL ps.length ⟨spotsN ps ++ r, false⟩ = some (ps.map fun p => (pageN p).length, ⟨r, false⟩)
  | [], r, _ => rfl
  | p :: ps, r, h => by
    obtain ⟨h1, h2, h3⟩ := h p (by simp)
    have e : spotsN (p :: ps) ++ r = textN (firstK p) ++ (textN (lastKy p) ++ (smallN (pageN p).length ++ (spotsN ps ++ r))) := by
      simp only [spotsN, List.flatMap_cons, spotN, List.append_assoc]
    have q1 := passW_back (firstK p) (textN (lastKy p) ++ (smallN (pageN p).length ++ (spotsN ps ++ r))) (by omega)
    have q2 := passW_back (lastKy p) (smallN (pageN p).length ++ (spotsN ps ++ r)) (by omega)
    have q3 := numW_back 524288 (pageN p).length (spotsN ps ++ r) false (by omega) (by omega)
    have ih := sizesL_back ps r (fun q hq => h q (by simp [hq]))
    simp only [List.length_cons, sizesL, e, q1, q2, q3, ih]
    simp
theorem sizesT_back {ps : List (List EntV)} (h : ∀ p ∈ ps, OkP p) (hl : ps.length ≤ 4096) : sizesT (indexN ps) = some (ps.map fun p => (pageN p).length) := by
  unfold sizesT indexN
  rw [numW_back 524288 ps.length (spotsN ps) false (by omega) (by omega)]
  have := sizesL_back ps [] h
  rw [List.append_nil] at this
  simp only [this, endS]
  simp
theorem pagesR_back : ∀ (ps : List (List EntV)), (∀ p ∈ ps, makeE p = (pageN p, 0)) → (∀ p qs, (p :: qs) <:+ ps → EndsP p (pageN p).length (qs = [])) → pagesR (pagesN ps) (ps.map fun p => (pageN p).length) = some ps
  | [], _, _ => rfl
  | p :: ps, h1, h2 => by
    have e : pagesN (p :: ps) = pageN p ++ pagesN ps := by simp [pagesN]
    have ih := pagesR_back ps (fun q hq => h1 q (by simp [hq])) (fun q qs hq => h2 q qs (hq.trans (List.suffix_cons _ _)))
    have hr := read_make (h1 p (by simp))
    have he := h2 p ps (List.suffix_refl _)
    have he' : EndsP p (pageN p).length (ps.map (fun p => (pageN p).length) = []) := by
      rw [show (ps.map (fun p => (pageN p).length) = []) = (ps = []) from by simp]
      exact he
    simp only [List.map_cons, pagesR, e]
    rw [if_neg (by simp), List.take_left' rfl, List.drop_left' rfl, hr]
    simp only [if_pos he', ih, Option.map_some]
theorem okp_of {l : List EntV} {ps : List (List EntV)} (hp : Parts l ps) (hc : checkE l = 0) : ∀ p ∈ ps, OkP p := by
  intro p hm
  obtain ⟨h1, h2⟩ := hp.small hc p hm
  have h0 := hp.pos p hm
  obtain ⟨_, h3, _⟩ := (checkE_rise p).1 h1
  refine ⟨(h3 _ (getD_mem' h0)).key2, (h3 _ (getD_mem' (by omega))).key2, h2⟩
theorem read_makeT {l : List EntV} {xs : List Nat} (h : makeT l = (xs, 0)) : readT xs = some (partE l) := by
  obtain ⟨h1, h2, rfl, h4⟩ := makeT_ok h
  have hp := parts_is l
  have hn : (partE l).length ≤ 4096 := Nat.le_trans (len_flat _ hp.pos) (by rw [hp.flat]; exact ((checkE_rise l).1 h1).1)
  unfold readT
  rw [cutTab_table h4]
  simp only
  rw [sizesT_back (okp_of hp h1) hn]
  simp only
  rw [pagesR_back _ (fun p hm => makeE_page (hp.small h1 p hm).1 (by have := (hp.small h1 p hm).2; omega)) hp.ends]
  simp only
  rw [if_pos ⟨hp.one h2, by rw [hp.flat]; exact h1, trivial⟩]
theorem pagesR_only : ∀ (ns b : List Nat) (ps : List (List EntV)), (∀ c ∈ b, c < 256) → pagesR b ns = some ps → ns = ps.map (fun p => (pageN p).length) ∧ (∀ p qs, (p :: qs) <:+ ps → EndsP p (pageN p).length (qs = []))
  | [], b, ps, _, h => by
    simp only [pagesR, Option.some.injEq] at h
    subst h
    exact ⟨rfl, fun p qs hs => by have := hs.length_le; simp at this⟩
  | n :: ns, b, ps, hb, h => by
    unfold pagesR at h
    split at h
    · cases h
    · rename_i hn
      split at h
      · cases h
      · rename_i l hr
        split at h
        · rename_i he
          obtain ⟨qs, hq, rfl⟩ := Option.map_eq_some_iff.1 h
          obtain ⟨_, e2, _⟩ := makeE_ok (make_read (fun c hc => hb c (List.mem_of_mem_take hc)) hr)
          have hn' : n = (pageN l).length := by rw [← e2, List.length_take]; omega
          obtain ⟨i1, i2⟩ := pagesR_only ns (b.drop n) qs (fun c hc => hb c (List.mem_of_mem_drop hc)) hq
          have he' : EndsP l (pageN l).length (qs = []) := by
            rw [← hn']
            rw [show (qs = []) = (ns = []) from by rw [i1]; simp]
            exact he
          refine ⟨by rw [i1, hn']; rfl, fun p rs hs => ?_⟩
          rcases List.suffix_cons_iff.1 hs with e | hs
          · obtain ⟨rfl, rfl⟩ := List.cons.inj e
            exact he'
          · exact i2 p rs hs
        · cases h
theorem cutTab_len {xs : List Nat} {p : List Nat × List Nat} (h : cutTab xs = some p) : xs.length ≤ 524288 ∧ (∀ c ∈ p.1, c ∈ xs) ∧ (∀ c ∈ p.2, c ∈ xs) := by
  unfold cutTab at h
  split at h
  · cases h
  · rename_i h0
    generalize get8 (xs.drop (xs.length - 28)) = a at h
    generalize get8 (xs.drop (xs.length - 20)) = b at h
    split at h
    · have e := Option.some.inj h
      rw [← e]
      exact ⟨by omega, fun c hc => List.mem_of_mem_take hc, fun c hc => List.mem_of_mem_drop (List.mem_of_mem_take hc)⟩
    · cases h
theorem make_readT {xs : List Nat} {ps : List (List EntV)} (hx : ∀ c ∈ xs, c < 256) (h : readT xs = some ps) : makeT ps.flatten = (xs, 0) ∧ partE ps.flatten = ps := by
  unfold readT at h
  split at h
  · cases h
  · rename_i inner index hc
    obtain ⟨c1, c2, _⟩ := cutTab_len hc
    split at h
    · cases h
    · split at h
      · cases h
      · rename_i qs hq
        split at h
        · rename_i hh
          simp only [Option.some.injEq] at h
          subst h
          obtain ⟨_, he⟩ := pagesR_only _ _ _ (fun c hc => hx c (c2 c hc)) hq
          have hpe := parts_eq he
          have hpos := (parts_of_ends _ he).pos
          have hl := len_flat _ hpos
          refine ⟨?_, hpe⟩
          have := makeT_is hh.2.1 (by omega) (by rw [hpe, hh.2.2]; exact c1)
          rw [this, hpe, hh.2.2]
        · cases h
theorem readT_none {xs : List Nat} (h : readT xs = none) : ∀ l, makeT l ≠ (xs, 0) := by
  intro l e
  rw [read_makeT e] at h
  cases h
theorem makeT_inj {l m : List EntV} {xs : List Nat} (h1 : makeT l = (xs, 0)) (h2 : makeT m = (xs, 0)) : l = m := by
  have e := (read_makeT h1).symm.trans (read_makeT h2)
  rw [← (parts_is l).flat, Option.some.inj e, (parts_is m).flat]
theorem makeT_lt {l : List EntV} {xs : List Nat} (h : makeT l = (xs, 0)) : ∀ c ∈ xs, c < 256 := by
  obtain ⟨_, _, rfl, h4⟩ := makeT_ok h
  exact tableN_lt (fits_of h4)
/-- A table whose bytes were turned at one place is none. -/
theorem core_cut (ps : List (List EntV)) : (tableN ps).length - 4 = (coreN ps).length ∧ (tableN ps).take (coreN ps).length = coreN ps ∧ (tableN ps).drop (coreN ps).length = sum4 (coreN ps) := by
  unfold tableN
  simp [sum4_len]
end Go.Proofs.Ytlcbjmbphekliaa
namespace Go.Proofs.Ytlcbjmbphekliaa
open Go.RowKit Go.WideShapes

theorem readAux_some (ys : List Nat) : ∀ {i acc n k : Nat}, i ≤ 9 → acc < 2 ^ (7 * i) → readAux i acc ys = some (n, k) → i < k ∧ k ≤ i + ys.length ∧ k ≤ 10 ∧ n < 18446744073709551616 := by
  induction ys with
  | nil => intro i acc n k _ _ h; simp [readAux] at h
  | cons c ys ih =>
    intro i acc n k hi hacc h
    by_cases h9 : i = 9 ∧ 1 < c
    · rw [aux_big h9] at h; cases h
    · by_cases hc : 128 ≤ c
      · rw [aux_hi h9 hc] at h
        have := ih (by omega) (acc_lt i acc c hacc) h
        simp; omega
      · by_cases h0 : c = 0 ∧ 0 < i
        · rw [aux_zero h9 hc h0] at h; cases h
        · rw [aux_end h9 hc h0] at h
          simp only [Option.some.injEq, Prod.mk.injEq] at h
          have := read_fits i acc c hi hacc (by omega)
          simp; omega
theorem readN_some {xs : List Nat} {n k : Nat} (h : readN xs = some (n, k)) : 1 ≤ k ∧ k ≤ xs.length ∧ k ≤ 10 ∧ n < 18446744073709551616 := by
  have := readAux_some xs (by omega) (by decide) h
  omega

theorem read_some (p : Option Addr) (len cap : Nat) (xs : List Nat) (w : World) (n k : Nat) (hlen : len = xs.length) (hb : BIn w p xs) (hm : xs.length ≤ maxLen) (hr : readN xs = some (n, k)) :
    Calls Try.prog 97 #[.slice p len cap] w fun e w' => e = .returned (.tuple #[.int .u64 n, .int .i64 k, .int .i64 0]) ∧ w' = w := by
  subst hlen
  refine (read_any p cap xs w hb hm).mono fun e w' h => ⟨?_, h.2⟩
  rw [h.1, hr]; rfl
theorem read_none (p : Option Addr) (len cap : Nat) (xs : List Nat) (w : World) (hlen : len = xs.length) (hb : BIn w p xs) (hm : xs.length ≤ maxLen) (hr : readN xs = none) :
    Calls Try.prog 97 #[.slice p len cap] w fun e w' => e = .returned (.tuple #[.int .u64 0, .int .i64 0, .int .i64 8]) ∧ w' = w := by
  subst hlen
  refine (read_any p cap xs w hb hm).mono fun e w' h => ⟨?_, h.2⟩
  rw [h.1, hr]; rfl
/-- Where a part of a row of bytes lies. -/
theorem bin_part {w : World} {b o : Nat} {xs : List Nat} (h : BIn w (some ⟨b, o, none⟩) xs) (cap k : Nat) (hcap : xs.length ≤ cap) (n : Nat) : BIn w (if cap = k then some ⟨b, o, none⟩ else some ⟨b, o + k, none⟩) ((xs.drop k).take n) := by
  refine ⟨fun hp => ?_, fun c hc => h.2 c (List.mem_of_mem_drop (List.mem_of_mem_take hc))⟩
  simp at hp
  rw [if_neg (by omega)]
  refine ⟨b, o + k, rfl, fun i hi => ?_⟩
  simp at hi
  have := h.cell (k + i) (by omega)
  rw [Nat.add_assoc, this]
  simp [List.getD, show i < n from by omega]
theorem conv_at {w : World} {p : Option Addr} {xs : List Nat} {n c : Nat} (h : BIn w p xs) (hn : n = xs.length) : (convert 22 9 (.slice p n c)).run Try.prog w = .ok (.string (strOf xs)) w := by
  subst hn; exact h.conv c
end Go.Proofs.Ytlcbjmbphekliaa
