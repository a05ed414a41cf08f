/-
  The program's cutEntries.
-/
import Derived.Test.YtldgnejmmjbhiaaJ02
import Derived.Deep.RegionHeld3
import Derived.Deep.RegionLaw
import Derived.Deep.RegionWith
import Derived.Deep.Cut
import Derived.Laws.ResultCell
namespace Go.Proofs.Ytldgnejmmjbhiaa
open Go.RowKit Go.WideShapes

theorem nums_extract (r : ByteArray) (a b : Nat) : numsOf (r.extract a b) = ((numsOf r).drop a).take (b - a) := by
  unfold numsOf
  rw [ByteArray.data_extract, Array.toList_extract, List.extract_eq_take_drop, List.map_take, List.map_drop]
theorem text_drop (k : ByteArray) (n : Nat) : textN (k.extract n k.size) = smallN ((numsOf k).length - n) ++ (numsOf k).drop n := by
  unfold textN
  rw [nums_extract, List.take_of_length_le (by rw [List.length_drop, numsOf_len]; omega), ByteArray.size_extract, numsOf_len, Nat.min_self]
theorem St.box0 {w : World} {bx : List Box} {wc : World} {v : Value} {xs : List Nat} {B : Nat} {C : Array Value} {t : TypeId} (h : St w ((B, C, t) :: bx) wc v xs) (i : Nat) : wc.cell? ⟨B, i, none⟩ = C[i]? := h.cell (t := t) (by simp) i
theorem ent_join (a : List Nat) (k v : ByteArray) (s : Int) (xs : List Nat) (g : Bool) (tl : List Nat) (ht : tailN ⟨k, v, s, g⟩ = tl) : xs ++ smallN (sharedN a (numsOf k)) ++ textN (k.extract (sharedN a (numsOf k)) k.size) ++ smallN s.toNat ++ tl = xs ++ entN a ⟨k, v, s, g⟩ := by
  rw [text_drop, ← ht]
  unfold entN keyN
  simp only [List.append_assoc]
theorem textN_lt (s : ByteArray) : ∀ c ∈ textN s, c < 256 := by
  intro c hc
  rcases List.mem_append.1 hc with h | h
  · exact smallN_bytes _ c h
  · exact numsOf_lt _ c h
theorem smallN_five (n : Nat) (h : n < 34359738368) : (smallN n).length ≤ 5 := smallN_len 4 n (by omega)
theorem textN_len (s : ByteArray) (h : s.size ≤ 100000) : (textN s).length ≤ s.size + 5 := by
  unfold textN
  have := smallN_five s.size (by omega)
  rw [List.length_append, numsOf_len]; omega
set_option maxRecDepth 8000 in
set_option maxHeartbeats 4000000 in
theorem appendEntry_any (w0 : World) (bx : List Box) (w : World) (v : Value) (xs : List Nat) (a : ByteArray) (x : EntV) (hst : St w0 bx w v xs) (hx : OkE x) (ha : a.size ≤ 256) (hl : xs.length ≤ 1000000) (ys : List Nat) (hy : xs ++ entN (numsOf a) x = ys) :
    Calls Try.prog 24 #[v, .string a, entV x] w fun e w' => ∃ v', e = .returned v' ∧ St w0 bx w' v' ys := by
  obtain ⟨k, vl, s, g⟩ := x
  rw [entV_def]
  obtain ⟨hk1, hk2, hv, hs1, hs2, hg⟩ := hx
  simp only at hk1 hk2 hv hs1 hs2 hg
  obtain ⟨n, hn⟩ : ∃ n, sharedN (numsOf a) (numsOf k) = n := ⟨_, rfl⟩
  have hnk : n ≤ k.size := by have := (sharedN_le (numsOf a) (numsOf k)).2; rw [numsOf_len] at this; omega
  have HJ : Hid (∀ tl, tailN ⟨k, vl, s, g⟩ = tl → xs ++ smallN n ++ textN (k.extract n k.size) ++ smallN s.toNat ++ tl = ys) := by
    intro tl ht
    have := ent_join (numsOf a) k vl s xs g tl ht
    rw [hn, hy] at this
    exact this
  have HX : Hid (xs.length ≤ 1000000 ∧ n ≤ 256 ∧ k.size ≤ 256 ∧ (smallN n).length ≤ 5 ∧ (textN (k.extract n k.size)).length ≤ 300 ∧ (smallN s.toNat).length ≤ 5) := by
    have h1 := textN_len (k.extract n k.size) (by rw [ByteArray.size_extract]; omega)
    rw [ByteArray.size_extract] at h1
    exact ⟨hl, by omega, hk2, smallN_five n (by omega), by omega, smallN_five _ (by omega)⟩
  have HSH := fun w' => shared_any a k w' (by omega) n hn
  have q1 : (n : Int) ≤ (k.size : Int) := by omega
  have q2 : (k.size : Int) ≤ 256 := by omega
  have hs3 : 0 ≤ s ∧ s ≤ 9223372036854775807 := by omega
  have HV : Hid (vl.size ≤ 100000 ∧ (textN vl).length ≤ 5000) := ⟨by omega, by have := textN_len vl (by omega); omega⟩
  have HBY : Hid (∀ l ∈ [smallN n, textN (k.extract n k.size), smallN s.toNat, textN vl], ∀ c ∈ l, c < 256) := by
    intro l hl c hc
    simp only [List.mem_cons, List.not_mem_nil, or_false] at hl
    rcases hl with rfl | rfl | rfl | rfl
    · exact smallN_bytes _ c hc
    · exact textN_lt _ c hc
    · exact smallN_bytes _ c hc
    · exact textN_lt _ c hc
  have HKX : Hid ((k.extract n k.size).size ≤ 100000) := by show _ ≤ _; rw [ByteArray.size_extract]; omega
  have HST : Hid (St w0 bx w v xs) := hst
  clear hst hn hnk hy hl hg hk1 hk2 hv hs1 hs2 ha
  go_enter Try.func24, Try.ntmps24
  go_wp2_with fail
  refine (HSH _).mono ?_
  rintro e w1 ⟨rfl, hb1⟩
  have H1 : Hid (St w0 ((w.heap.size, #[.string k, .string vl, .int .i64 s, .bool g], 27) :: bx) w1 v xs) := (HST.out.alloc _ _ (by decide)).call hb1
  clear hb1 HSH HST
  go_wp2_with fail
  refine (small_i (n : Int) _ (by omega)).mono ?_
  rintro e w2 ⟨v2, rfl, ho2, hb2⟩
  rw [Int.toNat_natCast] at ho2
  obtain ⟨p2, c2, rfl, _, _, hp2⟩ := own_form ho2
  have H2 : Hid (St w0 ((w.heap.size, #[.string k, .string vl, .int .i64 s, .bool g], 27) :: bx) w2 v (xs)) := H1.out.call hb2
  have HI2 : Hid (BIn w2 p2 (smallN n)) := own_in ho2 (HBY.out _ (by simp))
  have hz2 := H2.out.size
  clear ho2 hb2 H1
  go_wp2_with (at_builtin; go_loud (refine wpList_append_bytes _ rfl _ _ rfl w0.heap.size _ _ (smallN n) p2 _ c2 rfl rfl rfl H2.out.own HI2.out hp2 (by (try simp only [List.length_append]); have := HX.out; omega) hz2 ?_); intro v3 w3 ho3 hg3; have t3 := H2.out.app ho3 hg3; have H3 : Hid _ := t3; have bx0 := t3.box0 0; have bx1 := t3.box0 1; have bx2 := t3.box0 2; have bx3 := t3.box0 3; clear t3 ho3 hg3 H2 HI2)
  go_wp2_with fail
  refine (text_any (k.extract n k.size) _ HKX.out).mono ?_
  rintro e w4 ⟨v4, rfl, ho4, hb4⟩
  clear bx0 bx1 bx2 bx3
  obtain ⟨p4, c4, rfl, _, _, hp4⟩ := own_form ho4
  have H4 : Hid (St w0 ((w.heap.size, #[.string k, .string vl, .int .i64 s, .bool g], 27) :: bx) w4 v3 (xs ++ smallN n)) := H3.out.call hb4
  have HI4 : Hid (BIn w4 p4 (textN (k.extract n k.size))) := own_in ho4 (HBY.out _ (by simp))
  have hz4 := H4.out.size
  clear ho4 hb4 H3
  go_wp2_with (at_builtin; go_loud (refine wpList_append_bytes _ rfl _ _ rfl w0.heap.size _ _ (textN (k.extract n k.size)) p4 _ c4 rfl rfl rfl H4.out.own HI4.out hp4 (by (try simp only [List.length_append]); have := HX.out; omega) hz4 ?_); intro v5 w5 ho5 hg5; have t5 := H4.out.app ho5 hg5; have H5 : Hid _ := t5; have bx0 := t5.box0 0; have bx1 := t5.box0 1; have bx2 := t5.box0 2; have bx3 := t5.box0 3; clear t5 ho5 hg5 H4 HI4)
  go_wp2_with fail
  refine (small_i s _ hs3).mono ?_
  rintro e w6 ⟨v6, rfl, ho6, hb6⟩
  clear bx0 bx1 bx2 bx3
  obtain ⟨p6, c6, rfl, _, _, hp6⟩ := own_form ho6
  have H6 : Hid (St w0 ((w.heap.size, #[.string k, .string vl, .int .i64 s, .bool g], 27) :: bx) w6 v5 (xs ++ smallN n ++ textN (k.extract n k.size))) := H5.out.call hb6
  have HI6 : Hid (BIn w6 p6 (smallN s.toNat)) := own_in ho6 (HBY.out _ (by simp))
  have hz6 := H6.out.size
  clear ho6 hb6 H5
  cases g with
  | true =>
    have HE : Hid (xs ++ smallN n ++ textN (k.extract n k.size) ++ smallN s.toNat ++ [1] = ys) := HJ.out [1] (by unfold tailN; rw [if_pos rfl, small1])
    go_wp2_with (first
      | (at_builtin; go_loud (refine wpList_append_bytes _ rfl _ _ rfl w0.heap.size _ _ (smallN s.toNat) p6 _ c6 rfl rfl rfl H6.out.own HI6.out hp6 (by (try simp only [List.length_append]); have := HX.out; omega) hz6 ?_); intro v7 w7 ho7 hg7; have t7 := H6.out.app ho7 hg7; have H7 : Hid _ := t7; have bx0 := t7.box0 0; have bx1 := t7.box0 1; have bx2 := t7.box0 2; have bx3 := t7.box0 3; clear t7 ho7 hg7 H6 HI6; have S8 := H7.out.call (below_alloc w7 (.cells #[.int .u8 1] 5)); have HI8 : Hid (BIn (w7.alloc (.cells #[.int .u8 1] 5)) (some ⟨w7.heap.size, 0, none⟩) [1]) := bin_lit w7 _ _ 5 (0, 0) _ rfl (by simp [Bs]) (by intro c hc; simp at hc; omega); have H8 : Hid _ := S8; have hz8 := S8.size; clear S8)
      | (at_builtin; go_loud (refine wpList_append_bytes _ rfl _ _ rfl w0.heap.size _ _ [1] (some ⟨w7.heap.size, 0, none⟩) _ 1 rfl rfl rfl H8.out.own HI8.out (fun h => by cases h) (by simp only [List.length_append, List.length_cons, List.length_nil]; have := HX.out; omega) hz8 ?_); intro v9 w9 ho9 hg9; have t9 := H8.out.app ho9 hg9; have H9 : Hid _ := t9; clear t9 ho9 hg9))
    go_ret
    exact ⟨v9, rfl, (H9.out.eq HE.out).drop⟩
  | false =>
    have HE : Hid (xs ++ smallN n ++ textN (k.extract n k.size) ++ smallN s.toNat ++ [0] ++ textN vl = ys) := by
      have := HJ.out ([0] ++ textN vl) (by unfold tailN textN; rw [if_neg (by simp), small0])
      rw [← List.append_assoc] at this
      exact this
    go_wp2_with (first
      | (at_builtin; go_loud (refine wpList_append_bytes _ rfl _ _ rfl w0.heap.size _ _ (smallN s.toNat) p6 _ c6 rfl rfl rfl H6.out.own HI6.out hp6 (by (try simp only [List.length_append]); have := HX.out; omega) hz6 ?_); intro v7 w7 ho7 hg7; have t7 := H6.out.app ho7 hg7; have H7 : Hid _ := t7; have bx0 := t7.box0 0; have bx1 := t7.box0 1; have bx2 := t7.box0 2; have bx3 := t7.box0 3; clear t7 ho7 hg7 H6 HI6; have S8 := H7.out.call (below_alloc w7 (.cells #[.int .u8 0] 5)); have HI8 : Hid (BIn (w7.alloc (.cells #[.int .u8 0] 5)) (some ⟨w7.heap.size, 0, none⟩) [0]) := bin_lit w7 _ _ 5 (0, 0) _ rfl (by simp [Bs]) (by intro c hc; simp at hc; omega); have H8 : Hid _ := S8; have hz8 := S8.size; clear S8)
      | (at_builtin; go_loud (refine wpList_append_bytes _ rfl _ _ rfl w0.heap.size _ _ [0] (some ⟨w7.heap.size, 0, none⟩) _ 1 rfl rfl rfl H8.out.own HI8.out (fun h => by cases h) (by simp only [List.length_append, List.length_cons, List.length_nil]; have := HX.out; omega) hz8 ?_); intro v9 w9 ho9 hg9; have t9 := H8.out.app ho9 hg9; have H9 : Hid _ := t9; clear bx0 bx1 bx2 bx3; have bx1 := t9.box0 1; clear t9 ho9 hg9))
    go_wp2_with fail
    refine (text_any vl _ HV.out.1).mono ?_
    rintro e w10 ⟨v10, rfl, ho10, hb10⟩
    obtain ⟨p10, c10, rfl, _, _, hp10⟩ := own_form ho10
    have H10 : Hid (St w0 ((w.heap.size, #[.string k, .string vl, .int .i64 s, .bool false], 27) :: bx) w10 v9 (xs ++ smallN n ++ textN (k.extract n k.size) ++ smallN s.toNat ++ [0])) := H9.out.call hb10
    have HI10 : Hid (BIn w10 p10 (textN vl)) := own_in ho10 (HBY.out _ (by simp))
    have hz10 := H10.out.size
    clear ho10 hb10 H9 H8
    go_wp2_with (at_builtin; go_loud (refine wpList_append_bytes _ rfl _ _ rfl w0.heap.size _ _ (textN vl) p10 _ c10 rfl rfl rfl H10.out.own HI10.out hp10 (by simp only [List.length_append, List.length_cons, List.length_nil]; have := HX.out; have := HV.out; omega) hz10 ?_); intro v11 w11 ho11 hg11; have t11 := H10.out.app ho11 hg11; have H11 : Hid _ := t11; clear t11 ho11 hg11)
    go_ret
    exact ⟨v11, rfl, (H11.out.eq HE.out).drop⟩
end Go.Proofs.Ytldgnejmmjbhiaa
namespace Go.Proofs.Ytldgnejmmjbhiaa
open Go.RowKit Go.WideShapes

def prevE (l : List EntV) (k : Nat) : Option EntV := if k = 0 then none else some (l.getD (k - 1) zeroE)
theorem dropE {l : List EntV} {k : Nat} (h : k < l.length) : l.drop k = l.getD k zeroE :: l.drop (k + 1) := by
  rw [List.getD_eq_getElem?_getD, List.getElem?_eq_getElem h]; exact List.drop_eq_getElem_cons h
theorem checkF_one {l : List EntV} {k : Nat} (h : k < l.length) {y : EntV} (hy : l.getD k zeroE = y) (h1 : oneE y ≠ 0) : checkF (prevE l k) (l.drop k) = oneE y := by
  rw [dropE h, hy]
  cases hp : prevE l k <;> (unfold checkF; rw [if_pos h1])
theorem checkF_zero {l : List EntV} (h : 0 < l.length) {y : EntV} (hy : l.getD 0 zeroE = y) (h1 : oneE y = 0) : checkF (prevE l 0) (l.drop 0) = checkF (prevE l 1) (l.drop 1) := by
  rw [dropE h, hy]
  have e0 : prevE l 0 = none := rfl
  have e1 : prevE l 1 = some y := by unfold prevE; rw [if_neg (by omega)]; rw [show 1 - 1 = 0 from rfl, hy]
  rw [e0, e1]
  conv => lhs; unfold checkF
  rw [if_neg (by simp [h1])]
theorem checkF_next {l : List EntV} {k : Nat} (h : k + 1 < l.length) {x y : EntV} (hx : l.getD k zeroE = x) (hy : l.getD (k + 1) zeroE = y) (h1 : oneE y = 0) : checkF (prevE l (k + 1)) (l.drop (k + 1)) = if lessE x y = true then checkF (prevE l (k + 2)) (l.drop (k + 2)) else 100 := by
  rw [dropE h, hy]
  have e0 : prevE l (k + 1) = some x := by unfold prevE; rw [if_neg (by omega), show k + 1 - 1 = k from by omega, hx]
  have e1 : prevE l (k + 2) = some y := by unfold prevE; rw [if_neg (by omega), show k + 2 - 1 = k + 1 from by omega, hy]
  rw [e0, e1]
  conv => lhs; unfold checkF
  rw [if_neg (by simp [h1])]
theorem checkF_end (l : List EntV) (k : Nat) (h : l.length ≤ k) : checkF (prevE l k) (l.drop k) = 0 := by
  rw [List.drop_eq_nil_of_le h]
  cases prevE l k <;> rfl
theorem box4c (w : World) (a b c d : Value) (t : TypeId) : (w.alloc (.cells #[a, b, c, d] t)).cell? ⟨w.heap.size, 0, none⟩ = some a ∧ (w.alloc (.cells #[a, b, c, d] t)).cell? ⟨w.heap.size, 1, none⟩ = some b ∧ (w.alloc (.cells #[a, b, c, d] t)).cell? ⟨w.heap.size, 2, none⟩ = some c ∧ (w.alloc (.cells #[a, b, c, d] t)).cell? ⟨w.heap.size, 3, none⟩ = some d := by
  have h := heap_alloc_new w (.cells #[a, b, c, d] t)
  exact ⟨Lib.cell_of_heap h 0, Lib.cell_of_heap h 1, Lib.cell_of_heap h 2, Lib.cell_of_heap h 3⟩
theorem below_dw {a c : World} (h : Below a.drew.heap.size a.drew c) : Below a.heap.size a c := ⟨h.os, h.tape, h.output, h.size, h.block⟩
/-- Four cells side by side. -/
abbrev C4 (w : World) (g o : Nat) (a b c d : Value) : Prop := w.cell? ⟨g, o, none⟩ = some a ∧ w.cell? ⟨g, o + 1, none⟩ = some b ∧ w.cell? ⟨g, o + 2, none⟩ = some c ∧ w.cell? ⟨g, o + 3, none⟩ = some d
theorem c4_below {w w' : World} {g o : Nat} {a b c d : Value} (h : C4 w g o a b c d) (hb : Below w.heap.size w w') : C4 w' g o a b c d := by
  obtain ⟨a0, a1, a2, a3⟩ := h
  exact ⟨(hb.cell (World.block_lt_of_cell? _ _ a0)).trans a0, (hb.cell (World.block_lt_of_cell? _ _ a1)).trans a1, (hb.cell (World.block_lt_of_cell? _ _ a2)).trans a2, (hb.cell (World.block_lt_of_cell? _ _ a3)).trans a3⟩
set_option maxRecDepth 8000 in
set_option maxHeartbeats 4000000 in
theorem Check_any (q : Option Addr) (n c : Nat) (l : List EntV) (w : World) (h : EntsL w q n l) (C : Nat) (hC : checkE l = C) :
    Calls Try.prog 12 #[.slice q n c] w fun e w' => e = .returned (.int .i64 (C : Int)) ∧ Below w.heap.size w w' := by
  unfold checkE at hC
  have HN : Hid (n = l.length) := h.n
  by_cases hl : 4096 < l.length
  · rw [if_pos hl] at hC
    subst hC
    have g1 : (4096 : Int) < (n : Int) := by have := h.n; omega
    clear hl h
    go_enter Try.func12, Try.ntmps12
    go_wp2
    go_ret
    exact ⟨rfl, Below.refl _ _⟩
  rw [if_neg hl] at hC
  have g1 : (n : Int) ≤ 4096 := by have := h.n; omega
  have HQ : Hid (EntsIn w q l) := h.lies
  have HC : Hid (checkF (prevE l 0) (l.drop 0) = C) := hC
  clear hC h hl
  go_enter Try.func12, Try.ntmps12
  go_wp2
  go_loopw [11] (fun i wr => ∃ k : Nat, k ≤ n ∧ i = .int .i64 k ∧ checkF (prevE l k) (l.drop k) = C ∧ Below w.heap.size w wr) (fun i _ => n - (intOf i).toNat)
  case atStart => exact ⟨0, by omega, rfl, HC.out, Below.refl _ _⟩
  case round =>
    obtain ⟨k, hk, rfl, hs, hbel⟩ := hrel
    have HK : Hid (checkF (prevE l k) (l.drop k) = C) := hs
    have HB : Hid (Below w.heap.size w wr) := hbel
    clear hs hbel
    by_cases hkl : k < n
    · have hkl' : k < l.length := by have := HN.out; omega
      obtain ⟨b, o, rfl⟩ := HQ.out.addr (by omega)
      have HQ2 := (HQ.out.below HB.out)
      obtain ⟨e0, e1, e2, e3⟩ := HQ2.at hkl'
      obtain ⟨y, hy⟩ : ∃ y, l.getD k zeroE = y := ⟨_, rfl⟩
      rw [hy] at e0 e1 e2 e3
      have HY : Hid (l.getD k zeroE = y) := hy
      obtain ⟨ke, ve, se, ge⟩ := y
      simp only at e0 e1 e2 e3
      obtain ⟨E, hE⟩ : ∃ E, oneE ⟨ke, ve, se, ge⟩ = E := ⟨_, rfl⟩
      have HE : Hid (oneE ⟨ke, ve, se, ge⟩ = E) := hE
      have HCE := fun w' => checkEntry_any ⟨ke, ve, se, ge⟩ w' E hE
      rw [entV_def] at HCE
      have BX := box4c wr (.string ke) (.string ve) (.int .i64 se) (.bool ge) 27
      have HBX : Hid (C4 (wr.alloc (.cells #[.string ke, .string ve, .int .i64 se, .bool ge] 27)) wr.heap.size 0 (.string ke) (.string ve) (.int .i64 se) (.bool ge)) := BX
      have hkn : (k : Int) < (n : Int) := by omega
      have HKL : Hid (k < l.length) := hkl'
      clear hE hy BX hkl'
      rcases Nat.eq_zero_or_pos E with hE0 | hE0
      · subst hE0
        rcases k with _ | k
        · have H2 : Hid (checkF (prevE l 1) (l.drop 1) = C) := by show _ = _; rw [← checkF_zero HKL.out HY.out HE.out]; exact HK.out
          clear HQ2
          simp only [Nat.zero_mul, Nat.add_zero] at e0 e1 e2 e3
          go_wp2_with fail
          refine (HCE _).mono ?_
          rintro e w2 ⟨rfl, hb2⟩
          obtain ⟨d0, d1, d2, d3⟩ := c4_below HBX.out hb2
          have HB2 : Hid (Below w.heap.size w w2) := below_bt (below_bt HB.out (below_alloc _ _)) hb2
          clear hb2 HCE HBX
          go_wp2
          go_quiet (fail)
          go_wp2
          go_roundw
          case rel => exact ⟨1, by omega, by go_num, H2.out, below_drewN HB2.out _⟩
          case measure => simp [intOf]; omega
        · obtain ⟨x, hx⟩ : ∃ x, l.getD k zeroE = x := ⟨_, rfl⟩
          obtain ⟨kx, vx, sx, gx⟩ := x
          have h4 := HQ2.at (k := k) (by have := HKL.out; omega)
          rw [hx] at h4
          have HP : Hid (C4 wr b (o + k * 4) (.string kx) (.string vx) (.int .i64 sx) (.bool gx)) := h4
          have HNX := checkF_next HKL.out hx HY.out HE.out
          obtain ⟨r, hr⟩ : ∃ r, lessE ⟨kx, vx, sx, gx⟩ ⟨ke, ve, se, ge⟩ = r := ⟨_, rfl⟩
          have HLE := fun w' => less_any ⟨kx, vx, sx, gx⟩ ⟨ke, ve, se, ge⟩ w'
          rw [hr, entV_def, entV_def] at HLE
          rw [hr, HK.out] at HNX
          have HNX' : Hid (C = if r = true then checkF (prevE l (k + 2)) (l.drop (k + 2)) else 100) := HNX
          clear hx hr HQ2 h4 HNX
          go_wp2_with fail
          refine (HCE _).mono ?_
          rintro e w2 ⟨rfl, hb2⟩
          have HD : Hid (C4 w2 wr.heap.size 0 (.string ke) (.string ve) (.int .i64 se) (.bool ge)) := c4_below HBX.out hb2
          have HP2 : Hid (C4 w2 b (o + k * 4) (.string kx) (.string vx) (.int .i64 sx) (.bool gx)) := c4_below HP.out (below_bt (below_alloc _ _) hb2)
          have HB2 : Hid (Below w.heap.size w w2) := below_bt (below_bt HB.out (below_alloc _ _)) hb2
          clear hb2 HCE HBX HP
          generalize wr.heap.size = g at *
          have kw0 : IntKind.i64.wrap (k : Int) = (k : Int) := by rw [IntKind.wrap_i64]; omega
          have kw1 : IntKind.i64.wrap ((k : Int) + 1 - 1) = (k : Int) := by rw [IntKind.wrap_i64]; omega
          have kw2 : IntKind.i64.wrap (((k + 1 : Nat) : Int) - 1) = (k : Int) := by rw [IntKind.wrap_i64]; omega
          have kb0 : (0 : Int) ≤ (k : Int) := by omega
          have kb1 : (k : Int) < (n : Int) := by omega
          go_wp2
          go_region_held3 (fun w' => (w'.cell? ⟨g, 0, none⟩ = some (.string ke) ∧ w'.cell? ⟨g, 0 + 1, none⟩ = some (.string ve) ∧ w'.cell? ⟨g, 0 + 2, none⟩ = some (.int .i64 se) ∧ w'.cell? ⟨g, 0 + 3, none⟩ = some (.bool ge)) ∧ (w'.cell? ⟨b, o + k * 4, none⟩ = some (.string kx) ∧ w'.cell? ⟨b, o + k * 4 + 1, none⟩ = some (.string vx) ∧ w'.cell? ⟨b, o + k * 4 + 2, none⟩ = some (.int .i64 sx) ∧ w'.cell? ⟨b, o + k * 4 + 3, none⟩ = some (.bool gx)) ∧ Below w2.heap.size w2 w')
            (with_reducible first | exact ⟨HD.out, HP2.out, Below.refl _ _⟩ | exact ⟨c4_below HD.out (Below.refl _ _).drew, c4_below HP2.out (Below.refl _ _).drew, (Below.refl _ _).drew⟩ | exact ⟨c4_below HD.out (below_dw (by assumption)), c4_below HP2.out (below_dw (by assumption)), below_dw (by assumption)⟩ | assumption)
            (first
              | (go_at_call 15; refine (HLE _).mono ?_; rintro e w3 ⟨rfl, hb3⟩)
              | fail)
          rename_i hh
          have HB3 : Hid (Below w.heap.size w w3) := below_bt HB2.out hh.2.2
          clear hh
          cases r with
          | true =>
            have H2 : Hid (checkF (prevE l (k + 2)) (l.drop (k + 2)) = C) := by have := HNX'.out; rw [if_pos rfl] at this; exact this.symm
            go_wp2
            go_roundw
            case rel => exact ⟨k + 2, by omega, by go_num, H2.out, HB3.out⟩
            case measure => simp [intOf]; omega
          | false =>
            have H2 : Hid (C = 100) := by have := HNX'.out; rw [if_neg (by simp)] at this; exact this
            go_wp2
            go_ret
            exact ⟨by rw [H2.out]; rfl, HB3.out⟩
      · have hne : ((E : Int) != 0) = true := by simp; omega
        have H2 : Hid (E = C) := by show _ = _; rw [← HK.out, checkF_one HKL.out HY.out (by rw [HE.out]; omega), HE.out]
        clear HQ2 hE0
        go_wp2_with fail
        refine (HCE _).mono ?_
        rintro e w2 ⟨rfl, hb2⟩
        have HB2 : Hid (Below w.heap.size w w2) := below_bt (below_bt HB.out (below_alloc _ _)) hb2
        clear hb2 HCE HBX
        go_wp2
        go_ret
        exact ⟨by rw [← H2.out]; rfl, HB2.out⟩
    · have g2 : (n : Int) ≤ (k : Int) := by omega
      have H2 : Hid (C = 0) := by show _ = _; rw [← HK.out]; exact checkF_end l k (by have := HN.out; omega)
      go_wp2
      go_ret
      exact ⟨by rw [H2.out]; rfl, HB.out⟩
end Go.Proofs.Ytldgnejmmjbhiaa
namespace Go.Proofs.Ytldgnejmmjbhiaa
open Go.RowKit Go.WideShapes

def lastK : List Nat → List EntV → List Nat
  | a, [] => a
  | _, x :: l => lastK (numsOf x.key) l
theorem entsN_app : ∀ (l m : List EntV) (a : List Nat), entsN a (l ++ m) = entsN a l ++ entsN (lastK a l) m
  | [], m, a => rfl
  | x :: l, m, a => by simp only [List.cons_append, entsN, lastK, entsN_app l m, List.append_assoc]
theorem lastK_snoc : ∀ (l : List EntV) (x : EntV) (a : List Nat), lastK a (l ++ [x]) = numsOf x.key
  | [], x, a => rfl
  | y :: l, x, a => by simp only [List.cons_append, lastK, lastK_snoc l x]
theorem take_snoc {l : List EntV} {k : Nat} (h : k < l.length) {y : EntV} (hy : l.getD k zeroE = y) : l.take (k + 1) = l.take k ++ [y] := by
  rw [List.take_add_one, List.getElem?_eq_getElem h, ← hy, List.getD_eq_getElem?_getD, List.getElem?_eq_getElem h]; rfl
/-- What Make has written ahead of the entry k. -/
def wayN (l : List EntV) (k : Nat) : List Nat := smallN l.length ++ entsN [] (l.take k)
theorem wayN_next {l : List EntV} {k : Nat} (h : k < l.length) {y : EntV} (hy : l.getD k zeroE = y) {a : ByteArray} (ha : numsOf a = lastK [] (l.take k)) : wayN l k ++ entN (numsOf a) y = wayN l (k + 1) ∧ numsOf y.key = lastK [] (l.take (k + 1)) := by
  unfold wayN
  rw [take_snoc h hy, entsN_app, lastK_snoc, ← ha]
  simp [entsN]
theorem wayN_len (l : List EntV) (k : Nat) : (wayN l k).length ≤ (bodyN l).length := by
  unfold wayN bodyN
  have : entsN [] l = entsN [] (l.take k) ++ entsN (lastK [] (l.take k)) (l.drop k) := by rw [← entsN_app, List.take_append_drop]
  rw [this]
  simp only [List.length_append]
  omega
theorem wayN_all {l : List EntV} {k : Nat} (h : l.length ≤ k) : wayN l k = bodyN l := by unfold wayN bodyN; rw [List.take_of_length_le h]
theorem page_len (l : List EntV) : (pageN l).length = (bodyN l).length + 4 := by unfold pageN; rw [List.length_append, sum4_len]
theorem own_mono {w : World} {B B' e size n : Nat} {v : Value} {xs : List Value} (h : w.ownsRow B' e size v n xs) (hB : B ≤ B') : w.ownsRow B e size v n xs := by
  rcases h with ⟨h1, h2⟩
  refine ⟨h1, ?_⟩
  rcases h2 with h | ⟨g, cap, cur, hv, hb, hr⟩
  · exact .inl h
  · exact .inr ⟨g, cap, cur, hv, Nat.le_trans hB hb, hr⟩
theorem entN_len (a : List Nat) {x : EntV} (h : OkE x) : (entN a x).length ≤ 5000 := by
  have h1 := (sharedN_le a (numsOf x.key)).2
  rw [numsOf_len] at h1
  have := h.key2; have := h.val; have := h.seq1; have := h.seq2
  have s1 := smallN_five (sharedN a (numsOf x.key)) (by omega)
  have s2 := smallN_five (x.key.size - sharedN a (numsOf x.key)) (by omega)
  have s3 := smallN_five x.seq.toNat (by omega)
  have s4 := smallN_five x.val.size (by omega)
  unfold entN keyN tailN
  rw [small1, small0]
  simp only [List.length_append, List.length_drop, numsOf_len]
  split
  · simp only [List.length_cons, List.length_nil]; omega
  · simp only [List.length_append, List.length_cons, List.length_nil, numsOf_len]; omega
theorem makeE_long {l : List EntV} (h : checkE l = 0) {k : Nat} (hk : 65532 < (wayN l k).length) : makeE l = ([], 7) := by
  unfold makeE
  have := wayN_len l k
  rw [if_pos h, if_pos (by rw [page_len]; omega)]
theorem makeE_all {l : List EntV} (h : checkE l = 0) (hk : (bodyN l).length ≤ 65532) : makeE l = (pageN l, 0) := by
  unfold makeE
  rw [if_pos h, if_neg (by rw [page_len]; omega)]
theorem makeE_no {l : List EntV} (h : checkE l ≠ 0) : makeE l = ([], checkE l) := by
  unfold makeE
  rw [if_neg h]
set_option maxRecDepth 8000 in
set_option maxHeartbeats 1000000 in
theorem Make_any (q : Option Addr) (n c : Nat) (l : List EntV) (w : World) (h : EntsL w q n l) (ys : List Nat) (E : Nat) (hR : makeE l = (ys, E)) :
    Calls Try.prog 9 #[.slice q n c] w fun e w' => ∃ v, e = .returned (.tuple #[v, .int .i64 (E : Int)]) ∧ w'.ownsRow w.heap.size 5 1 v ys.length (Bs ys) ∧ Below w.heap.size w w' := by
  have HN : Hid (n = l.length) := h.n
  obtain ⟨C, hC⟩ : ∃ C, checkE l = C := ⟨_, rfl⟩
  have HCK := Check_any q n c l w h C hC
  have HR : Hid (makeE l = (ys, E)) := hR
  have HQ : Hid (EntsL w q n l) := h
  have HC : Hid (checkE l = C) := hC
  clear h hR hC
  go_enter Try.func9, Try.ntmps9
  go_wp2_with fail
  refine HCK.mono ?_
  rintro e w1 ⟨rfl, hb1⟩
  have HB1 : Hid (Below w.heap.size w w1) := hb1
  clear hb1 HCK
  rcases Nat.eq_zero_or_pos C with h0 | h0
  · subst h0
    have HO := checkE_ok HC.out
    have hn4 : (n : Int) ≤ 4096 := by have := HN.out; have := HO.1; omega
    have HOK : Hid (∀ x ∈ l, OkE x) := HO.2
    clear HO
    go_wp2_with fail
    refine (small_i (n : Int) _ (by omega)).mono ?_
    rintro e w2 ⟨v2, rfl, ho2, hb2⟩
    rw [Int.toNat_natCast] at ho2
    have HS2 : Hid (St w [] w2 v2 (smallN n)) := ⟨own_mono ho2 HB1.out.size, below_bt HB1.out hb2, fun p hp => by simp at hp⟩
    clear ho2 hb2
    go_wp2
    go_loopw [5, 6, 19] (fun v a i wr => ∃ k : Nat, ∃ s : ByteArray, k ≤ n ∧ i = .int .i64 k ∧ a = .string s ∧ numsOf s = lastK [] (l.take k) ∧ s.size ≤ 256 ∧ (wayN l k).length ≤ 65532 ∧ St w [] wr v (wayN l k)) (fun _ _ i _ => n - (intOf i).toNat)
    case atStart =>
      have e : wayN l 0 = smallN n := by unfold wayN; rw [HN.out]; simp [entsN]
      refine ⟨0, ByteArray.empty, by omega, rfl, rfl, rfl, by decide, ?_, by rw [e]; exact HS2.out⟩
      rw [e]
      have := smallN_five n (by omega)
      omega
    case round =>
      obtain ⟨k, s, hk, rfl, rfl, hs, hsz, hlen, hst⟩ := hrel
      have HST : Hid (St w [] wr u5 (wayN l k)) := hst
      have HSS : Hid (numsOf s = lastK [] (l.take k) ∧ s.size ≤ 256 ∧ (wayN l k).length ≤ 65532) := ⟨hs, hsz, hlen⟩
      clear hst hs hsz hlen
      by_cases hkl : k < n
      · have hkl' : k < l.length := by have := HN.out; omega
        obtain ⟨b, o, rfl⟩ := HQ.out.lies.addr (by omega)
        obtain ⟨e0, e1, e2, e3⟩ := (HQ.out.lies.below HST.out.bel).at hkl'
        obtain ⟨y, hy⟩ : ∃ y, l.getD k zeroE = y := ⟨_, rfl⟩
        rw [hy] at e0 e1 e2 e3
        have HOY : Hid (OkE y) := HOK.out y (by rw [← hy]; exact getD_mem' hkl')
        obtain ⟨hw1, hw2⟩ := wayN_next hkl' hy HSS.out.1
        obtain ⟨zs, hzs⟩ : ∃ zs, wayN l (k + 1) = zs := ⟨_, rfl⟩
        rw [hzs] at hw1
        obtain ⟨ke, ve, se, ge⟩ := y
        simp only at e0 e1 e2 e3 hw2
        have HA := appendEntry_any w [(wr.heap.size, #[.string ke, .string ve, .int .i64 se, .bool ge], 27)] _ _ _ s ⟨ke, ve, se, ge⟩ (HST.out.alloc #[.string ke, .string ve, .int .i64 se, .bool ge] 27 (by decide)) HOY.out HSS.out.2.1 (by have := HSS.out; omega) zs hw1
        rw [entV_def] at HA
        have HW : Hid (numsOf ke = lastK [] (l.take (k + 1)) ∧ ke.size ≤ 256 ∧ wayN l (k + 1) = zs) := ⟨hw2, HOY.out.key2, hzs⟩
        have hkn : (k : Int) < (n : Int) := by omega
        have HZL : Hid (zs.length ≤ 100000) := by show _ ≤ _; rw [← hw1, List.length_append]; have := entN_len (numsOf s) HOY.out; have := HSS.out.2.2; omega
        clear hy hw1 hw2 hzs HST
        go_wp2_with fail
        refine HA.mono ?_
        rintro e w3 ⟨v3, rfl, hs3⟩
        obtain ⟨p3, c3, rfl, _, hc3, _⟩ := own_form hs3.own
        have HS3 : Hid _ := hs3
        have hz3 : IntKind.i64.wrap ((zs.length : Int) + 4) = (zs.length : Int) + 4 := by have := HZL.out; rw [IntKind.wrap_i64]; omega
        have d0 := hs3.box0 0
        clear hs3 HA
        by_cases hbig : 65532 < zs.length
        · have g5 : decide ((65536 : Int) < (zs.length : Int) + 4) = true := decide_eq_true (by omega)
          have HE : Hid (ys = [] ∧ E = 7) := by
            have := makeE_long HC.out (k := k + 1) (by rw [HW.out.2.2]; exact hbig)
            rw [HR.out] at this
            show _ ∧ _
            simpa using this
          clear hbig
          go_wp2
          go_ret2
          exact ⟨.slice none 0 0, by rw [HE.out.2]; rfl, by rw [HE.out.1]; exact World.ownsRow_nil _ _ _ _, HS3.out.bel⟩
        · have g5 : decide ((65536 : Int) < (zs.length : Int) + 4) = false := decide_eq_false (by omega)
          have HBG : Hid (zs.length ≤ 65532) := by show _ ≤ _; omega
          clear hbig
          go_wp2
          go_roundw
          case rel => exact ⟨k + 1, ke, by omega, by go_num, rfl, HW.out.1, HW.out.2.1, by rw [HW.out.2.2]; exact HBG.out, by rw [HW.out.2.2]; exact HS3.out.drop⟩
          case measure => simp [intOf]; omega
      · have g2 : (n : Int) ≤ (k : Int) := by omega
        have hwa := wayN_all (l := l) (k := k) (by have := HN.out; omega)
        have HE : Hid (ys = pageN l ∧ E = 0) := by
          have := makeE_all HC.out (by rw [← hwa]; exact HSS.out.2.2)
          rw [HR.out] at this
          show _ ∧ _
          simpa using this
        obtain ⟨bs, hbs⟩ : ∃ bs, bodyN l = bs := ⟨_, rfl⟩
        have HBS : Hid (bodyN l = bs) := hbs
        have HST2 : Hid (St w [] wr u5 bs) := by rw [← hbs, ← hwa]; exact HST.out
        have HLB : Hid (bs.length ≤ 65532 ∧ ∀ c ∈ bs, c < 256) := ⟨by rw [← hbs, ← hwa]; exact HSS.out.2.2, hbs ▸ bodyN_lt l⟩
        obtain ⟨p5, c5, rfl, _, _, _⟩ := own_form HST2.out.own
        have HSM := sum_page p5 bs.length c5 bs wr rfl (own_in HST2.out.own HLB.out.2) (by have := HLB.out.1; omega)
        clear hwa HST hbs
        go_wp2_with fail
        refine HSM.mono ?_
        rintro e w4 ⟨g4, rfl, hi4, hb4⟩
        have HS4 : Hid (St w [] w4 (.slice p5 bs.length c5) bs) := HST2.out.call hb4
        have HI4 : Hid (BIn w4 (some ⟨g4, 0, none⟩) (sum4 bs)) := hi4
        have hz4 := HS4.out.size
        clear hi4 hb4 HST2
        go_wp2_with (at_builtin; go_loud (refine wpList_append_bytes _ rfl _ _ rfl w.heap.size _ _ (sum4 bs) (some ⟨g4, 0, none⟩) _ 8 rfl rfl rfl HS4.out.own HI4.out (fun h => by cases h) (by rw [sum4_len]; have := HLB.out; omega) hz4 ?_); intro v6 w6 ho6 hg6; have t6 := HS4.out.app ho6 hg6; have H6 : Hid _ := t6; clear t6 ho6 hg6)
        go_ret2
        have hpg : bs ++ sum4 bs = ys := by rw [HE.out.1, ← HBS.out]; rfl
        exact ⟨v6, by rw [HE.out.2]; rfl, (H6.out.eq hpg).own, H6.out.bel⟩
  · have hne : ((C : Int) != 0) = true := by simp; omega
    have HE : Hid (ys = [] ∧ E = C) := by
      have := makeE_no (l := l) (by rw [HC.out]; omega)
      rw [HR.out, HC.out] at this
      show _ ∧ _
      simpa using this
    clear h0
    go_wp2
    go_ret2
    exact ⟨.slice none 0 0, by rw [HE.out.2]; rfl, by rw [HE.out.1]; exact World.ownsRow_nil _ _ _ _, HB1.out⟩
end Go.Proofs.Ytldgnejmmjbhiaa
namespace Go.Proofs.Ytldgnejmmjbhiaa
open Go.RowKit Go.WideShapes

theorem readAux_some (ys : List Nat) : ∀ {i acc n k : Nat}, i ≤ 9 → acc < 2 ^ (7 * i) → readAux i acc ys = some (n, k) → i < k ∧ k ≤ i + ys.length ∧ k ≤ 10 ∧ n < 18446744073709551616 := by
  induction ys with
  | nil => intro i acc n k _ _ h; simp [readAux] at h
  | cons c ys ih =>
    intro i acc n k hi hacc h
    by_cases h9 : i = 9 ∧ 1 < c
    · rw [aux_big h9] at h; cases h
    · by_cases hc : 128 ≤ c
      · rw [aux_hi h9 hc] at h
        have := ih (by omega) (acc_lt i acc c hacc) h
        simp; omega
      · by_cases h0 : c = 0 ∧ 0 < i
        · rw [aux_zero h9 hc h0] at h; cases h
        · rw [aux_end h9 hc h0] at h
          simp only [Option.some.injEq, Prod.mk.injEq] at h
          have := read_fits i acc c hi hacc (by omega)
          simp; omega
theorem readN_some {xs : List Nat} {n k : Nat} (h : readN xs = some (n, k)) : 1 ≤ k ∧ k ≤ xs.length ∧ k ≤ 10 ∧ n < 18446744073709551616 := by
  have := readAux_some xs (by omega) (by decide) h
  omega

theorem read_some (p : Option Addr) (len cap : Nat) (xs : List Nat) (w : World) (n k : Nat) (hlen : len = xs.length) (hb : BIn w p xs) (hm : xs.length ≤ maxLen) (hr : readN xs = some (n, k)) :
    Calls Try.prog 51 #[.slice p len cap] w fun e w' => e = .returned (.tuple #[.int .u64 n, .int .i64 k, .int .i64 0]) ∧ w' = w := by
  subst hlen
  refine (read_any p cap xs w hb hm).mono fun e w' h => ⟨?_, h.2⟩
  rw [h.1, hr]; rfl
theorem read_none (p : Option Addr) (len cap : Nat) (xs : List Nat) (w : World) (hlen : len = xs.length) (hb : BIn w p xs) (hm : xs.length ≤ maxLen) (hr : readN xs = none) :
    Calls Try.prog 51 #[.slice p len cap] w fun e w' => e = .returned (.tuple #[.int .u64 0, .int .i64 0, .int .i64 8]) ∧ w' = w := by
  subst hlen
  refine (read_any p cap xs w hb hm).mono fun e w' h => ⟨?_, h.2⟩
  rw [h.1, hr]; rfl
/-- Where a part of a row of bytes lies. -/
theorem bin_part {w : World} {b o : Nat} {xs : List Nat} (h : BIn w (some ⟨b, o, none⟩) xs) (cap k : Nat) (hcap : xs.length ≤ cap) (n : Nat) : BIn w (if cap = k then some ⟨b, o, none⟩ else some ⟨b, o + k, none⟩) ((xs.drop k).take n) := by
  refine ⟨fun hp => ?_, fun c hc => h.2 c (List.mem_of_mem_drop (List.mem_of_mem_take hc))⟩
  simp at hp
  rw [if_neg (by omega)]
  refine ⟨b, o + k, rfl, fun i hi => ?_⟩
  simp at hi
  have := h.cell (k + i) (by omega)
  rw [Nat.add_assoc, this]
  simp [List.getD, show i < n from by omega]
theorem conv_at {w : World} {p : Option Addr} {xs : List Nat} {n c : Nat} (h : BIn w p xs) (hn : n = xs.length) : (convert 22 9 (.slice p n c)).run Try.prog w = .ok (.string (strOf xs)) w := by
  subst hn; exact h.conv c
end Go.Proofs.Ytldgnejmmjbhiaa
namespace Go.Proofs.Ytldgnejmmjbhiaa
open Go.RowKit Go.WideShapes
variable {B : Nat}

theorem grown_set (w : World) (g i : Nat) (v : Value) : w.grownBy (w.setCell ⟨g, i, none⟩ v) (some g) :=
  ⟨rfl, rfl, rfl, by simp, fun k _ hn => Below.heap_setCell w ⟨g, i, none⟩ v k (fun e => hn (by rw [e]))⟩
theorem block_set {w : World} {g i : Nat} {cs : Array Value} {t : TypeId} {fr : Nat × Nat} (h : w.heap[g]? = some (.cells cs t fr)) (v : Value) : (w.setCell ⟨g, i, none⟩ v).heap[g]? = some (.cells (cs.setIfInBounds i v) t fr) := by
  rw [setCell_eq_setRow w g i cs t fr v h]
  exact setRow_heap w g cs _ t _ h
theorem grown_refl (w : World) (r : Option Nat) : w.grownBy w r := ⟨rfl, rfl, rfl, Nat.le_refl _, fun _ _ _ => rfl⟩
theorem grown_trans {a b c : World} {r : Option Nat} (h1 : a.grownBy b r) (h2 : b.grownBy c r) : a.grownBy c r :=
  ⟨h2.os.trans h1.os, h2.tape.trans h1.tape, h2.output.trans h1.output, Nat.le_trans h1.size h2.size, fun k hk hn => (h2.block k (Nat.lt_of_lt_of_le hk h1.size) hn).trans (h1.block k hk hn)⟩
theorem grown_below {a b : World} (h : Below a.heap.size a b) (r : Option Nat) : a.grownBy b r := ⟨h.os, h.tape, h.output, h.size, fun k hk _ => h.block k hk⟩
theorem two2 {w : World} {g : Nat} {a b : Value} {t : TypeId} (h : w.heap[g]? = some (.cells #[a, b] t (0, 0))) : (w.cell? ⟨g, 0, none⟩ = some a ∧ w.cell? ⟨g, 1, none⟩ = some b) ∧ w.frozen? ⟨g, 0, none⟩ = false ∧ w.frozen? ⟨g, 1, none⟩ = false :=
  ⟨⟨cell_of_row w _ 0 _ _ _ h, cell_of_row w _ 1 _ _ _ h⟩, by simp [World.frozen?, h], by simp [World.frozen?, h]⟩
/-- A slice cut from k on, and one cut at k with no room behind. -/
theorem cut_from (p : Option Addr) (n c k : Nat) (xs : List Nat) (hn : n = xs.length) (hc : n ≤ c) (hk : k ≤ n) (hp : p = none → c = 0) :
    ∃ p', (∀ w, (Instr.slice 22 (.slice p n c) (some (.int .i64 k)) none none).run Try.prog w = .ok (.slice p' (n - k) (c - k)) w) ∧ (∀ w, BIn w p xs → BIn w p' (xs.drop k)) ∧ (p' = none → c - k = 0) ∧ (∀ a', p' = some a' → ∃ a, p = some a ∧ a'.block = a.block) := by
  have hr : ∀ w, (Instr.slice 22 (.slice p n c) (some (.int .i64 k)) none none).run Try.prog w = .ok (.slice (if c = k then p else p.map (·.add (k * 1))) (n - k) (c - k)) w := by
    intro w
    rw [run_slice_l w 22 p n c (by kernel_rfl) .i64 k (by omega) (by omega)]
    have hs : (sizeOf (Try.prog.elem 22)).run Try.prog w = .ok 1 w := by kernel_rfl
    rw [hs]
    rfl
  cases p with
  | none =>
    have hc0 := hp rfl
    have : k = 0 := by omega
    subst this
    exact ⟨_, hr, fun w h => by rw [List.drop_zero, if_pos hc0]; exact h, fun _ => by omega, fun a' h => by split at h <;> simp at h⟩
  | some a =>
    refine ⟨_, hr, fun w h => ?_, fun h => by split at h <;> simp at h, fun a' h => ?_⟩
    · rcases Nat.eq_zero_or_pos xs.length with h0 | h0
      · refine ⟨fun hp => absurd hp (by rw [List.length_drop]; omega), fun c hc => h.2 c (List.mem_of_mem_drop hc)⟩
      obtain ⟨b, o, e, _⟩ := h.1 h0
      simp only [Option.some.injEq] at e
      subst e
      have := bin_part h c k (by omega) (xs.length - k)
      rw [List.take_of_length_le (by rw [List.length_drop]; omega)] at this
      have e2 : (if c = k then some (⟨b, o, none⟩ : Addr) else (some (⟨b, o, none⟩ : Addr)).map (·.add (k * 1))) = (if c = k then some ⟨b, o, none⟩ else some ⟨b, o + k, none⟩) := by
        split
        · rfl
        · rw [Option.map_some, add_plain, Nat.mul_one]
      rw [e2]
      exact this
    · split at h
      · exact ⟨a, rfl, by rw [Option.some.inj h]⟩
      · rw [Option.map_some] at h
        refine ⟨a, rfl, ?_⟩
        rw [← Option.some.inj h]
        simp only [Addr.add]
        split <;> rfl
theorem cut_upto (p : Option Addr) (n c k : Nat) (xs : List Nat) (hn : n = xs.length) (hc : n ≤ c) (hk : k ≤ n) (hp : p = none → c = 0) :
    ∃ p', (∀ w, (Instr.slice 22 (.slice p n c) none (some (.int .i64 k)) (some (.int .i64 k))).run Try.prog w = .ok (.slice p' k k) w) ∧ (∀ w, BIn w p xs → BIn w p' (xs.take k)) := by
  have hr : ∀ w, (Instr.slice 22 (.slice p n c) none (some (.int .i64 k)) (some (.int .i64 k))).run Try.prog w = .ok (.slice (if k = 0 then p else p.map (·.add (0 * 1))) (k - 0) (k - 0)) w := by
    intro w
    rw [run_slice_hm w 22 p n c (by kernel_rfl) .i64 .i64 k k (by omega) (by omega) (by omega)]
    have hs : (sizeOf (Try.prog.elem 22)).run Try.prog w = .ok 1 w := by kernel_rfl
    rw [hs]
    rfl
  refine ⟨_, hr, fun w h => ?_⟩
  have e2 : (if k = 0 then p else p.map (·.add (0 * 1))) = p := by
    split
    · rfl
    · cases p with
      | none => rfl
      | some a => rw [Option.map_some, Nat.zero_mul]; rcases a with ⟨b, o, s⟩; cases s <;> simp [Addr.add]
  rw [e2]
  exact h.take' k
structure Wkd (B : Nat) (w : World) (g : Nat) (xs : List Nat) (lost : Bool) (p : Option Addr) (c : Nat) : Prop where
  box : w.heap[g]? = some (.cells #[.slice p xs.length c, .bool lost] 71 (0, 0))
  bin : BIn w p xs
  cap : xs.length ≤ c ∧ c ≤ maxLen ∧ (p = none → c = 0)
  old : 0 < xs.length → ∀ a, p = some a → a.block < B
theorem bin_grown {w w' : World} {g : Nat} {a b : Value} {t : TypeId} {p : Option Addr} {xs : List Nat} (hb : w.heap[g]? = some (.cells #[a, b] t (0, 0))) (ha : ∀ z, a ≠ .int .u8 z) (hbb : ∀ z, b ≠ .int .u8 z) (h : BIn w p xs) (hg : w.grownBy w' (some g)) : BIn w' p xs := by
  refine ⟨fun hp => ?_, h.2⟩
  obtain ⟨b', o, rfl, hc⟩ := h.1 hp
  refine ⟨b', o, rfl, fun i hi => ?_⟩
  have e := hc i hi
  have hne : b' ≠ g := by
    intro e'
    subst e'
    rw [cell_of_row w b' (o + i) _ _ _ hb] at e
    rcases hoi : o + i with _ | _ | k
    · rw [hoi] at e; simp at e; exact ha _ e
    · rw [hoi] at e; simp at e; exact hbb _ e
    · rw [hoi] at e; simp at e
  have hlt := World.block_lt_of_cell? _ _ e
  have hbk : w'.heap[b']? = w.heap[b']? := hg.block b' hlt (fun e => hne (Option.some.inj e))
  rw [← e]
  unfold World.cell?
  simp only [hbk]
theorem Wkd.grow {w w' : World} {g : Nat} {xs : List Nat} {lost : Bool} {p : Option Addr} {c : Nat} (h : Wkd B w g xs lost p c) {q : Option Addr} {ys : List Nat} (hq : BIn w q ys) (hg : w.grownBy w' (some g)) : BIn w' q ys := bin_grown h.box (by simp) (by simp) hq hg
theorem Wkd.below {w w' : World} {g : Nat} {xs : List Nat} {lost : Bool} {p : Option Addr} {c : Nat} (h : Wkd B w g xs lost p c) (hb : Below w.heap.size w w') : Wkd B w' g xs lost p c := ⟨block_below h.box hb, h.bin.below hb, h.cap, h.old⟩
theorem Wkd.lose {w : World} {g : Nat} {xs : List Nat} {lost : Bool} {p : Option Addr} {c : Nat} (h : Wkd B w g xs lost p c) : Wkd B (w.setCell ⟨g, 1, none⟩ (.bool true)) g xs true p c := ⟨block_set h.box _, h.grow h.bin (grown_set _ _ _ _), h.cap, h.old⟩
theorem Wkd.go {w : World} {g : Nat} {xs : List Nat} {lost : Bool} {p : Option Addr} {c k : Nat} (h : Wkd B w g xs lost p c) {p' : Option Addr} (hb : BIn w p' (xs.drop k)) (hp : p' = none → c - k = 0) (ho : ∀ a', p' = some a' → ∃ a, p = some a ∧ a'.block = a.block) : Wkd B (w.setCell ⟨g, 0, none⟩ (.slice p' (xs.length - k) (c - k))) g (xs.drop k) lost p' (c - k) :=
  ⟨by rw [List.length_drop]; exact block_set h.box _, h.grow hb (grown_set _ _ _ _), by have := h.cap; rw [List.length_drop]; exact ⟨by omega, by omega, hp⟩, fun hp a' ha => by obtain ⟨a, h1, h2⟩ := ho a' ha; rw [h2]; exact h.old (by rw [List.length_drop] at hp; omega) a h1⟩
theorem Wkd.own {w w' : World} {g : Nat} {xs : List Nat} {lost : Bool} {p : Option Addr} {c : Nat} (h : Wkd B w g xs lost p c) {r : Option Nat} (hg : w.grownBy w' r) (hr : ∀ k, r = some k → B ≤ k ∧ k ≠ g) : Wkd B w' g xs lost p c := by
  refine ⟨(hg.block g (lt_heap h.box) (fun e => (hr g e.symm).2 rfl)).trans h.box, ⟨fun hp => ?_, h.bin.2⟩, h.cap, h.old⟩
  obtain ⟨b', o, e, hc⟩ := h.bin.1 hp
  refine ⟨b', o, e, fun i hi => ?_⟩
  have e2 := hc i hi
  have hlt := World.block_lt_of_cell? _ _ e2
  have hb := h.old hp _ e
  have hbk : w'.heap[b']? = w.heap[b']? := hg.block b' hlt (fun e => by have := (hr b' e.symm).1; exact absurd hb (by simp only; omega))
  rw [← e2]
  unfold World.cell?
  simp only [hbk]
theorem numW_none {lim : Nat} {xs : List Nat} {lost : Bool} (h : readN xs = none) : numW lim ⟨xs, lost⟩ = (0, ⟨xs, true⟩) := by unfold numW; simp only [h]
theorem numW_big {lim : Nat} {xs : List Nat} {lost : Bool} {n k : Nat} (h : readN xs = some (n, k)) (hn : lim < n) : numW lim ⟨xs, lost⟩ = (0, ⟨xs, true⟩) := by unfold numW; simp only [h]; rw [if_neg (by omega)]
theorem numW_some {lim : Nat} {xs : List Nat} {lost : Bool} {n k : Nat} (h : readN xs = some (n, k)) (hn : n ≤ lim) : numW lim ⟨xs, lost⟩ = (n, ⟨xs.drop k, lost⟩) := by unfold numW; simp only [h]; rw [if_pos hn]
set_option maxRecDepth 8000 in
set_option maxHeartbeats 1000000 in
theorem number_any (g lim : Nat) (xs : List Nat) (lost : Bool) (p : Option Addr) (c : Nat) (w : World) (h : Wkd B w g xs lost p c) (hx : xs.length ≤ 1000000) (hlim : lim ≤ 2147483647) (n : Nat) (xs' : List Nat) (lost' : Bool) (hR : numW lim ⟨xs, lost⟩ = (n, ⟨xs', lost'⟩)) :
    Calls Try.prog 44 #[.pointer (some ⟨g, 0, none⟩), .int .i64 (lim : Int)] w fun e w' => e = .returned (.int .i64 (n : Int)) ∧ (∃ p' c', Wkd B w' g xs' lost' p' c') ∧ w.grownBy w' (some g) := by
  obtain ⟨⟨c0, c1⟩, z0, z1⟩ := two2 h.box
  have HW : Hid (Wkd B w g xs lost p c) := h
  have hl1 : IntKind.u64.wrap (lim : Int) = (lim : Int) := by rw [IntKind.wrap_u64]; omega
  rcases hr : readN xs with _ | ⟨m, k⟩
  · rw [numW_none hr] at hR
    simp only [Prod.mk.injEq, Wk.mk.injEq] at hR
    obtain ⟨rfl, rfl, rfl⟩ := hR
    have HRD := read_none p xs.length c xs w rfl h.bin (by unfold maxLen; omega) hr
    clear h hr hx hlim
    go_enter Try.func44, Try.ntmps44
    go_wp2_with fail
    refine HRD.mono ?_
    rintro e w1 ⟨rfl, rfl⟩
    go_wp2
    go_ret
    exact ⟨rfl, ⟨p, c, HW.out.lose⟩, grown_set _ _ _ _⟩
  · have HRD := read_some p xs.length c xs w m k rfl h.bin (by unfold maxLen; omega) hr
    obtain ⟨k1, k2, k3, k4⟩ := readN_some hr
    rcases Nat.lt_or_ge lim m with hm | hm
    · rw [numW_big hr hm] at hR
      simp only [Prod.mk.injEq, Wk.mk.injEq] at hR
      obtain ⟨rfl, rfl, rfl⟩ := hR
      have g1 : decide ((lim : Int) < (m : Int)) = true := decide_eq_true (by omega)
      have g1' : decide (lim < m) = true := decide_eq_true hm
      clear h hr hx hlim k4
      go_enter Try.func44, Try.ntmps44
      go_wp2_with fail
      refine HRD.mono ?_
      rintro e w1 ⟨rfl, rfl⟩
      go_wp2
      go_ret
      exact ⟨rfl, ⟨p, c, HW.out.lose⟩, grown_set _ _ _ _⟩
    · rw [numW_some hr hm] at hR
      simp only [Prod.mk.injEq, Wk.mk.injEq] at hR
      obtain ⟨rfl, rfl, rfl⟩ := hR
      have g1 : decide ((lim : Int) < (m : Int)) = false := decide_eq_false (by omega)
      have g1' : ¬ lim < m := by omega
      have g2 : IntKind.i64.wrap (m : Int) = (m : Int) := by rw [IntKind.wrap_i64]; omega
      obtain ⟨p', hs, hbn, hpn, hpo⟩ := cut_from p xs.length c k xs rfl h.cap.1 k2 h.cap.2.2
      have HB : Hid (BIn w p' (xs.drop k) ∧ (p' = none → c - k = 0) ∧ (∀ a', p' = some a' → ∃ a, p = some a ∧ a'.block = a.block)) := ⟨hbn w h.bin, hpn, hpo⟩
      clear h hr hx hlim hm k4 k1 k2 k3 hbn hpn hpo
      go_enter Try.func44, Try.ntmps44
      go_wp2_with fail
      refine HRD.mono ?_
      rintro e w1 ⟨rfl, rfl⟩
      go_wp2
      go_ret
      exact ⟨rfl, ⟨p', c - k, HW.out.go HB.out.1 HB.out.2.1 HB.out.2.2⟩, grown_set _ _ _ _⟩
theorem textW_some {lim : Nat} {s s1 : Wk} {n : Nat} (h : numW lim s = (n, s1)) (hn : n ≤ s1.rest.length) : textW lim s = (s1.rest.take n, ⟨s1.rest.drop n, s1.lost⟩) := by unfold textW; rw [h]; simp only; rw [if_pos hn]
theorem textW_none {lim : Nat} {s s1 : Wk} {n : Nat} (h : numW lim s = (n, s1)) (hn : s1.rest.length < n) : textW lim s = ([], ⟨s1.rest, true⟩) := by unfold textW; rw [h]; simp only; rw [if_neg (by omega)]
theorem bin_nil (w : World) : BIn w none [] := ⟨fun h => absurd h (by simp), by simp⟩
set_option maxRecDepth 8000 in
set_option maxHeartbeats 1000000 in
theorem text_w (g lim : Nat) (xs : List Nat) (lost : Bool) (p : Option Addr) (c : Nat) (w : World) (h : Wkd B w g xs lost p c) (hx : xs.length ≤ 1000000) (hlim : lim ≤ 2147483647) (ys xs' : List Nat) (lost' : Bool) (hR : textW lim ⟨xs, lost⟩ = (ys, ⟨xs', lost'⟩)) :
    Calls Try.prog 52 #[.pointer (some ⟨g, 0, none⟩), .int .i64 (lim : Int)] w fun e w' => (∃ p1 c1, e = .returned (.slice p1 ys.length c1) ∧ BIn w' p1 ys) ∧ (∃ p' c', Wkd B w' g xs' lost' p' c') ∧ w.grownBy w' (some g) := by
  obtain ⟨m, s1, hm⟩ : ∃ m s1, numW lim ⟨xs, lost⟩ = (m, s1) := ⟨_, _, rfl⟩
  obtain ⟨x1, l1⟩ := s1
  have HN := number_any g lim xs lost p c w h hx hlim m x1 l1 hm
  have hx1 : x1.length ≤ 1000000 := by have := numW_short lim ⟨xs, lost⟩; rw [hm] at this; exact Nat.le_trans this hx
  have hml : m ≤ 2147483647 := by have := numW_le lim ⟨xs, lost⟩; rw [hm] at this; exact Nat.le_trans this hlim
  have hmi : (m : Int) ≤ 2147483647 := by omega
  have HT : Hid (textW lim ⟨xs, lost⟩ = (ys, ⟨xs', lost'⟩)) := hR
  have HM : Hid (numW lim ⟨xs, lost⟩ = (m, ⟨x1, l1⟩)) := hm
  clear h hx hlim hR hm hml
  go_enter Try.func52, Try.ntmps52
  go_wp2_with fail
  refine HN.mono ?_
  rintro e w1 ⟨rfl, ⟨p1, c1, hw1⟩, hg1⟩
  obtain ⟨⟨a0, a1⟩, z0, z1⟩ := two2 hw1.box
  have HW : Hid (Wkd B w1 g x1 l1 p1 c1) := hw1
  have HG : Hid (w.grownBy w1 (some g)) := hg1
  rcases Nat.lt_or_ge x1.length m with h1 | h1
  · have e1 := textW_none HM.out h1
    have g1 : decide ((x1.length : Int) < (m : Int)) = true := decide_eq_true (by omega)
    rw [HT.out] at e1
    simp only [Prod.mk.injEq, Wk.mk.injEq] at e1
    obtain ⟨rfl, rfl, rfl⟩ := e1
    clear hw1 hg1 HN hx1 hmi
    go_wp2
    go_ret
    exact ⟨⟨none, 0, rfl, bin_nil _⟩, ⟨p1, c1, HW.out.lose⟩, grown_trans HG.out (grown_set _ _ _ _)⟩
  · have e1 := textW_some HM.out h1
    rw [HT.out] at e1
    simp only [Prod.mk.injEq, Wk.mk.injEq] at e1
    obtain ⟨rfl, rfl, rfl⟩ := e1
    have g1 : decide ((x1.length : Int) < (m : Int)) = false := decide_eq_false (by omega)
    have g1' : ¬ x1.length < m := by omega
    obtain ⟨p', hs, hbn, hpn, hpo⟩ := cut_from p1 x1.length c1 m x1 rfl hw1.cap.1 h1 hw1.cap.2.2
    obtain ⟨p2, hs2, hbn2⟩ := cut_upto p1 x1.length c1 m x1 rfl hw1.cap.1 h1 hw1.cap.2.2
    have HB : Hid (BIn w1 p' (x1.drop m) ∧ (p' = none → c1 - m = 0) ∧ BIn w1 p2 (x1.take m) ∧ m = (x1.take m).length ∧ (∀ a', p' = some a' → ∃ a, p1 = some a ∧ a'.block = a.block)) := ⟨hbn _ hw1.bin, hpn, hbn2 _ hw1.bin, by rw [List.length_take]; omega, hpo⟩
    clear hw1 hg1 HN h1 hx1 hmi hbn hpn hbn2 hpo
    go_wp2
    go_ret
    exact ⟨⟨p2, m, by rw [← HB.out.2.2.2.1]; rfl, HW.out.grow HB.out.2.2.1 (grown_set _ _ _ _)⟩, ⟨p', c1 - m, HW.out.go HB.out.1 HB.out.2.1 HB.out.2.2.2.2⟩, grown_trans HG.out (grown_set _ _ _ _)⟩
end Go.Proofs.Ytldgnejmmjbhiaa
namespace Go.Proofs.Ytldgnejmmjbhiaa
open Go.RowKit Go.WideShapes
variable {B : Nat}

theorem textW_short (lim : Nat) (s : Wk) : (textW lim s).2.rest.length ≤ s.rest.length := by
  have := numW_short lim s
  unfold textW
  split
  · simp; omega
  · simp; omega
def zE : Array Value := #[.string ByteArray.empty, .string ByteArray.empty, .int .i64 0, .bool false]
def noU8 (C : Array Value) : Prop := ∀ (i : Nat) (z : Int), C[i]? ≠ some (.int .u8 z)
theorem noU8_4 (a b : ByteArray) (s : Int) (g : Bool) : noU8 #[.string a, .string b, .int .i64 s, .bool g] := by
  intro i z
  rcases i with _ | _ | _ | _ | i <;> simp
theorem bin_grownC {w w' : World} {g : Nat} {C : Array Value} {t : TypeId} {fr : Nat × Nat} {p : Option Addr} {xs : List Nat} (hb : w.heap[g]? = some (.cells C t fr)) (hC : noU8 C) (h : BIn w p xs) (hg : w.grownBy w' (some g)) : BIn w' p xs := by
  refine ⟨fun hp => ?_, h.2⟩
  obtain ⟨b', o, rfl, hc⟩ := h.1 hp
  refine ⟨b', o, rfl, fun i hi => ?_⟩
  have e := hc i hi
  have hne : b' ≠ g := by
    intro e'
    subst e'
    rw [cell_of_row w b' (o + i) _ _ _ hb] at e
    exact hC _ _ e
  have hlt := World.block_lt_of_cell? _ _ e
  have hbk : w'.heap[b']? = w.heap[b']? := hg.block b' hlt (fun e => hne (Option.some.inj e))
  rw [← e]
  unfold World.cell?
  simp only [hbk]
theorem four {w : World} {g : Nat} {a b c d : Value} {t : TypeId} (h : w.heap[g]? = some (.cells #[a, b, c, d] t (0, 0))) : (w.cell? ⟨g, 0, none⟩ = some a ∧ w.cell? ⟨g, 1, none⟩ = some b ∧ w.cell? ⟨g, 2, none⟩ = some c ∧ w.cell? ⟨g, 3, none⟩ = some d) ∧ w.frozen? ⟨g, 0, none⟩ = false ∧ w.frozen? ⟨g, 1, none⟩ = false ∧ w.frozen? ⟨g, 2, none⟩ = false ∧ w.frozen? ⟨g, 3, none⟩ = false :=
  ⟨⟨cell_of_row w _ 0 _ _ _ h, cell_of_row w _ 1 _ _ _ h, cell_of_row w _ 2 _ _ _ h, cell_of_row w _ 3 _ _ _ h⟩, by simp [World.frozen?, h], by simp [World.frozen?, h], by simp [World.frozen?, h], by simp [World.frozen?, h]⟩
/-- The walk at g, the result's box (the first block behind w), the entry's box at h. -/
structure Es (B : Nat) (w wc : World) (g : Nat) (xs : List Nat) (lost : Bool) (h : Nat) (a b : ByteArray) (s : Int) (gn : Bool) : Prop where
  wk : ∃ p c, Wkd B wc g xs lost p c
  res : wc.heap[w.heap.size]? = some (.cells zE 27 (0, 0))
  box : wc.heap[h]? = some (.cells #[.string a, .string b, .int .i64 s, .bool gn] 27 (0, 0))
  gr : w.grownBy wc (some g)
  gt : w.heap.size < h
  gl : g < w.heap.size
section
variable {w wc w' : World} {g : Nat} {xs : List Nat} {lost : Bool} {h : Nat} {a b : ByteArray} {s : Int} {gn : Bool}
theorem Es.call (e : Es B w wc g xs lost h a b s gn) (hb : Below wc.heap.size wc w') : Es B w w' g xs lost h a b s gn := by
  obtain ⟨p, c, hw⟩ := e.wk
  exact ⟨⟨p, c, hw.below hb⟩, block_below e.res hb, block_below e.box hb, grown_trans e.gr (grown_below hb _), e.gt, e.gl⟩
theorem Es.walk (e : Es B w wc g xs lost h a b s gn) {xs' : List Nat} {lost' : Bool} (hw : ∃ p c, Wkd B w' g xs' lost' p c) (hg : wc.grownBy w' (some g)) : Es B w w' g xs' lost' h a b s gn := by
  have h1 := e.gt; have h2 := e.gl
  exact ⟨hw, (hg.block _ (lt_heap e.res) (fun e => by have := Option.some.inj e; omega)).trans e.res, (hg.block _ (lt_heap e.box) (fun e => by have := Option.some.inj e; omega)).trans e.box, grown_trans e.gr hg, e.gt, e.gl⟩
theorem Es.lose (e : Es B w wc g xs lost h a b s gn) : Es B w (wc.setCell ⟨g, 1, none⟩ (.bool true)) g xs true h a b s gn := by
  obtain ⟨p, c, hw⟩ := e.wk
  exact e.walk ⟨p, c, hw.lose⟩ (grown_set _ _ _ _)
theorem grown_skip {w wc w' : World} {g h : Nat} (h1 : w.grownBy wc (some g)) (h2 : wc.grownBy w' (some h)) (hh : w.heap.size ≤ h) : w.grownBy w' (some g) :=
  ⟨h2.os.trans h1.os, h2.tape.trans h1.tape, h2.output.trans h1.output, Nat.le_trans h1.size h2.size, fun k hk hn => (h2.block k (Nat.lt_of_lt_of_le hk h1.size) (fun e => by have := Option.some.inj e; omega)).trans (h1.block k hk hn)⟩
theorem wkd_set {p : Option Addr} {c : Nat} (hw : Wkd B wc g xs lost p c) {C : Array Value} {t : TypeId} (hb : wc.heap[h]? = some (.cells C t (0, 0))) (hC : noU8 C) (hne : g ≠ h) (i : Nat) (v : Value) : Wkd B (wc.setCell ⟨h, i, none⟩ v) g xs lost p c :=
  ⟨((grown_set wc h i v).block g (lt_heap hw.box) (fun e => hne (Option.some.inj e))).trans hw.box, bin_grownC hb hC hw.bin (grown_set _ _ _ _), hw.cap, hw.old⟩
theorem Es.setK (e : Es B w wc g xs lost h a b s gn) (a' : ByteArray) : Es B w (wc.setCell ⟨h, 0, none⟩ (.string a')) g xs lost h a' b s gn := by
  obtain ⟨p, c, hw⟩ := e.wk
  have h1 := e.gt; have h2 := e.gl
  exact ⟨⟨p, c, wkd_set hw e.box (noU8_4 _ _ _ _) (by omega) _ _⟩, ((grown_set wc h 0 _).block _ (lt_heap e.res) (fun e => by have := Option.some.inj e; omega)).trans e.res, block_set e.box _, grown_skip e.gr (grown_set _ _ _ _) (by omega), e.gt, e.gl⟩
theorem Es.setV (e : Es B w wc g xs lost h a b s gn) (b' : ByteArray) : Es B w (wc.setCell ⟨h, 1, none⟩ (.string b')) g xs lost h a b' s gn := by
  obtain ⟨p, c, hw⟩ := e.wk
  have h1 := e.gt; have h2 := e.gl
  exact ⟨⟨p, c, wkd_set hw e.box (noU8_4 _ _ _ _) (by omega) _ _⟩, ((grown_set wc h 1 _).block _ (lt_heap e.res) (fun e => by have := Option.some.inj e; omega)).trans e.res, block_set e.box _, grown_skip e.gr (grown_set _ _ _ _) (by omega), e.gt, e.gl⟩
theorem Es.setS (e : Es B w wc g xs lost h a b s gn) (s' : Int) : Es B w (wc.setCell ⟨h, 2, none⟩ (.int .i64 s')) g xs lost h a b s' gn := by
  obtain ⟨p, c, hw⟩ := e.wk
  have h1 := e.gt; have h2 := e.gl
  exact ⟨⟨p, c, wkd_set hw e.box (noU8_4 _ _ _ _) (by omega) _ _⟩, ((grown_set wc h 2 _).block _ (lt_heap e.res) (fun e => by have := Option.some.inj e; omega)).trans e.res, block_set e.box _, grown_skip e.gr (grown_set _ _ _ _) (by omega), e.gt, e.gl⟩
theorem Es.setG (e : Es B w wc g xs lost h a b s gn) (g' : Bool) : Es B w (wc.setCell ⟨h, 3, none⟩ (.bool g')) g xs lost h a b s g' := by
  obtain ⟨p, c, hw⟩ := e.wk
  have h1 := e.gt; have h2 := e.gl
  exact ⟨⟨p, c, wkd_set hw e.box (noU8_4 _ _ _ _) (by omega) _ _⟩, ((grown_set wc h 3 _).block _ (lt_heap e.res) (fun e => by have := Option.some.inj e; omega)).trans e.res, block_set e.box _, grown_skip e.gr (grown_set _ _ _ _) (by omega), e.gt, e.gl⟩
/-- Behind the last store: what the call leaves. -/
theorem Es.fin (e : Es B w wc g xs lost h a b s gn) (v0 v1 v2 v3 : Value) :
    (∃ p c, Wkd B ((((wc.setCell ⟨w.heap.size, 0, none⟩ v0).setCell ⟨w.heap.size, 1, none⟩ v1).setCell ⟨w.heap.size, 2, none⟩ v2).setCell ⟨w.heap.size, 3, none⟩ v3) g xs lost p c) ∧ w.grownBy ((((wc.setCell ⟨w.heap.size, 0, none⟩ v0).setCell ⟨w.heap.size, 1, none⟩ v1).setCell ⟨w.heap.size, 2, none⟩ v2).setCell ⟨w.heap.size, 3, none⟩ v3) (some g) := by
  obtain ⟨p, c, hw⟩ := e.wk
  have h2 := e.gl
  have hg : wc.grownBy ((((wc.setCell ⟨w.heap.size, 0, none⟩ v0).setCell ⟨w.heap.size, 1, none⟩ v1).setCell ⟨w.heap.size, 2, none⟩ v2).setCell ⟨w.heap.size, 3, none⟩ v3) (some w.heap.size) := grown_trans (grown_trans (grown_trans (grown_set _ _ _ _) (grown_set _ _ _ _)) (grown_set _ _ _ _)) (grown_set _ _ _ _)
  refine ⟨⟨p, c, (hg.block g (lt_heap hw.box) (fun e => by have := Option.some.inj e; omega)).trans hw.box, bin_grownC e.res (noU8_4 _ _ _ _) hw.bin hg, hw.cap, hw.old⟩, grown_skip e.gr hg (Nat.le_refl _)⟩
theorem es_new1 {w1 w2 : World} (hg1 : w.grownBy w1 (some g)) (hr : w1.heap[w.heap.size]? = some (.cells zE 27 (0, 0))) (hgl : g < w.heap.size) (hg2 : w1.drew.grownBy w2 (some g)) (hw : ∃ p c, Wkd B w2 g xs lost p c) (key : ByteArray) : Es B w (w2.alloc (.cells #[.string key, .string ⟨#[]⟩, .int .i64 0, .bool false] 27)) g xs lost w2.heap.size key ByteArray.empty 0 false := by
  obtain ⟨p, c, hw⟩ := hw
  have l1 := lt_heap hr
  have s2 : w1.heap.size ≤ w2.heap.size := hg2.size
  have hr2 : w2.heap[w.heap.size]? = some (.cells zE 27 (0, 0)) := (hg2.block _ l1 (fun e => by have := Option.some.inj e; omega)).trans hr
  have hg3 : w.grownBy w2 (some g) := grown_trans hg1 ⟨hg2.os, hg2.tape, hg2.output, hg2.size, hg2.block⟩
  exact ⟨⟨p, c, hw.below (below_alloc _ _)⟩, block_below hr2 (below_alloc _ _), heap_alloc_new _ _, grown_trans hg3 (grown_below (below_alloc _ _) _), by omega, hgl⟩
theorem es_new2 {w1 w2 : World} (hg1 : w.grownBy w1 (some g)) (hr : w1.heap[w.heap.size]? = some (.cells zE 27 (0, 0))) (hgl : g < w.heap.size) {o : Obj} (hg2 : (w1.alloc o).drew.grownBy w2 (some g)) (hw : ∃ p c, Wkd B w2 g xs lost p c) (hz : w2.heap[w1.heap.size]? = some (.cells zE 27 (0, 0))) (key : ByteArray) : Es B w ((((w2.setCell ⟨w1.heap.size, 0, none⟩ (.string key)).setCell ⟨w1.heap.size, 1, none⟩ (.string ⟨#[]⟩)).setCell ⟨w1.heap.size, 2, none⟩ (.int .i64 0)).setCell ⟨w1.heap.size, 3, none⟩ (.bool false)) g xs lost w1.heap.size key ByteArray.empty 0 false := by
  have l1 := lt_heap hr
  have hb := below_alloc w1 o
  have hr1 : (w1.alloc o).drew.heap[w.heap.size]? = some (.cells zE 27 (0, 0)) := (hb.block _ l1).trans hr
  have hr2 : w2.heap[w.heap.size]? = some (.cells zE 27 (0, 0)) := (hg2.block _ (lt_heap hr1) (fun e => by have := Option.some.inj e; omega)).trans hr1
  have hg3 : w.grownBy w2 (some g) := grown_trans (grown_trans hg1 (grown_below hb _)) ⟨hg2.os, hg2.tape, hg2.output, hg2.size, hg2.block⟩
  have e0 : Es B w w2 g xs lost w1.heap.size ByteArray.empty ByteArray.empty 0 false := ⟨hw, hr2, hz, hg3, l1, hgl⟩
  exact (((e0.setK key).setV ByteArray.empty).setS 0).setG false
end
end Go.Proofs.Ytldgnejmmjbhiaa
namespace Go.Proofs.Ytldgnejmmjbhiaa
open Go.RowKit Go.WideShapes
variable {B : Nat}

theorem str_app (x y : ByteArray) : strOf (numsOf x ++ numsOf y) = x ++ y := by
  apply ba_ext.1
  rw [strOf_list, List.map_append]
  have h : ∀ z : ByteArray, (numsOf z).map UInt8.ofNat = z.data.toList := by
    intro z
    unfold numsOf
    rw [List.map_map]
    conv => rhs; rw [← List.map_id z.data.toList]
    congr 1
    funext b
    simp
  rw [h, h]
  simp
theorem key_str (a : ByteArray) (n : Nat) (t : List Nat) (ht : ∀ c ∈ t, c < 256) : a.extract 0 n ++ strOf t = strOf ((numsOf a).take n ++ t) := by
  rw [← str_app, nums_strOf ht, nums_extract, List.drop_zero, Nat.sub_zero]
theorem boxzE (w1 : World) {W w2 : World} {g : Nat} (hg : W.grownBy w2 (some g)) (hgl : g < w1.heap.size) (hz : W.heap[w1.heap.size]? = some (.cells zE 27 (0, 0))) :
    Hid (w2.heap[w1.heap.size]? = some (.cells zE 27 (0, 0))) ∧ (w2.cell? ⟨w1.heap.size, 0, none⟩ = some (.string ⟨#[]⟩) ∧ w2.cell? ⟨w1.heap.size, 1, none⟩ = some (.string ⟨#[]⟩) ∧ w2.cell? ⟨w1.heap.size, 2, none⟩ = some (.int .i64 0) ∧ w2.cell? ⟨w1.heap.size, 3, none⟩ = some (.bool false)) ∧ w2.frozen? ⟨w1.heap.size, 0, none⟩ = false ∧ w2.frozen? ⟨w1.heap.size, 1, none⟩ = false ∧ w2.frozen? ⟨w1.heap.size, 2, none⟩ = false ∧ w2.frozen? ⟨w1.heap.size, 3, none⟩ = false := by
  have h := (hg.block _ (lt_heap hz) (fun e => by have := Option.some.inj e; omega)).trans hz
  exact ⟨h, four h⟩
theorem ent_gone {a key : ByteArray} {xs x0 t1 x1 x3 x4 : List Nat} {l0 l1 l3 l4 lk : Bool} {n0 n3 n4 S : Nat} (e0 : numW a.size ⟨xs, false⟩ = (n0, ⟨x0, l0⟩)) (e1 : textW (256 - n0) ⟨x0, l0⟩ = (t1, ⟨x1, l1⟩)) (hk : strOf ((numsOf a).take n0 ++ t1) = key) (hS : sharedN (numsOf a) (numsOf key) = S) (hl : (l1 || decide (n0 ≠ S)) = lk) (e3 : numW 2147483647 ⟨x1, lk⟩ = (n3, ⟨x3, l3⟩)) (e4 : numW 1 ⟨x3, l3⟩ = (n4, ⟨x4, l4⟩)) :
    (n4 = 1 → entW a ⟨xs, false⟩ = (⟨key, ByteArray.empty, (n3 : Int), true⟩, ⟨x4, l4⟩)) ∧ (n4 ≠ 1 → ∀ t5 x5 l5, textW 4096 ⟨x4, l4⟩ = (t5, ⟨x5, l5⟩) → entW a ⟨xs, false⟩ = (⟨key, strOf t5, (n3 : Int), false⟩, ⟨x5, l5⟩)) := by
  have hK : keyW a ⟨xs, false⟩ = (key, ⟨x1, lk⟩) := by
    unfold keyW
    simp only [e0, e1, hk, hS, hl]
  refine ⟨fun h => ?_, fun h t5 x5 l5 e5 => ?_⟩
  · unfold entW tailW
    simp only [hK, e3, e4, if_pos h]
  · unfold entW tailW
    simp only [hK, e3, e4, if_neg h, e5]
set_option maxRecDepth 8000 in
set_option maxHeartbeats 1000000 in
theorem entry_any (g : Nat) (xs : List Nat) (a : ByteArray) (p : Option Addr) (c : Nat) (w : World) (h : Wkd B w g xs false p c) (hx : xs.length ≤ 1000000) (ha : a.size ≤ 256) (y : EntV) (xs' : List Nat) (lost' : Bool) (hR : entW a ⟨xs, false⟩ = (y, ⟨xs', lost'⟩)) :
    Calls Try.prog 45 #[.pointer (some ⟨g, 0, none⟩), .string a] w fun e w' => e = .returned (entV y) ∧ (∃ p' c', Wkd B w' g xs' lost' p' c') ∧ w.grownBy w' (some g) := by
  obtain ⟨n0, s0, e0⟩ : ∃ n s', numW a.size ⟨xs, false⟩ = (n, s') := ⟨_, _, rfl⟩
  obtain ⟨x0, l0⟩ := s0
  obtain ⟨t1, s1, e1⟩ : ∃ t s', textW (256 - n0) ⟨x0, l0⟩ = (t, s') := ⟨_, _, rfl⟩
  obtain ⟨x1, l1⟩ := s1
  have hn0 : n0 ≤ a.size := by have := numW_le a.size ⟨xs, false⟩; rw [e0] at this; exact this
  have hx0 : x0.length ≤ 1000000 := by have := numW_short a.size ⟨xs, false⟩; rw [e0] at this; exact Nat.le_trans this hx
  obtain ⟨key, hkey⟩ : ∃ key, strOf ((numsOf a).take n0 ++ t1) = key := ⟨_, rfl⟩
  have ht1 : ∀ c ∈ t1, c < 256 := by
    intro c hc
    have h1 := (textW_sub (256 - n0) ⟨x0, l0⟩).2 c (by rw [e1]; exact hc)
    have h2 := numW_sub a.size ⟨xs, false⟩ c (by rw [e0]; exact h1)
    exact h.bin.2 c h2
  have HKS : Hid (a.extract 0 n0 ++ strOf t1 = key) := (key_str a n0 t1 ht1).trans hkey
  have hgl := lt_heap h.box
  have h0 := h.below (below_alloc w (.cells zE 27))
  have HNA := number_any g a.size xs false p c _ h0 hx (by omega) n0 x0 l0 e0
  have HRZ : Hid ((w.alloc (.cells zE 27)).heap[w.heap.size]? = some (.cells zE 27 (0, 0))) := heap_alloc_new w _
  have HGL : Hid (g < w.heap.size) := hgl
  have q1 : (n0 : Int) ≤ (a.size : Int) := by omega
  have q2 : (a.size : Int) ≤ 256 := by omega
  have q3 : (0 : Int) ≤ (n0 : Int) := by omega
  have q4 : IntKind.i64.wrap (256 - (n0 : Int)) = ((256 - n0 : Nat) : Int) := by rw [IntKind.wrap_i64]; omega
  have HX0 : Hid (x0.length ≤ 1000000 ∧ textW (256 - n0) ⟨x0, l0⟩ = (t1, ⟨x1, l1⟩)) := ⟨hx0, e1⟩
  have ht2 : t1.length ≤ 256 := by have := textW_le (256 - n0) ⟨x0, l0⟩; rw [e1] at this; exact Nat.le_trans this (by omega)
  have hcat : ∀ w', (Op.stringOp .add (a.extract 0 n0) (strOf t1)).run Try.prog w' = .ok (.string key) w' := by
    intro w'
    rw [run_string_add_sum w' _ _ (by rw [ByteArray.size_extract, strOf_size]; omega), HKS.out]
  have hcb : (a.extract 0 n0).size + (strOf t1).size ≤ 9223372036854775807 := by rw [ByteArray.size_extract, strOf_size]; omega
  clear h h0 hgl hx0 ht2
  unfold zE at HNA
  go_enter Try.func45, Try.ntmps45
  go_wp2_with fail
  refine HNA.mono ?_
  rintro e w1 ⟨rfl, hw1, hg1⟩
  have HW1 : Hid (∃ p' c', Wkd B w1 g x0 l0 p' c') := hw1
  have HG1 : Hid (w.grownBy w1 (some g)) := grown_trans (grown_below (below_alloc _ _) _) hg1
  have HR1 : Hid (w1.heap[w.heap.size]? = some (.cells zE 27 (0, 0))) := (hg1.block _ (by simp) (fun e => by have := Option.some.inj e; have := HGL.out; omega)).trans HRZ.out
  have HTX : Hid (∀ w', Below w1.heap.size w1 w' → Calls Try.prog 52 #[.pointer (some ⟨g, 0, none⟩), .int .i64 ((256 - n0 : Nat) : Int)] w' fun e w2 => (∃ p1 c1, e = .returned (.slice p1 t1.length c1) ∧ BIn w2 p1 t1) ∧ (∃ p' c', Wkd B w2 g x1 l1 p' c') ∧ w'.grownBy w2 (some g)) := by
    intro w' hb'
    obtain ⟨p', c', hh⟩ := HW1.out
    exact text_w g (256 - n0) x0 l0 p' c' w' (hh.below hb') HX0.out.1 (by omega) t1 x1 l1 HX0.out.2
  clear hw1 hg1 HNA
  have hnew : ∀ o, (w1.alloc o).drew.heap[w1.heap.size]? = some o := fun o => heap_alloc_new w1 o
  have HGL1 : Hid (g < w1.heap.size) := Nat.lt_of_lt_of_le HGL.out HG1.out.size
  go_upto_region 2 with fail
  go_cut [6] from 11 (fun j wx => ∃ h, j = .pointer (some ⟨h, 0, none⟩) ∧ Es B w wx g x1 l1 h key ByteArray.empty 0 false)
  case first =>
    go_region_with (go_at_call 52; refine (HTX.out _ ?_).mono ?_; (first | exact (Below.refl _ _).drew | exact ((Below.refl _ _).drew).alloc (by simp) _); rintro e w2 ⟨⟨p1, c1, rfl, hb2⟩, hw2, hg2⟩; have hcv := conv_bytes hb2 rfl c1; have hcw := conv_bytes (hb2.alloc (.cells #[.string ⟨#[]⟩, .string ⟨#[]⟩, .int .i64 0, .bool false] 27)) rfl c1; have hz := boxzE w1 hg2 HGL1.out; try (simp only [hnew] at hz; obtain ⟨HZ, ⟨z0, z1, z2, z3⟩, y0, y1, y2, y3⟩ := hz rfl))
    · go_wp2
      go_meet
      case rel => exact ⟨_, rfl, es_new1 HG1.out HR1.out HGL.out hg2 hw2 key⟩
    · go_wp2
      go_meet
      case rel => exact ⟨_, rfl, es_new1 HG1.out HR1.out HGL.out hg2 hw2 key⟩
    · go_wp2
      go_meet
      case rel => exact ⟨_, rfl, es_new2 HG1.out HR1.out HGL.out hg2 hw2 HZ.out key⟩
  case rest =>
    obtain ⟨h, rfl, hes⟩ := hcut
    have HES : Hid (Es B w wc g x1 l1 h key ByteArray.empty 0 false) := hes
    obtain ⟨⟨k0, _, _, _⟩, _⟩ := four hes.box
    obtain ⟨S, hS⟩ : ∃ S, sharedN (numsOf a) (numsOf key) = S := ⟨_, rfl⟩
    have HSH := fun w' => shared_any a key w' (by omega) S hS
    obtain ⟨lk, hlk⟩ : ∃ lk, (l1 || decide (n0 ≠ S)) = lk := ⟨_, rfl⟩
    obtain ⟨n3, s3, e3⟩ : ∃ n s', numW 2147483647 ⟨x1, lk⟩ = (n, s') := ⟨_, _, rfl⟩
    obtain ⟨x3, l3⟩ := s3
    obtain ⟨n4, s4, e4⟩ : ∃ n s', numW 1 ⟨x3, l3⟩ = (n, s') := ⟨_, _, rfl⟩
    obtain ⟨x4, l4⟩ := s4
    obtain ⟨t5, s5, e5⟩ : ∃ n s', textW 4096 ⟨x4, l4⟩ = (n, s') := ⟨_, _, rfl⟩
    obtain ⟨x5, l5⟩ := s5
    have HL1 : Hid (x1.length ≤ 1000000 ∧ x3.length ≤ 1000000 ∧ x4.length ≤ 1000000) := by
      have b1 := textW_short (256 - n0) ⟨x0, l0⟩
      have b2 := numW_short 2147483647 ⟨x1, lk⟩
      have b3 := numW_short 1 ⟨x3, l3⟩
      rw [e1] at b1
      rw [e3] at b2
      rw [e4] at b3
      have b0 := HX0.out.1
      simp only at b1 b2 b3
      exact ⟨by omega, by omega, by omega⟩
    have HEG := ent_gone e0 e1 hkey hS hlk e3 e4
    rw [hR] at HEG
    have HE1 : Hid (n4 = 1 → (y, (⟨xs', lost'⟩ : Wk)) = (⟨key, ByteArray.empty, (n3 : Int), true⟩, ⟨x4, l4⟩)) := HEG.1
    have HE2 : Hid (n4 ≠ 1 → (y, (⟨xs', lost'⟩ : Wk)) = (⟨key, strOf t5, (n3 : Int), false⟩, ⟨x5, l5⟩)) := fun h => HEG.2 h t5 x5 l5 e5
    have HQ3 : Hid (numW 2147483647 ⟨x1, lk⟩ = (n3, ⟨x3, l3⟩)) := e3
    have HQ4 : Hid (numW 1 ⟨x3, l3⟩ = (n4, ⟨x4, l4⟩)) := e4
    have HQ5 : Hid (textW 4096 ⟨x4, l4⟩ = (t5, ⟨x5, l5⟩)) := e5
    have HLK : Hid ((l1 || decide (n0 ≠ S)) = lk) := hlk
    clear hnew HTX hcat hes HW1 HG1 HR1 HRZ e0 e1 e3 e4 e5 hkey hlk hR HEG hcb hS ht1 HX0 hx ha hn0
    go_wp2_with fail
    refine (HSH _).mono ?_
    rintro e w3 ⟨rfl, hb3⟩
    have hes3 := HES.out.call hb3
    have H3 : Hid (Es B w w3 g x1 l1 h key ByteArray.empty 0 false) := hes3
    clear hb3 hes3
    by_cases hns : n0 = S
    · have g1 : ((n0 : Int) != (S : Int)) = false := by simp [hns]
      have HK : Hid (l1 = lk) := by have := HLK.out; simp [hns] at this; exact this
      have H4 : Hid (Es B w w3 g x1 lk h key ByteArray.empty 0 false) := by rw [← HK.out]; exact H3.out
      clear hns
      obtain ⟨pw, cw, hw4⟩ := H4.out.wk
      have HN3 := number_any g 2147483647 x1 lk pw cw _ hw4 HL1.out.1 (by omega) n3 x3 l3 HQ3.out
      clear hw4 HSH k0
      go_wp2_with fail
      refine HN3.mono ?_
      rintro e w5 ⟨rfl, hw5, hg5⟩
      have hes5 := H4.out.walk hw5 hg5
      obtain ⟨⟨k0, k1, k2, k3⟩, f0, f1, f2, f3⟩ := four hes5.box
      have hes6 := hes5.setS (n3 : Int)
      have H6 : Hid (Es B w (w5.setCell ⟨h, 2, none⟩ (.int .i64 (n3 : Int))) g x3 l3 h key ByteArray.empty (n3 : Int) false) := hes6
      obtain ⟨pv, cv, hw6⟩ := hes6.wk
      have HN4 := number_any g 1 x3 l3 pv cv _ hw6 HL1.out.2.1 (by omega) n4 x4 l4 HQ4.out
      clear hes5 hes6 hw6 hw5 hg5 HN3
      go_wp2_with fail
      refine HN4.mono ?_
      rintro e w7 ⟨rfl, hw7, hg7⟩
      have hes7 := H6.out.walk hw7 hg7
      clear k0 k1 k2 k3 f0 f1 f2 f3
      obtain ⟨⟨k0, k1, k2, k3⟩, f0, f1, f2, f3⟩ := four hes7.box
      clear HN4 hw7 hg7
      by_cases h1 : n4 = 1
      · have g2 : ((n4 : Int) == 1) = true := by simp [h1]
        have HY := HE1.out h1
        simp only [Prod.mk.injEq, Wk.mk.injEq] at HY
        obtain ⟨rfl, rfl, rfl⟩ := HY
        have H8 : Hid (Es B w (w7.setCell ⟨h, 3, none⟩ (.bool true)) g xs' lost' h key ByteArray.empty (n3 : Int) true) := hes7.setG true
        clear hes7 h1
        have hr9 := H8.out.res
        obtain ⟨⟨r0, r1, r2, r3⟩, y0, y1, y2, y3⟩ := four hr9
        obtain ⟨⟨b0, b1, b2, b3⟩, _⟩ := four H8.out.box
        clear hr9
        go_wp2
        (try simp only [Exit.inBlock, Exit.then])
        refine bodyPost_ret (v := entV ⟨key, ByteArray.empty, (n3 : Int), true⟩) ?_ rfl ⟨rfl, H8.out.fin _ _ _ _⟩
        rw [results_cell1 rfl]
        go_simp
        rfl
      · have g2 : ((n4 : Int) == 1) = false := by simp; omega
        have HY := HE2.out h1
        simp only [Prod.mk.injEq, Wk.mk.injEq] at HY
        obtain ⟨rfl, rfl, rfl⟩ := HY
        have hes8 := hes7.setG false
        have HG8 : Hid (Es B w (w7.setCell ⟨h, 3, none⟩ (.bool false)) g x4 l4 h key ByteArray.empty (n3 : Int) false) := hes8
        obtain ⟨pu, cu, hw8⟩ := hes8.wk
        have HT5 := text_w g 4096 x4 l4 pu cu _ hw8 HL1.out.2.2 (by omega) t5 xs' lost' HQ5.out
        clear hes7 hes8 hw8 h1
        go_wp2_with fail
        refine HT5.mono ?_
        rintro e w9 ⟨⟨p9, c9, rfl, hb9⟩, hw9, hg9⟩
        have hes9 := HG8.out.walk hw9 hg9
        have hcv := conv_bytes hb9 rfl c9
        clear k0 k1 k2 k3 f0 f1 f2 f3
        obtain ⟨⟨k0, k1, k2, k3⟩, f0, f1, f2, f3⟩ := four hes9.box
        have H8 : Hid (Es B w (w9.setCell ⟨h, 1, none⟩ (.string (strOf t5))) g xs' lost' h key (strOf t5) (n3 : Int) false) := hes9.setV (strOf t5)
        clear hes9 hw9 hg9 hb9 HT5
        have hr9 := H8.out.res
        obtain ⟨⟨r0, r1, r2, r3⟩, y0, y1, y2, y3⟩ := four hr9
        obtain ⟨⟨b0, b1, b2, b3⟩, _⟩ := four H8.out.box
        clear hr9
        go_wp2
        (try simp only [Exit.inBlock, Exit.then])
        refine bodyPost_ret (v := entV ⟨key, strOf t5, (n3 : Int), false⟩) ?_ rfl ⟨rfl, H8.out.fin _ _ _ _⟩
        rw [results_cell1 rfl]
        go_simp
        rfl
    · have g1 : ((n0 : Int) != (S : Int)) = true := by simp; omega
      have HK : Hid (lk = true) := by have := HLK.out; simp [hns] at this; exact this
      obtain ⟨pz, cz, hz⟩ := H3.out.wk
      obtain ⟨⟨a0, a1⟩, z0, z1⟩ := two2 hz.box
      have H4 : Hid (Es B w (w3.setCell ⟨g, 1, none⟩ (.bool true)) g x1 lk h key ByteArray.empty 0 false) := by rw [HK.out]; exact H3.out.lose
      clear hns hz
      obtain ⟨pw, cw, hw4⟩ := H4.out.wk
      have HN3 := number_any g 2147483647 x1 lk pw cw _ hw4 HL1.out.1 (by omega) n3 x3 l3 HQ3.out
      clear hw4 HSH k0
      go_wp2_with fail
      refine HN3.mono ?_
      rintro e w5 ⟨rfl, hw5, hg5⟩
      have hes5 := H4.out.walk hw5 hg5
      obtain ⟨⟨k0, k1, k2, k3⟩, f0, f1, f2, f3⟩ := four hes5.box
      have hes6 := hes5.setS (n3 : Int)
      have H6 : Hid (Es B w (w5.setCell ⟨h, 2, none⟩ (.int .i64 (n3 : Int))) g x3 l3 h key ByteArray.empty (n3 : Int) false) := hes6
      obtain ⟨pv, cv, hw6⟩ := hes6.wk
      have HN4 := number_any g 1 x3 l3 pv cv _ hw6 HL1.out.2.1 (by omega) n4 x4 l4 HQ4.out
      clear hes5 hes6 hw6 hw5 hg5 HN3
      go_wp2_with fail
      refine HN4.mono ?_
      rintro e w7 ⟨rfl, hw7, hg7⟩
      have hes7 := H6.out.walk hw7 hg7
      clear k0 k1 k2 k3 f0 f1 f2 f3
      obtain ⟨⟨k0, k1, k2, k3⟩, f0, f1, f2, f3⟩ := four hes7.box
      clear HN4 hw7 hg7
      by_cases h1 : n4 = 1
      · have g2 : ((n4 : Int) == 1) = true := by simp [h1]
        have HY := HE1.out h1
        simp only [Prod.mk.injEq, Wk.mk.injEq] at HY
        obtain ⟨rfl, rfl, rfl⟩ := HY
        have H8 : Hid (Es B w (w7.setCell ⟨h, 3, none⟩ (.bool true)) g xs' lost' h key ByteArray.empty (n3 : Int) true) := hes7.setG true
        clear hes7 h1
        have hr9 := H8.out.res
        obtain ⟨⟨r0, r1, r2, r3⟩, y0, y1, y2, y3⟩ := four hr9
        obtain ⟨⟨b0, b1, b2, b3⟩, _⟩ := four H8.out.box
        clear hr9
        go_wp2
        (try simp only [Exit.inBlock, Exit.then])
        refine bodyPost_ret (v := entV ⟨key, ByteArray.empty, (n3 : Int), true⟩) ?_ rfl ⟨rfl, H8.out.fin _ _ _ _⟩
        rw [results_cell1 rfl]
        go_simp
        rfl
      · have g2 : ((n4 : Int) == 1) = false := by simp; omega
        have HY := HE2.out h1
        simp only [Prod.mk.injEq, Wk.mk.injEq] at HY
        obtain ⟨rfl, rfl, rfl⟩ := HY
        have hes8 := hes7.setG false
        have HG8 : Hid (Es B w (w7.setCell ⟨h, 3, none⟩ (.bool false)) g x4 l4 h key ByteArray.empty (n3 : Int) false) := hes8
        obtain ⟨pu, cu, hw8⟩ := hes8.wk
        have HT5 := text_w g 4096 x4 l4 pu cu _ hw8 HL1.out.2.2 (by omega) t5 xs' lost' HQ5.out
        clear hes7 hes8 hw8 h1
        go_wp2_with fail
        refine HT5.mono ?_
        rintro e w9 ⟨⟨p9, c9, rfl, hb9⟩, hw9, hg9⟩
        have hes9 := HG8.out.walk hw9 hg9
        have hcv := conv_bytes hb9 rfl c9
        clear k0 k1 k2 k3 f0 f1 f2 f3
        obtain ⟨⟨k0, k1, k2, k3⟩, f0, f1, f2, f3⟩ := four hes9.box
        have H8 : Hid (Es B w (w9.setCell ⟨h, 1, none⟩ (.string (strOf t5))) g xs' lost' h key (strOf t5) (n3 : Int) false) := hes9.setV (strOf t5)
        clear hes9 hw9 hg9 hb9 HT5
        have hr9 := H8.out.res
        obtain ⟨⟨r0, r1, r2, r3⟩, y0, y1, y2, y3⟩ := four hr9
        obtain ⟨⟨b0, b1, b2, b3⟩, _⟩ := four H8.out.box
        clear hr9
        go_wp2
        (try simp only [Exit.inBlock, Exit.then])
        refine bodyPost_ret (v := entV ⟨key, strOf t5, (n3 : Int), false⟩) ?_ rfl ⟨rfl, H8.out.fin _ _ _ _⟩
        rw [results_cell1 rfl]
        go_simp
        rfl
end Go.Proofs.Ytldgnejmmjbhiaa
namespace Go.Proofs.Ytldgnejmmjbhiaa
open Go.RowKit Go.WideShapes

def cellsE (l : List EntV) : List Value := l.flatMap fun p => [.string p.key, .string p.val, .int .i64 p.seq, .bool p.gone]
theorem cellsE_len (l : List EntV) : (cellsE l).length = l.length * 4 := by
  induction l with
  | nil => rfl
  | cons p l ih => simp only [cellsE, List.flatMap_cons, List.length_append, List.length_cons, List.length_nil] at *; omega
theorem cellsE_app (l m : List EntV) : cellsE (l ++ m) = cellsE l ++ cellsE m := by simp [cellsE]
theorem cellsE_at : ∀ (l : List EntV) (i : Nat), i < l.length → (cellsE l)[i * 4]? = some (.string (l.getD i zeroE).key) ∧ (cellsE l)[i * 4 + 1]? = some (.string (l.getD i zeroE).val) ∧ (cellsE l)[i * 4 + 2]? = some (.int .i64 (l.getD i zeroE).seq) ∧ (cellsE l)[i * 4 + 3]? = some (.bool (l.getD i zeroE).gone)
  | p :: l, 0, _ => ⟨rfl, rfl, rfl, rfl⟩
  | p :: l, i + 1, hi => by
    have := cellsE_at l i (by simpa using hi)
    rw [show (i + 1) * 4 = i * 4 + 1 + 1 + 1 + 1 from by omega]
    simpa [cellsE, List.getD] using this
  | [], _, h => by simp at h
def EOwn (w : World) (base : Nat) (v : Value) (l : List EntV) : Prop := w.ownsRow base 27 4 v l.length (cellsE l)
theorem eown_nil (w : World) (base : Nat) : EOwn w base (.slice none 0 0) [] := World.ownsRow_nil _ _ _ _
theorem EOwn.form {w : World} {base : Nat} {v : Value} {l : List EntV} (h : EOwn w base v l) : ∃ q m, v = .slice q l.length m ∧ l.length ≤ m ∧ m ≤ maxLen ∧ (q = none → m = 0) := own_form h
theorem EOwn.ents {w : World} {base : Nat} {q : Option Addr} {n m : Nat} {l : List EntV} (h : EOwn w base (.slice q n m) l) : EntsIn w q l := by
  intro hp
  rcases h.2 with ⟨_, hn⟩ | ⟨g, cap, cur, hv, hb, hg, hle, hmax, hsz, htk⟩
  · omega
  · simp only [Value.slice.injEq] at hv
    obtain ⟨rfl, rfl, rfl⟩ := hv
    refine ⟨g, 0, rfl, fun i hi => ?_⟩
    obtain ⟨c0, c1, c2, c3⟩ := cellsE_at l i hi
    exact ⟨by rw [Nat.zero_add, World.ownsRow.cellAt h _ (by omega), c0], by rw [Nat.zero_add, World.ownsRow.cellAt h _ (by omega), c1], by rw [Nat.zero_add, World.ownsRow.cellAt h _ (by omega), c2], by rw [Nat.zero_add, World.ownsRow.cellAt h _ (by omega), c3]⟩
theorem EOwn.below {w w' : World} {base : Nat} {v : Value} {l : List EntV} (h : EOwn w base v l) (hb : Below w.heap.size w w') : EOwn w' base v l := own_below h hb
theorem own_neS {w : World} {base n s : Nat} {e : TypeId} {v : Value} {xs : List Value} (h : w.ownsRow base e s v n xs) {B : Nat} {C : Array Value} {t : TypeId} {fr : Nat × Nat} (hB : w.heap[B]? = some (.cells C t fr)) (ht : t ≠ e) : v.ownBlock ≠ some B := by
  intro e
  rcases h.2 with ⟨hv, _⟩ | ⟨g, cap, cur, hv, _, hgg, _⟩
  · rw [hv] at e; cases e
  · rw [hv] at e
    simp only [Value.ownBlock, Option.some.injEq] at e
    subst e
    rw [hB] at hgg
    simp only [Option.some.injEq, Obj.cells.injEq] at hgg
    exact ht hgg.2.1
theorem info_entry : (Try.prog.info? 27).map (fun i => (i.zero, i.size, i.bytes)) = some (some (.agg #[.string ByteArray.empty, .string ByteArray.empty, .int .i64 0, .bool false]), 4, 48) := by kernel_rfl
theorem info_parts' {P : Program} {t : TypeId} {z : Option Value} {s b : Nat} (h : (P.info? t).map (fun i => (i.zero, i.size, i.bytes)) = some (z, s, b)) : ∃ i, P.info? t = some i ∧ i.zero = z ∧ i.size = s ∧ i.bytes = b := by
  cases hi : P.info? t with
  | none => rw [hi] at h; cases h
  | some i => rw [hi] at h; simp at h; exact ⟨i, rfl, h.1, h.2.1, h.2.2⟩
theorem ent_cells (w : World) (a b c d : Value) (t : TypeId) : ∀ j u, [a, b, c, d][j]? = some u → (w.alloc (.cells #[a, b, c, d] t)).cell? ((⟨w.heap.size, 0, none⟩ : Addr).add j) = some u := by
  intro j u hj
  have hh := heap_alloc_new w (.cells #[a, b, c, d] t)
  have e : (⟨w.heap.size, 0, none⟩ : Addr).add j = ⟨w.heap.size, j, none⟩ := by simp [Addr.add]; intro h; omega
  rw [e, Lib.cell_of_heap hh]
  simpa using hj
theorem ent_one (k v : ByteArray) (i : Int) (g : Bool) : ∀ u ∈ [Value.string k, .string v, .int .i64 i, .bool g], u.oneCell' = true := by
  intro u hu
  simp only [List.mem_cons, List.not_mem_nil, or_false] at hu
  rcases hu with rfl | rfl | rfl | rfl <;> rfl
structure OnE (w : World) (R : Option (List EntV × Wk)) (k : Nat) (a : ByteArray) (xs : List Nat) (lost : Bool) (v : Value) (l : List EntV) (wr : World) : Prop where
  own : EOwn wr w.heap.size v l
  bel : Below w.heap.size w wr
  wk : ∃ p c, Wkd w.heap.size wr w.heap.size xs lost p c
  cut : R = (cutL k a ⟨xs, lost⟩).map fun p => (l ++ p.1, p.2)
  key : a.size ≤ 256
  len : xs.length ≤ 1000000
theorem OnE.stop {w : World} {R : Option (List EntV × Wk)} {k : Nat} {a : ByteArray} {xs xs' : List Nat} {lost : Bool} {v : Value} {l : List EntV} {wr : World} {y : EntV} (h : OnE w R (k + 1) a xs lost v l wr) (hy : entW a ⟨xs, lost⟩ = (y, ⟨xs', true⟩)) : R = none := by
  rw [h.cut]
  unfold cutL
  rw [hy]
  simp
theorem entW_short (a : ByteArray) (s : Wk) : (entW a s).2.rest.length ≤ s.rest.length := by
  unfold entW
  simp only
  have h0 := numW_short a.size s
  have h1 := textW_short (256 - (numW a.size s).1) (numW a.size s).2
  have hk : (keyW a s).2.rest.length ≤ s.rest.length := by unfold keyW; exact Nat.le_trans h1 h0
  have h3 := numW_short 2147483647 (keyW a s).2
  have h4 := numW_short 1 (numW 2147483647 (keyW a s).2).2
  have h5 := textW_short 4096 (numW 1 (numW 2147483647 (keyW a s).2).2).2
  unfold tailW
  simp only
  split
  · simp only; omega
  · simp only; omega
theorem OnE.next {w : World} {R : Option (List EntV × Wk)} {k : Nat} {a : ByteArray} {xs xs' : List Nat} {lost : Bool} {v v' : Value} {l : List EntV} {wr w' : World} {y : EntV} (h : OnE w R (k + 1) a xs lost v l wr) (hy : entW a ⟨xs, lost⟩ = (y, ⟨xs', false⟩)) (ho : EOwn w' w.heap.size v' (l ++ [y])) (hb : Below w.heap.size w w') (hw : ∃ p c, Wkd w.heap.size w' w.heap.size xs' false p c) : OnE w R k y.key xs' false v' (l ++ [y]) w' := by
  refine ⟨ho, hb, hw, ?_, ?_, ?_⟩
  · rw [h.cut]
    conv => lhs; unfold cutL
    rw [hy]
    simp only [Bool.false_eq_true, if_false, Option.map_map]
    congr 1
    funext p
    simp
  · have := keyW_le a ⟨xs, lost⟩ h.key
    have e : y.key = (keyW a ⟨xs, lost⟩).1 := by
      have := congrArg (fun p => p.1.key) hy
      exact this.symm
    rw [e]; exact this
  · have := entW_short a ⟨xs, lost⟩
    rw [hy] at this
    exact Nat.le_trans this h.len
def endE : Option (List EntV × Wk) → Option (List EntV)
  | none => none
  | some (l, s) => if s.lost = false ∧ s.rest = [] then some l else none
theorem cutE_end (xs : List Nat) : cutE xs = endE (cutL (numW 4096 ⟨xs, false⟩).1 ByteArray.empty (numW 4096 ⟨xs, false⟩).2) := by
  unfold cutE endE
  rfl
def CutOut (xs : List Nat) (base : Nat) (e : Ending) (w' : World) : Prop :=
  (∃ l v, cutE xs = some l ∧ e = .returned (.tuple #[v, .bool true]) ∧ EOwn w' base v l) ∨ (∃ q n c, cutE xs = none ∧ e = .returned (.tuple #[.slice q n c, .bool false]))
set_option maxRecDepth 8000 in
set_option maxHeartbeats 1000000 in
theorem cutEntries_any (p : Option Addr) (n c : Nat) (xs : List Nat) (w : World) (hn : n = xs.length) (hb : BIn w p xs) (hc : n ≤ c ∧ c ≤ maxLen ∧ (p = none → c = 0)) (hx : xs.length ≤ 1000000) :
    Calls Try.prog 32 #[.slice p n c] w fun e w' => CutOut xs w.heap.size e w' ∧ Below w.heap.size w w' := by
  subst hn
  obtain ⟨m, s1, e1⟩ : ∃ m s, numW 4096 ⟨xs, false⟩ = (m, s) := ⟨_, _, rfl⟩
  obtain ⟨x1, l1⟩ := s1
  have hm : m ≤ 4096 := by have := numW_le 4096 ⟨xs, false⟩; rw [e1] at this; exact this
  have hx1 : x1.length ≤ 1000000 := by have := numW_short 4096 ⟨xs, false⟩; rw [e1] at this; exact Nat.le_trans this hx
  have hl1 : l1 = true → m = 0 := by
    intro hl
    unfold numW at e1
    split at e1
    · split at e1
      · simp only [Prod.mk.injEq, Wk.mk.injEq] at e1; rw [hl] at e1; exact absurd e1.2.2 (by simp)
      · simp only [Prod.mk.injEq] at e1; exact e1.1.symm
    · simp only [Prod.mk.injEq] at e1; exact e1.1.symm
  obtain ⟨R, hR⟩ : ∃ R, cutL m ByteArray.empty ⟨x1, l1⟩ = R := ⟨_, rfl⟩
  have HCE : Hid (cutE xs = endE R) := by show _ = _; rw [cutE_end, e1]; simp only; rw [hR]
  have hw0 : Wkd w.heap.size (w.alloc (.cells #[.slice p xs.length c, .bool false] 71)) w.heap.size xs false p c := ⟨heap_alloc_new _ _, hb.alloc _, hc, fun hp a ha => by obtain ⟨b, o, e, hcc⟩ := hb.1 hp; rw [ha] at e; rw [Option.some.inj e]; exact World.block_lt_of_cell? _ _ (hcc 0 hp)⟩
  have HNA := number_any w.heap.size 4096 xs false p c _ hw0 hx (by omega) m x1 l1 e1
  have HM : Hid (m ≤ 4096 ∧ (l1 = true → m = 0) ∧ x1.length ≤ 1000000) := ⟨hm, hl1, hx1⟩
  have HR : Hid (cutL m ByteArray.empty ⟨x1, l1⟩ = R) := hR
  obtain ⟨i0, hi, hz0, hz1, hz2⟩ := info_parts' info_entry
  have hmI : (m : Int) ≤ 4096 := by omega
  clear hb hc hx e1 hm hx1 hl1 hR hw0
  go_enter Try.func32, Try.ntmps32
  go_wp2_with fail
  refine HNA.mono ?_
  rintro e w1 ⟨rfl, hw1, hg1⟩
  have HON : Hid (OnE w R m ByteArray.empty x1 l1 (.slice none 0 0) [] w1) := ⟨eown_nil _ _, (below_alloc w _).grown hg1 (by simp) (fun k hk => by have := Option.some.inj hk; omega), hw1, by rw [← HR.out]; simp, by decide, HM.out.2.2⟩
  clear hw1 hg1 HNA
  go_wp2
  go_loopw [5, 6, 11] (fun v a i wr => ∃ k s xk lk l, k ≤ m ∧ i = .int .i64 ((k : Nat) : Int) ∧ a = .string s ∧ (lk = true → m = 0) ∧ l.length = k ∧ OnE w R (m - k) s xk lk v l wr) (fun _ _ i _ => m - (intOf i).toNat)
  case atStart => exact ⟨0, ByteArray.empty, x1, l1, [], by omega, rfl, rfl, HM.out.2.1, rfl, HON.out⟩
  case round =>
    obtain ⟨k, s, xk, lk, l, hk, rfl, rfl, hlk, hll, hon⟩ := hrel
    obtain ⟨q, cq, rfl, _, _, _⟩ := hon.own.form
    have HO : Hid (OnE w R (m - k) s xk lk (.slice q l.length cq) l wr) := hon
    have HLL : Hid (l.length = k ∧ k ≤ 4096) := ⟨hll, by have := HM.out.1; omega⟩
    clear hll
    by_cases hkm : k < m
    · have hlkf : lk = false := by cases lk with | false => rfl | true => exact absurd (hlk rfl) (by omega)
      subst hlkf
      obtain ⟨y, s', ey⟩ : ∃ y s', entW s ⟨xk, false⟩ = (y, s') := ⟨_, _, rfl⟩
      obtain ⟨x', l'⟩ := s'
      obtain ⟨pk, ck, hwk⟩ := hon.wk
      have HEN := entry_any w.heap.size xk s pk ck wr hwk hon.len hon.key y x' l' ey
      obtain ⟨ky, vy, sy, gy⟩ := y
      rw [entV_def] at HEN
      have HEY : Hid (entW s ⟨xk, false⟩ = (⟨ky, vy, sy, gy⟩, ⟨x', l'⟩)) := ey
      have hkI : (k : Int) < (m : Int) := by omega
      have HMK : Hid (m - k = m - (k + 1) + 1) := by show _ = _; omega
      clear hwk ey hon hlk
      go_wp2_with fail
      refine HEN.mono ?_
      rintro e w2 ⟨rfl, hw2, hg2⟩
      obtain ⟨pg, cg, hwg⟩ := hw2
      have hb2 : Below w.heap.size w w2 := HO.out.bel.grown hg2 HO.out.bel.size (fun k hk => by have := Option.some.inj hk; omega)
      have ho2 : EOwn w2 w.heap.size (.slice q l.length cq) l := by
        obtain ⟨p', c', hh⟩ := HO.out.wk
        exact World.ownsRow.kept HO.out.own hg2 (.inr (own_neS HO.out.own hh.box (by decide)))
      have HW2 : Hid (Wkd w.heap.size w2 w.heap.size x' l' pg cg ∧ Below w.heap.size w w2 ∧ EOwn w2 w.heap.size (.slice q l.length cq) l) := ⟨hwg, hb2, ho2⟩
      have hb3 := below_alloc w2 (.cells #[.string ky, .string vy, .int .i64 sy, .bool gy] 27)
      obtain ⟨⟨a0, a1⟩, _⟩ := two2 (hwg.below hb3).box
      cases l' with
      | true =>
        have HN : Hid (cutE xs = none) := by
          show _ = _
          have h1 := HO.out
          rw [HMK.out] at h1
          have h2 := h1.stop HEY.out
          rw [HCE.out, h2]; rfl
        clear hwg hb2 ho2 hb3 HEN hg2
        go_wp2
        go_ret2
        exact ⟨.inr ⟨none, 0, 0, HN.out, rfl⟩, below_bt HW2.out.2.1 (below_alloc _ _)⟩
      | false =>
        have HOW : Hid (EOwn ((w2.alloc (.cells #[.string ky, .string vy, .int .i64 sy, .bool gy] 27)).alloc (.cells #[.string ky, .string vy, .int .i64 sy, .bool gy] 27)) w.heap.size (.slice q l.length cq) l) := (ho2.below hb3).below (below_alloc _ _)
        have HBE : Hid (Below w.heap.size w ((w2.alloc (.cells #[.string ky, .string vy, .int .i64 sy, .bool gy] 27)).alloc (.cells #[.string ky, .string vy, .int .i64 sy, .bool gy] 27))) := below_bt (below_bt hb2 hb3) (below_alloc _ _)
        have HWE : Hid (Wkd w.heap.size ((w2.alloc (.cells #[.string ky, .string vy, .int .i64 sy, .bool gy] 27)).alloc (.cells #[.string ky, .string vy, .int .i64 sy, .bool gy] 27)) w.heap.size x' false pg cg) := (hwg.below hb3).below (below_alloc _ _)
        have HCL : Hid (∀ j u, [Value.string ky, .string vy, .int .i64 sy, .bool gy][j]? = some u → ((w2.alloc (.cells #[.string ky, .string vy, .int .i64 sy, .bool gy] 27)).alloc (.cells #[.string ky, .string vy, .int .i64 sy, .bool gy] 27)).cell? ((⟨w2.heap.size + 1, 0, none⟩ : Addr).add j) = some u) := by
          have h := ent_cells (w2.alloc (.cells #[.string ky, .string vy, .int .i64 sy, .bool gy] 27)) (.string ky) (.string vy) (.int .i64 sy) (.bool gy) 27
          rw [show (w2.alloc (.cells #[.string ky, .string vy, .int .i64 sy, .bool gy] 27)).heap.size = w2.heap.size + 1 by simp] at h
          exact h
        have HBX : Hid ((w2.alloc (.cells #[.string ky, .string vy, .int .i64 sy, .bool gy] 27)).heap[w2.heap.size]? = some (.cells #[.string ky, .string vy, .int .i64 sy, .bool gy] 27 (0, 0))) := heap_alloc_new _ _
        have HBA : Hid (∀ ua, ((w2.alloc (.cells #[.string ky, .string vy, .int .i64 sy, .bool gy] 27)).alloc (.cells #[.string ky, .string vy, .int .i64 sy, .bool gy] 27)).grownBy ua (Value.slice q l.length cq).ownBlock → ua.cell? ⟨w2.heap.size, 0, none⟩ = some (.string ky)) := by
          intro ua hga
          have h1 := block_below HBX.out (below_alloc _ (.cells #[.string ky, .string vy, .int .i64 sy, .bool gy] 27))
          exact (four ((hga.block _ (lt_heap h1) (fun e => by have := (World.ownsRow.lt HW2.out.2.2 _ e.symm).2; omega)).trans h1)).1.1
        clear hwg hb2 ho2 hb3 HEN hg2
        go_wp2_with (at_builtin; go_loud (refine wpList_append_own _ rfl _ _ 28 rfl w.heap.size 27 i0 _ 4 48 Try.underlying28 hi hz0 hz1 hz2 rfl (by omega) _ _ _ rfl HOW.out ⟨w2.heap.size + 1, 0, none⟩ 1 1 [.string ky, .string vy, .int .i64 sy, .bool gy] rfl rfl HCL.out (ent_one ky vy sy gy) (by have := HLL.out; unfold maxLen; omega) (by have := HLL.out; omega) HBE.out.size ?_); intro va ua hoa hga _; have d0 := HBA.out ua hga)
        have HNW : Hid (OnE w R (m - (k + 1)) ky x' false va (l ++ [⟨ky, vy, sy, gy⟩]) ua) := by
          have h1 := HO.out
          rw [HMK.out] at h1
          have hne : ∀ k, (Value.slice q l.length cq).ownBlock = some k → w.heap.size ≤ k ∧ k ≠ w.heap.size := fun k hk => ⟨(World.ownsRow.lt HOW.out k hk).1, fun e => own_neS HW2.out.2.2 HW2.out.1.box (by decide) (by rw [hk, e])⟩
          refine h1.next HEY.out ?_ (HBE.out.grown hga HBE.out.size (fun k hk => (World.ownsRow.lt HOW.out k hk).1)) ⟨pg, cg, HWE.out.own hga hne⟩
          unfold EOwn
          rw [cellsE_app, List.length_append]
          exact hoa
        clear hoa hga
        go_wp2
        go_roundw
        case rel => exact ⟨k + 1, ky, x', false, _, by omega, by go_num, rfl, by simp, by rw [List.length_append, HLL.out.1]; rfl, HNW.out⟩
        case measure => simp [intOf]; omega
    · have hkI : (m : Int) ≤ (k : Int) := by omega
      obtain ⟨pk, ck, hwk⟩ := hon.wk
      obtain ⟨⟨a0, a1⟩, _⟩ := two2 hwk.box
      have HEN : Hid (cutE xs = if lk = false ∧ xk = [] then some l else none) := by
        show _ = _
        rw [HCE.out, hon.cut, show m - k = 0 from by omega]
        unfold cutL endE
        simp
      clear hwk hon hlk
      cases lk with
      | true =>
        have HN : Hid (cutE xs = none) := by show _ = _; rw [HEN.out]; simp
        go_wp2
        go_quiet (fail)
        go_wp2
        go_ret2
        exact ⟨.inr ⟨q, l.length, cq, HN.out, rfl⟩, below_drewN HO.out.bel _⟩
      | false =>
        by_cases hxk : xk = []
        · subst hxk
          have HN : Hid (cutE xs = some l) := by show _ = _; rw [HEN.out]; simp
          simp only [List.length_nil] at a0
          go_wp2
          go_quiet (fail)
          go_wp2
          go_ret2
          exact ⟨.inl ⟨l, _, HN.out, rfl, HO.out.own.below (below_drewN (Below.refl _ _) _)⟩, below_drewN HO.out.bel _⟩
        · have HN : Hid (cutE xs = none) := by show _ = _; rw [HEN.out]; simp [hxk]
          have g3 : ((xk.length : Int) == 0) = false := by have := List.length_pos_iff.2 hxk; simp; exact hxk
          clear hxk
          go_wp2
          go_quiet (fail)
          go_wp2
          go_ret2
          exact ⟨.inr ⟨q, l.length, cq, HN.out, rfl⟩, below_drewN HO.out.bel _⟩
end Go.Proofs.Ytldgnejmmjbhiaa
