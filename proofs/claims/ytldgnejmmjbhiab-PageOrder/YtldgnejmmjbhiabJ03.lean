/-
  For any three entries the law PageOrder answers true: the order of entries goes on.
-/
import Derived.Test.YtldgnejmmjbhiabJ02
import Derived.Deep.RegionHeld3
import Derived.Lib.SmallJoins
import Derived.Test.YtldgnejmmjbhiabRows
import Derived.WalkKit
import Derived.ProofKit
import Derived.OpenShut
import Derived.ShutString
import Derived.ChangeOld
import Derived.Below
namespace Go.Proofs.Ytldgnejmmjbhiab
open Go.RowKit Go.WideShapes

theorem nums_extract (r : ByteArray) (a b : Nat) : numsOf (r.extract a b) = ((numsOf r).drop a).take (b - a) := by
  unfold numsOf
  rw [ByteArray.data_extract, Array.toList_extract, List.extract_eq_take_drop, List.map_take, List.map_drop]
theorem text_drop (k : ByteArray) (n : Nat) : textN (k.extract n k.size) = smallN ((numsOf k).length - n) ++ (numsOf k).drop n := by
  unfold textN
  rw [nums_extract, List.take_of_length_le (by rw [List.length_drop, numsOf_len]; omega), ByteArray.size_extract, numsOf_len, Nat.min_self]
theorem St.box0 {w : World} {bx : List Box} {wc : World} {v : Value} {xs : List Nat} {B : Nat} {C : Array Value} {t : TypeId} (h : St w ((B, C, t) :: bx) wc v xs) (i : Nat) : wc.cell? ⟨B, i, none⟩ = C[i]? := h.cell (t := t) (by simp) i
theorem ent_join (a : List Nat) (k v : ByteArray) (s : Int) (xs : List Nat) (g : Bool) (tl : List Nat) (ht : tailN ⟨k, v, s, g⟩ = tl) : xs ++ smallN (sharedN a (numsOf k)) ++ textN (k.extract (sharedN a (numsOf k)) k.size) ++ smallN s.toNat ++ tl = xs ++ entN a ⟨k, v, s, g⟩ := by
  rw [text_drop, ← ht]
  unfold entN keyN
  simp only [List.append_assoc]
theorem textN_lt (s : ByteArray) : ∀ c ∈ textN s, c < 256 := by
  intro c hc
  rcases List.mem_append.1 hc with h | h
  · exact smallN_bytes _ c h
  · exact numsOf_lt _ c h
theorem smallN_five (n : Nat) (h : n < 34359738368) : (smallN n).length ≤ 5 := smallN_len 4 n (by omega)
theorem textN_len (s : ByteArray) (h : s.size ≤ 100000) : (textN s).length ≤ s.size + 5 := by
  unfold textN
  have := smallN_five s.size (by omega)
  rw [List.length_append, numsOf_len]; omega
set_option maxRecDepth 8000 in
set_option maxHeartbeats 4000000 in
theorem appendEntry_any (w0 : World) (bx : List Box) (w : World) (v : Value) (xs : List Nat) (a : ByteArray) (x : EntV) (hst : St w0 bx w v xs) (hx : OkE x) (ha : a.size ≤ 256) (hl : xs.length ≤ 1000000) (ys : List Nat) (hy : xs ++ entN (numsOf a) x = ys) :
    Calls Try.prog 10 #[v, .string a, entV x] w fun e w' => ∃ v', e = .returned v' ∧ St w0 bx w' v' ys := by
  obtain ⟨k, vl, s, g⟩ := x
  rw [entV_def]
  obtain ⟨hk1, hk2, hv, hs1, hs2, hg⟩ := hx
  simp only at hk1 hk2 hv hs1 hs2 hg
  obtain ⟨n, hn⟩ : ∃ n, sharedN (numsOf a) (numsOf k) = n := ⟨_, rfl⟩
  have hnk : n ≤ k.size := by have := (sharedN_le (numsOf a) (numsOf k)).2; rw [numsOf_len] at this; omega
  have HJ : Hid (∀ tl, tailN ⟨k, vl, s, g⟩ = tl → xs ++ smallN n ++ textN (k.extract n k.size) ++ smallN s.toNat ++ tl = ys) := by
    intro tl ht
    have := ent_join (numsOf a) k vl s xs g tl ht
    rw [hn, hy] at this
    exact this
  have HX : Hid (xs.length ≤ 1000000 ∧ n ≤ 256 ∧ k.size ≤ 256 ∧ (smallN n).length ≤ 5 ∧ (textN (k.extract n k.size)).length ≤ 300 ∧ (smallN s.toNat).length ≤ 5) := by
    have h1 := textN_len (k.extract n k.size) (by rw [ByteArray.size_extract]; omega)
    rw [ByteArray.size_extract] at h1
    exact ⟨hl, by omega, hk2, smallN_five n (by omega), by omega, smallN_five _ (by omega)⟩
  have HSH := fun w' => shared_any a k w' (by omega) n hn
  have q1 : (n : Int) ≤ (k.size : Int) := by omega
  have q2 : (k.size : Int) ≤ 256 := by omega
  have hs3 : 0 ≤ s ∧ s ≤ 9223372036854775807 := by omega
  have HV : Hid (vl.size ≤ 100000 ∧ (textN vl).length ≤ 5000) := ⟨by omega, by have := textN_len vl (by omega); omega⟩
  have HBY : Hid (∀ l ∈ [smallN n, textN (k.extract n k.size), smallN s.toNat, textN vl], ∀ c ∈ l, c < 256) := by
    intro l hl c hc
    simp only [List.mem_cons, List.not_mem_nil, or_false] at hl
    rcases hl with rfl | rfl | rfl | rfl
    · exact smallN_bytes _ c hc
    · exact textN_lt _ c hc
    · exact smallN_bytes _ c hc
    · exact textN_lt _ c hc
  have HKX : Hid ((k.extract n k.size).size ≤ 100000) := by show _ ≤ _; rw [ByteArray.size_extract]; omega
  have HST : Hid (St w0 bx w v xs) := hst
  clear hst hn hnk hy hl hg hk1 hk2 hv hs1 hs2 ha
  go_enter Try.func10, Try.ntmps10
  go_wp2_with fail
  refine (HSH _).mono ?_
  rintro e w1 ⟨rfl, hb1⟩
  have H1 : Hid (St w0 ((w.heap.size, #[.string k, .string vl, .int .i64 s, .bool g], 23) :: bx) w1 v xs) := (HST.out.alloc _ _ (by decide)).call hb1
  clear hb1 HSH HST
  go_wp2_with fail
  refine (small_i (n : Int) _ (by omega)).mono ?_
  rintro e w2 ⟨v2, rfl, ho2, hb2⟩
  rw [Int.toNat_natCast] at ho2
  obtain ⟨p2, c2, rfl, _, _, hp2⟩ := own_form ho2
  have H2 : Hid (St w0 ((w.heap.size, #[.string k, .string vl, .int .i64 s, .bool g], 23) :: bx) w2 v (xs)) := H1.out.call hb2
  have HI2 : Hid (BIn w2 p2 (smallN n)) := own_in ho2 (HBY.out _ (by simp))
  have hz2 := H2.out.size
  clear ho2 hb2 H1
  go_wp2_with (at_builtin; go_loud (refine wpList_append_bytes _ rfl _ _ rfl w0.heap.size _ _ (smallN n) p2 _ c2 rfl rfl rfl H2.out.own HI2.out hp2 (by (try simp only [List.length_append]); have := HX.out; omega) hz2 ?_); intro v3 w3 ho3 hg3; have t3 := H2.out.app ho3 hg3; have H3 : Hid _ := t3; have bx0 := t3.box0 0; have bx1 := t3.box0 1; have bx2 := t3.box0 2; have bx3 := t3.box0 3; clear t3 ho3 hg3 H2 HI2)
  go_wp2_with fail
  refine (text_any (k.extract n k.size) _ HKX.out).mono ?_
  rintro e w4 ⟨v4, rfl, ho4, hb4⟩
  clear bx0 bx1 bx2 bx3
  obtain ⟨p4, c4, rfl, _, _, hp4⟩ := own_form ho4
  have H4 : Hid (St w0 ((w.heap.size, #[.string k, .string vl, .int .i64 s, .bool g], 23) :: bx) w4 v3 (xs ++ smallN n)) := H3.out.call hb4
  have HI4 : Hid (BIn w4 p4 (textN (k.extract n k.size))) := own_in ho4 (HBY.out _ (by simp))
  have hz4 := H4.out.size
  clear ho4 hb4 H3
  go_wp2_with (at_builtin; go_loud (refine wpList_append_bytes _ rfl _ _ rfl w0.heap.size _ _ (textN (k.extract n k.size)) p4 _ c4 rfl rfl rfl H4.out.own HI4.out hp4 (by (try simp only [List.length_append]); have := HX.out; omega) hz4 ?_); intro v5 w5 ho5 hg5; have t5 := H4.out.app ho5 hg5; have H5 : Hid _ := t5; have bx0 := t5.box0 0; have bx1 := t5.box0 1; have bx2 := t5.box0 2; have bx3 := t5.box0 3; clear t5 ho5 hg5 H4 HI4)
  go_wp2_with fail
  refine (small_i s _ hs3).mono ?_
  rintro e w6 ⟨v6, rfl, ho6, hb6⟩
  clear bx0 bx1 bx2 bx3
  obtain ⟨p6, c6, rfl, _, _, hp6⟩ := own_form ho6
  have H6 : Hid (St w0 ((w.heap.size, #[.string k, .string vl, .int .i64 s, .bool g], 23) :: bx) w6 v5 (xs ++ smallN n ++ textN (k.extract n k.size))) := H5.out.call hb6
  have HI6 : Hid (BIn w6 p6 (smallN s.toNat)) := own_in ho6 (HBY.out _ (by simp))
  have hz6 := H6.out.size
  clear ho6 hb6 H5
  cases g with
  | true =>
    have HE : Hid (xs ++ smallN n ++ textN (k.extract n k.size) ++ smallN s.toNat ++ [1] = ys) := HJ.out [1] (by unfold tailN; rw [if_pos rfl, small1])
    go_wp2_with (first
      | (at_builtin; go_loud (refine wpList_append_bytes _ rfl _ _ rfl w0.heap.size _ _ (smallN s.toNat) p6 _ c6 rfl rfl rfl H6.out.own HI6.out hp6 (by (try simp only [List.length_append]); have := HX.out; omega) hz6 ?_); intro v7 w7 ho7 hg7; have t7 := H6.out.app ho7 hg7; have H7 : Hid _ := t7; have bx0 := t7.box0 0; have bx1 := t7.box0 1; have bx2 := t7.box0 2; have bx3 := t7.box0 3; clear t7 ho7 hg7 H6 HI6; have S8 := H7.out.call (below_alloc w7 (.cells #[.int .u8 1] 5)); have HI8 : Hid (BIn (w7.alloc (.cells #[.int .u8 1] 5)) (some ⟨w7.heap.size, 0, none⟩) [1]) := bin_lit w7 _ _ 5 (0, 0) _ rfl (by simp [Bs]) (by intro c hc; simp at hc; omega); have H8 : Hid _ := S8; have hz8 := S8.size; clear S8)
      | (at_builtin; go_loud (refine wpList_append_bytes _ rfl _ _ rfl w0.heap.size _ _ [1] (some ⟨w7.heap.size, 0, none⟩) _ 1 rfl rfl rfl H8.out.own HI8.out (fun h => by cases h) (by simp only [List.length_append, List.length_cons, List.length_nil]; have := HX.out; omega) hz8 ?_); intro v9 w9 ho9 hg9; have t9 := H8.out.app ho9 hg9; have H9 : Hid _ := t9; clear t9 ho9 hg9))
    go_ret
    exact ⟨v9, rfl, (H9.out.eq HE.out).drop⟩
  | false =>
    have HE : Hid (xs ++ smallN n ++ textN (k.extract n k.size) ++ smallN s.toNat ++ [0] ++ textN vl = ys) := by
      have := HJ.out ([0] ++ textN vl) (by unfold tailN textN; rw [if_neg (by simp), small0])
      rw [← List.append_assoc] at this
      exact this
    go_wp2_with (first
      | (at_builtin; go_loud (refine wpList_append_bytes _ rfl _ _ rfl w0.heap.size _ _ (smallN s.toNat) p6 _ c6 rfl rfl rfl H6.out.own HI6.out hp6 (by (try simp only [List.length_append]); have := HX.out; omega) hz6 ?_); intro v7 w7 ho7 hg7; have t7 := H6.out.app ho7 hg7; have H7 : Hid _ := t7; have bx0 := t7.box0 0; have bx1 := t7.box0 1; have bx2 := t7.box0 2; have bx3 := t7.box0 3; clear t7 ho7 hg7 H6 HI6; have S8 := H7.out.call (below_alloc w7 (.cells #[.int .u8 0] 5)); have HI8 : Hid (BIn (w7.alloc (.cells #[.int .u8 0] 5)) (some ⟨w7.heap.size, 0, none⟩) [0]) := bin_lit w7 _ _ 5 (0, 0) _ rfl (by simp [Bs]) (by intro c hc; simp at hc; omega); have H8 : Hid _ := S8; have hz8 := S8.size; clear S8)
      | (at_builtin; go_loud (refine wpList_append_bytes _ rfl _ _ rfl w0.heap.size _ _ [0] (some ⟨w7.heap.size, 0, none⟩) _ 1 rfl rfl rfl H8.out.own HI8.out (fun h => by cases h) (by simp only [List.length_append, List.length_cons, List.length_nil]; have := HX.out; omega) hz8 ?_); intro v9 w9 ho9 hg9; have t9 := H8.out.app ho9 hg9; have H9 : Hid _ := t9; clear bx0 bx1 bx2 bx3; have bx1 := t9.box0 1; clear t9 ho9 hg9))
    go_wp2_with fail
    refine (text_any vl _ HV.out.1).mono ?_
    rintro e w10 ⟨v10, rfl, ho10, hb10⟩
    obtain ⟨p10, c10, rfl, _, _, hp10⟩ := own_form ho10
    have H10 : Hid (St w0 ((w.heap.size, #[.string k, .string vl, .int .i64 s, .bool false], 23) :: bx) w10 v9 (xs ++ smallN n ++ textN (k.extract n k.size) ++ smallN s.toNat ++ [0])) := H9.out.call hb10
    have HI10 : Hid (BIn w10 p10 (textN vl)) := own_in ho10 (HBY.out _ (by simp))
    have hz10 := H10.out.size
    clear ho10 hb10 H9 H8
    go_wp2_with (at_builtin; go_loud (refine wpList_append_bytes _ rfl _ _ rfl w0.heap.size _ _ (textN vl) p10 _ c10 rfl rfl rfl H10.out.own HI10.out hp10 (by simp only [List.length_append, List.length_cons, List.length_nil]; have := HX.out; have := HV.out; omega) hz10 ?_); intro v11 w11 ho11 hg11; have t11 := H10.out.app ho11 hg11; have H11 : Hid _ := t11; clear t11 ho11 hg11)
    go_ret
    exact ⟨v11, rfl, (H11.out.eq HE.out).drop⟩
end Go.Proofs.Ytldgnejmmjbhiab
namespace Go.Proofs.Ytldgnejmmjbhiab
open Go.RowKit Go.WideShapes

def prevE (l : List EntV) (k : Nat) : Option EntV := if k = 0 then none else some (l.getD (k - 1) zeroE)
theorem dropE {l : List EntV} {k : Nat} (h : k < l.length) : l.drop k = l.getD k zeroE :: l.drop (k + 1) := by
  rw [List.getD_eq_getElem?_getD, List.getElem?_eq_getElem h]; exact List.drop_eq_getElem_cons h
theorem checkF_one {l : List EntV} {k : Nat} (h : k < l.length) {y : EntV} (hy : l.getD k zeroE = y) (h1 : oneE y ≠ 0) : checkF (prevE l k) (l.drop k) = oneE y := by
  rw [dropE h, hy]
  cases hp : prevE l k <;> (unfold checkF; rw [if_pos h1])
theorem checkF_zero {l : List EntV} (h : 0 < l.length) {y : EntV} (hy : l.getD 0 zeroE = y) (h1 : oneE y = 0) : checkF (prevE l 0) (l.drop 0) = checkF (prevE l 1) (l.drop 1) := by
  rw [dropE h, hy]
  have e0 : prevE l 0 = none := rfl
  have e1 : prevE l 1 = some y := by unfold prevE; rw [if_neg (by omega)]; rw [show 1 - 1 = 0 from rfl, hy]
  rw [e0, e1]
  conv => lhs; unfold checkF
  rw [if_neg (by simp [h1])]
theorem checkF_next {l : List EntV} {k : Nat} (h : k + 1 < l.length) {x y : EntV} (hx : l.getD k zeroE = x) (hy : l.getD (k + 1) zeroE = y) (h1 : oneE y = 0) : checkF (prevE l (k + 1)) (l.drop (k + 1)) = if lessE x y = true then checkF (prevE l (k + 2)) (l.drop (k + 2)) else 100 := by
  rw [dropE h, hy]
  have e0 : prevE l (k + 1) = some x := by unfold prevE; rw [if_neg (by omega), show k + 1 - 1 = k from by omega, hx]
  have e1 : prevE l (k + 2) = some y := by unfold prevE; rw [if_neg (by omega), show k + 2 - 1 = k + 1 from by omega, hy]
  rw [e0, e1]
  conv => lhs; unfold checkF
  rw [if_neg (by simp [h1])]
theorem checkF_end (l : List EntV) (k : Nat) (h : l.length ≤ k) : checkF (prevE l k) (l.drop k) = 0 := by
  rw [List.drop_eq_nil_of_le h]
  cases prevE l k <;> rfl
theorem box4c (w : World) (a b c d : Value) (t : TypeId) : (w.alloc (.cells #[a, b, c, d] t)).cell? ⟨w.heap.size, 0, none⟩ = some a ∧ (w.alloc (.cells #[a, b, c, d] t)).cell? ⟨w.heap.size, 1, none⟩ = some b ∧ (w.alloc (.cells #[a, b, c, d] t)).cell? ⟨w.heap.size, 2, none⟩ = some c ∧ (w.alloc (.cells #[a, b, c, d] t)).cell? ⟨w.heap.size, 3, none⟩ = some d := by
  have h := heap_alloc_new w (.cells #[a, b, c, d] t)
  exact ⟨Lib.cell_of_heap h 0, Lib.cell_of_heap h 1, Lib.cell_of_heap h 2, Lib.cell_of_heap h 3⟩
theorem below_dw {a c : World} (h : Below a.drew.heap.size a.drew c) : Below a.heap.size a c := ⟨h.os, h.tape, h.output, h.size, h.block⟩
/-- Four cells side by side. -/
abbrev C4 (w : World) (g o : Nat) (a b c d : Value) : Prop := w.cell? ⟨g, o, none⟩ = some a ∧ w.cell? ⟨g, o + 1, none⟩ = some b ∧ w.cell? ⟨g, o + 2, none⟩ = some c ∧ w.cell? ⟨g, o + 3, none⟩ = some d
theorem c4_below {w w' : World} {g o : Nat} {a b c d : Value} (h : C4 w g o a b c d) (hb : Below w.heap.size w w') : C4 w' g o a b c d := by
  obtain ⟨a0, a1, a2, a3⟩ := h
  exact ⟨(hb.cell (World.block_lt_of_cell? _ _ a0)).trans a0, (hb.cell (World.block_lt_of_cell? _ _ a1)).trans a1, (hb.cell (World.block_lt_of_cell? _ _ a2)).trans a2, (hb.cell (World.block_lt_of_cell? _ _ a3)).trans a3⟩
set_option maxRecDepth 8000 in
set_option maxHeartbeats 4000000 in
theorem Check_any (q : Option Addr) (n c : Nat) (l : List EntV) (w : World) (h : EntsL w q n l) (C : Nat) (hC : checkE l = C) :
    Calls Try.prog 8 #[.slice q n c] w fun e w' => e = .returned (.int .i64 (C : Int)) ∧ Below w.heap.size w w' := by
  unfold checkE at hC
  have HN : Hid (n = l.length) := h.n
  by_cases hl : 4096 < l.length
  · rw [if_pos hl] at hC
    subst hC
    have g1 : (4096 : Int) < (n : Int) := by have := h.n; omega
    clear hl h
    go_enter Try.func8, Try.ntmps8
    go_wp2
    go_ret
    exact ⟨rfl, Below.refl _ _⟩
  rw [if_neg hl] at hC
  have g1 : (n : Int) ≤ 4096 := by have := h.n; omega
  have HQ : Hid (EntsIn w q l) := h.lies
  have HC : Hid (checkF (prevE l 0) (l.drop 0) = C) := hC
  clear hC h hl
  go_enter Try.func8, Try.ntmps8
  go_wp2
  go_loopw [11] (fun i wr => ∃ k : Nat, k ≤ n ∧ i = .int .i64 k ∧ checkF (prevE l k) (l.drop k) = C ∧ Below w.heap.size w wr) (fun i _ => n - (intOf i).toNat)
  case atStart => exact ⟨0, by omega, rfl, HC.out, Below.refl _ _⟩
  case round =>
    obtain ⟨k, hk, rfl, hs, hbel⟩ := hrel
    have HK : Hid (checkF (prevE l k) (l.drop k) = C) := hs
    have HB : Hid (Below w.heap.size w wr) := hbel
    clear hs hbel
    by_cases hkl : k < n
    · have hkl' : k < l.length := by have := HN.out; omega
      obtain ⟨b, o, rfl⟩ := HQ.out.addr (by omega)
      have HQ2 := (HQ.out.below HB.out)
      obtain ⟨e0, e1, e2, e3⟩ := HQ2.at hkl'
      obtain ⟨y, hy⟩ : ∃ y, l.getD k zeroE = y := ⟨_, rfl⟩
      rw [hy] at e0 e1 e2 e3
      have HY : Hid (l.getD k zeroE = y) := hy
      obtain ⟨ke, ve, se, ge⟩ := y
      simp only at e0 e1 e2 e3
      obtain ⟨E, hE⟩ : ∃ E, oneE ⟨ke, ve, se, ge⟩ = E := ⟨_, rfl⟩
      have HE : Hid (oneE ⟨ke, ve, se, ge⟩ = E) := hE
      have HCE := fun w' => checkEntry_any ⟨ke, ve, se, ge⟩ w' E hE
      rw [entV_def] at HCE
      have BX := box4c wr (.string ke) (.string ve) (.int .i64 se) (.bool ge) 23
      have HBX : Hid (C4 (wr.alloc (.cells #[.string ke, .string ve, .int .i64 se, .bool ge] 23)) wr.heap.size 0 (.string ke) (.string ve) (.int .i64 se) (.bool ge)) := BX
      have hkn : (k : Int) < (n : Int) := by omega
      have HKL : Hid (k < l.length) := hkl'
      clear hE hy BX hkl'
      rcases Nat.eq_zero_or_pos E with hE0 | hE0
      · subst hE0
        rcases k with _ | k
        · have H2 : Hid (checkF (prevE l 1) (l.drop 1) = C) := by show _ = _; rw [← checkF_zero HKL.out HY.out HE.out]; exact HK.out
          clear HQ2
          simp only [Nat.zero_mul, Nat.add_zero] at e0 e1 e2 e3
          go_wp2_with fail
          refine (HCE _).mono ?_
          rintro e w2 ⟨rfl, hb2⟩
          obtain ⟨d0, d1, d2, d3⟩ := c4_below HBX.out hb2
          have HB2 : Hid (Below w.heap.size w w2) := below_bt (below_bt HB.out (below_alloc _ _)) hb2
          clear hb2 HCE HBX
          go_wp2
          go_quiet (fail)
          go_wp2
          go_roundw
          case rel => exact ⟨1, by omega, by go_num, H2.out, below_drewN HB2.out _⟩
          case measure => simp [intOf]; omega
        · obtain ⟨x, hx⟩ : ∃ x, l.getD k zeroE = x := ⟨_, rfl⟩
          obtain ⟨kx, vx, sx, gx⟩ := x
          have h4 := HQ2.at (k := k) (by have := HKL.out; omega)
          rw [hx] at h4
          have HP : Hid (C4 wr b (o + k * 4) (.string kx) (.string vx) (.int .i64 sx) (.bool gx)) := h4
          have HNX := checkF_next HKL.out hx HY.out HE.out
          obtain ⟨r, hr⟩ : ∃ r, lessE ⟨kx, vx, sx, gx⟩ ⟨ke, ve, se, ge⟩ = r := ⟨_, rfl⟩
          have HLE := fun w' => less_any ⟨kx, vx, sx, gx⟩ ⟨ke, ve, se, ge⟩ w'
          rw [hr, entV_def, entV_def] at HLE
          rw [hr, HK.out] at HNX
          have HNX' : Hid (C = if r = true then checkF (prevE l (k + 2)) (l.drop (k + 2)) else 100) := HNX
          clear hx hr HQ2 h4 HNX
          go_wp2_with fail
          refine (HCE _).mono ?_
          rintro e w2 ⟨rfl, hb2⟩
          have HD : Hid (C4 w2 wr.heap.size 0 (.string ke) (.string ve) (.int .i64 se) (.bool ge)) := c4_below HBX.out hb2
          have HP2 : Hid (C4 w2 b (o + k * 4) (.string kx) (.string vx) (.int .i64 sx) (.bool gx)) := c4_below HP.out (below_bt (below_alloc _ _) hb2)
          have HB2 : Hid (Below w.heap.size w w2) := below_bt (below_bt HB.out (below_alloc _ _)) hb2
          clear hb2 HCE HBX HP
          generalize wr.heap.size = g at *
          have kw0 : IntKind.i64.wrap (k : Int) = (k : Int) := by rw [IntKind.wrap_i64]; omega
          have kw1 : IntKind.i64.wrap ((k : Int) + 1 - 1) = (k : Int) := by rw [IntKind.wrap_i64]; omega
          have kw2 : IntKind.i64.wrap (((k + 1 : Nat) : Int) - 1) = (k : Int) := by rw [IntKind.wrap_i64]; omega
          have kb0 : (0 : Int) ≤ (k : Int) := by omega
          have kb1 : (k : Int) < (n : Int) := by omega
          go_wp2
          go_region_held3 (fun w' => (w'.cell? ⟨g, 0, none⟩ = some (.string ke) ∧ w'.cell? ⟨g, 0 + 1, none⟩ = some (.string ve) ∧ w'.cell? ⟨g, 0 + 2, none⟩ = some (.int .i64 se) ∧ w'.cell? ⟨g, 0 + 3, none⟩ = some (.bool ge)) ∧ (w'.cell? ⟨b, o + k * 4, none⟩ = some (.string kx) ∧ w'.cell? ⟨b, o + k * 4 + 1, none⟩ = some (.string vx) ∧ w'.cell? ⟨b, o + k * 4 + 2, none⟩ = some (.int .i64 sx) ∧ w'.cell? ⟨b, o + k * 4 + 3, none⟩ = some (.bool gx)) ∧ Below w2.heap.size w2 w')
            (with_reducible first | exact ⟨HD.out, HP2.out, Below.refl _ _⟩ | exact ⟨c4_below HD.out (Below.refl _ _).drew, c4_below HP2.out (Below.refl _ _).drew, (Below.refl _ _).drew⟩ | exact ⟨c4_below HD.out (below_dw (by assumption)), c4_below HP2.out (below_dw (by assumption)), below_dw (by assumption)⟩ | assumption)
            (first
              | (go_at_call 5; refine (HLE _).mono ?_; rintro e w3 ⟨rfl, hb3⟩)
              | fail)
          rename_i hh
          have HB3 : Hid (Below w.heap.size w w3) := below_bt HB2.out hh.2.2
          clear hh
          cases r with
          | true =>
            have H2 : Hid (checkF (prevE l (k + 2)) (l.drop (k + 2)) = C) := by have := HNX'.out; rw [if_pos rfl] at this; exact this.symm
            go_wp2
            go_roundw
            case rel => exact ⟨k + 2, by omega, by go_num, H2.out, HB3.out⟩
            case measure => simp [intOf]; omega
          | false =>
            have H2 : Hid (C = 100) := by have := HNX'.out; rw [if_neg (by simp)] at this; exact this
            go_wp2
            go_ret
            exact ⟨by rw [H2.out]; rfl, HB3.out⟩
      · have hne : ((E : Int) != 0) = true := by simp; omega
        have H2 : Hid (E = C) := by show _ = _; rw [← HK.out, checkF_one HKL.out HY.out (by rw [HE.out]; omega), HE.out]
        clear HQ2 hE0
        go_wp2_with fail
        refine (HCE _).mono ?_
        rintro e w2 ⟨rfl, hb2⟩
        have HB2 : Hid (Below w.heap.size w w2) := below_bt (below_bt HB.out (below_alloc _ _)) hb2
        clear hb2 HCE HBX
        go_wp2
        go_ret
        exact ⟨by rw [← H2.out]; rfl, HB2.out⟩
    · have g2 : (n : Int) ≤ (k : Int) := by omega
      have H2 : Hid (C = 0) := by show _ = _; rw [← HK.out]; exact checkF_end l k (by have := HN.out; omega)
      go_wp2
      go_ret
      exact ⟨by rw [H2.out]; rfl, HB.out⟩
end Go.Proofs.Ytldgnejmmjbhiab
namespace Go.Proofs.Ytldgnejmmjbhiab
open Go.RowKit Go.WideShapes

def lastK : List Nat → List EntV → List Nat
  | a, [] => a
  | _, x :: l => lastK (numsOf x.key) l
theorem entsN_app : ∀ (l m : List EntV) (a : List Nat), entsN a (l ++ m) = entsN a l ++ entsN (lastK a l) m
  | [], m, a => rfl
  | x :: l, m, a => by simp only [List.cons_append, entsN, lastK, entsN_app l m, List.append_assoc]
theorem lastK_snoc : ∀ (l : List EntV) (x : EntV) (a : List Nat), lastK a (l ++ [x]) = numsOf x.key
  | [], x, a => rfl
  | y :: l, x, a => by simp only [List.cons_append, lastK, lastK_snoc l x]
theorem take_snoc {l : List EntV} {k : Nat} (h : k < l.length) {y : EntV} (hy : l.getD k zeroE = y) : l.take (k + 1) = l.take k ++ [y] := by
  rw [List.take_add_one, List.getElem?_eq_getElem h, ← hy, List.getD_eq_getElem?_getD, List.getElem?_eq_getElem h]; rfl
/-- What Make has written ahead of the entry k. -/
def wayN (l : List EntV) (k : Nat) : List Nat := smallN l.length ++ entsN [] (l.take k)
theorem wayN_next {l : List EntV} {k : Nat} (h : k < l.length) {y : EntV} (hy : l.getD k zeroE = y) {a : ByteArray} (ha : numsOf a = lastK [] (l.take k)) : wayN l k ++ entN (numsOf a) y = wayN l (k + 1) ∧ numsOf y.key = lastK [] (l.take (k + 1)) := by
  unfold wayN
  rw [take_snoc h hy, entsN_app, lastK_snoc, ← ha]
  simp [entsN]
theorem wayN_len (l : List EntV) (k : Nat) : (wayN l k).length ≤ (bodyN l).length := by
  unfold wayN bodyN
  have : entsN [] l = entsN [] (l.take k) ++ entsN (lastK [] (l.take k)) (l.drop k) := by rw [← entsN_app, List.take_append_drop]
  rw [this]
  simp only [List.length_append]
  omega
theorem wayN_all {l : List EntV} {k : Nat} (h : l.length ≤ k) : wayN l k = bodyN l := by unfold wayN bodyN; rw [List.take_of_length_le h]
theorem page_len (l : List EntV) : (pageN l).length = (bodyN l).length + 4 := by unfold pageN; rw [List.length_append, sum4_len]
theorem own_mono {w : World} {B B' e size n : Nat} {v : Value} {xs : List Value} (h : w.ownsRow B' e size v n xs) (hB : B ≤ B') : w.ownsRow B e size v n xs := by
  rcases h with ⟨h1, h2⟩
  refine ⟨h1, ?_⟩
  rcases h2 with h | ⟨g, cap, cur, hv, hb, hr⟩
  · exact .inl h
  · exact .inr ⟨g, cap, cur, hv, Nat.le_trans hB hb, hr⟩
theorem entN_len (a : List Nat) {x : EntV} (h : OkE x) : (entN a x).length ≤ 5000 := by
  have h1 := (sharedN_le a (numsOf x.key)).2
  rw [numsOf_len] at h1
  have := h.key2; have := h.val; have := h.seq1; have := h.seq2
  have s1 := smallN_five (sharedN a (numsOf x.key)) (by omega)
  have s2 := smallN_five (x.key.size - sharedN a (numsOf x.key)) (by omega)
  have s3 := smallN_five x.seq.toNat (by omega)
  have s4 := smallN_five x.val.size (by omega)
  unfold entN keyN tailN
  rw [small1, small0]
  simp only [List.length_append, List.length_drop, numsOf_len]
  split
  · simp only [List.length_cons, List.length_nil]; omega
  · simp only [List.length_append, List.length_cons, List.length_nil, numsOf_len]; omega
theorem makeE_long {l : List EntV} (h : checkE l = 0) {k : Nat} (hk : 65532 < (wayN l k).length) : makeE l = ([], 7) := by
  unfold makeE
  have := wayN_len l k
  rw [if_pos h, if_pos (by rw [page_len]; omega)]
theorem makeE_all {l : List EntV} (h : checkE l = 0) (hk : (bodyN l).length ≤ 65532) : makeE l = (pageN l, 0) := by
  unfold makeE
  rw [if_pos h, if_neg (by rw [page_len]; omega)]
theorem makeE_no {l : List EntV} (h : checkE l ≠ 0) : makeE l = ([], checkE l) := by
  unfold makeE
  rw [if_neg h]
set_option maxRecDepth 8000 in
set_option maxHeartbeats 1000000 in
theorem Make_any (q : Option Addr) (n c : Nat) (l : List EntV) (w : World) (h : EntsL w q n l) (ys : List Nat) (E : Nat) (hR : makeE l = (ys, E)) :
    Calls Try.prog 6 #[.slice q n c] w fun e w' => ∃ v, e = .returned (.tuple #[v, .int .i64 (E : Int)]) ∧ w'.ownsRow w.heap.size 5 1 v ys.length (Bs ys) ∧ Below w.heap.size w w' := by
  have HN : Hid (n = l.length) := h.n
  obtain ⟨C, hC⟩ : ∃ C, checkE l = C := ⟨_, rfl⟩
  have HCK := Check_any q n c l w h C hC
  have HR : Hid (makeE l = (ys, E)) := hR
  have HQ : Hid (EntsL w q n l) := h
  have HC : Hid (checkE l = C) := hC
  clear h hR hC
  go_enter Try.func6, Try.ntmps6
  go_wp2_with fail
  refine HCK.mono ?_
  rintro e w1 ⟨rfl, hb1⟩
  have HB1 : Hid (Below w.heap.size w w1) := hb1
  clear hb1 HCK
  rcases Nat.eq_zero_or_pos C with h0 | h0
  · subst h0
    have HO := checkE_ok HC.out
    have hn4 : (n : Int) ≤ 4096 := by have := HN.out; have := HO.1; omega
    have HOK : Hid (∀ x ∈ l, OkE x) := HO.2
    clear HO
    go_wp2_with fail
    refine (small_i (n : Int) _ (by omega)).mono ?_
    rintro e w2 ⟨v2, rfl, ho2, hb2⟩
    rw [Int.toNat_natCast] at ho2
    have HS2 : Hid (St w [] w2 v2 (smallN n)) := ⟨own_mono ho2 HB1.out.size, below_bt HB1.out hb2, fun p hp => by simp at hp⟩
    clear ho2 hb2
    go_wp2
    go_loopw [5, 6, 19] (fun v a i wr => ∃ k : Nat, ∃ s : ByteArray, k ≤ n ∧ i = .int .i64 k ∧ a = .string s ∧ numsOf s = lastK [] (l.take k) ∧ s.size ≤ 256 ∧ (wayN l k).length ≤ 65532 ∧ St w [] wr v (wayN l k)) (fun _ _ i _ => n - (intOf i).toNat)
    case atStart =>
      have e : wayN l 0 = smallN n := by unfold wayN; rw [HN.out]; simp [entsN]
      refine ⟨0, ByteArray.empty, by omega, rfl, rfl, rfl, by decide, ?_, by rw [e]; exact HS2.out⟩
      rw [e]
      have := smallN_five n (by omega)
      omega
    case round =>
      obtain ⟨k, s, hk, rfl, rfl, hs, hsz, hlen, hst⟩ := hrel
      have HST : Hid (St w [] wr u5 (wayN l k)) := hst
      have HSS : Hid (numsOf s = lastK [] (l.take k) ∧ s.size ≤ 256 ∧ (wayN l k).length ≤ 65532) := ⟨hs, hsz, hlen⟩
      clear hst hs hsz hlen
      by_cases hkl : k < n
      · have hkl' : k < l.length := by have := HN.out; omega
        obtain ⟨b, o, rfl⟩ := HQ.out.lies.addr (by omega)
        obtain ⟨e0, e1, e2, e3⟩ := (HQ.out.lies.below HST.out.bel).at hkl'
        obtain ⟨y, hy⟩ : ∃ y, l.getD k zeroE = y := ⟨_, rfl⟩
        rw [hy] at e0 e1 e2 e3
        have HOY : Hid (OkE y) := HOK.out y (by rw [← hy]; exact getD_mem' hkl')
        obtain ⟨hw1, hw2⟩ := wayN_next hkl' hy HSS.out.1
        obtain ⟨zs, hzs⟩ : ∃ zs, wayN l (k + 1) = zs := ⟨_, rfl⟩
        rw [hzs] at hw1
        obtain ⟨ke, ve, se, ge⟩ := y
        simp only at e0 e1 e2 e3 hw2
        have HA := appendEntry_any w [(wr.heap.size, #[.string ke, .string ve, .int .i64 se, .bool ge], 23)] _ _ _ s ⟨ke, ve, se, ge⟩ (HST.out.alloc #[.string ke, .string ve, .int .i64 se, .bool ge] 23 (by decide)) HOY.out HSS.out.2.1 (by have := HSS.out; omega) zs hw1
        rw [entV_def] at HA
        have HW : Hid (numsOf ke = lastK [] (l.take (k + 1)) ∧ ke.size ≤ 256 ∧ wayN l (k + 1) = zs) := ⟨hw2, HOY.out.key2, hzs⟩
        have hkn : (k : Int) < (n : Int) := by omega
        have HZL : Hid (zs.length ≤ 100000) := by show _ ≤ _; rw [← hw1, List.length_append]; have := entN_len (numsOf s) HOY.out; have := HSS.out.2.2; omega
        clear hy hw1 hw2 hzs HST
        go_wp2_with fail
        refine HA.mono ?_
        rintro e w3 ⟨v3, rfl, hs3⟩
        obtain ⟨p3, c3, rfl, _, hc3, _⟩ := own_form hs3.own
        have HS3 : Hid _ := hs3
        have hz3 : IntKind.i64.wrap ((zs.length : Int) + 4) = (zs.length : Int) + 4 := by have := HZL.out; rw [IntKind.wrap_i64]; omega
        have d0 := hs3.box0 0
        clear hs3 HA
        by_cases hbig : 65532 < zs.length
        · have g5 : decide ((65536 : Int) < (zs.length : Int) + 4) = true := decide_eq_true (by omega)
          have HE : Hid (ys = [] ∧ E = 7) := by
            have := makeE_long HC.out (k := k + 1) (by rw [HW.out.2.2]; exact hbig)
            rw [HR.out] at this
            show _ ∧ _
            simpa using this
          clear hbig
          go_wp2
          go_ret2
          exact ⟨.slice none 0 0, by rw [HE.out.2]; rfl, by rw [HE.out.1]; exact World.ownsRow_nil _ _ _ _, HS3.out.bel⟩
        · have g5 : decide ((65536 : Int) < (zs.length : Int) + 4) = false := decide_eq_false (by omega)
          have HBG : Hid (zs.length ≤ 65532) := by show _ ≤ _; omega
          clear hbig
          go_wp2
          go_roundw
          case rel => exact ⟨k + 1, ke, by omega, by go_num, rfl, HW.out.1, HW.out.2.1, by rw [HW.out.2.2]; exact HBG.out, by rw [HW.out.2.2]; exact HS3.out.drop⟩
          case measure => simp [intOf]; omega
      · have g2 : (n : Int) ≤ (k : Int) := by omega
        have hwa := wayN_all (l := l) (k := k) (by have := HN.out; omega)
        have HE : Hid (ys = pageN l ∧ E = 0) := by
          have := makeE_all HC.out (by rw [← hwa]; exact HSS.out.2.2)
          rw [HR.out] at this
          show _ ∧ _
          simpa using this
        obtain ⟨bs, hbs⟩ : ∃ bs, bodyN l = bs := ⟨_, rfl⟩
        have HBS : Hid (bodyN l = bs) := hbs
        have HST2 : Hid (St w [] wr u5 bs) := by rw [← hbs, ← hwa]; exact HST.out
        have HLB : Hid (bs.length ≤ 65532 ∧ ∀ c ∈ bs, c < 256) := ⟨by rw [← hbs, ← hwa]; exact HSS.out.2.2, hbs ▸ bodyN_lt l⟩
        obtain ⟨p5, c5, rfl, _, _, _⟩ := own_form HST2.out.own
        have HSM := sum_page p5 bs.length c5 bs wr rfl (own_in HST2.out.own HLB.out.2) (by have := HLB.out.1; omega)
        clear hwa HST hbs
        go_wp2_with fail
        refine HSM.mono ?_
        rintro e w4 ⟨g4, rfl, hi4, hb4⟩
        have HS4 : Hid (St w [] w4 (.slice p5 bs.length c5) bs) := HST2.out.call hb4
        have HI4 : Hid (BIn w4 (some ⟨g4, 0, none⟩) (sum4 bs)) := hi4
        have hz4 := HS4.out.size
        clear hi4 hb4 HST2
        go_wp2_with (at_builtin; go_loud (refine wpList_append_bytes _ rfl _ _ rfl w.heap.size _ _ (sum4 bs) (some ⟨g4, 0, none⟩) _ 8 rfl rfl rfl HS4.out.own HI4.out (fun h => by cases h) (by rw [sum4_len]; have := HLB.out; omega) hz4 ?_); intro v6 w6 ho6 hg6; have t6 := HS4.out.app ho6 hg6; have H6 : Hid _ := t6; clear t6 ho6 hg6)
        go_ret2
        have hpg : bs ++ sum4 bs = ys := by rw [HE.out.1, ← HBS.out]; rfl
        exact ⟨v6, by rw [HE.out.2]; rfl, (H6.out.eq hpg).own, H6.out.bel⟩
  · have hne : ((C : Int) != 0) = true := by simp; omega
    have HE : Hid (ys = [] ∧ E = C) := by
      have := makeE_no (l := l) (by rw [HC.out]; omega)
      rw [HR.out, HC.out] at this
      show _ ∧ _
      simpa using this
    clear h0
    go_wp2
    go_ret2
    exact ⟨.slice none 0 0, by rw [HE.out.2]; rfl, by rw [HE.out.1]; exact World.ownsRow_nil _ _ _ _, HB1.out⟩
end Go.Proofs.Ytldgnejmmjbhiab
namespace Go.Proofs.Ytldgnejmmjbhiab
open Go.RowKit Go.WideShapes

def twoL : List EntV := [⟨⟨#[97, 98]⟩, ⟨#[120]⟩, 1, false⟩, ⟨⟨#[97, 98, 99]⟩, ByteArray.empty, 0, true⟩]
theorem two_any (w : World) : Calls Try.prog 7 #[] w fun e w' => e = .returned (.slice (some ⟨w.heap.size, 0, none⟩) 2 2) ∧ EntsL w' (some ⟨w.heap.size, 0, none⟩) 2 twoL ∧ Below w.heap.size w w' := by
  go_enter Try.func7, Try.ntmps7
  go_wp2
  go_ret
  refine ⟨rfl, ⟨rfl, fun _ => ⟨w.heap.size, 0, rfl, fun i hi => ?_⟩⟩, below_alloc _ _⟩
  have hh := heap_alloc_new w (.cells #[.string ⟨#[97, 98]⟩, .string ⟨#[120]⟩, .int .i64 1, .bool false, .string ⟨#[97, 98, 99]⟩, .string ⟨#[]⟩, .int .i64 0, .bool true] 23)
  have hi2 : i = 0 ∨ i = 1 := by simp only [twoL, List.length_cons, List.length_nil] at hi; omega
  rcases hi2 with rfl | rfl
  · exact ⟨Lib.cell_of_heap hh 0, Lib.cell_of_heap hh 1, Lib.cell_of_heap hh 2, Lib.cell_of_heap hh 3⟩
  · exact ⟨Lib.cell_of_heap hh 4, Lib.cell_of_heap hh 5, Lib.cell_of_heap hh 6, Lib.cell_of_heap hh 7⟩
theorem check_two : checkE twoL = 0 := by decide +kernel
theorem body_two : bodyN twoL = [2, 0, 2, 97, 98, 1, 0, 1, 120, 2, 1, 99, 0, 1] := by
  have n1 : numsOf ⟨#[97, 98]⟩ = [97, 98] := rfl
  have n2 : numsOf ⟨#[120]⟩ = [120] := rfl
  have n3 : numsOf ⟨#[97, 98, 99]⟩ = [97, 98, 99] := rfl
  have z2 : (⟨#[120]⟩ : ByteArray).size = 1 := rfl
  simp [bodyN, twoL, entsN, entN, keyN, tailN, n1, n2, n3, sharedN, smallN_lo, z2]
theorem make_two : ∃ ys, makeE twoL = (ys, 0) ∧ ys.length = 18 ∧ ys.take 12 = [2, 0, 2, 97, 98, 1, 0, 1, 120, 2, 1, 99] ∧ ∀ c ∈ ys, c < 256 := by
  have hl : (pageN twoL).length = 18 := by rw [page_len, body_two]; rfl
  refine ⟨pageN twoL, makeE_all check_two (by rw [body_two]; decide), hl, ?_, pageN_lt _⟩
  unfold pageN
  rw [body_two]
  rfl
set_option maxHeartbeats 1000000 in
theorem alive_any (w : World) : Calls Try.prog 4 #[] w fun e w' => e = .returned (.bool true) ∧ Below w.heap.size w w' := by
  obtain ⟨ys, hm, hl, ht, hy⟩ := make_two
  have HM : Hid (makeE twoL = (ys, 0) ∧ ys.length = 18 ∧ ys.take 12 = [2, 0, 2, 97, 98, 1, 0, 1, 120, 2, 1, 99] ∧ ∀ c ∈ ys, c < 256) := ⟨hm, hl, ht, hy⟩
  clear hm hl ht hy
  go_enter Try.func4, Try.ntmps4
  go_wp2_with fail
  refine (two_any _).mono ?_
  rintro e w1 ⟨rfl, he1, hb1⟩
  have HB1 : Hid (Below w.heap.size w w1) := hb1
  have HMK := Make_any _ 2 2 twoL w1 he1 ys 0 HM.out.1
  clear he1 hb1
  go_wp2_with fail
  refine HMK.mono ?_
  rintro e w2 ⟨v, rfl, ho2, hb2⟩
  obtain ⟨p, c, rfl, hc1, hc2, hc3⟩ := own_form ho2
  have HB2 : Hid (Below w.heap.size w w2) := below_bt HB1.out hb2
  have hcv := conv_bytes (own_in ho2 HM.out.2.2.2 |>.take' 12) (n := 12) (by rw [HM.out.2.2.1]; rfl) c
  have hc9 : (12 : Int) ≤ (c : Int) := by have := HM.out.2.1; omega
  have hq : ((strOf (ys.take 12)).toList == [2, 0, 2, 97, 98, 1, 0, 1, 120, 2, 1, 99]) = true := by rw [HM.out.2.2.1]; decide +kernel
  rw [HM.out.2.1]
  clear ho2 hb2 HMK hc1 hc2 hc3
  go_wp2
  go_ret
  exact ⟨rfl, HB2.out⟩
end Go.Proofs.Ytldgnejmmjbhiab
namespace Go.Proofs.Ytldgnejmmjbhiab
open Go.RowKit Go.WideShapes Go.ChangeShapes Go.Deep Go.Joins

theorem u8_eq {x y : UInt8} (h : x.toNat = y.toNat) : x = y := UInt8.toNat_inj.1 h
theorem bl_irrefl : ∀ (a : List UInt8), Op.bytesLess a a = false
  | [] => rfl
  | x :: a => by
    unfold Op.bytesLess
    simp [UInt8.lt_irrefl x, bl_irrefl a]
theorem bl_trans : ∀ (a b c : List UInt8), Op.bytesLess a b = true → Op.bytesLess b c = true → Op.bytesLess a c = true
  | [], b, [], _, h2 => by cases b <;> simp [Op.bytesLess] at h2
  | [], _, _ :: _, _, _ => rfl
  | _ :: _, [], _, h1, _ => by simp [Op.bytesLess] at h1
  | _ :: _, _ :: _, [], _, h2 => by simp [Op.bytesLess] at h2
  | x :: a, y :: b, z :: c, h1, h2 => by
    unfold Op.bytesLess at h1 h2 ⊢
    simp only [Bool.or_eq_true, Bool.and_eq_true, decide_eq_true_eq, beq_iff_eq] at h1 h2 ⊢
    rcases h1 with h1 | ⟨h1, h1'⟩
    · rcases h2 with h2 | ⟨h2, _⟩
      · exact .inl (UInt8.lt_trans h1 h2)
      · subst h2; exact .inl h1
    · subst h1
      rcases h2 with h2 | ⟨h2, h2'⟩
      · exact .inl h2
      · exact .inr ⟨h2, bl_trans a b c h1' h2'⟩
theorem bl_tri : ∀ (a b : List UInt8), Op.bytesLess a b = false → Op.bytesLess b a = false → a = b
  | [], [], _, _ => rfl
  | [], _ :: _, h1, _ => by simp [Op.bytesLess] at h1
  | _ :: _, [], _, h2 => by simp [Op.bytesLess] at h2
  | x :: a, y :: b, h1, h2 => by
    unfold Op.bytesLess at h1 h2
    simp only [Bool.or_eq_false_iff, Bool.and_eq_false_iff, decide_eq_false_iff_not, beq_eq_false_iff_ne, ne_eq] at h1 h2
    have hxy : x = y := UInt8.le_antisymm (UInt8.not_lt.1 h2.1) (UInt8.not_lt.1 h1.1)
    subst hxy
    rw [bl_tri a b (by simpa using h1.2) (by simpa using h2.2)]
theorem lessE_def (a b : EntV) : lessE a b = true ↔ (Op.bytesLess a.key.toList b.key.toList = true ∨ (a.key = b.key ∧ b.seq < a.seq)) := by
  unfold lessE
  rw [eq_str]
  simp
theorem lessE_irrefl (a : EntV) : lessE a a = false := by
  rw [Bool.eq_false_iff]
  intro h
  rcases (lessE_def a a).1 h with h | h
  · rw [bl_irrefl] at h; cases h
  · omega
theorem lessE_trans {a b c : EntV} (h1 : lessE a b = true) (h2 : lessE b c = true) : lessE a c = true := by
  rw [lessE_def] at *
  rcases h1 with h1 | ⟨h1, h1'⟩
  · rcases h2 with h2 | ⟨h2, _⟩
    · exact .inl (bl_trans _ _ _ h1 h2)
    · rw [← h2]; exact .inl h1
  · rcases h2 with h2 | ⟨h2, h2'⟩
    · rw [h1]; exact .inl h2
    · exact .inr ⟨h1.trans h2, by omega⟩
theorem lessE_asymm {a b : EntV} (h1 : lessE a b = true) : lessE b a = false := by
  rw [Bool.eq_false_iff]
  intro h2
  have := lessE_trans h1 h2
  rw [lessE_irrefl] at this
  cases this
theorem lessE_alike (a b : EntV) : (lessE a b = false ∧ lessE b a = false) ↔ (a.key = b.key ∧ a.seq = b.seq) := by
  constructor
  · rintro ⟨h1, h2⟩
    rw [Bool.eq_false_iff] at h1 h2
    have h1' := fun h => h1 ((lessE_def a b).2 h)
    have h2' := fun h => h2 ((lessE_def b a).2 h)
    have hk : a.key = b.key := by
      apply ba_ext.1
      rw [← ByteArray.toList_eq, ← ByteArray.toList_eq]
      exact bl_tri _ _ (by rw [Bool.eq_false_iff]; exact fun h => h1' (.inl h)) (by rw [Bool.eq_false_iff]; exact fun h => h2' (.inl h))
    refine ⟨hk, ?_⟩
    have : ¬ b.seq < a.seq := fun h => h1' (.inr ⟨hk, h⟩)
    have : ¬ a.seq < b.seq := fun h => h2' (.inr ⟨hk.symm, h⟩)
    omega
  · rintro ⟨h1, h2⟩
    constructor
    · rw [Bool.eq_false_iff]
      intro h
      rcases (lessE_def a b).1 h with h | h
      · rw [h1, bl_irrefl] at h; cases h
      · omega
    · rw [Bool.eq_false_iff]
      intro h
      rcases (lessE_def b a).1 h with h | h
      · rw [h1, bl_irrefl] at h; cases h
      · omega
section
variable {P : Program} {w : World} {H : Type} {enc : TypeId × Value → H}
theorem open_entryA {e : TypeId} {f0 f1 f2 f3 : Field} {r : Reach} {b0 : Nat} {v : Value} {d : DataW H} {p : List MemPlace} (he : P.underlying e = some (.struct #[f0, f1, f2, f3])) (hone : oneCellFields P #[f0, f1, f2, f3] = true) (hC : P.cellsOf e = 4)
    (k0 : P.underlying f0.type = some .string) (k1 : P.underlying f1.type = some .string) (k2 : P.underlying f2.type = some (.int .i64)) (k3 : P.underlying f3.type = some .bool)
    (hv : Value.okWide P w r b0 e v) (h : DataW.Trod enc P w 0 (fun _ => true) true e v d p) : ∃ y : EntV, v = entV y ∧ WfE y := by
  obtain ⟨v0, v1, v2, v3, y0, y1, y2, y3, n, rfl, _, _, h0, h1, h2, h3⟩ := open_agg4 he hone hC hv h
  obtain ⟨s, hs, _, hsz⟩ := DataW.trod_string k0 h0
  obtain ⟨s1, hs1, _, hsz1⟩ := DataW.trod_string k1 h1
  obtain ⟨z, hz, _, wz⟩ := DataW.trod_int k2 h2
  obtain ⟨g, hg, _⟩ := DataW.trod_bool k3 h3
  simp only [List.cons.injEq, and_true] at hs hs1 hz hg
  subst hs hs1 hz hg
  exact ⟨⟨s, s1, z, g⟩, rfl, ⟨hsz, hsz1, bounds_i64 wz⟩⟩
end
end Go.Proofs.Ytldgnejmmjbhiab
namespace Go.Proofs.Ytldgnejmmjbhiab.pageOrder
open Go.ChangeShapes Go.WideShapes Go.ChangeAt Go.RowKit
open Go.ChangeMaps (open_string shut_string)
set_option linter.unusedVariables false

theorem own : ownKnob Try.prog.godebug = none := by kernel_rfl
theorem laidOut : laidOutB Try.prog = true := by kernel_rfl

abbrev B3 (w : World) (g : Nat) (A B C : EntV) : Prop := (w.cell? ⟨g, 0, none⟩ = some (.string A.key) ∧ w.cell? ⟨g, 1, none⟩ = some (.string A.val) ∧ w.cell? ⟨g, 2, none⟩ = some (.int .i64 A.seq) ∧ w.cell? ⟨g, 3, none⟩ = some (.bool A.gone)) ∧ (w.cell? ⟨g + 1, 0, none⟩ = some (.string B.key) ∧ w.cell? ⟨g + 1, 1, none⟩ = some (.string B.val) ∧ w.cell? ⟨g + 1, 2, none⟩ = some (.int .i64 B.seq) ∧ w.cell? ⟨g + 1, 3, none⟩ = some (.bool B.gone)) ∧ w.cell? ⟨g + 1 + 1, 0, none⟩ = some (.string C.key) ∧ w.cell? ⟨g + 1 + 1, 1, none⟩ = some (.string C.val) ∧ w.cell? ⟨g + 1 + 1, 2, none⟩ = some (.int .i64 C.seq) ∧ w.cell? ⟨g + 1 + 1, 3, none⟩ = some (.bool C.gone)
theorem b3_below {w w' : World} {g : Nat} {A B C : EntV} (h : B3 w g A B C) (hb : Below w.heap.size w w') : B3 w' g A B C := by
  obtain ⟨⟨a0, a1, a2, a3⟩, ⟨b0, b1, b2, b3⟩, c0, c1, c2, c3⟩ := h
  have k : ∀ {a : Addr} {v : Value}, w.cell? a = some v → w'.cell? a = some v := fun e => (hb.cell (World.block_lt_of_cell? _ _ e)).trans e
  exact ⟨⟨k a0, k a1, k a2, k a3⟩, ⟨k b0, k b1, k b2, k b3⟩, k c0, k c1, k c2, k c3⟩
theorem b3_new (w : World) (A B C : EntV) : B3 (((w.alloc (.cells #[.string A.key, .string A.val, .int .i64 A.seq, .bool A.gone] 23)).alloc (.cells #[.string B.key, .string B.val, .int .i64 B.seq, .bool B.gone] 23)).alloc (.cells #[.string C.key, .string C.val, .int .i64 C.seq, .bool C.gone] 23)) w.heap.size A B C := by
  have hA := block_below (block_below (heap_alloc_new w (.cells #[.string A.key, .string A.val, .int .i64 A.seq, .bool A.gone] 23)) (below_alloc _ (.cells #[.string B.key, .string B.val, .int .i64 B.seq, .bool B.gone] 23))) (below_alloc _ (.cells #[.string C.key, .string C.val, .int .i64 C.seq, .bool C.gone] 23))
  have hB := block_below (heap_alloc_new (w.alloc (.cells #[.string A.key, .string A.val, .int .i64 A.seq, .bool A.gone] 23)) (.cells #[.string B.key, .string B.val, .int .i64 B.seq, .bool B.gone] 23)) (below_alloc _ (.cells #[.string C.key, .string C.val, .int .i64 C.seq, .bool C.gone] 23))
  have hC := heap_alloc_new ((w.alloc (.cells #[.string A.key, .string A.val, .int .i64 A.seq, .bool A.gone] 23)).alloc (.cells #[.string B.key, .string B.val, .int .i64 B.seq, .bool B.gone] 23)) (.cells #[.string C.key, .string C.val, .int .i64 C.seq, .bool C.gone] 23)
  rw [show (w.alloc (.cells #[.string A.key, .string A.val, .int .i64 A.seq, .bool A.gone] 23)).heap.size = w.heap.size + 1 by simp] at hB
  rw [show ((w.alloc (.cells #[.string A.key, .string A.val, .int .i64 A.seq, .bool A.gone] 23)).alloc (.cells #[.string B.key, .string B.val, .int .i64 B.seq, .bool B.gone] 23)).heap.size = w.heap.size + 1 + 1 by simp] at hC
  exact ⟨⟨Lib.cell_of_heap hA 0, Lib.cell_of_heap hA 1, Lib.cell_of_heap hA 2, Lib.cell_of_heap hA 3⟩, ⟨Lib.cell_of_heap hB 0, Lib.cell_of_heap hB 1, Lib.cell_of_heap hB 2, Lib.cell_of_heap hB 3⟩, Lib.cell_of_heap hC 0, Lib.cell_of_heap hC 1, Lib.cell_of_heap hC 2, Lib.cell_of_heap hC 3⟩
set_option maxRecDepth 8000 in
set_option maxHeartbeats 4000000 in
theorem walk (A B C : EntV) (w : World) (_ : WfE A) (_ : WfE B) (_ : WfE C) :
    Calls Try.prog 3 #[entV A, entV B, entV C] w fun e w' => e = .returned (.bool true) ∧ Below w.heap.size w w' := by
  have HB0 : Hid (B3 (((w.alloc (.cells #[.string A.key, .string A.val, .int .i64 A.seq, .bool A.gone] 23)).alloc (.cells #[.string B.key, .string B.val, .int .i64 B.seq, .bool B.gone] 23)).alloc (.cells #[.string C.key, .string C.val, .int .i64 C.seq, .bool C.gone] 23)) w.heap.size A B C ∧ Below w.heap.size w (((w.alloc (.cells #[.string A.key, .string A.val, .int .i64 A.seq, .bool A.gone] 23)).alloc (.cells #[.string B.key, .string B.val, .int .i64 B.seq, .bool B.gone] 23)).alloc (.cells #[.string C.key, .string C.val, .int .i64 C.seq, .bool C.gone] 23))) := ⟨b3_new w A B C, below_bt (below_bt (below_alloc _ _) (below_alloc _ _)) (below_alloc _ _)⟩
  obtain ⟨r1, hr1⟩ : ∃ r, lessE A B = r := ⟨_, rfl⟩
  obtain ⟨r2, hr2⟩ : ∃ r, lessE B C = r := ⟨_, rfl⟩
  obtain ⟨r3, hr3⟩ : ∃ r, lessE A C = r := ⟨_, rfl⟩
  obtain ⟨r4, hr4⟩ : ∃ r, lessE B A = r := ⟨_, rfl⟩
  have HLAB : Hid (∀ w', Calls Try.prog 5 #[.agg #[.string A.key, .string A.val, .int .i64 A.seq, .bool A.gone], .agg #[.string B.key, .string B.val, .int .i64 B.seq, .bool B.gone]] w' fun e w2 => e = .returned (.bool r1) ∧ Below w'.heap.size w' w2) := fun w' => by have := less_any A B w'; rw [hr1] at this; exact this
  have HLBC : Hid (∀ w', Calls Try.prog 5 #[.agg #[.string B.key, .string B.val, .int .i64 B.seq, .bool B.gone], .agg #[.string C.key, .string C.val, .int .i64 C.seq, .bool C.gone]] w' fun e w2 => e = .returned (.bool r2) ∧ Below w'.heap.size w' w2) := fun w' => by have := less_any B C w'; rw [hr2] at this; exact this
  have HLAC : Hid (∀ w', Calls Try.prog 5 #[.agg #[.string A.key, .string A.val, .int .i64 A.seq, .bool A.gone], .agg #[.string C.key, .string C.val, .int .i64 C.seq, .bool C.gone]] w' fun e w2 => e = .returned (.bool r3) ∧ Below w'.heap.size w' w2) := fun w' => by have := less_any A C w'; rw [hr3] at this; exact this
  have HLBA : Hid (∀ w', Calls Try.prog 5 #[.agg #[.string B.key, .string B.val, .int .i64 B.seq, .bool B.gone], .agg #[.string A.key, .string A.val, .int .i64 A.seq, .bool A.gone]] w' fun e w2 => e = .returned (.bool r4) ∧ Below w'.heap.size w' w2) := fun w' => by have := less_any B A w'; rw [hr4] at this; exact this
  have HLAA : Hid (∀ w', Calls Try.prog 5 #[.agg #[.string A.key, .string A.val, .int .i64 A.seq, .bool A.gone], .agg #[.string A.key, .string A.val, .int .i64 A.seq, .bool A.gone]] w' fun e w2 => e = .returned (.bool false) ∧ Below w'.heap.size w' w2) := fun w' => by have := less_any A A w'; rw [lessE_irrefl] at this; exact this
  have hal := lessE_alike A B
  rw [hr1, hr4] at hal
  unfold entV
  go_enter Try.func3, Try.ntmps3
  go_wp2_with fail
  refine (alive_any _).mono ?_
  rintro e w1 ⟨rfl, hb1⟩
  have HX1 : Hid (B3 w1 w.heap.size A B C ∧ Below w.heap.size w w1) := ⟨b3_below HB0.out.1 hb1, below_bt HB0.out.2 hb1⟩
  obtain ⟨⟨a0, a1, a2, a3⟩, ⟨b0, b1, b2, b3⟩, c0, c1, c2, c3⟩ := HX1.out.1
  clear hb1
  by_cases hk : A.key = B.key
  · have gk : (A.key.toList == B.key.toList) = true := by rw [eq_str]; simp [hk]
    by_cases hs : A.seq = B.seq
    · have gs : (A.seq == B.seq) = true := by simp [hs]
      obtain ⟨rfl, rfl⟩ := hal.2 ⟨hk, hs⟩
      clear hal hk hs hr1 hr2 hr3 hr4
      go_wp2_with fail
      refine (HLAB.out _).mono ?_
      rintro e w2 ⟨rfl, hb2⟩
      clear a0 a1 a2 a3 b0 b1 b2 b3 c0 c1 c2 c3
      have HX2 : Hid (B3 w2 w.heap.size A B C ∧ Below w.heap.size w w2) := ⟨b3_below HX1.out.1 hb2, below_bt HX1.out.2 hb2⟩
      obtain ⟨⟨a0, a1, a2, a3⟩, ⟨b0, b1, b2, b3⟩, c0, c1, c2, c3⟩ := HX2.out.1
      clear hb2
      go_wp2_with fail
      refine (HLAB.out _).mono ?_
      rintro e w3 ⟨rfl, hb3⟩
      clear a0 a1 a2 a3 b0 b1 b2 b3 c0 c1 c2 c3
      have HX3 : Hid (B3 w3 w.heap.size A B C ∧ Below w.heap.size w w3) := ⟨b3_below HX2.out.1 hb3, below_bt HX2.out.2 hb3⟩
      obtain ⟨⟨a0, a1, a2, a3⟩, ⟨b0, b1, b2, b3⟩, c0, c1, c2, c3⟩ := HX3.out.1
      clear hb3
      go_wp2_with fail
      refine (HLAA.out _).mono ?_
      rintro e w4 ⟨rfl, hb4⟩
      clear a0 a1 a2 a3 b0 b1 b2 b3 c0 c1 c2 c3
      have HX4 : Hid (B3 w4 w.heap.size A B C ∧ Below w.heap.size w w4) := ⟨b3_below HX3.out.1 hb4, below_bt HX3.out.2 hb4⟩
      obtain ⟨⟨a0, a1, a2, a3⟩, ⟨b0, b1, b2, b3⟩, c0, c1, c2, c3⟩ := HX4.out.1
      clear hb4
      go_wp2_with fail
      refine (HLAB.out _).mono ?_
      rintro e w5 ⟨rfl, hb5⟩
      clear a0 a1 a2 a3 b0 b1 b2 b3 c0 c1 c2 c3
      have HX5 : Hid (B3 w5 w.heap.size A B C ∧ Below w.heap.size w w5) := ⟨b3_below HX4.out.1 hb5, below_bt HX4.out.2 hb5⟩
      obtain ⟨⟨a0, a1, a2, a3⟩, ⟨b0, b1, b2, b3⟩, c0, c1, c2, c3⟩ := HX5.out.1
      clear hb5
      go_wp2_with fail
      refine (HLBA.out _).mono ?_
      rintro e w6 ⟨rfl, hb6⟩
      clear a0 a1 a2 a3 b0 b1 b2 b3 c0 c1 c2 c3
      have HX6 : Hid (B3 w6 w.heap.size A B C ∧ Below w.heap.size w w6) := ⟨b3_below HX5.out.1 hb6, below_bt HX5.out.2 hb6⟩
      obtain ⟨⟨a0, a1, a2, a3⟩, ⟨b0, b1, b2, b3⟩, c0, c1, c2, c3⟩ := HX6.out.1
      clear hb6
      go_wp2
      go_ret
      exact ⟨rfl, HX6.out.2⟩
    · have gs : (A.seq == B.seq) = false := by simpa using hs
      have hno : ¬ (r1 = false ∧ r4 = false) := fun h => hs (hal.1 h).2
      cases r1 with
      | false =>
        obtain rfl : r4 = true := by cases r4 with | false => exact absurd ⟨rfl, rfl⟩ hno | true => rfl
        clear hal hno hr1 hr2 hr3 hr4 hk hs
        go_wp2_with fail
        refine (HLAB.out _).mono ?_
        rintro e w2 ⟨rfl, hb2⟩
        clear a0 a1 a2 a3 b0 b1 b2 b3 c0 c1 c2 c3
        have HX2 : Hid (B3 w2 w.heap.size A B C ∧ Below w.heap.size w w2) := ⟨b3_below HX1.out.1 hb2, below_bt HX1.out.2 hb2⟩
        obtain ⟨⟨a0, a1, a2, a3⟩, ⟨b0, b1, b2, b3⟩, c0, c1, c2, c3⟩ := HX2.out.1
        clear hb2
        go_wp2_with fail
        refine (HLAB.out _).mono ?_
        rintro e w3 ⟨rfl, hb3⟩
        clear a0 a1 a2 a3 b0 b1 b2 b3 c0 c1 c2 c3
        have HX3 : Hid (B3 w3 w.heap.size A B C ∧ Below w.heap.size w w3) := ⟨b3_below HX2.out.1 hb3, below_bt HX2.out.2 hb3⟩
        obtain ⟨⟨a0, a1, a2, a3⟩, ⟨b0, b1, b2, b3⟩, c0, c1, c2, c3⟩ := HX3.out.1
        clear hb3
        go_wp2_with fail
        refine (HLAA.out _).mono ?_
        rintro e w4 ⟨rfl, hb4⟩
        clear a0 a1 a2 a3 b0 b1 b2 b3 c0 c1 c2 c3
        have HX4 : Hid (B3 w4 w.heap.size A B C ∧ Below w.heap.size w w4) := ⟨b3_below HX3.out.1 hb4, below_bt HX3.out.2 hb4⟩
        obtain ⟨⟨a0, a1, a2, a3⟩, ⟨b0, b1, b2, b3⟩, c0, c1, c2, c3⟩ := HX4.out.1
        clear hb4
        go_wp2_with fail
        refine (HLAB.out _).mono ?_
        rintro e w5 ⟨rfl, hb5⟩
        clear a0 a1 a2 a3 b0 b1 b2 b3 c0 c1 c2 c3
        have HX5 : Hid (B3 w5 w.heap.size A B C ∧ Below w.heap.size w w5) := ⟨b3_below HX4.out.1 hb5, below_bt HX4.out.2 hb5⟩
        obtain ⟨⟨a0, a1, a2, a3⟩, ⟨b0, b1, b2, b3⟩, c0, c1, c2, c3⟩ := HX5.out.1
        clear hb5
        go_wp2_with fail
        refine (HLBA.out _).mono ?_
        rintro e w6 ⟨rfl, hb6⟩
        clear a0 a1 a2 a3 b0 b1 b2 b3 c0 c1 c2 c3
        have HX6 : Hid (B3 w6 w.heap.size A B C ∧ Below w.heap.size w w6) := ⟨b3_below HX5.out.1 hb6, below_bt HX5.out.2 hb6⟩
        obtain ⟨⟨a0, a1, a2, a3⟩, ⟨b0, b1, b2, b3⟩, c0, c1, c2, c3⟩ := HX6.out.1
        clear hb6
        go_wp2
        go_ret
        exact ⟨rfl, HX6.out.2⟩
      | true =>
        obtain rfl : r4 = false := by rw [← hr4]; exact lessE_asymm hr1
        cases r2 with
        | false =>
          clear hal hno hr1 hr2 hr3 hr4 hk hs
          go_wp2_with fail
          refine (HLAB.out _).mono ?_
          rintro e w2 ⟨rfl, hb2⟩
          clear a0 a1 a2 a3 b0 b1 b2 b3 c0 c1 c2 c3
          have HX2 : Hid (B3 w2 w.heap.size A B C ∧ Below w.heap.size w w2) := ⟨b3_below HX1.out.1 hb2, below_bt HX1.out.2 hb2⟩
          obtain ⟨⟨a0, a1, a2, a3⟩, ⟨b0, b1, b2, b3⟩, c0, c1, c2, c3⟩ := HX2.out.1
          clear hb2
          go_wp2_with fail
          refine (HLBC.out _).mono ?_
          rintro e w3 ⟨rfl, hb3⟩
          clear a0 a1 a2 a3 b0 b1 b2 b3 c0 c1 c2 c3
          have HX3 : Hid (B3 w3 w.heap.size A B C ∧ Below w.heap.size w w3) := ⟨b3_below HX2.out.1 hb3, below_bt HX2.out.2 hb3⟩
          obtain ⟨⟨a0, a1, a2, a3⟩, ⟨b0, b1, b2, b3⟩, c0, c1, c2, c3⟩ := HX3.out.1
          clear hb3
          go_wp2_with fail
          refine (HLAB.out _).mono ?_
          rintro e w4 ⟨rfl, hb4⟩
          clear a0 a1 a2 a3 b0 b1 b2 b3 c0 c1 c2 c3
          have HX4 : Hid (B3 w4 w.heap.size A B C ∧ Below w.heap.size w w4) := ⟨b3_below HX3.out.1 hb4, below_bt HX3.out.2 hb4⟩
          obtain ⟨⟨a0, a1, a2, a3⟩, ⟨b0, b1, b2, b3⟩, c0, c1, c2, c3⟩ := HX4.out.1
          clear hb4
          go_wp2_with fail
          refine (HLBA.out _).mono ?_
          rintro e w5 ⟨rfl, hb5⟩
          clear a0 a1 a2 a3 b0 b1 b2 b3 c0 c1 c2 c3
          have HX5 : Hid (B3 w5 w.heap.size A B C ∧ Below w.heap.size w w5) := ⟨b3_below HX4.out.1 hb5, below_bt HX4.out.2 hb5⟩
          obtain ⟨⟨a0, a1, a2, a3⟩, ⟨b0, b1, b2, b3⟩, c0, c1, c2, c3⟩ := HX5.out.1
          clear hb5
          go_wp2_with fail
          refine (HLAA.out _).mono ?_
          rintro e w6 ⟨rfl, hb6⟩
          clear a0 a1 a2 a3 b0 b1 b2 b3 c0 c1 c2 c3
          have HX6 : Hid (B3 w6 w.heap.size A B C ∧ Below w.heap.size w w6) := ⟨b3_below HX5.out.1 hb6, below_bt HX5.out.2 hb6⟩
          obtain ⟨⟨a0, a1, a2, a3⟩, ⟨b0, b1, b2, b3⟩, c0, c1, c2, c3⟩ := HX6.out.1
          clear hb6
          go_wp2_with fail
          refine (HLAB.out _).mono ?_
          rintro e w7 ⟨rfl, hb7⟩
          clear a0 a1 a2 a3 b0 b1 b2 b3 c0 c1 c2 c3
          have HX7 : Hid (B3 w7 w.heap.size A B C ∧ Below w.heap.size w w7) := ⟨b3_below HX6.out.1 hb7, below_bt HX6.out.2 hb7⟩
          obtain ⟨⟨a0, a1, a2, a3⟩, ⟨b0, b1, b2, b3⟩, c0, c1, c2, c3⟩ := HX7.out.1
          clear hb7
          go_wp2
          go_ret
          exact ⟨rfl, HX7.out.2⟩
        | true =>
          obtain rfl : r3 = true := by rw [← hr3]; exact lessE_trans hr1 hr2
          clear hal hno hr1 hr2 hr3 hr4 hk hs
          go_wp2_with fail
          refine (HLAB.out _).mono ?_
          rintro e w2 ⟨rfl, hb2⟩
          clear a0 a1 a2 a3 b0 b1 b2 b3 c0 c1 c2 c3
          have HX2 : Hid (B3 w2 w.heap.size A B C ∧ Below w.heap.size w w2) := ⟨b3_below HX1.out.1 hb2, below_bt HX1.out.2 hb2⟩
          obtain ⟨⟨a0, a1, a2, a3⟩, ⟨b0, b1, b2, b3⟩, c0, c1, c2, c3⟩ := HX2.out.1
          clear hb2
          go_wp2_with fail
          refine (HLBC.out _).mono ?_
          rintro e w3 ⟨rfl, hb3⟩
          clear a0 a1 a2 a3 b0 b1 b2 b3 c0 c1 c2 c3
          have HX3 : Hid (B3 w3 w.heap.size A B C ∧ Below w.heap.size w w3) := ⟨b3_below HX2.out.1 hb3, below_bt HX2.out.2 hb3⟩
          obtain ⟨⟨a0, a1, a2, a3⟩, ⟨b0, b1, b2, b3⟩, c0, c1, c2, c3⟩ := HX3.out.1
          clear hb3
          go_wp2_with fail
          refine (HLAC.out _).mono ?_
          rintro e w4 ⟨rfl, hb4⟩
          clear a0 a1 a2 a3 b0 b1 b2 b3 c0 c1 c2 c3
          have HX4 : Hid (B3 w4 w.heap.size A B C ∧ Below w.heap.size w w4) := ⟨b3_below HX3.out.1 hb4, below_bt HX3.out.2 hb4⟩
          obtain ⟨⟨a0, a1, a2, a3⟩, ⟨b0, b1, b2, b3⟩, c0, c1, c2, c3⟩ := HX4.out.1
          clear hb4
          go_wp2_with fail
          refine (HLAB.out _).mono ?_
          rintro e w5 ⟨rfl, hb5⟩
          clear a0 a1 a2 a3 b0 b1 b2 b3 c0 c1 c2 c3
          have HX5 : Hid (B3 w5 w.heap.size A B C ∧ Below w.heap.size w w5) := ⟨b3_below HX4.out.1 hb5, below_bt HX4.out.2 hb5⟩
          obtain ⟨⟨a0, a1, a2, a3⟩, ⟨b0, b1, b2, b3⟩, c0, c1, c2, c3⟩ := HX5.out.1
          clear hb5
          go_wp2_with fail
          refine (HLBA.out _).mono ?_
          rintro e w6 ⟨rfl, hb6⟩
          clear a0 a1 a2 a3 b0 b1 b2 b3 c0 c1 c2 c3
          have HX6 : Hid (B3 w6 w.heap.size A B C ∧ Below w.heap.size w w6) := ⟨b3_below HX5.out.1 hb6, below_bt HX5.out.2 hb6⟩
          obtain ⟨⟨a0, a1, a2, a3⟩, ⟨b0, b1, b2, b3⟩, c0, c1, c2, c3⟩ := HX6.out.1
          clear hb6
          go_wp2_with fail
          refine (HLAA.out _).mono ?_
          rintro e w7 ⟨rfl, hb7⟩
          clear a0 a1 a2 a3 b0 b1 b2 b3 c0 c1 c2 c3
          have HX7 : Hid (B3 w7 w.heap.size A B C ∧ Below w.heap.size w w7) := ⟨b3_below HX6.out.1 hb7, below_bt HX6.out.2 hb7⟩
          obtain ⟨⟨a0, a1, a2, a3⟩, ⟨b0, b1, b2, b3⟩, c0, c1, c2, c3⟩ := HX7.out.1
          clear hb7
          go_wp2_with fail
          refine (HLAB.out _).mono ?_
          rintro e w8 ⟨rfl, hb8⟩
          clear a0 a1 a2 a3 b0 b1 b2 b3 c0 c1 c2 c3
          have HX8 : Hid (B3 w8 w.heap.size A B C ∧ Below w.heap.size w w8) := ⟨b3_below HX7.out.1 hb8, below_bt HX7.out.2 hb8⟩
          obtain ⟨⟨a0, a1, a2, a3⟩, ⟨b0, b1, b2, b3⟩, c0, c1, c2, c3⟩ := HX8.out.1
          clear hb8
          go_wp2
          go_ret
          exact ⟨rfl, HX8.out.2⟩
  · have gk : (A.key.toList == B.key.toList) = false := by rw [eq_str]; simp [hk]
    have hno : ¬ (r1 = false ∧ r4 = false) := fun h => hk (hal.1 h).1
    cases r1 with
    | false =>
      obtain rfl : r4 = true := by cases r4 with | false => exact absurd ⟨rfl, rfl⟩ hno | true => rfl
      clear hal hno hr1 hr2 hr3 hr4 hk
      go_wp2_with fail
      refine (HLAB.out _).mono ?_
      rintro e w2 ⟨rfl, hb2⟩
      clear a0 a1 a2 a3 b0 b1 b2 b3 c0 c1 c2 c3
      have HX2 : Hid (B3 w2 w.heap.size A B C ∧ Below w.heap.size w w2) := ⟨b3_below HX1.out.1 hb2, below_bt HX1.out.2 hb2⟩
      obtain ⟨⟨a0, a1, a2, a3⟩, ⟨b0, b1, b2, b3⟩, c0, c1, c2, c3⟩ := HX2.out.1
      clear hb2
      go_wp2_with fail
      refine (HLAB.out _).mono ?_
      rintro e w3 ⟨rfl, hb3⟩
      clear a0 a1 a2 a3 b0 b1 b2 b3 c0 c1 c2 c3
      have HX3 : Hid (B3 w3 w.heap.size A B C ∧ Below w.heap.size w w3) := ⟨b3_below HX2.out.1 hb3, below_bt HX2.out.2 hb3⟩
      obtain ⟨⟨a0, a1, a2, a3⟩, ⟨b0, b1, b2, b3⟩, c0, c1, c2, c3⟩ := HX3.out.1
      clear hb3
      go_wp2_with fail
      refine (HLAA.out _).mono ?_
      rintro e w4 ⟨rfl, hb4⟩
      clear a0 a1 a2 a3 b0 b1 b2 b3 c0 c1 c2 c3
      have HX4 : Hid (B3 w4 w.heap.size A B C ∧ Below w.heap.size w w4) := ⟨b3_below HX3.out.1 hb4, below_bt HX3.out.2 hb4⟩
      obtain ⟨⟨a0, a1, a2, a3⟩, ⟨b0, b1, b2, b3⟩, c0, c1, c2, c3⟩ := HX4.out.1
      clear hb4
      go_wp2_with fail
      refine (HLAB.out _).mono ?_
      rintro e w5 ⟨rfl, hb5⟩
      clear a0 a1 a2 a3 b0 b1 b2 b3 c0 c1 c2 c3
      have HX5 : Hid (B3 w5 w.heap.size A B C ∧ Below w.heap.size w w5) := ⟨b3_below HX4.out.1 hb5, below_bt HX4.out.2 hb5⟩
      obtain ⟨⟨a0, a1, a2, a3⟩, ⟨b0, b1, b2, b3⟩, c0, c1, c2, c3⟩ := HX5.out.1
      clear hb5
      go_wp2_with fail
      refine (HLBA.out _).mono ?_
      rintro e w6 ⟨rfl, hb6⟩
      clear a0 a1 a2 a3 b0 b1 b2 b3 c0 c1 c2 c3
      have HX6 : Hid (B3 w6 w.heap.size A B C ∧ Below w.heap.size w w6) := ⟨b3_below HX5.out.1 hb6, below_bt HX5.out.2 hb6⟩
      obtain ⟨⟨a0, a1, a2, a3⟩, ⟨b0, b1, b2, b3⟩, c0, c1, c2, c3⟩ := HX6.out.1
      clear hb6
      go_wp2
      go_ret
      exact ⟨rfl, HX6.out.2⟩
    | true =>
      obtain rfl : r4 = false := by rw [← hr4]; exact lessE_asymm hr1
      cases r2 with
      | false =>
        clear hal hno hr1 hr2 hr3 hr4 hk
        go_wp2_with fail
        refine (HLAB.out _).mono ?_
        rintro e w2 ⟨rfl, hb2⟩
        clear a0 a1 a2 a3 b0 b1 b2 b3 c0 c1 c2 c3
        have HX2 : Hid (B3 w2 w.heap.size A B C ∧ Below w.heap.size w w2) := ⟨b3_below HX1.out.1 hb2, below_bt HX1.out.2 hb2⟩
        obtain ⟨⟨a0, a1, a2, a3⟩, ⟨b0, b1, b2, b3⟩, c0, c1, c2, c3⟩ := HX2.out.1
        clear hb2
        go_wp2_with fail
        refine (HLBC.out _).mono ?_
        rintro e w3 ⟨rfl, hb3⟩
        clear a0 a1 a2 a3 b0 b1 b2 b3 c0 c1 c2 c3
        have HX3 : Hid (B3 w3 w.heap.size A B C ∧ Below w.heap.size w w3) := ⟨b3_below HX2.out.1 hb3, below_bt HX2.out.2 hb3⟩
        obtain ⟨⟨a0, a1, a2, a3⟩, ⟨b0, b1, b2, b3⟩, c0, c1, c2, c3⟩ := HX3.out.1
        clear hb3
        go_wp2_with fail
        refine (HLAB.out _).mono ?_
        rintro e w4 ⟨rfl, hb4⟩
        clear a0 a1 a2 a3 b0 b1 b2 b3 c0 c1 c2 c3
        have HX4 : Hid (B3 w4 w.heap.size A B C ∧ Below w.heap.size w w4) := ⟨b3_below HX3.out.1 hb4, below_bt HX3.out.2 hb4⟩
        obtain ⟨⟨a0, a1, a2, a3⟩, ⟨b0, b1, b2, b3⟩, c0, c1, c2, c3⟩ := HX4.out.1
        clear hb4
        go_wp2_with fail
        refine (HLBA.out _).mono ?_
        rintro e w5 ⟨rfl, hb5⟩
        clear a0 a1 a2 a3 b0 b1 b2 b3 c0 c1 c2 c3
        have HX5 : Hid (B3 w5 w.heap.size A B C ∧ Below w.heap.size w w5) := ⟨b3_below HX4.out.1 hb5, below_bt HX4.out.2 hb5⟩
        obtain ⟨⟨a0, a1, a2, a3⟩, ⟨b0, b1, b2, b3⟩, c0, c1, c2, c3⟩ := HX5.out.1
        clear hb5
        go_wp2_with fail
        refine (HLAA.out _).mono ?_
        rintro e w6 ⟨rfl, hb6⟩
        clear a0 a1 a2 a3 b0 b1 b2 b3 c0 c1 c2 c3
        have HX6 : Hid (B3 w6 w.heap.size A B C ∧ Below w.heap.size w w6) := ⟨b3_below HX5.out.1 hb6, below_bt HX5.out.2 hb6⟩
        obtain ⟨⟨a0, a1, a2, a3⟩, ⟨b0, b1, b2, b3⟩, c0, c1, c2, c3⟩ := HX6.out.1
        clear hb6
        go_wp2_with fail
        refine (HLAB.out _).mono ?_
        rintro e w7 ⟨rfl, hb7⟩
        clear a0 a1 a2 a3 b0 b1 b2 b3 c0 c1 c2 c3
        have HX7 : Hid (B3 w7 w.heap.size A B C ∧ Below w.heap.size w w7) := ⟨b3_below HX6.out.1 hb7, below_bt HX6.out.2 hb7⟩
        obtain ⟨⟨a0, a1, a2, a3⟩, ⟨b0, b1, b2, b3⟩, c0, c1, c2, c3⟩ := HX7.out.1
        clear hb7
        go_wp2
        go_ret
        exact ⟨rfl, HX7.out.2⟩
      | true =>
        obtain rfl : r3 = true := by rw [← hr3]; exact lessE_trans hr1 hr2
        clear hal hno hr1 hr2 hr3 hr4 hk
        go_wp2_with fail
        refine (HLAB.out _).mono ?_
        rintro e w2 ⟨rfl, hb2⟩
        clear a0 a1 a2 a3 b0 b1 b2 b3 c0 c1 c2 c3
        have HX2 : Hid (B3 w2 w.heap.size A B C ∧ Below w.heap.size w w2) := ⟨b3_below HX1.out.1 hb2, below_bt HX1.out.2 hb2⟩
        obtain ⟨⟨a0, a1, a2, a3⟩, ⟨b0, b1, b2, b3⟩, c0, c1, c2, c3⟩ := HX2.out.1
        clear hb2
        go_wp2_with fail
        refine (HLBC.out _).mono ?_
        rintro e w3 ⟨rfl, hb3⟩
        clear a0 a1 a2 a3 b0 b1 b2 b3 c0 c1 c2 c3
        have HX3 : Hid (B3 w3 w.heap.size A B C ∧ Below w.heap.size w w3) := ⟨b3_below HX2.out.1 hb3, below_bt HX2.out.2 hb3⟩
        obtain ⟨⟨a0, a1, a2, a3⟩, ⟨b0, b1, b2, b3⟩, c0, c1, c2, c3⟩ := HX3.out.1
        clear hb3
        go_wp2_with fail
        refine (HLAC.out _).mono ?_
        rintro e w4 ⟨rfl, hb4⟩
        clear a0 a1 a2 a3 b0 b1 b2 b3 c0 c1 c2 c3
        have HX4 : Hid (B3 w4 w.heap.size A B C ∧ Below w.heap.size w w4) := ⟨b3_below HX3.out.1 hb4, below_bt HX3.out.2 hb4⟩
        obtain ⟨⟨a0, a1, a2, a3⟩, ⟨b0, b1, b2, b3⟩, c0, c1, c2, c3⟩ := HX4.out.1
        clear hb4
        go_wp2_with fail
        refine (HLAB.out _).mono ?_
        rintro e w5 ⟨rfl, hb5⟩
        clear a0 a1 a2 a3 b0 b1 b2 b3 c0 c1 c2 c3
        have HX5 : Hid (B3 w5 w.heap.size A B C ∧ Below w.heap.size w w5) := ⟨b3_below HX4.out.1 hb5, below_bt HX4.out.2 hb5⟩
        obtain ⟨⟨a0, a1, a2, a3⟩, ⟨b0, b1, b2, b3⟩, c0, c1, c2, c3⟩ := HX5.out.1
        clear hb5
        go_wp2_with fail
        refine (HLBA.out _).mono ?_
        rintro e w6 ⟨rfl, hb6⟩
        clear a0 a1 a2 a3 b0 b1 b2 b3 c0 c1 c2 c3
        have HX6 : Hid (B3 w6 w.heap.size A B C ∧ Below w.heap.size w w6) := ⟨b3_below HX5.out.1 hb6, below_bt HX5.out.2 hb6⟩
        obtain ⟨⟨a0, a1, a2, a3⟩, ⟨b0, b1, b2, b3⟩, c0, c1, c2, c3⟩ := HX6.out.1
        clear hb6
        go_wp2_with fail
        refine (HLAA.out _).mono ?_
        rintro e w7 ⟨rfl, hb7⟩
        clear a0 a1 a2 a3 b0 b1 b2 b3 c0 c1 c2 c3
        have HX7 : Hid (B3 w7 w.heap.size A B C ∧ Below w.heap.size w w7) := ⟨b3_below HX6.out.1 hb7, below_bt HX6.out.2 hb7⟩
        obtain ⟨⟨a0, a1, a2, a3⟩, ⟨b0, b1, b2, b3⟩, c0, c1, c2, c3⟩ := HX7.out.1
        clear hb7
        go_wp2_with fail
        refine (HLAB.out _).mono ?_
        rintro e w8 ⟨rfl, hb8⟩
        clear a0 a1 a2 a3 b0 b1 b2 b3 c0 c1 c2 c3
        have HX8 : Hid (B3 w8 w.heap.size A B C ∧ Below w.heap.size w w8) := ⟨b3_below HX7.out.1 hb8, below_bt HX7.out.2 hb8⟩
        obtain ⟨⟨a0, a1, a2, a3⟩, ⟨b0, b1, b2, b3⟩, c0, c1, c2, c3⟩ := HX8.out.1
        clear hb8
        go_wp2
        go_ret
        exact ⟨rfl, HX8.out.2⟩

/-! ### THE ROW's STEP -/
set_option maxRecDepth 100000 in
theorem lifted (os : Os) (started : os.Started) (H : Type) (enc : TypeId × Value → H) :
    ReturnsInHanded {} Try.checked os 3 .any (Rows.pageOrderSpec.pre6 enc Try.prog Try.f3 Rows.pageOrderRow.domain false) (Rows.pageOrderSpec.post enc Try.prog Try.f3 false true false false) := by
  refine returnsInHanded_of_change (C := Try.checked) own started (by kernel_rfl) Try.func3
    (ChangeSpec.witness6 (enc := enc) (C := Try.checked) false ⟨#[], #[.agg #[.string ByteArray.empty, .string ByteArray.empty, .int .i64 0, .bool false], .agg #[.string ByteArray.empty, .string ByteArray.empty, .int .i64 0, .bool false], .agg #[.string ByteArray.empty, .string ByteArray.empty, .int .i64 0, .bool false]], []⟩ 8 (by kernel_rfl) (by kernel_rfl) (by kernel_rfl) (by kernel_rfl)) ?_
  intro W base args ds gs before hval0 hW hcnd _
  have hval : ∀ (j : Nat) t v, Try.f3.params[j]? = some t → args[j]? = some v → Value.okWide Try.prog W .any base t v := hval0
  have hW' := hW
  obtain ⟨p, q, hA0, hV, rfl, hfz, hnd⟩ := hW
  have hA : DataW.TrodAll enc Try.prog W 0 (fun _ => true) true Try.f3.params.toList args.toList ds p := hA0
  rw [Try.params3] at hA hval
  obtain ⟨v0, vs0, d0, ds0, p0, q0, hargs, rfl, rfl, h0, r0⟩ := trodAll_cons hA
  obtain ⟨v1, vs1, d1, ds1, p1, q1, rfl, rfl, rfl, h1, r1⟩ := trodAll_cons r0
  obtain ⟨v2, vs2, d2, ds2, p2, q2, rfl, rfl, rfl, h2, r2⟩ := trodAll_cons r1
  obtain ⟨rfl, rfl, rfl⟩ := trodAll_nil r2
  obtain rfl : args = #[v0, v1, v2] := by cases args; simp_all
  obtain ⟨rfl, rfl⟩ := trodVars_none hV
  have k0 := h0
  have lt0 : ∀ x ∈ p0, x.block < W.heap.size := by obtain ⟨m, hm⟩ := k0; exact DataW.trod_lt m _ _ _ hm
  obtain ⟨y0, rfl, w0⟩ := open_entryA Try.underlying23 (by kernel_rfl) (by kernel_rfl) Try.underlying9 Try.underlying9 Try.underlying3 Try.underlying4 (hval 0 23 v0 rfl rfl) h0
  have k1 := h1
  have lt1 : ∀ x ∈ p1, x.block < W.heap.size := by obtain ⟨m, hm⟩ := k1; exact DataW.trod_lt m _ _ _ hm
  obtain ⟨y1, rfl, w1⟩ := open_entryA Try.underlying23 (by kernel_rfl) (by kernel_rfl) Try.underlying9 Try.underlying9 Try.underlying3 Try.underlying4 (hval 1 23 v1 rfl rfl) h1
  have k2 := h2
  have lt2 : ∀ x ∈ p2, x.block < W.heap.size := by obtain ⟨m, hm⟩ := k2; exact DataW.trod_lt m _ _ _ hm
  obtain ⟨y2, rfl, w2⟩ := open_entryA Try.underlying23 (by kernel_rfl) (by kernel_rfl) Try.underlying9 Try.underlying9 Try.underlying3 Try.underlying4 (hval 2 23 v2 rfl rfl) h2
  clear hA0 hval0
  refine (walk y0 y1 y2 W w0 w1 w2).mono fun e W' ⟨he, bel⟩ => ?_
  subst he
  exact ⟨_, rfl, _, _, _, [], _, [], hW', trodAll_mk1 (shut_bool Try.underlying4 _), (trodAll_cons_mk (Below.trod laidOut (by kernel_rfl) (of_decide_eq_true (by kernel_rfl)) k0 bel lt0) (trodAll_cons_mk (Below.trod laidOut (by kernel_rfl) (of_decide_eq_true (by kernel_rfl)) k1 bel lt1) (trodAll_cons_mk (Below.trod laidOut (by kernel_rfl) (of_decide_eq_true (by kernel_rfl)) k2 bel lt2) trodAll_mk0))), rfl, bel.frame _, fun h => by cases h⟩

theorem over : Rows.pageOrderRow.holds Try.pinned (OpenSpec.ofChange Rows.pageOrderSpec) :=
  OpenClaim.holds_of_wide 3 Try.f3 rfl rfl rfl rfl rfl rfl rfl ⟨rfl, rfl, rfl, rfl, rfl⟩ rfl rfl rfl rfl rfl (by kernel_rfl) Try.func3 (by kernel_rfl)
    (of_decide_eq_true (by kernel_rfl)) (by unfold Func.isWrapper; first | (rw [if_pos (by decide +kernel)]; kernel_rfl) | (rw [if_neg (by decide +kernel)]; exact ⟨rfl, rfl⟩))
    (fun os started H enc _ => lifted os started H enc)

theorem proved : Rows.PageOrderSaid := over
end Go.Proofs.Ytldgnejmmjbhiab.pageOrder
namespace Go.Proofs.Ytldgnejmmjbhiab
theorem pageOrder_holds : Rows.PageOrderSaid := pageOrder.proved
#print axioms pageOrder_holds
end Go.Proofs.Ytldgnejmmjbhiab
