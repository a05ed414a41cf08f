/-
  Rows of entries linked at several heights; no program is named here.
-/
import Derived.Test.YtbeoijlkhpbdjaaDoorJ02
import Derived.Deep.RegionHeld3
namespace Go.Proofs.YtbeoijlkhpbdjaaDoor
open Go.RowKit Go.WideShapes

theorem nums_extract (r : ByteArray) (a b : Nat) : numsOf (r.extract a b) = ((numsOf r).drop a).take (b - a) := by
  unfold numsOf
  rw [ByteArray.data_extract, Array.toList_extract, List.extract_eq_take_drop, List.map_take, List.map_drop]
theorem text_drop (k : ByteArray) (n : Nat) : textN (k.extract n k.size) = smallN ((numsOf k).length - n) ++ (numsOf k).drop n := by
  unfold textN
  rw [nums_extract, List.take_of_length_le (by rw [List.length_drop, numsOf_len]; omega), ByteArray.size_extract, numsOf_len, Nat.min_self]
theorem St.box0 {w : World} {bx : List Box} {wc : World} {v : Value} {xs : List Nat} {B : Nat} {C : Array Value} {t : TypeId} (h : St w ((B, C, t) :: bx) wc v xs) (i : Nat) : wc.cell? ⟨B, i, none⟩ = C[i]? := h.cell (t := t) (by simp) i
theorem ent_join (a : List Nat) (k v : ByteArray) (s : Int) (xs : List Nat) (g : Bool) (tl : List Nat) (ht : tailN ⟨k, v, s, g⟩ = tl) : xs ++ smallN (sharedN a (numsOf k)) ++ textN (k.extract (sharedN a (numsOf k)) k.size) ++ smallN s.toNat ++ tl = xs ++ entN a ⟨k, v, s, g⟩ := by
  rw [text_drop, ← ht]
  unfold entN keyN
  simp only [List.append_assoc]
theorem textN_lt (s : ByteArray) : ∀ c ∈ textN s, c < 256 := by
  intro c hc
  rcases List.mem_append.1 hc with h | h
  · exact smallN_bytes _ c h
  · exact numsOf_lt _ c h
theorem smallN_five (n : Nat) (h : n < 34359738368) : (smallN n).length ≤ 5 := smallN_len 4 n (by omega)
theorem textN_len (s : ByteArray) (h : s.size ≤ 100000) : (textN s).length ≤ s.size + 5 := by
  unfold textN
  have := smallN_five s.size (by omega)
  rw [List.length_append, numsOf_len]; omega
end Go.Proofs.YtbeoijlkhpbdjaaDoor
namespace Go.Proofs.YtbeoijlkhpbdjaaDoor
open Go.RowKit Go.WideShapes

def prevE (l : List EntV) (k : Nat) : Option EntV := if k = 0 then none else some (l.getD (k - 1) zeroE)
theorem dropE {l : List EntV} {k : Nat} (h : k < l.length) : l.drop k = l.getD k zeroE :: l.drop (k + 1) := by
  rw [List.getD_eq_getElem?_getD, List.getElem?_eq_getElem h]; exact List.drop_eq_getElem_cons h
theorem checkF_one {l : List EntV} {k : Nat} (h : k < l.length) {y : EntV} (hy : l.getD k zeroE = y) (h1 : oneE y ≠ 0) : checkF (prevE l k) (l.drop k) = oneE y := by
  rw [dropE h, hy]
  cases hp : prevE l k <;> (unfold checkF; rw [if_pos h1])
theorem checkF_zero {l : List EntV} (h : 0 < l.length) {y : EntV} (hy : l.getD 0 zeroE = y) (h1 : oneE y = 0) : checkF (prevE l 0) (l.drop 0) = checkF (prevE l 1) (l.drop 1) := by
  rw [dropE h, hy]
  have e0 : prevE l 0 = none := rfl
  have e1 : prevE l 1 = some y := by unfold prevE; rw [if_neg (by omega)]; rw [show 1 - 1 = 0 from rfl, hy]
  rw [e0, e1]
  conv => lhs; unfold checkF
  rw [if_neg (by simp [h1])]
theorem checkF_next {l : List EntV} {k : Nat} (h : k + 1 < l.length) {x y : EntV} (hx : l.getD k zeroE = x) (hy : l.getD (k + 1) zeroE = y) (h1 : oneE y = 0) : checkF (prevE l (k + 1)) (l.drop (k + 1)) = if lessE x y = true then checkF (prevE l (k + 2)) (l.drop (k + 2)) else 100 := by
  rw [dropE h, hy]
  have e0 : prevE l (k + 1) = some x := by unfold prevE; rw [if_neg (by omega), show k + 1 - 1 = k from by omega, hx]
  have e1 : prevE l (k + 2) = some y := by unfold prevE; rw [if_neg (by omega), show k + 2 - 1 = k + 1 from by omega, hy]
  rw [e0, e1]
  conv => lhs; unfold checkF
  rw [if_neg (by simp [h1])]
theorem checkF_end (l : List EntV) (k : Nat) (h : l.length ≤ k) : checkF (prevE l k) (l.drop k) = 0 := by
  rw [List.drop_eq_nil_of_le h]
  cases prevE l k <;> rfl
theorem box4c (w : World) (a b c d : Value) (t : TypeId) : (w.alloc (.cells #[a, b, c, d] t)).cell? ⟨w.heap.size, 0, none⟩ = some a ∧ (w.alloc (.cells #[a, b, c, d] t)).cell? ⟨w.heap.size, 1, none⟩ = some b ∧ (w.alloc (.cells #[a, b, c, d] t)).cell? ⟨w.heap.size, 2, none⟩ = some c ∧ (w.alloc (.cells #[a, b, c, d] t)).cell? ⟨w.heap.size, 3, none⟩ = some d := by
  have h := heap_alloc_new w (.cells #[a, b, c, d] t)
  exact ⟨Lib.cell_of_heap h 0, Lib.cell_of_heap h 1, Lib.cell_of_heap h 2, Lib.cell_of_heap h 3⟩
theorem below_dw {a c : World} (h : Below a.drew.heap.size a.drew c) : Below a.heap.size a c := ⟨h.os, h.tape, h.output, h.size, h.block⟩
/-- Four cells side by side. -/
abbrev C4 (w : World) (g o : Nat) (a b c d : Value) : Prop := w.cell? ⟨g, o, none⟩ = some a ∧ w.cell? ⟨g, o + 1, none⟩ = some b ∧ w.cell? ⟨g, o + 2, none⟩ = some c ∧ w.cell? ⟨g, o + 3, none⟩ = some d
theorem c4_below {w w' : World} {g o : Nat} {a b c d : Value} (h : C4 w g o a b c d) (hb : Below w.heap.size w w') : C4 w' g o a b c d := by
  obtain ⟨a0, a1, a2, a3⟩ := h
  exact ⟨(hb.cell (World.block_lt_of_cell? _ _ a0)).trans a0, (hb.cell (World.block_lt_of_cell? _ _ a1)).trans a1, (hb.cell (World.block_lt_of_cell? _ _ a2)).trans a2, (hb.cell (World.block_lt_of_cell? _ _ a3)).trans a3⟩
set_option maxRecDepth 8000 in
set_option maxHeartbeats 4000000 in
theorem Check_any (q : Option Addr) (n c : Nat) (l : List EntV) (w : World) (h : EntsL w q n l) (C : Nat) (hC : checkE l = C) :
    Calls Tryd.prog 19 #[.slice q n c] w fun e w' => e = .returned (.int .i64 (C : Int)) ∧ Below w.heap.size w w' := by
  unfold checkE at hC
  have HN : Hid (n = l.length) := h.n
  by_cases hl : 4096 < l.length
  · rw [if_pos hl] at hC
    subst hC
    have g1 : (4096 : Int) < (n : Int) := by have := h.n; omega
    clear hl h
    go_enter Tryd.func19, Tryd.ntmps19
    go_wp2
    go_ret
    exact ⟨rfl, Below.refl _ _⟩
  rw [if_neg hl] at hC
  have g1 : (n : Int) ≤ 4096 := by have := h.n; omega
  have HQ : Hid (EntsIn w q l) := h.lies
  have HC : Hid (checkF (prevE l 0) (l.drop 0) = C) := hC
  clear hC h hl
  go_enter Tryd.func19, Tryd.ntmps19
  go_wp2
  go_loopw [11] (fun i wr => ∃ k : Nat, k ≤ n ∧ i = .int .i64 k ∧ checkF (prevE l k) (l.drop k) = C ∧ Below w.heap.size w wr) (fun i _ => n - (intOf i).toNat)
  case atStart => exact ⟨0, by omega, rfl, HC.out, Below.refl _ _⟩
  case round =>
    obtain ⟨k, hk, rfl, hs, hbel⟩ := hrel
    have HK : Hid (checkF (prevE l k) (l.drop k) = C) := hs
    have HB : Hid (Below w.heap.size w wr) := hbel
    clear hs hbel
    by_cases hkl : k < n
    · have hkl' : k < l.length := by have := HN.out; omega
      obtain ⟨b, o, rfl⟩ := HQ.out.addr (by omega)
      have HQ2 := (HQ.out.below HB.out)
      obtain ⟨e0, e1, e2, e3⟩ := HQ2.at hkl'
      obtain ⟨y, hy⟩ : ∃ y, l.getD k zeroE = y := ⟨_, rfl⟩
      rw [hy] at e0 e1 e2 e3
      have HY : Hid (l.getD k zeroE = y) := hy
      obtain ⟨ke, ve, se, ge⟩ := y
      simp only at e0 e1 e2 e3
      obtain ⟨E, hE⟩ : ∃ E, oneE ⟨ke, ve, se, ge⟩ = E := ⟨_, rfl⟩
      have HE : Hid (oneE ⟨ke, ve, se, ge⟩ = E) := hE
      have HCE := fun w' => checkEntry_any ⟨ke, ve, se, ge⟩ w' E hE
      rw [entV_def] at HCE
      have BX := box4c wr (.string ke) (.string ve) (.int .i64 se) (.bool ge) 23
      have HBX : Hid (C4 (wr.alloc (.cells #[.string ke, .string ve, .int .i64 se, .bool ge] 23)) wr.heap.size 0 (.string ke) (.string ve) (.int .i64 se) (.bool ge)) := BX
      have hkn : (k : Int) < (n : Int) := by omega
      have HKL : Hid (k < l.length) := hkl'
      clear hE hy BX hkl'
      rcases Nat.eq_zero_or_pos E with hE0 | hE0
      · subst hE0
        rcases k with _ | k
        · have H2 : Hid (checkF (prevE l 1) (l.drop 1) = C) := by show _ = _; rw [← checkF_zero HKL.out HY.out HE.out]; exact HK.out
          clear HQ2
          simp only [Nat.zero_mul, Nat.add_zero] at e0 e1 e2 e3
          go_wp2_with fail
          refine (HCE _).mono ?_
          rintro e w2 ⟨rfl, hb2⟩
          obtain ⟨d0, d1, d2, d3⟩ := c4_below HBX.out hb2
          have HB2 : Hid (Below w.heap.size w w2) := below_bt (below_bt HB.out (below_alloc _ _)) hb2
          clear hb2 HCE HBX
          go_wp2
          go_quiet (fail)
          go_wp2
          go_roundw
          case rel => exact ⟨1, by omega, by go_num, H2.out, below_drewN HB2.out _⟩
          case measure => simp [intOf]; omega
        · obtain ⟨x, hx⟩ : ∃ x, l.getD k zeroE = x := ⟨_, rfl⟩
          obtain ⟨kx, vx, sx, gx⟩ := x
          have h4 := HQ2.at (k := k) (by have := HKL.out; omega)
          rw [hx] at h4
          have HP : Hid (C4 wr b (o + k * 4) (.string kx) (.string vx) (.int .i64 sx) (.bool gx)) := h4
          have HNX := checkF_next HKL.out hx HY.out HE.out
          obtain ⟨r, hr⟩ : ∃ r, lessE ⟨kx, vx, sx, gx⟩ ⟨ke, ve, se, ge⟩ = r := ⟨_, rfl⟩
          have HLE := fun w' => less_any ⟨kx, vx, sx, gx⟩ ⟨ke, ve, se, ge⟩ w'
          rw [hr, entV_def, entV_def] at HLE
          rw [hr, HK.out] at HNX
          have HNX' : Hid (C = if r = true then checkF (prevE l (k + 2)) (l.drop (k + 2)) else 100) := HNX
          clear hx hr HQ2 h4 HNX
          go_wp2_with fail
          refine (HCE _).mono ?_
          rintro e w2 ⟨rfl, hb2⟩
          have HD : Hid (C4 w2 wr.heap.size 0 (.string ke) (.string ve) (.int .i64 se) (.bool ge)) := c4_below HBX.out hb2
          have HP2 : Hid (C4 w2 b (o + k * 4) (.string kx) (.string vx) (.int .i64 sx) (.bool gx)) := c4_below HP.out (below_bt (below_alloc _ _) hb2)
          have HB2 : Hid (Below w.heap.size w w2) := below_bt (below_bt HB.out (below_alloc _ _)) hb2
          clear hb2 HCE HBX HP
          generalize wr.heap.size = g at *
          have kw0 : IntKind.i64.wrap (k : Int) = (k : Int) := by rw [IntKind.wrap_i64]; omega
          have kw1 : IntKind.i64.wrap ((k : Int) + 1 - 1) = (k : Int) := by rw [IntKind.wrap_i64]; omega
          have kw2 : IntKind.i64.wrap (((k + 1 : Nat) : Int) - 1) = (k : Int) := by rw [IntKind.wrap_i64]; omega
          have kb0 : (0 : Int) ≤ (k : Int) := by omega
          have kb1 : (k : Int) < (n : Int) := by omega
          go_wp2
          go_region_held3 (fun w' => (w'.cell? ⟨g, 0, none⟩ = some (.string ke) ∧ w'.cell? ⟨g, 0 + 1, none⟩ = some (.string ve) ∧ w'.cell? ⟨g, 0 + 2, none⟩ = some (.int .i64 se) ∧ w'.cell? ⟨g, 0 + 3, none⟩ = some (.bool ge)) ∧ (w'.cell? ⟨b, o + k * 4, none⟩ = some (.string kx) ∧ w'.cell? ⟨b, o + k * 4 + 1, none⟩ = some (.string vx) ∧ w'.cell? ⟨b, o + k * 4 + 2, none⟩ = some (.int .i64 sx) ∧ w'.cell? ⟨b, o + k * 4 + 3, none⟩ = some (.bool gx)) ∧ Below w2.heap.size w2 w')
            (with_reducible first | exact ⟨HD.out, HP2.out, Below.refl _ _⟩ | exact ⟨c4_below HD.out (Below.refl _ _).drew, c4_below HP2.out (Below.refl _ _).drew, (Below.refl _ _).drew⟩ | exact ⟨c4_below HD.out (below_dw (by assumption)), c4_below HP2.out (below_dw (by assumption)), below_dw (by assumption)⟩ | assumption)
            (first
              | (go_at_call 36; refine (HLE _).mono ?_; rintro e w3 ⟨rfl, hb3⟩)
              | fail)
          rename_i hh
          have HB3 : Hid (Below w.heap.size w w3) := below_bt HB2.out hh.2.2
          clear hh
          cases r with
          | true =>
            have H2 : Hid (checkF (prevE l (k + 2)) (l.drop (k + 2)) = C) := by have := HNX'.out; rw [if_pos rfl] at this; exact this.symm
            go_wp2
            go_roundw
            case rel => exact ⟨k + 2, by omega, by go_num, H2.out, HB3.out⟩
            case measure => simp [intOf]; omega
          | false =>
            have H2 : Hid (C = 100) := by have := HNX'.out; rw [if_neg (by simp)] at this; exact this
            go_wp2
            go_ret
            exact ⟨by rw [H2.out]; rfl, HB3.out⟩
      · have hne : ((E : Int) != 0) = true := by simp; omega
        have H2 : Hid (E = C) := by show _ = _; rw [← HK.out, checkF_one HKL.out HY.out (by rw [HE.out]; omega), HE.out]
        clear HQ2 hE0
        go_wp2_with fail
        refine (HCE _).mono ?_
        rintro e w2 ⟨rfl, hb2⟩
        have HB2 : Hid (Below w.heap.size w w2) := below_bt (below_bt HB.out (below_alloc _ _)) hb2
        clear hb2 HCE HBX
        go_wp2
        go_ret
        exact ⟨by rw [← H2.out]; rfl, HB2.out⟩
    · have g2 : (n : Int) ≤ (k : Int) := by omega
      have H2 : Hid (C = 0) := by show _ = _; rw [← HK.out]; exact checkF_end l k (by have := HN.out; omega)
      go_wp2
      go_ret
      exact ⟨by rw [H2.out]; rfl, HB.out⟩
end Go.Proofs.YtbeoijlkhpbdjaaDoor
namespace Go.Proofs.YtbeoijlkhpbdjaaDoor
open Go.RowKit Go.WideShapes

def lastK : List Nat → List EntV → List Nat
  | a, [] => a
  | _, x :: l => lastK (numsOf x.key) l
theorem entsN_app : ∀ (l m : List EntV) (a : List Nat), entsN a (l ++ m) = entsN a l ++ entsN (lastK a l) m
  | [], m, a => rfl
  | x :: l, m, a => by simp only [List.cons_append, entsN, lastK, entsN_app l m, List.append_assoc]
theorem lastK_snoc : ∀ (l : List EntV) (x : EntV) (a : List Nat), lastK a (l ++ [x]) = numsOf x.key
  | [], x, a => rfl
  | y :: l, x, a => by simp only [List.cons_append, lastK, lastK_snoc l x]
theorem take_snoc {l : List EntV} {k : Nat} (h : k < l.length) {y : EntV} (hy : l.getD k zeroE = y) : l.take (k + 1) = l.take k ++ [y] := by
  rw [List.take_add_one, List.getElem?_eq_getElem h, ← hy, List.getD_eq_getElem?_getD, List.getElem?_eq_getElem h]; rfl
/-- What Make has written ahead of the entry k. -/
def wayN (l : List EntV) (k : Nat) : List Nat := smallN l.length ++ entsN [] (l.take k)
theorem wayN_next {l : List EntV} {k : Nat} (h : k < l.length) {y : EntV} (hy : l.getD k zeroE = y) {a : ByteArray} (ha : numsOf a = lastK [] (l.take k)) : wayN l k ++ entN (numsOf a) y = wayN l (k + 1) ∧ numsOf y.key = lastK [] (l.take (k + 1)) := by
  unfold wayN
  rw [take_snoc h hy, entsN_app, lastK_snoc, ← ha]
  simp [entsN]
theorem wayN_len (l : List EntV) (k : Nat) : (wayN l k).length ≤ (bodyN l).length := by
  unfold wayN bodyN
  have : entsN [] l = entsN [] (l.take k) ++ entsN (lastK [] (l.take k)) (l.drop k) := by rw [← entsN_app, List.take_append_drop]
  rw [this]
  simp only [List.length_append]
  omega
theorem wayN_all {l : List EntV} {k : Nat} (h : l.length ≤ k) : wayN l k = bodyN l := by unfold wayN bodyN; rw [List.take_of_length_le h]
theorem page_len (l : List EntV) : (pageN l).length = (bodyN l).length + 4 := by unfold pageN; rw [List.length_append, sum4_len]
theorem own_mono {w : World} {B B' e size n : Nat} {v : Value} {xs : List Value} (h : w.ownsRow B' e size v n xs) (hB : B ≤ B') : w.ownsRow B e size v n xs := by
  rcases h with ⟨h1, h2⟩
  refine ⟨h1, ?_⟩
  rcases h2 with h | ⟨g, cap, cur, hv, hb, hr⟩
  · exact .inl h
  · exact .inr ⟨g, cap, cur, hv, Nat.le_trans hB hb, hr⟩
theorem entN_len (a : List Nat) {x : EntV} (h : OkE x) : (entN a x).length ≤ 5000 := by
  have h1 := (sharedN_le a (numsOf x.key)).2
  rw [numsOf_len] at h1
  have := h.key2; have := h.val; have := h.seq1; have := h.seq2
  have s1 := smallN_five (sharedN a (numsOf x.key)) (by omega)
  have s2 := smallN_five (x.key.size - sharedN a (numsOf x.key)) (by omega)
  have s3 := smallN_five x.seq.toNat (by omega)
  have s4 := smallN_five x.val.size (by omega)
  unfold entN keyN tailN
  rw [small1, small0]
  simp only [List.length_append, List.length_drop, numsOf_len]
  split
  · simp only [List.length_cons, List.length_nil]; omega
  · simp only [List.length_append, List.length_cons, List.length_nil, numsOf_len]; omega
theorem makeE_long {l : List EntV} (h : checkE l = 0) {k : Nat} (hk : 65532 < (wayN l k).length) : makeE l = ([], 7) := by
  unfold makeE
  have := wayN_len l k
  rw [if_pos h, if_pos (by rw [page_len]; omega)]
theorem makeE_all {l : List EntV} (h : checkE l = 0) (hk : (bodyN l).length ≤ 65532) : makeE l = (pageN l, 0) := by
  unfold makeE
  rw [if_pos h, if_neg (by rw [page_len]; omega)]
theorem makeE_no {l : List EntV} (h : checkE l ≠ 0) : makeE l = ([], checkE l) := by
  unfold makeE
  rw [if_neg h]
end Go.Proofs.YtbeoijlkhpbdjaaDoor
namespace Go.Proofs.YtbeoijlkhpbdjaaDoor
open Go.RowKit Go.WideShapes

theorem tb_irrefl : ∀ (a : List UInt8), Op.bytesLess a a = false
  | [] => rfl
  | x :: a => by
    unfold Op.bytesLess
    simp [UInt8.lt_irrefl x, tb_irrefl a]
theorem tb_trans : ∀ (a b c : List UInt8), Op.bytesLess a b = true → Op.bytesLess b c = true → Op.bytesLess a c = true
  | [], b, [], _, h2 => by cases b <;> simp [Op.bytesLess] at h2
  | [], _, _ :: _, _, _ => rfl
  | _ :: _, [], _, h1, _ => by simp [Op.bytesLess] at h1
  | _ :: _, _ :: _, [], _, h2 => by simp [Op.bytesLess] at h2
  | x :: a, y :: b, z :: c, h1, h2 => by
    unfold Op.bytesLess at h1 h2 ⊢
    simp only [Bool.or_eq_true, Bool.and_eq_true, decide_eq_true_eq, beq_iff_eq] at h1 h2 ⊢
    rcases h1 with h1 | ⟨h1, h1'⟩
    · rcases h2 with h2 | ⟨h2, _⟩
      · exact .inl (UInt8.lt_trans h1 h2)
      · subst h2; exact .inl h1
    · subst h1
      rcases h2 with h2 | ⟨h2, h2'⟩
      · exact .inl h2
      · exact .inr ⟨h2, tb_trans a b c h1' h2'⟩
theorem tb_tri : ∀ (a b : List UInt8), Op.bytesLess a b = false → Op.bytesLess b a = false → a = b
  | [], [], _, _ => rfl
  | [], _ :: _, h1, _ => by simp [Op.bytesLess] at h1
  | _ :: _, [], _, h2 => by simp [Op.bytesLess] at h2
  | x :: a, y :: b, h1, h2 => by
    unfold Op.bytesLess at h1 h2
    simp only [Bool.or_eq_false_iff, Bool.and_eq_false_iff, decide_eq_false_iff_not, beq_eq_false_iff_ne, ne_eq] at h1 h2
    have hxy : x = y := UInt8.le_antisymm (UInt8.not_lt.1 h2.1) (UInt8.not_lt.1 h1.1)
    subst hxy
    rw [tb_tri a b (by simpa using h1.2) (by simpa using h2.2)]
theorem tb_nil (a : List UInt8) : Op.bytesLess a [] = false := by cases a <;> rfl
/-- One text stands ahead of another one. -/
def ltB (a b : ByteArray) : Bool := Op.bytesLess a.toList b.toList
theorem ltB_irrefl (a : ByteArray) : ltB a a = false := tb_irrefl _
theorem ltB_trans {a b c : ByteArray} (h1 : ltB a b = true) (h2 : ltB b c = true) : ltB a c = true := tb_trans _ _ _ h1 h2
theorem ltB_tri {a b : ByteArray} (h1 : ltB a b = false) (h2 : ltB b a = false) : a = b := by
  apply ba_ext.1
  rw [← ByteArray.toList_eq, ← ByteArray.toList_eq]
  exact tb_tri _ _ h1 h2
theorem ltB_empty (a : ByteArray) : ltB a ByteArray.empty = false := by
  unfold ltB
  rw [ByteArray.toList_eq ByteArray.empty]
  exact tb_nil _
theorem ltB_asymm {a b : ByteArray} (h : ltB a b = true) : ltB b a = false := by
  rw [Bool.eq_false_iff]
  intro h2
  have := ltB_trans h h2
  rw [ltB_irrefl] at this
  cases this
/-- Not below, and below: so it goes on. -/
theorem ltB_le_lt {a b c : ByteArray} (h1 : ltB b a = false) (h2 : ltB b c = true) : ltB a c = true := by
  cases h : ltB a b with
  | true => exact ltB_trans h h2
  | false => rw [ltB_tri h h1]; exact h2
theorem ltB_lt_le {a b c : ByteArray} (h1 : ltB a b = true) (h2 : ltB c b = false) : ltB a c = true := by
  cases h : ltB b c with
  | true => exact ltB_trans h1 h
  | false => rw [← ltB_tri h h2]; exact h1
theorem lessE_def (a b : EntV) : lessE a b = true ↔ (ltB a.key b.key = true ∨ (a.key = b.key ∧ b.seq < a.seq)) := by
  unfold lessE ltB
  rw [eq_str]
  simp
theorem lessE_irrefl (a : EntV) : lessE a a = false := by
  rw [Bool.eq_false_iff]
  intro h
  rcases (lessE_def a a).1 h with h | h
  · rw [ltB_irrefl] at h; cases h
  · omega
theorem lessE_trans {a b c : EntV} (h1 : lessE a b = true) (h2 : lessE b c = true) : lessE a c = true := by
  rw [lessE_def] at *
  rcases h1 with h1 | ⟨h1, h1'⟩
  · rcases h2 with h2 | ⟨h2, _⟩
    · exact .inl (ltB_trans h1 h2)
    · rw [← h2]; exact .inl h1
  · rcases h2 with h2 | ⟨h2, h2'⟩
    · rw [h1]; exact .inl h2
    · exact .inr ⟨h1.trans h2, by omega⟩
theorem lessE_key {a b : EntV} (h : lessE a b = true) : ltB b.key a.key = false := by
  rcases (lessE_def a b).1 h with h | ⟨h, _⟩
  · exact ltB_asymm h
  · rw [h, ltB_irrefl]
abbrev RiseE (l : List EntV) : Prop := l.Pairwise fun a b => lessE a b = true
theorem checkF_some : ∀ (l : List EntV) (y : EntV), checkF (some y) l = 0 ↔ (∀ x ∈ l, OkE x) ∧ (∀ x ∈ l, lessE y x = true) ∧ RiseE l
  | [], y => by simp [checkF]
  | x :: l, y => by
    have ih := checkF_some l x
    unfold checkF
    constructor
    · intro h
      split at h
      · rename_i h1; exact absurd h h1
      · rename_i h1
        have hx := oneE_ok.1 (Classical.not_not.1 h1)
        split at h
        · rename_i h2
          obtain ⟨i1, i2, i3⟩ := ih.1 h
          refine ⟨?_, ?_, List.pairwise_cons.2 ⟨i2, i3⟩⟩
          · intro z hz
            rcases List.mem_cons.1 hz with rfl | hz
            · exact hx
            · exact i1 z hz
          · intro z hz
            rcases List.mem_cons.1 hz with rfl | hz
            · exact h2
            · exact lessE_trans h2 (i2 z hz)
        · cases h
    · rintro ⟨h1, h2, h3⟩
      obtain ⟨h4, h5⟩ := List.pairwise_cons.1 h3
      rw [if_neg (by simp [oneE_ok.2 (h1 x (by simp))]), if_pos (h2 x (by simp))]
      exact ih.2 ⟨fun z hz => h1 z (by simp [hz]), h4, h5⟩
theorem checkF_none (l : List EntV) : checkF none l = 0 ↔ (∀ x ∈ l, OkE x) ∧ RiseE l := by
  cases l with
  | nil => simp [checkF]
  | cons x l =>
    have ih := checkF_some l x
    unfold checkF
    constructor
    · intro h
      split at h
      · rename_i h1; exact absurd h h1
      · rename_i h1
        have hx := oneE_ok.1 (Classical.not_not.1 h1)
        obtain ⟨i1, i2, i3⟩ := ih.1 h
        refine ⟨fun z hz => ?_, List.pairwise_cons.2 ⟨i2, i3⟩⟩
        rcases List.mem_cons.1 hz with rfl | hz
        · exact hx
        · exact i1 z hz
    · rintro ⟨h1, h3⟩
      obtain ⟨h4, h5⟩ := List.pairwise_cons.1 h3
      rw [if_neg (by simp [oneE_ok.2 (h1 x (by simp))])]
      exact ih.2 ⟨fun z hz => h1 z (by simp [hz]), h4, h5⟩
theorem checkE_rise (l : List EntV) : checkE l = 0 ↔ l.length ≤ 4096 ∧ (∀ x ∈ l, OkE x) ∧ RiseE l := by
  unfold checkE
  split
  · constructor
    · intro h; cases h
    · intro h; omega
  · rw [checkF_none]
    constructor
    · intro h; exact ⟨by omega, h⟩
    · intro h; exact h.2
theorem checkE_sub {l m : List EntV} (hs : m.Sublist l) (h : checkE l = 0) : checkE m = 0 := by
  obtain ⟨h1, h2, h3⟩ := (checkE_rise l).1 h
  exact (checkE_rise m).2 ⟨Nat.le_trans hs.length_le h1, fun x hx => h2 x (hs.subset hx), h3.sublist hs⟩
theorem checkE_take {l : List EntV} (n : Nat) (h : checkE l = 0) : checkE (l.take n) = 0 := checkE_sub (List.take_sublist n l) h
theorem checkE_drop {l : List EntV} (n : Nat) (h : checkE l = 0) : checkE (l.drop n) = 0 := checkE_sub (List.drop_sublist n l) h
/-! ### How long pages are -/
theorem smallN_mono : ∀ (n m : Nat), m ≤ n → (smallN m).length ≤ (smallN n).length := by
  intro n
  induction n using Nat.strongRecOn with
  | _ n ih =>
    intro m hm
    by_cases h : m < 128
    · rw [smallN_lo h]; exact smallN_pos n
    · rw [smallN_hi h, smallN_hi (show ¬ n < 128 by omega)]
      have := ih (n / 128) (by omega) (m / 128) (by omega)
      simp only [List.length_cons]; omega
theorem entsN_take (l : List EntV) (k : Nat) : (entsN [] (l.take k)).length ≤ (entsN [] l).length := by
  have : entsN [] l = entsN [] (l.take k) ++ entsN (lastK [] (l.take k)) (l.drop k) := by rw [← entsN_app, List.take_append_drop]
  rw [this, List.length_append]; omega
theorem page_mono (l : List EntV) {m n : Nat} (h : m ≤ n) : (pageN (l.take m)).length ≤ (pageN (l.take n)).length := by
  rw [page_len, page_len]
  unfold bodyN
  have h1 := smallN_mono (l.take n).length (l.take m).length (by simp only [List.length_take]; omega)
  have h2 := entsN_take (l.take n) m
  rw [List.take_take, Nat.min_eq_left h] at h2
  simp only [List.length_append]; omega
theorem page_step {l : List EntV} (hc : checkE l = 0) (n : Nat) (h : (pageN (l.take n)).length < 512 ∨ n = 0) : (pageN (l.take (n + 1))).length ≤ 6000 := by
  rcases Nat.lt_or_ge n l.length with hn | hn
  · obtain ⟨_, h2, _⟩ := (checkE_rise l).1 hc
    have hy : l.getD n zeroE ∈ l := by rw [List.getD_eq_getElem?_getD, List.getElem?_eq_getElem hn]; exact List.getElem_mem _
    have e := take_snoc hn rfl
    rw [page_len, e]
    unfold bodyN
    rw [entsN_app]
    have h3 := entN_len (lastK [] (l.take n)) (h2 _ hy)
    have hlen : (l.take n ++ [l.getD n zeroE]).length < 34359738368 := by
      have := ((checkE_rise l).1 hc).1
      simp only [List.length_append, List.length_take, List.length_cons, List.length_nil]; omega
    have h4 := smallN_five _ hlen
    have h5 : (entsN [] (l.take n)).length < 512 := by
      rcases h with h | h
      · rw [page_len] at h; unfold bodyN at h; simp only [List.length_append] at h; omega
      · subst h; simp [entsN]
    have h6 : entsN (lastK [] (l.take n)) [l.getD n zeroE] = entN (lastK [] (l.take n)) (l.getD n zeroE) := by simp [entsN]
    rw [h6]
    simp only [List.length_append] at h4 ⊢
    omega
  · rcases h with h | h
    · rw [List.take_of_length_le (by omega)]
      rw [List.take_of_length_le hn] at h
      omega
    · subst h
      obtain rfl : l = [] := List.eq_nil_of_length_eq_zero (by omega)
      rw [page_len]
      decide +kernel
theorem makeE_page {l : List EntV} (hc : checkE l = 0) (h : (pageN l).length ≤ 65536) : makeE l = (pageN l, 0) := makeE_all hc (by rw [page_len] at h; omega)
end Go.Proofs.YtbeoijlkhpbdjaaDoor
namespace Go.Proofs.YtbeoijlkhpbdjaaDoor
open Go.RowKit Go.WideShapes

/-- The first entry of a key that is not above a number. -/
def newL : List EntV → ByteArray → Int → EntV × Bool
  | [], _, _ => (zeroE, false)
  | x :: l, k, s => if x.key = k ∧ x.seq ≤ s then (x, true) else newL l k s
theorem newL_at {l : List EntV} {i : Nat} (h : i < l.length) {y : EntV} (hy : l.getD i zeroE = y) (k : ByteArray) (s : Int) : newL (l.drop i) k s = if y.key = k ∧ y.seq ≤ s then (y, true) else newL (l.drop (i + 1)) k s := by
  have e : l.drop i = y :: l.drop (i + 1) := by
    rw [← hy, List.getD_eq_getElem?_getD, List.getElem?_eq_getElem h]; exact List.drop_eq_getElem_cons h
  rw [e]
  rfl
theorem lessE_tri {a b : EntV} (h1 : lessE a b = false) (h2 : lessE b a = false) : a.key = b.key ∧ a.seq = b.seq := by
  have n1 : (ltB a.key b.key = true ∨ (a.key = b.key ∧ b.seq < a.seq)) → False := fun h => by have := (lessE_def a b).2 h; rw [h1] at this; cases this
  have n2 : (ltB b.key a.key = true ∨ (b.key = a.key ∧ a.seq < b.seq)) → False := fun h => by have := (lessE_def b a).2 h; rw [h2] at this; cases this
  have hk : a.key = b.key := by
    refine ltB_tri ?_ ?_
    · cases h : ltB a.key b.key with
      | false => rfl
      | true => exact (n1 (.inl h)).elim
    · cases h : ltB b.key a.key with
      | false => rfl
      | true => exact (n2 (.inl h)).elim
  refine ⟨hk, ?_⟩
  rcases Int.lt_trichotomy a.seq b.seq with h | h | h
  · exact (n2 (.inr ⟨hk.symm, h⟩)).elim
  · exact h
  · exact (n1 (.inr ⟨hk, h⟩)).elim
theorem lessE_same {a b : EntV} (h : a.key = b.key ∧ a.seq = b.seq) : lessE a b = false := by
  rw [Bool.eq_false_iff]
  intro hl
  rcases (lessE_def a b).1 hl with h1 | h1
  · rw [h.1, ltB_irrefl] at h1; cases h1
  · omega
theorem lessE_asymm {a b : EntV} (h : lessE a b = true) : lessE b a = false := by
  rw [Bool.eq_false_iff]
  intro h2
  have := lessE_trans h h2
  rw [lessE_irrefl] at this
  cases this
/-- In entries that rise a key and a number name one entry. -/
theorem rise_one {l : List EntV} (hr : RiseE l) {a b : EntV} (ha : a ∈ l) (hb : b ∈ l) (h : a.key = b.key ∧ a.seq = b.seq) : a = b := by
  obtain ⟨i, hi, rfl⟩ := List.getElem_of_mem ha
  obtain ⟨j, hj, rfl⟩ := List.getElem_of_mem hb
  rcases Nat.lt_trichotomy i j with c | c | c
  · have := List.pairwise_iff_getElem.1 hr i j hi hj c
    rw [lessE_same h] at this; cases this
  · subst c; rfl
  · have := List.pairwise_iff_getElem.1 hr j i hj hi c
    rw [lessE_same ⟨h.1.symm, h.2.symm⟩] at this; cases this
theorem riseE_ext : ∀ {l m : List EntV}, RiseE l → RiseE m → (∀ x, x ∈ l ↔ x ∈ m) → l = m
  | [], [], _, _, _ => rfl
  | [], y :: m, _, _, h => absurd ((h y).2 (by simp)) (by simp)
  | x :: l, [], _, _, h => absurd ((h x).1 (by simp)) (by simp)
  | x :: l, y :: m, hl, hm, h => by
    obtain ⟨l1, l2⟩ := List.pairwise_cons.1 hl
    obtain ⟨m1, m2⟩ := List.pairwise_cons.1 hm
    have hxy : x = y := by
      rcases List.mem_cons.1 ((h x).1 (by simp)) with e | hx
      · exact e
      · rcases List.mem_cons.1 ((h y).2 (by simp)) with e | hy
        · exact e.symm
        · have a := m1 x hx
          have b := l1 y hy
          rw [lessE_asymm a] at b; cases b
    subst hxy
    rw [riseE_ext l2 m2 (fun z => ?_)]
    constructor
    · intro hz
      rcases List.mem_cons.1 ((h z).1 (by simp [hz])) with e | hz'
      · subst e; have := l1 z hz; rw [lessE_irrefl] at this; cases this
      · exact hz'
    · intro hz
      rcases List.mem_cons.1 ((h z).2 (by simp [hz])) with e | hz'
      · subst e; have := m1 z hz; rw [lessE_irrefl] at this; cases this
      · exact hz'
/-- What newL tells of entries that rise. -/
theorem newL_yes : ∀ {l : List EntV} {k : ByteArray} {s : Int} {y : EntV}, RiseE l → newL l k s = (y, true) → y ∈ l ∧ y.key = k ∧ y.seq ≤ s ∧ ∀ z ∈ l, z.key = k → z.seq ≤ s → z.seq ≤ y.seq
  | [], _, _, _, _, h => by simp [newL] at h
  | x :: l, k, s, y, hr, h => by
    obtain ⟨h1, h2⟩ := List.pairwise_cons.1 hr
    simp only [newL] at h
    split at h
    · rename_i hx
      simp only [Prod.mk.injEq, and_true] at h
      subst h
      refine ⟨by simp, hx.1, hx.2, fun z hz hk hs => ?_⟩
      rcases List.mem_cons.1 hz with rfl | hz
      · exact Int.le_refl _
      · rcases (lessE_def x z).1 (h1 z hz) with hl | hl
        · rw [hx.1, hk, ltB_irrefl] at hl; cases hl
        · omega
    · rename_i hx
      obtain ⟨a, b, c, d⟩ := newL_yes h2 h
      refine ⟨by simp [a], b, c, fun z hz hk hs => ?_⟩
      rcases List.mem_cons.1 hz with rfl | hz
      · exact absurd ⟨hk, hs⟩ hx
      · exact d z hz hk hs
theorem newL_no : ∀ {l : List EntV} {k : ByteArray} {s : Int} {y : EntV}, newL l k s = (y, false) → y = zeroE ∧ ∀ z ∈ l, ¬ (z.key = k ∧ z.seq ≤ s)
  | [], _, _, _, h => by simp only [newL, Prod.mk.injEq, and_true] at h; exact ⟨h.symm, by simp⟩
  | x :: l, k, s, y, h => by
    simp only [newL] at h
    split at h
    · simp at h
    · rename_i hx
      obtain ⟨a, b⟩ := newL_no h
      refine ⟨a, fun z hz => ?_⟩
      rcases List.mem_cons.1 hz with rfl | hz
      · exact hx
      · exact b z hz
theorem newL_is {l : List EntV} (hr : RiseE l) {k : ByteArray} {s : Int} {y : EntV} (hy : y ∈ l) (hk : y.key = k) (hs : y.seq ≤ s) (hm : ∀ z ∈ l, z.key = k → z.seq ≤ s → z.seq ≤ y.seq) : newL l k s = (y, true) := by
  obtain ⟨z, b, h⟩ : ∃ z b, newL l k s = (z, b) := ⟨_, _, rfl⟩
  cases b with
  | false => exact absurd ⟨hk, hs⟩ ((newL_no h).2 y hy)
  | true =>
    obtain ⟨h1, h2, h3, h4⟩ := newL_yes hr h
    have e := hm z h1 h2 h3
    have e' := h4 y hy hk hs
    rw [h, rise_one hr h1 hy ⟨by rw [h2, hk], by omega⟩]
theorem newL_none {l : List EntV} {k : ByteArray} {s : Int} (h : ∀ z ∈ l, ¬ (z.key = k ∧ z.seq ≤ s)) : newL l k s = (zeroE, false) := by
  induction l with
  | nil => rfl
  | cons x l ih =>
    simp only [newL]
    rw [if_neg (h x (by simp))]
    exact ih (fun z hz => h z (by simp [hz]))
end Go.Proofs.YtbeoijlkhpbdjaaDoor
namespace Go.Proofs.YtbeoijlkhpbdjaaDoor
open Go.RowKit Go.WideShapes

/-- The first place whose entry does not stand ahead. -/
def placeE : List EntV → EntV → Nat
  | [], _ => 0
  | y :: l, x => if lessE y x = true then placeE l x + 1 else 0
theorem placeE_le : ∀ (l : List EntV) (x : EntV), placeE l x ≤ l.length
  | [], _ => Nat.le_refl _
  | y :: l, x => by
    have ih := placeE_le l x
    simp only [placeE, List.length_cons]
    split <;> omega
theorem place_ahead : ∀ (l : List EntV) (x : EntV), ∀ y ∈ l.take (placeE l x), lessE y x = true
  | [], _, y, h => by simp [placeE] at h
  | z :: l, x, y, h => by
    simp only [placeE] at h
    split at h
    · rename_i hz
      rw [List.take_succ_cons] at h
      rcases List.mem_cons.1 h with rfl | h
      · exact hz
      · exact place_ahead l x y h
    · simp at h
theorem place_at : ∀ (l : List EntV) (x : EntV), placeE l x < l.length → lessE (l.getD (placeE l x) zeroE) x = false
  | [], _, h => by simp at h
  | z :: l, x, h => by
    simp only [placeE] at h ⊢
    split at h
    · rename_i hz
      rw [if_pos hz]
      have := place_at l x (by simpa using h)
      simpa [List.getD] using this
    · rename_i hz
      rw [if_neg hz]
      simpa [List.getD] using hz
theorem place_next {l : List EntV} {k : Nat} {x : EntV} (h : ∀ y ∈ l.take k, lessE y x = true) (hk : k ≤ l.length) (hs : k = l.length ∨ lessE (l.getD k zeroE) x = false) : placeE l x = k := by
  induction l generalizing k with
  | nil => simp at hk; subst hk; rfl
  | cons z l ih =>
    cases k with
    | zero =>
      rcases hs with hs | hs
      · simp at hs
      · simp only [placeE]
        rw [if_neg (by rw [show (z :: l).getD 0 zeroE = z from rfl] at hs; rw [hs]; simp)]
    | succ k =>
      simp only [placeE]
      rw [if_pos (h z (by simp))]
      rw [ih (k := k) (fun y hy => h y (by rw [List.take_succ_cons]; exact List.mem_cons_of_mem _ hy)) (by simpa using hk) (by
        rcases hs with hs | hs
        · exact .inl (by simpa using hs)
        · exact .inr (by simpa [List.getD] using hs))]
def insE (l : List EntV) (x : EntV) : List EntV := l.take (placeE l x) ++ x :: l.drop (placeE l x)
theorem insE_len (l : List EntV) (x : EntV) : (insE l x).length = l.length + 1 := by
  unfold insE
  have := placeE_le l x
  simp only [List.length_append, List.length_cons, List.length_take, List.length_drop]
  omega
theorem mem_insE {l : List EntV} {x y : EntV} : y ∈ insE l x ↔ y = x ∨ y ∈ l := by
  unfold insE
  rw [List.mem_append, List.mem_cons]
  constructor
  · rintro (h | h | h)
    · exact .inr (List.mem_of_mem_take h)
    · exact .inl h
    · exact .inr (List.mem_of_mem_drop h)
  · rintro (h | h)
    · exact .inr (.inl h)
    · rw [← List.take_append_drop (placeE l x) l] at h
      rcases List.mem_append.1 h with h | h
      · exact .inl h
      · exact .inr (.inr h)
/-- An entry of the same key and number stands at the place, or nowhere. -/
theorem place_same {l : List EntV} (hr : RiseE l) (x : EntV) : (placeE l x < l.length ∧ lessE x (l.getD (placeE l x) zeroE) = false) ↔ ∃ y ∈ l, y.key = x.key ∧ y.seq = x.seq := by
  constructor
  · rintro ⟨h1, h2⟩
    have h3 := place_at l x h1
    have hm : l.getD (placeE l x) zeroE ∈ l := by rw [List.getD_eq_getElem?_getD, List.getElem?_eq_getElem h1]; exact List.getElem_mem _
    exact ⟨_, hm, lessE_tri h3 h2⟩
  · rintro ⟨y, hy, he⟩
    obtain ⟨i, hi, rfl⟩ := List.getElem_of_mem hy
    have hp : placeE l x = i := by
      refine place_next (fun z hz => ?_) (by omega) (.inr ?_)
      · obtain ⟨j, hj, rfl⟩ := List.getElem_of_mem hz
        rw [List.length_take] at hj
        rw [List.getElem_take]
        have h1 := List.pairwise_iff_getElem.1 hr j i (by omega) hi (by omega)
        rcases (lessE_def _ _).1 h1 with h2 | h2
        · exact (lessE_def _ _).2 (.inl (by rw [← he.1]; exact h2))
        · exact (lessE_def _ _).2 (.inr ⟨by rw [h2.1, he.1], by omega⟩)
      · rw [List.getD_eq_getElem?_getD, List.getElem?_eq_getElem hi]
        exact lessE_same he
    rw [hp]
    refine ⟨hi, ?_⟩
    rw [List.getD_eq_getElem?_getD, List.getElem?_eq_getElem hi]
    exact lessE_same ⟨he.1.symm, he.2.symm⟩
theorem insE_rise {l : List EntV} (hr : RiseE l) {x : EntV} (hn : ∀ y ∈ l, ¬ (y.key = x.key ∧ y.seq = x.seq)) : RiseE (insE l x) := by
  have hle := placeE_le l x
  have hdrop : ∀ y ∈ l.drop (placeE l x), lessE x y = true := by
    intro y hy
    obtain ⟨j, hj, rfl⟩ := List.getElem_of_mem hy
    rw [List.length_drop] at hj
    rw [List.getElem_drop]
    have hp : placeE l x < l.length := by omega
    have h1 := place_at l x hp
    rw [List.getD_eq_getElem?_getD, List.getElem?_eq_getElem hp] at h1
    simp only [Option.getD_some] at h1
    have h2 : lessE x l[placeE l x] = true := by
      cases h : lessE x l[placeE l x] with
      | true => rfl
      | false => exact absurd (lessE_tri h1 h) (hn _ (List.getElem_mem _))
    rcases Nat.eq_zero_or_pos j with h0 | h0
    · subst h0; exact h2
    · exact lessE_trans h2 (List.pairwise_iff_getElem.1 hr (placeE l x) (placeE l x + j) hp (by omega) (by omega))
  unfold insE
  refine List.pairwise_append.2 ⟨hr.sublist (List.take_sublist _ _), List.pairwise_cons.2 ⟨hdrop, hr.sublist (List.drop_sublist _ _)⟩, ?_⟩
  intro a ha b hb
  have h1 := place_ahead l x a ha
  rcases List.mem_cons.1 hb with rfl | hb
  · exact h1
  · exact lessE_trans h1 (hdrop b hb)
/-- One more entry put among others, or what is wrong. -/
def putE (l : List EntV) (x : EntV) : List EntV × Nat :=
  if checkE l ≠ 0 then ([], checkE l) else if oneE x ≠ 0 then ([], oneE x) else
  if placeE l x < l.length ∧ lessE x (l.getD (placeE l x) zeroE) = false then ([], 100) else if 4096 ≤ l.length then ([], 4) else (insE l x, 0)
theorem putE_bad {l : List EntV} {x : EntV} (h : checkE l ≠ 0) : putE l x = ([], checkE l) := by unfold putE; rw [if_pos h]
theorem putE_one {l : List EntV} {x : EntV} (h : checkE l = 0) (h2 : oneE x ≠ 0) : putE l x = ([], oneE x) := by unfold putE; rw [if_neg (by simp [h]), if_pos h2]
theorem putE_there {l : List EntV} {x : EntV} (h : checkE l = 0) (h2 : oneE x = 0) (h3 : ∃ y ∈ l, y.key = x.key ∧ y.seq = x.seq) : putE l x = ([], 100) := by
  unfold putE
  rw [if_neg (by simp [h]), if_neg (by simp [h2]), if_pos ((place_same ((checkE_rise l).1 h).2.2 x).2 h3)]
theorem putE_many {l : List EntV} {x : EntV} (h : checkE l = 0) (h2 : oneE x = 0) (h3 : ¬ ∃ y ∈ l, y.key = x.key ∧ y.seq = x.seq) (h4 : 4096 ≤ l.length) : putE l x = ([], 4) := by
  unfold putE
  rw [if_neg (by simp [h]), if_neg (by simp [h2]), if_neg (fun hh => h3 ((place_same ((checkE_rise l).1 h).2.2 x).1 hh)), if_pos h4]
theorem putE_is {l : List EntV} {x : EntV} (h : checkE l = 0) (h2 : oneE x = 0) (h3 : ¬ ∃ y ∈ l, y.key = x.key ∧ y.seq = x.seq) (h4 : l.length < 4096) : putE l x = (insE l x, 0) := by
  unfold putE
  rw [if_neg (by simp [h]), if_neg (by simp [h2]), if_neg (fun hh => h3 ((place_same ((checkE_rise l).1 h).2.2 x).1 hh)), if_neg (by omega)]
theorem putE_ok {l m : List EntV} {x : EntV} (h : putE l x = (m, 0)) : checkE l = 0 ∧ OkE x ∧ (¬ ∃ y ∈ l, y.key = x.key ∧ y.seq = x.seq) ∧ l.length < 4096 ∧ m = insE l x ∧ checkE m = 0 := by
  have h1 : checkE l = 0 := by
    by_cases hc : checkE l = 0
    · exact hc
    · rw [putE_bad hc] at h; exact (Prod.mk.inj h).2
  have h2 : oneE x = 0 := by
    by_cases hc : oneE x = 0
    · exact hc
    · rw [putE_one h1 hc] at h; exact (Prod.mk.inj h).2
  have h3 : ¬ ∃ y ∈ l, y.key = x.key ∧ y.seq = x.seq := by
    intro hc
    rw [putE_there h1 h2 hc] at h
    have := (Prod.mk.inj h).2
    omega
  have h4 : l.length < 4096 := by
    rcases Nat.lt_or_ge l.length 4096 with hc | hc
    · exact hc
    · rw [putE_many h1 h2 h3 hc] at h
      have := (Prod.mk.inj h).2
      omega
  rw [putE_is h1 h2 h3 h4] at h
  have hm := (Prod.mk.inj h).1
  refine ⟨h1, oneE_ok.1 h2, h3, h4, hm.symm, ?_⟩
  obtain ⟨c1, c2, c3⟩ := (checkE_rise l).1 h1
  rw [← hm]
  refine (checkE_rise _).2 ⟨by rw [insE_len]; omega, fun y hy => ?_, insE_rise c3 (fun y hy he => h3 ⟨y, hy, he⟩)⟩
  rcases mem_insE.1 hy with rfl | hy
  · exact oneE_ok.1 h2
  · exact c2 y hy
/-- A row behind entries that are put one behind the other. -/
def rowE : List EntV → List EntV → List EntV
  | a, [] => a
  | a, x :: l => rowE (if (putE a x).2 = 0 then (putE a x).1 else a) l
theorem rowE_app (a l m : List EntV) : rowE a (l ++ m) = rowE (rowE a l) m := by
  induction l generalizing a with
  | nil => rfl
  | cons x l ih => exact ih _
def stepE (a : List EntV) (x : EntV) : List EntV := if (putE a x).2 = 0 then (putE a x).1 else a
theorem stepE_ok {a : List EntV} {x : EntV} (h : (putE a x).2 = 0) : stepE a x = insE a x ∧ OkE x ∧ (¬ ∃ y ∈ a, y.key = x.key ∧ y.seq = x.seq) ∧ checkE (stepE a x) = 0 := by
  obtain ⟨h1, h2, h3, h4, h5, h6⟩ := putE_ok (l := a) (x := x) (m := (putE a x).1) (by rw [← h])
  refine ⟨?_, h2, h3, ?_⟩
  · unfold stepE; rw [if_pos h, h5]
  · unfold stepE; rw [if_pos h]; exact h6
theorem stepE_no {a : List EntV} {x : EntV} (h : (putE a x).2 ≠ 0) : stepE a x = a := by unfold stepE; rw [if_neg h]
theorem rowE_cons (a : List EntV) (x : EntV) (l : List EntV) : rowE a (x :: l) = rowE (stepE a x) l := rfl
theorem rowE_snoc (a l : List EntV) (x : EntV) : rowE a (l ++ [x]) = stepE (rowE a l) x := by rw [rowE_app]; rfl
theorem stepE_check {a : List EntV} (h : checkE a = 0) (x : EntV) : checkE (stepE a x) = 0 := by
  by_cases h0 : (putE a x).2 = 0
  · exact (stepE_ok h0).2.2.2
  · rw [stepE_no h0]; exact h
theorem rowE_check {a : List EntV} (h : checkE a = 0) (l : List EntV) : checkE (rowE a l) = 0 := by
  induction l generalizing a with
  | nil => exact h
  | cons x l ih => exact ih (stepE_check h x)
theorem stepE_len (a : List EntV) (x : EntV) : (stepE a x).length ≤ a.length + 1 := by
  by_cases h0 : (putE a x).2 = 0
  · rw [(stepE_ok h0).1, insE_len]; exact Nat.le_refl _
  · rw [stepE_no h0]; omega
theorem rowE_len (a l : List EntV) : (rowE a l).length ≤ a.length + l.length := by
  induction l generalizing a with
  | nil => exact Nat.le_refl _
  | cons x l ih =>
    have h1 := ih (stepE a x)
    have h2 := stepE_len a x
    rw [rowE_cons, List.length_cons]; omega
end Go.Proofs.YtbeoijlkhpbdjaaDoor
namespace Go.Proofs.YtbeoijlkhpbdjaaDoor
open Go.RowKit Go.WideShapes

theorem stepE_mem {a : List EntV} {x y : EntV} (h : y ∈ a) : y ∈ stepE a x := by
  by_cases h0 : (putE a x).2 = 0
  · rw [(stepE_ok h0).1]; exact mem_insE.2 (.inr h)
  · rw [stepE_no h0]; exact h
theorem rowE_mem {a : List EntV} {y : EntV} (l : List EntV) (h : y ∈ a) : y ∈ rowE a l := by
  induction l generalizing a with
  | nil => exact h
  | cons x l ih => exact ih (stepE_mem h)
/-- No two entries that may be have one key and number. -/
abbrev ApartE (l : List EntV) : Prop := l.Pairwise fun a b => OkE a → OkE b → ¬ (a.key = b.key ∧ a.seq = b.seq)
theorem rowE_all : ∀ (l a : List EntV), checkE a = 0 → a.length + l.length ≤ 4096 → (∀ x ∈ l, OkE x → ¬ ∃ y ∈ a, y.key = x.key ∧ y.seq = x.seq) → ApartE l → ∀ x, x ∈ rowE a l ↔ x ∈ a ∨ (x ∈ l ∧ OkE x)
  | [], a, _, _, _, _, x => by simp [rowE]
  | z :: l, a, hc, hl, hn, hd, x => by
    obtain ⟨d1, d2⟩ := List.pairwise_cons.1 hd
    rw [List.length_cons] at hl
    rw [rowE_cons]
    by_cases hz : OkE z
    · have hp := putE_is hc (oneE_ok.2 hz) (hn z (by simp) hz) (by omega)
      have h0 : (putE a z).2 = 0 := by rw [hp]
      obtain ⟨e1, _, _, e4⟩ := stepE_ok h0
      have hlen := stepE_len a z
      rw [rowE_all l (stepE a z) e4 (by omega) (fun y hy hoy hh => ?_) d2 x, e1, mem_insE]
      · constructor
        · rintro ((rfl | h) | h)
          · exact .inr ⟨by simp, hz⟩
          · exact .inl h
          · exact .inr ⟨by simp [h.1], h.2⟩
        · rintro (h | ⟨h, h2⟩)
          · exact .inl (.inr h)
          · rcases List.mem_cons.1 h with rfl | h
            · exact .inl (.inl rfl)
            · exact .inr ⟨h, h2⟩
      · obtain ⟨u, hu, he⟩ := hh
        rw [e1] at hu
        rcases mem_insE.1 hu with rfl | hu
        · exact d1 y hy hz hoy he
        · exact hn y (by simp [hy]) hoy ⟨u, hu, he⟩
    · have h0 : (putE a z).2 ≠ 0 := by
        have : oneE z ≠ 0 := fun h => hz (oneE_ok.1 h)
        rw [putE_one hc this]; exact this
      rw [stepE_no h0, rowE_all l a hc (by omega) (fun y hy => hn y (by simp [hy])) d2 x]
      constructor
      · rintro (h | h)
        · exact .inl h
        · exact .inr ⟨by simp [h.1], h.2⟩
      · rintro (h | ⟨h, h2⟩)
        · exact .inl h
        · rcases List.mem_cons.1 h with rfl | h
          · exact absurd h2 hz
          · exact .inr ⟨h, h2⟩
theorem check_nil : checkE [] = 0 := by decide
/-- Where no entry is refused for its order, none is there twice. -/
theorem apart_of {l : List EntV} (hl : l.length ≤ 4096) (h : ∀ k, k < l.length → (putE (rowE [] (l.take k)) (l.getD k zeroE)).2 ≠ 100) : ApartE l := by
  refine List.pairwise_iff_getElem.2 (fun i j hi hj hij oi oj he => ?_)
  have hgi : l.getD i zeroE = l[i] := by rw [List.getD_eq_getElem?_getD, List.getElem?_eq_getElem hi]; rfl
  have hgj : l.getD j zeroE = l[j] := by rw [List.getD_eq_getElem?_getD, List.getElem?_eq_getElem hj]; rfl
  have hci := rowE_check check_nil (l.take i)
  have hcj := rowE_check check_nil (l.take j)
  have hin : l[i] ∈ rowE [] (l.take (i + 1)) := by
    have hn : ¬ ∃ y ∈ rowE [] (l.take i), y.key = l[i].key ∧ y.seq = l[i].seq := by
      intro hh
      have := h i hi
      rw [hgi, putE_there hci (oneE_ok.2 oi) hh] at this
      exact this rfl
    have hlen := rowE_len [] (l.take i)
    rw [List.length_take, List.length_nil] at hlen
    have hp := putE_is hci (oneE_ok.2 oi) hn (by omega)
    rw [List.take_succ_eq_append_getElem hi, rowE_snoc, (stepE_ok (by rw [hp])).1]
    exact mem_insE.2 (.inl rfl)
  have hinj : l[i] ∈ rowE [] (l.take j) := by
    have e : l.take j = l.take (i + 1) ++ (l.take j).drop (i + 1) := by
      have := (List.take_append_drop (i + 1) (l.take j)).symm
      rw [List.take_take, Nat.min_eq_left (by omega)] at this
      exact this
    rw [e, rowE_app]
    exact rowE_mem _ hin
  have := h j hj
  rw [hgj, putE_there hcj (oneE_ok.2 oj) ⟨_, hinj, he⟩] at this
  exact this rfl
/-- The order in which entries are put does not matter. -/
theorem row_anyhow {l : List EntV} (hl : l.length ≤ 4096) (h : ∀ k, k < l.length → (putE (rowE [] (l.take k)) (l.getD k zeroE)).2 ≠ 100) : rowE [] l = rowE [] l.reverse := by
  have hd := apart_of hl h
  have hd' : ApartE l.reverse := by
    refine List.pairwise_reverse.2 (hd.imp ?_)
    intro a b hab oa ob he
    exact hab ob oa ⟨he.1.symm, he.2.symm⟩
  have h1 := rowE_all l [] check_nil (by simpa using hl) (fun x _ _ hh => by obtain ⟨_, hy, _⟩ := hh; simp at hy) hd
  have h2 := rowE_all l.reverse [] check_nil (by simpa using hl) (fun x _ _ hh => by obtain ⟨_, hy, _⟩ := hh; simp at hy) hd'
  refine riseE_ext ((checkE_rise _).1 (rowE_check check_nil l)).2.2 ((checkE_rise _).1 (rowE_check check_nil l.reverse)).2.2 (fun x => ?_)
  rw [h1, h2]
  simp
/-- The best of a key at a number, as it is sought while entries are put. -/
structure BestE (a : List EntV) (key : ByteArray) (s : Int) (best : Int) (found : EntV) : Prop where
  out : (best = -1 ∧ found = zeroE ∧ ∀ z ∈ a, ¬ (z.key = key ∧ z.seq ≤ s)) ∨ (found ∈ a ∧ found.key = key ∧ found.seq = best ∧ best ≤ s ∧ 0 ≤ best ∧ ∀ z ∈ a, z.key = key → z.seq ≤ s → z.seq ≤ best)
theorem best_nil (key : ByteArray) (s : Int) : BestE [] key s (-1) zeroE := ⟨.inl ⟨rfl, rfl, by simp⟩⟩
theorem best_take {a : List EntV} {key : ByteArray} {s best : Int} {found x : EntV} (h : BestE a key s best found) (hx : OkE x) (hk : x.key = key) (hs : x.seq ≤ s) (hb : best < x.seq) : BestE (insE a x) key s x.seq x := by
  refine ⟨.inr ⟨mem_insE.2 (.inl rfl), hk, rfl, hs, hx.seq1, fun z hz hzk hzs => ?_⟩⟩
  rcases mem_insE.1 hz with rfl | hz
  · exact Int.le_refl _
  · rcases h.out with ⟨_, _, h3⟩ | ⟨_, _, _, _, _, h6⟩
    · exact absurd ⟨hzk, hzs⟩ (h3 z hz)
    · have := h6 z hz hzk hzs; omega
theorem best_pass {a : List EntV} {key : ByteArray} {s best : Int} {found x : EntV} (h : BestE a key s best found) (hx : OkE x) (hn : ¬ (x.key = key ∧ x.seq ≤ s ∧ best < x.seq)) : BestE (insE a x) key s best found := by
  rcases h.out with ⟨h1, h2, h3⟩ | ⟨h1, h2, h3, h4, h5, h6⟩
  · refine ⟨.inl ⟨h1, h2, fun z hz hh => ?_⟩⟩
    rcases mem_insE.1 hz with rfl | hz
    · exact hn ⟨hh.1, hh.2, by have := hx.seq1; omega⟩
    · exact h3 z hz hh
  · refine ⟨.inr ⟨mem_insE.2 (.inr h1), h2, h3, h4, h5, fun z hz hzk hzs => ?_⟩⟩
    rcases mem_insE.1 hz with rfl | hz
    · rcases Int.lt_or_le best z.seq with hh | hh
      · exact absurd ⟨hzk, hzs, hh⟩ hn
      · exact hh
    · exact h6 z hz hzk hzs
theorem best_new {a : List EntV} {key : ByteArray} {s best : Int} {found : EntV} (hr : RiseE a) (h : BestE a key s best found) : newL a key s = (found, decide (0 ≤ best)) := by
  rcases h.out with ⟨h1, h2, h3⟩ | ⟨h1, h2, h3, h4, h5, h6⟩
  · rw [newL_none h3, h2, h1]; rfl
  · rw [newL_is hr h1 h2 (by omega) (fun z hz hk hs => by rw [h3]; exact h6 z hz hk hs)]
    simp [h5]
theorem stepE_many {a : List EntV} {x : EntV} (h : (putE a x).2 = 0) : (stepE a x).length = a.length + 1 := by rw [(stepE_ok h).1, insE_len]
/-- What Find tells of a list. -/
def findL (l : List EntV) (key : ByteArray) (seq : Int) : EntV × Bool × Nat :=
  if checkE l ≠ 0 then (zeroE, false, checkE l) else if key.size < 1 ∨ 256 < key.size then (zeroE, false, 60) else if seq < 0 ∨ 2147483647 < seq then (zeroE, false, 2) else ((newL l key seq).1, (newL l key seq).2, 0)
end Go.Proofs.YtbeoijlkhpbdjaaDoor
namespace Go.Proofs.YtbeoijlkhpbdjaaDoor
open Go.RowKit Go.WideShapes

/-- A node: its entry, where it lies, where its links lie, how high it is. -/
structure NodV where
  ent : EntV
  nb : Nat
  bb : Nat
  ht : Nat
def zN : NodV := ⟨zeroE, 0, 0, 0⟩
def ptN (n : NodV) : Value := .pointer (some ⟨n.nb, 0, none⟩)
def ptO : Option NodV → Value
  | none => .pointer none
  | some n => ptN n
/-- The first that is higher than h. -/
def nxN (h : Nat) (l : List NodV) : Option NodV := l.find? fun n => decide (h < n.ht)
theorem nxN_app (h : Nat) (a b : List NodV) : nxN h (a ++ b) = (nxN h a).or (nxN h b) := by unfold nxN; rw [List.find?_append]
theorem nxN_none {h : Nat} {l : List NodV} (hl : ∀ n ∈ l, n.ht ≤ h) : nxN h l = none := by
  unfold nxN
  rw [List.find?_eq_none]
  intro n hn
  have := hl n hn
  simp only [decide_eq_true_eq]; omega
theorem nxN_some {h : Nat} {l : List NodV} {n : NodV} (hn : n ∈ l) (hh : h < n.ht) : ∃ m, nxN h l = some m := by
  cases e : nxN h l with
  | some m => exact ⟨m, rfl⟩
  | none =>
    unfold nxN at e
    rw [List.find?_eq_none] at e
    have := e n hn
    simp only [decide_eq_true_eq] at this
    omega
theorem nxN_cons (h : Nat) (n : NodV) (l : List NodV) : nxN h (n :: l) = if h < n.ht then some n else nxN h l := by
  unfold nxN
  rw [List.find?_cons]
  by_cases hh : h < n.ht
  · simp [hh]
  · simp [hh]
theorem nodD {l : List NodV} {p : Nat} (h : p < l.length) : l.getD p zN = l[p] := by rw [List.getD_eq_getElem?_getD, List.getElem?_eq_getElem h]; rfl
theorem nod_mem {l : List NodV} {p : Nat} (h : p < l.length) : l.getD p zN ∈ l := by rw [nodD h]; exact List.getElem_mem _
/-- What is next at a height: none, or the first that is so high. -/
theorem nx_cases (h : Nat) (al : List NodV) (p : Nat) : (nxN h (al.drop (p + 1)) = none ∧ ∀ q, p < q → q < al.length → (al.getD q zN).ht ≤ h) ∨ ∃ q, p < q ∧ q < al.length ∧ h < (al.getD q zN).ht ∧ nxN h (al.drop (p + 1)) = some (al.getD q zN) ∧ ∀ r, p < r → r < q → (al.getD r zN).ht ≤ h := by
  generalize hk : al.length - p = k
  induction k generalizing p with
  | zero =>
    left
    rw [List.drop_eq_nil_of_le (by omega)]
    exact ⟨rfl, fun q h1 h2 => by omega⟩
  | succ k ih =>
    rcases Nat.lt_or_ge (p + 1) al.length with hp | hp
    · have e : al.drop (p + 1) = al.getD (p + 1) zN :: al.drop (p + 1 + 1) := by rw [nodD hp]; exact List.drop_eq_getElem_cons hp
      rw [e, nxN_cons]
      by_cases hh : h < (al.getD (p + 1) zN).ht
      · right
        rw [if_pos hh]
        exact ⟨p + 1, by omega, hp, hh, rfl, fun r h1 h2 => by omega⟩
      · rw [if_neg hh]
        rcases ih (p + 1) (by omega) with ⟨h1, h2⟩ | ⟨q, h1, h2, h3, h4, h5⟩
        · refine .inl ⟨h1, fun q hq hq2 => ?_⟩
          rcases Nat.lt_or_ge (p + 1) q with hc | hc
          · exact h2 q hc hq2
          · obtain rfl : q = p + 1 := by omega
            omega
        · refine .inr ⟨q, by omega, h2, h3, h4, fun r hr hr2 => ?_⟩
          rcases Nat.lt_or_ge (p + 1) r with hc | hc
          · exact h5 r hc hr2
          · obtain rfl : r = p + 1 := by omega
            omega
    · left
      rw [List.drop_eq_nil_of_le hp]
      exact ⟨rfl, fun q h1 h2 => by omega⟩
/-- The last node that stands ahead, at a height. -/
structure AheadN (al : List NodV) (x : EntV) (h p : Nat) : Prop where
  lt : p < al.length
  high : h < (al.getD p zN).ht
  less : ∀ q, 0 < q → q ≤ p → lessE (al.getD q zN).ent x = true
  rest : ∀ q, p < q → q < al.length → h < (al.getD q zN).ht → lessE (al.getD q zN).ent x = false
def eosN (al : List NodV) : List EntV := (al.drop 1).map NodV.ent
theorem eosN_len (al : List NodV) : (eosN al).length = al.length - 1 := by simp [eosN]
theorem eosN_at {al : List NodV} {p : Nat} (h : p + 1 < al.length) : (eosN al).getD p zeroE = (al.getD (p + 1) zN).ent := by
  unfold eosN
  rw [nodD h, List.getD_eq_getElem?_getD, List.getElem?_map, List.getElem?_drop, show 1 + p = p + 1 by omega, List.getElem?_eq_getElem h]
  rfl
theorem eosN_mem {al : List NodV} {q : Nat} (h0 : 0 < q) (h : q < al.length) : (al.getD q zN).ent ∈ eosN al := by
  have := eosN_at (al := al) (p := q - 1) (by omega)
  rw [show q - 1 + 1 = q by omega] at this
  rw [← this]
  exact getD_mem' (by rw [eosN_len]; omega)
/-- At the least height what stands ahead is all that does. -/
theorem ahead_place {al : List NodV} {x : EntV} {p : Nat} (ha : AheadN al x 0 p) (hh : ∀ q, q < al.length → 1 ≤ (al.getD q zN).ht) : placeE (eosN al) x = p := by
  have hlt := ha.lt
  refine place_next (fun y hy => ?_) (by rw [eosN_len]; omega) ?_
  · obtain ⟨j, hj, rfl⟩ := List.getElem_of_mem hy
    rw [List.length_take, eosN_len] at hj
    rw [List.getElem_take]
    have := eosN_at (al := al) (p := j) (by omega)
    rw [List.getD_eq_getElem?_getD, List.getElem?_eq_getElem (by rw [eosN_len]; omega)] at this
    simp only [Option.getD_some] at this
    rw [this]
    exact ha.less (j + 1) (by omega) (by omega)
  · rcases Nat.lt_or_ge (p + 1) al.length with hp | hp
    · right
      rw [eosN_at hp]
      exact ha.rest (p + 1) (by omega) hp (by have := hh (p + 1) hp; omega)
    · left; rw [eosN_len]; omega
/-- Between what stands ahead at a height and at the least one none is so high. -/
theorem ahead_le {al : List NodV} {x : EntV} {h p p0 : Nat} (ha : AheadN al x h p) (h0 : AheadN al x 0 p0) : p ≤ p0 := by
  rcases Nat.lt_or_ge p0 p with hc | hc
  · have h1 := ha.less p (by omega) (Nat.le_refl _)
    have h2 := h0.rest p hc ha.lt (by have := ha.high; omega)
    rw [h1] at h2; cases h2
  · exact hc
theorem ahead_low {al : List NodV} {x : EntV} {h p p0 : Nat} (ha : AheadN al x h p) (h0 : AheadN al x 0 p0) {q : Nat} (hq : p < q) (hq2 : q ≤ p0) : (al.getD q zN).ht ≤ h := by
  rcases Nat.lt_or_ge h (al.getD q zN).ht with hc | hc
  · have h1 := h0.less q (by omega) hq2
    have h2 := ha.rest q hq (by have := h0.lt; omega) hc
    rw [h1] at h2; cases h2
  · exact hc
def insN (al : List NodV) (p0 : Nat) (m : NodV) : List NodV := al.take (p0 + 1) ++ m :: al.drop (p0 + 1)
theorem insN_len (al : List NodV) (p0 : Nat) (m : NodV) (h : p0 < al.length) : (insN al p0 m).length = al.length + 1 := by
  unfold insN
  simp only [List.length_append, List.length_cons, List.length_take, List.length_drop]
  omega
theorem insN_lo {al : List NodV} {p0 : Nat} {m : NodV} (h : p0 < al.length) {p : Nat} (hp : p ≤ p0) : (insN al p0 m).getD p zN = al.getD p zN ∧ (insN al p0 m).drop (p + 1) = (al.take (p0 + 1)).drop (p + 1) ++ m :: al.drop (p0 + 1) ∧ al.drop (p + 1) = (al.take (p0 + 1)).drop (p + 1) ++ al.drop (p0 + 1) := by
  have hl : (al.take (p0 + 1)).length = p0 + 1 := by rw [List.length_take]; omega
  refine ⟨?_, ?_, ?_⟩
  · unfold insN
    rw [List.getD_eq_getElem?_getD, List.getElem?_append_left (by omega), List.getElem?_take_of_lt (by omega), ← List.getD_eq_getElem?_getD]
  · unfold insN
    rw [List.drop_append_of_le_length (by omega)]
  · rw [← List.drop_append_of_le_length (by omega), List.take_append_drop]
theorem insN_at {al : List NodV} {p0 : Nat} {m : NodV} (h : p0 < al.length) : (insN al p0 m).getD (p0 + 1) zN = m ∧ (insN al p0 m).drop (p0 + 1 + 1) = al.drop (p0 + 1) := by
  have hl : (al.take (p0 + 1)).length = p0 + 1 := by rw [List.length_take]; omega
  unfold insN
  constructor
  · rw [List.getD_eq_getElem?_getD, List.getElem?_append_right (by omega), hl]
    simp
  · rw [List.drop_append, hl, List.drop_eq_nil_of_le (by omega), List.nil_append, show p0 + 1 + 1 - (p0 + 1) = 1 by omega]
    rfl
theorem insN_hi {al : List NodV} {p0 : Nat} {m : NodV} (h : p0 < al.length) {p : Nat} (hp : p0 < p) : (insN al p0 m).getD (p + 1) zN = al.getD p zN ∧ (insN al p0 m).drop (p + 1 + 1) = al.drop (p + 1) := by
  have hl : (al.take (p0 + 1)).length = p0 + 1 := by rw [List.length_take]; omega
  unfold insN
  constructor
  · rw [List.getD_eq_getElem?_getD, List.getElem?_append_right (by omega), hl, show p + 1 - (p0 + 1) = (p - (p0 + 1)) + 1 by omega, List.getElem?_cons_succ, List.getElem?_drop, show p0 + 1 + (p - (p0 + 1)) = p by omega, ← List.getD_eq_getElem?_getD]
  · rw [List.drop_append, hl, List.drop_eq_nil_of_le (by omega), List.nil_append, show p + 1 + 1 - (p0 + 1) = (p - p0) + 1 by omega, List.drop_succ_cons, List.drop_drop, show p0 + 1 + (p - p0) = p + 1 by omega]
/-- The links behind the one that is put: those ahead of it. -/
theorem nx_ins_lo {al : List NodV} {x : EntV} {h p p0 f : Nat} {m : NodV} (ha : AheadN al x h f) (h0 : AheadN al x 0 p0) (hp : p ≤ p0) (hh : h < (al.getD p zN).ht) :
    nxN h ((insN al p0 m).drop (p + 1)) = if h < m.ht ∧ p = f then some m else nxN h (al.drop (p + 1)) := by
  obtain ⟨_, e1, e2⟩ := insN_lo (m := m) h0.lt hp
  rw [e1, e2, nxN_app, nxN_app, nxN_cons]
  have hl : (al.take (p0 + 1)).length = p0 + 1 := by have := h0.lt; rw [List.length_take]; omega
  have hget : ∀ q, q ≤ p0 → (al.take (p0 + 1)).getD q zN = al.getD q zN := fun q hq => by
    rw [List.getD_eq_getElem?_getD, List.getElem?_take_of_lt (by omega), ← List.getD_eq_getElem?_getD]
  by_cases hpf : p = f
  · subst hpf
    have hn : nxN h ((al.take (p0 + 1)).drop (p + 1)) = none := nxN_none fun n hn => by
      obtain ⟨j, hj, rfl⟩ := List.getElem_of_mem hn
      rw [List.length_drop, hl] at hj
      rw [List.getElem_drop]
      have h3 := hget (p + 1 + j) (by omega)
      rw [nodD (by omega)] at h3
      rw [h3]
      exact ahead_low ha h0 (by omega) (by omega)
    rw [hn]
    simp only [Option.none_or, and_true]
  · simp only [hpf, and_false, if_false]
    have hlt : p < f := by
      rcases Nat.lt_or_ge p f with hc | hc
      · exact hc
      · have := ahead_low ha h0 (q := p) (by omega) hp
        omega
    have hf := ahead_le ha h0
    obtain ⟨z, hz⟩ := nxN_some (h := h) (l := (al.take (p0 + 1)).drop (p + 1)) (n := al.getD f zN) (by
      rw [← hget f hf, nodD (by omega)]
      refine List.mem_iff_getElem.2 ⟨f - (p + 1), by rw [List.length_drop]; omega, ?_⟩
      rw [List.getElem_drop]
      congr 1
      omega) ha.high
    rw [hz]
    simp only [Option.some_or]
/-- The links of the one that is put. -/
theorem nx_ins_at {al : List NodV} {x : EntV} {h p0 f : Nat} {m : NodV} (ha : AheadN al x h f) (h0 : AheadN al x 0 p0) :
    nxN h ((insN al p0 m).drop (p0 + 1 + 1)) = nxN h (al.drop (f + 1)) := by
  have hf := ahead_le ha h0
  rw [(insN_at h0.lt).2, (insN_lo (m := m) h0.lt hf).2.2, nxN_app]
  have hl : (al.take (p0 + 1)).length = p0 + 1 := by have := h0.lt; rw [List.length_take]; omega
  have hn : nxN h ((al.take (p0 + 1)).drop (f + 1)) = none := nxN_none fun n hn => by
    obtain ⟨j, hj, rfl⟩ := List.getElem_of_mem hn
    rw [List.length_drop, hl] at hj
    rw [List.getElem_drop]
    have h3 : (al.take (p0 + 1)).getD (f + 1 + j) zN = al.getD (f + 1 + j) zN := by
      rw [List.getD_eq_getElem?_getD, List.getElem?_take_of_lt (by omega), ← List.getD_eq_getElem?_getD]
    rw [nodD (by omega)] at h3
    rw [h3]
    exact ahead_low ha h0 (by omega) (by omega)
  rw [hn, Option.none_or]
theorem ents_ins {al : List NodV} {x : EntV} {p0 : Nat} {m : NodV} (hm : m.ent = x) (h0 : AheadN al x 0 p0) (hh : ∀ q, q < al.length → 1 ≤ (al.getD q zN).ht) : eosN (insN al p0 m) = insE (eosN al) x := by
  have hp := ahead_place h0 hh
  have hlt := h0.lt
  unfold insE
  rw [hp]
  unfold eosN insN
  rw [List.drop_append, List.length_take, show 1 - min (p0 + 1) al.length = 0 by omega, List.drop_zero, List.map_append, List.map_cons, hm, List.drop_take, List.map_take, ← List.map_drop, List.drop_drop, show 1 + p0 = p0 + 1 by omega, show p0 + 1 - 1 = p0 by omega]
theorem next0 {al : List NodV} {p : Nat} (hh : ∀ q, q < al.length → 1 ≤ (al.getD q zN).ht) : nxN 0 (al.drop p) = al[p]? := by
  rcases Nat.lt_or_ge p al.length with hp | hp
  · rw [List.drop_eq_getElem_cons hp, nxN_cons, List.getElem?_eq_getElem hp, if_pos]
    have := hh p hp
    rw [nodD hp] at this
    omega
  · rw [List.drop_eq_nil_of_le hp, List.getElem?_eq_none hp]
    rfl
end Go.Proofs.YtbeoijlkhpbdjaaDoor
