/-
  Rows as one, those that count at a number, and what is left out; no program is named here.
-/
import Derived.Test.YtbnacopefclklaaJ02
import Derived.Deep.RegionHeld3
namespace Go.Proofs.Ytbnacopefclklaa
open Go.RowKit Go.WideShapes

theorem nums_extract (r : ByteArray) (a b : Nat) : numsOf (r.extract a b) = ((numsOf r).drop a).take (b - a) := by
  unfold numsOf
  rw [ByteArray.data_extract, Array.toList_extract, List.extract_eq_take_drop, List.map_take, List.map_drop]
theorem text_drop (k : ByteArray) (n : Nat) : textN (k.extract n k.size) = smallN ((numsOf k).length - n) ++ (numsOf k).drop n := by
  unfold textN
  rw [nums_extract, List.take_of_length_le (by rw [List.length_drop, numsOf_len]; omega), ByteArray.size_extract, numsOf_len, Nat.min_self]
theorem St.box0 {w : World} {bx : List Box} {wc : World} {v : Value} {xs : List Nat} {B : Nat} {C : Array Value} {t : TypeId} (h : St w ((B, C, t) :: bx) wc v xs) (i : Nat) : wc.cell? ⟨B, i, none⟩ = C[i]? := h.cell (t := t) (by simp) i
theorem ent_join (a : List Nat) (k v : ByteArray) (s : Int) (xs : List Nat) (g : Bool) (tl : List Nat) (ht : tailN ⟨k, v, s, g⟩ = tl) : xs ++ smallN (sharedN a (numsOf k)) ++ textN (k.extract (sharedN a (numsOf k)) k.size) ++ smallN s.toNat ++ tl = xs ++ entN a ⟨k, v, s, g⟩ := by
  rw [text_drop, ← ht]
  unfold entN keyN
  simp only [List.append_assoc]
theorem textN_lt (s : ByteArray) : ∀ c ∈ textN s, c < 256 := by
  intro c hc
  rcases List.mem_append.1 hc with h | h
  · exact smallN_bytes _ c h
  · exact numsOf_lt _ c h
theorem smallN_five (n : Nat) (h : n < 34359738368) : (smallN n).length ≤ 5 := smallN_len 4 n (by omega)
theorem textN_len (s : ByteArray) (h : s.size ≤ 100000) : (textN s).length ≤ s.size + 5 := by
  unfold textN
  have := smallN_five s.size (by omega)
  rw [List.length_append, numsOf_len]; omega
end Go.Proofs.Ytbnacopefclklaa
namespace Go.Proofs.Ytbnacopefclklaa
open Go.RowKit Go.WideShapes

def prevE (l : List EntV) (k : Nat) : Option EntV := if k = 0 then none else some (l.getD (k - 1) zeroE)
theorem dropE {l : List EntV} {k : Nat} (h : k < l.length) : l.drop k = l.getD k zeroE :: l.drop (k + 1) := by
  rw [List.getD_eq_getElem?_getD, List.getElem?_eq_getElem h]; exact List.drop_eq_getElem_cons h
theorem checkF_one {l : List EntV} {k : Nat} (h : k < l.length) {y : EntV} (hy : l.getD k zeroE = y) (h1 : oneE y ≠ 0) : checkF (prevE l k) (l.drop k) = oneE y := by
  rw [dropE h, hy]
  cases hp : prevE l k <;> (unfold checkF; rw [if_pos h1])
theorem checkF_zero {l : List EntV} (h : 0 < l.length) {y : EntV} (hy : l.getD 0 zeroE = y) (h1 : oneE y = 0) : checkF (prevE l 0) (l.drop 0) = checkF (prevE l 1) (l.drop 1) := by
  rw [dropE h, hy]
  have e0 : prevE l 0 = none := rfl
  have e1 : prevE l 1 = some y := by unfold prevE; rw [if_neg (by omega)]; rw [show 1 - 1 = 0 from rfl, hy]
  rw [e0, e1]
  conv => lhs; unfold checkF
  rw [if_neg (by simp [h1])]
theorem checkF_next {l : List EntV} {k : Nat} (h : k + 1 < l.length) {x y : EntV} (hx : l.getD k zeroE = x) (hy : l.getD (k + 1) zeroE = y) (h1 : oneE y = 0) : checkF (prevE l (k + 1)) (l.drop (k + 1)) = if lessE x y = true then checkF (prevE l (k + 2)) (l.drop (k + 2)) else 100 := by
  rw [dropE h, hy]
  have e0 : prevE l (k + 1) = some x := by unfold prevE; rw [if_neg (by omega), show k + 1 - 1 = k from by omega, hx]
  have e1 : prevE l (k + 2) = some y := by unfold prevE; rw [if_neg (by omega), show k + 2 - 1 = k + 1 from by omega, hy]
  rw [e0, e1]
  conv => lhs; unfold checkF
  rw [if_neg (by simp [h1])]
theorem checkF_end (l : List EntV) (k : Nat) (h : l.length ≤ k) : checkF (prevE l k) (l.drop k) = 0 := by
  rw [List.drop_eq_nil_of_le h]
  cases prevE l k <;> rfl
theorem box4c (w : World) (a b c d : Value) (t : TypeId) : (w.alloc (.cells #[a, b, c, d] t)).cell? ⟨w.heap.size, 0, none⟩ = some a ∧ (w.alloc (.cells #[a, b, c, d] t)).cell? ⟨w.heap.size, 1, none⟩ = some b ∧ (w.alloc (.cells #[a, b, c, d] t)).cell? ⟨w.heap.size, 2, none⟩ = some c ∧ (w.alloc (.cells #[a, b, c, d] t)).cell? ⟨w.heap.size, 3, none⟩ = some d := by
  have h := heap_alloc_new w (.cells #[a, b, c, d] t)
  exact ⟨Lib.cell_of_heap h 0, Lib.cell_of_heap h 1, Lib.cell_of_heap h 2, Lib.cell_of_heap h 3⟩
theorem below_dw {a c : World} (h : Below a.drew.heap.size a.drew c) : Below a.heap.size a c := ⟨h.os, h.tape, h.output, h.size, h.block⟩
/-- Four cells side by side. -/
abbrev C4 (w : World) (g o : Nat) (a b c d : Value) : Prop := w.cell? ⟨g, o, none⟩ = some a ∧ w.cell? ⟨g, o + 1, none⟩ = some b ∧ w.cell? ⟨g, o + 2, none⟩ = some c ∧ w.cell? ⟨g, o + 3, none⟩ = some d
theorem c4_below {w w' : World} {g o : Nat} {a b c d : Value} (h : C4 w g o a b c d) (hb : Below w.heap.size w w') : C4 w' g o a b c d := by
  obtain ⟨a0, a1, a2, a3⟩ := h
  exact ⟨(hb.cell (World.block_lt_of_cell? _ _ a0)).trans a0, (hb.cell (World.block_lt_of_cell? _ _ a1)).trans a1, (hb.cell (World.block_lt_of_cell? _ _ a2)).trans a2, (hb.cell (World.block_lt_of_cell? _ _ a3)).trans a3⟩
set_option maxRecDepth 8000 in
set_option maxHeartbeats 4000000 in
theorem Check_any (q : Option Addr) (n c : Nat) (l : List EntV) (w : World) (h : EntsL w q n l) (C : Nat) (hC : checkE l = C) :
    Calls Try.prog 39 #[.slice q n c] w fun e w' => e = .returned (.int .i64 (C : Int)) ∧ Below w.heap.size w w' := by
  unfold checkE at hC
  have HN : Hid (n = l.length) := h.n
  by_cases hl : 4096 < l.length
  · rw [if_pos hl] at hC
    subst hC
    have g1 : (4096 : Int) < (n : Int) := by have := h.n; omega
    clear hl h
    go_enter Try.func39, Try.ntmps39
    go_wp2
    go_ret
    exact ⟨rfl, Below.refl _ _⟩
  rw [if_neg hl] at hC
  have g1 : (n : Int) ≤ 4096 := by have := h.n; omega
  have HQ : Hid (EntsIn w q l) := h.lies
  have HC : Hid (checkF (prevE l 0) (l.drop 0) = C) := hC
  clear hC h hl
  go_enter Try.func39, Try.ntmps39
  go_wp2
  go_loopw [11] (fun i wr => ∃ k : Nat, k ≤ n ∧ i = .int .i64 k ∧ checkF (prevE l k) (l.drop k) = C ∧ Below w.heap.size w wr) (fun i _ => n - (intOf i).toNat)
  case atStart => exact ⟨0, by omega, rfl, HC.out, Below.refl _ _⟩
  case round =>
    obtain ⟨k, hk, rfl, hs, hbel⟩ := hrel
    have HK : Hid (checkF (prevE l k) (l.drop k) = C) := hs
    have HB : Hid (Below w.heap.size w wr) := hbel
    clear hs hbel
    by_cases hkl : k < n
    · have hkl' : k < l.length := by have := HN.out; omega
      obtain ⟨b, o, rfl⟩ := HQ.out.addr (by omega)
      have HQ2 := (HQ.out.below HB.out)
      obtain ⟨e0, e1, e2, e3⟩ := HQ2.at hkl'
      obtain ⟨y, hy⟩ : ∃ y, l.getD k zeroE = y := ⟨_, rfl⟩
      rw [hy] at e0 e1 e2 e3
      have HY : Hid (l.getD k zeroE = y) := hy
      obtain ⟨ke, ve, se, ge⟩ := y
      simp only at e0 e1 e2 e3
      obtain ⟨E, hE⟩ : ∃ E, oneE ⟨ke, ve, se, ge⟩ = E := ⟨_, rfl⟩
      have HE : Hid (oneE ⟨ke, ve, se, ge⟩ = E) := hE
      have HCE := fun w' => checkEntry_any ⟨ke, ve, se, ge⟩ w' E hE
      rw [entV_def] at HCE
      have BX := box4c wr (.string ke) (.string ve) (.int .i64 se) (.bool ge) 23
      have HBX : Hid (C4 (wr.alloc (.cells #[.string ke, .string ve, .int .i64 se, .bool ge] 23)) wr.heap.size 0 (.string ke) (.string ve) (.int .i64 se) (.bool ge)) := BX
      have hkn : (k : Int) < (n : Int) := by omega
      have HKL : Hid (k < l.length) := hkl'
      clear hE hy BX hkl'
      rcases Nat.eq_zero_or_pos E with hE0 | hE0
      · subst hE0
        rcases k with _ | k
        · have H2 : Hid (checkF (prevE l 1) (l.drop 1) = C) := by show _ = _; rw [← checkF_zero HKL.out HY.out HE.out]; exact HK.out
          clear HQ2
          simp only [Nat.zero_mul, Nat.add_zero] at e0 e1 e2 e3
          go_wp2_with fail
          refine (HCE _).mono ?_
          rintro e w2 ⟨rfl, hb2⟩
          obtain ⟨d0, d1, d2, d3⟩ := c4_below HBX.out hb2
          have HB2 : Hid (Below w.heap.size w w2) := below_bt (below_bt HB.out (below_alloc _ _)) hb2
          clear hb2 HCE HBX
          go_wp2
          go_quiet (fail)
          go_wp2
          go_roundw
          case rel => exact ⟨1, by omega, by go_num, H2.out, below_drewN HB2.out _⟩
          case measure => simp [intOf]; omega
        · obtain ⟨x, hx⟩ : ∃ x, l.getD k zeroE = x := ⟨_, rfl⟩
          obtain ⟨kx, vx, sx, gx⟩ := x
          have h4 := HQ2.at (k := k) (by have := HKL.out; omega)
          rw [hx] at h4
          have HP : Hid (C4 wr b (o + k * 4) (.string kx) (.string vx) (.int .i64 sx) (.bool gx)) := h4
          have HNX := checkF_next HKL.out hx HY.out HE.out
          obtain ⟨r, hr⟩ : ∃ r, lessE ⟨kx, vx, sx, gx⟩ ⟨ke, ve, se, ge⟩ = r := ⟨_, rfl⟩
          have HLE := fun w' => less_any ⟨kx, vx, sx, gx⟩ ⟨ke, ve, se, ge⟩ w'
          rw [hr, entV_def, entV_def] at HLE
          rw [hr, HK.out] at HNX
          have HNX' : Hid (C = if r = true then checkF (prevE l (k + 2)) (l.drop (k + 2)) else 100) := HNX
          clear hx hr HQ2 h4 HNX
          go_wp2_with fail
          refine (HCE _).mono ?_
          rintro e w2 ⟨rfl, hb2⟩
          have HD : Hid (C4 w2 wr.heap.size 0 (.string ke) (.string ve) (.int .i64 se) (.bool ge)) := c4_below HBX.out hb2
          have HP2 : Hid (C4 w2 b (o + k * 4) (.string kx) (.string vx) (.int .i64 sx) (.bool gx)) := c4_below HP.out (below_bt (below_alloc _ _) hb2)
          have HB2 : Hid (Below w.heap.size w w2) := below_bt (below_bt HB.out (below_alloc _ _)) hb2
          clear hb2 HCE HBX HP
          generalize wr.heap.size = g at *
          have kw0 : IntKind.i64.wrap (k : Int) = (k : Int) := by rw [IntKind.wrap_i64]; omega
          have kw1 : IntKind.i64.wrap ((k : Int) + 1 - 1) = (k : Int) := by rw [IntKind.wrap_i64]; omega
          have kw2 : IntKind.i64.wrap (((k + 1 : Nat) : Int) - 1) = (k : Int) := by rw [IntKind.wrap_i64]; omega
          have kb0 : (0 : Int) ≤ (k : Int) := by omega
          have kb1 : (k : Int) < (n : Int) := by omega
          go_wp2
          go_region_held3 (fun w' => (w'.cell? ⟨g, 0, none⟩ = some (.string ke) ∧ w'.cell? ⟨g, 0 + 1, none⟩ = some (.string ve) ∧ w'.cell? ⟨g, 0 + 2, none⟩ = some (.int .i64 se) ∧ w'.cell? ⟨g, 0 + 3, none⟩ = some (.bool ge)) ∧ (w'.cell? ⟨b, o + k * 4, none⟩ = some (.string kx) ∧ w'.cell? ⟨b, o + k * 4 + 1, none⟩ = some (.string vx) ∧ w'.cell? ⟨b, o + k * 4 + 2, none⟩ = some (.int .i64 sx) ∧ w'.cell? ⟨b, o + k * 4 + 3, none⟩ = some (.bool gx)) ∧ Below w2.heap.size w2 w')
            (with_reducible first | exact ⟨HD.out, HP2.out, Below.refl _ _⟩ | exact ⟨c4_below HD.out (Below.refl _ _).drew, c4_below HP2.out (Below.refl _ _).drew, (Below.refl _ _).drew⟩ | exact ⟨c4_below HD.out (below_dw (by assumption)), c4_below HP2.out (below_dw (by assumption)), below_dw (by assumption)⟩ | assumption)
            (first
              | (go_at_call 25; refine (HLE _).mono ?_; rintro e w3 ⟨rfl, hb3⟩)
              | fail)
          rename_i hh
          have HB3 : Hid (Below w.heap.size w w3) := below_bt HB2.out hh.2.2
          clear hh
          cases r with
          | true =>
            have H2 : Hid (checkF (prevE l (k + 2)) (l.drop (k + 2)) = C) := by have := HNX'.out; rw [if_pos rfl] at this; exact this.symm
            go_wp2
            go_roundw
            case rel => exact ⟨k + 2, by omega, by go_num, H2.out, HB3.out⟩
            case measure => simp [intOf]; omega
          | false =>
            have H2 : Hid (C = 100) := by have := HNX'.out; rw [if_neg (by simp)] at this; exact this
            go_wp2
            go_ret
            exact ⟨by rw [H2.out]; rfl, HB3.out⟩
      · have hne : ((E : Int) != 0) = true := by simp; omega
        have H2 : Hid (E = C) := by show _ = _; rw [← HK.out, checkF_one HKL.out HY.out (by rw [HE.out]; omega), HE.out]
        clear HQ2 hE0
        go_wp2_with fail
        refine (HCE _).mono ?_
        rintro e w2 ⟨rfl, hb2⟩
        have HB2 : Hid (Below w.heap.size w w2) := below_bt (below_bt HB.out (below_alloc _ _)) hb2
        clear hb2 HCE HBX
        go_wp2
        go_ret
        exact ⟨by rw [← H2.out]; rfl, HB2.out⟩
    · have g2 : (n : Int) ≤ (k : Int) := by omega
      have H2 : Hid (C = 0) := by show _ = _; rw [← HK.out]; exact checkF_end l k (by have := HN.out; omega)
      go_wp2
      go_ret
      exact ⟨by rw [H2.out]; rfl, HB.out⟩
end Go.Proofs.Ytbnacopefclklaa
namespace Go.Proofs.Ytbnacopefclklaa
open Go.RowKit Go.WideShapes

def lastK : List Nat → List EntV → List Nat
  | a, [] => a
  | _, x :: l => lastK (numsOf x.key) l
theorem entsN_app : ∀ (l m : List EntV) (a : List Nat), entsN a (l ++ m) = entsN a l ++ entsN (lastK a l) m
  | [], m, a => rfl
  | x :: l, m, a => by simp only [List.cons_append, entsN, lastK, entsN_app l m, List.append_assoc]
theorem lastK_snoc : ∀ (l : List EntV) (x : EntV) (a : List Nat), lastK a (l ++ [x]) = numsOf x.key
  | [], x, a => rfl
  | y :: l, x, a => by simp only [List.cons_append, lastK, lastK_snoc l x]
theorem take_snoc {l : List EntV} {k : Nat} (h : k < l.length) {y : EntV} (hy : l.getD k zeroE = y) : l.take (k + 1) = l.take k ++ [y] := by
  rw [List.take_add_one, List.getElem?_eq_getElem h, ← hy, List.getD_eq_getElem?_getD, List.getElem?_eq_getElem h]; rfl
/-- What Make has written ahead of the entry k. -/
def wayN (l : List EntV) (k : Nat) : List Nat := smallN l.length ++ entsN [] (l.take k)
theorem wayN_next {l : List EntV} {k : Nat} (h : k < l.length) {y : EntV} (hy : l.getD k zeroE = y) {a : ByteArray} (ha : numsOf a = lastK [] (l.take k)) : wayN l k ++ entN (numsOf a) y = wayN l (k + 1) ∧ numsOf y.key = lastK [] (l.take (k + 1)) := by
  unfold wayN
  rw [take_snoc h hy, entsN_app, lastK_snoc, ← ha]
  simp [entsN]
theorem wayN_len (l : List EntV) (k : Nat) : (wayN l k).length ≤ (bodyN l).length := by
  unfold wayN bodyN
  have : entsN [] l = entsN [] (l.take k) ++ entsN (lastK [] (l.take k)) (l.drop k) := by rw [← entsN_app, List.take_append_drop]
  rw [this]
  simp only [List.length_append]
  omega
theorem wayN_all {l : List EntV} {k : Nat} (h : l.length ≤ k) : wayN l k = bodyN l := by unfold wayN bodyN; rw [List.take_of_length_le h]
theorem page_len (l : List EntV) : (pageN l).length = (bodyN l).length + 4 := by unfold pageN; rw [List.length_append, sum4_len]
theorem own_mono {w : World} {B B' e size n : Nat} {v : Value} {xs : List Value} (h : w.ownsRow B' e size v n xs) (hB : B ≤ B') : w.ownsRow B e size v n xs := by
  rcases h with ⟨h1, h2⟩
  refine ⟨h1, ?_⟩
  rcases h2 with h | ⟨g, cap, cur, hv, hb, hr⟩
  · exact .inl h
  · exact .inr ⟨g, cap, cur, hv, Nat.le_trans hB hb, hr⟩
theorem entN_len (a : List Nat) {x : EntV} (h : OkE x) : (entN a x).length ≤ 5000 := by
  have h1 := (sharedN_le a (numsOf x.key)).2
  rw [numsOf_len] at h1
  have := h.key2; have := h.val; have := h.seq1; have := h.seq2
  have s1 := smallN_five (sharedN a (numsOf x.key)) (by omega)
  have s2 := smallN_five (x.key.size - sharedN a (numsOf x.key)) (by omega)
  have s3 := smallN_five x.seq.toNat (by omega)
  have s4 := smallN_five x.val.size (by omega)
  unfold entN keyN tailN
  rw [small1, small0]
  simp only [List.length_append, List.length_drop, numsOf_len]
  split
  · simp only [List.length_cons, List.length_nil]; omega
  · simp only [List.length_append, List.length_cons, List.length_nil, numsOf_len]; omega
theorem makeE_long {l : List EntV} (h : checkE l = 0) {k : Nat} (hk : 65532 < (wayN l k).length) : makeE l = ([], 7) := by
  unfold makeE
  have := wayN_len l k
  rw [if_pos h, if_pos (by rw [page_len]; omega)]
theorem makeE_all {l : List EntV} (h : checkE l = 0) (hk : (bodyN l).length ≤ 65532) : makeE l = (pageN l, 0) := by
  unfold makeE
  rw [if_pos h, if_neg (by rw [page_len]; omega)]
theorem makeE_no {l : List EntV} (h : checkE l ≠ 0) : makeE l = ([], checkE l) := by
  unfold makeE
  rw [if_neg h]
end Go.Proofs.Ytbnacopefclklaa
namespace Go.Proofs.Ytbnacopefclklaa
open Go.RowKit Go.WideShapes

theorem tb_irrefl : ∀ (a : List UInt8), Op.bytesLess a a = false
  | [] => rfl
  | x :: a => by
    unfold Op.bytesLess
    simp [UInt8.lt_irrefl x, tb_irrefl a]
theorem tb_trans : ∀ (a b c : List UInt8), Op.bytesLess a b = true → Op.bytesLess b c = true → Op.bytesLess a c = true
  | [], b, [], _, h2 => by cases b <;> simp [Op.bytesLess] at h2
  | [], _, _ :: _, _, _ => rfl
  | _ :: _, [], _, h1, _ => by simp [Op.bytesLess] at h1
  | _ :: _, _ :: _, [], _, h2 => by simp [Op.bytesLess] at h2
  | x :: a, y :: b, z :: c, h1, h2 => by
    unfold Op.bytesLess at h1 h2 ⊢
    simp only [Bool.or_eq_true, Bool.and_eq_true, decide_eq_true_eq, beq_iff_eq] at h1 h2 ⊢
    rcases h1 with h1 | ⟨h1, h1'⟩
    · rcases h2 with h2 | ⟨h2, _⟩
      · exact .inl (UInt8.lt_trans h1 h2)
      · subst h2; exact .inl h1
    · subst h1
      rcases h2 with h2 | ⟨h2, h2'⟩
      · exact .inl h2
      · exact .inr ⟨h2, tb_trans a b c h1' h2'⟩
theorem tb_tri : ∀ (a b : List UInt8), Op.bytesLess a b = false → Op.bytesLess b a = false → a = b
  | [], [], _, _ => rfl
  | [], _ :: _, h1, _ => by simp [Op.bytesLess] at h1
  | _ :: _, [], _, h2 => by simp [Op.bytesLess] at h2
  | x :: a, y :: b, h1, h2 => by
    unfold Op.bytesLess at h1 h2
    simp only [Bool.or_eq_false_iff, Bool.and_eq_false_iff, decide_eq_false_iff_not, beq_eq_false_iff_ne, ne_eq] at h1 h2
    have hxy : x = y := UInt8.le_antisymm (UInt8.not_lt.1 h2.1) (UInt8.not_lt.1 h1.1)
    subst hxy
    rw [tb_tri a b (by simpa using h1.2) (by simpa using h2.2)]
theorem tb_nil (a : List UInt8) : Op.bytesLess a [] = false := by cases a <;> rfl
/-- One text stands ahead of another one. -/
def ltB (a b : ByteArray) : Bool := Op.bytesLess a.toList b.toList
theorem ltB_irrefl (a : ByteArray) : ltB a a = false := tb_irrefl _
theorem ltB_trans {a b c : ByteArray} (h1 : ltB a b = true) (h2 : ltB b c = true) : ltB a c = true := tb_trans _ _ _ h1 h2
theorem ltB_tri {a b : ByteArray} (h1 : ltB a b = false) (h2 : ltB b a = false) : a = b := by
  apply ba_ext.1
  rw [← ByteArray.toList_eq, ← ByteArray.toList_eq]
  exact tb_tri _ _ h1 h2
theorem ltB_empty (a : ByteArray) : ltB a ByteArray.empty = false := by
  unfold ltB
  rw [ByteArray.toList_eq ByteArray.empty]
  exact tb_nil _
theorem ltB_asymm {a b : ByteArray} (h : ltB a b = true) : ltB b a = false := by
  rw [Bool.eq_false_iff]
  intro h2
  have := ltB_trans h h2
  rw [ltB_irrefl] at this
  cases this
/-- Not below, and below: so it goes on. -/
theorem ltB_le_lt {a b c : ByteArray} (h1 : ltB b a = false) (h2 : ltB b c = true) : ltB a c = true := by
  cases h : ltB a b with
  | true => exact ltB_trans h h2
  | false => rw [ltB_tri h h1]; exact h2
theorem ltB_lt_le {a b c : ByteArray} (h1 : ltB a b = true) (h2 : ltB c b = false) : ltB a c = true := by
  cases h : ltB b c with
  | true => exact ltB_trans h1 h
  | false => rw [← ltB_tri h h2]; exact h1
theorem lessE_def (a b : EntV) : lessE a b = true ↔ (ltB a.key b.key = true ∨ (a.key = b.key ∧ b.seq < a.seq)) := by
  unfold lessE ltB
  rw [eq_str]
  simp
theorem lessE_irrefl (a : EntV) : lessE a a = false := by
  rw [Bool.eq_false_iff]
  intro h
  rcases (lessE_def a a).1 h with h | h
  · rw [ltB_irrefl] at h; cases h
  · omega
theorem lessE_trans {a b c : EntV} (h1 : lessE a b = true) (h2 : lessE b c = true) : lessE a c = true := by
  rw [lessE_def] at *
  rcases h1 with h1 | ⟨h1, h1'⟩
  · rcases h2 with h2 | ⟨h2, _⟩
    · exact .inl (ltB_trans h1 h2)
    · rw [← h2]; exact .inl h1
  · rcases h2 with h2 | ⟨h2, h2'⟩
    · rw [h1]; exact .inl h2
    · exact .inr ⟨h1.trans h2, by omega⟩
theorem lessE_key {a b : EntV} (h : lessE a b = true) : ltB b.key a.key = false := by
  rcases (lessE_def a b).1 h with h | ⟨h, _⟩
  · exact ltB_asymm h
  · rw [h, ltB_irrefl]
abbrev RiseE (l : List EntV) : Prop := l.Pairwise fun a b => lessE a b = true
theorem checkF_some : ∀ (l : List EntV) (y : EntV), checkF (some y) l = 0 ↔ (∀ x ∈ l, OkE x) ∧ (∀ x ∈ l, lessE y x = true) ∧ RiseE l
  | [], y => by simp [checkF]
  | x :: l, y => by
    have ih := checkF_some l x
    unfold checkF
    constructor
    · intro h
      split at h
      · rename_i h1; exact absurd h h1
      · rename_i h1
        have hx := oneE_ok.1 (Classical.not_not.1 h1)
        split at h
        · rename_i h2
          obtain ⟨i1, i2, i3⟩ := ih.1 h
          refine ⟨?_, ?_, List.pairwise_cons.2 ⟨i2, i3⟩⟩
          · intro z hz
            rcases List.mem_cons.1 hz with rfl | hz
            · exact hx
            · exact i1 z hz
          · intro z hz
            rcases List.mem_cons.1 hz with rfl | hz
            · exact h2
            · exact lessE_trans h2 (i2 z hz)
        · cases h
    · rintro ⟨h1, h2, h3⟩
      obtain ⟨h4, h5⟩ := List.pairwise_cons.1 h3
      rw [if_neg (by simp [oneE_ok.2 (h1 x (by simp))]), if_pos (h2 x (by simp))]
      exact ih.2 ⟨fun z hz => h1 z (by simp [hz]), h4, h5⟩
theorem checkF_none (l : List EntV) : checkF none l = 0 ↔ (∀ x ∈ l, OkE x) ∧ RiseE l := by
  cases l with
  | nil => simp [checkF]
  | cons x l =>
    have ih := checkF_some l x
    unfold checkF
    constructor
    · intro h
      split at h
      · rename_i h1; exact absurd h h1
      · rename_i h1
        have hx := oneE_ok.1 (Classical.not_not.1 h1)
        obtain ⟨i1, i2, i3⟩ := ih.1 h
        refine ⟨fun z hz => ?_, List.pairwise_cons.2 ⟨i2, i3⟩⟩
        rcases List.mem_cons.1 hz with rfl | hz
        · exact hx
        · exact i1 z hz
    · rintro ⟨h1, h3⟩
      obtain ⟨h4, h5⟩ := List.pairwise_cons.1 h3
      rw [if_neg (by simp [oneE_ok.2 (h1 x (by simp))])]
      exact ih.2 ⟨fun z hz => h1 z (by simp [hz]), h4, h5⟩
theorem checkE_rise (l : List EntV) : checkE l = 0 ↔ l.length ≤ 4096 ∧ (∀ x ∈ l, OkE x) ∧ RiseE l := by
  unfold checkE
  split
  · constructor
    · intro h; cases h
    · intro h; omega
  · rw [checkF_none]
    constructor
    · intro h; exact ⟨by omega, h⟩
    · intro h; exact h.2
theorem checkE_sub {l m : List EntV} (hs : m.Sublist l) (h : checkE l = 0) : checkE m = 0 := by
  obtain ⟨h1, h2, h3⟩ := (checkE_rise l).1 h
  exact (checkE_rise m).2 ⟨Nat.le_trans hs.length_le h1, fun x hx => h2 x (hs.subset hx), h3.sublist hs⟩
theorem checkE_take {l : List EntV} (n : Nat) (h : checkE l = 0) : checkE (l.take n) = 0 := checkE_sub (List.take_sublist n l) h
theorem checkE_drop {l : List EntV} (n : Nat) (h : checkE l = 0) : checkE (l.drop n) = 0 := checkE_sub (List.drop_sublist n l) h
/-! ### How long pages are -/
theorem smallN_mono : ∀ (n m : Nat), m ≤ n → (smallN m).length ≤ (smallN n).length := by
  intro n
  induction n using Nat.strongRecOn with
  | _ n ih =>
    intro m hm
    by_cases h : m < 128
    · rw [smallN_lo h]; exact smallN_pos n
    · rw [smallN_hi h, smallN_hi (show ¬ n < 128 by omega)]
      have := ih (n / 128) (by omega) (m / 128) (by omega)
      simp only [List.length_cons]; omega
theorem entsN_take (l : List EntV) (k : Nat) : (entsN [] (l.take k)).length ≤ (entsN [] l).length := by
  have : entsN [] l = entsN [] (l.take k) ++ entsN (lastK [] (l.take k)) (l.drop k) := by rw [← entsN_app, List.take_append_drop]
  rw [this, List.length_append]; omega
theorem page_mono (l : List EntV) {m n : Nat} (h : m ≤ n) : (pageN (l.take m)).length ≤ (pageN (l.take n)).length := by
  rw [page_len, page_len]
  unfold bodyN
  have h1 := smallN_mono (l.take n).length (l.take m).length (by simp only [List.length_take]; omega)
  have h2 := entsN_take (l.take n) m
  rw [List.take_take, Nat.min_eq_left h] at h2
  simp only [List.length_append]; omega
theorem page_step {l : List EntV} (hc : checkE l = 0) (n : Nat) (h : (pageN (l.take n)).length < 512 ∨ n = 0) : (pageN (l.take (n + 1))).length ≤ 6000 := by
  rcases Nat.lt_or_ge n l.length with hn | hn
  · obtain ⟨_, h2, _⟩ := (checkE_rise l).1 hc
    have hy : l.getD n zeroE ∈ l := by rw [List.getD_eq_getElem?_getD, List.getElem?_eq_getElem hn]; exact List.getElem_mem _
    have e := take_snoc hn rfl
    rw [page_len, e]
    unfold bodyN
    rw [entsN_app]
    have h3 := entN_len (lastK [] (l.take n)) (h2 _ hy)
    have hlen : (l.take n ++ [l.getD n zeroE]).length < 34359738368 := by
      have := ((checkE_rise l).1 hc).1
      simp only [List.length_append, List.length_take, List.length_cons, List.length_nil]; omega
    have h4 := smallN_five _ hlen
    have h5 : (entsN [] (l.take n)).length < 512 := by
      rcases h with h | h
      · rw [page_len] at h; unfold bodyN at h; simp only [List.length_append] at h; omega
      · subst h; simp [entsN]
    have h6 : entsN (lastK [] (l.take n)) [l.getD n zeroE] = entN (lastK [] (l.take n)) (l.getD n zeroE) := by simp [entsN]
    rw [h6]
    simp only [List.length_append] at h4 ⊢
    omega
  · rcases h with h | h
    · rw [List.take_of_length_le (by omega)]
      rw [List.take_of_length_le hn] at h
      omega
    · subst h
      obtain rfl : l = [] := List.eq_nil_of_length_eq_zero (by omega)
      rw [page_len]
      decide +kernel
theorem makeE_page {l : List EntV} (hc : checkE l = 0) (h : (pageN l).length ≤ 65536) : makeE l = (pageN l, 0) := makeE_all hc (by rw [page_len] at h; omega)
end Go.Proofs.Ytbnacopefclklaa
namespace Go.Proofs.Ytbnacopefclklaa
open Go.RowKit Go.WideShapes

/-- The first entry of a key that is not above a number. -/
def newL : List EntV → ByteArray → Int → EntV × Bool
  | [], _, _ => (zeroE, false)
  | x :: l, k, s => if x.key = k ∧ x.seq ≤ s then (x, true) else newL l k s
theorem newL_at {l : List EntV} {i : Nat} (h : i < l.length) {y : EntV} (hy : l.getD i zeroE = y) (k : ByteArray) (s : Int) : newL (l.drop i) k s = if y.key = k ∧ y.seq ≤ s then (y, true) else newL (l.drop (i + 1)) k s := by
  have e : l.drop i = y :: l.drop (i + 1) := by
    rw [← hy, List.getD_eq_getElem?_getD, List.getElem?_eq_getElem h]; exact List.drop_eq_getElem_cons h
  rw [e]
  rfl
theorem lessE_tri {a b : EntV} (h1 : lessE a b = false) (h2 : lessE b a = false) : a.key = b.key ∧ a.seq = b.seq := by
  have n1 : (ltB a.key b.key = true ∨ (a.key = b.key ∧ b.seq < a.seq)) → False := fun h => by have := (lessE_def a b).2 h; rw [h1] at this; cases this
  have n2 : (ltB b.key a.key = true ∨ (b.key = a.key ∧ a.seq < b.seq)) → False := fun h => by have := (lessE_def b a).2 h; rw [h2] at this; cases this
  have hk : a.key = b.key := by
    refine ltB_tri ?_ ?_
    · cases h : ltB a.key b.key with
      | false => rfl
      | true => exact (n1 (.inl h)).elim
    · cases h : ltB b.key a.key with
      | false => rfl
      | true => exact (n2 (.inl h)).elim
  refine ⟨hk, ?_⟩
  rcases Int.lt_trichotomy a.seq b.seq with h | h | h
  · exact (n2 (.inr ⟨hk.symm, h⟩)).elim
  · exact h
  · exact (n1 (.inr ⟨hk, h⟩)).elim
theorem lessE_same {a b : EntV} (h : a.key = b.key ∧ a.seq = b.seq) : lessE a b = false := by
  rw [Bool.eq_false_iff]
  intro hl
  rcases (lessE_def a b).1 hl with h1 | h1
  · rw [h.1, ltB_irrefl] at h1; cases h1
  · omega
theorem lessE_asymm {a b : EntV} (h : lessE a b = true) : lessE b a = false := by
  rw [Bool.eq_false_iff]
  intro h2
  have := lessE_trans h h2
  rw [lessE_irrefl] at this
  cases this
/-- In entries that rise a key and a number name one entry. -/
theorem rise_one {l : List EntV} (hr : RiseE l) {a b : EntV} (ha : a ∈ l) (hb : b ∈ l) (h : a.key = b.key ∧ a.seq = b.seq) : a = b := by
  obtain ⟨i, hi, rfl⟩ := List.getElem_of_mem ha
  obtain ⟨j, hj, rfl⟩ := List.getElem_of_mem hb
  rcases Nat.lt_trichotomy i j with c | c | c
  · have := List.pairwise_iff_getElem.1 hr i j hi hj c
    rw [lessE_same h] at this; cases this
  · subst c; rfl
  · have := List.pairwise_iff_getElem.1 hr j i hj hi c
    rw [lessE_same ⟨h.1.symm, h.2.symm⟩] at this; cases this
theorem riseE_ext : ∀ {l m : List EntV}, RiseE l → RiseE m → (∀ x, x ∈ l ↔ x ∈ m) → l = m
  | [], [], _, _, _ => rfl
  | [], y :: m, _, _, h => absurd ((h y).2 (by simp)) (by simp)
  | x :: l, [], _, _, h => absurd ((h x).1 (by simp)) (by simp)
  | x :: l, y :: m, hl, hm, h => by
    obtain ⟨l1, l2⟩ := List.pairwise_cons.1 hl
    obtain ⟨m1, m2⟩ := List.pairwise_cons.1 hm
    have hxy : x = y := by
      rcases List.mem_cons.1 ((h x).1 (by simp)) with e | hx
      · exact e
      · rcases List.mem_cons.1 ((h y).2 (by simp)) with e | hy
        · exact e.symm
        · have a := m1 x hx
          have b := l1 y hy
          rw [lessE_asymm a] at b; cases b
    subst hxy
    rw [riseE_ext l2 m2 (fun z => ?_)]
    constructor
    · intro hz
      rcases List.mem_cons.1 ((h z).1 (by simp [hz])) with e | hz'
      · subst e; have := l1 z hz; rw [lessE_irrefl] at this; cases this
      · exact hz'
    · intro hz
      rcases List.mem_cons.1 ((h z).2 (by simp [hz])) with e | hz'
      · subst e; have := m1 z hz; rw [lessE_irrefl] at this; cases this
      · exact hz'
/-- What newL tells of entries that rise. -/
theorem newL_yes : ∀ {l : List EntV} {k : ByteArray} {s : Int} {y : EntV}, RiseE l → newL l k s = (y, true) → y ∈ l ∧ y.key = k ∧ y.seq ≤ s ∧ ∀ z ∈ l, z.key = k → z.seq ≤ s → z.seq ≤ y.seq
  | [], _, _, _, _, h => by simp [newL] at h
  | x :: l, k, s, y, hr, h => by
    obtain ⟨h1, h2⟩ := List.pairwise_cons.1 hr
    simp only [newL] at h
    split at h
    · rename_i hx
      simp only [Prod.mk.injEq, and_true] at h
      subst h
      refine ⟨by simp, hx.1, hx.2, fun z hz hk hs => ?_⟩
      rcases List.mem_cons.1 hz with rfl | hz
      · exact Int.le_refl _
      · rcases (lessE_def x z).1 (h1 z hz) with hl | hl
        · rw [hx.1, hk, ltB_irrefl] at hl; cases hl
        · omega
    · rename_i hx
      obtain ⟨a, b, c, d⟩ := newL_yes h2 h
      refine ⟨by simp [a], b, c, fun z hz hk hs => ?_⟩
      rcases List.mem_cons.1 hz with rfl | hz
      · exact absurd ⟨hk, hs⟩ hx
      · exact d z hz hk hs
theorem newL_no : ∀ {l : List EntV} {k : ByteArray} {s : Int} {y : EntV}, newL l k s = (y, false) → y = zeroE ∧ ∀ z ∈ l, ¬ (z.key = k ∧ z.seq ≤ s)
  | [], _, _, _, h => by simp only [newL, Prod.mk.injEq, and_true] at h; exact ⟨h.symm, by simp⟩
  | x :: l, k, s, y, h => by
    simp only [newL] at h
    split at h
    · simp at h
    · rename_i hx
      obtain ⟨a, b⟩ := newL_no h
      refine ⟨a, fun z hz => ?_⟩
      rcases List.mem_cons.1 hz with rfl | hz
      · exact hx
      · exact b z hz
theorem newL_is {l : List EntV} (hr : RiseE l) {k : ByteArray} {s : Int} {y : EntV} (hy : y ∈ l) (hk : y.key = k) (hs : y.seq ≤ s) (hm : ∀ z ∈ l, z.key = k → z.seq ≤ s → z.seq ≤ y.seq) : newL l k s = (y, true) := by
  obtain ⟨z, b, h⟩ : ∃ z b, newL l k s = (z, b) := ⟨_, _, rfl⟩
  cases b with
  | false => exact absurd ⟨hk, hs⟩ ((newL_no h).2 y hy)
  | true =>
    obtain ⟨h1, h2, h3, h4⟩ := newL_yes hr h
    have e := hm z h1 h2 h3
    have e' := h4 y hy hk hs
    rw [h, rise_one hr h1 hy ⟨by rw [h2, hk], by omega⟩]
theorem newL_none {l : List EntV} {k : ByteArray} {s : Int} (h : ∀ z ∈ l, ¬ (z.key = k ∧ z.seq ≤ s)) : newL l k s = (zeroE, false) := by
  induction l with
  | nil => rfl
  | cons x l ih =>
    simp only [newL]
    rw [if_neg (h x (by simp))]
    exact ih (fun z hz => h z (by simp [hz]))
end Go.Proofs.Ytbnacopefclklaa
namespace Go.Proofs.Ytbnacopefclklaa
open Go.RowKit Go.WideShapes

/-- The first place whose entry does not stand ahead. -/
def placeE : List EntV → EntV → Nat
  | [], _ => 0
  | y :: l, x => if lessE y x = true then placeE l x + 1 else 0
theorem placeE_le : ∀ (l : List EntV) (x : EntV), placeE l x ≤ l.length
  | [], _ => Nat.le_refl _
  | y :: l, x => by
    have ih := placeE_le l x
    simp only [placeE, List.length_cons]
    split <;> omega
theorem place_ahead : ∀ (l : List EntV) (x : EntV), ∀ y ∈ l.take (placeE l x), lessE y x = true
  | [], _, y, h => by simp [placeE] at h
  | z :: l, x, y, h => by
    simp only [placeE] at h
    split at h
    · rename_i hz
      rw [List.take_succ_cons] at h
      rcases List.mem_cons.1 h with rfl | h
      · exact hz
      · exact place_ahead l x y h
    · simp at h
theorem place_at : ∀ (l : List EntV) (x : EntV), placeE l x < l.length → lessE (l.getD (placeE l x) zeroE) x = false
  | [], _, h => by simp at h
  | z :: l, x, h => by
    simp only [placeE] at h ⊢
    split at h
    · rename_i hz
      rw [if_pos hz]
      have := place_at l x (by simpa using h)
      simpa [List.getD] using this
    · rename_i hz
      rw [if_neg hz]
      simpa [List.getD] using hz
theorem place_next {l : List EntV} {k : Nat} {x : EntV} (h : ∀ y ∈ l.take k, lessE y x = true) (hk : k ≤ l.length) (hs : k = l.length ∨ lessE (l.getD k zeroE) x = false) : placeE l x = k := by
  induction l generalizing k with
  | nil => simp at hk; subst hk; rfl
  | cons z l ih =>
    cases k with
    | zero =>
      rcases hs with hs | hs
      · simp at hs
      · simp only [placeE]
        rw [if_neg (by rw [show (z :: l).getD 0 zeroE = z from rfl] at hs; rw [hs]; simp)]
    | succ k =>
      simp only [placeE]
      rw [if_pos (h z (by simp))]
      rw [ih (k := k) (fun y hy => h y (by rw [List.take_succ_cons]; exact List.mem_cons_of_mem _ hy)) (by simpa using hk) (by
        rcases hs with hs | hs
        · exact .inl (by simpa using hs)
        · exact .inr (by simpa [List.getD] using hs))]
def insE (l : List EntV) (x : EntV) : List EntV := l.take (placeE l x) ++ x :: l.drop (placeE l x)
theorem insE_len (l : List EntV) (x : EntV) : (insE l x).length = l.length + 1 := by
  unfold insE
  have := placeE_le l x
  simp only [List.length_append, List.length_cons, List.length_take, List.length_drop]
  omega
theorem mem_insE {l : List EntV} {x y : EntV} : y ∈ insE l x ↔ y = x ∨ y ∈ l := by
  unfold insE
  rw [List.mem_append, List.mem_cons]
  constructor
  · rintro (h | h | h)
    · exact .inr (List.mem_of_mem_take h)
    · exact .inl h
    · exact .inr (List.mem_of_mem_drop h)
  · rintro (h | h)
    · exact .inr (.inl h)
    · rw [← List.take_append_drop (placeE l x) l] at h
      rcases List.mem_append.1 h with h | h
      · exact .inl h
      · exact .inr (.inr h)
/-- An entry of the same key and number stands at the place, or nowhere. -/
theorem place_same {l : List EntV} (hr : RiseE l) (x : EntV) : (placeE l x < l.length ∧ lessE x (l.getD (placeE l x) zeroE) = false) ↔ ∃ y ∈ l, y.key = x.key ∧ y.seq = x.seq := by
  constructor
  · rintro ⟨h1, h2⟩
    have h3 := place_at l x h1
    have hm : l.getD (placeE l x) zeroE ∈ l := by rw [List.getD_eq_getElem?_getD, List.getElem?_eq_getElem h1]; exact List.getElem_mem _
    exact ⟨_, hm, lessE_tri h3 h2⟩
  · rintro ⟨y, hy, he⟩
    obtain ⟨i, hi, rfl⟩ := List.getElem_of_mem hy
    have hp : placeE l x = i := by
      refine place_next (fun z hz => ?_) (by omega) (.inr ?_)
      · obtain ⟨j, hj, rfl⟩ := List.getElem_of_mem hz
        rw [List.length_take] at hj
        rw [List.getElem_take]
        have h1 := List.pairwise_iff_getElem.1 hr j i (by omega) hi (by omega)
        rcases (lessE_def _ _).1 h1 with h2 | h2
        · exact (lessE_def _ _).2 (.inl (by rw [← he.1]; exact h2))
        · exact (lessE_def _ _).2 (.inr ⟨by rw [h2.1, he.1], by omega⟩)
      · rw [List.getD_eq_getElem?_getD, List.getElem?_eq_getElem hi]
        exact lessE_same he
    rw [hp]
    refine ⟨hi, ?_⟩
    rw [List.getD_eq_getElem?_getD, List.getElem?_eq_getElem hi]
    exact lessE_same ⟨he.1.symm, he.2.symm⟩
theorem insE_rise {l : List EntV} (hr : RiseE l) {x : EntV} (hn : ∀ y ∈ l, ¬ (y.key = x.key ∧ y.seq = x.seq)) : RiseE (insE l x) := by
  have hle := placeE_le l x
  have hdrop : ∀ y ∈ l.drop (placeE l x), lessE x y = true := by
    intro y hy
    obtain ⟨j, hj, rfl⟩ := List.getElem_of_mem hy
    rw [List.length_drop] at hj
    rw [List.getElem_drop]
    have hp : placeE l x < l.length := by omega
    have h1 := place_at l x hp
    rw [List.getD_eq_getElem?_getD, List.getElem?_eq_getElem hp] at h1
    simp only [Option.getD_some] at h1
    have h2 : lessE x l[placeE l x] = true := by
      cases h : lessE x l[placeE l x] with
      | true => rfl
      | false => exact absurd (lessE_tri h1 h) (hn _ (List.getElem_mem _))
    rcases Nat.eq_zero_or_pos j with h0 | h0
    · subst h0; exact h2
    · exact lessE_trans h2 (List.pairwise_iff_getElem.1 hr (placeE l x) (placeE l x + j) hp (by omega) (by omega))
  unfold insE
  refine List.pairwise_append.2 ⟨hr.sublist (List.take_sublist _ _), List.pairwise_cons.2 ⟨hdrop, hr.sublist (List.drop_sublist _ _)⟩, ?_⟩
  intro a ha b hb
  have h1 := place_ahead l x a ha
  rcases List.mem_cons.1 hb with rfl | hb
  · exact h1
  · exact lessE_trans h1 (hdrop b hb)
/-- One more entry put among others, or what is wrong. -/
def putE (l : List EntV) (x : EntV) : List EntV × Nat :=
  if checkE l ≠ 0 then ([], checkE l) else if oneE x ≠ 0 then ([], oneE x) else
  if placeE l x < l.length ∧ lessE x (l.getD (placeE l x) zeroE) = false then ([], 100) else if 4096 ≤ l.length then ([], 4) else (insE l x, 0)
theorem putE_bad {l : List EntV} {x : EntV} (h : checkE l ≠ 0) : putE l x = ([], checkE l) := by unfold putE; rw [if_pos h]
theorem putE_one {l : List EntV} {x : EntV} (h : checkE l = 0) (h2 : oneE x ≠ 0) : putE l x = ([], oneE x) := by unfold putE; rw [if_neg (by simp [h]), if_pos h2]
theorem putE_there {l : List EntV} {x : EntV} (h : checkE l = 0) (h2 : oneE x = 0) (h3 : ∃ y ∈ l, y.key = x.key ∧ y.seq = x.seq) : putE l x = ([], 100) := by
  unfold putE
  rw [if_neg (by simp [h]), if_neg (by simp [h2]), if_pos ((place_same ((checkE_rise l).1 h).2.2 x).2 h3)]
theorem putE_many {l : List EntV} {x : EntV} (h : checkE l = 0) (h2 : oneE x = 0) (h3 : ¬ ∃ y ∈ l, y.key = x.key ∧ y.seq = x.seq) (h4 : 4096 ≤ l.length) : putE l x = ([], 4) := by
  unfold putE
  rw [if_neg (by simp [h]), if_neg (by simp [h2]), if_neg (fun hh => h3 ((place_same ((checkE_rise l).1 h).2.2 x).1 hh)), if_pos h4]
theorem putE_is {l : List EntV} {x : EntV} (h : checkE l = 0) (h2 : oneE x = 0) (h3 : ¬ ∃ y ∈ l, y.key = x.key ∧ y.seq = x.seq) (h4 : l.length < 4096) : putE l x = (insE l x, 0) := by
  unfold putE
  rw [if_neg (by simp [h]), if_neg (by simp [h2]), if_neg (fun hh => h3 ((place_same ((checkE_rise l).1 h).2.2 x).1 hh)), if_neg (by omega)]
theorem putE_ok {l m : List EntV} {x : EntV} (h : putE l x = (m, 0)) : checkE l = 0 ∧ OkE x ∧ (¬ ∃ y ∈ l, y.key = x.key ∧ y.seq = x.seq) ∧ l.length < 4096 ∧ m = insE l x ∧ checkE m = 0 := by
  have h1 : checkE l = 0 := by
    by_cases hc : checkE l = 0
    · exact hc
    · rw [putE_bad hc] at h; exact (Prod.mk.inj h).2
  have h2 : oneE x = 0 := by
    by_cases hc : oneE x = 0
    · exact hc
    · rw [putE_one h1 hc] at h; exact (Prod.mk.inj h).2
  have h3 : ¬ ∃ y ∈ l, y.key = x.key ∧ y.seq = x.seq := by
    intro hc
    rw [putE_there h1 h2 hc] at h
    have := (Prod.mk.inj h).2
    omega
  have h4 : l.length < 4096 := by
    rcases Nat.lt_or_ge l.length 4096 with hc | hc
    · exact hc
    · rw [putE_many h1 h2 h3 hc] at h
      have := (Prod.mk.inj h).2
      omega
  rw [putE_is h1 h2 h3 h4] at h
  have hm := (Prod.mk.inj h).1
  refine ⟨h1, oneE_ok.1 h2, h3, h4, hm.symm, ?_⟩
  obtain ⟨c1, c2, c3⟩ := (checkE_rise l).1 h1
  rw [← hm]
  refine (checkE_rise _).2 ⟨by rw [insE_len]; omega, fun y hy => ?_, insE_rise c3 (fun y hy he => h3 ⟨y, hy, he⟩)⟩
  rcases mem_insE.1 hy with rfl | hy
  · exact oneE_ok.1 h2
  · exact c2 y hy
/-- A row behind entries that are put one behind the other. -/
def rowE : List EntV → List EntV → List EntV
  | a, [] => a
  | a, x :: l => rowE (if (putE a x).2 = 0 then (putE a x).1 else a) l
theorem rowE_app (a l m : List EntV) : rowE a (l ++ m) = rowE (rowE a l) m := by
  induction l generalizing a with
  | nil => rfl
  | cons x l ih => exact ih _
def stepE (a : List EntV) (x : EntV) : List EntV := if (putE a x).2 = 0 then (putE a x).1 else a
theorem stepE_ok {a : List EntV} {x : EntV} (h : (putE a x).2 = 0) : stepE a x = insE a x ∧ OkE x ∧ (¬ ∃ y ∈ a, y.key = x.key ∧ y.seq = x.seq) ∧ checkE (stepE a x) = 0 := by
  obtain ⟨h1, h2, h3, h4, h5, h6⟩ := putE_ok (l := a) (x := x) (m := (putE a x).1) (by rw [← h])
  refine ⟨?_, h2, h3, ?_⟩
  · unfold stepE; rw [if_pos h, h5]
  · unfold stepE; rw [if_pos h]; exact h6
theorem stepE_no {a : List EntV} {x : EntV} (h : (putE a x).2 ≠ 0) : stepE a x = a := by unfold stepE; rw [if_neg h]
theorem rowE_cons (a : List EntV) (x : EntV) (l : List EntV) : rowE a (x :: l) = rowE (stepE a x) l := rfl
theorem rowE_snoc (a l : List EntV) (x : EntV) : rowE a (l ++ [x]) = stepE (rowE a l) x := by rw [rowE_app]; rfl
theorem stepE_check {a : List EntV} (h : checkE a = 0) (x : EntV) : checkE (stepE a x) = 0 := by
  by_cases h0 : (putE a x).2 = 0
  · exact (stepE_ok h0).2.2.2
  · rw [stepE_no h0]; exact h
theorem rowE_check {a : List EntV} (h : checkE a = 0) (l : List EntV) : checkE (rowE a l) = 0 := by
  induction l generalizing a with
  | nil => exact h
  | cons x l ih => exact ih (stepE_check h x)
theorem stepE_len (a : List EntV) (x : EntV) : (stepE a x).length ≤ a.length + 1 := by
  by_cases h0 : (putE a x).2 = 0
  · rw [(stepE_ok h0).1, insE_len]; exact Nat.le_refl _
  · rw [stepE_no h0]; omega
theorem rowE_len (a l : List EntV) : (rowE a l).length ≤ a.length + l.length := by
  induction l generalizing a with
  | nil => exact Nat.le_refl _
  | cons x l ih =>
    have h1 := ih (stepE a x)
    have h2 := stepE_len a x
    rw [rowE_cons, List.length_cons]; omega
end Go.Proofs.Ytbnacopefclklaa
namespace Go.Proofs.Ytbnacopefclklaa
open Go.RowKit Go.WideShapes

theorem stepE_mem {a : List EntV} {x y : EntV} (h : y ∈ a) : y ∈ stepE a x := by
  by_cases h0 : (putE a x).2 = 0
  · rw [(stepE_ok h0).1]; exact mem_insE.2 (.inr h)
  · rw [stepE_no h0]; exact h
theorem rowE_mem {a : List EntV} {y : EntV} (l : List EntV) (h : y ∈ a) : y ∈ rowE a l := by
  induction l generalizing a with
  | nil => exact h
  | cons x l ih => exact ih (stepE_mem h)
/-- No two entries that may be have one key and number. -/
abbrev ApartE (l : List EntV) : Prop := l.Pairwise fun a b => OkE a → OkE b → ¬ (a.key = b.key ∧ a.seq = b.seq)
theorem rowE_all : ∀ (l a : List EntV), checkE a = 0 → a.length + l.length ≤ 4096 → (∀ x ∈ l, OkE x → ¬ ∃ y ∈ a, y.key = x.key ∧ y.seq = x.seq) → ApartE l → ∀ x, x ∈ rowE a l ↔ x ∈ a ∨ (x ∈ l ∧ OkE x)
  | [], a, _, _, _, _, x => by simp [rowE]
  | z :: l, a, hc, hl, hn, hd, x => by
    obtain ⟨d1, d2⟩ := List.pairwise_cons.1 hd
    rw [List.length_cons] at hl
    rw [rowE_cons]
    by_cases hz : OkE z
    · have hp := putE_is hc (oneE_ok.2 hz) (hn z (by simp) hz) (by omega)
      have h0 : (putE a z).2 = 0 := by rw [hp]
      obtain ⟨e1, _, _, e4⟩ := stepE_ok h0
      have hlen := stepE_len a z
      rw [rowE_all l (stepE a z) e4 (by omega) (fun y hy hoy hh => ?_) d2 x, e1, mem_insE]
      · constructor
        · rintro ((rfl | h) | h)
          · exact .inr ⟨by simp, hz⟩
          · exact .inl h
          · exact .inr ⟨by simp [h.1], h.2⟩
        · rintro (h | ⟨h, h2⟩)
          · exact .inl (.inr h)
          · rcases List.mem_cons.1 h with rfl | h
            · exact .inl (.inl rfl)
            · exact .inr ⟨h, h2⟩
      · obtain ⟨u, hu, he⟩ := hh
        rw [e1] at hu
        rcases mem_insE.1 hu with rfl | hu
        · exact d1 y hy hz hoy he
        · exact hn y (by simp [hy]) hoy ⟨u, hu, he⟩
    · have h0 : (putE a z).2 ≠ 0 := by
        have : oneE z ≠ 0 := fun h => hz (oneE_ok.1 h)
        rw [putE_one hc this]; exact this
      rw [stepE_no h0, rowE_all l a hc (by omega) (fun y hy => hn y (by simp [hy])) d2 x]
      constructor
      · rintro (h | h)
        · exact .inl h
        · exact .inr ⟨by simp [h.1], h.2⟩
      · rintro (h | ⟨h, h2⟩)
        · exact .inl h
        · rcases List.mem_cons.1 h with rfl | h
          · exact absurd h2 hz
          · exact .inr ⟨h, h2⟩
theorem check_nil : checkE [] = 0 := by decide
/-- Where no entry is refused for its order, none is there twice. -/
theorem apart_of {l : List EntV} (hl : l.length ≤ 4096) (h : ∀ k, k < l.length → (putE (rowE [] (l.take k)) (l.getD k zeroE)).2 ≠ 100) : ApartE l := by
  refine List.pairwise_iff_getElem.2 (fun i j hi hj hij oi oj he => ?_)
  have hgi : l.getD i zeroE = l[i] := by rw [List.getD_eq_getElem?_getD, List.getElem?_eq_getElem hi]; rfl
  have hgj : l.getD j zeroE = l[j] := by rw [List.getD_eq_getElem?_getD, List.getElem?_eq_getElem hj]; rfl
  have hci := rowE_check check_nil (l.take i)
  have hcj := rowE_check check_nil (l.take j)
  have hin : l[i] ∈ rowE [] (l.take (i + 1)) := by
    have hn : ¬ ∃ y ∈ rowE [] (l.take i), y.key = l[i].key ∧ y.seq = l[i].seq := by
      intro hh
      have := h i hi
      rw [hgi, putE_there hci (oneE_ok.2 oi) hh] at this
      exact this rfl
    have hlen := rowE_len [] (l.take i)
    rw [List.length_take, List.length_nil] at hlen
    have hp := putE_is hci (oneE_ok.2 oi) hn (by omega)
    rw [List.take_succ_eq_append_getElem hi, rowE_snoc, (stepE_ok (by rw [hp])).1]
    exact mem_insE.2 (.inl rfl)
  have hinj : l[i] ∈ rowE [] (l.take j) := by
    have e : l.take j = l.take (i + 1) ++ (l.take j).drop (i + 1) := by
      have := (List.take_append_drop (i + 1) (l.take j)).symm
      rw [List.take_take, Nat.min_eq_left (by omega)] at this
      exact this
    rw [e, rowE_app]
    exact rowE_mem _ hin
  have := h j hj
  rw [hgj, putE_there hcj (oneE_ok.2 oj) ⟨_, hinj, he⟩] at this
  exact this rfl
/-- The order in which entries are put does not matter. -/
theorem row_anyhow {l : List EntV} (hl : l.length ≤ 4096) (h : ∀ k, k < l.length → (putE (rowE [] (l.take k)) (l.getD k zeroE)).2 ≠ 100) : rowE [] l = rowE [] l.reverse := by
  have hd := apart_of hl h
  have hd' : ApartE l.reverse := by
    refine List.pairwise_reverse.2 (hd.imp ?_)
    intro a b hab oa ob he
    exact hab ob oa ⟨he.1.symm, he.2.symm⟩
  have h1 := rowE_all l [] check_nil (by simpa using hl) (fun x _ _ hh => by obtain ⟨_, hy, _⟩ := hh; simp at hy) hd
  have h2 := rowE_all l.reverse [] check_nil (by simpa using hl) (fun x _ _ hh => by obtain ⟨_, hy, _⟩ := hh; simp at hy) hd'
  refine riseE_ext ((checkE_rise _).1 (rowE_check check_nil l)).2.2 ((checkE_rise _).1 (rowE_check check_nil l.reverse)).2.2 (fun x => ?_)
  rw [h1, h2]
  simp
/-- The best of a key at a number, as it is sought while entries are put. -/
structure BestE (a : List EntV) (key : ByteArray) (s : Int) (best : Int) (found : EntV) : Prop where
  out : (best = -1 ∧ found = zeroE ∧ ∀ z ∈ a, ¬ (z.key = key ∧ z.seq ≤ s)) ∨ (found ∈ a ∧ found.key = key ∧ found.seq = best ∧ best ≤ s ∧ 0 ≤ best ∧ ∀ z ∈ a, z.key = key → z.seq ≤ s → z.seq ≤ best)
theorem best_nil (key : ByteArray) (s : Int) : BestE [] key s (-1) zeroE := ⟨.inl ⟨rfl, rfl, by simp⟩⟩
theorem best_take {a : List EntV} {key : ByteArray} {s best : Int} {found x : EntV} (h : BestE a key s best found) (hx : OkE x) (hk : x.key = key) (hs : x.seq ≤ s) (hb : best < x.seq) : BestE (insE a x) key s x.seq x := by
  refine ⟨.inr ⟨mem_insE.2 (.inl rfl), hk, rfl, hs, hx.seq1, fun z hz hzk hzs => ?_⟩⟩
  rcases mem_insE.1 hz with rfl | hz
  · exact Int.le_refl _
  · rcases h.out with ⟨_, _, h3⟩ | ⟨_, _, _, _, _, h6⟩
    · exact absurd ⟨hzk, hzs⟩ (h3 z hz)
    · have := h6 z hz hzk hzs; omega
theorem best_pass {a : List EntV} {key : ByteArray} {s best : Int} {found x : EntV} (h : BestE a key s best found) (hx : OkE x) (hn : ¬ (x.key = key ∧ x.seq ≤ s ∧ best < x.seq)) : BestE (insE a x) key s best found := by
  rcases h.out with ⟨h1, h2, h3⟩ | ⟨h1, h2, h3, h4, h5, h6⟩
  · refine ⟨.inl ⟨h1, h2, fun z hz hh => ?_⟩⟩
    rcases mem_insE.1 hz with rfl | hz
    · exact hn ⟨hh.1, hh.2, by have := hx.seq1; omega⟩
    · exact h3 z hz hh
  · refine ⟨.inr ⟨mem_insE.2 (.inr h1), h2, h3, h4, h5, fun z hz hzk hzs => ?_⟩⟩
    rcases mem_insE.1 hz with rfl | hz
    · rcases Int.lt_or_le best z.seq with hh | hh
      · exact absurd ⟨hzk, hzs, hh⟩ hn
      · exact hh
    · exact h6 z hz hzk hzs
theorem best_new {a : List EntV} {key : ByteArray} {s best : Int} {found : EntV} (hr : RiseE a) (h : BestE a key s best found) : newL a key s = (found, decide (0 ≤ best)) := by
  rcases h.out with ⟨h1, h2, h3⟩ | ⟨h1, h2, h3, h4, h5, h6⟩
  · rw [newL_none h3, h2, h1]; rfl
  · rw [newL_is hr h1 h2 (by omega) (fun z hz hk hs => by rw [h3]; exact h6 z hz hk hs)]
    simp [h5]
theorem stepE_many {a : List EntV} {x : EntV} (h : (putE a x).2 = 0) : (stepE a x).length = a.length + 1 := by rw [(stepE_ok h).1, insE_len]
/-- What Find tells of a list. -/
def findL (l : List EntV) (key : ByteArray) (seq : Int) : EntV × Bool × Nat :=
  if checkE l ≠ 0 then (zeroE, false, checkE l) else if key.size < 1 ∨ 256 < key.size then (zeroE, false, 60) else if seq < 0 ∨ 2147483647 < seq then (zeroE, false, 2) else ((newL l key seq).1, (newL l key seq).2, 0)
end Go.Proofs.Ytbnacopefclklaa
namespace Go.Proofs.Ytbnacopefclklaa
open Go.RowKit Go.WideShapes

/-! ### Two lists as one -/
def twoE : List EntV → List EntV → List EntV
  | [], b => b
  | a, [] => a
  | x :: a, y :: b => if lessE x y = true then x :: twoE a (y :: b) else y :: twoE (x :: a) b
termination_by a b => a.length + b.length
theorem twoE_nil (b : List EntV) : twoE [] b = b := by unfold twoE; rfl
theorem twoE_nil' (a : List EntV) : twoE a [] = a := by cases a <;> (unfold twoE; rfl)
theorem twoE_cons (x y : EntV) (a b : List EntV) : twoE (x :: a) (y :: b) = if lessE x y = true then x :: twoE a (y :: b) else y :: twoE (x :: a) b := by rw [twoE]
theorem twoE_perm : ∀ (n : Nat) (a b : List EntV), a.length + b.length ≤ n → (twoE a b).Perm (a ++ b)
  | _, [], b, _ => by rw [twoE_nil]; exact List.Perm.refl _
  | _, x :: a, [], _ => by rw [twoE_nil', List.append_nil]
  | 0, x :: a, y :: b, h => by simp at h
  | n + 1, x :: a, y :: b, h => by
    rw [twoE_cons]
    simp only [List.length_cons] at h
    split
    · exact (twoE_perm n a (y :: b) (by simp only [List.length_cons]; omega)).cons x
    · have := (twoE_perm n (x :: a) b (by simp only [List.length_cons]; omega)).cons y
      exact this.trans List.perm_middle.symm
theorem two_perm (a b : List EntV) : (twoE a b).Perm (a ++ b) := twoE_perm _ a b (Nat.le_refl _)
/-- Entries none of which stands ahead of one before it. -/
abbrev WeakE (l : List EntV) : Prop := l.Pairwise fun a b => lessE b a = false
theorem rise_weak {l : List EntV} (h : RiseE l) : WeakE l := h.imp lessE_asymm
theorem weak_trans {a b c : EntV} (h1 : lessE b a = false) (h2 : lessE c b = false) : lessE c a = false := by
  rw [Bool.eq_false_iff]
  intro h
  cases hb : lessE b c with
  | true =>
    have := lessE_trans hb h
    rw [h1] at this; cases this
  | false =>
    obtain ⟨k1, k2⟩ := lessE_tri hb h2
    have h3 : lessE b a = true := by
      rcases (lessE_def c a).1 h with h4 | h4
      · exact (lessE_def b a).2 (.inl (by rw [k1]; exact h4))
      · exact (lessE_def b a).2 (.inr ⟨by rw [k1]; exact h4.1, by omega⟩)
    rw [h1] at h3; cases h3
theorem twoE_weak : ∀ (n : Nat) (a b : List EntV), a.length + b.length ≤ n → WeakE a → WeakE b → WeakE (twoE a b)
  | _, [], b, _, _, hb => by rw [twoE_nil]; exact hb
  | _, x :: a, [], _, ha, _ => by rw [twoE_nil']; exact ha
  | 0, x :: a, y :: b, h, _, _ => by simp at h
  | n + 1, x :: a, y :: b, h, ha, hb => by
    obtain ⟨a1, a2⟩ := List.pairwise_cons.1 ha
    obtain ⟨b1, b2⟩ := List.pairwise_cons.1 hb
    rw [twoE_cons]
    simp only [List.length_cons] at h
    split
    · rename_i hxy
      refine List.pairwise_cons.2 ⟨fun z hz => ?_, twoE_weak n a (y :: b) (by simp only [List.length_cons]; omega) a2 hb⟩
      rcases List.mem_append.1 ((two_perm a (y :: b)).mem_iff.1 hz) with hz | hz
      · exact a1 z hz
      · rcases List.mem_cons.1 hz with rfl | hz
        · exact lessE_asymm hxy
        · exact weak_trans (lessE_asymm hxy) (b1 z hz)
    · rename_i hxy
      have hyx : lessE x y = false := by simpa using hxy
      refine List.pairwise_cons.2 ⟨fun z hz => ?_, twoE_weak n (x :: a) b (by simp only [List.length_cons]; omega) ha b2⟩
      rcases List.mem_append.1 ((two_perm (x :: a) b).mem_iff.1 hz) with hz | hz
      · rcases List.mem_cons.1 hz with rfl | hz
        · exact hyx
        · exact weak_trans hyx (a1 z hz)
      · exact b1 z hz
theorem two_weak {a b : List EntV} (ha : WeakE a) (hb : WeakE b) : WeakE (twoE a b) := twoE_weak _ a b (Nat.le_refl _) ha hb
/-- No two have one key and number. -/
abbrev SoleE (l : List EntV) : Prop := l.Pairwise fun a b => ¬ (a.key = b.key ∧ a.seq = b.seq)
theorem sole_perm {l m : List EntV} (h : l.Perm m) : SoleE l ↔ SoleE m := h.pairwise_iff (fun hab he => hab ⟨he.1.symm, he.2.symm⟩)
theorem weak_rise {l : List EntV} (h : WeakE l) : RiseE l ↔ SoleE l := by
  constructor
  · intro hr
    exact hr.imp (fun hab he => by rw [lessE_same he] at hab; cases hab)
  · intro hs
    refine (h.and hs).imp ?_
    rintro a b ⟨h1, h2⟩
    cases hab : lessE a b with
    | true => rfl
    | false => exact absurd (lessE_tri hab h1) h2
def allM (ls : List (List EntV)) : List EntV := ls.foldl twoE []
theorem foldl_two (ls : List (List EntV)) : ∀ a, WeakE a → (∀ l ∈ ls, WeakE l) → (ls.foldl twoE a).Perm (a ++ ls.flatten) ∧ WeakE (ls.foldl twoE a) := by
  induction ls with
  | nil => intro a ha _; simp [ha]
  | cons l ls ih =>
    intro a ha h
    obtain ⟨h1, h2⟩ := ih (twoE a l) (two_weak ha (h l (by simp))) (fun m hm => h m (by simp [hm]))
    refine ⟨?_, h2⟩
    rw [List.foldl_cons, List.flatten_cons, ← List.append_assoc]
    exact h1.trans ((two_perm a l).append_right _)
theorem allM_perm {ls : List (List EntV)} (h : ∀ l ∈ ls, WeakE l) : (allM ls).Perm ls.flatten ∧ WeakE (allM ls) := by
  have := foldl_two ls [] List.Pairwise.nil h
  simpa [allM] using this
/-- The rows as one rise just if no two entries of theirs have one key and number. -/
theorem allM_rise {ls : List (List EntV)} (h : ∀ l ∈ ls, WeakE l) : RiseE (allM ls) ↔ SoleE ls.flatten := by
  obtain ⟨h1, h2⟩ := allM_perm h
  rw [weak_rise h2, sole_perm h1]
theorem allM_rev {ls : List (List EntV)} (h : ∀ l ∈ ls, WeakE l) (hr : RiseE (allM ls)) : allM ls.reverse = allM ls := by
  have h' : ∀ l ∈ ls.reverse, WeakE l := fun l hl => h l (List.mem_reverse.1 hl)
  have hp : ls.reverse.flatten.Perm ls.flatten := (List.reverse_perm ls).flatten
  have hr' : RiseE (allM ls.reverse) := (allM_rise h').2 ((sole_perm hp).2 ((allM_rise h).1 hr))
  refine riseE_ext hr' hr (fun x => ?_)
  rw [(allM_perm h').1.mem_iff, (allM_perm h).1.mem_iff, hp.mem_iff]

/-! ### Those that count, and what is left out -/
/-- An entry is the newest of its key at a number. -/
def NewB (l : List EntV) (s : Int) (x : EntV) : Prop := x.seq ≤ s ∧ ∀ z ∈ l, z.key = x.key → z.seq ≤ s → z.seq ≤ x.seq
theorem newB_iff {l : List EntV} (hr : RiseE l) {x : EntV} (hx : x ∈ l) (s : Int) : NewB l s x ↔ newL l x.key s = (x, true) := by
  constructor
  · rintro ⟨h1, h2⟩
    exact newL_is hr hx rfl h1 h2
  · intro h
    obtain ⟨_, _, h3, h4⟩ := newL_yes hr h
    exact ⟨h3, h4⟩
theorem newB_sub {l m : List EntV} (h : ∀ x ∈ m, x ∈ l) {s : Int} {x : EntV} (hx : NewB l s x) : NewB m s x := ⟨hx.1, fun z hz => hx.2 z (h z hz)⟩
/-- Of entries that are not above a number one is the newest. -/
theorem newB_ex {l : List EntV} (hr : RiseE l) {s : Int} {z : EntV} (hz : z ∈ l) (hs : z.seq ≤ s) : ∃ y ∈ l, y.key = z.key ∧ NewB l s y ∧ z.seq ≤ y.seq := by
  obtain ⟨y, b, h⟩ : ∃ y b, newL l z.key s = (y, b) := ⟨_, _, rfl⟩
  cases b with
  | false => exact absurd ⟨rfl, hs⟩ ((newL_no h).2 z hz)
  | true =>
    obtain ⟨h1, h2, h3, h4⟩ := newL_yes hr h
    exact ⟨y, h1, h2, ⟨h3, fun u hu hk hus => h4 u hu (by rw [hk, h2]) hus⟩, h4 z hz rfl hs⟩
open Classical in
noncomputable def countE (l : List EntV) (s : Int) : List EntV := l.filter fun x => decide (x.gone = false ∧ NewB l s x)
open Classical in
noncomputable def thinE (l : List EntV) (s : Int) (last : Bool) : List EntV := l.filter fun x => decide (s < x.seq ∨ (NewB l s x ∧ ¬ (x.gone = true ∧ last = true)))
theorem mem_countE {l : List EntV} {s : Int} {x : EntV} : x ∈ countE l s ↔ x ∈ l ∧ x.gone = false ∧ NewB l s x := by
  unfold countE
  rw [List.mem_filter]
  simp
theorem mem_thinE {l : List EntV} {s : Int} {last : Bool} {x : EntV} : x ∈ thinE l s last ↔ x ∈ l ∧ (s < x.seq ∨ (NewB l s x ∧ ¬ (x.gone = true ∧ last = true))) := by
  unfold thinE
  rw [List.mem_filter]
  simp
theorem countE_rise {l : List EntV} (h : RiseE l) (s : Int) : RiseE (countE l s) := h.sublist List.filter_sublist
theorem thinE_rise {l : List EntV} (h : RiseE l) (s : Int) (last : Bool) : RiseE (thinE l s last) := h.sublist List.filter_sublist
/-- What is left out is not missed, with older entries below. -/
theorem thin_older {l older U V : List EntV} {s at_ : Int} (hl : RiseE l) (hU : RiseE U) (hV : RiseE V) (hat : s ≤ at_)
    (mU : ∀ x, x ∈ U ↔ x ∈ l ∨ x ∈ older) (mV : ∀ x, x ∈ V ↔ x ∈ thinE l s false ∨ x ∈ older) : countE U at_ = countE V at_ := by
  have hVU : ∀ x ∈ V, x ∈ U := by
    intro x hx
    rcases (mV x).1 hx with h | h
    · exact (mU x).2 (.inl (mem_thinE.1 h).1)
    · exact (mU x).2 (.inr h)
  refine riseE_ext (countE_rise hU _) (countE_rise hV _) (fun x => ?_)
  rw [mem_countE, mem_countE]
  constructor
  · rintro ⟨h1, h2, h3⟩
    refine ⟨?_, h2, newB_sub hVU h3⟩
    rcases (mU x).1 h1 with h | h
    · refine (mV x).2 (.inl (mem_thinE.2 ⟨h, ?_⟩))
      rcases Int.lt_or_le s x.seq with hs | hs
      · exact .inl hs
      · exact .inr ⟨⟨hs, fun z hz hk hzs => h3.2 z ((mU z).2 (.inl hz)) hk (by omega)⟩, by simp⟩
    · exact (mV x).2 (.inr h)
  · rintro ⟨h1, h2, h3⟩
    refine ⟨hVU x h1, h2, h3.1, fun z hz hk hzs => ?_⟩
    rcases (mU z).1 hz with h | h
    · rcases Int.lt_or_le s z.seq with hs | hs
      · exact h3.2 z ((mV z).2 (.inl (mem_thinE.2 ⟨h, .inl hs⟩))) hk hzs
      · obtain ⟨y, hy, hyk, hyn, hzy⟩ := newB_ex hl h hs
        have := h3.2 y ((mV y).2 (.inl (mem_thinE.2 ⟨hy, .inr ⟨hyn, by simp⟩⟩))) (by rw [hyk, hk]) (by have := hyn.1; omega)
        omega
    · exact h3.2 z ((mV z).2 (.inr h)) hk hzs
/-- Nor, with nothing below, where what is gone is left out too. -/
theorem thin_last {l : List EntV} {s at_ : Int} (hl : RiseE l) (hat : s ≤ at_) : countE l at_ = countE (thinE l s true) at_ := by
  have hsub : ∀ x ∈ thinE l s true, x ∈ l := fun x hx => (mem_thinE.1 hx).1
  refine riseE_ext (countE_rise hl _) (countE_rise (thinE_rise hl _ _) _) (fun x => ?_)
  rw [mem_countE, mem_countE]
  constructor
  · rintro ⟨h1, h2, h3⟩
    refine ⟨mem_thinE.2 ⟨h1, ?_⟩, h2, newB_sub hsub h3⟩
    rcases Int.lt_or_le s x.seq with hs | hs
    · exact .inl hs
    · exact .inr ⟨⟨hs, fun z hz hk hzs => h3.2 z hz hk (by omega)⟩, by simp [h2]⟩
  · rintro ⟨h1, h2, h3⟩
    obtain ⟨hx, hc⟩ := mem_thinE.1 h1
    refine ⟨hx, h2, h3.1, fun z hz hk hzs => ?_⟩
    rcases Int.lt_or_le s z.seq with hs | hs
    · exact h3.2 z (mem_thinE.2 ⟨hz, .inl hs⟩) hk hzs
    · obtain ⟨y, hy, hyk, hyn, hzy⟩ := newB_ex hl hz hs
      by_cases hg : y.gone = true
      · rcases hc with hc | ⟨hc, _⟩
        · omega
        · have e1 := hc.2 y hy (by rw [hyk, hk]) hyn.1
          have e2 := hyn.2 x hx (by rw [hyk, hk]) hc.1
          have := rise_one hl hx hy ⟨by rw [hyk, hk], by omega⟩
          subst this
          rw [h2] at hg; cases hg
      · have := h3.2 y (mem_thinE.2 ⟨hy, .inr ⟨hyn, fun hh => hg hh.1⟩⟩) (by rw [hyk, hk]) (by have := hyn.1; omega)
        omega
theorem filter_same {l : List EntV} {p : EntV → Bool} (h : ∀ x ∈ l, p x = true) : l.filter p = l := List.filter_eq_self.2 h
theorem thin_twice (l : List EntV) (s : Int) (last : Bool) : thinE (thinE l s last) s last = thinE l s last := by
  obtain ⟨m, hm⟩ : ∃ m, thinE l s last = m := ⟨_, rfl⟩
  rw [hm]
  unfold thinE
  refine filter_same (fun x hx => ?_)
  rw [← hm] at hx
  obtain ⟨_, hc⟩ := mem_thinE.1 hx
  simp only [decide_eq_true_eq]
  rcases hc with hc | ⟨hc, hg⟩
  · exact .inl hc
  · exact .inr ⟨newB_sub (fun y hy => by rw [← hm] at hy; exact (mem_thinE.1 hy).1) hc, hg⟩
/-- Of each key at most one entry is left that is not above the number. -/
theorem thin_one {l : List EntV} (hl : RiseE l) {s : Int} {last : Bool} {x y : EntV} (hx : x ∈ thinE l s last) (hy : y ∈ thinE l s last) (hk : x.key = y.key) (hxs : x.seq ≤ s) (hys : y.seq ≤ s) : x = y := by
  obtain ⟨x1, x2⟩ := mem_thinE.1 hx
  obtain ⟨y1, y2⟩ := mem_thinE.1 hy
  have nx : NewB l s x := by
    rcases x2 with h | h
    · omega
    · exact h.1
  have ny : NewB l s y := by
    rcases y2 with h | h
    · omega
    · exact h.1
  have e1 := nx.2 y y1 hk.symm hys
  have e2 := ny.2 x x1 hk hxs
  exact rise_one hl x1 y1 ⟨hk, by omega⟩
end Go.Proofs.Ytbnacopefclklaa
