import Derived.Test.YtghcmllmbpoidaaGreatDoorJ32
import Derived.Deep.RegionHeld3
namespace Go.Proofs.YtghcmllmbpoidaaGreatDoor.Mg
open Go.RowKit Go.WideShapes
def prevE (l : List EntV) (k : Nat) : Option EntV := if k = 0 then none else some (l.getD (k - 1) zeroE)
theorem dropE {l : List EntV} {k : Nat} (h : k < l.length) : l.drop k = l.getD k zeroE :: l.drop (k + 1) := by
  rw [List.getD_eq_getElem?_getD, List.getElem?_eq_getElem h]; exact List.drop_eq_getElem_cons h
theorem checkF_one {l : List EntV} {k : Nat} (h : k < l.length) {y : EntV} (hy : l.getD k zeroE = y) (h1 : oneE y ≠ 0) : checkF (prevE l k) (l.drop k) = oneE y := by
  rw [dropE h, hy]
  cases hp : prevE l k <;> (unfold checkF; rw [if_pos h1])
theorem checkF_zero {l : List EntV} (h : 0 < l.length) {y : EntV} (hy : l.getD 0 zeroE = y) (h1 : oneE y = 0) : checkF (prevE l 0) (l.drop 0) = checkF (prevE l 1) (l.drop 1) := by
  rw [dropE h, hy]
  have e0 : prevE l 0 = none := rfl
  have e1 : prevE l 1 = some y := by unfold prevE; rw [if_neg (by omega)]; rw [show 1 - 1 = 0 from rfl, hy]
  rw [e0, e1]
  conv => lhs; unfold checkF
  rw [if_neg (by simp [h1])]
theorem checkF_next {l : List EntV} {k : Nat} (h : k + 1 < l.length) {x y : EntV} (hx : l.getD k zeroE = x) (hy : l.getD (k + 1) zeroE = y) (h1 : oneE y = 0) : checkF (prevE l (k + 1)) (l.drop (k + 1)) = if lessE x y = true then checkF (prevE l (k + 2)) (l.drop (k + 2)) else 100 := by
  rw [dropE h, hy]
  have e0 : prevE l (k + 1) = some x := by unfold prevE; rw [if_neg (by omega), show k + 1 - 1 = k from by omega, hx]
  have e1 : prevE l (k + 2) = some y := by unfold prevE; rw [if_neg (by omega), show k + 2 - 1 = k + 1 from by omega, hy]
  rw [e0, e1]
  conv => lhs; unfold checkF
  rw [if_neg (by simp [h1])]
theorem checkF_end (l : List EntV) (k : Nat) (h : l.length ≤ k) : checkF (prevE l k) (l.drop k) = 0 := by
  rw [List.drop_eq_nil_of_le h]
  cases prevE l k <;> rfl
theorem box4c (w : World) (a b c d : Value) (t : TypeId) : (w.alloc (.cells #[a, b, c, d] t)).cell? ⟨w.heap.size, 0, none⟩ = some a ∧ (w.alloc (.cells #[a, b, c, d] t)).cell? ⟨w.heap.size, 1, none⟩ = some b ∧ (w.alloc (.cells #[a, b, c, d] t)).cell? ⟨w.heap.size, 2, none⟩ = some c ∧ (w.alloc (.cells #[a, b, c, d] t)).cell? ⟨w.heap.size, 3, none⟩ = some d := by
  have h := heap_alloc_new w (.cells #[a, b, c, d] t)
  exact ⟨Lib.cell_of_heap h 0, Lib.cell_of_heap h 1, Lib.cell_of_heap h 2, Lib.cell_of_heap h 3⟩
theorem below_dw {a c : World} (h : Below a.drew.heap.size a.drew c) : Below a.heap.size a c := ⟨h.os, h.tape, h.output, h.size, h.block⟩
abbrev C4 (w : World) (g o : Nat) (a b c d : Value) : Prop := w.cell? ⟨g, o, none⟩ = some a ∧ w.cell? ⟨g, o + 1, none⟩ = some b ∧ w.cell? ⟨g, o + 2, none⟩ = some c ∧ w.cell? ⟨g, o + 3, none⟩ = some d
theorem c4_below {w w' : World} {g o : Nat} {a b c d : Value} (h : C4 w g o a b c d) (hb : Below w.heap.size w w') : C4 w' g o a b c d := by
  obtain ⟨a0, a1, a2, a3⟩ := h
  exact ⟨(hb.cell (World.block_lt_of_cell? _ _ a0)).trans a0, (hb.cell (World.block_lt_of_cell? _ _ a1)).trans a1, (hb.cell (World.block_lt_of_cell? _ _ a2)).trans a2, (hb.cell (World.block_lt_of_cell? _ _ a3)).trans a3⟩
set_option maxRecDepth 8000 in
set_option maxHeartbeats 4000000 in
theorem Check_any (q : Option Addr) (n c : Nat) (l : List EntV) (w : World) (h : EntsL w q n l) (C : Nat) (hC : checkE l = C) :
    Calls Tryz.prog 152 #[.slice q n c] w fun e w' => e = .returned (.int .i64 (C : Int)) ∧ Below w.heap.size w w' := by
  unfold checkE at hC
  have HN : Hid (n = l.length) := h.n
  by_cases hl : 4096 < l.length
  · rw [if_pos hl] at hC
    subst hC
    have g1 : (4096 : Int) < (n : Int) := by have := h.n; omega
    clear hl h
    go_enter Tryz.func152, Tryz.ntmps152
    go_wp2
    go_ret
    exact ⟨rfl, Below.refl _ _⟩
  rw [if_neg hl] at hC
  have g1 : (n : Int) ≤ 4096 := by have := h.n; omega
  have HQ : Hid (EntsIn w q l) := h.lies
  have HC : Hid (checkF (prevE l 0) (l.drop 0) = C) := hC
  clear hC h hl
  go_enter Tryz.func152, Tryz.ntmps152
  go_wp2
  go_loopw [11] (fun i wr => ∃ k : Nat, k ≤ n ∧ i = .int .i64 k ∧ checkF (prevE l k) (l.drop k) = C ∧ Below w.heap.size w wr) (fun i _ => n - (intOf i).toNat)
  case atStart => exact ⟨0, by omega, rfl, HC.out, Below.refl _ _⟩
  case round =>
    obtain ⟨k, hk, rfl, hs, hbel⟩ := hrel
    have HK : Hid (checkF (prevE l k) (l.drop k) = C) := hs
    have HB : Hid (Below w.heap.size w wr) := hbel
    clear hs hbel
    by_cases hkl : k < n
    · have hkl' : k < l.length := by have := HN.out; omega
      obtain ⟨b, o, rfl⟩ := HQ.out.addr (by omega)
      have HQ2 := (HQ.out.below HB.out)
      obtain ⟨e0, e1, e2, e3⟩ := HQ2.at hkl'
      obtain ⟨y, hy⟩ : ∃ y, l.getD k zeroE = y := ⟨_, rfl⟩
      rw [hy] at e0 e1 e2 e3
      have HY : Hid (l.getD k zeroE = y) := hy
      obtain ⟨ke, ve, se, ge⟩ := y
      simp only at e0 e1 e2 e3
      obtain ⟨E, hE⟩ : ∃ E, oneE ⟨ke, ve, se, ge⟩ = E := ⟨_, rfl⟩
      have HE : Hid (oneE ⟨ke, ve, se, ge⟩ = E) := hE
      have HCE := fun w' => checkEntry_any ⟨ke, ve, se, ge⟩ w' E hE
      rw [entV_def] at HCE
      have BX := box4c wr (.string ke) (.string ve) (.int .i64 se) (.bool ge) 66
      have HBX : Hid (C4 (wr.alloc (.cells #[.string ke, .string ve, .int .i64 se, .bool ge] 66)) wr.heap.size 0 (.string ke) (.string ve) (.int .i64 se) (.bool ge)) := BX
      have hkn : (k : Int) < (n : Int) := by omega
      have HKL : Hid (k < l.length) := hkl'
      clear hE hy BX hkl'
      rcases Nat.eq_zero_or_pos E with hE0 | hE0
      · subst hE0
        rcases k with _ | k
        · have H2 : Hid (checkF (prevE l 1) (l.drop 1) = C) := by show _ = _; rw [← checkF_zero HKL.out HY.out HE.out]; exact HK.out
          clear HQ2
          simp only [Nat.zero_mul, Nat.add_zero] at e0 e1 e2 e3
          go_wp2_with fail
          refine (HCE _).mono ?_
          rintro e w2 ⟨rfl, hb2⟩
          obtain ⟨d0, d1, d2, d3⟩ := c4_below HBX.out hb2
          have HB2 : Hid (Below w.heap.size w w2) := below_bt (below_bt HB.out (below_alloc _ _)) hb2
          clear hb2 HCE HBX
          go_wp2
          go_quiet (fail)
          go_wp2
          go_roundw
          case rel => exact ⟨1, by omega, by go_num, H2.out, below_drewN HB2.out _⟩
          case measure => simp [intOf]; omega
        · obtain ⟨x, hx⟩ : ∃ x, l.getD k zeroE = x := ⟨_, rfl⟩
          obtain ⟨kx, vx, sx, gx⟩ := x
          have h4 := HQ2.at (k := k) (by have := HKL.out; omega)
          rw [hx] at h4
          have HP : Hid (C4 wr b (o + k * 4) (.string kx) (.string vx) (.int .i64 sx) (.bool gx)) := h4
          have HNX := checkF_next HKL.out hx HY.out HE.out
          obtain ⟨r, hr⟩ : ∃ r, lessE ⟨kx, vx, sx, gx⟩ ⟨ke, ve, se, ge⟩ = r := ⟨_, rfl⟩
          have HLE := fun w' => less_any ⟨kx, vx, sx, gx⟩ ⟨ke, ve, se, ge⟩ w'
          rw [hr, entV_def, entV_def] at HLE
          rw [hr, HK.out] at HNX
          have HNX' : Hid (C = if r = true then checkF (prevE l (k + 2)) (l.drop (k + 2)) else 100) := HNX
          clear hx hr HQ2 h4 HNX
          go_wp2_with fail
          refine (HCE _).mono ?_
          rintro e w2 ⟨rfl, hb2⟩
          have HD : Hid (C4 w2 wr.heap.size 0 (.string ke) (.string ve) (.int .i64 se) (.bool ge)) := c4_below HBX.out hb2
          have HP2 : Hid (C4 w2 b (o + k * 4) (.string kx) (.string vx) (.int .i64 sx) (.bool gx)) := c4_below HP.out (below_bt (below_alloc _ _) hb2)
          have HB2 : Hid (Below w.heap.size w w2) := below_bt (below_bt HB.out (below_alloc _ _)) hb2
          clear hb2 HCE HBX HP
          generalize wr.heap.size = g at *
          have kw0 : IntKind.i64.wrap (k : Int) = (k : Int) := by rw [IntKind.wrap_i64]; omega
          have kw1 : IntKind.i64.wrap ((k : Int) + 1 - 1) = (k : Int) := by rw [IntKind.wrap_i64]; omega
          have kw2 : IntKind.i64.wrap (((k + 1 : Nat) : Int) - 1) = (k : Int) := by rw [IntKind.wrap_i64]; omega
          have kb0 : (0 : Int) ≤ (k : Int) := by omega
          have kb1 : (k : Int) < (n : Int) := by omega
          go_wp2
          go_region_held3 (fun w' => (w'.cell? ⟨g, 0, none⟩ = some (.string ke) ∧ w'.cell? ⟨g, 0 + 1, none⟩ = some (.string ve) ∧ w'.cell? ⟨g, 0 + 2, none⟩ = some (.int .i64 se) ∧ w'.cell? ⟨g, 0 + 3, none⟩ = some (.bool ge)) ∧ (w'.cell? ⟨b, o + k * 4, none⟩ = some (.string kx) ∧ w'.cell? ⟨b, o + k * 4 + 1, none⟩ = some (.string vx) ∧ w'.cell? ⟨b, o + k * 4 + 2, none⟩ = some (.int .i64 sx) ∧ w'.cell? ⟨b, o + k * 4 + 3, none⟩ = some (.bool gx)) ∧ Below w2.heap.size w2 w')
            (with_reducible first | exact ⟨HD.out, HP2.out, Below.refl _ _⟩ | exact ⟨c4_below HD.out (Below.refl _ _).drew, c4_below HP2.out (Below.refl _ _).drew, (Below.refl _ _).drew⟩ | exact ⟨c4_below HD.out (below_dw (by assumption)), c4_below HP2.out (below_dw (by assumption)), below_dw (by assumption)⟩ | assumption)
            (first
              | (go_at_call 50; refine (HLE _).mono ?_; rintro e w3 ⟨rfl, hb3⟩)
              | fail)
          rename_i hh
          have HB3 : Hid (Below w.heap.size w w3) := below_bt HB2.out hh.2.2
          clear hh
          cases r with
          | true =>
            have H2 : Hid (checkF (prevE l (k + 2)) (l.drop (k + 2)) = C) := by have := HNX'.out; rw [if_pos rfl] at this; exact this.symm
            go_wp2
            go_roundw
            case rel => exact ⟨k + 2, by omega, by go_num, H2.out, HB3.out⟩
            case measure => simp [intOf]; omega
          | false =>
            have H2 : Hid (C = 100) := by have := HNX'.out; rw [if_neg (by simp)] at this; exact this
            go_wp2
            go_ret
            exact ⟨by rw [H2.out]; rfl, HB3.out⟩
      · have hne : ((E : Int) != 0) = true := by simp; omega
        have H2 : Hid (E = C) := by show _ = _; rw [← HK.out, checkF_one HKL.out HY.out (by rw [HE.out]; omega), HE.out]
        clear HQ2 hE0
        go_wp2_with fail
        refine (HCE _).mono ?_
        rintro e w2 ⟨rfl, hb2⟩
        have HB2 : Hid (Below w.heap.size w w2) := below_bt (below_bt HB.out (below_alloc _ _)) hb2
        clear hb2 HCE HBX
        go_wp2
        go_ret
        exact ⟨by rw [← H2.out]; rfl, HB2.out⟩
    · have g2 : (n : Int) ≤ (k : Int) := by omega
      have H2 : Hid (C = 0) := by show _ = _; rw [← HK.out]; exact checkF_end l k (by have := HN.out; omega)
      go_wp2
      go_ret
      exact ⟨by rw [H2.out]; rfl, HB.out⟩
theorem take_snoc {l : List EntV} {k : Nat} (h : k < l.length) {y : EntV} (hy : l.getD k zeroE = y) : l.take (k + 1) = l.take k ++ [y] := by
  rw [List.take_add_one, List.getElem?_eq_getElem h, ← hy, List.getD_eq_getElem?_getD, List.getElem?_eq_getElem h]; rfl
theorem own_mono {w : World} {B B' e size n : Nat} {v : Value} {xs : List Value} (h : w.ownsRow B' e size v n xs) (hB : B ≤ B') : w.ownsRow B e size v n xs := by
  rcases h with ⟨h1, h2⟩
  refine ⟨h1, ?_⟩
  rcases h2 with h | ⟨g, cap, cur, hv, hb, hr⟩
  · exact .inl h
  · exact .inr ⟨g, cap, cur, hv, Nat.le_trans hB hb, hr⟩
theorem tb_irrefl : ∀ (a : List UInt8), Op.bytesLess a a = false
  | [] => rfl
  | x :: a => by
    unfold Op.bytesLess
    simp [UInt8.lt_irrefl x, tb_irrefl a]
theorem tb_trans : ∀ (a b c : List UInt8), Op.bytesLess a b = true → Op.bytesLess b c = true → Op.bytesLess a c = true
  | [], b, [], _, h2 => by cases b <;> simp [Op.bytesLess] at h2
  | [], _, _ :: _, _, _ => rfl
  | _ :: _, [], _, h1, _ => by simp [Op.bytesLess] at h1
  | _ :: _, _ :: _, [], _, h2 => by simp [Op.bytesLess] at h2
  | x :: a, y :: b, z :: c, h1, h2 => by
    unfold Op.bytesLess at h1 h2 ⊢
    simp only [Bool.or_eq_true, Bool.and_eq_true, decide_eq_true_eq, beq_iff_eq] at h1 h2 ⊢
    rcases h1 with h1 | ⟨h1, h1'⟩
    · rcases h2 with h2 | ⟨h2, _⟩
      · exact .inl (UInt8.lt_trans h1 h2)
      · subst h2; exact .inl h1
    · subst h1
      rcases h2 with h2 | ⟨h2, h2'⟩
      · exact .inl h2
      · exact .inr ⟨h2, tb_trans a b c h1' h2'⟩
theorem tb_tri : ∀ (a b : List UInt8), Op.bytesLess a b = false → Op.bytesLess b a = false → a = b
  | [], [], _, _ => rfl
  | [], _ :: _, h1, _ => by simp [Op.bytesLess] at h1
  | _ :: _, [], _, h2 => by simp [Op.bytesLess] at h2
  | x :: a, y :: b, h1, h2 => by
    unfold Op.bytesLess at h1 h2
    simp only [Bool.or_eq_false_iff, Bool.and_eq_false_iff, decide_eq_false_iff_not, beq_eq_false_iff_ne, ne_eq] at h1 h2
    have hxy : x = y := UInt8.le_antisymm (UInt8.not_lt.1 h2.1) (UInt8.not_lt.1 h1.1)
    subst hxy
    rw [tb_tri a b (by simpa using h1.2) (by simpa using h2.2)]
def ltB (a b : ByteArray) : Bool := Op.bytesLess a.toList b.toList
theorem ltB_irrefl (a : ByteArray) : ltB a a = false := tb_irrefl _
theorem ltB_trans {a b c : ByteArray} (h1 : ltB a b = true) (h2 : ltB b c = true) : ltB a c = true := tb_trans _ _ _ h1 h2
theorem ltB_tri {a b : ByteArray} (h1 : ltB a b = false) (h2 : ltB b a = false) : a = b := by
  apply ba_ext.1
  rw [← ByteArray.toList_eq, ← ByteArray.toList_eq]
  exact tb_tri _ _ h1 h2
theorem lessE_def (a b : EntV) : lessE a b = true ↔ (ltB a.key b.key = true ∨ (a.key = b.key ∧ b.seq < a.seq)) := by
  unfold lessE ltB
  rw [eq_str]
  simp
theorem lessE_irrefl (a : EntV) : lessE a a = false := by
  rw [Bool.eq_false_iff]
  intro h
  rcases (lessE_def a a).1 h with h | h
  · rw [ltB_irrefl] at h; cases h
  · omega
theorem lessE_trans {a b c : EntV} (h1 : lessE a b = true) (h2 : lessE b c = true) : lessE a c = true := by
  rw [lessE_def] at *
  rcases h1 with h1 | ⟨h1, h1'⟩
  · rcases h2 with h2 | ⟨h2, _⟩
    · exact .inl (ltB_trans h1 h2)
    · rw [← h2]; exact .inl h1
  · rcases h2 with h2 | ⟨h2, h2'⟩
    · rw [h1]; exact .inl h2
    · exact .inr ⟨h1.trans h2, by omega⟩
abbrev RiseE (l : List EntV) : Prop := l.Pairwise fun a b => lessE a b = true
theorem checkF_some : ∀ (l : List EntV) (y : EntV), checkF (some y) l = 0 ↔ (∀ x ∈ l, OkE x) ∧ (∀ x ∈ l, lessE y x = true) ∧ RiseE l
  | [], y => by simp [checkF]
  | x :: l, y => by
    have ih := checkF_some l x
    unfold checkF
    constructor
    · intro h
      split at h
      · rename_i h1; exact absurd h h1
      · rename_i h1
        have hx := oneE_ok.1 (Classical.not_not.1 h1)
        split at h
        · rename_i h2
          obtain ⟨i1, i2, i3⟩ := ih.1 h
          refine ⟨?_, ?_, List.pairwise_cons.2 ⟨i2, i3⟩⟩
          · intro z hz
            rcases List.mem_cons.1 hz with rfl | hz
            · exact hx
            · exact i1 z hz
          · intro z hz
            rcases List.mem_cons.1 hz with rfl | hz
            · exact h2
            · exact lessE_trans h2 (i2 z hz)
        · cases h
    · rintro ⟨h1, h2, h3⟩
      obtain ⟨h4, h5⟩ := List.pairwise_cons.1 h3
      rw [if_neg (by simp [oneE_ok.2 (h1 x (by simp))]), if_pos (h2 x (by simp))]
      exact ih.2 ⟨fun z hz => h1 z (by simp [hz]), h4, h5⟩
theorem checkF_none (l : List EntV) : checkF none l = 0 ↔ (∀ x ∈ l, OkE x) ∧ RiseE l := by
  cases l with
  | nil => simp [checkF]
  | cons x l =>
    have ih := checkF_some l x
    unfold checkF
    constructor
    · intro h
      split at h
      · rename_i h1; exact absurd h h1
      · rename_i h1
        have hx := oneE_ok.1 (Classical.not_not.1 h1)
        obtain ⟨i1, i2, i3⟩ := ih.1 h
        refine ⟨fun z hz => ?_, List.pairwise_cons.2 ⟨i2, i3⟩⟩
        rcases List.mem_cons.1 hz with rfl | hz
        · exact hx
        · exact i1 z hz
    · rintro ⟨h1, h3⟩
      obtain ⟨h4, h5⟩ := List.pairwise_cons.1 h3
      rw [if_neg (by simp [oneE_ok.2 (h1 x (by simp))])]
      exact ih.2 ⟨fun z hz => h1 z (by simp [hz]), h4, h5⟩
theorem checkE_rise (l : List EntV) : checkE l = 0 ↔ l.length ≤ 4096 ∧ (∀ x ∈ l, OkE x) ∧ RiseE l := by
  unfold checkE
  split
  · constructor
    · intro h; cases h
    · intro h; omega
  · rw [checkF_none]
    constructor
    · intro h; exact ⟨by omega, h⟩
    · intro h; exact h.2
theorem lessE_tri {a b : EntV} (h1 : lessE a b = false) (h2 : lessE b a = false) : a.key = b.key ∧ a.seq = b.seq := by
  have n1 : (ltB a.key b.key = true ∨ (a.key = b.key ∧ b.seq < a.seq)) → False := fun h => by have := (lessE_def a b).2 h; rw [h1] at this; cases this
  have n2 : (ltB b.key a.key = true ∨ (b.key = a.key ∧ a.seq < b.seq)) → False := fun h => by have := (lessE_def b a).2 h; rw [h2] at this; cases this
  have hk : a.key = b.key := by
    refine ltB_tri ?_ ?_
    · cases h : ltB a.key b.key with
      | false => rfl
      | true => exact (n1 (.inl h)).elim
    · cases h : ltB b.key a.key with
      | false => rfl
      | true => exact (n2 (.inl h)).elim
  refine ⟨hk, ?_⟩
  rcases Int.lt_trichotomy a.seq b.seq with h | h | h
  · exact (n2 (.inr ⟨hk.symm, h⟩)).elim
  · exact h
  · exact (n1 (.inr ⟨hk, h⟩)).elim
theorem lessE_same {a b : EntV} (h : a.key = b.key ∧ a.seq = b.seq) : lessE a b = false := by
  rw [Bool.eq_false_iff]
  intro hl
  rcases (lessE_def a b).1 hl with h1 | h1
  · rw [h.1, ltB_irrefl] at h1; cases h1
  · omega
theorem lessE_asymm {a b : EntV} (h : lessE a b = true) : lessE b a = false := by
  rw [Bool.eq_false_iff]
  intro h2
  have := lessE_trans h h2
  rw [lessE_irrefl] at this
  cases this
theorem riseE_ext : ∀ {l m : List EntV}, RiseE l → RiseE m → (∀ x, x ∈ l ↔ x ∈ m) → l = m
  | [], [], _, _, _ => rfl
  | [], y :: m, _, _, h => absurd ((h y).2 (by simp)) (by simp)
  | x :: l, [], _, _, h => absurd ((h x).1 (by simp)) (by simp)
  | x :: l, y :: m, hl, hm, h => by
    obtain ⟨l1, l2⟩ := List.pairwise_cons.1 hl
    obtain ⟨m1, m2⟩ := List.pairwise_cons.1 hm
    have hxy : x = y := by
      rcases List.mem_cons.1 ((h x).1 (by simp)) with e | hx
      · exact e
      · rcases List.mem_cons.1 ((h y).2 (by simp)) with e | hy
        · exact e.symm
        · have a := m1 x hx
          have b := l1 y hy
          rw [lessE_asymm a] at b; cases b
    subst hxy
    rw [riseE_ext l2 m2 (fun z => ?_)]
    constructor
    · intro hz
      rcases List.mem_cons.1 ((h z).1 (by simp [hz])) with e | hz'
      · subst e; have := l1 z hz; rw [lessE_irrefl] at this; cases this
      · exact hz'
    · intro hz
      rcases List.mem_cons.1 ((h z).2 (by simp [hz])) with e | hz'
      · subst e; have := m1 z hz; rw [lessE_irrefl] at this; cases this
      · exact hz'
def placeE : List EntV → EntV → Nat
  | [], _ => 0
  | y :: l, x => if lessE y x = true then placeE l x + 1 else 0
theorem placeE_le : ∀ (l : List EntV) (x : EntV), placeE l x ≤ l.length
  | [], _ => Nat.le_refl _
  | y :: l, x => by
    have ih := placeE_le l x
    simp only [placeE, List.length_cons]
    split <;> omega
theorem place_ahead : ∀ (l : List EntV) (x : EntV), ∀ y ∈ l.take (placeE l x), lessE y x = true
  | [], _, y, h => by simp [placeE] at h
  | z :: l, x, y, h => by
    simp only [placeE] at h
    split at h
    · rename_i hz
      rw [List.take_succ_cons] at h
      rcases List.mem_cons.1 h with rfl | h
      · exact hz
      · exact place_ahead l x y h
    · simp at h
theorem place_at : ∀ (l : List EntV) (x : EntV), placeE l x < l.length → lessE (l.getD (placeE l x) zeroE) x = false
  | [], _, h => by simp at h
  | z :: l, x, h => by
    simp only [placeE] at h ⊢
    split at h
    · rename_i hz
      rw [if_pos hz]
      have := place_at l x (by simpa using h)
      simpa [List.getD] using this
    · rename_i hz
      rw [if_neg hz]
      simpa [List.getD] using hz
theorem place_next {l : List EntV} {k : Nat} {x : EntV} (h : ∀ y ∈ l.take k, lessE y x = true) (hk : k ≤ l.length) (hs : k = l.length ∨ lessE (l.getD k zeroE) x = false) : placeE l x = k := by
  induction l generalizing k with
  | nil => simp at hk; subst hk; rfl
  | cons z l ih =>
    cases k with
    | zero =>
      rcases hs with hs | hs
      · simp at hs
      · simp only [placeE]
        rw [if_neg (by rw [show (z :: l).getD 0 zeroE = z from rfl] at hs; rw [hs]; simp)]
    | succ k =>
      simp only [placeE]
      rw [if_pos (h z (by simp))]
      rw [ih (k := k) (fun y hy => h y (by rw [List.take_succ_cons]; exact List.mem_cons_of_mem _ hy)) (by simpa using hk) (by
        rcases hs with hs | hs
        · exact .inl (by simpa using hs)
        · exact .inr (by simpa [List.getD] using hs))]
def insE (l : List EntV) (x : EntV) : List EntV := l.take (placeE l x) ++ x :: l.drop (placeE l x)
theorem insE_len (l : List EntV) (x : EntV) : (insE l x).length = l.length + 1 := by
  unfold insE
  have := placeE_le l x
  simp only [List.length_append, List.length_cons, List.length_take, List.length_drop]
  omega
theorem mem_insE {l : List EntV} {x y : EntV} : y ∈ insE l x ↔ y = x ∨ y ∈ l := by
  unfold insE
  rw [List.mem_append, List.mem_cons]
  constructor
  · rintro (h | h | h)
    · exact .inr (List.mem_of_mem_take h)
    · exact .inl h
    · exact .inr (List.mem_of_mem_drop h)
  · rintro (h | h)
    · exact .inr (.inl h)
    · rw [← List.take_append_drop (placeE l x) l] at h
      rcases List.mem_append.1 h with h | h
      · exact .inl h
      · exact .inr (.inr h)
theorem place_same {l : List EntV} (hr : RiseE l) (x : EntV) : (placeE l x < l.length ∧ lessE x (l.getD (placeE l x) zeroE) = false) ↔ ∃ y ∈ l, y.key = x.key ∧ y.seq = x.seq := by
  constructor
  · rintro ⟨h1, h2⟩
    have h3 := place_at l x h1
    have hm : l.getD (placeE l x) zeroE ∈ l := by rw [List.getD_eq_getElem?_getD, List.getElem?_eq_getElem h1]; exact List.getElem_mem _
    exact ⟨_, hm, lessE_tri h3 h2⟩
  · rintro ⟨y, hy, he⟩
    obtain ⟨i, hi, rfl⟩ := List.getElem_of_mem hy
    have hp : placeE l x = i := by
      refine place_next (fun z hz => ?_) (by omega) (.inr ?_)
      · obtain ⟨j, hj, rfl⟩ := List.getElem_of_mem hz
        rw [List.length_take] at hj
        rw [List.getElem_take]
        have h1 := List.pairwise_iff_getElem.1 hr j i (by omega) hi (by omega)
        rcases (lessE_def _ _).1 h1 with h2 | h2
        · exact (lessE_def _ _).2 (.inl (by rw [← he.1]; exact h2))
        · exact (lessE_def _ _).2 (.inr ⟨by rw [h2.1, he.1], by omega⟩)
      · rw [List.getD_eq_getElem?_getD, List.getElem?_eq_getElem hi]
        exact lessE_same he
    rw [hp]
    refine ⟨hi, ?_⟩
    rw [List.getD_eq_getElem?_getD, List.getElem?_eq_getElem hi]
    exact lessE_same ⟨he.1.symm, he.2.symm⟩
theorem insE_rise {l : List EntV} (hr : RiseE l) {x : EntV} (hn : ∀ y ∈ l, ¬ (y.key = x.key ∧ y.seq = x.seq)) : RiseE (insE l x) := by
  have hle := placeE_le l x
  have hdrop : ∀ y ∈ l.drop (placeE l x), lessE x y = true := by
    intro y hy
    obtain ⟨j, hj, rfl⟩ := List.getElem_of_mem hy
    rw [List.length_drop] at hj
    rw [List.getElem_drop]
    have hp : placeE l x < l.length := by omega
    have h1 := place_at l x hp
    rw [List.getD_eq_getElem?_getD, List.getElem?_eq_getElem hp] at h1
    simp only [Option.getD_some] at h1
    have h2 : lessE x l[placeE l x] = true := by
      cases h : lessE x l[placeE l x] with
      | true => rfl
      | false => exact absurd (lessE_tri h1 h) (hn _ (List.getElem_mem _))
    rcases Nat.eq_zero_or_pos j with h0 | h0
    · subst h0; exact h2
    · exact lessE_trans h2 (List.pairwise_iff_getElem.1 hr (placeE l x) (placeE l x + j) hp (by omega) (by omega))
  unfold insE
  refine List.pairwise_append.2 ⟨hr.sublist (List.take_sublist _ _), List.pairwise_cons.2 ⟨hdrop, hr.sublist (List.drop_sublist _ _)⟩, ?_⟩
  intro a ha b hb
  have h1 := place_ahead l x a ha
  rcases List.mem_cons.1 hb with rfl | hb
  · exact h1
  · exact lessE_trans h1 (hdrop b hb)
def putE (l : List EntV) (x : EntV) : List EntV × Nat :=
  if checkE l ≠ 0 then ([], checkE l) else if oneE x ≠ 0 then ([], oneE x) else
  if placeE l x < l.length ∧ lessE x (l.getD (placeE l x) zeroE) = false then ([], 100) else if 4096 ≤ l.length then ([], 4) else (insE l x, 0)
theorem putE_bad {l : List EntV} {x : EntV} (h : checkE l ≠ 0) : putE l x = ([], checkE l) := by unfold putE; rw [if_pos h]
theorem putE_one {l : List EntV} {x : EntV} (h : checkE l = 0) (h2 : oneE x ≠ 0) : putE l x = ([], oneE x) := by unfold putE; rw [if_neg (by simp [h]), if_pos h2]
theorem putE_there {l : List EntV} {x : EntV} (h : checkE l = 0) (h2 : oneE x = 0) (h3 : ∃ y ∈ l, y.key = x.key ∧ y.seq = x.seq) : putE l x = ([], 100) := by
  unfold putE
  rw [if_neg (by simp [h]), if_neg (by simp [h2]), if_pos ((place_same ((checkE_rise l).1 h).2.2 x).2 h3)]
theorem putE_many {l : List EntV} {x : EntV} (h : checkE l = 0) (h2 : oneE x = 0) (h3 : ¬ ∃ y ∈ l, y.key = x.key ∧ y.seq = x.seq) (h4 : 4096 ≤ l.length) : putE l x = ([], 4) := by
  unfold putE
  rw [if_neg (by simp [h]), if_neg (by simp [h2]), if_neg (fun hh => h3 ((place_same ((checkE_rise l).1 h).2.2 x).1 hh)), if_pos h4]
theorem putE_is {l : List EntV} {x : EntV} (h : checkE l = 0) (h2 : oneE x = 0) (h3 : ¬ ∃ y ∈ l, y.key = x.key ∧ y.seq = x.seq) (h4 : l.length < 4096) : putE l x = (insE l x, 0) := by
  unfold putE
  rw [if_neg (by simp [h]), if_neg (by simp [h2]), if_neg (fun hh => h3 ((place_same ((checkE_rise l).1 h).2.2 x).1 hh)), if_neg (by omega)]
theorem putE_ok {l m : List EntV} {x : EntV} (h : putE l x = (m, 0)) : checkE l = 0 ∧ OkE x ∧ (¬ ∃ y ∈ l, y.key = x.key ∧ y.seq = x.seq) ∧ l.length < 4096 ∧ m = insE l x ∧ checkE m = 0 := by
  have h1 : checkE l = 0 := by
    by_cases hc : checkE l = 0
    · exact hc
    · rw [putE_bad hc] at h; exact (Prod.mk.inj h).2
  have h2 : oneE x = 0 := by
    by_cases hc : oneE x = 0
    · exact hc
    · rw [putE_one h1 hc] at h; exact (Prod.mk.inj h).2
  have h3 : ¬ ∃ y ∈ l, y.key = x.key ∧ y.seq = x.seq := by
    intro hc
    rw [putE_there h1 h2 hc] at h
    have := (Prod.mk.inj h).2
    omega
  have h4 : l.length < 4096 := by
    rcases Nat.lt_or_ge l.length 4096 with hc | hc
    · exact hc
    · rw [putE_many h1 h2 h3 hc] at h
      have := (Prod.mk.inj h).2
      omega
  rw [putE_is h1 h2 h3 h4] at h
  have hm := (Prod.mk.inj h).1
  refine ⟨h1, oneE_ok.1 h2, h3, h4, hm.symm, ?_⟩
  obtain ⟨c1, c2, c3⟩ := (checkE_rise l).1 h1
  rw [← hm]
  refine (checkE_rise _).2 ⟨by rw [insE_len]; omega, fun y hy => ?_, insE_rise c3 (fun y hy he => h3 ⟨y, hy, he⟩)⟩
  rcases mem_insE.1 hy with rfl | hy
  · exact oneE_ok.1 h2
  · exact c2 y hy
def rowE : List EntV → List EntV → List EntV
  | a, [] => a
  | a, x :: l => rowE (if (putE a x).2 = 0 then (putE a x).1 else a) l
theorem rowE_app (a l m : List EntV) : rowE a (l ++ m) = rowE (rowE a l) m := by
  induction l generalizing a with
  | nil => rfl
  | cons x l ih => exact ih _
def stepE (a : List EntV) (x : EntV) : List EntV := if (putE a x).2 = 0 then (putE a x).1 else a
theorem stepE_ok {a : List EntV} {x : EntV} (h : (putE a x).2 = 0) : stepE a x = insE a x ∧ OkE x ∧ (¬ ∃ y ∈ a, y.key = x.key ∧ y.seq = x.seq) ∧ checkE (stepE a x) = 0 := by
  obtain ⟨h1, h2, h3, h4, h5, h6⟩ := putE_ok (l := a) (x := x) (m := (putE a x).1) (by rw [← h])
  refine ⟨?_, h2, h3, ?_⟩
  · unfold stepE; rw [if_pos h, h5]
  · unfold stepE; rw [if_pos h]; exact h6
theorem stepE_no {a : List EntV} {x : EntV} (h : (putE a x).2 ≠ 0) : stepE a x = a := by unfold stepE; rw [if_neg h]
theorem rowE_snoc (a l : List EntV) (x : EntV) : rowE a (l ++ [x]) = stepE (rowE a l) x := by rw [rowE_app]; rfl
theorem stepE_check {a : List EntV} (h : checkE a = 0) (x : EntV) : checkE (stepE a x) = 0 := by
  by_cases h0 : (putE a x).2 = 0
  · exact (stepE_ok h0).2.2.2
  · rw [stepE_no h0]; exact h
theorem rowE_check {a : List EntV} (h : checkE a = 0) (l : List EntV) : checkE (rowE a l) = 0 := by
  induction l generalizing a with
  | nil => exact h
  | cons x l ih => exact ih (stepE_check h x)
end Go.Proofs.YtghcmllmbpoidaaGreatDoor.Mg
