/-
  The number that a key's bytes begin with; the part.
-/
import Derived.Test.YthebnealkekdmaaJ04
import Derived.Test.YthebnealkekdmaaJ05
namespace Go.Proofs.Ythebnealkekdmaa
open Go.RowKit Go.WideShapes

theorem fresh_bld (w : World) : Bld w.heap.size w.heap.size [] (w.alloc (.cells #[.pointer none, .slice none 0 0] 51)) := Lib.fresh_isBuilder _ _ w
set_option maxRecDepth 8000 in
set_option maxHeartbeats 4000000 in
theorem After_any (s : ByteArray) (w : World) (hs : (s.size : Int) ≤ 10000) (t : ByteArray) (r : Bool) (hR : afterR s = (t, r)) :
    Calls Try.prog 12 #[.string s] w fun e w' => e = .returned (.tuple #[.string t, .bool r]) ∧ Below w.heap.size w w' := by
  have HR : Hid (afterR s = (t, r)) := hR
  have k0 : IntKind.i64.wrap ((s.size : Int) - 1) = (s.size : Int) - 1 := by rw [IntKind.wrap_i64]; omega
  clear hR
  go_enter Try.func12, Try.ntmps12
  go_wp2
  go_loop [4] (fun i => ∃ k : Nat, k ≤ s.size ∧ i = .int .i64 ((k : Int) - 1) ∧ Hid (∀ c ∈ (numsOf s).drop k, c = 255)) (fun i => (intOf i + 1).toNat)
  case atStart => exact ⟨s.size, Nat.le_refl _, rfl, fun c hc => by rw [List.drop_eq_nil_of_le (by rw [numsOf_len]; omega)] at hc; simp at hc⟩
  case round =>
    clear k0
    obtain ⟨k, hk, rfl, hall⟩ := hrel
    by_cases hk0 : k = 0
    · subst hk0
      go_wp2
      go_ret2
      rw [afterR_no hall.out] at HR
      have := HR.out
      simp only [Prod.mk.injEq] at this
      obtain ⟨rfl, rfl⟩ := this
      exact ⟨rfl, Below.refl _ _⟩
    · obtain ⟨j, rfl⟩ : ∃ j, k = j + 1 := ⟨k - 1, by omega⟩
      have e1 : (((j + 1 : Nat) : Int) - 1) = (j : Int) := by omega
      rw [e1]
      have k1 : IntKind.i64.wrap ((j : Int) - 1) = (j : Int) - 1 := by rw [IntKind.wrap_i64]; omega
      have hj : (j : Int) < (s.size : Int) := by omega
      have hj' : j < s.size := by omega
      obtain ⟨c, hc⟩ : ∃ c, (s[j]'hj').toNat = c := ⟨_, rfl⟩
      have HC : Hid ((numsOf s).getD j 0 = c) := (nums_at hj').trans hc
      have hc256 : c < 256 := by rw [← hc]; exact UInt8.toNat_lt _
      have hjs : (j : Int) ≤ (s.size : Int) := by omega
      clear e1 hk0
      by_cases h255 : c = 255
      · have g1 : ((c : Int) == 255) = true := by simp [h255]
        have HD : Hid (∀ c ∈ (numsOf s).drop j, c = 255) := by
          intro x hx
          rw [drop_cons' (d := 0) (by rw [numsOf_len]; exact hj'), List.mem_cons] at hx
          rcases hx with rfl | hx
          · rw [HC.out]; exact h255
          · exact hall.out x hx
        clear h255
        go_wp2
        go_round
        case rel => exact ⟨j, by omega, rfl, HD⟩
        case measure => simp [intOf]
      · have g1 : ((c : Int) == 255) = false := by simp; omega
        have HA : Hid (t = strOf ((numsOf s).take j ++ [c + 1]) ∧ r = true) := by
          have := HR.out
          rw [afterR_at hj' HC.out h255 hall.out] at this
          simp only [Prod.mk.injEq] at this
          exact ⟨this.1.symm, this.2.symm⟩
        have k3 : IntKind.u8.wrap ((c : Int) + 1) = ((c + 1 : Nat) : Int) := by rw [IntKind.wrap_u8']; omega
        have hex : (s.extract 0 j).size = j := by simp [ByteArray.size_extract]; omega
        have HX : Hid (numsOf (s.extract 0 j) = (numsOf s).take j ∧ (s.extract 0 j).size = j ∧ j < s.size ∧ c + 1 < 256) := ⟨by rw [numsOf_extract]; rfl, hex, hj', by omega⟩
        have HS : Hid (s.size ≤ 10000) := by show _ ≤ _; omega
        clear hex h255 hall
        go_wp2_with fail
        refine (writeString_any w.heap.size w.heap.size [] (s.extract 0 j) _ (fresh_bld w) (by have := HX.out; have := HS.out; simp; omega) (by simp)).mono ?_
        rintro e w1 ⟨rfl, hb1, hbel1, _⟩
        rw [List.nil_append, HX.out.1] at hb1
        have HB1 : Hid (Bld w.heap.size w.heap.size ((numsOf s).take j) w1) := hb1
        have HL1 : Hid (Below w.heap.size w w1) := (below_alloc w _).trans hbel1
        clear hb1 hbel1
        go_wp2_with fail
        refine (writeByte_any w.heap.size w.heap.size ((numsOf s).take j) (c + 1) _ HB1.out (by rw [List.length_take]; have := HS.out; have := HX.out; omega) HL1.out.size HX.out.2.2.2).mono ?_
        rintro e w2 ⟨rfl, hb2, hbel2, _⟩
        have HB2 : Hid (Bld w.heap.size w.heap.size ((numsOf s).take j ++ [c + 1]) w2) := hb2
        have HL2 : Hid (Below w.heap.size w w2) := HL1.out.trans hbel2
        clear hb2 hbel2
        go_wp2_with fail
        refine (string_any w.heap.size w.heap.size ((numsOf s).take j ++ [c + 1]) _ HB2.out (by intro x hx; rcases List.mem_append.1 hx with h | h; exact numsOf_lt s x (List.mem_of_mem_take h); simp at h; have := HX.out; omega) HL2.out.size).mono ?_
        rintro e w3 ⟨rfl, hbel3⟩
        have HL3 : Hid (Below w.heap.size w w3) := HL2.out.trans hbel3
        clear hbel3
        go_wp2
        go_ret2
        exact ⟨by rw [HA.out.1, HA.out.2]; rfl, HL3.out⟩
end Go.Proofs.Ythebnealkekdmaa
namespace Go.Proofs.Ythebnealkekdmaa
open Go.RowKit Go.WideShapes

theorem keyN_pre (l : List PartV) (k : Nat) : (keyN (l.take k)).length ≤ (keyN l).length := by
  have : keyN l = keyN (l.take k) ++ keyN (l.drop k) := by rw [← keyN_app, List.take_append_drop]
  rw [this, List.length_append]; omega
theorem text_le {l : List PartV} {p : PartV} (hp : p ∈ l) (hk : p.kind ≠ 1) : p.text.size ≤ (keyN l).length := by
  obtain ⟨a, b, rfl⟩ := List.append_of_mem hp
  rw [keyN_app, keyN_cons, List.length_append, List.length_append, bytesP_len, if_neg hk]
  omega
structure Parts (w : World) (q : Option Addr) (n : Nat) (l : List PartV) : Prop where
  n : n = l.length
  lies : PtsIn w q l
  wf : ∀ p ∈ l, WfP p
  text : ∀ p ∈ l, p.text.size ≤ 2000000
theorem Parts.below {w w' : World} {q : Option Addr} {n : Nat} {l : List PartV} (h : Parts w q n l) (hb : Below w.heap.size w w') : Parts w' q n l := ⟨h.n, h.lies.below hb, h.wf, h.text⟩
def makeE (R : ByteArray × Nat) : Value := .tuple #[.string R.1, .int .i64 R.2]
set_option maxRecDepth 8000 in
set_option maxHeartbeats 4000000 in
theorem Make_any (q : Option Addr) (n c : Nat) (l : List PartV) (w : World) (h : Parts w q n l) (hL : (n : Int) ≤ 1000) (R : ByteArray × Nat) (hR : makeR l = R) :
    Calls Try.prog 9 #[.slice q n c] w fun e w' => e = .returned (makeE R) ∧ Below w.heap.size w w' := by
  have HP : Hid (Parts w q n l) := h
  have HR : Hid (makeR l = R) := hR
  by_cases h8 : 8 < l.length
  · have g1 : decide ((8 : Int) < (n : Int)) = true := decide_eq_true (by have := h.n; omega)
    have HE : Hid (R = (ByteArray.empty, 4)) := by rw [← hR]; exact makeR_many h8
    clear h hR h8
    go_enter Try.func9, Try.ntmps9
    go_wp2
    go_ret2
    exact ⟨by rw [HE.out]; rfl, Below.refl _ _⟩
  have g1 : decide ((8 : Int) < (n : Int)) = false := decide_eq_false (by have := h.n; omega)
  have H8 : Hid (¬ 8 < l.length) := h8
  by_cases hb : ∃ p ∈ l, ¬ mayP p
  · have HE : Hid (R = (ByteArray.empty, 8)) := by rw [← hR]; exact makeR_bad h8 hb
    have HB : Hid (∃ p ∈ l, ¬ mayP p) := hb
    clear h hR h8 hb
    go_enter Try.func9, Try.ntmps9
    go_wp2_with fail
    refine (containsFunc_any q n c l _ HP.out.n HP.out.lies (by omega) true (by simpa using HB.out)).mono ?_
    rintro e w1 ⟨rfl, hb1⟩
    have HB1 : Hid (Below w.heap.size w w1) := hb1
    clear hb1
    go_wp2
    go_ret2
    exact ⟨by rw [HE.out]; rfl, HB1.out⟩
  have HM : Hid (∀ p ∈ l, mayP p) := fun p hp => Classical.byContradiction fun hn => hb ⟨p, hp, hn⟩
  obtain ⟨z, hz⟩ : ∃ z, (keyN l).length = z := ⟨_, rfl⟩
  have HZ : Hid ((keyN l).length = z) := hz
  have HC : Hid (false = true ↔ ∃ p ∈ l, ¬ mayP p) := ⟨fun h => Bool.noConfusion h, fun h => absurd h hb⟩
  by_cases hlong : 256 < z
  · have g2 : decide ((256 : Int) < (z : Int)) = true := decide_eq_true (by omega)
    have HE : Hid (R = (ByteArray.empty, 60)) := by rw [← hR]; exact makeR_long h8 HM.out (by rw [hz]; exact hlong)
    clear h hR h8 hb hlong hz
    go_enter Try.func9, Try.ntmps9
    go_wp2_with fail
    refine (containsFunc_any q n c l _ HP.out.n HP.out.lies (by omega) false HC.out).mono ?_
    rintro e w1 ⟨rfl, hb1⟩
    have HB1 : Hid (Below w.heap.size w w1) := hb1
    clear hb1
    go_wp2_with fail
    refine (size_any q n c l _ HP.out.n (HP.out.lies.below HB1.out) HP.out.text (by have := H8.out; have := HP.out.n; omega) z HZ.out).mono ?_
    rintro e w2 ⟨rfl, hb2⟩
    have HB2 : Hid (Below w.heap.size w w2) := below_bt HB1.out hb2
    clear hb2
    go_wp2
    go_ret2
    exact ⟨by rw [HE.out]; rfl, HB2.out⟩
  have g2 : decide ((256 : Int) < (z : Int)) = false := decide_eq_false (by omega)
  have HE : Hid (R = (strOf (keyN l), 0)) := by rw [← hR]; exact makeR_ok h8 HM.out (by rw [hz]; exact hlong)
  have HS : Hid ((keyN l).length ≤ 256) := by show _ ≤ _; omega
  clear h hR h8 hb hlong hz
  go_enter Try.func9, Try.ntmps9
  go_wp2_with fail
  refine (containsFunc_any q n c l _ HP.out.n HP.out.lies (by omega) false HC.out).mono ?_
  rintro e w1 ⟨rfl, hb1⟩
  have HB1 : Hid (Below w.heap.size w w1) := hb1
  clear hb1
  go_wp2_with fail
  refine (size_any q n c l _ HP.out.n (HP.out.lies.below HB1.out) HP.out.text (by have := H8.out; have := HP.out.n; omega) z HZ.out).mono ?_
  rintro e w2 ⟨rfl, hb2⟩
  have HB2 : Hid (Below w.heap.size w w2) := below_bt HB1.out hb2
  clear hb2
  have HF : Hid (Bld w2.heap.size w2.heap.size (keyN (l.take 0)) (w2.alloc (.cells #[.pointer none, .slice none 0 0] 51))) := by show Bld _ _ _ _; exact fresh_bld w2
  go_wp2
  go_loopw [17] (fun i wr => ∃ k : Nat, k ≤ n ∧ i = .int .i64 k ∧ Bld w2.heap.size w2.heap.size (keyN (l.take k)) wr ∧ Below w2.heap.size w2 wr) (fun i _ => n - (intOf i).toNat)
  case atStart => exact ⟨0, by omega, rfl, HF.out, below_alloc _ _⟩
  case round =>
    clear HF
    obtain ⟨k, hk, rfl, hb, hbel⟩ := hrel
    have HBR : Hid (Bld w2.heap.size w2.heap.size (keyN (l.take k)) wr) := hb
    have HER : Hid (Below w2.heap.size w2 wr) := hbel
    clear hb hbel
    by_cases hkn : k < n
    · have hkI : (k : Int) < (n : Int) := by omega
      have hlen : k < l.length := by have := HP.out.n; omega
      obtain ⟨ba, oa, rfl⟩ := HP.out.lies.addr (by omega)
      obtain ⟨x, hx⟩ : ∃ x, l.getD k zeroP = x := ⟨_, rfl⟩
      obtain ⟨x0, x1, x2⟩ := ptcells (HP.out.lies.below (below_bt HB2.out HER.out)) hlen hx
      have HX : Hid (l.getD k zeroP = x ∧ k < l.length ∧ k < n ∧ x ∈ l) := ⟨hx, hlen, hkn, by rw [← hx]; exact getD_mem' hlen⟩
      have HT : Hid ((x.text.size : Int) ≤ 100000) := by
        show _ ≤ _
        rcases HM.out x HX.out.2.2.2 with ⟨h1, h2⟩ | ⟨h1, h2⟩
        · rw [h2]; decide
        · have := text_le HX.out.2.2.2 (by omega); have := HS.out; omega
      clear hx hlen hkn
      go_wp2_with fail
      refine (write_any w2.heap.size w2.heap.size (keyN (l.take k)) x _ (HBR.out.below (below_alloc _ _)) (HP.out.wf x HX.out.2.2.2).int HT.out (by have := keyN_pre l k; have := HS.out; omega) (by have := HER.out.size; simp; omega)).mono ?_
      rintro e w4 ⟨rfl, hb4, hbel4⟩
      have HB4 : Hid (Bld w2.heap.size w2.heap.size (keyN (l.take (k + 1))) w4) := by show Bld _ _ _ _; rw [keyN_take HX.out.2.1 HX.out.1]; exact hb4
      have HE4 : Hid (Below w2.heap.size w2 w4) := (HER.out.alloc HER.out.size _).trans hbel4
      clear hb4 hbel4
      go_wp2
      go_roundw
      case rel => exact ⟨k + 1, by have := HX.out; omega, by go_num, HB4.out, HE4.out⟩
      case measure => have := HX.out; simp [intOf]; omega
    · obtain rfl : k = n := by omega
      have HW : Hid (∀ p ∈ l, wf64 p.int) := fun p hp => (HP.out.wf p hp).int
      have hk : l.take k = l := List.take_of_length_le (by have := HP.out.n; omega)
      rw [hk] at HBR
      clear hkn hk
      go_wp2_with fail
      refine (string_any w2.heap.size w2.heap.size (keyN l) _ HBR.out (keyN_byte HW.out) HER.out.size).mono ?_
      rintro e w4 ⟨rfl, hbel4⟩
      have HE4 : Hid (Below w.heap.size w w4) := below_bt HB2.out (HER.out.trans hbel4)
      clear hbel4
      go_wp2
      go_ret2
      exact ⟨by rw [HE.out]; rfl, HE4.out⟩
end Go.Proofs.Ythebnealkekdmaa
namespace Go.Proofs.Ythebnealkekdmaa
open Go.RowKit Go.WideShapes

theorem index_spec : ∀ (l : List UInt8), (Lib.indexByte l 0 = -1 ∧ ∀ c ∈ l, c ≠ 0) ∨ ∃ k : Nat, Lib.indexByte l 0 = (k : Int) ∧ k < l.length ∧ l[k]? = some 0 ∧ ∀ c ∈ l.take k, c ≠ 0
  | [] => .inl ⟨rfl, by simp⟩
  | b :: l => by
    unfold Lib.indexByte
    by_cases h : b = 0
    · exact .inr ⟨0, by simp [h], by simp, by simp [h], by simp⟩
    · rcases index_spec l with ⟨h1, h2⟩ | ⟨k, h1, h2, h3, h4⟩
      · exact .inl ⟨by simp [h, h1], by intro c hc; rcases List.mem_cons.1 hc with rfl | hc; exact h; exact h2 c hc⟩
      · refine .inr ⟨k + 1, ?_, by simpa using h2, by simpa using h3, ?_⟩
        · have : ((b == 0) = false) := by simpa using h
          rw [this, h1]
          have h5 : ((k : Int) == -1) = false := by simp
          rw [h5]
          simp
        · intro c hc
          rw [List.take_succ_cons, List.mem_cons] at hc
          rcases hc with rfl | hc
          · exact h
          · exact h4 c hc
theorem nums_ne {l : List UInt8} (h : ∀ c ∈ l, c ≠ 0) : ∀ c ∈ l.map UInt8.toNat, c ≠ 0 := by
  intro c hc
  obtain ⟨u, hu, rfl⟩ := List.mem_map.1 hc
  exact fun e => h u hu (UInt8.toNat_inj.1 e)
/-- Where the first byte 0 stands. -/
def At0 (x : List Nat) (k : Nat) : Prop := k < x.length ∧ x.getD k 0 = 0 ∧ ∀ c ∈ x.take k, c ≠ 0
theorem index_nums (s : ByteArray) : (Lib.indexByte s.data.toList 0 = -1 ∧ ∀ c ∈ numsOf s, c ≠ 0) ∨ ∃ k : Nat, Lib.indexByte s.data.toList 0 = (k : Int) ∧ At0 (numsOf s) k := by
  rcases index_spec s.data.toList with ⟨h1, h2⟩ | ⟨k, h1, h2, h3, h4⟩
  · exact .inl ⟨h1, nums_ne h2⟩
  · refine .inr ⟨k, h1, ?_, ?_, ?_⟩
    · unfold numsOf; simpa using h2
    · unfold numsOf; rw [List.getD_eq_getElem?_getD, List.getElem?_map, h3]; rfl
    · unfold numsOf; rw [← List.map_take]; exact nums_ne h4
theorem cut0_no (s : ByteArray) (w : World) (h : ∀ c ∈ numsOf s, c ≠ 0) :
    Calls Try.prog 61 #[.string s, .string ⟨#[0]⟩] w fun e w' => e = .returned (.tuple #[.string s, .string ByteArray.empty, .bool false]) ∧ Below w.heap.size w w' := by
  have HI : Hid (Lib.indexByte s.data.toList 0 = -1) := by
    rcases index_nums s with ⟨h1, _⟩ | ⟨k, _, h2, h3, _⟩
    · exact h1
    · refine absurd h3 (h _ ?_)
      rw [List.getD_eq_getElem?_getD, List.getElem?_eq_getElem h2]
      exact List.getElem_mem _
  clear h
  have hc : Calls Try.prog 66 #[.string s, .string ⟨#[0]⟩] w fun e w' => e = .returned (.tuple #[.string s, .string ByteArray.empty, .bool false]) ∧ Below w.heap.size w w' := by
    go_enter Try.func66, Try.ntmps66
    go_wp2_with fail
    refine (stringslite_Index_one s 0 _).mono ?_
    rintro e w1 ⟨rfl, rfl⟩
    rw [HI.out]
    go_wp2
    go_ret3
    exact ⟨rfl, Below.refl _ _⟩
  go_enter Try.func61, Try.ntmps61
  go_wp2_with fail
  refine hc.mono ?_
  rintro e w1 ⟨rfl, hb1⟩
  have HB1 : Hid (Below w.heap.size w w1) := hb1
  clear hb1 hc
  go_wp2
  go_ret3
  exact ⟨rfl, HB1.out⟩
theorem cut0_yes (s : ByteArray) (k : Nat) (w : World) (h : At0 (numsOf s) k) (hs : (s.size : Int) ≤ 100000) :
    Calls Try.prog 61 #[.string s, .string ⟨#[0]⟩] w fun e w' => e = .returned (.tuple #[.string (s.extract 0 k), .string (s.extract (k + 1) s.size), .bool true]) ∧ Below w.heap.size w w' := by
  have HI : Hid (Lib.indexByte s.data.toList 0 = (k : Int)) := by
    rcases index_nums s with ⟨_, h2⟩ | ⟨j, h1, hj⟩
    · refine absurd h.2.1 (h2 _ ?_)
      rw [List.getD_eq_getElem?_getD, List.getElem?_eq_getElem h.1]
      exact List.getElem_mem _
    · have : j = k := by
        rcases Nat.lt_trichotomy j k with hl | hl | hl
        · exfalso
          refine h.2.2 _ ?_ hj.2.1
          rw [List.getD_eq_getElem?_getD, List.getElem?_eq_getElem hj.1]
          exact List.mem_take_iff_getElem.2 ⟨j, by have := hj.1; omega, rfl⟩
        · exact hl
        · exfalso
          refine hj.2.2 _ ?_ h.2.1
          rw [List.getD_eq_getElem?_getD, List.getElem?_eq_getElem h.1]
          exact List.mem_take_iff_getElem.2 ⟨k, by have := h.1; omega, rfl⟩
      rw [← this]; exact h1
  have hk : k < s.size := by have := h.1; rw [numsOf_len] at this; exact this
  have hkI : (k : Int) ≤ (s.size : Int) := by omega
  have hkI2 : (k : Int) + 1 ≤ (s.size : Int) := by omega
  have k1 : IntKind.i64.wrap ((k : Int) + 1) = (k : Int) + 1 := by rw [IntKind.wrap_i64]; omega
  have t1 : ((k : Int) + 1).toNat = k + 1 := by omega
  clear h hk
  have hc : Calls Try.prog 66 #[.string s, .string ⟨#[0]⟩] w fun e w' => e = .returned (.tuple #[.string (s.extract 0 k), .string (s.extract (k + 1) s.size), .bool true]) ∧ Below w.heap.size w w' := by
    go_enter Try.func66, Try.ntmps66
    go_wp2_with fail
    refine (stringslite_Index_one s 0 _).mono ?_
    rintro e w1 ⟨rfl, rfl⟩
    rw [HI.out]
    go_wp2
    go_quiet (fail)
    go_wp2
    go_ret3
    exact ⟨rfl, below_dr _ _⟩
  go_enter Try.func61, Try.ntmps61
  go_wp2_with fail
  refine hc.mono ?_
  rintro e w1 ⟨rfl, hb1⟩
  have HB1 : Hid (Below w.heap.size w w1) := hb1
  clear hb1 hc
  go_wp2
  go_ret3
  exact ⟨rfl, HB1.out⟩
theorem results_cell1 {fn : Func} {p : Tmp} {ty : TypeId} (h : fn.results = #[.cell p ty]) (tmps : Array Value) (P : Program) (w : World) :
    (results fn tmps).run P w = ((asAddr (tmps.getD p undef)).run P w).andThen fun a w₁ => (loadVar ty a).run P w₁ := by
  simp only [results, h]
  simp [Sem.run_bind, Result.andThen]
theorem num_any (n : Int) (w : World) : Calls Try.prog 10 #[.int .i64 n] w fun e w' => e = .returned (partV ⟨1, n, ByteArray.empty⟩) ∧ Below w.heap.size w w' := by
  go_enter Try.func10, Try.ntmps10
  go_wp2
  (try simp only [Exit.inBlock, Exit.then])
  refine bodyPost_ret (v := partV ⟨1, n, ByteArray.empty⟩) ?_ rfl ⟨rfl, below_alloc _ _⟩
  rw [results_cell1 rfl]
  go_simp
  rfl
theorem word_any (s : ByteArray) (w : World) : Calls Try.prog 11 #[.string s] w fun e w' => e = .returned (partV ⟨2, 0, s⟩) ∧ Below w.heap.size w w' := by
  go_enter Try.func11, Try.ntmps11
  go_wp2
  (try simp only [Exit.inBlock, Exit.then])
  refine bodyPost_ret (v := partV ⟨2, 0, s⟩) ?_ rfl ⟨rfl, below_alloc _ _⟩
  rw [results_cell1 rfl]
  go_simp
  rfl
/-! ### A box of three cells -/
def cellAt (w : World) (a : Addr) : Value := (w.cell? a).getD undef
abbrev T3 (w' : World) (g : Nat) : Prop := (w'.cell? ⟨g, 0, none⟩ = some (cellAt w' ⟨g, 0, none⟩) ∧ w'.frozen? ⟨g, 0, none⟩ = false) ∧ (w'.cell? ⟨g, 1, none⟩ = some (cellAt w' ⟨g, 1, none⟩) ∧ w'.frozen? ⟨g, 1, none⟩ = false) ∧ (w'.cell? ⟨g, 2, none⟩ = some (cellAt w' ⟨g, 2, none⟩) ∧ w'.frozen? ⟨g, 2, none⟩ = false)
theorem t3_box {w' : World} {g : Nat} {C : Array Value} {t : TypeId} (h : w'.heap[g]? = some (.cells C t (0, 0))) (hC : C.size = 3) : T3 w' g := by
  have hc : ∀ i, i < 3 → w'.cell? ⟨g, i, none⟩ = some (cellAt w' ⟨g, i, none⟩) ∧ w'.frozen? ⟨g, i, none⟩ = false := by
    intro i hi
    refine ⟨?_, Lib.frozen_of_heap h i⟩
    have e := Lib.cell_of_heap h i
    rw [Array.getElem?_eq_getElem (by omega)] at e
    unfold cellAt; rw [e]; rfl
  exact ⟨hc 0 (by omega), hc 1 (by omega), hc 2 (by omega)⟩
theorem T3.below {w' w1 : World} {g : Nat} (h : T3 w' g) {B : Nat} (hb : Below B w' w1) (hg : g < B) : T3 w1 g := by
  have e := hb.block g hg
  unfold T3 cellAt World.cell? World.frozen? at *
  simp only [e]
  exact h
theorem T3.set {w' : World} {g : Nat} (h : T3 w' g) (i : Nat) (v : Value) : T3 (w'.setCell ⟨g, i, none⟩ v) g := by
  have key : ∀ j, w'.cell? ⟨g, j, none⟩ = some (cellAt w' ⟨g, j, none⟩) ∧ w'.frozen? ⟨g, j, none⟩ = false → (w'.setCell ⟨g, i, none⟩ v).cell? ⟨g, j, none⟩ = some (cellAt (w'.setCell ⟨g, i, none⟩ v) ⟨g, j, none⟩) ∧ (w'.setCell ⟨g, i, none⟩ v).frozen? ⟨g, j, none⟩ = false := by
    intro j ⟨h1, h2⟩
    refine ⟨?_, ?_⟩
    · have : ∃ u, (w'.setCell ⟨g, i, none⟩ v).cell? ⟨g, j, none⟩ = some u := by
        by_cases hij : i = j
        · subst hij; exact ⟨v, World.cell?_setCell_same w' _ v h1⟩
        · exact ⟨_, (World.cell?_setCell_other w' _ _ v (by intro hh; simp only [Addr.mk.injEq] at hh; omega)).trans h1⟩
      obtain ⟨u, hu⟩ := this
      unfold cellAt; rw [hu]; rfl
    · have := World.frozen?_setCells g [v] i w' ⟨g, j, none⟩
      simpa [World.setCells] using this.trans h2
  exact ⟨key 0 h.1, key 1 h.2.1, key 2 h.2.2⟩
theorem set3_below {w w' : World} {a b c : Value} (h : Below w.heap.size w w') : Below w.heap.size w (((w'.setCell ⟨w.heap.size, 0, none⟩ a).setCell ⟨w.heap.size, 1, none⟩ b).setCell ⟨w.heap.size, 2, none⟩ c) := ((h.setCell (Nat.le_refl _) _).setCell (Nat.le_refl _) _).setCell (Nat.le_refl _) _
theorem results_cell_tmp2 {fn : Func} {p t u : Tmp} {ty : TypeId} (h : fn.results = #[.cell p ty, .tmp t, .tmp u]) (tmps : Array Value) (P : Program) (w : World) :
    (results fn tmps).run P w = ((asAddr (tmps.getD p undef)).run P w).andThen fun a w₁ => ((loadVar ty a).run P w₁).andThen fun v w₂ => .ok (.tuple #[v, tmps.getD t undef, tmps.getD u undef]) w₂ := by
  simp only [results, h]
  simp [Sem.run_bind, Result.andThen]
/-! ### Texts, piece by piece -/
theorem unesc_pre : ∀ (a y : List Nat), (∀ c ∈ a, c ≠ 0) → unesc (a ++ y) = (unesc y).map (fun q => (a ++ q.1, q.2))
  | [], y, _ => by simp
  | c :: a, y, h => by
    have ih := unesc_pre a y (fun d hd => h d (by simp [hd]))
    have hc : c ≠ 0 := h c (by simp)
    rw [List.cons_append]
    cases hz : a ++ y with
    | nil =>
      obtain ⟨rfl, rfl⟩ := List.append_eq_nil_iff.1 hz
      simp [unesc]
    | cons d z =>
      have : unesc (c :: d :: z) = (unesc (d :: z)).map (fun q => (c :: q.1, q.2)) := by
        conv => lhs; unfold unesc
        rw [if_neg hc]
      rw [this, ← hz, ih, Option.map_map]
      rfl
theorem unesc_none {a : List Nat} (h : ∀ c ∈ a, c ≠ 0) : unesc a = none := by
  have := unesc_pre a [] h
  rw [List.append_nil] at this
  rw [this]; rfl
end Go.Proofs.Ythebnealkekdmaa
namespace Go.Proofs.Ythebnealkekdmaa
open Go.RowKit Go.WideShapes

def cutE : Option (PartV × List Nat) → Value
  | some (p, r) => .tuple #[partV p, .string (strOf r), .bool true]
  | none => .tuple #[partV zeroP, .string ByteArray.empty, .bool false]
def strLen : Value → Nat
  | .string s => s.size
  | _ => 0
def wordR (q : List Nat × List Nat) : PartV × List Nat := (⟨2, 0, strOf q.1⟩, q.2)
theorem nums_nil {s : ByteArray} (h : s.size = 0) : numsOf s = [] := List.eq_nil_of_length_eq_zero (by rw [numsOf_len]; exact h)
theorem nums_cons {s : ByteArray} (h : 0 < s.size) : numsOf s = (s[0]'h).toNat :: numsOf (s.extract 1 s.size) := by
  rw [numsOf_extract]
  have h1 := drop_cons' (l := numsOf s) (k := 0) (d := 0) (by rw [numsOf_len]; exact h)
  rw [List.drop_zero, nums_at h, Nat.zero_add] at h1
  rw [List.take_of_length_le (by rw [List.length_drop, numsOf_len]; omega)]
  exact h1
theorem at0_split {t : ByteArray} {k : Nat} (h : At0 (numsOf t) k) : numsOf t = (numsOf t).take k ++ 0 :: numsOf (t.extract (k + 1) t.size) := by
  have h1 := drop_cons' (l := numsOf t) (k := k) (d := 0) h.1
  rw [h.2.1] at h1
  have h2 : numsOf (t.extract (k + 1) t.size) = (numsOf t).drop (k + 1) := by
    rw [numsOf_extract, List.take_of_length_le (by rw [List.length_drop, numsOf_len]; omega)]
  rw [h2, ← h1, List.take_append_drop]
theorem empty_of {s : ByteArray} (h : s.size = 0) : s.toList.isEmpty = true := by
  rw [ByteArray.toList_eq, List.isEmpty_iff]; exact List.eq_nil_of_length_eq_zero (by rw [Array.length_toList]; exact h)
theorem nonempty_of {s : ByteArray} (h : 0 < s.size) : s.toList.isEmpty = false := by
  rw [ByteArray.toList_eq]
  cases hl : s.data.toList with
  | nil => have : s.data.toList.length = s.size := Array.length_toList; rw [hl] at this; simp at this; omega
  | cons _ _ => rfl
def boxP : Obj := .cells #[.int .u8 0, .int .i64 0, .string ByteArray.empty] 26
structure OnW (w : World) (s : ByteArray) (R : Option (List Nat × List Nat)) (t : ByteArray) (acc : List Nat) (wr : World) : Prop where
  bld : Bld (w.heap.size + 1) (w.heap.size + 1) acc wr
  bel : Below (w.heap.size + 1) (w.alloc boxP) wr
  len : acc.length + t.size ≤ s.size
  byte : ∀ c ∈ acc, c < 256
  un : (unesc (numsOf t)).map (fun q => (acc ++ q.1, q.2)) = R
theorem OnW.below {w : World} {s : ByteArray} {R : Option (List Nat × List Nat)} {t : ByteArray} {acc : List Nat} {wr w' : World} (h : OnW w s R t acc wr) (hb : Below wr.heap.size wr w') : OnW w s R t acc w' :=
  ⟨h.bld.below hb, h.bel.trans (hb.mono (by have := h.bel.size; simpa using this)), h.len, h.byte, h.un⟩
theorem OnW.size {w : World} {s : ByteArray} {R : Option (List Nat × List Nat)} {t : ByteArray} {acc : List Nat} {wr : World} (h : OnW w s R t acc wr) : w.heap.size + 1 ≤ wr.heap.size := by have := h.bel.size; simpa using this
theorem OnW.t3 {w : World} {s : ByteArray} {R : Option (List Nat × List Nat)} {t : ByteArray} {acc : List Nat} {wr : World} (h : OnW w s R t acc wr) : T3 wr w.heap.size := (t3_box (heap_alloc_new w boxP) rfl).below h.bel (by omega)
theorem OnW.all {w : World} {s : ByteArray} {R : Option (List Nat × List Nat)} {t : ByteArray} {acc : List Nat} {wr : World} (h : OnW w s R t acc wr) : Below w.heap.size w wr := (below_alloc w boxP).trans (h.bel.mono (by omega))
theorem start_w (w : World) (s : ByteArray) : OnW w s (unesc (numsOf s)) s [] ((w.alloc boxP).alloc (.cells #[.pointer none, .slice none 0 0] 51)) := by
  have h := fresh_bld (w.alloc boxP)
  have hs : (w.alloc boxP).heap.size = w.heap.size + 1 := by simp
  rw [hs] at h
  refine ⟨h, (Below.refl _ _).alloc (by rw [hs]; omega) _, by simp, by simp, ?_⟩
  cases unesc (numsOf s) <;> simp
theorem word_agg (s : ByteArray) (w : World) : Calls Try.prog 11 #[.string s] w fun e w' => e = .returned (.agg #[.int .u8 2, .int .i64 0, .string s]) ∧ Below w.heap.size w w' := word_any s w
theorem num_agg (n : Int) (w : World) : Calls Try.prog 10 #[.int .i64 n] w fun e w' => e = .returned (.agg #[.int .u8 1, .int .i64 n, .string ByteArray.empty]) ∧ Below w.heap.size w w' := num_any n w
abbrev Keeps (w w' : World) : Prop := T3 w' w.heap.size ∧ Below w.heap.size w w'
theorem kp0 {w w4 : World} (h : Keeps w w4) : Keeps w w4.drew := ⟨h.1.below (B := w.heap.size + 1) (Below.refl _ _).drew (by omega), h.2.drew⟩
theorem kpS {w w4 w5 : World} (h : Keeps w w4) (hb : Below (w.heap.size + 1) w4.drew w5) : Keeps w w5 := ⟨(kp0 h).1.below hb (by omega), (kp0 h).2.trans (hb.mono (by omega))⟩
theorem kpW {w w5 w6 : World} (h : Keeps w w5) (hb : Below w5.heap.size w5 w6) : Keeps w w6 := ⟨h.1.below hb (World.block_lt_of_cell? _ _ h.1.1.1), below_bt h.2 hb⟩
theorem kpSet {w w6 : World} {a b c : Value} (h : Keeps w w6) : Keeps w (((w6.setCell ⟨w.heap.size, 0, none⟩ a).setCell ⟨w.heap.size, 1, none⟩ b).setCell ⟨w.heap.size, 2, none⟩ c) := ⟨((h.1.set 0 a).set 1 b).set 2 c, set3_below h.2⟩
set_option maxRecDepth 8000 in
set_option maxHeartbeats 4000000 in
theorem cutWord_any (s : ByteArray) (w : World) (hs : (s.size : Int) ≤ 1000) (R : Option (List Nat × List Nat)) (hR : unesc (numsOf s) = R) :
    Calls Try.prog 46 #[.string s] w fun e w' => e = .returned (cutE (R.map wordR)) ∧ Below w.heap.size w w' := by
  have HS0 := start_w w s
  rw [hR] at HS0
  have HST : Hid (OnW w s R s [] ((w.alloc boxP).alloc (.cells #[.pointer none, .slice none 0 0] 51))) := HS0
  have HSZ : Hid (s.size ≤ 1000) := by show _ ≤ _; omega
  clear HS0 hR
  go_enter Try.func46, Try.ntmps46
  go_wp2
  go_loopw [0] (fun v wr => ∃ t acc, v = .string t ∧ OnW w s R t acc wr) (fun v _ => strLen v)
  case atStart => exact ⟨s, [], rfl, HST.out⟩
  case round =>
    clear HST
    obtain ⟨t, acc, rfl, hon⟩ := hrel
    have HON : Hid (OnW w s R t acc wr) := hon
    have HTZ : Hid (t.size ≤ 1000 ∧ acc.length ≤ 1000) := ⟨by have := hon.len; have := HSZ.out; omega, by have := hon.len; have := HSZ.out; omega⟩
    clear hon
    by_cases hz : ∀ c ∈ numsOf t, c ≠ 0
    · have HN : Hid (R = none) := by have := HON.out.un; rw [unesc_none hz] at this; exact this.symm
      have HZ : Hid (∀ c ∈ numsOf t, c ≠ 0) := hz
      clear hz
      go_wp2_with fail
      refine (cut0_no t _ HZ.out).mono ?_
      rintro e w3 ⟨rfl, hb3⟩
      have H3 : Hid (OnW w s R t acc w3) := HON.out.below hb3
      obtain ⟨⟨c0, z0⟩, ⟨c1, z1⟩, c2, z2⟩ := H3.out.t3
      clear hb3 HON
      go_wp2
      (try simp only [Exit.inBlock, Exit.then])
      refine bodyPost_ret (v := cutE (R.map wordR)) ?_ rfl ⟨rfl, set3_below H3.out.all⟩
      rw [results_cell_tmp2 rfl, HN.out]
      go_simp
      rfl
    · obtain ⟨k, hk⟩ : ∃ k, At0 (numsOf t) k := by
        rcases index_nums t with ⟨_, h⟩ | ⟨k, _, h⟩
        · exact absurd h hz
        · exact ⟨k, h⟩
      have HK : Hid (At0 (numsOf t) k ∧ k < t.size) := ⟨hk, by have := hk.1; rw [numsOf_len] at this; exact this⟩
      have HSP := at0_split hk
      obtain ⟨ah, hah⟩ : ∃ ah, t.extract 0 k = ah := ⟨_, rfl⟩
      obtain ⟨bh, hbh⟩ : ∃ bh, t.extract (k + 1) t.size = bh := ⟨_, rfl⟩
      have HAH : Hid (numsOf ah = (numsOf t).take k ∧ ah.size = k ∧ bh.size + k + 1 = t.size ∧ numsOf t = (numsOf t).take k ++ 0 :: numsOf bh) := by
        refine ⟨by rw [← hah, numsOf_extract]; rfl, by rw [← hah]; simp [ByteArray.size_extract]; have := HK.out.2; omega, by rw [← hbh]; simp [ByteArray.size_extract]; have := HK.out.2; omega, by rw [← hbh]; exact HSP⟩
      have HUN : Hid (unesc (numsOf t) = (unesc (0 :: numsOf bh)).map (fun q => ((numsOf t).take k ++ q.1, q.2))) := by
        show _ = _
        have := unesc_pre ((numsOf t).take k) (0 :: numsOf bh) hk.2.2
        rw [← HAH.out.2.2.2] at this
        exact this
      have HC := fun w' => cut0_yes t k w' hk (by have := HTZ.out; omega)
      rw [hah, hbh] at HC
      clear hz hk HSP hah hbh
      by_cases hb0 : bh.size = 0
      · have g1 := empty_of hb0
        have HN : Hid (R = none) := by
          have := HON.out.un
          rw [HUN.out, nums_nil hb0] at this
          exact this.symm
        clear hb0
        go_wp2_with fail
        refine (HC _).mono ?_
        rintro e w3 ⟨rfl, hb3⟩
        have H3 : Hid (OnW w s R t acc w3) := HON.out.below hb3
        obtain ⟨⟨c0, z0⟩, ⟨c1, z1⟩, c2, z2⟩ := H3.out.t3
        clear hb3 HON HC
        go_wp2
        (try simp only [Exit.inBlock, Exit.then])
        refine bodyPost_ret (v := cutE (R.map wordR)) ?_ rfl ⟨rfl, set3_below H3.out.all⟩
        rw [results_cell_tmp2 rfl, HN.out]
        go_simp
        rfl
      · have hb1 : 0 < bh.size := by omega
        have g1 := nonempty_of hb1
        have hb1I : (0 : Int) < (bh.size : Int) := by omega
        obtain ⟨d, hd⟩ : ∃ d, (bh[0]'hb1).toNat = d := ⟨_, rfl⟩
        have HBC := nums_cons hb1
        rw [hd] at HBC
        have HD : Hid (numsOf bh = d :: numsOf (bh.extract 1 bh.size) ∧ 0 < bh.size) := ⟨HBC, hb1⟩
        have hd256 : d < 256 := by rw [← hd]; exact UInt8.toNat_lt _
        clear hb0 HBC
        go_wp2_with fail
        refine (HC _).mono ?_
        rintro e w3 ⟨rfl, hb3⟩
        have H3 : Hid (OnW w s R t acc w3) := HON.out.below hb3
        clear hb3 HON HC
        go_wp2_with fail
        refine (writeString_any (w.heap.size + 1) (w.heap.size + 1) acc ah _ H3.out.bld (by have := HTZ.out; have := HAH.out; omega) H3.out.size).mono ?_
        rintro e w4 ⟨rfl, hb4, hbel4, _⟩
        rw [HAH.out.1] at hb4
        have HB4 : Hid (Bld (w.heap.size + 1) (w.heap.size + 1) (acc ++ (numsOf t).take k) w4) := hb4
        have HE4 : Hid (Below (w.heap.size + 1) (w.alloc boxP) w4 ∧ w.heap.size + 1 ≤ w4.heap.size) := ⟨H3.out.bel.trans hbel4, by have := hbel4.size; have := H3.out.size; omega⟩
        have HT4 : Hid (T3 w4 w.heap.size) := H3.out.t3.below hbel4 (by omega)
        clear hb4 hbel4
        by_cases h1 : d = 1
        · have g2 : ((d : Int) == 1) = true := by simp [h1]
          have HN : Hid (R = some (acc ++ (numsOf t).take k, numsOf (bh.extract 1 bh.size))) := by
            have := H3.out.un
            rw [HUN.out, HD.out.1, h1] at this
            have e : unesc (0 :: 1 :: numsOf (bh.extract 1 bh.size)) = some ([], numsOf (bh.extract 1 bh.size)) := by unfold unesc; rw [if_pos rfl, if_pos rfl]
            rw [e] at this
            show R = _
            simpa using this.symm
          have HKP : Hid (Keeps w w4) := ⟨HT4.out, (below_alloc w boxP).trans (HE4.out.1.mono (by omega))⟩
          have HBY : Hid (∀ c ∈ acc ++ (numsOf t).take k, c < 256) := by
            intro c hc
            rcases List.mem_append.1 hc with h | h
            · exact H3.out.byte c h
            · exact numsOf_lt t c (List.mem_of_mem_take h)
          have hb1s : (1 : Int) ≤ (bh.size : Int) := by omega
          clear h1
          generalize hacc : acc ++ (numsOf t).take k = ac at *
          clear hacc
          go_wp2
          go_region_held3 (fun w' => ((w'.cell? ⟨w.heap.size, 0, none⟩ = some (cellAt w' ⟨w.heap.size, 0, none⟩) ∧ w'.frozen? ⟨w.heap.size, 0, none⟩ = false) ∧ (w'.cell? ⟨w.heap.size, 1, none⟩ = some (cellAt w' ⟨w.heap.size, 1, none⟩) ∧ w'.frozen? ⟨w.heap.size, 1, none⟩ = false) ∧ (w'.cell? ⟨w.heap.size, 2, none⟩ = some (cellAt w' ⟨w.heap.size, 2, none⟩) ∧ w'.frozen? ⟨w.heap.size, 2, none⟩ = false)) ∧ Below w.heap.size w w')
            (with_reducible first | exact kp0 HKP.out | exact kpS HKP.out (by assumption) | exact kpW (by assumption) (by assumption) | exact kpSet (by assumption) | assumption)
            (first
              | (go_at_call 26; refine (string_any (w.heap.size + 1) (w.heap.size + 1) ac _ (HB4.out.below (Below.refl _ _).drew) HBY.out HE4.out.2).mono ?_; rintro e5 w5 ⟨rfl, hb5⟩)
              | (go_at_call 11; refine (word_agg (strOf ac) _).mono ?_; rintro e6 w6 ⟨rfl, hb6⟩)
              | fail)
          rename_i hh
          have HHH : Hid (Below w.heap.size w _) := hh.2
          have hk6 := kpW (kpS HKP.out hb5) hb6
          obtain ⟨⟨⟨c0, z0⟩, ⟨c1, z1⟩, c2, z2⟩, _⟩ := hk6
          clear hh hb5 hb6
          go_wp2
          (try simp only [Exit.inBlock, Exit.then])
          refine bodyPost_ret (v := cutE (R.map wordR)) ?_ rfl ⟨rfl, HHH.out⟩
          have HV : Hid (cutE (R.map wordR) = .tuple #[.agg #[.int .u8 2, .int .i64 0, .string (strOf ac)], .string (bh.extract 1 bh.size), .bool true]) := by
            show _ = _
            rw [HN.out]
            show Value.tuple #[_, .string (strOf (numsOf (bh.extract 1 bh.size))), _] = _
            rw [strOf_nums]
            rfl
          rw [results_cell_tmp2 rfl, HV.out]
          go_simp
        · have g2 : ((d : Int) == 1) = false := by simp; omega
          by_cases h2 : d = 255
          · have g3 : ((d : Int) == 255) = true := by simp [h2]
            have HU5 : Hid ((unesc (numsOf (bh.extract 1 bh.size))).map (fun q => (acc ++ (numsOf t).take k ++ [0] ++ q.1, q.2)) = R) := by
              have := H3.out.un
              rw [HUN.out, HD.out.1, h2] at this
              have e : unesc (0 :: 255 :: numsOf (bh.extract 1 bh.size)) = (unesc (numsOf (bh.extract 1 bh.size))).map (fun q => (0 :: q.1, q.2)) := by
                conv => lhs; unfold unesc
                rw [if_pos rfl, if_neg (by omega), if_pos rfl]
              rw [e] at this
              show _ = _
              rw [← this, Option.map_map, Option.map_map]
              congr 1
              funext q
              simp
            have hb1s : (1 : Int) ≤ (bh.size : Int) := by omega
            clear h1 h2
            go_wp2_with fail
            refine (writeByte_any (w.heap.size + 1) (w.heap.size + 1) (acc ++ (numsOf t).take k) 0 _ HB4.out (by rw [List.length_append, List.length_take, numsOf_len]; have := HTZ.out; omega) HE4.out.2 (by omega)).mono ?_
            rintro e w5 ⟨rfl, hb5, hbel5, _⟩
            have HEX : Hid ((bh.extract 1 bh.size).size = bh.size - 1) := by show _ = _; simp [ByteArray.size_extract]
            have H5 : Hid (OnW w s R (bh.extract 1 bh.size) (acc ++ (numsOf t).take k ++ [0]) w5) := by
              refine ⟨hb5, HE4.out.1.trans hbel5, ?_, ?_, HU5.out⟩
              · have h1 := HEX.out
                have h2 := H3.out.len
                have h3 := HAH.out.2.2.1
                have h4 := HD.out.2
                rw [List.length_append, List.length_append, List.length_take, numsOf_len, List.length_singleton, h1]
                omega
              · intro c hc
                rcases List.mem_append.1 hc with h | h
                · rcases List.mem_append.1 h with h | h
                  · exact H3.out.byte c h
                  · exact numsOf_lt t c (List.mem_of_mem_take h)
                · simp at h; omega
            clear hb5 hbel5
            go_wp2
            go_roundw
            case rel => exact ⟨bh.extract 1 bh.size, _, rfl, H5.out⟩
            case measure =>
              have h1 := HEX.out
              have h3 := HAH.out.2.2.1
              have h4 := HD.out.2
              show (bh.extract 1 bh.size).size < t.size
              omega
          · have g3 : ((d : Int) == 255) = false := by simp; omega
            have HN : Hid (R = none) := by
              have := H3.out.un
              rw [HUN.out, HD.out.1] at this
              have e : unesc (0 :: d :: numsOf (bh.extract 1 bh.size)) = none := by unfold unesc; rw [if_pos rfl, if_neg h1, if_neg h2]
              rw [e] at this
              exact this.symm
            obtain ⟨⟨c0, z0⟩, ⟨c1, z1⟩, c2, z2⟩ := HT4.out
            clear h1 h2
            go_wp2
            (try simp only [Exit.inBlock, Exit.then])
            refine bodyPost_ret (v := cutE (R.map wordR)) ?_ rfl ⟨rfl, set3_below ((below_alloc w boxP).trans (HE4.out.1.mono (by omega)))⟩
            rw [results_cell_tmp2 rfl, HN.out]
            go_simp
            rfl
end Go.Proofs.Ythebnealkekdmaa
namespace Go.Proofs.Ythebnealkekdmaa
open Go.RowKit Go.WideShapes

def numR (x : List Nat) : Option (PartV × List Nat) := if 8 ≤ x.length then some (⟨1, (valN (x.take 8) : Int) - 9223372036854775808, ByteArray.empty⟩, x.drop 8) else none
theorem eight {x : List Nat} (h : 8 ≤ x.length) : ∃ b0 b1 b2 b3 b4 b5 b6 b7, x.take 8 = [b0, b1, b2, b3, b4, b5, b6, b7] := by
  match x, h with
  | b0 :: b1 :: b2 :: b3 :: b4 :: b5 :: b6 :: b7 :: t, _ => exact ⟨b0, b1, b2, b3, b4, b5, b6, b7, rfl⟩
theorem join_val (b0 b1 b2 b3 b4 b5 b6 b7 : Nat) : joinN b7 b6 b5 b4 b3 b2 b1 b0 = valN [b0, b1, b2, b3, b4, b5, b6, b7] := by
  unfold joinN
  simp only [valN, List.length_cons, List.length_nil, Nat.reduceAdd, Nat.reducePow]
  omega
theorem turn_wrap {v : Nat} (h : v < 18446744073709551616) : IntKind.i64.wrap (turn v : Int) = (v : Int) - 9223372036854775808 := by
  rw [IntKind.wrap_i64]
  unfold turn
  split <;> omega
theorem kpG {w w1 w2 : World} {g : Nat} (h : Keeps w w1) (hg : w1.grownBy w2 (some g)) (hw : w.heap.size < g) : Keeps w w2 := by
  refine ⟨?_, h.2.grown hg h.2.size (fun k hk => by injection hk with hk; omega)⟩
  have hlt := World.block_lt_of_cell? _ _ h.1.1.1
  have e : w2.heap[w.heap.size]? = w1.heap[w.heap.size]? := hg.block _ hlt (fun e => by injection e with e; omega)
  have h1 := h.1
  unfold T3 cellAt World.cell? World.frozen? at *
  simp only [e]
  exact h1
theorem kpB {w : World} : Keeps w (w.alloc boxP) := ⟨t3_box (heap_alloc_new w boxP) rfl, below_alloc w boxP⟩
set_option maxRecDepth 8000 in
set_option maxHeartbeats 4000000 in
theorem cutNum_any (s : ByteArray) (w : World) (hs : (s.size : Int) ≤ 1000) (R : Option (PartV × List Nat)) (hR : numR (numsOf s) = R) :
    Calls Try.prog 45 #[.string s] w fun e w' => e = .returned (cutE R) ∧ Below w.heap.size w w' := by
  by_cases h8 : s.size < 8
  · have g1 : decide ((s.size : Int) < 8) = true := decide_eq_true (by omega)
    have HN : Hid (R = none) := by show R = none; rw [← hR]; unfold numR; rw [if_neg (by rw [numsOf_len]; omega)]
    clear hR h8
    go_enter Try.func45, Try.ntmps45
    go_wp2
    (try simp only [Exit.inBlock, Exit.then])
    refine bodyPost_ret (v := cutE R) ?_ rfl ⟨rfl, below_alloc _ _⟩
    rw [results_cell_tmp2 rfl, HN.out]
    go_simp
    rfl
  · have g1 : decide ((s.size : Int) < 8) = false := decide_eq_false (by omega)
    have h8I : (8 : Int) ≤ (s.size : Int) := by omega
    have hl8 : 8 ≤ (numsOf s).length := by rw [numsOf_len]; omega
    obtain ⟨b0, b1, b2, b3, b4, b5, b6, b7, h8e⟩ := eight hl8
    have HBY : Hid (∀ c ∈ [b0, b1, b2, b3, b4, b5, b6, b7], c < 256) := by rw [← h8e]; exact fun c hc => numsOf_lt s c (List.mem_of_mem_take hc)
    obtain ⟨v, hv⟩ : ∃ v, valN [b0, b1, b2, b3, b4, b5, b6, b7] = v := ⟨_, rfl⟩
    have HV : Hid (v < 18446744073709551616 ∧ joinN b7 b6 b5 b4 b3 b2 b1 b0 = v) := by
      refine ⟨?_, (join_val _ _ _ _ _ _ _ _).trans hv⟩
      have h1 := valN_lt _ HBY.out
      have hp : (256 : Nat) ^ 8 = 18446744073709551616 := by decide
      rw [hv, show [b0, b1, b2, b3, b4, b5, b6, b7].length = 8 from rfl, hp] at h1
      exact h1
    have HR : Hid (R = some (⟨1, (v : Int) - 9223372036854775808, ByteArray.empty⟩, numsOf (s.extract 8 s.size))) := by
      show R = _
      rw [← hR]; unfold numR; rw [if_pos hl8, h8e, hv, numsOf_extract, List.take_of_length_le (by rw [List.length_drop, numsOf_len]; omega)]
    have hex : (s.extract 0 8).size = 8 := by simp [ByteArray.size_extract]; omega
    obtain ⟨W, cap, hcv, hbel, hin, hfz⟩ := made_bytes (s.extract 0 8) 8 (w.alloc boxP) hex (by omega)
    rw [numsOf_extract] at hin
    have hin' : BIn W (some ⟨(w.alloc boxP).heap.size, 0, none⟩) [b0, b1, b2, b3, b4, b5, b6, b7] := by rw [← h8e]; exact hin
    have hsz : (w.alloc boxP).heap.size = w.heap.size + 1 := by simp
    rw [hsz] at hcv hin' hfz hbel
    have HI : Hid (BIn W (some ⟨w.heap.size + 1, 0, none⟩) [b0, b1, b2, b3, b4, b5, b6, b7]) := hin'
    have HF : Hid (∀ i, i < 8 → W.frozen? ⟨w.heap.size + 1, i, none⟩ = false) := hfz
    have HKP : Hid (Keeps w W) := kpW kpB (by rw [hsz]; exact hbel)
    have hcv2 : (convert 9 36 (.string (s.extract 0 8))).run Try.prog (w.alloc (.cells #[.int .u8 0, .int .i64 0, .string ⟨#[]⟩] 26)) = .ok (.slice (some ⟨w.heap.size + 1, 0, none⟩) 8 cap) W := hcv
    clear hR h8 hl8 h8e hin hin' hfz hbel hcv hsz hex hv
    go_enter Try.func45, Try.ntmps45
    go_wp2_with fail
    refine (rev_any (w.heap.size + 1) 8 cap [b0, b1, b2, b3, b4, b5, b6, b7] _ rfl HI.out HF.out (by omega)).mono ?_
    rintro e w2 ⟨rfl, hrow2, hg2, _⟩
    have HK2 : Hid (Keeps w w2) := kpG HKP.out hg2 (by omega)
    have HR2 : Hid (BIn w2 (some ⟨w.heap.size + 1, 0, none⟩) [b7, b6, b5, b4, b3, b2, b1, b0]) := hrow2
    clear hrow2 hg2 hcv2 HI HF HKP
    go_wp2_with fail
    refine (get_ok (some ⟨w.heap.size + 1, 0, none⟩) cap b7 b6 b5 b4 b3 b2 b1 b0 _ HR2.out).mono ?_
    rintro e w3 ⟨rfl, hb3⟩
    rw [HV.out.2]
    have HK3 : Hid (Keeps w w3) := kpW HK2.out hb3
    have kw := turn_wrap HV.out.1
    clear hb3 HR2 HK2
    go_wp2
    go_region_held3 (fun w' => ((w'.cell? ⟨w.heap.size, 0, none⟩ = some (cellAt w' ⟨w.heap.size, 0, none⟩) ∧ w'.frozen? ⟨w.heap.size, 0, none⟩ = false) ∧ (w'.cell? ⟨w.heap.size, 1, none⟩ = some (cellAt w' ⟨w.heap.size, 1, none⟩) ∧ w'.frozen? ⟨w.heap.size, 1, none⟩ = false) ∧ (w'.cell? ⟨w.heap.size, 2, none⟩ = some (cellAt w' ⟨w.heap.size, 2, none⟩) ∧ w'.frozen? ⟨w.heap.size, 2, none⟩ = false)) ∧ Below w.heap.size w w')
      (with_reducible first | exact kp0 HK3.out | exact kpW (by assumption) (by assumption) | exact kpSet (by assumption) | assumption)
      (first
        | (go_at_call 53; refine (turned_any v (turn v) _ HV.out.1 rfl).mono ?_; rintro e5 w5 ⟨rfl, rfl⟩)
        | (go_at_call 10; refine (num_agg _ _).mono ?_; rintro e6 w6 ⟨rfl, hb6⟩)
        | fail)
    rename_i hh
    have HHH : Hid (Below w.heap.size w _) := hh.2
    have hk6 := kpW (kp0 HK3.out) hb6
    obtain ⟨⟨⟨c0, z0⟩, ⟨c1, z1⟩, c2, z2⟩, _⟩ := hk6
    clear hh hb6
    go_wp2
    (try simp only [Exit.inBlock, Exit.then])
    refine bodyPost_ret (v := cutE R) ?_ rfl ⟨rfl, HHH.out⟩
    have HVV : Hid (cutE R = .tuple #[.agg #[.int .u8 1, .int .i64 ((v : Int) - 9223372036854775808), .string ByteArray.empty], .string (s.extract 8 s.size), .bool true]) := by
      show _ = _
      rw [HR.out]
      show Value.tuple #[_, .string (strOf (numsOf (s.extract 8 s.size))), _] = _
      rw [strOf_nums]
      rfl
    rw [results_cell_tmp2 rfl, HVV.out]
    go_simp
end Go.Proofs.Ythebnealkekdmaa
