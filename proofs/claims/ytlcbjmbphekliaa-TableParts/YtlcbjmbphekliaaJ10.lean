/-
  For any entries and any three keys the law TableParts answers true: what stands from one key to another one, and from there on, is what stands in all.
-/
import Derived.Test.YtlcbjmbphekliaaJ09
import Derived.Test.YtlcbjmbphekliaaRows
import Derived.WalkKit
import Derived.ProofKit
import Derived.OpenShut
import Derived.ShutString
import Derived.ChangeOld
import Derived.Below
namespace Go.Proofs.Ytlcbjmbphekliaa
open Go.RowKit Go.WideShapes

theorem run_append_two (w : World) (base : Nat) (ty : TypeId) (v : Value) (l l' : List EntV) (p : Option Addr) (c : Nat) (hown : EOwn w base v l) (hin : EntsIn w p l') (hp : p = none → c = 0) (hlen : l.length + l'.length ≤ 1000000) (hbase : base ≤ w.heap.size) :
    ∃ v' w', (Builtin.append_ #[26, 26] ty #[v, .slice p l'.length c]).run Try.prog w = .ok v' w' ∧ EOwn w' base v' (l ++ l') ∧ w.grownBy w' v.ownBlock := by
  obtain ⟨i0, hi, hz0, hz1, hz2⟩ := info_parts' info_entry
  have hmax : l.length + l'.length ≤ maxLen := by unfold maxLen; omega
  cases p with
  | none =>
    obtain rfl : l' = [] := by
      cases l' with
      | nil => rfl
      | cons y l => obtain ⟨b, o, e, _⟩ := hin (by simp); cases e
    obtain rfl := hp rfl
    exact ⟨_, w, run_append_owned_none (P := Try.prog) w base 26 ty 29 i0 4 Try.underlying26 hi v l.length (cellsE l) hown, by simpa using hown, ⟨rfl, rfl, rfl, Nat.le_refl _, fun _ _ _ => rfl⟩⟩
  | some ad =>
    have hc : ∀ j u, (cellsE l')[j]? = some u → w.cell? (ad.add j) = some u := by
      intro j u hu
      have hpos : 0 < l'.length := by
        cases l' with
        | nil => simp [cellsE] at hu
        | cons y l => simp
      obtain ⟨b, o, e, _⟩ := hin hpos
      simp at e
      subst e
      exact ents_cells hin j u hu
    obtain ⟨v', w', h1, h2, h3, _⟩ := run_append_own (P := Try.prog) w base 26 ty 29 i0 (.agg #[.string ByteArray.empty, .string ByteArray.empty, .int .i64 0, .bool false]) 4 48 Try.underlying26 hi hz0 hz1 hz2 rfl (by decide) v l.length (cellsE l) hown ad l'.length c (cellsE l') (cellsE_len l') hc (cellsE_one l') hmax (by omega) hbase
    refine ⟨v', w', h1, ?_, h3⟩
    unfold EOwn
    rw [cellsE_app, List.length_append]
    exact h2
theorem wpList_append_two (w : World) {ops : Array Oper} {rest : List Oper} {o : Oper} {a : Act} {Q : Exit → Act → World → Prop} (hw : Region.wanted o (yielded ops a.tmps) = true) (s x : Operand)
    (ho : o.op = .call { callee := .builtin .append, args := #[s, x], argTypes := #[26, 26] }) (base : Nat) (v : Value) (l l' : List EntV) (p : Option Addr) (m c : Nat) (hs : a.eval s = v) (hx : a.eval x = .slice p m c) (hm : m = l'.length)
    (hown : EOwn w base v l) (hin : EntsIn w p l') (hp : p = none → c = 0) (hlen : l.length + l'.length ≤ 1000000) (hbase : base ≤ w.heap.size)
    (h : ∀ v' w', EOwn w' base v' (l ++ l') → w.grownBy w' v.ownBlock → wpList Try.prog ops Q rest (a.put o.dst v') w') : wpList Try.prog ops Q (o :: rest) a w := by
  subst hm
  refine wpList_step fun K hK => ?_
  rw [if_pos hw]
  obtain ⟨v', w', hr, h2, h3⟩ := run_append_two w base o.type v l l' p c hown hin hp hlen hbase
  unfold Oper.wp execOp
  simp only [ho, resolve, invoke, builtin, Sem.run_bind, Sem.run_pure, Result.andThen_ok, List.map_toArray, List.map_cons, List.map_nil, hs, hx, hr]
  exact hK _ _ (h v' w' h2 h3)
/-- Two rows of one's own, the one older than the other's beginning. -/
theorem own_apart {w w' : World} {B1 B2 : Nat} {v1 v2 : Value} {l1 l2 : List EntV} (h1 : EOwn w B1 v1 l1) (h2 : EOwn w' B2 v2 l2) (h : w.heap.size ≤ B2) : v2.ownBlock = none ∨ v2.ownBlock ≠ v1.ownBlock := by
  cases h3 : v2.ownBlock with
  | none => exact .inl rfl
  | some k =>
    right
    intro e
    have a := (World.ownsRow.lt h1 k e.symm).2
    have b := (World.ownsRow.lt h2 k h3).1
    omega
theorem own_apart' {w w' : World} {B1 B2 : Nat} {v1 v2 : Value} {l1 l2 : List EntV} (h1 : EOwn w B1 v1 l1) (h2 : EOwn w' B2 v2 l2) (h : w.heap.size ≤ B2) : v1.ownBlock = none ∨ v1.ownBlock ≠ v2.ownBlock := by
  cases h3 : v1.ownBlock with
  | none => exact .inl rfl
  | some k =>
    right
    intro e
    have a := (World.ownsRow.lt h1 k h3).2
    have b := (World.ownsRow.lt h2 k e.symm).1
    omega
theorem ents_grownE {w w' : World} {base : Nat} {v : Value} {l : List EntV} (h : EOwn w base v l) (hg : w.grownBy w' v.ownBlock) {w0 : World} (h0 : Below w0.heap.size w0 w) (hb : w0.heap.size ≤ base) : Below w0.heap.size w0 w' := h0.grown hg h0.size (fun k hk => by have := (World.ownsRow.lt h k hk).1; omega)
theorem bool_and_eq {a b c : Bool} (h : a = true → (b = true ↔ c = true)) : (a && b) = (a && c) := by
  cases a with
  | false => rfl
  | true =>
    have := h rfl
    cases b <;> cases c <;> simp_all
theorem ltB_le_trans {a b c : ByteArray} (h1 : ltB b a = false) (h2 : ltB c b = false) : ltB c a = false := by
  cases h : ltB c a with
  | false => rfl
  | true => rw [ltB_lt_le h h1] at h2; cases h2
theorem parts_join {l : List EntV} (hr : RiseE l) {a b c : ByteArray} (hab : ltB b a = false) (hbc : ltB c b = false) (hb : b ≠ ByteArray.empty) (hc : c ≠ ByteArray.empty) : l.filter (keepU a b) ++ l.filter (keepU b c) = l.filter (keepU a c) := by
  rw [← filter_split hr b (keepU a c)]
  congr 1
  · congr 1
    funext x
    unfold keepU
    rw [decide_eq_false hb, decide_eq_false hc, Bool.false_or, Bool.false_or, Bool.and_assoc]
    refine bool_and_eq fun _ => ?_
    rw [Bool.and_eq_true]
    exact ⟨fun h => ⟨ltB_lt_le h hbc, h⟩, fun h => h.2⟩
  · congr 1
    funext x
    unfold keepU
    rw [decide_eq_false hc, Bool.false_or, Bool.and_assoc, Bool.and_comm (ltB x.key c), ← Bool.and_assoc]
    congr 1
    cases h1 : ltB x.key b with
    | true => simp
    | false => rw [ltB_le_trans hab h1]; rfl
theorem parts_all {l : List EntV} (hr : RiseE l) {a b c : ByteArray} (hab : ltB b a = false) (hbc : ltB c b = false) (hc : c ≠ ByteArray.empty) : (l.filter (fun x => ltB x.key a) ++ l.filter (keepU a c)) ++ l.filter (keepU c ByteArray.empty) = l := by
  have hac := ltB_le_trans hab hbc
  conv => rhs; rw [← rise_split l c hr, ← filter_split hr a (fun x => ltB x.key c)]
  congr 1
  · congr 1
    · congr 1
      funext x
      cases h : ltB x.key a with
      | false => simp
      | true => rw [ltB_lt_le h hac]; rfl
    · congr 1
      funext x
      unfold keepU
      rw [decide_eq_false hc, Bool.false_or, Bool.and_comm]
  · congr 1
    funext x
    unfold keepU
    simp
theorem keep_empty (a : ByteArray) (ha : a ≠ ByteArray.empty) (l : List EntV) : l.filter (keepU ByteArray.empty a) = l.filter (fun x => ltB x.key a) := by
  congr 1
  funext x
  unfold keepU
  rw [ltB_empty, decide_eq_false ha]
  rfl
theorem below_none (l : List EntV) : l.filter (fun x => ltB x.key ByteArray.empty) = [] := filter_none (fun _ _ => ltB_empty _)
end Go.Proofs.Ytlcbjmbphekliaa
namespace Go.Proofs.Ytlcbjmbphekliaa.tableParts
open Go.ChangeShapes Go.WideShapes Go.ChangeAt Go.RowKit
open Go.ChangeMaps (open_string shut_string)
set_option linter.unusedVariables false

theorem own : ownKnob Try.prog.godebug = none := by kernel_rfl
theorem laidOut : laidOutB Try.prog = true := by kernel_rfl

theorem le_of_or {a b : ByteArray} (h : Op.bytesLess a.toList b.toList = true ∨ a.toList = b.toList) : ltB b a = false := by
  rcases h with h | h
  · exact ltB_asymm h
  · have e : a = b := ba_ext.1 (by rw [← ByteArray.toList_eq, ← ByteArray.toList_eq]; exact h)
    rw [e, ltB_irrefl]
set_option maxRecDepth 8000 in
set_option maxHeartbeats 4000000 in
theorem walk (va : Value) (l : List EntV) (a b c : ByteArray) (w : World) (ha : Ents w va l) (hka : a.size ≤ maxLen) (hkb : b.size ≤ maxLen) (hkc : c.size ≤ maxLen) :
    Calls Try.prog 8 #[va, .string a, .string b, .string c] w fun e w' => e = .returned (.bool true) ∧ Below w.heap.size w w' := by
  obtain ⟨q, cc, rfl, hq, hc1, hc2, hc3⟩ := ha.lies
  have HQ : Hid (EntsIn w q l ∧ (l.length : Int) ≤ 9223372036854775807 ∧ l.length ≤ cc ∧ cc ≤ maxLen) := ⟨hq, by unfold maxLen at hc2; omega, hc1, hc2⟩
  have haI : (a.size : Int) ≤ 9223372036854775807 := by unfold maxLen at hka; omega
  have hbI : (b.size : Int) ≤ 9223372036854775807 := by unfold maxLen at hkb; omega
  have hcI : (c.size : Int) ≤ 9223372036854775807 := by unfold maxLen at hkc; omega
  obtain ⟨ys, E, hR⟩ : ∃ ys E, makeT l = (ys, E) := ⟨_, _, rfl⟩
  have HR : Hid (makeT l = (ys, E)) := hR
  clear ha hq hc1 hc2 hc3 hR hka hkb hkc
  go_enter Try.func8, Try.ntmps8
  go_wp2_with fail
  refine (alive_any _).mono ?_
  rintro e w1 ⟨rfl, hb1⟩
  have HB1 : Hid (Below w.heap.size w w1) := hb1
  clear hb1
  go_wp2_with fail
  refine (heavy_any q l.length cc l _ ⟨rfl, HQ.out.1.below HB1.out⟩ HQ.out.2.1).mono ?_
  rintro e w2 ⟨⟨r, rfl, hr⟩, hb2⟩
  have HB2 : Hid (Below w.heap.size w w2) := below_bt HB1.out hb2
  clear hb2
  cases r with
  | true =>
    clear hr
    go_wp2
    go_ret
    exact ⟨rfl, HB2.out⟩
  | false =>
    have hN5 : l.length ≤ 5000 := hr rfl
    have HN5 : Hid (l.length ≤ 5000) := hN5
    clear hr hN5
    by_cases k1 : 256 < a.size
    · have gk1 : decide ((256 : Int) < (a.size : Int)) = true := decide_eq_true (by omega)
      clear k1
      go_wp2
      go_ret
      exact ⟨rfl, HB2.out⟩
    have gk1 : decide ((256 : Int) < (a.size : Int)) = false := decide_eq_false (by omega)
    by_cases k2 : 256 < b.size
    · have gk2 : decide ((256 : Int) < (b.size : Int)) = true := decide_eq_true (by omega)
      clear k1 k2
      go_wp2
      go_ret
      exact ⟨rfl, HB2.out⟩
    have gk2 : decide ((256 : Int) < (b.size : Int)) = false := decide_eq_false (by omega)
    by_cases k3 : 256 < c.size
    · have gk3 : decide ((256 : Int) < (c.size : Int)) = true := decide_eq_true (by omega)
      clear k1 k2 k3
      go_wp2
      go_ret
      exact ⟨rfl, HB2.out⟩
    have gk3 : decide ((256 : Int) < (c.size : Int)) = false := decide_eq_false (by omega)
    by_cases k4 : (Op.bytesLess a.toList b.toList = true ∨ a.toList = b.toList)
    rotate_left
    · have gk4 : (!Op.bytesLess a.toList b.toList && !a.toList == b.toList) = true := by
        rw [not_or] at k4
        simp [k4.1, k4.2]
      clear k1 k2 k3
      go_wp2
      go_ret
      exact ⟨rfl, HB2.out⟩
    have gk4 : (!Op.bytesLess a.toList b.toList && !a.toList == b.toList) = false := by
      rcases k4 with h | h
      · simp [h]
      · simp [h]
    by_cases k5 : (Op.bytesLess b.toList c.toList = true ∨ b.toList = c.toList)
    rotate_left
    · have gk5 : (!Op.bytesLess b.toList c.toList && !b.toList == c.toList) = true := by
        rw [not_or] at k5
        simp [k5.1, k5.2]
      clear k1 k2 k3
      go_wp2
      go_ret
      exact ⟨rfl, HB2.out⟩
    have gk5 : (!Op.bytesLess b.toList c.toList && !b.toList == c.toList) = false := by
      rcases k5 with h | h
      · simp [h]
      · simp [h]
    by_cases k6 : b = ByteArray.empty
    · have gk6 : b.toList.isEmpty = true := by rw [k6, ByteArray.toList_eq]; rfl
      have gk6' : (b.toList == []) = true := by rw [k6, ByteArray.toList_eq]; rfl
      clear k1 k2 k3 k6
      go_wp2
      go_ret
      exact ⟨rfl, HB2.out⟩
    have gk6 : b.toList.isEmpty = false := nonempty_of k6
    have gk6' : (b.toList == []) = false := by rw [← gk6]; cases b.toList <;> rfl
    by_cases k7 : c = ByteArray.empty
    · have gk7 : c.toList.isEmpty = true := by rw [k7, ByteArray.toList_eq]; rfl
      have gk7' : (c.toList == []) = true := by rw [k7, ByteArray.toList_eq]; rfl
      clear k1 k2 k3 k7
      go_wp2
      go_ret
      exact ⟨rfl, HB2.out⟩
    have gk7 : c.toList.isEmpty = false := nonempty_of k7
    have gk7' : (c.toList == []) = false := by rw [← gk7]; cases c.toList <;> rfl
    have HS : Hid (a.size ≤ 256 ∧ b.size ≤ 256 ∧ c.size ≤ 256 ∧ ltB b a = false ∧ ltB c b = false ∧ b ≠ ByteArray.empty ∧ c ≠ ByteArray.empty) := ⟨by omega, by omega, by omega, le_of_or k4, le_of_or k5, k6, k7⟩
    clear k1 k2 k3 k6 k7
    go_wp2_with fail
    refine (Make_t q l.length cc l _ ⟨rfl, HQ.out.1.below HB2.out⟩ HQ.out.2.2 ys E HR.out).mono ?_
    rintro e w3 ⟨v3, rfl, ho3, hb3⟩
    have HB3 : Hid (Below w.heap.size w w3) := below_bt HB2.out hb3
    rcases Nat.eq_zero_or_pos E with h0 | h0
    · subst h0
      obtain ⟨p3, c3, rfl, hh3⟩ := own_hand ho3 (makeT_lt HR.out)
      have HH : Hid (BHand w3 p3 ys.length c3 ys) := hh3
      have HRI : Hid (RiseE l) := ((checkE_rise l).1 (makeT_ok HR.out).1).2.2
      clear ho3 hb3 hh3 k4 k5 gk1 gk2 gk3 gk4 gk5 gk6 gk7 gk6' gk7'
      obtain ⟨Lx, hLx⟩ : ∃ L, l.filter (keepU a b) = L := ⟨_, rfl⟩
      have HLx : Hid (l.filter (keepU a b) = Lx) := hLx
      have HRx := Range_t p3 ys.length c3 ys a b w3 HH.out Lx 0 (by rw [range_made HR.out HS.out.1 HS.out.2.1, hLx]) haI hbI
      clear hLx
      go_wp2_with fail
      refine HRx.mono ?_
      rintro e w4 ⟨v4, rfl, hox, hb4⟩
      obtain ⟨qx, mx, rfl, _, _, hnx⟩ := hox.form
      have HB4 : Hid (Below w3.heap.size w3 w4) := hb4
      have HOx : Hid (EOwn w4 w3.heap.size (.slice qx Lx.length mx) Lx) := hox
      have HW4 : Hid (Below w3.heap.size w3 w4) := hb4
      clear HRx hox hb4
      obtain ⟨Ly, hLy⟩ : ∃ L, l.filter (keepU b c) = L := ⟨_, rfl⟩
      have HLy : Hid (l.filter (keepU b c) = Ly) := hLy
      have HRy := Range_t p3 ys.length c3 ys b c w4 (HH.out.below HB4.out) Ly 0 (by rw [range_made HR.out HS.out.2.1 HS.out.2.2.1, hLy]) hbI hcI
      clear hLy
      go_wp2_with fail
      refine HRy.mono ?_
      rintro e w5 ⟨v5, rfl, hoy, hb5⟩
      obtain ⟨qy, my, rfl, _, _, hny⟩ := hoy.form
      have HB5 : Hid (Below w3.heap.size w3 w5) := below_bt HB4.out hb5
      have HOy : Hid (EOwn w5 w4.heap.size (.slice qy Ly.length my) Ly) := hoy
      have HW5 : Hid (Below w4.heap.size w4 w5) := hb5
      clear HRy hoy hb5
      obtain ⟨Lz, hLz⟩ : ∃ L, l.filter (keepU a c) = L := ⟨_, rfl⟩
      have HLz : Hid (l.filter (keepU a c) = Lz) := hLz
      have HRz := Range_t p3 ys.length c3 ys a c w5 (HH.out.below HB5.out) Lz 0 (by rw [range_made HR.out HS.out.1 HS.out.2.2.1, hLz]) haI hcI
      clear hLz
      go_wp2_with fail
      refine HRz.mono ?_
      rintro e w6 ⟨v6, rfl, hoz, hb6⟩
      obtain ⟨qz, mz, rfl, _, _, hnz⟩ := hoz.form
      have HB6 : Hid (Below w3.heap.size w3 w6) := below_bt HB5.out hb6
      have HOz : Hid (EOwn w6 w5.heap.size (.slice qz Lz.length mz) Lz) := hoz
      have HW6 : Hid (Below w5.heap.size w5 w6) := hb6
      clear HRz hoz hb6
      obtain ⟨Lp, hLp⟩ : ∃ L, l.filter (keepU ByteArray.empty a) = L := ⟨_, rfl⟩
      have HLp : Hid (l.filter (keepU ByteArray.empty a) = Lp) := hLp
      have HRp := Range_t p3 ys.length c3 ys ByteArray.empty a w6 (HH.out.below HB6.out) Lp 0 (by rw [range_made HR.out (by decide) HS.out.1, hLp]) (by decide) haI
      clear hLp
      go_wp2_with fail
      refine HRp.mono ?_
      rintro e w7 ⟨v7, rfl, hop, hb7⟩
      obtain ⟨qp, mp, rfl, _, _, hnp⟩ := hop.form
      have HB7 : Hid (Below w3.heap.size w3 w7) := below_bt HB6.out hb7
      have HOp : Hid (EOwn w7 w6.heap.size (.slice qp Lp.length mp) Lp) := hop
      have HW7 : Hid (Below w6.heap.size w6 w7) := hb7
      clear HRp hop hb7
      obtain ⟨Lq, hLq⟩ : ∃ L, l.filter (keepU c ByteArray.empty) = L := ⟨_, rfl⟩
      have HLq : Hid (l.filter (keepU c ByteArray.empty) = Lq) := hLq
      have HRq := Range_t p3 ys.length c3 ys c ByteArray.empty w7 (HH.out.below HB7.out) Lq 0 (by rw [range_made HR.out HS.out.2.2.1 (by decide), hLq]) hcI (by decide)
      clear hLq
      go_wp2_with fail
      refine HRq.mono ?_
      rintro e w8 ⟨v8, rfl, hoq, hb8⟩
      obtain ⟨qq, mq, rfl, _, _, hnq⟩ := hoq.form
      have HB8 : Hid (Below w3.heap.size w3 w8) := below_bt HB7.out hb8
      have HOq : Hid (EOwn w8 w7.heap.size (.slice qq Lq.length mq) Lq) := hoq
      have HW8 : Hid (Below w7.heap.size w7 w8) := hb8
      clear HRq hoq hb8
      have HX8 : Hid (EOwn w8 w3.heap.size (.slice qx Lx.length mx) Lx) := (((HOx.out.below HW5.out).below HW6.out).below HW7.out).below HW8.out
      have HY8 : Hid (EOwn w8 w4.heap.size (.slice qy Ly.length my) Ly) := ((HOy.out.below HW6.out).below HW7.out).below HW8.out
      have HZ8 : Hid (EOwn w8 w5.heap.size (.slice qz Lz.length mz) Lz) := (HOz.out.below HW7.out).below HW8.out
      have HP8 : Hid (EOwn w8 w6.heap.size (.slice qp Lp.length mp) Lp) := HOp.out.below HW8.out
      have HQ8 : Hid (EOwn w8 w7.heap.size (.slice qq Lq.length mq) Lq) := HOq.out
      have HSZ : Hid (w.heap.size ≤ w3.heap.size ∧ w3.heap.size ≤ w4.heap.size ∧ w4.heap.size ≤ w5.heap.size ∧ w5.heap.size ≤ w6.heap.size ∧ w6.heap.size ≤ w7.heap.size ∧ w7.heap.size ≤ w8.heap.size) := ⟨HB3.out.size, HB4.out.size, HW5.out.size, HW6.out.size, HW7.out.size, HW8.out.size⟩
      have HLN : Hid (Lx.length ≤ 5000 ∧ Ly.length ≤ 5000 ∧ Lz.length ≤ 5000 ∧ Lp.length ≤ 5000 ∧ Lq.length ≤ 5000) := by
        have h5 := HN5.out
        refine ⟨?_, ?_, ?_, ?_, ?_⟩
        · rw [← HLx.out]; exact Nat.le_trans (List.length_filter_le _ _) h5
        · rw [← HLy.out]; exact Nat.le_trans (List.length_filter_le _ _) h5
        · rw [← HLz.out]; exact Nat.le_trans (List.length_filter_le _ _) h5
        · rw [← HLp.out]; exact Nat.le_trans (List.length_filter_le _ _) h5
        · rw [← HLq.out]; exact Nat.le_trans (List.length_filter_le _ _) h5
      have HXY : Hid (Lx ++ Ly = Lz) := by
        show _ = _
        rw [← HLx.out, ← HLy.out, ← HLz.out]
        exact parts_join HRI.out HS.out.2.2.2.1 HS.out.2.2.2.2.1 HS.out.2.2.2.2.2.1 HS.out.2.2.2.2.2.2
      have HWB : Hid (Below w.heap.size w w8) := below_bt HB3.out HB8.out
      have HX4 : Hid (EOwn w4 w3.heap.size (.slice qx Lx.length mx) Lx) := HOx.out
      have HP7 : Hid (EOwn w7 w6.heap.size (.slice qp Lp.length mp) Lp) := HOp.out
      clear HOx HOy HOz HOp HOq
      by_cases ke : a = ByteArray.empty
      · subst ke
        have HPA : Hid (([] ++ Lz) ++ Lq = l) := by
          show _ = _
          rw [← HLz.out, ← HLq.out, ← below_none l]
          exact parts_all HRI.out HS.out.2.2.2.1 HS.out.2.2.2.2.1 HS.out.2.2.2.2.2.2
        have hz8 := HB8.out.size
        go_wp2_with (at_builtin; go_loud (refine wpList_append_two _ (by rfl) _ _ rfl w3.heap.size (.slice qx Lx.length mx) Lx Ly qy _ my rfl rfl rfl HX8.out HY8.out.ents hny (by have := HLN.out; omega) hz8 ?_); intro v9 w9 ho9 hg9; have HO9 : Hid (EOwn w9 w3.heap.size v9 (Lx ++ Ly)) := ho9; have HG9 : Hid (w8.grownBy w9 (Value.slice qx Lx.length mx).ownBlock) := hg9; clear ho9 hg9; rw [HXY.out] at HO9; obtain ⟨q9, m9, hv9, _, _, _⟩ := HO9.out.form; subst hv9)
        have HZ9 : Hid (EOwn w9 w5.heap.size (.slice qz Lz.length mz) Lz) := World.ownsRow.kept HZ8.out HG9.out (own_apart HX4.out HZ8.out HSZ.out.2.2.1)
        have HQ9 : Hid (EOwn w9 w7.heap.size (.slice qq Lq.length mq) Lq) := World.ownsRow.kept HQ8.out HG9.out (own_apart HX4.out HQ8.out (by have := HSZ.out; omega))
        have HP9 : Hid (EOwn w9 w6.heap.size (Value.slice none 0 0) []) := eown_nil _ _
        have HB9 : Hid (Below w.heap.size w w9) := ents_grownE HX8.out HG9.out HWB.out HSZ.out.1
        have HS9 : Hid (w8.heap.size ≤ w9.heap.size) := HG9.out.size
        have HSA := same_yes q9 qz Lz.length m9 mz Lz w9 rfl (by have := HLN.out; omega) HO9.out.ents HZ9.out.ents
        go_wp2_with fail
        refine HSA.mono ?_
        rintro e w10 ⟨rfl, hb10⟩
        have HZ10 : Hid (EOwn w10 w5.heap.size (.slice qz Lz.length mz) Lz) := HZ9.out.below hb10
        have HQ10 : Hid (EOwn w10 w7.heap.size (.slice qq Lq.length mq) Lq) := HQ9.out.below hb10
        have HP10 : Hid (EOwn w10 w6.heap.size (Value.slice none 0 0) []) := HP9.out.below hb10
        have HB10 : Hid (Below w.heap.size w w10) := below_bt HB9.out hb10
        have hz10 : w6.heap.size ≤ w10.heap.size := by have := hb10.size; have := HS9.out; have := HSZ.out; omega
        clear hb10 HSA
        go_wp2_with (first
          | (at_builtin; go_loud ((refine wpList_append_two _ (by rfl) _ _ rfl w6.heap.size (Value.slice none 0 0) [] Lz qz _ mz rfl rfl rfl HP10.out HZ10.out.ents hnz (by have := HLN.out; (try simp only [List.length_nil]); omega) hz10 ?_); intro v11 w11 ho11 hg11; have HO11 : Hid (EOwn w11 w6.heap.size v11 ([] ++ Lz)) := ho11; have HG11 : Hid (w10.grownBy w11 (Value.slice none 0 0).ownBlock) := hg11; have HQ11 : Hid (EOwn w11 w7.heap.size (.slice qq Lq.length mq) Lq) := World.ownsRow.kept HQ10.out HG11.out (own_apart (w := w7) (B1 := 0) (l1 := []) (eown_nil _ _) HQ10.out (Nat.le_refl _)); have HB11 : Hid (Below w.heap.size w w11) := ents_grownE HP10.out HG11.out HB10.out (by have := HSZ.out; omega); have hz11 : w6.heap.size ≤ w11.heap.size := Nat.le_trans hz10 hg11.size; clear ho11 hg11 HP10))
          | (at_builtin; go_loud ((refine wpList_append_two _ (by rfl) _ _ rfl w6.heap.size v11 ([] ++ Lz) Lq qq _ mq rfl rfl rfl HO11.out HQ11.out.ents hnq (by have := HLN.out; simp only [List.length_append, List.length_nil]; omega) hz11 ?_); intro v12 w12 ho12 hg12; have HO12 : Hid (EOwn w12 w6.heap.size v12 ([] ++ Lz ++ Lq)) := ho12; have HB12 : Hid (Below w.heap.size w w12) := ents_grownE HO11.out hg12 HB11.out (by have := HSZ.out; omega); clear ho12 hg12; rw [HPA.out] at HO12; obtain ⟨q12, m12, hv12, _, _, _⟩ := HO12.out.form; subst hv12)))
        have HSB := same_yes q12 q l.length m12 cc l w12 rfl (by have := HN5.out; omega) HO12.out.ents (HQ.out.1.below HB12.out)
        go_wp2_with fail
        refine HSB.mono ?_
        rintro e w13 ⟨rfl, hb13⟩
        have HB13 : Hid (Below w.heap.size w w13) := below_bt HB12.out hb13
        clear hb13 HSB
        go_wp2
        go_ret
        exact ⟨rfl, HB13.out⟩
      · have HPA : Hid ((Lp ++ Lz) ++ Lq = l) := by
          show _ = _
          rw [← HLz.out, ← HLq.out, ← HLp.out, keep_empty a ke]
          exact parts_all HRI.out HS.out.2.2.2.1 HS.out.2.2.2.2.1 HS.out.2.2.2.2.2.2
        have gke : a.toList.isEmpty = false := nonempty_of ke
        have gke' : (a.toList == []) = false := by rw [← gke]; cases a.toList <;> rfl
        clear ke
        have hz8 := HB8.out.size
        go_wp2_with (at_builtin; go_loud (refine wpList_append_two _ (by rfl) _ _ rfl w3.heap.size (.slice qx Lx.length mx) Lx Ly qy _ my rfl rfl rfl HX8.out HY8.out.ents hny (by have := HLN.out; omega) hz8 ?_); intro v9 w9 ho9 hg9; have HO9 : Hid (EOwn w9 w3.heap.size v9 (Lx ++ Ly)) := ho9; have HG9 : Hid (w8.grownBy w9 (Value.slice qx Lx.length mx).ownBlock) := hg9; clear ho9 hg9; rw [HXY.out] at HO9; obtain ⟨q9, m9, hv9, _, _, _⟩ := HO9.out.form; subst hv9)
        have HZ9 : Hid (EOwn w9 w5.heap.size (.slice qz Lz.length mz) Lz) := World.ownsRow.kept HZ8.out HG9.out (own_apart HX4.out HZ8.out HSZ.out.2.2.1)
        have HQ9 : Hid (EOwn w9 w7.heap.size (.slice qq Lq.length mq) Lq) := World.ownsRow.kept HQ8.out HG9.out (own_apart HX4.out HQ8.out (by have := HSZ.out; omega))
        have HP9 : Hid (EOwn w9 w6.heap.size (Value.slice qp Lp.length mp) Lp) := World.ownsRow.kept HP8.out HG9.out (own_apart HX4.out HP8.out (by have := HSZ.out; omega))
        have HB9 : Hid (Below w.heap.size w w9) := ents_grownE HX8.out HG9.out HWB.out HSZ.out.1
        have HS9 : Hid (w8.heap.size ≤ w9.heap.size) := HG9.out.size
        have HSA := same_yes q9 qz Lz.length m9 mz Lz w9 rfl (by have := HLN.out; omega) HO9.out.ents HZ9.out.ents
        go_wp2_with fail
        refine HSA.mono ?_
        rintro e w10 ⟨rfl, hb10⟩
        have HZ10 : Hid (EOwn w10 w5.heap.size (.slice qz Lz.length mz) Lz) := HZ9.out.below hb10
        have HQ10 : Hid (EOwn w10 w7.heap.size (.slice qq Lq.length mq) Lq) := HQ9.out.below hb10
        have HP10 : Hid (EOwn w10 w6.heap.size (Value.slice qp Lp.length mp) Lp) := HP9.out.below hb10
        have HB10 : Hid (Below w.heap.size w w10) := below_bt HB9.out hb10
        have hz10 : w6.heap.size ≤ w10.heap.size := by have := hb10.size; have := HS9.out; have := HSZ.out; omega
        clear hb10 HSA
        go_wp2_with (first
          | (at_builtin; go_loud ((refine wpList_append_two _ (by rfl) _ _ rfl w6.heap.size (Value.slice qp Lp.length mp) Lp Lz qz _ mz rfl rfl rfl HP10.out HZ10.out.ents hnz (by have := HLN.out; omega) hz10 ?_); intro v11 w11 ho11 hg11; have HO11 : Hid (EOwn w11 w6.heap.size v11 (Lp ++ Lz)) := ho11; have HG11 : Hid (w10.grownBy w11 (Value.slice qp Lp.length mp).ownBlock) := hg11; have HQ11 : Hid (EOwn w11 w7.heap.size (.slice qq Lq.length mq) Lq) := World.ownsRow.kept HQ10.out HG11.out (own_apart HP7.out HQ10.out (Nat.le_refl _)); have HB11 : Hid (Below w.heap.size w w11) := ents_grownE HP10.out HG11.out HB10.out (by have := HSZ.out; omega); have hz11 : w6.heap.size ≤ w11.heap.size := Nat.le_trans hz10 hg11.size; clear ho11 hg11 HP10))
          | (at_builtin; go_loud ((refine wpList_append_two _ (by rfl) _ _ rfl w6.heap.size v11 (Lp ++ Lz) Lq qq _ mq rfl rfl rfl HO11.out HQ11.out.ents hnq (by have := HLN.out; simp only [List.length_append]; omega) hz11 ?_); intro v12 w12 ho12 hg12; have HO12 : Hid (EOwn w12 w6.heap.size v12 (Lp ++ Lz ++ Lq)) := ho12; have HB12 : Hid (Below w.heap.size w w12) := ents_grownE HO11.out hg12 HB11.out (by have := HSZ.out; omega); clear ho12 hg12; rw [HPA.out] at HO12; obtain ⟨q12, m12, hv12, _, _, _⟩ := HO12.out.form; subst hv12)))
        have HSB := same_yes q12 q l.length m12 cc l w12 rfl (by have := HN5.out; omega) HO12.out.ents (HQ.out.1.below HB12.out)
        go_wp2_with fail
        refine HSB.mono ?_
        rintro e w13 ⟨rfl, hb13⟩
        have HB13 : Hid (Below w.heap.size w w13) := below_bt HB12.out hb13
        clear hb13 HSB
        go_wp2
        go_ret
        exact ⟨rfl, HB13.out⟩
    · have hne : ((E : Int) != 0) = true := by simp; omega
      clear h0 ho3 hb3
      go_wp2
      go_ret
      exact ⟨rfl, HB3.out⟩

/-! ### THE ROW's STEP -/
set_option maxRecDepth 100000 in
theorem lifted (os : Os) (started : os.Started) (H : Type) (enc : TypeId × Value → H) :
    ReturnsInHanded {} Try.checked os 8 .any (Rows.tablePartsSpec.pre6 enc Try.prog Try.f8 Rows.tablePartsRow.domain false) (Rows.tablePartsSpec.post enc Try.prog Try.f8 false true false false) := by
  refine returnsInHanded_of_change (C := Try.checked) own started (by kernel_rfl) Try.func8
    (ChangeSpec.witness6 (enc := enc) (C := Try.checked) false ⟨#[], #[.slice none 0 0, .string ByteArray.empty, .string ByteArray.empty, .string ByteArray.empty], []⟩ 8 (by kernel_rfl) (by kernel_rfl) (by kernel_rfl) (by kernel_rfl)) ?_
  intro W base args ds gs before hval0 hW hcnd _
  have hval : ∀ (j : Nat) t v, Try.f8.params[j]? = some t → args[j]? = some v → Value.okWide Try.prog W .any base t v := hval0
  have hW' := hW
  obtain ⟨p, q, hA0, hV, rfl, hfz, hnd⟩ := hW
  have hA : DataW.TrodAll enc Try.prog W 0 (fun _ => true) true Try.f8.params.toList args.toList ds p := hA0
  rw [Try.params8] at hA hval
  obtain ⟨v0, vs0, d0, ds0, p0, q0, hargs, rfl, rfl, h0, r0⟩ := trodAll_cons hA
  obtain ⟨v1, vs1, d1, ds1, p1, q1, rfl, rfl, rfl, h1, r1⟩ := trodAll_cons r0
  obtain ⟨v2, vs2, d2, ds2, p2, q2, rfl, rfl, rfl, h2, r2⟩ := trodAll_cons r1
  obtain ⟨v3, vs3, d3, ds3, p3, q3, rfl, rfl, rfl, h3, r3⟩ := trodAll_cons r2
  obtain ⟨rfl, rfl, rfl⟩ := trodAll_nil r3
  obtain rfl : args = #[v0, v1, v2, v3] := by cases args; simp_all
  obtain ⟨rfl, rfl⟩ := trodVars_none hV
  have k0 := h0
  have lt0 : ∀ x ∈ p0, x.block < W.heap.size := by obtain ⟨m, hm⟩ := k0; exact DataW.trod_lt m _ _ _ hm
  obtain ⟨qa0, la0, ca0, rfl⟩ := okWide_slice Try.underlying26 (hval 0 26 v0 rfl rfl)
  obtain ⟨fu0, hf0⟩ := h0
  obtain ⟨l0, w0⟩ := open_entries Try.underlying26 Try.underlying29 (by kernel_rfl) rfl rfl rfl rfl (by kernel_rfl) (by kernel_rfl) (by kernel_rfl) (by kernel_rfl) Try.underlying9 Try.underlying9 Try.underlying3 Try.underlying4 hf0
  obtain ⟨a1, rfl, rfl, rfl, w1⟩ := open_string Try.underlying9 (hval 1 9 v1 rfl rfl) h1
  obtain ⟨a2, rfl, rfl, rfl, w2⟩ := open_string Try.underlying9 (hval 2 9 v2 rfl rfl) h2
  obtain ⟨a3, rfl, rfl, rfl, w3⟩ := open_string Try.underlying9 (hval 3 9 v3 rfl rfl) h3
  clear hA0 hval0
  refine (walk (.slice qa0 la0 ca0) l0 a1 a2 a3 W w0 w1 w2 w3).mono fun e W' ⟨he, bel⟩ => ?_
  subst he
  exact ⟨_, rfl, _, _, _, [], _, [], hW', trodAll_mk1 (shut_bool Try.underlying4 _), (trodAll_cons_mk (Below.trod laidOut (by kernel_rfl) (of_decide_eq_true (by kernel_rfl)) k0 bel lt0) (trodAll_cons_mk (shut_string Try.underlying9 w1) (trodAll_cons_mk (shut_string Try.underlying9 w2) (trodAll_cons_mk (shut_string Try.underlying9 w3) trodAll_mk0)))), rfl, bel.frame _, fun h => by cases h⟩

theorem over : Rows.tablePartsRow.holds Try.pinned (OpenSpec.ofChange Rows.tablePartsSpec) :=
  OpenClaim.holds_of_wide 8 Try.f8 rfl rfl rfl rfl rfl rfl rfl ⟨rfl, rfl, rfl, rfl, rfl⟩ rfl rfl rfl rfl rfl (by kernel_rfl) Try.func8 (by kernel_rfl)
    (of_decide_eq_true (by kernel_rfl)) (by unfold Func.isWrapper; first | (rw [if_pos (by decide +kernel)]; kernel_rfl) | (rw [if_neg (by decide +kernel)]; exact ⟨rfl, rfl⟩))
    (fun os started H enc _ => lifted os started H enc)

theorem proved : Rows.TablePartsSaid := over
end Go.Proofs.Ytlcbjmbphekliaa.tableParts
namespace Go.Proofs.Ytlcbjmbphekliaa
theorem tableParts_holds : Rows.TablePartsSaid := tableParts.proved
#print axioms tableParts_holds
end Go.Proofs.Ytlcbjmbphekliaa
