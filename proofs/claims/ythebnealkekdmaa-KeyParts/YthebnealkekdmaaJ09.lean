/-
  Keys are made of parts, and cut again, as the document says, at any parts, any text and any number; what is handed in stays (of lists of more than 100 parts and texts of more than 10,000 bytes the statement asks nothing).
-/
import Derived.Test.YthebnealkekdmaaJ02
import Derived.Test.YthebnealkekdmaaRows
import Derived.Test.YthebnealkekdmaaJ08
import Derived.WalkKit
import Derived.ProofKit
import Derived.OpenShut
import Derived.ShutString
import Derived.ChangeOld
import Derived.Below
namespace Go.Proofs.Ythebnealkekdmaa
open Go.RowKit Go.WideShapes

set_option maxRecDepth 8000 in
set_option maxHeartbeats 4000000 in
theorem rSame_any (qa qb : Option Addr) (na nb ca cb : Nat) (a b : List PartV) (w : World) (hna : na = a.length) (hnb : nb = b.length) (ha : PtsIn w qa a) (hb : PtsIn w qb b) (hla : (na : Int) ≤ 1000000) (hlb : (nb : Int) ≤ 1000000) (r : Bool) (hr : r = true ↔ a = b) :
    Calls Try.prog 18 #[.slice qa na ca, .slice qb nb cb] w fun e w' => e = .returned (.bool r) ∧ Below w.heap.size w w' := by
  have HA : Hid (PtsIn w qa a) := ha
  have HB : Hid (PtsIn w qb b) := hb
  have HN : Hid (na = a.length ∧ nb = b.length) := ⟨hna, hnb⟩
  have HR : Hid (r = true ↔ a = b) := hr
  clear ha hb hna hnb hr
  by_cases hne : na = nb
  · subst hne
    go_enter Try.func18, Try.ntmps18
    go_wp2
    go_loopw [5] (fun i wr => ∃ k : Nat, k ≤ na ∧ i = .int .i64 k ∧ Below w.heap.size w wr ∧ Hid (∀ j, j < k → a.getD j zeroP = b.getD j zeroP)) (fun i _ => na - (intOf i).toNat)
    case atStart => exact ⟨0, by omega, rfl, Below.refl _ _, fun j hj => absurd hj (by omega)⟩
    case round =>
      obtain ⟨k, hk, rfl, hbel, hall⟩ := hrel
      have HBE : Hid (Below w.heap.size w wr) := hbel
      clear hbel
      by_cases hkn : k < na
      · have g1 : decide (k < na) = true := decide_eq_true hkn
        have hkI : (k : Int) < (na : Int) := by omega
        obtain ⟨ba, oa, rfl⟩ := HA.out.addr (by have := HN.out; omega)
        obtain ⟨bb, ob, rfl⟩ := HB.out.addr (by have := HN.out; omega)
        obtain ⟨x, hx⟩ : ∃ x, a.getD k zeroP = x := ⟨_, rfl⟩
        obtain ⟨y, hy⟩ : ∃ y, b.getD k zeroP = y := ⟨_, rfl⟩
        obtain ⟨xk, xi, xt⟩ := x
        obtain ⟨yk, yi, yt⟩ := y
        obtain ⟨x0, x1, x2⟩ := ptcells (HA.out.below HBE.out) (by have := HN.out; omega) hx
        obtain ⟨y0, y1, y2⟩ := ptcells (HB.out.below HBE.out) (by have := HN.out; omega) hy
        have HK : Hid (k < na ∧ k < a.length ∧ k < b.length) := ⟨hkn, by have := HN.out; omega, by have := HN.out; omega⟩
        have HXY : Hid (a.getD k zeroP = ⟨xk, xi, xt⟩ ∧ b.getD k zeroP = ⟨yk, yi, yt⟩) := ⟨hx, hy⟩
        have HNO : Hid ((⟨xk, xi, xt⟩ : PartV) ≠ ⟨yk, yi, yt⟩ → r = false) := fun h => by
          rw [Bool.eq_false_iff]
          intro e
          have := HR.out.1 e
          subst this
          exact h (HXY.out.1.symm.trans HXY.out.2)
        clear hx hy hkn
        by_cases e0 : xk = yk
        · subst e0
          by_cases e1 : xi = yi
          · subst e1
            by_cases e2 : xt = yt
            · subst e2
              have HM : Hid (∀ j, j < k + 1 → a.getD j zeroP = b.getD j zeroP) := fun j hj => by
                rcases Nat.lt_or_ge j k with h' | h'
                · exact hall.out j h'
                · obtain rfl : j = k := by omega
                  rw [HXY.out.1, HXY.out.2]
              clear hall
              go_wp2
              go_quiet (fail)
              have HBE2 : Hid (Below w.heap.size w (wr.drewN nq)) := below_bt HBE.out (below_dr wr nq)
              go_wp2
              go_roundw
              case rel => exact ⟨k + 1, by have := HK.out; omega, by go_num, HBE2.out, HM⟩
              case measure => have := HK.out; simp [intOf]; omega
            · have g3 : (xt.toList == yt.toList) = false := by rw [ByteArray.toList_eq, ByteArray.toList_eq]; exact beq_eq_false_iff_ne.2 (fun h => e2 (ba_ext.1 h))
              have HE : Hid (r = false) := HNO.out (by intro h; injection h with _ _ h; exact e2 h)
              clear e2 hall
              go_wp2
              go_quiet (fail)
              have HBE2 : Hid (Below w.heap.size w (wr.drewN nq)) := below_bt HBE.out (below_dr wr nq)
              go_wp2
              go_ret
              exact ⟨by rw [HE.out]; rfl, HBE2.out⟩
          · have g3 : (xi == yi) = false := by simpa using e1
            have HE : Hid (r = false) := HNO.out (by intro h; injection h with _ h _; exact e1 h)
            clear e1 hall
            go_wp2
            go_quiet (fail)
            have HBE2 : Hid (Below w.heap.size w (wr.drewN nq)) := below_bt HBE.out (below_dr wr nq)
            go_wp2
            go_ret
            exact ⟨by rw [HE.out]; rfl, HBE2.out⟩
        · have g3 : (xk == yk) = false := by simpa using e0
          have HE : Hid (r = false) := HNO.out (by intro h; injection h with h _ _; exact e0 h)
          clear e0 hall
          go_wp2
          go_quiet (fail)
          have HBE2 : Hid (Below w.heap.size w (wr.drewN nq)) := below_bt HBE.out (below_dr wr nq)
          go_wp2
          go_ret
          exact ⟨by rw [HE.out]; rfl, HBE2.out⟩
      · obtain rfl : k = na := by omega
        have HE : Hid (r = true) := HR.out.2 (by
          apply List.ext_getElem (by have := HN.out; omega)
          intro i h1 h2
          have := hall.out i (by have := HN.out; omega)
          rw [List.getD_eq_getElem?_getD, List.getD_eq_getElem?_getD, List.getElem?_eq_getElem h1, List.getElem?_eq_getElem h2] at this
          exact this)
        clear hall hkn
        go_wp2
        go_ret
        exact ⟨by rw [HE.out]; rfl, HBE.out⟩
  · have g1 : ((na : Int) == (nb : Int)) = false := by simp; omega
    have g2 : (na == nb) = false := by simpa using hne
    have HE : Hid (r = false) := by
      show r = false
      rw [Bool.eq_false_iff]
      intro e
      have := HR.out.1 e
      subst this
      exact hne (HN.out.1.trans HN.out.2.symm)
    clear hne
    go_enter Try.func18, Try.ntmps18
    go_wp2
    go_ret
    exact ⟨by rw [HE.out]; rfl, Below.refl _ _⟩
end Go.Proofs.Ythebnealkekdmaa
namespace Go.Proofs.Ythebnealkekdmaa.keyParts
open Go.ChangeShapes Go.WideShapes Go.ChangeAt Go.RowKit
open Go.ChangeMaps (open_string shut_string)
set_option linter.unusedVariables false

theorem own : ownKnob Try.prog.godebug = none := by kernel_rfl
theorem laidOut : laidOutB Try.prog = true := by kernel_rfl

theorem parts_news {w : World} {q : Option Addr} {l : List PartV} {ad : Addr} (h : PtsIn w q l) (hq : q = some ad) : ∀ j u, (cellsP l)[j]? = some u → w.cell? (ad.add j) = some u := by
  subst hq
  intro j u hu
  have hj : j < l.length * 3 := by
    rcases Nat.lt_or_ge j (l.length * 3) with h | h
    · exact h
    · rw [List.getElem?_eq_none (by rw [cellsP_len]; exact h)] at hu; cases hu
  obtain ⟨b, o, e, hc⟩ := h (by omega)
  simp only [Option.some.injEq] at e
  subst e
  have hi : j / 3 < l.length := by omega
  obtain ⟨c0, c1, c2⟩ := hc (j / 3) hi
  obtain ⟨d0, d1, d2⟩ := cellsP_at l (j / 3) hi
  have hadd : (⟨b, o, none⟩ : Addr).add j = ⟨b, o + j, none⟩ := by simp [Addr.add]
  rw [hadd]
  have hm : j = j / 3 * 3 ∨ j = j / 3 * 3 + 1 ∨ j = j / 3 * 3 + 2 := by omega
  rcases hm with h | h | h
  · rw [h] at hu ⊢; rw [d0] at hu; rw [c0]; exact hu
  · rw [h] at hu ⊢; rw [d1] at hu; rw [c1]; exact hu
  · rw [h] at hu ⊢; rw [d2] at hu; rw [c2]; exact hu
theorem parts_ones (l : List PartV) : ∀ u ∈ cellsP l, u.oneCell' = true := by
  intro u hu
  simp only [cellsP, List.mem_flatMap, List.mem_cons, List.not_mem_nil, or_false] at hu
  obtain ⟨p, _, rfl | rfl | rfl⟩ := hu <;> rfl
theorem run_append_parts (w : World) (ty : TypeId) (base : Nat) (v : Value) (xs l : List PartV) (q : Option Addr) (c : Nat) (hown : PtOwn w base v xs) (hin : PtsIn w q l) (hp : q = none → c = 0) (hlen : xs.length + l.length ≤ 1000000) (hbase : base ≤ w.heap.size) :
    ∃ v' w', (Builtin.append_ #[28, 28] ty #[v, .slice q l.length c]).run Try.prog w = .ok v' w' ∧ PtOwn w' base v' (xs ++ l) ∧ w.grownBy w' v.ownBlock := by
  obtain ⟨i0, hi, hz0, hz1, hz2⟩ := info_parts' info_part
  cases q with
  | none =>
    have h0 : l = [] := by
      cases l with
      | nil => rfl
      | cons y ys => obtain ⟨b, o, e, _⟩ := hin (by simp); cases e
    subst h0
    obtain rfl := hp rfl
    exact ⟨v, w, run_append_owned_none (P := Try.prog) w base 28 ty 26 i0 3 Try.underlying28 hi v xs.length (cellsP xs) hown, by simpa using hown, ⟨rfl, rfl, rfl, Nat.le_refl _, fun _ _ _ => rfl⟩⟩
  | some ad =>
    obtain ⟨v', w', h1, h2, h3, _⟩ := run_append_own (P := Try.prog) w base 28 ty 26 i0 _ 3 32 Try.underlying28 hi hz0 hz1 hz2 rfl (by decide) v xs.length (cellsP xs) hown ad l.length c (cellsP l) (cellsP_len l) (parts_news hin rfl) (parts_ones l) (by unfold maxLen; omega) (by omega) hbase
    refine ⟨v', w', h1, ?_, h3⟩
    unfold PtOwn
    rw [cellsP_app, List.length_append]
    exact h2
theorem wpList_append_parts (w : World) {ops : Array Oper} {rest : List Oper} {o : Oper} {a : Act} {Q : Exit → Act → World → Prop} (hgd : o.guard = none) (s x : Operand)
    (ho : o.op = .call { callee := .builtin .append, args := #[s, x], argTypes := #[28, 28] }) (base : Nat) (v : Value) (xs l : List PartV) (q : Option Addr) (m c : Nat) (hs : a.eval s = v) (hx : a.eval x = .slice q m c) (hm : m = l.length)
    (hown : PtOwn w base v xs) (hin : PtsIn w q l) (hp : q = none → c = 0) (hlen : xs.length + l.length ≤ 1000000) (hbase : base ≤ w.heap.size)
    (h : ∀ v' w', PtOwn w' base v' (xs ++ l) → w.grownBy w' v.ownBlock → wpList Try.prog ops Q rest (a.put o.dst v') w') : wpList Try.prog ops Q (o :: rest) a w := by
  subst hm
  refine wpList_plain hgd fun K hK => ?_
  obtain ⟨v', w', hr, h2, h3⟩ := run_append_parts w o.type base v xs l q c hown hin hp hlen hbase
  unfold Oper.wp execOp
  simp only [ho, resolve, invoke, builtin, Sem.run_bind, Sem.run_pure, Result.andThen_ok, List.map_toArray, List.map_cons, List.map_nil, hs, hx, hr]
  exact hK _ _ (h v' w' h2 h3)
set_option maxRecDepth 8000 in
set_option maxHeartbeats 8000000 in
theorem walk_main (q : Option Addr) (m c : Nat) (l : List PartV) (s : ByteArray) (n : Int) (w : World) (hm : m = l.length) (hp : PtsIn w q l) (hw : ∀ p ∈ l, WfP p) (hq : q = none → c = 0) (hn : (m : Int) ≤ 100) (hs : (s.size : Int) ≤ 10000) :
    Calls Try.prog 4 #[.slice q m c, .string s, .int .i64 n] w fun e w' => e = .returned (.bool true) ∧ Below w.heap.size w w' := by
  have HP : Hid (PtsIn w q l) := hp
  have HM : Hid (m = l.length) := hm
  have HW : Hid (∀ p ∈ l, WfP p) := hw
  have HQ : Hid (q = none → c = 0) := hq
  have HS : Hid ((s.size : Int) ≤ 10000 ∧ (m : Int) ≤ 100) := ⟨hs, hn⟩
  obtain ⟨R, hR⟩ : ∃ R, makeR l = R := ⟨_, rfl⟩
  obtain ⟨ks, er⟩ := R
  have HR : Hid (makeR l = (ks, er)) := hR
  obtain ⟨L, E, hCR⟩ : ∃ L E, cutR (numsOf s) = (L, E) := ⟨_, _, rfl⟩
  have HCR : Hid (cutR (numsOf s) = (L, E)) := hCR
  have HL8 : Hid ((L.length : Int) ≤ 1000) := by
    show _ ≤ _
    rcases cutR_is hCR with ⟨_, hK⟩ | ⟨_, rfl⟩
    · have := hK.many; omega
    · show ((0 : Nat) : Int) ≤ 1000; omega
  clear hm hp hw hq hR hCR
  go_enter Try.func4, Try.ntmps4
  go_wp2
  go_loop [7] (fun i => ∃ k : Nat, k ≤ m ∧ i = .int .i64 k ∧ Hid (∀ j, j < k → (l.getD j zeroP).text.size ≤ 10000)) (fun i => m - (intOf i).toNat)
  case atStart => exact ⟨0, by omega, rfl, fun j hj => absurd hj (by omega)⟩
  case round =>
    obtain ⟨k, hk, rfl, hall⟩ := hrel
    by_cases hkn : k < m
    · have hkI : (k : Int) < (m : Int) := by omega
      have hlen : k < l.length := by have := HM.out; omega
      obtain ⟨ba, oa, rfl⟩ := HP.out.addr (by omega)
      obtain ⟨x, hx⟩ : ∃ x, l.getD k zeroP = x := ⟨_, rfl⟩
      obtain ⟨x0, x1, x2⟩ := ptcells HP.out hlen hx
      have HX : Hid (l.getD k zeroP = x ∧ k < m) := ⟨hx, hkn⟩
      by_cases hbig : 10000 < x.text.size
      · have g2 : decide ((10000 : Int) < (x.text.size : Int)) = true := decide_eq_true (by omega)
        clear hbig hx hlen hkn hall
        go_wp2
        go_ret
        exact ⟨rfl, Below.refl _ _⟩
      · have g2 : decide ((10000 : Int) < (x.text.size : Int)) = false := decide_eq_false (by omega)
        have HN : Hid (∀ j, j < k + 1 → (l.getD j zeroP).text.size ≤ 10000) := fun j hj => by
          rcases Nat.lt_or_ge j k with h' | h'
          · exact hall.out j h'
          · obtain rfl : j = k := by omega
            rw [hx]; omega
        clear hbig hx hlen hkn hall
        go_wp2
        go_round
        case rel => exact ⟨k + 1, by have := HX.out; omega, by go_num, HN⟩
        case measure => have := HX.out; simp [intOf]; omega
    · obtain rfl : k = m := by omega
      have HTX : Hid (∀ p ∈ l, p.text.size ≤ 2000000) := by
        intro p hp
        obtain ⟨j, hj, rfl⟩ := List.getElem_of_mem hp
        have := hall.out j (by have := HM.out; omega)
        rw [List.getD_eq_getElem?_getD, List.getElem?_eq_getElem hj] at this
        simp only [Option.getD_some] at this
        omega
      clear hkn hall
      go_wp2_with (at_builtin; go_loud (refine wpList_append_parts _ rfl _ _ rfl w.heap.size _ [] l q _ c rfl rfl HM.out (ptown_nil _ _) HP.out HQ.out (by have := HS.out; have := HM.out; simp; omega) (Nat.le_refl _) ?_); intro v1 w1 ho1 hg1)
      have hbel1 : Below w.heap.size w w1 := (Below.refl _ _).grown hg1 (Nat.le_refl _) (fun k hk => by cases hk)
      rw [List.nil_append] at ho1
      obtain ⟨q1, m1, hv1, _, _, _⟩ := ho1.form
      subst hv1
      have HB1 : Hid (Below w.heap.size w w1) := hbel1
      have HP1 : Hid (PtsIn w1 q1 l) := ho1.pts
      have hl100 : (l.length : Int) ≤ 100 := by have := HS.out; have := HM.out; omega
      clear ho1 hg1 hbel1
      go_wp2_with fail
      refine (Make_any q1 l.length m1 l _ ⟨rfl, HP1.out, HW.out, HTX.out⟩ (by omega) _ HR.out).mono ?_
      rintro e w2 ⟨rfl, hb2⟩
      rw [show makeE (ks, er) = .tuple #[.string ks, .int .i64 er] from rfl]
      have HB2 : Hid (Below w.heap.size w w2) := below_bt HB1.out hb2
      have HP2 : Hid (PtsIn w2 q1 l) := HP1.out.below hb2
      clear hb2
      go_wp2_with fail
      refine (rMake_any q k c l _ ⟨HM.out, HP.out.below HB2.out, HW.out, HTX.out⟩ (by have := HS.out; omega) _ HR.out).mono ?_
      rintro e w3 ⟨rfl, hb3⟩
      rw [show makeE (ks, er) = .tuple #[.string ks, .int .i64 er] from rfl]
      have HB3 : Hid (Below w.heap.size w w3) := below_bt HB2.out hb3
      have HP3 : Hid (PtsIn w3 q1 l) := HP2.out.below hb3
      clear hb3
      go_wp2_with fail
      refine (Cut_any s _ (by have := HS.out; omega) L E HCR.out).mono ?_
      rintro e w4 ⟨v4, rfl, ho4, hb4⟩
      obtain ⟨q4, m4, rfl, _, _, _⟩ := ho4.form
      have HB4 : Hid (Below w.heap.size w w4) := below_bt HB3.out hb4
      have HP4 : Hid (PtsIn w4 q1 l) := HP3.out.below hb4
      have HC4 : Hid (PtsIn w4 q4 L) := ho4.pts
      clear ho4 hb4
      go_wp2_with fail
      refine (rCut_any s _ (by have := HS.out; omega) L E HCR.out).mono ?_
      rintro e w5 ⟨v5, rfl, ho5, hb5⟩
      obtain ⟨q5, m5, rfl, _, _, _⟩ := ho5.form
      have HB5 : Hid (Below w.heap.size w w5) := below_bt HB4.out hb5
      have HP5 : Hid (PtsIn w5 q1 l) := HP4.out.below hb5
      have HC5 : Hid (PtsIn w5 q4 L) := HC4.out.below hb5
      have HD5 : Hid (PtsIn w5 q5 L) := ho5.pts
      clear ho5 hb5
      go_wp2_with fail
      refine (rSame_any q4 q5 L.length L.length m4 m5 L L _ rfl rfl HC5.out HD5.out (by have := HL8.out; omega) (by have := HL8.out; omega) true (by simp)).mono ?_
      rintro e w6 ⟨rfl, hb6⟩
      have HB6 : Hid (Below w.heap.size w w6) := below_bt HB5.out hb6
      have HP6 : Hid (PtsIn w6 q1 l) := HP5.out.below hb6
      clear hb6
      go_wp2_with fail
      refine (rSame_any q1 q l.length k m1 c l l _ rfl HM.out HP6.out (HP.out.below HB6.out) (by omega) (by have := HS.out; omega) true (by simp)).mono ?_
      rintro e w7 ⟨rfl, hb7⟩
      have HB7 : Hid (Below w.heap.size w w7) := below_bt HB6.out hb7
      clear hb7
      go_wp2_with fail
      refine (num_agg n _).mono ?_
      rintro e w8 ⟨rfl, hb8⟩
      have HB8 : Hid (Below w.heap.size w w8) := below_bt HB7.out hb8
      clear hb8
      go_wp2_with fail
      refine (word_agg s _).mono ?_
      rintro e w9 ⟨rfl, hb9⟩
      have HB9 : Hid (Below w.heap.size w w9) := below_bt HB8.out hb9
      clear hb9
      go_wp2
      go_ret
      exact ⟨rfl, HB9.out⟩
theorem walk (va : Value) (l : List PartV) (s : ByteArray) (n : Int) (w : World) (ha : PtIn w va l) (wn : (Lit.int .i64 n).wf = true) :
    Calls Try.prog 4 #[va, .string s, .int .i64 n] w fun e w' => e = .returned (.bool true) ∧ Below w.heap.size w w' := by
  obtain ⟨qa, ca, rfl, pa, _, _, hq⟩ := ha.lies
  by_cases h1 : 100 < l.length
  · have g1 : decide ((100 : Int) < (l.length : Int)) = true := decide_eq_true (by omega)
    clear h1 ha pa wn hq
    go_enter Try.func4, Try.ntmps4
    go_wp2
    go_ret
    exact ⟨rfl, Below.refl _ _⟩
  · have g1 : decide ((100 : Int) < (l.length : Int)) = false := decide_eq_false (by omega)
    by_cases h3 : 10000 < s.size
    · have g3 : decide ((10000 : Int) < (s.size : Int)) = true := decide_eq_true (by omega)
      clear h1 h3 ha pa wn hq
      go_enter Try.func4, Try.ntmps4
      go_wp2
      go_ret
      exact ⟨rfl, Below.refl _ _⟩
    · exact walk_main qa l.length ca l s n w rfl pa ha.wf hq (by omega) (by omega)

/-! ### THE ROW's STEP -/
set_option maxRecDepth 100000 in
theorem lifted (os : Os) (started : os.Started) (H : Type) (enc : TypeId × Value → H) :
    ReturnsInHanded {} Try.checked os 4 .any (Rows.keyPartsSpec.pre6 enc Try.prog Try.f4 Rows.keyPartsRow.domain false) (Rows.keyPartsSpec.post enc Try.prog Try.f4 false true false false) := by
  refine returnsInHanded_of_change (C := Try.checked) own started (by kernel_rfl) Try.func4
    (ChangeSpec.witness6 (enc := enc) (C := Try.checked) false ⟨#[], #[.slice none 0 0, .string ByteArray.empty, .int .i64 0], []⟩ 8 (by kernel_rfl) (by kernel_rfl) (by kernel_rfl) (by kernel_rfl)) ?_
  intro W base args ds gs before hval0 hW hcnd _
  have hval : ∀ (j : Nat) t v, Try.f4.params[j]? = some t → args[j]? = some v → Value.okWide Try.prog W .any base t v := hval0
  have hW' := hW
  obtain ⟨p, q, hA0, hV, rfl, hfz, hnd⟩ := hW
  have hA : DataW.TrodAll enc Try.prog W 0 (fun _ => true) true Try.f4.params.toList args.toList ds p := hA0
  rw [Try.params4] at hA hval
  obtain ⟨v0, vs0, d0, ds0, p0, q0, hargs, rfl, rfl, h0, r0⟩ := trodAll_cons hA
  obtain ⟨v1, vs1, d1, ds1, p1, q1, rfl, rfl, rfl, h1, r1⟩ := trodAll_cons r0
  obtain ⟨v2, vs2, d2, ds2, p2, q2, rfl, rfl, rfl, h2, r2⟩ := trodAll_cons r1
  obtain ⟨rfl, rfl, rfl⟩ := trodAll_nil r2
  obtain rfl : args = #[v0, v1, v2] := by cases args; simp_all
  obtain ⟨rfl, rfl⟩ := trodVars_none hV
  have k0 := h0
  have lt0 : ∀ x ∈ p0, x.block < W.heap.size := by obtain ⟨m, hm⟩ := k0; exact DataW.trod_lt m _ _ _ hm
  obtain ⟨qa0, la0, ca0, rfl⟩ := okWide_slice Try.underlying28 (hval 0 28 v0 rfl rfl)
  obtain ⟨fu0, hf0⟩ := h0
  obtain ⟨l0, w0, t0⟩ := open_parts2 Try.underlying28 Try.underlying26 (by kernel_rfl) rfl rfl rfl (by kernel_rfl) (by kernel_rfl) (by kernel_rfl) Try.underlying5 Try.underlying2 Try.underlying9 hf0
  obtain ⟨a1, rfl, rfl, rfl, w1⟩ := open_string Try.underlying9 (hval 1 9 v1 rfl rfl) h1
  obtain ⟨a2, rfl, rfl, rfl, w2⟩ := open_int Try.underlying2 (hval 2 2 v2 rfl rfl) h2
  clear hA0 hval0
  refine (walk (.slice qa0 la0 ca0) l0 a1 a2 W w0 w2).mono fun e W' ⟨he, bel⟩ => ?_
  subst he
  exact ⟨_, rfl, _, _, _, [], _, [], hW', trodAll_mk1 (shut_bool Try.underlying4 _), (trodAll_cons_mk (Below.trod laidOut (by kernel_rfl) (of_decide_eq_true (by kernel_rfl)) k0 bel lt0) (trodAll_cons_mk (shut_string Try.underlying9 w1) (trodAll_cons_mk (shut_int Try.underlying2 w2) trodAll_mk0))), rfl, bel.frame _, fun h => by cases h⟩

theorem over : Rows.keyPartsRow.holds Try.pinned (OpenSpec.ofChange Rows.keyPartsSpec) :=
  OpenClaim.holds_of_wide 4 Try.f4 rfl rfl rfl rfl rfl rfl rfl ⟨rfl, rfl, rfl, rfl, rfl⟩ rfl rfl rfl rfl rfl (by kernel_rfl) Try.func4 (by kernel_rfl)
    (of_decide_eq_true (by kernel_rfl)) (by unfold Func.isWrapper; first | (rw [if_pos (by decide +kernel)]; kernel_rfl) | (rw [if_neg (by decide +kernel)]; exact ⟨rfl, rfl⟩))
    (fun os started H enc _ => lifted os started H enc)

theorem proved : Rows.KeyPartsSaid := over
end Go.Proofs.Ythebnealkekdmaa.keyParts
namespace Go.Proofs.Ythebnealkekdmaa
theorem keyParts_holds : Rows.KeyPartsSaid := keyParts.proved
#print axioms keyParts_holds
end Go.Proofs.Ythebnealkekdmaa
