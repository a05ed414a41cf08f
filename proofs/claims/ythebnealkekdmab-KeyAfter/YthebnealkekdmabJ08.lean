/-
  After tells the least text behind all that begin so, at any three texts (of texts of more than 1,000 bytes the statement asks nothing).
-/
import Derived.Test.YthebnealkekdmabJ07
import Derived.Test.YthebnealkekdmabRows
import Derived.Test.YthebnealkekdmabJ06
import Derived.WalkKit
import Derived.ProofKit
import Derived.OpenShut
import Derived.ShutString
import Derived.ChangeOld
import Derived.Below
namespace Go.Proofs.Ythebnealkekdmab

theorem afterN_none : ∀ (h : List Nat), afterN h = none → ∀ c ∈ h, c = 255
  | [], _ => by simp
  | c :: h, e => by
    unfold afterN at e
    cases hh : afterN h with
    | some r => rw [hh] at e; simp at e
    | none =>
      rw [hh] at e
      simp only at e
      by_cases h255 : c = 255
      · intro d hd
        rcases List.mem_cons.1 hd with rfl | hd
        · exact h255
        · exact afterN_none h hh d hd
      · rw [if_neg h255] at e; simp at e
theorem bet255 : ∀ (h y : List Nat), (∀ c ∈ h, c = 255) → (∀ c ∈ y, c < 256) → (h <+: y ↔ ¬ cmpN y h < 0)
  | [], [], _, _ => by simp [cmpN]
  | [], _ :: _, _, _ => by simp [cmpN]
  | _ :: _, [], _, _ => by simp [cmpN]
  | c :: h, d :: y, hh, hy => by
    have hc : c = 255 := hh c (by simp)
    have hd : d < 256 := hy d (by simp)
    have ih := bet255 h y (fun x hx => hh x (by simp [hx])) (fun x hx => hy x (by simp [hx]))
    by_cases e : d = c
    · subst e
      rw [cmpN_cons, ← ih]
      simp
    · rw [cmpN_ne y h e]
      have : cmpI (d : Int) (c : Int) = -1 := by unfold cmpI; rw [if_pos (by omega)]
      rw [this]
      simp
      omega
theorem between : ∀ (h E y : List Nat), afterN h = some E → (∀ c ∈ y, c < 256) → (h <+: y ↔ (¬ cmpN y h < 0 ∧ cmpN y E < 0))
  | [], _, _, e, _ => by simp [afterN] at e
  | c :: h, E, y, e, hy => by
    unfold afterN at e
    cases y with
    | nil => simp [cmpN]
    | cons d y =>
      have hy' : ∀ x ∈ y, x < 256 := fun x hx => hy x (by simp [hx])
      cases hh : afterN h with
      | some r =>
        rw [hh] at e
        simp only [Option.some.injEq] at e
        subst e
        have ih := between h r y hh hy'
        by_cases ed : d = c
        · subst ed
          rw [cmpN_cons, cmpN_cons, ← ih]
          simp
        · rw [cmpN_ne y h ed, cmpN_ne y r ed]
          constructor
          · intro hp; exfalso; obtain ⟨t, ht⟩ := hp; injection ht with h1 _; exact ed h1.symm
          · rintro ⟨h1, h2⟩; exact absurd h2 h1
      | none =>
        rw [hh] at e
        simp only at e
        by_cases h255 : c = 255
        · rw [if_pos h255] at e; simp at e
        · rw [if_neg h255] at e
          simp only [Option.some.injEq] at e
          subst e
          by_cases ed : d = c
          · subst ed
            rw [cmpN_cons, cmpN_ne y [] (show d ≠ d + 1 by omega)]
            have h1 : cmpI (d : Int) ((d + 1 : Nat) : Int) = -1 := by unfold cmpI; rw [if_pos (by omega)]
            rw [h1, ← bet255 h y (afterN_none h hh) hy']
            simp
          · rw [cmpN_ne y h ed]
            constructor
            · intro hp; exfalso; obtain ⟨t, ht⟩ := hp; injection ht with h1 _; exact ed h1.symm
            · rintro ⟨h1, h2⟩
              exfalso
              have hdc : c < d := by
                unfold cmpI at h1
                split at h1 <;> omega
              by_cases e2 : d = c + 1
              · subst e2
                rw [cmpN_cons] at h2
                cases y <;> simp [cmpN] at h2
              · rw [cmpN_ne y [] e2] at h2
                unfold cmpI at h2
                split at h2
                · omega
                · split at h2 <;> omega
theorem pre_ge {h y E : List Nat} (he : afterN h = some E) (hy : ∀ c ∈ y, c < 256) (hp : h <+: y) : ¬ cmpN y h < 0 ∧ cmpN y E < 0 := (between h E y he hy).1 hp
/-! ### Of texts -/
theorem less_str (x y : ByteArray) : Op.bytesLess x.toList y.toList = decide (cmpN (numsOf x) (numsOf y) < 0) := by
  rw [ByteArray.toList_eq, ByteArray.toList_eq, bytesLess_cmp, cmpS_nums]; rfl
theorem eq_str (x y : ByteArray) : (x.toList == y.toList) = decide (x = y) := by
  rw [ByteArray.toList_eq, ByteArray.toList_eq]
  by_cases h : x = y
  · subst h; simp
  · simp only [h, decide_false]
    exact beq_eq_false_iff_ne.2 (fun e => h (ba_ext.1 e))
theorem nums_inj {x y : ByteArray} (h : numsOf x = numsOf y) : x = y := by rw [← strOf_nums x, h, strOf_nums]
theorem pre_str {h y : ByteArray} : numsOf h <+: numsOf y ↔ (h.size ≤ y.size ∧ y.extract 0 h.size = h) := by
  constructor
  · intro hp
    have hl := hp.length_le
    rw [numsOf_len, numsOf_len] at hl
    refine ⟨hl, nums_inj ?_⟩
    rw [numsOf_extract, List.drop_zero, Nat.sub_zero, ← numsOf_len h]
    exact (List.prefix_iff_eq_take.1 hp).symm
  · rintro ⟨_, h2⟩
    rw [List.prefix_iff_eq_take]
    have := congrArg numsOf h2
    rw [numsOf_extract, List.drop_zero, Nat.sub_zero, ← numsOf_len h] at this
    exact this.symm
theorem afterN_byte : ∀ (h E : List Nat), afterN h = some E → (∀ c ∈ h, c < 256) → ∀ c ∈ E, c < 256
  | [], _, e, _ => by simp [afterN] at e
  | c :: h, E, e, hb => by
    unfold afterN at e
    cases hh : afterN h with
    | some r =>
      rw [hh] at e
      simp only [Option.some.injEq] at e
      subst e
      intro d hd
      rcases List.mem_cons.1 hd with rfl | hd
      · exact hb _ (by simp)
      · exact afterN_byte h r hh (fun x hx => hb x (by simp [hx])) d hd
    | none =>
      rw [hh] at e
      simp only at e
      by_cases h255 : c = 255
      · rw [if_pos h255] at e; simp at e
      · rw [if_neg h255] at e
        simp only [Option.some.injEq] at e
        subst e
        intro d hd
        simp at hd
        have := hb c (by simp)
        omega
theorem after_some {h t : ByteArray} (hR : afterR h = (t, true)) : afterN (numsOf h) = some (numsOf t) := by
  unfold afterR at hR
  cases he : afterN (numsOf h) with
  | none => rw [he] at hR; simp at hR
  | some E =>
    rw [he] at hR
    simp only [Prod.mk.injEq, and_true] at hR
    rw [← hR]
    have hb : ∀ c ∈ E, c < 256 := afterN_byte _ _ he (numsOf_lt h)
    rw [nums_strOf hb]
theorem after_bool (h : ByteArray) : (afterR h).2 = true ↔ afterN (numsOf h) ≠ none := by
  unfold afterR
  cases afterN (numsOf h) <;> simp
theorem key_after {l : List PartV} (h : l ≠ []) (hl : ∀ p ∈ l, OkP p) : afterN (keyN l) ≠ none := by
  intro e
  have h1 := afterN_none _ e
  cases l with
  | nil => exact h rfl
  | cons p l =>
    rw [keyN_cons] at h1
    rcases (hl p (by simp)).may with ⟨hk, _⟩ | ⟨hk, _⟩
    · rw [bytesP_num hk] at h1
      have := h1 1 (by simp)
      omega
    · rw [bytesP_word (by omega)] at h1
      have := h1 2 (by simp)
      omega
theorem keyN_prefix (l : List PartV) (k : Nat) : keyN (l.take k) <+: keyN l := ⟨keyN (l.drop k), by rw [← keyN_app, List.take_append_drop]⟩
theorem PtsIn.take {w : World} {q : Option Addr} {l : List PartV} (h : PtsIn w q l) (k : Nat) : PtsIn w q (l.take k) := by
  intro hp
  rw [List.length_take] at hp
  obtain ⟨b, o, e, hc⟩ := h (by omega)
  refine ⟨b, o, e, fun i hi => ?_⟩
  rw [List.length_take] at hi
  have : (l.take k).getD i zeroP = l.getD i zeroP := by simp [List.getD, show i < k by omega]
  rw [this]
  exact hc i (by omega)
theorem Parts.take {w : World} {q : Option Addr} {n : Nat} {l : List PartV} (h : Parts w q n l) {k : Nat} (hk : k ≤ n) : Parts w q k (l.take k) :=
  ⟨by rw [List.length_take]; have := h.n; omega, h.lies.take k, fun p hp => h.wf p (List.mem_of_mem_take hp), fun p hp => h.text p (List.mem_of_mem_take hp)⟩
end Go.Proofs.Ythebnealkekdmab
namespace Go.Proofs.Ythebnealkekdmab.keyAfter
open Go.ChangeShapes Go.WideShapes Go.ChangeAt Go.RowKit
open Go.ChangeMaps (open_string shut_string)
set_option linter.unusedVariables false

theorem own : ownKnob Try.prog.godebug = none := by kernel_rfl
theorem laidOut : laidOutB Try.prog = true := by kernel_rfl

theorem nums_app (x y : ByteArray) : numsOf (x ++ y) = numsOf x ++ numsOf y := by
  unfold numsOf
  rw [ByteArray.data_append, Array.toList_append, List.map_append]
set_option maxRecDepth 8000 in
set_option maxHeartbeats 8000000 in
theorem walk_main (s mo y : ByteArray) (w : World) (h1 : (s.size : Int) ≤ 1000) (h2 : (mo.size : Int) ≤ 1000) (h3 : (y.size : Int) ≤ 1000) :
    Calls Try.prog 3 #[.string s, .string mo, .string y] w fun e w' => e = .returned (.bool true) ∧ Below w.heap.size w w' := by
  obtain ⟨t, r, hAR⟩ : ∃ t r, afterR s = (t, r) := ⟨_, _, rfl⟩
  have HAR : Hid (afterR s = (t, r)) := hAR
  have HSZ : Hid ((s.size : Int) ≤ 10000) := by show _ ≤ _; omega
  clear hAR
  go_enter Try.func3, Try.ntmps3
  go_wp2_with fail
  refine (alive_any _).mono ?_
  rintro e w1 ⟨rfl, hb1⟩
  have HB1 : Hid (Below w.heap.size w w1) := hb1
  clear hb1
  go_wp2_with fail
  refine (After_any s _ HSZ.out t r HAR.out).mono ?_
  rintro e w5 ⟨rfl, hb5⟩
  have HB5 : Hid (Below w.heap.size w w5) := below_bt HB1.out hb5
  clear hb5
  cases r with
  | false =>
    have hno : afterN (numsOf s) = none := by
      have := after_bool s
      rw [HAR.out] at this
      cases hh : afterN (numsOf s) with
      | none => rfl
      | some E => rw [hh] at this; simp at this
    have HALL : Hid (∀ c ∈ numsOf s, c = 255) := afterN_none _ hno
    have HTE : Hid (t = ByteArray.empty) := by
      have := HAR.out
      rw [afterR_no HALL.out] at this
      simp only [Prod.mk.injEq, and_true] at this
      exact this.symm
    obtain rfl := HTE.out
    clear hno
    go_wp2
    go_loop [10] (fun i => ∃ k : Nat, k ≤ s.size ∧ i = .int .i64 k) (fun i => s.size - (intOf i).toNat)
    case atStart => exact ⟨0, by omega, rfl⟩
    case round =>
      obtain ⟨k, hk, rfl⟩ := hrel
      by_cases hkn : k < s.size
      · have hkI : (k : Int) < (s.size : Int) := by omega
        obtain ⟨c, hc⟩ : ∃ c, (s[k]'hkn).toNat = c := ⟨_, rfl⟩
        have hc255 : c = 255 := by
          rw [← hc, ← nums_at hkn]
          refine HALL.out _ ?_
          rw [List.getD_eq_getElem?_getD, List.getElem?_eq_getElem (by rw [numsOf_len]; exact hkn)]
          exact List.getElem_mem _
        have g1 : ((c : Int) == 255) = true := by simp [hc255]
        have HK : Hid (k < s.size) := hkn
        clear hc255
        go_wp2
        go_round
        case rel => exact ⟨k + 1, by have := HK.out; omega, by go_num⟩
        case measure => have := HK.out; simp [intOf]; omega
      · obtain rfl : k = s.size := by omega
        clear hkn
        go_wp2
        go_ret
        exact ⟨rfl, HB5.out⟩
  | true =>
    have he := after_some HAR.out
    have hpm : numsOf s <+: numsOf (s ++ mo) := by rw [nums_app]; exact List.prefix_append _ _
    have ax := pre_ge he (numsOf_lt (s ++ mo)) hpm
    have a2 : Op.bytesLess (s ++ mo).toList t.toList = true := by rw [less_str]; exact decide_eq_true ax.2
    have bt := between (numsOf s) (numsOf t) (numsOf y) he (numsOf_lt y)
    have hsum : ((s.size : Int) + (mo.size : Int)) ≤ 9223372036854775807 := by omega
    have hsum2 : ¬ (9223372036854775807 : Int) < (s.size : Int) + (mo.size : Int) := by omega
    clear he ax hpm
    by_cases hp : numsOf s <+: numsOf y
    · have hq := pre_str.1 hp
      have hbb := bt.1 hp
      have l1 : decide (s.size ≤ y.size) = true := decide_eq_true hq.1
      have l2 : decide ((s.size : Int) ≤ (y.size : Int)) = true := decide_eq_true (by omega)
      have l3 : (s.size : Int) ≤ (y.size : Int) := by omega
      have l4 : y.extract 0 s.size = s := hq.2
      have b1 : Op.bytesLess y.toList s.toList = false := by rw [less_str]; exact decide_eq_false hbb.1
      have b2 : Op.bytesLess y.toList t.toList = true := by rw [less_str]; exact decide_eq_true hbb.2
      clear hp hq hbb bt
      go_wp2
      go_ret
      exact ⟨rfl, HB5.out⟩
    · have hrr : Op.bytesLess y.toList s.toList = true ∨ (Op.bytesLess y.toList s.toList = false ∧ Op.bytesLess y.toList t.toList = false) := by
        rw [less_str, less_str]
        by_cases c1 : cmpN (numsOf y) (numsOf s) < 0
        · exact .inl (decide_eq_true c1)
        · exact .inr ⟨decide_eq_false c1, decide_eq_false (fun c2 => hp (bt.2 ⟨c1, c2⟩))⟩
      by_cases hl : s.size ≤ y.size
      · have l1 : decide (s.size ≤ y.size) = true := decide_eq_true hl
        have l2 : decide ((s.size : Int) ≤ (y.size : Int)) = true := decide_eq_true (by omega)
        have l3 : (s.size : Int) ≤ (y.size : Int) := by omega
        obtain ⟨yh, hyh⟩ : ∃ yh, y.extract 0 s.size = yh := ⟨_, rfl⟩
        have l4 : (yh.toList == s.toList) = false := by
          rw [eq_str]
          exact decide_eq_false (fun e => hp (pre_str.2 ⟨hl, hyh.trans e⟩))
        clear hp hl bt
        rcases hrr with b1 | ⟨b1, b2⟩
        · go_wp2
          go_ret
          exact ⟨rfl, HB5.out⟩
        · go_wp2
          go_ret
          exact ⟨rfl, HB5.out⟩
      · have l1 : decide (s.size ≤ y.size) = false := decide_eq_false hl
        have l2 : decide ((s.size : Int) ≤ (y.size : Int)) = false := decide_eq_false (by omega)
        clear hp hl bt
        rcases hrr with b1 | ⟨b1, b2⟩
        · go_wp2
          go_ret
          exact ⟨rfl, HB5.out⟩
        · go_wp2
          go_ret
          exact ⟨rfl, HB5.out⟩
theorem walk (s mo y : ByteArray) (w : World) :
    Calls Try.prog 3 #[.string s, .string mo, .string y] w fun e w' => e = .returned (.bool true) ∧ Below w.heap.size w w' := by
  by_cases hbad : 1000 < s.size ∨ 1000 < mo.size ∨ 1000 < y.size
  · have hw : ∀ {c1 c2 c3 : Bool}, decide ((1000 : Int) < (s.size : Int)) = c1 → decide ((1000 : Int) < (mo.size : Int)) = c2 → decide ((1000 : Int) < (y.size : Int)) = c3 → (c1 || (c2 || c3)) = true →
        Calls Try.prog 3 #[.string s, .string mo, .string y] w fun e w' => e = .returned (.bool true) ∧ Below w.heap.size w w' := by
      intro c1 c2 c3 g1 g2 g3 hor
      clear hbad
      cases c1
      · cases c2
        · cases c3
          · simp at hor
          · go_enter Try.func3, Try.ntmps3
            go_wp2_with fail
            refine (alive_any _).mono ?_
            rintro e w1 ⟨rfl, hb1⟩
            have HB1 : Hid (Below w.heap.size w w1) := hb1
            clear hb1
            go_wp2
            go_ret
            exact ⟨rfl, HB1.out⟩
        · go_enter Try.func3, Try.ntmps3
          go_wp2_with fail
          refine (alive_any _).mono ?_
          rintro e w1 ⟨rfl, hb1⟩
          have HB1 : Hid (Below w.heap.size w w1) := hb1
          clear hb1
          go_wp2
          go_ret
          exact ⟨rfl, HB1.out⟩
      · go_enter Try.func3, Try.ntmps3
        go_wp2_with fail
        refine (alive_any _).mono ?_
        rintro e w1 ⟨rfl, hb1⟩
        have HB1 : Hid (Below w.heap.size w w1) := hb1
        clear hb1
        go_wp2
        go_ret
        exact ⟨rfl, HB1.out⟩
    refine hw rfl rfl rfl ?_
    simp only [Bool.or_eq_true, decide_eq_true_eq]
    omega
  · exact walk_main s mo y w (by omega) (by omega) (by omega)

/-! ### THE ROW's STEP -/
set_option maxRecDepth 100000 in
theorem lifted (os : Os) (started : os.Started) (H : Type) (enc : TypeId × Value → H) :
    ReturnsInHanded {} Try.checked os 3 .any (Rows.keyAfterSpec.pre6 enc Try.prog Try.f3 Rows.keyAfterRow.domain false) (Rows.keyAfterSpec.post enc Try.prog Try.f3 false true false false) := by
  refine returnsInHanded_of_change (C := Try.checked) own started (by kernel_rfl) Try.func3
    (ChangeSpec.witness6 (enc := enc) (C := Try.checked) false ⟨#[], #[.string ByteArray.empty, .string ByteArray.empty, .string ByteArray.empty], []⟩ 8 (by kernel_rfl) (by kernel_rfl) (by kernel_rfl) (by kernel_rfl)) ?_
  intro W base args ds gs before hval0 hW hcnd _
  have hval : ∀ (j : Nat) t v, Try.f3.params[j]? = some t → args[j]? = some v → Value.okWide Try.prog W .any base t v := hval0
  have hW' := hW
  obtain ⟨p, q, hA0, hV, rfl, hfz, hnd⟩ := hW
  have hA : DataW.TrodAll enc Try.prog W 0 (fun _ => true) true Try.f3.params.toList args.toList ds p := hA0
  rw [Try.params3] at hA hval
  obtain ⟨v0, vs0, d0, ds0, p0, q0, hargs, rfl, rfl, h0, r0⟩ := trodAll_cons hA
  obtain ⟨v1, vs1, d1, ds1, p1, q1, rfl, rfl, rfl, h1, r1⟩ := trodAll_cons r0
  obtain ⟨v2, vs2, d2, ds2, p2, q2, rfl, rfl, rfl, h2, r2⟩ := trodAll_cons r1
  obtain ⟨rfl, rfl, rfl⟩ := trodAll_nil r2
  obtain rfl : args = #[v0, v1, v2] := by cases args; simp_all
  obtain ⟨rfl, rfl⟩ := trodVars_none hV
  obtain ⟨a0, rfl, rfl, rfl, w0⟩ := open_string Try.underlying9 (hval 0 9 v0 rfl rfl) h0
  obtain ⟨a1, rfl, rfl, rfl, w1⟩ := open_string Try.underlying9 (hval 1 9 v1 rfl rfl) h1
  obtain ⟨a2, rfl, rfl, rfl, w2⟩ := open_string Try.underlying9 (hval 2 9 v2 rfl rfl) h2
  clear hA0 hval0
  refine (walk a0 a1 a2 W ).mono fun e W' ⟨he, bel⟩ => ?_
  subst he
  exact ⟨_, rfl, _, _, _, [], _, [], hW', trodAll_mk1 (shut_bool Try.underlying4 _), (trodAll_cons_mk (shut_string Try.underlying9 w0) (trodAll_cons_mk (shut_string Try.underlying9 w1) (trodAll_cons_mk (shut_string Try.underlying9 w2) trodAll_mk0))), rfl, bel.frame _, fun h => by cases h⟩

theorem over : Rows.keyAfterRow.holds Try.pinned (OpenSpec.ofChange Rows.keyAfterSpec) :=
  OpenClaim.holds_of_wide 3 Try.f3 rfl rfl rfl rfl rfl rfl rfl ⟨rfl, rfl, rfl, rfl, rfl⟩ rfl rfl rfl rfl rfl (by kernel_rfl) Try.func3 (by kernel_rfl)
    (of_decide_eq_true (by kernel_rfl)) (by unfold Func.isWrapper; first | (rw [if_pos (by decide +kernel)]; kernel_rfl) | (rw [if_neg (by decide +kernel)]; exact ⟨rfl, rfl⟩))
    (fun os started H enc _ => lifted os started H enc)

theorem proved : Rows.KeyAfterSaid := over
end Go.Proofs.Ythebnealkekdmab.keyAfter
namespace Go.Proofs.Ythebnealkekdmab
theorem keyAfter_holds : Rows.KeyAfterSaid := keyAfter.proved
#print axioms keyAfter_holds
end Go.Proofs.Ythebnealkekdmab
