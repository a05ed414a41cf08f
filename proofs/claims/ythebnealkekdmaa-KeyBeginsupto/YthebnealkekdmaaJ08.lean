/-
  The key of a list's beginning begins its key, and what After tells of it stands behind all keys that begin so, and ahead of no other that is not ahead of it, at any lists that together hold at most 1048576 values and letters (of lists of more than 100 parts, or whose keys cannot be made, the statement asks nothing).
-/
import Derived.Test.YthebnealkekdmaaJ07
import Derived.Test.YthebnealkekdmaaRows
import Derived.Test.YthebnealkekdmaaJ06
import Derived.WalkKit
import Derived.ProofKit
import Derived.OpenShut
import Derived.ShutString
import Derived.ChangeOld
import Derived.Below
import Derived.JoinedCond
namespace Go.Proofs.Ythebnealkekdmaa

theorem afterN_none : ∀ (h : List Nat), afterN h = none → ∀ c ∈ h, c = 255
  | [], _ => by simp
  | c :: h, e => by
    unfold afterN at e
    cases hh : afterN h with
    | some r => rw [hh] at e; simp at e
    | none =>
      rw [hh] at e
      simp only at e
      by_cases h255 : c = 255
      · intro d hd
        rcases List.mem_cons.1 hd with rfl | hd
        · exact h255
        · exact afterN_none h hh d hd
      · rw [if_neg h255] at e; simp at e
theorem bet255 : ∀ (h y : List Nat), (∀ c ∈ h, c = 255) → (∀ c ∈ y, c < 256) → (h <+: y ↔ ¬ cmpN y h < 0)
  | [], [], _, _ => by simp [cmpN]
  | [], _ :: _, _, _ => by simp [cmpN]
  | _ :: _, [], _, _ => by simp [cmpN]
  | c :: h, d :: y, hh, hy => by
    have hc : c = 255 := hh c (by simp)
    have hd : d < 256 := hy d (by simp)
    have ih := bet255 h y (fun x hx => hh x (by simp [hx])) (fun x hx => hy x (by simp [hx]))
    by_cases e : d = c
    · subst e
      rw [cmpN_cons, ← ih]
      simp
    · rw [cmpN_ne y h e]
      have : cmpI (d : Int) (c : Int) = -1 := by unfold cmpI; rw [if_pos (by omega)]
      rw [this]
      simp
      omega
theorem between : ∀ (h E y : List Nat), afterN h = some E → (∀ c ∈ y, c < 256) → (h <+: y ↔ (¬ cmpN y h < 0 ∧ cmpN y E < 0))
  | [], _, _, e, _ => by simp [afterN] at e
  | c :: h, E, y, e, hy => by
    unfold afterN at e
    cases y with
    | nil => simp [cmpN]
    | cons d y =>
      have hy' : ∀ x ∈ y, x < 256 := fun x hx => hy x (by simp [hx])
      cases hh : afterN h with
      | some r =>
        rw [hh] at e
        simp only [Option.some.injEq] at e
        subst e
        have ih := between h r y hh hy'
        by_cases ed : d = c
        · subst ed
          rw [cmpN_cons, cmpN_cons, ← ih]
          simp
        · rw [cmpN_ne y h ed, cmpN_ne y r ed]
          constructor
          · intro hp; exfalso; obtain ⟨t, ht⟩ := hp; injection ht with h1 _; exact ed h1.symm
          · rintro ⟨h1, h2⟩; exact absurd h2 h1
      | none =>
        rw [hh] at e
        simp only at e
        by_cases h255 : c = 255
        · rw [if_pos h255] at e; simp at e
        · rw [if_neg h255] at e
          simp only [Option.some.injEq] at e
          subst e
          by_cases ed : d = c
          · subst ed
            rw [cmpN_cons, cmpN_ne y [] (show d ≠ d + 1 by omega)]
            have h1 : cmpI (d : Int) ((d + 1 : Nat) : Int) = -1 := by unfold cmpI; rw [if_pos (by omega)]
            rw [h1, ← bet255 h y (afterN_none h hh) hy']
            simp
          · rw [cmpN_ne y h ed]
            constructor
            · intro hp; exfalso; obtain ⟨t, ht⟩ := hp; injection ht with h1 _; exact ed h1.symm
            · rintro ⟨h1, h2⟩
              exfalso
              have hdc : c < d := by
                unfold cmpI at h1
                split at h1 <;> omega
              by_cases e2 : d = c + 1
              · subst e2
                rw [cmpN_cons] at h2
                cases y <;> simp [cmpN] at h2
              · rw [cmpN_ne y [] e2] at h2
                unfold cmpI at h2
                split at h2
                · omega
                · split at h2 <;> omega
theorem pre_ge {h y E : List Nat} (he : afterN h = some E) (hy : ∀ c ∈ y, c < 256) (hp : h <+: y) : ¬ cmpN y h < 0 ∧ cmpN y E < 0 := (between h E y he hy).1 hp
/-! ### Of texts -/
theorem less_str (x y : ByteArray) : Op.bytesLess x.toList y.toList = decide (cmpN (numsOf x) (numsOf y) < 0) := by
  rw [ByteArray.toList_eq, ByteArray.toList_eq, bytesLess_cmp, cmpS_nums]; rfl
theorem eq_str (x y : ByteArray) : (x.toList == y.toList) = decide (x = y) := by
  rw [ByteArray.toList_eq, ByteArray.toList_eq]
  by_cases h : x = y
  · subst h; simp
  · simp only [h, decide_false]
    exact beq_eq_false_iff_ne.2 (fun e => h (ba_ext.1 e))
theorem nums_inj {x y : ByteArray} (h : numsOf x = numsOf y) : x = y := by rw [← strOf_nums x, h, strOf_nums]
theorem pre_str {h y : ByteArray} : numsOf h <+: numsOf y ↔ (h.size ≤ y.size ∧ y.extract 0 h.size = h) := by
  constructor
  · intro hp
    have hl := hp.length_le
    rw [numsOf_len, numsOf_len] at hl
    refine ⟨hl, nums_inj ?_⟩
    rw [numsOf_extract, List.drop_zero, Nat.sub_zero, ← numsOf_len h]
    exact (List.prefix_iff_eq_take.1 hp).symm
  · rintro ⟨_, h2⟩
    rw [List.prefix_iff_eq_take]
    have := congrArg numsOf h2
    rw [numsOf_extract, List.drop_zero, Nat.sub_zero, ← numsOf_len h] at this
    exact this.symm
theorem afterN_byte : ∀ (h E : List Nat), afterN h = some E → (∀ c ∈ h, c < 256) → ∀ c ∈ E, c < 256
  | [], _, e, _ => by simp [afterN] at e
  | c :: h, E, e, hb => by
    unfold afterN at e
    cases hh : afterN h with
    | some r =>
      rw [hh] at e
      simp only [Option.some.injEq] at e
      subst e
      intro d hd
      rcases List.mem_cons.1 hd with rfl | hd
      · exact hb _ (by simp)
      · exact afterN_byte h r hh (fun x hx => hb x (by simp [hx])) d hd
    | none =>
      rw [hh] at e
      simp only at e
      by_cases h255 : c = 255
      · rw [if_pos h255] at e; simp at e
      · rw [if_neg h255] at e
        simp only [Option.some.injEq] at e
        subst e
        intro d hd
        simp at hd
        have := hb c (by simp)
        omega
theorem after_some {h t : ByteArray} (hR : afterR h = (t, true)) : afterN (numsOf h) = some (numsOf t) := by
  unfold afterR at hR
  cases he : afterN (numsOf h) with
  | none => rw [he] at hR; simp at hR
  | some E =>
    rw [he] at hR
    simp only [Prod.mk.injEq, and_true] at hR
    rw [← hR]
    have hb : ∀ c ∈ E, c < 256 := afterN_byte _ _ he (numsOf_lt h)
    rw [nums_strOf hb]
theorem after_bool (h : ByteArray) : (afterR h).2 = true ↔ afterN (numsOf h) ≠ none := by
  unfold afterR
  cases afterN (numsOf h) <;> simp
theorem key_after {l : List PartV} (h : l ≠ []) (hl : ∀ p ∈ l, OkP p) : afterN (keyN l) ≠ none := by
  intro e
  have h1 := afterN_none _ e
  cases l with
  | nil => exact h rfl
  | cons p l =>
    rw [keyN_cons] at h1
    rcases (hl p (by simp)).may with ⟨hk, _⟩ | ⟨hk, _⟩
    · rw [bytesP_num hk] at h1
      have := h1 1 (by simp)
      omega
    · rw [bytesP_word (by omega)] at h1
      have := h1 2 (by simp)
      omega
theorem keyN_prefix (l : List PartV) (k : Nat) : keyN (l.take k) <+: keyN l := ⟨keyN (l.drop k), by rw [← keyN_app, List.take_append_drop]⟩
theorem PtsIn.take {w : World} {q : Option Addr} {l : List PartV} (h : PtsIn w q l) (k : Nat) : PtsIn w q (l.take k) := by
  intro hp
  rw [List.length_take] at hp
  obtain ⟨b, o, e, hc⟩ := h (by omega)
  refine ⟨b, o, e, fun i hi => ?_⟩
  rw [List.length_take] at hi
  have : (l.take k).getD i zeroP = l.getD i zeroP := by simp [List.getD, show i < k by omega]
  rw [this]
  exact hc i (by omega)
theorem Parts.take {w : World} {q : Option Addr} {n : Nat} {l : List PartV} (h : Parts w q n l) {k : Nat} (hk : k ≤ n) : Parts w q k (l.take k) :=
  ⟨by rw [List.length_take]; have := h.n; omega, h.lies.take k, fun p hp => h.wf p (List.mem_of_mem_take hp), fun p hp => h.text p (List.mem_of_mem_take hp)⟩
end Go.Proofs.Ythebnealkekdmaa
namespace Go.Proofs.Ythebnealkekdmaa.keyBegins
open Go.ChangeShapes Go.WideShapes Go.ChangeAt Go.RowKit
open Go.ChangeMaps (open_string shut_string)
set_option linter.unusedVariables false

theorem own : ownKnob Try.prog.godebug = none := by kernel_rfl
theorem laidOut : laidOutB Try.prog = true := by kernel_rfl

set_option maxRecDepth 8000 in
set_option maxHeartbeats 8000000 in
theorem walk_main (qa qb : Option Addr) (na nb ca cb k : Nat) (a b : List PartV) (w : World) (ha : Parts w qa na a) (hb : Parts w qb nb b) (hna : (na : Int) ≤ 100) (hnb : (nb : Int) ≤ 100) (hk : k ≤ na) (hca : na ≤ ca) :
    Calls Try.prog 8 #[.slice qa na ca, .int .i64 k, .slice qb nb cb] w fun e w' => e = .returned (.bool true) ∧ Below w.heap.size w w' := by
  have HA : Hid (Parts w qa na a) := ha
  have HB : Hid (Parts w qb nb b) := hb
  have HT : Hid (Parts w qa k (a.take k)) := ha.take hk
  have HS : Hid ((na : Int) ≤ 100 ∧ (nb : Int) ≤ 100 ∧ k ≤ na) := ⟨hna, hnb, hk⟩
  have hkI : (k : Int) ≤ (na : Int) := by omega
  have hkc : (k : Int) ≤ (ca : Int) := by omega
  obtain ⟨R, hR⟩ : ∃ R, makeR a = R := ⟨_, rfl⟩
  obtain ⟨x, e1⟩ := R
  have HRA : Hid (makeR a = (x, e1)) := hR
  obtain ⟨R2, hR2⟩ : ∃ R, makeR b = R := ⟨_, rfl⟩
  obtain ⟨y, e2⟩ := R2
  have HRB : Hid (makeR b = (y, e2)) := hR2
  obtain ⟨R3, hR3⟩ : ∃ R, makeR (a.take k) = R := ⟨_, rfl⟩
  obtain ⟨hd, e3⟩ := R3
  have HRH : Hid (makeR (a.take k) = (hd, e3)) := hR3
  obtain ⟨t, r, hAR⟩ : ∃ t r, afterR hd = (t, r) := ⟨_, _, rfl⟩
  have HAR : Hid (afterR hd = (t, r)) := hAR
  have gk : decide ((na : Int) < (k : Int)) = false := decide_eq_false (by omega)
  clear ha hb hR hR2 hR3 hk hca hAR
  go_enter Try.func8, Try.ntmps8
  go_wp2_with fail
  refine (alive_any _).mono ?_
  rintro e w1 ⟨rfl, hb1⟩
  have HB1 : Hid (Below w.heap.size w w1) := hb1
  clear hb1
  go_wp2_with fail
  refine (Make_any qa na ca a _ (HA.out.below HB1.out) (by have := HS.out; omega) _ HRA.out).mono ?_
  rintro e w2 ⟨rfl, hb2⟩
  rw [show makeE (x, e1) = .tuple #[.string x, .int .i64 e1] from rfl]
  have HB2 : Hid (Below w.heap.size w w2) := below_bt HB1.out hb2
  clear hb2
  go_wp2_with fail
  refine (Make_any qa k ca (a.take k) _ (HT.out.below HB2.out) (by have := HS.out; omega) _ HRH.out).mono ?_
  rintro e w3 ⟨rfl, hb3⟩
  rw [show makeE (hd, e3) = .tuple #[.string hd, .int .i64 e3] from rfl]
  have HB3 : Hid (Below w.heap.size w w3) := below_bt HB2.out hb3
  clear hb3
  go_wp2_with fail
  refine (Make_any qb nb cb b _ (HB.out.below HB3.out) (by have := HS.out; omega) _ HRB.out).mono ?_
  rintro e w4 ⟨rfl, hb4⟩
  rw [show makeE (y, e2) = .tuple #[.string y, .int .i64 e2] from rfl]
  have HB4 : Hid (Below w.heap.size w w4) := below_bt HB3.out hb4
  clear hb4
  by_cases h1 : e1 = 0
  · by_cases h3 : e3 = 0
    · by_cases h2 : e2 = 0
      · subst h1 h2 h3
        have kx := makeR_key (fun p hp => (HA.out.wf p hp).int) HRA.out
        have kh := makeR_key (fun p hp => (HT.out.wf p hp).int) HRH.out
        have HPX : Hid (numsOf hd <+: numsOf x) := by show _ <+: _; rw [← kx.1.key, ← kh.1.key]; exact keyN_prefix a k
        have hpx := pre_str.1 HPX.out
        have HSZ : Hid ((hd.size : Int) ≤ 10000) := by have := kh.1.len; rw [numsOf_len] at this; show _ ≤ _; omega
        have hlx : decide (x.size < hd.size) = false := decide_eq_false (by omega)
        have hlxI : decide ((x.size : Int) < (hd.size : Int)) = false := decide_eq_false (by omega)
        have hlI : (hd.size : Int) ≤ (x.size : Int) := by omega
        have hxe : x.extract 0 hd.size = hd := hpx.2
        have HRK : Hid (r = true ↔ 0 < k) := by
          show _ ↔ _
          have := after_bool hd
          rw [HAR.out] at this
          rw [this, ← kh.1.key]
          constructor
          · intro hne
            rcases Nat.eq_zero_or_pos k with h0 | h0
            · subst h0; exact absurd rfl hne
            · exact h0
          · intro h0
            refine key_after ?_ kh.1.ok
            intro e
            have h5 := HT.out.n
            rw [e] at h5
            simp at h5
            omega
        clear kx kh hpx
        go_wp2_with fail
        refine (After_any hd _ HSZ.out t r HAR.out).mono ?_
        rintro e w5 ⟨rfl, hb5⟩
        have HB5 : Hid (Below w.heap.size w w5) := below_bt HB4.out hb5
        clear hb5
        by_cases h0 : k = 0
        · have HRF : Hid (r = false) := by
            show r = false
            rw [Bool.eq_false_iff]
            intro e
            have := HRK.out.1 e
            omega
          obtain rfl := HRF.out
          subst h0
          go_wp2
          go_ret
          exact ⟨rfl, HB5.out⟩
        · have HRT : Hid (r = true) := HRK.out.2 (by omega)
          obtain rfl := HRT.out
          have g0 : decide ((0 : Int) < (k : Int)) = true := decide_eq_true (by omega)
          have g00 : decide (0 < k) = true := decide_eq_true (by omega)
          have g01 : 0 < k := by omega
          have he := after_some HAR.out
          have ax := pre_ge he (numsOf_lt x) HPX.out
          have a1 : Op.bytesLess x.toList hd.toList = false := by rw [less_str]; exact decide_eq_false ax.1
          have a2 : Op.bytesLess x.toList t.toList = true := by rw [less_str]; exact decide_eq_true ax.2
          have bt := between (numsOf hd) (numsOf t) (numsOf y) he (numsOf_lt y)
          clear h0 he ax
          by_cases hp : numsOf hd <+: numsOf y
          · have hq := pre_str.1 hp
            have hbb := bt.1 hp
            have l1 : decide (hd.size ≤ y.size) = true := decide_eq_true hq.1
            have l2 : decide ((hd.size : Int) ≤ (y.size : Int)) = true := decide_eq_true (by omega)
            have l3 : (hd.size : Int) ≤ (y.size : Int) := by omega
            have l4 : y.extract 0 hd.size = hd := hq.2
            have b1 : Op.bytesLess y.toList hd.toList = false := by rw [less_str]; exact decide_eq_false hbb.1
            have b2 : Op.bytesLess y.toList t.toList = true := by rw [less_str]; exact decide_eq_true hbb.2
            clear hp hq hbb bt
            go_wp2
            go_ret
            exact ⟨rfl, HB5.out⟩
          · have hrr : Op.bytesLess y.toList hd.toList = true ∨ (Op.bytesLess y.toList hd.toList = false ∧ Op.bytesLess y.toList t.toList = false) := by
              rw [less_str, less_str]
              by_cases c1 : cmpN (numsOf y) (numsOf hd) < 0
              · exact .inl (decide_eq_true c1)
              · exact .inr ⟨decide_eq_false c1, decide_eq_false (fun c2 => hp (bt.2 ⟨c1, c2⟩))⟩
            by_cases hl : hd.size ≤ y.size
            · have l1 : decide (hd.size ≤ y.size) = true := decide_eq_true hl
              have l2 : decide ((hd.size : Int) ≤ (y.size : Int)) = true := decide_eq_true (by omega)
              have l3 : (hd.size : Int) ≤ (y.size : Int) := by omega
              obtain ⟨yh, hyh⟩ : ∃ yh, y.extract 0 hd.size = yh := ⟨_, rfl⟩
              have l4 : (yh.toList == hd.toList) = false := by
                rw [eq_str]
                exact decide_eq_false (fun e => hp (pre_str.2 ⟨hl, hyh.trans e⟩))
              clear hp hl bt
              rcases hrr with b1 | ⟨b1, b2⟩
              · go_wp2
                go_ret
                exact ⟨rfl, HB5.out⟩
              · go_wp2
                go_ret
                exact ⟨rfl, HB5.out⟩
            · have l1 : decide (hd.size ≤ y.size) = false := decide_eq_false hl
              have l2 : decide ((hd.size : Int) ≤ (y.size : Int)) = false := decide_eq_false (by omega)
              clear hp hl bt
              rcases hrr with b1 | ⟨b1, b2⟩
              · go_wp2
                go_ret
                exact ⟨rfl, HB5.out⟩
              · go_wp2
                go_ret
                exact ⟨rfl, HB5.out⟩
      · have g2 : ((e2 : Int) == 0) = false := by simp; omega
        subst h1 h3
        clear h2
        go_wp2
        go_ret
        exact ⟨rfl, HB4.out⟩
    · have g2 : ((e3 : Int) == 0) = false := by simp; omega
      subst h1
      clear h3
      go_wp2
      go_ret
      exact ⟨rfl, HB4.out⟩
  · have g1 : ((e1 : Int) == 0) = false := by simp; omega
    clear h1
    go_wp2
    all_goals
      go_ret
      exact ⟨rfl, HB4.out⟩
theorem walk (va : Value) (a : List PartV) (n : Int) (vb : Value) (b : List PartV) (w : World) (ha : PtIn w va a) (ta : ∀ p ∈ a, p.text.size ≤ 1048576) (wn : (Lit.int .i64 n).wf = true) (hb : PtIn w vb b) (tb : ∀ p ∈ b, p.text.size ≤ 1048576) :
    Calls Try.prog 8 #[va, .int .i64 n, vb] w fun e w' => e = .returned (.bool true) ∧ Below w.heap.size w w' := by
  obtain ⟨qa, ca, rfl, pa, la, _⟩ := ha.lies
  obtain ⟨qb, cb, rfl, pb, _⟩ := hb.lies
  by_cases hbad : 100 < a.length ∨ 100 < b.length ∨ n < 0 ∨ (a.length : Int) < n
  · have hw : ∀ {c1 c2 c3 c4 : Bool}, decide ((100 : Int) < (a.length : Int)) = c1 → decide ((100 : Int) < (b.length : Int)) = c2 → decide (n < 0) = c3 → decide ((a.length : Int) < n) = c4 → (c1 || (c2 || (c3 || c4))) = true →
        Calls Try.prog 8 #[.slice qa a.length ca, .int .i64 n, .slice qb b.length cb] w fun e w' => e = .returned (.bool true) ∧ Below w.heap.size w w' := by
      intro c1 c2 c3 c4 g1 g2 g3 g4 hor
      clear hbad ha hb ta tb pa pb la wn
      cases c1
      · cases c2
        · cases c3
          · cases c4
            · simp at hor
            · go_enter Try.func8, Try.ntmps8
              go_wp2_with fail
              refine (alive_any _).mono ?_
              rintro e w1 ⟨rfl, hb1⟩
              have HB1 : Hid (Below w.heap.size w w1) := hb1
              clear hb1
              go_wp2
              go_ret
              exact ⟨rfl, HB1.out⟩
          · go_enter Try.func8, Try.ntmps8
            go_wp2_with fail
            refine (alive_any _).mono ?_
            rintro e w1 ⟨rfl, hb1⟩
            have HB1 : Hid (Below w.heap.size w w1) := hb1
            clear hb1
            go_wp2
            go_ret
            exact ⟨rfl, HB1.out⟩
        · go_enter Try.func8, Try.ntmps8
          go_wp2_with fail
          refine (alive_any _).mono ?_
          rintro e w1 ⟨rfl, hb1⟩
          have HB1 : Hid (Below w.heap.size w w1) := hb1
          clear hb1
          go_wp2
          go_ret
          exact ⟨rfl, HB1.out⟩
      · go_enter Try.func8, Try.ntmps8
        go_wp2_with fail
        refine (alive_any _).mono ?_
        rintro e w1 ⟨rfl, hb1⟩
        have HB1 : Hid (Below w.heap.size w w1) := hb1
        clear hb1
        go_wp2
        go_ret
        exact ⟨rfl, HB1.out⟩
    refine hw rfl rfl rfl rfl ?_
    simp only [Bool.or_eq_true, decide_eq_true_eq]
    omega
  · obtain ⟨k, rfl⟩ : ∃ k : Nat, n = k := ⟨n.toNat, by omega⟩
    exact walk_main qa qb _ _ ca cb k a b w (parts_of ha ta) (parts_of hb tb) (by omega) (by omega) (by omega) la

/-! ### THE ROW's STEP -/
set_option maxRecDepth 100000 in
theorem lifted (os : Os) (started : os.Started) (H : Type) (enc : TypeId × Value → H) (F : Stop.Interp) :
    ReturnsInHanded {} Try.checked os 8 .any ((Rows.OpenSpec.upto Rows.keyBeginsSpec).pre6 enc Try.prog Try.f8 Rows.keyBeginsUptoRow.domain false) (((Rows.OpenSpec.upto Rows.keyBeginsSpec).at F).post enc Try.prog Try.f8 false true false false) := by
  refine returnsInHanded_of_cond (C := Try.checked) (s := Rows.OpenSpec.upto Rows.keyBeginsSpec) (k := Rows.uptoSmall) rfl own started (by kernel_rfl) Try.func8
    (OpenSpec.witness (enc := enc) (C := Try.checked) (s := Rows.OpenSpec.upto Rows.keyBeginsSpec) (k := Rows.uptoSmall) rfl false ⟨#[], #[.slice none 0 0, .int .i64 0, .slice none 0 0], []⟩ 8 (by kernel_rfl) (by kernel_rfl) (by kernel_rfl)
      (x := ([.nil, .lit (.int .i64 0), .nil], [], [])) (by kernel_rfl) rfl (by kernel_rfl)) ?_
  intro W base args ds gs before hval0 hW hcnd hk _
  have hval : ∀ (j : Nat) t v, Try.f8.params[j]? = some t → args[j]? = some v → Value.okWide Try.prog W .any base t v := hval0
  have hW' := hW
  obtain ⟨p, q, hA0, hV, rfl, hfz, hnd⟩ := hW
  have hA : DataW.TrodAll enc Try.prog W 0 (fun _ => true) true Try.f8.params.toList args.toList ds p := hA0
  rw [Try.params8] at hA hval
  obtain ⟨v0, vs0, d0, ds0, p0, q0, hargs, rfl, rfl, h0, r0⟩ := trodAll_cons hA
  obtain ⟨v1, vs1, d1, ds1, p1, q1, rfl, rfl, rfl, h1, r1⟩ := trodAll_cons r0
  obtain ⟨v2, vs2, d2, ds2, p2, q2, rfl, rfl, rfl, h2, r2⟩ := trodAll_cons r1
  obtain ⟨rfl, rfl, rfl⟩ := trodAll_nil r2
  obtain rfl : args = #[v0, v1, v2] := by cases args; simp_all
  obtain ⟨rfl, rfl⟩ := trodVars_none hV
  have hbd := bulk_bound hk
  have k0 := h0
  have lt0 : ∀ x ∈ p0, x.block < W.heap.size := by obtain ⟨m, hm⟩ := k0; exact DataW.trod_lt m _ _ _ hm
  obtain ⟨qa0, la0, ca0, rfl⟩ := okWide_slice Try.underlying28 (hval 0 28 v0 rfl rfl)
  obtain ⟨fu0, hf0⟩ := h0
  obtain ⟨l0, w0, t0⟩ := open_parts2 Try.underlying28 Try.underlying26 (by kernel_rfl) rfl rfl rfl (by kernel_rfl) (by kernel_rfl) (by kernel_rfl) Try.underlying5 Try.underlying2 Try.underlying9 hf0
  have s0 : ∀ p ∈ l0, p.text.size ≤ 1048576 := fun p hp => Nat.le_trans (t0 p hp) (Nat.le_trans (bulk_part (d := d0) (by simp)) hbd)
  obtain ⟨a1, rfl, rfl, rfl, w1⟩ := open_int Try.underlying3 (hval 1 3 v1 rfl rfl) h1
  have k2 := h2
  have lt2 : ∀ x ∈ p2, x.block < W.heap.size := by obtain ⟨m, hm⟩ := k2; exact DataW.trod_lt m _ _ _ hm
  obtain ⟨qa2, la2, ca2, rfl⟩ := okWide_slice Try.underlying28 (hval 2 28 v2 rfl rfl)
  obtain ⟨fu2, hf2⟩ := h2
  obtain ⟨l2, w2, t2⟩ := open_parts2 Try.underlying28 Try.underlying26 (by kernel_rfl) rfl rfl rfl (by kernel_rfl) (by kernel_rfl) (by kernel_rfl) Try.underlying5 Try.underlying2 Try.underlying9 hf2
  have s2 : ∀ p ∈ l2, p.text.size ≤ 1048576 := fun p hp => Nat.le_trans (t2 p hp) (Nat.le_trans (bulk_part (d := d2) (by simp)) hbd)
  clear hA0 hval0
  refine (walk (.slice qa0 la0 ca0) l0 a1 (.slice qa2 la2 ca2) l2 W w0 s0 w1 w2 s2).mono fun e W' ⟨he, bel⟩ => ?_
  subst he
  exact ⟨_, rfl, _, _, _, [], _, [], hW', trodAll_mk1 (shut_bool Try.underlying4 _), (trodAll_cons_mk (Below.trod laidOut (by kernel_rfl) (of_decide_eq_true (by kernel_rfl)) k0 bel lt0) (trodAll_cons_mk (shut_int Try.underlying3 w1) (trodAll_cons_mk (Below.trod laidOut (by kernel_rfl) (of_decide_eq_true (by kernel_rfl)) k2 bel lt2) trodAll_mk0))), rfl, bel.frame _, fun h => by cases h⟩

theorem over : Rows.keyBeginsUptoRow.holds Try.pinned (Rows.OpenSpec.upto Rows.keyBeginsSpec) :=
  OpenClaim.holds_of_cond 8 Try.f8 rfl rfl rfl rfl rfl rfl rfl ⟨rfl, rfl, rfl, rfl, rfl⟩ rfl rfl rfl rfl rfl (by kernel_rfl) Try.func8 (by kernel_rfl)
    (of_decide_eq_true (by kernel_rfl)) (by unfold Func.isWrapper; first | (rw [if_pos (by decide +kernel)]; kernel_rfl) | (rw [if_neg (by decide +kernel)]; exact ⟨rfl, rfl⟩))
    (fun os started H enc _ F => lifted os started H enc F)

theorem proved : Rows.KeyBeginsUptoSaid := over
end Go.Proofs.Ythebnealkekdmaa.keyBegins
namespace Go.Proofs.Ythebnealkekdmaa
theorem keyBegins_holds : Rows.KeyBeginsUptoSaid := keyBegins.proved
#print axioms keyBegins_holds
end Go.Proofs.Ythebnealkekdmaa
