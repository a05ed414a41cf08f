/-
  The laws' helpers: appending, texts, among, great.
-/
import Derived.Test.YtompcdmjbigigaaRMay
import Derived.Laws.AppendOwnNone
namespace Go.Proofs.Ytompcdmjbigigaa
open Go.RowKit Go.WideShapes Go.Joins Go.Maps

theorem wpList_append_strs {w : World} {ops : Array Oper} {rest : List Oper} {o : Oper} {a : Act} {Q : Exit → Act → World → Prop} (hgd : o.guard = none) (s x : Operand)
    (ho : o.op = .call { callee := .builtin .append, args := #[s, x], argTypes := #[27, 27] }) (base : Nat) (v : Value) (l : List ByteArray) (q2 : Option Addr) (l2 : List ByteArray) (n2 c2 : Nat)
    (hs : a.eval s = v) (hown : OwnS w base v l) (hx : a.eval x = .slice q2 n2 c2) (hin : StrsIn w q2 l2 c2) (hn2 : l2.length = n2) (hlen : l.length + l2.length ≤ 1000000) (hbase : base ≤ w.heap.size)
    (h : ∀ q' c' w', OwnS w' base (.slice q' (l ++ l2).length c') (l ++ l2) → Below base w w' → wpList Try.prog ops Q rest (a.put o.dst (.slice q' (l ++ l2).length c')) w') : wpList Try.prog ops Q (o :: rest) a w := by
  obtain ⟨i0, hi, hz0, hz1, hz2⟩ := info_parts info_str
  subst hn2
  cases q2 with
  | none =>
    obtain ⟨rfl, rfl⟩ := strs_none hin
    obtain ⟨q, c, rfl⟩ := ownsRow_slice hown.row
    refine wpList_append_own_none hgd s x 27 ho base 9 i0 1 Try.underlying27 hi _ _ _ hs hown.row hx ?_
    have := h q c w (by rw [List.append_nil]; exact hown) (Below.refl _ _)
    rw [List.append_nil] at this
    exact this
  | some ad =>
    refine wpList_append_own _ hgd s x 27 ho base 9 i0 (.string ⟨#[]⟩) 1 16 Try.underlying27 hi hz0 hz1 hz2 rfl (by decide) v l.length (l.map Value.string) hs hown.row ad l2.length c2 (l2.map Value.string) hx (by simp) (strs_news hin) (one_strs l2) (by unfold maxLen; omega) (by omega) hbase ?_
    intro v' w' hown' hg _
    obtain ⟨q', c', rfl⟩ := ownsRow_slice hown'
    rw [← List.map_append, ← List.length_append] at hown'
    rw [← List.length_append]
    refine h q' c' w' ⟨hown', fun s hs' => ?_⟩ ?_
    · rcases List.mem_append.1 hs' with h1 | h1
      · exact hown.fits s h1
      · exact hin.fits s h1
    · refine (Below.refl base w).grown hg hbase (fun j ej => ?_)
      exact (hown.row.lt j ej).1
set_option maxHeartbeats 2000000 in
set_option maxRecDepth 8000 in
theorem among_any (q : Option Addr) (c : Nat) (l : List ByteArray) (s : ByteArray) (w : World) (h : StrsIn w q l c) :
    Calls Try.prog 21 #[.slice q l.length c, .string s] w fun e w' => e = .returned (.bool (isIn l s)) ∧ w' = w := by
  have HH : Hid (StrsIn w q l c) := h
  have hnI : (l.length : Int) ≤ 9223372036854775807 := by have := h.le; have := h.cap; unfold maxLen at this; omega
  obtain ⟨n, hN⟩ : ∃ n, l.length = n := ⟨_, rfl⟩
  rw [hN] at hnI ⊢
  have HN : Hid (l.length = n) := hN
  clear h hN
  go_enter Try.func21, Try.ntmps21
  go_wp2_with fail
  go_loopw [5] (fun t wr => ∃ k : Nat, k ≤ n ∧ t = .int .i64 (k : Int) ∧ (∀ j, j < k → l.getD j ByteArray.empty ≠ s) ∧ wr = w) (fun t _ => n - (intOf t).toNat)
  case atStart => exact ⟨0, Nat.zero_le _, rfl, fun j hj => absurd hj (Nat.not_lt_zero _), rfl⟩
  case round =>
    obtain ⟨k, hk, rfl, hz, rfl⟩ := hrel
    have HZ : Hid (∀ j, j < k → l.getD j ByteArray.empty ≠ s) := hz
    clear hz
    by_cases hlt : k < n
    · have hkI : (k : Int) < (n : Int) := by omega
      have hk0 : (0 : Int) ≤ (k : Int) := by omega
      have HK : Hid (k < n ∧ k < l.length) := ⟨hlt, by have := HN.out; omega⟩
      obtain ⟨fb, fo, rfl⟩ := HH.out.addr (by have := HK.out; omega)
      have z0 := HH.out.at (i := k) HK.out.2
      have q1 := str_eq (l.getD k ByteArray.empty) s
      by_cases hx : l.getD k ByteArray.empty = s
      · have HX : Hid (l.getD k ByteArray.empty = s) := hx
        rw [decide_eq_true hx] at q1
        generalize hxe : l.getD k ByteArray.empty = x at z0 q1
        clear hk hlt hx hxe
        go_wp2_with fail
        go_ret
        exact ⟨by rw [isIn_yes HK.out.2 HX.out]; rfl, rfl⟩
      · have HX : Hid (l.getD k ByteArray.empty ≠ s) := hx
        rw [decide_eq_false hx] at q1
        generalize hxe : l.getD k ByteArray.empty = x at z0 q1
        clear hk hlt hx hxe
        go_wp2_with fail
        go_roundw
        case rel =>
          refine ⟨k + 1, HK.out.1, by go_num, fun j hj => ?_, trivial⟩
          rcases Nat.lt_or_ge j k with h1 | h1
          · exact HZ.out j h1
          · obtain rfl : j = k := by omega
            exact HX.out
        case measure => have := HK.out; simp [intOf]; omega
    · obtain rfl : k = n := by omega
      have HE : Hid (isIn l s = false) := isIn_no fun i hi => HZ.out i (by have := HN.out; omega)
      clear hk hlt
      go_wp2_with fail
      go_ret
      exact ⟨by rw [HE.out]; rfl, rfl⟩
theorem strs_ext {l m : List ByteArray} (hl : l.length = m.length) (h : ∀ i, i < l.length → l.getD i ByteArray.empty = m.getD i ByteArray.empty) : l = m := by
  refine List.ext_getElem hl fun i h1 h2 => ?_
  have := h i h1
  rwa [List.getD_eq_getElem?_getD, List.getElem?_eq_getElem h1, List.getD_eq_getElem?_getD, List.getElem?_eq_getElem h2] at this
set_option maxHeartbeats 2000000 in
set_option maxRecDepth 8000 in
theorem texts_any (q : Option Addr) (c : Nat) (l : List ByteArray) (q2 : Option Addr) (c2 : Nat) (m : List ByteArray) (w : World) (h : StrsIn w q l c) (hm : StrsIn w q2 m c2) :
    Calls Try.prog 19 #[.slice q l.length c, .slice q2 m.length c2] w fun e w' => e = .returned (.bool (decide (l = m))) ∧ Below w.heap.size w w' := by
  have HH : Hid (StrsIn w q l c ∧ StrsIn w q2 m c2) := ⟨h, hm⟩
  have hnI : (l.length : Int) ≤ 9223372036854775807 := by have := h.le; have := h.cap; unfold maxLen at this; omega
  have hmI : (m.length : Int) ≤ 9223372036854775807 := by have := hm.le; have := hm.cap; unfold maxLen at this; omega
  obtain ⟨n, hN⟩ : ∃ n, l.length = n := ⟨_, rfl⟩
  obtain ⟨k0, hM⟩ : ∃ k, m.length = k := ⟨_, rfl⟩
  rw [hN] at hnI ⊢
  rw [hM] at hmI ⊢
  have HN : Hid (l.length = n ∧ m.length = k0) := ⟨hN, hM⟩
  clear h hm hN hM
  by_cases hE : n = k0
  · subst hE
    have e1 : ((n : Int) != (n : Int)) = false := by simp
    go_enter Try.func19, Try.ntmps19
    go_wp2_with fail
    go_loopw [5] (fun t wr => ∃ k : Nat, k ≤ n ∧ t = .int .i64 (k : Int) ∧ (∀ j, j < k → l.getD j ByteArray.empty = m.getD j ByteArray.empty) ∧ Below w.heap.size w wr) (fun t _ => n - (intOf t).toNat)
    case atStart => exact ⟨0, Nat.zero_le _, rfl, fun j hj => absurd hj (Nat.not_lt_zero _), Below.refl _ _⟩
    case round =>
      obtain ⟨k, hk, rfl, hz, hb⟩ := hrel
      have HZ : Hid ((∀ j, j < k → l.getD j ByteArray.empty = m.getD j ByteArray.empty) ∧ Below w.heap.size w wr) := ⟨hz, hb⟩
      clear hz
      by_cases hlt : k < n
      · have hkI : (k : Int) < (n : Int) := by omega
        have hk0 : (0 : Int) ≤ (k : Int) := by omega
        have HK : Hid (k < n ∧ k < l.length ∧ k < m.length) := ⟨hlt, by have := HN.out; omega, by have := HN.out; omega⟩
        have h1 := HH.out.1.below hb
        have h2 := HH.out.2.below hb
        obtain ⟨fb, fo, rfl⟩ := h1.addr (by have := HK.out; omega)
        obtain ⟨gb, go, rfl⟩ := h2.addr (by have := HK.out; omega)
        have z0 := h1.at (i := k) HK.out.2.1
        have z1 := h2.at (i := k) HK.out.2.2
        have q1 := str_eq (l.getD k ByteArray.empty) (m.getD k ByteArray.empty)
        by_cases hx : l.getD k ByteArray.empty = m.getD k ByteArray.empty
        · have HX : Hid (l.getD k ByteArray.empty = m.getD k ByteArray.empty) := hx
          rw [decide_eq_true hx] at q1
          generalize hxe : l.getD k ByteArray.empty = x at z0 q1
          generalize hye : m.getD k ByteArray.empty = y at z1 q1
          have q2 : (x.toList != y.toList) = false := by simp only [bne, q1]; rfl
          clear hk hlt hx hxe hye h1 h2 hb
          go_wp2_with fail
          go_quiet (fail)
          go_wp2_with fail
          go_roundw
          case rel =>
            refine ⟨k + 1, HK.out.1, by go_num, fun j hj => ?_, below_dN HZ.out.2 _⟩
            rcases Nat.lt_or_ge j k with h1 | h1
            · exact HZ.out.1 j h1
            · obtain rfl : j = k := by omega
              exact HX.out
          case measure => have := HK.out; simp [intOf]; omega
        · have HX : Hid (l.getD k ByteArray.empty ≠ m.getD k ByteArray.empty) := hx
          rw [decide_eq_false hx] at q1
          generalize hxe : l.getD k ByteArray.empty = x at z0 q1
          generalize hye : m.getD k ByteArray.empty = y at z1 q1
          have q2 : (x.toList != y.toList) = true := by simp only [bne, q1]; rfl
          clear hk hlt hx hxe hye h1 h2 hb
          go_wp2_with fail
          go_quiet (fail)
          go_wp2_with fail
          go_ret
          exact ⟨by rw [decide_eq_false fun e => HX.out (by rw [e])]; rfl, below_dN HZ.out.2 _⟩
      · obtain rfl : k = n := by omega
        have HE : Hid (l = m) := strs_ext (by have := HN.out; omega) fun i hi => HZ.out.1 i (by have := HN.out; omega)
        clear hk hlt hb
        go_wp2_with fail
        go_ret
        exact ⟨by rw [decide_eq_true HE.out]; rfl, HZ.out.2⟩
  · have e1 : ((n : Int) != (k0 : Int)) = true := by simpa using fun e : (n : Int) = (k0 : Int) => hE (by omega)
    have e2 : ((n : Int) == (k0 : Int)) = false := by simpa using fun e : (n : Int) = (k0 : Int) => hE (by omega)
    have HE : Hid (l ≠ m) := fun e => hE (by have := HN.out; rw [← this.1, ← this.2, e])
    clear hE
    go_enter Try.func19, Try.ntmps19
    go_wp2_with fail
    go_ret
    exact ⟨by rw [decide_eq_false HE.out]; rfl, Below.refl _ _⟩
end Go.Proofs.Ytompcdmjbigigaa
