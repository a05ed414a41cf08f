/-
  The document's May.
-/
import Derived.Test.YtompcdmjbigigaaRAsk
namespace Go.Proofs.Ytompcdmjbigigaa
open Go.RowKit Go.WideShapes Go.Joins Go.Maps

set_option maxHeartbeats 4000000 in
set_option maxRecDepth 8000 in
theorem dMay_any (q : Option Addr) (c : Nat) (L : List Rl) (q2 : Option Addr) (c2 : Nat) (ns : List ByteArray) (d : ByteArray) (w : World) (h : RolesIn w q L c) (hn : StrsIn w q2 ns c2) (hd : d.size ≤ maxLen) :
    Calls Try.prog 17 #[.slice q L.length c, .slice q2 ns.length c2, .string d] w fun e w' => ∃ v, e = .returned (.tuple #[.bool v, .int .i64 (mayE L ns d : Nat)]) ∧ MayA L ns d v ∧ Below w.heap.size w w' := by
  have AK := asked_any q c L q2 c2 ns w h hn
  have HH : Hid (RolesIn w q L c ∧ d.size ≤ maxLen) := ⟨h, hd⟩
  have hnI : (L.length : Int) ≤ 9223372036854775807 := by have := h.le; have := h.cap; unfold maxLen at this; omega
  clear h hn hd
  obtain ⟨n, hN⟩ : ∃ n, L.length = n := ⟨_, rfl⟩
  have HN : Hid (L.length = n) := hN
  rw [hN] at AK hnI ⊢
  generalize ns.length = m at AK ⊢
  clear hN
  generalize hE : clE L ns = E at AK
  have HEE : Hid (clE L ns = E) := hE
  go_enter Try.func17, Try.ntmps17
  go_wp2_with fail
  refine AK.mono ?_
  rintro e w1 ⟨v, rfl, hP, hb1⟩
  simp only []
  have HB1 : Hid (Below w.heap.size w w1) := hb1
  clear AK hb1
  cases hP with
  | bad h0 =>
    have hEI : ((E : Int) == 0) = false := by
      rw [hE] at h0; simpa using fun e : (E : Int) = 0 => h0 (by omega)
    have H0 : Hid (clE L ns ≠ 0) := h0
    clear hE h0
    go_wp2_with fail
    go_ret2
    exact ⟨false, by rw [mayE_bad H0.out, HEE.out]; rfl, ⟨fun _ => rfl, fun e => absurd (mayE_zero e).1 H0.out⟩, HB1.out⟩
  | ok mb M h0 hl hM hC =>
    obtain rfl : E = 0 := hE.symm.trans h0
    have z00 : ((0 : Nat) : Int) = 0 := rfl
    rw [z00]
    have H0 : Hid (clE L ns = 0 ∧ M.length = n ∧ MarkAt w1 mb M ∧ (∀ j, j < L.length → (mkd M j = true ↔ Comes L ns (nmA L j)))) := ⟨h0, hl, hM, hC⟩
    have ND := Named_any d HH.out.2 w1
    clear hE h0 hl hM hC z00
    cases hk : nmOk d with
    | false =>
      have HK : Hid (nmOk d = false) := hk
      rw [hk] at ND
      clear hk
      go_wp2_with fail
      refine ND.mono ?_
      rintro e w2 ⟨rfl, rfl⟩
      simp only []
      go_wp2_with fail
      go_ret2
      exact ⟨false, by rw [mayE_name H0.out.1 HK.out]; rfl, ⟨fun _ => rfl, fun e => by rw [mayE_name H0.out.1 HK.out] at e; cases e⟩, HB1.out⟩
    | true =>
      have HK : Hid (mayE L ns d = 0) := mayE_ok H0.out.1 hk
      have nI2 : (n : Int) ≤ 32 := by have := (fit_of (clE_zero H0.out.1).1).few; have := HN.out; omega
      rw [hk] at ND
      clear hk
      go_wp2_with fail
      refine ND.mono ?_
      rintro e w2 ⟨rfl, hw⟩
      subst hw
      simp only []
      clear ND
      go_wp2_with fail
      go_loopw [10] (fun t wr => ∃ i : Nat, i ≤ n ∧ t = .int .i64 (i : Int) ∧ (∀ j, j < i → mkd M j = true → d ∉ (L.getD j zR).may) ∧ wr = w2) (fun t _ => n - (intOf t).toNat)
      case atStart => exact ⟨0, Nat.zero_le _, rfl, fun j hj => absurd hj (Nat.not_lt_zero _), rfl⟩
      case round =>
        obtain ⟨i, hi, rfl, hz, rfl⟩ := hrel
        have HZ : Hid (∀ j, j < i → mkd M j = true → d ∉ (L.getD j zR).may) := hz
        clear hz
        by_cases hlt : i < n
        · have iI : (i : Int) < (n : Int) := by omega
          have i0 : (0 : Int) ≤ (i : Int) := by omega
          have HI : Hid (i < n ∧ i < L.length ∧ i < M.length) := ⟨hlt, by have := HN.out; omega, by have := H0.out.2.1; omega⟩
          have hen := HH.out.1.below HB1.out
          obtain ⟨fb, fo, rfl⟩ := hen.addr (by have := HI.out; omega)
          obtain ⟨hq, hc, mq, mc, hr⟩ := hen.at (i := i) HI.out.2.1
          have c0 := H0.out.2.2.1.cell HI.out.2.2
          obtain ⟨ml, hml⟩ : ∃ ml, (L.getD i zR).may.length = ml := ⟨_, rfl⟩
          have z2 := hr.c2
          rw [hml] at z2
          have HRI : Hid (StrsIn wr mq (L.getD i zR).may mc ∧ (L.getD i zR).may.length = ml ∧ ml ≤ 1024) := ⟨hr.m, hml, by rw [← hml]; exact (fit_of (clE_zero H0.out.1).1).ml _ (rl_mem HI.out.2.1)⟩
          have hlI : (ml : Int) ≤ 1024 := by have := HRI.out.2.2; omega
          have HST : Hid ((mkd M i = true → d ∉ (L.getD i zR).may) → ∀ j, j < i + 1 → mkd M j = true → d ∉ (L.getD j zR).may) := fun h j hj => by
            rcases Nat.lt_or_ge j i with h1 | h1
            · exact HZ.out j h1
            · obtain rfl : j = i := by omega
              exact h
          clear hi hlt hen hr hml
          cases hmi : mkd M i with
          | false =>
            have HMI : Hid (mkd M i = false) := hmi
            rw [hmi] at c0
            clear hmi
            go_wp2_with fail
            go_loopw [11] (fun t wr' => ∃ k : Nat, k ≤ ml ∧ t = .int .i64 (k : Int) ∧ wr' = wr) (fun t _ => ml - (intOf t).toNat)
            case atStart => exact ⟨0, Nat.zero_le _, rfl, rfl⟩
            case round =>
              obtain ⟨k, hk, rfl, rfl⟩ := hrel
              go_wp2_with fail
              go_roundw
              case rel => exact ⟨i + 1, HI.out.1, by go_num, HST.out (fun h => by rw [HMI.out] at h; cases h), trivial⟩
              case measure => have := HI.out; simp [intOf]; omega
          | true =>
            have HMI : Hid (mkd M i = true) := hmi
            rw [hmi] at c0
            clear hmi
            go_wp2_with fail
            go_loopw [11] (fun t wr' => ∃ k : Nat, k ≤ ml ∧ t = .int .i64 (k : Int) ∧ (∀ j, j < k → (L.getD i zR).may.getD j ByteArray.empty ≠ d) ∧ wr' = wr) (fun t _ => ml - (intOf t).toNat)
            case atStart => exact ⟨0, Nat.zero_le _, rfl, fun j hj => absurd hj (Nat.not_lt_zero _), rfl⟩
            case round =>
              obtain ⟨k, hk, rfl, hz, rfl⟩ := hrel
              have HZK : Hid (∀ j, j < k → (L.getD i zR).may.getD j ByteArray.empty ≠ d) := hz
              clear hz
              by_cases hlt : k < ml
              · have kI : (k : Int) < (ml : Int) := by omega
                have k0 : (0 : Int) ≤ (k : Int) := by omega
                have HKK : Hid (k < ml ∧ k < (L.getD i zR).may.length) := ⟨hlt, by have := HRI.out.2.1; omega⟩
                obtain ⟨gb, go, rfl⟩ := HRI.out.1.addr (by have := HKK.out; omega)
                have y0 := HRI.out.1.at (i := k) HKK.out.2
                have q1 := str_eq ((L.getD i zR).may.getD k ByteArray.empty) d
                by_cases hx : (L.getD i zR).may.getD k ByteArray.empty = d
                · have HX : Hid (MayA L ns d true) := ⟨fun e => absurd HK.out e, fun _ => ⟨fun _ => ⟨_, rl_mem HI.out.2.1, (H0.out.2.2.2 i HI.out.2.1).1 HMI.out, hx ▸ getB_mem HKK.out.2⟩, fun _ => rfl⟩⟩
                  rw [decide_eq_true hx] at q1
                  generalize hxe : (L.getD i zR).may.getD k ByteArray.empty = x at y0 q1
                  clear hk hlt hx hxe
                  go_wp2_with fail
                  go_ret2
                  exact ⟨true, by rw [HK.out]; rfl, HX.out, HB1.out⟩
                · have HX : Hid ((L.getD i zR).may.getD k ByteArray.empty ≠ d) := hx
                  rw [decide_eq_false hx] at q1
                  generalize hxe : (L.getD i zR).may.getD k ByteArray.empty = x at y0 q1
                  clear hk hlt hx hxe
                  go_wp2_with fail
                  go_roundw
                  case rel =>
                    refine ⟨k + 1, HKK.out.1, by go_num, fun j hj => ?_, trivial⟩
                    rcases Nat.lt_or_ge j k with h1 | h1
                    · exact HZK.out j h1
                    · obtain rfl : j = k := by omega
                      exact HX.out
                  case measure => have := HKK.out; simp [intOf]; omega
              · obtain rfl : k = ml := by omega
                have HNO : Hid (d ∉ (L.getD i zR).may) := fun hm => by
                  obtain ⟨j, hj, e⟩ := List.getElem_of_mem hm
                  exact HZK.out j (by have := HRI.out.2.1; omega) (by rw [List.getD_eq_getElem?_getD, List.getElem?_eq_getElem hj]; exact e)
                clear hk hlt
                go_wp2_with fail
                go_roundw
                case rel => exact ⟨i + 1, HI.out.1, by go_num, HST.out (fun _ => HNO.out), trivial⟩
                case measure => have := HI.out; simp [intOf]; omega
        · obtain rfl : i = n := by omega
          have HG : Hid (MayA L ns d false) := ⟨fun _ => rfl, fun _ => ⟨(by intro h; cases h), fun h => by
            obtain ⟨r, hr, hc, hd⟩ := h
            obtain ⟨j, hj, rfl⟩ := rl_of hr
            exact absurd hd (HZ.out j (by have := HN.out; omega) ((H0.out.2.2.2 j hj).2 hc))⟩⟩
          clear hi hlt
          go_wp2_with fail
          go_ret2
          exact ⟨false, by rw [HK.out]; rfl, HG.out, HB1.out⟩
end Go.Proofs.Ytompcdmjbigigaa
