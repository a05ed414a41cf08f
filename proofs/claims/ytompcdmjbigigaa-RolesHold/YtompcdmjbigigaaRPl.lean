/-
  The document's place, Check.
-/
import Derived.Test.YtompcdmjbigigaaRMay
namespace Go.Proofs.Ytompcdmjbigigaa
open Go.RowKit Go.WideShapes Go.Joins Go.Maps

set_option maxHeartbeats 2000000 in
set_option maxRecDepth 8000 in
theorem place_any (q : Option Addr) (c : Nat) (L : List Rl) (s : ByteArray) (w : World) (h : RolesIn w q L c) :
    Calls Try.prog 32 #[.slice q L.length c, .string s] w fun e w' => ∃ z : Int, e = .returned (.int .i64 z) ∧ PlP L s z ∧ w' = w := by
  have HH : Hid (RolesIn w q L c) := h
  have hnI : (L.length : Int) ≤ 9223372036854775807 := by have := h.le; have := h.cap; unfold maxLen at this; omega
  obtain ⟨n, hN⟩ : ∃ n, L.length = n := ⟨_, rfl⟩
  rw [hN] at hnI ⊢
  have HN : Hid (L.length = n) := hN
  clear h hN
  go_enter Try.func32, Try.ntmps32
  go_wp2_with fail
  go_loopw [5] (fun t wr => ∃ k : Nat, k ≤ n ∧ t = .int .i64 (k : Int) ∧ (∀ j, j < k → nmA L j ≠ s) ∧ wr = w) (fun t _ => n - (intOf t).toNat)
  case atStart => exact ⟨0, Nat.zero_le _, rfl, fun j hj => absurd hj (Nat.not_lt_zero _), rfl⟩
  case round =>
    obtain ⟨k, hk, rfl, hz, rfl⟩ := hrel
    have HZ : Hid (∀ j, j < k → nmA L j ≠ s) := hz
    clear hz
    by_cases hlt : k < n
    · have hkI : (k : Int) < (n : Int) := by omega
      have hk0 : (0 : Int) ≤ (k : Int) := by omega
      have HK : Hid (k < n ∧ k < L.length) := ⟨hlt, by have := HN.out; omega⟩
      obtain ⟨fb, fo, rfl⟩ := HH.out.addr (by have := HK.out; omega)
      obtain ⟨hq, hc, mq, mc, hr⟩ := HH.out.at (i := k) HK.out.2
      have z0 := hr.c0
      have e0 : (L.getD k zR).name = nmA L k := rfl
      rw [e0] at z0
      clear e0 hr
      have q1 := str_eq (nmA L k) s
      by_cases hx : nmA L k = s
      · have HX : Hid (nmA L k = s) := hx
        rw [decide_eq_true hx] at q1
        generalize hxe : nmA L k = x at z0 q1
        clear hk hlt hx hxe
        go_wp2_with fail
        go_ret
        exact ⟨_, rfl, .at k HK.out.2 HX.out HZ.out, rfl⟩
      · have HX : Hid (nmA L k ≠ s) := hx
        rw [decide_eq_false hx] at q1
        generalize hxe : nmA L k = x at z0 q1
        clear hk hlt hx hxe
        go_wp2_with fail
        go_roundw
        case rel =>
          refine ⟨k + 1, HK.out.1, by go_num, fun j hj => ?_, trivial⟩
          rcases Nat.lt_or_ge j k with h1 | h1
          · exact HZ.out j h1
          · obtain rfl : j = k := by omega
            exact HX.out
        case measure => have := HK.out; simp [intOf]; omega
    · obtain rfl : k = n := by omega
      have HE : Hid (s ∉ nmL L) := fun hm => by
        obtain ⟨i, hi, e⟩ := nmA_of hm
        exact HZ.out i (by have := HN.out; omega) e
      clear hk hlt
      go_wp2_with fail
      go_ret
      exact ⟨_, rfl, .no HE.out, rfl⟩
theorem PlP.pos {L : List Rl} {s : ByteArray} {z : Int} (h : PlP L s z) : 0 ≤ z ↔ s ∈ nmL L := by
  cases h with
  | no h => exact ⟨fun k => absurd k (by omega), fun k => absurd k h⟩
  | «at» i hi e _ => exact ⟨fun _ => e ▸ nmA_mem hi, fun _ => by omega⟩
theorem PlP.self {L : List Rl} {i : Nat} {z : Int} (hi : i < L.length) (h : PlP L (nmA L i) z) : z = (i : Int) ↔ ∀ j, j < i → nmA L j ≠ nmA L i := by
  cases h with
  | no h => exact absurd (nmA_mem hi) h
  | «at» k hk e hm =>
    constructor
    · intro e2 j hj
      have : k = i := by omega
      subst this
      exact hm j hj
    · intro h2
      have h3 : ¬ k < i := fun c => h2 k c e
      have h4 : ¬ i < k := fun c => hm i c rfl
      omega
end Go.Proofs.Ytompcdmjbigigaa
