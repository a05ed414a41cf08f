/-
  What roles hold, may: the program's holdsFit, mayFits.
-/
import Derived.Test.YtompcdmjbigigaaRSet
namespace Go.Proofs.Ytompcdmjbigigaa
open Go.RowKit Go.WideShapes Go.Joins Go.Maps

theorem allB_yes {l : List ByteArray} {p : ByteArray → Bool} (h : ∀ i, i < l.length → p (l.getD i ByteArray.empty) = true) : l.all p = true := by
  rw [List.all_eq_true]
  intro x hx
  obtain ⟨i, hi, rfl⟩ := List.getElem_of_mem hx
  have := h i hi
  rwa [List.getD_eq_getElem?_getD, List.getElem?_eq_getElem hi] at this
theorem allB_no {l : List ByteArray} {p : ByteArray → Bool} {i : Nat} (hi : i < l.length) (h : p (l.getD i ByteArray.empty) = false) : l.all p = false := by
  rw [List.all_eq_false]
  exact ⟨_, getB_mem hi, by rw [h]; decide⟩
theorem holdsB_long {ns hs : List ByteArray} (h : 32 < hs.length) : holdsB ns hs = false := by unfold holdsB; rw [decide_eq_false (by omega)]; rfl
theorem holdsB_short {ns hs : List ByteArray} (h : hs.length ≤ 32) : holdsB ns hs = hs.all (isIn ns) := by unfold holdsB; rw [decide_eq_true h]; rfl
theorem mayB_long {ms : List ByteArray} (h : 1024 < ms.length) : mayB ms = false := by unfold mayB; rw [decide_eq_false (by omega)]; rfl
theorem mayB_short {ms : List ByteArray} (h : ms.length ≤ 1024) : mayB ms = ms.all nmOk := by unfold mayB; rw [decide_eq_true h]; rfl
set_option maxHeartbeats 2000000 in
set_option maxRecDepth 8000 in
theorem holdsFit_any (q : Option Addr) (c : Nat) (hs : List ByteArray) (b nn : Nat) (ns : List ByteArray) (w : World) (h : StrsIn w q hs c) (hm : SetAt w b nn ns) :
    Calls Try.prog 39 #[.slice q hs.length c, .map (some b)] w fun e w' => e = .returned (.bool (holdsB ns hs)) ∧ Below w.heap.size w w' := by
  obtain ⟨n, hN⟩ : ∃ n, hs.length = n := ⟨_, rfl⟩
  have HH : Hid (StrsIn w q hs c ∧ SetAt w b nn ns ∧ hs.length = n) := ⟨h, hm, hN⟩
  have hnI : (n : Int) ≤ 9223372036854775807 := by have := h.le; have := h.cap; unfold maxLen at this; omega
  rw [hN]
  by_cases h1 : 32 < n
  · have i1 : (32 : Int) < (n : Int) := by omega
    have HE : Hid (holdsB ns hs = false) := holdsB_long (by omega)
    clear h hm hN h1
    go_enter Try.func39, Try.ntmps39
    go_wp2_with fail
    go_ret
    exact ⟨by rw [HE.out]; rfl, Below.refl _ _⟩
  have i1 : ¬ (32 : Int) < (n : Int) := by omega
  have HE : Hid (holdsB ns hs = hs.all (isIn ns)) := holdsB_short (by omega)
  clear h hm hN h1
  go_enter Try.func39, Try.ntmps39
  go_wp2_with fail
  go_loopw [12] (fun t wr => ∃ k : Nat, k ≤ n ∧ t = .int .i64 (k : Int) ∧ (∀ j, j < k → isIn ns (hs.getD j ByteArray.empty) = true) ∧ Below w.heap.size w wr) (fun t _ => n - (intOf t).toNat)
  case atStart => exact ⟨0, Nat.zero_le _, rfl, fun j hj => absurd hj (Nat.not_lt_zero _), Below.refl _ _⟩
  case round =>
    obtain ⟨k, hk, rfl, hz, hb⟩ := hrel
    have HZ : Hid (∀ j, j < k → isIn ns (hs.getD j ByteArray.empty) = true) := hz
    have HB : Hid (Below w.heap.size w wr) := hb
    clear hz
    by_cases hlt : k < n
    · have hkI : (k : Int) < (n : Int) := by omega
      have hk0 : (0 : Int) ≤ (k : Int) := by omega
      have HK : Hid (k < n) := hlt
      have hen := HH.out.1.below hb
      obtain ⟨fb, fo, rfl⟩ := hen.addr (by have := HH.out.2.2; omega)
      have z0 := hen.at (i := k) (by have := HH.out.2.2; omega)
      have hsz := HH.out.1.fits _ (getB_mem (l := hs) (i := k) (by have := HH.out.2.2; omega))
      have HX : Hid (∀ v, isIn ns (hs.getD k ByteArray.empty) = v → v = false → hs.all (isIn ns) = false) := fun v h1 h2 => allB_no (i := k) (by have := HH.out.2.2; have := HK.out; omega) (h1.trans h2)
      have HR : Hid (isIn ns (hs.getD k ByteArray.empty) = true → ∀ j, j < k + 1 → isIn ns (hs.getD j ByteArray.empty) = true) := fun h j hj => by
        rcases Nat.lt_or_ge j k with h1 | h1
        · exact HZ.out j h1
        · obtain rfl : j = k := by omega
          exact h
      have HA := fun (v : Bool) hv => has_any b nn ns (hs.getD k ByteArray.empty) wr hsz (HH.out.2.1.below hb) v hv
      obtain ⟨v, hv⟩ : ∃ v, isIn ns (hs.getD k ByteArray.empty) = v := ⟨_, rfl⟩
      have H1 := HA v hv
      have HV : Hid (isIn ns (hs.getD k ByteArray.empty) = v) := hv
      obtain ⟨s, hs1⟩ : ∃ s, hs.getD k ByteArray.empty = s := ⟨_, rfl⟩
      rw [hs1] at z0 H1
      clear HA hv hen hb hk hlt hsz hs1
      cases v with
      | true =>
        go_wp2_with fail
        refine H1.mono ?_
        rintro e w1 ⟨rfl, hb1⟩
        simp only []
        go_wp2_with fail
        go_roundw
        case rel => exact ⟨k + 1, HK.out, by go_num, HR.out HV.out, below_more HB.out hb1⟩
        case measure => have := HK.out; simp [intOf]; omega
      | false =>
        go_wp2_with fail
        refine H1.mono ?_
        rintro e w1 ⟨rfl, hb1⟩
        simp only []
        go_wp2_with fail
        go_ret
        exact ⟨by rw [HE.out, HX.out _ HV.out rfl]; rfl, below_more HB.out hb1⟩
    · obtain rfl : k = n := by omega
      have HF : Hid (hs.all (isIn ns) = true) := allB_yes fun i hi => HZ.out i (by have := HH.out.2.2; omega)
      clear hk hlt hb
      go_wp2_with fail
      go_ret
      exact ⟨by rw [HE.out, HF.out]; rfl, HB.out⟩
set_option maxHeartbeats 2000000 in
set_option maxRecDepth 8000 in
theorem mayFits_any (q : Option Addr) (c : Nat) (hs : List ByteArray) (w : World) (h : StrsIn w q hs c) :
    Calls Try.prog 40 #[.slice q hs.length c] w fun e w' => e = .returned (.bool (mayB hs)) ∧ w' = w := by
  obtain ⟨n, hN⟩ : ∃ n, hs.length = n := ⟨_, rfl⟩
  have HH : Hid (StrsIn w q hs c ∧ hs.length = n) := ⟨h, hN⟩
  have hnI : (n : Int) ≤ 9223372036854775807 := by have := h.le; have := h.cap; unfold maxLen at this; omega
  rw [hN]
  by_cases h1 : 1024 < n
  · have i1 : (1024 : Int) < (n : Int) := by omega
    have HE : Hid (mayB hs = false) := mayB_long (by omega)
    clear h hN h1
    go_enter Try.func40, Try.ntmps40
    go_wp2_with fail
    go_ret
    exact ⟨by rw [HE.out]; rfl, rfl⟩
  have i1 : ¬ (1024 : Int) < (n : Int) := by omega
  have HE : Hid (mayB hs = hs.all nmOk) := mayB_short (by omega)
  clear h hN h1
  go_enter Try.func40, Try.ntmps40
  go_wp2_with fail
  go_loopw [10] (fun t wr => ∃ k : Nat, k ≤ n ∧ t = .int .i64 (k : Int) ∧ (∀ j, j < k → nmOk (hs.getD j ByteArray.empty) = true) ∧ wr = w) (fun t _ => n - (intOf t).toNat)
  case atStart => exact ⟨0, Nat.zero_le _, rfl, fun j hj => absurd hj (Nat.not_lt_zero _), rfl⟩
  case round =>
    obtain ⟨k, hk, rfl, hz, hw⟩ := hrel
    subst hw
    have HZ : Hid (∀ j, j < k → nmOk (hs.getD j ByteArray.empty) = true) := hz
    clear hz
    by_cases hlt : k < n
    · have hkI : (k : Int) < (n : Int) := by omega
      have hk0 : (0 : Int) ≤ (k : Int) := by omega
      have HK : Hid (k < n) := hlt
      have hen := HH.out.1
      obtain ⟨fb, fo, rfl⟩ := hen.addr (by have := HH.out.2; omega)
      have z0 := hen.at (i := k) (by have := HH.out.2; omega)
      have hsz := HH.out.1.fits _ (getB_mem (l := hs) (i := k) (by have := HH.out.2; omega))
      have HX : Hid (∀ v, nmOk (hs.getD k ByteArray.empty) = v → v = false → hs.all nmOk = false) := fun v h1 h2 => allB_no (i := k) (by have := HH.out.2; have := HK.out; omega) (h1.trans h2)
      have HR : Hid (nmOk (hs.getD k ByteArray.empty) = true → ∀ j, j < k + 1 → nmOk (hs.getD j ByteArray.empty) = true) := fun h j hj => by
        rcases Nat.lt_or_ge j k with h1 | h1
        · exact HZ.out j h1
        · obtain rfl : j = k := by omega
          exact h
      have H1 := isName_any (hs.getD k ByteArray.empty) hsz wr
      obtain ⟨v, hv⟩ : ∃ v, nmOk (hs.getD k ByteArray.empty) = v := ⟨_, rfl⟩
      rw [hv] at H1
      have HV : Hid (nmOk (hs.getD k ByteArray.empty) = v) := hv
      obtain ⟨s, hs1⟩ : ∃ s, hs.getD k ByteArray.empty = s := ⟨_, rfl⟩
      rw [hs1] at z0 H1
      clear hv hen hk hlt hsz hs1
      cases v with
      | true =>
        go_wp2_with (first | (go_at_call 23; refine H1.mono ?_; rintro e w1 ⟨rfl, hw⟩; subst hw) | fail)
        go_roundw
        case rel => exact ⟨k + 1, HK.out, by go_num, HR.out HV.out, by first | rfl | trivial⟩
        case measure => have := HK.out; simp [intOf]; omega
      | false =>
        go_wp2_with (first | (go_at_call 23; refine H1.mono ?_; rintro e w1 ⟨rfl, hw⟩; subst hw) | fail)
        go_ret
        exact ⟨by rw [HE.out, HX.out _ HV.out rfl]; rfl, by first | rfl | trivial⟩
    · obtain rfl : k = n := by omega
      have HF : Hid (hs.all nmOk = true) := allB_yes fun i hi => HZ.out i (by have := HH.out.2; omega)
      clear hk hlt
      go_wp2_with fail
      go_ret
      exact ⟨by rw [HE.out, HF.out]; rfl, by first | rfl | trivial⟩
end Go.Proofs.Ytompcdmjbigigaa
