/-
  Sixteens are written and read as the document says: the law.
-/
import Derived.Test.YtiimabaadehkiaaJ09
namespace Go.Proofs.Ytiimabaadehkiaa
open Go.RowKit Go.WideShapes

theorem below_got {a b c : World} (h : Below a.heap.size a b) (k : Below b.heap.size b c) : Below a.heap.size a c :=
  h.trans ⟨k.os, k.tape, k.output, k.size, fun j hj => k.block j (Nat.lt_of_lt_of_le hj h.size)⟩
theorem beq_selft (l : List UInt8) : (l == l) = true := by simp
theorem own_belowt {w w' : World} {B : Nat} {v : Value} {xs : List Nat} (h : w.ownsRow B 5 1 v xs.length (Bs xs)) (hb : Below w.heap.size w w') : w'.ownsRow B 5 1 v xs.length (Bs xs) :=
  h.kept (row := none) ⟨hb.os, hb.tape, hb.output, hb.size, fun k hk _ => hb.block k hk⟩ (by cases h' : v.ownBlock with | none => exact .inl rfl | some g => exact .inr (by simp))
set_option maxHeartbeats 2000000 in
set_option maxRecDepth 100000 in
theorem law_texts (v : Value) (xs : List Nat) (s : ByteArray) (w : World) (hr : Row w v xs) :
    Calls Try.prog 3 #[v, .string s] w fun e w' => e = .returned (.bool true) ∧ Below w.heap.size w w' := by
  obtain ⟨p, c, rfl, hb, _⟩ := hr.lies
  clear hr
  go_enter Try.func3, Try.ntmps3
  by_cases h1 : 5000 < xs.length
  · have h1I : (5000 : Int) < (xs.length : Int) := by omega
    go_wp2
    go_ret
    exact ⟨rfl, Below.refl _ _⟩
  by_cases h2 : 5000 < s.size
  · have h1I : ¬ ((5000 : Int) < (xs.length : Int)) := by omega
    have h2I : (5000 : Int) < (s.size : Int) := by omega
    go_wp2
    go_ret
    exact ⟨rfl, Below.refl _ _⟩
  have h1I : ¬ ((5000 : Int) < (xs.length : Int)) := by omega
  have h2I : ¬ ((5000 : Int) < (s.size : Int)) := by omega
  have hbq := beq_selft (strOf (hexN xs)).toList
  go_wp2_with fail
  refine (unhex_any s w (by omega)).mono ?_
  intro e w1 hu1
  cases hu1 with
  | no h he hb1 =>
    subst he
    simp only []
    go_wp2_with fail
    refine (runhex_any s w1 (by omega)).mono ?_
    intro e w2 hu2
    cases hu2 with
    | ok r v h' he ho hb2 => rw [h] at h'; cases h'
    | no h' he hb2 =>
      subst he
      have B2 := below_got hb1 hb2
      have HX := hex_any p c xs w2 (hb.below B2) (by omega)
      have Hb : Hid _ := hb
      clear hb
      simp only []
      go_wp2_with fail
      refine HX.mono ?_
      rintro e w3 ⟨rfl, hb3⟩
      have HY := rhex_any p c xs w3 ((show BIn w p xs from Hb.out).below (below_got B2 hb3)) (by omega)
      clear HX
      simp only []
      go_wp2_with fail
      refine HY.mono ?_
      rintro e w4 ⟨rfl, hb4⟩
      clear HY
      have cv0 := conv_at (w := w4) (p := none) (xs := []) (n := 0) (c := 0) ⟨fun h => absurd h (by simp), fun _ h => absurd h (by simp)⟩ rfl
      have hbr := beq_selft (strOf []).toList
      simp only []
      go_wp2
      go_ret
      exact ⟨rfl, below_got (below_got B2 hb3) hb4⟩
  | ok r v h he ho hb1 =>
    subst he
    simp only []
    go_wp2_with fail
    refine (runhex_any s w1 (by omega)).mono ?_
    intro e w2 hu2
    cases hu2 with
    | no h' he hb2 => rw [h] at h'; cases h'
    | ok r' v' h' he ho' hb2 =>
      rw [h] at h'
      obtain rfl := Option.some.inj h'
      subst he
      have hrb := (hex_unhex h).2
      have B2 := below_got hb1 hb2
      have HX := hex_any p c xs w2 (hb.below B2) (by omega)
      have Hb : Hid _ := hb
      have O1 : Hid _ := own_belowt ho hb2
      have O2 : Hid _ := ho'
      clear hb ho ho' h h'
      simp only []
      go_wp2_with fail
      refine HX.mono ?_
      rintro e w3 ⟨rfl, hb3⟩
      have HY := rhex_any p c xs w3 ((show BIn w p xs from Hb.out).below (below_got B2 hb3)) (by omega)
      clear HX
      simp only []
      go_wp2_with fail
      refine HY.mono ?_
      rintro e w4 ⟨rfl, hb4⟩
      clear HY
      have B24 := below_got hb3 hb4
      obtain ⟨p1, c1, rfl, hi1⟩ := own_binu (own_belowt O1.out B24) hrb
      obtain ⟨p2, c2, rfl, hi2⟩ := own_binu (own_belowt O2.out B24) hrb
      have cv1 := conv_at (c := c1) hi1 rfl
      have cv2 := conv_at (c := c2) hi2 rfl
      have hbr := beq_selft (strOf r).toList
      clear hi1 hi2 O1 O2
      simp only []
      go_wp2
      go_ret
      exact ⟨rfl, below_got (below_got B2 hb3) hb4⟩
end Go.Proofs.Ytiimabaadehkiaa
