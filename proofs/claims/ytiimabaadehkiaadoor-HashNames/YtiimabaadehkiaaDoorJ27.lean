/-
  What is written in sixteens is read back: the law.
-/
import Derived.Test.YtiimabaadehkiaaDoorJ22
namespace Go.Proofs.YtiimabaadehkiaaDoor
open Go.RowKit Go.WideShapes

theorem below_go {a b c : World} (h : Below a.heap.size a b) (k : Below b.heap.size b c) : Below a.heap.size a c :=
  h.trans ⟨k.os, k.tape, k.output, k.size, fun j hj => k.block j (Nat.lt_of_lt_of_le hj h.size)⟩
theorem beq_self (l : List UInt8) : (l == l) = true := by simp
theorem bne_self (l : List UInt8) : (l != l) = false := by simp
set_option maxHeartbeats 2000000 in
set_option maxRecDepth 100000 in
theorem law_back (p : Option Addr) (c : Nat) (xs : List Nat) (s : ByteArray) (w : World) (hk : KOn w) (hb : BIn w p xs) :
    Calls Tryd.prog 6 #[.slice p xs.length c, .string s] w fun e w' => e = .returned (.bool true) ∧ Below w.heap.size w w' := by
  have AL := alive_any w hk
  go_enter Tryd.func6, Tryd.ntmps6
  by_cases h1 : 5000 < xs.length
  · have h1I : (5000 : Int) < (xs.length : Int) := by omega
    go_wp2_with (go_at_call 13; refine AL.mono ?_; rintro e w1 ⟨rfl, hb1⟩)
    go_ret
    exact ⟨rfl, hb1⟩
  by_cases h2 : 5000 < s.size
  · have h1I : ¬ ((5000 : Int) < (xs.length : Int)) := by omega
    have h2I : (5000 : Int) < (s.size : Int) := by omega
    go_wp2_with (go_at_call 13; refine AL.mono ?_; rintro e w1 ⟨rfl, hb1⟩)
    go_ret
    exact ⟨rfl, hb1⟩
  have h1I : ¬ ((5000 : Int) < (xs.length : Int)) := by omega
  have h2I : ¬ ((5000 : Int) < (s.size : Int)) := by omega
  go_upto_region 4 with (go_at_call 13; refine AL.mono ?_; rintro e w1 ⟨rfl, hb1⟩)
  have HX := hex_any p c xs w1 (hb.below hb1) (by omega)
  go_wp2_with fail
  refine HX.mono ?_
  rintro e w2 ⟨rfl, hb2⟩
  have B2 := below_go hb1 hb2
  have hxb := hexN_byte hb.2
  have UX := unhex_any (strOf (hexN xs)) w2 (by rw [strOf_size, hexN_len]; omega)
  rw [nums_strOf hxb] at UX
  clear AL HX
  simp only []
  go_wp2_with fail
  refine UX.mono ?_
  intro e w3 hu
  cases hu with
  | no h he hb3 => rw [unhex_hex hb.2] at h; cases h
  | ok r v h he ho hb3 =>
    rw [unhex_hex hb.2] at h
    obtain rfl := Option.some.inj h
    subst he
    have B3 := below_go B2 hb3
    obtain ⟨p3, c3, rfl, hc3, hi3, _⟩ := owns_bin ho hb.2
    have cv1 := conv_at (c := c3) hi3 rfl
    have cv2 := conv_at (c := c) (hb.below B3) rfl
    have hbne := bne_self (strOf xs).toList
    have hbeq := beq_self (strOf xs).toList
    have Hb : Hid _ := hb
    clear UX ho hxb hb hi3
    simp only []
    go_upto_region 7 with fail
    have U2 := unhex_any s w3 (by omega)
    clear cv1 cv2 hbne hbeq
    go_wp2_with fail
    refine U2.mono ?_
    intro e w4 hu
    cases hu with
    | no h he hb4 =>
      subst he
      simp only []
      go_wp2
      go_ret
      exact ⟨rfl, below_go B3 hb4⟩
    | ok r v h he ho hb4 =>
      subst he
      obtain ⟨hhr, hrb⟩ := hex_unhex h
      have hrl := unhex_len h
      rw [numsOf_len] at hrl
      obtain ⟨p4, c4, rfl, hc4, hi4, _⟩ := owns_bin ho hrb
      have HY := hex_any p4 c4 r w4 hi4 (by omega)
      rw [hhr, strOf_nums] at HY
      have hbeq := beq_self s.toList
      clear ho hi4 hhr hrb h U2
      simp only []
      go_wp2_with (go_at_call 10; refine HY.mono ?_; rintro e w5 ⟨rfl, hb5⟩)
      go_ret
      exact ⟨rfl, below_go (below_go B3 hb4) hb5⟩
end Go.Proofs.YtiimabaadehkiaaDoor
