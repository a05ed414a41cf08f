/-
  HashSums: the law.
-/
import Derived.Test.YtoagaddciapmkaaDoorXEq
import Derived.Test.YtoagaddciapmkaaDoorXRSeal
import Derived.Test.YtoagaddciapmkaaDoorXRSame
namespace Go.Proofs.YtoagaddciapmkaaDoor
open Go.RowKit Go.WideShapes Go.Maps

set_option maxHeartbeats 2000000 in
set_option maxRecDepth 100000 in
theorem law_sums (p q : Option Addr) (c d : Nat) (xs ys : List Nat) (w : World) (hk : KOn w) (hx : BIn w p xs) (hc : xs.length ≤ c) (hp : p = none → c = 0) (hy : BIn w q ys) (hd : ys.length ≤ d) (hq : q = none → d = 0) :
    Calls Tryd.prog 3 #[.slice p xs.length c, .slice q ys.length d] w fun e w' => e = .returned (.bool true) ∧ Below w.heap.size w w' := by
  go_enter Tryd.func3, Tryd.ntmps3
  by_cases h1 : 5000 < xs.length
  · have hI : (5000 : Int) < (xs.length : Int) := by omega
    go_wp2
    go_ret
    exact ⟨rfl, Below.refl _ _⟩
  have hI : ¬ ((5000 : Int) < (xs.length : Int)) := by omega
  by_cases h2 : 5000 < ys.length
  · have hJ : (5000 : Int) < (ys.length : Int) := by omega
    go_wp2
    go_ret
    exact ⟨rfl, Below.refl _ _⟩
  have hJ : ¬ ((5000 : Int) < (ys.length : Int)) := by omega
  have c1 := conv_at (c := c) hx rfl
  have c2 := conv_at (c := d) hy rfl
  go_upto_region 5 with fail
  clear c1 c2
  have S1 := fun w' (hb : Below w.heap.size w w') => sum_any q d ys w' (hk.below hb hk.pos) (hy.below hb) hd (by omega)
  have S2 := fun w' (hb : Below w.heap.size w w') => rsum_any q d ys w' (hy.below hb) hq (by omega)
  have S3 := fun w' (hb : Below w.heap.size w w') => sealed_any p q c d xs ys w' (hk.below hb hk.pos) (hx.below hb) hc (hy.below hb) hd (by omega) (by omega)
  have S4 := fun w' (hb : Below w.heap.size w w') => rsealed_any p q c d xs ys w' (hx.below hb) hp (hy.below hb) hq (by omega) (by omega)
  have S5 := fun w' (hb : Below w.heap.size w w') => same_any p q c d xs ys w' (hx.below hb) (hy.below hb) (by omega)
  have S6 := fun w' (hb : Below w.heap.size w w') => rsame_any p q c d xs ys w' (hx.below hb) (hy.below hb)
  have E1 : ∀ w', (binOp .eql 23 (.agg (Bs (digN ys)).toArray) (.agg (Bs (digN ys)).toArray)).run Tryd.prog w' = .ok (.bool true) w' := fun w' => (eql_dig (digN_len ys) (digN_len ys) (digN_byte ys) (digN_byte ys) w').trans (by simp)
  have E2 : ∀ w', (binOp .eql 23 (.agg (Bs (sealN xs ys)).toArray) (.agg (Bs (sealN xs ys)).toArray)).run Tryd.prog w' = .ok (.bool true) w' := fun w' => (eql_dig (sealN_len xs ys) (sealN_len xs ys) (sealN_byte xs ys) (sealN_byte xs ys) w').trans (by simp)
  generalize (Bs (digN ys)).toArray = D at S1 S2 E1
  generalize (Bs (sealN xs ys)).toArray = S at S3 S4 E2
  generalize decide (xs = ys) = bq at S5 S6
  have hbq : (bq == bq) = true := by simp
  go_wp2_with (first
    | (go_at_call 10; refine (S1 _ (Below.refl _ _)).mono ?_; rintro e w1 ⟨rfl, hb1⟩)
    | (go_at_call 11; refine (S2 _ hb1).mono ?_; rintro e w2 ⟨rfl, hb2⟩; have B2 := below_more hb1 hb2)
    | (go_at_call 12; refine (S3 _ B2).mono ?_; rintro e w3 ⟨rfl, hb3⟩; have B3 := below_more B2 hb3)
    | (go_at_call 13; refine (S4 _ B3).mono ?_; rintro e w4 ⟨rfl, hb4⟩; have B4 := below_more B3 hb4)
    | (go_at_call 14; refine (S5 _ B4).mono ?_; rintro e w5 ⟨rfl, hb5⟩; have B5 := below_more B4 hb5)
    | (go_at_call 15; refine (S6 _ B5).mono ?_; rintro e w6 ⟨rfl, hb6⟩; have B6 := below_more B5 hb6; have c1 := conv_at (c := c) (hx.below B6) rfl; have c2 := conv_at (c := d) (hy.below B6) rfl)
    | fail)
  go_ret
  exact ⟨rfl, B6⟩
theorem sums_w (v : Value) (xs : List Nat) (u : Value) (ys : List Nat) (w : World) (hk : KOn w) (hv : Row w v xs) (hu : Row w u ys) : Calls Tryd.prog 3 #[v, u] w fun e w' => e = .returned (.bool true) ∧ Below w.heap.size w w' := by
  obtain ⟨p, c, rfl, hb, h1, _, h2⟩ := hv.lies
  obtain ⟨q, d, rfl, hb2, h3, _, h4⟩ := hu.lies
  exact law_sums p q c d xs ys w hk hb h1 h2 hb2 h3 h4
end Go.Proofs.YtoagaddciapmkaaDoor
