/-
  Four bytes as a word; the bytes made longer: the document's.
-/
import Derived.Test.YtoagaddciapmkaaDoorXRSmall
import Derived.Test.YtoagaddciapmkaaDoorXBehind
import Derived.BigQuiet
namespace Go.Proofs.YtoagaddciapmkaaDoor
open Go.RowKit Go.WideShapes

theorem or_up (x y X Y s : Nat) (hX : X = x * 2 ^ s) (hY : Y = y * 2 ^ s) (z : Nat) (hz : x ||| y = z) (Z : Nat) (hZ : Z = z * 2 ^ s) : X ||| Y = Z := by
  subst hz
  rw [hX, hY, hZ, ← Nat.shiftLeft_eq, ← Nat.shiftLeft_eq, ← Nat.shiftLeft_eq, Nat.shiftLeft_or_distrib]
theorem or4 (a b c d : Nat) (ha : a < 256) (hb : b < 256) (hc : c < 256) (hd : d < 256) : bits BinOp.or IntKind.u32 (bits BinOp.or IntKind.u32 (bits BinOp.or IntKind.u32 ((a : Int) * 16777216) ((b : Int) * 65536)) ((c : Int) * 256)) (d : Int) = ((((a * 256 + b) * 256 + c) * 256 + d : Nat) : Int) := by
  have e1 := u32_or_nat (a * 16777216) (b * 65536) (by omega) (by omega)
  have f1 : a * 16777216 ||| b * 65536 = (a * 256 + b) * 65536 := or_up (a * 256) b (a * 16777216) (b * 65536) 16 (by omega) (by omega) _ (or_low a b hb) _ (by omega)
  have e2 := u32_or_nat ((a * 256 + b) * 65536) (c * 256) (by omega) (by omega)
  have f2 : (a * 256 + b) * 65536 ||| c * 256 = ((a * 256 + b) * 256 + c) * 256 := or_up ((a * 256 + b) * 256) c ((a * 256 + b) * 65536) (c * 256) 8 (by omega) (by omega) _ (or_low (a * 256 + b) c hc) _ (by omega)
  have e3 := u32_or_nat (((a * 256 + b) * 256 + c) * 256) d (by omega) (by omega)
  have f3 := or_low ((a * 256 + b) * 256 + c) d hd
  rw [show (a : Int) * 16777216 = ((a * 16777216 : Nat) : Int) from by omega, show (b : Int) * 65536 = ((b * 65536 : Nat) : Int) from by omega, e1, f1, show (c : Int) * 256 = ((c * 256 : Nat) : Int) from by omega, e2, f2, e3, f3]
set_option maxHeartbeats 1000000 in
set_option maxRecDepth 100000 in
theorem rword_any (p : Option Addr) (c n : Nat) (xs : List Nat) (k : Nat) (w : World) (hb : BIn w p xs) (hn : n = xs.length) (hk : k + 3 < xs.length) (hsz : xs.length < 1000000000) :
    Calls Tryd.prog 63 #[.slice p n c, .int .i64 (k : Int)] w fun e w' => e = .returned (.int .u32 ((wordB xs k : Nat) : Int)) ∧ Below w.heap.size w w' := by
  obtain ⟨b, o, rfl, hc⟩ := hb.1 (by omega)
  have d0 := hc k (by omega)
  have d1 := hc (k + 1) (by omega)
  have d2 := hc (k + 2) (by omega)
  have d3 := hc (k + 3) hk
  have l0 := getD_lt' hb.2 k; have l1 := getD_lt' hb.2 (k + 1); have l2 := getD_lt' hb.2 (k + 2); have l3 := getD_lt' hb.2 (k + 3)
  have HW : Hid (wordB xs k = ((xs.getD k 0 * 256 + xs.getD (k + 1) 0) * 256 + xs.getD (k + 2) 0) * 256 + xs.getD (k + 3) 0) := rfl
  generalize xs.getD k 0 = x0 at d0 l0 HW
  generalize xs.getD (k + 1) 0 = x1 at d1 l1 HW
  generalize xs.getD (k + 2) 0 = x2 at d2 l2 HW
  generalize xs.getD (k + 3) 0 = x3 at d3 l3 HW
  obtain ⟨k1, hk1⟩ : ∃ k1, k + 1 = k1 := ⟨_, rfl⟩
  obtain ⟨k2, hk2⟩ : ∃ k2, k + 2 = k2 := ⟨_, rfl⟩
  obtain ⟨k3, hk3⟩ : ∃ k3, k + 3 = k3 := ⟨_, rfl⟩
  rw [hk1] at d1; rw [hk2] at d2; rw [hk3] at d3
  have i1 : (k : Int) + 1 = (k1 : Int) := by omega
  have i2 : (k : Int) + 2 = (k2 : Int) := by omega
  have i3 : (k : Int) + 3 = (k3 : Int) := by omega
  have b0 : (k : Int) < (n : Int) := by omega
  have b1 : (k1 : Int) < (n : Int) := by omega
  have b2 : (k2 : Int) < (n : Int) := by omega
  have b3 : (k3 : Int) < (n : Int) := by omega
  have hor := or4 x0 x1 x2 x3 l0 l1 l2 l3
  have w0 : IntKind.i64.wrap (k1 : Int) = (k1 : Int) := by rw [IntKind.wrap_i64]; omega
  have w1 : IntKind.i64.wrap (k2 : Int) = (k2 : Int) := by rw [IntKind.wrap_i64]; omega
  have w2 : IntKind.i64.wrap (k3 : Int) = (k3 : Int) := by rw [IntKind.wrap_i64]; omega
  have Hb : Hid _ := hb
  clear hb hc hk1 hk2 hk3 hn
  go_enter Tryd.func63, Tryd.ntmps63
  go_upto_region 1 with fail
  go_quiet (fail)
  go_wp2
  go_ret
  refine ⟨?_, below_drewN (Below.refl _ _) _⟩
  rw [HW.out]
  refine congrArg (fun z => Ending.returned (Value.int IntKind.u32 z)) ?_
  omega
end Go.Proofs.YtoagaddciapmkaaDoor
