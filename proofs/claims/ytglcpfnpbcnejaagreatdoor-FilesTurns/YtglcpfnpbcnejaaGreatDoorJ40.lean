/-
  The document's SameActs at two lists of acts that are one (as in the log).
-/
import Derived.Test.YtglcpfnpbcnejaaGreatDoorJ34
import Derived.Test.YtglcpfnpbcnejaaGreatDoorJ38
namespace Go.Proofs.YtglcpfnpbcnejaaGreatDoor
open Go.RowKit Go.WideShapes Rm

theorem ActsIn.get3 {w : World} {b o : Nat} {l : Acts} (h : ActsIn w (some ⟨b, o, none⟩) l) {k : Nat} (hk : k < l.length) {y : Bool × Int × List Nat} (hy : l.getD k (false, 0, []) = y) : w.cell? ⟨b, o + k * 3, none⟩ = some (.bool y.1) ∧ w.cell? ⟨b, o + k * 3 + 1, none⟩ = some (.int .i64 y.2.1) ∧ ∃ p c, w.cell? ⟨b, o + k * 3 + 2, none⟩ = some (.slice p y.2.2.length c) ∧ BIn w p y.2.2 := by
  subst hy
  obtain ⟨b', o', e, hc⟩ := h (by omega)
  simp only [Option.some.injEq, Addr.mk.injEq, and_true] at e
  obtain ⟨rfl, rfl⟩ := e
  obtain ⟨h0, h1, v, h2, h3⟩ := hc k hk
  obtain ⟨p, c, hv, hb⟩ := h3.lies
  exact ⟨h0, by rw [Nat.add_assoc]; exact h1, p, c, by rw [Nat.add_assoc, ← hv]; exact h2, hb.1⟩
set_option maxRecDepth 8000 in
set_option maxHeartbeats 4000000 in
theorem rsameActs_yes (q1 q2 : Option Addr) (n c1 c2 : Nat) (L : Acts) (w : World) (hn : n = L.length) (h1 : ActsIn w q1 L) (h2 : ActsIn w q2 L) (hN : (n : Int) ≤ 10000) :
    Calls Tryz.prog 26 #[.slice q1 n c1, .slice q2 n c2] w fun e w' => e = .returned (.bool true) ∧ Below w.heap.size w w' := by
  have HL : Hid (n = L.length ∧ ActsIn w q1 L ∧ ActsIn w q2 L) := ⟨hn, h1, h2⟩
  clear hn h1 h2
  go_enter Tryz.func26, Tryz.ntmps26
  go_wp2
  go_loopw [5] (fun i wr => ∃ k : Nat, k ≤ n ∧ i = .int .i64 k ∧ ∃ j, wr = w.drewN j) (fun i _ => n - (intOf i).toNat)
  case atStart => exact ⟨0, by omega, rfl, 0, rfl⟩
  case round =>
    obtain ⟨k, hk, rfl, j, rfl⟩ := hrel
    by_cases hkn : k < n
    · have hkI : (k : Int) < (n : Int) := by omega
      have hk0 : (0 : Int) ≤ (k : Int) := by omega
      obtain ⟨ba, oa, rfl⟩ := HL.out.2.1.addr (by have := HL.out.1; omega)
      obtain ⟨bb, ob, rfl⟩ := HL.out.2.2.addr (by have := HL.out.1; omega)
      obtain ⟨y, hy⟩ : ∃ y, L.getD k (false, 0, []) = y := ⟨_, rfl⟩
      obtain ⟨a0, a1, pa, ca, a2, hbA⟩ := HL.out.2.1.get3 (k := k) (by have := HL.out.1; omega) hy
      obtain ⟨b0, b1, pb, cb, b2, hbB⟩ := HL.out.2.2.get3 (k := k) (by have := HL.out.1; omega) hy
      obtain ⟨f, s, xs⟩ := y
      simp only at a0 a1 a2 b0 b1 b2 hbA hbB
      have cx1 := fun i => conv_at (w := w.drewN i) (c := ca) (show BIn (w.drewN i) pa xs from hbA) rfl
      have cx2 := fun i => conv_at (w := w.drewN i) (c := cb) (show BIn (w.drewN i) pb xs from hbB) rfl
      have HK : Hid (k < n) := hkn
      clear hy hbA hbB hkn hk
      go_wp2
      go_quiet (fail)
      go_wp2
      go_roundw
      case rel => exact ⟨k + 1, by have := HK.out; omega, by go_num, _, rfl⟩
      case measure => have := HK.out; simp [intOf]; omega
    · go_wp2
      go_ret
      exact ⟨rfl, below_drewN (Below.refl _ _) _⟩
end Go.Proofs.YtglcpfnpbcnejaaGreatDoor
