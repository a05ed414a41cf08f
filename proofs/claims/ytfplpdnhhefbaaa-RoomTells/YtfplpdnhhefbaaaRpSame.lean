/-
  Contract of the document's own comparison of two lists of pieces.
-/
import Derived.Test.YtfplpdnhhefbaaaPSame
namespace Go.Proofs.Ytfplpdnhhefbaaa
open Go.RowKit Go.WideShapes

set_option maxHeartbeats 1000000 in
theorem rsame_any (va vb : Value) (a b : Pcs) (w : World) (ha : PIn w va a) (hb : PIn w vb b) :
    Calls Try.prog 20 #[va, vb] w fun e w' => e = .returned (.bool (sameB a b)) ∧ Below w.heap.size w w' := by
  obtain ⟨qa, ca, rfl, hqa, hla, hma, _⟩ := ha.lies
  obtain ⟨qb, cb, rfl, hqb, hlb, hmb, _⟩ := hb.lies
  have hneq := neq_piece
  unfold maxLen at hma hmb
  clear ha hb
  by_cases h1 : a.length = b.length
  · have hll : ((a.length : Int) != (b.length : Int)) = false := by simp [h1]
    go_enter Try.func20, Try.ntmps20
    go_wp2
    go_loopw [5] (fun i wr => ∃ k : Nat, k ≤ a.length ∧ i = .int .i64 k ∧ EqK a b k ∧ Below w.heap.size w wr) (fun i _ => a.length - (intOf i).toNat)
    case atStart => exact ⟨0, by omega, rfl, fun i hi => absurd hi (by omega), Below.refl _ _⟩
    case round =>
      obtain ⟨k, hk, rfl, heq, hbel⟩ := hrel
      have HE : Hid (EqK a b k) := heq
      clear heq
      by_cases hkl : k < a.length
      · obtain ⟨ba, oa, rfl⟩ := hqa.addr (by omega)
        obtain ⟨bb, ob, rfl⟩ := hqb.addr (by omega)
        obtain ⟨e1, e2⟩ := (hqa.below hbel).at hkl
        obtain ⟨f1, f2⟩ := (hqb.below hbel).at (k := k) (by omega)
        have hkb : k < b.length := by omega
        have HS := HE.out.step
        have HN : Hid (a.getD k (0, 0) ≠ b.getD k (0, 0) → sameB a b = false) := fun hne => sameB_no (fun e => hne (by rw [e]))
        clear hqa hqb
        generalize a.getD k (0, 0) = x at *
        generalize b.getD k (0, 0) = y at *
        obtain ⟨x1, x2⟩ := x
        obtain ⟨y1, y2⟩ := y
        have HS' : Hid _ := HS
        clear HS
        simp only at e1 e2 f1 f2
        have HBEL : Hid (∀ n, Below w.heap.size w (wr.drewN n)) := fun n => hbel.grown (grown_drew _ _ none) hbel.size (fun k hk => by cases hk)
        clear hbel
        by_cases g1 : (x1, x2) = (y1, y2)
        · have hq := eqP_iff.2 g1
          have HS2 : Hid (EqK a b (k + 1)) := HS'.out g1
          clear g1 HS' HN
          go_wp2
          go_quiet (fail)
          go_wp2
          go_roundw
          case rel => exact ⟨k + 1, by omega, by go_num, HS2.out, HBEL.out _⟩
          case measure => simp [intOf]; omega
        · have hq : eqP (x1, x2) (y1, y2) = false := by
            rw [← Bool.not_eq_true, eqP_iff]; exact g1
          have HN2 : Hid (sameB a b = false) := HN.out g1
          clear g1 HS' HN
          go_wp2
          go_quiet (fail)
          go_wp2
          go_ret
          exact ⟨by rw [HN2.out]; rfl, HBEL.out _⟩
      · obtain rfl : k = a.length := by omega
        have HS2 : Hid (sameB a b = true) := sameB_yes (HE.out.eq h1)
        clear HE hqa hqb
        go_wp2
        go_ret
        exact ⟨by rw [HS2.out]; rfl, hbel⟩
  · have hll : ((a.length : Int) != (b.length : Int)) = true := by simp; omega
    have HS2 : Hid (sameB a b = false) := sameB_no (fun e => h1 (by rw [e]))
    go_enter Try.func20, Try.ntmps20
    go_wp2
    go_ret
    exact ⟨by rw [HS2.out]; rfl, Below.refl _ _⟩
end Go.Proofs.Ytfplpdnhhefbaaa
