/-
  Contracts of the calls that compare two lists of pieces.
-/
import Derived.Test.YtfplpdnhhefbaaaPSect
import Derived.Laws.StructEq
namespace Go.Proofs.Ytfplpdnhhefbaaa
open Go.RowKit Go.WideShapes

def eqP (x y : Int × Int) : Bool := x.1 == y.1 && x.2 == y.2
theorem eqP_iff {x y : Int × Int} : eqP x y = true ↔ x = y := by
  unfold eqP
  simp only [Bool.and_eq_true, beq_iff_eq]
  exact ⟨fun h => Prod.ext h.1 h.2, fun h => by rw [h]; exact ⟨rfl, rfl⟩⟩
theorem neq_piece (a b c d : Int) (w : World) : Sem.run Try.prog (binOp .neq 29 (.agg #[.int .i64 a, .int .i64 b]) (.agg #[.int .i64 c, .int .i64 d])) w = .ok (.bool (!eqP (a, b) (c, d))) w := by
  have u3 := Try.underlying3
  have a3 := Try.isAgg3
  have z3 := Try.sizeOf3
  have hS : Try.prog.underlying 29 = some (.struct (Try.prog.fieldsOf 29)) := by kernel_rfl
  have hp : Try.prog.stoodInHeld 29 = false := by kernel_rfl
  rw [run_neq_struct, show (10000 : Nat) = 9999 + 1 from rfl, run_equalIn_agg w 9999 29 _ _ hS hp]
  simp only [Program.fieldsOf, Try.underlying29]
  go_simp
  by_cases h1 : a = c <;> by_cases h2 : b = d <;> simp [eqP, h1, h2]
def EqK (a b : Pcs) (k : Nat) : Prop := ∀ i, i < k → a.getD i (0, 0) = b.getD i (0, 0)
theorem EqK.step {a b : Pcs} {k : Nat} (h : EqK a b k) (h1 : a.getD k (0, 0) = b.getD k (0, 0)) : EqK a b (k + 1) := by
  intro i hi
  rcases Nat.lt_or_ge i k with h' | h'
  · exact h i h'
  · obtain rfl : i = k := by omega
    exact h1
theorem EqK.eq {a b : Pcs} (hl : a.length = b.length) (h : EqK a b a.length) : a = b := by
  refine List.ext_getElem hl fun i h1 h2 => ?_
  have := h i h1
  rwa [getD_eq h1, getD_eq h2] at this
def sameB (a b : Pcs) : Bool := decide (a = b)
theorem sameB_yes {a b : Pcs} (h : a = b) : sameB a b = true := decide_eq_true h
theorem sameB_no {a b : Pcs} (h : a ≠ b) : sameB a b = false := decide_eq_false h

set_option maxHeartbeats 1000000 in
theorem same_any (va vb : Value) (a b : Pcs) (w : World) (ha : PIn w va a) (hb : PIn w vb b) :
    Calls Try.prog 13 #[va, vb] w fun e w' => e = .returned (.bool (sameB a b)) ∧ Below w.heap.size w w' := by
  obtain ⟨qa, ca, rfl, hqa, hla, hma, _⟩ := ha.lies
  obtain ⟨qb, cb, rfl, hqb, hlb, hmb, _⟩ := hb.lies
  have hneq := neq_piece
  unfold maxLen at hma hmb
  clear ha hb
  by_cases h1 : a.length = b.length
  · have hll : ((a.length : Int) != (b.length : Int)) = false := by simp [h1]
    go_enter Try.func13, Try.ntmps13
    go_wp2
    go_loopw [5] (fun i wr => ∃ k : Nat, k ≤ a.length ∧ i = .int .i64 k ∧ EqK a b k ∧ Below w.heap.size w wr) (fun i _ => a.length - (intOf i).toNat)
    case atStart => exact ⟨0, by omega, rfl, fun i hi => absurd hi (by omega), Below.refl _ _⟩
    case round =>
      obtain ⟨k, hk, rfl, heq, hbel⟩ := hrel
      have HE : Hid (EqK a b k) := heq
      clear heq
      by_cases hkl : k < a.length
      · obtain ⟨ba, oa, rfl⟩ := hqa.addr (by omega)
        obtain ⟨bb, ob, rfl⟩ := hqb.addr (by omega)
        obtain ⟨e1, e2⟩ := (hqa.below hbel).at hkl
        obtain ⟨f1, f2⟩ := (hqb.below hbel).at (k := k) (by omega)
        have hkb : k < b.length := by omega
        have HS := HE.out.step
        have HN : Hid (a.getD k (0, 0) ≠ b.getD k (0, 0) → sameB a b = false) := fun hne => sameB_no (fun e => hne (by rw [e]))
        clear hqa hqb
        generalize a.getD k (0, 0) = x at *
        generalize b.getD k (0, 0) = y at *
        obtain ⟨x1, x2⟩ := x
        obtain ⟨y1, y2⟩ := y
        have HS' : Hid _ := HS
        clear HS
        simp only at e1 e2 f1 f2
        have HBEL : Hid (∀ n, Below w.heap.size w (wr.drewN n)) := fun n => hbel.grown (grown_drew _ _ none) hbel.size (fun k hk => by cases hk)
        clear hbel
        by_cases g1 : (x1, x2) = (y1, y2)
        · have hq := eqP_iff.2 g1
          have HS2 : Hid (EqK a b (k + 1)) := HS'.out g1
          clear g1 HS' HN
          go_wp2
          go_quiet (fail)
          go_wp2
          go_roundw
          case rel => exact ⟨k + 1, by omega, by go_num, HS2.out, HBEL.out _⟩
          case measure => simp [intOf]; omega
        · have hq : eqP (x1, x2) (y1, y2) = false := by
            rw [← Bool.not_eq_true, eqP_iff]; exact g1
          have HN2 : Hid (sameB a b = false) := HN.out g1
          clear g1 HS' HN
          go_wp2
          go_quiet (fail)
          go_wp2
          go_ret
          exact ⟨by rw [HN2.out]; rfl, HBEL.out _⟩
      · obtain rfl : k = a.length := by omega
        have HS2 : Hid (sameB a b = true) := sameB_yes (HE.out.eq h1)
        clear HE hqa hqb
        go_wp2
        go_ret
        exact ⟨by rw [HS2.out]; rfl, hbel⟩
  · have hll : ((a.length : Int) != (b.length : Int)) = true := by simp; omega
    have HS2 : Hid (sameB a b = false) := sameB_no (fun e => h1 (by rw [e]))
    go_enter Try.func13, Try.ntmps13
    go_wp2
    go_ret
    exact ⟨by rw [HS2.out]; rfl, Below.refl _ _⟩
end Go.Proofs.Ytfplpdnhhefbaaa
