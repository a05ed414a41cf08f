/-
  Contracts of the two helpers 'two' and 'alive' of the layer's statements.
-/
import Derived.Test.YtfplpdnhhefbaaaPSame
namespace Go.Proofs.Ytfplpdnhhefbaaa
open Go.RowKit Go.WideShapes

/-- A slice of pieces that was written out. -/
theorem pin_block {w : World} {b : Nat} {t : TypeId} {fr : Nat × Nat} (l : Pcs) (hw : Wf l) (hl : l.length ≤ 1000) (h : w.heap[b]? = some (.cells (cellsQ l).toArray t fr)) : PIn w (.slice (some ⟨b, 0, none⟩) l.length l.length) l := by
  refine ⟨⟨some ⟨b, 0, none⟩, l.length, rfl, fun hp => ⟨b, 0, rfl, fun i hi => ?_⟩, Nat.le_refl _, by unfold maxLen; omega, fun h => by cases h⟩, hw⟩
  obtain ⟨h0, h1⟩ := cellsQ_at l i hi
  constructor
  · rw [Nat.zero_add, cell_of_row w b _ _ _ _ h]; simpa using h0
  · rw [Nat.zero_add, cell_of_row w b _ _ _ _ h]; simpa using h1
theorem wf_small {l : Pcs} (h : l.all (fun p => decide (-5000 ≤ p.1 ∧ p.1 ≤ 5000 ∧ -5000 ≤ p.2 ∧ p.2 ≤ 5000)) = true) : Wf l := by
  intro y hy
  have := List.all_eq_true.1 h y hy
  simp at this
  omega
def twoL : Pcs := [(3, 2), (7, 1)]
theorem wf_two : Wf twoL := wf_small (by decide)
def TwoPost (w : World) (e : Ending) (w' : World) : Prop := ∃ b, e = .returned (.slice (some ⟨b, 0, none⟩) 2 2) ∧ PIn w' (.slice (some ⟨b, 0, none⟩) 2 2) twoL ∧ Below w.heap.size w w'
theorem two_any (w : World) : Calls Try.prog 10 #[] w (TwoPost w) := by
  go_enter Try.func10, Try.ntmps10
  go_wp2
  go_ret
  exact ⟨_, rfl, pin_block twoL wf_two (by decide) (heap_alloc_new _ _), below_alloc _ _⟩
def aliveL : Pcs := [(2, 1), (5, 2), (8, 2)]
theorem wf_alive : Wf aliveL := wf_small (by decide)
theorem alive_free {w : World} {v : Value} (h : PIn w v twoL) : Calls Try.prog 16 #[.int .i64 2, .int .i64 10, v] w (ListPost aliveL 0 w) := by
  have := free_any 2 10 v twoL w h
  rwa [show resF 2 10 twoL = aliveL from by decide +kernel, show errF 2 10 twoL = 0 from by decide +kernel] at this
theorem alive_any (w : World) : Calls Try.prog 15 #[] w fun e w' => e = .returned (.bool true) ∧ Below w.heap.size w w' := by
  go_enter Try.func15, Try.ntmps15
  go_wp2_with (first
    | (go_at_call 10; refine (two_any _).mono ?_; rintro e w1 ⟨b, rfl, h1, hb1⟩)
    | (go_at_call 16; refine (alive_free h1).mono ?_; rintro e w2 ⟨q2, c2, rfl, ho2, hb2⟩)
    | (go_at_call 13; refine (same_any _ _ aliveL aliveL _ ((ho2.pin wf_alive).below (below_alloc _ _)) (pin_block aliveL wf_alive (by decide) (heap_alloc_new _ _))).mono ?_; rintro e w3 ⟨rfl, hb3⟩; rw [sameB_yes rfl]))
  go_ret
  exact ⟨rfl, below_bt hb1 (below_bt hb2 (below_bt (below_alloc _ _) hb3))⟩
end Go.Proofs.Ytfplpdnhhefbaaa
