/-
  Contracts of the small calls of package room: mayCount, mayBegin, within.
-/
import Derived.Test.YtfplpdnhhefbaaaPLie
namespace Go.Proofs.Ytfplpdnhhefbaaa
open Go.RowKit Go.WideShapes

theorem mayCount_any (n : Int) (w : World) : Calls Try.prog 27 #[.int .i64 n] w fun e w' => e = .returned (.bool (decide (0 ≤ n ∧ n ≤ 4096))) ∧ w' = w := by
  by_cases h1 : 0 ≤ n
  · go_enter Try.func27, Try.ntmps27
    go_wp2
    go_ret
    exact ⟨by simp [h1], rfl⟩
  · go_enter Try.func27, Try.ntmps27
    go_wp2
    go_ret
    exact ⟨by simp; omega, rfl⟩
theorem mayBegin_any (first count : Int) (w : World) : Calls Try.prog 26 #[.int .i64 first, .int .i64 count] w fun e w' => e = .returned (.bool (decide ((0 ≤ count ∧ count ≤ 4096) ∧ 0 ≤ first ∧ first ≤ count))) ∧ w' = w := by
  by_cases h1 : 0 ≤ count ∧ count ≤ 4096
  · by_cases h2 : 0 ≤ first
    · go_enter Try.func26, Try.ntmps26
      go_wp2_with (go_at_call 27; refine (mayCount_any count _).mono ?_; rintro e w1 ⟨rfl, rfl⟩; rw [decide_eq_true h1])
      go_ret
      exact ⟨by simp [h1, h2], rfl⟩
    · go_enter Try.func26, Try.ntmps26
      go_wp2_with (go_at_call 27; refine (mayCount_any count _).mono ?_; rintro e w1 ⟨rfl, rfl⟩; rw [decide_eq_true h1])
      go_ret
      exact ⟨by simp; omega, rfl⟩
  · go_enter Try.func26, Try.ntmps26
    go_wp2_with (go_at_call 27; refine (mayCount_any count _).mono ?_; rintro e w1 ⟨rfl, rfl⟩; rw [decide_eq_false h1])
    go_ret
    exact ⟨by simp [h1], rfl⟩
theorem within_any (count a b : Int) (w : World) (hc : 0 ≤ count ∧ count ≤ 4096) (ha : -9223372036854775808 ≤ a ∧ a ≤ 9223372036854775807) :
    Calls Try.prog 31 #[.int .i64 count, .agg #[.int .i64 a, .int .i64 b]] w fun e w' => e = .returned (.bool (wnB count (a, b))) ∧ ∃ o, w' = w.alloc o := by
  by_cases h1 : 0 ≤ a
  · by_cases h2 : 1 ≤ b
    · go_enter Try.func31, Try.ntmps31
      go_wp2
      go_ret
      exact ⟨by simp [wnB, h1, h2], _, rfl⟩
    · go_enter Try.func31, Try.ntmps31
      go_wp2
      go_ret
      exact ⟨by rw [wnB_no (show ¬ Wn count (a, b) from fun h => by have := h.1; have := h.2.1; simp only at *; omega)]; rfl, _, rfl⟩
  · go_enter Try.func31, Try.ntmps31
    go_wp2
    go_ret
    exact ⟨by rw [wnB_no (show ¬ Wn count (a, b) from fun h => by have := h.1; have := h.2.1; simp only at *; omega)]; rfl, _, rfl⟩
end Go.Proofs.Ytfplpdnhhefbaaa
