/-
  Pieces put together: with no program; and a row of noughts that was made.
-/
import Derived.Test.YtfplpdnhhefbaaaPMath3
import Derived.Test.YtfplpdnhhefbaaaPMarks
import Derived.Test.YtfplpdnhhefbaaaReg
import Derived.Test.YtfplpdnhhefbaaaHeld
namespace Go.Proofs.Ytfplpdnhhefbaaa
open Go.RowKit Go.WideShapes

theorem join_cov (l : Pcs) (n : Int) (h : 0 ≤ n ∧ n < 4096) : cov (joinN l) n = cov l n := by
  rw [Bool.eq_iff_iff, ← mem_secs, joinN_secs, mem_meant]
  exact ⟨fun h' => h'.1, fun h' => ⟨h', by omega, by omega⟩⟩
theorem join_len (l : Pcs) : (joinN l).length ≤ 4096 := good_len (count := 4096) (join_good l)
theorem join_twice (l : Pcs) : joinN (joinN l) = joinN l := by
  refine runs_ext (joinN_runs _) (joinN_runs _) ?_
  rw [joinN_secs, joinN_secs]
  refine up_ext (meant_up _ _ _) (meant_up _ _ _) fun n => ?_
  rw [mem_meant, mem_meant]
  constructor
  · rintro ⟨h1, h2⟩
    exact ⟨by rw [← join_cov l n (by omega)]; exact h1, h2⟩
  · rintro ⟨h1, h2⟩
    exact ⟨by rw [join_cov l n (by omega)]; exact h1, h2⟩
theorem secs_perm {l s : Pcs} (h : l.Perm s) : (secs l).length = (secs s).length := (List.Perm.flatMap_right _ h).length_eq
theorem join_sum {l : Pcs} (h : Good 4096 l) : sumP (joinN l) = sumP l := by
  obtain ⟨s, hp, hu⟩ := sorted_perm l
  have hs := h.perm hp
  have hc := hs.chain hu
  rw [← secs_len_sum (fun p hm => by have := (join_wn l p hm).2.1; omega), ← secs_len_sum (fun p hm => by have := (h.wn p hm).2.1; omega), secs_perm hp, ← (foldW_of hc (fun p hm => ⟨(hs.wn p hm).1, (hs.wn p hm).2.1⟩)).secs, foldW_join hp hu h]
theorem join_count {l : Pcs} (h : Good 4096 l) (f : Int → Int) (n : Int) (hn : 0 ≤ n ∧ n < 4096) : addC f (secs (joinN l)) n = addC f (secs l) n := by
  unfold addC
  rw [good_count h, good_count (join_good l), join_cov l n hn]
theorem join_apart (l : Pcs) {k : Nat} (hk : k + 1 < (joinN l).length) : ((joinN l).getD k (0, 0)).1 + ((joinN l).getD k (0, 0)).2 < ((joinN l).getD (k + 1) (0, 0)).1 := by
  have h3 := List.pairwise_iff_getElem.1 (joinN_runs l).1 k (k + 1) (by omega) hk (by omega)
  rw [getD_eq hk, getD_eq (show k < (joinN l).length by omega)]
  exact h3
theorem made_row {w : World} {base g n : Nat} (h : w.ownsRow base 3 1 (.slice (some ⟨g, 0, none⟩) n n) n (madeCells (Value.int .i64 0).cells (n * 1)).toList) : IAt w g (fun _ => 0) n := by
  have := row_full' h
  rw [Nat.mul_one, show (Value.int .i64 0).cells = #[Value.int .i64 0] from rfl, iRow_made] at this
  exact this
/-- Two rows of noughts. -/
structure Two (W : World) (n ga gb : Nat) (w : World) : Prop where
  ne : ga ≠ gb
  la : W.heap.size ≤ ga
  lb : W.heap.size ≤ gb
  ra : IAt w ga (fun _ => 0) n
  rb : IAt w gb (fun _ => 0) n
  bel : Below W.heap.size W w
end Go.Proofs.Ytfplpdnhhefbaaa
