/-
  What is taken is free, as many as asked, the first ones: with no program.
-/
import Derived.Test.YtfplpdnhhefbaaaPMath2
namespace Go.Proofs.Ytfplpdnhhefbaaa

theorem len_secs : ∀ {s : Pcs}, (∀ p ∈ s, 1 ≤ p.2) → s.length ≤ (secs s).length
  | [], _ => Nat.zero_le _
  | p :: s, h => by
    have ih := len_secs (s := s) (fun q hq => h q (by simp [hq]))
    have hp := h p (by simp)
    rw [secs_cons, secs_one]
    simp only [List.length_cons, List.length_append, List.length_map, List.length_range]
    omega
theorem sorted_perm (l : Pcs) : ∃ s, l.Perm s ∧ Up s := by
  refine ⟨l.mergeSort (fun p q => decide (p.1 ≤ q.1)), (List.mergeSort_perm l _).symm, ?_⟩
  have := List.pairwise_mergeSort (le := fun p q : Int × Int => decide (p.1 ≤ q.1)) (fun a b c h1 h2 => by simp at *; omega) (fun a b => by simp; omega) l
  exact List.Pairwise.imp (fun h => by simpa using h) this
theorem good_len {count : Nat} {l : Pcs} (h : Good count l) : l.length ≤ count := by
  obtain ⟨s, hp, hu⟩ := sorted_perm l
  have hs := h.perm hp
  have hc := hs.chain hu
  have h1 := len_secs (s := s) (fun p hp => (hs.wn p hp).2.1)
  rw [secs_meant hc hs.wn] at h1
  have h2 := meant_all_len (cov s) 0 count
  rw [hp.length_eq]
  omega
theorem good_more {count : Int} {l : Pcs} (h : Good count l) (hc : count ≤ 4096) : Good 4096 l :=
  ⟨fun p hp => by have := h.wn p hp; unfold Wn at *; omega, h.apart⟩
/-- What is free lies apart from the pieces. -/
theorem good_app {count : Int} {l t : Pcs} (hl : Good count l) (ht : Good count t) (hf : ∀ n, n ∈ secs t → cov l n = false) : Good count (l ++ t) := by
  refine ⟨fun p hp => ?_, List.pairwise_append.2 ⟨hl.apart, ht.apart, fun p hp q hq => ?_⟩⟩
  · rcases List.mem_append.1 hp with h | h
    · exact hl.wn p h
    · exact ht.wn p h
  · have h1 := hl.wn p hp
    have h2 := ht.wn q hq
    unfold Wn at h1 h2
    unfold Apart
    by_cases a1 : p.1 + p.2 ≤ q.1
    · exact .inl a1
    by_cases a2 : q.1 + q.2 ≤ p.1
    · exact .inr a2
    exfalso
    by_cases a3 : p.1 ≤ q.1
    · have := hf q.1 (mem_secs.2 (cov_iff.2 ⟨q, hq, by omega, by omega⟩))
      exact cov_false.1 this p hp ⟨a3, by omega⟩
    · have := hf p.1 (mem_secs.2 (cov_iff.2 ⟨q, hq, by omega, by omega⟩))
      exact cov_false.1 this p hp ⟨by omega, by omega⟩
theorem got_good {first count : Int} {l : Pcs} {many : Nat} (h : (0 ≤ count ∧ count ≤ 4096) ∧ 0 ≤ first ∧ first ≤ count) : Good count (gotF first count l many).1 := by
  refine (gotF_of first count l many).runs.chain.good fun q hq => ?_
  have := gotF_bounds h q hq
  unfold Wn
  omega
theorem got_free {first count : Int} {l : Pcs} {many : Nat} : ∀ n, n ∈ secs (gotF first count l many).1 → cov l n = false := by
  intro n hn
  rw [(gotF_of first count l many).secs] at hn
  have := (mem_meant.1 (List.mem_of_mem_take hn)).1
  unfold freeB at this
  simpa using this
theorem got_sum (first count : Int) (l : Pcs) (many : Nat) : sumP (gotF first count l many).1 = ((gotF first count l many).2 : Nat) := by
  have h := gotF_of first count l many
  rw [← secs_len_sum (fun p hp => by have := h.runs.2 p hp; omega), h.secs, h.got]
theorem many_good {l : Pcs} (h : Good 4096 l) (hl : l.length ≤ 4096) : manyN l = sumP l ∧ errK 4096 l = 0 := by
  have := errK_ok (count := 4096) (by omega) hl h
  exact ⟨by unfold manyN; rw [if_pos this], this⟩
theorem errF_not30 (first count : Int) (l : Pcs) : errF first count l ≠ 30 := by
  unfold errF
  split
  · unfold errK
    split
    · split
      · split <;> decide
      · decide
    · decide
  · decide
theorem errT_space {first count : Int} {l : Pcs} {many : Int} (h : errT first count l many = 30) : (0 ≤ many ∧ many ≤ 4096) ∧ errF first count l = 0 ∧ ((gotF first count l many.toNat).2 : Int) < many := by
  by_cases h0 : 0 ≤ many ∧ many ≤ 4096
  · by_cases h1 : errF first count l = 0
    · by_cases h2 : ((gotF first count l many.toNat).2 : Int) < many
      · exact ⟨h0, h1, h2⟩
      · rw [errT_ok h0 h1 h2] at h; omega
    · rw [errT_bad h0 h1] at h; exact absurd h (errF_not30 _ _ _)
  · rw [errT_arg h0] at h; omega
/-- Too few are free: so many fewer are all of them. -/
theorem few_all {first count : Int} {l : Pcs} {many : Int} (hz : (0 ≤ count ∧ count ≤ 4096) ∧ 0 ≤ first ∧ first ≤ count) (h0 : 0 ≤ many ∧ many ≤ 4096) (h : ((gotF first count l many.toNat).2 : Int) < many) : manyN (gotF first count l 4096).1 < many := by
  have hg := got_good (l := l) (many := 4096) hz
  rw [(many_good (good_more hg hz.1.2) (gotF_len _ _ _ _)).1, got_sum]
  have h1 := (gotF_of first count l many.toNat).got
  have h2 := (gotF_of first count l 4096).got
  rw [List.length_take] at h1 h2
  omega
theorem up_drop {xs : List Int} {m : Nat} {x y : Int} (h : xs.Pairwise (· < ·)) (hx : x ∈ xs) (hn : x ∉ xs.take m) (hy : y ∈ xs.take m) : y < x := by
  rw [← List.take_append_drop m xs] at h hx
  rcases List.mem_append.1 hx with h1 | h1
  · exact absurd h1 hn
  · exact (List.pairwise_append.1 h).2.2 y hy x h1
/-- What is left stands behind the last one that was taken. -/
theorem rest_behind {first count : Int} {l t r : Pcs} {m : Nat} (hr : r = (gotF first count (l ++ t) 4096).1) (ht : t = (gotF first count l m).1) (p q : Int × Int) (hp : p ∈ t) (hq : q ∈ r) : p.1 + p.2 ≤ q.1 := by
  have h1 := gotF_of first count l m
  have h2 := gotF_of first count (l ++ t) 4096
  have hp2 := h1.runs.2 p (by rw [← ht]; exact hp)
  have hq2 := h2.runs.2 q (by rw [← hr]; exact hq)
  have hpm : p.1 + p.2 - 1 ∈ secs t := mem_secs.2 (cov_iff.2 ⟨p, hp, by omega, by omega⟩)
  have hqm : q.1 ∈ secs r := mem_secs.2 (cov_iff.2 ⟨q, hq, by omega, by omega⟩)
  have e1 : secs t = (meant (freeB l) first.toNat (count - first).toNat).take m := by rw [ht]; exact (gotF_of first count l m).secs
  have e2 : secs r = (meant (freeB (l ++ t)) first.toNat (count - first).toNat).take 4096 := by rw [hr]; exact (gotF_of first count (l ++ t) 4096).secs
  rw [e2] at hqm
  have hq3 := mem_meant.1 (List.mem_of_mem_take hqm)
  have hc : cov (l ++ t) q.1 = false := by have := hq3.1; unfold freeB at this; simpa using this
  rw [cov_append, Bool.or_eq_false_iff] at hc
  have hx : q.1 ∈ meant (freeB l) first.toNat (count - first).toNat := mem_meant.2 ⟨by unfold freeB; rw [hc.1]; rfl, hq3.2⟩
  have hnt : q.1 ∉ secs t := fun h => by have := mem_secs.1 h; rw [hc.2] at this; cases this
  rw [e1] at hnt hpm
  have := up_drop (meant_up _ _ _) hx hnt hpm
  omega
end Go.Proofs.Ytfplpdnhhefbaaa
