/-
  More on pieces, with no program: what the calls answer; runs are told by their sectors.
-/
import Derived.Test.YtfplpdnhhefbaaaPMath
namespace Go.Proofs.Ytfplpdnhhefbaaa

def freeB (l : Pcs) (n : Int) : Bool := !cov l n
/-! ### What is answered -/
def errF (first count : Int) (l : Pcs) : Int := if (0 ≤ count ∧ count ≤ 4096) ∧ 0 ≤ first ∧ first ≤ count then errK count l else 2
def gotF (first count : Int) (l : Pcs) (many : Nat) : Pcs × Nat := runsK (freeB l) many first.toNat (count - first).toNat
def resF (first count : Int) (l : Pcs) : Pcs := if errF first count l = 0 then (gotF first count l 4096).1 else []
def errT (first count : Int) (l : Pcs) (many : Int) : Int :=
  if 0 ≤ many ∧ many ≤ 4096 then if errF first count l = 0 then if ((gotF first count l many.toNat).2 : Int) < many then 30 else 0 else errF first count l else 2
def resT (first count : Int) (l : Pcs) (many : Int) : Pcs := if errT first count l many = 0 then (gotF first count l many.toNat).1 else []
theorem errF_arg {first count : Int} {l : Pcs} (h : ¬ ((0 ≤ count ∧ count ≤ 4096) ∧ 0 ≤ first ∧ first ≤ count)) : errF first count l = 2 := by unfold errF; rw [if_neg h]
theorem errF_ok {first count : Int} {l : Pcs} (h : (0 ≤ count ∧ count ≤ 4096) ∧ 0 ≤ first ∧ first ≤ count) : errF first count l = errK count l := by unfold errF; rw [if_pos h]
theorem resF_bad {first count : Int} {l : Pcs} (h : errF first count l ≠ 0) : resF first count l = [] := by unfold resF; rw [if_neg h]
theorem resF_ok {first count : Int} {l : Pcs} (h : errF first count l = 0) : resF first count l = (gotF first count l 4096).1 := by unfold resF; rw [if_pos h]
theorem resT_bad {first count : Int} {l : Pcs} {many : Int} (h : errT first count l many ≠ 0) : resT first count l many = [] := by unfold resT; rw [if_neg h]
theorem resT_ok {first count : Int} {l : Pcs} {many : Int} (h : errT first count l many = 0) : resT first count l many = (gotF first count l many.toNat).1 := by unfold resT; rw [if_pos h]
theorem errF_zero {first count : Int} {l : Pcs} (h : errF first count l = 0) : ((0 ≤ count ∧ count ≤ 4096) ∧ 0 ≤ first ∧ first ≤ count) ∧ l.length ≤ 4096 ∧ Good count l := by
  by_cases h1 : (0 ≤ count ∧ count ≤ 4096) ∧ 0 ≤ first ∧ first ≤ count
  · rw [errF_ok h1] at h
    exact ⟨h1, (errK_zero h).2⟩
  · rw [errF_arg h1] at h; omega
theorem errT_arg {first count : Int} {l : Pcs} {many : Int} (h : ¬ (0 ≤ many ∧ many ≤ 4096)) : errT first count l many = 2 := by unfold errT; rw [if_neg h]
theorem errT_bad {first count : Int} {l : Pcs} {many : Int} (h : 0 ≤ many ∧ many ≤ 4096) (h1 : errF first count l ≠ 0) : errT first count l many = errF first count l := by unfold errT; rw [if_pos h, if_neg h1]
theorem errT_few {first count : Int} {l : Pcs} {many : Int} (h : 0 ≤ many ∧ many ≤ 4096) (h1 : errF first count l = 0) (h2 : ((gotF first count l many.toNat).2 : Int) < many) : errT first count l many = 30 := by unfold errT; rw [if_pos h, if_pos h1, if_pos h2]
theorem errT_ok {first count : Int} {l : Pcs} {many : Int} (h : 0 ≤ many ∧ many ≤ 4096) (h1 : errF first count l = 0) (h2 : ¬ ((gotF first count l many.toNat).2 : Int) < many) : errT first count l many = 0 := by unfold errT; rw [if_pos h, if_pos h1, if_neg h2]
theorem gotF_of (first count : Int) (l : Pcs) (many : Nat) : RunsOf (freeB l) many first.toNat (count - first).toNat (gotF first count l many) := runsK_of _ _ _ _
theorem gotF_bounds {first count : Int} {l : Pcs} {many : Nat} (h : (0 ≤ count ∧ count ≤ 4096) ∧ 0 ≤ first ∧ first ≤ count) : ∀ q ∈ (gotF first count l many).1, 0 ≤ q.1 ∧ 1 ≤ q.2 ∧ q.1 + q.2 ≤ count := by
  intro q hq
  have h1 := (gotF_of first count l many).runs.2 q hq
  have h2 := (gotF_of first count l many).ends q hq
  omega
theorem gotF_len (first count : Int) (l : Pcs) (many : Nat) : (gotF first count l many).1.length ≤ many := by
  have := runsK_len (freeB l) many first.toNat (count - first).toNat
  have := runsK_le (freeB l) many first.toNat (count - first).toNat
  unfold gotF
  omega
/-- How many sectors pieces have. -/
def sumP (l : Pcs) : Int := (l.map (·.2)).sum
theorem sumP_snoc (l : Pcs) (p : Int × Int) : sumP (l ++ [p]) = sumP l + p.2 := by simp [sumP]
theorem sumP_bound {l : Pcs} (h : ∀ p ∈ l, 0 ≤ p.2 ∧ p.2 ≤ 4096) : 0 ≤ sumP l ∧ sumP l ≤ l.length * 4096 := by
  induction l with
  | nil => simp [sumP]
  | cons p l ih =>
    have := ih (fun q hq => h q (List.mem_cons_of_mem _ hq))
    have := h p (by simp)
    have e : sumP (p :: l) = p.2 + sumP l := by simp [sumP]
    rw [e]
    simp only [List.length_cons]
    omega
def manyN (l : Pcs) : Int := if errK 4096 l = 0 then sumP l else 0
def secsN (l : Pcs) : List Int := if errK 4096 l = 0 then secs l else []
theorem secs_len_sum {l : Pcs} (h : ∀ p ∈ l, 0 ≤ p.2) : ((secs l).length : Int) = sumP l := by
  induction l with
  | nil => rfl
  | cons p l ih =>
    have := ih (fun q hq => h q (List.mem_cons_of_mem _ hq))
    have := h p (by simp)
    have e : sumP (p :: l) = p.2 + sumP l := by simp [sumP]
    have e2 : secs (p :: l) = secs [p] ++ secs l := by simp [secs]
    rw [e, e2, secs_one]
    simp only [List.length_append, List.length_map, List.length_range]
    omega
/-! ### Strictly rising lists with the same members are the same -/
theorem up_ext : ∀ {a b : List Int}, a.Pairwise (· < ·) → b.Pairwise (· < ·) → (∀ n, n ∈ a ↔ n ∈ b) → a = b
  | [], [], _, _, _ => rfl
  | [], y :: b, _, _, h => by have := (h y).2 (by simp); simp at this
  | x :: a, [], _, _, h => by have := (h x).1 (by simp); simp at this
  | x :: a, y :: b, ha, hb, h => by
    rw [List.pairwise_cons] at ha hb
    have hxy : x = y := by
      have h1 := (h x).1 (by simp)
      have h2 := (h y).2 (by simp)
      rcases List.mem_cons.1 h1 with h1 | h1
      · exact h1
      · rcases List.mem_cons.1 h2 with h2 | h2
        · exact h2.symm
        · have := hb.1 x h1; have := ha.1 y h2; omega
    subst hxy
    congr 1
    refine up_ext ha.2 hb.2 fun n => ?_
    constructor
    · intro hn
      rcases List.mem_cons.1 ((h n).1 (by simp [hn])) with e | hm
      · have := ha.1 n hn; omega
      · exact hm
    · intro hn
      rcases List.mem_cons.1 ((h n).2 (by simp [hn])) with e | hm
      · have := hb.1 n hn; omega
      · exact hm
theorem run_up (p : Int × Int) : (secs [p]).Pairwise (· < ·) := by
  rw [secs_one, List.pairwise_map]
  exact List.Pairwise.imp (fun h => by omega) List.pairwise_lt_range
theorem mem_run {p : Int × Int} {n : Int} : n ∈ secs [p] ↔ p.1 ≤ n ∧ n < p.1 + p.2 := by
  rw [mem_secs, cov_iff]
  simp
theorem secs_up : ∀ {s : Pcs}, Chain s → (∀ p ∈ s, 1 ≤ p.2) → (secs s).Pairwise (· < ·)
  | [], _, _ => List.Pairwise.nil
  | p :: s, hc, hw => by
    have hc' := List.pairwise_cons.1 hc
    have e : secs (p :: s) = secs [p] ++ secs s := by simp [secs]
    rw [e, List.pairwise_append]
    refine ⟨run_up p, secs_up hc'.2 (fun q hq => hw q (by simp [hq])), fun a ha b hb => ?_⟩
    have h1 := mem_run.1 ha
    obtain ⟨q, hq, h2⟩ := cov_iff.1 (mem_secs.1 hb)
    have := hc'.1 q hq
    omega
/-! ### Runs are told by their sectors -/
theorem secs_cons (p : Int × Int) (l : Pcs) : secs (p :: l) = secs [p] ++ secs l := by simp [secs]
theorem run_head (p : Int × Int) (h : 1 ≤ p.2) : ∃ t, secs [p] = p.1 :: t := by
  rw [secs_one, show p.2.toNat = (p.2.toNat - 1) + 1 from by omega, List.range_succ_eq_map]
  exact ⟨((List.range (p.2.toNat - 1)).map Nat.succ).map (fun i => p.1 + (i : Nat)), by simp⟩
theorem runs_le {p q : Int × Int} {a b : Pcs} (ha : Runs (p :: a)) (h1 : p.1 = q.1) (h2 : p.2 ≤ q.2) (h : secs (p :: a) = secs (q :: b)) : p.2 = q.2 := by
  have hp := ha.2 p (by simp)
  rcases Int.lt_or_eq_of_le h2 with h3 | h3
  · exfalso
    have e : secs [q] = secs [p] ++ secs [(p.1 + p.2, q.2 - p.2)] := by
      have := secs_sum p.1 p.2 (q.2 - p.2) (by omega) (by omega)
      rw [show p.2 + (q.2 - p.2) = q.2 from by omega] at this
      rw [show q = (p.1, q.2) from by rw [h1]]
      exact this
    rw [secs_cons p a, secs_cons q b, e, List.append_assoc] at h
    have h4 := List.append_cancel_left h
    obtain ⟨t, ht⟩ := run_head (p.1 + p.2, q.2 - p.2) (by show 1 ≤ q.2 - p.2; omega)
    rw [ht] at h4
    have hm : p.1 + p.2 ∈ secs a := by rw [h4]; simp
    obtain ⟨r, hr, h5⟩ := cov_iff.1 (mem_secs.1 hm)
    have := (List.pairwise_cons.1 ha.1).1 r hr
    omega
  · exact h3
theorem runs_ext : ∀ {a b : Pcs}, Runs a → Runs b → secs a = secs b → a = b
  | [], [], _, _, _ => rfl
  | [], q :: b, _, hb, h => by
    obtain ⟨t, ht⟩ := run_head q (hb.2 q (by simp))
    rw [secs_cons q b, ht] at h; simp [secs] at h
  | p :: a, [], ha, _, h => by
    obtain ⟨t, ht⟩ := run_head p (ha.2 p (by simp))
    rw [secs_cons p a, ht] at h; simp [secs] at h
  | p :: a, q :: b, ha, hb, h => by
    obtain ⟨t, ht⟩ := run_head p (ha.2 p (by simp))
    obtain ⟨u, hu⟩ := run_head q (hb.2 q (by simp))
    have h1 : p.1 = q.1 := by
      have h' := h
      rw [secs_cons p a, secs_cons q b, ht, hu] at h'
      simp only [List.cons_append, List.cons.injEq] at h'
      exact h'.1
    have h2 : p.2 = q.2 := by
      rcases Int.le_total p.2 q.2 with hle | hle
      · exact runs_le ha h1 hle h
      · exact (runs_le hb h1.symm hle h.symm).symm
    have e : p = q := Prod.ext h1 h2
    subst e
    rw [secs_cons p a, secs_cons p b] at h
    rw [runs_ext ⟨(List.pairwise_cons.1 ha.1).2, fun r hr => ha.2 r (by simp [hr])⟩ ⟨(List.pairwise_cons.1 hb.1).2, fun r hr => hb.2 r (by simp [hr])⟩ (List.append_cancel_left h)]
/-! ### Pieces that rise put together -/
def foldW (s : Pcs) : Pcs := s.foldl withN []
theorem foldW_snoc (s : Pcs) (p : Int × Int) : foldW (s ++ [p]) = withN (foldW s) p := by simp [foldW]
theorem withN_mem {out : Pcs} {p q : Int × Int} (h : q ∈ withN out p) : (∃ r ∈ out, q = r) ∨ (∃ r ∈ out, q.1 = r.1 ∧ q.1 + q.2 = p.1 + p.2 ∧ q.2 = r.2 + p.2) ∨ q = p := by
  rcases nil_or_snoc out with rfl | ⟨t, r, rfl⟩
  · simp only [withN_nil, List.mem_singleton] at h; exact .inr (.inr h)
  · by_cases e : r.1 + r.2 = p.1
    · rw [withN_touch _ _ _ e] at h
      simp only [List.mem_append, List.mem_singleton] at h
      rcases h with h | rfl
      · exact .inl ⟨q, by simp [h], rfl⟩
      · exact .inr (.inl ⟨r, by simp, rfl, by show r.1 + (r.2 + p.2) = _; omega, rfl⟩)
    · rw [withN_apart _ _ _ e] at h
      simp only [List.mem_append, List.mem_singleton] at h
      rcases h with (h | rfl) | rfl
      · exact .inl ⟨q, by simp [h], rfl⟩
      · exact .inl ⟨q, by simp, rfl⟩
      · exact .inr (.inr rfl)
structure FoldOf (s : Pcs) : Prop where
  secs : secs (foldW s) = secs s
  runs : Runs (foldW s)
  ends : ∀ q ∈ foldW s, 0 ≤ q.1 ∧ q.1 + q.2 ≤ endOf s
  len : (foldW s).length ≤ s.length
theorem foldW_of {s : Pcs} : Chain s → (∀ p ∈ s, 0 ≤ p.1 ∧ 1 ≤ p.2) → FoldOf s := by
  suffices ∀ k, k ≤ s.length → Chain s → (∀ p ∈ s, 0 ≤ p.1 ∧ 1 ≤ p.2) → FoldOf (s.take k) by
    intro h1 h2
    have := this s.length (Nat.le_refl _) h1 h2
    rwa [List.take_length] at this
  intro k
  induction k with
  | zero => intro _ _ _; exact ⟨by simp [foldW], by simpa [foldW] using runs_nil, by simp [foldW], by simp [foldW]⟩
  | succ k ih =>
    intro hk hc hw
    have ih := ih (by omega) hc hw
    have hkl : k < s.length := by omega
    have hm : s.getD k (0, 0) ∈ s := getD_mem' hkl
    have hp := hw _ hm
    rw [take_snoc (d := (0, 0)) hkl]
    have hc2 : Chain (s.take k ++ [s.getD k (0, 0)]) := by
      rw [← take_snoc (d := (0, 0)) hkl]
      unfold Chain at *
      rw [← List.take_append_drop (k + 1) s] at hc
      exact (List.pairwise_append.1 hc).1
    have hend : endOf (s.take k) ≤ (s.getD k (0, 0)).1 := by
      rcases nil_or_snoc (s.take k) with h0 | ⟨t, r, h0⟩
      · rw [h0]; simpa [endOf] using hp.1
      · rw [h0] at hc2 ⊢
        rw [endOf_snoc]
        exact (List.pairwise_append.1 hc2).2.2 r (by simp) _ (by simp)
    generalize s.getD k (0, 0) = p at *
    generalize s.take k = t at *
    refine ⟨?_, ?_, ?_, ?_⟩
    · rw [foldW_snoc, secs_withN (fun q hq => by have := ih.runs.2 q hq; omega) (by omega), ih.secs, secs_append]
    · rw [foldW_snoc]; exact ih.runs.withN hp.2 (fun q hq => by have := (ih.ends q hq).2; omega)
    · intro q hq
      rw [foldW_snoc] at hq
      rw [endOf_snoc]
      rcases withN_mem hq with ⟨r, hr, rfl⟩ | ⟨r, hr, h1, h2, _⟩ | rfl
      · have := ih.ends q hr; omega
      · have := ih.ends r hr; omega
      · omega
    · rw [foldW_snoc]
      have := withN_len (foldW t) p
      have := ih.len
      simp only [List.length_append, List.length_singleton]
      omega
def joinK (n : Nat) (l : Pcs) : Pcs := (runsK (cov l) n 0 n).1
def joinN (l : Pcs) : Pcs := joinK 4096 l
def resJ (l : Pcs) : Pcs := if errK 4096 l = 0 then joinN l else []
theorem meant_all_len (P : Int → Bool) (first k : Nat) : (meant P first k).length ≤ k := by
  unfold meant
  have := List.length_filter_le P ((List.range k).map fun i => ((first + i : Nat) : Int))
  simpa using this
theorem joinK_secs (n : Nat) (l : Pcs) : secs (joinK n l) = meant (cov l) 0 n := by
  unfold joinK
  rw [(runsK_of (cov l) n 0 n).secs, List.take_of_length_le (meant_all_len _ _ _)]
theorem joinK_runs (n : Nat) (l : Pcs) : Runs (joinK n l) := (runsK_of (cov l) n 0 n).runs
theorem joinN_secs (l : Pcs) : secs (joinN l) = meant (cov l) 0 4096 := joinK_secs 4096 l
theorem joinN_runs (l : Pcs) : Runs (joinN l) := joinK_runs 4096 l
theorem secs_meant {s : Pcs} {count : Nat} (hc : Chain s) (hw : ∀ p ∈ s, Wn count p) : secs s = meant (cov s) 0 count := by
  refine up_ext (secs_up hc (fun p hp => (hw p hp).2.1)) (meant_up _ _ _) fun n => ?_
  rw [mem_secs, mem_meant]
  constructor
  · intro h
    obtain ⟨p, hp, h1⟩ := cov_iff.1 h
    have := hw p hp
    unfold Wn at this
    exact ⟨h, by omega, by omega⟩
  · exact fun h => h.1
/-- Pieces that rise, put together, are the runs of their sectors. -/
theorem foldW_join {l s : Pcs} (hp : l.Perm s) (hu : Up s) (hg : Good 4096 l) : foldW s = joinN l := by
  have hgs := hg.perm hp
  have hc := hgs.chain hu
  have hf := foldW_of hc (fun p hm => ⟨(hgs.wn p hm).1, (hgs.wn p hm).2.1⟩)
  refine runs_ext hf.runs (joinN_runs l) ?_
  rw [hf.secs, joinN_secs, secs_meant (count := 4096) hc hgs.wn]
  unfold meant
  congr 1
  funext n
  exact (cov_perm hp n).symm
end Go.Proofs.Ytfplpdnhhefbaaa
