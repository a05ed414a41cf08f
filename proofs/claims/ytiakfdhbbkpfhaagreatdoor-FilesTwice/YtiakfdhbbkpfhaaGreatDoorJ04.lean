/-
  Contracts of errors.As at a chain of faults that ends with an error's number, and of 'number'.
-/
import Derived.Test.YtiakfdhbbkpfhaaGreatDoorJ03
import Derived.Test.YtiakfdhbbkpfhaaGreatDoorProg
import Derived.WalkKit
import Derived.WideShapes
import Derived.OpenShut
import Derived.ProofKit
import Derived.Below
import Derived.BigQuiet
import Derived.Deep.QuietTactic
import Derived.Deep.AppendLies
import Derived.Deep.SlicePairs
import Derived.Deep.RegionHeld3
import Derived.Deep.Cut
import Derived.Lib.SmallJoins
import Derived.Laws.AppendOwnNone
import Derived.LaidEql
import Derived.Stop.Asserts
import Derived.RowKitTokens
namespace Go.Proofs.YtiakfdhbbkpfhaaGreatDoor.Rm

def freeB (l : Pcs) (n : Int) : Bool := !cov l n
/-! ### What is answered -/
def errF (first count : Int) (l : Pcs) : Int := if (0 ≤ count ∧ count ≤ 4096) ∧ 0 ≤ first ∧ first ≤ count then errK count l else 2
def gotF (first count : Int) (l : Pcs) (many : Nat) : Pcs × Nat := runsK (freeB l) many first.toNat (count - first).toNat
def resF (first count : Int) (l : Pcs) : Pcs := if errF first count l = 0 then (gotF first count l 4096).1 else []
def errT (first count : Int) (l : Pcs) (many : Int) : Int :=
  if 0 ≤ many ∧ many ≤ 4096 then if errF first count l = 0 then if ((gotF first count l many.toNat).2 : Int) < many then 30 else 0 else errF first count l else 2
def resT (first count : Int) (l : Pcs) (many : Int) : Pcs := if errT first count l many = 0 then (gotF first count l many.toNat).1 else []
theorem errF_arg {first count : Int} {l : Pcs} (h : ¬ ((0 ≤ count ∧ count ≤ 4096) ∧ 0 ≤ first ∧ first ≤ count)) : errF first count l = 2 := by unfold errF; rw [if_neg h]
theorem errF_ok {first count : Int} {l : Pcs} (h : (0 ≤ count ∧ count ≤ 4096) ∧ 0 ≤ first ∧ first ≤ count) : errF first count l = errK count l := by unfold errF; rw [if_pos h]
theorem resF_bad {first count : Int} {l : Pcs} (h : errF first count l ≠ 0) : resF first count l = [] := by unfold resF; rw [if_neg h]
theorem resF_ok {first count : Int} {l : Pcs} (h : errF first count l = 0) : resF first count l = (gotF first count l 4096).1 := by unfold resF; rw [if_pos h]
theorem resT_bad {first count : Int} {l : Pcs} {many : Int} (h : errT first count l many ≠ 0) : resT first count l many = [] := by unfold resT; rw [if_neg h]
theorem resT_ok {first count : Int} {l : Pcs} {many : Int} (h : errT first count l many = 0) : resT first count l many = (gotF first count l many.toNat).1 := by unfold resT; rw [if_pos h]
theorem errF_zero {first count : Int} {l : Pcs} (h : errF first count l = 0) : ((0 ≤ count ∧ count ≤ 4096) ∧ 0 ≤ first ∧ first ≤ count) ∧ l.length ≤ 4096 ∧ Good count l := by
  by_cases h1 : (0 ≤ count ∧ count ≤ 4096) ∧ 0 ≤ first ∧ first ≤ count
  · rw [errF_ok h1] at h
    exact ⟨h1, (errK_zero h).2⟩
  · rw [errF_arg h1] at h; omega
theorem errT_arg {first count : Int} {l : Pcs} {many : Int} (h : ¬ (0 ≤ many ∧ many ≤ 4096)) : errT first count l many = 2 := by unfold errT; rw [if_neg h]
theorem errT_bad {first count : Int} {l : Pcs} {many : Int} (h : 0 ≤ many ∧ many ≤ 4096) (h1 : errF first count l ≠ 0) : errT first count l many = errF first count l := by unfold errT; rw [if_pos h, if_neg h1]
theorem errT_few {first count : Int} {l : Pcs} {many : Int} (h : 0 ≤ many ∧ many ≤ 4096) (h1 : errF first count l = 0) (h2 : ((gotF first count l many.toNat).2 : Int) < many) : errT first count l many = 30 := by unfold errT; rw [if_pos h, if_pos h1, if_pos h2]
theorem errT_ok {first count : Int} {l : Pcs} {many : Int} (h : 0 ≤ many ∧ many ≤ 4096) (h1 : errF first count l = 0) (h2 : ¬ ((gotF first count l many.toNat).2 : Int) < many) : errT first count l many = 0 := by unfold errT; rw [if_pos h, if_pos h1, if_neg h2]
theorem gotF_of (first count : Int) (l : Pcs) (many : Nat) : RunsOf (freeB l) many first.toNat (count - first).toNat (gotF first count l many) := runsK_of _ _ _ _
theorem gotF_bounds {first count : Int} {l : Pcs} {many : Nat} (h : (0 ≤ count ∧ count ≤ 4096) ∧ 0 ≤ first ∧ first ≤ count) : ∀ q ∈ (gotF first count l many).1, 0 ≤ q.1 ∧ 1 ≤ q.2 ∧ q.1 + q.2 ≤ count := by
  intro q hq
  have h1 := (gotF_of first count l many).runs.2 q hq
  have h2 := (gotF_of first count l many).ends q hq
  omega
theorem gotF_len (first count : Int) (l : Pcs) (many : Nat) : (gotF first count l many).1.length ≤ many := by
  have := runsK_len (freeB l) many first.toNat (count - first).toNat
  have := runsK_le (freeB l) many first.toNat (count - first).toNat
  unfold gotF
  omega
/-- How many sectors pieces have. -/
def sumP (l : Pcs) : Int := (l.map (·.2)).sum
theorem sumP_snoc (l : Pcs) (p : Int × Int) : sumP (l ++ [p]) = sumP l + p.2 := by simp [sumP]
theorem sumP_bound {l : Pcs} (h : ∀ p ∈ l, 0 ≤ p.2 ∧ p.2 ≤ 4096) : 0 ≤ sumP l ∧ sumP l ≤ l.length * 4096 := by
  induction l with
  | nil => simp [sumP]
  | cons p l ih =>
    have := ih (fun q hq => h q (List.mem_cons_of_mem _ hq))
    have := h p (by simp)
    have e : sumP (p :: l) = p.2 + sumP l := by simp [sumP]
    rw [e]
    simp only [List.length_cons]
    omega
def manyN (l : Pcs) : Int := if errK 4096 l = 0 then sumP l else 0
def secsN (l : Pcs) : List Int := if errK 4096 l = 0 then secs l else []
theorem secs_len_sum {l : Pcs} (h : ∀ p ∈ l, 0 ≤ p.2) : ((secs l).length : Int) = sumP l := by
  induction l with
  | nil => rfl
  | cons p l ih =>
    have := ih (fun q hq => h q (List.mem_cons_of_mem _ hq))
    have := h p (by simp)
    have e : sumP (p :: l) = p.2 + sumP l := by simp [sumP]
    have e2 : secs (p :: l) = secs [p] ++ secs l := by simp [secs]
    rw [e, e2, secs_one]
    simp only [List.length_append, List.length_map, List.length_range]
    omega
/-! ### Strictly rising lists with the same members are the same -/
theorem up_ext : ∀ {a b : List Int}, a.Pairwise (· < ·) → b.Pairwise (· < ·) → (∀ n, n ∈ a ↔ n ∈ b) → a = b
  | [], [], _, _, _ => rfl
  | [], y :: b, _, _, h => by have := (h y).2 (by simp); simp at this
  | x :: a, [], _, _, h => by have := (h x).1 (by simp); simp at this
  | x :: a, y :: b, ha, hb, h => by
    rw [List.pairwise_cons] at ha hb
    have hxy : x = y := by
      have h1 := (h x).1 (by simp)
      have h2 := (h y).2 (by simp)
      rcases List.mem_cons.1 h1 with h1 | h1
      · exact h1
      · rcases List.mem_cons.1 h2 with h2 | h2
        · exact h2.symm
        · have := hb.1 x h1; have := ha.1 y h2; omega
    subst hxy
    congr 1
    refine up_ext ha.2 hb.2 fun n => ?_
    constructor
    · intro hn
      rcases List.mem_cons.1 ((h n).1 (by simp [hn])) with e | hm
      · have := ha.1 n hn; omega
      · exact hm
    · intro hn
      rcases List.mem_cons.1 ((h n).2 (by simp [hn])) with e | hm
      · have := hb.1 n hn; omega
      · exact hm
theorem run_up (p : Int × Int) : (secs [p]).Pairwise (· < ·) := by
  rw [secs_one, List.pairwise_map]
  exact List.Pairwise.imp (fun h => by omega) List.pairwise_lt_range
theorem mem_run {p : Int × Int} {n : Int} : n ∈ secs [p] ↔ p.1 ≤ n ∧ n < p.1 + p.2 := by
  rw [mem_secs, cov_iff]
  simp
theorem secs_up : ∀ {s : Pcs}, Chain s → (∀ p ∈ s, 1 ≤ p.2) → (secs s).Pairwise (· < ·)
  | [], _, _ => List.Pairwise.nil
  | p :: s, hc, hw => by
    have hc' := List.pairwise_cons.1 hc
    have e : secs (p :: s) = secs [p] ++ secs s := by simp [secs]
    rw [e, List.pairwise_append]
    refine ⟨run_up p, secs_up hc'.2 (fun q hq => hw q (by simp [hq])), fun a ha b hb => ?_⟩
    have h1 := mem_run.1 ha
    obtain ⟨q, hq, h2⟩ := cov_iff.1 (mem_secs.1 hb)
    have := hc'.1 q hq
    omega
/-! ### Runs are told by their sectors -/
theorem secs_cons (p : Int × Int) (l : Pcs) : secs (p :: l) = secs [p] ++ secs l := by simp [secs]
theorem run_head (p : Int × Int) (h : 1 ≤ p.2) : ∃ t, secs [p] = p.1 :: t := by
  rw [secs_one, show p.2.toNat = (p.2.toNat - 1) + 1 from by omega, List.range_succ_eq_map]
  exact ⟨((List.range (p.2.toNat - 1)).map Nat.succ).map (fun i => p.1 + (i : Nat)), by simp⟩
theorem runs_le {p q : Int × Int} {a b : Pcs} (ha : Runs (p :: a)) (h1 : p.1 = q.1) (h2 : p.2 ≤ q.2) (h : secs (p :: a) = secs (q :: b)) : p.2 = q.2 := by
  have hp := ha.2 p (by simp)
  rcases Int.lt_or_eq_of_le h2 with h3 | h3
  · exfalso
    have e : secs [q] = secs [p] ++ secs [(p.1 + p.2, q.2 - p.2)] := by
      have := secs_sum p.1 p.2 (q.2 - p.2) (by omega) (by omega)
      rw [show p.2 + (q.2 - p.2) = q.2 from by omega] at this
      rw [show q = (p.1, q.2) from by rw [h1]]
      exact this
    rw [secs_cons p a, secs_cons q b, e, List.append_assoc] at h
    have h4 := List.append_cancel_left h
    obtain ⟨t, ht⟩ := run_head (p.1 + p.2, q.2 - p.2) (by show 1 ≤ q.2 - p.2; omega)
    rw [ht] at h4
    have hm : p.1 + p.2 ∈ secs a := by rw [h4]; simp
    obtain ⟨r, hr, h5⟩ := cov_iff.1 (mem_secs.1 hm)
    have := (List.pairwise_cons.1 ha.1).1 r hr
    omega
  · exact h3
theorem runs_ext : ∀ {a b : Pcs}, Runs a → Runs b → secs a = secs b → a = b
  | [], [], _, _, _ => rfl
  | [], q :: b, _, hb, h => by
    obtain ⟨t, ht⟩ := run_head q (hb.2 q (by simp))
    rw [secs_cons q b, ht] at h; simp [secs] at h
  | p :: a, [], ha, _, h => by
    obtain ⟨t, ht⟩ := run_head p (ha.2 p (by simp))
    rw [secs_cons p a, ht] at h; simp [secs] at h
  | p :: a, q :: b, ha, hb, h => by
    obtain ⟨t, ht⟩ := run_head p (ha.2 p (by simp))
    obtain ⟨u, hu⟩ := run_head q (hb.2 q (by simp))
    have h1 : p.1 = q.1 := by
      have h' := h
      rw [secs_cons p a, secs_cons q b, ht, hu] at h'
      simp only [List.cons_append, List.cons.injEq] at h'
      exact h'.1
    have h2 : p.2 = q.2 := by
      rcases Int.le_total p.2 q.2 with hle | hle
      · exact runs_le ha h1 hle h
      · exact (runs_le hb h1.symm hle h.symm).symm
    have e : p = q := Prod.ext h1 h2
    subst e
    rw [secs_cons p a, secs_cons p b] at h
    rw [runs_ext ⟨(List.pairwise_cons.1 ha.1).2, fun r hr => ha.2 r (by simp [hr])⟩ ⟨(List.pairwise_cons.1 hb.1).2, fun r hr => hb.2 r (by simp [hr])⟩ (List.append_cancel_left h)]
/-! ### Pieces that rise put together -/
def foldW (s : Pcs) : Pcs := s.foldl withN []
theorem foldW_snoc (s : Pcs) (p : Int × Int) : foldW (s ++ [p]) = withN (foldW s) p := by simp [foldW]
theorem withN_mem {out : Pcs} {p q : Int × Int} (h : q ∈ withN out p) : (∃ r ∈ out, q = r) ∨ (∃ r ∈ out, q.1 = r.1 ∧ q.1 + q.2 = p.1 + p.2 ∧ q.2 = r.2 + p.2) ∨ q = p := by
  rcases nil_or_snoc out with rfl | ⟨t, r, rfl⟩
  · simp only [withN_nil, List.mem_singleton] at h; exact .inr (.inr h)
  · by_cases e : r.1 + r.2 = p.1
    · rw [withN_touch _ _ _ e] at h
      simp only [List.mem_append, List.mem_singleton] at h
      rcases h with h | rfl
      · exact .inl ⟨q, by simp [h], rfl⟩
      · exact .inr (.inl ⟨r, by simp, rfl, by show r.1 + (r.2 + p.2) = _; omega, rfl⟩)
    · rw [withN_apart _ _ _ e] at h
      simp only [List.mem_append, List.mem_singleton] at h
      rcases h with (h | rfl) | rfl
      · exact .inl ⟨q, by simp [h], rfl⟩
      · exact .inl ⟨q, by simp, rfl⟩
      · exact .inr (.inr rfl)
structure FoldOf (s : Pcs) : Prop where
  secs : secs (foldW s) = secs s
  runs : Runs (foldW s)
  ends : ∀ q ∈ foldW s, 0 ≤ q.1 ∧ q.1 + q.2 ≤ endOf s
  len : (foldW s).length ≤ s.length
theorem foldW_of {s : Pcs} : Chain s → (∀ p ∈ s, 0 ≤ p.1 ∧ 1 ≤ p.2) → FoldOf s := by
  suffices ∀ k, k ≤ s.length → Chain s → (∀ p ∈ s, 0 ≤ p.1 ∧ 1 ≤ p.2) → FoldOf (s.take k) by
    intro h1 h2
    have := this s.length (Nat.le_refl _) h1 h2
    rwa [List.take_length] at this
  intro k
  induction k with
  | zero => intro _ _ _; exact ⟨by simp [foldW], by simpa [foldW] using runs_nil, by simp [foldW], by simp [foldW]⟩
  | succ k ih =>
    intro hk hc hw
    have ih := ih (by omega) hc hw
    have hkl : k < s.length := by omega
    have hm : s.getD k (0, 0) ∈ s := getD_mem' hkl
    have hp := hw _ hm
    rw [take_snoc (d := (0, 0)) hkl]
    have hc2 : Chain (s.take k ++ [s.getD k (0, 0)]) := by
      rw [← take_snoc (d := (0, 0)) hkl]
      unfold Chain at *
      rw [← List.take_append_drop (k + 1) s] at hc
      exact (List.pairwise_append.1 hc).1
    have hend : endOf (s.take k) ≤ (s.getD k (0, 0)).1 := by
      rcases nil_or_snoc (s.take k) with h0 | ⟨t, r, h0⟩
      · rw [h0]; simpa [endOf] using hp.1
      · rw [h0] at hc2 ⊢
        rw [endOf_snoc]
        exact (List.pairwise_append.1 hc2).2.2 r (by simp) _ (by simp)
    generalize s.getD k (0, 0) = p at *
    generalize s.take k = t at *
    refine ⟨?_, ?_, ?_, ?_⟩
    · rw [foldW_snoc, secs_withN (fun q hq => by have := ih.runs.2 q hq; omega) (by omega), ih.secs, secs_append]
    · rw [foldW_snoc]; exact ih.runs.withN hp.2 (fun q hq => by have := (ih.ends q hq).2; omega)
    · intro q hq
      rw [foldW_snoc] at hq
      rw [endOf_snoc]
      rcases withN_mem hq with ⟨r, hr, rfl⟩ | ⟨r, hr, h1, h2, _⟩ | rfl
      · have := ih.ends q hr; omega
      · have := ih.ends r hr; omega
      · omega
    · rw [foldW_snoc]
      have := withN_len (foldW t) p
      have := ih.len
      simp only [List.length_append, List.length_singleton]
      omega
def joinK (n : Nat) (l : Pcs) : Pcs := (runsK (cov l) n 0 n).1
def joinN (l : Pcs) : Pcs := joinK 4096 l
def resJ (l : Pcs) : Pcs := if errK 4096 l = 0 then joinN l else []
theorem meant_all_len (P : Int → Bool) (first k : Nat) : (meant P first k).length ≤ k := by
  unfold meant
  have := List.length_filter_le P ((List.range k).map fun i => ((first + i : Nat) : Int))
  simpa using this
theorem joinK_secs (n : Nat) (l : Pcs) : secs (joinK n l) = meant (cov l) 0 n := by
  unfold joinK
  rw [(runsK_of (cov l) n 0 n).secs, List.take_of_length_le (meant_all_len _ _ _)]
theorem joinK_runs (n : Nat) (l : Pcs) : Runs (joinK n l) := (runsK_of (cov l) n 0 n).runs
theorem joinN_secs (l : Pcs) : secs (joinN l) = meant (cov l) 0 4096 := joinK_secs 4096 l
theorem joinN_runs (l : Pcs) : Runs (joinN l) := joinK_runs 4096 l
theorem secs_meant {s : Pcs} {count : Nat} (hc : Chain s) (hw : ∀ p ∈ s, Wn count p) : secs s = meant (cov s) 0 count := by
  refine up_ext (secs_up hc (fun p hp => (hw p hp).2.1)) (meant_up _ _ _) fun n => ?_
  rw [mem_secs, mem_meant]
  constructor
  · intro h
    obtain ⟨p, hp, h1⟩ := cov_iff.1 h
    have := hw p hp
    unfold Wn at this
    exact ⟨h, by omega, by omega⟩
  · exact fun h => h.1
/-- Pieces that rise, put together, are the runs of their sectors. -/
theorem foldW_join {l s : Pcs} (hp : l.Perm s) (hu : Up s) (hg : Good 4096 l) : foldW s = joinN l := by
  have hgs := hg.perm hp
  have hc := hgs.chain hu
  have hf := foldW_of hc (fun p hm => ⟨(hgs.wn p hm).1, (hgs.wn p hm).2.1⟩)
  refine runs_ext hf.runs (joinN_runs l) ?_
  rw [hf.secs, joinN_secs, secs_meant (count := 4096) hc hgs.wn]
  unfold meant
  congr 1
  funext n
  exact (cov_perm hp n).symm
end Go.Proofs.YtiakfdhbbkpfhaaGreatDoor.Rm
namespace Go.Proofs.YtiakfdhbbkpfhaaGreatDoor
open Go.RowKit Go.WideShapes Rm

/-- A file: its name, its size, its pieces. -/
structure FileV where
  name : ByteArray
  size : Int
  pcs : Pcs
/-- A directory: its Gen, its files. -/
structure DirV where
  gen : Int
  files : List FileV
def zeroF : FileV := ⟨ByteArray.empty, 0, []⟩
def zeroDir : DirV := ⟨0, []⟩

/-- Is a byte one of a name? -/
def nameByte (c : Nat) : Bool := decide (97 ≤ c ∧ c ≤ 122 ∨ 48 ≤ c ∧ c ≤ 57 ∨ c = 45 ∨ c = 95 ∨ c = 46)
def isNameN (s : ByteArray) : Bool := decide (1 ≤ s.size ∧ s.size ≤ 32) && (numsOf s).all nameByte
def needsN (size : Int) : Int := (size + 127) / 128
def allPcs (l : List FileV) : Pcs := l.flatMap FileV.pcs
def sumC (l : Pcs) : Int := (l.map Prod.snd).sum
/-- A file that may be, its pieces being among all sectors. -/
def FileOk (f : FileV) : Prop := isNameN f.name = true ∧ 0 ≤ f.size ∧ f.size ≤ 524288 ∧ (∀ p ∈ f.pcs, 80 ≤ p.1) ∧ sumC f.pcs = needsN f.size
/-- Names that rise: 'lt' is the order of texts. -/
def Rises (lt : ByteArray → ByteArray → Prop) (l : List FileV) : Prop := ∀ i, i + 1 < l.length → lt (l.getD i zeroF).name (l.getD (i + 1) zeroF).name
structure May (lt : ByteArray → ByteArray → Prop) (x : DirV) : Prop where
  lo : 1 ≤ x.gen
  hi : x.gen < 4611686018427387904
  many : x.files.length ≤ 32
  rise : Rises lt x.files
  pcs : errK 4096 (allPcs x.files) = 0
  each : ∀ f ∈ x.files, FileOk f

/-- Bytes of a piece, of a file, of all files. -/
def pieceN (p : Int × Int) : List Nat := smallN p.1.toNat ++ smallN p.2.toNat
def fileN (f : FileV) : List Nat := textN f.name ++ smallN f.size.toNat ++ smallN f.pcs.length ++ f.pcs.flatMap pieceN
def insideN (l : List FileV) : List Nat := smallN l.length ++ l.flatMap fileN
def padN (xs : List Nat) : List Nat := xs ++ List.replicate (952 - xs.length) 0
/-- A sector of a directory. -/
def sectN (gen : Nat) (xs : List Nat) (i : Nat) : List Nat := putN gen ++ [i] ++ (xs.drop (i * 119)).take 119
def sectsN (gen : Nat) (xs : List Nat) (k : Nat) : List Nat := (List.range k).flatMap (sectN gen xs)
def bytesN (x : DirV) : List Nat := sectsN x.gen.toNat (padN (insideN x.files)) 8
/-- These bytes are those of this directory, which may be. -/
def IsDir (lt : ByteArray → ByteArray → Prop) (x : DirV) (b : List Nat) : Prop := May lt x ∧ (insideN x.files).length ≤ 952 ∧ b = bytesN x

/-! ### Reading -/
/-- A number up to a bound, and what stands behind. -/
def cutNum (bound : Nat) (b : List Nat) : Option (Nat × List Nat) := match readN b with
  | none => none
  | some (n, k) => if bound < n then none else some (n, b.drop k)
def cutPiece (b1 b2 : Nat) (b : List Nat) : Option ((Int × Int) × List Nat) := match cutNum b1 b with
  | none => none
  | some (n, r) => match cutNum b2 r with
    | none => none
    | some (m, r) => some (((n : Int), (m : Int)), r)
def cutMany {α : Type} (f : List Nat → Option (α × List Nat)) : Nat → List Nat → Option (List α × List Nat)
  | 0, b => some ([], b)
  | n + 1, b => match f b with
    | none => none
    | some (x, r) => match cutMany f n r with
      | none => none
      | some (l, r) => some (x :: l, r)
def cutText (b : List Nat) : Option (ByteArray × List Nat) := match readN b with
  | none => none
  | some (n, k) => if b.length < k + n then none else some (strOf ((b.drop k).take n), b.drop (k + n))
/-- Bounds: of a number of files, of a size, of a number of pieces, of From, of Count. -/
structure Bnds where
  files : Nat
  size : Nat
  many : Nat
  lo : Nat
  count : Nat
def cutFile (B : Bnds) (b : List Nat) : Option (FileV × List Nat) := match cutText b with
  | none => none
  | some (s, r) => match cutNum B.size r with
    | none => none
    | some (n, r) => match cutNum B.many r with
      | none => none
      | some (k, r) => match cutMany (cutPiece B.lo B.count) k r with
        | none => none
        | some (l, r) => some (⟨s, n, l⟩, r)
def cutFiles (B : Bnds) (b : List Nat) : Option (List FileV × List Nat) := match cutNum B.files b with
  | none => none
  | some (n, r) => cutMany (cutFile B) n r

/-! #### What is written is read -/
theorem cutNum_back {bound n : Nat} (r : List Nat) (h : n ≤ bound) (hn : n < 18446744073709551616) : cutNum bound (smallN n ++ r) = some (n, r) := by
  unfold cutNum
  rw [read_back n r hn]
  simp only
  rw [if_neg (by omega), List.drop_left]
theorem cutPiece_back {b1 b2 : Nat} (p : Int × Int) (r : List Nat) (h1 : 0 ≤ p.1 ∧ p.1 ≤ b1) (h2 : 0 ≤ p.2 ∧ p.2 ≤ b2) (hb : b1 < 18446744073709551616 ∧ b2 < 18446744073709551616) : cutPiece b1 b2 (pieceN p ++ r) = some (p, r) := by
  unfold cutPiece pieceN
  rw [List.append_assoc, cutNum_back _ (by omega) (by omega)]
  simp only
  rw [cutNum_back _ (by omega) (by omega)]
  simp only [Option.some.injEq, Prod.mk.injEq, and_true]
  exact Prod.ext (by simp; omega) (by simp; omega)
theorem cutMany_back {α : Type} {f : List Nat → Option (α × List Nat)} {g : α → List Nat} : ∀ (l : List α) (r : List Nat), (∀ x ∈ l, ∀ r, f (g x ++ r) = some (x, r)) → cutMany f l.length (l.flatMap g ++ r) = some (l, r)
  | [], r, _ => by simp [cutMany]
  | x :: l, r, h => by
    rw [List.length_cons, List.flatMap_cons, List.append_assoc]
    unfold cutMany
    rw [h x (by simp)]
    simp only
    rw [cutMany_back l r (fun y hy => h y (by simp [hy]))]
theorem cutText_back (s : ByteArray) (r : List Nat) (h : s.size < 18446744073709551616) : cutText (textN s ++ r) = some (s, r) := by
  unfold cutText textN
  rw [List.append_assoc, read_back _ _ h]
  have hl : (numsOf s).length = s.size := numsOf_len s
  simp only
  rw [if_neg (by simp [hl]), List.drop_left, ← hl, List.take_left, strOf_nums]
  congr 2
  rw [← List.append_assoc, hl, ← hl]
  rw [show (smallN (numsOf s).length).length + (numsOf s).length = (smallN (numsOf s).length ++ numsOf s).length from by simp, List.drop_left]

theorem cutFile_back (B : Bnds) (f : FileV) (r : List Nat) (hs : f.name.size < 18446744073709551616) (h1 : 0 ≤ f.size ∧ f.size ≤ B.size) (h2 : f.pcs.length ≤ B.many)
    (h3 : ∀ p ∈ f.pcs, (0 ≤ p.1 ∧ p.1 ≤ B.lo) ∧ (0 ≤ p.2 ∧ p.2 ≤ B.count)) (hb : B.size < 18446744073709551616 ∧ B.many < 18446744073709551616 ∧ B.lo < 18446744073709551616 ∧ B.count < 18446744073709551616) : cutFile B (fileN f ++ r) = some (f, r) := by
  unfold cutFile fileN
  rw [List.append_assoc, List.append_assoc, List.append_assoc, cutText_back _ _ hs]
  simp only
  rw [cutNum_back _ (by omega) (by omega)]
  simp only
  rw [cutNum_back _ h2 (by omega)]
  simp only
  rw [cutMany_back (g := pieceN) _ _ (fun p hp r => cutPiece_back p r (h3 p hp).1 (h3 p hp).2 ⟨hb.2.2.1, hb.2.2.2⟩)]
  simp only [Option.some.injEq, Prod.mk.injEq, and_true]
  rw [Int.toNat_of_nonneg h1.1]

/-! #### Nothing else is read -/
def Byt (b : List Nat) : Prop := ∀ c ∈ b, c < 256
theorem Byt.app {a b : List Nat} (h : Byt (a ++ b)) : Byt b := fun c hc => h c (by simp [hc])
theorem Byt.drop {b : List Nat} (h : Byt b) (k : Nat) : Byt (b.drop k) := fun c hc => h c (List.mem_of_mem_drop hc)
theorem Byt.take {b : List Nat} (h : Byt b) (k : Nat) : Byt (b.take k) := fun c hc => h c (List.mem_of_mem_take hc)
theorem cutNum_only {bound n : Nat} {b r : List Nat} (hb : Byt b) (h : cutNum bound b = some (n, r)) : b = smallN n ++ r ∧ n ≤ bound := by
  unfold cutNum at h
  split at h
  · cases h
  · rename_i n' k e
    split at h
    · cases h
    · simp only [Option.some.injEq, Prod.mk.injEq] at h
      obtain ⟨rfl, rfl⟩ := h
      refine ⟨?_, by omega⟩
      rw [← read_only hb e, List.take_append_drop]
theorem cutPiece_only {b1 b2 : Nat} {p : Int × Int} {b r : List Nat} (hb : Byt b) (h : cutPiece b1 b2 b = some (p, r)) : b = pieceN p ++ r ∧ (0 ≤ p.1 ∧ p.1 ≤ b1) ∧ (0 ≤ p.2 ∧ p.2 ≤ b2) := by
  unfold cutPiece at h
  split at h
  · cases h
  · rename_i n r1 e1
    split at h
    · cases h
    · rename_i m r2 e2
      simp only [Option.some.injEq, Prod.mk.injEq] at h
      obtain ⟨rfl, rfl⟩ := h
      obtain ⟨h1, h2⟩ := cutNum_only hb e1
      obtain ⟨h3, h4⟩ := cutNum_only (Byt.app (h1 ▸ hb)) e2
      refine ⟨?_, by simp; omega, by simp; omega⟩
      unfold pieceN
      rw [h1, h3]
      simp
theorem cutMany_only {α : Type} {f : List Nat → Option (α × List Nat)} {g : α → List Nat} {Q : α → Prop} (hf : ∀ b x r, Byt b → f b = some (x, r) → b = g x ++ r ∧ Q x) : ∀ (n : Nat) (b : List Nat) (l : List α) (r : List Nat), Byt b → cutMany f n b = some (l, r) → b = l.flatMap g ++ r ∧ l.length = n ∧ ∀ x ∈ l, Q x
  | 0, b, l, r, _, h => by
    simp only [cutMany, Option.some.injEq, Prod.mk.injEq] at h
    obtain ⟨rfl, rfl⟩ := h
    simp
  | n + 1, b, l, r, hb, h => by
    unfold cutMany at h
    split at h
    · cases h
    · rename_i x r1 e1
      split at h
      · cases h
      · rename_i l2 r2 e2
        simp only [Option.some.injEq, Prod.mk.injEq] at h
        obtain ⟨rfl, rfl⟩ := h
        obtain ⟨h1, h1q⟩ := hf b x r1 hb e1
        obtain ⟨h2, h3, h4⟩ := cutMany_only hf n r1 l2 r2 (Byt.app (h1 ▸ hb)) e2
        refine ⟨by rw [List.flatMap_cons, List.append_assoc, ← h2, ← h1], by simp [h3], ?_⟩
        intro y hy
        rcases List.mem_cons.1 hy with rfl | hy
        · exact h1q
        · exact h4 y hy
theorem nums_strOf {xs : List Nat} (h : Byt xs) : numsOf (strOf xs) = xs := by
  unfold numsOf
  rw [strOf_list, List.map_map]
  conv => rhs; rw [← List.map_id xs]
  apply List.map_congr_left
  intro c hc
  have := h c hc
  simp; omega
theorem cutText_only {s : ByteArray} {b r : List Nat} (hb : Byt b) (h : cutText b = some (s, r)) : b = textN s ++ r := by
  unfold cutText at h
  split at h
  · cases h
  · rename_i n k e
    split at h
    · cases h
    · rename_i hl
      simp only [Option.some.injEq, Prod.mk.injEq] at h
      obtain ⟨rfl, rfl⟩ := h
      unfold textN
      have hlen : ((b.drop k).take n).length = n := by simp; omega
      rw [nums_strOf ((hb.drop k).take n), strOf_size, hlen, ← read_only hb e, List.append_assoc, ← List.drop_drop, List.take_append_drop, List.take_append_drop]
theorem cutFile_only {B : Bnds} {f : FileV} {b r : List Nat} (hb : Byt b) (h : cutFile B b = some (f, r)) : b = fileN f ++ r ∧ ((0 ≤ f.size ∧ f.size ≤ B.size) ∧ f.pcs.length ≤ B.many ∧ ∀ p ∈ f.pcs, (0 ≤ p.1 ∧ p.1 ≤ B.lo) ∧ (0 ≤ p.2 ∧ p.2 ≤ B.count)) := by
  unfold cutFile at h
  split at h
  · cases h
  · rename_i s r1 e1
    split at h
    · cases h
    · rename_i n r2 e2
      split at h
      · cases h
      · rename_i k r3 e3
        split at h
        · cases h
        · rename_i l r4 e4
          simp only [Option.some.injEq, Prod.mk.injEq] at h
          obtain ⟨rfl, rfl⟩ := h
          have h1 := cutText_only hb e1
          have b1 := Byt.app (h1 ▸ hb)
          obtain ⟨h2, g2⟩ := cutNum_only b1 e2
          have b2 := Byt.app (h2 ▸ b1)
          obtain ⟨h3, g3⟩ := cutNum_only b2 e3
          have b3 := Byt.app (h3 ▸ b2)
          obtain ⟨h4, g4, g5⟩ := cutMany_only (g := pieceN) (Q := fun p => (0 ≤ p.1 ∧ p.1 ≤ B.lo) ∧ (0 ≤ p.2 ∧ p.2 ≤ B.count)) (fun b x r hb h => cutPiece_only hb h) k r3 l r4 b3 e4
          refine ⟨?_, by simp; omega, by simp; omega, g5⟩
          unfold fileN
          simp only [Int.toNat_natCast, g4]
          rw [h1, h2, h3, h4]
          simp
theorem cutFiles_only {B : Bnds} {l : List FileV} {b r : List Nat} (hb : Byt b) (h : cutFiles B b = some (l, r)) : b = insideN l ++ r := by
  unfold cutFiles at h
  split at h
  · cases h
  · rename_i n r1 e1
    obtain ⟨h1, _⟩ := cutNum_only hb e1
    obtain ⟨h2, h3, _⟩ := cutMany_only (g := fileN) (Q := fun _ => True) (fun b x r hb h => ⟨(cutFile_only hb h).1, trivial⟩) n r1 l r (Byt.app (h1 ▸ hb)) h
    unfold insideN
    rw [h3, h1, h2]
    simp
structure Bok (B : Bnds) : Prop where
  files : 32 ≤ B.files ∧ B.files < 18446744073709551616
  size : 524288 ≤ B.size ∧ B.size < 18446744073709551616
  many : 4096 ≤ B.many ∧ B.many < 18446744073709551616
  lo : 4095 ≤ B.lo ∧ B.lo < 18446744073709551616
  count : 4096 ≤ B.count ∧ B.count < 18446744073709551616
theorem mem_allPcs {l : List FileV} {f : FileV} {p : Int × Int} (hf : f ∈ l) (hp : p ∈ f.pcs) : p ∈ allPcs l := List.mem_flatMap.2 ⟨f, hf, hp⟩
theorem len_allPcs {l : List FileV} {f : FileV} (hf : f ∈ l) : f.pcs.length ≤ (allPcs l).length := by
  induction l with
  | nil => simp at hf
  | cons g l ih =>
    unfold allPcs at ih ⊢
    rw [List.flatMap_cons, List.length_append]
    rcases List.mem_cons.1 hf with rfl | h
    · omega
    · have := ih h; omega
theorem cutFiles_back {lt : ByteArray → ByteArray → Prop} {B : Bnds} (hB : Bok B) {x : DirV} (h : May lt x) (r : List Nat) : cutFiles B (insideN x.files ++ r) = some (x.files, r) := by
  unfold cutFiles insideN
  have h1 := h.many
  obtain ⟨_, hl, hg⟩ := errK_zero h.pcs
  rw [List.append_assoc, cutNum_back _ (by have := hB.files; omega) (by omega)]
  simp only
  refine cutMany_back (g := fileN) _ _ fun f hf r => ?_
  obtain ⟨k1, k2, k3, k4, k5⟩ := h.each f hf
  have k6 : f.name.size ≤ 32 := by
    unfold isNameN at k1
    simp only [Bool.and_eq_true, decide_eq_true_eq] at k1
    omega
  refine cutFile_back B f r (by omega) ⟨k2, by have := hB.size; omega⟩ (by have := len_allPcs hf; have := hB.many; omega) (fun p hp => ?_) ⟨hB.size.2, hB.many.2, hB.lo.2, hB.count.2⟩
  have := hg.wn p (mem_allPcs hf hp)
  unfold Wn at this
  have := hB.lo
  have := hB.count
  constructor <;> constructor <;> omega

/-! #### Eight sectors -/
theorem flat_len {α : Type} {f : Nat → List α} {c : Nat} : ∀ {k : Nat}, (∀ i, i < k → (f i).length = c) → ((List.range k).flatMap f).length = k * c
  | 0, _ => by simp
  | k + 1, h => by
    rw [List.range_succ, List.flatMap_append, List.length_append, flat_len (fun i hi => h i (by omega))]
    simp [h k (by omega), Nat.succ_mul]
theorem flat_at {α : Type} {f : Nat → List α} {c i : Nat} : ∀ {k : Nat}, (∀ i, i < k → (f i).length = c) → i < k → (((List.range k).flatMap f).drop (i * c)).take c = f i
  | 0, _, h => by omega
  | k + 1, h, hi => by
    have hlen := flat_len (f := f) (c := c) (k := k) (fun i hi => h i (by omega))
    rw [List.range_succ, List.flatMap_append]
    rcases Nat.lt_or_ge i k with h1 | h1
    · have : (i + 1) * c ≤ k * c := Nat.mul_le_mul_right c h1
      rw [Nat.succ_mul] at this
      rw [List.drop_append_of_le_length (by omega), List.take_append_of_le_length (by rw [List.length_drop]; omega)]
      exact flat_at (fun i hi => h i (by omega)) h1
    · obtain rfl : i = k := by omega
      rw [← hlen, List.drop_left]
      have := h i (by omega)
      simp [← this]
theorem chunks {α : Type} (b : List α) (c : Nat) : ∀ k, (List.range k).flatMap (fun i => (b.drop (i * c)).take c) = b.take (k * c)
  | 0 => by simp
  | k + 1 => by
    rw [List.range_succ, List.flatMap_append, chunks b c k, Nat.succ_mul, List.take_add]
    simp
theorem flat_congr {α : Type} {f g : Nat → List α} {k : Nat} (h : ∀ i, i < k → f i = g i) : (List.range k).flatMap f = (List.range k).flatMap g := by
  rw [List.flatMap_def, List.flatMap_def]
  congr 1
  apply List.map_congr_left
  intro i hi
  exact h i (List.mem_range.1 hi)
/-- The number with which eight bytes or more begin. -/
def beg8 (b : List Nat) : Nat := joinN (b.getD 0 0) (b.getD 1 0) (b.getD 2 0) (b.getD 3 0) (b.getD 4 0) (b.getD 5 0) (b.getD 6 0) (b.getD 7 0)
theorem beg8_put {n : Nat} (r : List Nat) (h : n < 18446744073709551616) : beg8 (putN n ++ r) = n := by
  have := join_put n h
  simpa [beg8, putN] using this
theorem list8' {b : List Nat} (h : 8 ≤ b.length) : b.take 8 = [b.getD 0 0, b.getD 1 0, b.getD 2 0, b.getD 3 0, b.getD 4 0, b.getD 5 0, b.getD 6 0, b.getD 7 0] := by
  rcases b with _ | ⟨a0, b⟩ <;> simp only [List.length_cons, List.length_nil] at h <;> first | omega | skip
  rcases b with _ | ⟨a1, b⟩ <;> simp only [List.length_cons, List.length_nil] at h <;> first | omega | skip
  rcases b with _ | ⟨a2, b⟩ <;> simp only [List.length_cons, List.length_nil] at h <;> first | omega | skip
  rcases b with _ | ⟨a3, b⟩ <;> simp only [List.length_cons, List.length_nil] at h <;> first | omega | skip
  rcases b with _ | ⟨a4, b⟩ <;> simp only [List.length_cons, List.length_nil] at h <;> first | omega | skip
  rcases b with _ | ⟨a5, b⟩ <;> simp only [List.length_cons, List.length_nil] at h <;> first | omega | skip
  rcases b with _ | ⟨a6, b⟩ <;> simp only [List.length_cons, List.length_nil] at h <;> first | omega | skip
  rcases b with _ | ⟨a7, b⟩ <;> simp only [List.length_cons, List.length_nil] at h <;> first | omega | skip
  simp
theorem put_beg8 {b : List Nat} (hb : Byt b) (h : 8 ≤ b.length) : b.take 8 = putN (beg8 b) := by
  rw [list8' h]
  have g := fun i => getD_lt hb i
  have g0 := g 0; have g1 := g 1; have g2 := g 2; have g3 := g 3; have g4 := g 4; have g5 := g 5; have g6 := g 6; have g7 := g 7
  unfold beg8 putN joinN
  generalize b.getD 0 0 = a0 at *
  generalize b.getD 1 0 = a1 at *
  generalize b.getD 2 0 = a2 at *
  generalize b.getD 3 0 = a3 at *
  generalize b.getD 4 0 = a4 at *
  generalize b.getD 5 0 = a5 at *
  generalize b.getD 6 0 = a6 at *
  generalize b.getD 7 0 = a7 at *
  simp only [List.cons.injEq, and_true]
  refine ⟨?_, ?_, ?_, ?_, ?_, ?_, ?_, ?_⟩ <;> omega
theorem beg8_lt {b : List Nat} (hb : Byt b) : beg8 b < 18446744073709551616 := by
  have g := fun i => getD_lt hb i
  have g0 := g 0; have g1 := g 1; have g2 := g 2; have g3 := g 3; have g4 := g 4; have g5 := g 5; have g6 := g 6; have g7 := g 7
  unfold beg8 joinN
  omega
theorem putN_len (n : Nat) : (putN n).length = 8 := rfl
def secAt (b : List Nat) (i : Nat) : List Nat := (b.drop (i * 128)).take 128
def innerN (b : List Nat) (k : Nat) : List Nat := (List.range k).flatMap fun i => (secAt b i).drop 9
theorem secAt_len {b : List Nat} {i : Nat} (h : b.length = 1024) (hi : i < 8) : (secAt b i).length = 128 := by unfold secAt; simp; omega
theorem innerN_len {b : List Nat} (h : b.length = 1024) : (innerN b 8).length = 952 := by
  unfold innerN
  rw [flat_len (c := 119) (fun i hi => by rw [List.length_drop, secAt_len h hi])]
theorem sec_parts {s : List Nat} (hs : Byt s) (h : s.length = 128) : s = putN (beg8 s) ++ [s.getD 8 0] ++ s.drop 9 := by
  rw [← put_beg8 hs (by omega)]
  conv => lhs; rw [← List.take_append_drop 9 s, take_snoc (d := 0) (by omega)]
theorem sects_of {b : List Nat} (hb : Byt b) (hl : b.length = 1024) {gen : Nat} (h : ∀ i, i < 8 → beg8 (secAt b i) = gen ∧ (secAt b i).getD 8 0 = i) : b = sectsN gen (innerN b 8) 8 := by
  conv => lhs; rw [← List.take_length (l := b), hl, ← chunks b 128 8]
  unfold sectsN
  refine flat_congr fun i hi => ?_
  obtain ⟨h1, h2⟩ := h i hi
  have hs := sec_parts (s := secAt b i) ((hb.drop _).take _) (secAt_len hl hi)
  rw [h1, h2] at hs
  unfold sectN
  have := flat_at (f := fun i => (secAt b i).drop 9) (c := 119) (k := 8) (fun i hi => by rw [List.length_drop, secAt_len hl hi]) hi
  rw [show innerN b 8 = (List.range 8).flatMap fun i => (secAt b i).drop 9 from rfl, this]
  exact hs
theorem sectN_len {gen : Nat} {xs : List Nat} {i : Nat} (h : xs.length = 952) (hi : i < 8) : (sectN gen xs i).length = 128 := by
  unfold sectN; simp [putN_len]; omega
theorem sects_len {gen : Nat} {xs : List Nat} (h : xs.length = 952) : (sectsN gen xs 8).length = 1024 := by
  unfold sectsN; rw [flat_len (c := 128) (fun i hi => sectN_len h hi)]
theorem sects_at {gen : Nat} {xs : List Nat} {i : Nat} (h : xs.length = 952) (hi : i < 8) : secAt (sectsN gen xs 8) i = sectN gen xs i := by
  unfold secAt sectsN; exact flat_at (c := 128) (fun i hi => sectN_len h hi) hi
theorem sect_beg {gen : Nat} {xs : List Nat} {i : Nat} (hg : gen < 18446744073709551616) : beg8 (sectN gen xs i) = gen := by
  unfold sectN; rw [List.append_assoc]; exact beg8_put _ hg
theorem sect_eight {gen : Nat} {xs : List Nat} {i : Nat} : (sectN gen xs i).getD 8 0 = i := by
  unfold sectN; simp [putN]
theorem sect_tail {gen : Nat} {xs : List Nat} {i : Nat} : (sectN gen xs i).drop 9 = (xs.drop (i * 119)).take 119 := by
  unfold sectN; simp [putN]
theorem inner_sects {gen : Nat} {xs : List Nat} (h : xs.length = 952) : innerN (sectsN gen xs 8) 8 = xs := by
  unfold innerN
  rw [flat_congr (g := fun i => (xs.drop (i * 119)).take 119) (fun i hi => by rw [sects_at h hi, sect_tail]), chunks xs 119 8]
  exact List.take_of_length_le (by omega)
theorem pad_len {xs : List Nat} (h : xs.length ≤ 952) : (padN xs).length = 952 := by unfold padN; simp; omega

/-! #### A directory out of bytes -/
theorem isDir_len {lt : ByteArray → ByteArray → Prop} {x : DirV} {b : List Nat} (h : IsDir lt x b) : b.length = 1024 := by
  obtain ⟨_, h2, rfl⟩ := h
  exact sects_len (pad_len h2)
theorem isDir_sec {lt : ByteArray → ByteArray → Prop} {x : DirV} {b : List Nat} (h : IsDir lt x b) {i : Nat} (hi : i < 8) : beg8 (secAt b i) = x.gen.toNat ∧ (secAt b i).getD 8 0 = i := by
  obtain ⟨h1, h2, rfl⟩ := h
  have := h1.lo
  have := h1.hi
  unfold bytesN
  rw [sects_at (pad_len h2) hi]
  exact ⟨sect_beg (by omega), sect_eight⟩
theorem isDir_inner {lt : ByteArray → ByteArray → Prop} {x : DirV} {b : List Nat} (h : IsDir lt x b) : innerN b 8 = padN (insideN x.files) := by
  obtain ⟨_, h2, rfl⟩ := h
  exact inner_sects (pad_len h2)
theorem isDir_cut {lt : ByteArray → ByteArray → Prop} {B : Bnds} (hB : Bok B) {x : DirV} {b : List Nat} (h : IsDir lt x b) : ∃ r, cutFiles B (innerN b 8) = some (x.files, r) ∧ ∀ c ∈ r, c = 0 := by
  rw [isDir_inner h]
  refine ⟨_, cutFiles_back hB h.1 _, fun c hc => ?_⟩
  exact (List.mem_replicate.1 hc).2
/-- What the sectors of a directory say, read with any bounds: that directory. -/
theorem isDir_of {lt : ByteArray → ByteArray → Prop} {B : Bnds} {x : DirV} {b r : List Nat} (hb : Byt b) (hl : b.length = 1024) (hs : ∀ i, i < 8 → beg8 (secAt b i) = x.gen.toNat ∧ (secAt b i).getD 8 0 = i)
    (hc : cutFiles B (innerN b 8) = some (x.files, r)) (hz : ∀ c ∈ r, c = 0) (hm : May lt x) : IsDir lt x b := by
  have hby : Byt (innerN b 8) := by
    intro c hc
    obtain ⟨i, _, h⟩ := List.mem_flatMap.1 hc
    exact hb c (List.mem_of_mem_drop (List.mem_of_mem_take (List.mem_of_mem_drop h)))
  have h1 := cutFiles_only hby hc
  have h2 := innerN_len hl
  rw [h1, List.length_append] at h2
  refine ⟨hm, by omega, ?_⟩
  rw [sects_of hb hl hs]
  unfold bytesN
  congr 1
  rw [h1]
  unfold padN
  congr 1
  rw [List.eq_replicate_iff]
  exact ⟨by omega, hz⟩
theorem isDir_only {lt : ByteArray → ByteArray → Prop} {x y : DirV} {b : List Nat} (hx : IsDir lt x b) (hy : IsDir lt y b) : x = y := by
  have B : Bok ⟨32, 524288, 4096, 4095, 4096⟩ := ⟨by simp, by simp, by simp, by simp, by simp⟩
  obtain ⟨r, h1, _⟩ := isDir_cut B hx
  obtain ⟨r', h2, _⟩ := isDir_cut B hy
  rw [h1] at h2
  simp only [Option.some.injEq, Prod.mk.injEq] at h2
  have g1 := (isDir_sec hx (i := 0) (by omega)).1
  have g2 := (isDir_sec hy (i := 0) (by omega)).1
  have a1 := hx.1.lo
  have a2 := hy.1.lo
  obtain ⟨gx, fx⟩ := x
  obtain ⟨gy, fy⟩ := y
  simp only at h2 g1 g2 a1 a2
  have e : gx = gy := by omega
  rw [h2.1, e]
end Go.Proofs.YtiakfdhbbkpfhaaGreatDoor
namespace Go.Proofs.YtiakfdhbbkpfhaaGreatDoor.Rm
open Go.RowKit Go.WideShapes Go.ChangeShapes Go.Deep Go.Joins

/-- A []Piece: two cells each. -/
def PcsIn (w : World) (q : Option Addr) (l : Pcs) : Prop :=
  0 < l.length → ∃ b o, q = some ⟨b, o, none⟩ ∧ ∀ i, i < l.length → w.cell? ⟨b, o + i * 2, none⟩ = some (.int .i64 (l.getD i (0, 0)).1) ∧ w.cell? ⟨b, o + (i * 2 + 1), none⟩ = some (.int .i64 (l.getD i (0, 0)).2)
def Wf (l : Pcs) : Prop := ∀ y ∈ l, (-9223372036854775808 ≤ y.1 ∧ y.1 ≤ 9223372036854775807) ∧ (-9223372036854775808 ≤ y.2 ∧ y.2 ≤ 9223372036854775807)
structure PIn (w : World) (v : Value) (l : Pcs) : Prop where
  lies : ∃ q c, v = .slice q l.length c ∧ PcsIn w q l ∧ l.length ≤ c ∧ c ≤ maxLen ∧ (q = none → c = 0)
  wf : Wf l
theorem below_alloc (w : World) (o : Obj) : Below w.heap.size w (w.alloc o) := (Below.refl _ _).alloc (Nat.le_refl _) o
theorem lt_heap {w : World} {b : Nat} {o : Obj} (h : w.heap[b]? = some o) : b < w.heap.size := (Array.getElem?_eq_some_iff.1 h).1
theorem below_bt {a b c : World} (h1 : Below a.heap.size a b) (h2 : Below b.heap.size b c) : Below a.heap.size a c := h1.trans (h2.mono h1.size)
theorem PcsIn.below {w w' : World} {q : Option Addr} {l : Pcs} (h : PcsIn w q l) (hb : Below w.heap.size w w') : PcsIn w' q l := by
  intro hp
  obtain ⟨b, o, rfl, hc⟩ := h hp
  refine ⟨b, o, rfl, fun i hi => ?_⟩
  obtain ⟨e0, e1⟩ := hc i hi
  exact ⟨(hb.cell (World.block_lt_of_cell? _ _ e0)).trans e0, (hb.cell (World.block_lt_of_cell? _ _ e1)).trans e1⟩
theorem PIn.below {w w' : World} {v : Value} {l : Pcs} (h : PIn w v l) (hb : Below w.heap.size w w') : PIn w' v l := by
  obtain ⟨q, c, h1, h2, h3⟩ := h.lies
  exact ⟨⟨q, c, h1, h2.below hb, h3⟩, h.wf⟩
theorem PcsIn.addr {w : World} {q : Option Addr} {l : Pcs} (h : PcsIn w q l) (hw : 0 < l.length) : ∃ b o, q = some ⟨b, o, none⟩ := by
  obtain ⟨b, o, e, _⟩ := h hw
  exact ⟨b, o, e⟩
theorem PcsIn.at {w : World} {b o : Nat} {l : Pcs} (h : PcsIn w (some ⟨b, o, none⟩) l) {k : Nat} (hk : k < l.length) :
    w.cell? ⟨b, o + k * 2, none⟩ = some (.int .i64 (l.getD k (0, 0)).1) ∧ w.cell? ⟨b, o + k * 2 + 1, none⟩ = some (.int .i64 (l.getD k (0, 0)).2) := by
  obtain ⟨b', o', e, hc⟩ := h (by omega)
  simp only [Option.some.injEq, Addr.mk.injEq, and_true] at e
  obtain ⟨rfl, rfl⟩ := e
  obtain ⟨h1, h2⟩ := hc k hk
  exact ⟨h1, by rw [Nat.add_assoc]; exact h2⟩
theorem Wf.at {l : Pcs} (h : Wf l) {k : Nat} (hk : k < l.length) : (-9223372036854775808 ≤ (l.getD k (0, 0)).1 ∧ (l.getD k (0, 0)).1 ≤ 9223372036854775807) ∧ (-9223372036854775808 ≤ (l.getD k (0, 0)).2 ∧ (l.getD k (0, 0)).2 ≤ 9223372036854775807) := h _ (getD_mem' hk)
theorem wf_nil : Wf [] := by intro y hy; simp at hy
theorem Good.wf {count : Int} {l : Pcs} (h : Good count l) (hc : count ≤ 4096) : Wf l := by
  intro y hy
  have := h.wn y hy
  unfold Wn at this
  omega

/-! ### Handed in as arguments -/
theorem open_pcs {P : Program} {w : World} {H : Type} {enc : TypeId × Value → H} {t e : TypeId} {f0 f1 : Field} {n : Nat} {v : Value} {x : DataW H × List MemPlace} (ht : P.underlying t = some (.slice e)) (he : P.underlying e = some (.struct #[f0, f1])) (ce : P.cellsOf e = 2) (o0 : f0.offset = 0) (o1 : f1.offset = 1)
    (c0 : P.cellsOf f0.type = 1) (c1 : P.cellsOf f1.type = 1) (k0 : P.underlying f0.type = some (.int .i64)) (k1 : P.underlying f1.type = some (.int .i64))
    (h : DataW.trod enc P w 0 (fun _ => true) true n t [v] = some x) : ∃ l, PIn w v l := by
  rcases open_slice_pairs ht he ce o0 o1 c0 c1 h with ⟨hcs, _⟩ | ⟨a, len, cap, m, k, V0, V1, D0, D1, P0, P1, hcs, _, hl, hm, hmm, _, hel⟩
  · simp only [List.cons.injEq, and_true] at hcs
    exact ⟨[], ⟨none, 0, hcs, fun h => absurd h (by simp), by simp, by unfold maxLen; omega, fun _ => rfl⟩, wf_nil⟩
  · simp only [List.cons.injEq, and_true] at hcs
    have hmc : m = cap := by simpa using hmm
    have each : ∀ i, i < len → ∃ y : Int × Int, V0 i = .int .i64 y.1 ∧ V1 i = .int .i64 y.2 ∧ (Lit.int .i64 y.1).wf = true ∧ (Lit.int .i64 y.2).wf = true := by
      intro i hi
      obtain ⟨_, _, t0, t1⟩ := hel i (by omega)
      obtain ⟨z, hz, _, wz⟩ := DataW.trod_int k0 t0
      obtain ⟨z1, hz1, _, wz1⟩ := DataW.trod_int k1 t1
      simp only [List.cons.injEq, and_true] at hz hz1
      exact ⟨(z, z1), hz, hz1, wz, wz1⟩
    obtain ⟨f, hf⟩ := choose_lt each
    have hlen : ((List.range len).map f).length = len := by simp
    have hget : ∀ i, i < len → ((List.range len).map f).getD i (0, 0) = f i := by intro i hi; simp [List.getD, hi]
    refine ⟨(List.range len).map f, ⟨some a, cap, by rw [hlen]; exact hcs, fun hp => ?_, by rw [hlen]; exact hl, hm, by simp⟩, ?_⟩
    · rw [hlen] at hp
      obtain ⟨b, o, s⟩ := a
      obtain rfl : s = none := by
        have := World.cell?_spot (hel 0 (by omega)).1
        simpa [Addr.add] using this
      refine ⟨b, o, rfl, fun i hi => ?_⟩
      rw [hlen] at hi
      obtain ⟨e0, e1, _, _⟩ := hel i (by omega)
      obtain ⟨g0, g1, _⟩ := hf i hi
      rw [hget i hi]
      rw [add_plain] at e0 e1
      exact ⟨by rw [e0, g0], by rw [e1, g1]⟩
    · intro y hy
      simp only [List.mem_map, List.mem_range] at hy
      obtain ⟨i, hi, rfl⟩ := hy
      obtain ⟨_, _, w0, w1⟩ := hf i hi
      exact ⟨bounds_i64 w0, bounds_i64 w1⟩

/-! ### In memory of the call's own -/
def cellsQ (l : Pcs) : List Value := l.flatMap fun p => [.int .i64 p.1, .int .i64 p.2]
theorem cellsQ_len (l : Pcs) : (cellsQ l).length = l.length * 2 := by
  induction l with
  | nil => rfl
  | cons p l ih => simp only [cellsQ, List.flatMap_cons, List.length_append, List.length_cons] at *; simp at *; omega
theorem cellsQ_app (l m : Pcs) : cellsQ (l ++ m) = cellsQ l ++ cellsQ m := by simp [cellsQ]
theorem cellsQ_one (p : Int × Int) : cellsQ [p] = [.int .i64 p.1, .int .i64 p.2] := rfl
theorem cellsQ_at : ∀ (l : Pcs) (i : Nat), i < l.length → (cellsQ l)[i * 2]? = some (.int .i64 (l.getD i (0, 0)).1) ∧ (cellsQ l)[i * 2 + 1]? = some (.int .i64 (l.getD i (0, 0)).2)
  | p :: l, 0, _ => ⟨rfl, rfl⟩
  | p :: l, i + 1, hi => by
    have := cellsQ_at l i (by simpa using hi)
    rw [show (i + 1) * 2 = i * 2 + 1 + 1 from by omega]
    simpa [cellsQ, List.getD] using this
  | [], _, h => by simp at h
theorem cellsQ_oneCell (l : Pcs) : ∀ u ∈ cellsQ l, u.oneCell' = true := by
  intro u hu
  simp only [cellsQ, List.mem_flatMap, List.mem_cons, List.not_mem_nil, or_false] at hu
  obtain ⟨p, _, rfl | rfl⟩ := hu <;> rfl
def POwn (w : World) (base : Nat) (v : Value) (l : Pcs) : Prop := w.ownsRow base 53 2 v l.length (cellsQ l)
theorem pown_nil (w : World) (base : Nat) : POwn w base (.slice none 0 0) [] := World.ownsRow_nil _ _ _ _
theorem POwn.mono {w : World} {base base' : Nat} {v : Value} {l : Pcs} (h : POwn w base v l) (hb : base' ≤ base) : POwn w base' v l := by
  refine ⟨h.1, ?_⟩
  rcases h.2 with h' | ⟨g, cap, cur, h1, h2, h3⟩
  · exact .inl h'
  · exact .inr ⟨g, cap, cur, h1, Nat.le_trans hb h2, h3⟩
theorem POwn.form {w : World} {base : Nat} {v : Value} {l : Pcs} (h : POwn w base v l) : ∃ q m, v = .slice q l.length m ∧ l.length ≤ m ∧ m ≤ maxLen ∧ (q = none → m = 0) := by
  rcases h.2 with ⟨hv, hn⟩ | ⟨g, cap, cur, hv, _, _, h1, h2, _⟩
  · exact ⟨none, 0, by rw [hv, hn], by omega, by unfold maxLen; omega, fun _ => rfl⟩
  · exact ⟨_, cap, hv, h1, h2, fun h => by cases h⟩
theorem POwn.pcs {w : World} {base : Nat} {q : Option Addr} {n m : Nat} {l : Pcs} (h : POwn w base (.slice q n m) l) : PcsIn w q l := by
  intro hp
  rcases h.2 with ⟨_, hn⟩ | ⟨g, cap, cur, hv, hb, hg, hle, hmax, hsz, htk⟩
  · omega
  · simp only [Value.slice.injEq] at hv
    obtain ⟨rfl, rfl, rfl⟩ := hv
    refine ⟨g, 0, rfl, fun i hi => ?_⟩
    obtain ⟨c0, c1⟩ := cellsQ_at l i hi
    exact ⟨by rw [Nat.zero_add, World.ownsRow.cellAt h _ (by omega), c0], by rw [Nat.zero_add, World.ownsRow.cellAt h _ (by omega), c1]⟩
theorem POwn.pin {w : World} {base : Nat} {v : Value} {l : Pcs} (h : POwn w base v l) (hw : Wf l) : PIn w v l := by
  obtain ⟨q, m, rfl, h1, h2, h3⟩ := h.form
  exact ⟨⟨q, m, rfl, h.pcs, h1, h2, h3⟩, hw⟩
theorem POwn.kept {w w' : World} {base : Nat} {v : Value} {l : Pcs} {row : Option Nat} (h : POwn w base v l) (hg : w.grownBy w' row) (hne : v.ownBlock = none ∨ v.ownBlock ≠ row) : POwn w' base v l := World.ownsRow.kept h hg hne
theorem POwn.below {w w' : World} {base : Nat} {v : Value} {l : Pcs} (h : POwn w base v l) (hb : Below w.heap.size w w') : POwn w' base v l := by
  refine ⟨h.1, ?_⟩
  rcases h.2 with h' | ⟨g, cap, cur, h1, h2, h3, h4⟩
  · exact .inl h'
  · exact .inr ⟨g, cap, cur, h1, h2, (hb.block g (lt_heap h3)).trans h3, h4⟩
theorem POwn.lt {w : World} {base : Nat} {v : Value} {l : Pcs} (h : POwn w base v l) : ∀ k, v.ownBlock = some k → base ≤ k ∧ k < w.heap.size := World.ownsRow.lt h

/-! ### Boxes -/
theorem box2 {w wr : World} {a b : Value} {t : TypeId} (h : Below (w.heap.size + 1) (w.alloc (.cells #[a, b] t)) wr) :
    wr.cell? ⟨w.heap.size, 0, none⟩ = some a ∧ wr.cell? ⟨w.heap.size, 1, none⟩ = some b := by
  have hh : wr.heap[w.heap.size]? = some (.cells #[a, b] t (0, 0)) := (h.block _ (by omega)).trans (heap_alloc_new w _)
  exact ⟨cell_of_row _ _ _ _ _ _ hh, cell_of_row _ _ _ _ _ _ hh⟩
theorem box_below {w wr : World} {o : Obj} (h : Below (w.heap.size + 1) (w.alloc o) wr) : Below w.heap.size w wr := (below_alloc w o).trans (h.mono (by omega))
theorem info_piece : (Tryz.prog.info? 53).map (fun i => (i.zero, i.size, i.bytes)) = some (some (.agg #[.int .i64 0, .int .i64 0]), 2, 16) := by kernel_rfl
theorem info_parts' {P : Program} {t : TypeId} {z : Option Value} {s b : Nat} (h : (P.info? t).map (fun i => (i.zero, i.size, i.bytes)) = some (z, s, b)) : ∃ i, P.info? t = some i ∧ i.zero = z ∧ i.size = s ∧ i.bytes = b := by
  cases hi : P.info? t with
  | none => rw [hi] at h; cases h
  | some i => rw [hi] at h; simp at h; exact ⟨i, rfl, h.1, h.2.1, h.2.2⟩
theorem row_full' {w : World} {base e g n : Nat} {xs : List Value} (h : w.ownsRow base e 1 (.slice (some ⟨g, 0, none⟩) n n) n xs) : w.heap[g]? = some (.cells xs.toArray e (0, 0)) := by
  rcases h.2 with ⟨h, _⟩ | ⟨g', cap, cur, hv, _, hg, _, _, hs, ht⟩
  · cases h
  · simp only [Value.slice.injEq, Option.some.injEq, Addr.mk.injEq, and_true, true_and] at hv
    obtain ⟨rfl, rfl⟩ := hv
    rw [hg]
    rw [List.take_of_length_le (by simp; omega)] at ht
    rw [← ht, Array.toArray_toList]
end Go.Proofs.YtiakfdhbbkpfhaaGreatDoor.Rm
namespace Go.Proofs.YtiakfdhbbkpfhaaGreatDoor
open Go.RowKit Go.Extern.Stop Go.Stop Go.Extern Rm

/-- An error that wraps, in the end, the error's number e. -/
inductive Faults : Value → Int → Prop
  | num (e : Int) : Faults (.iface 26 (.int .i64 e)) e
  | more (s : ByteArray) {v : Value} {e : Int} (h : Faults v e) : Faults (.iface 120 (.agg #[.string s, v])) e
theorem Faults.one (s : ByteArray) (e : Int) : Faults (.iface 120 (.agg #[.string s, .iface 26 (.int .i64 e)])) e := .more s (.num e)

theorem rf.typeOf_num (e : Int) (w : World) : (ReflectliteType.typeOf #[.iface 26 (.int .i64 e)]).run Tryz.prog w = .ok (.iface 181 (.agg #[.pointer (some ⟨5, 26, none⟩)])) w := by kernel_rfl
theorem rf.typeOf_fault (v : Value) (w : World) : (ReflectliteType.typeOf #[.iface 120 v]).run Tryz.prog w = .ok (.iface 181 (.agg #[.pointer (some ⟨5, 120, none⟩)])) w := by kernel_rfl
theorem rf.valueOf_ptr (t : Addr) (w : World) : (ReflectliteValue.unpack (.iface 118 (.pointer (some t)))).run Tryz.prog w
    = .ok (.agg #[.pointer (some ⟨5, 118, none⟩), .pointer (some ⟨w.heap.size, 0, none⟩), .int .u64 150]) (w.alloc (.cells #[.pointer (some t)] 118)) := by kernel_rfl
theorem rf.valueOf_num (e : Int) (w : World) : (ReflectliteValue.unpack (.iface 26 (.int .i64 e))).run Tryz.prog w
    = .ok (.agg #[.pointer (some ⟨5, 26, none⟩), .pointer (some ⟨w.heap.size, 0, none⟩), .int .u64 130]) (w.alloc (.cells #[.int .i64 e] 26)) := by kernel_rfl
theorem rf.type_ptr (a : Addr) (w : World) : (ReflectliteValue.methodAny (ReflectliteValue.valueError "reflectlite.Value.Type" 0) (fun t _ _ _ => ReflectliteType.toType t) #[.agg #[.pointer (some ⟨5, 118, none⟩), .pointer (some a), .int .u64 150]]).run Tryz.prog w
    = .ok (.iface 181 (.agg #[.pointer (some ⟨5, 118, none⟩)])) w := by kernel_rfl
theorem rf.methodKind (h : Value) (w : World) : (Go.method 412 181 (.agg #[h]) "Kind").run Tryz.prog w = .ok (223, h) w := by kernel_rfl
theorem rf.methodElem (h : Value) (w : World) : (Go.method 412 181 (.agg #[h]) "Elem").run Tryz.prog w = .ok (235, .agg #[h]) w := by kernel_rfl
theorem rf.methodImpl (h : Value) (w : World) : (Go.method 412 181 (.agg #[h]) "Implements").run Tryz.prog w = .ok (236, .agg #[h]) w := by kernel_rfl
theorem rf.methodAssn (h : Value) (w : World) : (Go.method 412 181 (.agg #[h]) "AssignableTo").run Tryz.prog w = .ok (233, .agg #[h]) w := by kernel_rfl
theorem rf.kind_ptr (w : World) : ((ReflectliteType.abiMethod fun t => (fun a : Nat => Value.int IntKind.u8 (a : Int)) <$> Rtype.kind t) #[.pointer (some ⟨5, 118, none⟩)]).run Tryz.prog w = .ok (.int .u8 22) w := by kernel_rfl
theorem rf.kind_num (w : World) : ((ReflectliteType.abiMethod fun t => (fun a : Nat => Value.int IntKind.u8 (a : Int)) <$> Rtype.kind t) #[.pointer (some ⟨5, 26, none⟩)]).run Tryz.prog w = .ok (.int .u8 2) w := by kernel_rfl
theorem rlm (z : Sem Value) (f : TypeId → Addr → Nat → Nat → Sem Value) (v : Value) :
    ReflectliteValue.method z f #[v] = (do match ← ReflectliteValue.parts v with | none => z | some (t, a, fl) => f t a fl (fl % 32)) := rfl
theorem rf.parts_ptr (a : Addr) (w : World) : (ReflectliteValue.parts (.agg #[.pointer (some ⟨5, 118, none⟩), .pointer (some a), .int .u64 150])).run Tryz.prog w = .ok (some (118, a, 150)) w := by kernel_rfl
theorem rf.isNil (a p : Addr) (W : World) (ha : W.cell? a = some (.pointer (some p))) :
    (ReflectliteValue.method (ReflectliteValue.valueError "reflectlite.Value.IsNil" 0) ReflectliteValue.isNil #[.agg #[.pointer (some ⟨5, 118, none⟩), .pointer (some a), .int .u64 150]]).run Tryz.prog W = .ok (.bool false) W := by
  rw [rlm]
  simp only [Sem.run_bind, rf.parts_ptr, Result.andThen]
  simp [ReflectliteValue.isNil, loadVar, isAgg, underlying, Tryz.underlying118, ha, Result.andThen]
theorem rf.elem_ptr (w : World) : (ReflectliteType.method ReflectliteType.elem #[.agg #[.pointer (some ⟨5, 118, none⟩)]]).run Tryz.prog w = .ok (.iface 181 (.agg #[.pointer (some ⟨5, 26, none⟩)])) w := by kernel_rfl
theorem rf.impl_num (w : World) : (ReflectliteType.relation "Implements" ReflectliteType.implements_ #[.agg #[.pointer (some ⟨5, 26, none⟩)], .iface 181 (.agg #[.pointer (some ⟨5, 76, none⟩)])]).run Tryz.prog w = .ok (.bool true) w := by kernel_rfl
theorem rf.assn_num (w : World) : (ReflectliteType.relation "AssignableTo" ReflectliteType.assignableTo #[.agg #[.pointer (some ⟨5, 26, none⟩)], .iface 181 (.agg #[.pointer (some ⟨5, 26, none⟩)])]).run Tryz.prog w = .ok (.bool true) w := by kernel_rfl
theorem rf.assn_fault (w : World) : (ReflectliteType.relation "AssignableTo" ReflectliteType.assignableTo #[.agg #[.pointer (some ⟨5, 120, none⟩)], .iface 181 (.agg #[.pointer (some ⟨5, 26, none⟩)])]).run Tryz.prog w = .ok (.bool false) w := by kernel_rfl
theorem rf.elemOf (w : World) : (Rtype.elem? 118).run Tryz.prog w = .ok (some 26) w := by kernel_rfl
theorem rf.mk (p : Addr) (w : World) : (ReflectliteValue.mk 26 p ReflectliteValue.flagAddr).run Tryz.prog w = .ok (.agg #[.pointer (some ⟨5, 26, none⟩), .pointer (some p), .int .u64 386]) w := by kernel_rfl
theorem rf.elemV (a p : Addr) (W : World) (ha : W.cell? a = some (.pointer (some p))) :
    (ReflectliteValue.method (ReflectliteValue.valueError "reflectlite.Value.Elem" 0) ReflectliteValue.elem #[.agg #[.pointer (some ⟨5, 118, none⟩), .pointer (some a), .int .u64 150]]).run Tryz.prog W
      = .ok (.agg #[.pointer (some ⟨5, 26, none⟩), .pointer (some p), .int .u64 386]) W := by
  rw [rlm]
  simp only [Sem.run_bind, rf.parts_ptr, Result.andThen]
  simp [ReflectliteValue.elem, loadVar, isAgg, underlying, Tryz.underlying118, ha, Result.andThen, rf.elemOf, rf.mk]
theorem rls (v x : Value) : ReflectliteValue.set #[v, x] = (do
    let (some (dst, a, fl), some (src, b, _)) := (← ReflectliteValue.parts v, ← ReflectliteValue.parts x)
      | unsupported (.noEntry "extern/(internal/reflectlite.Value).Set.zeroValue")
    if fl / ReflectliteValue.flagAddr % 2 == 0 then unsupported (.noEntry "extern/(internal/reflectlite.Value).Set.unaddressable")
    let val ← loadVar src b
    if ← Rtype.directlyAssignable dst src then storeVar dst a val
    else if ← Rtype.implements dst src then
      if (← Rtype.kind src) == 20 then
        match val with
        | .nilIface => unsupported (.noEntry "extern/reflectlite: a nil value of one interface type handed on as a value of another")
        | _ => storeVar dst a val
      else storeVar dst a (.iface src val)
    else panicString ("reflectlite.Set: value of type " ++ (← Rtype.spelt src) ++ " is not assignable to type " ++ (← Rtype.spelt dst))
    pure (.tuple #[])) := rfl
theorem rf.parts_dst (a : Addr) (w : World) : (ReflectliteValue.parts (.agg #[.pointer (some ⟨5, 26, none⟩), .pointer (some a), .int .u64 386])).run Tryz.prog w = .ok (some (26, a, 386)) w := by kernel_rfl
theorem rf.parts_src (a : Addr) (w : World) : (ReflectliteValue.parts (.agg #[.pointer (some ⟨5, 26, none⟩), .pointer (some a), .int .u64 130])).run Tryz.prog w = .ok (some (26, a, 130)) w := by kernel_rfl
theorem rf.direct (w : World) : (Rtype.directlyAssignable 26 26).run Tryz.prog w = .ok true w := by kernel_rfl
theorem rf.set (ta b : Addr) (e : Int) (old : Value) (W : World) (hb : W.cell? b = some (.int .i64 e)) (ht : W.cell? ta = some old) (hf : W.frozen? ta = false) :
    (ReflectliteValue.set #[.agg #[.pointer (some ⟨5, 26, none⟩), .pointer (some ta), .int .u64 386], .agg #[.pointer (some ⟨5, 26, none⟩), .pointer (some b), .int .u64 130]]).run Tryz.prog W
      = .ok (.tuple #[]) (W.setCell ta (.int .i64 e)) := by
  rw [rls]
  simp only [Sem.run_bind, rf.parts_dst, rf.parts_src, Result.andThen]
  simp [ReflectliteValue.flagAddr, loadVar, isAgg, underlying, Tryz.underlying26, hb, Result.andThen, rf.direct, storeVar, Value.cells, storeCells, Addr.add]
  rw [run_store Tryz.prog W ta _ _ (by rfl)]
  simp [ht, hf]
theorem fault_unwrap (s : ByteArray) (v : Value) (w : World) : Calls Tryz.prog 228 #[.agg #[.string s, v]] w fun e w' => e = .returned v ∧ Below w.heap.size w w' := by
  go_enter Tryz.func228, Tryz.ntmps228
  go_wp2
  go_ret
  exact ⟨rfl, below_alloc _ _⟩
end Go.Proofs.YtiakfdhbbkpfhaaGreatDoor
