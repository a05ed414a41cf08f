/-
  A sector as it is now.
-/
import Derived.Test.YtiakfdhbbkpfhaaGreatDoorJ04
import Derived.Test.YtiakfdhbbkpfhaaGreatDoorJ13
import Derived.Test.YtiakfdhbbkpfhaaGreatDoorJ09
import Derived.Test.YtiakfdhbbkpfhaaGreatDoorJ16
namespace Go.Proofs.YtiakfdhbbkpfhaaGreatDoor.Rm

theorem len_secs : ∀ {s : Pcs}, (∀ p ∈ s, 1 ≤ p.2) → s.length ≤ (secs s).length
  | [], _ => Nat.zero_le _
  | p :: s, h => by
    have ih := len_secs (s := s) (fun q hq => h q (by simp [hq]))
    have hp := h p (by simp)
    rw [secs_cons, secs_one]
    simp only [List.length_cons, List.length_append, List.length_map, List.length_range]
    omega
theorem sorted_perm (l : Pcs) : ∃ s, l.Perm s ∧ Up s := by
  refine ⟨l.mergeSort (fun p q => decide (p.1 ≤ q.1)), (List.mergeSort_perm l _).symm, ?_⟩
  have := List.pairwise_mergeSort (le := fun p q : Int × Int => decide (p.1 ≤ q.1)) (fun a b c h1 h2 => by simp at *; omega) (fun a b => by simp; omega) l
  exact List.Pairwise.imp (fun h => by simpa using h) this
theorem good_len {count : Nat} {l : Pcs} (h : Good count l) : l.length ≤ count := by
  obtain ⟨s, hp, hu⟩ := sorted_perm l
  have hs := h.perm hp
  have hc := hs.chain hu
  have h1 := len_secs (s := s) (fun p hp => (hs.wn p hp).2.1)
  rw [secs_meant hc hs.wn] at h1
  have h2 := meant_all_len (cov s) 0 count
  rw [hp.length_eq]
  omega
theorem good_more {count : Int} {l : Pcs} (h : Good count l) (hc : count ≤ 4096) : Good 4096 l :=
  ⟨fun p hp => by have := h.wn p hp; unfold Wn at *; omega, h.apart⟩
/-- What is free lies apart from the pieces. -/
theorem good_app {count : Int} {l t : Pcs} (hl : Good count l) (ht : Good count t) (hf : ∀ n, n ∈ secs t → cov l n = false) : Good count (l ++ t) := by
  refine ⟨fun p hp => ?_, List.pairwise_append.2 ⟨hl.apart, ht.apart, fun p hp q hq => ?_⟩⟩
  · rcases List.mem_append.1 hp with h | h
    · exact hl.wn p h
    · exact ht.wn p h
  · have h1 := hl.wn p hp
    have h2 := ht.wn q hq
    unfold Wn at h1 h2
    unfold Apart
    by_cases a1 : p.1 + p.2 ≤ q.1
    · exact .inl a1
    by_cases a2 : q.1 + q.2 ≤ p.1
    · exact .inr a2
    exfalso
    by_cases a3 : p.1 ≤ q.1
    · have := hf q.1 (mem_secs.2 (cov_iff.2 ⟨q, hq, by omega, by omega⟩))
      exact cov_false.1 this p hp ⟨a3, by omega⟩
    · have := hf p.1 (mem_secs.2 (cov_iff.2 ⟨q, hq, by omega, by omega⟩))
      exact cov_false.1 this p hp ⟨by omega, by omega⟩
theorem got_good {first count : Int} {l : Pcs} {many : Nat} (h : (0 ≤ count ∧ count ≤ 4096) ∧ 0 ≤ first ∧ first ≤ count) : Good count (gotF first count l many).1 := by
  refine (gotF_of first count l many).runs.chain.good fun q hq => ?_
  have := gotF_bounds h q hq
  unfold Wn
  omega
theorem got_free {first count : Int} {l : Pcs} {many : Nat} : ∀ n, n ∈ secs (gotF first count l many).1 → cov l n = false := by
  intro n hn
  rw [(gotF_of first count l many).secs] at hn
  have := (mem_meant.1 (List.mem_of_mem_take hn)).1
  unfold freeB at this
  simpa using this
theorem got_sum (first count : Int) (l : Pcs) (many : Nat) : sumP (gotF first count l many).1 = ((gotF first count l many).2 : Nat) := by
  have h := gotF_of first count l many
  rw [← secs_len_sum (fun p hp => by have := h.runs.2 p hp; omega), h.secs, h.got]
theorem many_good {l : Pcs} (h : Good 4096 l) (hl : l.length ≤ 4096) : manyN l = sumP l ∧ errK 4096 l = 0 := by
  have := errK_ok (count := 4096) (by omega) hl h
  exact ⟨by unfold manyN; rw [if_pos this], this⟩
theorem errF_not30 (first count : Int) (l : Pcs) : errF first count l ≠ 30 := by
  unfold errF
  split
  · unfold errK
    split
    · split
      · split <;> decide
      · decide
    · decide
  · decide
theorem errT_space {first count : Int} {l : Pcs} {many : Int} (h : errT first count l many = 30) : (0 ≤ many ∧ many ≤ 4096) ∧ errF first count l = 0 ∧ ((gotF first count l many.toNat).2 : Int) < many := by
  by_cases h0 : 0 ≤ many ∧ many ≤ 4096
  · by_cases h1 : errF first count l = 0
    · by_cases h2 : ((gotF first count l many.toNat).2 : Int) < many
      · exact ⟨h0, h1, h2⟩
      · rw [errT_ok h0 h1 h2] at h; omega
    · rw [errT_bad h0 h1] at h; exact absurd h (errF_not30 _ _ _)
  · rw [errT_arg h0] at h; omega
/-- Too few are free: so many fewer are all of them. -/
theorem few_all {first count : Int} {l : Pcs} {many : Int} (hz : (0 ≤ count ∧ count ≤ 4096) ∧ 0 ≤ first ∧ first ≤ count) (h0 : 0 ≤ many ∧ many ≤ 4096) (h : ((gotF first count l many.toNat).2 : Int) < many) : manyN (gotF first count l 4096).1 < many := by
  have hg := got_good (l := l) (many := 4096) hz
  rw [(many_good (good_more hg hz.1.2) (gotF_len _ _ _ _)).1, got_sum]
  have h1 := (gotF_of first count l many.toNat).got
  have h2 := (gotF_of first count l 4096).got
  rw [List.length_take] at h1 h2
  omega
theorem up_drop {xs : List Int} {m : Nat} {x y : Int} (h : xs.Pairwise (· < ·)) (hx : x ∈ xs) (hn : x ∉ xs.take m) (hy : y ∈ xs.take m) : y < x := by
  rw [← List.take_append_drop m xs] at h hx
  rcases List.mem_append.1 hx with h1 | h1
  · exact absurd h1 hn
  · exact (List.pairwise_append.1 h).2.2 y hy x h1
/-- What is left stands behind the last one that was taken. -/
theorem rest_behind {first count : Int} {l t r : Pcs} {m : Nat} (hr : r = (gotF first count (l ++ t) 4096).1) (ht : t = (gotF first count l m).1) (p q : Int × Int) (hp : p ∈ t) (hq : q ∈ r) : p.1 + p.2 ≤ q.1 := by
  have h1 := gotF_of first count l m
  have h2 := gotF_of first count (l ++ t) 4096
  have hp2 := h1.runs.2 p (by rw [← ht]; exact hp)
  have hq2 := h2.runs.2 q (by rw [← hr]; exact hq)
  have hpm : p.1 + p.2 - 1 ∈ secs t := mem_secs.2 (cov_iff.2 ⟨p, hp, by omega, by omega⟩)
  have hqm : q.1 ∈ secs r := mem_secs.2 (cov_iff.2 ⟨q, hq, by omega, by omega⟩)
  have e1 : secs t = (meant (freeB l) first.toNat (count - first).toNat).take m := by rw [ht]; exact (gotF_of first count l m).secs
  have e2 : secs r = (meant (freeB (l ++ t)) first.toNat (count - first).toNat).take 4096 := by rw [hr]; exact (gotF_of first count (l ++ t) 4096).secs
  rw [e2] at hqm
  have hq3 := mem_meant.1 (List.mem_of_mem_take hqm)
  have hc : cov (l ++ t) q.1 = false := by have := hq3.1; unfold freeB at this; simpa using this
  rw [cov_append, Bool.or_eq_false_iff] at hc
  have hx : q.1 ∈ meant (freeB l) first.toNat (count - first).toNat := mem_meant.2 ⟨by unfold freeB; rw [hc.1]; rfl, hq3.2⟩
  have hnt : q.1 ∉ secs t := fun h => by have := mem_secs.1 h; rw [hc.2] at this; cases this
  rw [e1] at hnt hpm
  have := up_drop (meant_up _ _ _) hx hnt hpm
  omega
end Go.Proofs.YtiakfdhbbkpfhaaGreatDoor.Rm
namespace Go.Proofs.YtiakfdhbbkpfhaaGreatDoor
open Go.RowKit Go.WideShapes Rm

/-! ### pieces within a disk -/
theorem errK_fits {count : Int} {l : Pcs} (h : errK 4096 l = 0) (hc : 0 ≤ count ∧ count ≤ 4096) : errK count l = 0 ↔ ∀ p ∈ l, p.1 + p.2 ≤ count := by
  obtain ⟨_, h2, h3⟩ := errK_zero h
  constructor
  · intro h4 p hp
    have := (errK_zero h4).2.2.wn p hp
    unfold Wn at this
    omega
  · intro h4
    refine errK_ok hc h2 ⟨fun p hp => ?_, h3.apart⟩
    have := h3.wn p hp
    have := h4 p hp
    unfold Wn at *
    omega

/-! ### how many sectors are free -/
theorem meant_len (P : Int → Bool) (f : Nat) : ∀ k, (meant P f k).length + (meant (fun n => !P n) f k).length = k
  | 0 => by simp [meant]
  | k + 1 => by
    have := meant_len P f k
    rw [meant_succ, meant_succ, List.length_append, List.length_append]
    cases P ((f + k : Nat) : Int) <;> simp <;> omega
theorem secs_len_good {count : Int} {l : Pcs} (h : Rm.Good count l) {f k : Nat} (hf : ∀ p ∈ l, (f : Int) ≤ p.1) (hk : ((f + k : Nat) : Int) = count) : (secs l).length = (meant (cov l) f k).length := by
  obtain ⟨s, hp, hu⟩ := sorted_perm l
  have hg := h.perm hp
  have h1 : (secs l).length = (secs s).length := (List.Perm.flatMap_right _ hp).length_eq
  have h2 : secs s = meant (cov l) f k := by
    refine up_ext (secs_up (hg.chain hu) (fun p hp => ?_)) (meant_up _ _ _) (fun n => ?_)
    · have := hg.wn p hp
      unfold Wn at this
      omega
    · rw [mem_secs, mem_meant, cov_perm hp]
      constructor
      · intro hc
        refine ⟨hc, ?_⟩
        obtain ⟨p, hps, h3, h4⟩ := cov_iff.1 hc
        have a := hf p (hp.mem_iff.2 hps)
        have b := hg.wn p hps
        unfold Wn at b
        omega
      · exact fun h => h.1
  rw [h1, h2]
theorem free_many {first count : Int} {l : Pcs} (hz : (0 ≤ count ∧ count ≤ 4096) ∧ 0 ≤ first ∧ first ≤ count) (h : errK count l = 0) (hf : ∀ p ∈ l, first ≤ p.1) : errF first count l = 0 ∧ manyN (resF first count l) = count - first - sumP l := by
  obtain ⟨_, hl, hg⟩ := errK_zero h
  have h0 : errF first count l = 0 := (errF_ok hz).trans h
  refine ⟨h0, ?_⟩
  rw [resF_ok h0, (many_good (good_more (got_good hz) hz.1.2) (gotF_len _ _ _ _)).1, got_sum, (gotF_of first count l 4096).got]
  have e1 := meant_len (cov l) first.toNat (count - first).toNat
  have e2 := secs_len_good hg (f := first.toNat) (k := (count - first).toNat) (fun p hp => by have := hf p hp; show ((first.toNat : Nat) : Int) ≤ _; omega) (by show ((first.toNat + (count - first).toNat : Nat) : Int) = count; omega)
  have e3 := secs_len_sum (l := l) (fun p hp => by have := hg.wn p hp; unfold Wn at this; omega)
  have e4 : (meant (freeB l) first.toNat (count - first).toNat).length = (meant (fun n => !cov l n) first.toNat (count - first).toNat).length := rfl
  rw [List.length_take]
  omega
def takenN (l : List FileV) : Int := (l.map fun f => needsN f.size).sum
theorem taken_all : ∀ {l : List FileV}, (∀ f ∈ l, FileOk f) → sumP (allPcs l) = takenN l
  | [], _ => rfl
  | f :: l, h => by
    have ih := taken_all (l := l) (fun g hg => h g (List.mem_cons_of_mem _ hg))
    have h1 := (h f (by simp)).2.2.2.2
    have e : sumP (allPcs (f :: l)) = sumC f.pcs + sumP (allPcs l) := by simp [sumP, sumC, allPcs]
    rw [e, h1, ih]
    simp [takenN]
/-- How many sectors are free on a disk with such a directory: both ways of counting. -/
theorem free_dir {lt : ByteArray → ByteArray → Prop} {x : DirV} {count : Int} (h : May lt x) (hc : 80 ≤ count ∧ count ≤ 4096) (hf : errK count (allPcs x.files) = 0) : errF 80 count (allPcs x.files) = 0 ∧ manyN (resF 80 count (allPcs x.files)) = count - 80 - takenN x.files := by
  have := free_many (first := 80) (count := count) (l := allPcs x.files) ⟨⟨by omega, hc.2⟩, by omega, hc.1⟩ hf (fun p hp => by
    obtain ⟨f, hff, hpf⟩ := List.mem_flatMap.1 hp
    exact (h.each f hff).2.2.2.1 p hpf)
  rw [taken_all h.each] at this
  exact this

/-! ### which slot counts -/
/-- What a slot holds. -/
def SlotR (lt : ByteArray → ByteArray → Prop) (count : Int) (xs : List Nat) : Option DirV → Prop
  | some x => IsDir lt x xs ∧ errK count (allPcs x.files) = 0
  | none => ∀ x, IsDir lt x xs → errK count (allPcs x.files) ≠ 0
/-- The directory that counts, and its slot. -/
def mountR : Option DirV → Option DirV → Option (DirV × Int)
  | some x, some y => if x.gen < y.gen then some (y, 8) else some (x, 0)
  | some x, none => some (x, 0)
  | none, some y => some (y, 8)
  | none, none => none
theorem slot_gen {lt : ByteArray → ByteArray → Prop} {count : Int} {xs : List Nat} {a : Option DirV} (h : SlotR lt count xs a) : (a.isSome = true → 1 ≤ (a.getD zeroDir).gen) ∧ (a = none → (a.getD zeroDir).gen = 0) := by
  cases a with
  | none => exact ⟨fun h => (by cases h), fun _ => rfl⟩
  | some x => exact ⟨fun _ => h.1.1.lo, fun h => by cases h⟩
/-- As the program tells it: the greater Gen, one that does not hold having none. -/
theorem mount_greater {lt : ByteArray → ByteArray → Prop} {count : Int} {xs ys : List Nat} {a b : Option DirV} (ha : SlotR lt count xs a) (hb : SlotR lt count ys b) (h : ¬ (a = none ∧ b = none)) :
    mountR a b = if (a.getD zeroDir).gen < (b.getD zeroDir).gen then some (b.getD zeroDir, 8) else some (a.getD zeroDir, 0) := by
  cases a with
  | none =>
    cases b with
    | none => exact absurd ⟨rfl, rfl⟩ h
    | some y => have := hb.1.1.lo; rw [if_pos (by show (0 : Int) < y.gen; omega)]; rfl
  | some x =>
    cases b with
    | none => have := ha.1.1.lo; rw [if_neg (by show ¬ x.gen < 0; omega)]; rfl
    | some y => rfl
/-- As the document tells it. -/
theorem mount_words {a b : Option DirV} : mountR a b = if a.isSome = true ∧ (b.isSome = false ∨ (b.getD zeroDir).gen ≤ (a.getD zeroDir).gen) then some (a.getD zeroDir, 0) else if b.isSome = true then some (b.getD zeroDir, 8) else none := by
  cases a with
  | none => cases b <;> simp [mountR]
  | some x =>
    cases b with
    | none => simp [mountR]
    | some y =>
      simp only [mountR, Option.isSome_some, Option.getD_some]
      by_cases h : x.gen < y.gen
      · rw [if_pos h, if_neg (by simp; omega)]; simp
      · rw [if_neg h, if_pos ⟨trivial, .inr (by omega)⟩]
end Go.Proofs.YtiakfdhbbkpfhaaGreatDoor
namespace Go.Proofs.YtiakfdhbbkpfhaaGreatDoor.Dk
end Go.Proofs.YtiakfdhbbkpfhaaGreatDoor.Dk
namespace Go.Proofs.YtiakfdhbbkpfhaaGreatDoor
open Go.RowKit Go.WideShapes Rm Dk

/-- The first k sectors from 'at' on, as they are now. -/
def slotK (data : List Nat) (ws : Puts) (a k : Nat) : List Nat := (List.range k).flatMap fun i => nowN data ws ((a + i : Nat) : Int)
theorem slotK_snoc (data : List Nat) (ws : Puts) (a k : Nat) : slotK data ws a (k + 1) = slotK data ws a k ++ nowN data ws ((a + k : Nat) : Int) := by
  unfold slotK; rw [List.range_succ, List.flatMap_append]; simp
theorem slotK_len {count : Int} {data : List Nat} {ws : Puts} (h : Okay count data ws) {a : Nat} : ∀ {k : Nat}, ((a + k : Nat) : Int) ≤ count → (slotK data ws a k).length = k * 128
  | 0, _ => by simp [slotK]
  | k + 1, hk => by
    rw [slotK_snoc, List.length_append, slotK_len h (by omega), nowN_len h (by omega)]
    omega
/-- Sectors one behind the other. -/
def secsD (data : List Nat) (ws : Puts) (l : List Int) : List Nat := l.flatMap (nowN data ws)
theorem secsD_snoc (data : List Nat) (ws : Puts) (l : List Int) (n : Int) : secsD data ws (l ++ [n]) = secsD data ws l ++ nowN data ws n := by simp [secsD]
theorem secsD_len {count : Int} {data : List Nat} {ws : Puts} (h : Okay count data ws) : ∀ {l : List Int}, (∀ n ∈ l, 0 ≤ n ∧ n < count) → (secsD data ws l).length = l.length * 128
  | [], _ => rfl
  | n :: l, hl => by
    have h1 := hl n (by simp)
    have h2 := nowN_len h (n := n.toNat) (by omega)
    rw [show ((n.toNat : Nat) : Int) = n by omega] at h2
    have e : secsD data ws (n :: l) = nowN data ws n ++ secsD data ws l := by simp [secsD]
    rw [e, List.length_append, h2, secsD_len h (fun m hm => hl m (List.mem_cons_of_mem _ hm)), List.length_cons]
    omega
/-- A file's bytes. -/
def fileD (data : List Nat) (ws : Puts) (f : FileV) : List Nat := (secsD data ws (secs f.pcs)).take f.size.toNat
theorem file_room {count : Int} {data : List Nat} {ws : Puts} (h : Okay count data ws) {f : FileV} (hf : FileOk f) (hg : Rm.Good count f.pcs) : f.size.toNat ≤ (secsD data ws (secs f.pcs)).length ∧ (fileD data ws f).length = f.size.toNat ∧ ((secs f.pcs).length : Int) = needsN f.size ∧ ∀ n ∈ secs f.pcs, 0 ≤ n ∧ n < count := by
  have h1 : ∀ n ∈ secs f.pcs, 0 ≤ n ∧ n < count := by
    intro n hn
    obtain ⟨p, hp, a, b⟩ := cov_iff.1 (mem_secs.1 hn)
    have := hg.wn p hp
    unfold Wn at this
    omega
  have h2 : ((secs f.pcs).length : Int) = needsN f.size := by
    rw [secs_len_sum (fun p hp => by have := hg.wn p hp; unfold Wn at this; omega)]
    exact hf.2.2.2.2
  have h3 := secsD_len h h1
  have h4 := hf.2.1
  have h5 : f.size.toNat ≤ (secsD data ws (secs f.pcs)).length := by
    rw [h3]
    unfold needsN at h2
    omega
  refine ⟨h5, ?_, h2, h1⟩
  unfold fileD
  rw [List.length_take]
  omega
/-- The place of a name among files. -/
def findN (l : List FileV) (name : ByteArray) : Option Nat := l.findIdx? fun f => f.name == name
theorem may_good {x : DirV} {count : Int} (h : errK count (allPcs x.files) = 0) {f : FileV} (hf : f ∈ x.files) : Rm.Good count f.pcs := by
  obtain ⟨_, _, hg⟩ := errK_zero h
  obtain ⟨a, b, e⟩ := List.append_of_mem hf
  have e2 : allPcs x.files = allPcs a ++ (f.pcs ++ allPcs b) := by rw [e]; simp [allPcs]
  rw [e2] at hg
  exact hg.right.left

/-! ### a slot that is written anew -/
/-- Sectors written into a slot: those of 'ks' are new. -/
theorem flat_mix {f g : Nat → List Nat} {k : Nat} (hl : ∀ i, i < k → (f i).length = 128 ∧ (g i).length = 128) {p : Nat → Bool} {i : Nat} (hi : i < k) :
    secAt ((List.range k).flatMap fun i => if p i = true then f i else g i) i = if p i = true then f i else g i := by
  unfold secAt
  refine flat_at (c := 128) (f := fun i => if p i = true then f i else g i) (fun j hj => ?_) hi
  have := hl j hj
  split <;> simp [this]
/-- Sectors of two Gens are no directory. -/
theorem mix_none {lt : ByteArray → ByteArray → Prop} {xs : List Nat} {i j : Nat} (hi : i < 8) (hj : j < 8) (h : beg8 (secAt xs i) ≠ beg8 (secAt xs j)) : ∀ x, ¬ IsDir lt x xs := by
  rintro x ⟨hm, hl, rfl⟩
  apply h
  have hp : (padN (insideN x.files)).length = 952 := by unfold padN; simp; omega
  have hs : ∀ k, k < 8 → secAt (bytesN x) k = sectN x.gen.toNat (padN (insideN x.files)) k := fun k hk => by
    unfold secAt bytesN sectsN
    refine flat_at (c := 128) (fun m hm' => ?_) hk
    unfold sectN
    simp [putN_len, hp]
    omega
  have hg : x.gen.toNat < 18446744073709551616 := by have := hm.hi; omega
  rw [hs i hi, hs j hj]
  unfold sectN
  rw [List.append_assoc, List.append_assoc, beg8_put _ hg, beg8_put _ hg]
end Go.Proofs.YtiakfdhbbkpfhaaGreatDoor
namespace Go.Proofs.YtiakfdhbbkpfhaaGreatDoor
open Go.RowKit Go.WideShapes Rm

set_option maxHeartbeats 1000000 in
theorem fnow_any (v : Value) (n : Nat) (count : Int) (data : List Nat) (ws : Puts) (w : World) (hd : DiskIn w v count data ws) (ho : Okay count data ws) (hn : (n : Int) < count) :
    Calls Tryz.prog 102 #[v, .int .i64 (n : Int)] w fun e w' => (∃ g, e = .returned (.slice (some ⟨g, 0, none⟩) 128 128) ∧ BIn w' (some ⟨g, 0, none⟩) (nowN data ws n) ∧ (nowN data ws n).length = 128 ∧ ∀ c ∈ nowN data ws n, c < 256) ∧ Below w.heap.size w w' := by
  obtain ⟨p, c, q, m, rfl, _⟩ := hd.parts
  have HR := fun wx (hb : Below w.heap.size w wx) => read_okD _ n count data ws wx (hd.below hb) ho hn
  clear hd ho hn
  go_enter Tryz.func102, Tryz.ntmps102
  go_wp2_with fail
  refine (HR _ (below_alloc w _)).mono ?_
  rintro e w2 ⟨⟨v2, rfl, g, rfl, hg1, hg2, hg3, hg4⟩, hb2⟩
  have HI : Hid (BIn w2 (some ⟨g, 0, none⟩) (nowN data ws n)) := bin_row hg2 hg4
  have HN : Hid ((nowN data ws n).length = 128 ∧ ∀ c ∈ nowN data ws n, c < 256) := ⟨hg3, hg4⟩
  have HB : Hid (Below w.heap.size w w2) := below_bt (below_alloc w _) hb2
  clear hg1 hg2 hg3 hg4 hb2 HR
  go_wp2
  go_ret
  exact ⟨⟨g, rfl, HI.out, HN.out⟩, HB.out⟩
end Go.Proofs.YtiakfdhbbkpfhaaGreatDoor
