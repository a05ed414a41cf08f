/-
  The files of a disk behind changes, as map2 lists them, beside the words of turns; no program.
-/
import Derived.Test.YtiakfdhbbkpfhaaGreatDoorJ30
import Derived.Test.YtiakfdhbbkpfhaaGreatDoorJ28
namespace Go.Proofs.YtiakfdhbbkpfhaaGreatDoor
open Go.RowKit Go.WideShapes Rm

/-- The files of a disk, as changes that put them. -/
def startC (data : List Nat) (ws : Puts) (r : Option (DirV × Int)) (n : Int) : List CV := (namesN r).map fun f => ⟨f.name, strOf (getN data ws r n f.name).2, false⟩
theorem startC_next {data : List Nat} {ws : Puts} {r : Option (DirV × Int)} {n : Int} {k : Nat} (h : k < (namesN r).length) : (startC data ws r n).take (k + 1) = (startC data ws r n).take k ++ [⟨((namesN r).getD k zeroF).name, strOf (getN data ws r n ((namesN r).getD k zeroF).name).2, false⟩] := by
  have hl : k < (startC data ws r n).length := by unfold startC; rw [List.length_map]; exact h
  rw [take_snoc (d := zeroCV) hl]
  congr 2
  unfold startC
  rw [getD_eq (by rw [List.length_map]; exact h), getD_eq h, List.getElem_map]
theorem names_le {count : Int} {data : List Nat} {ws : Puts} {r : Option (DirV × Int)} {n : Int} (hm : MountIs count data ws r n) : (namesN r).length ≤ 32 ∧ ∀ f ∈ namesN r, f.name.size ≤ 32 := by
  rcases r with _ | ⟨x, s⟩
  · exact ⟨by simp [namesN], by simp [namesN]⟩
  · have h := (mountIs_some hm).1.told
    exact ⟨h.many, h.name⟩
/-- A change put among others: those below, it, those above. -/
def belowC (k : ByteArray) (l : List CV) : List CV := l.filter fun a => ltB a.key k
def aboveC (k : ByteArray) (l : List CV) : List CV := l.filter fun a => ltB k a.key
def oneNew (c : CV) : List CV := if c.gone = true then [] else [⟨c.key, c.val, false⟩]
def putC (c : CV) (l : List CV) : List CV := belowC c.key l ++ oneNew c ++ aboveC c.key l
def map2L (l s : List CV) : List CV := l.foldl (fun s c => putC c s) s
theorem map2L_snoc {l s : List CV} {k : Nat} (h : k < l.length) : map2L (l.take (k + 1)) s = putC (l.getD k zeroCV) (map2L (l.take k) s) := by
  rw [take_snoc (d := zeroCV) h]
  unfold map2L
  rw [List.foldl_append]
  rfl
theorem belowC_yes {key : ByteArray} {l : List CV} {k : Nat} (h : k < l.length) (hg : ltB (l.getD k zeroCV).key key = true) : belowC key (l.take (k + 1)) = belowC key (l.take k) ++ [l.getD k zeroCV] := by
  rw [take_snoc (d := zeroCV) h]
  unfold belowC
  rw [List.filter_append]
  congr 1
  simp only [List.filter_cons, hg, List.filter_nil]
  rfl
theorem belowC_no {key : ByteArray} {l : List CV} {k : Nat} (h : k < l.length) (hg : ltB (l.getD k zeroCV).key key = false) : belowC key (l.take (k + 1)) = belowC key (l.take k) := by
  rw [take_snoc (d := zeroCV) h]
  unfold belowC
  rw [List.filter_append]
  simp only [List.filter_cons, hg, List.filter_nil]
  simp
theorem aboveC_yes {key : ByteArray} {l : List CV} {k : Nat} (h : k < l.length) (hg : ltB key (l.getD k zeroCV).key = true) : aboveC key (l.take (k + 1)) = aboveC key (l.take k) ++ [l.getD k zeroCV] := by
  rw [take_snoc (d := zeroCV) h]
  unfold aboveC
  rw [List.filter_append]
  congr 1
  simp only [List.filter_cons, hg, List.filter_nil]
  rfl
theorem aboveC_no {key : ByteArray} {l : List CV} {k : Nat} (h : k < l.length) (hg : ltB key (l.getD k zeroCV).key = false) : aboveC key (l.take (k + 1)) = aboveC key (l.take k) := by
  rw [take_snoc (d := zeroCV) h]
  unfold aboveC
  rw [List.filter_append]
  simp only [List.filter_cons, hg, List.filter_nil]
  simp
theorem putC_len (c : CV) (l : List CV) : (putC c l).length ≤ l.length + 1 := by
  have h : (belowC c.key l).length + (aboveC c.key l).length ≤ l.length := by
    unfold belowC aboveC
    induction l with
    | nil => simp
    | cons a l ih =>
      simp only [List.filter_cons, List.length_cons]
      by_cases h1 : ltB a.key c.key = true
      · have h2 : ltB c.key a.key = false := by
          cases h3 : ltB c.key a.key with
          | false => rfl
          | true => have := ltB_tr _ _ _ h1 h3; rw [ltB_irr] at this; cases this
        rw [if_pos h1, if_neg (by rw [h2]; decide), List.length_cons]
        omega
      · rw [if_neg h1]
        split
        · rw [List.length_cons]; omega
        · omega
  have h2 : (oneNew c).length ≤ 1 := by unfold oneNew; split <;> simp
  unfold putC
  rw [List.length_append, List.length_append]
  omega
theorem map2L_len : ∀ (l s : List CV), (map2L l s).length ≤ s.length + l.length
  | [], s => by simp [map2L]
  | c :: l, s => by
    have h := map2L_len l (putC c s)
    have h2 := putC_len c s
    have e : map2L (c :: l) s = map2L l (putC c s) := rfl
    rw [e, List.length_cons]
    omega
theorem putC_mem {c a : CV} {l : List CV} (h : a ∈ putC c l) : a ∈ l ∨ a.key = c.key := by
  unfold putC belowC aboveC oneNew at h
  rcases List.mem_append.1 h with h | h
  · rcases List.mem_append.1 h with h | h
    · exact .inl (List.mem_filter.1 h).1
    · split at h
      · cases h
      · rw [List.mem_singleton.1 h]; exact .inr rfl
  · exact .inl (List.mem_filter.1 h).1
theorem map2L_mem {a : CV} : ∀ {l s : List CV}, a ∈ map2L l s → a ∈ s ∨ ∃ c ∈ l, a.key = c.key
  | [], s, h => .inl h
  | c :: l, s, h => by
    rcases map2L_mem (l := l) (s := putC c s) h with h | ⟨d, hd, h⟩
    · rcases putC_mem h with h | h
      · exact .inl h
      · exact .inr ⟨c, by simp, h⟩
    · exact .inr ⟨d, List.mem_cons_of_mem _ hd, h⟩
theorem map2L_keys {count : Int} {data : List Nat} {ws : Puts} {r : Option (DirV × Int)} {n : Int} (hm : MountIs count data ws r n) {l : List CV} {B : Int} (hB : 32 ≤ B) (hk : ∀ c ∈ l, (c.key.size : Int) ≤ B) : ∀ a ∈ map2L l (startC data ws r n), (a.key.size : Int) ≤ B := by
  intro a ha
  rcases map2L_mem ha with h | ⟨c, hc, h⟩
  · unfold startC at h
    obtain ⟨f, hf, rfl⟩ := List.mem_map.1 h
    have := (names_le hm).2 f hf
    show (f.name.size : Int) ≤ B
    omega
  · rw [h]; exact hk c hc
/-- A change as a name and bytes. -/
def toP (c : CV) : ByteArray × List Nat := (c.key, numsOf c.val)
theorem putC_toP (c : CV) (l : List CV) : (putC c l).map toP = putIn Prod.fst ltB c.key (if c.gone = true then none else some (c.key, numsOf c.val)) (l.map toP) := by
  unfold putC putIn belowC aboveC oneNew
  rw [List.map_append, List.map_append, List.filter_map, List.filter_map]
  congr 2
  cases c.gone <;> rfl
theorem map2L_want : ∀ (l s : List CV), (map2L l s).map toP = wantN ltB (s.map toP) (l.map toV)
  | [], s => rfl
  | c :: l, s => by
    have h := map2L_want l (putC c s)
    have e : map2L (c :: l) s = map2L l (putC c s) := rfl
    rw [e, h, putC_toP]
    rfl
theorem find_own {x : DirV} (hx : May ltS x) {k : Nat} (hk : k < x.files.length) : findN x.files (x.files.getD k zeroF).name = some k := by
  have hp := rises_pair ltB_tr (l := x.files) hx.rise
  refine (findI_hit hk rfl fun j hj e => ?_).1
  have h := List.pairwise_iff_getElem.1 hp j k (by omega) hk hj
  rw [getD_eq hk, getD_eq (by omega : j < x.files.length)] at e
  rw [e, ltB_irr] at h
  cases h
theorem getN_own {data : List Nat} {ws : Puts} {x : DirV} {at_ n : Int} (hx : May ltS x) {k : Nat} (hk : k < x.files.length) : getN data ws (some (x, at_)) n (x.files.getD k zeroF).name = (0, fileD data ws (x.files.getD k zeroF)) := by
  have hn : isNameN (x.files.getD k zeroF).name = true := (hx.each _ (by rw [getD_eq hk]; exact List.getElem_mem hk)).1
  unfold getN
  simp only [hn, if_true, find_own hx hk]
theorem startC_files {w : World} {v : Value} {count : Int} {data : List Nat} {ws : Puts} (hd : DiskIn w v count data ws) {x : DirV} {at_ n : Int} (hx : May ltS x) : (startC data ws (some (x, at_)) n).map toP = filesD data ws x := by
  unfold startC filesD
  rw [List.map_map]
  refine List.map_congr_left fun f hf => ?_
  obtain ⟨k, hk, rfl⟩ := List.getElem_of_mem (show f ∈ x.files from hf)
  have h := getN_own (data := data) (ws := ws) (at_ := at_) (n := n) hx hk
  rw [getD_eq hk] at h
  have hb := getN_byte hd (some (x, at_)) n x.files[k].name
  show (x.files[k].name, numsOf (strOf (getN data ws (some (x, at_)) n x.files[k].name).2)) = _
  rw [nums_strOf hb, h]
/-- A disk has just the files of a list. -/
def HasAll (data : List Nat) (ws : Puts) (r : Option (DirV × Int)) (n : Int) (M : List CV) : Prop :=
  n = 0 ∧ (namesN r).length = M.length ∧ ∀ k, k < M.length → ((namesN r).getD k zeroF).name = (M.getD k zeroCV).key ∧ getN data ws r n (M.getD k zeroCV).key = (0, numsOf (M.getD k zeroCV).val)
theorem hasAll_of {count : Int} {data : List Nat} {ws : Puts} {x : DirV} {at_ n : Int} {M : List CV} (hm : MountIs count data ws (some (x, at_)) n) (h : filesD data ws x = M.map toP) : HasAll data ws (some (x, at_)) n M := by
  have hx := (mountIs_some hm).1
  have hl : x.files.length = M.length := by have := congrArg List.length h; unfold filesD at this; simpa using this
  refine ⟨(mountIs_some hm).2.2.1, hl, fun k hk => ?_⟩
  have hk2 : k < x.files.length := by omega
  have h1 : (filesD data ws x)[k]? = (M.map toP)[k]? := by rw [h]
  unfold filesD at h1
  rw [List.getElem?_map, List.getElem?_map, List.getElem?_eq_getElem hk, List.getElem?_eq_getElem hk2] at h1
  simp only [Option.map_some, Option.some.injEq, toP, Prod.mk.injEq] at h1
  have h2 := getN_own (data := data) (ws := ws) (at_ := at_) (n := n) hx hk2
  rw [getD_eq hk2] at h2
  rw [getD_eq hk]
  refine ⟨?_, ?_⟩
  · show (x.files.getD k zeroF).name = _
    rw [getD_eq hk2]; exact h1.1
  · rw [← h1.1, h2, h1.2]
theorem nums_inj {a b : ByteArray} (h : numsOf a = numsOf b) : a = b := by rw [← strOf_nums a, ← strOf_nums b, h]
/-- Behind changes a disk has what map2 lists. -/
theorem hasAll_want {w : World} {v : Value} {count : Int} {data D : List Nat} {ws W : Puts} {x y : DirV} {at_ s n m : Int} {l : List CV} (hd : DiskIn w v count data ws) (hm : MountIs count data ws (some (x, at_)) n) (hy : MountIs count D W (some (y, s)) m) (h : filesD D W y = wantN ltB (filesD data ws x) (l.map toV)) : HasAll D W (some (y, s)) m (map2L l (startC data ws (some (x, at_)) n)) :=
  hasAll_of hy (by rw [h, map2L_want, startC_files hd (mountIs_some hm).1])
end Go.Proofs.YtiakfdhbbkpfhaaGreatDoor
