/-
  Chains of records: numbers and texts alone, no program.
-/
import Derived.Test.YtoagaddciapmkaaDoorRows
import Derived.Test.YtoagaddciapmkaaDoorChecked
import Derived.Test.YtoagaddciapmkaaDoorJ05
import Derived.ChangeSame
import Derived.ChangeVars
import Derived.JoinedOf
import Derived.RowKit
import Derived.RowKitTokens
import Derived.LaidSub
import Derived.LaidLaws
import Derived.LaidHandle
import Derived.Lib.LaidTab
import Derived.Stop.Joined
import Derived.Test.YtoagaddciapmkaaDoorJ01
import Derived.Test.YtoagaddciapmkaaDoorJ02
import Derived.WalkLawsBesides
import Derived.WalkSpells
namespace Go.Proofs.YtoagaddciapmkaaDoor
open Go.RowKit

noncomputable def tabCells : DataW Unit → Array Value
  | .agg l => (l.map fun | .lit (.int k z) => .int k z | _ => .nilIface).toArray
  | _ => #[]
noncomputable def layCells (cs : Array Value) : Obj → Obj
  | .cells _ t frozen => .cells cs t frozen
  | o => o
noncomputable def gIx (s : String) : Nat := (Tryd.prog.globalNamed s).getD 0
noncomputable def laidWorld (os : Os) : World :=
  let w0 := World.holding Tryd.prog os ⟨#[], #[], []⟩
  { w0 with heap := w0.heap.modify (gIx "docket/hash.constants") (layCells (tabCells Rows.laid_docket_hash_constants)) }
def laidLs : List (String × DataW Unit) := [("docket/hash.constants", Rows.laid_docket_hash_constants)]
theorem laidWorld_met (os : Os) (args : Array Value) : laidMetH Tryd.prog laidLs ((laidWorld os).forCall (fun _ _ => 0) ⟨#[], args, []⟩).memory :=
  laidMetH_of_parts (laidMet_of_run' 8 (by kernel_rfl) (by kernel_rfl)) (by kernel_rfl)
def conL : List Int := stepsK.map fun n : Nat => (n : Int)
theorem g_con : Tryd.prog.globalNamed "docket/hash.constants" = some 0 := by kernel_rfl
theorem tab_of {W : World} (h : laidMet Tryd.prog [("docket/hash.constants", Rows.laid_docket_hash_constants)] W) : Lib.TabIs Tryd.prog W "docket/hash.constants" .u32 conL :=
  Lib.tabIs_of_head (rest := []) g_con (t := 116) (e := 88) (n := 64) (by kernel_rfl) Tryd.underlying116 Tryd.underlying88 (by kernel_rfl) (by kernel_rfl) h
theorem laid_of {W : World} (h : laidMetH Tryd.prog laidLs W) : KOn W := by
  obtain ⟨h1, _⟩ := laidMetH_iff.1 h
  have h3 := tab_of h1
  intro j hj
  refine (World.var?_cell g_con h3 j).trans ?_
  have hl : j < stepsK.length := hj
  rw [List.getElem?_toArray, List.getElem?_map]
  unfold conL
  rw [List.getElem?_map, List.getElem?_eq_getElem hl, List.getD_eq_getElem?_getD, List.getElem?_eq_getElem hl]
  rfl
end Go.Proofs.YtoagaddciapmkaaDoor
namespace Go.Proofs.YtoagaddciapmkaaDoor
open Go.RowKit Go.WideShapes

def numsOf (s : ByteArray) : List Nat := s.data.toList.map UInt8.toNat
theorem numsOf_len (s : ByteArray) : (numsOf s).length = s.size := by rw [numsOf, List.length_map, Array.length_toList]; rfl
theorem numsOf_lt (s : ByteArray) : ∀ c ∈ numsOf s, c < 256 := by
  intro c hc
  simp only [numsOf, List.mem_map] at hc
  obtain ⟨b, _, rfl⟩ := hc
  exact b.toNat_lt
theorem strOf_nums (s : ByteArray) : strOf (numsOf s) = s := by
  apply bytes_inj
  rw [strOf_list, numsOf, List.map_map]
  conv => rhs; rw [← List.map_id s.data.toList]
  congr 1
  funext b
  simp
theorem nums_strOf {xs : List Nat} (h : ∀ c ∈ xs, c < 256) : numsOf (strOf xs) = xs := by
  unfold numsOf
  rw [strOf_list, List.map_map]
  conv => rhs; rw [← List.map_id xs]
  apply List.map_congr_left
  intro c hc
  simp [Nat.mod_eq_of_lt (h c hc)]
end Go.Proofs.YtoagaddciapmkaaDoor
namespace Go.Proofs.YtoagaddciapmkaaDoor

structure RecV where
  seq : Int
  tim : Int
  user : ByteArray
  deed : ByteArray
  out : Int
  hash : ByteArray
def zeroR : RecV := ⟨0, 0, ⟨#[]⟩, ⟨#[]⟩, 0, ⟨#[]⟩⟩
def txN (s : ByteArray) : List Nat := smallN s.size ++ numsOf s
/-- The bytes of a record behind a digest. -/
def recN (s t o : Int) (u d b : ByteArray) : List Nat := txN b ++ (putN s.toNat ++ (putN t.toNat ++ (putN o.toNat ++ (txN u ++ txN d))))
def hexD (l : List Nat) : ByteArray := strOf (hexN (digN l))
def nought : ByteArray := strOf (List.replicate 64 48)
def digB (s : ByteArray) : Bool := decide (s.size = 64) && (unhexN (numsOf s)).isSome
def fldE (t : Int) (u d : ByteArray) (o : Int) : Nat := if t < 0 ∨ 1099511627776 < t then 2 else if 32 < u.size ∨ 16384 < d.size then 3 else if o < 100 ∨ 599 < o then 2 else 0
def mayB (r : RecV) : Bool := decide (0 ≤ r.seq) && digB r.hash && decide (fldE r.tim r.user r.deed r.out = 0)
def refE (l : List RecV) : Nat := if 4096 < l.length then 4 else if l.all mayB then 0 else 8
def firstR : RecV := ⟨-1, 0, ⟨#[]⟩, ⟨#[]⟩, 0, nought⟩
def prevR (l : List RecV) (j : Nat) : RecV := if j = 0 then firstR else l.getD (j - 1) zeroR
def folR (a : RecV) (t : Int) (u d : ByteArray) (o : Int) : RecV := ⟨a.seq + 1, t, u, d, o, hexD (recN (a.seq + 1) t o u d a.hash)⟩
def FitP (r a : RecV) : Prop := a.tim ≤ r.tim ∧ r = folR a r.tim r.user r.deed r.out
def FitAt (l : List RecV) (j : Nat) : Prop := FitP (l.getD j zeroR) (prevR l j)
/-- The number of the first one that does not fit; -1: all do. -/
inductive MisP (l : List RecV) : Int → Prop
  | all (h : ∀ j, j < l.length → FitAt l j) : MisP l (-1)
  | one (k : Nat) (hk : k < l.length) (h : ∀ j, j < k → FitAt l j) (hn : ¬ FitAt l k) : MisP l k
theorem MisP.eq {l : List RecV} {a b : Int} (ha : MisP l a) (hb : MisP l b) : a = b := by
  cases ha with
  | all h =>
    cases hb with
    | all => rfl
    | one k hk _ hn => exact absurd (h k hk) hn
  | one k hk h hn =>
    cases hb with
    | all h2 => exact absurd (h2 k hk) hn
    | one k2 hk2 h2 hn2 =>
      rcases Nat.lt_trichotomy k k2 with hl | rfl | hl
      · exact absurd (h2 k hl) hn
      · rfl
      · exact absurd (h k2 hl) hn2
theorem mis_ex (l : List RecV) : ∃ n, MisP l n := by
  have aux : ∀ m, m ≤ l.length → (∀ j, j < m → FitAt l j) ∨ ∃ k, k < m ∧ (∀ j, j < k → FitAt l j) ∧ ¬ FitAt l k := by
    intro m
    induction m with
    | zero => intro _; exact .inl (fun j hj => absurd hj (by omega))
    | succ m ih =>
      intro hm
      rcases ih (by omega) with h | ⟨k, h1, h2, h3⟩
      · rcases Classical.em (FitAt l m) with hf | hf
        · refine .inl (fun j hj => ?_)
          rcases Nat.lt_or_ge j m with hl | hl
          · exact h j hl
          · obtain rfl : j = m := by omega
            exact hf
        · exact .inr ⟨m, by omega, h, hf⟩
      · exact .inr ⟨k, by omega, h2, h3⟩
  rcases aux l.length (Nat.le_refl _) with h | ⟨k, h1, h2, h3⟩
  · exact ⟨-1, .all h⟩
  · exact ⟨k, .one k h1 h2 h3⟩
theorem mis_ge {l : List RecV} {n : Int} (h : MisP l n) : -1 ≤ n ∧ n < l.length := by
  cases h with
  | all => omega
  | one k hk => omega
def nextE (l : List RecV) (t : Int) (u d : ByteArray) (o n : Int) : Nat :=
  if refE l ≠ 0 then refE l else if fldE t u d o ≠ 0 then fldE t u d o else if l.length = 4096 then 4 else if t < (prevR l l.length).tim ∨ 0 ≤ n then 150 else 0
theorem hexD_nums (l : List Nat) : numsOf (hexD l) = hexN (digN l) := nums_strOf (hexN_byte (digN_byte l))
theorem hexD_size (l : List Nat) : (hexD l).size = 64 := by unfold hexD; rw [strOf_size, hexN_len, digN_len]
theorem hexD_dig (l : List Nat) : digB (hexD l) = true := by
  unfold digB
  rw [hexD_size, hexD_nums, unhex_hex (digN_byte l)]
  rfl
theorem nought_size : nought.size = 64 := by unfold nought; rw [strOf_size, List.length_replicate]
theorem nought_lit : (⟨#[48, 48, 48, 48, 48, 48, 48, 48, 48, 48, 48, 48, 48, 48, 48, 48, 48, 48, 48, 48, 48, 48, 48, 48, 48, 48, 48, 48, 48, 48, 48, 48, 48, 48, 48, 48, 48, 48, 48, 48, 48, 48, 48, 48, 48, 48, 48, 48, 48, 48, 48, 48, 48, 48, 48, 48, 48, 48, 48, 48, 48, 48, 48, 48]⟩ : ByteArray) = nought := by rfl
theorem nought_dig : digB nought = true := by
  unfold digB
  rw [nought_size]
  have : numsOf nought = hexN (List.replicate 32 0) := by unfold nought; rw [nums_strOf (by intro c hc; rw [List.mem_replicate] at hc; omega)]; rfl
  rw [this, unhex_hex (by intro c hc; rw [List.mem_replicate] at hc; omega)]
  rfl
theorem dig_size {s : ByteArray} (h : digB s = true) : s.size = 64 := by
  unfold digB at h
  rw [Bool.and_eq_true, decide_eq_true_eq] at h
  exact h.1
/-- What a record that may be has. -/
structure MayR (r : RecV) : Prop where
  seq : 0 ≤ r.seq
  dig : digB r.hash = true
  t0 : 0 ≤ r.tim
  t1 : r.tim ≤ 1099511627776
  us : r.user.size ≤ 32
  de : r.deed.size ≤ 16384
  o0 : 100 ≤ r.out
  o1 : r.out ≤ 599
theorem fld_ok {t : Int} {u d : ByteArray} {o : Int} : fldE t u d o = 0 ↔ 0 ≤ t ∧ t ≤ 1099511627776 ∧ u.size ≤ 32 ∧ d.size ≤ 16384 ∧ 100 ≤ o ∧ o ≤ 599 := by
  unfold fldE
  constructor
  · intro h
    split at h
    · simp at h
    · split at h
      · simp at h
      · split at h
        · simp at h
        · omega
  · rintro ⟨h1, h2, h3, h4, h5, h6⟩
    rw [if_neg (by omega), if_neg (by omega), if_neg (by omega)]
theorem may_iff {r : RecV} : mayB r = true ↔ MayR r := by
  unfold mayB
  rw [Bool.and_eq_true, Bool.and_eq_true, decide_eq_true_eq, decide_eq_true_eq, fld_ok]
  constructor
  · rintro ⟨⟨h1, h2⟩, h3, h4, h5, h6, h7, h8⟩
    exact ⟨h1, h2, h3, h4, h5, h6, h7, h8⟩
  · rintro ⟨h1, h2, h3, h4, h5, h6, h7, h8⟩
    exact ⟨⟨h1, h2⟩, h3, h4, h5, h6, h7, h8⟩
theorem getR_mem {l : List RecV} {k : Nat} (hk : k < l.length) : l.getD k zeroR ∈ l := by
  rw [List.getD_eq_getElem?_getD, List.getElem?_eq_getElem hk]; exact List.getElem_mem _
theorem ref_ok {l : List RecV} (h : refE l = 0) : l.length ≤ 4096 ∧ ∀ r ∈ l, MayR r := by
  unfold refE at h
  split at h
  · simp at h
  · split at h
    · rename_i h1 h2
      rw [List.all_eq_true] at h2
      exact ⟨by omega, fun r hr => may_iff.1 (h2 r hr)⟩
    · simp at h
theorem ref_of {l : List RecV} (h1 : l.length ≤ 4096) (h2 : ∀ r ∈ l, MayR r) : refE l = 0 := by
  unfold refE
  rw [if_neg (by omega), if_pos (List.all_eq_true.2 fun r hr => may_iff.2 (h2 r hr))]
theorem ref_bad {l : List RecV} {k : Nat} (h1 : l.length ≤ 4096) (hk : k < l.length) (h2 : mayB (l.getD k zeroR) = false) : refE l = 8 := by
  unfold refE
  rw [if_neg (by omega), if_neg]
  intro h
  rw [List.all_eq_true] at h
  rw [h _ (getR_mem hk)] at h2
  cases h2
theorem ref_many {l : List RecV} (h1 : 4096 < l.length) : refE l = 4 := by
  unfold refE
  rw [if_pos h1]
/-- What stands ahead of a place: a number from -1 on, a moment from 0 on, a digest. -/
structure AhdR (r : RecV) : Prop where
  seq : -1 ≤ r.seq
  dig : digB r.hash = true
  t0 : 0 ≤ r.tim
theorem first_ahd : AhdR firstR := ⟨by decide, nought_dig, by decide⟩
theorem MayR.ahd {r : RecV} (h : MayR r) : AhdR r := ⟨by have := h.seq; omega, h.dig, h.t0⟩
theorem prev_ahd {l : List RecV} (h : ∀ r ∈ l, MayR r) {j : Nat} (hj : j ≤ l.length) : AhdR (prevR l j) := by
  unfold prevR
  split
  · exact first_ahd
  · exact (h _ (getR_mem (by omega))).ahd
theorem fol_may {a : RecV} {t : Int} {u d : ByteArray} {o : Int} (ha : AhdR a) (h : fldE t u d o = 0) : MayR (folR a t u d o) := by
  obtain ⟨h1, h2, h3, h4, h5, h6⟩ := fld_ok.1 h
  exact ⟨by have := ha.seq; show 0 ≤ a.seq + 1; omega, hexD_dig _, h1, h2, h3, h4, h5, h6⟩
theorem prev_take {l m : List RecV} {j : Nat} (h : ∀ i, i < j → l.getD i zeroR = m.getD i zeroR) : prevR l j = prevR m j := by
  unfold prevR
  split
  · rfl
  · exact h _ (by omega)
theorem fitAt_same {l m : List RecV} {j : Nat} (h : ∀ i, i ≤ j → l.getD i zeroR = m.getD i zeroR) : FitAt l j ↔ FitAt m j := by
  unfold FitAt
  rw [prev_take (fun i hi => h i (by omega)), h j (Nat.le_refl _)]
/-- A chain that is well has the numbers from 0 on. -/
theorem fit_seq {l : List RecV} : ∀ j, (∀ i, i < j → FitAt l i) → (prevR l j).seq = (j : Int) - 1
  | 0, _ => rfl
  | j + 1, h => by
    have ih := fit_seq j (fun i hi => h i (by omega))
    have hf := (h j (by omega)).2
    have : (l.getD j zeroR).seq = (prevR l j).seq + 1 := congrArg RecV.seq hf
    show (if j + 1 = 0 then firstR else l.getD (j + 1 - 1) zeroR).seq = _
    rw [if_neg (by omega), show j + 1 - 1 = j by omega, this, ih]
    push_cast
    omega
theorem getD_app (l m : List RecV) {i : Nat} (h : i < l.length) : (l ++ m).getD i zeroR = l.getD i zeroR := by
  simp [List.getD, List.getElem?_append_left h]
/-- One more. -/
theorem mis_more {l : List RecV} (h : MisP l (-1)) {t : Int} {u d : ByteArray} {o : Int} (ht : (prevR l l.length).tim ≤ t) : MisP (l ++ [folR (prevR l l.length) t u d o]) (-1) := by
  have ha : ∀ j, j < l.length → FitAt l j := by
    generalize hn : (-1 : Int) = n at h
    cases h with
    | all h => exact h
    | one k => omega
  refine .all fun j hj => ?_
  rw [List.length_append, List.length_singleton] at hj
  rcases Nat.lt_or_ge j l.length with hl | hl
  · refine (fitAt_same fun i hi => ?_).1 (ha j hl)
    rw [getD_app _ _ (by omega)]
  · obtain rfl : j = l.length := by omega
    have e1 : (l ++ [folR (prevR l l.length) t u d o]).getD l.length zeroR = folR (prevR l l.length) t u d o := by
      simp [List.getD]
    have e2 : prevR (l ++ [folR (prevR l l.length) t u d o]) l.length = prevR l l.length := (prev_take fun i hi => by rw [getD_app _ _ (by omega)]).symm
    unfold FitAt
    rw [e1, e2]
    exact ⟨ht, rfl⟩
theorem mis_all {l : List RecV} (h : MisP l (-1)) : ∀ j, j < l.length → FitAt l j := by
  generalize hn : (-1 : Int) = n at h
  cases h with
  | all h => exact h
  | one k => omega
/-- One turned. -/
theorem mis_turned {l : List RecV} {i : Nat} (h : MisP l (-1)) (hi : i < l.length) {r : RecV} (hs : r.seq = (i : Int)) (hh : r.hash = (l.getD i zeroR).hash)
    (hd : hexD (recN r.seq r.tim r.out r.user r.deed (prevR l i).hash) ≠ hexD (recN (l.getD i zeroR).seq (l.getD i zeroR).tim (l.getD i zeroR).out (l.getD i zeroR).user (l.getD i zeroR).deed (prevR l i).hash)) : MisP (l.set i r) i := by
  have ha := mis_all h
  have hg : ∀ j, j < i → (l.set i r).getD j zeroR = l.getD j zeroR := fun j hj => by
    simp [List.getD, show ¬ i = j by omega]
  refine .one i (by rw [List.length_set]; exact hi) (fun j hj => (fitAt_same fun k hk => hg k (by omega)).2 (ha j (by omega))) ?_
  unfold FitAt
  rw [prev_take hg]
  have e : (l.set i r).getD i zeroR = r := by simp [List.getD, hi]
  rw [e]
  intro hf
  have h1 := congrArg RecV.hash hf.2
  have h2 := congrArg RecV.hash (ha i hi).2
  have h3 := congrArg RecV.seq hf.2
  have h4 := congrArg RecV.seq (ha i hi).2
  simp only [folR] at h1 h2 h3 h4
  rw [← h3] at h1
  rw [← h4] at h2
  exact hd (by rw [← h1, ← h2, hh])
/-- One left out. -/
theorem mis_less {l : List RecV} {i : Nat} (h : MisP l (-1)) (hi : i + 1 < l.length) : MisP (l.take i ++ l.drop (i + 1)) i := by
  have ha := mis_all h
  have hg : ∀ j, j < i → (l.take i ++ l.drop (i + 1)).getD j zeroR = l.getD j zeroR := fun j hj => by
    rw [getD_app _ _ (by rw [List.length_take]; omega)]
    simp [List.getD, hj]
  refine .one i (by rw [List.length_append, List.length_take, List.length_drop]; omega) (fun j hj => (fitAt_same fun k hk => hg k (by omega)).2 (ha j (by omega))) ?_
  unfold FitAt
  have e : (l.take i ++ l.drop (i + 1)).getD i zeroR = l.getD (i + 1) zeroR := by
    have hl : (l.take i).length = i := by rw [List.length_take]; omega
    simp [List.getD, List.getElem?_append, hl, List.getElem?_drop]
  rw [e, prev_take hg]
  intro hf
  have h1 : (l.getD (i + 1) zeroR).seq = (prevR l i).seq + 1 := congrArg RecV.seq hf.2
  have h2 := fit_seq (l := l) (i + 1 + 1) (fun k hk => ha k (by omega))
  have h3 := fit_seq (l := l) i (fun k hk => ha k (by omega))
  have h4 : prevR l (i + 1 + 1) = l.getD (i + 1) zeroR := rfl
  rw [h4] at h2
  push_cast at h2
  omega
theorem mis_last {l : List RecV} (h : MisP l (-1)) : ∀ i, MisP (l.take i) (-1) := fun i =>
  .all fun j hj => by
    rw [List.length_take] at hj
    refine (fitAt_same fun k hk => ?_).1 (mis_all h j (by omega))
    simp [List.getD, show k < i by omega]
end Go.Proofs.YtoagaddciapmkaaDoor
