/-
  Rows of texts of one's own; a set's names, sorted; a set's names put behind a row.
-/
import Derived.Test.YtompcdmjbigigaaRSet
import Derived.Test.YtompcdmjbigigaaRShelf
import Derived.RangeFuncNested
import Derived.RangeFuncBound
import Derived.RangeFuncCalls
import Derived.RangeFuncLeaves
import Derived.RangeFuncBox
import Derived.Shelf.Abstract
import Derived.Shelf.RegionOpen
import Derived.OwnWalkIn
import Derived.TacticsInMore
import Derived.LoopNIn
import Derived.LoopIn
import Derived.Maps.AppendAt
namespace Go.Proofs.Ytompcdmjbigigaa
open Go.RowKit Go.WideShapes Go.Joins Go.Maps Go.Sort Go.Shelf

/-- A row of texts of one's own: it lies from a base on. -/
structure OwnS (w : World) (base : Nat) (v : Value) (l : List ByteArray) : Prop where
  row : w.ownsRow base 9 1 v l.length (l.map Value.string)
  fits : ∀ s ∈ l, s.size ≤ maxLen
theorem OwnS.nil (w : World) (base : Nat) : OwnS w base (.slice none 0 0) [] := ⟨World.ownsRow_nil _ _ _ _, by simp⟩
theorem OwnS.kept {w w' : World} {base : Nat} {v : Value} {l : List ByteArray} {row : Option Nat} (h : OwnS w base v l) (hg : w.grownBy w' row) (hr : ∀ j, row = some j → j < base) : OwnS w' base v l := by
  refine ⟨h.row.kept hg ?_, h.fits⟩
  rcases h.row.2 with ⟨rfl, _⟩ | ⟨g, cap, cur, rfl, hb, _⟩
  · exact .inl rfl
  · refine .inr fun e => ?_
    have := hr g (by rw [← e]; rfl)
    omega
theorem OwnS.below {w w' : World} {base : Nat} {v : Value} {l : List ByteArray} (h : OwnS w base v l) (hb : Below w.heap.size w w') : OwnS w' base v l :=
  h.kept (grown_below hb none) (fun _ e => by cases e)
theorem OwnS.more {w : World} {b1 b2 : Nat} {v : Value} {l : List ByteArray} (h : OwnS w b1 v l) (hb : b2 ≤ b1) : OwnS w b2 v l := by
  refine ⟨⟨h.row.1, ?_⟩, h.fits⟩
  rcases h.row.2 with h1 | ⟨g, cap, cur, e, k, r⟩
  · exact .inl h1
  · exact .inr ⟨g, cap, cur, e, by omega, r⟩
theorem own_cell {w : World} {g : Nat} {cur : Array Value} {t : TypeId} {l : List ByteArray} (h : w.heap[g]? = some (.cells cur t (0, 0))) (ht : cur.toList.take (l.length * 1) = l.map Value.string) {i : Nat} (hi : i < l.length) :
    w.cell? ⟨g, 0 + i, none⟩ = some (.string (l.getD i ByteArray.empty)) := by
  have h1 : (cur.toList.take (l.length * 1))[i]? = cur.toList[i]? := by rw [List.getElem?_take, if_pos (by omega)]
  have h2 : cur.toList[i]? = some (.string (l.getD i ByteArray.empty)) := by
    rw [← h1, ht, List.getElem?_map, List.getElem?_eq_getElem hi, List.getD_eq_getElem?_getD, List.getElem?_eq_getElem hi]; rfl
  rw [Array.getElem?_toList] at h2
  rw [Nat.zero_add]
  simp [World.cell?, h, h2]
/-- It can be read as any row of texts. -/
theorem OwnS.read {w : World} {base : Nat} {v : Value} {l : List ByteArray} (h : OwnS w base v l) : ∃ q c, v = .slice q l.length c ∧ StrsIn w q l c ∧ (q = none ∨ ∃ g, q = some ⟨g, 0, none⟩ ∧ base ≤ g ∧ g < w.heap.size ∧ w.frozen? ⟨g, 0, none⟩ = false) := by
  rcases h.row.2 with ⟨rfl, h0⟩ | ⟨g, cap, cur, rfl, hb, hg, h1, h2, h3, h4⟩
  · have : l = [] := List.length_eq_zero_iff.1 h0
    subst this
    exact ⟨none, 0, rfl, StrsIn.nil _, .inl rfl⟩
  · refine ⟨_, _, rfl, ⟨fun _ => ⟨g, 0, rfl, fun i hi => own_cell hg h4 hi⟩, h.fits, h1, h2, fun e => by cases e⟩, .inr ⟨g, rfl, hb, heap_lt hg, by simp [World.frozen?, hg]⟩⟩
/-- Its last one cut off. -/
theorem OwnS.cut {w : World} {base n c : Nat} {q : Option Addr} {l : List ByteArray} {x : ByteArray} (h : OwnS w base (.slice q n c) (l ++ [x])) : OwnS w base (.slice q l.length c) l ∧ n = l.length + 1 ∧ q ≠ none := by
  rcases h.row.2 with ⟨_, h0⟩ | ⟨g, cap, cur, e, hb, hg, h1, h2, h3, h4⟩
  · simp at h0
  · simp only [Value.slice.injEq] at e
    obtain ⟨rfl, rfl, rfl⟩ := e
    simp only [List.length_append, List.length_singleton] at h1 h4 ⊢
    refine ⟨⟨⟨by simp, .inr ⟨g, c, cur, rfl, hb, hg, by omega, h2, h3, ?_⟩⟩, fun s hs => h.fits s (List.mem_append_left _ hs)⟩, trivial, by simp⟩
    have := congrArg (List.take l.length) h4
    rw [List.take_take, List.map_append, List.take_left' (by simp)] at this
    rw [← this]
    congr 1
    omega
def toB (x : List UInt8) : ByteArray := ⟨x.toArray⟩
theorem toB_list (x : List UInt8) : (toB x).data.toList = x := rfl
theorem toB_size (x : List UInt8) : (toB x).size = x.length := rfl
theorem toB_inj {x y : List UInt8} (h : toB x = toB y) : x = y := by rw [← toB_list x, h]; rfl
theorem toB_of (s : ByteArray) : toB s.data.toList = s := rfl
theorem litS_of (x : List UInt8) : (.string x : Lit) = litS (toB x) := rfl
theorem enc_map (ss : List (List UInt8)) : ss.map encStr = (ss.map toB).map Value.string := by
  rw [List.map_map]; rfl
/-- What the names of a set are. -/
theorem keys_mem {l : List ByteArray} {ss : List (List UInt8)} (h : ∀ x, x ∈ ss ↔ has (setS l) (.string x) = true) (s : ByteArray) : s ∈ ss.map toB ↔ s ∈ l := by
  rw [List.mem_map, ← isIn_iff, ← has_setS]
  constructor
  · rintro ⟨x, hx, rfl⟩; exact (h x).1 hx
  · intro hs; exact ⟨s.data.toList, (h _).2 hs, rfl⟩
theorem keys_len {w : World} {b n : Nat} {l : List ByteArray} {ss : List (List UInt8)} (h : SetAt w b n l) (hp : ss.Perm (strKeys (setS l))) : ss.length ≤ n ∧ ss.Nodup ∧ ∀ x ∈ ss, x.length ≤ maxLen := by
  have h1 := h.size_le
  have h2 := strKeys_le h Try.underlying9
  obtain ⟨es, hD, hpw, _⟩ := World.ownsMap.entries h map_keyed
  obtain ⟨es', hD', hko⟩ := World.ownsMap.keysOf h
  obtain rfl : es = es' := by rw [hD] at hD'; simpa using hD'
  rw [hD] at hp h1 h2
  refine ⟨by rw [hp.length_eq]; simpa [strKeys, Maps.size_eq] using h1, hp.nodup_iff.2 ?_, fun x hx => h2 x (hp.mem_iff.1 hx)⟩
  show (es.map fun p => strOf p.1).Nodup
  refine List.pairwise_map.2 (hpw.imp_of_mem fun {p q} hp' hq' hne e => hne ?_)
  obtain ⟨v, hv⟩ := hko p hp'
  obtain ⟨a, _, ha, _⟩ := Maps.keyOf_str Try.underlying9 hv
  obtain ⟨v2, hv2⟩ := hko q hq'
  obtain ⟨a2, _, ha2, _⟩ := Maps.keyOf_str Try.underlying9 hv2
  rw [ha, ha2] at e ⊢
  exact congrArg _ e
theorem rise_sorted {ss : List (List UInt8)} (hn : ss.Nodup) : Rise ((ss.mergeSort leB).map toB) := by
  have tr : ∀ a b c : List UInt8, leB a b = true → leB b c = true → leB a c = true := fun a b c h1 h2 => by simp only [leB, decide_eq_true_eq] at *; exact List.le_trans h1 h2
  have to : ∀ a b : List UInt8, (leB a b || leB b a) = true := fun a b => by simp only [leB, Bool.or_eq_true, decide_eq_true_eq]; exact List.le_total a b
  have p1 := List.pairwise_mergeSort tr to ss
  have p2 : (ss.mergeSort leB).Nodup := (List.mergeSort_perm ss leB).nodup_iff.2 hn
  unfold Rise
  rw [List.pairwise_map]
  refine (p1.and p2).imp ?_
  rintro a b ⟨h1, h2⟩
  unfold ltA
  rw [toB_list, toB_list]
  simp only [leB, decide_eq_true_eq] at h1
  rcases Decidable.em (a < b) with h3 | h3
  · exact h3
  · exact absurd (List.le_antisymm h1 (List.not_lt.1 h3)) h2

/-! maps.Keys -/
theorem keys_any (mb : Option Nat) (W : World) : Calls Try.prog 29 #[.map mb] W fun e w' => e = .returned (.func (.func 43) #[] #[.pointer (some ⟨W.heap.size, 0, none⟩)]) ∧ w' = W.alloc (.cells #[.map mb] 54) :=
  (callsIn_wide (n := 6)).1 (AnyZ.keys_in laysKeys Fence.wide 6 trivial rfl mb W)
theorem stops_any (Bm b n : Nat) (l : List ByteArray) (W : World) (hB : Bm < W.heap.size) (hm : W.cell? ⟨Bm, 0, none⟩ = some (.map (some b))) (h : SetAt W b n l) (m : Nat) (hm1 : 1 ≤ m) :
    SeqStops Fence.wide m Try.prog 43 #[.pointer (some ⟨Bm, 0, none⟩)] encStr (fun ss => ss.Perm (strKeys (setS l)) ∧ ∀ x, x ∈ ss ↔ has (setS l) (.string x) = true) (fun pre => pre.Nodup ∧ ∀ x ∈ pre, has (setS l) (.string x) = true) (Maps.size (setS l)) W :=
  AnyZ.keys_stops (ρ := laysKeys_ren) { laysKeys with } Fence.wide m trivial rfl hm1 Bm b n (setS l) W hB hm h
theorem sorts_any (m : Nat) : AnyZ.SortsIn Try.prog laysSorted_ren Fence.wide m :=
  ⟨fun blk off cap ss W hH hblk hsz => callsIn_wide.2 (AnyM.slices_Sort_string laysSort blk off cap ss W hH hblk hsz),
   fun p cap W => callsIn_wide.2 (AnyM.slices_Sort_string_none laysSort p cap W)⟩
set_option maxHeartbeats 1000000 in
/-- slices.Sorted of a set's names. -/
theorem sorted_any (Bm b n : Nat) (l : List ByteArray) (W : World) (hB : Bm < W.heap.size) (hm : W.cell? ⟨Bm, 0, none⟩ = some (.map (some b))) (h : SetAt W b n l) (hn : n ≤ 1000000) :
    Calls Try.prog 28 #[.func (.func 43) #[] #[.pointer (some ⟨Bm, 0, none⟩)]] W fun e w' => ∃ v out, e = .returned v ∧ OwnS w' W.heap.size v out ∧ Rise out ∧ (∀ s, s ∈ out ↔ s ∈ l) ∧ Below W.heap.size W w' := by
  have hsz := World.ownsMap.size_le h
  refine (callsIn_wide (n := 6)).1 ?_
  have hseq := (stops_any Bm b n l W hB hm h 3 (by omega)).gives
  have cS := AnyZ.sorted_in laysSorted Fence.wide 6 trivial trivial trivial trivial rfl (by omega) (sorts_any _) (enters_of Try.func42 (by kernel_rfl) rfl) 43 #[.pointer (some ⟨Bm, 0, none⟩)] trivial (enters_of Try.func43 (by kernel_rfl) rfl) _ _ (by unfold maxLen; omega) (by omega) W hseq
  change CallsIn _ _ Try.prog 28 _ _ _ at cS
  refine cS.mono ?_
  rintro e w' ⟨v, ss, rfl, ⟨hp, hmem⟩, hrow, hnil, hb⟩
  obtain ⟨k1, k2, k3⟩ := keys_len h hp
  have hpm := List.mergeSort_perm ss leB
  refine ⟨v, (ss.mergeSort leB).map toB, rfl, ⟨?_, ?_⟩, rise_sorted k2, fun s => ?_, hb⟩
  · rw [List.length_map, hpm.length_eq, ← enc_map]
    exact hrow
  · intro s hs
    obtain ⟨x, hx, rfl⟩ := List.mem_map.1 hs
    exact k3 x (hpm.mem_iff.1 hx)
  · rw [← keys_mem hmem s]
    exact (hpm.map toB).mem_iff
end Go.Proofs.Ytompcdmjbigigaa
