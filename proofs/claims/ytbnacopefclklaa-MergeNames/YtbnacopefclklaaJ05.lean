/-
  Find of a list.
-/
import Derived.Test.YtbnacopefclklaaJ04
import Derived.Lib.AppendZeros
namespace Go.Proofs.Ytbnacopefclklaa
open Go.RowKit Go.WideShapes

def adO : Option NodV → Option Addr
  | none => none
  | some n => some ⟨n.nb, 0, none⟩
theorem ptO_eq (o : Option NodV) : ptO o = .pointer (adO o) := by cases o <;> rfl
theorem set_typ {w : World} {b o : Nat} {cs : Array Value} {t : TypeId} {fr : Nat × Nat} {b' : Nat} {cs' : Array Value} {t' : TypeId} {fr' : Nat × Nat} (h : w.heap[b]? = some (.cells cs t fr)) (h' : w.heap[b']? = some (.cells cs' t' fr')) (ht : t' ≠ t) (v : Value) : (w.setCell ⟨b, o, none⟩ v).heap[b']? = some (.cells cs' t' fr') := by
  refine (heap_setCell_other w ⟨b, o, none⟩ b' v ?_).trans h'
  intro e
  have e' : b' = b := e
  subst e'
  rw [h] at h'
  simp only [Option.some.injEq, Obj.cells.injEq] at h'
  exact ht h'.2.1.symm
theorem set_num {w : World} {b o b' : Nat} {x : Obj} (h' : w.heap[b']? = some x) (ht : b' ≠ b) (v : Value) : (w.setCell ⟨b, o, none⟩ v).heap[b']? = some x := (heap_setCell_other w ⟨b, o, none⟩ b' v ht).trans h'
end Go.Proofs.Ytbnacopefclklaa
namespace Go.Proofs.Ytbnacopefclklaa
open Go.RowKit Go.WideShapes

def agA (b : Nat → Nat) : Array Value := #[.pointer (some ⟨b 0, 0, none⟩), .pointer (some ⟨b 1, 0, none⟩), .pointer (some ⟨b 2, 0, none⟩), .pointer (some ⟨b 3, 0, none⟩), .pointer (some ⟨b 4, 0, none⟩), .pointer (some ⟨b 5, 0, none⟩), .pointer (some ⟨b 6, 0, none⟩), .pointer (some ⟨b 7, 0, none⟩), .pointer (some ⟨b 8, 0, none⟩), .pointer (some ⟨b 9, 0, none⟩), .pointer (some ⟨b 10, 0, none⟩), .pointer (some ⟨b 11, 0, none⟩)]
theorem agA_at {b : Nat → Nat} {j : Nat} (h : j < 12) : (agA b)[j]? = some (.pointer (some ⟨b j, 0, none⟩)) := by
  have hc : j = 0 ∨ j = 1 ∨ j = 2 ∨ j = 3 ∨ j = 4 ∨ j = 5 ∨ j = 6 ∨ j = 7 ∨ j = 8 ∨ j = 9 ∨ j = 10 ∨ j = 11 := by omega
  rcases hc with rfl | rfl | rfl | rfl | rfl | rfl | rfl | rfl | rfl | rfl | rfl | rfl <;> rfl
def putR (l : List EntV) (x : EntV) : List EntV × Nat :=
  if placeE l x < l.length ∧ sameE (l.getD (placeE l x) zeroE) x = true then (l, 100) else if 4096 ≤ l.length then (l, 4) else (insE l x, 0)
end Go.Proofs.Ytbnacopefclklaa
namespace Go.Proofs.Ytbnacopefclklaa
open Go.RowKit Go.WideShapes

theorem put_row {l : List EntV} (hc : checkE l = 0) {x : EntV} (h1 : oneE x = 0) : putR l x = (stepE l x, (putE l x).2) := by
  have hr := ((checkE_rise l).1 hc).2.2
  have hsame : (placeE l x < l.length ∧ sameE (l.getD (placeE l x) zeroE) x = true) ↔ (placeE l x < l.length ∧ lessE x (l.getD (placeE l x) zeroE) = false) := by
    constructor
    · rintro ⟨a, b⟩
      refine ⟨a, ?_⟩
      unfold sameE at b
      simp only [Bool.and_eq_true, decide_eq_true_eq] at b
      exact lessE_same ⟨b.1.symm, b.2.symm⟩
    · rintro ⟨a, b⟩
      refine ⟨a, ?_⟩
      have := lessE_tri (place_at l x a) b
      unfold sameE
      simp only [Bool.and_eq_true, decide_eq_true_eq]
      exact this
  unfold putR stepE putE
  rw [if_neg (by simp [hc] : ¬ checkE l ≠ 0), if_neg (by simp [h1] : ¬ oneE x ≠ 0)]
  by_cases hs : placeE l x < l.length ∧ lessE x (l.getD (placeE l x) zeroE) = false
  · rw [if_pos (hsame.2 hs), if_pos hs]; rfl
  · rw [if_neg (fun h => hs (hsame.1 h)), if_neg hs]
    by_cases hm : 4096 ≤ l.length
    · rw [if_pos hm, if_pos hm]; rfl
    · rw [if_neg hm, if_neg hm]; rfl
theorem find_row {l : List EntV} (hr : RiseE l) (key : ByteArray) (seq : Int) : newL l key seq = (if placeE l ⟨key, ByteArray.empty, seq, false⟩ < l.length ∧ (l.getD (placeE l ⟨key, ByteArray.empty, seq, false⟩) zeroE).key = key then (l.getD (placeE l ⟨key, ByteArray.empty, seq, false⟩) zeroE, true) else (zeroE, false)) := by
  obtain ⟨x, hx⟩ : ∃ x : EntV, (⟨key, ByteArray.empty, seq, false⟩ : EntV) = x := ⟨_, rfl⟩
  have xk : x.key = key := by rw [← hx]
  have xs : x.seq = seq := by rw [← hx]
  rw [hx]
  have hpa := place_ahead l x
  by_cases h : placeE l x < l.length ∧ (l.getD (placeE l x) zeroE).key = key
  · rw [if_pos h]
    have h1 := place_at l x h.1
    refine newL_is hr (getD_mem' h.1) h.2 ?_ (fun z hz hk hs => ?_)
    · rcases Int.lt_or_le seq (l.getD (placeE l x) zeroE).seq with hc | hc
      · rw [(lessE_def _ _).2 (.inr ⟨by rw [h.2, xk], by omega⟩)] at h1; cases h1
      · exact hc
    · obtain ⟨i, hi, rfl⟩ := List.getElem_of_mem hz
      rcases Nat.lt_trichotomy i (placeE l x) with hc | hc | hc
      · have h2 := hpa l[i] (by rw [List.mem_take_iff_getElem]; exact ⟨i, by omega, rfl⟩)
        rcases (lessE_def _ _).1 h2 with h3 | h3
        · rw [hk, xk, ltB_irrefl] at h3; cases h3
        · omega
      · subst hc
        rw [List.getD_eq_getElem?_getD, List.getElem?_eq_getElem hi]
        exact Int.le_refl _
      · have h2 := List.pairwise_iff_getElem.1 hr (placeE l x) i h.1 hi hc
        rw [List.getD_eq_getElem?_getD, List.getElem?_eq_getElem h.1] at h ⊢
        simp only [Option.getD_some] at h ⊢
        rcases (lessE_def _ _).1 h2 with h3 | h3
        · rw [h.2, hk, ltB_irrefl] at h3; cases h3
        · omega
  · rw [if_neg h]
    refine newL_none (fun z hz hh => h ?_)
    obtain ⟨i, hi, rfl⟩ := List.getElem_of_mem hz
    rcases Nat.lt_or_ge i (placeE l x) with hc | hc
    · have h2 := hpa l[i] (by rw [List.mem_take_iff_getElem]; exact ⟨i, by omega, rfl⟩)
      rcases (lessE_def _ _).1 h2 with h3 | h3
      · rw [hh.1, xk, ltB_irrefl] at h3; cases h3
      · omega
    · have hp : placeE l x < l.length := by omega
      refine ⟨hp, ?_⟩
      have h1 := place_at l x hp
      rcases Nat.eq_or_lt_of_le hc with e | hc
      · rw [List.getD_eq_getElem?_getD, List.getElem?_eq_getElem hp]
        simp only [Option.getD_some, e]
        exact hh.1
      · have h2 := List.pairwise_iff_getElem.1 hr (placeE l x) i hp hi hc
        rw [List.getD_eq_getElem?_getD, List.getElem?_eq_getElem hp] at h1 ⊢
        simp only [Option.getD_some] at h1 ⊢
        rcases (lessE_def _ _).1 h2 with h3 | h3
        · exfalso
          rw [hh.1, ← xk] at h3
          rw [(lessE_def _ _).2 (.inl h3)] at h1; cases h1
        · rw [h3.1, hh.1]
end Go.Proofs.Ytbnacopefclklaa
namespace Go.Proofs.Ytbnacopefclklaa
open Go.RowKit Go.WideShapes

def askE (key : ByteArray) (seq : Int) : EntV := ⟨key, ByteArray.empty, seq, false⟩
theorem one_ask (key : ByteArray) (seq : Int) : oneE (askE key seq) = if key.size < 1 ∨ 256 < key.size then 60 else if seq < 0 ∨ 2147483647 < seq then 2 else 0 := by
  unfold oneE askE
  simp only [show ByteArray.empty.size = 0 from rfl]
  simp
/-- What Find tells, by the entry that is asked for. -/
theorem findL_ask {l : List EntV} (hc : checkE l = 0) (key : ByteArray) (seq : Int) : findL l key seq = if oneE (askE key seq) ≠ 0 then (zeroE, false, oneE (askE key seq)) else if placeE l (askE key seq) < l.length ∧ (l.getD (placeE l (askE key seq)) zeroE).key = key then (l.getD (placeE l (askE key seq)) zeroE, true, 0) else (zeroE, false, 0) := by
  have hr := ((checkE_rise l).1 hc).2.2
  unfold findL
  rw [if_neg (by simp [hc]), one_ask, find_row hr]
  by_cases h1 : key.size < 1 ∨ 256 < key.size
  · rw [if_pos h1, if_pos h1, if_pos (by decide)]
  · rw [if_neg h1, if_neg h1]
    by_cases h2 : seq < 0 ∨ 2147483647 < seq
    · rw [if_pos h2, if_pos h2, if_pos (by decide)]
    · rw [if_neg h2, if_neg h2, if_neg (show ¬ (0 : Nat) ≠ 0 by decide)]
      show _ = if placeE l ⟨key, ByteArray.empty, seq, false⟩ < l.length ∧ (l.getD (placeE l ⟨key, ByteArray.empty, seq, false⟩) zeroE).key = key then _ else _
      by_cases h3 : placeE l ⟨key, ByteArray.empty, seq, false⟩ < l.length ∧ (l.getD (placeE l ⟨key, ByteArray.empty, seq, false⟩) zeroE).key = key
      · rw [if_pos h3, if_pos h3]; rfl
      · rw [if_neg h3, if_neg h3]
structure OnF (w : World) (k : ByteArray) (s : Int) (wr : World) : Prop where
  bel : Below w.heap.size w wr
  res : wr.heap[w.heap.size]? = some (.cells #[.string ⟨#[]⟩, .string ⟨#[]⟩, .int .i64 0, .bool false] 23 (0, 0))
  at_ : wr.heap[w.heap.size + 1]? = some (.cells #[.string k, .string ⟨#[]⟩, .int .i64 s, .bool false] 23 (0, 0))
theorem OnF.next {w wr w' : World} {k : ByteArray} {s : Int} (h : OnF w k s wr) (hb : Below wr.heap.size wr w') : OnF w k s w' := ⟨below_bt h.bel hb, block_below' h.res hb, block_below' h.at_ hb⟩
theorem onF_new (w : World) (k : ByteArray) (s : Int) : OnF w k s ((w.alloc (.cells #[.string ⟨#[]⟩, .string ⟨#[]⟩, .int .i64 0, .bool false] 23)).alloc (.cells #[.string k, .string ⟨#[]⟩, .int .i64 s, .bool false] 23)) :=
  ⟨below_bt (below_alloc _ _) (below_alloc _ _), block_below' (heap_alloc_new _ _) (below_alloc _ _), heap_two _ _ _⟩
end Go.Proofs.Ytbnacopefclklaa
namespace Go.Proofs.Ytbnacopefclklaa
open Go.RowKit Go.WideShapes

theorem place_mono {l : List EntV} (hr : RiseE l) (x : EntV) : (∀ t, t < placeE l x → lessE (l.getD t zeroE) x = true) ∧ ∀ t, placeE l x ≤ t → t < l.length → lessE (l.getD t zeroE) x = false := by
  have hle := placeE_le l x
  constructor
  · intro t ht
    have h := place_ahead l x (l[t]'(by omega)) (by rw [List.mem_take_iff_getElem]; exact ⟨t, by omega, rfl⟩)
    rw [List.getD_eq_getElem?_getD, List.getElem?_eq_getElem (by omega)]
    exact h
  · intro t h1 h2
    have hp : placeE l x < l.length := by omega
    have h3 := place_at l x hp
    rcases Nat.eq_or_lt_of_le h1 with e | hlt
    · rw [← e]; exact h3
    · rw [Bool.eq_false_iff]
      intro h4
      have h5 := List.pairwise_iff_getElem.1 hr (placeE l x) t hp h2 hlt
      rw [List.getD_eq_getElem?_getD, List.getElem?_eq_getElem h2, Option.getD_some] at h4
      rw [List.getD_eq_getElem?_getD, List.getElem?_eq_getElem hp, Option.getD_some] at h3
      rw [lessE_trans h5 h4] at h3
      cases h3
end Go.Proofs.Ytbnacopefclklaa
namespace Go.Proofs.Ytbnacopefclklaa
open Go.RowKit Go.WideShapes

theorem zeros_own (w : World) (n : Nat) (h1 : 1 ≤ n) (h2 : n ≤ 10000) : ∃ c v' w', (Builtin.append_ #[25, 3] 25 #[.slice none 0 0, .int .i64 (n : Int)]).run Try.prog w = .ok v' w' ∧ v' = .slice (some ⟨w.heap.size, 0, none⟩) n c ∧ n ≤ c ∧ c ≤ maxLen ∧ OnB w (.slice (some ⟨w.heap.size, 0, none⟩) 0 c) [] w' := by
  obtain ⟨i0, hi, hz0, hz1, hz2⟩ := info_parts' info_entry
  have hr := Lib.run_append_nil_zeros (P := Try.prog) w 25 3 25 23 i0 _ .i64 .i64 Try.underlying25 Try.underlying3 hi hz0 n (by omega) (by omega) (by omega) (by rw [hz2]; omega)
  have hge := grownCap_ge w n 0 23
  have hle := grownCap_le_maxLen w n 0 23 (by unfold maxLen; omega)
  refine ⟨grownCap w n 0 23, _, _, hr, rfl, hge, hle, ?_, ((Below.refl _ _).drew).alloc (by simp) _⟩
  refine ⟨rfl, .inr ⟨w.heap.size, grownCap w n 0 23, _, rfl, Nat.le_refl _, heap_alloc_new w.drew _, Nat.zero_le _, hle, ?_, by simp [cellsE]⟩⟩
  rw [Array.size_append, size_zeroCells, size_zeroCells]
  simp only [Value.cells]
  show n * 4 + (grownCap w n 0 23 - n) * 4 = _
  omega
theorem OnB.two {w wr w' : World} {v v' : Value} {l l' : List EntV} (h : OnB w v l wr) (ho : EOwn w' w.heap.size v' (l ++ l')) (hg : wr.grownBy w' v.ownBlock) : OnB w v' (l ++ l') w' :=
  ⟨ho, h.bel.grown hg h.bel.size (fun k hk => (World.ownsRow.lt h.own k hk).1)⟩
end Go.Proofs.Ytbnacopefclklaa
namespace Go.Proofs.Ytbnacopefclklaa
open Go.RowKit Go.WideShapes

theorem EntsIn.take' {w : World} {q : Option Addr} {l : List EntV} (h : EntsIn w q l) (k : Nat) : EntsIn w q (l.take k) := by
  intro hp
  rw [List.length_take] at hp
  obtain ⟨b, o, e, hc⟩ := h (by omega)
  refine ⟨b, o, e, fun i hi => ?_⟩
  rw [List.length_take] at hi
  have := hc i (by omega)
  rw [show (l.take k).getD i zeroE = l.getD i zeroE by rw [List.getD_eq_getElem?_getD, List.getElem?_take_of_lt (by omega), ← List.getD_eq_getElem?_getD]]
  exact this
theorem EntsIn.drop' {w : World} {b o : Nat} {l : List EntV} (h : EntsIn w (some ⟨b, o, none⟩) l) (k : Nat) : EntsIn w (some ⟨b, o + k * 4, none⟩) (l.drop k) := by
  intro hp
  rw [List.length_drop] at hp
  refine ⟨b, o + k * 4, rfl, fun i hi => ?_⟩
  rw [List.length_drop] at hi
  obtain ⟨c0, c1, c2, c3⟩ := h.at (k := k + i) (by omega)
  rw [show (l.drop k).getD i zeroE = l.getD (k + i) zeroE by rw [List.getD_eq_getElem?_getD, List.getElem?_drop, ← List.getD_eq_getElem?_getD]]
  exact ⟨by rw [show o + k * 4 + i * 4 = o + (k + i) * 4 by omega]; exact c0, by rw [show o + k * 4 + (i * 4 + 1) = o + (k + i) * 4 + 1 by omega]; exact c1, by rw [show o + k * 4 + (i * 4 + 2) = o + (k + i) * 4 + 2 by omega]; exact c2, by rw [show o + k * 4 + (i * 4 + 3) = o + (k + i) * 4 + 3 by omega]; exact c3⟩
theorem cutE_to (q : Option Addr) (n c k : Nat) (hc : n ≤ c) (hk : k ≤ n) (w : World) : (Instr.slice 25 (.slice q n c) none (some (.int .i64 (k : Int))) none).run Try.prog w = .ok (.slice q k c) w := by
  rw [run_slice_h w 25 q n c (by kernel_rfl) .i64 k (by omega) (by omega)]
  have hs : (sizeOf (Try.prog.elem 25)).run Try.prog w = .ok 4 w := by kernel_rfl
  rw [hs]
  cases q with
  | none => simp [Result.andThen, sliced]
  | some a => simp [Result.andThen, sliced, Addr.add]
theorem cutE_from (q : Option Addr) (n c k : Nat) (l : List EntV) (hn : n = l.length) (hc : n ≤ c) (hk : k ≤ n) (hp : q = none → c = 0) :
    ∃ p', (∀ w, (Instr.slice 25 (.slice q n c) (some (.int .i64 (k : Int))) none none).run Try.prog w = .ok (.slice p' (n - k) (c - k)) w) ∧ (∀ w, EntsIn w q l → EntsIn w p' (l.drop k)) ∧ (p' = none → c - k = 0) := by
  have hr : ∀ w, (Instr.slice 25 (.slice q n c) (some (.int .i64 k)) none none).run Try.prog w = .ok (.slice (if c = k then q else q.map (·.add (k * 4))) (n - k) (c - k)) w := by
    intro w
    rw [run_slice_l w 25 q n c (by kernel_rfl) .i64 k (by omega) (by omega)]
    have hs : (sizeOf (Try.prog.elem 25)).run Try.prog w = .ok 4 w := by kernel_rfl
    rw [hs]
    rfl
  cases q with
  | none =>
    have hc0 := hp rfl
    have : k = 0 := by omega
    subst this
    exact ⟨_, hr, fun w h => by rw [List.drop_zero, if_pos hc0]; exact h, fun _ => by omega⟩
  | some a =>
    refine ⟨_, hr, fun w h => ?_, fun h => by split at h <;> simp at h⟩
    rcases Nat.eq_zero_or_pos (l.length - k) with h0 | h0
    · intro hp2
      rw [List.length_drop] at hp2
      omega
    · obtain ⟨b, o, e, _⟩ := h (by omega)
      simp only [Option.some.injEq] at e
      subst e
      rw [if_neg (by omega), Option.map_some, add_plain]
      exact h.drop' k
theorem sameL {l : List EntV} {x : EntV} : (placeE l x < l.length ∧ sameE (l.getD (placeE l x) zeroE) x = true) = (placeE l x < l.length ∧ lessE x (l.getD (placeE l x) zeroE) = false) := by
  refine propext ⟨?_, ?_⟩
  · rintro ⟨a, b⟩
    refine ⟨a, ?_⟩
    unfold sameE at b
    simp only [Bool.and_eq_true, decide_eq_true_eq] at b
    exact lessE_same ⟨b.1.symm, b.2.symm⟩
  · rintro ⟨a, b⟩
    refine ⟨a, ?_⟩
    have := lessE_tri (place_at l x a) b
    unfold sameE
    simp only [Bool.and_eq_true, decide_eq_true_eq]
    exact this
end Go.Proofs.Ytbnacopefclklaa
namespace Go.Proofs.Ytbnacopefclklaa
open Go.RowKit Go.WideShapes

theorem findL_bad {l : List EntV} (h : checkE l ≠ 0) (key : ByteArray) (seq : Int) : findL l key seq = (zeroE, false, checkE l) := by unfold findL; rw [if_pos h]
end Go.Proofs.Ytbnacopefclklaa
