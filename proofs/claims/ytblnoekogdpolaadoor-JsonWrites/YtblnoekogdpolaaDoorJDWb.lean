import Derived.Test.YtblnoekogdpolaaDoorJDQt
import Derived.Test.YtblnoekogdpolaaDoorJDTn
import Derived.Test.YtblnoekogdpolaaDoorJMnG
import Derived.Lib.ConvBytes
import Derived.Lib.SmallJoins
namespace Go.Proofs.YtblnoekogdpolaaDoor
open Go.RowKit Go.WideShapes Go.Joins
theorem natT_bytes : ∀ (f m : Nat), m ≤ f → ∀ x ∈ J.natT m, x < 256 := by
  intro f
  induction f with
  | zero => intro m h x hx; rw [nat_small (by omega)] at hx; simp at hx; omega
  | succ f ih =>
    intro m h x hx
    by_cases h0 : m < 10
    · rw [nat_small h0] at hx; simp at hx; omega
    rw [nat_more h0] at hx
    rcases List.mem_append.1 hx with hx | hx
    · exact ih (m / 10) (by omega) x hx
    · simp at hx; omega
theorem intT_bytes (n : Int) : ∀ x ∈ J.intT n, x < 256 := by
  intro x hx
  unfold J.intT at hx
  split at hx
  · rcases List.mem_cons.1 hx with rfl | hx
    · decide
    · exact natT_bytes _ _ (Nat.le_refl _) x hx
  · exact natT_bytes _ _ (Nat.le_refl _) x hx
theorem intT_len (n : Int) (h : J.Rng n) : (J.intT n).length ≤ 20 := by
  unfold J.Rng at h
  have := natT_len 18 n.natAbs (by omega)
  unfold J.intT
  split
  · simp only [List.length_cons]; omega
  · omega
mutual
theorem wr_bytes : ∀ v : JB, ∀ x ∈ J.written v.toJ, x < 256
  | .mk k b n t ns vs => by
    have ht := numsOf_lt t
    have hq := quoted_bytes t
    have h1 := its_bytes vs true ns
    have h2 := its_bytes vs false ns
    have hn := intT_bytes n
    intro x hx
    simp only [JB.toJ, J.written] at hx
    split at hx
    · simp only [List.mem_cons, List.not_mem_nil, or_false] at hx; omega
    split at hx
    · split at hx
      · simp only [List.mem_cons, List.not_mem_nil, or_false] at hx; omega
      · simp only [List.mem_cons, List.not_mem_nil, or_false] at hx; omega
    split at hx
    · exact hn x hx
    split at hx
    · exact ht x hx
    split at hx
    · exact hq x hx
    split at hx
    · rcases List.mem_cons.1 hx with rfl | hx
      · decide
      rcases List.mem_append.1 hx with hx | hx
      · exact h1 x hx
      · rw [List.mem_singleton] at hx; omega
    · rcases List.mem_cons.1 hx with rfl | hx
      · decide
      rcases List.mem_append.1 hx with hx | hx
      · exact h2 x hx
      · rw [List.mem_singleton] at hx; omega
theorem its_bytes : ∀ (vs : List JB) (obj : Bool) (ns : List ByteArray), ∀ x ∈ J.itemsT obj (ns.map numsOf) (toJs vs), x < 256
  | [], obj, ns => by intro x hx; simp [toJs, J.itemsT] at hx
  | v :: vs, obj, ns => by
    have hv := wr_bytes v
    have h1 := its_bytes vs obj ns.tail
    have hq : ∀ x ∈ J.quoted ((ns.map numsOf).headD []), x < 256 := by
      cases ns with
      | nil => intro x hx; simp [J.quoted, J.qbody] at hx; omega
      | cons s l => exact quoted_bytes s
    intro x hx
    simp only [toJs, J.itemsT] at hx
    rcases List.mem_append.1 hx with hx | hx
    · split at hx
      · rcases List.mem_append.1 hx with hx | hx
        · exact hq x hx
        · rw [List.mem_singleton] at hx; omega
      · cases hx
    rcases List.mem_append.1 hx with hx | hx
    · exact hv x hx
    split at hx
    · cases hx
    rcases List.mem_cons.1 hx with rfl | hx
    · decide
    · rw [← List.map_tail] at hx
      exact h1 x hx
end
mutual
theorem wr_len : ∀ v : JB, Fit v → (J.written v.toJ).length + 4 ≤ 24 * szB v
  | .mk k b n t ns vs, h => by
    have hvs : (∀ v ∈ vs, Fit v) ∧ J.Rng n := by
      cases h with
      | mk _ _ _ _ _ _ _ hn _ _ _ hv => exact ⟨hv, hn⟩
    have ht : (numsOf t).length = t.size := numsOf_len t
    have hq := qbody_six (numsOf t)
    have h1 := its_len vs true ns hvs.1
    have h2 := its_len vs false ns hvs.1
    have hn := intT_len n hvs.2
    simp only [JB.toJ, J.written, szB]
    split
    · simp only [List.length_cons, List.length_nil]; omega
    split
    · split
      · simp only [List.length_cons, List.length_nil]; omega
      · simp only [List.length_cons, List.length_nil]; omega
    split
    · omega
    split
    · omega
    split
    · simp only [J.quoted, List.length_cons, List.length_append, List.length_nil]; omega
    split
    · simp only [List.length_cons, List.length_append, List.length_nil]; omega
    · simp only [List.length_cons, List.length_append, List.length_nil]; omega
theorem its_len : ∀ (vs : List JB) (obj : Bool) (ns : List ByteArray), (∀ v ∈ vs, Fit v) → (J.itemsT obj (ns.map numsOf) (toJs vs)).length ≤ 24 * szL vs + 6 * nszB ns
  | [], obj, ns, _ => by simp [toJs, J.itemsT]
  | v :: vs, obj, ns, h => by
    have hv := wr_len v (h v (by simp))
    have h1 := its_len vs obj ns.tail (fun y hy => h y (by simp [hy]))
    have hq : (J.quoted ((ns.map numsOf).headD [])).length + 6 * nszB ns.tail ≤ 2 + 6 * nszB ns := by
      cases ns with
      | nil => simp [J.quoted, J.qbody, nszB]
      | cons s l =>
        have := qbody_six (numsOf s)
        rw [numsOf_len] at this
        simp only [List.map_cons, List.headD_cons, J.quoted, List.length_cons, List.length_append, List.length_nil, List.tail_cons, nszB]
        omega
    simp only [toJs, J.itemsT, szL, List.length_append]
    have e1 : (if obj = true then J.quoted ((ns.map numsOf).headD []) ++ [58] else []).length + 6 * nszB ns.tail ≤ 3 + 6 * nszB ns := by
      split
      · simp only [List.length_append, List.length_cons, List.length_nil]; omega
      · simp only [List.length_nil]; omega
    have e2 : (if (toJs vs).isEmpty = true then [] else 44 :: J.itemsT obj (ns.map numsOf).tail (toJs vs)).length ≤ 1 + (24 * szL vs + 6 * nszB ns.tail) := by
      split
      · simp
      · rw [← List.map_tail, List.length_cons]; omega
    omega
end
theorem pre_len (obj : Bool) (ns : List ByteArray) (vs : List JB) (h : ∀ v ∈ vs, Fit v) (i : Nat) (hi : i ≤ vs.length) : (preT obj (ns.map numsOf) (toJs vs) i).length ≤ 24 * szL vs + 6 * nszB ns := by
  have h1 := pre_rest obj (ns.map numsOf) (toJs vs) i (by rw [toJs_len]; exact hi)
  have h2 := its_len vs obj ns h
  rw [← h1, List.length_append] at h2
  omega
theorem below_bytes (w : World) (s : ByteArray) : Below w.heap.size w (Lib.bytesWorld w 5 s) := by
  unfold Lib.bytesWorld
  exact Lib.below_freeze ((Below.refl _ _).drew.alloc (Nat.le_refl _) _) (p := ⟨w.heap.size, _, none⟩) (Nat.le_refl _) 1
theorem bin_bytes (w : World) (s : ByteArray) : BIn (Lib.bytesWorld w 5 s) (some ⟨w.heap.size, 0, none⟩) (numsOf s) := by
  refine ⟨fun _ => ⟨w.heap.size, 0, rfl, fun i hi => ?_⟩, numsOf_lt s⟩
  rw [numsOf_len] at hi
  rw [Nat.zero_add, Lib.bytesWorld_cell w 5 s i hi]
  have h3 : i < s.data.toList.length := by simpa using hi
  have e1 : s.data.toList.getD i 0 = s.data.toList[i]'h3 := by rw [List.getD_eq_getElem?_getD, List.getElem?_eq_getElem h3]; rfl
  have e2 : (numsOf s).getD i 0 = (s.data.toList[i]'h3).toNat := by unfold numsOf; rw [List.getD_eq_getElem?_getD, List.getElem?_map, List.getElem?_eq_getElem h3]; rfl
  rw [e1, e2]
theorem bytes_told (w0 w : World) (s : ByteArray) (ys : List Nat) (hs : numsOf s = ys) (hb : Below w0.heap.size w0 w) (c : Nat) : U8P ys w0 (.returned (.slice (some ⟨w.heap.size, 0, none⟩) s.size c)) (Lib.bytesWorld w 5 s) :=
  ⟨_, _, _, rfl, by rw [← hs, numsOf_len], by rw [← hs]; exact bin_bytes w s, (fun h => by cases h), below_more hb (below_bytes w s)⟩
theorem conv_text (w : World) (s : ByteArray) : (convert 9 62 (.string s)).run Tryd.prog w = .ok (.slice (some ⟨w.heap.size, 0, none⟩) s.size (grownCap w s.size 0 5)) (Lib.bytesWorld w 5 s) :=
  Lib.run_convert_string_bytes (P := Tryd.prog) w 9 62 5 s Tryd.underlying9 Tryd.underlying62 Tryd.underlying5
theorem conv_word (w : World) (C : Array Value) (n c g : Nat) (hg : g = w.heap.size) : (convert 62 62 (.slice (some ⟨g, 0, none⟩) n c)).run Tryd.prog (w.alloc (.cells C 5)) = .ok (.slice (some ⟨g, 0, none⟩) n c) (w.alloc (.cells C 5 (C.size, C.size + 1))) :=
  run_convert_bytes_const_at (P := Tryd.prog) w 62 5 C n c g hg Tryd.underlying62 Tryd.underlying5
theorem word_told (w0 w : World) (ys : List Nat) (hy : ∀ y ∈ ys, y < 256) (hb : Below w0.heap.size w0 w) (C : Array Value) (hC : (Bs ys).toArray = C) (n m g : Nat) (hg : g = w.heap.size) (hn : n = ys.length) (fr : Nat × Nat) : U8P ys w0 (.returned (.slice (some ⟨g, 0, none⟩) n m)) (w.alloc (.cells C 5 fr)) := by
  subst hg
  refine ⟨_, _, _, rfl, hn, ⟨fun _ => ⟨w.heap.size, 0, rfl, fun i hi => ?_⟩, hy⟩, (fun h => by cases h), below_more hb ((Below.refl _ _).alloc (Nat.le_refl _) _)⟩
  rw [← hC, Nat.zero_add]
  have : (w.alloc (.cells (Bs ys).toArray 5 fr)).cell? ⟨w.heap.size, i, none⟩ = (Bs ys).toArray[i]? := World.cell?_alloc_mark w _ 5 fr i
  rw [this]
  simp [Bs, List.getD, List.getElem?_eq_getElem hi]
structure WtS (bx : Obj) (w : World) (wr : World) (v : Value) (xs : List Nat) : Prop where
  own : wr.ownsRow (w.heap.size + 1) 5 1 v xs.length (Bs xs)
  below : Below w.heap.size w wr
  box : wr.heap[w.heap.size]? = some bx
  byt : ∀ x ∈ xs, x < 256
theorem WtS.sz {bx : Obj} {w wr : World} {v : Value} {xs : List Nat} (h : WtS bx w wr v xs) : w.heap.size + 1 ≤ wr.heap.size := (Array.getElem?_eq_some_iff.1 h.box).1
theorem WtS.more {bx : Obj} {w wr w' : World} {v : Value} {xs : List Nat} (h : WtS bx w wr v xs) (hb : Below wr.heap.size wr w') : WtS bx w w' v xs :=
  ⟨own_below h.own hb, below_more h.below hb, (hb.block _ (by have := h.sz; omega)).trans h.box, h.byt⟩
theorem WtS.app {bx : Obj} {w wr w6 : World} {v v6 : Value} {xs ys : List Nat} (h : WtS bx w wr v xs) (hg : wr.grownBy w6 v.ownBlock) (ho : w6.ownsRow (w.heap.size + 1) 5 1 v6 (xs ++ ys).length (Bs (xs ++ ys))) (hy : ∀ y ∈ ys, y < 256) : WtS bx w w6 v6 (xs ++ ys) := by
  refine ⟨ho, h.below.grown hg h.below.size (fun k hk => by have := (h.own.lt k hk).1; omega), (hg.block _ (by have := h.sz; omega) (fun e => by have := (h.own.lt _ e.symm).1; omega)).trans h.box, fun x hx => ?_⟩
  rcases List.mem_append.1 hx with hx | hx
  · exact h.byt x hx
  · exact hy x hx
theorem WtS.told {bx : Obj} {w wr : World} {v : Value} {xs : List Nat} (h : WtS bx w wr v xs) : U8P xs w (.returned v) wr := u8_of_own h.own h.byt h.below
inductive WtI (N : Nat) (bx : Obj) (w : World) (P : Nat → List Nat) (v t : Value) (wr : World) : Prop where
  | intro (k : Nat) (hk : k ≤ N) (ht : t = .int .i64 (k : Int)) (hs : WtS bx w wr v (P k))
end Go.Proofs.YtblnoekogdpolaaDoor
