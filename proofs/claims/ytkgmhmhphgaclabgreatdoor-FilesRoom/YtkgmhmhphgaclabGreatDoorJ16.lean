/-
  Files and directories handed in as arguments: what is told of them lies in memory so.
-/
import Derived.Test.YtkgmhmhphgaclabGreatDoorJ15
import Derived.Test.YtkgmhmhphgaclabGreatDoorJ08
import Derived.Deep.Slices
namespace Go.Proofs.YtkgmhmhphgaclabGreatDoor
open Go.RowKit Go.WideShapes Rm

/-- What there was stays, but for one block. -/
structure Agr (R : Nat) (w w' : World) : Prop where
  blk : ∀ k, k < w.heap.size → k ≠ R → w'.heap[k]? = w.heap[k]?
  size : w.heap.size ≤ w'.heap.size
  os : w'.os = w.os
  tape : w'.tape = w.tape
  output : w'.output = w.output
theorem Agr.refl (R : Nat) (w : World) : Agr R w w := ⟨fun _ _ _ => rfl, Nat.le_refl _, rfl, rfl, rfl⟩
theorem Agr.trans {R : Nat} {a b c : World} (h : Agr R a b) (k : Agr R b c) : Agr R a c :=
  ⟨fun i hi hn => (k.blk i (Nat.lt_of_lt_of_le hi h.size) hn).trans (h.blk i hi hn), Nat.le_trans h.size k.size, k.os.trans h.os, k.tape.trans h.tape, k.output.trans h.output⟩
theorem Upd.agr {R : Nat} {w w' : World} (h : Upd R w w') : Agr R w w' := ⟨fun k _ hn => h.oth k hn, by rw [h.size]; exact Nat.le_refl _, h.os, h.tape, h.output⟩
theorem agr_below (R : Nat) {w w' : World} (h : Below w.heap.size w w') : Agr R w w' := ⟨fun k hk _ => h.block k hk, h.size, h.os, h.tape, h.output⟩
theorem agr_alloc (R : Nat) (w : World) (o : Obj) : Agr R w (w.alloc o) := agr_below R (below_alloc w o)
theorem Agr.fresh {R : Nat} {w w' : World} (h : Agr R w w') {P : Nat} (hP : w.heap.size ≤ P) (i : Nat) (u : Value) : Agr R w (w'.setCell ⟨P, i, none⟩ u) :=
  ⟨fun k hk hn => (Below.heap_setCell _ _ _ _ (by simp; omega)).trans (h.blk k hk hn), by simpa [World.setCell] using h.size, h.os, h.tape, h.output⟩
theorem Agr.grown {R : Nat} {w a b : World} {row : Option Nat} (h : Agr R w a) (hg : a.grownBy b row) (hr : ∀ k, row = some k → w.heap.size ≤ k) : Agr R w b :=
  ⟨fun k hk hn => (hg.block k (Nat.lt_of_lt_of_le hk h.size) (fun e => by have := hr k e.symm; omega)).trans (h.blk k hk hn), Nat.le_trans h.size hg.size, hg.os.trans h.os, hg.tape.trans h.tape, hg.output.trans h.output⟩
theorem Agr.own {R base n s : Nat} {e : TypeId} {w w' : World} {v : Value} {xs : List Value} (h : Agr R w w') (ho : w.ownsRow base e s v n xs) (hR : R < base) : w'.ownsRow base e s v n xs :=
  own_keepB ho fun k hk hl => h.blk k hl (by omega)
theorem Agr.fown {R base : Nat} {w w' : World} {v : Value} {ls : FPs} (h : Agr R w w') (ho : FOwn w base v ls) (hR : R < base) : FOwn w' base v ls :=
  ho.keepB fun k hk hl => h.blk k hl (by omega)
theorem Agr.below {R B : Nat} {w0 w w' : World} (h : Agr R w w') (hb : Below B w0 w) (hB : B ≤ w.heap.size) (hR : B ≤ R) : Below B w0 w' :=
  hb.trans ⟨h.os, h.tape, h.output, h.size, fun k hk => h.blk k (by omega) (by omega)⟩
def BR : Bnds := ⟨32, 524288, 4096, 4095, 4096⟩
theorem bokBR : Bok BR := ⟨by simp [BR], by simp [BR], by simp [BR], by simp [BR], by simp [BR]⟩
theorem heap_set2 {w : World} {R : Nat} {a b c : Value} {t : TypeId} {fr : Nat × Nat} (h : w.heap[R]? = some (.cells #[a, b, c] t fr)) (u : Value) : (w.setCell ⟨R, 2, none⟩ u).heap[R]? = some (.cells #[a, b, u] t fr) := by
  simp only [World.setCell, Array.getElem?_modify, h, if_true]
  rfl
end Go.Proofs.YtkgmhmhphgaclabGreatDoor
namespace Go.Proofs.YtkgmhmhphgaclabGreatDoor
open Go.RowKit Go.WideShapes Rm

def fileOf (s : ByteArray) (z : Nat) : Option (Pcs × List Nat) → Option (FileV × List Nat)
  | none => none
  | some (l, r) => some (⟨s, z, l⟩, r)
/-- A file, number by number, with the document's bounds. -/
theorem cutFile_steps {xs r1 r2 r3 : List Nat} {s : ByteArray} {z2 z3 : Nat} (h1 : cutText xs = some (s, r1)) (h2 : cutNum 524288 r1 = some (z2, r2)) (h3 : cutNum 4096 r2 = some (z3, r3)) :
    cutFile BR xs = fileOf s z2 (cutMany (cutPiece 4095 4096) z3 r3) := by
  unfold cutFile
  rw [h1]
  simp only [BR, h2, h3]
  cases cutMany (cutPiece 4095 4096) z3 r3 <;> rfl
theorem cutFile_no1 {xs : List Nat} (h1 : cutText xs = none) : cutFile BR xs = none := by
  unfold cutFile; rw [h1]
theorem cutFile_no2 {xs r1 : List Nat} {s : ByteArray} (h1 : cutText xs = some (s, r1)) (h2 : cutNum 524288 r1 = none) : cutFile BR xs = none := by
  unfold cutFile; rw [h1]; simp [BR, h2]
theorem cutFile_no3 {xs r1 r2 : List Nat} {s : ByteArray} {z2 : Nat} (h1 : cutText xs = some (s, r1)) (h2 : cutNum 524288 r1 = some (z2, r2)) (h3 : cutNum 4096 r2 = none) : cutFile BR xs = none := by
  unfold cutFile; rw [h1]; simp [BR, h2, h3]
theorem cutPiece_no1 {xs : List Nat} (h1 : cutNum 4095 xs = none) : cutPiece 4095 4096 xs = none := by unfold cutPiece; rw [h1]
theorem cutPiece_no2 {xs r : List Nat} {n : Nat} (h1 : cutNum 4095 xs = some (n, r)) (h2 : cutNum 4096 r = none) : cutPiece 4095 4096 xs = none := by unfold cutPiece; rw [h1]; simp [h2]
theorem cutPiece_yes {xs r r2 : List Nat} {n m : Nat} (h1 : cutNum 4095 xs = some (n, r)) (h2 : cutNum 4096 r = some (m, r2)) : cutPiece 4095 4096 xs = some (((n : Int), (m : Int)), r2) := by unfold cutPiece; rw [h1]; simp [h2]
def RelB {α : Type} (f : List Nat → Option (α × List Nat)) (n : Nat) (done : List α) (rest : List Nat) (bad : Bool) (res : Option (List α × List Nat)) : Prop := (bad = false ∧ manyGo f n done rest = res) ∨ (bad = true ∧ res = none)
theorem rel_next {jj n z2 : Nat} {L : List FileV} {rest rj : List Nat} {res : Option (List FileV × List Nat)} {s : ByteArray} {resP : Option (Pcs × List Nat)} {done : Pcs} {badj : Bool} (hMG : manyGo (cutFile BR) (jj + 1) L rest = res) (hP : cutFile BR rest = fileOf s z2 resP) (hR : RelB (cutPiece 4095 4096) n done rj badj resP) (hn : badj = false → n = 0) : RelB (cutFile BR) jj (L ++ [⟨s, z2, done⟩]) rj badj res := by
  rcases hR with ⟨h1, h2⟩ | ⟨h1, h2⟩
  · rw [hn h1, manyGo_end] at h2
    rw [← h2] at hP
    exact .inl ⟨h1, by rw [← hMG, manyGo_some hP]⟩
  · rw [h2] at hP
    exact .inr ⟨h1, by rw [← hMG]; exact manyGo_none hP⟩
theorem relP_next {n z4 z5 : Nat} {done : Pcs} {rj r8 r10 : List Nat} {bad8 bad10 : Bool} {resP : Option (Pcs × List Nat)} (hR : RelB (cutPiece 4095 4096) (n + 1) done rj false resP) (h8 : (cutNum (4096 - 1) rj = some (z4, r8) ∧ bad8 = false) ∨ (cutNum (4096 - 1) rj = none ∧ bad8 = true)) (h10 : (cutNum (4097 - 1) r8 = some (z5, r10) ∧ bad10 = bad8) ∨ (cutNum (4097 - 1) r8 = none ∧ bad10 = true)) :
    RelB (cutPiece 4095 4096) n (done ++ [((z4 : Int), (z5 : Int))]) r10 bad10 resP := by
  have hm : manyGo (cutPiece 4095 4096) (n + 1) done rj = resP := by
    rcases hR with ⟨_, h⟩ | ⟨h, _⟩
    · exact h
    · cases h
  rcases h8 with ⟨g8, rfl⟩ | ⟨g8, rfl⟩
  · rcases h10 with ⟨g10, rfl⟩ | ⟨g10, rfl⟩
    · exact .inl ⟨rfl, by rw [← hm, manyGo_some (cutPiece_yes g8 g10)]⟩
    · exact .inr ⟨rfl, by rw [← hm]; exact manyGo_none (cutPiece_no2 g8 g10)⟩
  · refine .inr ⟨?_, by rw [← hm]; exact manyGo_none (cutPiece_no1 g8)⟩
    rcases h10 with ⟨_, rfl⟩ | ⟨_, rfl⟩ <;> rfl
theorem cut_toldR {xs r : List Nat} {l : List FileV} (hb : Byt xs) (h : cutFiles BR xs = some (l, r)) : ((∀ f ∈ l, f.name.size ≤ xs.length) ∧ (allPcs l).length ≤ xs.length) ∧ (∀ f ∈ l, wf64 f.size ∧ Wf f.pcs) := by
  have h1 := cutFiles_only hb h
  have h2 := files_le l
  have h3 : (l.flatMap fileN).length ≤ xs.length := by
    rw [h1]; unfold insideN; simp only [List.length_append]; omega
  refine ⟨⟨fun f hf => Nat.le_trans (h2.1 f hf) h3, Nat.le_trans h2.2 h3⟩, ?_⟩
  unfold cutFiles at h
  split at h
  · cases h
  · rename_i n r1 e1
    obtain ⟨g1, _⟩ := cutNum_only hb e1
    obtain ⟨_, _, g4⟩ := cutMany_only (g := fileN) (Q := fun f => (0 ≤ f.size ∧ f.size ≤ BR.size) ∧ f.pcs.length ≤ BR.many ∧ ∀ p ∈ f.pcs, (0 ≤ p.1 ∧ p.1 ≤ BR.lo) ∧ (0 ≤ p.2 ∧ p.2 ≤ BR.count)) (fun b x r hb h => cutFile_only hb h) n r1 l r (Byt.app (g1 ▸ hb)) h
    intro f hf
    obtain ⟨k1, _, k3⟩ := g4 f hf
    simp only [BR] at k1 k3
    refine ⟨⟨by omega, by omega⟩, fun p hp => ?_⟩
    have := k3 p hp
    omega
theorem isDir_isR {y : DirV} {xs r : List Nat} {l : List FileV} {G : Int} (hG : ((beg8 xs : Nat) : Int) = G) (h : IsDir ltS y xs) (hc : cutFiles BR (innerN xs 8) = some (l, r)) : y = ⟨G, l⟩ := by
  obtain ⟨r', h1, h2⟩ := isDir_cut bokBR h
  rw [hc] at h1
  simp only [Option.some.injEq, Prod.mk.injEq] at h1
  have g := (isDir_sec h (i := 0) (by omega)).1
  rw [beg8_sec0 xs] at g
  have a1 := h.1.lo
  obtain ⟨gy, fy⟩ := y
  simp only at h1 g a1
  rw [h1.1, ← hG, show gy = (beg8 xs : Int) from by omega]
theorem noDir_cut {xs : List Nat} (h : cutFiles BR (innerN xs 8) = none) : ∀ x, ¬ IsDir ltS x xs := fun x hx => by
  obtain ⟨_, h1, _⟩ := isDir_cut bokBR hx
  rw [h] at h1; cases h1
theorem noDir_gen {xs : List Nat} {G : Int} (hG : ((beg8 xs : Nat) : Int) = G) (h : 4611686018427387904 ≤ G) : ∀ x, ¬ IsDir ltS x xs := fun x hx => by
  have g := (isDir_sec hx (i := 0) (by omega)).1
  rw [beg8_sec0 xs] at g
  have a1 := hx.1.lo
  have a2 := hx.1.hi
  omega
end Go.Proofs.YtkgmhmhphgaclabGreatDoor
namespace Go.Proofs.YtkgmhmhphgaclabGreatDoor
open Go.RowKit Go.WideShapes Rm

end Go.Proofs.YtkgmhmhphgaclabGreatDoor
namespace Go.Proofs.YtkgmhmhphgaclabGreatDoor
open Go.RowKit Go.WideShapes Go.ChangeShapes Go.Deep Go.Joins Rm

section
variable {P : Program} {w : World} {H : Type} {enc : TypeId × Value → H}

theorem open_files {t e tp ep : TypeId} {f0 f1 f2 p0 p1 : Field} {n : Nat} {v : Value} {x : DataW H × List MemPlace} (ht : P.underlying t = some (.slice e)) (he : P.underlying e = some (.struct #[f0, f1, f2])) (ce : P.cellsOf e = 3)
    (o0 : f0.offset = 0) (o1 : f1.offset = 1) (o2 : f2.offset = 2) (c0 : P.cellsOf f0.type = 1) (c1 : P.cellsOf f1.type = 1) (c2 : P.cellsOf f2.type = 1) (k0 : P.underlying f0.type = some .string) (k1 : P.underlying f1.type = some (.int .i64)) (k2 : f2.type = tp)
    (htp : P.underlying tp = some (.slice ep)) (hep : P.underlying ep = some (.struct #[p0, p1])) (cep : P.cellsOf ep = 2) (q0 : p0.offset = 0) (q1 : p1.offset = 1) (d0 : P.cellsOf p0.type = 1) (d1 : P.cellsOf p1.type = 1) (m0 : P.underlying p0.type = some (.int .i64)) (m1 : P.underlying p1.type = some (.int .i64))
    (h : DataW.trod enc P w 0 (fun _ => true) true n t [v] = some x) : ∃ l, FIn w v l ∧ ∀ f ∈ l, f.name.size ≤ maxLen := by
  subst k2
  rcases open_slice ht h with ⟨hcs, _⟩ | ⟨a, len, cap, m, k, D, Pl, hcs, _, hl, hm, hmm, _, hel⟩
  · simp only [List.cons.injEq, and_true] at hcs
    exact ⟨[], ⟨⟨none, 0, hcs, fun h => absurd h (by simp), by simp, by unfold maxLen; omega, fun _ => rfl⟩, by simp⟩, by simp⟩
  · simp only [List.cons.injEq, and_true] at hcs
    have hmc : m = cap := by simpa using hmm
    have each : ∀ i, i < len → ∃ y : FileV × Value, w.cell? (a.add (i * 3)) = some (.string y.1.name) ∧ w.cell? (a.add (i * 3 + 1)) = some (.int .i64 y.1.size) ∧ w.cell? (a.add (i * 3 + 2)) = some y.2 ∧ PIn w y.2 y.1.pcs ∧ wf64 y.1.size ∧ y.1.name.size ≤ maxLen := by
      intro i hi
      obtain ⟨cs', g1, g2⟩ := hel i (by omega)
      rw [ce] at g1
      obtain ⟨_, hlen, hcell⟩ := World.cells?_some g1
      obtain ⟨xs, k', hk, hxy, _, hxl, hf⟩ := DataW.trod_struct he g2
      match xs, hxl, cs', hlen with
      | [y0, y1, y2], _, [v0, v1, v2], _ =>
        have r0 := hf 0 f0 rfl
        have r1 := hf 1 f1 rfl
        have r2 := hf 2 f2 rfl
        simp [o0, o1, o2, c0, c1, c2] at r0 r1 r2
        have e0 := hcell 0 (by omega)
        have e1 := hcell 1 (by omega)
        have e2 := hcell 2 (by omega)
        rw [add_add] at e0 e1 e2
        obtain ⟨s, hs, _, hsz⟩ := DataW.trod_string k0 r0
        obtain ⟨z, hz, _, wz⟩ := DataW.trod_int k1 r1
        obtain ⟨l, hp⟩ := open_pcs htp hep cep q0 q1 d0 d1 m0 m1 r2
        simp only [List.cons.injEq, and_true] at hs hz
        subst hs hz
        exact ⟨(⟨s, z, l⟩, v2), by simpa using e0, by simpa using e1, by simpa using e2, hp, bounds_i64 wz, hsz⟩
    haveI : Inhabited (FileV × Value) := ⟨(zeroF, .nilIface)⟩
    obtain ⟨f, hf⟩ := choose_lt each
    have hlen : ((List.range len).map fun i => (f i).1).length = len := by simp
    have hget : ∀ i, i < len → ((List.range len).map fun i => (f i).1).getD i zeroF = (f i).1 := by intro i hi; simp [List.getD, hi]
    refine ⟨(List.range len).map fun i => (f i).1, ⟨⟨some a, cap, by rw [hlen]; exact hcs, fun hp => ?_, by rw [hlen]; exact hl, hm, by simp⟩, ?_⟩, ?_⟩
    · rw [hlen] at hp
      obtain ⟨b, o, s⟩ := a
      obtain rfl : s = none := by
        have := World.cell?_spot (hf 0 (by omega)).1
        simpa [Addr.add] using this
      refine ⟨b, o, rfl, fun i hi => ?_⟩
      rw [hlen] at hi
      obtain ⟨e0, e1, e2, e3, _⟩ := hf i hi
      rw [hget i hi]
      rw [add_plain] at e0 e1 e2
      exact ⟨e0, e1, (f i).2, e2, e3⟩
    · intro y hy
      simp only [List.mem_map, List.mem_range] at hy
      obtain ⟨i, hi, rfl⟩ := hy
      exact (hf i hi).2.2.2.2.1
    · intro y hy
      simp only [List.mem_map, List.mem_range] at hy
      obtain ⟨i, hi, rfl⟩ := hy
      exact (hf i hi).2.2.2.2.2
end
end Go.Proofs.YtkgmhmhphgaclabGreatDoor
