/-
  Contract of the document's Read.
-/
import Derived.Test.YtglcpfnpbcnejaaGreatDoorJ13
import Derived.Test.YtglcpfnpbcnejaaGreatDoorJ15
namespace Go.Proofs.YtglcpfnpbcnejaaGreatDoor
open Go.RowKit Go.WideShapes Rm

set_option maxHeartbeats 1000000 in
theorem rnumber_none (R bound : Nat) (vb : Value) (bad : Bool) (xs : List Nat) (w : World) (hv : RowT w vb xs) (hB : 0 < bound ∧ bound < 1000000) (c0 : w.cell? ⟨R, 0, none⟩ = some vb) (c1 : w.cell? ⟨R, 1, none⟩ = some (.bool bad)) (f1 : w.frozen? ⟨R, 1, none⟩ = false) (h : cutNum (bound - 1) xs = none) :
    Calls Tryz.prog 145 #[.pointer (some ⟨R, 0, none⟩), .int .u64 bound] w fun e w' => e = .returned (.int .i64 0) ∧ w' = w.setCell ⟨R, 1, none⟩ (.bool true) := by
  obtain ⟨p, c, rfl, hb, hlc, hcm, _⟩ := hv.row.lies
  rcases cutNum_cases (bound - 1) xs with ⟨h1, _⟩ | ⟨n, k, h1, h2, _⟩ | ⟨n, k, _, _, h3⟩
  · have hrd := refRead_none p xs.length c xs w rfl hb (by omega) h1
    clear h h1 hb hv
    go_enter Tryz.func145, Tryz.ntmps145
    go_wp2_with fail
    refine hrd.mono ?_
    rintro e w1 ⟨rfl, rfl⟩
    go_wp2
    go_ret
    exact ⟨rfl, rfl⟩
  · have hrd := refRead_some p xs.length c xs w n k rfl hb (by omega) h1
    have hge : bound ≤ n := by omega
    clear h h1 hb hv h2
    go_enter Tryz.func145, Tryz.ntmps145
    go_wp2_with fail
    refine hrd.mono ?_
    rintro e w1 ⟨rfl, rfl⟩
    go_wp2
    go_ret
    exact ⟨rfl, rfl⟩
  · rw [h3] at h; cases h
set_option maxHeartbeats 1000000 in
theorem rnumber_some (R bound : Nat) (vb : Value) (xs r : List Nat) (n : Nat) (w : World) (hv : RowT w vb xs) (hB : 0 < bound ∧ bound < 1000000) (c0 : w.cell? ⟨R, 0, none⟩ = some vb) (f0 : w.frozen? ⟨R, 0, none⟩ = false) (h : cutNum (bound - 1) xs = some (n, r)) :
    Calls Tryz.prog 145 #[.pointer (some ⟨R, 0, none⟩), .int .u64 bound] w fun e w' => ∃ v', e = .returned (.int .i64 n) ∧ Carry vb xs v' r ∧ w' = w.setCell ⟨R, 0, none⟩ v' := by
  obtain ⟨p, c, rfl, hb, hlc, hcm, hpn⟩ := hv.row.lies
  rcases cutNum_cases (bound - 1) xs with ⟨_, h1⟩ | ⟨_, _, _, _, h1⟩ | ⟨n', k, h1, h2, h3⟩
  · rw [h1] at h; cases h
  · rw [h1] at h; cases h
  · rw [h3] at h
    simp only [Option.some.injEq, Prod.mk.injEq] at h
    obtain ⟨rfl, rfl⟩ := h
    obtain ⟨k1, k2, k3, k4⟩ := readN_some h1
    obtain ⟨b, o, rfl, _⟩ := hb.1 (by omega)
    have hrd := refRead_some _ xs.length c xs w n' k rfl hb (by omega) h1
    have HC : Hid (Carry (.slice (some ⟨b, o, none⟩) xs.length c) xs (.slice (if c = k then some ⟨b, o, none⟩ else some ⟨b, o + k, none⟩) (xs.length - k) (c - k)) (xs.drop k)) := carry_sub (b := b) (o := o) hlc k2
    unfold maxLen at hcm
    have hlt : n' < bound := by omega
    have hw : IntKind.i64.wrap (n' : Int) = (n' : Int) := by rw [IntKind.wrap_i64]; omega
    clear h1 h3 hb hv
    go_enter Tryz.func145, Tryz.ntmps145
    go_wp2_with fail
    refine hrd.mono ?_
    rintro e w1 ⟨rfl, rfl⟩
    by_cases hck : c = k
    · have HC2 : Hid _ := HC.out
      rw [if_pos hck, show c - k = 0 from by omega] at HC2
      clear HC
      go_wp2
      go_ret
      exact ⟨_, rfl, HC2.out, rfl⟩
    · have HC2 : Hid _ := HC.out
      rw [if_neg hck] at HC2
      clear HC
      go_wp2
      go_ret
      exact ⟨_, rfl, HC2.out, rfl⟩
end Go.Proofs.YtglcpfnpbcnejaaGreatDoor
namespace Go.Proofs.YtglcpfnpbcnejaaGreatDoor
open Go.RowKit Go.WideShapes Rm

/-- One block is written, all else stays. -/
structure Upd (R : Nat) (w w' : World) : Prop where
  oth : ∀ k, k ≠ R → w'.heap[k]? = w.heap[k]?
  size : w'.heap.size = w.heap.size
  os : w'.os = w.os
  tape : w'.tape = w.tape
  output : w'.output = w.output
theorem Upd.set (w : World) (R i : Nat) (u : Value) : Upd R w (w.setCell ⟨R, i, none⟩ u) :=
  ⟨fun k hk => Below.heap_setCell _ _ _ _ hk, by simp [World.setCell], rfl, rfl, rfl⟩
theorem Upd.below {R B : Nat} {w0 w w' : World} (h : Upd R w w') (hb : Below B w0 w) (hR : B ≤ R) : Below B w0 w' :=
  hb.trans ⟨h.os, h.tape, h.output, by rw [h.size]; exact Nat.le_refl _, fun k hk => h.oth k (by omega)⟩
theorem Upd.rowT {R : Nat} {w w' : World} {v : Value} {xs : List Nat} {C : Array Value} {t : TypeId} {fr : Nat × Nat} (h : Upd R w w') (hR : w.heap[R]? = some (.cells C t fr)) (ht : t ≠ 5) (hv : RowT w v xs) : RowT w' v xs := by
  refine hv.keep fun b C' fr' hb => h.oth b ?_
  rintro rfl
  rw [hR] at hb
  simp only [Option.some.injEq, Obj.cells.injEq] at hb
  exact ht hb.2.1
theorem Upd.own {R base n s : Nat} {e : TypeId} {w w' : World} {v : Value} {xs : List Value} (h : Upd R w w') (ho : w.ownsRow base e s v n xs) (hR : R < base) : w'.ownsRow base e s v n xs :=
  own_keepB ho fun k hk _ => h.oth k (by omega)
theorem heap_set0 {w : World} {R : Nat} {a b : Value} {t : TypeId} {fr : Nat × Nat} (h : w.heap[R]? = some (.cells #[a, b] t fr)) (u : Value) : (w.setCell ⟨R, 0, none⟩ u).heap[R]? = some (.cells #[u, b] t fr) := by
  simp only [World.setCell, Array.getElem?_modify, h, if_true]
  rfl
theorem heap_set1 {w : World} {R : Nat} {a b : Value} {t : TypeId} {fr : Nat × Nat} (h : w.heap[R]? = some (.cells #[a, b] t fr)) (u : Value) : (w.setCell ⟨R, 1, none⟩ u).heap[R]? = some (.cells #[a, u] t fr) := by
  simp only [World.setCell, Array.getElem?_modify, h, if_true]
  rfl
theorem frozen_row {w : World} {R i : Nat} {C : Array Value} {t : TypeId} (h : w.heap[R]? = some (.cells C t (0, 0))) : w.frozen? ⟨R, i, none⟩ = false := by
  simp [World.frozen?, h]
/-- What number answers, whatever stands there. -/
structure NumPost (R bound : Nat) (w : World) (vb : Value) (xs : List Nat) (bad : Bool) (e : Ending) (w' : World) : Prop where
  out : ∃ (z : Nat) (vb' : Value) (xs' : List Nat) (bad' : Bool), e = .returned (.int .i64 z) ∧ z < bound ∧ Upd R w w' ∧ w'.heap[R]? = some (.cells #[vb', .bool bad'] 220 (0, 0)) ∧ Carry vb xs vb' xs' ∧ xs'.length ≤ xs.length ∧
    ((cutNum (bound - 1) xs = some (z, xs') ∧ bad' = bad) ∨ (cutNum (bound - 1) xs = none ∧ bad' = true))
theorem rnumber_u (R bound : Nat) (vb : Value) (bad : Bool) (xs : List Nat) (w : World) (hv : RowT w vb xs) (hB : 0 < bound ∧ bound < 1000000) (hR : w.heap[R]? = some (.cells #[vb, .bool bad] 220 (0, 0))) :
    Calls Tryz.prog 145 #[.pointer (some ⟨R, 0, none⟩), .int .u64 bound] w fun e w' => NumPost R bound w vb xs bad e w' := by
  have c0 : w.cell? ⟨R, 0, none⟩ = some vb := cell_of_row _ _ _ _ _ _ hR
  have c1 : w.cell? ⟨R, 1, none⟩ = some (.bool bad) := cell_of_row _ _ _ _ _ _ hR
  cases h : cutNum (bound - 1) xs with
  | none =>
    refine (rnumber_none R bound vb bad xs w hv hB c0 c1 (frozen_row hR) h).mono ?_
    rintro e w' ⟨rfl, rfl⟩
    exact ⟨⟨0, vb, xs, true, rfl, hB.1, Upd.set _ _ _ _, heap_set1 hR _, fun _ hw => hw, Nat.le_refl _, .inr ⟨h, rfl⟩⟩⟩
  | some nr =>
    obtain ⟨n, r⟩ := nr
    refine (rnumber_some R bound vb xs r n w hv hB c0 (frozen_row hR) h).mono ?_
    rintro e w' ⟨v', rfl, hc, rfl⟩
    obtain ⟨h1, h2⟩ := cutNum_only hv.byt h
    have hl : r.length ≤ xs.length := by rw [h1, List.length_append]; omega
    exact ⟨⟨n, v', r, bad, rfl, by omega, Upd.set _ _ _ _, heap_set0 hR _, hc, hl, .inl ⟨h, rfl⟩⟩⟩
end Go.Proofs.YtglcpfnpbcnejaaGreatDoor
namespace Go.Proofs.YtglcpfnpbcnejaaGreatDoor
open Go.RowKit Go.WideShapes Rm

/-- What there was stays, but for one block. -/
structure Agr (R : Nat) (w w' : World) : Prop where
  blk : ∀ k, k < w.heap.size → k ≠ R → w'.heap[k]? = w.heap[k]?
  size : w.heap.size ≤ w'.heap.size
  os : w'.os = w.os
  tape : w'.tape = w.tape
  output : w'.output = w.output
theorem Agr.refl (R : Nat) (w : World) : Agr R w w := ⟨fun _ _ _ => rfl, Nat.le_refl _, rfl, rfl, rfl⟩
theorem Agr.trans {R : Nat} {a b c : World} (h : Agr R a b) (k : Agr R b c) : Agr R a c :=
  ⟨fun i hi hn => (k.blk i (Nat.lt_of_lt_of_le hi h.size) hn).trans (h.blk i hi hn), Nat.le_trans h.size k.size, k.os.trans h.os, k.tape.trans h.tape, k.output.trans h.output⟩
theorem Upd.agr {R : Nat} {w w' : World} (h : Upd R w w') : Agr R w w' := ⟨fun k _ hn => h.oth k hn, by rw [h.size]; exact Nat.le_refl _, h.os, h.tape, h.output⟩
theorem agr_below (R : Nat) {w w' : World} (h : Below w.heap.size w w') : Agr R w w' := ⟨fun k hk _ => h.block k hk, h.size, h.os, h.tape, h.output⟩
theorem agr_alloc (R : Nat) (w : World) (o : Obj) : Agr R w (w.alloc o) := agr_below R (below_alloc w o)
theorem Agr.fresh {R : Nat} {w w' : World} (h : Agr R w w') {P : Nat} (hP : w.heap.size ≤ P) (i : Nat) (u : Value) : Agr R w (w'.setCell ⟨P, i, none⟩ u) :=
  ⟨fun k hk hn => (Below.heap_setCell _ _ _ _ (by simp; omega)).trans (h.blk k hk hn), by simpa [World.setCell] using h.size, h.os, h.tape, h.output⟩
theorem Agr.grown {R : Nat} {w a b : World} {row : Option Nat} (h : Agr R w a) (hg : a.grownBy b row) (hr : ∀ k, row = some k → w.heap.size ≤ k) : Agr R w b :=
  ⟨fun k hk hn => (hg.block k (Nat.lt_of_lt_of_le hk h.size) (fun e => by have := hr k e.symm; omega)).trans (h.blk k hk hn), Nat.le_trans h.size hg.size, hg.os.trans h.os, hg.tape.trans h.tape, hg.output.trans h.output⟩
theorem Agr.own {R base n s : Nat} {e : TypeId} {w w' : World} {v : Value} {xs : List Value} (h : Agr R w w') (ho : w.ownsRow base e s v n xs) (hR : R < base) : w'.ownsRow base e s v n xs :=
  own_keepB ho fun k hk hl => h.blk k hl (by omega)
theorem Agr.fown {R base : Nat} {w w' : World} {v : Value} {ls : FPs} (h : Agr R w w') (ho : FOwn w base v ls) (hR : R < base) : FOwn w' base v ls :=
  ho.keepB fun k hk hl => h.blk k hl (by omega)
theorem Agr.below {R B : Nat} {w0 w w' : World} (h : Agr R w w') (hb : Below B w0 w) (hB : B ≤ w.heap.size) (hR : B ≤ R) : Below B w0 w' :=
  hb.trans ⟨h.os, h.tape, h.output, h.size, fun k hk => h.blk k (by omega) (by omega)⟩
def BR : Bnds := ⟨32, 524288, 4096, 4095, 4096⟩
theorem bokBR : Bok BR := ⟨by simp [BR], by simp [BR], by simp [BR], by simp [BR], by simp [BR]⟩
/-- Between two files: X the block of the directory, X + 1 that of the reader. -/
structure OS (w1 wr : World) (G : Int) (lv : Value) (ls : FPs) (vb : Value) (rest : List Nat) (bad : Bool) : Prop where
  bel : Below w1.heap.size w1 wr
  x : wr.heap[w1.heap.size]? = some (.cells #[.int .i64 G, lv] 31 (0, 0))
  r : wr.heap[w1.heap.size + 1]? = some (.cells #[vb, .bool bad] 220 (0, 0))
  fo : FOwn wr (w1.heap.size + 2) lv ls
  row : RowT wr vb rest
  len : rest.length ≤ 100000
theorem OS.size {w1 wr : World} {G : Int} {lv : Value} {ls : FPs} {vb : Value} {rest : List Nat} {bad : Bool} (h : OS w1 wr G lv ls vb rest bad) : w1.heap.size + 2 ≤ wr.heap.size := by have := lt_heap h.r; omega
theorem OS.call {w1 wr w2 : World} {G : Int} {lv : Value} {ls : FPs} {vb : Value} {rest : List Nat} {bad : Bool} (h : OS w1 wr G lv ls vb rest bad) (hb : Below wr.heap.size wr w2) : OS w1 w2 G lv ls vb rest bad :=
  ⟨h.bel.trans (hb.mono h.bel.size), (hb.block _ (lt_heap h.x)).trans h.x, (hb.block _ (lt_heap h.r)).trans h.r, h.fo.below hb, h.row.below hb, h.len⟩
theorem OS.upd {w1 wr w2 : World} {G : Int} {lv : Value} {ls : FPs} {vb vb' : Value} {rest rest' : List Nat} {bad bad' : Bool} (h : OS w1 wr G lv ls vb rest bad) (u : Upd (w1.heap.size + 1) wr w2) (hR : w2.heap[w1.heap.size + 1]? = some (.cells #[vb', .bool bad'] 220 (0, 0))) (hr : RowT wr vb' rest') (hl : rest'.length ≤ 100000) : OS w1 w2 G lv ls vb' rest' bad' :=
  ⟨u.below h.bel (by omega), (u.oth _ (by omega)).trans h.x, hR, u.agr.fown h.fo (by omega), u.rowT h.r (by decide) hr, hl⟩
/-- Between two pieces of a file, whose block is the first behind wa. -/
structure IS (R : Nat) (wa wr : World) (nm : ByteArray) (sz : Int) (pv : Value) (done : Pcs) (vb : Value) (rest : List Nat) (bad : Bool) : Prop where
  agr : Agr R wa wr
  r : wr.heap[R]? = some (.cells #[vb, .bool bad] 220 (0, 0))
  f : wr.heap[wa.heap.size]? = some (.cells #[.string nm, .int .i64 sz, pv] 51 (0, 0))
  po : POwn wr (wa.heap.size + 1) pv done
  row : RowT wr vb rest
  len : rest.length ≤ 100000
theorem IS.upd {R : Nat} {wa wr w2 : World} {nm : ByteArray} {sz : Int} {pv : Value} {done : Pcs} {vb vb' : Value} {rest rest' : List Nat} {bad bad' : Bool} (h : IS R wa wr nm sz pv done vb rest bad) (hRa : R < wa.heap.size) (u : Upd R wr w2) (hR : w2.heap[R]? = some (.cells #[vb', .bool bad'] 220 (0, 0))) (hr : RowT wr vb' rest') (hl : rest'.length ≤ 100000) : IS R wa w2 nm sz pv done vb' rest' bad' :=
  ⟨h.agr.trans u.agr, hR, (u.oth _ (by omega)).trans h.f, u.own h.po (by omega), u.rowT h.r (by decide) hr, hl⟩
theorem IS.call {R : Nat} {wa wr w2 : World} {nm : ByteArray} {sz : Int} {pv : Value} {done : Pcs} {vb : Value} {rest : List Nat} {bad : Bool} (h : IS R wa wr nm sz pv done vb rest bad) (hb : Below wr.heap.size wr w2) : IS R wa w2 nm sz pv done vb rest bad :=
  ⟨h.agr.trans (agr_below R hb), (hb.block _ (lt_heap h.r)).trans h.r, (hb.block _ (lt_heap h.f)).trans h.f, h.po.below hb, h.row.below hb, h.len⟩
theorem heap_set2 {w : World} {R : Nat} {a b c : Value} {t : TypeId} {fr : Nat × Nat} (h : w.heap[R]? = some (.cells #[a, b, c] t fr)) (u : Value) : (w.setCell ⟨R, 2, none⟩ u).heap[R]? = some (.cells #[a, b, u] t fr) := by
  simp only [World.setCell, Array.getElem?_modify, h, if_true]
  rfl
/-- A piece is put behind those that are there. -/
theorem IS.put {R : Nat} {wa wr w8 w10 : World} {nm : ByteArray} {sz : Int} {pv pv' : Value} {done : Pcs} {p : Int × Int} {vb : Value} {rest : List Nat} {bad : Bool} (h : IS R wa wr nm sz pv done vb rest bad) (hRa : R < wa.heap.size)
    (h8 : Agr R wr w8) (h8r : w8.heap[R]? = wr.heap[R]?) (row8 : RowT w8 vb rest) (po : POwn w10 (wa.heap.size + 1) pv' (done ++ [p])) (hg : w8.grownBy w10 pv.ownBlock) (ho : POwn w8 (wa.heap.size + 1) pv done) :
    IS R wa (w10.setCell ⟨wa.heap.size, 2, none⟩ pv') nm sz pv' (done ++ [p]) vb rest bad := by
  have hf := lt_heap h.f
  have h8f : w8.heap[wa.heap.size]? = wr.heap[wa.heap.size]? := h8.blk _ hf (by omega)
  have nf : ∀ k, k < w8.heap.size → k ≤ wa.heap.size → w10.heap[k]? = w8.heap[k]? := fun k hk hle => hg.block k hk (fun e => by have := (ho.lt k e.symm).1; omega)
  have h10f : w10.heap[wa.heap.size]? = some (.cells #[.string nm, .int .i64 sz, pv] 51 (0, 0)) := (nf _ (by have := h8.size; omega) (Nat.le_refl _)).trans (h8f.trans h.f)
  refine ⟨?_, ?_, heap_set2 h10f _, ?_, ?_, h.len⟩
  · exact ((h.agr.trans h8).grown hg (fun k hk => by have := (ho.lt k hk).1; omega)).fresh (Nat.le_refl _) _ _
  · rw [Below.heap_setCell _ _ _ _ (by simp; omega), nf R (by have := h8.size; omega) (by omega), h8r, h.r]
  · exact own_keepB po fun k hk _ => Below.heap_setCell _ _ _ _ (by simp; omega)
  · have r10 : RowT w10 vb rest := row8.grown ho (by decide) hg
    exact (Upd.set w10 wa.heap.size 2 pv').rowT h10f (by decide) r10
theorem IS.setP {R P : Nat} {wa wr : World} {nm : ByteArray} {sz : Int} {pv : Value} {done : Pcs} {vb : Value} {rest : List Nat} {bad : Bool} {C : Array Value} {t : TypeId} {fr : Nat × Nat} (h : IS R wa wr nm sz pv done vb rest bad) (hRa : R < wa.heap.size) (hP : wa.heap.size < P) (hne : pv.ownBlock ≠ some P) (hb : wr.heap[P]? = some (.cells C t fr)) (ht : t ≠ 5) (i : Nat) (u : Value) :
    IS R wa (wr.setCell ⟨P, i, none⟩ u) nm sz pv done vb rest bad := by
  refine ⟨h.agr.fresh (by omega) _ _, (Below.heap_setCell _ _ _ _ (by simp; omega)).trans h.r, (Below.heap_setCell _ _ _ _ (by simp; omega)).trans h.f, ?_, (Upd.set wr P i u).rowT hb ht h.row, h.len⟩
  refine ⟨h.po.1, ?_⟩
  rcases h.po.2 with h' | ⟨g, cap, cur, h1, h2, h3, h4⟩
  · exact .inl h'
  · refine .inr ⟨g, cap, cur, h1, h2, (Below.heap_setCell _ _ _ _ ?_).trans h3, h4⟩
    rintro rfl
    exact hne (by rw [h1]; rfl)
/-- A file is put behind those that are there. -/
theorem OS.put {w1 w5 wr w15 w16 : World} {G : Int} {lv lv' : Value} {ls ls' : FPs} {vb5 vb : Value} {r5 rest : List Nat} {bad5 bad : Bool} {nm : ByteArray} {sz : Int} {pv : Value} {done : Pcs} (h : OS w1 w5 G lv ls vb5 r5 bad5) (hi : IS (w1.heap.size + 1) w5 wr nm sz pv done vb rest bad)
    (h15 : Below wr.heap.size wr w15) (hg : w15.grownBy w16 lv.ownBlock) (ho : FOwn w15 (w1.heap.size + 2) lv ls) (fo : FOwn w16 (w1.heap.size + 2) lv' ls') : OS w1 (w16.setCell ⟨w1.heap.size, 1, none⟩ lv') G lv' ls' vb rest bad := by
  have hs5 := h.size
  have nf : ∀ k, k < w15.heap.size → k < w1.heap.size + 2 → w16.heap[k]? = w15.heap[k]? := fun k hk hle => hg.block k hk (fun e => by have := (ho.row.lt k e.symm).1; omega)
  have hsr := hi.agr.size
  have hs15 := h15.size
  have x16 : w16.heap[w1.heap.size]? = some (.cells #[.int .i64 G, lv] 31 (0, 0)) := by
    rw [nf _ (by omega) (by omega), h15.block _ (by omega), hi.agr.blk _ (by omega) (by omega)]; exact h.x
  refine ⟨?_, heap_set1 x16 _, ?_, fo.keepB (fun k hk _ => Below.heap_setCell _ _ _ _ (by simp; omega)), ?_, hi.len⟩
  · refine Below.setCell (p := ⟨w1.heap.size, 1, none⟩) ?_ (Nat.le_refl _) _
    refine ((hi.agr.below h.bel (by omega) (by omega)).trans (h15.mono (by omega))).grown hg (by omega) (fun k hk => by have := (ho.row.lt k hk).1; omega)
  · rw [Below.heap_setCell _ _ _ _ (by simp), nf _ (by omega) (by omega), h15.block _ (by omega)]; exact hi.r
  · have r16 : RowT w16 vb rest := (hi.row.below h15).grown ho.row (by decide) hg
    exact (Upd.set w16 w1.heap.size 1 lv').rowT x16 (by decide) r16
end Go.Proofs.YtglcpfnpbcnejaaGreatDoor
namespace Go.Proofs.YtglcpfnpbcnejaaGreatDoor
open Go.RowKit Go.WideShapes Rm

theorem rcut4_none (v : Value) (xs : List Nat) (w : World) (hv : RowT w v xs) (h : cutText xs = none) :
    Calls Tryz.prog 146 #[v] w fun e w' => e = .returned (.tuple #[.string ByteArray.empty, .slice none 0 0, .int .i64 8]) ∧ w' = w := by
  obtain ⟨p, c, rfl, hb, hlc, hcm, _⟩ := hv.row.lies
  rcases cutText_none h with h1 | ⟨n, k, h1, h2⟩
  · exact refCut_none p c xs w hb (by omega) h1
  · exact refCut_long p c xs w hb (by omega) n k h1 h2
theorem rcut4_some (v : Value) (xs r : List Nat) (s : ByteArray) (w : World) (hv : RowT w v xs) (hx : xs.length ≤ 100000) (h : cutText xs = some (s, r)) :
    Calls Tryz.prog 146 #[v] w fun e w' => ∃ v', e = .returned (.tuple #[.string s, v', .int .i64 0]) ∧ RowT w' v' r ∧ Below w.heap.size w w' := by
  obtain ⟨p, c, rfl, hb, hlc, hcm, _⟩ := hv.row.lies
  obtain ⟨n, k, h1, h2, rfl, rfl⟩ := cutText_some h
  refine (refCut_ok p c xs w hb hx hlc n k h1 h2).mono ?_
  rintro e w' ⟨v', rfl, ho, hb'⟩
  exact ⟨v', rfl, own_rowT ho (fun x hx => hb.2 x (List.mem_of_mem_drop hx)), hb'⟩
def fileOf (s : ByteArray) (z : Nat) : Option (Pcs × List Nat) → Option (FileV × List Nat)
  | none => none
  | some (l, r) => some (⟨s, z, l⟩, r)
/-- A file, number by number, with the document's bounds. -/
theorem cutFile_steps {xs r1 r2 r3 : List Nat} {s : ByteArray} {z2 z3 : Nat} (h1 : cutText xs = some (s, r1)) (h2 : cutNum 524288 r1 = some (z2, r2)) (h3 : cutNum 4096 r2 = some (z3, r3)) :
    cutFile BR xs = fileOf s z2 (cutMany (cutPiece 4095 4096) z3 r3) := by
  unfold cutFile
  rw [h1]
  simp only [BR, h2, h3]
  cases cutMany (cutPiece 4095 4096) z3 r3 <;> rfl
theorem cutFile_no1 {xs : List Nat} (h1 : cutText xs = none) : cutFile BR xs = none := by
  unfold cutFile; rw [h1]
theorem cutFile_no2 {xs r1 : List Nat} {s : ByteArray} (h1 : cutText xs = some (s, r1)) (h2 : cutNum 524288 r1 = none) : cutFile BR xs = none := by
  unfold cutFile; rw [h1]; simp [BR, h2]
theorem cutFile_no3 {xs r1 r2 : List Nat} {s : ByteArray} {z2 : Nat} (h1 : cutText xs = some (s, r1)) (h2 : cutNum 524288 r1 = some (z2, r2)) (h3 : cutNum 4096 r2 = none) : cutFile BR xs = none := by
  unfold cutFile; rw [h1]; simp [BR, h2, h3]
theorem cutPiece_no1 {xs : List Nat} (h1 : cutNum 4095 xs = none) : cutPiece 4095 4096 xs = none := by unfold cutPiece; rw [h1]
theorem cutPiece_no2 {xs r : List Nat} {n : Nat} (h1 : cutNum 4095 xs = some (n, r)) (h2 : cutNum 4096 r = none) : cutPiece 4095 4096 xs = none := by unfold cutPiece; rw [h1]; simp [h2]
theorem cutPiece_yes {xs r r2 : List Nat} {n m : Nat} (h1 : cutNum 4095 xs = some (n, r)) (h2 : cutNum 4096 r = some (m, r2)) : cutPiece 4095 4096 xs = some (((n : Int), (m : Int)), r2) := by unfold cutPiece; rw [h1]; simp [h2]
theorem rnumber_l (R bound : Nat) (B : Int) (hBe : (bound : Int) = B) (vb : Value) (bad : Bool) (xs : List Nat) (w : World) (hv : RowT w vb xs) (hB : 0 < bound ∧ bound < 1000000) (hR : w.heap[R]? = some (.cells #[vb, .bool bad] 220 (0, 0))) :
    Calls Tryz.prog 145 #[.pointer (some ⟨R, 0, none⟩), .int .u64 B] w fun e w' => NumPost R bound w vb xs bad e w' := by
  subst hBe
  exact rnumber_u R bound vb bad xs w hv hB hR
def RelB {α : Type} (f : List Nat → Option (α × List Nat)) (n : Nat) (done : List α) (rest : List Nat) (bad : Bool) (res : Option (List α × List Nat)) : Prop := (bad = false ∧ manyGo f n done rest = res) ∨ (bad = true ∧ res = none)
theorem rel_next {jj n z2 : Nat} {L : List FileV} {rest rj : List Nat} {res : Option (List FileV × List Nat)} {s : ByteArray} {resP : Option (Pcs × List Nat)} {done : Pcs} {badj : Bool} (hMG : manyGo (cutFile BR) (jj + 1) L rest = res) (hP : cutFile BR rest = fileOf s z2 resP) (hR : RelB (cutPiece 4095 4096) n done rj badj resP) (hn : badj = false → n = 0) : RelB (cutFile BR) jj (L ++ [⟨s, z2, done⟩]) rj badj res := by
  rcases hR with ⟨h1, h2⟩ | ⟨h1, h2⟩
  · rw [hn h1, manyGo_end] at h2
    rw [← h2] at hP
    exact .inl ⟨h1, by rw [← hMG, manyGo_some hP]⟩
  · rw [h2] at hP
    exact .inr ⟨h1, by rw [← hMG]; exact manyGo_none hP⟩
theorem relP_next {n z4 z5 : Nat} {done : Pcs} {rj r8 r10 : List Nat} {bad8 bad10 : Bool} {resP : Option (Pcs × List Nat)} (hR : RelB (cutPiece 4095 4096) (n + 1) done rj false resP) (h8 : (cutNum (4096 - 1) rj = some (z4, r8) ∧ bad8 = false) ∨ (cutNum (4096 - 1) rj = none ∧ bad8 = true)) (h10 : (cutNum (4097 - 1) r8 = some (z5, r10) ∧ bad10 = bad8) ∨ (cutNum (4097 - 1) r8 = none ∧ bad10 = true)) :
    RelB (cutPiece 4095 4096) n (done ++ [((z4 : Int), (z5 : Int))]) r10 bad10 resP := by
  have hm : manyGo (cutPiece 4095 4096) (n + 1) done rj = resP := by
    rcases hR with ⟨_, h⟩ | ⟨h, _⟩
    · exact h
    · cases h
  rcases h8 with ⟨g8, rfl⟩ | ⟨g8, rfl⟩
  · rcases h10 with ⟨g10, rfl⟩ | ⟨g10, rfl⟩
    · exact .inl ⟨rfl, by rw [← hm, manyGo_some (cutPiece_yes g8 g10)]⟩
    · exact .inr ⟨rfl, by rw [← hm]; exact manyGo_none (cutPiece_no2 g8 g10)⟩
  · refine .inr ⟨?_, by rw [← hm]; exact manyGo_none (cutPiece_no1 g8)⟩
    rcases h10 with ⟨_, rfl⟩ | ⟨_, rfl⟩ <;> rfl
theorem cut_toldR {xs r : List Nat} {l : List FileV} (hb : Byt xs) (h : cutFiles BR xs = some (l, r)) : ((∀ f ∈ l, f.name.size ≤ xs.length) ∧ (allPcs l).length ≤ xs.length) ∧ (∀ f ∈ l, wf64 f.size ∧ Wf f.pcs) := by
  have h1 := cutFiles_only hb h
  have h2 := files_le l
  have h3 : (l.flatMap fileN).length ≤ xs.length := by
    rw [h1]; unfold insideN; simp only [List.length_append]; omega
  refine ⟨⟨fun f hf => Nat.le_trans (h2.1 f hf) h3, Nat.le_trans h2.2 h3⟩, ?_⟩
  unfold cutFiles at h
  split at h
  · cases h
  · rename_i n r1 e1
    obtain ⟨g1, _⟩ := cutNum_only hb e1
    obtain ⟨_, _, g4⟩ := cutMany_only (g := fileN) (Q := fun f => (0 ≤ f.size ∧ f.size ≤ BR.size) ∧ f.pcs.length ≤ BR.many ∧ ∀ p ∈ f.pcs, (0 ≤ p.1 ∧ p.1 ≤ BR.lo) ∧ (0 ≤ p.2 ∧ p.2 ≤ BR.count)) (fun b x r hb h => cutFile_only hb h) n r1 l r (Byt.app (g1 ▸ hb)) h
    intro f hf
    obtain ⟨k1, _, k3⟩ := g4 f hf
    simp only [BR] at k1 k3
    refine ⟨⟨by omega, by omega⟩, fun p hp => ?_⟩
    have := k3 p hp
    omega
theorem isDir_isR {y : DirV} {xs r : List Nat} {l : List FileV} {G : Int} (hG : ((beg8 xs : Nat) : Int) = G) (h : IsDir ltS y xs) (hc : cutFiles BR (innerN xs 8) = some (l, r)) : y = ⟨G, l⟩ := by
  obtain ⟨r', h1, h2⟩ := isDir_cut bokBR h
  rw [hc] at h1
  simp only [Option.some.injEq, Prod.mk.injEq] at h1
  have g := (isDir_sec h (i := 0) (by omega)).1
  rw [beg8_sec0 xs] at g
  have a1 := h.1.lo
  obtain ⟨gy, fy⟩ := y
  simp only at h1 g a1
  rw [h1.1, ← hG, show gy = (beg8 xs : Int) from by omega]
theorem noDir_cut {xs : List Nat} (h : cutFiles BR (innerN xs 8) = none) : ∀ x, ¬ IsDir ltS x xs := fun x hx => by
  obtain ⟨_, h1, _⟩ := isDir_cut bokBR hx
  rw [h] at h1; cases h1
theorem noDir_gen {xs : List Nat} {G : Int} (hG : ((beg8 xs : Nat) : Int) = G) (h : 4611686018427387904 ≤ G) : ∀ x, ¬ IsDir ltS x xs := fun x hx => by
  have g := (isDir_sec hx (i := 0) (by omega)).1
  rw [beg8_sec0 xs] at g
  have a1 := hx.1.lo
  have a2 := hx.1.hi
  omega
set_option maxRecDepth 20000 in
set_option maxHeartbeats 1500000 in
theorem rRead_any (p : Option Addr) (c : Nat) (xs : List Nat) (w : World) (hb : BIn w p xs) (hc : xs.length ≤ c) (hcm : c ≤ maxLen) :
    Calls Tryz.prog 117 #[.slice p xs.length c] w fun e w' => ReadD w xs e w' := by
  have HBY : Hid (Byt xs) := hb.2
  unfold maxLen at hcm
  by_cases hlen : xs.length = 1024
  · have HLEN : Hid (xs.length = 1024) := hlen
    obtain ⟨b, o, rfl, _⟩ := hb.1 (by omega)
    have HB : Hid (BIn w (some ⟨b, o, none⟩) xs) := hb
    have hcI : (1024 : Int) ≤ c := by omega
    rw [hlen]
    clear hb hlen hc
    go_enter Tryz.func117, Tryz.ntmps117
    go_wp2
    go_loopw [4, 5] (fun m i wr => ∃ k : Nat, k ≤ 8 ∧ i = .int .i64 k ∧ St w [(w.heap.size, #[.int .i64 0, .slice none 0 0], 31)] wr m (innerN xs k)) (fun _ i _ => 8 - (intOf i).toNat)
    case atStart => exact ⟨0, by omega, rfl, (St.start (bx := []) (fun p hp => by simp at hp)).alloc _ _ (by decide)⟩
    case round =>
      obtain ⟨k, hk, rfl, hst⟩ := hrel
      have HS : Hid (St w [(w.heap.size, #[.int .i64 0, .slice none 0 0], 31)] wr _ (innerN xs k)) := hst
      have hsz := hst.size
      have hbr := HB.out.below hst.bel
      by_cases hk8 : k < 8
      · have hbp : BIn wr (some ⟨b, o + k * 128 + 9, none⟩) ((secAt xs k).drop 9) := by
          have h1 : BIn wr (some ⟨b, o + k * 128, none⟩) (secAt xs k) := bin_part4 hbr (k * 128) 128 (by have := HLEN.out; omega)
          have hsl : (secAt xs k).length = 128 := secAt_len HLEN.out hk8
          have h2 := bin_part4 h1 9 119 (by omega)
          rwa [List.take_of_length_le (by simp; omega)] at h2
        have hdl : ((secAt xs k).drop 9).length = 119 := by rw [List.length_drop, secAt_len HLEN.out hk8]
        have HBP : Hid _ := hbp
        have hil := inner_le xs k
        have HIS : Hid _ := inner_snoc xs k
        clear hst hbr hbp
        generalize (secAt xs k).drop 9 = S at *
        go_wp2_with (at_builtin; refine wpList_append_bytes _ rfl _ _ rfl w.heap.size _ _ S (some ⟨b, o + k * 128 + 9, none⟩) _ _ rfl rfl (by omega) HS.out.own HBP.out (fun h => by cases h) (by omega) hsz ?_; intro v3 w3 ho3 hg3; have S3 := HS.out.app ho3 hg3)
        go_roundw
        case rel => exact ⟨k + 1, by omega, by go_num, S3.eq HIS.out.symm⟩
        case measure => simp [intOf]; omega
      · obtain rfl : k = 8 := by omega
        have hb8 := bin_take hbr 8
        rw [list8' (by have := HLEN.out; omega)] at hb8
        obtain ⟨GI, hGI⟩ : ∃ GI : Int, ((beg8 xs : Nat) : Int) = GI := ⟨_, rfl⟩
        have hg : ∀ c', Calls Tryz.prog 91 #[.slice (some ⟨b, o, none⟩) 8 c'] wr fun e w' => e = .returned (.tuple #[.int .u64 ((beg8 xs : Nat) : Int), .int .i64 0]) ∧ w' = wr := fun c' => refGet_ok _ c' _ _ _ _ _ _ _ _ wr hb8
        rw [hGI] at hg
        have HGI : Hid (((beg8 xs : Nat) : Int) = GI) := hGI
        have hGb : 0 ≤ GI ∧ GI < 18446744073709551616 := by have := beg8_lt HBY.out; omega
        have HDX0 : Hid (wr.heap[w.heap.size]? = some (.cells #[.int .i64 0, .slice none 0 0] 31 (0, 0))) := (hst.box _ List.mem_cons_self).1
        have hil := innerN_len HLEN.out
        have HIL : Hid ((innerN xs 8).length = 952) := hil
        have HBL : Hid (Below w.heap.size w wr) := hst.bel
        obtain ⟨q1, m1, hv1, _⟩ := own_form hst.own
        rw [hil] at hv1
        subst hv1
        have HRW : Hid (RowT wr (.slice q1 952 m1) (innerN xs 8)) := own_rowT hst.own (inner_byt HBY.out 8)
        clear hil
        have hdlt := lt_heap HDX0.out
        clear hst hbr hb8 HS hGI
        go_wp2_with fail
        refine (hg _).mono ?_
        rintro e w1 ⟨rfl, rfl⟩
        by_cases hge : 4611686018427387904 ≤ GI
        · have HDB : Hid (Below w.heap.size w w1) := HBL.out
          have HDX : Hid (w1.heap[w.heap.size]? = some (.cells #[.int .i64 0, .slice none 0 0] 31 (0, 0))) := HDX0.out
          have c0 : w1.cell? ⟨w.heap.size, 0, none⟩ = some (.int .i64 0) := cell_of_row _ _ _ _ _ _ HDX.out
          have c1 : w1.cell? ⟨w.heap.size, 1, none⟩ = some (.slice none 0 0) := cell_of_row _ _ _ _ _ _ HDX.out
          have f0 := frozen_row (i := 0) HDX.out
          have f1 := frozen_row (i := 1) HDX.out
          have HNO : Hid (∀ x, ¬ IsDir ltS x xs) := noDir_gen HGI.out hge
          go_wp2
          (try simp only [Exit.inBlock, Exit.then])
          refine bodyPost_ret (v := .tuple #[.agg #[.int .i64 0, .slice none 0 0], .int .i64 8]) ?_ rfl ?_
          · rw [results_cell_tmp rfl]
            go_simp
          · exact .inr ⟨HNO.out, rfl, set2_below HDB.out (by omega) _ _⟩
        · have hw : IntKind.i64.wrap GI = GI := by rw [IntKind.wrap_i64]; omega
          have HLOW : Hid (GI < 4611686018427387904) := by show _ < _; omega
          have hos0 : OS w1 ((w1.alloc (.cells #[.int .i64 GI, .slice none 0 0] 31)).alloc (.cells #[.slice q1 952 m1, .bool false] 220)) GI (.slice none 0 0) [] (.slice q1 952 m1) (innerN xs 8) false := by
            refine ⟨(below_alloc w1 _).alloc (by simp) _, ?_, ?_, fown_nil _ _, (HRW.out.below (below_alloc w1 _)).below (below_alloc _ _), by rw [HIL.out]; omega⟩
            · exact (Below.heap_alloc _ _ _ (by simp)).trans (heap_alloc_new w1 _)
            · have := heap_alloc_new (w1.alloc (.cells #[.int .i64 GI, .slice none 0 0] 31)) (.cells #[.slice q1 952 m1, .bool false] 220)
              simpa using this
          have hn := rnumber_l (w1.heap.size + 1) 33 33 rfl _ false (innerN xs 8) _ hos0.row (by omega) hos0.r
          have HOS0 : Hid _ := hos0
          clear hos0 hg HRW
          go_wp2_with fail
          refine hn.mono ?_
          rintro e w2 ⟨⟨z, vb, rest, bad, rfl, hz, hu, hblk, hcy, hll, hcase⟩⟩
          have hos := OS.upd HOS0.out hu hblk (hcy _ (OS.row HOS0.out)) (by rw [HIL.out] at hll; omega)
          have hrel0 : RelB (cutFile BR) z ([] : List FileV) rest bad (cutFiles BR (innerN xs 8)) := by
            rcases hcase with ⟨h1, rfl⟩ | ⟨h1, rfl⟩
            · refine .inl ⟨rfl, ?_⟩
              unfold cutFiles
              rw [show BR.files = 33 - 1 from rfl, h1]
              exact (manyGo_start _ _ _).symm
            · refine .inr ⟨rfl, ?_⟩
              unfold cutFiles
              rw [show BR.files = 33 - 1 from rfl, h1]
          have HS0 : Hid _ := hos
          have HR0 : Hid _ := hrel0
          clear hn hos hrel0 hcase hcy hblk hu HOS0
          go_wp2
          go_loopw [12] (fun i wr => ∃ (k : Nat) (lv : Value) (ls : FPs) (vb : Value) (rest : List Nat) (bad : Bool), i = .int .i64 k ∧ k ≤ z ∧ ls.length = k ∧ OS w1 wr GI lv ls vb rest bad ∧ RelB (cutFile BR) (z - k) (ls.map Prod.fst) rest bad (cutFiles BR (innerN xs 8))) (fun i _ => z - (intOf i).toNat)
          case atStart => exact ⟨0, _, [], vb, rest, bad, rfl, by omega, rfl, HS0.out, HR0.out⟩
          case round =>
            obtain ⟨k, lv, ls, vb, rest, bad, rfl, hkz, hlk, hos, hrl⟩ := hrel
            clear HS0 HR0
            have HOS : Hid (OS w1 wr GI lv ls vb rest bad) := hos
            have HRL : Hid _ := hrl
            have HLK : Hid (ls.length = k) := hlk
            clear hlk
            have r0 : wr.cell? ⟨w1.heap.size + 1, 0, none⟩ = some vb := cell_of_row _ _ _ _ _ _ hos.r
            have r1 : wr.cell? ⟨w1.heap.size + 1, 1, none⟩ = some (.bool bad) := cell_of_row _ _ _ _ _ _ hos.r
            have hsz := hos.size
            clear hos hrl
            by_cases hk : k < z
            · cases bad with
              | true =>
                have HCN : Hid (cutFiles BR (innerN xs 8) = none) := by rcases HRL.out with ⟨h, _⟩ | ⟨_, h⟩; cases h; exact h
                have HDB : Hid (Below w.heap.size w wr) := HBL.out.trans ((OS.bel HOS.out).mono HBL.out.size)
                have HDX : Hid (wr.heap[w.heap.size]? = some (.cells #[.int .i64 0, .slice none 0 0] 31 (0, 0))) := ((OS.bel HOS.out).block _ hdlt).trans HDX0.out
                have c0 : wr.cell? ⟨w.heap.size, 0, none⟩ = some (.int .i64 0) := cell_of_row _ _ _ _ _ _ HDX.out
                have c1 : wr.cell? ⟨w.heap.size, 1, none⟩ = some (.slice none 0 0) := cell_of_row _ _ _ _ _ _ HDX.out
                have f0 := frozen_row (i := 0) HDX.out
                have f1 := frozen_row (i := 1) HDX.out
                have HNO : Hid (∀ x, ¬ IsDir ltS x xs) := noDir_cut HCN.out
                go_wp2
                (try simp only [Exit.inBlock, Exit.then])
                refine bodyPost_ret (v := .tuple #[.agg #[.int .i64 0, .slice none 0 0], .int .i64 8]) ?_ rfl ?_
                · rw [results_cell_tmp rfl]
                  go_simp
                · exact .inr ⟨HNO.out, rfl, set2_below HDB.out (by omega) _ _⟩
              | false =>
                have hrow := OS.row HOS.out
                have hln := OS.len HOS.out
                obtain ⟨jj, hjj⟩ : ∃ jj, z - k = jj + 1 := ⟨z - k - 1, by omega⟩
                have HMG : Hid (manyGo (cutFile BR) (jj + 1) (ls.map Prod.fst) rest = cutFiles BR (innerN xs 8)) := by
                  rcases HRL.out with ⟨_, h⟩ | ⟨h, _⟩
                  · rw [← hjj]; exact h
                  · cases h
                clear HRL
                have HBW : Hid (Below w.heap.size w wr) := HBL.out.trans ((OS.bel HOS.out).mono HBL.out.size)
                have HDW : Hid (wr.heap[w.heap.size]? = some (.cells #[.int .i64 0, .slice none 0 0] 31 (0, 0))) := ((OS.bel HOS.out).block _ hdlt).trans HDX0.out
                cases h1 : cutText rest with
                | none =>
                  have hcut := rcut4_none vb rest wr hrow h1
                  have HCN : Hid (cutFiles BR (innerN xs 8) = none) := by rw [← HMG.out]; exact manyGo_none (cutFile_no1 h1)
                  clear h1 hrow HOS
                  go_wp2_with fail
                  refine hcut.mono ?_
                  rintro e w3 ⟨rfl, rfl⟩
                  have HDB : Hid (Below w.heap.size w w3) := HBW.out
                  have HDX : Hid (w3.heap[w.heap.size]? = some (.cells #[.int .i64 0, .slice none 0 0] 31 (0, 0))) := HDW.out
                  have c0 : w3.cell? ⟨w.heap.size, 0, none⟩ = some (.int .i64 0) := cell_of_row _ _ _ _ _ _ HDX.out
                  have c1 : w3.cell? ⟨w.heap.size, 1, none⟩ = some (.slice none 0 0) := cell_of_row _ _ _ _ _ _ HDX.out
                  have f0 := frozen_row (i := 0) HDX.out
                  have f1 := frozen_row (i := 1) HDX.out
                  have HNO : Hid (∀ x, ¬ IsDir ltS x xs) := noDir_cut HCN.out
                  go_wp2
                  (try simp only [Exit.inBlock, Exit.then])
                  refine bodyPost_ret (v := .tuple #[.agg #[.int .i64 0, .slice none 0 0], .int .i64 8]) ?_ rfl ?_
                  · rw [results_cell_tmp rfl]
                    go_simp
                  · exact .inr ⟨HNO.out, rfl, set2_below HDB.out (by omega) _ _⟩
                | some sr =>
                  obtain ⟨s, rr⟩ := sr
                  have hcut := rcut4_some vb rest rr s wr hrow hln h1
                  have hrr : rr.length ≤ 100000 := by obtain ⟨n', k', _, _, _, e⟩ := cutText_some h1; rw [e, List.length_drop]; omega
                  have HT1 : Hid (cutText rest = some (s, rr)) := h1
                  clear h1 hrow
                  go_wp2_with fail
                  refine hcut.mono ?_
                  rintro e w3 ⟨v3, rfl, hr3, hb3⟩
                  have hos3 := OS.call HOS.out hb3
                  have q0 : w3.cell? ⟨w1.heap.size + 1, 0, none⟩ = some vb := cell_of_row _ _ _ _ _ _ hos3.r
                  have q1f := frozen_row (i := 0) hos3.r
                  have hos4 : OS w1 (w3.setCell ⟨w1.heap.size + 1, 0, none⟩ v3) GI lv ls v3 rr false := hos3.upd (Upd.set _ _ _ _) (heap_set0 hos3.r _) hr3 hrr
                  obtain ⟨p3, m3, rfl, _⟩ := hr3.row.lies
                  have hn4 := rnumber_l (w1.heap.size + 1) 524289 524289 rfl _ false rr _ hos4.row (by omega) hos4.r
                  have HOS4 : Hid (OS w1 (w3.setCell ⟨w1.heap.size + 1, 0, none⟩ (.slice p3 rr.length m3)) GI lv ls (.slice p3 rr.length m3) rr false) := hos4
                  clear hcut hos3 hos4 hr3 hb3 HOS
                  go_wp2_with fail
                  refine hn4.mono ?_
                  rintro e w5 ⟨⟨z2, vb5, r5, bad5, rfl, hz5, hu5, hblk5, hcy5, hll5, hcase5⟩⟩
                  have hos5 := HOS4.out.upd hu5 hblk5 (hcy5 _ HOS4.out.row) (by omega)
                  have HOS5 : Hid (OS w1 w5 GI lv ls vb5 r5 bad5) := hos5
                  have hs5 := hos5.size
                  have his6 : IS (w1.heap.size + 1) w5 (w5.alloc (.cells #[.string s, .int .i64 (z2 : Int), .slice none 0 0] 51)) s z2 (.slice none 0 0) [] vb5 r5 bad5 :=
                    ⟨agr_alloc _ _ _, (Below.heap_alloc _ _ _ (by omega)).trans hos5.r, heap_alloc_new w5 _, pown_nil _ _, hos5.row.below (below_alloc w5 _), hos5.len⟩
                  have hn6 := rnumber_l (w1.heap.size + 1) 4097 4097 rfl _ bad5 r5 _ his6.row (by omega) his6.r
                  have HIS6 : Hid (IS (w1.heap.size + 1) w5 (w5.alloc (.cells #[.string s, .int .i64 (z2 : Int), .slice none 0 0] 51)) s z2 (.slice none 0 0) [] vb5 r5 bad5) := his6
                  clear hn4 hos5 his6 hu5 hblk5 hcy5 HOS4 q0 q1f
                  go_wp2_with fail
                  refine hn6.mono ?_
                  rintro e w7 ⟨⟨z3, vb7, r7, bad7, rfl, hz7, hu7, hblk7, hcy7, hll7, hcase7⟩⟩
                  have his7 := HIS6.out.upd (by omega) hu7 hblk7 (hcy7 _ HIS6.out.row) (by omega)
                  have hrp : ∃ resP, RelB (cutPiece 4095 4096) z3 ([] : Pcs) r7 bad7 resP ∧ cutFile BR rest = fileOf s z2 resP := by
                    rcases hcase5 with ⟨g5, rfl⟩ | ⟨g5, rfl⟩
                    · rcases hcase7 with ⟨g7, rfl⟩ | ⟨g7, rfl⟩
                      · exact ⟨_, .inl ⟨rfl, (manyGo_start _ _ _).symm⟩, cutFile_steps HT1.out g5 g7⟩
                      · exact ⟨none, .inr ⟨rfl, rfl⟩, cutFile_no3 HT1.out g5 g7⟩
                    · refine ⟨none, .inr ⟨?_, rfl⟩, cutFile_no2 HT1.out g5⟩
                      rcases hcase7 with ⟨_, rfl⟩ | ⟨_, rfl⟩ <;> rfl
                  obtain ⟨resP, hrp1, hrp2⟩ := hrp
                  have HP2 : Hid (cutFile BR rest = fileOf s z2 resP) := hrp2
                  have HRP1 : Hid (RelB (cutPiece 4095 4096) z3 ([] : Pcs) r7 bad7 resP) := hrp1
                  have HIS7 : Hid (IS (w1.heap.size + 1) w5 w7 s z2 (.slice none 0 0) [] vb7 r7 bad7) := his7
                  clear hn6 his7 hu7 hblk7 hcy7 HIS6 hcase5 hcase7 hrp1 hrp2 HT1
                  go_wp2
                  go_loopw [18] (fun i wn => ∃ (j : Nat) (pv : Value) (done : Pcs) (vb : Value) (rest : List Nat) (bad : Bool), i = .int .i64 j ∧ j ≤ z3 ∧ done.length = j ∧ IS (w1.heap.size + 1) w5 wn s z2 pv done vb rest bad ∧ RelB (cutPiece 4095 4096) (z3 - j) done rest bad resP) (fun i _ => z3 - (intOf i).toNat)
                  case atStart => exact ⟨0, _, [], vb7, r7, bad7, rfl, by omega, rfl, HIS7.out, HRP1.out⟩
                  case round =>
                    obtain ⟨j, pv, done, vbj, rj, badj, rfl, hjz, hdj, his, hrj⟩ := hrel
                    clear HIS7 HRP1
                    have HIS : Hid (IS (w1.heap.size + 1) w5 wr s z2 pv done vbj rj badj) := his
                    have HRJ : Hid (RelB (cutPiece 4095 4096) (z3 - j) done rj badj resP) := hrj
                    have HDJ : Hid (done.length = j) := hdj
                    have e0 : wr.cell? ⟨w1.heap.size + 1, 1, none⟩ = some (.bool badj) := cell_of_row _ _ _ _ _ _ his.r
                    clear hdj hrj
                    by_cases hj : j < z3
                    · cases badj with
                      | true =>
                        have HB0 : true = false → z3 - j = 0 := fun h => (by cases h)
                        have hfo : FOwn wr (w1.heap.size + 2) lv ls := his.agr.fown HOS5.out.fo (by omega)
                        have hsr := his.agr.size
                        have hXb : wr.heap[w1.heap.size]? = some (.cells #[.int .i64 GI, lv] 31 (0, 0)) := (his.agr.blk _ (by omega) (by omega)).trans HOS5.out.x
                        have x1 : wr.cell? ⟨w1.heap.size, 1, none⟩ = some lv := cell_of_row _ _ _ _ _ _ hXb
                        have y0 : wr.cell? ⟨w5.heap.size, 0, none⟩ = some (.string s) := cell_of_row _ _ _ _ _ _ his.f
                        have y1 : wr.cell? ⟨w5.heap.size, 1, none⟩ = some (.int .i64 (z2 : Int)) := cell_of_row _ _ _ _ _ _ his.f
                        have y2 : wr.cell? ⟨w5.heap.size, 2, none⟩ = some pv := cell_of_row _ _ _ _ _ _ his.f
                        have HPO : Hid (POwn wr (w1.heap.size + 2) pv done) := his.po.mono (by omega)
                        obtain ⟨qp, mp, rfl, _⟩ := his.po.form
                        have HFO : Hid (FOwn wr (w1.heap.size + 2) lv ls) := hfo
                        have HXB : Hid _ := hXb
                        have hnew := new3 wr (.string s) (.int .i64 (z2 : Int)) (.slice qp done.length mp) 51 wr.heap.size rfl
                        have HN3 : Hid _ := hnew
                        have hlk := HLK.out
                        have HLK2 : Hid (ls.length ≤ 1000000) := by show _ ≤ _; omega
                        clear hfo hXb his hnew hlk
                        go_wp2_with (at_builtin; refine wpList_append_file _ rfl _ _ rfl (w1.heap.size + 2) _ ls (⟨s, z2, done⟩, .slice qp done.length mp) ⟨wr.heap.size, 0, none⟩ _ rfl rfl (FOwn.below HFO.out (below_alloc _ _)) rfl (POwn.below HPO.out (below_alloc _ _)) HN3.out.1 HN3.out.2.1 HN3.out.2.2 HLK2.out (by simp; omega) ?_; intro lv2 w16 fo16 hg16; obtain ⟨ql, ml, hlv, _⟩ := fo16.form; rw [List.length_append] at hlv; simp only [List.length_cons, List.length_nil, Nat.zero_add] at hlv; subst hlv; have X16 := (hg16.block w1.heap.size (by simp; omega) (fun e => by have := ((FOwn.below HFO.out (below_alloc wr (.cells #[.string s, .int .i64 (z2 : Int), .slice qp done.length mp] 51))).row.lt _ e.symm).1; omega)).trans ((Below.heap_alloc wr _ _ (by omega)).trans HXB.out); have x16 := cell_of_row w16 w1.heap.size 1 _ _ _ X16; simp only [List.getElem?_toArray, List.getElem?_cons_succ, List.getElem?_cons_zero] at x16; have z16 := frozen_row (i := 1) X16; have HOP : Hid _ := OS.put HOS5.out HIS.out (below_alloc wr (.cells #[.string s, .int .i64 (z2 : Int), .slice qp done.length mp] 51)) hg16 (FOwn.below HFO.out (below_alloc _ _)) fo16; clear X16 fo16 hg16)
                        refine ⟨⟨k + 1, _, _, _, _, _, by go_num, by omega, ?_, HOP.out, ?_⟩, by simp [intOf]; omega⟩
                        · rw [List.length_append, HLK.out]; rfl
                        · rw [show z - (k + 1) = jj from by omega, List.map_append]
                          exact rel_next HMG.out HP2.out HRJ.out HB0
                      | false =>
                        obtain ⟨nn, hnn⟩ : ∃ nn, z3 - j = nn + 1 := ⟨z3 - j - 1, by omega⟩
                        have hlenj := his.len
                        have hsr := his.agr.size
                        have hn8 := rnumber_l (w1.heap.size + 1) 4096 4096 rfl vbj false rj wr his.row (by omega) his.r
                        clear his
                        go_wp2_with fail
                        refine hn8.mono ?_
                        rintro e w8 ⟨⟨z4, vb8, r8, bad8, rfl, hz8, hu8, hblk8, hcy8, hll8, hcase8⟩⟩
                        have his8 := HIS.out.upd (by omega) hu8 hblk8 (hcy8 _ HIS.out.row) (by omega)
                        have hs8 := his8.agr.size
                        have hF8 := lt_heap his8.f
                        have hpl8 := his8.po.lt
                        have his9 := his8.call (below_alloc w8 (.cells #[.int .i64 (z4 : Int), .int .i64 0] 53))
                        have hn10 := rnumber_l (w1.heap.size + 1) 4097 4097 rfl vb8 bad8 r8 _ his9.row (by omega) his9.r
                        have HIS9 : Hid (IS (w1.heap.size + 1) w5 (w8.alloc (.cells #[.int .i64 (z4 : Int), .int .i64 0] 53)) s z2 pv done vb8 r8 bad8) := his9
                        clear his8 his9 hn8 hu8 hblk8 hcy8
                        go_wp2_with fail
                        refine hn10.mono ?_
                        rintro e w10 ⟨⟨z5, vb10, r10, bad10, rfl, hz10, hu10, hblk10, hcy10, hll10, hcase10⟩⟩
                        have his10 := HIS9.out.upd (by omega) hu10 hblk10 (hcy10 _ HIS9.out.row) (by omega)
                        have hs10e := hu10.size
                        simp at hs10e
                        have hs10 : w8.heap.size < w10.heap.size := by omega
                        clear hs10e
                        have hP10 : w10.heap[w8.heap.size]? = some (.cells #[.int .i64 (z4 : Int), .int .i64 0] 53 (0, 0)) := (hu10.oth _ (by omega)).trans (heap_alloc_new w8 _)
                        have his11 := his10.setP (by omega) (P := w8.heap.size) (by omega) (fun e => by have := (hpl8 _ e).2; omega) hP10 (by decide) 1 (.int .i64 (z5 : Int))
                        have hP11 := heap_set1 hP10 (.int .i64 (z5 : Int))
                        have a1 : w10.cell? ⟨w8.heap.size, 1, none⟩ = some (.int .i64 0) := cell_of_row _ _ _ _ _ _ hP10
                        have a2 := frozen_row (i := 1) hP10
                        have b0 : (w10.setCell ⟨w8.heap.size, 1, none⟩ (.int .i64 (z5 : Int))).cell? ⟨w8.heap.size, 0, none⟩ = some (.int .i64 (z4 : Int)) := cell_of_row _ _ _ _ _ _ hP11
                        have b1 : (w10.setCell ⟨w8.heap.size, 1, none⟩ (.int .i64 (z5 : Int))).cell? ⟨w8.heap.size, 1, none⟩ = some (.int .i64 (z5 : Int)) := cell_of_row _ _ _ _ _ _ hP11
                        have b2 : (w10.setCell ⟨w8.heap.size, 1, none⟩ (.int .i64 (z5 : Int))).cell? ⟨w5.heap.size, 2, none⟩ = some pv := cell_of_row _ _ _ _ _ _ his11.f
                        have his12 := his11.call (below_alloc (w10.setCell ⟨w8.heap.size, 1, none⟩ (.int .i64 (z5 : Int))) (.cells #[.int .i64 (z4 : Int), .int .i64 (z5 : Int)] 53))
                        have HIS12 : Hid (IS (w1.heap.size + 1) w5 ((w10.setCell ⟨w8.heap.size, 1, none⟩ (.int .i64 (z5 : Int))).alloc (.cells #[.int .i64 (z4 : Int), .int .i64 (z5 : Int)] 53)) s z2 pv done vb10 r10 bad10) := his12
                        obtain ⟨qp, mp, rfl, _⟩ := his12.po.form
                        have HRN : Hid (RelB (cutPiece 4095 4096) nn (done ++ [((z4 : Int), (z5 : Int))]) r10 bad10 resP) := relP_next (by rw [← hnn]; exact HRJ.out) hcase8 hcase10
                        have hdj := HDJ.out
                        have hdl : done.length ≤ 5000 := by omega
                        have HDL : Hid (done.length ≤ 5000) := hdl
                        clear his10 his11 his12 hn10 hu10 hblk10 hcy10 hcase8 hcase10 hP10 hP11 HIS9 HRJ hdj hdl hpl8
                        go_wp2_with (at_builtin; refine wpList_append_pcs _ rfl _ _ rfl (w5.heap.size + 1) _ done [((z4 : Int), (z5 : Int))] (some ⟨w10.heap.size, 0, none⟩) _ _ rfl rfl rfl HIS12.out.po (pcs_new' _ _ _ _ (by simp [World.setCell])) (fun h => by cases h) (by have := HDL.out; simp; omega) (by simp [World.setCell]; omega) ?_; intro v13 w13 ho13 hg13; obtain ⟨q13, m13, hlv, _⟩ := ho13.form; rw [List.length_append] at hlv; simp only [List.length_cons, List.length_nil, Nat.zero_add] at hlv; subst hlv; have F13 := pown_grown_box HIS12.out.po hg13 HIS12.out.f (by decide); have u13 := cell_of_row w13 w5.heap.size 2 _ _ _ F13; simp only [List.getElem?_toArray, List.getElem?_cons_succ, List.getElem?_cons_zero] at u13; have g13 := frozen_row (i := 2) F13; have HP14 : Hid _ := IS.put HIS12.out (by omega) (Agr.refl _ _) rfl HIS12.out.row ho13 hg13 HIS12.out.po; clear F13 ho13 hg13)
                        go_roundw
                        case rel => exact ⟨j + 1, _, _, _, _, _, by go_num, by omega, by rw [List.length_append, HDJ.out]; rfl, HP14.out, by rw [show z3 - (j + 1) = nn from by omega]; exact HRN.out⟩
                        case measure => simp [intOf]; omega
                    · have HB0 : badj = false → z3 - j = 0 := fun _ => by omega
                      have hfo : FOwn wr (w1.heap.size + 2) lv ls := his.agr.fown HOS5.out.fo (by omega)
                      have hsr := his.agr.size
                      have hXb : wr.heap[w1.heap.size]? = some (.cells #[.int .i64 GI, lv] 31 (0, 0)) := (his.agr.blk _ (by omega) (by omega)).trans HOS5.out.x
                      have x1 : wr.cell? ⟨w1.heap.size, 1, none⟩ = some lv := cell_of_row _ _ _ _ _ _ hXb
                      have y0 : wr.cell? ⟨w5.heap.size, 0, none⟩ = some (.string s) := cell_of_row _ _ _ _ _ _ his.f
                      have y1 : wr.cell? ⟨w5.heap.size, 1, none⟩ = some (.int .i64 (z2 : Int)) := cell_of_row _ _ _ _ _ _ his.f
                      have y2 : wr.cell? ⟨w5.heap.size, 2, none⟩ = some pv := cell_of_row _ _ _ _ _ _ his.f
                      have HPO : Hid (POwn wr (w1.heap.size + 2) pv done) := his.po.mono (by omega)
                      obtain ⟨qp, mp, rfl, _⟩ := his.po.form
                      have HFO : Hid (FOwn wr (w1.heap.size + 2) lv ls) := hfo
                      have HXB : Hid _ := hXb
                      have hnew := new3 wr (.string s) (.int .i64 (z2 : Int)) (.slice qp done.length mp) 51 wr.heap.size rfl
                      have HN3 : Hid _ := hnew
                      have hlk := HLK.out
                      have HLK2 : Hid (ls.length ≤ 1000000) := by show _ ≤ _; omega
                      clear hfo hXb his hnew hlk
                      go_wp2_with (at_builtin; refine wpList_append_file _ rfl _ _ rfl (w1.heap.size + 2) _ ls (⟨s, z2, done⟩, .slice qp done.length mp) ⟨wr.heap.size, 0, none⟩ _ rfl rfl (FOwn.below HFO.out (below_alloc _ _)) rfl (POwn.below HPO.out (below_alloc _ _)) HN3.out.1 HN3.out.2.1 HN3.out.2.2 HLK2.out (by simp; omega) ?_; intro lv2 w16 fo16 hg16; obtain ⟨ql, ml, hlv, _⟩ := fo16.form; rw [List.length_append] at hlv; simp only [List.length_cons, List.length_nil, Nat.zero_add] at hlv; subst hlv; have X16 := (hg16.block w1.heap.size (by simp; omega) (fun e => by have := ((FOwn.below HFO.out (below_alloc wr (.cells #[.string s, .int .i64 (z2 : Int), .slice qp done.length mp] 51))).row.lt _ e.symm).1; omega)).trans ((Below.heap_alloc wr _ _ (by omega)).trans HXB.out); have x16 := cell_of_row w16 w1.heap.size 1 _ _ _ X16; simp only [List.getElem?_toArray, List.getElem?_cons_succ, List.getElem?_cons_zero] at x16; have z16 := frozen_row (i := 1) X16; have HOP : Hid _ := OS.put HOS5.out HIS.out (below_alloc wr (.cells #[.string s, .int .i64 (z2 : Int), .slice qp done.length mp] 51)) hg16 (FOwn.below HFO.out (below_alloc _ _)) fo16; clear X16 fo16 hg16)
                      refine ⟨⟨k + 1, _, _, _, _, _, by go_num, by omega, ?_, HOP.out, ?_⟩, by simp [intOf]; omega⟩
                      · rw [List.length_append, HLK.out]; rfl
                      · rw [show z - (k + 1) = jj from by omega, List.map_append]
                        exact rel_next HMG.out HP2.out HRJ.out HB0
            · cases bad with
              | true =>
                have HCN : Hid (cutFiles BR (innerN xs 8) = none) := by rcases HRL.out with ⟨h, _⟩ | ⟨_, h⟩; cases h; exact h
                have HDB : Hid (Below w.heap.size w wr) := HBL.out.trans ((OS.bel HOS.out).mono HBL.out.size)
                have HDX : Hid (wr.heap[w.heap.size]? = some (.cells #[.int .i64 0, .slice none 0 0] 31 (0, 0))) := ((OS.bel HOS.out).block _ hdlt).trans HDX0.out
                have c0 : wr.cell? ⟨w.heap.size, 0, none⟩ = some (.int .i64 0) := cell_of_row _ _ _ _ _ _ HDX.out
                have c1 : wr.cell? ⟨w.heap.size, 1, none⟩ = some (.slice none 0 0) := cell_of_row _ _ _ _ _ _ HDX.out
                have f0 := frozen_row (i := 0) HDX.out
                have f1 := frozen_row (i := 1) HDX.out
                have HNO : Hid (∀ x, ¬ IsDir ltS x xs) := noDir_cut HCN.out
                go_wp2
                (try simp only [Exit.inBlock, Exit.then])
                refine bodyPost_ret (v := .tuple #[.agg #[.int .i64 0, .slice none 0 0], .int .i64 8]) ?_ rfl ?_
                · rw [results_cell_tmp rfl]
                  go_simp
                · exact .inr ⟨HNO.out, rfl, set2_below HDB.out (by omega) _ _⟩
              | false =>
                have hres : cutFiles BR (innerN xs 8) = some (ls.map Prod.fst, rest) := by
                  rcases HRL.out with ⟨_, h⟩ | ⟨h, _⟩
                  · rw [← h, show z - k = 0 from by omega, manyGo_end]
                  · cases h
                have HRS : Hid (cutFiles BR (innerN xs 8) = some (ls.map Prod.fst, rest)) := hres
                obtain ⟨⟨ht1, ht2⟩, ht3⟩ := cut_toldR (inner_byt HBY.out 8) hres
                have hfo := OS.fo HOS.out
                have hfin := hfo.fin (fun x hx => (ht3 _ (List.mem_map_of_mem hx)).2) (fun x hx => (ht3 _ (List.mem_map_of_mem hx)).1)
                have hdir : DirIn wr (.agg #[.int .i64 GI, lv]) ⟨GI, ls.map Prod.fst⟩ := ⟨⟨lv, rfl, hfin⟩, ⟨by show -9223372036854775808 ≤ GI; omega, by show GI ≤ 9223372036854775807; have := HLOW.out; omega⟩⟩
                have hil := HIL.out
                have hwt := rWrite_any _ _ wr hdir (fun f hf => by have := ht1 f hf; omega) (by simp only; omega)
                have x0 : wr.cell? ⟨w1.heap.size, 0, none⟩ = some (.int .i64 GI) := cell_of_row _ _ _ _ _ _ (OS.x HOS.out)
                have x1 : wr.cell? ⟨w1.heap.size, 1, none⟩ = some lv := cell_of_row _ _ _ _ _ _ (OS.x HOS.out)
                obtain ⟨ql, ml, rfl, _⟩ := hfo.form
                have HFO : Hid (FOwn wr (w1.heap.size + 2) (.slice ql ls.length ml) ls) := hfo
                have HX : Hid _ := OS.x HOS.out
                have HBW : Hid (Below w.heap.size w wr) := HBL.out.trans ((OS.bel HOS.out).mono HBL.out.size)
                have HDW : Hid (wr.heap[w.heap.size]? = some (.cells #[.int .i64 0, .slice none 0 0] 31 (0, 0))) := ((OS.bel HOS.out).block _ hdlt).trans HDX0.out
                have HBB : Hid (BIn wr (some ⟨b, o, none⟩) xs) := HB.out.below HBW.out
                clear hfo hfin hdir hres ht1 ht2 ht3 hil HOS
                go_wp2_with fail
                refine hwt.mono ?_
                rintro e w3 ⟨rv, n3, b3, rfl, hw3, ho3, hb3⟩
                have hs3 := hb3.size
                have HW3 : Hid (Wrote ⟨GI, ls.map Prod.fst⟩ n3 b3) := hw3
                have HIS : Hid (∀ y, IsDir ltS y xs → y = ⟨GI, ls.map Prod.fst⟩) := fun y h => isDir_isR HGI.out h HRS.out
                have HB3 : Hid (Below w.heap.size w w3) := HBW.out.trans (hb3.mono (by have := HBW.out.size; omega))
                have HD3 : Hid (w3.heap[w.heap.size]? = some (.cells #[.int .i64 0, .slice none 0 0] 31 (0, 0))) := (hb3.block _ (by omega)).trans HDW.out
                obtain ⟨q3, m3, rfl, _⟩ := own_form ho3
                have y0 : w3.cell? ⟨w1.heap.size, 0, none⟩ = some (.int .i64 GI) := (hb3.cell (by simp; omega)).trans x0
                have y1 : w3.cell? ⟨w1.heap.size, 1, none⟩ = some (.slice ql ls.length ml) := (hb3.cell (by simp; omega)).trans x1
                have HF3 : Hid (FOwn w3 (w1.heap.size + 2) (.slice ql ls.length ml) ls) := HFO.out.below hb3
                have HX3 : Hid (BIn w3 (some ⟨b, o, none⟩) xs) := HBB.out.below hb3
                by_cases hn3 : n3 = 0
                · have hbyt3 : ∀ c ∈ b3, c < 256 := by
                    intro c hc
                    cases hw3 with
                    | many => omega
                    | bad => omega
                    | long => omega
                    | ok h1 h2 =>
                      unfold bytesN sectsN at hc
                      obtain ⟨i, hi, hc⟩ := List.mem_flatMap.1 hc
                      have hi8 := List.mem_range.1 hi
                      unfold sectN at hc
                      simp only [List.mem_append, List.mem_singleton] at hc
                      rcases hc with (hc | hc) | hc
                      · exact putN_bytes _ (by have := HLOW.out; show GI.toNat < _; omega) c hc
                      · omega
                      · exact pad_bytes (insideN_bytes _) c (List.mem_of_mem_drop (List.mem_of_mem_take hc))
                  have k1 := conv_at (c := m3) (own_in ho3 hbyt3) rfl
                  have k2 := conv_at (c := c) HX3.out HLEN.out.symm
                  have HEQ : Hid ((strOf b3).data.toList = (strOf xs).data.toList ↔ b3 = xs) := strOf_eq hbyt3 HBY.out
                  have HOK : Hid (b3 = xs → IsDir ltS ⟨GI, ls.map Prod.fst⟩ xs) := fun e => by
                    have hh := HW3.out
                    rw [hn3] at hh
                    have hb : ∀ (n : Int), n = 0 → Wrote ⟨GI, ls.map Prod.fst⟩ n b3 → IsDir ltS ⟨GI, ls.map Prod.fst⟩ xs := fun n hn hw => by
                      cases hw with
                      | many => omega
                      | bad => omega
                      | long => omega
                      | ok h1 h2 => exact ⟨h1, h2, e.symm⟩
                    exact hb 0 rfl hh
                  have HNQ : Hid (b3 ≠ xs → ∀ x, ¬ IsDir ltS x xs) := fun hne y hy => by
                    have e := HIS.out y hy
                    subst e
                    exact hne (by rw [(HW3.out.only (.ok hy.1 hy.2.1)).2]; exact hy.2.2.symm)
                  subst hn3
                  clear ho3 hw3 hb3 x0 x1 hbyt3 hwt
                  have d0 : w3.cell? ⟨w.heap.size, 0, none⟩ = some (.int .i64 0) := cell_of_row _ _ _ _ _ _ HD3.out
                  have d1 : w3.cell? ⟨w.heap.size, 1, none⟩ = some (.slice none 0 0) := cell_of_row _ _ _ _ _ _ HD3.out
                  have g0 := frozen_row (i := 0) HD3.out
                  have g1 := frozen_row (i := 1) HD3.out
                  by_cases hbx : b3 = xs
                  · have HD : Hid _ := HOK.out hbx
                    have hq : (strOf b3).toList = (strOf xs).toList := by rw [hbx]
                    have hq1 : ((strOf b3).toList == (strOf xs).toList) = true := by rw [hq]; simp
                    have hq2 : ((strOf b3).data.toList == (strOf xs).data.toList) = true := by rw [hbx]; simp
                    clear HNQ HOK HEQ hbx hq
                    generalize strOf b3 = sA at *
                    generalize strOf xs = sB at *
                    go_wp2
                    (try simp only [Exit.inBlock, Exit.then])
                    refine bodyPost_ret (v := .tuple #[.agg #[.int .i64 GI, .slice ql ls.length ml], .int .i64 0]) ?_ rfl ?_
                    · rw [results_cell_tmp rfl]
                      go_simp
                    · exact .inl ⟨⟨GI, ls.map Prod.fst⟩, ls, _, HD.out, rfl, rfl, (HF3.out.set2 (by omega) _ _).mono (by omega), set2_below HB3.out (by omega) _ _⟩
                  · have HNX : Hid _ := HNQ.out hbx
                    have hq0 : ¬ (strOf b3).data.toList = (strOf xs).data.toList := fun e => hbx (HEQ.out.1 e)
                    have hq2 : ((strOf b3).data.toList == (strOf xs).data.toList) = false := by simpa using hq0
                    have hq1 : ((strOf b3).toList == (strOf xs).toList) = false := by simpa [ByteArray.toList_eq] using hq0
                    clear HNQ HOK HEQ hbx
                    generalize strOf b3 = sA at *
                    generalize strOf xs = sB at *
                    go_wp2
                    (try simp only [Exit.inBlock, Exit.then])
                    refine bodyPost_ret (v := .tuple #[.agg #[.int .i64 0, .slice none 0 0], .int .i64 8]) ?_ rfl ?_
                    · rw [results_cell_tmp rfl]
                      go_simp
                    · exact .inr ⟨HNX.out, rfl, set2_below HB3.out (by omega) _ _⟩
                · have hne : (n3 != 0) = true := by simpa using hn3
                  have HNW : Hid (∀ x, ¬ IsDir ltS x xs) := fun y hy => by
                    have e := HIS.out y hy
                    subst e
                    exact hn3 (HW3.out.only (.ok hy.1 hy.2.1)).1
                  clear ho3 hw3 hb3 x0 x1 hn3 hwt
                  have HDB : Hid (Below w.heap.size w w3) := HB3.out
                  have HDX : Hid (w3.heap[w.heap.size]? = some (.cells #[.int .i64 0, .slice none 0 0] 31 (0, 0))) := HD3.out
                  have c0 : w3.cell? ⟨w.heap.size, 0, none⟩ = some (.int .i64 0) := cell_of_row _ _ _ _ _ _ HDX.out
                  have c1 : w3.cell? ⟨w.heap.size, 1, none⟩ = some (.slice none 0 0) := cell_of_row _ _ _ _ _ _ HDX.out
                  have f0 := frozen_row (i := 0) HDX.out
                  have f1 := frozen_row (i := 1) HDX.out
                  have HNO : Hid (∀ x, ¬ IsDir ltS x xs) := HNW.out
                  go_wp2
                  (try simp only [Exit.inBlock, Exit.then])
                  refine bodyPost_ret (v := .tuple #[.agg #[.int .i64 0, .slice none 0 0], .int .i64 8]) ?_ rfl ?_
                  · rw [results_cell_tmp rfl]
                    go_simp
                  · exact .inr ⟨HNO.out, rfl, set2_below HDB.out (by omega) _ _⟩
  · have hne : ((xs.length : Int) != 1024) = true := by simp; omega
    have HN0 : Hid (∀ x, ¬ IsDir ltS x xs) := fun x h => hlen (isDir_len h)
    clear hlen hb
    go_enter Tryz.func117, Tryz.ntmps117
    go_wp2
    (try simp only [Exit.inBlock, Exit.then])
    refine bodyPost_ret (v := .tuple #[.agg #[.int .i64 0, .slice none 0 0], .int .i64 8]) ?_ rfl ?_
    · rw [results_cell_tmp rfl]
      go_simp
    · exact .inr ⟨HN0.out, rfl, below_alloc _ _⟩
end Go.Proofs.YtglcpfnpbcnejaaGreatDoor
