/-
  Contract of the document's taken: which sectors are in pieces.
-/
import Derived.Test.YtglcpfnpbcnejaaGreatDoorJ09
import Derived.Test.YtglcpfnpbcnejaaGreatDoorJ07
import Derived.Laws.StructEq
namespace Go.Proofs.YtglcpfnpbcnejaaGreatDoor
open Go.RowKit Go.WideShapes


theorem refRead_some (p : Option Addr) (len cap : Nat) (xs : List Nat) (w : World) (n k : Nat) (hlen : len = xs.length) (hb : BIn w p xs) (hm : xs.length ≤ maxLen) (hr : readN xs = some (n, k)) :
    Calls Tryz.prog 171 #[.slice p len cap] w fun e w' => e = .returned (.tuple #[.int .u64 n, .int .i64 k, .int .i64 0]) ∧ w' = w := by
  subst hlen
  refine (refRead_any p cap xs w hb hm).mono fun e w' h => ⟨?_, h.2⟩
  rw [h.1, hr]; rfl
theorem refRead_none (p : Option Addr) (len cap : Nat) (xs : List Nat) (w : World) (hlen : len = xs.length) (hb : BIn w p xs) (hm : xs.length ≤ maxLen) (hr : readN xs = none) :
    Calls Tryz.prog 171 #[.slice p len cap] w fun e w' => e = .returned (.tuple #[.int .u64 0, .int .i64 0, .int .i64 8]) ∧ w' = w := by
  subst hlen
  refine (refRead_any p cap xs w hb hm).mono fun e w' h => ⟨?_, h.2⟩
  rw [h.1, hr]; rfl
set_option maxHeartbeats 400000 in
theorem refCut_none (p : Option Addr) (cap : Nat) (xs : List Nat) (w : World) (hb : BIn w p xs) (hm : xs.length ≤ maxLen) (hr : readN xs = none) :
    Calls Tryz.prog 146 #[.slice p xs.length cap] w fun e w' => e = .returned (.tuple #[.string ByteArray.empty, .slice none 0 0, .int .i64 8]) ∧ w' = w := by
  have HR : Hid _ := hr
  clear hr
  go_enter Tryz.func146, Tryz.ntmps146
  go_wp2_with fail
  refine (refRead_none p xs.length cap xs w rfl hb hm HR.out).mono ?_
  rintro e w1 ⟨rfl, rfl⟩
  go_wp2
  go_ret3
  exact ⟨rfl, rfl⟩
set_option maxHeartbeats 400000 in
theorem refCut_long (p : Option Addr) (cap : Nat) (xs : List Nat) (w : World) (hb : BIn w p xs) (hm : xs.length ≤ maxLen) (n k : Nat) (hr : readN xs = some (n, k)) (hl : xs.length < k + n) :
    Calls Tryz.prog 146 #[.slice p xs.length cap] w fun e w' => e = .returned (.tuple #[.string ByteArray.empty, .slice none 0 0, .int .i64 8]) ∧ w' = w := by
  obtain ⟨k1, k2, k3, k4⟩ := readN_some hr
  have hm' := hm
  unfold maxLen at hm'
  have HR : Hid _ := hr
  clear hr
  go_enter Tryz.func146, Tryz.ntmps146
  go_wp2_with fail
  refine (refRead_some p xs.length cap xs w n k rfl hb hm HR.out).mono ?_
  rintro e w1 ⟨rfl, rfl⟩
  clear HR hb
  go_wp2
  go_ret3
  exact ⟨rfl, rfl⟩
set_option maxHeartbeats 400000 in
theorem refCut_ok (p : Option Addr) (cap : Nat) (xs : List Nat) (w : World) (hb : BIn w p xs) (hm : xs.length ≤ 100000) (hcap : xs.length ≤ cap) (n k : Nat) (hr : readN xs = some (n, k)) (hl : k + n ≤ xs.length) :
    Calls Tryz.prog 146 #[.slice p xs.length cap] w fun e w' => ∃ v, e = .returned (.tuple #[.string (strOf ((xs.drop k).take n)), v, .int .i64 0]) ∧ w'.ownsRow w.heap.size 5 1 v (xs.drop (k + n)).length (Bs (xs.drop (k + n))) ∧ Below w.heap.size w w' := by
  obtain ⟨k1, k2, k3, k4⟩ := readN_some hr
  obtain ⟨b, o, rfl, hc⟩ := hb.1 (by omega)
  have HR : Hid _ := hr
  clear hr hc
  have hm' : xs.length ≤ maxLen := by unfold maxLen; omega
  have q1 : (0 : Int) ≤ (k : Int) + n ∧ (k : Int) + n ≤ cap := by omega
  have q2 : ((k : Int) + n).toNat = k + n := by omega
  have q3 : k ≤ k + n := by omega
  have q4 : (k : Int) + n ≤ xs.length := by omega
  have B1 := bin_part hb cap k hcap n
  have B2 := bin_part hb cap (k + n) hcap xs.length
  have e2 : Hid ((xs.drop (k + n)).take xs.length = xs.drop (k + n)) := List.take_of_length_le (by simp)
  rw [e2.out] at B2
  have L1 : Hid (n = ((xs.drop k).take n).length) := by show _ = _; simp; omega
  have L2 : Hid (xs.length - (k + n) = (xs.drop (k + n)).length) := by show _ = _; simp
  obtain ⟨A1, hA1⟩ : ∃ A, (if cap = k then some (⟨b, o, none⟩ : Addr) else some ⟨b, o + k, none⟩) = A := ⟨_, rfl⟩
  obtain ⟨A2, hA2⟩ : ∃ A, (if cap = k + n then some (⟨b, o, none⟩ : Addr) else some ⟨b, o + (k + n), none⟩) = A := ⟨_, rfl⟩
  rw [hA1] at B1
  rw [hA2] at B2
  have HB1 : Hid _ := B1
  have HB2 : Hid _ := B2
  have P2 : Hid (A2 = none → cap - (k + n) = 0) := by show _ → _; intro h; rw [h] at hA2; split at hA2 <;> cases hA2
  have Z2 : Hid (([] : List Nat).length + (xs.drop (k + n)).length ≤ 140737488355328) := by show _ ≤ _; simp; omega
  have HI : Hid (BIn w (some ⟨b, o, none⟩) xs) := hb
  clear B1 B2 hb
  go_enter Tryz.func146, Tryz.ntmps146
  go_wp2_with fail
  refine (refRead_some _ xs.length cap xs w n k rfl HI.out hm' HR.out).mono ?_
  rintro e w1 ⟨rfl, rfl⟩
  clear HR hm'
  go_wp2_with (at_builtin; refine wpList_append_bytes _ rfl _ _ rfl w1.heap.size _ [] (xs.drop (k + n)) A2 _ _ rfl rfl L2.out (World.ownsRow_nil _ _ _ _) HB2.out P2.out Z2.out (Nat.le_refl _) ?_)
  intro v' w2 hown hgrow
  have hbl : Below w1.heap.size w1 w2 := (Below.refl w1.heap.size w1).grown hgrow (Nat.le_refl _) (fun k hk => by simp [Value.ownBlock] at hk)
  have cv1 := conv_at (c := cap - k) (BIn.below HB1.out hbl) L1.out
  have HO : Hid (w2.ownsRow w1.heap.size 5 1 v' (xs.drop (k + n)).length (Bs (xs.drop (k + n)))) := by show World.ownsRow _ _ _ _ _ _ _; simpa using hown
  clear hown hgrow
  go_wp2
  go_ret3
  exact ⟨v', rfl, HO.out, hbl⟩
end Go.Proofs.YtglcpfnpbcnejaaGreatDoor
namespace Go.Proofs.YtglcpfnpbcnejaaGreatDoor.Rm
open Go.RowKit Go.WideShapes

def eqP (x y : Int × Int) : Bool := x.1 == y.1 && x.2 == y.2
theorem eqP_iff {x y : Int × Int} : eqP x y = true ↔ x = y := by
  unfold eqP
  simp only [Bool.and_eq_true, beq_iff_eq]
  exact ⟨fun h => Prod.ext h.1 h.2, fun h => by rw [h]; exact ⟨rfl, rfl⟩⟩
theorem neq_piece (a b c d : Int) (w : World) : Sem.run Tryz.prog (binOp .neq 53 (.agg #[.int .i64 a, .int .i64 b]) (.agg #[.int .i64 c, .int .i64 d])) w = .ok (.bool (!eqP (a, b) (c, d))) w := by
  have u3 := Tryz.underlying3
  have a3 := Tryz.isAgg3
  have z3 := Tryz.sizeOf3
  have hS : Tryz.prog.underlying 53 = some (.struct (Tryz.prog.fieldsOf 53)) := by kernel_rfl
  have hp : Tryz.prog.stoodInHeld 53 = false := by kernel_rfl
  rw [run_neq_struct, show (10000 : Nat) = 9999 + 1 from rfl, run_equalIn_agg w 9999 53 _ _ hS hp]
  simp only [Program.fieldsOf, Tryz.underlying53]
  go_simp
  by_cases h1 : a = c <;> by_cases h2 : b = d <;> simp [eqP, h1, h2]
def EqK (a b : Pcs) (k : Nat) : Prop := ∀ i, i < k → a.getD i (0, 0) = b.getD i (0, 0)
theorem EqK.step {a b : Pcs} {k : Nat} (h : EqK a b k) (h1 : a.getD k (0, 0) = b.getD k (0, 0)) : EqK a b (k + 1) := by
  intro i hi
  rcases Nat.lt_or_ge i k with h' | h'
  · exact h i h'
  · obtain rfl : i = k := by omega
    exact h1
theorem EqK.eq {a b : Pcs} (hl : a.length = b.length) (h : EqK a b a.length) : a = b := by
  refine List.ext_getElem hl fun i h1 h2 => ?_
  have := h i h1
  rwa [getD_eq h1, getD_eq h2] at this
def sameB (a b : Pcs) : Bool := decide (a = b)
theorem sameB_yes {a b : Pcs} (h : a = b) : sameB a b = true := decide_eq_true h
theorem sameB_no {a b : Pcs} (h : a ≠ b) : sameB a b = false := decide_eq_false h

end Go.Proofs.YtglcpfnpbcnejaaGreatDoor.Rm
namespace Go.Proofs.YtglcpfnpbcnejaaGreatDoor.Rm
open Go.RowKit Go.WideShapes

set_option maxHeartbeats 1000000 in
theorem rsame_any (va vb : Value) (a b : Pcs) (w : World) (ha : PIn w va a) (hb : PIn w vb b) :
    Calls Tryz.prog 57 #[va, vb] w fun e w' => e = .returned (.bool (sameB a b)) ∧ Below w.heap.size w w' := by
  obtain ⟨qa, ca, rfl, hqa, hla, hma, _⟩ := ha.lies
  obtain ⟨qb, cb, rfl, hqb, hlb, hmb, _⟩ := hb.lies
  have hneq := neq_piece
  unfold maxLen at hma hmb
  clear ha hb
  by_cases h1 : a.length = b.length
  · have hll : ((a.length : Int) != (b.length : Int)) = false := by simp [h1]
    go_enter Tryz.func57, Tryz.ntmps57
    go_wp2
    go_loopw [5] (fun i wr => ∃ k : Nat, k ≤ a.length ∧ i = .int .i64 k ∧ EqK a b k ∧ Below w.heap.size w wr) (fun i _ => a.length - (intOf i).toNat)
    case atStart => exact ⟨0, by omega, rfl, fun i hi => absurd hi (by omega), Below.refl _ _⟩
    case round =>
      obtain ⟨k, hk, rfl, heq, hbel⟩ := hrel
      have HE : Hid (EqK a b k) := heq
      clear heq
      by_cases hkl : k < a.length
      · obtain ⟨ba, oa, rfl⟩ := hqa.addr (by omega)
        obtain ⟨bb, ob, rfl⟩ := hqb.addr (by omega)
        obtain ⟨e1, e2⟩ := (hqa.below hbel).at hkl
        obtain ⟨f1, f2⟩ := (hqb.below hbel).at (k := k) (by omega)
        have hkb : k < b.length := by omega
        have HS := HE.out.step
        have HN : Hid (a.getD k (0, 0) ≠ b.getD k (0, 0) → sameB a b = false) := fun hne => sameB_no (fun e => hne (by rw [e]))
        clear hqa hqb
        generalize a.getD k (0, 0) = x at *
        generalize b.getD k (0, 0) = y at *
        obtain ⟨x1, x2⟩ := x
        obtain ⟨y1, y2⟩ := y
        have HS' : Hid _ := HS
        clear HS
        simp only at e1 e2 f1 f2
        have HBEL : Hid (∀ n, Below w.heap.size w (wr.drewN n)) := fun n => hbel.grown (grown_drew _ _ none) hbel.size (fun k hk => by cases hk)
        clear hbel
        by_cases g1 : (x1, x2) = (y1, y2)
        · have hq := eqP_iff.2 g1
          have HS2 : Hid (EqK a b (k + 1)) := HS'.out g1
          clear g1 HS' HN
          go_wp2
          go_quiet (fail)
          go_wp2
          go_roundw
          case rel => exact ⟨k + 1, by omega, by go_num, HS2.out, HBEL.out _⟩
          case measure => simp [intOf]; omega
        · have hq : eqP (x1, x2) (y1, y2) = false := by
            rw [← Bool.not_eq_true, eqP_iff]; exact g1
          have HN2 : Hid (sameB a b = false) := HN.out g1
          clear g1 HS' HN
          go_wp2
          go_quiet (fail)
          go_wp2
          go_ret
          exact ⟨by rw [HN2.out]; rfl, HBEL.out _⟩
      · obtain rfl : k = a.length := by omega
        have HS2 : Hid (sameB a b = true) := sameB_yes (HE.out.eq h1)
        clear HE hqa hqb
        go_wp2
        go_ret
        exact ⟨by rw [HS2.out]; rfl, hbel⟩
  · have hll : ((a.length : Int) != (b.length : Int)) = true := by simp; omega
    have HS2 : Hid (sameB a b = false) := sameB_no (fun e => h1 (by rw [e]))
    go_enter Tryz.func57, Tryz.ntmps57
    go_wp2
    go_ret
    exact ⟨by rw [HS2.out]; rfl, Below.refl _ _⟩
end Go.Proofs.YtglcpfnpbcnejaaGreatDoor.Rm
namespace Go.Proofs.YtglcpfnpbcnejaaGreatDoor.Rm
open Go.RowKit Go.WideShapes

theorem info_bool : (Tryz.prog.info? 4).map (fun i => (i.zero, i.size, i.bytes)) = some (some (.bool false), 1, 1) := by kernel_rfl
/-- Truth values, one a sector. -/
def bRow (P : Int → Bool) (n : Nat) : List Value := (List.range n).map fun i => .bool (P (i : Nat))
theorem bRow_len (P : Int → Bool) (n : Nat) : (bRow P n).length = n := by simp [bRow]
theorem bRow_at {P : Int → Bool} {n i : Nat} (h : i < n) : (bRow P n)[i]? = some (.bool (P (i : Nat))) := by simp [bRow, h]
theorem bRow_congr {P Q : Int → Bool} {n : Nat} (h : ∀ i : Nat, i < n → P i = Q i) : bRow P n = bRow Q n := by
  unfold bRow
  refine List.map_congr_left fun i hi => ?_
  rw [h i (by simpa using hi)]
theorem bRow_set {P Q : Int → Bool} {n k : Nat} (hk : k < n) (hq : Q k = true) (h : ∀ i : Nat, i ≠ k → Q i = P i) : (bRow P n).set k (.bool true) = bRow Q n := by
  apply List.ext_getElem?
  intro i
  rw [List.getElem?_set]
  by_cases e : k = i
  · subst e
    rw [if_pos rfl, bRow_at hk, hq, if_pos (by rw [bRow_len]; exact hk)]
  · rw [if_neg e]
    rcases Nat.lt_or_ge i n with h' | h'
    · rw [bRow_at h', bRow_at h', h i (fun e' => e e'.symm)]
    · rw [List.getElem?_eq_none (by rw [bRow_len]; exact h'), List.getElem?_eq_none (by rw [bRow_len]; exact h')]
theorem bRow_made (n : Nat) : (madeCells #[Value.bool false] n).toList = bRow (cov []) n := by
  rw [toList_madeCells_one]
  apply List.ext_getElem?
  intro i
  rcases Nat.lt_or_ge i n with h' | h'
  · rw [bRow_at h']; simp [h', cov]
  · rw [List.getElem?_eq_none (by simpa using h'), List.getElem?_eq_none (by rw [bRow_len]; exact h')]
/-- The row as it lies. -/
def BAt (w : World) (g : Nat) (P : Int → Bool) (n : Nat) : Prop := w.heap[g]? = some (.cells (bRow P n).toArray 4 (0, 0))
theorem BAt.cell {w : World} {g : Nat} {P : Int → Bool} {n i : Nat} (h : BAt w g P n) (hi : i < n) : w.cell? ⟨g, i, none⟩ = some (.bool (P (i : Nat))) := by
  rw [cell_of_row w g i _ _ _ h, List.getElem?_toArray, bRow_at hi]
theorem BAt.frozen {w : World} {g : Nat} {P : Int → Bool} {n i : Nat} (h : BAt w g P n) : w.frozen? ⟨g, i, none⟩ = false := frozen_of_row _ _ _ _ _ h
theorem BAt.below {w w' : World} {g : Nat} {P : Int → Bool} {n : Nat} (h : BAt w g P n) (hb : Below w.heap.size w w') : BAt w' g P n := (hb.block g (lt_heap h)).trans h
theorem BAt.grown {w w' : World} {g : Nat} {P : Int → Bool} {n : Nat} {r : Option Nat} (h : BAt w g P n) (hg : w.grownBy w' r) (hne : some g ≠ r) : BAt w' g P n := (hg.block g (lt_heap h) hne).trans h
theorem BAt.set {w : World} {g : Nat} {P Q : Int → Bool} {n k : Nat} (h : BAt w g P n) (hk : k < n) (hq : Q k = true) (hpq : ∀ i : Nat, i ≠ k → Q i = P i) : BAt (w.setCell ⟨g, k, none⟩ (.bool true)) g Q n := by
  unfold BAt
  rw [heap_setCell_same w g k _ _ _ h, ← bRow_set hk hq hpq]
  simp
def covJ (l : Pcs) (a : Int) (j : Nat) (n : Int) : Bool := cov l n || decide (a ≤ n ∧ n < a + (j : Nat))
theorem covJ_zero (l : Pcs) (a : Int) (n : Int) : covJ l a 0 n = cov l n := by
  unfold covJ
  rw [decide_eq_false (by omega), Bool.or_false]
theorem covJ_step {l : Pcs} {a : Int} {j : Nat} {n : Int} (h : n ≠ a + (j : Nat)) : covJ l a (j + 1) n = covJ l a j n := by
  unfold covJ
  congr 1
  rw [decide_eq_decide]
  omega
theorem covJ_new (l : Pcs) (a : Int) (j : Nat) (h : 0 ≤ (j : Int)) : covJ l a (j + 1) (a + (j : Nat)) = true := by
  unfold covJ
  rw [decide_eq_true (by omega), Bool.or_true]
theorem covJ_at (l : Pcs) (a : Int) (j : Nat) : covJ l a j (a + (j : Nat)) = cov l (a + (j : Nat)) := by
  unfold covJ
  rw [decide_eq_false (by omega), Bool.or_false]
theorem covJ_full (l : Pcs) (p : Int × Int) (hp : 0 ≤ p.2) (n : Int) : covJ l p.1 p.2.toNat n = cov (l ++ [p]) n := by
  rw [cov_append]
  unfold covJ
  congr 1
  simp only [cov, List.any_cons, List.any_nil, Bool.or_false, hasN]
  rw [decide_eq_decide]
  omega
theorem free_run {l : Pcs} {a : Int} {j : Nat} (h : ∀ i : Nat, i < j → cov l (a + (i : Nat)) = false) : ∀ n, a ≤ n → n < a + (j : Nat) → cov l n = false := by
  intro n h1 h2
  have := h (n - a).toNat (by omega)
  rwa [show a + ((n - a).toNat : Int) = n from by omega] at this
/-- What came out. -/
def TakenPost (count : Nat) (l : Pcs) (w : World) (e : Ending) (w' : World) : Prop :=
  (Good count l → ∃ g, e = .returned (.tuple #[.slice (some ⟨g, 0, none⟩) count count, .bool true]) ∧ BAt w' g (cov l) count ∧ w.heap.size ≤ g ∧ Below w.heap.size w w') ∧
  (¬ Good count l → e = .returned (.tuple #[.slice none 0 0, .bool false]) ∧ Below w.heap.size w w')
theorem takenPost_bad {count : Nat} {l : Pcs} {w w' : World} {e : Ending} (h : ¬ Good count l) (he : e = .returned (.tuple #[.slice none 0 0, .bool false])) (hb : Below w.heap.size w w') : TakenPost count l w e w' :=
  ⟨fun hg => absurd hg h, fun _ => ⟨he, hb⟩⟩
theorem not_good_snoc {count : Int} {l : Pcs} {k : Nat} (hk : k < l.length) {n : Int} (h1 : (l.getD k (0, 0)).1 ≤ n) (h2 : n < (l.getD k (0, 0)).1 + (l.getD k (0, 0)).2) (hc : cov (l.take k) n = true) : ¬ Good count l := by
  intro hg
  have := (hg.take (k + 1))
  rw [take_snoc (d := (0, 0)) hk] at this
  have := this.far n h1 h2
  rw [this] at hc
  cases hc

set_option maxRecDepth 4000 in
set_option maxHeartbeats 2000000 in
theorem taken_any (count : Nat) (v : Value) (l : Pcs) (w : World) (hl : PIn w v l) (hc : count ≤ 4096) :
    Calls Tryz.prog 88 #[.int .i64 count, v] w (TakenPost count l w) := by
  obtain ⟨q, c, rfl, hq, hlc, hcm, _⟩ := hl.lies
  have hwf := hl.wf
  clear hl
  unfold maxLen at hcm
  obtain ⟨i0, hi, hz0, hz1, hz2⟩ := info_parts' info_bool
  go_enter Tryz.func88, Tryz.ntmps88
  go_wp2_with (at_make; refine wpList_make_full _ rfl _ _ 71 rfl w.heap.size 4 i0 (.bool false) 1 Tryz.underlying71 hi hz0 hz1 .i64 .i64 _ _ count rfl rfl rfl rfl (by rw [hz2]; omega) (by unfold maxLen; omega) (Nat.le_refl _) ?_)
  intro w1 hown hgrow
  have hrow : Hid (BAt w1 w.heap.size (cov (l.take 0)) count) := by
    show BAt _ _ _ _
    have := row_full' hown
    rwa [bRow_made] at this
  have hb1 : Below w.heap.size w w1 := (Below.refl _ _).grown hgrow (Nat.le_refl _) (fun k hk => by cases hk)
  clear hown hgrow
  go_wp2
  go_loopw [7] (fun i wr => ∃ k : Nat, k ≤ l.length ∧ i = .int .i64 k ∧ Good count (l.take k) ∧ BAt wr w.heap.size (cov (l.take k)) count ∧ Below w.heap.size w wr) (fun i _ => l.length - (intOf i).toNat)
  case atStart => exact ⟨0, by omega, rfl, by simpa using good_nil _, hrow.out, hb1⟩
  case round =>
    clear hrow
    obtain ⟨k, hk, rfl, hgood, hat, hbel⟩ := hrel
    have HG : Hid (Good count (l.take k)) := hgood
    have HAT : Hid (BAt wr w.heap.size (cov (l.take k)) count) := hat
    clear hgood hat
    by_cases hkl : k < l.length
    · obtain ⟨b, o, rfl⟩ := hq.addr (by omega)
      obtain ⟨e1, e2⟩ := (hq.below hbel).at hkl
      obtain ⟨f1, f2⟩ := hwf.at hkl
      have HBAD := not_good_wn (k := k) (count := (count : Int)) hkl
      have HBAD' : Hid _ := HBAD
      have HNG : Hid (∀ n, (l.getD k (0, 0)).1 ≤ n → n < (l.getD k (0, 0)).1 + (l.getD k (0, 0)).2 → cov (l.take k) n = true → ¬ Good count l) := fun n h1 h2 h3 => not_good_snoc hkl h1 h2 h3
      have HTS : Hid (l.take (k + 1) = l.take k ++ [l.getD k (0, 0)]) := take_snoc hkl
      clear hq hwf HBAD
      generalize l.getD k (0, 0) = y at *
      obtain ⟨a, n⟩ := y
      simp only at e1 e2 f1 f2
      have HBEL : Hid (Below w.heap.size w wr) := hbel
      by_cases g1 : Wn count (a, n)
      · obtain ⟨g11, g12, g13⟩ := g1
        simp only at g11 g12 g13
        obtain ⟨m, rfl⟩ := Int.eq_ofNat_of_zero_le (show 0 ≤ n by omega)
        obtain ⟨a', rfl⟩ := Int.eq_ofNat_of_zero_le g11
        clear HBAD'
        have hsz := hbel.size
        clear hbel
        go_wp2
        have hbx := box2 (Below.refl (wr.heap.size + 1) (wr.alloc (.cells #[.int .i64 (a' : Int), .int .i64 (m : Int)] 53)))
        have hglt := lt_heap HAT.out
        have H0 : Hid (BAt (wr.alloc (.cells #[.int .i64 (a' : Int), .int .i64 (m : Int)] 53)) w.heap.size (covJ (l.take k) a' 0) count ∧ ((wr.alloc (.cells #[.int .i64 (a' : Int), .int .i64 (m : Int)] 53)).cell? ⟨wr.heap.size, 0, none⟩ = some (.int .i64 a') ∧ (wr.alloc (.cells #[.int .i64 (a' : Int), .int .i64 (m : Int)] 53)).cell? ⟨wr.heap.size, 1, none⟩ = some (.int .i64 m)) ∧ Below w.heap.size w (wr.alloc (.cells #[.int .i64 (a' : Int), .int .i64 (m : Int)] 53))) := by
          refine ⟨?_, hbx, HBEL.out.alloc hsz _⟩
          have := HAT.out.below (below_alloc wr (.cells #[.int .i64 (a' : Int), .int .i64 (m : Int)] 53))
          unfold BAt at this ⊢
          rw [this, bRow_congr (fun i _ => (covJ_zero _ _ _).symm)]
        have hBne : wr.heap.size ≠ w.heap.size := by omega
        clear hbx HAT HBEL hglt
        generalize wr.heap.size = B at *
        go_loopw [9] (fun i wq => ∃ j : Nat, j ≤ m ∧ i = .int .i64 ((a' + j : Nat) : Int) ∧ (∀ x : Nat, x < j → cov (l.take k) ((a' : Int) + (x : Nat)) = false) ∧ BAt wq w.heap.size (covJ (l.take k) a' j) count ∧ (wq.cell? ⟨B, 0, none⟩ = some (.int .i64 a') ∧ wq.cell? ⟨B, 1, none⟩ = some (.int .i64 m)) ∧ Below w.heap.size w wq) (fun i _ => a' + m - (intOf i).toNat)
        case atStart => exact ⟨0, by omega, rfl, fun x hx => absurd hx (by omega), H0.out.1, H0.out.2.1, H0.out.2.2⟩
        case round =>
          clear H0
          obtain ⟨j, hj, rfl, hfree, hat, ⟨c0, c1⟩, hbel⟩ := hrel
          have HF : Hid (∀ x : Nat, x < j → cov (l.take k) ((a' : Int) + (x : Nat)) = false) := hfree
          have HAT : Hid (BAt wr w.heap.size (covJ (l.take k) a' j) count) := hat
          clear hfree hat
          by_cases hjm : j < m
          · have hcell := HAT.out.cell (i := a' + j) (by omega)
            have hfz := HAT.out.frozen (i := a' + j)
            have hval : covJ (l.take k) a' j ((a' + j : Nat) : Int) = cov (l.take k) ((a' + j : Nat) : Int) := by
              have := covJ_at (l.take k) a' j
              rwa [← Int.natCast_add] at this
            rw [hval] at hcell
            have HNG2 := HNG.out ((a' + j : Nat) : Int) (by first | omega | (simp only; omega)) (by first | omega | (simp only; omega))
            have HNG3 : Hid _ := HNG2
            clear HNG2 hval
            cases hcv : cov (l.take k) ((a' + j : Nat) : Int) with
            | true =>
              have HB : Hid (¬ Good count l) := HNG3.out hcv
              rw [hcv] at hcell
              clear hcv HNG3 HNG HG HTS
              go_wp2
              go_ret2
              exact takenPost_bad HB.out rfl hbel
            | false =>
              rw [hcv] at hcell
              have R1 : Hid (BAt (wr.setCell ⟨w.heap.size, a' + j, none⟩ (.bool true)) w.heap.size (covJ (l.take k) a' (j + 1)) count) := by
                refine HAT.out.set (by omega) ?_ ?_
                · have := covJ_new (l.take k) a' j (by omega)
                  rwa [← Int.natCast_add] at this
                · intro i hi
                  exact covJ_step (by omega)
              have R2 : Hid (∀ x : Nat, x < j + 1 → cov (l.take k) ((a' : Int) + (x : Nat)) = false) := by
                intro x hx
                rcases Nat.lt_or_ge x j with h' | h'
                · exact HF.out x h'
                · obtain rfl : x = j := by omega
                  rwa [← Int.natCast_add]
              have R3 : Hid ((wr.setCell ⟨w.heap.size, a' + j, none⟩ (.bool true)).cell? ⟨B, 0, none⟩ = some (.int .i64 a') ∧ (wr.setCell ⟨w.heap.size, a' + j, none⟩ (.bool true)).cell? ⟨B, 1, none⟩ = some (.int .i64 m)) :=
                ⟨(World.cell?_of_block (a := ⟨B, 0, none⟩) (heap_setCell_other wr ⟨w.heap.size, a' + j, none⟩ B _ hBne)).trans c0, (World.cell?_of_block (a := ⟨B, 1, none⟩) (heap_setCell_other wr ⟨w.heap.size, a' + j, none⟩ B _ hBne)).trans c1⟩
              have R4 : Hid (Below w.heap.size w (wr.setCell ⟨w.heap.size, a' + j, none⟩ (.bool true))) := hbel.setCell (Nat.le_refl _) _
              clear HF HNG3 hcv HAT
              go_wp2
              go_roundw
              case rel => exact ⟨j + 1, by omega, by go_num, R2.out, R1.out, R3.out, R4.out⟩
              case measure => simp [intOf]; omega
          · obtain rfl : j = m := by omega
            have R1 : Hid (Good count (l.take (k + 1))) := by
              show Good _ _
              rw [HTS.out]
              exact HG.out.snoc ⟨by simp only; omega, by simp only; omega, by simp only; omega⟩ (free_run HF.out)
            have R2 : Hid (BAt wr w.heap.size (cov (l.take (k + 1))) count) := by
              have h := HAT.out
              show BAt _ _ _ _
              unfold BAt at h ⊢
              rw [h, HTS.out, bRow_congr (fun i _ => ?_)]
              have := covJ_full (l.take k) ((a' : Int), (j : Int)) (by simp only; omega) (i : Nat)
              simpa using this
            clear HF HAT HG HNG
            go_wp2
            go_roundw
            case rel => exact ⟨k + 1, by omega, by go_num, R1.out, R2.out, hbel⟩
            case measure => simp [intOf]; omega
      · have HB : Hid (¬ Good count l) := HBAD'.out g1
        clear HBAD' HNG HTS HG HAT
        by_cases k1 : n < 1
        · go_wp2
          go_ret2
          exact takenPost_bad HB.out rfl (HBEL.out.alloc HBEL.out.size _)
        · by_cases k2 : a < 0
          · go_wp2
            go_ret2
            exact takenPost_bad HB.out rfl (HBEL.out.alloc HBEL.out.size _)
          · by_cases k3 : (count : Int) ≤ a
            · go_wp2
              go_ret2
              exact takenPost_bad HB.out rfl (HBEL.out.alloc HBEL.out.size _)
            · have k4 : (count : Int) - a < n := by
                unfold Wn at g1
                simp only at g1
                omega
              go_wp2
              go_ret2
              exact takenPost_bad HB.out rfl (HBEL.out.alloc HBEL.out.size _)
    · obtain rfl : k = l.length := by omega
      have H1 : Hid (Good count l ∧ BAt wr w.heap.size (cov l) count) := by
        have h1 := HG.out
        have h2 := HAT.out
        rw [List.take_length] at h1 h2
        exact ⟨h1, h2⟩
      clear HG HAT hq
      go_wp2
      go_ret2
      exact ⟨fun _ => ⟨_, rfl, H1.out.2, Nat.le_refl _, hbel⟩, fun h => absurd H1.out.1 h⟩
end Go.Proofs.YtglcpfnpbcnejaaGreatDoor.Rm
