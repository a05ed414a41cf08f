/-
  Which parts may be; how many bytes a key has.
-/
import Derived.Shelf.SlGeneric
import Derived.Ground.SlgnProg
import Derived.Shelf.SlicesE.Reverse
import Derived.Test.YthebnealkekdmaaProg
import Derived.Test.YthebnealkekdmaaJ04
import Derived.Test.YthebnealkekdmaaJ03
namespace Go.Proofs.Ythebnealkekdmaa
open Go.Shelf
def laysRev_ren : Go.Shelf.Ren := ⟨fun | 35 => 54 | n => n, fun | 22 => 36 | 23 => 5 | 3 => 3 | 4 => 4 | 0 => 0 | n => n, fun | n => n⟩
theorem laysRev : Go.Proofs.SlLaysE.n35 Try.prog laysRev_ren := {
  mixed := by kernel_rfl
  f35 := ⟨Try.f54.name, by decide, Try.func54.trans (congrArg some (by kernel_rfl))⟩
  t0 := Try.underlying0
  a0 := Try.isAgg0
  z0 := Try.sizeOf0
  v0 := Try.zeroValue0
  t3 := Try.underlying3
  a3 := Try.isAgg3
  z3 := Try.sizeOf3
  v3 := Try.zeroValue3
  t4 := Try.underlying4
  a4 := Try.isAgg4
  z4 := Try.sizeOf4
  v4 := Try.zeroValue4
  t22 := Try.underlying36
  a22 := Try.isAgg36
  z22 := Try.sizeOf36
  v22 := Try.zeroValue36
  a23 := Try.isAgg5
  z23 := Try.sizeOf5 }
end Go.Proofs.Ythebnealkekdmaa
namespace Go.Proofs.Ythebnealkekdmaa
open Go.RowKit Go.WideShapes Go.Sort

/-! ### A number's first bit -/
def turn (a : Nat) : Nat := if a < 9223372036854775808 then a + 9223372036854775808 else a - 9223372036854775808
theorem turn_lt {a : Nat} (h : a < 18446744073709551616) : turn a < 18446744073709551616 := by unfold turn; split <;> omega
theorem xor_top (a : Nat) (h : a < 18446744073709551616) : a ^^^ 9223372036854775808 = turn a := by
  have h63 : (9223372036854775808 : Nat) = 2 ^ 63 := by decide
  unfold turn
  split
  · rename_i h1
    have := Nat.two_pow_add_eq_or_of_lt (i := 63) (b := a) (by rw [← h63]; exact h1) 1
    rw [Nat.mul_one, ← h63] at this
    rw [Nat.add_comm, this]
    apply Nat.eq_of_testBit_eq
    intro i
    rw [Nat.testBit_xor, Nat.testBit_or]
    by_cases hi : i = 63
    · subst hi
      have : a.testBit 63 = false := Nat.testBit_lt_two_pow (by rw [← h63]; exact h1)
      simp [this]
    · have : (9223372036854775808 : Nat).testBit i = false := by rw [h63, Nat.testBit_two_pow]; simp; omega
      simp [this]
  · rename_i h1
    obtain ⟨b, rfl⟩ : ∃ b, a = b + 9223372036854775808 := ⟨a - 9223372036854775808, by omega⟩
    have hb : b < 2 ^ 63 := by rw [← h63]; omega
    have := Nat.two_pow_add_eq_or_of_lt (i := 63) (b := b) hb 1
    rw [Nat.mul_one, ← h63] at this
    rw [Nat.add_sub_cancel, Nat.add_comm, this]
    apply Nat.eq_of_testBit_eq
    intro i
    rw [Nat.testBit_xor, Nat.testBit_or]
    by_cases hi : i = 63
    · subst hi
      have : b.testBit 63 = false := Nat.testBit_lt_two_pow hb
      simp [this]
    · have : (9223372036854775808 : Nat).testBit i = false := by rw [h63, Nat.testBit_two_pow]; simp; omega
      simp [this]
theorem bits_xor (a : Nat) (h : a < 18446744073709551616) : bits BinOp.xor IntKind.u64 (a : Int) 9223372036854775808 = (turn a : Int) := by
  show IntKind.u64.wrap ((BitVec.ofInt 64 (a : Int) ^^^ BitVec.ofInt 64 9223372036854775808).toNat : Int) = _
  have h1 : (BitVec.ofInt 64 (a : Int)).toNat = a := by rw [BitVec.toNat_ofInt]; omega
  have h2 : (BitVec.ofInt 64 9223372036854775808).toNat = 9223372036854775808 := by decide
  have := turn_lt h
  rw [BitVec.toNat_xor, h1, h2, xor_top a h, IntKind.wrap_u64]
  omega
theorem turned_any (a b : Nat) (w : World) (h : a < 18446744073709551616) (hb : turn a = b) :
    Calls Try.prog 53 #[.int .u64 a] w fun e w' => e = .returned (.int .u64 b) ∧ w' = w := by
  have hx := bits_xor a h
  rw [hb] at hx
  have HX : Hid (bits BinOp.xor IntKind.u64 (a : Int) 9223372036854775808 = (b : Int)) := hx
  clear h
  go_enter Try.func53, Try.ntmps53
  go_wp2
  go_ret
  first | exact ⟨rfl, rfl⟩ | exact ⟨ret_int HX.out, rfl⟩
/-! ### The bytes turned round -/
theorem rev_any (g n cap : Nat) (xs : List Nat) (w : World) (hn : n = xs.length) (h : BIn w (some ⟨g, 0, none⟩) xs) (hf : ∀ i, i < n → w.frozen? ⟨g, i, none⟩ = false) (hs : n ≤ 1000) :
    Calls Try.prog 54 #[.slice (some ⟨g, 0, none⟩) n cap] w fun e w' => e = .returned (.tuple #[]) ∧ BIn w' (some ⟨g, 0, none⟩) xs.reverse ∧ w.grownBy w' (some g) ∧ ∀ C t fr, w.heap[g]? = some (.cells C t fr) → ∃ C', w'.heap[g]? = some (.cells C' t fr) := by
  subst hn
  have hH : Holds (fun c : Nat => Value.int .u8 (c : Int)) w g 0 xs.toArray := by
    intro j hj
    have hj' : j < xs.length := by simpa using hj
    refine ⟨?_, by rw [Nat.zero_add]; exact hf j hj'⟩
    have := h.cell j hj'
    rw [this]
    simp [List.getD, hj', getElem!_pos]
  refine (AnyE.slices_Reverse laysRev (fun c : Nat => Value.int .u8 (c : Int)) (fun _ => rfl) g 0 cap xs w hH (by omega)).mono ?_
  rintro e w' ⟨rfl, k, rfl⟩
  refine ⟨rfl, ⟨fun _ => ⟨g, 0, rfl, fun i hi => ?_⟩, fun c hc => h.2 c (List.mem_reverse.1 hc)⟩, ⟨rfl, rfl, rfl, by simp, fun j hj hne => ?_⟩, fun C t fr hC => ?_⟩
  · have hi' : i < xs.length := by simpa using hi
    rw [cell?_putRow (fun c : Nat => Value.int .u8 (c : Int)) (Sort.ahead w k) g 0 xs.toArray xs.reverse.toArray (holds_ahead _ w k g 0 _ hH) (by simp) i (by simpa using hi')]
    simp [List.getD, hi', getElem!_pos]
  · show (mapBlock (Sort.ahead w k) g _).heap[j]? = _
    simp only [mapBlock]
    rw [Array.getElem?_modify, if_neg (fun e => hne (by rw [e]))]
    rfl
  · show ∃ C', (mapBlock (Sort.ahead w k) g _).heap[g]? = _
    simp only [mapBlock]
    rw [Array.getElem?_modify, if_pos rfl]
    have : (Sort.ahead w k).heap[g]? = some (.cells C t fr) := hC
    rw [this]
    exact ⟨_, rfl⟩
/-! ### Builders that stay -/
theorem Bld.below {B b : Nat} {xs : List Nat} {w w' : World} (h : Bld B b xs w) (hb : Below w.heap.size w w') : Bld B b xs w' := by
  rcases h with ⟨hB, v, hk, ho, hne⟩ | ⟨hB, v, hk, ho, hne⟩
  · exact .inl ⟨hB, v, block_below hk hb, own_below ho hb, hne⟩
  · exact .inr ⟨hB, v, block_below hk hb, own_below ho hb, hne⟩
theorem Bld.grown {B b g : Nat} {xs : List Nat} {w w' : World} {C : Array Value} {t : TypeId} {fr : Nat × Nat} (h : Bld B b xs w) (hg : w.grownBy w' (some g)) (hgb : g ≠ b) (hC : w.heap[g]? = some (.cells C t fr)) (ht : t ≠ 5) : Bld B b xs w' := by
  have key : ∀ {p v}, w.heap[b]? = some (.cells #[p, v] 51 (0, 0)) → w.ownsRow B 5 1 v (Bs xs).length (Bs xs) → w'.heap[b]? = some (.cells #[p, v] 51 (0, 0)) ∧ w'.ownsRow B 5 1 v (Bs xs).length (Bs xs) := fun hk ho =>
    ⟨(hg.block b (lt_heap hk) (fun e => hgb (by injection e with e; exact e.symm))).trans hk, ho.kept hg (.inr (own_ne ho hC ht))⟩
  rcases h with ⟨hB, v, hk, ho, hne⟩ | ⟨hB, v, hk, ho, hne⟩
  · exact .inl ⟨hB, v, (key hk ho).1, (key hk ho).2, hne⟩
  · exact .inr ⟨hB, v, (key hk ho).1, (key hk ho).2, hne⟩
theorem Bld.lt {B b : Nat} {xs : List Nat} {w : World} (h : Bld B b xs w) : b < w.heap.size ∧ B ≤ b := by
  rcases h with h | h
  · exact ⟨h.lt, h.1⟩
  · exact ⟨h.lt, h.1⟩
set_option maxHeartbeats 2000000 in
set_option maxRecDepth 100000 in
theorem write_bytes (B b : Nat) (xs ys : List Nat) (p : Option Addr) (n c : Nat) (w : World) (h : Bld B b xs w) (hn : n = ys.length) (hy : BIn w p ys) (hp : p = none → c = 0) (hlen : xs.length + ys.length ≤ 1000000) (hBw : B ≤ w.heap.size) :
    Calls Try.prog 55 #[.pointer (some ⟨b, 0, none⟩), .slice p n c] w fun e w' => e = .returned (.tuple #[.int .i64 n, .nilIface]) ∧ Bld B b (xs ++ ys) w' ∧ Below B w w' ∧ KeptB b w w' := by
  have HL : Hid (xs.length + ys.length ≤ 1000000 ∧ n = ys.length) := ⟨hlen, hn⟩
  have HY : Hid (BIn w p ys) := hy
  have HP : Hid (p = none → c = 0) := hp
  have hnI : (n : Int) ≤ 1000000 := by omega
  clear hlen hy hn hp
  have h2 : ∀ w1, Lib.BuilderAt 51 5 B b (.pointer (some ⟨b, 0, none⟩)) (Bs xs) w1 → Bld B b xs w1 := fun w1 h => .inr h
  have hcp : Calls Try.prog 40 #[.pointer (some ⟨b, 0, none⟩)] w fun e w' => e = .returned (.tuple #[]) ∧ (Lib.BuilderAt 51 5 B b (.pointer (some ⟨b, 0, none⟩)) (Bs xs) w' ∧ Below B w w' ∧ BIn w' p ys ∧ KeptB b w w') := by
    have hlt := Bld.lt h
    rcases h with h | h
    · refine (copyCheck_fresh b w h.cell0 h.shape h.frozen0).mono ?_
      rintro e w' ⟨rfl, rfl⟩
      refine ⟨rfl, h.used _, (Below.refl B w).setCell (p := ⟨b, 0, none⟩) h.1 _, ⟨fun h0 => ?_, HY.out.2⟩, (KeptB.refl b w).set 0 _⟩
      obtain ⟨bb, oo, hpp, hc⟩ := HY.out.1 h0
      refine ⟨bb, oo, hpp, fun i hi => ?_⟩
      have h1 := hc i hi
      rw [World.cell?_setCell_other _ _ _ _ ?_]
      · exact h1
      · intro e
        simp only [Addr.mk.injEq] at e
        obtain ⟨e1, e2, _⟩ := e
        rw [← e1, ← e2, h.cell0] at h1
        simp at h1
    · refine (copyCheck_used b w h.cell0).mono ?_
      rintro e w' ⟨rfl, rfl⟩
      exact ⟨rfl, h, Below.refl B _, HY.out, KeptB.refl b _⟩
  clear h2
  go_enter Try.func55, Try.ntmps55
  go_wp2_with (go_at_call 40; refine hcp.mono ?_)
  rintro e w1 ⟨rfl, h1, hb1, hy1, hk1⟩
  have HY1 : Hid (BIn w1 p ys) := hy1
  clear hy1 hcp
  obtain ⟨hB, v, hbk, hown, hne⟩ := h1
  have c0 : w1.cell? ⟨b, 0, none⟩ = some (.pointer (some ⟨b, 0, none⟩)) := by rw [Lib.cell_of_heap hbk]; rfl
  have c1 : w1.cell? ⟨b, 1, none⟩ = some v := by rw [Lib.cell_of_heap hbk]; rfl
  have hownA : w1.ownsRow B 5 1 v xs.length (Bs xs) := by have := hown; simpa [Bs] using this
  have hsz1 := hb1.size
  go_wp2_with (at_builtin; go_loud (refine wpList_append_bytes _ rfl _ _ rfl B _ xs ys p _ c rfl rfl HL.out.2 hownA HY1.out HP.out (by have := HL.out; omega) (by omega) ?_))
  intro v' w2 hown' hgrow
  have hown2 : w2.ownsRow B 5 1 v' (Bs (xs ++ ys)).length (Bs (xs ++ ys)) := by
    have e : (Bs (xs ++ ys)).length = (xs ++ ys).length := by simp [Bs]
    rw [e]
    first | exact hown' | (rw [List.length_append]; exact hown')
  obtain ⟨hb2, hnew⟩ := bld_put hB hbk hne hgrow hown2
  have d0 : w2.cell? ⟨b, 0, none⟩ = some (.pointer (some ⟨b, 0, none⟩)) := by rw [Lib.cell_of_heap hb2]; rfl
  have d1 : w2.cell? ⟨b, 1, none⟩ = some v := by rw [Lib.cell_of_heap hb2]; rfl
  have f1 : w2.frozen? ⟨b, 1, none⟩ = false := Lib.frozen_of_heap hb2 1
  obtain ⟨ao, n', cap, rfl⟩ : ∃ ao n' cap, v' = .slice ao n' cap := by
    rcases hown'.2 with ⟨hv, _⟩ | ⟨g, cap, cur, hv, _⟩
    · exact ⟨_, _, _, hv⟩
    · exact ⟨_, _, _, hv⟩
  have HNEW : Hid (Bld B b (xs ++ ys) (w2.setCell ⟨b, 1, none⟩ (.slice ao n' cap))) := hnew
  clear hnew
  go_wp2
  go_ret2
  exact ⟨rfl, HNEW.out, (hb1.grown hgrow (by omega) (fun k hk => (hown.lt k hk).1)).setCell (p := ⟨b, 1, none⟩) hB _, (hk1.grown hgrow hown).set 1 _⟩
end Go.Proofs.Ythebnealkekdmaa
namespace Go.Proofs.Ythebnealkekdmaa
open Go.RowKit Go.WideShapes

theorem turn_int {n : Int} (h : wf64 n) : ∃ a : Nat, IntKind.u64.wrap n = (a : Int) ∧ a < 18446744073709551616 ∧ turn a = turnN n := by
  unfold wf64 at h
  refine ⟨(n % 18446744073709551616).toNat, ?_, ?_, ?_⟩
  · rw [IntKind.wrap_u64]; omega
  · omega
  · unfold turn turnN
    split <;> omega
theorem bin_kept {w w' : World} {g : Nat} {xs : List Nat} {C : Array Value} {t : TypeId} {fr : Nat × Nat} (h : BIn w (some ⟨g, 0, none⟩) xs) (h1 : w.heap[g]? = some (.cells C t fr)) (h2 : w'.heap[g]? = some (.cells C t fr)) : BIn w' (some ⟨g, 0, none⟩) xs := by
  refine ⟨fun _ => ⟨g, 0, rfl, fun i hi => ?_⟩, h.2⟩
  have := h.cell i hi
  rw [Lib.cell_of_heap h1] at this
  rw [Lib.cell_of_heap h2]; exact this
theorem rev_block {w w' : World} {g : Nat} {t : TypeId} (h : ∀ C t fr, w.heap[g]? = some (.cells C t fr) → ∃ C', w'.heap[g]? = some (.cells C' t fr)) {C : Array Value} (hC : w.heap[g]? = some (.cells C t (0, 0))) : ∃ C', w'.heap[g]? = some (.cells C' t (0, 0)) := h C t (0, 0) hC
theorem arr_row (w : World) (n : Nat) (h : n < 18446744073709551616) : BIn (w.alloc (.cells (Bs (putN n)).toArray 93)) (some ⟨w.heap.size, 0, none⟩) (putN n) ∧ (∀ i, i < 8 → (w.alloc (.cells (Bs (putN n)).toArray 93)).frozen? ⟨w.heap.size, i, none⟩ = false) := by
  have hh := heap_alloc_new w (.cells (Bs (putN n)).toArray 93)
  refine ⟨⟨fun _ => ⟨w.heap.size, 0, rfl, fun i hi => ?_⟩, putN_bytes n h⟩, fun i _ => Lib.frozen_of_heap hh i⟩
  rw [Lib.cell_of_heap hh]
  simp [Bs, List.getD, hi]
set_option maxRecDepth 8000 in
set_option maxHeartbeats 4000000 in
theorem writeNum_any (B b : Nat) (xs : List Nat) (n : Int) (w : World) (h : Bld B b xs w) (hn : wf64 n) (hlen : xs.length ≤ 10000) (hBw : B ≤ w.heap.size) :
    Calls Try.prog 38 #[.pointer (some ⟨b, 0, none⟩), .int .i64 n] w fun e w' => e = .returned (.tuple #[]) ∧ Bld B b (xs ++ 1 :: numB n) w' ∧ Below B w w' := by
  obtain ⟨a, ha, ha64, hta⟩ := turn_int hn
  have HT : Hid (a < 18446744073709551616 ∧ turn a = turnN n ∧ turnN n < 18446744073709551616) := ⟨ha64, hta, turnN_lt hn⟩
  have HB : Hid (Bld B b xs w) := h
  have HL : Hid (xs.length ≤ 10000 ∧ B ≤ w.heap.size) := ⟨hlen, hBw⟩
  clear h hn hlen hBw ha64 hta
  go_enter Try.func38, Try.ntmps38
  go_wp2_with fail
  refine (turned_any a (turnN n) _ HT.out.1 HT.out.2.1).mono ?_
  rintro e w0 ⟨rfl, rfl⟩
  go_wp2_with fail
  refine (put_any (turnN n) _ HT.out.2.2).mono ?_
  rintro e w' ⟨w1, rfl, rfl, hb1⟩
  obtain ⟨hrow, hfz⟩ := arr_row w1 (turnN n) HT.out.2.2
  have hblk := heap_alloc_new w1 (.cells (Bs (putN (turnN n))).toArray 93)
  have HB1 : Hid (Bld B b xs (w1.alloc (.cells (Bs (putN (turnN n))).toArray 93))) := (HB.out.below hb1).below (below_alloc _ _)
  have HE1 : Hid (Below w0.heap.size w0 (w1.alloc (.cells (Bs (putN (turnN n))).toArray 93))) := below_bt hb1 (below_alloc _ _)
  have HG : Hid (w1.heap.size ≠ b ∧ B ≤ w1.heap.size) := ⟨by have := (HB.out.below hb1).lt; omega, by have := hb1.size; have := HL.out; omega⟩
  generalize w1.alloc (.cells (Bs (putN (turnN n))).toArray 93) = w2 at *
  have HR : Hid (BIn w2 (some ⟨w1.heap.size, 0, none⟩) (putN (turnN n))) := hrow
  have HF : Hid (∀ i, i < 8 → w2.frozen? ⟨w1.heap.size, i, none⟩ = false) := hfz
  have HK : Hid (w2.heap[w1.heap.size]? = some (.cells (Bs (putN (turnN n))).toArray 93 (0, 0))) := hblk
  clear hrow hfz hblk hb1
  generalize w1.heap.size = g at *
  go_wp2_with fail
  refine (rev_any g 8 8 (putN (turnN n)) _ rfl HR.out HF.out (by omega)).mono ?_
  rintro e w3 ⟨rfl, hrow3, hg3, hg3b⟩
  have HB3 : Hid (Bld B b xs w3) := HB1.out.grown hg3 HG.out.1 HK.out (by decide)
  have HR3 : Hid (BIn w3 (some ⟨g, 0, none⟩) (numB n)) := hrow3
  have HE3 : Hid (Below B w0 w3) := (HE1.out.mono HL.out.2).grown hg3 (by have := HE1.out.size; have := HL.out; omega) (fun k hk => by injection hk with hk; subst hk; exact HG.out.2)
  obtain ⟨C3, hk3⟩ := rev_block hg3b HK.out
  have HK3 : Hid (w3.heap[g]? = some (.cells C3 93 (0, 0))) := hk3
  have HZ3 : Hid (B ≤ w3.heap.size ∧ g < w3.heap.size) := ⟨by have := HE3.out.size; have := HL.out; omega, by have := hg3.size; have := lt_heap HK.out; omega⟩
  clear hrow3 hg3 hg3b HB1 HE1 HR HF HK hk3
  go_wp2_with fail
  refine (writeByte_any B b xs 1 _ HB3.out (by have := HL.out; omega) HZ3.out.1 (by omega)).mono ?_
  rintro e w4 ⟨rfl, hb4, hbel4, hkb4⟩
  have hrow4 := bin_kept HR3.out HK3.out (hkb4 g _ _ _ HG.out.1 (by decide) HK3.out)
  have HB4 : Hid (Bld B b (xs ++ [1]) w4) := hb4
  have HR4 : Hid (BIn w4 (some ⟨g, 0, none⟩) (numB n)) := hrow4
  have HE4 : Hid (Below B w0 w4) := HE3.out.trans hbel4
  clear hb4 hrow4 hbel4 hkb4
  go_wp2_with fail
  refine (write_bytes B b (xs ++ [1]) (numB n) (some ⟨g, 0, none⟩) 8 8 _ HB4.out (numB_len n).symm HR4.out (fun h => by cases h) (by rw [numB_len]; have := HL.out; simp; omega) (by have := HE4.out.size; have := HL.out; omega)).mono ?_
  rintro e w5 ⟨rfl, hb5, hbel5, _⟩
  rw [List.append_assoc] at hb5
  have HB5 : Hid (Bld B b (xs ++ 1 :: numB n) w5) := hb5
  have HE5 : Hid (Below B w0 w5) := HE4.out.trans hbel5
  clear hb5 hbel5
  go_wp2
  go_end0
  exact ⟨rfl, HB5.out, HE5.out⟩
end Go.Proofs.Ythebnealkekdmaa
namespace Go.Proofs.Ythebnealkekdmaa
open Go.RowKit Go.WideShapes

theorem take_snoc {xs : List Nat} {k c : Nat} (hk : k < xs.length) (hc : xs.getD k 0 = c) : xs.take (k + 1) = xs.take k ++ [c] := by
  rw [List.take_add_one, List.getElem?_eq_getElem hk]
  simp [← hc, List.getD, hk]
theorem esc_le (x : List Nat) : (esc x).length ≤ 2 * x.length := by
  rw [esc_len]; have := List.count_le_length (a := 0) (l := x); omega
set_option maxRecDepth 8000 in
set_option maxHeartbeats 4000000 in
theorem writeWord_any (B b : Nat) (xs : List Nat) (s : ByteArray) (w : World) (h : Bld B b xs w) (hlen : xs.length ≤ 10000) (hs : (s.size : Int) ≤ 100000) (hBw : B ≤ w.heap.size) :
    Calls Try.prog 39 #[.pointer (some ⟨b, 0, none⟩), .string s] w fun e w' => e = .returned (.tuple #[]) ∧ Bld B b (xs ++ 2 :: (esc (numsOf s) ++ [0, 1])) w' ∧ Below B w w' := by
  have HB : Hid (Bld B b xs w) := h
  have HL : Hid (xs.length ≤ 10000 ∧ B ≤ w.heap.size ∧ s.size ≤ 100000) := ⟨hlen, hBw, by omega⟩
  clear h hlen hBw
  go_enter Try.func39, Try.ntmps39
  go_wp2_with fail
  refine (writeByte_any B b xs 2 _ HB.out (by have := HL.out; omega) HL.out.2.1 (by omega)).mono ?_
  rintro e w1 ⟨rfl, hb1, hbel1, _⟩
  have HB1 : Hid (Bld B b (xs ++ [2] ++ esc ((numsOf s).take 0)) w1) := by show Bld B b _ w1; have := hb1; simpa [esc] using this
  have HE1 : Hid (Below B w w1) := hbel1
  clear hb1 hbel1
  go_wp2
  go_loopw [9] (fun i wr => ∃ k : Nat, k ≤ s.size ∧ i = .int .i64 k ∧ Bld B b (xs ++ [2] ++ esc ((numsOf s).take k)) wr ∧ Below B w wr) (fun i _ => s.size - (intOf i).toNat)
  case atStart => exact ⟨0, by omega, rfl, HB1.out, HE1.out⟩
  case round =>
    clear HB1 HE1
    obtain ⟨k, hk, rfl, hb, hbel⟩ := hrel
    have HBR : Hid (Bld B b (xs ++ [2] ++ esc ((numsOf s).take k)) wr) := hb
    have HER : Hid (Below B w wr ∧ B ≤ wr.heap.size) := ⟨hbel, by have := hbel.size; have := HL.out; omega⟩
    have HLN : Hid ((xs ++ [2] ++ esc ((numsOf s).take k)).length ≤ 300000) := by
      have h1 := esc_le ((numsOf s).take k)
      rw [List.length_take, numsOf_len] at h1
      have := HL.out
      show _ ≤ _
      simp only [List.length_append, List.length_cons, List.length_nil]
      omega
    clear hb hbel
    by_cases hkn : k < s.size
    · have hkI : (k : Int) < (s.size : Int) := by omega
      obtain ⟨c, hc⟩ : ∃ c, (s[k]'hkn).toNat = c := ⟨_, rfl⟩
      have HC : Hid ((numsOf s).getD k 0 = c ∧ k < s.size) := ⟨(nums_at hkn).trans hc, hkn⟩
      have hc256 : c < 256 := by rw [← hc]; exact UInt8.toNat_lt _
      go_wp2_with fail
      refine (writeByte_any B b _ c _ HBR.out (by have := HLN.out; omega) HER.out.2 hc256).mono ?_
      rintro e w2 ⟨rfl, hb2, hbel2, _⟩
      have HB2 : Hid (Bld B b (xs ++ [2] ++ esc ((numsOf s).take k) ++ [c]) w2) := hb2
      have HE2 : Hid (Below B w w2 ∧ B ≤ w2.heap.size) := ⟨HER.out.1.trans hbel2, by have := hbel2.size; have := HER.out.2; omega⟩
      clear hb2 hbel2
      by_cases h0 : c = 0
      · have g1 : ((c : Int) == 0) = true := by simp [h0]
        have HZ : Hid (c = 0) := h0
        clear h0
        go_wp2_with fail
        refine (writeByte_any B b _ 255 _ HB2.out (by have := HLN.out; simp only [List.length_append, List.length_cons, List.length_nil] at this ⊢; omega) HE2.out.2 (by omega)).mono ?_
        rintro e w3 ⟨rfl, hb3, hbel3, _⟩
        have HB3 : Hid (Bld B b (xs ++ [2] ++ esc ((numsOf s).take (k + 1))) w3) := by
          show Bld B b _ w3
          rw [take_snoc (by rw [numsOf_len]; exact HC.out.2) HC.out.1, esc_snoc, if_pos HZ.out]
          have := hb3
          rw [HZ.out] at this
          simpa using this
        have HE3 : Hid (Below B w w3) := HE2.out.1.trans hbel3
        clear hb3 hbel3
        go_wp2
        go_roundw
        case rel => exact ⟨k + 1, by have := HC.out; omega, by go_num, HB3.out, HE3.out⟩
        case measure => have := HC.out; simp [intOf]; omega
      · have g1 : ((c : Int) == 0) = false := by simp; omega
        have HB3 : Hid (Bld B b (xs ++ [2] ++ esc ((numsOf s).take (k + 1))) w2) := by
          show Bld B b _ w2
          rw [take_snoc (by rw [numsOf_len]; exact HC.out.2) HC.out.1, esc_snoc, if_neg h0]
          have := HB2.out
          simpa using this
        clear h0
        go_wp2
        go_roundw
        case rel => exact ⟨k + 1, by have := HC.out; omega, by go_num, HB3.out, HE2.out.1⟩
        case measure => have := HC.out; simp [intOf]; omega
    · obtain rfl : k = s.size := by omega
      clear hkn
      go_wp2_with fail
      refine (writeByte_any B b _ 0 _ HBR.out (by have := HLN.out; omega) HER.out.2 (by omega)).mono ?_
      rintro e w2 ⟨rfl, hb2, hbel2, _⟩
      have HB2 : Hid (Bld B b (xs ++ [2] ++ esc ((numsOf s).take s.size) ++ [0]) w2) := hb2
      have HE2 : Hid (Below B w w2 ∧ B ≤ w2.heap.size) := ⟨HER.out.1.trans hbel2, by have := hbel2.size; have := HER.out.2; omega⟩
      clear hb2 hbel2
      go_wp2_with fail
      refine (writeByte_any B b _ 1 _ HB2.out (by have := HLN.out; simp only [List.length_append, List.length_cons, List.length_nil] at this ⊢; omega) HE2.out.2 (by omega)).mono ?_
      rintro e w3 ⟨rfl, hb3, hbel3, _⟩
      have HB3 : Hid (Bld B b (xs ++ 2 :: (esc (numsOf s) ++ [0, 1])) w3) := by
        show Bld B b _ w3
        have := hb3
        rw [List.take_of_length_le (by rw [numsOf_len]; exact Nat.le_refl _)] at this
        simpa using this
      have HE3 : Hid (Below B w w3) := HE2.out.1.trans hbel3
      clear hb3 hbel3
      go_wp2
      go_end0
      exact ⟨rfl, HB3.out, HE3.out⟩
theorem write_any (B b : Nat) (xs : List Nat) (p : PartV) (w : World) (h : Bld B b xs w) (hp : wf64 p.int) (hs : (p.text.size : Int) ≤ 100000) (hlen : xs.length ≤ 10000) (hBw : B ≤ w.heap.size) :
    Calls Try.prog 25 #[.pointer (some ⟨b, 0, none⟩), partV p] w fun e w' => e = .returned (.tuple #[]) ∧ Bld B b (xs ++ bytesP p) w' ∧ Below B w w' := by
  have HP : Hid (wf64 p.int ∧ (p.text.size : Int) ≤ 100000 ∧ xs.length ≤ 10000 ∧ B ≤ w.heap.size) := ⟨hp, hs, hlen, hBw⟩
  have HB : Hid (Bld B b xs w) := h
  clear h hp hs hlen hBw
  unfold partV
  by_cases hk : p.kind = 1
  · have g1 : (p.kind == 1) = true := by simp [hk]
    have HK : Hid (bytesP p = 1 :: numB p.int) := bytesP_num hk
    clear hk
    go_enter Try.func25, Try.ntmps25
    go_wp2_with fail
    refine (writeNum_any B b xs p.int _ (HB.out.below (below_alloc _ _)) HP.out.1 HP.out.2.2.1 (by simp; have := HP.out; omega)).mono ?_
    rintro e w2 ⟨rfl, hb2, hbel2⟩
    have HB2 : Hid (Bld B b (xs ++ bytesP p) w2) := by rw [HK.out]; exact hb2
    have HE2 : Hid (Below B w w2) := ((Below.refl B w).alloc HP.out.2.2.2 _).trans hbel2
    clear hb2 hbel2
    go_wp2
    go_end0
    exact ⟨rfl, HB2.out, HE2.out⟩
  · have g1 : (p.kind == 1) = false := by simp; exact hk
    have HK : Hid (bytesP p = 2 :: (esc (numsOf p.text) ++ [0, 1])) := bytesP_word hk
    clear hk
    go_enter Try.func25, Try.ntmps25
    go_wp2_with fail
    refine (writeWord_any B b xs p.text _ (HB.out.below (below_alloc _ _)) HP.out.2.2.1 HP.out.2.1 (by simp; have := HP.out; omega)).mono ?_
    rintro e w2 ⟨rfl, hb2, hbel2⟩
    have HB2 : Hid (Bld B b (xs ++ bytesP p) w2) := by rw [HK.out]; exact hb2
    have HE2 : Hid (Below B w w2) := ((Below.refl B w).alloc HP.out.2.2.2 _).trans hbel2
    clear hb2 hbel2
    go_wp2
    go_end0
    exact ⟨rfl, HB2.out, HE2.out⟩
end Go.Proofs.Ythebnealkekdmaa
namespace Go.Proofs.Ythebnealkekdmaa
open Go.RowKit Go.WideShapes

theorem empty_is (s : ByteArray) : s.toList.isEmpty = true ↔ s = ByteArray.empty := by
  rw [ByteArray.toList_eq, List.isEmpty_iff]
  constructor
  · intro e; exact ba_ext.1 (e.trans rfl)
  · rintro rfl; rfl
theorem mayNotBe_any (p : PartV) (r : Bool) (w : World) (hr : r = true ↔ ¬ mayP p) :
    Calls Try.prog 23 #[partV p] w fun e w' => e = .returned (.bool r) ∧ Below w.heap.size w w' := by
  obtain ⟨k, i, t⟩ := p
  have HR : Hid (r = true ↔ ¬ mayP ⟨k, i, t⟩) := hr
  clear hr
  unfold partV
  by_cases h1 : k = 1
  · subst h1
    have HE : Hid ((!t.toList.isEmpty) = r) := by
      show _ = _
      have e := empty_is t
      rw [Bool.eq_iff_iff, HR.out, Bool.not_eq_true', ← Bool.not_eq_true, e]
      simp [mayP]
    go_enter Try.func23, Try.ntmps23
    go_wp2
    go_ret
    exact ⟨by rw [← HE.out]; rfl, below_alloc _ _⟩
  · have g1 : (k == 1) = false := by simpa using h1
    by_cases h2 : k = 2
    · subst h2
      have HE : Hid ((!(i == 0)) = r) := by
        show _ = _
        rw [Bool.eq_iff_iff, HR.out]
        simp [mayP]
      clear h1
      go_enter Try.func23, Try.ntmps23
      go_wp2
      go_ret
      exact ⟨by rw [← HE.out]; rfl, below_alloc _ _⟩
    · have g2 : (k == 2) = false := by simpa using h2
      have HE : Hid (true = r) := by
        show _ = _
        rw [Bool.eq_iff_iff, HR.out]
        simp [mayP, h1, h2]
      clear h1 h2
      go_enter Try.func23, Try.ntmps23
      go_wp2
      go_ret
      exact ⟨by rw [← HE.out]; rfl, below_alloc _ _⟩
set_option maxRecDepth 8000 in
set_option maxHeartbeats 4000000 in
theorem indexFunc_any (q : Option Addr) (n c : Nat) (l : List PartV) (w : World) (hn : n = l.length) (hl : PtsIn w q l) (hL : (n : Int) ≤ 1000000) :
    Calls Try.prog 36 #[.slice q n c, .func (.func 23) #[] #[]] w fun e w' => ∃ z : Int, e = .returned (.int .i64 z) ∧ (0 ≤ z ↔ ∃ p ∈ l, ¬ mayP p) ∧ Below w.heap.size w w' := by
  have HA : Hid (PtsIn w q l) := hl
  have HN : Hid (n = l.length) := hn
  clear hl hn
  go_enter Try.func36, Try.ntmps36
  go_wp2
  go_loopw [8] (fun i wr => ∃ k : Nat, k ≤ n ∧ i = .int .i64 k ∧ Below w.heap.size w wr ∧ Hid (∀ j, j < k → mayP (l.getD j zeroP))) (fun i _ => n - (intOf i).toNat)
  case atStart => exact ⟨0, by omega, rfl, Below.refl _ _, fun j hj => absurd hj (by omega)⟩
  case round =>
    obtain ⟨k, hk, rfl, hbel, hall⟩ := hrel
    have HBE : Hid (Below w.heap.size w wr) := hbel
    clear hbel
    by_cases hkn : k < n
    · have hkI : (k : Int) < (n : Int) := by omega
      obtain ⟨ba, oa, rfl⟩ := HA.out.addr (by have := HN.out; omega)
      obtain ⟨x, hx⟩ : ∃ x, l.getD k zeroP = x := ⟨_, rfl⟩
      obtain ⟨x0, x1, x2⟩ := ptcells (HA.out.below HBE.out) (by have := HN.out; omega) hx
      have HX : Hid (l.getD k zeroP = x ∧ k < l.length ∧ k < n) := ⟨hx, by have := HN.out; omega, hkn⟩
      clear hx hkn
      by_cases hm : mayP x
      · go_wp2_with fail
        refine (mayNotBe_any x false _ (by simpa using hm)).mono ?_
        rintro e w2 ⟨rfl, hb2⟩
        have HB2 : Hid (Below w.heap.size w w2) := below_bt HBE.out hb2
        have HM : Hid (∀ j, j < k + 1 → mayP (l.getD j zeroP)) := fun j hj => by
          rcases Nat.lt_or_ge j k with h' | h'
          · exact hall.out j h'
          · obtain rfl : j = k := by omega
            rw [HX.out.1]; exact hm
        clear hb2 hm hall
        go_wp2
        go_roundw
        case rel => exact ⟨k + 1, by have := HX.out; omega, by go_num, HB2.out, HM⟩
        case measure => have := HX.out; simp [intOf]; omega
      · have HM : Hid (¬ mayP x) := hm
        go_wp2_with fail
        refine (mayNotBe_any x true _ (by simpa using hm)).mono ?_
        rintro e w2 ⟨rfl, hb2⟩
        have HB2 : Hid (Below w.heap.size w w2) := below_bt HBE.out hb2
        clear hb2 hm hall
        go_wp2
        go_ret
        refine ⟨(k : Int), rfl, ⟨fun _ => ⟨x, ?_, HM.out⟩, fun _ => by omega⟩, HB2.out⟩
        rw [← HX.out.1]; exact getD_mem' HX.out.2.1
    · have HK : Hid (¬ ∃ p ∈ l, ¬ mayP p) := by
        rintro ⟨p, hp, hnp⟩
        obtain ⟨j, hj, rfl⟩ := List.getElem_of_mem hp
        have := hall.out j (by have := HN.out; omega)
        rw [List.getD_eq_getElem?_getD, List.getElem?_eq_getElem hj] at this
        exact hnp this
      obtain rfl : k = n := by omega
      clear hall hkn
      go_wp2
      go_ret
      exact ⟨-1, rfl, ⟨fun h => absurd h (by omega), fun h => absurd h HK.out⟩, HBE.out⟩
theorem containsFunc_any (q : Option Addr) (n c : Nat) (l : List PartV) (w : World) (hn : n = l.length) (hl : PtsIn w q l) (hL : (n : Int) ≤ 1000000) (r : Bool) (hr : r = true ↔ ∃ p ∈ l, ¬ mayP p) :
    Calls Try.prog 22 #[.slice q n c, .func (.func 23) #[] #[]] w fun e w' => e = .returned (.bool r) ∧ Below w.heap.size w w' := by
  have HO := indexFunc_any q n c l w hn hl hL
  have HR : Hid (r = true ↔ ∃ p ∈ l, ¬ mayP p) := hr
  clear hn hl hL hr
  go_enter Try.func22, Try.ntmps22
  go_wp2_with fail
  refine HO.mono ?_
  rintro e w1 ⟨z, rfl, hz, hb1⟩
  have HZ : Hid (decide (0 ≤ z) = r) := by
    show _ = _
    rw [Bool.eq_iff_iff, decide_eq_true_eq, hz, HR.out]
  have HB1 : Hid (Below w.heap.size w w1) := hb1
  clear hb1 hz HO
  go_wp2
  go_ret
  exact ⟨by rw [← HZ.out]; rfl, HB1.out⟩
theorem count_nums (s : ByteArray) : (Lib.countByte s.data.toList 0 : Int) = ((numsOf s).count 0 : Nat) := by
  unfold Lib.countByte numsOf
  generalize s.data.toList = l
  induction l with
  | nil => rfl
  | cons c l ih =>
    by_cases h : c = 0
    · subst h; simp at ih ⊢; omega
    · have h2 : c.toNat ≠ 0 := fun e => h (UInt8.toNat_inj.1 e)
      rw [List.map_cons, List.count_cons_of_ne h, List.count_cons_of_ne h2]
      exact ih
theorem keyN_take {l : List PartV} {k : Nat} {x : PartV} (hk : k < l.length) (hx : l.getD k zeroP = x) : keyN (l.take (k + 1)) = keyN (l.take k) ++ bytesP x := by
  rw [List.take_add_one, List.getElem?_eq_getElem hk, keyN_app]
  congr 1
  simp [← hx, keyN, List.getD, hk]
theorem bytesP_le (p : PartV) : (bytesP p).length ≤ 2 * p.text.size + 12 := by
  rw [bytesP_len]
  have := List.count_le_length (a := 0) (l := numsOf p.text)
  rw [numsOf_len] at this
  split <;> omega
set_option maxRecDepth 8000 in
theorem keyN_le {l : List PartV} (h : ∀ p ∈ l, p.text.size ≤ 2000000) (k : Nat) : (keyN (l.take k)).length ≤ k * 5000000 := by
  induction k with
  | zero => simp [keyN]
  | succ k ih =>
    by_cases hk : k < l.length
    · rw [keyN_take hk rfl, List.length_append]
      have h1 := bytesP_le (l.getD k zeroP)
      have h2 := h _ (getD_mem' hk)
      rw [Nat.succ_mul]
      omega
    · have e1 : l.take (k + 1) = l := List.take_of_length_le (by omega)
      have e2 : l.take k = l := List.take_of_length_le (by omega)
      rw [e2] at ih
      rw [e1, Nat.succ_mul]
      exact Nat.le_trans ih (Nat.le_add_right _ _)
set_option maxRecDepth 8000 in
set_option maxHeartbeats 4000000 in
theorem size_any (q : Option Addr) (n c : Nat) (l : List PartV) (w : World) (hn : n = l.length) (hl : PtsIn w q l) (ht : ∀ p ∈ l, p.text.size ≤ 2000000) (hL : n ≤ 8) (z : Nat) (hz : (keyN l).length = z) :
    Calls Try.prog 24 #[.slice q n c] w fun e w' => e = .returned (.int .i64 z) ∧ Below w.heap.size w w' := by
  have HA : Hid (PtsIn w q l) := hl
  have HN : Hid (n = l.length ∧ n ≤ 8) := ⟨hn, hL⟩
  have HT : Hid (∀ p ∈ l, p.text.size ≤ 2000000) := ht
  have HZ : Hid ((keyN l).length = z) := hz
  have hnI : (n : Int) ≤ 8 := by omega
  clear hl hn hL ht hz
  go_enter Try.func24, Try.ntmps24
  go_wp2
  go_loopw [3, 8] (fun m i wr => ∃ (k z : Nat), k ≤ n ∧ m = .int .i64 z ∧ i = .int .i64 k ∧ Below w.heap.size w wr ∧ Hid ((keyN (l.take k)).length = z)) (fun _ i _ => n - (intOf i).toNat)
  case atStart => exact ⟨0, 0, by omega, rfl, rfl, Below.refl _ _, rfl⟩
  case round =>
    obtain ⟨k, y, hk, rfl, rfl, hbel, hy⟩ := hrel
    have HBE : Hid (Below w.heap.size w wr) := hbel
    clear hbel
    by_cases hkn : k < n
    · have hkI : (k : Int) < (n : Int) := by omega
      obtain ⟨ba, oa, rfl⟩ := HA.out.addr (by have := HN.out; omega)
      obtain ⟨x, hx⟩ : ∃ x, l.getD k zeroP = x := ⟨_, rfl⟩
      obtain ⟨x0, x1, x2⟩ := ptcells (HA.out.below HBE.out) (by have := HN.out; omega) hx
      have HX : Hid (l.getD k zeroP = x ∧ k < l.length ∧ k < n) := ⟨hx, by have := HN.out; omega, hkn⟩
      have HK1 : Hid ((keyN (l.take (k + 1))).length = y + (bytesP x).length) := by show _ = _; rw [keyN_take HX.out.2.1 hx, List.length_append, hy.out]
      have hyb : y ≤ 40000000 := by have := keyN_le HT.out k; rw [hy.out] at this; have := HN.out; omega
      have hxt : x.text.size ≤ 2000000 := by rw [← hx]; exact HT.out _ (getD_mem' HX.out.2.1)
      have HBA : Hid (Below w.heap.size w (wr.alloc (.cells #[.int .u8 x.kind, .int .i64 x.int, .string x.text] 26))) := below_bt HBE.out (below_alloc _ _)
      clear hx hkn
      by_cases h1 : x.kind = 1
      · have g1 : (x.kind == 1) = true := by simp [h1]
        have k1 : IntKind.i64.wrap ((y : Int) + 9) = (y : Int) + 9 := by rw [IntKind.wrap_i64]; omega
        have HS : Hid ((keyN (l.take (k + 1))).length = y + 9) := by show _ = _; rw [HK1.out, bytesP_len, if_pos h1]
        clear h1 hxt
        have HYB : Hid (y ≤ 40000000) := hyb
        clear hyb
        go_wp2
        go_roundw
        case rel => exact ⟨k + 1, y + 9, by have := HX.out; omega, by go_num, by go_num, HBA.out, HS⟩
        case measure => have := HX.out; simp [intOf]; omega
      · have g1 : (x.kind == 1) = false := by simpa using h1
        obtain ⟨ct, hct⟩ : ∃ ct, (numsOf x.text).count 0 = ct := ⟨_, rfl⟩
        have hctb : ct ≤ x.text.size := by rw [← hct, ← numsOf_len]; exact List.count_le_length
        have HS : Hid ((keyN (l.take (k + 1))).length = y + (x.text.size + ct + 3)) := by show _ = _; rw [HK1.out, bytesP_len, if_neg h1, hct]
        have HCT : Hid ((Lib.countByte x.text.data.toList 0 : Int) = (ct : Int)) := by show _ = _; rw [count_nums, hct]
        have k1 : IntKind.i64.wrap (1 + (x.text.size : Int)) = 1 + (x.text.size : Int) := by rw [IntKind.wrap_i64]; omega
        have k2 : IntKind.i64.wrap (1 + (x.text.size : Int) + (ct : Int)) = 1 + (x.text.size : Int) + (ct : Int) := by rw [IntKind.wrap_i64]; omega
        have k3 : IntKind.i64.wrap (1 + (x.text.size : Int) + (ct : Int) + 2) = 1 + (x.text.size : Int) + (ct : Int) + 2 := by rw [IntKind.wrap_i64]; omega
        have k4 : IntKind.i64.wrap ((y : Int) + (1 + (x.text.size : Int) + (ct : Int) + 2)) = (y : Int) + (1 + (x.text.size : Int) + (ct : Int) + 2) := by rw [IntKind.wrap_i64]; omega
        have HQ : Hid ((y : Int) + (1 + (x.text.size : Int) + (ct : Int) + 2) = ((y + (x.text.size + ct + 3) : Nat) : Int)) := by show _ = _; omega
        clear h1 hxt hyb hct hctb
        have HCW : ∀ w', Calls Try.prog 37 #[.string x.text, .string ⟨#[0]⟩] w' fun e w'' => e = .returned (.int .i64 (ct : Int)) ∧ w'' = w' := fun w' => (strings_Count_one x.text 0 w').mono fun e w'' h => ⟨by rw [h.1, HCT.out], h.2⟩
        go_wp2
        go_quiet (first | (go_at_call 37; exact Calls.quiet_of_same (HCW _)) | fail)
        go_wp2
        go_roundw
        case rel => exact ⟨k + 1, y + (x.text.size + ct + 3), by have := HX.out; omega, by rw [← HQ.out], by go_num, below_bt HBA.out ⟨rfl, rfl, rfl, Nat.le_refl _, fun _ _ => rfl⟩, HS⟩
        case measure => have := HX.out; simp [intOf]; omega
    · obtain rfl : k = n := by omega
      have HE : Hid (y = z) := by show y = z; rw [← hy.out, ← HZ.out, HN.out.1, List.take_length]
      clear hkn hy
      go_wp2
      go_ret
      exact ⟨by rw [HE.out]; rfl, HBE.out⟩
end Go.Proofs.Ythebnealkekdmaa
