/-
  The program's Make, Has, Marks.
-/
import Derived.Test.YtidjgilipffdpaaJ02
import Derived.Lib.ConvBytes
import Derived.Laws.ResultCell
import Derived.Deep.RegionWith
import Derived.SliceStrings
import Derived.OwnWalk
import Derived.Laws.MakeOwn
namespace Go.Proofs.Ytidjgilipffdpaa
open Go.RowKit Go.WideShapes

theorem below_alloc (w : World) (o : Obj) : Below w.heap.size w (w.alloc o) := (Below.refl _ _).alloc (Nat.le_refl _) o
theorem below_bt {a b c : World} (h1 : Below a.heap.size a b) (h2 : Below b.heap.size b c) : Below a.heap.size a c := h1.trans (h2.mono h1.size)
theorem lt_heap {w : World} {b : Nat} {o : Obj} (h : w.heap[b]? = some o) : b < w.heap.size := (Array.getElem?_eq_some_iff.1 h).1

/-- The row of a conversion: of text s, at the block g. -/
structure CRow (w : World) (g n cap : Nat) (xs : List Nat) : Prop where
  row : ∃ cur : Array Value, w.heap[g]? = some (.cells cur 5 (cap, cap + 1)) ∧ cur.size = cap ∧ cur.toList.take n = Bs xs
  len : n = xs.length
  le : n ≤ cap
  lt : ∀ c ∈ xs, c < 256
theorem CRow.bin {w : World} {g n cap : Nat} {xs : List Nat} (h : CRow w g n cap xs) : BIn w (some ⟨g, 0, none⟩) xs := by
  obtain ⟨cur, hg, hs, ht⟩ := h.row
  refine ⟨fun _ => ⟨g, 0, rfl, fun i hi => ?_⟩, h.lt⟩
  rw [Nat.zero_add, cell_of_row w g i cur 5 _ hg]
  have e : (cur.toList.take n)[i]? = (Bs xs)[i]? := by rw [ht]
  rw [List.getElem?_take_of_lt (by rw [h.len]; exact hi)] at e
  simp only [Array.getElem?_toList] at e
  rw [e]
  simp [Bs, List.getD, List.getElem?_eq_getElem hi]
theorem CRow.same {w w' : World} {g n cap : Nat} {xs : List Nat} (h : CRow w g n cap xs) (e : w'.heap[g]? = w.heap[g]?) : CRow w' g n cap xs := by
  obtain ⟨cur, hg, hs, ht⟩ := h.row
  exact ⟨⟨cur, e.trans hg, hs, ht⟩, h.len, h.le, h.lt⟩
theorem CRow.below {w w' : World} {g n cap : Nat} {xs : List Nat} (h : CRow w g n cap xs) (hb : Below w.heap.size w w') : CRow w' g n cap xs := by
  obtain ⟨cur, hg, hs, ht⟩ := h.row
  exact h.same (hb.block g (lt_heap hg))
theorem conv_row (s : ByteArray) (w : World) : ∃ W cap, (convert 9 26 (.string s)).run Try.prog w = .ok (.slice (some ⟨w.heap.size, 0, none⟩) s.size cap) W ∧ Below w.heap.size w W ∧ CRow W w.heap.size s.size cap (numsOf s) := by
  refine ⟨_, _, Lib.run_convert_string_bytes w 9 26 5 s Try.underlying9 Try.underlying26 Try.underlying5, ⟨rfl, rfl, rfl, ?_, fun k hk => Lib.bytesWorld_at_old w 5 s k hk⟩, ⟨⟨Lib.bytesCells w 5 s, ?_, ?_, ?_⟩, (numsOf_len s).symm, grownCap_ge w s.size 0 5, numsOf_lt s⟩⟩
  · rw [Lib.bytesWorld_size]; omega
  · have hge := grownCap_ge w s.size 0 5
    have hsz : (Lib.bytesCells w 5 s).size = grownCap w s.size 0 5 := by
      unfold Lib.bytesCells; simp only [Array.size_append, Array.size_map, Array.size_replicate]
      have : s.data.size = s.size := rfl
      omega
    have := Lib.bytesWorld_at_new w 5 s
    rw [hsz] at this
    exact this
  · have hge := grownCap_ge w s.size 0 5
    unfold Lib.bytesCells; simp only [Array.size_append, Array.size_map, Array.size_replicate]
    have : s.data.size = s.size := rfl
    omega
  · unfold Lib.bytesCells Bs numsOf
    rw [Array.toList_append, List.take_left' (by simp)]
    simp
theorem run_append_conv (w : World) (g n cap : Nat) (xs : List Nat) (ab ao : Nat) (c ty : Nat) (h : CRow w g n cap xs) (ha : w.cell? ⟨ab, ao, none⟩ = some (.int .u8 1)) (hn : n ≤ 1000) :
    ∃ q c' w', (Builtin.append_ #[26, 26] ty #[.slice (some ⟨g, 0, none⟩) n cap, .slice (some ⟨ab, ao, none⟩) 1 c]).run Try.prog w = .ok (.slice q (n + 1) c') w' ∧ BIn w' q (xs ++ [1]) ∧ w.grownBy w' (some g) := by
  obtain ⟨i0, hi, hz0, hz1, hz2⟩ := info_parts info5
  obtain ⟨cur, hg, hs, ht⟩ := h.row
  have hx := h.len
  have hle := h.le
  have hlt : ∀ c ∈ xs ++ [1], c < 256 := by
    intro c hc
    rcases List.mem_append.1 hc with h1 | h1
    · exact h.lt c h1
    · simp at h1; omega
  have hcells : ∀ j u, (Bs xs)[j]? = some u → w.cell? ((⟨g, 0, none⟩ : Addr).add j) = some u := bin_cells h.bin
  have hnews : ∀ j u, ([Value.int .u8 1] : List Value)[j]? = some u → w.cell? ((⟨ab, ao, none⟩ : Addr).add j) = some u := by
    intro j u hu
    cases j with
    | zero =>
      simp at hu
      subst hu
      rw [add_plain, Nat.add_zero]; exact ha
    | succ j => simp at hu
  by_cases hroom : n + 1 ≤ cap
  · have hf := run_firstCells_some (P := Try.prog) w i0.size 1 ⟨ab, ao, none⟩ 1 c [.int .u8 1] (by rw [hz1]; rfl) hnews
    have hcell : w.cell? ⟨g, n, none⟩ = some (cur[n]'(by omega)) := by simp [World.cell?, hg, show n < cur.size from by omega]
    have hfro : w.frozen? ⟨g, n, none⟩ = false := by
      simp only [World.frozen?, hg, Bool.and_eq_false_iff, decide_eq_false_iff_not]
      left; omega
    have hst : (storeCells ⟨g, n, none⟩ [.int .u8 1] 0).run Try.prog w = .ok () (w.setCell ⟨g, n, none⟩ (.int .u8 1)) := by
      simp only [storeCells, Sem.run_bind]
      rw [add_plain, Nat.add_zero, run_store Try.prog w _ _ _ rfl, hcell]
      simp [hfro]
    refine ⟨some ⟨g, 0, none⟩, cap, w.setCell ⟨g, n, none⟩ (.int .u8 1), ?_, ⟨fun _ => ⟨g, 0, rfl, fun i hi => ?_⟩, hlt⟩, ?_⟩
    · simp [Builtin.append_, run_underlying Try.underlying26, sizeOf, typeInfo, hi, hz1, Builtin.lenOf, hroom, Addr.add_lit]
      rw [hz1] at hf
      simp [hf, hst]
    · have hi' : i < n + 1 := by simp at hi; omega
      rw [Nat.zero_add]
      by_cases e : i = n
      · subst e
        rw [World.cell?_setCell_same _ _ _ hcell]
        simp [List.getD, hx]
      · rw [World.cell?_setCell_other _ _ _ _ (by intro hh; simp only [Addr.mk.injEq] at hh; omega)]
        have h1 := h.bin.cell i (by omega)
        rw [Nat.zero_add] at h1
        rw [h1, List.getD_eq_getElem?_getD, List.getD_eq_getElem?_getD, List.getElem?_append_left (by omega)]
    · exact ⟨rfl, rfl, rfl, by simp, fun k hk hne => by
        rw [setCell_eq_setRow w g n cur 5 _ _ hg]
        exact setRow_other w g k _ (fun e => hne (by rw [e]))⟩
  · have hr := run_append_grow (P := Try.prog) w 26 ty 5 i0 (.int .u8 0) Try.underlying26 hi hz0 ⟨g, 0, none⟩ n cap (Bs xs) (by rw [hz1, Bs_len]; omega) hcells ⟨ab, ao, none⟩ 1 c [.int .u8 1] (by rw [hz1]; rfl) hnews (by omega) (by omega) (growslice_fits (by omega) (by rw [hz2]; omega))
    refine ⟨_, _, _, hr, ⟨fun _ => ⟨w.heap.size, 0, rfl, fun i hi => ?_⟩, hlt⟩, ⟨rfl, rfl, rfl, by simp, fun k hk _ => heap_alloc_old w.drew _ hk⟩⟩
    have hh := heap_alloc_new w.drew (.cells ((Bs xs).toArray ++ ([Value.int .u8 1] : List Value).toArray ++ Builtin.zeroCells (Value.int .u8 0).cells (grownCap w (n + 1) cap 5 - (n + 1))) 5)
    have hi' : i < n + 1 := by simp at hi; omega
    have hw : w.drew.heap.size = w.heap.size := rfl
    rw [hw] at hh
    rw [Nat.zero_add, Lib.cell_of_heap hh]
    have hbl := Bs_len xs
    have e1 : ((Bs xs).toArray ++ ([Value.int .u8 1] : List Value).toArray) = (Bs (xs ++ [1])).toArray := by rw [Bs_app]; simp [Bs]
    rw [e1, Array.getElem?_append_left (by simp [Bs]; omega)]
    clear e1 hlt
    generalize xs ++ [1] = ys at hi ⊢
    simp [Bs, List.getD, List.getElem?_eq_getElem hi]
theorem wpList_append_conv (w : World) {ops : Array Oper} {rest : List Oper} {o : Oper} {a : Act} {Q : Exit → Act → World → Prop} (hgd : o.guard = none) (s x : Operand)
    (ho : o.op = .call { callee := .builtin .append, args := #[s, x], argTypes := #[26, 26] }) (g n cap : Nat) (xs : List Nat) (ab ao : Nat) (c : Nat) (hs : a.eval s = .slice (some ⟨g, 0, none⟩) n cap) (hx : a.eval x = .slice (some ⟨ab, ao, none⟩) 1 c)
    (hr : CRow w g n cap xs) (ha : w.cell? ⟨ab, ao, none⟩ = some (.int .u8 1)) (hn : n ≤ 1000)
    (h : ∀ q c' w', BIn w' q (xs ++ [1]) → w.grownBy w' (some g) → wpList Try.prog ops Q rest (a.put o.dst (.slice q (n + 1) c')) w') : wpList Try.prog ops Q (o :: rest) a w := by
  refine wpList_plain hgd fun K hK => ?_
  obtain ⟨q, c', w', hrun, h2, h3⟩ := run_append_conv w g n cap xs ab ao c o.type hr ha hn
  unfold Oper.wp execOp
  simp only [ho, resolve, invoke, builtin, Sem.run_bind, Sem.run_pure, Result.andThen_ok, List.map_toArray, List.map_cons, List.map_nil, hs, hx, hrun]
  exact hK _ _ (h q c' w' h2 h3)
end Go.Proofs.Ytidjgilipffdpaa
namespace Go.Proofs.Ytidjgilipffdpaa
open Go.RowKit Go.WideShapes

def arr4 (a b c d : Nat) : Value := .agg #[.int .i64 a, .int .i64 b, .int .i64 c, .int .i64 d]
set_option maxRecDepth 8000 in
set_option maxHeartbeats 1000000 in
theorem marks_any (s : ByteArray) (m : Nat) (w : World) (hs : (s.size : Int) ≤ 256) (h0 : (0 : Int) < m) (hm : (m : Int) ≤ 65536) :
    Calls Try.prog 18 #[.string s, .int .i64 m] w fun e w' => e = .returned (.agg #[.int .i64 (markAt s 0 % m : Nat), .int .i64 (markAt s 1 % m : Nat), .int .i64 (markAt s 2 % m : Nat), .int .i64 (markAt s 3 % m : Nat)]) ∧ Below w.heap.size w w' := by
  obtain ⟨W, cap, hcv, hB, hR⟩ := conv_row s (w.alloc (.cells #[.int .i64 0, .int .i64 0, .int .i64 0, .int .i64 0] 46))
  have HB : Hid (Below (w.alloc (.cells #[.int .i64 0, .int .i64 0, .int .i64 0, .int .i64 0] 46)).heap.size (w.alloc (.cells #[.int .i64 0, .int .i64 0, .int .i64 0, .int .i64 0] 46)) W) := hB
  have HR : Hid (CRow W (w.heap.size + 1) s.size cap (numsOf s)) := by rw [show (w.alloc (.cells #[.int .i64 0, .int .i64 0, .int .i64 0, .int .i64 0] 46)).heap.size = w.heap.size + 1 from by simp] at hR; exact hR
  have HS : Hid ((s.size : Int) ≤ 256) := hs
  clear hB hR hs
  obtain ⟨a0, e0⟩ : ∃ a, markAt s 0 = a := ⟨_, rfl⟩
  obtain ⟨a1, e1⟩ : ∃ a, markAt s 1 = a := ⟨_, rfl⟩
  obtain ⟨a2, e2⟩ : ∃ a, markAt s 2 = a := ⟨_, rfl⟩
  obtain ⟨a3, e3⟩ : ∃ a, markAt s 3 = a := ⟨_, rfl⟩
  obtain ⟨gg, eg⟩ : ∃ a, sieveG s = a := ⟨_, rfl⟩
  obtain ⟨g1, eg1⟩ : ∃ a, sumN (numsOf s ++ [1]) = a := ⟨_, rfl⟩
  have l0 : a0 < 4294967296 := by rw [← e0]; exact markAt_lt s 0
  have l1 : a1 < 4294967296 := by rw [← e1]; exact markAt_lt s 1
  have l2 : a2 < 4294967296 := by rw [← e2]; exact markAt_lt s 2
  have l3 : a3 < 4294967296 := by rw [← e3]; exact markAt_lt s 3
  have lg : gg < 4294967296 := by rw [← eg]; exact sieveG_lt s
  have hor : bits BinOp.or IntKind.u32 (g1 : Int) 1 = (gg : Int) := by
    have lt1 : g1 < 4294967296 := by rw [← eg1]; exact sumN_lt _ (one_lt s)
    rw [show (1 : Int) = ((1 : Nat) : Int) from rfl, u32_or_nat g1 1 lt1 (by decide), ← eg, ← eg1]; rfl
  have n1 : ((a0 : Int) + (gg : Int)) % 4294967296 = (a1 : Int) := by
    have e : a1 = (a0 + gg) % 4294967296 := by rw [← e1, ← e0, ← eg]; exact markAt_succ s 0
    omega
  have n2 : ((a1 : Int) + (gg : Int)) % 4294967296 = (a2 : Int) := by
    have e : a2 = (a1 + gg) % 4294967296 := by rw [← e2, ← e1, ← eg]; exact markAt_succ s 1
    omega
  have n3 : ((a2 : Int) + (gg : Int)) % 4294967296 = (a3 : Int) := by
    have e : a3 = (a2 + gg) % 4294967296 := by rw [← e3, ← e2, ← eg]; exact markAt_succ s 2
    omega
  have HZ : Hid ((sumN (numsOf s) : Int) = (a0 : Int)) := by show _ = _; rw [← e0, markAt_zero]; rfl
  have HZ1 : Hid ((sumN (numsOf s ++ [1]) : Int) = (g1 : Int)) := by show _ = _; rw [eg1]
  have wr : ∀ a : Nat, wrap64 ((a : Int) % (m : Int)) = ((a % m : Nat) : Int) := by
    intro a
    have := Nat.mod_lt a (show m > 0 by omega)
    rw [← Int.natCast_emod]; unfold wrap64; omega
  have HW : Hid (∀ a : Nat, wrap64 ((a : Int) % (m : Int)) = ((a % m : Nat) : Int)) := wr
  clear wr
  have hw0 : (m : Int) % 4294967296 = (m : Int) := by omega
  rw [e0, e1, e2, e3]
  clear e0 e1 e2 e3 eg eg1
  go_enter Try.func18, Try.ntmps18
  go_wp2_with fail
  refine (sum_at (some ⟨w.heap.size + 1, 0, none⟩) s.size cap (numsOf s) _ (a0 : Int) (numsOf_len s).symm HZ.out HR.out.bin (by have := HS.out; have := numsOf_len s; unfold maxLen; omega)).mono ?_
  rintro e w1 ⟨rfl, rfl⟩
  have HA : Hid (CRow (w1.alloc (.cells #[.int .u8 1] 5)) (w.heap.size + 1) s.size cap (numsOf s) ∧ w.heap.size + 1 < w1.heap.size) := ⟨HR.out.below (below_alloc _ _), by obtain ⟨cur, hg, _⟩ := HR.out.row; exact lt_heap hg⟩
  clear hcv
  go_wp2_with (at_builtin; refine wpList_append_conv _ rfl _ _ rfl (w.heap.size + 1) s.size cap (numsOf s) w1.heap.size 0 1 rfl rfl HA.out.1 (cell_one_new _ _ _ 0 _ rfl) (by have := HS.out; omega) ?_)
  intro q c' w2 hb2 hg2
  have HB2 : Hid (BIn w2 q (numsOf s ++ [1])) := hb2
  have hblk : w2.heap[w.heap.size]? = some (.cells #[.int .i64 0, .int .i64 0, .int .i64 0, .int .i64 0] 46) := by
    have h1 := HA.out.2
    rw [hg2.block w.heap.size (by simp; omega) (by simp), heap_alloc_old w1 _ (by omega), HB.out.block w.heap.size (by simp)]
    exact heap_alloc_new w _
  have HBL : Hid (Below w.heap.size w w2) := by
    have h1 := HA.out.2
    have hb1 : Below w.heap.size w w1 := below_bt (below_alloc w _) HB.out
    refine ⟨hg2.os.trans hb1.os, hg2.tape.trans hb1.tape, hg2.output.trans hb1.output, by have := hg2.size; simp at this; omega, fun k hk => ?_⟩
    rw [hg2.block k (by simp; omega) (by simp; omega), heap_alloc_old w1 _ (by omega)]
    exact hb1.block k hk
  have hsz : w.heap.size < w2.heap.size := lt_heap hblk
  have c0 : w2.cell? ⟨w.heap.size, 0, none⟩ = some (.int .i64 0) := by simp [World.cell?, hblk]
  have c1 : w2.cell? ⟨w.heap.size, 1, none⟩ = some (.int .i64 0) := by simp [World.cell?, hblk]
  have c2 : w2.cell? ⟨w.heap.size, 2, none⟩ = some (.int .i64 0) := by simp [World.cell?, hblk]
  have c3 : w2.cell? ⟨w.heap.size, 3, none⟩ = some (.int .i64 0) := by simp [World.cell?, hblk]
  have f0 : w2.frozen? ⟨w.heap.size, 0, none⟩ = false := by simp [World.frozen?, hblk]
  have f1 : w2.frozen? ⟨w.heap.size, 1, none⟩ = false := by simp [World.frozen?, hblk]
  have f2 : w2.frozen? ⟨w.heap.size, 2, none⟩ = false := by simp [World.frozen?, hblk]
  have f3 : w2.frozen? ⟨w.heap.size, 3, none⟩ = false := by simp [World.frozen?, hblk]
  clear hb2 hg2 hblk HA HR HB
  go_wp2_with fail
  refine (sum_at q (s.size + 1) c' (numsOf s ++ [1]) _ (g1 : Int) (by rw [List.length_append, numsOf_len]; rfl) HZ1.out HB2.out (by have := HS.out; have := numsOf_len s; simp; unfold maxLen; omega)).mono ?_
  rintro e w3 ⟨rfl, rfl⟩
  clear HB2 HZ HZ1
  go_wp2
  refine wp_loop_rounds 5 ?_
  iterate 5 (rw [rounds_succ]; go_wp2)
  refine bodyPost_ret (v := .agg #[.int .i64 (wrap64 ((a0 : Int) % (m : Int))), .int .i64 (wrap64 ((a1 : Int) % (m : Int))), .int .i64 (wrap64 ((a2 : Int) % (m : Int))), .int .i64 (wrap64 ((a3 : Int) % (m : Int)))]) (by simp [results, Try.results18, go_sem, c0, c1, c2, c3, hsz]) rfl ⟨by rw [HW.out, HW.out, HW.out, HW.out], ?_⟩
  exact ((((HBL.out.setCell (Nat.le_refl _) _).setCell (Nat.le_refl _) _).setCell (Nat.le_refl _) _).setCell (Nat.le_refl _) _).alloc (by simp; omega) _
end Go.Proofs.Ytidjgilipffdpaa
namespace Go.Proofs.Ytidjgilipffdpaa
open Go.RowKit Go.WideShapes

theorem tooLong_any (s : ByteArray) (w : World) : Calls Try.prog 17 #[.string s] w fun e w' => e = .returned (.bool (decide ((256 : Int) < (s.size : Int)))) ∧ w' = w := by
  go_enter Try.func17, Try.ntmps17
  go_wp2
  go_ret
  exact ⟨rfl, rfl⟩
theorem mask_any (n : Nat) (w : World) (hn : (n : Int) ≤ 65536) : Calls Try.prog 25 #[.int .i64 n] w fun e w' => e = .returned (.int .u8 (2 ^ (n % 8) : Nat)) ∧ w' = w := by
  obtain ⟨r, hr⟩ : ∃ r, n % 8 = r := ⟨_, rfl⟩
  have hI : (n : Int) % 8 = (r : Int) := by omega
  rw [hr]
  have hr8 : r < 8 := by omega
  clear hr
  go_enter Try.func25, Try.ntmps25
  match r, hr8 with
  | 0, _ => go_wp2; go_ret; exact ⟨rfl, rfl⟩
  | 1, _ => go_wp2; go_ret; exact ⟨rfl, rfl⟩
  | 2, _ => go_wp2; go_ret; exact ⟨rfl, rfl⟩
  | 3, _ => go_wp2; go_ret; exact ⟨rfl, rfl⟩
  | 4, _ => go_wp2; go_ret; exact ⟨rfl, rfl⟩
  | 5, _ => go_wp2; go_ret; exact ⟨rfl, rfl⟩
  | 6, _ => go_wp2; go_ret; exact ⟨rfl, rfl⟩
  | 7, _ => go_wp2; go_ret; exact ⟨rfl, rfl⟩
theorem or_u8 (c r : Nat) (hc : c < 256) (hr : r < 256) : bits BinOp.or IntKind.u8 (c : Int) (r : Int) = ((c ||| r : Nat) : Int) := u8_or_nat c r hc hr
theorem less_u8 : ∀ r : Nat, r < 8 → ∀ c : Nat, c < 256 → (bits BinOp.andNot IntKind.u8 ((2 ^ r : Nat) : Int) (c : Int) == 0) = c.testBit r := by decide +kernel
theorem pow_lt (n : Nat) : 2 ^ (n % 8) < 256 := by
  have : 2 ^ (n % 8) < 2 ^ 8 := Nat.pow_lt_pow_right (by decide) (Nat.mod_lt _ (by decide))
  omega
theorem lacks_any (p : Option Addr) (L cap n : Nat) (xs : List Nat) (w : World) (hL : L = xs.length) (hb : BIn w p xs) (hn : n / 8 < xs.length) (hm : (n : Int) ≤ 65536) (r : Bool) (hr : (xs.getD (n / 8) 0).testBit (n % 8) = !r) :
    Calls Try.prog 21 #[.slice p L cap, .int .i64 n] w fun e w' => e = .returned (.bool r) ∧ w' = w := by
  obtain ⟨b, o, rfl, hc⟩ := hb.1 (by omega)
  have hck := hc (n / 8) hn
  have hlt := getD_lt hb.2 (n / 8)
  have hln := less_u8 (n % 8) (Nat.mod_lt _ (by decide)) _ hlt
  rw [hr] at hln
  have hpl := pow_lt n
  have HM : Hid (2 ^ (n % 8) = 2 ^ (n % 8)) := rfl
  obtain ⟨mk, hmk⟩ : ∃ mk, 2 ^ (n % 8) = mk := ⟨_, rfl⟩
  have HK : Hid (2 ^ (n % 8) = mk) := hmk
  rw [hmk] at hln hpl
  obtain ⟨c, hcc⟩ : ∃ c, xs.getD (n / 8) 0 = c := ⟨_, rfl⟩
  rw [hcc] at hck hlt hln
  obtain ⟨j, hj⟩ : ∃ j, n / 8 = j := ⟨_, rfl⟩
  rw [hj] at hck
  have hI : (n : Int) / 8 = (j : Int) := by omega
  have hjL : j < L := by omega
  have g : ∀ v : Int, (v == 0) = (!r) → (v != 0) = r := by intro v h; cases r <;> simp_all
  have hg := g _ hln
  clear hc hcc hmk hj hr hln g hn hL hb
  go_enter Try.func21, Try.ntmps21
  go_wp2_with fail
  refine (mask_any n _ hm).mono ?_
  rintro e w1 ⟨rfl, rfl⟩
  rw [HK.out]
  go_wp2
  go_ret
  exact ⟨rfl, rfl⟩
theorem getD_set_bs (xs : List Nat) (j v : Nat) : (Bs xs).set j (.int .u8 (v : Int)) = Bs (xs.set j v) := by
  unfold Bs; rw [List.map_set]
theorem set_any (g L cap n : Nat) (xs : List Nat) (w : World) (hL : L = xs.length) (hb : w.heap[g]? = some (.cells (Bs xs).toArray 5 (0, 0))) (hx : ∀ c ∈ xs, c < 256) (hn : n / 8 < xs.length) (hm : (n : Int) ≤ 65536) :
    Calls Try.prog 20 #[.slice (some ⟨g, 0, none⟩) L cap, .int .i64 n] w fun e w' => e = .returned (.tuple #[]) ∧ w'.heap[g]? = some (.cells (Bs (setN xs n)).toArray 5 (0, 0)) ∧ w.grownBy w' (some g) := by
  have hck : w.cell? ⟨g, n / 8, none⟩ = some (.int .u8 (xs.getD (n / 8) 0 : Nat)) := by
    rw [cell_of_row w g (n / 8) _ 5 _ hb]
    simp [Bs, List.getD, List.getElem?_eq_getElem hn]
  have hfz : w.frozen? ⟨g, n / 8, none⟩ = false := by simp [World.frozen?, hb]
  have hlt := getD_lt hx (n / 8)
  have hpl := pow_lt n
  have hor := or_u8 _ _ hlt hpl
  obtain ⟨mk, hmk⟩ : ∃ mk, 2 ^ (n % 8) = mk := ⟨_, rfl⟩
  have HK : Hid (2 ^ (n % 8) = mk) := hmk
  rw [hmk] at hor hpl
  obtain ⟨c, hcc⟩ : ∃ c, xs.getD (n / 8) 0 = c := ⟨_, rfl⟩
  rw [hcc] at hck hlt hor
  obtain ⟨j, hj⟩ : ∃ j, n / 8 = j := ⟨_, rfl⟩
  rw [hj] at hck hfz
  have HS : Hid (setN xs n = xs.set j (c ||| mk)) := by show _ = _; unfold setN; rw [hj, ← hj, hcc, hmk, hj]
  have HG : Hid (w.heap[g]? = some (.cells (Bs xs).toArray 5 (0, 0))) := hb
  have hI : (n : Int) / 8 = (j : Int) := by omega
  have hjI : (j : Int) < (L : Int) := by omega
  have hj0 : (0 : Int) ≤ (j : Int) := by omega
  have hjw : IntKind.i64.wrap (j : Int) = (j : Int) := by rw [IntKind.wrap_i64]; omega
  clear hcc hmk hj hn hL hb hx
  go_enter Try.func20, Try.ntmps20
  go_region_with (go_at_call 25; refine (mask_any n _ hm).mono ?_; rintro e w1 ⟨rfl, rfl⟩; rw [HK.out])
  all_goals
    refine bodyPost_end (v := .tuple #[]) (by simp [results, Try.results20, go_sem]) rfl ⟨rfl, ?_, ?_⟩
    · rw [HS.out, ← getD_set_bs]
      rw [setCell_eq_setRow w g j _ 5 _ _ HG.out]
      have e := setRow_heap w g _ ((Bs xs).toArray.setIfInBounds j (.int .u8 ((c ||| mk : Nat) : Int))) 5 (0, 0) HG.out
      rw [show ((Bs xs).set j (.int .u8 ((c ||| mk : Nat) : Int))).toArray = (Bs xs).toArray.setIfInBounds j (.int .u8 ((c ||| mk : Nat) : Int)) from by simp]
      exact e
    · exact ⟨rfl, rfl, rfl, by simp, fun k hk hne => by
        rw [setCell_eq_setRow w g j _ 5 _ _ HG.out]
        exact setRow_other w g k _ (fun e => hne (by rw [e]))⟩
end Go.Proofs.Ytidjgilipffdpaa
namespace Go.Proofs.Ytidjgilipffdpaa
open Go.RowKit Go.WideShapes

/-- A row of texts. -/
def StrsIn (w : World) (q : Option Addr) (l : List ByteArray) : Prop := 0 < l.length → ∃ b o, q = some ⟨b, o, none⟩ ∧ ∀ i, i < l.length → w.cell? ⟨b, o + i, none⟩ = some (.string (l.getD i ByteArray.empty))
theorem StrsIn.below {w w' : World} {q : Option Addr} {l : List ByteArray} (h : StrsIn w q l) (hb : Below w.heap.size w w') : StrsIn w' q l := fun h0 => by
  obtain ⟨b, o, hq, hc⟩ := h h0
  exact ⟨b, o, hq, fun i hi => (hb.cell (World.block_lt_of_cell? _ _ (hc i hi))).trans (hc i hi)⟩
theorem StrsIn.addr {w : World} {q : Option Addr} {l : List ByteArray} (h : StrsIn w q l) (hp : 0 < l.length) : ∃ b o, q = some ⟨b, o, none⟩ := by
  obtain ⟨b, o, e, _⟩ := h hp
  exact ⟨b, o, e⟩
theorem StrsIn.at {w : World} {b o : Nat} {l : List ByteArray} (h : StrsIn w (some ⟨b, o, none⟩) l) {i : Nat} (hi : i < l.length) : w.cell? ⟨b, o + i, none⟩ = some (.string (l.getD i ByteArray.empty)) := by
  obtain ⟨b', o', e, hc⟩ := h (by omega)
  simp only [Option.some.injEq, Addr.mk.injEq, and_true] at e
  obtain ⟨rfl, rfl⟩ := e
  exact hc i hi
theorem getD_mem_s {l : List ByteArray} {k : Nat} (hk : k < l.length) : l.getD k ByteArray.empty ∈ l := by
  rw [List.getD_eq_getElem?_getD, List.getElem?_eq_getElem hk]; exact List.getElem_mem _
def longB (l : List ByteArray) : Bool := l.any fun s => decide (256 < s.size)
theorem longB_no {l : List ByteArray} : longB l = false ↔ ∀ s ∈ l, s.size ≤ 256 := by
  unfold longB
  rw [List.any_eq_false]
  constructor
  · intro h s hs; have := h s hs; simp at this; omega
  · intro h s hs; have := h s hs; simp; omega
theorem longB_yes {l : List ByteArray} : longB l = true ↔ ∃ s ∈ l, 256 < s.size := by
  unfold longB
  rw [List.any_eq_true]
  simp
set_option maxRecDepth 8000 in
set_option maxHeartbeats 4000000 in
theorem indexFunc_any (q : Option Addr) (n c : Nat) (l : List ByteArray) (w : World) (hn : n = l.length) (hl : StrsIn w q l) (hL : (n : Int) ≤ 1000000) :
    Calls Try.prog 24 #[.slice q n c, .func (.func 17) #[] #[]] w fun e w' => ∃ z : Int, e = .returned (.int .i64 z) ∧ decide (0 ≤ z) = longB l ∧ w' = w := by
  have HA : Hid (StrsIn w q l) := hl
  have HN : Hid (n = l.length) := hn
  clear hl hn
  go_enter Try.func24, Try.ntmps24
  go_wp2
  go_loop [8] (fun i => ∃ k : Nat, k ≤ n ∧ i = .int .i64 k ∧ Hid (∀ j, j < k → (l.getD j ByteArray.empty).size ≤ 256)) (fun i => n - (intOf i).toNat)
  case atStart => exact ⟨0, by omega, rfl, fun j hj => absurd hj (by omega)⟩
  case round =>
    obtain ⟨k, hk, rfl, hall⟩ := hrel
    by_cases hkn : k < n
    · have hkI : (k : Int) < (n : Int) := by omega
      obtain ⟨ba, oa, rfl⟩ := HA.out.addr (by have := HN.out; omega)
      obtain ⟨x, hx⟩ : ∃ x, l.getD k ByteArray.empty = x := ⟨_, rfl⟩
      have x0 := HA.out.at (i := k) (by have := HN.out; omega)
      rw [hx] at x0
      have HX : Hid (l.getD k ByteArray.empty = x ∧ k < l.length ∧ k < n) := ⟨hx, by have := HN.out; omega, hkn⟩
      clear hx hkn
      by_cases hm : x.size ≤ 256
      · have g1 : decide ((256 : Int) < (x.size : Int)) = false := decide_eq_false (by omega)
        have HM : Hid (∀ j, j < k + 1 → (l.getD j ByteArray.empty).size ≤ 256) := fun j hj => by
          rcases Nat.lt_or_ge j k with h' | h'
          · exact hall.out j h'
          · obtain rfl : j = k := by omega
            rw [HX.out.1]; exact hm
        clear hm hall
        go_wp2_with fail
        refine (tooLong_any x _).mono ?_
        rintro e w2 ⟨rfl, rfl⟩
        rw [g1]
        go_wp2
        go_round
        case rel => exact ⟨k + 1, by have := HX.out; omega, by go_num, HM⟩
        case measure => have := HX.out; simp [intOf]; omega
      · have g1 : decide ((256 : Int) < (x.size : Int)) = true := decide_eq_true (by omega)
        have HM : Hid (longB l = true) := longB_yes.2 ⟨x, by rw [← HX.out.1]; exact getD_mem_s HX.out.2.1, by omega⟩
        clear hm hall
        go_wp2_with fail
        refine (tooLong_any x _).mono ?_
        rintro e w2 ⟨rfl, rfl⟩
        rw [g1]
        go_wp2
        go_ret
        exact ⟨(k : Int), rfl, by rw [HM.out]; exact decide_eq_true (by omega), rfl⟩
    · have HK : Hid (longB l = false) := longB_no.2 (fun s hs => by
        obtain ⟨j, hj, rfl⟩ := List.getElem_of_mem hs
        have := hall.out j (by have := HN.out; omega)
        rw [List.getD_eq_getElem?_getD, List.getElem?_eq_getElem hj] at this
        exact this)
      obtain rfl : k = n := by omega
      clear hall hkn
      go_wp2
      go_ret
      exact ⟨-1, rfl, by rw [HK.out]; rfl, rfl⟩
theorem containsFunc_any (q : Option Addr) (n c : Nat) (l : List ByteArray) (w : World) (hn : n = l.length) (hl : StrsIn w q l) (hL : (n : Int) ≤ 1000000) (r : Bool) (hr : longB l = r) :
    Calls Try.prog 19 #[.slice q n c, .func (.func 17) #[] #[]] w fun e w' => e = .returned (.bool r) ∧ w' = w := by
  have HO := indexFunc_any q n c l w hn hl hL
  have HR : Hid (longB l = r) := hr
  clear hn hl hL hr
  go_enter Try.func19, Try.ntmps19
  go_wp2_with fail
  refine HO.mono ?_
  rintro e w1 ⟨z, rfl, hz, rfl⟩
  have HZ : Hid (decide (0 ≤ z) = r) := by show _ = _; rw [hz, HR.out]
  clear hz
  go_wp2
  go_ret
  exact ⟨by rw [← HZ.out]; rfl, rfl⟩
end Go.Proofs.Ytidjgilipffdpaa
namespace Go.Proofs.Ytidjgilipffdpaa
open Go.RowKit Go.WideShapes

theorem row_full {w : World} {base e g n : Nat} {xs : List Value} (h : w.ownsRow base e 1 (.slice (some ⟨g, 0, none⟩) n n) n xs) : w.heap[g]? = some (.cells xs.toArray e (0, 0)) := by
  rcases h.2 with ⟨h, _⟩ | ⟨g', cap, cur, hv, _, hg, _, _, hs, ht⟩
  · cases h
  · simp only [Value.slice.injEq, Option.some.injEq, Addr.mk.injEq, and_true, true_and] at hv
    obtain ⟨rfl, rfl⟩ := hv
    rw [hg]
    rw [List.take_of_length_le (by simp; omega)] at ht
    rw [← ht, Array.toArray_toList]
theorem zeros_made (n : Nat) : (madeCells #[Value.int .u8 0] n).toList = Bs (List.replicate n 0) := by
  rw [toList_madeCells_one]
  simp [Bs]
theorem bin_row {w : World} {g t : Nat} {xs : List Nat} (h : w.heap[g]? = some (.cells (Bs xs).toArray t (0, 0))) (hx : ∀ c ∈ xs, c < 256) : BIn w (some ⟨g, 0, none⟩) xs := by
  refine ⟨fun _ => ⟨g, 0, rfl, fun i hi => ?_⟩, hx⟩
  rw [Nat.zero_add, cell_of_row w g i _ _ _ h]
  simp [Bs, List.getD, List.getElem?_eq_getElem hi]
/-- A filter that is being made. -/
structure Flt (w0 w : World) (g m : Nat) (xs : List Nat) : Prop where
  blk : w.heap[g]? = some (.cells (Bs xs).toArray 5 (0, 0))
  len : xs.length = m / 8
  lt : ∀ c ∈ xs, c < 256
  below : Below w0.heap.size w0 w
  ge : w0.heap.size ≤ g
theorem Flt.next {w0 w w' : World} {g m : Nat} {xs : List Nat} (h : Flt w0 w g m xs) (hb : Below w.heap.size w w') : Flt w0 w' g m xs :=
  ⟨(hb.block g (lt_heap h.blk)).trans h.blk, h.len, h.lt, below_bt h.below hb, h.ge⟩
theorem Flt.set {w0 w : World} {g m : Nat} {xs : List Nat} (h : Flt w0 w g m xs) (n L cap : Nat) (hL : L = m / 8) (hn : n < m) (h8 : m % 8 = 0) (hm : (m : Int) ≤ 65536) :
    Calls Try.prog 20 #[.slice (some ⟨g, 0, none⟩) L cap, .int .i64 n] w fun e w' => e = .returned (.tuple #[]) ∧ Flt w0 w' g m (setN xs n) := by
  refine (set_any g L cap n xs w (by rw [h.len]; exact hL) h.blk h.lt (by rw [h.len]; exact mark_in h8 hn) (by omega)).mono ?_
  rintro e w' ⟨rfl, h1, h2⟩
  exact ⟨rfl, h1, by rw [setN_len]; exact h.len, setN_lt h.lt n, h.below.grown h2 h.below.size (fun k hk => by simp only [Option.some.injEq] at hk; have := h.ge; omega), h.ge⟩
set_option maxRecDepth 8000 in
set_option maxHeartbeats 4000000 in
theorem Make_ok (q : Option Addr) (n c m : Nat) (l : List ByteArray) (w : World) (hn : n = l.length) (hl : StrsIn w q l) (hN : (n : Int) ≤ 4096) (hlong : longB l = false) (h0 : (8 : Int) ≤ (m : Int)) (hm : (m : Int) ≤ 65536) (h8 : m % 8 = 0) :
    Calls Try.prog 10 #[.slice q n c, .int .i64 m] w fun e w' => ∃ g, e = .returned (.tuple #[.slice (some ⟨g, 0, none⟩) (m / 8) (m / 8), .int .i64 0]) ∧ Flt w w' g m (makeN l m) := by
  obtain ⟨i0, hi, hz0, hz1, hz2⟩ := info_parts info5
  have HN : Hid (n = l.length ∧ longB l = false ∧ m % 8 = 0) := ⟨hn, hlong, h8⟩
  have HL : Hid (StrsIn w q l) := hl
  have g8 : ((m : Int) % 8 != 0) = false := by simp; omega
  have hd : (m : Int) / 8 = ((m / 8 : Nat) : Int) := by omega
  obtain ⟨L, hLL⟩ : ∃ L, m / 8 = L := ⟨_, rfl⟩
  rw [hLL] at hd ⊢
  have HLL : Hid (m / 8 = L) := hLL
  have hL1 : (L : Int) ≤ 8192 := by omega
  clear hn hl hlong h8 hLL
  go_enter Try.func10, Try.ntmps10
  go_wp2_with fail
  refine (containsFunc_any q n c l _ HN.out.1 HL.out (by omega) false HN.out.2.1).mono ?_
  rintro e w1 ⟨rfl, rfl⟩
  go_wp2_with (at_make; refine wpList_make_full _ rfl _ _ 26 rfl w1.heap.size 5 i0 (.int .u8 0) 1 Try.underlying26 hi hz0 hz1 .i64 .i64 _ _ L rfl rfl (by omega) (by omega) (by rw [hz2]; omega) (by unfold maxLen; omega) (by simp) ?_)
  intro w2 hown hgrow
  have hrow := row_full hown
  rw [zeros_made] at hrow
  have HF : Hid (Flt w1 w2 w1.heap.size m (makeN (l.take 0) m)) := ⟨by rw [List.take_zero]; show w2.heap[w1.heap.size]? = some (Obj.cells (Bs (List.replicate (m / 8) 0)).toArray 5 (0, 0)); rw [HLL.out]; exact hrow, makeN_len _ _, makeN_lt _ _, (Below.refl _ _).grown hgrow (Nat.le_refl _) (fun k hk => by cases hk), Nat.le_refl _⟩
  clear hown hgrow hrow
  go_wp2
  go_loopw [32] (fun i wr => ∃ k : Nat, k ≤ n ∧ i = .int .i64 k ∧ Flt w1 wr w1.heap.size m (makeN (l.take k) m)) (fun i _ => n - (intOf i).toNat)
  case atStart => exact ⟨0, by omega, rfl, HF.out⟩
  case round =>
    obtain ⟨k, hk, rfl, hflt⟩ := hrel
    have HFl : Hid (Flt w1 wr w1.heap.size m (makeN (l.take k) m)) := hflt
    clear hflt HF
    by_cases hkn : k < n
    · have hkI : (k : Int) < (n : Int) := by omega
      obtain ⟨ba, oa, rfl⟩ := HL.out.addr (by have := HN.out; omega)
      obtain ⟨x, hx⟩ : ∃ x, l.getD k ByteArray.empty = x := ⟨_, rfl⟩
      have x0 := (HL.out.below HFl.out.below).at (i := k) (by have := HN.out; omega)
      rw [hx] at x0
      have hxm : x.size ≤ 256 := longB_no.1 HN.out.2.1 x (by rw [← hx]; exact getD_mem_s (by have := HN.out; omega))
      obtain ⟨m0, e0⟩ : ∃ a, markAt x 0 % m = a := ⟨_, rfl⟩
      obtain ⟨m1, e1⟩ : ∃ a, markAt x 1 % m = a := ⟨_, rfl⟩
      obtain ⟨m2, e2⟩ : ∃ a, markAt x 2 % m = a := ⟨_, rfl⟩
      obtain ⟨m3, e3⟩ : ∃ a, markAt x 3 % m = a := ⟨_, rfl⟩
      have HM : Hid (marksN x m = [m0, m1, m2, m3]) := by show _ = _; unfold marksN; rw [e0, e1, e2, e3]
      have HMl : Hid (m0 < m ∧ m1 < m ∧ m2 < m ∧ m3 < m) := by
        have h := marksN_lt x m (by omega)
        rw [HM.out] at h
        exact ⟨h _ (by simp), h _ (by simp), h _ (by simp), h _ (by simp)⟩
      have HMk := marks_any x m
      rw [e0, e1, e2, e3] at HMk
      have HMc : Hid (∀ w : World, Calls Try.prog 18 #[.string x, .int .i64 m] w fun e w' => e = .returned (.agg #[.int .i64 m0, .int .i64 m1, .int .i64 m2, .int .i64 m3]) ∧ Below w.heap.size w w') := fun w => HMk w (by omega) (by omega) hm
      have HX : Hid (l.getD k ByteArray.empty = x ∧ k < l.length ∧ k < n) := ⟨hx, by have := HN.out; omega, hkn⟩
      clear hx hkn hxm e0 e1 e2 e3 HMk
      have i0 : ∀ w, (Instr.index 46 (.agg #[.int .i64 m0, .int .i64 m1, .int .i64 m2, .int .i64 m3]) (.int .i64 0)).run Try.prog w = .ok (.int .i64 m0) w := fun _ => by kernel_rfl
      have i1 : ∀ w, (Instr.index 46 (.agg #[.int .i64 m0, .int .i64 m1, .int .i64 m2, .int .i64 m3]) (.int .i64 1)).run Try.prog w = .ok (.int .i64 m1) w := fun _ => by kernel_rfl
      have i2 : ∀ w, (Instr.index 46 (.agg #[.int .i64 m0, .int .i64 m1, .int .i64 m2, .int .i64 m3]) (.int .i64 2)).run Try.prog w = .ok (.int .i64 m2) w := fun _ => by kernel_rfl
      have i3 : ∀ w, (Instr.index 46 (.agg #[.int .i64 m0, .int .i64 m1, .int .i64 m2, .int .i64 m3]) (.int .i64 3)).run Try.prog w = .ok (.int .i64 m3) w := fun _ => by kernel_rfl
      go_wp2_with fail
      refine (HMc.out _).mono ?_
      rintro e w3 ⟨rfl, hb3⟩
      have HF3 : Hid (Flt w1 w3 w1.heap.size m (makeN (l.take k) m)) := HFl.out.next hb3
      clear hb3
      go_wp2
      refine wp_loop_rounds 5 ?_
      rw [rounds_succ]
      go_wp2_with fail
      refine (HF3.out.set m0 L L HLL.out.symm HMl.out.1 HN.out.2.2 hm).mono ?_
      rintro e w4 ⟨rfl, hf4⟩
      have HF4 : Hid (Flt w1 w4 w1.heap.size m (setN (makeN (l.take k) m) m0)) := hf4
      clear hf4
      go_wp2
      rw [rounds_succ]
      go_wp2_with fail
      refine (HF4.out.set m1 L L HLL.out.symm HMl.out.2.1 HN.out.2.2 hm).mono ?_
      rintro e w5 ⟨rfl, hf5⟩
      have HF5 : Hid (Flt w1 w5 w1.heap.size m (setN (setN (makeN (l.take k) m) m0) m1)) := hf5
      clear hf5
      go_wp2
      rw [rounds_succ]
      go_wp2_with fail
      refine (HF5.out.set m2 L L HLL.out.symm HMl.out.2.2.1 HN.out.2.2 hm).mono ?_
      rintro e w6 ⟨rfl, hf6⟩
      have HF6 : Hid (Flt w1 w6 w1.heap.size m (setN (setN (setN (makeN (l.take k) m) m0) m1) m2)) := hf6
      clear hf6
      go_wp2
      rw [rounds_succ]
      go_wp2_with fail
      refine (HF6.out.set m3 L L HLL.out.symm HMl.out.2.2.2 HN.out.2.2 hm).mono ?_
      rintro e w7 ⟨rfl, hf7⟩
      have HF7 : Hid (Flt w1 w7 w1.heap.size m (makeN (l.take (k + 1)) m)) := by
        rw [makeN_take l m k HX.out.2.1, HX.out.1, HM.out]; exact hf7
      clear hf7
      go_wp2
      rw [rounds_succ]
      go_wp2
      go_roundw
      case rel => exact ⟨k + 1, by have := HX.out; omega, by go_num, HF7.out⟩
      case measure => have := HX.out; simp [intOf]; omega
    · obtain rfl : k = n := by omega
      go_wp2
      go_ret2
      refine ⟨w1.heap.size, rfl, ?_⟩
      have := HFl.out
      rw [List.take_of_length_le (by have := HN.out; omega)] at this
      exact this
end Go.Proofs.Ytidjgilipffdpaa
