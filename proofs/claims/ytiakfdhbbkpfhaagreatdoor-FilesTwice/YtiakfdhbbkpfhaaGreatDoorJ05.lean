/-
  Contract of the call with: a piece put behind runs, in memory of the call's own.
-/
import Derived.Test.YtiakfdhbbkpfhaaGreatDoorJ04
namespace Go.Proofs.YtiakfdhbbkpfhaaGreatDoor
open Go.RowKit Go.Extern.Stop Go.Stop Go.Extern Rm

/-- The program's one variable that is read there: what stands for the type 'error'. -/
def ErrT (w : World) : Prop := w.cell? ⟨0, 0, none⟩ = some (.iface 181 (.agg #[.pointer (some ⟨5, 76, none⟩)]))
theorem ErrT.below {w w' : World} (h : ErrT w) (hb : Below w.heap.size w w') : ErrT w' := (hb.cell (World.block_lt_of_cell? _ _ h)).trans h

theorem rf.noAs (v : Value) (xT : TypeId) (w : World) : (Instr.typeAssert (.iface 120 v) xT 186 true).run Tryz.prog w = .ok (.tuple #[.nilIface, .bool false]) w := run_typeAssert_lacksB Tryz.underlying186 (by kernel_rfl) (by kernel_rfl) v xT w
theorem rf.hasUnw (v : Value) (xT : TypeId) (w : World) : (Instr.typeAssert (.iface 120 v) xT 189 true).run Tryz.prog w = .ok (.tuple #[.iface 120 v, .bool true]) w := run_typeAssert_hasB Tryz.underlying189 (by kernel_rfl) v xT w
theorem rf.methodUnw (s : ByteArray) (v : Value) (w : World) : (Go.method 412 120 (.agg #[.string s, v]) "Unwrap").run Tryz.prog w = .ok (228, .agg #[.string s, v]) w := by kernel_rfl
theorem Faults.iface {v : Value} {e : Int} (h : Faults v e) : ∃ t x, v = .iface t x := by cases h <;> exact ⟨_, _, rfl⟩

set_option maxRecDepth 10000 in
set_option maxHeartbeats 4000000 in
theorem as_any (v : Value) (e : Int) (hv : Faults v e) (t a : Addr) (old : Value) (w : World) (ha : w.cell? a = some (.pointer (some t))) (ht0 : w.cell? t = some old) (hf0 : w.frozen? t = false) :
    Calls Tryz.prog 97 #[v, .iface 118 (.pointer (some t)), .agg #[.pointer (some ⟨5, 118, none⟩), .pointer (some a), .int .u64 150], .iface 181 (.agg #[.pointer (some ⟨5, 26, none⟩)])] w
      fun ev w' => ev = .returned (.bool true) ∧ ∃ w1, w' = w1.setCell t (.int .i64 e) ∧ Below w.heap.size w w1 := by
  have h6 := @run_callFunc_extern Tryz.prog 94 _ (fun args => ReflectliteValue.unpack (args.getD 0 (.tuple #[]))) Tryz.func94 (by kernel_rfl) (by kernel_rfl) (by kernel_rfl) (by kernel_rfl)
  have h10 := @run_callFunc_extern Tryz.prog 119 _ ReflectliteType.typeOf Tryz.func119 (by kernel_rfl) (by kernel_rfl) (by kernel_rfl) (by kernel_rfl)
  have h35 := @run_callFunc_extern Tryz.prog 233 _ (ReflectliteType.relation "AssignableTo" ReflectliteType.assignableTo) Tryz.func233 (by kernel_rfl) (by kernel_rfl) (by kernel_rfl) (by kernel_rfl)
  have h11 := @run_callFunc_extern Tryz.prog 120 _ (ReflectliteValue.method (ReflectliteValue.valueError "reflectlite.Value.Elem" 0) ReflectliteValue.elem) Tryz.func120 (by kernel_rfl) (by kernel_rfl) (by kernel_rfl) (by kernel_rfl)
  have h12 := @run_callFunc_extern Tryz.prog 121 _ ReflectliteValue.set Tryz.func121 (by kernel_rfl) (by kernel_rfl) (by kernel_rfl) (by kernel_rfl)
  have tN := rf.typeOf_num
  have tF := rf.typeOf_fault
  have mA := rf.methodAssn
  have aN := rf.assn_num
  have aF := rf.assn_fault
  have vN := rf.valueOf_num
  have nA := rf.noAs
  have hU := rf.hasUnw
  have mU := rf.methodUnw
  have hta : t.block < w.heap.size := World.block_lt_of_cell? _ _ ht0
  have haa : a.block < w.heap.size := World.block_lt_of_cell? _ _ ha
  go_enter Tryz.func97, Tryz.ntmps97
  go_wp2
  go_loopw [0] (fun x wr => Faults x e ∧ Below (w.heap.size + 1) (w.alloc (.cells #[.pointer (some ⟨5, 118, none⟩), .pointer (some a), .int .u64 150] 158)) wr) (fun x _ => SizeOf.sizeOf x)
  case atStart => exact ⟨hv, Below.refl _ _⟩
  case round =>
    obtain ⟨hx, hbel⟩ := hrel
    have hs := hbel.size
    simp at hs
    have hbox : wr.cell? ⟨w.heap.size, 0, none⟩ = some (.pointer (some ⟨5, 118, none⟩)) ∧ wr.cell? ⟨w.heap.size, 1, none⟩ = some (.pointer (some a)) ∧ wr.cell? ⟨w.heap.size, 2, none⟩ = some (.int .u64 150) := by
      refine ⟨?_, ?_, ?_⟩ <;> (rw [hbel.cell (by simp)]; simp)
    have ht1 : wr.cell? t = some old := (hbel.cell (by omega)).trans ((World.cell?_alloc_lt _ _ t hta).trans ht0)
    have hf1 : wr.frozen? t = false := (hbel.frozen (by omega)).trans ((World.frozen?_alloc_old _ _ t (by omega)).trans hf0)
    cases hx with
    | num =>
      have ha1 : wr.cell? a = some (.pointer (some t)) := (hbel.cell (by omega)).trans ((World.cell?_alloc_lt _ _ a haa).trans ha)
      obtain ⟨c0, c1, c2⟩ := hbox
      have el := rf.elemV a t wr ha1
      have st := rf.set t ⟨wr.heap.size, 0, none⟩ e old (wr.alloc (.cells #[.int .i64 e] 26)) (by simp) (by rw [World.cell?_alloc_lt _ _ t (by omega)]; exact ht1) (by rw [World.frozen?_alloc_old _ _ t (by omega)]; exact hf1)
      go_wp2
      go_ret
      refine ⟨rfl, wr.alloc (.cells #[.int .i64 e] 26), rfl, ?_⟩
      exact ((below_alloc w _).trans (hbel.mono (by omega))).alloc (by omega) _
    | @more s v1 _ hx =>
      obtain ⟨tx, vx, rfl⟩ := hx.iface
      have HX : Hid (Faults (.iface tx vx) e) := hx
      clear hx
      go_wp2_with (go_at_call 228; refine (fault_unwrap _ _ _).mono ?_; rintro e1 w1 ⟨rfl, hb1⟩)
      go_roundw
      case rel => exact ⟨HX.out, hbel.trans (hb1.mono (by omega))⟩
      case measure => simp; omega

set_option maxRecDepth 10000 in
set_option maxHeartbeats 4000000 in
theorem As_any (v : Value) (e : Int) (hv : Faults v e) (t : Addr) (old : Value) (w : World) (hg : ErrT w) (ht0 : w.cell? t = some old) (hf0 : w.frozen? t = false) :
    Calls Tryz.prog 61 #[v, .iface 118 (.pointer (some t))] w fun ev w' => ev = .returned (.bool true) ∧ ∃ w1, w' = w1.setCell t (.int .i64 e) ∧ Below w.heap.size w w1 := by
  have h6 := @run_callFunc_extern Tryz.prog 94 _ (fun args => ReflectliteValue.unpack (args.getD 0 (.tuple #[]))) Tryz.func94 (by kernel_rfl) (by kernel_rfl) (by kernel_rfl) (by kernel_rfl)
  have h7 := @run_callFunc_extern Tryz.prog 95 _ (ReflectliteValue.methodAny (ReflectliteValue.valueError "reflectlite.Value.Type" 0) (fun t _ _ _ => ReflectliteType.toType t)) Tryz.func95 (by kernel_rfl) (by kernel_rfl) (by kernel_rfl) (by kernel_rfl)
  have h8 := @run_callFunc_extern Tryz.prog 96 _ (ReflectliteValue.method (ReflectliteValue.valueError "reflectlite.Value.IsNil" 0) ReflectliteValue.isNil) Tryz.func96 (by kernel_rfl) (by kernel_rfl) (by kernel_rfl) (by kernel_rfl)
  have h27 := @run_callFunc_extern Tryz.prog 223 _ (ReflectliteType.abiMethod fun t => do pure (.int .u8 (← Rtype.kind t))) Tryz.func223 (by kernel_rfl) (by kernel_rfl) (by kernel_rfl) (by kernel_rfl)
  have h37 := @run_callFunc_extern Tryz.prog 235 _ (ReflectliteType.method ReflectliteType.elem) Tryz.func235 (by kernel_rfl) (by kernel_rfl) (by kernel_rfl) (by kernel_rfl)
  have h38 := @run_callFunc_extern Tryz.prog 236 _ (ReflectliteType.relation "Implements" ReflectliteType.implements_) Tryz.func236 (by kernel_rfl) (by kernel_rfl) (by kernel_rfl) (by kernel_rfl)
  have f6 := rf.valueOf_ptr
  have f7 := rf.type_ptr
  have mK := rf.methodKind
  have mE := rf.methodElem
  have mI := rf.methodImpl
  have k27 := rf.kind_ptr
  have k25 := rf.kind_num
  have e27 := rf.elem_ptr
  have i25 := rf.impl_num
  have hta : t.block < w.heap.size := World.block_lt_of_cell? _ _ ht0
  have hlt : 0 < w.heap.size := World.block_lt_of_cell? _ _ hg
  unfold ErrT at hg
  have n8 := rf.isNil ⟨w.heap.size, 0, none⟩ t ((w.alloc (.cells #[.pointer (some t)] 118)).alloc (.cells #[.pointer (some ⟨5, 118, none⟩), .pointer (some ⟨w.heap.size, 0, none⟩), .int .u64 150] 158)) (by simp)
  have hg2 : ((w.alloc (.cells #[.pointer (some t)] 118)).alloc (.cells #[.pointer (some ⟨5, 118, none⟩), .pointer (some ⟨w.heap.size, 0, none⟩), .int .u64 150] 158)).cell? ⟨0, 0, none⟩ = some (.iface 181 (.agg #[.pointer (some ⟨5, 76, none⟩)])) := by
    rw [World.cell?_alloc_lt _ _ ⟨0, 0, none⟩ (by simp), World.cell?_alloc_lt _ _ ⟨0, 0, none⟩ hlt]; exact hg
  have hcall := as_any v e hv t ⟨w.heap.size, 0, none⟩ old ((w.alloc (.cells #[.pointer (some t)] 118)).alloc (.cells #[.pointer (some ⟨5, 118, none⟩), .pointer (some ⟨w.heap.size, 0, none⟩), .int .u64 150] 158)) (by simp)
    (by rw [World.cell?_alloc_lt _ _ t (by simp; omega), World.cell?_alloc_lt _ _ t hta]; exact ht0)
    (by rw [World.frozen?_alloc_old _ _ t (by simp; omega), World.frozen?_alloc_old _ _ t (by omega)]; exact hf0)
  obtain ⟨tx, vx, rfl⟩ := hv.iface
  clear hv hg
  go_enter Tryz.func61, Tryz.ntmps61
  go_wp2_with (go_at_call 97; refine hcall.mono ?_; rintro e1 w1 ⟨rfl, w2, rfl, hb⟩)
  go_ret
  refine ⟨rfl, w2, rfl, ?_⟩
  exact ((below_alloc w _).alloc (by simp) _).trans (hb.mono (by simp; omega))

end Go.Proofs.YtiakfdhbbkpfhaaGreatDoor
namespace Go.Proofs.YtiakfdhbbkpfhaaGreatDoor
open Go.RowKit Go.Extern.Stop Go.Stop Go.Extern Rm

set_option maxHeartbeats 400000 in
theorem number_nil (w : World) : Calls Tryz.prog 30 #[.nilIface] w fun ev w' => ev = .returned (.int .i64 0) ∧ Below w.heap.size w w' := by
  go_enter Tryz.func30, Tryz.ntmps30
  go_wp2
  go_ret
  exact ⟨rfl, below_alloc _ _⟩
set_option maxHeartbeats 400000 in
theorem number_any (v : Value) (e : Int) (hv : Faults v e) (w : World) (hg : ErrT w) : Calls Tryz.prog 30 #[v] w fun ev w' => ev = .returned (.int .i64 e) ∧ Below w.heap.size w w' := by
  have hcall := As_any v e hv ⟨w.heap.size, 0, none⟩ (.int .i64 0) (w.alloc (.cells #[.int .i64 0] 26)) (hg.below (below_alloc _ _)) (by simp) (by simp)
  go_enter Tryz.func30, Tryz.ntmps30
  go_wp2_with fail
  refine hcall.mono ?_
  rintro e1 w1 ⟨rfl, w2, rfl, hb⟩
  have hs := hb.size
  simp at hs
  have hc : w2.cell? ⟨w.heap.size, 0, none⟩ = some (.int .i64 0) := by rw [hb.cell (by simp)]; simp
  have hc2 : (w2.setCell ⟨w.heap.size, 0, none⟩ (.int .i64 e)).cell? ⟨w.heap.size, 0, none⟩ = some (.int .i64 e) := World.cell?_setCell_same _ _ _ hc
  have hb2 : Below w.heap.size w (w2.setCell ⟨w.heap.size, 0, none⟩ (.int .i64 e)) := ((below_alloc w _).trans (hb.mono (by simp))).setCell (by simp) _
  generalize w2.setCell ⟨w.heap.size, 0, none⟩ (.int .i64 e) = w3 at *
  clear hc hs hb hcall
  go_wp2
  go_ret
  exact ⟨rfl, hb2⟩
end Go.Proofs.YtiakfdhbbkpfhaaGreatDoor
namespace Go.Proofs.YtiakfdhbbkpfhaaGreatDoor.Rm
open Go.RowKit Go.WideShapes

theorem mayCount_any (n : Int) (w : World) : Calls Tryz.prog 137 #[.int .i64 n] w fun e w' => e = .returned (.bool (decide (0 ≤ n ∧ n ≤ 4096))) ∧ w' = w := by
  by_cases h1 : 0 ≤ n
  · go_enter Tryz.func137, Tryz.ntmps137
    go_wp2
    go_ret
    exact ⟨by simp [h1], rfl⟩
  · go_enter Tryz.func137, Tryz.ntmps137
    go_wp2
    go_ret
    exact ⟨by simp; omega, rfl⟩
theorem mayBegin_any (first count : Int) (w : World) : Calls Tryz.prog 136 #[.int .i64 first, .int .i64 count] w fun e w' => e = .returned (.bool (decide ((0 ≤ count ∧ count ≤ 4096) ∧ 0 ≤ first ∧ first ≤ count))) ∧ w' = w := by
  by_cases h1 : 0 ≤ count ∧ count ≤ 4096
  · by_cases h2 : 0 ≤ first
    · go_enter Tryz.func136, Tryz.ntmps136
      go_wp2_with (go_at_call 137; refine (mayCount_any count _).mono ?_; rintro e w1 ⟨rfl, rfl⟩; rw [decide_eq_true h1])
      go_ret
      exact ⟨by simp [h1, h2], rfl⟩
    · go_enter Tryz.func136, Tryz.ntmps136
      go_wp2_with (go_at_call 137; refine (mayCount_any count _).mono ?_; rintro e w1 ⟨rfl, rfl⟩; rw [decide_eq_true h1])
      go_ret
      exact ⟨by simp; omega, rfl⟩
  · go_enter Tryz.func136, Tryz.ntmps136
    go_wp2_with (go_at_call 137; refine (mayCount_any count _).mono ?_; rintro e w1 ⟨rfl, rfl⟩; rw [decide_eq_false h1])
    go_ret
    exact ⟨by simp [h1], rfl⟩
theorem within_any (count a b : Int) (w : World) (hc : 0 ≤ count ∧ count ≤ 4096) (ha : -9223372036854775808 ≤ a ∧ a ≤ 9223372036854775807) :
    Calls Tryz.prog 156 #[.int .i64 count, .agg #[.int .i64 a, .int .i64 b]] w fun e w' => e = .returned (.bool (wnB count (a, b))) ∧ ∃ o, w' = w.alloc o := by
  by_cases h1 : 0 ≤ a
  · by_cases h2 : 1 ≤ b
    · go_enter Tryz.func156, Tryz.ntmps156
      go_wp2
      go_ret
      exact ⟨by simp [wnB, h1, h2], _, rfl⟩
    · go_enter Tryz.func156, Tryz.ntmps156
      go_wp2
      go_ret
      exact ⟨by rw [wnB_no (show ¬ Wn count (a, b) from fun h => by have := h.1; have := h.2.1; simp only at *; omega)]; rfl, _, rfl⟩
  · go_enter Tryz.func156, Tryz.ntmps156
    go_wp2
    go_ret
    exact ⟨by rw [wnB_no (show ¬ Wn count (a, b) from fun h => by have := h.1; have := h.2.1; simp only at *; omega)]; rfl, _, rfl⟩
end Go.Proofs.YtiakfdhbbkpfhaaGreatDoor.Rm
namespace Go.Proofs.YtiakfdhbbkpfhaaGreatDoor.Rm
open Go.RowKit Go.WideShapes

theorem grown_trans {a b c : World} {r : Option Nat} (h1 : a.grownBy b r) (h2 : b.grownBy c r) : a.grownBy c r :=
  ⟨h2.os.trans h1.os, h2.tape.trans h1.tape, h2.output.trans h1.output, Nat.le_trans h1.size h2.size, fun k hk hn => (h2.block k (Nat.lt_of_lt_of_le hk h1.size) hn).trans (h1.block k hk hn)⟩
theorem grown_drew (w : World) (n : Nat) (r : Option Nat) : w.grownBy (w.drewN n) r := ⟨rfl, rfl, rfl, Nat.le_refl _, fun _ _ _ => rfl⟩
theorem grown_set (w : World) (g i : Nat) (v : Value) : w.grownBy (w.setCell ⟨g, i, none⟩ v) (some g) :=
  ⟨rfl, rfl, rfl, by simp, fun k _ hn => heap_setCell_other w ⟨g, i, none⟩ k v (fun e => hn (by rw [e]))⟩
theorem grown_ad (w : World) (o o' : Obj) (n : Nat) (r : Option Nat) : w.grownBy (((w.alloc o).drewN n).alloc o') r :=
  grown_trans (grown_trans (World.grownBy_alloc w o r) (grown_drew _ n r)) (World.grownBy_alloc _ o' r)
theorem POwn.grown {w w' : World} {base : Nat} {v : Value} {l : Pcs} (h : POwn w base v l) (hg : w.grownBy w' none) : POwn w' base v l :=
  h.kept hg (by cases v.ownBlock <;> simp)
theorem two_one (a b : Int) : ∀ u ∈ [Value.int .i64 a, Value.int .i64 b], u.oneCell' = true := by
  intro u hu
  simp only [List.mem_cons, List.not_mem_nil, or_false] at hu
  rcases hu with rfl | rfl <;> rfl
theorem own_at {w : World} {base k : Nat} {v : Value} {l : Pcs} (hk : l.length = k) (h : POwn w base v l) : w.ownsRow base 53 2 v k (cellsQ l) := by
  subst hk; exact h
/-- A piece laid behind them. -/
theorem pown_push {w : World} {base k : Nat} {v : Value} {l : Pcs} {p : Int × Int} (hk : l.length = k) (h : w.ownsRow base 53 2 v (k + 1) (cellsQ l ++ [.int .i64 p.1, .int .i64 p.2])) : POwn w base v (l ++ [p]) := by
  subst hk
  unfold POwn
  rw [cellsQ_app, cellsQ_one, List.length_append]
  exact h
theorem far_of {H g : Nat} {v v' : Value} {w : World} (hv' : v'.ownBlock = some g) (hH : w.heap.size ≤ H) (h : v.ownBlock = some g ∨ g = H) : ∀ k, k < w.heap.size → some k ≠ v.ownBlock → some k ≠ v'.ownBlock := by
  intro k hk hne e
  rw [hv'] at e
  simp only [Option.some.injEq] at e
  subst e
  rcases h with h | h
  · exact hne h.symm
  · omega
theorem new_at (w : World) (o o' : Obj) (n : Nat) : (((w.alloc o).drewN n).alloc o').heap[w.heap.size + 1]? = some o' := by
  have := heap_alloc_new ((w.alloc o).drewN n) o'
  rwa [show ((w.alloc o).drewN n).heap.size = w.heap.size + 1 from by show (w.alloc o).heap.size = _; simp] at this
theorem pown_set {w : World} {base g n cap : Nat} {t : Pcs} {q : Int × Int} (x : Int) (hn : t.length = n) (h : POwn w base (.slice (some ⟨g, 0, none⟩) (n + 1) cap) (t ++ [q])) : POwn (w.setCell ⟨g, n * 2 + 1, none⟩ (.int .i64 x)) base (.slice (some ⟨g, 0, none⟩) (n + 1) cap) (t ++ [(q.1, x)]) := by
  subst hn
  refine ⟨by rw [cellsQ_len], ?_⟩
  rcases h.2 with ⟨hv, _⟩ | ⟨g', cap', cur, hv, hb, hg, h1, h2, h3, h4⟩
  · cases hv
  · simp only [Value.slice.injEq, Option.some.injEq, Addr.mk.injEq, and_true] at hv
    obtain ⟨rfl, _, rfl⟩ := hv
    simp only [List.length_append, List.length_singleton] at h1 h4
    refine .inr ⟨g, cap, _, by simp, hb, heap_setCell_same w g _ _ _ _ hg, by simpa using h1, h2, by simpa using h3, ?_⟩
    rw [Array.toList_setIfInBounds, List.length_append, List.length_singleton, List.take_set, h4, cellsQ_app, cellsQ_app, cellsQ_one, cellsQ_one, List.set_append_right _ _ (by rw [cellsQ_len]; omega), cellsQ_len, Nat.add_sub_cancel_left]
    rfl
def WithPost (base : Nat) (v : Value) (out : Pcs) (w : World) (e : Ending) (w' : World) : Prop :=
  ∃ v', e = .returned v' ∧ POwn w' base v' out ∧ w.grownBy w' v.ownBlock ∧ ∀ k, k < w.heap.size → some k ≠ v.ownBlock → some k ≠ v'.ownBlock
/-- The last piece of a row of them. -/
theorem POwn.last {w : World} {base : Nat} {v : Value} {t : Pcs} {q : Int × Int} (h : POwn w base v (t ++ [q])) : ∃ g cap cur, v = .slice (some ⟨g, 0, none⟩) (t.length + 1) cap ∧ base ≤ g ∧ g < w.heap.size ∧ w.heap[g]? = some (.cells cur 53 (0, 0)) ∧ t.length + 1 ≤ cap ∧ cap ≤ maxLen ∧ cur.size = cap * 2 ∧ cur.toList.take ((t.length + 1) * 2) = cellsQ t ++ [.int .i64 q.1, .int .i64 q.2] := by
  rcases h.2 with ⟨_, hn⟩ | ⟨g, cap, cur, hv, hb, hg, h1, h2, h3, h4⟩
  · simp at hn
  · simp only [List.length_append, List.length_singleton] at hv h1 h4
    rw [cellsQ_app, cellsQ_one] at h4
    exact ⟨g, cap, cur, hv, hb, lt_heap hg, hg, h1, h2, h3, h4⟩
theorem last_cells {w : World} {g n : Nat} {cur : Array Value} {t : Pcs} {q : Int × Int} {e : TypeId} (hn : t.length = n) (hg : w.heap[g]? = some (.cells cur e (0, 0))) (hs : (n + 1) * 2 ≤ cur.size) (h4 : cur.toList.take ((n + 1) * 2) = cellsQ t ++ [.int .i64 q.1, .int .i64 q.2]) :
    w.cell? ⟨g, n * 2, none⟩ = some (.int .i64 q.1) ∧ w.cell? ⟨g, n * 2 + 1, none⟩ = some (.int .i64 q.2) := by
  subst hn
  have key : ∀ j, j < (t.length + 1) * 2 → cur[j]? = (cellsQ t ++ [.int .i64 q.1, .int .i64 q.2])[j]? := by
    intro j hj
    rw [← h4, List.getElem?_take, if_pos hj]; simp
  have hl := cellsQ_len t
  constructor
  · rw [cell_of_row w g _ _ _ _ hg, key _ (by omega), List.getElem?_append_right (by omega), hl]; simp
  · rw [cell_of_row w g _ _ _ _ hg, key _ (by omega), List.getElem?_append_right (by omega), hl]; simp

set_option maxHeartbeats 2000000 in
theorem with_nil (base : Nat) (v : Value) (p : Int × Int) (w : World) (ho : POwn w base v []) (hbase : base ≤ w.heap.size) :
    Calls Tryz.prog 158 #[v, .agg #[.int .i64 p.1, .int .i64 p.2]] w (WithPost base v (withN [] p) w) := by
  obtain ⟨i0, hi, hz0, hz1, hz2⟩ := info_parts' info_piece
  obtain ⟨q, m, rfl, h1, h2, h3⟩ := ho.form
  have HO : Hid (POwn w base (.slice q 0 m) []) := ho
  clear ho h1 h2 h3
  go_enter Tryz.func158, Tryz.ntmps158
  go_wp2
  go_quiet (fail)
  go_wp2_with (at_builtin; refine wpList_append_lies _ rfl _ _ 49 rfl base 53 i0 _ 2 16 Tryz.underlying49 hi hz0 hz1 hz2 rfl (by omega) (.slice q 0 m) 0 (cellsQ []) rfl (own_at rfl (HO.out.grown (grown_ad w _ _ _ _))) ⟨w.heap.size + 1, 0, none⟩ 1 1 [.int .i64 p.1, .int .i64 p.2] rfl rfl (World.news_of_block (cs := #[.int .i64 p.1, .int .i64 p.2]) (new_at _ _ _ _)) (two_one _ _) (by omega) (by unfold maxLen; omega) (by omega) (by simp; omega) (w.heap.size + 2) (by simp) ?_)
  intro g1 cap1 w1 hown1 hgrow1 hat1 hlt1
  have R : Hid (POwn w1 base (.slice (some ⟨g1, 0, none⟩) (0 + 1) cap1) ([] ++ [p])) := pown_push rfl hown1
  have G : Hid (w.grownBy w1 (Value.ownBlock (.slice q 0 m))) := grown_trans (grown_ad w _ _ _ _) hgrow1
  have F : Hid (∀ k, k < w.heap.size → some k ≠ Value.ownBlock (.slice q 0 m) → some k ≠ Value.ownBlock (.slice (some ⟨g1, 0, none⟩) (0 + 1) cap1)) := far_of rfl (by omega) hat1
  clear hown1 hgrow1 hat1 hlt1 HO
  go_wp2
  go_ret
  exact ⟨_, rfl, R.out, G.out, F.out⟩

set_option maxHeartbeats 2000000 in
theorem with_apart (base : Nat) (v : Value) (t : Pcs) (q p : Int × Int) (w : World) (ho : POwn w base v (t ++ [q])) (hbase : base ≤ w.heap.size) (hn : t.length + 1 ≤ 4096) (hq : 0 ≤ q.1 ∧ 0 ≤ q.2 ∧ q.1 + q.2 ≤ 8192) (hne : q.1 + q.2 ≠ p.1) :
    Calls Tryz.prog 158 #[v, .agg #[.int .i64 p.1, .int .i64 p.2]] w (WithPost base v (withN (t ++ [q]) p) w) := by
  obtain ⟨i0, hi, hz0, hz1, hz2⟩ := info_parts' info_piece
  obtain ⟨g, cap, cur, rfl, hb, hgl, hg, h1, h2, h3, h4⟩ := ho.last
  obtain ⟨c0, c1⟩ := last_cells rfl hg (by omega) h4
  rw [withN_apart _ _ _ hne]
  have HK : Hid ((t ++ [q]).length = t.length + 1) := by show _ = _; simp
  generalize hnn : t.length = n at *
  have HO : Hid (POwn w base (.slice (some ⟨g, 0, none⟩) (n + 1) cap) (t ++ [q])) := ho
  have hc0 : (w.alloc (.cells #[.int .i64 p.1, .int .i64 p.2] 53)).cell? ⟨g, n * 2, none⟩ = some (.int .i64 q.1) := ((below_alloc w _).cell hgl).trans c0
  have hc1 : (w.alloc (.cells #[.int .i64 p.1, .int .i64 p.2] 53)).cell? ⟨g, n * 2 + 1, none⟩ = some (.int .i64 q.2) := ((below_alloc w _).cell hgl).trans c1
  obtain ⟨hp0, hp1⟩ := box2 (Below.refl (w.heap.size + 1) (w.alloc (.cells #[.int .i64 p.1, .int .i64 p.2] 53)))
  unfold maxLen at h2
  clear ho hg h3 h4 c0 c1 hnn hgl
  have hbe : (q.1 + q.2 == p.1) = false := by simpa using hne
  go_enter Tryz.func158, Tryz.ntmps158
  go_wp2
  go_quiet (fail)
  go_wp2_with (at_builtin; refine wpList_append_lies _ rfl _ _ 49 rfl base 53 i0 _ 2 16 Tryz.underlying49 hi hz0 hz1 hz2 rfl (by omega) (.slice (some ⟨g, 0, none⟩) (n + 1) cap) (n + 1) (cellsQ (t ++ [q])) rfl (own_at HK.out (HO.out.grown (grown_ad w _ _ _ _))) ⟨w.heap.size + 1, 0, none⟩ 1 1 [.int .i64 p.1, .int .i64 p.2] rfl rfl (World.news_of_block (cs := #[.int .i64 p.1, .int .i64 p.2]) (new_at _ _ _ _)) (two_one _ _) (by omega) (by unfold maxLen; omega) (by omega) (by simp; omega) (w.heap.size + 2) (by simp) ?_)
  intro g1 cap1 w1 hown1 hgrow1 hat1 hlt1
  have R : Hid (POwn w1 base (.slice (some ⟨g1, 0, none⟩) ((n + 1) + 1) cap1) ((t ++ [q]) ++ [p])) := pown_push HK.out hown1
  have G : Hid (w.grownBy w1 (Value.ownBlock (.slice (some ⟨g, 0, none⟩) (n + 1) cap))) := grown_trans (grown_ad w _ _ _ _) hgrow1
  have F : Hid (∀ k, k < w.heap.size → some k ≠ Value.ownBlock (.slice (some ⟨g, 0, none⟩) (n + 1) cap) → some k ≠ Value.ownBlock (.slice (some ⟨g1, 0, none⟩) ((n + 1) + 1) cap1)) := far_of rfl (by omega) hat1
  clear hown1 hgrow1 hat1 hlt1 HO
  go_wp2
  go_ret
  exact ⟨_, rfl, R.out, G.out, F.out⟩

set_option maxHeartbeats 2000000 in
theorem with_touch (base : Nat) (v : Value) (t : Pcs) (q p : Int × Int) (w : World) (ho : POwn w base v (t ++ [q])) (hn : t.length + 1 ≤ 4096) (hq : 0 ≤ q.1 ∧ 0 ≤ q.2 ∧ q.1 + q.2 ≤ 8192) (hp : 0 ≤ p.2 ∧ p.2 ≤ 8192) (hne : q.1 + q.2 = p.1) :
    Calls Tryz.prog 158 #[v, .agg #[.int .i64 p.1, .int .i64 p.2]] w (WithPost base v (withN (t ++ [q]) p) w) := by
  obtain ⟨g, cap, cur, rfl, hb, hgl, hg, h1, h2, h3, h4⟩ := ho.last
  obtain ⟨c0, c1⟩ := last_cells rfl hg (by omega) h4
  rw [withN_touch _ _ _ hne]
  generalize hnn : t.length = n at *
  have HO : Hid (POwn w base (.slice (some ⟨g, 0, none⟩) (n + 1) cap) (t ++ [q])) := ho
  have hc0 : (w.alloc (.cells #[.int .i64 p.1, .int .i64 p.2] 53)).cell? ⟨g, n * 2, none⟩ = some (.int .i64 q.1) := ((below_alloc w _).cell hgl).trans c0
  have hc1 : (w.alloc (.cells #[.int .i64 p.1, .int .i64 p.2] 53)).cell? ⟨g, n * 2 + 1, none⟩ = some (.int .i64 q.2) := ((below_alloc w _).cell hgl).trans c1
  have hf1 : (w.alloc (.cells #[.int .i64 p.1, .int .i64 p.2] 53)).frozen? ⟨g, n * 2 + 1, none⟩ = false := frozen_of_row _ _ _ _ _ (((below_alloc w _).block g hgl).trans hg)
  have HN : Hid (t.length = n) := hnn
  obtain ⟨hp0, hp1⟩ := box2 (Below.refl (w.heap.size + 1) (w.alloc (.cells #[.int .i64 p.1, .int .i64 p.2] 53)))
  unfold maxLen at h2
  have HGL : Hid (g < w.heap.size) := hgl
  clear ho hg h3 h4 c0 c1 hnn hgl
  have hbe : (q.1 + q.2 == p.1) = true := by simpa using hne
  clear hne
  go_enter Tryz.func158, Tryz.ntmps158
  go_wp2
  go_quiet (fail)
  go_wp2
  go_region
  have R : Hid (POwn (((w.alloc (.cells #[.int .i64 p.1, .int .i64 p.2] 53)).drewN (nq + 1)).setCell ⟨g, n * 2 + 1, none⟩ (.int .i64 (q.2 + p.2))) base (.slice (some ⟨g, 0, none⟩) (n + 1) cap) (t ++ [(q.1, q.2 + p.2)])) := pown_set _ HN.out (HO.out.grown (grown_trans (World.grownBy_alloc w _ _) (grown_drew _ _ _)))
  have G : Hid (w.grownBy (((w.alloc (.cells #[.int .i64 p.1, .int .i64 p.2] 53)).drewN (nq + 1)).setCell ⟨g, n * 2 + 1, none⟩ (.int .i64 (q.2 + p.2))) (some g)) := grown_trans (grown_trans (World.grownBy_alloc w _ _) (grown_drew _ _ _)) (grown_set _ _ _ _)
  clear HO hc0 hc1 hf1 hp0 hp1
  go_wp2
  go_ret
  exact ⟨_, rfl, R.out, G.out, fun k _ h => h⟩
/-- A piece put behind runs. -/
theorem with_any (base : Nat) (v : Value) (out : Pcs) (p : Int × Int) (w : World) (ho : POwn w base v out) (hbase : base ≤ w.heap.size) (hn : out.length ≤ 4096) (hq : ∀ q ∈ out, 0 ≤ q.1 ∧ 0 ≤ q.2 ∧ q.1 + q.2 ≤ 8192) (hp : 0 ≤ p.2 ∧ p.2 ≤ 8192) :
    Calls Tryz.prog 158 #[v, .agg #[.int .i64 p.1, .int .i64 p.2]] w (WithPost base v (withN out p) w) := by
  rcases nil_or_snoc out with rfl | ⟨t, q, rfl⟩
  · exact with_nil base v p w ho hbase
  · have hl : t.length + 1 ≤ 4096 := by simpa using hn
    by_cases e : q.1 + q.2 = p.1
    · exact with_touch base v t q p w ho hl (hq q (by simp)) hp e
    · exact with_apart base v t q p w ho hbase hl (hq q (by simp)) e

end Go.Proofs.YtiakfdhbbkpfhaaGreatDoor.Rm
