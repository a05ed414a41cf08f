/-
  A record laid down in sectors: frame and Frame.
-/
import Derived.Test.YtnajjfdbmdjcbaaJ01
import Derived.Lib.SmallJoins
import Derived.OpenShut
import Derived.Laws.AppendOwnNone
import Derived.Lib.AppendStr
import Derived.WalkKit
import Derived.WideShapes
import Derived.Deep.RegionHeld3
import Derived.Laws.CopyOwn
import Derived.BigQuiet
import Derived.Lib.BufferWrite
import Derived.Laws.MakeOwn
namespace Go.Proofs.Ytnajjfdbmdjcbaa
open Go.RowKit Go.WideShapes

theorem bin_lit (w : World) (g : Nat) (C : Array Value) (e : TypeId) (fr : Nat × Nat) (xs : List Nat) (hg : g = w.heap.size) (hC : C = (Bs xs).toArray) (hx : ∀ c ∈ xs, c < 256) : BIn (w.alloc (.cells C e fr)) (some ⟨g, 0, none⟩) xs := by
  subst hg hC
  refine ⟨fun _ => ⟨w.heap.size, 0, rfl, fun i hi => ?_⟩, hx⟩
  rw [cell_of_row (w.alloc (.cells (Bs xs).toArray e fr)) w.heap.size (0 + i) (Bs xs).toArray e fr (heap_alloc_new w _)]
  simp [Bs, List.getD, List.getElem?_eq_getElem hi]
theorem ret_true {p : Prop} [Decidable p] (h : p) : Ending.returned (.bool (decide p)) = .returned (.bool true) := by rw [decide_eq_true h]
theorem own_bin {w : World} {base : Nat} {p : Option Addr} {m c : Nat} {xs : List Nat} (h : w.ownsRow base 5 1 (.slice p m c) xs.length (Bs xs)) (hx : ∀ c ∈ xs, c < 256) : BIn w p xs ∧ m = xs.length := by
  rcases h.2 with ⟨hv, hn⟩ | ⟨g, cap, cur, hv, hb, hg, hle, hmax, hsz, htk⟩
  · simp at hv
    exact ⟨⟨fun h => by omega, hx⟩, by omega⟩
  · simp at hv
    obtain ⟨rfl, rfl, rfl⟩ := hv
    refine ⟨⟨fun _ => ⟨g, 0, rfl, fun i hi => ?_⟩, hx⟩, rfl⟩
    have := h.cells rfl i (.int .u8 (xs.getD i 0 : Nat)) (by simp [Bs, List.getD, List.getElem?_eq_getElem hi])
    rw [Go.WideShapes.add_plain] at this
    exact this

theorem own_at {w : World} {base : Nat} {p : Option Addr} {m c n : Nat} {xs : List Nat} (h : w.ownsRow base 5 1 (.slice p m c) n (Bs xs)) (hn : n = xs.length) (hx : ∀ c ∈ xs, c < 256) : BIn w p xs := by
  subst hn; exact (own_bin h hx).1

/-- What the walk is told of a slice of integers that came in: it is nil; or it leads to a row of 'cap' cells, the numbers 'zs' (the first 'len' are its elements, the rest its spare room), each fitting its kind. -/
def IsRow (k : IntKind) (w : World) (a : Option Addr) (len cap : Nat) (zs : List Int) : Prop :=
  (a = none ∧ len = 0 ∧ cap = 0 ∧ zs = []) ∨
  ∃ x, a = some x ∧ len ≤ cap ∧ cap ≤ maxLen ∧ zs.length = cap ∧ (∀ i, i < zs.length → w.cell? (x.add i) = some (.int k (zs.getD i 0))) ∧ ∀ n ∈ zs, (Lit.int k n).wf = true
theorem row_bin {w : World} {a : Option Addr} {len cap : Nat} {zs : List Int} (h : IsRow .u8 w a len cap zs) : ∃ xs : List Nat, len = xs.length ∧ BIn w a xs ∧ xs.length ≤ cap ∧ cap ≤ maxLen ∧ (a = none → cap = 0) := by
  rcases h with ⟨rfl, rfl, rfl, rfl⟩ | ⟨x, rfl, hl, hm, hz, hc, hw⟩
  · exact ⟨[], rfl, ⟨fun h => absurd h (by simp), by simp⟩, by simp, by unfold maxLen; omega, fun _ => rfl⟩
  · have hb : ∀ n ∈ zs, 0 ≤ n ∧ n ≤ 255 := fun n hn => bounds_u8 (hw n hn)
    refine ⟨(zs.take len).map Int.toNat, by simp; omega, ⟨fun hp => ?_, ?_⟩, by simp; omega, hm, by simp⟩
    · simp at hp
      obtain ⟨b, o, s⟩ := x
      obtain rfl : s = none := by simpa [Addr.add] using World.cell?_spot (hc 0 (by omega))
      refine ⟨b, o, rfl, fun i hi => ?_⟩
      simp at hi
      rw [← add_plain, hc i (by omega)]
      have hi' : i < zs.length := by omega
      have := hb _ (List.getElem_mem hi')
      simp [List.getD, List.getElem?_map, show i < len from by omega, List.getElem?_eq_getElem hi', Int.toNat_of_nonneg this.1]
    · intro c hc
      simp only [List.mem_map] at hc
      obtain ⟨n, hn, rfl⟩ := hc
      have := hb n (List.mem_of_mem_take hn)
      omega
/-- What is owned stays owned behind a call that writes nothing old. -/
theorem own_below {w w' : World} {base size n : Nat} {e : TypeId} {v : Value} {xs : List Value} (h : w.ownsRow base e size v n xs) (hb : Below w.heap.size w w') : w'.ownsRow base e size v n xs :=
  h.kept (row := none) ⟨hb.os, hb.tape, hb.output, hb.size, fun k hk _ => hb.block k hk⟩ (by cases v.ownBlock <;> simp)
theorem block_below {w w' : World} {g : Nat} {o : Obj} (h : w.heap[g]? = some o) (hb : Below w.heap.size w w') : w'.heap[g]? = some o := by
  have hg : g < w.heap.size := (Array.getElem?_eq_some_iff.1 h).1
  rw [hb.block g hg]; exact h
end Go.Proofs.Ytnajjfdbmdjcbaa
namespace Go.Proofs.Ytnajjfdbmdjcbaa
open Go.RowKit Go.WideShapes

theorem bin_cells {w : World} {b o : Nat} {ys : List Nat} (h : BIn w (some ⟨b, o, none⟩) ys) : ∀ j u, (Bs ys)[j]? = some u → w.cell? ((⟨b, o, none⟩ : Addr).add j) = some u := by
  intro j u hu
  have hj : j < ys.length := by
    rcases Nat.lt_or_ge j ys.length with h | h
    · exact h
    · simp [Bs, List.getElem?_eq_none h] at hu
  rw [add_plain, h.cell j hj]
  simp [Bs, List.getElem?_eq_getElem hj] at hu
  simp [List.getD, List.getElem?_eq_getElem hj, ← hu]
theorem Bs_one (ys : List Nat) : ∀ u ∈ Bs ys, u.oneCell' = true := by
  intro u hu
  simp only [Bs, List.mem_map] at hu
  obtain ⟨b, _, rfl⟩ := hu
  rfl

/-- Appending bytes, wherever they lie, to a row of one's own. -/
theorem run_append_bytes (w : World) (base : Nat) (ty : TypeId) (v : Value) (xs ys : List Nat) (p : Option Addr) (c : Nat) (hown : w.ownsRow base 5 1 v xs.length (Bs xs)) (hin : BIn w p ys) (hp : p = none → c = 0)
    (hlen : xs.length + ys.length ≤ 140737488355328) (hbase : base ≤ w.heap.size) :
    ∃ v' w', (Builtin.append_ #[22, 22] ty #[v, .slice p ys.length c]).run Try.prog w = .ok v' w' ∧ w'.ownsRow base 5 1 v' (xs ++ ys).length (Bs (xs ++ ys)) ∧ w.grownBy w' v.ownBlock := by
  obtain ⟨i0, hi, hz0, hz1, hz2⟩ := info_parts info5
  have hmax : xs.length + ys.length ≤ maxLen := by unfold maxLen; omega
  cases p with
  | none =>
    obtain rfl : ys = [] := by
      cases ys with
      | nil => rfl
      | cons y ys => obtain ⟨b, o, e, _⟩ := hin.1 (by simp); cases e
    obtain rfl := hp rfl
    exact ⟨v, w, run_append_owned_none (P := Try.prog) w base 22 ty 5 i0 1 Try.underlying22 hi v xs.length (Bs xs) hown, by simpa using hown, ⟨rfl, rfl, rfl, Nat.le_refl _, fun _ _ _ => rfl⟩⟩
  | some ad =>
    have hc : ∀ j u, (Bs ys)[j]? = some u → w.cell? (ad.add j) = some u := by
      intro j u hu
      have hpos : 0 < ys.length := by
        cases ys with
        | nil => simp [Bs] at hu
        | cons y ys => simp
      obtain ⟨b, o, e, _⟩ := hin.1 hpos
      simp at e
      subst e
      exact bin_cells hin j u hu
    obtain ⟨v', w', h1, h2, h3, _⟩ := run_append_own (P := Try.prog) w base 22 ty 5 i0 (.int .u8 0) 1 1 Try.underlying22 hi hz0 hz1 hz2 rfl (by decide) v xs.length (Bs xs) hown ad ys.length c (Bs ys) (by simp [Bs]) hc (Bs_one ys) hmax (by omega) hbase
    exact ⟨v', w', h1, by simpa [Bs_app] using h2, h3⟩
theorem wpList_append_bytes (w : World) {ops : Array Oper} {rest : List Oper} {o : Oper} {a : Act} {Q : Exit → Act → World → Prop} (hgd : o.guard = none) (s x : Operand)
    (ho : o.op = .call { callee := .builtin .append, args := #[s, x], argTypes := #[22, 22] }) (base : Nat) (v : Value) (xs ys : List Nat) (p : Option Addr) (m c : Nat) (hs : a.eval s = v) (hx : a.eval x = .slice p m c) (hm : m = ys.length)
    (hown : w.ownsRow base 5 1 v xs.length (Bs xs)) (hin : BIn w p ys) (hp : p = none → c = 0) (hlen : xs.length + ys.length ≤ 140737488355328) (hbase : base ≤ w.heap.size)
    (h : ∀ v' w', w'.ownsRow base 5 1 v' (xs ++ ys).length (Bs (xs ++ ys)) → w.grownBy w' v.ownBlock → wpList Try.prog ops Q rest (a.put o.dst v') w') : wpList Try.prog ops Q (o :: rest) a w := by
  subst hm
  refine wpList_plain hgd fun K hK => ?_
  obtain ⟨v', w', hr, h2, h3⟩ := run_append_bytes w base o.type v xs ys p c hown hin hp hlen hbase
  unfold Oper.wp execOp
  simp only [ho, resolve, invoke, builtin, Sem.run_bind, Sem.run_pure, Result.andThen_ok, List.map_toArray, List.map_cons, List.map_nil, hs, hx, hr]
  exact hK _ _ (h v' w' h2 h3)
/-- The same, of an operation whose guard says yes. -/
theorem wpList_append_bytes_on (w : World) {ops : Array Oper} {rest : List Oper} {o : Oper} {a : Act} {Q : Exit → Act → World → Prop} (hw : Region.wanted o (yielded ops a.tmps) = true) (s x : Operand)
    (ho : o.op = .call { callee := .builtin .append, args := #[s, x], argTypes := #[22, 22] }) (base : Nat) (v : Value) (xs ys : List Nat) (p : Option Addr) (m c : Nat) (hs : a.eval s = v) (hx : a.eval x = .slice p m c) (hm : m = ys.length)
    (hown : w.ownsRow base 5 1 v xs.length (Bs xs)) (hin : BIn w p ys) (hp : p = none → c = 0) (hlen : xs.length + ys.length ≤ 140737488355328) (hbase : base ≤ w.heap.size)
    (h : ∀ v' w', w'.ownsRow base 5 1 v' (xs ++ ys).length (Bs (xs ++ ys)) → w.grownBy w' v.ownBlock → wpList Try.prog ops Q rest (a.put o.dst v') w') : wpList Try.prog ops Q (o :: rest) a w := by
  subst hm
  refine wpList_step fun K hK => ?_
  rw [if_pos hw]
  obtain ⟨v', w', hr, h2, h3⟩ := run_append_bytes w base o.type v xs ys p c hown hin hp hlen hbase
  unfold Oper.wp execOp
  simp only [ho, resolve, invoke, builtin, Sem.run_bind, Sem.run_pure, Result.andThen_ok, List.map_toArray, List.map_cons, List.map_nil, hs, hx, hr]
  exact hK _ _ (h v' w' h2 h3)
theorem step_append_bytes {ops : Array Oper} {o : Oper} {a : Act} {w : World} {K : Act → World → Prop} {Q : Exit → Act → World → Prop} {E : Prop} (hgd : o.guard = none) (s x : Operand)
    (ho : o.op = .call { callee := .builtin .append, args := #[s, x], argTypes := #[22, 22] }) (base : Nat) (v : Value) (xs ys : List Nat) (p : Option Addr) (m c : Nat) (hs : a.eval s = v) (hx : a.eval x = .slice p m c) (hm : m = ys.length)
    (hown : w.ownsRow base 5 1 v xs.length (Bs xs)) (hin : BIn w p ys) (hp : p = none → c = 0) (hlen : xs.length + ys.length ≤ 140737488355328) (hbase : base ≤ w.heap.size)
    (h : ∀ v' w', w'.ownsRow base 5 1 v' (xs ++ ys).length (Bs (xs ++ ys)) → w.grownBy w' v.ownBlock → K (a.put o.dst v') w') : if Region.wanted o (yielded ops a.tmps) = true then Oper.wp Try.prog o a w K Q else E := by
  subst hm
  have hw : Region.wanted o (yielded ops a.tmps) = true := by simp [Region.wanted, hgd]
  rw [if_pos hw]
  obtain ⟨v', w', hr, h2, h3⟩ := run_append_bytes w base o.type v xs ys p c hown hin hp hlen hbase
  unfold Oper.wp execOp
  simp only [ho, resolve, invoke, builtin, Sem.run_bind, Sem.run_pure, Result.andThen_ok, List.map_toArray, List.map_cons, List.map_nil, hs, hx, hr]
  exact h v' w' h2 h3

/-- A string's bytes as numbers. -/
def numsOf (s : ByteArray) : List Nat := s.data.toList.map UInt8.toNat
theorem numsOf_len (s : ByteArray) : (numsOf s).length = s.size := by rw [numsOf, List.length_map, Array.length_toList]; rfl
theorem numsOf_lt (s : ByteArray) : ∀ c ∈ numsOf s, c < 256 := by
  intro c hc
  simp only [numsOf, List.mem_map] at hc
  obtain ⟨b, _, rfl⟩ := hc
  exact b.toNat_lt
theorem strCells_Bs (s : ByteArray) : Lib.strCells s = Bs (numsOf s) := by unfold Lib.strCells Bs numsOf; rw [List.map_map]; rfl
theorem strOf_nums (s : ByteArray) : strOf (numsOf s) = s := by
  apply bytes_inj
  rw [strOf_list, numsOf, List.map_map]
  conv => rhs; rw [← List.map_id s.data.toList]
  congr 1
  funext b
  simp
def textN (s : ByteArray) : List Nat := smallN s.size ++ numsOf s

end Go.Proofs.Ytnajjfdbmdjcbaa
namespace Go.Proofs.Ytnajjfdbmdjcbaa
open Go.RowKit Go.WideShapes


/-- The lowest k bytes of a number. -/
def putK : Nat → Nat → List Nat
  | 0, _ => []
  | k + 1, m => (m % 256) :: putK k (m / 256)
theorem putK_8 (n : Nat) (h : n < 18446744073709551616) : putK 8 n = putN n := by
  simp only [putK, putN, Nat.div_div_eq_div_mul, Nat.reduceMul]
  have : n / 72057594037927936 % 256 = n / 72057594037927936 := by omega
  rw [this]
theorem putK_step (k m : Nat) (h : k < 8) : putK (8 - k) m = (m % 256) :: putK (8 - (k + 1)) (m / 256) := by
  rw [show 8 - k = (8 - (k + 1)) + 1 from by omega]; rfl

set_option maxHeartbeats 400000 in
set_option maxRecDepth 100000 in
theorem refPut_any (n : Nat) (w : World) (hn : n < 18446744073709551616) :
    Calls Try.prog 58 #[.int .u64 n] w fun e w' => ∃ v, e = .returned v ∧ w'.ownsRow w.heap.size 5 1 v 8 (Bs (putN n)) ∧ Below w.heap.size w w' := by
  obtain ⟨i0, hi, hz0, hz1, hz2⟩ := info_parts info5
  have HP : Hid (putK 8 n = putN n) := putK_8 n hn
  go_enter Try.func58, Try.ntmps58
  go_wp2
  go_loopw [0, 3, 4] (fun t v i wr => ∃ k m : Nat, ∃ xs : List Nat, k ≤ 8 ∧ m < 18446744073709551616 ∧ t = .int .u64 m ∧ i = .int .i64 k ∧ xs.length = k ∧ putN n = xs ++ putK (8 - k) m ∧ wr.ownsRow w.heap.size 5 1 v xs.length (Bs xs) ∧ Below w.heap.size w wr)
    (fun _ _ i _ => 8 - (intOf i).toNat)
  case atStart => exact ⟨0, n, [], by omega, hn, rfl, rfl, rfl, HP.out.symm, World.ownsRow_nil _ _ _ _, Below.refl _ _⟩
  case round =>
    obtain ⟨k, m, xs, hk, hm, rfl, rfl, hxk, hsm, hown, hnx⟩ := hrel
    have HS : Hid _ := hsm
    have HX : Hid (xs.length = k) := hxk
    have hxl : xs.length ≤ 8 := by omega
    clear hsm hxk
    have hsz := hnx.size
    by_cases hlt : k < 8
    · have HK : Hid _ := putK_step k m hlt
      go_wp2_with (at_builtin; refine wpList_append_own _ rfl _ _ 22 rfl w.heap.size 5 i0 (.int .u8 0) 1 1 Try.underlying22 hi hz0 hz1 hz2 rfl (by decide) _ _ _ rfl (hown.alloc _) ⟨wr.heap.size, 0, none⟩ 1 1 [.int .u8 ((m : Int) % 256)] rfl rfl (cell_one_new _ _ _) ?d2 ?d3 ?d4 ?d5 ?_)
      case d2 => intro u hu; simp at hu; subst hu; rfl
      case d3 => unfold maxLen; omega
      case d4 => omega
      case d5 => simp; omega
      intro v' w1 hown' hgrow _
      have R := rel_push (c := m % 256) (by omega) hown hnx hsz hown' hgrow
      have e : Hid (putN n = (xs ++ [m % 256]) ++ putK (8 - (k + 1)) (m / 256)) := by show _ = _; rw [HS.out, HK.out]; simp
      clear hown' hgrow hown
      go_wp2
      go_roundw
      case rel => exact ⟨k + 1, m / 256, xs ++ [m % 256], by omega, by omega, by go_num, by go_num, by simp [HX.out], e.out, R.1, R.2⟩
      case measure => simp [intOf]; omega
    · have e : putN n = xs ∧ xs.length = 8 := by
        have h8 : k = 8 := by omega
        refine ⟨?_, by rw [HX.out, h8]⟩
        rw [HS.out, h8]; simp [putK]
      rw [e.2, ← e.1] at hown
      clear e
      have HO : Hid _ := hown
      clear hown
      go_wp2
      go_ret
      exact ⟨_, rfl, HO.out, hnx⟩

set_option maxHeartbeats 400000 in
theorem refGet_bad (p : Option Addr) (n c : Nat) (w : World) (hn : n ≠ 8) :
    Calls Try.prog 68 #[.slice p n c] w fun e w' => e = .returned (.tuple #[.int .u64 0, .int .i64 8]) ∧ w' = w := by
  go_enter Try.func68, Try.ntmps68
  go_wp2
  go_ret2
  exact ⟨rfl, rfl⟩
theorem ret_two {a b : Int} {k1 k2 : IntKind} {c : Int} (h : a = b) : Ending.returned (.tuple #[.int k1 a, .int k2 c]) = .returned (.tuple #[.int k1 b, .int k2 c]) := by rw [h]
set_option maxHeartbeats 1000000 in
theorem refGet_ok (p : Option Addr) (c : Nat) (a0 a1 a2 a3 a4 a5 a6 a7 : Nat) (w : World) (hb : BIn w p [a0, a1, a2, a3, a4, a5, a6, a7]) :
    Calls Try.prog 68 #[.slice p 8 c] w fun e w' => e = .returned (.tuple #[.int .u64 (joinN a0 a1 a2 a3 a4 a5 a6 a7 : Nat), .int .i64 0]) ∧ w' = w := by
  obtain ⟨b, o, rfl, hc⟩ := hb.1 (by simp)
  have c0 : w.cell? ⟨b, o, none⟩ = some (.int .u8 a0) := hc 0 (by simp)
  have c1 : w.cell? ⟨b, o + 1, none⟩ = some (.int .u8 a1) := hc 1 (by simp)
  have c2 : w.cell? ⟨b, o + 2, none⟩ = some (.int .u8 a2) := hc 2 (by simp)
  have c3 : w.cell? ⟨b, o + 3, none⟩ = some (.int .u8 a3) := hc 3 (by simp)
  have c4 : w.cell? ⟨b, o + 4, none⟩ = some (.int .u8 a4) := hc 4 (by simp)
  have c5 : w.cell? ⟨b, o + 5, none⟩ = some (.int .u8 a5) := hc 5 (by simp)
  have c6 : w.cell? ⟨b, o + 6, none⟩ = some (.int .u8 a6) := hc 6 (by simp)
  have c7 : w.cell? ⟨b, o + 7, none⟩ = some (.int .u8 a7) := hc 7 (by simp)
  have hl := hb.2
  simp only [List.mem_cons, List.not_mem_nil, or_false, forall_eq_or_imp, forall_eq] at hl
  obtain ⟨l0, l1, l2, l3, l4, l5, l6, l7⟩ := hl
  clear hb hc
  go_enter Try.func68, Try.ntmps68
  go_wp2
  refine wp_loop_rounds 9 ?_
  iterate 9 (rw [rounds_succ]; go_wp2)
  go_ret2
  refine ⟨ret_two ?_, rfl⟩
  unfold joinN; omega
end Go.Proofs.Ytnajjfdbmdjcbaa
namespace Go.Proofs.Ytnajjfdbmdjcbaa
open Go.RowKit Go.WideShapes

section
variable {P : Program} {ops : Array Oper} {Q : Exit → Act → World → Prop} {md : Region.Mode} {S : World → Prop}

theorem takeH (i d : Nat) {oi : Oper} {v : Value} {fuel : Nat} {listed : Array Bool} {a : Act} {w : World} (hi : ops[i]? = some oi) (hd : oi.dst = some d)
    (hs : Region.noSelect ops = true) (hf : Region.free md ops listed i = true) (hr : (Region.ready md ops listed).contains i = true)
    (hQ : ∀ c a w, Q (.panic c) (a.put oi.dst v) w → Q (.panic c) a w) (hw : Region.wanted oi (yielded ops a.tmps) = true) (hy : ∀ w, S w → (execOp a.eval oi).run P w = .ok (.value v) w) (hS : S w)
    (h : wpAnyH P md ops Q S fuel (listed.setIfInBounds i true) (a.put (some d) v) w) : wpAnyH P md ops Q S (fuel + 1) listed a w :=
  wpAnyH_take hi hs hf hr hQ (Or.inl ⟨hw, hy⟩) hS (by rw [hd]; exact h)
theorem skipH (i d : Nat) {oi : Oper} {fuel : Nat} {listed : Array Bool} {a : Act} {w : World} (hi : ops[i]? = some oi) (hd : oi.dst = some d)
    (hs : Region.noSelect ops = true) (hf : Region.free md ops listed i = true) (hr : (Region.ready md ops listed).contains i = true)
    (hQ : ∀ c a w, Q (.panic c) (a.put oi.dst undef) w → Q (.panic c) a w) (hw : Region.wanted oi (yielded ops a.tmps) = false) (hS : S w)
    (h : wpAnyH P md ops Q S fuel (listed.setIfInBounds i true) (a.put (some d) undef) w) : wpAnyH P md ops Q S (fuel + 1) listed a w :=
  wpAnyH_take hi hs hf hr hQ (Or.inr ⟨hw, rfl⟩) hS (by rw [hd]; exact h)
end
end Go.Proofs.Ytnajjfdbmdjcbaa
namespace Go.Proofs.Ytnajjfdbmdjcbaa
open Go.RowKit Go.WideShapes

theorem below_alloc (w : World) (o : Obj) : Below w.heap.size w (w.alloc o) := (Below.refl _ _).alloc (Nat.le_refl _) o
theorem lt_heap {w : World} {b : Nat} {o : Obj} (h : w.heap[b]? = some o) : b < w.heap.size := (Array.getElem?_eq_some_iff.1 h).1
theorem below_bt {a b c : World} (h1 : Below a.heap.size a b) (h2 : Below b.heap.size b c) : Below a.heap.size a c := h1.trans (h2.mono h1.size)
abbrev Box := Nat × Array Value × TypeId
structure St (w : World) (bx : List Box) (wc : World) (v : Value) (xs : List Nat) : Prop where
  own : wc.ownsRow w.heap.size 5 1 v xs.length (Bs xs)
  bel : Below w.heap.size w wc
  box : ∀ p ∈ bx, wc.heap[p.1]? = some (.cells p.2.1 p.2.2 (0, 0)) ∧ p.2.2 ≠ 5
theorem own_form {w : World} {base n : Nat} {e : TypeId} {s : Nat} {v : Value} {xs : List Value} (h : w.ownsRow base e s v n xs) : ∃ q m, v = .slice q n m ∧ n ≤ m ∧ m ≤ maxLen ∧ (q = none → m = 0) := by
  rcases h.2 with ⟨hv, hn⟩ | ⟨g, cap, cur, hv, _, _, h1, h2, _⟩
  · exact ⟨none, 0, by rw [hv, hn], by omega, by unfold maxLen; omega, fun _ => rfl⟩
  · exact ⟨_, cap, hv, h1, h2, fun h => by cases h⟩
theorem blk_grown {w w' : World} {base n : Nat} {v : Value} {xs : List Value} (h : w.ownsRow base 5 1 v n xs) (hg : w.grownBy w' v.ownBlock) {B : Nat} {C : Array Value} {t : TypeId} {fr : Nat × Nat} (hB : w.heap[B]? = some (.cells C t fr)) (ht : t ≠ 5) : w'.heap[B]? = some (.cells C t fr) := by
  rw [hg.block B (lt_heap hB) ?_]
  · exact hB
  · intro e
    rcases h.2 with ⟨hv, _⟩ | ⟨g, cap, cur, hv, _, hgg, _⟩
    · rw [hv] at e; cases e
    · rw [hv] at e
      simp only [Value.ownBlock, Option.some.injEq] at e
      subst e
      rw [hB] at hgg
      simp only [Option.some.injEq, Obj.cells.injEq] at hgg
      exact ht hgg.2.1
theorem St.start {w : World} {bx : List Box} (hb : ∀ p ∈ bx, w.heap[p.1]? = some (.cells p.2.1 p.2.2 (0, 0)) ∧ p.2.2 ≠ 5) : St w bx w (.slice none 0 0) [] := ⟨World.ownsRow_nil _ _ _ _, Below.refl _ _, hb⟩
theorem St.call {w : World} {bx : List Box} {wc w1 : World} {v : Value} {xs : List Nat} (h : St w bx wc v xs) (hb : Below wc.heap.size wc w1) : St w bx w1 v xs :=
  ⟨own_below h.own hb, h.bel.trans (hb.mono h.bel.size), fun p hp => ⟨(hb.block _ (lt_heap (h.box p hp).1)).trans (h.box p hp).1, (h.box p hp).2⟩⟩
theorem St.app {w : World} {bx : List Box} {wc w2 : World} {v v2 : Value} {xs ys : List Nat} (h : St w bx wc v xs) (ho : w2.ownsRow w.heap.size 5 1 v2 (xs ++ ys).length (Bs (xs ++ ys))) (hg : wc.grownBy w2 v.ownBlock) : St w bx w2 v2 (xs ++ ys) :=
  ⟨ho, h.bel.grown hg h.bel.size (fun k hk => (h.own.lt k hk).1), fun p hp => ⟨blk_grown h.own hg (h.box p hp).1 (h.box p hp).2, (h.box p hp).2⟩⟩
theorem St.alloc {w : World} {bx : List Box} {wc : World} {v : Value} {xs : List Nat} (h : St w bx wc v xs) (C : Array Value) (t : TypeId) (ht : t ≠ 5) : St w ((wc.heap.size, C, t) :: bx) (wc.alloc (.cells C t)) v xs := by
  have h1 := h.call (below_alloc wc (.cells C t))
  refine ⟨h1.own, h1.bel, fun p hp => ?_⟩
  rcases List.mem_cons.1 hp with rfl | hp
  · exact ⟨heap_alloc_new wc _, ht⟩
  · exact h1.box p hp
theorem St.drop {w : World} {b : Box} {bx : List Box} {wc : World} {v : Value} {xs : List Nat} (h : St w (b :: bx) wc v xs) : St w bx wc v xs := ⟨h.own, h.bel, fun p hp => h.box p (by simp [hp])⟩
theorem St.eq {w : World} {bx : List Box} {wc : World} {v : Value} {xs ys : List Nat} (h : St w bx wc v xs) (e : xs = ys) : St w bx wc v ys := e ▸ h
theorem St.cell {w : World} {bx : List Box} {wc : World} {v : Value} {xs : List Nat} (h : St w bx wc v xs) {B : Nat} {C : Array Value} {t : TypeId} (hm : (B, C, t) ∈ bx) (i : Nat) : wc.cell? ⟨B, i, none⟩ = C[i]? := cell_of_row wc B i C t (0, 0) (h.box _ hm).1
theorem St.size {w : World} {bx : List Box} {wc : World} {v : Value} {xs : List Nat} (h : St w bx wc v xs) : w.heap.size ≤ wc.heap.size := h.bel.size
theorem own_in {w : World} {base : Nat} {p : Option Addr} {m c : Nat} {xs : List Nat} (h : w.ownsRow base 5 1 (.slice p m c) xs.length (Bs xs)) (hx : ∀ c ∈ xs, c < 256) : BIn w p xs := (own_bin h hx).1
theorem BIn.take' {w : World} {p : Option Addr} {xs : List Nat} (h : BIn w p xs) (k : Nat) : BIn w p (xs.take k) := by
  refine ⟨fun h0 => ?_, fun c hc => h.2 c (List.mem_of_mem_take hc)⟩
  have hl : 0 < xs.length := by rw [List.length_take] at h0; omega
  obtain ⟨b, o, hp, hcell⟩ := h.1 hl
  refine ⟨b, o, hp, fun i hi => ?_⟩
  rw [List.length_take] at hi
  rw [hcell i (by omega)]
  simp [List.getD, show i < k by omega]
theorem BIn.drop' {w : World} {b o : Nat} {xs : List Nat} (h : BIn w (some ⟨b, o, none⟩) xs) (k : Nat) : BIn w (some ⟨b, o + k, none⟩) (xs.drop k) := by
  refine ⟨fun h0 => ?_, fun c hc => h.2 c (List.mem_of_mem_drop hc)⟩
  rw [List.length_drop] at h0
  refine ⟨b, o + k, rfl, fun i hi => ?_⟩
  rw [List.length_drop] at hi
  have := h.cell (i := k + i) (by omega)
  rw [show o + k + i = o + (k + i) by omega, this]
  simp [List.getD, List.getElem?_drop]
theorem BIn.addr {w : World} {p : Option Addr} {xs : List Nat} (h : BIn w p xs) (h0 : 0 < xs.length) : ∃ b o, p = some ⟨b, o, none⟩ := by
  obtain ⟨b, o, hp, _⟩ := h.1 h0
  exact ⟨b, o, hp⟩
theorem results_cell1 {fn : Func} {p : Tmp} {ty : TypeId} (h : fn.results = #[.cell p ty]) (tmps : Array Value) (P : Program) (w : World) :
    (results fn tmps).run P w = ((asAddr (tmps.getD p undef)).run P w).andThen fun a w₁ => (loadVar ty a).run P w₁ := by
  simp only [results, h]
  simp [Sem.run_bind, Result.andThen]
theorem size5 : (Try.prog.info? 5).map (·.size) = some 1 := by kernel_rfl
theorem bin_row {w : World} {g : Nat} {t : TypeId} {fr : Nat × Nat} {ys : List Nat} (h : w.heap[g]? = some (.cells (Bs ys).toArray t fr)) (hy : ∀ c ∈ ys, c < 256) : BIn w (some ⟨g, 0, none⟩) ys := by
  refine ⟨fun _ => ⟨g, 0, rfl, fun i hi => ?_⟩, hy⟩
  rw [cell_of_row w g (0 + i) _ t fr h]
  simp [Bs, List.getD, hi]
theorem Bs_splice (L : List Nat) (k : Nat) (xs : List Nat) : splice (Bs L) k (Bs xs) = Bs (L.take k ++ (xs ++ L.drop (k + xs.length))) := by simp [splice, Bs]
end Go.Proofs.Ytnajjfdbmdjcbaa
namespace Go.Proofs.Ytnajjfdbmdjcbaa
open Go.RowKit Go.WideShapes

theorem ret_int {k : IntKind} {a b : Int} (h : a = b) : Ending.returned (.int k a) = .returned (.int k b) := by rw [h]
def z8 : List Nat := [0, 0, 0, 0, 0, 0, 0, 0]
theorem join8 (a b c d : Nat) : joinN a b c d 0 0 0 0 = join4 a b c d := by unfold joinN join4; omega
set_option maxRecDepth 8000 in
set_option maxHeartbeats 1000000 in
theorem four_any (p : Option Addr) (xs : List Nat) (n c : Nat) (w : World) (hn : n = xs.length) (h4 : 4 ≤ xs.length) (hb : BIn w p xs) :
    Calls Try.prog 74 #[.slice p n c] w fun e w' => e = .returned (.int .u32 (numAt xs 0 : Nat)) ∧ Below w.heap.size w w' := by
  have h4' : 4 ≤ n := by omega
  obtain ⟨a0, a1, a2, a3, ys, rfl⟩ : ∃ a0 a1 a2 a3 ys, xs = a0 :: a1 :: a2 :: a3 :: ys := by
    match xs, h4 with
    | a0 :: a1 :: a2 :: a3 :: ys, _ => exact ⟨a0, a1, a2, a3, ys, rfl⟩
  have hlt : Hid (numAt (a0 :: a1 :: a2 :: a3 :: ys) 0 < 4294967296) := numAt_lt hb.2 0
  have e1 : joinN a0 a1 a2 a3 0 0 0 0 = numAt (a0 :: a1 :: a2 :: a3 :: ys) 0 := join8 _ _ _ _
  have hbb := hb.2
  obtain ⟨b, o, rfl, _⟩ := hb.1 (by simp)
  have h0 : (Bs z8).toArray = #[.int .u8 0, .int .u8 0, .int .u8 0, .int .u8 0, .int .u8 0, .int .u8 0, .int .u8 0, .int .u8 0] := rfl
  have hsrc : Hid (∀ j v, (Bs [a0, a1, a2, a3])[j]? = some v → (w.alloc (.cells #[.int .u8 0, .int .u8 0, .int .u8 0, .int .u8 0, .int .u8 0, .int .u8 0, .int .u8 0, .int .u8 0] 118)).cell? ((⟨b, o, none⟩ : Addr).add j) = some v) := bin_cells ((hb.alloc _).take' 4)
  have HR : Hid ((w.alloc (.cells #[.int .u8 0, .int .u8 0, .int .u8 0, .int .u8 0, .int .u8 0, .int .u8 0, .int .u8 0, .int .u8 0] 118)).heap[w.heap.size]? = some (.cells (Bs z8).toArray 118 (0, 0))) := by show _ = _; rw [h0]; exact heap_alloc_new _ _
  have HL : Hid ((Bs [a0, a1, a2, a3]).length = Nat.min n 4) := by show _ = _; rw [Bs_len]; exact (Nat.min_eq_right h4').symm
  have HF : Hid (0 + (Bs [a0, a1, a2, a3]).length ≤ (Bs z8).length) := by show _ ≤ _; simp [Bs, z8]
  have hb1 : Hid (Below w.heap.size w (w.alloc (.cells #[.int .u8 0, .int .u8 0, .int .u8 0, .int .u8 0, .int .u8 0, .int .u8 0, .int .u8 0, .int .u8 0] 118))) := below_alloc _ _
  obtain ⟨cs, HC⟩ : ∃ cs, Hid (cs = Bs [a0, a1, a2, a3]) := ⟨_, rfl⟩
  rw [← HC.out] at hsrc HL HF
  have HO : Hid (∀ v ∈ cs, v.oneCell' = true) := by show ∀ v ∈ cs, _; rw [HC.out]; exact Bs_one _
  have HN : Hid (n = (a0 :: a1 :: a2 :: a3 :: ys).length) := hn
  clear hb hn h4 h4'
  go_enter Try.func74, Try.ntmps74
  go_wp2_with (refine wpList_copy_splice (o := ⟨some 8, _, _, _, _, _⟩) rfl (.tmp 6) (.tmp 7) 22 22 rfl 5 Try.underlying22 size5 (some ⟨w.heap.size, 0, none⟩) (some ⟨b, o, none⟩) 4 8 n c rfl rfl w.heap.size 0 (Bs z8) 118 HR.out cs HL.out (fun _ => ⟨rfl, _, rfl, hsrc.out⟩) HF.out HO.out w.heap.size w hb1.out (Nat.le_refl _) ?_)
  intro w2 hrow2 hb2
  have hr2 : w2.heap[w.heap.size]? = some (.cells (Bs [a0, a1, a2, a3, 0, 0, 0, 0]).toArray 118 (0, 0)) := by rw [hrow2.out, HC.out, Bs_splice]; rfl
  have hB : Hid (BIn w2 (some ⟨w.heap.size, 0, none⟩) [a0, a1, a2, a3, 0, 0, 0, 0]) := bin_row hr2 (by
    intro c hc
    have : c ∈ [a0, a1, a2, a3] ∨ c = 0 := by simp only [List.mem_cons, List.not_mem_nil, or_false] at hc ⊢; omega
    rcases this with h | rfl
    · exact hbb c (List.mem_append_left ys h)
    · omega)
  have hsz := hb2.size
  have HB2 : Hid (Below w.heap.size w w2) := hb2
  clear hr2 hrow2 HR HL HF hsrc hb1 h0 hb2 hbb HC HO
  go_wp2_with (go_at_call 71; refine (get_ok _ _ a0 a1 a2 a3 0 0 0 0 _ hB.out).mono ?_; rintro e w3 ⟨rfl, hb3⟩)
  go_ret
  refine ⟨?_, HB2.out.trans (hb3.mono hsz)⟩
  have hlt := hlt.out
  exact ret_int (by omega)
def markV (e s p i n k : Nat) : Value := .agg #[.int .u32 e, .int .u32 s, .int .u32 p, .int .i64 i, .int .i64 n, .int .i64 k]
def markOfN (xs : List Nat) : Value := markV (numAt xs 0) (numAt xs 4) (numAt xs 8) (xs.getD 12 0) (xs.getD 13 0) (sizeOf2 xs)
theorem numAt_drop (xs : List Nat) (k : Nat) : numAt (xs.drop k) 0 = numAt xs k := by simp [numAt, List.getD]
theorem wrap_small {a : Nat} (h : a < 65536) : IntKind.i64.wrap (a : Int) = a := by rw [IntKind.wrap_i64]; omega
theorem or8 (a b : Nat) (ha : a < 256) (hb : b < 256) : bits BinOp.or IntKind.i64 (a : Int) (256 * (b : Int)) = (a : Int) + 256 * (b : Int) := by
  have e : (256 * (b : Int)) = ((256 * b : Nat) : Int) := by omega
  rw [e]
  show IntKind.i64.wrap ((BitVec.ofInt 64 (a : Int) ||| BitVec.ofInt 64 ((256 * b : Nat) : Int)).toNat : Int) = _
  have h1 : (BitVec.ofInt 64 (a : Int)).toNat = a := by rw [BitVec.toNat_ofInt]; omega
  have h2 : (BitVec.ofInt 64 ((256 * b : Nat) : Int)).toNat = 256 * b := by rw [BitVec.toNat_ofInt]; omega
  have h3 : a ||| 256 * b = 256 * b + a := by rw [Nat.or_comm]; exact (Nat.two_pow_add_eq_or_of_lt (i := 8) (by omega) b).symm
  rw [BitVec.toNat_or, h1, h2, h3, IntKind.wrap_i64]
  omega
abbrev MC (w' : World) (b o a12 a13 a14 a15 : Nat) : Prop := w'.cell? ⟨b, o + 12, none⟩ = some (.int .u8 (a12 : Nat)) ∧ w'.cell? ⟨b, o + 13, none⟩ = some (.int .u8 (a13 : Nat)) ∧ w'.cell? ⟨b, o + 14, none⟩ = some (.int .u8 (a14 : Nat)) ∧ w'.cell? ⟨b, o + 15, none⟩ = some (.int .u8 (a15 : Nat))
def cellAt (w : World) (a : Addr) : Value := (w.cell? a).getD undef
abbrev MT (w' : World) (g : Nat) : Prop := (w'.cell? ⟨g, 0, none⟩ = some (cellAt w' ⟨g, 0, none⟩) ∧ w'.frozen? ⟨g, 0, none⟩ = false) ∧ (w'.cell? ⟨g, 1, none⟩ = some (cellAt w' ⟨g, 1, none⟩) ∧ w'.frozen? ⟨g, 1, none⟩ = false) ∧ (w'.cell? ⟨g, 2, none⟩ = some (cellAt w' ⟨g, 2, none⟩) ∧ w'.frozen? ⟨g, 2, none⟩ = false) ∧ (w'.cell? ⟨g, 3, none⟩ = some (cellAt w' ⟨g, 3, none⟩) ∧ w'.frozen? ⟨g, 3, none⟩ = false) ∧ (w'.cell? ⟨g, 4, none⟩ = some (cellAt w' ⟨g, 4, none⟩) ∧ w'.frozen? ⟨g, 4, none⟩ = false) ∧ (w'.cell? ⟨g, 5, none⟩ = some (cellAt w' ⟨g, 5, none⟩) ∧ w'.frozen? ⟨g, 5, none⟩ = false)
theorem mt_box {w' : World} {g : Nat} {C : Array Value} {t : TypeId} (h : w'.heap[g]? = some (.cells C t (0, 0))) (hC : C.size = 6) : MT w' g := by
  have hc : ∀ i, i < 6 → w'.cell? ⟨g, i, none⟩ = some (cellAt w' ⟨g, i, none⟩) ∧ w'.frozen? ⟨g, i, none⟩ = false := by
    intro i hi
    refine ⟨?_, ?_⟩
    · have e := cell_of_row w' g i C t (0, 0) h
      rw [Array.getElem?_eq_getElem (by omega)] at e
      unfold cellAt; rw [e]; rfl
    · simp [World.frozen?, h]
  exact ⟨hc 0 (by omega), hc 1 (by omega), hc 2 (by omega), hc 3 (by omega), hc 4 (by omega), hc 5 (by omega)⟩
theorem mt_below {w' w1 : World} {g : Nat} (h : MT w' g) (hb : Below w'.heap.size w' w1) : MT w1 g := by
  have hg : g < w'.heap.size := by
    exact World.block_lt_of_cell? _ _ h.1.1
  have e := hb.block g hg
  unfold MT cellAt World.cell? World.frozen? at *
  simp only [e]
  exact h
theorem mt_set {w' : World} {g : Nat} (h : MT w' g) (i : Nat) (v : Value) : MT (w'.setCell ⟨g, i, none⟩ v) g := by
  have key : ∀ j, w'.cell? ⟨g, j, none⟩ = some (cellAt w' ⟨g, j, none⟩) ∧ w'.frozen? ⟨g, j, none⟩ = false → (w'.setCell ⟨g, i, none⟩ v).cell? ⟨g, j, none⟩ = some (cellAt (w'.setCell ⟨g, i, none⟩ v) ⟨g, j, none⟩) ∧ (w'.setCell ⟨g, i, none⟩ v).frozen? ⟨g, j, none⟩ = false := by
    intro j ⟨h1, h2⟩
    refine ⟨?_, ?_⟩
    · have : ∃ u, (w'.setCell ⟨g, i, none⟩ v).cell? ⟨g, j, none⟩ = some u := by
        by_cases hij : i = j
        · subst hij; exact ⟨v, World.cell?_setCell_same w' _ v h1⟩
        · exact ⟨_, (World.cell?_setCell_other w' _ _ v (by simp)).trans h1⟩
      obtain ⟨u, hu⟩ := this
      unfold cellAt; rw [hu]; rfl
    · have := World.frozen?_setCells g [v] i w' ⟨g, j, none⟩
      simpa [World.setCells] using this.trans h2
  exact ⟨key 0 h.1, key 1 h.2.1, key 2 h.2.2.1, key 3 h.2.2.2.1, key 4 h.2.2.2.2.1, key 5 h.2.2.2.2.2⟩
def B4 (xs : List Nat) (a12 a13 a14 a15 : Nat) : Prop := xs.getD 12 0 = a12 ∧ xs.getD 13 0 = a13 ∧ xs.getD 14 0 = a14 ∧ xs.getD 15 0 = a15
theorem ms_of {w w' : World} {b o a12 a13 a14 a15 : Nat} {xs : List Nat} (h4 : B4 xs a12 a13 a14 a15) (hb : BIn w (some ⟨b, o, none⟩) xs) (h : 16 ≤ xs.length) (hw : Below w.heap.size w w') (ht : MT w' w.heap.size) : MC w' b o a12 a13 a14 a15 ∧ Below w.heap.size w w' ∧ MT w' w.heap.size := by
  have hb' := hb.below hw
  obtain ⟨rfl, rfl, rfl, rfl⟩ := h4
  exact ⟨⟨hb'.cell 12 (by omega), hb'.cell 13 (by omega), hb'.cell 14 (by omega), hb'.cell 15 (by omega)⟩, hw, ht⟩
theorem ms_set6 {w w' : World} {b o a12 a13 a14 a15 : Nat} {xs : List Nat} (h4 : B4 xs a12 a13 a14 a15) (hb : BIn w (some ⟨b, o, none⟩) xs) (h : 16 ≤ xs.length) (hS : MC w' b o a12 a13 a14 a15 ∧ Below w.heap.size w w' ∧ MT w' w.heap.size) (v0 v1 v2 v3 v4 v5 : Value) :
    let W := (((((w'.setCell ⟨w.heap.size, 0, none⟩ v0).setCell ⟨w.heap.size, 1, none⟩ v1).setCell ⟨w.heap.size, 2, none⟩ v2).setCell ⟨w.heap.size, 3, none⟩ v3).setCell ⟨w.heap.size, 4, none⟩ v4).setCell ⟨w.heap.size, 5, none⟩ v5
    MC W b o a12 a13 a14 a15 ∧ Below w.heap.size w W ∧ MT W w.heap.size :=
  ms_of h4 hb h ((((((hS.2.1.setCell (Nat.le_refl _) _).setCell (Nat.le_refl _) _).setCell (Nat.le_refl _) _).setCell (Nat.le_refl _) _).setCell (Nat.le_refl _) _).setCell (Nat.le_refl _) _) (mt_set (mt_set (mt_set (mt_set (mt_set (mt_set hS.2.2 0 _) 1 _) 2 _) 3 _) 4 _) 5 _)
theorem four_ms (k : Nat) {w w' : World} {b o q a12 a13 a14 a15 : Nat} {xs : List Nat} {m c : Nat} (hS : MC w' b o a12 a13 a14 a15 ∧ Below w.heap.size w w' ∧ MT w' w.heap.size) (hb : BIn w (some ⟨b, o, none⟩) xs) (hq : q = o + k) (hm : m = xs.length - k) (hk : k + 4 ≤ xs.length) :
    Calls Try.prog 74 #[.slice (some ⟨b, q, none⟩) m c] w' fun e w1 => e = .returned (.int .u32 (numAt xs k : Nat)) ∧ Below w'.heap.size w' w1 := by
  subst hq
  have := four_any (some ⟨b, o + k, none⟩) (xs.drop k) m c w' (by rw [List.length_drop]; exact hm) (by rw [List.length_drop]; omega) ((hb.below hS.2.1).drop' k)
  rw [numAt_drop] at this
  exact this
set_option maxRecDepth 8000 in
set_option maxHeartbeats 4000000 in
theorem markOf_any (p : Option Addr) (xs : List Nat) (n c : Nat) (w : World) (hn : n = xs.length) (h16 : 16 ≤ xs.length) (hnc : n ≤ c) (hb : BIn w p xs) :
    Calls Try.prog 62 #[.slice p n c] w fun e w' => e = .returned (markOfN xs) ∧ Below w.heap.size w w' := by
  obtain ⟨b, o, rfl⟩ := hb.addr (by omega)
  have hbl : b < w.heap.size := World.block_lt_of_cell? _ _ (hb.cell 0 (by omega))
  obtain ⟨a12, e12⟩ : ∃ a, xs.getD 12 0 = a := ⟨_, rfl⟩
  obtain ⟨a13, e13⟩ : ∃ a, xs.getD 13 0 = a := ⟨_, rfl⟩
  obtain ⟨a14, e14⟩ : ∃ a, xs.getD 14 0 = a := ⟨_, rfl⟩
  obtain ⟨a15, e15⟩ : ∃ a, xs.getD 15 0 = a := ⟨_, rfl⟩
  have H4 : Hid (B4 xs a12 a13 a14 a15) := ⟨e12, e13, e14, e15⟩
  have b12 := getD_lt hb.2 12
  have b13 := getD_lt hb.2 13
  have b14 := getD_lt hb.2 14
  have b15 := getD_lt hb.2 15
  rw [e12] at b12; rw [e13] at b13; rw [e14] at b14; rw [e15] at b15
  have HV : Hid (markOfN xs = markV (numAt xs 0) (numAt xs 4) (numAt xs 8) a12 a13 (a14 + 256 * a15)) := by show _ = _; unfold markOfN sizeOf2; rw [e12, e13, e14, e15]
  have k12 : IntKind.i64.wrap (a12 : Int) = a12 := wrap_small (by omega)
  have k13 : IntKind.i64.wrap (a13 : Int) = a13 := wrap_small (by omega)
  have k14 : IntKind.i64.wrap (a14 : Int) = a14 := wrap_small (by omega)
  have k15 : IntKind.i64.wrap (a15 : Int) = a15 := wrap_small (by omega)
  have k256 : IntKind.i64.wrap ((a15 : Int) * 256) = 256 * (a15 : Int) := by rw [IntKind.wrap_i64]; omega
  have kor := or8 a14 a15 b14 b15
  clear e12 e13 e14 e15 b12 b13 b14 b15
  have HB : Hid (BIn w (some ⟨b, o, none⟩) xs) := hb
  have HN : Hid (n = xs.length) := hn
  have h4n : (4 : Int) ≤ n := by omega
  have h8n : (8 : Int) ≤ n := by omega
  have h4c : (4 : Int) < c := by omega
  have h8c : (8 : Int) < c := by omega
  have hncI : (n : Int) ≤ c := by omega
  have h12n : (12 : Int) < n := by omega
  have h13n : (13 : Int) < n := by omega
  have h14n : (14 : Int) < n := by omega
  have h15n : (15 : Int) < n := by omega
  have H16 : Hid (16 ≤ xs.length) := h16
  clear hb hn h16
  go_enter Try.func62, Try.ntmps62
  go_wp2
  go_region_held3 (fun w' => (w'.cell? ⟨b, o + 12, none⟩ = some (.int .u8 (a12 : Nat)) ∧ w'.cell? ⟨b, o + 13, none⟩ = some (.int .u8 (a13 : Nat)) ∧ w'.cell? ⟨b, o + 14, none⟩ = some (.int .u8 (a14 : Nat)) ∧ w'.cell? ⟨b, o + 15, none⟩ = some (.int .u8 (a15 : Nat))) ∧ Below w.heap.size w w' ∧ (w'.cell? ⟨w.heap.size, 0, none⟩ = some (cellAt w' ⟨w.heap.size, 0, none⟩) ∧ w'.frozen? ⟨w.heap.size, 0, none⟩ = false) ∧ (w'.cell? ⟨w.heap.size, 1, none⟩ = some (cellAt w' ⟨w.heap.size, 1, none⟩) ∧ w'.frozen? ⟨w.heap.size, 1, none⟩ = false) ∧ (w'.cell? ⟨w.heap.size, 2, none⟩ = some (cellAt w' ⟨w.heap.size, 2, none⟩) ∧ w'.frozen? ⟨w.heap.size, 2, none⟩ = false) ∧ (w'.cell? ⟨w.heap.size, 3, none⟩ = some (cellAt w' ⟨w.heap.size, 3, none⟩) ∧ w'.frozen? ⟨w.heap.size, 3, none⟩ = false) ∧ (w'.cell? ⟨w.heap.size, 4, none⟩ = some (cellAt w' ⟨w.heap.size, 4, none⟩) ∧ w'.frozen? ⟨w.heap.size, 4, none⟩ = false) ∧ (w'.cell? ⟨w.heap.size, 5, none⟩ = some (cellAt w' ⟨w.heap.size, 5, none⟩) ∧ w'.frozen? ⟨w.heap.size, 5, none⟩ = false)) (first | with_reducible exact ms_set6 H4.out HB.out H16.out (by assumption) _ _ _ _ _ _ | with_reducible exact ms_of H4.out HB.out H16.out (below_bt (And.left (And.right (by assumption))) hb8) (mt_below (And.right (And.right (by assumption))) hb8) | with_reducible exact ms_of H4.out HB.out H16.out (below_bt (And.left (And.right (by assumption))) hb4) (mt_below (And.right (And.right (by assumption))) hb4) | with_reducible exact ms_of H4.out HB.out H16.out (below_bt (And.left (And.right (by assumption))) hb1) (mt_below (And.right (And.right (by assumption))) hb1) | exact ms_of H4.out HB.out H16.out ((below_alloc _ _).drew) (mt_box (heap_alloc_new w _) rfl) | fail)
    (first | (go_at_call 74; refine (four_ms (w := w) (o := o) (xs := xs) 0 (by assumption) HB.out (by omega) (by have := HN.out; omega) (by have := H16.out; omega)).mono ?_; rintro e w1 ⟨rfl, hb1⟩) | (go_at_call 74; refine (four_ms (w := w) (o := o) (xs := xs) 4 (by assumption) HB.out (by omega) (by have := HN.out; omega) (by have := H16.out; omega)).mono ?_; rintro e w4 ⟨rfl, hb4⟩) | (go_at_call 74; refine (four_ms (w := w) (o := o) (xs := xs) 8 (by assumption) HB.out (by omega) (by have := HN.out; omega) (by have := H16.out; omega)).mono ?_; rintro e w8 ⟨rfl, hb8⟩) | fail)
  go_wp2
  (try simp only [Exit.inBlock, Exit.then])
  rename_i hh
  have hbel := hh.2.1
  clear hh
  refine bodyPost_ret (v := markOfN xs) ?_ rfl ⟨rfl, hbel⟩
  have hT0 : MT ((w.alloc (.cells #[.int .u32 0, .int .u32 0, .int .u32 0, .int .i64 0, .int .i64 0, .int .i64 0] 116)).drew) w.heap.size := mt_box (heap_alloc_new w _) rfl
  have hT := mt_below (mt_below (mt_below hT0 hb1) hb4) hb8
  clear hT0
  rw [results_cell1 rfl, HV.out]
  obtain ⟨⟨t0, _⟩, ⟨t1, _⟩, ⟨t2, _⟩, ⟨t3, _⟩, ⟨t4, _⟩, t5, _⟩ := hT
  clear hbel hb1 hb4 hb8
  go_simp
  rfl
end Go.Proofs.Ytnajjfdbmdjcbaa
namespace Go.Proofs.Ytnajjfdbmdjcbaa
open Go.RowKit Go.WideShapes

def placeN (i n : Nat) : Nat := if i + 1 < n then 0 else if 0 < i then 1 else 2
theorem place_any (e s p i n k r : Nat) (w : World) (hi : i < 256) (hn : n < 256) (hr : placeN i n = r) :
    Calls Try.prog 75 #[markV e s p i n k] w fun x w' => x = .returned (.int .i64 r) ∧ Below w.heap.size w w' := by
  have HR : Hid (placeN i n = r) := hr
  clear hr
  have k1 : IntKind.i64.wrap ((n : Int) - 1) = (n : Int) - 1 := by rw [IntKind.wrap_i64]; omega
  unfold markV
  by_cases h1 : i + 1 < n
  · have g1 : decide ((i : Int) < (n : Int) - 1) = true := decide_eq_true (by omega)
    go_enter Try.func75, Try.ntmps75
    go_wp2
    go_ret
    exact ⟨by rw [← HR.out]; unfold placeN; rw [if_pos h1]; rfl, below_alloc _ _⟩
  · have g1 : decide ((i : Int) < (n : Int) - 1) = false := decide_eq_false (by omega)
    by_cases h2 : 0 < i
    · have g2 : decide (0 < (i : Int)) = true := decide_eq_true (by omega)
      go_enter Try.func75, Try.ntmps75
      go_wp2
      go_ret
      exact ⟨by rw [← HR.out]; unfold placeN; rw [if_neg h1, if_pos h2]; rfl, below_alloc _ _⟩
    · have g2 : decide (0 < (i : Int)) = false := decide_eq_false (by omega)
      go_enter Try.func75, Try.ntmps75
      go_wp2
      go_ret
      exact ⟨by rw [← HR.out]; unfold placeN; rw [if_neg h1, if_neg h2]; rfl, below_alloc _ _⟩
set_option maxHeartbeats 1000000 in
theorem noughts_any (p : Option Addr) (xs : List Nat) (m c : Nat) (r : Bool) (w : World) (hm : m = xs.length) (hmc : m ≤ c) (hcm : c ≤ maxLen) (hb : BIn w p xs) (hr : decide (∀ c ∈ xs, c = 0) = r) :
    Calls Try.prog 72 #[.slice p m c] w fun e w' => e = .returned (.bool r) ∧ w' = w := by
  have HR : Hid (decide (∀ c ∈ xs, c = 0) = r) := hr
  have HB : Hid (BIn w p xs) := hb
  have HM : Hid (m = xs.length) := hm
  unfold maxLen at hcm
  have hmx : (m : Int) ≤ 9223372036854775807 := by omega
  have HK : Hid (m ≤ c) := hmc
  clear hr hb hm hcm hmc
  go_enter Try.func72, Try.ntmps72
  go_wp2
  go_loop [7] (fun i => ∃ k : Nat, k ≤ m ∧ i = .int .i64 k ∧ Hid (∀ j, j < k → xs.getD j 0 = 0)) (fun i => m - (intOf i).toNat)
  case atStart => exact ⟨0, by omega, rfl, fun j hj => absurd hj (by omega)⟩
  case round =>
    obtain ⟨k, hk, rfl, hall⟩ := hrel
    by_cases hkl : k < m
    · obtain ⟨b, o, rfl⟩ := HB.out.addr (by have := HM.out; omega)
      have cx := HB.out.cell k (by have := HM.out; omega)
      have hlt := getD_lt HB.out.2 k
      have HD : Hid (xs.getD k 0 ∈ xs) := by
        have := HM.out
        show _ ∈ _
        rw [List.getD_eq_getElem?_getD, List.getElem?_eq_getElem (by omega)]
        exact List.getElem_mem _
      have HT : Hid (xs.getD k 0 = 0 → ∀ j, j < k + 1 → xs.getD j 0 = 0) := fun h j hj => by
        rcases Nat.lt_or_ge j k with h' | h'
        · exact hall.out j h'
        · obtain rfl : j = k := by omega
          exact h
      clear hall
      generalize hcd : xs.getD k 0 = cc at *
      have hkI : (k : Int) < (m : Int) := by omega
      by_cases h0 : cc = 0
      · subst h0
        have HT2 : Hid _ := HT.out rfl
        clear HT HD
        go_wp2
        go_round
        case rel => exact ⟨k + 1, by omega, by go_num, HT2.out⟩
        case measure => simp [intOf]; omega
      · have g0 : ((cc : Int) != 0) = true := by simp; exact h0
        have HN : Hid (¬ ∀ c ∈ xs, c = 0) := fun h => h0 (h _ HD.out)
        clear HT HD
        go_wp2
        go_ret
        exact ⟨by rw [← HR.out, decide_eq_false HN.out]; rfl, rfl⟩
    · obtain rfl : k = m := by omega
      have HT : Hid (∀ c ∈ xs, c = 0) := fun c hc => by
        obtain ⟨j, hj, rfl⟩ := List.getElem_of_mem hc
        have := hall.out j (by have := HM.out; omega)
        rwa [List.getD_eq_getElem?_getD, List.getElem?_eq_getElem hj] at this
      clear hall
      go_wp2
      go_ret
      exact ⟨by rw [← HR.out, decide_eq_true HT.out]; rfl, rfl⟩
theorem needs_div (n : Nat) (h : n ≤ 10000) : wrap64 (((n : Int) + 112 - 1).tdiv 112) = (((n + 111) / 112 : Nat) : Int) := by
  rw [Int.tdiv_eq_ediv_of_nonneg (by omega)]
  unfold wrap64
  omega
set_option maxRecDepth 8000 in
theorem needs_any (s : ByteArray) (r : Nat) (w : World) (hs : s.size ≤ 10000) (hr : needsN s.size = r) :
    Calls Try.prog 42 #[.string s] w fun e w' => e = .returned (.int .i64 r) ∧ w' = w := by
  have HR : Hid (needsN s.size = r) := hr
  clear hr
  have k1 : IntKind.i64.wrap ((s.size : Int) + 112) = (s.size : Int) + 112 := by rw [IntKind.wrap_i64]; omega
  have k2 : IntKind.i64.wrap ((s.size : Int) + 112 - 1) = (s.size : Int) + 112 - 1 := by rw [IntKind.wrap_i64]; omega
  have HS : Hid (s.size ≤ 10000) := hs
  clear hs
  go_enter Try.func42, Try.ntmps42
  go_wp2
  all_goals
    go_ret
    refine ⟨?_, rfl⟩
    rw [← HR.out]
    unfold needsN
    refine ret_int ?_
    have e := needs_div s.size HS.out
    omega
theorem three_at (e s p j : Nat) (h : j < 3) : (#[Value.int .u32 (e : Int), Value.int .u32 (s : Int), Value.int .u32 (p : Int)] : Array Value)[j]? = some (.int .u32 (([e, s, p].getD j 0 : Nat) : Int)) := by
  rcases j with _ | _ | _ | j
  · rfl
  · rfl
  · rfl
  · omega
theorem three_lt {e s p : Nat} (h : e < 4294967296 ∧ s < 4294967296 ∧ p < 4294967296) (j : Nat) : [e, s, p].getD j 0 < 4294967296 := by
  rcases j with _ | _ | _ | j
  · exact h.1
  · exact h.2.1
  · exact h.2.2
  · show 0 < _; omega
theorem three_step (e s p j : Nat) (h : j < 3) : ([e, s, p].take (j + 1)).flatMap le4 = ([e, s, p].take j).flatMap le4 ++ le4 ([e, s, p].getD j 0) := by
  rcases j with _ | _ | _ | j
  · rfl
  · rfl
  · rfl
  · omega
theorem three_len (e s p j : Nat) : (([e, s, p].take j).flatMap le4).length ≤ 12 := by
  rcases j with _ | _ | _ | j <;> simp [List.take, le4]
set_option maxRecDepth 8000 in
set_option maxHeartbeats 2000000 in
theorem bytes_any (e s p i n k : Nat) (w : World) (he : e < 4294967296) (hs : s < 4294967296) (hp : p < 4294967296) (hi : i < 256) (hn : n < 256) (hk : k ≤ 112) :
    Calls Try.prog 64 #[markV e s p i n k] w fun x w' => ∃ v, x = .returned v ∧ w'.ownsRow w.heap.size 5 1 v (markL e s p i n k).length (Bs (markL e s p i n k)) ∧ Below w.heap.size w w' := by
  have HE : Hid (e < 4294967296 ∧ s < 4294967296 ∧ p < 4294967296) := ⟨he, hs, hp⟩
  have k3 : IntKind.u8.wrap (i : Int) = i := by rw [IntKind.wrap_u8']; omega
  have k4 : IntKind.u8.wrap (n : Int) = n := by rw [IntKind.wrap_u8']; omega
  have k5 : IntKind.u8.wrap (k : Int) = k := by rw [IntKind.wrap_u8']; omega
  have HI : Hid (i < 256 ∧ n < 256 ∧ k ≤ 112) := ⟨hi, hn, hk⟩
  clear he hs hp hi hn hk
  unfold markV
  go_enter Try.func64, Try.ntmps64
  go_wp2
  have S0 : St w [(w.heap.size + 1, #[.int .u32 e, .int .u32 s, .int .u32 p], 37), (w.heap.size, #[.int .u32 e, .int .u32 s, .int .u32 p, .int .i64 i, .int .i64 n, .int .i64 k], 116)] ((w.alloc (.cells #[.int .u32 e, .int .u32 s, .int .u32 p, .int .i64 i, .int .i64 n, .int .i64 k] 116)).alloc (.cells #[.int .u32 e, .int .u32 s, .int .u32 p] 37)) (.slice none 0 0) [] := by
    have h1 := (St.start (w := w) (bx := []) (fun p hp => by simp at hp)).alloc #[.int .u32 e, .int .u32 s, .int .u32 p, .int .i64 i, .int .i64 n, .int .i64 k] 116 (by decide)
    have h2 := h1.alloc #[.int .u32 e, .int .u32 s, .int .u32 p] 37 (by decide)
    simpa using h2
  go_loopw [3, 14] (fun m i' wr => ∃ j : Nat, j ≤ 3 ∧ i' = .int .i64 j ∧ St w [(w.heap.size + 1, #[.int .u32 e, .int .u32 s, .int .u32 p], 37), (w.heap.size, #[.int .u32 e, .int .u32 s, .int .u32 p, .int .i64 i, .int .i64 n, .int .i64 k], 116)] wr m (([e, s, p].take j).flatMap le4)) (fun _ i' _ => 3 - (intOf i').toNat)
  case atStart => exact ⟨0, by omega, rfl, S0⟩
  case round =>
    obtain ⟨j, hj, rfl, hst⟩ := hrel
    clear S0
    by_cases hj3 : j < 3
    · have cx := hst.cell (List.Mem.head _) j
      rw [three_at e s p j hj3] at cx
      have HLT := three_lt HE.out j
      have HST : Hid (([e, s, p].take (j + 1)).flatMap le4 = ([e, s, p].take j).flatMap le4 ++ le4 ([e, s, p].getD j 0)) := three_step e s p j hj3
      have HLN : Hid ((([e, s, p].take j).flatMap le4).length ≤ 12) := three_len e s p j
      have HS : Hid _ := hst
      clear hst
      generalize [e, s, p].getD j 0 = u at *
      have hu : IntKind.u64.wrap (u : Int) = u := by rw [IntKind.wrap_u64]; omega
      have HU : Hid (u < 4294967296) := HLT
      have hjI : (j : Int) < 3 := by omega
      clear HLT
      go_wp2_with fail
      refine (put_any u _ (by have := HU.out; omega)).mono ?_
      rintro x w2 ⟨w1, rfl, hw2, hb1⟩
      have hin : BIn w2 (some ⟨w1.heap.size, 0, none⟩) (le4 u) := by rw [hw2]; exact (bin_alloc w1 (putN u) _ (putN_bytes u (by have := HU.out; omega))).take' 4
      have hb2 : Below wr.heap.size wr w2 := by rw [hw2]; exact hb1.alloc hb1.size _
      have HI2 : Hid _ := hin
      have S2 := HS.out.call hb2
      have hsz2 := S2.size
      have HS2 : Hid _ := S2
      clear hin hb2 hb1 HS S2 hw2
      go_wp2_with (at_builtin; refine wpList_append_bytes _ rfl _ _ rfl w.heap.size _ _ (le4 u) (some ⟨w1.heap.size, 0, none⟩) _ 8 rfl rfl rfl HS2.out.own HI2.out (fun h => by cases h) (by have := HLN.out; have := le4_len u; omega) hsz2 ?_; intro v3 w3 ho3 hg3; have S3 := HS2.out.app ho3 hg3)
      have HS3 : Hid _ := S3.eq HST.out.symm
      clear S3 ho3 hg3
      go_roundw
      case rel => exact ⟨j + 1, by omega, by go_num, HS3.out⟩
      case measure => simp [intOf]; omega
    · obtain rfl : j = 3 := by omega
      have h1 := hst.eq (show ([e, s, p].take 3).flatMap le4 = le4 e ++ (le4 s ++ le4 p) from rfl)
      have d3 : wr.cell? ⟨w.heap.size, 3, none⟩ = some (.int .i64 i) := h1.cell (List.Mem.tail _ (List.Mem.head _)) 3
      have d4 : wr.cell? ⟨w.heap.size, 4, none⟩ = some (.int .i64 n) := h1.cell (List.Mem.tail _ (List.Mem.head _)) 4
      have d5 : wr.cell? ⟨w.heap.size, 5, none⟩ = some (.int .i64 k) := h1.cell (List.Mem.tail _ (List.Mem.head _)) 5
      have h2 := h1.call (below_alloc wr (.cells #[.int .u8 i, .int .u8 n, .int .u8 k, .int .u8 (k / 256 % 256)] 5))
      have HS : Hid _ := h2
      have hsz := h2.size
      have hin : Hid (BIn (wr.alloc (.cells #[.int .u8 i, .int .u8 n, .int .u8 k, .int .u8 (k / 256 % 256)] 5)) (some ⟨wr.heap.size, 0, none⟩) [i, n, k, k / 256 % 256]) := bin_lit wr _ _ 5 _ _ rfl (by simp [Bs]) (by
        have := HI.out
        intro c hc
        simp only [List.mem_cons, List.not_mem_nil, or_false] at hc
        omega)
      have HM : Hid (le4 e ++ (le4 s ++ le4 p) ++ [i, n, k, k / 256 % 256] = markL e s p i n k) := by
        have := HI.out
        show _ = _
        unfold markL
        rw [show i % 256 = i by omega, show n % 256 = n by omega, show k % 256 = k by omega, List.append_assoc, List.append_assoc]
      clear hst h1 h2
      go_wp2_with (at_builtin; refine wpList_append_bytes _ rfl _ _ rfl w.heap.size _ _ [i, n, k, k / 256 % 256] (some ⟨wr.heap.size, 0, none⟩) _ 4 rfl rfl rfl HS.out.own hin.out (fun h => by cases h) (by simp [le4]) hsz ?_; intro v3 w3 ho3 hg3; have S3 := HS.out.app ho3 hg3)
      go_ret
      have S4 := S3.eq HM.out
      exact ⟨_, rfl, S4.own, S4.bel⟩
end Go.Proofs.Ytnajjfdbmdjcbaa
namespace Go.Proofs.Ytnajjfdbmdjcbaa
open Go.RowKit Go.WideShapes

theorem row_full' {w : World} {base e g n : Nat} {xs : List Value} (h : w.ownsRow base e 1 (.slice (some ⟨g, 0, none⟩) n n) n xs) : w.heap[g]? = some (.cells xs.toArray e (0, 0)) := by
  rcases h.2 with ⟨h, _⟩ | ⟨g', cap, cur, hv, _, hg, _, _, hs, ht⟩
  · cases h
  · simp only [Value.slice.injEq, Option.some.injEq, Addr.mk.injEq, and_true, true_and] at hv
    obtain ⟨rfl, rfl⟩ := hv
    rw [hg]
    rw [List.take_of_length_le (by simp; omega)] at ht
    rw [← ht]
theorem zeros_made (n : Nat) : (madeCells #[Value.int .u8 0] n).toList = Bs (List.replicate n 0) := by
  rw [toList_madeCells_one]
  simp [Bs]
theorem byteCells_Bs (s : ByteArray) : Lib.byteCells s.data.toList = Bs (numsOf s) := by unfold Lib.byteCells Bs numsOf; rw [List.map_map]; rfl
theorem wpList_copy_str {P : Program} {w : World} {ops : Array Oper} {rest : List Oper} {o : Oper} {a : Act} {Q : Exit → Act → World → Prop} (hgd : o.guard = none) (d s : Operand) (dT sT : TypeId)
    (ho : o.op = .call { callee := .builtin .copy, args := #[d, s], argTypes := #[dT, sT] }) (elem : TypeId) (hu : P.underlying dT = some (.slice elem)) (hsz : (P.info? elem).map (·.size) = some 1)
    (g off dLen dCap : Nat) (str : ByteArray) (hd : a.eval d = .slice (some ⟨g, off, none⟩) dLen dCap) (hs : a.eval s = .string str)
    (cur : List Value) (t : TypeId) (hg : w.heap[g]? = some (.cells cur.toArray t (0, 0))) (hle : str.size ≤ dLen) (hfit : off + str.size ≤ cur.length) (B : Nat) (w0 : World) (hb : Below B w0 w) (hBg : B ≤ g)
    (h : ∀ w', Hid (w'.heap[g]? = some (.cells (splice cur off (Bs (numsOf str))).toArray t (0, 0))) → Below B w0 w' → wpList P ops Q rest (a.put o.dst (goInt str.size)) w') : wpList P ops Q (o :: rest) a w := by
  refine wpList_plain hgd fun K hK => ?_
  have hrun := Lib.run_copy_row_string (P := P) w dT sT o.type elem g off dLen dCap str cur.toArray t hu hsz hg hle (by simpa using hfit)
  unfold Oper.wp
  simp [execOp, ho, resolve, invoke, builtin, hd, hs, hrun, Result.andThen]
  refine hK _ _ (h _ ?_ (below_setRow hb hBg _))
  have e : (splice cur off (Bs (numsOf str))) = cur.take off ++ Lib.byteCells str.data.toList ++ cur.drop (off + str.size) := by
    unfold splice; rw [byteCells_Bs, Bs_len, numsOf_len, List.append_assoc]
  show _ = _
  rw [e]
  simpa using setRow_heap w g _ _ t _ hg
def z128 : List Nat := List.replicate 128 0
theorem sec_splice {y1 mk x : List Nat} (h1 : y1 = mk ++ List.replicate 112 0) (h2 : mk.length = 16) (h3 : x.length ≤ 112) : y1.take 16 ++ (x ++ y1.drop (16 + x.length)) = mk ++ (x ++ List.replicate (112 - x.length) 0) := by
  subst h1
  rw [List.take_append_of_le_length (by omega), List.take_of_length_le (by omega), ← h2, List.drop_append, List.drop_replicate]
  congr 2
  rw [List.drop_eq_nil_of_le (by omega), List.nil_append]
  congr 1
  omega
def strPiece (r : ByteArray) (k : Nat) : ByteArray := r.extract (k * 112) (min ((k + 1) * 112) r.size)
theorem numsOf_extract (r : ByteArray) (a b : Nat) : numsOf (r.extract a b) = ((numsOf r).drop a).take (b - a) := by
  unfold numsOf
  rw [ByteArray.data_extract, Array.toList_extract]
  simp [List.map_drop, List.map_take]
theorem strPiece_nums (r : ByteArray) (k : Nat) : numsOf (strPiece r k) = pieceL (numsOf r) k := by
  unfold strPiece pieceL
  rw [numsOf_extract]
  by_cases h : (k + 1) * 112 ≤ r.size
  · rw [Nat.min_eq_left h]; congr 1; omega
  · rw [Nat.min_eq_right (by omega)]
    rw [List.take_of_length_le (by rw [List.length_drop, numsOf_len]; omega), List.take_of_length_le (by rw [List.length_drop, numsOf_len]; omega)]
set_option maxRecDepth 8000 in
set_option maxHeartbeats 4000000 in
theorem frame_any (e s p : Nat) (r : ByteArray) (w : World) (he : e < 4294967296) (hs : s < 4294967296) (hp : p < 4294967296) (hr : r.size ≤ 4096) :
    Calls Try.prog 43 #[.int .u32 e, .int .u32 s, .int .u32 p, .string r] w fun x w' => ∃ v, x = .returned v ∧ w'.ownsRow w.heap.size 5 1 v (frameN e s p (numsOf r)).length (Bs (frameN e s p (numsOf r))) ∧ Below w.heap.size w w' := by
  obtain ⟨i0, hi, hz0, hz1, hz2⟩ := info_parts info5
  have HE : Hid (e < 4294967296 ∧ s < 4294967296 ∧ p < 4294967296) := ⟨he, hs, hp⟩
  have HR : Hid (r.size ≤ 4096) := hr
  have hrI : (r.size : Int) ≤ 1000000 := by omega
  obtain ⟨n, hn⟩ : ∃ n, needsN r.size = n := ⟨_, rfl⟩
  have HN : Hid (needsN r.size = n) := hn
  have hn37 : (n : Int) ≤ 200 := by have := needsN_le hr; omega
  clear he hs hp hr hn
  go_enter Try.func43, Try.ntmps43
  go_wp2_with (go_at_call 42; refine (needs_any r n _ (by have := HR.out; omega) HN.out).mono ?_; rintro x w1 ⟨rfl, rfl⟩)
  go_loopw [9, 18] (fun m i wr => ∃ k : Nat, k ≤ n ∧ i = .int .i64 k ∧ St w1 [] wr m (framesK e s p n (numsOf r) k)) (fun _ i _ => n - (intOf i).toNat)
  case atStart => exact ⟨0, by omega, rfl, St.start (fun p hp => by simp at hp)⟩
  case round =>
    obtain ⟨k, hk, rfl, hst⟩ := hrel
    have HS : Hid _ := hst
    clear hst
    by_cases hkn : k < n
    · have hkI : (k : Int) < (n : Int) := by omega
      have k1 : IntKind.i64.wrap ((k : Int) * 112) = (k : Int) * 112 := by rw [IntKind.wrap_i64]; omega
      have k2 : IntKind.i64.wrap ((k : Int) + 1) = (k : Int) + 1 := by rw [IntKind.wrap_i64]; omega
      have k3 : IntKind.i64.wrap (((k : Int) + 1) * 112) = ((k : Int) + 1) * 112 := by rw [IntKind.wrap_i64]; omega
      have hlo : (k : Int) * 112 ≤ (r.size : Int) := by have := HN.out; unfold needsN at this; omega
      by_cases hfull : (k + 1) * 112 ≤ r.size
      · have g1 : ((k : Int) + 1) * 112 ≤ (r.size : Int) := by omega
        go_wp2_with (at_make; refine wpList_make_full _ rfl _ _ 22 rfl (wr.heap.size + 1) 5 i0 (.int .u8 0) 1 Try.underlying22 hi hz0 hz1 .i64 .i64 _ _ 128 rfl rfl rfl rfl (by rw [hz2]; decide) (by decide) (by simp) ?_)
        intro w2 hown hgrow
        generalize hps : r.extract (k * 112) ((k + 1) * 112) = ps
        generalize hpl : (k + 1) * 112 - k * 112 = pl at hgrow ⊢
        have HX : Hid (numsOf ps = pieceL (numsOf r) k ∧ ps.size = pl ∧ pl ≤ 112) := by
          have e1 : numsOf ps = pieceL (numsOf r) k := by rw [← hps, ← strPiece_nums]; unfold strPiece; rw [Nat.min_eq_left hfull]
          have e2 : ps.size = pl := by rw [← numsOf_len, e1, pieceL_len, numsOf_len]; omega
          exact ⟨e1, e2, by omega⟩
        clear hps hpl k1 k2 k3 hlo hfull g1
        have hsa := HS.out.alloc #[.int .u32 e, .int .u32 s, .int .u32 p, .int .i64 k, .int .i64 n, .int .i64 pl] 116 (by decide)
        have HSA : Hid _ := hsa
        have hsz0 := hsa.size
        have hb2 : Below (wr.alloc (.cells #[.int .u32 e, .int .u32 s, .int .u32 p, .int .i64 k, .int .i64 n, .int .i64 pl] 116)).heap.size (wr.alloc (.cells #[.int .u32 e, .int .u32 s, .int .u32 p, .int .i64 k, .int .i64 n, .int .i64 pl] 116)) w2 := (Below.refl _ _).grown hgrow (Nat.le_refl _) (fun k hk => by cases hk)
        have hbx := (hsa.call hb2).box _ (List.Mem.head _)
        have hrow := row_full' hown
        rw [zeros_made] at hrow
        simp only at hbx
        have q0 : w2.cell? ⟨wr.heap.size, 0, none⟩ = some (.int .u32 e) := cell_of_row w2 _ 0 _ _ _ hbx.1
        have q1 : w2.cell? ⟨wr.heap.size, 1, none⟩ = some (.int .u32 s) := cell_of_row w2 _ 1 _ _ _ hbx.1
        have q2 : w2.cell? ⟨wr.heap.size, 2, none⟩ = some (.int .u32 p) := cell_of_row w2 _ 2 _ _ _ hbx.1
        have q3 : w2.cell? ⟨wr.heap.size, 3, none⟩ = some (.int .i64 k) := cell_of_row w2 _ 3 _ _ _ hbx.1
        have q4 : w2.cell? ⟨wr.heap.size, 4, none⟩ = some (.int .i64 n) := cell_of_row w2 _ 4 _ _ _ hbx.1
        have q5 : w2.cell? ⟨wr.heap.size, 5, none⟩ = some (.int .i64 pl) := cell_of_row w2 _ 5 _ _ _ hbx.1
        have HB2 : Hid (Below (wr.heap.size + 1) (wr.alloc (.cells #[.int .u32 e, .int .u32 s, .int .u32 p, .int .i64 k, .int .i64 n, .int .i64 pl] 116)) w2) := by
          have h := hb2
          rw [show (wr.alloc (.cells #[.int .u32 e, .int .u32 s, .int .u32 p, .int .i64 k, .int .i64 n, .int .i64 pl] 116)).heap.size = wr.heap.size + 1 by simp] at h
          exact h
        have HR2 : Hid (w2.heap[wr.heap.size + 1]? = some (.cells (Bs z128).toArray 5 (0, 0))) := hrow
        have hlt2 := lt_heap hrow
        clear hsa HS hb2 hrow hbx hown hgrow
        go_wp2_with fail
        refine (bytes_any e s p k n pl w2 HE.out.1 HE.out.2.1 HE.out.2.2 (by omega) (by omega) HX.out.2.2).mono ?_
        rintro x w3 ⟨v3, rfl, ho3, hb3⟩
        obtain ⟨pq3, m3, rfl, _, _, hn3⟩ := own_form ho3
        have hi3 := own_in ho3 (markL_byte _ _ _ _ _ _)
        have HR3 : Hid (w3.heap[wr.heap.size + 1]? = some (.cells (Bs z128).toArray 5 (0, 0))) := (hb3.block _ hlt2).trans HR2.out
        have HB3 : Hid (Below (wr.heap.size + 1) (wr.alloc (.cells #[.int .u32 e, .int .u32 s, .int .u32 p, .int .i64 k, .int .i64 n, .int .i64 pl] 116)) w3) := HB2.out.trans (hb3.mono (by omega))
        obtain ⟨mk, HMK⟩ : ∃ mk, Hid (mk = markL e s p k n pl) := ⟨_, rfl⟩
        have HML : Hid (mk.length = 16) := by show _ = _; rw [HMK.out]; rfl
        rw [← HMK.out] at hi3
        have HI3 : Hid (0 < (Bs mk).length → ∃ ad, pq3 = some ad ∧ ∀ j v, (Bs mk)[j]? = some v → w3.cell? (ad.add j) = some v) := by
          intro h
          obtain ⟨b, o, rfl⟩ := hi3.addr (by rw [Bs_len] at h; exact h)
          exact ⟨_, rfl, bin_cells hi3⟩
        have HL3 : Hid ((Bs mk).length = Nat.min (markL e s p k n pl).length 128) := by show _ = _; rw [Bs_len, HML.out]; rfl
        have HF3 : Hid (0 + (Bs mk).length ≤ (Bs z128).length) := by show _ ≤ _; rw [Bs_len, HML.out, Bs_len]; decide
        clear hi3 ho3 hb3 HR2 HB2 hlt2 q0 q1 q2 q3 q4 q5
        go_wp2_with (refine wpList_copy_splice (o := ⟨some 43, _, _, _, _, _⟩) rfl (.tmp 40) (.tmp 42) 22 22 rfl 5 Try.underlying22 size5 (some ⟨wr.heap.size + 1, 0, none⟩) pq3 128 128 (markL e s p k n pl).length m3 rfl rfl (wr.heap.size + 1) 0 (Bs z128) 5 HR3.out (Bs mk) HL3.out (fun h => ⟨rfl, HI3.out h⟩) HF3.out (Bs_one _) (wr.heap.size + 1) (wr.alloc (.cells #[.int .u32 e, .int .u32 s, .int .u32 p, .int .i64 k, .int .i64 n, .int .i64 pl] 116)) HB3.out (Nat.le_refl _) ?_)
        intro w4 hrow4 hb4
        obtain ⟨y1, HY1⟩ : ∃ y1, Hid (y1 = mk ++ List.replicate 112 0) := ⟨mk ++ List.replicate 112 0, (rfl : mk ++ List.replicate 112 0 = _)⟩
        have HR4 : Hid (w4.heap[wr.heap.size + 1]? = some (.cells (Bs y1).toArray 5 (0, 0))) := by
          show _ = _
          rw [hrow4.out, Bs_splice, HY1.out, HML.out]
          rfl
        have HB4 : Hid (Below (wr.heap.size + 1) (wr.alloc (.cells #[.int .u32 e, .int .u32 s, .int .u32 p, .int .i64 k, .int .i64 n, .int .i64 pl] 116)) w4) := hb4
        have HF4 : Hid (16 + ps.size ≤ (Bs y1).length) := by
          have h := HX.out.2
          have hm := HML.out
          show _ ≤ _
          rw [Bs_len, HY1.out, List.length_append, List.length_replicate]
          omega
        have HPS : Hid (ps.size ≤ 112) := by have h := HX.out.2; show _ ≤ _; omega
        clear hrow4 hb4 HR3 HB3 HI3 HL3 HF3 hn3
        go_wp2_with (refine wpList_copy_str (o := ⟨some 47, _, _, _, _, _⟩) rfl (.tmp 45) (.tmp 46) 22 9 rfl 5 Try.underlying22 size5 (wr.heap.size + 1) 16 112 112 ps rfl rfl (Bs y1) 5 HR4.out HPS.out HF4.out (wr.heap.size + 1) (wr.alloc (.cells #[.int .u32 e, .int .u32 s, .int .u32 p, .int .i64 k, .int .i64 n, .int .i64 pl] 116)) HB4.out (Nat.le_refl _) ?_)
        intro w5 hrow5 hb5
        have HR5 : w5.heap[wr.heap.size + 1]? = some (.cells (Bs (secL e s p k n (pieceL (numsOf r) k))).toArray 5 (0, 0)) := by
          have h := HX.out
          rw [hrow5.out, Bs_splice, sec_splice (by rw [HY1.out]) HML.out (by rw [h.1]; exact pieceL_le _ _), h.1, HMK.out]
          unfold secL
          rw [show pl = (pieceL (numsOf r) k).length by rw [← h.1, numsOf_len]; exact h.2.1.symm]
        have HI5 : Hid (BIn w5 (some ⟨wr.heap.size + 1, 0, none⟩) (secL e s p k n (pieceL (numsOf r) k))) := bin_row HR5 (secL_byte (pieceL_byte (numsOf_lt r) k))
        have hb5' : Below (wr.alloc (.cells #[.int .u32 e, .int .u32 s, .int .u32 p, .int .i64 k, .int .i64 n, .int .i64 pl] 116)).heap.size (wr.alloc (.cells #[.int .u32 e, .int .u32 s, .int .u32 p, .int .i64 k, .int .i64 n, .int .i64 pl] 116)) w5 := by
          rw [show (wr.alloc (.cells #[.int .u32 e, .int .u32 s, .int .u32 p, .int .i64 k, .int .i64 n, .int .i64 pl] 116)).heap.size = wr.heap.size + 1 by simp]
          exact hb5
        have hs5 := (HSA.out.call hb5').drop
        have HS5 : Hid _ := hs5
        have hsz5 := hs5.size
        have HLS : Hid (128 = (secL e s p k n (pieceL (numsOf r) k)).length) := (secL_len (pieceL_le _ _)).symm
        have HLF : Hid ((framesK e s p n (numsOf r) k).length + (secL e s p k n (pieceL (numsOf r) k)).length ≤ 140737488355328) := by
          show _ ≤ _
          rw [framesK_len, secL_len (pieceL_le _ _)]
          omega
        clear hs5 hb5' HR5 hrow5 hb5 HR4 HB4 HF4 HPS HSA
        go_wp2_with (at_builtin; refine wpList_append_bytes _ rfl _ _ rfl w1.heap.size _ _ (secL e s p k n (pieceL (numsOf r) k)) (some ⟨wr.heap.size + 1, 0, none⟩) _ 128 rfl rfl HLS.out HS5.out.own HI5.out (fun h => by cases h) HLF.out hsz5 ?_; intro v6 w6 ho6 hg6; have S6 := HS5.out.app ho6 hg6)
        have HS6 : Hid _ := S6.eq (framesK_snoc e s p n (numsOf r) k).symm
        clear S6 ho6 hg6
        go_roundw
        case rel => exact ⟨k + 1, by omega, by go_num, HS6.out⟩
        case measure => simp [intOf]; omega
      · have g1 : (r.size : Int) < ((k : Int) + 1) * 112 := by omega
        go_wp2_with (at_make; refine wpList_make_full _ rfl _ _ 22 rfl (wr.heap.size + 1) 5 i0 (.int .u8 0) 1 Try.underlying22 hi hz0 hz1 .i64 .i64 _ _ 128 rfl rfl rfl rfl (by rw [hz2]; decide) (by decide) (by simp) ?_)
        intro w2 hown hgrow
        generalize hps : r.extract (k * 112) r.size = ps
        generalize hpl : r.size - k * 112 = pl at hgrow ⊢
        have HX : Hid (numsOf ps = pieceL (numsOf r) k ∧ ps.size = pl ∧ pl ≤ 112) := by
          have e1 : numsOf ps = pieceL (numsOf r) k := by rw [← hps, ← strPiece_nums]; unfold strPiece; rw [Nat.min_eq_right (by omega)]
          have e2 : ps.size = pl := by rw [← numsOf_len, e1, pieceL_len, numsOf_len]; omega
          exact ⟨e1, e2, by omega⟩
        clear hps hpl k1 k2 k3 hlo hfull g1
        have hsa := HS.out.alloc #[.int .u32 e, .int .u32 s, .int .u32 p, .int .i64 k, .int .i64 n, .int .i64 pl] 116 (by decide)
        have HSA : Hid _ := hsa
        have hsz0 := hsa.size
        have hb2 : Below (wr.alloc (.cells #[.int .u32 e, .int .u32 s, .int .u32 p, .int .i64 k, .int .i64 n, .int .i64 pl] 116)).heap.size (wr.alloc (.cells #[.int .u32 e, .int .u32 s, .int .u32 p, .int .i64 k, .int .i64 n, .int .i64 pl] 116)) w2 := (Below.refl _ _).grown hgrow (Nat.le_refl _) (fun k hk => by cases hk)
        have hbx := (hsa.call hb2).box _ (List.Mem.head _)
        have hrow := row_full' hown
        rw [zeros_made] at hrow
        simp only at hbx
        have q0 : w2.cell? ⟨wr.heap.size, 0, none⟩ = some (.int .u32 e) := cell_of_row w2 _ 0 _ _ _ hbx.1
        have q1 : w2.cell? ⟨wr.heap.size, 1, none⟩ = some (.int .u32 s) := cell_of_row w2 _ 1 _ _ _ hbx.1
        have q2 : w2.cell? ⟨wr.heap.size, 2, none⟩ = some (.int .u32 p) := cell_of_row w2 _ 2 _ _ _ hbx.1
        have q3 : w2.cell? ⟨wr.heap.size, 3, none⟩ = some (.int .i64 k) := cell_of_row w2 _ 3 _ _ _ hbx.1
        have q4 : w2.cell? ⟨wr.heap.size, 4, none⟩ = some (.int .i64 n) := cell_of_row w2 _ 4 _ _ _ hbx.1
        have q5 : w2.cell? ⟨wr.heap.size, 5, none⟩ = some (.int .i64 pl) := cell_of_row w2 _ 5 _ _ _ hbx.1
        have HB2 : Hid (Below (wr.heap.size + 1) (wr.alloc (.cells #[.int .u32 e, .int .u32 s, .int .u32 p, .int .i64 k, .int .i64 n, .int .i64 pl] 116)) w2) := by
          have h := hb2
          rw [show (wr.alloc (.cells #[.int .u32 e, .int .u32 s, .int .u32 p, .int .i64 k, .int .i64 n, .int .i64 pl] 116)).heap.size = wr.heap.size + 1 by simp] at h
          exact h
        have HR2 : Hid (w2.heap[wr.heap.size + 1]? = some (.cells (Bs z128).toArray 5 (0, 0))) := hrow
        have hlt2 := lt_heap hrow
        clear hsa HS hb2 hrow hbx hown hgrow
        go_wp2_with fail
        refine (bytes_any e s p k n pl w2 HE.out.1 HE.out.2.1 HE.out.2.2 (by omega) (by omega) HX.out.2.2).mono ?_
        rintro x w3 ⟨v3, rfl, ho3, hb3⟩
        obtain ⟨pq3, m3, rfl, _, _, hn3⟩ := own_form ho3
        have hi3 := own_in ho3 (markL_byte _ _ _ _ _ _)
        have HR3 : Hid (w3.heap[wr.heap.size + 1]? = some (.cells (Bs z128).toArray 5 (0, 0))) := (hb3.block _ hlt2).trans HR2.out
        have HB3 : Hid (Below (wr.heap.size + 1) (wr.alloc (.cells #[.int .u32 e, .int .u32 s, .int .u32 p, .int .i64 k, .int .i64 n, .int .i64 pl] 116)) w3) := HB2.out.trans (hb3.mono (by omega))
        obtain ⟨mk, HMK⟩ : ∃ mk, Hid (mk = markL e s p k n pl) := ⟨_, rfl⟩
        have HML : Hid (mk.length = 16) := by show _ = _; rw [HMK.out]; rfl
        rw [← HMK.out] at hi3
        have HI3 : Hid (0 < (Bs mk).length → ∃ ad, pq3 = some ad ∧ ∀ j v, (Bs mk)[j]? = some v → w3.cell? (ad.add j) = some v) := by
          intro h
          obtain ⟨b, o, rfl⟩ := hi3.addr (by rw [Bs_len] at h; exact h)
          exact ⟨_, rfl, bin_cells hi3⟩
        have HL3 : Hid ((Bs mk).length = Nat.min (markL e s p k n pl).length 128) := by show _ = _; rw [Bs_len, HML.out]; rfl
        have HF3 : Hid (0 + (Bs mk).length ≤ (Bs z128).length) := by show _ ≤ _; rw [Bs_len, HML.out, Bs_len]; decide
        clear hi3 ho3 hb3 HR2 HB2 hlt2 q0 q1 q2 q3 q4 q5
        go_wp2_with (refine wpList_copy_splice (o := ⟨some 43, _, _, _, _, _⟩) rfl (.tmp 40) (.tmp 42) 22 22 rfl 5 Try.underlying22 size5 (some ⟨wr.heap.size + 1, 0, none⟩) pq3 128 128 (markL e s p k n pl).length m3 rfl rfl (wr.heap.size + 1) 0 (Bs z128) 5 HR3.out (Bs mk) HL3.out (fun h => ⟨rfl, HI3.out h⟩) HF3.out (Bs_one _) (wr.heap.size + 1) (wr.alloc (.cells #[.int .u32 e, .int .u32 s, .int .u32 p, .int .i64 k, .int .i64 n, .int .i64 pl] 116)) HB3.out (Nat.le_refl _) ?_)
        intro w4 hrow4 hb4
        obtain ⟨y1, HY1⟩ : ∃ y1, Hid (y1 = mk ++ List.replicate 112 0) := ⟨mk ++ List.replicate 112 0, (rfl : mk ++ List.replicate 112 0 = _)⟩
        have HR4 : Hid (w4.heap[wr.heap.size + 1]? = some (.cells (Bs y1).toArray 5 (0, 0))) := by
          show _ = _
          rw [hrow4.out, Bs_splice, HY1.out, HML.out]
          rfl
        have HB4 : Hid (Below (wr.heap.size + 1) (wr.alloc (.cells #[.int .u32 e, .int .u32 s, .int .u32 p, .int .i64 k, .int .i64 n, .int .i64 pl] 116)) w4) := hb4
        have HF4 : Hid (16 + ps.size ≤ (Bs y1).length) := by
          have h := HX.out.2
          have hm := HML.out
          show _ ≤ _
          rw [Bs_len, HY1.out, List.length_append, List.length_replicate]
          omega
        have HPS : Hid (ps.size ≤ 112) := by have h := HX.out.2; show _ ≤ _; omega
        clear hrow4 hb4 HR3 HB3 HI3 HL3 HF3 hn3
        go_wp2_with (refine wpList_copy_str (o := ⟨some 47, _, _, _, _, _⟩) rfl (.tmp 45) (.tmp 46) 22 9 rfl 5 Try.underlying22 size5 (wr.heap.size + 1) 16 112 112 ps rfl rfl (Bs y1) 5 HR4.out HPS.out HF4.out (wr.heap.size + 1) (wr.alloc (.cells #[.int .u32 e, .int .u32 s, .int .u32 p, .int .i64 k, .int .i64 n, .int .i64 pl] 116)) HB4.out (Nat.le_refl _) ?_)
        intro w5 hrow5 hb5
        have HR5 : w5.heap[wr.heap.size + 1]? = some (.cells (Bs (secL e s p k n (pieceL (numsOf r) k))).toArray 5 (0, 0)) := by
          have h := HX.out
          rw [hrow5.out, Bs_splice, sec_splice (by rw [HY1.out]) HML.out (by rw [h.1]; exact pieceL_le _ _), h.1, HMK.out]
          unfold secL
          rw [show pl = (pieceL (numsOf r) k).length by rw [← h.1, numsOf_len]; exact h.2.1.symm]
        have HI5 : Hid (BIn w5 (some ⟨wr.heap.size + 1, 0, none⟩) (secL e s p k n (pieceL (numsOf r) k))) := bin_row HR5 (secL_byte (pieceL_byte (numsOf_lt r) k))
        have hb5' : Below (wr.alloc (.cells #[.int .u32 e, .int .u32 s, .int .u32 p, .int .i64 k, .int .i64 n, .int .i64 pl] 116)).heap.size (wr.alloc (.cells #[.int .u32 e, .int .u32 s, .int .u32 p, .int .i64 k, .int .i64 n, .int .i64 pl] 116)) w5 := by
          rw [show (wr.alloc (.cells #[.int .u32 e, .int .u32 s, .int .u32 p, .int .i64 k, .int .i64 n, .int .i64 pl] 116)).heap.size = wr.heap.size + 1 by simp]
          exact hb5
        have hs5 := (HSA.out.call hb5').drop
        have HS5 : Hid _ := hs5
        have hsz5 := hs5.size
        have HLS : Hid (128 = (secL e s p k n (pieceL (numsOf r) k)).length) := (secL_len (pieceL_le _ _)).symm
        have HLF : Hid ((framesK e s p n (numsOf r) k).length + (secL e s p k n (pieceL (numsOf r) k)).length ≤ 140737488355328) := by
          show _ ≤ _
          rw [framesK_len, secL_len (pieceL_le _ _)]
          omega
        clear hs5 hb5' HR5 hrow5 hb5 HR4 HB4 HF4 HPS HSA
        go_wp2_with (at_builtin; refine wpList_append_bytes _ rfl _ _ rfl w1.heap.size _ _ (secL e s p k n (pieceL (numsOf r) k)) (some ⟨wr.heap.size + 1, 0, none⟩) _ 128 rfl rfl HLS.out HS5.out.own HI5.out (fun h => by cases h) HLF.out hsz5 ?_; intro v6 w6 ho6 hg6; have S6 := HS5.out.app ho6 hg6)
        have HS6 : Hid _ := S6.eq (framesK_snoc e s p n (numsOf r) k).symm
        clear S6 ho6 hg6
        go_roundw
        case rel => exact ⟨k + 1, by omega, by go_num, HS6.out⟩
        case measure => simp [intOf]; omega
    · obtain rfl : k = n := by omega
      go_wp2
      go_ret
      have h := HS.out.eq (show framesK e s p k (numsOf r) k = frameN e s p (numsOf r) by unfold frameN; rw [numsOf_len, HN.out])
      exact ⟨_, rfl, h.own, h.bel⟩
end Go.Proofs.Ytnajjfdbmdjcbaa
