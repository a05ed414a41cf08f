/-
  What a table is read into: tableOf, mayHave.
-/
import Derived.Test.YtlcbjmbphekliabJ05
import Derived.Laws.AppendOwnNone
import Derived.Deep.OwnRows
import Derived.Deep.Cut
import Derived.RegionTactic
import Derived.Laws.MakeOwn
namespace Go.Proofs.Ytlcbjmbphekliab.Sv
open Go.RowKit Go.WideShapes

theorem rem_odd (z : Nat) : ((z : Int) % 2 == 1) = decide (z % 2 = 1) := by
  rw [Bool.eq_iff_iff]; simp; omega
end Go.Proofs.Ytlcbjmbphekliab.Sv
namespace Go.Proofs.Ytlcbjmbphekliab.Sv
open Go.RowKit Go.WideShapes

theorem info9 : (Try.prog.info? 9).map (fun i => (i.zero, i.size, i.bytes)) = some (some (.string ByteArray.empty), 1, 16) := by kernel_rfl
def Ss (l : List ByteArray) : List Value := l.map fun s => Value.string s
theorem Ss_len (l : List ByteArray) : (Ss l).length = l.length := by simp [Ss]
theorem Ss_app (a b : List ByteArray) : Ss (a ++ b) = Ss a ++ Ss b := by simp [Ss]
theorem Ss_one (l : List ByteArray) : ∀ u ∈ Ss l, u.oneCell' = true := by
  intro u hu
  simp only [Ss, List.mem_map] at hu
  obtain ⟨b, _, rfl⟩ := hu
  rfl
theorem run_append_strs (w : World) (base : Nat) (ty : TypeId) (v : Value) (l l' : List ByteArray) (p : Option Addr) (c : Nat) (hown : w.ownsRow base 9 1 v l.length (Ss l)) (hin : StrsIn w p l') (hp : p = none → c = 0)
    (hlen : l.length + l'.length ≤ 100000) (hbase : base ≤ w.heap.size) :
    ∃ v' w', (Builtin.append_ #[81, 81] ty #[v, .slice p l'.length c]).run Try.prog w = .ok v' w' ∧ w'.ownsRow base 9 1 v' (l ++ l').length (Ss (l ++ l')) ∧ w.grownBy w' v.ownBlock := by
  obtain ⟨i0, hi, hz0, hz1, hz2⟩ := info_parts info9
  have hmax : l.length + l'.length ≤ maxLen := by unfold maxLen; omega
  cases p with
  | none =>
    obtain rfl : l' = [] := by
      cases l' with
      | nil => rfl
      | cons y ys => obtain ⟨b, o, e, _⟩ := hin (by simp); cases e
    obtain rfl := hp rfl
    exact ⟨v, w, run_append_owned_none (P := Try.prog) w base 81 ty 9 i0 1 Try.underlying81 hi v l.length (Ss l) hown, by simpa using hown, ⟨rfl, rfl, rfl, Nat.le_refl _, fun _ _ _ => rfl⟩⟩
  | some ad =>
    have hc : ∀ j u, (Ss l')[j]? = some u → w.cell? (ad.add j) = some u := by
      intro j u hu
      have hj : j < l'.length := by
        rcases Nat.lt_or_ge j l'.length with h | h
        · exact h
        · simp [Ss, List.getElem?_eq_none h] at hu
      obtain ⟨b, o, e, hcell⟩ := hin (by omega)
      simp at e
      subst e
      rw [add_plain, hcell j hj]
      simp [Ss, List.getElem?_eq_getElem hj] at hu
      simp [List.getD, List.getElem?_eq_getElem hj, ← hu]
    obtain ⟨v', w', h1, h2, h3, _⟩ := run_append_own (P := Try.prog) w base 81 ty 9 i0 (.string ByteArray.empty) 1 16 Try.underlying81 hi hz0 hz1 hz2 rfl (by decide) v l.length (Ss l) hown ad l'.length c (Ss l') (by simp [Ss]) hc (Ss_one l') hmax (by omega) hbase
    exact ⟨v', w', h1, by simpa [Ss_app] using h2, h3⟩
theorem wpList_append_strs (w : World) {ops : Array Oper} {rest : List Oper} {o : Oper} {a : Act} {Q : Exit → Act → World → Prop} (hgd : o.guard = none) (s x : Operand)
    (ho : o.op = .call { callee := .builtin .append, args := #[s, x], argTypes := #[81, 81] }) (base : Nat) (v : Value) (l l' : List ByteArray) (p : Option Addr) (m c : Nat) (hs : a.eval s = v) (hx : a.eval x = .slice p m c) (hm : m = l'.length)
    (hown : w.ownsRow base 9 1 v l.length (Ss l)) (hin : StrsIn w p l') (hp : p = none → c = 0) (hlen : l.length + l'.length ≤ 100000) (hbase : base ≤ w.heap.size)
    (h : ∀ v' w', w'.ownsRow base 9 1 v' (l ++ l').length (Ss (l ++ l')) → w.grownBy w' v.ownBlock → wpList Try.prog ops Q rest (a.put o.dst v') w') : wpList Try.prog ops Q (o :: rest) a w := by
  subst hm
  refine wpList_plain hgd fun K hK => ?_
  obtain ⟨v', w', hr, h2, h3⟩ := run_append_strs w base o.type v l l' p c hown hin hp hlen hbase
  unfold Oper.wp execOp
  simp only [ho, resolve, invoke, builtin, Sem.run_bind, Sem.run_pure, Result.andThen_ok, List.map_toArray, List.map_cons, List.map_nil, hs, hx, hr]
  exact hK _ _ (h v' w' h2 h3)
theorem own_strs {w : World} {base : Nat} {v : Value} {l : List ByteArray} (h : w.ownsRow base 9 1 v l.length (Ss l)) : ∃ q c, v = .slice q l.length c ∧ StrsIn w q l := by
  rcases h.2 with ⟨hv, hn⟩ | ⟨g, cap, cur, hv, hb, hg, hle, hmax, hsz, htk⟩
  · exact ⟨none, 0, by rw [hv, hn], fun h0 => by omega⟩
  · refine ⟨some ⟨g, 0, none⟩, cap, hv, fun _ => ⟨g, 0, rfl, fun i hi => ?_⟩⟩
    subst hv
    have := h.cells rfl i (.string (l.getD i ByteArray.empty)) (by simp [Ss, List.getD, List.getElem?_eq_getElem hi])
    rw [add_plain] at this
    exact this
theorem longB_app (a b : List ByteArray) : longB (a ++ b) = (longB a || longB b) := by unfold longB; rw [List.any_append]
/-- Two lists of at most 300 keys put together in either order. -/
theorem makeE_swap {a b : List ByteArray} (ha : a.length ≤ 300) (hb : b.length ≤ 300) (z : Int) : (makeE (a ++ b) z = 0 ↔ makeE (b ++ a) z = 0) := by
  constructor
  · intro h
    obtain ⟨_, h2, h3, h4, h5⟩ := makeE_ok h
    exact makeE_is (by simp; omega) (by rw [longB_app, Bool.or_comm, ← longB_app]; exact h2) h3 h4 h5
  · intro h
    obtain ⟨_, h2, h3, h4, h5⟩ := makeE_ok h
    exact makeE_is (by simp; omega) (by rw [longB_app, Bool.or_comm, ← longB_app]; exact h2) h3 h4 h5
theorem makeE_both {a b : List ByteArray} (ha : a.length ≤ 300) (hb : b.length ≤ 300) {z : Int} (h1 : makeE a z = 0) (h2 : makeE b z = 0) : makeE (a ++ b) z = 0 := by
  obtain ⟨_, h2', h3, h4, h5⟩ := makeE_ok h1
  obtain ⟨_, h2'', _, _, _⟩ := makeE_ok h2
  exact makeE_is (by simp; omega) (by rw [longB_app, h2', h2'']; rfl) h3 h4 h5
end Go.Proofs.Ytlcbjmbphekliab.Sv
namespace Go.Proofs.Ytlcbjmbphekliab.Sv
open Go.RowKit Go.WideShapes

theorem info3 : (Try.prog.info? 3).map (fun i => (i.zero, i.size, i.bytes)) = some (some (.int .i64 0), 1, 8) := by kernel_rfl
theorem Is_app (a b : List Nat) : Is (a ++ b) = Is a ++ Is b := by simp [Is]
theorem Is_len (a : List Nat) : (Is a).length = a.length := by simp [Is]
theorem take_marks (s : ByteArray) (m k : Nat) (hk : k < 4) : (marksN s m).take (k + 1) = (marksN s m).take k ++ [markAt s k % m] := by
  rw [List.take_succ_eq_append_getElem (by rw [marksN_len]; exact hk)]
  have := marksN_at s m k hk
  rw [List.getD_eq_getElem?_getD, List.getElem?_eq_getElem (by rw [marksN_len]; exact hk), Option.getD_some] at this
  rw [this]
theorem step_g (s : ByteArray) (k a0 gg p : Nat) (h0 : sieveH s = a0) (hg : sieveG s = gg) (hp : k * gg = p) : ((a0 : Int) + (p : Int)) % 4294967296 = ((markAt s k : Nat) : Int) := by
  unfold markAt
  rw [h0, hg, hp]
  omega
end Go.Proofs.Ytlcbjmbphekliab.Sv
namespace Go.Proofs.Ytlcbjmbphekliab.Sv
open Go.RowKit Go.WideShapes

theorem row_set {w : World} {g k v : Nat} {xs : List Nat} (h : w.heap[g]? = some (.cells (Bs xs).toArray 5 (0, 0))) : (w.setCell ⟨g, k, none⟩ (.int .u8 (v : Int))).heap[g]? = some (.cells (Bs (xs.set k v)).toArray 5 (0, 0)) := by
  rw [setCell_eq_setRow w g k _ 5 _ _ h]
  have e := setRow_heap w g _ ((Bs xs).toArray.setIfInBounds k (.int .u8 (v : Int))) 5 (0, 0) h
  rw [e, ← getD_set_bs]
  simp
theorem row_other {w : World} {g k g' : Nat} {v : Value} (hne : g' ≠ g) : (w.setCell ⟨g, k, none⟩ v).heap[g']? = w.heap[g']? := heap_setCell_other w ⟨g, k, none⟩ g' v hne
theorem row_cell {w : World} {g k : Nat} {xs : List Nat} (h : w.heap[g]? = some (.cells (Bs xs).toArray 5 (0, 0))) (hk : k < xs.length) : w.cell? ⟨g, k, none⟩ = some (.int .u8 (xs.getD k 0 : Nat)) := by
  rw [Lib.cell_of_heap h]
  simp [Bs, List.getD, List.getElem?_eq_getElem hk]
theorem getD_set_same {xs : List Nat} {k v : Nat} (hk : k < xs.length) : (xs.set k v).getD k 0 = v := by
  rw [List.getD_eq_getElem?_getD, List.getElem?_set_self hk]; rfl
theorem getD_set_diff {xs : List Nat} {k j v : Nat} (h : j ≠ k) : (xs.set k v).getD j 0 = xs.getD j 0 := by
  rw [List.getD_eq_getElem?_getD, List.getElem?_set_ne (fun e => h e.symm), ← List.getD_eq_getElem?_getD]
theorem set_lt {xs : List Nat} {k v : Nat} (h : ∀ c ∈ xs, c < 256) (hv : v < 256) : ∀ c ∈ xs.set k v, c < 256 := by
  intro c hc
  rcases List.mem_or_eq_of_mem_set hc with h1 | rfl
  · exact h c h1
  · exact hv
/-- What the k-th byte of both is. -/
def orN (xs ys : List Nat) (j : Nat) : Nat := if j < ys.length then xs.getD j 0 ||| ys.getD j 0 else xs.getD j 0
theorem orN_lt {xs ys : List Nat} (hx : ∀ c ∈ xs, c < 256) (hy : ∀ c ∈ ys, c < 256) (j : Nat) : orN xs ys j < 256 := by
  unfold orN
  split
  · exact Nat.or_lt_two_pow (n := 8) (getD_lt hx j) (getD_lt hy j)
  · exact getD_lt hx j
/-- The three rows of SieveBits: of zeros, of 255 up to k, of both up to k. -/
structure Tri (w0 w : World) (g1 g2 g3 n k : Nat) (xs ys A C : List Nat) : Prop where
  z : w.heap[g1]? = some (.cells (Bs (List.replicate n 0)).toArray 5 (0, 0))
  f : w.heap[g2]? = some (.cells (Bs A).toArray 5 (0, 0))
  b : w.heap[g3]? = some (.cells (Bs C).toArray 5 (0, 0))
  la : A.length = n
  lc : C.length = n
  fa : ∀ j, j < k → A.getD j 0 = 255
  fc : ∀ j, j < k → C.getD j 0 = orN xs ys j
  ta : ∀ c ∈ A, c < 256
  tc : ∀ c ∈ C, c < 256
  below : Below w0.heap.size w0 w
  n1 : w0.heap.size ≤ g1
  n2 : w0.heap.size ≤ g2
  n3 : w0.heap.size ≤ g3
  d12 : g1 ≠ g2
  d13 : g1 ≠ g3
  d23 : g2 ≠ g3
theorem Tri.step {w0 w : World} {g1 g2 g3 n k : Nat} {xs ys A C : List Nat} (h : Tri w0 w g1 g2 g3 n k xs ys A C) (hk : k < n) (x : Nat) (hx : x < 256) (he : x = orN xs ys k) {w' : World}
    (e1 : ∀ g, g ≠ g2 → g ≠ g3 → w'.heap[g]? = w.heap[g]?) (e2 : w'.heap[g2]? = some (.cells (Bs (A.set k 255)).toArray 5 (0, 0))) (e3 : w'.heap[g3]? = some (.cells (Bs (C.set k x)).toArray 5 (0, 0))) (hb : Below w0.heap.size w0 w') :
    Tri w0 w' g1 g2 g3 n (k + 1) xs ys (A.set k 255) (C.set k x) := by
  refine ⟨(e1 g1 h.d12 h.d13).trans h.z, e2, e3, by rw [List.length_set]; exact h.la, by rw [List.length_set]; exact h.lc, fun j hj => ?_, fun j hj => ?_, set_lt h.ta (by decide), set_lt h.tc hx, hb, h.n1, h.n2, h.n3, h.d12, h.d13, h.d23⟩
  · by_cases e : j = k
    · subst e; exact getD_set_same (by rw [h.la]; exact hk)
    · rw [getD_set_diff e]; exact h.fa j (by omega)
  · by_cases e : j = k
    · subst e; rw [getD_set_same (by rw [h.lc]; exact hk)]; exact he
    · rw [getD_set_diff e]; exact h.fc j (by omega)
theorem Tri.two {w0 w : World} {g1 g2 g3 n k : Nat} {xs ys A C : List Nat} (h : Tri w0 w g1 g2 g3 n k xs ys A C) (hk : k < n) (x : Nat) (hx : x < 256) (he : x = orN xs ys k) :
    Tri w0 ((w.setCell ⟨g2, k, none⟩ (.int .u8 255)).setCell ⟨g3, k, none⟩ (.int .u8 (x : Int))) g1 g2 g3 n (k + 1) xs ys (A.set k 255) (C.set k x) := by
  refine h.step hk x hx he (fun g e2 e3 => ?_) ?_ ?_ ?_
  · rw [row_other e3, row_other e2]
  · rw [row_other h.d23]
    exact row_set (v := 255) h.f
  · exact row_set ((row_other h.d23.symm).trans h.b)
  · exact (h.below.setCell (p := ⟨g2, k, none⟩) h.n2 _).setCell (p := ⟨g3, k, none⟩) h.n3 _
theorem Tri.three {w0 w : World} {g1 g2 g3 n k : Nat} {xs ys A C : List Nat} (h : Tri w0 w g1 g2 g3 n k xs ys A C) (hk : k < n) (y x : Nat) (hx : x < 256) (he : x = orN xs ys k) :
    Tri w0 (((w.setCell ⟨g2, k, none⟩ (.int .u8 255)).setCell ⟨g3, k, none⟩ (.int .u8 (y : Int))).setCell ⟨g3, k, none⟩ (.int .u8 (x : Int))) g1 g2 g3 n (k + 1) xs ys (A.set k 255) (C.set k x) := by
  refine h.step hk x hx he (fun g e2 e3 => ?_) ?_ ?_ ?_
  · rw [row_other e3, row_other e3, row_other e2]
  · rw [row_other h.d23, row_other h.d23]
    exact row_set (v := 255) h.f
  · have e := row_set (k := k) (v := x) (row_set (k := k) (v := y) ((row_other (k := k) (v := .int .u8 255) h.d23.symm).trans h.b))
    rw [List.set_set] at e
    exact e
  · exact ((h.below.setCell (p := ⟨g2, k, none⟩) h.n2 _).setCell (p := ⟨g3, k, none⟩) h.n3 _).setCell (p := ⟨g3, k, none⟩) h.n3 _
theorem Tri.drew {w0 w : World} {g1 g2 g3 n k : Nat} {xs ys A C : List Nat} (h : Tri w0 w g1 g2 g3 n k xs ys A C) : Tri w0 w.drew g1 g2 g3 n k xs ys A C := ⟨h.z, h.f, h.b, h.la, h.lc, h.fa, h.fc, h.ta, h.tc, h.below.drew, h.n1, h.n2, h.n3, h.d12, h.d13, h.d23⟩
theorem Tri.full {w0 w : World} {g1 g2 g3 n : Nat} {xs ys A C : List Nat} (h : Tri w0 w g1 g2 g3 n n xs ys A C) : A = List.replicate n 255 :=
  nums_ext (by rw [h.la]; simp) (fun i hi => by rw [h.fa i (by rw [← h.la]; exact hi)]; rw [h.la] at hi; simp [List.getD, hi])
theorem Tri.more {w0 w : World} {g1 g2 g3 n : Nat} {xs ys A C : List Nat} (h : Tri w0 w g1 g2 g3 n n xs ys A C) (hn : xs.length = n) (s : ByteArray) (hb : hasB xs s = true) : hasB C s = true :=
  has_more (by rw [h.lc, hn]) (fun i hi => by
    rw [h.fc i (by omega)]
    unfold orN
    split
    · exact ⟨_, rfl⟩
    · exact ⟨0, by simp⟩) s hb
theorem three_at (w : World) (o : Obj) (g : Nat) (h1 : w.heap.size ≤ g) (h2 : g ≤ w.heap.size + 2) : (((w.alloc o).alloc o).alloc o).drew.heap[g]? = some o := by
  show (((w.alloc o).alloc o).alloc o).heap[g]? = some o
  have e : g = w.heap.size ∨ g = w.heap.size + 1 ∨ g = w.heap.size + 2 := by omega
  rcases e with rfl | rfl | rfl
  · rw [heap_alloc_old _ _ (by simp; omega), heap_alloc_old _ _ (by simp), heap_alloc_new]
  · rw [heap_alloc_old _ _ (by simp)]
    have := heap_alloc_new (w.alloc o) o
    simpa using this
  · have := heap_alloc_new ((w.alloc o).alloc o) o
    simpa using this
theorem tri0 (w : World) (Z : Array Value) (n g1 g2 g3 : Nat) (xs ys : List Nat) (hZ : (Bs (List.replicate n 0)).toArray = Z) (a1 : w.heap.size ≤ g1 ∧ g1 ≤ w.heap.size + 2) (a2 : w.heap.size ≤ g2 ∧ g2 ≤ w.heap.size + 2) (a3 : w.heap.size ≤ g3 ∧ g3 ≤ w.heap.size + 2) (d1 : g1 ≠ g2) (d2 : g1 ≠ g3) (d3 : g2 ≠ g3) :
    Tri w (((w.alloc (.cells Z 5)).alloc (.cells Z 5)).alloc (.cells Z 5)).drew g1 g2 g3 n 0 xs ys (List.replicate n 0) (List.replicate n 0) := by
  subst hZ
  have hz : ∀ c ∈ List.replicate n 0, c < 256 := by intro c hc; have := List.eq_of_mem_replicate hc; omega
  exact ⟨three_at _ _ _ a1.1 a1.2, three_at _ _ _ a2.1 a2.2, three_at _ _ _ a3.1 a3.2, by simp, by simp, fun j hj => absurd hj (by omega), fun j hj => absurd hj (by omega), hz, hz,
    (((((Below.refl _ _).alloc (Nat.le_refl _) _).alloc (by simp) _).alloc (by simp; omega) _)).drew, a1.1, a2.1, a3.1, d1, d2, d3⟩
end Go.Proofs.Ytlcbjmbphekliab.Sv
namespace Go.Proofs.Ytlcbjmbphekliab.Sv
open Go.RowKit Go.WideShapes

/-- A row of four marks. -/
structure Four (w : World) (v : Value) (g c : Nat) (l : List Nat) : Prop where
  v : v = .slice (some ⟨g, 0, none⟩) 4 c
  row : ∃ cur : Array Value, w.heap[g]? = some (.cells cur 3 (0, 0)) ∧ ∀ i, i < 4 → cur[i]? = some (.int .i64 (l.getD i 0 : Nat))
theorem four_of {w : World} {base : Nat} {v : Value} {l : List Nat} (h : w.ownsRow base 3 1 v 4 (Is l)) : ∃ g c, Four w v g c l ∧ base ≤ g := by
  rcases h.2 with ⟨_, hn⟩ | ⟨g, cap, cur, hv, hb, hg, hle, hmax, hsz, htk⟩
  · cases hn
  · refine ⟨g, cap, ⟨hv, cur, hg, fun i hi => ?_⟩, hb⟩
    have hl : l.length = 4 := by have := h.1; rw [Is_len] at this; omega
    have e : (cur.toList.take (4 * 1))[i]? = (Is l)[i]? := by rw [htk]
    rw [List.getElem?_take_of_lt (by omega)] at e
    simp only [Array.getElem?_toList] at e
    rw [e]
    simp [Is, List.getD, List.getElem?_eq_getElem (show i < l.length by omega)]
theorem Four.cell {w : World} {v : Value} {g c : Nat} {l : List Nat} (h : Four w v g c l) {i : Nat} (hi : i < 4) : w.cell? ⟨g, i, none⟩ = some (.int .i64 (l.getD i 0 : Nat)) := by
  obtain ⟨cur, hg, hc⟩ := h.row
  rw [cell_of_row w g i cur 3 _ hg]
  exact hc i hi
theorem Four.same {w w' : World} {v : Value} {g c : Nat} {l : List Nat} (h : Four w v g c l) (e : w'.heap[g]? = w.heap[g]?) : Four w' v g c l := by
  obtain ⟨cur, hg, hc⟩ := h.row
  exact ⟨h.v, cur, e.trans hg, hc⟩
theorem Flt.store {w0 w : World} {g m : Nat} {xs : List Nat} (h : Flt w0 w g m xs) (n j c mk o : Nat) (hj : n / 8 = j) (hc : xs.getD (n / 8) 0 = c) (hk : 2 ^ (n % 8) = mk) (ho : (c ||| mk) = o) :
    Flt w0 (w.setCell ⟨g, j, none⟩ (.int .u8 (o : Int))) g m (setN xs n) := by
  refine ⟨?_, by rw [setN_len]; exact h.len, setN_lt h.lt n, h.below.setCell (p := ⟨g, j, none⟩) h.ge _, h.ge⟩
  unfold setN
  rw [hj, ← hj, hc, hk, ho, hj]
  exact row_set h.blk
theorem Flt.drew {w0 w : World} {g m : Nat} {xs : List Nat} (h : Flt w0 w g m xs) : Flt w0 w.drew g m xs := ⟨h.blk, h.len, h.lt, h.below.drew, h.ge⟩
end Go.Proofs.Ytlcbjmbphekliab.Sv
namespace Go.Proofs.Ytlcbjmbphekliab.Sv
open Go.RowKit Go.WideShapes

def hasE (L : Nat) (s : ByteArray) : Nat := if L < 1 ∨ 8192 < L then 2 else if 256 < s.size then 3 else 0
def hasR (xs : List Nat) (s : ByteArray) : Bool := if hasE xs.length s = 0 then hasB xs s else false
theorem Has_u (p : Option Addr) (L cap : Nat) (xs : List Nat) (s : ByteArray) (w : World) (hL : L = xs.length) (hb : BIn w p xs) (r : Bool) (hr : hasR xs s = r) (E : Nat) (hE : hasE xs.length s = E) :
    Calls Try.prog 45 #[.slice p L cap, .string s] w fun e w' => e = .returned (.tuple #[.bool r, .int .i64 E]) ∧ Below w.heap.size w w' := by
  subst hE hr
  by_cases h1 : L < 1 ∨ 8192 < L
  · have e : hasE xs.length s = 2 := by unfold hasE; rw [if_pos (by omega)]
    have er : hasR xs s = false := by unfold hasR; rw [e]; rfl
    rw [e, er]
    exact (Has_arg p L cap s w (by omega)).mono fun _ _ ⟨a, b⟩ => ⟨a, by rw [b]; exact Below.refl _ _⟩
  · by_cases h2 : 256 < s.size
    · have e : hasE xs.length s = 3 := by unfold hasE; rw [if_neg (by omega), if_pos h2]
      have er : hasR xs s = false := by unfold hasR; rw [e]; rfl
      rw [e, er]
      exact (Has_long p L cap s w (by omega) (by omega) (by omega)).mono fun _ _ ⟨a, b⟩ => ⟨a, by rw [b]; exact Below.refl _ _⟩
    · have e : hasE xs.length s = 0 := by unfold hasE; rw [if_neg (by omega), if_neg h2]
      have er : hasR xs s = hasB xs s := by unfold hasR; rw [if_pos e]
      rw [e, er]
      exact Has_ok p L cap xs s w hL hb (by omega) (by omega) (by omega) _ rfl
theorem bit_div (c r : Nat) : (c / 2 ^ r % 2 = 0) ↔ c.testBit r = false := by
  rw [Nat.testBit_eq_decide_div_mod_eq, decide_eq_false_iff_not]
  omega
end Go.Proofs.Ytlcbjmbphekliab.Sv
namespace Go.Proofs.Ytlcbjmbphekliab
open Go.RowKit Go.WideShapes

theorem pall_any (q : Option Addr) (n c : Nat) (ss : List ShV) (w : World) (h : Sheets w q n ss) (hz : n ≤ 1000000) (hl : (pagesOf ss).flatten.length ≤ 1000000) :
    Calls Try.prog 31 #[.slice q n c] w fun e w' => ∃ v, e = .returned v ∧ EOwn w' w.heap.size v (pagesOf ss).flatten ∧ Below w.heap.size w w' := by
  have HB := betweenA q n c ss ByteArray.empty w h hz hl
  have e1 : betG (skipA ByteArray.empty) (keepA ByteArray.empty) (pagesOf ss) = (pagesOf ss).flatten := by
    unfold betG
    rw [← List.flatMap_id]
    congr 1
    funext p
    rw [if_neg (by simp [skipA, ltB_empty])]
    rw [List.filter_eq_self.2 (fun x _ => by simp [keepA, ltB_empty])]
    rfl
  rw [e1] at HB
  clear e1
  go_enter Try.func31, Try.ntmps31
  go_wp2_with fail
  refine HB.mono ?_
  rintro e w1 ⟨v, rfl, ho, hb⟩
  go_wp2
  go_ret
  exact ⟨v, rfl, ho, hb⟩
theorem keys_short {l : List EntV} (h : ∀ x ∈ l, OkE x) : Sv.longB (keysE l) = false := by
  rw [Sv.longB_no]
  intro s hs
  obtain ⟨x, hx, rfl⟩ := List.mem_map.1 hs
  exact (h x hx).key2
theorem sieve_ok {l : List EntV} (h : checkE l = 0) (h0 : 0 < l.length) : Sv.makeE (keysE l) ((((10 * l.length + 7) / 8 * 8 : Nat) : Int)) = 0 := by
  obtain ⟨h1, h2, _⟩ := (checkE_rise l).1 h
  refine Sv.makeE_is (by simp [keysE]; exact h1) (keys_short h2) (by omega) (by omega) (by omega)
/-- Texts of the call's own in a row, the first k of them written. -/
def keyCells (l : List EntV) (k n : Nat) : List Value := ((l.take k).map fun x => Value.string x.key) ++ List.replicate (n - k) (.string ⟨#[]⟩)
theorem keyCells_set {l : List EntV} {k n : Nat} (hk : k < l.length) (hn : n = l.length) {y : EntV} (hy : l.getD k zeroE = y) : (keyCells l k n).toArray.setIfInBounds k (.string y.key) = (keyCells l (k + 1) n).toArray := by
  apply Array.toList_inj.1
  rw [Array.toList_setIfInBounds, List.toList_toArray, List.toList_toArray]
  unfold keyCells
  rw [take_snoc hk hy, List.map_append, List.append_assoc]
  have hl : ((l.take k).map fun x => Value.string x.key).length = k := by rw [List.length_map, List.length_take]; omega
  rw [List.set_append_right _ _ (by omega), hl, Nat.sub_self, show n - k = (n - (k + 1)) + 1 by omega, List.replicate_succ, List.set_cons_zero]
  rfl
theorem keyCells_in {w : World} {g n : Nat} {l : List EntV} {fr : Nat × Nat} (hg : w.heap[g]? = some (.cells (keyCells l n n).toArray 9 fr)) (hn : n = l.length) : Sv.StrsIn w (some ⟨g, 0, none⟩) (keysE l) := by
  intro hp
  refine ⟨g, 0, rfl, fun i hi => ?_⟩
  have hi' : i < l.length := by simpa [keysE] using hi
  rw [cell_of_row w g (0 + i) _ _ _ hg, Nat.zero_add]
  unfold keyCells
  rw [List.take_of_length_le (by omega), Nat.sub_self]
  simp [keysE, List.getD, hi']
theorem keyCells_zero (l : List EntV) (n : Nat) : (madeCells #[Value.string ⟨#[]⟩] n) = (keyCells l 0 n).toArray := by
  apply Array.toList_inj.1
  rw [toList_madeCells_one]
  simp [keyCells]
structure OnK (w : World) (l : List EntV) (n k : Nat) (wr : World) : Prop where
  blk : wr.heap[w.heap.size]? = some (.cells (keyCells l k n).toArray 9 (0, 0))
  bel : Below w.heap.size w wr
theorem OnK.next {w wr : World} {l : List EntV} {n k : Nat} (h : OnK w l n k wr) (hk : k < l.length) (hn : n = l.length) {y : EntV} (hy : l.getD k zeroE = y) (o : Obj) : OnK w l n (k + 1) ((wr.alloc o).setCell ⟨w.heap.size, k, none⟩ (.string y.key)) := by
  refine ⟨?_, (below_bt h.bel (below_alloc _ _)).setCell (p := ⟨w.heap.size, k, none⟩) (Nat.le_refl _) _⟩
  rw [← keyCells_set hk hn hy]
  exact block_set (block_below h.blk (below_alloc _ _)) _
theorem OnK.cell {w wr : World} {l : List EntV} {n k : Nat} (h : OnK w l n k wr) (hk : k < l.length) (hn : n = l.length) : wr.cell? ⟨w.heap.size, k, none⟩ = some (.string ⟨#[]⟩) ∧ wr.frozen? ⟨w.heap.size, k, none⟩ = false := by
  refine ⟨?_, by simp [World.frozen?, h.blk]⟩
  rw [cell_of_row wr _ k _ _ _ h.blk]
  have hl : ((l.take k).map fun x => Value.string x.key).length = k := by rw [List.length_map, List.length_take]; omega
  unfold keyCells
  rw [List.getElem?_toArray, List.getElem?_append_right (by omega), hl, Nat.sub_self, List.getElem?_replicate, if_pos (by omega)]
/-- What a sieve answers. -/
structure SvOut (base : Nat) (xs : List Nat) (v : Value) (w' : World) : Prop where
  lies : ∃ p c, v = .slice p xs.length c ∧ BIn w' p xs ∧ xs.length ≤ c ∧ c ≤ maxLen ∧ (p = none → c = 0)
theorem info9s : (Try.prog.info? 9).map (fun i => (i.zero, i.size, i.bytes)) = some (some (.string ⟨#[]⟩), 1, 16) := by kernel_rfl
set_option maxRecDepth 8000 in
set_option maxHeartbeats 1000000 in
theorem sieveOf_any (q : Option Addr) (n c : Nat) (l : List EntV) (w : World) (h : EntsL w q n l) (hc : checkE l = 0) (h0 : 0 < n) :
    Calls Try.prog 30 #[.slice q n c] w fun e w' => ∃ v, e = .returned v ∧ Row w' v (sieveN l) ∧ Below w.heap.size w w' := by
  obtain ⟨i0, hi, hz0, hz1, hz2⟩ := info_parts' info9s
  have HE : Hid (EntsIn w q l ∧ n = l.length) := ⟨h.lies, h.n⟩
  have HC : Hid (checkE l = 0) := hc
  have hz : (n : Int) ≤ 4096 := by have := ((checkE_rise l).1 hc).1; have := h.n; omega
  have hz1' : (1 : Int) ≤ (n : Int) := by omega
  obtain ⟨wh, hwh⟩ : ∃ wh, (10 * n + 7) / 8 = wh := ⟨_, rfl⟩
  have hq : (10 * (n : Int) + 8 - 1) / 8 = (wh : Int) := by omega
  have HWH : Hid ((10 * n + 7) / 8 = wh) := hwh
  have hwb : (wh : Int) ≤ 8192 := by omega
  have hwb0 : (1 : Int) ≤ (wh : Int) := by omega
  obtain ⟨m, hm⟩ : ∃ m, wh * 8 = m := ⟨_, rfl⟩
  have hmI : (wh : Int) * 8 = (m : Int) := by omega
  have HM : Hid (wh * 8 = m) := hm
  clear h hc h0 hwh hm
  go_enter Try.func30, Try.ntmps30
  go_wp2_with (at_make; refine wpList_make_full _ rfl _ _ 81 rfl w.heap.size 9 i0 (.string ⟨#[]⟩) 1 Try.underlying81 hi hz0 hz1 .i64 .i64 _ _ n rfl rfl (by omega) (by omega) (by rw [hz2]; omega) (by unfold maxLen; omega) (by simp) ?_)
  intro w2 hown hgrow
  have hrow := Sv.row_full hown
  have HF : Hid (OnK w l n 0 w2) := ⟨by rw [← keyCells_zero]; rw [Array.toArray_toList] at hrow; exact hrow, (Below.refl _ _).grown hgrow (Nat.le_refl _) (fun k hk => by cases hk)⟩
  clear hown hgrow hrow
  go_wp2
  go_loopw [14] (fun i wr => ∃ k : Nat, k ≤ n ∧ i = .int .i64 k ∧ OnK w l n k wr) (fun i _ => n - (intOf i).toNat)
  case atStart => exact ⟨0, by omega, rfl, HF.out⟩
  case round =>
    obtain ⟨k, hk, rfl, hon⟩ := hrel
    have HO : Hid (OnK w l n k wr) := hon
    clear hon HF
    by_cases hkn : k < n
    · have hkI : (k : Int) < (n : Int) := by omega
      have hkl : k < l.length := by have := HE.out.2; omega
      obtain ⟨b, o, rfl⟩ := HE.out.1.addr (by omega)
      obtain ⟨x0, x1, x2, x3⟩ := (HE.out.1.below HO.out.bel).at hkl
      obtain ⟨x, hx⟩ : ∃ x, l.getD k zeroE = x := ⟨_, rfl⟩
      rw [hx] at x0 x1 x2 x3
      obtain ⟨ke, ve, se, ge⟩ := x
      simp only at x0 x1 x2 x3
      obtain ⟨c0, f0⟩ := OnK.cell (wr := wr.alloc (.cells #[.string ke, .string ve, .int .i64 se, .bool ge] 37)) ⟨block_below HO.out.blk (below_alloc _ _), below_bt HO.out.bel (below_alloc _ _)⟩ hkl HE.out.2
      have HX : Hid (l.getD k zeroE = ⟨ke, ve, se, ge⟩ ∧ k < l.length ∧ k < n) := ⟨hx, hkl, hkn⟩
      clear hx hkl hkn
      go_wp2
      go_roundw
      case rel => exact ⟨k + 1, by have := HX.out; omega, by go_num, HO.out.next HX.out.2.1 HE.out.2 HX.out.1 _⟩
      case measure => have := HX.out; simp [intOf]; omega
    · obtain rfl : k = n := by omega
      have HMK := Sv.Make_ok (some ⟨w.heap.size, 0, none⟩) k k m (keysE l) wr (by simp [keysE]; exact HE.out.2) (keyCells_in HO.out.blk HE.out.2) hz (keys_short ((checkE_rise l).1 HC.out).2.1) (by omega) (by omega) (by have := HM.out; omega)
      go_wp2_with fail
      refine HMK.mono ?_
      rintro e w3 ⟨g, rfl, hflt⟩
      have HFL : Hid (Sv.Flt wr w3 g m (Sv.makeN (keysE l) m)) := hflt
      clear hflt HMK
      go_wp2
      go_ret
      have hs : sieveN l = Sv.makeN (keysE l) m := by unfold sieveN; rw [← HE.out.2, HWH.out, HM.out]
      have hlen : (sieveN l).length = m / 8 := by rw [hs]; exact HFL.out.len
      refine ⟨_, rfl, ⟨some ⟨g, 0, none⟩, m / 8, by rw [hlen]; rfl, ?_, by omega, by unfold maxLen; have := HM.out; omega, by simp⟩, below_bt HO.out.bel HFL.out.below⟩
      rw [hs]
      exact Sv.bin_row HFL.out.blk HFL.out.lt
end Go.Proofs.Ytlcbjmbphekliab
namespace Go.Proofs.Ytlcbjmbphekliab
open Go.RowKit Go.WideShapes

/-- A table as it is read into: its pages and its sieve. -/
structure TabIn (w : World) (v : Value) (ss : List ShV) : Prop where
  lies : ∃ q c vs, v = .agg #[.slice q ss.length c, vs] ∧ Sheets w q ss.length ss ∧ Row w vs (sieveN (pagesOf ss).flatten)
theorem TabIn.below {w w' : World} {v : Value} {ss : List ShV} (h : TabIn w v ss) (hb : Below w.heap.size w w') : TabIn w' v ss := by
  obtain ⟨q, c, vs, h1, h2, h3⟩ := h.lies
  exact ⟨q, c, vs, h1, h2.below hb, h3.below hb⟩
/-- So much of a table is small. -/
structure FewT (ss : List ShV) : Prop where
  n : ss.length ≤ 1000000
  l : (pagesOf ss).flatten.length ≤ 1000000
theorem set2_at {B g : Nat} {w w' : World} {a b : Value} (h : Below B w w') (hg : B ≤ g) : Below B w ((w'.setCell ⟨g, 0, none⟩ a).setCell ⟨g, 1, none⟩ b) := (h.setCell (p := ⟨g, 0, none⟩) hg a).setCell (p := ⟨g, 1, none⟩) hg b
set_option maxRecDepth 8000 in
set_option maxHeartbeats 1000000 in
theorem tableOf_any (q : Option Addr) (c : Nat) (ss : List ShV) (w : World) (h : Sheets w q ss.length ss) (hf : FewT ss) (l : List EntV) (hl : (pagesOf ss).flatten = l) (hc : checkE l = 0) (h0 : 0 < l.length) :
    Calls Try.prog 16 #[.slice q ss.length c] w fun e w' => ∃ vs, e = .returned (.agg #[.slice q ss.length c, vs]) ∧ Row w' vs (sieveN l) ∧ Below w.heap.size w w' := by
  have HBX : Hid ((w.alloc (.cells #[.slice none 0 0, .slice none 0 0] 46)).heap[w.heap.size]? = some (.cells #[.slice none 0 0, .slice none 0 0] 46 (0, 0))) := heap_alloc_new _ _
  have HAL := pall_any q ss.length c ss _ (h.below (below_alloc w (.cells #[.slice none 0 0, .slice none 0 0] 46))) hf.n hf.l
  rw [hl] at HAL
  have HC : Hid (checkE l = 0 ∧ 0 < l.length) := ⟨hc, h0⟩
  clear h hc h0 hf hl
  go_enter Try.func16, Try.ntmps16
  go_wp2_with fail
  refine HAL.mono ?_
  rintro e w1 ⟨v1, rfl, ho1, hb1⟩
  obtain ⟨q1, c1, rfl, _, _, _⟩ := ho1.form
  have HB1 : Hid (Below w.heap.size w w1) := below_bt (below_alloc _ _) hb1
  have HX1 : Hid (w1.heap[w.heap.size]? = some (.cells #[.slice none 0 0, .slice none 0 0] 46 (0, 0))) := block_below HBX.out hb1
  have HSV := sieveOf_any q1 l.length c1 l w1 ⟨rfl, ho1.ents⟩ HC.out.1 HC.out.2
  clear ho1 hb1 HAL
  go_wp2_with fail
  refine HSV.mono ?_
  rintro e w2 ⟨v2, rfl, hr2, hb2⟩
  obtain ⟨p2, c2, rfl, hbin, hcc⟩ := hr2.lies
  have HB2 : Hid (Below w.heap.size w w2) := below_bt HB1.out hb2
  have HX2 : Hid (w2.heap[w.heap.size]? = some (.cells #[.slice none 0 0, .slice none 0 0] 46 (0, 0))) := block_below HX1.out hb2
  have HR2 : Hid (BIn w2 p2 (sieveN l) ∧ (sieveN l).length ≤ c2 ∧ c2 ≤ maxLen ∧ (p2 = none → c2 = 0)) := ⟨hbin, hcc⟩
  obtain ⟨⟨z0, z1⟩, f0, f1⟩ := two2 HX2.out
  clear hb2 HSV hr2 hbin hcc
  go_wp2
  (try simp only [Exit.inBlock, Exit.then])
  refine bodyPost_ret (v := .agg #[.slice q ss.length c, .slice p2 (sieveN l).length c2]) ?_ rfl ⟨_, rfl, ⟨p2, c2, rfl, ?_, HR2.out.2⟩, set2_at HB2.out (Nat.le_refl _)⟩
  · rw [results_cell1 rfl]
    go_simp
  · exact bin_grown (g := w.heap.size) (block_set HX2.out (.slice q ss.length c)) (by simp) (by simp) (bin_grown HX2.out (by simp) (by simp) HR2.out.1 (grown_set _ _ _ _)) (grown_set _ _ _ _)
set_option maxHeartbeats 1000000 in
theorem mayHave_any (q : Option Addr) (n c : Nat) (p : Option Addr) (m cp : Nat) (xs : List Nat) (key : ByteArray) (w : World) (hb : BIn w p xs) (hm : m = xs.length) (r : Bool) (hr : Sv.hasR xs key = r) :
    Calls Try.prog 27 #[.agg #[.slice q n c, .slice p m cp], .string key] w fun e w' => e = .returned (.bool r) ∧ Below w.heap.size w w' := by
  obtain ⟨E, hE⟩ : ∃ E, Sv.hasE xs.length key = E := ⟨_, rfl⟩
  have HHA := Sv.Has_u p m cp xs key _ hm (hb.alloc (.cells #[.slice q n c, .slice p m cp] 46)) r hr E hE
  have HRE : Hid (E ≠ 0 → r = false) := by
    intro h
    rw [← hr]
    unfold Sv.hasR
    rw [hE]
    simp [h]
  clear hb hm hr hE
  go_enter Try.func27, Try.ntmps27
  go_wp2_with fail
  refine HHA.mono ?_
  rintro e w1 ⟨rfl, hb1⟩
  have HB : Hid (Below w.heap.size w w1) := below_bt (below_alloc _ _) hb1
  clear hb1 HHA
  cases r with
  | false =>
    go_wp2
    go_ret
    exact ⟨rfl, HB.out⟩
  | true =>
    have hE0 : E = 0 := Classical.byContradiction fun h => by have := HRE.out h; cases this
    subst hE0
    go_wp2
    go_ret
    exact ⟨rfl, HB.out⟩
end Go.Proofs.Ytlcbjmbphekliab
