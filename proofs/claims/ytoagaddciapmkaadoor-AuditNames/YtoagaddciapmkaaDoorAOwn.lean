/-
  Rows of records of one's own, and appending to them.
-/
import Derived.Test.YtoagaddciapmkaaDoorAMis
import Derived.Laws.AppendOwnNone
namespace Go.Proofs.YtoagaddciapmkaaDoor
open Go.RowKit Go.WideShapes

def cellsR (l : List RecV) : List Value := l.flatMap recC
theorem cellsR_len (l : List RecV) : (cellsR l).length = l.length * 6 := by
  induction l with
  | nil => rfl
  | cons p l ih => simp only [cellsR, recC, List.flatMap_cons, List.length_append, List.length_cons, List.length_nil] at *; omega
theorem cellsR_app (l m : List RecV) : cellsR (l ++ m) = cellsR l ++ cellsR m := by simp [cellsR]
theorem cellsR_at : ∀ (l : List RecV) (i k : Nat), i < l.length → k < 6 → (cellsR l)[i * 6 + k]? = (recC (l.getD i zeroR))[k]?
  | p :: l, 0, k, _, hk => by
    simp only [cellsR, List.flatMap_cons, Nat.zero_mul, Nat.zero_add, List.getD_cons_zero]
    rw [List.getElem?_append_left (by simpa [recC] using hk)]
  | p :: l, i + 1, k, hi, hk => by
    have := cellsR_at l i k (by simpa using hi) hk
    rw [show (i + 1) * 6 + k = (recC p).length + (i * 6 + k) from by simp only [recC, List.length_cons, List.length_nil]; omega]
    simp only [cellsR, List.flatMap_cons, List.getD_cons_succ] at this ⊢
    rw [List.getElem?_append_right (by omega), Nat.add_sub_cancel_left]
    exact this
  | [], _, _, h, _ => by simp at h
theorem cellsR_one (l : List RecV) : ∀ u ∈ cellsR l, u.oneCell' = true := by
  intro u hu
  simp only [cellsR, recC, List.mem_flatMap, List.mem_cons, List.not_mem_nil, or_false] at hu
  obtain ⟨p, _, h⟩ := hu
  rcases h with rfl | rfl | rfl | rfl | rfl | rfl <;> rfl
theorem recC_at {w : World} {b o : Nat} {r : RecV} (h : ∀ k, k < 6 → w.cell? ⟨b, o + k, none⟩ = (recC r)[k]?) : RecAt w b o r :=
  ⟨h 0 (by omega), h 1 (by omega), h 2 (by omega), h 3 (by omega), h 4 (by omega), h 5 (by omega)⟩
theorem at_recC {w : World} {b o : Nat} {r : RecV} (h : RecAt w b o r) : ∀ k, k < 6 → w.cell? ⟨b, o + k, none⟩ = (recC r)[k]?
  | 0, _ => h.c0
  | 1, _ => h.c1
  | 2, _ => h.c2
  | 3, _ => h.c3
  | 4, _ => h.c4
  | 5, _ => h.c5
  | k + 6, hk => by omega
def ROwn (w : World) (base : Nat) (v : Value) (l : List RecV) : Prop := w.ownsRow base 41 6 v l.length (cellsR l)
theorem rown_nil (w : World) (base : Nat) : ROwn w base (.slice none 0 0) [] := World.ownsRow_nil _ _ _ _
theorem own_form {w : World} {base n : Nat} {e : TypeId} {s : Nat} {v : Value} {xs : List Value} (h : w.ownsRow base e s v n xs) : ∃ q m, v = .slice q n m ∧ n ≤ m ∧ m ≤ maxLen ∧ (q = none → m = 0) := by
  rcases h.2 with ⟨hv, hn⟩ | ⟨g, cap, cur, hv, _, _, h1, h2, _⟩
  · exact ⟨none, 0, by rw [hv, hn], by omega, by unfold maxLen; omega, fun _ => rfl⟩
  · exact ⟨_, cap, hv, h1, h2, fun h => by cases h⟩
theorem ROwn.form {w : World} {base : Nat} {v : Value} {l : List RecV} (h : ROwn w base v l) : ∃ q m, v = .slice q l.length m ∧ l.length ≤ m ∧ m ≤ maxLen ∧ (q = none → m = 0) := own_form h
theorem ROwn.recs {w : World} {base : Nat} {q : Option Addr} {n m : Nat} {l : List RecV} (h : ROwn w base (.slice q n m) l) : RsL w q n l := by
  refine ⟨?_, fun hp => ?_⟩
  · obtain ⟨q', m', e, _⟩ := h.form
    simp only [Value.slice.injEq] at e
    exact e.2.1
  rcases h.2 with ⟨_, hn⟩ | ⟨g, cap, cur, hv, hb, hg, hle, hmax, hsz, htk⟩
  · omega
  · simp only [Value.slice.injEq] at hv
    obtain ⟨rfl, rfl, rfl⟩ := hv
    refine ⟨g, 0, rfl, fun i hi => recC_at fun k hk => ?_⟩
    rw [Nat.zero_add, World.ownsRow.cellAt h _ (by omega), cellsR_at l i k hi hk]
theorem ROwn.below {w w' : World} {base : Nat} {v : Value} {l : List RecV} (h : ROwn w base v l) (hb : Below w.heap.size w w') : ROwn w' base v l := own_below h hb
theorem info_rec : (Tryd.prog.info? 41).map (fun i => (i.zero, i.size, i.bytes)) = some (some (.agg (recA zeroR)), 6, 72) := by kernel_rfl
theorem info_parts' {P : Program} {t : TypeId} {z : Option Value} {s b : Nat} (h : (P.info? t).map (fun i => (i.zero, i.size, i.bytes)) = some (z, s, b)) : ∃ i, P.info? t = some i ∧ i.zero = z ∧ i.size = s ∧ i.bytes = b := by
  cases hi : P.info? t with
  | none => rw [hi] at h; cases h
  | some i => rw [hi] at h; simp at h; exact ⟨i, rfl, h.1, h.2.1, h.2.2⟩
theorem recs_cells {w : World} {b o : Nat} {l : List RecV} (h : RsIn w (some ⟨b, o, none⟩) l) : ∀ j u, (cellsR l)[j]? = some u → w.cell? ((⟨b, o, none⟩ : Addr).add j) = some u := by
  intro j u hj
  have hlt : j < l.length * 6 := by rw [← cellsR_len]; exact (List.getElem?_eq_some_iff.1 hj).1
  have hi : j / 6 < l.length := by omega
  have c := cellsR_at l (j / 6) (j % 6) hi (Nat.mod_lt _ (by decide))
  have d := at_recC (h.at hi) (j % 6) (Nat.mod_lt _ (by decide))
  rw [show j / 6 * 6 + j % 6 = j by omega, hj] at c
  rw [add_plain]
  rw [show o + j / 6 * 6 + j % 6 = o + j by omega, ← c] at d
  exact d
theorem run_append_recs (w : World) (base : Nat) (ty : TypeId) (v : Value) (l l' : List RecV) (p : Option Addr) (c : Nat) (hown : ROwn w base v l) (hin : RsIn w p l') (hp : p = none → c = 0) (hlen : l.length + l'.length ≤ 1000000) (hbase : base ≤ w.heap.size) :
    ∃ v' w', (Builtin.append_ #[36, 36] ty #[v, .slice p l'.length c]).run Tryd.prog w = .ok v' w' ∧ ROwn w' base v' (l ++ l') ∧ w.grownBy w' v.ownBlock := by
  obtain ⟨i0, hi, hz0, hz1, hz2⟩ := info_parts' info_rec
  have hmax : l.length + l'.length ≤ maxLen := by unfold maxLen; omega
  cases p with
  | none =>
    obtain rfl : l' = [] := by
      cases l' with
      | nil => rfl
      | cons y l => obtain ⟨b, o, e, _⟩ := hin (by simp); cases e
    obtain rfl := hp rfl
    exact ⟨_, w, run_append_owned_none (P := Tryd.prog) w base 36 ty 41 i0 6 Tryd.underlying36 hi v l.length (cellsR l) hown, by simpa using hown, ⟨rfl, rfl, rfl, Nat.le_refl _, fun _ _ _ => rfl⟩⟩
  | some ad =>
    have hc : ∀ j u, (cellsR l')[j]? = some u → w.cell? (ad.add j) = some u := by
      intro j u hu
      have hpos : 0 < l'.length := by
        cases l' with
        | nil => simp [cellsR] at hu
        | cons y l => simp
      obtain ⟨b, o, e, _⟩ := hin hpos
      simp at e
      subst e
      exact recs_cells hin j u hu
    obtain ⟨v', w', h1, h2, h3, _⟩ := run_append_own (P := Tryd.prog) w base 36 ty 41 i0 (.agg (recA zeroR)) 6 72 Tryd.underlying36 hi hz0 hz1 hz2 rfl (by decide) v l.length (cellsR l) hown ad l'.length c (cellsR l') (cellsR_len l') hc (cellsR_one l') hmax (by omega) hbase
    refine ⟨v', w', h1, ?_, h3⟩
    unfold ROwn
    rw [cellsR_app, List.length_append]
    exact h2
theorem wpList_append_recs (w : World) {ops : Array Oper} {rest : List Oper} {o : Oper} {a : Act} {Q : Exit → Act → World → Prop} (hgd : o.guard = none) (s x : Operand)
    (ho : o.op = .call { callee := .builtin .append, args := #[s, x], argTypes := #[36, 36] }) (base : Nat) (v : Value) (l l' : List RecV) (p : Option Addr) (m c : Nat) (hs : a.eval s = v) (hx : a.eval x = .slice p m c) (hm : m = l'.length)
    (hown : ROwn w base v l) (hin : RsIn w p l') (hp : p = none → c = 0) (hlen : l.length + l'.length ≤ 1000000) (hbase : base ≤ w.heap.size)
    (h : ∀ v' w', ROwn w' base v' (l ++ l') → w.grownBy w' v.ownBlock → wpList Tryd.prog ops Q rest (a.put o.dst v') w') : wpList Tryd.prog ops Q (o :: rest) a w := by
  subst hm
  refine wpList_plain hgd fun K hK => ?_
  obtain ⟨v', w', hr, h2, h3⟩ := run_append_recs w base o.type v l l' p c hown hin hp hlen hbase
  unfold Oper.wp execOp
  simp only [ho, resolve, invoke, builtin, Sem.run_bind, Sem.run_pure, Result.andThen_ok, List.map_toArray, List.map_cons, List.map_nil, hs, hx, hr]
  exact hK _ _ (h v' w' h2 h3)
/-- A row of records under way, or an answer. -/
structure OnR (w : World) (v : Value) (l : List RecV) (wr : World) : Prop where
  own : ROwn wr w.heap.size v l
  bel : Below w.heap.size w wr
theorem OnR.nil (w : World) : OnR w (.slice none 0 0) [] w := ⟨rown_nil _ _, Below.refl _ _⟩
theorem OnR.call {w wr w' : World} {v : Value} {l : List RecV} (h : OnR w v l wr) (hb : Below wr.heap.size wr w') : OnR w v l w' := ⟨h.own.below hb, below_more h.bel hb⟩
theorem OnR.two {w wr w' : World} {v v' : Value} {l l' : List RecV} (h : OnR w v l wr) (ho : ROwn w' w.heap.size v' (l ++ l')) (hg : wr.grownBy w' v.ownBlock) : OnR w v' (l ++ l') w' :=
  ⟨ho, h.bel.grown hg h.bel.size (fun k hk => (World.ownsRow.lt h.own k hk).1)⟩
theorem rec_one (w : World) (r : RecV) (t : TypeId) : RsIn (w.alloc (.cells (recA r) t)) (some ⟨w.heap.size, 0, none⟩) [r] := fun _ =>
  ⟨w.heap.size, 0, rfl, fun i hi => by
    obtain rfl : i = 0 := by simpa using hi
    exact rec_new (_root_.Go.heap_alloc_new _ _)⟩
theorem RsIn.take {w : World} {q : Option Addr} {l : List RecV} (h : RsIn w q l) (k : Nat) : RsIn w q (l.take k) := by
  intro hp
  rw [List.length_take] at hp
  obtain ⟨b, o, e, hc⟩ := h (by omega)
  refine ⟨b, o, e, fun i hi => ?_⟩
  rw [List.length_take] at hi
  have hg : (l.take k).getD i zeroR = l.getD i zeroR := by rw [List.getD_eq_getElem?_getD, List.getElem?_take_of_lt (by omega), List.getD_eq_getElem?_getD]
  rw [hg]
  exact hc i (by omega)
theorem RsIn.drop {w : World} {b o : Nat} {l : List RecV} (h : RsIn w (some ⟨b, o, none⟩) l) (k : Nat) : RsIn w (some ⟨b, o + k * 6, none⟩) (l.drop k) := by
  intro hp
  rw [List.length_drop] at hp
  refine ⟨b, o + k * 6, rfl, fun i hi => ?_⟩
  rw [List.length_drop] at hi
  have := h.at (k := k + i) (by omega)
  rw [show o + k * 6 + i * 6 = o + (k + i) * 6 by omega]
  have hg : (l.drop k).getD i zeroR = l.getD (k + i) zeroR := by simp [List.getD, List.getElem?_drop]
  rw [hg]
  exact this
end Go.Proofs.YtoagaddciapmkaaDoor
