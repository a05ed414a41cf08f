/-
  Appending pieces, wherever they lie; what is answered has numbers that fit.
-/
import Derived.Test.YtfplpdnhhefbaaaPAlive
import Derived.Laws.OwnMore
namespace Go.Proofs.Ytfplpdnhhefbaaa
open Go.RowKit Go.WideShapes

theorem run_append_pcs (w : World) (ty : TypeId) (base : Nat) (v : Value) (xs l : Pcs) (q : Option Addr) (c : Nat) (hown : POwn w base v xs) (hin : PcsIn w q l) (hp : q = none → c = 0) (hlen : xs.length + l.length ≤ 1000000) (hbase : base ≤ w.heap.size) :
    ∃ v' w', (Builtin.append_ #[22, 22] ty #[v, .slice q l.length c]).run Try.prog w = .ok v' w' ∧ POwn w' base v' (xs ++ l) ∧ w.grownBy w' v.ownBlock := by
  obtain ⟨i0, hi, hz0, hz1, hz2⟩ := info_parts' info_piece
  cases q with
  | none =>
    have h0 : l = [] := by
      cases l with
      | nil => rfl
      | cons y ys => obtain ⟨b, o, e, _⟩ := hin (by simp); cases e
    subst h0
    obtain rfl := hp rfl
    exact ⟨v, w, run_append_owned_none (P := Try.prog) w base 22 ty 29 i0 2 Try.underlying22 hi v xs.length (cellsQ xs) hown, by simpa using hown, ⟨rfl, rfl, rfl, Nat.le_refl _, fun _ _ _ => rfl⟩⟩
  | some ad =>
    obtain ⟨v', w', h1, h2, h3, _⟩ := run_append_own (P := Try.prog) w base 22 ty 29 i0 _ 2 16 Try.underlying22 hi hz0 hz1 hz2 rfl (by decide) v xs.length (cellsQ xs) hown ad l.length c (cellsQ l) (cellsQ_len l) (pcs_news hin rfl) (cellsQ_oneCell l) (by unfold maxLen; omega) (by omega) hbase
    refine ⟨v', w', h1, ?_, h3⟩
    unfold POwn
    rw [cellsQ_app, List.length_append]
    exact h2
theorem wpList_append_pcs (w : World) {ops : Array Oper} {rest : List Oper} {o : Oper} {a : Act} {Q : Exit → Act → World → Prop} (hgd : o.guard = none) (s x : Operand)
    (ho : o.op = .call { callee := .builtin .append, args := #[s, x], argTypes := #[22, 22] }) (base : Nat) (v : Value) (xs l : Pcs) (q : Option Addr) (m c : Nat) (hs : a.eval s = v) (hx : a.eval x = .slice q m c) (hm : m = l.length)
    (hown : POwn w base v xs) (hin : PcsIn w q l) (hp : q = none → c = 0) (hlen : xs.length + l.length ≤ 1000000) (hbase : base ≤ w.heap.size)
    (h : ∀ v' w', POwn w' base v' (xs ++ l) → w.grownBy w' v.ownBlock → wpList Try.prog ops Q rest (a.put o.dst v') w') : wpList Try.prog ops Q (o :: rest) a w := by
  subst hm
  refine wpList_plain hgd fun K hK => ?_
  obtain ⟨v', w', hr, h2, h3⟩ := run_append_pcs w o.type base v xs l q c hown hin hp hlen hbase
  unfold Oper.wp execOp
  simp only [ho, resolve, invoke, builtin, Sem.run_bind, Sem.run_pure, Result.andThen_ok, List.map_toArray, List.map_cons, List.map_nil, hs, hx, hr]
  exact hK _ _ (h v' w' h2 h3)
theorem wf_got {first count : Int} {l : Pcs} {many : Nat} (h : (0 ≤ count ∧ count ≤ 4096) ∧ 0 ≤ first ∧ first ≤ count) : Wf (gotF first count l many).1 := by
  intro q hq
  have := gotF_bounds h q hq
  omega
theorem wf_resF (first count : Int) (l : Pcs) : Wf (resF first count l) := by
  by_cases h : errF first count l = 0
  · rw [resF_ok h]; exact wf_got (errF_zero h).1
  · rw [resF_bad h]; exact wf_nil
theorem errT_zero {first count : Int} {l : Pcs} {many : Int} (h : errT first count l many = 0) : (0 ≤ many ∧ many ≤ 4096) ∧ errF first count l = 0 ∧ ¬ ((gotF first count l many.toNat).2 : Int) < many := by
  by_cases h0 : 0 ≤ many ∧ many ≤ 4096
  · by_cases h1 : errF first count l = 0
    · by_cases h2 : ((gotF first count l many.toNat).2 : Int) < many
      · rw [errT_few h0 h1 h2] at h; omega
      · exact ⟨h0, h1, h2⟩
    · rw [errT_bad h0 h1] at h; exact absurd h h1
  · rw [errT_arg h0] at h; omega
theorem wf_resT (first count : Int) (l : Pcs) (many : Int) : Wf (resT first count l many) := by
  by_cases h : errT first count l many = 0
  · rw [resT_ok h]; exact wf_got (errF_zero (errT_zero h).2.1).1
  · rw [resT_bad h]; exact wf_nil
theorem join_wn (l : Pcs) : ∀ q ∈ joinN l, Wn 4096 q := by
  suffices ∀ n : Nat, n ≤ 4096 → ∀ q ∈ joinK n l, Wn 4096 q from this 4096 (Nat.le_refl _)
  intro n hn q hq
  have h1 := joinK_runs n l
  have h2 := (runsK_of (cov l) n 0 n).ends q hq
  have h3 := h1.2 q hq
  unfold Wn
  omega
theorem join_good (l : Pcs) : Good 4096 (joinN l) := (joinN_runs l).chain.good (join_wn l)
theorem wf_resJ (l : Pcs) : Wf (resJ l) := by
  unfold resJ
  split
  · exact (join_good l).wf (by omega)
  · exact wf_nil
theorem IOwn.at {w : World} {base : Nat} {q : Option Addr} {n c : Nat} {xs : List Int} (h : IOwn w base (.slice q n c) xs) {k : Nat} (hk : k < xs.length) : ∃ g, q = some ⟨g, 0, none⟩ ∧ w.cell? ⟨g, k, none⟩ = some (.int .i64 (xs.getD k 0)) := by
  rcases h.2 with ⟨_, h0⟩ | ⟨g, cap, cur, hv, _, hg, h1, _, _, _⟩
  · omega
  · simp only [Value.slice.injEq] at hv
    obtain ⟨rfl, rfl, rfl⟩ := hv
    refine ⟨g, rfl, ?_⟩
    rw [World.ownsRow.cellAt h k (by omega)]
    simp [Is, List.getD, List.getElem?_eq_getElem hk]
/-- A row of one's own that may be written into: its block. -/
theorem POwn.blk {w : World} {base : Nat} {q : Option Addr} {n c : Nat} {l : Pcs} (h : POwn w base (.slice q n c) l) (hp : 0 < l.length) : ∃ g cur, q = some ⟨g, 0, none⟩ ∧ base ≤ g ∧ w.heap[g]? = some (.cells cur 29 (0, 0)) ∧ l.length * 2 ≤ cur.size ∧ n ≤ c := by
  rcases h.2 with ⟨_, h0⟩ | ⟨g, cap, cur, hv, hb, hg, h1, _, h3, _⟩
  · omega
  · simp only [Value.slice.injEq] at hv
    obtain ⟨rfl, rfl, rfl⟩ := hv
    exact ⟨g, cur, rfl, hb, hg, by omega, h1⟩
theorem cell_some {w : World} {g i : Nat} {cur : Array Value} {t : TypeId} (h : w.heap[g]? = some (.cells cur t (0, 0))) (hi : i < cur.size) : ∃ x, w.cell? ⟨g, i, none⟩ = some x := by
  rw [cell_of_row w g i _ _ _ h]
  exact ⟨cur[i], Array.getElem?_eq_getElem hi⟩
end Go.Proofs.Ytfplpdnhhefbaaa
