/-
  Rows of bytes of one's own that grow side by side.
-/
import Derived.Test.YtoagaddciapmkaaDoorXSeal
import Derived.Test.YtoagaddciapmkaaDoorXRSum
import Derived.Laws.AppendOwnNone
namespace Go.Proofs.YtoagaddciapmkaaDoor
open Go.RowKit Go.WideShapes

abbrev Box := Nat × Array Value × TypeId
theorem own_below {w w' : World} {base size n : Nat} {e : TypeId} {v : Value} {xs : List Value} (h : w.ownsRow base e size v n xs) (hb : Below w.heap.size w w') : w'.ownsRow base e size v n xs :=
  h.kept (row := none) ⟨hb.os, hb.tape, hb.output, hb.size, fun k hk _ => hb.block k hk⟩ (by cases v.ownBlock <;> simp)
theorem block_below {w w' : World} {g : Nat} {o : Obj} (h : w.heap[g]? = some o) (hb : Below w.heap.size w w') : w'.heap[g]? = some o := (hb.block g (rw_lt h)).trans h
theorem ok_fst {α : Type} {a b : α} {w w' : World} (e : Result.ok a w = Result.ok b w') : a = b := by
  injection e
/-- Appending bytes: the row stays in its block, or goes to a new one. -/
theorem run_append_bytesX (w : World) (base : Nat) (ty : TypeId) (v : Value) (xs ys : List Nat) (p : Option Addr) (c : Nat) (hown : w.ownsRow base 5 1 v xs.length (Bs xs)) (hin : BIn w p ys) (hp : p = none → c = 0)
    (hlen : xs.length + ys.length ≤ 140737488355328) (hbase : base ≤ w.heap.size) :
    ∃ v' w', (Builtin.append_ #[22, 22] ty #[v, .slice p ys.length c]).run Tryd.prog w = .ok v' w' ∧ w'.ownsRow base 5 1 v' (xs ++ ys).length (Bs (xs ++ ys)) ∧ w.grownBy w' v.ownBlock ∧ (v'.ownBlock = v.ownBlock ∨ v'.ownBlock = some w.heap.size) := by
  obtain ⟨i0, hi, hz0, hz1, hz2⟩ := info_parts info5
  cases p with
  | none =>
    obtain rfl : ys = [] := by
      cases ys with
      | nil => rfl
      | cons y ys => obtain ⟨b, o, e, _⟩ := hin.1 (by simp); cases e
    obtain rfl := hp rfl
    exact ⟨v, w, run_append_owned_none (P := Tryd.prog) w base 22 ty 5 i0 1 Tryd.underlying22 hi v xs.length (Bs xs) hown, by simpa using hown, ⟨rfl, rfl, rfl, Nat.le_refl _, fun _ _ _ => rfl⟩, .inl rfl⟩
  | some ad =>
    have hc : ∀ j u, (Bs ys)[j]? = some u → w.cell? (ad.add j) = some u := by
      intro j u hu
      have hpos : 0 < ys.length := by
        cases ys with
        | nil => simp [Bs] at hu
        | cons y ys => simp
      obtain ⟨b, o, e, _⟩ := hin.1 hpos
      simp at e
      subst e
      exact bin_news hin j u hu
    obtain ⟨v', w', hr, h2, h3, h4⟩ := run_append_own (P := Tryd.prog) w base 22 ty 5 i0 (.int .u8 0) 1 1 Tryd.underlying22 hi hz0 hz1 hz2 rfl (by decide) v xs.length (Bs xs) hown ad ys.length c (Bs ys) (by simp [Bs]) hc (Bs_oneCell ys) (by unfold maxLen; omega) (by omega) hbase
    refine ⟨v', w', hr, by simpa [Bs_app] using h2, h3, ?_⟩
    rcases hown.2 with ⟨h0, hn0⟩ | ⟨g, cap, cur, hv, hbg, hg, hnc, hcm, hcs, htake⟩
    · subst h0
      by_cases hy : ys.length = 0
      · left
        rw [h4.2 ⟨rfl, hy⟩]
      · right
        have hx0 : xs = [] := List.eq_nil_of_length_eq_zero hn0
        have hr2 := run_append_nil (P := Tryd.prog) w 22 ty 5 i0 (.int .u8 0) Tryd.underlying22 hi hz0 ad ys.length c (Bs ys) (by rw [hz1, Bs_len]; omega) hc (by omega) (by omega) (by rw [hz2]; omega)
        have e := hr.symm.trans hr2
        exact (congrArg Value.ownBlock (ok_fst e)).trans rfl
    · subst hv
      by_cases hroom : xs.length + ys.length ≤ cap
      · left
        have hr2 := run_append_room (P := Tryd.prog) w 22 ty 5 i0 Tryd.underlying22 hi g xs.length cap cur hg ad ys.length c (Bs ys) (by rw [hz1, Bs_len]; omega) hc (Bs_oneCell ys) hroom (by rw [hz1, Bs_len, hcs]; omega)
        have e := hr.symm.trans hr2
        exact (congrArg Value.ownBlock (ok_fst e)).trans rfl
      · right
        have hr2 := run_append_grow (P := Tryd.prog) w 22 ty 5 i0 (.int .u8 0) Tryd.underlying22 hi hz0 ⟨g, 0, none⟩ xs.length cap (Bs xs) (by rw [hz1, Bs_len]; omega) (hown.cells (g := g) rfl) ad ys.length c (Bs ys) (by rw [hz1, Bs_len]; omega) hc (by omega) (by omega) (growslice_fits (by omega) (by rw [hz2]; omega))
        have e := hr.symm.trans hr2
        exact (congrArg Value.ownBlock (ok_fst e)).trans rfl
theorem wpList_append_bytesX (w : World) {ops : Array Oper} {rest : List Oper} {o : Oper} {a : Act} {Q : Exit → Act → World → Prop} (hgd : o.guard = none) (s x : Operand)
    (ho : o.op = .call { callee := .builtin .append, args := #[s, x], argTypes := #[22, 22] }) (base : Nat) (v : Value) (xs ys : List Nat) (p : Option Addr) (m c : Nat) (hs : a.eval s = v) (hx : a.eval x = .slice p m c) (hm : m = ys.length)
    (hown : w.ownsRow base 5 1 v xs.length (Bs xs)) (hin : BIn w p ys) (hp : p = none → c = 0) (hlen : xs.length + ys.length ≤ 140737488355328) (hbase : base ≤ w.heap.size)
    (h : ∀ v' w', w'.ownsRow base 5 1 v' (xs ++ ys).length (Bs (xs ++ ys)) → w.grownBy w' v.ownBlock → (v'.ownBlock = v.ownBlock ∨ v'.ownBlock = some w.heap.size) → wpList Tryd.prog ops Q rest (a.put o.dst v') w') : wpList Tryd.prog ops Q (o :: rest) a w := by
  subst hm
  refine wpList_plain hgd fun K hK => ?_
  obtain ⟨v', w', hr, h2, h3, h4⟩ := run_append_bytesX w base o.type v xs ys p c hown hin hp hlen hbase
  unfold Oper.wp execOp
  simp only [ho, resolve, invoke, builtin, Sem.run_bind, Sem.run_pure, Result.andThen_ok, List.map_toArray, List.map_cons, List.map_nil, hs, hx, hr]
  exact hK _ _ (h v' w' h2 h3 h4)
/-- A row of bytes of the call's own that grows, beside blocks that stay, whatever they hold. -/
structure Gw (w : World) (bx : List Box) (wc : World) (v : Value) (xs : List Nat) : Prop where
  own : wc.ownsRow w.heap.size 5 1 v xs.length (Bs xs)
  bel : Below w.heap.size w wc
  box : ∀ p ∈ bx, wc.heap[p.1]? = some (.cells p.2.1 p.2.2 (0, 0)) ∧ v.ownBlock ≠ some p.1
theorem Gw.call {w : World} {bx : List Box} {wc w1 : World} {v : Value} {xs : List Nat} (h : Gw w bx wc v xs) (hb : Below wc.heap.size wc w1) : Gw w bx w1 v xs :=
  ⟨own_below h.own hb, below_more h.bel hb, fun p hp => ⟨block_below (h.box p hp).1 hb, (h.box p hp).2⟩⟩
theorem Gw.app {w : World} {bx : List Box} {wc w2 : World} {v v2 : Value} {xs ys : List Nat} (h : Gw w bx wc v xs) (ho : w2.ownsRow w.heap.size 5 1 v2 (xs ++ ys).length (Bs (xs ++ ys))) (hg : wc.grownBy w2 v.ownBlock) (hw : v2.ownBlock = v.ownBlock ∨ v2.ownBlock = some wc.heap.size) : Gw w bx w2 v2 (xs ++ ys) := by
  refine ⟨ho, h.bel.grown hg h.bel.size (fun k hk => (h.own.lt k hk).1), fun p hp => ?_⟩
  obtain ⟨h1, h2⟩ := h.box p hp
  refine ⟨(hg.block _ (rw_lt h1) (fun e => h2 e.symm)).trans h1, ?_⟩
  rcases hw with hw | hw
  · rw [hw]; exact h2
  · rw [hw]
    intro e
    have := rw_lt h1
    have := Option.some.inj e
    omega
theorem Gw.eq {w : World} {bx : List Box} {wc : World} {v : Value} {xs ys : List Nat} (h : Gw w bx wc v xs) (e : xs = ys) : Gw w bx wc v ys := e ▸ h
theorem Gw.size {w : World} {bx : List Box} {wc : World} {v : Value} {xs : List Nat} (h : Gw w bx wc v xs) : w.heap.size ≤ wc.heap.size := h.bel.size
theorem Gw.add {w : World} {bx : List Box} {wc : World} {v : Value} {xs : List Nat} (h : Gw w bx wc v xs) (b : Box) (hb : wc.heap[b.1]? = some (.cells b.2.1 b.2.2 (0, 0))) (hne : v.ownBlock ≠ some b.1) : Gw w (b :: bx) wc v xs := by
  refine ⟨h.own, h.bel, fun p hp => ?_⟩
  rcases List.mem_cons.1 hp with rfl | hp
  · exact ⟨hb, hne⟩
  · exact h.box p hp
/-- Two such rows. -/
structure Gw2 (w : World) (bx : List Box) (wc : World) (v : Value) (xs : List Nat) (u : Value) (ys : List Nat) : Prop where
  one : Gw w bx wc v xs
  two : Gw w bx wc u ys
  apart : v.ownBlock = none ∨ v.ownBlock ≠ u.ownBlock
theorem Gw2.call {w : World} {bx : List Box} {wc w1 : World} {v u : Value} {xs ys : List Nat} (h : Gw2 w bx wc v xs u ys) (hb : Below wc.heap.size wc w1) : Gw2 w bx w1 v xs u ys := ⟨h.one.call hb, h.two.call hb, h.apart⟩
theorem own_lt {w : World} {base n : Nat} {e : TypeId} {s : Nat} {v : Value} {xs : List Value} (h : w.ownsRow base e s v n xs) {k : Nat} (hk : v.ownBlock = some k) : k < w.heap.size := (World.ownsRow.lt h k hk).2
theorem Gw2.app1 {w : World} {bx : List Box} {wc w2 : World} {v v2 u : Value} {xs ys zs : List Nat} (h : Gw2 w bx wc v xs u ys) (ho : w2.ownsRow w.heap.size 5 1 v2 (xs ++ zs).length (Bs (xs ++ zs))) (hg : wc.grownBy w2 v.ownBlock) (hw : v2.ownBlock = v.ownBlock ∨ v2.ownBlock = some wc.heap.size) : Gw2 w bx w2 v2 (xs ++ zs) u ys := by
  have h1 := h.one.app ho hg hw
  have hne : u.ownBlock = none ∨ u.ownBlock ≠ v.ownBlock := by
    cases hu : u.ownBlock with
    | none => exact .inl rfl
    | some k =>
      right
      intro e
      rcases h.apart with ha | ha
      · rw [ha] at e; cases e
      · exact ha (by rw [hu, e])
  refine ⟨h1, ⟨World.ownsRow.kept h.two.own hg hne, h1.bel, fun p hp => ⟨(h1.box p hp).1, (h.two.box p hp).2⟩⟩, ?_⟩
  rcases hw with hw | hw
  · rw [hw]; exact h.apart
  · right
    rw [hw]
    intro e
    have := own_lt h.two.own e.symm
    omega
theorem Gw2.app2 {w : World} {bx : List Box} {wc w2 : World} {v u u2 : Value} {xs ys zs : List Nat} (h : Gw2 w bx wc v xs u ys) (ho : w2.ownsRow w.heap.size 5 1 u2 (ys ++ zs).length (Bs (ys ++ zs))) (hg : wc.grownBy w2 u.ownBlock) (hw : u2.ownBlock = u.ownBlock ∨ u2.ownBlock = some wc.heap.size) : Gw2 w bx w2 v xs u2 (ys ++ zs) := by
  have h2 := h.two.app ho hg hw
  refine ⟨⟨World.ownsRow.kept h.one.own hg h.apart, h2.bel, fun p hp => ⟨(h2.box p hp).1, (h.one.box p hp).2⟩⟩, h2, ?_⟩
  rcases hw with hw | hw
  · rw [hw]; exact h.apart
  · cases hv : v.ownBlock with
    | none => exact .inl rfl
    | some k =>
      right
      rw [hw]
      intro e
      have := own_lt h.one.own hv
      have := Option.some.inj e
      omega
theorem Gw2.eq1 {w : World} {bx : List Box} {wc : World} {v u : Value} {xs xs' ys : List Nat} (h : Gw2 w bx wc v xs u ys) (e : xs = xs') : Gw2 w bx wc v xs' u ys := e ▸ h
theorem Gw2.eq2 {w : World} {bx : List Box} {wc : World} {v u : Value} {xs ys ys' : List Nat} (h : Gw2 w bx wc v xs u ys) (e : ys = ys') : Gw2 w bx wc v xs u ys' := e ▸ h
theorem bin_one (w : World) (c : Nat) (z : Int) (hz : z = (c : Int)) (hc : c < 256) : BIn (w.alloc (.cells #[.int .u8 z] 5)) (some ⟨w.heap.size, 0, none⟩) [c] := by
  subst hz
  refine ⟨fun _ => ⟨w.heap.size, 0, rfl, fun i hi => ?_⟩, fun x hx => by simp at hx; omega⟩
  rw [Nat.zero_add, cell_of_row _ _ _ _ _ _ (_root_.Go.heap_alloc_new _ _)]
  match i, hi with
  | 0, _ => rfl
theorem take_push {l : List Nat} {k : Nat} (h : k < l.length) : l.take k ++ [l.getD k 0] = l.take (k + 1) := by
  rw [List.take_add_one]
  simp [List.getD, List.getElem?_eq_getElem h]
theorem fill_done (X : List Nat) (n : Nat) : fillN (X ++ List.replicate (n - X.length) 0) n X.length = X ++ List.replicate (n - X.length) 0 := by
  unfold fillN
  rw [List.take_left']
  rfl
end Go.Proofs.YtoagaddciapmkaaDoor
