/-
  The document's way to read a page: it guesses entries, and makes their page anew; no program is named here.
-/
import Derived.Test.YtlcbjmbphekliaaJ09
import Derived.Test.YtlcbjmbphekliaaJ07
import Derived.Test.YtlcbjmbphekliaaJ03
namespace Go.Proofs.Ytlcbjmbphekliaa
open Go.RowKit Go.WideShapes

theorem run_append_two (w : World) (base : Nat) (ty : TypeId) (v : Value) (l l' : List EntV) (p : Option Addr) (c : Nat) (hown : EOwn w base v l) (hin : EntsIn w p l') (hp : p = none → c = 0) (hlen : l.length + l'.length ≤ 1000000) (hbase : base ≤ w.heap.size) :
    ∃ v' w', (Builtin.append_ #[26, 26] ty #[v, .slice p l'.length c]).run Try.prog w = .ok v' w' ∧ EOwn w' base v' (l ++ l') ∧ w.grownBy w' v.ownBlock := by
  obtain ⟨i0, hi, hz0, hz1, hz2⟩ := info_parts' info_entry
  have hmax : l.length + l'.length ≤ maxLen := by unfold maxLen; omega
  cases p with
  | none =>
    obtain rfl : l' = [] := by
      cases l' with
      | nil => rfl
      | cons y l => obtain ⟨b, o, e, _⟩ := hin (by simp); cases e
    obtain rfl := hp rfl
    exact ⟨_, w, run_append_owned_none (P := Try.prog) w base 26 ty 29 i0 4 Try.underlying26 hi v l.length (cellsE l) hown, by simpa using hown, ⟨rfl, rfl, rfl, Nat.le_refl _, fun _ _ _ => rfl⟩⟩
  | some ad =>
    have hc : ∀ j u, (cellsE l')[j]? = some u → w.cell? (ad.add j) = some u := by
      intro j u hu
      have hpos : 0 < l'.length := by
        cases l' with
        | nil => simp [cellsE] at hu
        | cons y l => simp
      obtain ⟨b, o, e, _⟩ := hin hpos
      simp at e
      subst e
      exact ents_cells hin j u hu
    obtain ⟨v', w', h1, h2, h3, _⟩ := run_append_own (P := Try.prog) w base 26 ty 29 i0 (.agg #[.string ByteArray.empty, .string ByteArray.empty, .int .i64 0, .bool false]) 4 48 Try.underlying26 hi hz0 hz1 hz2 rfl (by decide) v l.length (cellsE l) hown ad l'.length c (cellsE l') (cellsE_len l') hc (cellsE_one l') hmax (by omega) hbase
    refine ⟨v', w', h1, ?_, h3⟩
    unfold EOwn
    rw [cellsE_app, List.length_append]
    exact h2
theorem wpList_append_two (w : World) {ops : Array Oper} {rest : List Oper} {o : Oper} {a : Act} {Q : Exit → Act → World → Prop} (hw : Region.wanted o (yielded ops a.tmps) = true) (s x : Operand)
    (ho : o.op = .call { callee := .builtin .append, args := #[s, x], argTypes := #[26, 26] }) (base : Nat) (v : Value) (l l' : List EntV) (p : Option Addr) (m c : Nat) (hs : a.eval s = v) (hx : a.eval x = .slice p m c) (hm : m = l'.length)
    (hown : EOwn w base v l) (hin : EntsIn w p l') (hp : p = none → c = 0) (hlen : l.length + l'.length ≤ 1000000) (hbase : base ≤ w.heap.size)
    (h : ∀ v' w', EOwn w' base v' (l ++ l') → w.grownBy w' v.ownBlock → wpList Try.prog ops Q rest (a.put o.dst v') w') : wpList Try.prog ops Q (o :: rest) a w := by
  subst hm
  refine wpList_step fun K hK => ?_
  rw [if_pos hw]
  obtain ⟨v', w', hr, h2, h3⟩ := run_append_two w base o.type v l l' p c hown hin hp hlen hbase
  unfold Oper.wp execOp
  simp only [ho, resolve, invoke, builtin, Sem.run_bind, Sem.run_pure, Result.andThen_ok, List.map_toArray, List.map_cons, List.map_nil, hs, hx, hr]
  exact hK _ _ (h v' w' h2 h3)
/-- Two rows of one's own, the one older than the other's beginning. -/
theorem own_apart {w w' : World} {B1 B2 : Nat} {v1 v2 : Value} {l1 l2 : List EntV} (h1 : EOwn w B1 v1 l1) (h2 : EOwn w' B2 v2 l2) (h : w.heap.size ≤ B2) : v2.ownBlock = none ∨ v2.ownBlock ≠ v1.ownBlock := by
  cases h3 : v2.ownBlock with
  | none => exact .inl rfl
  | some k =>
    right
    intro e
    have a := (World.ownsRow.lt h1 k e.symm).2
    have b := (World.ownsRow.lt h2 k h3).1
    omega
theorem own_apart' {w w' : World} {B1 B2 : Nat} {v1 v2 : Value} {l1 l2 : List EntV} (h1 : EOwn w B1 v1 l1) (h2 : EOwn w' B2 v2 l2) (h : w.heap.size ≤ B2) : v1.ownBlock = none ∨ v1.ownBlock ≠ v2.ownBlock := by
  cases h3 : v1.ownBlock with
  | none => exact .inl rfl
  | some k =>
    right
    intro e
    have a := (World.ownsRow.lt h1 k h3).2
    have b := (World.ownsRow.lt h2 k e.symm).1
    omega
theorem ents_grownE {w w' : World} {base : Nat} {v : Value} {l : List EntV} (h : EOwn w base v l) (hg : w.grownBy w' v.ownBlock) {w0 : World} (h0 : Below w0.heap.size w0 w) (hb : w0.heap.size ≤ base) : Below w0.heap.size w0 w' := h0.grown hg h0.size (fun k hk => by have := (World.ownsRow.lt h k hk).1; omega)
theorem bool_and_eq {a b c : Bool} (h : a = true → (b = true ↔ c = true)) : (a && b) = (a && c) := by
  cases a with
  | false => rfl
  | true =>
    have := h rfl
    cases b <;> cases c <;> simp_all
theorem ltB_le_trans {a b c : ByteArray} (h1 : ltB b a = false) (h2 : ltB c b = false) : ltB c a = false := by
  cases h : ltB c a with
  | false => rfl
  | true => rw [ltB_lt_le h h1] at h2; cases h2
theorem parts_join {l : List EntV} (hr : RiseE l) {a b c : ByteArray} (hab : ltB b a = false) (hbc : ltB c b = false) (hb : b ≠ ByteArray.empty) (hc : c ≠ ByteArray.empty) : l.filter (keepU a b) ++ l.filter (keepU b c) = l.filter (keepU a c) := by
  rw [← filter_split hr b (keepU a c)]
  congr 1
  · congr 1
    funext x
    unfold keepU
    rw [decide_eq_false hb, decide_eq_false hc, Bool.false_or, Bool.false_or, Bool.and_assoc]
    refine bool_and_eq fun _ => ?_
    rw [Bool.and_eq_true]
    exact ⟨fun h => ⟨ltB_lt_le h hbc, h⟩, fun h => h.2⟩
  · congr 1
    funext x
    unfold keepU
    rw [decide_eq_false hc, Bool.false_or, Bool.and_assoc, Bool.and_comm (ltB x.key c), ← Bool.and_assoc]
    congr 1
    cases h1 : ltB x.key b with
    | true => simp
    | false => rw [ltB_le_trans hab h1]; rfl
theorem parts_all {l : List EntV} (hr : RiseE l) {a b c : ByteArray} (hab : ltB b a = false) (hbc : ltB c b = false) (hc : c ≠ ByteArray.empty) : (l.filter (fun x => ltB x.key a) ++ l.filter (keepU a c)) ++ l.filter (keepU c ByteArray.empty) = l := by
  have hac := ltB_le_trans hab hbc
  conv => rhs; rw [← rise_split l c hr, ← filter_split hr a (fun x => ltB x.key c)]
  congr 1
  · congr 1
    · congr 1
      funext x
      cases h : ltB x.key a with
      | false => simp
      | true => rw [ltB_lt_le h hac]; rfl
    · congr 1
      funext x
      unfold keepU
      rw [decide_eq_false hc, Bool.false_or, Bool.and_comm]
  · congr 1
    funext x
    unfold keepU
    simp
theorem keep_empty (a : ByteArray) (ha : a ≠ ByteArray.empty) (l : List EntV) : l.filter (keepU ByteArray.empty a) = l.filter (fun x => ltB x.key a) := by
  congr 1
  funext x
  unfold keepU
  rw [ltB_empty, decide_eq_false ha]
  rfl
theorem below_none (l : List EntV) : l.filter (fun x => ltB x.key ByteArray.empty) = [] := filter_none (fun _ _ => ltB_empty _)
end Go.Proofs.Ytlcbjmbphekliaa
namespace Go.Proofs.Ytlcbjmbphekliaa
open Go.RowKit Go.WideShapes

theorem ok_fst {α : Type} {a b : α} {w w' : World} (e : Result.ok a w = Result.ok b w') : a = b := by
  injection e
/-- Appending bytes: the row stays in its block, or goes to a new one. -/
theorem run_append_bytesX (w : World) (base : Nat) (ty : TypeId) (v : Value) (xs ys : List Nat) (p : Option Addr) (c : Nat) (hown : w.ownsRow base 5 1 v xs.length (Bs xs)) (hin : BIn w p ys) (hp : p = none → c = 0)
    (hlen : xs.length + ys.length ≤ 140737488355328) (hbase : base ≤ w.heap.size) :
    ∃ v' w', (Builtin.append_ #[22, 22] ty #[v, .slice p ys.length c]).run Try.prog w = .ok v' w' ∧ w'.ownsRow base 5 1 v' (xs ++ ys).length (Bs (xs ++ ys)) ∧ w.grownBy w' v.ownBlock ∧ (v'.ownBlock = v.ownBlock ∨ v'.ownBlock = some w.heap.size) := by
  obtain ⟨i0, hi, hz0, hz1, hz2⟩ := info_parts info5
  cases p with
  | none =>
    obtain rfl : ys = [] := by
      cases ys with
      | nil => rfl
      | cons y ys => obtain ⟨b, o, e, _⟩ := hin.1 (by simp); cases e
    obtain rfl := hp rfl
    exact ⟨v, w, run_append_owned_none (P := Try.prog) w base 22 ty 5 i0 1 Try.underlying22 hi v xs.length (Bs xs) hown, by simpa using hown, ⟨rfl, rfl, rfl, Nat.le_refl _, fun _ _ _ => rfl⟩, .inl rfl⟩
  | some ad =>
    have hc : ∀ j u, (Bs ys)[j]? = some u → w.cell? (ad.add j) = some u := by
      intro j u hu
      have hpos : 0 < ys.length := by
        cases ys with
        | nil => simp [Bs] at hu
        | cons y ys => simp
      obtain ⟨b, o, e, _⟩ := hin.1 hpos
      simp at e
      subst e
      exact bin_cells hin j u hu
    obtain ⟨v', w', hr, h2, h3, h4⟩ := run_append_own (P := Try.prog) w base 22 ty 5 i0 (.int .u8 0) 1 1 Try.underlying22 hi hz0 hz1 hz2 rfl (by decide) v xs.length (Bs xs) hown ad ys.length c (Bs ys) (by simp [Bs]) hc (Bs_one ys) (by unfold maxLen; omega) (by omega) hbase
    refine ⟨v', w', hr, by simpa [Bs_app] using h2, h3, ?_⟩
    rcases hown.2 with ⟨h0, hn0⟩ | ⟨g, cap, cur, hv, hbg, hg, hnc, hcm, hcs, htake⟩
    · subst h0
      by_cases hy : ys.length = 0
      · left
        rw [h4.2 ⟨rfl, hy⟩]
      · right
        have hx0 : xs = [] := List.eq_nil_of_length_eq_zero hn0
        have hr2 := run_append_nil (P := Try.prog) w 22 ty 5 i0 (.int .u8 0) Try.underlying22 hi hz0 ad ys.length c (Bs ys) (by rw [hz1, Bs_len]; omega) hc (by omega) (by omega) (by rw [hz2]; omega)
        have e := hr.symm.trans hr2
        exact (congrArg Value.ownBlock (ok_fst e)).trans rfl
    · subst hv
      by_cases hroom : xs.length + ys.length ≤ cap
      · left
        have hr2 := run_append_room (P := Try.prog) w 22 ty 5 i0 Try.underlying22 hi g xs.length cap cur hg ad ys.length c (Bs ys) (by rw [hz1, Bs_len]; omega) hc (Bs_one ys) hroom (by rw [hz1, Bs_len, hcs]; omega)
        have e := hr.symm.trans hr2
        exact (congrArg Value.ownBlock (ok_fst e)).trans rfl
      · right
        have hr2 := run_append_grow (P := Try.prog) w 22 ty 5 i0 (.int .u8 0) Try.underlying22 hi hz0 ⟨g, 0, none⟩ xs.length cap (Bs xs) (by rw [hz1, Bs_len]; omega) (hown.cells (g := g) rfl) ad ys.length c (Bs ys) (by rw [hz1, Bs_len]; omega) hc (by omega) (by omega) (growslice_fits (by omega) (by rw [hz2]; omega))
        have e := hr.symm.trans hr2
        exact (congrArg Value.ownBlock (ok_fst e)).trans rfl
theorem wpList_append_bytesX (w : World) {ops : Array Oper} {rest : List Oper} {o : Oper} {a : Act} {Q : Exit → Act → World → Prop} (hgd : o.guard = none) (s x : Operand)
    (ho : o.op = .call { callee := .builtin .append, args := #[s, x], argTypes := #[22, 22] }) (base : Nat) (v : Value) (xs ys : List Nat) (p : Option Addr) (m c : Nat) (hs : a.eval s = v) (hx : a.eval x = .slice p m c) (hm : m = ys.length)
    (hown : w.ownsRow base 5 1 v xs.length (Bs xs)) (hin : BIn w p ys) (hp : p = none → c = 0) (hlen : xs.length + ys.length ≤ 140737488355328) (hbase : base ≤ w.heap.size)
    (h : ∀ v' w', w'.ownsRow base 5 1 v' (xs ++ ys).length (Bs (xs ++ ys)) → w.grownBy w' v.ownBlock → (v'.ownBlock = v.ownBlock ∨ v'.ownBlock = some w.heap.size) → wpList Try.prog ops Q rest (a.put o.dst v') w') : wpList Try.prog ops Q (o :: rest) a w := by
  subst hm
  refine wpList_plain hgd fun K hK => ?_
  obtain ⟨v', w', hr, h2, h3, h4⟩ := run_append_bytesX w base o.type v xs ys p c hown hin hp hlen hbase
  unfold Oper.wp execOp
  simp only [ho, resolve, invoke, builtin, Sem.run_bind, Sem.run_pure, Result.andThen_ok, List.map_toArray, List.map_cons, List.map_nil, hs, hx, hr]
  exact hK _ _ (h v' w' h2 h3 h4)
/-- A row of bytes of the call's own that grows, beside blocks that stay, whatever they hold. -/
structure Gw (w : World) (bx : List Box) (wc : World) (v : Value) (xs : List Nat) : Prop where
  own : wc.ownsRow w.heap.size 5 1 v xs.length (Bs xs)
  bel : Below w.heap.size w wc
  box : ∀ p ∈ bx, wc.heap[p.1]? = some (.cells p.2.1 p.2.2 (0, 0)) ∧ v.ownBlock ≠ some p.1
theorem Gw.call {w : World} {bx : List Box} {wc w1 : World} {v : Value} {xs : List Nat} (h : Gw w bx wc v xs) (hb : Below wc.heap.size wc w1) : Gw w bx w1 v xs :=
  ⟨own_below h.own hb, below_bt h.bel hb, fun p hp => ⟨block_below (h.box p hp).1 hb, (h.box p hp).2⟩⟩
theorem Gw.app {w : World} {bx : List Box} {wc w2 : World} {v v2 : Value} {xs ys : List Nat} (h : Gw w bx wc v xs) (ho : w2.ownsRow w.heap.size 5 1 v2 (xs ++ ys).length (Bs (xs ++ ys))) (hg : wc.grownBy w2 v.ownBlock) (hw : v2.ownBlock = v.ownBlock ∨ v2.ownBlock = some wc.heap.size) : Gw w bx w2 v2 (xs ++ ys) := by
  refine ⟨ho, h.bel.grown hg h.bel.size (fun k hk => (h.own.lt k hk).1), fun p hp => ?_⟩
  obtain ⟨h1, h2⟩ := h.box p hp
  refine ⟨(hg.block _ (lt_heap h1) (fun e => h2 e.symm)).trans h1, ?_⟩
  rcases hw with hw | hw
  · rw [hw]; exact h2
  · rw [hw]
    intro e
    have := lt_heap h1
    have := Option.some.inj e
    omega
theorem Gw.eq {w : World} {bx : List Box} {wc : World} {v : Value} {xs ys : List Nat} (h : Gw w bx wc v xs) (e : xs = ys) : Gw w bx wc v ys := e ▸ h
theorem Gw.size {w : World} {bx : List Box} {wc : World} {v : Value} {xs : List Nat} (h : Gw w bx wc v xs) : w.heap.size ≤ wc.heap.size := h.bel.size
theorem Gw.st {w : World} {bx : List Box} {wc : World} {v : Value} {xs : List Nat} (h : Gw w bx wc v xs) : St w [] wc v xs := ⟨h.own, h.bel, fun p hp => by simp at hp⟩
theorem Gw.add {w : World} {bx : List Box} {wc : World} {v : Value} {xs : List Nat} (h : Gw w bx wc v xs) (b : Box) (hb : wc.heap[b.1]? = some (.cells b.2.1 b.2.2 (0, 0))) (hne : v.ownBlock ≠ some b.1) : Gw w (b :: bx) wc v xs := by
  refine ⟨h.own, h.bel, fun p hp => ?_⟩
  rcases List.mem_cons.1 hp with rfl | hp
  · exact ⟨hb, hne⟩
  · exact h.box p hp
/-- Two such rows. -/
structure Gw2 (w : World) (bx : List Box) (wc : World) (v : Value) (xs : List Nat) (u : Value) (ys : List Nat) : Prop where
  one : Gw w bx wc v xs
  two : Gw w bx wc u ys
  apart : v.ownBlock = none ∨ v.ownBlock ≠ u.ownBlock
theorem Gw2.call {w : World} {bx : List Box} {wc w1 : World} {v u : Value} {xs ys : List Nat} (h : Gw2 w bx wc v xs u ys) (hb : Below wc.heap.size wc w1) : Gw2 w bx w1 v xs u ys := ⟨h.one.call hb, h.two.call hb, h.apart⟩
theorem own_lt {w : World} {base n : Nat} {e : TypeId} {s : Nat} {v : Value} {xs : List Value} (h : w.ownsRow base e s v n xs) {k : Nat} (hk : v.ownBlock = some k) : k < w.heap.size := (World.ownsRow.lt h k hk).2
theorem Gw2.app1 {w : World} {bx : List Box} {wc w2 : World} {v v2 u : Value} {xs ys zs : List Nat} (h : Gw2 w bx wc v xs u ys) (ho : w2.ownsRow w.heap.size 5 1 v2 (xs ++ zs).length (Bs (xs ++ zs))) (hg : wc.grownBy w2 v.ownBlock) (hw : v2.ownBlock = v.ownBlock ∨ v2.ownBlock = some wc.heap.size) : Gw2 w bx w2 v2 (xs ++ zs) u ys := by
  have h1 := h.one.app ho hg hw
  have hne : u.ownBlock = none ∨ u.ownBlock ≠ v.ownBlock := by
    cases hu : u.ownBlock with
    | none => exact .inl rfl
    | some k =>
      right
      intro e
      rcases h.apart with ha | ha
      · rw [ha] at e; cases e
      · exact ha (by rw [hu, e])
  refine ⟨h1, ⟨World.ownsRow.kept h.two.own hg hne, h1.bel, fun p hp => ⟨(h1.box p hp).1, (h.two.box p hp).2⟩⟩, ?_⟩
  rcases hw with hw | hw
  · rw [hw]; exact h.apart
  · right
    rw [hw]
    intro e
    have := own_lt h.two.own e.symm
    omega
theorem Gw2.app2 {w : World} {bx : List Box} {wc w2 : World} {v u u2 : Value} {xs ys zs : List Nat} (h : Gw2 w bx wc v xs u ys) (ho : w2.ownsRow w.heap.size 5 1 u2 (ys ++ zs).length (Bs (ys ++ zs))) (hg : wc.grownBy w2 u.ownBlock) (hw : u2.ownBlock = u.ownBlock ∨ u2.ownBlock = some wc.heap.size) : Gw2 w bx w2 v xs u2 (ys ++ zs) := by
  have h2 := h.two.app ho hg hw
  refine ⟨⟨World.ownsRow.kept h.one.own hg h.apart, h2.bel, fun p hp => ⟨(h2.box p hp).1, (h.one.box p hp).2⟩⟩, h2, ?_⟩
  rcases hw with hw | hw
  · rw [hw]; exact h.apart
  · cases hv : v.ownBlock with
    | none => exact .inl rfl
    | some k =>
      right
      rw [hw]
      intro e
      have := own_lt h.one.own hv
      have := Option.some.inj e
      omega
theorem Gw2.eq1 {w : World} {bx : List Box} {wc : World} {v u : Value} {xs xs' ys : List Nat} (h : Gw2 w bx wc v xs u ys) (e : xs = xs') : Gw2 w bx wc v xs' u ys := e ▸ h
theorem Gw2.eq2 {w : World} {bx : List Box} {wc : World} {v u : Value} {xs ys ys' : List Nat} (h : Gw2 w bx wc v xs u ys) (e : ys = ys') : Gw2 w bx wc v xs u ys' := e ▸ h
/-- Another row that is no row of bytes grows beside them. -/
theorem Gw2.other {w : World} {bx : List Box} {wc w2 : World} {v u : Value} {xs ys : List Nat} (h : Gw2 w bx wc v xs u ys) {e : TypeId} {s n : Nat} {k : Value} {zs : List Value} (hk : wc.ownsRow w.heap.size e s k n zs) (he : e ≠ 5) (hbx : ∀ p ∈ bx, k.ownBlock ≠ some p.1) (hg : wc.grownBy w2 k.ownBlock) : Gw2 w bx w2 v xs u ys := by
  have ap : ∀ {x : Value} {zs' : List Nat}, wc.ownsRow w.heap.size 5 1 x zs'.length (Bs zs') → x.ownBlock = none ∨ x.ownBlock ≠ k.ownBlock := by
    intro x zs' hx
    cases hxb : x.ownBlock with
    | none => exact .inl rfl
    | some j =>
      right
      intro ee
      rcases hk.2 with ⟨hv, _⟩ | ⟨g, cap, cur, hv, _, hgg, _⟩
      · rw [hv] at ee; cases ee
      · have hj : j = g := by rw [hv] at ee; simpa [Value.ownBlock] using ee
        subst hj
        exact own_neS hx hgg he hxb
  have bel := h.one.bel.grown hg h.one.bel.size (fun j hj => (World.ownsRow.lt hk j hj).1)
  have box : ∀ p ∈ bx, w2.heap[p.1]? = some (.cells p.2.1 p.2.2 (0, 0)) := fun p hp => (hg.block _ (lt_heap (h.one.box p hp).1) (fun ee => hbx p hp ee.symm)).trans (h.one.box p hp).1
  exact ⟨⟨World.ownsRow.kept h.one.own hg (ap h.one.own), bel, fun p hp => ⟨box p hp, (h.one.box p hp).2⟩⟩, ⟨World.ownsRow.kept h.two.own hg (ap h.two.own), bel, fun p hp => ⟨box p hp, (h.two.box p hp).2⟩⟩, h.apart⟩
end Go.Proofs.Ytlcbjmbphekliaa
namespace Go.Proofs.Ytlcbjmbphekliaa
open Go.RowKit Go.WideShapes

theorem ents_from {w : World} {p : Option Addr} {l : List EntV} (h : EntsIn w p l) (c k : Nat) (hc : l.length ≤ c) : EntsIn w (if c = k then p else p.map (·.add (k * 4))) (l.drop k) := by
  intro hp
  rw [List.length_drop] at hp
  obtain ⟨b, o, rfl, hcell⟩ := h (by omega)
  rw [if_neg (by omega), Option.map_some, add_plain]
  refine ⟨b, o + k * 4, rfl, fun i hi => ?_⟩
  rw [List.length_drop] at hi
  obtain ⟨h0, h1, h2, h3⟩ := hcell (k + i) (by omega)
  have hg : (l.drop k).getD i zeroE = l.getD (k + i) zeroE := by simp [List.getD, List.getElem?_drop]
  rw [hg]
  refine ⟨?_, ?_, ?_, ?_⟩
  · rw [show o + k * 4 + i * 4 = o + (k + i) * 4 by omega]; exact h0
  · rw [show o + k * 4 + (i * 4 + 1) = o + ((k + i) * 4 + 1) by omega]; exact h1
  · rw [show o + k * 4 + (i * 4 + 2) = o + ((k + i) * 4 + 2) by omega]; exact h2
  · rw [show o + k * 4 + (i * 4 + 3) = o + ((k + i) * 4 + 3) by omega]; exact h3
theorem ecut_mid (p : Option Addr) (n c i j : Nat) (l : List EntV) (hn : n = l.length) (hc : n ≤ c) (hij : i ≤ j) (hj : j ≤ n) :
    ∃ p' m c', (∀ w, (Instr.slice 26 (.slice p n c) (some (.int .i64 (i : Int))) (some (.int .i64 (j : Int))) none).run Try.prog w = .ok (.slice p' m c') w) ∧ (∀ w, EntsIn w p l → EntsIn w p' ((l.drop i).take m)) ∧ m = j - i ∧ c' = c - i := by
  refine ⟨_, _, _, fun w => ?_, fun w h => (ents_from h c i (by omega)).take' _, rfl, rfl⟩
  rw [run_slice_lh w 26 p n c (by kernel_rfl) .i64 .i64 i j (by omega) (by omega) (by omega), elem_ents]
  rfl
/-- A part: where its entries lie. -/
structure PaV where
  q : Option Addr
  c : Nat
  ents : List EntV
def zeroP : PaV := ⟨none, 0, []⟩
def paS (p : PaV) : Value := .slice p.q p.ents.length p.c
def partsOf (ps : List PaV) : List (List EntV) := ps.map PaV.ents
theorem info_list : (Try.prog.info? 26).map (fun i => (i.zero, i.size, i.bytes)) = some (some (.slice none 0 0), 1, 24) := by kernel_rfl
structure OnQ (w : World) (q0 : Option Addr) (l : List EntV) (v : Value) (f k : Nat) (ps : List PaV) (wr : World) : Prop where
  own : wr.ownsRow w.heap.size 26 1 v ps.length (ps.map paS)
  ok : ∀ p ∈ ps, (∀ w0, EntsIn w0 q0 l → EntsIn w0 p.q p.ents) ∧ 0 < p.ents.length
  bel : Below w.heap.size w wr
  eq : partsOf ps ++ partE (l.drop f) = partE l
  sm : ∀ m, 1 ≤ m → m ≤ k - f → (pageN ((l.drop f).take m)).length < 512
  fk : f ≤ k
  fn : k = l.length → f = k
theorem OnQ.next {w wr w' : World} {q0 : Option Addr} {l : List EntV} {v : Value} {f k : Nat} {ps : List PaV} (h : OnQ w q0 l v f k ps wr) (hb : Below wr.heap.size wr w') : OnQ w q0 l v f k ps w' := ⟨own_below h.own hb, h.ok, below_bt h.bel hb, h.eq, h.sm, h.fk, h.fn⟩
theorem OnQ.few {w wr : World} {q0 : Option Addr} {l : List EntV} {v : Value} {f k : Nat} {ps : List PaV} (h : OnQ w q0 l v f k ps wr) : ps.length ≤ l.length := by
  have h1 := len_flat (partE l) (parts_is l).pos
  rw [(parts_is l).flat, ← h.eq, List.length_append] at h1
  unfold partsOf at h1
  rw [List.length_map] at h1
  omega
/-- A part is closed. -/
theorem OnQ.app {w wr w' : World} {q0 : Option Addr} {l : List EntV} {v v' : Value} {f k m c : Nat} {q : Option Addr} {ps : List PaV} (h : OnQ w q0 l v f k ps wr) (hk : k < l.length) (hm : m = k + 1 - f) (hq : ∀ w0, EntsIn w0 q0 l → EntsIn w0 q ((l.drop f).take m)) (hF : m = firstN (l.drop f))
    (hg : wr.grownBy w' v.ownBlock) (ho : w'.ownsRow w.heap.size 26 1 v' (ps.length + 1) (ps.map paS ++ [.slice q m c])) : OnQ w q0 l v' (k + 1) (k + 1) (ps ++ [⟨q, c, (l.drop f).take m⟩]) w' := by
  have hfk := h.fk
  have hl : ((l.drop f).take m).length = m := by rw [List.length_take, List.length_drop]; omega
  refine ⟨?_, ?_, h.bel.grown hg h.bel.size (fun k hk => (World.ownsRow.lt h.own k hk).1), ?_, fun m a b => by omega, Nat.le_refl _, fun _ => rfl⟩
  · rw [List.length_append, List.map_append]
    have e : [(⟨q, c, (l.drop f).take m⟩ : PaV)].map paS = [.slice q m c] := by simp only [List.map_cons, List.map_nil, paS, hl]
    rw [e]
    exact ho
  · intro p hp
    rcases List.mem_append.1 hp with hp | hp
    · exact h.ok p hp
    · rw [List.mem_singleton.1 hp]
      exact ⟨hq, by show 0 < _; rw [hl]; omega⟩
  · rw [← h.eq, partE_step (l := l.drop f) (by rw [List.length_drop]; omega), ← hF, List.drop_drop, show f + m = k + 1 by omega]
    simp [partsOf]
/-- A part goes on. -/
theorem OnQ.on {w wr w' : World} {q0 : Option Addr} {l : List EntV} {v : Value} {f k : Nat} {ps : List PaV} (h : OnQ w q0 l v f k ps wr) (hb : Below wr.heap.size wr w') (hk : k + 1 < l.length) (hp : (pageN ((l.drop f).take (k + 1 - f))).length < 512) : OnQ w q0 l v f (k + 1) ps w' := by
  refine ⟨own_below h.own hb, h.ok, below_bt h.bel hb, h.eq, fun m a b => ?_, by have := h.fk; omega, fun e => by omega⟩
  rcases Nat.lt_or_ge (k - f) m with hm | hm
  · obtain rfl : m = k + 1 - f := by omega
    exact hp
  · exact h.sm m a hm
theorem OnQ.first {w wr : World} {q0 : Option Addr} {l : List EntV} {v : Value} {f k : Nat} {ps : List PaV} (h : OnQ w q0 l v f k ps wr) (hk : k < l.length) (hd : 512 ≤ (pageN ((l.drop f).take (k + 1 - f))).length ∨ k + 1 = l.length) : k + 1 - f = firstN (l.drop f) := by
  have hfk := h.fk
  refine IsFirst.only (l := l.drop f) ⟨by omega, by rw [List.length_drop]; omega, ?_, fun m a b => h.sm m a (by omega)⟩ (firstN_is (by rw [List.length_drop]; omega))
  rcases hd with hd | hd
  · exact .inl hd
  · exact .inr (by rw [List.length_drop]; omega)
theorem one_cells (w : World) (a : Value) (t : TypeId) : ∀ j u, [a][j]? = some u → (w.alloc (.cells #[a] t)).cell? ((⟨w.heap.size, 0, none⟩ : Addr).add j) = some u := by
  intro j u hj
  have hh := heap_alloc_new w (.cells #[a] t)
  have e : (⟨w.heap.size, 0, none⟩ : Addr).add j = ⟨w.heap.size, j, none⟩ := by simp [Addr.add]; intro h; omega
  rw [e, Lib.cell_of_heap hh]
  simpa using hj
theorem slice_one (q : Option Addr) (n c : Nat) : ∀ u ∈ [Value.slice q n c], u.oneCell' = true := by
  intro u hu
  rw [List.mem_singleton.1 hu]
  rfl
def PartedOut (w : World) (q : Option Addr) (l : List EntV) (e : Ending) (w' : World) : Prop :=
  ∃ v ps, e = .returned v ∧ w'.ownsRow w.heap.size 26 1 v ps.length (ps.map paS) ∧ partsOf ps = partE l ∧ ∀ p ∈ ps, (∀ w0, EntsIn w0 q l → EntsIn w0 p.q p.ents) ∧ 0 < p.ents.length
set_option maxRecDepth 8000 in
set_option maxHeartbeats 2000000 in
theorem Parted_any (q : Option Addr) (n c : Nat) (l : List EntV) (w : World) (h : EntsL w q n l) (hc : checkE l = 0) (hcap : n ≤ c) :
    Calls Try.prog 40 #[.slice q n c] w fun e w' => PartedOut w q l e w' ∧ Below w.heap.size w w' := by
  have HE : Hid (EntsIn w q l ∧ n = l.length) := ⟨h.lies, h.n⟩
  have HC : Hid (checkE l = 0) := hc
  have HZ : Hid (n ≤ 4096 ∧ n ≤ c) := ⟨by have := ((checkE_rise l).1 hc).1; have := h.n; omega, hcap⟩
  have hnI : (n : Int) ≤ 4096 := by have := HZ.out.1; omega
  obtain ⟨i0, hi, hz0, hz1, hz2⟩ := info_parts' info_list
  clear h hc hcap
  go_enter Try.func40, Try.ntmps40
  go_wp2
  go_loopw [3, 4, 5] (fun v s4 s5 wr => ∃ (f k : Nat) (ps : List PaV), k ≤ n ∧ s4 = .int .i64 (f : Int) ∧ s5 = .int .i64 (k : Int) ∧ OnQ w q l v f k ps wr) (fun _ _ i _ => n - (intOf i).toNat)
  case atStart => exact ⟨0, 0, [], by omega, rfl, rfl, World.ownsRow_nil _ _ _ _, by simp, Below.refl _ _, rfl, fun m a b => by omega, Nat.le_refl _, fun _ => rfl⟩
  case round =>
    obtain ⟨f, k, ps, hk, rfl, rfl, hon⟩ := hrel
    obtain ⟨vq, vc, rfl, _, _, _⟩ := own_form hon.own
    have HO : Hid (OnQ w q l (.slice vq ps.length vc) f k ps wr) := hon
    clear hon
    by_cases hkn : k < n
    · have hkI : (k : Int) < (n : Int) := by omega
      obtain ⟨K, hK⟩ : ∃ K, k + 1 = K := ⟨_, rfl⟩
      have hw1 : IntKind.i64.wrap ((k : Int) + 1) = (K : Int) := by rw [IntKind.wrap_i64]; omega
      obtain ⟨p', m, c', hcut, hce, hm, hcc⟩ := ecut_mid q n c f K l HE.out.2 HZ.out.2 (by have := HO.out.fk; omega) (by omega)
      have HM : Hid (m = K - f ∧ k + 1 = K ∧ k < n) := ⟨hm, hK, hkn⟩
      have HEP : Hid (∀ w0, EntsIn w0 q l → EntsIn w0 p' ((l.drop f).take m)) := hce
      have HLM : Hid (((l.drop f).take m).length = m) := by show _ = _; rw [List.length_take, List.length_drop]; have := HM.out; have := HE.out.2; omega
      have HSL : Hid (ps.length ≤ 4096) := by show _ ≤ _; have := HO.out.few; have := HZ.out; have := HE.out.2; omega
      clear hm hcc hce hK hkn
      by_cases hlast : K = n
      · subst hlast
        have HNX : Hid (OnQ w q l (.slice vq ps.length vc) f k ps (wr.alloc (.cells #[.slice p' m c'] 26))) := HO.out.next (below_alloc _ _)
        have HCL : Hid (∀ i u, [Value.slice p' m c'][i]? = some u → (wr.alloc (.cells #[.slice p' m c'] 26)).cell? ((⟨wr.heap.size, 0, none⟩ : Addr).add i) = some u) := one_cells wr _ _
        go_wp2_with (at_builtin; go_loud (refine wpList_append_own _ rfl _ _ 78 rfl w.heap.size 26 i0 _ 1 24 Try.underlying78 hi hz0 hz1 hz2 rfl (by omega) _ _ _ rfl HNX.out.own ⟨wr.heap.size, 0, none⟩ 1 1 [.slice p' m c'] rfl rfl HCL.out (slice_one p' m c') (by have := HSL.out; unfold maxLen; omega) (by have := HSL.out; omega) HNX.out.bel.size ?_); intro va ua hoa hga _)
        have HDN : Hid (OnQ w q l va K K (ps ++ [⟨p', c', (l.drop f).take m⟩]) ua) := by
          have hM := HM.out
          have := HNX.out.app (by have := HE.out.2; omega) (by omega) HEP.out (by rw [hM.1, ← hM.2.1]; exact HO.out.first (by have := HE.out.2; omega) (.inr (by have := HE.out.2; omega))) hga hoa
          rw [hM.2.1] at this
          exact this
        clear hoa hga
        go_wp2
        go_roundw
        case rel => exact ⟨K, K, _, by omega, rfl, rfl, HDN.out⟩
        case measure => have := HM.out; simp [intOf]; omega
      · have g2 : ((K : Int) == (n : Int)) = false := by simp; omega
        have g2' : ¬ (K : Int) = (n : Int) := by omega
        have HMD := Made_any p' m c' ((l.drop f).take m) wr ⟨HLM.out.symm, (HEP.out w HE.out.1).below HO.out.bel⟩ (checkE_take _ (checkE_drop f HC.out))
        obtain ⟨N, hN⟩ : ∃ N, (pageN ((l.drop f).take m)).length = N := ⟨_, rfl⟩
        have HNN : Hid ((pageN ((l.drop f).take m)).length = N ∧ K ≠ n) := ⟨hN, hlast⟩
        rw [hN] at HMD
        have hNI : (N : Int) ≤ 6000 := by
          have hM := HM.out
          obtain ⟨j, hj⟩ : ∃ j, m = j + 1 := ⟨m - 1, by have := HO.out.fk; omega⟩
          have := page_step (checkE_drop f HC.out) j (by
            rcases Nat.eq_zero_or_pos j with h0 | h0
            · exact .inr h0
            · exact .inl (HO.out.sm j h0 (by omega)))
          rw [← hj, hN] at this
          omega
        clear hN hlast
        go_wp2_with fail
        refine HMD.mono ?_
        rintro e w2 ⟨v2, rfl, ho2, hb2⟩
        obtain ⟨qb, cb, rfl, _, _, _⟩ := own_form ho2
        have HB2 : Hid (Below wr.heap.size wr w2) := hb2
        clear ho2 hb2 HMD
        by_cases h5 : 512 ≤ N
        · have g1' : (512 : Int) ≤ (N : Int) := by omega
          have g1 : decide ((512 : Int) ≤ (N : Int)) = true := decide_eq_true g1'
          have H5 : Hid (512 ≤ N) := h5
          have HNX : Hid (OnQ w q l (.slice vq ps.length vc) f k ps (w2.alloc (.cells #[.slice p' m c'] 26))) := (HO.out.next HB2.out).next (below_alloc _ _)
          have HCL : Hid (∀ i u, [Value.slice p' m c'][i]? = some u → (w2.alloc (.cells #[.slice p' m c'] 26)).cell? ((⟨w2.heap.size, 0, none⟩ : Addr).add i) = some u) := one_cells w2 _ _
          clear h5
          go_wp2_with (at_builtin; go_loud (refine wpList_append_own _ rfl _ _ 78 rfl w.heap.size 26 i0 _ 1 24 Try.underlying78 hi hz0 hz1 hz2 rfl (by omega) _ _ _ rfl HNX.out.own ⟨w2.heap.size, 0, none⟩ 1 1 [.slice p' m c'] rfl rfl HCL.out (slice_one p' m c') (by have := HSL.out; unfold maxLen; omega) (by have := HSL.out; omega) HNX.out.bel.size ?_); intro va ua hoa hga _)
          have HDN : Hid (OnQ w q l va K K (ps ++ [⟨p', c', (l.drop f).take m⟩]) ua) := by
            have hM := HM.out
            have hF := HO.out.first (by have := HE.out.2; omega) (.inl (by rw [hM.2.1, ← hM.1, HNN.out.1]; exact H5.out))
            have := HNX.out.app (by have := HE.out.2; omega) (by omega) HEP.out (by rw [hM.1, ← hM.2.1]; exact hF) hga hoa
            rw [hM.2.1] at this
            exact this
          clear hoa hga
          go_wp2
          go_roundw
          case rel => exact ⟨K, K, _, by have := HM.out; omega, rfl, rfl, HDN.out⟩
          case measure => have := HM.out; simp [intOf]; omega
        · have g1' : (N : Int) < 512 := by omega
          have g1 : decide ((512 : Int) ≤ (N : Int)) = false := decide_eq_false (by omega)
          have HDN : Hid (OnQ w q l (.slice vq ps.length vc) f K ps w2) := by
            have hM := HM.out
            have := HO.out.on HB2.out (by have := HE.out.2; have := HNN.out.2; omega) (by rw [hM.2.1, ← hM.1, HNN.out.1]; omega)
            rw [hM.2.1] at this
            exact this
          clear h5
          go_wp2
          go_roundw
          case rel => exact ⟨f, K, ps, by have := HM.out; omega, rfl, rfl, HDN.out⟩
          case measure => have := HM.out; simp [intOf]; omega
    · have hkI : (n : Int) ≤ (k : Int) := by omega
      have HEQ : Hid (partsOf ps = partE l) := by
        show _ = _
        have hf := HO.out.fn (by have := HE.out.2; omega)
        rw [← HO.out.eq, partE_nil (l := l.drop f) (by rw [List.length_drop]; have := HE.out.2; omega), List.append_nil]
      go_wp2
      go_ret
      exact ⟨⟨_, ps, rfl, HO.out.own, HEQ.out, HO.out.ok⟩, HO.out.bel⟩
end Go.Proofs.Ytlcbjmbphekliaa
namespace Go.Proofs.Ytlcbjmbphekliaa
open Go.RowKit Go.WideShapes

def XK (P : List (List EntV)) (k : Nat) : List Nat := pagesN (P.take k)
def YK (P : List (List EntV)) (k : Nat) : List Nat := smallN P.length ++ spotsN (P.take k)
theorem take_snocP {P : List (List EntV)} {k : Nat} (h : k < P.length) {p : List EntV} (hp : P.getD k [] = p) : P.take (k + 1) = P.take k ++ [p] := by
  rw [← hp, List.getD_eq_getElem?_getD, List.getElem?_eq_getElem h]; exact List.take_succ_eq_append_getElem h
theorem XK_next {P : List (List EntV)} {k : Nat} (h : k < P.length) {p : List EntV} (hp : P.getD k [] = p) : XK P k ++ pageN p = XK P (k + 1) := by
  unfold XK
  rw [take_snocP h hp, pagesN_app, pagesN_one]
theorem YK_next {P : List (List EntV)} {k : Nat} (h : k < P.length) {p : List EntV} (hp : P.getD k [] = p) : YK P k ++ textN (firstK p) ++ textN (lastKy p) ++ smallN (pageN p).length = YK P (k + 1) := by
  unfold YK
  rw [take_snocP h hp, spotsN_app, spotsN_one]
  unfold spotN
  simp only [List.append_assoc]
theorem XK_le {P : List (List EntV)} (k : Nat) : (XK P k).length ≤ (pagesN P).length := by
  have h : pagesN P = XK P k ++ pagesN (P.drop k) := by unfold XK; rw [← pagesN_app, List.take_append_drop]
  rw [h, List.length_append]; omega
theorem XK_all {P : List (List EntV)} {k : Nat} (h : P.length ≤ k) : XK P k = pagesN P := by unfold XK; rw [List.take_of_length_le h]
theorem YK_all {P : List (List EntV)} {k : Nat} (h : P.length ≤ k) : YK P k = indexN P := by unfold YK indexN; rw [List.take_of_length_le h]
theorem YK_len {l : List EntV} (hc : checkE l = 0) (k : Nat) : (YK (partE l) k).length ≤ 3000000 := by
  have hp := parts_is l
  have hn : (partE l).length ≤ 4096 := Nat.le_trans (len_flat _ hp.pos) (by rw [hp.flat]; exact ((checkE_rise l).1 hc).1)
  have h2 := spotsN_len ((partE l).take k) (fun p hm => spotN_len (hp.small hc p (List.mem_of_mem_take hm)).1 (hp.pos p (List.mem_of_mem_take hm)) (by have := (hp.small hc p (List.mem_of_mem_take hm)).2; omega))
  have h3 := smallN_five (partE l).length (by omega)
  have h5 : 600 * ((partE l).take k).length ≤ 600 * 4096 := Nat.mul_le_mul_left _ (by rw [List.length_take]; omega)
  unfold YK
  rw [List.length_append]
  omega
theorem cell_same {w w' : World} {b k : Nat} (h : w'.heap[b]? = w.heap[b]?) : w'.cell? ⟨b, k, none⟩ = w.cell? ⟨b, k, none⟩ := by
  unfold World.cell?
  simp only [h]
theorem getD_parts {ps : List PaV} {P : List (List EntV)} (h : partsOf ps = P) {k : Nat} (hk : k < ps.length) : P.getD k [] = (ps.getD k zeroP).ents := by
  rw [← h]
  unfold partsOf
  simp [List.getD, List.getElem?_map, List.getElem?_eq_getElem hk]
theorem strs_one (w : World) (s : ByteArray) : Sv.StrsIn (w.alloc (.cells #[.string s] 9)) (some ⟨w.heap.size, 0, none⟩) [s] := by
  intro _
  refine ⟨w.heap.size, 0, rfl, fun i hi => ?_⟩
  obtain rfl : i = 0 := by simp at hi; omega
  rw [cell_of_row _ w.heap.size (0 + 0) _ _ _ (heap_alloc_new w _)]
  rfl
theorem core_eq (P : List (List EntV)) : pagesN P ++ indexN P ++ sieveN P.flatten ++ putN (pagesN P).length ++ putN (indexN P).length ++ putN (sieveN P.flatten).length = coreN P := by
  unfold coreN endN
  simp only [List.append_assoc]
set_option maxRecDepth 8000 in
set_option maxHeartbeats 4000000 in
theorem rMakeT_any (q : Option Addr) (n c : Nat) (l : List EntV) (w : World) (h : EntsL w q n l) (hcap : n ≤ c) (ys : List Nat) (E : Nat) (hR : makeT l = (ys, E)) :
    Calls Try.prog 18 #[.slice q n c] w fun e w' => ∃ v, e = .returned (.tuple #[v, .int .i64 (E : Int)]) ∧ w'.ownsRow w.heap.size 5 1 v ys.length (Bs ys) ∧ Below w.heap.size w w' := by
  have HE : Hid (EntsIn w q l ∧ n = l.length ∧ n ≤ c) := ⟨h.lies, h.n, hcap⟩
  have HR : Hid (makeT l = (ys, E)) := hR
  obtain ⟨C, hC⟩ : ∃ C, checkE l = C := ⟨_, rfl⟩
  have HC : Hid (checkE l = C) := hC
  have HCK := rCheck_any q n c l w h C hC
  clear h hR hC hcap
  go_enter Try.func18, Try.ntmps18
  go_wp2_with fail
  refine HCK.mono ?_
  rintro e w1 ⟨rfl, hb1⟩
  have HB1 : Hid (Below w.heap.size w w1) := hb1
  clear hb1 HCK
  rcases Nat.eq_zero_or_pos C with h0 | h0
  · subst h0
    have hnI : (n : Int) ≤ 4096 := by have := ((checkE_rise l).1 HC.out).1; have := HE.out.2.1; omega
    rcases Nat.eq_zero_or_pos n with hn0 | hn0
    · subst hn0
      have HM : Hid (ys = [] ∧ E = 90) := by
        have := HR.out
        rw [makeT_none HC.out (by have := HE.out.2.1; omega)] at this
        simp only [Prod.mk.injEq] at this
        exact ⟨this.1.symm, this.2.symm⟩
      go_wp2
      go_ret2
      obtain ⟨rfl, rfl⟩ := HM.out
      exact ⟨_, rfl, World.ownsRow_nil _ _ _ _, HB1.out⟩
    · have hn1 : (1 : Int) ≤ (n : Int) := by omega
      have hn2 : ¬ (n : Int) = 0 := by omega
      have hn3 : ((n : Int) == 0) = false := by simp; omega
      obtain ⟨P, hP⟩ : ∃ P, partE l = P := ⟨_, rfl⟩
      have hpp := parts_is l
      rw [hP] at hpp
      have HP : Hid (partE l = P ∧ P.flatten = l ∧ (∀ p ∈ P, checkE p = 0 ∧ (pageN p).length ≤ 6000) ∧ (∀ p ∈ P, 0 < p.length) ∧ 0 < P.length ∧ P.length ≤ 4096 ∧ (∀ k, (YK P k).length ≤ 3000000)) := ⟨hP, hpp.flat, hpp.small HC.out, hpp.pos, hpp.one (by have := HE.out.2.1; omega), Nat.le_trans (len_flat _ hpp.pos) (by rw [hpp.flat]; exact ((checkE_rise l).1 HC.out).1), by rw [← hP]; exact YK_len HC.out⟩
      have HTL : Hid (524288 < (tableN P).length → ys = [] ∧ E = 7) := by
        intro h
        have := HR.out
        rw [makeT_cap HC.out (by have := HE.out.2.1; omega) (by rw [HP.out.1]; exact h)] at this
        simp only [Prod.mk.injEq] at this
        exact ⟨this.1.symm, this.2.symm⟩
      have HTO : Hid ((tableN P).length ≤ 524288 → ys = tableN P ∧ E = 0) := by
        intro h
        have := HR.out
        rw [makeT_is HC.out (by have := HE.out.2.1; omega) (by rw [HP.out.1]; exact h), HP.out.1] at this
        simp only [Prod.mk.injEq] at this
        exact ⟨this.1.symm, this.2.symm⟩
      have HPD := Parted_any q n c l ((w1.alloc (.cells #[] 5)).alloc (.cells #[] 9)) ⟨HE.out.2.1, HE.out.1.below (below_bt HB1.out (below_bt (below_alloc _ _) (below_alloc _ _)))⟩ HC.out HE.out.2.2
      clear hpp hP
      go_wp2_with fail
      refine HPD.mono ?_
      rintro e w2 ⟨⟨v7, ps, rfl, ho7, hps, hok⟩, hb2⟩
      rw [HP.out.1] at hps
      have hpl : ps.length = P.length := by rw [← hps]; simp [partsOf]
      obtain ⟨g7, c7, cur, rfl, hg7b, hg7, hc7⟩ : ∃ g7 c7 cur, v7 = .slice (some ⟨g7, 0, none⟩) ps.length c7 ∧ ((w1.alloc (.cells #[] 5)).alloc (.cells #[] 9)).heap.size ≤ g7 ∧ w2.heap[g7]? = some (.cells cur 26 (0, 0)) ∧ ps.length ≤ c7 := by
        rcases ho7.2 with ⟨_, hz⟩ | ⟨g7, c7, cur, h1, h2, h3, h4, _⟩
        · have := HP.out.2.2.2.2.1; omega
        · exact ⟨g7, c7, cur, h1, h2, h3, h4⟩
      have HCELL : Hid (∀ wr : World, wr.heap[g7]? = some (.cells cur 26 (0, 0)) → ∀ k, k < ps.length → wr.cell? ⟨g7, k, none⟩ = some (paS (ps.getD k zeroP))) := by
        intro wr hwr k hk
        rw [cell_same (hwr.trans hg7.symm), World.ownsRow.cellAt ho7 k (by omega)]
        simp [List.getD, List.getElem?_map, List.getElem?_eq_getElem hk]
      have HPS : Hid (partsOf ps = P ∧ ∀ p ∈ ps, (∀ w0, EntsIn w0 q l → EntsIn w0 p.q p.ents) ∧ 0 < p.ents.length) := ⟨hps, hok⟩
      obtain ⟨M, hM⟩ : ∃ M, ps.length = M := ⟨_, rfl⟩
      have HM : Hid (ps.length = M ∧ P.length = M ∧ 0 < M ∧ M ≤ 4096) := ⟨hM, by omega, by have := HP.out.2.2.2.2.1; omega, by have := HP.out.2.2.2.2.2.1; omega⟩
      rw [hM]
      have hMI : (M : Int) ≤ 4096 := by have := HM.out; omega
      have hwM : IntKind.u64.wrap (M : Int) = (M : Int) := by rw [IntKind.wrap_u64]; omega
      have hsz1 : ((w1.alloc (.cells #[] 5)).alloc (.cells #[] 9)).heap.size = w1.heap.size + 2 := by simp
      have HW2 : Hid (Below w1.heap.size w1 w2 ∧ w2.heap[g7]? = some (.cells cur 26 (0, 0)) ∧ w2.heap[w1.heap.size + 1]? = some (.cells #[] 9 (0, 0)) ∧ w2.ownsRow w.heap.size 5 1 (.slice (some ⟨w1.heap.size, 0, none⟩) 0 0) 0 [] ∧ w1.heap.size + 2 ≤ g7 ∧ g7 < w2.heap.size) := by
        refine ⟨below_bt (below_bt (below_alloc _ _) (below_alloc _ _)) hb2, hg7, ?_, ?_, by omega, lt_heap hg7⟩
        · have := heap_alloc_new (w1.alloc (.cells #[] 5)) (.cells #[] 9)
          rw [show (w1.alloc (.cells #[] 5)).heap.size = w1.heap.size + 1 by simp] at this
          exact block_below this hb2
        · exact own_below (own_below (own_mono (World.ownsRow_made (base := w1.heap.size) (e := 5) (size := 1) w1 #[] 0 (Nat.le_refl _) (by unfold maxLen; omega) rfl) HB1.out.size) (below_alloc _ _)) hb2
      clear ho7 hps hok hb2 HPD hpl hg7b hg7 hc7 hM hsz1
      go_wp2_with fail
      refine (refSmall_any M _ (by omega)).mono ?_
      rintro e w3 ⟨v8, rfl, ho8, hb8⟩
      have HS3 : Hid (Gw2 w [(g7, cur, 26), (w1.heap.size + 1, #[], 9)] w3 (.slice (some ⟨w1.heap.size, 0, none⟩) 0 0) [] v8 (smallN M)) := by
        obtain ⟨a1, a2, a3, a4, a5, a6⟩ := HW2.out
        have hbel : Below w.heap.size w w3 := below_bt (below_bt HB1.out a1) hb8
        have h8 : ∀ k, v8.ownBlock = some k → w2.heap.size ≤ k := fun k hk => (World.ownsRow.lt ho8 k hk).1
        have hw12 := a1.size
        have hlt : w1.heap.size + 1 < w2.heap.size := by omega
        refine ⟨⟨own_below a4 hb8, hbel, ?_⟩, ⟨own_mono ho8 (Nat.le_trans HB1.out.size hw12), hbel, ?_⟩, .inr ?_⟩
        · intro p hp
          simp only [List.mem_cons, List.not_mem_nil, or_false] at hp
          rcases hp with rfl | rfl
          · exact ⟨block_below a2 hb8, fun e => by have := Option.some.inj e; simp only at this; omega⟩
          · exact ⟨block_below a3 hb8, fun e => by have := Option.some.inj e; simp only at this; omega⟩
        · intro p hp
          simp only [List.mem_cons, List.not_mem_nil, or_false] at hp
          rcases hp with rfl | rfl
          · exact ⟨block_below a2 hb8, fun e => by have := h8 _ e; simp only at this; omega⟩
          · exact ⟨block_below a3 hb8, fun e => by have := h8 _ e; simp only at this; omega⟩
        · intro e
          have := h8 w1.heap.size e.symm
          omega
      clear ho8 hb8
      go_wp2
      go_loopw [5, 8, 9] (fun s5 s8 s9 wr => ∃ k : Nat, k ≤ M ∧ s9 = .int .i64 (k : Int) ∧ (XK P k).length ≤ 524288 ∧ Gw2 w [(g7, cur, 26), (w1.heap.size + 1, #[], 9)] wr s5 (XK P k) s8 (YK P k)) (fun _ _ i _ => M - (intOf i).toNat)
      case atStart =>
        refine ⟨0, by omega, rfl, by simp [XK, pagesN], ?_⟩
        have e1 : XK P 0 = [] := by simp [XK, pagesN]
        have e2 : YK P 0 = smallN M := by unfold YK; rw [HM.out.2.1]; simp [spotsN]
        rw [e1, e2]
        exact HS3.out
      case round =>
        obtain ⟨k, hk, rfl, hfew, hg⟩ := hrel
        obtain ⟨q5, c5, rfl, _, _, _⟩ := own_form hg.one.own
        obtain ⟨X, hX⟩ : ∃ X, XK P k = X := ⟨_, rfl⟩
        obtain ⟨Y, hY⟩ : ∃ Y, YK P k = Y := ⟨_, rfl⟩
        have hYL := HP.out.2.2.2.2.2.2 k
        rw [hX, hY] at hg
        rw [hX] at hfew ⊢
        rw [hY] at hYL
        have HG : Hid (Gw2 w [(g7, cur, 26), (w1.heap.size + 1, #[], 9)] wr (.slice q5 X.length c5) X _ Y) := hg
        have HXY : Hid (XK P k = X ∧ YK P k = Y ∧ X.length ≤ 524288 ∧ Y.length ≤ 3000000) := ⟨hX, hY, hfew, hYL⟩
        have hXI : (X.length : Int) ≤ 524288 := by omega
        clear hg hX hY hfew hYL HS3
        by_cases hkM : k < M
        · have hkI : (k : Int) < (M : Int) := by omega
          obtain ⟨pa, hpa⟩ : ∃ pa, ps.getD k zeroP = pa := ⟨_, rfl⟩
          have hmem : pa ∈ ps := by rw [← hpa, List.getD_eq_getElem?_getD, List.getElem?_eq_getElem (by have := HM.out; omega)]; exact List.getElem_mem _
          have hcell := HCELL.out wr (HG.out.one.box (g7, cur, 26) (by simp)).1 k (by have := HM.out; omega)
          have hgd := getD_parts HPS.out.1 (k := k) (by have := HM.out; omega)
          rw [hpa] at hcell hgd
          obtain ⟨hen, hpos⟩ := HPS.out.2 pa hmem
          obtain ⟨pq, pc, p⟩ := pa
          simp only [paS] at hcell hgd hen hpos
          have hpm : p ∈ P := by rw [← hgd, List.getD_eq_getElem?_getD, List.getElem?_eq_getElem (by have := HM.out; omega)]; exact List.getElem_mem _
          have hEN := hen w HE.out.1
          obtain ⟨b, o, rfl⟩ := hEN.addr hpos
          obtain ⟨hk1, hk2, hpl⟩ := ok_keys (HP.out.2.2.1 p hpm).1 hpos
          obtain ⟨kf, hkf⟩ : ∃ kf, firstK p = kf := ⟨_, rfl⟩
          obtain ⟨kl, hkl⟩ : ∃ kl, lastKy p = kl := ⟨_, rfl⟩
          obtain ⟨L1, hL1⟩ : ∃ L1, p.length - 1 = L1 := ⟨_, rfl⟩
          obtain ⟨N, hN⟩ : ∃ N, (pageN p).length = N := ⟨_, rfl⟩
          have HX0 : Hid (∀ wz, Below w.heap.size w wz → wz.cell? ⟨b, o, none⟩ = some (.string kf)) := by
            intro wz hb
            have := ((hEN.below hb).at (k := 0) hpos).1
            rw [show (p.getD 0 zeroE).key = kf from hkf, Nat.zero_mul, Nat.add_zero] at this
            exact this
          have HZ0 : Hid (∀ wz, Below w.heap.size w wz → wz.cell? ⟨b, o + L1 * 4, none⟩ = some (.string kl)) := by
            intro wz hb
            have := ((hEN.below hb).at (k := L1) (by omega)).1
            rw [← hL1] at this
            rw [show (p.getD (p.length - 1) zeroE).key = kl from hkl] at this
            rw [← hL1]
            exact this
          have hXN := XK_next (P := P) (by have := HM.out; omega) hgd
          have hYN := YK_next (P := P) (by have := HM.out; omega) hgd
          rw [HXY.out.1] at hXN
          rw [HXY.out.2.1, hkf, hkl, hN] at hYN
          have HXN : Hid (X ++ pageN p = XK P (k + 1)) := hXN
          have HYN : Hid (Y ++ textN kf ++ textN kl ++ smallN N = YK P (k + 1)) := hYN
          have HK : Hid (kf.size ≤ 256 ∧ kl.size ≤ 256 ∧ N ≤ 6000 ∧ (pageN p).length = N ∧ k < M ∧ (textN kf).length ≤ 300 ∧ (textN kl).length ≤ 300 ∧ (smallN N).length ≤ 5) := by
            have a1 : kf.size ≤ 256 := by rw [← hkf]; exact hk1
            have a2 : kl.size ≤ 256 := by rw [← hkl]; exact hk2
            have a3 : N ≤ 6000 := by rw [← hN]; exact (HP.out.2.2.1 p hpm).2
            refine ⟨a1, a2, a3, hN, hkM, ?_, ?_, smallN_five N (by omega)⟩
            · have := textN_len kf (by omega); omega
            · have := textN_len kl (by omega); omega
          have hNI : (N : Int) ≤ 6000 := by have := HK.out; omega
          have hwN : IntKind.u64.wrap (N : Int) = (N : Int) := by rw [IntKind.wrap_u64]; omega
          have hplI : (p.length : Int) ≤ 4096 := by omega
          have hp0I : (0 : Int) < (p.length : Int) := by omega
          have hwL : IntKind.i64.wrap ((p.length : Int) - 1) = (L1 : Int) := by rw [IntKind.wrap_i64]; omega
          have hL2 : (L1 : Int) < (p.length : Int) := by omega
          have hL3 : (0 : Int) ≤ (L1 : Int) := by omega
          have HMD := Made_any (some ⟨b, o, none⟩) p.length pc p wr ⟨rfl, hEN.below HG.out.one.bel⟩ (HP.out.2.2.1 p hpm).1
          rw [hN] at HMD
          obtain ⟨Z, hZ⟩ : ∃ Z, (X ++ pageN p).length = Z := ⟨_, rfl⟩
          have HZ : Hid ((X ++ pageN p).length = Z ∧ Z = X.length + N) := ⟨hZ, by rw [← hZ, List.length_append, hN]⟩
          have hZI : (Z : Int) ≤ 600000 := by have := HZ.out.2; omega
          clear hmem hgd hen hpos hpm hEN hk1 hk2 hpl hkf hkl hL1 hN hXN hYN hpa hZ hkM
          go_wp2_with fail
          refine HMD.mono ?_
          rintro e w3' ⟨v3, rfl, ho3, hb3⟩
          have hq3 := own_form ho3
          obtain ⟨q3, c3, rfl, _, _, hp3⟩ := hq3
          have HG3 : Hid (Gw2 w [(g7, cur, 26), (w1.heap.size + 1, #[], 9)] w3' (.slice q5 X.length c5) X _ Y) := HG.out.call hb3
          have HI3 : Hid (BIn w3' q3 (pageN p)) := own_in (xs := pageN p) (by rw [HK.out.2.2.2.1]; exact ho3) (pageN_lt p)
          have hz3 := HG3.out.one.size
          clear ho3 hb3 HMD hcell HG
          by_cases hbig : 524288 < Z
          · have hbI : (524288 : Int) < (Z : Int) := by omega
            have HBG : Hid (524288 < (tableN P).length) := by
              show _ < _
              have h1 := XK_le (P := P) (k + 1)
              rw [← HXN.out, HZ.out.1] at h1
              rw [tableN_len]; omega
            clear hbig
            go_wp2_with (at_builtin; go_loud (refine wpList_append_bytesX _ rfl _ _ rfl w.heap.size _ X (pageN p) q3 _ c3 rfl rfl HK.out.2.2.2.1.symm HG3.out.one.own HI3.out hp3 (by have := HXY.out; have := HK.out; omega) hz3 ?_); intro v5 w5 ho5 hg5 hw5; have HG5 : Hid (Gw2 w [(g7, cur, 26), (w1.heap.size + 1, #[], 9)] w5 _ (X ++ pageN p) _ Y) := HG3.out.app1 ho5 hg5 hw5; have hq5 := own_form ho5; rw [HZ.out.1] at hq5; obtain ⟨q5', c5', rfl, _, _, _⟩ := hq5; clear ho5 hg5 hw5)
            go_wp2
            go_ret2
            obtain ⟨rfl, rfl⟩ := HTL.out HBG.out
            exact ⟨_, rfl, World.ownsRow_nil _ _ _ _, HG5.out.one.bel⟩
          · have hbI : (Z : Int) ≤ 524288 := by omega
            have HFW : Hid ((XK P (k + 1)).length ≤ 524288) := by show _ ≤ _; rw [← HXN.out, HZ.out.1]; omega
            clear hbig
            go_wp2_with (at_builtin; go_loud (refine wpList_append_bytesX _ rfl _ _ rfl w.heap.size _ X (pageN p) q3 _ c3 rfl rfl HK.out.2.2.2.1.symm HG3.out.one.own HI3.out hp3 (by have := HXY.out; have := HK.out; omega) hz3 ?_); intro v5 w5 ho5 hg5 hw5; have HG5 : Hid (Gw2 w [(g7, cur, 26), (w1.heap.size + 1, #[], 9)] w5 _ (X ++ pageN p) _ Y) := HG3.out.app1 ho5 hg5 hw5; have hq5 := own_form ho5; rw [HZ.out.1] at hq5; obtain ⟨q5', c5', rfl, _, _, _⟩ := hq5; have x0 := HX0.out w5 HG5.out.one.bel; clear ho5 hg5 hw5)
            refine (refText_any kf _ (by have := HK.out; omega)).mono ?_
            rintro e w6 ⟨v6, rfl, ho6, hb6⟩
            obtain ⟨q6, c6, rfl, _, _, hp6⟩ := own_form ho6
            have HG6 : Hid (Gw2 w [(g7, cur, 26), (w1.heap.size + 1, #[], 9)] w6 (.slice q5' Z c5') (X ++ pageN p) _ Y) := HG5.out.call hb6
            have HI6 : Hid (BIn w6 q6 (textN kf)) := own_in ho6 (textN_lt _)
            have hz6 := HG6.out.one.size
            clear ho6 hb6 HG5 x0
            go_wp2_with (at_builtin; go_loud (refine wpList_append_bytesX _ rfl _ _ rfl w.heap.size _ Y (textN kf) q6 _ c6 rfl rfl rfl HG6.out.two.own HI6.out hp6 (by have := HXY.out; have := HK.out; omega) hz6 ?_); intro v7 w7 ho7 hg7 hw7; have HG7 : Hid (Gw2 w [(g7, cur, 26), (w1.heap.size + 1, #[], 9)] w7 (.slice q5' Z c5') (X ++ pageN p) v7 (Y ++ textN kf)) := HG6.out.app2 ho7 hg7 hw7; have z0 := HZ0.out w7 HG7.out.one.bel; clear ho7 hg7 hw7)
            refine (refText_any kl _ (by have := HK.out; omega)).mono ?_
            rintro e w8 ⟨v8, rfl, ho8, hb8⟩
            obtain ⟨q8, c8, rfl, _, _, hp8⟩ := own_form ho8
            have HG8 : Hid (Gw2 w [(g7, cur, 26), (w1.heap.size + 1, #[], 9)] w8 (.slice q5' Z c5') (X ++ pageN p) v7 (Y ++ textN kf)) := HG7.out.call hb8
            have HI8 : Hid (BIn w8 q8 (textN kl)) := own_in ho8 (textN_lt _)
            have hz8 := HG8.out.one.size
            clear ho8 hb8 HG7 z0 HG6 hz6
            go_wp2_with (at_builtin; go_loud (refine wpList_append_bytesX _ rfl _ _ rfl w.heap.size _ (Y ++ textN kf) (textN kl) q8 _ c8 rfl rfl rfl HG8.out.two.own HI8.out hp8 (by rw [List.length_append]; have := HXY.out; have := HK.out; omega) hz8 ?_); intro v9 w9 ho9 hg9 hw9; have HG9 : Hid (Gw2 w [(g7, cur, 26), (w1.heap.size + 1, #[], 9)] w9 (.slice q5' Z c5') (X ++ pageN p) v9 (Y ++ textN kf ++ textN kl)) := HG8.out.app2 ho9 hg9 hw9; clear ho9 hg9 hw9)
            refine (refSmall_any N _ (by omega)).mono ?_
            rintro e w10 ⟨v10, rfl, ho10, hb10⟩
            obtain ⟨q10, c10, rfl, _, _, hp10⟩ := own_form ho10
            have HG10 : Hid (Gw2 w [(g7, cur, 26), (w1.heap.size + 1, #[], 9)] w10 (.slice q5' Z c5') (X ++ pageN p) v9 (Y ++ textN kf ++ textN kl)) := HG9.out.call hb10
            have HI10 : Hid (BIn w10 q10 (smallN N)) := own_in ho10 (smallN_bytes _)
            have hz10 := HG10.out.one.size
            clear ho10 hb10 HG9 HG8 hz8
            go_wp2_with (at_builtin; go_loud (refine wpList_append_bytesX _ rfl _ _ rfl w.heap.size _ (Y ++ textN kf ++ textN kl) (smallN N) q10 _ c10 rfl rfl rfl HG10.out.two.own HI10.out hp10 (by simp only [List.length_append]; have := HXY.out; have := HK.out; omega) hz10 ?_); intro v11 w11 ho11 hg11 hw11; have HG11 : Hid (Gw2 w [(g7, cur, 26), (w1.heap.size + 1, #[], 9)] w11 (.slice q5' Z c5') (X ++ pageN p) v11 (Y ++ textN kf ++ textN kl ++ smallN N)) := HG10.out.app2 ho11 hg11 hw11; clear ho11 hg11 hw11)
            go_wp2
            go_roundw
            case rel => exact ⟨k + 1, by have := HK.out; omega, by go_num, HFW.out, (HG11.out.eq1 HXN.out).eq2 HYN.out⟩
            case measure => have := HK.out; simp [intOf]; omega
        · have hkI : (M : Int) ≤ (k : Int) := by omega
          obtain ⟨q8, c8, rfl, _, _, hp8⟩ := own_form HG.out.two.own
          have HXY2 : Hid (X = pagesN P ∧ Y = indexN P ∧ X.length ≤ 524288 ∧ Y.length ≤ 3000000) := by
            have := HXY.out
            rw [XK_all (by have := HM.out; omega), YK_all (by have := HM.out; omega)] at this
            exact ⟨this.1.symm, this.2.1.symm, this.2.2⟩
          have hYI : (Y.length : Int) ≤ 3000000 := by have := HXY2.out; omega
          have HK0 : Hid (wr.ownsRow w.heap.size 9 1 (.slice (some ⟨w1.heap.size + 1, 0, none⟩) 0 0) 0 [] ∧ Gw2 w [] wr (.slice q5 X.length c5) X (.slice q8 Y.length c8) Y) := by
            obtain ⟨g1, g2, g3⟩ := HG.out
            refine ⟨⟨by simp, .inr ⟨w1.heap.size + 1, 0, #[], rfl, by have := HB1.out.size; omega, (g1.box _ (List.mem_cons_of_mem _ (List.mem_singleton.2 rfl))).1, Nat.le_refl _, by unfold maxLen; omega, rfl, by simp⟩⟩, ⟨g1.own, g1.bel, fun p hp => by simp at hp⟩, ⟨g2.own, g2.bel, fun p hp => by simp at hp⟩, g3⟩
          clear HXY HG
          go_wp2
          go_loopw [6, 12] (fun s6 s12 wz => ∃ j : Nat, j ≤ n ∧ s12 = .int .i64 (j : Int) ∧ wz.ownsRow w.heap.size 9 1 s6 (keysE (l.take j)).length (Sv.Ss (keysE (l.take j))) ∧ Gw2 w [] wz (.slice q5 X.length c5) X (.slice q8 Y.length c8) Y) (fun _ i _ => n - (intOf i).toNat)
          case atStart =>
            refine ⟨0, by omega, rfl, ?_, HK0.out.2⟩
            have := HK0.out.1
            simpa [keysE, Sv.Ss] using this
          case round =>
            obtain ⟨j, hj, rfl, hky, hg⟩ := hrel
            have HG : Hid (Gw2 w [] wr (.slice q5 X.length c5) X (.slice q8 Y.length c8) Y) := hg
            clear hg HK0
            by_cases hjn : j < n
            · have hjI : (j : Int) < (n : Int) := by omega
              have HKY : Hid (wr.ownsRow w.heap.size 9 1 _ (keysE (l.take j)).length (Sv.Ss (keysE (l.take j)))) := hky
              have hjl : j < l.length := by have := HE.out.2.1; omega
              obtain ⟨b, o, rfl⟩ := HE.out.1.addr (by omega)
              obtain ⟨x0, _, _, _⟩ := (HE.out.1.below HG.out.one.bel).at hjl
              obtain ⟨ke, hke⟩ : ∃ ke, (l.getD j zeroE).key = ke := ⟨_, rfl⟩
              rw [hke] at x0
              have HNX : Hid (keysE (l.take j) ++ [ke] = keysE (l.take (j + 1)) ∧ j < n ∧ (keysE (l.take j)).length ≤ 4096) := by
                refine ⟨?_, hjn, ?_⟩
                · unfold keysE
                  rw [take_snoc hjl rfl, List.map_append, ← hke]
                  rfl
                · unfold keysE
                  rw [List.length_map, List.length_take]; omega
              have HKA : Hid ((wr.alloc (.cells #[.string ke] 9)).ownsRow w.heap.size 9 1 _ (keysE (l.take j)).length (Sv.Ss (keysE (l.take j)))) := own_below hky (below_alloc _ _)
              have HGA : Hid (Gw2 w [] (wr.alloc (.cells #[.string ke] 9)) (.slice q5 X.length c5) X (.slice q8 Y.length c8) Y) := HG.out.call (below_alloc _ _)
              have HST : Hid (Sv.StrsIn (wr.alloc (.cells #[.string ke] 9)) (some ⟨wr.heap.size, 0, none⟩) [ke]) := strs_one _ _
              clear hky hjl hke hjn HKY
              go_wp2_with (at_builtin; go_loud (refine Sv.wpList_append_strs _ rfl _ _ rfl w.heap.size _ (keysE (l.take j)) [ke] (some ⟨wr.heap.size, 0, none⟩) 1 1 rfl rfl rfl HKA.out HST.out (by simp) (by have := HNX.out; simp only [List.length_cons, List.length_nil]; omega) HGA.out.one.size ?_); intro va ua hoa hga; rw [HNX.out.1] at hoa; have HGB : Hid (Gw2 w [] ua (.slice q5 X.length c5) X (.slice q8 Y.length c8) Y) := HGA.out.other HKA.out (by decide) (fun p hp => by simp at hp) hga; have HKB : Hid _ := hoa; clear hoa hga)
              go_roundw
              case rel => exact ⟨j + 1, by have := HNX.out; omega, by go_num, HKB.out, HGB.out⟩
              case measure => have := HNX.out; simp [intOf]; omega
            · obtain rfl : j = n := by omega
              rw [List.take_of_length_le (by have := HE.out.2.1; omega)] at hky
              obtain ⟨q6, c6, rfl, hst6⟩ := Sv.own_strs hky
              have hkl : (keysE l).length = j := by simp [keysE]; exact HE.out.2.1.symm
              rw [hkl]
              obtain ⟨wh, hwh⟩ : ∃ wh, (10 * j + 7) / 8 = wh := ⟨_, rfl⟩
              have hq : (10 * (j : Int) + 7) / 8 = (wh : Int) := by omega
              have hwb : (wh : Int) ≤ 8192 := by omega
              have hwb0 : (1 : Int) ≤ (wh : Int) := by omega
              obtain ⟨m, hm⟩ : ∃ m, wh * 8 = m := ⟨_, rfl⟩
              have hmI : (wh : Int) * 8 = (m : Int) := by omega
              obtain ⟨S, hS⟩ : ∃ S, sieveN l = S := ⟨_, rfl⟩
              have hSL : S.length = wh := by rw [← hS, sieveN_len, ← HE.out.2.1, hwh]
              have hSM : Sv.makeN (keysE l) m = S := by rw [← hS]; unfold sieveN; rw [← HE.out.2.1, hwh, hm]
              have HS : Hid (sieveN l = S ∧ S.length = wh ∧ m / 8 = wh ∧ (∀ c ∈ S, c < 256)) := ⟨hS, hSL, by omega, by rw [← hS]; exact sieveN_lt l⟩
              have hse := sieve_ok HC.out (by have := HE.out.2.1; omega)
              rw [← HE.out.2.1, hwh, hm] at hse
              have HMK := Sv.rMake_u q6 j c6 (keysE l) (m : Int) wr hkl.symm hst6 0 hse
              have HSM : Hid (Sv.makeN (keysE l) m = S ∧ Sv.makeE (keysE l) (m : Int) = 0) := ⟨hSM, hse⟩
              clear hky hst6 hkl hwh hm hS hSL hSM hse hj hjn
              go_wp2_with fail
              refine HMK.mono ?_
              rintro e w4 ⟨v4, rfl, hmd⟩
              obtain ⟨g, hv4, hgb, hge⟩ := hmd.yes HSM.out.2
              rw [Int.toNat_natCast, HS.out.2.2.1] at hv4
              rw [Int.toNat_natCast, HSM.out.1] at hgb
              subst hv4
              have HG4 : Hid (Gw2 w [] w4 (.slice q5 X.length c5) X (.slice q8 Y.length c8) Y ∧ Gw w [(g, (Bs S).toArray, 5)] w4 (.slice q5 X.length c5) X) := by
                have h1 := HG.out.call hmd.below
                refine ⟨h1, h1.one.add (g, (Bs S).toArray, 5) hgb (fun e => ?_)⟩
                have := own_lt HG.out.one.own e
                simp only at this
                omega
              have HI8 : Hid (BIn w4 q8 Y) := own_in HG4.out.1.two.own (by rw [HXY2.out.2.1]; exact indexN_lt P)
              have hz4 := HG4.out.2.size
              have hwX : IntKind.u64.wrap (X.length : Int) = (X.length : Int) := by rw [IntKind.wrap_u64]; omega
              have hwY : IntKind.u64.wrap (Y.length : Int) = (Y.length : Int) := by rw [IntKind.wrap_u64]; omega
              have hwW : IntKind.u64.wrap (wh : Int) = (wh : Int) := by rw [IntKind.wrap_u64]; omega
              have HLE : Hid (X.length ≤ 524288 ∧ Y.length ≤ 3000000 ∧ S.length ≤ 8192) := ⟨HXY2.out.2.2.1, HXY2.out.2.2.2, by have := HS.out.2.1; omega⟩
              clear hmd hgb hge HMK HG
              go_wp2_with (first
                | (at_builtin; go_loud (refine wpList_append_bytesX _ rfl _ _ rfl w.heap.size _ X Y q8 _ c8 rfl rfl rfl HG4.out.2.own HI8.out hp8 (by have := HLE.out; omega) hz4 ?_); intro v5 w5 ho5 hg5 hw5; have HG5 : Hid (Gw w [(g, (Bs S).toArray, 5)] w5 v5 (X ++ Y)) := HG4.out.2.app ho5 hg5 hw5; have HI5 : Hid (BIn w5 (some ⟨g, 0, none⟩) S) := Sv.bin_row (HG5.out.box (g, (Bs S).toArray, 5) (List.mem_singleton.2 rfl)).1 HS.out.2.2.2; have hz5 := HG5.out.size; clear ho5 hg5 hw5)
                | (at_builtin; go_loud (refine wpList_append_bytesX _ rfl _ _ rfl w.heap.size _ (X ++ Y) S (some ⟨g, 0, none⟩) _ wh rfl rfl HS.out.2.1.symm HG5.out.own HI5.out (fun h => by cases h) (by rw [List.length_append]; have := HLE.out; omega) hz5 ?_); intro vo0 wo0 ho5 hg5 hw5; have HP0 : Hid (Gw w [(g, (Bs S).toArray, 5)] wo0 vo0 (X ++ Y ++ S)) := HG5.out.app ho5 hg5 hw5; clear ho5 hg5 hw5))
              refine (refPut_any X.length _ (by have := HLE.out; have := HS.out; omega)).mono ?_
              rintro e w6 ⟨v6, rfl, ho6, hb6⟩
              obtain ⟨q6, c6, rfl, _, _, hp6⟩ := own_form ho6
              have HG6 : Hid (Gw w [(g, (Bs S).toArray, 5)] w6 vo0 (X ++ Y ++ S)) := HP0.out.call hb6
              have HI6 : Hid (BIn w6 q6 (putN X.length)) := own_in (xs := putN X.length) (by rw [putN_len]; exact ho6) (putN_bytes _ (by have := HLE.out; have := HS.out; omega))
              have hz6 := HG6.out.size
              clear ho6 hb6 HP0
              go_wp2_with (at_builtin; go_loud (refine wpList_append_bytesX _ rfl _ _ rfl w.heap.size _ (X ++ Y ++ S) (putN X.length) q6 _ c6 rfl rfl (putN_len _).symm HG6.out.own HI6.out hp6 (by simp only [List.length_append, putN_len]; have := HLE.out; omega) hz6 ?_); intro vo1 wo1 ho6 hg6 hw6; have HP1 : Hid (Gw w [(g, (Bs S).toArray, 5)] wo1 vo1 (X ++ Y ++ S ++ putN X.length)) := HG6.out.app ho6 hg6 hw6; clear ho6 hg6 hw6)
              refine (refPut_any Y.length _ (by have := HLE.out; have := HS.out; omega)).mono ?_
              rintro e w8 ⟨v8, rfl, ho8, hb8⟩
              obtain ⟨q8, c8, rfl, _, _, hp8⟩ := own_form ho8
              have HG8 : Hid (Gw w [(g, (Bs S).toArray, 5)] w8 vo1 (X ++ Y ++ S ++ putN X.length)) := HP1.out.call hb8
              have HI8 : Hid (BIn w8 q8 (putN Y.length)) := own_in (xs := putN Y.length) (by rw [putN_len]; exact ho8) (putN_bytes _ (by have := HLE.out; have := HS.out; omega))
              have hz8 := HG8.out.size
              clear ho8 hb8 HP1
              go_wp2_with (at_builtin; go_loud (refine wpList_append_bytesX _ rfl _ _ rfl w.heap.size _ (X ++ Y ++ S ++ putN X.length) (putN Y.length) q8 _ c8 rfl rfl (putN_len _).symm HG8.out.own HI8.out hp8 (by simp only [List.length_append, putN_len]; have := HLE.out; omega) hz8 ?_); intro vo2 wo2 ho8 hg8 hw8; have HP2 : Hid (Gw w [(g, (Bs S).toArray, 5)] wo2 vo2 (X ++ Y ++ S ++ putN X.length ++ putN Y.length)) := HG8.out.app ho8 hg8 hw8; clear ho8 hg8 hw8)
              refine (refPut_any wh _ (by have := HLE.out; have := HS.out; omega)).mono ?_
              rintro e w10 ⟨v10, rfl, ho10, hb10⟩
              obtain ⟨q10, c10, rfl, _, _, hp10⟩ := own_form ho10
              have HG10 : Hid (Gw w [(g, (Bs S).toArray, 5)] w10 vo2 (X ++ Y ++ S ++ putN X.length ++ putN Y.length)) := HP2.out.call hb10
              have HI10 : Hid (BIn w10 q10 (putN wh)) := own_in (xs := putN wh) (by rw [putN_len]; exact ho10) (putN_bytes _ (by have := HLE.out; have := HS.out; omega))
              have hz10 := HG10.out.size
              clear ho10 hb10 HP2
              go_wp2_with (at_builtin; go_loud (refine wpList_append_bytesX _ rfl _ _ rfl w.heap.size _ (X ++ Y ++ S ++ putN X.length ++ putN Y.length) (putN wh) q10 _ c10 rfl rfl (putN_len _).symm HG10.out.own HI10.out hp10 (by simp only [List.length_append, putN_len]; have := HLE.out; omega) hz10 ?_); intro vo3 wo3 ho10 hg10 hw10; have HP3 : Hid (Gw w [(g, (Bs S).toArray, 5)] wo3 vo3 (X ++ Y ++ S ++ putN X.length ++ putN Y.length ++ putN wh)) := HG10.out.app ho10 hg10 hw10; clear ho10 hg10 hw10)
              obtain ⟨V, hV⟩ : ∃ V, X ++ Y ++ S ++ putN X.length ++ putN Y.length ++ putN wh = V := ⟨_, rfl⟩
              have hVC : coreN P = V := by
                rw [← hV, ← core_eq P, HP.out.2.1, HS.out.1, HS.out.2.1, HXY2.out.1, HXY2.out.2.1]
              have HVT : Hid (V ++ sum4 V = tableN P ∧ (∀ c ∈ V, c < 256) ∧ V.length ≤ 10000000) := by
                refine ⟨by rw [← hVC]; rfl, ?_, ?_⟩
                · rw [← hVC]
                  refine coreN_lt ⟨?_, ?_, ?_⟩
                  · rw [← HXY2.out.1]; have := HLE.out; omega
                  · rw [← HXY2.out.2.1]; have := HLE.out; omega
                  · rw [HP.out.2.1, HS.out.1]; have := HLE.out; omega
                · rw [← hV]; simp only [List.length_append, putN_len]; have := HLE.out; omega
              have HP4 : Hid (Gw w [(g, (Bs S).toArray, 5)] wo3 vo3 V) := by rw [← hV]; exact HP3.out
              have HSU := Summed_any w [] wo3 vo3 V HP4.out.st HVT.out.2.1 (by have := HVT.out.2.2; omega)
              clear hV hVC HP3
              refine HSU.mono ?_
              rintro e w20 ⟨v20, rfl, hst⟩
              obtain ⟨T, hT⟩ : ∃ T, (V ++ sum4 V).length = T := ⟨_, rfl⟩
              have hq20 := own_form hst.own
              rw [hT] at hq20
              obtain ⟨q20, c20, rfl, _, _, _⟩ := hq20
              have HF : Hid (St w [] w20 (.slice q20 T c20) (V ++ sum4 V) ∧ (V ++ sum4 V).length = T ∧ T ≤ 20000000) := ⟨hst, hT, by rw [← hT, List.length_append, sum4_len]; have := HVT.out.2.2; omega⟩
              have hTI : (T : Int) ≤ 20000000 := by have := HF.out.2.2; omega
              clear hst hT HSU
              by_cases hbig : 524288 < T
              · have hbI : (524288 : Int) < (T : Int) := by omega
                obtain ⟨rfl, rfl⟩ := HTL.out (by rw [← HVT.out.1, HF.out.2.1]; exact hbig)
                clear hbig
                go_wp2
                go_ret2
                exact ⟨_, rfl, World.ownsRow_nil _ _ _ _, HF.out.1.bel⟩
              · have hbI : (T : Int) ≤ 524288 := by omega
                obtain ⟨hys, rfl⟩ := HTO.out (by rw [← HVT.out.1, HF.out.2.1]; omega)
                have HYS : Hid (ys = V ++ sum4 V) := by show _ = _; rw [hys, HVT.out.1]
                clear hbig hys
                go_wp2
                go_ret2
                refine ⟨_, rfl, ?_, HF.out.1.bel⟩
                rw [HYS.out]
                exact HF.out.1.own
  · have hne : ((C : Int) != 0) = true := by simp; omega
    have HM : Hid (ys = [] ∧ E = C) := by
      have := HR.out
      rw [makeT_bad (by rw [HC.out]; omega), HC.out] at this
      simp only [Prod.mk.injEq] at this
      exact ⟨this.1.symm, this.2.symm⟩
    go_wp2
    go_ret2
    obtain ⟨rfl, rfl⟩ := HM.out
    exact ⟨_, rfl, World.ownsRow_nil _ _ _ _, HB1.out⟩
end Go.Proofs.Ytlcbjmbphekliaa
namespace Go.Proofs.Ytlcbjmbphekliaa
open Go.RowKit Go.WideShapes


/-- The number of bytes, seven bits each, the lowest first. -/
def val : List Nat → Nat
  | [] => 0
  | c :: l => c % 128 + 128 * val l
theorem val_snoc (l : List Nat) (c : Nat) : val (l ++ [c]) = c % 128 * 2 ^ (7 * l.length) + val l := by
  induction l with
  | nil => simp [val]
  | cons a l ih =>
    rw [List.cons_append, val, val, ih, List.length_cons, show 7 * (l.length + 1) = 7 * l.length + 7 from by omega, Nat.pow_add]
    generalize 2 ^ (7 * l.length) = X
    rw [show 128 * (c % 128 * X + val l) = c % 128 * (X * 2 ^ 7) + 128 * val l from by rw [Nat.mul_add, ← Nat.mul_assoc, Nat.mul_comm 128 (c % 128), Nat.mul_assoc, Nat.mul_comm 128 X]]
    omega
theorem val_lt (l : List Nat) : val l < 2 ^ (7 * l.length) := by
  induction l with
  | nil => simp [val]
  | cons a l ih =>
    rw [val, List.length_cons, show 7 * (l.length + 1) = 7 * l.length + 7 from by omega, Nat.pow_add]
    omega
theorem take_at (xs : List Nat) (k : Nat) (h : k < xs.length) : xs.take (k + 1) = xs.take k ++ [xs.getD k 0] := by
  rw [List.take_succ_eq_append_getElem h]; simp [List.getD, List.getElem?_eq_getElem h]
theorem val_take (xs : List Nat) (k : Nat) (h : k < xs.length) : val (xs.take (k + 1)) = xs.getD k 0 % 128 * 2 ^ (7 * k) + val (xs.take k) := by
  rw [take_at xs k h, val_snoc, List.length_take, Nat.min_eq_left (by omega)]
theorem val_drop (xs : List Nat) (k t : Nat) (h : t ≤ k) (hk : k < xs.length) : val ((xs.take (k + 1)).drop t) = xs.getD t 0 % 128 + 128 * val ((xs.take (k + 1)).drop (t + 1)) := by
  have hl : t < (xs.take (k + 1)).length := by simp; omega
  rw [List.drop_eq_getElem_cons hl, val]
  congr 1
  simp [List.getD, List.getElem?_eq_getElem (show t < xs.length from by omega)]
theorem val_drop_le (l : List Nat) (t : Nat) : val (l.drop t) ≤ val l := by
  induction l generalizing t with
  | nil => simp
  | cons a l ih =>
    cases t with
    | zero => simp
    | succ t => rw [List.drop_succ_cons, val]; have := ih t; omega
theorem val_fits {l : List Nat} {t : Nat} (h : val l < 18446744073709551616) : val (l.drop t) < 18446744073709551616 := Nat.lt_of_le_of_lt (val_drop_le l t) h
theorem read_skip {xs : List Nat} (j : Nat) (hj : j ≤ 9) (hlen : j ≤ xs.length) (hall : ∀ i, i < j → 128 ≤ xs.getD i 0) : readN xs = readAux j (val (xs.take j)) (xs.drop j) := by
  induction j with
  | zero => simp [val, readN]
  | succ j ih =>
    rw [ih (by omega) (by omega) (fun i hi => hall i (by omega)), drop_at xs j (by omega), aux_hi (by omega) (hall j (by omega)), val_take xs j (by omega)]
theorem read_over {xs : List Nat} (hlen : 10 ≤ xs.length) (hall : ∀ i, i < 10 → 128 ≤ xs.getD i 0) : readN xs = none := by
  have := hall 9 (by omega)
  rw [read_skip 9 (by omega) (by omega) (fun i hi => hall i (by omega)), drop_at xs 9 (by omega), aux_big ⟨rfl, by omega⟩]
theorem read_end {xs : List Nat} (hlen : xs.length ≤ 9) (hall : ∀ i, i < xs.length → 128 ≤ xs.getD i 0) : readN xs = none := by
  rw [read_skip xs.length hlen (by omega) hall, List.drop_length]; rfl
theorem read_big {xs : List Nat} (hlen : 9 < xs.length) (hall : ∀ i, i < 9 → 128 ≤ xs.getD i 0) (h : 1 < xs.getD 9 0) : readN xs = none := by
  rw [read_skip 9 (by omega) (by omega) hall, drop_at xs 9 hlen, aux_big ⟨rfl, h⟩]
theorem read_zero {xs : List Nat} {k : Nat} (hlen : k < xs.length) (hk : k ≤ 9) (hall : ∀ i, i < k → 128 ≤ xs.getD i 0) (h0 : 0 < k) (h : xs.getD k 0 = 0) : readN xs = none := by
  rw [read_skip k hk (by omega) hall, drop_at xs k hlen, aux_zero (by omega) (by omega) ⟨h, h0⟩]
theorem read_ok {xs : List Nat} {k : Nat} (hlen : k < xs.length) (hk : k ≤ 9) (hall : ∀ i, i < k → 128 ≤ xs.getD i 0) (hc : xs.getD k 0 < 128) (hbig : k = 9 → xs.getD k 0 ≤ 1) (hz : 0 < k → xs.getD k 0 ≠ 0) : readN xs = some (val (xs.take (k + 1)), k + 1) := by
  rw [read_skip k hk (by omega) hall, drop_at xs k hlen, aux_end (by omega) (by omega) (by omega), val_take xs k hlen]
theorem read_ok_fits {xs : List Nat} {k : Nat} (hlen : k < xs.length) (hk : k ≤ 9) (hall : ∀ i, i < k → 128 ≤ xs.getD i 0) (hc : xs.getD k 0 < 128) (hbig : k = 9 → xs.getD k 0 ≤ 1) (hz : 0 < k → xs.getD k 0 ≠ 0) : val (xs.take (k + 1)) < 18446744073709551616 :=
  (readN_some (read_ok hlen hk hall hc hbig hz)).2.2.2

set_option maxHeartbeats 2000000 in
set_option maxRecDepth 100000 in
theorem refRead_any (p : Option Addr) (cap : Nat) (xs : List Nat) (w : World) (hb : BIn w p xs) (hm : xs.length ≤ maxLen) :
    Calls Try.prog 72 #[.slice p xs.length cap] w fun e w' => e = .returned (readV (readN xs)) ∧ w' = w := by
  unfold maxLen at hm
  have hlt := hb.2
  go_enter Try.func72, Try.ntmps72
  go_wp2
  go_loop [5] (fun i => ∃ k : Nat, k ≤ xs.length ∧ k ≤ 10 ∧ i = .int .i64 k ∧ ∀ i, i < k → 128 ≤ xs.getD i 0) (fun i => xs.length - (intOf i).toNat)
  case atStart => exact ⟨0, by omega, by omega, rfl, by intro i hi; omega⟩
  case round =>
    obtain ⟨k, hk, hk10, rfl, hall⟩ := hrel
    have HA : Hid (∀ i, i < k → 128 ≤ xs.getD i 0) := hall
    clear hall
    by_cases hlen : k < xs.length
    · obtain ⟨b, o, rfl, hcell⟩ := hb.1 (by omega)
      have hck := hcell k hlen
      have hb8 := getD_lt hlt k
      by_cases h10 : k < 10
      · by_cases hc128 : 128 ≤ xs.getD k 0
        · have HC : Hid (128 ≤ xs.getD k 0) := hc128
          generalize hcd : xs.getD k 0 = c at *
          have HCD : Hid _ := hcd
          clear hcd hcell hb hlt
          go_wp2
          go_round
          case rel => exact ⟨k + 1, by omega, by omega, by go_num, fun i hi => by
            rcases Nat.lt_or_ge i k with h | h
            · exact HA.out i h
            · obtain rfl : i = k := by omega
              rw [HCD.out]; exact hc128⟩
          case measure => simp [intOf]; omega
        · have hc128 : xs.getD k 0 < 128 := by omega
          have hk9 : k ≤ 9 := by omega
          have hall := HA.out
          clear HA hb
          by_cases hk9' : k = 9
          · by_cases hbig0 : 1 < xs.getD k 0
            · have HN : Hid (readN xs = none) := by subst hk9'; exact read_big hlen hall hbig0
              subst hk9'
              clear hcell hall hlt
              generalize xs.getD 9 0 = c at *
              go_wp2
              go_ret3
              exact ⟨by rw [HN.out]; rfl, rfl⟩
            · have hbig : k = 9 → xs.getD k 0 ≤ 1 := fun _ => by omega
              by_cases h0 : xs.getD k 0 = 0
              · have HN : Hid (readN xs = none) := read_zero hlen hk9 hall (by omega) h0
                have hc0 : ((xs.getD k 0 : Nat) : Int) ≤ 0 := by omega
                have hc0b : (((xs.getD k 0 : Nat) : Int) == 0) = true := by rw [h0]; rfl
                have hc1 : ((xs.getD k 0 : Nat) : Int) ≤ 1 := by omega
                clear h0 hbig
                subst hk9'
                clear hcell hall hlt
                generalize xs.getD 9 0 = c at *
                go_wp2
                go_ret3
                exact ⟨by rw [HN.out]; rfl, rfl⟩
              · have hzer : 0 < k → xs.getD k 0 ≠ 0 := fun _ => h0
                have hc1 : ((xs.getD k 0 : Nat) : Int) ≤ 1 := by omega
                have hc0b : (((xs.getD k 0 : Nat) : Int) == 0) = false := by simpa using h0
                subst hk9'
                clear h0
                have HE : Hid _ := read_ok hlen hk9 hall hc128 hbig hzer
                have HF : Hid _ := read_ok_fits hlen hk9 hall hc128 hbig hzer
                have hLl : Hid ((xs.take (9 + 1)).length = 9 + 1) := by show _ = _; simp; omega
                clear hall hbig hzer
                generalize xs.getD 9 0 = ck at *
                have HCell : Hid _ := hcell
                clear hcell
                go_wp2
                go_loop [6, 7] (fun t i => ∃ j : Nat, j ≤ 9 + 1 ∧ i = .int .i64 ((j : Int) - 1) ∧ t = .int .u64 (val ((xs.take (9 + 1)).drop j) : Nat)) (fun _ i => (intOf i + 1).toNat)
                case atStart => exact ⟨9 + 1, by omega, by go_num, by rw [List.drop_eq_nil_of_le (by rw [hLl.out]; exact Nat.le_refl _)]; rfl⟩
                case round =>
                  obtain ⟨j, hj, rfl, rfl⟩ := hrel
                  by_cases hj0 : 0 < j
                  · obtain ⟨t, rfl⟩ : ∃ t, j = t + 1 := ⟨j - 1, by omega⟩
                    rw [show ((t + 1 : Nat) : Int) - 1 = (t : Int) from by omega]
                    have htk : t ≤ 9 := by omega
                    have hct := HCell.out t (by omega)
                    have hb8t := getD_lt hlt t
                    have HV : Hid _ := val_drop xs 9 t htk (by omega)
                    have hv2 := val_fits (t := t) HF.out
                    rw [HV.out] at hv2
                    generalize val ((xs.take (9 + 1)).drop (t + 1)) = q at *
                    generalize xs.getD t 0 = ct at *
                    clear HCell hck
                    go_wp2
                    go_round
                    case rel => exact ⟨t, by omega, by go_num, by rw [HV.out]; go_num⟩
                    case measure => simp [intOf]
                  · obtain rfl : j = 0 := by omega
                    rw [List.drop_zero]
                    rw [show (((0 : Nat) : Int) - 1) = -1 from by omega]
                    generalize val (xs.take (9 + 1)) = q at *
                    clear HCell hck
                    go_wp2
                    go_ret3
                    exact ⟨by rw [HE.out]; rfl, rfl⟩

          · have hk9b : ((k : Int) == 9) = false := by simp; omega
            have hbig : k = 9 → xs.getD k 0 ≤ 1 := fun h => absurd h hk9'
            clear hk9'
            by_cases hk0 : 0 < k
            · by_cases h0 : xs.getD k 0 = 0
              · have HN : Hid (readN xs = none) := read_zero hlen hk9 hall hk0 h0
                have hc0b : (((xs.getD k 0 : Nat) : Int) == 0) = true := by rw [h0]; rfl
                clear h0 hbig hcell hall hlt
                generalize xs.getD k 0 = c at *
                go_wp2
                go_ret3
                exact ⟨by rw [HN.out]; rfl, rfl⟩
              · have hzer : 0 < k → xs.getD k 0 ≠ 0 := fun _ => h0
                have hc0b : (((xs.getD k 0 : Nat) : Int) == 0) = false := by simpa using h0
                clear h0
                have HE : Hid _ := read_ok hlen hk9 hall hc128 hbig hzer
                have HF : Hid _ := read_ok_fits hlen hk9 hall hc128 hbig hzer
                have hLl : Hid ((xs.take (k + 1)).length = k + 1) := by show _ = _; simp; omega
                clear hall hbig hzer
                generalize xs.getD k 0 = ck at *
                have HCell : Hid _ := hcell
                clear hcell
                go_wp2
                go_loop [6, 7] (fun t i => ∃ j : Nat, j ≤ k + 1 ∧ i = .int .i64 ((j : Int) - 1) ∧ t = .int .u64 (val ((xs.take (k + 1)).drop j) : Nat)) (fun _ i => (intOf i + 1).toNat)
                case atStart => exact ⟨k + 1, by omega, by go_num, by rw [List.drop_eq_nil_of_le (by rw [hLl.out]; exact Nat.le_refl _)]; rfl⟩
                case round =>
                  obtain ⟨j, hj, rfl, rfl⟩ := hrel
                  by_cases hj0 : 0 < j
                  · obtain ⟨t, rfl⟩ : ∃ t, j = t + 1 := ⟨j - 1, by omega⟩
                    rw [show ((t + 1 : Nat) : Int) - 1 = (t : Int) from by omega]
                    have htk : t ≤ k := by omega
                    have hct := HCell.out t (by omega)
                    have hb8t := getD_lt hlt t
                    have HV : Hid _ := val_drop xs k t htk (by omega)
                    have hv2 := val_fits (t := t) HF.out
                    rw [HV.out] at hv2
                    generalize val ((xs.take (k + 1)).drop (t + 1)) = q at *
                    generalize xs.getD t 0 = ct at *
                    clear HCell hck
                    go_wp2
                    go_round
                    case rel => exact ⟨t, by omega, by go_num, by rw [HV.out]; go_num⟩
                    case measure => simp [intOf]
                  · obtain rfl : j = 0 := by omega
                    rw [List.drop_zero]
                    rw [show (((0 : Nat) : Int) - 1) = -1 from by omega]
                    generalize val (xs.take (k + 1)) = q at *
                    clear HCell hck
                    go_wp2
                    go_ret3
                    exact ⟨by rw [HE.out]; rfl, rfl⟩
            · have hzer : 0 < k → xs.getD k 0 ≠ 0 := fun h => absurd h hk0
              have HE : Hid _ := read_ok hlen hk9 hall hc128 hbig hzer
              have HF : Hid _ := read_ok_fits hlen hk9 hall hc128 hbig hzer
              have hLl : Hid ((xs.take (k + 1)).length = k + 1) := by show _ = _; simp; omega
              clear hall hbig hzer
              generalize xs.getD k 0 = ck at *
              have HCell : Hid _ := hcell
              clear hcell
              go_wp2
              go_loop [6, 7] (fun t i => ∃ j : Nat, j ≤ k + 1 ∧ i = .int .i64 ((j : Int) - 1) ∧ t = .int .u64 (val ((xs.take (k + 1)).drop j) : Nat)) (fun _ i => (intOf i + 1).toNat)
              case atStart => exact ⟨k + 1, by omega, by go_num, by rw [List.drop_eq_nil_of_le (by rw [hLl.out]; exact Nat.le_refl _)]; rfl⟩
              case round =>
                obtain ⟨j, hj, rfl, rfl⟩ := hrel
                by_cases hj0 : 0 < j
                · obtain ⟨t, rfl⟩ : ∃ t, j = t + 1 := ⟨j - 1, by omega⟩
                  rw [show ((t + 1 : Nat) : Int) - 1 = (t : Int) from by omega]
                  have htk : t ≤ k := by omega
                  have hct := HCell.out t (by omega)
                  have hb8t := getD_lt hlt t
                  have HV : Hid _ := val_drop xs k t htk (by omega)
                  have hv2 := val_fits (t := t) HF.out
                  rw [HV.out] at hv2
                  generalize val ((xs.take (k + 1)).drop (t + 1)) = q at *
                  generalize xs.getD t 0 = ct at *
                  clear HCell hck
                  go_wp2
                  go_round
                  case rel => exact ⟨t, by omega, by go_num, by rw [HV.out]; go_num⟩
                  case measure => simp [intOf]
                · obtain rfl : j = 0 := by omega
                  rw [List.drop_zero]
                  rw [show (((0 : Nat) : Int) - 1) = -1 from by omega]
                  generalize val (xs.take (k + 1)) = q at *
                  clear HCell hck
                  go_wp2
                  go_ret3
                  exact ⟨by rw [HE.out]; rfl, rfl⟩

      · obtain rfl : k = 10 := by omega
        have HN : Hid (readN xs = none) := read_over (Nat.le_of_lt hlen) HA.out
        clear hcell hb hlt HA
        generalize xs.getD 10 0 = c at *
        go_wp2
        go_ret3
        exact ⟨by rw [HN.out]; rfl, rfl⟩
    · obtain rfl : k = xs.length := by omega
      have HN : Hid (readN xs = none) := by
        show _ = _
        rcases Nat.lt_or_ge xs.length 10 with h | h
        · exact read_end (by omega) HA.out
        · exact read_over h (fun i hi => HA.out i (by omega))
      clear hb hlt HA
      go_wp2
      go_ret3
      exact ⟨by rw [HN.out]; rfl, rfl⟩
end Go.Proofs.Ytlcbjmbphekliaa
namespace Go.Proofs.Ytlcbjmbphekliaa
open Go.RowKit Go.WideShapes


theorem refRead_some (p : Option Addr) (len cap : Nat) (xs : List Nat) (w : World) (n k : Nat) (hlen : len = xs.length) (hb : BIn w p xs) (hm : xs.length ≤ maxLen) (hr : readN xs = some (n, k)) :
    Calls Try.prog 72 #[.slice p len cap] w fun e w' => e = .returned (.tuple #[.int .u64 n, .int .i64 k, .int .i64 0]) ∧ w' = w := by
  subst hlen
  refine (refRead_any p cap xs w hb hm).mono fun e w' h => ⟨?_, h.2⟩
  rw [h.1, hr]; rfl
theorem refRead_none (p : Option Addr) (len cap : Nat) (xs : List Nat) (w : World) (hlen : len = xs.length) (hb : BIn w p xs) (hm : xs.length ≤ maxLen) (hr : readN xs = none) :
    Calls Try.prog 72 #[.slice p len cap] w fun e w' => e = .returned (.tuple #[.int .u64 0, .int .i64 0, .int .i64 8]) ∧ w' = w := by
  subst hlen
  refine (refRead_any p cap xs w hb hm).mono fun e w' h => ⟨?_, h.2⟩
  rw [h.1, hr]; rfl
set_option maxHeartbeats 400000 in
theorem refCut_none (p : Option Addr) (cap : Nat) (xs : List Nat) (w : World) (hb : BIn w p xs) (hm : xs.length ≤ maxLen) (hr : readN xs = none) :
    Calls Try.prog 73 #[.slice p xs.length cap] w fun e w' => e = .returned (.tuple #[.string ByteArray.empty, .slice none 0 0, .int .i64 8]) ∧ w' = w := by
  have HR : Hid _ := hr
  clear hr
  go_enter Try.func73, Try.ntmps73
  go_wp2_with fail
  refine (refRead_none p xs.length cap xs w rfl hb hm HR.out).mono ?_
  rintro e w1 ⟨rfl, rfl⟩
  go_wp2
  go_ret3
  exact ⟨rfl, rfl⟩
set_option maxHeartbeats 400000 in
theorem refCut_long (p : Option Addr) (cap : Nat) (xs : List Nat) (w : World) (hb : BIn w p xs) (hm : xs.length ≤ maxLen) (n k : Nat) (hr : readN xs = some (n, k)) (hl : xs.length < k + n) :
    Calls Try.prog 73 #[.slice p xs.length cap] w fun e w' => e = .returned (.tuple #[.string ByteArray.empty, .slice none 0 0, .int .i64 8]) ∧ w' = w := by
  obtain ⟨k1, k2, k3, k4⟩ := readN_some hr
  have hm' := hm
  unfold maxLen at hm'
  have HR : Hid _ := hr
  clear hr
  go_enter Try.func73, Try.ntmps73
  go_wp2_with fail
  refine (refRead_some p xs.length cap xs w n k rfl hb hm HR.out).mono ?_
  rintro e w1 ⟨rfl, rfl⟩
  clear HR hb
  go_wp2
  go_ret3
  exact ⟨rfl, rfl⟩
set_option maxHeartbeats 400000 in
theorem refCut_ok (p : Option Addr) (cap : Nat) (xs : List Nat) (w : World) (hb : BIn w p xs) (hm : xs.length ≤ 100000) (hcap : xs.length ≤ cap) (n k : Nat) (hr : readN xs = some (n, k)) (hl : k + n ≤ xs.length) :
    Calls Try.prog 73 #[.slice p xs.length cap] w fun e w' => ∃ v, e = .returned (.tuple #[.string (strOf ((xs.drop k).take n)), v, .int .i64 0]) ∧ w'.ownsRow w.heap.size 5 1 v (xs.drop (k + n)).length (Bs (xs.drop (k + n))) ∧ Below w.heap.size w w' := by
  obtain ⟨k1, k2, k3, k4⟩ := readN_some hr
  obtain ⟨b, o, rfl, hc⟩ := hb.1 (by omega)
  have HR : Hid _ := hr
  clear hr hc
  have hm' : xs.length ≤ maxLen := by unfold maxLen; omega
  have q1 : (0 : Int) ≤ (k : Int) + n ∧ (k : Int) + n ≤ cap := by omega
  have q2 : ((k : Int) + n).toNat = k + n := by omega
  have q3 : k ≤ k + n := by omega
  have q4 : (k : Int) + n ≤ xs.length := by omega
  have B1 := bin_part hb cap k hcap n
  have B2 := bin_part hb cap (k + n) hcap xs.length
  have e2 : Hid ((xs.drop (k + n)).take xs.length = xs.drop (k + n)) := List.take_of_length_le (by simp)
  rw [e2.out] at B2
  have L1 : Hid (n = ((xs.drop k).take n).length) := by show _ = _; simp; omega
  have L2 : Hid (xs.length - (k + n) = (xs.drop (k + n)).length) := by show _ = _; simp
  obtain ⟨A1, hA1⟩ : ∃ A, (if cap = k then some (⟨b, o, none⟩ : Addr) else some ⟨b, o + k, none⟩) = A := ⟨_, rfl⟩
  obtain ⟨A2, hA2⟩ : ∃ A, (if cap = k + n then some (⟨b, o, none⟩ : Addr) else some ⟨b, o + (k + n), none⟩) = A := ⟨_, rfl⟩
  rw [hA1] at B1
  rw [hA2] at B2
  have HB1 : Hid _ := B1
  have HB2 : Hid _ := B2
  have P2 : Hid (A2 = none → cap - (k + n) = 0) := by show _ → _; intro h; rw [h] at hA2; split at hA2 <;> cases hA2
  have Z2 : Hid (([] : List Nat).length + (xs.drop (k + n)).length ≤ 140737488355328) := by show _ ≤ _; simp; omega
  have HI : Hid (BIn w (some ⟨b, o, none⟩) xs) := hb
  clear B1 B2 hb
  go_enter Try.func73, Try.ntmps73
  go_wp2_with fail
  refine (refRead_some _ xs.length cap xs w n k rfl HI.out hm' HR.out).mono ?_
  rintro e w1 ⟨rfl, rfl⟩
  clear HR hm'
  go_wp2_with (at_builtin; refine wpList_append_bytes _ rfl _ _ rfl w1.heap.size _ [] (xs.drop (k + n)) A2 _ _ rfl rfl L2.out (World.ownsRow_nil _ _ _ _) HB2.out P2.out Z2.out (Nat.le_refl _) ?_)
  intro v' w2 hown hgrow
  have hbl : Below w1.heap.size w1 w2 := (Below.refl w1.heap.size w1).grown hgrow (Nat.le_refl _) (fun k hk => by simp [Value.ownBlock] at hk)
  have cv1 := conv_at (c := cap - k) (BIn.below HB1.out hbl) L1.out
  have HO : Hid (w2.ownsRow w1.heap.size 5 1 v' (xs.drop (k + n)).length (Bs (xs.drop (k + n)))) := by show World.ownsRow _ _ _ _ _ _ _; simpa using hown
  clear hown hgrow
  go_wp2
  go_ret3
  exact ⟨v', rfl, HO.out, hbl⟩
end Go.Proofs.Ytlcbjmbphekliaa
namespace Go.Proofs.Ytlcbjmbphekliaa
open Go.RowKit Go.WideShapes

def cutT (xs : List Nat) : Option (List Nat × List Nat) :=
  match readN xs with
  | none => none
  | some (n, k) => if xs.length < k + n then none else some ((xs.drop k).take n, xs.drop (k + n))
def gEnt (a : ByteArray) (xs : List Nat) : Option (EntV × List Nat) :=
  match readN xs with
  | none => none
  | some (p, k) => if a.size < p then none else
    match cutT (xs.drop k) with
    | none => none
    | some (rest, in2) =>
      match readN in2 with
      | none => none
      | some (seq, k2) => if 2147483647 < seq ∨ in2.length = k2 then none else
        if in2.getD k2 0 = 1 then some (⟨a.extract 0 p ++ strOf rest, ByteArray.empty, (seq : Int), true⟩, in2.drop (k2 + 1)) else
        match cutT (in2.drop (k2 + 1)) with
        | none => none
        | some (v, in3) => some (⟨a.extract 0 p ++ strOf rest, strOf v, (seq : Int), false⟩, in3)
def gL : Nat → ByteArray → List Nat → Option (List EntV)
  | 0, _, _ => some []
  | k + 1, a, xs =>
    match gEnt a xs with
    | none => none
    | some (x, r) => (gL k x.key r).map fun l => x :: l
def gD (xs : List Nat) : Option (List EntV) :=
  match readN xs with
  | none => none
  | some (n, k) => if 4096 < n then none else gL n ByteArray.empty (xs.drop k)
def docR (xs : List Nat) : Option (List EntV) :=
  if xs.length < 5 ∨ 65536 < xs.length then none else
  match gD (xs.take (xs.length - 4)) with
  | none => none
  | some l => if makeE l = (xs, 0) then some l else none
theorem cutT_back (t r : List Nat) (h : t.length < 18446744073709551616) : cutT (smallN t.length ++ (t ++ r)) = some (t, r) := by
  unfold cutT
  rw [read_back t.length (t ++ r) h]
  simp only
  rw [if_neg (by simp), List.drop_left, List.take_left, ← List.drop_drop, List.drop_left, List.drop_left]
theorem str_app' (x y : ByteArray) : strOf (numsOf x ++ numsOf y) = x ++ y := str_app x y
theorem key_back (a k : ByteArray) : a.extract 0 (sharedN (numsOf a) (numsOf k)) ++ strOf ((numsOf k).drop (sharedN (numsOf a) (numsOf k))) = k := by
  rw [key_str a _ _ (fun c hc => numsOf_lt k c (List.mem_of_mem_drop hc)), sharedN_take, List.take_append_drop, strOf_nums]
theorem gEnt_back (a : ByteArray) (x : EntV) (r : List Nat) (h : OkE x) : gEnt a (entN (numsOf a) x ++ r) = some (x, r) := by
  have hs := sharedN_le (numsOf a) (numsOf x.key)
  rw [numsOf_len, numsOf_len] at hs
  have hk := h.key2
  have hq1 := h.seq1
  have hq2 := h.seq2
  have e1 : entN (numsOf a) x ++ r = smallN (sharedN (numsOf a) (numsOf x.key)) ++ (smallN ((numsOf x.key).drop (sharedN (numsOf a) (numsOf x.key))).length ++ ((numsOf x.key).drop (sharedN (numsOf a) (numsOf x.key)) ++ (smallN x.seq.toNat ++ (tailN x ++ r)))) := by
    unfold entN keyN
    rw [List.length_drop]
    simp only [List.append_assoc]
  unfold gEnt
  rw [e1, read_back _ _ (by omega)]
  simp only
  rw [if_neg (by omega), List.drop_left, cutT_back _ _ (by rw [List.length_drop, numsOf_len]; omega)]
  simp only
  rw [read_back _ _ (by omega)]
  simp only
  have hlen : ¬ (2147483647 < x.seq.toNat ∨ (smallN x.seq.toNat ++ (tailN x ++ r)).length = (smallN x.seq.toNat).length) := by
    have : 0 < (tailN x).length := by
      unfold tailN
      split
      · exact smallN_pos _
      · rw [List.length_append]; have := smallN_pos 0; omega
    simp only [List.length_append]
    omega
  rw [if_neg hlen, key_back]
  have hgd : ∀ (A B : List Nat) (c : Nat), (A ++ (c :: B)).getD A.length 0 = c := by intro A B c; simp
  have hdr : ∀ (A B : List Nat) (c : Nat), (A ++ (c :: B)).drop (A.length + 1) = B := by intro A B c; rw [← List.drop_drop, List.drop_left]; rfl
  cases hg : x.gone with
  | true =>
    have ht : tailN x ++ r = 1 :: r := by unfold tailN; rw [hg, if_pos rfl, small1]; rfl
    rw [ht, hgd, if_pos rfl, hdr]
    have hv := h.gone hg
    obtain ⟨xk, xv, xs, xg⟩ := x
    simp only at hg hv hq1 ⊢
    subst hg hv
    rw [Int.toNat_of_nonneg hq1]
  | false =>
    have ht : tailN x ++ r = 0 :: (smallN (numsOf x.val).length ++ (numsOf x.val ++ r)) := by unfold tailN; rw [hg, if_neg (by simp), small0, numsOf_len]; simp
    rw [ht, hgd, if_neg (by omega), hdr, cutT_back _ _ (by rw [numsOf_len]; have := h.val; omega)]
    simp only
    rw [strOf_nums, Int.toNat_of_nonneg hq1, ← hg]
theorem gL_back : ∀ (l : List EntV) (a : ByteArray), (∀ x ∈ l, OkE x) → gL l.length a (entsN (numsOf a) l) = some l
  | [], _, _ => rfl
  | x :: l, a, h => by
    have e := gEnt_back a x (entsN (numsOf x.key) l) (h x (by simp))
    have ih := gL_back l x.key (fun y hy => h y (by simp [hy]))
    simp only [List.length_cons, entsN, gL, e, ih]
    simp
theorem gD_back {l : List EntV} (hn : l.length ≤ 4096) (h : ∀ x ∈ l, OkE x) : gD (bodyN l) = some l := by
  unfold gD bodyN
  rw [read_back _ _ (by omega)]
  simp only
  rw [if_neg (by omega), List.drop_left]
  have := gL_back l ByteArray.empty h
  rw [nums_empty] at this
  exact this
theorem body_pos (l : List EntV) : 1 ≤ (bodyN l).length := by unfold bodyN; rw [List.length_append]; have := smallN_pos l.length; omega
theorem docR_eq {xs : List Nat} (hx : ∀ c ∈ xs, c < 256) : docR xs = readE xs := by
  cases hr : readE xs with
  | some l =>
    have hm := make_read hx hr
    obtain ⟨h1, h2, h3⟩ := makeE_ok hm
    obtain ⟨c1, c2⟩ := checkE_ok h1
    obtain ⟨p1, p2, p3, p4⟩ := page_cut l
    have hb := body_pos l
    unfold docR
    rw [if_neg (by rw [h2, page_len]; rw [h2, page_len] at h3; omega)]
    have : gD (xs.take (xs.length - 4)) = some l := by rw [h2, p1, p2]; exact gD_back c1 c2
    rw [this]
    simp only
    rw [if_pos hm]
  | none =>
    unfold docR
    split
    · rfl
    · split
      · rfl
      · split
        · rename_i l _ hm
          rw [read_make hm] at hr
          cases hr
        · rfl
theorem docR_len {xs : List Nat} (h : xs.length < 5 ∨ 65536 < xs.length) : docR xs = none := by unfold docR; rw [if_pos h]
theorem docR_no {xs : List Nat} (h : ¬ (xs.length < 5 ∨ 65536 < xs.length)) (hg : gD (xs.take (xs.length - 4)) = none) : docR xs = none := by unfold docR; rw [if_neg h, hg]
theorem docR_some {xs : List Nat} (h : ¬ (xs.length < 5 ∨ 65536 < xs.length)) {l : List EntV} (hg : gD (xs.take (xs.length - 4)) = some l) : docR xs = if makeE l = (xs, 0) then some l else none := by unfold docR; rw [if_neg h, hg]
/-! ### Steps -/
theorem cutT_none1 {xs : List Nat} (h : readN xs = none) : cutT xs = none := by unfold cutT; rw [h]
theorem cutT_none2 {xs : List Nat} {n k : Nat} (h : readN xs = some (n, k)) (hl : xs.length < k + n) : cutT xs = none := by unfold cutT; rw [h]; simp only; rw [if_pos hl]
theorem cutT_some {xs : List Nat} {n k : Nat} (h : readN xs = some (n, k)) (hl : ¬ xs.length < k + n) : cutT xs = some ((xs.drop k).take n, xs.drop (k + n)) := by unfold cutT; rw [h]; simp only; rw [if_neg hl]
/-- The document's Cut, in one word. -/
def CutO (xs : List Nat) (w : World) (e : Ending) (w' : World) : Prop :=
  (cutT xs = none ∧ e = .returned (.tuple #[.string ByteArray.empty, .slice none 0 0, .int .i64 8]) ∧ Below w.heap.size w w') ∨
  (∃ t r v, cutT xs = some (t, r) ∧ e = .returned (.tuple #[.string (strOf t), v, .int .i64 0]) ∧ w'.ownsRow w.heap.size 5 1 v r.length (Bs r) ∧ Below w.heap.size w w' ∧ t.length + r.length ≤ xs.length ∧ (∀ c ∈ r, c < 256) ∧ (∀ c ∈ t, c < 256))
theorem refCut_u (p : Option Addr) (n cap : Nat) (xs : List Nat) (w : World) (hn : n = xs.length) (hb : BIn w p xs) (hm : xs.length ≤ 100000) (hcap : xs.length ≤ cap) :
    Calls Try.prog 73 #[.slice p n cap] w fun e w' => CutO xs w e w' := by
  subst hn
  rcases hr : readN xs with _ | ⟨n, k⟩
  · refine (refCut_none p cap xs w hb (by unfold maxLen; omega) hr).mono ?_
    rintro e w' ⟨rfl, rfl⟩
    exact .inl ⟨cutT_none1 hr, rfl, Below.refl _ _⟩
  · by_cases hl : xs.length < k + n
    · refine (refCut_long p cap xs w hb (by unfold maxLen; omega) n k hr hl).mono ?_
      rintro e w' ⟨rfl, rfl⟩
      exact .inl ⟨cutT_none2 hr hl, rfl, Below.refl _ _⟩
    · refine (refCut_ok p cap xs w hb hm hcap n k hr (by omega)).mono ?_
      rintro e w' ⟨v, rfl, ho, hbb⟩
      exact .inr ⟨_, _, v, cutT_some hr hl, rfl, ho, hbb, by rw [List.length_take, List.length_drop, List.length_drop]; omega, fun c hc => hb.2 c (List.mem_of_mem_drop hc), fun c hc => hb.2 c (List.mem_of_mem_drop (List.mem_of_mem_take hc))⟩
theorem gEnt_1 {a : ByteArray} {xs : List Nat} (h : readN xs = none) : gEnt a xs = none := by unfold gEnt; rw [h]
section
variable {a : ByteArray} {xs : List Nat} {p k : Nat} (h1 : readN xs = some (p, k))
include h1
theorem gEnt_2 (h2 : a.size < p) : gEnt a xs = none := by unfold gEnt; rw [h1]; simp only; rw [if_pos h2]
theorem gEnt_3 (h2 : ¬ a.size < p) (h3 : cutT (xs.drop k) = none) : gEnt a xs = none := by unfold gEnt; rw [h1]; simp only; rw [if_neg h2, h3]
variable {rest in2 : List Nat}
theorem gEnt_4 (h2 : ¬ a.size < p) (h3 : cutT (xs.drop k) = some (rest, in2)) (h4 : readN in2 = none) : gEnt a xs = none := by unfold gEnt; rw [h1]; simp only; rw [if_neg h2, h3]; simp only; rw [h4]
variable {seq k2 : Nat}
theorem gEnt_5 (h2 : ¬ a.size < p) (h3 : cutT (xs.drop k) = some (rest, in2)) (h4 : readN in2 = some (seq, k2)) (h5 : 2147483647 < seq ∨ in2.length = k2) : gEnt a xs = none := by unfold gEnt; rw [h1]; simp only; rw [if_neg h2, h3]; simp only; rw [h4]; simp only; rw [if_pos h5]
theorem gEnt_6 (h2 : ¬ a.size < p) (h3 : cutT (xs.drop k) = some (rest, in2)) (h4 : readN in2 = some (seq, k2)) (h5 : ¬ (2147483647 < seq ∨ in2.length = k2)) (h6 : in2.getD k2 0 = 1) : gEnt a xs = some (⟨a.extract 0 p ++ strOf rest, ByteArray.empty, (seq : Int), true⟩, in2.drop (k2 + 1)) := by unfold gEnt; rw [h1]; simp only; rw [if_neg h2, h3]; simp only; rw [h4]; simp only; rw [if_neg h5, if_pos h6]
theorem gEnt_7 (h2 : ¬ a.size < p) (h3 : cutT (xs.drop k) = some (rest, in2)) (h4 : readN in2 = some (seq, k2)) (h5 : ¬ (2147483647 < seq ∨ in2.length = k2)) (h6 : ¬ in2.getD k2 0 = 1) (h7 : cutT (in2.drop (k2 + 1)) = none) : gEnt a xs = none := by unfold gEnt; rw [h1]; simp only; rw [if_neg h2, h3]; simp only; rw [h4]; simp only; rw [if_neg h5, if_neg h6, h7]
theorem gEnt_8 (h2 : ¬ a.size < p) (h3 : cutT (xs.drop k) = some (rest, in2)) (h4 : readN in2 = some (seq, k2)) (h5 : ¬ (2147483647 < seq ∨ in2.length = k2)) (h6 : ¬ in2.getD k2 0 = 1) {v in3 : List Nat} (h7 : cutT (in2.drop (k2 + 1)) = some (v, in3)) : gEnt a xs = some (⟨a.extract 0 p ++ strOf rest, strOf v, (seq : Int), false⟩, in3) := by unfold gEnt; rw [h1]; simp only; rw [if_neg h2, h3]; simp only; rw [h4]; simp only; rw [if_neg h5, if_neg h6, h7]
end
end Go.Proofs.Ytlcbjmbphekliaa
