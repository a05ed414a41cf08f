import Derived.Test.YtblnoekogdpolaaDoorJDCk
import Derived.Test.YtblnoekogdpolaaDoorJWith
import Derived.Test.YtblnoekogdpolaaDoorJDFo
import Derived.Laws.AppendOwnNone
namespace Go.Proofs.YtblnoekogdpolaaDoor
open Go.RowKit Go.WideShapes Go.Joins
structure TwnP (x : JB) (w : World) (e : Ending) (w' : World) : Prop where
  ex : ∃ A, e = .returned (.agg A) ∧ JIn w' (fun b => w.heap.size ≤ b) A x ∧ Below w.heap.size w w'
structure TwM (pA : Array Value) (k : Nat) (b : Bool) (n : Int) (t : ByteArray) (w : World) (As : List (Array Value)) (Js : List JB) (ss : List ByteArray) (nv iv : Value) (wr : World) : Prop where
  g : Below w.heap.size w wr
  vb : wr.heap[w.heap.size]? = some (.cells pA 25 (0, 0))
  rb : wr.heap[w.heap.size + 1]? = some jbox
  box : wr.heap[w.heap.size + 2]? = some (.cells #[.int .u8 (k : Int), .bool b, .int .i64 n, .string t, nv, iv] 25 (0, 0))
  nm : NmOwn wr (w.heap.size + 3) nv ss
  it : ItOwn wr (w.heap.size + 3) iv As
  its : ItsIn wr (fun j => w.heap.size + 2 < j ∧ some j ≠ nv.ownBlock ∧ some j ≠ iv.ownBlock) As Js
  ne : nv.ownBlock = none ∨ nv.ownBlock ≠ iv.ownBlock
variable {pA : Array Value} {k : Nat} {b : Bool} {n : Int} {t : ByteArray} {w : World} {As : List (Array Value)} {Js : List JB} {ss : List ByteArray} {nv iv : Value}
theorem TwM.own {wr : World} (h : TwM pA k b n t w As Js ss nv iv wr) : (∀ k, nv.ownBlock = some k → w.heap.size + 2 < k ∧ k < wr.heap.size) ∧ (∀ k, iv.ownBlock = some k → w.heap.size + 2 < k ∧ k < wr.heap.size) :=
  ⟨fun k hk => by have := own_ge h.nm hk; omega, fun k hk => by have := own_ge h.it.own hk; omega⟩
theorem TwM.sz {wr : World} (h : TwM pA k b n t w As Js ss nv iv wr) : w.heap.size + 2 < wr.heap.size := by
  rcases Nat.lt_or_ge (w.heap.size + 2) wr.heap.size with h' | h'
  · exact h'
  · have := h.box
    rw [Array.getElem?_eq_none h'] at this; cases this
theorem TwM.more {wr w' : World} (h : TwM pA k b n t w As Js ss nv iv wr) (hb : Below wr.heap.size wr w') : TwM pA k b n t w As Js ss nv iv w' := by
  have hn : ∀ v : Value, v.ownBlock = none ∨ v.ownBlock ≠ none := fun v => by cases v.ownBlock <;> simp
  exact ⟨below_more h.g hb, box_below h.vb hb, box_below h.rb hb, box_below h.box hb, h.nm.kept (grown_below hb none) (hn _), h.it.kept (grown_below hb none) (hn _), h.its.kept (grown_below hb none) (by simp), h.ne⟩
theorem TwM.item {w2 w3 w4 : World} {A : Array Value} {x : JB} {N1 gg cap : Nat} (h : TwM pA k b n t w As Js ss nv iv w2) (hA : JIn w2 (fun k => N1 ≤ k) A x)
    (hN : w.heap.size + 2 < N1 ∧ (∀ k, nv.ownBlock = some k → k < N1) ∧ (∀ k, iv.ownBlock = some k → k < N1)) (hb3 : Below w2.heap.size w2 w3)
    (ho : w4.ownsRow (w.heap.size + 3) 25 6 (.slice (some ⟨gg, 0, none⟩) (As.length + 1) cap) (As.length + 1) (cellsA As ++ A.toList)) (hg : w3.grownBy w4 iv.ownBlock) (hat : iv.ownBlock = some gg ∨ gg = w3.heap.size) :
    TwM pA k b n t w (As ++ [A]) (Js ++ [x]) ss nv (.slice (some ⟨gg, 0, none⟩) (As.length + 1) cap) (w4.setCell ⟨w.heap.size + 2, 5, none⟩ (.slice (some ⟨gg, 0, none⟩) (As.length + 1) cap)) := by
  have hown2 := h.own
  have hsz2 := h.sz
  have hne2 := h.ne
  have hAz := hA.size
  have m3 := h.more hb3
  have z3 := hb3.size
  have z4 := hg.size
  have gs := grown_set w4 (w.heap.size + 2) 5 (.slice (some ⟨gg, 0, none⟩) (As.length + 1) cap)
  have nb : some w.heap.size ≠ iv.ownBlock := fun e => by have := hown2.2 _ e.symm; omega
  have nr : some (w.heap.size + 1) ≠ iv.ownBlock := fun e => by have := hown2.2 _ e.symm; omega
  have nx : some (w.heap.size + 2) ≠ iv.ownBlock := fun e => by have := hown2.2 _ e.symm; omega
  have gxs : gg ≠ w.heap.size + 2 := by
    rcases hat with e | e
    · have := hown2.2 _ e; omega
    · omega
  have gsz := m3.g.size
  refine ⟨?_, ?_, ?_, ?_, ?_, ?_, ?_, ?_⟩
  · exact (m3.g.grown hg gsz (fun k hk => by have := hown2.2 k hk; omega)).grown gs (by omega) (fun k hk => by cases hk; omega)
  · exact (gs.block _ (by omega) (fun e => by simp only [Option.some.injEq] at e; omega)).trans (box_at hg m3.vb nb)
  · exact (gs.block _ (by omega) (fun e => by simp only [Option.some.injEq] at e; omega)).trans (box_at hg m3.rb nr)
  · have x4 := box_at hg m3.box nx
    exact block_setCell (i := 5) x4 _
  · have k4 : NmOwn w4 (w.heap.size + 3) nv ss := m3.nm.kept hg hne2
    exact k4.kept gs (.inr fun e => by have := hown2.1 _ e; omega)
  · refine ⟨?_, ?_⟩
    · intro B hB
      rcases List.mem_append.1 hB with hB | hB
      · exact h.it.sz B hB
      · rw [List.mem_singleton] at hB; rw [hB]; exact hAz
    · have o4 := ho.kept gs (.inr fun e => by simp only [Value.ownBlock, Option.some.injEq] at e; exact gxs e)
      rw [cellsA_app, List.length_append]
      simpa [cellsA] using o4
  · have a2 : ItsIn w2 (fun k => w.heap.size + 2 < k ∧ some k ≠ nv.ownBlock ∧ some k ≠ iv.ownBlock ∧ k < w2.heap.size) (As ++ [A]) (Js ++ [x]) :=
      (h.its.wk fun k hk hl => ⟨hk.1, hk.2.1, hk.2.2, hl⟩).app (hA.lt.wk fun k hk => ⟨by omega, fun e => by have := hN.2.1 k e.symm; omega, fun e => by have := hN.2.2 k e.symm; omega, hk.2⟩)
    have a3 := a2.kept (grown_below hb3 none) (by simp)
    have a4 := a3.kept hg (fun k hk => hk.2.2.1)
    have a5 := a4.kept gs (fun k hk e => by cases e; omega)
    refine a5.wk fun k hk _ => ⟨hk.1, hk.2.1, fun e => ?_⟩
    simp only [Value.ownBlock, Option.some.injEq] at e
    subst e
    rcases hat with e | e
    · exact hk.2.2.1 e.symm
    · omega
  · rcases hne2 with e | e
    · exact .inl e
    · refine .inr fun e2 => ?_
      simp only [Value.ownBlock] at e2
      rcases hat with e3 | e3
      · exact e (e2.trans e3.symm)
      · have := hown2.1 gg e2
        omega
theorem nm_base {w : World} {b b' : Nat} {v : Value} {ns : List ByteArray} (h : NmOwn w b v ns) (hb : b' ≤ b) : NmOwn w b' v ns := by
  refine ⟨h.1, ?_⟩
  rcases h.2 with h2 | ⟨g, cap, cur, hv, h1, h3⟩
  · exact .inl h2
  · exact .inr ⟨g, cap, cur, hv, Nat.le_trans hb h1, h3⟩
structure TwP (k : Nat) (b : Bool) (n : Int) (t : ByteArray) (ss : List ByteArray) (Js : List JB) (w : World) (e : Ending) (w' : World) : Prop where
  ex : ∃ q2 m2 q m As, e = .returned (.agg (jA k b n t q2 ss.length m2 q Js.length m)) ∧ JIn w' (fun b => w.heap.size ≤ b) (jA k b n t q2 ss.length m2 q Js.length m) (.mk k b n t ss Js) ∧ Below w.heap.size w w' ∧
    NmOwn w' w.heap.size (.slice q2 ss.length m2) ss ∧ ItOwn w' w.heap.size (.slice q Js.length m) As ∧
    ItsIn w' (fun j => w.heap.size ≤ j ∧ some j ≠ (Value.slice q2 ss.length m2).ownBlock ∧ some j ≠ (Value.slice q Js.length m).ownBlock) As Js ∧ ((Value.slice q2 ss.length m2).ownBlock = none ∨ (Value.slice q2 ss.length m2).ownBlock ≠ (Value.slice q Js.length m).ownBlock)
theorem TwP.cop {k : Nat} {b : Bool} {n : Int} {t : ByteArray} {ss : List ByteArray} {Js : List JB} {w w' : World} {e : Ending} (h : TwP k b n t ss Js w e w') : TwnP (.mk k b n t ss Js) w e w' := by
  obtain ⟨q2, m2, q, m, As, he, hj, hb, _⟩ := h.ex
  exact ⟨_, he, hj, hb⟩
theorem TwM.fin {w' : World} {q2 q : Option Addr} {m2 m : Nat} {a0 a1 a2 a3 a4 a5 : Value} (h : TwM pA k b n t w As Js ss (.slice q2 ss.length m2) (.slice q Js.length m) w') (hk : k < 256) (hn : J.Rng n) :
    TwP k b n t ss Js w (.returned (.agg (jA k b n t q2 ss.length m2 q Js.length m))) (set6 w' (w.heap.size + 1) a0 a1 a2 a3 a4 a5) := by
  have g6 := set6_grown w' (w.heap.size + 1) a0 a1 a2 a3 a4 a5
  have hN := h.nm.kept g6 (.inr fun e => by have := h.own.1 _ e; omega)
  have hI := h.it.kept g6 (.inr fun e => by have := h.own.2 _ e; omega)
  have hJ := h.its.kept g6 (fun k hk e => by cases e; omega)
  refine ⟨q2, m2, q, m, As, rfl, ?_, h.g.grown g6 h.g.size (fun k hk => by cases hk; omega), nm_base hN (by omega), it_base hI (by omega), hJ.wk fun j hj _ => ⟨by omega, hj.2⟩, h.ne⟩
  obtain ⟨r1, s1, e1, x1, x2, x3⟩ := own_form hN
  obtain ⟨r2, s2, e2, y1, y2, y3⟩ := own_form hI.own
  cases e1
  rw [hJ.1] at e2 y1
  cases e2
  have hj : JIn (set6 w' (w.heap.size + 1) a0 a1 a2 a3 a4 a5) (fun k => w.heap.size + 3 ≤ k ∨ w.heap.size + 2 < k) (jA k b n t q2 ss.length m2 q Js.length m) (.mk k b n t ss Js) := by
    refine JIn.mk k b n t ss Js q2 q m2 m (fun i => As.getD i #[]) hk hn x1 y1 x2 y2 x3 y3 (hN.ss.mono fun _ _ z hc => ⟨hc, .inl z⟩) ?_ (fun i x hi => ?_)
    · have := hI.vs
      rw [hJ.1] at this
      exact this.mono (fun i hi => hI.sz _ (by rw [List.getD_eq_getElem?_getD, List.getElem?_eq_getElem (by rw [hJ.1]; exact hi)]; exact List.getElem_mem _)) fun _ _ z hc => ⟨hc, .inl z⟩
    · have hlt : i < As.length := by rw [hJ.1]; exact (List.getElem?_eq_some_iff.1 hi).1
      rw [List.getD_eq_getElem?_getD, List.getElem?_eq_getElem hlt]
      exact (hJ.2 i _ x (List.getElem?_eq_getElem hlt) hi).wk fun k hk => .inr hk.1
  exact hj.wk fun k hk => by rcases hk with hk | hk <;> omega
end Go.Proofs.YtblnoekogdpolaaDoor
