import Derived.Test.YtcfalgomcdmdhaaDoorJDTv
import Derived.Test.YtcfalgomcdmdhaaDoorJPutM
namespace Go.Proofs.YtcfalgomcdmdhaaDoor
open Go.RowKit Go.WideShapes Go.Joins
structure OutM (b0 base : Nat) (P R : Obj) (w : World) (As : List (Array Value)) (Js : List JB) (ss : List ByteArray) (nv iv : Value) (wr : World) : Prop where
  bel : Below w.heap.size w wr
  xb : wr.heap[w.heap.size + 1]? = some P
  res : wr.heap[w.heap.size + 2]? = some R
  ob : wr.heap[b0]? = some (.cells #[.int .u8 6, .bool false, .int .i64 0, .string ⟨#[]⟩, nv, iv] 25 (0, 0))
  nm : NmOwn wr base nv ss
  it : ItOwn wr base iv As
  its : ItsIn wr (fun j => j ≠ w.heap.size + 2 ∧ j ≠ b0 ∧ some j ≠ nv.ownBlock ∧ some j ≠ iv.ownBlock) As Js
  ne : nv.ownBlock = none ∨ nv.ownBlock ≠ iv.ownBlock
  lt : w.heap.size + 2 < base
  b0lt : w.heap.size + 2 < b0
  sz : base ≤ wr.heap.size
  nb : nv.ownBlock ≠ some b0
  ib : iv.ownBlock ≠ some b0
variable {b0 base : Nat} {P R : Obj} {w : World} {As : List (Array Value)} {Js : List JB} {ss : List ByteArray} {nv iv : Value}
theorem OutM.own {wr : World} (h : OutM b0 base P R w As Js ss nv iv wr) : (∀ k, nv.ownBlock = some k → w.heap.size + 2 < k ∧ k < wr.heap.size ∧ k ≠ b0) ∧ (∀ k, iv.ownBlock = some k → w.heap.size + 2 < k ∧ k < wr.heap.size ∧ k ≠ b0) :=
  ⟨fun k hk => by
      have h1 := own_ge h.nm hk
      have h2 := h.lt
      exact ⟨by omega, h1.2, fun e => h.nb (by rw [hk, e])⟩, fun k hk => by
      have h1 := own_ge h.it.own hk
      have h2 := h.lt
      exact ⟨by omega, h1.2, fun e => h.ib (by rw [hk, e])⟩⟩
theorem OutM.more {wr w' : World} (h : OutM b0 base P R w As Js ss nv iv wr) (hb : Below wr.heap.size wr w') : OutM b0 base P R w As Js ss nv iv w' := by
  have hn : ∀ v : Value, v.ownBlock = none ∨ v.ownBlock ≠ none := fun v => by cases v.ownBlock <;> simp
  exact ⟨below_more h.bel hb, box_below h.xb hb, box_below h.res hb, box_below h.ob hb, h.nm.kept (grown_below hb none) (hn _), h.it.kept (grown_below hb none) (hn _), h.its.kept (grown_below hb none) (by simp), h.ne, h.lt, h.b0lt, Nat.le_trans h.sz hb.size, h.nb, h.ib⟩
theorem OutM.start {w1 w2 : World} {q2 q : Option Addr} {m2 m : Nat} (hb : Below w.heap.size w w1) (hx : w1.heap[w.heap.size + 1]? = some P) (hr : w1.heap[w.heap.size + 2]? = some R) (h2 : Below w1.heap.size w1 w2)
    (hN : NmOwn w2 w1.heap.size (.slice q2 ss.length m2) ss) (hI : ItOwn w2 w1.heap.size (.slice q Js.length m) As)
    (hJ : ItsIn w2 (fun j => w1.heap.size ≤ j ∧ some j ≠ (Value.slice q2 ss.length m2).ownBlock ∧ some j ≠ (Value.slice q Js.length m).ownBlock) As Js)
    (hne : (Value.slice q2 ss.length m2).ownBlock = none ∨ (Value.slice q2 ss.length m2).ownBlock ≠ (Value.slice q Js.length m).ownBlock) :
    OutM w2.heap.size w1.heap.size P R w As Js ss (.slice q2 ss.length m2) (.slice q Js.length m) (w2.alloc (.cells (jA 6 false 0 ⟨#[]⟩ q2 ss.length m2 q Js.length m) 25)) := by
  have hn : ∀ v : Value, v.ownBlock = none ∨ v.ownBlock ≠ none := fun v => by cases v.ownBlock <;> simp
  have b3 := below_new w2 (.cells (jA 6 false 0 ⟨#[]⟩ q2 ss.length m2 q Js.length m) 25)
  have hl := heap_lt hr
  have hs := h2.size
  refine ⟨below_more hb (below_more h2 b3), box_below (box_below hx h2) b3, box_below (box_below hr h2) b3, _root_.Go.heap_alloc_new w2 _, hN.kept (grown_below b3 none) (hn _), hI.kept (grown_below b3 none) (hn _), ?_, hne, hl, by omega, by rw [World.size_alloc]; omega,
    fun e => by have := own_ge hN e; omega, fun e => by have := own_ge hI.own e; omega⟩
  exact (hJ.wk fun j hj hl2 => ⟨by omega, by omega, hj.2⟩).kept (grown_below b3 none) (by simp)
theorem OutM.name {w2 w3 w4 : World} {str : ByteArray} {gg cap : Nat} (h : OutM b0 base P R w As Js ss nv iv w2) (hb3 : Below w2.heap.size w2 w3)
    (ho : w4.ownsRow base 9 1 (.slice (some ⟨gg, 0, none⟩) (ss.length + 1) cap) (ss.length + 1) (ss.map Value.string ++ [.string str])) (hg : w3.grownBy w4 nv.ownBlock) (hat : nv.ownBlock = some gg ∨ gg = w3.heap.size) :
    OutM b0 base P R w As Js (ss ++ [str]) (.slice (some ⟨gg, 0, none⟩) (ss.length + 1) cap) iv (w4.setCell ⟨b0, 4, none⟩ (.slice (some ⟨gg, 0, none⟩) (ss.length + 1) cap)) := by
  have hown2 := h.own
  have m3 := h.more hb3
  have hl := h.lt
  have hbl := h.b0lt
  have z3 := hb3.size
  have z4 := hg.size
  have b0s := heap_lt h.ob
  have gs := grown_set w4 b0 4 (.slice (some ⟨gg, 0, none⟩) (ss.length + 1) cap)
  have n1 : some (w.heap.size + 1) ≠ nv.ownBlock := fun e => by have := hown2.1 _ e.symm; omega
  have n2 : some (w.heap.size + 2) ≠ nv.ownBlock := fun e => by have := hown2.1 _ e.symm; omega
  have n3 : some b0 ≠ nv.ownBlock := fun e => by have := hown2.1 _ e.symm; omega
  have gxs : gg ≠ b0 := by
    rcases hat with e | e
    · have := hown2.1 _ e; omega
    · omega
  have gsz := m3.bel.size
  have hiv : iv.ownBlock = none ∨ iv.ownBlock ≠ nv.ownBlock := by
    rcases h.ne with e | e
    · cases hi : iv.ownBlock with
      | none => exact .inl rfl
      | some k => exact .inr (by rw [e]; simp)
    · exact .inr fun e2 => e e2.symm
  have s1 := heap_lt m3.xb
  have s2 := heap_lt m3.res
  refine ⟨?_, ?_, ?_, ?_, ?_, ?_, ?_, ?_, hl, hbl, Nat.le_trans m3.sz (Nat.le_trans z4 gs.size), fun e => gxs (Option.some.inj e), h.ib⟩
  · exact (m3.bel.grown hg gsz (fun k hk => by have := hown2.1 k hk; omega)).grown gs (by omega) (fun k hk => by cases hk; omega)
  · exact (gs.block _ (by omega) (fun e => by simp only [Option.some.injEq] at e; omega)).trans (box_at hg m3.xb n1)
  · exact (gs.block _ (by omega) (fun e => by simp only [Option.some.injEq] at e; omega)).trans (box_at hg m3.res n2)
  · exact block_setCell (i := 4) (box_at hg m3.ob n3) _
  · have o4 := ho.kept gs (.inr fun e => by simp only [Value.ownBlock, Option.some.injEq] at e; exact gxs e)
    unfold NmOwn
    rw [List.length_append, List.map_append]
    exact o4
  · have k4 : ItOwn w4 base iv As := m3.it.kept hg hiv
    exact k4.kept gs (.inr fun e => by have := hown2.2 _ e; omega)
  · have a2 : ItsIn w2 (fun k => k ≠ w.heap.size + 2 ∧ k ≠ b0 ∧ some k ≠ nv.ownBlock ∧ some k ≠ iv.ownBlock ∧ k < w2.heap.size) As Js :=
      h.its.wk fun k hk hl => ⟨hk.1, hk.2.1, hk.2.2.1, hk.2.2.2, hl⟩
    have a3 := a2.kept (grown_below hb3 none) (by simp)
    have a4 := a3.kept hg (fun k hk => hk.2.2.1)
    have a5 := a4.kept gs (fun k hk e => by cases e; omega)
    refine a5.wk fun k hk _ => ⟨hk.1, hk.2.1, fun e => ?_, hk.2.2.2.1⟩
    simp only [Value.ownBlock, Option.some.injEq] at e
    subst e
    rcases hat with e | e
    · exact hk.2.2.1 e.symm
    · omega
  · refine .inr fun e2 => ?_
    have e2 : some gg = iv.ownBlock := e2
    rcases hat with e3 | e3
    · rcases hiv with e4 | e4
      · rw [e4] at e2; cases e2
      · exact e4 (e2.symm.trans e3.symm)
    · have := hown2.2 gg e2.symm
      omega
theorem OutM.item {w2 w3 w4 : World} {A : Array Value} {x : JB} {ZB : Nat → Prop} {gg cap : Nat} (h : OutM b0 base P R w As Js ss nv iv w2) (hA : JIn w ZB A x) (hb3 : Below w2.heap.size w2 w3)
    (ho : w4.ownsRow base 25 6 (.slice (some ⟨gg, 0, none⟩) (As.length + 1) cap) (As.length + 1) (cellsA As ++ A.toList)) (hg : w3.grownBy w4 iv.ownBlock) (hat : iv.ownBlock = some gg ∨ gg = w3.heap.size) :
    OutM b0 base P R w (As ++ [A]) (Js ++ [x]) ss nv (.slice (some ⟨gg, 0, none⟩) (As.length + 1) cap) (w4.setCell ⟨b0, 5, none⟩ (.slice (some ⟨gg, 0, none⟩) (As.length + 1) cap)) := by
  have hown2 := h.own
  have hAz := hA.size
  have m3 := h.more hb3
  have hl := h.lt
  have hbl := h.b0lt
  have z3 := hb3.size
  have z4 := hg.size
  have b0s := heap_lt h.ob
  have gs := grown_set w4 b0 5 (.slice (some ⟨gg, 0, none⟩) (As.length + 1) cap)
  have n1 : some (w.heap.size + 1) ≠ iv.ownBlock := fun e => by have := hown2.2 _ e.symm; omega
  have n2 : some (w.heap.size + 2) ≠ iv.ownBlock := fun e => by have := hown2.2 _ e.symm; omega
  have n3 : some b0 ≠ iv.ownBlock := fun e => by have := hown2.2 _ e.symm; omega
  have gxs : gg ≠ b0 := by
    rcases hat with e | e
    · have := hown2.2 _ e; omega
    · omega
  have gsz := m3.bel.size
  have s1 := heap_lt m3.xb
  have s2 := heap_lt m3.res
  refine ⟨?_, ?_, ?_, ?_, ?_, ?_, ?_, ?_, hl, hbl, Nat.le_trans m3.sz (Nat.le_trans z4 gs.size), h.nb, fun e => gxs (Option.some.inj e)⟩
  · exact (m3.bel.grown hg gsz (fun k hk => by have := hown2.2 k hk; omega)).grown gs (by omega) (fun k hk => by cases hk; omega)
  · exact (gs.block _ (by omega) (fun e => by simp only [Option.some.injEq] at e; omega)).trans (box_at hg m3.xb n1)
  · exact (gs.block _ (by omega) (fun e => by simp only [Option.some.injEq] at e; omega)).trans (box_at hg m3.res n2)
  · exact block_setCell (i := 5) (box_at hg m3.ob n3) _
  · have k4 : NmOwn w4 base nv ss := m3.nm.kept hg h.ne
    exact k4.kept gs (.inr fun e => by have := hown2.1 _ e; omega)
  · refine ⟨?_, ?_⟩
    · intro B hB
      rcases List.mem_append.1 hB with hB | hB
      · exact h.it.sz B hB
      · rw [List.mem_singleton] at hB; rw [hB]; exact hAz
    · have o4 := ho.kept gs (.inr fun e => by simp only [Value.ownBlock, Option.some.injEq] at e; exact gxs e)
      rw [cellsA_app, List.length_append]
      simpa [cellsA] using o4
  · have a2 : ItsIn w2 (fun k => k ≠ w.heap.size + 2 ∧ k ≠ b0 ∧ some k ≠ nv.ownBlock ∧ some k ≠ iv.ownBlock ∧ k < w2.heap.size) (As ++ [A]) (Js ++ [x]) :=
      (h.its.wk fun k hk hl => ⟨hk.1, hk.2.1, hk.2.2.1, hk.2.2.2, hl⟩).app ((hA.lt.bel h.bel).wk fun k hk => ⟨by omega, by omega, fun e => by have := hown2.1 k e.symm; omega, fun e => by have := hown2.2 k e.symm; omega, by have := h.bel.size; omega⟩)
    have a3 := a2.kept (grown_below hb3 none) (by simp)
    have a4 := a3.kept hg (fun k hk => hk.2.2.2.1)
    have a5 := a4.kept gs (fun k hk e => by cases e; omega)
    refine a5.wk fun k hk _ => ⟨hk.1, hk.2.1, hk.2.2.1, fun e => ?_⟩
    simp only [Value.ownBlock, Option.some.injEq] at e
    subst e
    rcases hat with e | e
    · exact hk.2.2.2.1 e.symm
    · omega
  · rcases h.ne with e | e
    · exact .inl e
    · refine .inr fun e2 => ?_
      simp only [Value.ownBlock] at e2
      rcases hat with e3 | e3
      · exact e (e2.trans e3.symm)
      · have := hown2.1 gg e2
        omega
theorem OutM.jin {wr : World} {q1 q2 : Option Addr} {c1 c2 : Nat} (h : OutM b0 base P R w As Js ss (.slice q1 ss.length c1) (.slice q2 Js.length c2) wr) :
    JIn wr (fun j => j ≠ w.heap.size + 2) (jA 6 false 0 ⟨#[]⟩ q1 ss.length c1 q2 Js.length c2) (.mk 6 false 0 ⟨#[]⟩ ss Js) := by
  have hl := h.lt
  obtain ⟨r1, s1, e1, x1, x2, x3⟩ := own_form h.nm
  obtain ⟨r2, s2, e2, y1, y2, y3⟩ := own_form h.it.own
  cases e1
  rw [h.its.1] at e2 y1
  cases e2
  refine JIn.mk 6 false 0 ⟨#[]⟩ ss Js q1 q2 c1 c2 (fun i => As.getD i #[]) (by decide) rng_zero x1 y1 x2 y2 x3 y3 (h.nm.ss.mono fun _ _ z hc => ⟨hc, by omega⟩) ?_ (fun i x hi => ?_)
  · have := h.it.vs
    rw [h.its.1] at this
    exact this.mono (fun i hi => h.it.sz _ (by rw [List.getD_eq_getElem?_getD, List.getElem?_eq_getElem (by rw [h.its.1]; exact hi)]; exact List.getElem_mem _)) fun _ _ z hc => ⟨hc, by omega⟩
  · have hlt : i < As.length := by rw [h.its.1]; exact (List.getElem?_eq_some_iff.1 hi).1
    rw [List.getD_eq_getElem?_getD, List.getElem?_eq_getElem hlt]
    exact (h.its.2 i _ x (List.getElem?_eq_getElem hlt) hi).wk fun k hk => hk.1
theorem OutM.set {w3 : World} {q1 : Option Addr} {g2 j c1 c2 : Nat} {ZB : Nat → Prop} {B : Array Value} {x : JB} (h : OutM b0 base P R w As Js ss (.slice q1 ss.length c1) (.slice (some ⟨g2, 0, none⟩) Js.length c2) w3) (hx : JIn w ZB B x) (hj : j < Js.length) :
    JIn (w3.setCells g2 (j * 6) B.toList) (fun b => b ≠ w.heap.size + 2) (jA 6 false 0 ⟨#[]⟩ q1 ss.length c1 (some ⟨g2, 0, none⟩) Js.length c2) (.mk 6 false 0 ⟨#[]⟩ ss (Js.set j x)) ∧ Below w.heap.size w (w3.setCells g2 (j * 6) B.toList) ∧ g2 ≠ w.heap.size + 2 ∧ g2 ≠ b0 ∧ g2 ≠ w.heap.size + 1 := by
  have hl := h.lt
  have hB6 : B.toList.length = 6 := by rw [Array.length_toList]; exact hx.size
  have hg := h.own.2 g2 rfl
  have ho := h.it.own
  rw [h.its.1] at ho
  have hth : w3.there g2 (j * 6) B.toList.length := fun i hi => by
    rw [hB6] at hi
    refine ⟨?_, ho.frozenAt _⟩
    rw [ho.cellAt _ (by omega), List.getElem?_eq_getElem (by rw [ho.1]; omega)]
    rfl
  obtain ⟨r1, s1, e1, x1, x2, x3⟩ := own_form h.nm
  obtain ⟨r2, s2, e2, y1, y2, y3⟩ := own_form h.it.own
  cases e1
  rw [h.its.1] at e2 y1
  cases e2
  refine ⟨?_, below_setCells (by omega) _ _ h.bel, by omega, hg.2.2, by omega⟩
  have hNs : SsIn w3 (fun k => base ≤ k ∧ k ≠ g2) q1 ss := by
    intro hp
    have h1 := h.nm.ss hp
    obtain ⟨b', o', rfl, hz, hc⟩ := h1
    refine ⟨b', o', rfl, ⟨hz, fun e => ?_⟩, hc⟩
    subst e
    rcases h.ne with e | e
    · simp [Value.ownBlock] at e
    · exact e rfl
  have key := JIn.mk (w := w3.setCells g2 (j * 6) B.toList) (Z := fun b => b ≠ w.heap.size + 2) 6 false 0 ⟨#[]⟩ ss (Js.set j x) q1 (some ⟨g2, 0, none⟩) c1 c2 (fun i => if i = j then B else As.getD i #[]) (by decide) rng_zero x1 (by rw [List.length_set]; exact y1) x2 y2 x3 (fun e => by cases e)
    (hNs.mono fun a _ z hc => ⟨(World.cell?_setCells_out g2 _ _ w3 a (fun e _ => absurd e z.2)).trans hc, by have := z.1; omega⟩)
    (fun _ => ⟨g2, 0, rfl, by omega, fun i hi k hk => by
      rw [List.length_set] at hi
      rw [Nat.zero_add]
      by_cases e : i = j
      · subst e
        show _ = (if i = i then B else As.getD i #[])[k]?
        rw [if_pos rfl]
        have := World.rangeAt_setCells_same w3 g2 (i * 6) B.toList hth k
        have hkb : k < B.size := by rw [hx.size]; exact hk
        rw [Array.getElem?_eq_getElem hkb]
        exact this _ (by rw [Array.getElem?_toList, Array.getElem?_eq_getElem hkb])
      · simp only [if_neg e]
        rw [World.cell?_setCells_out g2 _ _ w3 _ (fun _ _ => by rw [hB6]; show i * 6 + k < j * 6 ∨ j * 6 + 6 ≤ i * 6 + k; omega)]
        have hc := (h.it.vs.at (i := i) (by rw [h.its.1]; exact hi)).2 k hk
        rw [Nat.zero_add] at hc
        exact hc⟩)
    (fun i y hy => by
      by_cases e : i = j
      · subst e
        rw [List.getElem?_set_self hj] at hy
        cases hy
        show JIn _ _ (if i = i then B else As.getD i #[]) x
        rw [if_pos rfl]
        exact (jin_old hx h.bel (by omega)).wk fun b hb => by omega
      · simp only [if_neg e]
        rw [List.getElem?_set_ne (fun h => e h.symm)] at hy
        have hlt : i < As.length := by rw [h.its.1]; exact (List.getElem?_eq_some_iff.1 hy).1
        rw [List.getD_eq_getElem?_getD, List.getElem?_eq_getElem hlt]
        refine (h.its.2 i _ y (List.getElem?_eq_getElem hlt) hy).mono fun a _ z hc => ⟨(World.cell?_setCells_out g2 _ _ w3 a (fun e _ => absurd (congrArg some e) z.2.2.2)).trans hc, z.1⟩)
  rw [List.length_set] at key
  exact key
end Go.Proofs.YtcfalgomcdmdhaaDoor
namespace Go.Proofs.YtcfalgomcdmdhaaDoor
open Go.RowKit Go.WideShapes Go.Joins
structure DPutP (E : Nat) (y : JB) (w : World) (e : Ending) (w' : World) : Prop where
  ex : ∃ (A : Array Value) (Z : Nat → Prop), e = .returned (.tuple #[.agg A, .int .i64 (E : Int)]) ∧ JIn w' Z A (if E = 0 then y else zeroB) ∧ Below w.heap.size w w'
theorem dput_zero {w w1 : World} {E : Nat} {y : JB} {a b c d e f : Value} (hE : E ≠ 0) (b1 : Below w.heap.size w w1) : DPutP E y w (.returned (.tuple #[.agg zeroA, .int .i64 (E : Int)])) (set6 w1 (w.heap.size + 2) a b c d e f) :=
  ⟨_, fun _ => True, rfl, by rw [if_neg hE]; exact jin_flat _ _ 0 false 0 ⟨#[]⟩ (by decide) rng_zero, b1.grown (set6_grown _ _ _ _ _ _ _ _) b1.size (fun k hk => by cases hk; omega)⟩
theorem dput_end {w w5 : World} {A : Array Value} {y : JB} {a b c d e f : Value} (hJ : JIn w5 (fun j => j ≠ w.heap.size + 2) A y) (b5 : Below w.heap.size w w5) : DPutP 0 y w (.returned (.tuple #[.agg A, .int .i64 ((0 : Nat) : Int)])) (set6 w5 (w.heap.size + 2) a b c d e f) :=
  ⟨A, _, rfl, by rw [if_pos rfl]; exact jin_grown hJ (set6_grown _ _ _ _ _ _ _ _) (fun _ hb => hb), b5.grown (set6_grown _ _ _ _ _ _ _ _) b5.size (fun k hk => by cases hk; omega)⟩
theorem chk_obj {b : Bool} {n : Int} {t : ByteArray} {ns : List ByteArray} {vs : List JB} {d : Nat} (h : chkB (.mk 6 b n t ns vs) d = 0) : b = false ∧ n = 0 ∧ t = ⟨#[]⟩ ∧ ns.Nodup := by
  simp only [chkB] at h
  split at h
  · rename_i ha
    unfold aloneB at ha
    split at ha
    · cases ha
    rename_i hp
    have hp := Classical.not_not.1 hp
    split at ha
    · cases ha
    split at ha
    · cases ha
    split at ha
    · cases ha
    have hh : b = false ∧ n = 0 ∧ t.size = 0 := by
      rcases hp with h | h | h | h | h | h | h
      all_goals first
        | exact ⟨h.2.2.1, h.2.2.2.1, h.2.2.2.2⟩
        | (have := h.1; omega)
    refine ⟨hh.1, hh.2.1, ?_, ((nmsE_zero ns []).1 ha).2.1⟩
    have ht := hh.2.2
    cases t with
    | mk data => rw [show data = #[] from Array.eq_empty_of_size_eq_zero ht]
  · omega
inductive DPuI (ns : List ByteArray) (name : ByteArray) (w : World) (t1 t2 : Value) (wr : World) : Prop where
  | intro (i : Nat) (J : Int) (hi : i ≤ ns.length) (h1 : t1 = .int .i64 J) (h2 : t2 = .int .i64 (i : Int)) (hJ : ((∀ j, j < i → ns.getD j ByteArray.empty ≠ name) ∧ J = -1) ∨ ∃ j, j < i ∧ ns.getD j ByteArray.empty = name ∧ J = (j : Int)) (hb : Below w.heap.size w wr)
theorem last_idx {ns : List ByteArray} {name : ByteArray} {J : Int} (hn : ns.Nodup) (h : ((∀ j, j < ns.length → ns.getD j ByteArray.empty ≠ name) ∧ J = -1) ∨ ∃ j, j < ns.length ∧ ns.getD j ByteArray.empty = name ∧ J = (j : Int)) :
    (J = -1 ∧ ¬ 0 ≤ Lib.idxOfS ns name) ∨ ∃ j, j < ns.length ∧ J = (j : Int) ∧ Lib.idxOfS ns name = (j : Int) := by
  rcases h with ⟨h, hJ⟩ | ⟨j, hj, he, hJ⟩
  · refine .inl ⟨hJ, fun h0 => ?_⟩
    obtain ⟨k, hk, _, hx, _⟩ := idx_at h0
    exact h k hk hx
  · refine .inr ⟨j, hj, hJ, idx_is hj he fun i hi e => ?_⟩
    have hi' : i < ns.length := by omega
    rw [List.getD_eq_getElem?_getD, List.getElem?_eq_getElem hi', Option.getD_some] at e
    rw [List.getD_eq_getElem?_getD, List.getElem?_eq_getElem hj, Option.getD_some] at he
    exact absurd (e.trans he.symm) (List.pairwise_iff_getElem.1 hn i j hi' hj hi)
set_option maxHeartbeats 8000000 in
set_option maxRecDepth 8000 in
theorem dPut_any (A : Array Value) (v : JB) (Z : Nat → Prop) (name : ByteArray) (B : Array Value) (x : JB) (ZB : Nat → Prop) (w : World) (hJ : JIn w Z A v) (hx : JIn w ZB B x) :
    Calls Tryd.prog 29 #[.agg A, .string name, .agg B] w fun e w' => DPutP (putK v.kind v name (withB v.names v.items name x)) (withB v.names v.items name x) w e w' := by
  obtain ⟨k2, b2, m2, t2, nq2, nl2, nc2, iq2, il2, ic2, hB⟩ := jin_form hx
  have hv := hJ
  cases hJ with
  | mk k b m t ns vs nq iq nc ic F hk hn' hnc hic hnm him hnq hiq hN hI hR =>
    subst hB
    have HV : Hid (JIn w Z (jA k b m t nq ns.length nc iq vs.length ic) (.mk k b m t ns vs)) := hv
    have HX : Hid (JIn w ZB (jA k2 b2 m2 t2 nq2 nl2 nc2 iq2 il2 ic2) x) := hx
    have hb0 := below_new w (.cells (jA k b m t nq ns.length nc iq vs.length ic) 25)
    have hn0 := _root_.Go.heap_alloc_new w (.cells (jA k b m t nq ns.length nc iq vs.length ic) 25)
    obtain ⟨W1, hW1⟩ : ∃ x, w.alloc (.cells (jA k b m t nq ns.length nc iq vs.length ic) 25) = x := ⟨_, rfl⟩
    have hz1 : W1.heap.size = w.heap.size + 1 := by rw [← hW1, World.size_alloc]
    rw [hW1] at hb0 hn0
    have hb1 := below_new W1 (.cells (jA k2 b2 m2 t2 nq2 nl2 nc2 iq2 il2 ic2) 25)
    have hn1 := _root_.Go.heap_alloc_new W1 (.cells (jA k2 b2 m2 t2 nq2 nl2 nc2 iq2 il2 ic2) 25)
    obtain ⟨W2, hW2⟩ : ∃ x, W1.alloc (.cells (jA k2 b2 m2 t2 nq2 nl2 nc2 iq2 il2 ic2) 25) = x := ⟨_, rfl⟩
    have hz2 : W2.heap.size = w.heap.size + 2 := by rw [← hW2, World.size_alloc, hz1]
    rw [hW2] at hb1 hn1
    have hb2 := below_new W2 (.cells zeroA 25)
    have hn2 := _root_.Go.heap_alloc_new W2 (.cells zeroA 25)
    obtain ⟨W3, hW3⟩ : ∃ x, W2.alloc (.cells zeroA 25) = x := ⟨_, rfl⟩
    rw [hW3] at hb2 hn2
    rw [hz1] at hn1
    rw [hz2] at hn2
    have x0 := box_below (box_below hn0 hb1) hb2
    have x1 := box_below hn1 hb2
    have bb := below_more hb0 (below_more hb1 hb2)
    have CK := dCheck_any _ _ Z W3 (hv.bel bb)
    have HB : Hid (∀ w', Below W3.heap.size W3 w' → w'.heap[w.heap.size]? = some (.cells (jA k b m t nq ns.length nc iq vs.length ic) 25 (0, 0)) ∧ w'.heap[w.heap.size + 1]? = some (.cells (jA k2 b2 m2 t2 nq2 nl2 nc2 iq2 il2 ic2) 25 (0, 0)) ∧ w'.heap[w.heap.size + 2]? = some (.cells zeroA 25 (0, 0)) ∧ Below w.heap.size w w') := fun w' hb => ⟨box_below x0 hb, box_below x1 hb, box_below hn2 hb, below_more bb hb⟩
    obtain ⟨⟨r0, r1, r2, r3, r4, r5⟩, _, _, _, _, _, _⟩ := row6_cells x0
    simp only [JB.kind, JB.names, JB.items]
    obtain ⟨y, hy⟩ : ∃ y, withB ns vs name x = y := ⟨_, rfl⟩
    obtain ⟨C, hC⟩ : ∃ C, chkB (.mk k b m t ns vs) 1 = C := ⟨_, rfl⟩
    obtain ⟨X, hX⟩ : ∃ X, isTx name = X := ⟨_, rfl⟩
    obtain ⟨E, hE⟩ : ∃ E, putK k (.mk k b m t ns vs) name y = E := ⟨_, rfl⟩
    have HC : Hid (chkB (.mk k b m t ns vs) 1 = C ∧ withB ns vs name x = y ∧ isTx name = X) := ⟨hC, hy, hX⟩
    have HP : Hid (E = if C = 0 then (if k = 6 then (if X = true then chkB y 1 else 3) else 8) else C) := by unfold putK at hE; rw [hC, hX] at hE; exact hE.symm
    rw [hC] at CK
    rw [hy, hE]
    unfold zeroA at hW3 HB
    unfold jA at hW1 hW2 HB CK ⊢
    have HW : Hid (w.alloc _ = W1 ∧ W1.alloc _ = W2 ∧ W2.alloc _ = W3 ∧ W1.heap.size = w.heap.size + 1 ∧ W2.heap.size = w.heap.size + 2) := ⟨hW1, hW2, hW3, hz1, hz2⟩
    clear hW1 hW2 hW3 hb0 hn0 hb1 hn1 hb2 hn2 x0 x1 bb hz1 hz2 hv hx hk hn' hnc hic hnm him hnq hiq hN hI hR hC hy hX hE
    go_enter Tryd.func29, Tryd.ntmps29
    go_upto_region 1 with fail
    rw [HW.out.1, HW.out.2.1, HW.out.2.2.1]
    simp only [show w.heap.size + 1 + 1 = w.heap.size + 2 from rfl]
    go_wp2_with fail
    refine CK.mono ?_
    rintro e w1 ⟨rfl, bl1⟩
    have G := HB.out w1 bl1
    have HG : Hid (w1.heap[w.heap.size + 2]? = some (.cells #[.int .u8 0, .bool false, .int .i64 0, .string ⟨#[]⟩, .slice none 0 0, .slice none 0 0] 25 (0, 0)) ∧ Below w.heap.size w w1) := ⟨G.2.2.1, G.2.2.2⟩
    clear CK r0 r1 r2 r3 r4 r5
    obtain ⟨⟨r0, r1, r2, r3, r4, r5⟩, _, _, _, _, _, _⟩ := row6_cells G.1
    obtain ⟨⟨x0, x1, x2, x3, x4, x5⟩, y0, y1, y2, y3, y4, y5⟩ := row6_cells G.2.2.1
    simp only []
    by_cases h0 : C = 0
    · subst h0
      by_cases h6 : k = 6
      · subst h6
        obtain ⟨rfl, rfl, rfl, hnd⟩ := chk_obj HC.out.1
        have HS : Hid (ns.length = vs.length ∧ vs.length ≤ 1024 ∧ ns.Nodup) := ⟨(chk_six HC.out.1).1, (chk_six HC.out.1).2, hnd⟩
        have FO := dFormed_any name w1
        rw [HC.out.2.2] at FO
        simp only [show (((0 : Nat) : Int)) = 0 from rfl, show (((6 : Nat) : Int)) = 6 from rfl] at r0 HB ⊢
        cases X with
        | false =>
          have HE : Hid (E = 3) := by show E = 3; rw [HP.out, if_pos rfl, if_pos rfl]; rfl
          clear x0 x1 x2 x3 x4 x5 y0 y1 y2 y3 y4 y5 G hnd
          go_wp2_with fail
          refine FO.mono ?_
          rintro e w2 ⟨rfl, bl2⟩
          have G2 := HB.out w2 (below_more bl1 bl2)
          have HG2 : Hid (w2.heap[w.heap.size + 2]? = some (.cells #[.int .u8 0, .bool false, .int .i64 0, .string ⟨#[]⟩, .slice none 0 0, .slice none 0 0] 25 (0, 0)) ∧ Below w.heap.size w w2) := ⟨G2.2.2.1, G2.2.2.2⟩
          obtain ⟨⟨x0, x1, x2, x3, x4, x5⟩, y0, y1, y2, y3, y4, y5⟩ := row6_cells G2.2.2.1
          clear FO G2 bl2 bl1
          simp only []
          go_wp2_with fail
          refine bodyPost_ret (results_cell_row2 rfl _ _ _ (w.heap.size + 2) 25 zeroA (0, 0) _ rfl (set6_heap' HG2.out.1 _ _ _ _ _ _) rfl Tryd.underlying25 size_json) rfl ?_
          rw [HE.out]
          exact dput_zero (by decide) HG2.out.2
        | true =>
          have HE : Hid (E = chkB y 1) := by show E = chkB y 1; rw [HP.out, if_pos rfl, if_pos rfl, if_pos rfl]
          clear x0 x1 x2 x3 x4 x5 y0 y1 y2 y3 y4 y5 G hnd
          go_wp2_with fail
          refine FO.mono ?_
          rintro e w2 ⟨rfl, bl2⟩
          have G2 := HB.out w2 (below_more bl1 bl2)
          clear FO r0 r1 r2 r3 r4 r5
          obtain ⟨⟨r0, r1, r2, r3, r4, r5⟩, _, _, _, _, _, _⟩ := row6_cells G2.1
          have TW := dTwin_own (chk_few _ 1 HC.out.1) _ Z w2 (HV.out.bel G2.2.2.2)
          unfold jA at TW
          simp only [show (((6 : Nat) : Int)) = 6 from rfl] at TW
          have HG2 : Hid (w2.heap[w.heap.size + 1]? = some (.cells #[.int .u8 (k2 : Int), .bool b2, .int .i64 m2, .string t2, .slice nq2 nl2 nc2, .slice iq2 il2 ic2] 25 (0, 0)) ∧ w2.heap[w.heap.size + 2]? = some (.cells #[.int .u8 0, .bool false, .int .i64 0, .string ⟨#[]⟩, .slice none 0 0, .slice none 0 0] 25 (0, 0)) ∧ Below w.heap.size w w2) := ⟨G2.2.1, G2.2.2.1, G2.2.2.2⟩
          clear G2 bl1 bl2 HG HB HW
          simp only []
          go_wp2_with fail
          refine TW.mono ?_
          rintro e w3 ⟨q1, m1, q, m, As, rfl, _, hb3, hN3, hI3, hJ3, hne3⟩
          have OM := OutM.start HG2.out.2.2 HG2.out.1 HG2.out.2.1 hb3 hN3 hI3 hJ3 hne3
          clear TW hb3 hN3 hI3 hJ3 hne3 r0 r1 r2 r3 r4 r5
          unfold jA at OM ⊢
          simp only [show (((6 : Nat) : Int)) = 6 from rfl] at OM ⊢
          go_upto_region 9 with fail
          generalize w3.alloc (.cells #[.int .u8 6, .bool false, .int .i64 0, .string ⟨#[]⟩, .slice q1 ns.length m1, .slice q vs.length m] 25) = W4 at OM ⊢
          generalize w3.heap.size = b0 at OM ⊢
          generalize w2.heap.size = base at OM
          have HO : Hid (OutM b0 base (.cells #[.int .u8 (k2 : Int), .bool b2, .int .i64 m2, .string t2, .slice nq2 nl2 nc2, .slice iq2 il2 ic2] 25 (0, 0)) (.cells #[.int .u8 0, .bool false, .int .i64 0, .string ⟨#[]⟩, .slice none 0 0, .slice none 0 0] 25 (0, 0)) w As vs ns (.slice q1 ns.length m1) (.slice q vs.length m) W4) := OM
          clear OM HG2
          go_wp2_with fail
          go_loopw [10, 11] (fun t1 t2 wr => DPuI ns name W4 t1 t2 wr) (fun _ t2 _ => ns.length - (intOf t2).toNat)
          case atStart => exact ⟨0, -1, Nat.zero_le _, rfl, rfl, .inl ⟨(fun j hj => absurd hj (Nat.not_lt_zero _)), rfl⟩, Below.refl _ _⟩
          case round =>
            obtain ⟨i, J, hi, rfl, rfl, hJ, hb⟩ := hrel
            have OM := HO.out.more hb
            obtain ⟨⟨r0, r1, r2, r3, r4, r5⟩, _, _, _, _, _, _⟩ := row6_cells OM.ob
            have hi0 : (0 : Int) ≤ (i : Int) := by omega
            have hNm : (ns.length : Int) ≤ 1024 := by have := HS.out; omega
            by_cases hlt : i < ns.length
            · have hiI : (i : Int) < (ns.length : Int) := by omega
              obtain ⟨ab, ao, e1⟩ := OM.nm.ss.addr (by omega)
              subst e1
              have y1 := OM.nm.ss.at hlt
              obtain ⟨u, hu⟩ : ∃ u, ns.getD i ByteArray.empty = u := ⟨_, rfl⟩
              rw [hu] at y1
              by_cases hun : u = name
              · have e3 : (u.toList == name.toList) = true := (Lib.bytes_beq_iff _ _).2 hun
                have HQ : Hid (DPuI ns name W4 (.int .i64 (i : Int)) (.int .i64 ((i + 1 : Nat) : Int)) wr ∧ i < ns.length) := ⟨⟨i + 1, i, hlt, rfl, rfl, .inr ⟨i, Nat.lt_succ_self _, by rw [hu]; exact hun, rfl⟩, hb⟩, hlt⟩
                clear OM hJ hb hi hlt hu hun
                go_wp2_with fail
                go_roundw
                case rel => exact HQ.out.1
                case measure => have := HQ.out.2; simp [intOf]; omega
              · have e3 : (u.toList == name.toList) = false := (Lib.bytes_beq_false_iff _ _).2 hun
                have HQ : Hid (DPuI ns name W4 (.int .i64 J) (.int .i64 ((i + 1 : Nat) : Int)) wr ∧ i < ns.length) := by
                  refine ⟨⟨i + 1, J, hlt, rfl, rfl, ?_, hb⟩, hlt⟩
                  rcases hJ with ⟨h, e⟩ | ⟨j, hj, h, e⟩
                  · refine .inl ⟨fun j hj => ?_, e⟩
                    by_cases hji : j = i
                    · rw [hji, hu]; exact hun
                    · exact h j (by omega)
                  · exact .inr ⟨j, by omega, h, e⟩
                clear OM hJ hb hi hlt hu hun
                go_wp2_with fail
                go_roundw
                case rel => exact HQ.out.1
                case measure => have := HQ.out.2; simp [intOf]; omega
            · obtain rfl : i = ns.length := by omega
              have HJ := last_idx HS.out.2.2 hJ
              have HM : Hid (OutM b0 base (.cells #[.int .u8 (k2 : Int), .bool b2, .int .i64 m2, .string t2, .slice nq2 nl2 nc2, .slice iq2 il2 ic2] 25 (0, 0)) (.cells #[.int .u8 0, .bool false, .int .i64 0, .string ⟨#[]⟩, .slice none 0 0, .slice none 0 0] 25 (0, 0)) w As vs ns (.slice q1 ns.length m1) (.slice q vs.length m) wr) := OM
              obtain ⟨⟨s0, s1, s2, s3, s4, s5⟩, _, _, _, _, _, _⟩ := row6_cells OM.xb
              clear HO OM hJ hb hi hlt
              go_upto_if 44 with fail
              go_cut [] from 12 (fun wc => ∃ (p1 : Option Addr) (l1 d1 : Nat) (p2 : Option Addr) (l2 d2 : Nat), Below w.heap.size w wc ∧ wc.heap[w.heap.size + 2]? = some (.cells #[.int .u8 0, .bool false, .int .i64 0, .string ⟨#[]⟩, .slice none 0 0, .slice none 0 0] 25 (0, 0)) ∧
                wc.heap[b0]? = some (.cells #[.int .u8 6, .bool false, .int .i64 0, .string ⟨#[]⟩, .slice p1 l1 d1, .slice p2 l2 d2] 25 (0, 0)) ∧ JIn wc (fun j => j ≠ w.heap.size + 2) (jA 6 false 0 ⟨#[]⟩ p1 l1 d1 p2 l2 d2) y)
              case first =>
                rcases HJ with ⟨rfl, hno⟩ | ⟨j, hj, rfl, hid⟩
                · have HY : Hid (y = .mk 6 false 0 ⟨#[]⟩ (ns ++ [name]) (vs ++ [x])) := by
                    show y = _
                    rw [← HC.out.2.1]
                    unfold withB
                    rw [if_neg hno]
                  obtain ⟨i0, hi0, hz0, hz1, hz2⟩ := info_parts' info_json
                  obtain ⟨i1, hi1, hy0, hy1, hy2⟩ := info_parts' info_str
                  clear hno s0 s1 s2 s3 s4 s5
                  go_wp2_with (at_builtin; refine wpList_append_lies _ rfl (.tmp 51) (.tmp 53) 22 rfl base 9 i1 _ 1 16 Tryd.underlying22 hi1 hy0 hy1 hy2 rfl (by decide) (.slice q1 ns.length m1) ns.length (ns.map Value.string) rfl (HM.out.more (below_new wr _)).nm ⟨wr.heap.size, 0, none⟩ 1 1 [.string name] rfl rfl (news_str _ (blk_new wr _)) (by intro u hu; rw [List.mem_singleton] at hu; rw [hu]; rfl) (by omega) (by have := HS.out; unfold maxLen; omega) (by have := HS.out; omega) (HM.out.more (below_new wr _)).sz _ rfl ?_)
                  intro g1 cap1 w5 ho1 hg1 he1 hl1
                  have M5 := HM.out.name (below_new wr _) ho1 hg1 (by rw [World.size_alloc]; exact he1)
                  have ob5 := box_at hg1 (HM.out.more (below_new wr _)).ob (fun e => HM.out.nb e.symm)
                  have HM5 : Hid (OutM b0 base (.cells #[.int .u8 (k2 : Int), .bool b2, .int .i64 m2, .string t2, .slice nq2 nl2 nc2, .slice iq2 il2 ic2] 25 (0, 0)) (.cells #[.int .u8 0, .bool false, .int .i64 0, .string ⟨#[]⟩, .slice none 0 0, .slice none 0 0] 25 (0, 0)) w As vs (ns ++ [name]) (.slice (some ⟨g1, 0, none⟩) (ns.length + 1) cap1) (.slice q vs.length m) (w5.setCell ⟨b0, 4, none⟩ (.slice (some ⟨g1, 0, none⟩) (ns.length + 1) cap1))) := M5
                  have e5 := (row6_cells ob5).1.2.2.2.2.1
                  have f5 := frozen_of_row w5 b0 4 _ _ ob5
                  clear M5 ob5 ho1 hg1 he1 hl1 r0 r1 r2 r3 r4 r5
                  go_upto_region 18 with fail
                  have M6 := HM5.out
                  clear HM5 e5 f5
                  generalize w5.setCell ⟨b0, 4, none⟩ (.slice (some ⟨g1, 0, none⟩) (ns.length + 1) cap1) = w6 at M6 ⊢
                  obtain ⟨⟨s0, s1, s2, s3, s4, s5⟩, _, _, _, _, _, _⟩ := row6_cells M6.xb
                  obtain ⟨⟨r0, r1, r2, r3, r4, r5⟩, _, _, _, _, _, _⟩ := row6_cells M6.ob
                  have HM6 : Hid (OutM b0 base (.cells #[.int .u8 (k2 : Int), .bool b2, .int .i64 m2, .string t2, .slice nq2 nl2 nc2, .slice iq2 il2 ic2] 25 (0, 0)) (.cells #[.int .u8 0, .bool false, .int .i64 0, .string ⟨#[]⟩, .slice none 0 0, .slice none 0 0] 25 (0, 0)) w As vs (ns ++ [name]) (.slice (some ⟨g1, 0, none⟩) (ns.length + 1) cap1) (.slice q vs.length m) w6 ∧ As.length = vs.length) := ⟨M6, M6.its.1⟩
                  have HOW : Hid (w6.ownsRow base 25 6 (.slice q vs.length m) vs.length (cellsA As)) := by
                    have := M6.it.own
                    rw [M6.its.1] at this
                    exact this
                  clear M6
                  go_wp2_with (at_builtin; refine wpList_append_lies _ rfl (.tmp 57) (.tmp 59) 23 rfl base 25 i0 _ 6 80 Tryd.underlying23 hi0 hz0 hz1 hz2 rfl (by decide) (.slice q vs.length m) vs.length (cellsA As) rfl (World.ownsRow.kept HOW.out (grown_below (below_new w6 _) none) (by cases q <;> simp [Value.ownBlock])) ⟨w6.heap.size, 0, none⟩ 1 1 [.int .u8 (k2 : Int), .bool b2, .int .i64 m2, .string t2, .slice nq2 nl2 nc2, .slice iq2 il2 ic2] rfl rfl (news_js _ (blk_new w6 _)) (jin_one HX.out) (by omega) (by have := HS.out; unfold maxLen; omega) (by have := HS.out; omega) (HM6.out.1.more (below_new w6 _)).sz _ rfl ?_)
                  intro g2 cap2 w7 ho2 hg2 he2 hl2
                  have M7 := HM6.out.1.item (A := jA k2 b2 m2 t2 nq2 nl2 nc2 iq2 il2 ic2) (gg := g2) (cap := cap2) HX.out (below_new w6 _) (by rw [HM6.out.2]; exact ho2) hg2 (by rw [World.size_alloc]; exact he2)
                  rw [HM6.out.2] at M7
                  have ob7 := box_at hg2 (HM6.out.1.more (below_new w6 _)).ob (fun e => HM6.out.1.ib e.symm)
                  have HM7 : Hid _ := M7
                  have e7 := (row6_cells ob7).1.2.2.2.2.2
                  have f7 := frozen_of_row w7 b0 5 _ _ ob7
                  clear M7 ob7 ho2 hg2 he2 hl2 r0 r1 r2 r3 r4 r5 s0 s1 s2 s3 s4 s5
                  go_wp2
                  go_meet
                  case rel =>
                    have M := HM7.out
                    have hn1 : ns.length + 1 = (ns ++ [name]).length := by simp
                    have hv1 : vs.length + 1 = (vs ++ [x]).length := by simp
                    refine ⟨_, _, _, _, _, _, M.bel, M.res, M.ob, ?_⟩
                    rw [HY.out]
                    rw [hn1, hv1] at M ⊢
                    exact M.jin
                · have hjv : j < vs.length := by have := HS.out.1; omega
                  have HY : Hid (y = .mk 6 false 0 ⟨#[]⟩ ns (vs.set j x)) := by
                    show y = _
                    rw [← HC.out.2.1]
                    unfold withB
                    rw [hid, if_pos (Int.natCast_nonneg j), Int.toNat_natCast]
                  obtain ⟨g2, hg2⟩ : ∃ g, q = some ⟨g, 0, none⟩ := by
                    rcases HM.out.it.own.2 with ⟨hv, hn⟩ | ⟨g, cap, cur, hv, _⟩
                    · have := HM.out.its.1; omega
                    · simp only [Value.slice.injEq] at hv; exact ⟨g, hv.1⟩
                  subst hg2
                  have ht : wr.there g2 (j * 6) 6 := fun i hi => by
                    have ho := HM.out.it.own
                    rw [HM.out.its.1] at ho
                    refine ⟨?_, ho.frozenAt _⟩
                    rw [ho.cellAt _ (by omega), List.getElem?_eq_getElem (by rw [ho.1]; omega)]
                    rfl
                  have hv : ∀ i, i < 6 → ∃ u, wr.cell? ⟨g2, j * 6 + i, none⟩ = some u := fun i hi => Option.isSome_iff_exists.1 (ht i hi).1
                  obtain ⟨u0, d0⟩ := hv 0 (by omega)
                  obtain ⟨u1, d1⟩ := hv 1 (by omega)
                  obtain ⟨u2, d2⟩ := hv 2 (by omega)
                  obtain ⟨u3, d3⟩ := hv 3 (by omega)
                  obtain ⟨u4, d4⟩ := hv 4 (by omega)
                  obtain ⟨u5, d5⟩ := hv 5 (by omega)
                  have f0 := (ht 0 (by omega)).2
                  have f1 := (ht 1 (by omega)).2
                  have f2 := (ht 2 (by omega)).2
                  have f3 := (ht 3 (by omega)).2
                  have f4 := (ht 4 (by omega)).2
                  have f5 := (ht 5 (by omega)).2
                  rw [Nat.add_zero] at d0 f0
                  have hj1 : (j : Int) < (vs.length : Int) := by omega
                  have hj0 : (0 : Int) ≤ (j : Int) := by omega
                  have HJV : Hid (j < vs.length) := hjv
                  clear hv ht hid hj hjv
                  go_wp2_with fail
                  go_meet
                  case rel =>
                    obtain ⟨J4, b4, hne, hnb, _⟩ := HM.out.set HX.out HJV.out
                    show ∃ (p1 : Option Addr) (l1 d1 : Nat) (p2 : Option Addr) (l2 d2 : Nat), Below w.heap.size w (wr.setCells g2 (j * 6) (jA k2 b2 m2 t2 nq2 nl2 nc2 iq2 il2 ic2).toList) ∧ (wr.setCells g2 (j * 6) (jA k2 b2 m2 t2 nq2 nl2 nc2 iq2 il2 ic2).toList).heap[w.heap.size + 2]? = some (.cells #[.int .u8 0, .bool false, .int .i64 0, .string ⟨#[]⟩, .slice none 0 0, .slice none 0 0] 25 (0, 0)) ∧
                      (wr.setCells g2 (j * 6) (jA k2 b2 m2 t2 nq2 nl2 nc2 iq2 il2 ic2).toList).heap[b0]? = some (.cells #[.int .u8 6, .bool false, .int .i64 0, .string ⟨#[]⟩, .slice p1 l1 d1, .slice p2 l2 d2] 25 (0, 0)) ∧ JIn (wr.setCells g2 (j * 6) (jA k2 b2 m2 t2 nq2 nl2 nc2 iq2 il2 ic2).toList) (fun j => j ≠ w.heap.size + 2) (jA 6 false 0 ⟨#[]⟩ p1 l1 d1 p2 l2 d2) y
                    rw [HY.out]
                    exact ⟨_, _, _, _, _, _, b4, (heap_setCells_ne g2 (w.heap.size + 2) (fun e => hne e.symm) _ _ wr).trans HM.out.res, (heap_setCells_ne g2 b0 (fun e => hnb e.symm) _ _ wr).trans HM.out.ob, J4⟩
              case rest =>
              obtain ⟨p1, l1, d1, p2, l2, d2, h1, h2, h3, h4⟩ := hcut
              have CY := dCheck_any _ y _ wc h4
              obtain ⟨⟨r0, r1, r2, r3, r4, r5⟩, _, _, _, _, _, _⟩ := row6_cells h3
              have HT : Hid (Below w.heap.size w wc ∧ wc.heap[w.heap.size + 2]? = some (.cells #[.int .u8 0, .bool false, .int .i64 0, .string ⟨#[]⟩, .slice none 0 0, .slice none 0 0] 25 (0, 0)) ∧ wc.heap[b0]? = some (.cells #[.int .u8 6, .bool false, .int .i64 0, .string ⟨#[]⟩, .slice p1 l1 d1, .slice p2 l2 d2] 25 (0, 0)) ∧ JIn wc (fun j => j ≠ w.heap.size + 2) (jA 6 false 0 ⟨#[]⟩ p1 l1 d1 p2 l2 d2) y) := ⟨h1, h2, h3, h4⟩
              unfold jA at CY
              simp only [show (((6 : Nat) : Int)) = 6 from rfl] at CY
              clear h1 h2 h3 h4 s0 s1 s2 s3 s4 s5
              obtain ⟨D, hD⟩ : ∃ D, chkB y 1 = D := ⟨_, rfl⟩
              rw [hD] at CY HE
              clear hD
              go_wp2_with fail
              refine CY.mono ?_
              rintro e w6 ⟨rfl, b6⟩
              have HK : Hid (Below w.heap.size w w6 ∧ w6.heap[w.heap.size + 2]? = some (.cells #[.int .u8 0, .bool false, .int .i64 0, .string ⟨#[]⟩, .slice none 0 0, .slice none 0 0] 25 (0, 0)) ∧ JIn w6 (fun j => j ≠ w.heap.size + 2) (jA 6 false 0 ⟨#[]⟩ p1 l1 d1 p2 l2 d2) y) := ⟨below_more HT.out.1 b6, box_below HT.out.2.1 b6, HT.out.2.2.2.bel b6⟩
              have o6 := box_below HT.out.2.2.1 b6
              clear CY r0 r1 r2 r3 r4 r5 b6
              obtain ⟨⟨r0, r1, r2, r3, r4, r5⟩, _, _, _, _, _, _⟩ := row6_cells o6
              obtain ⟨⟨x0, x1, x2, x3, x4, x5⟩, y0, y1, y2, y3, y4, y5⟩ := row6_cells HK.out.2.1
              clear o6
              simp only []
              by_cases hd : D = 0
              · subst hd
                simp only [show (((0 : Nat) : Int)) = 0 from rfl]
                go_wp2_with fail
                refine bodyPost_ret (results_cell_row2 rfl _ _ _ (w.heap.size + 2) 25 (jA 6 false 0 ⟨#[]⟩ p1 l1 d1 p2 l2 d2) (0, 0) _ rfl (set6_heap' HK.out.2.1 _ _ _ _ _ _) rfl Tryd.underlying25 size_json) rfl ?_
                rw [HE.out]
                exact dput_end HK.out.2.2 HK.out.1
              · have hc : ((D : Int) != 0) = true := by simpa using fun e : (D : Int) = 0 => hd (by omega)
                have HD : Hid (D ≠ 0) := hd
                clear hd
                go_wp2_with fail
                refine bodyPost_ret (results_cell_row2 rfl _ _ _ (w.heap.size + 2) 25 zeroA (0, 0) _ rfl (set6_heap' HK.out.2.1 _ _ _ _ _ _) rfl Tryd.underlying25 size_json) rfl ?_
                rw [HE.out]
                exact dput_zero HD.out HK.out.1
      · have k6 : ((k : Int) != 6) = true := by simpa using fun e : (k : Int) = 6 => h6 (by omega)
        have HE : Hid (E = 8) := by show E = 8; rw [HP.out, if_pos rfl, if_neg h6]
        clear h6 G bl1
        simp only [show (((0 : Nat) : Int)) = 0 from rfl]
        go_wp2_with fail
        refine bodyPost_ret (results_cell_row2 rfl _ _ _ (w.heap.size + 2) 25 zeroA (0, 0) _ rfl (set6_heap' HG.out.1 _ _ _ _ _ _) rfl Tryd.underlying25 size_json) rfl ?_
        rw [HE.out]
        exact dput_zero (by decide) HG.out.2
    · have hc : ((C : Int) != 0) = true := by simpa using fun e : (C : Int) = 0 => h0 (by omega)
      have HE : Hid (E = C ∧ C ≠ 0) := ⟨by rw [HP.out, if_neg h0], h0⟩
      clear h0 G bl1
      go_wp2_with fail
      refine bodyPost_ret (results_cell_row2 rfl _ _ _ (w.heap.size + 2) 25 zeroA (0, 0) _ rfl (set6_heap' HG.out.1 _ _ _ _ _ _) rfl Tryd.underlying25 size_json) rfl ?_
      rw [HE.out.1]
      exact dput_zero HE.out.2 HG.out.2
end Go.Proofs.YtcfalgomcdmdhaaDoor
