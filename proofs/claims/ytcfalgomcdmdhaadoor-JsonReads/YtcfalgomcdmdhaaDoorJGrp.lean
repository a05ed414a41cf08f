/-
  The reader: lists and objects: an item more, a name more, and the end.
-/
import Derived.Test.YtcfalgomcdmdhaaDoorJLst
namespace Go.Proofs.YtcfalgomcdmdhaaDoor
open Go.RowKit Go.WideShapes Go.Joins

/-- What lies in memory between two steps of a list's or an object's reading. -/
structure GrpM (obj : Bool) (b pr pv : Nat) (w : World) (σ : RS) (As : List (Array Value)) (Js : List JB) (ss : List ByteArray) (nv iv : Value) (wr : World) : Prop where
  r : RIn wr b σ
  env : Env wr b pr pv
  g : w.grownBy wr (some b)
  box : wr.heap[w.heap.size]? = some (.cells #[.int .u8 (kindG obj : Int), .bool false, .int .i64 0, .string ⟨#[]⟩, nv, iv] 25 (0, 0))
  nm : NmOwn wr (w.heap.size + 1) nv ss
  it : ItOwn wr (w.heap.size + 1) iv As
  its : ItsIn wr (fun k => w.heap.size < k ∧ some k ≠ nv.ownBlock ∧ some k ≠ iv.ownBlock) As Js
  ne : nv.ownBlock = none ∨ nv.ownBlock ≠ iv.ownBlock
variable {F : Nat} {f : J.Rd J.JV} {obj : Bool} {T : RS × Option (List (List Nat) × List J.JV)} {b pr pv : Nat} {w : World} {σ σ2 : RS} {As : List (Array Value)} {Js : List JB} {ss : List ByteArray} {nv iv : Value}
theorem GrpI.m {wr : World} (h : GrpI F f obj T b pr pv w σ As Js ss nv iv wr) : GrpM obj b pr pv w σ As Js ss nv iv wr := ⟨h.r, h.env, h.g, h.box, h.nm, h.it, h.its, h.ne⟩
theorem GrpM.i {wr : World} (h : GrpM obj b pr pv w σ As Js ss nv iv wr) (t : goR (loopR F f obj (F + 1 - Js.length) (ss.map numsOf) (toJs Js)) σ = T) (n : Js.length ≤ 1024) (s : ss.length = if obj then Js.length else 0) :
    GrpI F f obj T b pr pv w σ As Js ss nv iv wr := ⟨h.r, h.env, h.g, h.box, h.nm, h.it, h.its, h.ne, t, n, s⟩
theorem GrpM.own {wr : World} (h : GrpM obj b pr pv w σ As Js ss nv iv wr) : (∀ k, nv.ownBlock = some k → w.heap.size < k ∧ k < wr.heap.size) ∧ (∀ k, iv.ownBlock = some k → w.heap.size < k ∧ k < wr.heap.size) :=
  ⟨fun k hk => by have := own_ge h.nm hk; omega, fun k hk => by have := own_ge h.it.own hk; omega⟩
theorem GrpM.sz {wr : World} (h : GrpM obj b pr pv w σ As Js ss nv iv wr) : w.heap.size < wr.heap.size := by
  rcases Nat.lt_or_ge w.heap.size wr.heap.size with h' | h'
  · exact h'
  · have := h.box
    rw [Array.getElem?_eq_none h'] at this; cases this
/-- pr and pv lie ahead of the box -/
structure Ahd (b pr pv : Nat) (w : World) : Prop where
  b : b < w.heap.size
  r : pr < w.heap.size
  v : pv < w.heap.size
/-- a box that stays -/
theorem box_at {w w' : World} {row : Option Nat} {g : Nat} {o : Obj} (hg : w.grownBy w' row) (h : w.heap[g]? = some o) (hne : some g ≠ row) : w'.heap[g]? = some o := by
  have hlt : g < w.heap.size := by
    rcases Nat.lt_or_ge g w.heap.size with h' | h'
    · exact h'
    · rw [Array.getElem?_eq_none h'] at h; cases h
  rw [hg.block g hlt hne]; exact h
/-- the reader alone goes on -/
theorem GrpM.goes {wr w' : World} (h : GrpM obj b pr pv w σ As Js ss nv iv wr) (hb : b < w.heap.size) (hr : RIn w' b σ2) (hg : wr.grownBy w' (some b)) : GrpM obj b pr pv w σ2 As Js ss nv iv w' := by
  have h8 := h.env.h8
  have hlt := h.r.lt
  have hn : ∀ {v : Value}, (∀ k, v.ownBlock = some k → w.heap.size < k ∧ k < wr.heap.size) → v.ownBlock = none ∨ v.ownBlock ≠ some b := by
    intro v hv
    refine .inr fun he => ?_
    have := (hv b he).1
    omega
  exact ⟨hr, h.env.grown hg (by omega), grown_trans h.g hg, box_grown h.box hg (by omega), h.nm.kept hg (hn h.own.1), h.it.kept hg (hn h.own.2), h.its.kept hg (fun k hk he => by cases he; omega), h.ne⟩
/-- new blocks alone -/
theorem GrpM.more {wr w' : World} (h : GrpM obj b pr pv w σ As Js ss nv iv wr) (hb : b < w.heap.size) (hg : Below wr.heap.size wr w') : GrpM obj b pr pv w σ As Js ss nv iv w' :=
  h.goes hb (h.r.below hg) (grown_below hg _)
/-- an item more -/
theorem GrpM.item {w2 w3 w4 : World} {A : Array Value} {x : JB} {N1 gg cap : Nat} (h : GrpM obj b pr pv w σ As Js ss nv iv w2) (ha : Ahd b pr pv w) (hA : JIn w2 (fun k => N1 ≤ k) A x)
    (hN : w.heap.size < N1 ∧ (∀ k, nv.ownBlock = some k → k < N1) ∧ (∀ k, iv.ownBlock = some k → k < N1)) (hb3 : Below w2.heap.size w2 w3)
    (ho : w4.ownsRow (w.heap.size + 1) 25 6 (.slice (some ⟨gg, 0, none⟩) (As.length + 1) cap) (As.length + 1) (cellsA As ++ A.toList)) (hg : w3.grownBy w4 iv.ownBlock) (hat : iv.ownBlock = some gg ∨ gg = w3.heap.size) :
    GrpM obj b pr pv w σ (As ++ [A]) (Js ++ [x]) ss nv (.slice (some ⟨gg, 0, none⟩) (As.length + 1) cap) (w4.setCell ⟨w.heap.size, 5, none⟩ (.slice (some ⟨gg, 0, none⟩) (As.length + 1) cap)) := by
  have hb := ha.b
  have hpr := ha.r
  have hpv := ha.v
  have hown2 := h.own
  have hsz2 := h.sz
  have h8 := h.env.h8
  have hne2 := h.ne
  have hAz := hA.size
  have m3 := h.more hb hb3
  have z3 := hb3.size
  have z4 := hg.size
  have gs := grown_set w4 w.heap.size 5 (.slice (some ⟨gg, 0, none⟩) (As.length + 1) cap)
  -- what is not in the row of items
  have nb : some b ≠ iv.ownBlock := fun e => by have := hown2.2 b e.symm; omega
  have nx : some w.heap.size ≠ iv.ownBlock := fun e => by have := hown2.2 _ e.symm; omega
  have gxs : gg ≠ w.heap.size := by
    rcases hat with e | e
    · have := hown2.2 _ e; omega
    · omega
  refine ⟨?_, ?_, ?_, ?_, ?_, ?_, ?_, ?_⟩
  · have r3 := m3.r
    have hlt := r3.lt
    have r4 : RIn w4 b σ := r3.at (hg.block b hlt nb)
    exact r4.at (gs.block b (by omega) (fun e => by cases e; omega))
  · have e4 : Env w4 b pr pv := m3.env.kept hg (fun e => by have := hown2.2 _ e.symm; omega) (fun e => by have := hown2.2 _ e.symm; omega) (fun k e => by have := hown2.2 k e; have := h.r.lt; omega) (by omega)
    exact e4.kept gs (fun e => by cases e; omega) (fun e => by cases e; omega) (fun k e => by cases e; omega) (by omega)
  · have g3 := m3.g
    have hlt := h.r.lt
    exact ⟨gs.os.trans (hg.os.trans g3.os), gs.tape.trans (hg.tape.trans g3.tape), gs.output.trans (hg.output.trans g3.output), Nat.le_trans g3.size (Nat.le_trans hg.size gs.size), fun i hi hne =>
      (gs.block i (by omega) (fun e => by cases e; omega)).trans ((hg.block i (by omega) (fun e => by have := hown2.2 i e.symm; omega)).trans (g3.block i hi hne))⟩
  · have x3 := m3.box
    have x4 := box_at hg x3 nx
    exact block_setCell (i := 5) x4 _
  · have k4 : NmOwn w4 (w.heap.size + 1) nv ss := m3.nm.kept hg hne2
    exact k4.kept gs (.inr fun e => by have := hown2.1 _ e; omega)
  · refine ⟨?_, ?_⟩
    · intro B hB
      rcases List.mem_append.1 hB with hB | hB
      · exact h.it.sz B hB
      · rw [List.mem_singleton] at hB; rw [hB]; exact hAz
    · have o4 := ho.kept gs (.inr fun e => by simp only [Value.ownBlock, Option.some.injEq] at e; exact gxs e)
      rw [cellsA_app, List.length_append]
      simpa [cellsA] using o4
  · have a2 : ItsIn w2 (fun k => w.heap.size < k ∧ some k ≠ nv.ownBlock ∧ some k ≠ iv.ownBlock ∧ k < w2.heap.size) (As ++ [A]) (Js ++ [x]) :=
      (h.its.wk fun k hk hl => ⟨hk.1, hk.2.1, hk.2.2, hl⟩).app (hA.lt.wk fun k hk => ⟨by omega, fun e => by have := hN.2.1 k e.symm; omega, fun e => by have := hN.2.2 k e.symm; omega, hk.2⟩)
    have a3 := a2.kept (grown_below hb3 none) (by simp)
    have a4 := a3.kept hg (fun k hk => hk.2.2.1)
    have a5 := a4.kept gs (fun k hk e => by cases e; omega)
    refine a5.wk fun k hk _ => ⟨hk.1, hk.2.1, fun e => ?_⟩
    simp only [Value.ownBlock, Option.some.injEq] at e
    subst e
    rcases hat with e | e
    · exact hk.2.2.1 e.symm
    · omega
  · rcases hne2 with e | e
    · exact .inl e
    · refine .inr fun e2 => ?_
      simp only [Value.ownBlock] at e2
      rcases hat with e3 | e3
      · exact e (e2.trans e3.symm)
      · have := hown2.1 gg e2
        omega
/-- a name more -/
theorem GrpM.name {w2 w3 w4 : World} {str : ByteArray} {gg cap : Nat} (h : GrpM obj b pr pv w σ As Js ss nv iv w2) (ha : Ahd b pr pv w) (hb3 : Below w2.heap.size w2 w3)
    (ho : w4.ownsRow (w.heap.size + 1) 9 1 (.slice (some ⟨gg, 0, none⟩) (ss.length + 1) cap) (ss.length + 1) (ss.map Value.string ++ [.string str])) (hg : w3.grownBy w4 nv.ownBlock) (hat : nv.ownBlock = some gg ∨ gg = w3.heap.size) :
    GrpM obj b pr pv w σ As Js (ss ++ [str]) (.slice (some ⟨gg, 0, none⟩) (ss.length + 1) cap) iv (w4.setCell ⟨w.heap.size, 4, none⟩ (.slice (some ⟨gg, 0, none⟩) (ss.length + 1) cap)) := by
  have hb := ha.b
  have hpr := ha.r
  have hpv := ha.v
  have hown2 := h.own
  have hsz2 := h.sz
  have h8 := h.env.h8
  have hne2 := h.ne
  have m3 := h.more hb hb3
  have z3 := hb3.size
  have z4 := hg.size
  have gs := grown_set w4 w.heap.size 4 (.slice (some ⟨gg, 0, none⟩) (ss.length + 1) cap)
  have nb : some b ≠ nv.ownBlock := fun e => by have := hown2.1 b e.symm; omega
  have nx : some w.heap.size ≠ nv.ownBlock := fun e => by have := hown2.1 _ e.symm; omega
  have gxs : gg ≠ w.heap.size := by
    rcases hat with e | e
    · have := hown2.1 _ e; omega
    · omega
  have hiv : iv.ownBlock = none ∨ iv.ownBlock ≠ nv.ownBlock := by
    rcases hne2 with e | e
    · cases hi : iv.ownBlock with
      | none => exact .inl rfl
      | some k => exact .inr (by rw [e]; simp)
    · exact .inr fun e2 => e e2.symm
  refine ⟨?_, ?_, ?_, ?_, ?_, ?_, ?_, ?_⟩
  · have r3 := m3.r
    have hlt := r3.lt
    have r4 : RIn w4 b σ := r3.at (hg.block b hlt nb)
    exact r4.at (gs.block b (by omega) (fun e => by cases e; omega))
  · have e4 : Env w4 b pr pv := m3.env.kept hg (fun e => by have := hown2.1 _ e.symm; omega) (fun e => by have := hown2.1 _ e.symm; omega) (fun k e => by have := hown2.1 k e; have := h.r.lt; omega) (by omega)
    exact e4.kept gs (fun e => by cases e; omega) (fun e => by cases e; omega) (fun k e => by cases e; omega) (by omega)
  · have g3 := m3.g
    exact ⟨gs.os.trans (hg.os.trans g3.os), gs.tape.trans (hg.tape.trans g3.tape), gs.output.trans (hg.output.trans g3.output), Nat.le_trans g3.size (Nat.le_trans hg.size gs.size), fun i hi hne =>
      (gs.block i (by omega) (fun e => by cases e; omega)).trans ((hg.block i (by omega) (fun e => by have := hown2.1 i e.symm; omega)).trans (g3.block i hi hne))⟩
  · have x3 := m3.box
    have x4 := box_at hg x3 nx
    exact block_setCell (i := 4) x4 _
  · have o4 := ho.kept gs (.inr fun e => by simp only [Value.ownBlock, Option.some.injEq] at e; exact gxs e)
    unfold NmOwn
    rw [List.length_append, List.map_append]
    exact o4
  · have k4 : ItOwn w4 (w.heap.size + 1) iv As := m3.it.kept hg hiv
    exact k4.kept gs (.inr fun e => by have := hown2.2 _ e; omega)
  · have a2 : ItsIn w2 (fun k => w.heap.size < k ∧ some k ≠ nv.ownBlock ∧ some k ≠ iv.ownBlock ∧ k < w2.heap.size) As Js :=
      h.its.wk fun k hk hl => ⟨hk.1, hk.2.1, hk.2.2, hl⟩
    have a3 := a2.kept (grown_below hb3 none) (by simp)
    have a4 := a3.kept hg (fun k hk => hk.2.1)
    have a5 := a4.kept gs (fun k hk e => by cases e; omega)
    refine a5.wk fun k hk _ => ⟨hk.1, fun e => ?_, hk.2.2.1⟩
    simp only [Value.ownBlock, Option.some.injEq] at e
    subst e
    rcases hat with e | e
    · exact hk.2.1 e.symm
    · omega
  · refine .inr fun e2 => ?_
    have e2 : some gg = iv.ownBlock := e2
    rcases hat with e3 | e3
    · rcases hiv with e4 | e4
      · rw [e4] at e2; cases e2
      · exact e4 (e2.symm.trans e3.symm)
    · have := hown2.2 gg e2.symm
      omega
/-- the end -/
theorem GrpM.fin {p : J.Rd J.JV} {σ0 : RS} {w' wF : World} {nq iq : Option Addr} {nc ic : Nat} (h : GrpM obj b pr pv w σ As Js ss (.slice nq ss.length nc) (.slice iq Js.length ic) w') (hb : b < w.heap.size) (hs : (goR p σ0).1 = σ)
    (hv : ∀ v, (goR p σ0).2 = some v → v = J.groupV obj (ss.map numsOf, toJs Js)) (g6 : w'.grownBy wF (some w.heap.size)) :
    ValP p b σ0 w (.returned (.agg (jA (kindG obj) false 0 ⟨#[]⟩ nq ss.length nc iq Js.length ic))) wF := by
  have he := end_any hb h.r h.g (Below.refl _ _) g6
  have hN := h.nm.kept g6 (.inr fun e => by have := h.own.1 _ e; omega)
  have hI := h.it.kept g6 (.inr fun e => by have := h.own.2 _ e; omega)
  have hJ := h.its.kept g6 (fun k hk e => by cases e; omega)
  have hj := jin_group (k := kindG obj) (by cases obj <;> decide) hN hI hJ (fun k hk => by omega)
  refine ⟨_, _, rfl, hj.wk (fun k hk => by omega), fun v h2 => ?_, by rw [hs]; exact he.1, he.2⟩
  rw [hv v h2]
  cases obj <;> simp [JB.toJ, J.groupV, kindG] <;> rfl
end Go.Proofs.YtcfalgomcdmdhaaDoor
