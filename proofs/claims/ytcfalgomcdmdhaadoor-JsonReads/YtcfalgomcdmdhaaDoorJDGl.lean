/-
  The document's reader: lists. Written by tools/gen_jdgr.py.
-/
import Derived.Test.YtcfalgomcdmdhaaDoorJDTx
namespace Go.Proofs.YtcfalgomcdmdhaaDoor
open Go.RowKit Go.WideShapes Go.Joins

/-- What lies in memory between two steps of a list's or an object's reading. -/
structure GrpD (obj : Bool) (b : Nat) (S : ByteArray) (dp : Nat) (w : World) (σ : RS) (As : List (Array Value)) (Js : List JB) (ss : List ByteArray) (nv iv : Value) (wr : World) : Prop where
  lt : b < w.heap.size
  r : DIn wr b S dp σ
  g : w.grownBy wr (some b)
  rb : wr.heap[w.heap.size]? = some jbox
  box : wr.heap[w.heap.size + 1]? = some (.cells #[.int .u8 (kindG obj : Int), .bool false, .int .i64 0, .string ⟨#[]⟩, nv, iv] 25 (0, 0))
  nm : NmOwn wr (w.heap.size + 2) nv ss
  it : ItOwn wr (w.heap.size + 2) iv As
  its : ItsIn wr (fun k => w.heap.size + 1 < k ∧ some k ≠ nv.ownBlock ∧ some k ≠ iv.ownBlock) As Js
  ne : nv.ownBlock = none ∨ nv.ownBlock ≠ iv.ownBlock
variable {obj : Bool} {b dp dp' : Nat} {S : ByteArray} {w : World} {σ σ2 : RS} {As : List (Array Value)} {Js : List JB} {ss : List ByteArray} {nv iv : Value}
theorem GrpD.own {wr : World} (h : GrpD obj b S dp w σ As Js ss nv iv wr) : (∀ k, nv.ownBlock = some k → w.heap.size + 1 < k ∧ k < wr.heap.size) ∧ (∀ k, iv.ownBlock = some k → w.heap.size + 1 < k ∧ k < wr.heap.size) :=
  ⟨fun k hk => by have := own_ge h.nm hk; omega, fun k hk => by have := own_ge h.it.own hk; omega⟩
theorem GrpD.sz {wr : World} (h : GrpD obj b S dp w σ As Js ss nv iv wr) : w.heap.size + 1 < wr.heap.size := by
  rcases Nat.lt_or_ge (w.heap.size + 1) wr.heap.size with h' | h'
  · exact h'
  · have := h.box
    rw [Array.getElem?_eq_none h'] at this; cases this
/-- the first time -/
theorem GrpD.start {wr : World} (hlt : b < w.heap.size) (hr : DIn wr b S dp σ) (hg : w.grownBy wr (some b)) (hb : wr.heap[w.heap.size]? = some jbox)
    (hx : wr.heap[w.heap.size + 1]? = some (.cells #[.int .u8 (kindG obj : Int), .bool false, .int .i64 0, .string ⟨#[]⟩, .slice none 0 0, .slice none 0 0] 25 (0, 0))) :
    GrpD obj b S dp w σ [] [] [] (.slice none 0 0) (.slice none 0 0) wr := ⟨hlt, hr, hg, hb, hx, nm_nil _ _, it_nil _ _, its_nil _ _, .inl rfl⟩
/-- the reader alone goes on -/
theorem GrpD.goes {wr w' : World} (h : GrpD obj b S dp w σ As Js ss nv iv wr) (hr : DIn w' b S dp' σ2) (hg : wr.grownBy w' (some b)) : GrpD obj b S dp' w σ2 As Js ss nv iv w' := by
  have hb := h.lt
  have hn : ∀ {v : Value}, (∀ k, v.ownBlock = some k → w.heap.size + 1 < k ∧ k < wr.heap.size) → v.ownBlock = none ∨ v.ownBlock ≠ some b := by
    intro v hv
    refine .inr fun he => ?_
    have := (hv b he).1
    omega
  exact ⟨hb, hr, grown_trans h.g hg, box_grown h.rb hg (by omega), box_grown h.box hg (by omega), h.nm.kept hg (hn h.own.1), h.it.kept hg (hn h.own.2), h.its.kept hg (fun k hk he => by cases he; omega), h.ne⟩
/-- new blocks alone -/
theorem GrpD.more {wr w' : World} (h : GrpD obj b S dp w σ As Js ss nv iv wr) (hg : Below wr.heap.size wr w') : GrpD obj b S dp w σ As Js ss nv iv w' :=
  h.goes (h.r.below hg) (grown_below hg _)
/-- an item more -/
theorem GrpD.item {w2 w3 w4 : World} {A : Array Value} {x : JB} {N1 gg cap : Nat} (h : GrpD obj b S dp w σ As Js ss nv iv w2) (hA : JIn w2 (fun k => N1 ≤ k) A x)
    (hN : w.heap.size + 1 < N1 ∧ (∀ k, nv.ownBlock = some k → k < N1) ∧ (∀ k, iv.ownBlock = some k → k < N1)) (hb3 : Below w2.heap.size w2 w3)
    (ho : w4.ownsRow (w.heap.size + 2) 25 6 (.slice (some ⟨gg, 0, none⟩) (As.length + 1) cap) (As.length + 1) (cellsA As ++ A.toList)) (hg : w3.grownBy w4 iv.ownBlock) (hat : iv.ownBlock = some gg ∨ gg = w3.heap.size) :
    GrpD obj b S dp w σ (As ++ [A]) (Js ++ [x]) ss nv (.slice (some ⟨gg, 0, none⟩) (As.length + 1) cap) (w4.setCell ⟨w.heap.size + 1, 5, none⟩ (.slice (some ⟨gg, 0, none⟩) (As.length + 1) cap)) := by
  have hb := h.lt
  have hown2 := h.own
  have hsz2 := h.sz
  have hne2 := h.ne
  have hAz := hA.size
  have m3 := h.more hb3
  have z3 := hb3.size
  have z4 := hg.size
  have gs := grown_set w4 (w.heap.size + 1) 5 (.slice (some ⟨gg, 0, none⟩) (As.length + 1) cap)
  have nb : some b ≠ iv.ownBlock := fun e => by have := hown2.2 b e.symm; omega
  have nr : some w.heap.size ≠ iv.ownBlock := fun e => by have := hown2.2 _ e.symm; omega
  have nx : some (w.heap.size + 1) ≠ iv.ownBlock := fun e => by have := hown2.2 _ e.symm; omega
  have gxs : gg ≠ w.heap.size + 1 := by
    rcases hat with e | e
    · have := hown2.2 _ e; omega
    · omega
  refine ⟨hb, ?_, ?_, ?_, ?_, ?_, ?_, ?_, ?_⟩
  · have r3 := m3.r
    have hlt := r3.lt
    have r4 : DIn w4 b S dp σ := r3.at (hg.block b hlt nb)
    exact r4.at (gs.block b (by omega) (fun e => by cases e; omega))
  · have g3 := m3.g
    exact ⟨gs.os.trans (hg.os.trans g3.os), gs.tape.trans (hg.tape.trans g3.tape), gs.output.trans (hg.output.trans g3.output), Nat.le_trans g3.size (Nat.le_trans hg.size gs.size), fun i hi hne =>
      (gs.block i (by omega) (fun e => by cases e; omega)).trans ((hg.block i (by omega) (fun e => by have := hown2.2 i e.symm; omega)).trans (g3.block i hi hne))⟩
  · exact (gs.block _ (by omega) (fun e => by simp only [Option.some.injEq] at e; omega)).trans (box_at hg m3.rb nr)
  · have x3 := m3.box
    have x4 := box_at hg x3 nx
    exact block_setCell (i := 5) x4 _
  · have k4 : NmOwn w4 (w.heap.size + 2) nv ss := m3.nm.kept hg hne2
    exact k4.kept gs (.inr fun e => by have := hown2.1 _ e; omega)
  · refine ⟨?_, ?_⟩
    · intro B hB
      rcases List.mem_append.1 hB with hB | hB
      · exact h.it.sz B hB
      · rw [List.mem_singleton] at hB; rw [hB]; exact hAz
    · have o4 := ho.kept gs (.inr fun e => by simp only [Value.ownBlock, Option.some.injEq] at e; exact gxs e)
      rw [cellsA_app, List.length_append]
      simpa [cellsA] using o4
  · have a2 : ItsIn w2 (fun k => w.heap.size + 1 < k ∧ some k ≠ nv.ownBlock ∧ some k ≠ iv.ownBlock ∧ k < w2.heap.size) (As ++ [A]) (Js ++ [x]) :=
      (h.its.wk fun k hk hl => ⟨hk.1, hk.2.1, hk.2.2, hl⟩).app (hA.lt.wk fun k hk => ⟨by omega, fun e => by have := hN.2.1 k e.symm; omega, fun e => by have := hN.2.2 k e.symm; omega, hk.2⟩)
    have a3 := a2.kept (grown_below hb3 none) (by simp)
    have a4 := a3.kept hg (fun k hk => hk.2.2.1)
    have a5 := a4.kept gs (fun k hk e => by cases e; omega)
    refine a5.wk fun k hk _ => ⟨hk.1, hk.2.1, fun e => ?_⟩
    simp only [Value.ownBlock, Option.some.injEq] at e
    subst e
    rcases hat with e | e
    · exact hk.2.2.1 e.symm
    · omega
  · rcases hne2 with e | e
    · exact .inl e
    · refine .inr fun e2 => ?_
      simp only [Value.ownBlock] at e2
      rcases hat with e3 | e3
      · exact e (e2.trans e3.symm)
      · have := hown2.1 gg e2
        omega
/-- a name more -/
theorem GrpD.name {w2 w3 w4 : World} {str : ByteArray} {gg cap : Nat} (h : GrpD obj b S dp w σ As Js ss nv iv w2) (hb3 : Below w2.heap.size w2 w3)
    (ho : w4.ownsRow (w.heap.size + 2) 9 1 (.slice (some ⟨gg, 0, none⟩) (ss.length + 1) cap) (ss.length + 1) (ss.map Value.string ++ [.string str])) (hg : w3.grownBy w4 nv.ownBlock) (hat : nv.ownBlock = some gg ∨ gg = w3.heap.size) :
    GrpD obj b S dp w σ As Js (ss ++ [str]) (.slice (some ⟨gg, 0, none⟩) (ss.length + 1) cap) iv (w4.setCell ⟨w.heap.size + 1, 4, none⟩ (.slice (some ⟨gg, 0, none⟩) (ss.length + 1) cap)) := by
  have hb := h.lt
  have hown2 := h.own
  have hsz2 := h.sz
  have hne2 := h.ne
  have m3 := h.more hb3
  have z3 := hb3.size
  have z4 := hg.size
  have gs := grown_set w4 (w.heap.size + 1) 4 (.slice (some ⟨gg, 0, none⟩) (ss.length + 1) cap)
  have nb : some b ≠ nv.ownBlock := fun e => by have := hown2.1 b e.symm; omega
  have nr : some w.heap.size ≠ nv.ownBlock := fun e => by have := hown2.1 _ e.symm; omega
  have nx : some (w.heap.size + 1) ≠ nv.ownBlock := fun e => by have := hown2.1 _ e.symm; omega
  have gxs : gg ≠ w.heap.size + 1 := by
    rcases hat with e | e
    · have := hown2.1 _ e; omega
    · omega
  have hiv : iv.ownBlock = none ∨ iv.ownBlock ≠ nv.ownBlock := by
    rcases hne2 with e | e
    · cases hi : iv.ownBlock with
      | none => exact .inl rfl
      | some k => exact .inr (by rw [e]; simp)
    · exact .inr fun e2 => e e2.symm
  refine ⟨hb, ?_, ?_, ?_, ?_, ?_, ?_, ?_, ?_⟩
  · have r3 := m3.r
    have hlt := r3.lt
    have r4 : DIn w4 b S dp σ := r3.at (hg.block b hlt nb)
    exact r4.at (gs.block b (by omega) (fun e => by cases e; omega))
  · have g3 := m3.g
    exact ⟨gs.os.trans (hg.os.trans g3.os), gs.tape.trans (hg.tape.trans g3.tape), gs.output.trans (hg.output.trans g3.output), Nat.le_trans g3.size (Nat.le_trans hg.size gs.size), fun i hi hne =>
      (gs.block i (by omega) (fun e => by cases e; omega)).trans ((hg.block i (by omega) (fun e => by have := hown2.1 i e.symm; omega)).trans (g3.block i hi hne))⟩
  · exact (gs.block _ (by omega) (fun e => by simp only [Option.some.injEq] at e; omega)).trans (box_at hg m3.rb nr)
  · have x3 := m3.box
    have x4 := box_at hg x3 nx
    exact block_setCell (i := 4) x4 _
  · have o4 := ho.kept gs (.inr fun e => by simp only [Value.ownBlock, Option.some.injEq] at e; exact gxs e)
    unfold NmOwn
    rw [List.length_append, List.map_append]
    exact o4
  · have k4 : ItOwn w4 (w.heap.size + 2) iv As := m3.it.kept hg hiv
    exact k4.kept gs (.inr fun e => by have := hown2.2 _ e; omega)
  · have a2 : ItsIn w2 (fun k => w.heap.size + 1 < k ∧ some k ≠ nv.ownBlock ∧ some k ≠ iv.ownBlock ∧ k < w2.heap.size) As Js :=
      h.its.wk fun k hk hl => ⟨hk.1, hk.2.1, hk.2.2, hl⟩
    have a3 := a2.kept (grown_below hb3 none) (by simp)
    have a4 := a3.kept hg (fun k hk => hk.2.1)
    have a5 := a4.kept gs (fun k hk e => by cases e; omega)
    refine a5.wk fun k hk _ => ⟨hk.1, fun e => ?_, hk.2.2.1⟩
    simp only [Value.ownBlock, Option.some.injEq] at e
    subst e
    rcases hat with e | e
    · exact hk.2.1 e.symm
    · omega
  · refine .inr fun e2 => ?_
    have e2 : some gg = iv.ownBlock := e2
    rcases hat with e3 | e3
    · rcases hiv with e4 | e4
      · rw [e4] at e2; cases e2
      · exact e4 (e2.symm.trans e3.symm)
    · have := hown2.2 gg e2.symm
      omega
/-- what value and group answer -/
structure DValP (p : RS × Option J.JV) (b : Nat) (S : ByteArray) (dp : Nat) (w : World) (e : Ending) (w' : World) : Prop where
  ex : ∃ (A : Array Value) (x : JB), e = .returned (.agg A) ∧ JIn w' (fun k => w.heap.size ≤ k) A x ∧ (∀ v, p.2 = some v → x.toJ = v) ∧ DIn w' b S dp p.1 ∧ w.grownBy w' (some b)
/-- the end -/
theorem GrpD.fin {p : RS × Option J.JV} {w' wF : World} {nq iq : Option Addr} {nc ic : Nat} (h : GrpD obj b S dp w σ As Js ss (.slice nq ss.length nc) (.slice iq Js.length ic) w') (hs : p.1 = σ)
    (hv : ∀ v, p.2 = some v → v = J.groupV obj (ss.map numsOf, toJs Js)) (g6 : w'.grownBy wF (some w.heap.size)) :
    DValP p b S dp w (.returned (.agg (jA (kindG obj) false 0 ⟨#[]⟩ nq ss.length nc iq Js.length ic))) wF := by
  have hb := h.lt
  have hN := h.nm.kept g6 (.inr fun e => by have := h.own.1 _ e; omega)
  have hI := h.it.kept g6 (.inr fun e => by have := h.own.2 _ e; omega)
  have hJ := h.its.kept g6 (fun k hk e => by cases e; omega)
  have hj := jin_group (k := kindG obj) (by cases obj <;> decide) hN hI hJ (fun k hk => by omega)
  have hg := h.g
  refine ⟨_, _, rfl, hj.wk (fun k hk => by omega), fun v h2 => ?_, by rw [hs]; exact h.r.at (g6.block b h.r.lt (fun e => by cases e; omega)), ⟨g6.os.trans hg.os, g6.tape.trans hg.tape, g6.output.trans hg.output, Nat.le_trans hg.size g6.size, fun i hi hne => (g6.block i (Nat.lt_of_lt_of_le hi hg.size) (fun e => by cases e; omega)).trans (hg.block i hi hne)⟩⟩
  rw [hv v h2]
  cases obj <;> simp [JB.toJ, J.groupV, kindG] <;> rfl
theorem DIn.deep {wr : World} (h : DIn wr b S dp σ) (hd : dp' ≤ 32) : DIn (wr.setCell ⟨b, 4, none⟩ (.int .i64 (dp' : Int))) b S dp' σ := by
  obtain ⟨i, a, h1, h2, hb, h3, h4⟩ := h.ex
  exact ⟨h.ok, h.sz, hd, i, a, h1, h2, block_setCell (i := 4) hb _, h3, h4⟩
theorem DIn.c4 {wr : World} (h : DIn wr b S dp σ) : wr.cell? ⟨b, 4, none⟩ = some (.int .i64 (dp : Int)) := by
  obtain ⟨i, a, h1, h2, hb, h3, h4⟩ := h.ex
  rw [cell_of_block hb]; rfl
theorem DIn.c2 {wr : World} (h : DIn wr b S dp σ) : wr.cell? ⟨b, 2, none⟩ = some (.int .i64 (σ.e : Int)) := by
  obtain ⟨i, a, h1, h2, hb, h3, h4⟩ := h.ex
  rw [cell_of_block hb]; rfl
end Go.Proofs.YtcfalgomcdmdhaaDoor
namespace Go.Proofs.YtcfalgomcdmdhaaDoor
open Go.RowKit Go.WideShapes Go.Joins

variable {F n : Nat} {f : J.Rd J.JV} {obj : Bool} {ns : List (List Nat)} {vs : List J.JV} {σ σd σe : RS}
theorem grp_list {V : J.JV} (hf : J.Good f) (hV : Gives f σ V) : goR (J.groupN F f false (n + 1) ns vs) σ = goR (tailG F f false n ns (vs ++ [V])) (goR f σ).1 := by
  rw [groupN_is, show J.nameR F false ns = J.Rd.pure ns from rfl, pure_then]
  exact goR_thenV (q := fun v => tailG F f false n ns (vs ++ [v])) hf hV
theorem grp_obj {V : J.JV} {N : List Nat} {σa σb σc : RS} (hf : J.Good f) (hN : Gives (J.text F ns) σ N) (h1 : (goR (J.text F ns) σ).1 = σa) (h2 : (goR J.blanks σa).1 = σb) (h3 : (goR (J.need 58 58) σb).1 = σc) (hV : Gives f σc V) :
    goR (J.groupN F f true (n + 1) ns vs) σ = goR (tailG F f true n (ns ++ [N]) (vs ++ [V])) (goR f σc).1 := by
  rw [groupN_is]
  unfold J.nameR
  simp only [if_true, then_assoc, pure_then]
  rw [goR_thenV (J.Good.text _ _) hN, h1, unit_then J.Good.blanks, h2, need_then, h3]
  exact goR_thenV (q := fun v => tailG F f true n (ns ++ [N]) (vs ++ [v])) hf hV
theorem nx_at {x : Nat} (hx : x ≠ 0) : σ.nx = (x : Int) ↔ σ.pk = x := by
  rcases nx_pk σ with e | ⟨e, e2⟩
  · rw [e]; omega
  · rw [e, e2]; omega
theorem fin_ne (obj : Bool) : J.fin obj ≠ 0 ∧ J.fin obj ≠ 44 ∧ J.fin obj ≤ 255 := by cases obj <;> decide
theorem tail_fin (h : (goR J.blanks σd).1 = σe) (hn : σe.nx = (J.fin obj : Int)) : goR (tailG F f obj n ns vs) σd = (σe.next, some (ns, vs)) := by
  have hp := (nx_at (fin_ne obj).1).1 hn
  unfold tailG
  rw [unit_then J.Good.blanks, h, sw_take (q := J.Rd.pure (ns, vs)) (by rw [hp]; exact (fin_ne obj).1) (by simp only [hp, if_true]), pure_next _ (by rw [hp]; exact (fin_ne obj).1)]
theorem tail_many (ho : σe.ok) (h : (goR J.blanks σd).1 = σe) (hn : ¬ σe.nx = (J.fin obj : Int)) (h44 : σe.nx = 44) (hl : vs.length = 1024) : goR (tailG F f obj n ns vs) σd = (σe.refuse 4, none) := by
  have hp := (nx_at (σ := σe) (x := 44) (by decide)).1 h44
  have hnf : ¬ (44 : Nat) = J.fin obj := fun e => (fin_ne obj).2.1 e.symm
  unfold tailG
  rw [unit_then J.Good.blanks, h]
  obtain ⟨s, i, rfl, hi⟩ := pk_pos (σ := σe) (by rw [hp]; decide)
  rw [pk_in s i hi] at hp
  rw [goR_sw _ _ hi]
  simp only [hp, hnf, hl, if_false, if_true]
  rfl
theorem tail_on (ho : σe.ok) (h : (goR J.blanks σd).1 = σe) (hn : ¬ σe.nx = (J.fin obj : Int)) (hc : ¬ (vs.length = 1024 ∧ σe.nx = 44)) :
    goR (tailG F f obj n ns vs) σd = goR (J.groupN F f obj n ns vs) (goR J.blanks (goR (J.need 44 44) σe).1).1 := by
  have hpf : ¬ σe.pk = J.fin obj := fun e => hn ((nx_at (fin_ne obj).1).2 e)
  unfold tailG
  rw [unit_then J.Good.blanks, h]
  by_cases h44 : σe.nx = 44
  · have hp := (nx_at (σ := σe) (x := 44) (by decide)).1 h44
    have hl : ¬ vs.length = 1024 := fun e => hc ⟨e, h44⟩
    obtain ⟨s, i, rfl, hi⟩ := pk_pos (σ := σe) (by rw [hp]; decide)
    have hnd := ((need_go 44 44 ho).1 (by rw [h44]; decide))
    obtain ⟨s2, i2, e1, hi2, _, hg⟩ := hnd
    rw [sw_take (q := J.blanks.then fun _ => J.groupN F f obj n ns vs) (by rw [hp]; decide) (by rw [hp] at hpf; simp only [hp, hpf, hl, if_false, if_true]), unit_then J.Good.blanks, hg]
    cases e1
    rfl
  · have hp : ¬ σe.pk = 44 := fun e => h44 ((nx_at (σ := σe) (x := 44) (by decide)).2 e)
    have hnd := ((need_go 44 44 ho).2 (by omega))
    rw [hnd, sw_stop ho (fun s i _ _ => by simp only [hpf, hp, if_false])]
    cases σe with
    | dead s e => rfl
    | live s i => rfl
theorem many_stays {σe : RS} : (goR J.blanks (goR (J.need 44 44) (σe.refuse 4)).1).1 = σe.refuse 4 := by cases σe <;> rfl
theorem refuse_dead (k : Nat) (σ : RS) : ∃ t e, σ.refuse k = .dead t e := by cases σ <;> exact ⟨_, _, rfl⟩
/-- behind the bracket -/
def headG (F : Nat) (f : J.Rd J.JV) (obj : Bool) : J.Rd (List (List Nat) × List J.JV) := J.blanks.then fun _ => J.sw (fun c => if c = J.fin obj then .take (J.Rd.pure (([], []) : List (List Nat) × List J.JV)) else .go (J.groupN F f obj F [] [])) (.bad 160 [])
theorem group_is (F : Nat) (f : J.Rd J.JV) (obj : Bool) (σ : RS) : (goR (J.group F f obj) σ).1 = (goR (headG F f obj) σ).1 ∧ ∀ v, (goR (J.group F f obj) σ).2 = some v → ∃ q, (goR (headG F f obj) σ).2 = some q ∧ v = J.groupV obj q := by
  cases σ with
  | dead s e => exact ⟨rfl, fun v h => by cases h⟩
  | live s i =>
    simp only [goR, show J.group F f obj = (headG F f obj).then fun p => J.Rd.pure (J.groupV obj p) from rfl, J.Rd.then]
    cases headG F f obj ((numsOf s).drop i) with
    | ok q r => exact ⟨rfl, fun v h => by cases h; exact ⟨q, rfl, rfl⟩⟩
    | bad e r => exact ⟨rfl, fun v h => by cases h⟩
    | out => exact ⟨rfl, fun v h => by cases h⟩
theorem head_fin {σ2 : RS} (h : (goR J.blanks σ).1 = σ2) (hn : σ2.nx = (J.fin obj : Int)) : goR (headG F f obj) σ = (σ2.next, some ([], [])) := by
  have hp := (nx_at (fin_ne obj).1).1 hn
  unfold headG
  rw [unit_then J.Good.blanks, h, sw_take (q := J.Rd.pure (([], []) : List (List Nat) × List J.JV)) (by rw [hp]; exact (fin_ne obj).1) (by simp only [hp, if_true]), pure_next _ (by rw [hp]; exact (fin_ne obj).1)]
theorem head_on {σ2 : RS} (ho : σ2.ok) (h0 : f [] = .bad 160 []) (hF : 0 < F) (h : (goR J.blanks σ).1 = σ2) (hn : ¬ σ2.nx = (J.fin obj : Int)) : goR (headG F f obj) σ = goR (J.groupN F f obj F [] []) σ2 := by
  unfold headG
  rw [unit_then J.Good.blanks, h]
  cases σ2 with
  | dead s e => rfl
  | live s i =>
    by_cases hi : i < s.size
    · have hpf : ¬ (numsOf s).getD i 0 = J.fin obj := fun e => hn ((nx_at (fin_ne obj).1).2 (by rw [pk_in s i hi]; exact e))
      rw [goR_sw _ _ hi]
      simp only [hpf, if_false]
    · rw [goR_end _ hi]
      obtain ⟨m, rfl⟩ : ∃ m, F = m + 1 := ⟨F - 1, by omega⟩
      have : i = s.size := by simp only [RS.ok] at ho; omega
      subst this
      simp only [goR, rest_nil hi, J.groupN_end (m + 1) h0 obj m [] [], List.length_nil, Nat.sub_zero, cutS_all]
theorem may_next {x : Nat} {σ : RS} (ho : σ.ok) (h : σ.nx = (x : Int)) : (goR (J.may x) σ).1 = σ.next := by
  obtain ⟨s, i, rfl, hi, hg⟩ := (may_st x ho).1 h
  rw [hg]; rfl
theorem may_not' {x : Nat} {σ : RS} (ho : σ.ok) (h : ¬ σ.nx = (x : Int)) : (goR (J.may x) σ).1 = σ := ((may_st x ho).2 h).1
/-- a bracket that stands there -/
theorem bracket_deep {g : Option (J.Rd J.JV)} {s : ByteArray} {i : Nat} (hi : i < s.size) (hp : (numsOf s).getD i 0 = if obj then 123 else 91) (hg : g = none) : goR (J.valueB F g) (.live s i) = (.dead (cutS s i) 161, none) := by
  subst hg
  unfold J.valueB
  rw [goR_sw _ _ hi, hp]
  cases obj <;> rfl
theorem bracket_some {g : Option (J.Rd J.JV)} {s : ByteArray} {i : Nat} (hi : i < s.size) (hp : (numsOf s).getD i 0 = if obj then 123 else 91) (hg : g = some f) : goR (J.valueB F g) (.live s i) = goR (J.group F f obj) (.live s (i + 1)) := by
  subst hg
  unfold J.valueB
  rw [goR_sw _ _ hi, hp]
  cases obj <;> rfl
end Go.Proofs.YtcfalgomcdmdhaaDoor
namespace Go.Proofs.YtcfalgomcdmdhaaDoor
open Go.RowKit Go.WideShapes Go.Joins

/-- Between two items. -/
inductive DGrI (F : Nat) (f : J.Rd J.JV) (obj : Bool) (T : RS × Option (List (List Nat) × List J.JV)) (b : Nat) (S : ByteArray) (dp : Nat) (w : World) (gk : Nat) (wr : World) : Prop where
  | intro (σ : RS) (As : List (Array Value)) (Js : List JB) (ss : List ByteArray) (nv iv : Value) (h : GrpD obj b S dp w σ As Js ss nv iv wr) (he : goR (J.groupN F f obj (F - Js.length) (ss.map numsOf) (toJs Js)) σ = T)
      (hm : gk + Js.length = 1024) (hlv : ∀ t j, σ = .live t j → Js.length < 1024) (hs : ss.length = if obj then Js.length else 0)
set_option maxHeartbeats 8000000 in
set_option maxRecDepth 8000 in
theorem dgroup_list (F : Nat) (hF : 20001 ≤ F) (f : J.Rd J.JV) (hf : J.Good f) (h0 : f [] = .bad 160 []) (dp : Nat) (hdp : dp < 32) (b : Nat) (s : ByteArray) (i : Nat) (hi : i < s.size) (hby : (numsOf s).getD i 0 = 91) (w : World) (h : DIn w b s dp (.live s i))
    (hcall : ∀ σ' w', DIn w' b s (dp + 1) σ' → Calls Tryd.prog 38 #[rp b] w' fun e w'' => DValP (goR f σ') b s (dp + 1) w' e w'') :
    Calls Tryd.prog 71 #[rp b, .int .u8 5, .int .u8 93] w fun e w' => DValP (goR (J.valueB F (some f)) (.live s i)) b s dp w e w' := by
  have hlt := h.lt
  have hsz := h.sz
  obtain ⟨TX, hTX⟩ : ∃ x, goR (headG F f false) (.live s (i + 1)) = x := ⟨_, rfl⟩
  have HP : Hid ((goR (J.valueB F (some f)) (.live s i)).1 = TX.1 ∧ ∀ v, (goR (J.valueB F (some f)) (.live s i)).2 = some v → ∃ q, TX.2 = some q ∧ v = J.groupV false q) := by
    have := group_is F f false (.live s (i + 1))
    rw [hTX] at this
    rw [bracket_some (obj := false) hi hby rfl]
    exact this
  have HTX : Hid (goR (headG F f false) (.live s (i + 1)) = TX) := hTX
  have HF : Hid (20001 ≤ F ∧ J.Good f ∧ f [] = .bad 160 []) := ⟨hF, hf, h0⟩
  have HC : Hid (∀ σ' w', DIn w' b s (dp + 1) σ' → Calls Tryd.prog 38 #[rp b] w' fun e w'' => DValP (goR f σ') b s (dp + 1) w' e w'') := hcall
  have HLT : Hid (b < w.heap.size ∧ dp < 32) := ⟨hlt, hdp⟩
  -- the two boxes
  have hb0 : Below w.heap.size w (w.alloc jbox) := below_new _ _
  have hn0 := _root_.Go.heap_alloc_new w jbox
  have hb1 := below_new (w.alloc jbox) (.cells #[.int .u8 5, .bool false, .int .i64 0, .string ⟨#[]⟩, .slice none 0 0, .slice none 0 0] 25)
  have hn1 := _root_.Go.heap_alloc_new (w.alloc jbox) (.cells #[.int .u8 5, .bool false, .int .i64 0, .string ⟨#[]⟩, .slice none 0 0, .slice none 0 0] 25)
  rw [World.size_alloc] at hn1
  have hbb := below_more hb0 hb1
  have hR := box_below hn0 hb1
  have d0 := h.below hbb
  have HW0 : Hid (Below w.heap.size w ((w.alloc jbox).alloc (.cells #[.int .u8 5, .bool false, .int .i64 0, .string ⟨#[]⟩, .slice none 0 0, .slice none 0 0] 25)) ∧ ((w.alloc jbox).alloc (.cells #[.int .u8 5, .bool false, .int .i64 0, .string ⟨#[]⟩, .slice none 0 0, .slice none 0 0] 25)).heap[w.heap.size]? = some jbox ∧ ((w.alloc jbox).alloc (.cells #[.int .u8 5, .bool false, .int .i64 0, .string ⟨#[]⟩, .slice none 0 0, .slice none 0 0] 25)).heap[w.heap.size + 1]? = some (.cells #[.int .u8 5, .bool false, .int .i64 0, .string ⟨#[]⟩, .slice none 0 0, .slice none 0 0] 25 (0, 0)) ∧ DIn ((w.alloc jbox).alloc (.cells #[.int .u8 5, .bool false, .int .i64 0, .string ⟨#[]⟩, .slice none 0 0, .slice none 0 0] 25)) b s dp (.live s i)) := ⟨hbb, hR, hn1, d0⟩
  have c1 := d0.c1
  have f1 := d0.fz 1
  have c4 := d0.c4
  have f4 := d0.fz 4
  have hdq : ((dp : Int) == 32) = false := by simpa using fun e : (dp : Int) = 32 => by omega
  obtain ⟨DI, hDI⟩ : ∃ DI : Int, (dp : Int) = DI := ⟨_, rfl⟩
  obtain ⟨I, hI⟩ : ∃ I : Int, (i : Int) = I := ⟨_, rfl⟩
  have I0 : 0 ≤ I := by omega
  have I1 : I < 1000000 := by omega
  have D0 : 0 ≤ DI := by omega
  have D1 : DI < 32 := by omega
  have dA : DIn ((((w.alloc jbox).alloc (.cells #[.int .u8 5, .bool false, .int .i64 0, .string ⟨#[]⟩, .slice none 0 0, .slice none 0 0] 25)).setCell ⟨b, 4, none⟩ (.int .i64 (DI + 1))).setCell ⟨b, 1, none⟩ (.int .i64 (I + 1))) b s (dp + 1) (.live s (i + 1)) := by
    have := (d0.deep (dp' := dp + 1) (by omega)).step hi
    rw [hI, Int.natCast_add, hDI] at this
    exact this
  have gA : ((w.alloc jbox).alloc (.cells #[.int .u8 5, .bool false, .int .i64 0, .string ⟨#[]⟩, .slice none 0 0, .slice none 0 0] 25)).grownBy ((((w.alloc jbox).alloc (.cells #[.int .u8 5, .bool false, .int .i64 0, .string ⟨#[]⟩, .slice none 0 0, .slice none 0 0] 25)).setCell ⟨b, 4, none⟩ (.int .i64 (DI + 1))).setCell ⟨b, 1, none⟩ (.int .i64 (I + 1))) (some b) := grown_trans (grown_set _ _ _ _) (grown_set _ _ _ _)
  have Bk := dblanks_any b s (dp + 1) (.live s (i + 1)) _ dA
  have HGA : Hid (((w.alloc jbox).alloc (.cells #[.int .u8 5, .bool false, .int .i64 0, .string ⟨#[]⟩, .slice none 0 0, .slice none 0 0] 25)).grownBy ((((w.alloc jbox).alloc (.cells #[.int .u8 5, .bool false, .int .i64 0, .string ⟨#[]⟩, .slice none 0 0, .slice none 0 0] 25)).setCell ⟨b, 4, none⟩ (.int .i64 (DI + 1))).setCell ⟨b, 1, none⟩ (.int .i64 (I + 1))) (some b)) := gA
  rw [hDI] at hdq c4
  rw [hI] at c1
  have HDI : Hid ((dp : Int) = DI) := hDI
  obtain ⟨σ2, hσ2⟩ : ∃ x, (goR J.blanks (.live s (i + 1))).1 = x := ⟨_, rfl⟩
  rw [hσ2] at Bk
  have HS2 : Hid ((goR J.blanks (.live s (i + 1))).1 = σ2) := hσ2
  unfold rp at Bk ⊢
  unfold jbox zeroA at Bk c1 f1 c4 f4 HW0 HGA
  clear h hlt hsz hTX hF hf h0 hcall hdp hb0 hn0 hb1 hn1 hbb hR d0 dA gA hI hDI hσ2 hi hby
  go_enter Tryd.func71, Tryd.ntmps71
  go_wp2_with fail
  refine Bk.mono ?_
  rintro e w1 ⟨rfl, h1, g1⟩
  have hst := GrpD.start (obj := false) HLT.out.1 h1 (grown_trans (grown_below HW0.out.1 _) (grown_trans HGA.out g1)) (box_grown HW0.out.2.1 (grown_trans HGA.out g1) (by have := HLT.out.1; omega)) (box_grown HW0.out.2.2.1 (grown_trans HGA.out g1) (by have := HLT.out.1; omega))
  have HST : Hid (GrpD false b s (dp + 1) w σ2 [] [] [] (.slice none 0 0) (.slice none 0 0) w1) := hst
  have May := may_any b s (dp + 1) 93 (by decide) σ2 w1 h1
  have HOK : Hid (σ2.ok) := h1.ok
  simp only [show (((93 : Nat) : Int)) = 93 from rfl] at May
  unfold rp at May
  clear Bk h1 g1 hst c1 f1 c4 f4
  simp only []
  go_wp2_with fail
  refine May.mono ?_
  rintro e w2 ⟨B, rfl, hB, _, d2, g2⟩
  clear May
  simp only []
  cases B with
  | true =>
    have hnx : σ2.nx = (J.fin false : Int) := hB.1 rfl
    rw [may_next (x := 93) HOK.out hnx] at d2
    have hM := HST.out.goes d2 g2
    have TF : Hid (TX.1 = σ2.next ∧ ∀ q, TX.2 = some q → q = (([] : List ByteArray).map numsOf, toJs [])) := by
      rw [← HTX.out, head_fin HS2.out hnx]
      exact ⟨rfl, fun q hq => by cases hq; rfl⟩
    clear hnx d2 g2 hB
    have HE0 : Hid (GrpD false b s (dp + 1) w σ2.next [] ([] : List JB) ([] : List ByteArray) (.slice none (([] : List ByteArray)).length 0) (.slice none (([] : List JB)).length 0) w2) := hM
    have c4 : (w2).cell? ⟨b, 4, none⟩ = some (.int .i64 (DI + 1)) := by
      have := hM.r.c4
      rw [show (((dp + 1 : Nat) : Int)) = DI + 1 by have := HDI.out; omega] at this
      exact this
    have f4 := hM.r.fz 4
    have hME := hM.goes (hM.r.deep (dp' := dp) (by have := HLT.out.2; omega)) (grown_set _ _ _ _)
    rw [HDI.out] at hME
    have HME : Hid (GrpD false b s dp w σ2.next [] ([] : List JB) ([] : List ByteArray) (.slice none (([] : List ByteArray)).length 0) (.slice none (([] : List JB)).length 0) ((w2).setCell ⟨b, 4, none⟩ (.int .i64 DI))) := hME
    obtain ⟨⟨x0, x1, x2, x3, x4, x5⟩, _, _, _, _, _, _⟩ := row6_cells hME.box
    obtain ⟨⟨y0, y1, y2, y3, y4, y5⟩, z0, z1, z2, z3, z4, z5⟩ := box_cells hME.rb
    clear hM hME
    go_wp2_with fail
    refine bodyPost_ret (results_cell_row rfl _ _ w.heap.size 25 (jA (kindG false) false 0 ⟨#[]⟩ none (([] : List ByteArray)).length 0 none (([] : List JB)).length 0) (0, 0) _ rfl (set6_heap HME.out.rb _ _ _ _ _ _) Tryd.underlying25 rfl size_json) rfl ?_
    refine HME.out.fin (p := goR (J.valueB F (some f)) (.live s i)) (by rw [HP.out.1]; exact TF.out.1) (fun v hv => ?_) (set6_grown _ _ _ _ _ _ _ _)
    obtain ⟨qq, hq, rfl⟩ := HP.out.2 v hv
    rw [TF.out.2 qq hq]
  | false =>
    have hnx : ¬ σ2.nx = (J.fin false : Int) := fun e => by have := hB.2 e; cases this
    rw [may_not' (x := 93) HOK.out hnx] at d2
    have hM := HST.out.goes d2 g2
    have HT0 : Hid (goR (J.groupN F f false F [] []) σ2 = TX) := by
      show _ = _
      rw [← HTX.out]
      exact (head_on HOK.out HF.out.2.2 (by have := HF.out.1; omega) HS2.out hnx).symm
    have HM : Hid (GrpD false b s (dp + 1) w σ2 [] [] [] (.slice none 0 0) (.slice none 0 0) w2) := hM
    clear hnx d2 g2 hB hM
    go_wp2_with fail
    go_loopg [] 1024 (fun gk wr => DGrI F f false TX b s (dp + 1) w gk wr)
    case atStart => exact ⟨σ2, [], [], [], _, _, HM.out, HT0.out, rfl, fun _ _ _ => by decide, by simp⟩
    case round =>
      clear HM HT0 HST
      obtain ⟨σa, As, Js, ss, nv, iv, hM, he, hm, hlv, hs⟩ := hrel
      obtain ⟨q, m, e1, _, _, _⟩ := own_form hM.it.own
      rw [hM.its.1] at e1
      subst e1
      obtain ⟨q2, m2, e2, _, _, _⟩ := own_form hM.nm
      subst e2
      have c2 := hM.r.c2
      cases σa with
      | dead t e =>
        simp only [RS.e] at c2
        have he0 : ((e : Int) == 0) = false := by
          have := hM.r.ok.1
          simpa using fun x : (e : Int) = 0 => this (by omega)
        have TF : Hid (TX.1 = .dead t e ∧ ∀ q, TX.2 = some q → q = (ss.map numsOf, toJs Js)) := by
          rw [← he]
          exact ⟨rfl, fun q hq => by cases hq⟩
        clear he hm hlv hs
        have HE0 : Hid (GrpD false b s (dp + 1) w (.dead t e) As Js ss (.slice q2 (ss).length m2) (.slice q (Js).length m) wr) := hM
        have c4 : (wr).cell? ⟨b, 4, none⟩ = some (.int .i64 (DI + 1)) := by
          have := hM.r.c4
          rw [show (((dp + 1 : Nat) : Int)) = DI + 1 by have := HDI.out; omega] at this
          exact this
        have f4 := hM.r.fz 4
        have hME := hM.goes (hM.r.deep (dp' := dp) (by have := HLT.out.2; omega)) (grown_set _ _ _ _)
        rw [HDI.out] at hME
        have HME : Hid (GrpD false b s dp w (.dead t e) As Js ss (.slice q2 (ss).length m2) (.slice q (Js).length m) ((wr).setCell ⟨b, 4, none⟩ (.int .i64 DI))) := hME
        obtain ⟨⟨x0, x1, x2, x3, x4, x5⟩, _, _, _, _, _, _⟩ := row6_cells hME.box
        obtain ⟨⟨y0, y1, y2, y3, y4, y5⟩, z0, z1, z2, z3, z4, z5⟩ := box_cells hME.rb
        clear hM hME
        go_wp2_with fail
        refine bodyPost_ret (results_cell_row rfl _ _ w.heap.size 25 (jA (kindG false) false 0 ⟨#[]⟩ q2 (ss).length m2 q (Js).length m) (0, 0) _ rfl (set6_heap HME.out.rb _ _ _ _ _ _) Tryd.underlying25 rfl size_json) rfl ?_
        refine HME.out.fin (p := goR (J.valueB F (some f)) (.live s i)) (by rw [HP.out.1]; exact TF.out.1) (fun v hv => ?_) (set6_grown _ _ _ _ _ _ _ _)
        obtain ⟨qq, hq, rfl⟩ := HP.out.2 v hv
        rw [TF.out.2 qq hq]
      | live t j =>
        simp only [RS.e] at c2
        rw [show (((0 : Nat) : Int)) = 0 from rfl] at c2
        have hlt : Js.length < 1024 := hlv t j rfl
        have HQ : Hid (goR (J.groupN F f false (F - Js.length) (ss.map numsOf) (toJs Js)) (.live t j) = TX ∧ gk + Js.length = 1024 ∧ Js.length < 1024 ∧ ss.length = if false then Js.length else 0) := ⟨he, hm, hlt, hs⟩
        have HM : Hid (GrpD false b s (dp + 1) w (.live t j) As Js ss (.slice q2 ss.length m2) (.slice q Js.length m) wr) := hM
        clear he hm hlv hs hlt hM
        have hMd := HM.out.more (w' := wr.drew) ((Below.refl _ _).drew)
        have Cv := HC.out (.live t j) wr.drew hMd.r
        have HMD : Hid (GrpD false b s (dp + 1) w (.live t j) As Js ss (.slice q2 ss.length m2) (.slice q Js.length m) wr.drew) := hMd
        have hx5 := (row6_cells hMd.box).1.2.2.2.2.2
        have hv5 := (box_cells hMd.rb).1.1
        obtain ⟨i0, hi0, hz0, hz1, hz2⟩ := info_parts' info_json
        unfold rp at Cv
        clear hMd
        go_wp2_with fail
        refine wp_region_noPanic ?_
        refine beginZ (T := fun w' => w'.cell? ⟨w.heap.size, 0, none⟩ = some (.int .u8 0)) (S := fun w' => w'.cell? ⟨w.heap.size + 1, 5, none⟩ = some (.slice q Js.length m)) 7 (by kernel_rfl) ?_
        refine takeT 0 69 (v := ?_) rfl rfl (by kernel_rfl) (by kernel_rfl) (by kernel_rfl) (by kernel_rfl) (fun _ _ _ h => h) (by rfl) ?_ (by assumption) (by assumption) ?_
        rotate_left
        · intro w hTw; go_simp; first | done | with_reducible rfl
        simp only [Act.put, List.setIfInBounds_toArray, List.set_cons_zero, List.set_cons_succ]
        refine takeZ 1 70 5 (v := ?_) rfl rfl (by kernel_rfl) (by kernel_rfl) (by kernel_rfl) (by kernel_rfl) (by kernel_rfl) (by kernel_rfl) (by kernel_rfl) (fun _ _ _ h => h) (by rfl) ?_ (by assumption) (by assumption) ?_
        rotate_left
        · intro w hTw hSw; go_simp; first | done | with_reducible rfl
        simp only [Act.put, List.setIfInBounds_toArray, List.set_cons_zero, List.set_cons_succ]
        refine takeT 2 71 (v := ?_) rfl rfl (by kernel_rfl) (by kernel_rfl) (by kernel_rfl) (by kernel_rfl) (fun _ _ _ h => h) (by rfl) ?_ (by assumption) (by assumption) ?_
        rotate_left
        · intro w hTw; go_simp; first | done | with_reducible rfl
        simp only [Act.put, List.setIfInBounds_toArray, List.set_cons_zero, List.set_cons_succ]
        refine oneZ 3 (by kernel_rfl) rfl (by rfl) (fun K hK => ?_)
        go_simp
        refine Cv.mono ?_
        rintro e v2 ⟨A, x, rfl, hA, hx, h2, g2⟩
        obtain ⟨kk, bb, nn, tt, nq, nl, nc, iq, il, ic, rfl⟩ := jin_form hA
        have hM2 := HMD.out.goes h2 g2
        have hx52 := (row6_cells hM2.box).1.2.2.2.2.2
        have hv52 := (box_cells hM2.rb).1.1
        have HM2 : Hid (GrpD false b s (dp + 1) w (goR f (.live t j)).1 As Js ss (.slice q2 ss.length m2) (.slice q Js.length m) v2 ∧ JIn v2 (fun k => wr.heap.size ≤ k) (jA kk bb nn tt nq nl nc iq il ic) x ∧ (∀ v, (goR f (.live t j)).2 = some v → x.toJ = v)) := ⟨hM2, hA, hx⟩
        clear hM2 hA hx h2 g2 hx5 hv5 Cv
        go_simp
        refine hK.out _ _ hv52 hx52 (fun hTx hSx => ?_)
        clear hK K hv52 hx52
        refine oneZ 4 (by kernel_rfl) rfl (by rfl) (fun K hK => ?_)
        unfold jA
        go_simp
        have hn2 := (HM2.out.1.more (below_new v2 (.cells (jA kk bb nn tt nq nl nc iq il ic) 25)))
        have hx6 := (row6_cells hn2.box).1.2.2.2.2.2
        have hv6 := (box_cells hn2.rb).1.1
        unfold jA at hv6 hx6
        refine hK.out _ _ hv6 hx6 (fun hTy hSy => ?_)
        clear hK K hTx hSx hv6 hx6
        have HN2 : Hid (GrpD false b s (dp + 1) w (goR f (.live t j)).1 As Js ss (.slice q2 ss.length m2) (.slice q Js.length m) (v2.alloc (.cells (jA kk bb nn tt nq nl nc iq il ic) 25))) := hn2
        clear hn2
        refine oneZ 5 (by kernel_rfl) rfl (by rfl) (fun K hK => ?_)
        refine step_append_lies _ (by rfl) (.tmp 70) (.tmp 73) 23 (by rfl) (w.heap.size + 2) 25 i0 _ 6 80 Tryd.underlying23 hi0 hz0 hz1 hz2 rfl (by omega) (.slice q Js.length m) As.length (cellsA As) (by rfl) HN2.out.it.own ⟨v2.heap.size, 0, none⟩ 1 1 [.int .u8 (kk : Int), .bool bb, .int .i64 nn, .string tt, .slice nq nl nc, .slice iq il ic] (by rfl) (by rfl) (World.news_of_block (cs := jA kk bb nn tt nq nl nc iq il ic) (t := 25) (fr := (0, 0)) (heap_alloc_new v2 _)) (jin_one HM2.out.2.1) (by omega) (by have := HM.out.its.1; have := HQ.out.2.2.1; unfold maxLen; omega) (by have := HM.out.its.1; have := HQ.out.2.2.1; omega) (Nat.succ_le_of_lt HN2.out.sz) _ rfl ?_
        intro g' cap' v4 hown4 hgrow hat hlt4
        have hv7 := hgrow.cell hTy (fun e => by have := HN2.out.own.2 _ e.symm; simp at *; omega)
        have hx7 := hgrow.cell hSy (fun e => by have := HN2.out.own.2 _ e.symm; simp at *)
        refine hK.out _ _ hv7 hx7 (fun hTx hSx => ?_)
        clear hK K hTy hSy hv7 hx7
        have hbox4 := box_at hgrow HN2.out.box (fun e => by have := HN2.out.own.2 _ e.symm; omega)
        have hit := HM2.out.1.item (A := jA kk bb nn tt nq nl nc iq il ic) (x := x) (N1 := wr.heap.size) HM2.out.2.1 ⟨HM.out.sz, fun k hk => (HM.out.own.1 k hk).2, fun k hk => (HM.out.own.2 k hk).2⟩ (below_new v2 _) hown4 hgrow hat
        have HIT : Hid (GrpD false b s (dp + 1) w (goR f (.live t j)).1 (As ++ [jA kk bb nn tt nq nl nc iq il ic]) (Js ++ [x]) ss (.slice q2 ss.length m2) (.slice (some ⟨g', 0, none⟩) (As.length + 1) cap') (v4.setCell ⟨w.heap.size + 1, 5, none⟩ (.slice (some ⟨g', 0, none⟩) (As.length + 1) cap'))) := hit
        clear hit hown4 hgrow hat hlt4
        show wpAnyZ _ _ _ _ _ _ _ _ _ (Act.put _ (some 74) _) _
        simp only [Act.put, List.setIfInBounds_toArray, List.set_cons_zero, List.set_cons_succ]
        refine takeT 6 75 (v := ?_) rfl rfl (by kernel_rfl) (by kernel_rfl) (by kernel_rfl) (by kernel_rfl) (fun _ _ _ h => h) (by rfl) ?_ (by assumption) (by assumption) ?_
        rotate_left
        · intro w hTw; go_simp; first | done | with_reducible rfl
        simp only [Act.put, List.setIfInBounds_toArray, List.set_cons_zero, List.set_cons_succ]
        have hfr := frozen_of_row v4 (w.heap.size + 1) 5 _ _ hbox4
        have HBX : Hid _ := hbox4
        clear hbox4
        refine lastZ (by kernel_rfl) rfl (by rfl) (fun K hK => ?_)
        go_simp
        have hv8 := (box_cells HIT.out.rb).1.1
        refine hK.out _ _ hv8 ?_
        clear hK K hv8 hfr hTx hSx
        refine doneZ (by kernel_rfl) (NoPanic.normal ?_) _
        have hit := HIT.out
        have hAJ : As.length = Js.length := HM.out.its.1
        have hL1 : As.length + 1 = (Js ++ [x]).length := by rw [List.length_append, List.length_singleton, hAJ]
        have HV : Hid (Gives f (.live t j) x.toJ) := fun v hv => (HM2.out.2.2 v hv).symm
        rw [hL1] at hit ⊢
        generalize v4.setCell ⟨w.heap.size + 1, 5, none⟩ (.slice (some ⟨g', 0, none⟩) (Js ++ [x]).length cap') = v5 at hit ⊢
        obtain ⟨As', hAs'⟩ : ∃ l, As ++ [jA kk bb nn tt nq nl nc iq il ic] = l := ⟨_, rfl⟩
        rw [hAs'] at hit
        obtain ⟨Js', hJs'⟩ : ∃ l, Js ++ [x] = l := ⟨_, rfl⟩
        have hJl : Js'.length = Js.length + 1 := by rw [← hJs', List.length_append, List.length_singleton]
        have hJt : toJs Js' = toJs Js ++ [x.toJ] := by rw [← hJs', toJs_app]; rfl
        rw [hJs'] at hit ⊢
        obtain ⟨σd, hσd⟩ : ∃ y, (goR f (.live t j)).1 = y := ⟨_, rfl⟩
        rw [hσd] at hit
        obtain ⟨n, hn⟩ : ∃ n, F - Js.length = n + 1 := ⟨F - Js.length - 1, by have := HF.out.1; have := HQ.out.2.2.1; omega⟩
        have hstep : TX = goR (tailG F f false n (ss.map numsOf) (toJs Js')) σd := by
          have := HQ.out.1
          rw [hn] at this
          rw [← this, hJt, ← hσd]
          exact (grp_list HF.out.2.1 HV.out).symm.symm
        have HSTEP : Hid (TX = goR (tailG F f false n (ss.map numsOf) (toJs Js')) σd ∧ F - Js'.length = n ∧ (toJs Js').length = Js'.length ∧ Js'.length = Js.length + 1 ∧ Js'.length ≤ 1024 ∧ ss.length = if false then Js'.length else 0) := by
          refine ⟨hstep, by omega, toJs_len Js', hJl, by have := HQ.out.2.2.1; omega, ?_⟩
          have := HQ.out.2.2.2
          simp at this ⊢
          exact this
        have HIT2 : Hid (GrpD false b s (dp + 1) w σd As' Js' ss (.slice q2 ss.length m2) (.slice (some ⟨g', 0, none⟩) Js'.length cap') v5) := hit
        have Bk8 := dblanks_any b s (dp + 1) σd v5 hit.r
        obtain ⟨σe, hσe⟩ : ∃ y, (goR J.blanks σd).1 = y := ⟨_, rfl⟩
        rw [hσe] at Bk8
        have HSE : Hid ((goR J.blanks σd).1 = σe) := hσe
        unfold rp at Bk8
        clear hit hAJ hL1 hAs' hJs' hJl hJt hσd hn hstep hσe HIT HN2 HBX HM2 HMD
        go_wp2_with fail
        refine Bk8.mono ?_
        rintro e v6 ⟨rfl, h8, g8⟩
        have HI8 : Hid (GrpD false b s (dp + 1) w σe As' Js' ss (.slice q2 ss.length m2) (.slice (some ⟨g', 0, none⟩) Js'.length cap') v6) := HIT2.out.goes h8 g8
        have My8 := may_any b s (dp + 1) 93 (by decide) σe v6 h8
        simp only [show (((93 : Nat) : Int)) = 93 from rfl] at My8
        unfold rp at My8
        clear Bk8 h8 g8
        go_wp2_with fail
        refine My8.mono ?_
        rintro e v7 ⟨B, rfl, hB, _, d7, g7⟩
        clear My8
        simp only []
        cases B with
        | true =>
          have hnx : σe.nx = (J.fin false : Int) := hB.1 rfl
          rw [may_next (x := 93) HI8.out.r.ok hnx] at d7
          have hM := HI8.out.goes d7 g7
          have TF : Hid (TX.1 = σe.next ∧ ∀ q, TX.2 = some q → q = (ss.map numsOf, toJs Js')) := by
            rw [HSTEP.out.1, tail_fin HSE.out hnx]
            exact ⟨rfl, fun q hq => by cases hq; rfl⟩
          clear hnx d7 g7 hB
          have HE0 : Hid (GrpD false b s (dp + 1) w σe.next As' Js' ss (.slice q2 (ss).length m2) (.slice (some ⟨g', 0, none⟩) (Js').length cap') v7) := hM
          have c4 : (v7).cell? ⟨b, 4, none⟩ = some (.int .i64 (DI + 1)) := by
            have := hM.r.c4
            rw [show (((dp + 1 : Nat) : Int)) = DI + 1 by have := HDI.out; omega] at this
            exact this
          have f4 := hM.r.fz 4
          have hME := hM.goes (hM.r.deep (dp' := dp) (by have := HLT.out.2; omega)) (grown_set _ _ _ _)
          rw [HDI.out] at hME
          have HME : Hid (GrpD false b s dp w σe.next As' Js' ss (.slice q2 (ss).length m2) (.slice (some ⟨g', 0, none⟩) (Js').length cap') ((v7).setCell ⟨b, 4, none⟩ (.int .i64 DI))) := hME
          obtain ⟨⟨x0, x1, x2, x3, x4, x5⟩, _, _, _, _, _, _⟩ := row6_cells hME.box
          obtain ⟨⟨y0, y1, y2, y3, y4, y5⟩, z0, z1, z2, z3, z4, z5⟩ := box_cells hME.rb
          clear hM hME
          go_wp2_with fail
          refine bodyPost_ret (results_cell_row rfl _ _ w.heap.size 25 (jA (kindG false) false 0 ⟨#[]⟩ q2 (ss).length m2 (some ⟨g', 0, none⟩) (Js').length cap') (0, 0) _ rfl (set6_heap HME.out.rb _ _ _ _ _ _) Tryd.underlying25 rfl size_json) rfl ?_
          refine HME.out.fin (p := goR (J.valueB F (some f)) (.live s i)) (by rw [HP.out.1]; exact TF.out.1) (fun v hv => ?_) (set6_grown _ _ _ _ _ _ _ _)
          obtain ⟨qq, hq, rfl⟩ := HP.out.2 v hv
          rw [TF.out.2 qq hq]
        | false =>
          have hnx : ¬ σe.nx = (J.fin false : Int) := fun e => by have := hB.2 e; cases this
          rw [may_not' (x := 93) HI8.out.r.ok hnx] at d7
          have HM9 : Hid (GrpD false b s (dp + 1) w σe As' Js' ss (.slice q2 ss.length m2) (.slice (some ⟨g', 0, none⟩) Js'.length cap') v7) := HI8.out.goes d7 g7
          have HNX : Hid (¬ σe.nx = (J.fin false : Int)) := hnx
          have hx9 := (row6_cells HM9.out.box).1.2.2.2.2.2
          clear hnx d7 g7 hB
          by_cases hl : Js'.length = 1024
          · have hlb : ((Js'.length : Int) == 1024) = true := by simp; omega
            have N9 := next_any b s (dp + 1) σe v7 HM9.out.r
            obtain ⟨V, hV⟩ : ∃ V, σe.nx = V := ⟨_, rfl⟩
            rw [hV] at N9
            have HVV : Hid (σe.nx = V ∧ Js'.length = 1024) := ⟨hV, hl⟩
            unfold rp at N9
            clear hV hl
            go_wp2_with fail
            refine N9.mono ?_
            rintro e v8 ⟨rfl, hb8⟩
            have HM10 : Hid (GrpD false b s (dp + 1) w σe As' Js' ss (.slice q2 ss.length m2) (.slice (some ⟨g', 0, none⟩) Js'.length cap') v8) := HM9.out.more hb8
            clear N9 hb8 hx9 hlb
            simp only []
            by_cases h44 : V = 44
            · obtain ⟨ic1, _, hc1, hc2⟩ := HM10.out.r.c1'
              have F9 := fail_any b s (dp + 1) σe 4 (ic1 : Int) hc2 (by decide) v8 HM10.out.r
              simp only [show (((4 : Nat) : Int)) = 4 from rfl] at F9
              have HTF : Hid (goR (J.groupN F f false n (ss.map numsOf) (toJs Js')) (goR J.blanks (goR (J.need 44 44) (σe.refuse 4)).1).1 = TX) := by
                show _ = _
                rw [many_stays, HSTEP.out.1, tail_many HI8.out.r.ok HSE.out HNX.out (by rw [HVV.out.1]; exact h44) (by rw [HSTEP.out.2.2.1]; exact HVV.out.2)]
                obtain ⟨t', e', h'⟩ := refuse_dead 4 σe
                rw [h']
                rfl
              have HLV : Hid (∀ t j, (goR J.blanks (goR (J.need 44 44) (σe.refuse 4)).1).1 = .live t j → Js'.length < 1024) := fun t j e => by
                rw [many_stays] at e
                obtain ⟨t', e', h'⟩ := refuse_dead 4 σe
                rw [h'] at e
                cases e
              unfold rp at F9
              subst h44
              clear hc2
              go_wp2_with fail
              refine F9.mono ?_
              rintro e v9 ⟨rfl, h9, g9⟩
              have HM11 : Hid (GrpD false b s (dp + 1) w (σe.refuse 4) As' Js' ss (.slice q2 ss.length m2) (.slice (some ⟨g', 0, none⟩) Js'.length cap') v9) := HM10.out.goes h9 g9
              clear F9 h9 g9 hc1
              simp only []
              have Nd := need_any b s (dp + 1) 44 44 (by decide) (σe.refuse 4) v9 HM11.out.r
              obtain ⟨σg, hσg⟩ : ∃ y, (goR (J.need 44 44) (σe.refuse 4)).1 = y := ⟨_, rfl⟩
              rw [hσg] at Nd
              have HSG : Hid ((goR (J.need 44 44) (σe.refuse 4)).1 = σg) := hσg
              simp only [show (((44 : Nat) : Int)) = 44 from rfl] at Nd
              unfold rp at Nd
              clear hσg
              go_wp2_with fail
              refine Nd.mono ?_
              rintro e u1 ⟨rfl, k1, l1⟩
              have Bk := dblanks_any b s (dp + 1) σg u1 k1
              have HK1 : Hid (GrpD false b s (dp + 1) w σg As' Js' ss (.slice q2 ss.length m2) (.slice (some ⟨g', 0, none⟩) Js'.length cap') u1) := HM11.out.goes k1 l1
              unfold rp at Bk
              clear Nd k1 l1
              simp only []
              go_wp2_with fail
              refine Bk.mono ?_
              rintro e u2 ⟨rfl, k2, l2⟩
              clear Bk
              simp only []
              go_wp2_with fail
              go_roundg (gk - 1)
              case measure => have := HQ.out; omega
              case rel =>
                have hst := HSTEP.out
                refine ⟨_, As', Js', ss, _, _, HK1.out.goes k2 l2, ?_, ?_, ?_, hst.2.2.2.2.2⟩
                · rw [hst.2.1, ← HSG.out]; exact HTF.out
                · have := HQ.out; omega
                · rw [← HSG.out]; exact HLV.out
            · have hvb : (V == 44) = false := by simpa using h44
              have HTF : Hid (goR (J.groupN F f false n (ss.map numsOf) (toJs Js')) (goR J.blanks (goR (J.need 44 44) σe).1).1 = TX) := by
                show _ = _
                rw [HSTEP.out.1]
                exact (tail_on HI8.out.r.ok HSE.out HNX.out (fun h => h44 (by rw [← HVV.out.1]; exact h.2))).symm
              have HLV : Hid (∀ t j, (goR J.blanks (goR (J.need 44 44) σe).1).1 = .live t j → Js'.length < 1024) := fun t j e => by
                have hn := (need_go 44 44 HI8.out.r.ok).2 (fun h => h44 (by have := HVV.out.1; omega))
                rw [hn] at e
                obtain ⟨t', e', h'⟩ := refuse_dead 160 σe
                rw [h'] at e
                cases e
              clear h44
              go_wp2_with fail
              have Nd := need_any b s (dp + 1) 44 44 (by decide) σe v8 HM10.out.r
              obtain ⟨σg, hσg⟩ : ∃ y, (goR (J.need 44 44) σe).1 = y := ⟨_, rfl⟩
              rw [hσg] at Nd
              have HSG : Hid ((goR (J.need 44 44) σe).1 = σg) := hσg
              simp only [show (((44 : Nat) : Int)) = 44 from rfl] at Nd
              unfold rp at Nd
              clear hσg
              go_wp2_with fail
              refine Nd.mono ?_
              rintro e u1 ⟨rfl, k1, l1⟩
              have Bk := dblanks_any b s (dp + 1) σg u1 k1
              have HK1 : Hid (GrpD false b s (dp + 1) w σg As' Js' ss (.slice q2 ss.length m2) (.slice (some ⟨g', 0, none⟩) Js'.length cap') u1) := HM10.out.goes k1 l1
              unfold rp at Bk
              clear Nd k1 l1
              simp only []
              go_wp2_with fail
              refine Bk.mono ?_
              rintro e u2 ⟨rfl, k2, l2⟩
              clear Bk
              simp only []
              go_wp2_with fail
              go_roundg (gk - 1)
              case measure => have := HQ.out; omega
              case rel =>
                have hst := HSTEP.out
                refine ⟨_, As', Js', ss, _, _, HK1.out.goes k2 l2, ?_, ?_, ?_, hst.2.2.2.2.2⟩
                · rw [hst.2.1, ← HSG.out]; exact HTF.out
                · have := HQ.out; omega
                · rw [← HSG.out]; exact HLV.out
          · have hlb : ((Js'.length : Int) == 1024) = false := by simp; omega
            have HTF : Hid (goR (J.groupN F f false n (ss.map numsOf) (toJs Js')) (goR J.blanks (goR (J.need 44 44) σe).1).1 = TX) := by
              show _ = _
              rw [HSTEP.out.1]
              exact (tail_on HI8.out.r.ok HSE.out HNX.out (fun h => hl (by rw [← HSTEP.out.2.2.1]; exact h.1))).symm
            have HLV : Hid (∀ t j, (goR J.blanks (goR (J.need 44 44) σe).1).1 = .live t j → Js'.length < 1024) := fun t j e => by have := HSTEP.out.2.2.2.2.1; omega
            clear hl
            have Nd := need_any b s (dp + 1) 44 44 (by decide) σe v7 HM9.out.r
            obtain ⟨σg, hσg⟩ : ∃ y, (goR (J.need 44 44) σe).1 = y := ⟨_, rfl⟩
            rw [hσg] at Nd
            have HSG : Hid ((goR (J.need 44 44) σe).1 = σg) := hσg
            simp only [show (((44 : Nat) : Int)) = 44 from rfl] at Nd
            unfold rp at Nd
            clear hσg
            go_wp2_with fail
            refine Nd.mono ?_
            rintro e u1 ⟨rfl, k1, l1⟩
            have Bk := dblanks_any b s (dp + 1) σg u1 k1
            have HK1 : Hid (GrpD false b s (dp + 1) w σg As' Js' ss (.slice q2 ss.length m2) (.slice (some ⟨g', 0, none⟩) Js'.length cap') u1) := HM9.out.goes k1 l1
            unfold rp at Bk
            clear Nd k1 l1
            simp only []
            go_wp2_with fail
            refine Bk.mono ?_
            rintro e u2 ⟨rfl, k2, l2⟩
            clear Bk
            simp only []
            go_wp2_with fail
            go_roundg (gk - 1)
            case measure => have := HQ.out; omega
            case rel =>
              have hst := HSTEP.out
              refine ⟨_, As', Js', ss, _, _, HK1.out.goes k2 l2, ?_, ?_, ?_, hst.2.2.2.2.2⟩
              · rw [hst.2.1, ← HSG.out]; exact HTF.out
              · have := HQ.out; omega
              · rw [← HSG.out]; exact HLV.out
end Go.Proofs.YtcfalgomcdmdhaaDoor
