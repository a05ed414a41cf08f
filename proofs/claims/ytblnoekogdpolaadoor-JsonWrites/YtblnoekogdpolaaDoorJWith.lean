import Derived.Test.YtblnoekogdpolaaDoorJTxt
import Derived.Test.YtblnoekogdpolaaDoorJSame
import Derived.Test.YtblnoekogdpolaaDoorJMany
import Derived.Deep.MidRow
import Derived.Test.YtblnoekogdpolaaDoorJMem
import Derived.Test.YtblnoekogdpolaaDoorProg
import Derived.SliceStrings
import Derived.ChangeShapes
import Derived.Deep.Slices
import Derived.OpenShut
import Derived.SizedLaws
namespace Go.Proofs.YtblnoekogdpolaaDoor
open Go.RowKit Go.WideShapes Go.Joins
abbrev Anyw : Nat → Prop := fun _ => True
end Go.Proofs.YtblnoekogdpolaaDoor
namespace Go.Proofs.YtblnoekogdpolaaDoor
open Go.RowKit Go.WideShapes Go.Joins
inductive Few : JB → Prop where
  | mk (k : Nat) (b : Bool) (n : Int) (t : ByteArray) (ns : List ByteArray) (vs : List JB) (hn : ns.length ≤ 8796093021952) (hv : vs.length ≤ 1759218604390) (hr : ∀ (i : Nat) (x : JB), vs[i]? = some x → Few x) : Few (.mk k b n t ns vs)
end Go.Proofs.YtblnoekogdpolaaDoor
namespace Go.Proofs.YtblnoekogdpolaaDoor
open Go.RowKit Go.WideShapes Go.ChangeShapes Go.Deep Go.Joins
theorem add_flat (b o n : Nat) : (⟨b, o, none⟩ : Addr).add n = ⟨b, o + n, none⟩ := by
  unfold Addr.add
  by_cases h : n = 0 <;> simp [h]
theorem spot_none {a : Addr} {w : World} {v : Value} (h : w.cell? (a.add 0) = some v) : ∃ b o, a = ⟨b, o, none⟩ := by
  obtain ⟨b, o, s⟩ := a
  obtain rfl : s = none := by simpa [Addr.add] using World.cell?_spot h
  exact ⟨b, o, rfl⟩
section
variable {w : World} {H : Type} {enc : TypeId × Value → H}
theorem open_names {n : Nat} {v : Value} {x : DataW H × List MemPlace} (h : DataW.trod enc Tryd.prog w 0 (fun _ => true) true n 22 [v] = some x) :
    ∃ (q : Option Addr) (c : Nat) (ss : List ByteArray), v = .slice q ss.length c ∧ ss.length ≤ c ∧ c ≤ maxLen ∧ (q = none → c = 0) ∧ SsIn w (fun _ => True) q ss := by
  rcases open_strings Tryd.underlying22 Tryd.underlying9 (by kernel_rfl) h with ⟨hcs, _⟩ | ⟨a, len, cap, ss, hcs, _, hl, hm, hz, _, hcell, hsz⟩
  · simp only [List.cons.injEq, and_true] at hcs
    exact ⟨none, 0, [], hcs, Nat.le_refl _, by unfold maxLen; omega, fun _ => rfl, ss_nil _ _ _⟩
  · simp only [List.cons.injEq, and_true] at hcs
    have hz' : ss.length = cap := by simpa using hz
    have hlen : (ss.take len).length = len := by simp; omega
    refine ⟨some a, cap, ss.take len, by rw [hlen]; exact hcs, by rw [hlen]; exact hl, hm, by simp, fun hp => ?_⟩
    rw [hlen] at hp
    obtain ⟨b, o, rfl⟩ := spot_none (hcell 0 (by omega))
    refine ⟨b, o, rfl, trivial, fun i s hi => ?_⟩
    have hil : i < len := by
      rcases Nat.lt_or_ge i len with h' | h'
      · exact h'
      · rw [List.getElem?_eq_none (by omega)] at hi; cases hi
    have e := hcell i (by omega)
    rw [add_flat] at e
    rw [e]
    rw [List.getElem?_take_of_lt hil] at hi
    rw [List.getD_eq_getElem?_getD, hi]; rfl
instance : Inhabited (Array Value) := ⟨#[]⟩
instance : Inhabited JB := ⟨zeroB⟩
set_option maxRecDepth 100000 in
theorem open_cells : ∀ (fuel : Nat) (cs : List Value) (x : DataW H × List MemPlace), cs.length = 6 → DataW.trod enc Tryd.prog w 0 (fun _ => true) true fuel 25 cs = some x →
    ∃ (A : Array Value) (v : JB), cs = A.toList ∧ JIn w (fun _ => True) A v := by
  intro fuel
  induction fuel using Nat.strongRecOn with
  | _ fuel ih =>
    intro cs x hl h
    obtain ⟨xs, n, hn, _, _, hxl, hf⟩ := DataW.trod_struct Tryd.underlying25 h
    match cs, hl with
    | [v0, v1, v2, v3, v4, v5], _ =>
      match xs, hxl with
      | [y0, y1, y2, y3, y4, y5], _ =>
        have r0 : DataW.trod enc Tryd.prog w 0 (fun _ => true) true n 5 ((List.drop 0 [v0, v1, v2, v3, v4, v5]).take (Tryd.prog.cellsOf 5)) = some y0 := hf 0 _ rfl
        have r1 : DataW.trod enc Tryd.prog w 0 (fun _ => true) true n 4 ((List.drop 1 [v0, v1, v2, v3, v4, v5]).take (Tryd.prog.cellsOf 4)) = some y1 := hf 1 _ rfl
        have r2 : DataW.trod enc Tryd.prog w 0 (fun _ => true) true n 2 ((List.drop 2 [v0, v1, v2, v3, v4, v5]).take (Tryd.prog.cellsOf 2)) = some y2 := hf 2 _ rfl
        have r3 : DataW.trod enc Tryd.prog w 0 (fun _ => true) true n 9 ((List.drop 3 [v0, v1, v2, v3, v4, v5]).take (Tryd.prog.cellsOf 9)) = some y3 := hf 3 _ rfl
        have r4 : DataW.trod enc Tryd.prog w 0 (fun _ => true) true n 22 ((List.drop 4 [v0, v1, v2, v3, v4, v5]).take (Tryd.prog.cellsOf 22)) = some y4 := hf 4 _ rfl
        have r5 : DataW.trod enc Tryd.prog w 0 (fun _ => true) true n 23 ((List.drop 5 [v0, v1, v2, v3, v4, v5]).take (Tryd.prog.cellsOf 23)) = some y5 := hf 5 _ rfl
        rw [show Tryd.prog.cellsOf 5 = 1 by kernel_rfl] at r0
        rw [show Tryd.prog.cellsOf 4 = 1 by kernel_rfl] at r1
        rw [show Tryd.prog.cellsOf 2 = 1 by kernel_rfl] at r2
        rw [show Tryd.prog.cellsOf 9 = 1 by kernel_rfl] at r3
        rw [show Tryd.prog.cellsOf 22 = 1 by kernel_rfl] at r4
        rw [show Tryd.prog.cellsOf 23 = 1 by kernel_rfl] at r5
        simp only [List.drop_zero, List.drop_succ_cons, List.take_succ_cons, List.take_zero] at r0 r1 r2 r3 r4 r5
        obtain ⟨z0, hz0, _, w0⟩ := DataW.trod_int Tryd.underlying5 r0
        obtain ⟨z1, hz1, _⟩ := DataW.trod_bool Tryd.underlying4 r1
        obtain ⟨z2, hz2, _, w2⟩ := DataW.trod_int Tryd.underlying2 r2
        obtain ⟨s3, hs3, _, w3⟩ := DataW.trod_string Tryd.underlying9 r3
        obtain ⟨q4, c4, ss, hv4, a4, b4, e4, hS⟩ := open_names r4
        simp only [List.cons.injEq, and_true] at hz0 hz1 hz2 hs3
        have hk : 0 ≤ z0 ∧ z0 ≤ 255 := by
          simp [Lit.wf, IntKind.min, IntKind.max, IntKind.signed, IntKind.bits] at w0
          omega
        obtain ⟨k, rfl⟩ : ∃ k : Nat, z0 = (k : Int) := ⟨z0.toNat, by omega⟩
        have hn2 : J.Rng z2 := bounds_i64 w2
        rcases DataW.trod_slice Tryd.underlying23 r5 with ⟨hcs, _⟩ | ⟨a, len, cap, elems, rest, n', hn', hcs, _, _, hlc, hcm, hel, hcell, _⟩
        · simp only [List.cons.injEq, and_true] at hcs
          refine ⟨jA k z1 z2 s3 q4 ss.length c4 none 0 0, .mk k z1 z2 s3 ss [], ?_, ?_⟩
          · rw [hz0, hz1, hz2, hs3, hv4, hcs]; rfl
          · exact .mk k z1 z2 s3 ss [] q4 none c4 0 (fun _ => #[]) (by omega) hn2 a4 (Nat.le_refl _) b4 (Nat.zero_le _) e4 (fun _ => rfl) hS (vs_nil _ _ _ _) (by intro i y hy; simp at hy)
        · simp only [List.cons.injEq, and_true] at hcs
          have each : ∀ i, i < len → ∃ p : Array Value × JB, (∀ k, k < 6 → w.cell? (a.add (i * 6 + k)) = p.1[k]?) ∧ JIn w (fun _ => True) p.1 p.2 := by
            intro i hi
            have e := hcell i hi
            rw [show Tryd.prog.cellsOf 25 = 6 by kernel_rfl, List.getElem?_eq_getElem (by omega)] at e
            obtain ⟨cs', g1, g2⟩ := Option.bind_eq_some_iff.1 e
            obtain ⟨_, hlen, hc⟩ := World.cells?_some g1
            obtain ⟨A, v, hA, hJ⟩ := ih n' (by omega) cs' _ hlen g2
            refine ⟨(A, v), fun k hk => ?_, hJ⟩
            have e0 := hc k hk
            rw [add_add] at e0
            rw [e0, hA]
            simp
          haveI : Inhabited (Array Value × JB) := ⟨(#[], zeroB)⟩
          obtain ⟨f, hf⟩ := choose_lt each
          have hvl : ((List.range len).map fun i => (f i).2).length = len := by simp
          have hvg : ∀ i y, ((List.range len).map fun i => (f i).2)[i]? = some y → i < len ∧ y = (f i).2 := by
            intro i y hy
            rcases Nat.lt_or_ge i len with h' | h'
            · rw [List.getElem?_map, List.getElem?_range h'] at hy
              exact ⟨h', (Option.some.inj hy).symm⟩
            · rw [List.getElem?_eq_none (by simpa using h')] at hy; cases hy
          refine ⟨jA k z1 z2 s3 q4 ss.length c4 (some a) len cap, .mk k z1 z2 s3 ss ((List.range len).map fun i => (f i).2), ?_, ?_⟩
          · rw [hz0, hz1, hz2, hs3, hv4, hcs]; rfl
          · have M := JIn.mk (w := w) (Z := fun _ => True) k z1 z2 s3 ss ((List.range len).map fun i => (f i).2) q4 (some a) c4 cap (fun i => (f i).1) (by omega) hn2 a4 (by rw [hvl]; exact hlc) b4 hcm e4 (by simp) hS ?_ ?_
            · rw [hvl] at M
              exact M
            · rw [hvl]
              intro hp
              have hsz := (hf 0 hp).2.size
              obtain ⟨b, o, rfl⟩ := spot_none (v := (f 0).1[0]) (((hf 0 hp).1 0 (by omega)).trans (Array.getElem?_eq_getElem (by omega)))
              refine ⟨b, o, rfl, trivial, fun i hi k hk => ?_⟩
              have e := (hf i hi).1 k hk
              rw [add_flat] at e
              rw [Nat.add_assoc]
              exact e
            · intro i y hy
              obtain ⟨h1, rfl⟩ := hvg i y hy
              exact (hf i h1).2
set_option maxRecDepth 100000 in
theorem open_json {r : Reach} {b0 : Nat} {v : Value} {d : DataW H} {p : List MemPlace} (hv : Value.okWide Tryd.prog w r b0 25 v) (h : DataW.Trod enc Tryd.prog w 0 (fun _ => true) true 25 v d p) :
    ∃ (A : Array Value) (x : JB), v = .agg A ∧ JIn w (fun _ => True) A x := by
  obtain ⟨cs, rfl, hsz⟩ := okWide_struct Tryd.underlying25 hv
  obtain ⟨fuel, hf⟩ := h
  obtain ⟨A, x, hA, hJ⟩ := open_cells fuel cs.toList _ (by rw [Array.length_toList, hsz]; kernel_rfl) hf
  obtain rfl : cs = A := Array.ext' hA
  exact ⟨_, x, rfl, hJ⟩
end
end Go.Proofs.YtblnoekogdpolaaDoor
namespace Go.Proofs.YtblnoekogdpolaaDoor
open Go.RowKit Go.WideShapes Go.ChangeShapes Go.Deep Go.Joins
theorem weights_all {H : Type} {P : Program} {e : TypeId} : ∀ {l : List (DataW H)} {i : Nat} {d : DataW H}, l[i]? = some d → ∀ n ∈ d.weights P e, n ∈ DataW.weightsAll P e l
  | [], _, _, h, _, _ => by simp at h
  | x :: l, 0, d, h, n, hn => by
    simp only [List.getElem?_cons_zero, Option.some.injEq] at h
    subst h
    simp only [DataW.weightsAll, List.mem_append]
    exact .inl hn
  | x :: l, i + 1, d, h, n, hn => by
    simp only [List.getElem?_cons_succ] at h
    simp only [DataW.weightsAll, List.mem_append]
    exact .inr (weights_all h n hn)
section
variable {w : World} {H : Type} {enc : TypeId × Value → H}
set_option maxRecDepth 100000 in
theorem few_of_trod {Z : Nat → Prop} {A : Array Value} {v : JB} (hJ : JIn w Z A v) : ∀ (fuel : Nat) (x : DataW H × List MemPlace), DataW.trod enc Tryd.prog w 0 (fun _ => true) true fuel 25 A.toList = some x →
    (∀ n ∈ x.1.weights Tryd.prog 25, n ≤ reachBytes) → Few v := by
  induction hJ with
  | mk k b n t ns vs nq iq nc ic F hk hn hnc hic hnm him hnq hiq hN hI hR ih =>
    intro fuel x h hwt
    obtain ⟨xs, m, _, rfl, _, hxl, hf⟩ := DataW.trod_struct Tryd.underlying25 h
    match xs, hxl with
    | [y0, y1, y2, y3, y4, y5], _ =>
      have r4 : DataW.trod enc Tryd.prog w 0 (fun _ => true) true m 22 (((jA k b n t nq ns.length nc iq vs.length ic).toList.drop 4).take (Tryd.prog.cellsOf 22)) = some y4 := hf 4 _ rfl
      have r5 : DataW.trod enc Tryd.prog w 0 (fun _ => true) true m 23 (((jA k b n t nq ns.length nc iq vs.length ic).toList.drop 5).take (Tryd.prog.cellsOf 23)) = some y5 := hf 5 _ rfl
      rw [show Tryd.prog.cellsOf 22 = 1 by kernel_rfl] at r4
      rw [show Tryd.prog.cellsOf 23 = 1 by kernel_rfl] at r5
      have w4 : ∀ q ∈ y4.1.weights Tryd.prog 22, q ≤ reachBytes := fun q hq => hwt q (by
        simp only [DataW.weights, Tryd.underlying25]
        exact DataW.weights_mem_each (j := 4) (t := 22) (d := y4.1) rfl rfl q hq)
      have w5 : ∀ q ∈ y5.1.weights Tryd.prog 23, q ≤ reachBytes := fun q hq => hwt q (by
        simp only [DataW.weights, Tryd.underlying25]
        exact DataW.weights_mem_each (j := 5) (t := 23) (d := y5.1) rfl rfl q hq)
      refine .mk k b n t ns vs ?_ ?_ ?_
      · rcases DataW.trod_slice Tryd.underlying22 r4 with ⟨hcs, _⟩ | ⟨a, len, cap, elems, rest, n', _, hcs, rfl, _, _, _, hel, _, _⟩
        · simp only [jA, List.drop_succ_cons, List.drop_zero, List.take_succ_cons, List.take_zero, List.cons.injEq, Value.slice.injEq, and_true] at hcs
          omega
        · simp only [jA, List.drop_succ_cons, List.drop_zero, List.take_succ_cons, List.take_zero, List.cons.injEq, Value.slice.injEq, and_true] at hcs
          have := w4 ((elems.length + rest.length) * Tryd.prog.bytesOf 9) (by simp [DataW.weights, Tryd.underlying22])
          rw [show Tryd.prog.bytesOf 9 = 16 by kernel_rfl] at this
          unfold reachBytes at this
          omega
      · rcases DataW.trod_slice Tryd.underlying23 r5 with ⟨hcs, _⟩ | ⟨a, len, cap, elems, rest, n', _, hcs, rfl, _, _, _, hel, _, _⟩
        · simp only [jA, List.drop_succ_cons, List.drop_zero, List.take_succ_cons, List.take_zero, List.cons.injEq, Value.slice.injEq, and_true] at hcs
          omega
        · simp only [jA, List.drop_succ_cons, List.drop_zero, List.take_succ_cons, List.take_zero, List.cons.injEq, Value.slice.injEq, and_true] at hcs
          have := w5 ((elems.length + rest.length) * Tryd.prog.bytesOf 25) (by simp [DataW.weights, Tryd.underlying23])
          rw [show Tryd.prog.bytesOf 25 = 80 by kernel_rfl] at this
          unfold reachBytes at this
          omega
      · intro i y hy
        have hi : i < vs.length := (List.getElem?_eq_some_iff.1 hy).1
        rcases DataW.trod_slice Tryd.underlying23 r5 with ⟨hcs, _⟩ | ⟨a, len, cap, elems, rest, n', _, hcs, rfl, _, _, _, hel, hcell, _⟩
        · simp only [jA, List.drop_succ_cons, List.drop_zero, List.take_succ_cons, List.take_zero, List.cons.injEq, Value.slice.injEq, and_true] at hcs
          omega
        · simp only [jA, List.drop_succ_cons, List.drop_zero, List.take_succ_cons, List.take_zero, List.cons.injEq, Value.slice.injEq, and_true] at hcs
          obtain ⟨rfl, rfl, rfl⟩ := hcs
          obtain ⟨ab, ao, e0⟩ := hI.addr (by omega)
          cases e0
          have e := hcell i hi
          rw [show Tryd.prog.cellsOf 25 = 6 by kernel_rfl, List.getElem?_eq_getElem (by omega)] at e
          obtain ⟨cs', g1, g2⟩ := Option.bind_eq_some_iff.1 e
          obtain ⟨_, hlen, hc⟩ := World.cells?_some g1
          have hFs := (hR i y hy).size
          have hcs' : cs' = (F i).toList := by
            refine List.ext_getElem? fun j => ?_
            by_cases hj : j < 6
            · have c1 := hc j hj
              rw [add_add, add_flat] at c1
              have c2 := (hI.at hi).2 j hj
              rw [← Nat.add_assoc, c2] at c1
              rw [show (F i).toList[j]? = (F i)[j]? from Array.getElem?_toList ..]
              exact c1.symm
            · rw [List.getElem?_eq_none (by omega), List.getElem?_eq_none (by rw [Array.length_toList]; omega)]
          rw [hcs'] at g2
          refine ih i y hy n' _ g2 fun q hq => w5 q ?_
          simp only [DataW.weights, Tryd.underlying23, List.mem_cons, List.mem_append]
          exact .inr (.inl (weights_all (i := i) (by rw [List.getElem?_map, List.getElem?_eq_getElem (by omega)]; rfl) q hq))
end
end Go.Proofs.YtblnoekogdpolaaDoor
namespace Go.Proofs.YtblnoekogdpolaaDoor
open Go.RowKit Go.WideShapes Go.Joins
theorem it_base {w : World} {b b' : Nat} {v : Value} {As : List (Array Value)} (h : ItOwn w b v As) (hb : b' ≤ b) : ItOwn w b' v As := by
  refine ⟨h.sz, h.own.1, ?_⟩
  rcases h.own.2 with h' | ⟨g, cap, cur, h1, h2, h3⟩
  · exact .inl h'
  · exact .inr ⟨g, cap, cur, h1, Nat.le_trans hb h2, h3⟩
variable {w wr : World} {b0 : Nat} {P R : Obj} {v1 v2 : Value} {l1 : List ByteArray} {As : List (Array Value)}
end Go.Proofs.YtblnoekogdpolaaDoor
