import Derived.Test.YtcfalgomcdmdhaaDoorJBk
import Derived.Test.YtcfalgomcdmdhaaDoorJWith
import Derived.SizedLaws
namespace Go.Proofs.YtcfalgomcdmdhaaDoor
open Go.RowKit Go.WideShapes Go.ChangeShapes Go.Deep Go.Joins
theorem weights_all {H : Type} {P : Program} {e : TypeId} : ∀ {l : List (DataW H)} {i : Nat} {d : DataW H}, l[i]? = some d → ∀ n ∈ d.weights P e, n ∈ DataW.weightsAll P e l
  | [], _, _, h, _, _ => by simp at h
  | x :: l, 0, d, h, n, hn => by
    simp only [List.getElem?_cons_zero, Option.some.injEq] at h
    subst h
    simp only [DataW.weightsAll, List.mem_append]
    exact .inl hn
  | x :: l, i + 1, d, h, n, hn => by
    simp only [List.getElem?_cons_succ] at h
    simp only [DataW.weightsAll, List.mem_append]
    exact .inr (weights_all h n hn)
section
variable {w : World} {H : Type} {enc : TypeId × Value → H}
set_option maxRecDepth 100000 in
theorem few_of_trod {Z : Nat → Prop} {A : Array Value} {v : JB} (hJ : JIn w Z A v) : ∀ (fuel : Nat) (x : DataW H × List MemPlace), DataW.trod enc Tryd.prog w 0 (fun _ => true) true fuel 25 A.toList = some x →
    (∀ n ∈ x.1.weights Tryd.prog 25, n ≤ reachBytes) → Few v := by
  induction hJ with
  | mk k b n t ns vs nq iq nc ic F hk hn hnc hic hnm him hnq hiq hN hI hR ih =>
    intro fuel x h hwt
    obtain ⟨xs, m, _, rfl, _, hxl, hf⟩ := DataW.trod_struct Tryd.underlying25 h
    match xs, hxl with
    | [y0, y1, y2, y3, y4, y5], _ =>
      have r4 : DataW.trod enc Tryd.prog w 0 (fun _ => true) true m 22 (((jA k b n t nq ns.length nc iq vs.length ic).toList.drop 4).take (Tryd.prog.cellsOf 22)) = some y4 := hf 4 _ rfl
      have r5 : DataW.trod enc Tryd.prog w 0 (fun _ => true) true m 23 (((jA k b n t nq ns.length nc iq vs.length ic).toList.drop 5).take (Tryd.prog.cellsOf 23)) = some y5 := hf 5 _ rfl
      rw [show Tryd.prog.cellsOf 22 = 1 by kernel_rfl] at r4
      rw [show Tryd.prog.cellsOf 23 = 1 by kernel_rfl] at r5
      have w4 : ∀ q ∈ y4.1.weights Tryd.prog 22, q ≤ reachBytes := fun q hq => hwt q (by
        simp only [DataW.weights, Tryd.underlying25]
        exact DataW.weights_mem_each (j := 4) (t := 22) (d := y4.1) rfl rfl q hq)
      have w5 : ∀ q ∈ y5.1.weights Tryd.prog 23, q ≤ reachBytes := fun q hq => hwt q (by
        simp only [DataW.weights, Tryd.underlying25]
        exact DataW.weights_mem_each (j := 5) (t := 23) (d := y5.1) rfl rfl q hq)
      refine .mk k b n t ns vs ?_ ?_ ?_
      · rcases DataW.trod_slice Tryd.underlying22 r4 with ⟨hcs, _⟩ | ⟨a, len, cap, elems, rest, n', _, hcs, rfl, _, _, _, hel, _, _⟩
        · simp only [jA, List.drop_succ_cons, List.drop_zero, List.take_succ_cons, List.take_zero, List.cons.injEq, Value.slice.injEq, and_true] at hcs
          omega
        · simp only [jA, List.drop_succ_cons, List.drop_zero, List.take_succ_cons, List.take_zero, List.cons.injEq, Value.slice.injEq, and_true] at hcs
          have := w4 ((elems.length + rest.length) * Tryd.prog.bytesOf 9) (by simp [DataW.weights, Tryd.underlying22])
          rw [show Tryd.prog.bytesOf 9 = 16 by kernel_rfl] at this
          unfold reachBytes at this
          omega
      · rcases DataW.trod_slice Tryd.underlying23 r5 with ⟨hcs, _⟩ | ⟨a, len, cap, elems, rest, n', _, hcs, rfl, _, _, _, hel, _, _⟩
        · simp only [jA, List.drop_succ_cons, List.drop_zero, List.take_succ_cons, List.take_zero, List.cons.injEq, Value.slice.injEq, and_true] at hcs
          omega
        · simp only [jA, List.drop_succ_cons, List.drop_zero, List.take_succ_cons, List.take_zero, List.cons.injEq, Value.slice.injEq, and_true] at hcs
          have := w5 ((elems.length + rest.length) * Tryd.prog.bytesOf 25) (by simp [DataW.weights, Tryd.underlying23])
          rw [show Tryd.prog.bytesOf 25 = 80 by kernel_rfl] at this
          unfold reachBytes at this
          omega
      · intro i y hy
        have hi : i < vs.length := (List.getElem?_eq_some_iff.1 hy).1
        rcases DataW.trod_slice Tryd.underlying23 r5 with ⟨hcs, _⟩ | ⟨a, len, cap, elems, rest, n', _, hcs, rfl, _, _, _, hel, hcell, _⟩
        · simp only [jA, List.drop_succ_cons, List.drop_zero, List.take_succ_cons, List.take_zero, List.cons.injEq, Value.slice.injEq, and_true] at hcs
          omega
        · simp only [jA, List.drop_succ_cons, List.drop_zero, List.take_succ_cons, List.take_zero, List.cons.injEq, Value.slice.injEq, and_true] at hcs
          obtain ⟨rfl, rfl, rfl⟩ := hcs
          obtain ⟨ab, ao, e0⟩ := hI.addr (by omega)
          cases e0
          have e := hcell i hi
          rw [show Tryd.prog.cellsOf 25 = 6 by kernel_rfl, List.getElem?_eq_getElem (by omega)] at e
          obtain ⟨cs', g1, g2⟩ := Option.bind_eq_some_iff.1 e
          obtain ⟨_, hlen, hc⟩ := World.cells?_some g1
          have hFs := (hR i y hy).size
          have hcs' : cs' = (F i).toList := by
            refine List.ext_getElem? fun j => ?_
            by_cases hj : j < 6
            · have c1 := hc j hj
              rw [add_add, add_flat] at c1
              have c2 := (hI.at hi).2 j hj
              rw [← Nat.add_assoc, c2] at c1
              rw [show (F i).toList[j]? = (F i)[j]? from Array.getElem?_toList ..]
              exact c1.symm
            · rw [List.getElem?_eq_none (by omega), List.getElem?_eq_none (by rw [Array.length_toList]; omega)]
          rw [hcs'] at g2
          refine ih i y hy n' _ g2 fun q hq => w5 q ?_
          simp only [DataW.weights, Tryd.underlying23, List.mem_cons, List.mem_append]
          exact .inr (.inl (weights_all (i := i) (by rw [List.getElem?_map, List.getElem?_eq_getElem (by omega)]; rfl) q hq))
end
end Go.Proofs.YtcfalgomcdmdhaaDoor
