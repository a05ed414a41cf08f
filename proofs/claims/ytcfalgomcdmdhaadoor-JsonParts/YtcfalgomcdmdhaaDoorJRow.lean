import Derived.Test.YtcfalgomcdmdhaaDoorJCon
import Derived.Test.YtcfalgomcdmdhaaDoorJNumW
import Derived.Test.YtcfalgomcdmdhaaDoorHeld
import Derived.Deep.AppendLies
namespace Go.Proofs.YtcfalgomcdmdhaaDoor
open Go.RowKit Go.WideShapes Go.Joins
def cellsA (As : List (Array Value)) : List Value := As.flatMap Array.toList
theorem cellsA_len : ∀ {As : List (Array Value)}, (∀ A ∈ As, A.size = 6) → (cellsA As).length = As.length * 6
  | [], _ => rfl
  | A :: As, h => by
    have h1 := h A (by simp)
    have h2 := cellsA_len (As := As) fun B hB => h B (by simp [hB])
    simp only [cellsA, List.flatMap_cons, List.length_append, List.length_cons, Array.length_toList] at h2 ⊢
    omega
theorem cellsA_app (l m : List (Array Value)) : cellsA (l ++ m) = cellsA l ++ cellsA m := by simp [cellsA]
theorem cellsA_at : ∀ {As : List (Array Value)} {i k : Nat}, (∀ A ∈ As, A.size = 6) → i < As.length → k < 6 → (cellsA As)[i * 6 + k]? = (As.getD i #[])[k]?
  | A :: As, 0, k, h, _, hk => by
    have h1 := h A (by simp)
    simp only [cellsA, List.flatMap_cons, Nat.zero_mul, Nat.zero_add, List.getD_cons_zero]
    rw [List.getElem?_append_left (by rw [Array.length_toList, h1]; exact hk), Array.getElem?_toList]
  | A :: As, i + 1, k, h, hi, hk => by
    have h1 := h A (by simp)
    have h2 := cellsA_at (As := As) (i := i) (k := k) (fun B hB => h B (by simp [hB])) (by simpa using hi) hk
    rw [show (i + 1) * 6 + k = A.toList.length + (i * 6 + k) from by rw [Array.length_toList, h1]; omega]
    simp only [cellsA, List.flatMap_cons, List.getD_cons_succ] at h2 ⊢
    rw [List.getElem?_append_right (by omega), Nat.add_sub_cancel_left]
    exact h2
  | [], _, _, _, h, _ => by simp at h
theorem info_json : (Tryd.prog.info? 25).map (fun i => (i.zero, i.size, i.bytes)) = some (some (.agg zeroA), 6, 80) := by kernel_rfl
theorem info_str : (Tryd.prog.info? 9).map (fun i => (i.zero, i.size, i.bytes)) = some (some (.string ⟨#[]⟩), 1, 16) := by kernel_rfl
theorem info_parts' {P : Program} {t : TypeId} {z : Option Value} {s b : Nat} (h : (P.info? t).map (fun i => (i.zero, i.size, i.bytes)) = some (z, s, b)) : ∃ i, P.info? t = some i ∧ i.zero = z ∧ i.size = s ∧ i.bytes = b := by
  cases hi : P.info? t with
  | none => rw [hi] at h; cases h
  | some i => rw [hi] at h; simp at h; exact ⟨i, rfl, h.1, h.2.1, h.2.2⟩
structure ItOwn (w : World) (base : Nat) (v : Value) (As : List (Array Value)) : Prop where
  sz : ∀ A ∈ As, A.size = 6
  own : w.ownsRow base 25 6 v As.length (cellsA As)
def NmOwn (w : World) (base : Nat) (v : Value) (ss : List ByteArray) : Prop := w.ownsRow base 9 1 v ss.length (ss.map Value.string)
theorem it_nil (w : World) (base : Nat) : ItOwn w base (.slice none 0 0) [] := ⟨by simp, World.ownsRow_nil _ _ _ _⟩
theorem nm_nil (w : World) (base : Nat) : NmOwn w base (.slice none 0 0) [] := World.ownsRow_nil _ _ _ _
theorem own_form {w : World} {base n : Nat} {e : TypeId} {s : Nat} {v : Value} {xs : List Value} (h : w.ownsRow base e s v n xs) : ∃ q m, v = .slice q n m ∧ n ≤ m ∧ m ≤ maxLen ∧ (q = none → m = 0) := by
  rcases h.2 with ⟨hv, hn⟩ | ⟨g, cap, cur, hv, _, _, h1, h2, _⟩
  · exact ⟨none, 0, by rw [hv, hn], by omega, by unfold maxLen; omega, fun _ => rfl⟩
  · exact ⟨_, cap, hv, h1, h2, fun h => by cases h⟩
theorem ItOwn.vs {w : World} {base n m : Nat} {q : Option Addr} {As : List (Array Value)} (h : ItOwn w base (.slice q n m) As) : VsIn w (fun k => base ≤ k) q (fun i => As.getD i #[]) As.length := by
  intro hp
  rcases h.own.2 with ⟨_, hn⟩ | ⟨g, cap, cur, hv, hb, hg, hle, hmax, hsz, htk⟩
  · omega
  · simp only [Value.slice.injEq] at hv
    obtain ⟨rfl, rfl, rfl⟩ := hv
    refine ⟨g, 0, rfl, hb, fun i hi k hk => ?_⟩
    rw [show 0 + i * 6 + k = i * 6 + k by omega, World.ownsRow.cellAt h.own _ (by omega), cellsA_at h.sz hi hk]
theorem NmOwn.ss {w : World} {base n m : Nat} {q : Option Addr} {ss : List ByteArray} (h : NmOwn w base (.slice q n m) ss) : SsIn w (fun k => base ≤ k) q ss := by
  intro hp
  rcases h.2 with ⟨_, hn⟩ | ⟨g, cap, cur, hv, hb, hg, hle, hmax, hsz, htk⟩
  · omega
  · simp only [Value.slice.injEq] at hv
    obtain ⟨rfl, rfl, rfl⟩ := hv
    refine ⟨g, 0, rfl, hb, fun i s hi => ?_⟩
    have hlt := (List.getElem?_eq_some_iff.1 hi).1
    rw [Nat.zero_add, World.ownsRow.cellAt h _ (by omega), List.getElem?_map, hi]; rfl
theorem ItOwn.kept {w w' : World} {base : Nat} {v : Value} {As : List (Array Value)} {row : Option Nat} (h : ItOwn w base v As) (hg : w.grownBy w' row) (hne : v.ownBlock = none ∨ v.ownBlock ≠ row) : ItOwn w' base v As := ⟨h.sz, h.own.kept hg hne⟩
theorem NmOwn.kept {w w' : World} {base : Nat} {v : Value} {ss : List ByteArray} {row : Option Nat} (h : NmOwn w base v ss) (hg : w.grownBy w' row) (hne : v.ownBlock = none ∨ v.ownBlock ≠ row) : NmOwn w' base v ss := World.ownsRow.kept h hg hne
theorem jin_one {w : World} {Z : Nat → Prop} {A : Array Value} {x : JB} (h : JIn w Z A x) : ∀ u ∈ A.toList, u.oneCell' = true := by
  cases h
  intro u hu
  simp only [jA, List.mem_cons, List.not_mem_nil, or_false] at hu
  rcases hu with rfl | rfl | rfl | rfl | rfl | rfl <;> rfl
theorem JIn.kept {w w' : World} {Z : Nat → Prop} {A : Array Value} {x : JB} (h : JIn w Z A x) {row : Option Nat} (hg : w.grownBy w' row) (hz : ∀ k, Z k → some k ≠ row) : JIn w' Z A x :=
  h.mono fun a v z hc => ⟨by
    have hlt := World.block_lt_of_cell? _ _ hc
    unfold World.cell? at hc ⊢
    rw [hg.block a.block hlt (hz _ z)]; exact hc, z⟩
def ItsIn (w : World) (Z : Nat → Prop) (As : List (Array Value)) (Js : List JB) : Prop := As.length = Js.length ∧ ∀ (i : Nat) (A : Array Value) (x : JB), As[i]? = some A → Js[i]? = some x → JIn w Z A x
theorem its_nil (w : World) (Z : Nat → Prop) : ItsIn w Z [] [] := ⟨rfl, by intro i A x h; simp at h⟩
theorem ItsIn.kept {w w' : World} {Z : Nat → Prop} {As : List (Array Value)} {Js : List JB} (h : ItsIn w Z As Js) {row : Option Nat} (hg : w.grownBy w' row) (hz : ∀ k, Z k → some k ≠ row) : ItsIn w' Z As Js :=
  ⟨h.1, fun i A x h1 h2 => (h.2 i A x h1 h2).kept hg hz⟩
theorem ItsIn.wk {w : World} {Z Z' : Nat → Prop} {As : List (Array Value)} {Js : List JB} (h : ItsIn w Z As Js) (hz : ∀ k, Z k → k < w.heap.size → Z' k) : ItsIn w Z' As Js :=
  ⟨h.1, fun i A x h1 h2 => (h.2 i A x h1 h2).lt.wk fun k hk => hz k hk.1 hk.2⟩
theorem ItsIn.app {w : World} {Z : Nat → Prop} {As : List (Array Value)} {Js : List JB} {A : Array Value} {x : JB} (h : ItsIn w Z As Js) (hx : JIn w Z A x) : ItsIn w Z (As ++ [A]) (Js ++ [x]) := by
  refine ⟨by simp [h.1], fun i B y h1 h2 => ?_⟩
  by_cases hi : i < As.length
  · rw [List.getElem?_append_left hi] at h1
    rw [List.getElem?_append_left (by rw [← h.1]; exact hi)] at h2
    exact h.2 i B y h1 h2
  · rw [List.getElem?_append_right (by omega)] at h1
    rw [List.getElem?_append_right (by rw [← h.1]; omega), ← h.1] at h2
    have : i - As.length = 0 := by
      rcases Nat.eq_zero_or_pos (i - As.length) with h0 | h0
      · exact h0
      · rw [List.getElem?_eq_none (by simp; omega)] at h1; cases h1
    rw [this] at h1 h2
    simp at h1 h2
    subst h1 h2
    exact hx
theorem jin_group {w : World} {base : Nat} {k : Nat} (hk : k < 256) {nq iq : Option Addr} {nl nc il ic : Nat} {ss : List ByteArray} {As : List (Array Value)} {Js : List JB} {Z : Nat → Prop}
    (hN : NmOwn w base (.slice nq nl nc) ss) (hI : ItOwn w base (.slice iq il ic) As) (hJ : ItsIn w Z As Js) (hz : ∀ k, Z k → base ≤ k) :
    JIn w (fun k => base ≤ k) (jA k false 0 ⟨#[]⟩ nq nl nc iq il ic) (.mk k false 0 ⟨#[]⟩ ss Js) := by
  obtain ⟨q1, m1, e1, a1, a2, a3⟩ := own_form hN
  obtain ⟨q2, m2, e2, b1, b2, b3⟩ := own_form hI.own
  cases e1
  cases e2
  rw [hJ.1] at b1 ⊢
  refine JIn.mk k false 0 ⟨#[]⟩ ss Js nq iq nc ic (fun i => As.getD i #[]) hk rng_zero a1 b1 a2 b2 a3 b3 hN.ss (by have := hI.vs; rw [hJ.1] at this; exact this) (fun i x hi => ?_)
  have hlt : i < As.length := by rw [hJ.1]; exact (List.getElem?_eq_some_iff.1 hi).1
  rw [List.getD_eq_getElem?_getD, List.getElem?_eq_getElem hlt]
  exact (hJ.2 i _ x (List.getElem?_eq_getElem hlt) hi).wk hz
end Go.Proofs.YtcfalgomcdmdhaaDoor
