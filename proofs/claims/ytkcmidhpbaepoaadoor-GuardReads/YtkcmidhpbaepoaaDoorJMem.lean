/-
  Values in memory: a tree whose texts are bytes, and where its rows lie. No program.
-/
import Derived.Test.YtkcmidhpbaepoaaDoorJBack
import Derived.Test.YtkcmidhpbaepoaaDoorXNum
import Derived.OpenShut
namespace Go.Proofs.YtkcmidhpbaepoaaDoor
open Go.RowKit Go.WideShapes

/-- A value whose texts are bytes. -/
inductive JB where
  | mk (kind : Nat) (b : Bool) (n : Int) (text : ByteArray) (names : List ByteArray) (items : List JB)
mutual
def JB.toJ : JB → J.JV
  | .mk k b n t ns vs => .mk k b n (numsOf t) (ns.map numsOf) (toJs vs)
def toJs : List JB → List J.JV
  | [] => []
  | v :: vs => v.toJ :: toJs vs
end
theorem toJs_map : ∀ l : List JB, toJs l = l.map JB.toJ
  | [] => by simp [toJs]
  | v :: l => by simp [toJs, toJs_map l]
theorem toJs_len (l : List JB) : (toJs l).length = l.length := by rw [toJs_map, List.length_map]
theorem toJs_app (l m : List JB) : toJs (l ++ m) = toJs l ++ toJs m := by rw [toJs_map, toJs_map, toJs_map, List.map_append]
mutual
/-- how many lists stand within each other -/
def JB.ht : JB → Nat
  | .mk _ _ _ _ _ vs => htL vs + 1
def htL : List JB → Nat
  | [] => 0
  | v :: vs => max v.ht (htL vs)
end
theorem ht_at : ∀ {l : List JB} {i : Nat} {x : JB}, l[i]? = some x → x.ht ≤ htL l
  | v :: l, 0, x, h => by simp at h; subst h; simp only [htL]; omega
  | v :: l, i + 1, x, h => by simp at h; have := ht_at h; simp only [htL]; omega
  | [], _, _, h => by simp at h
theorem numsOf_inj {a b : ByteArray} (h : numsOf a = numsOf b) : a = b := by rw [← strOf_nums a, ← strOf_nums b, h]
theorem numsOf_map_inj : ∀ {l m : List ByteArray}, l.map numsOf = m.map numsOf → l = m
  | [], [], _ => rfl
  | [], _ :: _, h => by simp at h
  | _ :: _, [], h => by simp at h
  | a :: l, b :: m, h => by
    simp only [List.map_cons, List.cons.injEq] at h
    rw [numsOf_inj h.1, numsOf_map_inj h.2]
mutual
theorem toJ_inj : ∀ (a b : JB), a.toJ = b.toJ → a = b
  | .mk k b n t ns vs, .mk k' b' n' t' ns' vs', h => by
    simp only [JB.toJ, J.JV.mk.injEq] at h
    obtain ⟨rfl, rfl, rfl, h1, h2, h3⟩ := h
    rw [numsOf_inj h1, numsOf_map_inj h2, toJs_inj vs vs' h3]
theorem toJs_inj : ∀ (l m : List JB), toJs l = toJs m → l = m
  | [], [], _ => rfl
  | [], _ :: _, h => by simp [toJs] at h
  | _ :: _, [], h => by simp [toJs] at h
  | a :: l, b :: m, h => by
    simp only [toJs, List.cons.injEq] at h
    rw [toJ_inj a b h.1, toJs_inj l m h.2]
end
def JB.kind : JB → Nat | .mk k _ _ _ _ _ => k
def JB.bool : JB → Bool | .mk _ b _ _ _ _ => b
def JB.int : JB → Int | .mk _ _ n _ _ _ => n
def JB.text : JB → ByteArray | .mk _ _ _ t _ _ => t
def JB.names : JB → List ByteArray | .mk _ _ _ _ ns _ => ns
def JB.items : JB → List JB | .mk _ _ _ _ _ vs => vs
def zeroB : JB := .mk 0 false 0 ByteArray.empty [] []

/-- A row of texts at an address. -/
def SsIn (w : World) (Z : Nat → Prop) (q : Option Addr) (ss : List ByteArray) : Prop :=
  0 < ss.length → ∃ b o, q = some ⟨b, o, none⟩ ∧ Z b ∧ ∀ i s, ss[i]? = some s → w.cell? ⟨b, o + i, none⟩ = some (.string s)
/-- A row of n structs of six cells at an address. -/
def VsIn (w : World) (Z : Nat → Prop) (q : Option Addr) (F : Nat → Array Value) (n : Nat) : Prop :=
  0 < n → ∃ b o, q = some ⟨b, o, none⟩ ∧ Z b ∧ ∀ i, i < n → ∀ k, k < 6 → w.cell? ⟨b, o + i * 6 + k, none⟩ = (F i)[k]?
def jA (k : Nat) (b : Bool) (n : Int) (t : ByteArray) (nq : Option Addr) (nl nc : Nat) (iq : Option Addr) (il ic : Nat) : Array Value :=
  #[.int .u8 (k : Int), .bool b, .int .i64 n, .string t, .slice nq nl nc, .slice iq il ic]
/-- A value lies in memory, in blocks of a kind. -/
inductive JIn (w : World) (Z : Nat → Prop) : Array Value → JB → Prop where
  | mk (k : Nat) (b : Bool) (n : Int) (t : ByteArray) (ns : List ByteArray) (vs : List JB) (nq iq : Option Addr) (nc ic : Nat) (F : Nat → Array Value)
      (hk : k < 256) (hn : J.Rng n) (hnc : ns.length ≤ nc) (hic : vs.length ≤ ic) (hnm : nc ≤ maxLen) (him : ic ≤ maxLen) (hnq : nq = none → nc = 0) (hiq : iq = none → ic = 0)
      (hN : SsIn w Z nq ns) (hI : VsIn w Z iq F vs.length) (hR : ∀ i x, vs[i]? = some x → JIn w Z (F i) x) :
      JIn w Z (jA k b n t nq ns.length nc iq vs.length ic) (.mk k b n t ns vs)
theorem SsIn.mono {w w' : World} {Z Z' : Nat → Prop} {q : Option Addr} {ss : List ByteArray} (h : SsIn w Z q ss)
    (hz : ∀ a v, Z a.block → w.cell? a = some v → w'.cell? a = some v ∧ Z' a.block) : SsIn w' Z' q ss := by
  intro hp
  obtain ⟨b, o, rfl, z, hc⟩ := h hp
  have h0 : ss[0]? = some ss[0] := List.getElem?_eq_getElem hp
  exact ⟨b, o, rfl, (hz ⟨b, o + 0, none⟩ _ z (hc 0 _ h0)).2, fun i s hi => (hz ⟨b, o + i, none⟩ _ z (hc i s hi)).1⟩
theorem VsIn.mono {w w' : World} {Z Z' : Nat → Prop} {q : Option Addr} {F : Nat → Array Value} {n : Nat} (h : VsIn w Z q F n) (hs : ∀ i, i < n → (F i).size = 6)
    (hz : ∀ a v, Z a.block → w.cell? a = some v → w'.cell? a = some v ∧ Z' a.block) : VsIn w' Z' q F n := by
  intro hp
  obtain ⟨b, o, rfl, z, hc⟩ := h hp
  have key : ∀ i, i < n → ∀ k, k < 6 → w'.cell? ⟨b, o + i * 6 + k, none⟩ = (F i)[k]? ∧ Z' b := by
    intro i hi k hk
    have e := hc i hi k hk
    have s := hs i hi
    rw [Array.getElem?_eq_getElem (by omega)] at e ⊢
    have := hz ⟨b, o + i * 6 + k, none⟩ _ z e
    exact ⟨this.1, this.2⟩
  exact ⟨b, o, rfl, (key 0 hp 0 (by omega)).2, fun i hi k hk => (key i hi k hk).1⟩
theorem JIn.size {w : World} {Z : Nat → Prop} {A : Array Value} {v : JB} (h : JIn w Z A v) : A.size = 6 := by cases h; rfl
theorem JIn.mono {w w' : World} {Z Z' : Nat → Prop} {A : Array Value} {v : JB} (h : JIn w Z A v)
    (hz : ∀ a v, Z a.block → w.cell? a = some v → w'.cell? a = some v ∧ Z' a.block) : JIn w' Z' A v := by
  induction h with
  | mk k b n t ns vs nq iq nc ic F hk hn hnc hic hnm him hnq hiq hN hI hR ih =>
    exact .mk k b n t ns vs nq iq nc ic F hk hn hnc hic hnm him hnq hiq (hN.mono hz) (hI.mono (fun i hi => (hR i _ (List.getElem?_eq_getElem hi)).size) hz) ih
theorem below_cell {w w' : World} {a : Addr} {v : Value} (h : w.cell? a = some v) (hb : Below w.heap.size w w') : w'.cell? a = some v := (hb.cell (World.block_lt_of_cell? _ _ h)).trans h
theorem JIn.bel {w w' : World} {Z : Nat → Prop} {A : Array Value} {v : JB} (h : JIn w Z A v) (hb : Below w.heap.size w w') : JIn w' Z A v :=
  h.mono fun _ _ z hc => ⟨below_cell hc hb, z⟩
theorem JIn.any {w : World} {Z : Nat → Prop} {A : Array Value} {v : JB} (h : JIn w Z A v) : JIn w (fun _ => True) A v :=
  h.mono fun _ _ _ hc => ⟨hc, trivial⟩
theorem JIn.wk {w : World} {Z Z' : Nat → Prop} {A : Array Value} {v : JB} (h : JIn w Z A v) (hz : ∀ b, Z b → Z' b) : JIn w Z' A v :=
  h.mono fun _ _ z hc => ⟨hc, hz _ z⟩
/-- all its blocks are there -/
theorem JIn.lt {w : World} {Z : Nat → Prop} {A : Array Value} {v : JB} (h : JIn w Z A v) : JIn w (fun b => Z b ∧ b < w.heap.size) A v :=
  h.mono fun _ _ z hc => ⟨hc, z, World.block_lt_of_cell? _ _ hc⟩
/-- what a row of values says of its i-th -/
theorem VsIn.at {w : World} {Z : Nat → Prop} {b o : Nat} {F : Nat → Array Value} {n i : Nat} (h : VsIn w Z (some ⟨b, o, none⟩) F n) (hi : i < n) :
    Z b ∧ ∀ k, k < 6 → w.cell? ⟨b, o + i * 6 + k, none⟩ = (F i)[k]? := by
  obtain ⟨b', o', e, z, hc⟩ := h (by omega)
  simp only [Option.some.injEq, Addr.mk.injEq, and_true] at e
  obtain ⟨rfl, rfl⟩ := e
  exact ⟨z, hc i hi⟩
theorem VsIn.addr {w : World} {Z : Nat → Prop} {q : Option Addr} {F : Nat → Array Value} {n : Nat} (h : VsIn w Z q F n) (hp : 0 < n) : ∃ b o, q = some ⟨b, o, none⟩ := by
  obtain ⟨b, o, e, _⟩ := h hp
  exact ⟨b, o, e⟩
theorem SsIn.addr {w : World} {Z : Nat → Prop} {q : Option Addr} {ss : List ByteArray} (h : SsIn w Z q ss) (hp : 0 < ss.length) : ∃ b o, q = some ⟨b, o, none⟩ := by
  obtain ⟨b, o, e, _⟩ := h hp
  exact ⟨b, o, e⟩
theorem SsIn.at {w : World} {Z : Nat → Prop} {b o : Nat} {ss : List ByteArray} (h : SsIn w Z (some ⟨b, o, none⟩) ss) {i : Nat} (hi : i < ss.length) :
    w.cell? ⟨b, o + i, none⟩ = some (.string (ss.getD i ByteArray.empty)) := by
  obtain ⟨b', o', e, z, hc⟩ := h (by omega)
  simp only [Option.some.injEq, Addr.mk.injEq, and_true] at e
  obtain ⟨rfl, rfl⟩ := e
  rw [List.getD_eq_getElem?_getD, List.getElem?_eq_getElem hi]
  exact hc i _ (List.getElem?_eq_getElem hi)
theorem ss_nil (w : World) (Z : Nat → Prop) (q : Option Addr) : SsIn w Z q [] := fun h => absurd h (by simp)
theorem vs_nil (w : World) (Z : Nat → Prop) (q : Option Addr) (F : Nat → Array Value) : VsIn w Z q F 0 := fun h => absurd h (by simp)
/-- Six cells of one value within a row. -/
structure JAt (w : World) (b o k : Nat) (bb : Bool) (n : Int) (t : ByteArray) (nv iv : Value) : Prop where
  c0 : w.cell? ⟨b, o, none⟩ = some (.int .u8 (k : Int))
  c1 : w.cell? ⟨b, o + 1, none⟩ = some (.bool bb)
  c2 : w.cell? ⟨b, o + 2, none⟩ = some (.int .i64 n)
  c3 : w.cell? ⟨b, o + 3, none⟩ = some (.string t)
  c4 : w.cell? ⟨b, o + 4, none⟩ = some nv
  c5 : w.cell? ⟨b, o + 5, none⟩ = some iv
theorem jat_of {w : World} {b o k : Nat} {bb : Bool} {n : Int} {t : ByteArray} {nq iq : Option Addr} {nl nc il ic : Nat}
    (h : ∀ j, j < 6 → w.cell? ⟨b, o + j, none⟩ = (jA k bb n t nq nl nc iq il ic)[j]?) : JAt w b o k bb n t (.slice nq nl nc) (.slice iq il ic) :=
  ⟨h 0 (by omega), h 1 (by omega), h 2 (by omega), h 3 (by omega), h 4 (by omega), h 5 (by omega)⟩
theorem JAt.below {w w' : World} {b o k : Nat} {bb : Bool} {n : Int} {t : ByteArray} {nv iv : Value} (h : JAt w b o k bb n t nv iv) (hb : Below w.heap.size w w') : JAt w' b o k bb n t nv iv :=
  ⟨below_cell h.c0 hb, below_cell h.c1 hb, below_cell h.c2 hb, below_cell h.c3 hb, below_cell h.c4 hb, below_cell h.c5 hb⟩
/-- a value without rows -/
theorem jin_flat (w : World) (Z : Nat → Prop) (k : Nat) (b : Bool) (n : Int) (t : ByteArray) (hk : k < 256) (hn : J.Rng n) : JIn w Z (jA k b n t none 0 0 none 0 0) (.mk k b n t [] []) :=
  .mk k b n t [] [] none none 0 0 (fun _ => #[]) hk hn (Nat.le_refl _) (Nat.le_refl _) (Nat.zero_le _) (Nat.zero_le _) (fun _ => rfl) (fun _ => rfl) (ss_nil _ _ _) (vs_nil _ _ _ _) (by intro i x h; simp at h)
theorem rng_zero : J.Rng 0 := by unfold J.Rng; omega
end Go.Proofs.YtkcmidhpbaepoaaDoor
