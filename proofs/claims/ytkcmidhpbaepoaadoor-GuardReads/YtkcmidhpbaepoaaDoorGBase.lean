/-
  What walks lean on; a guard in memory; the program's reader in memory.
-/
import Derived.Test.YtkcmidhpbaepoaaDoorGMath
import Derived.Test.YtkcmidhpbaepoaaDoorProg
import Derived.Test.YtkcmidhpbaepoaaDoorXShelfG
import Derived.Laws.ResultCell
import Derived.Lib.SlicesS
import Derived.Deep.QuietTactic
import Derived.Deep.Cut
import Derived.Deep.RegionHeld3
import Derived.Deep.RegionWith
import Derived.BigQuiet
import Derived.WalkLawsBesides
import Derived.WalkSpells
namespace Go.Proofs.YtkcmidhpbaepoaaDoor.G
open Go.RowKit Go.WideShapes Go.Joins

theorem below_new (w : World) (o : Obj) : Below w.heap.size w (w.alloc o) := (Below.refl _ _).alloc (Nat.le_refl _) o
theorem below_more {w0 w1 w2 : World} (h : Below w0.heap.size w0 w1) (k : Below w1.heap.size w1 w2) : Below w0.heap.size w0 w2 := h.trans (k.mono h.size)
theorem below_dN {B : Nat} {a w : World} (h : Below B a w) (n : Nat) : Below B a (w.drewN n) := ⟨h.os, h.tape, h.output, h.size, h.block⟩
theorem heap_lt {w : World} {g : Nat} {o : Obj} (h : w.heap[g]? = some o) : g < w.heap.size := (Array.getElem?_eq_some_iff.1 h).1
theorem box_below {w w' : World} {g : Nat} {o : Obj} (h : w.heap[g]? = some o) (hb : Below w.heap.size w w') : w'.heap[g]? = some o := (hb.block g (heap_lt h)).trans h
theorem box_at {w w' : World} {row : Option Nat} {g : Nat} {o : Obj} (hg : w.grownBy w' row) (h : w.heap[g]? = some o) (hne : some g ≠ row) : w'.heap[g]? = some o := (hg.block g (heap_lt h) hne).trans h
theorem grown_set (w : World) (g i : Nat) (v : Value) : w.grownBy (w.setCell ⟨g, i, none⟩ v) (some g) :=
  ⟨rfl, rfl, rfl, by simp, fun k _ hn => Below.heap_setCell w ⟨g, i, none⟩ v k (fun e => hn (by rw [e]))⟩
theorem grown_trans {a b c : World} {r : Option Nat} (h1 : a.grownBy b r) (h2 : b.grownBy c r) : a.grownBy c r :=
  ⟨h2.os.trans h1.os, h2.tape.trans h1.tape, h2.output.trans h1.output, Nat.le_trans h1.size h2.size, fun k hk hn => (h2.block k (Nat.lt_of_lt_of_le hk h1.size) hn).trans (h1.block k hk hn)⟩
theorem grown_below {a b : World} (h : Below a.heap.size a b) (r : Option Nat) : a.grownBy b r := ⟨h.os, h.tape, h.output, h.size, fun k hk _ => h.block k hk⟩
theorem grown_refl (a : World) (r : Option Nat) : a.grownBy a r := ⟨rfl, rfl, rfl, Nat.le_refl _, fun _ _ _ => rfl⟩
def rp (b : Nat) : Value := .pointer (some ⟨b, 0, none⟩)
theorem str_at (s : ByteArray) (k : Nat) (h : k < s.size) (w : World) : (Instr.index 9 (.string s) (.int .i64 (k : Int))).run Tryd.prog w = .ok (.int .u8 ((numsOf s).getD k 0 : Nat)) w := by
  rw [run_index_string w 9 s .i64 k Tryd.underlying9, dif_pos ⟨by omega, by omega⟩]
  have h2 : k < (numsOf s).length := by rw [numsOf_len]; exact h
  rw [List.getD_eq_getElem?_getD, List.getElem?_eq_getElem h2]
  simp [numsOf, ByteArray.getElem_eq_getElem_data]
theorem slice_mid (s : ByteArray) (i j : Nat) (h1 : i ≤ j) (h2 : j ≤ s.size) (w : World) : (Instr.slice 9 (.string s) (some (.int .i64 (i : Int))) (some (.int .i64 (j : Int))) none).run Tryd.prog w = .ok (.string (s.extract i j)) w := by
  rw [run_slice_string w 9 s .i64 .i64 (i : Int) (j : Int) Tryd.underlying9 (by omega) (by omega) (by omega)]
  simp
theorem nums_byte (s : ByteArray) (k : Nat) (h : k < s.size) : (numsOf s).getD k 0 < 256 := by
  refine numsOf_lt s _ ?_
  rw [List.getD_eq_getElem?_getD, List.getElem?_eq_getElem (by rw [numsOf_len]; exact h)]
  exact List.getElem_mem _
theorem extract_nums (s : ByteArray) (i j : Nat) : numsOf (s.extract i j) = ((numsOf s).drop i).take (j - i) := by
  unfold numsOf
  rw [← List.map_drop, ← List.map_take]
  congr 1
  simp [ByteArray.data_extract, Array.toList_extract, List.extract_eq_take_drop]
theorem bset (c k : Nat) (h : c ≠ k) : ((c : Int) == (k : Int)) = false := by simpa using fun e : (c : Int) = (k : Int) => h (by omega)
theorem str_is {nm : ByteArray} {xs : List Nat} (hx : ∀ c ∈ xs, c < 256) : (nm.toList == (strOf xs).toList) = decide (numsOf nm = xs) := by
  by_cases h : numsOf nm = xs
  · have : nm = strOf xs := by rw [← h, strOf_nums]
    rw [decide_eq_true h]
    exact (Lib.bytes_beq_iff _ _).2 this
  · rw [decide_eq_false h]
    exact (Lib.bytes_beq_false_iff _ _).2 fun e => h (by rw [e, nums_strOf hx])

/-! a guard in memory -/
def gA (k : Nat) (n : Int) (t : ByteArray) (q : Option Addr) (l c : Nat) : Array Value := #[.int .u8 (k : Int), .int .i64 n, .string t, .slice q l c]
/-- A row of n structs of four cells at an address. -/
def KsIn (w : World) (Z : Nat → Prop) (q : Option Addr) (F : Nat → Array Value) (n : Nat) : Prop :=
  0 < n → ∃ b o, q = some ⟨b, o, none⟩ ∧ Z b ∧ ∀ i, i < n → ∀ k, k < 4 → w.cell? ⟨b, o + i * 4 + k, none⟩ = (F i)[k]?
/-- A guard lies in memory, in blocks of a kind. -/
inductive GIn (w : World) (Z : Nat → Prop) : Array Value → GB → Prop where
  | mk (k : Nat) (n : Int) (t : ByteArray) (gs : List GB) (q : Option Addr) (c : Nat) (F : Nat → Array Value)
      (hk : k < 256) (hn : J.Rng n) (hc : gs.length ≤ c) (hm : c ≤ maxLen) (hq : q = none → c = 0)
      (hK : KsIn w Z q F gs.length) (hR : ∀ i x, gs[i]? = some x → GIn w Z (F i) x) :
      GIn w Z (gA k n t q gs.length c) (.mk k n t gs)
theorem GIn.size {w : World} {Z : Nat → Prop} {A : Array Value} {g : GB} (h : GIn w Z A g) : A.size = 4 := by cases h; rfl
theorem KsIn.mono {w w' : World} {Z Z' : Nat → Prop} {q : Option Addr} {F : Nat → Array Value} {n : Nat} (h : KsIn w Z q F n) (hs : ∀ i, i < n → (F i).size = 4)
    (hz : ∀ a v, Z a.block → w.cell? a = some v → w'.cell? a = some v ∧ Z' a.block) : KsIn w' Z' q F n := by
  intro hp
  obtain ⟨b, o, rfl, z, hc⟩ := h hp
  have key : ∀ i, i < n → ∀ k, k < 4 → w'.cell? ⟨b, o + i * 4 + k, none⟩ = (F i)[k]? ∧ Z' b := by
    intro i hi k hk
    have e := hc i hi k hk
    have s := hs i hi
    rw [Array.getElem?_eq_getElem (by omega)] at e ⊢
    have := hz ⟨b, o + i * 4 + k, none⟩ _ z e
    exact ⟨this.1, this.2⟩
  exact ⟨b, o, rfl, (key 0 hp 0 (by omega)).2, fun i hi k hk => (key i hi k hk).1⟩
theorem GIn.mono {w w' : World} {Z Z' : Nat → Prop} {A : Array Value} {g : GB} (h : GIn w Z A g)
    (hz : ∀ a v, Z a.block → w.cell? a = some v → w'.cell? a = some v ∧ Z' a.block) : GIn w' Z' A g := by
  induction h with
  | mk k n t gs q c F hk hn hc hm hq hK hR ih =>
    exact .mk k n t gs q c F hk hn hc hm hq (hK.mono (fun i hi => (hR i _ (List.getElem?_eq_getElem hi)).size) hz) ih
theorem below_cell {w w' : World} {a : Addr} {v : Value} (h : w.cell? a = some v) (hb : Below w.heap.size w w') : w'.cell? a = some v := (hb.cell (World.block_lt_of_cell? _ _ h)).trans h
theorem GIn.bel {w w' : World} {Z : Nat → Prop} {A : Array Value} {g : GB} (h : GIn w Z A g) (hb : Below w.heap.size w w') : GIn w' Z A g :=
  h.mono fun _ _ z hc => ⟨below_cell hc hb, z⟩
theorem GIn.wk {w : World} {Z Z' : Nat → Prop} {A : Array Value} {g : GB} (h : GIn w Z A g) (hz : ∀ b, Z b → Z' b) : GIn w Z' A g :=
  h.mono fun _ _ z hc => ⟨hc, hz _ z⟩
theorem GIn.grown {w w' : World} {Z : Nat → Prop} {A : Array Value} {g : GB} {b : Nat} (h : GIn w Z A g) (hg : w.grownBy w' (some b)) (hz : ∀ k, Z k → k ≠ b) : GIn w' Z A g :=
  h.mono fun _ _ z hc => ⟨hg.cell hc (fun e => hz _ z (Option.some.inj e)), z⟩
theorem gin_form {w : World} {Z : Nat → Prop} {A : Array Value} {g : GB} (h : GIn w Z A g) : ∃ k n t q l c, A = gA k n t q l c := by
  cases h
  exact ⟨_, _, _, _, _, _, rfl⟩
theorem ks_nil (w : World) (Z : Nat → Prop) (q : Option Addr) (F : Nat → Array Value) : KsIn w Z q F 0 := fun h => absurd h (by simp)
theorem rng_zero : J.Rng 0 := by unfold J.Rng; omega
/-- a guard without kids -/
theorem gin_leaf (w : World) (Z : Nat → Prop) (k : Nat) (n : Int) (t : ByteArray) (hk : k < 256) (hn : J.Rng n) : GIn w Z (gA k n t none 0 0) (.mk k n t []) :=
  .mk k n t [] none 0 (fun _ => #[]) hk hn (Nat.le_refl _) (Nat.zero_le _) (fun _ => rfl) (ks_nil _ _ _ _) (by intro i x h; simp at h)
/-- a guard of two kids, whose row was just laid -/
theorem gin_pair {w : World} {Z : Nat → Prop} {a b : GB} {k1 k2 : Nat} {n1 n2 : Int} {t1 t2 : ByteArray} {q1 q2 : Option Addr} {l1 c1 l2 c2 : Nat} (h1 : GIn w Z (gA k1 n1 t1 q1 l1 c1) a) (h2 : GIn w Z (gA k2 n2 t2 q2 l2 c2) b) (k : Nat) (hk : k < 256) (hz : Z w.heap.size) :
    GIn (w.alloc (.cells #[.int .u8 (k1 : Int), .int .i64 n1, .string t1, .slice q1 l1 c1, .int .u8 (k2 : Int), .int .i64 n2, .string t2, .slice q2 l2 c2] 24)) Z (gA k 0 ByteArray.empty (some ⟨w.heap.size, 0, none⟩) 2 2) (pair k a b) := by
  have hb := below_new w (.cells #[.int .u8 (k1 : Int), .int .i64 n1, .string t1, .slice q1 l1 c1, .int .u8 (k2 : Int), .int .i64 n2, .string t2, .slice q2 l2 c2] 24)
  have hn := _root_.Go.heap_alloc_new w (.cells #[.int .u8 (k1 : Int), .int .i64 n1, .string t1, .slice q1 l1 c1, .int .u8 (k2 : Int), .int .i64 n2, .string t2, .slice q2 l2 c2] 24)
  refine .mk k 0 ByteArray.empty [a, b] (some ⟨w.heap.size, 0, none⟩) 2 (fun i => if i = 0 then gA k1 n1 t1 q1 l1 c1 else gA k2 n2 t2 q2 l2 c2) hk rng_zero (Nat.le_refl _) (by unfold maxLen; omega) (fun h => by cases h) ?_ ?_
  · intro _
    refine ⟨w.heap.size, 0, rfl, hz, fun i hi j hj => ?_⟩
    rw [cell_of_block hn]
    match i, hi with
    | 0, _ =>
      match j, hj with
      | 0, _ => rfl
      | 1, _ => rfl
      | 2, _ => rfl
      | 3, _ => rfl
    | 1, _ =>
      match j, hj with
      | 0, _ => rfl
      | 1, _ => rfl
      | 2, _ => rfl
      | 3, _ => rfl
  · intro i x hx
    match i, hx with
    | 0, hx => simp at hx; subst hx; exact h1.bel hb
    | 1, hx => simp at hx; subst hx; exact h2.bel hb
    | i + 2, hx => simp at hx
/-- a guard of one kid -/
theorem gin_one {w : World} {Z : Nat → Prop} {a : GB} {k1 : Nat} {n1 : Int} {t1 : ByteArray} {q1 : Option Addr} {l1 c1 : Nat} (h1 : GIn w Z (gA k1 n1 t1 q1 l1 c1) a) (k : Nat) (hk : k < 256) (hz : Z w.heap.size) :
    GIn (w.alloc (.cells #[.int .u8 (k1 : Int), .int .i64 n1, .string t1, .slice q1 l1 c1] 24)) Z (gA k 0 ByteArray.empty (some ⟨w.heap.size, 0, none⟩) 1 1) (one k a) := by
  have hb := below_new w (.cells #[.int .u8 (k1 : Int), .int .i64 n1, .string t1, .slice q1 l1 c1] 24)
  have hn := _root_.Go.heap_alloc_new w (.cells #[.int .u8 (k1 : Int), .int .i64 n1, .string t1, .slice q1 l1 c1] 24)
  refine .mk k 0 ByteArray.empty [a] (some ⟨w.heap.size, 0, none⟩) 1 (fun _ => gA k1 n1 t1 q1 l1 c1) hk rng_zero (Nat.le_refl _) (by unfold maxLen; omega) (fun h => by cases h) ?_ ?_
  · intro _
    refine ⟨w.heap.size, 0, rfl, hz, fun i hi j hj => ?_⟩
    rw [cell_of_block hn]
    match i, hi with
    | 0, _ =>
      match j, hj with
      | 0, _ => rfl
      | 1, _ => rfl
      | 2, _ => rfl
      | 3, _ => rfl
  · intro i x hx
    match i, hx with
    | 0, hx => simp at hx; subst hx; exact h1.bel hb
    | i + 1, hx => simp at hx
theorem row4_cells {w : World} {g : Nat} {a b c d : Value} (h : w.heap[g]? = some (.cells #[a, b, c, d] 24 (0, 0))) :
    (w.cell? ⟨g, 0, none⟩ = some a ∧ w.cell? ⟨g, 1, none⟩ = some b ∧ w.cell? ⟨g, 2, none⟩ = some c ∧ w.cell? ⟨g, 3, none⟩ = some d) ∧
    w.frozen? ⟨g, 0, none⟩ = false ∧ w.frozen? ⟨g, 1, none⟩ = false ∧ w.frozen? ⟨g, 2, none⟩ = false ∧ w.frozen? ⟨g, 3, none⟩ = false :=
  ⟨⟨by rw [cell_of_block h]; rfl, by rw [cell_of_block h]; rfl, by rw [cell_of_block h]; rfl, by rw [cell_of_block h]; rfl⟩,
    unfrozen_of_block h 0, unfrozen_of_block h 1, unfrozen_of_block h 2, unfrozen_of_block h 3⟩

/-! the program's token, and its reader -/
def wName : ByteArray := ⟨#[97, 32, 110, 97, 109, 101]⟩
def wNumber : ByteArray := ⟨#[97, 32, 110, 117, 109, 98, 101, 114]⟩
def wText : ByteArray := ⟨#[97, 32, 116, 101, 120, 116]⟩
def wEnd : ByteArray := ⟨#[116, 104, 101, 32, 101, 110, 100]⟩
def wNone : ByteArray := ⟨#[110, 111, 32, 116, 111, 107, 101, 110]⟩
/-- what a token is, as the program names it -/
def what : Tk → ByteArray
  | .sg c => strOf [c]
  | .wd w => strOf w
  | .nm _ => wName
  | .nu _ => wNumber
  | .tx _ => wText
  | .fin => wEnd
  | .non => wNone
def txt : Tk → ByteArray
  | .nm w => strOf w
  | .tx t => strOf t
  | _ => ByteArray.empty
def num : Tk → Int
  | .nu n => n
  | _ => 0
/-- a token as a struct -/
def tkA (t : Tk) (a e : Nat) : Array Value := #[.string (what t), .int .i64 (a : Int), .int .i64 (e : Int), .string (txt t), .int .i64 (num t)]
/-- where a reader stands: a token, or refused there -/
inductive St where
  | live (p : Nat)
  | dead (p : Nat)
def St.p : St → Nat
  | .live p => p
  | .dead p => p
/-- the program's reader in memory -/
structure PIn (w : World) (b : Nat) (S : ByteArray) (σ : St) : Prop where
  le : σ.p ≤ S.size
  sz : S.size ≤ 16384
  liv : ∀ p, σ = .live p → w.heap[b]? = some (.cells #[.string S, .string (what (tkAt (numsOf S) p)), .int .i64 (p : Int), .int .i64 ((p + (tok ((numsOf S).drop p)).2 : Nat) : Int), .string (txt (tkAt (numsOf S) p)), .int .i64 (num (tkAt (numsOf S) p)), .bool false] 35 (0, 0))
  ded : ∀ p, σ = .dead p → ∃ (u : ByteArray) (e : Nat) (t : ByteArray) (n : Int), w.heap[b]? = some (.cells #[.string S, .string u, .int .i64 (p : Int), .int .i64 (e : Int), .string t, .int .i64 n, .bool true] 35 (0, 0))
theorem PIn.at {w w' : World} {b : Nat} {S : ByteArray} {σ : St} (h : PIn w b S σ) (hb : w'.heap[b]? = w.heap[b]?) : PIn w' b S σ := ⟨h.le, h.sz, fun p e => hb.trans (h.liv p e), fun p e => by
  obtain ⟨u, x, t, n, hx⟩ := h.ded p e
  exact ⟨u, x, t, n, hb.trans hx⟩⟩
theorem PIn.lt {w : World} {b : Nat} {S : ByteArray} {σ : St} (h : PIn w b S σ) : b < w.heap.size := by
  cases σ with
  | live p => exact heap_lt (h.liv p rfl)
  | dead p =>
    obtain ⟨u, x, t, n, hx⟩ := h.ded p rfl
    exact heap_lt hx
theorem PIn.below {w w' : World} {b : Nat} {S : ByteArray} {σ : St} (h : PIn w b S σ) (hb : Below w.heap.size w w') : PIn w' b S σ := h.at (hb.block b h.lt)
end Go.Proofs.YtkcmidhpbaepoaaDoor.G
