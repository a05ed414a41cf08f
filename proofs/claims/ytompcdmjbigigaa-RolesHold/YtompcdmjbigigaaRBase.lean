/-
  What walks lean on; texts, roles, pairs, acts in memory.
-/
import Derived.Test.YtompcdmjbigigaaRDocM
import Derived.Test.YtompcdmjbigigaaProg
import Derived.Laws.ResultCell
import Derived.Lib.SlicesS
import Derived.Deep.QuietTactic
import Derived.Deep.Cut
import Derived.Deep.RegionHeld3
import Derived.Deep.RegionWith
import Derived.Deep.SlicePairs
import Derived.Lib.SmallJoins
import Derived.SliceStrings
import Derived.OpenShut
import Derived.BigQuiet
import Derived.WalkLawsBesides
import Derived.WalkSpells
import Derived.Maps.OwnSet
import Derived.StringKeys
import Derived.Sort.Walk0
namespace Go.Proofs.Ytompcdmjbigigaa
open Go.RowKit Go.WideShapes Go.Joins Go.Maps Go.Deep

theorem below_new (w : World) (o : Obj) : Below w.heap.size w (w.alloc o) := (Below.refl _ _).alloc (Nat.le_refl _) o
theorem below_more {w0 w1 w2 : World} (h : Below w0.heap.size w0 w1) (k : Below w1.heap.size w1 w2) : Below w0.heap.size w0 w2 := h.trans (k.mono h.size)
theorem below_dN {B : Nat} {a w : World} (h : Below B a w) (n : Nat) : Below B a (w.drewN n) := ⟨h.os, h.tape, h.output, h.size, h.block⟩
theorem heap_lt {w : World} {g : Nat} {o : Obj} (h : w.heap[g]? = some o) : g < w.heap.size := (Array.getElem?_eq_some_iff.1 h).1
theorem box_below {w w' : World} {g : Nat} {o : Obj} (h : w.heap[g]? = some o) (hb : Below w.heap.size w w') : w'.heap[g]? = some o := (hb.block g (heap_lt h)).trans h
theorem box_at {w w' : World} {row : Option Nat} {g : Nat} {o : Obj} (hg : w.grownBy w' row) (h : w.heap[g]? = some o) (hne : some g ≠ row) : w'.heap[g]? = some o := (hg.block g (heap_lt h) hne).trans h
theorem grown_trans {a b c : World} {r : Option Nat} (h1 : a.grownBy b r) (h2 : b.grownBy c r) : a.grownBy c r :=
  ⟨h2.os.trans h1.os, h2.tape.trans h1.tape, h2.output.trans h1.output, Nat.le_trans h1.size h2.size, fun k hk hn => (h2.block k (Nat.lt_of_lt_of_le hk h1.size) hn).trans (h1.block k hk hn)⟩
theorem grown_below {a b : World} (h : Below a.heap.size a b) (r : Option Nat) : a.grownBy b r := ⟨h.os, h.tape, h.output, h.size, fun k hk _ => h.block k hk⟩
theorem grown_refl (a : World) (r : Option Nat) : a.grownBy a r := ⟨rfl, rfl, rfl, Nat.le_refl _, fun _ _ _ => rfl⟩
/-- what has turned lies behind a base -/
theorem below_of_grown {w w1 w2 : World} {b : Nat} (h : Below w.heap.size w w1) (hg : w1.grownBy w2 (some b)) (hb : w.heap.size ≤ b) : Below w.heap.size w w2 :=
  h.grown hg h.size (fun j e => by cases e; exact hb)
theorem below_cell {w w' : World} {a : Addr} {v : Value} (h : w.cell? a = some v) (hb : Below w.heap.size w w') : w'.cell? a = some v := (hb.cell (World.block_lt_of_cell? _ _ h)).trans h
theorem str_at (s : ByteArray) (k : Nat) (h : k < s.size) (w : World) : (Instr.index 9 (.string s) (.int .i64 (k : Int))).run Try.prog w = .ok (.int .u8 ((nums s).getD k 0 : Nat)) w := by
  rw [run_index_string w 9 s .i64 k Try.underlying9, dif_pos ⟨by omega, by omega⟩]
  have h2 : k < (nums s).length := by rw [nums_len]; exact h
  rw [List.getD_eq_getElem?_getD, List.getElem?_eq_getElem h2]
  simp [nums, ByteArray.getElem_eq_getElem_data]
theorem bset (c k : Nat) (h : c ≠ k) : ((c : Int) == (k : Int)) = false := by simpa using fun e : (c : Int) = (k : Int) => h (by omega)
theorem str_eq (a b : ByteArray) : (a.toList == b.toList) = decide (a = b) := by
  by_cases h : a = b
  · rw [decide_eq_true h]; exact (Lib.bytes_beq_iff _ _).2 h
  · rw [decide_eq_false h]; exact (Lib.bytes_beq_false_iff _ _).2 h
theorem str_less (a b : ByteArray) : Op.bytesLess a.toList b.toList = decide (ltA a b) := by
  rw [bytesLess_eq, ByteArray.toList_eq, ByteArray.toList_eq]; rfl
theorem str_gtr (a b : ByteArray) : (!(Op.bytesLess a.toList b.toList || a.toList == b.toList)) = decide (ltA b a) := by
  rw [str_less, str_eq]
  rcases ltA_tot a b with h | h | h
  · have n : ¬ ltA b a := fun k => ltA_irrefl _ (ltA_trans h k)
    simp [h, n]
  · subst h
    have n := ltA_irrefl a
    simp [n]
  · have n : ¬ ltA a b := fun k => ltA_irrefl _ (ltA_trans h k)
    have m : a ≠ b := fun e => ltA_irrefl _ (e ▸ h)
    simp [h, n, m]

/-! in memory -/
/-- A row of texts. -/
structure StrsIn (w : World) (q : Option Addr) (l : List ByteArray) (c : Nat) : Prop where
  lies : 0 < l.length → ∃ b o, q = some ⟨b, o, none⟩ ∧ ∀ i, i < l.length → w.cell? ⟨b, o + i, none⟩ = some (.string (l.getD i ByteArray.empty))
  fits : ∀ s ∈ l, s.size ≤ maxLen
  le : l.length ≤ c
  cap : c ≤ maxLen
  nl : q = none → c = 0
theorem StrsIn.below {w w' : World} {q : Option Addr} {l : List ByteArray} {c : Nat} (h : StrsIn w q l c) (hb : Below w.heap.size w w') : StrsIn w' q l c :=
  ⟨fun h0 => by
    obtain ⟨b, o, hq, hc⟩ := h.lies h0
    exact ⟨b, o, hq, fun i hi => below_cell (hc i hi) hb⟩, h.fits, h.le, h.cap, h.nl⟩
theorem StrsIn.addr {w : World} {q : Option Addr} {l : List ByteArray} {c : Nat} (h : StrsIn w q l c) (hp : 0 < l.length) : ∃ b o, q = some ⟨b, o, none⟩ := by
  obtain ⟨b, o, e, _⟩ := h.lies hp
  exact ⟨b, o, e⟩
theorem StrsIn.at {w : World} {b o c : Nat} {l : List ByteArray} (h : StrsIn w (some ⟨b, o, none⟩) l c) {i : Nat} (hi : i < l.length) : w.cell? ⟨b, o + i, none⟩ = some (.string (l.getD i ByteArray.empty)) := by
  obtain ⟨b', o', e, hc⟩ := h.lies (by omega)
  simp only [Option.some.injEq, Addr.mk.injEq, and_true] at e
  obtain ⟨rfl, rfl⟩ := e
  exact hc i hi
theorem StrsIn.nil (w : World) : StrsIn w none [] 0 := ⟨fun h => absurd h (by simp), by simp, by simp, by unfold maxLen; omega, fun _ => rfl⟩
theorem strs_none {w : World} {l : List ByteArray} {c : Nat} (h : StrsIn w none l c) : c = 0 ∧ l = [] := by
  have := h.nl rfl
  have := h.le
  exact ⟨by omega, List.length_eq_zero_iff.1 (by omega)⟩
theorem getD_mem {l : List ByteArray} {i : Nat} (h : i < l.length) : l.getD i ByteArray.empty ∈ l := by
  rw [List.getD_eq_getElem?_getD, List.getElem?_eq_getElem h]
  exact List.getElem_mem h
theorem drop_cons {α : Type} (l : List α) (d : α) {k : Nat} (h : k < l.length) : l.drop k = l.getD k d :: l.drop (k + 1) := by
  rw [List.drop_eq_getElem_cons h, List.getD_eq_getElem?_getD, List.getElem?_eq_getElem h]; rfl
theorem take_snoc {α : Type} (l : List α) (d : α) {k : Nat} (h : k < l.length) : l.take (k + 1) = l.take k ++ [l.getD k d] := by
  rw [List.take_add_one, List.getD_eq_getElem?_getD, List.getElem?_eq_getElem h]; rfl

/-- A role in three cells. -/
structure RoleAt (w : World) (b o : Nat) (r : Rl) (hq : Option Addr) (hc : Nat) (mq : Option Addr) (mc : Nat) : Prop where
  c0 : w.cell? ⟨b, o, none⟩ = some (.string r.name)
  c1 : w.cell? ⟨b, o + 1, none⟩ = some (.slice hq r.holds.length hc)
  c2 : w.cell? ⟨b, o + 2, none⟩ = some (.slice mq r.may.length mc)
  h : StrsIn w hq r.holds hc
  m : StrsIn w mq r.may mc
  nm : r.name.size ≤ maxLen
theorem RoleAt.below {w w' : World} {b o : Nat} {r : Rl} {hq : Option Addr} {hc : Nat} {mq : Option Addr} {mc : Nat} (h : RoleAt w b o r hq hc mq mc) (hb : Below w.heap.size w w') : RoleAt w' b o r hq hc mq mc :=
  ⟨below_cell h.c0 hb, below_cell h.c1 hb, below_cell h.c2 hb, h.h.below hb, h.m.below hb, h.nm⟩
/-- A row of roles. -/
structure RolesIn (w : World) (q : Option Addr) (l : List Rl) (c : Nat) : Prop where
  lies : 0 < l.length → ∃ b o, q = some ⟨b, o, none⟩ ∧ ∀ i, i < l.length → ∃ hq hc mq mc, RoleAt w b (o + i * 3) (l.getD i zR) hq hc mq mc
  le : l.length ≤ c
  cap : c ≤ maxLen
  nl : q = none → c = 0
theorem RolesIn.below {w w' : World} {q : Option Addr} {l : List Rl} {c : Nat} (h : RolesIn w q l c) (hb : Below w.heap.size w w') : RolesIn w' q l c :=
  ⟨fun h0 => by
    obtain ⟨b, o, hq, hc⟩ := h.lies h0
    refine ⟨b, o, hq, fun i hi => ?_⟩
    obtain ⟨a1, a2, a3, a4, hr⟩ := hc i hi
    exact ⟨a1, a2, a3, a4, hr.below hb⟩, h.le, h.cap, h.nl⟩
theorem RolesIn.addr {w : World} {q : Option Addr} {l : List Rl} {c : Nat} (h : RolesIn w q l c) (hp : 0 < l.length) : ∃ b o, q = some ⟨b, o, none⟩ := by
  obtain ⟨b, o, e, _⟩ := h.lies hp
  exact ⟨b, o, e⟩
theorem RolesIn.at {w : World} {b o c : Nat} {l : List Rl} (h : RolesIn w (some ⟨b, o, none⟩) l c) {i : Nat} (hi : i < l.length) : ∃ hq hc mq mc, RoleAt w b (o + i * 3) (l.getD i zR) hq hc mq mc := by
  obtain ⟨b', o', e, hc⟩ := h.lies (by omega)
  simp only [Option.some.injEq, Addr.mk.injEq, and_true] at e
  obtain ⟨rfl, rfl⟩ := e
  exact hc i hi
theorem getR_mem {l : List Rl} {i : Nat} (h : i < l.length) : l.getD i zR ∈ l := by
  rw [List.getD_eq_getElem?_getD, List.getElem?_eq_getElem h]
  exact List.getElem_mem h
abbrev Pr := ByteArray × ByteArray
def zP : Pr := (ByteArray.empty, ByteArray.empty)
/-- A row of two texts each: pairs, acts. -/
structure PrsIn (w : World) (q : Option Addr) (l : List Pr) (c : Nat) : Prop where
  lies : 0 < l.length → ∃ b o, q = some ⟨b, o, none⟩ ∧ ∀ i, i < l.length → w.cell? ⟨b, o + i * 2, none⟩ = some (.string (l.getD i zP).1) ∧ w.cell? ⟨b, o + i * 2 + 1, none⟩ = some (.string (l.getD i zP).2)
  le : l.length ≤ c
  cap : c ≤ maxLen
  nl : q = none → c = 0
theorem PrsIn.below {w w' : World} {q : Option Addr} {l : List Pr} {c : Nat} (h : PrsIn w q l c) (hb : Below w.heap.size w w') : PrsIn w' q l c :=
  ⟨fun h0 => by
    obtain ⟨b, o, hq, hc⟩ := h.lies h0
    exact ⟨b, o, hq, fun i hi => ⟨below_cell (hc i hi).1 hb, below_cell (hc i hi).2 hb⟩⟩, h.le, h.cap, h.nl⟩
theorem PrsIn.addr {w : World} {q : Option Addr} {l : List Pr} {c : Nat} (h : PrsIn w q l c) (hp : 0 < l.length) : ∃ b o, q = some ⟨b, o, none⟩ := by
  obtain ⟨b, o, e, _⟩ := h.lies hp
  exact ⟨b, o, e⟩
theorem PrsIn.at {w : World} {b o c : Nat} {l : List Pr} (h : PrsIn w (some ⟨b, o, none⟩) l c) {i : Nat} (hi : i < l.length) : w.cell? ⟨b, o + i * 2, none⟩ = some (.string (l.getD i zP).1) ∧ w.cell? ⟨b, o + i * 2 + 1, none⟩ = some (.string (l.getD i zP).2) := by
  obtain ⟨b', o', e, hc⟩ := h.lies (by omega)
  simp only [Option.some.injEq, Addr.mk.injEq, and_true] at e
  obtain ⟨rfl, rfl⟩ := e
  exact hc i hi
/-! sets -/
def litS (s : ByteArray) : Lit := .string s.data.toList
def setS (l : List ByteArray) : DataW Unit := setOf (.agg []) (l.map litS)
theorem setS_snoc (l : List ByteArray) (s : ByteArray) : setS (l ++ [s]) = (setS l).put (litS s) (.agg []) := by
  unfold setS
  rw [List.map_append]
  exact setOf_snoc _ _ _
theorem litS_inj {a b : ByteArray} (h : litS a = litS b) : a = b := by
  unfold litS at h
  exact ba_ext (Lit.string.inj h)
theorem keys_litS (l : List ByteArray) : ∀ x ∈ l.map litS, WideAt.IsKeyLit x := by
  intro x hx
  obtain ⟨a, _, rfl⟩ := List.mem_map.1 hx
  trivial
theorem has_setS (l : List ByteArray) (s : ByteArray) : Maps.has (setS l) (litS s) = isIn l s := by
  have e : Maps.has (setS l) (litS s) = true ↔ s ∈ l := by
    unfold setS
    rw [has_setOf _ _ _ (keys_litS l), List.any_eq_true]
    constructor
    · rintro ⟨x, hx, h⟩
      obtain ⟨a, ha, rfl⟩ := List.mem_map.1 hx
      rw [← litS_inj ((WideAt.sameKey_iff (show WideAt.IsKeyLit (litS s) from trivial)).1 h)]
      exact ha
    · intro h
      exact ⟨litS s, List.mem_map_of_mem h, WideAt.sameKey_self (show WideAt.IsKeyLit (litS s) from trivial)⟩
  cases h : isIn l s with
  | true => exact e.2 (isIn_iff.1 h)
  | false =>
    cases h2 : Maps.has (setS l) (litS s) with
    | false => rfl
    | true => exact absurd (e.1 h2) (isIn_not.1 h)
theorem map_keyed : Keyed Try.prog 9 := string_keyed Try.underlying9
theorem unit_zero (w : World) : (zeroValue 64).run Try.prog w = .ok (.agg #[]) w := by kernel_rfl
theorem key_of (s : ByteArray) (h : s.size ≤ maxLen) : keyOf Try.prog 9 (.string s) = some (litS s) := Go.WideMaps.keyOf_string_mk Try.underlying9 h
/-- A set in memory. -/
abbrev SetAt (w : World) (b n : Nat) (l : List ByteArray) : Prop := w.ownsMap Try.prog 9 (unitElem (H := Unit)) b n (setS l)
theorem SetAt.below {w w' : World} {b n : Nat} {l : List ByteArray} (h : SetAt w b n l) (hb : Below w.heap.size w w') : SetAt w' b n l :=
  h.kept (row := none) (grown_below hb none) (by simp)
end Go.Proofs.Ytompcdmjbigigaa
