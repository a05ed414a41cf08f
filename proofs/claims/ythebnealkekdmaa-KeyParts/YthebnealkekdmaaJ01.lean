/-
  Lists of parts compared: slices.CompareFunc, Less.
-/
import Derived.Test.YthebnealkekdmaaProg
import Derived.WalkKit
import Derived.WideShapes
import Derived.OpenShut
import Derived.ProofKit
import Derived.Below
import Derived.BigQuiet
import Derived.Deep.QuietTactic
import Derived.Deep.RegionHeld3
import Derived.Deep.Cut
import Derived.Deep.Slices
import Derived.Lib.SmallJoins
import Derived.Lib.Bytealg
import Derived.Laws.StructEq
import Derived.Lib.Strings
import Derived.Lib.Walk
import Derived.Lib.Builder
namespace Go.Proofs.Ythebnealkekdmaa

structure PartV where
  kind : Int
  int : Int
  text : ByteArray
def zeroP : PartV := ⟨0, 0, ByteArray.empty⟩
def cmpI (a b : Int) : Int := if a < b then -1 else if b < a then 1 else 0
def cmpS (a b : ByteArray) : Int := Lib.compareBytes a.data.toList b.data.toList
def orI (a b : Int) : Int := if a = 0 then b else a
def cmpP (a b : PartV) : Int := orI (cmpI a.kind b.kind) (orI (cmpI a.int b.int) (cmpS a.text b.text))
def cmpPs : List PartV → List PartV → Int
  | [], [] => 0
  | [], _ :: _ => -1
  | _ :: _, [] => 1
  | x :: a, y :: b => orI (cmpP x y) (cmpPs a b)
theorem cmpI_zero {a b : Int} : cmpI a b = 0 ↔ a = b := by unfold cmpI; split <;> (try split) <;> omega
theorem cmpBytes_zero : ∀ (a b : List UInt8), Lib.compareBytes a b = 0 ↔ a = b
  | [], [] => by simp [Lib.compareBytes]
  | [], _ :: _ => by simp [Lib.compareBytes]
  | _ :: _, [] => by simp [Lib.compareBytes]
  | x :: a, y :: b => by
    unfold Lib.compareBytes
    by_cases h1 : x < y
    · rw [if_pos h1]; simp; intro e; subst e; exact absurd h1 (UInt8.lt_irrefl x)
    · rw [if_neg h1]
      by_cases h2 : y < x
      · rw [if_pos h2]; simp; intro e; subst e; exact absurd h2 (UInt8.lt_irrefl x)
      · rw [if_neg h2, cmpBytes_zero a b]
        have : x = y := UInt8.le_antisymm (UInt8.not_lt.1 h2) (UInt8.not_lt.1 h1)
        subst this
        simp
theorem bytesLess_cmp : ∀ (a b : List UInt8), Op.bytesLess a b = decide (Lib.compareBytes a b < 0)
  | [], [] => by simp [Op.bytesLess, Lib.compareBytes]
  | [], _ :: _ => by simp [Op.bytesLess, Lib.compareBytes]
  | _ :: _, [] => by simp [Op.bytesLess, Lib.compareBytes]
  | x :: a, y :: b => by
    unfold Lib.compareBytes Op.bytesLess
    by_cases h1 : x < y
    · simp [h1]
    · by_cases h2 : y < x
      · have : ¬ x = y := by intro e; subst e; exact UInt8.lt_irrefl x h2
        simp [h1, h2, this]
      · have : x = y := UInt8.le_antisymm (UInt8.not_lt.1 h2) (UInt8.not_lt.1 h1)
        subst this
        rw [bytesLess_cmp a b]
        simp [UInt8.lt_irrefl x]
theorem ba_ext {a b : ByteArray} : a.data.toList = b.data.toList ↔ a = b := by
  constructor
  · intro h
    cases a; cases b
    simp only [ByteArray.mk.injEq] at *
    exact Array.toList_inj.1 h
  · rintro rfl; rfl
theorem cmpS_zero {a b : ByteArray} : cmpS a b = 0 ↔ a = b := (cmpBytes_zero _ _).trans ba_ext
theorem orI_zero {a b : Int} : orI a b = 0 ↔ a = 0 ∧ b = 0 := by unfold orI; split <;> simp_all
theorem cmpP_zero {a b : PartV} : cmpP a b = 0 ↔ a = b := by
  unfold cmpP
  rw [orI_zero, orI_zero, cmpI_zero, cmpI_zero, cmpS_zero]
  cases a; cases b
  simp
theorem cmpP_kind {a b : PartV} (h : ¬ a.kind = b.kind) : cmpP a b = cmpI a.kind b.kind := by
  unfold cmpP orI; rw [if_neg (fun e => h (cmpI_zero.1 e))]
theorem cmpP_int {a b : PartV} (h : a.kind = b.kind) (h1 : ¬ a.int = b.int) : cmpP a b = cmpI a.int b.int := by
  unfold cmpP
  rw [cmpI_zero.2 h]
  unfold orI; rw [if_pos rfl, if_neg (fun e => h1 (cmpI_zero.1 e))]
theorem cmpP_text {a b : PartV} (h : a.kind = b.kind) (h1 : a.int = b.int) : cmpP a b = cmpS a.text b.text := by
  unfold cmpP
  rw [cmpI_zero.2 h, cmpI_zero.2 h1]
  unfold orI; rw [if_pos rfl, if_pos rfl]
theorem cmpI_lt {a b : Int} : decide (cmpI a b < 0) = decide (a < b) := by
  unfold cmpI; split
  · simp [*]
  · split <;> simp <;> omega
/-! ### Place by place -/
theorem drop_cons' {α : Type} {l : List α} {k : Nat} {d : α} (h : k < l.length) : l.drop k = l.getD k d :: l.drop (k + 1) := by
  rw [List.drop_eq_getElem_cons h]; simp [List.getD, h]
theorem cmpPs_end1 {a b : List PartV} {k : Nat} (ha : k < a.length) (hb : b.length ≤ k) : cmpPs (a.drop k) (b.drop k) = 1 := by
  rw [drop_cons' (d := zeroP) ha, List.drop_eq_nil_of_le hb]; rfl
theorem cmpPs_at {a b : List PartV} {k : Nat} (ha : k < a.length) (hb : k < b.length) : cmpPs (a.drop k) (b.drop k) = orI (cmpP (a.getD k zeroP) (b.getD k zeroP)) (cmpPs (a.drop (k + 1)) (b.drop (k + 1))) := by
  rw [drop_cons' (d := zeroP) ha, drop_cons' (d := zeroP) hb]; rfl
theorem cmpPs_end2 {a b : List PartV} {k : Nat} (ha : k = a.length) (hb : k ≤ b.length) : cmpPs (a.drop k) (b.drop k) = if a.length < b.length then -1 else 0 := by
  rw [List.drop_eq_nil_of_le (by omega : a.length ≤ k)]
  by_cases h : k < b.length
  · rw [drop_cons' (d := zeroP) h, if_pos (by omega)]; rfl
  · rw [List.drop_eq_nil_of_le (by omega), if_neg (by omega)]; rfl
theorem cmpPs_end3 {a b : List PartV} {k : Nat} (hb : k = b.length) (ha : k ≤ a.length) : decide (cmpPs (a.drop k) (b.drop k) < 0) = decide (a.length < b.length) := by
  rw [List.drop_eq_nil_of_le (by omega : b.length ≤ k)]
  by_cases h : k < a.length
  · rw [drop_cons' (d := zeroP) h]; simp [cmpPs]; omega
  · rw [List.drop_eq_nil_of_le (by omega)]; simp [cmpPs]; omega
/-! ### The text behind all that begin so -/
def afterN : List Nat → Option (List Nat)
  | [] => none
  | c :: xs => match afterN xs with
    | some r => some (c :: r)
    | none => if c = 255 then none else some [c + 1]
theorem afterN_all : ∀ (xs : List Nat), (∀ c ∈ xs, c = 255) → afterN xs = none
  | [], _ => rfl
  | c :: xs, h => by unfold afterN; rw [afterN_all xs (fun y hy => h y (by simp [hy]))]; simp [h c (by simp)]
theorem afterN_at : ∀ (xs : List Nat) (k : Nat), k < xs.length → xs.getD k 0 ≠ 255 → (∀ c ∈ xs.drop (k + 1), c = 255) → afterN xs = some (xs.take k ++ [xs.getD k 0 + 1])
  | c :: xs, 0, _, h1, h2 => by
    unfold afterN
    rw [afterN_all xs (by simpa using h2)]
    simp at h1 ⊢
    exact h1
  | c :: xs, k + 1, h0, h1, h2 => by
    unfold afterN
    rw [afterN_at xs k (by simpa using h0) (by simpa [List.getD] using h1) (by simpa using h2)]
    simp [List.getD]
  | [], _, h, _, _ => by simp at h
end Go.Proofs.Ythebnealkekdmaa
namespace Go.Proofs.Ythebnealkekdmaa
open Go.RowKit Go.WideShapes Go.ChangeShapes Go.Deep Go.Joins

theorem below_alloc (w : World) (o : Obj) : Below w.heap.size w (w.alloc o) := (Below.refl _ _).alloc (Nat.le_refl _) o
theorem lt_heap {w : World} {b : Nat} {o : Obj} (h : w.heap[b]? = some o) : b < w.heap.size := (Array.getElem?_eq_some_iff.1 h).1
theorem below_bt {a b c : World} (h1 : Below a.heap.size a b) (h2 : Below b.heap.size b c) : Below a.heap.size a c := h1.trans (h2.mono h1.size)
def wf64 (n : Int) : Prop := -9223372036854775808 ≤ n ∧ n ≤ 9223372036854775807
structure WfP (y : PartV) : Prop where
  kind : 0 ≤ y.kind ∧ y.kind ≤ 255
  int : wf64 y.int
  text : y.text.size ≤ maxLen
def PtsIn (w : World) (q : Option Addr) (l : List PartV) : Prop :=
  0 < l.length → ∃ b o, q = some ⟨b, o, none⟩ ∧ ∀ i, i < l.length → w.cell? ⟨b, o + i * 3, none⟩ = some (.int .u8 (l.getD i zeroP).kind) ∧ w.cell? ⟨b, o + (i * 3 + 1), none⟩ = some (.int .i64 (l.getD i zeroP).int) ∧ w.cell? ⟨b, o + (i * 3 + 2), none⟩ = some (.string (l.getD i zeroP).text)
structure PtIn (w : World) (v : Value) (l : List PartV) : Prop where
  lies : ∃ q c, v = .slice q l.length c ∧ PtsIn w q l ∧ l.length ≤ c ∧ c ≤ maxLen ∧ (q = none → c = 0)
  wf : ∀ y ∈ l, WfP y
theorem PtsIn.below {w w' : World} {q : Option Addr} {l : List PartV} (h : PtsIn w q l) (hb : Below w.heap.size w w') : PtsIn w' q l := by
  intro hp
  obtain ⟨b, o, rfl, hc⟩ := h hp
  refine ⟨b, o, rfl, fun i hi => ?_⟩
  obtain ⟨e0, e1, e2⟩ := hc i hi
  exact ⟨(hb.cell (World.block_lt_of_cell? _ _ e0)).trans e0, (hb.cell (World.block_lt_of_cell? _ _ e1)).trans e1, (hb.cell (World.block_lt_of_cell? _ _ e2)).trans e2⟩
theorem PtIn.below {w w' : World} {v : Value} {l : List PartV} (h : PtIn w v l) (hb : Below w.heap.size w w') : PtIn w' v l := by
  obtain ⟨q, c, h1, h2, h3⟩ := h.lies
  exact ⟨⟨q, c, h1, h2.below hb, h3⟩, h.wf⟩
theorem PtsIn.addr {w : World} {q : Option Addr} {l : List PartV} (h : PtsIn w q l) (hw : 0 < l.length) : ∃ b o, q = some ⟨b, o, none⟩ := by
  obtain ⟨b, o, e, _⟩ := h hw
  exact ⟨b, o, e⟩
theorem PtsIn.at {w : World} {b o : Nat} {l : List PartV} (h : PtsIn w (some ⟨b, o, none⟩) l) {k : Nat} (hk : k < l.length) :
    w.cell? ⟨b, o + k * 3, none⟩ = some (.int .u8 (l.getD k zeroP).kind) ∧ w.cell? ⟨b, o + k * 3 + 1, none⟩ = some (.int .i64 (l.getD k zeroP).int) ∧ w.cell? ⟨b, o + k * 3 + 2, none⟩ = some (.string (l.getD k zeroP).text) := by
  obtain ⟨b', o', e, hc⟩ := h (by omega)
  simp only [Option.some.injEq, Addr.mk.injEq, and_true] at e
  obtain ⟨rfl, rfl⟩ := e
  obtain ⟨h1, h2, h3⟩ := hc k hk
  exact ⟨h1, by rw [Nat.add_assoc]; exact h2, by rw [Nat.add_assoc]; exact h3⟩
theorem getD_mem' {l : List PartV} {k : Nat} (hk : k < l.length) : l.getD k zeroP ∈ l := by
  rw [List.getD_eq_getElem?_getD, List.getElem?_eq_getElem hk]; exact List.getElem_mem _
def partV (y : PartV) : Value := .agg #[.int .u8 y.kind, .int .i64 y.int, .string y.text]

section
variable {P : Program} {w : World} {H : Type} {enc : TypeId × Value → H}
theorem open_parts {t e : TypeId} {f0 f1 f2 : Field} {n : Nat} {v : Value} {x : DataW H × List MemPlace} (ht : P.underlying t = some (.slice e)) (he : P.underlying e = some (.struct #[f0, f1, f2])) (ce : P.cellsOf e = 3)
    (o0 : f0.offset = 0) (o1 : f1.offset = 1) (o2 : f2.offset = 2) (c0 : P.cellsOf f0.type = 1) (c1 : P.cellsOf f1.type = 1) (c2 : P.cellsOf f2.type = 1) (k0 : P.underlying f0.type = some (.int .u8)) (k1 : P.underlying f1.type = some (.int .i64)) (k2 : P.underlying f2.type = some .string)
    (h : DataW.trod enc P w 0 (fun _ => true) true n t [v] = some x) : ∃ l, PtIn w v l := by
  rcases open_slice ht h with ⟨hcs, _⟩ | ⟨a, len, cap, m, k, D, Pl, hcs, _, hl, hm, hmm, _, hel⟩
  · simp only [List.cons.injEq, and_true] at hcs
    exact ⟨[], ⟨none, 0, hcs, fun h => absurd h (by simp), by simp, by unfold maxLen; omega, fun _ => rfl⟩, by simp⟩
  · simp only [List.cons.injEq, and_true] at hcs
    have hmc : m = cap := by simpa using hmm
    have each : ∀ i, i < len → ∃ y : PartV, w.cell? (a.add (i * 3)) = some (.int .u8 y.kind) ∧ w.cell? (a.add (i * 3 + 1)) = some (.int .i64 y.int) ∧ w.cell? (a.add (i * 3 + 2)) = some (.string y.text) ∧ WfP y := by
      intro i hi
      obtain ⟨cs', g1, g2⟩ := hel i (by omega)
      rw [ce] at g1
      obtain ⟨_, hlen, hcell⟩ := World.cells?_some g1
      obtain ⟨xs, k', hk, hxy, _, hxl, hf⟩ := DataW.trod_struct he g2
      match xs, hxl, cs', hlen with
      | [y0, y1, y2], _, [v0, v1, v2], _ =>
        have r0 := hf 0 f0 rfl
        have r1 := hf 1 f1 rfl
        have r2 := hf 2 f2 rfl
        simp [o0, o1, o2, c0, c1, c2] at r0 r1 r2
        have e0 := hcell 0 (by omega)
        have e1 := hcell 1 (by omega)
        have e2 := hcell 2 (by omega)
        rw [add_add] at e0 e1 e2
        obtain ⟨z0, hz0, _, wz0⟩ := DataW.trod_int k0 r0
        obtain ⟨z, hz, _, wz⟩ := DataW.trod_int k1 r1
        obtain ⟨s, hs, _, hsz⟩ := DataW.trod_string k2 r2
        simp only [List.cons.injEq, and_true] at hs hz hz0
        subst hs hz hz0
        exact ⟨⟨z0, z, s⟩, by simpa using e0, by simpa using e1, by simpa using e2, bounds_u8 wz0, bounds_i64 wz, hsz⟩
    haveI : Inhabited PartV := ⟨zeroP⟩
    obtain ⟨f, hf⟩ := choose_lt each
    have hlen : ((List.range len).map f).length = len := by simp
    have hget : ∀ i, i < len → ((List.range len).map f).getD i zeroP = f i := by intro i hi; simp [List.getD, hi]
    refine ⟨(List.range len).map f, ⟨⟨some a, cap, by rw [hlen]; exact hcs, fun hp => ?_, by rw [hlen]; exact hl, hm, by simp⟩, ?_⟩⟩
    · rw [hlen] at hp
      obtain ⟨b, o, s⟩ := a
      obtain rfl : s = none := by
        have := World.cell?_spot (hf 0 (by omega)).1
        simpa [Addr.add] using this
      refine ⟨b, o, rfl, fun i hi => ?_⟩
      rw [hlen] at hi
      obtain ⟨e0, e1, e2, _⟩ := hf i hi
      rw [hget i hi]
      rw [add_plain] at e0 e1 e2
      exact ⟨e0, e1, e2⟩
    · intro y hy
      simp only [List.mem_map, List.mem_range] at hy
      obtain ⟨i, hi, rfl⟩ := hy
      exact (hf i hi).2.2.2
end
end Go.Proofs.Ythebnealkekdmaa
namespace Go.Proofs.Ythebnealkekdmaa
open Go.RowKit Go.WideShapes

theorem ret_int {k : IntKind} {a b : Int} (h : a = b) : Ending.returned (.int k a) = .returned (.int k b) := by rw [h]

theorem cmpU8_any (a b : Int) (w : World) : Calls Try.prog 42 #[.int .u8 a, .int .u8 b] w fun e w' => e = .returned (.int .i64 (cmpI a b)) ∧ w' = w := by
  by_cases h1 : a < b
  · have g1 : decide (a < b) = true := decide_eq_true h1
    go_enter Try.func42, Try.ntmps42
    go_wp2
    go_ret
    exact ⟨ret_int (by unfold cmpI; (repeat' split) <;> omega), rfl⟩
  · have g1 : decide (a < b) = false := decide_eq_false h1
    by_cases h2 : b < a
    · have g2 : decide (b < a) = true := decide_eq_true h2
      go_enter Try.func42, Try.ntmps42
      go_wp2
      go_ret
      exact ⟨ret_int (by unfold cmpI; (repeat' split) <;> omega), rfl⟩
    · have g2 : decide (b < a) = false := decide_eq_false h2
      go_enter Try.func42, Try.ntmps42
      go_wp2
      go_ret
      exact ⟨ret_int (by unfold cmpI; (repeat' split) <;> omega), rfl⟩
theorem cmpI64_any (a b : Int) (w : World) : Calls Try.prog 43 #[.int .i64 a, .int .i64 b] w fun e w' => e = .returned (.int .i64 (cmpI a b)) ∧ w' = w := by
  by_cases h1 : a < b
  · have g1 : decide (a < b) = true := decide_eq_true h1
    go_enter Try.func43, Try.ntmps43
    go_wp2
    go_ret
    exact ⟨ret_int (by unfold cmpI; (repeat' split) <;> omega), rfl⟩
  · have g1 : decide (a < b) = false := decide_eq_false h1
    by_cases h2 : b < a
    · have g2 : decide (b < a) = true := decide_eq_true h2
      go_enter Try.func43, Try.ntmps43
      go_wp2
      go_ret
      exact ⟨ret_int (by unfold cmpI; (repeat' split) <;> omega), rfl⟩
    · have g2 : decide (b < a) = false := decide_eq_false h2
      go_enter Try.func43, Try.ntmps43
      go_wp2
      go_ret
      exact ⟨ret_int (by unfold cmpI; (repeat' split) <;> omega), rfl⟩
set_option maxHeartbeats 1000000 in
set_option maxRecDepth 100000 in
theorem bytealg_any (a b : ByteArray) (w : World) :
    Calls Try.prog 59 #[.string a, .string b] w fun e w' => e = .returned (.int .i64 (cmpS a b)) ∧ w' = w := by
  go_enter Try.func59, Try.ntmps59
  go_wp2
  rw [run_callFunc_extern Try.func64 (by kernel_rfl) (by kernel_rfl) (by kernel_rfl) (e := Extern.BytealgCompare.compare) (by kernel_rfl), Lib.run_compareString]
  simp only [Result.andThen]
  rw [Oper.upon_value]
  go_wp2
  go_ret
  exact ⟨rfl, rfl⟩
theorem cmpStr_any (a b : ByteArray) (w : World) :
    Calls Try.prog 44 #[.string a, .string b] w fun e w' => e = .returned (.int .i64 (cmpS a b)) ∧ w' = w := by
  go_enter Try.func44, Try.ntmps44
  go_wp2_with (go_at_call 59; refine (bytealg_any _ _ _).mono ?_; rintro e w' ⟨rfl, rfl⟩)
  go_ret
  exact ⟨rfl, rfl⟩
/-- cmp.Or of three numbers. -/
theorem or_any (g : Nat) (x y z : Int) (w : World) (h0 : w.cell? ⟨g, 0, none⟩ = some (.int .i64 x)) (h1 : w.cell? ⟨g, 1, none⟩ = some (.int .i64 y)) (h2 : w.cell? ⟨g, 2, none⟩ = some (.int .i64 z)) :
    Calls Try.prog 41 #[.slice (some ⟨g, 0, none⟩) 3 3] w fun e w' => e = .returned (.int .i64 (orI x (orI y z))) ∧ w' = w := by
  by_cases e0 : x = 0
  · subst e0
    by_cases e1 : y = 0
    · subst e1
      by_cases e2 : z = 0
      · subst e2
        go_enter Try.func41, Try.ntmps41
        go_wp2
        refine wp_loop_rounds 4 ?_
        iterate 4 (rw [rounds_succ]; go_wp2)
        go_ret
        exact ⟨rfl, rfl⟩
      · have q2 : (z == 0) = false := by simpa using e2
        go_enter Try.func41, Try.ntmps41
        go_wp2
        refine wp_loop_rounds 3 ?_
        iterate 3 (rw [rounds_succ]; go_wp2)
        go_ret
        exact ⟨rfl, rfl⟩
    · have q1 : (y == 0) = false := by simpa using e1
      go_enter Try.func41, Try.ntmps41
      go_wp2
      refine wp_loop_rounds 2 ?_
      iterate 2 (rw [rounds_succ]; go_wp2)
      go_ret
      exact ⟨ret_int (by unfold orI; rw [if_pos rfl, if_neg e1]), rfl⟩
  · have q0 : (x == 0) = false := by simpa using e0
    go_enter Try.func41, Try.ntmps41
    go_wp2
    refine wp_loop_rounds 1 ?_
    rw [rounds_succ]; go_wp2
    go_ret
    exact ⟨ret_int (by unfold orI; rw [if_neg e0]), rfl⟩
end Go.Proofs.Ythebnealkekdmaa
namespace Go.Proofs.Ythebnealkekdmaa
open Go.RowKit Go.WideShapes

abbrev Boxes (g : Nat) (w : World) (a b : PartV) : Prop := w.cell? ⟨g, 0, none⟩ = some (.int .u8 a.kind) ∧ w.cell? ⟨g, 1, none⟩ = some (.int .i64 a.int) ∧ w.cell? ⟨g, 2, none⟩ = some (.string a.text) ∧ w.cell? ⟨g + 1, 0, none⟩ = some (.int .u8 b.kind) ∧ w.cell? ⟨g + 1, 1, none⟩ = some (.int .i64 b.int) ∧ w.cell? ⟨g + 1, 2, none⟩ = some (.string b.text)
theorem boxes (w : World) (a b : PartV) : Boxes w.heap.size ((w.alloc (.cells #[.int .u8 a.kind, .int .i64 a.int, .string a.text] 26)).alloc (.cells #[.int .u8 b.kind, .int .i64 b.int, .string b.text] 26)) a b := by
  have h1 : ((w.alloc (.cells #[.int .u8 a.kind, .int .i64 a.int, .string a.text] 26)).alloc (.cells #[.int .u8 b.kind, .int .i64 b.int, .string b.text] 26)).heap[w.heap.size]? = some (.cells #[.int .u8 a.kind, .int .i64 a.int, .string a.text] 26 (0, 0)) :=
    ((below_alloc (w.alloc (.cells #[.int .u8 a.kind, .int .i64 a.int, .string a.text] 26)) (.cells #[.int .u8 b.kind, .int .i64 b.int, .string b.text] 26)).block _ (by simp)).trans (heap_alloc_new w _)
  have h2 : ((w.alloc (.cells #[.int .u8 a.kind, .int .i64 a.int, .string a.text] 26)).alloc (.cells #[.int .u8 b.kind, .int .i64 b.int, .string b.text] 26)).heap[w.heap.size + 1]? = some (.cells #[.int .u8 b.kind, .int .i64 b.int, .string b.text] 26 (0, 0)) := by
    have := heap_alloc_new (w.alloc (.cells #[.int .u8 a.kind, .int .i64 a.int, .string a.text] 26)) (.cells #[.int .u8 b.kind, .int .i64 b.int, .string b.text] 26)
    simpa using this
  exact ⟨Lib.cell_of_heap h1 0, Lib.cell_of_heap h1 1, Lib.cell_of_heap h1 2, Lib.cell_of_heap h2 0, Lib.cell_of_heap h2 1, Lib.cell_of_heap h2 2⟩
theorem Boxes.below {g : Nat} {w w' : World} {a b : PartV} (h : Boxes g w a b) (hb : Below w.heap.size w w') : Boxes g w' a b := by
  obtain ⟨a0, a1, a2, b0, b1, b2⟩ := h
  exact ⟨(hb.cell (World.block_lt_of_cell? _ _ a0)).trans a0, (hb.cell (World.block_lt_of_cell? _ _ a1)).trans a1, (hb.cell (World.block_lt_of_cell? _ _ a2)).trans a2, (hb.cell (World.block_lt_of_cell? _ _ b0)).trans b0, (hb.cell (World.block_lt_of_cell? _ _ b1)).trans b1, (hb.cell (World.block_lt_of_cell? _ _ b2)).trans b2⟩
theorem new3 (w : World) (x y z : Value) (t : TypeId) : ((w.alloc (.cells #[x, y, z] t)).drew).cell? ⟨w.heap.size, 0, none⟩ = some x ∧ ((w.alloc (.cells #[x, y, z] t)).drew).cell? ⟨w.heap.size, 1, none⟩ = some y ∧ ((w.alloc (.cells #[x, y, z] t)).drew).cell? ⟨w.heap.size, 2, none⟩ = some z := by
  have h := heap_alloc_new w (.cells #[x, y, z] t)
  exact ⟨Lib.cell_of_heap (w := (w.alloc (.cells #[x, y, z] t)).drew) h 0, Lib.cell_of_heap (w := (w.alloc (.cells #[x, y, z] t)).drew) h 1, Lib.cell_of_heap (w := (w.alloc (.cells #[x, y, z] t)).drew) h 2⟩
set_option maxRecDepth 8000 in
set_option maxHeartbeats 4000000 in
theorem compare_any (a b : PartV) (w : World) : Calls Try.prog 30 #[partV a, partV b] w fun e w' => e = .returned (.int .i64 (cmpP a b)) ∧ Below w.heap.size w w' := by
  unfold partV
  go_enter Try.func30, Try.ntmps30
  go_wp2
  have hw2 := (below_alloc w (.cells #[.int .u8 a.kind, .int .i64 a.int, .string a.text] 26)).alloc (B := w.heap.size) (by simp) (.cells #[.int .u8 b.kind, .int .i64 b.int, .string b.text] 26)
  have BX : Hid (Boxes w.heap.size _ a b) := boxes w a b
  have hsz : ((w.alloc (.cells #[.int .u8 a.kind, .int .i64 a.int, .string a.text] 26)).alloc (.cells #[.int .u8 b.kind, .int .i64 b.int, .string b.text] 26)).heap.size = w.heap.size + 1 + 1 := by simp
  generalize ((w.alloc (.cells #[.int .u8 a.kind, .int .i64 a.int, .string a.text] 26)).alloc (.cells #[.int .u8 b.kind, .int .i64 b.int, .string b.text] 26)) = w2 at *
  have HW2 : Hid (Below w.heap.size w w2) := hw2
  have HSZ : Hid (w2.heap.size = w.heap.size + 1 + 1) := hsz
  clear hw2 hsz
  go_region_held3 (fun w' => (w'.cell? ⟨w.heap.size, 0, none⟩ = some (.int .u8 a.kind) ∧ w'.cell? ⟨w.heap.size, 1, none⟩ = some (.int .i64 a.int) ∧ w'.cell? ⟨w.heap.size, 2, none⟩ = some (.string a.text) ∧ w'.cell? ⟨w.heap.size + 1, 0, none⟩ = some (.int .u8 b.kind) ∧ w'.cell? ⟨w.heap.size + 1, 1, none⟩ = some (.int .i64 b.int) ∧ w'.cell? ⟨w.heap.size + 1, 2, none⟩ = some (.string b.text)) ∧ Below w2.heap.size w2 w')
    (with_reducible first | exact ⟨Boxes.below BX.out (Below.refl _ _).drew, (Below.refl _ _).drew⟩ | exact ⟨Boxes.below BX.out (below_alloc w2 _).drew, (below_alloc w2 _).drew⟩ | assumption)
    (first
      | (go_at_call 42; refine (cmpU8_any _ _ _).mono ?_; rintro e w1 ⟨rfl, rfl⟩)
      | (go_at_call 43; refine (cmpI64_any _ _ _).mono ?_; rintro e w1 ⟨rfl, rfl⟩)
      | (go_at_call 44; refine (cmpStr_any _ _ _).mono ?_; rintro e w1 ⟨rfl, rfl⟩)
      | (go_at_call 41; refine (or_any _ _ _ _ _ (new3 _ _ _ _ _).1 (new3 _ _ _ _ _).2.1 (new3 _ _ _ _ _).2.2).mono ?_; rintro e w1 ⟨rfl, rfl⟩)
      | fail)
  rename_i hh
  have HBE : Hid (Below w2.heap.size w2 _) := hh.2
  clear hh
  go_wp2
  go_ret
  exact ⟨rfl, below_bt HW2.out HBE.out⟩
theorem rless_any (a b : PartV) (w : World) : Calls Try.prog 35 #[partV a, partV b] w fun e w' => e = .returned (.bool (decide (cmpP a b < 0))) ∧ Below w.heap.size w w' := by
  unfold partV
  have HT : Hid (Op.bytesLess a.text.toList b.text.toList = decide (cmpS a.text b.text < 0)) := by show _ = _; rw [ByteArray.toList_eq, ByteArray.toList_eq]; exact bytesLess_cmp _ _
  by_cases h1 : a.kind = b.kind
  · by_cases h2 : a.int = b.int
    · have HC : Hid (cmpP a b = cmpS a.text b.text) := cmpP_text h1 h2
      obtain ⟨k, i, s⟩ := a
      obtain ⟨k', i', s'⟩ := b
      simp only at h1 h2
      subst h1 h2
      go_enter Try.func35, Try.ntmps35
      go_wp2
      go_ret
      exact ⟨by rw [HC.out, ← HT.out]; rfl, (below_alloc w _).alloc (by simp) _⟩
    · have HC : Hid (decide (cmpP a b < 0) = decide (a.int < b.int)) := by show _ = _; rw [cmpP_int h1 h2, cmpI_lt]
      have q : (a.int == b.int) = false := by simpa using h2
      obtain ⟨k, i, s⟩ := a
      obtain ⟨k', i', s'⟩ := b
      simp only at h1 h2 q
      subst h1
      clear h2
      go_enter Try.func35, Try.ntmps35
      go_wp2
      go_ret
      exact ⟨by rw [HC.out]; rfl, (below_alloc w _).alloc (by simp) _⟩
  · have HC : Hid (decide (cmpP a b < 0) = decide (a.kind < b.kind)) := by show _ = _; rw [cmpP_kind h1, cmpI_lt]
    have q : (a.kind == b.kind) = false := by simpa using h1
    obtain ⟨k, i, s⟩ := a
    obtain ⟨k', i', s'⟩ := b
    simp only at h1 q
    clear h1
    go_enter Try.func35, Try.ntmps35
    go_wp2
    go_ret
    exact ⟨by rw [HC.out]; rfl, (below_alloc w _).alloc (by simp) _⟩
end Go.Proofs.Ythebnealkekdmaa
namespace Go.Proofs.Ythebnealkekdmaa
open Go.RowKit Go.WideShapes

def intOf : Value → Int
  | .int _ n => n
  | _ => 0
theorem ptcells {w : World} {b o : Nat} {l : List PartV} {k : Nat} {y : PartV} (h : PtsIn w (some ⟨b, o, none⟩) l) (hk : k < l.length) (hy : l.getD k zeroP = y) :
    w.cell? ⟨b, o + k * 3, none⟩ = some (.int .u8 y.kind) ∧ w.cell? ⟨b, o + k * 3 + 1, none⟩ = some (.int .i64 y.int) ∧ w.cell? ⟨b, o + k * 3 + 2, none⟩ = some (.string y.text) := by
  subst hy; exact h.at hk
theorem cmpPs_diff {a b : List PartV} {k : Nat} {x y : PartV} {C : Int} (hC : cmpPs (a.drop k) (b.drop k) = C) (ha : k < a.length) (hb : k < b.length) (hx : a.getD k zeroP = x) (hy : b.getD k zeroP = y) (h : cmpP x y ≠ 0) : cmpP x y = C := by
  rw [cmpPs_at ha hb, hx, hy] at hC
  unfold orI at hC
  rw [if_neg h] at hC
  exact hC
theorem cmpPs_next {a b : List PartV} {k : Nat} {x y : PartV} {C : Int} (hC : cmpPs (a.drop k) (b.drop k) = C) (ha : k < a.length) (hb : k < b.length) (hx : a.getD k zeroP = x) (hy : b.getD k zeroP = y) (h : cmpP x y = 0) : cmpPs (a.drop (k + 1)) (b.drop (k + 1)) = C := by
  rw [cmpPs_at ha hb, hx, hy] at hC
  unfold orI at hC
  rw [if_pos h] at hC
  exact hC
set_option maxRecDepth 8000 in
set_option maxHeartbeats 4000000 in
theorem compareFunc_any (qa qb : Option Addr) (na nb ca cb : Nat) (a b : List PartV) (w : World) (hna : na = a.length) (hnb : nb = b.length) (ha : PtsIn w qa a) (hb : PtsIn w qb b) (hla : (na : Int) ≤ 1000000) (hlb : (nb : Int) ≤ 1000000) (C : Int) (hC : cmpPs a b = C) :
    Calls Try.prog 29 #[.slice qa na ca, .slice qb nb cb, .func (.func 30) #[] #[]] w fun e w' => e = .returned (.int .i64 C) ∧ Below w.heap.size w w' := by
  have HA : Hid (PtsIn w qa a) := ha
  have HB : Hid (PtsIn w qb b) := hb
  have HN : Hid (na = a.length ∧ nb = b.length) := ⟨hna, hnb⟩
  have HC : Hid (cmpPs (a.drop 0) (b.drop 0) = C) := hC
  clear ha hb hna hnb hC
  go_enter Try.func29, Try.ntmps29
  go_wp2
  go_loopw [13] (fun i wr => ∃ k : Nat, k ≤ na ∧ k ≤ nb ∧ i = .int .i64 k ∧ Below w.heap.size w wr ∧ cmpPs (a.drop k) (b.drop k) = C) (fun i _ => na - (intOf i).toNat)
  case atStart => exact ⟨0, by omega, by omega, rfl, Below.refl _ _, HC.out⟩
  case round =>
    clear HC
    obtain ⟨k, hk, hkb, rfl, hbel, hC⟩ := hrel
    have HBE : Hid (Below w.heap.size w wr) := hbel
    have HC : Hid (cmpPs (a.drop k) (b.drop k) = C) := hC
    clear hbel hC
    by_cases hkn : k < na
    · have hkI : (k : Int) < (na : Int) := by omega
      obtain ⟨ba, oa, rfl⟩ := HA.out.addr (by have := HN.out; omega)
      obtain ⟨x, hx⟩ : ∃ x, a.getD k zeroP = x := ⟨_, rfl⟩
      obtain ⟨x0, x1, x2⟩ := ptcells (HA.out.below HBE.out) (by have := HN.out; omega) hx
      have HX : Hid (a.getD k zeroP = x) := hx
      clear hx
      by_cases hkb2 : k < nb
      · have g1 : decide (nb ≤ k) = false := decide_eq_false (by omega)
        obtain ⟨bb, ob, rfl⟩ := HB.out.addr (by have := HN.out; omega)
        obtain ⟨y, hy⟩ : ∃ y, b.getD k zeroP = y := ⟨_, rfl⟩
        obtain ⟨y0, y1, y2⟩ := ptcells ((HB.out.below HBE.out).below (below_alloc wr (.cells #[.int .u8 x.kind, .int .i64 x.int, .string x.text] 26))) (by have := HN.out; omega) hy
        have HY : Hid (b.getD k zeroP = y) := hy
        have HK : Hid (k < na ∧ k < nb) := ⟨hkn, hkb2⟩
        have hkI2 : (k : Int) < (nb : Int) := by omega
        clear hy hkn hkb2
        go_wp2_with fail
        refine (compare_any x y _).mono ?_
        rintro e w3 ⟨rfl, hb3⟩
        have HB3 : Hid (Below w.heap.size w w3) := below_bt (below_bt (below_bt HBE.out (below_alloc _ _)) (below_alloc _ _)) hb3
        clear hb3 x0 x1 x2 y0 y1 y2
        by_cases hz : cmpP x y = 0
        · have HZ : Hid (cmpP x y = 0) := hz
          rw [hz]
          clear hz
          go_wp2
          go_roundw
          case rel => exact ⟨k + 1, by have := HK.out; omega, by have := HK.out; omega, by go_num, HB3.out, cmpPs_next HC.out (by have := HK.out; have := HN.out; omega) (by have := HK.out; have := HN.out; omega) HX.out HY.out HZ.out⟩
          case measure => have := HK.out; simp [intOf]; omega
        · have HZ : Hid (cmpP x y ≠ 0) := hz
          have g2 : (cmpP x y == 0) = false := by simpa using hz
          clear hz
          generalize hcc : cmpP x y = cc at *
          have HCC : Hid (cmpP x y = cc) := hcc
          clear hcc
          go_wp2
          go_ret
          refine ⟨ret_int ?_, HB3.out⟩
          have := cmpPs_diff HC.out (by have := HK.out; have := HN.out; omega) (by have := HK.out; have := HN.out; omega) HX.out HY.out (by rw [HCC.out]; exact HZ.out)
          rw [HCC.out] at this
          exact this
      · have g1 : decide (nb ≤ k) = true := decide_eq_true (by omega)
        have HK : Hid (k < na ∧ nb ≤ k) := ⟨hkn, by omega⟩
        clear hkn hkb2
        go_wp2
        go_ret
        refine ⟨ret_int ?_, below_bt HBE.out (below_alloc _ _)⟩
        exact (cmpPs_end1 (by have := HK.out; have := HN.out; omega) (by have := HK.out; have := HN.out; omega)).symm.trans HC.out
    · obtain rfl : k = na := by omega
      have HE := cmpPs_end2 (a := a) (b := b) (k := k) HN.out.1 (by have := HN.out; omega)
      rw [HC.out, ← HN.out.1, ← HN.out.2] at HE
      by_cases hlt : k < nb
      · have g1 : decide (k < nb) = true := decide_eq_true hlt
        rw [if_pos hlt] at HE
        subst HE
        clear hlt
        go_wp2
        go_ret
        exact ⟨rfl, HBE.out⟩
      · have g1 : decide (k < nb) = false := decide_eq_false hlt
        rw [if_neg hlt] at HE
        subst HE
        clear hlt
        go_wp2
        go_ret
        exact ⟨rfl, HBE.out⟩
theorem less_any (qa qb : Option Addr) (na nb ca cb : Nat) (a b : List PartV) (w : World) (hna : na = a.length) (hnb : nb = b.length) (ha : PtsIn w qa a) (hb : PtsIn w qb b) (hla : (na : Int) ≤ 1000000) (hlb : (nb : Int) ≤ 1000000) (r : Bool) (hr : decide (cmpPs a b < 0) = r) :
    Calls Try.prog 13 #[.slice qa na ca, .slice qb nb cb] w fun e w' => e = .returned (.bool r) ∧ Below w.heap.size w w' := by
  have HO := compareFunc_any qa qb na nb ca cb a b w hna hnb ha hb hla hlb _ rfl
  have HR : Hid (decide (cmpPs a b < 0) = r) := hr
  generalize cmpPs a b = C at *
  clear hr ha hb hna hnb hla hlb
  go_enter Try.func13, Try.ntmps13
  go_wp2_with fail
  refine HO.mono ?_
  rintro e w1 ⟨rfl, hb1⟩
  have HB1 : Hid (Below w.heap.size w w1) := hb1
  clear hb1
  go_wp2
  go_ret
  exact ⟨by rw [← HR.out]; rfl, HB1.out⟩
end Go.Proofs.Ythebnealkekdmaa
