import Derived.Test.YtghcmllmbpoidaaGreatDoorJ03
import Derived.Test.YtghcmllmbpoidaaGreatDoorJ02
import Derived.Laws.CopyOwn
import Derived.BigQuiet
import Derived.Deep.QuietTactic
import Derived.Test.YtghcmllmbpoidaaGreatDoorJ01
namespace Go.Proofs.YtghcmllmbpoidaaGreatDoor.Mg
open Go.RowKit Go.WideShapes
structure EntV where
  key : ByteArray
  val : ByteArray
  seq : Int
  gone : Bool
def zeroE : EntV := ⟨ByteArray.empty, ByteArray.empty, 0, false⟩
def oneE (x : EntV) : Nat :=
  if x.key.size < 1 ∨ 256 < x.key.size then 60 else if 4096 < x.val.size then 3 else if x.seq < 0 ∨ 2147483647 < x.seq then 2 else if x.gone = true ∧ x.val ≠ ByteArray.empty then 8 else 0
structure OkE (x : EntV) : Prop where
  key1 : 1 ≤ x.key.size
  key2 : x.key.size ≤ 256
  val : x.val.size ≤ 4096
  seq1 : 0 ≤ x.seq
  seq2 : x.seq ≤ 2147483647
  gone : x.gone = true → x.val = ByteArray.empty
theorem oneE_ok {x : EntV} : oneE x = 0 ↔ OkE x := by
  unfold oneE
  constructor
  · intro h
    split at h
    · cases h
    · split at h
      · cases h
      · split at h
        · cases h
        · split at h
          · cases h
          · rename_i h1 h2 h3 h4
            exact ⟨by omega, by omega, by omega, by omega, by omega, fun hg => Classical.byContradiction fun hv => h4 ⟨hg, hv⟩⟩
  · intro h
    have := h.key1; have := h.key2; have := h.val; have := h.seq1; have := h.seq2
    rw [if_neg (by omega), if_neg (by omega), if_neg (by omega), if_neg (fun hh => hh.2 (h.gone hh.1))]
def lessE (a b : EntV) : Bool := Op.bytesLess a.key.toList b.key.toList || ((a.key.toList == b.key.toList) && decide (b.seq < a.seq))
def checkF : Option EntV → List EntV → Nat
  | _, [] => 0
  | none, x :: l => if oneE x ≠ 0 then oneE x else checkF (some x) l
  | some y, x :: l => if oneE x ≠ 0 then oneE x else if lessE y x = true then checkF (some x) l else 100
def checkE (l : List EntV) : Nat := if 4096 < l.length then 4 else checkF none l
theorem below_alloc (w : World) (o : Obj) : Below w.heap.size w (w.alloc o) := (Below.refl _ _).alloc (Nat.le_refl _) o
theorem lt_heap {w : World} {b : Nat} {o : Obj} (h : w.heap[b]? = some o) : b < w.heap.size := (Array.getElem?_eq_some_iff.1 h).1
theorem below_bt {a b c : World} (h1 : Below a.heap.size a b) (h2 : Below b.heap.size b c) : Below a.heap.size a c := h1.trans (h2.mono h1.size)
theorem own_form {w : World} {base n : Nat} {e : TypeId} {s : Nat} {v : Value} {xs : List Value} (h : w.ownsRow base e s v n xs) : ∃ q m, v = .slice q n m ∧ n ≤ m ∧ m ≤ maxLen ∧ (q = none → m = 0) := by
  rcases h.2 with ⟨hv, hn⟩ | ⟨g, cap, cur, hv, _, _, h1, h2, _⟩
  · exact ⟨none, 0, by rw [hv, hn], by omega, by unfold maxLen; omega, fun _ => rfl⟩
  · exact ⟨_, cap, hv, h1, h2, fun h => by cases h⟩
theorem results_cell1 {fn : Func} {p : Tmp} {ty : TypeId} (h : fn.results = #[.cell p ty]) (tmps : Array Value) (P : Program) (w : World) :
    (results fn tmps).run P w = ((asAddr (tmps.getD p undef)).run P w).andThen fun a w₁ => (loadVar ty a).run P w₁ := by
  simp only [results, h]
  simp [Sem.run_bind, Result.andThen]
end Go.Proofs.YtghcmllmbpoidaaGreatDoor.Mg
namespace Go.Proofs.YtghcmllmbpoidaaGreatDoor.Mg
open Go.RowKit Go.WideShapes Go.ChangeShapes Go.Deep Go.Joins
theorem below_drewN {B : Nat} {a w : World} (h : Below B a w) (n : Nat) : Below B a (w.drewN n) := ⟨h.os, h.tape, h.output, h.size, h.block⟩
theorem ba_ext {a b : ByteArray} : a.data.toList = b.data.toList ↔ a = b := by
  constructor
  · intro h
    cases a; cases b
    simp only [ByteArray.mk.injEq] at *
    exact Array.toList_inj.1 h
  · rintro rfl; rfl
theorem eq_str (x y : ByteArray) : (x.toList == y.toList) = decide (x = y) := by
  rw [ByteArray.toList_eq, ByteArray.toList_eq]
  by_cases h : x = y
  · subst h; simp
  · simp only [h, decide_false]
    exact beq_eq_false_iff_ne.2 (fun e => h (ba_ext.1 e))
def EntsIn (w : World) (q : Option Addr) (l : List EntV) : Prop :=
  0 < l.length → ∃ b o, q = some ⟨b, o, none⟩ ∧ ∀ i, i < l.length → w.cell? ⟨b, o + i * 4, none⟩ = some (.string (l.getD i zeroE).key) ∧ w.cell? ⟨b, o + (i * 4 + 1), none⟩ = some (.string (l.getD i zeroE).val) ∧ w.cell? ⟨b, o + (i * 4 + 2), none⟩ = some (.int .i64 (l.getD i zeroE).seq) ∧ w.cell? ⟨b, o + (i * 4 + 3), none⟩ = some (.bool (l.getD i zeroE).gone)
theorem EntsIn.below {w w' : World} {q : Option Addr} {l : List EntV} (h : EntsIn w q l) (hb : Below w.heap.size w w') : EntsIn w' q l := by
  intro hp
  obtain ⟨b, o, rfl, hc⟩ := h hp
  refine ⟨b, o, rfl, fun i hi => ?_⟩
  obtain ⟨e0, e1, e2, e3⟩ := hc i hi
  exact ⟨(hb.cell (World.block_lt_of_cell? _ _ e0)).trans e0, (hb.cell (World.block_lt_of_cell? _ _ e1)).trans e1, (hb.cell (World.block_lt_of_cell? _ _ e2)).trans e2, (hb.cell (World.block_lt_of_cell? _ _ e3)).trans e3⟩
theorem EntsIn.addr {w : World} {q : Option Addr} {l : List EntV} (h : EntsIn w q l) (hw : 0 < l.length) : ∃ b o, q = some ⟨b, o, none⟩ := by
  obtain ⟨b, o, e, _⟩ := h hw
  exact ⟨b, o, e⟩
theorem EntsIn.at {w : World} {b o : Nat} {l : List EntV} (h : EntsIn w (some ⟨b, o, none⟩) l) {k : Nat} (hk : k < l.length) :
    w.cell? ⟨b, o + k * 4, none⟩ = some (.string (l.getD k zeroE).key) ∧ w.cell? ⟨b, o + k * 4 + 1, none⟩ = some (.string (l.getD k zeroE).val) ∧ w.cell? ⟨b, o + k * 4 + 2, none⟩ = some (.int .i64 (l.getD k zeroE).seq) ∧ w.cell? ⟨b, o + k * 4 + 3, none⟩ = some (.bool (l.getD k zeroE).gone) := by
  obtain ⟨b', o', e, hc⟩ := h (by omega)
  simp only [Option.some.injEq, Addr.mk.injEq, and_true] at e
  obtain ⟨rfl, rfl⟩ := e
  obtain ⟨h1, h2, h3, h4⟩ := hc k hk
  exact ⟨h1, by rw [Nat.add_assoc]; exact h2, by rw [Nat.add_assoc]; exact h3, by rw [Nat.add_assoc]; exact h4⟩
def entV (y : EntV) : Value := .agg #[.string y.key, .string y.val, .int .i64 y.seq, .bool y.gone]
theorem entV_def (k v : ByteArray) (s : Int) (g : Bool) : entV ⟨k, v, s, g⟩ = .agg #[.string k, .string v, .int .i64 s, .bool g] := rfl
structure EntsL (w : World) (q : Option Addr) (n : Nat) (l : List EntV) : Prop where
  n : n = l.length
  lies : EntsIn w q l
theorem EntsL.below {w w' : World} {q : Option Addr} {n : Nat} {l : List EntV} (h : EntsL w q n l) (hb : Below w.heap.size w w') : EntsL w' q n l := ⟨h.n, h.lies.below hb⟩
section
variable {P : Program} {w : World} {H : Type} {enc : TypeId × Value → H}
end
end Go.Proofs.YtghcmllmbpoidaaGreatDoor.Mg
namespace Go.Proofs.YtghcmllmbpoidaaGreatDoor.Mg
open Go.RowKit Go.WideShapes
def intOf : Value → Int
  | .int _ n => n
  | _ => 0
set_option maxHeartbeats 1000000 in
theorem less_any (a b : EntV) (w : World) : Calls Tryz.prog 50 #[entV a, entV b] w fun e w' => e = .returned (.bool (lessE a b)) ∧ Below w.heap.size w w' := by
  obtain ⟨ak, av, az, ag⟩ := a
  obtain ⟨bk, bv, bz, bg⟩ := b
  rw [entV_def, entV_def]
  obtain ⟨r, hr⟩ : ∃ r, lessE ⟨ak, av, az, ag⟩ ⟨bk, bv, bz, bg⟩ = r := ⟨_, rfl⟩
  rw [hr]
  unfold lessE at hr
  simp only at hr
  by_cases h1 : Op.bytesLess ak.toList bk.toList = true
  · have HR : Hid (r = true) := by show _ = _; rw [← hr, h1]; rfl
    clear hr
    go_enter Tryz.func50, Tryz.ntmps50
    go_wp2
    go_ret
    exact ⟨by rw [HR.out]; rfl, (below_alloc w _).alloc (by simp) _⟩
  · have h1' : Op.bytesLess ak.toList bk.toList = false := by simpa using h1
    clear h1
    by_cases h2 : (ak.toList == bk.toList) = true
    · have HR : Hid (r = decide (bz < az)) := by show _ = _; rw [← hr, h1', h2]; simp
      clear hr
      go_enter Tryz.func50, Tryz.ntmps50
      go_wp2
      go_ret
      exact ⟨by rw [HR.out]; rfl, (below_alloc w _).alloc (by simp) _⟩
    · have h2' : (ak.toList == bk.toList) = false := by simpa using h2
      have HR : Hid (r = false) := by show _ = _; rw [← hr, h1', h2']; rfl
      clear hr h2
      go_enter Tryz.func50, Tryz.ntmps50
      go_wp2
      go_ret
      exact ⟨by rw [HR.out]; rfl, (below_alloc w _).alloc (by simp) _⟩
theorem nonempty_of {v : ByteArray} (h : v ≠ ByteArray.empty) : v.toList.isEmpty = false := by
  rw [ByteArray.toList_eq]
  cases hv : v.data.toList with
  | nil => exact absurd (ba_ext.1 (hv.trans (show [] = ByteArray.empty.data.toList from rfl))) h
  | cons a l => rfl
def isKeyB (s : ByteArray) : Bool := decide (1 ≤ s.size) && decide (s.size ≤ 256)
theorem isKey_any (s : ByteArray) (w : World) (r : Bool) (hr : isKeyB s = r) : Calls Tryz.prog 256 #[.string s] w fun e w' => e = .returned (.bool r) ∧ w' = w := by
  unfold isKeyB at hr
  by_cases h1 : 1 ≤ s.size
  · by_cases h2 : s.size ≤ 256
    · have HR : Hid (r = true) := by show _ = _; rw [← hr]; simp [h1, h2]
      have g1 : (1 : Int) ≤ (s.size : Int) := by omega
      have g2 : (s.size : Int) ≤ 256 := by omega
      clear hr h1 h2
      go_enter Tryz.func256, Tryz.ntmps256
      go_wp2
      go_ret
      exact ⟨by rw [HR.out]; rfl, rfl⟩
    · have HR : Hid (r = false) := by show _ = _; rw [← hr]; simp [h1, h2]
      have g1 : (1 : Int) ≤ (s.size : Int) := by omega
      have g2 : decide ((s.size : Int) ≤ 256) = false := decide_eq_false (by omega)
      clear hr h1 h2
      go_enter Tryz.func256, Tryz.ntmps256
      go_wp2
      go_ret
      exact ⟨by rw [HR.out]; rfl, rfl⟩
  · have HR : Hid (r = false) := by show _ = _; rw [← hr]; simp [h1]
    have g1 : (s.size : Int) < 1 := by omega
    clear hr h1
    go_enter Tryz.func256, Tryz.ntmps256
    go_wp2
    go_ret
    exact ⟨by rw [HR.out]; rfl, rfl⟩
set_option maxHeartbeats 2000000 in
theorem checkEntry_any (x : EntV) (w : World) (E : Nat) (hE : oneE x = E) : Calls Tryz.prog 210 #[entV x] w fun e w' => e = .returned (.int .i64 (E : Int)) ∧ Below w.heap.size w w' := by
  obtain ⟨k, v, s, g⟩ := x
  rw [entV_def]
  unfold oneE at hE
  simp only at hE
  by_cases h1 : k.size < 1 ∨ 256 < k.size
  · have hk : isKeyB k = false := by unfold isKeyB; simp; omega
    rw [if_pos h1] at hE
    subst hE
    clear h1
    go_enter Tryz.func210, Tryz.ntmps210
    go_wp2_with (go_at_call 256; refine (isKey_any k _ false hk).mono ?_; rintro e wx ⟨rfl, rfl⟩)
    go_ret
    exact ⟨rfl, below_alloc _ _⟩
  · have hk : isKeyB k = true := by unfold isKeyB; simp; omega
    rw [if_neg h1] at hE
    clear h1
    by_cases h2 : 4096 < v.size
    · rw [if_pos h2] at hE
      subst hE
      have g2 : (4096 : Int) < (v.size : Int) := by omega
      clear h2
      go_enter Tryz.func210, Tryz.ntmps210
      go_wp2_with (go_at_call 256; refine (isKey_any k _ true hk).mono ?_; rintro e wx ⟨rfl, rfl⟩)
      go_ret
      exact ⟨rfl, below_alloc _ _⟩
    · rw [if_neg h2] at hE
      have g2 : (v.size : Int) ≤ 4096 := by omega
      clear h2
      by_cases h3 : s < 0
      · rw [if_pos (.inl h3)] at hE
        subst hE
        go_enter Tryz.func210, Tryz.ntmps210
        go_wp2_with (go_at_call 256; refine (isKey_any k _ true hk).mono ?_; rintro e wx ⟨rfl, rfl⟩)
        go_ret
        exact ⟨rfl, below_alloc _ _⟩
      · have g3 : 0 ≤ s := by omega
        by_cases h4 : 2147483647 < s
        · rw [if_pos (.inr h4)] at hE
          subst hE
          clear h3
          go_enter Tryz.func210, Tryz.ntmps210
          go_wp2_with (go_at_call 256; refine (isKey_any k _ true hk).mono ?_; rintro e wx ⟨rfl, rfl⟩)
          go_ret
          exact ⟨rfl, below_alloc _ _⟩
        · rw [if_neg (by omega)] at hE
          have g4 : s ≤ 2147483647 := by omega
          clear h3 h4
          cases g with
          | false =>
            rw [if_neg (by simp)] at hE
            subst hE
            go_enter Tryz.func210, Tryz.ntmps210
            go_wp2_with (go_at_call 256; refine (isKey_any k _ true hk).mono ?_; rintro e wx ⟨rfl, rfl⟩)
            go_ret
            exact ⟨rfl, below_alloc _ _⟩
          | true =>
            by_cases h5 : v = ByteArray.empty
            · rw [if_neg (by simp [h5])] at hE
              subst hE h5
              go_enter Tryz.func210, Tryz.ntmps210
              go_wp2_with (go_at_call 256; refine (isKey_any k _ true hk).mono ?_; rintro e wx ⟨rfl, rfl⟩)
              go_ret
              exact ⟨rfl, below_alloc _ _⟩
            · rw [if_pos ⟨rfl, h5⟩] at hE
              subst hE
              have g5' : v.toList.isEmpty = false := nonempty_of h5
              clear h5
              go_enter Tryz.func210, Tryz.ntmps210
              go_wp2_with (go_at_call 256; refine (isKey_any k _ true hk).mono ?_; rintro e wx ⟨rfl, rfl⟩)
              go_ret
              exact ⟨rfl, below_alloc _ _⟩
end Go.Proofs.YtghcmllmbpoidaaGreatDoor.Mg
