/-
  Records in memory; whether a record may be: the program's.
-/
import Derived.Test.YtoagaddciapmkaaDoorAMath
import Derived.Test.YtoagaddciapmkaaDoorXUnhex
import Derived.Test.YtoagaddciapmkaaDoorXGrow
import Derived.OpenShut
import Derived.Deep.QuietTactic
namespace Go.Proofs.YtoagaddciapmkaaDoor
open Go.RowKit Go.WideShapes

def recC (r : RecV) : List Value := [.int .i64 r.seq, .int .i64 r.tim, .string r.user, .string r.deed, .int .i64 r.out, .string r.hash]
def recA (r : RecV) : Array Value := #[.int .i64 r.seq, .int .i64 r.tim, .string r.user, .string r.deed, .int .i64 r.out, .string r.hash]
/-- Six cells from an address on. -/
structure RecAt (w : World) (b o : Nat) (r : RecV) : Prop where
  c0 : w.cell? ⟨b, o, none⟩ = some (.int .i64 r.seq)
  c1 : w.cell? ⟨b, o + 1, none⟩ = some (.int .i64 r.tim)
  c2 : w.cell? ⟨b, o + 2, none⟩ = some (.string r.user)
  c3 : w.cell? ⟨b, o + 3, none⟩ = some (.string r.deed)
  c4 : w.cell? ⟨b, o + 4, none⟩ = some (.int .i64 r.out)
  c5 : w.cell? ⟨b, o + 5, none⟩ = some (.string r.hash)
def RsIn (w : World) (q : Option Addr) (l : List RecV) : Prop := 0 < l.length → ∃ b o, q = some ⟨b, o, none⟩ ∧ ∀ i, i < l.length → RecAt w b (o + i * 6) (l.getD i zeroR)
theorem cellB {w w' : World} {a : Addr} {v : Value} (h : w.cell? a = some v) (hb : Below w.heap.size w w') : w'.cell? a = some v := (hb.cell (World.block_lt_of_cell? _ _ h)).trans h
theorem RecAt.below {w w' : World} {b o : Nat} {r : RecV} (h : RecAt w b o r) (hb : Below w.heap.size w w') : RecAt w' b o r :=
  ⟨cellB h.c0 hb, cellB h.c1 hb, cellB h.c2 hb, cellB h.c3 hb, cellB h.c4 hb, cellB h.c5 hb⟩
theorem RecAt.lt {w : World} {b o : Nat} {r : RecV} (h : RecAt w b o r) : b < w.heap.size := World.block_lt_of_cell? _ _ h.c0
theorem RsIn.below {w w' : World} {q : Option Addr} {l : List RecV} (h : RsIn w q l) (hb : Below w.heap.size w w') : RsIn w' q l := by
  intro hp
  obtain ⟨b, o, rfl, hc⟩ := h hp
  exact ⟨b, o, rfl, fun i hi => (hc i hi).below hb⟩
theorem RsIn.addr {w : World} {q : Option Addr} {l : List RecV} (h : RsIn w q l) (hw : 0 < l.length) : ∃ b o, q = some ⟨b, o, none⟩ := by
  obtain ⟨b, o, e, _⟩ := h hw
  exact ⟨b, o, e⟩
theorem RsIn.at {w : World} {b o : Nat} {l : List RecV} (h : RsIn w (some ⟨b, o, none⟩) l) {k : Nat} (hk : k < l.length) : RecAt w b (o + k * 6) (l.getD k zeroR) := by
  obtain ⟨b', o', e, hc⟩ := h (by omega)
  simp only [Option.some.injEq, Addr.mk.injEq, and_true] at e
  obtain ⟨rfl, rfl⟩ := e
  exact hc k hk
theorem rs_nil (w : World) (q : Option Addr) : RsIn w q [] := fun h => absurd h (by simp)
theorem rec_new {w : World} {g : Nat} {r : RecV} {t : TypeId} {f : Nat × Nat} (h : w.heap[g]? = some (.cells (recA r) t f)) : RecAt w g 0 r :=
  ⟨cell_of_row _ _ _ _ _ _ h, cell_of_row _ _ _ _ _ _ h, cell_of_row _ _ _ _ _ _ h, cell_of_row _ _ _ _ _ _ h, cell_of_row _ _ _ _ _ _ h, cell_of_row _ _ _ _ _ _ h⟩
theorem isDigest_any (s : ByteArray) (w : World) : Calls Tryd.prog 47 #[.string s] w fun e w' => e = .returned (.bool (digB s)) ∧ Below w.heap.size w w' := by
  go_enter Tryd.func47, Tryd.ntmps47
  by_cases h : s.size = 64
  · have hI : (((s.size : Nat) : Int) != 64) = false := by rw [h]; rfl
    have U := unhex_any s w (by omega)
    have HD : Hid (digB s = (unhexN (numsOf s)).isSome) := by show _ = _; unfold digB; rw [h]; rfl
    clear h
    go_wp2_with fail
    refine U.mono ?_
    intro e w1 hu
    cases hu with
    | ok r v h he ho hb =>
      subst he
      simp only []
      go_wp2
      go_ret
      rw [HD.out, h]
      exact ⟨rfl, hb⟩
    | no h he hb =>
      subst he
      simp only []
      go_wp2
      go_ret
      rw [HD.out, h]
      exact ⟨rfl, hb⟩
  · have hI : (((s.size : Nat) : Int) != 64) = true := by simpa using fun e : ((s.size : Nat) : Int) = 64 => h (by omega)
    have HD : digB s = false := by unfold digB; rw [decide_eq_false h]; rfl
    rw [HD]
    go_wp2
    go_ret
    exact ⟨rfl, Below.refl _ _⟩
theorem refusedFields_any (t : Int) (u d : ByteArray) (o : Int) (w : World) : Calls Tryd.prog 44 #[.int .i64 t, .string u, .string d, .int .i64 o] w fun e w' => e = .returned (.int .i64 (fldE t u d o : Nat)) ∧ w' = w := by
  go_enter Tryd.func44, Tryd.ntmps44
  by_cases h1 : t < 0 ∨ 1099511627776 < t
  · have e : fldE t u d o = 2 := by unfold fldE; rw [if_pos h1]
    rw [e]
    by_cases h0 : t < 0
    · go_wp2
      go_ret
      exact ⟨rfl, rfl⟩
    · have h2 : (1099511627776 : Int) < t := by omega
      go_wp2
      go_ret
      exact ⟨rfl, rfl⟩
  have a1 : ¬ t < 0 := by omega
  have a2 : ¬ (1099511627776 : Int) < t := by omega
  by_cases h2 : 32 < u.size ∨ 16384 < d.size
  · have e : fldE t u d o = 3 := by unfold fldE; rw [if_neg h1, if_pos h2]
    rw [e]
    by_cases h0 : 32 < u.size
    · have hI : (32 : Int) < (u.size : Int) := by omega
      go_wp2
      go_ret
      exact ⟨rfl, rfl⟩
    · have hI : ¬ (32 : Int) < (u.size : Int) := by omega
      have hJ : (16384 : Int) < (d.size : Int) := by omega
      go_wp2
      go_ret
      exact ⟨rfl, rfl⟩
  have a3 : ¬ (32 : Int) < (u.size : Int) := by omega
  have a4 : ¬ (16384 : Int) < (d.size : Int) := by omega
  by_cases h3 : o < 100 ∨ 599 < o
  · have e : fldE t u d o = 2 := by unfold fldE; rw [if_neg h1, if_neg h2, if_pos h3]
    rw [e]
    by_cases h0 : o < 100
    · go_wp2
      go_ret
      exact ⟨rfl, rfl⟩
    · have h4 : (599 : Int) < o := by omega
      go_wp2
      go_ret
      exact ⟨rfl, rfl⟩
  have e : fldE t u d o = 0 := by unfold fldE; rw [if_neg h1, if_neg h2, if_neg h3]
  have a5 : ¬ o < 100 := by omega
  have a6 : ¬ (599 : Int) < o := by omega
  rw [e]
  go_wp2
  go_ret
  exact ⟨rfl, rfl⟩
set_option maxHeartbeats 1000000 in
theorem mayBe_any (r : RecV) (w : World) : Calls Tryd.prog 46 #[.agg (recA r)] w fun e w' => e = .returned (.bool (mayB r)) ∧ Below w.heap.size w w' := by
  obtain ⟨s, t, u, d, o, h⟩ := r
  unfold recA mayB
  simp only []
  have F := fun w' => refusedFields_any t u d o w'
  have D := fun w' => isDigest_any h w'
  generalize fldE t u d o = E at F
  generalize digB h = B at D
  have HB : ∀ w', Below (w.alloc (.cells (recA ⟨s, t, u, d, o, h⟩) 41)).heap.size (w.alloc (.cells (recA ⟨s, t, u, d, o, h⟩) 41)) w' → RecAt w' w.heap.size 0 ⟨s, t, u, d, o, h⟩ := fun w' hb => (rec_new (_root_.Go.heap_alloc_new w (.cells (recA ⟨s, t, u, d, o, h⟩) 41))).below hb
  have HH : Hid _ := HB
  have BA : Below w.heap.size w (w.alloc (.cells (recA ⟨s, t, u, d, o, h⟩) 41)) := (Below.refl _ _).alloc (Nat.le_refl _) _
  have BH : Hid _ := BA
  clear HB BA
  go_enter Tryd.func46, Tryd.ntmps46
  by_cases hs : 0 ≤ s
  · cases B with
    | false =>
      go_wp2_with (go_at_call 47; refine (D _).mono ?_; rintro e w1 ⟨rfl, hb1⟩)
      go_ret
      exact ⟨by simp, below_more BH.out hb1⟩
    | true =>
      go_wp2_with (first | (go_at_call 47; refine (D _).mono ?_; rintro e w1 ⟨rfl, hb1⟩; obtain ⟨c0, c1, c2, c3, c4, c5⟩ := HH.out w1 hb1; simp only [Nat.zero_add] at c0 c1 c2 c3 c4 c5) | (go_at_call 44; refine (F _).mono ?_; rintro e w2 ⟨rfl, rfl⟩) | fail)
      go_ret
      refine ⟨?_, below_more BH.out hb1⟩
      rw [decide_eq_true hs]
      cases E with
      | zero => rfl
      | succ n => rfl
  · go_wp2
    go_ret
    refine ⟨?_, BH.out⟩
    rw [decide_eq_false (show ¬ 0 ≤ s by omega)]
    rfl
/-- A whole record out of a row, into a box of its own. -/
theorem box_rec {w : World} {r : RecV} {o : Obj} (ho : o = .cells (recA r) 41) : RecAt (w.alloc o) w.heap.size 0 r := rec_new (by rw [ho]; exact _root_.Go.heap_alloc_new _ _)
set_option maxHeartbeats 1000000 in
set_option maxRecDepth 8000 in
theorem refused_any (q : Option Addr) (n c : Nat) (l : List RecV) (w : World) (h : RsIn w q l) (hn0 : n = l.length) (hnb : (n : Int) ≤ 9223372036854775807) :
    Calls Tryd.prog 41 #[.slice q n c] w fun e w' => e = .returned (.int .i64 (refE l : Nat)) ∧ Below w.heap.size w w' := by
  have HN : Hid (n = l.length) := hn0
  have HQ : Hid (RsIn w q l) := h
  clear h hn0
  go_enter Tryd.func41, Tryd.ntmps41
  by_cases hm : (4096 : Int) < (n : Int)
  · have HE : Hid (refE l = 4) := ref_many (by have := HN.out; omega)
    go_wp2
    go_ret
    exact ⟨by rw [HE.out]; rfl, Below.refl _ _⟩
  have HM : Hid (l.length ≤ 4096) := by show _ ≤ _; have := HN.out; omega
  go_wp2
  go_loopw [10] (fun t wr => ∃ k : Nat, k ≤ n ∧ t = .int .i64 (k : Int) ∧ (∀ j, j < k → mayB (l.getD j zeroR) = true) ∧ Below w.heap.size w wr) (fun t _ => n - (intOf t).toNat)
  case atStart => exact ⟨0, by omega, rfl, fun j hj => absurd hj (by omega), Below.refl _ _⟩
  case round =>
    obtain ⟨k, hk, rfl, hz, hbw⟩ := hrel
    have HZ : Hid (∀ j, j < k → mayB (l.getD j zeroR) = true) := hz
    have HB : Hid (Below w.heap.size w wr) := hbw
    clear hz
    by_cases hkl : k < n
    · have hkI : (k : Int) < (n : Int) := by omega
      have hkl2 : k < l.length := by have := HN.out; omega
      have hen := HQ.out.below hbw
      obtain ⟨fb, fo, rfl⟩ := hen.addr (by omega)
      obtain ⟨z0, z1, z2, z3, z4, z5⟩ := hen.at hkl2
      have M := fun w' => mayBe_any (l.getD k zeroR) w'
      have HG : Hid (k < l.length) := hkl2
      have HNX : Hid (mayB (l.getD k zeroR) = true → ∀ j, j < k + 1 → mayB (l.getD j zeroR) = true) := fun h j hj => by
        rcases Nat.lt_or_ge j k with h' | h'
        · exact HZ.out j h'
        · obtain rfl : j = k := by omega
          exact h
      have HBD : Hid (mayB (l.getD k zeroR) = false → refE l = 8) := fun h => ref_bad HM.out HG.out h
      generalize l.getD k zeroR = r at z0 z1 z2 z3 z4 z5 M HNX HBD
      obtain ⟨s, t, u, d, o, hh⟩ := r
      simp only [recA] at z0 z1 z2 z3 z4 z5 M
      generalize mayB ⟨s, t, u, d, o, hh⟩ = B at M HNX HBD
      clear hen hkl hbw hkl2
      cases B with
      | false =>
        go_wp2_with (go_at_call 46; refine (M _).mono ?_; rintro e w1 ⟨rfl, hb1⟩)
        go_ret
        exact ⟨by rw [HBD.out (by trivial)]; rfl, below_more (HB.out.alloc HB.out.size _) hb1⟩
      | true =>
        go_wp2_with (go_at_call 46; refine (M _).mono ?_; rintro e w1 ⟨rfl, hb1⟩)
        go_roundw
        case rel => exact ⟨k + 1, by omega, rfl, HNX.out (by trivial), below_more (HB.out.alloc HB.out.size _) hb1⟩
        case measure => simp [intOf]; omega
    · obtain rfl : k = n := by omega
      have HE : Hid (refE l = 0) := ref_of HM.out (fun r hr => by
        obtain ⟨j, hj, rfl⟩ := List.getElem_of_mem hr
        have := HZ.out j (by have := HN.out; omega)
        rw [List.getD_eq_getElem?_getD, List.getElem?_eq_getElem hj] at this
        exact may_iff.1 this)
      go_wp2
      go_ret
      exact ⟨by rw [HE.out]; rfl, HB.out⟩
end Go.Proofs.YtoagaddciapmkaaDoor
