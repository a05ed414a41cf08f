/-
  Contract of the call Check: 0 where the disk may be, else the error 20.
-/
import Derived.Test.YteabacpalnamdaaDSmall
namespace Go.Proofs.Yteabacpalnamdaa
open Go.RowKit Go.WideShapes

theorem below_alloc (w : World) (o : Obj) : Below w.heap.size w (w.alloc o) := (Below.refl _ _).alloc (Nat.le_refl _) o
/-- Where a disk lies that is handed in: its parts written out. -/
theorem DiskIn.parts {w : World} {v : Value} {count : Int} {data : List Nat} {ws : Puts} (h : DiskIn w v count data ws) :
    ∃ p c q m, v = .agg #[.int .i64 count, .slice p data.length c, .slice q ws.length m] ∧ BIn w p data ∧ data.length ≤ c ∧ c ≤ maxLen ∧ (p = none → c = 0) ∧ PutsIn w q ws ∧ ws.length ≤ m ∧ m ≤ maxLen ∧ (q = none → m = 0) := by
  obtain ⟨dv, q, m, rfl, hr, hp, h1, h2, h3⟩ := h.lies
  obtain ⟨p, c, rfl, g1, g2, g3, g4⟩ := hr.lies
  exact ⟨p, c, q, m, rfl, g1, g2, g3, g4, hp, h1, h2, h3⟩
theorem i64_bounds {n : Int} (h : (Lit.int .i64 n).wf = true) : -9223372036854775808 ≤ n ∧ n ≤ 9223372036854775807 := bounds_i64 h
/-- One wait of a row of them. -/
theorem PutsIn.at {w : World} {b o : Nat} {ws : Puts} (h : PutsIn w (some ⟨b, o, none⟩) ws) {k : Nat} (hk : k < ws.length) :
    w.cell? ⟨b, o + k * 2, none⟩ = some (.int .i64 (ws.getD k (0, [])).1) ∧ ∃ p c, w.cell? ⟨b, o + (k * 2 + 1), none⟩ = some (.slice p (ws.getD k (0, [])).2.length c) ∧ BIn w p (ws.getD k (0, [])).2 ∧ (ws.getD k (0, [])).2.length ≤ c ∧ c ≤ maxLen ∧ (p = none → c = 0) := by
  obtain ⟨b', o', e, hc⟩ := h (by omega)
  simp only [Option.some.injEq, Addr.mk.injEq, and_true] at e
  obtain ⟨rfl, rfl⟩ := e
  obtain ⟨h1, v, h2, hr⟩ := hc k hk
  obtain ⟨p, c, rfl, g⟩ := hr.lies
  exact ⟨h1, p, c, h2, g⟩

theorem box_cells {w wr : World} {a b c : Value} {t : TypeId} (h : Below (w.heap.size + 1) (w.alloc (.cells #[a, b, c] t)) wr) :
    wr.cell? ⟨w.heap.size, 0, none⟩ = some a ∧ wr.cell? ⟨w.heap.size, 1, none⟩ = some b ∧ wr.cell? ⟨w.heap.size, 2, none⟩ = some c := by
  have hh : wr.heap[w.heap.size]? = some (.cells #[a, b, c] t (0, 0)) := (h.block _ (by omega)).trans (heap_alloc_new w _)
  exact ⟨cell_of_row _ _ _ _ _ _ hh, cell_of_row _ _ _ _ _ _ hh, cell_of_row _ _ _ _ _ _ hh⟩
theorem box_below {w wr : World} {o : Obj} (h : Below (w.heap.size + 1) (w.alloc o) wr) : Below w.heap.size w wr := (below_alloc w o).trans (h.mono (by omega))
theorem PutsIn.addr {w : World} {q : Option Addr} {ws : Puts} (h : PutsIn w q ws) (hw : 0 < ws.length) : ∃ b o, q = some ⟨b, o, none⟩ := by
  obtain ⟨b, o, e, _⟩ := h hw
  exact ⟨b, o, e⟩
theorem PutsIn.at' {w : World} {b o : Nat} {ws : Puts} (h : PutsIn w (some ⟨b, o, none⟩) ws) {k : Nat} (hk : k < ws.length) :
    w.cell? ⟨b, o + k * 2, none⟩ = some (.int .i64 (ws.getD k (0, [])).1) ∧ ∃ p c, w.cell? ⟨b, o + k * 2 + 1, none⟩ = some (.slice p (ws.getD k (0, [])).2.length c) ∧ (ws.getD k (0, [])).2.length ≤ c ∧ c ≤ 9223372036854775807 := by
  obtain ⟨h1, p, c, h2, _, h3, h4, _⟩ := h.at hk
  unfold maxLen at h4
  exact ⟨h1, p, c, by rw [Nat.add_assoc]; exact h2, h3, by omega⟩
theorem box_size {w wr : World} {o : Obj} (h : Below (w.heap.size + 1) (w.alloc o) wr) : w.heap.size < wr.heap.size := by
  have := h.size
  simp at this
  omega
/-- What the waits must be, the first k of them. -/
def GoodK (count : Int) (ws : Puts) (k : Nat) : Prop := ∀ i, i < k → 0 ≤ (ws.getD i (0, [])).1 ∧ (ws.getD i (0, [])).1 < count ∧ (ws.getD i (0, [])).2.length = 128
theorem GoodK.step {count : Int} {ws : Puts} {k : Nat} (h : GoodK count ws k) (h1 : 0 ≤ (ws.getD k (0, [])).1 ∧ (ws.getD k (0, [])).1 < count) (h2 : (ws.getD k (0, [])).2.length = 128) : GoodK count ws (k + 1) := by
  intro i hi
  rcases Nat.lt_or_ge i k with h' | h'
  · exact h i h'
  · obtain rfl : i = k := by omega
    exact ⟨h1.1, h1.2, h2⟩
theorem GoodK.bad {count : Int} {data : List Nat} {ws : Puts} {k : Nat} (hk : k < ws.length) (h : ¬ ((0 ≤ (ws.getD k (0, [])).1 ∧ (ws.getD k (0, [])).1 < count) ∧ (ws.getD k (0, [])).2.length = 128)) : ¬ Okay count data ws := by
  intro ho
  have := ho.wait hk
  exact h ⟨⟨this.1, this.2.1⟩, this.2.2⟩
theorem GoodK.okay {count : Int} {data : List Nat} {ws : Puts} (h : GoodK count ws ws.length) (h1 : 1 ≤ count) (h2 : count ≤ 4096) (h3 : (data.length : Int) = count * 128) (h4 : ws.length ≤ 4096) : Okay count data ws := by
  refine ⟨h1, h2, h3, h4, fun y hy => ?_⟩
  obtain ⟨i, hi, rfl⟩ := List.getElem_of_mem hy
  have := h i hi
  simpa [List.getD, List.getElem?_eq_getElem hi] using this
open Classical in
noncomputable def errC (count : Int) (data : List Nat) (ws : Puts) : Int := if Okay count data ws then 0 else 20
theorem errC_ok {count : Int} {data : List Nat} {ws : Puts} (h : Okay count data ws) : errC count data ws = 0 := if_pos h
theorem errC_bad {count : Int} {data : List Nat} {ws : Puts} (h : ¬ Okay count data ws) : errC count data ws = 20 := if_neg h

set_option maxHeartbeats 1000000 in
theorem check_any (v : Value) (count : Int) (data : List Nat) (ws : Puts) (w : World) (hd : DiskIn w v count data ws) :
    Calls Try.prog 17 #[v] w fun e w' => e = .returned (.int .i64 (errC count data ws)) ∧ Below w.heap.size w w' := by
  obtain ⟨p, c, q, m, rfl, hb, hc, hcm, hp, hq, hm, hmm, hqn⟩ := hd.parts
  have hcount := i64_bounds hd.count_wf
  clear hd hb hp hqn
  unfold maxLen at hcm hmm
  by_cases h1 : 1 ≤ count ∧ count ≤ 4096
  · by_cases h2 : (data.length : Int) = count * 128
    · by_cases h3 : ws.length ≤ 4096
      · go_enter Try.func17, Try.ntmps17
        go_wp2_with (go_at_call 32; refine (mayCount_any count _).mono ?_; rintro e w1 ⟨rfl, rfl⟩; rw [decide_eq_true h1])
        go_loopw [27] (fun i wr => ∃ k : Nat, k ≤ ws.length ∧ i = .int .i64 k ∧ GoodK count ws k ∧ Below (w.heap.size + 1) (w.alloc (.cells #[.int .i64 count, .slice p data.length c, .slice q ws.length m] 25)) wr) (fun i _ => ws.length - (intOf i).toNat)
        case atStart => exact ⟨0, by omega, rfl, fun i hi => absurd hi (by omega), Below.refl _ _⟩
        case round =>
          obtain ⟨k, hk, rfl, hgood, hbel⟩ := hrel
          have HG : Hid _ := hgood
          clear hgood
          obtain ⟨hc0, hc1, hc2⟩ := box_cells hbel
          have hsz := box_size hbel
          by_cases hkl : k < ws.length
          · obtain ⟨b, o, rfl⟩ := hq.addr (by omega)
            obtain ⟨e1, pk, ck, e2, f1, f2⟩ := (hq.below (box_below hbel)).at' hkl
            clear hq
            have HS := GoodK.step (k := k) HG.out
            have HE := GoodK.bad (data := data) (k := k) (count := count) hkl
            generalize ws.getD k (0, []) = y at *
            obtain ⟨s, xs⟩ := y
            have HS' : Hid _ := HS
            have HE' : Hid _ := HE
            clear HS HE
            simp only at e1 e2 f1
            by_cases g1 : 0 ≤ s ∧ s < count
            · by_cases g2 : xs.length = 128
              · have HG2 : Hid (GoodK count ws (k + 1)) := HS'.out g1 g2
                go_wp2_with (go_at_call 37; refine (has_any count s _ _ _).mono ?_; rintro e w1 ⟨rfl, ob, rfl⟩; rw [decide_eq_true g1])
                go_roundw
                case rel => exact ⟨k + 1, by omega, by go_num, HG2.out, (hbel.alloc (by omega) _).alloc (by simp; omega) _⟩
                case measure => simp [intOf]; omega
              · have HB : Hid (errC count data ws = 20) := errC_bad (HE'.out (fun h => g2 h.2))
                have hne : ((xs.length : Int) != 128) = true := by simp; omega
                go_wp2_with (go_at_call 37; refine (has_any count s _ _ _).mono ?_; rintro e w1 ⟨rfl, ob, rfl⟩; rw [decide_eq_true g1])
                go_ret
                exact ⟨by rw [HB.out]; rfl, box_below ((hbel.alloc (by omega) _).alloc (by simp; omega) _)⟩
            · have HB : Hid (errC count data ws = 20) := errC_bad (HE'.out (fun h => g1 h.1))
              go_wp2_with (go_at_call 37; refine (has_any count s _ _ _).mono ?_; rintro e w1 ⟨rfl, ob, rfl⟩; rw [decide_eq_false g1])
              go_ret
              exact ⟨by rw [HB.out]; rfl, box_below ((hbel.alloc (by omega) _).alloc (by simp; omega) _)⟩
          · obtain rfl : k = ws.length := by omega
            have HO : Hid (errC count data ws = 0) := errC_ok (GoodK.okay HG.out h1.1 h1.2 h2 h3)
            clear HG
            go_wp2
            go_ret
            exact ⟨by rw [HO.out]; rfl, box_below hbel⟩
      · have HB : Hid (errC count data ws = 20) := errC_bad (fun h => h3 h.few)
        go_enter Try.func17, Try.ntmps17
        go_wp2_with (go_at_call 32; refine (mayCount_any count _).mono ?_; rintro e w1 ⟨rfl, rfl⟩; rw [decide_eq_true h1])
        go_ret
        exact ⟨by rw [HB.out]; rfl, below_alloc _ _⟩
    · have HB : Hid (errC count data ws = 20) := errC_bad (fun h => h2 h.len)
      have hne : ((data.length : Int) != count * 128) = true := by simpa using h2
      clear h2
      go_enter Try.func17, Try.ntmps17
      go_wp2_with (go_at_call 32; refine (mayCount_any count _).mono ?_; rintro e w1 ⟨rfl, rfl⟩; rw [decide_eq_true h1])
      go_ret
      exact ⟨by rw [HB.out]; rfl, below_alloc _ _⟩
  · have HB : Hid (errC count data ws = 20) := errC_bad (fun h => h1 ⟨h.lo, h.hi⟩)
    go_enter Try.func17, Try.ntmps17
    go_wp2_with (go_at_call 32; refine (mayCount_any count _).mono ?_; rintro e w1 ⟨rfl, rfl⟩; rw [decide_eq_false h1])
    go_ret
    exact ⟨by rw [HB.out]; rfl, below_alloc _ _⟩
theorem check_ok (v : Value) (count : Int) (data : List Nat) (ws : Puts) (w : World) (hd : DiskIn w v count data ws) (ho : Okay count data ws) :
    Calls Try.prog 17 #[v] w fun e w' => e = .returned (.int .i64 0) ∧ Below w.heap.size w w' := by
  have := check_any v count data ws w hd
  rwa [errC_ok ho] at this
theorem check_bad (v : Value) (count : Int) (data : List Nat) (ws : Puts) (w : World) (hd : DiskIn w v count data ws) (ho : ¬ Okay count data ws) :
    Calls Try.prog 17 #[v] w fun e w' => e = .returned (.int .i64 20) ∧ Below w.heap.size w w' := by
  have := check_any v count data ws w hd
  rwa [errC_bad ho] at this
end Go.Proofs.Yteabacpalnamdaa
