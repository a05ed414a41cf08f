/-
  Contracts of write and of the call Write.
-/
import Derived.Test.YthifpelappedcaaGreatDoorJ05
import Derived.Test.YthifpelappedcaaGreatDoorJ04
import Derived.Laws.CopyOwn
import Derived.Defers
namespace Go.Proofs.YthifpelappedcaaGreatDoor.Rm
open Go.RowKit Go.WideShapes
set_option maxRecDepth 4000

theorem grown_da (w : World) (o : Obj) (n : Nat) (r : Option Nat) : w.grownBy ((w.drewN n).alloc o) r := grown_trans (grown_drew w n r) (World.grownBy_alloc _ o r)
theorem new_da (w : World) (o : Obj) (n : Nat) : ((w.drewN n).alloc o).heap[w.heap.size]? = some o := heap_alloc_new (w.drewN n) o
def wantP (P : Int → Bool) (want : Bool) (n : Int) : Bool := P n == want
/-- A piece of one sector behind them, as the loop lays it. -/
structure RunsR (P : Int → Bool) (want : Bool) (many first n base g k : Nat) (out : Value) (w wr : World) : Prop where
  own : POwn wr base out (runsK (wantP P want) many first k).1
  row : BAt wr g P n
  far : some g ≠ out.ownBlock
  bel : Below w.heap.size w wr
theorem RunsR.over {P : Int → Bool} {want : Bool} {many first n base g k : Nat} {out : Value} {w wr : World} (h : RunsR P want many first n base g k out w wr) (hr : runsK (wantP P want) many first (k + 1) = runsK (wantP P want) many first k) : RunsR P want many first n base g (k + 1) out w wr :=
  ⟨by rw [hr]; exact h.own, h.row, h.far, h.bel⟩
theorem RunsR.put {P : Int → Bool} {want : Bool} {many first n base g k : Nat} {out out' : Value} {w wr w2 : World} (h : RunsR P want many first n base g k out w wr) (hb0 : w.heap.size ≤ base)
    (ho : POwn w2 base out' (runsK (wantP P want) many first (k + 1)).1) (hg : wr.grownBy w2 out.ownBlock) (hf : some g ≠ out'.ownBlock) : RunsR P want many first n base g (k + 1) out' w w2 :=
  ⟨ho, h.row.grown hg h.far, hf, h.bel.grown hg h.bel.size (fun x hx => Nat.le_trans hb0 (h.own.lt x hx).1)⟩

set_option maxHeartbeats 4000000 in
theorem runs_any (P : Int → Bool) (want : Bool) (g n first many : Nat) (w : World) (hrow : BAt w g P n) (hf : first ≤ n) (hn : n ≤ 4096) (hm : many ≤ 4096) :
    Calls Tryz.prog 117 #[.slice (some ⟨g, 0, none⟩) n n, .int .i64 first, .bool want, .int .i64 many] w fun e w' => ∃ v', e = .returned v' ∧ POwn w' w.heap.size v' (runsK (wantP P want) many first (n - first)).1 ∧ Below w.heap.size w w' := by
  obtain ⟨i0, hi, hz0, hz1, hz2⟩ := info_parts' info_piece
  have H0 : Hid (RunsR P want many first n w.heap.size g 0 (.slice none 0 0) w w) := ⟨pown_nil _ _, hrow, by simp [Value.ownBlock], Below.refl _ _⟩
  clear hrow
  go_enter Tryz.func117, Tryz.ntmps117
  go_wp2
  go_loopw [3, 9, 10] (fun ms out i wr => ∃ k : Nat, k ≤ n - first ∧ i = .int .i64 ((first + k : Nat) : Int) ∧ ms = .int .i64 ((many - (runsK (wantP P want) many first k).2 : Nat) : Int) ∧ RunsR P want many first n w.heap.size g k out w wr) (fun _ _ i _ => n - (intOf i).toNat)
  case atStart => exact ⟨0, by omega, rfl, rfl, H0.out⟩
  case round =>
    clear H0
    obtain ⟨k, hk, rfl, rfl, hR⟩ := hrel
    have HR : Hid (RunsR P want many first n w.heap.size g k u9 w wr) := hR
    clear hR
    have hgot := runsK_le (wantP P want) many first k
    by_cases h1 : k < n - first
    · by_cases h2 : (runsK (wantP P want) many first k).2 < many
      · have hcell := HR.out.row.cell (i := first + k) (by omega)
        have HY : Hid (wantP P want ((first + k : Nat) : Int) = true → runsK (wantP P want) many first (k + 1) = (withN (runsK (wantP P want) many first k).1 (((first + k : Nat) : Int), 1), (runsK (wantP P want) many first k).2 + 1)) := fun hp => runsK_yes h2 hp
        have HNo : Hid (wantP P want ((first + k : Nat) : Int) = false → runsK (wantP P want) many first (k + 1) = runsK (wantP P want) many first k) := fun hp => runsK_no hp
        have HB : Hid (∀ q ∈ (runsK (wantP P want) many first k).1, 0 ≤ q.1 ∧ 0 ≤ q.2 ∧ q.1 + q.2 ≤ 8192) := fun q hq => by have := runsK_bounds (wantP P want) many first k 8192 (by omega) q hq; omega
        have HLen : Hid ((runsK (wantP P want) many first k).1.length ≤ 4096) := by show _ ≤ _; have := runsK_len (wantP P want) many first k; omega
        obtain ⟨rest, hrest⟩ : ∃ rest, many - (runsK (wantP P want) many first k).2 = rest + 1 := ⟨many - (runsK (wantP P want) many first k).2 - 1, by omega⟩
        have HRest : Hid (many - (runsK (wantP P want) many first k).2 = rest + 1) := hrest
        rw [hrest]
        clear hrest h2 hgot
        have hrb : rest ≤ 4096 := by have := HRest.out; omega
        cases hp : wantP P want ((first + k : Nat) : Int) with
        | false =>
          have HE : Hid _ := HNo.out hp
          have hne : (P ((first + k : Nat) : Int) != want) = true := by unfold wantP at hp; simpa [bne] using hp
          clear HY HNo HB HLen hp
          generalize P ((first + k : Nat) : Int) = pb at *
          cases pb <;> cases want
          · simp at hne
          · go_wp2
            go_roundw
            case rel => exact ⟨k + 1, by omega, by go_num, by rw [HE.out, HRest.out]; go_num, HR.out.over HE.out⟩
            case measure => simp [intOf]; omega
          · go_wp2
            go_roundw
            case rel => exact ⟨k + 1, by omega, by go_num, by rw [HE.out, HRest.out]; go_num, HR.out.over HE.out⟩
            case measure => simp [intOf]; omega
          · simp at hne
        | true =>
          have HE : Hid _ := HY.out hp
          have HMS : Hid (((many - (runsK (wantP P want) many first (k + 1)).2 : Nat) : Int) = (rest : Int)) := by
            show _ = _
            have := HRest.out
            rw [HE.out]
            show ((many - ((runsK (wantP P want) many first k).2 + 1) : Nat) : Int) = _
            omega
          have hpe : P ((first + k : Nat) : Int) = want := by unfold wantP at hp; simpa using hp
          rw [hpe] at hcell
          have hwb : (want != want) = false := by cases want <;> rfl
          clear HY HNo hp hpe
          have HO := HR.out.own
          obtain ⟨out, hout⟩ : ∃ out, (runsK (wantP P want) many first k).1 = out := ⟨_, rfl⟩
          have HB' := HB.out
          have HLen' := HLen.out
          have hEE := HE.out
          rw [hout] at HO HB' HLen' hEE
          replace HE : Hid (runsK (wantP P want) many first (k + 1) = (withN out (((first + k : Nat) : Int), 1), (runsK (wantP P want) many first k).2 + 1)) := hEE
          clear HB HLen hout hEE
          rcases nil_or_snoc out with rfl | ⟨t, q, rfl⟩
          · obtain ⟨q, m, rfl, _, _, _⟩ := HO.form
            have HWN : Hid (withN [] (((first + k : Nat) : Int), 1) = [] ++ [(((first + k : Nat) : Int), 1)]) := rfl
            replace HO : Hid (POwn wr w.heap.size (.slice q 0 m) []) := HO
            clear HB' HLen'
            go_wp2
            go_quiet (fail)
            go_wp2_with (at_builtin; refine wpList_append_lies _ rfl _ _ 49 rfl w.heap.size 53 i0 _ 2 16 Tryz.underlying49 hi hz0 hz1 hz2 rfl (by omega) (.slice q 0 m) 0 (cellsQ []) rfl (own_at rfl (HO.out.grown (grown_da wr _ _ _))) ⟨wr.heap.size, 0, none⟩ 1 1 [.int .i64 ((first + k : Nat) : Int), .int .i64 1] rfl rfl (World.news_of_block (cs := #[.int .i64 ((first + k : Nat) : Int), .int .i64 1]) (new_da _ _ _)) (two_one _ _) (by omega) (by unfold maxLen; omega) (by omega) (by have := HR.out.bel.size; simp; omega) (wr.heap.size + 1) (by simp) ?_)
            intro g1 cap1 w1 hown1 hgrow1 hat1 hlt1
            have R1 : Hid (POwn w1 w.heap.size (.slice (some ⟨g1, 0, none⟩) (0 + 1) cap1) ([] ++ [(((first + k : Nat) : Int), 1)])) := pown_push rfl hown1
            have R2 : Hid (wr.grownBy w1 (Value.ownBlock (.slice q 0 m))) := grown_trans (grown_da wr _ _ _) hgrow1
            have R3 : Hid (some g ≠ Value.ownBlock (.slice (some ⟨g1, 0, none⟩) (0 + 1) cap1)) := far_of (w := wr) rfl (by omega) hat1 g (lt_heap HR.out.row) HR.out.far
            have R : Hid (RunsR P want many first n w.heap.size g (k + 1) (.slice (some ⟨g1, 0, none⟩) (0 + 1) cap1) w w1) := HR.out.put (Nat.le_refl _) (by rw [HE.out, HWN.out]; exact R1.out) R2.out R3.out
            clear hown1 hgrow1 hat1 hlt1 HO HR R1 R2 R3
            go_wp2
            go_roundw
            case rel => exact ⟨k + 1, by omega, by go_num, by rw [HMS.out], R.out⟩
            case measure => simp [intOf]; omega
          · obtain ⟨gq, cap, cur, rfl, hgb, hgl, hgq, k1, k2, k3, k4⟩ := HO.last
            have hq := HB' q (by simp)
            have hlt : t.length + 1 ≤ 4096 := by simpa using HLen'
            obtain ⟨c0, c1⟩ := last_cells rfl hgq (by omega) k4
            have hfz : wr.frozen? ⟨gq, t.length * 2 + 1, none⟩ = false := frozen_of_row _ _ _ _ _ hgq
            have HK : Hid ((t ++ [q]).length = t.length + 1) := by show _ = _; simp
            have HWT : q.1 + q.2 = ((first + k : Nat) : Int) → withN (t ++ [q]) (((first + k : Nat) : Int), 1) = t ++ [(q.1, q.2 + 1)] := fun e => withN_touch _ _ _ e
            have HWA : q.1 + q.2 ≠ ((first + k : Nat) : Int) → withN (t ++ [q]) (((first + k : Nat) : Int), 1) = t ++ [q] ++ [(((first + k : Nat) : Int), 1)] := fun e => withN_apart _ _ _ e
            have HTN : Hid (t.length = t.length) := rfl
            unfold maxLen at k2
            clear HB' HLen' k3 k4 hgq
            by_cases e : q.1 + q.2 = ((first + k : Nat) : Int)
            · have HWN : Hid _ := HWT e
              have hbe : (q.1 + q.2 == (first : Int) + (k : Int)) = true := by simp; omega
              have HO2 : Hid (POwn wr w.heap.size (.slice (some ⟨gq, 0, none⟩) (t.length + 1) cap) (t ++ [q])) := HO
              clear HWT HWA HO
              obtain ⟨x, y⟩ := q
              simp only at c0 c1 hq hbe HWN HO2 e
              have R1 : Hid (∀ m, POwn ((wr.drewN m).setCell ⟨gq, t.length * 2 + 1, none⟩ (.int .i64 (y + 1))) w.heap.size (.slice (some ⟨gq, 0, none⟩) (t.length + 1) cap) (t ++ [(x, y + 1)])) := fun m => pown_set (q := (x, y)) _ rfl (HO2.out.grown (grown_drew _ m _))
              have R2 : Hid (∀ m, wr.grownBy ((wr.drewN m).setCell ⟨gq, t.length * 2 + 1, none⟩ (.int .i64 (y + 1))) (some gq)) := fun m => grown_trans (grown_drew _ m _) (grown_set _ _ _ _)
              have R : Hid (∀ m, RunsR P want many first n w.heap.size g (k + 1) (.slice (some ⟨gq, 0, none⟩) (t.length + 1) cap) w ((wr.drewN m).setCell ⟨gq, t.length * 2 + 1, none⟩ (.int .i64 (y + 1)))) := fun m => HR.out.put (Nat.le_refl _) (by rw [HE.out, HWN.out]; exact R1.out m) (R2.out m) HR.out.far
              clear HO2 HR R1 R2 HE HWN HK e
              generalize t.length = T at *
              go_wp2
              go_quiet (fail)
              go_wp2
              go_roundw
              case rel => exact ⟨k + 1, by omega, by go_num, by rw [HMS.out], R.out _⟩
              case measure => simp [intOf]; omega
            · have HWN : Hid _ := HWA e
              have hbe : (q.1 + q.2 == (first : Int) + (k : Int)) = false := by simp; omega
              replace HO : Hid (POwn wr w.heap.size (.slice (some ⟨gq, 0, none⟩) (t.length + 1) cap) (t ++ [q])) := HO
              clear HWT HWA e
              generalize hTT : t.length = T at *
              clear hTT
              go_wp2
              go_quiet (fail)
              go_wp2_with (at_builtin; refine wpList_append_lies _ rfl _ _ 49 rfl w.heap.size 53 i0 _ 2 16 Tryz.underlying49 hi hz0 hz1 hz2 rfl (by omega) (.slice (some ⟨gq, 0, none⟩) (T + 1) cap) (T + 1) (cellsQ (t ++ [q])) rfl (own_at HK.out (HO.out.grown (grown_da wr _ _ _))) ⟨wr.heap.size, 0, none⟩ 1 1 [.int .i64 ((first + k : Nat) : Int), .int .i64 1] rfl rfl (World.news_of_block (cs := #[.int .i64 ((first + k : Nat) : Int), .int .i64 1]) (new_da _ _ _)) (two_one _ _) (by omega) (by unfold maxLen; omega) (by omega) (by have := HR.out.bel.size; simp; omega) (wr.heap.size + 1) (by simp) ?_)
              intro g1 cap1 w1 hown1 hgrow1 hat1 hlt1
              have R1 : Hid (POwn w1 w.heap.size (.slice (some ⟨g1, 0, none⟩) ((T + 1) + 1) cap1) ((t ++ [q]) ++ [(((first + k : Nat) : Int), 1)])) := pown_push HK.out hown1
              have R2 : Hid (wr.grownBy w1 (Value.ownBlock (.slice (some ⟨gq, 0, none⟩) (T + 1) cap))) := grown_trans (grown_da wr _ _ _) hgrow1
              have R3 : Hid (some g ≠ Value.ownBlock (.slice (some ⟨g1, 0, none⟩) ((T + 1) + 1) cap1)) := far_of (w := wr) rfl (by omega) hat1 g (lt_heap HR.out.row) HR.out.far
              have R : Hid (RunsR P want many first n w.heap.size g (k + 1) (.slice (some ⟨g1, 0, none⟩) ((T + 1) + 1) cap1) w w1) := HR.out.put (Nat.le_refl _) (by rw [HE.out, HWN.out]; exact R1.out) R2.out R3.out
              clear hown1 hgrow1 hat1 hlt1 HO HR R1 R2 R3
              go_wp2
              go_roundw
              case rel => exact ⟨k + 1, by omega, by go_num, by rw [HMS.out], R.out⟩
              case measure => simp [intOf]; omega
      · have HE : Hid (runsK (wantP P want) many first (n - first) = runsK (wantP P want) many first k) := by
          have := runsK_stay (P := wantP P want) h2 (n - first - k)
          rwa [show k + (n - first - k) = n - first from by omega] at this
        have hz : many - (runsK (wantP P want) many first k).2 = 0 := by omega
        rw [hz]
        clear hz h2
        go_wp2
        go_ret
        rw [HE.out]
        exact ⟨_, rfl, HR.out.own, HR.out.bel⟩
    · obtain rfl : k = n - first := by omega
      generalize many - (runsK (wantP P want) many first (n - first)).2 = rest
      go_wp2
      go_ret
      exact ⟨_, rfl, HR.out.own, HR.out.bel⟩
end Go.Proofs.YthifpelappedcaaGreatDoor.Rm
namespace Go.Proofs.YthifpelappedcaaGreatDoor.Rm
open Go.RowKit Go.WideShapes
set_option maxRecDepth 4000

set_option maxHeartbeats 1000000 in
theorem rcheck_any (count : Int) (v : Value) (l : Pcs) (w : World) (hl : PIn w v l) :
    Calls Tryz.prog 105 #[.int .i64 count, v] w fun e w' => e = .returned (.int .i64 (errK count l)) ∧ Below w.heap.size w w' := by
  obtain ⟨q, c, rfl, _, hlc, hcm, _⟩ := hl.lies
  unfold maxLen at hcm
  by_cases h0 : 0 ≤ count
  · by_cases h1 : count ≤ 4096
    · by_cases h2 : l.length ≤ 4096
      · obtain ⟨n, rfl⟩ := Int.eq_ofNat_of_zero_le h0
        have hta := taken_any n _ l w hl (by omega)
        by_cases h3 : Good n l
        · have HE : Hid (errK n l = 0) := errK_ok ⟨h0, h1⟩ h2 h3
          have HG : Hid (Good n l) := h3
          clear hl h3
          go_enter Tryz.func105, Tryz.ntmps105
          go_wp2_with fail
          refine hta.mono ?_
          rintro e w1 hT
          obtain ⟨g, rfl, _, _, hb1⟩ := hT.1 HG.out
          clear hT
          go_wp2
          go_ret
          exact ⟨by rw [HE.out]; rfl, hb1⟩
        · have HE : Hid (errK n l = 8) := errK_bad ⟨h0, h1⟩ h2 h3
          have HG : Hid (¬ Good n l) := h3
          clear hl h3
          go_enter Tryz.func105, Tryz.ntmps105
          go_wp2_with fail
          refine hta.mono ?_
          rintro e w1 hT
          obtain ⟨rfl, hb1⟩ := hT.2 HG.out
          clear hT
          go_wp2
          go_ret
          exact ⟨by rw [HE.out]; rfl, hb1⟩
      · have HE : Hid (errK count l = 4) := errK_many ⟨h0, h1⟩ h2
        go_enter Tryz.func105, Tryz.ntmps105
        go_wp2
        go_ret
        exact ⟨by rw [HE.out]; rfl, Below.refl _ _⟩
    · have HE : Hid (errK count l = 2) := errK_arg (fun h => h1 h.2)
      go_enter Tryz.func105, Tryz.ntmps105
      go_wp2
      go_ret
      exact ⟨by rw [HE.out]; rfl, Below.refl _ _⟩
  · have HE : Hid (errK count l = 2) := errK_arg (fun h => h0 h.1)
    go_enter Tryz.func105, Tryz.ntmps105
    go_wp2
    go_ret
    exact ⟨by rw [HE.out]; rfl, Below.refl _ _⟩
set_option maxHeartbeats 1000000 in
theorem rasked_any (first count : Int) (v : Value) (l : Pcs) (w : World) (hl : PIn w v l) :
    Calls Tryz.prog 115 #[.int .i64 first, .int .i64 count, v] w fun e w' => e = .returned (.int .i64 (errF first count l)) ∧ Below w.heap.size w w' := by
  obtain ⟨q, c, rfl, _⟩ := hl.lies
  have hck := rcheck_any count _ l w hl
  by_cases h0 : 0 ≤ count
  · by_cases h1 : count ≤ 4096
    · by_cases h2 : 0 ≤ first
      · by_cases h3 : first ≤ count
        · have HE : Hid (errF first count l = errK count l) := errF_ok ⟨⟨h0, h1⟩, h2, h3⟩
          clear hl
          go_enter Tryz.func115, Tryz.ntmps115
          go_wp2_with fail
          refine hck.mono ?_
          rintro e w1 ⟨rfl, hb1⟩
          go_wp2
          go_ret
          exact ⟨by rw [HE.out]; rfl, hb1⟩
        · have HE : Hid (errF first count l = 2) := errF_arg (fun h => h3 h.2.2)
          go_enter Tryz.func115, Tryz.ntmps115
          go_wp2
          go_ret
          exact ⟨by rw [HE.out]; rfl, Below.refl _ _⟩
      · have HE : Hid (errF first count l = 2) := errF_arg (fun h => h2 h.2.1)
        go_enter Tryz.func115, Tryz.ntmps115
        go_wp2
        go_ret
        exact ⟨by rw [HE.out]; rfl, Below.refl _ _⟩
    · have HE : Hid (errF first count l = 2) := errF_arg (fun h => h1 h.1.2)
      go_enter Tryz.func115, Tryz.ntmps115
      go_wp2
      go_ret
      exact ⟨by rw [HE.out]; rfl, Below.refl _ _⟩
  · have HE : Hid (errF first count l = 2) := errF_arg (fun h => h0 h.1.1)
    go_enter Tryz.func115, Tryz.ntmps115
    go_wp2
    go_ret
    exact ⟨by rw [HE.out]; rfl, Below.refl _ _⟩
theorem runs_free (l : Pcs) (many first k : Nat) : runsK (wantP (cov l) false) many first k = runsK (freeB l) many first k := runsK_congr k (fun n _ _ => by unfold wantP freeB; cases cov l n <;> rfl)
theorem runs_join (n : Nat) (l : Pcs) : (runsK (wantP (cov l) true) n 0 (n - 0)).1 = joinK n l := by
  rw [Nat.sub_zero]
  unfold joinK
  rw [runsK_congr (P := wantP (cov l) true) (Q := cov l) n (fun n _ _ => by unfold wantP; cases cov l n <;> rfl)]
theorem got_nat (f n m : Nat) (l : Pcs) : gotF (f : Int) (n : Int) l m = runsK (freeB l) m f (n - f) := by
  unfold gotF
  rw [show ((f : Int)).toNat = f from by omega, show ((n : Int) - (f : Int)).toNat = n - f from by omega]
set_option maxHeartbeats 1000000 in
theorem rfree_any (first count : Int) (v : Value) (l : Pcs) (w : World) (hl : PIn w v l) :
    Calls Tryz.prog 84 #[.int .i64 first, .int .i64 count, v] w (ListPost (resF first count l) (errF first count l) w) := by
  obtain ⟨q, c, rfl, _⟩ := hl.lies
  have hck := rasked_any first count _ l w hl
  by_cases h2 : errF first count l = 0
  · have hz := errF_zero h2
    rw [resF_ok h2, h2]
    rw [h2] at hck
    obtain ⟨f, rfl⟩ := Int.eq_ofNat_of_zero_le hz.1.2.1
    obtain ⟨n, rfl⟩ := Int.eq_ofNat_of_zero_le hz.1.1.1
    rw [got_nat]
    have hta := fun w1 (hb : Below w.heap.size w w1) => taken_any n _ l w1 (hl.below hb) (by omega)
    have HG : Hid (Good n l) := hz.2.2
    have hru : ∀ w1 g, BAt w1 g (cov l) n → Calls Tryz.prog 117 #[.slice (some ⟨g, 0, none⟩) n n, .int .i64 f, .bool false, .int .i64 4096] w1 fun e w' => ∃ v', e = .returned v' ∧ POwn w' w1.heap.size v' (runsK (freeB l) 4096 f (n - f)).1 ∧ Below w1.heap.size w1 w' := by
      intro w1 g hb
      have := runs_any (cov l) false g n f 4096 w1 hb (by omega) (by omega) (by omega)
      rwa [runs_free] at this
    generalize (runsK (freeB l) 4096 f (n - f)).1 = out at *
    clear hl hz h2
    go_enter Tryz.func84, Tryz.ntmps84
    go_wp2_with fail
    refine hck.mono ?_
    rintro e w1 ⟨rfl, hb1⟩
    go_wp2_with fail
    refine (hta w1 hb1).mono ?_
    rintro e w2 hT
    obtain ⟨g, rfl, hrow, hge, hb2⟩ := hT.1 HG.out
    have HRow : Hid (BAt w2 g (cov l) n) := hrow
    clear hT hrow
    go_wp2_with fail
    refine (hru w2 g HRow.out).mono ?_
    rintro e w3 ⟨v3, rfl, ho3, hb3⟩
    have HO : Hid (POwn w3 w2.heap.size v3 out) := ho3
    clear ho3 HRow hta hru
    go_wp2
    go_ret2
    exact listPost_own rfl HO.out (below_bt hb1 hb2) hb3
  · have hne : (errF first count l != 0) = true := by simpa using h2
    rw [resF_bad h2]
    generalize errF first count l = E at *
    clear hl h2
    go_enter Tryz.func84, Tryz.ntmps84
    go_wp2_with fail
    refine hck.mono ?_
    rintro e w1 ⟨rfl, hb1⟩
    go_wp2
    go_ret2
    exact listPost_nil rfl rfl hb1
/-! ### Take -/
theorem runs_sum (P : Int → Bool) (many first k : Nat) : sumP (runsK P many first k).1 = ((runsK P many first k).2 : Nat) := by
  have h := runsK_of P many first k
  rw [← secs_len_sum (fun p hp => by have := h.runs.2 p hp; omega), h.secs, h.got]
theorem take_wn {s : Pcs} (h : ∀ p ∈ s, 0 ≤ p.1 ∧ 0 ≤ p.2 ∧ p.1 + p.2 ≤ 4096) (k : Nat) : ∀ p ∈ s.take k, 0 ≤ p.2 ∧ p.2 ≤ 4096 := by
  intro p hp
  have := h p (List.mem_of_mem_take hp)
  omega
set_option maxHeartbeats 2000000 in
theorem rtake_any (first count : Int) (v : Value) (l : Pcs) (many : Int) (w : World) (hl : PIn w v l) :
    Calls Tryz.prog 74 #[.int .i64 first, .int .i64 count, v, .int .i64 many] w (ListPost (resT first count l many) (errT first count l many) w) := by
  obtain ⟨q, c, rfl, _⟩ := hl.lies
  have hck := rasked_any first count _ l w hl
  by_cases h0 : 0 ≤ many
  · by_cases h1 : many ≤ 4096
    · by_cases h2 : errF first count l = 0
      · have hz := errF_zero h2
        rw [h2] at hck
        obtain ⟨f, rfl⟩ := Int.eq_ofNat_of_zero_le hz.1.2.1
        obtain ⟨n, rfl⟩ := Int.eq_ofNat_of_zero_le hz.1.1.1
        obtain ⟨m, rfl⟩ := Int.eq_ofNat_of_zero_le h0
        have hgot : gotF (f : Int) (n : Int) l ((m : Int)).toNat = runsK (freeB l) m f (n - f) := by rw [show ((m : Int)).toNat = m from by omega, got_nat]
        have HFew : Hid ((runsK (freeB l) m f (n - f)).2 < m → ListPost (resT (f : Int) (n : Int) l (m : Int)) (errT (f : Int) (n : Int) l (m : Int)) w = ListPost [] 30 w) := by
          intro hlt
          have hE : errT (f : Int) (n : Int) l (m : Int) = 30 := errT_few ⟨h0, h1⟩ h2 (by rw [hgot]; omega)
          rw [resT_bad (by rw [hE]; decide), hE]
        have HOk : Hid (¬ (runsK (freeB l) m f (n - f)).2 < m → ListPost (resT (f : Int) (n : Int) l (m : Int)) (errT (f : Int) (n : Int) l (m : Int)) w = ListPost (runsK (freeB l) m f (n - f)).1 0 w) := by
          intro hlt
          have hE : errT (f : Int) (n : Int) l (m : Int) = 0 := errT_ok ⟨h0, h1⟩ h2 (by rw [hgot]; omega)
          rw [resT_ok hE, hE, hgot]
        generalize ListPost (resT (f : Int) (n : Int) l (m : Int)) (errT (f : Int) (n : Int) l (m : Int)) w = POST at *
        have hta := fun w1 (hb : Below w.heap.size w w1) => taken_any n _ l w1 (hl.below hb) (by omega)
        have HG : Hid (Good n l) := hz.2.2
        have hru : ∀ w1 g, BAt w1 g (cov l) n → Calls Tryz.prog 117 #[.slice (some ⟨g, 0, none⟩) n n, .int .i64 f, .bool false, .int .i64 m] w1 fun e w' => ∃ q c, e = .returned (.slice q (runsK (freeB l) m f (n - f)).1.length c) ∧ POwn w' w1.heap.size (.slice q (runsK (freeB l) m f (n - f)).1.length c) (runsK (freeB l) m f (n - f)).1 ∧ Below w1.heap.size w1 w' ∧ (runsK (freeB l) m f (n - f)).1.length ≤ c ∧ c ≤ 9223372036854775807 := by
          intro w1 g hb
          have := runs_any (cov l) false g n f m w1 hb (by omega) (by omega) (by omega)
          rw [runs_free] at this
          refine this.mono ?_
          rintro e w' ⟨v', rfl, ho, hb'⟩
          obtain ⟨q', c', rfl, k1, k2, _⟩ := ho.form
          unfold maxLen at k2
          exact ⟨q', c', rfl, ho, hb', k1, by omega⟩
        have hsum := runs_sum (freeB l) m f (n - f)
        have hbd := runsK_bounds (freeB l) m f (n - f) 4096 (by omega)
        have hln := runsK_len (freeB l) m f (n - f)
        have hgl := runsK_le (freeB l) m f (n - f)
        generalize hrr : (runsK (freeB l) m f (n - f)) = r at *
        obtain ⟨out, got⟩ := r
        simp only at hsum hbd hln hgl hru HFew HOk
        have HSum : Hid (sumP out = (got : Nat)) := hsum
        have HBd : Hid (∀ p ∈ out, 0 ≤ p.1 ∧ 0 ≤ p.2 ∧ p.1 + p.2 ≤ 4096) := hbd
        clear hl hz h2 hgot hsum hbd hrr
        go_enter Tryz.func74, Tryz.ntmps74
        go_wp2_with fail
        refine hck.mono ?_
        rintro e w1 ⟨rfl, hb1⟩
        go_wp2_with fail
        refine (hta w1 hb1).mono ?_
        rintro e w2 hT
        obtain ⟨g, rfl, hrow, hge, hb2⟩ := hT.1 HG.out
        have HRow : Hid (BAt w2 g (cov l) n) := hrow
        clear hT hrow
        go_wp2_with fail
        refine (hru w2 g HRow.out).mono ?_
        rintro e w3 ⟨q3, c3, rfl, ho3, hb3, k1, k2⟩
        have HO : Hid (POwn w3 w2.heap.size (.slice q3 out.length c3) out) := ho3
        have hq3 := ho3.pcs
        have hb12 := below_bt hb1 hb2
        clear ho3 HRow hta hru hck hb1 hb2
        go_wp2
        go_loopw [14, 15] (fun s i wr => ∃ k : Nat, k ≤ out.length ∧ i = .int .i64 k ∧ s = .int .i64 (sumP (out.take k)) ∧ wr = w3) (fun _ i _ => out.length - (intOf i).toNat)
        case atStart => exact ⟨0, by omega, rfl, rfl, rfl⟩
        case round =>
          obtain ⟨k, hk, rfl, rfl, rfl⟩ := hrel
          by_cases hkl : k < out.length
          · obtain ⟨b, o, rfl⟩ := hq3.addr (by omega)
            obtain ⟨e1, e2⟩ := hq3.at hkl
            have hwn := HBd.out _ (getD_mem' (d := (0, 0)) hkl)
            have hs := sumP_bound (take_wn HBd.out k)
            have hsl : (out.take k).length ≤ 4096 := by simp; omega
            have HS : Hid _ := sum_step hkl
            clear hq3
            generalize out.getD k (0, 0) = y at *
            obtain ⟨a, n'⟩ := y
            generalize sumP (out.take k) = S at *
            generalize (out.take k).length = L at *
            simp only at e1 e2 hwn
            go_wp2
            go_roundw
            case rel => exact ⟨k + 1, by omega, by go_num, by rw [HS.out], by first | rfl | trivial⟩
            case measure => simp [intOf]; omega
          · obtain rfl : k = out.length := by omega
            rw [List.take_length, HSum.out]
            clear hq3
            by_cases h5 : got < m
            · have HP := HFew.out h5
              subst HP
              clear HFew HOk
              go_wp2
              go_ret2
              exact listPost_nil rfl rfl (below_bt hb12 hb3)
            · have HP := HOk.out h5
              subst HP
              clear HFew HOk
              go_wp2
              go_ret2
              exact listPost_own rfl HO.out hb12 hb3
      · have h3 : errT first count l many = errF first count l := errT_bad ⟨h0, h1⟩ h2
        have hne : (errF first count l != 0) = true := by simpa using h2
        rw [resT_bad (by rw [h3]; exact h2), h3]
        generalize errF first count l = E at *
        clear hl h2 h3
        go_enter Tryz.func74, Tryz.ntmps74
        go_wp2_with fail
        refine hck.mono ?_
        rintro e w1 ⟨rfl, hb1⟩
        go_wp2
        go_ret2
        exact listPost_nil rfl rfl hb1
    · have h3 : errT first count l many = 2 := errT_arg (fun h => h1 h.2)
      rw [resT_bad (by rw [h3]; decide), h3]
      go_enter Tryz.func74, Tryz.ntmps74
      go_wp2
      go_ret2
      exact listPost_nil rfl rfl (Below.refl _ _)
  · have h3 : errT first count l many = 2 := errT_arg (fun h => h0 h.1)
    rw [resT_bad (by rw [h3]; decide), h3]
    go_enter Tryz.func74, Tryz.ntmps74
    go_wp2
    go_ret2
    exact listPost_nil rfl rfl (Below.refl _ _)
end Go.Proofs.YthifpelappedcaaGreatDoor.Rm
namespace Go.Proofs.YthifpelappedcaaGreatDoor.Rm
open Go.RowKit Go.WideShapes
set_option maxRecDepth 4000

set_option maxHeartbeats 1000000 in
theorem rmany_any (v : Value) (l : Pcs) (w : World) (hl : PIn w v l) :
    Calls Tryz.prog 85 #[v] w fun e w' => e = .returned (.tuple #[.int .i64 (manyN l), .int .i64 (errK 4096 l)]) ∧ Below w.heap.size w w' := by
  obtain ⟨q, c, rfl, hq, hlc, hcm, _⟩ := hl.lies
  have hck := rcheck_any 4096 _ l w hl
  unfold maxLen at hcm
  by_cases h2 : errK 4096 l = 0
  · have hz := errK_zero h2
    have hg := hz.2.2
    have hlen := hz.2.1
    have HM : Hid (manyN l = sumP l) := by show _ = _; unfold manyN; rw [if_pos h2]
    rw [h2] at hck ⊢
    clear hl hz h2
    go_enter Tryz.func85, Tryz.ntmps85
    go_wp2_with fail
    refine hck.mono ?_
    rintro e w1 ⟨rfl, hb1⟩
    go_wp2
    go_loopw [5, 6] (fun s i wr => ∃ k : Nat, k ≤ l.length ∧ i = .int .i64 k ∧ s = .int .i64 (sumP (l.take k)) ∧ Below w.heap.size w wr) (fun _ i _ => l.length - (intOf i).toNat)
    case atStart => exact ⟨0, by omega, rfl, rfl, hb1⟩
    case round =>
      obtain ⟨k, hk, rfl, rfl, hbel⟩ := hrel
      by_cases hkl : k < l.length
      · obtain ⟨b, o, rfl⟩ := hq.addr (by omega)
        obtain ⟨e1, e2⟩ := (hq.below hbel).at hkl
        have hwn := hg.wn _ (getD_mem' (d := (0, 0)) hkl)
        have hs := sumP_bound (wn_take hg k)
        have hsl : (l.take k).length ≤ 4096 := by simp; omega
        have HS : Hid _ := sum_step hkl
        unfold Wn at hwn
        clear hq hg hck
        generalize l.getD k (0, 0) = y at *
        obtain ⟨a, n⟩ := y
        generalize sumP (l.take k) = S at *
        generalize (l.take k).length = L at *
        simp only at e1 e2 hwn
        go_wp2
        go_roundw
        case rel => exact ⟨k + 1, by omega, by go_num, by rw [HS.out], hbel⟩
        case measure => simp [intOf]; omega
      · obtain rfl : k = l.length := by omega
        rw [List.take_length]
        clear hq hg hck
        go_wp2
        go_ret2
        exact ⟨by rw [HM.out]; rfl, hbel⟩
  · have HM : manyN l = 0 := by unfold manyN; rw [if_neg h2]
    have hne : (errK 4096 l != 0) = true := by simpa using h2
    rw [HM]
    generalize errK 4096 l = E at *
    clear hl hq h2
    go_enter Tryz.func85, Tryz.ntmps85
    go_wp2_with fail
    refine hck.mono ?_
    rintro e w1 ⟨rfl, hb1⟩
    go_wp2
    go_ret2
    exact ⟨rfl, hb1⟩
set_option maxHeartbeats 2000000 in
theorem rsectors_any (v : Value) (l : Pcs) (w : World) (hl : PIn w v l) :
    Calls Tryz.prog 76 #[v] w fun e w' => ∃ q c, e = .returned (.tuple #[.slice q (secsN l).length c, .int .i64 (errK 4096 l)]) ∧ IOwn w' w.heap.size (.slice q (secsN l).length c) (secsN l) ∧ Below w.heap.size w w' := by
  obtain ⟨q, c, rfl, hq, hlc, hcm, _⟩ := hl.lies
  have hck := rcheck_any 4096 _ l w hl
  unfold maxLen at hcm
  obtain ⟨i0, hi, hz0, hz1, hz2⟩ := info_parts' info_int
  by_cases h2 : errK 4096 l = 0
  · have hz := errK_zero h2
    have HG : Hid (Good 4096 l) := hz.2.2
    have hlen := hz.2.1
    have HM : secsN l = secs l := by unfold secsN; rw [if_pos h2]
    rw [h2] at hck ⊢
    rw [HM]
    clear hl hz h2 HM
    go_enter Tryz.func76, Tryz.ntmps76
    go_wp2_with fail
    refine hck.mono ?_
    rintro e w1 ⟨rfl, hb1⟩
    clear hck
    go_wp2
    go_loopw [5, 6] (fun out i wr => ∃ k : Nat, k ≤ l.length ∧ i = .int .i64 k ∧ IOwn wr w.heap.size out (secs (l.take k)) ∧ Below w.heap.size w wr) (fun _ i _ => l.length - (intOf i).toNat)
    case atStart => exact ⟨0, by omega, rfl, iown_nil _ _, hb1⟩
    case round =>
      obtain ⟨k, hk, rfl, hout, hbel⟩ := hrel
      by_cases hkl : k < l.length
      · obtain ⟨b, o, rfl⟩ := hq.addr (by omega)
        have hwn := wpIn HG.out hkl
        have HCE : Hid (∀ w', Below w.heap.size w w' → w'.cell? ⟨b, o + k * 2, none⟩ = some (.int .i64 (l.getD k (0, 0)).1) ∧ w'.cell? ⟨b, o + k * 2 + 1, none⟩ = some (.int .i64 (l.getD k (0, 0)).2)) := fun w' hb => (hq.below hb).at hkl
        have HS0 : Hid _ := secsI_zero l k
        have HST : Hid (∀ i, secsI l k (i + 1) = secsI l k i ++ [(l.getD k (0, 0)).1 + (i : Nat)]) := secsI_step l k
        have HSF : Hid _ := secsI_full hkl
        have HSL : Hid (∀ i, i ≤ 4096 → (secsI l k i).length ≤ 16781312) := fun i hi => secsI_len HG.out hlen hi
        have HOUT : Hid (IOwn wr w.heap.size u5 (secsI l k 0)) := by show IOwn _ _ _ _; rw [HS0.out]; exact hout
        have HBEL : Hid (Below w.heap.size w wr) := hbel
        clear hq hout hbel HS0
        generalize hy : l.getD k (0, 0) = y at *
        obtain ⟨a, n⟩ := y
        simp only at hwn
        obtain ⟨m, rfl⟩ := Int.eq_ofNat_of_zero_le (show 0 ≤ n by omega)
        go_wp2
        go_loopw [5, 7] (fun out i wq => ∃ j : Nat, j ≤ m ∧ i = .int .i64 j ∧ IOwn wq w.heap.size out (secsI l k j) ∧ Below w.heap.size w wq) (fun _ i _ => m - (intOf i).toNat)
        case atStart => exact ⟨0, by omega, rfl, HOUT.out, HBEL.out⟩
        case round =>
          clear HOUT HBEL
          obtain ⟨j, hj, rfl, hout, hbel⟩ := hrel
          have HOUT : Hid (IOwn wr w.heap.size u5 (secsI l k j)) := hout
          have HBEL : Hid (Below w.heap.size w wr) := hbel
          obtain ⟨e1, e2⟩ := HCE.out wr hbel
          have hlj := HSL.out j (by omega)
          have HSJ : Hid _ := HST.out j
          clear hout hbel
          by_cases hjm : j < m
          · obtain ⟨L, hL⟩ : ∃ L, (secsI l k j).length = L := ⟨_, rfl⟩
            have HL : Hid ((secsI l k j).length = L) := hL
            rw [hL] at hlj
            clear hL
            go_wp2_with (at_builtin; refine wpList_append_lies _ rfl _ _ 138 rfl w.heap.size 3 i0 _ 1 8 Tryz.underlying138 hi hz0 hz1 hz2 rfl (by omega) u5 L (Is (secsI l k j)) rfl (iown_at HL.out (HOUT.out.below (below_alloc _ _))) ⟨wr.heap.size, 0, none⟩ 1 1 [.int .i64 (a + j)] rfl rfl (World.news_of_block (cs := #[.int .i64 (a + j)]) (heap_alloc_new _ _)) (one_one' _) (by omega) (by unfold maxLen; omega) (by omega) (by have := HBEL.out.size; simp; omega) (wr.heap.size + 1) (by simp) ?_)
            intro g1 cap1 w2 hown1 hgrow1 hat1 hlt1
            have R1 : Hid (IOwn w2 w.heap.size (.slice (some ⟨g1, 0, none⟩) (L + 1) cap1) (secsI l k (j + 1))) := by show IOwn _ _ _ _; rw [HSJ.out]; exact iown_push HL.out hown1
            have R4 : Hid (Below w.heap.size w w2) := (HBEL.out.alloc HBEL.out.size _).grown hgrow1 (by have := HBEL.out.size; simp; omega) (fun x hx => (HOUT.out.lt x hx).1)
            clear hown1 hgrow1 hat1 hlt1 HOUT HBEL e1 e2
            go_wp2
            go_roundw
            case rel => exact ⟨j + 1, by omega, by go_num, R1.out, R4.out⟩
            case measure => simp [intOf]; omega
          · obtain rfl : j = m := by omega
            have R1 : Hid (IOwn wr w.heap.size u5 (secs (l.take (k + 1)))) := by
              have h := HOUT.out
              have e := HSF.out
              simp only [Int.toNat_natCast] at e
              rwa [e] at h
            clear HOUT HSF HST HSJ HSL HCE
            go_wp2
            go_roundw
            case rel => exact ⟨k + 1, by omega, by go_num, R1.out, HBEL.out⟩
            case measure => simp [intOf]; omega
      · obtain rfl : k = l.length := by omega
        rw [List.take_length] at hout
        have HOUT : Hid (IOwn wr w.heap.size u5 (secs l)) := hout
        clear hout hq
        go_wp2
        go_ret2
        obtain ⟨q', m', e, _⟩ := HOUT.out.form
        subst e
        exact ⟨q', m', rfl, HOUT.out, hbel⟩
  · have HM : secsN l = [] := by unfold secsN; rw [if_neg h2]
    have hne : (errK 4096 l != 0) = true := by simpa using h2
    rw [HM]
    generalize errK 4096 l = E at *
    clear hl hq h2
    go_enter Tryz.func76, Tryz.ntmps76
    go_wp2_with fail
    refine hck.mono ?_
    rintro e w1 ⟨rfl, hb1⟩
    go_wp2
    go_ret2
    exact ⟨none, 0, rfl, iown_nil _ _, hb1⟩
end Go.Proofs.YthifpelappedcaaGreatDoor.Rm
namespace Go.Proofs.YthifpelappedcaaGreatDoor
open Go.RowKit Go.WideShapes Rm

theorem rneeds_any (n : Int) (w : World) (h : 0 ≤ n ∧ n ≤ 9223372036854775000) : Calls Tryz.prog 73 #[.int .i64 n] w fun e w' => e = .returned (.int .i64 (needsN n)) ∧ w' = w := by
  have HN : Hid (needsN n = (n + 128 - 1) / 128) := by show _ = _; unfold needsN; omega
  go_enter Tryz.func73, Tryz.ntmps73
  go_wp2
  go_ret
  exact ⟨by rw [HN.out]; rfl, rfl⟩
theorem rsmall4_any (n : Int) (w : World) (h : 0 ≤ n ∧ n ≤ 9223372036854775807) : Calls Tryz.prog 58 #[.int .i64 n] w fun e w' => ∃ v, e = .returned v ∧ w'.ownsRow w.heap.size 5 1 v (smallN n.toNat).length (Bs (smallN n.toNat)) ∧ Below w.heap.size w w' := by
  obtain ⟨m, rfl⟩ := Int.eq_ofNat_of_zero_le h.1
  have hm : IntKind.u64.wrap (m : Int) = (m : Int) := by rw [IntKind.wrap_u64]; omega
  go_enter Tryz.func58, Tryz.ntmps58
  go_wp2_with (go_at_call 106; refine (refSmall_any m _ (by omega)).mono ?_; rintro e w1 ⟨v, rfl, ho, hb⟩)
  go_ret
  exact ⟨v, rfl, ho, hb⟩
set_option maxRecDepth 4000 in
set_option maxHeartbeats 4000000 in
theorem risName_r (s : ByteArray) (r : Bool) (hr : isNameN s = r) (w : World) (hs : (s.size : Int) ≤ 9223372036854775807) : Calls Tryz.prog 80 #[.string s] w fun e w' => e = .returned (.bool r) ∧ w' = w := by
  have HR : Hid (isNameN s = r) := hr
  clear hr
  by_cases h1 : 1 ≤ s.size ∧ s.size ≤ 32
  · go_enter Tryz.func80, Tryz.ntmps80
    go_wp2
    go_loop [3] (fun i => ∃ k : Nat, k ≤ s.size ∧ i = .int .i64 k ∧ ∀ j, j < k → nameByte ((numsOf s).getD j 0) = true) (fun i => s.size - (intOf i).toNat)
    case atStart => exact ⟨0, by omega, rfl, fun j hj => absurd hj (by omega)⟩
    case round =>
      obtain ⟨k, hk, rfl, hall⟩ := hrel
      have HA : Hid (∀ j, j < k → nameByte ((numsOf s).getD j 0) = true) := hall
      clear hall
      by_cases hkl : k < s.size
      · have hx := str_at s k hkl
        have hlt := getD_lt (numsOf_lt s) k
        have HS : Hid (nameByte ((numsOf s).getD k 0) = false → isNameN s = false) := fun h => by
          unfold isNameN
          rw [List.all_eq_false.2 ⟨_, getD_mem' (d := 0) (by rw [numsOf_len]; exact hkl), by rw [h]; simp⟩, Bool.and_false]
        have HT : Hid (nameByte ((numsOf s).getD k 0) = true → ∀ j, j < k + 1 → nameByte ((numsOf s).getD j 0) = true) := fun h j hj => by
          rcases Nat.lt_or_ge j k with h' | h'
          · exact HA.out j h'
          · obtain rfl : j = k := by omega
            exact h
        clear HA
        generalize hcd : (numsOf s).getD k 0 = cc at *
        cases hb : nameByte cc with
        | true =>
          have HT2 := HT.out hb
          have HT3 : Hid _ := HT2
          clear HT2 HT HS
          unfold nameByte at hb
          simp only [decide_eq_true_eq] at hb
          by_cases a1 : (97 : Int) ≤ cc <;> by_cases a2 : (cc : Int) ≤ 122 <;> by_cases a3 : (48 : Int) ≤ cc <;> by_cases a4 : (cc : Int) ≤ 57 <;> by_cases b1 : cc = 45 <;> by_cases b2 : cc = 95 <;> by_cases b3 : cc = 46 <;> first | (exfalso; omega) | skip
          all_goals
            clear hb
            have c1 : ((cc : Int) == 45) = decide (cc = 45) := by rw [Bool.eq_iff_iff]; simp; omega
            have c2 : ((cc : Int) == 95) = decide (cc = 95) := by rw [Bool.eq_iff_iff]; simp; omega
            have c3 : ((cc : Int) == 46) = decide (cc = 46) := by rw [Bool.eq_iff_iff]; simp; omega
            go_wp2
            go_round
            case rel => exact ⟨k + 1, by omega, by go_num, HT3.out⟩
            case measure => simp [intOf]; omega
        | false =>
          have HF : Hid (isNameN s = false) := HS.out hb
          clear HT HS
          unfold nameByte at hb
          simp only [decide_eq_false_iff_not] at hb
          by_cases a1 : (97 : Int) ≤ cc <;> by_cases a2 : (cc : Int) ≤ 122 <;> by_cases a3 : (48 : Int) ≤ cc <;> by_cases a4 : (cc : Int) ≤ 57 <;> first | (exfalso; omega) | skip
          all_goals
            have c1 : ((cc : Int) == 45) = false := by simp; omega
            have c2 : ((cc : Int) == 95) = false := by simp; omega
            have c3 : ((cc : Int) == 46) = false := by simp; omega
            clear hb
            go_wp2
            go_ret
            exact ⟨by rw [← HR.out, HF.out]; rfl, rfl⟩
      · obtain rfl : k = s.size := by omega
        have HT : Hid (isNameN s = true) := by
          show _ = _
          unfold isNameN
          rw [decide_eq_true h1, Bool.true_and, List.all_eq_true]
          intro c hc
          obtain ⟨i, hi, rfl⟩ := List.getElem_of_mem hc
          have := HA.out i (by rw [← numsOf_len]; exact hi)
          rwa [getD_eq hi] at this
        clear HA
        go_wp2
        go_ret
        exact ⟨by rw [← HR.out, HT.out]; rfl, rfl⟩
  · have HF : Hid (isNameN s = false) := by show _ = _; unfold isNameN; rw [decide_eq_false h1]; rfl
    go_enter Tryz.func80, Tryz.ntmps80
    go_wp2
    all_goals
      go_ret
      refine ⟨?_, rfl⟩
      rw [← HR.out, HF.out]
      rfl
theorem pown_grown_box {w w' : World} {base B : Nat} {v : Value} {l : Pcs} {C : Array Value} {t : TypeId} {fr : Nat × Nat} (h : POwn w base v l) (hg : w.grownBy w' v.ownBlock) (hB : w.heap[B]? = some (.cells C t fr)) (ht : t ≠ 53) : w'.heap[B]? = some (.cells C t fr) := by
  rw [hg.block B (lt_heap hB) ?_]
  · exact hB
  · intro e
    rcases h.2 with ⟨hv, _⟩ | ⟨g, cap, cur, hv, _, hgg, _⟩
    · rw [hv] at e; cases e
    · rw [hv] at e
      simp only [Value.ownBlock, Option.some.injEq] at e
      subst e
      rw [hB] at hgg
      simp only [Option.some.injEq, Obj.cells.injEq] at hgg
      exact ht hgg.2.1
set_option maxHeartbeats 1000000 in
theorem rpieces_any (v : Value) (x : DirV) (w : World) (hx : DirIn w v x) (hsum : (allPcs x.files).length ≤ 1000000) :
    Calls Tryz.prog 72 #[v] w fun e w' => ∃ r, e = .returned r ∧ POwn w' w.heap.size r (allPcs x.files) ∧ Below w.heap.size w w' := by
  obtain ⟨fv, rfl, hf⟩ := hx.lies
  obtain ⟨gen, l⟩ := x
  simp only at hf hsum ⊢
  obtain ⟨q, c, rfl, hq, hlc, hcm, hqn⟩ := hf.lies
  have HQ : Hid (FilesIn w q l) := hq
  unfold maxLen at hcm
  clear hf hq hqn hx
  go_enter Tryz.func72, Tryz.ntmps72
  go_wp2
  go_loopw [3, 4] (fun m i wr => ∃ k : Nat, k ≤ l.length ∧ i = .int .i64 k ∧ POwn wr w.heap.size m (allPcs (l.take k)) ∧ wr.heap[w.heap.size]? = some (.cells #[.int .i64 gen, .slice q l.length c] 31 (0, 0)) ∧ Below w.heap.size w wr) (fun _ i _ => l.length - (intOf i).toNat)
  case atStart => exact ⟨0, by omega, rfl, pown_nil _ _, heap_alloc_new w _, below_alloc _ _⟩
  case round =>
    obtain ⟨k, hk, rfl, hown, hbx, hbel⟩ := hrel
    have hsz := hbel.size
    have d1 : wr.cell? ⟨w.heap.size, 1, none⟩ = some (.slice q l.length c) := cell_of_row _ _ _ _ _ _ hbx
    have HX : Hid _ := hbx
    have HB : Hid (Below w.heap.size w wr) := hbel
    clear hbx
    by_cases hkl : k < l.length
    · obtain ⟨b, o, rfl⟩ := HQ.out.addr (by omega)
      obtain ⟨_, _, pv, e2, hp⟩ := (HQ.out.below hbel).at hkl
      have HA : Hid _ := allPcs_snoc hkl
      have hle : (allPcs (l.take (k + 1))).length ≤ (allPcs l).length := by
        conv => rhs; rw [← List.take_append_drop (k + 1) l]
        unfold allPcs
        rw [List.flatMap_append, List.length_append]
        omega
      rw [allPcs_snoc hkl, List.length_append] at hle
      clear hbel
      generalize l.getD k zeroF = y at *
      obtain ⟨nm, sz, pl⟩ := y
      obtain ⟨qp, cp, rfl, hqp, _, _, hqn⟩ := hp.lies
      simp only at e2 hqp hle
      have HP : Hid (PcsIn wr qp pl) := hqp
      have HO : Hid _ := hown
      clear hqp hp hown
      go_wp2_with (at_builtin; refine wpList_append_pcs _ rfl _ _ rfl w.heap.size _ (allPcs (l.take k)) pl qp pl.length cp rfl rfl rfl HO.out HP.out hqn (by omega) (by omega) ?_; intro v' w2 hown3 hgrow)
      go_roundw
      case rel => exact ⟨k + 1, by omega, by go_num, by rw [HA.out]; exact hown3, pown_grown_box HO.out hgrow HX.out (by decide), HB.out.grown hgrow hsz (fun x hx => (POwn.lt HO.out x hx).1)⟩
      case measure => simp [intOf]; omega
    · obtain rfl : k = l.length := by omega
      rw [List.take_length] at hown
      clear hbel
      have HO : Hid _ := hown
      clear hown
      go_wp2
      go_ret
      exact ⟨_, rfl, HO.out, HB.out⟩
end Go.Proofs.YthifpelappedcaaGreatDoor
namespace Go.Proofs.YthifpelappedcaaGreatDoor
open Go.RowKit Go.WideShapes Rm

/-- What may asks. -/
structure MayR (x : DirV) : Prop where
  lo : 1 ≤ x.gen
  hi : x.gen < 4611686018427387904
  rise : Rises ltS x.files
  pcs : errK 4096 (allPcs x.files) = 0
  each : ∀ f ∈ x.files, FileOk f
theorem mayR_iff {x : DirV} (h : x.files.length ≤ 32) : MayR x ↔ May ltS x := ⟨fun k => ⟨k.lo, k.hi, h, k.rise, k.pcs, k.each⟩, fun k => ⟨k.lo, k.hi, k.rise, k.pcs, k.each⟩⟩
theorem sum_eq (l : Pcs) : sumP l = sumC l := by
  induction l with
  | nil => rfl
  | cons p l ih => simp [sumP, sumC] at *
/-- A file, but for its pieces: as one test asks. -/
def FOk1 (l : List FileV) (k : Nat) : Prop := isNameN (l.getD k zeroF).name = true ∧ (0 < k → ltS (l.getD (k - 1) zeroF).name (l.getD k zeroF).name) ∧ 0 ≤ (l.getD k zeroF).size ∧ (l.getD k zeroF).size ≤ 524288
def FOk2 (l : List FileV) (k : Nat) : Prop := FOk1 l k ∧ sumC (l.getD k zeroF).pcs = needsN (l.getD k zeroF).size
theorem FOk2.step {l : List FileV} {k : Nat} (h : ∀ j, j < k → FOk2 l j) (h1 : FOk2 l k) : ∀ j, j < k + 1 → FOk2 l j := by
  intro j hj
  rcases Nat.lt_or_ge j k with h' | h'
  · exact h j h'
  · obtain rfl : j = k := by omega
    exact h1
theorem mayR_of {gen : Int} {l : List FileV} (h1 : 1 ≤ gen) (h2 : gen < 4611686018427387904) (h3 : errK 4096 (allPcs l) = 0) (h4 : ∀ p ∈ allPcs l, 80 ≤ p.1) (h5 : ∀ j, j < l.length → FOk2 l j) : MayR ⟨gen, l⟩ := by
  refine ⟨h1, h2, fun i hi => ?_, h3, fun f hf => ?_⟩
  · exact (h5 (i + 1) hi).1.2.1 (by omega)
  · obtain ⟨i, hi, rfl⟩ := List.getElem_of_mem hf
    have := h5 i hi
    unfold FOk2 FOk1 at this
    rw [getD_eq hi] at this
    exact ⟨this.1.1, this.1.2.2.1, this.1.2.2.2, fun p hp => h4 p (mem_allPcs hf hp), this.2⟩
theorem mayR_ok2 {gen : Int} {l : List FileV} (h : MayR ⟨gen, l⟩) {k : Nat} (hk : k < l.length) : FOk2 l k := by
  have hf := h.each _ (getD_mem' (d := zeroF) hk)
  refine ⟨⟨hf.1, fun h0 => ?_, hf.2.1, hf.2.2.1⟩, hf.2.2.2.2⟩
  have := h.rise (k - 1) (by simp only; omega)
  rwa [show k - 1 + 1 = k from by omega] at this
set_option maxRecDepth 4000 in
set_option maxHeartbeats 800000 in
theorem rmay_any (v : Value) (x : DirV) (r : Bool) (w : World) (hr : r = true ↔ MayR x) (hx : DirIn w v x) (hs : ∀ f ∈ x.files, (f.name.size : Int) ≤ 9223372036854775807) (hsum : (allPcs x.files).length ≤ 1000000) :
    Calls Tryz.prog 57 #[v] w fun e w' => e = .returned (.bool r) ∧ Below w.heap.size w w' := by
  obtain ⟨fv, rfl, hf⟩ := hx.lies
  obtain ⟨gen, l⟩ := x
  have HR : Hid (r = true ↔ MayR ⟨gen, l⟩) := hr
  have HNO : Hid (¬ MayR ⟨gen, l⟩ → r = false) := fun h => by cases r with | false => rfl | true => exact absurd (HR.out.1 rfl) h
  have hgw := hx.wf
  unfold wf64 at hgw
  have HX : Hid (DirIn w (.agg #[.int .i64 gen, fv]) ⟨gen, l⟩) := hx
  have HF : Hid (FIn w fv l) := hf
  obtain ⟨q, c, rfl, hq, hlc, hcm, hqn⟩ := hf.lies
  have hwf := hf.wf
  unfold maxLen at hcm
  simp only at hs hsum hlc hgw ⊢
  have HQ : Hid (FilesIn w q l) := hq
  have HWF : Hid (∀ f ∈ l, wf64 f.size) := hwf
  have HSZ : Hid (∀ f ∈ l, (f.name.size : Int) ≤ 9223372036854775807) := hs
  clear hq hqn hf hx hwf hs hr
  by_cases h1 : 1 ≤ gen ∧ gen < 4611686018427387904
  · have hpc := rpieces_any _ ⟨gen, l⟩ (w.alloc (.cells #[.int .i64 gen, .slice q l.length c] 31)) (HX.out.below (below_alloc w _)) hsum
    go_enter Tryz.func57, Tryz.ntmps57
    go_wp2_with fail
    refine hpc.mono ?_
    rintro e w1 ⟨r1, rfl, ho1, hb1⟩
    have hs1 := hb1.size
    simp at hs1
    have HWP : Hid (Wf (allPcs l)) := HF.out.wfp
    have hck := Rm.rcheck_any 4096 r1 (allPcs l) w1 (ho1.pin HWP.out)
    clear hpc
    go_wp2_with fail
    refine hck.mono ?_
    rintro e w2 ⟨rfl, hb2⟩
    have hs2 := hb2.size
    have hbel2 : Below (w.heap.size + 1) (w.alloc (.cells #[.int .i64 gen, .slice q l.length c] 31)) w2 := (hb1.mono (by simp)).trans (hb2.mono (by omega))
    have HB2 : Hid (Below w.heap.size w w2) := box_below hbel2
    have HO2 : Hid (POwn w2 (w.alloc (.cells #[.int .i64 gen, .slice q l.length c] 31)).heap.size r1 (allPcs l)) := ho1.below hb2
    obtain ⟨q1, m1, rfl, hm1, hm2, _⟩ := ho1.form
    clear hck hb1 hb2 ho1
    unfold maxLen at hm2
    by_cases h3 : errK 4096 (allPcs l) = 0
    · have HK : Hid (errK 4096 (allPcs l) = 0) := h3
      rw [h3]
      clear h3
      go_wp2
      go_loop [4] (fun i => ∃ k : Nat, k ≤ (allPcs l).length ∧ i = .int .i64 k ∧ ∀ j, j < k → 80 ≤ ((allPcs l).getD j (0, 0)).1) (fun i => (allPcs l).length - (intOf i).toNat)
      case atStart => exact ⟨0, by omega, rfl, fun j hj => absurd hj (by omega)⟩
      case round =>
        obtain ⟨k, hk, rfl, hlo⟩ := hrel
        have HLO : Hid (∀ j, j < k → 80 ≤ ((allPcs l).getD j (0, 0)).1) := hlo
        clear hlo
        by_cases hkl : k < (allPcs l).length
        · have hpq := POwn.pcs HO2.out
          obtain ⟨b, o, rfl⟩ := hpq.addr (by omega)
          obtain ⟨e1, _⟩ := hpq.at hkl
          have hwk := (HWP.out.at hkl).1
          have HST : Hid (80 ≤ ((allPcs l).getD k (0, 0)).1 → ∀ j, j < k + 1 → 80 ≤ ((allPcs l).getD j (0, 0)).1) := eqlK_step HLO.out
          have HN2 : Hid (¬ 80 ≤ ((allPcs l).getD k (0, 0)).1 → r = false) := fun h => HNO.out fun hm => h (by
            obtain ⟨f, hf, hp⟩ := List.mem_flatMap.1 (getD_mem' (d := (0, 0)) hkl)
            exact (hm.each f hf).2.2.2.1 _ hp)
          clear HLO hpq
          generalize (allPcs l).getD k (0, 0) = y at *
          obtain ⟨a, n⟩ := y
          simp only at e1 hwk
          by_cases g : 80 ≤ a
          · have H3 : Hid _ := HST.out g
            clear HST HN2
            go_wp2
            go_round
            case rel => exact ⟨k + 1, by omega, by go_num, H3.out⟩
            case measure => simp [intOf]; omega
          · have H3 : Hid (r = false) := HN2.out g
            clear HST HN2
            go_wp2
            go_ret
            exact ⟨by rw [H3.out]; rfl, HB2.out⟩
        · obtain rfl : k = (allPcs l).length := by omega
          have HALL : Hid (∀ p ∈ allPcs l, 80 ≤ p.1) := by
            intro p hp
            obtain ⟨i, hi, rfl⟩ := List.getElem_of_mem hp
            have := HLO.out i hi
            rwa [getD_eq hi] at this
          clear HLO
          go_wp2
          go_loopw [5] (fun i wr => ∃ k : Nat, k ≤ l.length ∧ i = .int .i64 k ∧ (∀ j, j < k → FOk2 l j) ∧ Below (w.heap.size + 1) (w.alloc (.cells #[.int .i64 gen, .slice q l.length c] 31)) wr) (fun i _ => l.length - (intOf i).toNat)
          case atStart => exact ⟨0, by omega, rfl, fun j hj => absurd hj (by omega), hbel2⟩
          case round =>
            clear hbel2 HB2 HO2
            obtain ⟨k, hk, rfl, hok, hbel⟩ := hrel
            have HOK : Hid (∀ j, j < k → FOk2 l j) := hok
            clear hok
            have hsz := hbel.size
            simp at hsz
            have hbw : Below w.heap.size w wr := box_below hbel
            have HBW : Hid (Below w.heap.size w wr) := hbw
            obtain ⟨d0, d1⟩ := box2 hbel
            by_cases hkl : k < l.length
            · obtain ⟨b, o, rfl⟩ := HQ.out.addr (by omega)
              obtain ⟨e0, e1, pv, e2, hp⟩ := (HQ.out.below hbw).at hkl
              have hwfk := HWF.out _ (getD_mem' (d := zeroF) hkl)
              have hszk := HSZ.out _ (getD_mem' (d := zeroF) hkl)
              have HPI : Hid (PIn wr pv (l.getD k zeroF).pcs) := hp
              obtain ⟨qp, cp, rfl, _⟩ := hp.lies
              have hgood := (errK_zero HK.out).2.2
              have HPK : Hid (errK 4096 (l.getD k zeroF).pcs = 0) := by
                refine errK_ok (by omega) ?_ ⟨fun p hp => hgood.wn p (mem_allPcs (getD_mem' hkl) hp), ?_⟩
                · have h1 := len_allPcs (getD_mem' (d := zeroF) hkl); have h2 := (errK_zero HK.out).2.1; omega
                · have hsub : List.Sublist (l.getD k zeroF).pcs (allPcs l) := by
                    unfold allPcs
                    rw [List.flatMap_def]
                    exact List.sublist_flatten_of_mem (List.mem_map_of_mem (getD_mem' hkl))
                  exact hgood.apart.sublist hsub
              have HYES : Hid (FOk2 l k → ∀ j, j < k + 1 → FOk2 l j) := FOk2.step HOK.out
              have HN1 : Hid (¬ FOk2 l k → r = false) := fun h => HNO.out fun hm => h (mayR_ok2 hm hkl)
              have hprev : 0 < k → wr.cell? ⟨b, o + (k - 1) * 3, none⟩ = some (.string (l.getD (k - 1) zeroF).name) := fun _ => ((HQ.out.below hbw).at (k := k - 1) (by omega)).1
              have HDEF : Hid (FOk2 l k ↔ (isNameN (l.getD k zeroF).name = true ∧ (0 < k → ltS (l.getD (k - 1) zeroF).name (l.getD k zeroF).name) ∧ 0 ≤ (l.getD k zeroF).size ∧ (l.getD k zeroF).size ≤ 524288) ∧ sumC (l.getD k zeroF).pcs = needsN (l.getD k zeroF).size) := Iff.rfl
              clear HOK hp hgood hbw
              unfold wf64 at hwfk
              generalize l.getD k zeroF = y at *
              generalize l.getD (k - 1) zeroF = z at *
              obtain ⟨nm, sz, pl⟩ := y
              obtain ⟨nm0, sz0, pl0⟩ := z
              simp only at e0 e1 e2 hwfk hszk hprev
              have d1' : (wr.alloc (.cells #[.string nm, .int .i64 sz, .slice qp pl.length cp] 51)).cell? ⟨w.heap.size, 1, none⟩ = some (.slice (some ⟨b, o, none⟩) l.length c) := by rw [World.cell?_alloc_lt _ _ _ (by simp; omega)]; exact d1
              have hgeq := str_geq
              have hpin2 := HPI.out.below (below_alloc wr (.cells #[.string nm, .int .i64 sz, .slice qp pl.length cp] 51))
              have HP2 : Hid _ := hpin2
              clear hpin2 d0
              rcases k with _ | k
              · simp only [Nat.zero_mul, Nat.add_zero] at e0 e1 e2
                clear hprev
                cases hnm : isNameN nm with
                | false =>
                  have H3 : Hid (r = false) := HN1.out (fun h => by rw [(HDEF.out.1 h).1.1] at hnm; cases hnm)
                  clear HN1 HYES HDEF
                  go_wp2
                  go_quiet (first | (go_at_call 80; refine Calls.quiet_of_same (risName_r nm false hnm _ hszk)))
                  go_wp2
                  go_ret
                  exact ⟨by rw [H3.out]; rfl, below_drewN (HBW.out.alloc HBW.out.size _) _⟩
                | true =>
                  by_cases g1 : 0 ≤ sz
                  · by_cases g2 : sz ≤ 524288
                    · have hmn := Rm.rmany_any (.slice qp pl.length cp) pl
                      have q1 : decide (sz < 0) = false := by simp; omega
                      have q2 : decide ((524288 : Int) < sz) = false := by simp; omega
                      have HMN : Hid (manyN pl = sumC pl) := by show _ = _; unfold manyN; rw [if_pos HPK.out, sum_eq]
                      generalize hSS : sumC pl = SS at *
                      by_cases g3 : SS = needsN sz
                      · have HY : Hid (∀ j, j < 0 + 1 → FOk2 l j) := HYES.out (HDEF.out.2 ⟨⟨hnm, fun h => absurd h (by omega), g1, g2⟩, g3⟩)
                        have hne : (SS != needsN sz) = false := by simp [g3]
                        clear HYES HN1 HDEF g3
                        generalize hnn : needsN sz = nn at *
                        go_wp2
                        go_quiet (first | (go_at_call 80; refine Calls.quiet_of_same (risName_r nm true hnm _ hszk)))
                        go_wp2_with fail
                        refine (hmn _ (PIn.below HP2.out (below_drewN (Below.refl _ _) _))).mono ?_
                        rintro e w3 ⟨rfl, hb3⟩
                        have hb3' : Below (wr.heap.size + 1) (wr.alloc (.cells #[.string nm, .int .i64 sz, .slice qp pl.length cp] 51)) w3 := (below_drewN (Below.refl _ _) _).trans (hb3.mono (by simp [World.drewN]))
                        obtain ⟨x0, x1, x2⟩ := box3 hb3'
                        have HB3 : Hid (Below wr.heap.size wr w3) := box_below hb3'
                        have hs3 := HB3.out.size
                        rw [HMN.out]
                        clear hb3 hb3' hmn
                        go_wp2_with (go_at_call 73; refine (rneeds_any sz _ (by omega)).mono ?_; rintro e w4 ⟨rfl, rfl⟩; rw [hnn])
                        go_roundw
                        case rel => exact ⟨0 + 1, by omega, by go_num, HY.out, hbel.trans (HB3.out.mono hsz)⟩
                        case measure => simp [intOf]; omega
                      · have H3 : Hid (r = false) := HN1.out (fun h => g3 (HDEF.out.1 h).2)
                        have hne : (SS != needsN sz) = true := by simpa using g3
                        clear HYES HN1 HDEF g3
                        generalize hnn : needsN sz = nn at *
                        go_wp2
                        go_quiet (first | (go_at_call 80; refine Calls.quiet_of_same (risName_r nm true hnm _ hszk)))
                        go_wp2_with fail
                        refine (hmn _ (PIn.below HP2.out (below_drewN (Below.refl _ _) _))).mono ?_
                        rintro e w3 ⟨rfl, hb3⟩
                        have hb3' : Below (wr.heap.size + 1) (wr.alloc (.cells #[.string nm, .int .i64 sz, .slice qp pl.length cp] 51)) w3 := (below_drewN (Below.refl _ _) _).trans (hb3.mono (by simp [World.drewN]))
                        obtain ⟨x0, x1, x2⟩ := box3 hb3'
                        have HB3 : Hid (Below wr.heap.size wr w3) := box_below hb3'
                        have hs3 := HB3.out.size
                        rw [HMN.out]
                        clear hb3 hb3' hmn
                        go_wp2_with (go_at_call 73; refine (rneeds_any sz _ (by omega)).mono ?_; rintro e w4 ⟨rfl, rfl⟩; rw [hnn])
                        go_ret
                        exact ⟨by rw [H3.out]; rfl, HBW.out.trans (HB3.out.mono HBW.out.size)⟩
                    · have H3 : Hid (r = false) := HN1.out (fun h => g2 (HDEF.out.1 h).1.2.2.2)
                      have q1 : decide (sz < 0) = false := by simp; omega
                      have q2 : decide ((524288 : Int) < sz) = true := by simp; omega
                      clear HN1 HYES HDEF
                      go_wp2
                      go_quiet (first | (go_at_call 80; refine Calls.quiet_of_same (risName_r nm true hnm _ hszk)))
                      go_wp2
                      go_ret
                      exact ⟨by rw [H3.out]; rfl, below_drewN (HBW.out.alloc HBW.out.size _) _⟩
                  · have H3 : Hid (r = false) := HN1.out (fun h => g1 (HDEF.out.1 h).1.2.2.1)
                    have q1 : decide (sz < 0) = true := by simp; omega
                    clear HN1 HYES HDEF
                    go_wp2
                    go_quiet (first | (go_at_call 80; refine Calls.quiet_of_same (risName_r nm true hnm _ hszk)))
                    go_wp2
                    go_ret
                    exact ⟨by rw [H3.out]; rfl, below_drewN (HBW.out.alloc HBW.out.size _) _⟩
              · have hp0 := hprev (by omega)
                simp only [Nat.add_sub_cancel] at hp0 HDEF
                have hp0' : (wr.alloc (.cells #[.string nm, .int .i64 sz, .slice qp pl.length cp] 51)).cell? ⟨b, o + k * 3, none⟩ = some (.string nm0) := by rw [World.cell?_alloc_lt _ _ _ (World.block_lt_of_cell? _ _ hp0)]; exact hp0
                clear hprev
                cases hnm : isNameN nm with
                | false =>
                  have H3 : Hid (r = false) := HN1.out (fun h => by rw [(HDEF.out.1 h).1.1] at hnm; cases hnm)
                  clear HN1 HYES HDEF
                  go_wp2
                  go_quiet (first | (go_at_call 80; refine Calls.quiet_of_same (risName_r nm false hnm _ hszk)))
                  go_wp2
                  go_ret
                  exact ⟨by rw [H3.out]; rfl, below_drewN (HBW.out.alloc HBW.out.size _) _⟩
                | true =>
                  by_cases g : ltS nm0 nm
                  · have HLT : Hid (ltS nm0 nm) := g
                    unfold ltS at g
                    by_cases g1 : 0 ≤ sz
                    · by_cases g2 : sz ≤ 524288
                      · have hmn := Rm.rmany_any (.slice qp pl.length cp) pl
                        have q1 : decide (sz < 0) = false := by simp; omega
                        have q2 : decide ((524288 : Int) < sz) = false := by simp; omega
                        have HMN : Hid (manyN pl = sumC pl) := by show _ = _; unfold manyN; rw [if_pos HPK.out, sum_eq]
                        generalize hSS : sumC pl = SS at *
                        by_cases g3 : SS = needsN sz
                        · have HY : Hid (∀ j, j < k + 1 + 1 → FOk2 l j) := HYES.out (HDEF.out.2 ⟨⟨hnm, fun _ => HLT.out, g1, g2⟩, g3⟩)
                          have hne : (SS != needsN sz) = false := by simp [g3]
                          clear HYES HN1 HDEF g3
                          generalize hnn : needsN sz = nn at *
                          go_wp2
                          go_quiet (first | (go_at_call 80; refine Calls.quiet_of_same (risName_r nm true hnm _ hszk)))
                          go_wp2_with fail
                          refine (hmn _ (PIn.below HP2.out (below_drewN (Below.refl _ _) _))).mono ?_
                          rintro e w3 ⟨rfl, hb3⟩
                          have hb3' : Below (wr.heap.size + 1) (wr.alloc (.cells #[.string nm, .int .i64 sz, .slice qp pl.length cp] 51)) w3 := (below_drewN (Below.refl _ _) _).trans (hb3.mono (by simp [World.drewN]))
                          obtain ⟨x0, x1, x2⟩ := box3 hb3'
                          have HB3 : Hid (Below wr.heap.size wr w3) := box_below hb3'
                          have hs3 := HB3.out.size
                          rw [HMN.out]
                          clear hb3 hb3' hmn
                          go_wp2_with (go_at_call 73; refine (rneeds_any sz _ (by omega)).mono ?_; rintro e w4 ⟨rfl, rfl⟩; rw [hnn])
                          go_roundw
                          case rel => exact ⟨k + 1 + 1, by omega, by go_num, HY.out, hbel.trans (HB3.out.mono hsz)⟩
                          case measure => simp [intOf]; omega
                        · have H3 : Hid (r = false) := HN1.out (fun h => g3 (HDEF.out.1 h).2)
                          have hne : (SS != needsN sz) = true := by simpa using g3
                          clear HYES HN1 HDEF g3
                          generalize hnn : needsN sz = nn at *
                          go_wp2
                          go_quiet (first | (go_at_call 80; refine Calls.quiet_of_same (risName_r nm true hnm _ hszk)))
                          go_wp2_with fail
                          refine (hmn _ (PIn.below HP2.out (below_drewN (Below.refl _ _) _))).mono ?_
                          rintro e w3 ⟨rfl, hb3⟩
                          have hb3' : Below (wr.heap.size + 1) (wr.alloc (.cells #[.string nm, .int .i64 sz, .slice qp pl.length cp] 51)) w3 := (below_drewN (Below.refl _ _) _).trans (hb3.mono (by simp [World.drewN]))
                          obtain ⟨x0, x1, x2⟩ := box3 hb3'
                          have HB3 : Hid (Below wr.heap.size wr w3) := box_below hb3'
                          have hs3 := HB3.out.size
                          rw [HMN.out]
                          clear hb3 hb3' hmn
                          go_wp2_with (go_at_call 73; refine (rneeds_any sz _ (by omega)).mono ?_; rintro e w4 ⟨rfl, rfl⟩; rw [hnn])
                          go_ret
                          exact ⟨by rw [H3.out]; rfl, HBW.out.trans (HB3.out.mono HBW.out.size)⟩
                      · have H3 : Hid (r = false) := HN1.out (fun h => g2 (HDEF.out.1 h).1.2.2.2)
                        have q1 : decide (sz < 0) = false := by simp; omega
                        have q2 : decide ((524288 : Int) < sz) = true := by simp; omega
                        clear HN1 HYES HDEF
                        go_wp2
                        go_quiet (first | (go_at_call 80; refine Calls.quiet_of_same (risName_r nm true hnm _ hszk)))
                        go_wp2
                        go_ret
                        exact ⟨by rw [H3.out]; rfl, below_drewN (HBW.out.alloc HBW.out.size _) _⟩
                    · have H3 : Hid (r = false) := HN1.out (fun h => g1 (HDEF.out.1 h).1.2.2.1)
                      have q1 : decide (sz < 0) = true := by simp; omega
                      clear HN1 HYES HDEF
                      go_wp2
                      go_quiet (first | (go_at_call 80; refine Calls.quiet_of_same (risName_r nm true hnm _ hszk)))
                      go_wp2
                      go_ret
                      exact ⟨by rw [H3.out]; rfl, below_drewN (HBW.out.alloc HBW.out.size _) _⟩
                  · have HLT : Hid (¬ ltS nm0 nm) := g
                    unfold ltS at g
                    simp only [Bool.not_eq_true] at g
                    have H3 : Hid (r = false) := HN1.out (fun h => HLT.out ((HDEF.out.1 h).1.2.1 (by omega)))
                    clear HN1 HYES HDEF
                    go_wp2
                    go_quiet (first | (go_at_call 80; refine Calls.quiet_of_same (risName_r nm true hnm _ hszk)))
                    go_wp2
                    go_ret
                    exact ⟨by rw [H3.out]; rfl, below_drewN (HBW.out.alloc HBW.out.size _) _⟩
            · obtain rfl : k = l.length := by omega
              have HM : Hid (r = true) := HR.out.2 (mayR_of h1.1 h1.2 HK.out HALL.out HOK.out)
              clear HOK
              go_wp2
              go_ret
              exact ⟨by rw [HM.out]; rfl, HBW.out⟩
    · have hne : (errK 4096 (allPcs l) != 0) = true := by simpa using h3
      have H3 : Hid (r = false) := HNO.out fun h => h3 h.pcs
      generalize errK 4096 (allPcs l) = E at *
      clear h3
      go_wp2
      go_ret
      exact ⟨by rw [H3.out]; rfl, HB2.out⟩
  · have H3 : Hid (r = false) := HNO.out fun h => h1 ⟨h.lo, h.hi⟩
    go_enter Tryz.func57, Tryz.ntmps57
    go_wp2
    all_goals
      go_ret
      exact ⟨by rw [H3.out]; rfl, below_alloc _ _⟩
end Go.Proofs.YthifpelappedcaaGreatDoor
namespace Go.Proofs.YthifpelappedcaaGreatDoor
open Go.RowKit Go.WideShapes Rm

set_option maxRecDepth 4000 in
set_option maxHeartbeats 4000000 in
theorem inside_any (v : Value) (l : List FileV) (w : World) (hf : FIn w v l) (ht : Told l) :
    Calls Tryz.prog 91 #[v] w fun e w' => ∃ r, e = .returned r ∧ w'.ownsRow w.heap.size 5 1 r (insideN l).length (Bs (insideN l)) ∧ Below w.heap.size w w' := by
  obtain ⟨q, c, rfl, hq, hlc, hcm, hqn⟩ := hf.lies
  have hmany := ht.many
  have HT : Hid (Told l) := ht
  have HQ : Hid (FilesIn w q l) := hq
  unfold maxLen at hcm
  clear hf hq hqn ht
  have hlen0 := smallN_ten l.length (by omega)
  go_enter Tryz.func91, Tryz.ntmps91
  go_wp2_with fail
  refine (small4_any l.length w (by omega)).mono ?_
  rintro e w0 ⟨v0, rfl, ho0, hb0⟩
  rw [Int.toNat_natCast] at ho0
  have S0 : St w [] w0 v0 (smallN l.length) := ⟨ho0, hb0, fun p hp => by simp at hp⟩
  clear ho0 hb0
  go_wp2
  go_loopw [3, 13] (fun m i wr => ∃ k : Nat, k ≤ l.length ∧ i = .int .i64 k ∧ St w [] wr m (smallN l.length ++ (l.take k).flatMap fileN)) (fun _ i _ => l.length - (intOf i).toNat)
  case atStart => exact ⟨0, by omega, rfl, by simpa using S0⟩
  case round =>
    obtain ⟨k, hk, rfl, hst⟩ := hrel
    clear S0
    have HS : Hid _ := hst
    by_cases hkl : k < l.length
    · obtain ⟨b, o, rfl⟩ := HQ.out.addr (by omega)
      have hat := HQ.out.at hkl
      obtain ⟨e0, e1, pv, e2, hp⟩ := hat
      have f0 := (hst.bel.cell (World.block_lt_of_cell? _ _ e0)).trans e0
      have f1 := (hst.bel.cell (World.block_lt_of_cell? _ _ e1)).trans e1
      have f2 := (hst.bel.cell (World.block_lt_of_cell? _ _ e2)).trans e2
      obtain ⟨qp, cp, rfl, hqp, hlc2, hcm2, _⟩ := hp.lies
      have hmem : l.getD k zeroF ∈ l := getD_mem' hkl
      have h32 := HT.out.name _ hmem
      have hsz := HT.out.size _ hmem
      have hpl := HT.out.pcs _ hmem
      have HPC : Hid _ := HT.out.piece _ hmem
      have HPT : Hid _ := pcs_take_len HT.out hmem
      have hfl := files_take_len HT.out k
      have HFF : Hid _ := files_flat hkl
      have HFN : Hid (fileN (l.getD k zeroF) = textN (l.getD k zeroF).name ++ smallN (l.getD k zeroF).size.toNat ++ smallN (l.getD k zeroF).pcs.length ++ (l.getD k zeroF).pcs.flatMap pieceN) := rfl
      have HP : Hid (PcsIn w qp (l.getD k zeroF).pcs) := hqp
      clear hp hqp hmem e0 e1 e2
      generalize hy : l.getD k zeroF = y at *
      obtain ⟨nm, sz, pl⟩ := y
      simp only at f0 f1 f2 h32 hsz hpl hlc2
      have hal := hst.alloc #[.string nm, .int .i64 sz, .slice qp pl.length cp] 51 (by decide)
      have HA : Hid (St w [(wr.heap.size, #[.string nm, .int .i64 sz, .slice qp pl.length cp], 51)] (wr.alloc (.cells #[.string nm, .int .i64 sz, .slice qp pl.length cp] 51)) _ (smallN l.length ++ (l.take k).flatMap fileN)) := hal
      clear hal hst HS
      have htx := textN_len nm (by omega)
      have hss := smallN_ten sz.toNat (by omega)
      have hsp := smallN_ten pl.length (by omega)
      unfold maxLen at hcm2
      go_wp2_with fail
      refine (text_any nm _ (by omega)).mono ?_
      rintro e w1a ⟨v1a, rfl, ho1, hb1⟩
      have S1a := HA.out.call hb1
      obtain ⟨q1, m1, rfl, _, _, hn1⟩ := own_form ho1
      have hi1 := own_in ho1 (textN_bytes nm)
      have HS1a : Hid _ := S1a
      have HI1 : Hid _ := hi1
      have hsz1 := S1a.size
      clear S1a hi1 ho1 hb1 HA
      go_wp2_with (at_builtin; refine wpList_append_bytes _ rfl _ _ rfl w.heap.size _ _ (textN nm) q1 _ m1 rfl rfl rfl HS1a.out.own HI1.out hn1 (by simp only [List.length_append]; omega) hsz1 ?_; intro v1b w1b ho1b hg1b; have S1b := HS1a.out.app ho1b hg1b; have c11 : w1b.cell? ⟨wr.heap.size, 1, none⟩ = some (.int .i64 sz) := S1b.cell List.mem_cons_self 1; have c12 : w1b.cell? ⟨wr.heap.size, 2, none⟩ = some (.slice qp pl.length cp) := S1b.cell List.mem_cons_self 2)
      have H1 : Hid _ := S1b
      clear S1b HS1a HI1 ho1b hg1b
      go_wp2_with fail
      refine (small4_any sz _ (by omega)).mono ?_
      rintro e w2a ⟨v2a, rfl, ho2, hb2⟩
      have S2a := H1.out.call hb2
      obtain ⟨q2, m2, rfl, _, _, hn2⟩ := own_form ho2
      have hi2 := own_in ho2 (smallN_bytes _)
      have HS2a : Hid _ := S2a
      have HI2 : Hid _ := hi2
      have hsz2 := S2a.size
      clear S2a hi2 ho2 hb2 H1
      go_wp2_with (at_builtin; refine wpList_append_bytes _ rfl _ _ rfl w.heap.size _ _ (smallN sz.toNat) q2 _ m2 rfl rfl rfl HS2a.out.own HI2.out hn2 (by simp only [List.length_append]; omega) hsz2 ?_; intro v2b w2b ho2b hg2b; have S2b := HS2a.out.app ho2b hg2b; have c22 : w2b.cell? ⟨wr.heap.size, 2, none⟩ = some (.slice qp pl.length cp) := S2b.cell List.mem_cons_self 2)
      have H2 : Hid _ := S2b
      clear S2b HS2a HI2 ho2b hg2b c11 c12
      go_wp2_with fail
      refine (small4_any pl.length _ (by omega)).mono ?_
      rintro e w3a ⟨v3a, rfl, ho3, hb3⟩
      have S3a := H2.out.call hb3
      obtain ⟨q3, m3, rfl, _, _, hn3⟩ := own_form ho3
      have hi3 := own_in ho3 (smallN_bytes _)
      have HS3a : Hid _ := S3a
      have HI3 : Hid _ := hi3
      have hsz3 := S3a.size
      clear S3a hi3 ho3 hb3 H2
      go_wp2_with (at_builtin; refine wpList_append_bytes _ rfl _ _ rfl w.heap.size _ _ (smallN pl.length) q3 _ m3 rfl rfl rfl HS3a.out.own HI3.out hn3 (by simp only [List.length_append]; omega) hsz3 ?_; intro v3b w3b ho3b hg3b; have S3b := HS3a.out.app ho3b hg3b; have c32 : w3b.cell? ⟨wr.heap.size, 2, none⟩ = some (.slice qp pl.length cp) := S3b.cell List.mem_cons_self 2)
      have H3 : Hid (St w [(wr.heap.size, #[.string nm, .int .i64 sz, .slice qp pl.length cp], 51)] w3b v3b (smallN l.length ++ (l.take k).flatMap fileN ++ textN nm ++ smallN sz.toNat ++ smallN pl.length)) := S3b
      clear S3b HS3a HI3 ho3b hg3b c22
      generalize hX : smallN l.length ++ (l.take k).flatMap fileN ++ textN nm ++ smallN sz.toNat ++ smallN pl.length = X at *
      have hXl : X.length ≤ 7000000 := by rw [← hX]; simp only [List.length_append]; omega
      go_wp2
      go_loopw [3, 36] (fun m i wn => ∃ j : Nat, j ≤ pl.length ∧ i = .int .i64 j ∧ St w [(wr.heap.size, #[.string nm, .int .i64 sz, .slice qp pl.length cp], 51)] wn m (X ++ (pl.take j).flatMap pieceN)) (fun _ i _ => pl.length - (intOf i).toNat)
      case atStart => exact ⟨0, by omega, rfl, by simpa using H3.out⟩
      case round =>
        obtain ⟨j, hj, rfl, hst⟩ := hrel
        clear H3
        have HS : Hid _ := hst
        by_cases hjl : j < pl.length
        · obtain ⟨bp, op, rfl⟩ := HP.out.addr (by omega)
          obtain ⟨e1, e2⟩ := (HP.out.below hst.bel).at hjl
          have hpt := HPT.out j
          have hpc := HPC.out _ (getD_mem' (d := (0, 0)) hjl)
          have HPF : Hid _ := pcs_flat hjl
          generalize pl.getD j (0, 0) = z at *
          obtain ⟨a, n⟩ := z
          simp only at e1 e2 hpc
          have hal := hst.alloc #[.int .i64 a, .int .i64 n] 53 (by decide)
          have HA : Hid _ := hal
          clear hal hst HS
          have hsa := smallN_ten a.toNat (by omega)
          have hsn := smallN_ten n.toNat (by omega)
          go_wp2_with fail
          refine (small4_any a _ (by omega)).mono ?_
          rintro e w4a ⟨v4a, rfl, ho4, hb4⟩
          have S4a := HA.out.call hb4
          obtain ⟨q4, m4, rfl, _, _, hn4⟩ := own_form ho4
          have hi4 := own_in ho4 (smallN_bytes _)
          have HS4a : Hid _ := S4a
          have HI4 : Hid _ := hi4
          have hsz4 := S4a.size
          clear S4a hi4 ho4 hb4 HA
          go_wp2_with (at_builtin; refine wpList_append_bytes _ rfl _ _ rfl w.heap.size _ _ (smallN a.toNat) q4 _ m4 rfl rfl rfl HS4a.out.own HI4.out hn4 (by simp only [List.length_append]; omega) hsz4 ?_; intro v4b w4b ho4b hg4b; have S4b := HS4a.out.app ho4b hg4b; have c41 : w4b.cell? ⟨wr.heap.size, 1, none⟩ = some (.int .i64 n) := S4b.cell List.mem_cons_self 1)
          have H4 : Hid _ := S4b
          clear S4b HS4a HI4 ho4b hg4b
          go_wp2_with fail
          refine (small4_any n _ (by omega)).mono ?_
          rintro e w5a ⟨v5a, rfl, ho5, hb5⟩
          have S5a := H4.out.call hb5
          obtain ⟨q5, m5, rfl, _, _, hn5⟩ := own_form ho5
          have hi5 := own_in ho5 (smallN_bytes _)
          have HS5a : Hid _ := S5a
          have HI5 : Hid _ := hi5
          have hsz5 := S5a.size
          clear S5a hi5 ho5 hb5 H4
          go_wp2_with (at_builtin; refine wpList_append_bytes _ rfl _ _ rfl w.heap.size _ _ (smallN n.toNat) q5 _ m5 rfl rfl rfl HS5a.out.own HI5.out hn5 (by simp only [List.length_append]; omega) hsz5 ?_; intro v5b w5b ho5b hg5b; have S5b := HS5a.out.app ho5b hg5b)
          have H5 : Hid _ := S5b.drop
          clear S5b HS5a HI5 ho5b hg5b c41
          go_roundw
          case rel => exact ⟨j + 1, by omega, by go_num, H5.out.eq (by rw [HPF.out]; unfold pieceN; simp only [List.append_assoc])⟩
          case measure => simp [intOf]; omega
        · obtain rfl : j = pl.length := by omega
          rw [List.take_length] at HS
          clear hst
          go_wp2
          refine ⟨⟨k + 1, by omega, by go_num, HS.out.drop.eq ?_⟩, by simp [intOf]; omega⟩
          rw [HFF.out, HFN.out, ← hX]
          simp only [List.append_assoc]
    · obtain rfl : k = l.length := by omega
      rw [List.take_length] at HS
      clear hst
      go_wp2
      go_ret
      exact ⟨_, rfl, HS.out.own, HS.out.bel⟩
end Go.Proofs.YthifpelappedcaaGreatDoor
namespace Go.Proofs.YthifpelappedcaaGreatDoor
open Go.RowKit Go.WideShapes Rm

theorem zeros_made4 (n : Nat) : (madeCells #[Value.int .u8 0] n).toList = Bs (List.replicate n 0) := by
  rw [toList_madeCells_one]
  simp [Bs]
theorem size5 : (Tryz.prog.info? 5).map (·.size) = some 1 := by kernel_rfl
theorem bin_row4 {w : World} {g t : Nat} {xs : List Nat} (h : w.heap[g]? = some (.cells (Bs xs).toArray t (0, 0))) (hx : ∀ c ∈ xs, c < 256) : BIn w (some ⟨g, 0, none⟩) xs := by
  refine ⟨fun _ => ⟨g, 0, rfl, fun i hi => ?_⟩, hx⟩
  rw [Nat.zero_add, cell_of_row w g i _ _ _ h]
  simp [Bs, List.getD, List.getElem?_eq_getElem hi]
theorem bin_part4 {w : World} {g o : Nat} {xs : List Nat} (h : BIn w (some ⟨g, o, none⟩) xs) (a n : Nat) (hl : a + n ≤ xs.length) : BIn w (some ⟨g, o + a, none⟩) ((xs.drop a).take n) := by
  refine ⟨fun hp => ⟨g, o + a, rfl, fun i hi => ?_⟩, fun c hc => h.2 c (List.mem_of_mem_drop (List.mem_of_mem_take hc))⟩
  have hn : i < n := by simp at hi; omega
  obtain ⟨b', o', e, hc⟩ := h.1 (by omega)
  simp only [Option.some.injEq, Addr.mk.injEq, and_true] at e
  obtain ⟨rfl, rfl⟩ := e
  rw [Nat.add_assoc, hc (a + i) (by omega)]
  simp [List.getD, hn]
theorem put_in (n : Nat) (w : World) (hn : n < 18446744073709551616) : Calls Tryz.prog 128 #[.int .u64 n] w fun e w' => ∃ g, e = .returned (.slice (some ⟨g, 0, none⟩) 8 8) ∧ BIn w' (some ⟨g, 0, none⟩) (putN n) ∧ Below w.heap.size w w' := by
  refine (put_any n w hn).mono ?_
  rintro e w' ⟨w1, rfl, rfl, hb⟩
  exact ⟨_, rfl, bin_lit _ _ _ _ _ _ rfl rfl (putN_bytes n hn), hb.alloc hb.size _⟩
theorem own_mono {w : World} {base base' n s : Nat} {e : TypeId} {v : Value} {xs : List Value} (h : w.ownsRow base e s v n xs) (hb : base' ≤ base) : w.ownsRow base' e s v n xs := by
  refine ⟨h.1, ?_⟩
  rcases h.2 with h' | ⟨g, cap, cur, h1, h2, h3⟩
  · exact .inl h'
  · exact .inr ⟨g, cap, cur, h1, Nat.le_trans hb h2, h3⟩
theorem pad_splice (xs : List Nat) : splice (Bs (List.replicate 952 0)) 0 (Bs xs) = Bs (padN xs) := by
  unfold splice padN
  rw [Bs_app, Bs_len]
  simp only [List.take_zero, List.nil_append, Nat.zero_add]
  congr 1
  unfold Bs
  rw [← List.map_drop, List.drop_replicate]
theorem pad_bytes {xs : List Nat} (h : ∀ c ∈ xs, c < 256) : ∀ c ∈ padN xs, c < 256 := by
  intro c hc
  unfold padN at hc
  rcases List.mem_append.1 hc with hc | hc
  · exact h c hc
  · have := (List.mem_replicate.1 hc).2; omega
theorem sects_snoc (gen : Nat) (xs : List Nat) (k : Nat) : sectsN gen xs (k + 1) = sectsN gen xs k ++ putN gen ++ [k] ++ (xs.drop (k * 119)).take 119 := by
  unfold sectsN
  rw [List.range_succ, List.flatMap_append]
  simp [sectN]

set_option maxRecDepth 4000 in
set_option maxHeartbeats 2000000 in
theorem parted_any (gen : Nat) (p : Option Addr) (cap : Nat) (xs : List Nat) (w : World) (hg : gen < 4611686018427387904) (hb : BIn w p xs) (hl : xs.length ≤ 952) :
    Calls Tryz.prog 90 #[.int .i64 gen, .slice p xs.length cap] w fun e w' => ∃ r, e = .returned r ∧ w'.ownsRow w.heap.size 5 1 r (sectsN gen (padN xs) 8).length (Bs (sectsN gen (padN xs) 8)) ∧ Below w.heap.size w w' := by
  obtain ⟨i0, hi, hz0, hz1, hz2⟩ := info_parts info5
  have hx := hb.2
  go_enter Tryz.func90, Tryz.ntmps90
  go_wp2_with (at_make; refine wpList_make_full _ rfl _ _ 22 rfl w.heap.size 5 i0 (.int .u8 0) 1 Tryz.underlying22 hi hz0 hz1 .i64 .i64 _ _ 952 rfl rfl rfl rfl (by rw [hz2]; decide) (by decide) (Nat.le_refl _) ?_)
  intro w1 hown hgrow
  have hrow := row_full' hown
  rw [zeros_made4] at hrow
  have hb1 : Below w.heap.size w w1 := (Below.refl _ _).grown hgrow (Nat.le_refl _) (fun k hk => by cases hk)
  have hbb := hb.below hb1
  have HR : Hid (w1.heap[w.heap.size]? = some (.cells (Bs (List.replicate 952 0)).toArray 5 (0, 0))) := hrow
  have HL : Hid ((Bs xs).length = Nat.min xs.length 952) := by show _ = _; rw [Bs_len]; exact (Nat.min_eq_left hl).symm
  have HF : Hid (0 + (Bs xs).length ≤ (Bs (List.replicate 952 0)).length) := by show _ ≤ _; rw [Bs_len, Bs_len, List.length_replicate]; omega
  have HP : Hid (0 < (Bs xs).length → some (⟨w.heap.size, 0, none⟩ : Addr) = some ⟨w.heap.size, 0, none⟩ ∧ ∃ ad, p = some ad ∧ ∀ j v, (Bs xs)[j]? = some v → w1.cell? (ad.add j) = some v) := by
    intro h
    rw [Bs_len] at h
    obtain ⟨b, o, rfl, _⟩ := hbb.1 h
    exact ⟨rfl, _, rfl, bin_cells hbb⟩
  clear hown hgrow hrow hb hbb
  go_wp2_with (refine wpList_copy_splice (o := ⟨some 11, _, _, _, _, _⟩) rfl (.tmp 9) (.tmp 10) 22 22 rfl 5 Tryz.underlying22 size5 (some ⟨w.heap.size, 0, none⟩) p 952 952 xs.length cap rfl rfl w.heap.size 0 (Bs (List.replicate 952 0)) 5 HR.out (Bs xs) HL.out HP.out HF.out (Bs_one xs) w.heap.size w hb1 (Nat.le_refl _) ?_)
  intro w2 hrow2 hb2
  have hr2 : w2.heap[w.heap.size]? = some (.cells (Bs (padN xs)).toArray 5 (0, 0)) := by rw [← pad_splice xs]; exact hrow2.out
  have hpl := pad_len hl
  have hpb := bin_row4 hr2 (pad_bytes hx)
  have hlt := lt_heap hr2
  clear hr2 hrow2 HR HL HF HP hb1
  generalize hys : padN xs = ys at *
  have HB : Hid (BIn w2 (some ⟨w.heap.size, 0, none⟩) ys) := hpb
  have HB2 : Hid (Below w.heap.size w w2) := hb2
  have hsz2 := hb2.size
  clear hpb hb2
  go_wp2
  go_loopw [6, 12] (fun m i wr => ∃ k : Nat, k ≤ 8 ∧ i = .int .i64 k ∧ St w2 [] wr m (sectsN gen ys k)) (fun _ i _ => 8 - (intOf i).toNat)
  case atStart => exact ⟨0, by omega, rfl, St.start (fun p hp => by simp at hp)⟩
  case round =>
    obtain ⟨k, hk, rfl, hst⟩ := hrel
    have HS : Hid _ := hst
    by_cases hkl : k < 8
    · have hlen : (sectsN gen ys k).length ≤ 2000 := by
        unfold sectsN
        have := flat_le (l := List.range k) (f := sectN gen ys) (c := 128) (fun i _ => by unfold sectN; simp [putN_len]; omega)
        simp at this ⊢
        omega
      have HSN : Hid _ := sects_snoc gen ys k
      have hwr : IntKind.u64.wrap (gen : Int) = (gen : Int) := by rw [IntKind.wrap_u64]; omega
      have hwk : IntKind.u8.wrap (k : Int) = (k : Int) := by rw [IntKind.wrap_u8]; omega
      clear hst
      go_wp2_with fail
      refine (put_in gen _ (by omega)).mono ?_
      rintro e w3 ⟨g3, rfl, hi3, hb3⟩
      have S3 := HS.out.call hb3
      have hs3 := S3.size
      have H3 : Hid _ := S3
      have HI3 : Hid _ := hi3
      clear S3 hi3 hb3 HS
      go_wp2_with (first
        | (at_builtin; refine wpList_append_bytes _ rfl _ _ rfl w2.heap.size _ _ (putN gen) (some ⟨g3, 0, none⟩) _ 8 rfl rfl rfl H3.out.own HI3.out (fun h => by cases h) (by simp [putN_len]; omega) hs3 ?_; intro v4 w4 ho4 hg4; have S4 := H3.out.app ho4 hg4; have hs4 := S4.size; have H4 : Hid _ := S4; clear S4 ho4 hg4 H3 HI3)
        | (at_builtin; refine wpList_append_bytes _ rfl _ _ rfl w2.heap.size _ _ [k] (some ⟨w4.heap.size, 0, none⟩) _ 1 rfl rfl rfl (H4.out.call (below_alloc w4 (.cells #[.int .u8 k] 5))).own (bin_lit w4 _ _ _ _ [k] rfl rfl (by simp; omega)) (fun h => by cases h) (by simp [putN_len]; omega) (by simp; omega) ?_; intro v5 w5 ho5 hg5; have S5 := (H4.out.call (below_alloc w4 (.cells #[.int .u8 k] 5))).app ho5 hg5; have hs5 := S5.size; have hbb := bin_part4 (HB.out.below S5.bel) (k * 119) 119 (by omega); rw [Nat.zero_add] at hbb; have HBB : Hid _ := hbb; have H5 : Hid _ := S5; clear hbb S5 ho5 hg5 H4)
        | (at_builtin; refine wpList_append_bytes _ rfl _ _ rfl w2.heap.size _ _ ((ys.drop (k * 119)).take 119) (some ⟨w.heap.size, k * 119, none⟩) _ (952 - k * 119) rfl rfl (by rw [List.length_take, List.length_drop]; omega) H5.out.own HBB.out (fun h => by cases h) (by simp only [List.length_append, List.length_take, List.length_drop, List.length_singleton, putN_len]; omega) hs5 ?_; intro v6 w6 ho6 hg6; have S6 := H5.out.app ho6 hg6; have H6 : Hid _ := S6; clear S6 ho6 hg6 H5 HBB)
        | fail)
      go_roundw
      case rel => exact ⟨k + 1, by omega, by go_num, H6.out.eq HSN.out.symm⟩
      case measure => simp [intOf]; omega
    · obtain rfl : k = 8 := by omega
      clear hst
      go_wp2
      go_ret
      exact ⟨_, rfl, by rw [hys]; exact own_mono HS.out.own hsz2, HB2.out.trans (HS.out.bel.mono hsz2)⟩
end Go.Proofs.YthifpelappedcaaGreatDoor
namespace Go.Proofs.YthifpelappedcaaGreatDoor
open Go.RowKit Go.WideShapes Rm

/-- What Write answers: an error's number, or the bytes. -/
inductive Wrote (x : DirV) : Int → List Nat → Prop
  | many (h : 32 < x.files.length) : Wrote x 42 []
  | bad (h1 : x.files.length ≤ 32) (h2 : ¬ May ltS x) : Wrote x 8 []
  | long (h1 : May ltS x) (h2 : 952 < (insideN x.files).length) : Wrote x 42 []
  | ok (h1 : May ltS x) (h2 : (insideN x.files).length ≤ 952) : Wrote x 0 (bytesN x)
theorem Wrote.only {x : DirV} {e f : Int} {b c : List Nat} (h1 : Wrote x e b) (h2 : Wrote x f c) : e = f ∧ b = c := by
  cases h1 with
  | many h => cases h2 with
    | many => exact ⟨rfl, rfl⟩
    | bad a _ => omega
    | long a _ => exact absurd a.many (by omega)
    | ok a _ => exact absurd a.many (by omega)
  | bad h k => cases h2 with
    | many a => omega
    | bad => exact ⟨rfl, rfl⟩
    | long a _ => exact absurd a k
    | ok a _ => exact absurd a k
  | long h k => cases h2 with
    | many a => exact absurd h.many (by omega)
    | bad _ a => exact absurd h a
    | long => exact ⟨rfl, rfl⟩
    | ok _ a => omega
  | ok h k => cases h2 with
    | many a => exact absurd h.many (by omega)
    | bad _ a => exact absurd h a
    | long _ a => omega
    | ok => exact ⟨rfl, rfl⟩
theorem insideN_bytes (l : List FileV) : ∀ c ∈ insideN l, c < 256 := by
  intro c hc
  unfold insideN at hc
  rcases List.mem_append.1 hc with h | h
  · exact smallN_bytes _ c h
  · obtain ⟨f, _, h⟩ := List.mem_flatMap.1 h
    unfold fileN at h
    simp only [List.mem_append] at h
    rcases h with ((h | h) | h) | h
    · exact textN_bytes _ c h
    · exact smallN_bytes _ c h
    · exact smallN_bytes _ c h
    · obtain ⟨p, _, h⟩ := List.mem_flatMap.1 h
      unfold pieceN at h
      rcases List.mem_append.1 h with h | h <;> exact smallN_bytes _ c h
/-- What is answered beside: nil where all is well, else an error that wraps the number. -/
def ErrV (v : Value) (e : Int) : Prop := (e = 0 ∧ v = .nilIface) ∨ (e ≠ 0 ∧ Faults v e)
set_option maxHeartbeats 1000000 in
theorem write_any (v : Value) (x : DirV) (w : World) (hx : DirIn w v x) (hs : ∀ f ∈ x.files, (f.name.size : Int) ≤ 9223372036854775807) (hsum : (allPcs x.files).length ≤ 1000000) :
    Calls Tryz.prog 56 #[v] w fun e w' => ∃ r ev n b, e = .returned (.tuple #[r, ev]) ∧ Wrote x n b ∧ ErrV ev n ∧ w'.ownsRow w.heap.size 5 1 r b.length (Bs b) ∧ Below w.heap.size w w' := by
  obtain ⟨fv, rfl, hf⟩ := hx.lies
  have HX : Hid (DirIn w (.agg #[.int .i64 x.gen, fv]) x) := hx
  have HF : Hid (FIn w fv x.files) := hf
  have hgw := hx.wf
  unfold wf64 at hgw
  obtain ⟨q, c, rfl, hq, hlc, hcm, _⟩ := hf.lies
  unfold maxLen at hcm
  clear hq hx hf
  have hck := check4_any _ x (w.alloc (.cells #[.int .i64 x.gen, .slice q x.files.length c] 31)) (HX.out.below (below_alloc w _)) hs hsum
  by_cases h1 : x.files.length ≤ 32
  · go_enter Tryz.func56, Tryz.ntmps56
    go_wp2_with fail
    refine hck.mono ?_
    rintro e w1 ⟨r, rfl, hr, hb1⟩
    have hs1 := hb1.size
    simp at hs1
    have hb1' : Below (w.heap.size + 1) (w.alloc (.cells #[.int .i64 x.gen, .slice q x.files.length c] 31)) w1 := hb1.mono (by simp)
    obtain ⟨d0, d1⟩ := box2 hb1'
    have HB1 : Hid (Below w.heap.size w w1) := box_below hb1'
    clear hck hb1 hb1'
    rcases hr with ⟨hok, rfl⟩ | ⟨hno, hfl⟩
    · have HM : Hid (May ltS x) := hok
      have hgen := hok.lo
      have hgh := hok.hi
      have hin := inside_any _ x.files w1 (HF.out.below HB1.out) hok.told
      clear hok
      go_wp2_with fail
      refine hin.mono ?_
      rintro e w2 ⟨r2, rfl, ho2, hb2⟩
      have hs2 := hb2.size
      obtain ⟨q2, m2, rfl, _, _, _⟩ := own_form ho2
      have hi2 := own_in ho2 (insideN_bytes _)
      have d0' : w2.cell? ⟨w.heap.size, 0, none⟩ = some (.int .i64 x.gen) := (hb2.cell (by simp; omega)).trans d0
      have HI2 : Hid _ := hi2
      have HB2 : Hid (Below w.heap.size w w2) := HB1.out.trans (hb2.mono (by omega))
      clear hin hb2 ho2 hi2 d0 d1
      obtain ⟨gn, hgn⟩ := Int.eq_ofNat_of_zero_le (show 0 ≤ x.gen by omega)
      have HIL : Hid ((insideN x.files).length ≤ 952 → Wrote x 0 (bytesN x)) := fun h => .ok HM.out h
      have HIG : Hid (952 < (insideN x.files).length → Wrote x 42 []) := fun h => .long HM.out h
      by_cases h2 : (insideN x.files).length ≤ 952
      · have HW := HIL.out h2
        have hpa := parted_any gn q2 m2 _ w2 (by omega) HI2.out h2
        rw [hgn] at d0'
        unfold bytesN at HW
        rw [hgn, Int.toNat_natCast] at HW
        have HW' : Hid (Wrote x 0 (sectsN gn (padN (insideN x.files)) 8)) := HW
        clear HW HIL HIG
        generalize (insideN x.files).length = L at *
        go_wp2_with fail
        refine hpa.mono ?_
        rintro e w3 ⟨r3, rfl, ho3, hb3⟩
        have hs3 := hb3.size
        go_wp2
        go_ret2
        exact ⟨_, _, 0, _, rfl, HW'.out, .inl ⟨rfl, rfl⟩, own_mono ho3 (by omega), HB2.out.trans (hb3.mono (by omega))⟩
      · have HW := HIG.out (by omega)
        have HW' : Hid (Wrote x 42 []) := HW
        clear HW HIL HIG
        generalize (insideN x.files).length = L at *
        go_wp2
        go_ret2
        exact ⟨_, _, 42, [], rfl, HW'.out, .inr ⟨by decide, Faults.one _ _⟩, World.ownsRow_nil _ _ _ _, HB2.out⟩
    · have HW : Hid (Wrote x 8 []) := .bad h1 hno
      have HFL : Hid (Faults r 8) := hfl
      obtain ⟨tx, vx, rfl⟩ := hfl.iface
      clear hfl hno
      go_wp2
      go_ret2
      exact ⟨_, _, 8, [], rfl, HW.out, .inr ⟨by decide, HFL.out⟩, World.ownsRow_nil _ _ _ _, HB1.out⟩
  · go_enter Tryz.func56, Tryz.ntmps56
    go_wp2
    go_ret2
    exact ⟨_, _, 42, [], rfl, .many (by omega), .inr ⟨by decide, Faults.one _ _⟩, World.ownsRow_nil _ _ _ _, below_alloc _ _⟩
end Go.Proofs.YthifpelappedcaaGreatDoor
