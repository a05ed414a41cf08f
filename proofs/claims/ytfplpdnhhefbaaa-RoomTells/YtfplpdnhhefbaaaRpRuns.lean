/-
  Contract of the document's runs: of sectors that are told one by one, at most so many.
-/
import Derived.Test.YtfplpdnhhefbaaaRpTaken
namespace Go.Proofs.Ytfplpdnhhefbaaa
open Go.RowKit Go.WideShapes

theorem grown_da (w : World) (o : Obj) (n : Nat) (r : Option Nat) : w.grownBy ((w.drewN n).alloc o) r := grown_trans (grown_drew w n r) (World.grownBy_alloc _ o r)
theorem new_da (w : World) (o : Obj) (n : Nat) : ((w.drewN n).alloc o).heap[w.heap.size]? = some o := heap_alloc_new (w.drewN n) o
def wantP (P : Int → Bool) (want : Bool) (n : Int) : Bool := P n == want
/-- A piece of one sector behind them, as the loop lays it. -/
structure RunsR (P : Int → Bool) (want : Bool) (many first n base g k : Nat) (out : Value) (w wr : World) : Prop where
  own : POwn wr base out (runsK (wantP P want) many first k).1
  row : BAt wr g P n
  far : some g ≠ out.ownBlock
  bel : Below w.heap.size w wr
theorem RunsR.over {P : Int → Bool} {want : Bool} {many first n base g k : Nat} {out : Value} {w wr : World} (h : RunsR P want many first n base g k out w wr) (hr : runsK (wantP P want) many first (k + 1) = runsK (wantP P want) many first k) : RunsR P want many first n base g (k + 1) out w wr :=
  ⟨by rw [hr]; exact h.own, h.row, h.far, h.bel⟩
theorem RunsR.put {P : Int → Bool} {want : Bool} {many first n base g k : Nat} {out out' : Value} {w wr w2 : World} (h : RunsR P want many first n base g k out w wr) (hb0 : w.heap.size ≤ base)
    (ho : POwn w2 base out' (runsK (wantP P want) many first (k + 1)).1) (hg : wr.grownBy w2 out.ownBlock) (hf : some g ≠ out'.ownBlock) : RunsR P want many first n base g (k + 1) out' w w2 :=
  ⟨ho, h.row.grown hg h.far, hf, h.bel.grown hg h.bel.size (fun x hx => Nat.le_trans hb0 (h.own.lt x hx).1)⟩

set_option maxHeartbeats 4000000 in
theorem runs_any (P : Int → Bool) (want : Bool) (g n first many : Nat) (w : World) (hrow : BAt w g P n) (hf : first ≤ n) (hn : n ≤ 4096) (hm : many ≤ 4096) :
    Calls Try.prog 34 #[.slice (some ⟨g, 0, none⟩) n n, .int .i64 first, .bool want, .int .i64 many] w fun e w' => ∃ v', e = .returned v' ∧ POwn w' w.heap.size v' (runsK (wantP P want) many first (n - first)).1 ∧ Below w.heap.size w w' := by
  obtain ⟨i0, hi, hz0, hz1, hz2⟩ := info_parts' info_piece
  have H0 : Hid (RunsR P want many first n w.heap.size g 0 (.slice none 0 0) w w) := ⟨pown_nil _ _, hrow, by simp [Value.ownBlock], Below.refl _ _⟩
  clear hrow
  go_enter Try.func34, Try.ntmps34
  go_wp2
  go_loopw [3, 9, 10] (fun ms out i wr => ∃ k : Nat, k ≤ n - first ∧ i = .int .i64 ((first + k : Nat) : Int) ∧ ms = .int .i64 ((many - (runsK (wantP P want) many first k).2 : Nat) : Int) ∧ RunsR P want many first n w.heap.size g k out w wr) (fun _ _ i _ => n - (intOf i).toNat)
  case atStart => exact ⟨0, by omega, rfl, rfl, H0.out⟩
  case round =>
    clear H0
    obtain ⟨k, hk, rfl, rfl, hR⟩ := hrel
    have HR : Hid (RunsR P want many first n w.heap.size g k u9 w wr) := hR
    clear hR
    have hgot := runsK_le (wantP P want) many first k
    by_cases h1 : k < n - first
    · by_cases h2 : (runsK (wantP P want) many first k).2 < many
      · have hcell := HR.out.row.cell (i := first + k) (by omega)
        have HY : Hid (wantP P want ((first + k : Nat) : Int) = true → runsK (wantP P want) many first (k + 1) = (withN (runsK (wantP P want) many first k).1 (((first + k : Nat) : Int), 1), (runsK (wantP P want) many first k).2 + 1)) := fun hp => runsK_yes h2 hp
        have HNo : Hid (wantP P want ((first + k : Nat) : Int) = false → runsK (wantP P want) many first (k + 1) = runsK (wantP P want) many first k) := fun hp => runsK_no hp
        have HB : Hid (∀ q ∈ (runsK (wantP P want) many first k).1, 0 ≤ q.1 ∧ 0 ≤ q.2 ∧ q.1 + q.2 ≤ 8192) := fun q hq => by have := runsK_bounds (wantP P want) many first k 8192 (by omega) q hq; omega
        have HLen : Hid ((runsK (wantP P want) many first k).1.length ≤ 4096) := by show _ ≤ _; have := runsK_len (wantP P want) many first k; omega
        obtain ⟨rest, hrest⟩ : ∃ rest, many - (runsK (wantP P want) many first k).2 = rest + 1 := ⟨many - (runsK (wantP P want) many first k).2 - 1, by omega⟩
        have HRest : Hid (many - (runsK (wantP P want) many first k).2 = rest + 1) := hrest
        rw [hrest]
        clear hrest h2 hgot
        have hrb : rest ≤ 4096 := by have := HRest.out; omega
        cases hp : wantP P want ((first + k : Nat) : Int) with
        | false =>
          have HE : Hid _ := HNo.out hp
          have hne : (P ((first + k : Nat) : Int) != want) = true := by unfold wantP at hp; simpa [bne] using hp
          clear HY HNo HB HLen hp
          generalize P ((first + k : Nat) : Int) = pb at *
          cases pb <;> cases want
          · simp at hne
          · go_wp2
            go_roundw
            case rel => exact ⟨k + 1, by omega, by go_num, by rw [HE.out, HRest.out]; go_num, HR.out.over HE.out⟩
            case measure => simp [intOf]; omega
          · go_wp2
            go_roundw
            case rel => exact ⟨k + 1, by omega, by go_num, by rw [HE.out, HRest.out]; go_num, HR.out.over HE.out⟩
            case measure => simp [intOf]; omega
          · simp at hne
        | true =>
          have HE : Hid _ := HY.out hp
          have HMS : Hid (((many - (runsK (wantP P want) many first (k + 1)).2 : Nat) : Int) = (rest : Int)) := by
            show _ = _
            have := HRest.out
            rw [HE.out]
            show ((many - ((runsK (wantP P want) many first k).2 + 1) : Nat) : Int) = _
            omega
          have hpe : P ((first + k : Nat) : Int) = want := by unfold wantP at hp; simpa using hp
          rw [hpe] at hcell
          have hwb : (want != want) = false := by cases want <;> rfl
          clear HY HNo hp hpe
          have HO := HR.out.own
          obtain ⟨out, hout⟩ : ∃ out, (runsK (wantP P want) many first k).1 = out := ⟨_, rfl⟩
          have HB' := HB.out
          have HLen' := HLen.out
          have hEE := HE.out
          rw [hout] at HO HB' HLen' hEE
          replace HE : Hid (runsK (wantP P want) many first (k + 1) = (withN out (((first + k : Nat) : Int), 1), (runsK (wantP P want) many first k).2 + 1)) := hEE
          clear HB HLen hout hEE
          rcases nil_or_snoc out with rfl | ⟨t, q, rfl⟩
          · obtain ⟨q, m, rfl, _, _, _⟩ := HO.form
            have HWN : Hid (withN [] (((first + k : Nat) : Int), 1) = [] ++ [(((first + k : Nat) : Int), 1)]) := rfl
            replace HO : Hid (POwn wr w.heap.size (.slice q 0 m) []) := HO
            clear HB' HLen'
            go_wp2
            go_quiet (fail)
            go_wp2_with (at_builtin; refine wpList_append_lies _ rfl _ _ 22 rfl w.heap.size 29 i0 _ 2 16 Try.underlying22 hi hz0 hz1 hz2 rfl (by omega) (.slice q 0 m) 0 (cellsQ []) rfl (own_at rfl (HO.out.grown (grown_da wr _ _ _))) ⟨wr.heap.size, 0, none⟩ 1 1 [.int .i64 ((first + k : Nat) : Int), .int .i64 1] rfl rfl (World.news_of_block (cs := #[.int .i64 ((first + k : Nat) : Int), .int .i64 1]) (new_da _ _ _)) (two_one _ _) (by omega) (by unfold maxLen; omega) (by omega) (by have := HR.out.bel.size; simp; omega) (wr.heap.size + 1) (by simp) ?_)
            intro g1 cap1 w1 hown1 hgrow1 hat1 hlt1
            have R1 : Hid (POwn w1 w.heap.size (.slice (some ⟨g1, 0, none⟩) (0 + 1) cap1) ([] ++ [(((first + k : Nat) : Int), 1)])) := pown_push rfl hown1
            have R2 : Hid (wr.grownBy w1 (Value.ownBlock (.slice q 0 m))) := grown_trans (grown_da wr _ _ _) hgrow1
            have R3 : Hid (some g ≠ Value.ownBlock (.slice (some ⟨g1, 0, none⟩) (0 + 1) cap1)) := far_of (w := wr) rfl (by omega) hat1 g (lt_heap HR.out.row) HR.out.far
            have R : Hid (RunsR P want many first n w.heap.size g (k + 1) (.slice (some ⟨g1, 0, none⟩) (0 + 1) cap1) w w1) := HR.out.put (Nat.le_refl _) (by rw [HE.out, HWN.out]; exact R1.out) R2.out R3.out
            clear hown1 hgrow1 hat1 hlt1 HO HR R1 R2 R3
            go_wp2
            go_roundw
            case rel => exact ⟨k + 1, by omega, by go_num, by rw [HMS.out], R.out⟩
            case measure => simp [intOf]; omega
          · obtain ⟨gq, cap, cur, rfl, hgb, hgl, hgq, k1, k2, k3, k4⟩ := HO.last
            have hq := HB' q (by simp)
            have hlt : t.length + 1 ≤ 4096 := by simpa using HLen'
            obtain ⟨c0, c1⟩ := last_cells rfl hgq (by omega) k4
            have hfz : wr.frozen? ⟨gq, t.length * 2 + 1, none⟩ = false := frozen_of_row _ _ _ _ _ hgq
            have HK : Hid ((t ++ [q]).length = t.length + 1) := by show _ = _; simp
            have HWT : q.1 + q.2 = ((first + k : Nat) : Int) → withN (t ++ [q]) (((first + k : Nat) : Int), 1) = t ++ [(q.1, q.2 + 1)] := fun e => withN_touch _ _ _ e
            have HWA : q.1 + q.2 ≠ ((first + k : Nat) : Int) → withN (t ++ [q]) (((first + k : Nat) : Int), 1) = t ++ [q] ++ [(((first + k : Nat) : Int), 1)] := fun e => withN_apart _ _ _ e
            have HTN : Hid (t.length = t.length) := rfl
            unfold maxLen at k2
            clear HB' HLen' k3 k4 hgq
            by_cases e : q.1 + q.2 = ((first + k : Nat) : Int)
            · have HWN : Hid _ := HWT e
              have hbe : (q.1 + q.2 == (first : Int) + (k : Int)) = true := by simp; omega
              have HO2 : Hid (POwn wr w.heap.size (.slice (some ⟨gq, 0, none⟩) (t.length + 1) cap) (t ++ [q])) := HO
              clear HWT HWA HO
              obtain ⟨x, y⟩ := q
              simp only at c0 c1 hq hbe HWN HO2 e
              have R1 : Hid (∀ m, POwn ((wr.drewN m).setCell ⟨gq, t.length * 2 + 1, none⟩ (.int .i64 (y + 1))) w.heap.size (.slice (some ⟨gq, 0, none⟩) (t.length + 1) cap) (t ++ [(x, y + 1)])) := fun m => pown_set (q := (x, y)) _ rfl (HO2.out.grown (grown_drew _ m _))
              have R2 : Hid (∀ m, wr.grownBy ((wr.drewN m).setCell ⟨gq, t.length * 2 + 1, none⟩ (.int .i64 (y + 1))) (some gq)) := fun m => grown_trans (grown_drew _ m _) (grown_set _ _ _ _)
              have R : Hid (∀ m, RunsR P want many first n w.heap.size g (k + 1) (.slice (some ⟨gq, 0, none⟩) (t.length + 1) cap) w ((wr.drewN m).setCell ⟨gq, t.length * 2 + 1, none⟩ (.int .i64 (y + 1)))) := fun m => HR.out.put (Nat.le_refl _) (by rw [HE.out, HWN.out]; exact R1.out m) (R2.out m) HR.out.far
              clear HO2 HR R1 R2 HE HWN HK e
              generalize t.length = T at *
              go_wp2
              go_quiet (fail)
              go_wp2
              go_roundw
              case rel => exact ⟨k + 1, by omega, by go_num, by rw [HMS.out], R.out _⟩
              case measure => simp [intOf]; omega
            · have HWN : Hid _ := HWA e
              have hbe : (q.1 + q.2 == (first : Int) + (k : Int)) = false := by simp; omega
              replace HO : Hid (POwn wr w.heap.size (.slice (some ⟨gq, 0, none⟩) (t.length + 1) cap) (t ++ [q])) := HO
              clear HWT HWA e
              generalize hTT : t.length = T at *
              clear hTT
              go_wp2
              go_quiet (fail)
              go_wp2_with (at_builtin; refine wpList_append_lies _ rfl _ _ 22 rfl w.heap.size 29 i0 _ 2 16 Try.underlying22 hi hz0 hz1 hz2 rfl (by omega) (.slice (some ⟨gq, 0, none⟩) (T + 1) cap) (T + 1) (cellsQ (t ++ [q])) rfl (own_at HK.out (HO.out.grown (grown_da wr _ _ _))) ⟨wr.heap.size, 0, none⟩ 1 1 [.int .i64 ((first + k : Nat) : Int), .int .i64 1] rfl rfl (World.news_of_block (cs := #[.int .i64 ((first + k : Nat) : Int), .int .i64 1]) (new_da _ _ _)) (two_one _ _) (by omega) (by unfold maxLen; omega) (by omega) (by have := HR.out.bel.size; simp; omega) (wr.heap.size + 1) (by simp) ?_)
              intro g1 cap1 w1 hown1 hgrow1 hat1 hlt1
              have R1 : Hid (POwn w1 w.heap.size (.slice (some ⟨g1, 0, none⟩) ((T + 1) + 1) cap1) ((t ++ [q]) ++ [(((first + k : Nat) : Int), 1)])) := pown_push HK.out hown1
              have R2 : Hid (wr.grownBy w1 (Value.ownBlock (.slice (some ⟨gq, 0, none⟩) (T + 1) cap))) := grown_trans (grown_da wr _ _ _) hgrow1
              have R3 : Hid (some g ≠ Value.ownBlock (.slice (some ⟨g1, 0, none⟩) ((T + 1) + 1) cap1)) := far_of (w := wr) rfl (by omega) hat1 g (lt_heap HR.out.row) HR.out.far
              have R : Hid (RunsR P want many first n w.heap.size g (k + 1) (.slice (some ⟨g1, 0, none⟩) ((T + 1) + 1) cap1) w w1) := HR.out.put (Nat.le_refl _) (by rw [HE.out, HWN.out]; exact R1.out) R2.out R3.out
              clear hown1 hgrow1 hat1 hlt1 HO HR R1 R2 R3
              go_wp2
              go_roundw
              case rel => exact ⟨k + 1, by omega, by go_num, by rw [HMS.out], R.out⟩
              case measure => simp [intOf]; omega
      · have HE : Hid (runsK (wantP P want) many first (n - first) = runsK (wantP P want) many first k) := by
          have := runsK_stay (P := wantP P want) h2 (n - first - k)
          rwa [show k + (n - first - k) = n - first from by omega] at this
        have hz : many - (runsK (wantP P want) many first k).2 = 0 := by omega
        rw [hz]
        clear hz h2
        go_wp2
        go_ret
        rw [HE.out]
        exact ⟨_, rfl, HR.out.own, HR.out.bel⟩
    · obtain rfl : k = n - first := by omega
      generalize many - (runsK (wantP P want) many first (n - first)).2 = rest
      go_wp2
      go_ret
      exact ⟨_, rfl, HR.out.own, HR.out.bel⟩
end Go.Proofs.Ytfplpdnhhefbaaa
