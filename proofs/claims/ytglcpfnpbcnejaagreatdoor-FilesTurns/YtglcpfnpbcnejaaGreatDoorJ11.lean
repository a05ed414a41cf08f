/-
  Contracts of the document's IsName, needs, small and pieces.
-/
import Derived.Test.YtglcpfnpbcnejaaGreatDoorJ10
import Derived.Test.YtglcpfnpbcnejaaGreatDoorJ08
import Derived.Test.YtglcpfnpbcnejaaGreatDoorJ09
namespace Go.Proofs.YtglcpfnpbcnejaaGreatDoor.Rm
open Go.RowKit Go.WideShapes
set_option maxRecDepth 4000

theorem grown_da (w : World) (o : Obj) (n : Nat) (r : Option Nat) : w.grownBy ((w.drewN n).alloc o) r := grown_trans (grown_drew w n r) (World.grownBy_alloc _ o r)
theorem new_da (w : World) (o : Obj) (n : Nat) : ((w.drewN n).alloc o).heap[w.heap.size]? = some o := heap_alloc_new (w.drewN n) o
def wantP (P : Int → Bool) (want : Bool) (n : Int) : Bool := P n == want
/-- A piece of one sector behind them, as the loop lays it. -/
structure RunsR (P : Int → Bool) (want : Bool) (many first n base g k : Nat) (out : Value) (w wr : World) : Prop where
  own : POwn wr base out (runsK (wantP P want) many first k).1
  row : BAt wr g P n
  far : some g ≠ out.ownBlock
  bel : Below w.heap.size w wr
theorem RunsR.over {P : Int → Bool} {want : Bool} {many first n base g k : Nat} {out : Value} {w wr : World} (h : RunsR P want many first n base g k out w wr) (hr : runsK (wantP P want) many first (k + 1) = runsK (wantP P want) many first k) : RunsR P want many first n base g (k + 1) out w wr :=
  ⟨by rw [hr]; exact h.own, h.row, h.far, h.bel⟩
theorem RunsR.put {P : Int → Bool} {want : Bool} {many first n base g k : Nat} {out out' : Value} {w wr w2 : World} (h : RunsR P want many first n base g k out w wr) (hb0 : w.heap.size ≤ base)
    (ho : POwn w2 base out' (runsK (wantP P want) many first (k + 1)).1) (hg : wr.grownBy w2 out.ownBlock) (hf : some g ≠ out'.ownBlock) : RunsR P want many first n base g (k + 1) out' w w2 :=
  ⟨ho, h.row.grown hg h.far, hf, h.bel.grown hg h.bel.size (fun x hx => Nat.le_trans hb0 (h.own.lt x hx).1)⟩

set_option maxHeartbeats 4000000 in
theorem runs_any (P : Int → Bool) (want : Bool) (g n first many : Nat) (w : World) (hrow : BAt w g P n) (hf : first ≤ n) (hn : n ≤ 4096) (hm : many ≤ 4096) :
    Calls Tryz.prog 89 #[.slice (some ⟨g, 0, none⟩) n n, .int .i64 first, .bool want, .int .i64 many] w fun e w' => ∃ v', e = .returned v' ∧ POwn w' w.heap.size v' (runsK (wantP P want) many first (n - first)).1 ∧ Below w.heap.size w w' := by
  obtain ⟨i0, hi, hz0, hz1, hz2⟩ := info_parts' info_piece
  have H0 : Hid (RunsR P want many first n w.heap.size g 0 (.slice none 0 0) w w) := ⟨pown_nil _ _, hrow, by simp [Value.ownBlock], Below.refl _ _⟩
  clear hrow
  go_enter Tryz.func89, Tryz.ntmps89
  go_wp2
  go_loopw [3, 9, 10] (fun ms out i wr => ∃ k : Nat, k ≤ n - first ∧ i = .int .i64 ((first + k : Nat) : Int) ∧ ms = .int .i64 ((many - (runsK (wantP P want) many first k).2 : Nat) : Int) ∧ RunsR P want many first n w.heap.size g k out w wr) (fun _ _ i _ => n - (intOf i).toNat)
  case atStart => exact ⟨0, by omega, rfl, rfl, H0.out⟩
  case round =>
    clear H0
    obtain ⟨k, hk, rfl, rfl, hR⟩ := hrel
    have HR : Hid (RunsR P want many first n w.heap.size g k u9 w wr) := hR
    clear hR
    have hgot := runsK_le (wantP P want) many first k
    by_cases h1 : k < n - first
    · by_cases h2 : (runsK (wantP P want) many first k).2 < many
      · have hcell := HR.out.row.cell (i := first + k) (by omega)
        have HY : Hid (wantP P want ((first + k : Nat) : Int) = true → runsK (wantP P want) many first (k + 1) = (withN (runsK (wantP P want) many first k).1 (((first + k : Nat) : Int), 1), (runsK (wantP P want) many first k).2 + 1)) := fun hp => runsK_yes h2 hp
        have HNo : Hid (wantP P want ((first + k : Nat) : Int) = false → runsK (wantP P want) many first (k + 1) = runsK (wantP P want) many first k) := fun hp => runsK_no hp
        have HB : Hid (∀ q ∈ (runsK (wantP P want) many first k).1, 0 ≤ q.1 ∧ 0 ≤ q.2 ∧ q.1 + q.2 ≤ 8192) := fun q hq => by have := runsK_bounds (wantP P want) many first k 8192 (by omega) q hq; omega
        have HLen : Hid ((runsK (wantP P want) many first k).1.length ≤ 4096) := by show _ ≤ _; have := runsK_len (wantP P want) many first k; omega
        obtain ⟨rest, hrest⟩ : ∃ rest, many - (runsK (wantP P want) many first k).2 = rest + 1 := ⟨many - (runsK (wantP P want) many first k).2 - 1, by omega⟩
        have HRest : Hid (many - (runsK (wantP P want) many first k).2 = rest + 1) := hrest
        rw [hrest]
        clear hrest h2 hgot
        have hrb : rest ≤ 4096 := by have := HRest.out; omega
        cases hp : wantP P want ((first + k : Nat) : Int) with
        | false =>
          have HE : Hid _ := HNo.out hp
          have hne : (P ((first + k : Nat) : Int) != want) = true := by unfold wantP at hp; simpa [bne] using hp
          clear HY HNo HB HLen hp
          generalize P ((first + k : Nat) : Int) = pb at *
          cases pb <;> cases want
          · simp at hne
          · go_wp2
            go_roundw
            case rel => exact ⟨k + 1, by omega, by go_num, by rw [HE.out, HRest.out]; go_num, HR.out.over HE.out⟩
            case measure => simp [intOf]; omega
          · go_wp2
            go_roundw
            case rel => exact ⟨k + 1, by omega, by go_num, by rw [HE.out, HRest.out]; go_num, HR.out.over HE.out⟩
            case measure => simp [intOf]; omega
          · simp at hne
        | true =>
          have HE : Hid _ := HY.out hp
          have HMS : Hid (((many - (runsK (wantP P want) many first (k + 1)).2 : Nat) : Int) = (rest : Int)) := by
            show _ = _
            have := HRest.out
            rw [HE.out]
            show ((many - ((runsK (wantP P want) many first k).2 + 1) : Nat) : Int) = _
            omega
          have hpe : P ((first + k : Nat) : Int) = want := by unfold wantP at hp; simpa using hp
          rw [hpe] at hcell
          have hwb : (want != want) = false := by cases want <;> rfl
          clear HY HNo hp hpe
          have HO := HR.out.own
          obtain ⟨out, hout⟩ : ∃ out, (runsK (wantP P want) many first k).1 = out := ⟨_, rfl⟩
          have HB' := HB.out
          have HLen' := HLen.out
          have hEE := HE.out
          rw [hout] at HO HB' HLen' hEE
          replace HE : Hid (runsK (wantP P want) many first (k + 1) = (withN out (((first + k : Nat) : Int), 1), (runsK (wantP P want) many first k).2 + 1)) := hEE
          clear HB HLen hout hEE
          rcases nil_or_snoc out with rfl | ⟨t, q, rfl⟩
          · obtain ⟨q, m, rfl, _, _, _⟩ := HO.form
            have HWN : Hid (withN [] (((first + k : Nat) : Int), 1) = [] ++ [(((first + k : Nat) : Int), 1)]) := rfl
            replace HO : Hid (POwn wr w.heap.size (.slice q 0 m) []) := HO
            clear HB' HLen'
            go_wp2
            go_quiet (fail)
            go_wp2_with (at_builtin; refine wpList_append_lies _ rfl _ _ 49 rfl w.heap.size 53 i0 _ 2 16 Tryz.underlying49 hi hz0 hz1 hz2 rfl (by omega) (.slice q 0 m) 0 (cellsQ []) rfl (own_at rfl (HO.out.grown (grown_da wr _ _ _))) ⟨wr.heap.size, 0, none⟩ 1 1 [.int .i64 ((first + k : Nat) : Int), .int .i64 1] rfl rfl (World.news_of_block (cs := #[.int .i64 ((first + k : Nat) : Int), .int .i64 1]) (new_da _ _ _)) (two_one _ _) (by omega) (by unfold maxLen; omega) (by omega) (by have := HR.out.bel.size; simp; omega) (wr.heap.size + 1) (by simp) ?_)
            intro g1 cap1 w1 hown1 hgrow1 hat1 hlt1
            have R1 : Hid (POwn w1 w.heap.size (.slice (some ⟨g1, 0, none⟩) (0 + 1) cap1) ([] ++ [(((first + k : Nat) : Int), 1)])) := pown_push rfl hown1
            have R2 : Hid (wr.grownBy w1 (Value.ownBlock (.slice q 0 m))) := grown_trans (grown_da wr _ _ _) hgrow1
            have R3 : Hid (some g ≠ Value.ownBlock (.slice (some ⟨g1, 0, none⟩) (0 + 1) cap1)) := far_of (w := wr) rfl (by omega) hat1 g (lt_heap HR.out.row) HR.out.far
            have R : Hid (RunsR P want many first n w.heap.size g (k + 1) (.slice (some ⟨g1, 0, none⟩) (0 + 1) cap1) w w1) := HR.out.put (Nat.le_refl _) (by rw [HE.out, HWN.out]; exact R1.out) R2.out R3.out
            clear hown1 hgrow1 hat1 hlt1 HO HR R1 R2 R3
            go_wp2
            go_roundw
            case rel => exact ⟨k + 1, by omega, by go_num, by rw [HMS.out], R.out⟩
            case measure => simp [intOf]; omega
          · obtain ⟨gq, cap, cur, rfl, hgb, hgl, hgq, k1, k2, k3, k4⟩ := HO.last
            have hq := HB' q (by simp)
            have hlt : t.length + 1 ≤ 4096 := by simpa using HLen'
            obtain ⟨c0, c1⟩ := last_cells rfl hgq (by omega) k4
            have hfz : wr.frozen? ⟨gq, t.length * 2 + 1, none⟩ = false := frozen_of_row _ _ _ _ _ hgq
            have HK : Hid ((t ++ [q]).length = t.length + 1) := by show _ = _; simp
            have HWT : q.1 + q.2 = ((first + k : Nat) : Int) → withN (t ++ [q]) (((first + k : Nat) : Int), 1) = t ++ [(q.1, q.2 + 1)] := fun e => withN_touch _ _ _ e
            have HWA : q.1 + q.2 ≠ ((first + k : Nat) : Int) → withN (t ++ [q]) (((first + k : Nat) : Int), 1) = t ++ [q] ++ [(((first + k : Nat) : Int), 1)] := fun e => withN_apart _ _ _ e
            have HTN : Hid (t.length = t.length) := rfl
            unfold maxLen at k2
            clear HB' HLen' k3 k4 hgq
            by_cases e : q.1 + q.2 = ((first + k : Nat) : Int)
            · have HWN : Hid _ := HWT e
              have hbe : (q.1 + q.2 == (first : Int) + (k : Int)) = true := by simp; omega
              have HO2 : Hid (POwn wr w.heap.size (.slice (some ⟨gq, 0, none⟩) (t.length + 1) cap) (t ++ [q])) := HO
              clear HWT HWA HO
              obtain ⟨x, y⟩ := q
              simp only at c0 c1 hq hbe HWN HO2 e
              have R1 : Hid (∀ m, POwn ((wr.drewN m).setCell ⟨gq, t.length * 2 + 1, none⟩ (.int .i64 (y + 1))) w.heap.size (.slice (some ⟨gq, 0, none⟩) (t.length + 1) cap) (t ++ [(x, y + 1)])) := fun m => pown_set (q := (x, y)) _ rfl (HO2.out.grown (grown_drew _ m _))
              have R2 : Hid (∀ m, wr.grownBy ((wr.drewN m).setCell ⟨gq, t.length * 2 + 1, none⟩ (.int .i64 (y + 1))) (some gq)) := fun m => grown_trans (grown_drew _ m _) (grown_set _ _ _ _)
              have R : Hid (∀ m, RunsR P want many first n w.heap.size g (k + 1) (.slice (some ⟨gq, 0, none⟩) (t.length + 1) cap) w ((wr.drewN m).setCell ⟨gq, t.length * 2 + 1, none⟩ (.int .i64 (y + 1)))) := fun m => HR.out.put (Nat.le_refl _) (by rw [HE.out, HWN.out]; exact R1.out m) (R2.out m) HR.out.far
              clear HO2 HR R1 R2 HE HWN HK e
              generalize t.length = T at *
              go_wp2
              go_quiet (fail)
              go_wp2
              go_roundw
              case rel => exact ⟨k + 1, by omega, by go_num, by rw [HMS.out], R.out _⟩
              case measure => simp [intOf]; omega
            · have HWN : Hid _ := HWA e
              have hbe : (q.1 + q.2 == (first : Int) + (k : Int)) = false := by simp; omega
              replace HO : Hid (POwn wr w.heap.size (.slice (some ⟨gq, 0, none⟩) (t.length + 1) cap) (t ++ [q])) := HO
              clear HWT HWA e
              generalize hTT : t.length = T at *
              clear hTT
              go_wp2
              go_quiet (fail)
              go_wp2_with (at_builtin; refine wpList_append_lies _ rfl _ _ 49 rfl w.heap.size 53 i0 _ 2 16 Tryz.underlying49 hi hz0 hz1 hz2 rfl (by omega) (.slice (some ⟨gq, 0, none⟩) (T + 1) cap) (T + 1) (cellsQ (t ++ [q])) rfl (own_at HK.out (HO.out.grown (grown_da wr _ _ _))) ⟨wr.heap.size, 0, none⟩ 1 1 [.int .i64 ((first + k : Nat) : Int), .int .i64 1] rfl rfl (World.news_of_block (cs := #[.int .i64 ((first + k : Nat) : Int), .int .i64 1]) (new_da _ _ _)) (two_one _ _) (by omega) (by unfold maxLen; omega) (by omega) (by have := HR.out.bel.size; simp; omega) (wr.heap.size + 1) (by simp) ?_)
              intro g1 cap1 w1 hown1 hgrow1 hat1 hlt1
              have R1 : Hid (POwn w1 w.heap.size (.slice (some ⟨g1, 0, none⟩) ((T + 1) + 1) cap1) ((t ++ [q]) ++ [(((first + k : Nat) : Int), 1)])) := pown_push HK.out hown1
              have R2 : Hid (wr.grownBy w1 (Value.ownBlock (.slice (some ⟨gq, 0, none⟩) (T + 1) cap))) := grown_trans (grown_da wr _ _ _) hgrow1
              have R3 : Hid (some g ≠ Value.ownBlock (.slice (some ⟨g1, 0, none⟩) ((T + 1) + 1) cap1)) := far_of (w := wr) rfl (by omega) hat1 g (lt_heap HR.out.row) HR.out.far
              have R : Hid (RunsR P want many first n w.heap.size g (k + 1) (.slice (some ⟨g1, 0, none⟩) ((T + 1) + 1) cap1) w w1) := HR.out.put (Nat.le_refl _) (by rw [HE.out, HWN.out]; exact R1.out) R2.out R3.out
              clear hown1 hgrow1 hat1 hlt1 HO HR R1 R2 R3
              go_wp2
              go_roundw
              case rel => exact ⟨k + 1, by omega, by go_num, by rw [HMS.out], R.out⟩
              case measure => simp [intOf]; omega
      · have HE : Hid (runsK (wantP P want) many first (n - first) = runsK (wantP P want) many first k) := by
          have := runsK_stay (P := wantP P want) h2 (n - first - k)
          rwa [show k + (n - first - k) = n - first from by omega] at this
        have hz : many - (runsK (wantP P want) many first k).2 = 0 := by omega
        rw [hz]
        clear hz h2
        go_wp2
        go_ret
        rw [HE.out]
        exact ⟨_, rfl, HR.out.own, HR.out.bel⟩
    · obtain rfl : k = n - first := by omega
      generalize many - (runsK (wantP P want) many first (n - first)).2 = rest
      go_wp2
      go_ret
      exact ⟨_, rfl, HR.out.own, HR.out.bel⟩
end Go.Proofs.YtglcpfnpbcnejaaGreatDoor.Rm
namespace Go.Proofs.YtglcpfnpbcnejaaGreatDoor.Rm
open Go.RowKit Go.WideShapes
set_option maxRecDepth 4000

set_option maxHeartbeats 1000000 in
theorem rcheck_any (count : Int) (v : Value) (l : Pcs) (w : World) (hl : PIn w v l) :
    Calls Tryz.prog 90 #[.int .i64 count, v] w fun e w' => e = .returned (.int .i64 (errK count l)) ∧ Below w.heap.size w w' := by
  obtain ⟨q, c, rfl, _, hlc, hcm, _⟩ := hl.lies
  unfold maxLen at hcm
  by_cases h0 : 0 ≤ count
  · by_cases h1 : count ≤ 4096
    · by_cases h2 : l.length ≤ 4096
      · obtain ⟨n, rfl⟩ := Int.eq_ofNat_of_zero_le h0
        have hta := taken_any n _ l w hl (by omega)
        by_cases h3 : Good n l
        · have HE : Hid (errK n l = 0) := errK_ok ⟨h0, h1⟩ h2 h3
          have HG : Hid (Good n l) := h3
          clear hl h3
          go_enter Tryz.func90, Tryz.ntmps90
          go_wp2_with fail
          refine hta.mono ?_
          rintro e w1 hT
          obtain ⟨g, rfl, _, _, hb1⟩ := hT.1 HG.out
          clear hT
          go_wp2
          go_ret
          exact ⟨by rw [HE.out]; rfl, hb1⟩
        · have HE : Hid (errK n l = 8) := errK_bad ⟨h0, h1⟩ h2 h3
          have HG : Hid (¬ Good n l) := h3
          clear hl h3
          go_enter Tryz.func90, Tryz.ntmps90
          go_wp2_with fail
          refine hta.mono ?_
          rintro e w1 hT
          obtain ⟨rfl, hb1⟩ := hT.2 HG.out
          clear hT
          go_wp2
          go_ret
          exact ⟨by rw [HE.out]; rfl, hb1⟩
      · have HE : Hid (errK count l = 4) := errK_many ⟨h0, h1⟩ h2
        go_enter Tryz.func90, Tryz.ntmps90
        go_wp2
        go_ret
        exact ⟨by rw [HE.out]; rfl, Below.refl _ _⟩
    · have HE : Hid (errK count l = 2) := errK_arg (fun h => h1 h.2)
      go_enter Tryz.func90, Tryz.ntmps90
      go_wp2
      go_ret
      exact ⟨by rw [HE.out]; rfl, Below.refl _ _⟩
  · have HE : Hid (errK count l = 2) := errK_arg (fun h => h0 h.1)
    go_enter Tryz.func90, Tryz.ntmps90
    go_wp2
    go_ret
    exact ⟨by rw [HE.out]; rfl, Below.refl _ _⟩
set_option maxHeartbeats 1000000 in
theorem rasked_any (first count : Int) (v : Value) (l : Pcs) (w : World) (hl : PIn w v l) :
    Calls Tryz.prog 87 #[.int .i64 first, .int .i64 count, v] w fun e w' => e = .returned (.int .i64 (errF first count l)) ∧ Below w.heap.size w w' := by
  obtain ⟨q, c, rfl, _⟩ := hl.lies
  have hck := rcheck_any count _ l w hl
  by_cases h0 : 0 ≤ count
  · by_cases h1 : count ≤ 4096
    · by_cases h2 : 0 ≤ first
      · by_cases h3 : first ≤ count
        · have HE : Hid (errF first count l = errK count l) := errF_ok ⟨⟨h0, h1⟩, h2, h3⟩
          clear hl
          go_enter Tryz.func87, Tryz.ntmps87
          go_wp2_with fail
          refine hck.mono ?_
          rintro e w1 ⟨rfl, hb1⟩
          go_wp2
          go_ret
          exact ⟨by rw [HE.out]; rfl, hb1⟩
        · have HE : Hid (errF first count l = 2) := errF_arg (fun h => h3 h.2.2)
          go_enter Tryz.func87, Tryz.ntmps87
          go_wp2
          go_ret
          exact ⟨by rw [HE.out]; rfl, Below.refl _ _⟩
      · have HE : Hid (errF first count l = 2) := errF_arg (fun h => h2 h.2.1)
        go_enter Tryz.func87, Tryz.ntmps87
        go_wp2
        go_ret
        exact ⟨by rw [HE.out]; rfl, Below.refl _ _⟩
    · have HE : Hid (errF first count l = 2) := errF_arg (fun h => h1 h.1.2)
      go_enter Tryz.func87, Tryz.ntmps87
      go_wp2
      go_ret
      exact ⟨by rw [HE.out]; rfl, Below.refl _ _⟩
  · have HE : Hid (errF first count l = 2) := errF_arg (fun h => h0 h.1.1)
    go_enter Tryz.func87, Tryz.ntmps87
    go_wp2
    go_ret
    exact ⟨by rw [HE.out]; rfl, Below.refl _ _⟩
theorem runs_free (l : Pcs) (many first k : Nat) : runsK (wantP (cov l) false) many first k = runsK (freeB l) many first k := runsK_congr k (fun n _ _ => by unfold wantP freeB; cases cov l n <;> rfl)
theorem got_nat (f n m : Nat) (l : Pcs) : gotF (f : Int) (n : Int) l m = runsK (freeB l) m f (n - f) := by
  unfold gotF
  rw [show ((f : Int)).toNat = f from by omega, show ((n : Int) - (f : Int)).toNat = n - f from by omega]
/-! ### Take -/
theorem runs_sum (P : Int → Bool) (many first k : Nat) : sumP (runsK P many first k).1 = ((runsK P many first k).2 : Nat) := by
  have h := runsK_of P many first k
  rw [← secs_len_sum (fun p hp => by have := h.runs.2 p hp; omega), h.secs, h.got]
theorem take_wn {s : Pcs} (h : ∀ p ∈ s, 0 ≤ p.1 ∧ 0 ≤ p.2 ∧ p.1 + p.2 ≤ 4096) (k : Nat) : ∀ p ∈ s.take k, 0 ≤ p.2 ∧ p.2 ≤ 4096 := by
  intro p hp
  have := h p (List.mem_of_mem_take hp)
  omega
set_option maxHeartbeats 2000000 in
theorem rtake_any (first count : Int) (v : Value) (l : Pcs) (many : Int) (w : World) (hl : PIn w v l) :
    Calls Tryz.prog 53 #[.int .i64 first, .int .i64 count, v, .int .i64 many] w (ListPost (resT first count l many) (errT first count l many) w) := by
  obtain ⟨q, c, rfl, _⟩ := hl.lies
  have hck := rasked_any first count _ l w hl
  by_cases h0 : 0 ≤ many
  · by_cases h1 : many ≤ 4096
    · by_cases h2 : errF first count l = 0
      · have hz := errF_zero h2
        rw [h2] at hck
        obtain ⟨f, rfl⟩ := Int.eq_ofNat_of_zero_le hz.1.2.1
        obtain ⟨n, rfl⟩ := Int.eq_ofNat_of_zero_le hz.1.1.1
        obtain ⟨m, rfl⟩ := Int.eq_ofNat_of_zero_le h0
        have hgot : gotF (f : Int) (n : Int) l ((m : Int)).toNat = runsK (freeB l) m f (n - f) := by rw [show ((m : Int)).toNat = m from by omega, got_nat]
        have HFew : Hid ((runsK (freeB l) m f (n - f)).2 < m → ListPost (resT (f : Int) (n : Int) l (m : Int)) (errT (f : Int) (n : Int) l (m : Int)) w = ListPost [] 30 w) := by
          intro hlt
          have hE : errT (f : Int) (n : Int) l (m : Int) = 30 := errT_few ⟨h0, h1⟩ h2 (by rw [hgot]; omega)
          rw [resT_bad (by rw [hE]; decide), hE]
        have HOk : Hid (¬ (runsK (freeB l) m f (n - f)).2 < m → ListPost (resT (f : Int) (n : Int) l (m : Int)) (errT (f : Int) (n : Int) l (m : Int)) w = ListPost (runsK (freeB l) m f (n - f)).1 0 w) := by
          intro hlt
          have hE : errT (f : Int) (n : Int) l (m : Int) = 0 := errT_ok ⟨h0, h1⟩ h2 (by rw [hgot]; omega)
          rw [resT_ok hE, hE, hgot]
        generalize ListPost (resT (f : Int) (n : Int) l (m : Int)) (errT (f : Int) (n : Int) l (m : Int)) w = POST at *
        have hta := fun w1 (hb : Below w.heap.size w w1) => taken_any n _ l w1 (hl.below hb) (by omega)
        have HG : Hid (Good n l) := hz.2.2
        have hru : ∀ w1 g, BAt w1 g (cov l) n → Calls Tryz.prog 89 #[.slice (some ⟨g, 0, none⟩) n n, .int .i64 f, .bool false, .int .i64 m] w1 fun e w' => ∃ q c, e = .returned (.slice q (runsK (freeB l) m f (n - f)).1.length c) ∧ POwn w' w1.heap.size (.slice q (runsK (freeB l) m f (n - f)).1.length c) (runsK (freeB l) m f (n - f)).1 ∧ Below w1.heap.size w1 w' ∧ (runsK (freeB l) m f (n - f)).1.length ≤ c ∧ c ≤ 9223372036854775807 := by
          intro w1 g hb
          have := runs_any (cov l) false g n f m w1 hb (by omega) (by omega) (by omega)
          rw [runs_free] at this
          refine this.mono ?_
          rintro e w' ⟨v', rfl, ho, hb'⟩
          obtain ⟨q', c', rfl, k1, k2, _⟩ := ho.form
          unfold maxLen at k2
          exact ⟨q', c', rfl, ho, hb', k1, by omega⟩
        have hsum := runs_sum (freeB l) m f (n - f)
        have hbd := runsK_bounds (freeB l) m f (n - f) 4096 (by omega)
        have hln := runsK_len (freeB l) m f (n - f)
        have hgl := runsK_le (freeB l) m f (n - f)
        generalize hrr : (runsK (freeB l) m f (n - f)) = r at *
        obtain ⟨out, got⟩ := r
        simp only at hsum hbd hln hgl hru HFew HOk
        have HSum : Hid (sumP out = (got : Nat)) := hsum
        have HBd : Hid (∀ p ∈ out, 0 ≤ p.1 ∧ 0 ≤ p.2 ∧ p.1 + p.2 ≤ 4096) := hbd
        clear hl hz h2 hgot hsum hbd hrr
        go_enter Tryz.func53, Tryz.ntmps53
        go_wp2_with fail
        refine hck.mono ?_
        rintro e w1 ⟨rfl, hb1⟩
        go_wp2_with fail
        refine (hta w1 hb1).mono ?_
        rintro e w2 hT
        obtain ⟨g, rfl, hrow, hge, hb2⟩ := hT.1 HG.out
        have HRow : Hid (BAt w2 g (cov l) n) := hrow
        clear hT hrow
        go_wp2_with fail
        refine (hru w2 g HRow.out).mono ?_
        rintro e w3 ⟨q3, c3, rfl, ho3, hb3, k1, k2⟩
        have HO : Hid (POwn w3 w2.heap.size (.slice q3 out.length c3) out) := ho3
        have hq3 := ho3.pcs
        have hb12 := below_bt hb1 hb2
        clear ho3 HRow hta hru hck hb1 hb2
        go_wp2
        go_loopw [14, 15] (fun s i wr => ∃ k : Nat, k ≤ out.length ∧ i = .int .i64 k ∧ s = .int .i64 (sumP (out.take k)) ∧ wr = w3) (fun _ i _ => out.length - (intOf i).toNat)
        case atStart => exact ⟨0, by omega, rfl, rfl, rfl⟩
        case round =>
          obtain ⟨k, hk, rfl, rfl, rfl⟩ := hrel
          by_cases hkl : k < out.length
          · obtain ⟨b, o, rfl⟩ := hq3.addr (by omega)
            obtain ⟨e1, e2⟩ := hq3.at hkl
            have hwn := HBd.out _ (getD_mem' (d := (0, 0)) hkl)
            have hs := sumP_bound (take_wn HBd.out k)
            have hsl : (out.take k).length ≤ 4096 := by simp; omega
            have HS : Hid _ := sum_step hkl
            clear hq3
            generalize out.getD k (0, 0) = y at *
            obtain ⟨a, n'⟩ := y
            generalize sumP (out.take k) = S at *
            generalize (out.take k).length = L at *
            simp only at e1 e2 hwn
            go_wp2
            go_roundw
            case rel => exact ⟨k + 1, by omega, by go_num, by rw [HS.out], by first | rfl | trivial⟩
            case measure => simp [intOf]; omega
          · obtain rfl : k = out.length := by omega
            rw [List.take_length, HSum.out]
            clear hq3
            by_cases h5 : got < m
            · have HP := HFew.out h5
              subst HP
              clear HFew HOk
              go_wp2
              go_ret2
              exact listPost_nil rfl rfl (below_bt hb12 hb3)
            · have HP := HOk.out h5
              subst HP
              clear HFew HOk
              go_wp2
              go_ret2
              exact listPost_own rfl HO.out hb12 hb3
      · have h3 : errT first count l many = errF first count l := errT_bad ⟨h0, h1⟩ h2
        have hne : (errF first count l != 0) = true := by simpa using h2
        rw [resT_bad (by rw [h3]; exact h2), h3]
        generalize errF first count l = E at *
        clear hl h2 h3
        go_enter Tryz.func53, Tryz.ntmps53
        go_wp2_with fail
        refine hck.mono ?_
        rintro e w1 ⟨rfl, hb1⟩
        go_wp2
        go_ret2
        exact listPost_nil rfl rfl hb1
    · have h3 : errT first count l many = 2 := errT_arg (fun h => h1 h.2)
      rw [resT_bad (by rw [h3]; decide), h3]
      go_enter Tryz.func53, Tryz.ntmps53
      go_wp2
      go_ret2
      exact listPost_nil rfl rfl (Below.refl _ _)
  · have h3 : errT first count l many = 2 := errT_arg (fun h => h0 h.1)
    rw [resT_bad (by rw [h3]; decide), h3]
    go_enter Tryz.func53, Tryz.ntmps53
    go_wp2
    go_ret2
    exact listPost_nil rfl rfl (Below.refl _ _)
end Go.Proofs.YtglcpfnpbcnejaaGreatDoor.Rm
namespace Go.Proofs.YtglcpfnpbcnejaaGreatDoor.Rm
open Go.RowKit Go.WideShapes
set_option maxRecDepth 4000

set_option maxHeartbeats 1000000 in
theorem rmany_any (v : Value) (l : Pcs) (w : World) (hl : PIn w v l) :
    Calls Tryz.prog 114 #[v] w fun e w' => e = .returned (.tuple #[.int .i64 (manyN l), .int .i64 (errK 4096 l)]) ∧ Below w.heap.size w w' := by
  obtain ⟨q, c, rfl, hq, hlc, hcm, _⟩ := hl.lies
  have hck := rcheck_any 4096 _ l w hl
  unfold maxLen at hcm
  by_cases h2 : errK 4096 l = 0
  · have hz := errK_zero h2
    have hg := hz.2.2
    have hlen := hz.2.1
    have HM : Hid (manyN l = sumP l) := by show _ = _; unfold manyN; rw [if_pos h2]
    rw [h2] at hck ⊢
    clear hl hz h2
    go_enter Tryz.func114, Tryz.ntmps114
    go_wp2_with fail
    refine hck.mono ?_
    rintro e w1 ⟨rfl, hb1⟩
    go_wp2
    go_loopw [5, 6] (fun s i wr => ∃ k : Nat, k ≤ l.length ∧ i = .int .i64 k ∧ s = .int .i64 (sumP (l.take k)) ∧ Below w.heap.size w wr) (fun _ i _ => l.length - (intOf i).toNat)
    case atStart => exact ⟨0, by omega, rfl, rfl, hb1⟩
    case round =>
      obtain ⟨k, hk, rfl, rfl, hbel⟩ := hrel
      by_cases hkl : k < l.length
      · obtain ⟨b, o, rfl⟩ := hq.addr (by omega)
        obtain ⟨e1, e2⟩ := (hq.below hbel).at hkl
        have hwn := hg.wn _ (getD_mem' (d := (0, 0)) hkl)
        have hs := sumP_bound (wn_take hg k)
        have hsl : (l.take k).length ≤ 4096 := by simp; omega
        have HS : Hid _ := sum_step hkl
        unfold Wn at hwn
        clear hq hg hck
        generalize l.getD k (0, 0) = y at *
        obtain ⟨a, n⟩ := y
        generalize sumP (l.take k) = S at *
        generalize (l.take k).length = L at *
        simp only at e1 e2 hwn
        go_wp2
        go_roundw
        case rel => exact ⟨k + 1, by omega, by go_num, by rw [HS.out], hbel⟩
        case measure => simp [intOf]; omega
      · obtain rfl : k = l.length := by omega
        rw [List.take_length]
        clear hq hg hck
        go_wp2
        go_ret2
        exact ⟨by rw [HM.out]; rfl, hbel⟩
  · have HM : manyN l = 0 := by unfold manyN; rw [if_neg h2]
    have hne : (errK 4096 l != 0) = true := by simpa using h2
    rw [HM]
    generalize errK 4096 l = E at *
    clear hl hq h2
    go_enter Tryz.func114, Tryz.ntmps114
    go_wp2_with fail
    refine hck.mono ?_
    rintro e w1 ⟨rfl, hb1⟩
    go_wp2
    go_ret2
    exact ⟨rfl, hb1⟩
set_option maxHeartbeats 2000000 in
theorem rsectors_any (v : Value) (l : Pcs) (w : World) (hl : PIn w v l) :
    Calls Tryz.prog 55 #[v] w fun e w' => ∃ q c, e = .returned (.tuple #[.slice q (secsN l).length c, .int .i64 (errK 4096 l)]) ∧ IOwn w' w.heap.size (.slice q (secsN l).length c) (secsN l) ∧ Below w.heap.size w w' := by
  obtain ⟨q, c, rfl, hq, hlc, hcm, _⟩ := hl.lies
  have hck := rcheck_any 4096 _ l w hl
  unfold maxLen at hcm
  obtain ⟨i0, hi, hz0, hz1, hz2⟩ := info_parts' info_int
  by_cases h2 : errK 4096 l = 0
  · have hz := errK_zero h2
    have HG : Hid (Good 4096 l) := hz.2.2
    have hlen := hz.2.1
    have HM : secsN l = secs l := by unfold secsN; rw [if_pos h2]
    rw [h2] at hck ⊢
    rw [HM]
    clear hl hz h2 HM
    go_enter Tryz.func55, Tryz.ntmps55
    go_wp2_with fail
    refine hck.mono ?_
    rintro e w1 ⟨rfl, hb1⟩
    clear hck
    go_wp2
    go_loopw [5, 6] (fun out i wr => ∃ k : Nat, k ≤ l.length ∧ i = .int .i64 k ∧ IOwn wr w.heap.size out (secs (l.take k)) ∧ Below w.heap.size w wr) (fun _ i _ => l.length - (intOf i).toNat)
    case atStart => exact ⟨0, by omega, rfl, iown_nil _ _, hb1⟩
    case round =>
      obtain ⟨k, hk, rfl, hout, hbel⟩ := hrel
      by_cases hkl : k < l.length
      · obtain ⟨b, o, rfl⟩ := hq.addr (by omega)
        have hwn := wpIn HG.out hkl
        have HCE : Hid (∀ w', Below w.heap.size w w' → w'.cell? ⟨b, o + k * 2, none⟩ = some (.int .i64 (l.getD k (0, 0)).1) ∧ w'.cell? ⟨b, o + k * 2 + 1, none⟩ = some (.int .i64 (l.getD k (0, 0)).2)) := fun w' hb => (hq.below hb).at hkl
        have HS0 : Hid _ := secsI_zero l k
        have HST : Hid (∀ i, secsI l k (i + 1) = secsI l k i ++ [(l.getD k (0, 0)).1 + (i : Nat)]) := secsI_step l k
        have HSF : Hid _ := secsI_full hkl
        have HSL : Hid (∀ i, i ≤ 4096 → (secsI l k i).length ≤ 16781312) := fun i hi => secsI_len HG.out hlen hi
        have HOUT : Hid (IOwn wr w.heap.size u5 (secsI l k 0)) := by show IOwn _ _ _ _; rw [HS0.out]; exact hout
        have HBEL : Hid (Below w.heap.size w wr) := hbel
        clear hq hout hbel HS0
        generalize hy : l.getD k (0, 0) = y at *
        obtain ⟨a, n⟩ := y
        simp only at hwn
        obtain ⟨m, rfl⟩ := Int.eq_ofNat_of_zero_le (show 0 ≤ n by omega)
        go_wp2
        go_loopw [5, 7] (fun out i wq => ∃ j : Nat, j ≤ m ∧ i = .int .i64 j ∧ IOwn wq w.heap.size out (secsI l k j) ∧ Below w.heap.size w wq) (fun _ i _ => m - (intOf i).toNat)
        case atStart => exact ⟨0, by omega, rfl, HOUT.out, HBEL.out⟩
        case round =>
          clear HOUT HBEL
          obtain ⟨j, hj, rfl, hout, hbel⟩ := hrel
          have HOUT : Hid (IOwn wr w.heap.size u5 (secsI l k j)) := hout
          have HBEL : Hid (Below w.heap.size w wr) := hbel
          obtain ⟨e1, e2⟩ := HCE.out wr hbel
          have hlj := HSL.out j (by omega)
          have HSJ : Hid _ := HST.out j
          clear hout hbel
          by_cases hjm : j < m
          · obtain ⟨L, hL⟩ : ∃ L, (secsI l k j).length = L := ⟨_, rfl⟩
            have HL : Hid ((secsI l k j).length = L) := hL
            rw [hL] at hlj
            clear hL
            go_wp2_with (at_builtin; refine wpList_append_lies _ rfl _ _ 107 rfl w.heap.size 3 i0 _ 1 8 Tryz.underlying107 hi hz0 hz1 hz2 rfl (by omega) u5 L (Is (secsI l k j)) rfl (iown_at HL.out (HOUT.out.below (below_alloc _ _))) ⟨wr.heap.size, 0, none⟩ 1 1 [.int .i64 (a + j)] rfl rfl (World.news_of_block (cs := #[.int .i64 (a + j)]) (heap_alloc_new _ _)) (one_one' _) (by omega) (by unfold maxLen; omega) (by omega) (by have := HBEL.out.size; simp; omega) (wr.heap.size + 1) (by simp) ?_)
            intro g1 cap1 w2 hown1 hgrow1 hat1 hlt1
            have R1 : Hid (IOwn w2 w.heap.size (.slice (some ⟨g1, 0, none⟩) (L + 1) cap1) (secsI l k (j + 1))) := by show IOwn _ _ _ _; rw [HSJ.out]; exact iown_push HL.out hown1
            have R4 : Hid (Below w.heap.size w w2) := (HBEL.out.alloc HBEL.out.size _).grown hgrow1 (by have := HBEL.out.size; simp; omega) (fun x hx => (HOUT.out.lt x hx).1)
            clear hown1 hgrow1 hat1 hlt1 HOUT HBEL e1 e2
            go_wp2
            go_roundw
            case rel => exact ⟨j + 1, by omega, by go_num, R1.out, R4.out⟩
            case measure => simp [intOf]; omega
          · obtain rfl : j = m := by omega
            have R1 : Hid (IOwn wr w.heap.size u5 (secs (l.take (k + 1)))) := by
              have h := HOUT.out
              have e := HSF.out
              simp only [Int.toNat_natCast] at e
              rwa [e] at h
            clear HOUT HSF HST HSJ HSL HCE
            go_wp2
            go_roundw
            case rel => exact ⟨k + 1, by omega, by go_num, R1.out, HBEL.out⟩
            case measure => simp [intOf]; omega
      · obtain rfl : k = l.length := by omega
        rw [List.take_length] at hout
        have HOUT : Hid (IOwn wr w.heap.size u5 (secs l)) := hout
        clear hout hq
        go_wp2
        go_ret2
        obtain ⟨q', m', e, _⟩ := HOUT.out.form
        subst e
        exact ⟨q', m', rfl, HOUT.out, hbel⟩
  · have HM : secsN l = [] := by unfold secsN; rw [if_neg h2]
    have hne : (errK 4096 l != 0) = true := by simpa using h2
    rw [HM]
    generalize errK 4096 l = E at *
    clear hl hq h2
    go_enter Tryz.func55, Tryz.ntmps55
    go_wp2_with fail
    refine hck.mono ?_
    rintro e w1 ⟨rfl, hb1⟩
    go_wp2
    go_ret2
    exact ⟨none, 0, rfl, iown_nil _ _, hb1⟩
end Go.Proofs.YtglcpfnpbcnejaaGreatDoor.Rm
namespace Go.Proofs.YtglcpfnpbcnejaaGreatDoor
open Go.RowKit Go.WideShapes Rm

theorem rneeds_any (n : Int) (w : World) (h : 0 ≤ n ∧ n ≤ 9223372036854775000) : Calls Tryz.prog 52 #[.int .i64 n] w fun e w' => e = .returned (.int .i64 (needsN n)) ∧ w' = w := by
  have HN : Hid (needsN n = (n + 128 - 1) / 128) := by show _ = _; unfold needsN; omega
  go_enter Tryz.func52, Tryz.ntmps52
  go_wp2
  go_ret
  exact ⟨by rw [HN.out]; rfl, rfl⟩
theorem rsmall4_any (n : Int) (w : World) (h : 0 ≤ n ∧ n ≤ 9223372036854775807) : Calls Tryz.prog 80 #[.int .i64 n] w fun e w' => ∃ v, e = .returned v ∧ w'.ownsRow w.heap.size 5 1 v (smallN n.toNat).length (Bs (smallN n.toNat)) ∧ Below w.heap.size w w' := by
  obtain ⟨m, rfl⟩ := Int.eq_ofNat_of_zero_le h.1
  have hm : IntKind.u64.wrap (m : Int) = (m : Int) := by rw [IntKind.wrap_u64]; omega
  go_enter Tryz.func80, Tryz.ntmps80
  go_wp2_with (go_at_call 115; refine (refSmall_any m _ (by omega)).mono ?_; rintro e w1 ⟨v, rfl, ho, hb⟩)
  go_ret
  exact ⟨v, rfl, ho, hb⟩
set_option maxRecDepth 4000 in
set_option maxHeartbeats 4000000 in
theorem risName_r (s : ByteArray) (r : Bool) (hr : isNameN s = r) (w : World) (hs : (s.size : Int) ≤ 9223372036854775807) : Calls Tryz.prog 85 #[.string s] w fun e w' => e = .returned (.bool r) ∧ w' = w := by
  have HR : Hid (isNameN s = r) := hr
  clear hr
  by_cases h1 : 1 ≤ s.size ∧ s.size ≤ 32
  · go_enter Tryz.func85, Tryz.ntmps85
    go_wp2
    go_loop [3] (fun i => ∃ k : Nat, k ≤ s.size ∧ i = .int .i64 k ∧ ∀ j, j < k → nameByte ((numsOf s).getD j 0) = true) (fun i => s.size - (intOf i).toNat)
    case atStart => exact ⟨0, by omega, rfl, fun j hj => absurd hj (by omega)⟩
    case round =>
      obtain ⟨k, hk, rfl, hall⟩ := hrel
      have HA : Hid (∀ j, j < k → nameByte ((numsOf s).getD j 0) = true) := hall
      clear hall
      by_cases hkl : k < s.size
      · have hx := str_at s k hkl
        have hlt := getD_lt (numsOf_lt s) k
        have HS : Hid (nameByte ((numsOf s).getD k 0) = false → isNameN s = false) := fun h => by
          unfold isNameN
          rw [List.all_eq_false.2 ⟨_, getD_mem' (d := 0) (by rw [numsOf_len]; exact hkl), by rw [h]; simp⟩, Bool.and_false]
        have HT : Hid (nameByte ((numsOf s).getD k 0) = true → ∀ j, j < k + 1 → nameByte ((numsOf s).getD j 0) = true) := fun h j hj => by
          rcases Nat.lt_or_ge j k with h' | h'
          · exact HA.out j h'
          · obtain rfl : j = k := by omega
            exact h
        clear HA
        generalize hcd : (numsOf s).getD k 0 = cc at *
        cases hb : nameByte cc with
        | true =>
          have HT2 := HT.out hb
          have HT3 : Hid _ := HT2
          clear HT2 HT HS
          unfold nameByte at hb
          simp only [decide_eq_true_eq] at hb
          by_cases a1 : (97 : Int) ≤ cc <;> by_cases a2 : (cc : Int) ≤ 122 <;> by_cases a3 : (48 : Int) ≤ cc <;> by_cases a4 : (cc : Int) ≤ 57 <;> by_cases b1 : cc = 45 <;> by_cases b2 : cc = 95 <;> by_cases b3 : cc = 46 <;> first | (exfalso; omega) | skip
          all_goals
            clear hb
            have c1 : ((cc : Int) == 45) = decide (cc = 45) := by rw [Bool.eq_iff_iff]; simp; omega
            have c2 : ((cc : Int) == 95) = decide (cc = 95) := by rw [Bool.eq_iff_iff]; simp; omega
            have c3 : ((cc : Int) == 46) = decide (cc = 46) := by rw [Bool.eq_iff_iff]; simp; omega
            go_wp2
            go_round
            case rel => exact ⟨k + 1, by omega, by go_num, HT3.out⟩
            case measure => simp [intOf]; omega
        | false =>
          have HF : Hid (isNameN s = false) := HS.out hb
          clear HT HS
          unfold nameByte at hb
          simp only [decide_eq_false_iff_not] at hb
          by_cases a1 : (97 : Int) ≤ cc <;> by_cases a2 : (cc : Int) ≤ 122 <;> by_cases a3 : (48 : Int) ≤ cc <;> by_cases a4 : (cc : Int) ≤ 57 <;> first | (exfalso; omega) | skip
          all_goals
            have c1 : ((cc : Int) == 45) = false := by simp; omega
            have c2 : ((cc : Int) == 95) = false := by simp; omega
            have c3 : ((cc : Int) == 46) = false := by simp; omega
            clear hb
            go_wp2
            go_ret
            exact ⟨by rw [← HR.out, HF.out]; rfl, rfl⟩
      · obtain rfl : k = s.size := by omega
        have HT : Hid (isNameN s = true) := by
          show _ = _
          unfold isNameN
          rw [decide_eq_true h1, Bool.true_and, List.all_eq_true]
          intro c hc
          obtain ⟨i, hi, rfl⟩ := List.getElem_of_mem hc
          have := HA.out i (by rw [← numsOf_len]; exact hi)
          rwa [getD_eq hi] at this
        clear HA
        go_wp2
        go_ret
        exact ⟨by rw [← HR.out, HT.out]; rfl, rfl⟩
  · have HF : Hid (isNameN s = false) := by show _ = _; unfold isNameN; rw [decide_eq_false h1]; rfl
    go_enter Tryz.func85, Tryz.ntmps85
    go_wp2
    all_goals
      go_ret
      refine ⟨?_, rfl⟩
      rw [← HR.out, HF.out]
      rfl
theorem pown_grown_box {w w' : World} {base B : Nat} {v : Value} {l : Pcs} {C : Array Value} {t : TypeId} {fr : Nat × Nat} (h : POwn w base v l) (hg : w.grownBy w' v.ownBlock) (hB : w.heap[B]? = some (.cells C t fr)) (ht : t ≠ 53) : w'.heap[B]? = some (.cells C t fr) := by
  rw [hg.block B (lt_heap hB) ?_]
  · exact hB
  · intro e
    rcases h.2 with ⟨hv, _⟩ | ⟨g, cap, cur, hv, _, hgg, _⟩
    · rw [hv] at e; cases e
    · rw [hv] at e
      simp only [Value.ownBlock, Option.some.injEq] at e
      subst e
      rw [hB] at hgg
      simp only [Option.some.injEq, Obj.cells.injEq] at hgg
      exact ht hgg.2.1
set_option maxHeartbeats 1000000 in
theorem rpieces_any (v : Value) (x : DirV) (w : World) (hx : DirIn w v x) (hsum : (allPcs x.files).length ≤ 1000000) :
    Calls Tryz.prog 51 #[v] w fun e w' => ∃ r, e = .returned r ∧ POwn w' w.heap.size r (allPcs x.files) ∧ Below w.heap.size w w' := by
  obtain ⟨fv, rfl, hf⟩ := hx.lies
  obtain ⟨gen, l⟩ := x
  simp only at hf hsum ⊢
  obtain ⟨q, c, rfl, hq, hlc, hcm, hqn⟩ := hf.lies
  have HQ : Hid (FilesIn w q l) := hq
  unfold maxLen at hcm
  clear hf hq hqn hx
  go_enter Tryz.func51, Tryz.ntmps51
  go_wp2
  go_loopw [3, 4] (fun m i wr => ∃ k : Nat, k ≤ l.length ∧ i = .int .i64 k ∧ POwn wr w.heap.size m (allPcs (l.take k)) ∧ wr.heap[w.heap.size]? = some (.cells #[.int .i64 gen, .slice q l.length c] 31 (0, 0)) ∧ Below w.heap.size w wr) (fun _ i _ => l.length - (intOf i).toNat)
  case atStart => exact ⟨0, by omega, rfl, pown_nil _ _, heap_alloc_new w _, below_alloc _ _⟩
  case round =>
    obtain ⟨k, hk, rfl, hown, hbx, hbel⟩ := hrel
    have hsz := hbel.size
    have d1 : wr.cell? ⟨w.heap.size, 1, none⟩ = some (.slice q l.length c) := cell_of_row _ _ _ _ _ _ hbx
    have HX : Hid _ := hbx
    have HB : Hid (Below w.heap.size w wr) := hbel
    clear hbx
    by_cases hkl : k < l.length
    · obtain ⟨b, o, rfl⟩ := HQ.out.addr (by omega)
      obtain ⟨_, _, pv, e2, hp⟩ := (HQ.out.below hbel).at hkl
      have HA : Hid _ := allPcs_snoc hkl
      have hle : (allPcs (l.take (k + 1))).length ≤ (allPcs l).length := by
        conv => rhs; rw [← List.take_append_drop (k + 1) l]
        unfold allPcs
        rw [List.flatMap_append, List.length_append]
        omega
      rw [allPcs_snoc hkl, List.length_append] at hle
      clear hbel
      generalize l.getD k zeroF = y at *
      obtain ⟨nm, sz, pl⟩ := y
      obtain ⟨qp, cp, rfl, hqp, _, _, hqn⟩ := hp.lies
      simp only at e2 hqp hle
      have HP : Hid (PcsIn wr qp pl) := hqp
      have HO : Hid _ := hown
      clear hqp hp hown
      go_wp2_with (at_builtin; refine wpList_append_pcs _ rfl _ _ rfl w.heap.size _ (allPcs (l.take k)) pl qp pl.length cp rfl rfl rfl HO.out HP.out hqn (by omega) (by omega) ?_; intro v' w2 hown3 hgrow)
      go_roundw
      case rel => exact ⟨k + 1, by omega, by go_num, by rw [HA.out]; exact hown3, pown_grown_box HO.out hgrow HX.out (by decide), HB.out.grown hgrow hsz (fun x hx => (POwn.lt HO.out x hx).1)⟩
      case measure => simp [intOf]; omega
    · obtain rfl : k = l.length := by omega
      rw [List.take_length] at hown
      clear hbel
      have HO : Hid _ := hown
      clear hown
      go_wp2
      go_ret
      exact ⟨_, rfl, HO.out, HB.out⟩
end Go.Proofs.YtglcpfnpbcnejaaGreatDoor
