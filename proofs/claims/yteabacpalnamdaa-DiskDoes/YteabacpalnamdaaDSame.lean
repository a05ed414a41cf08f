/-
  Contracts of bytes.Equal and of the call Same: whether two disks are the same.
-/
import Derived.Test.YteabacpalnamdaaDRead2
import Derived.Deep.QuietTactic
import Derived.BigQuiet
namespace Go.Proofs.Yteabacpalnamdaa
open Go.RowKit Go.WideShapes

theorem conv_bytes {w : World} {p : Option Addr} {xs : List Nat} (h : BIn w p xs) (c : Nat) : (convert 22 9 (.slice p xs.length c)).run Try.prog w = .ok (.string (strOf xs)) w :=
  bin_conv Try.underlying22 Try.underlying5 Try.underlying9 h rfl c
theorem str_eq {xs ys : List Nat} (hx : ∀ c ∈ xs, c < 256) (hy : ∀ c ∈ ys, c < 256) : ((strOf xs).toList == (strOf ys).toList) = decide (xs = ys) := by
  rw [ByteArray.toList_eq, ByteArray.toList_eq, Bool.eq_iff_iff]
  simp only [decide_eq_true_eq, beq_iff_eq]
  exact strOf_eq hx hy
theorem equal_any (p1 p2 : Option Addr) (c1 c2 : Nat) (xs ys : List Nat) (w : World) (h1 : BIn w p1 xs) (h2 : BIn w p2 ys) :
    Calls Try.prog 47 #[.slice p1 xs.length c1, .slice p2 ys.length c2] w fun e w' => e = .returned (.bool (decide (xs = ys))) ∧ w' = w := by
  have e1 := conv_bytes h1 c1
  have e2 := conv_bytes h2 c2
  have HI : Hid (((strOf xs).toList == (strOf ys).toList) = decide (xs = ys)) := str_eq h1.2 h2.2
  clear h1 h2
  go_enter Try.func47, Try.ntmps47
  go_wp2
  go_ret
  refine ⟨?_, rfl⟩
  exact congrArg (fun b => Ending.returned (.bool b)) HI.out
theorem below_drewN {B : Nat} {a w : World} (h : Below B a w) (n : Nat) : Below B a (w.drewN n) := ⟨h.os, h.tape, h.output, h.size, h.block⟩
/-- Are two disks the same? -/
def SameD (c1 c2 : Int) (d1 d2 : List Nat) (w1 w2 : Puts) : Prop := c1 = c2 ∧ d1 = d2 ∧ w1 = w2
theorem same_step {w1 w2 : Puts} {k : Nat} (h1 : k < w1.length) (h2 : k < w2.length) (h : w1.take k = w2.take k) (he : w1.getD k (0, []) = w2.getD k (0, [])) : w1.take (k + 1) = w2.take (k + 1) := by
  rw [take_getD h1, take_getD h2, h, he]
theorem same_not {w1 w2 : Puts} {k : Nat} (he : w1.getD k (0, []) ≠ w2.getD k (0, [])) : w1 ≠ w2 := fun h => he (by rw [h])
theorem same_all {w1 w2 : Puts} (hl : w1.length = w2.length) (h : w1.take w1.length = w2.take w1.length) : w1 = w2 := by
  rw [List.take_length, hl, List.take_length] at h; exact h

set_option maxHeartbeats 2000000 in
theorem same_any (v1 v2 : Value) (c1 c2 : Int) (d1 d2 : List Nat) (w1 w2 : Puts) (w : World) (h1 : DiskIn w v1 c1 d1 w1) (h2 : DiskIn w v2 c2 d2 w2) (b : Bool) (hb : b = true ↔ SameD c1 c2 d1 d2 w1 w2) :
    Calls Try.prog 31 #[v1, v2] w fun e w' => e = .returned (.bool b) ∧ Below w.heap.size w w' := by
  obtain ⟨p1, k1, q1, m1, rfl, hb1, _, _, _, hq1, hm1, hmm1, _⟩ := h1.parts
  obtain ⟨p2, k2, q2, m2, rfl, hb2, _, _, _, hq2, hm2, hmm2, _⟩ := h2.parts
  unfold maxLen at hmm1 hmm2
  have HBB : Hid _ := hb
  have HB1 : Hid (BIn w p1 d1) := hb1
  have HB2 : Hid (BIn w p2 d2) := hb2
  have HQ1 : Hid (PutsIn w q1 w1) := hq1
  have HQ2 : Hid (PutsIn w q2 w2) := hq2
  clear hb hb1 hb2 hq1 hq2 h1 h2
  by_cases g1 : c1 = c2
  · by_cases g2 : d1 = d2
    · have EQ : Hid (∀ wx, Below w.heap.size w wx → Calls Try.prog 47 #[.slice p1 d1.length k1, .slice p2 d2.length k2] wx fun e w' => e = .returned (.bool (decide (d1 = d2))) ∧ w' = wx) := fun wx h => equal_any _ _ _ _ _ _ _ (HB1.out.below h) (HB2.out.below h)
      by_cases g3 : w1.length = w2.length
      · have G2 : Hid (d1 = d2) := g2
        have G3 : Hid (w1.length = w2.length) := g3
        have g3a : w1.length ≤ w2.length := by omega
        have g3b : w2.length ≤ w1.length := by omega
        have hneb : ((w1.length : Int) != (w2.length : Int)) = false := by simp; omega
        subst g1
        clear g2 g3
        go_enter Try.func31, Try.ntmps31
        go_wp2_with (go_at_call 47; refine (EQ.out _ ((below_alloc _ _).alloc (by simp) _)).mono ?_; rintro e wx ⟨rfl, rfl⟩; rw [decide_eq_true G2.out])
        go_loopw [32] (fun i wr => ∃ k : Nat, k ≤ w1.length ∧ i = .int .i64 k ∧ Hid (w1.take k = w2.take k) ∧ Below (w.heap.size + 2) ((w.alloc (.cells #[.int .i64 c1, .slice p1 d1.length k1, .slice q1 w1.length m1] 25)).alloc (.cells #[.int .i64 c1, .slice p2 d2.length k2, .slice q2 w2.length m2] 25)) wr) (fun i _ => w1.length - (intOf i).toNat)
        case atStart => exact ⟨0, by omega, rfl, rfl, Below.refl _ _⟩
        case round =>
          obtain ⟨k, hk, rfl, HT, hbk⟩ := hrel
          obtain ⟨hx1, hx2⟩ := box2_cells hbk
          obtain ⟨r0, r1, r2⟩ := cells3 hx2
          have hz := box2_size hbk
          have hbw := box2_below hbk
          clear hx1 hx2
          by_cases hkl : k < w1.length
          · have hq1 := HQ1.out.below hbw
            have hq2 := HQ2.out.below hbw
            obtain ⟨bq1, oq1, rfl⟩ := hq1.addr (by omega)
            obtain ⟨bq2, oq2, rfl⟩ := hq2.addr (by omega)
            obtain ⟨e1, pk1, ck1, e2, hbi1⟩ := hq1.at2 hkl
            obtain ⟨f1, pk2, ck2, f2, hbi2⟩ := hq2.at2 (show k < w2.length by omega)
            have hl1 := World.block_lt_of_cell? _ _ f1
            simp only at hl1
            have HST := same_step (w1 := w1) (w2 := w2) hkl (show k < w2.length by omega) HT.out
            have HNO := same_not (w1 := w1) (w2 := w2) (k := k)
            generalize w1.getD k (0, []) = y1 at *
            generalize w2.getD k (0, []) = y2 at *
            obtain ⟨s1, xs1⟩ := y1
            obtain ⟨s2, xs2⟩ := y2
            simp only at e1 e2 f1 f2 hbi1 hbi2
            have HST' : Hid _ := HST
            have HNO' : Hid _ := HNO
            have HBI1 : Hid (BIn wr pk1 xs1) := hbi1
            have HBI2 : Hid (BIn wr pk2 xs2) := hbi2
            have EK : Hid (∀ n, Calls Try.prog 47 #[.slice pk1 xs1.length ck1, .slice pk2 xs2.length ck2] ((wr.alloc (.cells #[.int .i64 s1, .slice pk1 xs1.length ck1] 51)).drewN n) fun e w' => e = .returned (.bool (decide (xs1 = xs2))) ∧ w' = (wr.alloc (.cells #[.int .i64 s1, .slice pk1 xs1.length ck1] 51)).drewN n) := fun n => equal_any _ _ _ _ _ _ _ (show BIn (wr.alloc _) _ _ from hbi1.alloc _) (show BIn (wr.alloc _) _ _ from hbi2.alloc _)
            clear HST HNO hbi1 hbi2 hq1 hq2
            have hk0 : (0 : Int) ≤ (k : Int) := by omega
            have hk2 : (k : Int) < (w2.length : Int) := by omega
            have hb2 := hbk.alloc (by omega) (.cells #[.int .i64 s1, .slice pk1 xs1.length ck1] 51)
            have R2 : Hid ((wr.alloc (.cells #[.int .i64 s1, .slice pk1 xs1.length ck1] 51)).cell? ⟨w.heap.size + 1, 2, none⟩ = some (.slice (some ⟨bq2, oq2, none⟩) w2.length m2)) := below_cell_some (below_alloc _ _) r2
            have F1 : Hid ((wr.alloc (.cells #[.int .i64 s1, .slice pk1 xs1.length ck1] 51)).cell? ⟨bq2, oq2 + k * 2, none⟩ = some (.int .i64 s2)) := below_cell_some (below_alloc _ _) f1
            have F2 : Hid ((wr.alloc (.cells #[.int .i64 s1, .slice pk1 xs1.length ck1] 51)).cell? ⟨bq2, oq2 + k * 2 + 1, none⟩ = some (.slice pk2 xs2.length ck2)) := below_cell_some (below_alloc _ _) f2
            have PC : Hid _ := put_cells (Below.refl _ (wr.alloc (.cells #[.int .i64 s1, .slice pk1 xs1.length ck1] 51)))
            by_cases gs : s1 = s2
            · have hsb : (s1 != s2) = false := by simpa using gs
              by_cases gx : xs1 = xs2
              · have HT2 : Hid (w1.take (k + 1) = w2.take (k + 1)) := HST'.out (by rw [gs, gx])
                rw [show decide (xs1 = xs2) = true from decide_eq_true gx] at EK
                clear gs gx
                go_wp2
                obtain ⟨W1, hW1⟩ : ∃ W1, W1 = wr.alloc (.cells #[.int .i64 s1, .slice pk1 xs1.length ck1] 51) := ⟨_, rfl⟩
                rw [← hW1] at EK hb2 R2 F1 F2 PC ⊢
                clear hW1
                have r2' := R2.out
                have f1' := F1.out
                have f2' := F2.out
                obtain ⟨pc0, pc1⟩ := PC.out
                clear r0 r1 r2 e1 e2 f1 f2
                go_quiet ((go_at_call 47; exact Calls.quiet_of_same (EK.out _)))
                go_wp2
                go_roundw
                case rel => exact ⟨k + 1, by omega, by go_num, HT2, below_drewN hb2 nq⟩
                case measure => simp [intOf]; omega
              · have hf : b = false := by
                  cases b with
                  | false => rfl
                  | true => exact absurd (HBB.out.1 rfl).2.2 (HNO'.out (fun h => gx (by simpa using congrArg Prod.snd h)))
                subst hf
                rw [show decide (xs1 = xs2) = false from decide_eq_false gx] at EK
                clear gs gx
                go_wp2
                obtain ⟨W1, hW1⟩ : ∃ W1, W1 = wr.alloc (.cells #[.int .i64 s1, .slice pk1 xs1.length ck1] 51) := ⟨_, rfl⟩
                rw [← hW1] at EK hb2 R2 F1 F2 PC ⊢
                clear hW1
                have r2' := R2.out
                have f1' := F1.out
                have f2' := F2.out
                obtain ⟨pc0, pc1⟩ := PC.out
                clear r0 r1 r2 e1 e2 f1 f2
                go_quiet ((go_at_call 47; exact Calls.quiet_of_same (EK.out _)))
                go_wp2
                go_ret
                exact ⟨rfl, box2_below (below_drewN hb2 nq)⟩
            · have hf : b = false := by
                cases b with
                | false => rfl
                | true => exact absurd (HBB.out.1 rfl).2.2 (HNO'.out (fun h => gs (by simpa using congrArg Prod.fst h)))
              have hsb : (s1 != s2) = true := by simpa using gs
              subst hf
              clear gs
              go_wp2
              obtain ⟨W1, hW1⟩ : ∃ W1, W1 = wr.alloc (.cells #[.int .i64 s1, .slice pk1 xs1.length ck1] 51) := ⟨_, rfl⟩
              rw [← hW1] at EK hb2 R2 F1 F2 PC ⊢
              clear hW1
              have r2' := R2.out
              have f1' := F1.out
              have f2' := F2.out
              obtain ⟨pc0, pc1⟩ := PC.out
              clear r0 r1 r2 e1 e2 f1 f2
              go_quiet (fail)
              go_wp2
              go_ret
              exact ⟨rfl, box2_below (below_drewN hb2 nq)⟩
          · obtain rfl : k = w1.length := by omega
            have ht : b = true := HBB.out.2 ⟨rfl, G2.out, same_all G3.out HT.out⟩
            subst ht
            go_wp2
            go_ret
            exact ⟨rfl, hbw⟩
      · have hf : b = false := by
          cases b with
          | false => rfl
          | true => exact absurd (HBB.out.1 rfl).2.2 (fun h => g3 (by rw [h]))
        have hne : ((w1.length : Int) != (w2.length : Int)) = true := by simp; omega
        have G2 : Hid (d1 = d2) := g2
        subst hf
        subst g1
        clear g2
        go_enter Try.func31, Try.ntmps31
        go_wp2_with (go_at_call 47; refine (EQ.out _ ((below_alloc _ _).alloc (by simp) _)).mono ?_; rintro e wx ⟨rfl, rfl⟩; rw [decide_eq_true G2.out])
        go_ret
        exact ⟨rfl, (below_alloc _ _).alloc (by simp) _⟩
    · have EQ : Hid (∀ wx, Below w.heap.size w wx → Calls Try.prog 47 #[.slice p1 d1.length k1, .slice p2 d2.length k2] wx fun e w' => e = .returned (.bool (decide (d1 = d2))) ∧ w' = wx) := fun wx h => equal_any _ _ _ _ _ _ _ (HB1.out.below h) (HB2.out.below h)
      have hf : b = false := by
        cases b with
        | false => rfl
        | true => exact absurd (HBB.out.1 rfl).2.1 g2
      have G2 : Hid (¬ d1 = d2) := g2
      subst hf
      subst g1
      clear g2
      go_enter Try.func31, Try.ntmps31
      go_wp2_with (go_at_call 47; refine (EQ.out _ ((below_alloc _ _).alloc (by simp) _)).mono ?_; rintro e wx ⟨rfl, rfl⟩; rw [decide_eq_false G2.out])
      go_ret
      exact ⟨rfl, (below_alloc _ _).alloc (by simp) _⟩
  · have hf : b = false := by
      cases b with
      | false => rfl
      | true => exact absurd (HBB.out.1 rfl).1 g1
    have hne : (c1 != c2) = true := by simpa using g1
    subst hf
    clear g1
    go_enter Try.func31, Try.ntmps31
    go_wp2
    go_ret
    exact ⟨rfl, (below_alloc _ _).alloc (by simp) _⟩
end Go.Proofs.Yteabacpalnamdaa
