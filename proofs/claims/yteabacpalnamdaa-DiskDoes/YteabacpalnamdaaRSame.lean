/-
  Contract of the document's own answer Same: whether two disks are the same.
-/
import Derived.Test.YteabacpalnamdaaRRead
import Derived.Deep.QuietTactic
import Derived.BigQuiet
namespace Go.Proofs.Yteabacpalnamdaa
open Go.RowKit Go.WideShapes

set_option maxHeartbeats 4000000 in
theorem rsame_any (v1 v2 : Value) (c1 c2 : Int) (d1 d2 : List Nat) (w1 w2 : Puts) (w : World) (h1 : DiskIn w v1 c1 d1 w1) (h2 : DiskIn w v2 c2 d2 w2) (b : Bool) (hb : b = true ↔ SameD c1 c2 d1 d2 w1 w2) :
    Calls Try.prog 25 #[v1, v2] w fun e w' => e = .returned (.bool b) ∧ Below w.heap.size w w' := by
  obtain ⟨p1, k1, q1, m1, rfl, hb1, _, _, _, hq1, hm1, hmm1, _⟩ := h1.parts
  obtain ⟨p2, k2, q2, m2, rfl, hb2, _, _, _, hq2, hm2, hmm2, _⟩ := h2.parts
  unfold maxLen at hmm1 hmm2
  have HBB : Hid _ := hb
  have HB1 : Hid (BIn w p1 d1) := hb1
  have HB2 : Hid (BIn w p2 d2) := hb2
  have HQ1 : Hid (PutsIn w q1 w1) := hq1
  have HQ2 : Hid (PutsIn w q2 w2) := hq2
  clear hb hb1 hb2 hq1 hq2 h1 h2
  by_cases g1 : c1 = c2
  · subst g1
    have cv1 := conv_bytes (HB1.out.below ((below_alloc w (.cells #[.int .i64 c1, .slice p1 d1.length k1, .slice q1 w1.length m1] 25)).alloc (by simp) (.cells #[.int .i64 c1, .slice p2 d2.length k2, .slice q2 w2.length m2] 25))) k1
    have cv2 := conv_bytes (HB2.out.below ((below_alloc w (.cells #[.int .i64 c1, .slice p1 d1.length k1, .slice q1 w1.length m1] 25)).alloc (by simp) (.cells #[.int .i64 c1, .slice p2 d2.length k2, .slice q2 w2.length m2] 25))) k2
    by_cases g2 : d1 = d2
    · subst g2
      by_cases g3 : w1.length = w2.length
      · have G3 : Hid (w1.length = w2.length) := g3
        have g3a : w1.length ≤ w2.length := by omega
        have g3b : w2.length ≤ w1.length := by omega
        have hneb : ((w1.length : Int) != (w2.length : Int)) = false := by simp; omega
        clear g3
        go_enter Try.func25, Try.ntmps25
        go_wp2
        clear cv1 cv2
        go_loopw [5] (fun i wr => ∃ k : Nat, k ≤ w1.length ∧ i = .int .i64 k ∧ Hid (w1.take k = w2.take k) ∧ Below (w.heap.size + 2) ((w.alloc (.cells #[.int .i64 c1, .slice p1 d1.length k1, .slice q1 w1.length m1] 25)).alloc (.cells #[.int .i64 c1, .slice p2 d1.length k2, .slice q2 w2.length m2] 25)) wr) (fun i _ => w1.length - (intOf i).toNat)
        case atStart => exact ⟨0, by omega, rfl, rfl, Below.refl _ _⟩
        case round =>
          obtain ⟨k, hk, rfl, HT, hbk⟩ := hrel
          obtain ⟨hx1, hx2⟩ := box2_cells hbk
          obtain ⟨r0, r1, r2⟩ := cells3 hx2
          obtain ⟨u0, u1, u2⟩ := cells3 hx1
          have hz := box2_size hbk
          have hbw := box2_below hbk
          clear hx1 hx2
          by_cases hkl : k < w1.length
          · have hq1 := HQ1.out.below hbw
            have hq2 := HQ2.out.below hbw
            obtain ⟨bq1, oq1, rfl⟩ := hq1.addr (by omega)
            obtain ⟨bq2, oq2, rfl⟩ := hq2.addr (by omega)
            obtain ⟨e1, pk1, ck1, e2, hbi1⟩ := hq1.at2 hkl
            obtain ⟨f1, pk2, ck2, f2, hbi2⟩ := hq2.at2 (show k < w2.length by omega)
            have HST := same_step (w1 := w1) (w2 := w2) hkl (show k < w2.length by omega) HT.out
            have HNO := same_not (w1 := w1) (w2 := w2) (k := k)
            generalize w1.getD k (0, []) = y1 at *
            generalize w2.getD k (0, []) = y2 at *
            obtain ⟨s1, xs1⟩ := y1
            obtain ⟨s2, xs2⟩ := y2
            simp only at e1 e2 f1 f2 hbi1 hbi2
            have HST' : Hid _ := HST
            have HNO' : Hid _ := HNO
            have cx1 := fun n => conv_at (w := wr.drewN n) (c := ck1) (show BIn (wr.drewN n) pk1 xs1 from hbi1) rfl
            have cx2 := fun n => conv_at (w := wr.drewN n) (c := ck2) (show BIn (wr.drewN n) pk2 xs2 from hbi2) rfl
            have HSE : Hid (((strOf xs1).toList == (strOf xs2).toList) = decide (xs1 = xs2)) := str_eq hbi1.2 hbi2.2
            clear HST HNO hbi1 hbi2 hq1 hq2
            have hk0 : (0 : Int) ≤ (k : Int) := by omega
            have hk1 : (k : Int) < (w1.length : Int) := by omega
            have hk2 : (k : Int) < (w2.length : Int) := by omega
            by_cases gs : s1 = s2
            · have hsb : (s1 != s2) = false := by simpa using gs
              by_cases gx : xs1 = xs2
              · have HT2 : Hid (w1.take (k + 1) = w2.take (k + 1)) := HST'.out (by rw [gs, gx])
                subst gx
                clear gs HST' HNO'
                go_wp2
                go_quiet (fail)
                go_wp2
                go_roundw
                case rel => exact ⟨k + 1, by omega, by go_num, HT2, below_drewN hbk nq⟩
                case measure => simp [intOf]; omega
              · have hf : b = false := by
                  cases b with
                  | false => rfl
                  | true => exact absurd (HBB.out.1 rfl).2.2 (HNO'.out (fun h => gx (by simpa using congrArg Prod.snd h)))
                subst hf
                have hne1 : ((strOf xs1).toList == (strOf xs2).toList) = false := by rw [HSE.out]; exact decide_eq_false gx
                have hne2 : ((strOf xs1).toList != (strOf xs2).toList) = true := by simpa [bne] using hne1
                clear gs gx
                go_wp2
                go_quiet (fail)
                go_wp2
                go_ret
                exact ⟨rfl, box2_below (below_drewN hbk nq)⟩
            · have hf : b = false := by
                cases b with
                | false => rfl
                | true => exact absurd (HBB.out.1 rfl).2.2 (HNO'.out (fun h => gs (by simpa using congrArg Prod.fst h)))
              have hsb : (s1 != s2) = true := by simpa using gs
              subst hf
              clear gs cx1 cx2
              go_wp2
              go_quiet (fail)
              go_wp2
              go_ret
              exact ⟨rfl, box2_below (below_drewN hbk nq)⟩
          · obtain rfl : k = w1.length := by omega
            have ht : b = true := HBB.out.2 ⟨rfl, rfl, same_all G3.out HT.out⟩
            subst ht
            go_wp2
            go_ret
            exact ⟨rfl, hbw⟩
      · have hf : b = false := by
          cases b with
          | false => rfl
          | true => exact absurd (HBB.out.1 rfl).2.2 (fun h => g3 (by rw [h]))
        have hne : ((w1.length : Int) != (w2.length : Int)) = true := by simp; omega
        subst hf
        go_enter Try.func25, Try.ntmps25
        go_wp2
        go_ret
        exact ⟨rfl, (below_alloc _ _).alloc (by simp) _⟩
    · have hf : b = false := by
        cases b with
        | false => rfl
        | true => exact absurd (HBB.out.1 rfl).2.1 g2
      have hne1 : ((strOf d1).toList == (strOf d2).toList) = false := by rw [str_eq HB1.out.2 HB2.out.2]; exact decide_eq_false g2
      have hne2 : ((strOf d1).toList != (strOf d2).toList) = true := by simpa [bne] using hne1
      subst hf
      clear g2
      go_enter Try.func25, Try.ntmps25
      go_wp2
      go_ret
      exact ⟨rfl, (below_alloc _ _).alloc (by simp) _⟩
  · have hf : b = false := by
      cases b with
      | false => rfl
      | true => exact absurd (HBB.out.1 rfl).1 g1
    have hne : (c1 != c2) = true := by simpa using g1
    subst hf
    clear g1
    go_enter Try.func25, Try.ntmps25
    go_wp2
    go_ret
    exact ⟨rfl, (below_alloc _ _).alloc (by simp) _⟩
end Go.Proofs.Yteabacpalnamdaa
