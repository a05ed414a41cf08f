/-
    The log is read, added to and emptied as the document says, act by act: any disk and record; they stay, and what is answered is new memory.
-/
import Derived.Test.YtnajjfdbmdjcbaaJ10
import Derived.Deep.QuietTactic
import Derived.BigQuiet
import Derived.Test.YtnajjfdbmdjcbaaJ11
import Derived.Test.YtnajjfdbmdjcbaaJ08
import Derived.Deep.RegionHeld3
import Derived.Deep.CutRange
import Derived.Test.YtnajjfdbmdjcbaaJ05
import Derived.SizedLaws
import Derived.Test.YtnajjfdbmdjcbaaRows
import Derived.WalkKit
import Derived.ProofKit
import Derived.OpenShut
import Derived.ShutString
import Derived.ChangeOld
import Derived.Below
namespace Go.Proofs.Ytnajjfdbmdjcbaa
open Go.RowKit Go.WideShapes

theorem begins_take (P : Acts) (k : Nat) (hk : k < P.length) : begins (P.take (k + 1)) = begins (P.take k) + if ((P.getD k (false, 0, [])).1 = false ∧ (P.getD k (false, 0, [])).2.2.getD 12 0 = 0) then 1 else 0 := by
  rw [take_succ_getD hk, begins_app]
  congr 1
  obtain ⟨f, s, x⟩ := P.getD k (false, 0, [])
  cases f with
  | true => rw [if_neg (by simp)]; rfl
  | false =>
    rw [begins_one s x _ rfl]
    by_cases h : x.getD 12 0 = 0
    · rw [if_pos h, if_pos ⟨rfl, h⟩]
    · rw [if_neg h, if_neg (fun hh => h hh.2)]
theorem begins_le (P : Acts) : begins P ≤ P.length := List.length_filter_le _ _
theorem lastK_le (P : Acts) : ∀ k, lastK P k ≤ k
  | 0 => Nat.le_refl _
  | k + 1 => by
    unfold lastK
    split
    · omega
    · have := lastK_le P k; omega
theorem ActsIn.get {w : World} {b o : Nat} {l : Acts} (h : ActsIn w (some ⟨b, o, none⟩) l) {k : Nat} (hk : k < l.length) : w.cell? ⟨b, o + k * 3, none⟩ = some (.bool (l.getD k (false, 0, [])).1) ∧ ∃ v, w.cell? ⟨b, o + k * 3 + 2, none⟩ = some v ∧ Row w v (l.getD k (false, 0, [])).2.2 := by
  obtain ⟨b', o', e, hc⟩ := h (by omega)
  simp only [Option.some.injEq, Addr.mk.injEq, and_true] at e
  obtain ⟨rfl, rfl⟩ := e
  obtain ⟨h0, _, v, h2, h3⟩ := hc k hk
  exact ⟨h0, v, by rw [Nat.add_assoc]; exact h2, h3⟩
set_option maxRecDepth 8000 in
set_option maxHeartbeats 2000000 in
theorem sure_any (q : Option Addr) (n c : Nat) (P : Acts) (w : World) (hn : n = P.length) (hl : ActsIn w q P) (hd : ∀ y ∈ P, y.1 = false → y.2.2.length = 128) (hN : (n : Int) ≤ 10000) :
    Calls Try.prog 34 #[.slice q n c] w fun e w' => e = .returned (.int .i64 (sureN P : Nat)) ∧ w' = w := by
  have HA : Hid (n = P.length ∧ ActsIn w q P ∧ ∀ y ∈ P, y.1 = false → y.2.2.length = 128) := ⟨hn, hl, hd⟩
  clear hn hl hd
  go_enter Try.func34, Try.ntmps34
  go_wp2
  go_loop [3, 4] (fun s i => ∃ k : Nat, k ≤ n ∧ i = .int .i64 k ∧ s = .int .i64 (lastK P k : Nat)) (fun _ i => n - (intOf i).toNat)
  case atStart => exact ⟨0, by omega, rfl, rfl⟩
  case round =>
    obtain ⟨k, hk, rfl, rfl⟩ := hrel
    by_cases hkn : k < n
    · have hkI : (k : Int) < (n : Int) := by omega
      obtain ⟨b, o, rfl⟩ := HA.out.2.1.addr (by have := HA.out.1; omega)
      obtain ⟨x0, _, _, _⟩ := HA.out.2.1.get (k := k) (by have := HA.out.1; omega)
      have HK : Hid (k < n ∧ lastK P (k + 1) = if (P.getD k (false, 0, [])).1 = true then k else lastK P k) := ⟨hkn, rfl⟩
      obtain ⟨lk, hlk⟩ : ∃ lk, lastK P k = lk := ⟨_, rfl⟩
      rw [hlk] at HK
      rw [hlk]
      obtain ⟨f, hf⟩ : ∃ f, (P.getD k (false, 0, [])).1 = f := ⟨_, rfl⟩
      rw [hf] at x0 HK
      clear hkn hf hlk
      cases f
      · go_wp2
        go_round
        case rel => exact ⟨k + 1, by have := HK.out; omega, by go_num, by rw [HK.out.2]; rfl⟩
        case measure => have := HK.out; simp [intOf]; omega
      · go_wp2
        go_round
        case rel => exact ⟨k + 1, by have := HK.out; omega, by go_num, by rw [HK.out.2]; rfl⟩
        case measure => have := HK.out; simp [intOf]; omega
    · obtain rfl : k = n := by omega
      have HLn : Hid (lastK P k = lastN P ∧ lastK P k ≤ k) := ⟨by unfold lastN; rw [HA.out.1], lastK_le P k⟩
      obtain ⟨L, hL⟩ : ∃ L, lastK P k = L := ⟨_, rfl⟩
      rw [hL] at HLn ⊢
      have hLk : (L : Int) ≤ (k : Int) := by have := HLn.out.2; omega
      clear hkn hk hL
      go_wp2
      go_loop [5, 6] (fun s i => ∃ j : Nat, j ≤ L ∧ i = .int .i64 j ∧ s = .int .i64 (begins (P.take j) : Nat)) (fun _ i => L - (intOf i).toNat)
      case atStart => exact ⟨0, by omega, rfl, rfl⟩
      case round =>
        obtain ⟨j, hj, rfl, rfl⟩ := hrel
        by_cases hjL : j < L
        · have hjI : (j : Int) < (L : Int) := by omega
          have hjk : (j : Int) < (k : Int) := by omega
          obtain ⟨b, o, rfl⟩ := HA.out.2.1.addr (by have := HA.out.1; omega)
          obtain ⟨x0, v, x2, hrow⟩ := HA.out.2.1.get (k := j) (by have := HA.out.1; omega)
          have hbt := begins_take P j (by have := HA.out.1; omega)
          have hle : begins (P.take j) ≤ j := Nat.le_trans (begins_le _) (List.length_take_le _ _)
          obtain ⟨y, hy⟩ : ∃ y, P.getD j (false, 0, []) = y := ⟨_, rfl⟩
          rw [hy] at x0 hrow hbt
          have hlen : y.1 = false → y.2.2.length = 128 := fun hf => HA.out.2.2 y (by rw [← hy, List.getD_eq_getElem?_getD, List.getElem?_eq_getElem (show j < P.length by have := HA.out.1; omega)]; exact List.getElem_mem _) hf
          have HBT : Hid (begins (P.take (j + 1)) = begins (P.take j) + if (y.1 = false ∧ y.2.2.getD 12 0 = 0) then 1 else 0) := hbt
          obtain ⟨bg, hbg⟩ : ∃ bg, begins (P.take j) = bg := ⟨_, rfl⟩
          rw [hbg] at HBT hle
          rw [hbg]
          obtain ⟨f, s, xs⟩ := y
          have HJ : Hid (j < L) := hjL
          have hbI : (bg : Int) ≤ 10000 := by omega
          clear hbt hy hbg hjL hle
          cases f
          · have hx := hlen rfl
            obtain ⟨p, cc, rfl, hbin, _, _, _⟩ := hrow.lies
            simp only at hx hbin x2
            obtain ⟨b2, o2, rfl, hc2⟩ := hbin.1 (by omega)
            have c12 := hc2 12 (by omega)
            rw [hx] at x2
            obtain ⟨z, hz⟩ : ∃ z, xs.getD 12 0 = z := ⟨_, rfl⟩
            simp only [hz] at HBT
            rw [hz] at c12
            clear hc2 hbin hrow hlen hx hz
            by_cases hz0 : z = 0
            · have g1 : ((z : Int) == 0) = true := by simp [hz0]
              have HZ : Hid (z = 0) := hz0
              clear hz0
              go_wp2
              go_round
              case rel => exact ⟨j + 1, by have := HJ.out; omega, by go_num, by rw [HBT.out, if_pos ⟨trivial, HZ.out⟩]; go_num⟩
              case measure => have := HJ.out; simp [intOf]; omega
            · have g1 : ((z : Int) == 0) = false := by simp; omega
              have HZ : Hid (z ≠ 0) := hz0
              clear hz0
              go_wp2
              go_round
              case rel => exact ⟨j + 1, by have := HJ.out; omega, by go_num, by rw [HBT.out, if_neg (fun hh => HZ.out hh.2)]; rfl⟩
              case measure => have := HJ.out; simp [intOf]; omega
          · clear hrow hlen x2
            go_wp2
            go_round
            case rel => exact ⟨j + 1, by have := HJ.out; omega, by go_num, by rw [HBT.out, if_neg (by simp)]; rfl⟩
            case measure => have := HJ.out; simp [intOf]; omega
        · obtain rfl : j = L := by omega
          go_wp2
          go_ret
          exact ⟨by unfold sureN; rw [← HLn.out.1]; rfl, rfl⟩
end Go.Proofs.Ytnajjfdbmdjcbaa
namespace Go.Proofs.Ytnajjfdbmdjcbaa
open Go.RowKit Go.WideShapes

set_option maxRecDepth 20000 in
set_option maxHeartbeats 4000000 in
theorem rsame_any (v1 v2 : Value) (c1 c2 : Int) (d1 d2 : List Nat) (w1 w2 : Puts) (w : World) (h1 : DiskIn w v1 c1 d1 w1) (h2 : DiskIn w v2 c2 d2 w2) (b : Bool) (hb : b = true ↔ SameD c1 c2 d1 d2 w1 w2) :
    Calls Try.prog 31 #[v1, v2] w fun e w' => e = .returned (.bool b) ∧ Below w.heap.size w w' := by
  obtain ⟨p1, k1, q1, m1, rfl, hb1, _, _, _, hq1, hm1, hmm1, _⟩ := h1.parts
  obtain ⟨p2, k2, q2, m2, rfl, hb2, _, _, _, hq2, hm2, hmm2, _⟩ := h2.parts
  unfold maxLen at hmm1 hmm2
  have HBB : Hid _ := hb
  have HB1 : Hid (BIn w p1 d1) := hb1
  have HB2 : Hid (BIn w p2 d2) := hb2
  have HQ1 : Hid (PutsIn w q1 w1) := hq1
  have HQ2 : Hid (PutsIn w q2 w2) := hq2
  clear hb hb1 hb2 hq1 hq2 h1 h2
  by_cases g1 : c1 = c2
  · subst g1
    have cv1 := conv_bytes (HB1.out.below ((below_alloc w (.cells #[.int .i64 c1, .slice p1 d1.length k1, .slice q1 w1.length m1] 25)).alloc (by simp) (.cells #[.int .i64 c1, .slice p2 d2.length k2, .slice q2 w2.length m2] 25))) k1
    have cv2 := conv_bytes (HB2.out.below ((below_alloc w (.cells #[.int .i64 c1, .slice p1 d1.length k1, .slice q1 w1.length m1] 25)).alloc (by simp) (.cells #[.int .i64 c1, .slice p2 d2.length k2, .slice q2 w2.length m2] 25))) k2
    by_cases g2 : d1 = d2
    · subst g2
      by_cases g3 : w1.length = w2.length
      · have G3 : Hid (w1.length = w2.length) := g3
        have g3a : w1.length ≤ w2.length := by omega
        have g3b : w2.length ≤ w1.length := by omega
        have hneb : ((w1.length : Int) != (w2.length : Int)) = false := by simp; omega
        clear g3
        go_enter Try.func31, Try.ntmps31
        go_wp2
        clear cv1 cv2
        go_loopw [5] (fun i wr => ∃ k : Nat, k ≤ w1.length ∧ i = .int .i64 k ∧ Hid (w1.take k = w2.take k) ∧ Below (w.heap.size + 2) ((w.alloc (.cells #[.int .i64 c1, .slice p1 d1.length k1, .slice q1 w1.length m1] 25)).alloc (.cells #[.int .i64 c1, .slice p2 d1.length k2, .slice q2 w2.length m2] 25)) wr) (fun i _ => w1.length - (intOf i).toNat)
        case atStart => exact ⟨0, by omega, rfl, rfl, Below.refl _ _⟩
        case round =>
          obtain ⟨k, hk, rfl, HT, hbk⟩ := hrel
          obtain ⟨hx1, hx2⟩ := box2_cells hbk
          obtain ⟨r0, r1, r2⟩ := cells3 hx2
          obtain ⟨u0, u1, u2⟩ := cells3 hx1
          have hz := box2_size hbk
          have hbw := box2_below hbk
          clear hx1 hx2
          by_cases hkl : k < w1.length
          · have hq1 := HQ1.out.below hbw
            have hq2 := HQ2.out.below hbw
            obtain ⟨bq1, oq1, rfl⟩ := hq1.addr (by omega)
            obtain ⟨bq2, oq2, rfl⟩ := hq2.addr (by omega)
            obtain ⟨e1, pk1, ck1, e2, hbi1⟩ := hq1.at2 hkl
            obtain ⟨f1, pk2, ck2, f2, hbi2⟩ := hq2.at2 (show k < w2.length by omega)
            have HST := same_step (w1 := w1) (w2 := w2) hkl (show k < w2.length by omega) HT.out
            have HNO := same_not (w1 := w1) (w2 := w2) (k := k)
            generalize w1.getD k (0, []) = y1 at *
            generalize w2.getD k (0, []) = y2 at *
            obtain ⟨s1, xs1⟩ := y1
            obtain ⟨s2, xs2⟩ := y2
            simp only at e1 e2 f1 f2 hbi1 hbi2
            have HST' : Hid _ := HST
            have HNO' : Hid _ := HNO
            have cx1 := fun n => conv_atD (w := wr.drewN n) (c := ck1) (show BIn (wr.drewN n) pk1 xs1 from hbi1) rfl
            have cx2 := fun n => conv_atD (w := wr.drewN n) (c := ck2) (show BIn (wr.drewN n) pk2 xs2 from hbi2) rfl
            have HSE : Hid (((strOf xs1).toList == (strOf xs2).toList) = decide (xs1 = xs2)) := str_eq hbi1.2 hbi2.2
            clear HST HNO hbi1 hbi2 hq1 hq2
            have hk0 : (0 : Int) ≤ (k : Int) := by omega
            have hk1 : (k : Int) < (w1.length : Int) := by omega
            have hk2 : (k : Int) < (w2.length : Int) := by omega
            by_cases gs : s1 = s2
            · have hsb : (s1 != s2) = false := by simpa using gs
              by_cases gx : xs1 = xs2
              · have HT2 : Hid (w1.take (k + 1) = w2.take (k + 1)) := HST'.out (by rw [gs, gx])
                subst gx
                clear gs HST' HNO'
                go_wp2
                go_quiet (fail)
                go_wp2
                go_roundw
                case rel => exact ⟨k + 1, by omega, by go_num, HT2, below_drewN hbk nq⟩
                case measure => simp [intOf]; omega
              · have hf : b = false := by
                  cases b with
                  | false => rfl
                  | true => exact absurd (HBB.out.1 rfl).2.2 (HNO'.out (fun h => gx (by simpa using congrArg Prod.snd h)))
                subst hf
                have hne1 : ((strOf xs1).toList == (strOf xs2).toList) = false := by rw [HSE.out]; exact decide_eq_false gx
                have hne2 : ((strOf xs1).toList != (strOf xs2).toList) = true := by simpa [bne] using hne1
                clear gs gx
                go_wp2
                go_quiet (fail)
                go_wp2
                go_ret
                exact ⟨rfl, box2_below (below_drewN hbk nq)⟩
            · have hf : b = false := by
                cases b with
                | false => rfl
                | true => exact absurd (HBB.out.1 rfl).2.2 (HNO'.out (fun h => gs (by simpa using congrArg Prod.fst h)))
              have hsb : (s1 != s2) = true := by simpa using gs
              subst hf
              clear gs cx1 cx2
              go_wp2
              go_quiet (fail)
              go_wp2
              go_ret
              exact ⟨rfl, box2_below (below_drewN hbk nq)⟩
          · obtain rfl : k = w1.length := by omega
            have ht : b = true := HBB.out.2 ⟨rfl, rfl, same_all G3.out HT.out⟩
            subst ht
            go_wp2
            go_ret
            exact ⟨rfl, hbw⟩
      · have hf : b = false := by
          cases b with
          | false => rfl
          | true => exact absurd (HBB.out.1 rfl).2.2 (fun h => g3 (by rw [h]))
        have hne : ((w1.length : Int) != (w2.length : Int)) = true := by simp; omega
        subst hf
        go_enter Try.func31, Try.ntmps31
        go_wp2
        go_ret
        exact ⟨rfl, (below_alloc _ _).alloc (by simp) _⟩
    · have hf : b = false := by
        cases b with
        | false => rfl
        | true => exact absurd (HBB.out.1 rfl).2.1 g2
      have hne1 : ((strOf d1).toList == (strOf d2).toList) = false := by rw [str_eq HB1.out.2 HB2.out.2]; exact decide_eq_false g2
      have hne2 : ((strOf d1).toList != (strOf d2).toList) = true := by simpa [bne] using hne1
      subst hf
      clear g2
      go_enter Try.func31, Try.ntmps31
      go_wp2
      go_ret
      exact ⟨rfl, (below_alloc _ _).alloc (by simp) _⟩
  · have hf : b = false := by
      cases b with
      | false => rfl
      | true => exact absurd (HBB.out.1 rfl).1 g1
    have hne : (c1 != c2) = true := by simpa using g1
    subst hf
    clear g1
    go_enter Try.func31, Try.ntmps31
    go_wp2
    go_ret
    exact ⟨rfl, (below_alloc _ _).alloc (by simp) _⟩
end Go.Proofs.Ytnajjfdbmdjcbaa
namespace Go.Proofs.Ytnajjfdbmdjcbaa
open Go.RowKit Go.WideShapes

theorem ActsIn.get3 {w : World} {b o : Nat} {l : Acts} (h : ActsIn w (some ⟨b, o, none⟩) l) {k : Nat} (hk : k < l.length) {y : Bool × Int × List Nat} (hy : l.getD k (false, 0, []) = y) : w.cell? ⟨b, o + k * 3, none⟩ = some (.bool y.1) ∧ w.cell? ⟨b, o + k * 3 + 1, none⟩ = some (.int .i64 y.2.1) ∧ ∃ p c, w.cell? ⟨b, o + k * 3 + 2, none⟩ = some (.slice p y.2.2.length c) ∧ BIn w p y.2.2 := by
  subst hy
  obtain ⟨b', o', e, hc⟩ := h (by omega)
  simp only [Option.some.injEq, Addr.mk.injEq, and_true] at e
  obtain ⟨rfl, rfl⟩ := e
  obtain ⟨h0, h1, v, h2, h3⟩ := hc k hk
  obtain ⟨p, c, hv, hb⟩ := h3.lies
  exact ⟨h0, by rw [Nat.add_assoc]; exact h1, p, c, by rw [Nat.add_assoc, ← hv]; exact h2, hb.1⟩
set_option maxRecDepth 8000 in
set_option maxHeartbeats 4000000 in
theorem rsameActs_yes (q1 q2 : Option Addr) (n c1 c2 : Nat) (L : Acts) (w : World) (hn : n = L.length) (h1 : ActsIn w q1 L) (h2 : ActsIn w q2 L) (hN : (n : Int) ≤ 10000) :
    Calls Try.prog 30 #[.slice q1 n c1, .slice q2 n c2] w fun e w' => e = .returned (.bool true) ∧ Below w.heap.size w w' := by
  have HL : Hid (n = L.length ∧ ActsIn w q1 L ∧ ActsIn w q2 L) := ⟨hn, h1, h2⟩
  clear hn h1 h2
  go_enter Try.func30, Try.ntmps30
  go_wp2
  go_loopw [5] (fun i wr => ∃ k : Nat, k ≤ n ∧ i = .int .i64 k ∧ ∃ j, wr = w.drewN j) (fun i _ => n - (intOf i).toNat)
  case atStart => exact ⟨0, by omega, rfl, 0, rfl⟩
  case round =>
    obtain ⟨k, hk, rfl, j, rfl⟩ := hrel
    by_cases hkn : k < n
    · have hkI : (k : Int) < (n : Int) := by omega
      have hk0 : (0 : Int) ≤ (k : Int) := by omega
      obtain ⟨ba, oa, rfl⟩ := HL.out.2.1.addr (by have := HL.out.1; omega)
      obtain ⟨bb, ob, rfl⟩ := HL.out.2.2.addr (by have := HL.out.1; omega)
      obtain ⟨y, hy⟩ : ∃ y, L.getD k (false, 0, []) = y := ⟨_, rfl⟩
      obtain ⟨a0, a1, pa, ca, a2, hbA⟩ := HL.out.2.1.get3 (k := k) (by have := HL.out.1; omega) hy
      obtain ⟨b0, b1, pb, cb, b2, hbB⟩ := HL.out.2.2.get3 (k := k) (by have := HL.out.1; omega) hy
      obtain ⟨f, s, xs⟩ := y
      simp only at a0 a1 a2 b0 b1 b2 hbA hbB
      have cx1 := fun i => conv_at (w := w.drewN i) (c := ca) (show BIn (w.drewN i) pa xs from hbA) rfl
      have cx2 := fun i => conv_at (w := w.drewN i) (c := cb) (show BIn (w.drewN i) pb xs from hbB) rfl
      have HK : Hid (k < n) := hkn
      clear hy hbA hbB hkn hk
      go_wp2
      go_quiet (fail)
      go_wp2
      go_roundw
      case rel => exact ⟨k + 1, by have := HK.out; omega, by go_num, _, rfl⟩
      case measure => have := HK.out; simp [intOf]; omega
    · go_wp2
      go_ret
      exact ⟨rfl, below_dr w j⟩
end Go.Proofs.Ytnajjfdbmdjcbaa
namespace Go.Proofs.Ytnajjfdbmdjcbaa
open Go.RowKit Go.WideShapes

attribute [local go_sem ↓] Go.wp_at_zero Go.wp_at_succ
set_option maxRecDepth 8000 in
set_option maxHeartbeats 16000000 in
theorem turns_main (v : Value) (count : Int) (data : List Nat) (ws : Puts) (r : ByteArray) (w : World) (hd : DiskIn w v count data ws) (hsz : ∀ y ∈ ws, y.2.length ≤ 140737488355328) (hlg : ¬ largeL count data ws) (hr : r.size ≤ 10000) :
    Calls Try.prog 5 #[v, .string r] w fun e w' => e = .returned (.bool true) ∧ Below w.heap.size w w' := by
  obtain ⟨p, c, q, m, rfl, _⟩ := hd.parts
  have HSZ : Hid (data.length ≤ 140737488355328 ∧ (∀ y ∈ ws, y.2.length ≤ 140737488355328) ∧ ws.length ≤ 100000) := ⟨by unfold largeL at hlg; omega, hsz, by unfold largeL at hlg; omega⟩
  have HCW : Hid ((Lit.int .i64 count).wf = true) := hd.count_wf
  have HPW : Hid (∀ y ∈ ws, (Lit.int .i64 y.1).wf = true) := hd.puts_wf
  have HD : Hid (DiskIn w (.agg #[.int .i64 count, .slice p data.length c, .slice q ws.length m]) count data ws) := hd
  have HLG : Hid (decide (largeL count data ws) = false) := decide_eq_false hlg
  have g0 : decide ((10000 : Int) < (r.size : Int)) = false := decide_eq_false (by omega)
  clear hd hlg hr hsz
  go_enter Try.func5, Try.ntmps5
  go_wp2_with fail
  refine (large5_any _ count data ws _ (HD.out.below (below_alloc w _))).mono ?_
  rintro e w1 ⟨rfl, hb1⟩
  rw [HLG.out]
  have HX1 : Hid (w1.heap[w.heap.size]? = some (.cells #[.int .i64 count, .slice p data.length c, .slice q ws.length m] 25 (0, 0))) := (hb1.block _ (by simp)).trans (heap_alloc_new w _)
  have HB1 : Hid (Below w.heap.size w w1) := below_bt (below_alloc w _) hb1
  clear hb1
  obtain ⟨c0, c1, c2, _⟩ := box3 HX1.out
  go_wp2_with fail
  refine (twin_any _ count data ws _ (HD.out.below HB1.out) HSZ.out.1 HSZ.out.2.1 HSZ.out.2.2).mono ?_
  rintro e w2 ⟨⟨vT, rfl, hvT⟩, hb2⟩
  have hnT := hvT.toIn HCW.out HPW.out
  obtain ⟨pT, cT, qT, mT, rfl, _⟩ := hnT.parts
  have HT2 : Hid (DiskIn w2 (.agg #[.int .i64 count, .slice pT data.length cT, .slice qT ws.length mT]) count data ws) := hnT
  have HX2 : Hid (w2.heap[w.heap.size]? = some (.cells #[.int .i64 count, .slice p data.length c, .slice q ws.length m] 25 (0, 0))) := (hb2.block _ (lt_heap HX1.out)).trans HX1.out
  have HB2 : Hid (Below w.heap.size w w2) := below_bt HB1.out hb2
  clear hb2 hnT hvT c0 c1 c2 g0
  go_wp2_with fail
  refine (Records_u (HT2.out.below (below_alloc _ _))).mono ?_
  rintro e w3 ⟨⟨q3, m3, er, L, A, X, la, t, rfl, hs3, hL3, hI⟩, hb3⟩
  have HO3 : Hid (w3.heap[w2.heap.size]? = some (.cells #[.int .i64 count, .slice pT data.length cT, .slice qT ws.length mT] 25 (0, 0))) := (hb3.block _ (by simp)).trans (heap_alloc_new w2 _)
  have HX3 : Hid (w3.heap[w.heap.size]? = some (.cells #[.int .i64 count, .slice p data.length c, .slice q ws.length m] 25 (0, 0))) := ((below_bt (below_alloc _ _) hb3).block _ (lt_heap HX2.out)).trans HX2.out
  have HC3 : Hid (Below w2.heap.size w2 w3) := below_bt (below_alloc _ _) hb3
  obtain ⟨nL, hnL⟩ : ∃ n, L.length = n := ⟨_, rfl⟩
  rw [hnL] at hL3 ⊢
  have HL : Hid (L.length = nL ∧ nL ≤ maxLen) := ⟨hnL, hL3⟩
  have HI : Hid (Inf count data ws er L A X la t) := hI
  have HS3 : Hid (StrsIn w3 q3 L) := hs3
  obtain ⟨A4, f4, h4⟩ : ∃ A4 f4, addA er A X la t r = (A4, f4) := ⟨_, _, rfl⟩
  obtain ⟨A5, f5, h5⟩ : ∃ A5 f5, clrA count data ws = (A5, f5) := ⟨_, _, rfl⟩
  obtain ⟨n4, hn4⟩ : ∃ n, A4.length = n := ⟨_, rfl⟩
  obtain ⟨n5, hn5⟩ : ∃ n, A5.length = n := ⟨_, rfl⟩
  have H4 : Hid (addA er A X la t r = (A4, f4) ∧ A4.length = n4 ∧ (n4 : Int) ≤ 10000) := ⟨h4, hn4, addA_few r h4 hn4⟩
  have H5 : Hid (clrA count data ws = (A5, f5) ∧ A5.length = n5 ∧ (n5 : Int) ≤ 10000) := ⟨h5, hn5, clrA_few h5 hn5⟩
  clear hb3 hs3 hL3 hI hnL h4 h5 hn4 hn5
  obtain ⟨c0, c1, c2, _⟩ := box3 HX3.out
  go_wp2_with fail
  refine (rRecords_u (HD.out.below (below_bt HB2.out HC3.out)) HI.out).mono ?_
  rintro e w4 ⟨⟨q4, m4, rfl, hs4⟩, hb4⟩
  have HO4 : Hid (w4.heap[w2.heap.size]? = some (.cells #[.int .i64 count, .slice pT data.length cT, .slice qT ws.length mT] 25 (0, 0))) := (hb4.block _ (lt_heap HO3.out)).trans HO3.out
  have HX4 : Hid (w4.heap[w.heap.size]? = some (.cells #[.int .i64 count, .slice p data.length c, .slice q ws.length m] 25 (0, 0))) := (hb4.block _ (lt_heap HX3.out)).trans HX3.out
  have HC4 : Hid (Below w2.heap.size w2 w4) := below_bt HC3.out hb4
  have HC34 : Hid (Below w3.heap.size w3 w4) := hb4
  rw [HL.out.1]
  have HS4 : Hid (StrsIn w4 q4 L) := hs4
  clear hb4 hs4 c0 c1 c2
  obtain ⟨c0, c1, c2, _⟩ := box3 HO4.out
  go_wp2_with fail
  refine (At_u (HT2.out.below HC4.out) HI.out).mono ?_
  rintro e w5 ⟨rfl, hb5⟩
  have HO5 : Hid (w5.heap[w2.heap.size]? = some (.cells #[.int .i64 count, .slice pT data.length cT, .slice qT ws.length mT] 25 (0, 0))) := (hb5.block _ (lt_heap HO4.out)).trans HO4.out
  have HX5 : Hid (w5.heap[w.heap.size]? = some (.cells #[.int .i64 count, .slice p data.length c, .slice q ws.length m] 25 (0, 0))) := (hb5.block _ (lt_heap HX4.out)).trans HX4.out
  have HC5 : Hid (Below w2.heap.size w2 w5) := below_bt HC4.out hb5
  have HC45 : Hid (Below w4.heap.size w4 w5) := hb5
  clear hb5  c0 c1 c2
  obtain ⟨c0, c1, c2, _⟩ := box3 HX5.out
  go_wp2_with fail
  refine (rAt_u (HD.out.below (below_bt HB2.out HC5.out)) HI.out).mono ?_
  rintro e w6 ⟨rfl, hb6⟩
  have HO6 : Hid (w6.heap[w2.heap.size]? = some (.cells #[.int .i64 count, .slice pT data.length cT, .slice qT ws.length mT] 25 (0, 0))) := (hb6.block _ (lt_heap HO5.out)).trans HO5.out
  have HX6 : Hid (w6.heap[w.heap.size]? = some (.cells #[.int .i64 count, .slice p data.length c, .slice q ws.length m] 25 (0, 0))) := (hb6.block _ (lt_heap HX5.out)).trans HX5.out
  have HC6 : Hid (Below w2.heap.size w2 w6) := below_bt HC5.out hb6
  have HC56 : Hid (Below w5.heap.size w5 w6) := hb6
  clear hb6  c0 c1 c2
  obtain ⟨c0, c1, c2, _⟩ := box3 HO6.out
  go_wp2_with fail
  refine (Epoch_u (HT2.out.below HC6.out) HI.out).mono ?_
  rintro e w7 ⟨rfl, hb7⟩
  have HO7 : Hid (w7.heap[w2.heap.size]? = some (.cells #[.int .i64 count, .slice pT data.length cT, .slice qT ws.length mT] 25 (0, 0))) := (hb7.block _ (lt_heap HO6.out)).trans HO6.out
  have HX7 : Hid (w7.heap[w.heap.size]? = some (.cells #[.int .i64 count, .slice p data.length c, .slice q ws.length m] 25 (0, 0))) := (hb7.block _ (lt_heap HX6.out)).trans HX6.out
  have HC7 : Hid (Below w2.heap.size w2 w7) := below_bt HC6.out hb7
  have HC67 : Hid (Below w6.heap.size w6 w7) := hb7
  clear hb7  c0 c1 c2
  obtain ⟨c0, c1, c2, _⟩ := box3 HX7.out
  go_wp2_with fail
  refine (rEpoch_u (HD.out.below (below_bt HB2.out HC7.out)) HI.out).mono ?_
  rintro e w8 ⟨rfl, hb8⟩
  have HO8 : Hid (w8.heap[w2.heap.size]? = some (.cells #[.int .i64 count, .slice pT data.length cT, .slice qT ws.length mT] 25 (0, 0))) := (hb8.block _ (lt_heap HO7.out)).trans HO7.out
  have HX8 : Hid (w8.heap[w.heap.size]? = some (.cells #[.int .i64 count, .slice p data.length c, .slice q ws.length m] 25 (0, 0))) := (hb8.block _ (lt_heap HX7.out)).trans HX7.out
  have HC8 : Hid (Below w2.heap.size w2 w8) := below_bt HC7.out hb8
  have HC48 : Hid (Below w4.heap.size w4 w8) := below_bt (below_bt (below_bt HC45.out HC56.out) HC67.out) hb8
  clear hb8  c0 c1 c2
  obtain ⟨c0, c1, c2, _⟩ := box3 HO8.out
  go_wp2_with fail
  refine (Add_q r (HT2.out.below HC8.out) HI.out H4.out.1 H4.out.2.1).mono ?_
  rintro e w9 ⟨⟨q9, m9, l9, rfl, ha9, hm9⟩, hb9⟩
  have HO9 : Hid (w9.heap[w2.heap.size]? = some (.cells #[.int .i64 count, .slice pT data.length cT, .slice qT ws.length mT] 25 (0, 0))) := (hb9.block _ (lt_heap HO8.out)).trans HO8.out
  have HX9 : Hid (w9.heap[w.heap.size]? = some (.cells #[.int .i64 count, .slice p data.length c, .slice q ws.length m] 25 (0, 0))) := (hb9.block _ (lt_heap HX8.out)).trans HX8.out
  have HC9 : Hid (Below w2.heap.size w2 w9) := below_bt HC8.out hb9
  have HA9 : Hid (AOwn w9 w8.heap.size (.slice q9 n4 m9) l9 ∧ l9.map Prod.fst = A4) := ⟨ha9, hm9⟩
  have HE9 : Hid (Below w8.heap.size w8 w9) := hb9
  clear hb9 ha9 hm9 c0 c1 c2
  obtain ⟨c0, c1, c2, _⟩ := box3 HX9.out
  go_wp2_with fail
  refine (rAdd_q r (HD.out.below (below_bt HB2.out HC9.out)) HI.out H4.out.1 H4.out.2.1).mono ?_
  rintro e w10 ⟨⟨q10, m10, rfl, ha10⟩, hb10⟩
  have HO10 : Hid (w10.heap[w2.heap.size]? = some (.cells #[.int .i64 count, .slice pT data.length cT, .slice qT ws.length mT] 25 (0, 0))) := (hb10.block _ (lt_heap HO9.out)).trans HO9.out
  have HX10 : Hid (w10.heap[w.heap.size]? = some (.cells #[.int .i64 count, .slice p data.length c, .slice q ws.length m] 25 (0, 0))) := (hb10.block _ (lt_heap HX9.out)).trans HX9.out
  have HC10 : Hid (Below w2.heap.size w2 w10) := below_bt HC9.out hb10
  have HA10 : Hid (ActsIn w10 q10 A4) := ha10
  have HE10 : Hid (Below w9.heap.size w9 w10) := hb10
  clear hb10 ha10 c0 c1 c2
  obtain ⟨c0, c1, c2, _⟩ := box3 HO10.out
  go_wp2_with fail
  refine (Clear_q (HT2.out.below HC10.out) H5.out.1 H5.out.2.1).mono ?_
  rintro e w11 ⟨⟨q11, m11, rfl, ha11⟩, hb11⟩
  have HO11 : Hid (w11.heap[w2.heap.size]? = some (.cells #[.int .i64 count, .slice pT data.length cT, .slice qT ws.length mT] 25 (0, 0))) := (hb11.block _ (lt_heap HO10.out)).trans HO10.out
  have HX11 : Hid (w11.heap[w.heap.size]? = some (.cells #[.int .i64 count, .slice p data.length c, .slice q ws.length m] 25 (0, 0))) := (hb11.block _ (lt_heap HX10.out)).trans HX10.out
  have HC11 : Hid (Below w2.heap.size w2 w11) := below_bt HC10.out hb11
  have HA11 : Hid (ActsIn w11 q11 A5) := ha11
  have HE11 : Hid (Below w10.heap.size w10 w11) := hb11
  clear hb11 ha11 c0 c1 c2
  obtain ⟨c0, c1, c2, _⟩ := box3 HX11.out
  go_wp2_with fail
  refine (rClear_q (HD.out.below (below_bt HB2.out HC11.out)) H5.out.1 H5.out.2.1).mono ?_
  rintro e w12 ⟨⟨q12, m12, rfl, ha12⟩, hb12⟩
  have HO12 : Hid (w12.heap[w2.heap.size]? = some (.cells #[.int .i64 count, .slice pT data.length cT, .slice qT ws.length mT] 25 (0, 0))) := (hb12.block _ (lt_heap HO11.out)).trans HO11.out
  have HX12 : Hid (w12.heap[w.heap.size]? = some (.cells #[.int .i64 count, .slice p data.length c, .slice q ws.length m] 25 (0, 0))) := (hb12.block _ (lt_heap HX11.out)).trans HX11.out
  have HC12 : Hid (Below w2.heap.size w2 w12) := below_bt HC11.out hb12
  have HA12 : Hid (ActsIn w12 q12 A5) := ha12
  have HE12 : Hid (Below w11.heap.size w11 w12) := hb12
  clear hb12 ha12 c0 c1 c2
  have HS34 : Hid (StrsIn w12 q3 L ∧ StrsIn w12 q4 L) := by
    have b9 := below_bt HC48.out HE9.out
    have b12 := below_bt (below_bt (below_bt b9 HE10.out) HE11.out) HE12.out
    exact ⟨HS3.out.below (below_bt HC34.out b12), HS4.out.below b12⟩
  have hb912 := below_bt (below_bt HE10.out HE11.out) HE12.out
  have HTX : Hid (∀ w', Below w12.heap.size w12 w' → Calls Try.prog 29 #[.slice q3 nL m3, .slice q4 nL m4] w' fun e w2 => e = .returned (.bool true) ∧ Below w'.heap.size w' w2) := fun w' hb => texts_any q3 q4 nL nL m3 m4 L L w' HL.out.1.symm HL.out.1.symm HL.out.2 (HS34.out.1.below hb) (HS34.out.2.below hb) true (by simp)
  have HSA : Hid (∀ w', Below w12.heap.size w12 w' → Calls Try.prog 30 #[.slice q9 n4 m9, .slice q10 n4 m10] w' fun e w2 => e = .returned (.bool true) ∧ Below w'.heap.size w' w2) := fun w' hb => rsameActs_yes q9 q10 n4 m9 m10 A4 w' H4.out.2.1.symm (HA9.out.2 ▸ (HA9.out.1.below (below_bt hb912 hb)).lies.2.1) (HA10.out.below (below_bt (below_bt HE11.out HE12.out) hb)) H4.out.2.2
  have HSB : Hid (∀ w', Below w12.heap.size w12 w' → Calls Try.prog 30 #[.slice q11 n5 m11, .slice q12 n5 m12] w' fun e w2 => e = .returned (.bool true) ∧ Below w'.heap.size w' w2) := fun w' hb => rsameActs_yes q11 q12 n5 m11 m12 A5 w' H5.out.2.1.symm (HA11.out.below (below_bt HE12.out hb)) (HA12.out.below hb) H5.out.2.2
  have HAO : Hid (AOwn w12 w8.heap.size (.slice q9 n4 m9) l9 ∧ Below w8.heap.size w8 w12) := ⟨HA9.out.1.below hb912, below_bt HE9.out hb912⟩
  have HDS : Hid (DiskIn w8 (.agg #[.int .i64 count, .slice pT data.length cT, .slice qT ws.length mT]) count data ws ∧ DiskIn w8 (.agg #[.int .i64 count, .slice p data.length c, .slice q ws.length m]) count data ws ∧ w8.heap[w2.heap.size]? = some (.cells #[.int .i64 count, .slice pT data.length cT, .slice qT ws.length mT] 25 (0, 0)) ∧ w8.heap[w.heap.size]? = some (.cells #[.int .i64 count, .slice p data.length c, .slice q ws.length m] 25 (0, 0)) ∧ Below w.heap.size w w8) := ⟨HT2.out.below HC8.out, HD.out.below (below_bt HB2.out HC8.out), HO8.out, HX8.out, below_bt HB2.out HC8.out⟩
  have HN4 : Hid (n4 = A4.length ∧ (n4 : Int) ≤ 10000 ∧ n4 ≤ m9) := ⟨H4.out.2.1.symm, H4.out.2.2, by have := HA9.out.1.lies; omega⟩
  clear hb912 HS34 HS3 HS4 HA9 HA10 HA11 HA12 HE9 HE10 HE11 HE12 HC48 HC45 HC56 HC67 HC34 HL HI H4 H5 HT2 HD HB2 HB1 HX1 HX2 HCW HPW HSZ HLG HO3 HO4 HO5 HO6 HO7 HO8 HO9 HO10 HO11 HO12 HX3 HX4 HX5 HX6 HX7 HX8 HX9 HX10 HX11 HX12 HC3 HC4 HC5 HC6 HC7 HC8 HC9 HC10 HC11 HC12
  go_wp2_with fail
  refine (HTX.out _ (Below.refl _ _)).mono ?_
  rintro e wa ⟨rfl, hba⟩
  have HBa : Hid (Below w12.heap.size w12 wa) := hba
  clear hba
  go_wp2_with fail
  refine (HSA.out _ HBa.out).mono ?_
  rintro e wb ⟨rfl, hbb⟩
  have HBb : Hid (Below w12.heap.size w12 wb) := below_bt HBa.out hbb
  clear hbb
  go_wp2_with fail
  refine (HSB.out _ HBb.out).mono ?_
  rintro e wc ⟨rfl, hbc⟩
  have HBE : Hid (Below w12.heap.size w12 wc) := below_bt HBb.out hbc
  clear hbc HTX HSA HSB HBa HBb
  obtain ⟨ds, hds, htj⟩ := tj_of (HAO.out.1.below HBE.out) (below_bt HAO.out.2 HBE.out)
  have HTJ : Hid (TJ w8 w8.heap.size q9 ds _) := htj
  have HDN : Hid (n4 = ds.length) := hds
  have hn4 : (n4 : Int) ≤ 10000 := HN4.out.2.1
  have hm9 : (n4 : Int) ≤ (m9 : Int) := by have := HN4.out.2.2; omega
  clear htj hds HAO HBE HN4
  go_wp2
  go_loopw [26] (fun i wr => ∃ k : Nat, k ≤ n4 ∧ i = .int .i64 k ∧ TJ w8 w8.heap.size q9 ds wr) (fun i _ => n4 - (intOf i).toNat)
  case atStart => exact ⟨0, by omega, rfl, HTJ.out⟩
  case round =>
    obtain ⟨k, hk, rfl, hj⟩ := hrel
    by_cases hkl : k < n4
    · have HJ : Hid _ := hj
      have hk0 : (0 : Int) ≤ (k : Int) := by omega
      have hk1 : (k : Int) < (n4 : Int) := by omega
      have kw0 : IntKind.i64.wrap (k : Int) = (k : Int) := by rw [IntKind.wrap_i64]; omega
      obtain ⟨g, cs0, e9, _, _⟩ := hj.row (by have := HDN.out; omega)
      subst e9
      clear hj
      go_wp2
      go_loopw [27] (fun i wr => ∃ j : Nat, j ≤ 128 ∧ i = .int .i64 j ∧ TJ w8 w8.heap.size (some ⟨g, 0, none⟩) ds wr) (fun i _ => 128 - (intOf i).toNat)
      case atStart => exact ⟨0, by omega, rfl, HJ.out⟩
      case round =>
        obtain ⟨j, hjl, rfl, hj⟩ := hrel
        obtain ⟨g', cs', e', hg', hrow'⟩ := hj.row (by have := HDN.out; omega)
        simp only [Option.some.injEq, Addr.mk.injEq, and_true] at e'
        subst e'
        have hsl := hrow' k (by have := HDN.out; omega)
        have r1 := cell_of_row wr g (k * 3 + 2) _ _ _ hg'
        rw [hsl] at r1
        have rf := frozen_of_row wr g (k * 3 + 2) _ _ hg'
        have jw0 : IntKind.i64.wrap (j : Int) = (j : Int) := by rw [IntKind.wrap_i64]; omega
        cases hdv : ds.getD k none with
        | none =>
          rw [hdv] at r1
          unfold dvO at r1
          have HJ3 : Hid _ := hj
          have hj9 : decide ((j : Int) < 0) = false := decide_eq_false (by omega)
          clear hj hrow' hg' hsl
          go_wp2
          go_roundw
          case rel => exact ⟨k + 1, by omega, by go_num, HJ3.out⟩
          case measure => simp [intOf]; omega
        | some gd =>
          rw [hdv] at r1
          unfold dvO at r1
          have hmem : some gd ∈ ds := by
            have hkd : k < ds.length := by have := HDN.out; omega
            rw [← hdv, List.getD_eq_getElem?_getD, List.getElem?_eq_getElem hkd]
            exact List.getElem_mem _
          by_cases hj8 : j < 128
          · obtain ⟨hgb, cs, hg, hn, hc⟩ := hj.rows gd hmem
            obtain ⟨xx, hx⟩ := hc j (by omega)
            have hcell := cell_of_row wr gd j _ _ _ hg
            rw [hx] at hcell
            have hf := frozen_of_row wr gd j _ _ hg
            have HJ2 : Hid _ := hj.set hmem j 77
            have hj0 : (0 : Int) ≤ (j : Int) := by omega
            have hj1 : (j : Int) < 128 := by omega
            clear hj hg hc hx hrow' hg' hsl hdv hmem
            go_wp2
            go_roundw
            case rel => exact ⟨j + 1, by omega, by go_num, HJ2.out⟩
            case measure => simp [intOf]; omega
          · obtain rfl : j = 128 := by omega
            have HJ3 : Hid _ := hj
            clear hj hrow' hg' hsl hdv hmem
            go_wp2
            go_roundw
            case rel => exact ⟨k + 1, by omega, by go_num, HJ3.out⟩
            case measure => simp [intOf]; omega
    · obtain rfl : k = n4 := by omega
      have HBL : Hid (Below w8.heap.size w8 wr) := hj.bel
      have hx := (HBL.out.block _ (lt_heap HDS.out.2.2.2.1)).trans HDS.out.2.2.2.1
      have ho := (HBL.out.block _ (lt_heap HDS.out.2.2.1)).trans HDS.out.2.2.1
      obtain ⟨c0, c1, c2, _⟩ := box3 hx
      obtain ⟨d0, d1, d2, _⟩ := box3 ho
      have HSM := rsame_any _ _ count count data data ws ws wr (HDS.out.1.below HBL.out) (HDS.out.2.1.below HBL.out) true ⟨fun _ => ⟨rfl, rfl, rfl⟩, fun _ => rfl⟩
      clear hj hx ho
      go_wp2_with fail
      refine HSM.mono ?_
      rintro e wz ⟨rfl, hbz⟩
      have HBZ : Hid (Below w.heap.size w wz) := below_bt (below_bt HDS.out.2.2.2.2 HBL.out) hbz
      clear hbz HSM
      go_wp2
      go_ret
      exact ⟨rfl, HBZ.out⟩
end Go.Proofs.Ytnajjfdbmdjcbaa
namespace Go.Proofs.Ytnajjfdbmdjcbaa
open Go.RowKit Go.WideShapes Go.ChangeShapes Go.Deep Go.Joins

section
variable {P : Program} {w : World} {H : Type} {enc : TypeId × Value → H}
theorem open_bytes_sized {t e : TypeId} {n : Nat} {v : Value} {x : DataW H × List MemPlace} (ht : P.underlying t = some (.slice e)) (he : P.underlying e = some (.int .u8)) (hc : P.cellsOf e = 1) (hby : P.bytesOf e = 1)
    (h : DataW.trod enc P w 0 (fun _ => true) true n t [v] = some x) (hw : ∀ k ∈ x.1.weights P t, k ≤ reachBytes) : ∃ xs, Row w v xs ∧ xs.length ≤ reachBytes := by
  obtain ⟨xs, hx⟩ := open_bytes ht he hc h
  refine ⟨xs, hx, ?_⟩
  obtain ⟨p, c, rfl, _⟩ := hx.lies
  rcases open_ints ht he hc h with ⟨hcs, _⟩ | ⟨a, len, cap, zs, hcs, _, hl, hm, hz, rfl, hcell, hwz⟩
  · simp only [List.cons.injEq, Value.slice.injEq, and_true] at hcs
    rw [hcs.2.1]; exact Nat.zero_le _
  · simp only [List.cons.injEq, Value.slice.injEq, and_true] at hcs
    have := hw (((lits .u8 (zs.take len) : List (DataW H)).length + (lits .u8 (zs.drop len) : List (DataW H)).length) * P.bytesOf e) (by simp [DataW.weights, ht])
    rw [hby] at this
    have hz' : zs.length = cap := by simpa using hz
    simp only [lits, List.length_map, List.length_take, List.length_drop] at this
    omega
theorem weightsAll_mem {e : TypeId} {l : List (DataW H)} {d : DataW H} (hd : d ∈ l) {k : Nat} (hk : k ∈ d.weights P e) : k ∈ DataW.weightsAll P e l := by
  induction l with
  | nil => cases hd
  | cons a l ih =>
    simp only [DataW.weightsAll, List.mem_append]
    rcases List.mem_cons.1 hd with rfl | h
    · exact .inl hk
    · exact .inr (ih h)
theorem puts_sized {t e tb eb : TypeId} {f0 f1 : Field} {n : Nat} {v : Value} {x : DataW H × List MemPlace} (ht : P.underlying t = some (.slice e)) (he : P.underlying e = some (.struct #[f0, f1])) (ce : P.cellsOf e = 2) (o0 : f0.offset = 0) (o1 : f1.offset = 1)
    (c0 : P.cellsOf f0.type = 1) (c1 : P.cellsOf f1.type = 1) (k1 : f1.type = tb) (hb : P.underlying tb = some (.slice eb)) (heb : P.underlying eb = some (.int .u8)) (hceb : P.cellsOf eb = 1) (hby : P.bytesOf eb = 1)
    (h : DataW.trod enc P w 0 (fun _ => true) true n t [v] = some x) (hw : ∀ k ∈ x.1.weights P t, k ≤ reachBytes) {q : Option Addr} {c : Nat} {ws : List (Int × List Nat)} (hv : v = .slice q ws.length c) (hp : PutsIn w q ws) : ∀ y ∈ ws, y.2.length ≤ reachBytes := by
  subst k1
  subst hv
  rcases open_slice_pairs ht he ce o0 o1 c0 c1 h with ⟨hcs, _⟩ | ⟨a, len, cap, m, k, V0, V1, D0, D1, P0, P1, hcs, _, hl, hm, hmm, rfl, hel⟩
  · simp only [List.cons.injEq, Value.slice.injEq, and_true] at hcs
    intro y hy
    obtain rfl : ws = [] := List.eq_nil_of_length_eq_zero hcs.2.1
    cases hy
  · simp only [List.cons.injEq, Value.slice.injEq, and_true] at hcs
    obtain ⟨rfl, hlen, rfl⟩ := hcs
    have hmc : m = c := by simpa using hmm
    intro y hy
    obtain ⟨i, hi, rfl⟩ := List.getElem_of_mem hy
    obtain ⟨b, o, e1, hc⟩ := hp (by omega)
    simp only [Option.some.injEq] at e1
    subst e1
    obtain ⟨_, g1, _, t1⟩ := hel i (by omega)
    obtain ⟨_, vv, g2, hr⟩ := hc i hi
    rw [add_plain] at g1
    rw [g1] at g2
    simp only [Option.some.injEq] at g2
    subst g2
    obtain ⟨xs, hx, hxl⟩ := open_bytes_sized hb heb hceb hby t1 (fun k' hk' => hw k' (by
      simp only [DataW.weights, ht, List.mem_cons, List.mem_append]
      refine .inr (.inl (weightsAll_mem (d := .agg [D0 i, D1 i]) (List.mem_map.2 ⟨i, List.mem_range.2 (by omega), rfl⟩) ?_))
      simp only [DataW.weights, he]
      simp only [List.map_cons, List.map_nil, DataW.weightsEach, List.mem_append]
      exact .inr (.inl hk')))
    obtain ⟨p1, c1', e1, _⟩ := hr.lies
    obtain ⟨p2, c2', e2, _⟩ := hx.lies
    rw [e1] at e2
    simp only [Value.slice.injEq] at e2
    have e3 : ws.getD i (0, []) = ws[i] := by simp [List.getD, List.getElem?_eq_getElem hi]
    rw [e3] at e2
    omega
theorem open_disk_sized {tD t e tb eb : TypeId} {d0 d1 d2 f0 f1 : Field} {r : Reach} {b0 : Nat} {v : Value} {d : DataW H} {p : List MemPlace}
    (hD : P.underlying tD = some (.struct #[d0, d1, d2])) (hone : oneCellFields P #[d0, d1, d2] = true) (hC : P.cellsOf tD = 3)
    (kd0 : P.underlying d0.type = some (.int .i64)) (kd1 : d1.type = tb) (kd2 : d2.type = t)
    (ht : P.underlying t = some (.slice e)) (he : P.underlying e = some (.struct #[f0, f1])) (ce : P.cellsOf e = 2) (o0 : f0.offset = 0) (o1 : f1.offset = 1)
    (c0 : P.cellsOf f0.type = 1) (c1 : P.cellsOf f1.type = 1) (k0 : P.underlying f0.type = some (.int .i64)) (k1 : f1.type = tb) (hb : P.underlying tb = some (.slice eb)) (heb : P.underlying eb = some (.int .u8)) (hceb : P.cellsOf eb = 1) (hby : P.bytesOf eb = 1)
    (hv : Value.okWide P w r b0 tD v) (h : DataW.Trod enc P w 0 (fun _ => true) true tD v d p) (hw : ∀ k ∈ d.weights P tD, k ≤ reachBytes) : ∃ count data ws, DiskIn w v count data ws ∧ ∀ y ∈ ws, y.2.length ≤ reachBytes := by
  obtain ⟨v0, v1, v2, y0, y1, y2, n, rfl, rfl, _, h0, h1, h2⟩ := open_agg3 hD hone hC hv h
  obtain ⟨z, hz, _, wz⟩ := DataW.trod_int kd0 h0
  simp only [List.cons.injEq, and_true] at hz
  subst hz
  rw [kd1] at h1
  rw [kd2] at h2
  obtain ⟨xs, hx⟩ := open_bytes hb heb hceb h1
  obtain ⟨q, ws, c, hv2, g1, g2, g3, g4, g5⟩ := open_puts ht he ce o0 o1 c0 c1 k0 k1 hb heb hceb h2
  refine ⟨z, xs, ws, ⟨⟨v1, q, c, by rw [hv2], hx, g1, g2, g3, g4⟩, wz, g5⟩, ?_⟩
  refine puts_sized ht he ce o0 o1 c0 c1 k1 hb heb hceb hby h2 (fun k hk => hw k ?_) hv2 g1
  simp only [DataW.weights, hD]
  simp only [List.map_cons, List.map_nil, DataW.weightsEach, List.mem_append]
  exact .inr (.inr (.inl (by rw [kd2]; exact hk)))
end
end Go.Proofs.Ytnajjfdbmdjcbaa
namespace Go.Proofs.Ytnajjfdbmdjcbaa.logTurns
open Go.ChangeShapes Go.WideShapes Go.ChangeAt Go.RowKit
open Go.ChangeMaps (open_string shut_string)
set_option linter.unusedVariables false

theorem own : ownKnob Try.prog.godebug = none := by kernel_rfl
theorem laidOut : laidOutB Try.prog = true := by kernel_rfl

open Go.Joins
set_option maxRecDepth 8000 in
set_option maxHeartbeats 1000000 in
theorem walk (v : Value) (count : Int) (data : List Nat) (ws : Puts) (r : ByteArray) (w : World) (hd : DiskIn w v count data ws) (hsz : ∀ y ∈ ws, y.2.length ≤ reachBytes) (wr : r.size ≤ maxLen) :
    Calls Try.prog 5 #[v, .string r] w fun e w' => e = .returned (.bool true) ∧ Below w.heap.size w w' := by
  by_cases h1 : largeL count data ws
  · have HD : Hid (DiskIn w v count data ws) := hd
    obtain ⟨p, c, q, m, rfl, _⟩ := hd.parts
    have HLG : Hid (decide (largeL count data ws) = true) := decide_eq_true h1
    clear h1 hd hsz
    go_enter Try.func5, Try.ntmps5
    go_wp2_with fail
    refine (large5_any _ count data ws _ (HD.out.below (below_alloc w _))).mono ?_
    rintro e w2 ⟨rfl, hb2⟩
    rw [HLG.out]
    have HB2 : Hid (Below w.heap.size w w2) := below_bt (below_alloc w _) hb2
    clear hb2
    go_wp2
    go_ret
    exact ⟨rfl, HB2.out⟩
  · by_cases h2 : 10000 < r.size
    · have HD : Hid (DiskIn w v count data ws) := hd
      obtain ⟨p, c, q, m, rfl, _⟩ := hd.parts
      have HLG : Hid (decide (largeL count data ws) = false) := decide_eq_false h1
      have g0 : decide ((10000 : Int) < (r.size : Int)) = true := decide_eq_true (by omega)
      clear h1 hd h2 hsz
      go_enter Try.func5, Try.ntmps5
      go_wp2_with fail
      refine (large5_any _ count data ws _ (HD.out.below (below_alloc w _))).mono ?_
      rintro e w2 ⟨rfl, hb2⟩
      rw [HLG.out]
      have HB2 : Hid (Below w.heap.size w w2) := below_bt (below_alloc w _) hb2
      clear hb2
      go_wp2
      go_ret
      exact ⟨rfl, HB2.out⟩
    · exact turns_main v count data ws r w hd (fun y hy => Nat.le_trans (hsz y hy) (by decide)) h1 (by omega)

/-! ### THE ROW's STEP -/
set_option maxRecDepth 100000 in
theorem lifted (os : Os) (started : os.Started) (H : Type) (enc : TypeId × Value → H) :
    ReturnsInHanded {} Try.checked os 5 .any (Rows.logTurnsSpec.pre6 enc Try.prog Try.f5 Rows.logTurnsRow.domain false) (Rows.logTurnsSpec.post enc Try.prog Try.f5 false true false false) := by
  refine returnsInHanded_of_change_sized (C := Try.checked) own started (by kernel_rfl) Try.func5
    (ChangeSpec.witness6 (enc := enc) (C := Try.checked) false ⟨#[], #[.agg #[.int .i64 0, .slice none 0 0, .slice none 0 0], .string ByteArray.empty], []⟩ 8 (by kernel_rfl) (by kernel_rfl) (by kernel_rfl) (by kernel_rfl)) ?_
  intro W base args ds gs before hval0 hW hcnd hsz0 _
  have hval : ∀ (j : Nat) t v, Try.f5.params[j]? = some t → args[j]? = some v → Value.okWide Try.prog W .any base t v := hval0
  have hW' := hW
  obtain ⟨p, q, hA0, hV, rfl, hfz, hnd⟩ := hW
  have hA : DataW.TrodAll enc Try.prog W 0 (fun _ => true) true Try.f5.params.toList args.toList ds p := hA0
  have hsz : (DataW.weightsEach Try.prog (Try.f5.params.toList ++ Rows.logTurnsSpec.plain.varTypes Try.prog) (ds ++ gs)).all (· ≤ reachBytes) = true := hsz0
  rw [Try.params5] at hA hval hsz
  obtain ⟨v0, vs0, d0, ds0, p0, q0, hargs, rfl, rfl, h0, r0⟩ := trodAll_cons hA
  obtain ⟨v1, vs1, d1, ds1, p1, q1, rfl, rfl, rfl, h1, r1⟩ := trodAll_cons r0
  obtain ⟨rfl, rfl, rfl⟩ := trodAll_nil r1
  obtain rfl : args = #[v0, v1] := by cases args; simp_all
  obtain ⟨rfl, rfl⟩ := trodVars_none hV
  have k0 := h0
  have lt0 : ∀ x ∈ p0, x.block < W.heap.size := by obtain ⟨m, hm⟩ := k0; exact DataW.trod_lt m _ _ _ hm
  obtain ⟨count0, data0, ws0, w0, z0⟩ := open_disk_sized (tD := 25) (t := 23) (e := 41) (tb := 22) (eb := 5) Try.underlying25 (by kernel_rfl) (by kernel_rfl) Try.underlying3 rfl rfl Try.underlying23 Try.underlying41 (by kernel_rfl) rfl rfl (by kernel_rfl) (by kernel_rfl) Try.underlying3 rfl Try.underlying22 Try.underlying5 (by kernel_rfl) (by kernel_rfl) (hval 0 25 v0 rfl rfl) h0 (fun k hk => by simpa using List.all_eq_true.1 hsz k (DataW.weights_mem_each (j := 0) (t := 25) rfl rfl k hk))
  obtain ⟨a1, rfl, rfl, rfl, w1⟩ := open_string Try.underlying9 (hval 1 9 v1 rfl rfl) h1
  clear hA0 hval0
  refine (walk v0 count0 data0 ws0 a1 W w0 z0 w1).mono fun e W' ⟨he, bel⟩ => ?_
  subst he
  exact ⟨_, rfl, _, _, _, [], _, [], hW', trodAll_mk1 (shut_bool Try.underlying4 _), (trodAll_cons_mk (Below.trod laidOut (by kernel_rfl) (of_decide_eq_true (by kernel_rfl)) k0 bel lt0) (trodAll_cons_mk (shut_string Try.underlying9 w1) trodAll_mk0)), rfl, bel.frame _, fun h => by cases h⟩

theorem over : Rows.logTurnsRow.holds Try.pinned (OpenSpec.ofChange Rows.logTurnsSpec) :=
  OpenClaim.holds_of_wide 5 Try.f5 rfl rfl rfl rfl rfl rfl rfl ⟨rfl, rfl, rfl, rfl, rfl⟩ rfl rfl rfl rfl rfl (by kernel_rfl) Try.func5 (by kernel_rfl)
    (of_decide_eq_true (by kernel_rfl)) (by unfold Func.isWrapper; first | (rw [if_pos (by decide +kernel)]; kernel_rfl) | (rw [if_neg (by decide +kernel)]; exact ⟨rfl, rfl⟩))
    (fun os started H enc _ => lifted os started H enc)

theorem proved : Rows.LogTurnsSaid := over
end Go.Proofs.Ytnajjfdbmdjcbaa.logTurns
namespace Go.Proofs.Ytnajjfdbmdjcbaa
theorem logTurns_holds : Rows.LogTurnsSaid := logTurns.proved
#print axioms logTurns_holds
end Go.Proofs.Ytnajjfdbmdjcbaa
