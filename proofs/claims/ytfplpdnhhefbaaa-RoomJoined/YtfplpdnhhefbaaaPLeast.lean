/-
  Contract of the call least: the runs of the least free sectors, and how many they are.
-/
import Derived.Test.YtfplpdnhhefbaaaPCheck
import Derived.Deep.LoopGhost
import Derived.WalkMore
namespace Go.Proofs.Ytfplpdnhhefbaaa
open Go.RowKit Go.WideShapes

def lenV : Value → Nat
  | .slice _ n _ => n
  | _ => 0
/-- What stands while the sectors are gone through: k of them are, j of the pieces that rise are behind. -/
structure LeastR (l s : Pcs) (many first base : Nat) (v1 : Value) (w : World) (k j m : Nat) (vo : Value) (tq : Option Addr) (cj : Nat) (wr : World) : Prop where
  own : POwn wr base vo (runsK (freeB l) many first k).1
  sorted : POwn wr base v1 s
  far : ∀ g, v1.ownBlock = some g → some g ≠ vo.ownBlock
  sum : j + m = s.length
  tk : 0 < m → ∃ g, v1.ownBlock = some g ∧ tq = some ⟨g, j * 2, none⟩ ∧ m ≤ cj ∧ cj ≤ 9223372036854775807
  past : Past s j ((first + k : Nat) : Int)
  bel : Below w.heap.size w wr
theorem POwn.at {w : World} {base g : Nat} {v : Value} {l : Pcs} (h : POwn w base v l) (hg : v.ownBlock = some g) {j : Nat} (hj : j < l.length) :
    w.cell? ⟨g, j * 2, none⟩ = some (.int .i64 (l.getD j (0, 0)).1) ∧ w.cell? ⟨g, j * 2 + 1, none⟩ = some (.int .i64 (l.getD j (0, 0)).2) := by
  obtain ⟨q, m, rfl, _⟩ := h.form
  obtain ⟨b, o, e, hc⟩ := h.pcs (by omega)
  subst e
  rcases h.2 with ⟨hv, _⟩ | ⟨g', cap, cur, hv, _⟩
  · cases hv
  · simp only [Value.slice.injEq, Option.some.injEq, Addr.mk.injEq, and_true] at hv
    obtain ⟨⟨rfl, rfl⟩, _⟩ := hv
    simp only [Value.ownBlock, Option.some.injEq] at hg
    subst hg
    have := hc j hj
    simpa using this
theorem LeastR.drew {l s : Pcs} {many first base : Nat} {v1 : Value} {w : World} {k j m : Nat} {vo : Value} {tq : Option Addr} {cj : Nat} {wr : World} (h : LeastR l s many first base v1 w k j m vo tq cj wr) (n : Nat) : LeastR l s many first base v1 w k j m vo tq cj (wr.drewN n) :=
  ⟨h.own.grown (grown_drew _ _ _), h.sorted.grown (grown_drew _ _ _), h.far, h.sum, h.tk, h.past, h.bel.grown (grown_drew _ _ none) h.bel.size (fun k hk => by cases hk)⟩
theorem LeastR.next {l s : Pcs} {many first base : Nat} {v1 : Value} {w : World} {k j m : Nat} {vo : Value} {tq : Option Addr} {cj : Nat} {wr : World} {tq' : Option Addr} {cj' g : Nat} (h : LeastR l s many first base v1 w k j (m + 1) vo tq cj wr) (hg : v1.ownBlock = some g) (he : (s.getD j (0, 0)).1 + (s.getD j (0, 0)).2 ≤ ((first + k : Nat) : Int))
    (ht : 0 < m → tq' = some ⟨g, (j + 1) * 2, none⟩) (hc : m ≤ cj' ∧ cj' ≤ 9223372036854775807) : LeastR l s many first base v1 w k (j + 1) m vo tq' cj' wr :=
  ⟨h.own, h.sorted, h.far, by have := h.sum; omega, fun hm => ⟨g, hg, ht hm, hc⟩, h.past.step (by have := h.sum; omega) he, h.bel⟩
theorem LeastR.over {l s : Pcs} {many first base : Nat} {v1 : Value} {w : World} {k j m : Nat} {vo : Value} {tq : Option Addr} {cj : Nat} {wr : World} (h : LeastR l s many first base v1 w k j m vo tq cj wr) (hr : runsK (freeB l) many first (k + 1) = runsK (freeB l) many first k) : LeastR l s many first base v1 w (k + 1) j m vo tq cj wr :=
  ⟨by rw [hr]; exact h.own, h.sorted, h.far, h.sum, h.tk, h.past.mono (by omega), h.bel⟩
theorem LeastR.put {l s : Pcs} {many first base : Nat} {v1 : Value} {w : World} {k j m : Nat} {vo : Value} {tq : Option Addr} {cj : Nat} {wr : World} {vo' : Value} {w2 : World} (h : LeastR l s many first base v1 w k j m vo tq cj wr) (hb0 : w.heap.size ≤ base)
    (ho : POwn w2 base vo' (runsK (freeB l) many first (k + 1)).1) (hg : wr.grownBy w2 vo.ownBlock) (hf : ∀ k, k < wr.heap.size → some k ≠ vo.ownBlock → some k ≠ vo'.ownBlock) : LeastR l s many first base v1 w (k + 1) j m vo' tq cj w2 := by
  refine ⟨ho, h.sorted.kept hg ?_, fun g e => hf g (h.sorted.lt g e).2 (h.far g e), h.sum, h.tk, h.past.mono (by omega), h.bel.grown hg h.bel.size (fun x hx => Nat.le_trans hb0 (h.own.lt x hx).1)⟩
  cases hv : v1.ownBlock with
  | none => exact .inl rfl
  | some g => exact .inr (h.far g hv)
def runsG (l : Pcs) (many first k : Nat) : Int := ((runsK (freeB l) many first k).2 : Nat)

set_option maxHeartbeats 400000 in
theorem least_any (first count many : Nat) (v : Value) (l : Pcs) (w : World) (hl : PIn w v l) (hn : l.length ≤ 4096) (hg : Good count l) (hf : first ≤ count) (hc : count ≤ 4096) (hm : many ≤ 4096) :
    Calls Try.prog 28 #[.int .i64 first, .int .i64 count, v, .int .i64 many] w fun e w' => ∃ v', e = .returned (.tuple #[v', .int .i64 (runsK (freeB l) many first (count - first)).2]) ∧ POwn w' w.heap.size v' (runsK (freeB l) many first (count - first)).1 ∧ Below w.heap.size w w' := by
  obtain ⟨q, c, rfl, _⟩ := hl.lies
  have hrise := rising_sl _ l w hl (by omega)
  clear hl
  go_enter Try.func28, Try.ntmps28
  go_wp2
  go_step3
  go_wp2_with (go_at_call 29; refine hrise.mono ?_; rintro e w1 ⟨q1, c1, s, rfl, ho, hp, hu, hb1, hc1, hc2⟩)
  clear hrise
  have HU : Hid (Up s) := hu
  have HP : Hid (l.Perm s) := hp
  have HGS : Hid (Good count s) := hg.perm hp
  have H0 : Hid (LeastR l s many first w.heap.size (.slice q1 s.length c1) w 0 0 s.length (.slice none 0 0) q1 c1 w1) := by
    refine ⟨pown_nil _ _, ho, (fun g hg' e => by cases e), by omega, fun hm => ?_, past_zero _ _, hb1⟩
    rcases ho.2 with ⟨_, h0⟩ | ⟨g, cap, cur, hv, _⟩
    · omega
    · simp only [Value.slice.injEq] at hv
      obtain ⟨rfl, _, rfl⟩ := hv
      exact ⟨g, rfl, by simp, hc1, hc2⟩
  have hsl : s.length ≤ 4096 := by rw [← hp.length_eq]; exact hn
  clear hu hp hg ho hb1
  go_step3
  go_wp2
  go_loopg [10, 11, 12, 13] (count - first) (fun gk out got tk n wr => ∃ k j m tq cj, k + gk = count - first ∧ got = .int .i64 ((runsK (freeB l) many first k).2 : Nat) ∧ tk = .slice tq m cj ∧ n = .int .i64 ((first + k : Nat) : Int) ∧ LeastR l s many first w.heap.size (.slice q1 s.length c1) w k j m out tq cj wr)
  case atStart => exact ⟨0, 0, s.length, q1, c1, by omega, rfl, rfl, rfl, H0.out⟩
  case round =>
    obtain ⟨k, j, m, tq, cj, hk, rfl, rfl, rfl, hR⟩ := hrel
    have HR : Hid _ := hR
    clear hR H0
    have hgot := runsK_le (freeB l) many first k
    by_cases h1 : k < count - first
    · by_cases h2 : (runsK (freeB l) many first k).2 < many
      · obtain ⟨g, rfl⟩ : ∃ g, gk = g + 1 := ⟨gk - 1, by omega⟩
        have HY : Hid (∀ hp : freeB l ((first + k : Nat) : Int) = true, runsK (freeB l) many first (k + 1) = (withN (runsK (freeB l) many first k).1 (((first + k : Nat) : Int), 1), (runsK (freeB l) many first k).2 + 1)) := fun hp => runsK_yes h2 hp
        have HNo : Hid (∀ hp : freeB l ((first + k : Nat) : Int) = false, runsK (freeB l) many first (k + 1) = runsK (freeB l) many first k) := fun hp => runsK_no hp
        have HB : Hid (∀ q ∈ (runsK (freeB l) many first k).1, 0 ≤ q.1 ∧ 0 ≤ q.2 ∧ q.1 + q.2 ≤ 8192) := fun q hq => by have := runsK_bounds (freeB l) many first k 8192 (by omega) q hq; omega
        have HLen : Hid ((runsK (freeB l) many first k).1.length ≤ 4096) := by show _ ≤ _; have := runsK_len (freeB l) many first k; omega
        obtain ⟨got, hgg⟩ : ∃ got, (runsK (freeB l) many first k).2 = got := ⟨_, rfl⟩
        have HGG : Hid ((runsK (freeB l) many first k).2 = got) := hgg
        rw [hgg] at hgot h2 ⊢
        clear hgg
        go_wp2
        go_loopg [12] m (fun g2 tk wr => ∃ j tq cj, tk = .slice tq g2 cj ∧ LeastR l s many first w.heap.size (.slice q1 s.length c1) w k j g2 u10 tq cj wr)
        case atStart => exact ⟨j, tq, cj, rfl, HR.out⟩
        case round =>
          clear HR
          obtain ⟨j, tq, cj, rfl, hR⟩ := hrel
          have HR : Hid _ := hR
          clear hR
          cases gk with
          | zero =>
            have hfree : freeB l ((first + k : Nat) : Int) = true := by
              unfold freeB
              rw [cov_perm HP.out, HR.out.past.free HU.out (fun hj => by have := HR.out.sum; omega)]
              rfl
            have HY2 : Hid _ := HY.out hfree
            have hwith := with_any w.heap.size u10 (runsK (freeB l) many first k).1 (((first + k : Nat) : Int), 1) wr HR.out.own HR.out.bel.size HLen.out HB.out ⟨by show (0 : Int) ≤ 1; decide, by show (1 : Int) ≤ 8192; decide⟩
            clear HY HNo HB HLen hfree
            go_wp2_with (go_at_call 30; refine hwith.mono ?_; rintro e w2 ⟨v2, rfl, ho2, hg2, hf2⟩)
            have R : Hid (LeastR l s many first w.heap.size (.slice q1 s.length c1) w (k + 1) j 0 v2 tq cj w2) := HR.out.put (Nat.le_refl _) (by rw [HY2.out]; exact ho2) hg2 hf2
            clear hwith ho2 hg2 hf2 HR
            go_roundg g
            case measure => omega
            case rel => exact ⟨k + 1, j, 0, tq, cj, by omega, by rw [HY2.out, HGG.out]; rfl, rfl, by go_num, R.out⟩
          | succ m =>
            obtain ⟨gb, hgb, rfl, hmc, hcj⟩ := HR.out.tk (by omega)
            have hj : j < s.length := by have := HR.out.sum; omega
            obtain ⟨e1, e2⟩ := HR.out.sorted.at hgb hj
            have hwn := HGS.out.wn _ (getD_mem' (d := (0, 0)) hj)
            have HF := fun (h : ((first + k : Nat) : Int) < (s.getD j (0, 0)).1) => HR.out.past.free HU.out (fun _ => h)
            have HC := cov_at (n := ((first + k : Nat) : Int)) hj
            have HNX := fun (tq' : Option Addr) (cj' : Nat) (n : Nat) he ht hc => (LeastR.next (tq' := tq') (cj' := cj') (HR.out.drew n) hgb he ht hc)
            have HF' : Hid _ := HF
            have HC' : Hid _ := HC
            have HNX' : Hid _ := HNX
            have HGB : Hid ((Value.slice q1 s.length c1).ownBlock = some gb) := hgb
            clear HF HC HNX hgb
            generalize s.getD j (0, 0) = y at *
            obtain ⟨a, n⟩ := y
            unfold Wn at hwn
            simp only at e1 e2 hwn
            by_cases g1 : a ≤ ((first + k : Nat) : Int)
            · by_cases g2 : ((first + k : Nat) : Int) < a + n
              · have hno : freeB l ((first + k : Nat) : Int) = false := by
                  unfold freeB
                  rw [cov_perm HP.out, HC'.out g1 g2]
                  rfl
                have HNo2 : Hid _ := HNo.out hno
                clear HF' HC' HNX' HNo hno HY
                go_wp2
                go_quiet (fail)
                go_wp2
                go_roundg g
                case measure => omega
                case rel => exact ⟨k + 1, j, m + 1, _, cj, by omega, by rw [HNo2.out, HGG.out], rfl, by go_num, (HR.out.over HNo2.out).drew _⟩
              · clear HF' HC' HNo HY
                have g3 : a + n ≤ ((first + k : Nat) : Int) := by omega
                by_cases hc1 : cj = 1
                · subst hc1
                  obtain rfl : m = 0 := by omega
                  go_wp2
                  go_quiet (fail)
                  go_wp2
                  go_roundg 0
                  case measure => omega
                  case rel => exact ⟨j + 1, _, _, rfl, HNX'.out _ _ _ g3 (fun h => absurd h (by omega)) (by omega)⟩
                · go_wp2
                  go_quiet (fail)
                  go_wp2
                  go_roundg m
                  case measure => omega
                  case rel => exact ⟨j + 1, _, _, rfl, HNX'.out _ _ _ g3 (fun _ => by rw [show (j + 1) * 2 = j * 2 + 2 from by omega]) (by omega)⟩
            · have hfree : freeB l ((first + k : Nat) : Int) = true := by
                unfold freeB
                rw [cov_perm HP.out, HF'.out (by simp only; omega)]
                rfl
              have HY2 : Hid _ := HY.out hfree
              have hwith := with_any w.heap.size u10 (runsK (freeB l) many first k).1 (((first + k : Nat) : Int), 1) wr HR.out.own HR.out.bel.size HLen.out HB.out ⟨by show (0 : Int) ≤ 1; decide, by show (1 : Int) ≤ 8192; decide⟩
              clear HY HNo HB HLen hfree HF' HC' HNX'
              go_wp2_with (go_at_call 30; refine hwith.mono ?_; rintro e w2 ⟨v2, rfl, ho2, hg2, hf2⟩)
              have R : Hid (LeastR l s many first w.heap.size (.slice q1 s.length c1) w (k + 1) j (m + 1) v2 (some ⟨gb, j * 2, none⟩) cj w2) := HR.out.put (Nat.le_refl _) (by rw [HY2.out]; exact ho2) hg2 hf2
              clear hwith ho2 hg2 hf2 HR
              go_roundg g
              case measure => omega
              case rel => exact ⟨k + 1, j, m + 1, _, cj, by omega, by rw [HY2.out, HGG.out]; rfl, rfl, by go_num, R.out⟩
      · have HE : Hid (runsK (freeB l) many first (count - first) = runsK (freeB l) many first k) := by
          have := runsK_stay (P := freeB l) h2 (count - first - k)
          rwa [show k + (count - first - k) = count - first from by omega] at this
        go_wp2
        try rw [Exit.noGoto_ret]
        go_ret2
        rw [HE.out]
        exact ⟨_, rfl, HR.out.own, HR.out.bel⟩
    · obtain rfl : k = count - first := by omega
      go_wp2
      try rw [Exit.noGoto_ret]
      go_ret2
      exact ⟨_, rfl, HR.out.own, HR.out.bel⟩
end Go.Proofs.Ytfplpdnhhefbaaa
