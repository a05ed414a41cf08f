/-
  Contract of the call Check: what is wrong with a count and pieces.
-/
import Derived.Test.YtfplpdnhhefbaaaPRise
namespace Go.Proofs.Ytfplpdnhhefbaaa
open Go.RowKit Go.WideShapes

def WnK (count : Int) (l : Pcs) (k : Nat) : Prop := ∀ j, j < k → Wn count (l.getD j (0, 0))
theorem WnK.step {count : Int} {l : Pcs} {k : Nat} (h : WnK count l k) (h1 : Wn count (l.getD k (0, 0))) : WnK count l (k + 1) := by
  intro i hi
  rcases Nat.lt_or_ge i k with h' | h'
  · exact h i h'
  · obtain rfl : i = k := by omega
    exact h1
theorem WnK.all {count : Int} {l : Pcs} (h : WnK count l l.length) : ∀ p ∈ l, Wn count p := by
  intro p hp
  obtain ⟨i, hi, rfl⟩ := List.getElem_of_mem hp
  have := h i hi
  rwa [getD_eq hi] at this
theorem not_good_wn {count : Int} {l : Pcs} {k : Nat} (hk : k < l.length) (h : ¬ Wn count (l.getD k (0, 0))) : ¬ Good count l := fun hg => h (hg.wn _ (getD_mem' hk))
theorem split_at {l : Pcs} {k : Nat} (hk : k < l.length) : l = l.take k ++ l.getD k (0, 0) :: l.drop (k + 1) := by
  conv => lhs; rw [← List.take_append_drop k l]
  rw [List.drop_eq_getElem_cons hk, getD_eq hk]
theorem chain_step {count : Int} {s : Pcs} {k : Nat} (hk : k < s.length) (hw : ∀ p ∈ s, Wn count p) (h : Chain (s.take k)) (he : endOf (s.take k) ≤ (s.getD k (0, 0)).1) : Chain (s.take (k + 1)) := by
  rw [take_snoc (d := (0, 0)) hk]
  exact h.snoc (fun p hp => (hw p (List.mem_of_mem_take hp)).2.1) he
theorem end_step {s : Pcs} {k : Nat} (hk : k < s.length) : endOf (s.take (k + 1)) = (s.getD k (0, 0)).1 + (s.getD k (0, 0)).2 := by
  rw [take_snoc (d := (0, 0)) hk, endOf_snoc]
theorem bad_end {count : Int} {s l : Pcs} {k : Nat} (hp : l.Perm s) (hu : Up s) (hk : k < s.length) (hw : ∀ p ∈ s, Wn count p) (he : (s.getD k (0, 0)).1 < endOf (s.take k)) : ¬ Good count l := by
  intro hg
  have hs := split_at hk
  have := hw _ (getD_mem' (d := (0, 0)) hk)
  refine not_good_end (count := count) (s := s.take k) (p := s.getD k (0, 0)) (m := s.drop (k + 1)) this.1 (hs ▸ hu) (hs ▸ hw) he ?_
  exact hs ▸ hg.perm hp

set_option maxHeartbeats 2000000 in
theorem check_any (count : Int) (v : Value) (l : Pcs) (w : World) (hl : PIn w v l) :
    Calls Try.prog 14 #[.int .i64 count, v] w fun e w' => e = .returned (.int .i64 (errK count l)) ∧ Below w.heap.size w w' := by
  obtain ⟨q, c, rfl, hq, hlc, hcm, hqn⟩ := hl.lies
  have hwf := hl.wf
  have HL : Hid _ := hl
  clear hl hqn
  unfold maxLen at hcm
  by_cases h1 : 0 ≤ count ∧ count ≤ 4096
  · by_cases h2 : l.length ≤ 4096
    · go_enter Try.func14, Try.ntmps14
      go_wp2_with (go_at_call 27; refine (mayCount_any count _).mono ?_; rintro e w ⟨rfl, rfl⟩; rw [decide_eq_true h1])
      go_loopw [18] (fun i wr => ∃ k : Nat, k ≤ l.length ∧ i = .int .i64 k ∧ WnK count l k ∧ Below w.heap.size w wr) (fun i _ => l.length - (intOf i).toNat)
      case atStart => exact ⟨0, by omega, rfl, fun i hi => absurd hi (by omega), Below.refl _ _⟩
      case round =>
        obtain ⟨k, hk, rfl, hgood, hbel⟩ := hrel
        have HG : Hid _ := hgood
        clear hgood
        by_cases hkl : k < l.length
        · obtain ⟨b, o, rfl⟩ := hq.addr (by omega)
          obtain ⟨e1, e2⟩ := (hq.below hbel).at hkl
          obtain ⟨f1, f2⟩ := hwf.at hkl
          have HS := WnK.step (k := k) HG.out
          have HE := not_good_wn (k := k) (count := count) hkl
          clear hq hwf
          generalize l.getD k (0, 0) = y at *
          obtain ⟨s, n⟩ := y
          have HS' : Hid _ := HS
          have HE' : Hid _ := HE
          clear HS HE
          simp only at e1 e2 f1 f2
          by_cases g1 : Wn count (s, n)
          · have HG2 : Hid (WnK count l (k + 1)) := HS'.out g1
            have hw1 := wnB_yes g1
            clear g1
            go_wp2_with (go_at_call 31; refine (within_any count s n _ h1 f1).mono ?_; rintro e w1 ⟨rfl, ob, rfl⟩; rw [hw1])
            go_roundw
            case rel => exact ⟨k + 1, by omega, by go_num, HG2.out, (hbel.alloc hbel.size _).alloc (by simp; have := hbel.size; omega) _⟩
            case measure => simp [intOf]; omega
          · have HB : Hid (errK count l = 8) := errK_bad h1 h2 (HE'.out g1)
            have hw1 := wnB_no g1
            clear g1
            go_wp2_with (go_at_call 31; refine (within_any count s n _ h1 f1).mono ?_; rintro e w1 ⟨rfl, ob, rfl⟩; rw [hw1])
            go_ret
            exact ⟨by rw [HB.out]; rfl, (hbel.alloc hbel.size _).alloc (by simp; have := hbel.size; omega) _⟩
        · obtain rfl : k = l.length := by omega
          have HW : Hid (∀ p ∈ l, Wn count p) := WnK.all HG.out
          clear HG hq
          have hrise := rising_sl _ l wr (HL.out.below hbel) (by omega)
          go_wp2_with (go_at_call 29; refine hrise.mono ?_; rintro e w1 ⟨q1, c1, s, rfl, ho, hp, hu, hb1, hc1, hc2⟩)
          clear hrise
          have hq1 := ho.pcs
          have HU : Hid (Up s) := hu
          have HP : Hid (l.Perm s) := hp
          have hsl : s.length = l.length := hp.length_eq.symm
          have HS : Hid (∀ p ∈ s, Wn count p) := fun p hm => HW.out p (hp.mem_iff.2 hm)
          have hb2 : Below w.heap.size w w1 := below_bt hbel hb1
          clear ho hu hp hb1 hbel
          go_loopw [7, 30] (fun e i wr => ∃ k : Nat, k ≤ s.length ∧ i = .int .i64 k ∧ e = .int .i64 (endOf (s.take k)) ∧ Chain (s.take k) ∧ Below w1.heap.size w1 wr) (fun _ i _ => s.length - (intOf i).toNat)
          case atStart => exact ⟨0, by omega, rfl, rfl, List.Pairwise.nil, Below.refl _ _⟩
          case round =>
            obtain ⟨k, hk, rfl, rfl, hch, hbel⟩ := hrel
            have HC : Hid _ := hch
            clear hch
            by_cases hkl : k < s.length
            · obtain ⟨b, o, rfl⟩ := hq1.addr (by omega)
              obtain ⟨e1, e2⟩ := (hq1.below hbel).at hkl
              have hwn := HS.out _ (getD_mem' (d := (0, 0)) hkl)
              have HB := bad_end (count := count) HP.out HU.out hkl HS.out
              have HST := chain_step hkl HS.out HC.out
              have HEN : Hid _ := end_step hkl
              have HB' : Hid _ := HB
              have HST' : Hid _ := HST
              clear hq1 HB HST
              generalize s.getD k (0, 0) = y at *
              obtain ⟨a, n⟩ := y
              generalize endOf (s.take k) = E at *
              unfold Wn at hwn
              simp only at e1 e2 hwn
              by_cases g1 : a < E
              · have HBB : Hid (errK count l = 8) := errK_bad h1 h2 (HB'.out g1)
                clear HB' HST' HEN
                go_wp2
                go_ret
                exact ⟨by rw [HBB.out]; rfl, below_bt hb2 (hbel.alloc hbel.size _)⟩
              · have HCC : Hid (Chain (s.take (k + 1))) := HST'.out (by omega)
                clear HB' HST'
                go_wp2
                go_roundw
                case rel => exact ⟨k + 1, by omega, by go_num, by rw [HEN.out], HCC.out, hbel.alloc hbel.size _⟩
                case measure => simp [intOf]; omega
            · obtain rfl : k = s.length := by omega
              have HO : Hid (errK count l = 0) := by
                refine errK_ok h1 h2 (Good.perm (Chain.good ?_ HS.out) HP.out.symm)
                have := HC.out
                rwa [List.take_length] at this
              clear HC hq1
              go_wp2
              go_ret
              exact ⟨by rw [HO.out]; rfl, below_bt hb2 hbel⟩
    · have HB : Hid (errK count l = 4) := errK_many h1 h2
      go_enter Try.func14, Try.ntmps14
      go_wp2_with (go_at_call 27; refine (mayCount_any count _).mono ?_; rintro e w ⟨rfl, rfl⟩; rw [decide_eq_true h1])
      go_ret
      exact ⟨by rw [HB.out]; rfl, Below.refl _ _⟩
  · have HB : Hid (errK count l = 2) := errK_arg h1
    go_enter Try.func14, Try.ntmps14
    go_wp2_with (go_at_call 27; refine (mayCount_any count _).mono ?_; rintro e w ⟨rfl, rfl⟩; rw [decide_eq_false h1])
    go_ret
    exact ⟨by rw [HB.out]; rfl, Below.refl _ _⟩
end Go.Proofs.Ytfplpdnhhefbaaa
