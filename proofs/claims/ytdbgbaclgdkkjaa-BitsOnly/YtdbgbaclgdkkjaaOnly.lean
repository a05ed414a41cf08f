/-
  Proved: for all bytes b the law BitsOnly answers true: what Read reads as a number, or Cut cuts as a text, is just what Small and Text write for it; an error answers zero values.
  Conditions: none (every []byte that can be read).
-/
import Derived.Test.YtdbgbaclgdkkjaaRows
import Derived.Test.YtdbgbaclgdkkjaaCut
import Derived.Test.YtdbgbaclgdkkjaaTurn
import Derived.Test.YtdbgbaclgdkkjaaReg
import Derived.Deep.QuietTactic
import Derived.BigQuiet
import Derived.WalkKit
import Derived.ProofKit
import Derived.OpenShut
import Derived.ShutString
import Derived.ChangeOld
import Derived.Below
namespace Go.Proofs.Ytdbgbaclgdkkjaa.bitsOnly
open Go.ChangeShapes Go.WideShapes Go.ChangeAt Go.RowKit
open Go.ChangeMaps (open_string shut_string)
set_option linter.unusedVariables false

theorem own : ownKnob Try.prog.godebug = none := by kernel_rfl
theorem laidOut : laidOutB Try.prog = true := by kernel_rfl

open Go.Joins
/-! ### STEP 1: THE WALK -/
set_option maxHeartbeats 1000000 in
theorem walk_big (p : Option Addr) (len cap : Nat) (w : World) (hbig : 10000 < len) :
    Calls Try.prog 7 #[.slice p len cap] w fun e w' => e = .returned (.bool true) ∧ Below w.heap.size w w' := by
  go_enter Try.func7, Try.ntmps7
  go_wp2_with (go_at_call 14; refine (alive_any _).mono ?_; rintro e w1 ⟨rfl, hb1⟩)
  go_ret
  exact ⟨rfl, hb1⟩
set_option maxHeartbeats 1000000 in
theorem walk_none (p : Option Addr) (cap : Nat) (xs : List Nat) (w : World) (hin : BIn w p xs) (hx : xs.length ≤ 10000) (hr : readN xs = none) :
    Calls Try.prog 7 #[.slice p xs.length cap] w fun e w' => e = .returned (.bool true) ∧ Below w.heap.size w w' := by
  have HI : Hid (BIn w p xs) := hin
  have HR : Hid _ := hr
  have HM : Hid (xs.length ≤ maxLen) := by show _ ≤ _; unfold maxLen; omega
  clear hin hr
  go_enter Try.func7, Try.ntmps7
  go_wp2_with fail
  refine (alive_any _).mono ?_
  rintro e w1 ⟨rfl, hb1⟩
  go_wp2_with fail
  refine (read_none _ _ _ xs _ rfl (HI.out.below hb1) HM.out HR.out).mono ?_
  rintro e w2 ⟨rfl, rfl⟩
  go_wp2_with fail
  go_quiet (fail)
  go_wp2_with fail
  have b2 : Below w.heap.size w (w2.drewN nq) := below_drewN hb1 nq
  refine (cut_none _ _ xs _ (HI.out.below b2) HM.out HR.out).mono ?_
  rintro e w3 ⟨rfl, rfl⟩
  go_wp2
  go_ret
  exact ⟨rfl, b2⟩

theorem only_nums {ys : List Nat} (h : ∀ c ∈ ys, c < 256) : numsOf (strOf ys) = ys := by
  rw [numsOf, strOf_list, List.map_map]
  conv => rhs; rw [← List.map_id ys]
  apply List.map_congr_left
  intro c hc
  have := h c hc
  simp; omega
theorem only_text {xs : List Nat} {n k : Nat} (hx : ∀ c ∈ xs, c < 256) (hr : readN xs = some (n, k)) (hl : k + n ≤ xs.length) : textN (strOf ((xs.drop k).take n)) ++ xs.drop (k + n) = xs := by
  have hk := readN_some hr
  rw [textN, only_nums (fun c hc => hx c (List.mem_of_mem_drop (List.mem_of_mem_take hc))), strOf_size, List.length_take, List.length_drop, show min n (xs.length - k) = n from by omega, ← read_only hx hr, List.append_assoc, ← List.drop_drop, List.take_append_drop, List.take_append_drop]

theorem below_undrew {B : Nat} {W w3 : World} (h : Below B W.drew w3) : Below B W w3 := ⟨h.os, h.tape, h.output, h.size, h.block⟩
set_option maxHeartbeats 1000000 in
theorem walk_some (p : Option Addr) (cap : Nat) (xs : List Nat) (w : World) (hin : BIn w p xs) (hx : xs.length ≤ 10000) (hcap : xs.length ≤ cap) (n k : Nat) (hr : readN xs = some (n, k)) :
    Calls Try.prog 7 #[.slice p xs.length cap] w fun e w' => e = .returned (.bool true) ∧ Below w.heap.size w w' := by
  obtain ⟨k1, k2, k3, k4⟩ := readN_some hr
  obtain ⟨b, o, rfl, _⟩ := hin.1 (by omega)
  have HI : Hid (BIn w (some ⟨b, o, none⟩) xs) := hin
  have HR : Hid _ := hr
  have HM : Hid (xs.length ≤ maxLen) := by show _ ≤ _; unfold maxLen; omega
  have hten := smallN_ten n k4
  have hpos := smallN_pos n
  have hlk : Hid ((smallN n).length = k) := by show _ = _; rw [← read_only hin.2 hr]; simp; omega
  clear hin hr
  go_enter Try.func7, Try.ntmps7
  go_wp2_with fail
  refine (alive_any _).mono ?_
  rintro e w1 ⟨rfl, hb1⟩
  have z1 := hb1.size
  go_wp2_with fail
  refine (read_some _ _ _ xs _ n k rfl (HI.out.below hb1) HM.out HR.out).mono ?_
  rintro e w2 ⟨rfl, rfl⟩
  go_wp2_with fail
  have q1 : (k : Int) ≤ (cap : Int) := by omega
  have q0 : (0 : Int) ≤ (k : Int) := by omega
  have q2 : decide ((k : Int) < 1) = false := by simp; omega
  have q3 : decide ((xs.length : Int) < (k : Int)) = false := by simp; omega
  have q5 : decide (xs.length < k) = false := by simp; omega
  have q4 : ¬ cap = 0 := by omega
  have HW : Hid (∀ w3, Below w2.heap.size w2.drew w3 → BIn w3 (some ⟨b, o, none⟩) (xs.take k)) := by
    intro w3 h3
    have := HI.out.below (hb1.trans ((below_undrew h3).mono (by omega)))
    refine ⟨fun _ => ⟨b, o, rfl, fun i hi => ?_⟩, fun c hc => this.2 c (List.mem_of_mem_take hc)⟩
    simp at hi
    rw [this.cell i (by omega)]
    simp [List.getD, show i < k from by omega]
  have HE : Hid (smallN n = xs.take k) := (read_only HI.out.2 HR.out).symm
  have HL : Hid (k = (xs.take k).length) := by show _ = _; simp; omega
  refine wp_region_noPanic ?_
  refine wp_region_held_drew (S := fun _ => True) (by kernel_rfl) trivial (fun hHeld => ?_)
  refine takeH 0 23 (v := ?_) rfl rfl (by kernel_rfl) (by kernel_rfl) (by kernel_rfl) (fun _ _ _ h => h) (by rfl) ?_ (by assumption) ?_
  rotate_left
  · intro w hSw; go_simp; first | done | with_reducible rfl
  simp only [Act.put, List.setIfInBounds_toArray, List.set_cons_zero, List.set_cons_succ]
  refine takeH 1 24 (v := ?_) rfl rfl (by kernel_rfl) (by kernel_rfl) (by kernel_rfl) (fun _ _ _ h => h) (by rfl) ?_ (by assumption) ?_
  rotate_left
  · intro w hSw; go_simp; first | done | with_reducible rfl
  simp only [Act.put, List.setIfInBounds_toArray, List.set_cons_zero, List.set_cons_succ]
  refine takeH 2 25 (v := ?_) rfl rfl (by kernel_rfl) (by kernel_rfl) (by kernel_rfl) (fun _ _ _ h => h) (by rfl) ?_ (by assumption) ?_
  rotate_left
  · intro w hSw; go_simp; first | done | with_reducible rfl
  simp only [Act.put, List.setIfInBounds_toArray, List.set_cons_zero, List.set_cons_succ]
  refine takeH 3 26 (v := ?_) rfl rfl (by kernel_rfl) (by kernel_rfl) (by kernel_rfl) (fun _ _ _ h => h) (by rfl) ?_ (by assumption) ?_
  rotate_left
  · intro w hSw; go_simp; first | done | with_reducible rfl
  simp only [Act.put, List.setIfInBounds_toArray, List.set_cons_zero, List.set_cons_succ]
  refine takeH 4 27 (v := ?_) rfl rfl (by kernel_rfl) (by kernel_rfl) (by kernel_rfl) (fun _ _ _ h => h) (by rfl) ?_ (by assumption) ?_
  rotate_left
  · intro w hSw; go_simp; first | done | with_reducible rfl
  simp only [Act.put, List.setIfInBounds_toArray, List.set_cons_zero, List.set_cons_succ]
  refine takeH 5 28 (v := ?_) rfl rfl (by kernel_rfl) (by kernel_rfl) (by kernel_rfl) (fun _ _ _ h => h) (by rfl) ?_ (by assumption) ?_
  rotate_left
  · intro w hSw; go_simp; first | done | with_reducible rfl
  simp only [Act.put, List.setIfInBounds_toArray, List.set_cons_zero, List.set_cons_succ]
  refine takeH 6 29 (v := ?_) rfl rfl (by kernel_rfl) (by kernel_rfl) (by kernel_rfl) (fun _ _ _ h => h) (by rfl) ?_ (by assumption) ?_
  rotate_left
  · intro w hSw; go_simp; first | done | with_reducible rfl
  simp only [Act.put, List.setIfInBounds_toArray, List.set_cons_zero, List.set_cons_succ]
  refine takeH 7 30 (v := ?_) rfl rfl (by kernel_rfl) (by kernel_rfl) (by kernel_rfl) (fun _ _ _ h => h) (by rfl) ?_ (by assumption) ?_
  rotate_left
  · intro w hSw; go_simp; first | done | with_reducible rfl
  simp only [Act.put, List.setIfInBounds_toArray, List.set_cons_zero, List.set_cons_succ]
  refine takeH 8 31 (v := ?_) rfl rfl (by kernel_rfl) (by kernel_rfl) (by kernel_rfl) (fun _ _ _ h => h) (by rfl) ?_ (by assumption) ?_
  rotate_left
  · intro w hSw; go_simp; first | done | with_reducible rfl
  simp only [Act.put, List.setIfInBounds_toArray, List.set_cons_zero, List.set_cons_succ]
  refine takeH 9 32 (v := ?_) rfl rfl (by kernel_rfl) (by kernel_rfl) (by kernel_rfl) (fun _ _ _ h => h) (by rfl) ?_ (by assumption) ?_
  rotate_left
  · intro w hSw; go_simp; first | done | with_reducible rfl
  simp only [Act.put, List.setIfInBounds_toArray, List.set_cons_zero, List.set_cons_succ]
  refine takeH 10 33 (v := ?_) rfl rfl (by kernel_rfl) (by kernel_rfl) (by kernel_rfl) (fun _ _ _ h => h) (by rfl) ?_ (by assumption) ?_
  rotate_left
  · intro w hSw; go_simp; first | done | with_reducible rfl
  simp only [Act.put, List.setIfInBounds_toArray, List.set_cons_zero, List.set_cons_succ]
  refine takeH 11 34 (v := ?_) rfl rfl (by kernel_rfl) (by kernel_rfl) (by kernel_rfl) (fun _ _ _ h => h) (by rfl) ?_ (by assumption) ?_
  rotate_left
  · intro w hSw; go_simp; first | done | with_reducible rfl
  simp only [Act.put, List.setIfInBounds_toArray, List.set_cons_zero, List.set_cons_succ]
  refine takeH 12 35 (v := ?_) rfl rfl (by kernel_rfl) (by kernel_rfl) (by kernel_rfl) (fun _ _ _ h => h) (by rfl) ?_ (by assumption) ?_
  rotate_left
  · intro w hSw; go_simp; first | done | with_reducible rfl
  simp only [Act.put, List.setIfInBounds_toArray, List.set_cons_zero, List.set_cons_succ]
  refine takeH 14 37 (v := ?_) rfl rfl (by kernel_rfl) (by kernel_rfl) (by kernel_rfl) (fun _ _ _ h => h) (by rfl) ?_ (by assumption) ?_
  rotate_left
  · intro w hSw; go_simp; first | done | with_reducible rfl
  simp only [Act.put, List.setIfInBounds_toArray, List.set_cons_zero, List.set_cons_succ]
  refine takeH 15 38 (v := ?_) rfl rfl (by kernel_rfl) (by kernel_rfl) (by kernel_rfl) (fun _ _ _ h => h) (by rfl) ?_ (by assumption) ?_
  rotate_left
  · intro w hSw; go_simp; first | done | with_reducible rfl
  simp only [Act.put, List.setIfInBounds_toArray, List.set_cons_zero, List.set_cons_succ]
  refine takeH 16 39 (v := ?_) rfl rfl (by kernel_rfl) (by kernel_rfl) (by kernel_rfl) (fun _ _ _ h => h) (by rfl) ?_ (by assumption) ?_
  rotate_left
  · intro w hSw; go_simp; first | done | with_reducible rfl
  simp only [Act.put, List.setIfInBounds_toArray, List.set_cons_zero, List.set_cons_succ]
  refine wpAnyH_ready (rs := [13]) (by kernel_rfl) (by simp) ?_
  refine AllReadyH.cons rfl (fun K hK => ?_) AllReadyH.nil
  go_simp
  refine (small_any n _ k4).mono ?_
  rintro e w3 ⟨v, rfl, hown, hb3⟩
  obtain ⟨g3, c3, rfl⟩ := ownsRow_form hown hpos
  have B3 : Hid (BIn w3 (some ⟨g3, 0, none⟩) (smallN n)) := own_at hown rfl (smallN_bytes n)
  have I3 : Hid _ := HW.out w3 hb3
  have bb3 : Below w.heap.size w w3 := hb1.trans ((below_undrew hb3).mono z1)
  have zz3 : w.heap.size ≤ w3.heap.size := bb3.size
  clear hown
  go_simp
  refine hK.out _ _ trivial (fun hHeld => ?_)
  clear hK K
  refine wpAnyH_ready (rs := [17]) (by kernel_rfl) (by simp) ?_
  refine AllReadyH.cons rfl (fun K hK => ?_) AllReadyH.nil
  go_simp
  refine (same_eq _ _ _ _ _ _ (smallN n) (xs.take k) _ rfl HL.out HE.out B3.out I3.out).mono ?_
  rintro e w4 ⟨rfl, rfl⟩
  go_simp
  refine hK.out _ _ trivial (fun hHeld => ?_)
  clear hK K
  refine takeH 18 41 (v := ?_) rfl rfl (by kernel_rfl) (by kernel_rfl) (by kernel_rfl) (fun _ _ _ h => h) (by rfl) ?_ (by assumption) ?_
  rotate_left
  · intro w hSw; go_simp; first | done | with_reducible rfl
  simp only [Act.put, List.setIfInBounds_toArray, List.set_cons_zero, List.set_cons_succ]
  refine takeH 19 42 (v := ?_) rfl rfl (by kernel_rfl) (by kernel_rfl) (by kernel_rfl) (fun _ _ _ h => h) (by rfl) ?_ (by assumption) ?_
  rotate_left
  · intro w hSw; go_simp; first | done | with_reducible rfl
  simp only [Act.put, List.setIfInBounds_toArray, List.set_cons_zero, List.set_cons_succ]
  refine takeH 20 43 (v := ?_) rfl rfl (by kernel_rfl) (by kernel_rfl) (by kernel_rfl) (fun _ _ _ h => h) (by rfl) ?_ (by assumption) ?_
  rotate_left
  · intro w hSw; go_simp; first | done | with_reducible rfl
  simp only [Act.put, List.setIfInBounds_toArray, List.set_cons_zero, List.set_cons_succ]
  refine takeH 21 44 (v := ?_) rfl rfl (by kernel_rfl) (by kernel_rfl) (by kernel_rfl) (fun _ _ _ h => h) (by rfl) ?_ (by assumption) ?_
  rotate_left
  · intro w hSw; go_simp; first | done | with_reducible rfl
  simp only [Act.put, List.setIfInBounds_toArray, List.set_cons_zero, List.set_cons_succ]
  refine takeH 22 45 (v := ?_) rfl rfl (by kernel_rfl) (by kernel_rfl) (by kernel_rfl) (fun _ _ _ h => h) (by rfl) ?_ (by assumption) ?_
  rotate_left
  · intro w hSw; go_simp; first | done | with_reducible rfl
  simp only [Act.put, List.setIfInBounds_toArray, List.set_cons_zero, List.set_cons_succ]
  refine takeH 23 46 (v := ?_) rfl rfl (by kernel_rfl) (by kernel_rfl) (by kernel_rfl) (fun _ _ _ h => h) (by rfl) ?_ (by assumption) ?_
  rotate_left
  · intro w hSw; go_simp; first | done | with_reducible rfl
  simp only [Act.put, List.setIfInBounds_toArray, List.set_cons_zero, List.set_cons_succ]
  refine takeH 24 47 (v := ?_) rfl rfl (by kernel_rfl) (by kernel_rfl) (by kernel_rfl) (fun _ _ _ h => h) (by rfl) ?_ (by assumption) ?_
  rotate_left
  · intro w hSw; go_simp; first | done | with_reducible rfl
  simp only [Act.put, List.setIfInBounds_toArray, List.set_cons_zero, List.set_cons_succ]
  refine skipH 25 48 rfl rfl (by kernel_rfl) (by kernel_rfl) (by kernel_rfl) (fun _ _ _ h => h) (by rfl) (by assumption) ?_
  simp only [Act.put, List.setIfInBounds_toArray, List.set_cons_zero, List.set_cons_succ]
  refine skipH 26 49 rfl rfl (by kernel_rfl) (by kernel_rfl) (by kernel_rfl) (fun _ _ _ h => h) (by rfl) (by assumption) ?_
  simp only [Act.put, List.setIfInBounds_toArray, List.set_cons_zero, List.set_cons_succ]
  refine skipH 27 50 rfl rfl (by kernel_rfl) (by kernel_rfl) (by kernel_rfl) (fun _ _ _ h => h) (by rfl) (by assumption) ?_
  simp only [Act.put, List.setIfInBounds_toArray, List.set_cons_zero, List.set_cons_succ]
  refine skipH 28 51 rfl rfl (by kernel_rfl) (by kernel_rfl) (by kernel_rfl) (fun _ _ _ h => h) (by rfl) (by assumption) ?_
  simp only [Act.put, List.setIfInBounds_toArray, List.set_cons_zero, List.set_cons_succ]
  refine skipH 29 52 rfl rfl (by kernel_rfl) (by kernel_rfl) (by kernel_rfl) (fun _ _ _ h => h) (by rfl) (by assumption) ?_
  simp only [Act.put, List.setIfInBounds_toArray, List.set_cons_zero, List.set_cons_succ]
  refine skipH 30 53 rfl rfl (by kernel_rfl) (by kernel_rfl) (by kernel_rfl) (fun _ _ _ h => h) (by rfl) (by assumption) ?_
  simp only [Act.put, List.setIfInBounds_toArray, List.set_cons_zero, List.set_cons_succ]
  refine takeH 31 54 (v := ?_) rfl rfl (by kernel_rfl) (by kernel_rfl) (by kernel_rfl) (fun _ _ _ h => h) (by rfl) ?_ (by assumption) ?_
  rotate_left
  · intro w hSw; go_simp; first | done | with_reducible rfl
  simp only [Act.put, List.setIfInBounds_toArray, List.set_cons_zero, List.set_cons_succ]
  refine takeH 32 55 (v := ?_) rfl rfl (by kernel_rfl) (by kernel_rfl) (by kernel_rfl) (fun _ _ _ h => h) (by rfl) ?_ (by assumption) ?_
  rotate_left
  · intro w hSw; go_simp; first | done | with_reducible rfl
  simp only [Act.put, List.setIfInBounds_toArray, List.set_cons_zero, List.set_cons_succ]
  refine wpAnyH_done (by kernel_rfl) (NoPanic.normal ?_) _
  go_wp2_with fail
  have I4 := HI.out.below bb3
  by_cases hl : k + n ≤ xs.length
  · refine (cut_ok _ _ xs _ I4 (by omega) hcap n k HR.out hl).mono ?_
    rintro e w5 ⟨v5, rfl, hown5, hb5⟩
    have b5 : Below w.heap.size w w5 := bb3.trans (hb5.mono zz3)
    have z5 := hb5.size
    have hx256 := I4.2
    have hform : ∃ q c, v5 = .slice q (xs.drop (k + n)).length c ∧ (q = none → c = 0) := by
      rcases ownsRow_forms hown5 with ⟨h, h0⟩ | ⟨g, c, h⟩
      · exact ⟨none, 0, by rw [h, h0], fun _ => rfl⟩
      · exact ⟨_, c, h, by simp⟩
    obtain ⟨p5, c5, hv5, hq5⟩ := hform
    rw [hv5] at hown5 ⊢
    have HQ5 : Hid (p5 = none → c5 = 0) := hq5
    have B5 := own_at hown5 rfl (fun c hc => hx256 c (List.mem_of_mem_drop hc))
    have HE : Hid _ := only_text hx256 HR.out hl
    have hts : Hid ((strOf ((xs.drop k).take n)).size ≤ 10000) := by show _ ≤ _; rw [strOf_size]; simp; omega
    have hL5 : Hid ((textN (strOf ((xs.drop k).take n))).length + (xs.drop (k + n)).length = xs.length) := by
      show _ = _
      have := congrArg List.length HE.out
      simpa using this
    have HX : Hid (∀ c ∈ xs, c < 256) := hx256
    generalize strOf ((xs.drop k).take n) = T at *
    generalize xs.drop (k + n) = R at *
    clear hv5 hq5 hown5 I4 hb5 hb3 B3 I3 bb3 HW HL q1 q0 q2 q3 q5 q4 hx256
    go_wp2_with fail
    refine (text_any T _ (by have := hts.out; omega)).mono ?_
    rintro e w6 ⟨v6, rfl, hown6, hb6⟩
    have z6 := hb6.size
    have b6 : Below w.heap.size w w6 := b5.trans (hb6.mono (by omega))
    have B6 := B5.below hb6
    have l6 : Hid ((textN T).length + R.length ≤ 140737488355328) := by show _ ≤ _; have := hL5.out; omega
    go_wp2_with (at_builtin; refine wpList_append_bytes_on _ (by rfl) _ _ rfl w5.heap.size _ (textN T) R _ _ _ rfl rfl rfl hown6 B6 HQ5.out l6.out z6 ?_)
    intro v7 w7 hown7 hgrow7
    have z7 := hgrow7.size
    have b7 : Below w.heap.size w w7 := b6.grown hgrow7 (by omega) (fun k hk => by have := (hown6.lt k hk).1; omega)
    have hlen7 : 0 < (textN T).length := by rw [textN]; have := smallN_pos T.size; simp; omega
    obtain ⟨g7, c7, rfl⟩ := ownsRow_form hown7 (by omega)
    have B7 := own_at hown7 (by simp) (HE.out ▸ HX.out)
    have I7 := HI.out.below b7
    clear hown6 hown7 hgrow7 B5 B6 hb6 b5 b6
    go_wp2_with fail
    refine (same_eq _ _ _ _ _ _ (textN T ++ R) xs _ (by simp) rfl HE.out B7 I7).mono ?_
    rintro e w8 ⟨rfl, rfl⟩
    go_wp2
    go_ret
    exact ⟨rfl, b7⟩
  · refine (cut_long _ _ xs _ I4 HM.out n k HR.out (by omega)).mono ?_
    rintro e w5 ⟨rfl, rfl⟩
    clear HW HE HL B3 I3 I4
    go_wp2
    go_ret
    exact ⟨rfl, bb3⟩

theorem walk (a0 : Option Addr) (len0 cap0 : Nat) (z0 : List Int) (w : World) (w0 : IsRow .u8 w a0 len0 cap0 z0) :
    Calls Try.prog 7 #[.slice a0 len0 cap0] w fun e w' => e = .returned (.bool true) ∧ Below w.heap.size w w' := by
  obtain ⟨xs, rfl, hin, hc, hm, hp⟩ := row_bin w0
  by_cases h : 10000 < xs.length
  · exact walk_big a0 _ cap0 w h
  · rcases hr : readN xs with _ | ⟨n, k⟩
    · exact walk_none a0 cap0 xs w hin (by omega) hr
    · exact walk_some a0 cap0 xs w hin (by omega) hc n k hr

/-! ### THE ROW's STEP: WRITTEN OUT: LEAVE IT -/
set_option maxRecDepth 100000 in
theorem lifted (os : Os) (started : os.Started) (H : Type) (enc : TypeId × Value → H) :
    ReturnsInHanded {} Try.checked os 7 .any (Rows.bitsOnlySpec.pre6 enc Try.prog Try.f7 Rows.bitsOnlyRow.domain false) (Rows.bitsOnlySpec.post enc Try.prog Try.f7 false true false false) := by
  refine returnsInHanded_of_change (C := Try.checked) own started (by kernel_rfl) Try.func7
    (ChangeSpec.witness6 (enc := enc) (C := Try.checked) false ⟨#[], #[.slice none 0 0], []⟩ 8 (by kernel_rfl) (by kernel_rfl) (by kernel_rfl) (by kernel_rfl)) ?_
  intro W base args ds gs before hval0 hW hcnd _
  have hval : ∀ (j : Nat) t v, Try.f7.params[j]? = some t → args[j]? = some v → Value.okWide Try.prog W .any base t v := hval0
  have hW' := hW
  obtain ⟨p, q, hA0, hV, rfl, hfz, hnd⟩ := hW
  have hA : DataW.TrodAll enc Try.prog W 0 (fun _ => true) true Try.f7.params.toList args.toList ds p := hA0
  rw [Try.params7] at hA hval
  obtain ⟨v0, vs0, d0, ds0, p0, q0, hargs, rfl, rfl, h0, r0⟩ := trodAll_cons hA
  obtain ⟨rfl, rfl, rfl⟩ := trodAll_nil r0
  obtain rfl : args = #[v0] := by cases args; simp_all
  obtain ⟨rfl, rfl⟩ := trodVars_none hV
  obtain ⟨a0, len0, cap0, rfl⟩ := okWide_slice Try.underlying26 (hval 0 26 v0 rfl rfl)
  have k0 := h0
  have lt0 : ∀ x ∈ p0, x.block < W.heap.size := by obtain ⟨m, hm⟩ := k0; exact DataW.trod_lt m _ _ _ hm
  obtain ⟨z0, w0⟩ : ∃ zs, IsRow .u8 W a0 len0 cap0 zs := by
    obtain ⟨fuel, hf⟩ := h0
    rcases open_ints Try.underlying26 Try.underlying5 (by kernel_rfl) hf with ⟨hcs, _⟩ | ⟨x, l, c, zs, hcs, _, hl, hm, hz, _, hcell, hwz⟩
    · simp [Value.cells] at hcs
      obtain ⟨rfl, rfl, rfl⟩ := hcs
      exact ⟨[], .inl ⟨rfl, rfl, rfl, rfl⟩⟩
    · simp [Value.cells] at hcs
      obtain ⟨rfl, rfl, rfl⟩ := hcs
      exact ⟨zs, .inr ⟨_, rfl, hl, hm, by simpa using hz, hcell, hwz⟩⟩
  clear hA0 hval0
  refine (walk a0 len0 cap0 z0 W w0).mono fun e W' ⟨he, bel⟩ => ?_
  subst he
  exact ⟨_, rfl, _, _, _, [], _, [], hW', trodAll_mk1 (shut_bool Try.underlying4 _), (trodAll_cons_mk (Below.trod laidOut (by kernel_rfl) (of_decide_eq_true (by kernel_rfl)) k0 bel lt0) trodAll_mk0), rfl, bel.frame _, fun h => by cases h⟩

theorem over : Rows.bitsOnlyRow.holds Try.pinned (OpenSpec.ofChange Rows.bitsOnlySpec) :=
  OpenClaim.holds_of_wide 7 Try.f7 rfl rfl rfl rfl rfl rfl rfl ⟨rfl, rfl, rfl, rfl, rfl⟩ rfl rfl rfl rfl rfl (by kernel_rfl) Try.func7 (by kernel_rfl)
    (of_decide_eq_true (by kernel_rfl)) (by unfold Func.isWrapper; first | (rw [if_pos (by decide +kernel)]; kernel_rfl) | (rw [if_neg (by decide +kernel)]; exact ⟨rfl, rfl⟩))
    (fun os started H enc _ => lifted os started H enc)

theorem proved : Rows.BitsOnlySaid := over
end Go.Proofs.Ytdbgbaclgdkkjaa.bitsOnly
namespace Go.Proofs.Ytdbgbaclgdkkjaa
theorem bitsOnly_holds : Rows.BitsOnlySaid := bitsOnly.proved
#print axioms bitsOnly_holds
end Go.Proofs.Ytdbgbaclgdkkjaa
