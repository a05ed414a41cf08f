/-
  Proved: for every number n and all bytes b the law BitsNumbers answers true: Put, Small, Get and Read write and read numbers as the document says, what is handed in is only read, and what is answered is new memory.
  Conditions: none (every uint64, every []byte that can be read).
-/
import Derived.Test.YtdbgbaclgdkkjaaRows
import Derived.Test.YtdbgbaclgdkkjaaBoth
import Derived.WalkKit
import Derived.ProofKit
import Derived.OpenShut
import Derived.ShutString
import Derived.ChangeOld
import Derived.Below
namespace Go.Proofs.Ytdbgbaclgdkkjaa.bitsNumbers
open Go.ChangeShapes Go.WideShapes Go.ChangeAt Go.RowKit
open Go.ChangeMaps (open_string shut_string)
set_option linter.unusedVariables false

theorem own : ownKnob Try.prog.godebug = none := by kernel_rfl
theorem laidOut : laidOutB Try.prog = true := by kernel_rfl

open Go.Joins
theorem form_of {w : World} {base n : Nat} {v : Value} {L : List Value} {xs : List Nat} (h : w.ownsRow base 5 1 v n L) (hn : n = xs.length) : ∃ q c, v = .slice q xs.length c := by
  subst hn
  rcases ownsRow_forms h with ⟨hv, h0⟩ | ⟨g, c, hv⟩
  · exact ⟨none, 0, by rw [hv, h0]⟩
  · exact ⟨_, c, hv⟩
/-! ### STEP 1: THE WALK -/
set_option maxHeartbeats 1000000 in
theorem walk_big (n : Nat) (p : Option Addr) (len cap : Nat) (w : World) (hbig : 100000 < len) :
    Calls Try.prog 4 #[.int .u64 n, .slice p len cap] w fun e w' => e = .returned (.bool true) ∧ Below w.heap.size w w' := by
  go_enter Try.func4, Try.ntmps4
  go_wp2
  go_ret
  exact ⟨rfl, Below.refl _ _⟩
set_option maxHeartbeats 2000000 in
theorem walk_main (n : Nat) (hn : n < 18446744073709551616) (p : Option Addr) (cap : Nat) (xs : List Nat) (hx : xs.length ≤ 100000) (w : World) (hin : BIn w p xs) (hp : p = none → cap = 0) :
    Calls Try.prog 4 #[.int .u64 n, .slice p xs.length cap] w fun e w' => e = .returned (.bool true) ∧ Below w.heap.size w w' := by
  have hten := smallN_ten n hn
  have hpos := smallN_pos n
  have HP : Hid (p = none → cap = 0) := hp
  have HI : Hid (BIn w p xs) := hin
  have HM : Hid (xs.length ≤ maxLen) := by show _ ≤ _; unfold maxLen; omega
  have Z1 : Hid (([] : List Nat).length + xs.length ≤ 140737488355328) := by show _ ≤ _; simp; omega
  clear hp hin
  go_enter Try.func4, Try.ntmps4
  go_wp2_with (at_builtin; refine wpList_append_bytes _ rfl _ _ rfl w.heap.size _ [] xs p _ cap rfl rfl rfl (World.ownsRow_nil _ _ _ _) HI.out HP.out Z1.out (Nat.le_refl _) ?_)
  intro v1 w1 hown1 hgrow1
  have b1 : Below w.heap.size w w1 := (Below.refl w.heap.size w).grown hgrow1 (Nat.le_refl _) (fun k hk => by simp [Value.ownBlock] at hk)
  obtain ⟨q1, c1, hv1⟩ := form_of (xs := xs) hown1 (by simp)
  rw [hv1] at hown1 ⊢
  have I1 : Hid (BIn w1 q1 xs) := own_at (xs := xs) (by simpa using hown1) rfl HI.out.2
  have z1 := b1.size
  clear hown1 hgrow1 hv1 Z1 HP
  go_wp2_with fail
  refine (put_form n _ hn).mono ?_
  rintro e w2 ⟨g2, rfl, hblk2, hg2, hB2, hb2⟩
  have K2 : Hid _ := hblk2
  have P2 : Hid (BIn w2 (some ⟨g2, 0, none⟩) (putN n)) := hB2
  have I2 : Hid (BIn w2 q1 xs) := I1.out.below hb2
  have b2 : Below w.heap.size w w2 := b1.trans (hb2.mono z1)
  have z2 := b2.size
  clear hblk2 hB2 hb2 I1 b1
  go_wp2_with fail
  refine (small_form n _ hn).mono ?_
  rintro e w3 ⟨g3, c3, rfl, hown3, hb3⟩
  have O3 : Hid _ := hown3
  have K3 : Hid _ := block_below K2.out hb3
  have P3 : Hid (BIn w3 (some ⟨g2, 0, none⟩) (putN n)) := P2.out.below hb3
  have I3 : Hid (BIn w3 q1 xs) := I2.out.below hb3
  have b3 : Below w.heap.size w w3 := b2.trans (hb3.mono z2)
  have z3 := b3.size
  have hg23 : Hid (g3 ≠ g2) := by
    intro e
    have h1 := (hown3.lt g3 rfl).1
    have h2 : g2 < w2.heap.size := (Array.getElem?_eq_some_iff.1 K2.out).1
    omega
  clear hown3 hb3 b2 K2 P2 I2
  go_wp2_with fail
  refine (get_any _ _ xs _ I3.out).mono ?_
  rintro e w4 ⟨rfl, hb4⟩
  have O4 : Hid _ := own_below O3.out hb4
  have K4 : Hid _ := block_below K3.out hb4
  have P4 : Hid (BIn w4 (some ⟨g2, 0, none⟩) (putN n)) := P3.out.below hb4
  have I4 : Hid (BIn w4 q1 xs) := I3.out.below hb4
  have b4 : Below w.heap.size w w4 := b3.trans (hb4.mono z3)
  have z4 := b4.size
  clear O3 K3 P3 I3 b3 hb4
  go_wp2_with fail
  refine (refGet_any _ _ xs _ (HI.out.below b4)).mono ?_
  rintro e w' ⟨rfl, rfl⟩
  go_wp2_with fail
  refine (read_all _ _ xs _ I4.out HM.out).mono ?_
  rintro e w'' ⟨rfl, rfl⟩
  go_wp2_with fail
  refine (refRead_all _ _ xs _ (HI.out.below b4) HM.out).mono ?_
  rintro e w4 ⟨rfl, rfl⟩
  go_wp2_with fail
  refine (refPut_form n _ hn).mono ?_
  rintro e w5 ⟨g5, c5, rfl, B5, hb5⟩
  have O5 : Hid (w5.ownsRow w2.heap.size 5 1 (.slice (some ⟨g3, 0, none⟩) (smallN n).length c3) (smallN n).length (Bs (smallN n))) := own_below O4.out hb5
  have K5 : Hid _ := block_below K4.out hb5
  have P5 := P4.out.below hb5
  have I5 : Hid (BIn w5 q1 xs) := I4.out.below hb5
  have b5 : Below w.heap.size w w5 := b4.trans (hb5.mono z4)
  have z5 := b5.size
  clear O4 K4 P4 I4 b4 hb5
  go_wp2_with fail
  refine (refSame_eq _ _ 8 8 _ _ (putN n) (putN n) _ rfl rfl rfl P5 B5).mono ?_
  rintro e w' ⟨rfl, rfl⟩
  clear P5 B5
  go_wp2_with fail
  refine (refSmall_form n _ hn).mono ?_
  rintro e w6 ⟨g6, c6, rfl, B6, hb6⟩
  have O6 : Hid (w6.ownsRow w2.heap.size 5 1 (.slice (some ⟨g3, 0, none⟩) (smallN n).length c3) (smallN n).length (Bs (smallN n))) := own_below O5.out hb6
  have K6 : Hid _ := block_below K5.out hb6
  have S6 := own_at O6.out rfl (smallN_bytes n)
  have I6 : Hid (BIn w6 q1 xs) := I5.out.below hb6
  have b6 : Below w.heap.size w w6 := b5.trans (hb6.mono z5)
  have z6 := b6.size
  clear O5 K5 I5 b5 hb6
  go_wp2_with fail
  refine (refSame_eq _ _ _ _ _ _ (smallN n) (smallN n) _ rfl rfl rfl S6 B6).mono ?_
  rintro e w' ⟨rfl, rfl⟩
  clear S6 B6
  go_wp2_with fail
  refine (refSame_eq _ _ _ _ _ _ xs xs _ rfl rfl rfl I6.out (HI.out.below b6)).mono ?_
  rintro e w6 ⟨rfl, rfl⟩
  clear I6
  go_wp2_with fail
  have hg2' : w.heap.size ≤ g2 := by omega
  go_loopw [18] (fun i wr => ∃ k : Nat, ∃ cs : Array Value, k ≤ 8 ∧ i = .int .i64 k ∧ cs.size = 8 ∧ wr.heap[g2]? = some (.cells cs 51 (0, 0)) ∧ wr.ownsRow w2.heap.size 5 1 (.slice (some ⟨g3, 0, none⟩) (smallN n).length c3) (smallN n).length (Bs (smallN n)) ∧ Below w.heap.size w wr)
    (fun i _ => 8 - (intOf i).toNat)
  case atStart => exact ⟨0, _, by omega, rfl, by simp [Bs, putN], K6.out, O6.out, b6⟩
  case round =>
    obtain ⟨k, cs, hk, rfl, hcs, hblk, hown, hbel⟩ := hrel
    have HB : Hid _ := hblk
    have HO : Hid _ := hown
    have HS : Hid (cs.size = 8) := hcs
    clear hcs
    by_cases hlt : k < 8
    · have hcl : wr.cell? ⟨g2, k, none⟩ = some (cs[k]'(by rw [HS.out]; exact hlt)) := by rw [cell_of_block hblk]; simp
      have hfz : wr.frozen? ⟨g2, k, none⟩ = false := unfrozen_of_block hblk k
      clear hblk hown
      generalize cs[k]'(by rw [HS.out]; exact hlt) = old at *
      go_wp2
      go_roundw
      case rel => exact ⟨k + 1, cs.setIfInBounds k (.int .u8 77), by omega, by go_num, by simpa using HS.out, block_setCell HB.out _, ownsRow_setCell_other HO.out (by simp [Value.ownBlock]; exact hg23.out) _, hbel.setCell hg2' _⟩
      case measure => simp [intOf]; omega
    · clear hblk hown
      go_wp2_with fail
      have zr := hbel.size
      clear HB HS O6 K6 b6 hg23
      go_loopw [19] (fun i ws => ∃ j : Nat, ∃ L : List Value, j ≤ (smallN n).length ∧ i = .int .i64 j ∧ ws.ownsRow w2.heap.size 5 1 (.slice (some ⟨g3, 0, none⟩) (smallN n).length c3) (smallN n).length L ∧ Below w.heap.size w ws)
        (fun i _ => (smallN n).length - (intOf i).toNat)
      case atStart => exact ⟨0, _, by omega, rfl, HO.out, hbel⟩
      case round =>
        obtain ⟨j, L, hj, rfl, hown, hbel2⟩ := hrel
        have HO2 : Hid _ := hown
        have hg3 : w.heap.size ≤ g3 := by have := (hown.lt g3 rfl).1; omega
        by_cases hjl : j < (smallN n).length
        · have hLl : j < L.length := by have := hown.1; omega
          have hcl : wr.cell? ⟨g3, j, none⟩ = some L[j] := by rw [hown.cellAt j (by omega)]; simp [List.getElem?_eq_getElem hLl]
          have hfz : wr.frozen? ⟨g3, j, none⟩ = false := hown.frozenAt j
          clear hown HO hbel
          generalize L[j] = old at *
          generalize (smallN n).length = len at *
          go_wp2
          go_roundw
          case rel => exact ⟨j + 1, L.set j (.int .u8 77), by omega, by go_num, (World.ownsRow.stored HO2.out j _).1, hbel2.setCell hg3 _⟩
          case measure => simp [intOf]; omega
        · clear hown HO hbel HO2
          have zs := hbel2.size
          go_wp2_with fail
          refine (put_form n _ hn).mono ?_
          rintro e w8 ⟨g8, rfl, _, _, P8, hb8⟩
          have b8 : Below w.heap.size w w8 := hbel2.trans (hb8.mono zs)
          have z8 := b8.size
          clear hb8 hbel2
          go_wp2_with fail
          refine (refPut_form n _ hn).mono ?_
          rintro e w9 ⟨g9, c9, rfl, B9, hb9⟩
          have P9 := P8.below hb9
          have b9 : Below w.heap.size w w9 := b8.trans (hb9.mono z8)
          have z9 := b9.size
          clear P8 hb9 b8
          go_wp2_with fail
          refine (refSame_eq _ _ 8 8 _ _ (putN n) (putN n) _ rfl rfl rfl P9 B9).mono ?_
          rintro e w' ⟨rfl, rfl⟩
          clear P9 B9
          go_wp2_with fail
          refine (small_form n _ hn).mono ?_
          rintro e w10 ⟨g10, c10, rfl, hown10, hb10⟩
          have S10 := own_at hown10 rfl (smallN_bytes n)
          have b10 : Below w.heap.size w w10 := b9.trans (hb10.mono z9)
          have z10 := b10.size
          clear hown10 hb10 b9
          go_wp2_with fail
          refine (refSmall_form n _ hn).mono ?_
          rintro e w11 ⟨g11, c11, rfl, B11, hb11⟩
          have S11 := S10.below hb11
          have b11 : Below w.heap.size w w11 := b10.trans (hb11.mono z10)
          clear S10 hb11 b10
          go_wp2_with fail
          refine (refSame_eq _ _ _ _ _ _ (smallN n) (smallN n) _ rfl rfl rfl S11 B11).mono ?_
          rintro e w' ⟨rfl, rfl⟩
          go_wp2
          go_ret
          exact ⟨rfl, b11⟩
theorem walk (a0 : Int) (a1 : Option Addr) (len1 cap1 : Nat) (z1 : List Int) (w : World) (w0 : (Lit.int .u64 a0).wf = true) (w1 : IsRow .u8 w a1 len1 cap1 z1) :
    Calls Try.prog 4 #[.int .u64 a0, .slice a1 len1 cap1] w fun e w' => e = .returned (.bool true) ∧ Below w.heap.size w w' := by
  have hb := bounds_u64 w0
  obtain ⟨n, rfl⟩ := Int.eq_ofNat_of_zero_le hb.1
  obtain ⟨xs, rfl, hin, hc, hm, hp⟩ := row_bin w1
  by_cases h : 100000 < xs.length
  · exact walk_big n a1 _ cap1 w h
  · exact walk_main n (by omega) a1 cap1 xs (by omega) w hin hp

/-! ### THE ROW's STEP: WRITTEN OUT: LEAVE IT -/
set_option maxRecDepth 100000 in
theorem lifted (os : Os) (started : os.Started) (H : Type) (enc : TypeId × Value → H) :
    ReturnsInHanded {} Try.checked os 4 .any (Rows.bitsNumbersSpec.pre6 enc Try.prog Try.f4 Rows.bitsNumbersRow.domain false) (Rows.bitsNumbersSpec.post enc Try.prog Try.f4 false true false false) := by
  refine returnsInHanded_of_change (C := Try.checked) own started (by kernel_rfl) Try.func4
    (ChangeSpec.witness6 (enc := enc) (C := Try.checked) false ⟨#[], #[.int .u64 0, .slice none 0 0], []⟩ 8 (by kernel_rfl) (by kernel_rfl) (by kernel_rfl) (by kernel_rfl)) ?_
  intro W base args ds gs before hval0 hW hcnd _
  have hval : ∀ (j : Nat) t v, Try.f4.params[j]? = some t → args[j]? = some v → Value.okWide Try.prog W .any base t v := hval0
  have hW' := hW
  obtain ⟨p, q, hA0, hV, rfl, hfz, hnd⟩ := hW
  have hA : DataW.TrodAll enc Try.prog W 0 (fun _ => true) true Try.f4.params.toList args.toList ds p := hA0
  rw [Try.params4] at hA hval
  obtain ⟨v0, vs0, d0, ds0, p0, q0, hargs, rfl, rfl, h0, r0⟩ := trodAll_cons hA
  obtain ⟨v1, vs1, d1, ds1, p1, q1, rfl, rfl, rfl, h1, r1⟩ := trodAll_cons r0
  obtain ⟨rfl, rfl, rfl⟩ := trodAll_nil r1
  obtain rfl : args = #[v0, v1] := by cases args; simp_all
  obtain ⟨rfl, rfl⟩ := trodVars_none hV
  obtain ⟨a0, rfl, rfl, rfl, w0⟩ := open_int Try.underlying22 (hval 0 22 v0 rfl rfl) h0
  obtain ⟨a1, len1, cap1, rfl⟩ := okWide_slice Try.underlying26 (hval 1 26 v1 rfl rfl)
  have k1 := h1
  have lt1 : ∀ x ∈ p1, x.block < W.heap.size := by obtain ⟨m, hm⟩ := k1; exact DataW.trod_lt m _ _ _ hm
  obtain ⟨z1, w1⟩ : ∃ zs, IsRow .u8 W a1 len1 cap1 zs := by
    obtain ⟨fuel, hf⟩ := h1
    rcases open_ints Try.underlying26 Try.underlying5 (by kernel_rfl) hf with ⟨hcs, _⟩ | ⟨x, l, c, zs, hcs, _, hl, hm, hz, _, hcell, hwz⟩
    · simp [Value.cells] at hcs
      obtain ⟨rfl, rfl, rfl⟩ := hcs
      exact ⟨[], .inl ⟨rfl, rfl, rfl, rfl⟩⟩
    · simp [Value.cells] at hcs
      obtain ⟨rfl, rfl, rfl⟩ := hcs
      exact ⟨zs, .inr ⟨_, rfl, hl, hm, by simpa using hz, hcell, hwz⟩⟩
  clear hA0 hval0
  refine (walk a0 a1 len1 cap1 z1 W w0 w1).mono fun e W' ⟨he, bel⟩ => ?_
  subst he
  exact ⟨_, rfl, _, _, _, [], _, [], hW', trodAll_mk1 (shut_bool Try.underlying4 _), (trodAll_cons_mk (shut_int Try.underlying22 w0) (trodAll_cons_mk (Below.trod laidOut (by kernel_rfl) (of_decide_eq_true (by kernel_rfl)) k1 bel lt1) trodAll_mk0)), rfl, bel.frame _, fun h => by cases h⟩

theorem over : Rows.bitsNumbersRow.holds Try.pinned (OpenSpec.ofChange Rows.bitsNumbersSpec) :=
  OpenClaim.holds_of_wide 4 Try.f4 rfl rfl rfl rfl rfl rfl rfl ⟨rfl, rfl, rfl, rfl, rfl⟩ rfl rfl rfl rfl rfl (by kernel_rfl) Try.func4 (by kernel_rfl)
    (of_decide_eq_true (by kernel_rfl)) (by unfold Func.isWrapper; first | (rw [if_pos (by decide +kernel)]; kernel_rfl) | (rw [if_neg (by decide +kernel)]; exact ⟨rfl, rfl⟩))
    (fun os started H enc _ => lifted os started H enc)

theorem proved : Rows.BitsNumbersSaid := over
end Go.Proofs.Ytdbgbaclgdkkjaa.bitsNumbers
namespace Go.Proofs.Ytdbgbaclgdkkjaa
theorem bitsNumbers_holds : Rows.BitsNumbersSaid := bitsNumbers.proved
#print axioms bitsNumbers_holds
end Go.Proofs.Ytdbgbaclgdkkjaa
