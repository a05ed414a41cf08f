/-
  Proved: for any three lists of bytes the law BitsMixed answers true: the sum of three lists' exclusive or, of as many bytes each, is their sums' exclusive or.
  Conditions: none (every three []byte that can be read).
-/
import Derived.Test.YtdbgbaclgdkkjabRows
import Derived.Test.YtdbgbaclgdkkjabBase
import Derived.Test.YtdbgbaclgdkkjabMix
import Derived.Deep.QuietTactic
import Derived.BigQuiet
import Derived.Deep.RegionWith
import Derived.WalkKit
import Derived.ProofKit
import Derived.OpenShut
import Derived.ShutString
import Derived.ChangeOld
import Derived.Below
namespace Go.Proofs.Ytdbgbaclgdkkjab.bitsMixed
open Go.ChangeShapes Go.WideShapes Go.ChangeAt Go.RowKit
open Go.ChangeMaps (open_string shut_string)
set_option linter.unusedVariables false

theorem own : ownKnob Try.prog.godebug = none := by kernel_rfl
theorem laidOut : laidOutB Try.prog = true := by kernel_rfl

open Go.Joins
theorem Bs_set (ys : List Nat) (j c : Nat) : (Bs ys).set j (.int .u8 (c : Int)) = Bs (ys.set j c) := by simp [Bs, List.map_set]
theorem xor8 (a b : Nat) (ha : a < 256) (hb : b < 256) : bits BinOp.xor IntKind.u8 (a : Int) (b : Int) = ((a ^^^ b : Nat) : Int) := u8_xor_nat a b ha hb
theorem slice_upto (p : Option Addr) (len cap n : Nat) (h : n ≤ cap) (w : World) : (Instr.slice 22 (.slice p len cap) none (some (.int .i64 n)) none).run Try.prog w = .ok (.slice p n cap) w := by
  have q1 : (0 : Int) ≤ (n : Int) ∧ (n : Int) ≤ (cap : Int) := by omega
  cases p with
  | none => simp [go_sem, q1]
  | some a => simp [go_sem, q1]
theorem made_zero (n : Nat) : (madeCells #[Value.int IntKind.u8 0] n).toList = Bs (List.replicate n 0) := by
  rw [toList_madeCells_one]; simp [Bs]
theorem bin_take {w : World} {p : Option Addr} {xs : List Nat} (h : BIn w p xs) (n : Nat) : BIn w p (xs.take n) := by
  refine ⟨fun hp => ?_, fun c hc => h.2 c (List.mem_of_mem_take hc)⟩
  simp at hp
  obtain ⟨b, o, rfl, hc⟩ := h.1 (by omega)
  refine ⟨b, o, rfl, fun i hi => ?_⟩
  simp at hi
  rw [hc i (by omega)]
  simp [List.getD, show i < n from by omega]
theorem sum_drew (p : Option Addr) (n cap : Nat) (xs : List Nat) (w : World) (z : Int) (hn : n = xs.length) (hz : (sumN xs : Int) = z) (hb : BIn w p xs) (hm : xs.length ≤ maxLen) (nq : Nat) :
    Calls Try.prog 6 #[.slice p n cap] (w.drewN nq) fun e w' => e = .returned (.int .u32 z) ∧ w' = w.drewN nq :=
  sum_at p n cap xs (w.drewN nq) z hn hz hb hm
/-! ### STEP 1: THE WALK -/
set_option maxHeartbeats 1000000 in
theorem walk_main (pa pb pc : Option Addr) (ca cb cc : Nat) (xs ys zs : List Nat) (w : World) (ha : BIn w pa xs) (hb : BIn w pb ys) (hc : BIn w pc zs) (ka : xs.length ≤ ca) (kb : ys.length ≤ cb) (kc : zs.length ≤ cc) (ma : ca ≤ maxLen) (mb : cb ≤ maxLen) (mc : cc ≤ maxLen) :
    Calls Try.prog 4 #[.slice pa xs.length ca, .slice pb ys.length cb, .slice pc zs.length cc] w fun e w' => e = .returned (.bool true) ∧ Below w.heap.size w w' := by
  obtain ⟨i0, hi, hz0, hz1, hz2⟩ := info_parts info5
  have HA : Hid (BIn w pa xs) := ha
  have HB : Hid (BIn w pb ys) := hb
  have HC : Hid (BIn w pc zs) := hc
  clear ha hb hc
  unfold maxLen at ma mb mc
  obtain ⟨m, hm, hm1, hm2⟩ : ∃ m : Nat, (if ys.length < xs.length then (ys.length : Int) else (xs.length : Int)) = (m : Int) ∧ m ≤ xs.length ∧ m ≤ ys.length := by
    by_cases h : ys.length < xs.length
    · exact ⟨ys.length, by rw [if_pos h], by omega, by omega⟩
    · exact ⟨xs.length, by rw [if_neg h], by omega, by omega⟩
  obtain ⟨n, hn, hn1, hn2⟩ : ∃ n : Nat, (if zs.length < m then (zs.length : Int) else (m : Int)) = (n : Int) ∧ n ≤ zs.length ∧ n ≤ m := by
    by_cases h : zs.length < m
    · exact ⟨zs.length, by rw [if_pos h], by omega, by omega⟩
    · exact ⟨m, by rw [if_neg h], by omega, by omega⟩
  by_cases hbig : 10000 < n
  · go_enter Try.func4, Try.ntmps4
    go_wp2_with (go_at_call 5; refine (alive_any _).mono ?_; rintro e w1 ⟨rfl, hb1⟩)
    go_ret
    exact ⟨rfl, hb1⟩
  · have hn4 : n ≤ 10000 := by omega
    clear hbig
    have BN : Hid (i0.bytes * n ≤ 281474976710656) := by show _ ≤ _; rw [hz2]; omega
    have BM : Hid (n ≤ maxLen) := by show _ ≤ _; unfold maxLen; omega
    go_enter Try.func4, Try.ntmps4
    go_wp2_with fail
    refine (alive_any _).mono ?_
    rintro e w1 ⟨rfl, b1⟩
    have z1 := b1.size
    go_wp2_with (at_make; refine wpList_make_full _ rfl _ _ 22 rfl w1.heap.size 5 i0 (.int .u8 0) 1 Try.underlying22 hi hz0 hz1 .i64 .i64 _ _ n rfl rfl rfl rfl BN.out BM.out (Nat.le_refl _) ?_)
    intro w2 hown2 hgrow2
    have d2 : Below w1.heap.size w1 w2 := (Below.refl w1.heap.size w1).grown hgrow2 (Nat.le_refl _) (fun k hk => by cases hk)
    rw [made_zero] at hown2
    have O2 : Hid (w2.ownsRow w1.heap.size 5 1 (.slice (some ⟨w1.heap.size, 0, none⟩) n n) n (Bs (List.replicate n 0))) := hown2
    clear hown2 hgrow2 hm hn
    go_wp2_with fail
    go_loopw [10] (fun i wr => ∃ k : Nat, k ≤ n ∧ i = .int .i64 k ∧ wr.ownsRow w1.heap.size 5 1 (.slice (some ⟨w1.heap.size, 0, none⟩) n n) n (Bs (mixK n xs ys zs k)) ∧ Below w1.heap.size w1 wr)
      (fun i _ => n - (intOf i).toNat)
    case atStart => exact ⟨0, by omega, rfl, O2.out, d2⟩
    case round =>
      obtain ⟨k, hk, rfl, hown, hbel⟩ := hrel
      have HYL : Hid ((mixK n xs ys zs k).length = n) := mixK_len n xs ys zs k
      have b3 := b1.trans (hbel.mono z1)
      have BA := HA.out.below b3
      have BB := HB.out.below b3
      have BC := HC.out.below b3
      clear O2 d2
      by_cases hkn : k < n
      · obtain ⟨ba, oa, rfl, cla⟩ := BA.1 (by omega)
        obtain ⟨bb, ob, rfl, clb⟩ := BB.1 (by omega)
        obtain ⟨bc, oc, rfl, clc⟩ := BC.1 (by omega)
        have ea := cla k (by omega)
        have eb := clb k (by omega)
        have ec := clc k (by omega)
        have la := getD_lt BA.2 k
        have lb := getD_lt BB.2 k
        have lc := getD_lt BC.2 k
        have x1 := xor8 _ _ la lb
        have x2 := xor8 _ _ (show xs.getD k 0 ^^^ ys.getD k 0 < 256 from Nat.xor_lt_two_pow (n := 8) la lb) lc
        have ew : ∃ old, wr.cell? ⟨w1.heap.size, k, none⟩ = some old := by
          refine ⟨.int .u8 ((mixK n xs ys zs k).getD k 0 : Nat), ?_⟩
          rw [hown.cellAt k (by omega)]; simp [Bs, List.getD, List.getElem?_eq_getElem (show k < (mixK n xs ys zs k).length from by rw [HYL.out]; exact hkn)]
        obtain ⟨old, ew⟩ := ew
        have hfz : wr.frozen? ⟨w1.heap.size, k, none⟩ = false := hown.frozenAt _
        have HS : Hid (∀ u, (wr.setCell ⟨w1.heap.size, k, none⟩ u).ownsRow w1.heap.size 5 1 (.slice (some ⟨w1.heap.size, 0, none⟩) n n) n ((Bs (mixK n xs ys zs k)).set k u)) := fun u => (hown.stored k u).1
        have HK : Hid (mixK n xs ys zs (k + 1) = (mixK n xs ys zs k).set k (xs.getD k 0 ^^^ ys.getD k 0 ^^^ zs.getD k 0)) := rfl
        generalize xs.getD k 0 = ax at *
        generalize ys.getD k 0 = ay at *
        generalize zs.getD k 0 = az at *
        generalize ax ^^^ ay = axy at *
        generalize axy ^^^ az = axyz at *
        have q0 : (0 : Int) ≤ (k : Int) := by omega
        have q1 : (k : Int) < (xs.length : Int) := by omega
        have q2 : (k : Int) < (ys.length : Int) := by omega
        have q3 : (k : Int) < (zs.length : Int) := by omega
        have q4 : (k : Int) < (n : Int) := by omega
        clear hown cla clb clc BA BB BC
        go_wp2_with fail
        go_region
        all_goals
          go_wp2
          go_roundw
          case rel => exact ⟨k + 1, by omega, by go_num, by rw [HK.out, ← Bs_set]; exact HS.out _, (hbel.setCell (Nat.le_refl _) _).drew⟩
          case measure => simp [intOf]; omega
      · obtain rfl : k = n := by omega
        have hBM := mixK_bytes k HA.out.2 HB.out.2 HC.out.2 k
        have BX : Hid (BIn wr (some ⟨w1.heap.size, 0, none⟩) (mixK k xs ys zs k)) := own_at hown HYL.out.symm hBM
        have TA : Hid (BIn wr pa (xs.take k)) := bin_take BA k
        have TB : Hid (BIn wr pb (ys.take k)) := bin_take BB k
        have TC : Hid (BIn wr pc (zs.take k)) := bin_take BC k
        have LA : Hid (k = (xs.take k).length) := by show _ = _; simp; omega
        have LB : Hid (k = (ys.take k).length) := by show _ = _; simp; omega
        have LC : Hid (k = (zs.take k).length) := by show _ = _; simp; omega
        have MX : Hid ((mixK k xs ys zs k).length ≤ maxLen) := by show _ ≤ _; rw [HYL.out]; exact BM.out
        have MA : Hid ((xs.take k).length ≤ maxLen) := by show _ ≤ _; rw [← LA.out]; exact BM.out
        have MB : Hid ((ys.take k).length ≤ maxLen) := by show _ ≤ _; rw [← LB.out]; exact BM.out
        have MC : Hid ((zs.take k).length ≤ maxLen) := by show _ ≤ _; rw [← LC.out]; exact BM.out
        have HE : Hid _ := sum_mix (n := k) (xs := xs) (ys := ys) (zs := zs) (by omega) (by omega) (by omega)
        have la := sumN_lt TA.out.2
        have lb := sumN_lt TB.out.2
        have lc := sumN_lt TC.out.2
        have x1 := sum_xor la lb
        have x2 := sum_xor (show sumN (xs.take k) ^^^ sumN (ys.take k) < 4294967296 from Nat.xor_lt_two_pow (n := 32) la lb) lc
        have sa := slice_upto pa xs.length ca k (by omega)
        have sb := slice_upto pb ys.length cb k (by omega)
        have sc := slice_upto pc zs.length cc k (by omega)
        have RX : Hid _ := sum_drew _ k k (mixK k xs ys zs k) wr _ HYL.out.symm rfl BX.out MX.out
        have RA : Hid _ := sum_drew pa k ca (xs.take k) wr _ LA.out rfl TA.out MA.out
        have RB : Hid _ := sum_drew pb k cb (ys.take k) wr _ LB.out rfl TB.out MB.out
        have RC : Hid _ := sum_drew pc k cc (zs.take k) wr _ LC.out rfl TC.out MC.out
        rw [HE.out] at RX
        clear hown BA BB BC hBM BX TA TB TC LA LB LC MX MA MB MC HYL
        generalize sumN (xs.take k) = s1 at *
        generalize sumN (ys.take k) = s2 at *
        generalize sumN (zs.take k) = s3 at *
        go_wp2_with fail
        go_quiet ((first | (go_at_call_of 6 (Value.slice (some ⟨w1.heap.size, 0, none⟩) k k); exact Calls.quiet_of_same (RX.out _)) | (go_at_call_of 6 (Value.slice pa k ca); exact Calls.quiet_of_same (RA.out _)) | (go_at_call_of 6 (Value.slice pb k cb); exact Calls.quiet_of_same (RB.out _)) | (go_at_call_of 6 (Value.slice pc k cc); exact Calls.quiet_of_same (RC.out _))))
        go_wp2
        go_ret
        exact ⟨rfl, below_drewN b3 nq⟩
theorem walk (a0 : Option Addr) (len0 cap0 : Nat) (z0 : List Int) (a1 : Option Addr) (len1 cap1 : Nat) (z1 : List Int) (a2 : Option Addr) (len2 cap2 : Nat) (z2 : List Int) (w : World) (w0 : IsRow .u8 w a0 len0 cap0 z0) (w1 : IsRow .u8 w a1 len1 cap1 z1) (w2 : IsRow .u8 w a2 len2 cap2 z2) :
    Calls Try.prog 4 #[.slice a0 len0 cap0, .slice a1 len1 cap1, .slice a2 len2 cap2] w fun e w' => e = .returned (.bool true) ∧ Below w.heap.size w w' := by
  obtain ⟨xs, rfl, hx, kx, mx, _⟩ := row_bin w0
  obtain ⟨ys, rfl, hy, ky, my, _⟩ := row_bin w1
  obtain ⟨zs, rfl, hz, kz, mz, _⟩ := row_bin w2
  exact walk_main a0 a1 a2 cap0 cap1 cap2 xs ys zs w hx hy hz kx ky kz mx my mz

/-! ### THE ROW's STEP: WRITTEN OUT: LEAVE IT -/
set_option maxRecDepth 100000 in
theorem lifted (os : Os) (started : os.Started) (H : Type) (enc : TypeId × Value → H) :
    ReturnsInHanded {} Try.checked os 4 .any (Rows.bitsMixedSpec.pre6 enc Try.prog Try.f4 Rows.bitsMixedRow.domain false) (Rows.bitsMixedSpec.post enc Try.prog Try.f4 false true false false) := by
  refine returnsInHanded_of_change (C := Try.checked) own started (by kernel_rfl) Try.func4
    (ChangeSpec.witness6 (enc := enc) (C := Try.checked) false ⟨#[], #[.slice none 0 0, .slice none 0 0, .slice none 0 0], []⟩ 8 (by kernel_rfl) (by kernel_rfl) (by kernel_rfl) (by kernel_rfl)) ?_
  intro W base args ds gs before hval0 hW hcnd _
  have hval : ∀ (j : Nat) t v, Try.f4.params[j]? = some t → args[j]? = some v → Value.okWide Try.prog W .any base t v := hval0
  have hW' := hW
  obtain ⟨p, q, hA0, hV, rfl, hfz, hnd⟩ := hW
  have hA : DataW.TrodAll enc Try.prog W 0 (fun _ => true) true Try.f4.params.toList args.toList ds p := hA0
  rw [Try.params4] at hA hval
  obtain ⟨v0, vs0, d0, ds0, p0, q0, hargs, rfl, rfl, h0, r0⟩ := trodAll_cons hA
  obtain ⟨v1, vs1, d1, ds1, p1, q1, rfl, rfl, rfl, h1, r1⟩ := trodAll_cons r0
  obtain ⟨v2, vs2, d2, ds2, p2, q2, rfl, rfl, rfl, h2, r2⟩ := trodAll_cons r1
  obtain ⟨rfl, rfl, rfl⟩ := trodAll_nil r2
  obtain rfl : args = #[v0, v1, v2] := by cases args; simp_all
  obtain ⟨rfl, rfl⟩ := trodVars_none hV
  obtain ⟨a0, len0, cap0, rfl⟩ := okWide_slice Try.underlying22 (hval 0 22 v0 rfl rfl)
  have k0 := h0
  have lt0 : ∀ x ∈ p0, x.block < W.heap.size := by obtain ⟨m, hm⟩ := k0; exact DataW.trod_lt m _ _ _ hm
  obtain ⟨z0, w0⟩ : ∃ zs, IsRow .u8 W a0 len0 cap0 zs := by
    obtain ⟨fuel, hf⟩ := h0
    rcases open_ints Try.underlying22 Try.underlying5 (by kernel_rfl) hf with ⟨hcs, _⟩ | ⟨x, l, c, zs, hcs, _, hl, hm, hz, _, hcell, hwz⟩
    · simp [Value.cells] at hcs
      obtain ⟨rfl, rfl, rfl⟩ := hcs
      exact ⟨[], .inl ⟨rfl, rfl, rfl, rfl⟩⟩
    · simp [Value.cells] at hcs
      obtain ⟨rfl, rfl, rfl⟩ := hcs
      exact ⟨zs, .inr ⟨_, rfl, hl, hm, by simpa using hz, hcell, hwz⟩⟩
  obtain ⟨a1, len1, cap1, rfl⟩ := okWide_slice Try.underlying22 (hval 1 22 v1 rfl rfl)
  have k1 := h1
  have lt1 : ∀ x ∈ p1, x.block < W.heap.size := by obtain ⟨m, hm⟩ := k1; exact DataW.trod_lt m _ _ _ hm
  obtain ⟨z1, w1⟩ : ∃ zs, IsRow .u8 W a1 len1 cap1 zs := by
    obtain ⟨fuel, hf⟩ := h1
    rcases open_ints Try.underlying22 Try.underlying5 (by kernel_rfl) hf with ⟨hcs, _⟩ | ⟨x, l, c, zs, hcs, _, hl, hm, hz, _, hcell, hwz⟩
    · simp [Value.cells] at hcs
      obtain ⟨rfl, rfl, rfl⟩ := hcs
      exact ⟨[], .inl ⟨rfl, rfl, rfl, rfl⟩⟩
    · simp [Value.cells] at hcs
      obtain ⟨rfl, rfl, rfl⟩ := hcs
      exact ⟨zs, .inr ⟨_, rfl, hl, hm, by simpa using hz, hcell, hwz⟩⟩
  obtain ⟨a2, len2, cap2, rfl⟩ := okWide_slice Try.underlying22 (hval 2 22 v2 rfl rfl)
  have k2 := h2
  have lt2 : ∀ x ∈ p2, x.block < W.heap.size := by obtain ⟨m, hm⟩ := k2; exact DataW.trod_lt m _ _ _ hm
  obtain ⟨z2, w2⟩ : ∃ zs, IsRow .u8 W a2 len2 cap2 zs := by
    obtain ⟨fuel, hf⟩ := h2
    rcases open_ints Try.underlying22 Try.underlying5 (by kernel_rfl) hf with ⟨hcs, _⟩ | ⟨x, l, c, zs, hcs, _, hl, hm, hz, _, hcell, hwz⟩
    · simp [Value.cells] at hcs
      obtain ⟨rfl, rfl, rfl⟩ := hcs
      exact ⟨[], .inl ⟨rfl, rfl, rfl, rfl⟩⟩
    · simp [Value.cells] at hcs
      obtain ⟨rfl, rfl, rfl⟩ := hcs
      exact ⟨zs, .inr ⟨_, rfl, hl, hm, by simpa using hz, hcell, hwz⟩⟩
  clear hA0 hval0
  refine (walk a0 len0 cap0 z0 a1 len1 cap1 z1 a2 len2 cap2 z2 W w0 w1 w2).mono fun e W' ⟨he, bel⟩ => ?_
  subst he
  exact ⟨_, rfl, _, _, _, [], _, [], hW', trodAll_mk1 (shut_bool Try.underlying4 _), (trodAll_cons_mk (Below.trod laidOut (by kernel_rfl) (of_decide_eq_true (by kernel_rfl)) k0 bel lt0) (trodAll_cons_mk (Below.trod laidOut (by kernel_rfl) (of_decide_eq_true (by kernel_rfl)) k1 bel lt1) (trodAll_cons_mk (Below.trod laidOut (by kernel_rfl) (of_decide_eq_true (by kernel_rfl)) k2 bel lt2) trodAll_mk0))), rfl, bel.frame _, fun h => by cases h⟩

theorem over : Rows.bitsMixedRow.holds Try.pinned (OpenSpec.ofChange Rows.bitsMixedSpec) :=
  OpenClaim.holds_of_wide 4 Try.f4 rfl rfl rfl rfl rfl rfl rfl ⟨rfl, rfl, rfl, rfl, rfl⟩ rfl rfl rfl rfl rfl (by kernel_rfl) Try.func4 (by kernel_rfl)
    (of_decide_eq_true (by kernel_rfl)) (by unfold Func.isWrapper; first | (rw [if_pos (by decide +kernel)]; kernel_rfl) | (rw [if_neg (by decide +kernel)]; exact ⟨rfl, rfl⟩))
    (fun os started H enc _ => lifted os started H enc)

theorem proved : Rows.BitsMixedSaid := over
end Go.Proofs.Ytdbgbaclgdkkjab.bitsMixed
namespace Go.Proofs.Ytdbgbaclgdkkjab
theorem bitsMixed_holds : Rows.BitsMixedSaid := bitsMixed.proved
#print axioms bitsMixed_holds
end Go.Proofs.Ytdbgbaclgdkkjab
