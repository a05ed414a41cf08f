/-
  Behind the acts there is one record more, the last one, and all ahead stay; a record that needs too much room is refused; an emptied log is empty, at a greater epoch: at any disk with a log and any record (of larger disks, and of records of more than 10,000 bytes, the statement asks nothing).
-/
import Derived.Test.YtkjooekicbghdaaRows
import Derived.Test.YtkjooekicbghdaaJ09
import Derived.WalkKit
import Derived.ProofKit
import Derived.OpenShut
import Derived.ShutString
import Derived.ChangeOld
import Derived.Below
namespace Go.Proofs.Ytkjooekicbghdaa.logGrows
open Go.ChangeShapes Go.WideShapes Go.ChangeAt Go.RowKit
open Go.ChangeMaps (open_string shut_string)
set_option linter.unusedVariables false

theorem own : ownKnob Try.prog.godebug = none := by kernel_rfl
theorem laidOut : laidOutB Try.prog = true := by kernel_rfl

set_option maxRecDepth 8000 in
set_option maxHeartbeats 1000000 in
theorem walk (v : Value) (count : Int) (data : List Nat) (ws : Puts) (r : ByteArray) (w : World) (hd : DiskIn w v count data ws) (wr : r.size ≤ maxLen) :
    Calls Try.prog 6 #[v, .string r] w fun e w' => e = .returned (.bool true) ∧ Below w.heap.size w w' := by
  by_cases h1 : largeL count data ws
  · have HD : Hid (DiskIn w v count data ws) := hd
    obtain ⟨p, c, q, m, rfl, _⟩ := hd.parts
    have HLG : Hid (decide (largeL count data ws) = true) := decide_eq_true h1
    clear h1 hd
    go_enter Try.func6, Try.ntmps6
    go_wp2_with fail
    refine (alive_any _).mono ?_
    rintro e w1 ⟨rfl, hb1⟩
    have HX1 : Hid (w1.heap[w.heap.size]? = some (.cells #[.int .i64 count, .slice p data.length c, .slice q ws.length m] 25 (0, 0))) := (hb1.block _ (by simp)).trans (heap_alloc_new w _)
    have HB1 : Hid (Below w.heap.size w w1) := below_bt (below_alloc w _) hb1
    clear hb1
    obtain ⟨c0, c1, c2, _⟩ := box3 HX1.out
    go_wp2_with fail
    refine (large5_any _ count data ws _ (HD.out.below HB1.out)).mono ?_
    rintro e w2 ⟨rfl, hb2⟩
    rw [HLG.out]
    have HB2 : Hid (Below w.heap.size w w2) := below_bt HB1.out hb2
    clear hb2 c0 c1 c2
    go_wp2
    go_ret
    exact ⟨rfl, HB2.out⟩
  · by_cases h2 : 10000 < r.size
    · have HD : Hid (DiskIn w v count data ws) := hd
      obtain ⟨p, c, q, m, rfl, _⟩ := hd.parts
      have HLG : Hid (decide (largeL count data ws) = false) := decide_eq_false h1
      have g0 : decide ((10000 : Int) < (r.size : Int)) = true := decide_eq_true (by omega)
      clear h1 hd h2
      go_enter Try.func6, Try.ntmps6
      go_wp2_with fail
      refine (alive_any _).mono ?_
      rintro e w1 ⟨rfl, hb1⟩
      have HX1 : Hid (w1.heap[w.heap.size]? = some (.cells #[.int .i64 count, .slice p data.length c, .slice q ws.length m] 25 (0, 0))) := (hb1.block _ (by simp)).trans (heap_alloc_new w _)
      have HB1 : Hid (Below w.heap.size w w1) := below_bt (below_alloc w _) hb1
      clear hb1
      obtain ⟨c0, c1, c2, _⟩ := box3 HX1.out
      go_wp2_with fail
      refine (large5_any _ count data ws _ (HD.out.below HB1.out)).mono ?_
      rintro e w2 ⟨rfl, hb2⟩
      rw [HLG.out]
      have HB2 : Hid (Below w.heap.size w w2) := below_bt HB1.out hb2
      clear hb2 c0 c1 c2
      go_wp2
      go_ret
      exact ⟨rfl, HB2.out⟩
    · by_cases h3 : errL count data ws = 0
      · exact grows_main v count data ws r w hd h1 (by omega) h3
      · have HD : Hid (DiskIn w v count data ws) := hd
        obtain ⟨p, c, q, m, rfl, _⟩ := hd.parts
        have HLG : Hid (decide (largeL count data ws) = false) := decide_eq_false h1
        have g0 : decide ((10000 : Int) < (r.size : Int)) = false := decide_eq_false (by omega)
        obtain ⟨er, her⟩ : ∃ er, errL count data ws = er := ⟨_, rfl⟩
        rw [her] at h3
        have HER : Hid (errL count data ws = er ∧ er ≠ 0) := ⟨her, h3⟩
        have g3 : (er != 0) = true := by simpa using h3
        clear h1 hd h2 her h3
        go_enter Try.func6, Try.ntmps6
        go_wp2_with fail
        refine (alive_any _).mono ?_
        rintro e w1 ⟨rfl, hb1⟩
        have HX1 : Hid (w1.heap[w.heap.size]? = some (.cells #[.int .i64 count, .slice p data.length c, .slice q ws.length m] 25 (0, 0))) := (hb1.block _ (by simp)).trans (heap_alloc_new w _)
        have HB1 : Hid (Below w.heap.size w w1) := below_bt (below_alloc w _) hb1
        clear hb1
        obtain ⟨c0, c1, c2, _⟩ := box3 HX1.out
        go_wp2_with fail
        refine (large5_any _ count data ws _ (HD.out.below HB1.out)).mono ?_
        rintro e w2 ⟨rfl, hb2⟩
        rw [HLG.out]
        have HX2 : Hid (w2.heap[w.heap.size]? = some (.cells #[.int .i64 count, .slice p data.length c, .slice q ws.length m] 25 (0, 0))) := (hb2.block _ (lt_heap HX1.out)).trans HX1.out
        have HB2 : Hid (Below w.heap.size w w2) := below_bt HB1.out hb2
        clear hb2 c0 c1 c2
        obtain ⟨c0, c1, c2, _⟩ := box3 HX2.out
        go_wp2_with fail
        refine (Records_err _ count data ws _ (HD.out.below HB2.out) er HER.out.1 HER.out.2).mono ?_
        rintro e w3 ⟨rfl, hb3⟩
        have HB3 : Hid (Below w.heap.size w w3) := below_bt HB2.out hb3
        clear hb3 c0 c1 c2
        go_wp2
        go_ret
        exact ⟨rfl, HB3.out⟩

/-! ### THE ROW's STEP -/
set_option maxRecDepth 100000 in
theorem lifted (os : Os) (started : os.Started) (H : Type) (enc : TypeId × Value → H) :
    ReturnsInHanded {} Try.checked os 6 .any (Rows.logGrowsSpec.pre6 enc Try.prog Try.f6 Rows.logGrowsRow.domain false) (Rows.logGrowsSpec.post enc Try.prog Try.f6 false true false false) := by
  refine returnsInHanded_of_change (C := Try.checked) own started (by kernel_rfl) Try.func6
    (ChangeSpec.witness6 (enc := enc) (C := Try.checked) false ⟨#[], #[.agg #[.int .i64 0, .slice none 0 0, .slice none 0 0], .string ByteArray.empty], []⟩ 8 (by kernel_rfl) (by kernel_rfl) (by kernel_rfl) (by kernel_rfl)) ?_
  intro W base args ds gs before hval0 hW hcnd _
  have hval : ∀ (j : Nat) t v, Try.f6.params[j]? = some t → args[j]? = some v → Value.okWide Try.prog W .any base t v := hval0
  have hW' := hW
  obtain ⟨p, q, hA0, hV, rfl, hfz, hnd⟩ := hW
  have hA : DataW.TrodAll enc Try.prog W 0 (fun _ => true) true Try.f6.params.toList args.toList ds p := hA0
  rw [Try.params6] at hA hval
  obtain ⟨v0, vs0, d0, ds0, p0, q0, hargs, rfl, rfl, h0, r0⟩ := trodAll_cons hA
  obtain ⟨v1, vs1, d1, ds1, p1, q1, rfl, rfl, rfl, h1, r1⟩ := trodAll_cons r0
  obtain ⟨rfl, rfl, rfl⟩ := trodAll_nil r1
  obtain rfl : args = #[v0, v1] := by cases args; simp_all
  obtain ⟨rfl, rfl⟩ := trodVars_none hV
  have k0 := h0
  have lt0 : ∀ x ∈ p0, x.block < W.heap.size := by obtain ⟨m, hm⟩ := k0; exact DataW.trod_lt m _ _ _ hm
  obtain ⟨count0, data0, ws0, w0⟩ := open_disk (tD := 25) (t := 23) (e := 41) (tb := 22) (eb := 5) Try.underlying25 (by kernel_rfl) (by kernel_rfl) Try.underlying3 rfl rfl Try.underlying23 Try.underlying41 (by kernel_rfl) rfl rfl (by kernel_rfl) (by kernel_rfl) Try.underlying3 rfl Try.underlying22 Try.underlying5 (by kernel_rfl) (hval 0 25 v0 rfl rfl) h0
  obtain ⟨a1, rfl, rfl, rfl, w1⟩ := open_string Try.underlying9 (hval 1 9 v1 rfl rfl) h1
  clear hA0 hval0
  refine (walk v0 count0 data0 ws0 a1 W w0 w1).mono fun e W' ⟨he, bel⟩ => ?_
  subst he
  exact ⟨_, rfl, _, _, _, [], _, [], hW', trodAll_mk1 (shut_bool Try.underlying4 _), (trodAll_cons_mk (Below.trod laidOut (by kernel_rfl) (of_decide_eq_true (by kernel_rfl)) k0 bel lt0) (trodAll_cons_mk (shut_string Try.underlying9 w1) trodAll_mk0)), rfl, bel.frame _, fun h => by cases h⟩

theorem over : Rows.logGrowsRow.holds Try.pinned (OpenSpec.ofChange Rows.logGrowsSpec) :=
  OpenClaim.holds_of_wide 6 Try.f6 rfl rfl rfl rfl rfl rfl rfl ⟨rfl, rfl, rfl, rfl, rfl⟩ rfl rfl rfl rfl rfl (by kernel_rfl) Try.func6 (by kernel_rfl)
    (of_decide_eq_true (by kernel_rfl)) (by unfold Func.isWrapper; first | (rw [if_pos (by decide +kernel)]; kernel_rfl) | (rw [if_neg (by decide +kernel)]; exact ⟨rfl, rfl⟩))
    (fun os started H enc _ => lifted os started H enc)

theorem proved : Rows.LogGrowsSaid := over
end Go.Proofs.Ytkjooekicbghdaa.logGrows
namespace Go.Proofs.Ytkjooekicbghdaa
theorem logGrows_holds : Rows.LogGrowsSaid := logGrows.proved
#print axioms logGrows_holds
end Go.Proofs.Ytkjooekicbghdaa
