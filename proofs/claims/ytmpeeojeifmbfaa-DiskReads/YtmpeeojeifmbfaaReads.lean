/-
  Proved: for every count, disk, sector and bytes the law DiskReads answers true: disks are made, sectors read and written as the document's own answer says, and what is handed in stays.
  Conditions: none (every int, disk and []byte that can be read).
-/
import Derived.Test.YtmpeeojeifmbfaaRows
import Derived.Test.YtmpeeojeifmbfaaRU
import Derived.WalkKit
import Derived.ProofKit
import Derived.OpenShut
import Derived.ShutString
import Derived.ChangeOld
import Derived.Below
import Derived.SizedLaws
namespace Go.Proofs.Ytmpeeojeifmbfaa.diskReads
open Go.ChangeShapes Go.WideShapes Go.ChangeAt Go.RowKit
open Go.ChangeMaps (open_string shut_string)
set_option linter.unusedVariables false

theorem own : ownKnob Try.prog.godebug = none := by kernel_rfl
theorem laidOut : laidOutB Try.prog = true := by kernel_rfl

open Go.Joins
def Since (a b : World) : Prop := Below a.heap.size a b
theorem Since.below {a b c : World} (h : Since a b) (hb : Below b.heap.size b c) : Since a c := below_bt h hb
theorem x_len (count : Int) (data : List Nat) (ws : Puts) (n : Int) : (readX count data ws n).length = (sureX count data ws n).length := by
  rcases errS_cases count data ws n with ⟨he, ho, h1, h2⟩ | he
  · obtain ⟨k, rfl⟩ := Int.eq_ofNat_of_zero_le h1
    have := ho.len
    simp only [readX, sureX, he, if_true, Int.toNat_natCast]
    rw [nowN_len ho h2, secN_len (by omega)]
  · simp only [readX, sureX, he, if_false]
theorem x_max (count : Int) (data : List Nat) (ws : Puts) (n : Int) : (readX count data ws n).length ≤ 128 := by
  rcases errS_cases count data ws n with ⟨he, ho, h1, h2⟩ | he
  · obtain ⟨k, rfl⟩ := Int.eq_ofNat_of_zero_le h1
    simp only [readX, he, if_true]
    rw [nowN_len ho h2]; omega
  · simp only [readX, he, if_false]; simp
theorem w8_lt {w : World} {base : Nat} {p : Option Addr} {n : Nat} (h : W8 w base p n) (hn : 0 < n) : ∀ g, p = some ⟨g, 0, none⟩ → g < w.heap.size := by
  intro g e
  obtain ⟨g', e', _, cs, h3, _⟩ := h hn
  rw [e] at e'
  simp only [Option.some.injEq, Addr.mk.injEq, and_true] at e'
  subst e'
  exact lt_heap h3
attribute [local go_sem ↓] Go.wp_at_zero Go.wp_at_succ
set_option maxRecDepth 8000 in
set_option maxHeartbeats 16000000 in
theorem walk_large (count0 : Int) (v : Value) (count : Int) (data : List Nat) (ws : Puts) (n : Int) (pb : Option Addr) (cb : Nat) (xs : List Nat) (w : World) (hd : DiskIn w v count data ws) (hl : largeN count data ws) :
    Calls Try.prog 4 #[.int .i64 count0, v, .int .i64 n, .slice pb xs.length cb] w fun e w' => e = .returned (.bool true) ∧ Below w.heap.size w w' := by
  obtain ⟨p, c, q, m, rfl, hbD, hcD, _, _, hqp, hqm, hqmm, _⟩ := hd.parts
  have HD0 : Hid _ := hd
  clear hd hbD hqp
  go_enter Try.func4, Try.ntmps4
  go_wp2_with fail
  refine (large_any _ count data ws _ (HD0.out.below (below_alloc w _))).mono ?_
  rintro e w1 ⟨rfl, hb1⟩
  rw [decide_eq_true hl]
  have HB : Hid (w1.heap[w.heap.size]? = some (.cells #[.int .i64 count, .slice p data.length c, .slice q ws.length m] 25 (0, 0))) := (hb1.block _ (by rw [World.size_alloc]; exact Nat.lt_succ_self _)).trans (heap_alloc_new w _)
  have hbc : Below w.heap.size w w1 := below_bt (below_alloc w _) hb1
  have HD : Hid (DiskIn w1 (.agg #[.int .i64 count, .slice p data.length c, .slice q ws.length m]) count data ws) := HD0.out.below hbc
  have HWF := HD0.out.count_wf
  have HPW : Hid (∀ y ∈ ws, (Lit.int .i64 y.1).wf = true) := HD0.out.puts_wf
  have HCW : Hid _ := HWF
  clear HD0 hb1 HWF
  go_wp2
  go_ret
  exact ⟨rfl, hbc⟩
set_option maxRecDepth 8000 in
set_option maxHeartbeats 16000000 in
theorem walk_len (count0 : Int) (v : Value) (count : Int) (data : List Nat) (ws : Puts) (n : Int) (pb : Option Addr) (cb : Nat) (xs : List Nat) (w : World) (hd : DiskIn w v count data ws) (hl : ¬ largeN count data ws) (h : (10000 : Int) < (xs.length : Int)) :
    Calls Try.prog 4 #[.int .i64 count0, v, .int .i64 n, .slice pb xs.length cb] w fun e w' => e = .returned (.bool true) ∧ Below w.heap.size w w' := by
  obtain ⟨p, c, q, m, rfl, hbD, hcD, _, _, hqp, hqm, hqmm, _⟩ := hd.parts
  have HD0 : Hid _ := hd
  clear hd hbD hqp
  go_enter Try.func4, Try.ntmps4
  go_wp2_with fail
  refine (large_any _ count data ws _ (HD0.out.below (below_alloc w _))).mono ?_
  rintro e w1 ⟨rfl, hb1⟩
  rw [decide_eq_false hl]
  have HB : Hid (w1.heap[w.heap.size]? = some (.cells #[.int .i64 count, .slice p data.length c, .slice q ws.length m] 25 (0, 0))) := (hb1.block _ (by rw [World.size_alloc]; exact Nat.lt_succ_self _)).trans (heap_alloc_new w _)
  have hbc : Below w.heap.size w w1 := below_bt (below_alloc w _) hb1
  have HD : Hid (DiskIn w1 (.agg #[.int .i64 count, .slice p data.length c, .slice q ws.length m]) count data ws) := HD0.out.below hbc
  have HWF := HD0.out.count_wf
  have HPW : Hid (∀ y ∈ ws, (Lit.int .i64 y.1).wf = true) := HD0.out.puts_wf
  have HCW : Hid _ := HWF
  clear HD0 hb1 HWF
  go_wp2
  go_ret
  exact ⟨rfl, hbc⟩
set_option maxRecDepth 8000 in
set_option maxHeartbeats 16000000 in
theorem walk_count (count0 : Int) (v : Value) (count : Int) (data : List Nat) (ws : Puts) (n : Int) (pb : Option Addr) (cb : Nat) (xs : List Nat) (w : World) (hd : DiskIn w v count data ws) (hl : ¬ largeN count data ws) (h0 : (xs.length : Int) ≤ 10000) (h1 : 300 < count0) (h2 : count0 ≤ 4095) :
    Calls Try.prog 4 #[.int .i64 count0, v, .int .i64 n, .slice pb xs.length cb] w fun e w' => e = .returned (.bool true) ∧ Below w.heap.size w w' := by
  obtain ⟨p, c, q, m, rfl, hbD, hcD, _, _, hqp, hqm, hqmm, _⟩ := hd.parts
  have HD0 : Hid _ := hd
  clear hd hbD hqp
  go_enter Try.func4, Try.ntmps4
  go_wp2_with fail
  refine (large_any _ count data ws _ (HD0.out.below (below_alloc w _))).mono ?_
  rintro e w1 ⟨rfl, hb1⟩
  rw [decide_eq_false hl]
  have HB : Hid (w1.heap[w.heap.size]? = some (.cells #[.int .i64 count, .slice p data.length c, .slice q ws.length m] 25 (0, 0))) := (hb1.block _ (by rw [World.size_alloc]; exact Nat.lt_succ_self _)).trans (heap_alloc_new w _)
  have hbc : Below w.heap.size w w1 := below_bt (below_alloc w _) hb1
  have HD : Hid (DiskIn w1 (.agg #[.int .i64 count, .slice p data.length c, .slice q ws.length m]) count data ws) := HD0.out.below hbc
  have HWF := HD0.out.count_wf
  have HPW : Hid (∀ y ∈ ws, (Lit.int .i64 y.1).wf = true) := HD0.out.puts_wf
  have HCW : Hid _ := HWF
  clear HD0 hb1 HWF
  go_wp2
  go_ret
  exact ⟨rfl, hbc⟩
set_option maxRecDepth 8000 in
set_option maxHeartbeats 16000000 in
theorem walk_low (count0 : Int) (v : Value) (count : Int) (data : List Nat) (ws : Puts) (n : Int) (pb : Option Addr) (cb : Nat) (xs : List Nat) (w : World) (hd : DiskIn w v count data ws) (hl : ¬ largeN count data ws) (h0 : (xs.length : Int) ≤ 10000) (hc1 : count0 ≤ 300) (hsz : ∀ y ∈ ws, y.2.length ≤ reachBytes) (wn : (Lit.int .i64 n).wf = true) (hbx : BIn w pb xs) (h1 : xs.length ≤ cb) (h2 : cb ≤ maxLen) (h3 : pb = none → cb = 0) :
    Calls Try.prog 4 #[.int .i64 count0, v, .int .i64 n, .slice pb xs.length cb] w fun e w' => e = .returned (.bool true) ∧ Below w.heap.size w w' := by
  obtain ⟨p, c, q, m, rfl, hbD, hcD, _, _, hqp, hqm, hqmm, _⟩ := hd.parts
  have HD0 : Hid _ := hd
  clear hd hbD hqp
  go_enter Try.func4, Try.ntmps4
  go_wp2_with fail
  refine (large_any _ count data ws _ (HD0.out.below (below_alloc w _))).mono ?_
  rintro e w1 ⟨rfl, hb1⟩
  rw [decide_eq_false hl]
  have HB : Hid (w1.heap[w.heap.size]? = some (.cells #[.int .i64 count, .slice p data.length c, .slice q ws.length m] 25 (0, 0))) := (hb1.block _ (by rw [World.size_alloc]; exact Nat.lt_succ_self _)).trans (heap_alloc_new w _)
  have hbc : Below w.heap.size w w1 := below_bt (below_alloc w _) hb1
  have HD : Hid (DiskIn w1 (.agg #[.int .i64 count, .slice p data.length c, .slice q ws.length m]) count data ws) := HD0.out.below hbc
  have HWF := HD0.out.count_wf
  have HPW : Hid (∀ y ∈ ws, (Lit.int .i64 y.1).wf = true) := HD0.out.puts_wf
  have HCW : Hid _ := HWF
  clear HD0 hb1 HWF
  have hdl : data.length ≤ 600000 := by unfold largeN at hl; omega
  have hwl : ws.length ≤ 4200 := by unfold largeN at hl; omega
  have HSZ : Hid (∀ y ∈ ws, y.2.length ≤ 140737488355328) := fun y hy => Nat.le_trans (hsz y hy) (by decide)
  have H3 : Hid (pb = none → cb = 0) := h3
  have HBX : Hid (BIn w1 pb xs) := hbx.below hbc
  clear hl hsz h3 hbx
  obtain ⟨x0, x1, x2⟩ := cells3 HB.out
  have xlt := lt_heap HB.out
  go_wp2_with fail
  refine (twin_any _ count data ws _ HD.out (by omega) HSZ.out (by omega)).mono ?_
  rintro e w2 ⟨⟨vT, rfl, hvT⟩, hb2⟩
  have hnT := hvT.toIn HCW.out HPW.out
  obtain ⟨pT, cT, qT, mT, rfl, _⟩ := hnT.parts
  clear x0 x1 x2 xlt hvT
  have bb1 : Below w1.heap.size w1 w2 := hb2
  replace HB : Hid (w2.heap[w.heap.size]? = some (.cells #[.int .i64 count, .slice p data.length c, .slice q ws.length m] 25 (0, 0))) := (bb1.block _ (lt_heap HB.out)).trans HB.out
  replace HD : Hid (DiskIn w2 (.agg #[.int .i64 count, .slice p data.length c, .slice q ws.length m]) count data ws) := HD.out.below bb1
  replace HBX : Hid (BIn w2 pb xs) := HBX.out.below bb1
  replace hbc : Below w.heap.size w w2 := below_bt hbc bb1
  clear bb1 hb2
  have HDT : Hid (DiskIn w2 (.agg #[.int .i64 count, .slice pT data.length cT, .slice qT ws.length mT]) count data ws) := hnT
  clear hnT
  have HXZ : Hid (([] : List Nat).length + xs.length ≤ 140737488355328) := by show _ ≤ _; simp; omega
  go_wp2_with (at_builtin; refine wpList_append_row _ rfl _ _ rfl w2.heap.size (.slice none 0 0) [] xs pb _ cb rfl rfl rfl (World.ownsRow_nil _ _ _ _) HBX.out H3.out HXZ.out (Nat.le_refl _) ?_)
  intro vI w3 hown hgrow
  have hb3 : Below w2.heap.size w2 w3 := (Below.refl _ _).grown hgrow (Nat.le_refl _) (fun k hk => by simp [Value.ownBlock] at hk)
  have hgI : RowG w3 w2.heap.size vI xs := ⟨hown, HBX.out.2⟩
  obtain ⟨pI, cI, rfl, hiI, hI1, hI2, hI3⟩ := hgI.form
  have HI3 : Hid (pI = none → cI = 0) := hI3
  clear hown hgrow hgI hI3
  have bb2 : Below w2.heap.size w2 w3 := hb3
  replace HB : Hid (w3.heap[w.heap.size]? = some (.cells #[.int .i64 count, .slice p data.length c, .slice q ws.length m] 25 (0, 0))) := (bb2.block _ (lt_heap HB.out)).trans HB.out
  replace HD : Hid (DiskIn w3 (.agg #[.int .i64 count, .slice p data.length c, .slice q ws.length m]) count data ws) := HD.out.below bb2
  replace HBX : Hid (BIn w3 pb xs) := HBX.out.below bb2
  replace HDT : Hid (DiskIn w3 (.agg #[.int .i64 count, .slice pT data.length cT, .slice qT ws.length mT]) count data ws) := HDT.out.below bb2
  replace hbc : Below w.heap.size w w3 := below_bt hbc bb2
  clear bb2 hb3
  have HIN : Hid (BIn w3 pI xs) := hiI
  clear hiI
  have HT3 : Hid (DiskIn w3 (.agg #[.int .i64 count, .slice pT data.length cT, .slice qT ws.length mT]) count data ws) := HDT
  have HD3 : Hid (DiskIn w3 (.agg #[.int .i64 count, .slice p data.length c, .slice q ws.length m]) count data ws) := HD
  have HI3w : Hid (BIn w3 pI xs) := HIN
  have HX3w : Hid (BIn w3 pb xs) := HBX
  have HB3 : Hid (w3.heap[w.heap.size]? = some (.cells #[.int .i64 count, .slice p data.length c, .slice q ws.length m] 25 (0, 0))) := HB
  have hbc3 := hbc
  go_wp2_with fail
  refine (new_u count0 _).mono ?_
  rintro e w4 ⟨⟨vx, rfl, hnX⟩, hb4⟩
  obtain ⟨pX, cX, qX, mX, rfl, _⟩ := hnX.parts
  have HBT : Hid (w4.heap[w3.heap.size]? = some (.cells #[.int .i64 count, .slice pT data.length cT, .slice qT ws.length mT] 25 (0, 0))) := (hb4.block _ (by rw [World.size_alloc]; exact Nat.lt_succ_self _)).trans (heap_alloc_new w3 _)
  have b34 : Below w3.heap.size w3 w4 := below_bt (below_alloc w3 _) hb4
  have bb3 : Below w3.heap.size w3 w4 := (below_bt (below_alloc w3 (.cells #[.int .i64 count, .slice pT data.length cT, .slice qT ws.length mT] 25)) hb4)
  replace HB : Hid (w4.heap[w.heap.size]? = some (.cells #[.int .i64 count, .slice p data.length c, .slice q ws.length m] 25 (0, 0))) := (bb3.block _ (lt_heap HB.out)).trans HB.out
  replace HD : Hid (DiskIn w4 (.agg #[.int .i64 count, .slice p data.length c, .slice q ws.length m]) count data ws) := HD.out.below bb3
  replace HBX : Hid (BIn w4 pb xs) := HBX.out.below bb3
  replace HDT : Hid (DiskIn w4 (.agg #[.int .i64 count, .slice pT data.length cT, .slice qT ws.length mT]) count data ws) := HDT.out.below bb3
  replace HIN : Hid (BIn w4 pI xs) := HIN.out.below bb3
  replace hbc : Below w.heap.size w w4 := below_bt hbc bb3
  clear bb3 hb4
  have HDX : Hid (DiskIn w4 (.agg #[.int .i64 (newC count0), .slice pX (newD count0).length cX, .slice qX 0 mX]) (newC count0) (newD count0) []) := hnX
  clear hnX
  have b3 : Hid (Since w3 w4) := b34
  clear b34
  go_wp2_with fail
  refine (rnew_u count0 _).mono ?_
  rintro e w5 ⟨⟨vy, rfl, hnY⟩, hb5⟩
  obtain ⟨pY, cY, qY, mY, rfl, _⟩ := hnY.parts
  have HBX2 : Hid (w5.heap[w4.heap.size]? = some (.cells #[.int .i64 (newC count0), .slice pX (newD count0).length cX, .slice qX 0 mX] 25 (0, 0))) := (hb5.block _ (by rw [World.size_alloc]; exact Nat.lt_succ_self _)).trans (heap_alloc_new w4 _)
  have bb4 : Below w4.heap.size w4 w5 := (below_bt (below_alloc w4 (.cells #[.int .i64 (newC count0), .slice pX (newD count0).length cX, .slice qX 0 mX] 25)) hb5)
  replace HB : Hid (w5.heap[w.heap.size]? = some (.cells #[.int .i64 count, .slice p data.length c, .slice q ws.length m] 25 (0, 0))) := (bb4.block _ (lt_heap HB.out)).trans HB.out
  replace HD : Hid (DiskIn w5 (.agg #[.int .i64 count, .slice p data.length c, .slice q ws.length m]) count data ws) := HD.out.below bb4
  replace HBX : Hid (BIn w5 pb xs) := HBX.out.below bb4
  replace HDT : Hid (DiskIn w5 (.agg #[.int .i64 count, .slice pT data.length cT, .slice qT ws.length mT]) count data ws) := HDT.out.below bb4
  replace HIN : Hid (BIn w5 pI xs) := HIN.out.below bb4
  replace HBT : Hid (w5.heap[w3.heap.size]? = some (.cells #[.int .i64 count, .slice pT data.length cT, .slice qT ws.length mT] 25 (0, 0))) := (bb4.block _ (lt_heap HBT.out)).trans HBT.out
  replace HDX : Hid (DiskIn w5 (.agg #[.int .i64 (newC count0), .slice pX (newD count0).length cX, .slice qX 0 mX]) (newC count0) (newD count0) []) := HDX.out.below bb4
  replace b3 : Hid (Since w3 w5) := b3.out.below bb4
  replace hbc : Below w.heap.size w w5 := below_bt hbc bb4
  clear bb4 hb5
  have HDY : Hid (DiskIn w5 (.agg #[.int .i64 (newC count0), .slice pY (newD count0).length cY, .slice qY 0 mY]) (newC count0) (newD count0) []) := hnY
  clear hnY
  obtain ⟨x0, x1, x2⟩ := cells3 HBT.out
  have xlt := lt_heap HBT.out
  go_wp2_with fail
  refine (read_u _ n count data ws _ (HDT.out.below (below_alloc w5 (.cells #[.int .i64 (newC count0), .slice pY (newD count0).length cY, .slice qY 0 mY] 25)))).mono ?_
  rintro e w6 ⟨⟨p6, c6, rfl, hi6, h86⟩, hb6⟩
  have z35 : w3.heap.size < w5.heap.size := lt_heap HBT.out
  clear x0 x1 x2 xlt
  have HBY : Hid (w6.heap[w5.heap.size]? = some (.cells #[.int .i64 (newC count0), .slice pY (newD count0).length cY, .slice qY 0 mY] 25 (0, 0))) := (hb6.block _ (by rw [World.size_alloc]; exact Nat.lt_succ_self _)).trans (heap_alloc_new w5 _)
  have bb5 : Below w5.heap.size w5 w6 := (below_bt (below_alloc w5 (.cells #[.int .i64 (newC count0), .slice pY (newD count0).length cY, .slice qY 0 mY] 25)) hb6)
  replace HB : Hid (w6.heap[w.heap.size]? = some (.cells #[.int .i64 count, .slice p data.length c, .slice q ws.length m] 25 (0, 0))) := (bb5.block _ (lt_heap HB.out)).trans HB.out
  replace HD : Hid (DiskIn w6 (.agg #[.int .i64 count, .slice p data.length c, .slice q ws.length m]) count data ws) := HD.out.below bb5
  replace HBX : Hid (BIn w6 pb xs) := HBX.out.below bb5
  replace HDT : Hid (DiskIn w6 (.agg #[.int .i64 count, .slice pT data.length cT, .slice qT ws.length mT]) count data ws) := HDT.out.below bb5
  replace HIN : Hid (BIn w6 pI xs) := HIN.out.below bb5
  replace HBT : Hid (w6.heap[w3.heap.size]? = some (.cells #[.int .i64 count, .slice pT data.length cT, .slice qT ws.length mT] 25 (0, 0))) := (bb5.block _ (lt_heap HBT.out)).trans HBT.out
  replace HDX : Hid (DiskIn w6 (.agg #[.int .i64 (newC count0), .slice pX (newD count0).length cX, .slice qX 0 mX]) (newC count0) (newD count0) []) := HDX.out.below bb5
  replace b3 : Hid (Since w3 w6) := b3.out.below bb5
  replace HBX2 : Hid (w6.heap[w4.heap.size]? = some (.cells #[.int .i64 (newC count0), .slice pX (newD count0).length cX, .slice qX 0 mX] 25 (0, 0))) := (bb5.block _ (lt_heap HBX2.out)).trans HBX2.out
  replace HDY : Hid (DiskIn w6 (.agg #[.int .i64 (newC count0), .slice pY (newD count0).length cY, .slice qY 0 mY]) (newC count0) (newD count0) []) := HDY.out.below bb5
  replace hbc : Below w.heap.size w w6 := below_bt hbc bb5
  clear bb5 hb6
  have HI6 : Hid (BIn w6 p6 (readX count data ws n)) := hi6
  clear hi6
  have H86 : Hid (W8 w6 (w5.alloc (.cells #[.int .i64 (newC count0), .slice pY (newD count0).length cY, .slice qY 0 mY] 25)).heap.size p6 (readX count data ws n).length) := h86
  clear h86
  have z6 : w3.heap.size + 1 ≤ w6.heap.size := by have := (show Below w3.heap.size w3 w6 from b3.out).size; have := lt_heap HBT.out; omega
  obtain ⟨x0, x1, x2⟩ := cells3 HB.out
  have xlt := lt_heap HB.out
  go_wp2_with fail
  refine (rread_u _ n count data ws _ HD.out).mono ?_
  rintro e w7 ⟨⟨p7, c7, rfl, hi7⟩, hb7⟩
  clear x0 x1 x2 xlt
  have bb6 : Below w6.heap.size w6 w7 := hb7
  replace HB : Hid (w7.heap[w.heap.size]? = some (.cells #[.int .i64 count, .slice p data.length c, .slice q ws.length m] 25 (0, 0))) := (bb6.block _ (lt_heap HB.out)).trans HB.out
  replace HD : Hid (DiskIn w7 (.agg #[.int .i64 count, .slice p data.length c, .slice q ws.length m]) count data ws) := HD.out.below bb6
  replace HBX : Hid (BIn w7 pb xs) := HBX.out.below bb6
  replace HDT : Hid (DiskIn w7 (.agg #[.int .i64 count, .slice pT data.length cT, .slice qT ws.length mT]) count data ws) := HDT.out.below bb6
  replace HIN : Hid (BIn w7 pI xs) := HIN.out.below bb6
  replace HBT : Hid (w7.heap[w3.heap.size]? = some (.cells #[.int .i64 count, .slice pT data.length cT, .slice qT ws.length mT] 25 (0, 0))) := (bb6.block _ (lt_heap HBT.out)).trans HBT.out
  replace HDX : Hid (DiskIn w7 (.agg #[.int .i64 (newC count0), .slice pX (newD count0).length cX, .slice qX 0 mX]) (newC count0) (newD count0) []) := HDX.out.below bb6
  replace b3 : Hid (Since w3 w7) := b3.out.below bb6
  replace HBX2 : Hid (w7.heap[w4.heap.size]? = some (.cells #[.int .i64 (newC count0), .slice pX (newD count0).length cX, .slice qX 0 mX] 25 (0, 0))) := (bb6.block _ (lt_heap HBX2.out)).trans HBX2.out
  replace HDY : Hid (DiskIn w7 (.agg #[.int .i64 (newC count0), .slice pY (newD count0).length cY, .slice qY 0 mY]) (newC count0) (newD count0) []) := HDY.out.below bb6
  replace HBY : Hid (w7.heap[w5.heap.size]? = some (.cells #[.int .i64 (newC count0), .slice pY (newD count0).length cY, .slice qY 0 mY] 25 (0, 0))) := (bb6.block _ (lt_heap HBY.out)).trans HBY.out
  replace HI6 : Hid (BIn w7 p6 (readX count data ws n)) := HI6.out.below bb6
  replace H86 : Hid (W8 w7 (w5.alloc (.cells #[.int .i64 (newC count0), .slice pY (newD count0).length cY, .slice qY 0 mY] 25)).heap.size p6 (readX count data ws n).length) := H86.out.below bb6
  replace hbc : Below w.heap.size w w7 := below_bt hbc bb6
  clear bb6 hb7
  have HI7 : Hid (BIn w7 p7 (readX count data ws n)) := hi7
  clear hi7
  obtain ⟨x0, x1, x2⟩ := cells3 HBT.out
  have xlt := lt_heap HBT.out
  go_wp2_with fail
  refine (sure_u _ n count data ws _ HDT.out).mono ?_
  rintro e w8 ⟨⟨p8, c8, rfl, hi8, h88⟩, hb8⟩
  have z37 : w3.heap.size < w7.heap.size := lt_heap HBT.out
  clear x0 x1 x2 xlt
  have bb7 : Below w7.heap.size w7 w8 := hb8
  replace HB : Hid (w8.heap[w.heap.size]? = some (.cells #[.int .i64 count, .slice p data.length c, .slice q ws.length m] 25 (0, 0))) := (bb7.block _ (lt_heap HB.out)).trans HB.out
  replace HD : Hid (DiskIn w8 (.agg #[.int .i64 count, .slice p data.length c, .slice q ws.length m]) count data ws) := HD.out.below bb7
  replace HBX : Hid (BIn w8 pb xs) := HBX.out.below bb7
  replace HDT : Hid (DiskIn w8 (.agg #[.int .i64 count, .slice pT data.length cT, .slice qT ws.length mT]) count data ws) := HDT.out.below bb7
  replace HIN : Hid (BIn w8 pI xs) := HIN.out.below bb7
  replace HBT : Hid (w8.heap[w3.heap.size]? = some (.cells #[.int .i64 count, .slice pT data.length cT, .slice qT ws.length mT] 25 (0, 0))) := (bb7.block _ (lt_heap HBT.out)).trans HBT.out
  replace HDX : Hid (DiskIn w8 (.agg #[.int .i64 (newC count0), .slice pX (newD count0).length cX, .slice qX 0 mX]) (newC count0) (newD count0) []) := HDX.out.below bb7
  replace b3 : Hid (Since w3 w8) := b3.out.below bb7
  replace HBX2 : Hid (w8.heap[w4.heap.size]? = some (.cells #[.int .i64 (newC count0), .slice pX (newD count0).length cX, .slice qX 0 mX] 25 (0, 0))) := (bb7.block _ (lt_heap HBX2.out)).trans HBX2.out
  replace HDY : Hid (DiskIn w8 (.agg #[.int .i64 (newC count0), .slice pY (newD count0).length cY, .slice qY 0 mY]) (newC count0) (newD count0) []) := HDY.out.below bb7
  replace HBY : Hid (w8.heap[w5.heap.size]? = some (.cells #[.int .i64 (newC count0), .slice pY (newD count0).length cY, .slice qY 0 mY] 25 (0, 0))) := (bb7.block _ (lt_heap HBY.out)).trans HBY.out
  replace HI6 : Hid (BIn w8 p6 (readX count data ws n)) := HI6.out.below bb7
  replace H86 : Hid (W8 w8 (w5.alloc (.cells #[.int .i64 (newC count0), .slice pY (newD count0).length cY, .slice qY 0 mY] 25)).heap.size p6 (readX count data ws n).length) := H86.out.below bb7
  replace HI7 : Hid (BIn w8 p7 (readX count data ws n)) := HI7.out.below bb7
  replace hbc : Below w.heap.size w w8 := below_bt hbc bb7
  clear bb7 hb8
  have HI8 : Hid (BIn w8 p8 (sureX count data ws n)) := hi8
  clear hi8
  have H88 : Hid (W8 w8 w7.heap.size p8 (sureX count data ws n).length) := h88
  clear h88
  obtain ⟨x0, x1, x2⟩ := cells3 HB.out
  have xlt := lt_heap HB.out
  go_wp2_with fail
  refine (rsure_u _ n count data ws _ HD.out).mono ?_
  rintro e w9 ⟨⟨p9, c9, rfl, hi9⟩, hb9⟩
  clear x0 x1 x2 xlt
  have bb8 : Below w8.heap.size w8 w9 := hb9
  replace HB : Hid (w9.heap[w.heap.size]? = some (.cells #[.int .i64 count, .slice p data.length c, .slice q ws.length m] 25 (0, 0))) := (bb8.block _ (lt_heap HB.out)).trans HB.out
  replace HD : Hid (DiskIn w9 (.agg #[.int .i64 count, .slice p data.length c, .slice q ws.length m]) count data ws) := HD.out.below bb8
  replace HBX : Hid (BIn w9 pb xs) := HBX.out.below bb8
  replace HDT : Hid (DiskIn w9 (.agg #[.int .i64 count, .slice pT data.length cT, .slice qT ws.length mT]) count data ws) := HDT.out.below bb8
  replace HIN : Hid (BIn w9 pI xs) := HIN.out.below bb8
  replace HBT : Hid (w9.heap[w3.heap.size]? = some (.cells #[.int .i64 count, .slice pT data.length cT, .slice qT ws.length mT] 25 (0, 0))) := (bb8.block _ (lt_heap HBT.out)).trans HBT.out
  replace HDX : Hid (DiskIn w9 (.agg #[.int .i64 (newC count0), .slice pX (newD count0).length cX, .slice qX 0 mX]) (newC count0) (newD count0) []) := HDX.out.below bb8
  replace b3 : Hid (Since w3 w9) := b3.out.below bb8
  replace HBX2 : Hid (w9.heap[w4.heap.size]? = some (.cells #[.int .i64 (newC count0), .slice pX (newD count0).length cX, .slice qX 0 mX] 25 (0, 0))) := (bb8.block _ (lt_heap HBX2.out)).trans HBX2.out
  replace HDY : Hid (DiskIn w9 (.agg #[.int .i64 (newC count0), .slice pY (newD count0).length cY, .slice qY 0 mY]) (newC count0) (newD count0) []) := HDY.out.below bb8
  replace HBY : Hid (w9.heap[w5.heap.size]? = some (.cells #[.int .i64 (newC count0), .slice pY (newD count0).length cY, .slice qY 0 mY] 25 (0, 0))) := (bb8.block _ (lt_heap HBY.out)).trans HBY.out
  replace HI6 : Hid (BIn w9 p6 (readX count data ws n)) := HI6.out.below bb8
  replace H86 : Hid (W8 w9 (w5.alloc (.cells #[.int .i64 (newC count0), .slice pY (newD count0).length cY, .slice qY 0 mY] 25)).heap.size p6 (readX count data ws n).length) := H86.out.below bb8
  replace HI7 : Hid (BIn w9 p7 (readX count data ws n)) := HI7.out.below bb8
  replace HI8 : Hid (BIn w9 p8 (sureX count data ws n)) := HI8.out.below bb8
  replace H88 : Hid (W8 w9 w7.heap.size p8 (sureX count data ws n).length) := H88.out.below bb8
  replace hbc : Below w.heap.size w w9 := below_bt hbc bb8
  clear bb8 hb9
  have HI9 : Hid (BIn w9 p9 (sureX count data ws n)) := hi9
  clear hi9
  obtain ⟨x0, x1, x2⟩ := cells3 HBT.out
  have xlt := lt_heap HBT.out
  go_wp2_with fail
  refine (write_u _ n pI _ cI xs count data ws _ HDT.out HIN.out rfl hI1 hI2 HI3.out).mono ?_
  rintro e w10 ⟨⟨vU, rfl, hnU, hsU⟩, hb10⟩
  have LP : Hid (0 < (readX count data ws n).length → ∀ g, p6 = some ⟨g, 0, none⟩ → g < w9.heap.size) := fun h => w8_lt H86.out h
  have LR : Hid (0 < (sureX count data ws n).length → ∀ g, p8 = some ⟨g, 0, none⟩ → g < w9.heap.size) := fun h => w8_lt H88.out h
  have z39 : w3.heap.size < w9.heap.size := lt_heap HBT.out
  have z910 : w9.heap.size ≤ w10.heap.size := hb10.size
  have s9 : Hid (Since w9 w10) := hb10
  obtain ⟨pU, cU, qU, mU, rfl, _⟩ := hnU.parts
  clear x0 x1 x2 xlt
  have bb9 : Below w9.heap.size w9 w10 := hb10
  replace HB : Hid (w10.heap[w.heap.size]? = some (.cells #[.int .i64 count, .slice p data.length c, .slice q ws.length m] 25 (0, 0))) := (bb9.block _ (lt_heap HB.out)).trans HB.out
  replace HD : Hid (DiskIn w10 (.agg #[.int .i64 count, .slice p data.length c, .slice q ws.length m]) count data ws) := HD.out.below bb9
  replace HBX : Hid (BIn w10 pb xs) := HBX.out.below bb9
  replace HDT : Hid (DiskIn w10 (.agg #[.int .i64 count, .slice pT data.length cT, .slice qT ws.length mT]) count data ws) := HDT.out.below bb9
  replace HIN : Hid (BIn w10 pI xs) := HIN.out.below bb9
  replace HBT : Hid (w10.heap[w3.heap.size]? = some (.cells #[.int .i64 count, .slice pT data.length cT, .slice qT ws.length mT] 25 (0, 0))) := (bb9.block _ (lt_heap HBT.out)).trans HBT.out
  replace HDX : Hid (DiskIn w10 (.agg #[.int .i64 (newC count0), .slice pX (newD count0).length cX, .slice qX 0 mX]) (newC count0) (newD count0) []) := HDX.out.below bb9
  replace b3 : Hid (Since w3 w10) := b3.out.below bb9
  replace HBX2 : Hid (w10.heap[w4.heap.size]? = some (.cells #[.int .i64 (newC count0), .slice pX (newD count0).length cX, .slice qX 0 mX] 25 (0, 0))) := (bb9.block _ (lt_heap HBX2.out)).trans HBX2.out
  replace HDY : Hid (DiskIn w10 (.agg #[.int .i64 (newC count0), .slice pY (newD count0).length cY, .slice qY 0 mY]) (newC count0) (newD count0) []) := HDY.out.below bb9
  replace HBY : Hid (w10.heap[w5.heap.size]? = some (.cells #[.int .i64 (newC count0), .slice pY (newD count0).length cY, .slice qY 0 mY] 25 (0, 0))) := (bb9.block _ (lt_heap HBY.out)).trans HBY.out
  replace HI6 : Hid (BIn w10 p6 (readX count data ws n)) := HI6.out.below bb9
  replace H86 : Hid (W8 w10 (w5.alloc (.cells #[.int .i64 (newC count0), .slice pY (newD count0).length cY, .slice qY 0 mY] 25)).heap.size p6 (readX count data ws n).length) := H86.out.below bb9
  replace HI7 : Hid (BIn w10 p7 (readX count data ws n)) := HI7.out.below bb9
  replace HI8 : Hid (BIn w10 p8 (sureX count data ws n)) := HI8.out.below bb9
  replace H88 : Hid (W8 w10 w7.heap.size p8 (sureX count data ws n).length) := H88.out.below bb9
  replace HI9 : Hid (BIn w10 p9 (sureX count data ws n)) := HI9.out.below bb9
  replace hbc : Below w.heap.size w w10 := below_bt hbc bb9
  clear bb9 hb10
  have HDU : Hid (DiskIn w10 (.agg #[.int .i64 (resC count (wrA count data ws n xs)), .slice pU (resD (wrA count data ws n xs)).length cU, .slice qU (resW (wrA count data ws n xs)).length mU]) (resC count (wrA count data ws n xs)) (resD (wrA count data ws n xs)) (resW (wrA count data ws n xs))) := hnU
  have HSU : Hid (Spoils w10 w9.heap.size (.agg #[.int .i64 (resC count (wrA count data ws n xs)), .slice pU (resD (wrA count data ws n xs)).length cU, .slice qU (resW (wrA count data ws n xs)).length mU])) := hsU
  clear hnU hsU
  obtain ⟨x0, x1, x2⟩ := cells3 HB.out
  have xlt := lt_heap HB.out
  go_wp2_with fail
  refine (rwrite_u _ n pb _ cb xs count data ws _ (HD.out.below (below_alloc w10 (.cells #[.int .i64 (resC count (wrA count data ws n xs)), .slice pU (resD (wrA count data ws n xs)).length cU, .slice qU (resW (wrA count data ws n xs)).length mU] 25))) (HBX.out.below (below_alloc w10 (.cells #[.int .i64 (resC count (wrA count data ws n xs)), .slice pU (resD (wrA count data ws n xs)).length cU, .slice qU (resW (wrA count data ws n xs)).length mU] 25))) rfl H3.out wn).mono ?_
  rintro e w11 ⟨⟨vV, rfl, hnV⟩, hb11⟩
  have s11 : Hid (Since w9 w11) := below_bt s9.out (below_bt (below_alloc w10 _) hb11)
  obtain ⟨pV, cV, qV, mV, rfl, _⟩ := hnV.parts
  clear x0 x1 x2 xlt
  have HBU : Hid (w11.heap[w10.heap.size]? = some (.cells #[.int .i64 (resC count (wrA count data ws n xs)), .slice pU (resD (wrA count data ws n xs)).length cU, .slice qU (resW (wrA count data ws n xs)).length mU] 25 (0, 0))) := (hb11.block _ (by rw [World.size_alloc]; exact Nat.lt_succ_self _)).trans (heap_alloc_new w10 _)
  have bb10 : Below w10.heap.size w10 w11 := (below_bt (below_alloc w10 (.cells #[.int .i64 (resC count (wrA count data ws n xs)), .slice pU (resD (wrA count data ws n xs)).length cU, .slice qU (resW (wrA count data ws n xs)).length mU] 25)) hb11)
  replace HB : Hid (w11.heap[w.heap.size]? = some (.cells #[.int .i64 count, .slice p data.length c, .slice q ws.length m] 25 (0, 0))) := (bb10.block _ (lt_heap HB.out)).trans HB.out
  replace HD : Hid (DiskIn w11 (.agg #[.int .i64 count, .slice p data.length c, .slice q ws.length m]) count data ws) := HD.out.below bb10
  replace HBX : Hid (BIn w11 pb xs) := HBX.out.below bb10
  replace HDT : Hid (DiskIn w11 (.agg #[.int .i64 count, .slice pT data.length cT, .slice qT ws.length mT]) count data ws) := HDT.out.below bb10
  replace HIN : Hid (BIn w11 pI xs) := HIN.out.below bb10
  replace HBT : Hid (w11.heap[w3.heap.size]? = some (.cells #[.int .i64 count, .slice pT data.length cT, .slice qT ws.length mT] 25 (0, 0))) := (bb10.block _ (lt_heap HBT.out)).trans HBT.out
  replace HDX : Hid (DiskIn w11 (.agg #[.int .i64 (newC count0), .slice pX (newD count0).length cX, .slice qX 0 mX]) (newC count0) (newD count0) []) := HDX.out.below bb10
  replace b3 : Hid (Since w3 w11) := b3.out.below bb10
  replace HBX2 : Hid (w11.heap[w4.heap.size]? = some (.cells #[.int .i64 (newC count0), .slice pX (newD count0).length cX, .slice qX 0 mX] 25 (0, 0))) := (bb10.block _ (lt_heap HBX2.out)).trans HBX2.out
  replace HDY : Hid (DiskIn w11 (.agg #[.int .i64 (newC count0), .slice pY (newD count0).length cY, .slice qY 0 mY]) (newC count0) (newD count0) []) := HDY.out.below bb10
  replace HBY : Hid (w11.heap[w5.heap.size]? = some (.cells #[.int .i64 (newC count0), .slice pY (newD count0).length cY, .slice qY 0 mY] 25 (0, 0))) := (bb10.block _ (lt_heap HBY.out)).trans HBY.out
  replace HI6 : Hid (BIn w11 p6 (readX count data ws n)) := HI6.out.below bb10
  replace H86 : Hid (W8 w11 (w5.alloc (.cells #[.int .i64 (newC count0), .slice pY (newD count0).length cY, .slice qY 0 mY] 25)).heap.size p6 (readX count data ws n).length) := H86.out.below bb10
  replace HI7 : Hid (BIn w11 p7 (readX count data ws n)) := HI7.out.below bb10
  replace HI8 : Hid (BIn w11 p8 (sureX count data ws n)) := HI8.out.below bb10
  replace H88 : Hid (W8 w11 w7.heap.size p8 (sureX count data ws n).length) := H88.out.below bb10
  replace HI9 : Hid (BIn w11 p9 (sureX count data ws n)) := HI9.out.below bb10
  replace HDU : Hid (DiskIn w11 (.agg #[.int .i64 (resC count (wrA count data ws n xs)), .slice pU (resD (wrA count data ws n xs)).length cU, .slice qU (resW (wrA count data ws n xs)).length mU]) (resC count (wrA count data ws n xs)) (resD (wrA count data ws n xs)) (resW (wrA count data ws n xs))) := HDU.out.below bb10
  replace HSU : Hid (Spoils w11 w9.heap.size (.agg #[.int .i64 (resC count (wrA count data ws n xs)), .slice pU (resD (wrA count data ws n xs)).length cU, .slice qU (resW (wrA count data ws n xs)).length mU])) := HSU.out.below bb10
  replace hbc : Below w.heap.size w w11 := below_bt hbc bb10
  clear bb10 hb11
  have HDV : Hid (DiskIn w11 (.agg #[.int .i64 (resC count (wrA count data ws n xs)), .slice pV (resD (wrA count data ws n xs)).length cV, .slice qV (resW (wrA count data ws n xs)).length mV]) (resC count (wrA count data ws n xs)) (resD (wrA count data ws n xs)) (resW (wrA count data ws n xs))) := hnV
  clear hnV
  go_wp2
  have z9W0 : w9.heap.size ≤ w11.heap.size := (show Below w9.heap.size w9 w11 from s11.out).size
  obtain ⟨W, hW⟩ : ∃ W, W = w11.alloc (.cells #[.int .i64 (resC count (wrA count data ws n xs)), .slice pV (resD (wrA count data ws n xs)).length cV, .slice qV (resW (wrA count data ws n xs)).length mV] 25) := ⟨_, rfl⟩
  have hbW := below_alloc w11 (.cells #[.int .i64 (resC count (wrA count data ws n xs)), .slice pV (resD (wrA count data ws n xs)).length cV, .slice qV (resW (wrA count data ws n xs)).length mV] 25)
  have HBV : Hid (W.heap[w11.heap.size]? = some (.cells #[.int .i64 (resC count (wrA count data ws n xs)), .slice pV (resD (wrA count data ws n xs)).length cV, .slice qV (resW (wrA count data ws n xs)).length mV] 25 (0, 0))) := by rw [hW]; exact heap_alloc_new _ _
  have z9W : w9.heap.size ≤ W.heap.size := by rw [hW, World.size_alloc]; omega
  rw [← hW] at hbW ⊢
  clear hW
  have bb11 : Below w11.heap.size w11 W := hbW
  replace HB : Hid (W.heap[w.heap.size]? = some (.cells #[.int .i64 count, .slice p data.length c, .slice q ws.length m] 25 (0, 0))) := (bb11.block _ (lt_heap HB.out)).trans HB.out
  replace HD : Hid (DiskIn W (.agg #[.int .i64 count, .slice p data.length c, .slice q ws.length m]) count data ws) := HD.out.below bb11
  replace HBX : Hid (BIn W pb xs) := HBX.out.below bb11
  replace HDT : Hid (DiskIn W (.agg #[.int .i64 count, .slice pT data.length cT, .slice qT ws.length mT]) count data ws) := HDT.out.below bb11
  replace HIN : Hid (BIn W pI xs) := HIN.out.below bb11
  replace HBT : Hid (W.heap[w3.heap.size]? = some (.cells #[.int .i64 count, .slice pT data.length cT, .slice qT ws.length mT] 25 (0, 0))) := (bb11.block _ (lt_heap HBT.out)).trans HBT.out
  replace HDX : Hid (DiskIn W (.agg #[.int .i64 (newC count0), .slice pX (newD count0).length cX, .slice qX 0 mX]) (newC count0) (newD count0) []) := HDX.out.below bb11
  replace b3 : Hid (Since w3 W) := b3.out.below bb11
  replace HBX2 : Hid (W.heap[w4.heap.size]? = some (.cells #[.int .i64 (newC count0), .slice pX (newD count0).length cX, .slice qX 0 mX] 25 (0, 0))) := (bb11.block _ (lt_heap HBX2.out)).trans HBX2.out
  replace HDY : Hid (DiskIn W (.agg #[.int .i64 (newC count0), .slice pY (newD count0).length cY, .slice qY 0 mY]) (newC count0) (newD count0) []) := HDY.out.below bb11
  replace HBY : Hid (W.heap[w5.heap.size]? = some (.cells #[.int .i64 (newC count0), .slice pY (newD count0).length cY, .slice qY 0 mY] 25 (0, 0))) := (bb11.block _ (lt_heap HBY.out)).trans HBY.out
  replace HI6 : Hid (BIn W p6 (readX count data ws n)) := HI6.out.below bb11
  replace H86 : Hid (W8 W (w5.alloc (.cells #[.int .i64 (newC count0), .slice pY (newD count0).length cY, .slice qY 0 mY] 25)).heap.size p6 (readX count data ws n).length) := H86.out.below bb11
  replace HI7 : Hid (BIn W p7 (readX count data ws n)) := HI7.out.below bb11
  replace HI8 : Hid (BIn W p8 (sureX count data ws n)) := HI8.out.below bb11
  replace H88 : Hid (W8 W w7.heap.size p8 (sureX count data ws n).length) := H88.out.below bb11
  replace HI9 : Hid (BIn W p9 (sureX count data ws n)) := HI9.out.below bb11
  replace HDU : Hid (DiskIn W (.agg #[.int .i64 (resC count (wrA count data ws n xs)), .slice pU (resD (wrA count data ws n xs)).length cU, .slice qU (resW (wrA count data ws n xs)).length mU]) (resC count (wrA count data ws n xs)) (resD (wrA count data ws n xs)) (resW (wrA count data ws n xs))) := HDU.out.below bb11
  replace HSU : Hid (Spoils W w9.heap.size (.agg #[.int .i64 (resC count (wrA count data ws n xs)), .slice pU (resD (wrA count data ws n xs)).length cU, .slice qU (resW (wrA count data ws n xs)).length mU])) := HSU.out.below bb11
  replace HBU : Hid (W.heap[w10.heap.size]? = some (.cells #[.int .i64 (resC count (wrA count data ws n xs)), .slice pU (resD (wrA count data ws n xs)).length cU, .slice qU (resW (wrA count data ws n xs)).length mU] 25 (0, 0))) := (bb11.block _ (lt_heap HBU.out)).trans HBU.out
  replace HDV : Hid (DiskIn W (.agg #[.int .i64 (resC count (wrA count data ws n xs)), .slice pV (resD (wrA count data ws n xs)).length cV, .slice qV (resW (wrA count data ws n xs)).length mV]) (resC count (wrA count data ws n xs)) (resD (wrA count data ws n xs)) (resW (wrA count data ws n xs))) := HDV.out.below bb11
  replace hbc : Below w.heap.size w W := below_bt hbc bb11
  clear bb11 hbW
  have HKeep : Hid (∀ w', Below W.heap.size W w' → (w'.cell? ⟨w3.heap.size, 0, none⟩ = some (.int .i64 count) ∧ w'.cell? ⟨w3.heap.size, 1, none⟩ = some (.slice pT data.length cT) ∧ w'.cell? ⟨w3.heap.size, 2, none⟩ = some (.slice qT ws.length mT)) ∧ (w'.cell? ⟨w.heap.size, 0, none⟩ = some (.int .i64 count) ∧ w'.cell? ⟨w.heap.size, 1, none⟩ = some (.slice p data.length c) ∧ w'.cell? ⟨w.heap.size, 2, none⟩ = some (.slice q ws.length m)) ∧ (w'.cell? ⟨w4.heap.size, 0, none⟩ = some (.int .i64 (newC count0)) ∧ w'.cell? ⟨w4.heap.size, 1, none⟩ = some (.slice pX (newD count0).length cX) ∧ w'.cell? ⟨w4.heap.size, 2, none⟩ = some (.slice qX 0 mX)) ∧ (w'.cell? ⟨w5.heap.size, 0, none⟩ = some (.int .i64 (newC count0)) ∧ w'.cell? ⟨w5.heap.size, 1, none⟩ = some (.slice pY (newD count0).length cY) ∧ w'.cell? ⟨w5.heap.size, 2, none⟩ = some (.slice qY 0 mY)) ∧ (w'.cell? ⟨w10.heap.size, 0, none⟩ = some (.int .i64 (resC count (wrA count data ws n xs))) ∧ w'.cell? ⟨w10.heap.size, 1, none⟩ = some (.slice pU (resD (wrA count data ws n xs)).length cU) ∧ w'.cell? ⟨w10.heap.size, 2, none⟩ = some (.slice qU (resW (wrA count data ws n xs)).length mU)) ∧ (w'.cell? ⟨w11.heap.size, 0, none⟩ = some (.int .i64 (resC count (wrA count data ws n xs))) ∧ w'.cell? ⟨w11.heap.size, 1, none⟩ = some (.slice pV (resD (wrA count data ws n xs)).length cV) ∧ w'.cell? ⟨w11.heap.size, 2, none⟩ = some (.slice qV (resW (wrA count data ws n xs)).length mV)) ∧ (convert 22 9 (.slice p6 (readX count data ws n).length c6)).run Try.prog w' = .ok (.string (strOf (readX count data ws n))) w' ∧ (convert 22 9 (.slice p7 (readX count data ws n).length c7)).run Try.prog w' = .ok (.string (strOf (readX count data ws n))) w' ∧ (convert 22 9 (.slice p8 (sureX count data ws n).length c8)).run Try.prog w' = .ok (.string (strOf (sureX count data ws n))) w' ∧ (convert 22 9 (.slice p9 (sureX count data ws n).length c9)).run Try.prog w' = .ok (.string (strOf (sureX count data ws n))) w' ∧ Hid (Below W.heap.size W w')) := by
    intro w' hb
    exact ⟨cells3 ((hb.block _ (lt_heap HBT.out)).trans HBT.out), cells3 ((hb.block _ (lt_heap HB.out)).trans HB.out), cells3 ((hb.block _ (lt_heap HBX2.out)).trans HBX2.out), cells3 ((hb.block _ (lt_heap HBY.out)).trans HBY.out), cells3 ((hb.block _ (lt_heap HBU.out)).trans HBU.out), cells3 ((hb.block _ (lt_heap HBV.out)).trans HBV.out), conv_at (HI6.out.below hb) rfl, conv_at (HI7.out.below hb) rfl, conv_at (HI8.out.below hb) rfl, conv_at (HI9.out.below hb) rfl, hb⟩
  have hee : (errS count data ws n != errS count data ws n) = false := by simp
  have hne : (newE count0 != newE count0) = false := by simp
  have hrr : (resE (wrA count data ws n xs) != resE (wrA count data ws n xs)) = false := by simp
  have hcc : (errC count data ws != errC count data ws) = false := by simp
  refine wp_region_noPanic ?_
  refine wp_region_held_drew (S := fun w' => (w'.cell? ⟨w3.heap.size, 0, none⟩ = some (.int .i64 count) ∧ w'.cell? ⟨w3.heap.size, 1, none⟩ = some (.slice pT data.length cT) ∧ w'.cell? ⟨w3.heap.size, 2, none⟩ = some (.slice qT ws.length mT)) ∧ (w'.cell? ⟨w.heap.size, 0, none⟩ = some (.int .i64 count) ∧ w'.cell? ⟨w.heap.size, 1, none⟩ = some (.slice p data.length c) ∧ w'.cell? ⟨w.heap.size, 2, none⟩ = some (.slice q ws.length m)) ∧ (w'.cell? ⟨w4.heap.size, 0, none⟩ = some (.int .i64 (newC count0)) ∧ w'.cell? ⟨w4.heap.size, 1, none⟩ = some (.slice pX (newD count0).length cX) ∧ w'.cell? ⟨w4.heap.size, 2, none⟩ = some (.slice qX 0 mX)) ∧ (w'.cell? ⟨w5.heap.size, 0, none⟩ = some (.int .i64 (newC count0)) ∧ w'.cell? ⟨w5.heap.size, 1, none⟩ = some (.slice pY (newD count0).length cY) ∧ w'.cell? ⟨w5.heap.size, 2, none⟩ = some (.slice qY 0 mY)) ∧ (w'.cell? ⟨w10.heap.size, 0, none⟩ = some (.int .i64 (resC count (wrA count data ws n xs))) ∧ w'.cell? ⟨w10.heap.size, 1, none⟩ = some (.slice pU (resD (wrA count data ws n xs)).length cU) ∧ w'.cell? ⟨w10.heap.size, 2, none⟩ = some (.slice qU (resW (wrA count data ws n xs)).length mU)) ∧ (w'.cell? ⟨w11.heap.size, 0, none⟩ = some (.int .i64 (resC count (wrA count data ws n xs))) ∧ w'.cell? ⟨w11.heap.size, 1, none⟩ = some (.slice pV (resD (wrA count data ws n xs)).length cV) ∧ w'.cell? ⟨w11.heap.size, 2, none⟩ = some (.slice qV (resW (wrA count data ws n xs)).length mV)) ∧ (convert 22 9 (.slice p6 (readX count data ws n).length c6)).run Try.prog w' = .ok (.string (strOf (readX count data ws n))) w' ∧ (convert 22 9 (.slice p7 (readX count data ws n).length c7)).run Try.prog w' = .ok (.string (strOf (readX count data ws n))) w' ∧ (convert 22 9 (.slice p8 (sureX count data ws n).length c8)).run Try.prog w' = .ok (.string (strOf (sureX count data ws n))) w' ∧ (convert 22 9 (.slice p9 (sureX count data ws n).length c9)).run Try.prog w' = .ok (.string (strOf (sureX count data ws n))) w' ∧ Hid (Below W.heap.size W w')) (by kernel_rfl) (HKeep.out _ ((Below.refl _ _).drew)) (fun hS0 => ?_)
  refine takeH 0 95 (v := ?_) rfl rfl (by kernel_rfl) (by kernel_rfl) (by kernel_rfl) (fun _ _ _ h => h) (by rfl) ?_ (by assumption) ?_
  rotate_left
  · intro w hSw; go_simp; first | done | with_reducible rfl
  simp only [Act.put, List.setIfInBounds_toArray, List.set_cons_zero, List.set_cons_succ]
  refine takeH 2 97 (v := ?_) rfl rfl (by kernel_rfl) (by kernel_rfl) (by kernel_rfl) (fun _ _ _ h => h) (by rfl) ?_ (by assumption) ?_
  rotate_left
  · intro w hSw; go_simp; first | done | with_reducible rfl
  simp only [Act.put, List.setIfInBounds_toArray, List.set_cons_zero, List.set_cons_succ]
  refine wpAnyH_ready (rs := [1]) (by kernel_rfl) (by simp) ?_
  refine AllReadyH.cons rfl (fun K hK => ?_) AllReadyH.nil
  go_simp
  refine (check_any _ count data ws _ (HDT.out.below hS0.2.2.2.2.2.2.2.2.2.2.out)).mono ?_
  rintro e wl1 ⟨rfl, hb1⟩
  go_simp
  refine hK.out _ _ (HKeep.out _ (below_bt hS0.2.2.2.2.2.2.2.2.2.2.out hb1)) (fun hS1 => ?_)
  clear hK K
  refine wpAnyH_ready (rs := [3]) (by kernel_rfl) (by simp) ?_
  refine AllReadyH.cons rfl (fun K hK => ?_) AllReadyH.nil
  go_simp
  refine (rcheck_any _ count data ws _ (HD.out.below hS1.2.2.2.2.2.2.2.2.2.2.out)).mono ?_
  rintro e wl2 ⟨rfl, hb2⟩
  go_simp
  refine hK.out _ _ (HKeep.out _ (below_bt hS1.2.2.2.2.2.2.2.2.2.2.out hb2)) (fun hS2 => ?_)
  clear hK K
  refine takeH 4 99 (v := ?_) rfl rfl (by kernel_rfl) (by kernel_rfl) (by kernel_rfl) (fun _ _ _ h => h) (by rfl) ?_ (by assumption) ?_
  rotate_left
  · intro w hSw; go_simp; first | done | with_reducible rfl
  simp only [Act.put, List.setIfInBounds_toArray, List.set_cons_zero, List.set_cons_succ]
  refine takeH 5 100 (v := ?_) rfl rfl (by kernel_rfl) (by kernel_rfl) (by kernel_rfl) (fun _ _ _ h => h) (by rfl) ?_ (by assumption) ?_
  rotate_left
  · intro w hSw; go_simp; first | done | with_reducible rfl
  simp only [Act.put, List.setIfInBounds_toArray, List.set_cons_zero, List.set_cons_succ]
  refine takeH 6 101 (v := ?_) rfl rfl (by kernel_rfl) (by kernel_rfl) (by kernel_rfl) (fun _ _ _ h => h) (by rfl) ?_ (by assumption) ?_
  rotate_left
  · intro w hSw; go_simp; first | done | with_reducible rfl
  simp only [Act.put, List.setIfInBounds_toArray, List.set_cons_zero, List.set_cons_succ]
  refine takeH 7 102 (v := ?_) rfl rfl (by kernel_rfl) (by kernel_rfl) (by kernel_rfl) (fun _ _ _ h => h) (by rfl) ?_ (by assumption) ?_
  rotate_left
  · intro w hSw; go_simp; first | done | with_reducible rfl
  simp only [Act.put, List.setIfInBounds_toArray, List.set_cons_zero, List.set_cons_succ]
  refine takeH 8 103 (v := ?_) rfl rfl (by kernel_rfl) (by kernel_rfl) (by kernel_rfl) (fun _ _ _ h => h) (by rfl) ?_ (by assumption) ?_
  rotate_left
  · intro w hSw; go_simp; first | done | with_reducible rfl
  simp only [Act.put, List.setIfInBounds_toArray, List.set_cons_zero, List.set_cons_succ]
  refine takeH 9 104 (v := ?_) rfl rfl (by kernel_rfl) (by kernel_rfl) (by kernel_rfl) (fun _ _ _ h => h) (by rfl) ?_ (by assumption) ?_
  rotate_left
  · intro w hSw; go_simp; first | done | with_reducible rfl
  simp only [Act.put, List.setIfInBounds_toArray, List.set_cons_zero, List.set_cons_succ]
  refine takeH 10 105 (v := ?_) rfl rfl (by kernel_rfl) (by kernel_rfl) (by kernel_rfl) (fun _ _ _ h => h) (by rfl) ?_ (by assumption) ?_
  rotate_left
  · intro w hSw; go_simp; first | done | with_reducible rfl
  simp only [Act.put, List.setIfInBounds_toArray, List.set_cons_zero, List.set_cons_succ]
  refine takeH 11 106 (v := ?_) rfl rfl (by kernel_rfl) (by kernel_rfl) (by kernel_rfl) (fun _ _ _ h => h) (by rfl) ?_ (by assumption) ?_
  rotate_left
  · intro w hSw; go_simp; first | done | with_reducible rfl
  simp only [Act.put, List.setIfInBounds_toArray, List.set_cons_zero, List.set_cons_succ]
  refine takeH 12 107 (v := ?_) rfl rfl (by kernel_rfl) (by kernel_rfl) (by kernel_rfl) (fun _ _ _ h => h) (by rfl) ?_ (by assumption) ?_
  rotate_left
  · intro w hSw; go_simp; first | done | with_reducible rfl
  simp only [Act.put, List.setIfInBounds_toArray, List.set_cons_zero, List.set_cons_succ]
  refine wpAnyH_ready (rs := [13]) (by kernel_rfl) (by simp) ?_
  refine AllReadyH.cons rfl (fun K hK => ?_) AllReadyH.nil
  go_simp
  refine (rsame_any _ _ _ _ _ _ _ _ _ (HDX.out.below hS2.2.2.2.2.2.2.2.2.2.2.out) (HDY.out.below hS2.2.2.2.2.2.2.2.2.2.2.out) true ⟨fun _ => ⟨rfl, rfl, rfl⟩, fun _ => rfl⟩).mono ?_
  rintro e wl3 ⟨rfl, hb3⟩
  go_simp
  refine hK.out _ _ (HKeep.out _ (below_bt hS2.2.2.2.2.2.2.2.2.2.2.out hb3)) (fun hS3 => ?_)
  clear hK K
  refine takeH 14 109 (v := ?_) rfl rfl (by kernel_rfl) (by kernel_rfl) (by kernel_rfl) (fun _ _ _ h => h) (by rfl) ?_ (by assumption) ?_
  rotate_left
  · intro w hSw; go_simp; first | done | with_reducible rfl
  simp only [Act.put, List.setIfInBounds_toArray, List.set_cons_zero, List.set_cons_succ]
  refine takeH 15 110 (v := ?_) rfl rfl (by kernel_rfl) (by kernel_rfl) (by kernel_rfl) (fun _ _ _ h => h) (by rfl) ?_ (by assumption) ?_
  rotate_left
  · intro w hSw; go_simp; first | done | with_reducible rfl
  simp only [Act.put, List.setIfInBounds_toArray, List.set_cons_zero, List.set_cons_succ]
  refine takeH 16 111 (v := ?_) rfl rfl (by kernel_rfl) (by kernel_rfl) (by kernel_rfl) (fun _ _ _ h => h) (by rfl) ?_ (by assumption) ?_
  rotate_left
  · intro w hSw; go_simp; first | done | with_reducible rfl
  simp only [Act.put, List.setIfInBounds_toArray, List.set_cons_zero, List.set_cons_succ]
  refine takeH 17 112 (v := ?_) rfl rfl (by kernel_rfl) (by kernel_rfl) (by kernel_rfl) (fun _ _ _ h => h) (by rfl) ?_ (by assumption) ?_
  rotate_left
  · intro w hSw; go_simp; first | done | with_reducible rfl
  simp only [Act.put, List.setIfInBounds_toArray, List.set_cons_zero, List.set_cons_succ]
  refine takeH 18 113 (v := ?_) rfl rfl (by kernel_rfl) (by kernel_rfl) (by kernel_rfl) (fun _ _ _ h => h) (by rfl) ?_ (by assumption) ?_
  rotate_left
  · intro w hSw; go_simp; first | done | with_reducible rfl
  simp only [Act.put, List.setIfInBounds_toArray, List.set_cons_zero, List.set_cons_succ]
  refine takeH 19 114 (v := ?_) rfl rfl (by kernel_rfl) (by kernel_rfl) (by kernel_rfl) (fun _ _ _ h => h) (by rfl) ?_ (by assumption) ?_
  rotate_left
  · intro w hSw; go_simp; first | done | with_reducible rfl
  simp only [Act.put, List.setIfInBounds_toArray, List.set_cons_zero, List.set_cons_succ]
  refine takeH 20 115 (v := ?_) rfl rfl (by kernel_rfl) (by kernel_rfl) (by kernel_rfl) (fun _ _ _ h => h) (by rfl) ?_ (by assumption) ?_
  rotate_left
  · intro w hSw; go_simp; first | done | with_reducible rfl
  simp only [Act.put, List.setIfInBounds_toArray, List.set_cons_zero, List.set_cons_succ]
  refine takeH 21 116 (v := ?_) rfl rfl (by kernel_rfl) (by kernel_rfl) (by kernel_rfl) (fun _ _ _ h => h) (by rfl) ?_ (by assumption) ?_
  rotate_left
  · intro w hSw; go_simp; first | done | with_reducible rfl
  simp only [Act.put, List.setIfInBounds_toArray, List.set_cons_zero, List.set_cons_succ]
  refine takeH 22 117 (v := ?_) rfl rfl (by kernel_rfl) (by kernel_rfl) (by kernel_rfl) (fun _ _ _ h => h) (by rfl) ?_ (by assumption) ?_
  rotate_left
  · intro w hSw; go_simp; first | done | with_reducible rfl
  simp only [Act.put, List.setIfInBounds_toArray, List.set_cons_zero, List.set_cons_succ]
  refine takeH 23 118 (v := ?_) rfl rfl (by kernel_rfl) (by kernel_rfl) (by kernel_rfl) (fun _ _ _ h => h) (by rfl) ?_ (by assumption) ?_
  rotate_left
  · intro w hSw; go_simp; first | done | with_reducible rfl
  simp only [Act.put, List.setIfInBounds_toArray, List.set_cons_zero, List.set_cons_succ]
  refine takeH 24 119 (v := ?_) rfl rfl (by kernel_rfl) (by kernel_rfl) (by kernel_rfl) (fun _ _ _ h => h) (by rfl) ?_ (by assumption) ?_
  rotate_left
  · intro w hSw; go_simp; first | done | with_reducible rfl
  simp only [Act.put, List.setIfInBounds_toArray, List.set_cons_zero, List.set_cons_succ]
  refine takeH 25 120 (v := ?_) rfl rfl (by kernel_rfl) (by kernel_rfl) (by kernel_rfl) (fun _ _ _ h => h) (by rfl) ?_ (by assumption) ?_
  rotate_left
  · intro w hSw; go_simp; first | done | with_reducible rfl
  simp only [Act.put, List.setIfInBounds_toArray, List.set_cons_zero, List.set_cons_succ]
  refine takeH 26 121 (v := ?_) rfl rfl (by kernel_rfl) (by kernel_rfl) (by kernel_rfl) (fun _ _ _ h => h) (by rfl) ?_ (by assumption) ?_
  rotate_left
  · intro w hSw; go_simp; first | done | with_reducible rfl
  simp only [Act.put, List.setIfInBounds_toArray, List.set_cons_zero, List.set_cons_succ]
  refine takeH 27 122 (v := ?_) rfl rfl (by kernel_rfl) (by kernel_rfl) (by kernel_rfl) (fun _ _ _ h => h) (by rfl) ?_ (by assumption) ?_
  rotate_left
  · intro w hSw; go_simp; first | done | with_reducible rfl
  simp only [Act.put, List.setIfInBounds_toArray, List.set_cons_zero, List.set_cons_succ]
  refine takeH 28 123 (v := ?_) rfl rfl (by kernel_rfl) (by kernel_rfl) (by kernel_rfl) (fun _ _ _ h => h) (by rfl) ?_ (by assumption) ?_
  rotate_left
  · intro w hSw; go_simp; first | done | with_reducible rfl
  simp only [Act.put, List.setIfInBounds_toArray, List.set_cons_zero, List.set_cons_succ]
  refine takeH 29 124 (v := ?_) rfl rfl (by kernel_rfl) (by kernel_rfl) (by kernel_rfl) (fun _ _ _ h => h) (by rfl) ?_ (by assumption) ?_
  rotate_left
  · intro w hSw; go_simp; first | done | with_reducible rfl
  simp only [Act.put, List.setIfInBounds_toArray, List.set_cons_zero, List.set_cons_succ]
  refine takeH 30 125 (v := ?_) rfl rfl (by kernel_rfl) (by kernel_rfl) (by kernel_rfl) (fun _ _ _ h => h) (by rfl) ?_ (by assumption) ?_
  rotate_left
  · intro w hSw; go_simp; first | done | with_reducible rfl
  simp only [Act.put, List.setIfInBounds_toArray, List.set_cons_zero, List.set_cons_succ]
  refine takeH 31 126 (v := ?_) rfl rfl (by kernel_rfl) (by kernel_rfl) (by kernel_rfl) (fun _ _ _ h => h) (by rfl) ?_ (by assumption) ?_
  rotate_left
  · intro w hSw; go_simp; first | done | with_reducible rfl
  simp only [Act.put, List.setIfInBounds_toArray, List.set_cons_zero, List.set_cons_succ]
  refine takeH 32 127 (v := ?_) rfl rfl (by kernel_rfl) (by kernel_rfl) (by kernel_rfl) (fun _ _ _ h => h) (by rfl) ?_ (by assumption) ?_
  rotate_left
  · intro w hSw; go_simp; first | done | with_reducible rfl
  simp only [Act.put, List.setIfInBounds_toArray, List.set_cons_zero, List.set_cons_succ]
  refine takeH 33 128 (v := ?_) rfl rfl (by kernel_rfl) (by kernel_rfl) (by kernel_rfl) (fun _ _ _ h => h) (by rfl) ?_ (by assumption) ?_
  rotate_left
  · intro w hSw; go_simp; first | done | with_reducible rfl
  simp only [Act.put, List.setIfInBounds_toArray, List.set_cons_zero, List.set_cons_succ]
  refine takeH 34 129 (v := ?_) rfl rfl (by kernel_rfl) (by kernel_rfl) (by kernel_rfl) (fun _ _ _ h => h) (by rfl) ?_ (by assumption) ?_
  rotate_left
  · intro w hSw; go_simp; first | done | with_reducible rfl
  simp only [Act.put, List.setIfInBounds_toArray, List.set_cons_zero, List.set_cons_succ]
  refine takeH 35 130 (v := ?_) rfl rfl (by kernel_rfl) (by kernel_rfl) (by kernel_rfl) (fun _ _ _ h => h) (by rfl) ?_ (by assumption) ?_
  rotate_left
  · intro w hSw; go_simp; first | done | with_reducible rfl
  simp only [Act.put, List.setIfInBounds_toArray, List.set_cons_zero, List.set_cons_succ]
  refine takeH 36 131 (v := ?_) rfl rfl (by kernel_rfl) (by kernel_rfl) (by kernel_rfl) (fun _ _ _ h => h) (by rfl) ?_ (by assumption) ?_
  rotate_left
  · intro w hSw; go_simp; first | done | with_reducible rfl
  simp only [Act.put, List.setIfInBounds_toArray, List.set_cons_zero, List.set_cons_succ]
  refine takeH 37 132 (v := ?_) rfl rfl (by kernel_rfl) (by kernel_rfl) (by kernel_rfl) (fun _ _ _ h => h) (by rfl) ?_ (by assumption) ?_
  rotate_left
  · intro w hSw; go_simp; first | done | with_reducible rfl
  simp only [Act.put, List.setIfInBounds_toArray, List.set_cons_zero, List.set_cons_succ]
  refine takeH 38 133 (v := ?_) rfl rfl (by kernel_rfl) (by kernel_rfl) (by kernel_rfl) (fun _ _ _ h => h) (by rfl) ?_ (by assumption) ?_
  rotate_left
  · intro w hSw; go_simp; first | done | with_reducible rfl
  simp only [Act.put, List.setIfInBounds_toArray, List.set_cons_zero, List.set_cons_succ]
  refine takeH 39 134 (v := ?_) rfl rfl (by kernel_rfl) (by kernel_rfl) (by kernel_rfl) (fun _ _ _ h => h) (by rfl) ?_ (by assumption) ?_
  rotate_left
  · intro w hSw; go_simp; first | done | with_reducible rfl
  simp only [Act.put, List.setIfInBounds_toArray, List.set_cons_zero, List.set_cons_succ]
  refine takeH 40 135 (v := ?_) rfl rfl (by kernel_rfl) (by kernel_rfl) (by kernel_rfl) (fun _ _ _ h => h) (by rfl) ?_ (by assumption) ?_
  rotate_left
  · intro w hSw; go_simp; first | done | with_reducible rfl
  simp only [Act.put, List.setIfInBounds_toArray, List.set_cons_zero, List.set_cons_succ]
  refine takeH 41 136 (v := ?_) rfl rfl (by kernel_rfl) (by kernel_rfl) (by kernel_rfl) (fun _ _ _ h => h) (by rfl) ?_ (by assumption) ?_
  rotate_left
  · intro w hSw; go_simp; first | done | with_reducible rfl
  simp only [Act.put, List.setIfInBounds_toArray, List.set_cons_zero, List.set_cons_succ]
  refine takeH 42 137 (v := ?_) rfl rfl (by kernel_rfl) (by kernel_rfl) (by kernel_rfl) (fun _ _ _ h => h) (by rfl) ?_ (by assumption) ?_
  rotate_left
  · intro w hSw; go_simp; first | done | with_reducible rfl
  simp only [Act.put, List.setIfInBounds_toArray, List.set_cons_zero, List.set_cons_succ]
  refine takeH 43 138 (v := ?_) rfl rfl (by kernel_rfl) (by kernel_rfl) (by kernel_rfl) (fun _ _ _ h => h) (by rfl) ?_ (by assumption) ?_
  rotate_left
  · intro w hSw; go_simp; first | done | with_reducible rfl
  simp only [Act.put, List.setIfInBounds_toArray, List.set_cons_zero, List.set_cons_succ]
  refine takeH 44 139 (v := ?_) rfl rfl (by kernel_rfl) (by kernel_rfl) (by kernel_rfl) (fun _ _ _ h => h) (by rfl) ?_ (by assumption) ?_
  rotate_left
  · intro w hSw; go_simp; first | done | with_reducible rfl
  simp only [Act.put, List.setIfInBounds_toArray, List.set_cons_zero, List.set_cons_succ]
  refine takeH 45 140 (v := ?_) rfl rfl (by kernel_rfl) (by kernel_rfl) (by kernel_rfl) (fun _ _ _ h => h) (by rfl) ?_ (by assumption) ?_
  rotate_left
  · intro w hSw; go_simp; first | done | with_reducible rfl
  simp only [Act.put, List.setIfInBounds_toArray, List.set_cons_zero, List.set_cons_succ]
  refine takeH 46 141 (v := ?_) rfl rfl (by kernel_rfl) (by kernel_rfl) (by kernel_rfl) (fun _ _ _ h => h) (by rfl) ?_ (by assumption) ?_
  rotate_left
  · intro w hSw; go_simp; first | done | with_reducible rfl
  simp only [Act.put, List.setIfInBounds_toArray, List.set_cons_zero, List.set_cons_succ]
  refine takeH 47 142 (v := ?_) rfl rfl (by kernel_rfl) (by kernel_rfl) (by kernel_rfl) (fun _ _ _ h => h) (by rfl) ?_ (by assumption) ?_
  rotate_left
  · intro w hSw; go_simp; first | done | with_reducible rfl
  simp only [Act.put, List.setIfInBounds_toArray, List.set_cons_zero, List.set_cons_succ]
  refine wpAnyH_ready (rs := [48]) (by kernel_rfl) (by simp) ?_
  refine AllReadyH.cons rfl (fun K hK => ?_) AllReadyH.nil
  go_simp
  refine (rsame_any _ _ _ _ _ _ _ _ _ (HDU.out.below hS3.2.2.2.2.2.2.2.2.2.2.out) (HDV.out.below hS3.2.2.2.2.2.2.2.2.2.2.out) true ⟨fun _ => ⟨rfl, rfl, rfl⟩, fun _ => rfl⟩).mono ?_
  rintro e wl4 ⟨rfl, hb4⟩
  go_simp
  refine hK.out _ _ (HKeep.out _ (below_bt hS3.2.2.2.2.2.2.2.2.2.2.out hb4)) (fun hS4 => ?_)
  clear hK K
  refine takeH 49 144 (v := ?_) rfl rfl (by kernel_rfl) (by kernel_rfl) (by kernel_rfl) (fun _ _ _ h => h) (by rfl) ?_ (by assumption) ?_
  rotate_left
  · intro w hSw; go_simp; first | done | with_reducible rfl
  simp only [Act.put, List.setIfInBounds_toArray, List.set_cons_zero, List.set_cons_succ]
  refine takeH 50 145 (v := ?_) rfl rfl (by kernel_rfl) (by kernel_rfl) (by kernel_rfl) (fun _ _ _ h => h) (by rfl) ?_ (by assumption) ?_
  rotate_left
  · intro w hSw; go_simp; first | done | with_reducible rfl
  simp only [Act.put, List.setIfInBounds_toArray, List.set_cons_zero, List.set_cons_succ]
  refine wpAnyH_done (by kernel_rfl) (NoPanic.normal ?_) _
  have hWL := hS4.2.2.2.2.2.2.2.2.2.2.out
  go_wp2
  have bL : Below w3.heap.size w3 wl4 := below_bt b3.out hWL
  have HTL : Hid (wl4.heap[w3.heap.size]? = some (.cells #[.int .i64 count, .slice pT data.length cT, .slice qT ws.length mT] 25 (0, 0))) := (hWL.block _ (lt_heap HBT.out)).trans HBT.out
  have HUL : Hid (wl4.heap[w10.heap.size]? = some (.cells #[.int .i64 (resC count (wrA count data ws n xs)), .slice pU (resD (wrA count data ws n xs)).length cU, .slice qU (resW (wrA count data ws n xs)).length mU] 25 (0, 0))) := (hWL.block _ (lt_heap HBU.out)).trans HBU.out
  have HSL : Hid (Spoils wl4 w9.heap.size (.agg #[.int .i64 (resC count (wrA count data ws n xs)), .slice pU (resD (wrA count data ws n xs)).length cU, .slice qU (resW (wrA count data ws n xs)).length mU])) := HSU.out.below hWL
  have H8P : Hid (W8 wl4 (w5.alloc (.cells #[.int .i64 (newC count0), .slice pY (newD count0).length cY, .slice qY 0 mY] 25)).heap.size p6 (readX count data ws n).length) := H86.out.below hWL
  have H8R : Hid (W8 wl4 w7.heap.size p8 (sureX count data ws n).length) := H88.out.below hWL
  have z9 : w9.heap.size ≤ wl4.heap.size := by have := hWL.size; have := z9W; omega
  have hRS := x_len count data ws n
  have hr1 : (readX count data ws n).length ≤ (sureX count data ws n).length := by omega
  have hr2 : (sureX count data ws n).length ≤ (readX count data ws n).length := by omega
  have hr3 : (readX count data ws n).length ≤ 128 := by have := x_max count data ws n; omega
  clear hRS HKeep hee hne hrr hcc HBV HBX2 HBY HDX HDY HDU HDV HSU H86 H88 HI6 HI7 HI8 HI9 hS1 hS2 hS3 hS4 hS0 hb1 hb2 hb3 hb4 HBT HBU
  generalize hRDg : (readX count data ws n) = RD at *
  generalize hSUg : (sureX count data ws n) = SU at *
  clear hRDg hSUg
  by_cases hz : 0 < RD.length
  · obtain ⟨gp, rfl, hgp, hup⟩ := H8P.out hz
    obtain ⟨gr, rfl, hgr, hur⟩ := H8R.out (by omega)
    have lp : gp < w9.heap.size := LP.out hz gp rfl
    have lr : gr < w9.heap.size := LR.out (by omega) gr rfl
    have hgp3 : w3.heap.size < gp := by rw [World.size_alloc] at hgp; omega
    have hgr3 : w3.heap.size < gr := by omega
    have HS0 : Sp2 gp gr RD.length wl4 wl4 := ⟨rfl, rfl, rfl, Nat.le_refl _, fun _ _ _ _ => rfl, hup, by obtain ⟨cs, q1, q2, q3⟩ := hur; exact ⟨cs, q1, by omega, q3⟩⟩
    have HSS : Hid _ := HS0
    clear HS0 hup hur
    go_loopw [27] (fun i wr => ∃ k : Nat, k ≤ RD.length ∧ i = .int .i64 k ∧ Sp2 gp gr RD.length wl4 wr) (fun i _ => RD.length - (intOf i).toNat)
    case atStart => exact ⟨0, by omega, rfl, HSS.out⟩
    case round =>
      obtain ⟨k, hk, rfl, hsp⟩ := hrel
      by_cases hkl : k < RD.length
      · obtain ⟨cs, q1, q2, q3⟩ := hsp.rp
        obtain ⟨y1, hy1⟩ := q3 k (by omega)
        have c1 := cell_of_row wr gp k _ _ _ q1
        rw [hy1] at c1
        have f1 := frozen_of_row wr gp k _ _ q1
        have hsp1 := hsp.setP gp (.inl rfl) k 77
        obtain ⟨cs2, r1, r2, r3⟩ := hsp1.rr
        obtain ⟨y2, hy2⟩ := r3 k (by omega)
        have c2 := cell_of_row _ gr k _ _ _ r1
        rw [hy2] at c2
        have f2 := frozen_of_row _ gr k _ _ r1
        have HS2 : Hid _ := hsp1.setP gr (.inr rfl) k 77
        have hks : (k : Int) < (SU.length : Int) := by omega
        clear hsp hsp1 q1 q3 r1 r3 hy1 hy2
        go_wp2
        go_roundw
        case rel => exact ⟨k + 1, by omega, by go_num, HS2.out⟩
        case measure => simp [intOf]; omega
      · obtain rfl : k = RD.length := by omega
        have hdk : decide (((RD.length : Nat) : Int) < (RD.length : Int)) = false := by simp
        have HSP : Hid _ := hsp
        clear hsp
        have hsp := HSP.out
        have hcut : Below w3.heap.size w3 wr ∧ wr.heap[w3.heap.size]? = some (.cells #[.int .i64 count, .slice pT data.length cT, .slice qT ws.length mT] 25 (0, 0)) ∧ wr.heap[w10.heap.size]? = some (.cells #[.int .i64 (resC count (wrA count data ws n xs)), .slice pU (resD (wrA count data ws n xs)).length cU, .slice qU (resW (wrA count data ws n xs)).length mU] 25 (0, 0)) ∧ Spoils wr w9.heap.size (.agg #[.int .i64 (resC count (wrA count data ws n xs)), .slice pU (resD (wrA count data ws n xs)).length cU, .slice qU (resW (wrA count data ws n xs)).length mU]) ∧ w9.heap.size ≤ wr.heap.size := ⟨bL.trans (hsp.below bL.size (by omega) (by omega)), (hsp.block _ (lt_heap HTL.out) (by omega) (by omega)).trans HTL.out, (hsp.block _ (lt_heap HUL.out) (by omega) (by omega)).trans HUL.out, HSL.out.keepB (fun x hx hx2 => hsp.block x hx2 (by omega) (by omega)), Nat.le_trans z9 hsp.size⟩
        clear hsp HSP HSS
        obtain ⟨k3, kT, kU, kS, kz⟩ := hcut
        obtain ⟨x0, x1, x2⟩ := cells3 kU
        have HKT : Hid _ := kT
        have HKS : Hid _ := kS
        clear kT kU kS H8P H8R HTL HUL HSL bL
        go_wp2_with fail
        refine (spoil_u _ w9.heap.size _ HKS.out kz).mono ?_
        rintro e w12 ⟨rfl, hb12⟩
        have b12 : Below w3.heap.size w3 w12 := k3.trans (hb12.mono (by omega))
        have kT2 := (hb12.block _ z39).trans HKT.out
        obtain ⟨t0, t1, t2⟩ := cells3 kT2
        have kD2 := (b12.block _ (lt_heap HB3.out)).trans HB3.out
        obtain ⟨d0, d1, d2⟩ := cells3 kD2
        clear kT2 kD2 x0 x1 x2
        go_wp2_with fail
        refine (rsame_any _ _ _ _ _ _ _ _ _ (HT3.out.below b12) (HD3.out.below b12) true ⟨fun _ => ⟨rfl, rfl, rfl⟩, fun _ => rfl⟩).mono ?_
        rintro e w13 ⟨rfl, hb13⟩
        have b13 : Below w3.heap.size w3 w13 := b12.trans (hb13.mono b12.size)
        have cI := conv_at (c := cI) (HI3w.out.below b13) rfl
        have cB := conv_at (c := cb) (HX3w.out.below b13) rfl
        have hbf : Below w.heap.size w w13 := hbc3.trans (b13.mono hbc3.size)
        go_wp2
        go_ret
        exact ⟨rfl, hbf⟩
  · have hz1 : decide ((0 : Int) < (RD.length : Int)) = false := decide_eq_false (by omega)
    refine wp_loop_rounds 1 ?_
    rw [rounds_succ]
    have hcut : Below w3.heap.size w3 wl4 ∧ wl4.heap[w3.heap.size]? = some (.cells #[.int .i64 count, .slice pT data.length cT, .slice qT ws.length mT] 25 (0, 0)) ∧ wl4.heap[w10.heap.size]? = some (.cells #[.int .i64 (resC count (wrA count data ws n xs)), .slice pU (resD (wrA count data ws n xs)).length cU, .slice qU (resW (wrA count data ws n xs)).length mU] 25 (0, 0)) ∧ Spoils wl4 w9.heap.size (.agg #[.int .i64 (resC count (wrA count data ws n xs)), .slice pU (resD (wrA count data ws n xs)).length cU, .slice qU (resW (wrA count data ws n xs)).length mU]) ∧ w9.heap.size ≤ wl4.heap.size := ⟨bL, HTL.out, HUL.out, HSL.out, z9⟩
    obtain ⟨k3, kT, kU, kS, kz⟩ := hcut
    obtain ⟨x0, x1, x2⟩ := cells3 kU
    have HKT : Hid _ := kT
    have HKS : Hid _ := kS
    clear kT kU kS H8P H8R HTL HUL HSL bL
    go_wp2_with fail
    refine (spoil_u _ w9.heap.size _ HKS.out kz).mono ?_
    rintro e w12 ⟨rfl, hb12⟩
    have b12 : Below w3.heap.size w3 w12 := k3.trans (hb12.mono (by omega))
    have kT2 := (hb12.block _ z39).trans HKT.out
    obtain ⟨t0, t1, t2⟩ := cells3 kT2
    have kD2 := (b12.block _ (lt_heap HB3.out)).trans HB3.out
    obtain ⟨d0, d1, d2⟩ := cells3 kD2
    clear kT2 kD2 x0 x1 x2
    go_wp2_with fail
    refine (rsame_any _ _ _ _ _ _ _ _ _ (HT3.out.below b12) (HD3.out.below b12) true ⟨fun _ => ⟨rfl, rfl, rfl⟩, fun _ => rfl⟩).mono ?_
    rintro e w13 ⟨rfl, hb13⟩
    have b13 : Below w3.heap.size w3 w13 := b12.trans (hb13.mono b12.size)
    have cI := conv_at (c := cI) (HI3w.out.below b13) rfl
    have cB := conv_at (c := cb) (HX3w.out.below b13) rfl
    have hbf : Below w.heap.size w w13 := hbc3.trans (b13.mono hbc3.size)
    go_wp2
    go_ret
    exact ⟨rfl, hbf⟩
set_option maxRecDepth 8000 in
set_option maxHeartbeats 16000000 in
theorem walk_high (count0 : Int) (v : Value) (count : Int) (data : List Nat) (ws : Puts) (n : Int) (pb : Option Addr) (cb : Nat) (xs : List Nat) (w : World) (hd : DiskIn w v count data ws) (hl : ¬ largeN count data ws) (h0 : (xs.length : Int) ≤ 10000) (hc1 : 300 < count0) (hc2 : 4095 < count0) (hsz : ∀ y ∈ ws, y.2.length ≤ reachBytes) (wn : (Lit.int .i64 n).wf = true) (hbx : BIn w pb xs) (h1 : xs.length ≤ cb) (h2 : cb ≤ maxLen) (h3 : pb = none → cb = 0) :
    Calls Try.prog 4 #[.int .i64 count0, v, .int .i64 n, .slice pb xs.length cb] w fun e w' => e = .returned (.bool true) ∧ Below w.heap.size w w' := by
  obtain ⟨p, c, q, m, rfl, hbD, hcD, _, _, hqp, hqm, hqmm, _⟩ := hd.parts
  have HD0 : Hid _ := hd
  clear hd hbD hqp
  go_enter Try.func4, Try.ntmps4
  go_wp2_with fail
  refine (large_any _ count data ws _ (HD0.out.below (below_alloc w _))).mono ?_
  rintro e w1 ⟨rfl, hb1⟩
  rw [decide_eq_false hl]
  have HB : Hid (w1.heap[w.heap.size]? = some (.cells #[.int .i64 count, .slice p data.length c, .slice q ws.length m] 25 (0, 0))) := (hb1.block _ (by rw [World.size_alloc]; exact Nat.lt_succ_self _)).trans (heap_alloc_new w _)
  have hbc : Below w.heap.size w w1 := below_bt (below_alloc w _) hb1
  have HD : Hid (DiskIn w1 (.agg #[.int .i64 count, .slice p data.length c, .slice q ws.length m]) count data ws) := HD0.out.below hbc
  have HWF := HD0.out.count_wf
  have HPW : Hid (∀ y ∈ ws, (Lit.int .i64 y.1).wf = true) := HD0.out.puts_wf
  have HCW : Hid _ := HWF
  clear HD0 hb1 HWF
  have hdl : data.length ≤ 600000 := by unfold largeN at hl; omega
  have hwl : ws.length ≤ 4200 := by unfold largeN at hl; omega
  have HSZ : Hid (∀ y ∈ ws, y.2.length ≤ 140737488355328) := fun y hy => Nat.le_trans (hsz y hy) (by decide)
  have H3 : Hid (pb = none → cb = 0) := h3
  have HBX : Hid (BIn w1 pb xs) := hbx.below hbc
  clear hl hsz h3 hbx
  obtain ⟨x0, x1, x2⟩ := cells3 HB.out
  have xlt := lt_heap HB.out
  go_wp2_with fail
  refine (twin_any _ count data ws _ HD.out (by omega) HSZ.out (by omega)).mono ?_
  rintro e w2 ⟨⟨vT, rfl, hvT⟩, hb2⟩
  have hnT := hvT.toIn HCW.out HPW.out
  obtain ⟨pT, cT, qT, mT, rfl, _⟩ := hnT.parts
  clear x0 x1 x2 xlt hvT
  have bb1 : Below w1.heap.size w1 w2 := hb2
  replace HB : Hid (w2.heap[w.heap.size]? = some (.cells #[.int .i64 count, .slice p data.length c, .slice q ws.length m] 25 (0, 0))) := (bb1.block _ (lt_heap HB.out)).trans HB.out
  replace HD : Hid (DiskIn w2 (.agg #[.int .i64 count, .slice p data.length c, .slice q ws.length m]) count data ws) := HD.out.below bb1
  replace HBX : Hid (BIn w2 pb xs) := HBX.out.below bb1
  replace hbc : Below w.heap.size w w2 := below_bt hbc bb1
  clear bb1 hb2
  have HDT : Hid (DiskIn w2 (.agg #[.int .i64 count, .slice pT data.length cT, .slice qT ws.length mT]) count data ws) := hnT
  clear hnT
  have HXZ : Hid (([] : List Nat).length + xs.length ≤ 140737488355328) := by show _ ≤ _; simp; omega
  go_wp2_with (at_builtin; refine wpList_append_row _ rfl _ _ rfl w2.heap.size (.slice none 0 0) [] xs pb _ cb rfl rfl rfl (World.ownsRow_nil _ _ _ _) HBX.out H3.out HXZ.out (Nat.le_refl _) ?_)
  intro vI w3 hown hgrow
  have hb3 : Below w2.heap.size w2 w3 := (Below.refl _ _).grown hgrow (Nat.le_refl _) (fun k hk => by simp [Value.ownBlock] at hk)
  have hgI : RowG w3 w2.heap.size vI xs := ⟨hown, HBX.out.2⟩
  obtain ⟨pI, cI, rfl, hiI, hI1, hI2, hI3⟩ := hgI.form
  have HI3 : Hid (pI = none → cI = 0) := hI3
  clear hown hgrow hgI hI3
  have bb2 : Below w2.heap.size w2 w3 := hb3
  replace HB : Hid (w3.heap[w.heap.size]? = some (.cells #[.int .i64 count, .slice p data.length c, .slice q ws.length m] 25 (0, 0))) := (bb2.block _ (lt_heap HB.out)).trans HB.out
  replace HD : Hid (DiskIn w3 (.agg #[.int .i64 count, .slice p data.length c, .slice q ws.length m]) count data ws) := HD.out.below bb2
  replace HBX : Hid (BIn w3 pb xs) := HBX.out.below bb2
  replace HDT : Hid (DiskIn w3 (.agg #[.int .i64 count, .slice pT data.length cT, .slice qT ws.length mT]) count data ws) := HDT.out.below bb2
  replace hbc : Below w.heap.size w w3 := below_bt hbc bb2
  clear bb2 hb3
  have HIN : Hid (BIn w3 pI xs) := hiI
  clear hiI
  have HT3 : Hid (DiskIn w3 (.agg #[.int .i64 count, .slice pT data.length cT, .slice qT ws.length mT]) count data ws) := HDT
  have HD3 : Hid (DiskIn w3 (.agg #[.int .i64 count, .slice p data.length c, .slice q ws.length m]) count data ws) := HD
  have HI3w : Hid (BIn w3 pI xs) := HIN
  have HX3w : Hid (BIn w3 pb xs) := HBX
  have HB3 : Hid (w3.heap[w.heap.size]? = some (.cells #[.int .i64 count, .slice p data.length c, .slice q ws.length m] 25 (0, 0))) := HB
  have hbc3 := hbc
  go_wp2_with fail
  refine (new_u count0 _).mono ?_
  rintro e w4 ⟨⟨vx, rfl, hnX⟩, hb4⟩
  obtain ⟨pX, cX, qX, mX, rfl, _⟩ := hnX.parts
  have HBT : Hid (w4.heap[w3.heap.size]? = some (.cells #[.int .i64 count, .slice pT data.length cT, .slice qT ws.length mT] 25 (0, 0))) := (hb4.block _ (by rw [World.size_alloc]; exact Nat.lt_succ_self _)).trans (heap_alloc_new w3 _)
  have b34 : Below w3.heap.size w3 w4 := below_bt (below_alloc w3 _) hb4
  have bb3 : Below w3.heap.size w3 w4 := (below_bt (below_alloc w3 (.cells #[.int .i64 count, .slice pT data.length cT, .slice qT ws.length mT] 25)) hb4)
  replace HB : Hid (w4.heap[w.heap.size]? = some (.cells #[.int .i64 count, .slice p data.length c, .slice q ws.length m] 25 (0, 0))) := (bb3.block _ (lt_heap HB.out)).trans HB.out
  replace HD : Hid (DiskIn w4 (.agg #[.int .i64 count, .slice p data.length c, .slice q ws.length m]) count data ws) := HD.out.below bb3
  replace HBX : Hid (BIn w4 pb xs) := HBX.out.below bb3
  replace HDT : Hid (DiskIn w4 (.agg #[.int .i64 count, .slice pT data.length cT, .slice qT ws.length mT]) count data ws) := HDT.out.below bb3
  replace HIN : Hid (BIn w4 pI xs) := HIN.out.below bb3
  replace hbc : Below w.heap.size w w4 := below_bt hbc bb3
  clear bb3 hb4
  have HDX : Hid (DiskIn w4 (.agg #[.int .i64 (newC count0), .slice pX (newD count0).length cX, .slice qX 0 mX]) (newC count0) (newD count0) []) := hnX
  clear hnX
  have b3 : Hid (Since w3 w4) := b34
  clear b34
  go_wp2_with fail
  refine (rnew_u count0 _).mono ?_
  rintro e w5 ⟨⟨vy, rfl, hnY⟩, hb5⟩
  obtain ⟨pY, cY, qY, mY, rfl, _⟩ := hnY.parts
  have HBX2 : Hid (w5.heap[w4.heap.size]? = some (.cells #[.int .i64 (newC count0), .slice pX (newD count0).length cX, .slice qX 0 mX] 25 (0, 0))) := (hb5.block _ (by rw [World.size_alloc]; exact Nat.lt_succ_self _)).trans (heap_alloc_new w4 _)
  have bb4 : Below w4.heap.size w4 w5 := (below_bt (below_alloc w4 (.cells #[.int .i64 (newC count0), .slice pX (newD count0).length cX, .slice qX 0 mX] 25)) hb5)
  replace HB : Hid (w5.heap[w.heap.size]? = some (.cells #[.int .i64 count, .slice p data.length c, .slice q ws.length m] 25 (0, 0))) := (bb4.block _ (lt_heap HB.out)).trans HB.out
  replace HD : Hid (DiskIn w5 (.agg #[.int .i64 count, .slice p data.length c, .slice q ws.length m]) count data ws) := HD.out.below bb4
  replace HBX : Hid (BIn w5 pb xs) := HBX.out.below bb4
  replace HDT : Hid (DiskIn w5 (.agg #[.int .i64 count, .slice pT data.length cT, .slice qT ws.length mT]) count data ws) := HDT.out.below bb4
  replace HIN : Hid (BIn w5 pI xs) := HIN.out.below bb4
  replace HBT : Hid (w5.heap[w3.heap.size]? = some (.cells #[.int .i64 count, .slice pT data.length cT, .slice qT ws.length mT] 25 (0, 0))) := (bb4.block _ (lt_heap HBT.out)).trans HBT.out
  replace HDX : Hid (DiskIn w5 (.agg #[.int .i64 (newC count0), .slice pX (newD count0).length cX, .slice qX 0 mX]) (newC count0) (newD count0) []) := HDX.out.below bb4
  replace b3 : Hid (Since w3 w5) := b3.out.below bb4
  replace hbc : Below w.heap.size w w5 := below_bt hbc bb4
  clear bb4 hb5
  have HDY : Hid (DiskIn w5 (.agg #[.int .i64 (newC count0), .slice pY (newD count0).length cY, .slice qY 0 mY]) (newC count0) (newD count0) []) := hnY
  clear hnY
  obtain ⟨x0, x1, x2⟩ := cells3 HBT.out
  have xlt := lt_heap HBT.out
  go_wp2_with fail
  refine (read_u _ n count data ws _ (HDT.out.below (below_alloc w5 (.cells #[.int .i64 (newC count0), .slice pY (newD count0).length cY, .slice qY 0 mY] 25)))).mono ?_
  rintro e w6 ⟨⟨p6, c6, rfl, hi6, h86⟩, hb6⟩
  have z35 : w3.heap.size < w5.heap.size := lt_heap HBT.out
  clear x0 x1 x2 xlt
  have HBY : Hid (w6.heap[w5.heap.size]? = some (.cells #[.int .i64 (newC count0), .slice pY (newD count0).length cY, .slice qY 0 mY] 25 (0, 0))) := (hb6.block _ (by rw [World.size_alloc]; exact Nat.lt_succ_self _)).trans (heap_alloc_new w5 _)
  have bb5 : Below w5.heap.size w5 w6 := (below_bt (below_alloc w5 (.cells #[.int .i64 (newC count0), .slice pY (newD count0).length cY, .slice qY 0 mY] 25)) hb6)
  replace HB : Hid (w6.heap[w.heap.size]? = some (.cells #[.int .i64 count, .slice p data.length c, .slice q ws.length m] 25 (0, 0))) := (bb5.block _ (lt_heap HB.out)).trans HB.out
  replace HD : Hid (DiskIn w6 (.agg #[.int .i64 count, .slice p data.length c, .slice q ws.length m]) count data ws) := HD.out.below bb5
  replace HBX : Hid (BIn w6 pb xs) := HBX.out.below bb5
  replace HDT : Hid (DiskIn w6 (.agg #[.int .i64 count, .slice pT data.length cT, .slice qT ws.length mT]) count data ws) := HDT.out.below bb5
  replace HIN : Hid (BIn w6 pI xs) := HIN.out.below bb5
  replace HBT : Hid (w6.heap[w3.heap.size]? = some (.cells #[.int .i64 count, .slice pT data.length cT, .slice qT ws.length mT] 25 (0, 0))) := (bb5.block _ (lt_heap HBT.out)).trans HBT.out
  replace HDX : Hid (DiskIn w6 (.agg #[.int .i64 (newC count0), .slice pX (newD count0).length cX, .slice qX 0 mX]) (newC count0) (newD count0) []) := HDX.out.below bb5
  replace b3 : Hid (Since w3 w6) := b3.out.below bb5
  replace HBX2 : Hid (w6.heap[w4.heap.size]? = some (.cells #[.int .i64 (newC count0), .slice pX (newD count0).length cX, .slice qX 0 mX] 25 (0, 0))) := (bb5.block _ (lt_heap HBX2.out)).trans HBX2.out
  replace HDY : Hid (DiskIn w6 (.agg #[.int .i64 (newC count0), .slice pY (newD count0).length cY, .slice qY 0 mY]) (newC count0) (newD count0) []) := HDY.out.below bb5
  replace hbc : Below w.heap.size w w6 := below_bt hbc bb5
  clear bb5 hb6
  have HI6 : Hid (BIn w6 p6 (readX count data ws n)) := hi6
  clear hi6
  have H86 : Hid (W8 w6 (w5.alloc (.cells #[.int .i64 (newC count0), .slice pY (newD count0).length cY, .slice qY 0 mY] 25)).heap.size p6 (readX count data ws n).length) := h86
  clear h86
  have z6 : w3.heap.size + 1 ≤ w6.heap.size := by have := (show Below w3.heap.size w3 w6 from b3.out).size; have := lt_heap HBT.out; omega
  obtain ⟨x0, x1, x2⟩ := cells3 HB.out
  have xlt := lt_heap HB.out
  go_wp2_with fail
  refine (rread_u _ n count data ws _ HD.out).mono ?_
  rintro e w7 ⟨⟨p7, c7, rfl, hi7⟩, hb7⟩
  clear x0 x1 x2 xlt
  have bb6 : Below w6.heap.size w6 w7 := hb7
  replace HB : Hid (w7.heap[w.heap.size]? = some (.cells #[.int .i64 count, .slice p data.length c, .slice q ws.length m] 25 (0, 0))) := (bb6.block _ (lt_heap HB.out)).trans HB.out
  replace HD : Hid (DiskIn w7 (.agg #[.int .i64 count, .slice p data.length c, .slice q ws.length m]) count data ws) := HD.out.below bb6
  replace HBX : Hid (BIn w7 pb xs) := HBX.out.below bb6
  replace HDT : Hid (DiskIn w7 (.agg #[.int .i64 count, .slice pT data.length cT, .slice qT ws.length mT]) count data ws) := HDT.out.below bb6
  replace HIN : Hid (BIn w7 pI xs) := HIN.out.below bb6
  replace HBT : Hid (w7.heap[w3.heap.size]? = some (.cells #[.int .i64 count, .slice pT data.length cT, .slice qT ws.length mT] 25 (0, 0))) := (bb6.block _ (lt_heap HBT.out)).trans HBT.out
  replace HDX : Hid (DiskIn w7 (.agg #[.int .i64 (newC count0), .slice pX (newD count0).length cX, .slice qX 0 mX]) (newC count0) (newD count0) []) := HDX.out.below bb6
  replace b3 : Hid (Since w3 w7) := b3.out.below bb6
  replace HBX2 : Hid (w7.heap[w4.heap.size]? = some (.cells #[.int .i64 (newC count0), .slice pX (newD count0).length cX, .slice qX 0 mX] 25 (0, 0))) := (bb6.block _ (lt_heap HBX2.out)).trans HBX2.out
  replace HDY : Hid (DiskIn w7 (.agg #[.int .i64 (newC count0), .slice pY (newD count0).length cY, .slice qY 0 mY]) (newC count0) (newD count0) []) := HDY.out.below bb6
  replace HBY : Hid (w7.heap[w5.heap.size]? = some (.cells #[.int .i64 (newC count0), .slice pY (newD count0).length cY, .slice qY 0 mY] 25 (0, 0))) := (bb6.block _ (lt_heap HBY.out)).trans HBY.out
  replace HI6 : Hid (BIn w7 p6 (readX count data ws n)) := HI6.out.below bb6
  replace H86 : Hid (W8 w7 (w5.alloc (.cells #[.int .i64 (newC count0), .slice pY (newD count0).length cY, .slice qY 0 mY] 25)).heap.size p6 (readX count data ws n).length) := H86.out.below bb6
  replace hbc : Below w.heap.size w w7 := below_bt hbc bb6
  clear bb6 hb7
  have HI7 : Hid (BIn w7 p7 (readX count data ws n)) := hi7
  clear hi7
  obtain ⟨x0, x1, x2⟩ := cells3 HBT.out
  have xlt := lt_heap HBT.out
  go_wp2_with fail
  refine (sure_u _ n count data ws _ HDT.out).mono ?_
  rintro e w8 ⟨⟨p8, c8, rfl, hi8, h88⟩, hb8⟩
  have z37 : w3.heap.size < w7.heap.size := lt_heap HBT.out
  clear x0 x1 x2 xlt
  have bb7 : Below w7.heap.size w7 w8 := hb8
  replace HB : Hid (w8.heap[w.heap.size]? = some (.cells #[.int .i64 count, .slice p data.length c, .slice q ws.length m] 25 (0, 0))) := (bb7.block _ (lt_heap HB.out)).trans HB.out
  replace HD : Hid (DiskIn w8 (.agg #[.int .i64 count, .slice p data.length c, .slice q ws.length m]) count data ws) := HD.out.below bb7
  replace HBX : Hid (BIn w8 pb xs) := HBX.out.below bb7
  replace HDT : Hid (DiskIn w8 (.agg #[.int .i64 count, .slice pT data.length cT, .slice qT ws.length mT]) count data ws) := HDT.out.below bb7
  replace HIN : Hid (BIn w8 pI xs) := HIN.out.below bb7
  replace HBT : Hid (w8.heap[w3.heap.size]? = some (.cells #[.int .i64 count, .slice pT data.length cT, .slice qT ws.length mT] 25 (0, 0))) := (bb7.block _ (lt_heap HBT.out)).trans HBT.out
  replace HDX : Hid (DiskIn w8 (.agg #[.int .i64 (newC count0), .slice pX (newD count0).length cX, .slice qX 0 mX]) (newC count0) (newD count0) []) := HDX.out.below bb7
  replace b3 : Hid (Since w3 w8) := b3.out.below bb7
  replace HBX2 : Hid (w8.heap[w4.heap.size]? = some (.cells #[.int .i64 (newC count0), .slice pX (newD count0).length cX, .slice qX 0 mX] 25 (0, 0))) := (bb7.block _ (lt_heap HBX2.out)).trans HBX2.out
  replace HDY : Hid (DiskIn w8 (.agg #[.int .i64 (newC count0), .slice pY (newD count0).length cY, .slice qY 0 mY]) (newC count0) (newD count0) []) := HDY.out.below bb7
  replace HBY : Hid (w8.heap[w5.heap.size]? = some (.cells #[.int .i64 (newC count0), .slice pY (newD count0).length cY, .slice qY 0 mY] 25 (0, 0))) := (bb7.block _ (lt_heap HBY.out)).trans HBY.out
  replace HI6 : Hid (BIn w8 p6 (readX count data ws n)) := HI6.out.below bb7
  replace H86 : Hid (W8 w8 (w5.alloc (.cells #[.int .i64 (newC count0), .slice pY (newD count0).length cY, .slice qY 0 mY] 25)).heap.size p6 (readX count data ws n).length) := H86.out.below bb7
  replace HI7 : Hid (BIn w8 p7 (readX count data ws n)) := HI7.out.below bb7
  replace hbc : Below w.heap.size w w8 := below_bt hbc bb7
  clear bb7 hb8
  have HI8 : Hid (BIn w8 p8 (sureX count data ws n)) := hi8
  clear hi8
  have H88 : Hid (W8 w8 w7.heap.size p8 (sureX count data ws n).length) := h88
  clear h88
  obtain ⟨x0, x1, x2⟩ := cells3 HB.out
  have xlt := lt_heap HB.out
  go_wp2_with fail
  refine (rsure_u _ n count data ws _ HD.out).mono ?_
  rintro e w9 ⟨⟨p9, c9, rfl, hi9⟩, hb9⟩
  clear x0 x1 x2 xlt
  have bb8 : Below w8.heap.size w8 w9 := hb9
  replace HB : Hid (w9.heap[w.heap.size]? = some (.cells #[.int .i64 count, .slice p data.length c, .slice q ws.length m] 25 (0, 0))) := (bb8.block _ (lt_heap HB.out)).trans HB.out
  replace HD : Hid (DiskIn w9 (.agg #[.int .i64 count, .slice p data.length c, .slice q ws.length m]) count data ws) := HD.out.below bb8
  replace HBX : Hid (BIn w9 pb xs) := HBX.out.below bb8
  replace HDT : Hid (DiskIn w9 (.agg #[.int .i64 count, .slice pT data.length cT, .slice qT ws.length mT]) count data ws) := HDT.out.below bb8
  replace HIN : Hid (BIn w9 pI xs) := HIN.out.below bb8
  replace HBT : Hid (w9.heap[w3.heap.size]? = some (.cells #[.int .i64 count, .slice pT data.length cT, .slice qT ws.length mT] 25 (0, 0))) := (bb8.block _ (lt_heap HBT.out)).trans HBT.out
  replace HDX : Hid (DiskIn w9 (.agg #[.int .i64 (newC count0), .slice pX (newD count0).length cX, .slice qX 0 mX]) (newC count0) (newD count0) []) := HDX.out.below bb8
  replace b3 : Hid (Since w3 w9) := b3.out.below bb8
  replace HBX2 : Hid (w9.heap[w4.heap.size]? = some (.cells #[.int .i64 (newC count0), .slice pX (newD count0).length cX, .slice qX 0 mX] 25 (0, 0))) := (bb8.block _ (lt_heap HBX2.out)).trans HBX2.out
  replace HDY : Hid (DiskIn w9 (.agg #[.int .i64 (newC count0), .slice pY (newD count0).length cY, .slice qY 0 mY]) (newC count0) (newD count0) []) := HDY.out.below bb8
  replace HBY : Hid (w9.heap[w5.heap.size]? = some (.cells #[.int .i64 (newC count0), .slice pY (newD count0).length cY, .slice qY 0 mY] 25 (0, 0))) := (bb8.block _ (lt_heap HBY.out)).trans HBY.out
  replace HI6 : Hid (BIn w9 p6 (readX count data ws n)) := HI6.out.below bb8
  replace H86 : Hid (W8 w9 (w5.alloc (.cells #[.int .i64 (newC count0), .slice pY (newD count0).length cY, .slice qY 0 mY] 25)).heap.size p6 (readX count data ws n).length) := H86.out.below bb8
  replace HI7 : Hid (BIn w9 p7 (readX count data ws n)) := HI7.out.below bb8
  replace HI8 : Hid (BIn w9 p8 (sureX count data ws n)) := HI8.out.below bb8
  replace H88 : Hid (W8 w9 w7.heap.size p8 (sureX count data ws n).length) := H88.out.below bb8
  replace hbc : Below w.heap.size w w9 := below_bt hbc bb8
  clear bb8 hb9
  have HI9 : Hid (BIn w9 p9 (sureX count data ws n)) := hi9
  clear hi9
  obtain ⟨x0, x1, x2⟩ := cells3 HBT.out
  have xlt := lt_heap HBT.out
  go_wp2_with fail
  refine (write_u _ n pI _ cI xs count data ws _ HDT.out HIN.out rfl hI1 hI2 HI3.out).mono ?_
  rintro e w10 ⟨⟨vU, rfl, hnU, hsU⟩, hb10⟩
  have LP : Hid (0 < (readX count data ws n).length → ∀ g, p6 = some ⟨g, 0, none⟩ → g < w9.heap.size) := fun h => w8_lt H86.out h
  have LR : Hid (0 < (sureX count data ws n).length → ∀ g, p8 = some ⟨g, 0, none⟩ → g < w9.heap.size) := fun h => w8_lt H88.out h
  have z39 : w3.heap.size < w9.heap.size := lt_heap HBT.out
  have z910 : w9.heap.size ≤ w10.heap.size := hb10.size
  have s9 : Hid (Since w9 w10) := hb10
  obtain ⟨pU, cU, qU, mU, rfl, _⟩ := hnU.parts
  clear x0 x1 x2 xlt
  have bb9 : Below w9.heap.size w9 w10 := hb10
  replace HB : Hid (w10.heap[w.heap.size]? = some (.cells #[.int .i64 count, .slice p data.length c, .slice q ws.length m] 25 (0, 0))) := (bb9.block _ (lt_heap HB.out)).trans HB.out
  replace HD : Hid (DiskIn w10 (.agg #[.int .i64 count, .slice p data.length c, .slice q ws.length m]) count data ws) := HD.out.below bb9
  replace HBX : Hid (BIn w10 pb xs) := HBX.out.below bb9
  replace HDT : Hid (DiskIn w10 (.agg #[.int .i64 count, .slice pT data.length cT, .slice qT ws.length mT]) count data ws) := HDT.out.below bb9
  replace HIN : Hid (BIn w10 pI xs) := HIN.out.below bb9
  replace HBT : Hid (w10.heap[w3.heap.size]? = some (.cells #[.int .i64 count, .slice pT data.length cT, .slice qT ws.length mT] 25 (0, 0))) := (bb9.block _ (lt_heap HBT.out)).trans HBT.out
  replace HDX : Hid (DiskIn w10 (.agg #[.int .i64 (newC count0), .slice pX (newD count0).length cX, .slice qX 0 mX]) (newC count0) (newD count0) []) := HDX.out.below bb9
  replace b3 : Hid (Since w3 w10) := b3.out.below bb9
  replace HBX2 : Hid (w10.heap[w4.heap.size]? = some (.cells #[.int .i64 (newC count0), .slice pX (newD count0).length cX, .slice qX 0 mX] 25 (0, 0))) := (bb9.block _ (lt_heap HBX2.out)).trans HBX2.out
  replace HDY : Hid (DiskIn w10 (.agg #[.int .i64 (newC count0), .slice pY (newD count0).length cY, .slice qY 0 mY]) (newC count0) (newD count0) []) := HDY.out.below bb9
  replace HBY : Hid (w10.heap[w5.heap.size]? = some (.cells #[.int .i64 (newC count0), .slice pY (newD count0).length cY, .slice qY 0 mY] 25 (0, 0))) := (bb9.block _ (lt_heap HBY.out)).trans HBY.out
  replace HI6 : Hid (BIn w10 p6 (readX count data ws n)) := HI6.out.below bb9
  replace H86 : Hid (W8 w10 (w5.alloc (.cells #[.int .i64 (newC count0), .slice pY (newD count0).length cY, .slice qY 0 mY] 25)).heap.size p6 (readX count data ws n).length) := H86.out.below bb9
  replace HI7 : Hid (BIn w10 p7 (readX count data ws n)) := HI7.out.below bb9
  replace HI8 : Hid (BIn w10 p8 (sureX count data ws n)) := HI8.out.below bb9
  replace H88 : Hid (W8 w10 w7.heap.size p8 (sureX count data ws n).length) := H88.out.below bb9
  replace HI9 : Hid (BIn w10 p9 (sureX count data ws n)) := HI9.out.below bb9
  replace hbc : Below w.heap.size w w10 := below_bt hbc bb9
  clear bb9 hb10
  have HDU : Hid (DiskIn w10 (.agg #[.int .i64 (resC count (wrA count data ws n xs)), .slice pU (resD (wrA count data ws n xs)).length cU, .slice qU (resW (wrA count data ws n xs)).length mU]) (resC count (wrA count data ws n xs)) (resD (wrA count data ws n xs)) (resW (wrA count data ws n xs))) := hnU
  have HSU : Hid (Spoils w10 w9.heap.size (.agg #[.int .i64 (resC count (wrA count data ws n xs)), .slice pU (resD (wrA count data ws n xs)).length cU, .slice qU (resW (wrA count data ws n xs)).length mU])) := hsU
  clear hnU hsU
  obtain ⟨x0, x1, x2⟩ := cells3 HB.out
  have xlt := lt_heap HB.out
  go_wp2_with fail
  refine (rwrite_u _ n pb _ cb xs count data ws _ (HD.out.below (below_alloc w10 (.cells #[.int .i64 (resC count (wrA count data ws n xs)), .slice pU (resD (wrA count data ws n xs)).length cU, .slice qU (resW (wrA count data ws n xs)).length mU] 25))) (HBX.out.below (below_alloc w10 (.cells #[.int .i64 (resC count (wrA count data ws n xs)), .slice pU (resD (wrA count data ws n xs)).length cU, .slice qU (resW (wrA count data ws n xs)).length mU] 25))) rfl H3.out wn).mono ?_
  rintro e w11 ⟨⟨vV, rfl, hnV⟩, hb11⟩
  have s11 : Hid (Since w9 w11) := below_bt s9.out (below_bt (below_alloc w10 _) hb11)
  obtain ⟨pV, cV, qV, mV, rfl, _⟩ := hnV.parts
  clear x0 x1 x2 xlt
  have HBU : Hid (w11.heap[w10.heap.size]? = some (.cells #[.int .i64 (resC count (wrA count data ws n xs)), .slice pU (resD (wrA count data ws n xs)).length cU, .slice qU (resW (wrA count data ws n xs)).length mU] 25 (0, 0))) := (hb11.block _ (by rw [World.size_alloc]; exact Nat.lt_succ_self _)).trans (heap_alloc_new w10 _)
  have bb10 : Below w10.heap.size w10 w11 := (below_bt (below_alloc w10 (.cells #[.int .i64 (resC count (wrA count data ws n xs)), .slice pU (resD (wrA count data ws n xs)).length cU, .slice qU (resW (wrA count data ws n xs)).length mU] 25)) hb11)
  replace HB : Hid (w11.heap[w.heap.size]? = some (.cells #[.int .i64 count, .slice p data.length c, .slice q ws.length m] 25 (0, 0))) := (bb10.block _ (lt_heap HB.out)).trans HB.out
  replace HD : Hid (DiskIn w11 (.agg #[.int .i64 count, .slice p data.length c, .slice q ws.length m]) count data ws) := HD.out.below bb10
  replace HBX : Hid (BIn w11 pb xs) := HBX.out.below bb10
  replace HDT : Hid (DiskIn w11 (.agg #[.int .i64 count, .slice pT data.length cT, .slice qT ws.length mT]) count data ws) := HDT.out.below bb10
  replace HIN : Hid (BIn w11 pI xs) := HIN.out.below bb10
  replace HBT : Hid (w11.heap[w3.heap.size]? = some (.cells #[.int .i64 count, .slice pT data.length cT, .slice qT ws.length mT] 25 (0, 0))) := (bb10.block _ (lt_heap HBT.out)).trans HBT.out
  replace HDX : Hid (DiskIn w11 (.agg #[.int .i64 (newC count0), .slice pX (newD count0).length cX, .slice qX 0 mX]) (newC count0) (newD count0) []) := HDX.out.below bb10
  replace b3 : Hid (Since w3 w11) := b3.out.below bb10
  replace HBX2 : Hid (w11.heap[w4.heap.size]? = some (.cells #[.int .i64 (newC count0), .slice pX (newD count0).length cX, .slice qX 0 mX] 25 (0, 0))) := (bb10.block _ (lt_heap HBX2.out)).trans HBX2.out
  replace HDY : Hid (DiskIn w11 (.agg #[.int .i64 (newC count0), .slice pY (newD count0).length cY, .slice qY 0 mY]) (newC count0) (newD count0) []) := HDY.out.below bb10
  replace HBY : Hid (w11.heap[w5.heap.size]? = some (.cells #[.int .i64 (newC count0), .slice pY (newD count0).length cY, .slice qY 0 mY] 25 (0, 0))) := (bb10.block _ (lt_heap HBY.out)).trans HBY.out
  replace HI6 : Hid (BIn w11 p6 (readX count data ws n)) := HI6.out.below bb10
  replace H86 : Hid (W8 w11 (w5.alloc (.cells #[.int .i64 (newC count0), .slice pY (newD count0).length cY, .slice qY 0 mY] 25)).heap.size p6 (readX count data ws n).length) := H86.out.below bb10
  replace HI7 : Hid (BIn w11 p7 (readX count data ws n)) := HI7.out.below bb10
  replace HI8 : Hid (BIn w11 p8 (sureX count data ws n)) := HI8.out.below bb10
  replace H88 : Hid (W8 w11 w7.heap.size p8 (sureX count data ws n).length) := H88.out.below bb10
  replace HI9 : Hid (BIn w11 p9 (sureX count data ws n)) := HI9.out.below bb10
  replace HDU : Hid (DiskIn w11 (.agg #[.int .i64 (resC count (wrA count data ws n xs)), .slice pU (resD (wrA count data ws n xs)).length cU, .slice qU (resW (wrA count data ws n xs)).length mU]) (resC count (wrA count data ws n xs)) (resD (wrA count data ws n xs)) (resW (wrA count data ws n xs))) := HDU.out.below bb10
  replace HSU : Hid (Spoils w11 w9.heap.size (.agg #[.int .i64 (resC count (wrA count data ws n xs)), .slice pU (resD (wrA count data ws n xs)).length cU, .slice qU (resW (wrA count data ws n xs)).length mU])) := HSU.out.below bb10
  replace hbc : Below w.heap.size w w11 := below_bt hbc bb10
  clear bb10 hb11
  have HDV : Hid (DiskIn w11 (.agg #[.int .i64 (resC count (wrA count data ws n xs)), .slice pV (resD (wrA count data ws n xs)).length cV, .slice qV (resW (wrA count data ws n xs)).length mV]) (resC count (wrA count data ws n xs)) (resD (wrA count data ws n xs)) (resW (wrA count data ws n xs))) := hnV
  clear hnV
  go_wp2
  have z9W0 : w9.heap.size ≤ w11.heap.size := (show Below w9.heap.size w9 w11 from s11.out).size
  obtain ⟨W, hW⟩ : ∃ W, W = w11.alloc (.cells #[.int .i64 (resC count (wrA count data ws n xs)), .slice pV (resD (wrA count data ws n xs)).length cV, .slice qV (resW (wrA count data ws n xs)).length mV] 25) := ⟨_, rfl⟩
  have hbW := below_alloc w11 (.cells #[.int .i64 (resC count (wrA count data ws n xs)), .slice pV (resD (wrA count data ws n xs)).length cV, .slice qV (resW (wrA count data ws n xs)).length mV] 25)
  have HBV : Hid (W.heap[w11.heap.size]? = some (.cells #[.int .i64 (resC count (wrA count data ws n xs)), .slice pV (resD (wrA count data ws n xs)).length cV, .slice qV (resW (wrA count data ws n xs)).length mV] 25 (0, 0))) := by rw [hW]; exact heap_alloc_new _ _
  have z9W : w9.heap.size ≤ W.heap.size := by rw [hW, World.size_alloc]; omega
  rw [← hW] at hbW ⊢
  clear hW
  have bb11 : Below w11.heap.size w11 W := hbW
  replace HB : Hid (W.heap[w.heap.size]? = some (.cells #[.int .i64 count, .slice p data.length c, .slice q ws.length m] 25 (0, 0))) := (bb11.block _ (lt_heap HB.out)).trans HB.out
  replace HD : Hid (DiskIn W (.agg #[.int .i64 count, .slice p data.length c, .slice q ws.length m]) count data ws) := HD.out.below bb11
  replace HBX : Hid (BIn W pb xs) := HBX.out.below bb11
  replace HDT : Hid (DiskIn W (.agg #[.int .i64 count, .slice pT data.length cT, .slice qT ws.length mT]) count data ws) := HDT.out.below bb11
  replace HIN : Hid (BIn W pI xs) := HIN.out.below bb11
  replace HBT : Hid (W.heap[w3.heap.size]? = some (.cells #[.int .i64 count, .slice pT data.length cT, .slice qT ws.length mT] 25 (0, 0))) := (bb11.block _ (lt_heap HBT.out)).trans HBT.out
  replace HDX : Hid (DiskIn W (.agg #[.int .i64 (newC count0), .slice pX (newD count0).length cX, .slice qX 0 mX]) (newC count0) (newD count0) []) := HDX.out.below bb11
  replace b3 : Hid (Since w3 W) := b3.out.below bb11
  replace HBX2 : Hid (W.heap[w4.heap.size]? = some (.cells #[.int .i64 (newC count0), .slice pX (newD count0).length cX, .slice qX 0 mX] 25 (0, 0))) := (bb11.block _ (lt_heap HBX2.out)).trans HBX2.out
  replace HDY : Hid (DiskIn W (.agg #[.int .i64 (newC count0), .slice pY (newD count0).length cY, .slice qY 0 mY]) (newC count0) (newD count0) []) := HDY.out.below bb11
  replace HBY : Hid (W.heap[w5.heap.size]? = some (.cells #[.int .i64 (newC count0), .slice pY (newD count0).length cY, .slice qY 0 mY] 25 (0, 0))) := (bb11.block _ (lt_heap HBY.out)).trans HBY.out
  replace HI6 : Hid (BIn W p6 (readX count data ws n)) := HI6.out.below bb11
  replace H86 : Hid (W8 W (w5.alloc (.cells #[.int .i64 (newC count0), .slice pY (newD count0).length cY, .slice qY 0 mY] 25)).heap.size p6 (readX count data ws n).length) := H86.out.below bb11
  replace HI7 : Hid (BIn W p7 (readX count data ws n)) := HI7.out.below bb11
  replace HI8 : Hid (BIn W p8 (sureX count data ws n)) := HI8.out.below bb11
  replace H88 : Hid (W8 W w7.heap.size p8 (sureX count data ws n).length) := H88.out.below bb11
  replace HI9 : Hid (BIn W p9 (sureX count data ws n)) := HI9.out.below bb11
  replace HDU : Hid (DiskIn W (.agg #[.int .i64 (resC count (wrA count data ws n xs)), .slice pU (resD (wrA count data ws n xs)).length cU, .slice qU (resW (wrA count data ws n xs)).length mU]) (resC count (wrA count data ws n xs)) (resD (wrA count data ws n xs)) (resW (wrA count data ws n xs))) := HDU.out.below bb11
  replace HSU : Hid (Spoils W w9.heap.size (.agg #[.int .i64 (resC count (wrA count data ws n xs)), .slice pU (resD (wrA count data ws n xs)).length cU, .slice qU (resW (wrA count data ws n xs)).length mU])) := HSU.out.below bb11
  replace HBU : Hid (W.heap[w10.heap.size]? = some (.cells #[.int .i64 (resC count (wrA count data ws n xs)), .slice pU (resD (wrA count data ws n xs)).length cU, .slice qU (resW (wrA count data ws n xs)).length mU] 25 (0, 0))) := (bb11.block _ (lt_heap HBU.out)).trans HBU.out
  replace HDV : Hid (DiskIn W (.agg #[.int .i64 (resC count (wrA count data ws n xs)), .slice pV (resD (wrA count data ws n xs)).length cV, .slice qV (resW (wrA count data ws n xs)).length mV]) (resC count (wrA count data ws n xs)) (resD (wrA count data ws n xs)) (resW (wrA count data ws n xs))) := HDV.out.below bb11
  replace hbc : Below w.heap.size w W := below_bt hbc bb11
  clear bb11 hbW
  have HKeep : Hid (∀ w', Below W.heap.size W w' → (w'.cell? ⟨w3.heap.size, 0, none⟩ = some (.int .i64 count) ∧ w'.cell? ⟨w3.heap.size, 1, none⟩ = some (.slice pT data.length cT) ∧ w'.cell? ⟨w3.heap.size, 2, none⟩ = some (.slice qT ws.length mT)) ∧ (w'.cell? ⟨w.heap.size, 0, none⟩ = some (.int .i64 count) ∧ w'.cell? ⟨w.heap.size, 1, none⟩ = some (.slice p data.length c) ∧ w'.cell? ⟨w.heap.size, 2, none⟩ = some (.slice q ws.length m)) ∧ (w'.cell? ⟨w4.heap.size, 0, none⟩ = some (.int .i64 (newC count0)) ∧ w'.cell? ⟨w4.heap.size, 1, none⟩ = some (.slice pX (newD count0).length cX) ∧ w'.cell? ⟨w4.heap.size, 2, none⟩ = some (.slice qX 0 mX)) ∧ (w'.cell? ⟨w5.heap.size, 0, none⟩ = some (.int .i64 (newC count0)) ∧ w'.cell? ⟨w5.heap.size, 1, none⟩ = some (.slice pY (newD count0).length cY) ∧ w'.cell? ⟨w5.heap.size, 2, none⟩ = some (.slice qY 0 mY)) ∧ (w'.cell? ⟨w10.heap.size, 0, none⟩ = some (.int .i64 (resC count (wrA count data ws n xs))) ∧ w'.cell? ⟨w10.heap.size, 1, none⟩ = some (.slice pU (resD (wrA count data ws n xs)).length cU) ∧ w'.cell? ⟨w10.heap.size, 2, none⟩ = some (.slice qU (resW (wrA count data ws n xs)).length mU)) ∧ (w'.cell? ⟨w11.heap.size, 0, none⟩ = some (.int .i64 (resC count (wrA count data ws n xs))) ∧ w'.cell? ⟨w11.heap.size, 1, none⟩ = some (.slice pV (resD (wrA count data ws n xs)).length cV) ∧ w'.cell? ⟨w11.heap.size, 2, none⟩ = some (.slice qV (resW (wrA count data ws n xs)).length mV)) ∧ (convert 22 9 (.slice p6 (readX count data ws n).length c6)).run Try.prog w' = .ok (.string (strOf (readX count data ws n))) w' ∧ (convert 22 9 (.slice p7 (readX count data ws n).length c7)).run Try.prog w' = .ok (.string (strOf (readX count data ws n))) w' ∧ (convert 22 9 (.slice p8 (sureX count data ws n).length c8)).run Try.prog w' = .ok (.string (strOf (sureX count data ws n))) w' ∧ (convert 22 9 (.slice p9 (sureX count data ws n).length c9)).run Try.prog w' = .ok (.string (strOf (sureX count data ws n))) w' ∧ Hid (Below W.heap.size W w')) := by
    intro w' hb
    exact ⟨cells3 ((hb.block _ (lt_heap HBT.out)).trans HBT.out), cells3 ((hb.block _ (lt_heap HB.out)).trans HB.out), cells3 ((hb.block _ (lt_heap HBX2.out)).trans HBX2.out), cells3 ((hb.block _ (lt_heap HBY.out)).trans HBY.out), cells3 ((hb.block _ (lt_heap HBU.out)).trans HBU.out), cells3 ((hb.block _ (lt_heap HBV.out)).trans HBV.out), conv_at (HI6.out.below hb) rfl, conv_at (HI7.out.below hb) rfl, conv_at (HI8.out.below hb) rfl, conv_at (HI9.out.below hb) rfl, hb⟩
  have hee : (errS count data ws n != errS count data ws n) = false := by simp
  have hne : (newE count0 != newE count0) = false := by simp
  have hrr : (resE (wrA count data ws n xs) != resE (wrA count data ws n xs)) = false := by simp
  have hcc : (errC count data ws != errC count data ws) = false := by simp
  refine wp_region_noPanic ?_
  refine wp_region_held_drew (S := fun w' => (w'.cell? ⟨w3.heap.size, 0, none⟩ = some (.int .i64 count) ∧ w'.cell? ⟨w3.heap.size, 1, none⟩ = some (.slice pT data.length cT) ∧ w'.cell? ⟨w3.heap.size, 2, none⟩ = some (.slice qT ws.length mT)) ∧ (w'.cell? ⟨w.heap.size, 0, none⟩ = some (.int .i64 count) ∧ w'.cell? ⟨w.heap.size, 1, none⟩ = some (.slice p data.length c) ∧ w'.cell? ⟨w.heap.size, 2, none⟩ = some (.slice q ws.length m)) ∧ (w'.cell? ⟨w4.heap.size, 0, none⟩ = some (.int .i64 (newC count0)) ∧ w'.cell? ⟨w4.heap.size, 1, none⟩ = some (.slice pX (newD count0).length cX) ∧ w'.cell? ⟨w4.heap.size, 2, none⟩ = some (.slice qX 0 mX)) ∧ (w'.cell? ⟨w5.heap.size, 0, none⟩ = some (.int .i64 (newC count0)) ∧ w'.cell? ⟨w5.heap.size, 1, none⟩ = some (.slice pY (newD count0).length cY) ∧ w'.cell? ⟨w5.heap.size, 2, none⟩ = some (.slice qY 0 mY)) ∧ (w'.cell? ⟨w10.heap.size, 0, none⟩ = some (.int .i64 (resC count (wrA count data ws n xs))) ∧ w'.cell? ⟨w10.heap.size, 1, none⟩ = some (.slice pU (resD (wrA count data ws n xs)).length cU) ∧ w'.cell? ⟨w10.heap.size, 2, none⟩ = some (.slice qU (resW (wrA count data ws n xs)).length mU)) ∧ (w'.cell? ⟨w11.heap.size, 0, none⟩ = some (.int .i64 (resC count (wrA count data ws n xs))) ∧ w'.cell? ⟨w11.heap.size, 1, none⟩ = some (.slice pV (resD (wrA count data ws n xs)).length cV) ∧ w'.cell? ⟨w11.heap.size, 2, none⟩ = some (.slice qV (resW (wrA count data ws n xs)).length mV)) ∧ (convert 22 9 (.slice p6 (readX count data ws n).length c6)).run Try.prog w' = .ok (.string (strOf (readX count data ws n))) w' ∧ (convert 22 9 (.slice p7 (readX count data ws n).length c7)).run Try.prog w' = .ok (.string (strOf (readX count data ws n))) w' ∧ (convert 22 9 (.slice p8 (sureX count data ws n).length c8)).run Try.prog w' = .ok (.string (strOf (sureX count data ws n))) w' ∧ (convert 22 9 (.slice p9 (sureX count data ws n).length c9)).run Try.prog w' = .ok (.string (strOf (sureX count data ws n))) w' ∧ Hid (Below W.heap.size W w')) (by kernel_rfl) (HKeep.out _ ((Below.refl _ _).drew)) (fun hS0 => ?_)
  refine takeH 0 95 (v := ?_) rfl rfl (by kernel_rfl) (by kernel_rfl) (by kernel_rfl) (fun _ _ _ h => h) (by rfl) ?_ (by assumption) ?_
  rotate_left
  · intro w hSw; go_simp; first | done | with_reducible rfl
  simp only [Act.put, List.setIfInBounds_toArray, List.set_cons_zero, List.set_cons_succ]
  refine takeH 2 97 (v := ?_) rfl rfl (by kernel_rfl) (by kernel_rfl) (by kernel_rfl) (fun _ _ _ h => h) (by rfl) ?_ (by assumption) ?_
  rotate_left
  · intro w hSw; go_simp; first | done | with_reducible rfl
  simp only [Act.put, List.setIfInBounds_toArray, List.set_cons_zero, List.set_cons_succ]
  refine wpAnyH_ready (rs := [1]) (by kernel_rfl) (by simp) ?_
  refine AllReadyH.cons rfl (fun K hK => ?_) AllReadyH.nil
  go_simp
  refine (check_any _ count data ws _ (HDT.out.below hS0.2.2.2.2.2.2.2.2.2.2.out)).mono ?_
  rintro e wl1 ⟨rfl, hb1⟩
  go_simp
  refine hK.out _ _ (HKeep.out _ (below_bt hS0.2.2.2.2.2.2.2.2.2.2.out hb1)) (fun hS1 => ?_)
  clear hK K
  refine wpAnyH_ready (rs := [3]) (by kernel_rfl) (by simp) ?_
  refine AllReadyH.cons rfl (fun K hK => ?_) AllReadyH.nil
  go_simp
  refine (rcheck_any _ count data ws _ (HD.out.below hS1.2.2.2.2.2.2.2.2.2.2.out)).mono ?_
  rintro e wl2 ⟨rfl, hb2⟩
  go_simp
  refine hK.out _ _ (HKeep.out _ (below_bt hS1.2.2.2.2.2.2.2.2.2.2.out hb2)) (fun hS2 => ?_)
  clear hK K
  refine takeH 4 99 (v := ?_) rfl rfl (by kernel_rfl) (by kernel_rfl) (by kernel_rfl) (fun _ _ _ h => h) (by rfl) ?_ (by assumption) ?_
  rotate_left
  · intro w hSw; go_simp; first | done | with_reducible rfl
  simp only [Act.put, List.setIfInBounds_toArray, List.set_cons_zero, List.set_cons_succ]
  refine takeH 5 100 (v := ?_) rfl rfl (by kernel_rfl) (by kernel_rfl) (by kernel_rfl) (fun _ _ _ h => h) (by rfl) ?_ (by assumption) ?_
  rotate_left
  · intro w hSw; go_simp; first | done | with_reducible rfl
  simp only [Act.put, List.setIfInBounds_toArray, List.set_cons_zero, List.set_cons_succ]
  refine takeH 6 101 (v := ?_) rfl rfl (by kernel_rfl) (by kernel_rfl) (by kernel_rfl) (fun _ _ _ h => h) (by rfl) ?_ (by assumption) ?_
  rotate_left
  · intro w hSw; go_simp; first | done | with_reducible rfl
  simp only [Act.put, List.setIfInBounds_toArray, List.set_cons_zero, List.set_cons_succ]
  refine takeH 7 102 (v := ?_) rfl rfl (by kernel_rfl) (by kernel_rfl) (by kernel_rfl) (fun _ _ _ h => h) (by rfl) ?_ (by assumption) ?_
  rotate_left
  · intro w hSw; go_simp; first | done | with_reducible rfl
  simp only [Act.put, List.setIfInBounds_toArray, List.set_cons_zero, List.set_cons_succ]
  refine takeH 8 103 (v := ?_) rfl rfl (by kernel_rfl) (by kernel_rfl) (by kernel_rfl) (fun _ _ _ h => h) (by rfl) ?_ (by assumption) ?_
  rotate_left
  · intro w hSw; go_simp; first | done | with_reducible rfl
  simp only [Act.put, List.setIfInBounds_toArray, List.set_cons_zero, List.set_cons_succ]
  refine takeH 9 104 (v := ?_) rfl rfl (by kernel_rfl) (by kernel_rfl) (by kernel_rfl) (fun _ _ _ h => h) (by rfl) ?_ (by assumption) ?_
  rotate_left
  · intro w hSw; go_simp; first | done | with_reducible rfl
  simp only [Act.put, List.setIfInBounds_toArray, List.set_cons_zero, List.set_cons_succ]
  refine takeH 10 105 (v := ?_) rfl rfl (by kernel_rfl) (by kernel_rfl) (by kernel_rfl) (fun _ _ _ h => h) (by rfl) ?_ (by assumption) ?_
  rotate_left
  · intro w hSw; go_simp; first | done | with_reducible rfl
  simp only [Act.put, List.setIfInBounds_toArray, List.set_cons_zero, List.set_cons_succ]
  refine takeH 11 106 (v := ?_) rfl rfl (by kernel_rfl) (by kernel_rfl) (by kernel_rfl) (fun _ _ _ h => h) (by rfl) ?_ (by assumption) ?_
  rotate_left
  · intro w hSw; go_simp; first | done | with_reducible rfl
  simp only [Act.put, List.setIfInBounds_toArray, List.set_cons_zero, List.set_cons_succ]
  refine takeH 12 107 (v := ?_) rfl rfl (by kernel_rfl) (by kernel_rfl) (by kernel_rfl) (fun _ _ _ h => h) (by rfl) ?_ (by assumption) ?_
  rotate_left
  · intro w hSw; go_simp; first | done | with_reducible rfl
  simp only [Act.put, List.setIfInBounds_toArray, List.set_cons_zero, List.set_cons_succ]
  refine wpAnyH_ready (rs := [13]) (by kernel_rfl) (by simp) ?_
  refine AllReadyH.cons rfl (fun K hK => ?_) AllReadyH.nil
  go_simp
  refine (rsame_any _ _ _ _ _ _ _ _ _ (HDX.out.below hS2.2.2.2.2.2.2.2.2.2.2.out) (HDY.out.below hS2.2.2.2.2.2.2.2.2.2.2.out) true ⟨fun _ => ⟨rfl, rfl, rfl⟩, fun _ => rfl⟩).mono ?_
  rintro e wl3 ⟨rfl, hb3⟩
  go_simp
  refine hK.out _ _ (HKeep.out _ (below_bt hS2.2.2.2.2.2.2.2.2.2.2.out hb3)) (fun hS3 => ?_)
  clear hK K
  refine takeH 14 109 (v := ?_) rfl rfl (by kernel_rfl) (by kernel_rfl) (by kernel_rfl) (fun _ _ _ h => h) (by rfl) ?_ (by assumption) ?_
  rotate_left
  · intro w hSw; go_simp; first | done | with_reducible rfl
  simp only [Act.put, List.setIfInBounds_toArray, List.set_cons_zero, List.set_cons_succ]
  refine takeH 15 110 (v := ?_) rfl rfl (by kernel_rfl) (by kernel_rfl) (by kernel_rfl) (fun _ _ _ h => h) (by rfl) ?_ (by assumption) ?_
  rotate_left
  · intro w hSw; go_simp; first | done | with_reducible rfl
  simp only [Act.put, List.setIfInBounds_toArray, List.set_cons_zero, List.set_cons_succ]
  refine takeH 16 111 (v := ?_) rfl rfl (by kernel_rfl) (by kernel_rfl) (by kernel_rfl) (fun _ _ _ h => h) (by rfl) ?_ (by assumption) ?_
  rotate_left
  · intro w hSw; go_simp; first | done | with_reducible rfl
  simp only [Act.put, List.setIfInBounds_toArray, List.set_cons_zero, List.set_cons_succ]
  refine takeH 17 112 (v := ?_) rfl rfl (by kernel_rfl) (by kernel_rfl) (by kernel_rfl) (fun _ _ _ h => h) (by rfl) ?_ (by assumption) ?_
  rotate_left
  · intro w hSw; go_simp; first | done | with_reducible rfl
  simp only [Act.put, List.setIfInBounds_toArray, List.set_cons_zero, List.set_cons_succ]
  refine takeH 18 113 (v := ?_) rfl rfl (by kernel_rfl) (by kernel_rfl) (by kernel_rfl) (fun _ _ _ h => h) (by rfl) ?_ (by assumption) ?_
  rotate_left
  · intro w hSw; go_simp; first | done | with_reducible rfl
  simp only [Act.put, List.setIfInBounds_toArray, List.set_cons_zero, List.set_cons_succ]
  refine takeH 19 114 (v := ?_) rfl rfl (by kernel_rfl) (by kernel_rfl) (by kernel_rfl) (fun _ _ _ h => h) (by rfl) ?_ (by assumption) ?_
  rotate_left
  · intro w hSw; go_simp; first | done | with_reducible rfl
  simp only [Act.put, List.setIfInBounds_toArray, List.set_cons_zero, List.set_cons_succ]
  refine takeH 20 115 (v := ?_) rfl rfl (by kernel_rfl) (by kernel_rfl) (by kernel_rfl) (fun _ _ _ h => h) (by rfl) ?_ (by assumption) ?_
  rotate_left
  · intro w hSw; go_simp; first | done | with_reducible rfl
  simp only [Act.put, List.setIfInBounds_toArray, List.set_cons_zero, List.set_cons_succ]
  refine takeH 21 116 (v := ?_) rfl rfl (by kernel_rfl) (by kernel_rfl) (by kernel_rfl) (fun _ _ _ h => h) (by rfl) ?_ (by assumption) ?_
  rotate_left
  · intro w hSw; go_simp; first | done | with_reducible rfl
  simp only [Act.put, List.setIfInBounds_toArray, List.set_cons_zero, List.set_cons_succ]
  refine takeH 22 117 (v := ?_) rfl rfl (by kernel_rfl) (by kernel_rfl) (by kernel_rfl) (fun _ _ _ h => h) (by rfl) ?_ (by assumption) ?_
  rotate_left
  · intro w hSw; go_simp; first | done | with_reducible rfl
  simp only [Act.put, List.setIfInBounds_toArray, List.set_cons_zero, List.set_cons_succ]
  refine takeH 23 118 (v := ?_) rfl rfl (by kernel_rfl) (by kernel_rfl) (by kernel_rfl) (fun _ _ _ h => h) (by rfl) ?_ (by assumption) ?_
  rotate_left
  · intro w hSw; go_simp; first | done | with_reducible rfl
  simp only [Act.put, List.setIfInBounds_toArray, List.set_cons_zero, List.set_cons_succ]
  refine takeH 24 119 (v := ?_) rfl rfl (by kernel_rfl) (by kernel_rfl) (by kernel_rfl) (fun _ _ _ h => h) (by rfl) ?_ (by assumption) ?_
  rotate_left
  · intro w hSw; go_simp; first | done | with_reducible rfl
  simp only [Act.put, List.setIfInBounds_toArray, List.set_cons_zero, List.set_cons_succ]
  refine takeH 25 120 (v := ?_) rfl rfl (by kernel_rfl) (by kernel_rfl) (by kernel_rfl) (fun _ _ _ h => h) (by rfl) ?_ (by assumption) ?_
  rotate_left
  · intro w hSw; go_simp; first | done | with_reducible rfl
  simp only [Act.put, List.setIfInBounds_toArray, List.set_cons_zero, List.set_cons_succ]
  refine takeH 26 121 (v := ?_) rfl rfl (by kernel_rfl) (by kernel_rfl) (by kernel_rfl) (fun _ _ _ h => h) (by rfl) ?_ (by assumption) ?_
  rotate_left
  · intro w hSw; go_simp; first | done | with_reducible rfl
  simp only [Act.put, List.setIfInBounds_toArray, List.set_cons_zero, List.set_cons_succ]
  refine takeH 27 122 (v := ?_) rfl rfl (by kernel_rfl) (by kernel_rfl) (by kernel_rfl) (fun _ _ _ h => h) (by rfl) ?_ (by assumption) ?_
  rotate_left
  · intro w hSw; go_simp; first | done | with_reducible rfl
  simp only [Act.put, List.setIfInBounds_toArray, List.set_cons_zero, List.set_cons_succ]
  refine takeH 28 123 (v := ?_) rfl rfl (by kernel_rfl) (by kernel_rfl) (by kernel_rfl) (fun _ _ _ h => h) (by rfl) ?_ (by assumption) ?_
  rotate_left
  · intro w hSw; go_simp; first | done | with_reducible rfl
  simp only [Act.put, List.setIfInBounds_toArray, List.set_cons_zero, List.set_cons_succ]
  refine takeH 29 124 (v := ?_) rfl rfl (by kernel_rfl) (by kernel_rfl) (by kernel_rfl) (fun _ _ _ h => h) (by rfl) ?_ (by assumption) ?_
  rotate_left
  · intro w hSw; go_simp; first | done | with_reducible rfl
  simp only [Act.put, List.setIfInBounds_toArray, List.set_cons_zero, List.set_cons_succ]
  refine takeH 30 125 (v := ?_) rfl rfl (by kernel_rfl) (by kernel_rfl) (by kernel_rfl) (fun _ _ _ h => h) (by rfl) ?_ (by assumption) ?_
  rotate_left
  · intro w hSw; go_simp; first | done | with_reducible rfl
  simp only [Act.put, List.setIfInBounds_toArray, List.set_cons_zero, List.set_cons_succ]
  refine takeH 31 126 (v := ?_) rfl rfl (by kernel_rfl) (by kernel_rfl) (by kernel_rfl) (fun _ _ _ h => h) (by rfl) ?_ (by assumption) ?_
  rotate_left
  · intro w hSw; go_simp; first | done | with_reducible rfl
  simp only [Act.put, List.setIfInBounds_toArray, List.set_cons_zero, List.set_cons_succ]
  refine takeH 32 127 (v := ?_) rfl rfl (by kernel_rfl) (by kernel_rfl) (by kernel_rfl) (fun _ _ _ h => h) (by rfl) ?_ (by assumption) ?_
  rotate_left
  · intro w hSw; go_simp; first | done | with_reducible rfl
  simp only [Act.put, List.setIfInBounds_toArray, List.set_cons_zero, List.set_cons_succ]
  refine takeH 33 128 (v := ?_) rfl rfl (by kernel_rfl) (by kernel_rfl) (by kernel_rfl) (fun _ _ _ h => h) (by rfl) ?_ (by assumption) ?_
  rotate_left
  · intro w hSw; go_simp; first | done | with_reducible rfl
  simp only [Act.put, List.setIfInBounds_toArray, List.set_cons_zero, List.set_cons_succ]
  refine takeH 34 129 (v := ?_) rfl rfl (by kernel_rfl) (by kernel_rfl) (by kernel_rfl) (fun _ _ _ h => h) (by rfl) ?_ (by assumption) ?_
  rotate_left
  · intro w hSw; go_simp; first | done | with_reducible rfl
  simp only [Act.put, List.setIfInBounds_toArray, List.set_cons_zero, List.set_cons_succ]
  refine takeH 35 130 (v := ?_) rfl rfl (by kernel_rfl) (by kernel_rfl) (by kernel_rfl) (fun _ _ _ h => h) (by rfl) ?_ (by assumption) ?_
  rotate_left
  · intro w hSw; go_simp; first | done | with_reducible rfl
  simp only [Act.put, List.setIfInBounds_toArray, List.set_cons_zero, List.set_cons_succ]
  refine takeH 36 131 (v := ?_) rfl rfl (by kernel_rfl) (by kernel_rfl) (by kernel_rfl) (fun _ _ _ h => h) (by rfl) ?_ (by assumption) ?_
  rotate_left
  · intro w hSw; go_simp; first | done | with_reducible rfl
  simp only [Act.put, List.setIfInBounds_toArray, List.set_cons_zero, List.set_cons_succ]
  refine takeH 37 132 (v := ?_) rfl rfl (by kernel_rfl) (by kernel_rfl) (by kernel_rfl) (fun _ _ _ h => h) (by rfl) ?_ (by assumption) ?_
  rotate_left
  · intro w hSw; go_simp; first | done | with_reducible rfl
  simp only [Act.put, List.setIfInBounds_toArray, List.set_cons_zero, List.set_cons_succ]
  refine takeH 38 133 (v := ?_) rfl rfl (by kernel_rfl) (by kernel_rfl) (by kernel_rfl) (fun _ _ _ h => h) (by rfl) ?_ (by assumption) ?_
  rotate_left
  · intro w hSw; go_simp; first | done | with_reducible rfl
  simp only [Act.put, List.setIfInBounds_toArray, List.set_cons_zero, List.set_cons_succ]
  refine takeH 39 134 (v := ?_) rfl rfl (by kernel_rfl) (by kernel_rfl) (by kernel_rfl) (fun _ _ _ h => h) (by rfl) ?_ (by assumption) ?_
  rotate_left
  · intro w hSw; go_simp; first | done | with_reducible rfl
  simp only [Act.put, List.setIfInBounds_toArray, List.set_cons_zero, List.set_cons_succ]
  refine takeH 40 135 (v := ?_) rfl rfl (by kernel_rfl) (by kernel_rfl) (by kernel_rfl) (fun _ _ _ h => h) (by rfl) ?_ (by assumption) ?_
  rotate_left
  · intro w hSw; go_simp; first | done | with_reducible rfl
  simp only [Act.put, List.setIfInBounds_toArray, List.set_cons_zero, List.set_cons_succ]
  refine takeH 41 136 (v := ?_) rfl rfl (by kernel_rfl) (by kernel_rfl) (by kernel_rfl) (fun _ _ _ h => h) (by rfl) ?_ (by assumption) ?_
  rotate_left
  · intro w hSw; go_simp; first | done | with_reducible rfl
  simp only [Act.put, List.setIfInBounds_toArray, List.set_cons_zero, List.set_cons_succ]
  refine takeH 42 137 (v := ?_) rfl rfl (by kernel_rfl) (by kernel_rfl) (by kernel_rfl) (fun _ _ _ h => h) (by rfl) ?_ (by assumption) ?_
  rotate_left
  · intro w hSw; go_simp; first | done | with_reducible rfl
  simp only [Act.put, List.setIfInBounds_toArray, List.set_cons_zero, List.set_cons_succ]
  refine takeH 43 138 (v := ?_) rfl rfl (by kernel_rfl) (by kernel_rfl) (by kernel_rfl) (fun _ _ _ h => h) (by rfl) ?_ (by assumption) ?_
  rotate_left
  · intro w hSw; go_simp; first | done | with_reducible rfl
  simp only [Act.put, List.setIfInBounds_toArray, List.set_cons_zero, List.set_cons_succ]
  refine takeH 44 139 (v := ?_) rfl rfl (by kernel_rfl) (by kernel_rfl) (by kernel_rfl) (fun _ _ _ h => h) (by rfl) ?_ (by assumption) ?_
  rotate_left
  · intro w hSw; go_simp; first | done | with_reducible rfl
  simp only [Act.put, List.setIfInBounds_toArray, List.set_cons_zero, List.set_cons_succ]
  refine takeH 45 140 (v := ?_) rfl rfl (by kernel_rfl) (by kernel_rfl) (by kernel_rfl) (fun _ _ _ h => h) (by rfl) ?_ (by assumption) ?_
  rotate_left
  · intro w hSw; go_simp; first | done | with_reducible rfl
  simp only [Act.put, List.setIfInBounds_toArray, List.set_cons_zero, List.set_cons_succ]
  refine takeH 46 141 (v := ?_) rfl rfl (by kernel_rfl) (by kernel_rfl) (by kernel_rfl) (fun _ _ _ h => h) (by rfl) ?_ (by assumption) ?_
  rotate_left
  · intro w hSw; go_simp; first | done | with_reducible rfl
  simp only [Act.put, List.setIfInBounds_toArray, List.set_cons_zero, List.set_cons_succ]
  refine takeH 47 142 (v := ?_) rfl rfl (by kernel_rfl) (by kernel_rfl) (by kernel_rfl) (fun _ _ _ h => h) (by rfl) ?_ (by assumption) ?_
  rotate_left
  · intro w hSw; go_simp; first | done | with_reducible rfl
  simp only [Act.put, List.setIfInBounds_toArray, List.set_cons_zero, List.set_cons_succ]
  refine wpAnyH_ready (rs := [48]) (by kernel_rfl) (by simp) ?_
  refine AllReadyH.cons rfl (fun K hK => ?_) AllReadyH.nil
  go_simp
  refine (rsame_any _ _ _ _ _ _ _ _ _ (HDU.out.below hS3.2.2.2.2.2.2.2.2.2.2.out) (HDV.out.below hS3.2.2.2.2.2.2.2.2.2.2.out) true ⟨fun _ => ⟨rfl, rfl, rfl⟩, fun _ => rfl⟩).mono ?_
  rintro e wl4 ⟨rfl, hb4⟩
  go_simp
  refine hK.out _ _ (HKeep.out _ (below_bt hS3.2.2.2.2.2.2.2.2.2.2.out hb4)) (fun hS4 => ?_)
  clear hK K
  refine takeH 49 144 (v := ?_) rfl rfl (by kernel_rfl) (by kernel_rfl) (by kernel_rfl) (fun _ _ _ h => h) (by rfl) ?_ (by assumption) ?_
  rotate_left
  · intro w hSw; go_simp; first | done | with_reducible rfl
  simp only [Act.put, List.setIfInBounds_toArray, List.set_cons_zero, List.set_cons_succ]
  refine takeH 50 145 (v := ?_) rfl rfl (by kernel_rfl) (by kernel_rfl) (by kernel_rfl) (fun _ _ _ h => h) (by rfl) ?_ (by assumption) ?_
  rotate_left
  · intro w hSw; go_simp; first | done | with_reducible rfl
  simp only [Act.put, List.setIfInBounds_toArray, List.set_cons_zero, List.set_cons_succ]
  refine wpAnyH_done (by kernel_rfl) (NoPanic.normal ?_) _
  have hWL := hS4.2.2.2.2.2.2.2.2.2.2.out
  go_wp2
  have bL : Below w3.heap.size w3 wl4 := below_bt b3.out hWL
  have HTL : Hid (wl4.heap[w3.heap.size]? = some (.cells #[.int .i64 count, .slice pT data.length cT, .slice qT ws.length mT] 25 (0, 0))) := (hWL.block _ (lt_heap HBT.out)).trans HBT.out
  have HUL : Hid (wl4.heap[w10.heap.size]? = some (.cells #[.int .i64 (resC count (wrA count data ws n xs)), .slice pU (resD (wrA count data ws n xs)).length cU, .slice qU (resW (wrA count data ws n xs)).length mU] 25 (0, 0))) := (hWL.block _ (lt_heap HBU.out)).trans HBU.out
  have HSL : Hid (Spoils wl4 w9.heap.size (.agg #[.int .i64 (resC count (wrA count data ws n xs)), .slice pU (resD (wrA count data ws n xs)).length cU, .slice qU (resW (wrA count data ws n xs)).length mU])) := HSU.out.below hWL
  have H8P : Hid (W8 wl4 (w5.alloc (.cells #[.int .i64 (newC count0), .slice pY (newD count0).length cY, .slice qY 0 mY] 25)).heap.size p6 (readX count data ws n).length) := H86.out.below hWL
  have H8R : Hid (W8 wl4 w7.heap.size p8 (sureX count data ws n).length) := H88.out.below hWL
  have z9 : w9.heap.size ≤ wl4.heap.size := by have := hWL.size; have := z9W; omega
  have hRS := x_len count data ws n
  have hr1 : (readX count data ws n).length ≤ (sureX count data ws n).length := by omega
  have hr2 : (sureX count data ws n).length ≤ (readX count data ws n).length := by omega
  have hr3 : (readX count data ws n).length ≤ 128 := by have := x_max count data ws n; omega
  clear hRS HKeep hee hne hrr hcc HBV HBX2 HBY HDX HDY HDU HDV HSU H86 H88 HI6 HI7 HI8 HI9 hS1 hS2 hS3 hS4 hS0 hb1 hb2 hb3 hb4 HBT HBU
  generalize hRDg : (readX count data ws n) = RD at *
  generalize hSUg : (sureX count data ws n) = SU at *
  clear hRDg hSUg
  by_cases hz : 0 < RD.length
  · obtain ⟨gp, rfl, hgp, hup⟩ := H8P.out hz
    obtain ⟨gr, rfl, hgr, hur⟩ := H8R.out (by omega)
    have lp : gp < w9.heap.size := LP.out hz gp rfl
    have lr : gr < w9.heap.size := LR.out (by omega) gr rfl
    have hgp3 : w3.heap.size < gp := by rw [World.size_alloc] at hgp; omega
    have hgr3 : w3.heap.size < gr := by omega
    have HS0 : Sp2 gp gr RD.length wl4 wl4 := ⟨rfl, rfl, rfl, Nat.le_refl _, fun _ _ _ _ => rfl, hup, by obtain ⟨cs, q1, q2, q3⟩ := hur; exact ⟨cs, q1, by omega, q3⟩⟩
    have HSS : Hid _ := HS0
    clear HS0 hup hur
    go_loopw [27] (fun i wr => ∃ k : Nat, k ≤ RD.length ∧ i = .int .i64 k ∧ Sp2 gp gr RD.length wl4 wr) (fun i _ => RD.length - (intOf i).toNat)
    case atStart => exact ⟨0, by omega, rfl, HSS.out⟩
    case round =>
      obtain ⟨k, hk, rfl, hsp⟩ := hrel
      by_cases hkl : k < RD.length
      · obtain ⟨cs, q1, q2, q3⟩ := hsp.rp
        obtain ⟨y1, hy1⟩ := q3 k (by omega)
        have c1 := cell_of_row wr gp k _ _ _ q1
        rw [hy1] at c1
        have f1 := frozen_of_row wr gp k _ _ q1
        have hsp1 := hsp.setP gp (.inl rfl) k 77
        obtain ⟨cs2, r1, r2, r3⟩ := hsp1.rr
        obtain ⟨y2, hy2⟩ := r3 k (by omega)
        have c2 := cell_of_row _ gr k _ _ _ r1
        rw [hy2] at c2
        have f2 := frozen_of_row _ gr k _ _ r1
        have HS2 : Hid _ := hsp1.setP gr (.inr rfl) k 77
        have hks : (k : Int) < (SU.length : Int) := by omega
        clear hsp hsp1 q1 q3 r1 r3 hy1 hy2
        go_wp2
        go_roundw
        case rel => exact ⟨k + 1, by omega, by go_num, HS2.out⟩
        case measure => simp [intOf]; omega
      · obtain rfl : k = RD.length := by omega
        have hdk : decide (((RD.length : Nat) : Int) < (RD.length : Int)) = false := by simp
        have HSP : Hid _ := hsp
        clear hsp
        have hsp := HSP.out
        have hcut : Below w3.heap.size w3 wr ∧ wr.heap[w3.heap.size]? = some (.cells #[.int .i64 count, .slice pT data.length cT, .slice qT ws.length mT] 25 (0, 0)) ∧ wr.heap[w10.heap.size]? = some (.cells #[.int .i64 (resC count (wrA count data ws n xs)), .slice pU (resD (wrA count data ws n xs)).length cU, .slice qU (resW (wrA count data ws n xs)).length mU] 25 (0, 0)) ∧ Spoils wr w9.heap.size (.agg #[.int .i64 (resC count (wrA count data ws n xs)), .slice pU (resD (wrA count data ws n xs)).length cU, .slice qU (resW (wrA count data ws n xs)).length mU]) ∧ w9.heap.size ≤ wr.heap.size := ⟨bL.trans (hsp.below bL.size (by omega) (by omega)), (hsp.block _ (lt_heap HTL.out) (by omega) (by omega)).trans HTL.out, (hsp.block _ (lt_heap HUL.out) (by omega) (by omega)).trans HUL.out, HSL.out.keepB (fun x hx hx2 => hsp.block x hx2 (by omega) (by omega)), Nat.le_trans z9 hsp.size⟩
        clear hsp HSP HSS
        obtain ⟨k3, kT, kU, kS, kz⟩ := hcut
        obtain ⟨x0, x1, x2⟩ := cells3 kU
        have HKT : Hid _ := kT
        have HKS : Hid _ := kS
        clear kT kU kS H8P H8R HTL HUL HSL bL
        go_wp2_with fail
        refine (spoil_u _ w9.heap.size _ HKS.out kz).mono ?_
        rintro e w12 ⟨rfl, hb12⟩
        have b12 : Below w3.heap.size w3 w12 := k3.trans (hb12.mono (by omega))
        have kT2 := (hb12.block _ z39).trans HKT.out
        obtain ⟨t0, t1, t2⟩ := cells3 kT2
        have kD2 := (b12.block _ (lt_heap HB3.out)).trans HB3.out
        obtain ⟨d0, d1, d2⟩ := cells3 kD2
        clear kT2 kD2 x0 x1 x2
        go_wp2_with fail
        refine (rsame_any _ _ _ _ _ _ _ _ _ (HT3.out.below b12) (HD3.out.below b12) true ⟨fun _ => ⟨rfl, rfl, rfl⟩, fun _ => rfl⟩).mono ?_
        rintro e w13 ⟨rfl, hb13⟩
        have b13 : Below w3.heap.size w3 w13 := b12.trans (hb13.mono b12.size)
        have cI := conv_at (c := cI) (HI3w.out.below b13) rfl
        have cB := conv_at (c := cb) (HX3w.out.below b13) rfl
        have hbf : Below w.heap.size w w13 := hbc3.trans (b13.mono hbc3.size)
        go_wp2
        go_ret
        exact ⟨rfl, hbf⟩
  · have hz1 : decide ((0 : Int) < (RD.length : Int)) = false := decide_eq_false (by omega)
    refine wp_loop_rounds 1 ?_
    rw [rounds_succ]
    have hcut : Below w3.heap.size w3 wl4 ∧ wl4.heap[w3.heap.size]? = some (.cells #[.int .i64 count, .slice pT data.length cT, .slice qT ws.length mT] 25 (0, 0)) ∧ wl4.heap[w10.heap.size]? = some (.cells #[.int .i64 (resC count (wrA count data ws n xs)), .slice pU (resD (wrA count data ws n xs)).length cU, .slice qU (resW (wrA count data ws n xs)).length mU] 25 (0, 0)) ∧ Spoils wl4 w9.heap.size (.agg #[.int .i64 (resC count (wrA count data ws n xs)), .slice pU (resD (wrA count data ws n xs)).length cU, .slice qU (resW (wrA count data ws n xs)).length mU]) ∧ w9.heap.size ≤ wl4.heap.size := ⟨bL, HTL.out, HUL.out, HSL.out, z9⟩
    obtain ⟨k3, kT, kU, kS, kz⟩ := hcut
    obtain ⟨x0, x1, x2⟩ := cells3 kU
    have HKT : Hid _ := kT
    have HKS : Hid _ := kS
    clear kT kU kS H8P H8R HTL HUL HSL bL
    go_wp2_with fail
    refine (spoil_u _ w9.heap.size _ HKS.out kz).mono ?_
    rintro e w12 ⟨rfl, hb12⟩
    have b12 : Below w3.heap.size w3 w12 := k3.trans (hb12.mono (by omega))
    have kT2 := (hb12.block _ z39).trans HKT.out
    obtain ⟨t0, t1, t2⟩ := cells3 kT2
    have kD2 := (b12.block _ (lt_heap HB3.out)).trans HB3.out
    obtain ⟨d0, d1, d2⟩ := cells3 kD2
    clear kT2 kD2 x0 x1 x2
    go_wp2_with fail
    refine (rsame_any _ _ _ _ _ _ _ _ _ (HT3.out.below b12) (HD3.out.below b12) true ⟨fun _ => ⟨rfl, rfl, rfl⟩, fun _ => rfl⟩).mono ?_
    rintro e w13 ⟨rfl, hb13⟩
    have b13 : Below w3.heap.size w3 w13 := b12.trans (hb13.mono b12.size)
    have cI := conv_at (c := cI) (HI3w.out.below b13) rfl
    have cB := conv_at (c := cb) (HX3w.out.below b13) rfl
    have hbf : Below w.heap.size w w13 := hbc3.trans (b13.mono hbc3.size)
    go_wp2
    go_ret
    exact ⟨rfl, hbf⟩
theorem walk (count0 : Int) (v : Value) (count : Int) (data : List Nat) (ws : Puts) (n : Int) (bv : Value) (xs : List Nat) (w : World) (w0 : (Lit.int .i64 count0).wf = true) (hd : DiskIn w v count data ws) (hsz : ∀ y ∈ ws, y.2.length ≤ reachBytes) (wn : (Lit.int .i64 n).wf = true) (hb : Row w bv xs) :
    Calls Try.prog 4 #[.int .i64 count0, v, .int .i64 n, bv] w fun e w' => e = .returned (.bool true) ∧ Below w.heap.size w w' := by
  obtain ⟨pb, cb, rfl, hbb, h1, h2, h3⟩ := hb.lies
  by_cases hl : largeN count data ws
  · exact walk_large count0 v count data ws n pb cb xs w hd hl
  · by_cases h0 : (xs.length : Int) ≤ 10000
    · by_cases hc : count0 ≤ 300
      · exact walk_low count0 v count data ws n pb cb xs w hd hl h0 hc hsz wn hbb h1 h2 h3
      · by_cases hc2 : count0 ≤ 4095
        · exact walk_count count0 v count data ws n pb cb xs w hd hl h0 (by omega) hc2
        · exact walk_high count0 v count data ws n pb cb xs w hd hl h0 (by omega) (by omega) hsz wn hbb h1 h2 h3
    · exact walk_len count0 v count data ws n pb cb xs w hd hl (by omega)

/-! ### THE ROW's STEP -/
set_option maxRecDepth 100000 in
theorem lifted (os : Os) (started : os.Started) (H : Type) (enc : TypeId × Value → H) :
    ReturnsInHanded {} Try.checked os 4 .any (Rows.diskReadsSpec.pre6 enc Try.prog Try.f4 Rows.diskReadsRow.domain false) (Rows.diskReadsSpec.post enc Try.prog Try.f4 false true false false) := by
  refine returnsInHanded_of_change_sized (C := Try.checked) own started (by kernel_rfl) Try.func4
    (ChangeSpec.witness6 (enc := enc) (C := Try.checked) false ⟨#[], #[.int .i64 0, .agg #[.int .i64 0, .slice none 0 0, .slice none 0 0], .int .i64 0, .slice none 0 0], []⟩ 8 (by kernel_rfl) (by kernel_rfl) (by kernel_rfl) (by kernel_rfl)) ?_
  intro W base args ds gs before hval0 hW hcnd hsz0 _
  have hval : ∀ (j : Nat) t v, Try.f4.params[j]? = some t → args[j]? = some v → Value.okWide Try.prog W .any base t v := hval0
  have hW' := hW
  obtain ⟨p, q, hA0, hV, rfl, hfz, hnd⟩ := hW
  have hA : DataW.TrodAll enc Try.prog W 0 (fun _ => true) true Try.f4.params.toList args.toList ds p := hA0
  have hsz : (DataW.weightsEach Try.prog (Try.f4.params.toList ++ Rows.diskReadsSpec.plain.varTypes Try.prog) (ds ++ gs)).all (· ≤ reachBytes) = true := hsz0
  rw [Try.params4] at hA hval hsz
  obtain ⟨v0, vs0, d0, ds0, p0, q0, hargs, rfl, rfl, h0, r0⟩ := trodAll_cons hA
  obtain ⟨v1, vs1, d1, ds1, p1, q1, rfl, rfl, rfl, h1, r1⟩ := trodAll_cons r0
  obtain ⟨v2, vs2, d2, ds2, p2, q2, rfl, rfl, rfl, h2, r2⟩ := trodAll_cons r1
  obtain ⟨v3, vs3, d3, ds3, p3, q3, rfl, rfl, rfl, h3, r3⟩ := trodAll_cons r2
  obtain ⟨rfl, rfl, rfl⟩ := trodAll_nil r3
  obtain rfl : args = #[v0, v1, v2, v3] := by cases args; simp_all
  obtain ⟨rfl, rfl⟩ := trodVars_none hV
  obtain ⟨a0, rfl, rfl, rfl, w0⟩ := open_int Try.underlying3 (hval 0 3 v0 rfl rfl) h0
  have k1 := h1
  have lt1 : ∀ x ∈ p1, x.block < W.heap.size := by obtain ⟨m, hm⟩ := k1; exact DataW.trod_lt m _ _ _ hm
  obtain ⟨count1, data1, ws1, w1, z1⟩ := open_disk_sized (tD := 25) (t := 23) (e := 51) (tb := 22) (eb := 5) Try.underlying25 (by kernel_rfl) (by kernel_rfl) Try.underlying3 rfl rfl Try.underlying23 Try.underlying51 (by kernel_rfl) rfl rfl (by kernel_rfl) (by kernel_rfl) Try.underlying3 rfl Try.underlying22 Try.underlying5 (by kernel_rfl) (by kernel_rfl) (hval 1 25 v1 rfl rfl) h1 (fun k hk => by simpa using List.all_eq_true.1 hsz k (DataW.weights_mem_each (j := 1) (t := 25) rfl rfl k hk))
  obtain ⟨a2, rfl, rfl, rfl, w2⟩ := open_int Try.underlying3 (hval 2 3 v2 rfl rfl) h2
  have k3 := h3
  have lt3 : ∀ x ∈ p3, x.block < W.heap.size := by obtain ⟨m, hm⟩ := k3; exact DataW.trod_lt m _ _ _ hm
  obtain ⟨qa3, la3, ca3, rfl⟩ := okWide_slice Try.underlying22 (hval 3 22 v3 rfl rfl)
  obtain ⟨fu3, hf3⟩ := h3
  obtain ⟨xs3, w3⟩ := open_bytes Try.underlying22 Try.underlying5 (by kernel_rfl) hf3
  clear hA0 hval0
  refine (walk a0 v1 count1 data1 ws1 a2 (.slice qa3 la3 ca3) xs3 W w0 w1 z1 w2 w3).mono fun e W' ⟨he, bel⟩ => ?_
  subst he
  exact ⟨_, rfl, _, _, _, [], _, [], hW', trodAll_mk1 (shut_bool Try.underlying4 _), (trodAll_cons_mk (shut_int Try.underlying3 w0) (trodAll_cons_mk (Below.trod laidOut (by kernel_rfl) (of_decide_eq_true (by kernel_rfl)) k1 bel lt1) (trodAll_cons_mk (shut_int Try.underlying3 w2) (trodAll_cons_mk (Below.trod laidOut (by kernel_rfl) (of_decide_eq_true (by kernel_rfl)) k3 bel lt3) trodAll_mk0)))), rfl, bel.frame _, fun h => by cases h⟩

theorem over : Rows.diskReadsRow.holds Try.pinned (OpenSpec.ofChange Rows.diskReadsSpec) :=
  OpenClaim.holds_of_wide 4 Try.f4 rfl rfl rfl rfl rfl rfl rfl ⟨rfl, rfl, rfl, rfl, rfl⟩ rfl rfl rfl rfl rfl (by kernel_rfl) Try.func4 (by kernel_rfl)
    (of_decide_eq_true (by kernel_rfl)) (by unfold Func.isWrapper; first | (rw [if_pos (by decide +kernel)]; kernel_rfl) | (rw [if_neg (by decide +kernel)]; exact ⟨rfl, rfl⟩))
    (fun os started H enc _ => lifted os started H enc)

theorem proved : Rows.DiskReadsSaid := over
end Go.Proofs.Ytmpeeojeifmbfaa.diskReads
namespace Go.Proofs.Ytmpeeojeifmbfaa
theorem diskReads_holds : Rows.DiskReadsSaid := diskReads.proved
#print axioms diskReads_holds
end Go.Proofs.Ytmpeeojeifmbfaa
