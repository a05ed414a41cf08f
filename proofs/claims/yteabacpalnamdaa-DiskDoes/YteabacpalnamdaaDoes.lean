/-
  Proved: for every two disks, acts and choice of what stays the law DiskDoes answers true: acts, flushes and losses of power come to what the document's own answer says, disks are compared so, and what is handed in stays.
  Conditions: none (every disk, []Act and []bool that can be read).
-/
import Derived.Test.YteabacpalnamdaaRows
import Derived.Test.YteabacpalnamdaaRU2
import Derived.Test.YteabacpalnamdaaDOnes
import Derived.WalkKit
import Derived.ProofKit
import Derived.OpenShut
import Derived.ShutString
import Derived.ChangeOld
import Derived.Below
import Derived.SizedLaws
namespace Go.Proofs.Yteabacpalnamdaa.diskDoes
open Go.ChangeShapes Go.WideShapes Go.ChangeAt Go.RowKit
open Go.ChangeMaps (open_string shut_string)
set_option linter.unusedVariables false

theorem own : ownKnob Try.prog.godebug = none := by kernel_rfl
theorem laidOut : laidOutB Try.prog = true := by kernel_rfl

open Go.Joins
def Since (a b : World) : Prop := Below a.heap.size a b
theorem Since.below {a b c : World} (h : Since a b) (hb : Below b.heap.size b c) : Since a c := below_bt h hb
attribute [local go_sem ↓] Go.wp_at_zero Go.wp_at_succ
set_option maxRecDepth 8000 in
set_option maxHeartbeats 16000000 in
theorem walk_l1 (v : Value) (count : Int) (data : List Nat) (ws : Puts) (v2 : Value) (count2 : Int) (data2 : List Nat) (ws2 : Puts) (ql : Option Addr) (cl : Nat) (l : Acts) (qk : Option Addr) (ck : Nat) (keep : List Bool) (w : World) (hd : DiskIn w v count data ws) (hd2 : DiskIn w v2 count2 data2 ws2) (hl : largeN count data ws) :
    Calls Try.prog 5 #[v, v2, .slice ql l.length cl, .slice qk keep.length ck] w fun e w' => e = .returned (.bool true) ∧ Below w.heap.size w w' := by
  obtain ⟨p, c, q, m, rfl, _⟩ := hd.parts
  obtain ⟨p2, c2, q2, m2, rfl, _⟩ := hd2.parts
  have HD0 : Hid (DiskIn w (.agg #[.int .i64 count, .slice p data.length c, .slice q ws.length m]) count data ws) := hd
  have HO0 : Hid (DiskIn w (.agg #[.int .i64 count2, .slice p2 data2.length c2, .slice q2 ws2.length m2]) count2 data2 ws2) := hd2
  clear hd hd2
  go_enter Try.func5, Try.ntmps5
  go_wp2_with fail
  refine (large_any _ count data ws _ (HD0.out.below ((below_alloc w _).alloc (by simp) _))).mono ?_
  rintro e w1 ⟨rfl, hb1⟩
  rw [decide_eq_true hl]
  replace hb1 := box2_of hb1
  obtain ⟨hB, hR⟩ := box2_cells hb1
  have z1 := box2_size hb1
  have HB : Hid (w1.heap[w.heap.size]? = some (.cells #[.int .i64 count, .slice p data.length c, .slice q ws.length m] 25 (0, 0))) := hB
  have HO : Hid (w1.heap[w.heap.size + 1]? = some (.cells #[.int .i64 count2, .slice p2 data2.length c2, .slice q2 ws2.length m2] 25 (0, 0))) := hR
  have hbc : Below w.heap.size w w1 := box2_below hb1
  have HD : Hid (DiskIn w1 (.agg #[.int .i64 count, .slice p data.length c, .slice q ws.length m]) count data ws) := HD0.out.below hbc
  have HDO : Hid (DiskIn w1 (.agg #[.int .i64 count2, .slice p2 data2.length c2, .slice q2 ws2.length m2]) count2 data2 ws2) := HO0.out.below hbc
  have HCW : Hid ((Lit.int .i64 count).wf = true) := HD0.out.count_wf
  have HPW : Hid (∀ y ∈ ws, (Lit.int .i64 y.1).wf = true) := HD0.out.puts_wf
  clear HD0 HO0 hb1 hB hR
  go_wp2
  go_ret
  exact ⟨rfl, hbc⟩
set_option maxRecDepth 8000 in
set_option maxHeartbeats 16000000 in
theorem walk_l2 (v : Value) (count : Int) (data : List Nat) (ws : Puts) (v2 : Value) (count2 : Int) (data2 : List Nat) (ws2 : Puts) (ql : Option Addr) (cl : Nat) (l : Acts) (qk : Option Addr) (ck : Nat) (keep : List Bool) (w : World) (hd : DiskIn w v count data ws) (hd2 : DiskIn w v2 count2 data2 ws2) (hl : ¬ largeN count data ws) (hl2 : largeN count2 data2 ws2) :
    Calls Try.prog 5 #[v, v2, .slice ql l.length cl, .slice qk keep.length ck] w fun e w' => e = .returned (.bool true) ∧ Below w.heap.size w w' := by
  obtain ⟨p, c, q, m, rfl, _⟩ := hd.parts
  obtain ⟨p2, c2, q2, m2, rfl, _⟩ := hd2.parts
  have HD0 : Hid (DiskIn w (.agg #[.int .i64 count, .slice p data.length c, .slice q ws.length m]) count data ws) := hd
  have HO0 : Hid (DiskIn w (.agg #[.int .i64 count2, .slice p2 data2.length c2, .slice q2 ws2.length m2]) count2 data2 ws2) := hd2
  clear hd hd2
  go_enter Try.func5, Try.ntmps5
  go_wp2_with fail
  refine (large_any _ count data ws _ (HD0.out.below ((below_alloc w _).alloc (by simp) _))).mono ?_
  rintro e w1 ⟨rfl, hb1⟩
  rw [decide_eq_false hl]
  replace hb1 := box2_of hb1
  obtain ⟨hB, hR⟩ := box2_cells hb1
  have z1 := box2_size hb1
  have HB : Hid (w1.heap[w.heap.size]? = some (.cells #[.int .i64 count, .slice p data.length c, .slice q ws.length m] 25 (0, 0))) := hB
  have HO : Hid (w1.heap[w.heap.size + 1]? = some (.cells #[.int .i64 count2, .slice p2 data2.length c2, .slice q2 ws2.length m2] 25 (0, 0))) := hR
  have hbc : Below w.heap.size w w1 := box2_below hb1
  have HD : Hid (DiskIn w1 (.agg #[.int .i64 count, .slice p data.length c, .slice q ws.length m]) count data ws) := HD0.out.below hbc
  have HDO : Hid (DiskIn w1 (.agg #[.int .i64 count2, .slice p2 data2.length c2, .slice q2 ws2.length m2]) count2 data2 ws2) := HO0.out.below hbc
  have HCW : Hid ((Lit.int .i64 count).wf = true) := HD0.out.count_wf
  have HPW : Hid (∀ y ∈ ws, (Lit.int .i64 y.1).wf = true) := HD0.out.puts_wf
  clear HD0 HO0 hb1 hB hR
  obtain ⟨x0, x1, x2⟩ := cells3 HO.out
  have xlt := lt_heap HO.out
  go_wp2_with fail
  refine (large_any _ count2 data2 ws2 _ HDO.out).mono ?_
  rintro e w2 ⟨rfl, hb2⟩
  rw [decide_eq_true hl2]
  clear x0 x1 x2 xlt
  have z2 : w.heap.size + 2 ≤ w2.heap.size := Nat.le_trans z1 hb2.size
  have bb1 : Below w1.heap.size w1 w2 := hb2
  replace HB : Hid (w2.heap[w.heap.size]? = some (.cells #[.int .i64 count, .slice p data.length c, .slice q ws.length m] 25 (0, 0))) := (bb1.block _ (lt_heap HB.out)).trans HB.out
  replace HO : Hid (w2.heap[(w.heap.size + 1)]? = some (.cells #[.int .i64 count2, .slice p2 data2.length c2, .slice q2 ws2.length m2] 25 (0, 0))) := (bb1.block _ (lt_heap HO.out)).trans HO.out
  replace HD : Hid (DiskIn w2 (.agg #[.int .i64 count, .slice p data.length c, .slice q ws.length m]) count data ws) := HD.out.below bb1
  replace HDO : Hid (DiskIn w2 (.agg #[.int .i64 count2, .slice p2 data2.length c2, .slice q2 ws2.length m2]) count2 data2 ws2) := HDO.out.below bb1
  replace hbc : Below w.heap.size w w2 := below_bt hbc bb1
  clear bb1 hb2
  go_wp2
  go_ret
  exact ⟨rfl, hbc⟩
set_option maxRecDepth 8000 in
set_option maxHeartbeats 16000000 in
theorem walk_n1 (v : Value) (count : Int) (data : List Nat) (ws : Puts) (v2 : Value) (count2 : Int) (data2 : List Nat) (ws2 : Puts) (ql : Option Addr) (cl : Nat) (l : Acts) (qk : Option Addr) (ck : Nat) (keep : List Bool) (w : World) (hd : DiskIn w v count data ws) (hd2 : DiskIn w v2 count2 data2 ws2) (hl : ¬ largeN count data ws) (hl2 : ¬ largeN count2 data2 ws2) (h0 : (300 : Int) < (l.length : Int)) :
    Calls Try.prog 5 #[v, v2, .slice ql l.length cl, .slice qk keep.length ck] w fun e w' => e = .returned (.bool true) ∧ Below w.heap.size w w' := by
  obtain ⟨p, c, q, m, rfl, _⟩ := hd.parts
  obtain ⟨p2, c2, q2, m2, rfl, _⟩ := hd2.parts
  have HD0 : Hid (DiskIn w (.agg #[.int .i64 count, .slice p data.length c, .slice q ws.length m]) count data ws) := hd
  have HO0 : Hid (DiskIn w (.agg #[.int .i64 count2, .slice p2 data2.length c2, .slice q2 ws2.length m2]) count2 data2 ws2) := hd2
  clear hd hd2
  go_enter Try.func5, Try.ntmps5
  go_wp2_with fail
  refine (large_any _ count data ws _ (HD0.out.below ((below_alloc w _).alloc (by simp) _))).mono ?_
  rintro e w1 ⟨rfl, hb1⟩
  rw [decide_eq_false hl]
  replace hb1 := box2_of hb1
  obtain ⟨hB, hR⟩ := box2_cells hb1
  have z1 := box2_size hb1
  have HB : Hid (w1.heap[w.heap.size]? = some (.cells #[.int .i64 count, .slice p data.length c, .slice q ws.length m] 25 (0, 0))) := hB
  have HO : Hid (w1.heap[w.heap.size + 1]? = some (.cells #[.int .i64 count2, .slice p2 data2.length c2, .slice q2 ws2.length m2] 25 (0, 0))) := hR
  have hbc : Below w.heap.size w w1 := box2_below hb1
  have HD : Hid (DiskIn w1 (.agg #[.int .i64 count, .slice p data.length c, .slice q ws.length m]) count data ws) := HD0.out.below hbc
  have HDO : Hid (DiskIn w1 (.agg #[.int .i64 count2, .slice p2 data2.length c2, .slice q2 ws2.length m2]) count2 data2 ws2) := HO0.out.below hbc
  have HCW : Hid ((Lit.int .i64 count).wf = true) := HD0.out.count_wf
  have HPW : Hid (∀ y ∈ ws, (Lit.int .i64 y.1).wf = true) := HD0.out.puts_wf
  clear HD0 HO0 hb1 hB hR
  obtain ⟨x0, x1, x2⟩ := cells3 HO.out
  have xlt := lt_heap HO.out
  go_wp2_with fail
  refine (large_any _ count2 data2 ws2 _ HDO.out).mono ?_
  rintro e w2 ⟨rfl, hb2⟩
  rw [decide_eq_false hl2]
  clear x0 x1 x2 xlt
  have z2 : w.heap.size + 2 ≤ w2.heap.size := Nat.le_trans z1 hb2.size
  have bb1 : Below w1.heap.size w1 w2 := hb2
  replace HB : Hid (w2.heap[w.heap.size]? = some (.cells #[.int .i64 count, .slice p data.length c, .slice q ws.length m] 25 (0, 0))) := (bb1.block _ (lt_heap HB.out)).trans HB.out
  replace HO : Hid (w2.heap[(w.heap.size + 1)]? = some (.cells #[.int .i64 count2, .slice p2 data2.length c2, .slice q2 ws2.length m2] 25 (0, 0))) := (bb1.block _ (lt_heap HO.out)).trans HO.out
  replace HD : Hid (DiskIn w2 (.agg #[.int .i64 count, .slice p data.length c, .slice q ws.length m]) count data ws) := HD.out.below bb1
  replace HDO : Hid (DiskIn w2 (.agg #[.int .i64 count2, .slice p2 data2.length c2, .slice q2 ws2.length m2]) count2 data2 ws2) := HDO.out.below bb1
  replace hbc : Below w.heap.size w w2 := below_bt hbc bb1
  clear bb1 hb2
  go_wp2
  go_ret
  exact ⟨rfl, hbc⟩
set_option maxRecDepth 8000 in
set_option maxHeartbeats 16000000 in
theorem walk_n2 (v : Value) (count : Int) (data : List Nat) (ws : Puts) (v2 : Value) (count2 : Int) (data2 : List Nat) (ws2 : Puts) (ql : Option Addr) (cl : Nat) (l : Acts) (qk : Option Addr) (ck : Nat) (keep : List Bool) (w : World) (hd : DiskIn w v count data ws) (hd2 : DiskIn w v2 count2 data2 ws2) (hl : ¬ largeN count data ws) (hl2 : ¬ largeN count2 data2 ws2) (h0 : (l.length : Int) ≤ 300) (h1 : (10000 : Int) < (keep.length : Int)) :
    Calls Try.prog 5 #[v, v2, .slice ql l.length cl, .slice qk keep.length ck] w fun e w' => e = .returned (.bool true) ∧ Below w.heap.size w w' := by
  obtain ⟨p, c, q, m, rfl, _⟩ := hd.parts
  obtain ⟨p2, c2, q2, m2, rfl, _⟩ := hd2.parts
  have HD0 : Hid (DiskIn w (.agg #[.int .i64 count, .slice p data.length c, .slice q ws.length m]) count data ws) := hd
  have HO0 : Hid (DiskIn w (.agg #[.int .i64 count2, .slice p2 data2.length c2, .slice q2 ws2.length m2]) count2 data2 ws2) := hd2
  clear hd hd2
  go_enter Try.func5, Try.ntmps5
  go_wp2_with fail
  refine (large_any _ count data ws _ (HD0.out.below ((below_alloc w _).alloc (by simp) _))).mono ?_
  rintro e w1 ⟨rfl, hb1⟩
  rw [decide_eq_false hl]
  replace hb1 := box2_of hb1
  obtain ⟨hB, hR⟩ := box2_cells hb1
  have z1 := box2_size hb1
  have HB : Hid (w1.heap[w.heap.size]? = some (.cells #[.int .i64 count, .slice p data.length c, .slice q ws.length m] 25 (0, 0))) := hB
  have HO : Hid (w1.heap[w.heap.size + 1]? = some (.cells #[.int .i64 count2, .slice p2 data2.length c2, .slice q2 ws2.length m2] 25 (0, 0))) := hR
  have hbc : Below w.heap.size w w1 := box2_below hb1
  have HD : Hid (DiskIn w1 (.agg #[.int .i64 count, .slice p data.length c, .slice q ws.length m]) count data ws) := HD0.out.below hbc
  have HDO : Hid (DiskIn w1 (.agg #[.int .i64 count2, .slice p2 data2.length c2, .slice q2 ws2.length m2]) count2 data2 ws2) := HO0.out.below hbc
  have HCW : Hid ((Lit.int .i64 count).wf = true) := HD0.out.count_wf
  have HPW : Hid (∀ y ∈ ws, (Lit.int .i64 y.1).wf = true) := HD0.out.puts_wf
  clear HD0 HO0 hb1 hB hR
  obtain ⟨x0, x1, x2⟩ := cells3 HO.out
  have xlt := lt_heap HO.out
  go_wp2_with fail
  refine (large_any _ count2 data2 ws2 _ HDO.out).mono ?_
  rintro e w2 ⟨rfl, hb2⟩
  rw [decide_eq_false hl2]
  clear x0 x1 x2 xlt
  have z2 : w.heap.size + 2 ≤ w2.heap.size := Nat.le_trans z1 hb2.size
  have bb1 : Below w1.heap.size w1 w2 := hb2
  replace HB : Hid (w2.heap[w.heap.size]? = some (.cells #[.int .i64 count, .slice p data.length c, .slice q ws.length m] 25 (0, 0))) := (bb1.block _ (lt_heap HB.out)).trans HB.out
  replace HO : Hid (w2.heap[(w.heap.size + 1)]? = some (.cells #[.int .i64 count2, .slice p2 data2.length c2, .slice q2 ws2.length m2] 25 (0, 0))) := (bb1.block _ (lt_heap HO.out)).trans HO.out
  replace HD : Hid (DiskIn w2 (.agg #[.int .i64 count, .slice p data.length c, .slice q ws.length m]) count data ws) := HD.out.below bb1
  replace HDO : Hid (DiskIn w2 (.agg #[.int .i64 count2, .slice p2 data2.length c2, .slice q2 ws2.length m2]) count2 data2 ws2) := HDO.out.below bb1
  replace hbc : Below w.heap.size w w2 := below_bt hbc bb1
  clear bb1 hb2
  go_wp2
  go_ret
  exact ⟨rfl, hbc⟩
set_option maxRecDepth 8000 in
set_option maxHeartbeats 16000000 in
theorem walk_main (v : Value) (count : Int) (data : List Nat) (ws : Puts) (v2 : Value) (count2 : Int) (data2 : List Nat) (ws2 : Puts) (ql : Option Addr) (cl : Nat) (l : Acts) (qk : Option Addr) (ck : Nat) (keep : List Bool) (w : World) (hd : DiskIn w v count data ws) (hd2 : DiskIn w v2 count2 data2 ws2) (hl : ¬ largeN count data ws) (hl2 : ¬ largeN count2 data2 ws2) (h0 : (l.length : Int) ≤ 300) (h1 : (keep.length : Int) ≤ 10000) (hsz : ∀ y ∈ ws, y.2.length ≤ reachBytes) (hal : ActsIn w ql l) (hlc : l.length ≤ cl) (hlm : cl ≤ maxLen) (hk : BoolsIn w qk keep) :
    Calls Try.prog 5 #[v, v2, .slice ql l.length cl, .slice qk keep.length ck] w fun e w' => e = .returned (.bool true) ∧ Below w.heap.size w w' := by
  obtain ⟨p, c, q, m, rfl, _⟩ := hd.parts
  obtain ⟨p2, c2, q2, m2, rfl, _⟩ := hd2.parts
  have HD0 : Hid (DiskIn w (.agg #[.int .i64 count, .slice p data.length c, .slice q ws.length m]) count data ws) := hd
  have HO0 : Hid (DiskIn w (.agg #[.int .i64 count2, .slice p2 data2.length c2, .slice q2 ws2.length m2]) count2 data2 ws2) := hd2
  clear hd hd2
  go_enter Try.func5, Try.ntmps5
  go_wp2_with fail
  refine (large_any _ count data ws _ (HD0.out.below ((below_alloc w _).alloc (by simp) _))).mono ?_
  rintro e w1 ⟨rfl, hb1⟩
  rw [decide_eq_false hl]
  replace hb1 := box2_of hb1
  obtain ⟨hB, hR⟩ := box2_cells hb1
  have z1 := box2_size hb1
  have HB : Hid (w1.heap[w.heap.size]? = some (.cells #[.int .i64 count, .slice p data.length c, .slice q ws.length m] 25 (0, 0))) := hB
  have HO : Hid (w1.heap[w.heap.size + 1]? = some (.cells #[.int .i64 count2, .slice p2 data2.length c2, .slice q2 ws2.length m2] 25 (0, 0))) := hR
  have hbc : Below w.heap.size w w1 := box2_below hb1
  have HD : Hid (DiskIn w1 (.agg #[.int .i64 count, .slice p data.length c, .slice q ws.length m]) count data ws) := HD0.out.below hbc
  have HDO : Hid (DiskIn w1 (.agg #[.int .i64 count2, .slice p2 data2.length c2, .slice q2 ws2.length m2]) count2 data2 ws2) := HO0.out.below hbc
  have HCW : Hid ((Lit.int .i64 count).wf = true) := HD0.out.count_wf
  have HPW : Hid (∀ y ∈ ws, (Lit.int .i64 y.1).wf = true) := HD0.out.puts_wf
  clear HD0 HO0 hb1 hB hR
  obtain ⟨x0, x1, x2⟩ := cells3 HO.out
  have xlt := lt_heap HO.out
  go_wp2_with fail
  refine (large_any _ count2 data2 ws2 _ HDO.out).mono ?_
  rintro e w2 ⟨rfl, hb2⟩
  rw [decide_eq_false hl2]
  clear x0 x1 x2 xlt
  have z2 : w.heap.size + 2 ≤ w2.heap.size := Nat.le_trans z1 hb2.size
  have bb1 : Below w1.heap.size w1 w2 := hb2
  replace HB : Hid (w2.heap[w.heap.size]? = some (.cells #[.int .i64 count, .slice p data.length c, .slice q ws.length m] 25 (0, 0))) := (bb1.block _ (lt_heap HB.out)).trans HB.out
  replace HO : Hid (w2.heap[(w.heap.size + 1)]? = some (.cells #[.int .i64 count2, .slice p2 data2.length c2, .slice q2 ws2.length m2] 25 (0, 0))) := (bb1.block _ (lt_heap HO.out)).trans HO.out
  replace HD : Hid (DiskIn w2 (.agg #[.int .i64 count, .slice p data.length c, .slice q ws.length m]) count data ws) := HD.out.below bb1
  replace HDO : Hid (DiskIn w2 (.agg #[.int .i64 count2, .slice p2 data2.length c2, .slice q2 ws2.length m2]) count2 data2 ws2) := HDO.out.below bb1
  replace hbc : Below w.heap.size w w2 := below_bt hbc bb1
  clear bb1 hb2
  have hdl : data.length ≤ 600000 := by unfold largeN at hl; omega
  have hwl : ws.length ≤ 4200 := by unfold largeN at hl; omega
  have HSZ : Hid (∀ y ∈ ws, y.2.length ≤ 140737488355328) := fun y hy => Nat.le_trans (hsz y hy) (by decide)
  have HAL : Hid (ActsIn w2 ql l) := hal.below hbc
  have HKB : Hid (BoolsIn w2 qk keep) := hk.below hbc
  clear hl hl2 hsz hal hk
  obtain ⟨rA, HRA⟩ : ∃ r, Hid (doAny count data ws l = r) := ⟨_, rfl⟩
  obtain ⟨rX, HRX⟩ : ∃ r, Hid (flA count data ws = r) := ⟨_, rfl⟩
  obtain ⟨rP, HRP⟩ : ∃ r, Hid (crA count data ws keep = r) := ⟨_, rfl⟩
  obtain ⟨bS, HBS⟩ : ∃ b : Bool, Hid (b = true ↔ SameD count count2 data data2 ws ws2) := by classical exact ⟨decide (SameD count count2 data data2 ws ws2), decide_eq_true_iff⟩
  unfold maxLen at hlm
  go_wp2
  go_loopw [9] (fun i wr => ∃ k : Nat, k ≤ l.length ∧ i = .int .i64 k ∧ wr = w2) (fun i _ => l.length - (intOf i).toNat)
  case atStart => exact ⟨0, by omega, rfl, rfl⟩
  case round =>
    obtain ⟨k, hk, rfl, hwr⟩ := hrel
    have hw2 := hwr.symm
    subst hw2
    by_cases hkl : k < l.length
    · obtain ⟨b0, o0, rfl⟩ := HAL.out.addr (by omega)
      obtain ⟨_, _, py, cy, y0, _⟩ := HAL.out.at hkl
      have hk0 : (0 : Int) ≤ (k : Int) := by omega
      have hk1 : (k : Int) < (l.length : Int) := by omega
      generalize (l.getD k (false, 0, [])).2.2.length = ny at *
      by_cases hbig : (10000 : Int) < (ny : Int)
      · go_wp2
        go_ret
        exact ⟨rfl, hbc⟩
      · have hbig2 : (ny : Int) ≤ 10000 := by omega
        clear hbig
        go_wp2
        go_roundw
        case rel => exact ⟨k + 1, by omega, by go_num, trivial⟩
        case measure => simp [intOf]; omega
    · obtain rfl : k = l.length := by omega
      have hkd : decide (((l.length : Nat) : Int) < (l.length : Int)) = false := by simp
      obtain ⟨x0, x1, x2⟩ := cells3 HB.out
      have xlt := lt_heap HB.out
      go_wp2_with fail
      refine (twin_any _ count data ws _ HD.out (by omega) HSZ.out (by omega)).mono ?_
      rintro e w3 ⟨⟨vT, rfl, hvT⟩, hb3⟩
      have hnT := hvT.toIn HCW.out HPW.out
      obtain ⟨pT, cT, qT, mT, rfl, _⟩ := hnT.parts
      have z3 : w.heap.size + 2 ≤ w3.heap.size := Nat.le_trans z2 hb3.size
      clear x0 x1 x2 xlt hvT
      have bb2 : Below w2.heap.size w2 w3 := hb3
      replace HB : Hid (w3.heap[w.heap.size]? = some (.cells #[.int .i64 count, .slice p data.length c, .slice q ws.length m] 25 (0, 0))) := (bb2.block _ (lt_heap HB.out)).trans HB.out
      replace HO : Hid (w3.heap[(w.heap.size + 1)]? = some (.cells #[.int .i64 count2, .slice p2 data2.length c2, .slice q2 ws2.length m2] 25 (0, 0))) := (bb2.block _ (lt_heap HO.out)).trans HO.out
      replace HD : Hid (DiskIn w3 (.agg #[.int .i64 count, .slice p data.length c, .slice q ws.length m]) count data ws) := HD.out.below bb2
      replace HDO : Hid (DiskIn w3 (.agg #[.int .i64 count2, .slice p2 data2.length c2, .slice q2 ws2.length m2]) count2 data2 ws2) := HDO.out.below bb2
      replace HAL : Hid (ActsIn w3 ql l) := HAL.out.below bb2
      replace HKB : Hid (BoolsIn w3 qk keep) := HKB.out.below bb2
      replace hbc : Below w.heap.size w w3 := below_bt hbc bb2
      clear bb2 hb3
      have HDT : Hid (DiskIn w3 (.agg #[.int .i64 count, .slice pT data.length cT, .slice qT ws.length mT]) count data ws) := hnT
      clear hnT
      have HT3 : Hid (DiskIn w3 (.agg #[.int .i64 count, .slice pT data.length cT, .slice qT ws.length mT]) count data ws) := HDT
      have HD3 : Hid (DiskIn w3 (.agg #[.int .i64 count, .slice p data.length c, .slice q ws.length m]) count data ws) := HD
      have HB3 : Hid (w3.heap[w.heap.size]? = some (.cells #[.int .i64 count, .slice p data.length c, .slice q ws.length m] 25 (0, 0))) := HB
      have hbc3 := hbc
      have b3 : Hid (Since w3 w3) := Below.refl _ _
      go_wp2_with fail
      refine (do_u _ count data ws _ (HDT.out.below (below_alloc w3 (.cells #[.int .i64 count, .slice pT data.length cT, .slice qT ws.length mT] 25))) ql _ cl l rfl (HAL.out.below (below_alloc w3 (.cells #[.int .i64 count, .slice pT data.length cT, .slice qT ws.length mT] 25))) (by omega) rA HRA.out).mono ?_
      rintro e w4 ⟨⟨vA, rfl, hnA, hsA⟩, hb4⟩
      obtain ⟨pA, cA, qA, mA, rfl, _⟩ := hnA.parts
      have HBT : Hid (w4.heap[w3.heap.size]? = some (.cells #[.int .i64 count, .slice pT data.length cT, .slice qT ws.length mT] 25 (0, 0))) := (hb4.block _ (by rw [World.size_alloc]; exact Nat.lt_succ_self _)).trans (heap_alloc_new w3 _)
      have z4 : w3.heap.size + 1 ≤ w4.heap.size := by have := hb4.size; rw [World.size_alloc] at this; exact this
      have bb3 : Below w3.heap.size w3 w4 := (below_bt (below_alloc w3 (.cells #[.int .i64 count, .slice pT data.length cT, .slice qT ws.length mT] 25)) hb4)
      replace HB : Hid (w4.heap[w.heap.size]? = some (.cells #[.int .i64 count, .slice p data.length c, .slice q ws.length m] 25 (0, 0))) := (bb3.block _ (lt_heap HB.out)).trans HB.out
      replace HO : Hid (w4.heap[(w.heap.size + 1)]? = some (.cells #[.int .i64 count2, .slice p2 data2.length c2, .slice q2 ws2.length m2] 25 (0, 0))) := (bb3.block _ (lt_heap HO.out)).trans HO.out
      replace HD : Hid (DiskIn w4 (.agg #[.int .i64 count, .slice p data.length c, .slice q ws.length m]) count data ws) := HD.out.below bb3
      replace HDO : Hid (DiskIn w4 (.agg #[.int .i64 count2, .slice p2 data2.length c2, .slice q2 ws2.length m2]) count2 data2 ws2) := HDO.out.below bb3
      replace HAL : Hid (ActsIn w4 ql l) := HAL.out.below bb3
      replace HKB : Hid (BoolsIn w4 qk keep) := HKB.out.below bb3
      replace HDT : Hid (DiskIn w4 (.agg #[.int .i64 count, .slice pT data.length cT, .slice qT ws.length mT]) count data ws) := HDT.out.below bb3
      replace b3 : Hid (Since w3 w4) := b3.out.below bb3
      replace hbc : Below w.heap.size w w4 := below_bt hbc bb3
      clear bb3 hb4
      have HDA : Hid (DiskIn w4 (.agg #[.int .i64 (resC count rA), .slice pA (resD rA).length cA, .slice qA (resW rA).length mA]) (resC count rA) (resD rA) (resW rA)) := hnA
      clear hnA
      rw [World.size_alloc] at hsA
      have HSA : Hid (SpoilsE w4 (w3.heap.size + 1) w4.heap.size (.agg #[.int .i64 (resC count rA), .slice pA (resD rA).length cA, .slice qA (resW rA).length mA])) := hsA
      clear hsA
      obtain ⟨x0, x1, x2⟩ := cells3 HB.out
      have xlt := lt_heap HB.out
      go_wp2_with fail
      refine (rdo_u _ count data ws _ (HD.out.below (below_alloc w4 (.cells #[.int .i64 (resC count rA), .slice pA (resD rA).length cA, .slice qA (resW rA).length mA] 25))) ql _ cl l rfl (HAL.out.below (below_alloc w4 (.cells #[.int .i64 (resC count rA), .slice pA (resD rA).length cA, .slice qA (resW rA).length mA] 25))) hlc hlm rA HRA.out).mono ?_
      rintro e w5 ⟨⟨vB, rfl, hnB⟩, hb5⟩
      obtain ⟨pB, cB, qB, mB, rfl, _⟩ := hnB.parts
      clear x0 x1 x2 xlt
      have HBA : Hid (w5.heap[w4.heap.size]? = some (.cells #[.int .i64 (resC count rA), .slice pA (resD rA).length cA, .slice qA (resW rA).length mA] 25 (0, 0))) := (hb5.block _ (by rw [World.size_alloc]; exact Nat.lt_succ_self _)).trans (heap_alloc_new w4 _)
      have z5 : w4.heap.size + 1 ≤ w5.heap.size := by have := hb5.size; rw [World.size_alloc] at this; exact this
      have bb4 : Below w4.heap.size w4 w5 := (below_bt (below_alloc w4 (.cells #[.int .i64 (resC count rA), .slice pA (resD rA).length cA, .slice qA (resW rA).length mA] 25)) hb5)
      replace HB : Hid (w5.heap[w.heap.size]? = some (.cells #[.int .i64 count, .slice p data.length c, .slice q ws.length m] 25 (0, 0))) := (bb4.block _ (lt_heap HB.out)).trans HB.out
      replace HO : Hid (w5.heap[(w.heap.size + 1)]? = some (.cells #[.int .i64 count2, .slice p2 data2.length c2, .slice q2 ws2.length m2] 25 (0, 0))) := (bb4.block _ (lt_heap HO.out)).trans HO.out
      replace HD : Hid (DiskIn w5 (.agg #[.int .i64 count, .slice p data.length c, .slice q ws.length m]) count data ws) := HD.out.below bb4
      replace HDO : Hid (DiskIn w5 (.agg #[.int .i64 count2, .slice p2 data2.length c2, .slice q2 ws2.length m2]) count2 data2 ws2) := HDO.out.below bb4
      replace HAL : Hid (ActsIn w5 ql l) := HAL.out.below bb4
      replace HKB : Hid (BoolsIn w5 qk keep) := HKB.out.below bb4
      replace HDT : Hid (DiskIn w5 (.agg #[.int .i64 count, .slice pT data.length cT, .slice qT ws.length mT]) count data ws) := HDT.out.below bb4
      replace b3 : Hid (Since w3 w5) := b3.out.below bb4
      replace HBT : Hid (w5.heap[w3.heap.size]? = some (.cells #[.int .i64 count, .slice pT data.length cT, .slice qT ws.length mT] 25 (0, 0))) := (bb4.block _ (lt_heap HBT.out)).trans HBT.out
      replace HDA : Hid (DiskIn w5 (.agg #[.int .i64 (resC count rA), .slice pA (resD rA).length cA, .slice qA (resW rA).length mA]) (resC count rA) (resD rA) (resW rA)) := HDA.out.below bb4
      replace HSA : Hid (SpoilsE w5 (w3.heap.size + 1) w4.heap.size (.agg #[.int .i64 (resC count rA), .slice pA (resD rA).length cA, .slice qA (resW rA).length mA])) := HSA.out.below bb4
      replace hbc : Below w.heap.size w w5 := below_bt hbc bb4
      clear bb4 hb5
      have HDB : Hid (DiskIn w5 (.agg #[.int .i64 (resC count rA), .slice pB (resD rA).length cB, .slice qB (resW rA).length mB]) (resC count rA) (resD rA) (resW rA)) := hnB
      clear hnB
      obtain ⟨x0, x1, x2⟩ := cells3 HBT.out
      have xlt := lt_heap HBT.out
      go_wp2_with fail
      refine (flush_u _ count data ws _ (HDT.out.below (below_alloc w5 (.cells #[.int .i64 (resC count rA), .slice pB (resD rA).length cB, .slice qB (resW rA).length mB] 25))) rX HRX.out).mono ?_
      rintro e w6 ⟨⟨vX, rfl, hnX, hsX⟩, hb6⟩
      obtain ⟨pX, cX, qX, mX, rfl, _⟩ := hnX.parts
      clear x0 x1 x2 xlt
      have HBB : Hid (w6.heap[w5.heap.size]? = some (.cells #[.int .i64 (resC count rA), .slice pB (resD rA).length cB, .slice qB (resW rA).length mB] 25 (0, 0))) := (hb6.block _ (by rw [World.size_alloc]; exact Nat.lt_succ_self _)).trans (heap_alloc_new w5 _)
      have z6 : w5.heap.size + 1 ≤ w6.heap.size := by have := hb6.size; rw [World.size_alloc] at this; exact this
      have bb5 : Below w5.heap.size w5 w6 := (below_bt (below_alloc w5 (.cells #[.int .i64 (resC count rA), .slice pB (resD rA).length cB, .slice qB (resW rA).length mB] 25)) hb6)
      replace HB : Hid (w6.heap[w.heap.size]? = some (.cells #[.int .i64 count, .slice p data.length c, .slice q ws.length m] 25 (0, 0))) := (bb5.block _ (lt_heap HB.out)).trans HB.out
      replace HO : Hid (w6.heap[(w.heap.size + 1)]? = some (.cells #[.int .i64 count2, .slice p2 data2.length c2, .slice q2 ws2.length m2] 25 (0, 0))) := (bb5.block _ (lt_heap HO.out)).trans HO.out
      replace HD : Hid (DiskIn w6 (.agg #[.int .i64 count, .slice p data.length c, .slice q ws.length m]) count data ws) := HD.out.below bb5
      replace HDO : Hid (DiskIn w6 (.agg #[.int .i64 count2, .slice p2 data2.length c2, .slice q2 ws2.length m2]) count2 data2 ws2) := HDO.out.below bb5
      replace HAL : Hid (ActsIn w6 ql l) := HAL.out.below bb5
      replace HKB : Hid (BoolsIn w6 qk keep) := HKB.out.below bb5
      replace HDT : Hid (DiskIn w6 (.agg #[.int .i64 count, .slice pT data.length cT, .slice qT ws.length mT]) count data ws) := HDT.out.below bb5
      replace b3 : Hid (Since w3 w6) := b3.out.below bb5
      replace HBT : Hid (w6.heap[w3.heap.size]? = some (.cells #[.int .i64 count, .slice pT data.length cT, .slice qT ws.length mT] 25 (0, 0))) := (bb5.block _ (lt_heap HBT.out)).trans HBT.out
      replace HDA : Hid (DiskIn w6 (.agg #[.int .i64 (resC count rA), .slice pA (resD rA).length cA, .slice qA (resW rA).length mA]) (resC count rA) (resD rA) (resW rA)) := HDA.out.below bb5
      replace HSA : Hid (SpoilsE w6 (w3.heap.size + 1) w4.heap.size (.agg #[.int .i64 (resC count rA), .slice pA (resD rA).length cA, .slice qA (resW rA).length mA])) := HSA.out.below bb5
      replace HBA : Hid (w6.heap[w4.heap.size]? = some (.cells #[.int .i64 (resC count rA), .slice pA (resD rA).length cA, .slice qA (resW rA).length mA] 25 (0, 0))) := (bb5.block _ (lt_heap HBA.out)).trans HBA.out
      replace HDB : Hid (DiskIn w6 (.agg #[.int .i64 (resC count rA), .slice pB (resD rA).length cB, .slice qB (resW rA).length mB]) (resC count rA) (resD rA) (resW rA)) := HDB.out.below bb5
      replace hbc : Below w.heap.size w w6 := below_bt hbc bb5
      clear bb5 hb6
      have HDX : Hid (DiskIn w6 (.agg #[.int .i64 (resC count rX), .slice pX (resD rX).length cX, .slice qX (resW rX).length mX]) (resC count rX) (resD rX) (resW rX)) := hnX
      clear hnX
      rw [World.size_alloc] at hsX
      have HSX : Hid (SpoilsE w6 (w5.heap.size + 1) w6.heap.size (.agg #[.int .i64 (resC count rX), .slice pX (resD rX).length cX, .slice qX (resW rX).length mX])) := hsX
      clear hsX
      obtain ⟨x0, x1, x2⟩ := cells3 HB.out
      have xlt := lt_heap HB.out
      go_wp2_with fail
      refine (rflush_u _ count data ws _ (HD.out.below (below_alloc w6 (.cells #[.int .i64 (resC count rX), .slice pX (resD rX).length cX, .slice qX (resW rX).length mX] 25))) rX HRX.out).mono ?_
      rintro e w7 ⟨⟨vY, rfl, hnY⟩, hb7⟩
      obtain ⟨pY, cY, qY, mY, rfl, _⟩ := hnY.parts
      clear x0 x1 x2 xlt
      have HBX : Hid (w7.heap[w6.heap.size]? = some (.cells #[.int .i64 (resC count rX), .slice pX (resD rX).length cX, .slice qX (resW rX).length mX] 25 (0, 0))) := (hb7.block _ (by rw [World.size_alloc]; exact Nat.lt_succ_self _)).trans (heap_alloc_new w6 _)
      have z7 : w6.heap.size + 1 ≤ w7.heap.size := by have := hb7.size; rw [World.size_alloc] at this; exact this
      have bb6 : Below w6.heap.size w6 w7 := (below_bt (below_alloc w6 (.cells #[.int .i64 (resC count rX), .slice pX (resD rX).length cX, .slice qX (resW rX).length mX] 25)) hb7)
      replace HB : Hid (w7.heap[w.heap.size]? = some (.cells #[.int .i64 count, .slice p data.length c, .slice q ws.length m] 25 (0, 0))) := (bb6.block _ (lt_heap HB.out)).trans HB.out
      replace HO : Hid (w7.heap[(w.heap.size + 1)]? = some (.cells #[.int .i64 count2, .slice p2 data2.length c2, .slice q2 ws2.length m2] 25 (0, 0))) := (bb6.block _ (lt_heap HO.out)).trans HO.out
      replace HD : Hid (DiskIn w7 (.agg #[.int .i64 count, .slice p data.length c, .slice q ws.length m]) count data ws) := HD.out.below bb6
      replace HDO : Hid (DiskIn w7 (.agg #[.int .i64 count2, .slice p2 data2.length c2, .slice q2 ws2.length m2]) count2 data2 ws2) := HDO.out.below bb6
      replace HAL : Hid (ActsIn w7 ql l) := HAL.out.below bb6
      replace HKB : Hid (BoolsIn w7 qk keep) := HKB.out.below bb6
      replace HDT : Hid (DiskIn w7 (.agg #[.int .i64 count, .slice pT data.length cT, .slice qT ws.length mT]) count data ws) := HDT.out.below bb6
      replace b3 : Hid (Since w3 w7) := b3.out.below bb6
      replace HBT : Hid (w7.heap[w3.heap.size]? = some (.cells #[.int .i64 count, .slice pT data.length cT, .slice qT ws.length mT] 25 (0, 0))) := (bb6.block _ (lt_heap HBT.out)).trans HBT.out
      replace HDA : Hid (DiskIn w7 (.agg #[.int .i64 (resC count rA), .slice pA (resD rA).length cA, .slice qA (resW rA).length mA]) (resC count rA) (resD rA) (resW rA)) := HDA.out.below bb6
      replace HSA : Hid (SpoilsE w7 (w3.heap.size + 1) w4.heap.size (.agg #[.int .i64 (resC count rA), .slice pA (resD rA).length cA, .slice qA (resW rA).length mA])) := HSA.out.below bb6
      replace HBA : Hid (w7.heap[w4.heap.size]? = some (.cells #[.int .i64 (resC count rA), .slice pA (resD rA).length cA, .slice qA (resW rA).length mA] 25 (0, 0))) := (bb6.block _ (lt_heap HBA.out)).trans HBA.out
      replace HDB : Hid (DiskIn w7 (.agg #[.int .i64 (resC count rA), .slice pB (resD rA).length cB, .slice qB (resW rA).length mB]) (resC count rA) (resD rA) (resW rA)) := HDB.out.below bb6
      replace HBB : Hid (w7.heap[w5.heap.size]? = some (.cells #[.int .i64 (resC count rA), .slice pB (resD rA).length cB, .slice qB (resW rA).length mB] 25 (0, 0))) := (bb6.block _ (lt_heap HBB.out)).trans HBB.out
      replace HDX : Hid (DiskIn w7 (.agg #[.int .i64 (resC count rX), .slice pX (resD rX).length cX, .slice qX (resW rX).length mX]) (resC count rX) (resD rX) (resW rX)) := HDX.out.below bb6
      replace HSX : Hid (SpoilsE w7 (w5.heap.size + 1) w6.heap.size (.agg #[.int .i64 (resC count rX), .slice pX (resD rX).length cX, .slice qX (resW rX).length mX])) := HSX.out.below bb6
      replace hbc : Below w.heap.size w w7 := below_bt hbc bb6
      clear bb6 hb7
      have HDY : Hid (DiskIn w7 (.agg #[.int .i64 (resC count rX), .slice pY (resD rX).length cY, .slice qY (resW rX).length mY]) (resC count rX) (resD rX) (resW rX)) := hnY
      clear hnY
      obtain ⟨x0, x1, x2⟩ := cells3 HBT.out
      have xlt := lt_heap HBT.out
      go_wp2_with fail
      refine (crash_u _ count data ws _ (HDT.out.below (below_alloc w7 (.cells #[.int .i64 (resC count rX), .slice pY (resD rX).length cY, .slice qY (resW rX).length mY] 25))) qk _ ck keep rfl (HKB.out.below (below_alloc w7 (.cells #[.int .i64 (resC count rX), .slice pY (resD rX).length cY, .slice qY (resW rX).length mY] 25))) (by omega) rP HRP.out).mono ?_
      rintro e w8 ⟨⟨vP, rfl, hnP, hsP⟩, hb8⟩
      obtain ⟨pP, cP, qP, mP, rfl, _⟩ := hnP.parts
      clear x0 x1 x2 xlt
      have HBY : Hid (w8.heap[w7.heap.size]? = some (.cells #[.int .i64 (resC count rX), .slice pY (resD rX).length cY, .slice qY (resW rX).length mY] 25 (0, 0))) := (hb8.block _ (by rw [World.size_alloc]; exact Nat.lt_succ_self _)).trans (heap_alloc_new w7 _)
      have z8 : w7.heap.size + 1 ≤ w8.heap.size := by have := hb8.size; rw [World.size_alloc] at this; exact this
      have bb7 : Below w7.heap.size w7 w8 := (below_bt (below_alloc w7 (.cells #[.int .i64 (resC count rX), .slice pY (resD rX).length cY, .slice qY (resW rX).length mY] 25)) hb8)
      replace HB : Hid (w8.heap[w.heap.size]? = some (.cells #[.int .i64 count, .slice p data.length c, .slice q ws.length m] 25 (0, 0))) := (bb7.block _ (lt_heap HB.out)).trans HB.out
      replace HO : Hid (w8.heap[(w.heap.size + 1)]? = some (.cells #[.int .i64 count2, .slice p2 data2.length c2, .slice q2 ws2.length m2] 25 (0, 0))) := (bb7.block _ (lt_heap HO.out)).trans HO.out
      replace HD : Hid (DiskIn w8 (.agg #[.int .i64 count, .slice p data.length c, .slice q ws.length m]) count data ws) := HD.out.below bb7
      replace HDO : Hid (DiskIn w8 (.agg #[.int .i64 count2, .slice p2 data2.length c2, .slice q2 ws2.length m2]) count2 data2 ws2) := HDO.out.below bb7
      replace HAL : Hid (ActsIn w8 ql l) := HAL.out.below bb7
      replace HKB : Hid (BoolsIn w8 qk keep) := HKB.out.below bb7
      replace HDT : Hid (DiskIn w8 (.agg #[.int .i64 count, .slice pT data.length cT, .slice qT ws.length mT]) count data ws) := HDT.out.below bb7
      replace b3 : Hid (Since w3 w8) := b3.out.below bb7
      replace HBT : Hid (w8.heap[w3.heap.size]? = some (.cells #[.int .i64 count, .slice pT data.length cT, .slice qT ws.length mT] 25 (0, 0))) := (bb7.block _ (lt_heap HBT.out)).trans HBT.out
      replace HDA : Hid (DiskIn w8 (.agg #[.int .i64 (resC count rA), .slice pA (resD rA).length cA, .slice qA (resW rA).length mA]) (resC count rA) (resD rA) (resW rA)) := HDA.out.below bb7
      replace HSA : Hid (SpoilsE w8 (w3.heap.size + 1) w4.heap.size (.agg #[.int .i64 (resC count rA), .slice pA (resD rA).length cA, .slice qA (resW rA).length mA])) := HSA.out.below bb7
      replace HBA : Hid (w8.heap[w4.heap.size]? = some (.cells #[.int .i64 (resC count rA), .slice pA (resD rA).length cA, .slice qA (resW rA).length mA] 25 (0, 0))) := (bb7.block _ (lt_heap HBA.out)).trans HBA.out
      replace HDB : Hid (DiskIn w8 (.agg #[.int .i64 (resC count rA), .slice pB (resD rA).length cB, .slice qB (resW rA).length mB]) (resC count rA) (resD rA) (resW rA)) := HDB.out.below bb7
      replace HBB : Hid (w8.heap[w5.heap.size]? = some (.cells #[.int .i64 (resC count rA), .slice pB (resD rA).length cB, .slice qB (resW rA).length mB] 25 (0, 0))) := (bb7.block _ (lt_heap HBB.out)).trans HBB.out
      replace HDX : Hid (DiskIn w8 (.agg #[.int .i64 (resC count rX), .slice pX (resD rX).length cX, .slice qX (resW rX).length mX]) (resC count rX) (resD rX) (resW rX)) := HDX.out.below bb7
      replace HSX : Hid (SpoilsE w8 (w5.heap.size + 1) w6.heap.size (.agg #[.int .i64 (resC count rX), .slice pX (resD rX).length cX, .slice qX (resW rX).length mX])) := HSX.out.below bb7
      replace HBX : Hid (w8.heap[w6.heap.size]? = some (.cells #[.int .i64 (resC count rX), .slice pX (resD rX).length cX, .slice qX (resW rX).length mX] 25 (0, 0))) := (bb7.block _ (lt_heap HBX.out)).trans HBX.out
      replace HDY : Hid (DiskIn w8 (.agg #[.int .i64 (resC count rX), .slice pY (resD rX).length cY, .slice qY (resW rX).length mY]) (resC count rX) (resD rX) (resW rX)) := HDY.out.below bb7
      replace hbc : Below w.heap.size w w8 := below_bt hbc bb7
      clear bb7 hb8
      have HDP : Hid (DiskIn w8 (.agg #[.int .i64 (resC count rP), .slice pP (resD rP).length cP, .slice qP (resW rP).length mP]) (resC count rP) (resD rP) (resW rP)) := hnP
      clear hnP
      rw [World.size_alloc] at hsP
      have HSP : Hid (SpoilsE w8 (w7.heap.size + 1) w8.heap.size (.agg #[.int .i64 (resC count rP), .slice pP (resD rP).length cP, .slice qP (resW rP).length mP])) := hsP
      clear hsP
      obtain ⟨x0, x1, x2⟩ := cells3 HB.out
      have xlt := lt_heap HB.out
      go_wp2_with fail
      refine (rcrash_u _ count data ws _ (HD.out.below (below_alloc w8 (.cells #[.int .i64 (resC count rP), .slice pP (resD rP).length cP, .slice qP (resW rP).length mP] 25))) qk _ ck keep rfl (HKB.out.below (below_alloc w8 (.cells #[.int .i64 (resC count rP), .slice pP (resD rP).length cP, .slice qP (resW rP).length mP] 25))) (by omega) rP HRP.out).mono ?_
      rintro e w9 ⟨⟨vQ, rfl, hnQ⟩, hb9⟩
      obtain ⟨pQ, cQ, qQ, mQ, rfl, _⟩ := hnQ.parts
      clear x0 x1 x2 xlt
      have HBP : Hid (w9.heap[w8.heap.size]? = some (.cells #[.int .i64 (resC count rP), .slice pP (resD rP).length cP, .slice qP (resW rP).length mP] 25 (0, 0))) := (hb9.block _ (by rw [World.size_alloc]; exact Nat.lt_succ_self _)).trans (heap_alloc_new w8 _)
      have z9 : w8.heap.size + 1 ≤ w9.heap.size := by have := hb9.size; rw [World.size_alloc] at this; exact this
      have bb8 : Below w8.heap.size w8 w9 := (below_bt (below_alloc w8 (.cells #[.int .i64 (resC count rP), .slice pP (resD rP).length cP, .slice qP (resW rP).length mP] 25)) hb9)
      replace HB : Hid (w9.heap[w.heap.size]? = some (.cells #[.int .i64 count, .slice p data.length c, .slice q ws.length m] 25 (0, 0))) := (bb8.block _ (lt_heap HB.out)).trans HB.out
      replace HO : Hid (w9.heap[(w.heap.size + 1)]? = some (.cells #[.int .i64 count2, .slice p2 data2.length c2, .slice q2 ws2.length m2] 25 (0, 0))) := (bb8.block _ (lt_heap HO.out)).trans HO.out
      replace HD : Hid (DiskIn w9 (.agg #[.int .i64 count, .slice p data.length c, .slice q ws.length m]) count data ws) := HD.out.below bb8
      replace HDO : Hid (DiskIn w9 (.agg #[.int .i64 count2, .slice p2 data2.length c2, .slice q2 ws2.length m2]) count2 data2 ws2) := HDO.out.below bb8
      replace HAL : Hid (ActsIn w9 ql l) := HAL.out.below bb8
      replace HKB : Hid (BoolsIn w9 qk keep) := HKB.out.below bb8
      replace HDT : Hid (DiskIn w9 (.agg #[.int .i64 count, .slice pT data.length cT, .slice qT ws.length mT]) count data ws) := HDT.out.below bb8
      replace b3 : Hid (Since w3 w9) := b3.out.below bb8
      replace HBT : Hid (w9.heap[w3.heap.size]? = some (.cells #[.int .i64 count, .slice pT data.length cT, .slice qT ws.length mT] 25 (0, 0))) := (bb8.block _ (lt_heap HBT.out)).trans HBT.out
      replace HDA : Hid (DiskIn w9 (.agg #[.int .i64 (resC count rA), .slice pA (resD rA).length cA, .slice qA (resW rA).length mA]) (resC count rA) (resD rA) (resW rA)) := HDA.out.below bb8
      replace HSA : Hid (SpoilsE w9 (w3.heap.size + 1) w4.heap.size (.agg #[.int .i64 (resC count rA), .slice pA (resD rA).length cA, .slice qA (resW rA).length mA])) := HSA.out.below bb8
      replace HBA : Hid (w9.heap[w4.heap.size]? = some (.cells #[.int .i64 (resC count rA), .slice pA (resD rA).length cA, .slice qA (resW rA).length mA] 25 (0, 0))) := (bb8.block _ (lt_heap HBA.out)).trans HBA.out
      replace HDB : Hid (DiskIn w9 (.agg #[.int .i64 (resC count rA), .slice pB (resD rA).length cB, .slice qB (resW rA).length mB]) (resC count rA) (resD rA) (resW rA)) := HDB.out.below bb8
      replace HBB : Hid (w9.heap[w5.heap.size]? = some (.cells #[.int .i64 (resC count rA), .slice pB (resD rA).length cB, .slice qB (resW rA).length mB] 25 (0, 0))) := (bb8.block _ (lt_heap HBB.out)).trans HBB.out
      replace HDX : Hid (DiskIn w9 (.agg #[.int .i64 (resC count rX), .slice pX (resD rX).length cX, .slice qX (resW rX).length mX]) (resC count rX) (resD rX) (resW rX)) := HDX.out.below bb8
      replace HSX : Hid (SpoilsE w9 (w5.heap.size + 1) w6.heap.size (.agg #[.int .i64 (resC count rX), .slice pX (resD rX).length cX, .slice qX (resW rX).length mX])) := HSX.out.below bb8
      replace HBX : Hid (w9.heap[w6.heap.size]? = some (.cells #[.int .i64 (resC count rX), .slice pX (resD rX).length cX, .slice qX (resW rX).length mX] 25 (0, 0))) := (bb8.block _ (lt_heap HBX.out)).trans HBX.out
      replace HDY : Hid (DiskIn w9 (.agg #[.int .i64 (resC count rX), .slice pY (resD rX).length cY, .slice qY (resW rX).length mY]) (resC count rX) (resD rX) (resW rX)) := HDY.out.below bb8
      replace HBY : Hid (w9.heap[w7.heap.size]? = some (.cells #[.int .i64 (resC count rX), .slice pY (resD rX).length cY, .slice qY (resW rX).length mY] 25 (0, 0))) := (bb8.block _ (lt_heap HBY.out)).trans HBY.out
      replace HDP : Hid (DiskIn w9 (.agg #[.int .i64 (resC count rP), .slice pP (resD rP).length cP, .slice qP (resW rP).length mP]) (resC count rP) (resD rP) (resW rP)) := HDP.out.below bb8
      replace HSP : Hid (SpoilsE w9 (w7.heap.size + 1) w8.heap.size (.agg #[.int .i64 (resC count rP), .slice pP (resD rP).length cP, .slice qP (resW rP).length mP])) := HSP.out.below bb8
      replace hbc : Below w.heap.size w w9 := below_bt hbc bb8
      clear bb8 hb9
      have HDQ : Hid (DiskIn w9 (.agg #[.int .i64 (resC count rP), .slice pQ (resD rP).length cQ, .slice qQ (resW rP).length mQ]) (resC count rP) (resD rP) (resW rP)) := hnQ
      clear hnQ
      go_wp2
      obtain ⟨W, hW⟩ : ∃ W, W = w9.alloc (.cells #[.int .i64 (resC count rP), .slice pQ (resD rP).length cQ, .slice qQ (resW rP).length mQ] 25) := ⟨_, rfl⟩
      have hbW := below_alloc w9 (.cells #[.int .i64 (resC count rP), .slice pQ (resD rP).length cQ, .slice qQ (resW rP).length mQ] 25)
      have HBQ : Hid (W.heap[w9.heap.size]? = some (.cells #[.int .i64 (resC count rP), .slice pQ (resD rP).length cQ, .slice qQ (resW rP).length mQ] 25 (0, 0))) := by rw [hW]; exact heap_alloc_new _ _
      have zW : w9.heap.size + 1 ≤ W.heap.size := by rw [hW, World.size_alloc]; exact Nat.le_refl _
      rw [← hW] at hbW ⊢
      clear hW
      have bb9 : Below w9.heap.size w9 W := hbW
      replace HB : Hid (W.heap[w.heap.size]? = some (.cells #[.int .i64 count, .slice p data.length c, .slice q ws.length m] 25 (0, 0))) := (bb9.block _ (lt_heap HB.out)).trans HB.out
      replace HO : Hid (W.heap[(w.heap.size + 1)]? = some (.cells #[.int .i64 count2, .slice p2 data2.length c2, .slice q2 ws2.length m2] 25 (0, 0))) := (bb9.block _ (lt_heap HO.out)).trans HO.out
      replace HD : Hid (DiskIn W (.agg #[.int .i64 count, .slice p data.length c, .slice q ws.length m]) count data ws) := HD.out.below bb9
      replace HDO : Hid (DiskIn W (.agg #[.int .i64 count2, .slice p2 data2.length c2, .slice q2 ws2.length m2]) count2 data2 ws2) := HDO.out.below bb9
      replace HAL : Hid (ActsIn W ql l) := HAL.out.below bb9
      replace HKB : Hid (BoolsIn W qk keep) := HKB.out.below bb9
      replace HDT : Hid (DiskIn W (.agg #[.int .i64 count, .slice pT data.length cT, .slice qT ws.length mT]) count data ws) := HDT.out.below bb9
      replace b3 : Hid (Since w3 W) := b3.out.below bb9
      replace HBT : Hid (W.heap[w3.heap.size]? = some (.cells #[.int .i64 count, .slice pT data.length cT, .slice qT ws.length mT] 25 (0, 0))) := (bb9.block _ (lt_heap HBT.out)).trans HBT.out
      replace HDA : Hid (DiskIn W (.agg #[.int .i64 (resC count rA), .slice pA (resD rA).length cA, .slice qA (resW rA).length mA]) (resC count rA) (resD rA) (resW rA)) := HDA.out.below bb9
      replace HSA : Hid (SpoilsE W (w3.heap.size + 1) w4.heap.size (.agg #[.int .i64 (resC count rA), .slice pA (resD rA).length cA, .slice qA (resW rA).length mA])) := HSA.out.below bb9
      replace HBA : Hid (W.heap[w4.heap.size]? = some (.cells #[.int .i64 (resC count rA), .slice pA (resD rA).length cA, .slice qA (resW rA).length mA] 25 (0, 0))) := (bb9.block _ (lt_heap HBA.out)).trans HBA.out
      replace HDB : Hid (DiskIn W (.agg #[.int .i64 (resC count rA), .slice pB (resD rA).length cB, .slice qB (resW rA).length mB]) (resC count rA) (resD rA) (resW rA)) := HDB.out.below bb9
      replace HBB : Hid (W.heap[w5.heap.size]? = some (.cells #[.int .i64 (resC count rA), .slice pB (resD rA).length cB, .slice qB (resW rA).length mB] 25 (0, 0))) := (bb9.block _ (lt_heap HBB.out)).trans HBB.out
      replace HDX : Hid (DiskIn W (.agg #[.int .i64 (resC count rX), .slice pX (resD rX).length cX, .slice qX (resW rX).length mX]) (resC count rX) (resD rX) (resW rX)) := HDX.out.below bb9
      replace HSX : Hid (SpoilsE W (w5.heap.size + 1) w6.heap.size (.agg #[.int .i64 (resC count rX), .slice pX (resD rX).length cX, .slice qX (resW rX).length mX])) := HSX.out.below bb9
      replace HBX : Hid (W.heap[w6.heap.size]? = some (.cells #[.int .i64 (resC count rX), .slice pX (resD rX).length cX, .slice qX (resW rX).length mX] 25 (0, 0))) := (bb9.block _ (lt_heap HBX.out)).trans HBX.out
      replace HDY : Hid (DiskIn W (.agg #[.int .i64 (resC count rX), .slice pY (resD rX).length cY, .slice qY (resW rX).length mY]) (resC count rX) (resD rX) (resW rX)) := HDY.out.below bb9
      replace HBY : Hid (W.heap[w7.heap.size]? = some (.cells #[.int .i64 (resC count rX), .slice pY (resD rX).length cY, .slice qY (resW rX).length mY] 25 (0, 0))) := (bb9.block _ (lt_heap HBY.out)).trans HBY.out
      replace HDP : Hid (DiskIn W (.agg #[.int .i64 (resC count rP), .slice pP (resD rP).length cP, .slice qP (resW rP).length mP]) (resC count rP) (resD rP) (resW rP)) := HDP.out.below bb9
      replace HSP : Hid (SpoilsE W (w7.heap.size + 1) w8.heap.size (.agg #[.int .i64 (resC count rP), .slice pP (resD rP).length cP, .slice qP (resW rP).length mP])) := HSP.out.below bb9
      replace HBP : Hid (W.heap[w8.heap.size]? = some (.cells #[.int .i64 (resC count rP), .slice pP (resD rP).length cP, .slice qP (resW rP).length mP] 25 (0, 0))) := (bb9.block _ (lt_heap HBP.out)).trans HBP.out
      replace HDQ : Hid (DiskIn W (.agg #[.int .i64 (resC count rP), .slice pQ (resD rP).length cQ, .slice qQ (resW rP).length mQ]) (resC count rP) (resD rP) (resW rP)) := HDQ.out.below bb9
      replace hbc : Below w.heap.size w W := below_bt hbc bb9
      clear bb9 hbW
      have HKeep : Hid (∀ w', Below W.heap.size W w' → (w'.cell? ⟨w.heap.size, 0, none⟩ = some (.int .i64 count) ∧ w'.cell? ⟨w.heap.size, 1, none⟩ = some (.slice p data.length c) ∧ w'.cell? ⟨w.heap.size, 2, none⟩ = some (.slice q ws.length m)) ∧ (w'.cell? ⟨(w.heap.size + 1), 0, none⟩ = some (.int .i64 count2) ∧ w'.cell? ⟨(w.heap.size + 1), 1, none⟩ = some (.slice p2 data2.length c2) ∧ w'.cell? ⟨(w.heap.size + 1), 2, none⟩ = some (.slice q2 ws2.length m2)) ∧ (w'.cell? ⟨w3.heap.size, 0, none⟩ = some (.int .i64 count) ∧ w'.cell? ⟨w3.heap.size, 1, none⟩ = some (.slice pT data.length cT) ∧ w'.cell? ⟨w3.heap.size, 2, none⟩ = some (.slice qT ws.length mT)) ∧ (w'.cell? ⟨w4.heap.size, 0, none⟩ = some (.int .i64 (resC count rA)) ∧ w'.cell? ⟨w4.heap.size, 1, none⟩ = some (.slice pA (resD rA).length cA) ∧ w'.cell? ⟨w4.heap.size, 2, none⟩ = some (.slice qA (resW rA).length mA)) ∧ (w'.cell? ⟨w5.heap.size, 0, none⟩ = some (.int .i64 (resC count rA)) ∧ w'.cell? ⟨w5.heap.size, 1, none⟩ = some (.slice pB (resD rA).length cB) ∧ w'.cell? ⟨w5.heap.size, 2, none⟩ = some (.slice qB (resW rA).length mB)) ∧ (w'.cell? ⟨w6.heap.size, 0, none⟩ = some (.int .i64 (resC count rX)) ∧ w'.cell? ⟨w6.heap.size, 1, none⟩ = some (.slice pX (resD rX).length cX) ∧ w'.cell? ⟨w6.heap.size, 2, none⟩ = some (.slice qX (resW rX).length mX)) ∧ (w'.cell? ⟨w7.heap.size, 0, none⟩ = some (.int .i64 (resC count rX)) ∧ w'.cell? ⟨w7.heap.size, 1, none⟩ = some (.slice pY (resD rX).length cY) ∧ w'.cell? ⟨w7.heap.size, 2, none⟩ = some (.slice qY (resW rX).length mY)) ∧ (w'.cell? ⟨w8.heap.size, 0, none⟩ = some (.int .i64 (resC count rP)) ∧ w'.cell? ⟨w8.heap.size, 1, none⟩ = some (.slice pP (resD rP).length cP) ∧ w'.cell? ⟨w8.heap.size, 2, none⟩ = some (.slice qP (resW rP).length mP)) ∧ (w'.cell? ⟨w9.heap.size, 0, none⟩ = some (.int .i64 (resC count rP)) ∧ w'.cell? ⟨w9.heap.size, 1, none⟩ = some (.slice pQ (resD rP).length cQ) ∧ w'.cell? ⟨w9.heap.size, 2, none⟩ = some (.slice qQ (resW rP).length mQ)) ∧ Hid (Below W.heap.size W w')) := by
        intro w' hb
        exact ⟨cells3 ((hb.block _ (lt_heap HB.out)).trans HB.out), cells3 ((hb.block _ (lt_heap HO.out)).trans HO.out), cells3 ((hb.block _ (lt_heap HBT.out)).trans HBT.out), cells3 ((hb.block _ (lt_heap HBA.out)).trans HBA.out), cells3 ((hb.block _ (lt_heap HBB.out)).trans HBB.out), cells3 ((hb.block _ (lt_heap HBX.out)).trans HBX.out), cells3 ((hb.block _ (lt_heap HBY.out)).trans HBY.out), cells3 ((hb.block _ (lt_heap HBP.out)).trans HBP.out), cells3 ((hb.block _ (lt_heap HBQ.out)).trans HBQ.out), hb⟩
      have herA : (resE rA != resE rA) = false := by simp
      have herX : (resE rX != resE rX) = false := by simp
      have herP : (resE rP != resE rP) = false := by simp
      have hbb : (bS != bS) = false := by simp
      refine wp_region_noPanic ?_
      refine wp_region_held_drew (S := fun w' => (w'.cell? ⟨w.heap.size, 0, none⟩ = some (.int .i64 count) ∧ w'.cell? ⟨w.heap.size, 1, none⟩ = some (.slice p data.length c) ∧ w'.cell? ⟨w.heap.size, 2, none⟩ = some (.slice q ws.length m)) ∧ (w'.cell? ⟨(w.heap.size + 1), 0, none⟩ = some (.int .i64 count2) ∧ w'.cell? ⟨(w.heap.size + 1), 1, none⟩ = some (.slice p2 data2.length c2) ∧ w'.cell? ⟨(w.heap.size + 1), 2, none⟩ = some (.slice q2 ws2.length m2)) ∧ (w'.cell? ⟨w3.heap.size, 0, none⟩ = some (.int .i64 count) ∧ w'.cell? ⟨w3.heap.size, 1, none⟩ = some (.slice pT data.length cT) ∧ w'.cell? ⟨w3.heap.size, 2, none⟩ = some (.slice qT ws.length mT)) ∧ (w'.cell? ⟨w4.heap.size, 0, none⟩ = some (.int .i64 (resC count rA)) ∧ w'.cell? ⟨w4.heap.size, 1, none⟩ = some (.slice pA (resD rA).length cA) ∧ w'.cell? ⟨w4.heap.size, 2, none⟩ = some (.slice qA (resW rA).length mA)) ∧ (w'.cell? ⟨w5.heap.size, 0, none⟩ = some (.int .i64 (resC count rA)) ∧ w'.cell? ⟨w5.heap.size, 1, none⟩ = some (.slice pB (resD rA).length cB) ∧ w'.cell? ⟨w5.heap.size, 2, none⟩ = some (.slice qB (resW rA).length mB)) ∧ (w'.cell? ⟨w6.heap.size, 0, none⟩ = some (.int .i64 (resC count rX)) ∧ w'.cell? ⟨w6.heap.size, 1, none⟩ = some (.slice pX (resD rX).length cX) ∧ w'.cell? ⟨w6.heap.size, 2, none⟩ = some (.slice qX (resW rX).length mX)) ∧ (w'.cell? ⟨w7.heap.size, 0, none⟩ = some (.int .i64 (resC count rX)) ∧ w'.cell? ⟨w7.heap.size, 1, none⟩ = some (.slice pY (resD rX).length cY) ∧ w'.cell? ⟨w7.heap.size, 2, none⟩ = some (.slice qY (resW rX).length mY)) ∧ (w'.cell? ⟨w8.heap.size, 0, none⟩ = some (.int .i64 (resC count rP)) ∧ w'.cell? ⟨w8.heap.size, 1, none⟩ = some (.slice pP (resD rP).length cP) ∧ w'.cell? ⟨w8.heap.size, 2, none⟩ = some (.slice qP (resW rP).length mP)) ∧ (w'.cell? ⟨w9.heap.size, 0, none⟩ = some (.int .i64 (resC count rP)) ∧ w'.cell? ⟨w9.heap.size, 1, none⟩ = some (.slice pQ (resD rP).length cQ) ∧ w'.cell? ⟨w9.heap.size, 2, none⟩ = some (.slice qQ (resW rP).length mQ)) ∧ Hid (Below W.heap.size W w')) (by kernel_rfl) (HKeep.out _ ((Below.refl _ _).drew)) (fun hS0 => ?_)
      refine takeH 0 89 (v := ?_) rfl rfl (by kernel_rfl) (by kernel_rfl) (by kernel_rfl) (fun _ _ _ h => h) (by rfl) ?_ (by assumption) ?_
      rotate_left
      · intro w hSw; go_simp; first | done | with_reducible rfl
      simp only [Act.put, List.setIfInBounds_toArray, List.set_cons_zero, List.set_cons_succ]
      refine takeH 1 90 (v := ?_) rfl rfl (by kernel_rfl) (by kernel_rfl) (by kernel_rfl) (fun _ _ _ h => h) (by rfl) ?_ (by assumption) ?_
      rotate_left
      · intro w hSw; go_simp; first | done | with_reducible rfl
      simp only [Act.put, List.setIfInBounds_toArray, List.set_cons_zero, List.set_cons_succ]
      refine takeH 2 91 (v := ?_) rfl rfl (by kernel_rfl) (by kernel_rfl) (by kernel_rfl) (fun _ _ _ h => h) (by rfl) ?_ (by assumption) ?_
      rotate_left
      · intro w hSw; go_simp; first | done | with_reducible rfl
      simp only [Act.put, List.setIfInBounds_toArray, List.set_cons_zero, List.set_cons_succ]
      refine takeH 3 92 (v := ?_) rfl rfl (by kernel_rfl) (by kernel_rfl) (by kernel_rfl) (fun _ _ _ h => h) (by rfl) ?_ (by assumption) ?_
      rotate_left
      · intro w hSw; go_simp; first | done | with_reducible rfl
      simp only [Act.put, List.setIfInBounds_toArray, List.set_cons_zero, List.set_cons_succ]
      refine takeH 4 93 (v := ?_) rfl rfl (by kernel_rfl) (by kernel_rfl) (by kernel_rfl) (fun _ _ _ h => h) (by rfl) ?_ (by assumption) ?_
      rotate_left
      · intro w hSw; go_simp; first | done | with_reducible rfl
      simp only [Act.put, List.setIfInBounds_toArray, List.set_cons_zero, List.set_cons_succ]
      refine takeH 5 94 (v := ?_) rfl rfl (by kernel_rfl) (by kernel_rfl) (by kernel_rfl) (fun _ _ _ h => h) (by rfl) ?_ (by assumption) ?_
      rotate_left
      · intro w hSw; go_simp; first | done | with_reducible rfl
      simp only [Act.put, List.setIfInBounds_toArray, List.set_cons_zero, List.set_cons_succ]
      refine wpAnyH_ready (rs := [6]) (by kernel_rfl) (by simp) ?_
      refine AllReadyH.cons rfl (fun K hK => ?_) AllReadyH.nil
      go_simp
      refine (rsame_any _ _ _ _ _ _ _ _ _ (HDA.out.below hS0.2.2.2.2.2.2.2.2.2.out) (HDB.out.below hS0.2.2.2.2.2.2.2.2.2.out) true ⟨fun _ => ⟨rfl, rfl, rfl⟩, fun _ => rfl⟩).mono ?_
      rintro e wl1 ⟨rfl, hb1⟩
      go_simp
      refine hK.out _ _ (HKeep.out _ (below_bt hS0.2.2.2.2.2.2.2.2.2.out hb1)) (fun hS1 => ?_)
      clear hK K
      refine takeH 7 96 (v := ?_) rfl rfl (by kernel_rfl) (by kernel_rfl) (by kernel_rfl) (fun _ _ _ h => h) (by rfl) ?_ (by assumption) ?_
      rotate_left
      · intro w hSw; go_simp; first | done | with_reducible rfl
      simp only [Act.put, List.setIfInBounds_toArray, List.set_cons_zero, List.set_cons_succ]
      refine takeH 8 97 (v := ?_) rfl rfl (by kernel_rfl) (by kernel_rfl) (by kernel_rfl) (fun _ _ _ h => h) (by rfl) ?_ (by assumption) ?_
      rotate_left
      · intro w hSw; go_simp; first | done | with_reducible rfl
      simp only [Act.put, List.setIfInBounds_toArray, List.set_cons_zero, List.set_cons_succ]
      refine takeH 9 98 (v := ?_) rfl rfl (by kernel_rfl) (by kernel_rfl) (by kernel_rfl) (fun _ _ _ h => h) (by rfl) ?_ (by assumption) ?_
      rotate_left
      · intro w hSw; go_simp; first | done | with_reducible rfl
      simp only [Act.put, List.setIfInBounds_toArray, List.set_cons_zero, List.set_cons_succ]
      refine takeH 10 99 (v := ?_) rfl rfl (by kernel_rfl) (by kernel_rfl) (by kernel_rfl) (fun _ _ _ h => h) (by rfl) ?_ (by assumption) ?_
      rotate_left
      · intro w hSw; go_simp; first | done | with_reducible rfl
      simp only [Act.put, List.setIfInBounds_toArray, List.set_cons_zero, List.set_cons_succ]
      refine takeH 11 100 (v := ?_) rfl rfl (by kernel_rfl) (by kernel_rfl) (by kernel_rfl) (fun _ _ _ h => h) (by rfl) ?_ (by assumption) ?_
      rotate_left
      · intro w hSw; go_simp; first | done | with_reducible rfl
      simp only [Act.put, List.setIfInBounds_toArray, List.set_cons_zero, List.set_cons_succ]
      refine takeH 12 101 (v := ?_) rfl rfl (by kernel_rfl) (by kernel_rfl) (by kernel_rfl) (fun _ _ _ h => h) (by rfl) ?_ (by assumption) ?_
      rotate_left
      · intro w hSw; go_simp; first | done | with_reducible rfl
      simp only [Act.put, List.setIfInBounds_toArray, List.set_cons_zero, List.set_cons_succ]
      refine takeH 13 102 (v := ?_) rfl rfl (by kernel_rfl) (by kernel_rfl) (by kernel_rfl) (fun _ _ _ h => h) (by rfl) ?_ (by assumption) ?_
      rotate_left
      · intro w hSw; go_simp; first | done | with_reducible rfl
      simp only [Act.put, List.setIfInBounds_toArray, List.set_cons_zero, List.set_cons_succ]
      refine takeH 14 103 (v := ?_) rfl rfl (by kernel_rfl) (by kernel_rfl) (by kernel_rfl) (fun _ _ _ h => h) (by rfl) ?_ (by assumption) ?_
      rotate_left
      · intro w hSw; go_simp; first | done | with_reducible rfl
      simp only [Act.put, List.setIfInBounds_toArray, List.set_cons_zero, List.set_cons_succ]
      refine takeH 15 104 (v := ?_) rfl rfl (by kernel_rfl) (by kernel_rfl) (by kernel_rfl) (fun _ _ _ h => h) (by rfl) ?_ (by assumption) ?_
      rotate_left
      · intro w hSw; go_simp; first | done | with_reducible rfl
      simp only [Act.put, List.setIfInBounds_toArray, List.set_cons_zero, List.set_cons_succ]
      refine takeH 16 105 (v := ?_) rfl rfl (by kernel_rfl) (by kernel_rfl) (by kernel_rfl) (fun _ _ _ h => h) (by rfl) ?_ (by assumption) ?_
      rotate_left
      · intro w hSw; go_simp; first | done | with_reducible rfl
      simp only [Act.put, List.setIfInBounds_toArray, List.set_cons_zero, List.set_cons_succ]
      refine wpAnyH_ready (rs := [17]) (by kernel_rfl) (by simp) ?_
      refine AllReadyH.cons rfl (fun K hK => ?_) AllReadyH.nil
      go_simp
      refine (rsame_any _ _ _ _ _ _ _ _ _ (HDX.out.below hS1.2.2.2.2.2.2.2.2.2.out) (HDY.out.below hS1.2.2.2.2.2.2.2.2.2.out) true ⟨fun _ => ⟨rfl, rfl, rfl⟩, fun _ => rfl⟩).mono ?_
      rintro e wl2 ⟨rfl, hb2⟩
      go_simp
      refine hK.out _ _ (HKeep.out _ (below_bt hS1.2.2.2.2.2.2.2.2.2.out hb2)) (fun hS2 => ?_)
      clear hK K
      refine takeH 18 107 (v := ?_) rfl rfl (by kernel_rfl) (by kernel_rfl) (by kernel_rfl) (fun _ _ _ h => h) (by rfl) ?_ (by assumption) ?_
      rotate_left
      · intro w hSw; go_simp; first | done | with_reducible rfl
      simp only [Act.put, List.setIfInBounds_toArray, List.set_cons_zero, List.set_cons_succ]
      refine takeH 19 108 (v := ?_) rfl rfl (by kernel_rfl) (by kernel_rfl) (by kernel_rfl) (fun _ _ _ h => h) (by rfl) ?_ (by assumption) ?_
      rotate_left
      · intro w hSw; go_simp; first | done | with_reducible rfl
      simp only [Act.put, List.setIfInBounds_toArray, List.set_cons_zero, List.set_cons_succ]
      refine takeH 20 109 (v := ?_) rfl rfl (by kernel_rfl) (by kernel_rfl) (by kernel_rfl) (fun _ _ _ h => h) (by rfl) ?_ (by assumption) ?_
      rotate_left
      · intro w hSw; go_simp; first | done | with_reducible rfl
      simp only [Act.put, List.setIfInBounds_toArray, List.set_cons_zero, List.set_cons_succ]
      refine takeH 21 110 (v := ?_) rfl rfl (by kernel_rfl) (by kernel_rfl) (by kernel_rfl) (fun _ _ _ h => h) (by rfl) ?_ (by assumption) ?_
      rotate_left
      · intro w hSw; go_simp; first | done | with_reducible rfl
      simp only [Act.put, List.setIfInBounds_toArray, List.set_cons_zero, List.set_cons_succ]
      refine takeH 22 111 (v := ?_) rfl rfl (by kernel_rfl) (by kernel_rfl) (by kernel_rfl) (fun _ _ _ h => h) (by rfl) ?_ (by assumption) ?_
      rotate_left
      · intro w hSw; go_simp; first | done | with_reducible rfl
      simp only [Act.put, List.setIfInBounds_toArray, List.set_cons_zero, List.set_cons_succ]
      refine takeH 23 112 (v := ?_) rfl rfl (by kernel_rfl) (by kernel_rfl) (by kernel_rfl) (fun _ _ _ h => h) (by rfl) ?_ (by assumption) ?_
      rotate_left
      · intro w hSw; go_simp; first | done | with_reducible rfl
      simp only [Act.put, List.setIfInBounds_toArray, List.set_cons_zero, List.set_cons_succ]
      refine takeH 24 113 (v := ?_) rfl rfl (by kernel_rfl) (by kernel_rfl) (by kernel_rfl) (fun _ _ _ h => h) (by rfl) ?_ (by assumption) ?_
      rotate_left
      · intro w hSw; go_simp; first | done | with_reducible rfl
      simp only [Act.put, List.setIfInBounds_toArray, List.set_cons_zero, List.set_cons_succ]
      refine takeH 25 114 (v := ?_) rfl rfl (by kernel_rfl) (by kernel_rfl) (by kernel_rfl) (fun _ _ _ h => h) (by rfl) ?_ (by assumption) ?_
      rotate_left
      · intro w hSw; go_simp; first | done | with_reducible rfl
      simp only [Act.put, List.setIfInBounds_toArray, List.set_cons_zero, List.set_cons_succ]
      refine takeH 26 115 (v := ?_) rfl rfl (by kernel_rfl) (by kernel_rfl) (by kernel_rfl) (fun _ _ _ h => h) (by rfl) ?_ (by assumption) ?_
      rotate_left
      · intro w hSw; go_simp; first | done | with_reducible rfl
      simp only [Act.put, List.setIfInBounds_toArray, List.set_cons_zero, List.set_cons_succ]
      refine takeH 27 116 (v := ?_) rfl rfl (by kernel_rfl) (by kernel_rfl) (by kernel_rfl) (fun _ _ _ h => h) (by rfl) ?_ (by assumption) ?_
      rotate_left
      · intro w hSw; go_simp; first | done | with_reducible rfl
      simp only [Act.put, List.setIfInBounds_toArray, List.set_cons_zero, List.set_cons_succ]
      refine wpAnyH_ready (rs := [28]) (by kernel_rfl) (by simp) ?_
      refine AllReadyH.cons rfl (fun K hK => ?_) AllReadyH.nil
      go_simp
      refine (rsame_any _ _ _ _ _ _ _ _ _ (HDP.out.below hS2.2.2.2.2.2.2.2.2.2.out) (HDQ.out.below hS2.2.2.2.2.2.2.2.2.2.out) true ⟨fun _ => ⟨rfl, rfl, rfl⟩, fun _ => rfl⟩).mono ?_
      rintro e wl3 ⟨rfl, hb3⟩
      go_simp
      refine hK.out _ _ (HKeep.out _ (below_bt hS2.2.2.2.2.2.2.2.2.2.out hb3)) (fun hS3 => ?_)
      clear hK K
      refine takeH 29 118 (v := ?_) rfl rfl (by kernel_rfl) (by kernel_rfl) (by kernel_rfl) (fun _ _ _ h => h) (by rfl) ?_ (by assumption) ?_
      rotate_left
      · intro w hSw; go_simp; first | done | with_reducible rfl
      simp only [Act.put, List.setIfInBounds_toArray, List.set_cons_zero, List.set_cons_succ]
      refine takeH 30 119 (v := ?_) rfl rfl (by kernel_rfl) (by kernel_rfl) (by kernel_rfl) (fun _ _ _ h => h) (by rfl) ?_ (by assumption) ?_
      rotate_left
      · intro w hSw; go_simp; first | done | with_reducible rfl
      simp only [Act.put, List.setIfInBounds_toArray, List.set_cons_zero, List.set_cons_succ]
      refine takeH 31 120 (v := ?_) rfl rfl (by kernel_rfl) (by kernel_rfl) (by kernel_rfl) (fun _ _ _ h => h) (by rfl) ?_ (by assumption) ?_
      rotate_left
      · intro w hSw; go_simp; first | done | with_reducible rfl
      simp only [Act.put, List.setIfInBounds_toArray, List.set_cons_zero, List.set_cons_succ]
      refine takeH 32 121 (v := ?_) rfl rfl (by kernel_rfl) (by kernel_rfl) (by kernel_rfl) (fun _ _ _ h => h) (by rfl) ?_ (by assumption) ?_
      rotate_left
      · intro w hSw; go_simp; first | done | with_reducible rfl
      simp only [Act.put, List.setIfInBounds_toArray, List.set_cons_zero, List.set_cons_succ]
      refine takeH 33 122 (v := ?_) rfl rfl (by kernel_rfl) (by kernel_rfl) (by kernel_rfl) (fun _ _ _ h => h) (by rfl) ?_ (by assumption) ?_
      rotate_left
      · intro w hSw; go_simp; first | done | with_reducible rfl
      simp only [Act.put, List.setIfInBounds_toArray, List.set_cons_zero, List.set_cons_succ]
      refine takeH 35 124 (v := ?_) rfl rfl (by kernel_rfl) (by kernel_rfl) (by kernel_rfl) (fun _ _ _ h => h) (by rfl) ?_ (by assumption) ?_
      rotate_left
      · intro w hSw; go_simp; first | done | with_reducible rfl
      simp only [Act.put, List.setIfInBounds_toArray, List.set_cons_zero, List.set_cons_succ]
      refine takeH 36 125 (v := ?_) rfl rfl (by kernel_rfl) (by kernel_rfl) (by kernel_rfl) (fun _ _ _ h => h) (by rfl) ?_ (by assumption) ?_
      rotate_left
      · intro w hSw; go_simp; first | done | with_reducible rfl
      simp only [Act.put, List.setIfInBounds_toArray, List.set_cons_zero, List.set_cons_succ]
      refine wpAnyH_ready (rs := [34]) (by kernel_rfl) (by simp) ?_
      refine AllReadyH.cons rfl (fun K hK => ?_) AllReadyH.nil
      go_simp
      refine (same_any _ _ _ _ _ _ _ _ _ (HD.out.below hS3.2.2.2.2.2.2.2.2.2.out) (HDO.out.below hS3.2.2.2.2.2.2.2.2.2.out) bS HBS.out).mono ?_
      rintro e wl4 ⟨rfl, hb4⟩
      go_simp
      refine hK.out _ _ (HKeep.out _ (below_bt hS3.2.2.2.2.2.2.2.2.2.out hb4)) (fun hS4 => ?_)
      clear hK K
      refine wpAnyH_ready (rs := [37]) (by kernel_rfl) (by simp) ?_
      refine AllReadyH.cons rfl (fun K hK => ?_) AllReadyH.nil
      go_simp
      refine (rsame_any _ _ _ _ _ _ _ _ _ (HD.out.below hS4.2.2.2.2.2.2.2.2.2.out) (HDO.out.below hS4.2.2.2.2.2.2.2.2.2.out) bS HBS.out).mono ?_
      rintro e wl5 ⟨rfl, hb5⟩
      go_simp
      refine hK.out _ _ (HKeep.out _ (below_bt hS4.2.2.2.2.2.2.2.2.2.out hb5)) (fun hS5 => ?_)
      clear hK K
      refine takeH 38 127 (v := ?_) rfl rfl (by kernel_rfl) (by kernel_rfl) (by kernel_rfl) (fun _ _ _ h => h) (by rfl) ?_ (by assumption) ?_
      rotate_left
      · intro w hSw; go_simp; first | done | with_reducible rfl
      simp only [Act.put, List.setIfInBounds_toArray, List.set_cons_zero, List.set_cons_succ]
      refine takeH 39 128 (v := ?_) rfl rfl (by kernel_rfl) (by kernel_rfl) (by kernel_rfl) (fun _ _ _ h => h) (by rfl) ?_ (by assumption) ?_
      rotate_left
      · intro w hSw; go_simp; first | done | with_reducible rfl
      simp only [Act.put, List.setIfInBounds_toArray, List.set_cons_zero, List.set_cons_succ]
      refine takeH 40 129 (v := ?_) rfl rfl (by kernel_rfl) (by kernel_rfl) (by kernel_rfl) (fun _ _ _ h => h) (by rfl) ?_ (by assumption) ?_
      rotate_left
      · intro w hSw; go_simp; first | done | with_reducible rfl
      simp only [Act.put, List.setIfInBounds_toArray, List.set_cons_zero, List.set_cons_succ]
      refine takeH 41 130 (v := ?_) rfl rfl (by kernel_rfl) (by kernel_rfl) (by kernel_rfl) (fun _ _ _ h => h) (by rfl) ?_ (by assumption) ?_
      rotate_left
      · intro w hSw; go_simp; first | done | with_reducible rfl
      simp only [Act.put, List.setIfInBounds_toArray, List.set_cons_zero, List.set_cons_succ]
      refine takeH 42 131 (v := ?_) rfl rfl (by kernel_rfl) (by kernel_rfl) (by kernel_rfl) (fun _ _ _ h => h) (by rfl) ?_ (by assumption) ?_
      rotate_left
      · intro w hSw; go_simp; first | done | with_reducible rfl
      simp only [Act.put, List.setIfInBounds_toArray, List.set_cons_zero, List.set_cons_succ]
      refine wpAnyH_ready (rs := [43]) (by kernel_rfl) (by simp) ?_
      refine AllReadyH.cons rfl (fun K hK => ?_) AllReadyH.nil
      go_simp
      refine (same_any _ _ _ _ _ _ _ _ _ (HDT.out.below hS5.2.2.2.2.2.2.2.2.2.out) (HDT.out.below hS5.2.2.2.2.2.2.2.2.2.out) true ⟨fun _ => ⟨rfl, rfl, rfl⟩, fun _ => rfl⟩).mono ?_
      rintro e wl6 ⟨rfl, hb6⟩
      go_simp
      refine hK.out _ _ (HKeep.out _ (below_bt hS5.2.2.2.2.2.2.2.2.2.out hb6)) (fun hS6 => ?_)
      clear hK K
      refine takeH 44 133 (v := ?_) rfl rfl (by kernel_rfl) (by kernel_rfl) (by kernel_rfl) (fun _ _ _ h => h) (by rfl) ?_ (by assumption) ?_
      rotate_left
      · intro w hSw; go_simp; first | done | with_reducible rfl
      simp only [Act.put, List.setIfInBounds_toArray, List.set_cons_zero, List.set_cons_succ]
      refine takeH 45 134 (v := ?_) rfl rfl (by kernel_rfl) (by kernel_rfl) (by kernel_rfl) (fun _ _ _ h => h) (by rfl) ?_ (by assumption) ?_
      rotate_left
      · intro w hSw; go_simp; first | done | with_reducible rfl
      simp only [Act.put, List.setIfInBounds_toArray, List.set_cons_zero, List.set_cons_succ]
      refine wpAnyH_done (by kernel_rfl) (NoPanic.normal ?_) _
      have hWL := hS6.2.2.2.2.2.2.2.2.2.out
      have b6 : Below w3.heap.size w3 wl6 := below_bt b3.out hWL
      have zL : W.heap.size ≤ wl6.heap.size := hWL.size
      have KHBT : Hid (wl6.heap[w3.heap.size]? = some (.cells #[.int .i64 count, .slice pT data.length cT, .slice qT ws.length mT] 25 (0, 0))) := (hWL.block _ (lt_heap HBT.out)).trans HBT.out
      have KHBA : Hid (wl6.heap[w4.heap.size]? = some (.cells #[.int .i64 (resC count rA), .slice pA (resD rA).length cA, .slice qA (resW rA).length mA] 25 (0, 0))) := (hWL.block _ (lt_heap HBA.out)).trans HBA.out
      have KHBX : Hid (wl6.heap[w6.heap.size]? = some (.cells #[.int .i64 (resC count rX), .slice pX (resD rX).length cX, .slice qX (resW rX).length mX] 25 (0, 0))) := (hWL.block _ (lt_heap HBX.out)).trans HBX.out
      have KHBP : Hid (wl6.heap[w8.heap.size]? = some (.cells #[.int .i64 (resC count rP), .slice pP (resD rP).length cP, .slice qP (resW rP).length mP] 25 (0, 0))) := (hWL.block _ (lt_heap HBP.out)).trans HBP.out
      have KSA : Hid (SpoilsE wl6 (w3.heap.size + 1) w4.heap.size (.agg #[.int .i64 (resC count rA), .slice pA (resD rA).length cA, .slice qA (resW rA).length mA])) := HSA.out.below hWL
      have KSX : Hid (SpoilsE wl6 (w5.heap.size + 1) w6.heap.size (.agg #[.int .i64 (resC count rX), .slice pX (resD rX).length cX, .slice qX (resW rX).length mX])) := HSX.out.below hWL
      have KSP : Hid (SpoilsE wl6 (w7.heap.size + 1) w8.heap.size (.agg #[.int .i64 (resC count rP), .slice pP (resD rP).length cP, .slice qP (resW rP).length mP])) := HSP.out.below hWL
      clear HKeep hS0 hS1 hS2 hS3 hS4 hS5 hS6 hb1 hb2 hb3 hb4 hb5 hb6 HSA HSX HSP HBT HBA HBX HBP HBB HBY HBQ HDA HDB HDX HDY HDP HDQ HDT HD HDO HB HO HAL HKB hbb herA herX herP hWL hbc b3
      obtain ⟨x0, x1, x2⟩ := cells3 KHBA.out
      go_wp2_with fail
      refine (spoil_e _ (w3.heap.size + 1) w4.heap.size _ KSA.out).mono ?_
      rintro e w10 ⟨rfl, ho10⟩
      clear x0 x1 x2 KSA KHBA
      have zz10 : W.heap.size ≤ w10.heap.size := Nat.le_trans zL ho10.size
      replace KHBT : Hid (w10.heap[w3.heap.size]? = some (.cells #[.int .i64 count, .slice pT data.length cT, .slice qT ws.length mT] 25 (0, 0))) := (ho10.block _ (lt_heap KHBT.out) (by omega)).trans KHBT.out
      replace KHBX : Hid (w10.heap[w6.heap.size]? = some (.cells #[.int .i64 (resC count rX), .slice pX (resD rX).length cX, .slice qX (resW rX).length mX] 25 (0, 0))) := (ho10.block _ (lt_heap KHBX.out) (by omega)).trans KHBX.out
      replace KHBP : Hid (w10.heap[w8.heap.size]? = some (.cells #[.int .i64 (resC count rP), .slice pP (resD rP).length cP, .slice qP (resW rP).length mP] 25 (0, 0))) := (ho10.block _ (lt_heap KHBP.out) (by omega)).trans KHBP.out
      replace KSX : Hid (SpoilsE w10 (w5.heap.size + 1) w6.heap.size (.agg #[.int .i64 (resC count rX), .slice pX (resD rX).length cX, .slice qX (resW rX).length mX])) := KSX.out.outs ho10 (by omega)
      replace KSP : Hid (SpoilsE w10 (w7.heap.size + 1) w8.heap.size (.agg #[.int .i64 (resC count rP), .slice pP (resD rP).length cP, .slice qP (resW rP).length mP])) := KSP.out.outs ho10 (by omega)
      have b10 : Below w3.heap.size w3 w10 := b6.trans ((ho10.below (by omega)).mono (by omega))
      clear ho10
      obtain ⟨x0, x1, x2⟩ := cells3 KHBX.out
      go_wp2_with fail
      refine (spoil_e _ (w5.heap.size + 1) w6.heap.size _ KSX.out).mono ?_
      rintro e w11 ⟨rfl, ho11⟩
      clear x0 x1 x2 KSX KHBX
      have zz11 : W.heap.size ≤ w11.heap.size := Nat.le_trans zz10 ho11.size
      replace KHBT : Hid (w11.heap[w3.heap.size]? = some (.cells #[.int .i64 count, .slice pT data.length cT, .slice qT ws.length mT] 25 (0, 0))) := (ho11.block _ (lt_heap KHBT.out) (by omega)).trans KHBT.out
      replace KHBP : Hid (w11.heap[w8.heap.size]? = some (.cells #[.int .i64 (resC count rP), .slice pP (resD rP).length cP, .slice qP (resW rP).length mP] 25 (0, 0))) := (ho11.block _ (lt_heap KHBP.out) (by omega)).trans KHBP.out
      replace KSP : Hid (SpoilsE w11 (w7.heap.size + 1) w8.heap.size (.agg #[.int .i64 (resC count rP), .slice pP (resD rP).length cP, .slice qP (resW rP).length mP])) := KSP.out.outs ho11 (by omega)
      have b11 : Below w3.heap.size w3 w11 := b10.trans ((ho11.below (by omega)).mono (by omega))
      clear ho11
      obtain ⟨x0, x1, x2⟩ := cells3 KHBP.out
      go_wp2_with fail
      refine (spoil_e _ (w7.heap.size + 1) w8.heap.size _ KSP.out).mono ?_
      rintro e w12 ⟨rfl, ho12⟩
      clear x0 x1 x2 KSP KHBP
      have zz12 : W.heap.size ≤ w12.heap.size := Nat.le_trans zz11 ho12.size
      replace KHBT : Hid (w12.heap[w3.heap.size]? = some (.cells #[.int .i64 count, .slice pT data.length cT, .slice qT ws.length mT] 25 (0, 0))) := (ho12.block _ (lt_heap KHBT.out) (by omega)).trans KHBT.out
      have b12 : Below w3.heap.size w3 w12 := b11.trans ((ho12.below (by omega)).mono (by omega))
      clear ho12
      have kD2 := (b12.block _ (lt_heap HB3.out)).trans HB3.out
      obtain ⟨t0, t1, t2⟩ := cells3 KHBT.out
      obtain ⟨d0, d1, d2⟩ := cells3 kD2
      clear kD2
      go_wp2_with fail
      refine (rsame_any _ _ _ _ _ _ _ _ _ (HT3.out.below b12) (HD3.out.below b12) true ⟨fun _ => ⟨rfl, rfl, rfl⟩, fun _ => rfl⟩).mono ?_
      rintro e w13 ⟨rfl, hb13⟩
      have b13 : Below w3.heap.size w3 w13 := b12.trans (hb13.mono b12.size)
      have hbf : Below w.heap.size w w13 := hbc3.trans (b13.mono hbc3.size)
      go_wp2
      go_ret
      exact ⟨rfl, hbf⟩
theorem walk (v : Value) (count : Int) (data : List Nat) (ws : Puts) (v2 : Value) (count2 : Int) (data2 : List Nat) (ws2 : Puts) (lv : Value) (ql : Option Addr) (l : Acts) (cl : Nat) (kv : Value) (qk : Option Addr) (keep : List Bool) (ck : Nat) (w : World) (hd : DiskIn w v count data ws) (hsz : ∀ y ∈ ws, y.2.length ≤ reachBytes) (hd2 : DiskIn w v2 count2 data2 ws2) (hsz2 : ∀ y ∈ ws2, y.2.length ≤ reachBytes) (e0 : lv = .slice ql (List.length (α := Bool × Int × List Nat) l) cl) (ha : ActsIn w ql l) (h1 : l.length ≤ cl) (h2 : cl ≤ maxLen) (hq : ql = none → cl = 0) (h3 : ∀ y ∈ l, (Lit.int .i64 y.2.1).wf = true) (e1 : kv = .slice qk (List.length (α := Bool) keep) ck) (hk : BoolsIn w qk keep) (h4 : keep.length ≤ ck) (h5 : ck ≤ maxLen) :
    Calls Try.prog 5 #[v, v2, lv, kv] w fun e w' => e = .returned (.bool true) ∧ Below w.heap.size w w' := by
  subst e0 e1
  by_cases hl : largeN count data ws
  · exact walk_l1 v count data ws v2 count2 data2 ws2 ql cl l qk ck keep w hd hd2 hl
  · by_cases hl2 : largeN count2 data2 ws2
    · exact walk_l2 v count data ws v2 count2 data2 ws2 ql cl l qk ck keep w hd hd2 hl hl2
    · by_cases h0 : (l.length : Int) ≤ 300
      · by_cases hk0 : (keep.length : Int) ≤ 10000
        · exact walk_main v count data ws v2 count2 data2 ws2 ql cl l qk ck keep w hd hd2 hl hl2 h0 hk0 hsz ha h1 h2 hk
        · exact walk_n2 v count data ws v2 count2 data2 ws2 ql cl l qk ck keep w hd hd2 hl hl2 h0 (by omega)
      · exact walk_n1 v count data ws v2 count2 data2 ws2 ql cl l qk ck keep w hd hd2 hl hl2 (by omega)

/-! ### THE ROW's STEP -/
set_option maxRecDepth 100000 in
theorem lifted (os : Os) (started : os.Started) (H : Type) (enc : TypeId × Value → H) :
    ReturnsInHanded {} Try.checked os 5 .any (Rows.diskDoesSpec.pre6 enc Try.prog Try.f5 Rows.diskDoesRow.domain false) (Rows.diskDoesSpec.post enc Try.prog Try.f5 false true false false) := by
  refine returnsInHanded_of_change_sized (C := Try.checked) own started (by kernel_rfl) Try.func5
    (ChangeSpec.witness6 (enc := enc) (C := Try.checked) false ⟨#[], #[.agg #[.int .i64 0, .slice none 0 0, .slice none 0 0], .agg #[.int .i64 0, .slice none 0 0, .slice none 0 0], .slice none 0 0, .slice none 0 0], []⟩ 8 (by kernel_rfl) (by kernel_rfl) (by kernel_rfl) (by kernel_rfl)) ?_
  intro W base args ds gs before hval0 hW hcnd hsz0 _
  have hval : ∀ (j : Nat) t v, Try.f5.params[j]? = some t → args[j]? = some v → Value.okWide Try.prog W .any base t v := hval0
  have hW' := hW
  obtain ⟨p, q, hA0, hV, rfl, hfz, hnd⟩ := hW
  have hA : DataW.TrodAll enc Try.prog W 0 (fun _ => true) true Try.f5.params.toList args.toList ds p := hA0
  have hsz : (DataW.weightsEach Try.prog (Try.f5.params.toList ++ Rows.diskDoesSpec.plain.varTypes Try.prog) (ds ++ gs)).all (· ≤ reachBytes) = true := hsz0
  rw [Try.params5] at hA hval hsz
  obtain ⟨v0, vs0, d0, ds0, p0, q0, hargs, rfl, rfl, h0, r0⟩ := trodAll_cons hA
  obtain ⟨v1, vs1, d1, ds1, p1, q1, rfl, rfl, rfl, h1, r1⟩ := trodAll_cons r0
  obtain ⟨v2, vs2, d2, ds2, p2, q2, rfl, rfl, rfl, h2, r2⟩ := trodAll_cons r1
  obtain ⟨v3, vs3, d3, ds3, p3, q3, rfl, rfl, rfl, h3, r3⟩ := trodAll_cons r2
  obtain ⟨rfl, rfl, rfl⟩ := trodAll_nil r3
  obtain rfl : args = #[v0, v1, v2, v3] := by cases args; simp_all
  obtain ⟨rfl, rfl⟩ := trodVars_none hV
  have k0 := h0
  have lt0 : ∀ x ∈ p0, x.block < W.heap.size := by obtain ⟨m, hm⟩ := k0; exact DataW.trod_lt m _ _ _ hm
  obtain ⟨count0, data0, ws0, w0, z0⟩ := open_disk_sized (tD := 25) (t := 23) (e := 51) (tb := 22) (eb := 5) Try.underlying25 (by kernel_rfl) (by kernel_rfl) Try.underlying3 rfl rfl Try.underlying23 Try.underlying51 (by kernel_rfl) rfl rfl (by kernel_rfl) (by kernel_rfl) Try.underlying3 rfl Try.underlying22 Try.underlying5 (by kernel_rfl) (by kernel_rfl) (hval 0 25 v0 rfl rfl) h0 (fun k hk => by simpa using List.all_eq_true.1 hsz k (DataW.weights_mem_each (j := 0) (t := 25) rfl rfl k hk))
  have k1 := h1
  have lt1 : ∀ x ∈ p1, x.block < W.heap.size := by obtain ⟨m, hm⟩ := k1; exact DataW.trod_lt m _ _ _ hm
  obtain ⟨count1, data1, ws1, w1, z1⟩ := open_disk_sized (tD := 25) (t := 23) (e := 51) (tb := 22) (eb := 5) Try.underlying25 (by kernel_rfl) (by kernel_rfl) Try.underlying3 rfl rfl Try.underlying23 Try.underlying51 (by kernel_rfl) rfl rfl (by kernel_rfl) (by kernel_rfl) Try.underlying3 rfl Try.underlying22 Try.underlying5 (by kernel_rfl) (by kernel_rfl) (hval 1 25 v1 rfl rfl) h1 (fun k hk => by simpa using List.all_eq_true.1 hsz k (DataW.weights_mem_each (j := 1) (t := 25) rfl rfl k hk))
  have k2 := h2
  have lt2 : ∀ x ∈ p2, x.block < W.heap.size := by obtain ⟨m, hm⟩ := k2; exact DataW.trod_lt m _ _ _ hm
  obtain ⟨qa2, la2, ca2, rfl⟩ := okWide_slice Try.underlying49 (hval 2 49 v2 rfl rfl)
  obtain ⟨fu2, hf2⟩ := h2
  obtain ⟨q2b, l2, c2b, e2, w2a, w2b, w2c, w2d, w2e⟩ := open_acts (t := 49) (e := 53) (ep := 51) (tb := 22) (eb := 5) Try.underlying49 Try.underlying53 (by kernel_rfl) rfl rfl (by kernel_rfl) Try.underlying4 rfl Try.underlying51 (by kernel_rfl) rfl rfl (by kernel_rfl) (by kernel_rfl) Try.underlying3 rfl Try.underlying22 Try.underlying5 (by kernel_rfl) hf2
  have k3 := h3
  have lt3 : ∀ x ∈ p3, x.block < W.heap.size := by obtain ⟨m, hm⟩ := k3; exact DataW.trod_lt m _ _ _ hm
  obtain ⟨qa3, la3, ca3, rfl⟩ := okWide_slice Try.underlying33 (hval 3 33 v3 rfl rfl)
  obtain ⟨fu3, hf3⟩ := h3
  obtain ⟨q3b, bs3, c3b, e3, w3a, w3b, w3c, w3d⟩ := open_bools Try.underlying33 Try.underlying4 (by kernel_rfl) hf3
  clear hA0 hval0
  refine (walk v0 count0 data0 ws0 v1 count1 data1 ws1 (.slice qa2 la2 ca2) q2b l2 c2b (.slice qa3 la3 ca3) q3b bs3 c3b W w0 z0 w1 z1 e2 w2a w2b w2c w2d w2e e3 w3a w3b w3c).mono fun e W' ⟨he, bel⟩ => ?_
  subst he
  exact ⟨_, rfl, _, _, _, [], _, [], hW', trodAll_mk1 (shut_bool Try.underlying4 _), (trodAll_cons_mk (Below.trod laidOut (by kernel_rfl) (of_decide_eq_true (by kernel_rfl)) k0 bel lt0) (trodAll_cons_mk (Below.trod laidOut (by kernel_rfl) (of_decide_eq_true (by kernel_rfl)) k1 bel lt1) (trodAll_cons_mk (Below.trod laidOut (by kernel_rfl) (of_decide_eq_true (by kernel_rfl)) k2 bel lt2) (trodAll_cons_mk (Below.trod laidOut (by kernel_rfl) (of_decide_eq_true (by kernel_rfl)) k3 bel lt3) trodAll_mk0)))), rfl, bel.frame _, fun h => by cases h⟩

theorem over : Rows.diskDoesRow.holds Try.pinned (OpenSpec.ofChange Rows.diskDoesSpec) :=
  OpenClaim.holds_of_wide 5 Try.f5 rfl rfl rfl rfl rfl rfl rfl ⟨rfl, rfl, rfl, rfl, rfl⟩ rfl rfl rfl rfl rfl (by kernel_rfl) Try.func5 (by kernel_rfl)
    (of_decide_eq_true (by kernel_rfl)) (by unfold Func.isWrapper; first | (rw [if_pos (by decide +kernel)]; kernel_rfl) | (rw [if_neg (by decide +kernel)]; exact ⟨rfl, rfl⟩))
    (fun os started H enc _ => lifted os started H enc)

theorem proved : Rows.DiskDoesSaid := over
end Go.Proofs.Yteabacpalnamdaa.diskDoes
namespace Go.Proofs.Yteabacpalnamdaa
theorem diskDoes_holds : Rows.DiskDoesSaid := diskDoes.proved
#print axioms diskDoes_holds
end Go.Proofs.Yteabacpalnamdaa
