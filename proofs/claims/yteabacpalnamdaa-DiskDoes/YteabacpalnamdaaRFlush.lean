/-
  The document's own answers Flush and Crash, where the disk may be.
-/
import Derived.Test.YteabacpalnamdaaRMade2
namespace Go.Proofs.Yteabacpalnamdaa
open Go.RowKit Go.WideShapes
attribute [local go_sem ↓] Go.wp_at_zero Go.wp_at_succ
theorem boolsIn_nil (w : World) : BoolsIn w none [] := fun h => absurd h (by simp)
set_option maxRecDepth 8000 in
set_option maxHeartbeats 4000000 in
theorem rflush_ok (v : Value) (count : Int) (data : List Nat) (ws : Puts) (w : World) (hd : DiskIn w v count data ws) (ho : Okay count data ws) :
    Calls Try.prog 29 #[v] w fun e w' => (∃ v', e = .returned (.tuple #[v', .int .i64 0]) ∧ DiskV w' w.heap.size v' count (settleN data ws) []) ∧ Below w.heap.size w w' := by
  obtain ⟨pd, cd, q, m, rfl, _⟩ := hd.parts
  have HD : Hid _ := hd
  clear hd
  go_enter Try.func29, Try.ntmps29
  go_wp2_with fail
  refine (may_any _ count data ws _ (HD.out.below ((below_alloc w _).alloc (by simp) _)) true ⟨fun _ => ho, fun _ => rfl⟩).mono ?_
  rintro e w1 ⟨rfl, hb1⟩
  replace hb1 := box2_of hb1
  obtain ⟨hB, hR⟩ := box2_cells hb1
  obtain ⟨x0, x1, x2⟩ := cells3 hB
  have hsz := box2_size hb1
  have hbw := box2_below hb1
  have HR1 : Hid _ := hR
  clear hB hR
  go_wp2_with fail
  refine (made_any _ count data ws _ (HD.out.below hbw) ho true none 0 [] (boolsIn_nil _) (by simp)).mono ?_
  rintro e w2 ⟨⟨v', rfl, hv⟩, hb2⟩
  rw [kept_all _ _ _ _ rfl] at hv
  obtain ⟨dv, wv, vs, rfl, hv1, hv2⟩ := hv.lies
  obtain ⟨p1, c1, rfl, _⟩ := hv1.form
  obtain ⟨q1, m1, rfl, _⟩ := hv2.lies
  have HV : Hid (DiskV w2 w.heap.size _ count (settleN data ws) []) := hv.mono hbw.size
  have hbw2 := hbw.trans (hb2.mono hbw.size)
  have hz2 := Nat.le_trans hsz hb2.size
  have hR2 := (hb2.block _ (lt_heap HR1.out)).trans HR1.out
  have HR2 : Hid _ := hR2
  obtain ⟨r0, r1, r2⟩ := cells3 hR2
  obtain ⟨f0, f1, f2⟩ := free3 hR2
  clear hR2 hv hv1 hv2 x0 x1 x2
  go_wp2
  (try simp only [Exit.inBlock, Exit.then])
  refine bodyPost_ret (v := .tuple #[_, .int .i64 0]) ?_ rfl ⟨⟨_, rfl, HV.out.set3 HR2.out _ _ _⟩, set3_below hbw2 (by omega) _ _ _⟩
  rw [results_cell_tmp rfl]
  go_simp
set_option maxRecDepth 8000 in
set_option maxHeartbeats 4000000 in
theorem rcrash_ok (v : Value) (count : Int) (data : List Nat) (ws : Puts) (w : World) (hd : DiskIn w v count data ws) (ho : Okay count data ws) (ql : Option Addr) (ml : Nat) (keep : List Bool) (hl : BoolsIn w ql keep) (hll : keep.length ≤ 9223372036854775807) :
    Calls Try.prog 30 #[v, .slice ql keep.length ml] w fun e w' => (∃ v', e = .returned (.tuple #[v', .int .i64 0]) ∧ DiskV w' w.heap.size v' count (crashN data ws keep) []) ∧ Below w.heap.size w w' := by
  obtain ⟨pd, cd, q, m, rfl, _⟩ := hd.parts
  have HD : Hid _ := hd
  clear hd
  have HL : Hid (BoolsIn w ql keep) := hl
  clear hl
  go_enter Try.func30, Try.ntmps30
  go_wp2_with fail
  refine (may_any _ count data ws _ (HD.out.below ((below_alloc w _).alloc (by simp) _)) true ⟨fun _ => ho, fun _ => rfl⟩).mono ?_
  rintro e w1 ⟨rfl, hb1⟩
  replace hb1 := box2_of hb1
  obtain ⟨hB, hR⟩ := box2_cells hb1
  obtain ⟨x0, x1, x2⟩ := cells3 hB
  have hsz := box2_size hb1
  have hbw := box2_below hb1
  have HR1 : Hid _ := hR
  clear hB hR
  go_wp2_with fail
  refine (made_any _ count data ws _ (HD.out.below hbw) ho false ql ml keep (HL.out.below (box2_below hb1)) hll).mono ?_
  rintro e w2 ⟨⟨v', rfl, hv⟩, hb2⟩
  rw [kept_some] at hv
  obtain ⟨dv, wv, vs, rfl, hv1, hv2⟩ := hv.lies
  obtain ⟨p1, c1, rfl, _⟩ := hv1.form
  obtain ⟨q1, m1, rfl, _⟩ := hv2.lies
  have HV : Hid (DiskV w2 w.heap.size _ count (crashN data ws keep) []) := hv.mono hbw.size
  have hbw2 := hbw.trans (hb2.mono hbw.size)
  have hz2 := Nat.le_trans hsz hb2.size
  have hR2 := (hb2.block _ (lt_heap HR1.out)).trans HR1.out
  have HR2 : Hid _ := hR2
  obtain ⟨r0, r1, r2⟩ := cells3 hR2
  obtain ⟨f0, f1, f2⟩ := free3 hR2
  clear hR2 hv hv1 hv2 x0 x1 x2
  go_wp2
  (try simp only [Exit.inBlock, Exit.then])
  refine bodyPost_ret (v := .tuple #[_, .int .i64 0]) ?_ rfl ⟨⟨_, rfl, HV.out.set3 HR2.out _ _ _⟩, set3_below hbw2 (by omega) _ _ _⟩
  rw [results_cell_tmp rfl]
  go_simp
end Go.Proofs.Yteabacpalnamdaa
