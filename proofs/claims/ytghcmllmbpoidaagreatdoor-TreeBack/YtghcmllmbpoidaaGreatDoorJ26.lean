import Derived.Test.YtghcmllmbpoidaaGreatDoorJ25
namespace Go.Proofs.YtghcmllmbpoidaaGreatDoor.Lg
open Go.RowKit Go.WideShapes
set_option maxRecDepth 8000 in
set_option maxHeartbeats 2000000 in
theorem part_ne0 (e s p i n z a0 a1 a2 a3 a4 k : Nat) (b o c : Nat) (xs : List Nat) (w : World) (hx : xs.length = 128) (hc : 128 ≤ c) (hcm : c ≤ maxLen) (hb : BIn w (some ⟨b, o, none⟩) xs) (hm : markOfN xs = .agg #[.int .u32 a0, .int .u32 a1, .int .u32 a2, .int .i64 a3, .int .i64 a4, .int .i64 k]) (hne : a0 ≠ e) :
    Calls Tryz.prog 135 #[.slice (some ⟨b, o, none⟩) 128 c, markV e s p i n z] w fun x w' => x = .returned (.tuple #[.slice none 0 0, .bool false]) ∧ Below w.heap.size w w' := by
  have g : ((a0 : Int) == (e : Int)) = false := by simp; omega
  clear hne
  have HX : Hid (xs.length = 128) := hx
  have HB : Hid (BIn w (some ⟨b, o, none⟩) xs) := hb
  have HCM : Hid (c ≤ maxLen) := hcm
  have h16c : (16 : Int) < c := by omega
  have hcI : (128 : Int) ≤ c := by omega
  have HC : Hid (128 ≤ c) := hc
  have HM : Hid (markOfN xs = .agg #[.int .u32 a0, .int .u32 a1, .int .u32 a2, .int .i64 a3, .int .i64 a4, .int .i64 k]) := hm
  clear hx hb hc hcm hm
  unfold markV
  go_enter Tryz.func135, Tryz.ntmps135
  go_wp2_with fail
  refine (markOf_any (some ⟨b, o, none⟩) xs 128 c _ HX.out.symm (by have := HX.out; omega) HC.out (HB.out.alloc _)).mono ?_
  rintro x w1 ⟨ex, hb1⟩
  rw [HM.out] at ex
  subst ex
  have hbw : Below (w.alloc (.cells #[.int .u32 e, .int .u32 s, .int .u32 p, .int .i64 i, .int .i64 n, .int .i64 z] 131)).heap.size (w.alloc (.cells #[.int .u32 e, .int .u32 s, .int .u32 p, .int .i64 i, .int .i64 n, .int .i64 z] 131)) w1 := hb1
  have hbx : w1.heap[w.heap.size]? = some (.cells #[.int .u32 e, .int .u32 s, .int .u32 p, .int .i64 i, .int .i64 n, .int .i64 z] 131 (0, 0)) := (hbw.block _ (by simp)).trans (heap_alloc_new w _)
  have hlt : w.heap.size < w1.heap.size := lt_heap hbx
  have q0 : w1.cell? ⟨w.heap.size, 0, none⟩ = some (.int .u32 e) := cell_of_row w1 _ 0 _ _ _ hbx
  have q1 : w1.cell? ⟨w.heap.size, 1, none⟩ = some (.int .u32 s) := cell_of_row w1 _ 1 _ _ _ hbx
  have q2 : w1.cell? ⟨w.heap.size, 2, none⟩ = some (.int .u32 p) := cell_of_row w1 _ 2 _ _ _ hbx
  have q3 : w1.cell? ⟨w.heap.size, 3, none⟩ = some (.int .i64 i) := cell_of_row w1 _ 3 _ _ _ hbx
  have q4 : w1.cell? ⟨w.heap.size, 4, none⟩ = some (.int .i64 n) := cell_of_row w1 _ 4 _ _ _ hbx
  have q5 : w1.cell? ⟨w.heap.size, 5, none⟩ = some (.int .i64 z) := cell_of_row w1 _ 5 _ _ _ hbx
  have f5 : w1.frozen? ⟨w.heap.size, 5, none⟩ = false := by simp [World.frozen?, hbx]
  have HW1 : Hid (Below w.heap.size w w1) := (below_alloc w _).trans (hbw.mono (by simp))
  have HZ : Hid (Below w.heap.size w ((w1.setCell ⟨w.heap.size, 5, none⟩ (.int .i64 k)).alloc (.cells #[.int .u32 a0, .int .u32 a1, .int .u32 a2, .int .i64 a3, .int .i64 a4, .int .i64 k] 131))) := (HW1.out.setCell (Nat.le_refl _) _).alloc (by simp [World.setCell]; omega) _
  clear hbx hbw hb1
  go_wp2
  go_ret2
  exact ⟨rfl, HZ.out⟩
set_option maxRecDepth 8000 in
set_option maxHeartbeats 2000000 in
theorem part_ne1 (e s p i n z a1 a2 a3 a4 k : Nat) (b o c : Nat) (xs : List Nat) (w : World) (hx : xs.length = 128) (hc : 128 ≤ c) (hcm : c ≤ maxLen) (hb : BIn w (some ⟨b, o, none⟩) xs) (hm : markOfN xs = .agg #[.int .u32 e, .int .u32 a1, .int .u32 a2, .int .i64 a3, .int .i64 a4, .int .i64 k]) (hne : a1 ≠ s) :
    Calls Tryz.prog 135 #[.slice (some ⟨b, o, none⟩) 128 c, markV e s p i n z] w fun x w' => x = .returned (.tuple #[.slice none 0 0, .bool false]) ∧ Below w.heap.size w w' := by
  have g : ((a1 : Int) == (s : Int)) = false := by simp; omega
  clear hne
  have HX : Hid (xs.length = 128) := hx
  have HB : Hid (BIn w (some ⟨b, o, none⟩) xs) := hb
  have HCM : Hid (c ≤ maxLen) := hcm
  have h16c : (16 : Int) < c := by omega
  have hcI : (128 : Int) ≤ c := by omega
  have HC : Hid (128 ≤ c) := hc
  have HM : Hid (markOfN xs = .agg #[.int .u32 e, .int .u32 a1, .int .u32 a2, .int .i64 a3, .int .i64 a4, .int .i64 k]) := hm
  clear hx hb hc hcm hm
  unfold markV
  go_enter Tryz.func135, Tryz.ntmps135
  go_wp2_with fail
  refine (markOf_any (some ⟨b, o, none⟩) xs 128 c _ HX.out.symm (by have := HX.out; omega) HC.out (HB.out.alloc _)).mono ?_
  rintro x w1 ⟨ex, hb1⟩
  rw [HM.out] at ex
  subst ex
  have hbw : Below (w.alloc (.cells #[.int .u32 e, .int .u32 s, .int .u32 p, .int .i64 i, .int .i64 n, .int .i64 z] 131)).heap.size (w.alloc (.cells #[.int .u32 e, .int .u32 s, .int .u32 p, .int .i64 i, .int .i64 n, .int .i64 z] 131)) w1 := hb1
  have hbx : w1.heap[w.heap.size]? = some (.cells #[.int .u32 e, .int .u32 s, .int .u32 p, .int .i64 i, .int .i64 n, .int .i64 z] 131 (0, 0)) := (hbw.block _ (by simp)).trans (heap_alloc_new w _)
  have hlt : w.heap.size < w1.heap.size := lt_heap hbx
  have q0 : w1.cell? ⟨w.heap.size, 0, none⟩ = some (.int .u32 e) := cell_of_row w1 _ 0 _ _ _ hbx
  have q1 : w1.cell? ⟨w.heap.size, 1, none⟩ = some (.int .u32 s) := cell_of_row w1 _ 1 _ _ _ hbx
  have q2 : w1.cell? ⟨w.heap.size, 2, none⟩ = some (.int .u32 p) := cell_of_row w1 _ 2 _ _ _ hbx
  have q3 : w1.cell? ⟨w.heap.size, 3, none⟩ = some (.int .i64 i) := cell_of_row w1 _ 3 _ _ _ hbx
  have q4 : w1.cell? ⟨w.heap.size, 4, none⟩ = some (.int .i64 n) := cell_of_row w1 _ 4 _ _ _ hbx
  have q5 : w1.cell? ⟨w.heap.size, 5, none⟩ = some (.int .i64 z) := cell_of_row w1 _ 5 _ _ _ hbx
  have f5 : w1.frozen? ⟨w.heap.size, 5, none⟩ = false := by simp [World.frozen?, hbx]
  have HW1 : Hid (Below w.heap.size w w1) := (below_alloc w _).trans (hbw.mono (by simp))
  have HZ : Hid (Below w.heap.size w ((w1.setCell ⟨w.heap.size, 5, none⟩ (.int .i64 k)).alloc (.cells #[.int .u32 e, .int .u32 a1, .int .u32 a2, .int .i64 a3, .int .i64 a4, .int .i64 k] 131))) := (HW1.out.setCell (Nat.le_refl _) _).alloc (by simp [World.setCell]; omega) _
  clear hbx hbw hb1
  go_wp2
  go_ret2
  exact ⟨rfl, HZ.out⟩
set_option maxRecDepth 8000 in
set_option maxHeartbeats 2000000 in
theorem part_ne2 (e s p i n z a2 a3 a4 k : Nat) (b o c : Nat) (xs : List Nat) (w : World) (hx : xs.length = 128) (hc : 128 ≤ c) (hcm : c ≤ maxLen) (hb : BIn w (some ⟨b, o, none⟩) xs) (hm : markOfN xs = .agg #[.int .u32 e, .int .u32 s, .int .u32 a2, .int .i64 a3, .int .i64 a4, .int .i64 k]) (hne : a2 ≠ p) :
    Calls Tryz.prog 135 #[.slice (some ⟨b, o, none⟩) 128 c, markV e s p i n z] w fun x w' => x = .returned (.tuple #[.slice none 0 0, .bool false]) ∧ Below w.heap.size w w' := by
  have g : ((a2 : Int) == (p : Int)) = false := by simp; omega
  clear hne
  have HX : Hid (xs.length = 128) := hx
  have HB : Hid (BIn w (some ⟨b, o, none⟩) xs) := hb
  have HCM : Hid (c ≤ maxLen) := hcm
  have h16c : (16 : Int) < c := by omega
  have hcI : (128 : Int) ≤ c := by omega
  have HC : Hid (128 ≤ c) := hc
  have HM : Hid (markOfN xs = .agg #[.int .u32 e, .int .u32 s, .int .u32 a2, .int .i64 a3, .int .i64 a4, .int .i64 k]) := hm
  clear hx hb hc hcm hm
  unfold markV
  go_enter Tryz.func135, Tryz.ntmps135
  go_wp2_with fail
  refine (markOf_any (some ⟨b, o, none⟩) xs 128 c _ HX.out.symm (by have := HX.out; omega) HC.out (HB.out.alloc _)).mono ?_
  rintro x w1 ⟨ex, hb1⟩
  rw [HM.out] at ex
  subst ex
  have hbw : Below (w.alloc (.cells #[.int .u32 e, .int .u32 s, .int .u32 p, .int .i64 i, .int .i64 n, .int .i64 z] 131)).heap.size (w.alloc (.cells #[.int .u32 e, .int .u32 s, .int .u32 p, .int .i64 i, .int .i64 n, .int .i64 z] 131)) w1 := hb1
  have hbx : w1.heap[w.heap.size]? = some (.cells #[.int .u32 e, .int .u32 s, .int .u32 p, .int .i64 i, .int .i64 n, .int .i64 z] 131 (0, 0)) := (hbw.block _ (by simp)).trans (heap_alloc_new w _)
  have hlt : w.heap.size < w1.heap.size := lt_heap hbx
  have q0 : w1.cell? ⟨w.heap.size, 0, none⟩ = some (.int .u32 e) := cell_of_row w1 _ 0 _ _ _ hbx
  have q1 : w1.cell? ⟨w.heap.size, 1, none⟩ = some (.int .u32 s) := cell_of_row w1 _ 1 _ _ _ hbx
  have q2 : w1.cell? ⟨w.heap.size, 2, none⟩ = some (.int .u32 p) := cell_of_row w1 _ 2 _ _ _ hbx
  have q3 : w1.cell? ⟨w.heap.size, 3, none⟩ = some (.int .i64 i) := cell_of_row w1 _ 3 _ _ _ hbx
  have q4 : w1.cell? ⟨w.heap.size, 4, none⟩ = some (.int .i64 n) := cell_of_row w1 _ 4 _ _ _ hbx
  have q5 : w1.cell? ⟨w.heap.size, 5, none⟩ = some (.int .i64 z) := cell_of_row w1 _ 5 _ _ _ hbx
  have f5 : w1.frozen? ⟨w.heap.size, 5, none⟩ = false := by simp [World.frozen?, hbx]
  have HW1 : Hid (Below w.heap.size w w1) := (below_alloc w _).trans (hbw.mono (by simp))
  have HZ : Hid (Below w.heap.size w ((w1.setCell ⟨w.heap.size, 5, none⟩ (.int .i64 k)).alloc (.cells #[.int .u32 e, .int .u32 s, .int .u32 a2, .int .i64 a3, .int .i64 a4, .int .i64 k] 131))) := (HW1.out.setCell (Nat.le_refl _) _).alloc (by simp [World.setCell]; omega) _
  clear hbx hbw hb1
  go_wp2
  go_ret2
  exact ⟨rfl, HZ.out⟩
set_option maxRecDepth 8000 in
set_option maxHeartbeats 2000000 in
theorem part_ne3 (e s p i n z a3 a4 k : Nat) (b o c : Nat) (xs : List Nat) (w : World) (hx : xs.length = 128) (hc : 128 ≤ c) (hcm : c ≤ maxLen) (hb : BIn w (some ⟨b, o, none⟩) xs) (hm : markOfN xs = .agg #[.int .u32 e, .int .u32 s, .int .u32 p, .int .i64 a3, .int .i64 a4, .int .i64 k]) (hne : a3 ≠ i) :
    Calls Tryz.prog 135 #[.slice (some ⟨b, o, none⟩) 128 c, markV e s p i n z] w fun x w' => x = .returned (.tuple #[.slice none 0 0, .bool false]) ∧ Below w.heap.size w w' := by
  have g : ((a3 : Int) == (i : Int)) = false := by simp; omega
  clear hne
  have HX : Hid (xs.length = 128) := hx
  have HB : Hid (BIn w (some ⟨b, o, none⟩) xs) := hb
  have HCM : Hid (c ≤ maxLen) := hcm
  have h16c : (16 : Int) < c := by omega
  have hcI : (128 : Int) ≤ c := by omega
  have HC : Hid (128 ≤ c) := hc
  have HM : Hid (markOfN xs = .agg #[.int .u32 e, .int .u32 s, .int .u32 p, .int .i64 a3, .int .i64 a4, .int .i64 k]) := hm
  clear hx hb hc hcm hm
  unfold markV
  go_enter Tryz.func135, Tryz.ntmps135
  go_wp2_with fail
  refine (markOf_any (some ⟨b, o, none⟩) xs 128 c _ HX.out.symm (by have := HX.out; omega) HC.out (HB.out.alloc _)).mono ?_
  rintro x w1 ⟨ex, hb1⟩
  rw [HM.out] at ex
  subst ex
  have hbw : Below (w.alloc (.cells #[.int .u32 e, .int .u32 s, .int .u32 p, .int .i64 i, .int .i64 n, .int .i64 z] 131)).heap.size (w.alloc (.cells #[.int .u32 e, .int .u32 s, .int .u32 p, .int .i64 i, .int .i64 n, .int .i64 z] 131)) w1 := hb1
  have hbx : w1.heap[w.heap.size]? = some (.cells #[.int .u32 e, .int .u32 s, .int .u32 p, .int .i64 i, .int .i64 n, .int .i64 z] 131 (0, 0)) := (hbw.block _ (by simp)).trans (heap_alloc_new w _)
  have hlt : w.heap.size < w1.heap.size := lt_heap hbx
  have q0 : w1.cell? ⟨w.heap.size, 0, none⟩ = some (.int .u32 e) := cell_of_row w1 _ 0 _ _ _ hbx
  have q1 : w1.cell? ⟨w.heap.size, 1, none⟩ = some (.int .u32 s) := cell_of_row w1 _ 1 _ _ _ hbx
  have q2 : w1.cell? ⟨w.heap.size, 2, none⟩ = some (.int .u32 p) := cell_of_row w1 _ 2 _ _ _ hbx
  have q3 : w1.cell? ⟨w.heap.size, 3, none⟩ = some (.int .i64 i) := cell_of_row w1 _ 3 _ _ _ hbx
  have q4 : w1.cell? ⟨w.heap.size, 4, none⟩ = some (.int .i64 n) := cell_of_row w1 _ 4 _ _ _ hbx
  have q5 : w1.cell? ⟨w.heap.size, 5, none⟩ = some (.int .i64 z) := cell_of_row w1 _ 5 _ _ _ hbx
  have f5 : w1.frozen? ⟨w.heap.size, 5, none⟩ = false := by simp [World.frozen?, hbx]
  have HW1 : Hid (Below w.heap.size w w1) := (below_alloc w _).trans (hbw.mono (by simp))
  have HZ : Hid (Below w.heap.size w ((w1.setCell ⟨w.heap.size, 5, none⟩ (.int .i64 k)).alloc (.cells #[.int .u32 e, .int .u32 s, .int .u32 p, .int .i64 a3, .int .i64 a4, .int .i64 k] 131))) := (HW1.out.setCell (Nat.le_refl _) _).alloc (by simp [World.setCell]; omega) _
  clear hbx hbw hb1
  go_wp2
  go_ret2
  exact ⟨rfl, HZ.out⟩
set_option maxRecDepth 8000 in
set_option maxHeartbeats 2000000 in
theorem part_ne4 (e s p i n z a4 k : Nat) (b o c : Nat) (xs : List Nat) (w : World) (hx : xs.length = 128) (hc : 128 ≤ c) (hcm : c ≤ maxLen) (hb : BIn w (some ⟨b, o, none⟩) xs) (hm : markOfN xs = .agg #[.int .u32 e, .int .u32 s, .int .u32 p, .int .i64 i, .int .i64 a4, .int .i64 k]) (hne : a4 ≠ n) :
    Calls Tryz.prog 135 #[.slice (some ⟨b, o, none⟩) 128 c, markV e s p i n z] w fun x w' => x = .returned (.tuple #[.slice none 0 0, .bool false]) ∧ Below w.heap.size w w' := by
  have g : ((a4 : Int) == (n : Int)) = false := by simp; omega
  clear hne
  have HX : Hid (xs.length = 128) := hx
  have HB : Hid (BIn w (some ⟨b, o, none⟩) xs) := hb
  have HCM : Hid (c ≤ maxLen) := hcm
  have h16c : (16 : Int) < c := by omega
  have hcI : (128 : Int) ≤ c := by omega
  have HC : Hid (128 ≤ c) := hc
  have HM : Hid (markOfN xs = .agg #[.int .u32 e, .int .u32 s, .int .u32 p, .int .i64 i, .int .i64 a4, .int .i64 k]) := hm
  clear hx hb hc hcm hm
  unfold markV
  go_enter Tryz.func135, Tryz.ntmps135
  go_wp2_with fail
  refine (markOf_any (some ⟨b, o, none⟩) xs 128 c _ HX.out.symm (by have := HX.out; omega) HC.out (HB.out.alloc _)).mono ?_
  rintro x w1 ⟨ex, hb1⟩
  rw [HM.out] at ex
  subst ex
  have hbw : Below (w.alloc (.cells #[.int .u32 e, .int .u32 s, .int .u32 p, .int .i64 i, .int .i64 n, .int .i64 z] 131)).heap.size (w.alloc (.cells #[.int .u32 e, .int .u32 s, .int .u32 p, .int .i64 i, .int .i64 n, .int .i64 z] 131)) w1 := hb1
  have hbx : w1.heap[w.heap.size]? = some (.cells #[.int .u32 e, .int .u32 s, .int .u32 p, .int .i64 i, .int .i64 n, .int .i64 z] 131 (0, 0)) := (hbw.block _ (by simp)).trans (heap_alloc_new w _)
  have hlt : w.heap.size < w1.heap.size := lt_heap hbx
  have q0 : w1.cell? ⟨w.heap.size, 0, none⟩ = some (.int .u32 e) := cell_of_row w1 _ 0 _ _ _ hbx
  have q1 : w1.cell? ⟨w.heap.size, 1, none⟩ = some (.int .u32 s) := cell_of_row w1 _ 1 _ _ _ hbx
  have q2 : w1.cell? ⟨w.heap.size, 2, none⟩ = some (.int .u32 p) := cell_of_row w1 _ 2 _ _ _ hbx
  have q3 : w1.cell? ⟨w.heap.size, 3, none⟩ = some (.int .i64 i) := cell_of_row w1 _ 3 _ _ _ hbx
  have q4 : w1.cell? ⟨w.heap.size, 4, none⟩ = some (.int .i64 n) := cell_of_row w1 _ 4 _ _ _ hbx
  have q5 : w1.cell? ⟨w.heap.size, 5, none⟩ = some (.int .i64 z) := cell_of_row w1 _ 5 _ _ _ hbx
  have f5 : w1.frozen? ⟨w.heap.size, 5, none⟩ = false := by simp [World.frozen?, hbx]
  have HW1 : Hid (Below w.heap.size w w1) := (below_alloc w _).trans (hbw.mono (by simp))
  have HZ : Hid (Below w.heap.size w ((w1.setCell ⟨w.heap.size, 5, none⟩ (.int .i64 k)).alloc (.cells #[.int .u32 e, .int .u32 s, .int .u32 p, .int .i64 i, .int .i64 a4, .int .i64 k] 131))) := (HW1.out.setCell (Nat.le_refl _) _).alloc (by simp [World.setCell]; omega) _
  clear hbx hbw hb1
  go_wp2
  go_ret2
  exact ⟨rfl, HZ.out⟩
set_option maxRecDepth 8000 in
set_option maxHeartbeats 2000000 in
theorem part_few0 (e s p i n z k : Nat) (b o c : Nat) (xs : List Nat) (w : World) (hx : xs.length = 128) (hc : 128 ≤ c) (hcm : c ≤ maxLen) (hb : BIn w (some ⟨b, o, none⟩) xs) (hm : markOfN xs = .agg #[.int .u32 e, .int .u32 s, .int .u32 p, .int .i64 i, .int .i64 n, .int .i64 k]) (hi : i < 256) (hn : n < 256) (h1 : i + 1 < n) (hk : k < 112) :
    Calls Tryz.prog 135 #[.slice (some ⟨b, o, none⟩) 128 c, markV e s p i n z] w fun x w' => x = .returned (.tuple #[.slice none 0 0, .bool false]) ∧ Below w.heap.size w w' := by
  have g : decide ((k : Int) < 112) = true := decide_eq_true (by omega)
  have gk : (k : Int) < 112 := by omega
  clear hk
  have HI : Hid (i < 256 ∧ n < 256) := ⟨hi, hn⟩
  have HP : Hid (placeN i n = 0) := by show _ = _; unfold placeN; rw [if_pos h1]
  clear hi hn h1
  have HX : Hid (xs.length = 128) := hx
  have HB : Hid (BIn w (some ⟨b, o, none⟩) xs) := hb
  have HCM : Hid (c ≤ maxLen) := hcm
  have h16c : (16 : Int) < c := by omega
  have hcI : (128 : Int) ≤ c := by omega
  have HC : Hid (128 ≤ c) := hc
  have HM : Hid (markOfN xs = .agg #[.int .u32 e, .int .u32 s, .int .u32 p, .int .i64 i, .int .i64 n, .int .i64 k]) := hm
  clear hx hb hc hcm hm
  unfold markV
  go_enter Tryz.func135, Tryz.ntmps135
  go_wp2_with fail
  refine (markOf_any (some ⟨b, o, none⟩) xs 128 c _ HX.out.symm (by have := HX.out; omega) HC.out (HB.out.alloc _)).mono ?_
  rintro x w1 ⟨ex, hb1⟩
  rw [HM.out] at ex
  subst ex
  have hbw : Below (w.alloc (.cells #[.int .u32 e, .int .u32 s, .int .u32 p, .int .i64 i, .int .i64 n, .int .i64 z] 131)).heap.size (w.alloc (.cells #[.int .u32 e, .int .u32 s, .int .u32 p, .int .i64 i, .int .i64 n, .int .i64 z] 131)) w1 := hb1
  have hbx : w1.heap[w.heap.size]? = some (.cells #[.int .u32 e, .int .u32 s, .int .u32 p, .int .i64 i, .int .i64 n, .int .i64 z] 131 (0, 0)) := (hbw.block _ (by simp)).trans (heap_alloc_new w _)
  have hlt : w.heap.size < w1.heap.size := lt_heap hbx
  have q0 : w1.cell? ⟨w.heap.size, 0, none⟩ = some (.int .u32 e) := cell_of_row w1 _ 0 _ _ _ hbx
  have q1 : w1.cell? ⟨w.heap.size, 1, none⟩ = some (.int .u32 s) := cell_of_row w1 _ 1 _ _ _ hbx
  have q2 : w1.cell? ⟨w.heap.size, 2, none⟩ = some (.int .u32 p) := cell_of_row w1 _ 2 _ _ _ hbx
  have q3 : w1.cell? ⟨w.heap.size, 3, none⟩ = some (.int .i64 i) := cell_of_row w1 _ 3 _ _ _ hbx
  have q4 : w1.cell? ⟨w.heap.size, 4, none⟩ = some (.int .i64 n) := cell_of_row w1 _ 4 _ _ _ hbx
  have q5 : w1.cell? ⟨w.heap.size, 5, none⟩ = some (.int .i64 z) := cell_of_row w1 _ 5 _ _ _ hbx
  have f5 : w1.frozen? ⟨w.heap.size, 5, none⟩ = false := by simp [World.frozen?, hbx]
  have HW1 : Hid (Below w.heap.size w w1) := (below_alloc w _).trans (hbw.mono (by simp))
  have HZ : Hid (Below w.heap.size w ((w1.setCell ⟨w.heap.size, 5, none⟩ (.int .i64 k)).alloc (.cells #[.int .u32 e, .int .u32 s, .int .u32 p, .int .i64 i, .int .i64 n, .int .i64 k] 131))) := (HW1.out.setCell (Nat.le_refl _) _).alloc (by simp [World.setCell]; omega) _
  clear hbx hbw hb1
  go_wp2_with fail
  refine (place_any e s p i n k 0 _ HI.out.1 HI.out.2 HP.out).mono ?_
  rintro x w2 ⟨ex, hb2⟩
  subst ex
  have hZ := HZ.out
  have hsz2 := hb2.size
  have hszZ : (w1.setCell ⟨w.heap.size, 5, none⟩ (.int .i64 k)).heap.size = w1.heap.size := by simp [World.setCell]
  have hbm : w2.heap[w1.heap.size]? = some (.cells #[.int .u32 e, .int .u32 s, .int .u32 p, .int .i64 i, .int .i64 n, .int .i64 k] 131 (0, 0)) := by
    have h3 := heap_alloc_new (w1.setCell ⟨w.heap.size, 5, none⟩ (.int .i64 k)) (.cells #[.int .u32 e, .int .u32 s, .int .u32 p, .int .i64 i, .int .i64 n, .int .i64 k] 131)
    rw [hszZ] at h3
    exact (hb2.block _ (by rw [World.size_alloc, hszZ]; omega)).trans h3
  have m5 : w2.cell? ⟨w1.heap.size, 5, none⟩ = some (.int .i64 k) := cell_of_row w2 _ 5 _ _ _ hbm
  have HZ2 : Hid (Below w.heap.size w w2) := hZ.trans (hb2.mono hZ.size)
  clear hbm hb2 hZ HZ q0 q1 q2 q3 q4 q5 f5 hszZ
  go_wp2
  go_ret2
  exact ⟨rfl, HZ2.out⟩
set_option maxRecDepth 8000 in
set_option maxHeartbeats 2000000 in
set_option linter.unusedVariables false in
theorem part_many0 (e s p i n z k : Nat) (b o c : Nat) (xs : List Nat) (w : World) (hx : xs.length = 128) (hc : 128 ≤ c) (hcm : c ≤ maxLen) (hb : BIn w (some ⟨b, o, none⟩) xs) (hm : markOfN xs = .agg #[.int .u32 e, .int .u32 s, .int .u32 p, .int .i64 i, .int .i64 n, .int .i64 k]) (hi : i < 256) (hn : n < 256) (h1 : i + 1 < n) (_hk0 : 112 ≤ k) (hk : 112 < k) :
    Calls Tryz.prog 135 #[.slice (some ⟨b, o, none⟩) 128 c, markV e s p i n z] w fun x w' => x = .returned (.tuple #[.slice none 0 0, .bool false]) ∧ Below w.heap.size w w' := by
  have g0 : decide ((k : Int) < 112) = false := decide_eq_false (by omega)
  have g0' : ¬ (k : Int) < 112 := by omega
  have g00 : ((k : Int) == 0) = false := by simp; omega
  clear _hk0
  have gk : (112 : Int) < k := by omega
  clear hk
  have HI : Hid (i < 256 ∧ n < 256) := ⟨hi, hn⟩
  have HP : Hid (placeN i n = 0) := by show _ = _; unfold placeN; rw [if_pos h1]
  clear hi hn h1
  have HX : Hid (xs.length = 128) := hx
  have HB : Hid (BIn w (some ⟨b, o, none⟩) xs) := hb
  have HCM : Hid (c ≤ maxLen) := hcm
  have h16c : (16 : Int) < c := by omega
  have hcI : (128 : Int) ≤ c := by omega
  have HC : Hid (128 ≤ c) := hc
  have HM : Hid (markOfN xs = .agg #[.int .u32 e, .int .u32 s, .int .u32 p, .int .i64 i, .int .i64 n, .int .i64 k]) := hm
  clear hx hb hc hcm hm
  unfold markV
  go_enter Tryz.func135, Tryz.ntmps135
  go_wp2_with fail
  refine (markOf_any (some ⟨b, o, none⟩) xs 128 c _ HX.out.symm (by have := HX.out; omega) HC.out (HB.out.alloc _)).mono ?_
  rintro x w1 ⟨ex, hb1⟩
  rw [HM.out] at ex
  subst ex
  have hbw : Below (w.alloc (.cells #[.int .u32 e, .int .u32 s, .int .u32 p, .int .i64 i, .int .i64 n, .int .i64 z] 131)).heap.size (w.alloc (.cells #[.int .u32 e, .int .u32 s, .int .u32 p, .int .i64 i, .int .i64 n, .int .i64 z] 131)) w1 := hb1
  have hbx : w1.heap[w.heap.size]? = some (.cells #[.int .u32 e, .int .u32 s, .int .u32 p, .int .i64 i, .int .i64 n, .int .i64 z] 131 (0, 0)) := (hbw.block _ (by simp)).trans (heap_alloc_new w _)
  have hlt : w.heap.size < w1.heap.size := lt_heap hbx
  have q0 : w1.cell? ⟨w.heap.size, 0, none⟩ = some (.int .u32 e) := cell_of_row w1 _ 0 _ _ _ hbx
  have q1 : w1.cell? ⟨w.heap.size, 1, none⟩ = some (.int .u32 s) := cell_of_row w1 _ 1 _ _ _ hbx
  have q2 : w1.cell? ⟨w.heap.size, 2, none⟩ = some (.int .u32 p) := cell_of_row w1 _ 2 _ _ _ hbx
  have q3 : w1.cell? ⟨w.heap.size, 3, none⟩ = some (.int .i64 i) := cell_of_row w1 _ 3 _ _ _ hbx
  have q4 : w1.cell? ⟨w.heap.size, 4, none⟩ = some (.int .i64 n) := cell_of_row w1 _ 4 _ _ _ hbx
  have q5 : w1.cell? ⟨w.heap.size, 5, none⟩ = some (.int .i64 z) := cell_of_row w1 _ 5 _ _ _ hbx
  have f5 : w1.frozen? ⟨w.heap.size, 5, none⟩ = false := by simp [World.frozen?, hbx]
  have HW1 : Hid (Below w.heap.size w w1) := (below_alloc w _).trans (hbw.mono (by simp))
  have HZ : Hid (Below w.heap.size w ((w1.setCell ⟨w.heap.size, 5, none⟩ (.int .i64 k)).alloc (.cells #[.int .u32 e, .int .u32 s, .int .u32 p, .int .i64 i, .int .i64 n, .int .i64 k] 131))) := (HW1.out.setCell (Nat.le_refl _) _).alloc (by simp [World.setCell]; omega) _
  clear hbx hbw hb1
  go_wp2_with fail
  refine (place_any e s p i n k 0 _ HI.out.1 HI.out.2 HP.out).mono ?_
  rintro x w2 ⟨ex, hb2⟩
  subst ex
  have hZ := HZ.out
  have hsz2 := hb2.size
  have hszZ : (w1.setCell ⟨w.heap.size, 5, none⟩ (.int .i64 k)).heap.size = w1.heap.size := by simp [World.setCell]
  have hbm : w2.heap[w1.heap.size]? = some (.cells #[.int .u32 e, .int .u32 s, .int .u32 p, .int .i64 i, .int .i64 n, .int .i64 k] 131 (0, 0)) := by
    have h3 := heap_alloc_new (w1.setCell ⟨w.heap.size, 5, none⟩ (.int .i64 k)) (.cells #[.int .u32 e, .int .u32 s, .int .u32 p, .int .i64 i, .int .i64 n, .int .i64 k] 131)
    rw [hszZ] at h3
    exact (hb2.block _ (by rw [World.size_alloc, hszZ]; omega)).trans h3
  have m5 : w2.cell? ⟨w1.heap.size, 5, none⟩ = some (.int .i64 k) := cell_of_row w2 _ 5 _ _ _ hbm
  have HZ2 : Hid (Below w.heap.size w w2) := hZ.trans (hb2.mono hZ.size)
  clear hbm hb2 hZ HZ q0 q1 q2 q3 q4 q5 f5 hszZ
  go_wp2
  go_ret2
  exact ⟨rfl, HZ2.out⟩
set_option maxRecDepth 8000 in
set_option maxHeartbeats 2000000 in
theorem part_z0t1 (e s p i n z : Nat) (b o : Nat) (xs : List Nat) (w : World) (hx : xs.length = 128) (hb : BIn w (some ⟨b, o, none⟩) xs) (hm : markOfN xs = .agg #[.int .u32 e, .int .u32 s, .int .u32 p, .int .i64 i, .int .i64 n, .int .i64 112]) (hi : i < 256) (hn : n < 256) (h1 : i + 1 < n) :
    Calls Tryz.prog 135 #[.slice (some ⟨b, o, none⟩) 128 128, markV e s p i n z] w fun x w' => x = .returned (.tuple #[.slice (some ⟨b, o + 16, none⟩) (16 + 112 - 16) (128 - 16), .bool true]) ∧ Below w.heap.size w w' := by
  have HI : Hid (i < 256 ∧ n < 256) := ⟨hi, hn⟩
  have HP : Hid (placeN i n = 0) := by show _ = _; unfold placeN; rw [if_pos h1]
  clear hi hn h1
  have HX : Hid (xs.length = 128) := hx
  have HB : Hid (BIn w (some ⟨b, o, none⟩) xs) := hb
  have HM : Hid (markOfN xs = .agg #[.int .u32 e, .int .u32 s, .int .u32 p, .int .i64 i, .int .i64 n, .int .i64 112]) := hm
  clear hx hb hm
  unfold markV
  go_enter Tryz.func135, Tryz.ntmps135
  go_wp2_with fail
  refine (markOf_any (some ⟨b, o, none⟩) xs 128 128 _ HX.out.symm (by have := HX.out; omega) (Nat.le_refl _) (HB.out.alloc _)).mono ?_
  rintro x w1 ⟨ex, hb1⟩
  rw [HM.out] at ex
  subst ex
  have hbw : Below (w.alloc (.cells #[.int .u32 e, .int .u32 s, .int .u32 p, .int .i64 i, .int .i64 n, .int .i64 z] 131)).heap.size (w.alloc (.cells #[.int .u32 e, .int .u32 s, .int .u32 p, .int .i64 i, .int .i64 n, .int .i64 z] 131)) w1 := hb1
  have hbx : w1.heap[w.heap.size]? = some (.cells #[.int .u32 e, .int .u32 s, .int .u32 p, .int .i64 i, .int .i64 n, .int .i64 z] 131 (0, 0)) := (hbw.block _ (by simp)).trans (heap_alloc_new w _)
  have hlt : w.heap.size < w1.heap.size := lt_heap hbx
  have q0 : w1.cell? ⟨w.heap.size, 0, none⟩ = some (.int .u32 e) := cell_of_row w1 _ 0 _ _ _ hbx
  have q1 : w1.cell? ⟨w.heap.size, 1, none⟩ = some (.int .u32 s) := cell_of_row w1 _ 1 _ _ _ hbx
  have q2 : w1.cell? ⟨w.heap.size, 2, none⟩ = some (.int .u32 p) := cell_of_row w1 _ 2 _ _ _ hbx
  have q3 : w1.cell? ⟨w.heap.size, 3, none⟩ = some (.int .i64 i) := cell_of_row w1 _ 3 _ _ _ hbx
  have q4 : w1.cell? ⟨w.heap.size, 4, none⟩ = some (.int .i64 n) := cell_of_row w1 _ 4 _ _ _ hbx
  have q5 : w1.cell? ⟨w.heap.size, 5, none⟩ = some (.int .i64 z) := cell_of_row w1 _ 5 _ _ _ hbx
  have f5 : w1.frozen? ⟨w.heap.size, 5, none⟩ = false := by simp [World.frozen?, hbx]
  have HW1 : Hid (Below w.heap.size w w1) := (below_alloc w _).trans (hbw.mono (by simp))
  have HZ : Hid (Below w.heap.size w ((w1.setCell ⟨w.heap.size, 5, none⟩ (.int .i64 112)).alloc (.cells #[.int .u32 e, .int .u32 s, .int .u32 p, .int .i64 i, .int .i64 n, .int .i64 112] 131))) := (HW1.out.setCell (Nat.le_refl _) _).alloc (by simp [World.setCell]; omega) _
  clear hbx hbw hb1
  go_wp2_with fail
  refine (place_any e s p i n 112 0 _ HI.out.1 HI.out.2 HP.out).mono ?_
  rintro x w2 ⟨ex, hb2⟩
  subst ex
  have hZ := HZ.out
  have hsz2 := hb2.size
  have hszZ : (w1.setCell ⟨w.heap.size, 5, none⟩ (.int .i64 112)).heap.size = w1.heap.size := by simp [World.setCell]
  have hbm : w2.heap[w1.heap.size]? = some (.cells #[.int .u32 e, .int .u32 s, .int .u32 p, .int .i64 i, .int .i64 n, .int .i64 112] 131 (0, 0)) := by
    have h3 := heap_alloc_new (w1.setCell ⟨w.heap.size, 5, none⟩ (.int .i64 112)) (.cells #[.int .u32 e, .int .u32 s, .int .u32 p, .int .i64 i, .int .i64 n, .int .i64 112] 131)
    rw [hszZ] at h3
    exact (hb2.block _ (by rw [World.size_alloc, hszZ]; omega)).trans h3
  have m5 : w2.cell? ⟨w1.heap.size, 5, none⟩ = some (.int .i64 112) := cell_of_row w2 _ 5 _ _ _ hbm
  have HZ2 : Hid (Below w.heap.size w w2) := hZ.trans (hb2.mono hZ.size)
  clear hbm hb2 hZ HZ q0 q1 q2 q3 q4 q5 f5 hszZ
  go_wp2_with fail
  refine (noughts_any _ [] _ _ true _ (by simp) (by simp) (by simp [maxLen]) (drop_in0 rfl) (by simp)).mono ?_
  rintro x w3 ⟨ex, ew⟩
  subst ex
  subst ew
  go_wp2
  go_ret2
  exact ⟨rfl, HZ2.out⟩
set_option maxRecDepth 8000 in
set_option maxHeartbeats 2000000 in
theorem part_z0f0 (e s p i n z k : Nat) (b o c : Nat) (xs : List Nat) (w : World) (hx : xs.length = 128) (hc : 128 ≤ c) (hcm : c ≤ maxLen) (hb : BIn w (some ⟨b, o, none⟩) xs) (hm : markOfN xs = .agg #[.int .u32 e, .int .u32 s, .int .u32 p, .int .i64 i, .int .i64 n, .int .i64 k]) (hi : i < 256) (hn : n < 256) (h1 : i + 1 < n) (_hk0 : 112 ≤ k) (hk : k ≤ 112) (hz : allZ (xs.drop (16 + k)) = false) (hcc : ¬ c = 16 + k) :
    Calls Tryz.prog 135 #[.slice (some ⟨b, o, none⟩) 128 c, markV e s p i n z] w fun x w' => x = .returned (.tuple #[.slice none 0 0, .bool false]) ∧ Below w.heap.size w w' := by
  have g0 : decide ((k : Int) < 112) = false := decide_eq_false (by omega)
  have g0' : ¬ (k : Int) < 112 := by omega
  have g00 : ((k : Int) == 0) = false := by simp; omega
  clear _hk0
  have gk : (k : Int) ≤ 112 := by omega
  have gk' : ¬ (112 : Int) < k := by omega
  have w16 : IntKind.i64.wrap (16 + (k : Int)) = 16 + (k : Int) := by rw [IntKind.wrap_i64]; omega
  have hkc : 16 + (k : Int) ≤ c := by omega
  have HK : Hid (k ≤ 112) := hk
  have HNZ : Hid (allZ (xs.drop (16 + k)) = false) := hz
  have HCC : Hid (¬ c = 16 + k) := hcc
  clear hk hz
  have HI : Hid (i < 256 ∧ n < 256) := ⟨hi, hn⟩
  have HP : Hid (placeN i n = 0) := by show _ = _; unfold placeN; rw [if_pos h1]
  clear hi hn h1
  have HX : Hid (xs.length = 128) := hx
  have HB : Hid (BIn w (some ⟨b, o, none⟩) xs) := hb
  have HCM : Hid (c ≤ maxLen) := hcm
  have h16c : (16 : Int) < c := by omega
  have hcI : (128 : Int) ≤ c := by omega
  have HC : Hid (128 ≤ c) := hc
  have HM : Hid (markOfN xs = .agg #[.int .u32 e, .int .u32 s, .int .u32 p, .int .i64 i, .int .i64 n, .int .i64 k]) := hm
  clear hx hb hc hcm hm
  unfold markV
  go_enter Tryz.func135, Tryz.ntmps135
  go_wp2_with fail
  refine (markOf_any (some ⟨b, o, none⟩) xs 128 c _ HX.out.symm (by have := HX.out; omega) HC.out (HB.out.alloc _)).mono ?_
  rintro x w1 ⟨ex, hb1⟩
  rw [HM.out] at ex
  subst ex
  have hbw : Below (w.alloc (.cells #[.int .u32 e, .int .u32 s, .int .u32 p, .int .i64 i, .int .i64 n, .int .i64 z] 131)).heap.size (w.alloc (.cells #[.int .u32 e, .int .u32 s, .int .u32 p, .int .i64 i, .int .i64 n, .int .i64 z] 131)) w1 := hb1
  have hbx : w1.heap[w.heap.size]? = some (.cells #[.int .u32 e, .int .u32 s, .int .u32 p, .int .i64 i, .int .i64 n, .int .i64 z] 131 (0, 0)) := (hbw.block _ (by simp)).trans (heap_alloc_new w _)
  have hlt : w.heap.size < w1.heap.size := lt_heap hbx
  have q0 : w1.cell? ⟨w.heap.size, 0, none⟩ = some (.int .u32 e) := cell_of_row w1 _ 0 _ _ _ hbx
  have q1 : w1.cell? ⟨w.heap.size, 1, none⟩ = some (.int .u32 s) := cell_of_row w1 _ 1 _ _ _ hbx
  have q2 : w1.cell? ⟨w.heap.size, 2, none⟩ = some (.int .u32 p) := cell_of_row w1 _ 2 _ _ _ hbx
  have q3 : w1.cell? ⟨w.heap.size, 3, none⟩ = some (.int .i64 i) := cell_of_row w1 _ 3 _ _ _ hbx
  have q4 : w1.cell? ⟨w.heap.size, 4, none⟩ = some (.int .i64 n) := cell_of_row w1 _ 4 _ _ _ hbx
  have q5 : w1.cell? ⟨w.heap.size, 5, none⟩ = some (.int .i64 z) := cell_of_row w1 _ 5 _ _ _ hbx
  have f5 : w1.frozen? ⟨w.heap.size, 5, none⟩ = false := by simp [World.frozen?, hbx]
  have HW1 : Hid (Below w.heap.size w w1) := (below_alloc w _).trans (hbw.mono (by simp))
  have HZ : Hid (Below w.heap.size w ((w1.setCell ⟨w.heap.size, 5, none⟩ (.int .i64 k)).alloc (.cells #[.int .u32 e, .int .u32 s, .int .u32 p, .int .i64 i, .int .i64 n, .int .i64 k] 131))) := (HW1.out.setCell (Nat.le_refl _) _).alloc (by simp [World.setCell]; omega) _
  clear hbx hbw hb1
  go_wp2_with fail
  refine (place_any e s p i n k 0 _ HI.out.1 HI.out.2 HP.out).mono ?_
  rintro x w2 ⟨ex, hb2⟩
  subst ex
  have hZ := HZ.out
  have hsz2 := hb2.size
  have hszZ : (w1.setCell ⟨w.heap.size, 5, none⟩ (.int .i64 k)).heap.size = w1.heap.size := by simp [World.setCell]
  have hbm : w2.heap[w1.heap.size]? = some (.cells #[.int .u32 e, .int .u32 s, .int .u32 p, .int .i64 i, .int .i64 n, .int .i64 k] 131 (0, 0)) := by
    have h3 := heap_alloc_new (w1.setCell ⟨w.heap.size, 5, none⟩ (.int .i64 k)) (.cells #[.int .u32 e, .int .u32 s, .int .u32 p, .int .i64 i, .int .i64 n, .int .i64 k] 131)
    rw [hszZ] at h3
    exact (hb2.block _ (by rw [World.size_alloc, hszZ]; omega)).trans h3
  have m5 : w2.cell? ⟨w1.heap.size, 5, none⟩ = some (.int .i64 k) := cell_of_row w2 _ 5 _ _ _ hbm
  have HZ2 : Hid (Below w.heap.size w w2) := hZ.trans (hb2.mono hZ.size)
  clear hbm hb2 hZ HZ q0 q1 q2 q3 q4 q5 f5 hszZ
  have HBZ : Hid (BIn w2 (some ⟨b, o, none⟩) xs) := HB.out.below HZ2.out
  go_wp2_with fail
  refine (noughts_any _ (xs.drop (16 + k)) _ _ false _ (by rw [List.length_drop, HX.out]; try omega) (by have := HC.out; have := HCC.out; omega) (by have := HCM.out; omega) (HBZ.out.drop' (16 + k)) HNZ.out).mono ?_
  rintro x w3 ⟨ex, ew⟩
  subst ex
  subst ew
  go_wp2
  go_ret2
  exact ⟨rfl, HZ2.out⟩
set_option maxRecDepth 8000 in
set_option maxHeartbeats 2000000 in
theorem part_z0t0 (e s p i n z k : Nat) (b o c : Nat) (xs : List Nat) (w : World) (hx : xs.length = 128) (hc : 128 ≤ c) (hcm : c ≤ maxLen) (hb : BIn w (some ⟨b, o, none⟩) xs) (hm : markOfN xs = .agg #[.int .u32 e, .int .u32 s, .int .u32 p, .int .i64 i, .int .i64 n, .int .i64 k]) (hi : i < 256) (hn : n < 256) (h1 : i + 1 < n) (_hk0 : 112 ≤ k) (hk : k ≤ 112) (hz : allZ (xs.drop (16 + k)) = true) (hcc : ¬ c = 16 + k) :
    Calls Tryz.prog 135 #[.slice (some ⟨b, o, none⟩) 128 c, markV e s p i n z] w fun x w' => x = .returned (.tuple #[.slice (some ⟨b, o + 16, none⟩) (16 + k - 16) (c - 16), .bool true]) ∧ Below w.heap.size w w' := by
  have g0 : decide ((k : Int) < 112) = false := decide_eq_false (by omega)
  have g0' : ¬ (k : Int) < 112 := by omega
  have g00 : ((k : Int) == 0) = false := by simp; omega
  clear _hk0
  have gk : (k : Int) ≤ 112 := by omega
  have gk' : ¬ (112 : Int) < k := by omega
  have w16 : IntKind.i64.wrap (16 + (k : Int)) = 16 + (k : Int) := by rw [IntKind.wrap_i64]; omega
  have hkc : 16 + (k : Int) ≤ c := by omega
  have HK : Hid (k ≤ 112) := hk
  have HNZ : Hid (allZ (xs.drop (16 + k)) = true) := hz
  have HCC : Hid (¬ c = 16 + k) := hcc
  clear hk hz
  have HI : Hid (i < 256 ∧ n < 256) := ⟨hi, hn⟩
  have HP : Hid (placeN i n = 0) := by show _ = _; unfold placeN; rw [if_pos h1]
  clear hi hn h1
  have HX : Hid (xs.length = 128) := hx
  have HB : Hid (BIn w (some ⟨b, o, none⟩) xs) := hb
  have HCM : Hid (c ≤ maxLen) := hcm
  have h16c : (16 : Int) < c := by omega
  have hcI : (128 : Int) ≤ c := by omega
  have HC : Hid (128 ≤ c) := hc
  have HM : Hid (markOfN xs = .agg #[.int .u32 e, .int .u32 s, .int .u32 p, .int .i64 i, .int .i64 n, .int .i64 k]) := hm
  clear hx hb hc hcm hm
  unfold markV
  go_enter Tryz.func135, Tryz.ntmps135
  go_wp2_with fail
  refine (markOf_any (some ⟨b, o, none⟩) xs 128 c _ HX.out.symm (by have := HX.out; omega) HC.out (HB.out.alloc _)).mono ?_
  rintro x w1 ⟨ex, hb1⟩
  rw [HM.out] at ex
  subst ex
  have hbw : Below (w.alloc (.cells #[.int .u32 e, .int .u32 s, .int .u32 p, .int .i64 i, .int .i64 n, .int .i64 z] 131)).heap.size (w.alloc (.cells #[.int .u32 e, .int .u32 s, .int .u32 p, .int .i64 i, .int .i64 n, .int .i64 z] 131)) w1 := hb1
  have hbx : w1.heap[w.heap.size]? = some (.cells #[.int .u32 e, .int .u32 s, .int .u32 p, .int .i64 i, .int .i64 n, .int .i64 z] 131 (0, 0)) := (hbw.block _ (by simp)).trans (heap_alloc_new w _)
  have hlt : w.heap.size < w1.heap.size := lt_heap hbx
  have q0 : w1.cell? ⟨w.heap.size, 0, none⟩ = some (.int .u32 e) := cell_of_row w1 _ 0 _ _ _ hbx
  have q1 : w1.cell? ⟨w.heap.size, 1, none⟩ = some (.int .u32 s) := cell_of_row w1 _ 1 _ _ _ hbx
  have q2 : w1.cell? ⟨w.heap.size, 2, none⟩ = some (.int .u32 p) := cell_of_row w1 _ 2 _ _ _ hbx
  have q3 : w1.cell? ⟨w.heap.size, 3, none⟩ = some (.int .i64 i) := cell_of_row w1 _ 3 _ _ _ hbx
  have q4 : w1.cell? ⟨w.heap.size, 4, none⟩ = some (.int .i64 n) := cell_of_row w1 _ 4 _ _ _ hbx
  have q5 : w1.cell? ⟨w.heap.size, 5, none⟩ = some (.int .i64 z) := cell_of_row w1 _ 5 _ _ _ hbx
  have f5 : w1.frozen? ⟨w.heap.size, 5, none⟩ = false := by simp [World.frozen?, hbx]
  have HW1 : Hid (Below w.heap.size w w1) := (below_alloc w _).trans (hbw.mono (by simp))
  have HZ : Hid (Below w.heap.size w ((w1.setCell ⟨w.heap.size, 5, none⟩ (.int .i64 k)).alloc (.cells #[.int .u32 e, .int .u32 s, .int .u32 p, .int .i64 i, .int .i64 n, .int .i64 k] 131))) := (HW1.out.setCell (Nat.le_refl _) _).alloc (by simp [World.setCell]; omega) _
  clear hbx hbw hb1
  go_wp2_with fail
  refine (place_any e s p i n k 0 _ HI.out.1 HI.out.2 HP.out).mono ?_
  rintro x w2 ⟨ex, hb2⟩
  subst ex
  have hZ := HZ.out
  have hsz2 := hb2.size
  have hszZ : (w1.setCell ⟨w.heap.size, 5, none⟩ (.int .i64 k)).heap.size = w1.heap.size := by simp [World.setCell]
  have hbm : w2.heap[w1.heap.size]? = some (.cells #[.int .u32 e, .int .u32 s, .int .u32 p, .int .i64 i, .int .i64 n, .int .i64 k] 131 (0, 0)) := by
    have h3 := heap_alloc_new (w1.setCell ⟨w.heap.size, 5, none⟩ (.int .i64 k)) (.cells #[.int .u32 e, .int .u32 s, .int .u32 p, .int .i64 i, .int .i64 n, .int .i64 k] 131)
    rw [hszZ] at h3
    exact (hb2.block _ (by rw [World.size_alloc, hszZ]; omega)).trans h3
  have m5 : w2.cell? ⟨w1.heap.size, 5, none⟩ = some (.int .i64 k) := cell_of_row w2 _ 5 _ _ _ hbm
  have HZ2 : Hid (Below w.heap.size w w2) := hZ.trans (hb2.mono hZ.size)
  clear hbm hb2 hZ HZ q0 q1 q2 q3 q4 q5 f5 hszZ
  have HBZ : Hid (BIn w2 (some ⟨b, o, none⟩) xs) := HB.out.below HZ2.out
  go_wp2_with fail
  refine (noughts_any _ (xs.drop (16 + k)) _ _ true _ (by rw [List.length_drop, HX.out]; try omega) (by have := HC.out; have := HCC.out; omega) (by have := HCM.out; omega) (HBZ.out.drop' (16 + k)) HNZ.out).mono ?_
  rintro x w3 ⟨ex, ew⟩
  subst ex
  subst ew
  go_wp2
  go_ret2
  exact ⟨rfl, HZ2.out⟩
set_option maxRecDepth 8000 in
set_option maxHeartbeats 2000000 in
theorem part_few1 (e s p i n z k : Nat) (b o c : Nat) (xs : List Nat) (w : World) (hx : xs.length = 128) (hc : 128 ≤ c) (hcm : c ≤ maxLen) (hb : BIn w (some ⟨b, o, none⟩) xs) (hm : markOfN xs = .agg #[.int .u32 e, .int .u32 s, .int .u32 p, .int .i64 i, .int .i64 n, .int .i64 k]) (hi : i < 256) (hn : n < 256) (h1 : ¬ i + 1 < n) (h2 : 0 < i) (hk : k = 0) :
    Calls Tryz.prog 135 #[.slice (some ⟨b, o, none⟩) 128 c, markV e s p i n z] w fun x w' => x = .returned (.tuple #[.slice none 0 0, .bool false]) ∧ Below w.heap.size w w' := by
  have g : ((k : Int) == 0) = true := by simp; omega
  clear hk
  have HI : Hid (i < 256 ∧ n < 256) := ⟨hi, hn⟩
  have HP : Hid (placeN i n = 1) := by show _ = _; unfold placeN; rw [if_neg h1, if_pos h2]
  clear hi hn h1 h2
  have HX : Hid (xs.length = 128) := hx
  have HB : Hid (BIn w (some ⟨b, o, none⟩) xs) := hb
  have HCM : Hid (c ≤ maxLen) := hcm
  have h16c : (16 : Int) < c := by omega
  have hcI : (128 : Int) ≤ c := by omega
  have HC : Hid (128 ≤ c) := hc
  have HM : Hid (markOfN xs = .agg #[.int .u32 e, .int .u32 s, .int .u32 p, .int .i64 i, .int .i64 n, .int .i64 k]) := hm
  clear hx hb hc hcm hm
  unfold markV
  go_enter Tryz.func135, Tryz.ntmps135
  go_wp2_with fail
  refine (markOf_any (some ⟨b, o, none⟩) xs 128 c _ HX.out.symm (by have := HX.out; omega) HC.out (HB.out.alloc _)).mono ?_
  rintro x w1 ⟨ex, hb1⟩
  rw [HM.out] at ex
  subst ex
  have hbw : Below (w.alloc (.cells #[.int .u32 e, .int .u32 s, .int .u32 p, .int .i64 i, .int .i64 n, .int .i64 z] 131)).heap.size (w.alloc (.cells #[.int .u32 e, .int .u32 s, .int .u32 p, .int .i64 i, .int .i64 n, .int .i64 z] 131)) w1 := hb1
  have hbx : w1.heap[w.heap.size]? = some (.cells #[.int .u32 e, .int .u32 s, .int .u32 p, .int .i64 i, .int .i64 n, .int .i64 z] 131 (0, 0)) := (hbw.block _ (by simp)).trans (heap_alloc_new w _)
  have hlt : w.heap.size < w1.heap.size := lt_heap hbx
  have q0 : w1.cell? ⟨w.heap.size, 0, none⟩ = some (.int .u32 e) := cell_of_row w1 _ 0 _ _ _ hbx
  have q1 : w1.cell? ⟨w.heap.size, 1, none⟩ = some (.int .u32 s) := cell_of_row w1 _ 1 _ _ _ hbx
  have q2 : w1.cell? ⟨w.heap.size, 2, none⟩ = some (.int .u32 p) := cell_of_row w1 _ 2 _ _ _ hbx
  have q3 : w1.cell? ⟨w.heap.size, 3, none⟩ = some (.int .i64 i) := cell_of_row w1 _ 3 _ _ _ hbx
  have q4 : w1.cell? ⟨w.heap.size, 4, none⟩ = some (.int .i64 n) := cell_of_row w1 _ 4 _ _ _ hbx
  have q5 : w1.cell? ⟨w.heap.size, 5, none⟩ = some (.int .i64 z) := cell_of_row w1 _ 5 _ _ _ hbx
  have f5 : w1.frozen? ⟨w.heap.size, 5, none⟩ = false := by simp [World.frozen?, hbx]
  have HW1 : Hid (Below w.heap.size w w1) := (below_alloc w _).trans (hbw.mono (by simp))
  have HZ : Hid (Below w.heap.size w ((w1.setCell ⟨w.heap.size, 5, none⟩ (.int .i64 k)).alloc (.cells #[.int .u32 e, .int .u32 s, .int .u32 p, .int .i64 i, .int .i64 n, .int .i64 k] 131))) := (HW1.out.setCell (Nat.le_refl _) _).alloc (by simp [World.setCell]; omega) _
  clear hbx hbw hb1
  go_wp2_with fail
  refine (place_any e s p i n k 1 _ HI.out.1 HI.out.2 HP.out).mono ?_
  rintro x w2 ⟨ex, hb2⟩
  subst ex
  have hZ := HZ.out
  have hsz2 := hb2.size
  have hszZ : (w1.setCell ⟨w.heap.size, 5, none⟩ (.int .i64 k)).heap.size = w1.heap.size := by simp [World.setCell]
  have hbm : w2.heap[w1.heap.size]? = some (.cells #[.int .u32 e, .int .u32 s, .int .u32 p, .int .i64 i, .int .i64 n, .int .i64 k] 131 (0, 0)) := by
    have h3 := heap_alloc_new (w1.setCell ⟨w.heap.size, 5, none⟩ (.int .i64 k)) (.cells #[.int .u32 e, .int .u32 s, .int .u32 p, .int .i64 i, .int .i64 n, .int .i64 k] 131)
    rw [hszZ] at h3
    exact (hb2.block _ (by rw [World.size_alloc, hszZ]; omega)).trans h3
  have m5 : w2.cell? ⟨w1.heap.size, 5, none⟩ = some (.int .i64 k) := cell_of_row w2 _ 5 _ _ _ hbm
  have HZ2 : Hid (Below w.heap.size w w2) := hZ.trans (hb2.mono hZ.size)
  clear hbm hb2 hZ HZ q0 q1 q2 q3 q4 q5 f5 hszZ
  go_wp2
  go_ret2
  exact ⟨rfl, HZ2.out⟩
set_option maxRecDepth 8000 in
set_option maxHeartbeats 2000000 in
set_option linter.unusedVariables false in
theorem part_many1 (e s p i n z k : Nat) (b o c : Nat) (xs : List Nat) (w : World) (hx : xs.length = 128) (hc : 128 ≤ c) (hcm : c ≤ maxLen) (hb : BIn w (some ⟨b, o, none⟩) xs) (hm : markOfN xs = .agg #[.int .u32 e, .int .u32 s, .int .u32 p, .int .i64 i, .int .i64 n, .int .i64 k]) (hi : i < 256) (hn : n < 256) (h1 : ¬ i + 1 < n) (h2 : 0 < i) (hk0 : k ≠ 0) (hk : 112 < k) :
    Calls Tryz.prog 135 #[.slice (some ⟨b, o, none⟩) 128 c, markV e s p i n z] w fun x w' => x = .returned (.tuple #[.slice none 0 0, .bool false]) ∧ Below w.heap.size w w' := by
  have g00 : ((k : Int) == 0) = false := by simp; omega
  clear hk0
  have gk : (112 : Int) < k := by omega
  clear hk
  have HI : Hid (i < 256 ∧ n < 256) := ⟨hi, hn⟩
  have HP : Hid (placeN i n = 1) := by show _ = _; unfold placeN; rw [if_neg h1, if_pos h2]
  clear hi hn h1 h2
  have HX : Hid (xs.length = 128) := hx
  have HB : Hid (BIn w (some ⟨b, o, none⟩) xs) := hb
  have HCM : Hid (c ≤ maxLen) := hcm
  have h16c : (16 : Int) < c := by omega
  have hcI : (128 : Int) ≤ c := by omega
  have HC : Hid (128 ≤ c) := hc
  have HM : Hid (markOfN xs = .agg #[.int .u32 e, .int .u32 s, .int .u32 p, .int .i64 i, .int .i64 n, .int .i64 k]) := hm
  clear hx hb hc hcm hm
  unfold markV
  go_enter Tryz.func135, Tryz.ntmps135
  go_wp2_with fail
  refine (markOf_any (some ⟨b, o, none⟩) xs 128 c _ HX.out.symm (by have := HX.out; omega) HC.out (HB.out.alloc _)).mono ?_
  rintro x w1 ⟨ex, hb1⟩
  rw [HM.out] at ex
  subst ex
  have hbw : Below (w.alloc (.cells #[.int .u32 e, .int .u32 s, .int .u32 p, .int .i64 i, .int .i64 n, .int .i64 z] 131)).heap.size (w.alloc (.cells #[.int .u32 e, .int .u32 s, .int .u32 p, .int .i64 i, .int .i64 n, .int .i64 z] 131)) w1 := hb1
  have hbx : w1.heap[w.heap.size]? = some (.cells #[.int .u32 e, .int .u32 s, .int .u32 p, .int .i64 i, .int .i64 n, .int .i64 z] 131 (0, 0)) := (hbw.block _ (by simp)).trans (heap_alloc_new w _)
  have hlt : w.heap.size < w1.heap.size := lt_heap hbx
  have q0 : w1.cell? ⟨w.heap.size, 0, none⟩ = some (.int .u32 e) := cell_of_row w1 _ 0 _ _ _ hbx
  have q1 : w1.cell? ⟨w.heap.size, 1, none⟩ = some (.int .u32 s) := cell_of_row w1 _ 1 _ _ _ hbx
  have q2 : w1.cell? ⟨w.heap.size, 2, none⟩ = some (.int .u32 p) := cell_of_row w1 _ 2 _ _ _ hbx
  have q3 : w1.cell? ⟨w.heap.size, 3, none⟩ = some (.int .i64 i) := cell_of_row w1 _ 3 _ _ _ hbx
  have q4 : w1.cell? ⟨w.heap.size, 4, none⟩ = some (.int .i64 n) := cell_of_row w1 _ 4 _ _ _ hbx
  have q5 : w1.cell? ⟨w.heap.size, 5, none⟩ = some (.int .i64 z) := cell_of_row w1 _ 5 _ _ _ hbx
  have f5 : w1.frozen? ⟨w.heap.size, 5, none⟩ = false := by simp [World.frozen?, hbx]
  have HW1 : Hid (Below w.heap.size w w1) := (below_alloc w _).trans (hbw.mono (by simp))
  have HZ : Hid (Below w.heap.size w ((w1.setCell ⟨w.heap.size, 5, none⟩ (.int .i64 k)).alloc (.cells #[.int .u32 e, .int .u32 s, .int .u32 p, .int .i64 i, .int .i64 n, .int .i64 k] 131))) := (HW1.out.setCell (Nat.le_refl _) _).alloc (by simp [World.setCell]; omega) _
  clear hbx hbw hb1
  go_wp2_with fail
  refine (place_any e s p i n k 1 _ HI.out.1 HI.out.2 HP.out).mono ?_
  rintro x w2 ⟨ex, hb2⟩
  subst ex
  have hZ := HZ.out
  have hsz2 := hb2.size
  have hszZ : (w1.setCell ⟨w.heap.size, 5, none⟩ (.int .i64 k)).heap.size = w1.heap.size := by simp [World.setCell]
  have hbm : w2.heap[w1.heap.size]? = some (.cells #[.int .u32 e, .int .u32 s, .int .u32 p, .int .i64 i, .int .i64 n, .int .i64 k] 131 (0, 0)) := by
    have h3 := heap_alloc_new (w1.setCell ⟨w.heap.size, 5, none⟩ (.int .i64 k)) (.cells #[.int .u32 e, .int .u32 s, .int .u32 p, .int .i64 i, .int .i64 n, .int .i64 k] 131)
    rw [hszZ] at h3
    exact (hb2.block _ (by rw [World.size_alloc, hszZ]; omega)).trans h3
  have m5 : w2.cell? ⟨w1.heap.size, 5, none⟩ = some (.int .i64 k) := cell_of_row w2 _ 5 _ _ _ hbm
  have HZ2 : Hid (Below w.heap.size w w2) := hZ.trans (hb2.mono hZ.size)
  clear hbm hb2 hZ HZ q0 q1 q2 q3 q4 q5 f5 hszZ
  go_wp2
  go_ret2
  exact ⟨rfl, HZ2.out⟩
set_option maxRecDepth 8000 in
set_option maxHeartbeats 2000000 in
theorem part_z1t1 (e s p i n z : Nat) (b o : Nat) (xs : List Nat) (w : World) (hx : xs.length = 128) (hb : BIn w (some ⟨b, o, none⟩) xs) (hm : markOfN xs = .agg #[.int .u32 e, .int .u32 s, .int .u32 p, .int .i64 i, .int .i64 n, .int .i64 112]) (hi : i < 256) (hn : n < 256) (h1 : ¬ i + 1 < n) (h2 : 0 < i) :
    Calls Tryz.prog 135 #[.slice (some ⟨b, o, none⟩) 128 128, markV e s p i n z] w fun x w' => x = .returned (.tuple #[.slice (some ⟨b, o + 16, none⟩) (16 + 112 - 16) (128 - 16), .bool true]) ∧ Below w.heap.size w w' := by
  have HI : Hid (i < 256 ∧ n < 256) := ⟨hi, hn⟩
  have HP : Hid (placeN i n = 1) := by show _ = _; unfold placeN; rw [if_neg h1, if_pos h2]
  clear hi hn h1 h2
  have HX : Hid (xs.length = 128) := hx
  have HB : Hid (BIn w (some ⟨b, o, none⟩) xs) := hb
  have HM : Hid (markOfN xs = .agg #[.int .u32 e, .int .u32 s, .int .u32 p, .int .i64 i, .int .i64 n, .int .i64 112]) := hm
  clear hx hb hm
  unfold markV
  go_enter Tryz.func135, Tryz.ntmps135
  go_wp2_with fail
  refine (markOf_any (some ⟨b, o, none⟩) xs 128 128 _ HX.out.symm (by have := HX.out; omega) (Nat.le_refl _) (HB.out.alloc _)).mono ?_
  rintro x w1 ⟨ex, hb1⟩
  rw [HM.out] at ex
  subst ex
  have hbw : Below (w.alloc (.cells #[.int .u32 e, .int .u32 s, .int .u32 p, .int .i64 i, .int .i64 n, .int .i64 z] 131)).heap.size (w.alloc (.cells #[.int .u32 e, .int .u32 s, .int .u32 p, .int .i64 i, .int .i64 n, .int .i64 z] 131)) w1 := hb1
  have hbx : w1.heap[w.heap.size]? = some (.cells #[.int .u32 e, .int .u32 s, .int .u32 p, .int .i64 i, .int .i64 n, .int .i64 z] 131 (0, 0)) := (hbw.block _ (by simp)).trans (heap_alloc_new w _)
  have hlt : w.heap.size < w1.heap.size := lt_heap hbx
  have q0 : w1.cell? ⟨w.heap.size, 0, none⟩ = some (.int .u32 e) := cell_of_row w1 _ 0 _ _ _ hbx
  have q1 : w1.cell? ⟨w.heap.size, 1, none⟩ = some (.int .u32 s) := cell_of_row w1 _ 1 _ _ _ hbx
  have q2 : w1.cell? ⟨w.heap.size, 2, none⟩ = some (.int .u32 p) := cell_of_row w1 _ 2 _ _ _ hbx
  have q3 : w1.cell? ⟨w.heap.size, 3, none⟩ = some (.int .i64 i) := cell_of_row w1 _ 3 _ _ _ hbx
  have q4 : w1.cell? ⟨w.heap.size, 4, none⟩ = some (.int .i64 n) := cell_of_row w1 _ 4 _ _ _ hbx
  have q5 : w1.cell? ⟨w.heap.size, 5, none⟩ = some (.int .i64 z) := cell_of_row w1 _ 5 _ _ _ hbx
  have f5 : w1.frozen? ⟨w.heap.size, 5, none⟩ = false := by simp [World.frozen?, hbx]
  have HW1 : Hid (Below w.heap.size w w1) := (below_alloc w _).trans (hbw.mono (by simp))
  have HZ : Hid (Below w.heap.size w ((w1.setCell ⟨w.heap.size, 5, none⟩ (.int .i64 112)).alloc (.cells #[.int .u32 e, .int .u32 s, .int .u32 p, .int .i64 i, .int .i64 n, .int .i64 112] 131))) := (HW1.out.setCell (Nat.le_refl _) _).alloc (by simp [World.setCell]; omega) _
  clear hbx hbw hb1
  go_wp2_with fail
  refine (place_any e s p i n 112 1 _ HI.out.1 HI.out.2 HP.out).mono ?_
  rintro x w2 ⟨ex, hb2⟩
  subst ex
  have hZ := HZ.out
  have hsz2 := hb2.size
  have hszZ : (w1.setCell ⟨w.heap.size, 5, none⟩ (.int .i64 112)).heap.size = w1.heap.size := by simp [World.setCell]
  have hbm : w2.heap[w1.heap.size]? = some (.cells #[.int .u32 e, .int .u32 s, .int .u32 p, .int .i64 i, .int .i64 n, .int .i64 112] 131 (0, 0)) := by
    have h3 := heap_alloc_new (w1.setCell ⟨w.heap.size, 5, none⟩ (.int .i64 112)) (.cells #[.int .u32 e, .int .u32 s, .int .u32 p, .int .i64 i, .int .i64 n, .int .i64 112] 131)
    rw [hszZ] at h3
    exact (hb2.block _ (by rw [World.size_alloc, hszZ]; omega)).trans h3
  have m5 : w2.cell? ⟨w1.heap.size, 5, none⟩ = some (.int .i64 112) := cell_of_row w2 _ 5 _ _ _ hbm
  have HZ2 : Hid (Below w.heap.size w w2) := hZ.trans (hb2.mono hZ.size)
  clear hbm hb2 hZ HZ q0 q1 q2 q3 q4 q5 f5 hszZ
  go_wp2_with fail
  refine (noughts_any _ [] _ _ true _ (by simp) (by simp) (by simp [maxLen]) (drop_in0 rfl) (by simp)).mono ?_
  rintro x w3 ⟨ex, ew⟩
  subst ex
  subst ew
  go_wp2
  go_ret2
  exact ⟨rfl, HZ2.out⟩
set_option maxRecDepth 8000 in
set_option maxHeartbeats 2000000 in
theorem part_z1f0 (e s p i n z k : Nat) (b o c : Nat) (xs : List Nat) (w : World) (hx : xs.length = 128) (hc : 128 ≤ c) (hcm : c ≤ maxLen) (hb : BIn w (some ⟨b, o, none⟩) xs) (hm : markOfN xs = .agg #[.int .u32 e, .int .u32 s, .int .u32 p, .int .i64 i, .int .i64 n, .int .i64 k]) (hi : i < 256) (hn : n < 256) (h1 : ¬ i + 1 < n) (h2 : 0 < i) (hk0 : k ≠ 0) (hk : k ≤ 112) (hz : allZ (xs.drop (16 + k)) = false) (hcc : ¬ c = 16 + k) :
    Calls Tryz.prog 135 #[.slice (some ⟨b, o, none⟩) 128 c, markV e s p i n z] w fun x w' => x = .returned (.tuple #[.slice none 0 0, .bool false]) ∧ Below w.heap.size w w' := by
  have g00 : ((k : Int) == 0) = false := by simp; omega
  clear hk0
  have gk : (k : Int) ≤ 112 := by omega
  have gk' : ¬ (112 : Int) < k := by omega
  have w16 : IntKind.i64.wrap (16 + (k : Int)) = 16 + (k : Int) := by rw [IntKind.wrap_i64]; omega
  have hkc : 16 + (k : Int) ≤ c := by omega
  have HK : Hid (k ≤ 112) := hk
  have HNZ : Hid (allZ (xs.drop (16 + k)) = false) := hz
  have HCC : Hid (¬ c = 16 + k) := hcc
  clear hk hz
  have HI : Hid (i < 256 ∧ n < 256) := ⟨hi, hn⟩
  have HP : Hid (placeN i n = 1) := by show _ = _; unfold placeN; rw [if_neg h1, if_pos h2]
  clear hi hn h1 h2
  have HX : Hid (xs.length = 128) := hx
  have HB : Hid (BIn w (some ⟨b, o, none⟩) xs) := hb
  have HCM : Hid (c ≤ maxLen) := hcm
  have h16c : (16 : Int) < c := by omega
  have hcI : (128 : Int) ≤ c := by omega
  have HC : Hid (128 ≤ c) := hc
  have HM : Hid (markOfN xs = .agg #[.int .u32 e, .int .u32 s, .int .u32 p, .int .i64 i, .int .i64 n, .int .i64 k]) := hm
  clear hx hb hc hcm hm
  unfold markV
  go_enter Tryz.func135, Tryz.ntmps135
  go_wp2_with fail
  refine (markOf_any (some ⟨b, o, none⟩) xs 128 c _ HX.out.symm (by have := HX.out; omega) HC.out (HB.out.alloc _)).mono ?_
  rintro x w1 ⟨ex, hb1⟩
  rw [HM.out] at ex
  subst ex
  have hbw : Below (w.alloc (.cells #[.int .u32 e, .int .u32 s, .int .u32 p, .int .i64 i, .int .i64 n, .int .i64 z] 131)).heap.size (w.alloc (.cells #[.int .u32 e, .int .u32 s, .int .u32 p, .int .i64 i, .int .i64 n, .int .i64 z] 131)) w1 := hb1
  have hbx : w1.heap[w.heap.size]? = some (.cells #[.int .u32 e, .int .u32 s, .int .u32 p, .int .i64 i, .int .i64 n, .int .i64 z] 131 (0, 0)) := (hbw.block _ (by simp)).trans (heap_alloc_new w _)
  have hlt : w.heap.size < w1.heap.size := lt_heap hbx
  have q0 : w1.cell? ⟨w.heap.size, 0, none⟩ = some (.int .u32 e) := cell_of_row w1 _ 0 _ _ _ hbx
  have q1 : w1.cell? ⟨w.heap.size, 1, none⟩ = some (.int .u32 s) := cell_of_row w1 _ 1 _ _ _ hbx
  have q2 : w1.cell? ⟨w.heap.size, 2, none⟩ = some (.int .u32 p) := cell_of_row w1 _ 2 _ _ _ hbx
  have q3 : w1.cell? ⟨w.heap.size, 3, none⟩ = some (.int .i64 i) := cell_of_row w1 _ 3 _ _ _ hbx
  have q4 : w1.cell? ⟨w.heap.size, 4, none⟩ = some (.int .i64 n) := cell_of_row w1 _ 4 _ _ _ hbx
  have q5 : w1.cell? ⟨w.heap.size, 5, none⟩ = some (.int .i64 z) := cell_of_row w1 _ 5 _ _ _ hbx
  have f5 : w1.frozen? ⟨w.heap.size, 5, none⟩ = false := by simp [World.frozen?, hbx]
  have HW1 : Hid (Below w.heap.size w w1) := (below_alloc w _).trans (hbw.mono (by simp))
  have HZ : Hid (Below w.heap.size w ((w1.setCell ⟨w.heap.size, 5, none⟩ (.int .i64 k)).alloc (.cells #[.int .u32 e, .int .u32 s, .int .u32 p, .int .i64 i, .int .i64 n, .int .i64 k] 131))) := (HW1.out.setCell (Nat.le_refl _) _).alloc (by simp [World.setCell]; omega) _
  clear hbx hbw hb1
  go_wp2_with fail
  refine (place_any e s p i n k 1 _ HI.out.1 HI.out.2 HP.out).mono ?_
  rintro x w2 ⟨ex, hb2⟩
  subst ex
  have hZ := HZ.out
  have hsz2 := hb2.size
  have hszZ : (w1.setCell ⟨w.heap.size, 5, none⟩ (.int .i64 k)).heap.size = w1.heap.size := by simp [World.setCell]
  have hbm : w2.heap[w1.heap.size]? = some (.cells #[.int .u32 e, .int .u32 s, .int .u32 p, .int .i64 i, .int .i64 n, .int .i64 k] 131 (0, 0)) := by
    have h3 := heap_alloc_new (w1.setCell ⟨w.heap.size, 5, none⟩ (.int .i64 k)) (.cells #[.int .u32 e, .int .u32 s, .int .u32 p, .int .i64 i, .int .i64 n, .int .i64 k] 131)
    rw [hszZ] at h3
    exact (hb2.block _ (by rw [World.size_alloc, hszZ]; omega)).trans h3
  have m5 : w2.cell? ⟨w1.heap.size, 5, none⟩ = some (.int .i64 k) := cell_of_row w2 _ 5 _ _ _ hbm
  have HZ2 : Hid (Below w.heap.size w w2) := hZ.trans (hb2.mono hZ.size)
  clear hbm hb2 hZ HZ q0 q1 q2 q3 q4 q5 f5 hszZ
  have HBZ : Hid (BIn w2 (some ⟨b, o, none⟩) xs) := HB.out.below HZ2.out
  go_wp2_with fail
  refine (noughts_any _ (xs.drop (16 + k)) _ _ false _ (by rw [List.length_drop, HX.out]; try omega) (by have := HC.out; have := HCC.out; omega) (by have := HCM.out; omega) (HBZ.out.drop' (16 + k)) HNZ.out).mono ?_
  rintro x w3 ⟨ex, ew⟩
  subst ex
  subst ew
  go_wp2
  go_ret2
  exact ⟨rfl, HZ2.out⟩
set_option maxRecDepth 8000 in
set_option maxHeartbeats 2000000 in
theorem part_z1t0 (e s p i n z k : Nat) (b o c : Nat) (xs : List Nat) (w : World) (hx : xs.length = 128) (hc : 128 ≤ c) (hcm : c ≤ maxLen) (hb : BIn w (some ⟨b, o, none⟩) xs) (hm : markOfN xs = .agg #[.int .u32 e, .int .u32 s, .int .u32 p, .int .i64 i, .int .i64 n, .int .i64 k]) (hi : i < 256) (hn : n < 256) (h1 : ¬ i + 1 < n) (h2 : 0 < i) (hk0 : k ≠ 0) (hk : k ≤ 112) (hz : allZ (xs.drop (16 + k)) = true) (hcc : ¬ c = 16 + k) :
    Calls Tryz.prog 135 #[.slice (some ⟨b, o, none⟩) 128 c, markV e s p i n z] w fun x w' => x = .returned (.tuple #[.slice (some ⟨b, o + 16, none⟩) (16 + k - 16) (c - 16), .bool true]) ∧ Below w.heap.size w w' := by
  have g00 : ((k : Int) == 0) = false := by simp; omega
  clear hk0
  have gk : (k : Int) ≤ 112 := by omega
  have gk' : ¬ (112 : Int) < k := by omega
  have w16 : IntKind.i64.wrap (16 + (k : Int)) = 16 + (k : Int) := by rw [IntKind.wrap_i64]; omega
  have hkc : 16 + (k : Int) ≤ c := by omega
  have HK : Hid (k ≤ 112) := hk
  have HNZ : Hid (allZ (xs.drop (16 + k)) = true) := hz
  have HCC : Hid (¬ c = 16 + k) := hcc
  clear hk hz
  have HI : Hid (i < 256 ∧ n < 256) := ⟨hi, hn⟩
  have HP : Hid (placeN i n = 1) := by show _ = _; unfold placeN; rw [if_neg h1, if_pos h2]
  clear hi hn h1 h2
  have HX : Hid (xs.length = 128) := hx
  have HB : Hid (BIn w (some ⟨b, o, none⟩) xs) := hb
  have HCM : Hid (c ≤ maxLen) := hcm
  have h16c : (16 : Int) < c := by omega
  have hcI : (128 : Int) ≤ c := by omega
  have HC : Hid (128 ≤ c) := hc
  have HM : Hid (markOfN xs = .agg #[.int .u32 e, .int .u32 s, .int .u32 p, .int .i64 i, .int .i64 n, .int .i64 k]) := hm
  clear hx hb hc hcm hm
  unfold markV
  go_enter Tryz.func135, Tryz.ntmps135
  go_wp2_with fail
  refine (markOf_any (some ⟨b, o, none⟩) xs 128 c _ HX.out.symm (by have := HX.out; omega) HC.out (HB.out.alloc _)).mono ?_
  rintro x w1 ⟨ex, hb1⟩
  rw [HM.out] at ex
  subst ex
  have hbw : Below (w.alloc (.cells #[.int .u32 e, .int .u32 s, .int .u32 p, .int .i64 i, .int .i64 n, .int .i64 z] 131)).heap.size (w.alloc (.cells #[.int .u32 e, .int .u32 s, .int .u32 p, .int .i64 i, .int .i64 n, .int .i64 z] 131)) w1 := hb1
  have hbx : w1.heap[w.heap.size]? = some (.cells #[.int .u32 e, .int .u32 s, .int .u32 p, .int .i64 i, .int .i64 n, .int .i64 z] 131 (0, 0)) := (hbw.block _ (by simp)).trans (heap_alloc_new w _)
  have hlt : w.heap.size < w1.heap.size := lt_heap hbx
  have q0 : w1.cell? ⟨w.heap.size, 0, none⟩ = some (.int .u32 e) := cell_of_row w1 _ 0 _ _ _ hbx
  have q1 : w1.cell? ⟨w.heap.size, 1, none⟩ = some (.int .u32 s) := cell_of_row w1 _ 1 _ _ _ hbx
  have q2 : w1.cell? ⟨w.heap.size, 2, none⟩ = some (.int .u32 p) := cell_of_row w1 _ 2 _ _ _ hbx
  have q3 : w1.cell? ⟨w.heap.size, 3, none⟩ = some (.int .i64 i) := cell_of_row w1 _ 3 _ _ _ hbx
  have q4 : w1.cell? ⟨w.heap.size, 4, none⟩ = some (.int .i64 n) := cell_of_row w1 _ 4 _ _ _ hbx
  have q5 : w1.cell? ⟨w.heap.size, 5, none⟩ = some (.int .i64 z) := cell_of_row w1 _ 5 _ _ _ hbx
  have f5 : w1.frozen? ⟨w.heap.size, 5, none⟩ = false := by simp [World.frozen?, hbx]
  have HW1 : Hid (Below w.heap.size w w1) := (below_alloc w _).trans (hbw.mono (by simp))
  have HZ : Hid (Below w.heap.size w ((w1.setCell ⟨w.heap.size, 5, none⟩ (.int .i64 k)).alloc (.cells #[.int .u32 e, .int .u32 s, .int .u32 p, .int .i64 i, .int .i64 n, .int .i64 k] 131))) := (HW1.out.setCell (Nat.le_refl _) _).alloc (by simp [World.setCell]; omega) _
  clear hbx hbw hb1
  go_wp2_with fail
  refine (place_any e s p i n k 1 _ HI.out.1 HI.out.2 HP.out).mono ?_
  rintro x w2 ⟨ex, hb2⟩
  subst ex
  have hZ := HZ.out
  have hsz2 := hb2.size
  have hszZ : (w1.setCell ⟨w.heap.size, 5, none⟩ (.int .i64 k)).heap.size = w1.heap.size := by simp [World.setCell]
  have hbm : w2.heap[w1.heap.size]? = some (.cells #[.int .u32 e, .int .u32 s, .int .u32 p, .int .i64 i, .int .i64 n, .int .i64 k] 131 (0, 0)) := by
    have h3 := heap_alloc_new (w1.setCell ⟨w.heap.size, 5, none⟩ (.int .i64 k)) (.cells #[.int .u32 e, .int .u32 s, .int .u32 p, .int .i64 i, .int .i64 n, .int .i64 k] 131)
    rw [hszZ] at h3
    exact (hb2.block _ (by rw [World.size_alloc, hszZ]; omega)).trans h3
  have m5 : w2.cell? ⟨w1.heap.size, 5, none⟩ = some (.int .i64 k) := cell_of_row w2 _ 5 _ _ _ hbm
  have HZ2 : Hid (Below w.heap.size w w2) := hZ.trans (hb2.mono hZ.size)
  clear hbm hb2 hZ HZ q0 q1 q2 q3 q4 q5 f5 hszZ
  have HBZ : Hid (BIn w2 (some ⟨b, o, none⟩) xs) := HB.out.below HZ2.out
  go_wp2_with fail
  refine (noughts_any _ (xs.drop (16 + k)) _ _ true _ (by rw [List.length_drop, HX.out]; try omega) (by have := HC.out; have := HCC.out; omega) (by have := HCM.out; omega) (HBZ.out.drop' (16 + k)) HNZ.out).mono ?_
  rintro x w3 ⟨ex, ew⟩
  subst ex
  subst ew
  go_wp2
  go_ret2
  exact ⟨rfl, HZ2.out⟩
end Go.Proofs.YtghcmllmbpoidaaGreatDoor.Lg
