import Derived.Test.YtghcmllmbpoidaaGreatDoorJ25
import Derived.Test.YtghcmllmbpoidaaGreatDoorJ26
namespace Go.Proofs.YtghcmllmbpoidaaGreatDoor.Lg
open Go.RowKit Go.WideShapes
set_option maxRecDepth 8000 in
set_option maxHeartbeats 2000000 in
set_option linter.unusedVariables false in
theorem part_many2 (e s p i n z k : Nat) (b o c : Nat) (xs : List Nat) (w : World) (hx : xs.length = 128) (hc : 128 ≤ c) (hcm : c ≤ maxLen) (hb : BIn w (some ⟨b, o, none⟩) xs) (hm : markOfN xs = .agg #[.int .u32 e, .int .u32 s, .int .u32 p, .int .i64 i, .int .i64 n, .int .i64 k]) (hi : i < 256) (hn : n < 256) (h1 : ¬ i + 1 < n) (h2 : ¬ 0 < i)  (hk : 112 < k) :
    Calls Tryz.prog 135 #[.slice (some ⟨b, o, none⟩) 128 c, markV e s p i n z] w fun x w' => x = .returned (.tuple #[.slice none 0 0, .bool false]) ∧ Below w.heap.size w w' := by
  have gk : (112 : Int) < k := by omega
  clear hk
  have HI : Hid (i < 256 ∧ n < 256) := ⟨hi, hn⟩
  have HP : Hid (placeN i n = 2) := by show _ = _; unfold placeN; rw [if_neg h1, if_neg h2]
  clear hi hn h1 h2
  have HX : Hid (xs.length = 128) := hx
  have HB : Hid (BIn w (some ⟨b, o, none⟩) xs) := hb
  have HCM : Hid (c ≤ maxLen) := hcm
  have h16c : (16 : Int) < c := by omega
  have hcI : (128 : Int) ≤ c := by omega
  have HC : Hid (128 ≤ c) := hc
  have HM : Hid (markOfN xs = .agg #[.int .u32 e, .int .u32 s, .int .u32 p, .int .i64 i, .int .i64 n, .int .i64 k]) := hm
  clear hx hb hc hcm hm
  unfold markV
  go_enter Tryz.func135, Tryz.ntmps135
  go_wp2_with fail
  refine (markOf_any (some ⟨b, o, none⟩) xs 128 c _ HX.out.symm (by have := HX.out; omega) HC.out (HB.out.alloc _)).mono ?_
  rintro x w1 ⟨ex, hb1⟩
  rw [HM.out] at ex
  subst ex
  have hbw : Below (w.alloc (.cells #[.int .u32 e, .int .u32 s, .int .u32 p, .int .i64 i, .int .i64 n, .int .i64 z] 131)).heap.size (w.alloc (.cells #[.int .u32 e, .int .u32 s, .int .u32 p, .int .i64 i, .int .i64 n, .int .i64 z] 131)) w1 := hb1
  have hbx : w1.heap[w.heap.size]? = some (.cells #[.int .u32 e, .int .u32 s, .int .u32 p, .int .i64 i, .int .i64 n, .int .i64 z] 131 (0, 0)) := (hbw.block _ (by simp)).trans (heap_alloc_new w _)
  have hlt : w.heap.size < w1.heap.size := lt_heap hbx
  have q0 : w1.cell? ⟨w.heap.size, 0, none⟩ = some (.int .u32 e) := cell_of_row w1 _ 0 _ _ _ hbx
  have q1 : w1.cell? ⟨w.heap.size, 1, none⟩ = some (.int .u32 s) := cell_of_row w1 _ 1 _ _ _ hbx
  have q2 : w1.cell? ⟨w.heap.size, 2, none⟩ = some (.int .u32 p) := cell_of_row w1 _ 2 _ _ _ hbx
  have q3 : w1.cell? ⟨w.heap.size, 3, none⟩ = some (.int .i64 i) := cell_of_row w1 _ 3 _ _ _ hbx
  have q4 : w1.cell? ⟨w.heap.size, 4, none⟩ = some (.int .i64 n) := cell_of_row w1 _ 4 _ _ _ hbx
  have q5 : w1.cell? ⟨w.heap.size, 5, none⟩ = some (.int .i64 z) := cell_of_row w1 _ 5 _ _ _ hbx
  have f5 : w1.frozen? ⟨w.heap.size, 5, none⟩ = false := by simp [World.frozen?, hbx]
  have HW1 : Hid (Below w.heap.size w w1) := (below_alloc w _).trans (hbw.mono (by simp))
  have HZ : Hid (Below w.heap.size w ((w1.setCell ⟨w.heap.size, 5, none⟩ (.int .i64 k)).alloc (.cells #[.int .u32 e, .int .u32 s, .int .u32 p, .int .i64 i, .int .i64 n, .int .i64 k] 131))) := (HW1.out.setCell (Nat.le_refl _) _).alloc (by simp [World.setCell]; omega) _
  clear hbx hbw hb1
  go_wp2_with fail
  refine (place_any e s p i n k 2 _ HI.out.1 HI.out.2 HP.out).mono ?_
  rintro x w2 ⟨ex, hb2⟩
  subst ex
  have hZ := HZ.out
  have hsz2 := hb2.size
  have hszZ : (w1.setCell ⟨w.heap.size, 5, none⟩ (.int .i64 k)).heap.size = w1.heap.size := by simp [World.setCell]
  have hbm : w2.heap[w1.heap.size]? = some (.cells #[.int .u32 e, .int .u32 s, .int .u32 p, .int .i64 i, .int .i64 n, .int .i64 k] 131 (0, 0)) := by
    have h3 := heap_alloc_new (w1.setCell ⟨w.heap.size, 5, none⟩ (.int .i64 k)) (.cells #[.int .u32 e, .int .u32 s, .int .u32 p, .int .i64 i, .int .i64 n, .int .i64 k] 131)
    rw [hszZ] at h3
    exact (hb2.block _ (by rw [World.size_alloc, hszZ]; omega)).trans h3
  have m5 : w2.cell? ⟨w1.heap.size, 5, none⟩ = some (.int .i64 k) := cell_of_row w2 _ 5 _ _ _ hbm
  have HZ2 : Hid (Below w.heap.size w w2) := hZ.trans (hb2.mono hZ.size)
  clear hbm hb2 hZ HZ q0 q1 q2 q3 q4 q5 f5 hszZ
  go_wp2
  go_ret2
  exact ⟨rfl, HZ2.out⟩
set_option maxRecDepth 8000 in
set_option maxHeartbeats 2000000 in
theorem part_z2t1 (e s p i n z : Nat) (b o : Nat) (xs : List Nat) (w : World) (hx : xs.length = 128) (hb : BIn w (some ⟨b, o, none⟩) xs) (hm : markOfN xs = .agg #[.int .u32 e, .int .u32 s, .int .u32 p, .int .i64 i, .int .i64 n, .int .i64 112]) (hi : i < 256) (hn : n < 256) (h1 : ¬ i + 1 < n) (h2 : ¬ 0 < i) :
    Calls Tryz.prog 135 #[.slice (some ⟨b, o, none⟩) 128 128, markV e s p i n z] w fun x w' => x = .returned (.tuple #[.slice (some ⟨b, o + 16, none⟩) (16 + 112 - 16) (128 - 16), .bool true]) ∧ Below w.heap.size w w' := by
  have HI : Hid (i < 256 ∧ n < 256) := ⟨hi, hn⟩
  have HP : Hid (placeN i n = 2) := by show _ = _; unfold placeN; rw [if_neg h1, if_neg h2]
  clear hi hn h1 h2
  have HX : Hid (xs.length = 128) := hx
  have HB : Hid (BIn w (some ⟨b, o, none⟩) xs) := hb
  have HM : Hid (markOfN xs = .agg #[.int .u32 e, .int .u32 s, .int .u32 p, .int .i64 i, .int .i64 n, .int .i64 112]) := hm
  clear hx hb hm
  unfold markV
  go_enter Tryz.func135, Tryz.ntmps135
  go_wp2_with fail
  refine (markOf_any (some ⟨b, o, none⟩) xs 128 128 _ HX.out.symm (by have := HX.out; omega) (Nat.le_refl _) (HB.out.alloc _)).mono ?_
  rintro x w1 ⟨ex, hb1⟩
  rw [HM.out] at ex
  subst ex
  have hbw : Below (w.alloc (.cells #[.int .u32 e, .int .u32 s, .int .u32 p, .int .i64 i, .int .i64 n, .int .i64 z] 131)).heap.size (w.alloc (.cells #[.int .u32 e, .int .u32 s, .int .u32 p, .int .i64 i, .int .i64 n, .int .i64 z] 131)) w1 := hb1
  have hbx : w1.heap[w.heap.size]? = some (.cells #[.int .u32 e, .int .u32 s, .int .u32 p, .int .i64 i, .int .i64 n, .int .i64 z] 131 (0, 0)) := (hbw.block _ (by simp)).trans (heap_alloc_new w _)
  have hlt : w.heap.size < w1.heap.size := lt_heap hbx
  have q0 : w1.cell? ⟨w.heap.size, 0, none⟩ = some (.int .u32 e) := cell_of_row w1 _ 0 _ _ _ hbx
  have q1 : w1.cell? ⟨w.heap.size, 1, none⟩ = some (.int .u32 s) := cell_of_row w1 _ 1 _ _ _ hbx
  have q2 : w1.cell? ⟨w.heap.size, 2, none⟩ = some (.int .u32 p) := cell_of_row w1 _ 2 _ _ _ hbx
  have q3 : w1.cell? ⟨w.heap.size, 3, none⟩ = some (.int .i64 i) := cell_of_row w1 _ 3 _ _ _ hbx
  have q4 : w1.cell? ⟨w.heap.size, 4, none⟩ = some (.int .i64 n) := cell_of_row w1 _ 4 _ _ _ hbx
  have q5 : w1.cell? ⟨w.heap.size, 5, none⟩ = some (.int .i64 z) := cell_of_row w1 _ 5 _ _ _ hbx
  have f5 : w1.frozen? ⟨w.heap.size, 5, none⟩ = false := by simp [World.frozen?, hbx]
  have HW1 : Hid (Below w.heap.size w w1) := (below_alloc w _).trans (hbw.mono (by simp))
  have HZ : Hid (Below w.heap.size w ((w1.setCell ⟨w.heap.size, 5, none⟩ (.int .i64 112)).alloc (.cells #[.int .u32 e, .int .u32 s, .int .u32 p, .int .i64 i, .int .i64 n, .int .i64 112] 131))) := (HW1.out.setCell (Nat.le_refl _) _).alloc (by simp [World.setCell]; omega) _
  clear hbx hbw hb1
  go_wp2_with fail
  refine (place_any e s p i n 112 2 _ HI.out.1 HI.out.2 HP.out).mono ?_
  rintro x w2 ⟨ex, hb2⟩
  subst ex
  have hZ := HZ.out
  have hsz2 := hb2.size
  have hszZ : (w1.setCell ⟨w.heap.size, 5, none⟩ (.int .i64 112)).heap.size = w1.heap.size := by simp [World.setCell]
  have hbm : w2.heap[w1.heap.size]? = some (.cells #[.int .u32 e, .int .u32 s, .int .u32 p, .int .i64 i, .int .i64 n, .int .i64 112] 131 (0, 0)) := by
    have h3 := heap_alloc_new (w1.setCell ⟨w.heap.size, 5, none⟩ (.int .i64 112)) (.cells #[.int .u32 e, .int .u32 s, .int .u32 p, .int .i64 i, .int .i64 n, .int .i64 112] 131)
    rw [hszZ] at h3
    exact (hb2.block _ (by rw [World.size_alloc, hszZ]; omega)).trans h3
  have m5 : w2.cell? ⟨w1.heap.size, 5, none⟩ = some (.int .i64 112) := cell_of_row w2 _ 5 _ _ _ hbm
  have HZ2 : Hid (Below w.heap.size w w2) := hZ.trans (hb2.mono hZ.size)
  clear hbm hb2 hZ HZ q0 q1 q2 q3 q4 q5 f5 hszZ
  go_wp2_with fail
  refine (noughts_any _ [] _ _ true _ (by simp) (by simp) (by simp [maxLen]) (drop_in0 rfl) (by simp)).mono ?_
  rintro x w3 ⟨ex, ew⟩
  subst ex
  subst ew
  go_wp2
  go_ret2
  exact ⟨rfl, HZ2.out⟩
set_option maxRecDepth 8000 in
set_option maxHeartbeats 2000000 in
theorem part_z2f0 (e s p i n z k : Nat) (b o c : Nat) (xs : List Nat) (w : World) (hx : xs.length = 128) (hc : 128 ≤ c) (hcm : c ≤ maxLen) (hb : BIn w (some ⟨b, o, none⟩) xs) (hm : markOfN xs = .agg #[.int .u32 e, .int .u32 s, .int .u32 p, .int .i64 i, .int .i64 n, .int .i64 k]) (hi : i < 256) (hn : n < 256) (h1 : ¬ i + 1 < n) (h2 : ¬ 0 < i)  (hk : k ≤ 112) (hz : allZ (xs.drop (16 + k)) = false) (hcc : ¬ c = 16 + k) :
    Calls Tryz.prog 135 #[.slice (some ⟨b, o, none⟩) 128 c, markV e s p i n z] w fun x w' => x = .returned (.tuple #[.slice none 0 0, .bool false]) ∧ Below w.heap.size w w' := by
  have gk : (k : Int) ≤ 112 := by omega
  have gk' : ¬ (112 : Int) < k := by omega
  have w16 : IntKind.i64.wrap (16 + (k : Int)) = 16 + (k : Int) := by rw [IntKind.wrap_i64]; omega
  have hkc : 16 + (k : Int) ≤ c := by omega
  have HK : Hid (k ≤ 112) := hk
  have HNZ : Hid (allZ (xs.drop (16 + k)) = false) := hz
  have HCC : Hid (¬ c = 16 + k) := hcc
  clear hk hz
  have HI : Hid (i < 256 ∧ n < 256) := ⟨hi, hn⟩
  have HP : Hid (placeN i n = 2) := by show _ = _; unfold placeN; rw [if_neg h1, if_neg h2]
  clear hi hn h1 h2
  have HX : Hid (xs.length = 128) := hx
  have HB : Hid (BIn w (some ⟨b, o, none⟩) xs) := hb
  have HCM : Hid (c ≤ maxLen) := hcm
  have h16c : (16 : Int) < c := by omega
  have hcI : (128 : Int) ≤ c := by omega
  have HC : Hid (128 ≤ c) := hc
  have HM : Hid (markOfN xs = .agg #[.int .u32 e, .int .u32 s, .int .u32 p, .int .i64 i, .int .i64 n, .int .i64 k]) := hm
  clear hx hb hc hcm hm
  unfold markV
  go_enter Tryz.func135, Tryz.ntmps135
  go_wp2_with fail
  refine (markOf_any (some ⟨b, o, none⟩) xs 128 c _ HX.out.symm (by have := HX.out; omega) HC.out (HB.out.alloc _)).mono ?_
  rintro x w1 ⟨ex, hb1⟩
  rw [HM.out] at ex
  subst ex
  have hbw : Below (w.alloc (.cells #[.int .u32 e, .int .u32 s, .int .u32 p, .int .i64 i, .int .i64 n, .int .i64 z] 131)).heap.size (w.alloc (.cells #[.int .u32 e, .int .u32 s, .int .u32 p, .int .i64 i, .int .i64 n, .int .i64 z] 131)) w1 := hb1
  have hbx : w1.heap[w.heap.size]? = some (.cells #[.int .u32 e, .int .u32 s, .int .u32 p, .int .i64 i, .int .i64 n, .int .i64 z] 131 (0, 0)) := (hbw.block _ (by simp)).trans (heap_alloc_new w _)
  have hlt : w.heap.size < w1.heap.size := lt_heap hbx
  have q0 : w1.cell? ⟨w.heap.size, 0, none⟩ = some (.int .u32 e) := cell_of_row w1 _ 0 _ _ _ hbx
  have q1 : w1.cell? ⟨w.heap.size, 1, none⟩ = some (.int .u32 s) := cell_of_row w1 _ 1 _ _ _ hbx
  have q2 : w1.cell? ⟨w.heap.size, 2, none⟩ = some (.int .u32 p) := cell_of_row w1 _ 2 _ _ _ hbx
  have q3 : w1.cell? ⟨w.heap.size, 3, none⟩ = some (.int .i64 i) := cell_of_row w1 _ 3 _ _ _ hbx
  have q4 : w1.cell? ⟨w.heap.size, 4, none⟩ = some (.int .i64 n) := cell_of_row w1 _ 4 _ _ _ hbx
  have q5 : w1.cell? ⟨w.heap.size, 5, none⟩ = some (.int .i64 z) := cell_of_row w1 _ 5 _ _ _ hbx
  have f5 : w1.frozen? ⟨w.heap.size, 5, none⟩ = false := by simp [World.frozen?, hbx]
  have HW1 : Hid (Below w.heap.size w w1) := (below_alloc w _).trans (hbw.mono (by simp))
  have HZ : Hid (Below w.heap.size w ((w1.setCell ⟨w.heap.size, 5, none⟩ (.int .i64 k)).alloc (.cells #[.int .u32 e, .int .u32 s, .int .u32 p, .int .i64 i, .int .i64 n, .int .i64 k] 131))) := (HW1.out.setCell (Nat.le_refl _) _).alloc (by simp [World.setCell]; omega) _
  clear hbx hbw hb1
  go_wp2_with fail
  refine (place_any e s p i n k 2 _ HI.out.1 HI.out.2 HP.out).mono ?_
  rintro x w2 ⟨ex, hb2⟩
  subst ex
  have hZ := HZ.out
  have hsz2 := hb2.size
  have hszZ : (w1.setCell ⟨w.heap.size, 5, none⟩ (.int .i64 k)).heap.size = w1.heap.size := by simp [World.setCell]
  have hbm : w2.heap[w1.heap.size]? = some (.cells #[.int .u32 e, .int .u32 s, .int .u32 p, .int .i64 i, .int .i64 n, .int .i64 k] 131 (0, 0)) := by
    have h3 := heap_alloc_new (w1.setCell ⟨w.heap.size, 5, none⟩ (.int .i64 k)) (.cells #[.int .u32 e, .int .u32 s, .int .u32 p, .int .i64 i, .int .i64 n, .int .i64 k] 131)
    rw [hszZ] at h3
    exact (hb2.block _ (by rw [World.size_alloc, hszZ]; omega)).trans h3
  have m5 : w2.cell? ⟨w1.heap.size, 5, none⟩ = some (.int .i64 k) := cell_of_row w2 _ 5 _ _ _ hbm
  have HZ2 : Hid (Below w.heap.size w w2) := hZ.trans (hb2.mono hZ.size)
  clear hbm hb2 hZ HZ q0 q1 q2 q3 q4 q5 f5 hszZ
  have HBZ : Hid (BIn w2 (some ⟨b, o, none⟩) xs) := HB.out.below HZ2.out
  go_wp2_with fail
  refine (noughts_any _ (xs.drop (16 + k)) _ _ false _ (by rw [List.length_drop, HX.out]; try omega) (by have := HC.out; have := HCC.out; omega) (by have := HCM.out; omega) (HBZ.out.drop' (16 + k)) HNZ.out).mono ?_
  rintro x w3 ⟨ex, ew⟩
  subst ex
  subst ew
  go_wp2
  go_ret2
  exact ⟨rfl, HZ2.out⟩
set_option maxRecDepth 8000 in
set_option maxHeartbeats 2000000 in
theorem part_z2t0 (e s p i n z k : Nat) (b o c : Nat) (xs : List Nat) (w : World) (hx : xs.length = 128) (hc : 128 ≤ c) (hcm : c ≤ maxLen) (hb : BIn w (some ⟨b, o, none⟩) xs) (hm : markOfN xs = .agg #[.int .u32 e, .int .u32 s, .int .u32 p, .int .i64 i, .int .i64 n, .int .i64 k]) (hi : i < 256) (hn : n < 256) (h1 : ¬ i + 1 < n) (h2 : ¬ 0 < i)  (hk : k ≤ 112) (hz : allZ (xs.drop (16 + k)) = true) (hcc : ¬ c = 16 + k) :
    Calls Tryz.prog 135 #[.slice (some ⟨b, o, none⟩) 128 c, markV e s p i n z] w fun x w' => x = .returned (.tuple #[.slice (some ⟨b, o + 16, none⟩) (16 + k - 16) (c - 16), .bool true]) ∧ Below w.heap.size w w' := by
  have gk : (k : Int) ≤ 112 := by omega
  have gk' : ¬ (112 : Int) < k := by omega
  have w16 : IntKind.i64.wrap (16 + (k : Int)) = 16 + (k : Int) := by rw [IntKind.wrap_i64]; omega
  have hkc : 16 + (k : Int) ≤ c := by omega
  have HK : Hid (k ≤ 112) := hk
  have HNZ : Hid (allZ (xs.drop (16 + k)) = true) := hz
  have HCC : Hid (¬ c = 16 + k) := hcc
  clear hk hz
  have HI : Hid (i < 256 ∧ n < 256) := ⟨hi, hn⟩
  have HP : Hid (placeN i n = 2) := by show _ = _; unfold placeN; rw [if_neg h1, if_neg h2]
  clear hi hn h1 h2
  have HX : Hid (xs.length = 128) := hx
  have HB : Hid (BIn w (some ⟨b, o, none⟩) xs) := hb
  have HCM : Hid (c ≤ maxLen) := hcm
  have h16c : (16 : Int) < c := by omega
  have hcI : (128 : Int) ≤ c := by omega
  have HC : Hid (128 ≤ c) := hc
  have HM : Hid (markOfN xs = .agg #[.int .u32 e, .int .u32 s, .int .u32 p, .int .i64 i, .int .i64 n, .int .i64 k]) := hm
  clear hx hb hc hcm hm
  unfold markV
  go_enter Tryz.func135, Tryz.ntmps135
  go_wp2_with fail
  refine (markOf_any (some ⟨b, o, none⟩) xs 128 c _ HX.out.symm (by have := HX.out; omega) HC.out (HB.out.alloc _)).mono ?_
  rintro x w1 ⟨ex, hb1⟩
  rw [HM.out] at ex
  subst ex
  have hbw : Below (w.alloc (.cells #[.int .u32 e, .int .u32 s, .int .u32 p, .int .i64 i, .int .i64 n, .int .i64 z] 131)).heap.size (w.alloc (.cells #[.int .u32 e, .int .u32 s, .int .u32 p, .int .i64 i, .int .i64 n, .int .i64 z] 131)) w1 := hb1
  have hbx : w1.heap[w.heap.size]? = some (.cells #[.int .u32 e, .int .u32 s, .int .u32 p, .int .i64 i, .int .i64 n, .int .i64 z] 131 (0, 0)) := (hbw.block _ (by simp)).trans (heap_alloc_new w _)
  have hlt : w.heap.size < w1.heap.size := lt_heap hbx
  have q0 : w1.cell? ⟨w.heap.size, 0, none⟩ = some (.int .u32 e) := cell_of_row w1 _ 0 _ _ _ hbx
  have q1 : w1.cell? ⟨w.heap.size, 1, none⟩ = some (.int .u32 s) := cell_of_row w1 _ 1 _ _ _ hbx
  have q2 : w1.cell? ⟨w.heap.size, 2, none⟩ = some (.int .u32 p) := cell_of_row w1 _ 2 _ _ _ hbx
  have q3 : w1.cell? ⟨w.heap.size, 3, none⟩ = some (.int .i64 i) := cell_of_row w1 _ 3 _ _ _ hbx
  have q4 : w1.cell? ⟨w.heap.size, 4, none⟩ = some (.int .i64 n) := cell_of_row w1 _ 4 _ _ _ hbx
  have q5 : w1.cell? ⟨w.heap.size, 5, none⟩ = some (.int .i64 z) := cell_of_row w1 _ 5 _ _ _ hbx
  have f5 : w1.frozen? ⟨w.heap.size, 5, none⟩ = false := by simp [World.frozen?, hbx]
  have HW1 : Hid (Below w.heap.size w w1) := (below_alloc w _).trans (hbw.mono (by simp))
  have HZ : Hid (Below w.heap.size w ((w1.setCell ⟨w.heap.size, 5, none⟩ (.int .i64 k)).alloc (.cells #[.int .u32 e, .int .u32 s, .int .u32 p, .int .i64 i, .int .i64 n, .int .i64 k] 131))) := (HW1.out.setCell (Nat.le_refl _) _).alloc (by simp [World.setCell]; omega) _
  clear hbx hbw hb1
  go_wp2_with fail
  refine (place_any e s p i n k 2 _ HI.out.1 HI.out.2 HP.out).mono ?_
  rintro x w2 ⟨ex, hb2⟩
  subst ex
  have hZ := HZ.out
  have hsz2 := hb2.size
  have hszZ : (w1.setCell ⟨w.heap.size, 5, none⟩ (.int .i64 k)).heap.size = w1.heap.size := by simp [World.setCell]
  have hbm : w2.heap[w1.heap.size]? = some (.cells #[.int .u32 e, .int .u32 s, .int .u32 p, .int .i64 i, .int .i64 n, .int .i64 k] 131 (0, 0)) := by
    have h3 := heap_alloc_new (w1.setCell ⟨w.heap.size, 5, none⟩ (.int .i64 k)) (.cells #[.int .u32 e, .int .u32 s, .int .u32 p, .int .i64 i, .int .i64 n, .int .i64 k] 131)
    rw [hszZ] at h3
    exact (hb2.block _ (by rw [World.size_alloc, hszZ]; omega)).trans h3
  have m5 : w2.cell? ⟨w1.heap.size, 5, none⟩ = some (.int .i64 k) := cell_of_row w2 _ 5 _ _ _ hbm
  have HZ2 : Hid (Below w.heap.size w w2) := hZ.trans (hb2.mono hZ.size)
  clear hbm hb2 hZ HZ q0 q1 q2 q3 q4 q5 f5 hszZ
  have HBZ : Hid (BIn w2 (some ⟨b, o, none⟩) xs) := HB.out.below HZ2.out
  go_wp2_with fail
  refine (noughts_any _ (xs.drop (16 + k)) _ _ true _ (by rw [List.length_drop, HX.out]; try omega) (by have := HC.out; have := HCC.out; omega) (by have := HCM.out; omega) (HBZ.out.drop' (16 + k)) HNZ.out).mono ?_
  rintro x w3 ⟨ex, ew⟩
  subst ex
  subst ew
  go_wp2
  go_ret2
  exact ⟨rfl, HZ2.out⟩
def PartOut (w : World) (b o c : Nat) (e s p i n : Nat) (xs : List Nat) (x : Ending) (w' : World) : Prop :=
  ((OkSec e s p i n xs ∧ x = .returned (.tuple #[.slice (some ⟨b, o + 16, none⟩) (sizeOf2 xs) (c - 16), .bool true])) ∨ (¬ OkSec e s p i n xs ∧ x = .returned (.tuple #[.slice none 0 0, .bool false]))) ∧ Below w.heap.size w w'
theorem part_no {w : World} {b o c e s p i n : Nat} {xs : List Nat} {x : Ending} {w' : World} (hn : ¬ OkSec e s p i n xs) (h : x = .returned (.tuple #[.slice none 0 0, .bool false]) ∧ Below w.heap.size w w') : PartOut w b o c e s p i n xs x w' := ⟨.inr ⟨hn, h.1⟩, h.2⟩
theorem part_yes {w : World} {b o c e s p i n k : Nat} {xs : List Nat} {x : Ending} {w' : World} (hy : OkSec e s p i n xs) (hk : sizeOf2 xs = k) (h : x = .returned (.tuple #[.slice (some ⟨b, o + 16, none⟩) (16 + k - 16) (c - 16), .bool true]) ∧ Below w.heap.size w w') : PartOut w b o c e s p i n xs x w' := by
  refine ⟨.inl ⟨hy, ?_⟩, h.2⟩
  rw [h.1, hk, Nat.add_sub_cancel_left]
theorem allZ_iff (xs : List Nat) : allZ xs = true ↔ ∀ c ∈ xs, c = 0 := by unfold allZ; exact decide_eq_true_iff
theorem part_any (e s p i n z : Nat) (b o c : Nat) (xs : List Nat) (w : World) (hx : xs.length = 128) (hc : 128 ≤ c) (hcm : c ≤ maxLen) (hb : BIn w (some ⟨b, o, none⟩) xs) (hi : i < 256) (hn : n < 256) :
    Calls Tryz.prog 135 #[.slice (some ⟨b, o, none⟩) 128 c, markV e s p i n z] w fun x w' => PartOut w b o c e s p i n xs x w' := by
  have hm : markOfN xs = .agg #[.int .u32 (numAt xs 0), .int .u32 (numAt xs 4), .int .u32 (numAt xs 8), .int .i64 (xs.getD 12 0 : Nat), .int .i64 (xs.getD 13 0 : Nat), .int .i64 (sizeOf2 xs)] := rfl
  by_cases h0 : numAt xs 0 = e
  · by_cases h1 : numAt xs 4 = s
    · by_cases h2 : numAt xs 8 = p
      · by_cases h3 : xs.getD 12 0 = i
        · by_cases h4 : xs.getD 13 0 = n
          · rw [h0, h1, h2, h3, h4] at hm
            obtain ⟨k, hk⟩ : ∃ k, sizeOf2 xs = k := ⟨_, rfl⟩
            rw [hk] at hm
            have hy : (i + 1 < n → 112 ≤ k) → (0 < i → k ≠ 0) → k ≤ 112 → allZ (xs.drop (16 + k)) = true → OkSec e s p i n xs := fun a b c d => ⟨h0, h1, h2, h3, h4, by rw [hk]; exact a, by rw [hk]; exact b, by rw [hk]; exact c, by rw [hk]; exact (allZ_iff _).1 d⟩
            have hno : ∀ {q : Prop}, OkSec e s p i n xs → ((i + 1 < n → 112 ≤ k) → (0 < i → k ≠ 0) → k ≤ 112 → allZ (xs.drop (16 + k)) = true → q) → q := fun h g => g (by have := h.full; rwa [hk] at this) (by have := h.some; rwa [hk] at this) (by have := h.le; rwa [hk] at this) ((allZ_iff _).2 (by have := h.rest; rwa [hk] at this))
            have hlast : c = 16 + k → k ≤ 112 → k = 112 ∧ c = 128 := by omega
            by_cases p0 : i + 1 < n
            · by_cases a0 : k < 112
              · exact (part_few0 e s p i n z k b o c xs w hx hc hcm hb hm hi hn p0 a0).mono fun x w' h => part_no (fun hh => hno hh fun q _ _ _ => by have := q p0; omega) h
              · by_cases a1 : 112 < k
                · exact (part_many0 e s p i n z k b o c xs w hx hc hcm hb hm hi hn p0 (by omega) a1).mono fun x w' h => part_no (fun hh => hno hh fun _ _ q _ => by omega) h
                · by_cases cc : c = 16 + k
                  · obtain ⟨rfl, rfl⟩ := hlast cc (by omega)
                    exact (part_z0t1 e s p i n z b o xs w hx hb hm hi hn p0).mono fun x w' h => part_yes (hy (fun _ => by omega) (fun _ => by omega) (by omega) ((allZ_iff _).2 (by rw [List.drop_eq_nil_of_le (by omega)]; simp))) hk h
                  · cases hz : allZ (xs.drop (16 + k)) with
                    | true => exact (part_z0t0 e s p i n z k b o c xs w hx hc hcm hb hm hi hn p0 (by omega) (by omega) hz cc).mono fun x w' h => part_yes (hy (fun _ => by omega) (fun _ => by omega) (by omega) hz) hk h
                    | false => exact (part_z0f0 e s p i n z k b o c xs w hx hc hcm hb hm hi hn p0 (by omega) (by omega) hz cc).mono fun x w' h => part_no (fun hh => hno hh fun _ _ _ q => by rw [hz] at q; cases q) h
            · by_cases p1 : 0 < i
              · by_cases a0 : k = 0
                · exact (part_few1 e s p i n z k b o c xs w hx hc hcm hb hm hi hn p0 p1 a0).mono fun x w' h => part_no (fun hh => hno hh fun _ q _ _ => q p1 a0) h
                · by_cases a1 : 112 < k
                  · exact (part_many1 e s p i n z k b o c xs w hx hc hcm hb hm hi hn p0 p1 a0 a1).mono fun x w' h => part_no (fun hh => hno hh fun _ _ q _ => by omega) h
                  · by_cases cc : c = 16 + k
                    · obtain ⟨rfl, rfl⟩ := hlast cc (by omega)
                      exact (part_z1t1 e s p i n z b o xs w hx hb hm hi hn p0 p1).mono fun x w' h => part_yes (hy (fun _ => by omega) (fun _ => by omega) (by omega) ((allZ_iff _).2 (by rw [List.drop_eq_nil_of_le (by omega)]; simp))) hk h
                    · cases hz : allZ (xs.drop (16 + k)) with
                      | true => exact (part_z1t0 e s p i n z k b o c xs w hx hc hcm hb hm hi hn p0 p1 a0 (by omega) hz cc).mono fun x w' h => part_yes (hy (fun _ => by omega) (fun _ => a0) (by omega) hz) hk h
                      | false => exact (part_z1f0 e s p i n z k b o c xs w hx hc hcm hb hm hi hn p0 p1 a0 (by omega) hz cc).mono fun x w' h => part_no (fun hh => hno hh fun _ _ _ q => by rw [hz] at q; cases q) h
              · by_cases a1 : 112 < k
                · exact (part_many2 e s p i n z k b o c xs w hx hc hcm hb hm hi hn p0 p1 a1).mono fun x w' h => part_no (fun hh => hno hh fun _ _ q _ => by omega) h
                · by_cases cc : c = 16 + k
                  · obtain ⟨rfl, rfl⟩ := hlast cc (by omega)
                    exact (part_z2t1 e s p i n z b o xs w hx hb hm hi hn p0 p1).mono fun x w' h => part_yes (hy (fun _ => by omega) (fun _ => by omega) (by omega) ((allZ_iff _).2 (by rw [List.drop_eq_nil_of_le (by omega)]; simp))) hk h
                  · cases hz : allZ (xs.drop (16 + k)) with
                    | true => exact (part_z2t0 e s p i n z k b o c xs w hx hc hcm hb hm hi hn p0 p1 (by omega) hz cc).mono fun x w' h => part_yes (hy (fun _ => by omega) (fun _ => by omega) (by omega) hz) hk h
                    | false => exact (part_z2f0 e s p i n z k b o c xs w hx hc hcm hb hm hi hn p0 p1 (by omega) hz cc).mono fun x w' h => part_no (fun hh => hno hh fun _ _ _ q => by rw [hz] at q; cases q) h
          · rw [h0, h1, h2, h3] at hm
            exact (part_ne4 e s p i n z _ _ b o c xs w hx hc hcm hb hm h4).mono fun x w' h => part_no (fun hh => h4 hh.hn) h
        · rw [h0, h1, h2] at hm
          exact (part_ne3 e s p i n z _ _ _ b o c xs w hx hc hcm hb hm h3).mono fun x w' h => part_no (fun hh => h3 hh.hi) h
      · rw [h0, h1] at hm
        exact (part_ne2 e s p i n z _ _ _ _ b o c xs w hx hc hcm hb hm h2).mono fun x w' h => part_no (fun hh => h2 hh.hp) h
    · rw [h0] at hm
      exact (part_ne1 e s p i n z _ _ _ _ _ b o c xs w hx hc hcm hb hm h1).mono fun x w' h => part_no (fun hh => h1 hh.hs) h
  · exact (part_ne0 e s p i n z _ _ _ _ _ _ b o c xs w hx hc hcm hb hm h0).mono fun x w' h => part_no (fun hh => h0 hh.he) h
def foundV (R : OpenT) : Value := .agg #[.string R.1, .int .u32 R.2.1, .int .i64 R.2.2.1]
theorem found_no {e p : Nat} {xs : List Nat} (he0 : e ≠ 0) (h : ∀ s r, ¬ IsRec e p xs s r) : foundV (openR e p xs) = .agg #[.string ByteArray.empty, .int .u32 0, .int .i64 0] := by
  rw [openR_no he0 h]; rfl
theorem found_yes {e p s n : Nat} {xs r : List Nat} (he0 : e ≠ 0) (he : e < 4294967296) (hp : p < 4294967296) (h : IsRec e p xs s r) (hn : needsN r.length = n) : foundV (openR e p xs) = .agg #[.string (strOf r), .int .u32 s, .int .i64 n] := by
  rw [openR_yes he0 he hp h, ← hn]; rfl
theorem grown_set (w : World) (g i : Nat) (v : Value) : w.grownBy (w.setCell ⟨g, i, none⟩ v) (some g) :=
  ⟨rfl, rfl, rfl, by simp, fun k _ hn => Below.heap_setCell w ⟨g, i, none⟩ v k (fun e => hn (by rw [e]))⟩
theorem block_set {w : World} {g i : Nat} {cs : Array Value} {t : TypeId} {fr : Nat × Nat} (h : w.heap[g]? = some (.cells cs t fr)) (v : Value) : (w.setCell ⟨g, i, none⟩ v).heap[g]? = some (.cells (cs.setIfInBounds i v) t fr) := by
  rw [setCell_eq_setRow w g i cs t fr v h]
  exact setRow_heap w g cs _ t _ h
theorem own_ne {w : World} {base n : Nat} {v : Value} {xs : List Value} (h : w.ownsRow base 5 1 v n xs) {B : Nat} {C : Array Value} {t : TypeId} {fr : Nat × Nat} (hB : w.heap[B]? = some (.cells C t fr)) (ht : t ≠ 5) : v.ownBlock ≠ some B := by
  intro e
  rcases h.2 with ⟨hv, _⟩ | ⟨g, cap, cur, hv, _, hgg, _⟩
  · rw [hv] at e; cases e
  · rw [hv] at e
    simp only [Value.ownBlock, Option.some.injEq] at e
    subst e
    rw [hB] at hgg
    simp only [Option.some.injEq, Obj.cells.injEq] at hgg
    exact ht hgg.2.1
theorem St.set {w : World} {B : Nat} {C : Array Value} {t : TypeId} {bx : List Box} {wc : World} {v : Value} {xs : List Nat} (h : St w ((B, C, t) :: bx) wc v xs) (hB : w.heap.size ≤ B) (hd : ∀ p ∈ bx, p.1 ≠ B) (i : Nat) (u : Value) : St w ((B, C.setIfInBounds i u, t) :: bx) (wc.setCell ⟨B, i, none⟩ u) v xs := by
  have h0 := h.box (B, C, t) (by simp)
  refine ⟨World.ownsRow.kept h.own (grown_set wc B i u) (.inr (own_ne h.own h0.1 h0.2)), h.bel.setCell hB _, fun p hp => ?_⟩
  rcases List.mem_cons.1 hp with rfl | hp
  · exact ⟨block_set h0.1 u, h0.2⟩
  · exact ⟨(Below.heap_setCell wc ⟨B, i, none⟩ u p.1 (hd p hp)).trans (h.box p (by simp [hp])).1, (h.box p (by simp [hp])).2⟩
theorem St.row {w : World} {bx : List Box} {wc : World} {v : Value} {xs : List Nat} (h : St w bx wc v xs) {B : Nat} {C : Array Value} {t : TypeId} (hm : (B, C, t) ∈ bx) : wc.heap[B]? = some (.cells C t (0, 0)) := (h.box _ hm).1
theorem box3 {w : World} {g : Nat} {a b c : Value} {t : TypeId} (h : w.heap[g]? = some (.cells #[a, b, c] t (0, 0))) : w.cell? ⟨g, 0, none⟩ = some a ∧ w.cell? ⟨g, 1, none⟩ = some b ∧ w.cell? ⟨g, 2, none⟩ = some c ∧ w.frozen? ⟨g, 0, none⟩ = false ∧ w.frozen? ⟨g, 1, none⟩ = false ∧ w.frozen? ⟨g, 2, none⟩ = false :=
  ⟨cell_of_row w g 0 _ t _ h, cell_of_row w g 1 _ t _ h, cell_of_row w g 2 _ t _ h, by simp [World.frozen?, h], by simp [World.frozen?, h], by simp [World.frozen?, h]⟩
theorem box6 {w : World} {g : Nat} {a b c d e f : Value} {t : TypeId} (h : w.heap[g]? = some (.cells #[a, b, c, d, e, f] t (0, 0))) : w.cell? ⟨g, 0, none⟩ = some a ∧ w.cell? ⟨g, 1, none⟩ = some b ∧ w.cell? ⟨g, 2, none⟩ = some c ∧ w.cell? ⟨g, 3, none⟩ = some d ∧ w.cell? ⟨g, 4, none⟩ = some e ∧ w.cell? ⟨g, 5, none⟩ = some f ∧ w.frozen? ⟨g, 3, none⟩ = false :=
  ⟨cell_of_row w g 0 _ t _ h, cell_of_row w g 1 _ t _ h, cell_of_row w g 2 _ t _ h, cell_of_row w g 3 _ t _ h, cell_of_row w g 4 _ t _ h, cell_of_row w g 5 _ t _ h, by simp [World.frozen?, h]⟩
theorem below_set3 {w w' : World} {a b c : Value} (h : Below w.heap.size w w') : Below w.heap.size w (((w'.setCell ⟨w.heap.size, 0, none⟩ a).setCell ⟨w.heap.size, 1, none⟩ b).setCell ⟨w.heap.size, 2, none⟩ c) := ((h.setCell (Nat.le_refl _) _).setCell (Nat.le_refl _) _).setCell (Nat.le_refl _) _
theorem below_set3a {w w' : World} {a b c : Value} (h : Below w.heap.size w w') (o : Obj) : Below w.heap.size w ((((w'.setCell ⟨w.heap.size, 0, none⟩ a).setCell ⟨w.heap.size, 1, none⟩ b).setCell ⟨w.heap.size, 2, none⟩ c).alloc o) := (below_set3 h).alloc (below_set3 (a := a) (b := b) (c := c) h).size o
theorem start8 {w w1 : World} {e s p n : Nat} {y0 y2 y3 y5 : Int} (hb : Below w.heap.size w w1) (hx : w1.heap[w.heap.size]? = some (.cells #[.string ByteArray.empty, .int .u32 0, .int .i64 0] 210 (0, 0))) : St w [(w1.heap.size + 1, #[.int .u32 e, .int .u32 s, .int .u32 p, .int .i64 0, .int .i64 n, .int .i64 0], 131), (w1.heap.size, #[.int .u32 y0, .int .u32 s, .int .u32 y2, .int .i64 y3, .int .i64 n, .int .i64 y5], 131), (w.heap.size, #[.string ByteArray.empty, .int .u32 0, .int .i64 0], 210)] ((w1.alloc (.cells #[.int .u32 y0, .int .u32 s, .int .u32 y2, .int .i64 y3, .int .i64 n, .int .i64 y5] 131)).alloc (.cells #[.int .u32 e, .int .u32 s, .int .u32 p, .int .i64 0, .int .i64 n, .int .i64 0] 131)) (.slice none 0 0) [] := by
  have h7 : Below w1.heap.size w1 (w1.alloc (.cells #[.int .u32 y0, .int .u32 s, .int .u32 y2, .int .i64 y3, .int .i64 n, .int .i64 y5] 131)) := below_alloc _ _
  have h8 : Below (w1.alloc (.cells #[.int .u32 y0, .int .u32 s, .int .u32 y2, .int .i64 y3, .int .i64 n, .int .i64 y5] 131)).heap.size (w1.alloc (.cells #[.int .u32 y0, .int .u32 s, .int .u32 y2, .int .i64 y3, .int .i64 n, .int .i64 y5] 131)) ((w1.alloc (.cells #[.int .u32 y0, .int .u32 s, .int .u32 y2, .int .i64 y3, .int .i64 n, .int .i64 y5] 131)).alloc (.cells #[.int .u32 e, .int .u32 s, .int .u32 p, .int .i64 0, .int .i64 n, .int .i64 0] 131)) := below_alloc _ _
  refine ⟨World.ownsRow_nil _ _ _ _, below_bt (below_bt hb h7) h8, fun q hq => ?_⟩
  simp only [List.mem_cons, List.not_mem_nil, or_false] at hq
  rcases hq with rfl | rfl | rfl
  · have := heap_alloc_new (w1.alloc (.cells #[.int .u32 y0, .int .u32 s, .int .u32 y2, .int .i64 y3, .int .i64 n, .int .i64 y5] 131)) (.cells #[.int .u32 e, .int .u32 s, .int .u32 p, .int .i64 0, .int .i64 n, .int .i64 0] 131)
    exact ⟨by simpa using this, by show (131 : TypeId) ≠ 5; decide⟩
  · exact ⟨(h8.block _ (by simp)).trans (heap_alloc_new w1 _), by show (131 : TypeId) ≠ 5; decide⟩
  · exact ⟨(h8.block _ (by have := lt_heap hx; simp; omega)).trans ((h7.block _ (lt_heap hx)).trans hx), by show (210 : TypeId) ≠ 5; decide⟩
theorem part_ok (e s p i n : Nat) (b o c : Nat) (xs : List Nat) (w : World) (hx : xs.length = 128) (hc : 128 ≤ c) (hcm : c ≤ maxLen) (hb : BIn w (some ⟨b, o, none⟩) xs) (hi : i < 256) (hn : n < 256) (h : OkSec e s p i n xs) :
    Calls Tryz.prog 135 #[.slice (some ⟨b, o, none⟩) 128 c, .agg #[.int .u32 e, .int .u32 s, .int .u32 p, .int .i64 i, .int .i64 n, .int .i64 0]] w fun x w' => x = .returned (.tuple #[.slice (some ⟨b, o + 16, none⟩) (sizeOf2 xs) (c - 16), .bool true]) ∧ Below w.heap.size w w' :=
  (part_any e s p i n 0 b o c xs w hx hc hcm hb hi hn).mono fun x w' hh => ⟨by rcases hh.1 with h1 | h1; exact h1.2; exact absurd h h1.1, hh.2⟩
theorem part_bad (e s p i n : Nat) (b o c : Nat) (xs : List Nat) (w : World) (hx : xs.length = 128) (hc : 128 ≤ c) (hcm : c ≤ maxLen) (hb : BIn w (some ⟨b, o, none⟩) xs) (hi : i < 256) (hn : n < 256) (h : ¬ OkSec e s p i n xs) :
    Calls Tryz.prog 135 #[.slice (some ⟨b, o, none⟩) 128 c, .agg #[.int .u32 e, .int .u32 s, .int .u32 p, .int .i64 i, .int .i64 n, .int .i64 0]] w fun x w' => x = .returned (.tuple #[.slice none 0 0, .bool false]) ∧ Below w.heap.size w w' :=
  (part_any e s p i n 0 b o c xs w hx hc hcm hb hi hn).mono fun x w' hh => ⟨by rcases hh.1 with h1 | h1; exact absurd h1.1 h; exact h1.2, hh.2⟩
theorem no_sec' {e p n k s : Nat} {xs : List Nat} (he : e < 4294967296) (hp : p < 4294967296) (hn : xs.getD 13 0 = n) (hs : numAt xs 4 = s) (hk : k < n) (h : ¬ OkSec e s p k n (secAt xs k)) : ∀ s r, ¬ IsRec e p xs s r := fun s' r hr => by
  obtain ⟨h1, h2, _, h4⟩ := rec_dec he hp hr
  rw [hn] at h2
  rw [hs] at h1
  subst h2 h1
  exact h (h4 k hk)
theorem sixB {w w' : World} {g : Nat} {a b c d e f : Value} {t : TypeId} (h : w.heap[g]? = some (.cells #[a, b, c, d, e, f] t (0, 0))) (hb : Below w.heap.size w w') : w'.cell? ⟨g, 0, none⟩ = some a ∧ w'.cell? ⟨g, 1, none⟩ = some b ∧ w'.cell? ⟨g, 2, none⟩ = some c ∧ w'.cell? ⟨g, 3, none⟩ = some d ∧ w'.cell? ⟨g, 4, none⟩ = some e ∧ w'.cell? ⟨g, 5, none⟩ = some f := by
  obtain ⟨h0, h1, h2, h3, h4, h5, _⟩ := box6 ((hb.block g (lt_heap h)).trans h)
  exact ⟨h0, h1, h2, h3, h4, h5⟩
theorem below_dw {w w' : World} (h : Below w.drew.heap.size w.drew w') : Below w.heap.size w w' := ((Below.refl _ _).drew).trans h
theorem sec_in {w : World} {b o k : Nat} {xs : List Nat} (h : BIn w (some ⟨b, o, none⟩) xs) : BIn w (some ⟨b, o + k * 128, none⟩) (secAt xs k) := (h.drop' (k * 128)).take' 128
set_option maxRecDepth 8000 in
set_option maxHeartbeats 4000000 in
theorem open_main (e p b o m c : Nat) (xs : List Nat) (w : World) (he0 : e ≠ 0) (he : e < 4294967296) (hp : p < 4294967296) (hm : m = xs.length) (h128 : 128 ≤ m) (hmc : m ≤ c) (hcm : c ≤ maxLen) (hb : BIn w (some ⟨b, o, none⟩) xs) (hL : m ≤ 20000) :
    Calls Tryz.prog 106 #[.int .u32 e, .int .u32 p, .slice (some ⟨b, o, none⟩) m c] w fun x w' => x = .returned (foundV (openR e p xs)) ∧ Below w.heap.size w w' := by
  have HE : Hid (e ≠ 0 ∧ e < 4294967296 ∧ p < 4294967296) := ⟨he0, he, hp⟩
  have HB : Hid (BIn w (some ⟨b, o, none⟩) xs) := hb
  have HM : Hid (m = xs.length ∧ 128 ≤ m ∧ m ≤ c ∧ m ≤ 20000 ∧ c ≤ maxLen) := ⟨hm, h128, hmc, hL, hcm⟩
  have hmI : (128 : Int) ≤ m := by omega
  have hmI2 : (m : Int) ≤ 20000 := by omega
  have hcI : (m : Int) ≤ c := by omega
  obtain ⟨s, hs⟩ : ∃ s, numAt xs 4 = s := ⟨_, rfl⟩
  obtain ⟨n, hn⟩ : ∃ n, xs.getD 13 0 = n := ⟨_, rfl⟩
  have HSN : Hid (numAt xs 4 = s ∧ xs.getD 13 0 = n) := ⟨hs, hn⟩
  have HS32 : Hid (s < 4294967296) := hs ▸ numAt_lt hb.2 4
  have hn256 : n < 256 := hn ▸ getD_lt hb.2 13
  have HMK : Hid (markOfN xs = .agg #[.int .u32 (numAt xs 0), .int .u32 s, .int .u32 (numAt xs 8), .int .i64 (xs.getD 12 0 : Nat), .int .i64 n, .int .i64 (sizeOf2 xs)]) := by rw [← hs, ← hn]; rfl
  obtain ⟨y0, hy0⟩ : ∃ y : Int, (numAt xs 0 : Int) = y := ⟨_, rfl⟩
  obtain ⟨y2, hy2⟩ : ∃ y : Int, (numAt xs 8 : Int) = y := ⟨_, rfl⟩
  obtain ⟨y3, hy3⟩ : ∃ y : Int, ((xs.getD 12 0 : Nat) : Int) = y := ⟨_, rfl⟩
  obtain ⟨y5, hy5⟩ : ∃ y : Int, (sizeOf2 xs : Int) = y := ⟨_, rfl⟩
  rw [hy0, hy2, hy3, hy5] at HMK
  clear he0 he hp hb hm h128 hmc hL hs hn hcm hy0 hy2 hy3 hy5
  go_enter Tryz.func106, Tryz.ntmps106
  go_wp2_with fail
  refine (markOf_any (some ⟨b, o, none⟩) xs m c _ HM.out.1 (by have := HM.out; omega) HM.out.2.2.1 (HB.out.below (below_alloc w _))).mono ?_
  rintro x w1 ⟨rfl, hb1⟩
  rw [HMK.out]
  have HBX : Hid (w1.heap[w.heap.size]? = some (.cells #[.string ByteArray.empty, .int .u32 0, .int .i64 0] 210 (0, 0))) := (hb1.block _ (by simp)).trans (heap_alloc_new w _)
  have HB1 : Hid (Below w.heap.size w w1) := below_bt (below_alloc w _) hb1
  clear hb1 HMK
  have hlt1 : w.heap.size < w1.heap.size := lt_heap HBX.out
  obtain ⟨f0, f1, f2, f3, f4, f5⟩ := box3 HBX.out
  by_cases hq : s = 0
  · have g1 : ((s : Int) == 0) = true := by simp [hq]
    have HZ : Hid (s = 0) := hq
    clear hq
    go_wp2
    (try simp only [Exit.inBlock, Exit.then])
    refine bodyPost_ret (v := foundV (openR e p xs)) ?_ rfl ⟨rfl, below_set3a HB1.out _⟩
    rw [results_cell1 rfl, found_no HE.out.1 (no_head HE.out.2.1 HE.out.2.2 (.inl (HSN.out.1.trans HZ.out)))]
    go_simp
    rfl
  have g1 := beq0 hq
  have HS0 : Hid (s ≠ 0) := hq
  clear hq
  by_cases hq : n = 0
  · have g2 : ((n : Int) == 0) = true := by simp [hq]
    have HZ : Hid (n = 0) := hq
    clear hq
    go_wp2
    (try simp only [Exit.inBlock, Exit.then])
    refine bodyPost_ret (v := foundV (openR e p xs)) ?_ rfl ⟨rfl, below_set3a HB1.out _⟩
    rw [results_cell1 rfl, found_no HE.out.1 (no_head HE.out.2.1 HE.out.2.2 (.inr (.inl (HSN.out.2.trans HZ.out))))]
    go_simp
    rfl
  have g2 := beq0 hq
  have HN0 : Hid (n ≠ 0) := hq
  clear hq
  by_cases hq : m < n * 128
  · have g3 : decide ((m : Int) / 128 < (n : Int)) = true := decide_eq_true (by omega)
    have HZ : Hid (m < n * 128) := hq
    clear hq
    go_wp2
    (try simp only [Exit.inBlock, Exit.then])
    refine bodyPost_ret (v := foundV (openR e p xs)) ?_ rfl ⟨rfl, below_set3a HB1.out _⟩
    rw [results_cell1 rfl, found_no HE.out.1 (no_head HE.out.2.1 HE.out.2.2 (.inr (.inr (by rw [HSN.out.2, ← HM.out.1]; exact HZ.out))))]
    go_simp
    rfl
  have g3 : decide ((m : Int) / 128 < (n : Int)) = false := decide_eq_false (by omega)
  have HL : Hid (n * 128 ≤ m ∧ n < 256) := ⟨by omega, hn256⟩
  clear hq f0 f1 f2 f3 f4 f5
  have HS8 : Hid (St w [(w1.heap.size + 1, #[.int .u32 e, .int .u32 s, .int .u32 p, .int .i64 0, .int .i64 n, .int .i64 0], 131), (w1.heap.size, #[.int .u32 y0, .int .u32 s, .int .u32 y2, .int .i64 y3, .int .i64 n, .int .i64 y5], 131), (w.heap.size, #[.string ByteArray.empty, .int .u32 0, .int .i64 0], 210)] ((w1.alloc (.cells #[.int .u32 y0, .int .u32 s, .int .u32 y2, .int .i64 y3, .int .i64 n, .int .i64 y5] 131)).alloc (.cells #[.int .u32 e, .int .u32 s, .int .u32 p, .int .i64 0, .int .i64 n, .int .i64 0] 131)) (.slice none 0 0) []) := start8 HB1.out HBX.out
  go_wp2
  go_loopw [9, 45] (fun v i wr => ∃ (k : Nat) (y : Int), k ≤ n ∧ i = .int .i64 k ∧ St w [(w1.heap.size + 1, #[.int .u32 e, .int .u32 s, .int .u32 p, .int .i64 y, .int .i64 n, .int .i64 0], 131), (w1.heap.size, #[.int .u32 y0, .int .u32 s, .int .u32 y2, .int .i64 y3, .int .i64 n, .int .i64 y5], 131), (w.heap.size, #[.string ByteArray.empty, .int .u32 0, .int .i64 0], 210)] wr v (decK xs k) ∧ ∀ j, j < k → OkSec e s p j n (secAt xs j)) (fun _ i _ => n - (intOf i).toNat)
  case atStart => exact ⟨0, 0, by omega, rfl, HS8.out, fun j hj => absurd hj (by omega)⟩
  case round =>
    clear HS8
    obtain ⟨k, y, hk, rfl, hst, hok⟩ := hrel
    have HST : Hid (St w [(w1.heap.size + 1, #[.int .u32 e, .int .u32 s, .int .u32 p, .int .i64 y, .int .i64 n, .int .i64 0], 131), (w1.heap.size, #[.int .u32 y0, .int .u32 s, .int .u32 y2, .int .i64 y3, .int .i64 n, .int .i64 y5], 131), (w.heap.size, #[.string ByteArray.empty, .int .u32 0, .int .i64 0], 210)] wr _ (decK xs k)) := hst
    have HOK : Hid (∀ j, j < k → OkSec e s p j n (secAt xs j)) := hok
    have HDL : Hid ((decK xs k).length ≤ 30000) := by have := decK_len_le xs k (fun j hj => (hok j hj).le); have := HL.out; show _ ≤ _; omega
    clear hst hok
    by_cases hkn : k < n
    · have hkI : (k : Int) < (n : Int) := by omega
      have HK : Hid (k < n ∧ (k + 1) * 128 ≤ xs.length) := ⟨hkn, by have := HM.out; have := HL.out; omega⟩
      have HR8 : Hid (wr.heap[w1.heap.size + 1]? = some (.cells #[.int .u32 e, .int .u32 s, .int .u32 p, .int .i64 y, .int .i64 n, .int .i64 0] 131 (0, 0))) := HST.out.row (by simp)
      obtain ⟨_, _, _, d3, _, _, df⟩ := box6 HR8.out
      have HS3 : Hid (St w [(w1.heap.size + 1, #[.int .u32 e, .int .u32 s, .int .u32 p, .int .i64 k, .int .i64 n, .int .i64 0], 131), (w1.heap.size, #[.int .u32 y0, .int .u32 s, .int .u32 y2, .int .i64 y3, .int .i64 n, .int .i64 y5], 131), (w.heap.size, #[.string ByteArray.empty, .int .u32 0, .int .i64 0], 210)] (wr.setCell ⟨w1.heap.size + 1, 3, none⟩ (.int .i64 k)) _ (decK xs k)) := HST.out.set (by omega) (by simp; omega) 3 (.int .i64 k)
      clear hkn
      go_wp2
      clear d3 df HST HR8
      generalize wr.setCell ⟨w1.heap.size + 1, 3, none⟩ (.int .i64 k) = w3 at *
      have HR3 : Hid (w3.heap[w1.heap.size + 1]? = some (.cells #[.int .u32 e, .int .u32 s, .int .u32 p, .int .i64 k, .int .i64 n, .int .i64 0] 131 (0, 0))) := HS3.out.row (by simp)
      have HI3 : Hid (BIn w3 (some ⟨b, o, none⟩) xs) := HB.out.below HS3.out.bel
      have k1 : IntKind.i64.wrap ((k : Int) * 128) = (k : Int) * 128 := by rw [IntKind.wrap_i64]; omega
      have t1 : ((k : Int) * 128).toNat = k * 128 := by omega
      have hhi : (k : Int) * 128 ≤ (m : Int) := by have := HM.out; have := HL.out; omega
      have hlo : (0 : Int) ≤ (k : Int) * 128 := by omega
      have hck : ¬ c = k * 128 := by have := HM.out; have := HL.out; omega
      have hck3 : (128 : Int) ≤ ((c - k * 128 : Nat) : Int) := by have := HM.out; have := HL.out; omega
      have HSL : Hid ((secAt xs k).length = 128 ∧ 128 ≤ c - k * 128 ∧ c - k * 128 ≤ maxLen ∧ k < 256 ∧ n < 256) := ⟨secAt_len HK.out.2, by have := HM.out; have := HL.out; omega, by have := HM.out; omega, by have := HL.out; omega, HL.out.2⟩
      by_cases hsec : OkSec e s p k n (secAt xs k)
      · have HSE : Hid (OkSec e s p k n (secAt xs k)) := hsec
        clear hsec
        go_region_held3 (fun w' => (w'.cell? ⟨w1.heap.size + 1, 0, none⟩ = some (.int .u32 e) ∧ w'.cell? ⟨w1.heap.size + 1, 1, none⟩ = some (.int .u32 s) ∧ w'.cell? ⟨w1.heap.size + 1, 2, none⟩ = some (.int .u32 p) ∧ w'.cell? ⟨w1.heap.size + 1, 3, none⟩ = some (.int .i64 k) ∧ w'.cell? ⟨w1.heap.size + 1, 4, none⟩ = some (.int .i64 n) ∧ w'.cell? ⟨w1.heap.size + 1, 5, none⟩ = some (.int .i64 0)) ∧ Below w3.heap.size w3 w')
          (with_reducible first | exact ⟨sixB HR3.out (Below.refl _ _).drew, (Below.refl _ _).drew⟩ | exact ⟨sixB HR3.out (below_dw (by assumption)), below_dw (by assumption)⟩ | assumption)
          (first | (go_at_call 135; refine (part_ok e s p k n b (o + k * 128) (c - k * 128) (secAt xs k) _ HSL.out.1 HSL.out.2.1 HSL.out.2.2.1 (sec_in (HI3.out.below (Below.refl _ _).drew)) HSL.out.2.2.2.1 HSL.out.2.2.2.2 HSE.out).mono ?_; rintro e4 w4 ⟨rfl, hb4⟩) | fail)
        rename_i hh
        have HB4 : Hid (Below w3.heap.size w3 w4) := hh.2
        have HS4 : Hid (St w [(w1.heap.size + 1, #[.int .u32 e, .int .u32 s, .int .u32 p, .int .i64 k, .int .i64 n, .int .i64 0], 131), (w1.heap.size, #[.int .u32 y0, .int .u32 s, .int .u32 y2, .int .i64 y3, .int .i64 n, .int .i64 y5], 131), (w.heap.size, #[.string ByteArray.empty, .int .u32 0, .int .i64 0], 210)] w4 _ (decK xs k)) := HS3.out.call HB4.out
        have HI4 : Hid (BIn w4 (some ⟨b, o, none⟩) xs) := HI3.out.below HB4.out
        have hz4 := HS4.out.size
        obtain ⟨z, hz⟩ : ∃ z, sizeOf2 (secAt xs k) = z := ⟨_, rfl⟩
        have HZ : Hid (sizeOf2 (secAt xs k) = z ∧ z ≤ 112) := ⟨hz, by have := HSE.out.le; omega⟩
        rw [hz]
        clear hh hb4 HS3 HI3 hz
        go_wp2_with (at_builtin; go_loud (refine wpList_append_bytes _ rfl _ _ rfl w.heap.size _ _ (bodyOf (secAt xs k)) (some ⟨b, o + k * 128 + 16, none⟩) _ _ rfl rfl (body_len HK.out.2 HZ.out.1 HZ.out.2).symm HS4.out.own (body_in HI4.out rfl) (fun h => by cases h) (by have := HDL.out; rw [body_len HK.out.2 HZ.out.1 HZ.out.2]; have := HZ.out.2; omega) hz4 ?_); intro va ua hoa hga; have ta := HS4.out.app hoa hga; have HTA : Hid _ := ta; clear ta hoa hga)
        go_roundw
        case rel => exact ⟨k + 1, k, by have := HK.out; omega, by go_num, HTA.out.eq (decK_snoc xs k).symm, fun j hj => by
          rcases Nat.lt_or_ge j k with h' | h'
          · exact HOK.out j h'
          · obtain rfl : j = k := by omega
            exact HSE.out⟩
        case measure => simp [intOf]; omega
      · have HSE : Hid (¬ OkSec e s p k n (secAt xs k)) := hsec
        clear hsec
        go_region_held3 (fun w' => (w'.cell? ⟨w1.heap.size + 1, 0, none⟩ = some (.int .u32 e) ∧ w'.cell? ⟨w1.heap.size + 1, 1, none⟩ = some (.int .u32 s) ∧ w'.cell? ⟨w1.heap.size + 1, 2, none⟩ = some (.int .u32 p) ∧ w'.cell? ⟨w1.heap.size + 1, 3, none⟩ = some (.int .i64 k) ∧ w'.cell? ⟨w1.heap.size + 1, 4, none⟩ = some (.int .i64 n) ∧ w'.cell? ⟨w1.heap.size + 1, 5, none⟩ = some (.int .i64 0)) ∧ Below w3.heap.size w3 w')
          (with_reducible first | exact ⟨sixB HR3.out (Below.refl _ _).drew, (Below.refl _ _).drew⟩ | exact ⟨sixB HR3.out (below_dw (by assumption)), below_dw (by assumption)⟩ | assumption)
          (first | (go_at_call 135; refine (part_bad e s p k n b (o + k * 128) (c - k * 128) (secAt xs k) _ HSL.out.1 HSL.out.2.1 HSL.out.2.2.1 (sec_in (HI3.out.below (Below.refl _ _).drew)) HSL.out.2.2.2.1 HSL.out.2.2.2.2 HSE.out).mono ?_; rintro e4 w4 ⟨rfl, hb4⟩) | fail)
        rename_i hh
        have HB4 : Hid (Below w3.heap.size w3 w4) := hh.2
        have HS4 : Hid (St w [(w1.heap.size + 1, #[.int .u32 e, .int .u32 s, .int .u32 p, .int .i64 k, .int .i64 n, .int .i64 0], 131), (w1.heap.size, #[.int .u32 y0, .int .u32 s, .int .u32 y2, .int .i64 y3, .int .i64 n, .int .i64 y5], 131), (w.heap.size, #[.string ByteArray.empty, .int .u32 0, .int .i64 0], 210)] w4 _ (decK xs k)) := HS3.out.call HB4.out
        clear hh hb4
        have HR6 : Hid (w4.heap[w.heap.size]? = some (.cells #[.string ByteArray.empty, .int .u32 0, .int .i64 0] 210 (0, 0))) := HS4.out.row (by simp)
        obtain ⟨f0, f1, f2, f3, f4, f5⟩ := box3 HR6.out
        go_wp2
        (try simp only [Exit.inBlock, Exit.then])
        refine bodyPost_ret (v := foundV (openR e p xs)) ?_ rfl ⟨rfl, below_set3 HS4.out.bel⟩
        rw [results_cell1 rfl, found_no HE.out.1 (no_sec' HE.out.2.1 HE.out.2.2 HSN.out.2 HSN.out.1 HK.out.1 HSE.out)]
        go_simp
        rfl
    · obtain rfl : k = n := by omega
      obtain ⟨q5, m5, hv5, _, _, hq5⟩ := own_form HST.out.own
      subst hv5
      have HBY : Hid (∀ c ∈ decK xs k, c < 256) := decK_byte HB.out.2 k
      have cv : (convert 32 9 (.slice q5 (decK xs k).length m5)).run Tryz.prog wr = .ok (.string (strOf (decK xs k))) wr := conv_at (own_at HST.out.own rfl HBY.out) rfl
      have HR6 : Hid (wr.heap[w.heap.size]? = some (.cells #[.string ByteArray.empty, .int .u32 0, .int .i64 0] 210 (0, 0))) := HST.out.row (by simp)
      have HR7 : Hid (wr.heap[w1.heap.size]? = some (.cells #[.int .u32 y0, .int .u32 s, .int .u32 y2, .int .i64 y3, .int .i64 k, .int .i64 y5] 131 (0, 0))) := HST.out.row (by simp)
      obtain ⟨f0, f1, f2, f3, f4, f5⟩ := box3 HR6.out
      obtain ⟨_, e1, _, _, e4, _, _⟩ := box6 HR7.out
      clear hq5
      by_cases hlong : 4096 < (decK xs k).length
      · have HNO : Hid (∀ s r, ¬ IsRec e p xs s r) := no_long HE.out.2.1 HE.out.2.2 HSN.out.2 hlong
        have g5 : decide ((4096 : Int) < ((decK xs k).length : Int)) = true := decide_eq_true (by omega)
        clear hlong
        go_wp2
        (try simp only [Exit.inBlock, Exit.then])
        refine bodyPost_ret (v := foundV (openR e p xs)) ?_ rfl ⟨rfl, below_set3 HST.out.bel⟩
        rw [results_cell1 rfl, found_no HE.out.1 HNO.out]
        go_simp
        rfl
      · have HLG : Hid ((decK xs k).length ≤ 4096) := by show _ ≤ _; omega
        have g5 : decide ((4096 : Int) < ((decK xs k).length : Int)) = false := decide_eq_false (by omega)
        clear hlong
        go_wp2
        (try simp only [Exit.inBlock, Exit.then])
        refine bodyPost_ret (v := foundV (openR e p xs)) ?_ rfl ⟨rfl, below_set3 HST.out.bel⟩
        have hrec := rec_of (e := e) (p := p) (n := k) HB.out.2 (by have := HN0.out; omega) HS0.out HS32.out (by have := HM.out; have := HL.out; omega) HOK.out HLG.out
        have hneed := (rec_dec HE.out.2.1 HE.out.2.2 hrec).2.1.symm.trans HSN.out.2
        rw [results_cell1 rfl, found_yes HE.out.1 HE.out.2.1 HE.out.2.2 hrec hneed]
        go_simp
theorem open_any (e p m c : Nat) (q : Option Addr) (xs : List Nat) (w : World) (he0 : e ≠ 0) (he : e < 4294967296) (hp : p < 4294967296) (hm : m = xs.length) (hmc : m ≤ c) (hcm : c ≤ maxLen) (hb : BIn w q xs) (hL : m ≤ 20000) :
    Calls Tryz.prog 106 #[.int .u32 e, .int .u32 p, .slice q m c] w fun x w' => x = .returned (foundV (openR e p xs)) ∧ Below w.heap.size w w' := by
  by_cases h1 : m < 128
  · have g1 : decide ((m : Int) < 128) = true := decide_eq_true (by omega)
    have HN : Hid (xs.length < 128) := by show _ < _; omega
    have HE : Hid (e ≠ 0) := he0
    clear h1 he0 hm hmc hcm hL he hp hb
    go_enter Tryz.func106, Tryz.ntmps106
    go_wp2
    (try simp only [Exit.inBlock, Exit.then])
    refine bodyPost_ret (v := foundV (openR e p xs)) ?_ rfl ⟨rfl, below_alloc _ _⟩
    rw [results_cell1 rfl, found_no HE.out (no_short HN.out)]
    go_simp
    rfl
  · obtain ⟨b, o, rfl⟩ := hb.addr (by omega)
    exact open_main e p b o m c xs w he0 he hp hm (by omega) hmc hcm hb hL
end Go.Proofs.YtghcmllmbpoidaaGreatDoor.Lg
