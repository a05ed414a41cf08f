/-
  A sector held against the mark that is wanted: part.
-/
import Derived.Test.YtpbfoppaeeafhaaJ05
namespace Go.Proofs.Ytpbfoppaeeafhaa
open Go.RowKit Go.WideShapes

set_option maxRecDepth 8000 in
set_option maxHeartbeats 2000000 in
theorem part_few1 (e s p i n z k : Nat) (b o c : Nat) (xs : List Nat) (w : World) (hx : xs.length = 128) (hc : 128 ≤ c) (hcm : c ≤ maxLen) (hb : BIn w (some ⟨b, o, none⟩) xs) (hm : markOfN xs = .agg #[.int .u32 e, .int .u32 s, .int .u32 p, .int .i64 i, .int .i64 n, .int .i64 k]) (hi : i < 256) (hn : n < 256) (h1 : ¬ i + 1 < n) (h2 : 0 < i) (hk : k = 0) :
    Calls Try.prog 67 #[.slice (some ⟨b, o, none⟩) 128 c, markV e s p i n z] w fun x w' => x = .returned (.tuple #[.slice none 0 0, .bool false]) ∧ Below w.heap.size w w' := by
  have g : ((k : Int) == 0) = true := by simp; omega
  clear hk
  have HI : Hid (i < 256 ∧ n < 256) := ⟨hi, hn⟩
  have HP : Hid (placeN i n = 1) := by show _ = _; unfold placeN; rw [if_neg h1, if_pos h2]
  clear hi hn h1 h2
  have HX : Hid (xs.length = 128) := hx
  have HB : Hid (BIn w (some ⟨b, o, none⟩) xs) := hb
  have HCM : Hid (c ≤ maxLen) := hcm
  have h16c : (16 : Int) < c := by omega
  have hcI : (128 : Int) ≤ c := by omega
  have HC : Hid (128 ≤ c) := hc
  have HM : Hid (markOfN xs = .agg #[.int .u32 e, .int .u32 s, .int .u32 p, .int .i64 i, .int .i64 n, .int .i64 k]) := hm
  clear hx hb hc hcm hm
  unfold markV
  go_enter Try.func67, Try.ntmps67
  go_wp2_with fail
  refine (markOf_any (some ⟨b, o, none⟩) xs 128 c _ HX.out.symm (by have := HX.out; omega) HC.out (HB.out.alloc _)).mono ?_
  rintro x w1 ⟨ex, hb1⟩
  rw [HM.out] at ex
  subst ex
  have hbw : Below (w.alloc (.cells #[.int .u32 e, .int .u32 s, .int .u32 p, .int .i64 i, .int .i64 n, .int .i64 z] 116)).heap.size (w.alloc (.cells #[.int .u32 e, .int .u32 s, .int .u32 p, .int .i64 i, .int .i64 n, .int .i64 z] 116)) w1 := hb1
  have hbx : w1.heap[w.heap.size]? = some (.cells #[.int .u32 e, .int .u32 s, .int .u32 p, .int .i64 i, .int .i64 n, .int .i64 z] 116 (0, 0)) := (hbw.block _ (by simp)).trans (heap_alloc_new w _)
  have hlt : w.heap.size < w1.heap.size := lt_heap hbx
  have q0 : w1.cell? ⟨w.heap.size, 0, none⟩ = some (.int .u32 e) := cell_of_row w1 _ 0 _ _ _ hbx
  have q1 : w1.cell? ⟨w.heap.size, 1, none⟩ = some (.int .u32 s) := cell_of_row w1 _ 1 _ _ _ hbx
  have q2 : w1.cell? ⟨w.heap.size, 2, none⟩ = some (.int .u32 p) := cell_of_row w1 _ 2 _ _ _ hbx
  have q3 : w1.cell? ⟨w.heap.size, 3, none⟩ = some (.int .i64 i) := cell_of_row w1 _ 3 _ _ _ hbx
  have q4 : w1.cell? ⟨w.heap.size, 4, none⟩ = some (.int .i64 n) := cell_of_row w1 _ 4 _ _ _ hbx
  have q5 : w1.cell? ⟨w.heap.size, 5, none⟩ = some (.int .i64 z) := cell_of_row w1 _ 5 _ _ _ hbx
  have f5 : w1.frozen? ⟨w.heap.size, 5, none⟩ = false := by simp [World.frozen?, hbx]
  have HW1 : Hid (Below w.heap.size w w1) := (below_alloc w _).trans (hbw.mono (by simp))
  have HZ : Hid (Below w.heap.size w ((w1.setCell ⟨w.heap.size, 5, none⟩ (.int .i64 k)).alloc (.cells #[.int .u32 e, .int .u32 s, .int .u32 p, .int .i64 i, .int .i64 n, .int .i64 k] 116))) := (HW1.out.setCell (Nat.le_refl _) _).alloc (by simp [World.setCell]; omega) _
  clear hbx hbw hb1
  go_wp2_with fail
  refine (place_any e s p i n k 1 _ HI.out.1 HI.out.2 HP.out).mono ?_
  rintro x w2 ⟨ex, hb2⟩
  subst ex
  have hZ := HZ.out
  have hsz2 := hb2.size
  have hszZ : (w1.setCell ⟨w.heap.size, 5, none⟩ (.int .i64 k)).heap.size = w1.heap.size := by simp [World.setCell]
  have hbm : w2.heap[w1.heap.size]? = some (.cells #[.int .u32 e, .int .u32 s, .int .u32 p, .int .i64 i, .int .i64 n, .int .i64 k] 116 (0, 0)) := by
    have h3 := heap_alloc_new (w1.setCell ⟨w.heap.size, 5, none⟩ (.int .i64 k)) (.cells #[.int .u32 e, .int .u32 s, .int .u32 p, .int .i64 i, .int .i64 n, .int .i64 k] 116)
    rw [hszZ] at h3
    exact (hb2.block _ (by rw [World.size_alloc, hszZ]; omega)).trans h3
  have m5 : w2.cell? ⟨w1.heap.size, 5, none⟩ = some (.int .i64 k) := cell_of_row w2 _ 5 _ _ _ hbm
  have HZ2 : Hid (Below w.heap.size w w2) := hZ.trans (hb2.mono hZ.size)
  clear hbm hb2 hZ HZ q0 q1 q2 q3 q4 q5 f5 hszZ
  go_wp2
  go_ret2
  exact ⟨rfl, HZ2.out⟩
set_option maxRecDepth 8000 in
set_option maxHeartbeats 2000000 in
set_option linter.unusedVariables false in
theorem part_many1 (e s p i n z k : Nat) (b o c : Nat) (xs : List Nat) (w : World) (hx : xs.length = 128) (hc : 128 ≤ c) (hcm : c ≤ maxLen) (hb : BIn w (some ⟨b, o, none⟩) xs) (hm : markOfN xs = .agg #[.int .u32 e, .int .u32 s, .int .u32 p, .int .i64 i, .int .i64 n, .int .i64 k]) (hi : i < 256) (hn : n < 256) (h1 : ¬ i + 1 < n) (h2 : 0 < i) (hk0 : k ≠ 0) (hk : 112 < k) :
    Calls Try.prog 67 #[.slice (some ⟨b, o, none⟩) 128 c, markV e s p i n z] w fun x w' => x = .returned (.tuple #[.slice none 0 0, .bool false]) ∧ Below w.heap.size w w' := by
  have g00 : ((k : Int) == 0) = false := by simp; omega
  clear hk0
  have gk : (112 : Int) < k := by omega
  clear hk
  have HI : Hid (i < 256 ∧ n < 256) := ⟨hi, hn⟩
  have HP : Hid (placeN i n = 1) := by show _ = _; unfold placeN; rw [if_neg h1, if_pos h2]
  clear hi hn h1 h2
  have HX : Hid (xs.length = 128) := hx
  have HB : Hid (BIn w (some ⟨b, o, none⟩) xs) := hb
  have HCM : Hid (c ≤ maxLen) := hcm
  have h16c : (16 : Int) < c := by omega
  have hcI : (128 : Int) ≤ c := by omega
  have HC : Hid (128 ≤ c) := hc
  have HM : Hid (markOfN xs = .agg #[.int .u32 e, .int .u32 s, .int .u32 p, .int .i64 i, .int .i64 n, .int .i64 k]) := hm
  clear hx hb hc hcm hm
  unfold markV
  go_enter Try.func67, Try.ntmps67
  go_wp2_with fail
  refine (markOf_any (some ⟨b, o, none⟩) xs 128 c _ HX.out.symm (by have := HX.out; omega) HC.out (HB.out.alloc _)).mono ?_
  rintro x w1 ⟨ex, hb1⟩
  rw [HM.out] at ex
  subst ex
  have hbw : Below (w.alloc (.cells #[.int .u32 e, .int .u32 s, .int .u32 p, .int .i64 i, .int .i64 n, .int .i64 z] 116)).heap.size (w.alloc (.cells #[.int .u32 e, .int .u32 s, .int .u32 p, .int .i64 i, .int .i64 n, .int .i64 z] 116)) w1 := hb1
  have hbx : w1.heap[w.heap.size]? = some (.cells #[.int .u32 e, .int .u32 s, .int .u32 p, .int .i64 i, .int .i64 n, .int .i64 z] 116 (0, 0)) := (hbw.block _ (by simp)).trans (heap_alloc_new w _)
  have hlt : w.heap.size < w1.heap.size := lt_heap hbx
  have q0 : w1.cell? ⟨w.heap.size, 0, none⟩ = some (.int .u32 e) := cell_of_row w1 _ 0 _ _ _ hbx
  have q1 : w1.cell? ⟨w.heap.size, 1, none⟩ = some (.int .u32 s) := cell_of_row w1 _ 1 _ _ _ hbx
  have q2 : w1.cell? ⟨w.heap.size, 2, none⟩ = some (.int .u32 p) := cell_of_row w1 _ 2 _ _ _ hbx
  have q3 : w1.cell? ⟨w.heap.size, 3, none⟩ = some (.int .i64 i) := cell_of_row w1 _ 3 _ _ _ hbx
  have q4 : w1.cell? ⟨w.heap.size, 4, none⟩ = some (.int .i64 n) := cell_of_row w1 _ 4 _ _ _ hbx
  have q5 : w1.cell? ⟨w.heap.size, 5, none⟩ = some (.int .i64 z) := cell_of_row w1 _ 5 _ _ _ hbx
  have f5 : w1.frozen? ⟨w.heap.size, 5, none⟩ = false := by simp [World.frozen?, hbx]
  have HW1 : Hid (Below w.heap.size w w1) := (below_alloc w _).trans (hbw.mono (by simp))
  have HZ : Hid (Below w.heap.size w ((w1.setCell ⟨w.heap.size, 5, none⟩ (.int .i64 k)).alloc (.cells #[.int .u32 e, .int .u32 s, .int .u32 p, .int .i64 i, .int .i64 n, .int .i64 k] 116))) := (HW1.out.setCell (Nat.le_refl _) _).alloc (by simp [World.setCell]; omega) _
  clear hbx hbw hb1
  go_wp2_with fail
  refine (place_any e s p i n k 1 _ HI.out.1 HI.out.2 HP.out).mono ?_
  rintro x w2 ⟨ex, hb2⟩
  subst ex
  have hZ := HZ.out
  have hsz2 := hb2.size
  have hszZ : (w1.setCell ⟨w.heap.size, 5, none⟩ (.int .i64 k)).heap.size = w1.heap.size := by simp [World.setCell]
  have hbm : w2.heap[w1.heap.size]? = some (.cells #[.int .u32 e, .int .u32 s, .int .u32 p, .int .i64 i, .int .i64 n, .int .i64 k] 116 (0, 0)) := by
    have h3 := heap_alloc_new (w1.setCell ⟨w.heap.size, 5, none⟩ (.int .i64 k)) (.cells #[.int .u32 e, .int .u32 s, .int .u32 p, .int .i64 i, .int .i64 n, .int .i64 k] 116)
    rw [hszZ] at h3
    exact (hb2.block _ (by rw [World.size_alloc, hszZ]; omega)).trans h3
  have m5 : w2.cell? ⟨w1.heap.size, 5, none⟩ = some (.int .i64 k) := cell_of_row w2 _ 5 _ _ _ hbm
  have HZ2 : Hid (Below w.heap.size w w2) := hZ.trans (hb2.mono hZ.size)
  clear hbm hb2 hZ HZ q0 q1 q2 q3 q4 q5 f5 hszZ
  go_wp2
  go_ret2
  exact ⟨rfl, HZ2.out⟩
set_option maxRecDepth 8000 in
set_option maxHeartbeats 2000000 in
theorem part_z1t1 (e s p i n z : Nat) (b o : Nat) (xs : List Nat) (w : World) (hx : xs.length = 128) (hb : BIn w (some ⟨b, o, none⟩) xs) (hm : markOfN xs = .agg #[.int .u32 e, .int .u32 s, .int .u32 p, .int .i64 i, .int .i64 n, .int .i64 112]) (hi : i < 256) (hn : n < 256) (h1 : ¬ i + 1 < n) (h2 : 0 < i) :
    Calls Try.prog 67 #[.slice (some ⟨b, o, none⟩) 128 128, markV e s p i n z] w fun x w' => x = .returned (.tuple #[.slice (some ⟨b, o + 16, none⟩) (16 + 112 - 16) (128 - 16), .bool true]) ∧ Below w.heap.size w w' := by
  have HI : Hid (i < 256 ∧ n < 256) := ⟨hi, hn⟩
  have HP : Hid (placeN i n = 1) := by show _ = _; unfold placeN; rw [if_neg h1, if_pos h2]
  clear hi hn h1 h2
  have HX : Hid (xs.length = 128) := hx
  have HB : Hid (BIn w (some ⟨b, o, none⟩) xs) := hb
  have HM : Hid (markOfN xs = .agg #[.int .u32 e, .int .u32 s, .int .u32 p, .int .i64 i, .int .i64 n, .int .i64 112]) := hm
  clear hx hb hm
  unfold markV
  go_enter Try.func67, Try.ntmps67
  go_wp2_with fail
  refine (markOf_any (some ⟨b, o, none⟩) xs 128 128 _ HX.out.symm (by have := HX.out; omega) (Nat.le_refl _) (HB.out.alloc _)).mono ?_
  rintro x w1 ⟨ex, hb1⟩
  rw [HM.out] at ex
  subst ex
  have hbw : Below (w.alloc (.cells #[.int .u32 e, .int .u32 s, .int .u32 p, .int .i64 i, .int .i64 n, .int .i64 z] 116)).heap.size (w.alloc (.cells #[.int .u32 e, .int .u32 s, .int .u32 p, .int .i64 i, .int .i64 n, .int .i64 z] 116)) w1 := hb1
  have hbx : w1.heap[w.heap.size]? = some (.cells #[.int .u32 e, .int .u32 s, .int .u32 p, .int .i64 i, .int .i64 n, .int .i64 z] 116 (0, 0)) := (hbw.block _ (by simp)).trans (heap_alloc_new w _)
  have hlt : w.heap.size < w1.heap.size := lt_heap hbx
  have q0 : w1.cell? ⟨w.heap.size, 0, none⟩ = some (.int .u32 e) := cell_of_row w1 _ 0 _ _ _ hbx
  have q1 : w1.cell? ⟨w.heap.size, 1, none⟩ = some (.int .u32 s) := cell_of_row w1 _ 1 _ _ _ hbx
  have q2 : w1.cell? ⟨w.heap.size, 2, none⟩ = some (.int .u32 p) := cell_of_row w1 _ 2 _ _ _ hbx
  have q3 : w1.cell? ⟨w.heap.size, 3, none⟩ = some (.int .i64 i) := cell_of_row w1 _ 3 _ _ _ hbx
  have q4 : w1.cell? ⟨w.heap.size, 4, none⟩ = some (.int .i64 n) := cell_of_row w1 _ 4 _ _ _ hbx
  have q5 : w1.cell? ⟨w.heap.size, 5, none⟩ = some (.int .i64 z) := cell_of_row w1 _ 5 _ _ _ hbx
  have f5 : w1.frozen? ⟨w.heap.size, 5, none⟩ = false := by simp [World.frozen?, hbx]
  have HW1 : Hid (Below w.heap.size w w1) := (below_alloc w _).trans (hbw.mono (by simp))
  have HZ : Hid (Below w.heap.size w ((w1.setCell ⟨w.heap.size, 5, none⟩ (.int .i64 112)).alloc (.cells #[.int .u32 e, .int .u32 s, .int .u32 p, .int .i64 i, .int .i64 n, .int .i64 112] 116))) := (HW1.out.setCell (Nat.le_refl _) _).alloc (by simp [World.setCell]; omega) _
  clear hbx hbw hb1
  go_wp2_with fail
  refine (place_any e s p i n 112 1 _ HI.out.1 HI.out.2 HP.out).mono ?_
  rintro x w2 ⟨ex, hb2⟩
  subst ex
  have hZ := HZ.out
  have hsz2 := hb2.size
  have hszZ : (w1.setCell ⟨w.heap.size, 5, none⟩ (.int .i64 112)).heap.size = w1.heap.size := by simp [World.setCell]
  have hbm : w2.heap[w1.heap.size]? = some (.cells #[.int .u32 e, .int .u32 s, .int .u32 p, .int .i64 i, .int .i64 n, .int .i64 112] 116 (0, 0)) := by
    have h3 := heap_alloc_new (w1.setCell ⟨w.heap.size, 5, none⟩ (.int .i64 112)) (.cells #[.int .u32 e, .int .u32 s, .int .u32 p, .int .i64 i, .int .i64 n, .int .i64 112] 116)
    rw [hszZ] at h3
    exact (hb2.block _ (by rw [World.size_alloc, hszZ]; omega)).trans h3
  have m5 : w2.cell? ⟨w1.heap.size, 5, none⟩ = some (.int .i64 112) := cell_of_row w2 _ 5 _ _ _ hbm
  have HZ2 : Hid (Below w.heap.size w w2) := hZ.trans (hb2.mono hZ.size)
  clear hbm hb2 hZ HZ q0 q1 q2 q3 q4 q5 f5 hszZ
  go_wp2_with fail
  refine (noughts_any _ [] _ _ true _ (by simp) (by simp) (by simp [maxLen]) (drop_in0 rfl) (by simp)).mono ?_
  rintro x w3 ⟨ex, ew⟩
  subst ex
  subst ew
  go_wp2
  go_ret2
  exact ⟨rfl, HZ2.out⟩
end Go.Proofs.Ytpbfoppaeeafhaa
namespace Go.Proofs.Ytpbfoppaeeafhaa
open Go.RowKit Go.WideShapes

set_option maxRecDepth 8000 in
set_option maxHeartbeats 2000000 in
theorem part_z1f0 (e s p i n z k : Nat) (b o c : Nat) (xs : List Nat) (w : World) (hx : xs.length = 128) (hc : 128 ≤ c) (hcm : c ≤ maxLen) (hb : BIn w (some ⟨b, o, none⟩) xs) (hm : markOfN xs = .agg #[.int .u32 e, .int .u32 s, .int .u32 p, .int .i64 i, .int .i64 n, .int .i64 k]) (hi : i < 256) (hn : n < 256) (h1 : ¬ i + 1 < n) (h2 : 0 < i) (hk0 : k ≠ 0) (hk : k ≤ 112) (hz : allZ (xs.drop (16 + k)) = false) (hcc : ¬ c = 16 + k) :
    Calls Try.prog 67 #[.slice (some ⟨b, o, none⟩) 128 c, markV e s p i n z] w fun x w' => x = .returned (.tuple #[.slice none 0 0, .bool false]) ∧ Below w.heap.size w w' := by
  have g00 : ((k : Int) == 0) = false := by simp; omega
  clear hk0
  have gk : (k : Int) ≤ 112 := by omega
  have gk' : ¬ (112 : Int) < k := by omega
  have w16 : IntKind.i64.wrap (16 + (k : Int)) = 16 + (k : Int) := by rw [IntKind.wrap_i64]; omega
  have hkc : 16 + (k : Int) ≤ c := by omega
  have HK : Hid (k ≤ 112) := hk
  have HNZ : Hid (allZ (xs.drop (16 + k)) = false) := hz
  have HCC : Hid (¬ c = 16 + k) := hcc
  clear hk hz
  have HI : Hid (i < 256 ∧ n < 256) := ⟨hi, hn⟩
  have HP : Hid (placeN i n = 1) := by show _ = _; unfold placeN; rw [if_neg h1, if_pos h2]
  clear hi hn h1 h2
  have HX : Hid (xs.length = 128) := hx
  have HB : Hid (BIn w (some ⟨b, o, none⟩) xs) := hb
  have HCM : Hid (c ≤ maxLen) := hcm
  have h16c : (16 : Int) < c := by omega
  have hcI : (128 : Int) ≤ c := by omega
  have HC : Hid (128 ≤ c) := hc
  have HM : Hid (markOfN xs = .agg #[.int .u32 e, .int .u32 s, .int .u32 p, .int .i64 i, .int .i64 n, .int .i64 k]) := hm
  clear hx hb hc hcm hm
  unfold markV
  go_enter Try.func67, Try.ntmps67
  go_wp2_with fail
  refine (markOf_any (some ⟨b, o, none⟩) xs 128 c _ HX.out.symm (by have := HX.out; omega) HC.out (HB.out.alloc _)).mono ?_
  rintro x w1 ⟨ex, hb1⟩
  rw [HM.out] at ex
  subst ex
  have hbw : Below (w.alloc (.cells #[.int .u32 e, .int .u32 s, .int .u32 p, .int .i64 i, .int .i64 n, .int .i64 z] 116)).heap.size (w.alloc (.cells #[.int .u32 e, .int .u32 s, .int .u32 p, .int .i64 i, .int .i64 n, .int .i64 z] 116)) w1 := hb1
  have hbx : w1.heap[w.heap.size]? = some (.cells #[.int .u32 e, .int .u32 s, .int .u32 p, .int .i64 i, .int .i64 n, .int .i64 z] 116 (0, 0)) := (hbw.block _ (by simp)).trans (heap_alloc_new w _)
  have hlt : w.heap.size < w1.heap.size := lt_heap hbx
  have q0 : w1.cell? ⟨w.heap.size, 0, none⟩ = some (.int .u32 e) := cell_of_row w1 _ 0 _ _ _ hbx
  have q1 : w1.cell? ⟨w.heap.size, 1, none⟩ = some (.int .u32 s) := cell_of_row w1 _ 1 _ _ _ hbx
  have q2 : w1.cell? ⟨w.heap.size, 2, none⟩ = some (.int .u32 p) := cell_of_row w1 _ 2 _ _ _ hbx
  have q3 : w1.cell? ⟨w.heap.size, 3, none⟩ = some (.int .i64 i) := cell_of_row w1 _ 3 _ _ _ hbx
  have q4 : w1.cell? ⟨w.heap.size, 4, none⟩ = some (.int .i64 n) := cell_of_row w1 _ 4 _ _ _ hbx
  have q5 : w1.cell? ⟨w.heap.size, 5, none⟩ = some (.int .i64 z) := cell_of_row w1 _ 5 _ _ _ hbx
  have f5 : w1.frozen? ⟨w.heap.size, 5, none⟩ = false := by simp [World.frozen?, hbx]
  have HW1 : Hid (Below w.heap.size w w1) := (below_alloc w _).trans (hbw.mono (by simp))
  have HZ : Hid (Below w.heap.size w ((w1.setCell ⟨w.heap.size, 5, none⟩ (.int .i64 k)).alloc (.cells #[.int .u32 e, .int .u32 s, .int .u32 p, .int .i64 i, .int .i64 n, .int .i64 k] 116))) := (HW1.out.setCell (Nat.le_refl _) _).alloc (by simp [World.setCell]; omega) _
  clear hbx hbw hb1
  go_wp2_with fail
  refine (place_any e s p i n k 1 _ HI.out.1 HI.out.2 HP.out).mono ?_
  rintro x w2 ⟨ex, hb2⟩
  subst ex
  have hZ := HZ.out
  have hsz2 := hb2.size
  have hszZ : (w1.setCell ⟨w.heap.size, 5, none⟩ (.int .i64 k)).heap.size = w1.heap.size := by simp [World.setCell]
  have hbm : w2.heap[w1.heap.size]? = some (.cells #[.int .u32 e, .int .u32 s, .int .u32 p, .int .i64 i, .int .i64 n, .int .i64 k] 116 (0, 0)) := by
    have h3 := heap_alloc_new (w1.setCell ⟨w.heap.size, 5, none⟩ (.int .i64 k)) (.cells #[.int .u32 e, .int .u32 s, .int .u32 p, .int .i64 i, .int .i64 n, .int .i64 k] 116)
    rw [hszZ] at h3
    exact (hb2.block _ (by rw [World.size_alloc, hszZ]; omega)).trans h3
  have m5 : w2.cell? ⟨w1.heap.size, 5, none⟩ = some (.int .i64 k) := cell_of_row w2 _ 5 _ _ _ hbm
  have HZ2 : Hid (Below w.heap.size w w2) := hZ.trans (hb2.mono hZ.size)
  clear hbm hb2 hZ HZ q0 q1 q2 q3 q4 q5 f5 hszZ
  have HBZ : Hid (BIn w2 (some ⟨b, o, none⟩) xs) := HB.out.below HZ2.out
  go_wp2_with fail
  refine (noughts_any _ (xs.drop (16 + k)) _ _ false _ (by rw [List.length_drop, HX.out]; try omega) (by have := HC.out; have := HCC.out; omega) (by have := HCM.out; omega) (HBZ.out.drop' (16 + k)) HNZ.out).mono ?_
  rintro x w3 ⟨ex, ew⟩
  subst ex
  subst ew
  go_wp2
  go_ret2
  exact ⟨rfl, HZ2.out⟩
set_option maxRecDepth 8000 in
set_option maxHeartbeats 2000000 in
theorem part_z1t0 (e s p i n z k : Nat) (b o c : Nat) (xs : List Nat) (w : World) (hx : xs.length = 128) (hc : 128 ≤ c) (hcm : c ≤ maxLen) (hb : BIn w (some ⟨b, o, none⟩) xs) (hm : markOfN xs = .agg #[.int .u32 e, .int .u32 s, .int .u32 p, .int .i64 i, .int .i64 n, .int .i64 k]) (hi : i < 256) (hn : n < 256) (h1 : ¬ i + 1 < n) (h2 : 0 < i) (hk0 : k ≠ 0) (hk : k ≤ 112) (hz : allZ (xs.drop (16 + k)) = true) (hcc : ¬ c = 16 + k) :
    Calls Try.prog 67 #[.slice (some ⟨b, o, none⟩) 128 c, markV e s p i n z] w fun x w' => x = .returned (.tuple #[.slice (some ⟨b, o + 16, none⟩) (16 + k - 16) (c - 16), .bool true]) ∧ Below w.heap.size w w' := by
  have g00 : ((k : Int) == 0) = false := by simp; omega
  clear hk0
  have gk : (k : Int) ≤ 112 := by omega
  have gk' : ¬ (112 : Int) < k := by omega
  have w16 : IntKind.i64.wrap (16 + (k : Int)) = 16 + (k : Int) := by rw [IntKind.wrap_i64]; omega
  have hkc : 16 + (k : Int) ≤ c := by omega
  have HK : Hid (k ≤ 112) := hk
  have HNZ : Hid (allZ (xs.drop (16 + k)) = true) := hz
  have HCC : Hid (¬ c = 16 + k) := hcc
  clear hk hz
  have HI : Hid (i < 256 ∧ n < 256) := ⟨hi, hn⟩
  have HP : Hid (placeN i n = 1) := by show _ = _; unfold placeN; rw [if_neg h1, if_pos h2]
  clear hi hn h1 h2
  have HX : Hid (xs.length = 128) := hx
  have HB : Hid (BIn w (some ⟨b, o, none⟩) xs) := hb
  have HCM : Hid (c ≤ maxLen) := hcm
  have h16c : (16 : Int) < c := by omega
  have hcI : (128 : Int) ≤ c := by omega
  have HC : Hid (128 ≤ c) := hc
  have HM : Hid (markOfN xs = .agg #[.int .u32 e, .int .u32 s, .int .u32 p, .int .i64 i, .int .i64 n, .int .i64 k]) := hm
  clear hx hb hc hcm hm
  unfold markV
  go_enter Try.func67, Try.ntmps67
  go_wp2_with fail
  refine (markOf_any (some ⟨b, o, none⟩) xs 128 c _ HX.out.symm (by have := HX.out; omega) HC.out (HB.out.alloc _)).mono ?_
  rintro x w1 ⟨ex, hb1⟩
  rw [HM.out] at ex
  subst ex
  have hbw : Below (w.alloc (.cells #[.int .u32 e, .int .u32 s, .int .u32 p, .int .i64 i, .int .i64 n, .int .i64 z] 116)).heap.size (w.alloc (.cells #[.int .u32 e, .int .u32 s, .int .u32 p, .int .i64 i, .int .i64 n, .int .i64 z] 116)) w1 := hb1
  have hbx : w1.heap[w.heap.size]? = some (.cells #[.int .u32 e, .int .u32 s, .int .u32 p, .int .i64 i, .int .i64 n, .int .i64 z] 116 (0, 0)) := (hbw.block _ (by simp)).trans (heap_alloc_new w _)
  have hlt : w.heap.size < w1.heap.size := lt_heap hbx
  have q0 : w1.cell? ⟨w.heap.size, 0, none⟩ = some (.int .u32 e) := cell_of_row w1 _ 0 _ _ _ hbx
  have q1 : w1.cell? ⟨w.heap.size, 1, none⟩ = some (.int .u32 s) := cell_of_row w1 _ 1 _ _ _ hbx
  have q2 : w1.cell? ⟨w.heap.size, 2, none⟩ = some (.int .u32 p) := cell_of_row w1 _ 2 _ _ _ hbx
  have q3 : w1.cell? ⟨w.heap.size, 3, none⟩ = some (.int .i64 i) := cell_of_row w1 _ 3 _ _ _ hbx
  have q4 : w1.cell? ⟨w.heap.size, 4, none⟩ = some (.int .i64 n) := cell_of_row w1 _ 4 _ _ _ hbx
  have q5 : w1.cell? ⟨w.heap.size, 5, none⟩ = some (.int .i64 z) := cell_of_row w1 _ 5 _ _ _ hbx
  have f5 : w1.frozen? ⟨w.heap.size, 5, none⟩ = false := by simp [World.frozen?, hbx]
  have HW1 : Hid (Below w.heap.size w w1) := (below_alloc w _).trans (hbw.mono (by simp))
  have HZ : Hid (Below w.heap.size w ((w1.setCell ⟨w.heap.size, 5, none⟩ (.int .i64 k)).alloc (.cells #[.int .u32 e, .int .u32 s, .int .u32 p, .int .i64 i, .int .i64 n, .int .i64 k] 116))) := (HW1.out.setCell (Nat.le_refl _) _).alloc (by simp [World.setCell]; omega) _
  clear hbx hbw hb1
  go_wp2_with fail
  refine (place_any e s p i n k 1 _ HI.out.1 HI.out.2 HP.out).mono ?_
  rintro x w2 ⟨ex, hb2⟩
  subst ex
  have hZ := HZ.out
  have hsz2 := hb2.size
  have hszZ : (w1.setCell ⟨w.heap.size, 5, none⟩ (.int .i64 k)).heap.size = w1.heap.size := by simp [World.setCell]
  have hbm : w2.heap[w1.heap.size]? = some (.cells #[.int .u32 e, .int .u32 s, .int .u32 p, .int .i64 i, .int .i64 n, .int .i64 k] 116 (0, 0)) := by
    have h3 := heap_alloc_new (w1.setCell ⟨w.heap.size, 5, none⟩ (.int .i64 k)) (.cells #[.int .u32 e, .int .u32 s, .int .u32 p, .int .i64 i, .int .i64 n, .int .i64 k] 116)
    rw [hszZ] at h3
    exact (hb2.block _ (by rw [World.size_alloc, hszZ]; omega)).trans h3
  have m5 : w2.cell? ⟨w1.heap.size, 5, none⟩ = some (.int .i64 k) := cell_of_row w2 _ 5 _ _ _ hbm
  have HZ2 : Hid (Below w.heap.size w w2) := hZ.trans (hb2.mono hZ.size)
  clear hbm hb2 hZ HZ q0 q1 q2 q3 q4 q5 f5 hszZ
  have HBZ : Hid (BIn w2 (some ⟨b, o, none⟩) xs) := HB.out.below HZ2.out
  go_wp2_with fail
  refine (noughts_any _ (xs.drop (16 + k)) _ _ true _ (by rw [List.length_drop, HX.out]; try omega) (by have := HC.out; have := HCC.out; omega) (by have := HCM.out; omega) (HBZ.out.drop' (16 + k)) HNZ.out).mono ?_
  rintro x w3 ⟨ex, ew⟩
  subst ex
  subst ew
  go_wp2
  go_ret2
  exact ⟨rfl, HZ2.out⟩
end Go.Proofs.Ytpbfoppaeeafhaa
namespace Go.Proofs.Ytpbfoppaeeafhaa
open Go.RowKit Go.WideShapes

set_option maxRecDepth 8000 in
set_option maxHeartbeats 2000000 in
set_option linter.unusedVariables false in
theorem part_many2 (e s p i n z k : Nat) (b o c : Nat) (xs : List Nat) (w : World) (hx : xs.length = 128) (hc : 128 ≤ c) (hcm : c ≤ maxLen) (hb : BIn w (some ⟨b, o, none⟩) xs) (hm : markOfN xs = .agg #[.int .u32 e, .int .u32 s, .int .u32 p, .int .i64 i, .int .i64 n, .int .i64 k]) (hi : i < 256) (hn : n < 256) (h1 : ¬ i + 1 < n) (h2 : ¬ 0 < i)  (hk : 112 < k) :
    Calls Try.prog 67 #[.slice (some ⟨b, o, none⟩) 128 c, markV e s p i n z] w fun x w' => x = .returned (.tuple #[.slice none 0 0, .bool false]) ∧ Below w.heap.size w w' := by
  have gk : (112 : Int) < k := by omega
  clear hk
  have HI : Hid (i < 256 ∧ n < 256) := ⟨hi, hn⟩
  have HP : Hid (placeN i n = 2) := by show _ = _; unfold placeN; rw [if_neg h1, if_neg h2]
  clear hi hn h1 h2
  have HX : Hid (xs.length = 128) := hx
  have HB : Hid (BIn w (some ⟨b, o, none⟩) xs) := hb
  have HCM : Hid (c ≤ maxLen) := hcm
  have h16c : (16 : Int) < c := by omega
  have hcI : (128 : Int) ≤ c := by omega
  have HC : Hid (128 ≤ c) := hc
  have HM : Hid (markOfN xs = .agg #[.int .u32 e, .int .u32 s, .int .u32 p, .int .i64 i, .int .i64 n, .int .i64 k]) := hm
  clear hx hb hc hcm hm
  unfold markV
  go_enter Try.func67, Try.ntmps67
  go_wp2_with fail
  refine (markOf_any (some ⟨b, o, none⟩) xs 128 c _ HX.out.symm (by have := HX.out; omega) HC.out (HB.out.alloc _)).mono ?_
  rintro x w1 ⟨ex, hb1⟩
  rw [HM.out] at ex
  subst ex
  have hbw : Below (w.alloc (.cells #[.int .u32 e, .int .u32 s, .int .u32 p, .int .i64 i, .int .i64 n, .int .i64 z] 116)).heap.size (w.alloc (.cells #[.int .u32 e, .int .u32 s, .int .u32 p, .int .i64 i, .int .i64 n, .int .i64 z] 116)) w1 := hb1
  have hbx : w1.heap[w.heap.size]? = some (.cells #[.int .u32 e, .int .u32 s, .int .u32 p, .int .i64 i, .int .i64 n, .int .i64 z] 116 (0, 0)) := (hbw.block _ (by simp)).trans (heap_alloc_new w _)
  have hlt : w.heap.size < w1.heap.size := lt_heap hbx
  have q0 : w1.cell? ⟨w.heap.size, 0, none⟩ = some (.int .u32 e) := cell_of_row w1 _ 0 _ _ _ hbx
  have q1 : w1.cell? ⟨w.heap.size, 1, none⟩ = some (.int .u32 s) := cell_of_row w1 _ 1 _ _ _ hbx
  have q2 : w1.cell? ⟨w.heap.size, 2, none⟩ = some (.int .u32 p) := cell_of_row w1 _ 2 _ _ _ hbx
  have q3 : w1.cell? ⟨w.heap.size, 3, none⟩ = some (.int .i64 i) := cell_of_row w1 _ 3 _ _ _ hbx
  have q4 : w1.cell? ⟨w.heap.size, 4, none⟩ = some (.int .i64 n) := cell_of_row w1 _ 4 _ _ _ hbx
  have q5 : w1.cell? ⟨w.heap.size, 5, none⟩ = some (.int .i64 z) := cell_of_row w1 _ 5 _ _ _ hbx
  have f5 : w1.frozen? ⟨w.heap.size, 5, none⟩ = false := by simp [World.frozen?, hbx]
  have HW1 : Hid (Below w.heap.size w w1) := (below_alloc w _).trans (hbw.mono (by simp))
  have HZ : Hid (Below w.heap.size w ((w1.setCell ⟨w.heap.size, 5, none⟩ (.int .i64 k)).alloc (.cells #[.int .u32 e, .int .u32 s, .int .u32 p, .int .i64 i, .int .i64 n, .int .i64 k] 116))) := (HW1.out.setCell (Nat.le_refl _) _).alloc (by simp [World.setCell]; omega) _
  clear hbx hbw hb1
  go_wp2_with fail
  refine (place_any e s p i n k 2 _ HI.out.1 HI.out.2 HP.out).mono ?_
  rintro x w2 ⟨ex, hb2⟩
  subst ex
  have hZ := HZ.out
  have hsz2 := hb2.size
  have hszZ : (w1.setCell ⟨w.heap.size, 5, none⟩ (.int .i64 k)).heap.size = w1.heap.size := by simp [World.setCell]
  have hbm : w2.heap[w1.heap.size]? = some (.cells #[.int .u32 e, .int .u32 s, .int .u32 p, .int .i64 i, .int .i64 n, .int .i64 k] 116 (0, 0)) := by
    have h3 := heap_alloc_new (w1.setCell ⟨w.heap.size, 5, none⟩ (.int .i64 k)) (.cells #[.int .u32 e, .int .u32 s, .int .u32 p, .int .i64 i, .int .i64 n, .int .i64 k] 116)
    rw [hszZ] at h3
    exact (hb2.block _ (by rw [World.size_alloc, hszZ]; omega)).trans h3
  have m5 : w2.cell? ⟨w1.heap.size, 5, none⟩ = some (.int .i64 k) := cell_of_row w2 _ 5 _ _ _ hbm
  have HZ2 : Hid (Below w.heap.size w w2) := hZ.trans (hb2.mono hZ.size)
  clear hbm hb2 hZ HZ q0 q1 q2 q3 q4 q5 f5 hszZ
  go_wp2
  go_ret2
  exact ⟨rfl, HZ2.out⟩
set_option maxRecDepth 8000 in
set_option maxHeartbeats 2000000 in
theorem part_z2t1 (e s p i n z : Nat) (b o : Nat) (xs : List Nat) (w : World) (hx : xs.length = 128) (hb : BIn w (some ⟨b, o, none⟩) xs) (hm : markOfN xs = .agg #[.int .u32 e, .int .u32 s, .int .u32 p, .int .i64 i, .int .i64 n, .int .i64 112]) (hi : i < 256) (hn : n < 256) (h1 : ¬ i + 1 < n) (h2 : ¬ 0 < i) :
    Calls Try.prog 67 #[.slice (some ⟨b, o, none⟩) 128 128, markV e s p i n z] w fun x w' => x = .returned (.tuple #[.slice (some ⟨b, o + 16, none⟩) (16 + 112 - 16) (128 - 16), .bool true]) ∧ Below w.heap.size w w' := by
  have HI : Hid (i < 256 ∧ n < 256) := ⟨hi, hn⟩
  have HP : Hid (placeN i n = 2) := by show _ = _; unfold placeN; rw [if_neg h1, if_neg h2]
  clear hi hn h1 h2
  have HX : Hid (xs.length = 128) := hx
  have HB : Hid (BIn w (some ⟨b, o, none⟩) xs) := hb
  have HM : Hid (markOfN xs = .agg #[.int .u32 e, .int .u32 s, .int .u32 p, .int .i64 i, .int .i64 n, .int .i64 112]) := hm
  clear hx hb hm
  unfold markV
  go_enter Try.func67, Try.ntmps67
  go_wp2_with fail
  refine (markOf_any (some ⟨b, o, none⟩) xs 128 128 _ HX.out.symm (by have := HX.out; omega) (Nat.le_refl _) (HB.out.alloc _)).mono ?_
  rintro x w1 ⟨ex, hb1⟩
  rw [HM.out] at ex
  subst ex
  have hbw : Below (w.alloc (.cells #[.int .u32 e, .int .u32 s, .int .u32 p, .int .i64 i, .int .i64 n, .int .i64 z] 116)).heap.size (w.alloc (.cells #[.int .u32 e, .int .u32 s, .int .u32 p, .int .i64 i, .int .i64 n, .int .i64 z] 116)) w1 := hb1
  have hbx : w1.heap[w.heap.size]? = some (.cells #[.int .u32 e, .int .u32 s, .int .u32 p, .int .i64 i, .int .i64 n, .int .i64 z] 116 (0, 0)) := (hbw.block _ (by simp)).trans (heap_alloc_new w _)
  have hlt : w.heap.size < w1.heap.size := lt_heap hbx
  have q0 : w1.cell? ⟨w.heap.size, 0, none⟩ = some (.int .u32 e) := cell_of_row w1 _ 0 _ _ _ hbx
  have q1 : w1.cell? ⟨w.heap.size, 1, none⟩ = some (.int .u32 s) := cell_of_row w1 _ 1 _ _ _ hbx
  have q2 : w1.cell? ⟨w.heap.size, 2, none⟩ = some (.int .u32 p) := cell_of_row w1 _ 2 _ _ _ hbx
  have q3 : w1.cell? ⟨w.heap.size, 3, none⟩ = some (.int .i64 i) := cell_of_row w1 _ 3 _ _ _ hbx
  have q4 : w1.cell? ⟨w.heap.size, 4, none⟩ = some (.int .i64 n) := cell_of_row w1 _ 4 _ _ _ hbx
  have q5 : w1.cell? ⟨w.heap.size, 5, none⟩ = some (.int .i64 z) := cell_of_row w1 _ 5 _ _ _ hbx
  have f5 : w1.frozen? ⟨w.heap.size, 5, none⟩ = false := by simp [World.frozen?, hbx]
  have HW1 : Hid (Below w.heap.size w w1) := (below_alloc w _).trans (hbw.mono (by simp))
  have HZ : Hid (Below w.heap.size w ((w1.setCell ⟨w.heap.size, 5, none⟩ (.int .i64 112)).alloc (.cells #[.int .u32 e, .int .u32 s, .int .u32 p, .int .i64 i, .int .i64 n, .int .i64 112] 116))) := (HW1.out.setCell (Nat.le_refl _) _).alloc (by simp [World.setCell]; omega) _
  clear hbx hbw hb1
  go_wp2_with fail
  refine (place_any e s p i n 112 2 _ HI.out.1 HI.out.2 HP.out).mono ?_
  rintro x w2 ⟨ex, hb2⟩
  subst ex
  have hZ := HZ.out
  have hsz2 := hb2.size
  have hszZ : (w1.setCell ⟨w.heap.size, 5, none⟩ (.int .i64 112)).heap.size = w1.heap.size := by simp [World.setCell]
  have hbm : w2.heap[w1.heap.size]? = some (.cells #[.int .u32 e, .int .u32 s, .int .u32 p, .int .i64 i, .int .i64 n, .int .i64 112] 116 (0, 0)) := by
    have h3 := heap_alloc_new (w1.setCell ⟨w.heap.size, 5, none⟩ (.int .i64 112)) (.cells #[.int .u32 e, .int .u32 s, .int .u32 p, .int .i64 i, .int .i64 n, .int .i64 112] 116)
    rw [hszZ] at h3
    exact (hb2.block _ (by rw [World.size_alloc, hszZ]; omega)).trans h3
  have m5 : w2.cell? ⟨w1.heap.size, 5, none⟩ = some (.int .i64 112) := cell_of_row w2 _ 5 _ _ _ hbm
  have HZ2 : Hid (Below w.heap.size w w2) := hZ.trans (hb2.mono hZ.size)
  clear hbm hb2 hZ HZ q0 q1 q2 q3 q4 q5 f5 hszZ
  go_wp2_with fail
  refine (noughts_any _ [] _ _ true _ (by simp) (by simp) (by simp [maxLen]) (drop_in0 rfl) (by simp)).mono ?_
  rintro x w3 ⟨ex, ew⟩
  subst ex
  subst ew
  go_wp2
  go_ret2
  exact ⟨rfl, HZ2.out⟩
end Go.Proofs.Ytpbfoppaeeafhaa
namespace Go.Proofs.Ytpbfoppaeeafhaa
open Go.RowKit Go.WideShapes

set_option maxRecDepth 8000 in
set_option maxHeartbeats 2000000 in
theorem part_z2f0 (e s p i n z k : Nat) (b o c : Nat) (xs : List Nat) (w : World) (hx : xs.length = 128) (hc : 128 ≤ c) (hcm : c ≤ maxLen) (hb : BIn w (some ⟨b, o, none⟩) xs) (hm : markOfN xs = .agg #[.int .u32 e, .int .u32 s, .int .u32 p, .int .i64 i, .int .i64 n, .int .i64 k]) (hi : i < 256) (hn : n < 256) (h1 : ¬ i + 1 < n) (h2 : ¬ 0 < i)  (hk : k ≤ 112) (hz : allZ (xs.drop (16 + k)) = false) (hcc : ¬ c = 16 + k) :
    Calls Try.prog 67 #[.slice (some ⟨b, o, none⟩) 128 c, markV e s p i n z] w fun x w' => x = .returned (.tuple #[.slice none 0 0, .bool false]) ∧ Below w.heap.size w w' := by
  have gk : (k : Int) ≤ 112 := by omega
  have gk' : ¬ (112 : Int) < k := by omega
  have w16 : IntKind.i64.wrap (16 + (k : Int)) = 16 + (k : Int) := by rw [IntKind.wrap_i64]; omega
  have hkc : 16 + (k : Int) ≤ c := by omega
  have HK : Hid (k ≤ 112) := hk
  have HNZ : Hid (allZ (xs.drop (16 + k)) = false) := hz
  have HCC : Hid (¬ c = 16 + k) := hcc
  clear hk hz
  have HI : Hid (i < 256 ∧ n < 256) := ⟨hi, hn⟩
  have HP : Hid (placeN i n = 2) := by show _ = _; unfold placeN; rw [if_neg h1, if_neg h2]
  clear hi hn h1 h2
  have HX : Hid (xs.length = 128) := hx
  have HB : Hid (BIn w (some ⟨b, o, none⟩) xs) := hb
  have HCM : Hid (c ≤ maxLen) := hcm
  have h16c : (16 : Int) < c := by omega
  have hcI : (128 : Int) ≤ c := by omega
  have HC : Hid (128 ≤ c) := hc
  have HM : Hid (markOfN xs = .agg #[.int .u32 e, .int .u32 s, .int .u32 p, .int .i64 i, .int .i64 n, .int .i64 k]) := hm
  clear hx hb hc hcm hm
  unfold markV
  go_enter Try.func67, Try.ntmps67
  go_wp2_with fail
  refine (markOf_any (some ⟨b, o, none⟩) xs 128 c _ HX.out.symm (by have := HX.out; omega) HC.out (HB.out.alloc _)).mono ?_
  rintro x w1 ⟨ex, hb1⟩
  rw [HM.out] at ex
  subst ex
  have hbw : Below (w.alloc (.cells #[.int .u32 e, .int .u32 s, .int .u32 p, .int .i64 i, .int .i64 n, .int .i64 z] 116)).heap.size (w.alloc (.cells #[.int .u32 e, .int .u32 s, .int .u32 p, .int .i64 i, .int .i64 n, .int .i64 z] 116)) w1 := hb1
  have hbx : w1.heap[w.heap.size]? = some (.cells #[.int .u32 e, .int .u32 s, .int .u32 p, .int .i64 i, .int .i64 n, .int .i64 z] 116 (0, 0)) := (hbw.block _ (by simp)).trans (heap_alloc_new w _)
  have hlt : w.heap.size < w1.heap.size := lt_heap hbx
  have q0 : w1.cell? ⟨w.heap.size, 0, none⟩ = some (.int .u32 e) := cell_of_row w1 _ 0 _ _ _ hbx
  have q1 : w1.cell? ⟨w.heap.size, 1, none⟩ = some (.int .u32 s) := cell_of_row w1 _ 1 _ _ _ hbx
  have q2 : w1.cell? ⟨w.heap.size, 2, none⟩ = some (.int .u32 p) := cell_of_row w1 _ 2 _ _ _ hbx
  have q3 : w1.cell? ⟨w.heap.size, 3, none⟩ = some (.int .i64 i) := cell_of_row w1 _ 3 _ _ _ hbx
  have q4 : w1.cell? ⟨w.heap.size, 4, none⟩ = some (.int .i64 n) := cell_of_row w1 _ 4 _ _ _ hbx
  have q5 : w1.cell? ⟨w.heap.size, 5, none⟩ = some (.int .i64 z) := cell_of_row w1 _ 5 _ _ _ hbx
  have f5 : w1.frozen? ⟨w.heap.size, 5, none⟩ = false := by simp [World.frozen?, hbx]
  have HW1 : Hid (Below w.heap.size w w1) := (below_alloc w _).trans (hbw.mono (by simp))
  have HZ : Hid (Below w.heap.size w ((w1.setCell ⟨w.heap.size, 5, none⟩ (.int .i64 k)).alloc (.cells #[.int .u32 e, .int .u32 s, .int .u32 p, .int .i64 i, .int .i64 n, .int .i64 k] 116))) := (HW1.out.setCell (Nat.le_refl _) _).alloc (by simp [World.setCell]; omega) _
  clear hbx hbw hb1
  go_wp2_with fail
  refine (place_any e s p i n k 2 _ HI.out.1 HI.out.2 HP.out).mono ?_
  rintro x w2 ⟨ex, hb2⟩
  subst ex
  have hZ := HZ.out
  have hsz2 := hb2.size
  have hszZ : (w1.setCell ⟨w.heap.size, 5, none⟩ (.int .i64 k)).heap.size = w1.heap.size := by simp [World.setCell]
  have hbm : w2.heap[w1.heap.size]? = some (.cells #[.int .u32 e, .int .u32 s, .int .u32 p, .int .i64 i, .int .i64 n, .int .i64 k] 116 (0, 0)) := by
    have h3 := heap_alloc_new (w1.setCell ⟨w.heap.size, 5, none⟩ (.int .i64 k)) (.cells #[.int .u32 e, .int .u32 s, .int .u32 p, .int .i64 i, .int .i64 n, .int .i64 k] 116)
    rw [hszZ] at h3
    exact (hb2.block _ (by rw [World.size_alloc, hszZ]; omega)).trans h3
  have m5 : w2.cell? ⟨w1.heap.size, 5, none⟩ = some (.int .i64 k) := cell_of_row w2 _ 5 _ _ _ hbm
  have HZ2 : Hid (Below w.heap.size w w2) := hZ.trans (hb2.mono hZ.size)
  clear hbm hb2 hZ HZ q0 q1 q2 q3 q4 q5 f5 hszZ
  have HBZ : Hid (BIn w2 (some ⟨b, o, none⟩) xs) := HB.out.below HZ2.out
  go_wp2_with fail
  refine (noughts_any _ (xs.drop (16 + k)) _ _ false _ (by rw [List.length_drop, HX.out]; try omega) (by have := HC.out; have := HCC.out; omega) (by have := HCM.out; omega) (HBZ.out.drop' (16 + k)) HNZ.out).mono ?_
  rintro x w3 ⟨ex, ew⟩
  subst ex
  subst ew
  go_wp2
  go_ret2
  exact ⟨rfl, HZ2.out⟩
set_option maxRecDepth 8000 in
set_option maxHeartbeats 2000000 in
theorem part_z2t0 (e s p i n z k : Nat) (b o c : Nat) (xs : List Nat) (w : World) (hx : xs.length = 128) (hc : 128 ≤ c) (hcm : c ≤ maxLen) (hb : BIn w (some ⟨b, o, none⟩) xs) (hm : markOfN xs = .agg #[.int .u32 e, .int .u32 s, .int .u32 p, .int .i64 i, .int .i64 n, .int .i64 k]) (hi : i < 256) (hn : n < 256) (h1 : ¬ i + 1 < n) (h2 : ¬ 0 < i)  (hk : k ≤ 112) (hz : allZ (xs.drop (16 + k)) = true) (hcc : ¬ c = 16 + k) :
    Calls Try.prog 67 #[.slice (some ⟨b, o, none⟩) 128 c, markV e s p i n z] w fun x w' => x = .returned (.tuple #[.slice (some ⟨b, o + 16, none⟩) (16 + k - 16) (c - 16), .bool true]) ∧ Below w.heap.size w w' := by
  have gk : (k : Int) ≤ 112 := by omega
  have gk' : ¬ (112 : Int) < k := by omega
  have w16 : IntKind.i64.wrap (16 + (k : Int)) = 16 + (k : Int) := by rw [IntKind.wrap_i64]; omega
  have hkc : 16 + (k : Int) ≤ c := by omega
  have HK : Hid (k ≤ 112) := hk
  have HNZ : Hid (allZ (xs.drop (16 + k)) = true) := hz
  have HCC : Hid (¬ c = 16 + k) := hcc
  clear hk hz
  have HI : Hid (i < 256 ∧ n < 256) := ⟨hi, hn⟩
  have HP : Hid (placeN i n = 2) := by show _ = _; unfold placeN; rw [if_neg h1, if_neg h2]
  clear hi hn h1 h2
  have HX : Hid (xs.length = 128) := hx
  have HB : Hid (BIn w (some ⟨b, o, none⟩) xs) := hb
  have HCM : Hid (c ≤ maxLen) := hcm
  have h16c : (16 : Int) < c := by omega
  have hcI : (128 : Int) ≤ c := by omega
  have HC : Hid (128 ≤ c) := hc
  have HM : Hid (markOfN xs = .agg #[.int .u32 e, .int .u32 s, .int .u32 p, .int .i64 i, .int .i64 n, .int .i64 k]) := hm
  clear hx hb hc hcm hm
  unfold markV
  go_enter Try.func67, Try.ntmps67
  go_wp2_with fail
  refine (markOf_any (some ⟨b, o, none⟩) xs 128 c _ HX.out.symm (by have := HX.out; omega) HC.out (HB.out.alloc _)).mono ?_
  rintro x w1 ⟨ex, hb1⟩
  rw [HM.out] at ex
  subst ex
  have hbw : Below (w.alloc (.cells #[.int .u32 e, .int .u32 s, .int .u32 p, .int .i64 i, .int .i64 n, .int .i64 z] 116)).heap.size (w.alloc (.cells #[.int .u32 e, .int .u32 s, .int .u32 p, .int .i64 i, .int .i64 n, .int .i64 z] 116)) w1 := hb1
  have hbx : w1.heap[w.heap.size]? = some (.cells #[.int .u32 e, .int .u32 s, .int .u32 p, .int .i64 i, .int .i64 n, .int .i64 z] 116 (0, 0)) := (hbw.block _ (by simp)).trans (heap_alloc_new w _)
  have hlt : w.heap.size < w1.heap.size := lt_heap hbx
  have q0 : w1.cell? ⟨w.heap.size, 0, none⟩ = some (.int .u32 e) := cell_of_row w1 _ 0 _ _ _ hbx
  have q1 : w1.cell? ⟨w.heap.size, 1, none⟩ = some (.int .u32 s) := cell_of_row w1 _ 1 _ _ _ hbx
  have q2 : w1.cell? ⟨w.heap.size, 2, none⟩ = some (.int .u32 p) := cell_of_row w1 _ 2 _ _ _ hbx
  have q3 : w1.cell? ⟨w.heap.size, 3, none⟩ = some (.int .i64 i) := cell_of_row w1 _ 3 _ _ _ hbx
  have q4 : w1.cell? ⟨w.heap.size, 4, none⟩ = some (.int .i64 n) := cell_of_row w1 _ 4 _ _ _ hbx
  have q5 : w1.cell? ⟨w.heap.size, 5, none⟩ = some (.int .i64 z) := cell_of_row w1 _ 5 _ _ _ hbx
  have f5 : w1.frozen? ⟨w.heap.size, 5, none⟩ = false := by simp [World.frozen?, hbx]
  have HW1 : Hid (Below w.heap.size w w1) := (below_alloc w _).trans (hbw.mono (by simp))
  have HZ : Hid (Below w.heap.size w ((w1.setCell ⟨w.heap.size, 5, none⟩ (.int .i64 k)).alloc (.cells #[.int .u32 e, .int .u32 s, .int .u32 p, .int .i64 i, .int .i64 n, .int .i64 k] 116))) := (HW1.out.setCell (Nat.le_refl _) _).alloc (by simp [World.setCell]; omega) _
  clear hbx hbw hb1
  go_wp2_with fail
  refine (place_any e s p i n k 2 _ HI.out.1 HI.out.2 HP.out).mono ?_
  rintro x w2 ⟨ex, hb2⟩
  subst ex
  have hZ := HZ.out
  have hsz2 := hb2.size
  have hszZ : (w1.setCell ⟨w.heap.size, 5, none⟩ (.int .i64 k)).heap.size = w1.heap.size := by simp [World.setCell]
  have hbm : w2.heap[w1.heap.size]? = some (.cells #[.int .u32 e, .int .u32 s, .int .u32 p, .int .i64 i, .int .i64 n, .int .i64 k] 116 (0, 0)) := by
    have h3 := heap_alloc_new (w1.setCell ⟨w.heap.size, 5, none⟩ (.int .i64 k)) (.cells #[.int .u32 e, .int .u32 s, .int .u32 p, .int .i64 i, .int .i64 n, .int .i64 k] 116)
    rw [hszZ] at h3
    exact (hb2.block _ (by rw [World.size_alloc, hszZ]; omega)).trans h3
  have m5 : w2.cell? ⟨w1.heap.size, 5, none⟩ = some (.int .i64 k) := cell_of_row w2 _ 5 _ _ _ hbm
  have HZ2 : Hid (Below w.heap.size w w2) := hZ.trans (hb2.mono hZ.size)
  clear hbm hb2 hZ HZ q0 q1 q2 q3 q4 q5 f5 hszZ
  have HBZ : Hid (BIn w2 (some ⟨b, o, none⟩) xs) := HB.out.below HZ2.out
  go_wp2_with fail
  refine (noughts_any _ (xs.drop (16 + k)) _ _ true _ (by rw [List.length_drop, HX.out]; try omega) (by have := HC.out; have := HCC.out; omega) (by have := HCM.out; omega) (HBZ.out.drop' (16 + k)) HNZ.out).mono ?_
  rintro x w3 ⟨ex, ew⟩
  subst ex
  subst ew
  go_wp2
  go_ret2
  exact ⟨rfl, HZ2.out⟩
end Go.Proofs.Ytpbfoppaeeafhaa
namespace Go.Proofs.Ytpbfoppaeeafhaa
open Go.RowKit Go.WideShapes

/-- What part answers: the sector's piece of the record, if it may be the number i of n. -/
def PartOut (w : World) (b o c : Nat) (e s p i n : Nat) (xs : List Nat) (x : Ending) (w' : World) : Prop :=
  ((OkSec e s p i n xs ∧ x = .returned (.tuple #[.slice (some ⟨b, o + 16, none⟩) (sizeOf2 xs) (c - 16), .bool true])) ∨ (¬ OkSec e s p i n xs ∧ x = .returned (.tuple #[.slice none 0 0, .bool false]))) ∧ Below w.heap.size w w'
theorem part_no {w : World} {b o c e s p i n : Nat} {xs : List Nat} {x : Ending} {w' : World} (hn : ¬ OkSec e s p i n xs) (h : x = .returned (.tuple #[.slice none 0 0, .bool false]) ∧ Below w.heap.size w w') : PartOut w b o c e s p i n xs x w' := ⟨.inr ⟨hn, h.1⟩, h.2⟩
theorem part_yes {w : World} {b o c e s p i n k : Nat} {xs : List Nat} {x : Ending} {w' : World} (hy : OkSec e s p i n xs) (hk : sizeOf2 xs = k) (h : x = .returned (.tuple #[.slice (some ⟨b, o + 16, none⟩) (16 + k - 16) (c - 16), .bool true]) ∧ Below w.heap.size w w') : PartOut w b o c e s p i n xs x w' := by
  refine ⟨.inl ⟨hy, ?_⟩, h.2⟩
  rw [h.1, hk, Nat.add_sub_cancel_left]
theorem allZ_iff (xs : List Nat) : allZ xs = true ↔ ∀ c ∈ xs, c = 0 := by unfold allZ; exact decide_eq_true_iff
theorem part_any (e s p i n z : Nat) (b o c : Nat) (xs : List Nat) (w : World) (hx : xs.length = 128) (hc : 128 ≤ c) (hcm : c ≤ maxLen) (hb : BIn w (some ⟨b, o, none⟩) xs) (hi : i < 256) (hn : n < 256) :
    Calls Try.prog 67 #[.slice (some ⟨b, o, none⟩) 128 c, markV e s p i n z] w fun x w' => PartOut w b o c e s p i n xs x w' := by
  have hm : markOfN xs = .agg #[.int .u32 (numAt xs 0), .int .u32 (numAt xs 4), .int .u32 (numAt xs 8), .int .i64 (xs.getD 12 0 : Nat), .int .i64 (xs.getD 13 0 : Nat), .int .i64 (sizeOf2 xs)] := rfl
  by_cases h0 : numAt xs 0 = e
  · by_cases h1 : numAt xs 4 = s
    · by_cases h2 : numAt xs 8 = p
      · by_cases h3 : xs.getD 12 0 = i
        · by_cases h4 : xs.getD 13 0 = n
          · rw [h0, h1, h2, h3, h4] at hm
            obtain ⟨k, hk⟩ : ∃ k, sizeOf2 xs = k := ⟨_, rfl⟩
            rw [hk] at hm
            have hy : (i + 1 < n → 112 ≤ k) → (0 < i → k ≠ 0) → k ≤ 112 → allZ (xs.drop (16 + k)) = true → OkSec e s p i n xs := fun a b c d => ⟨h0, h1, h2, h3, h4, by rw [hk]; exact a, by rw [hk]; exact b, by rw [hk]; exact c, by rw [hk]; exact (allZ_iff _).1 d⟩
            have hno : ∀ {q : Prop}, OkSec e s p i n xs → ((i + 1 < n → 112 ≤ k) → (0 < i → k ≠ 0) → k ≤ 112 → allZ (xs.drop (16 + k)) = true → q) → q := fun h g => g (by have := h.full; rwa [hk] at this) (by have := h.some; rwa [hk] at this) (by have := h.le; rwa [hk] at this) ((allZ_iff _).2 (by have := h.rest; rwa [hk] at this))
            have hlast : c = 16 + k → k ≤ 112 → k = 112 ∧ c = 128 := by omega
            by_cases p0 : i + 1 < n
            · by_cases a0 : k < 112
              · exact (part_few0 e s p i n z k b o c xs w hx hc hcm hb hm hi hn p0 a0).mono fun x w' h => part_no (fun hh => hno hh fun q _ _ _ => by have := q p0; omega) h
              · by_cases a1 : 112 < k
                · exact (part_many0 e s p i n z k b o c xs w hx hc hcm hb hm hi hn p0 (by omega) a1).mono fun x w' h => part_no (fun hh => hno hh fun _ _ q _ => by omega) h
                · by_cases cc : c = 16 + k
                  · obtain ⟨rfl, rfl⟩ := hlast cc (by omega)
                    exact (part_z0t1 e s p i n z b o xs w hx hb hm hi hn p0).mono fun x w' h => part_yes (hy (fun _ => by omega) (fun _ => by omega) (by omega) ((allZ_iff _).2 (by rw [List.drop_eq_nil_of_le (by omega)]; simp))) hk h
                  · cases hz : allZ (xs.drop (16 + k)) with
                    | true => exact (part_z0t0 e s p i n z k b o c xs w hx hc hcm hb hm hi hn p0 (by omega) (by omega) hz cc).mono fun x w' h => part_yes (hy (fun _ => by omega) (fun _ => by omega) (by omega) hz) hk h
                    | false => exact (part_z0f0 e s p i n z k b o c xs w hx hc hcm hb hm hi hn p0 (by omega) (by omega) hz cc).mono fun x w' h => part_no (fun hh => hno hh fun _ _ _ q => by rw [hz] at q; cases q) h
            · by_cases p1 : 0 < i
              · by_cases a0 : k = 0
                · exact (part_few1 e s p i n z k b o c xs w hx hc hcm hb hm hi hn p0 p1 a0).mono fun x w' h => part_no (fun hh => hno hh fun _ q _ _ => q p1 a0) h
                · by_cases a1 : 112 < k
                  · exact (part_many1 e s p i n z k b o c xs w hx hc hcm hb hm hi hn p0 p1 a0 a1).mono fun x w' h => part_no (fun hh => hno hh fun _ _ q _ => by omega) h
                  · by_cases cc : c = 16 + k
                    · obtain ⟨rfl, rfl⟩ := hlast cc (by omega)
                      exact (part_z1t1 e s p i n z b o xs w hx hb hm hi hn p0 p1).mono fun x w' h => part_yes (hy (fun _ => by omega) (fun _ => by omega) (by omega) ((allZ_iff _).2 (by rw [List.drop_eq_nil_of_le (by omega)]; simp))) hk h
                    · cases hz : allZ (xs.drop (16 + k)) with
                      | true => exact (part_z1t0 e s p i n z k b o c xs w hx hc hcm hb hm hi hn p0 p1 a0 (by omega) hz cc).mono fun x w' h => part_yes (hy (fun _ => by omega) (fun _ => a0) (by omega) hz) hk h
                      | false => exact (part_z1f0 e s p i n z k b o c xs w hx hc hcm hb hm hi hn p0 p1 a0 (by omega) hz cc).mono fun x w' h => part_no (fun hh => hno hh fun _ _ _ q => by rw [hz] at q; cases q) h
              · by_cases a1 : 112 < k
                · exact (part_many2 e s p i n z k b o c xs w hx hc hcm hb hm hi hn p0 p1 a1).mono fun x w' h => part_no (fun hh => hno hh fun _ _ q _ => by omega) h
                · by_cases cc : c = 16 + k
                  · obtain ⟨rfl, rfl⟩ := hlast cc (by omega)
                    exact (part_z2t1 e s p i n z b o xs w hx hb hm hi hn p0 p1).mono fun x w' h => part_yes (hy (fun _ => by omega) (fun _ => by omega) (by omega) ((allZ_iff _).2 (by rw [List.drop_eq_nil_of_le (by omega)]; simp))) hk h
                  · cases hz : allZ (xs.drop (16 + k)) with
                    | true => exact (part_z2t0 e s p i n z k b o c xs w hx hc hcm hb hm hi hn p0 p1 (by omega) hz cc).mono fun x w' h => part_yes (hy (fun _ => by omega) (fun _ => by omega) (by omega) hz) hk h
                    | false => exact (part_z2f0 e s p i n z k b o c xs w hx hc hcm hb hm hi hn p0 p1 (by omega) hz cc).mono fun x w' h => part_no (fun hh => hno hh fun _ _ _ q => by rw [hz] at q; cases q) h
          · rw [h0, h1, h2, h3] at hm
            exact (part_ne4 e s p i n z _ _ b o c xs w hx hc hcm hb hm h4).mono fun x w' h => part_no (fun hh => h4 hh.hn) h
        · rw [h0, h1, h2] at hm
          exact (part_ne3 e s p i n z _ _ _ b o c xs w hx hc hcm hb hm h3).mono fun x w' h => part_no (fun hh => h3 hh.hi) h
      · rw [h0, h1] at hm
        exact (part_ne2 e s p i n z _ _ _ _ b o c xs w hx hc hcm hb hm h2).mono fun x w' h => part_no (fun hh => h2 hh.hp) h
    · rw [h0] at hm
      exact (part_ne1 e s p i n z _ _ _ _ _ b o c xs w hx hc hcm hb hm h1).mono fun x w' h => part_no (fun hh => h1 hh.hs) h
  · exact (part_ne0 e s p i n z _ _ _ _ _ _ b o c xs w hx hc hcm hb hm h0).mono fun x w' h => part_no (fun hh => h0 hh.he) h
end Go.Proofs.Ytpbfoppaeeafhaa
