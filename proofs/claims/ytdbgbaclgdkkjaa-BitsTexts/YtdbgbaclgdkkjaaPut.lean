/-
  Contracts of the calls split, Put, join and Get: eight bytes, the lowest first.
-/
import Derived.Test.YtdbgbaclgdkkjaaSmall
namespace Go.Proofs.Ytdbgbaclgdkkjaa
open Go.RowKit

set_option maxHeartbeats 1000000 in
theorem split_any (n : Nat) (w : World) (hn : n < 18446744073709551616) :
    Calls Try.prog 28 #[.int .u64 n] w fun e w' => e = .returned (.agg #[.int .u8 (n % 256), .int .u8 (n / 256 % 256), .int .u8 (n / 65536 % 256), .int .u8 (n / 16777216 % 256), .int .u8 (n / 4294967296 % 256), .int .u8 (n / 1099511627776 % 256), .int .u8 (n / 281474976710656 % 256), .int .u8 (n / 72057594037927936)]) ∧ Below w.heap.size w w' := by
  go_enter Try.func28, Try.ntmps28
  go_wp2
  refine wp_loop_rounds 9 ?_
  iterate 9 (rw [rounds_succ]; go_wp2)
  refine bodyPost_ret (v := .agg #[.int .u8 (n % 256), .int .u8 (n / 256 % 256), .int .u8 (n / 65536 % 256), .int .u8 (n / 16777216 % 256), .int .u8 (n / 4294967296 % 256), .int .u8 (n / 1099511627776 % 256), .int .u8 (n / 281474976710656 % 256), .int .u8 (n / 72057594037927936)]) (by simp [results, Try.results28, go_sem]) rfl ⟨rfl, ?_⟩
  exact ((Below.refl _ _).alloc (Nat.le_refl _) _).alloc (by simp) _

theorem bin_alloc (w : World) (xs : List Nat) (e : TypeId) (hx : ∀ c ∈ xs, c < 256) : BIn (w.alloc (.cells (Bs xs).toArray e)) (some ⟨w.heap.size, 0, none⟩) xs := by
  refine ⟨fun _ => ⟨w.heap.size, 0, rfl, fun i hi => ?_⟩, hx⟩
  rw [cell_of_row (w.alloc (.cells (Bs xs).toArray e)) w.heap.size (0 + i) (Bs xs).toArray e (0, 0) (heap_alloc_new w _)]
  simp [Bs, List.getD, List.getElem?_eq_getElem hi]

theorem putN_cells (n : Nat) : (Bs (putN n)).toArray = #[.int .u8 (n % 256), .int .u8 (n / 256 % 256), .int .u8 (n / 65536 % 256), .int .u8 (n / 16777216 % 256), .int .u8 (n / 4294967296 % 256), .int .u8 (n / 1099511627776 % 256), .int .u8 (n / 281474976710656 % 256), .int .u8 (n / 72057594037927936)] := by
  simp [Bs, putN]

set_option maxHeartbeats 1000000 in
theorem put_any (n : Nat) (w : World) (hn : n < 18446744073709551616) :
    Calls Try.prog 17 #[.int .u64 n] w fun e w' => ∃ w1, e = .returned (.slice (some ⟨w1.heap.size, 0, none⟩) 8 8) ∧ w' = w1.alloc (.cells (Bs (putN n)).toArray 51) ∧ Below w.heap.size w w1 := by
  go_enter Try.func17, Try.ntmps17
  go_wp2_with (go_at_call 28; refine (split_any n _ hn).mono ?_; rintro e w1 ⟨rfl, hb⟩)
  go_ret
  exact ⟨w1, rfl, by rw [putN_cells], hb⟩

set_option maxHeartbeats 1000000 in
theorem join_any (a0 a1 a2 a3 a4 a5 a6 a7 : Nat) (w : World) (b0 : a0 < 256) (b1 : a1 < 256) (b2 : a2 < 256) (b3 : a3 < 256) (b4 : a4 < 256) (b5 : a5 < 256) (b6 : a6 < 256) (b7 : a7 < 256) :
    Calls Try.prog 26 #[.agg #[.int .u8 a0, .int .u8 a1, .int .u8 a2, .int .u8 a3, .int .u8 a4, .int .u8 a5, .int .u8 a6, .int .u8 a7]] w fun e w' => e = .returned (.int .u64 (joinN a0 a1 a2 a3 a4 a5 a6 a7 : Nat)) ∧ Below w.heap.size w w' := by
  have i0 : ∀ w, (Instr.index 51 (.agg #[.int .u8 a0, .int .u8 a1, .int .u8 a2, .int .u8 a3, .int .u8 a4, .int .u8 a5, .int .u8 a6, .int .u8 a7]) (.int .i64 0)).run Try.prog w = .ok (.int .u8 a0) w := fun _ => by kernel_rfl
  have i1 : ∀ w, (Instr.index 51 (.agg #[.int .u8 a0, .int .u8 a1, .int .u8 a2, .int .u8 a3, .int .u8 a4, .int .u8 a5, .int .u8 a6, .int .u8 a7]) (.int .i64 1)).run Try.prog w = .ok (.int .u8 a1) w := fun _ => by kernel_rfl
  have i2 : ∀ w, (Instr.index 51 (.agg #[.int .u8 a0, .int .u8 a1, .int .u8 a2, .int .u8 a3, .int .u8 a4, .int .u8 a5, .int .u8 a6, .int .u8 a7]) (.int .i64 2)).run Try.prog w = .ok (.int .u8 a2) w := fun _ => by kernel_rfl
  have i3 : ∀ w, (Instr.index 51 (.agg #[.int .u8 a0, .int .u8 a1, .int .u8 a2, .int .u8 a3, .int .u8 a4, .int .u8 a5, .int .u8 a6, .int .u8 a7]) (.int .i64 3)).run Try.prog w = .ok (.int .u8 a3) w := fun _ => by kernel_rfl
  have i4 : ∀ w, (Instr.index 51 (.agg #[.int .u8 a0, .int .u8 a1, .int .u8 a2, .int .u8 a3, .int .u8 a4, .int .u8 a5, .int .u8 a6, .int .u8 a7]) (.int .i64 4)).run Try.prog w = .ok (.int .u8 a4) w := fun _ => by kernel_rfl
  have i5 : ∀ w, (Instr.index 51 (.agg #[.int .u8 a0, .int .u8 a1, .int .u8 a2, .int .u8 a3, .int .u8 a4, .int .u8 a5, .int .u8 a6, .int .u8 a7]) (.int .i64 5)).run Try.prog w = .ok (.int .u8 a5) w := fun _ => by kernel_rfl
  have i6 : ∀ w, (Instr.index 51 (.agg #[.int .u8 a0, .int .u8 a1, .int .u8 a2, .int .u8 a3, .int .u8 a4, .int .u8 a5, .int .u8 a6, .int .u8 a7]) (.int .i64 6)).run Try.prog w = .ok (.int .u8 a6) w := fun _ => by kernel_rfl
  have i7 : ∀ w, (Instr.index 51 (.agg #[.int .u8 a0, .int .u8 a1, .int .u8 a2, .int .u8 a3, .int .u8 a4, .int .u8 a5, .int .u8 a6, .int .u8 a7]) (.int .i64 7)).run Try.prog w = .ok (.int .u8 a7) w := fun _ => by kernel_rfl
  have e0 : bits BinOp.or IntKind.u64 0 (a0 : Int) = (a0 : Int) := by rw [show (0 : Int) = ((0 : Nat) : Int) from rfl]; exact or_join 0 0 a0 a0 (by decide) (by omega) _ (by simp) (by simp)
  obtain ⟨s1, h1⟩ : ∃ s, s = a1 * 256 + a0 := ⟨_, rfl⟩
  have e1 : bits BinOp.or IntKind.u64 (a0 : Int) ((a1 : Int) * 256) = (s1 : Int) := or_join 8 a0 a1 s1 (by omega) (by omega) _ (by omega) (by omega)
  obtain ⟨s2, h2⟩ : ∃ s, s = a2 * 65536 + s1 := ⟨_, rfl⟩
  have e2 : bits BinOp.or IntKind.u64 (s1 : Int) ((a2 : Int) * 65536) = (s2 : Int) := or_join 16 s1 a2 s2 (by omega) (by omega) _ (by omega) (by omega)
  obtain ⟨s3, h3⟩ : ∃ s, s = a3 * 16777216 + s2 := ⟨_, rfl⟩
  have e3 : bits BinOp.or IntKind.u64 (s2 : Int) ((a3 : Int) * 16777216) = (s3 : Int) := or_join 24 s2 a3 s3 (by omega) (by omega) _ (by omega) (by omega)
  obtain ⟨s4, h4⟩ : ∃ s, s = a4 * 4294967296 + s3 := ⟨_, rfl⟩
  have e4 : bits BinOp.or IntKind.u64 (s3 : Int) ((a4 : Int) * 4294967296) = (s4 : Int) := or_join 32 s3 a4 s4 (by omega) (by omega) _ (by omega) (by omega)
  obtain ⟨s5, h5⟩ : ∃ s, s = a5 * 1099511627776 + s4 := ⟨_, rfl⟩
  have e5 : bits BinOp.or IntKind.u64 (s4 : Int) ((a5 : Int) * 1099511627776) = (s5 : Int) := or_join 40 s4 a5 s5 (by omega) (by omega) _ (by omega) (by omega)
  obtain ⟨s6, h6⟩ : ∃ s, s = a6 * 281474976710656 + s5 := ⟨_, rfl⟩
  have e6 : bits BinOp.or IntKind.u64 (s5 : Int) ((a6 : Int) * 281474976710656) = (s6 : Int) := or_join 48 s5 a6 s6 (by omega) (by omega) _ (by omega) (by omega)
  obtain ⟨s7, h7⟩ : ∃ s, s = a7 * 72057594037927936 + s6 := ⟨_, rfl⟩
  have e7 : bits BinOp.or IntKind.u64 (s6 : Int) ((a7 : Int) * 72057594037927936) = (s7 : Int) := or_join 56 s6 a7 s7 (by omega) (by omega) _ (by omega) (by omega)
  have H : Hid (joinN a0 a1 a2 a3 a4 a5 a6 a7 = s7) := by show _ = _; unfold joinN; omega
  clear h1 h2 h3 h4 h5 h6 h7
  go_enter Try.func26, Try.ntmps26
  go_wp2
  refine wp_loop_rounds 9 ?_
  iterate 9 (rw [rounds_succ]; go_wp2)
  go_ret
  exact ⟨by rw [H.out]; rfl, (Below.refl _ _).alloc (Nat.le_refl _) _⟩
end Go.Proofs.Ytdbgbaclgdkkjaa
