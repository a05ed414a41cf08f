/-
  Contracts of split, Put, join.
-/
import Derived.Test.YtoagaddciapmkaaDoorSmall
namespace Go.Proofs.YtoagaddciapmkaaDoor.Bt
open Go.RowKit Go.WideShapes

set_option maxHeartbeats 1000000 in
theorem split_any (n : Nat) (w : World) (hn : n < 18446744073709551616) :
    Calls Tryd.prog 79 #[.int .u64 n] w fun e w' => e = .returned (.agg #[.int .u8 (n % 256), .int .u8 (n / 256 % 256), .int .u8 (n / 65536 % 256), .int .u8 (n / 16777216 % 256), .int .u8 (n / 4294967296 % 256), .int .u8 (n / 1099511627776 % 256), .int .u8 (n / 281474976710656 % 256), .int .u8 (n / 72057594037927936)]) ∧ Below w.heap.size w w' := by
  go_enter Tryd.func79, Tryd.ntmps79
  go_wp2
  refine wp_loop_rounds 9 ?_
  iterate 9 (rw [rounds_succ]; go_wp2)
  refine bodyPost_ret (v := .agg #[.int .u8 (n % 256), .int .u8 (n / 256 % 256), .int .u8 (n / 65536 % 256), .int .u8 (n / 16777216 % 256), .int .u8 (n / 4294967296 % 256), .int .u8 (n / 1099511627776 % 256), .int .u8 (n / 281474976710656 % 256), .int .u8 (n / 72057594037927936)]) (by simp [results, Tryd.results79, go_sem]) rfl ⟨rfl, ?_⟩
  exact ((Below.refl _ _).alloc (Nat.le_refl _) _).alloc (by simp) _

theorem bin_alloc (w : World) (xs : List Nat) (e : TypeId) (hx : ∀ c ∈ xs, c < 256) : BIn (w.alloc (.cells (Bs xs).toArray e)) (some ⟨w.heap.size, 0, none⟩) xs := by
  refine ⟨fun _ => ⟨w.heap.size, 0, rfl, fun i hi => ?_⟩, hx⟩
  rw [cell_of_row (w.alloc (.cells (Bs xs).toArray e)) w.heap.size (0 + i) (Bs xs).toArray e (0, 0) (heap_alloc_new w _)]
  simp [Bs, List.getD, List.getElem?_eq_getElem hi]

theorem putN_cells (n : Nat) : (Bs (putN n)).toArray = #[.int .u8 (n % 256), .int .u8 (n / 256 % 256), .int .u8 (n / 65536 % 256), .int .u8 (n / 16777216 % 256), .int .u8 (n / 4294967296 % 256), .int .u8 (n / 1099511627776 % 256), .int .u8 (n / 281474976710656 % 256), .int .u8 (n / 72057594037927936)] := by
  simp [Bs, putN]

set_option maxHeartbeats 1000000 in
theorem put_any (n : Nat) (w : World) (hn : n < 18446744073709551616) :
    Calls Tryd.prog 69 #[.int .u64 n] w fun e w' => ∃ w1, e = .returned (.slice (some ⟨w1.heap.size, 0, none⟩) 8 8) ∧ w' = w1.alloc (.cells (Bs (putN n)).toArray 111) ∧ Below w.heap.size w w1 := by
  go_enter Tryd.func69, Tryd.ntmps69
  go_wp2_with (go_at_call 79; refine (split_any n _ hn).mono ?_; rintro e w1 ⟨rfl, hb⟩)
  go_ret
  exact ⟨w1, rfl, by rw [putN_cells], hb⟩

end Go.Proofs.YtoagaddciapmkaaDoor.Bt
