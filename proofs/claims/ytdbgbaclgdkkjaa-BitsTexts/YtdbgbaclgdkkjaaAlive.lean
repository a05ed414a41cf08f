/-
  Contract of the laws' own call alive: it answers true.
-/
import Derived.Test.YtdbgbaclgdkkjaaRead
import Derived.Lib.SmallJoins
namespace Go.Proofs.Ytdbgbaclgdkkjaa
open Go.RowKit

theorem BIn.alloc {w : World} {p : Option Addr} {xs : List Nat} (h : BIn w p xs) (o : Obj) : BIn (w.alloc o) p xs := by
  refine ⟨fun hx => ?_, h.2⟩
  obtain ⟨b, o', rfl, hc⟩ := h.1 hx
  exact ⟨b, o', rfl, fun i hi => (World.cell?_alloc_past o b _ (World.block_lt_of_cell? _ _ (hc i hi))).trans (hc i hi)⟩
theorem BIn.below {w w' : World} {p : Option Addr} {xs : List Nat} (h : BIn w p xs) (hb : Below w.heap.size w w') : BIn w' p xs := by
  refine ⟨fun hx => ?_, h.2⟩
  obtain ⟨b, o', rfl, hc⟩ := h.1 hx
  exact ⟨b, o', rfl, fun i hi => cell_later hb (hc i hi)⟩

theorem bin_lit (w : World) (g : Nat) (C : Array Value) (e : TypeId) (fr : Nat × Nat) (xs : List Nat) (hg : g = w.heap.size) (hC : C = (Bs xs).toArray) (hx : ∀ c ∈ xs, c < 256) : BIn (w.alloc (.cells C e fr)) (some ⟨g, 0, none⟩) xs := by
  subst hg hC
  refine ⟨fun _ => ⟨w.heap.size, 0, rfl, fun i hi => ?_⟩, hx⟩
  rw [cell_of_row (w.alloc (.cells (Bs xs).toArray e fr)) w.heap.size (0 + i) (Bs xs).toArray e fr (heap_alloc_new w _)]
  simp [Bs, List.getD, List.getElem?_eq_getElem hi]
/-- Two lists of the same bytes. -/
theorem same_eq (p q : Option Addr) (n m c d : Nat) (xs ys : List Nat) (w : World) (hn : n = xs.length) (hm : m = ys.length) (e : xs = ys) (hx : BIn w p xs) (hy : BIn w q ys) :
    Calls Try.prog 10 #[.slice p n c, .slice q m d] w fun e w' => e = .returned (.bool true) ∧ w' = w := by
  subst hn hm
  refine (same_any p q c d xs ys w hx hy).mono fun e' w' h => ⟨?_, h.2⟩
  rw [h.1, decide_eq_true e]
theorem sum_at (p : Option Addr) (n cap : Nat) (xs : List Nat) (w : World) (z : Int) (hn : n = xs.length) (hz : (sumN xs : Int) = z) (hb : BIn w p xs) (hm : xs.length ≤ maxLen) :
    Calls Try.prog 16 #[.slice p n cap] w fun e w' => e = .returned (.int .u32 z) ∧ w' = w := by
  subst hn hz
  exact sum_any p cap xs w hb hm
theorem sum_nine : sumN [49, 50, 51, 52, 53, 54, 55, 56, 57] = 3421780262 := by decide +kernel

set_option maxHeartbeats 400000 in
theorem alive_any (w : World) : Calls Try.prog 14 #[] w fun e w' => e = .returned (.bool true) ∧ Below w.heap.size w w' := by
  have kc := fun (w : World) (o1 o2 : Obj) (C : Array Value) (n c : Nat) => Go.Joins.run_convert_bytes_const_at (P := Try.prog) ((w.alloc o1).alloc o2) 26 5 C n c (w.heap.size + 1 + 1) (by simp) Try.underlying26 Try.underlying5
  go_enter Try.func14, Try.ntmps14
  go_wp2_with fail
  refine (put_any 258 w (by decide)).mono ?_
  rintro e w' ⟨w1, rfl, rfl, hb⟩
  have hs := hb.size
  go_wp2_with fail
  refine (same_eq _ _ 8 8 8 8 (putN 258) [2, 1, 0, 0, 0, 0, 0, 0] _ rfl rfl (by decide) ?_ ?_).mono ?_
  · exact (bin_lit w1 _ _ _ _ (putN 258) rfl rfl (putN_bytes 258 (by decide))).alloc _
  · exact bin_lit _ _ _ _ _ _ (by simp) (by simp [Bs]) (by decide)
  rintro e w' ⟨rfl, rfl⟩
  go_wp2_with fail
  refine (sum_at _ 9 9 [49, 50, 51, 52, 53, 54, 55, 56, 57] _ 3421780262 rfl (by rw [sum_nine]; rfl) ?_ (by decide)).mono ?_
  · exact bin_lit _ _ _ _ _ _ (by simp) (by simp [Bs]) (by decide)
  rintro e w' ⟨rfl, rfl⟩
  go_wp2
  go_ret
  exact ⟨rfl, ((hb.alloc hs _).alloc (by simp; omega) _).alloc (by simp; omega) _⟩
end Go.Proofs.Ytdbgbaclgdkkjaa
