/-
  Digests compared as arrays.
-/
import Derived.Test.YtoagaddciapmkaaDoorXSm
import Derived.Stop.BytesEq
namespace Go.Proofs.YtoagaddciapmkaaDoor
open Go.RowKit Go.WideShapes

theorem bs_cell {D : List Nat} (h : ∀ x ∈ D, x < 256) : Bs D = (D.map UInt8.ofNat).map Extern.Stop.cell := by
  unfold Bs
  rw [List.map_map]
  apply List.map_congr_left
  intro x hx
  simp [Extern.Stop.cell, Nat.mod_eq_of_lt (h x hx)]
theorem beq_dig {D E : List Nat} (hD : ∀ x ∈ D, x < 256) (hE : ∀ x ∈ E, x < 256) : (D.map UInt8.ofNat == E.map UInt8.ofNat) = decide (D = E) := by
  rw [Bool.eq_iff_iff, beq_iff_eq, decide_eq_true_eq]
  exact ⟨map_ofNat_inj hD hE, fun h => by rw [h]⟩
theorem eql_dig {D E : List Nat} (lD : D.length = 32) (lE : E.length = 32) (hD : ∀ x ∈ D, x < 256) (hE : ∀ x ∈ E, x < 256) (w : World) :
    (binOp .eql 23 (.agg (Bs D).toArray) (.agg (Bs E).toArray)).run Tryd.prog w = .ok (.bool (decide (D = E))) w := by
  rw [bs_cell hD, bs_cell hE, run_eql_bytes w 23 5 32 Tryd.underlying23 Tryd.underlying5 (fun w => Tryd.sizeOf5 w) _ _ (by rw [List.length_map, lD]) (by rw [List.length_map, lE]), beq_dig hD hE]
theorem neq_dig {D E : List Nat} (lD : D.length = 32) (lE : E.length = 32) (hD : ∀ x ∈ D, x < 256) (hE : ∀ x ∈ E, x < 256) (w : World) :
    (binOp .neq 23 (.agg (Bs D).toArray) (.agg (Bs E).toArray)).run Tryd.prog w = .ok (.bool (!decide (D = E))) w := by
  rw [run_neq_struct, bs_cell hD, bs_cell hE, run_equalIn_bytes w 9998 23 5 32 Tryd.underlying23 Tryd.underlying5 (fun w => Tryd.sizeOf5 w) _ _ (by rw [List.length_map, lD]) (by rw [List.length_map, lE]), beq_dig hD hE]
  rfl
end Go.Proofs.YtoagaddciapmkaaDoor
