/-
  Strings as numbers.
-/
import Derived.Test.YtkcmidhpbaepoaaDoorXMath
import Derived.Test.YtkcmidhpbaepoaaDoorLie
import Derived.WalkLawsBesides
import Derived.WalkSpells
namespace Go.Proofs.YtkcmidhpbaepoaaDoor
open Go.RowKit Go.WideShapes

def numsOf (s : ByteArray) : List Nat := s.data.toList.map UInt8.toNat
theorem numsOf_len (s : ByteArray) : (numsOf s).length = s.size := by rw [numsOf, List.length_map, Array.length_toList]; rfl
theorem numsOf_lt (s : ByteArray) : ∀ c ∈ numsOf s, c < 256 := by
  intro c hc
  simp only [numsOf, List.mem_map] at hc
  obtain ⟨b, _, rfl⟩ := hc
  exact b.toNat_lt
theorem strOf_nums (s : ByteArray) : strOf (numsOf s) = s := by
  apply bytes_inj
  rw [strOf_list, numsOf, List.map_map]
  conv => rhs; rw [← List.map_id s.data.toList]
  congr 1
  funext b
  simp
theorem nums_strOf {xs : List Nat} (h : ∀ c ∈ xs, c < 256) : numsOf (strOf xs) = xs := by
  unfold numsOf
  rw [strOf_list, List.map_map]
  conv => rhs; rw [← List.map_id xs]
  apply List.map_congr_left
  intro c hc
  simp [Nat.mod_eq_of_lt (h c hc)]
end Go.Proofs.YtkcmidhpbaepoaaDoor
