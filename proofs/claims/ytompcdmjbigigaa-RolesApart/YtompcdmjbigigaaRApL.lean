/-
  The law RolesApart walked.
-/
import Derived.Test.YtompcdmjbigigaaRApd
namespace Go.Proofs.Ytompcdmjbigigaa
open Go.RowKit Go.WideShapes Go.Joins

set_option maxHeartbeats 4000000 in
set_option maxRecDepth 8000 in
theorem apart_walk (qa : Option Addr) (ca : Nat) (A : List Pr) (qt : Option Addr) (ct : Nat) (T : List Pr) (u r : ByteArray) (w : World) (ha : PrsIn w qa A ca) (ht : PrsIn w qt T ct) (_ : u.size ≤ maxLen) (hr : r.size ≤ maxLen) :
    Calls Try.prog 5 #[.slice qa A.length ca, .slice qt T.length ct, .string u, .string r] w fun e w' => e = .returned (.bool true) ∧ Below w.heap.size w w' := by
  have P1 := Apart_any qa ca A qt ct T u r w ha ht hr
  have D1 : Hid (∀ w', Below w.heap.size w w' → Calls Try.prog 20 #[.slice qa A.length ca, .slice qt T.length ct, .string u, .string r] w' fun e w'' => e = .returned (.tuple #[.bool (apV A T u r), .int .i64 (apE A T r : Nat)]) ∧ Below w'.heap.size w' w'') := fun w' hb => dApart_any qa ca A qt ct T u r w' (ha.below hb) (ht.below hb) hr
  have hnI : (A.length : Int) ≤ 9223372036854775807 := by have := ha.le; have := ha.cap; unfold maxLen at this; omega
  have hmI : (T.length : Int) ≤ 9223372036854775807 := by have := ht.le; have := ht.cap; unfold maxLen at this; omega
  clear ha ht hr
  generalize apV A T u r = V at P1 D1
  generalize apE A T r = E at P1 D1
  generalize A.length = n at P1 D1 hnI ⊢
  generalize T.length = m at P1 D1 hmI ⊢
  have ee : ((E : Int) == (E : Int)) = true := by simp
  have vv : (V == V) = true := by simp
  go_enter Try.func5, Try.ntmps5
  by_cases h1 : 40 < n
  · have i1 : (40 : Int) < (n : Int) := by omega
    clear h1
    go_wp2_with fail
    go_ret
    exact ⟨rfl, Below.refl _ _⟩
  have i1 : ¬ (40 : Int) < (n : Int) := by omega
  by_cases h2 : 1100 < m
  · have i2 : (1100 : Int) < (m : Int) := by omega
    clear h1 h2
    go_wp2_with fail
    go_ret
    exact ⟨rfl, Below.refl _ _⟩
  have i2 : ¬ (1100 : Int) < (m : Int) := by omega
  clear h1 h2
  go_wp2_with fail
  refine P1.mono ?_
  rintro e w1 ⟨rfl, hb1⟩
  simp only []
  have D2 := D1.out w1 hb1
  go_wp2_with fail
  refine D2.mono ?_
  rintro e w2 ⟨rfl, hb2⟩
  have HB : Hid _ := below_more hb1 hb2
  simp only []
  go_wp2_with fail
  go_ret
  exact ⟨rfl, HB.out⟩
end Go.Proofs.Ytompcdmjbigigaa
