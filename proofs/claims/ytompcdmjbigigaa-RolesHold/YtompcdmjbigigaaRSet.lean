/-
  Sets: has, put.
-/
import Derived.Test.YtompcdmjbigigaaRName
namespace Go.Proofs.Ytompcdmjbigigaa
open Go.RowKit Go.WideShapes Go.Joins Go.Maps

set_option maxHeartbeats 1000000 in
set_option maxRecDepth 8000 in
theorem has_any (b n : Nat) (l : List ByteArray) (s : ByteArray) (w : World) (hs : s.size ≤ maxLen) (h : SetAt w b n l) (v : Bool) (hv : isIn l s = v) :
    Calls Try.prog 24 #[.map (some b), .string s] w fun e w' => e = .returned (.bool v) ∧ Below w.heap.size w w' := by
  have hkey := key_of s hs
  have hh := has_setS l s
  rw [hv] at hh
  clear hs hv
  cases v with
  | true =>
    go_enter Try.func24, Try.ntmps24
    go_wp2_with (first
      | (at_lookup; refine wpList_lookup_own_unit _ rfl _ _ 54 rfl 9 64 map_keyed Try.underlying54 (unit_zero _) b n _ rfl h _ _ rfl hkey ?_; rw [hh])
      | fail)
    go_ret
    exact ⟨rfl, below_new _ _⟩
  | false =>
    go_enter Try.func24, Try.ntmps24
    go_wp2_with (first
      | (at_lookup; refine wpList_lookup_own_unit _ rfl _ _ 54 rfl 9 64 map_keyed Try.underlying54 (unit_zero _) b n _ rfl h _ _ rfl hkey ?_; rw [hh])
      | fail)
    go_ret
    exact ⟨rfl, below_new _ _⟩
set_option maxHeartbeats 1000000 in
set_option maxRecDepth 8000 in
theorem put_any (b n : Nat) (l : List ByteArray) (s : ByteArray) (w : World) (hs : s.size ≤ maxLen) (h : SetAt w b n l) (hn : n < maxLen) :
    Calls Try.prog 38 #[.map (some b), .string s] w fun e w' => e = .returned (.tuple #[]) ∧ SetAt w' b (n + 1) (l ++ [s]) ∧ w.grownBy w' (some b) := by
  have hkey := key_of s hs
  have HS : Hid (setS (l ++ [s]) = (setS l).put (litS s) (.agg [])) := setS_snoc l s
  clear hs
  go_enter Try.func38, Try.ntmps38
  go_wp2_with (first
    | (at_mapUpdate; refine wpList_mapUpdate_own _ rfl _ _ _ 54 rfl 9 64 map_keyed Try.underlying54 (unitElem (H := Unit)) b n _ rfl h hn _ _ _ rfl rfl hkey _ [] unitElem_mk ?_; intro w2 hown2 hgrow2)
    | fail)
  go_end0
  exact ⟨rfl, by show w2.ownsMap _ _ _ _ _ _; rw [HS.out]; exact hown2, hgrow2⟩
end Go.Proofs.Ytompcdmjbigigaa
