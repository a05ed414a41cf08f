/-
  HashPass: the law.
-/
import Derived.Test.YtoagaddciapmkaaDoorXRPass
namespace Go.Proofs.YtoagaddciapmkaaDoor
open Go.RowKit Go.WideShapes Go.Maps

/-- Both sides' answer. -/
def passA (a b : ByteArray) (t : Int) : ByteArray × Nat :=
  if 16384 < a.size ∨ 16384 < b.size then (⟨#[]⟩, 3) else if t < 1 ∨ 64 < t then (⟨#[]⟩, 2) else (strOf (hexN (passN (numsOf a) (numsOf b) t.toNat)), 0)
theorem pass_x (a b : ByteArray) (t : Int) (w : World) (hk : KOn w) (S : ByteArray) (E : Nat) (h : passA a b t = (S, E)) :
    Calls Tryd.prog 16 #[.string a, .string b, .int .i64 t] w fun e w' => e = .returned (.tuple #[.string S, .int .i64 (E : Int)]) ∧ Below w.heap.size w w' := by
  unfold passA at h
  split at h
  · cases h
    rename_i h1
    exact (pass_long a b t w h1).mono fun e w' ⟨he, hw⟩ => ⟨he, hw ▸ Below.refl _ _⟩
  · rename_i h1
    split at h
    · cases h
      rename_i h2
      exact (pass_times a b t w (by omega) (by omega) h2).mono fun e w' ⟨he, hw⟩ => ⟨he, hw ▸ Below.refl _ _⟩
    · cases h
      rename_i h2
      obtain ⟨n, rfl⟩ : ∃ n : Nat, t = (n : Int) := ⟨t.toNat, by omega⟩
      exact pass_ok a b n w hk (by omega) (by omega) (by omega) (by omega)
theorem rpass_x (a b : ByteArray) (t : Int) (w : World) (S : ByteArray) (E : Nat) (h : passA a b t = (S, E)) :
    Calls Tryd.prog 17 #[.string a, .string b, .int .i64 t] w fun e w' => e = .returned (.tuple #[.string S, .int .i64 (E : Int)]) ∧ Below w.heap.size w w' := by
  unfold passA at h
  split at h
  · cases h
    rename_i h1
    exact (rpass_long a b t w h1).mono fun e w' ⟨he, hw⟩ => ⟨he, hw ▸ Below.refl _ _⟩
  · rename_i h1
    split at h
    · cases h
      rename_i h2
      exact (rpass_times a b t w (by omega) (by omega) h2).mono fun e w' ⟨he, hw⟩ => ⟨he, hw ▸ Below.refl _ _⟩
    · cases h
      rename_i h2
      obtain ⟨n, rfl⟩ : ∃ n : Nat, t = (n : Int) := ⟨t.toNat, by omega⟩
      exact rpass_ok a b n w (by omega) (by omega) (by omega) (by omega)
set_option maxHeartbeats 2000000 in
set_option maxRecDepth 100000 in
theorem law_pass (a b : ByteArray) (t : Int) (w : World) (hk : KOn w) (_ : a.size ≤ maxLen) (_ : b.size ≤ maxLen) (_ : (Lit.int .i64 t).wf = true) :
    Calls Tryd.prog 4 #[.string a, .string b, .int .i64 t] w fun e w' => e = .returned (.bool true) ∧ Below w.heap.size w w' := by
  obtain ⟨⟨S, E⟩, hSE⟩ : ∃ r, passA a b t = r := ⟨_, rfl⟩
  have P1 := pass_x a b t w hk S E hSE
  have P2 := fun w' => rpass_x a b t w' S E hSE
  have hbq : (S.toList == S.toList) = true := by simp
  clear hSE
  go_enter Tryd.func4, Tryd.ntmps4
  go_wp2_with (first | (go_at_call 16; refine P1.mono ?_; rintro e w1 ⟨rfl, hb1⟩; have P3 := P2 w1) | (go_at_call 17; refine P3.mono ?_; rintro e w2 ⟨rfl, hb2⟩) | fail)
  all_goals go_ret
  all_goals first | exact ⟨rfl, Below.refl _ _⟩ | exact ⟨rfl, below_more hb1 hb2⟩
end Go.Proofs.YtoagaddciapmkaaDoor
