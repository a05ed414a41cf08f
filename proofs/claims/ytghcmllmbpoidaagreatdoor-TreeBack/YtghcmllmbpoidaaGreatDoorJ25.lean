import Derived.Test.YtghcmllmbpoidaaGreatDoorJ24
import Derived.Laws.StructEq
namespace Go.Proofs.YtghcmllmbpoidaaGreatDoor.Lg
open Go.RowKit Go.WideShapes
theorem beq0 {e : Nat} (h : e ≠ 0) : ((e : Int) == 0) = false := by simp; exact h
def lenV : Value → Nat
  | .slice _ n _ => n
  | _ => 0
abbrev OpenT := ByteArray × Nat × Nat × Nat
open Classical in
noncomputable def openR (e p : Nat) (xs : List Nat) : OpenT :=
  if e = 0 then (ByteArray.empty, 0, 0, 2)
  else if h : ∃ y : Nat × List Nat, IsRec e p xs y.1 y.2 then (strOf (Classical.choose h).2, (Classical.choose h).1, needsN (Classical.choose h).2.length, 0)
  else (ByteArray.empty, 0, 0, 0)
theorem openR_yes {e p s : Nat} {xs r : List Nat} (he0 : e ≠ 0) (he : e < 4294967296) (hp : p < 4294967296) (h : IsRec e p xs s r) : openR e p xs = (strOf r, s, needsN r.length, 0) := by
  have hx : ∃ y : Nat × List Nat, IsRec e p xs y.1 y.2 := ⟨(s, r), h⟩
  unfold openR
  rw [if_neg he0, dif_pos hx]
  obtain ⟨h1, h2⟩ := rec_only he hp (Classical.choose_spec hx) h
  rw [h1, h2]
theorem openR_no {e p : Nat} {xs : List Nat} (he0 : e ≠ 0) (h : ∀ s r, ¬ IsRec e p xs s r) : openR e p xs = (ByteArray.empty, 0, 0, 0) := by
  unfold openR
  rw [if_neg he0, dif_neg (fun hx => by obtain ⟨y, hy⟩ := hx; exact h _ _ hy)]
theorem no_short {e p : Nat} {xs : List Nat} (h : xs.length < 128) : ∀ s r, ¬ IsRec e p xs s r := fun s r hr => by
  have h1 := rec_len hr
  have h2 := needsN_pos r.length
  omega
theorem no_head {e p : Nat} {xs : List Nat} (he : e < 4294967296) (hp : p < 4294967296) (h : numAt xs 4 = 0 ∨ xs.getD 13 0 = 0 ∨ xs.length < xs.getD 13 0 * 128) : ∀ s r, ¬ IsRec e p xs s r := fun s r hr => by
  obtain ⟨h1, h2, _, _⟩ := rec_dec he hp hr
  have h3 := rec_len hr
  have h4 := needsN_pos r.length
  have h5 := hr.salt0
  rw [h1, h2] at h
  omega
theorem no_long {e p n : Nat} {xs : List Nat} (he : e < 4294967296) (hp : p < 4294967296) (hn : xs.getD 13 0 = n) (h : 4096 < (decK xs n).length) : ∀ s r, ¬ IsRec e p xs s r := fun s r hr => by
  obtain ⟨h1, h2, h3, _⟩ := rec_dec he hp hr
  rw [hn] at h2
  subst h2
  rw [h3] at h
  have := hr.len
  omega
theorem sec_getD (xs : List Nat) (k j : Nat) (hj : j < 128) : (secAt xs k).getD j 0 = xs.getD (k * 128 + j) 0 := by
  simp [secAt, List.getD, hj]
theorem conv_at {w : World} {p : Option Addr} {xs : List Nat} {n c : Nat} (h : BIn w p xs) (hn : n = xs.length) : (convert 32 9 (.slice p n c)).run Tryz.prog w = .ok (.string (strOf xs)) w := bin_conv Tryz.underlying32 Tryz.underlying5 Tryz.underlying9 h hn c
theorem below_dr (w : World) (n : Nat) : Below w.heap.size w (w.drewN n) := ⟨rfl, rfl, rfl, Nat.le_refl _, fun _ _ => rfl⟩
theorem body_in {w : World} {b o k z : Nat} {xs : List Nat} (h : BIn w (some ⟨b, o, none⟩) xs) (hz : sizeOf2 (secAt xs k) = z) : BIn w (some ⟨b, o + k * 128 + 16, none⟩) (bodyOf (secAt xs k)) := by
  have := (((h.drop' (k * 128)).take' 128).drop' 16).take' z
  unfold bodyOf
  rw [hz]
  exact this
theorem body_len {xs : List Nat} {k z : Nat} (hl : (k + 1) * 128 ≤ xs.length) (hz : sizeOf2 (secAt xs k) = z) (hz1 : z ≤ 112) : (bodyOf (secAt xs k)).length = z := by
  unfold bodyOf
  rw [List.length_take, List.length_drop, secAt_len hl, hz]
  omega
theorem decK_len_le (xs : List Nat) (k : Nat) (h : ∀ i, i < k → sizeOf2 (secAt xs i) ≤ 112) : (decK xs k).length ≤ k * 112 := by
  induction k with
  | zero => exact Nat.le_refl _
  | succ k ih =>
    rw [decK_snoc, List.length_append]
    have h1 := ih (fun i hi => h i (by omega))
    have h2 := h k (by omega)
    have h3 : (bodyOf (secAt xs k)).length ≤ sizeOf2 (secAt xs k) := by unfold bodyOf; rw [List.length_take]; omega
    omega
theorem drop_in0 {w : World} {p : Option Addr} {xs : List Nat} (h : xs.length = 0) : BIn w p xs := by
  obtain rfl := List.eq_nil_of_length_eq_zero h
  exact ⟨fun h => by simp at h, by simp⟩
def allZ (xs : List Nat) : Bool := decide (∀ c ∈ xs, c = 0)
end Go.Proofs.YtghcmllmbpoidaaGreatDoor.Lg
