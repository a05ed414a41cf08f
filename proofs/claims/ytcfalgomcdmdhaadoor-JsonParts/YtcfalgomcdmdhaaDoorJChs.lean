import Derived.Test.YtcfalgomcdmdhaaDoorJChar
import Derived.Test.YtcfalgomcdmdhaaDoorJSt
import Derived.Test.YtcfalgomcdmdhaaDoorJUtf
import Derived.Test.YtcfalgomcdmdhaaDoorXShelfU
namespace Go.Proofs.YtcfalgomcdmdhaaDoor
open Go.RowKit Go.WideShapes Go.Joins
theorem goR_on {α : Type} {p : J.Rd α} (hs : ∀ l v r, p l = .ok v r → ∃ a, l = a ++ r) {s : ByteArray} {i : Nat} {σ' : RS} {v : α} (h : goR p (.live s i) = (σ', some v)) (hi : i ≤ s.size) :
    ∃ j, σ' = .live s j ∧ i ≤ j ∧ j ≤ s.size ∧ ∃ r, p ((numsOf s).drop i) = .ok v r ∧ r.length = s.size - j := by
  simp only [goR] at h
  cases hv : p ((numsOf s).drop i) with
  | ok x r =>
    rw [hv] at h
    cases h
    obtain ⟨a, ha⟩ := hs _ _ _ hv
    have hl := congrArg List.length ha
    rw [rest_len, List.length_append] at hl
    exact ⟨_, rfl, by omega, by omega, r, rfl, by omega⟩
  | bad e r => rw [hv] at h; cases h
  | out => rw [hv] at h; cases h
end Go.Proofs.YtcfalgomcdmdhaaDoor
