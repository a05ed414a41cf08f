import Derived.Test.YtcfalgomcdmdhaaDoorJRdA
namespace Go.Proofs.YtcfalgomcdmdhaaDoor
open Go.RowKit Go.WideShapes Go.Joins
def Gives {α : Type} (p : J.Rd α) (σ : RS) (V : α) : Prop := ∀ v, (goR p σ).2 = some v → v = V
theorem goR_thenV {α β : Type} {p : J.Rd α} {q : α → J.Rd β} (hp : J.Good p) {σ : RS} {V : α} (h : Gives p σ V) : goR (p.then q) σ = goR (q V) (goR p σ).1 := by
  cases hg : goR p σ with
  | mk σ1 o =>
    cases o with
    | some v =>
      have : v = V := h v (by rw [hg])
      subst this
      exact goR_some hp hg
    | none =>
      obtain ⟨s, e, rfl⟩ := goR_over hg
      exact goR_none hp hg
theorem gives_get {α : Type} (p : J.Rd α) (σ : RS) (d : α) : Gives p σ ((goR p σ).2.getD d) := by
  intro v hv
  rw [hv]; rfl
theorem goR_pureV {α : Type} (v : α) {σ : RS} (ho : σ.ok) : (goR (J.Rd.pure v) σ).1 = σ ∧ Gives (J.Rd.pure v) σ v := by
  cases σ with
  | dead s e => exact ⟨rfl, fun _ h => by cases h⟩
  | live s i =>
    have := goR_pure v (show i ≤ s.size from ho)
    unfold Gives
    rw [this]
    exact ⟨rfl, fun _ h => by cases h; rfl⟩
theorem then_assoc {α β γ : Type} (p : J.Rd α) (q : α → J.Rd β) (r : β → J.Rd γ) : (p.then q).then r = p.then fun x => (q x).then r := by
  funext l
  unfold J.Rd.then
  cases p l <;> rfl
theorem pure_then {α β : Type} (v : α) (q : α → J.Rd β) : (J.Rd.pure v).then q = q v := by
  funext l; rfl
end Go.Proofs.YtcfalgomcdmdhaaDoor
