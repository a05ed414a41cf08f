/-
  The reader: a value, whichever.
-/
import Derived.Test.YtcfalgomcdmdhaaDoorJValO
namespace Go.Proofs.YtcfalgomcdmdhaaDoor
open Go.RowKit Go.WideShapes Go.Joins

theorem val_dead (p : J.Rd J.JV) (b pr pv : Nat) (D : Int) (s : ByteArray) (e : Nat) (w : World) (hE : Env w b pr pv) (h : RIn w b (.dead s e)) :
    Calls Tryd.prog 52 #[.int .i64 D, pp pr, pp pv] w fun ed w' => ValP p b (.dead s e) w ed w' := by
  have hk : (goR J.blanks (.dead s e)).1.pk = 0 := pk_dead s e
  refine (val_num b pr pv D 0 none (.dead s e) w hE h (by rw [hk]; decide)).mono ?_
  rintro ed w' ⟨A, x, rfl, a1, a2, a3, a4⟩
  exact ⟨A, x, rfl, a1, fun v hv => (by cases hv), a3, a4⟩
theorem val_walk (b pr pv : Nat) (D D1 : Int) (F : Nat) (hF : 20000 ≤ F) (g : Option (J.Rd J.JV)) (f : J.Rd J.JV) (hf : J.Good f) (σ : RS) (w : World) (hE : Env w b pr pv) (h : RIn w b σ)
    (hD : IntKind.i64.wrap (D + 1) = D1) (hg : (32 < D → g = none) ∧ (¬ 32 < D → ∃ d, g = some f ∧ f = J.value F d))
    (hcall : ∀ σ' w', Env w' b pr pv → RIn w' b σ' → (32 < D → ∃ s e, σ' = .dead s e) → Calls Tryd.prog 52 #[.int .i64 D1, pp pr, pp pv] w' fun e w'' => ValP f b σ' w' e w'') :
    Calls Tryd.prog 52 #[.int .i64 D, pp pr, pp pv] w fun e w' => ValP (valR F g) b σ w e w' := by
  by_cases k1 : (goR J.blanks σ).1.pk = 91
  · exact val_list b pr pv D D1 F hF g f hf σ w hE h k1 hD hg hcall
  by_cases k2 : (goR J.blanks σ).1.pk = 123
  · exact val_object b pr pv D D1 F hF g f hf σ w hE h k2 hD hg hcall
  by_cases k3 : (goR J.blanks σ).1.pk = 34
  · exact val_text b pr pv D F hF g σ w hE h k3
  by_cases k4 : (goR J.blanks σ).1.pk = 110
  · exact val_null b pr pv D F g σ w hE h k4
  by_cases k5 : (goR J.blanks σ).1.pk = 116
  · exact val_true b pr pv D F g σ w hE h k5
  by_cases k6 : (goR J.blanks σ).1.pk = 102
  · exact val_false b pr pv D F g σ w hE h k6
  exact val_num b pr pv D F g σ w hE h ⟨k1, k2, k3, k4, k5, k6⟩
theorem wrap_small {n : Int} (h : 0 ≤ n ∧ n < 1000) : IntKind.i64.wrap n = n := by
  simp [IntKind.wrap, IntKind.bits, IntKind.signed]
  omega
/-- a value, under d brackets that may still be opened -/
theorem value_any (b pr pv F : Nat) (hF : 20000 ≤ F) : ∀ (d : Nat) (D : Int), D = 33 - (d : Int) → d ≤ 32 → ∀ (σ : RS) (w : World), Env w b pr pv → RIn w b σ →
    Calls Tryd.prog 52 #[.int .i64 D, pp pr, pp pv] w fun e w' => ValP (J.value F d) b σ w e w' := by
  intro d
  induction d with
  | zero =>
    intro D hD _ σ w hE h
    refine val_walk b pr pv D 34 F hF none J.number J.Good.number σ w hE h ?_ ⟨fun _ => rfl, fun hd => absurd (by omega) hd⟩ ?_
    · rw [hD]; exact wrap_small (by omega)
    · intro σ' w' hE' h' hd
      obtain ⟨s, e, rfl⟩ := hd (by omega)
      exact val_dead _ b pr pv 34 s e w' hE' h'
  | succ d ih =>
    intro D hD hd σ w hE h
    refine val_walk b pr pv D (33 - (d : Int)) F hF (some (J.value F d)) (J.value F d) (J.Good.value (by omega) d) σ w hE h ?_ ⟨fun h9 => absurd h9 (by omega), fun _ => ⟨d, rfl, rfl⟩⟩ ?_
    · rw [hD, show (33 : Int) - ((d + 1 : Nat) : Int) + 1 = 33 - (d : Int) by omega]; exact wrap_small (by omega)
    · intro σ' w' hE' h' _
      exact ih _ rfl (by omega) σ' w' hE' h'
end Go.Proofs.YtcfalgomcdmdhaaDoor
