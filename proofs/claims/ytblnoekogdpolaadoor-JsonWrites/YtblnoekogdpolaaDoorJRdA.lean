import Derived.Test.YtblnoekogdpolaaDoorJSt
import Derived.Deep.LoopGhost
namespace Go.Proofs.YtblnoekogdpolaaDoor
open Go.RowKit Go.WideShapes Go.Joins
theorem has_step {f : Nat → Bool} {t : ByteArray} (hf : ∀ c, f c = true ↔ c ∈ numsOf t) {σ : RS} (h : σ.has t = true) : goR (J.skip f) σ = goR (J.skip f) σ.next := by
  cases σ with
  | dead s e => rfl
  | live s i =>
    obtain ⟨h1, h2⟩ := (has_iff s i t).1 h
    exact goR_skip f h1 ((hf _).2 h2)
theorem has_stop {f : Nat → Bool} {t : ByteArray} (hf : ∀ c, f c = true ↔ c ∈ numsOf t) {σ : RS} (ho : σ.ok) (h : σ.has t = false) : (goR (J.skip f) σ).1 = σ := by
  cases σ with
  | dead s e => rfl
  | live s i =>
    rw [goR_skip_stop f ho]
    intro hi
    cases hx : f ((numsOf s).getD i 0) with
    | false => rfl
    | true => rw [(has_iff s i t).2 ⟨hi, (hf _).1 hx⟩] at h; cases h
def digitS : ByteArray := ⟨#[48, 49, 50, 51, 52, 53, 54, 55, 56, 57]⟩
theorem isDig_iff (c : Nat) : J.isDig c = true ↔ c ∈ numsOf digitS := by
  have : numsOf digitS = [48, 49, 50, 51, 52, 53, 54, 55, 56, 57] := rfl
  rw [this]
  simp only [J.isDig, Bool.and_eq_true, decide_eq_true_eq, List.mem_cons, List.not_mem_nil, or_false]
  omega
def RS.left (σ : RS) : Nat := σ.s.size - σ.i
theorem left_next {σ : RS} {t : ByteArray} (h : σ.has t = true) : σ.next.left < σ.left := by
  cases σ with
  | dead s e => rw [has_dead] at h; cases h
  | live s i =>
    obtain ⟨h1, _⟩ := (has_iff s i t).1 h
    simp only [RS.left, RS.next, RS.s, RS.i]
    omega
inductive SkipI (f : Nat → Bool) (σ0 : RS) (b : Nat) (w : World) (gk : Nat) (wr : World) : Prop where
  | intro (σ : RS) (hr : RIn wr b σ) (he : (goR (J.skip f) σ).1 = (goR (J.skip f) σ0).1) (hm : σ.left ≤ gk) (hg : w.grownBy wr (some b))
theorem must_dig (σ : RS) (ho : σ.ok) : (goR J.digits σ).1 = (goR (J.skip J.isDig) (σ.must digitS)).1 := by
  cases σ with
  | dead s e => simp [RS.must, has_dead, RS.refuse, goR_dead]
  | live s i =>
    unfold J.digits
    by_cases hi : i < s.size
    · have hn : goR (J.need 48 57) (.live s i) = if J.isDig ((numsOf s).getD i 0) = true then (.live s (i + 1), some ((numsOf s).getD i 0)) else (.dead (cutS s i) 160, none) := by
        unfold J.need
        rw [goR_sw _ _ hi]
        by_cases hd : J.isDig ((numsOf s).getD i 0) = true
        · have : 48 ≤ (numsOf s).getD i 0 ∧ (numsOf s).getD i 0 ≤ 57 := by simpa [J.isDig] using hd
          rw [if_pos hd]
          simp only [this, and_self, if_true]
          exact goR_pure _ (by omega)
        · have : ¬ (48 ≤ (numsOf s).getD i 0 ∧ (numsOf s).getD i 0 ≤ 57) := by simpa [J.isDig] using hd
          rw [if_neg hd]
          simp only [this, if_false]
      by_cases hd : J.isDig ((numsOf s).getD i 0) = true
      · rw [if_pos hd] at hn
        rw [goR_some (J.Good.need _ _) hn]
        unfold RS.must
        rw [(has_iff s i digitS).2 ⟨hi, (isDig_iff _).1 hd⟩, if_pos rfl]
        rfl
      · rw [if_neg hd] at hn
        rw [goR_none (J.Good.need _ _) hn]
        unfold RS.must
        rw [if_neg (fun h => hd ((isDig_iff _).2 ((has_iff s i digitS).1 h).2))]
        rfl
    · have hn : goR (J.need 48 57) (.live s i) = (.dead s 160, none) := goR_end _ hi
      rw [goR_none (J.Good.need _ _) hn]
      unfold RS.must
      rw [if_neg (fun h => hi ((has_iff s i digitS).1 h).1)]
      have : i = s.size := by simp only [RS.ok] at ho; omega
      subst this
      simp only [RS.refuse, cutS_all, goR_dead]
theorem digits_any (b : Nat) (σ : RS) (w : World) (h : RIn w b σ) : Calls Tryd.prog 86 #[rp b] w fun e w' => e = .returned (.tuple #[]) ∧ RIn w' b (goR J.digits σ).1 ∧ w.grownBy w' (some b) := by
  rw [must_dig σ h.ok]
  have M := must_any b σ digitS w h
  generalize σ.must digitS = σm at M
  generalize σ.has digitS = B at M
  unfold digitS rp at M
  clear h
  unfold rp
  go_enter Tryd.func86, Tryd.ntmps86
  go_wp2_with (go_at_call 57; refine M.mono ?_; rintro e w0 ⟨rfl, h0, g0⟩)
  clear M
  go_loopg [] σm.left (fun gk wr => SkipI J.isDig σm b w gk wr)
  case atStart => exact ⟨σm, h0, rfl, Nat.le_refl _, g0⟩
  case round =>
    clear h0 g0
    obtain ⟨σ1, hr, he, hm, hg⟩ := hrel
    have S := skip_any b σ1 digitS wr hr
    unfold rp at S
    cases hh : σ1.has digitS with
    | true =>
      have ht : σ1.skip digitS = σ1.next := by unfold RS.skip; rw [hh, if_pos rfl]
      rw [hh, ht] at S
      have e2 : Hid ((goR (J.skip J.isDig) σ1.next).1 = (goR (J.skip J.isDig) σm).1 ∧ σ1.next.left < σ1.left ∧ σ1.left ≤ gk ∧ w.grownBy wr (some b)) :=
        ⟨by rw [← has_step isDig_iff hh]; exact he, left_next hh, hm, hg⟩
      unfold digitS at S
      clear hr he hm hg hh ht
      go_wp2_with (go_at_call 82; refine S.mono ?_; rintro e w1 ⟨rfl, h1, g1⟩)
      go_roundg (gk - 1)
      case measure => have := e2.out; omega
      case rel => exact ⟨σ1.next, h1, e2.out.1, by have := e2.out; omega, grown_trans e2.out.2.2.2 g1⟩
    | false =>
      have ht : σ1.skip digitS = σ1 := by unfold RS.skip; rw [hh, if_neg (by decide)]
      rw [hh, ht] at S
      have e2 : Hid ((goR (J.skip J.isDig) σm).1 = σ1 ∧ w.grownBy wr (some b)) := ⟨by rw [← he]; exact has_stop isDig_iff hr.ok hh, hg⟩
      unfold digitS at S
      clear hr he hm hg hh ht
      go_wp2_with (go_at_call 82; refine S.mono ?_; rintro e w1 ⟨rfl, h1, g1⟩)
      go_end0
      rw [e2.out.1]
      exact ⟨rfl, h1, grown_trans e2.out.2 g1⟩
def oneS (c : Nat) : ByteArray := strOf [c]
theorem oneS_nums {c : Nat} (h : c < 256) : numsOf (oneS c) = [c] := nums_strOf (by simpa using h)
end Go.Proofs.YtblnoekogdpolaaDoor
