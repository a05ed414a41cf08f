/-
  The reader: blanks, words, digits, the bracket that begins.
-/
import Derived.Test.YtcfalgomcdmdhaaDoorJSt
import Derived.Deep.LoopGhost
namespace Go.Proofs.YtcfalgomcdmdhaaDoor
open Go.RowKit Go.WideShapes Go.Joins

theorem next_ok {w : World} {b : Nat} {σ : RS} (t : ByteArray) (h : RIn w b σ) (ht : σ.has t = true) : ∃ s i, σ = .live s i ∧ i < s.size ∧ (numsOf s).getD i 0 ∈ numsOf t := by
  cases σ with
  | dead s e => rw [has_dead] at ht; cases ht
  | live s i => exact ⟨s, i, rfl, (has_iff s i t).1 ht⟩
theorem has_step {f : Nat → Bool} {t : ByteArray} (hf : ∀ c, f c = true ↔ c ∈ numsOf t) {σ : RS} (h : σ.has t = true) : goR (J.skip f) σ = goR (J.skip f) σ.next := by
  cases σ with
  | dead s e => rfl
  | live s i =>
    obtain ⟨h1, h2⟩ := (has_iff s i t).1 h
    exact goR_skip f h1 ((hf _).2 h2)
theorem has_stop {f : Nat → Bool} {t : ByteArray} (hf : ∀ c, f c = true ↔ c ∈ numsOf t) {σ : RS} (ho : σ.ok) (h : σ.has t = false) : (goR (J.skip f) σ).1 = σ := by
  cases σ with
  | dead s e => rfl
  | live s i =>
    rw [goR_skip_stop f ho]
    intro hi
    cases hx : f ((numsOf s).getD i 0) with
    | false => rfl
    | true => rw [(has_iff s i t).2 ⟨hi, (hf _).1 hx⟩] at h; cases h
def blankS : ByteArray := ⟨#[9, 10, 13, 32]⟩
def digitS : ByteArray := ⟨#[48, 49, 50, 51, 52, 53, 54, 55, 56, 57]⟩
theorem isBlank_iff (c : Nat) : J.isBlank c = true ↔ c ∈ numsOf blankS := by
  have : numsOf blankS = [9, 10, 13, 32] := rfl
  rw [this]
  simp only [J.isBlank, Bool.or_eq_true, decide_eq_true_eq, List.mem_cons, List.not_mem_nil, or_false]
  omega
theorem isDig_iff (c : Nat) : J.isDig c = true ↔ c ∈ numsOf digitS := by
  have : numsOf digitS = [48, 49, 50, 51, 52, 53, 54, 55, 56, 57] := rfl
  rw [this]
  simp only [J.isDig, Bool.and_eq_true, decide_eq_true_eq, List.mem_cons, List.not_mem_nil, or_false]
  omega
/-- what is left to read -/
def RS.left (σ : RS) : Nat := σ.s.size - σ.i
theorem left_next {σ : RS} {t : ByteArray} (h : σ.has t = true) : σ.next.left < σ.left := by
  cases σ with
  | dead s e => rw [has_dead] at h; cases h
  | live s i =>
    obtain ⟨h1, _⟩ := (has_iff s i t).1 h
    simp only [RS.left, RS.next, RS.s, RS.i]
    omega
/-- Between the bytes that are gone over. -/
inductive SkipI (f : Nat → Bool) (σ0 : RS) (b : Nat) (w : World) (gk : Nat) (wr : World) : Prop where
  | intro (σ : RS) (hr : RIn wr b σ) (he : (goR (J.skip f) σ).1 = (goR (J.skip f) σ0).1) (hm : σ.left ≤ gk) (hg : w.grownBy wr (some b))
theorem blanks_any (b : Nat) (σ : RS) (w : World) (h : RIn w b σ) : Calls Tryd.prog 53 #[rp b] w fun e w' => e = .returned (.tuple #[]) ∧ RIn w' b (goR J.blanks σ).1 ∧ w.grownBy w' (some b) := by
  unfold rp
  go_enter Tryd.func53, Tryd.ntmps53
  go_wp2_with fail
  go_loopg [] σ.left (fun gk wr => SkipI J.isBlank σ b w gk wr)
  case atStart => exact ⟨σ, h, rfl, Nat.le_refl _, grown_refl _ _⟩
  case round =>
    obtain ⟨σ1, hr, he, hm, hg⟩ := hrel
    have S := skip_any b σ1 blankS wr hr
    unfold rp at S
    cases hh : σ1.has blankS with
    | true =>
      have ht : σ1.skip blankS = σ1.next := by unfold RS.skip; rw [hh, if_pos rfl]
      rw [hh, ht] at S
      have e2 : Hid ((goR (J.skip J.isBlank) σ1.next).1 = (goR (J.skip J.isBlank) σ).1 ∧ σ1.next.left < σ1.left ∧ σ1.left ≤ gk ∧ w.grownBy wr (some b)) :=
        ⟨by rw [← has_step isBlank_iff hh]; exact he, left_next hh, hm, hg⟩
      unfold blankS at S
      clear hr he hm hg hh ht h
      go_wp2_with (go_at_call 82; refine S.mono ?_; rintro e w1 ⟨rfl, h1, g1⟩)
      go_roundg (gk - 1)
      case measure => have := e2.out; omega
      case rel => exact ⟨σ1.next, h1, e2.out.1, by have := e2.out; omega, grown_trans e2.out.2.2.2 g1⟩
    | false =>
      have ht : σ1.skip blankS = σ1 := by unfold RS.skip; rw [hh, if_neg (by decide)]
      rw [hh, ht] at S
      have e2 : Hid ((goR J.blanks σ).1 = σ1 ∧ w.grownBy wr (some b)) := ⟨by rw [show J.blanks = J.skip J.isBlank from rfl, ← he]; exact has_stop isBlank_iff hr.ok hh, hg⟩
      unfold blankS at S
      clear hr he hm hg hh ht h
      go_wp2_with (go_at_call 82; refine S.mono ?_; rintro e w1 ⟨rfl, h1, g1⟩)
      go_end0
      rw [e2.out.1]
      exact ⟨rfl, h1, grown_trans e2.out.2 g1⟩
theorem must_dig (σ : RS) (ho : σ.ok) : (goR J.digits σ).1 = (goR (J.skip J.isDig) (σ.must digitS)).1 := by
  cases σ with
  | dead s e => simp [RS.must, has_dead, RS.refuse, goR_dead]
  | live s i =>
    unfold J.digits
    by_cases hi : i < s.size
    · have hn : goR (J.need 48 57) (.live s i) = if J.isDig ((numsOf s).getD i 0) = true then (.live s (i + 1), some ((numsOf s).getD i 0)) else (.dead (cutS s i) 160, none) := by
        unfold J.need
        rw [goR_sw _ _ hi]
        by_cases hd : J.isDig ((numsOf s).getD i 0) = true
        · have : 48 ≤ (numsOf s).getD i 0 ∧ (numsOf s).getD i 0 ≤ 57 := by simpa [J.isDig] using hd
          rw [if_pos hd]
          simp only [this, and_self, if_true]
          exact goR_pure _ (by omega)
        · have : ¬ (48 ≤ (numsOf s).getD i 0 ∧ (numsOf s).getD i 0 ≤ 57) := by simpa [J.isDig] using hd
          rw [if_neg hd]
          simp only [this, if_false]
      by_cases hd : J.isDig ((numsOf s).getD i 0) = true
      · rw [if_pos hd] at hn
        rw [goR_some (J.Good.need _ _) hn]
        unfold RS.must
        rw [(has_iff s i digitS).2 ⟨hi, (isDig_iff _).1 hd⟩, if_pos rfl]
        rfl
      · rw [if_neg hd] at hn
        rw [goR_none (J.Good.need _ _) hn]
        unfold RS.must
        rw [if_neg (fun h => hd ((isDig_iff _).2 ((has_iff s i digitS).1 h).2))]
        rfl
    · have hn : goR (J.need 48 57) (.live s i) = (.dead s 160, none) := goR_end _ hi
      rw [goR_none (J.Good.need _ _) hn]
      unfold RS.must
      rw [if_neg (fun h => hi ((has_iff s i digitS).1 h).1)]
      have : i = s.size := by simp only [RS.ok] at ho; omega
      subst this
      simp only [RS.refuse, cutS_all, goR_dead]
theorem digits_any (b : Nat) (σ : RS) (w : World) (h : RIn w b σ) : Calls Tryd.prog 86 #[rp b] w fun e w' => e = .returned (.tuple #[]) ∧ RIn w' b (goR J.digits σ).1 ∧ w.grownBy w' (some b) := by
  rw [must_dig σ h.ok]
  have M := must_any b σ digitS w h
  generalize σ.must digitS = σm at M
  generalize σ.has digitS = B at M
  unfold digitS rp at M
  clear h
  unfold rp
  go_enter Tryd.func86, Tryd.ntmps86
  go_wp2_with (go_at_call 57; refine M.mono ?_; rintro e w0 ⟨rfl, h0, g0⟩)
  clear M
  go_loopg [] σm.left (fun gk wr => SkipI J.isDig σm b w gk wr)
  case atStart => exact ⟨σm, h0, rfl, Nat.le_refl _, g0⟩
  case round =>
    clear h0 g0
    obtain ⟨σ1, hr, he, hm, hg⟩ := hrel
    have S := skip_any b σ1 digitS wr hr
    unfold rp at S
    cases hh : σ1.has digitS with
    | true =>
      have ht : σ1.skip digitS = σ1.next := by unfold RS.skip; rw [hh, if_pos rfl]
      rw [hh, ht] at S
      have e2 : Hid ((goR (J.skip J.isDig) σ1.next).1 = (goR (J.skip J.isDig) σm).1 ∧ σ1.next.left < σ1.left ∧ σ1.left ≤ gk ∧ w.grownBy wr (some b)) :=
        ⟨by rw [← has_step isDig_iff hh]; exact he, left_next hh, hm, hg⟩
      unfold digitS at S
      clear hr he hm hg hh ht
      go_wp2_with (go_at_call 82; refine S.mono ?_; rintro e w1 ⟨rfl, h1, g1⟩)
      go_roundg (gk - 1)
      case measure => have := e2.out; omega
      case rel => exact ⟨σ1.next, h1, e2.out.1, by have := e2.out; omega, grown_trans e2.out.2.2.2 g1⟩
    | false =>
      have ht : σ1.skip digitS = σ1 := by unfold RS.skip; rw [hh, if_neg (by decide)]
      rw [hh, ht] at S
      have e2 : Hid ((goR (J.skip J.isDig) σm).1 = σ1 ∧ w.grownBy wr (some b)) := ⟨by rw [← he]; exact has_stop isDig_iff hr.ok hh, hg⟩
      unfold digitS at S
      clear hr he hm hg hh ht
      go_wp2_with (go_at_call 82; refine S.mono ?_; rintro e w1 ⟨rfl, h1, g1⟩)
      go_end0
      rw [e2.out.1]
      exact ⟨rfl, h1, grown_trans e2.out.2 g1⟩
/-- one byte -/
def oneS (c : Nat) : ByteArray := strOf [c]
theorem oneS_nums {c : Nat} (h : c < 256) : numsOf (oneS c) = [c] := nums_strOf (by simpa using h)
theorem word_step (c : Nat) (hc : c < 256) (u : List Nat) (σ : RS) (ho : σ.ok) : (goR (J.word (c :: u)) σ).1 = (goR (J.word u) (σ.must (oneS c))).1 := by
  cases σ with
  | dead s e => simp [RS.must, has_dead, RS.refuse, goR_dead]
  | live s i =>
    show (goR ((J.need c c).then fun _ => J.word u) (.live s i)).1 = _
    have hx := has_iff s i (oneS c)
    rw [oneS_nums hc, List.mem_singleton] at hx
    unfold RS.must
    by_cases hi : i < s.size
    · by_cases hd : (numsOf s).getD i 0 = c
      · have hn : goR (J.need c c) (.live s i) = (.live s (i + 1), some ((numsOf s).getD i 0)) := by
          unfold J.need
          rw [goR_sw _ _ hi]
          simp only [hd, Nat.le_refl, and_self, if_true]
          exact goR_pure _ (by omega)
        rw [goR_some (J.Good.need _ _) hn, hx.2 ⟨hi, hd⟩, if_pos rfl]
        rfl
      · have hn : goR (J.need c c) (.live s i) = (.dead (cutS s i) 160, none) := by
          unfold J.need
          rw [goR_sw _ _ hi, if_neg (by omega)]
        rw [goR_none (J.Good.need _ _) hn, if_neg (fun h => hd (hx.1 h).2)]
        rfl
    · have hn : goR (J.need c c) (.live s i) = (.dead s 160, none) := goR_end _ hi
      rw [goR_none (J.Good.need _ _) hn, if_neg (fun h => hi (hx.1 h).1)]
      have : i = s.size := by simp only [RS.ok] at ho; omega
      subst this
      simp only [RS.refuse, cutS_all, goR_dead]
/-- Between the bytes of a word. -/
inductive WordI (u : List Nat) (σ0 : RS) (b : Nat) (w : World) (t : Value) (wr : World) : Prop where
  | intro (k : Nat) (hk : k ≤ u.length) (ht : t = .int .i64 (k : Int)) (σ : RS) (hr : RIn wr b σ) (he : (goR (J.word (u.drop k)) σ).1 = (goR (J.word u) σ0).1) (hg : w.grownBy wr (some b))
theorem cut_one (s : ByteArray) (k : Nat) (h : k < s.size) : s.extract k (k + 1) = oneS ((numsOf s).getD k 0) := by
  have h2 : k < (numsOf s).length := by rw [numsOf_len]; exact h
  have hlt : (numsOf s).getD k 0 < 256 := numsOf_lt s _ (by rw [List.getD_eq_getElem?_getD, List.getElem?_eq_getElem h2]; exact List.getElem_mem _)
  apply numsOf_inj
  rw [oneS_nums hlt]
  unfold numsOf
  rw [List.getD_eq_getElem?_getD]
  have h3 : k < s.data.toList.length := by simpa [numsOf] using h2
  rw [List.getElem?_eq_getElem (by simpa using h3)]
  simp only [ByteArray.data_extract, Array.toList_extract, List.extract_eq_take_drop, Option.getD_some, List.getElem_map]
  rw [show k + 1 - k = 1 by omega, List.drop_eq_getElem_cons h3]
  rfl
set_option maxHeartbeats 1000000 in
theorem word_any (b : Nat) (σ : RS) (u : ByteArray) (hu : u.size ≤ 100) (w : World) (h : RIn w b σ) : Calls Tryd.prog 55 #[rp b, .string u] w fun e w' => e = .returned (.tuple #[]) ∧ RIn w' b (goR (J.word (numsOf u)) σ).1 ∧ w.grownBy w' (some b) := by
  have hl := numsOf_len u
  unfold rp
  go_enter Tryd.func55, Tryd.ntmps55
  go_wp2_with fail
  go_loopw [7] (fun t wr => WordI (numsOf u) σ b w t wr) (fun t _ => u.size - (intOf t).toNat)
  case atStart => exact ⟨0, by omega, rfl, σ, h, rfl, grown_refl _ _⟩
  case round =>
    clear h
    obtain ⟨k, hk, rfl, σ1, hr, he, hg⟩ := hrel
    by_cases hlt : k < u.size
    · have hkI : (k : Int) < (u.size : Int) := by omega
      have hx := cut_one u k hlt
      have hc256 : (numsOf u).getD k 0 < 256 := numsOf_lt u _ (by rw [List.getD_eq_getElem?_getD, List.getElem?_eq_getElem (by omega)]; exact List.getElem_mem _)
      have hd : (numsOf u).drop k = (numsOf u).getD k 0 :: (numsOf u).drop (k + 1) := by
        rw [List.drop_eq_getElem_cons (by omega), List.getD_eq_getElem?_getD, List.getElem?_eq_getElem (by omega)]; rfl
      have ws := word_step _ hc256 ((numsOf u).drop (k + 1)) σ1 hr.ok
      rw [← hd] at ws
      have M := must_any b σ1 (oneS ((numsOf u).getD k 0)) wr hr
      have HH : Hid (k + 1 ≤ (numsOf u).length ∧ (goR (J.word ((numsOf u).drop (k + 1))) (σ1.must (oneS ((numsOf u).getD k 0)))).1 = (goR (J.word (numsOf u)) σ).1 ∧ w.grownBy wr (some b) ∧ k < u.size ∧ u.size ≤ 100) :=
        ⟨by omega, by rw [← ws]; exact he, hg, hlt, hu⟩
      generalize σ1.must (oneS ((numsOf u).getD k 0)) = σ2 at M HH
      generalize oneS ((numsOf u).getD k 0) = c at M hx
      generalize σ1.has c = B at M
      unfold rp at M
      have hk1 : (0 : Int) ≤ (k : Int) := by omega
      clear hr he hg hd ws hc256 hk hl
      go_wp2_with (go_at_call 57; refine M.mono ?_; rintro e w1 ⟨rfl, h1, g1⟩)
      go_roundw
      case rel =>
        have H := HH.out
        exact ⟨k + 1, H.1, by rw [Int.natCast_add]; rfl, σ2, h1, H.2.1, grown_trans H.2.2.1 g1⟩
      case measure => have H := HH.out; simp [intOf]; omega
    · obtain rfl : k = u.size := by omega
      have e2 : Hid (RIn wr b (goR (J.word (numsOf u)) σ).1 ∧ w.grownBy wr (some b)) := by
        refine ⟨?_, hg⟩
        rw [← he, ← hl, List.drop_length]
        cases σ1 with
        | dead s e => exact hr
        | live s i => rw [show J.word [] = J.Rd.pure () from rfl, goR_pure _ hr.ok]; exact hr
      clear hr he hg
      go_wp2
      go_end0
      exact ⟨rfl, e2.out.1, e2.out.2⟩
/-- the bracket that begins, where it may -/
theorem enter_any (b : Nat) (s : ByteArray) (i : Nat) (d : Int) (hi : i < s.size) (w : World) (h : RIn w b (.live s i)) :
    Calls Tryd.prog 58 #[rp b, .int .i64 d] w fun e w' => e = .returned (.tuple #[]) ∧ RIn w' b (if 32 < d then .dead (cutS s i) 161 else .live s (i + 1)) ∧ w.grownBy w' (some b) := by
  by_cases hd : 32 < d
  · rw [if_pos hd]
    have P := refuse_any b (.live s i) 161 ⟨by decide, by decide⟩ w h
    unfold rp at P ⊢
    clear h
    go_enter Tryd.func58, Tryd.ntmps58
    go_wp2_with (go_at_call 62; refine P.mono ?_; rintro e w1 ⟨rfl, h1, g1⟩)
    (try simp only [Exit.inBlock, Exit.then])
    refine bodyPost_ret (results_none rfl _ _ _) rfl ?_
    exact ⟨rfl, h1, g1⟩
  · rw [if_neg hd]
    have c1 := h.c1
    have f1 := h.fz 1
    have hs := h.step hi
    have hz := h.sz
    simp only [RS.i, RS.s] at c1 hz
    obtain ⟨I, hI⟩ : ∃ I : Int, (i : Int) = I := ⟨_, rfl⟩
    have hi0 : 0 ≤ I := by omega
    have hi1 : I < 1000000 := by omega
    rw [hI] at c1 hs
    have HS : Hid (RIn (w.setCell ⟨b, 1, none⟩ (.int .i64 (I + 1))) b (.live s (i + 1))) := hs
    unfold rp
    clear h hI hs hz hi
    have hdn : d ≤ 32 := by omega
    go_enter Tryd.func58, Tryd.ntmps58
    go_wp2
    go_end0
    exact ⟨rfl, HS.out, grown_set _ _ _ _⟩
end Go.Proofs.YtcfalgomcdmdhaaDoor
