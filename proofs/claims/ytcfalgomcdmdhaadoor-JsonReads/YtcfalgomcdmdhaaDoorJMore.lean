/-
  The reader: what stands between items; names.
-/
import Derived.Test.YtcfalgomcdmdhaaDoorJCon
namespace Go.Proofs.YtcfalgomcdmdhaaDoor
open Go.RowKit Go.WideShapes Go.Joins

def endS (e : Nat) : ByteArray := oneS e
def commaS : ByteArray := ⟨#[44]⟩
theorem unit_then' {α : Type} {p : J.Rd Unit} (hp : J.Good p) (q : J.Rd α) (σ : RS) : goR (p.then fun _ => q) σ = goR q (goR p σ).1 := goR_thenV (q := fun _ => q) hp (V := ()) (fun _ _ => rfl)
/-- does a list or an object go on? -/
def moreR (e n : Nat) : J.Rd Bool := J.blanks.then fun _ => J.sw (fun c => if c = e then .take (J.Rd.pure false) else if n = 0 then .go (J.Rd.pure true)
  else if c = 44 then (if n = 1024 then .stop 4 else .take (J.Rd.pure true)) else .stop 160) (if n = 0 then .ok true [] else .bad 160 [])
def moreB (e n : Nat) : J.Rd Bool := J.sw (fun c => if c = e then .take (J.Rd.pure false) else if n = 0 then .go (J.Rd.pure true)
  else if c = 44 then (if n = 1024 then .stop 4 else .take (J.Rd.pure true)) else .stop 160) (if n = 0 then .ok true [] else .bad 160 [])
theorem moreR_is (e n : Nat) (σ : RS) : goR (moreR e n) σ = goR (moreB e n) (goR J.blanks σ).1 := unit_then' J.Good.blanks _ σ
theorem blanks_errs : Errs J.blanks := by
  intro l e r h
  unfold J.blanks J.skip at h
  cases h
theorem moreB_live (e n : Nat) (s : ByteArray) (i : Nat) (h : i < s.size) : goR (moreB e n) (.live s i) =
    if (numsOf s).getD i 0 = e then (.live s (i + 1), some false) else if n = 0 then (.live s i, some true)
    else if (numsOf s).getD i 0 = 44 then (if n = 1024 then (.dead (cutS s i) 4, none) else (.live s (i + 1), some true)) else (.dead (cutS s i) 160, none) := by
  unfold moreB
  rw [goR_sw _ _ h]
  by_cases h1 : (numsOf s).getD i 0 = e
  · simp only [h1, if_true]; exact goR_pure _ (by omega)
  simp only [h1, if_false]
  by_cases h2 : n = 0
  · simp only [h2, if_true]; exact goR_pure _ (by omega)
  simp only [h2, if_false]
  by_cases h3 : (numsOf s).getD i 0 = 44
  · simp only [h3, if_true]
    by_cases h4 : n = 1024
    · simp only [h4, if_true]
    · simp only [h4, if_false]; exact goR_pure _ (by omega)
  · simp only [h3, if_false]
theorem moreB_must (e n : Nat) {σ1 : RS} (ho : σ1.ok) (hne : ∀ s i, σ1 = .live s i → i < s.size → (numsOf s).getD i 0 ≠ e) (hn0 : n ≠ 0) (hn4 : n = 1024 → σ1.has commaS = false) :
    (goR (moreB e n) σ1).1 = σ1.must commaS ∧ (∀ v, (goR (moreB e n) σ1).2 = some v → σ1.has commaS = v) ∧ ((goR (moreB e n) σ1).2 = none → σ1.has commaS = false) := by
  cases σ1 with
  | dead s x => exact ⟨by simp [RS.must, has_dead, RS.refuse, goR_dead], fun v hv => (by cases hv), fun _ => has_dead _ _ _⟩
  | live s i =>
    have hc := has_iff s i commaS
    rw [show numsOf commaS = [44] from rfl, List.mem_singleton] at hc
    by_cases hi : i < s.size
    · have hb := moreB_live e n s i hi
      rw [if_neg (hne s i rfl hi), if_neg hn0] at hb
      by_cases h4 : (numsOf s).getD i 0 = 44
      · have hx := hc.2 ⟨hi, h4⟩
        rw [if_pos h4, if_neg (fun hq => by rw [hn4 hq] at hx; cases hx)] at hb
        rw [hb]
        unfold RS.must
        rw [hx, if_pos rfl]
        exact ⟨rfl, fun v hv => by cases hv; rfl, fun hv => by cases hv⟩
      · rw [if_neg h4] at hb
        have hx : (RS.live s i).has commaS = false := by
          cases hq : (RS.live s i).has commaS with
          | false => rfl
          | true => exact absurd (hc.1 hq).2 h4
        rw [hb]
        unfold RS.must
        rw [hx, if_neg (by decide)]
        exact ⟨rfl, fun v hv => (by cases hv), fun _ => rfl⟩
    · have hb : goR (moreB e n) (.live s i) = (.dead s 160, none) := by
        unfold moreB
        rw [if_neg hn0]
        exact goR_end _ hi
      have hx : (RS.live s i).has commaS = false := by
        cases hq : (RS.live s i).has commaS with
        | false => rfl
        | true => exact absurd (hc.1 hq).1 hi
      rw [hb]
      unfold RS.must
      rw [hx, if_neg (by decide)]
      have : i = s.size := by simp only [RS.ok] at ho; omega
      subst this
      exact ⟨by simp only [RS.refuse, cutS_all], fun v hv => (by cases hv), fun _ => rfl⟩

structure MoreP (b e n : Nat) (σ : RS) (w : World) (ed : Ending) (w' : World) : Prop where
  ex : ∃ B : Bool, ed = .returned (.bool B) ∧ (∀ v, (goR (moreR e n) σ).2 = some v → B = v) ∧ ((goR (moreR e n) σ).2 = none → B = decide (n = 0)) ∧ RIn w' b (goR (moreR e n) σ).1 ∧ w.grownBy w' (some b)
set_option maxHeartbeats 2000000 in
set_option maxRecDepth 4000 in
theorem more_any (b e n : Nat) (he : e < 256 ∧ e ≠ 44 ∧ e ≠ 0) (hn : n ≤ 1024) (σ : RS) (w : World) (h : RIn w b σ) :
    Calls Tryd.prog 59 #[rp b, .string (oneS e), .int .i64 (n : Int)] w fun ed w' => MoreP b e n σ w ed w' := by
  have Bk := blanks_any b σ w h
  have hG := moreR_is e n σ
  have ho : (goR J.blanks σ).1.ok := goR_ok blanks_errs h.ok
  generalize (goR J.blanks σ).1 = σ1 at Bk hG ho
  have HG : Hid (goR (moreR e n) σ = goR (moreB e n) σ1) := hG
  have S1 := fun w' (hw : RIn w' b σ1) => skip_any b σ1 (oneS e) w' hw
  have hos := oneS_nums he.1
  cases hh : σ1.has (oneS e) with
  | true =>
    simp only [hh, skip_yes hh] at S1
    have HE : Hid (goR (moreB e n) σ1 = (σ1.next, some false)) := by
      cases σ1 with
      | dead s x => rw [has_dead] at hh; cases hh
      | live s i =>
        have := (has_iff s i (oneS e)).1 hh
        rw [hos, List.mem_singleton] at this
        show _ = _
        rw [moreB_live e n s i this.1, if_pos this.2]; rfl
    clear hG h
    generalize oneS e = t at S1
    unfold rp at Bk S1 ⊢
    go_enter Tryd.func59, Tryd.ntmps59
    go_wp2_with (first | (go_at_call 82; refine (S1 _ h1).mono ?_; rintro e w2 ⟨rfl, h2, g2⟩) | (go_at_call 53; refine Bk.mono ?_; rintro e w1 ⟨rfl, h1, g1⟩) | fail)
    go_ret
    refine ⟨false, rfl, fun v hv => ?_, fun hv => ?_, ?_, grown_trans g1 g2⟩
    · rw [HG.out, HE.out] at hv; cases hv; rfl
    · rw [HG.out, HE.out] at hv; cases hv
    · rw [HG.out, HE.out]; exact h2
  | false =>
    simp only [hh, skip_no hh] at S1
    have hne : ∀ s i, σ1 = .live s i → i < s.size → (numsOf s).getD i 0 ≠ e := by
      rintro s i rfl hi heq
      have := (has_iff s i (oneS e)).2 ⟨hi, by rw [hos, List.mem_singleton]; exact heq⟩
      rw [this] at hh; cases hh
    by_cases hn0 : n = 0
    · subst hn0
      have HE : Hid ((goR (moreB e 0) σ1).1 = σ1 ∧ ∀ v, (goR (moreB e 0) σ1).2 = some v → v = true) := by
        cases σ1 with
        | dead s x => exact ⟨rfl, fun v hv => by cases hv⟩
        | live s i =>
          by_cases hi : i < s.size
          · refine ⟨?_, fun v hv => ?_⟩
            · rw [moreB_live e 0 s i hi, if_neg (hne s i rfl hi), if_pos rfl]
            · rw [moreB_live e 0 s i hi, if_neg (hne s i rfl hi), if_pos rfl] at hv
              cases hv; rfl
          · have := goR_endo (fun c => if c = e then .take (J.Rd.pure false) else if 0 = 0 then .go (J.Rd.pure true) else if c = 44 then (if 0 = 1024 then .stop 4 else .take (J.Rd.pure true)) else .stop 160) true hi ho
            have e2 : goR (moreB e 0) (.live s i) = (.live s i, some true) := this
            rw [e2]
            exact ⟨rfl, fun v hv => by cases hv; rfl⟩
      clear hG h hne
      generalize oneS e = t at S1
      unfold rp at Bk S1 ⊢
      go_enter Tryd.func59, Tryd.ntmps59
      go_wp2_with (first | (go_at_call 82; refine (S1 _ h1).mono ?_; rintro e w2 ⟨rfl, h2, g2⟩) | (go_at_call 53; refine Bk.mono ?_; rintro e w1 ⟨rfl, h1, g1⟩) | fail)
      go_ret
      refine ⟨true, rfl, fun v hv => ?_, fun hv => rfl, ?_, grown_trans g1 g2⟩
      · rw [HG.out] at hv; exact (HE.out.2 v hv).symm
      · rw [HG.out, HE.out.1]; exact h2
    · have hnI : ((n : Int) == 0) = false := by simpa using fun x : (n : Int) = 0 => hn0 (by omega)
      have M := fun w' σ' (hw : RIn w' b σ') => must_any b σ' commaS w' hw
      -- one way behind
      have fin : ∀ σ2 : RS, True := fun _ => trivial
      clear fin
      by_cases hn4 : n = 1024
      · subst hn4
        have P := fun w' (hw : RIn w' b σ1) => peek_any b σ1 w' hw
        by_cases hp : σ1.pk = 44
        · obtain ⟨s, i, e1, hi⟩ := pk_pos (σ := σ1) (by rw [hp]; decide)
          have hb := moreB_live e 1024 s i hi
          rw [if_neg (hne s i e1 hi), if_neg (by decide), if_pos (by rw [← pk_in s i hi, ← e1]; exact hp), if_pos rfl] at hb
          have HE : Hid (goR (moreB e 1024) σ1 = (σ1.refuse 4, none)) := by rw [e1]; exact hb
          have R := fun w' (hw : RIn w' b σ1) => refuse_any b σ1 4 ⟨by decide, by decide⟩ w' hw
          have HD : Hid (∃ s e, σ1.refuse 4 = .dead s e) := ⟨_, _, by rw [e1]; rfl⟩
          have M2 := fun w' (hw : RIn w' b (σ1.refuse 4)) => must_any b (σ1.refuse 4) commaS w' hw
          have hd : (σ1.refuse 4).has commaS = false ∧ (σ1.refuse 4).must commaS = σ1.refuse 4 := by
            obtain ⟨s', e', hq⟩ := HD.out
            rw [hq]
            exact ⟨has_dead _ _ _, by unfold RS.must; rw [has_dead]; rfl⟩
          simp only [hd.1, hd.2] at M2
          simp only [hp, show (((44 : Nat) : Int)) = 44 from rfl] at P
          clear hG h hne M hb hd hi e1 hp
          rw [show (((1024 : Nat) : Int)) = 1024 from rfl]
          generalize oneS e = t at S1
          generalize σ1.refuse 4 = σ2 at R M2 HE
          unfold rp at Bk S1 P R M2 ⊢
          unfold commaS at M2
          clear hn0 hnI
          go_enter Tryd.func59, Tryd.ntmps59
          go_wp2_with (first | (go_at_call 57; refine (M2 _ h4).mono ?_; rintro e w5 ⟨rfl, h5, g5⟩) | (go_at_call 62; refine (R _ h3).mono ?_; rintro e w4 ⟨rfl, h4, g4⟩) | (go_at_call 54; refine (P _ h2).mono ?_; rintro e w3 ⟨rfl, b3⟩; have h3 := h2.below b3) | (go_at_call 82; refine (S1 _ h1).mono ?_; rintro e w2 ⟨rfl, h2, g2⟩) | (go_at_call 53; refine Bk.mono ?_; rintro e w1 ⟨rfl, h1, g1⟩) | fail)
          go_ret
          refine ⟨false, rfl, fun v hv => ?_, fun hv => rfl, ?_, grown_trans (grown_trans (grown_trans (grown_trans g1 g2) (grown_below b3 _)) g4) g5⟩
          · rw [HG.out, HE.out] at hv; cases hv
          · rw [HG.out, HE.out]; exact h5
        · have hx : σ1.has commaS = false := by
            cases hq : σ1.has commaS with
            | false => rfl
            | true =>
              exfalso
              cases σ1 with
              | dead s x => rw [has_dead] at hq; cases hq
              | live s i =>
                have := (has_iff s i commaS).1 hq
                rw [show numsOf commaS = [44] from rfl, List.mem_singleton] at this
                exact hp (by rw [pk_in s i this.1]; exact this.2)
          have M1 := fun w' (hw : RIn w' b σ1) => must_any b σ1 commaS w' hw
          have HE : Hid ((goR (moreB e 1024) σ1).1 = σ1.must commaS ∧ (∀ v, (goR (moreB e 1024) σ1).2 = some v → σ1.has commaS = v) ∧ ((goR (moreB e 1024) σ1).2 = none → σ1.has commaS = false)) := moreB_must e 1024 ho hne (by decide) (fun _ => hx)
          have hpk := pk_lt σ1
          obtain ⟨k, hk⟩ : ∃ k, σ1.pk = k := ⟨_, rfl⟩
          rw [hk] at hp hpk
          simp only [hk] at P
          have hpI : ((k : Int) == 44) = false := by simpa using fun x : (k : Int) = 44 => hp (by omega)
          clear hG h hne M hx hp hk
          rw [show (((1024 : Nat) : Int)) = 1024 from rfl]
          generalize oneS e = t at S1
          generalize σ1.has commaS = B at M1 HE
          generalize σ1.must commaS = σ2 at M1 HE
          unfold rp at Bk S1 M1 P ⊢
          unfold commaS at M1
          clear hn0 hnI
          go_enter Tryd.func59, Tryd.ntmps59
          go_wp2_with (first | (go_at_call 57; refine (M1 _ h3).mono ?_; rintro e w4 ⟨rfl, h4, g4⟩) | (go_at_call 54; refine (P _ h2).mono ?_; rintro e w3 ⟨rfl, b3⟩; have h3 := h2.below b3) | (go_at_call 82; refine (S1 _ h1).mono ?_; rintro e w2 ⟨rfl, h2, g2⟩) | (go_at_call 53; refine Bk.mono ?_; rintro e w1 ⟨rfl, h1, g1⟩) | fail)
          go_ret
          refine ⟨B, rfl, fun v hv => ?_, fun hv => ?_, ?_, grown_trans (grown_trans (grown_trans g1 g2) (grown_below b3 _)) g4⟩
          · rw [HG.out] at hv; exact HE.out.2.1 v hv
          · rw [HG.out] at hv; rw [HE.out.2.2 hv]; rfl
          · rw [HG.out, HE.out.1]; exact h4
      · have hnJ : ((n : Int) == 1024) = false := by simpa using fun x : (n : Int) = 1024 => hn4 (by omega)
        have M1 := fun w' (hw : RIn w' b σ1) => must_any b σ1 commaS w' hw
        have HE : Hid ((goR (moreB e n) σ1).1 = σ1.must commaS ∧ (∀ v, (goR (moreB e n) σ1).2 = some v → σ1.has commaS = v) ∧ ((goR (moreB e n) σ1).2 = none → σ1.has commaS = false)) := moreB_must e n ho hne hn0 (fun hq => absurd hq hn4)
        clear hG h hne M
        have HN : Hid (n ≠ 0) := hn0
        generalize oneS e = t at S1
        generalize σ1.has commaS = B at M1 HE
        generalize σ1.must commaS = σ2 at M1 HE
        unfold rp at Bk S1 M1 ⊢
        unfold commaS at M1
        clear hn0 hn4
        go_enter Tryd.func59, Tryd.ntmps59
        go_wp2_with (first | (go_at_call 57; refine (M1 _ h2).mono ?_; rintro e w3 ⟨rfl, h3, g3⟩) | (go_at_call 82; refine (S1 _ h1).mono ?_; rintro e w2 ⟨rfl, h2, g2⟩) | (go_at_call 53; refine Bk.mono ?_; rintro e w1 ⟨rfl, h1, g1⟩) | fail)
        go_ret
        refine ⟨B, rfl, fun v hv => ?_, fun hv => ?_, ?_, grown_trans (grown_trans g1 g2) g3⟩
        · rw [HG.out] at hv; exact HE.out.2.1 v hv
        · rw [HG.out] at hv; rw [HE.out.2.2 hv, decide_eq_false HN.out]
        · rw [HG.out, HE.out.1]; exact h3
end Go.Proofs.YtcfalgomcdmdhaaDoor
