/-
  The reader: sixteens, characters told by them.
-/
import Derived.Test.YtcfalgomcdmdhaaDoorJRdA
namespace Go.Proofs.YtcfalgomcdmdhaaDoor
open Go.RowKit Go.WideShapes Go.Joins

theorem pk_in (s : ByteArray) (i : Nat) (h : i < s.size) : (RS.live s i).pk = (numsOf s).getD i 0 := by
  unfold RS.pk; rw [if_pos (show (RS.live s i).i < (RS.live s i).s.size from h)]; rfl
theorem pk_out (s : ByteArray) (i : Nat) (h : ¬ i < s.size) : (RS.live s i).pk = 0 := by
  unfold RS.pk; rw [if_neg (show ¬ (RS.live s i).i < (RS.live s i).s.size from h)]
theorem pk_dead (s : ByteArray) (e : Nat) : (RS.dead s e).pk = 0 := by
  unfold RS.pk; exact if_neg (Nat.lt_irrefl _)
theorem pk_pos {σ : RS} (h : σ.pk ≠ 0) : ∃ s i, σ = .live s i ∧ i < s.size := by
  cases σ with
  | dead s e => exact absurd (pk_dead s e) h
  | live s i =>
    by_cases hi : i < s.size
    · exact ⟨s, i, rfl, hi⟩
    · exact absurd (pk_out s i hi) h
/-- what a switch over the next byte makes of a refusal -/
theorem sw_stop {α : Type} {f : Nat → J.Act α} {σ : RS} (ho : σ.ok) (h : ∀ s i, σ = .live s i → i < s.size → f σ.pk = .stop 160) : goR (J.sw f (.bad 160 [])) σ = (σ.refuse 160, none) := by
  cases σ with
  | dead s e => rfl
  | live s i =>
    by_cases hi : i < s.size
    · have := h s i rfl hi
      rw [pk_in s i hi] at this
      rw [goR_sw f _ hi, this]; rfl
    · rw [goR_end f hi]
      have : i = s.size := by simp only [RS.ok] at ho; omega
      subst this
      simp only [RS.refuse, cutS_all]
theorem sw_take {α : Type} {f : Nat → J.Act α} {z : J.Res α} {σ : RS} {q : J.Rd α} (hp : σ.pk ≠ 0) (h : f σ.pk = .take q) : goR (J.sw f z) σ = goR q σ.next := by
  obtain ⟨s, i, rfl, hi⟩ := pk_pos hp
  rw [pk_in s i hi] at h
  rw [goR_sw f _ hi, h]; rfl
theorem sw_go {α : Type} {f : Nat → J.Act α} {z : J.Res α} {σ : RS} {q : J.Rd α} (hp : σ.pk ≠ 0) (h : f σ.pk = .go q) : goR (J.sw f z) σ = goR q σ := by
  obtain ⟨s, i, rfl, hi⟩ := pk_pos hp
  rw [pk_in s i hi] at h
  rw [goR_sw f _ hi, h]
theorem pure_next {α : Type} (v : α) {σ : RS} (hp : σ.pk ≠ 0) : goR (J.Rd.pure v) σ.next = (σ.next, some v) := by
  obtain ⟨s, i, rfl, hi⟩ := pk_pos hp
  exact goR_pure v (by omega)
theorem sixteen_yes {lo hi x : Nat} {σ : RS} (h : J.hexW σ.pk = some x) (hr : lo ≤ x ∧ x ≤ hi) : goR (J.sixteen lo hi) σ = (σ.next, some x) := by
  have hp : σ.pk ≠ 0 := by intro e; rw [e] at h; simp [J.hexW] at h
  unfold J.sixteen
  rw [sw_take hp (q := J.Rd.pure x) (by simp only [h, hr, and_self, if_true]), pure_next x hp]
theorem sixteen_no {lo hi : Nat} {σ : RS} (ho : σ.ok) (h : ∀ x, J.hexW σ.pk = some x → ¬ (lo ≤ x ∧ x ≤ hi)) : goR (J.sixteen lo hi) σ = (σ.refuse 160, none) := by
  unfold J.sixteen
  refine sw_stop ho fun s i _ _ => ?_
  cases hx : J.hexW σ.pk with
  | none => rfl
  | some x => simp only [h x hx, if_false]
/-- a sixteen's worth as the program has it -/
def hexI (c : Nat) : Int := match J.hexW c with | some x => (x : Int) | none => -1
theorem RIn.step' {w : World} {b : Nat} {σ : RS} (h : RIn w b σ) (hp : σ.pk ≠ 0) : RIn (w.setCell ⟨b, 1, none⟩ (.int .i64 ((σ.i : Int) + 1))) b σ.next := by
  obtain ⟨s, i, rfl, hi⟩ := pk_pos hp
  exact h.step hi
set_option maxHeartbeats 1000000 in
set_option maxRecDepth 4000 in
theorem sixteen_any (b : Nat) (σ : RS) (lo hi : Nat) (hl : lo ≤ 15 ∧ hi ≤ 15) (w : World) (h : RIn w b σ) :
    Calls Tryd.prog 118 #[rp b, .int .i32 (lo : Int), .int .i32 (hi : Int)] w fun e w' => e = .returned (.int .i32 (((goR (J.sixteen lo hi) σ).2.getD 0 : Nat) : Int)) ∧ RIn w' b (goR (J.sixteen lo hi) σ).1 ∧ w.grownBy w' (some b) := by
  have P := peek_any b σ w h
  have hc := pk_lt σ
  have HO : ∀ w', Below w.heap.size w w' → RIn w' b σ := fun w' hb => h.below hb
  have HF : ∀ w', Below w.heap.size w w' → Calls Tryd.prog 62 #[rp b, .int .i64 160] w' fun e w'' => e = .returned (.tuple #[]) ∧ RIn w'' b (σ.refuse 160) ∧ w'.grownBy w'' (some b) :=
    fun w' hb => refuse_any b σ 160 ⟨by decide, by decide⟩ w' (h.below hb)
  have HS : ∀ w', Below w.heap.size w w' → σ.pk ≠ 0 → RIn (w'.setCell ⟨b, 1, none⟩ (.int .i64 ((σ.i : Int) + 1))) b σ.next := fun w' hb hp => (h.below hb).step' hp
  have hsz : σ.i ≤ 16384 := Nat.le_trans h.le h.sz
  have HY : ∀ x, J.hexW σ.pk = some x → lo ≤ x ∧ x ≤ hi → goR (J.sixteen lo hi) σ = (σ.next, some x) := fun x hx hr => sixteen_yes hx hr
  have HN : (∀ x, J.hexW σ.pk = some x → ¬ (lo ≤ x ∧ x ≤ hi)) → goR (J.sixteen lo hi) σ = (σ.refuse 160, none) := sixteen_no h.ok
  obtain ⟨c, hcc⟩ : ∃ c, σ.pk = c := ⟨_, rfl⟩
  rw [hcc] at P HY HN hc HS
  clear hcc h
  obtain ⟨ii, hii⟩ : ∃ ii : Int, (σ.i : Int) = ii := ⟨_, rfl⟩
  have i0 : 0 ≤ ii := by omega
  have i1 : ii < 1000000 := by omega
  rw [hii] at HS
  have HC1 : ∀ w', Below w.heap.size w w' → w'.cell? ⟨b, 1, none⟩ = some (.int .i64 ii) ∧ w'.frozen? ⟨b, 1, none⟩ = false := fun w' hb => by
    have := HO w' hb
    exact ⟨by rw [← hii]; exact this.c1, this.fz 1⟩
  clear hii hsz
  obtain ⟨I, hI⟩ : ∃ I : Int, (c : Int) = I := ⟨_, rfl⟩
  obtain ⟨L, hL⟩ : ∃ L : Int, (lo : Int) = L := ⟨_, rfl⟩
  obtain ⟨M, hM⟩ : ∃ M : Int, (hi : Int) = M := ⟨_, rfl⟩
  have I0 : 0 ≤ I := by omega
  have I1 : I < 256 := by omega
  have L0 : 0 ≤ L := by omega
  have L1 : L ≤ 15 := by omega
  have M0 : 0 ≤ M := by omega
  have M1 : M ≤ 15 := by omega
  rw [hI] at P
  rw [hL, hM]
  unfold rp at P HF ⊢
  by_cases a1 : 48 ≤ I ∧ I ≤ 57
  · obtain ⟨x1, x2⟩ := a1
    have hw : J.hexW c = some (c - 48) := by unfold J.hexW; rw [if_pos ⟨by omega, by omega⟩]
    by_cases hr : L ≤ I - 48 ∧ I - 48 ≤ M
    · have hG := HY _ hw ⟨by omega, by omega⟩
      rw [hG]
      simp only [Option.getD_some]
      have hv : ((c - 48 : Nat) : Int) = I - 48 := by omega
      have hp : c ≠ 0 := by omega
      rw [hv]
      have HS2 : Hid _ := HS
      have HB : Hid _ := HC1
      have r1 := hr.1
      have r2 := hr.2
      clear HY HN HF HS hw hr hG hv hI hL hM HO hc hl
      go_enter Tryd.func118, Tryd.ntmps118
      go_wp2_with (go_at_call 54; refine P.mono ?_; rintro e w1 ⟨rfl, hb1⟩; obtain ⟨c1, f1⟩ := HB.out w1 hb1)
      go_ret
      exact ⟨by first | rfl | (rw [show I - 97 + 10 = I - 87 by omega]; rfl) | (rw [show I - 65 + 10 = I - 55 by omega]; rfl), HS2.out w1 hb1 hp, grown_trans (grown_below hb1 _) (grown_set _ _ _ _)⟩
    · have hG := HN (fun x hx => by rw [hw] at hx; cases hx; omega)
      rw [hG]
      simp only [Option.getD_none]
      clear HY HN HS hw hG hI hL hM HO hc hl HC1
      by_cases r1 : I - 48 < L
      · clear hr
        go_enter Tryd.func118, Tryd.ntmps118
        go_wp2_with (first | (go_at_call 62; refine (HF w1 hb1).mono ?_; rintro e w2 ⟨rfl, h2, g2⟩) | (go_at_call 54; refine P.mono ?_; rintro e w1 ⟨rfl, hb1⟩) | fail)
        go_ret
        exact ⟨rfl, h2, grown_trans (grown_below hb1 _) g2⟩
      · have r2 : M < I - 48 := by omega
        have r3 : L ≤ I - 48 := by omega
        clear hr r1
        go_enter Tryd.func118, Tryd.ntmps118
        go_wp2_with (first | (go_at_call 62; refine (HF w1 hb1).mono ?_; rintro e w2 ⟨rfl, h2, g2⟩) | (go_at_call 54; refine P.mono ?_; rintro e w1 ⟨rfl, hb1⟩) | fail)
        go_ret
        exact ⟨rfl, h2, grown_trans (grown_below hb1 _) g2⟩
  by_cases a2 : 97 ≤ I ∧ I ≤ 102
  · obtain ⟨x1, x2⟩ := a2
    have y1 : (57 : Int) < I := by omega
    clear a1
    have hw : J.hexW c = some (c - 87) := by unfold J.hexW; rw [if_neg (by omega), if_neg (by omega), if_pos ⟨by omega, by omega⟩]
    by_cases hr : L ≤ I - 87 ∧ I - 87 ≤ M
    · have hG := HY _ hw ⟨by omega, by omega⟩
      rw [hG]
      simp only [Option.getD_some]
      have hv : ((c - 87 : Nat) : Int) = I - 87 := by omega
      have hp : c ≠ 0 := by omega
      rw [hv]
      have HS2 : Hid _ := HS
      have HB : Hid _ := HC1
      have r1 := hr.1
      have r2 := hr.2
      clear HY HN HF HS hw hr hG hv hI hL hM HO hc hl
      go_enter Tryd.func118, Tryd.ntmps118
      go_wp2_with (go_at_call 54; refine P.mono ?_; rintro e w1 ⟨rfl, hb1⟩; obtain ⟨c1, f1⟩ := HB.out w1 hb1)
      go_ret
      exact ⟨by first | rfl | (rw [show I - 97 + 10 = I - 87 by omega]; rfl) | (rw [show I - 65 + 10 = I - 55 by omega]; rfl), HS2.out w1 hb1 hp, grown_trans (grown_below hb1 _) (grown_set _ _ _ _)⟩
    · have hG := HN (fun x hx => by rw [hw] at hx; cases hx; omega)
      rw [hG]
      simp only [Option.getD_none]
      clear HY HN HS hw hG hI hL hM HO hc hl HC1
      by_cases r1 : I - 87 < L
      · clear hr
        go_enter Tryd.func118, Tryd.ntmps118
        go_wp2_with (first | (go_at_call 62; refine (HF w1 hb1).mono ?_; rintro e w2 ⟨rfl, h2, g2⟩) | (go_at_call 54; refine P.mono ?_; rintro e w1 ⟨rfl, hb1⟩) | fail)
        go_ret
        exact ⟨rfl, h2, grown_trans (grown_below hb1 _) g2⟩
      · have r2 : M < I - 87 := by omega
        have r3 : L ≤ I - 87 := by omega
        clear hr r1
        go_enter Tryd.func118, Tryd.ntmps118
        go_wp2_with (first | (go_at_call 62; refine (HF w1 hb1).mono ?_; rintro e w2 ⟨rfl, h2, g2⟩) | (go_at_call 54; refine P.mono ?_; rintro e w1 ⟨rfl, hb1⟩) | fail)
        go_ret
        exact ⟨rfl, h2, grown_trans (grown_below hb1 _) g2⟩
  by_cases a3 : 65 ≤ I ∧ I ≤ 70
  · obtain ⟨x1, x2⟩ := a3
    have y1 : (57 : Int) < I := by omega
    have y2 : I < 97 := by omega
    clear a1 a2
    have hw : J.hexW c = some (c - 55) := by unfold J.hexW; rw [if_neg (by omega), if_pos ⟨by omega, by omega⟩]
    by_cases hr : L ≤ I - 55 ∧ I - 55 ≤ M
    · have hG := HY _ hw ⟨by omega, by omega⟩
      rw [hG]
      simp only [Option.getD_some]
      have hv : ((c - 55 : Nat) : Int) = I - 55 := by omega
      have hp : c ≠ 0 := by omega
      rw [hv]
      have HS2 : Hid _ := HS
      have HB : Hid _ := HC1
      have r1 := hr.1
      have r2 := hr.2
      clear HY HN HF HS hw hr hG hv hI hL hM HO hc hl
      go_enter Tryd.func118, Tryd.ntmps118
      go_wp2_with (go_at_call 54; refine P.mono ?_; rintro e w1 ⟨rfl, hb1⟩; obtain ⟨c1, f1⟩ := HB.out w1 hb1)
      go_ret
      exact ⟨by first | rfl | (rw [show I - 97 + 10 = I - 87 by omega]; rfl) | (rw [show I - 65 + 10 = I - 55 by omega]; rfl), HS2.out w1 hb1 hp, grown_trans (grown_below hb1 _) (grown_set _ _ _ _)⟩
    · have hG := HN (fun x hx => by rw [hw] at hx; cases hx; omega)
      rw [hG]
      simp only [Option.getD_none]
      clear HY HN HS hw hG hI hL hM HO hc hl HC1
      by_cases r1 : I - 55 < L
      · clear hr
        go_enter Tryd.func118, Tryd.ntmps118
        go_wp2_with (first | (go_at_call 62; refine (HF w1 hb1).mono ?_; rintro e w2 ⟨rfl, h2, g2⟩) | (go_at_call 54; refine P.mono ?_; rintro e w1 ⟨rfl, hb1⟩) | fail)
        go_ret
        exact ⟨rfl, h2, grown_trans (grown_below hb1 _) g2⟩
      · have r2 : M < I - 55 := by omega
        have r3 : L ≤ I - 55 := by omega
        clear hr r1
        go_enter Tryd.func118, Tryd.ntmps118
        go_wp2_with (first | (go_at_call 62; refine (HF w1 hb1).mono ?_; rintro e w2 ⟨rfl, h2, g2⟩) | (go_at_call 54; refine P.mono ?_; rintro e w1 ⟨rfl, hb1⟩) | fail)
        go_ret
        exact ⟨rfl, h2, grown_trans (grown_below hb1 _) g2⟩
  have hw : J.hexW c = none := by unfold J.hexW; rw [if_neg (by omega), if_neg (by omega), if_neg (by omega)]
  have hG := HN (fun x hx => by rw [hw] at hx; cases hx)
  rw [hG]
  simp only [Option.getD_none]
  clear HY HN HS hw hG hI hL hM HO hc hl HC1
  have hD : I < 48 ∨ (57 < I ∧ I < 65) ∨ (70 < I ∧ I < 97) ∨ 102 < I := by omega
  clear a1 a2 a3
  rcases hD with x1 | ⟨x1, x2⟩ | ⟨x1, x2⟩ | x1
  all_goals
    (try have y1 : (57 : Int) < I := by omega)
    (try have y2 : (70 : Int) < I := by omega)
    (try have y3 : I < 65 := by omega)
    (try have y4 : I < 97 := by omega)
    go_enter Tryd.func118, Tryd.ntmps118
    go_wp2_with (first | (go_at_call 62; refine (HF w1 hb1).mono ?_; rintro e w2 ⟨rfl, h2, g2⟩) | (go_at_call 54; refine P.mono ?_; rintro e w1 ⟨rfl, hb1⟩) | fail)
    go_ret
    exact ⟨rfl, h2, grown_trans (grown_below hb1 _) g2⟩
end Go.Proofs.YtcfalgomcdmdhaaDoor
