import Derived.Test.YtblnoekogdpolaaDoorJDWd
namespace Go.Proofs.YtblnoekogdpolaaDoor
open Go.RowKit Go.WideShapes Go.Joins
theorem unit_end {σ : RS} (ho : σ.ok) : (goR (J.Rd.pure ()) σ).1 = σ := (goR_pureV () ho).1
theorem pure_st {α : Type} (v : α) {σ : RS} (ho : σ.ok) : (goR (J.Rd.pure v) σ).1 = σ := (goR_pureV v ho).1
theorem char_go {σ σ1 σ2 σ3 σ4 : RS} {c : Nat} (h1 : (goR (J.need 194 244) σ).1 = σ1) (hc : (goR (J.need 194 244) σ).2.getD 0 = c) (h2 : (goR (J.need (J.lowC c) (J.highC c)) σ1).1 = σ2)
    (h3 : (if 224 ≤ c then (goR (J.need 128 191) σ2).1 else σ2) = σ3) (h4 : (if 240 ≤ c then (goR (J.need 128 191) σ3).1 else σ3) = σ4) (o2 : σ2.ok) (o3 : σ3.ok) (o4 : σ4.ok) : (goR J.char σ).1 = σ4 := by
  unfold J.char
  rw [goR_thenV (J.Good.need _ _) (gives_get _ _ 0), h1, hc, need_then, h2]
  have e3 : (goR (if decide (224 ≤ c) then J.need 128 191 else J.Rd.pure 0) σ2).1 = σ3 := by
    by_cases q : 224 ≤ c
    · rw [if_pos q] at h3; simp only [q, decide_true, if_true]; exact h3
    · rw [if_neg q] at h3; simp only [q, decide_false, Bool.false_eq_true, if_false]; rw [← h3]; exact pure_st 0 o2
  have e4 : (goR (if decide (240 ≤ c) then J.need 128 191 else J.Rd.pure 0) σ3).1 = σ4 := by
    by_cases q : 240 ≤ c
    · rw [if_pos q] at h4; simp only [q, decide_true, if_true]; exact h4
    · rw [if_neg q] at h4; simp only [q, decide_false, Bool.false_eq_true, if_false]; rw [← h4]; exact pure_st 0 o3
  have g1 := goR_thenV (q := fun _ => (if decide (240 ≤ c) then J.need 128 191 else J.Rd.pure 0).then fun _ => J.Rd.pure ()) (J.Good.iteB (b := decide (224 ≤ c)) (J.Good.need 128 191) (J.Good.pure 0)) (gives_get _ σ2 0)
  have g2 := goR_thenV (q := fun _ => J.Rd.pure ()) (J.Good.iteB (b := decide (240 ≤ c)) (J.Good.need 128 191) (J.Good.pure 0)) (gives_get _ σ3 0)
  rw [g1, e3, g2, e4]
  exact unit_end o4
theorem need_errs (a b : Nat) : Errs (J.need a b) := by
  intro l e r h
  unfold J.need at h
  cases l with
  | nil => simp only [J.sw, J.Res.bad.injEq] at h; obtain ⟨rfl, _⟩ := h; decide
  | cons c l =>
    simp only [J.sw] at h
    by_cases hc : a ≤ c ∧ c ≤ b
    · simp only [hc, and_self, if_true, J.Rd.pure] at h; cases h
    · simp only [hc, if_false, J.Res.bad.injEq] at h; obtain ⟨rfl, _⟩ := h; decide
theorem need_ok' (a b : Nat) {σ : RS} (h : σ.ok) : (goR (J.need a b) σ).1.ok := goR_ok (need_errs a b) h
theorem need_le (a b : Nat) (σ : RS) : (goR (J.need a b) σ).2.getD 0 ≤ b := by
  cases σ with
  | dead s e => exact Nat.zero_le _
  | live s i =>
    by_cases hi : i < s.size
    · unfold J.need
      rw [goR_sw _ _ hi]
      by_cases hc : a ≤ (numsOf s).getD i 0 ∧ (numsOf s).getD i 0 ≤ b
      · simp only [hc, and_self, if_true]
        rw [goR_pure _ (by omega)]
        exact hc.2
      · simp only [hc, if_false]
        exact Nat.zero_le _
    · unfold J.need
      rw [goR_end _ hi]
      exact Nat.zero_le _
set_option maxHeartbeats 4000000 in
set_option maxRecDepth 8000 in
theorem dchar_any (b : Nat) (S : ByteArray) (dp : Nat) (σ : RS) (w : World) (h : DIn w b S dp σ) :
    Calls Tryd.prog 78 #[rp b] w fun e w' => e = .returned (.tuple #[]) ∧ DIn w' b S dp (goR J.char σ).1 ∧ w.grownBy w' (some b) := by
  obtain ⟨c, hc⟩ : ∃ x, (goR (J.need 194 244) σ).2.getD 0 = x := ⟨_, rfl⟩
  obtain ⟨σ1, h1⟩ : ∃ x, (goR (J.need 194 244) σ).1 = x := ⟨_, rfl⟩
  obtain ⟨lo, hlo⟩ : ∃ x, J.lowC c = x := ⟨_, rfl⟩
  obtain ⟨hh, hhi⟩ : ∃ x, J.highC c = x := ⟨_, rfl⟩
  obtain ⟨σ2, h2⟩ : ∃ x, (goR (J.need (J.lowC c) (J.highC c)) σ1).1 = x := ⟨_, rfl⟩
  obtain ⟨σ3, h3⟩ : ∃ x, (if 224 ≤ c then (goR (J.need 128 191) σ2).1 else σ2) = x := ⟨_, rfl⟩
  obtain ⟨σ4, h4⟩ : ∃ x, (if 240 ≤ c then (goR (J.need 128 191) σ3).1 else σ3) = x := ⟨_, rfl⟩
  have hc244 : c ≤ 244 := by rw [← hc]; exact need_le _ _ _
  have o1 : σ1.ok := by rw [← h1]; exact need_ok' _ _ h.ok
  have o2 : σ2.ok := by rw [← h2]; exact need_ok' _ _ o1
  have o3 : σ3.ok := by rw [← h3]; split; exact need_ok' _ _ o2; exact o2
  have o4 : σ4.ok := by rw [← h4]; split; exact need_ok' _ _ o3; exact o3
  rw [char_go h1 hc h2 h3 h4 o2 o3 o4]
  have hl : lo ≤ 255 ∧ hh ≤ 255 := by
    rw [← hlo, ← hhi]; unfold J.lowC J.highC
    constructor <;> (repeat' split) <;> omega
  have N1 := need_any b S dp 194 244 ⟨by decide, by decide⟩ σ w h
  rw [hc, h1] at N1
  rw [hlo, hhi] at h2
  have N2 : Hid (∀ w', DIn w' b S dp σ1 → Calls Tryd.prog 93 #[rp b, .int .u8 (lo : Int), .int .u8 (hh : Int)] w' fun e w'' => (∃ z : Int, e = .returned (.int .i64 z)) ∧ DIn w'' b S dp σ2 ∧ w'.grownBy w'' (some b)) := fun w' hw => by
    have := need_any b S dp lo hh hl σ1 w' hw
    rw [h2] at this
    exact this.mono fun e w'' ⟨a, q⟩ => ⟨⟨_, a⟩, q⟩
  have N3 : Hid (224 ≤ c → ∀ w', DIn w' b S dp σ2 → Calls Tryd.prog 93 #[rp b, .int .u8 128, .int .u8 191] w' fun e w'' => (∃ z : Int, e = .returned (.int .i64 z)) ∧ DIn w'' b S dp σ3 ∧ w'.grownBy w'' (some b)) := fun q w' hw => by
    have := need_any b S dp 128 191 ⟨by decide, by decide⟩ σ2 w' hw
    rw [if_pos q] at h3
    rw [h3] at this
    exact this.mono fun e w'' ⟨a, q⟩ => ⟨⟨_, a⟩, q⟩
  have N4 : Hid (240 ≤ c → ∀ w', DIn w' b S dp σ3 → Calls Tryd.prog 93 #[rp b, .int .u8 128, .int .u8 191] w' fun e w'' => (∃ z : Int, e = .returned (.int .i64 z)) ∧ DIn w'' b S dp σ4 ∧ w'.grownBy w'' (some b)) := fun q w' hw => by
    have := need_any b S dp 128 191 ⟨by decide, by decide⟩ σ3 w' hw
    rw [if_pos q] at h4
    rw [h4] at this
    exact this.mono fun e w'' ⟨a, q⟩ => ⟨⟨_, a⟩, q⟩
  have H3 : Hid (¬ 224 ≤ c → σ2 = σ3) := fun q => by rw [if_neg q] at h3; exact h3
  have H4 : Hid (¬ 240 ≤ c → σ3 = σ4) := fun q => by rw [if_neg q] at h4; exact h4
  have HLO : Hid (J.lowC c = lo ∧ J.highC c = hh) := ⟨hlo, hhi⟩
  clear hc h1 hlo hhi h2 h3 h4 o1 o2 o3 o4 hl h
  simp only [show (((194 : Nat) : Int)) = 194 from rfl, show (((244 : Nat) : Int)) = 244 from rfl] at N1
  unfold rp at N1 N2 N3 N4 ⊢
  have hcs : c = 224 ∨ c = 237 ∨ c = 240 ∨ c = 244 ∨ (c ≠ 224 ∧ c ≠ 237 ∧ c ≠ 240 ∧ c ≠ 244 ∧ (c < 224 ∨ (224 ≤ c ∧ c < 240) ∨ 240 ≤ c)) := by omega
  rcases hcs with rfl | rfl | rfl | rfl | ⟨n1, n2, n3, n4, hc | ⟨hc, hc'⟩ | hc⟩
  · obtain ⟨rfl, rfl⟩ : lo = 160 ∧ hh = 191 := by have := HLO.out; exact ⟨this.1.symm, this.2.symm⟩
    have HQ : Hid (224 ≤ 224 ∧ ¬ 240 ≤ 224) := ⟨by decide, by decide⟩
    simp only [show (((160 : Nat) : Int)) = 160 from rfl, show (((191 : Nat) : Int)) = 191 from rfl] at N2
    simp only [show (((224 : Nat) : Int)) = 224 from rfl] at N1
    clear HLO
    go_enter Tryd.func78, Tryd.ntmps78
    go_wp2_with fail
    refine N1.mono ?_
    rintro e w1 ⟨rfl, h1, g1⟩
    have N2' := N2.out w1 h1
    clear N1 N2 h1
    go_wp2_with fail
    refine N2'.mono ?_
    rintro e w2 ⟨⟨z2, rfl⟩, h2, g2⟩
    clear N2'
    have N3' := N3.out HQ.out.1 w2 h2
    clear N3 h2
    go_wp2_with fail
    refine N3'.mono ?_
    rintro e w3 ⟨⟨z3, rfl⟩, h3, g3⟩
    clear N3'
    go_wp2
    go_end0
    rw [← H4.out HQ.out.2]
    exact ⟨rfl, h3, grown_trans g1 (grown_trans g2 g3)⟩
  · obtain ⟨rfl, rfl⟩ : lo = 128 ∧ hh = 159 := by have := HLO.out; exact ⟨this.1.symm, this.2.symm⟩
    have HQ : Hid (224 ≤ 237 ∧ ¬ 240 ≤ 237) := ⟨by decide, by decide⟩
    simp only [show (((128 : Nat) : Int)) = 128 from rfl, show (((159 : Nat) : Int)) = 159 from rfl] at N2
    simp only [show (((237 : Nat) : Int)) = 237 from rfl] at N1
    clear HLO
    go_enter Tryd.func78, Tryd.ntmps78
    go_wp2_with fail
    refine N1.mono ?_
    rintro e w1 ⟨rfl, h1, g1⟩
    have N2' := N2.out w1 h1
    clear N1 N2 h1
    go_wp2_with fail
    refine N2'.mono ?_
    rintro e w2 ⟨⟨z2, rfl⟩, h2, g2⟩
    clear N2'
    have N3' := N3.out HQ.out.1 w2 h2
    clear N3 h2
    go_wp2_with fail
    refine N3'.mono ?_
    rintro e w3 ⟨⟨z3, rfl⟩, h3, g3⟩
    clear N3'
    go_wp2
    go_end0
    rw [← H4.out HQ.out.2]
    exact ⟨rfl, h3, grown_trans g1 (grown_trans g2 g3)⟩
  · obtain ⟨rfl, rfl⟩ : lo = 144 ∧ hh = 191 := by have := HLO.out; exact ⟨this.1.symm, this.2.symm⟩
    have HQ : Hid (224 ≤ 240 ∧ 240 ≤ 240) := ⟨by decide, by decide⟩
    simp only [show (((144 : Nat) : Int)) = 144 from rfl, show (((191 : Nat) : Int)) = 191 from rfl] at N2
    simp only [show (((240 : Nat) : Int)) = 240 from rfl] at N1
    clear HLO
    go_enter Tryd.func78, Tryd.ntmps78
    go_wp2_with fail
    refine N1.mono ?_
    rintro e w1 ⟨rfl, h1, g1⟩
    have N2' := N2.out w1 h1
    clear N1 N2 h1
    go_wp2_with fail
    refine N2'.mono ?_
    rintro e w2 ⟨⟨z2, rfl⟩, h2, g2⟩
    clear N2'
    have N3' := N3.out HQ.out.1 w2 h2
    clear N3 h2
    go_wp2_with fail
    refine N3'.mono ?_
    rintro e w3 ⟨⟨z3, rfl⟩, h3, g3⟩
    clear N3'
    have N4' := N4.out HQ.out.2 w3 h3
    clear N4 h3
    go_wp2_with fail
    refine N4'.mono ?_
    rintro e w4 ⟨⟨z4, rfl⟩, h4, g4⟩
    clear N4'
    go_wp2
    go_end0
    exact ⟨rfl, h4, grown_trans g1 (grown_trans g2 (grown_trans g3 g4))⟩
  · obtain ⟨rfl, rfl⟩ : lo = 128 ∧ hh = 143 := by have := HLO.out; exact ⟨this.1.symm, this.2.symm⟩
    have HQ : Hid (224 ≤ 244 ∧ 240 ≤ 244) := ⟨by decide, by decide⟩
    simp only [show (((128 : Nat) : Int)) = 128 from rfl, show (((143 : Nat) : Int)) = 143 from rfl] at N2
    simp only [show (((244 : Nat) : Int)) = 244 from rfl] at N1
    clear HLO
    go_enter Tryd.func78, Tryd.ntmps78
    go_wp2_with fail
    refine N1.mono ?_
    rintro e w1 ⟨rfl, h1, g1⟩
    have N2' := N2.out w1 h1
    clear N1 N2 h1
    go_wp2_with fail
    refine N2'.mono ?_
    rintro e w2 ⟨⟨z2, rfl⟩, h2, g2⟩
    clear N2'
    have N3' := N3.out HQ.out.1 w2 h2
    clear N3 h2
    go_wp2_with fail
    refine N3'.mono ?_
    rintro e w3 ⟨⟨z3, rfl⟩, h3, g3⟩
    clear N3'
    have N4' := N4.out HQ.out.2 w3 h3
    clear N4 h3
    go_wp2_with fail
    refine N4'.mono ?_
    rintro e w4 ⟨⟨z4, rfl⟩, h4, g4⟩
    clear N4'
    go_wp2
    go_end0
    exact ⟨rfl, h4, grown_trans g1 (grown_trans g2 (grown_trans g3 g4))⟩
  · obtain ⟨rfl, rfl⟩ : lo = 128 ∧ hh = 191 := by have := HLO.out; simp only [J.lowC, J.highC, n1, n2, n3, n4, if_false] at this; omega
    have e1 : ((c : Int) == 224) = false := by simpa using fun e : (c : Int) = 224 => n1 (by omega)
    have e2 : ((c : Int) == 237) = false := by simpa using fun e : (c : Int) = 237 => n2 (by omega)
    have e3 : ((c : Int) == 240) = false := by simpa using fun e : (c : Int) = 240 => n3 (by omega)
    have e4 : ((c : Int) == 244) = false := by simpa using fun e : (c : Int) = 244 => n4 (by omega)
    have r1 : ¬ (224 : Int) ≤ (c : Int) := by omega
    have r2 : ¬ (240 : Int) ≤ (c : Int) := by omega
    have HQ : Hid (¬ 224 ≤ c ∧ ¬ 240 ≤ c) := ⟨by omega, by omega⟩
    simp only [show (((128 : Nat) : Int)) = 128 from rfl, show (((191 : Nat) : Int)) = 191 from rfl] at N2
    clear HLO n1 n2 n3 n4 hc
    go_enter Tryd.func78, Tryd.ntmps78
    go_wp2_with fail
    refine N1.mono ?_
    rintro e w1 ⟨rfl, h1, g1⟩
    have N2' := N2.out w1 h1
    clear N1 N2 h1
    go_wp2_with fail
    refine N2'.mono ?_
    rintro e w2 ⟨⟨z2, rfl⟩, h2, g2⟩
    clear N2'
    go_wp2
    go_end0
    rw [← H4.out HQ.out.2, ← H3.out HQ.out.1]
    exact ⟨rfl, h2, grown_trans g1 g2⟩
  · obtain ⟨rfl, rfl⟩ : lo = 128 ∧ hh = 191 := by have := HLO.out; simp only [J.lowC, J.highC, n1, n2, n3, n4, if_false] at this; omega
    have e1 : ((c : Int) == 224) = false := by simpa using fun e : (c : Int) = 224 => n1 (by omega)
    have e2 : ((c : Int) == 237) = false := by simpa using fun e : (c : Int) = 237 => n2 (by omega)
    have e3 : ((c : Int) == 240) = false := by simpa using fun e : (c : Int) = 240 => n3 (by omega)
    have e4 : ((c : Int) == 244) = false := by simpa using fun e : (c : Int) = 244 => n4 (by omega)
    have r1 : (224 : Int) ≤ (c : Int) := by omega
    have r2 : ¬ (240 : Int) ≤ (c : Int) := by omega
    have HQ : Hid (224 ≤ c ∧ ¬ 240 ≤ c) := ⟨by omega, by omega⟩
    simp only [show (((128 : Nat) : Int)) = 128 from rfl, show (((191 : Nat) : Int)) = 191 from rfl] at N2
    clear HLO n1 n2 n3 n4 hc hc'
    go_enter Tryd.func78, Tryd.ntmps78
    go_wp2_with fail
    refine N1.mono ?_
    rintro e w1 ⟨rfl, h1, g1⟩
    have N2' := N2.out w1 h1
    clear N1 N2 h1
    go_wp2_with fail
    refine N2'.mono ?_
    rintro e w2 ⟨⟨z2, rfl⟩, h2, g2⟩
    clear N2'
    have N3' := N3.out HQ.out.1 w2 h2
    clear N3 h2
    go_wp2_with fail
    refine N3'.mono ?_
    rintro e w3 ⟨⟨z3, rfl⟩, h3, g3⟩
    clear N3'
    go_wp2
    go_end0
    rw [← H4.out HQ.out.2]
    exact ⟨rfl, h3, grown_trans g1 (grown_trans g2 g3)⟩
  · obtain ⟨rfl, rfl⟩ : lo = 128 ∧ hh = 191 := by have := HLO.out; simp only [J.lowC, J.highC, n1, n2, n3, n4, if_false] at this; omega
    have e1 : ((c : Int) == 224) = false := by simpa using fun e : (c : Int) = 224 => n1 (by omega)
    have e2 : ((c : Int) == 237) = false := by simpa using fun e : (c : Int) = 237 => n2 (by omega)
    have e3 : ((c : Int) == 240) = false := by simpa using fun e : (c : Int) = 240 => n3 (by omega)
    have e4 : ((c : Int) == 244) = false := by simpa using fun e : (c : Int) = 244 => n4 (by omega)
    have r1 : (224 : Int) ≤ (c : Int) := by omega
    have r2 : (240 : Int) ≤ (c : Int) := by omega
    have HQ : Hid (224 ≤ c ∧ 240 ≤ c) := ⟨by omega, by omega⟩
    simp only [show (((128 : Nat) : Int)) = 128 from rfl, show (((191 : Nat) : Int)) = 191 from rfl] at N2
    clear HLO n1 n2 n3 n4 hc
    go_enter Tryd.func78, Tryd.ntmps78
    go_wp2_with fail
    refine N1.mono ?_
    rintro e w1 ⟨rfl, h1, g1⟩
    have N2' := N2.out w1 h1
    clear N1 N2 h1
    go_wp2_with fail
    refine N2'.mono ?_
    rintro e w2 ⟨⟨z2, rfl⟩, h2, g2⟩
    clear N2'
    have N3' := N3.out HQ.out.1 w2 h2
    clear N3 h2
    go_wp2_with fail
    refine N3'.mono ?_
    rintro e w3 ⟨⟨z3, rfl⟩, h3, g3⟩
    clear N3'
    have N4' := N4.out HQ.out.2 w3 h3
    clear N4 h3
    go_wp2_with fail
    refine N4'.mono ?_
    rintro e w4 ⟨⟨z4, rfl⟩, h4, g4⟩
    clear N4'
    go_wp2
    go_end0
    exact ⟨rfl, h4, grown_trans g1 (grown_trans g2 (grown_trans g3 g4))⟩
end Go.Proofs.YtblnoekogdpolaaDoor
