/-
  The reader: two sixteens; a character told by sixteens.
-/
import Derived.Test.YtcfalgomcdmdhaaDoorJHexA
namespace Go.Proofs.YtcfalgomcdmdhaaDoor
open Go.RowKit Go.WideShapes Go.Joins

/-- what a reader gives, where it gives something -/
def Gives {α : Type} (p : J.Rd α) (σ : RS) (V : α) : Prop := ∀ v, (goR p σ).2 = some v → v = V
theorem goR_thenV {α β : Type} {p : J.Rd α} {q : α → J.Rd β} (hp : J.Good p) {σ : RS} {V : α} (h : Gives p σ V) : goR (p.then q) σ = goR (q V) (goR p σ).1 := by
  cases hg : goR p σ with
  | mk σ1 o =>
    cases o with
    | some v =>
      have : v = V := h v (by rw [hg])
      subst this
      exact goR_some hp hg
    | none =>
      obtain ⟨s, e, rfl⟩ := goR_over hg
      exact goR_none hp hg
theorem gives_get {α : Type} (p : J.Rd α) (σ : RS) (d : α) : Gives p σ ((goR p σ).2.getD d) := by
  intro v hv
  rw [hv]; rfl
theorem goR_pureV {α : Type} (v : α) {σ : RS} (ho : σ.ok) : (goR (J.Rd.pure v) σ).1 = σ ∧ Gives (J.Rd.pure v) σ v := by
  cases σ with
  | dead s e => exact ⟨rfl, fun _ h => by cases h⟩
  | live s i =>
    have := goR_pure v (show i ≤ s.size from ho)
    unfold Gives
    rw [this]
    exact ⟨rfl, fun _ h => by cases h; rfl⟩
theorem sixteen_le {lo hi : Nat} (σ : RS) : (goR (J.sixteen lo hi) σ).2.getD 0 ≤ hi := by
  cases σ with
  | dead s e => exact Nat.zero_le _
  | live s i =>
    by_cases hlt : i < s.size
    · unfold J.sixteen
      rw [goR_sw _ _ hlt]
      cases hx : J.hexW ((numsOf s).getD i 0) with
      | none => exact Nat.zero_le _
      | some x =>
        by_cases hr : lo ≤ x ∧ x ≤ hi
        · simp only [hr, and_self, if_true]
          rw [goR_pure _ (by omega)]
          exact hr.2
        · simp only [hr, if_false]
          exact Nat.zero_le _
    · unfold J.sixteen
      rw [goR_end _ hlt]
      exact Nat.zero_le _
theorem sixteen_least {lo hi : Nat} (σ : RS) : (goR (J.sixteen lo hi) σ).2.getD 0 = 0 ∨ lo ≤ (goR (J.sixteen lo hi) σ).2.getD 0 := by
  cases σ with
  | dead s e => exact .inl rfl
  | live s i =>
    by_cases hlt : i < s.size
    · unfold J.sixteen
      rw [goR_sw _ _ hlt]
      cases hx : J.hexW ((numsOf s).getD i 0) with
      | none => exact .inl rfl
      | some x =>
        by_cases hr : lo ≤ x ∧ x ≤ hi
        · simp only [hr, and_self, if_true]
          rw [goR_pure _ (by omega)]
          exact .inr hr.1
        · simp only [hr, if_false]
          exact .inl rfl
    · unfold J.sixteen
      rw [goR_end _ hlt]
      exact .inl rfl
def two : J.Rd Nat := (J.sixteen 0 15).then fun a => (J.sixteen 0 15).then fun b => J.Rd.pure (16 * a + b)
theorem Good_two : J.Good two := J.Good.then (J.Good.sixteen _ _) fun _ => J.Good.then (J.Good.sixteen _ _) fun _ => J.Good.pure _
theorem then_assoc {α β γ : Type} (p : J.Rd α) (q : α → J.Rd β) (r : β → J.Rd γ) : (p.then q).then r = p.then fun x => (q x).then r := by
  funext l
  unfold J.Rd.then
  cases p l <;> rfl
theorem pure_then {α β : Type} (v : α) (q : α → J.Rd β) : (J.Rd.pure v).then q = q v := by
  funext l; rfl
theorem toNat32 {a : Nat} (h : a < 2147483648) : (BitVec.ofInt 32 (a : Int)).toNat = a := by rw [BitVec.toNat_ofInt]; omega
theorem or_i32 {a b k K : Nat} (hK : K = 2 ^ k) (hb : b < K) (h : a * K + b < 2147483648) {x : Int} (hx : x = ((a * K : Nat) : Int)) : bits BinOp.or IntKind.i32 x (b : Int) = ((a * K + b : Nat) : Int) := by
  subst hx
  have hK0 : 0 ≤ a * K := Nat.zero_le _
  show IntKind.i32.wrap ((BitVec.ofInt 32 ((a * K : Nat) : Int) ||| BitVec.ofInt 32 (b : Int)).toNat : Int) = _
  have h1 := toNat32 (a := a * K) (by omega)
  have h2 := toNat32 (a := b) (by omega)
  have h3 : a * K ||| b = a * K + b := by
    rw [Nat.mul_comm, hK]
    exact (Nat.two_pow_add_eq_or_of_lt (i := k) (by rw [← hK]; exact hb) a).symm
  rw [BitVec.toNat_or, h1, h2, h3, IntKind.wrap_i32]
  omega
theorem and_i32 {a : Nat} (h : a < 2147483648) : bits BinOp.and IntKind.i32 (a : Int) 1023 = ((a % 1024 : Nat) : Int) := by
  show IntKind.i32.wrap ((BitVec.ofInt 32 (a : Int) &&& BitVec.ofInt 32 ((1023 : Nat) : Int)).toNat : Int) = _
  have h1 := toNat32 h
  have h2 := toNat32 (a := 1023) (by decide)
  rw [BitVec.toNat_and, h1, h2, show (1023 : Nat) = 2 ^ 10 - 1 from rfl, Nat.and_two_pow_sub_one_eq_mod, IntKind.wrap_i32]
  omega
set_option maxHeartbeats 1000000 in
theorem two_any (b : Nat) (σ : RS) (w : World) (h : RIn w b σ) : Calls Tryd.prog 119 #[rp b] w fun e w' => ∃ V : Nat, e = .returned (.int .i32 (V : Int)) ∧ V < 256 ∧ Gives two σ V ∧ RIn w' b (goR two σ).1 ∧ w.grownBy w' (some b) := by
  have S1 := sixteen_any b σ 0 15 (by decide) w h
  have S2 := fun w' (hw : RIn w' b (goR (J.sixteen 0 15) σ).1) => sixteen_any b (goR (J.sixteen 0 15) σ).1 0 15 (by decide) w' hw
  have b1 := sixteen_le (lo := 0) (hi := 15) σ
  have b2 := sixteen_le (lo := 0) (hi := 15) (goR (J.sixteen 0 15) σ).1
  have hG : ∀ q : Nat → J.Rd Nat, goR ((J.sixteen 0 15).then q) σ = goR (q ((goR (J.sixteen 0 15) σ).2.getD 0)) (goR (J.sixteen 0 15) σ).1 := fun q => goR_thenV (J.Good.sixteen _ _) (gives_get _ _ 0)
  have hG2 : ∀ q : Nat → J.Rd Nat, goR ((J.sixteen 0 15).then q) (goR (J.sixteen 0 15) σ).1 = goR (q ((goR (J.sixteen 0 15) (goR (J.sixteen 0 15) σ).1).2.getD 0)) (goR (J.sixteen 0 15) (goR (J.sixteen 0 15) σ).1).1 := fun q => goR_thenV (J.Good.sixteen _ _) (gives_get _ _ 0)
  unfold two
  unfold Gives
  rw [hG, hG2]
  generalize (goR (J.sixteen 0 15) (goR (J.sixteen 0 15) σ).1).2.getD 0 = x2 at *
  generalize (goR (J.sixteen 0 15) (goR (J.sixteen 0 15) σ).1).1 = σ2 at *
  generalize (goR (J.sixteen 0 15) σ).2.getD 0 = x1 at *
  generalize (goR (J.sixteen 0 15) σ).1 = σ1 at *
  clear hG hG2 h
  unfold rp at S1 S2 ⊢
  go_enter Tryd.func119, Tryd.ntmps119
  go_wp2_with fail
  refine S1.mono ?_
  rintro e w1 ⟨rfl, h1, g1⟩
  go_wp2_with fail
  refine (S2 _ h1).mono ?_
  rintro e w2 ⟨rfl, h2, g2⟩
  simp only []
  have hO := or_i32 (a := x1) (b := x2) (k := 4) (K := 16) rfl (by omega) (by omega) (x := (x1 : Int) * 16) (by omega)
  obtain ⟨V, hV⟩ : ∃ V, x1 * 16 + x2 = V := ⟨_, rfl⟩
  rw [hV] at hO
  have HV : Hid (x1 * 16 + x2 = V ∧ x1 ≤ 15 ∧ x2 ≤ 15) := ⟨hV, b1, b2⟩
  clear hV
  go_wp2
  go_ret
  have HP := goR_pureV (16 * x1 + x2) h2.ok
  have H := HV.out
  have hE : 16 * x1 + x2 = V := by omega
  rw [hE] at HP ⊢
  exact ⟨V, rfl, by omega, HP.2, by rw [HP.1]; exact h2, grown_trans g1 g2⟩
/-- a character told by sixteens -/
def escU : J.Rd Nat := J.unit.then J.pairOr
theorem some_least {lo hi v : Nat} {σ : RS} (h : (goR (J.sixteen lo hi) σ).2 = some v) : lo ≤ v := by
  cases σ with
  | dead s e => cases h
  | live s i =>
    by_cases hlt : i < s.size
    · unfold J.sixteen at h
      rw [goR_sw _ _ hlt] at h
      cases hx : J.hexW ((numsOf s).getD i 0) with
      | none => rw [hx] at h; cases h
      | some x =>
        rw [hx] at h
        by_cases hr : lo ≤ x ∧ x ≤ hi
        · simp only [hr, and_self, if_true] at h
          rw [goR_pure _ (by omega)] at h
          cases h; exact hr.1
        · simp only [hr, if_false] at h
          cases h
    · unfold J.sixteen at h
      rw [goR_end _ hlt] at h
      cases h
theorem dead_none {α : Type} (p : J.Rd α) {σ : RS} (h : ∃ s e, σ = .dead s e) : goR p σ = (σ, none) := by
  obtain ⟨s, e, rfl⟩ := h; rfl
theorem gives_two (σ : RS) (V : Nat) (h : Gives two σ V) (K : Nat) (q : Nat → J.Rd Nat) :
    goR ((J.sixteen 0 15).then fun c => (J.sixteen 0 15).then fun d => q (K + 16 * c + d)) σ = goR (q (K + V)) (goR two σ).1 := by
  have e : ((J.sixteen 0 15).then fun c => (J.sixteen 0 15).then fun d => q (K + 16 * c + d)) = two.then fun y => q (K + y) := by
    unfold two
    rw [then_assoc]
    congr 1
    funext c
    rw [then_assoc]
    congr 1
    funext d
    rw [pure_then, Nat.add_assoc]
  rw [e, goR_thenV Good_two h]
set_option maxHeartbeats 2000000 in
set_option maxRecDepth 4000 in
theorem code_any (b : Nat) (σ : RS) (w : World) (h : RIn w b σ) : Calls Tryd.prog 103 #[rp b] w fun e w' => ∃ V : Nat, e = .returned (.int .i32 (V : Int)) ∧ V < 2000000 ∧ Gives escU σ V ∧ RIn w' b (goR escU σ).1 ∧ w.grownBy w' (some b) := by
  obtain ⟨x1, hx1⟩ : ∃ x, (goR (J.sixteen 0 15) σ).2.getD 0 = x := ⟨_, rfl⟩
  obtain ⟨σ1, hσ1⟩ : ∃ x, (goR (J.sixteen 0 15) σ).1 = x := ⟨_, rfl⟩
  obtain ⟨mo, hmo⟩ : ∃ x, (if x1 = 13 then 11 else 15) = x := ⟨_, rfl⟩
  have hmo15 : mo ≤ 15 := by rw [← hmo]; split <;> omega
  obtain ⟨x2, hx2⟩ : ∃ x, (goR (J.sixteen 0 mo) σ1).2.getD 0 = x := ⟨_, rfl⟩
  obtain ⟨σ2, hσ2⟩ : ∃ x, (goR (J.sixteen 0 mo) σ1).1 = x := ⟨_, rfl⟩
  obtain ⟨σ3, hσ3⟩ : ∃ x, (goR two σ2).1 = x := ⟨_, rfl⟩
  have b1 : x1 ≤ 15 := by rw [← hx1]; exact sixteen_le _
  have b2 : x2 ≤ 15 := by rw [← hx2]; exact Nat.le_trans (sixteen_le _) hmo15
  have S1 := sixteen_any b σ 0 15 (by decide) w h
  rw [hx1, hσ1] at S1
  have S2 := fun w' (hw : RIn w' b σ1) => sixteen_any b σ1 0 mo ⟨by decide, hmo15⟩ w' hw
  simp only [hx2, hσ2] at S2
  have S3 := fun w' (hw : RIn w' b σ2) => two_any b σ2 w' hw
  simp only [hσ3] at S3
  -- the grammar's way
  have HG : ∀ y, Gives two σ2 y → goR escU σ = goR (J.pairOr (4096 * x1 + 256 * x2 + y)) σ3 := by
    intro y hy
    unfold escU J.unit
    simp only [then_assoc, pure_then]
    rw [goR_thenV (J.Good.sixteen _ _) (gives_get _ _ 0), hx1, hσ1, hmo, goR_thenV (J.Good.sixteen _ _) (gives_get _ _ 0), hx2, hσ2,
      gives_two σ2 y hy (4096 * x1 + 256 * x2) J.pairOr, hσ3]
  have HG2 : Hid _ := HG
  have HX : Hid _ := hmo
  clear h hx1 hσ1 hx2 hσ2 hσ3 HG hmo15
  unfold rp at S1 S2 S3 ⊢
  go_enter Tryd.func103, Tryd.ntmps103
  go_wp2_with fail
  refine S1.mono ?_
  rintro e w1 ⟨rfl, h1, g1⟩
  simp only []
  have S2' := S2 w1 h1
  have hO := or_i32 (a := x1) (b := x2) (k := 4) (K := 16) rfl (by omega) (by omega) (x := (x1 : Int) * 16) (by omega)
  obtain ⟨H, hH⟩ : ∃ H, x1 * 16 + x2 = H := ⟨_, rfl⟩
  rw [hH] at hO
  have HH : Hid (x1 * 16 + x2 = H ∧ x1 ≤ 15 ∧ x2 ≤ 15) := ⟨hH, b1, b2⟩
  have hH256 : H < 256 := by omega
  by_cases hd : x1 = 13
  · have hm : mo = 11 := by rw [← hmo, if_pos hd]
    have hI : ((x1 : Int) == 13) = true := by rw [hd]; rfl
    clear hd
    rw [hm] at S2'
    clear S1 hmo
    go_wp2_with fail
    refine S2'.mono ?_
    rintro e w2 ⟨rfl, h2, g2⟩
    simp only []
    have S3' := S3 w2 h2
    clear S2 S2' S3
    go_wp2_with fail
    refine S3'.mono ?_
    rintro e w3 ⟨y, rfl, hy, hgy, h3, g3⟩
    simp only []
    have hO2 := or_i32 (a := H) (b := y) (k := 8) (K := 256) rfl (by omega) (by omega) (x := (H : Int) * 256) (by omega)
    obtain ⟨C, hC⟩ : ∃ C, H * 256 + y = C := ⟨_, rfl⟩
    rw [hC] at hO2
    have HE : Hid (goR escU σ = goR (J.pairOr C) σ3) := by
      have e := HG2.out y hgy
      have : 4096 * x1 + 256 * x2 + y = C := by have := HH.out.1; omega
      rw [this] at e
      exact e
    have HCC : Hid (H * 256 + y = C ∧ H < 256 ∧ y < 256) := ⟨hC, hH256, hy⟩
    have G3 : Hid (w.grownBy w3 (some b)) := grown_trans (grown_trans g1 g2) g3
    have H3 : Hid (RIn w3 b σ3) := h3
    clear hC hgy h3 S3' h1 h2 g1 g2 g3
    by_cases hr : H < 216 ∨ 219 < H
    · have hn : J.pairOr C = J.Rd.pure C := by unfold J.pairOr; rw [if_pos (by have := HCC.out; omega)]
      have HN : Hid _ := hn
      clear hn
      have hHI : (H : Int) < 216 ∨ 219 < (H : Int) := by omega
      rcases hHI with t1 | t1
      · clear hr
        have hyb : y < 256 := hy
        go_wp2
        go_ret
        have HPV := goR_pureV C H3.out.ok
        rw [HE.out, HN.out]
        refine ⟨C, rfl, by have := HCC.out; omega, ?_, by rw [HPV.1]; exact H3.out, G3.out⟩
        intro v hv
        rw [HE.out, HN.out] at hv
        exact HPV.2 v hv
      · clear hr
        have t2 : ¬ (H : Int) < 216 := by omega
        go_wp2
        go_ret
        have HPV := goR_pureV C H3.out.ok
        rw [HE.out, HN.out]
        refine ⟨C, rfl, by have := HCC.out; omega, ?_, by rw [HPV.1]; exact H3.out, G3.out⟩
        intro v hv
        rw [HE.out, HN.out] at hv
        exact HPV.2 v hv
    · have hn : J.pairOr C = J.second C := by unfold J.pairOr; rw [if_neg (by have := HCC.out; omega)]
      obtain ⟨σ4, hσ4⟩ : ∃ x, (goR (J.word [92, 117]) σ3).1 = x := ⟨_, rfl⟩
      obtain ⟨σ5, hσ5⟩ : ∃ x, (goR (J.sixteen 13 13) σ4).1 = x := ⟨_, rfl⟩
      obtain ⟨σ6, hσ6⟩ : ∃ x, (goR (J.sixteen 12 15) σ5).1 = x := ⟨_, rfl⟩
      obtain ⟨x6, hx6⟩ : ∃ x, (goR (J.sixteen 12 15) σ5).2.getD 0 = x := ⟨_, rfl⟩
      obtain ⟨σ7, hσ7⟩ : ∃ x, (goR two σ6).1 = x := ⟨_, rfl⟩
      have HD : Hid ((12 ≤ x6 ∧ x6 ≤ 15) ∨ (x6 = 0 ∧ ∃ s e, σ7 = .dead s e)) := by
        have l1 := sixteen_le (lo := 12) (hi := 15) σ5
        rw [hx6] at l1
        cases ho : (goR (J.sixteen 12 15) σ5).2 with
        | some v =>
          have := some_least ho
          rw [ho] at hx6
          simp only [Option.getD_some] at hx6
          exact .inl ⟨by omega, l1⟩
        | none =>
          rw [ho] at hx6
          simp only [Option.getD_none] at hx6
          obtain ⟨s6, e6, h6⟩ := goR_over (p := J.sixteen 12 15) (σ := σ5) (σ1 := σ6) (by rw [← hσ6, ← ho])
          exact .inr ⟨hx6.symm, s6, e6, by rw [← hσ7, h6]; rfl⟩
      have W4 := word_any b σ3 ⟨#[92, 117]⟩ (by decide) w3 H3.out
      rw [show numsOf ⟨#[92, 117]⟩ = [92, 117] from rfl, hσ4] at W4
      have S5 := fun w' (hw : RIn w' b σ4) => sixteen_any b σ4 13 13 (by decide) w' hw
      simp only [hσ5] at S5
      have S6 := fun w' (hw : RIn w' b σ5) => sixteen_any b σ5 12 15 (by decide) w' hw
      simp only [hσ6, hx6] at S6
      have S7 := fun w' (hw : RIn w' b σ6) => two_any b σ6 w' hw
      simp only [hσ7] at S7
      have HE2 : Hid (∀ y2, Gives two σ6 y2 → goR escU σ = goR (J.Rd.pure (65536 + 1024 * (C - 55296) + 256 * (x6 - 12) + y2)) σ7) := by
        intro y2 hy2
        rw [HE.out, hn]
        unfold J.second
        rw [goR_thenV (J.Good.word _) (V := ()) (fun _ _ => rfl), hσ4, goR_thenV (J.Good.sixteen _ _) (gives_get _ _ 0), hσ5, goR_thenV (J.Good.sixteen _ _) (gives_get _ _ 0), hσ6, hx6,
          gives_two σ6 y2 hy2 (65536 + 1024 * (C - 55296) + 256 * (x6 - 12)) J.Rd.pure, hσ7]
      have t1 : ¬ (H : Int) < 216 := by omega
      have t2 : ¬ 219 < (H : Int) := by omega
      have HR : Hid (216 ≤ H ∧ H ≤ 219) := ⟨by omega, by omega⟩
      have b6 : x6 ≤ 15 := by rw [← hx6]; exact sixteen_le _
      have hyb : y < 256 := hy
      clear hn hσ4 hσ5 hσ6 hx6 hσ7 hr
      unfold rp at W4 S5 S6 S7
      go_wp2_with fail
      refine W4.mono ?_
      rintro e w4 ⟨rfl, h4, g4⟩
      simp only []
      have S5' := S5 w4 h4
      rw [show (((13 : Nat) : Int)) = 13 from rfl] at S5'
      go_wp2_with fail
      refine S5'.mono ?_
      rintro e w5 ⟨rfl, h5, g5⟩
      simp only []
      have S6' := S6 w5 h5
      rw [show (((12 : Nat) : Int)) = 12 from rfl, show (((15 : Nat) : Int)) = 15 from rfl] at S6'
      clear S5 S5' S6 W4
      go_wp2_with fail
      refine S6'.mono ?_
      rintro e w6 ⟨rfl, h6, g6⟩
      simp only []
      have S7' := S7 w6 h6
      clear S6' S7
      go_wp2_with fail
      refine S7'.mono ?_
      rintro e w7 ⟨y2, rfl, hy2, hgy2, h7, g7⟩
      simp only []
      have hO3 := or_i32 (a := x6) (b := y2) (k := 8) (K := 256) rfl (by omega) (by omega) (x := (x6 : Int) * 256) (by omega)
      obtain ⟨E, hE⟩ : ∃ E, x6 * 256 + y2 = E := ⟨_, rfl⟩
      rw [hE] at hO3
      have hA1 := and_i32 (a := C) (by have := HCC.out; omega)
      have hA2 := and_i32 (a := E) (by omega)
      obtain ⟨m1, hm1⟩ : ∃ m, C % 1024 = m := ⟨_, rfl⟩
      obtain ⟨m2, hm2⟩ : ∃ m, E % 1024 = m := ⟨_, rfl⟩
      rw [hm1] at hA1
      rw [hm2] at hA2
      have HEE : Hid (x6 * 256 + y2 = E ∧ y2 < 256 ∧ C % 1024 = m1 ∧ E % 1024 = m2) := ⟨hE, hy2, hm1, hm2⟩
      obtain ⟨M1, hM1⟩ : ∃ M : Int, (m1 : Int) = M := ⟨_, rfl⟩
      obtain ⟨M2, hM2⟩ : ∃ M : Int, (m2 : Int) = M := ⟨_, rfl⟩
      rw [hM1] at hA1
      rw [hM2] at hA2
      have q1 : 0 ≤ M1 := by omega
      have q2 : M1 ≤ 1023 := by omega
      have q3 : 0 ≤ M2 := by omega
      have q4 : M2 ≤ 1023 := by omega
      have HMM : Hid ((m1 : Int) = M1 ∧ (m2 : Int) = M2) := ⟨hM1, hM2⟩
      have G7 : Hid (w.grownBy w7 (some b)) := grown_trans (grown_trans (grown_trans (grown_trans G3.out g4) g5) g6) g7
      have H7 : Hid (RIn w7 b σ7 ∧ Gives two σ6 y2) := ⟨h7, hgy2⟩
      clear hE hm1 hm2 hM1 hM2 hgy2 h7 g7 g6 g5 g4 h4 h5 h6 S7'
      go_wp2
      go_ret
      have hEE := HEE.out
      have hMM := HMM.out
      have e1 := HE2.out y2 H7.out.2
      have hPV := goR_pureV (65536 + 1024 * (C - 55296) + 256 * (x6 - 12) + y2) H7.out.1.ok
      have hCC := HCC.out
      have hRR := HR.out
      have hC1 : m1 = C - 55296 := by omega
      refine ⟨65536 + m1 * 1024 + m2, ?_, by omega, ?_, by rw [e1, hPV.1]; exact H7.out.1, G7.out⟩
      · rw [show ((65536 + m1 * 1024 + m2 : Nat) : Int) = 65536 + M1 * 1024 + M2 by omega]
        rfl
      · intro v hv
        rw [e1] at hv
        rcases HD.out with hd | ⟨hx0, hdd⟩
        · have := hPV.2 v hv
          omega
        · obtain ⟨s6, e6, rfl⟩ := hdd
          cases hv
  · have hm : mo = 15 := by rw [← hmo, if_neg hd]
    have hI : ((x1 : Int) == 13) = false := by simpa using fun e : (x1 : Int) = 13 => hd (by omega)
    clear hd
    rw [hm] at S2'
    clear S1 hmo
    go_wp2_with fail
    refine S2'.mono ?_
    rintro e w2 ⟨rfl, h2, g2⟩
    simp only []
    have S3' := S3 w2 h2
    clear S2 S2' S3
    go_wp2_with fail
    refine S3'.mono ?_
    rintro e w3 ⟨y, rfl, hy, hgy, h3, g3⟩
    simp only []
    have hO2 := or_i32 (a := H) (b := y) (k := 8) (K := 256) rfl (by omega) (by omega) (x := (H : Int) * 256) (by omega)
    obtain ⟨C, hC⟩ : ∃ C, H * 256 + y = C := ⟨_, rfl⟩
    rw [hC] at hO2
    have HE : Hid (goR escU σ = goR (J.pairOr C) σ3) := by
      have e := HG2.out y hgy
      have : 4096 * x1 + 256 * x2 + y = C := by have := HH.out.1; omega
      rw [this] at e
      exact e
    have HCC : Hid (H * 256 + y = C ∧ H < 256 ∧ y < 256) := ⟨hC, hH256, hy⟩
    have G3 : Hid (w.grownBy w3 (some b)) := grown_trans (grown_trans g1 g2) g3
    have H3 : Hid (RIn w3 b σ3) := h3
    clear hC hgy h3 S3' h1 h2 g1 g2 g3
    by_cases hr : H < 216 ∨ 219 < H
    · have hn : J.pairOr C = J.Rd.pure C := by unfold J.pairOr; rw [if_pos (by have := HCC.out; omega)]
      have HN : Hid _ := hn
      clear hn
      have hHI : (H : Int) < 216 ∨ 219 < (H : Int) := by omega
      rcases hHI with t1 | t1
      · clear hr
        have hyb : y < 256 := hy
        go_wp2
        go_ret
        have HPV := goR_pureV C H3.out.ok
        rw [HE.out, HN.out]
        refine ⟨C, rfl, by have := HCC.out; omega, ?_, by rw [HPV.1]; exact H3.out, G3.out⟩
        intro v hv
        rw [HE.out, HN.out] at hv
        exact HPV.2 v hv
      · clear hr
        have t2 : ¬ (H : Int) < 216 := by omega
        go_wp2
        go_ret
        have HPV := goR_pureV C H3.out.ok
        rw [HE.out, HN.out]
        refine ⟨C, rfl, by have := HCC.out; omega, ?_, by rw [HPV.1]; exact H3.out, G3.out⟩
        intro v hv
        rw [HE.out, HN.out] at hv
        exact HPV.2 v hv
    · have hn : J.pairOr C = J.second C := by unfold J.pairOr; rw [if_neg (by have := HCC.out; omega)]
      obtain ⟨σ4, hσ4⟩ : ∃ x, (goR (J.word [92, 117]) σ3).1 = x := ⟨_, rfl⟩
      obtain ⟨σ5, hσ5⟩ : ∃ x, (goR (J.sixteen 13 13) σ4).1 = x := ⟨_, rfl⟩
      obtain ⟨σ6, hσ6⟩ : ∃ x, (goR (J.sixteen 12 15) σ5).1 = x := ⟨_, rfl⟩
      obtain ⟨x6, hx6⟩ : ∃ x, (goR (J.sixteen 12 15) σ5).2.getD 0 = x := ⟨_, rfl⟩
      obtain ⟨σ7, hσ7⟩ : ∃ x, (goR two σ6).1 = x := ⟨_, rfl⟩
      have HD : Hid ((12 ≤ x6 ∧ x6 ≤ 15) ∨ (x6 = 0 ∧ ∃ s e, σ7 = .dead s e)) := by
        have l1 := sixteen_le (lo := 12) (hi := 15) σ5
        rw [hx6] at l1
        cases ho : (goR (J.sixteen 12 15) σ5).2 with
        | some v =>
          have := some_least ho
          rw [ho] at hx6
          simp only [Option.getD_some] at hx6
          exact .inl ⟨by omega, l1⟩
        | none =>
          rw [ho] at hx6
          simp only [Option.getD_none] at hx6
          obtain ⟨s6, e6, h6⟩ := goR_over (p := J.sixteen 12 15) (σ := σ5) (σ1 := σ6) (by rw [← hσ6, ← ho])
          exact .inr ⟨hx6.symm, s6, e6, by rw [← hσ7, h6]; rfl⟩
      have W4 := word_any b σ3 ⟨#[92, 117]⟩ (by decide) w3 H3.out
      rw [show numsOf ⟨#[92, 117]⟩ = [92, 117] from rfl, hσ4] at W4
      have S5 := fun w' (hw : RIn w' b σ4) => sixteen_any b σ4 13 13 (by decide) w' hw
      simp only [hσ5] at S5
      have S6 := fun w' (hw : RIn w' b σ5) => sixteen_any b σ5 12 15 (by decide) w' hw
      simp only [hσ6, hx6] at S6
      have S7 := fun w' (hw : RIn w' b σ6) => two_any b σ6 w' hw
      simp only [hσ7] at S7
      have HE2 : Hid (∀ y2, Gives two σ6 y2 → goR escU σ = goR (J.Rd.pure (65536 + 1024 * (C - 55296) + 256 * (x6 - 12) + y2)) σ7) := by
        intro y2 hy2
        rw [HE.out, hn]
        unfold J.second
        rw [goR_thenV (J.Good.word _) (V := ()) (fun _ _ => rfl), hσ4, goR_thenV (J.Good.sixteen _ _) (gives_get _ _ 0), hσ5, goR_thenV (J.Good.sixteen _ _) (gives_get _ _ 0), hσ6, hx6,
          gives_two σ6 y2 hy2 (65536 + 1024 * (C - 55296) + 256 * (x6 - 12)) J.Rd.pure, hσ7]
      have t1 : ¬ (H : Int) < 216 := by omega
      have t2 : ¬ 219 < (H : Int) := by omega
      have HR : Hid (216 ≤ H ∧ H ≤ 219) := ⟨by omega, by omega⟩
      have b6 : x6 ≤ 15 := by rw [← hx6]; exact sixteen_le _
      have hyb : y < 256 := hy
      clear hn hσ4 hσ5 hσ6 hx6 hσ7 hr
      unfold rp at W4 S5 S6 S7
      go_wp2_with fail
      refine W4.mono ?_
      rintro e w4 ⟨rfl, h4, g4⟩
      simp only []
      have S5' := S5 w4 h4
      rw [show (((13 : Nat) : Int)) = 13 from rfl] at S5'
      go_wp2_with fail
      refine S5'.mono ?_
      rintro e w5 ⟨rfl, h5, g5⟩
      simp only []
      have S6' := S6 w5 h5
      rw [show (((12 : Nat) : Int)) = 12 from rfl, show (((15 : Nat) : Int)) = 15 from rfl] at S6'
      clear S5 S5' S6 W4
      go_wp2_with fail
      refine S6'.mono ?_
      rintro e w6 ⟨rfl, h6, g6⟩
      simp only []
      have S7' := S7 w6 h6
      clear S6' S7
      go_wp2_with fail
      refine S7'.mono ?_
      rintro e w7 ⟨y2, rfl, hy2, hgy2, h7, g7⟩
      simp only []
      have hO3 := or_i32 (a := x6) (b := y2) (k := 8) (K := 256) rfl (by omega) (by omega) (x := (x6 : Int) * 256) (by omega)
      obtain ⟨E, hE⟩ : ∃ E, x6 * 256 + y2 = E := ⟨_, rfl⟩
      rw [hE] at hO3
      have hA1 := and_i32 (a := C) (by have := HCC.out; omega)
      have hA2 := and_i32 (a := E) (by omega)
      obtain ⟨m1, hm1⟩ : ∃ m, C % 1024 = m := ⟨_, rfl⟩
      obtain ⟨m2, hm2⟩ : ∃ m, E % 1024 = m := ⟨_, rfl⟩
      rw [hm1] at hA1
      rw [hm2] at hA2
      have HEE : Hid (x6 * 256 + y2 = E ∧ y2 < 256 ∧ C % 1024 = m1 ∧ E % 1024 = m2) := ⟨hE, hy2, hm1, hm2⟩
      obtain ⟨M1, hM1⟩ : ∃ M : Int, (m1 : Int) = M := ⟨_, rfl⟩
      obtain ⟨M2, hM2⟩ : ∃ M : Int, (m2 : Int) = M := ⟨_, rfl⟩
      rw [hM1] at hA1
      rw [hM2] at hA2
      have q1 : 0 ≤ M1 := by omega
      have q2 : M1 ≤ 1023 := by omega
      have q3 : 0 ≤ M2 := by omega
      have q4 : M2 ≤ 1023 := by omega
      have HMM : Hid ((m1 : Int) = M1 ∧ (m2 : Int) = M2) := ⟨hM1, hM2⟩
      have G7 : Hid (w.grownBy w7 (some b)) := grown_trans (grown_trans (grown_trans (grown_trans G3.out g4) g5) g6) g7
      have H7 : Hid (RIn w7 b σ7 ∧ Gives two σ6 y2) := ⟨h7, hgy2⟩
      clear hE hm1 hm2 hM1 hM2 hgy2 h7 g7 g6 g5 g4 h4 h5 h6 S7'
      go_wp2
      go_ret
      have hEE := HEE.out
      have hMM := HMM.out
      have e1 := HE2.out y2 H7.out.2
      have hPV := goR_pureV (65536 + 1024 * (C - 55296) + 256 * (x6 - 12) + y2) H7.out.1.ok
      have hCC := HCC.out
      have hRR := HR.out
      have hC1 : m1 = C - 55296 := by omega
      refine ⟨65536 + m1 * 1024 + m2, ?_, by omega, ?_, by rw [e1, hPV.1]; exact H7.out.1, G7.out⟩
      · rw [show ((65536 + m1 * 1024 + m2 : Nat) : Int) = 65536 + M1 * 1024 + M2 by omega]
        rfl
      · intro v hv
        rw [e1] at hv
        rcases HD.out with hd | ⟨hx0, hdd⟩
        · have := hPV.2 v hv
          omega
        · obtain ⟨s6, e6, rfl⟩ := hdd
          cases hv
end Go.Proofs.YtcfalgomcdmdhaaDoor
