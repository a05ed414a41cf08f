import Derived.Test.YtblnoekogdpolaaDoorJDNl
namespace Go.Proofs.YtblnoekogdpolaaDoor
open Go.RowKit Go.WideShapes Go.Joins
def PlOne (k : Nat) (b : Bool) (n : Int) : Prop := k ≤ 6 ∧ (b = false ∨ k = 1) ∧ (n = 0 ∨ k = 2)
def PlTwo (k : Nat) (t : ByteArray) : Prop := t.size = 0 ∨ k = 3 ∨ k = 4
def PlThr (k il : Nat) : Prop := il = 0 ∨ k = 5 ∨ k = 6
def PlP (k : Nat) (b : Bool) (n : Int) (t : ByteArray) (nl il : Nat) : Prop := PlOne k b n ∧ PlTwo k t ∧ PlThr k il ∧ (nl = 0 ∨ k = 6)
instance (k : Nat) (b : Bool) (n : Int) : Decidable (PlOne k b n) := by unfold PlOne; infer_instance
instance (k : Nat) (t : ByteArray) : Decidable (PlTwo k t) := by unfold PlTwo; infer_instance
instance (k il : Nat) : Decidable (PlThr k il) := by unfold PlThr; infer_instance
instance (k : Nat) (b : Bool) (n : Int) (t : ByteArray) (nl il : Nat) : Decidable (PlP k b n t nl il) := by unfold PlP; infer_instance
theorem has_pl {k : Nat} {b : Bool} {n : Int} {t : ByteArray} {nl il : Nat} : HasP k b n t nl il ↔ PlP k b n t nl il ∧ (k = 3 → isNm t = true) ∧ (k = 6 → nl = il) := by
  unfold HasP PlP PlOne PlTwo PlThr
  generalize t.size = z
  generalize isNm t = q
  rcases (by omega : k = 0 ∨ k = 1 ∨ k = 2 ∨ k = 3 ∨ k = 4 ∨ k = 5 ∨ k = 6 ∨ 6 < k) with rfl | rfl | rfl | rfl | rfl | rfl | rfl | h
  iterate 7 (cases b <;> cases q <;> simp <;> omega)
  constructor
  · rintro (⟨e, _⟩ | ⟨e, _⟩ | ⟨e, _⟩ | ⟨e, _⟩ | ⟨e, _⟩ | ⟨e, _⟩ | ⟨e, _⟩) <;> exact absurd e (by omega)
  · rintro ⟨⟨⟨e, _⟩, _⟩, _⟩
    exact absurd e (by omega)
set_option maxHeartbeats 4000000 in
set_option maxRecDepth 8000 in
theorem dplain_any (k : Nat) (b : Bool) (n : Int) (t : ByteArray) (nq iq : Option Addr) (nl nc il ic : Nat) (w : World) :
    Calls Tryd.prog 44 #[.agg (jA k b n t nq nl nc iq il ic)] w fun e w' => e = .returned (.bool (decide (PlP k b n t nl il))) ∧ Below w.heap.size w w' := by
  have b1 := below_new w (.cells (jA k b n t nq nl nc iq il ic) 25)
  have n1 := _root_.Go.heap_alloc_new w (.cells (jA k b n t nq nl nc iq il ic) 25)
  have zt : (t.toList == []) = decide (t.size = 0) := by
    have hl : t.toList.length = t.size := by rw [Lib.toList_data]; simp
    cases hh : t.toList with
    | nil => rw [hh] at hl; simp at hl; simp [← hl]
    | cons x y => rw [hh] at hl; simp at hl; simp [← hl]
  have ZT : Hid ((t.toList == []) = decide (t.size = 0)) := zt
  obtain ⟨⟨c0, c1, c2, c3, c4, c5⟩, f0, f1, f2, f3, f4, f5⟩ := row6_cells n1
  have HB : Hid (Below w.heap.size w (w.alloc (.cells (jA k b n t nq nl nc iq il ic) 25))) := b1
  unfold jA at c0 c1 c2 c3 c4 c5 f0 f1 f2 f3 f4 f5 HB ⊢
  clear b1 n1 zt
  go_enter Tryd.func44, Tryd.ntmps44
  go_upto_region 2 with fail
  go_cut [4] from 7 (fun s4 wc => s4 = .bool (decide (PlOne k b n)) ∧ wc = w.alloc (.cells #[.int .u8 (k : Int), .bool b, .int .i64 n, .string t, .slice nq nl nc, .slice iq il ic] 25))
  case first =>
    by_cases qle : k ≤ 6
    · have kle : (k : Int) ≤ 6 := by omega
      cases b with
      | false =>
        by_cases qn : n = 0
        · have tn : (n == 0) = true := by rw [qn]; rfl
          have HP : Hid (decide (PlOne k false n) = true) := decide_eq_true ⟨by omega, by first | exact .inl rfl | exact .inr ‹k = 1›, by omega⟩
          clear qle
          clear qn
          go_wp2
          go_meet
          case rel => exact ⟨by rw [HP.out], rfl⟩
        · have tn : (n == 0) = false := by simpa using qn
          by_cases q2 : k = 2
          · have k2 : ((k : Int) == 2) = true := by simp [q2]
            have HP : Hid (decide (PlOne k false n) = true) := decide_eq_true ⟨by omega, by first | exact .inl rfl | exact .inr ‹k = 1›, by omega⟩
            clear qle
            clear qn
            clear q2
            go_wp2
            go_meet
            case rel => exact ⟨by rw [HP.out], rfl⟩
          · have k2 : ((k : Int) == 2) = false := by simpa using fun e : (k : Int) = 2 => q2 (by omega)
            have HP : Hid (decide (PlOne k false n) = false) := decide_eq_false (by rintro ⟨h1, h2, h3⟩; first | omega | (rcases h2 with h2 | h2; cases h2; omega))
            clear qle
            clear qn
            clear q2
            go_wp2
            go_meet
            case rel => exact ⟨by rw [HP.out], rfl⟩
      | true =>
        by_cases q1 : k = 1
        · have k1 : ((k : Int) == 1) = true := by simp [q1]
          by_cases qn : n = 0
          · have tn : (n == 0) = true := by rw [qn]; rfl
            have HP : Hid (decide (PlOne k true n) = true) := decide_eq_true ⟨by omega, by first | exact .inl rfl | exact .inr ‹k = 1›, by omega⟩
            clear qle
            clear q1
            clear qn
            go_wp2
            go_meet
            case rel => exact ⟨by rw [HP.out], rfl⟩
          · have tn : (n == 0) = false := by simpa using qn
            by_cases q2 : k = 2
            · have k2 : ((k : Int) == 2) = true := by simp [q2]
              have HP : Hid (decide (PlOne k true n) = true) := decide_eq_true ⟨by omega, by first | exact .inl rfl | exact .inr ‹k = 1›, by omega⟩
              clear qle
              clear q1
              clear qn
              clear q2
              go_wp2
              go_meet
              case rel => exact ⟨by rw [HP.out], rfl⟩
            · have k2 : ((k : Int) == 2) = false := by simpa using fun e : (k : Int) = 2 => q2 (by omega)
              have HP : Hid (decide (PlOne k true n) = false) := decide_eq_false (by rintro ⟨h1, h2, h3⟩; first | omega | (rcases h2 with h2 | h2; cases h2; omega))
              clear qle
              clear q1
              clear qn
              clear q2
              go_wp2
              go_meet
              case rel => exact ⟨by rw [HP.out], rfl⟩
        · have k1 : ((k : Int) == 1) = false := by simpa using fun e : (k : Int) = 1 => q1 (by omega)
          have HP : Hid (decide (PlOne k true n) = false) := decide_eq_false (by rintro ⟨h1, h2, h3⟩; first | omega | (rcases h2 with h2 | h2; cases h2; omega))
          clear qle
          clear q1
          go_wp2
          go_meet
          case rel => exact ⟨by rw [HP.out], rfl⟩
    · have kle : ¬ (k : Int) ≤ 6 := by omega
      have HP : Hid (decide (PlOne k b n) = false) := decide_eq_false (by rintro ⟨h1, h2, h3⟩; first | omega | (rcases h2 with h2 | h2; cases h2; omega))
      clear qle
      go_wp2
      go_meet
      case rel => exact ⟨by rw [HP.out], rfl⟩
  case rest =>
  obtain ⟨rfl, rfl⟩ := hcut
  obtain ⟨B1, hB1⟩ : ∃ B, decide (PlOne k b n) = B := ⟨_, rfl⟩
  rw [hB1]
  have HB1 : Hid (decide (PlOne k b n) = B1) := hB1
  clear hB1
  go_upto_region 3 with fail
  go_cut [5] from 7 (fun s5 wc => s5 = .bool (decide (PlTwo k t)) ∧ wc = w.alloc (.cells #[.int .u8 (k : Int), .bool b, .int .i64 n, .string t, .slice nq nl nc, .slice iq il ic] 25))
  case first =>
    by_cases qt : t.size = 0
    · have tt : (t.toList == []) = true := by rw [ZT.out]; simp [qt]
      have HP : Hid (decide (PlTwo k t) = true) := decide_eq_true (by unfold PlTwo; omega)
      clear qt
      go_wp2
      go_meet
      case rel => exact ⟨by rw [HP.out], rfl⟩
    · have tt : (t.toList == []) = false := by rw [ZT.out]; simp [qt]
      by_cases q3 : k = 3
      · have k3 : ((k : Int) == 3) = true := by simp [q3]
        have HP : Hid (decide (PlTwo k t) = true) := decide_eq_true (by unfold PlTwo; omega)
        clear qt
        clear q3
        go_wp2
        go_meet
        case rel => exact ⟨by rw [HP.out], rfl⟩
      · have k3 : ((k : Int) == 3) = false := by simpa using fun e : (k : Int) = 3 => q3 (by omega)
        by_cases q4 : k = 4
        · have k4 : ((k : Int) == 4) = true := by simp [q4]
          have HP : Hid (decide (PlTwo k t) = true) := decide_eq_true (by unfold PlTwo; omega)
          clear qt
          clear q3
          clear q4
          go_wp2
          go_meet
          case rel => exact ⟨by rw [HP.out], rfl⟩
        · have k4 : ((k : Int) == 4) = false := by simpa using fun e : (k : Int) = 4 => q4 (by omega)
          have HP : Hid (decide (PlTwo k t) = false) := decide_eq_false (by unfold PlTwo; omega)
          clear qt
          clear q3
          clear q4
          go_wp2
          go_meet
          case rel => exact ⟨by rw [HP.out], rfl⟩
  case rest =>
  obtain ⟨rfl, rfl⟩ := hcut
  obtain ⟨B2, hB2⟩ : ∃ B, decide (PlTwo k t) = B := ⟨_, rfl⟩
  rw [hB2]
  have HB2 : Hid (decide (PlTwo k t) = B2) := hB2
  clear hB2
  go_upto_region 4 with fail
  go_cut [6] from 7 (fun s6 wc => s6 = .bool (decide (PlThr k il)) ∧ wc = w.alloc (.cells #[.int .u8 (k : Int), .bool b, .int .i64 n, .string t, .slice nq nl nc, .slice iq il ic] 25))
  case first =>
    by_cases qi : il = 0
    · have ti : ((il : Int) == 0) = true := by rw [qi]; rfl
      have HP : Hid (decide (PlThr k il) = true) := decide_eq_true (by unfold PlThr; omega)
      clear qi
      go_wp2
      go_meet
      case rel => exact ⟨by rw [HP.out], rfl⟩
    · have ti : ((il : Int) == 0) = false := by simpa using fun e : (il : Int) = 0 => qi (by omega)
      by_cases q5 : k = 5
      · have k5 : ((k : Int) == 5) = true := by simp [q5]
        have HP : Hid (decide (PlThr k il) = true) := decide_eq_true (by unfold PlThr; omega)
        clear qi
        clear q5
        go_wp2
        go_meet
        case rel => exact ⟨by rw [HP.out], rfl⟩
      · have k5 : ((k : Int) == 5) = false := by simpa using fun e : (k : Int) = 5 => q5 (by omega)
        by_cases q6 : k = 6
        · have k6 : ((k : Int) == 6) = true := by simp [q6]
          have HP : Hid (decide (PlThr k il) = true) := decide_eq_true (by unfold PlThr; omega)
          clear qi
          clear q5
          clear q6
          go_wp2
          go_meet
          case rel => exact ⟨by rw [HP.out], rfl⟩
        · have k6 : ((k : Int) == 6) = false := by simpa using fun e : (k : Int) = 6 => q6 (by omega)
          have HP : Hid (decide (PlThr k il) = false) := decide_eq_false (by unfold PlThr; omega)
          clear qi
          clear q5
          clear q6
          go_wp2
          go_meet
          case rel => exact ⟨by rw [HP.out], rfl⟩
  case rest =>
  obtain ⟨rfl, rfl⟩ := hcut
  obtain ⟨B3, hB3⟩ : ∃ B, decide (PlThr k il) = B := ⟨_, rfl⟩
  rw [hB3]
  have HB3 : Hid (decide (PlThr k il) = B3) := hB3
  clear hB3
  cases B1 with
  | false =>
    have HP : Hid (decide (PlP k b n t nl il) = false) := decide_eq_false (fun h => absurd (decide_eq_true h.1) (by rw [HB1.out]; decide))
    go_wp2
    go_ret
    rw [HP.out]
    exact ⟨rfl, HB.out⟩
  | true =>
    cases B2 with
    | false =>
      have HP : Hid (decide (PlP k b n t nl il) = false) := decide_eq_false (fun h => absurd (decide_eq_true h.2.1) (by rw [HB2.out]; decide))
      go_wp2
      go_ret
      rw [HP.out]
      exact ⟨rfl, HB.out⟩
    | true =>
      cases B3 with
      | false =>
        have HP : Hid (decide (PlP k b n t nl il) = false) := decide_eq_false (fun h => absurd (decide_eq_true h.2.2.1) (by rw [HB3.out]; decide))
        go_wp2
        go_ret
        rw [HP.out]
        exact ⟨rfl, HB.out⟩
      | true =>
        by_cases qn : nl = 0
        · have tn : ((nl : Int) == 0) = true := by rw [qn]; rfl
          have HP : Hid (decide (PlP k b n t nl il) = true) := decide_eq_true ⟨of_decide_eq_true HB1.out, of_decide_eq_true HB2.out, of_decide_eq_true HB3.out, by omega⟩
          clear qn
          go_wp2
          go_ret
          rw [HP.out]
          exact ⟨rfl, HB.out⟩
        · have tn : ((nl : Int) == 0) = false := by simpa using fun e : (nl : Int) = 0 => qn (by omega)
          by_cases q6 : k = 6
          · have k6 : ((k : Int) == 6) = true := by simp [q6]
            have HP : Hid (decide (PlP k b n t nl il) = true) := decide_eq_true ⟨of_decide_eq_true HB1.out, of_decide_eq_true HB2.out, of_decide_eq_true HB3.out, by omega⟩
            clear q6
            clear qn
            go_wp2
            go_ret
            rw [HP.out]
            exact ⟨rfl, HB.out⟩
          · have k6 : ((k : Int) == 6) = false := by simpa using fun e : (k : Int) = 6 => q6 (by omega)
            have HP : Hid (decide (PlP k b n t nl il) = false) := decide_eq_false (by rintro ⟨_, _, _, h⟩; omega)
            clear q6
            clear qn
            go_wp2
            go_ret
            rw [HP.out]
            exact ⟨rfl, HB.out⟩
end Go.Proofs.YtblnoekogdpolaaDoor
