import Derived.Test.YtcfalgomcdmdhaaDoorJDTm
import Derived.Test.YtcfalgomcdmdhaaDoorJDRd
import Derived.Test.YtcfalgomcdmdhaaDoorJChk
import Derived.Test.YtcfalgomcdmdhaaDoorJCkA
namespace Go.Proofs.YtcfalgomcdmdhaaDoor
open Go.RowKit Go.WideShapes Go.Joins
def FmAt : RS → Prop
  | .live s i => J.Fm ((numsOf s).drop i)
  | .dead _ _ => False
theorem fmat_low {s : ByteArray} {i : Nat} (hi : i < s.size) (h : (numsOf s).getD i 0 < 128) : FmAt (.live s i) ↔ FmAt (.live s (i + 1)) := by
  unfold FmAt
  simp only []
  rw [rest_cons hi]
  exact ⟨fun x => fm_low x h, fun x => .low _ _ h x⟩
theorem fmat_char {s : ByteArray} {i : Nat} (hi : i < s.size) (h : ¬ (numsOf s).getD i 0 < 128) : FmAt (.live s i) ↔ FmAt (goR J.char (.live s i)).1 := by
  have h' : 128 ≤ (numsOf s).getD i 0 := by omega
  have hr := rest_cons hi
  simp only [goR]
  cases hv : J.char ((numsOf s).drop i) with
  | ok v r =>
    obtain ⟨p, h1, h2, h3, h4⟩ := J.char_ok hv
    have hb := rest_back (s := s) (i := i) h1
    simp only [FmAt]
    rw [hb]
    constructor
    · intro hf
      rw [hr] at hf hv
      obtain ⟨r', e, hs⟩ := fm_char hf h'
      rw [e] at hv
      cases hv
      exact hs
    · intro hf
      rw [h1]
      exact .high p _ h2 h3 h4 hf
  | bad e r =>
    simp only [FmAt, iff_false]
    intro hf
    rw [hr] at hf hv
    obtain ⟨r', e, _⟩ := fm_char hf h'
    rw [e] at hv
    cases hv
  | out =>
    simp only [FmAt, iff_false]
    intro hf
    rw [hr] at hf hv
    obtain ⟨r', e, _⟩ := fm_char hf h'
    rw [e] at hv
    cases hv
theorem fmat_end {s : ByteArray} {i : Nat} (hi : ¬ i < s.size) : FmAt (.live s i) := by
  unfold FmAt
  simp only []
  rw [rest_nil hi]
  exact .nil
theorem char_left {s : ByteArray} {i : Nat} (hi : i < s.size) : (goR J.char (.live s i)).1.left < (RS.live s i).left ∨ ∃ t e, (goR J.char (.live s i)).1 = .dead t e := by
  rcases stays J.char (s := s) (i := i) with ⟨j, hj⟩ | h
  · have := char_adv hj
    rw [hj]
    refine .inl ?_
    simp only [RS.left, RS.s, RS.i]
    omega
  · exact .inr h
inductive DFmI (s : ByteArray) (b : Nat) (w : World) (gk : Nat) (wr : World) : Prop where
  | intro (σ : RS) (hr : DIn wr b s 0 σ) (he : FmAt (.live s 0) ↔ FmAt σ) (hm : (∃ t e, σ = .dead t e) ∨ σ.left < gk) (hg : Below w.heap.size w wr)
theorem tx_bool {s : ByteArray} (hs : s.size ≤ 16384) {B : Bool} (h : B = true ↔ FmAt (.live s 0)) : isTx s = B := by
  have := isTx_iff s
  cases B with
  | true =>
    rw [this]
    exact ⟨hs, h.1 rfl⟩
  | false =>
    cases hv : isTx s with
    | false => rfl
    | true => exact absurd (h.2 ((this.1 hv).2)) (by decide)
set_option maxHeartbeats 2000000 in
set_option maxRecDepth 8000 in
theorem dFormed_any (s : ByteArray) (w : World) : Calls Tryd.prog 46 #[.string s] w fun e w' => e = .returned (.bool (isTx s)) ∧ Below w.heap.size w w' := by
  by_cases hs : 16384 < s.size
  · have e1 : isTx s = false := by unfold isTx; rw [decide_eq_false (by omega), Bool.false_and]
    rw [e1]
    have hq : (16384 : Int) < (s.size : Int) := by omega
    clear hs e1
    go_enter Tryd.func46, Tryd.ntmps46
    go_wp2_with fail
    go_ret
    exact ⟨rfl, Below.refl _ _⟩
  · have hq : ¬ (16384 : Int) < (s.size : Int) := by omega
    have HS : Hid (s.size ≤ 16384) := by show _ ≤ _; omega
    have b1 := below_new w (rrbox s)
    have n1 := _root_.Go.heap_alloc_new w (rrbox s)
    have h1 : DIn (w.alloc (rrbox s)) w.heap.size s 0 (.live s 0) := ⟨Nat.zero_le _, by have := HS.out; omega, by omega, 0, 0, by omega, by omega, n1, (fun s' j e => by cases e; exact ⟨rfl, rfl⟩), (fun s' e e' => by cases e')⟩
    have HI : Hid (DIn (w.alloc (rrbox s)) w.heap.size s 0 (.live s 0) ∧ Below w.heap.size w (w.alloc (rrbox s))) := ⟨h1, b1⟩
    clear hs b1 n1 h1
    unfold rrbox at HI
    go_enter Tryd.func46, Tryd.ntmps46
    go_wp2_with fail
    go_loopg [] (s.size + 1) (fun gk wr => DFmI s w.heap.size w gk wr)
    case atStart => exact ⟨_, HI.out.1, Iff.rfl, .inr (by simp only [RS.left, RS.s, RS.i]; omega), HI.out.2⟩
    case round =>
      clear HI
      obtain ⟨σ, hr, he, hm, hg⟩ := hrel
      cases σ with
      | dead t e =>
        obtain ⟨i8, at8, _, _, hb8, _, hd8⟩ := hr.ex
        have c2 : wr.cell? ⟨w.heap.size, 2, none⟩ = some (.int .i64 (e : Int)) := by rw [cell_of_block hb8]; rfl
        have hne := hr.ok.1
        have k1 : ((e : Int) == 0) = false := by simpa using fun q : (e : Int) = 0 => hne (by omega)
        have E1 : Hid (isTx s = false) := tx_bool (s := s) HS.out (B := false) (by rw [he]; simp [FmAt])
        have HG : Hid (Below w.heap.size w wr) := hg
        clear hr he hm hg hb8 hd8 hne
        go_wp2_with fail
        go_ret
        rw [E1.out]
        exact ⟨rfl, HG.out⟩
      | live s' i =>
        obtain rfl := hr.is
        obtain ⟨i8, at8, _, _, hb8, hl8, _⟩ := hr.ex
        obtain ⟨_, rfl⟩ := hl8 _ _ rfl
        have c1 : wr.cell? ⟨w.heap.size, 1, none⟩ = some (.int .i64 (i8 : Int)) := by rw [cell_of_block hb8]; rfl
        have c2 : wr.cell? ⟨w.heap.size, 2, none⟩ = some (.int .i64 0) := by rw [cell_of_block hb8]; rfl
        have f1 : wr.frozen? ⟨w.heap.size, 1, none⟩ = false := unfrozen_of_block hb8 1
        have hm2 : (RS.live s' i8).left < gk := by
          rcases hm with ⟨t, e, h⟩ | h
          · cases h
          · exact h
        by_cases hi : i8 < s'.size
        · have hiI : (i8 : Int) < (s'.size : Int) := by omega
          have hx := fun w' => str_at s' i8 hi w'
          by_cases hc : (numsOf s').getD i8 0 < 128
          · have hst := hr.step hi
            have hfm := fmat_low hi hc
            obtain ⟨c, hcc⟩ : ∃ c, (numsOf s').getD i8 0 = c := ⟨_, rfl⟩
            rw [hcc] at hx hc
            have hcI : (c : Int) < 128 := by omega
            have HH : Hid (DFmI s' w.heap.size w (gk - 1) (wr.setCell ⟨w.heap.size, 1, none⟩ (.int .i64 ((i8 : Int) + 1))) ∧ 0 < gk) :=
              ⟨⟨_, hst, he.trans hfm, .inr (by simp only [RS.left, RS.s, RS.i] at hm2 ⊢; omega), below_of_grown hg (grown_set _ _ _ _) (Nat.le_refl _)⟩, by omega⟩
            have hi2 : (i8 : Int) < 20001 := by have := HS.out; omega
            have hi0 : (0 : Int) ≤ (i8 : Int) := by omega
            clear hr he hm hg hb8 hl8 hm2 hst hfm hcc hi
            go_wp2_with fail
            go_roundg (gk - 1)
            case measure => have := HH.out.2; omega
            case rel => exact HH.out.1
          · have hfm := fmat_char hi hc
            have hcl := char_left (s := s') hi
            have Ch := dchar_any w.heap.size s' 0 (.live s' i8) wr hr
            obtain ⟨c, hcc⟩ : ∃ c, (numsOf s').getD i8 0 = c := ⟨_, rfl⟩
            rw [hcc] at hx hc
            have hcI : ¬ (c : Int) < 128 := by omega
            obtain ⟨σ2, h2⟩ : ∃ σ2, (goR J.char (.live s' i8)).1 = σ2 := ⟨_, rfl⟩
            rw [h2] at hfm hcl Ch
            have HH : Hid ((∀ w', DIn w' w.heap.size s' 0 σ2 → wr.grownBy w' (some w.heap.size) → DFmI s' w.heap.size w (gk - 1) w') ∧ 0 < gk) :=
              ⟨fun w' hd hg' => ⟨_, hd, he.trans hfm, hcl.elim (fun h => .inr (by omega)) .inl, below_of_grown hg hg' (Nat.le_refl _)⟩, by omega⟩
            unfold rp at Ch
            clear hr he hm hg hb8 hl8 hm2 hfm hcc hcl hi h2
            go_wp2_with fail
            refine Ch.mono ?_
            rintro e w2 ⟨rfl, h2, g2⟩
            have HF : Hid (DFmI s' w.heap.size w (gk - 1) w2) := HH.out.1 w2 h2 g2
            clear Ch h2 g2
            go_wp2_with fail
            go_roundg (gk - 1)
            case measure => have := HH.out.2; omega
            case rel => exact HF.out
        · have hiI : ¬ (i8 : Int) < (s'.size : Int) := by omega
          have E1 : Hid (isTx s' = true) := tx_bool (s := s') HS.out (B := true) (by rw [he]; exact ⟨fun _ => fmat_end hi, fun _ => rfl⟩)
          have HG : Hid (Below w.heap.size w wr) := hg
          clear hr he hm hg hb8 hl8 hm2 hi
          go_wp2_with fail
          go_ret
          rw [E1.out]
          exact ⟨rfl, HG.out⟩
end Go.Proofs.YtcfalgomcdmdhaaDoor
namespace Go.Proofs.YtcfalgomcdmdhaaDoor
open Go.RowKit Go.WideShapes Go.Joins
set_option maxHeartbeats 1000000 in
set_option maxRecDepth 8000 in
theorem dnumeral_any (s : ByteArray) (w : World) :
    Calls Tryd.prog 45 #[.string s] w fun e w' => e = .returned (.bool (isNm s)) ∧ Below w.heap.size w w' := by
  by_cases hs : s.size ≤ 16384
  · have hq : ¬ (16384 : Int) < (s.size : Int) := by omega
    have b1 := below_new w (rrbox s)
    have n1 := _root_.Go.heap_alloc_new w (rrbox s)
    have h1 : DIn (w.alloc (rrbox s)) w.heap.size s 0 (.live s 0) := ⟨Nat.zero_le _, by omega, by omega, 0, 0, by omega, by omega, n1, (fun s' j e => by cases e; exact ⟨rfl, rfl⟩), (fun s' e e' => by cases e')⟩
    have N := dnumber_any w.heap.size s 0 (.live s 0) _ h1
    have HB : Hid (Below w.heap.size w (w.alloc (rrbox s))) := b1
    have HN : Hid (isNm s = match J.number (numsOf s) with | .ok (.mk k _ _ _ _ _) r => decide (k = 3) && r.isEmpty | _ => false) := by
      show _ = _
      unfold isNm
      rw [decide_eq_true hs, Bool.true_and]
      rfl
    have hgz := goR_zero J.number s
    have hlen := numsOf_len s
    unfold rp rrbox at N
    unfold rrbox at HB
    clear hs b1 n1 h1
    go_enter Tryd.func45, Tryd.ntmps45
    go_wp2_with fail
    refine (show Calls _ _ _ (w.alloc (.cells #[.string s, .int .i64 0, .int .i64 0, .int .i64 0, .int .i64 0] 72)) _ from N.mono ?_)
    clear N
    rintro e w1 ⟨k, n, t, rfl, hk, hn, hv, h1, g1⟩
    simp only []
    have b2 := below_new w1 (.cells (flatA k false n t) 25)
    have n2 := _root_.Go.heap_alloc_new w1 (.cells (flatA k false n t) 25)
    have h2 := h1.below b2
    have BF : Below w.heap.size w (w1.alloc (.cells (flatA k false n t) 25)) := (below_of_grown HB.out g1 (Nat.le_refl _)).trans (b2.mono (Nat.le_trans HB.out.size (Nat.le_trans g1.size (Nat.le_refl _)) |> fun h => by omega))
    have x0 : (w1.alloc (.cells (flatA k false n t) 25)).cell? ⟨w1.heap.size, 0, none⟩ = some (.int .u8 (k : Int)) := by rw [cell_of_block n2]; rfl
    have HF : Hid (Below w.heap.size w (w1.alloc (.cells (flatA k false n t) 25))) := BF
    obtain ⟨i8, at8, _, _, hb8, hl8, _⟩ := h2.ex
    have d1 : (w1.alloc (.cells (flatA k false n t) 25)).cell? ⟨w.heap.size, 1, none⟩ = some (.int .i64 (i8 : Int)) := by rw [cell_of_block hb8]; rfl
    have d2 : (w1.alloc (.cells (flatA k false n t) 25)).cell? ⟨w.heap.size, 2, none⟩ = some (.int .i64 ((goR J.number (.live s 0)).1.e : Int)) := by rw [cell_of_block hb8]; rfl
    have ho := h2.ok
    unfold flatA jA at x0 HF d1 d2 ⊢
    clear b2 n2 h1 g1 BF hb8 h2
    cases hr : J.number (numsOf s) with
    | out =>
      exfalso
      rw [hr] at hgz
      simp only at hgz
      exact absurd hr (J.Never.number _)
    | bad er r =>
      rw [hr] at hgz HN
      simp only at hgz HN
      rw [hgz] at d2 ho
      simp only [RS.e] at d2
      have he : ((er : Int) == 0) = false := by simpa using fun q : (er : Int) = 0 => ho.1 (by omega)
      generalize (er : Int) = E at d2 he
      clear ho hgz hr hv hn hlen hl8
      go_wp2
      go_ret
      exact ⟨by rw [HN.out]; rfl, HF.out⟩
    | ok v r =>
      rw [hr] at hgz HN
      rw [hgz] at d2 hv hl8
      obtain ⟨_, rfl⟩ := hl8 _ _ rfl
      simp only [RS.e] at d2
      rw [show (((0 : Nat) : Int)) = 0 from rfl] at d2
      obtain rfl := hv v rfl
      obtain ⟨a, ha⟩ := J.Good.number.okS _ _ _ hr
      have hrl : r.length ≤ s.size := by rw [← hlen, ha, List.length_append]; omega
      by_cases hr0 : r = []
      · subst hr0
        simp only [List.length_nil, Nat.sub_zero, List.isEmpty_nil, Bool.and_true] at d1 HN
        have hS : ((s.size : Int) == (s.size : Int)) = true := beq_self_eq_true _
        by_cases hk3 : k = 3
        · subst hk3
          simp only [show (((3 : Nat) : Int)) = 3 from rfl] at x0 HF d1 d2 ⊢
          clear ho hgz hr hv hn hlen ha hrl hl8
          go_wp2
          go_ret
          exact ⟨by rw [HN.out]; rfl, HF.out⟩
        · have n3 : ((k : Int) == 3) = false := by simpa using fun e : (k : Int) = 3 => hk3 (by omega)
          have HK : Hid (decide (k = 3) = false) := decide_eq_false hk3
          clear ho hgz hr hv hn hlen ha hrl hk3 hk hl8
          go_wp2
          go_ret
          exact ⟨by rw [HN.out, HK.out]; rfl, HF.out⟩
      · have HK : Hid (r.isEmpty = false) := by cases r with
          | nil => exact absurd rfl hr0
          | cons => rfl
        have hpos : 0 < r.length := by cases r with
          | nil => exact absurd rfl hr0
          | cons => simp
        have hne : (((s.size - r.length : Nat) : Int) == (s.size : Int)) = false := by simpa using fun e : ((s.size - r.length : Nat) : Int) = (s.size : Int) => absurd e (by omega)
        generalize ((s.size - r.length : Nat) : Int) = I at d1 hne
        clear ho hgz hr hv hn hlen ha hrl hr0 hpos hl8
        go_wp2
        go_ret
        exact ⟨by rw [HN.out, HK.out]; simp, HF.out⟩
  · have hq : (16384 : Int) < (s.size : Int) := by omega
    have e1 : isNm s = false := by unfold isNm; rw [decide_eq_false hs, Bool.false_and]
    rw [e1]
    clear hs e1
    go_enter Tryd.func45, Tryd.ntmps45
    go_wp2_with fail
    go_ret
    exact ⟨rfl, Below.refl _ _⟩
end Go.Proofs.YtcfalgomcdmdhaaDoor
namespace Go.Proofs.YtcfalgomcdmdhaaDoor
open Go.RowKit Go.WideShapes Go.Joins
def PlOne (k : Nat) (b : Bool) (n : Int) : Prop := k ≤ 6 ∧ (b = false ∨ k = 1) ∧ (n = 0 ∨ k = 2)
def PlTwo (k : Nat) (t : ByteArray) : Prop := t.size = 0 ∨ k = 3 ∨ k = 4
def PlThr (k il : Nat) : Prop := il = 0 ∨ k = 5 ∨ k = 6
def PlP (k : Nat) (b : Bool) (n : Int) (t : ByteArray) (nl il : Nat) : Prop := PlOne k b n ∧ PlTwo k t ∧ PlThr k il ∧ (nl = 0 ∨ k = 6)
instance (k : Nat) (b : Bool) (n : Int) : Decidable (PlOne k b n) := by unfold PlOne; infer_instance
instance (k : Nat) (t : ByteArray) : Decidable (PlTwo k t) := by unfold PlTwo; infer_instance
instance (k il : Nat) : Decidable (PlThr k il) := by unfold PlThr; infer_instance
instance (k : Nat) (b : Bool) (n : Int) (t : ByteArray) (nl il : Nat) : Decidable (PlP k b n t nl il) := by unfold PlP; infer_instance
theorem has_pl {k : Nat} {b : Bool} {n : Int} {t : ByteArray} {nl il : Nat} : HasP k b n t nl il ↔ PlP k b n t nl il ∧ (k = 3 → isNm t = true) ∧ (k = 6 → nl = il) := by
  unfold HasP PlP PlOne PlTwo PlThr
  generalize t.size = z
  generalize isNm t = q
  rcases (by omega : k = 0 ∨ k = 1 ∨ k = 2 ∨ k = 3 ∨ k = 4 ∨ k = 5 ∨ k = 6 ∨ 6 < k) with rfl | rfl | rfl | rfl | rfl | rfl | rfl | h
  iterate 7 (cases b <;> cases q <;> simp <;> omega)
  constructor
  · rintro (⟨e, _⟩ | ⟨e, _⟩ | ⟨e, _⟩ | ⟨e, _⟩ | ⟨e, _⟩ | ⟨e, _⟩ | ⟨e, _⟩) <;> exact absurd e (by omega)
  · rintro ⟨⟨⟨e, _⟩, _⟩, _⟩
    exact absurd e (by omega)
set_option maxHeartbeats 4000000 in
set_option maxRecDepth 8000 in
theorem dplain_any (k : Nat) (b : Bool) (n : Int) (t : ByteArray) (nq iq : Option Addr) (nl nc il ic : Nat) (w : World) :
    Calls Tryd.prog 44 #[.agg (jA k b n t nq nl nc iq il ic)] w fun e w' => e = .returned (.bool (decide (PlP k b n t nl il))) ∧ Below w.heap.size w w' := by
  have b1 := below_new w (.cells (jA k b n t nq nl nc iq il ic) 25)
  have n1 := _root_.Go.heap_alloc_new w (.cells (jA k b n t nq nl nc iq il ic) 25)
  have zt : (t.toList == []) = decide (t.size = 0) := by
    have hl : t.toList.length = t.size := by rw [Lib.toList_data]; simp
    cases hh : t.toList with
    | nil => rw [hh] at hl; simp at hl; simp [← hl]
    | cons x y => rw [hh] at hl; simp at hl; simp [← hl]
  have ZT : Hid ((t.toList == []) = decide (t.size = 0)) := zt
  obtain ⟨⟨c0, c1, c2, c3, c4, c5⟩, f0, f1, f2, f3, f4, f5⟩ := row6_cells n1
  have HB : Hid (Below w.heap.size w (w.alloc (.cells (jA k b n t nq nl nc iq il ic) 25))) := b1
  unfold jA at c0 c1 c2 c3 c4 c5 f0 f1 f2 f3 f4 f5 HB ⊢
  clear b1 n1 zt
  go_enter Tryd.func44, Tryd.ntmps44
  go_upto_region 2 with fail
  go_cut [4] from 7 (fun s4 wc => s4 = .bool (decide (PlOne k b n)) ∧ wc = w.alloc (.cells #[.int .u8 (k : Int), .bool b, .int .i64 n, .string t, .slice nq nl nc, .slice iq il ic] 25))
  case first =>
    by_cases qle : k ≤ 6
    · have kle : (k : Int) ≤ 6 := by omega
      cases b with
      | false =>
        by_cases qn : n = 0
        · have tn : (n == 0) = true := by rw [qn]; rfl
          have HP : Hid (decide (PlOne k false n) = true) := decide_eq_true ⟨by omega, by first | exact .inl rfl | exact .inr ‹k = 1›, by omega⟩
          clear qle
          clear qn
          go_wp2
          go_meet
          case rel => exact ⟨by rw [HP.out], rfl⟩
        · have tn : (n == 0) = false := by simpa using qn
          by_cases q2 : k = 2
          · have k2 : ((k : Int) == 2) = true := by simp [q2]
            have HP : Hid (decide (PlOne k false n) = true) := decide_eq_true ⟨by omega, by first | exact .inl rfl | exact .inr ‹k = 1›, by omega⟩
            clear qle
            clear qn
            clear q2
            go_wp2
            go_meet
            case rel => exact ⟨by rw [HP.out], rfl⟩
          · have k2 : ((k : Int) == 2) = false := by simpa using fun e : (k : Int) = 2 => q2 (by omega)
            have HP : Hid (decide (PlOne k false n) = false) := decide_eq_false (by rintro ⟨h1, h2, h3⟩; first | omega | (rcases h2 with h2 | h2; cases h2; omega))
            clear qle
            clear qn
            clear q2
            go_wp2
            go_meet
            case rel => exact ⟨by rw [HP.out], rfl⟩
      | true =>
        by_cases q1 : k = 1
        · have k1 : ((k : Int) == 1) = true := by simp [q1]
          by_cases qn : n = 0
          · have tn : (n == 0) = true := by rw [qn]; rfl
            have HP : Hid (decide (PlOne k true n) = true) := decide_eq_true ⟨by omega, by first | exact .inl rfl | exact .inr ‹k = 1›, by omega⟩
            clear qle
            clear q1
            clear qn
            go_wp2
            go_meet
            case rel => exact ⟨by rw [HP.out], rfl⟩
          · have tn : (n == 0) = false := by simpa using qn
            by_cases q2 : k = 2
            · have k2 : ((k : Int) == 2) = true := by simp [q2]
              have HP : Hid (decide (PlOne k true n) = true) := decide_eq_true ⟨by omega, by first | exact .inl rfl | exact .inr ‹k = 1›, by omega⟩
              clear qle
              clear q1
              clear qn
              clear q2
              go_wp2
              go_meet
              case rel => exact ⟨by rw [HP.out], rfl⟩
            · have k2 : ((k : Int) == 2) = false := by simpa using fun e : (k : Int) = 2 => q2 (by omega)
              have HP : Hid (decide (PlOne k true n) = false) := decide_eq_false (by rintro ⟨h1, h2, h3⟩; first | omega | (rcases h2 with h2 | h2; cases h2; omega))
              clear qle
              clear q1
              clear qn
              clear q2
              go_wp2
              go_meet
              case rel => exact ⟨by rw [HP.out], rfl⟩
        · have k1 : ((k : Int) == 1) = false := by simpa using fun e : (k : Int) = 1 => q1 (by omega)
          have HP : Hid (decide (PlOne k true n) = false) := decide_eq_false (by rintro ⟨h1, h2, h3⟩; first | omega | (rcases h2 with h2 | h2; cases h2; omega))
          clear qle
          clear q1
          go_wp2
          go_meet
          case rel => exact ⟨by rw [HP.out], rfl⟩
    · have kle : ¬ (k : Int) ≤ 6 := by omega
      have HP : Hid (decide (PlOne k b n) = false) := decide_eq_false (by rintro ⟨h1, h2, h3⟩; first | omega | (rcases h2 with h2 | h2; cases h2; omega))
      clear qle
      go_wp2
      go_meet
      case rel => exact ⟨by rw [HP.out], rfl⟩
  case rest =>
  obtain ⟨rfl, rfl⟩ := hcut
  obtain ⟨B1, hB1⟩ : ∃ B, decide (PlOne k b n) = B := ⟨_, rfl⟩
  rw [hB1]
  have HB1 : Hid (decide (PlOne k b n) = B1) := hB1
  clear hB1
  go_upto_region 3 with fail
  go_cut [5] from 7 (fun s5 wc => s5 = .bool (decide (PlTwo k t)) ∧ wc = w.alloc (.cells #[.int .u8 (k : Int), .bool b, .int .i64 n, .string t, .slice nq nl nc, .slice iq il ic] 25))
  case first =>
    by_cases qt : t.size = 0
    · have tt : (t.toList == []) = true := by rw [ZT.out]; simp [qt]
      have HP : Hid (decide (PlTwo k t) = true) := decide_eq_true (by unfold PlTwo; omega)
      clear qt
      go_wp2
      go_meet
      case rel => exact ⟨by rw [HP.out], rfl⟩
    · have tt : (t.toList == []) = false := by rw [ZT.out]; simp [qt]
      by_cases q3 : k = 3
      · have k3 : ((k : Int) == 3) = true := by simp [q3]
        have HP : Hid (decide (PlTwo k t) = true) := decide_eq_true (by unfold PlTwo; omega)
        clear qt
        clear q3
        go_wp2
        go_meet
        case rel => exact ⟨by rw [HP.out], rfl⟩
      · have k3 : ((k : Int) == 3) = false := by simpa using fun e : (k : Int) = 3 => q3 (by omega)
        by_cases q4 : k = 4
        · have k4 : ((k : Int) == 4) = true := by simp [q4]
          have HP : Hid (decide (PlTwo k t) = true) := decide_eq_true (by unfold PlTwo; omega)
          clear qt
          clear q3
          clear q4
          go_wp2
          go_meet
          case rel => exact ⟨by rw [HP.out], rfl⟩
        · have k4 : ((k : Int) == 4) = false := by simpa using fun e : (k : Int) = 4 => q4 (by omega)
          have HP : Hid (decide (PlTwo k t) = false) := decide_eq_false (by unfold PlTwo; omega)
          clear qt
          clear q3
          clear q4
          go_wp2
          go_meet
          case rel => exact ⟨by rw [HP.out], rfl⟩
  case rest =>
  obtain ⟨rfl, rfl⟩ := hcut
  obtain ⟨B2, hB2⟩ : ∃ B, decide (PlTwo k t) = B := ⟨_, rfl⟩
  rw [hB2]
  have HB2 : Hid (decide (PlTwo k t) = B2) := hB2
  clear hB2
  go_upto_region 4 with fail
  go_cut [6] from 7 (fun s6 wc => s6 = .bool (decide (PlThr k il)) ∧ wc = w.alloc (.cells #[.int .u8 (k : Int), .bool b, .int .i64 n, .string t, .slice nq nl nc, .slice iq il ic] 25))
  case first =>
    by_cases qi : il = 0
    · have ti : ((il : Int) == 0) = true := by rw [qi]; rfl
      have HP : Hid (decide (PlThr k il) = true) := decide_eq_true (by unfold PlThr; omega)
      clear qi
      go_wp2
      go_meet
      case rel => exact ⟨by rw [HP.out], rfl⟩
    · have ti : ((il : Int) == 0) = false := by simpa using fun e : (il : Int) = 0 => qi (by omega)
      by_cases q5 : k = 5
      · have k5 : ((k : Int) == 5) = true := by simp [q5]
        have HP : Hid (decide (PlThr k il) = true) := decide_eq_true (by unfold PlThr; omega)
        clear qi
        clear q5
        go_wp2
        go_meet
        case rel => exact ⟨by rw [HP.out], rfl⟩
      · have k5 : ((k : Int) == 5) = false := by simpa using fun e : (k : Int) = 5 => q5 (by omega)
        by_cases q6 : k = 6
        · have k6 : ((k : Int) == 6) = true := by simp [q6]
          have HP : Hid (decide (PlThr k il) = true) := decide_eq_true (by unfold PlThr; omega)
          clear qi
          clear q5
          clear q6
          go_wp2
          go_meet
          case rel => exact ⟨by rw [HP.out], rfl⟩
        · have k6 : ((k : Int) == 6) = false := by simpa using fun e : (k : Int) = 6 => q6 (by omega)
          have HP : Hid (decide (PlThr k il) = false) := decide_eq_false (by unfold PlThr; omega)
          clear qi
          clear q5
          clear q6
          go_wp2
          go_meet
          case rel => exact ⟨by rw [HP.out], rfl⟩
  case rest =>
  obtain ⟨rfl, rfl⟩ := hcut
  obtain ⟨B3, hB3⟩ : ∃ B, decide (PlThr k il) = B := ⟨_, rfl⟩
  rw [hB3]
  have HB3 : Hid (decide (PlThr k il) = B3) := hB3
  clear hB3
  cases B1 with
  | false =>
    have HP : Hid (decide (PlP k b n t nl il) = false) := decide_eq_false (fun h => absurd (decide_eq_true h.1) (by rw [HB1.out]; decide))
    go_wp2
    go_ret
    rw [HP.out]
    exact ⟨rfl, HB.out⟩
  | true =>
    cases B2 with
    | false =>
      have HP : Hid (decide (PlP k b n t nl il) = false) := decide_eq_false (fun h => absurd (decide_eq_true h.2.1) (by rw [HB2.out]; decide))
      go_wp2
      go_ret
      rw [HP.out]
      exact ⟨rfl, HB.out⟩
    | true =>
      cases B3 with
      | false =>
        have HP : Hid (decide (PlP k b n t nl il) = false) := decide_eq_false (fun h => absurd (decide_eq_true h.2.2.1) (by rw [HB3.out]; decide))
        go_wp2
        go_ret
        rw [HP.out]
        exact ⟨rfl, HB.out⟩
      | true =>
        by_cases qn : nl = 0
        · have tn : ((nl : Int) == 0) = true := by rw [qn]; rfl
          have HP : Hid (decide (PlP k b n t nl il) = true) := decide_eq_true ⟨of_decide_eq_true HB1.out, of_decide_eq_true HB2.out, of_decide_eq_true HB3.out, by omega⟩
          clear qn
          go_wp2
          go_ret
          rw [HP.out]
          exact ⟨rfl, HB.out⟩
        · have tn : ((nl : Int) == 0) = false := by simpa using fun e : (nl : Int) = 0 => qn (by omega)
          by_cases q6 : k = 6
          · have k6 : ((k : Int) == 6) = true := by simp [q6]
            have HP : Hid (decide (PlP k b n t nl il) = true) := decide_eq_true ⟨of_decide_eq_true HB1.out, of_decide_eq_true HB2.out, of_decide_eq_true HB3.out, by omega⟩
            clear q6
            clear qn
            go_wp2
            go_ret
            rw [HP.out]
            exact ⟨rfl, HB.out⟩
          · have k6 : ((k : Int) == 6) = false := by simpa using fun e : (k : Int) = 6 => q6 (by omega)
            have HP : Hid (decide (PlP k b n t nl il) = false) := decide_eq_false (by rintro ⟨_, _, _, h⟩; omega)
            clear q6
            clear qn
            go_wp2
            go_ret
            rw [HP.out]
            exact ⟨rfl, HB.out⟩
end Go.Proofs.YtcfalgomcdmdhaaDoor
