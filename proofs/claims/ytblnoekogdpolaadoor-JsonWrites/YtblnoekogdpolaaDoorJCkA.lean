import Derived.Test.YtblnoekogdpolaaDoorJChk
import Derived.Test.YtblnoekogdpolaaDoorJDSt
namespace Go.Proofs.YtblnoekogdpolaaDoor
open Go.RowKit Go.WideShapes Go.Joins
theorem isText_any (s : ByteArray) (w : World) (hL : Laid w) :
    Calls Tryd.prog 49 #[.string s] w fun e w' => e = .returned (.bool (isTx s)) ∧ Below w.heap.size w w' := by
  by_cases hs : s.size ≤ 16384
  · have V := Any.utf8_ValidString lays196 s w (by omega) hL.u8
    have e1 : isTx s = Lib.validD s.data.toList := by unfold isTx; rw [decide_eq_true hs, Bool.true_and]
    rw [e1]
    generalize Lib.validD s.data.toList = B at V
    have hq : (s.size : Int) ≤ 16384 := by omega
    clear hL hs e1
    go_enter Tryd.func49, Tryd.ntmps49
    go_wp2_with (go_at_call 80; refine V.mono ?_; rintro e w1 ⟨rfl, hb⟩)
    go_ret
    exact ⟨rfl, hb⟩
  · have e1 : isTx s = false := by unfold isTx; rw [decide_eq_false hs, Bool.false_and]
    rw [e1]
    have hq : ¬ (s.size : Int) ≤ 16384 := by omega
    clear hL hs e1
    go_enter Tryd.func49, Tryd.ntmps49
    go_wp2_with fail
    go_ret
    exact ⟨rfl, Below.refl _ _⟩
theorem goR_zero (p : J.Rd J.JV) (s : ByteArray) : goR p (.live s 0) = (match p (numsOf s) with
      | .ok v r => (.live s (s.size - r.length), some v)
      | .bad e r => (.dead (cutS s (s.size - r.length)) e, none)
      | .out => (.dead s 160, none)) := by
  simp only [goR, List.drop_zero]
  cases p (numsOf s) <;> rfl
set_option maxHeartbeats 1000000 in
set_option maxRecDepth 8000 in
theorem isOther_any (s : ByteArray) (w : World) (h8 : 8 ≤ w.heap.size) (hL : Laid w) :
    Calls Tryd.prog 115 #[.string s] w fun e w' => e = .returned (.bool (isNm s)) ∧ Below w.heap.size w w' := by
  by_cases hs : s.size ≤ 16384
  · have hq : (s.size : Int) ≤ 16384 := by omega
    have hq2 : ¬ (16384 : Int) < (s.size : Int) := by omega
    have b1 := below_new w (.cells #[.string s, .int .i64 0, .int .i64 0] 59)
    have n1 := _root_.Go.heap_alloc_new w (.cells #[.string s, .int .i64 0, .int .i64 0] 59)
    have hR : RIn (w.alloc (.cells #[.string s, .int .i64 0, .int .i64 0] 59)) w.heap.size (.live s 0) := ⟨Nat.zero_le _, hs, n1⟩
    have N := number_any w.heap.size (.live s 0) _ hR h8 (hL.below b1 h8)
    have HB : Hid (Below w.heap.size w (w.alloc (.cells #[.string s, .int .i64 0, .int .i64 0] 59))) := b1
    have HN : Hid (isNm s = match J.number (numsOf s) with | .ok (.mk k _ _ _ _ _) r => decide (k = 3) && r.isEmpty | _ => false) := by
      show _ = _
      unfold isNm
      rw [decide_eq_true hs, Bool.true_and]
      rfl
    have hgz := goR_zero J.number s
    have hlen := numsOf_len s
    unfold rp at N
    clear h8 hL hs b1 n1 hR
    go_enter Tryd.func115, Tryd.ntmps115
    go_wp2_with fail
    refine (show Calls _ _ _ (w.alloc (.cells #[.string s, .int .i64 0, .int .i64 0] 59)) _ from N.mono ?_)
    clear N
    rintro e w1 ⟨k, n, t, rfl, hk, hn, hv, h1, g1⟩
    simp only []
    have b2 := below_new w1 (.cells (flatA k false n t) 25)
    have n2 := _root_.Go.heap_alloc_new w1 (.cells (flatA k false n t) 25)
    have h2 := h1.below b2
    have BF : Below w.heap.size w (w1.alloc (.cells (flatA k false n t) 25)) := (below_of_grown HB.out g1 (Nat.le_refl _)).trans (b2.mono (Nat.le_trans HB.out.size (Nat.le_trans g1.size (Nat.le_refl _)) |> fun h => by omega))
    have x0 : (w1.alloc (.cells (flatA k false n t) 25)).cell? ⟨w1.heap.size, 0, none⟩ = some (.int .u8 (k : Int)) := by rw [cell_of_block n2]; rfl
    have HF : Hid (Below w.heap.size w (w1.alloc (.cells (flatA k false n t) 25))) := BF
    unfold flatA jA at h2 x0 HF ⊢
    have d1 := h2.c1
    have d2 := h2.c2
    have ho := h2.ok
    clear b2 n2 h1 g1 BF
    cases hr : J.number (numsOf s) with
    | out =>
      exfalso
      rw [hr] at hgz
      simp only at hgz
      exact absurd hr (J.Never.number _)
    | bad er r =>
      rw [hr] at hgz HN
      simp only at hgz HN
      rw [hgz] at d1 d2 ho
      simp only [RS.e, RS.i] at d1 d2
      have he : ((er : Int) == 0) = false := by simpa using fun q : (er : Int) = 0 => ho.1 (by omega)
      generalize (er : Int) = E at d2 he
      generalize ((cutS s (s.size - r.length)).size : Int) = I at d1
      clear h2 ho hgz hr hv hn hlen
      go_wp2
      go_ret
      exact ⟨by rw [HN.out]; rfl, HF.out⟩
    | ok v r =>
      rw [hr] at hgz HN
      rw [hgz] at d1 d2 hv
      simp only [RS.e, RS.i] at d1 d2
      rw [show (((0 : Nat) : Int)) = 0 from rfl] at d2
      obtain rfl := hv v rfl
      obtain ⟨a, ha⟩ := J.Good.number.okS _ _ _ hr
      have hrl : r.length ≤ s.size := by rw [← hlen, ha, List.length_append]; omega
      by_cases hr0 : r = []
      · subst hr0
        simp only [List.length_nil, Nat.sub_zero, List.isEmpty_nil, Bool.and_true] at d1 HN
        have hS : ((s.size : Int) == (s.size : Int)) = true := beq_self_eq_true _
        by_cases hk3 : k = 3
        · subst hk3
          simp only [show (((3 : Nat) : Int)) = 3 from rfl] at x0 HF d1 d2 ⊢
          clear h2 ho hgz hr hv hn hlen ha hrl
          go_wp2
          go_ret
          exact ⟨by rw [HN.out]; rfl, HF.out⟩
        · have n3 : ((k : Int) == 3) = false := by simpa using fun e : (k : Int) = 3 => hk3 (by omega)
          have HK : Hid (decide (k = 3) = false) := decide_eq_false hk3
          clear h2 ho hgz hr hv hn hlen ha hrl hk3 hk
          go_wp2
          go_ret
          exact ⟨by rw [HN.out, HK.out]; rfl, HF.out⟩
      · have HK : Hid (r.isEmpty = false) := by cases r with
          | nil => exact absurd rfl hr0
          | cons => rfl
        have hpos : 0 < r.length := by cases r with
          | nil => exact absurd rfl hr0
          | cons => simp
        have hne : (((s.size - r.length : Nat) : Int) == (s.size : Int)) = false := by simpa using fun e : ((s.size - r.length : Nat) : Int) = (s.size : Int) => absurd e (by omega)
        generalize ((s.size - r.length : Nat) : Int) = I at d1 hne
        clear h2 ho hgz hr hv hn hlen ha hrl hr0 hpos
        go_wp2
        go_ret
        exact ⟨by rw [HN.out, HK.out]; simp, HF.out⟩
  · have hq : (16384 : Int) < (s.size : Int) := by omega
    have e1 : isNm s = false := by unfold isNm; rw [decide_eq_false hs, Bool.false_and]
    rw [e1]
    clear h8 hL hs e1
    go_enter Tryd.func115, Tryd.ntmps115
    go_wp2_with fail
    go_ret
    exact ⟨rfl, Below.refl _ _⟩
set_option maxHeartbeats 4000000 in
set_option maxRecDepth 8000 in
theorem hasForm_any (k : Nat) (b : Bool) (n : Int) (t : ByteArray) (nq iq : Option Addr) (nl nc il ic : Nat) (hk : k < 256) (w : World) (h8 : 8 ≤ w.heap.size) (hL : Laid w) :
    Calls Tryd.prog 98 #[.agg (jA k b n t nq nl nc iq il ic)] w fun e w' => e = .returned (.bool (decide (HasP k b n t nl il))) ∧ Below w.heap.size w w' := by
  have b1 := below_new w (.cells (jA k b n t nq nl nc iq il ic) 25)
  have n1 := _root_.Go.heap_alloc_new w (.cells (jA k b n t nq nl nc iq il ic) 25)
  have L1 := hL.below b1 h8
  have zt : (t.toList == []) = decide (t.size = 0) := by
    have hl : t.toList.length = t.size := by rw [Lib.toList_data]; simp
    cases hh : t.toList with
    | nil => rw [hh] at hl; simp at hl; simp [← hl]
    | cons x y => rw [hh] at hl; simp at hl; simp [← hl]
  have HF : Hid (∀ w', Below (w.alloc (.cells (jA k b n t nq nl nc iq il ic) 25)).heap.size (w.alloc (.cells (jA k b n t nq nl nc iq il ic) 25)) w' → w'.heap[w.heap.size]? = some (.cells (jA k b n t nq nl nc iq il ic) 25 (0, 0)) ∧ Below w.heap.size w w') := fun w' hb =>
    ⟨box_below n1 hb, below_more b1 hb⟩
  have IO := isOther_any t _ (Nat.le_trans h8 b1.size) L1
  have HB : Hid (Below w.heap.size w (w.alloc (.cells (jA k b n t nq nl nc iq il ic) 25))) := b1
  obtain ⟨⟨c0, c1, c2, c3, c4, c5⟩, f0, f1, f2, f3, f4, f5⟩ := row6_cells n1
  have HS : Hid (∀ (w' : World) (i : Nat) (v : Value), Below w.heap.size w w' → Below w.heap.size w (w'.setCell ⟨w.heap.size, i, none⟩ v)) := fun w' i v hb => hb.setCell (p := ⟨w.heap.size, i, none⟩) (Nat.le_refl _) _
  unfold jA at IO c0 c1 c2 c3 c4 c5 f0 f1 f2 f3 f4 f5 HF HB ⊢
  clear b1 n1 L1 h8 hL
  by_cases e0 : k = 0
  · subst e0
    simp only [show (((0 : Nat) : Int)) = 0 from rfl] at *
    by_cases q_b : b = false
    · by_cases q_n : n = 0
      · by_cases q_t : t.size = 0
        · by_cases q_nn : nl = 0
          · by_cases q_nv : il = 0
            · have vb : b = false := by exact q_b
              have tn : (n == 0) = true := by rw [q_n]; rfl
              have tt : (t.toList == []) = true := by rw [zt]; simp [q_t]
              have tnn : ((nl : Int) == 0) = true := by rw [q_nn]; rfl
              have tnv : ((il : Int) == 0) = true := by rw [q_nv]; rfl
              have HP : Hid (decide (HasP 0 b n t nl il) = true) := by show _ = _; simp [HasP, q_b, q_n, q_t, q_nn, q_nv]
              rw [HP.out]
              subst vb
              clear zt q_n q_t q_nn q_nv
              clear IO
              go_enter Tryd.func98, Tryd.ntmps98
              go_wp2
              go_ret
              exact ⟨rfl, below_new _ _⟩
            · have vb : b = false := by exact q_b
              have tn : (n == 0) = true := by rw [q_n]; rfl
              have tt : (t.toList == []) = true := by rw [zt]; simp [q_t]
              have tnn : ((nl : Int) == 0) = true := by rw [q_nn]; rfl
              have tnv : ((il : Int) == 0) = false := by simpa using fun e : (il : Int) = 0 => q_nv (by omega)
              have HP : Hid (decide (HasP 0 b n t nl il) = false) := by show _ = _; simp [HasP, q_b, q_n, q_t, q_nn, q_nv]
              rw [HP.out]
              subst vb
              clear zt q_n q_t q_nn q_nv
              clear IO
              go_enter Tryd.func98, Tryd.ntmps98
              go_wp2
              go_ret
              exact ⟨rfl, below_new _ _⟩
          · have vb : b = false := by exact q_b
            have tn : (n == 0) = true := by rw [q_n]; rfl
            have tt : (t.toList == []) = true := by rw [zt]; simp [q_t]
            have tnn : ((nl : Int) == 0) = false := by simpa using fun e : (nl : Int) = 0 => q_nn (by omega)
            have HP : Hid (decide (HasP 0 b n t nl il) = false) := by show _ = _; simp [HasP, q_b, q_n, q_t, q_nn]
            rw [HP.out]
            subst vb
            clear zt q_n q_t q_nn
            clear IO
            go_enter Tryd.func98, Tryd.ntmps98
            go_wp2
            go_ret
            exact ⟨rfl, below_new _ _⟩
        · have vb : b = false := by exact q_b
          have tn : (n == 0) = true := by rw [q_n]; rfl
          have tt : (t.toList == []) = false := by rw [zt]; simp [q_t]
          have HP : Hid (decide (HasP 0 b n t nl il) = false) := by show _ = _; simp [HasP, q_b, q_n, q_t]
          rw [HP.out]
          subst vb
          clear zt q_n q_t
          clear IO
          go_enter Tryd.func98, Tryd.ntmps98
          go_wp2
          go_ret
          exact ⟨rfl, below_new _ _⟩
      · have vb : b = false := by exact q_b
        have tn : (n == 0) = false := by simpa using q_n
        have HP : Hid (decide (HasP 0 b n t nl il) = false) := by show _ = _; simp [HasP, q_b, q_n]
        rw [HP.out]
        subst vb
        clear zt q_n
        clear IO
        go_enter Tryd.func98, Tryd.ntmps98
        go_wp2
        go_ret
        exact ⟨rfl, below_new _ _⟩
    · have vb : b = true := by simpa using q_b
      have HP : Hid (decide (HasP 0 b n t nl il) = false) := by show _ = _; simp [HasP, q_b]
      rw [HP.out]
      subst vb
      clear zt
      clear IO
      go_enter Tryd.func98, Tryd.ntmps98
      go_wp2
      go_ret
      exact ⟨rfl, below_new _ _⟩
  by_cases e1 : k = 1
  · subst e1
    simp only [show (((1 : Nat) : Int)) = 1 from rfl] at *
    by_cases q_n : n = 0
    · by_cases q_t : t.size = 0
      · by_cases q_nn : nl = 0
        · by_cases q_nv : il = 0
          · have tn : (n == 0) = true := by rw [q_n]; rfl
            have tt : (t.toList == []) = true := by rw [zt]; simp [q_t]
            have tnn : ((nl : Int) == 0) = true := by rw [q_nn]; rfl
            have tnv : ((il : Int) == 0) = true := by rw [q_nv]; rfl
            have HP : Hid (decide (HasP 1 b n t nl il) = true) := by show _ = _; simp [HasP, q_n, q_t, q_nn, q_nv]
            rw [HP.out]
            clear zt q_n q_t q_nn q_nv
            clear IO
            go_enter Tryd.func98, Tryd.ntmps98
            go_wp2
            go_ret
            exact ⟨rfl, below_new _ _⟩
          · have tn : (n == 0) = true := by rw [q_n]; rfl
            have tt : (t.toList == []) = true := by rw [zt]; simp [q_t]
            have tnn : ((nl : Int) == 0) = true := by rw [q_nn]; rfl
            have tnv : ((il : Int) == 0) = false := by simpa using fun e : (il : Int) = 0 => q_nv (by omega)
            have HP : Hid (decide (HasP 1 b n t nl il) = false) := by show _ = _; simp [HasP, q_n, q_t, q_nn, q_nv]
            rw [HP.out]
            clear zt q_n q_t q_nn q_nv
            clear IO
            go_enter Tryd.func98, Tryd.ntmps98
            go_wp2
            go_ret
            exact ⟨rfl, below_new _ _⟩
        · have tn : (n == 0) = true := by rw [q_n]; rfl
          have tt : (t.toList == []) = true := by rw [zt]; simp [q_t]
          have tnn : ((nl : Int) == 0) = false := by simpa using fun e : (nl : Int) = 0 => q_nn (by omega)
          have HP : Hid (decide (HasP 1 b n t nl il) = false) := by show _ = _; simp [HasP, q_n, q_t, q_nn]
          rw [HP.out]
          clear zt q_n q_t q_nn
          clear IO
          go_enter Tryd.func98, Tryd.ntmps98
          go_wp2
          go_ret
          exact ⟨rfl, below_new _ _⟩
      · have tn : (n == 0) = true := by rw [q_n]; rfl
        have tt : (t.toList == []) = false := by rw [zt]; simp [q_t]
        have HP : Hid (decide (HasP 1 b n t nl il) = false) := by show _ = _; simp [HasP, q_n, q_t]
        rw [HP.out]
        clear zt q_n q_t
        clear IO
        go_enter Tryd.func98, Tryd.ntmps98
        go_wp2
        go_ret
        exact ⟨rfl, below_new _ _⟩
    · have tn : (n == 0) = false := by simpa using q_n
      have HP : Hid (decide (HasP 1 b n t nl il) = false) := by show _ = _; simp [HasP, q_n]
      rw [HP.out]
      clear zt q_n
      clear IO
      go_enter Tryd.func98, Tryd.ntmps98
      go_wp2
      go_ret
      exact ⟨rfl, below_new _ _⟩
  by_cases e2 : k = 2
  · subst e2
    simp only [show (((2 : Nat) : Int)) = 2 from rfl] at *
    by_cases q_b : b = false
    · by_cases q_t : t.size = 0
      · by_cases q_nn : nl = 0
        · by_cases q_nv : il = 0
          · have vb : b = false := by exact q_b
            have tt : (t.toList == []) = true := by rw [zt]; simp [q_t]
            have tnn : ((nl : Int) == 0) = true := by rw [q_nn]; rfl
            have tnv : ((il : Int) == 0) = true := by rw [q_nv]; rfl
            have HP : Hid (decide (HasP 2 b n t nl il) = true) := by show _ = _; simp [HasP, q_b, q_t, q_nn, q_nv]
            rw [HP.out]
            subst vb
            clear zt q_t q_nn q_nv
            clear IO
            go_enter Tryd.func98, Tryd.ntmps98
            go_wp2
            go_ret
            exact ⟨rfl, below_new _ _⟩
          · have vb : b = false := by exact q_b
            have tt : (t.toList == []) = true := by rw [zt]; simp [q_t]
            have tnn : ((nl : Int) == 0) = true := by rw [q_nn]; rfl
            have tnv : ((il : Int) == 0) = false := by simpa using fun e : (il : Int) = 0 => q_nv (by omega)
            have HP : Hid (decide (HasP 2 b n t nl il) = false) := by show _ = _; simp [HasP, q_b, q_t, q_nn, q_nv]
            rw [HP.out]
            subst vb
            clear zt q_t q_nn q_nv
            clear IO
            go_enter Tryd.func98, Tryd.ntmps98
            go_wp2
            go_ret
            exact ⟨rfl, below_new _ _⟩
        · have vb : b = false := by exact q_b
          have tt : (t.toList == []) = true := by rw [zt]; simp [q_t]
          have tnn : ((nl : Int) == 0) = false := by simpa using fun e : (nl : Int) = 0 => q_nn (by omega)
          have HP : Hid (decide (HasP 2 b n t nl il) = false) := by show _ = _; simp [HasP, q_b, q_t, q_nn]
          rw [HP.out]
          subst vb
          clear zt q_t q_nn
          clear IO
          go_enter Tryd.func98, Tryd.ntmps98
          go_wp2
          go_ret
          exact ⟨rfl, below_new _ _⟩
      · have vb : b = false := by exact q_b
        have tt : (t.toList == []) = false := by rw [zt]; simp [q_t]
        have HP : Hid (decide (HasP 2 b n t nl il) = false) := by show _ = _; simp [HasP, q_b, q_t]
        rw [HP.out]
        subst vb
        clear zt q_t
        clear IO
        go_enter Tryd.func98, Tryd.ntmps98
        go_wp2
        go_ret
        exact ⟨rfl, below_new _ _⟩
    · have vb : b = true := by simpa using q_b
      have HP : Hid (decide (HasP 2 b n t nl il) = false) := by show _ = _; simp [HasP, q_b]
      rw [HP.out]
      subst vb
      clear zt
      clear IO
      go_enter Tryd.func98, Tryd.ntmps98
      go_wp2
      go_ret
      exact ⟨rfl, below_new _ _⟩
  by_cases e3 : k = 3
  · subst e3
    simp only [show (((3 : Nat) : Int)) = 3 from rfl] at *
    cases hi : isNm t with
    | false =>
      rw [hi] at IO
      have HP : Hid (decide (HasP 3 b n t nl il) = false) := by show _ = _; simp [HasP, hi]
      rw [HP.out]
      clear zt hi
      go_enter Tryd.func98, Tryd.ntmps98
      go_wp2_with (go_at_call 115; refine IO.mono ?_; rintro e w2 ⟨rfl, hb2⟩)
      go_ret
      exact ⟨rfl, (HF.out w2 hb2).2⟩
    | true =>
      rw [hi] at IO
      by_cases q_b : b = false
      · by_cases q_n : n = 0
        · by_cases q_nn : nl = 0
          · by_cases q_nv : il = 0
            · have vb : b = false := by exact q_b
              have tn : (n == 0) = true := by rw [q_n]; rfl
              have tnn : ((nl : Int) == 0) = true := by rw [q_nn]; rfl
              have tnv : ((il : Int) == 0) = true := by rw [q_nv]; rfl
              have HP : Hid (decide (HasP 3 b n t nl il) = true) := by show _ = _; simp [HasP, q_b, q_n, q_nn, q_nv, hi]
              rw [HP.out]
              subst vb
              clear zt q_n q_nn q_nv
              clear hi
              go_enter Tryd.func98, Tryd.ntmps98
              go_wp2_with (go_at_call 115; refine IO.mono ?_; rintro e w2 ⟨rfl, hb2⟩; obtain ⟨n2, B2⟩ := HF.out w2 hb2; obtain ⟨⟨z0, z1, z2, z3, z4, z5⟩, g0, g1, g2, g3, g4, g5⟩ := row6_cells n2)
              go_ret
              exact ⟨rfl, HS.out _ 3 _ B2⟩
            · have vb : b = false := by exact q_b
              have tn : (n == 0) = true := by rw [q_n]; rfl
              have tnn : ((nl : Int) == 0) = true := by rw [q_nn]; rfl
              have tnv : ((il : Int) == 0) = false := by simpa using fun e : (il : Int) = 0 => q_nv (by omega)
              have HP : Hid (decide (HasP 3 b n t nl il) = false) := by show _ = _; simp [HasP, q_b, q_n, q_nn, q_nv, hi]
              rw [HP.out]
              subst vb
              clear zt q_n q_nn q_nv
              clear hi
              go_enter Tryd.func98, Tryd.ntmps98
              go_wp2_with (go_at_call 115; refine IO.mono ?_; rintro e w2 ⟨rfl, hb2⟩; obtain ⟨n2, B2⟩ := HF.out w2 hb2; obtain ⟨⟨z0, z1, z2, z3, z4, z5⟩, g0, g1, g2, g3, g4, g5⟩ := row6_cells n2)
              go_ret
              exact ⟨rfl, HS.out _ 3 _ B2⟩
          · have vb : b = false := by exact q_b
            have tn : (n == 0) = true := by rw [q_n]; rfl
            have tnn : ((nl : Int) == 0) = false := by simpa using fun e : (nl : Int) = 0 => q_nn (by omega)
            have HP : Hid (decide (HasP 3 b n t nl il) = false) := by show _ = _; simp [HasP, q_b, q_n, q_nn, hi]
            rw [HP.out]
            subst vb
            clear zt q_n q_nn
            clear hi
            go_enter Tryd.func98, Tryd.ntmps98
            go_wp2_with (go_at_call 115; refine IO.mono ?_; rintro e w2 ⟨rfl, hb2⟩; obtain ⟨n2, B2⟩ := HF.out w2 hb2; obtain ⟨⟨z0, z1, z2, z3, z4, z5⟩, g0, g1, g2, g3, g4, g5⟩ := row6_cells n2)
            go_ret
            exact ⟨rfl, HS.out _ 3 _ B2⟩
        · have vb : b = false := by exact q_b
          have tn : (n == 0) = false := by simpa using q_n
          have HP : Hid (decide (HasP 3 b n t nl il) = false) := by show _ = _; simp [HasP, q_b, q_n, hi]
          rw [HP.out]
          subst vb
          clear zt q_n
          clear hi
          go_enter Tryd.func98, Tryd.ntmps98
          go_wp2_with (go_at_call 115; refine IO.mono ?_; rintro e w2 ⟨rfl, hb2⟩; obtain ⟨n2, B2⟩ := HF.out w2 hb2; obtain ⟨⟨z0, z1, z2, z3, z4, z5⟩, g0, g1, g2, g3, g4, g5⟩ := row6_cells n2)
          go_ret
          exact ⟨rfl, HS.out _ 3 _ B2⟩
      · have vb : b = true := by simpa using q_b
        have HP : Hid (decide (HasP 3 b n t nl il) = false) := by show _ = _; simp [HasP, q_b, hi]
        rw [HP.out]
        subst vb
        clear zt
        clear hi
        go_enter Tryd.func98, Tryd.ntmps98
        go_wp2_with (go_at_call 115; refine IO.mono ?_; rintro e w2 ⟨rfl, hb2⟩; obtain ⟨n2, B2⟩ := HF.out w2 hb2; obtain ⟨⟨z0, z1, z2, z3, z4, z5⟩, g0, g1, g2, g3, g4, g5⟩ := row6_cells n2)
        go_ret
        exact ⟨rfl, HS.out _ 3 _ B2⟩
  by_cases e4 : k = 4
  · subst e4
    simp only [show (((4 : Nat) : Int)) = 4 from rfl] at *
    by_cases q_b : b = false
    · by_cases q_n : n = 0
      · by_cases q_nn : nl = 0
        · by_cases q_nv : il = 0
          · have vb : b = false := by exact q_b
            have tn : (n == 0) = true := by rw [q_n]; rfl
            have tnn : ((nl : Int) == 0) = true := by rw [q_nn]; rfl
            have tnv : ((il : Int) == 0) = true := by rw [q_nv]; rfl
            have HP : Hid (decide (HasP 4 b n t nl il) = true) := by show _ = _; simp [HasP, q_b, q_n, q_nn, q_nv]
            rw [HP.out]
            subst vb
            clear zt q_n q_nn q_nv
            clear IO
            go_enter Tryd.func98, Tryd.ntmps98
            go_wp2
            go_ret
            exact ⟨rfl, below_new _ _⟩
          · have vb : b = false := by exact q_b
            have tn : (n == 0) = true := by rw [q_n]; rfl
            have tnn : ((nl : Int) == 0) = true := by rw [q_nn]; rfl
            have tnv : ((il : Int) == 0) = false := by simpa using fun e : (il : Int) = 0 => q_nv (by omega)
            have HP : Hid (decide (HasP 4 b n t nl il) = false) := by show _ = _; simp [HasP, q_b, q_n, q_nn, q_nv]
            rw [HP.out]
            subst vb
            clear zt q_n q_nn q_nv
            clear IO
            go_enter Tryd.func98, Tryd.ntmps98
            go_wp2
            go_ret
            exact ⟨rfl, below_new _ _⟩
        · have vb : b = false := by exact q_b
          have tn : (n == 0) = true := by rw [q_n]; rfl
          have tnn : ((nl : Int) == 0) = false := by simpa using fun e : (nl : Int) = 0 => q_nn (by omega)
          have HP : Hid (decide (HasP 4 b n t nl il) = false) := by show _ = _; simp [HasP, q_b, q_n, q_nn]
          rw [HP.out]
          subst vb
          clear zt q_n q_nn
          clear IO
          go_enter Tryd.func98, Tryd.ntmps98
          go_wp2
          go_ret
          exact ⟨rfl, below_new _ _⟩
      · have vb : b = false := by exact q_b
        have tn : (n == 0) = false := by simpa using q_n
        have HP : Hid (decide (HasP 4 b n t nl il) = false) := by show _ = _; simp [HasP, q_b, q_n]
        rw [HP.out]
        subst vb
        clear zt q_n
        clear IO
        go_enter Tryd.func98, Tryd.ntmps98
        go_wp2
        go_ret
        exact ⟨rfl, below_new _ _⟩
    · have vb : b = true := by simpa using q_b
      have HP : Hid (decide (HasP 4 b n t nl il) = false) := by show _ = _; simp [HasP, q_b]
      rw [HP.out]
      subst vb
      clear zt
      clear IO
      go_enter Tryd.func98, Tryd.ntmps98
      go_wp2
      go_ret
      exact ⟨rfl, below_new _ _⟩
  by_cases e5 : k = 5
  · subst e5
    simp only [show (((5 : Nat) : Int)) = 5 from rfl] at *
    by_cases q_b : b = false
    · by_cases q_n : n = 0
      · by_cases q_t : t.size = 0
        · by_cases q_nn : nl = 0
          · have vb : b = false := by exact q_b
            have tn : (n == 0) = true := by rw [q_n]; rfl
            have tt : (t.toList == []) = true := by rw [zt]; simp [q_t]
            have tnn : ((nl : Int) == 0) = true := by rw [q_nn]; rfl
            have HP : Hid (decide (HasP 5 b n t nl il) = true) := by show _ = _; simp [HasP, q_b, q_n, q_t, q_nn]
            rw [HP.out]
            subst vb
            clear zt q_n q_t q_nn
            clear IO
            go_enter Tryd.func98, Tryd.ntmps98
            go_wp2
            go_ret
            exact ⟨rfl, below_new _ _⟩
          · have vb : b = false := by exact q_b
            have tn : (n == 0) = true := by rw [q_n]; rfl
            have tt : (t.toList == []) = true := by rw [zt]; simp [q_t]
            have tnn : ((nl : Int) == 0) = false := by simpa using fun e : (nl : Int) = 0 => q_nn (by omega)
            have HP : Hid (decide (HasP 5 b n t nl il) = false) := by show _ = _; simp [HasP, q_b, q_n, q_t, q_nn]
            rw [HP.out]
            subst vb
            clear zt q_n q_t q_nn
            clear IO
            go_enter Tryd.func98, Tryd.ntmps98
            go_wp2
            go_ret
            exact ⟨rfl, below_new _ _⟩
        · have vb : b = false := by exact q_b
          have tn : (n == 0) = true := by rw [q_n]; rfl
          have tt : (t.toList == []) = false := by rw [zt]; simp [q_t]
          have HP : Hid (decide (HasP 5 b n t nl il) = false) := by show _ = _; simp [HasP, q_b, q_n, q_t]
          rw [HP.out]
          subst vb
          clear zt q_n q_t
          clear IO
          go_enter Tryd.func98, Tryd.ntmps98
          go_wp2
          go_ret
          exact ⟨rfl, below_new _ _⟩
      · have vb : b = false := by exact q_b
        have tn : (n == 0) = false := by simpa using q_n
        have HP : Hid (decide (HasP 5 b n t nl il) = false) := by show _ = _; simp [HasP, q_b, q_n]
        rw [HP.out]
        subst vb
        clear zt q_n
        clear IO
        go_enter Tryd.func98, Tryd.ntmps98
        go_wp2
        go_ret
        exact ⟨rfl, below_new _ _⟩
    · have vb : b = true := by simpa using q_b
      have HP : Hid (decide (HasP 5 b n t nl il) = false) := by show _ = _; simp [HasP, q_b]
      rw [HP.out]
      subst vb
      clear zt
      clear IO
      go_enter Tryd.func98, Tryd.ntmps98
      go_wp2
      go_ret
      exact ⟨rfl, below_new _ _⟩
  by_cases e6 : k = 6
  · subst e6
    simp only [show (((6 : Nat) : Int)) = 6 from rfl] at *
    by_cases hl : ¬ nl = il
    · have tl : ((nl : Int) == (il : Int)) = false := by simpa using fun e : (nl : Int) = (il : Int) => hl (by omega)
      have HP : Hid (decide (HasP 6 b n t nl il) = false) := by show _ = _; simp [HasP, hl]
      rw [HP.out]
      clear zt hl IO
      go_enter Tryd.func98, Tryd.ntmps98
      go_wp2
      go_ret
      exact ⟨rfl, HB.out⟩
    have hl := Classical.not_not.1 hl
    have tl : ((nl : Int) == (il : Int)) = true := by rw [hl]; exact beq_self_eq_true _
    by_cases q_b : b = false
    · by_cases q_n : n = 0
      · by_cases q_t : t.size = 0
        · have vb : b = false := by exact q_b
          have tn : (n == 0) = true := by rw [q_n]; rfl
          have tt : (t.toList == []) = true := by rw [zt]; simp [q_t]
          have HP : Hid (decide (HasP 6 b n t nl il) = true) := by show _ = _; simp [HasP, q_b, q_n, q_t, hl]
          rw [HP.out]
          subst vb
          clear zt q_n q_t
          clear hl IO
          go_enter Tryd.func98, Tryd.ntmps98
          go_wp2
          go_ret
          exact ⟨rfl, below_new _ _⟩
        · have vb : b = false := by exact q_b
          have tn : (n == 0) = true := by rw [q_n]; rfl
          have tt : (t.toList == []) = false := by rw [zt]; simp [q_t]
          have HP : Hid (decide (HasP 6 b n t nl il) = false) := by show _ = _; simp [HasP, q_b, q_n, q_t, hl]
          rw [HP.out]
          subst vb
          clear zt q_n q_t
          clear hl IO
          go_enter Tryd.func98, Tryd.ntmps98
          go_wp2
          go_ret
          exact ⟨rfl, below_new _ _⟩
      · have vb : b = false := by exact q_b
        have tn : (n == 0) = false := by simpa using q_n
        have HP : Hid (decide (HasP 6 b n t nl il) = false) := by show _ = _; simp [HasP, q_b, q_n, hl]
        rw [HP.out]
        subst vb
        clear zt q_n
        clear hl IO
        go_enter Tryd.func98, Tryd.ntmps98
        go_wp2
        go_ret
        exact ⟨rfl, below_new _ _⟩
    · have vb : b = true := by simpa using q_b
      have HP : Hid (decide (HasP 6 b n t nl il) = false) := by show _ = _; simp [HasP, q_b, hl]
      rw [HP.out]
      subst vb
      clear zt
      clear hl IO
      go_enter Tryd.func98, Tryd.ntmps98
      go_wp2
      go_ret
      exact ⟨rfl, below_new _ _⟩
  have HP : Hid (decide (HasP k b n t nl il) = false) := by show _ = _; simp [HasP, e0, e1, e2, e3, e4, e5, e6]
  have m0 : ((k : Int) == 0) = false := by simpa using fun e : (k : Int) = 0 => e0 (by omega)
  have m1 : ((k : Int) == 1) = false := by simpa using fun e : (k : Int) = 1 => e1 (by omega)
  have m2 : ((k : Int) == 2) = false := by simpa using fun e : (k : Int) = 2 => e2 (by omega)
  have m3 : ((k : Int) == 3) = false := by simpa using fun e : (k : Int) = 3 => e3 (by omega)
  have m4 : ((k : Int) == 4) = false := by simpa using fun e : (k : Int) = 4 => e4 (by omega)
  have m5 : ((k : Int) == 5) = false := by simpa using fun e : (k : Int) = 5 => e5 (by omega)
  have m6 : ((k : Int) == 6) = false := by simpa using fun e : (k : Int) = 6 => e6 (by omega)
  rw [HP.out]
  clear zt IO e0 e1 e2 e3 e4 e5 e6 hk
  go_enter Tryd.func98, Tryd.ntmps98
  go_wp2
  go_ret
  exact ⟨rfl, HB.out⟩
end Go.Proofs.YtblnoekogdpolaaDoor
