/-
  Which roles may be: the program's rolesFit, Check.
-/
import Derived.Test.YtompcdmjbigigaaRFitA
namespace Go.Proofs.Ytompcdmjbigigaa
open Go.RowKit Go.WideShapes Go.Joins Go.Maps

theorem nml_len (L : List Rl) : (nmL L).length = L.length := by simp [nmL]
theorem nml_getD {L : List Rl} {k : Nat} (h : k < L.length) : (nmL L).getD k ByteArray.empty = nmA L k := by
  rw [nmA_get h, List.getD_eq_getElem?_getD, List.getElem?_eq_getElem (by rw [nml_len]; exact h)]; rfl
theorem nml_take {L : List Rl} {k : Nat} (h : k < L.length) : (nmL L).take (k + 1) = (nmL L).take k ++ [nmA L k] := by
  rw [take_snoc _ ByteArray.empty (by rw [nml_len]; exact h), nml_getD h]
theorem nml_drop {L : List Rl} {k : Nat} (h : k < L.length) : (nmL L).drop k = nmA L k :: (nmL L).drop (k + 1) := by
  rw [drop_cons _ ByteArray.empty (by rw [nml_len]; exact h), nml_getD h]
def rB (L : List Rl) (r : Rl) : Bool := holdsB (nmL L) r.holds && mayB r.may
theorem fitB_eq (L : List Rl) : fitB L = (nmsB [] (nmL L) && L.all (rB L)) := rfl
theorem allR_yes {l : List Rl} {p : Rl → Bool} (h : ∀ i, i < l.length → p (l.getD i zR) = true) : l.all p = true := by
  rw [List.all_eq_true]
  intro x hx
  obtain ⟨i, hi, rfl⟩ := rl_of hx
  exact h i hi
theorem allR_no {l : List Rl} {p : Rl → Bool} {i : Nat} (hi : i < l.length) (h : p (l.getD i zR) = false) : l.all p = false := by
  rw [List.all_eq_false]
  exact ⟨_, rl_mem hi, by rw [h]; decide⟩
/-- Between the names. -/
structure RfI (L : List Rl) (w : World) (n k : Nat) (wr : World) : Prop where
  hk : k ≤ n
  own : SetAt wr w.heap.size k ((nmL L).take k)
  e : nmsB ((nmL L).take k) ((nmL L).drop k) = nmsB [] (nmL L)
  b : Below w.heap.size w wr
  g : w.heap.size < wr.heap.size
set_option maxHeartbeats 4000000 in
set_option maxRecDepth 8000 in
theorem rolesFit_any (q : Option Addr) (c : Nat) (L : List Rl) (w : World) (h : RolesIn w q L c) (hn : L.length ≤ 32) :
    Calls Try.prog 27 #[.slice q L.length c] w fun e w' => e = .returned (.bool (fitB L)) ∧ Below w.heap.size w w' := by
  have hmm := @run_makeMap Try.prog
  obtain ⟨n, hN⟩ : ∃ n, L.length = n := ⟨_, rfl⟩
  have HH : Hid (RolesIn w q L c ∧ L.length = n ∧ n ≤ 32) := ⟨h, hN, by omega⟩
  rw [hN] at hn ⊢
  have hnI : (n : Int) ≤ 32 := by omega
  clear h hN hn
  go_enter Try.func27, Try.ntmps27
  go_wp2
  clear hmm
  go_loopw [11] (fun t wr => ∃ k : Nat, t = .int .i64 (k : Int) ∧ RfI L w n k wr) (fun t _ => n - (intOf t).toNat)
  case atStart =>
    exact ⟨0, rfl, Nat.zero_le _, World.ownsMap_made _ _ _ _, rfl, (Below.refl _ _).alloc (Nat.le_refl _) _, by simp⟩
  case round =>
    obtain ⟨k, rfl, hI⟩ := hrel
    have HI : Hid (RfI L w n k wr) := hI
    by_cases hlt : k < n
    · have hkI : (k : Int) < (n : Int) := by omega
      have hk0 : (0 : Int) ≤ (k : Int) := by omega
      have HK : Hid (k < n ∧ k < L.length) := ⟨hlt, by have := HH.out.2.1; omega⟩
      have hen := HH.out.1.below hI.b
      obtain ⟨fb, fo, rfl⟩ := hen.addr (by have := HH.out.2; omega)
      obtain ⟨hq, hc, mq, mc, hr⟩ := hen.at (i := k) HK.out.2
      obtain ⟨z0, z1, z2, _, _, hsz⟩ := hr
      have hdrop := nml_drop HK.out.2
      have HT : Hid ((nmL L).take (k + 1) = (nmL L).take k ++ [nmA L k]) := nml_take HK.out.2
      have HE : Hid (nmsB [] (nmL L) = (nmOk (nmA L k) && !isIn ((nmL L).take k) (nmA L k) && nmsB ((nmL L).take k ++ [nmA L k]) ((nmL L).drop (k + 1)))) := by show _ = _; rw [← hI.e, hdrop]; rfl
      change ((L.getD k zR).name).size ≤ maxLen at hsz
      have hne : (L.getD k zR).name = nmA L k := rfl
      have NM := fun w' => isName_any (nmA L k) (hne ▸ hsz) w'
      have HAS := fun w' b nn (hm : SetAt w' b nn ((nmL L).take k)) v (hv : isIn ((nmL L).take k) (nmA L k) = v) => has_any b nn ((nmL L).take k) (nmA L k) w' (hne ▸ hsz) hm v hv
      have PUT : Hid (∀ w' b nn, SetAt w' b nn ((nmL L).take k) → nn < maxLen → Calls Try.prog 38 #[.map (some b), .string (nmA L k)] w' fun e w'' => e = .returned (.tuple #[]) ∧ SetAt w'' b (nn + 1) ((nmL L).take k ++ [nmA L k]) ∧ w'.grownBy w'' (some b)) :=
        fun w' b nn hm hnn => put_any b nn ((nmL L).take k) (nmA L k) w' (hne ▸ hsz) hm hnn
      rw [hne] at z0 hsz
      generalize nmA L k = s at z0 HT HE NM HAS PUT hsz
      obtain ⟨a, ha⟩ : ∃ a, nmOk s = a := ⟨_, rfl⟩
      obtain ⟨v, hv⟩ : ∃ v, isIn ((nmL L).take k) s = v := ⟨_, rfl⟩
      have N1 := NM (wr.alloc (.cells #[.string s, .slice hq (L.getD k zR).holds.length hc, .slice mq (L.getD k zR).may.length mc] 37))
      have n1 := _root_.Go.heap_alloc_new wr (.cells #[.string s, .slice hq (L.getD k zR).holds.length hc, .slice mq (L.getD k zR).may.length mc] 37)
      have bn := below_new wr (.cells #[.string s, .slice hq (L.getD k zR).holds.length hc, .slice mq (L.getD k zR).may.length mc] 37)
      have H1 := HAS _ _ _ (hI.own.below bn) v hv
      have HB1 : Hid (SetAt (wr.alloc (.cells #[.string s, .slice hq (L.getD k zR).holds.length hc, .slice mq (L.getD k zR).may.length mc] 37)) w.heap.size k ((nmL L).take k) ∧ Below w.heap.size w (wr.alloc (.cells #[.string s, .slice hq (L.getD k zR).holds.length hc, .slice mq (L.getD k zR).may.length mc] 37)) ∧ w.heap.size < (wr.alloc (.cells #[.string s, .slice hq (L.getD k zR).holds.length hc, .slice mq (L.getD k zR).may.length mc] 37)).heap.size) :=
        ⟨hI.own.below bn, below_more hI.b bn, Nat.lt_of_lt_of_le hI.g bn.size⟩
      rw [ha] at N1
      have HX : Hid (nmOk s = a ∧ isIn ((nmL L).take k) s = v) := ⟨ha, hv⟩
      clear NM HAS ha hv hI hen hdrop hsz hlt hne bn
      generalize (L.getD k zR).holds.length = hl at z1 N1 n1 H1 HB1
      generalize (L.getD k zR).may.length = ml at z2 N1 n1 H1 HB1
      have x0 := Lib.cell_of_heap n1 0
      simp only [List.getElem?_toArray] at x0
      clear n1
      go_wp2_with fail
      refine N1.mono ?_
      rintro e w1 ⟨rfl, hw⟩
      subst hw
      simp only []
      cases a with
      | false =>
        have HF : Hid (fitB L = false) := by show _ = _; rw [fitB_eq, HE.out, HX.out.1]; rfl
        go_wp2_with fail
        go_ret
        exact ⟨by rw [HF.out]; rfl, HB1.out.2.1⟩
      | true =>
        cases v with
        | true =>
          have HF : Hid (fitB L = false) := by show _ = _; rw [fitB_eq, HE.out, HX.out.1, HX.out.2]; rfl
          go_wp2_with fail
          refine H1.mono ?_
          rintro e w2 ⟨rfl, hb2⟩
          simp only []
          go_wp2_with fail
          go_ret
          exact ⟨by rw [HF.out]; rfl, below_more HB1.out.2.1 hb2⟩
        | false =>
          have HF : Hid (nmsB ((nmL L).take (k + 1)) ((nmL L).drop (k + 1)) = nmsB [] (nmL L)) := by show _ = _; rw [HE.out, HX.out.1, HX.out.2, HT.out]; rfl
          go_wp2_with fail
          refine H1.mono ?_
          rintro e w2 ⟨rfl, hb2⟩
          simp only []
          have y0 := below_cell x0 hb2
          have P1 := PUT.out w2 _ _ (HB1.out.1.below hb2) (by have := HK.out.1; have := HH.out.2.2; unfold maxLen; omega)
          have HB2 : Hid (Below w.heap.size w w2 ∧ w.heap.size < w2.heap.size) := ⟨below_more HB1.out.2.1 hb2, Nat.lt_of_lt_of_le HB1.out.2.2 hb2.size⟩
          clear hb2 H1 x0
          go_wp2_with fail
          refine P1.mono ?_
          rintro e w3 ⟨rfl, hs3, hg3⟩
          simp only []
          go_wp2_with fail
          go_roundw
          case rel =>
            refine ⟨k + 1, by go_num, HK.out.1, by rw [HT.out]; exact hs3, HF.out, below_of_grown HB2.out.1 hg3 (Nat.le_refl _), Nat.lt_of_lt_of_le HB2.out.2 hg3.size⟩
          case measure => have := HK.out.1; simp [intOf]; omega
    · have hkn : k = n := by have := hI.hk; omega
      subst hkn
      have hlen := HH.out.2.1
      have htk : (nmL L).take k = nmL L := by rw [← hlen, ← nml_len, List.take_length]
      have HN : Hid (nmsB [] (nmL L) = true) := by
        show _ = _
        rw [← hI.e, ← hlen, ← nml_len, List.drop_length]; rfl
      have HF : Hid (fitB L = L.all (rB L)) := by show _ = _; rw [fitB_eq, HN.out]; rfl
      have hS := hI.own
      rw [htk] at hS
      have HS : Hid (SetAt wr w.heap.size k (nmL L)) := hS
      have HB0 : Hid (Below w.heap.size w wr) := hI.b
      clear hI hlt htk hS hlen
      go_wp2_with fail
      generalize wr = w0 at HS HB0 ⊢
      go_loopw [32] (fun t wr => ∃ i : Nat, t = .int .i64 (i : Int) ∧ i ≤ k ∧ (∀ j, j < i → rB L (L.getD j zR) = true) ∧ Below w0.heap.size w0 wr) (fun t _ => k - (intOf t).toNat)
      case atStart => exact ⟨0, rfl, Nat.zero_le _, fun j hj => absurd hj (Nat.not_lt_zero _), Below.refl _ _⟩
      case round =>
        obtain ⟨i, rfl, hi, hz, hb⟩ := hrel
        have HZ : Hid (∀ j, j < i → rB L (L.getD j zR) = true) := hz
        have HB : Hid (Below w.heap.size w wr ∧ Below w0.heap.size w0 wr) := ⟨below_more HB0.out hb, hb⟩
        clear hz
        by_cases hlt : i < k
        · have hkI : (i : Int) < (k : Int) := by omega
          have hk0 : (0 : Int) ≤ (i : Int) := by omega
          have HK : Hid (i < k ∧ i < L.length) := ⟨hlt, by have := HH.out.2.1; omega⟩
          have hen := HH.out.1.below HB.out.1
          obtain ⟨fb, fo, rfl⟩ := hen.addr (by have := HH.out.2; omega)
          obtain ⟨hq, hc, mq, mc, hr⟩ := hen.at (i := i) HK.out.2
          obtain ⟨z0, z1, z2, hh, hm, _⟩ := hr
          have HX : Hid (rB L (L.getD i zR) = (holdsB (nmL L) (L.getD i zR).holds && mayB (L.getD i zR).may)) := rfl
          have HY : Hid (rB L (L.getD i zR) = false → fitB L = false) := fun h => by rw [HF.out]; exact allR_no HK.out.2 h
          have HR : Hid (rB L (L.getD i zR) = true → ∀ j, j < i + 1 → rB L (L.getD j zR) = true) := fun h j hj => by
            rcases Nat.lt_or_ge j i with h1 | h1
            · exact HZ.out j h1
            · obtain rfl : j = i := by omega
              exact h
          have bn := below_new wr (.cells #[.string (L.getD i zR).name, .slice hq (L.getD i zR).holds.length hc, .slice mq (L.getD i zR).may.length mc] 37)
          have n1 := _root_.Go.heap_alloc_new wr (.cells #[.string (L.getD i zR).name, .slice hq (L.getD i zR).holds.length hc, .slice mq (L.getD i zR).may.length mc] 37)
          have HH1 := holdsFit_any hq hc (L.getD i zR).holds w.heap.size k (nmL L) _ (hh.below bn) ((HS.out.below hb).below bn)
          have MM : Hid (∀ w', Below (wr.alloc (.cells #[.string (L.getD i zR).name, .slice hq (L.getD i zR).holds.length hc, .slice mq (L.getD i zR).may.length mc] 37)).heap.size (wr.alloc (.cells #[.string (L.getD i zR).name, .slice hq (L.getD i zR).holds.length hc, .slice mq (L.getD i zR).may.length mc] 37)) w' → Calls Try.prog 40 #[.slice mq (L.getD i zR).may.length mc] w' fun e w'' => e = .returned (.bool (mayB (L.getD i zR).may)) ∧ w'' = w') :=
            fun w' hb' => mayFits_any mq mc (L.getD i zR).may w' ((hm.below bn).below hb')
          have HB1 : Hid (Below w.heap.size w (wr.alloc (.cells #[.string (L.getD i zR).name, .slice hq (L.getD i zR).holds.length hc, .slice mq (L.getD i zR).may.length mc] 37)) ∧ Below w0.heap.size w0 (wr.alloc (.cells #[.string (L.getD i zR).name, .slice hq (L.getD i zR).holds.length hc, .slice mq (L.getD i zR).may.length mc] 37))) := ⟨below_more HB.out.1 bn, below_more HB.out.2 bn⟩
          generalize rB L (L.getD i zR) = RB at HX HY HR
          generalize holdsB (nmL L) (L.getD i zR).holds = hb1 at HH1 HX
          generalize mayB (L.getD i zR).may = mb at MM HX
          generalize (L.getD i zR).holds.length = hl at z1 n1 HH1 MM HB1
          generalize (L.getD i zR).may.length = ml at z2 n1 HH1 MM HB1
          generalize (L.getD i zR).name = s at z0 n1 HH1 MM HB1
          have x1 := Lib.cell_of_heap n1 1
          have x2 := Lib.cell_of_heap n1 2
          simp only [List.getElem?_toArray] at x1 x2
          clear n1 hb hen hi hlt bn hh hm
          go_wp2_with fail
          refine HH1.mono ?_
          rintro e w1 ⟨rfl, hb2⟩
          simp only []
          cases hb1 with
          | false =>
            go_wp2_with fail
            go_ret
            exact ⟨by rw [HY.out HX.out]; rfl, below_more HB1.out.1 hb2⟩
          | true =>
            have y2 := below_cell x2 hb2
            have M1 := MM.out w1 hb2
            have HB2 : Hid (Below w.heap.size w w1 ∧ Below w0.heap.size w0 w1) := ⟨below_more HB1.out.1 hb2, below_more HB1.out.2 hb2⟩
            clear MM HH1 x1 x2 hb2
            cases mb with
            | false =>
              go_wp2_with fail
              refine M1.mono ?_
              rintro e w2 ⟨rfl, hw⟩
              subst hw
              simp only []
              go_wp2_with fail
              go_ret
              exact ⟨by rw [HY.out HX.out]; rfl, HB2.out.1⟩
            | true =>
              go_wp2_with fail
              refine M1.mono ?_
              rintro e w2 ⟨rfl, hw⟩
              subst hw
              simp only []
              go_wp2_with fail
              go_roundw
              case rel => exact ⟨i + 1, by go_num, HK.out.1, HR.out HX.out, HB2.out.2⟩
              case measure => have := HK.out.1; simp [intOf]; omega
        · obtain rfl : i = k := by omega
          have HG : Hid (L.all (rB L) = true) := allR_yes fun i' hi' => HZ.out i' (by have := HH.out.2.1; omega)
          clear hi hlt hb
          go_wp2_with fail
          go_ret
          exact ⟨by rw [HF.out, HG.out]; rfl, HB.out.1⟩
set_option maxHeartbeats 2000000 in
set_option maxRecDepth 8000 in
theorem Check_any (q : Option Addr) (c : Nat) (L : List Rl) (w : World) (h : RolesIn w q L c) :
    Calls Try.prog 13 #[.slice q L.length c] w fun e w' => e = .returned (.int .i64 (chkE L : Nat)) ∧ Below w.heap.size w w' := by
  have hnI : (L.length : Int) ≤ 9223372036854775807 := by have := h.le; have := h.cap; unfold maxLen at this; omega
  have hE : chkE L = if 32 < L.length then 4 else if fitB L then 0 else 200 := rfl
  by_cases h1 : 32 < L.length
  · have i1 : (32 : Int) < (L.length : Int) := by omega
    rw [if_pos h1] at hE
    have HE : Hid (chkE L = 4) := hE
    clear h hE h1
    go_enter Try.func13, Try.ntmps13
    go_wp2_with fail
    go_ret
    exact ⟨by rw [HE.out]; rfl, Below.refl _ _⟩
  have i1 : ¬ (32 : Int) < (L.length : Int) := by omega
  have R1 := rolesFit_any q c L w h (by omega)
  rw [if_neg h1] at hE
  clear h h1
  generalize chkE L = E at hE ⊢
  generalize L.length = n at i1 hnI R1 ⊢
  cases hF : fitB L with
  | true =>
    rw [hF] at R1 hE
    have HE : Hid (E = 0) := hE
    clear hF hE
    go_enter Try.func13, Try.ntmps13
    go_wp2_with fail
    refine R1.mono ?_
    rintro e w1 ⟨rfl, hb1⟩
    simp only []
    go_wp2_with fail
    go_ret
    exact ⟨by rw [HE.out]; rfl, hb1⟩
  | false =>
    rw [hF] at R1 hE
    have HE : Hid (E = 200) := hE
    clear hF hE
    go_enter Try.func13, Try.ntmps13
    go_wp2_with fail
    refine R1.mono ?_
    rintro e w1 ⟨rfl, hb1⟩
    simp only []
    go_wp2_with fail
    go_ret
    exact ⟨by rw [HE.out]; rfl, hb1⟩
end Go.Proofs.Ytompcdmjbigigaa
