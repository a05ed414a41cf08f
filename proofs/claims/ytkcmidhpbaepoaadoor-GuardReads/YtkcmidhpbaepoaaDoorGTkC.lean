/-
  The program's numbers as tokens.
-/
import Derived.Test.YtkcmidhpbaepoaaDoorGTkB
import Derived.Test.YtkcmidhpbaepoaaDoorXShelfP
import Derived.Shelf.Strconv.ErrVarParseInt
namespace Go.Proofs.YtkcmidhpbaepoaaDoor.G
open Go.RowKit Go.WideShapes Go.Joins

theorem g_syn : Tryd.prog.globalNamed "strconv.ErrSyntax" = some 1 := by kernel_rfl
theorem g_rng : Tryd.prog.globalNamed "strconv.ErrRange" = some 2 := by kernel_rfl
/-- The package variables that the walks read. -/
structure Laid (w : World) : Prop where
  syn : ∃ tp p, w.var? Tryd.prog "strconv.ErrSyntax" = some #[.iface tp p]
  rng : ∃ tp p, w.var? Tryd.prog "strconv.ErrRange" = some #[.iface tp p]
theorem Laid.kept {w w' : World} (h : Laid w) (hb : ∀ k, k < 6 → w'.heap[k]? = w.heap[k]?) : Laid w' := by
  have hv : ∀ name g, Tryd.prog.globalNamed name = some g → g < 6 → w'.var? Tryd.prog name = w.var? Tryd.prog name := by
    intro name g hg hlt
    unfold World.var?
    rw [hg]
    simp only [Option.bind_some]
    rw [hb g hlt]
  refine ⟨?_, ?_⟩
  · rw [hv _ 1 g_syn (by decide)]; exact h.syn
  · rw [hv _ 2 g_rng (by decide)]; exact h.rng
theorem Laid.below {w w' : World} (h : Laid w) {B : Nat} (hb : Below B w w') (hB : 6 ≤ B) : Laid w' := h.kept fun k hk => hb.block k (by omega)
theorem Laid.grown {w w' : World} (h : Laid w) {b : Nat} (hb : w.grownBy w' (some b)) (h8 : 6 ≤ b) (hlt : b < w.heap.size) : Laid w' := h.kept fun k hk => hb.block k (by omega) (fun e => by cases e; omega)
/-- ParseInt(s, 10, 64). -/
theorem parseInt_any (s : ByteArray) (hs : s.size ≤ 20000) (w : World) (hL : Laid w) :
    Calls Tryd.prog 42 #[.string s, .int .i64 10, .int .i64 64] w fun e w' => ∃ (n : Int) (E : Value), e = .returned (.tuple #[.int .i64 n, E]) ∧ Below w.heap.size w w' ∧
      ((E = .nilIface ∧ Lib.parseIntB 64 s.data.toList = .ok n) ∨ ((∃ tp a, E = .iface tp (.pointer (some a))) ∧ ∀ v, Lib.parseIntB 64 s.data.toList ≠ .ok v)) := by
  cases h : Lib.parseIntB 64 s.data.toList with
  | ok v =>
    refine (Any.strconv_ParseInt_10_at64_ok lays174 s (by omega) v h w).mono ?_
    rintro e w' ⟨rfl, hw⟩
    refine ⟨v, _, rfl, ?_, .inl ⟨rfl, rfl⟩⟩
    rcases hw with rfl | ⟨t, rfl⟩
    · exact Below.refl _ _
    · exact below_bytesWorld _ _ _ _ (Nat.le_refl _)
  | «syntax» =>
    obtain ⟨tp, p, hv⟩ := hL.syn
    refine (Any.strconv_ParseInt_10_at64_syntax_var lays174 s (by omega) h tp p w hv).mono ?_
    rintro e w' ⟨N, rfl, _, _, hb⟩
    exact ⟨_, _, rfl, hb, .inr ⟨⟨_, _, rfl⟩, fun v hv => by cases hv⟩⟩
  | range =>
    obtain ⟨tp, p, hv⟩ := hL.rng
    refine (Any.strconv_ParseInt_10_at64_range_var lays174 s (by omega) h tp p w hv).mono ?_
    rintro e w' ⟨N, rfl, _, _, hb⟩
    exact ⟨_, _, rfl, hb, .inr ⟨⟨_, _, rfl⟩, fun v hv => by cases hv⟩⟩
theorem parse_digs (l : List UInt8) (hne : l ≠ []) (hd : ∀ c ∈ l, 48 ≤ c.toNat ∧ c.toNat ≤ 57) :
    (foldU 0 l ≤ 9223372036854775807 → Lib.parseIntB 64 l = .ok (foldU 0 l)) ∧ (¬ foldU 0 l ≤ 9223372036854775807 → ∀ v, Lib.parseIntB 64 l ≠ .ok v) := by
  have M64 : (2 ^ 64 - 1 : Nat) = 18446744073709551615 := by decide
  have M63 : (2 ^ (64 - 1) : Nat) = 9223372036854775808 := by decide
  have key : Lib.parseUintB 64 l = if foldU 0 l ≤ 18446744073709551615 then .ok (foldU 0 l) else .range := by
    unfold Lib.parseUintB
    rw [if_neg hne, M64]
    exact parseU_digits l 0 (by omega) hd
  cases l with
  | nil => exact absurd rfl hne
  | cons c r =>
    have hc := hd c (by simp)
    have e1 : ¬ (c.toNat = 43 ∨ c.toNat = 45) := by omega
    have e2 : ¬ c.toNat = 45 := by omega
    simp only [Lib.parseIntB, if_neg e1, key, M63]
    generalize foldU 0 (c :: r) = u
    refine ⟨fun h => ?_, fun h v => ?_⟩
    · rw [if_pos (by omega)]
      simp only [e2, not_false_iff, true_and, false_and, if_false]
      rw [if_neg (by omega)]
    · split
      · simp
      · simp
      · rename_i x hx
        split at hx
        · cases hx
          simp only [e2, not_false_iff, true_and, false_and, if_false]
          rw [if_pos (by omega)]
          simp
        · cases hx
/-- Between two digits. -/
inductive DgI (r : ByteArray) (w : World) (t : Value) (wr : World) : Prop where
  | intro (k : Nat) (h1 : 1 ≤ k) (hk : k ≤ r.size) (ht : t = .int .i64 (k : Int)) (hw : wr = w) (h : 1 < k → (numsOf r).getD 0 0 ≠ 48 ∧ ∀ i, i + 1 < k → isDg ((numsOf r).getD (i + 1) 0) = true)
theorem digN_is {c : Nat} {l : List Nat} {k : Nat} (h1 : 1 ≤ k) (hk : k ≤ l.length + 1) (h : 1 < k → c ≠ 48 ∧ ∀ i, i + 1 < k → isDg ((c :: l).getD (i + 1) 0) = true) (he : c = 48 ∨ ¬ k < l.length + 1 ∨ isDg ((c :: l).getD k 0) = false) : digN (c :: l) = k := by
  simp only [digN]
  split
  · rename_i hc
    rcases Nat.lt_or_ge 1 k with h2 | h2
    · exact absurd hc (h h2).1
    · omega
  · rename_i hc
    have he := he.resolve_left hc
    have : cnt isDg l = k - 1 := by
      refine cnt_is (by omega) (fun i hi => ?_) (fun hn => ?_)
      · have := (h (by omega)).2 i (by omega)
        simpa using this
      · have := he.resolve_left (by omega)
        rw [show k = (k - 1) + 1 by omega] at this
        simpa using this
    omega
/-- the digits of a number are digits -/
theorem dig_all {c : Nat} {l : List Nat} (hc : isDg c = true) : ∀ x ∈ (c :: l).take (digN (c :: l)), isDg x = true := by
  intro x hx
  simp only [digN] at hx
  split at hx
  · simp at hx; subst hx; exact hc
  · rw [List.take_succ_cons] at hx
    rcases List.mem_cons.1 hx with rfl | hx
    · exact hc
    · obtain ⟨i, hi, rfl⟩ := List.mem_iff_getElem.1 hx
      rw [List.length_take] at hi
      have := cnt_lt (f := isDg) (l := l) (i := i) (by omega)
      rw [List.getElem_take]
      rw [List.getD_eq_getElem?_getD, List.getElem?_eq_getElem (by omega)] at this
      exact this
theorem tok_digit (c : Nat) (l : List Nat) (hc : isDg c = true) : tok (c :: l) = if J.tens ((c :: l).take (digN (c :: l))) ≤ 9223372036854775807 then (.nu (J.tens ((c :: l).take (digN (c :: l)))), digN (c :: l)) else (.non, 0) := by
  have h1 : isSg c = false := by
    unfold isDg at hc
    simp only [Bool.and_eq_true, decide_eq_true_eq] at hc
    unfold isSg
    simp only [Bool.or_eq_false_iff, decide_eq_false_iff_not]
    omega
  have h2 : ¬ c = 39 := by
    unfold isDg at hc
    simp only [Bool.and_eq_true, decide_eq_true_eq] at hc
    omega
  show tokC c l = _
  unfold tokC
  rw [if_neg (by rw [h1]; simp), if_neg h2, if_pos hc]
set_option maxHeartbeats 1000000 in
set_option maxRecDepth 8000 in
theorem asNumber_any (r : ByteArray) (c : Nat) (l : List Nat) (hr : numsOf r = c :: l) (hc : isDg c = true) (hs : r.size ≤ 16384) (p : Nat) (hp : p ≤ 16384) (w : World) (hg : 6 ≤ w.heap.size) (hL : Laid w) :
    Calls Tryd.prog 34 #[.agg (tk0 p), .string r] w fun e w' => TkP (c :: l) p w e w' := by
  have hsz : r.size = l.length + 1 := by rw [← numsOf_len, hr]; rfl
  have hx0 : ∀ w', (Instr.index 9 (.string r) (.int .i64 0)).run Tryd.prog w' = .ok (.int .u8 (c : Int)) w' := fun w' => by
    have := str_at r 0 (by omega) w'
    rw [hr] at this
    exact this
  have HR : Hid (numsOf r = c :: l ∧ isDg c = true ∧ r.size = l.length + 1) := ⟨hr, hc, hsz⟩
  have HG : Hid (6 ≤ w.heap.size ∧ Laid w) := ⟨hg, hL⟩
  have hsI : (r.size : Int) ≤ 16384 := by omega
  have hpI : (p : Int) ≤ 16384 := by omega
  have hp0 : (0 : Int) ≤ (p : Int) := by omega
  have HP : Hid (r.size ≤ 16384 ∧ p ≤ 16384) := ⟨hs, hp⟩
  have T0 := TkW.new w (tk0 p)
  unfold zt tk0 at T0
  unfold tk0
  clear hr hc hsz hs hp hg hL
  go_enter Tryd.func34, Tryd.ntmps34
  go_upto_region 1 with fail
  refine wp_at (TkW w _) T0 (fun w1 T1 => ?_)
  have HT1 : Hid (TkW w _ w1) := T1
  clear T0 T1
  go_wp2_with fail
  go_loopw [5] (fun t wr => DgI r w1 t wr) (fun t _ => r.size - (intOf t).toNat)
  case atStart => exact ⟨1, Nat.le_refl _, by have := HR.out.2.2; omega, rfl, rfl, fun h => absurd h (Nat.lt_irrefl _)⟩
  case round =>
    obtain ⟨k, hk1, hk, rfl, hw, h⟩ := hrel
    subst hw
    have HK : Hid (1 ≤ k ∧ k ≤ r.size ∧ (1 < k → (numsOf r).getD 0 0 ≠ 48 ∧ ∀ i, i + 1 < k → isDg ((numsOf r).getD (i + 1) 0) = true)) := ⟨hk1, hk, h⟩
    clear h hk1 hk
    -- what is done behind the digits
    have FIN : Hid (digN (c :: l) = k → ∀ X : ByteArray, r.extract 0 k = X → numsOf X = (c :: l).take (digN (c :: l)) ∧ X.size ≤ 16384 ∧ (∀ x ∈ X.data.toList, 48 ≤ x.toNat ∧ x.toNat ≤ 57) ∧ X.data.toList ≠ [] ∧ J.tens (numsOf X) = foldU 0 X.data.toList) := fun he X hX => by
      have h1 : numsOf X = (c :: l).take (digN (c :: l)) := by
        rw [← hX, extract_nums, HR.out.1, he]
        rw [List.drop_zero, Nat.sub_zero]
      have h2 : X.size ≤ 16384 := by
        have := congrArg List.length h1
        rw [numsOf_len, List.length_take, List.length_cons] at this
        have := HP.out.1; have := HR.out.2.2; omega
      have h3 := dig_all (l := l) HR.out.2.1
      refine ⟨h1, h2, fun x hx => ?_, fun e => ?_, by rw [← tens_foldU]; rfl⟩
      · have : x.toNat ∈ numsOf X := List.mem_map_of_mem hx
        rw [h1] at this
        have := h3 _ this
        unfold isDg at this
        simp only [Bool.and_eq_true, decide_eq_true_eq] at this
        exact this
      · have : numsOf X = [] := by unfold numsOf; rw [e]; rfl
        rw [h1, he] at this
        have h9 := congrArg List.length this
        rw [List.length_take, List.length_cons, List.length_nil] at h9
        have := HK.out.1; omega
    -- behind this: gen_gtkc.py
    by_cases h48 : c = 48
    · have e48 : ((c : Int) != 48) = false := by rw [h48]; rfl
      have e48b : ((c : Int) == 48) = true := by rw [h48]; rfl
      have he : digN (c :: l) = k := digN_is HK.out.1 (by have := HK.out.2.1; have := HR.out.2.2; omega) (fun h => by have := HK.out.2.2 h; rw [HR.out.1] at this; exact this) (.inl h48)
      obtain ⟨X, hX⟩ : ∃ X, r.extract 0 k = X := ⟨_, rfl⟩
      have F : Hid _ := FIN.out he X hX
      have XS : ∀ w', (Instr.slice 9 (.string r) none (some (.int .i64 (k : Int))) none).run Tryd.prog w' = .ok (.string X) w' := fun w' => by rw [← hX]; exact slice_to r k HK.out.2.1 w'
      have PI := parseInt_any X (by have := F.out.2.1; omega) wr (HG.out.2.below HT1.out.b HG.out.1)
      have HE : Hid (digN (c :: l) = k) := he
      clear he hX FIN
      go_wp2_with fail
      refine PI.mono ?_
      rintro e w3 ⟨n, E, rfl, hb, hor⟩
      have T3 := HT1.out.more hb
      have PD : Hid _ := parse_digs X.data.toList F.out.2.2.2.1 F.out.2.2.1
      clear PI hb
      simp only []
      rcases hor with ⟨rfl, hok⟩ | ⟨⟨tp, a, rfl⟩, hno⟩
      · have hv : foldU 0 X.data.toList ≤ 9223372036854775807 ∧ n = (foldU 0 X.data.toList : Nat) := by
          rcases Nat.lt_or_ge 9223372036854775807 (foldU 0 X.data.toList) with h9 | h9
          · exact absurd hok (PD.out.2 (by omega) n)
          · have := PD.out.1 h9
            rw [hok] at this
            cases this
            exact ⟨h9, rfl⟩
        have HTA : Hid (tkA (tok (c :: l)).1 p (p + (tok (c :: l)).2) = #[.string wNumber, .int .i64 (p : Int), .int .i64 ((p : Int) + (k : Int)), .string ⟨#[]⟩, .int .i64 n]) := by
          have e1 := tok_digit c l HR.out.2.1
          rw [← F.out.1, F.out.2.2.2.2, if_pos hv.1, HE.out] at e1
          show tkA _ _ _ = _
          rw [e1, hv.2]
          show #[_, _, _, _, _] = _
          simp only [what, txt, num]
          rfl
        obtain ⟨⟨k0, k1, k2, k3, k4⟩, f0, f1, f2, f3, f4⟩ := row5_cells T3.t
        have hnr : -9223372036854775808 ≤ n ∧ n ≤ 9223372036854775807 := by omega
        clear hok hv
        have HKI : Hid (1 ≤ k ∧ k ≤ r.size) := ⟨HK.out.1, HK.out.2.1⟩
        have kk : (k : Int) ≤ 16384 := by have := HK.out.2.1; omega
        go_upto_region 10 with fail
        refine wp_at (TkW w #[.string wNumber, .int .i64 (p : Int), .int .i64 ((p : Int) + (k : Int)), .string ⟨#[]⟩, .int .i64 n]) (((T3.set 0 _).set 4 _).set 2 _) (fun w5 T5 => ?_)
        clear T3 k0 k1 k2 k3 k4 f0 f1 f2 f3 f4
        obtain ⟨⟨k0, k1, k2, k3, k4⟩, _, _, _, _, _⟩ := row5_cells T5.t
        have hz := T5.r
        unfold zt at hz
        obtain ⟨⟨h0, h1, h2, h3, h4⟩, g0, g1, g2, g3, g4⟩ := row5_cells hz
        have HZ : Hid (_ = _) := hz
        have HB : Hid (Below w.heap.size w w5) := T5.b
        clear hz T5
        unfold wNumber at k0
        go_wp2_with fail
        refine bodyPost_ret (results_cell_row rfl _ _ (w.heap.size + 1) 33 (tkA (tok (c :: l)).1 p (p + (tok (c :: l)).2)) (0, 0) _ rfl (by rw [HTA.out]; exact set5_heap HZ.out _ _ _ _ _) Tryd.underlying33 rfl size_token) rfl ?_
        exact ⟨rfl, below_set5 (by omega) HB.out _ _ _ _ _⟩
      · have hv : ¬ foldU 0 X.data.toList ≤ 9223372036854775807 := fun h9 => hno _ (PD.out.1 h9)
        have HTA : Hid (tkA (tok (c :: l)).1 p (p + (tok (c :: l)).2) = #[.string wNone, .int .i64 (p : Int), .int .i64 (p : Int), .string ⟨#[]⟩, .int .i64 0]) := by
          have e1 := tok_digit c l HR.out.2.1
          rw [← F.out.1, F.out.2.2.2.2, if_neg hv] at e1
          show tkA _ _ _ = _
          rw [e1]; rfl
        obtain ⟨⟨k0, k1, k2, k3, k4⟩, f0, f1, f2, f3, f4⟩ := row5_cells T3.t
        clear hno hv
        go_upto_region 7 with fail
        refine wp_at (TkW w #[.string wNone, .int .i64 (p : Int), .int .i64 (p : Int), .string ⟨#[]⟩, .int .i64 0]) (T3.set 0 _) (fun w5 T5 => ?_)
        clear T3 k0 k1 k2 k3 k4 f0 f1 f2 f3 f4
        obtain ⟨⟨k0, k1, k2, k3, k4⟩, _, _, _, _, _⟩ := row5_cells T5.t
        have hz := T5.r
        unfold zt at hz
        obtain ⟨⟨h0, h1, h2, h3, h4⟩, g0, g1, g2, g3, g4⟩ := row5_cells hz
        have HZ : Hid (_ = _) := hz
        have HB : Hid (Below w.heap.size w w5) := T5.b
        clear hz T5
        unfold wNone at k0
        go_wp2_with fail
        refine bodyPost_ret (results_cell_row rfl _ _ (w.heap.size + 1) 33 (tkA (tok (c :: l)).1 p (p + (tok (c :: l)).2)) (0, 0) _ rfl (by rw [HTA.out]; exact set5_heap HZ.out _ _ _ _ _) Tryd.underlying33 rfl size_token) rfl ?_
        exact ⟨rfl, below_set5 (by omega) HB.out _ _ _ _ _⟩
    have e48 : ((c : Int) != 48) = true := by simpa using fun e : (c : Int) = 48 => h48 (by omega)
    have e48b : ((c : Int) == 48) = false := bset c 48 h48
    have H48 : Hid (c ≠ 48) := h48
    clear h48
    by_cases hlt : k < r.size
    · have hkI : (k : Int) < (r.size : Int) := by omega
      have hk0 : (0 : Int) ≤ (k : Int) := by omega
      have hx := fun w' => str_at r k hlt w'
      obtain ⟨d, hd⟩ : ∃ d, (numsOf r).getD k 0 = d := ⟨_, rfl⟩
      rw [hd] at hx
      have D := isDigit_any d wr
      obtain ⟨b, hb⟩ : ∃ b, isDg d = b := ⟨_, rfl⟩
      rw [hb] at D
      have HD : Hid ((numsOf r).getD k 0 = d ∧ isDg d = b ∧ k < r.size) := ⟨hd, hb, hlt⟩
      clear hd hb hlt
      cases b with
      | true =>
        clear FIN
        go_wp2_with fail
        refine D.mono ?_
        rintro e w2 ⟨rfl, hw⟩
        subst hw
        simp only []
        go_wp2_with fail
        go_roundw
        case rel =>
          refine ⟨k + 1, by omega, by have := HD.out.2.2; omega, by go_num, rfl, fun _ => ⟨by rw [HR.out.1]; exact H48.out, fun i hi => ?_⟩⟩
          rcases Nat.lt_or_ge (i + 1) k with h3 | h3
          · exact (HK.out.2.2 (by omega)).2 i h3
          · have e : i + 1 = k := by omega
            rw [e, HD.out.1]; exact HD.out.2.1
        case measure => have := HD.out.2.2; simp [intOf]; omega
      | false =>
        have D1 := D
        clear D
        have HD2 : Hid (isDg ((c :: l).getD k 0) = false) := by show _ = false; rw [← HR.out.1, HD.out.1]; exact HD.out.2.1
        have he : digN (c :: l) = k := digN_is HK.out.1 (by have := HK.out.2.1; have := HR.out.2.2; omega) (fun h => by have := HK.out.2.2 h; rw [HR.out.1] at this; exact this) (.inr (.inr HD2.out))
        obtain ⟨X, hX⟩ : ∃ X, r.extract 0 k = X := ⟨_, rfl⟩
        have F : Hid _ := FIN.out he X hX
        have XS : ∀ w', (Instr.slice 9 (.string r) none (some (.int .i64 (k : Int))) none).run Tryd.prog w' = .ok (.string X) w' := fun w' => by rw [← hX]; exact slice_to r k HK.out.2.1 w'
        have PI := parseInt_any X (by have := F.out.2.1; omega) wr (HG.out.2.below HT1.out.b HG.out.1)
        have HE : Hid (digN (c :: l) = k) := he
        clear he hX FIN
        go_wp2_with fail
        refine D1.mono ?_
        rintro e w2 ⟨rfl, hw⟩
        subst hw
        clear D1
        simp only []
        go_wp2_with fail
        refine PI.mono ?_
        rintro e w3 ⟨n, E, rfl, hb, hor⟩
        have T3 := HT1.out.more hb
        have PD : Hid _ := parse_digs X.data.toList F.out.2.2.2.1 F.out.2.2.1
        clear PI hb
        simp only []
        rcases hor with ⟨rfl, hok⟩ | ⟨⟨tp, a, rfl⟩, hno⟩
        · have hv : foldU 0 X.data.toList ≤ 9223372036854775807 ∧ n = (foldU 0 X.data.toList : Nat) := by
            rcases Nat.lt_or_ge 9223372036854775807 (foldU 0 X.data.toList) with h9 | h9
            · exact absurd hok (PD.out.2 (by omega) n)
            · have := PD.out.1 h9
              rw [hok] at this
              cases this
              exact ⟨h9, rfl⟩
          have HTA : Hid (tkA (tok (c :: l)).1 p (p + (tok (c :: l)).2) = #[.string wNumber, .int .i64 (p : Int), .int .i64 ((p : Int) + (k : Int)), .string ⟨#[]⟩, .int .i64 n]) := by
            have e1 := tok_digit c l HR.out.2.1
            rw [← F.out.1, F.out.2.2.2.2, if_pos hv.1, HE.out] at e1
            show tkA _ _ _ = _
            rw [e1, hv.2]
            show #[_, _, _, _, _] = _
            simp only [what, txt, num]
            rfl
          obtain ⟨⟨k0, k1, k2, k3, k4⟩, f0, f1, f2, f3, f4⟩ := row5_cells T3.t
          have hnr : -9223372036854775808 ≤ n ∧ n ≤ 9223372036854775807 := by omega
          clear hok hv
          have HKI : Hid (1 ≤ k ∧ k ≤ r.size) := ⟨HK.out.1, HK.out.2.1⟩
          have kk : (k : Int) ≤ 16384 := by have := HK.out.2.1; omega
          go_upto_region 10 with fail
          refine wp_at (TkW w #[.string wNumber, .int .i64 (p : Int), .int .i64 ((p : Int) + (k : Int)), .string ⟨#[]⟩, .int .i64 n]) (((T3.set 0 _).set 4 _).set 2 _) (fun w5 T5 => ?_)
          clear T3 k0 k1 k2 k3 k4 f0 f1 f2 f3 f4
          obtain ⟨⟨k0, k1, k2, k3, k4⟩, _, _, _, _, _⟩ := row5_cells T5.t
          have hz := T5.r
          unfold zt at hz
          obtain ⟨⟨h0, h1, h2, h3, h4⟩, g0, g1, g2, g3, g4⟩ := row5_cells hz
          have HZ : Hid (_ = _) := hz
          have HB : Hid (Below w.heap.size w w5) := T5.b
          clear hz T5
          unfold wNumber at k0
          go_wp2_with fail
          refine bodyPost_ret (results_cell_row rfl _ _ (w.heap.size + 1) 33 (tkA (tok (c :: l)).1 p (p + (tok (c :: l)).2)) (0, 0) _ rfl (by rw [HTA.out]; exact set5_heap HZ.out _ _ _ _ _) Tryd.underlying33 rfl size_token) rfl ?_
          exact ⟨rfl, below_set5 (by omega) HB.out _ _ _ _ _⟩
        · have hv : ¬ foldU 0 X.data.toList ≤ 9223372036854775807 := fun h9 => hno _ (PD.out.1 h9)
          have HTA : Hid (tkA (tok (c :: l)).1 p (p + (tok (c :: l)).2) = #[.string wNone, .int .i64 (p : Int), .int .i64 (p : Int), .string ⟨#[]⟩, .int .i64 0]) := by
            have e1 := tok_digit c l HR.out.2.1
            rw [← F.out.1, F.out.2.2.2.2, if_neg hv] at e1
            show tkA _ _ _ = _
            rw [e1]; rfl
          obtain ⟨⟨k0, k1, k2, k3, k4⟩, f0, f1, f2, f3, f4⟩ := row5_cells T3.t
          clear hno hv
          go_upto_region 7 with fail
          refine wp_at (TkW w #[.string wNone, .int .i64 (p : Int), .int .i64 (p : Int), .string ⟨#[]⟩, .int .i64 0]) (T3.set 0 _) (fun w5 T5 => ?_)
          clear T3 k0 k1 k2 k3 k4 f0 f1 f2 f3 f4
          obtain ⟨⟨k0, k1, k2, k3, k4⟩, _, _, _, _, _⟩ := row5_cells T5.t
          have hz := T5.r
          unfold zt at hz
          obtain ⟨⟨h0, h1, h2, h3, h4⟩, g0, g1, g2, g3, g4⟩ := row5_cells hz
          have HZ : Hid (_ = _) := hz
          have HB : Hid (Below w.heap.size w w5) := T5.b
          clear hz T5
          unfold wNone at k0
          go_wp2_with fail
          refine bodyPost_ret (results_cell_row rfl _ _ (w.heap.size + 1) 33 (tkA (tok (c :: l)).1 p (p + (tok (c :: l)).2)) (0, 0) _ rfl (by rw [HTA.out]; exact set5_heap HZ.out _ _ _ _ _) Tryd.underlying33 rfl size_token) rfl ?_
          exact ⟨rfl, below_set5 (by omega) HB.out _ _ _ _ _⟩
    · have hkI : ¬ (k : Int) < (r.size : Int) := by omega
      have HLT : Hid (¬ k < r.size) := hlt
      clear hlt
      have he : digN (c :: l) = k := digN_is HK.out.1 (by have := HK.out.2.1; have := HR.out.2.2; omega) (fun h => by have := HK.out.2.2 h; rw [HR.out.1] at this; exact this) (.inr (.inl (by have := HLT.out; have := HR.out.2.2; omega)))
      obtain ⟨X, hX⟩ : ∃ X, r.extract 0 k = X := ⟨_, rfl⟩
      have F : Hid _ := FIN.out he X hX
      have XS : ∀ w', (Instr.slice 9 (.string r) none (some (.int .i64 (k : Int))) none).run Tryd.prog w' = .ok (.string X) w' := fun w' => by rw [← hX]; exact slice_to r k HK.out.2.1 w'
      have PI := parseInt_any X (by have := F.out.2.1; omega) wr (HG.out.2.below HT1.out.b HG.out.1)
      have HE : Hid (digN (c :: l) = k) := he
      clear he hX FIN
      go_wp2_with fail
      refine PI.mono ?_
      rintro e w3 ⟨n, E, rfl, hb, hor⟩
      have T3 := HT1.out.more hb
      have PD : Hid _ := parse_digs X.data.toList F.out.2.2.2.1 F.out.2.2.1
      clear PI hb
      simp only []
      rcases hor with ⟨rfl, hok⟩ | ⟨⟨tp, a, rfl⟩, hno⟩
      · have hv : foldU 0 X.data.toList ≤ 9223372036854775807 ∧ n = (foldU 0 X.data.toList : Nat) := by
          rcases Nat.lt_or_ge 9223372036854775807 (foldU 0 X.data.toList) with h9 | h9
          · exact absurd hok (PD.out.2 (by omega) n)
          · have := PD.out.1 h9
            rw [hok] at this
            cases this
            exact ⟨h9, rfl⟩
        have HTA : Hid (tkA (tok (c :: l)).1 p (p + (tok (c :: l)).2) = #[.string wNumber, .int .i64 (p : Int), .int .i64 ((p : Int) + (k : Int)), .string ⟨#[]⟩, .int .i64 n]) := by
          have e1 := tok_digit c l HR.out.2.1
          rw [← F.out.1, F.out.2.2.2.2, if_pos hv.1, HE.out] at e1
          show tkA _ _ _ = _
          rw [e1, hv.2]
          show #[_, _, _, _, _] = _
          simp only [what, txt, num]
          rfl
        obtain ⟨⟨k0, k1, k2, k3, k4⟩, f0, f1, f2, f3, f4⟩ := row5_cells T3.t
        have hnr : -9223372036854775808 ≤ n ∧ n ≤ 9223372036854775807 := by omega
        clear hok hv
        have HKI : Hid (1 ≤ k ∧ k ≤ r.size) := ⟨HK.out.1, HK.out.2.1⟩
        have kk : (k : Int) ≤ 16384 := by have := HK.out.2.1; omega
        go_upto_region 10 with fail
        refine wp_at (TkW w #[.string wNumber, .int .i64 (p : Int), .int .i64 ((p : Int) + (k : Int)), .string ⟨#[]⟩, .int .i64 n]) (((T3.set 0 _).set 4 _).set 2 _) (fun w5 T5 => ?_)
        clear T3 k0 k1 k2 k3 k4 f0 f1 f2 f3 f4
        obtain ⟨⟨k0, k1, k2, k3, k4⟩, _, _, _, _, _⟩ := row5_cells T5.t
        have hz := T5.r
        unfold zt at hz
        obtain ⟨⟨h0, h1, h2, h3, h4⟩, g0, g1, g2, g3, g4⟩ := row5_cells hz
        have HZ : Hid (_ = _) := hz
        have HB : Hid (Below w.heap.size w w5) := T5.b
        clear hz T5
        unfold wNumber at k0
        go_wp2_with fail
        refine bodyPost_ret (results_cell_row rfl _ _ (w.heap.size + 1) 33 (tkA (tok (c :: l)).1 p (p + (tok (c :: l)).2)) (0, 0) _ rfl (by rw [HTA.out]; exact set5_heap HZ.out _ _ _ _ _) Tryd.underlying33 rfl size_token) rfl ?_
        exact ⟨rfl, below_set5 (by omega) HB.out _ _ _ _ _⟩
      · have hv : ¬ foldU 0 X.data.toList ≤ 9223372036854775807 := fun h9 => hno _ (PD.out.1 h9)
        have HTA : Hid (tkA (tok (c :: l)).1 p (p + (tok (c :: l)).2) = #[.string wNone, .int .i64 (p : Int), .int .i64 (p : Int), .string ⟨#[]⟩, .int .i64 0]) := by
          have e1 := tok_digit c l HR.out.2.1
          rw [← F.out.1, F.out.2.2.2.2, if_neg hv] at e1
          show tkA _ _ _ = _
          rw [e1]; rfl
        obtain ⟨⟨k0, k1, k2, k3, k4⟩, f0, f1, f2, f3, f4⟩ := row5_cells T3.t
        clear hno hv
        go_upto_region 7 with fail
        refine wp_at (TkW w #[.string wNone, .int .i64 (p : Int), .int .i64 (p : Int), .string ⟨#[]⟩, .int .i64 0]) (T3.set 0 _) (fun w5 T5 => ?_)
        clear T3 k0 k1 k2 k3 k4 f0 f1 f2 f3 f4
        obtain ⟨⟨k0, k1, k2, k3, k4⟩, _, _, _, _, _⟩ := row5_cells T5.t
        have hz := T5.r
        unfold zt at hz
        obtain ⟨⟨h0, h1, h2, h3, h4⟩, g0, g1, g2, g3, g4⟩ := row5_cells hz
        have HZ : Hid (_ = _) := hz
        have HB : Hid (Below w.heap.size w w5) := T5.b
        clear hz T5
        unfold wNone at k0
        go_wp2_with fail
        refine bodyPost_ret (results_cell_row rfl _ _ (w.heap.size + 1) 33 (tkA (tok (c :: l)).1 p (p + (tok (c :: l)).2)) (0, 0) _ rfl (by rw [HTA.out]; exact set5_heap HZ.out _ _ _ _ _) Tryd.underlying33 rfl size_token) rfl ?_
        exact ⟨rfl, below_set5 (by omega) HB.out _ _ _ _ _⟩
end Go.Proofs.YtkcmidhpbaepoaaDoor.G
