/-
  The program's token at a place. Written by tools/gen_gtke.py.
-/
import Derived.Test.YtkcmidhpbaepoaaDoorGTkD
namespace Go.Proofs.YtkcmidhpbaepoaaDoor.G
open Go.RowKit Go.WideShapes Go.Joins

/-- the token in its box, and the result's box ahead of it -/
structure TkV (w : World) (A : Array Value) (w' : World) : Prop where
  t : w'.heap[w.heap.size + 1]? = some (.cells A 33 (0, 0))
  r : w'.heap[w.heap.size]? = some (.cells zt 33 (0, 0))
  b : Below w.heap.size w w'
theorem TkV.set {w w' : World} {a b c d e : Value} (h : TkV w #[a, b, c, d, e] w') (i : Nat) (v : Value) : TkV w (#[a, b, c, d, e].setIfInBounds i v) (w'.setCell ⟨w.heap.size + 1, i, none⟩ v) :=
  ⟨block_setCell (i := i) h.t v, kept1 h.r (by omega), below_set (Nat.le_succ _) h.b i v⟩
theorem TkV.more {w w' w'' : World} {A : Array Value} (h : TkV w A w') (hb : Below w'.heap.size w' w'') : TkV w A w'' := ⟨box_below h.t hb, box_below h.r hb, below_more h.b hb⟩
theorem TkV.new (w : World) (A : Array Value) : TkV w A ((w.alloc (.cells zt 33)).alloc (.cells A 33)) := by
  have b1 := below_new w (.cells zt 33)
  have n1 := _root_.Go.heap_alloc_new w (.cells zt 33)
  have b2 := below_new (w.alloc (.cells zt 33)) (.cells A 33)
  have n2 := _root_.Go.heap_alloc_new (w.alloc (.cells zt 33)) (.cells A 33)
  rw [World.size_alloc] at n2
  exact ⟨n2, box_below n1 b2, below_more b1 b2⟩
theorem TkV.five {w w' : World} {a b c d e : Value} (h : TkV w #[a, b, c, d, e] w') (x0 x1 x2 x3 x4 : Value) : TkV w #[x0, x1, x2, x3, x4] (set5 w' (w.heap.size + 1) x0 x1 x2 x3 x4) :=
  ⟨set5_heap h.t _ _ _ _ _, by
    unfold set5
    exact kept1 (kept1 (kept1 (kept1 (kept1 h.r (by omega)) (by omega)) (by omega)) (by omega)) (by omega), below_set5 (Nat.le_succ _) h.b _ _ _ _ _⟩
def sgS : ByteArray := ⟨#[61, 60, 43, 45, 42, 40, 41]⟩
theorem sg_idx (c : Nat) (h : c < 256) : (0 ≤ Lib.indexByte sgS.data.toList ((c : Int).toNat.toUInt8)) ↔ isSg c = true := by
  have key : ∀ k : Fin 256, (decide (0 ≤ Lib.indexByte sgS.data.toList (((k.val : Nat) : Int).toNat.toUInt8)) = isSg k.val) := by decide +kernel
  have := key ⟨c, h⟩
  rw [← this, decide_eq_true_iff]
theorem tok_sign (c : Nat) (l : List Nat) (h : isSg c = true) : tok (c :: l) = (.sg c, 1) := by
  show tokC c l = _
  unfold tokC
  rw [if_pos h]
set_option maxHeartbeats 1000000 in
set_option maxRecDepth 8000 in
theorem tokenAt_any (S : ByteArray) (p : Nat) (hp : p ≤ S.size) (hs : S.size ≤ 16384) (w : World) (hg : 6 ≤ w.heap.size) (hL : Laid w) :
    Calls Tryd.prog 21 #[.string S, .int .i64 (p : Int)] w fun e w' => TkP ((numsOf S).drop p) p w e w' := by
  obtain ⟨D, hD⟩ : ∃ D, S.extract p S.size = D := ⟨_, rfl⟩
  have hDn : numsOf D = (numsOf S).drop p := by rw [← hD, nums_from]
  have hDs : D.size ≤ 16384 := by rw [← numsOf_len, hDn, List.length_drop, numsOf_len]; omega
  have X1 : ∀ w', (Instr.slice 9 (.string S) (some (.int .i64 (p : Int))) none none).run Tryd.prog w' = .ok (.string D) w' := fun w' => by rw [← hD]; exact slice_from S p hp w'
  have hpI : (p : Int) ≤ 16384 := by omega
  have hp0 : (0 : Int) ≤ (p : Int) := by omega
  have T0 := TkV.new w (tk0 p)
  have HG : Hid (6 ≤ w.heap.size ∧ Laid w ∧ p ≤ 16384) := ⟨hg, hL, by omega⟩
  rw [← hDn]
  clear hD hDn hg hL hs hp
  unfold zt tk0 at T0
  cases hl : numsOf D with
  | nil =>
    have e0 : (D.toList == []) = true := lit_yes (K := ⟨#[]⟩) rfl (numsOf_inj (by rw [hl]; rfl))
    have HTA : Hid (tkA (tok []).1 p (p + (tok []).2) = #[.string wEnd, .int .i64 (p : Int), .int .i64 (p : Int), .string ⟨#[]⟩, .int .i64 0]) := rfl
    clear hl hDs
    go_enter Tryd.func21, Tryd.ntmps21
    go_upto_region 2 with fail
    refine wp_at (TkV w _) T0 (fun w1 T1 => ?_)
    obtain ⟨⟨k0, k1, k2, k3, k4⟩, f0, f1, f2, f3, f4⟩ := row5_cells T1.t
    clear T0
    go_upto_region 12 with fail
    refine wp_at (TkV w #[.string wEnd, .int .i64 (p : Int), .int .i64 (p : Int), .string ⟨#[]⟩, .int .i64 0]) (T1.set 0 _) (fun w5 T5 => ?_)
    clear T1 k0 k1 k2 k3 k4 f0 f1 f2 f3 f4
    obtain ⟨⟨k0, k1, k2, k3, k4⟩, _, _, _, _, _⟩ := row5_cells T5.t
    have hz := T5.r
    unfold zt at hz
    obtain ⟨⟨h0, h1, h2, h3, h4⟩, g0, g1, g2, g3, g4⟩ := row5_cells hz
    have HZ : Hid (_ = _) := hz
    have HB : Hid (Below w.heap.size w w5) := T5.b
    clear hz T5
    unfold wEnd at k0
    go_wp2_with fail
    refine bodyPost_ret (results_cell_row rfl _ _ w.heap.size 33 (tkA (tok []).1 p (p + (tok []).2)) (0, 0) _ rfl (by rw [HTA.out]; exact set5_heap HZ.out _ _ _ _ _) Tryd.underlying33 rfl size_token) rfl ?_
    exact ⟨rfl, below_set5 (Nat.le_refl _) HB.out _ _ _ _ _⟩
  | cons c l =>
    have e0 : (D.toList == []) = false := lit_no (K := ⟨#[]⟩) rfl (fun e => by rw [e] at hl; cases hl)
    have hsz : 0 < D.size := by rw [← numsOf_len, hl]; simp
    have hdI : (0 : Int) < (D.size : Int) := by omega
    have hd1 : (1 : Int) ≤ (D.size : Int) := by omega
    have hc : c < 256 := numsOf_lt D c (by rw [hl]; simp)
    have hx0 : ∀ w', (Instr.index 9 (.string D) (.int .i64 0)).run Tryd.prog w' = .ok (.int .u8 (c : Int)) w' := fun w' => by
      have := str_at D 0 hsz w'
      rw [hl] at this
      exact this
    have IX := fun w' => Any.strings_IndexByte lays137 sgS (c : Int) w'
    have hix := sg_idx c hc
    generalize Lib.indexByte sgS.data.toList ((c : Int).toNat.toUInt8) = N at IX hix
    unfold sgS at IX
    by_cases h1 : isSg c = true
    · have hN : 0 ≤ N := hix.2 h1
      have XS : ∀ w', (Instr.slice 9 (.string D) none (some (.int .i64 1)) none).run Tryd.prog w' = .ok (.string (strOf [c])) w' := fun w' => by
        have := slice_to D 1 hsz w'
        have e : D.extract 0 1 = strOf [c] := by
          rw [← strOf_nums (D.extract 0 1), extract_nums, hl]; rfl
        rw [e] at this
        exact this
      have HTA : Hid (tkA (tok (c :: l)).1 p (p + (tok (c :: l)).2) = #[.string (strOf [c]), .int .i64 (p : Int), .int .i64 ((p : Int) + 1), .string ⟨#[]⟩, .int .i64 0]) := by
        show tkA _ _ _ = _
        rw [tok_sign c l h1]; rfl
      generalize strOf [c] = Y at XS HTA
      clear hl hsz hc hix h1 hDs
      go_enter Tryd.func21, Tryd.ntmps21
      go_upto_region 2 with fail
      refine wp_at (TkV w _) T0 (fun w1 T1 => ?_)
      obtain ⟨⟨k0, k1, k2, k3, k4⟩, f0, f1, f2, f3, f4⟩ := row5_cells T1.t
      clear T0
      have IX1 := IX w1
      clear IX
      go_wp2_with fail
      refine IX1.mono ?_
      rintro e w3 ⟨rfl, hw⟩
      subst hw
      clear IX1
      simp only []
      go_upto_region 12 with fail
      refine wp_at (TkV w #[.string Y, .int .i64 (p : Int), .int .i64 ((p : Int) + 1), .string ⟨#[]⟩, .int .i64 0]) ((T1.set 0 _).set 2 _) (fun w5 T5 => ?_)
      clear T1 k0 k1 k2 k3 k4 f0 f1 f2 f3 f4
      obtain ⟨⟨k0, k1, k2, k3, k4⟩, _, _, _, _, _⟩ := row5_cells T5.t
      have hz := T5.r
      unfold zt at hz
      obtain ⟨⟨h0, h1, h2, h3, h4⟩, g0, g1, g2, g3, g4⟩ := row5_cells hz
      have HZ : Hid (_ = _) := hz
      have HB : Hid (Below w.heap.size w w5) := T5.b
      clear hz T5
      go_wp2_with fail
      refine bodyPost_ret (results_cell_row rfl _ _ w.heap.size 33 (tkA (tok (c :: l)).1 p (p + (tok (c :: l)).2)) (0, 0) _ rfl (by rw [HTA.out]; exact set5_heap HZ.out _ _ _ _ _) Tryd.underlying33 rfl size_token) rfl ?_
      exact ⟨rfl, below_set5 (Nat.le_refl _) HB.out _ _ _ _ _⟩
    have hN : ¬ 0 ≤ N := fun h => h1 (hix.1 h)
    have h1 : isSg c = false := by simpa using h1
    clear hix
    obtain ⟨u0, u2, u3, u4, hA⟩ : ∃ (u0 : ByteArray) (u2 : Int) (u3 : ByteArray) (u4 : Int), tkA (tok (c :: l)).1 p (p + (tok (c :: l)).2) = #[.string u0, .int .i64 (p : Int), .int .i64 u2, .string u3, .int .i64 u4] := ⟨_, _, _, _, rfl⟩
    have HTA : Hid (tkA (tok (c :: l)).1 p (p + (tok (c :: l)).2) = #[.string u0, .int .i64 (p : Int), .int .i64 u2, .string u3, .int .i64 u4]) := hA
    by_cases h2 : c = 39
    · have AT := fun w' => asText_any D l (by rw [hl, h2]) hDs p HG.out.2.2 w'
      rw [← h2] at AT
      have q2 : ((c : Int) == 39) = true := by rw [h2]; rfl
      unfold tk0 at AT
      clear hl hsz hc h1 h2 hDs hA
      go_enter Tryd.func21, Tryd.ntmps21
      go_upto_region 2 with fail
      refine wp_at (TkV w _) T0 (fun w1 T1 => ?_)
      obtain ⟨⟨k0, k1, k2, k3, k4⟩, f0, f1, f2, f3, f4⟩ := row5_cells T1.t
      clear T0
      have IX1 := IX w1
      clear IX
      go_wp2_with fail
      refine IX1.mono ?_
      rintro e w3 ⟨rfl, hw⟩
      subst hw
      clear IX1
      simp only []
      have CC := AT w3
      clear AT
      go_wp2_with fail
      refine CC.mono ?_
      rintro e w6 ⟨rfl, hb⟩
      rw [HTA.out]
      replace T1 := T1.more hb
      clear CC hb k0 k1 k2 k3 k4 f0 f1 f2 f3 f4
      obtain ⟨⟨k0, k1, k2, k3, k4⟩, f0, f1, f2, f3, f4⟩ := row5_cells T1.t
      simp only []
      go_upto_region 12 with fail
      refine wp_at (TkV w #[.string u0, .int .i64 (p : Int), .int .i64 u2, .string u3, .int .i64 u4]) (T1.five _ _ _ _ _) (fun w5 T5 => ?_)
      clear T1 k0 k1 k2 k3 k4 f0 f1 f2 f3 f4
      obtain ⟨⟨k0, k1, k2, k3, k4⟩, _, _, _, _, _⟩ := row5_cells T5.t
      have hz := T5.r
      unfold zt at hz
      obtain ⟨⟨h0, h1, h2, h3, h4⟩, g0, g1, g2, g3, g4⟩ := row5_cells hz
      have HZ : Hid (_ = _) := hz
      have HB : Hid (Below w.heap.size w w5) := T5.b
      clear hz T5
      go_wp2_with fail
      refine bodyPost_ret (results_cell_row rfl _ _ w.heap.size 33 (tkA (tok (c :: l)).1 p (p + (tok (c :: l)).2)) (0, 0) _ rfl (by rw [HTA.out]; exact set5_heap HZ.out _ _ _ _ _) Tryd.underlying33 rfl size_token) rfl ?_
      exact ⟨rfl, below_set5 (Nat.le_refl _) HB.out _ _ _ _ _⟩
    have q2 : ((c : Int) == 39) = false := bset c 39 h2
    have DG := fun w' => isDigit_any c w'
    cases h3 : isDg c with
    | true =>
      have AN := fun w' h1 h2 => asNumber_any D c l hl h3 hDs p HG.out.2.2 w' h1 h2
      unfold tk0 at AN
      rw [h3] at DG
      clear hl hsz hc h1 h2 h3 hDs hA
      go_enter Tryd.func21, Tryd.ntmps21
      go_upto_region 2 with fail
      refine wp_at (TkV w _) T0 (fun w1 T1 => ?_)
      obtain ⟨⟨k0, k1, k2, k3, k4⟩, f0, f1, f2, f3, f4⟩ := row5_cells T1.t
      clear T0
      have IX1 := IX w1
      clear IX
      go_wp2_with fail
      refine IX1.mono ?_
      rintro e w3 ⟨rfl, hw⟩
      subst hw
      clear IX1
      simp only []
      have CC := DG w3
      clear DG
      go_wp2_with fail
      refine CC.mono ?_
      rintro e w4 ⟨rfl, hw⟩
      subst hw
      clear CC
      simp only []
      have CC := AN w4 (Nat.le_trans HG.out.1 T1.b.size) (HG.out.2.1.below T1.b HG.out.1)
      clear AN
      go_wp2_with fail
      refine CC.mono ?_
      rintro e w6 ⟨rfl, hb⟩
      rw [HTA.out]
      replace T1 := T1.more hb
      clear CC hb k0 k1 k2 k3 k4 f0 f1 f2 f3 f4
      obtain ⟨⟨k0, k1, k2, k3, k4⟩, f0, f1, f2, f3, f4⟩ := row5_cells T1.t
      simp only []
      go_upto_region 12 with fail
      refine wp_at (TkV w #[.string u0, .int .i64 (p : Int), .int .i64 u2, .string u3, .int .i64 u4]) (T1.five _ _ _ _ _) (fun w5 T5 => ?_)
      clear T1 k0 k1 k2 k3 k4 f0 f1 f2 f3 f4
      obtain ⟨⟨k0, k1, k2, k3, k4⟩, _, _, _, _, _⟩ := row5_cells T5.t
      have hz := T5.r
      unfold zt at hz
      obtain ⟨⟨h0, h1, h2, h3, h4⟩, g0, g1, g2, g3, g4⟩ := row5_cells hz
      have HZ : Hid (_ = _) := hz
      have HB : Hid (Below w.heap.size w w5) := T5.b
      clear hz T5
      go_wp2_with fail
      refine bodyPost_ret (results_cell_row rfl _ _ w.heap.size 33 (tkA (tok (c :: l)).1 p (p + (tok (c :: l)).2)) (0, 0) _ rfl (by rw [HTA.out]; exact set5_heap HZ.out _ _ _ _ _) Tryd.underlying33 rfl size_token) rfl ?_
      exact ⟨rfl, below_set5 (Nat.le_refl _) HB.out _ _ _ _ _⟩
    | false =>
      have AW := fun w' => asWord_any D c l hl h1 h2 h3 hDs p HG.out.2.2 w'
      unfold tk0 at AW
      rw [h3] at DG
      clear hl hsz hc h1 h2 h3 hDs hA
      go_enter Tryd.func21, Tryd.ntmps21
      go_upto_region 2 with fail
      refine wp_at (TkV w _) T0 (fun w1 T1 => ?_)
      obtain ⟨⟨k0, k1, k2, k3, k4⟩, f0, f1, f2, f3, f4⟩ := row5_cells T1.t
      clear T0
      have IX1 := IX w1
      clear IX
      go_wp2_with fail
      refine IX1.mono ?_
      rintro e w3 ⟨rfl, hw⟩
      subst hw
      clear IX1
      simp only []
      have CC := DG w3
      clear DG
      go_wp2_with fail
      refine CC.mono ?_
      rintro e w4 ⟨rfl, hw⟩
      subst hw
      clear CC
      simp only []
      have CC := AW w4
      clear AW
      go_wp2_with fail
      refine CC.mono ?_
      rintro e w6 ⟨rfl, hb⟩
      rw [HTA.out]
      replace T1 := T1.more hb
      clear CC hb k0 k1 k2 k3 k4 f0 f1 f2 f3 f4
      obtain ⟨⟨k0, k1, k2, k3, k4⟩, f0, f1, f2, f3, f4⟩ := row5_cells T1.t
      simp only []
      go_upto_region 12 with fail
      refine wp_at (TkV w #[.string u0, .int .i64 (p : Int), .int .i64 u2, .string u3, .int .i64 u4]) (T1.five _ _ _ _ _) (fun w5 T5 => ?_)
      clear T1 k0 k1 k2 k3 k4 f0 f1 f2 f3 f4
      obtain ⟨⟨k0, k1, k2, k3, k4⟩, _, _, _, _, _⟩ := row5_cells T5.t
      have hz := T5.r
      unfold zt at hz
      obtain ⟨⟨h0, h1, h2, h3, h4⟩, g0, g1, g2, g3, g4⟩ := row5_cells hz
      have HZ : Hid (_ = _) := hz
      have HB : Hid (Below w.heap.size w w5) := T5.b
      clear hz T5
      go_wp2_with fail
      refine bodyPost_ret (results_cell_row rfl _ _ w.heap.size 33 (tkA (tok (c :: l)).1 p (p + (tok (c :: l)).2)) (0, 0) _ rfl (by rw [HTA.out]; exact set5_heap HZ.out _ _ _ _ _) Tryd.underlying33 rfl size_token) rfl ?_
      exact ⟨rfl, below_set5 (Nat.le_refl _) HB.out _ _ _ _ _⟩
end Go.Proofs.YtkcmidhpbaepoaaDoor.G
