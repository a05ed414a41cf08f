/-
  The program's words as tokens. Written by tools/gen_gtkd.py.
-/
import Derived.Test.YtkcmidhpbaepoaaDoorGTkC
namespace Go.Proofs.YtkcmidhpbaepoaaDoor.G
open Go.RowKit Go.WideShapes Go.Joins

theorem tok_word (c : Nat) (l : List Nat) (h1 : isSg c = false) (h2 : c ≠ 39) (h3 : isDg c = false) :
    tok (c :: l) = if wordN (c :: l) = 0 ∨ 32 < wordN (c :: l) then (.non, 0) else if taken ((c :: l).take (wordN (c :: l))) then (.wd ((c :: l).take (wordN (c :: l))), wordN (c :: l)) else (.nm ((c :: l).take (wordN (c :: l))), wordN (c :: l)) := by
  show tokC c l = _
  unfold tokC
  rw [if_neg (by rw [h1]; simp), if_neg h2, if_neg (by rw [h3]; simp)]
set_option maxHeartbeats 1000000 in
set_option maxRecDepth 8000 in
theorem asWord_any (r : ByteArray) (c : Nat) (l : List Nat) (hr : numsOf r = c :: l) (h1 : isSg c = false) (h2 : c ≠ 39) (h3 : isDg c = false) (hs : r.size ≤ 16384) (p : Nat) (hp : p ≤ 16384) (w : World) :
    Calls Tryd.prog 35 #[.agg (tk0 p), .string r] w fun e w' => TkP (c :: l) p w e w' := by
  have TW := tok_word c l h1 h2 h3
  have hsz : r.size = l.length + 1 := by rw [← numsOf_len, hr]; rfl
  obtain ⟨n, hn⟩ : ∃ n, wordN (c :: l) = n := ⟨_, rfl⟩
  have hnl : n ≤ l.length + 1 := by rw [← hn]; exact wordN_le _
  obtain ⟨X, hX⟩ : ∃ X, r.extract 0 n = X := ⟨_, rfl⟩
  have hXn : numsOf X = (c :: l).take n := by rw [← hX, extract_nums, hr, List.drop_zero, Nat.sub_zero]
  have XS : ∀ w', (Instr.slice 9 (.string r) none (some (.int .i64 (n : Int))) none).run Tryd.prog w' = .ok (.string X) w' := fun w' => by rw [← hX]; exact slice_to r n (by omega) w'
  have C1 := fun w' => wordIn_any r (by omega) w'
  rw [hr, hn] at C1
  have C2 := fun w' => isTaken_any X w'
  rw [hXn] at C2
  rw [hn, ← hXn] at TW
  have hnI : (n : Int) ≤ 16385 := by omega
  have hn0 : (0 : Int) ≤ (n : Int) := by omega
  have hpI : (p : Int) ≤ 16384 := by omega
  have hp0 : (0 : Int) ≤ (p : Int) := by omega
  have T0 := TkW.new w (tk0 p)
  unfold zt tk0 at T0
  unfold tk0
  have HTW : Hid (tok (c :: l) = _) := TW
  have HNI : Hid (n ≤ 16385 ∧ p ≤ 16384) := ⟨by omega, by omega⟩
  clear hr h1 h2 h3 hs hp hsz hn hnl hX TW
  by_cases hc : n = 0
  · have HTA : Hid (tkA (tok (c :: l)).1 p (p + (tok (c :: l)).2) = #[.string wNone, .int .i64 (p : Int), .int .i64 (p : Int), .string ⟨#[]⟩, .int .i64 0]) := by
      show tkA _ _ _ = _
      rw [HTW.out, if_pos (by omega)]; rfl
    have a1 : ((n : Int) == 0) = true := by rw [hc]; rfl
    clear C2 HTW
    subst hc
    simp only [show (((0 : Nat) : Int)) = 0 from rfl] at *
    go_enter Tryd.func35, Tryd.ntmps35
    go_upto_region 1 with fail
    refine wp_at (TkW w _) T0 (fun w1 T1 => ?_)
    have C1' := C1 w1
    clear C1 T0
    go_wp2_with fail
    refine C1'.mono ?_
    rintro e w3 ⟨rfl, hw⟩
    subst hw
    clear C1'
    simp only []
    obtain ⟨⟨k0, k1, k2, k3, k4⟩, f0, f1, f2, f3, f4⟩ := row5_cells T1.t
    go_upto_region 6 with fail
    refine wp_at (TkW w #[.string wNone, .int .i64 (p : Int), .int .i64 (p : Int), .string ⟨#[]⟩, .int .i64 0]) (T1.set 0 _) (fun w5 T5 => ?_)
    clear T1 k0 k1 k2 k3 k4 f0 f1 f2 f3 f4
    obtain ⟨⟨k0, k1, k2, k3, k4⟩, _, _, _, _, _⟩ := row5_cells T5.t
    have hz := T5.r
    unfold zt at hz
    obtain ⟨⟨h0, h1, h2, h3, h4⟩, g0, g1, g2, g3, g4⟩ := row5_cells hz
    have HZ : Hid (_ = _) := hz
    have HB : Hid (Below w.heap.size w w5) := T5.b
    clear hz T5
    unfold wNone at k0
    go_wp2_with fail
    refine bodyPost_ret (results_cell_row rfl _ _ (w.heap.size + 1) 33 (tkA (tok (c :: l)).1 p (p + (tok (c :: l)).2)) (0, 0) _ rfl (by rw [HTA.out]; exact set5_heap HZ.out _ _ _ _ _) Tryd.underlying33 rfl size_token) rfl ?_
    exact ⟨rfl, below_set5 (by omega) HB.out _ _ _ _ _⟩
  have hz0 := hc
  clear hc
  by_cases hc : 32 < n
  · have HTA : Hid (tkA (tok (c :: l)).1 p (p + (tok (c :: l)).2) = #[.string wNone, .int .i64 (p : Int), .int .i64 (p : Int), .string ⟨#[]⟩, .int .i64 0]) := by
      show tkA _ _ _ = _
      rw [HTW.out, if_pos (by omega)]; rfl
    have a1 : ((n : Int) == 0) = false := by simpa using fun e : (n : Int) = 0 => hz0 (by omega)
    have a2 : (32 : Int) < (n : Int) := by omega
    clear C2 HTW
    clear hc
    go_enter Tryd.func35, Tryd.ntmps35
    go_upto_region 1 with fail
    refine wp_at (TkW w _) T0 (fun w1 T1 => ?_)
    have C1' := C1 w1
    clear C1 T0
    go_wp2_with fail
    refine C1'.mono ?_
    rintro e w3 ⟨rfl, hw⟩
    subst hw
    clear C1'
    simp only []
    obtain ⟨⟨k0, k1, k2, k3, k4⟩, f0, f1, f2, f3, f4⟩ := row5_cells T1.t
    go_upto_region 6 with fail
    refine wp_at (TkW w #[.string wNone, .int .i64 (p : Int), .int .i64 (p : Int), .string ⟨#[]⟩, .int .i64 0]) (T1.set 0 _) (fun w5 T5 => ?_)
    clear T1 k0 k1 k2 k3 k4 f0 f1 f2 f3 f4
    obtain ⟨⟨k0, k1, k2, k3, k4⟩, _, _, _, _, _⟩ := row5_cells T5.t
    have hz := T5.r
    unfold zt at hz
    obtain ⟨⟨h0, h1, h2, h3, h4⟩, g0, g1, g2, g3, g4⟩ := row5_cells hz
    have HZ : Hid (_ = _) := hz
    have HB : Hid (Below w.heap.size w w5) := T5.b
    clear hz T5
    unfold wNone at k0
    go_wp2_with fail
    refine bodyPost_ret (results_cell_row rfl _ _ (w.heap.size + 1) 33 (tkA (tok (c :: l)).1 p (p + (tok (c :: l)).2)) (0, 0) _ rfl (by rw [HTA.out]; exact set5_heap HZ.out _ _ _ _ _) Tryd.underlying33 rfl size_token) rfl ?_
    exact ⟨rfl, below_set5 (by omega) HB.out _ _ _ _ _⟩
  have h32 := hc
  have a1 : ((n : Int) == 0) = false := by simpa using fun e : (n : Int) = 0 => hz0 (by omega)
  have a2 : ¬ (32 : Int) < (n : Int) := by omega
  rw [if_neg (by omega)] at HTW
  clear hc
  clear hz0 h32
  cases ht : taken (numsOf X) with
  | true =>
    rw [← hXn, ht] at C2
    have HTA : Hid (tkA (tok (c :: l)).1 p (p + (tok (c :: l)).2) = #[.string X, .int .i64 (p : Int), .int .i64 ((p : Int) + (n : Int)), .string ⟨#[]⟩, .int .i64 0]) := by
      show tkA _ _ _ = _
      rw [HTW.out, ht, if_pos rfl]
      show #[_, _, _, _, _] = _
      simp only [what, txt, num, strOf_nums]
      rfl
    clear HTW hXn ht
    go_enter Tryd.func35, Tryd.ntmps35
    go_upto_region 1 with fail
    refine wp_at (TkW w _) T0 (fun w1 T1 => ?_)
    have C1' := C1 w1
    clear C1 T0
    go_wp2_with fail
    refine C1'.mono ?_
    rintro e w3 ⟨rfl, hw⟩
    subst hw
    clear C1'
    simp only []
    have C2' := C2 w3
    clear C2
    go_wp2_with fail
    refine C2'.mono ?_
    rintro e w4 ⟨rfl, hw⟩
    subst hw
    clear C2'
    simp only []
    obtain ⟨⟨k0, k1, k2, k3, k4⟩, f0, f1, f2, f3, f4⟩ := row5_cells T1.t
    go_upto_region 10 with fail
    refine wp_at (TkW w #[.string X, .int .i64 (p : Int), .int .i64 ((p : Int) + (n : Int)), .string ⟨#[]⟩, .int .i64 0]) (((T1.set 0 _).set 2 _)) (fun w5 T5 => ?_)
    clear T1 k0 k1 k2 k3 k4 f0 f1 f2 f3 f4
    obtain ⟨⟨k0, k1, k2, k3, k4⟩, _, _, _, _, _⟩ := row5_cells T5.t
    have hz := T5.r
    unfold zt at hz
    obtain ⟨⟨h0, h1, h2, h3, h4⟩, g0, g1, g2, g3, g4⟩ := row5_cells hz
    have HZ : Hid (_ = _) := hz
    have HB : Hid (Below w.heap.size w w5) := T5.b
    clear hz T5
    go_wp2_with fail
    refine bodyPost_ret (results_cell_row rfl _ _ (w.heap.size + 1) 33 (tkA (tok (c :: l)).1 p (p + (tok (c :: l)).2)) (0, 0) _ rfl (by rw [HTA.out]; exact set5_heap HZ.out _ _ _ _ _) Tryd.underlying33 rfl size_token) rfl ?_
    exact ⟨rfl, below_set5 (by omega) HB.out _ _ _ _ _⟩
  | false =>
    rw [← hXn, ht] at C2
    have HTA : Hid (tkA (tok (c :: l)).1 p (p + (tok (c :: l)).2) = #[.string wName, .int .i64 (p : Int), .int .i64 ((p : Int) + (n : Int)), .string X, .int .i64 0]) := by
      show tkA _ _ _ = _
      rw [HTW.out, ht, if_neg (by simp)]
      show #[_, _, _, _, _] = _
      simp only [what, txt, num, strOf_nums]
      rfl
    clear HTW hXn ht
    go_enter Tryd.func35, Tryd.ntmps35
    go_upto_region 1 with fail
    refine wp_at (TkW w _) T0 (fun w1 T1 => ?_)
    have C1' := C1 w1
    clear C1 T0
    go_wp2_with fail
    refine C1'.mono ?_
    rintro e w3 ⟨rfl, hw⟩
    subst hw
    clear C1'
    simp only []
    have C2' := C2 w3
    clear C2
    go_wp2_with fail
    refine C2'.mono ?_
    rintro e w4 ⟨rfl, hw⟩
    subst hw
    clear C2'
    simp only []
    obtain ⟨⟨k0, k1, k2, k3, k4⟩, f0, f1, f2, f3, f4⟩ := row5_cells T1.t
    go_upto_region 10 with fail
    refine wp_at (TkW w #[.string wName, .int .i64 (p : Int), .int .i64 ((p : Int) + (n : Int)), .string X, .int .i64 0]) ((((T1.set 0 _).set 3 _).set 2 _)) (fun w5 T5 => ?_)
    clear T1 k0 k1 k2 k3 k4 f0 f1 f2 f3 f4
    obtain ⟨⟨k0, k1, k2, k3, k4⟩, _, _, _, _, _⟩ := row5_cells T5.t
    have hz := T5.r
    unfold zt at hz
    obtain ⟨⟨h0, h1, h2, h3, h4⟩, g0, g1, g2, g3, g4⟩ := row5_cells hz
    have HZ : Hid (_ = _) := hz
    have HB : Hid (Below w.heap.size w w5) := T5.b
    clear hz T5
    unfold wName at k0
    go_wp2_with fail
    refine bodyPost_ret (results_cell_row rfl _ _ (w.heap.size + 1) 33 (tkA (tok (c :: l)).1 p (p + (tok (c :: l)).2)) (0, 0) _ rfl (by rw [HTA.out]; exact set5_heap HZ.out _ _ _ _ _) Tryd.underlying33 rfl size_token) rfl ?_
    exact ⟨rfl, below_set5 (by omega) HB.out _ _ _ _ _⟩
end Go.Proofs.YtkcmidhpbaepoaaDoor.G
