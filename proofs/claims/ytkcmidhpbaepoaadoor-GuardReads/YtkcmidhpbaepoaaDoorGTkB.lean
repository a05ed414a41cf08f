/-
  The program's texts as tokens.
-/
import Derived.Test.YtkcmidhpbaepoaaDoorGTkA
namespace Go.Proofs.YtkcmidhpbaepoaaDoor.G
open Go.RowKit Go.WideShapes Go.Joins

theorem slice_from (s : ByteArray) (i : Nat) (h : i ≤ s.size) (w : World) : (Instr.slice 9 (.string s) (some (.int .i64 (i : Int))) none none).run Tryd.prog w = .ok (.string (s.extract i s.size)) w := by
  rw [run_slice_string_l w 9 s Tryd.underlying9 .i64 (i : Int) (by omega) (by omega), Int.toNat_natCast]
theorem slice_to (s : ByteArray) (j : Nat) (h : j ≤ s.size) (w : World) : (Instr.slice 9 (.string s) none (some (.int .i64 (j : Int))) none).run Tryd.prog w = .ok (.string (s.extract 0 j)) w := by
  rw [run_slice_string_h w 9 s Tryd.underlying9 .i64 (j : Int) (by omega) (by omega), Int.toNat_natCast]
theorem size_token : (Tryd.prog.info? 33).map (fun x => x.size) = some 5 := by kernel_rfl
theorem size_guard : (Tryd.prog.info? 24).map (fun x => x.size) = some 4 := by kernel_rfl
def set5 (w : World) (g : Nat) (a b c d e : Value) : World := ((((w.setCell ⟨g, 0, none⟩ a).setCell ⟨g, 1, none⟩ b).setCell ⟨g, 2, none⟩ c).setCell ⟨g, 3, none⟩ d).setCell ⟨g, 4, none⟩ e
theorem set5_heap {w : World} {g : Nat} {x0 x1 x2 x3 x4 : Value} (h : w.heap[g]? = some (.cells #[x0, x1, x2, x3, x4] 33 (0, 0))) (a b c d e : Value) : (set5 w g a b c d e).heap[g]? = some (.cells #[a, b, c, d, e] 33 (0, 0)) := by
  have h1 := block_setCell (i := 0) h a
  have h2 := block_setCell (i := 1) h1 b
  have h3 := block_setCell (i := 2) h2 c
  have h4 := block_setCell (i := 3) h3 d
  have h5 := block_setCell (i := 4) h4 e
  exact h5
theorem below_set {B g : Nat} (hg : B ≤ g) {a w : World} (h : Below B a w) (i : Nat) (v : Value) : Below B a (w.setCell ⟨g, i, none⟩ v) := h.setCell (p := ⟨g, i, none⟩) hg v
theorem below_set5 {B g : Nat} (hg : B ≤ g) {a w : World} (h : Below B a w) (x0 x1 x2 x3 x4 : Value) : Below B a (set5 w g x0 x1 x2 x3 x4) :=
  below_set hg (below_set hg (below_set hg (below_set hg (below_set hg h 0 x0) 1 x1) 2 x2) 3 x3) 4 x4
def zt : Array Value := #[.string ⟨#[]⟩, .int .i64 0, .int .i64 0, .string ⟨#[]⟩, .int .i64 0]
theorem kept1 {w : World} {g g' i : Nat} {v : Value} {o : Obj} (h : w.heap[g']? = some o) (hne : g' ≠ g) : (w.setCell ⟨g, i, none⟩ v).heap[g']? = some o := (Below.heap_setCell w ⟨g, i, none⟩ v g' hne).trans h
/-- a walk at a world of which this much is known -/
theorem wp_at {P : Program} {c : Code} {Q : Exit → Act → World → Prop} {a : Act} {w : World} (S : World → Prop) (h : S w) (k : ∀ w', S w' → Code.wp P c Q a w') : Code.wp P c Q a w := k w h
theorem row5_cells {w : World} {g : Nat} {a b c d e : Value} (h : w.heap[g]? = some (.cells #[a, b, c, d, e] 33 (0, 0))) :
    (w.cell? ⟨g, 0, none⟩ = some a ∧ w.cell? ⟨g, 1, none⟩ = some b ∧ w.cell? ⟨g, 2, none⟩ = some c ∧ w.cell? ⟨g, 3, none⟩ = some d ∧ w.cell? ⟨g, 4, none⟩ = some e) ∧
    w.frozen? ⟨g, 0, none⟩ = false ∧ w.frozen? ⟨g, 1, none⟩ = false ∧ w.frozen? ⟨g, 2, none⟩ = false ∧ w.frozen? ⟨g, 3, none⟩ = false ∧ w.frozen? ⟨g, 4, none⟩ = false :=
  ⟨⟨by rw [cell_of_block h]; rfl, by rw [cell_of_block h]; rfl, by rw [cell_of_block h]; rfl, by rw [cell_of_block h]; rfl, by rw [cell_of_block h]; rfl⟩,
    unfrozen_of_block h 0, unfrozen_of_block h 1, unfrozen_of_block h 2, unfrozen_of_block h 3, unfrozen_of_block h 4⟩
/-- the token in its box, and the result's box, while a method goes on -/
structure TkW (w : World) (A : Array Value) (w' : World) : Prop where
  t : w'.heap[w.heap.size]? = some (.cells A 33 (0, 0))
  r : w'.heap[w.heap.size + 1]? = some (.cells zt 33 (0, 0))
  b : Below w.heap.size w w'
theorem TkW.set {w w' : World} {a b c d e : Value} (h : TkW w #[a, b, c, d, e] w') (i : Nat) (v : Value) : TkW w (#[a, b, c, d, e].setIfInBounds i v) (w'.setCell ⟨w.heap.size, i, none⟩ v) :=
  ⟨block_setCell (i := i) h.t v, kept1 h.r (by omega), below_set (Nat.le_refl _) h.b i v⟩
theorem TkW.drew {w w' : World} {A : Array Value} (h : TkW w A w') : TkW w A w'.drew := ⟨h.t, h.r, h.b.drew⟩
theorem TkW.more {w w' w'' : World} {A : Array Value} (h : TkW w A w') (hb : Below w'.heap.size w' w'') : TkW w A w'' := ⟨box_below h.t hb, box_below h.r hb, below_more h.b hb⟩
theorem TkW.new (w : World) (A : Array Value) : TkW w A ((w.alloc (.cells A 33)).alloc (.cells zt 33)) := by
  have b1 := below_new w (.cells A 33)
  have n1 := _root_.Go.heap_alloc_new w (.cells A 33)
  have b2 := below_new (w.alloc (.cells A 33)) (.cells zt 33)
  have n2 := _root_.Go.heap_alloc_new (w.alloc (.cells A 33)) (.cells zt 33)
  rw [World.size_alloc] at n2
  exact ⟨box_below n1 b2, n2, below_more b1 b2⟩
/-- what a token's function answers -/
structure TkP (r : List Nat) (p : Nat) (w : World) (e : Ending) (w' : World) : Prop where
  ex : e = .returned (.agg (tkA (tok r).1 p (p + (tok r).2))) ∧ Below w.heap.size w w'
def tk0 (p : Nat) : Array Value := #[.string ByteArray.empty, .int .i64 (p : Int), .int .i64 (p : Int), .string ByteArray.empty, .int .i64 0]
theorem nums_from (s : ByteArray) (i : Nat) : numsOf (s.extract i s.size) = (numsOf s).drop i := by
  rw [extract_nums, List.take_of_length_le]
  rw [List.length_drop, numsOf_len]
  exact Nat.le_refl _
theorem prefix_one (s : ByteArray) (c : UInt8) : Lib.hasPrefix s.data.toList [c] = decide ((numsOf s).head? = some c.toNat) := by
  unfold numsOf
  cases h : s.data.toList with
  | nil => rfl
  | cons a l =>
    simp only [List.map_cons, List.head?_cons, Option.some.injEq]
    by_cases e : a = c
    · subst e; simp [Lib.hasPrefix]
    · have : ¬ a.toNat = c.toNat := fun h => e (UInt8.toNat_inj.1 h)
      rw [decide_eq_false this]
      simp [Lib.hasPrefix, List.isPrefixOf, Ne.symm e]
set_option maxHeartbeats 1000000 in
set_option maxRecDepth 8000 in
theorem asText_any (r : ByteArray) (l : List Nat) (hr : numsOf r = 39 :: l) (hs : r.size ≤ 16384) (p : Nat) (hp : p ≤ 16384) (w : World) :
    Calls Tryd.prog 32 #[.agg (tk0 p), .string r] w fun e w' => TkP (39 :: l) p w e w' := by
  have hsz : r.size = l.length + 1 := by rw [← numsOf_len, hr]; rfl
  obtain ⟨D, hD⟩ : ∃ D, r.extract 1 r.size = D := ⟨_, rfl⟩
  have hDn : numsOf D = l := by rw [← hD, nums_from, hr]; rfl
  obtain ⟨n, hn⟩ : ∃ n, cnt isCh l = n := ⟨_, rfl⟩
  have hnl : n ≤ l.length := by rw [← hn]; exact cnt_le _ _
  obtain ⟨E, hE⟩ : ∃ E, r.extract (1 + n) r.size = E := ⟨_, rfl⟩
  have hEn : numsOf E = l.drop n := by rw [← hE, nums_from, hr, Nat.add_comm]; rfl
  have X1 : ∀ w', (Instr.slice 9 (.string r) (some (.int .i64 1)) none none).run Tryd.prog w' = .ok (.string D) w' := fun w' => by rw [← hD]; exact slice_from r 1 (by omega) w'
  have X2 : ∀ w', (Instr.slice 9 (.string r) (some (.int .i64 (1 + (n : Int)))) none none).run Tryd.prog w' = .ok (.string E) w' := fun w' => by
    have := slice_from r (1 + n) (by omega) w'
    rw [hE] at this
    rw [show (1 + (n : Int)) = ((1 + n : Nat) : Int) by omega]
    exact this
  have C1 := fun w' => charsIn_any D (by rw [← numsOf_len, hDn]; omega) w'
  rw [hDn, hn] at C1
  have HP := fun w' => Any.strings_HasPrefix lays99 E ⟨#[39]⟩ w'
  have hpx : Lib.hasPrefix E.data.toList (⟨#[39]⟩ : ByteArray).data.toList = decide ((l.drop n).head? = some 39) := by rw [← hEn]; exact prefix_one E 39
  rw [hpx] at HP
  have hnI : (n : Int) ≤ 16384 := by omega
  have hn0 : (0 : Int) ≤ (n : Int) := by omega
  have hpI : (p : Int) ≤ 16384 := by omega
  have hp0 : (0 : Int) ≤ (p : Int) := by omega
  have hnr : 1 + (n : Int) ≤ (r.size : Int) := by omega
  have T0 := TkW.new w (tk0 p)
  by_cases hq : (l.drop n).head? = some 39
  · have HT : Hid (tok (39 :: l) = (.tx (l.take n), n + 2)) := by
      show tokC 39 l = _
      unfold tokC
      rw [if_neg (by decide), if_pos rfl, hn, if_pos hq]
    rw [decide_eq_true hq] at HP
    have X3 : ∀ w', (Instr.slice 9 (.string r) (some (.int .i64 1)) (some (.int .i64 (1 + (n : Int)))) none).run Tryd.prog w' = .ok (.string (strOf (l.take n))) w' := fun w' => by
      have := slice_mid r 1 (1 + n) (by omega) (by omega) w'
      rw [show (1 + (n : Int)) = ((1 + n : Nat) : Int) by omega]
      have e : r.extract 1 (1 + n) = strOf (l.take n) := by
        rw [← strOf_nums (r.extract 1 (1 + n)), extract_nums, hr]
        congr 1
        rw [show 1 + n - 1 = n by omega]; rfl
      rw [e] at this
      exact this
    have HTA : Hid (tkA (tok (39 :: l)).1 p (p + (tok (39 :: l)).2) = #[.string wText, .int .i64 (p : Int), .int .i64 ((p : Int) + ((n : Int) + 2)), .string (strOf (l.take n)), .int .i64 0]) := by
      show tkA _ _ _ = _
      rw [HT.out]
      show #[_, _, _, _, _] = _
      simp only [what, txt, num]
      rw [show ((p + (n + 2) : Nat) : Int) = (p : Int) + ((n : Int) + 2) by omega]
    generalize strOf (l.take n) = T at X3 HTA
    unfold zt tk0 at T0
    unfold tk0
    clear hD hDn hn hnl hE hEn hpx hq hr hsz hs hp
    go_enter Tryd.func32, Tryd.ntmps32
    go_upto_region 1 with fail
    refine wp_at (TkW w _) T0 (fun w1 T1 => ?_)
    have C1' := C1 w1
    have HP' := HP w1
    clear C1 HP T0
    go_wp2_with fail
    refine C1'.mono ?_
    rintro e w3 ⟨rfl, hw⟩
    subst hw
    simp only []
    go_upto_region 2 with fail
    go_wp2_with fail
    refine HP'.mono ?_
    rintro e w3 ⟨rfl, hw⟩
    subst hw
    simp only []
    obtain ⟨⟨k0, k1, k2, k3, k4⟩, f0, f1, f2, f3, f4⟩ := row5_cells T1.t
    go_upto_region 5 with fail
    have T1H : Hid (TkW w _ w3) := T1
    clear T1
    go_region
    all_goals
      go_upto_region 7 with fail
      refine wp_at (TkW w #[.string wText, .int .i64 (p : Int), .int .i64 ((p : Int) + ((n : Int) + 2)), .string T, .int .i64 0]) (by first | exact (((T1H.out.set 0 _).set 3 _).drew.set 2 _) | exact (((T1H.out.set 0 _).set 3 _).set 2 _) | exact (((T1H.out.drew.set 0 _).set 3 _).set 2 _) | exact ((((T1H.out.set 0 _).set 3 _).set 2 _).drew)) (fun w5 T5 => ?_)
      clear k0 k1 k2 k3 k4 f0 f1 f2 f3 f4
      obtain ⟨⟨k0, k1, k2, k3, k4⟩, _, _, _, _, _⟩ := row5_cells T5.t
      have hz := T5.r
      unfold zt at hz
      obtain ⟨⟨h0, h1, h2, h3, h4⟩, g0, g1, g2, g3, g4⟩ := row5_cells hz
      have HZ : Hid (_ = _) := hz
      have HB : Hid (Below w.heap.size w w5) := T5.b
      clear hz T5
      unfold wText at k0
      go_wp2_with fail
      refine bodyPost_ret (results_cell_row rfl _ _ (w.heap.size + 1) 33 (tkA (tok (39 :: l)).1 p (p + (tok (39 :: l)).2)) (0, 0) _ rfl (by rw [HTA.out]; exact set5_heap HZ.out _ _ _ _ _) Tryd.underlying33 rfl size_token) rfl ?_
      exact ⟨rfl, below_set5 (by omega) HB.out _ _ _ _ _⟩
  · have HT : Hid (tok (39 :: l) = (.non, 0)) := by
      show tokC 39 l = _
      unfold tokC
      rw [if_neg (by decide), if_pos rfl, hn, if_neg hq]
    rw [decide_eq_false hq] at HP
    have HTA : Hid (tkA (tok (39 :: l)).1 p (p + (tok (39 :: l)).2) = #[.string wNone, .int .i64 (p : Int), .int .i64 (p : Int), .string ⟨#[]⟩, .int .i64 0]) := by
      show tkA _ _ _ = _
      rw [HT.out]; rfl
    unfold zt tk0 at T0
    unfold tk0
    clear hD hDn hn hnl hE hEn hpx hq hr hsz hs hp
    go_enter Tryd.func32, Tryd.ntmps32
    go_upto_region 1 with fail
    refine wp_at (TkW w _) T0 (fun w1 T1 => ?_)
    have C1' := C1 w1
    have HP' := HP w1
    clear C1 HP T0
    go_wp2_with fail
    refine C1'.mono ?_
    rintro e w3 ⟨rfl, hw⟩
    subst hw
    simp only []
    go_upto_region 2 with fail
    go_wp2_with fail
    refine HP'.mono ?_
    rintro e w3 ⟨rfl, hw⟩
    subst hw
    simp only []
    obtain ⟨⟨k0, k1, k2, k3, k4⟩, f0, f1, f2, f3, f4⟩ := row5_cells T1.t
    go_upto_region 4 with fail
    refine wp_at (TkW w #[.string wNone, .int .i64 (p : Int), .int .i64 (p : Int), .string ⟨#[]⟩, .int .i64 0]) (T1.set 0 _) (fun w5 T5 => ?_)
    clear T1 k0 k1 k2 k3 k4 f0 f1 f2 f3 f4
    obtain ⟨⟨k0, k1, k2, k3, k4⟩, _, _, _, _, _⟩ := row5_cells T5.t
    have hz := T5.r
    unfold zt at hz
    obtain ⟨⟨h0, h1, h2, h3, h4⟩, g0, g1, g2, g3, g4⟩ := row5_cells hz
    have HZ : Hid (_ = _) := hz
    have HB : Hid (Below w.heap.size w w5) := T5.b
    clear hz T5
    unfold wNone at k0
    go_wp2_with fail
    refine bodyPost_ret (results_cell_row rfl _ _ (w.heap.size + 1) 33 (tkA (tok (39 :: l)).1 p (p + (tok (39 :: l)).2)) (0, 0) _ rfl (by rw [HTA.out]; exact set5_heap HZ.out _ _ _ _ _) Tryd.underlying33 rfl size_token) rfl ?_
    exact ⟨rfl, below_set5 (by omega) HB.out _ _ _ _ _⟩
end Go.Proofs.YtkcmidhpbaepoaaDoor.G
