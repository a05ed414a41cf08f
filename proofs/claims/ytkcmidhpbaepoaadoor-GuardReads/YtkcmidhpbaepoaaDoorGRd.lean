/-
  The program's reader: advance, takes, must. Written by tools/gen_grd.py.
-/
import Derived.Test.YtkcmidhpbaepoaaDoorGTkE
namespace Go.Proofs.YtkcmidhpbaepoaaDoor.G
open Go.RowKit Go.WideShapes Go.Joins

/-- tokens that tok tells -/
def Vt : Tk → Prop
  | .sg c => isSg c = true
  | .wd w => taken w = true
  | _ => True
theorem tok_vt (l : List Nat) : Vt (tok l).1 := by
  cases l with
  | nil => trivial
  | cons c r =>
    show Vt (tokC c r).1
    unfold tokC
    split
    · assumption
    split
    · split <;> trivial
    split
    · split <;> trivial
    split
    · trivial
    split
    · assumption
    · trivial
theorem vt_at (S : List Nat) (p : Nat) : Vt (tkAt S p) := tok_vt _
/-- of one kind, as the program names it -/
def sameC : Tk → Tk → Bool
  | .sg c, .sg d => decide (c = d)
  | .wd v, .wd w => decide (v = w)
  | .nm _, .nm _ => true
  | .nu _, .nu _ => true
  | .tx _, .tx _ => true
  | .fin, .fin => true
  | .non, .non => true
  | _, _ => false
theorem sg_one {c : Nat} (h : isSg c = true) : c = 61 ∨ c = 60 ∨ c = 43 ∨ c = 45 ∨ c = 42 ∨ c = 40 ∨ c = 41 := by
  unfold isSg at h
  simp only [Bool.or_eq_true, decide_eq_true_eq] at h
  omega
theorem wd_one {w : List Nat} (h : taken w = true) : w = tkAnd ∨ w = tkOr ∨ w = tkNot ∨ w = tkTrue ∨ w = tkFalse ∨ w = tkOpen ∨ w = tkDone := by
  unfold taken at h
  simp only [Bool.or_eq_true, decide_eq_true_eq] at h
  rcases h with ((((((h | h) | h) | h) | h) | h) | h) <;> simp [h]
/-- eleven kinds of names, and as many numbers -/
def code : Tk → Nat
  | .sg c => c
  | .wd w => 100 + w.length + 10 * w.headD 0
  | .nm _ => 1
  | .nu _ => 2
  | .tx _ => 3
  | .fin => 4
  | .non => 5
def wcode (s : ByteArray) : Nat :=
  if s = wName then 1 else if s = wNumber then 2 else if s = wText then 3 else if s = wEnd then 4 else if s = wNone then 5
  else if s.size = 1 then (numsOf s).headD 0 else 100 + (numsOf s).length + 10 * (numsOf s).headD 0
theorem wcode_is {t : Tk} (h : Vt t) : wcode (what t) = code t := by
  cases t with
  | sg c => rcases sg_one h with rfl | rfl | rfl | rfl | rfl | rfl | rfl <;> decide
  | wd w => rcases wd_one h with rfl | rfl | rfl | rfl | rfl | rfl | rfl <;> decide
  | nm w => show wcode wName = 1; decide
  | nu n => show wcode wNumber = 2; decide
  | tx t => show wcode wText = 3; decide
  | fin => decide
  | non => decide
theorem code_same {t u : Tk} (h : Vt t) (k : Vt u) : code t = code u ↔ sameC t u = true := by
  have key1 : ∀ {w : List Nat}, taken w = true → ∀ c, isSg c = true → c ≠ 100 + w.length + 10 * w.headD 0 := by
    intro w hw c hc
    have := sg_one hc
    omega
  have key2 : ∀ {v w : List Nat}, taken v = true → taken w = true → (100 + v.length + 10 * v.headD 0 = 100 + w.length + 10 * w.headD 0 ↔ v = w) := by
    intro v w hv hw
    rcases wd_one hv with rfl | rfl | rfl | rfl | rfl | rfl | rfl <;> rcases wd_one hw with rfl | rfl | rfl | rfl | rfl | rfl | rfl <;> decide
  cases t <;> cases u <;> simp only [code, sameC, Vt] at *
  all_goals first
    | (simp; done)
    | (simp only [decide_eq_true_eq]; exact key2 h k)
    | (have := sg_one h; simp only [Bool.false_eq_true, iff_false]; omega)
    | (have := sg_one k; simp only [Bool.false_eq_true, iff_false]; omega)
    | (simp only [Bool.false_eq_true, iff_false]; omega)
theorem what_same {t u : Tk} (h : Vt t) (k : Vt u) : what t = what u ↔ sameC t u = true := by
  rw [← code_same h k]
  constructor
  · intro e
    rw [← wcode_is h, ← wcode_is k, e]
  · intro e
    have := (code_same h k).1 e
    cases t <;> cases u <;> simp only [sameC, decide_eq_true_eq, Bool.false_eq_true] at this <;> first | (subst this; rfl) | rfl
def St.take (S : List Nat) (t : Tk) : St → St × Bool
  | .live p => if sameC (tkAt S p) t then (.live (nx S p), true) else (.live p, false)
  | .dead p => (.dead p, false)
def St.must (S : List Nat) (t : Tk) : St → St
  | .live p => if sameC (tkAt S p) t then .live (nx S p) else .dead p
  | .dead p => .dead p
theorem row7_cells {w : World} {g : Nat} {a b c d e f h : Value} (hh : w.heap[g]? = some (.cells #[a, b, c, d, e, f, h] 35 (0, 0))) :
    (w.cell? ⟨g, 0, none⟩ = some a ∧ w.cell? ⟨g, 1, none⟩ = some b ∧ w.cell? ⟨g, 2, none⟩ = some c ∧ w.cell? ⟨g, 3, none⟩ = some d ∧ w.cell? ⟨g, 4, none⟩ = some e ∧ w.cell? ⟨g, 5, none⟩ = some f ∧ w.cell? ⟨g, 6, none⟩ = some h) ∧
    w.frozen? ⟨g, 1, none⟩ = false ∧ w.frozen? ⟨g, 2, none⟩ = false ∧ w.frozen? ⟨g, 3, none⟩ = false ∧ w.frozen? ⟨g, 4, none⟩ = false ∧ w.frozen? ⟨g, 5, none⟩ = false ∧ w.frozen? ⟨g, 6, none⟩ = false :=
  ⟨⟨by rw [cell_of_block hh]; rfl, by rw [cell_of_block hh]; rfl, by rw [cell_of_block hh]; rfl, by rw [cell_of_block hh]; rfl, by rw [cell_of_block hh]; rfl, by rw [cell_of_block hh]; rfl, by rw [cell_of_block hh]; rfl⟩,
    unfrozen_of_block hh 1, unfrozen_of_block hh 2, unfrozen_of_block hh 3, unfrozen_of_block hh 4, unfrozen_of_block hh 5, unfrozen_of_block hh 6⟩
/-- five cells of the reader -/
def setT (w : World) (g : Nat) (a b c d e : Value) : World := ((((w.setCell ⟨g, 1, none⟩ a).setCell ⟨g, 2, none⟩ b).setCell ⟨g, 3, none⟩ c).setCell ⟨g, 4, none⟩ d).setCell ⟨g, 5, none⟩ e
theorem setT_heap {w : World} {g : Nat} {x0 x1 x2 x3 x4 x5 x6 : Value} (h : w.heap[g]? = some (.cells #[x0, x1, x2, x3, x4, x5, x6] 35 (0, 0))) (a b c d e : Value) : (setT w g a b c d e).heap[g]? = some (.cells #[x0, a, b, c, d, e, x6] 35 (0, 0)) := by
  have h1 := block_setCell (i := 1) h a
  have h2 := block_setCell (i := 2) h1 b
  have h3 := block_setCell (i := 3) h2 c
  have h4 := block_setCell (i := 4) h3 d
  have h5 := block_setCell (i := 5) h4 e
  exact h5
theorem setT_grown (w : World) (g : Nat) (a b c d e : Value) : w.grownBy (setT w g a b c d e) (some g) :=
  grown_trans (grown_trans (grown_trans (grown_trans (grown_set _ _ _ _) (grown_set _ _ _ _)) (grown_set _ _ _ _)) (grown_set _ _ _ _)) (grown_set _ _ _ _)
/-- Between two blanks. -/
inductive BkI (S : ByteArray) (q : Nat) (w : World) (t : Value) (wr : World) : Prop where
  | intro (k : Nat) (h1 : q ≤ k) (hk : k ≤ S.size) (ht : t = .int .i64 (k : Int)) (hw : wr = w) (h : ∀ i, q ≤ i → i < k → (numsOf S).getD i 0 = 32)
theorem skip_is {S : ByteArray} {q k : Nat} (h1 : q ≤ k) (hk : k ≤ S.size) (h : ∀ i, q ≤ i → i < k → (numsOf S).getD i 0 = 32) (he : k < S.size → (numsOf S).getD k 0 ≠ 32) : skip (numsOf S) q = k := by
  have hd : ∀ i, ((numsOf S).drop q).getD i 0 = (numsOf S).getD (q + i) 0 := fun i => by
    rw [List.getD_eq_getElem?_getD, List.getElem?_drop, ← List.getD_eq_getElem?_getD]
  have : cnt (fun c => decide (c = 32)) ((numsOf S).drop q) = k - q := by
    refine cnt_is (by rw [List.length_drop, numsOf_len]; omega) (fun i hi => ?_) (fun hn => ?_)
    · rw [hd, h _ (by omega) (by omega)]; rfl
    · rw [List.length_drop, numsOf_len] at hn
      rw [hd, show q + (k - q) = k by omega]
      exact decide_eq_false (he (by omega))
  unfold skip
  omega
/-- where the reader and the variables lie -/
structure Env (w : World) (b : Nat) : Prop where
  b6 : 6 ≤ b
  lt : b < w.heap.size
  v : Laid w
theorem Env.grown {w w' : World} {b : Nat} (h : Env w b) (hg : w.grownBy w' (some b)) : Env w' b := ⟨h.b6, Nat.lt_of_lt_of_le h.lt hg.size, h.v.grown hg h.b6 h.lt⟩
theorem Env.below {w w' : World} {b : Nat} (h : Env w b) (hb : Below w.heap.size w w') : Env w' b := h.grown (grown_below hb _)
/-- what advance leaves -/
structure AdP (S : ByteArray) (q b : Nat) (w : World) (e : Ending) (w' : World) : Prop where
  ex : e = .returned (.tuple #[]) ∧ PIn w' b S (.live (skip (numsOf S) q)) ∧ w.grownBy w' (some b)
set_option maxHeartbeats 1000000 in
set_option maxRecDepth 8000 in
theorem advance_any (S : ByteArray) (q b : Nat) (hq : q ≤ S.size) (hs : S.size ≤ 16384) (u t : ByteArray) (a n : Int) (w : World) (hE : Env w b)
    (hB : w.heap[b]? = some (.cells #[.string S, .string u, .int .i64 a, .int .i64 (q : Int), .string t, .int .i64 n, .bool false] 35 (0, 0))) :
    Calls Tryd.prog 13 #[rp b] w fun e w' => AdP S q b w e w' := by
  obtain ⟨⟨c0, c1, c2, c3, c4, c5, c6⟩, f1, f2, f3, f4, f5, f6⟩ := row7_cells hB
  have HB : Hid (w.heap[b]? = _) := hB
  have HE : Hid (Env w b ∧ q ≤ S.size ∧ S.size ≤ 16384) := ⟨hE, hq, hs⟩
  have hsI : (S.size : Int) ≤ 16384 := by omega
  clear hB hE hq hs
  unfold rp
  go_enter Tryd.func13, Tryd.ntmps13
  go_wp2_with fail
  go_loopw [2] (fun t wr => BkI S q w t wr) (fun t _ => S.size - (intOf t).toNat)
  case atStart => exact ⟨q, Nat.le_refl _, HE.out.2.1, rfl, rfl, fun i h1 h2 => by omega⟩
  case round =>
    obtain ⟨k, h1, hk, rfl, hw, h⟩ := hrel
    subst hw
    have HK : Hid (q ≤ k ∧ k ≤ S.size ∧ ∀ i, q ≤ i → i < k → (numsOf S).getD i 0 = 32) := ⟨h1, hk, h⟩
    clear h1 hk h
    by_cases hlt : k < S.size
    · have hkI : (k : Int) < (S.size : Int) := by omega
      have hk0 : (0 : Int) ≤ (k : Int) := by omega
      have hx := fun w' => str_at S k hlt w'
      have HL : Hid (k < S.size) := hlt
      obtain ⟨d, hd⟩ : ∃ d, (numsOf S).getD k 0 = d := ⟨_, rfl⟩
      rw [hd] at hx
      have HD : Hid ((numsOf S).getD k 0 = d) := hd
      clear hd hlt
      by_cases h32 : d = 32
      · have q1 : ((d : Int) == 32) = true := by rw [h32]; rfl
        have H32 : Hid (d = 32) := h32
        clear h32
        go_wp2_with fail
        go_roundw
        case rel =>
          refine ⟨k + 1, by have := HK.out.1; omega, by have := HL.out; omega, by go_num, rfl, fun i h1 h2 => ?_⟩
          rcases Nat.lt_or_ge i k with h3 | h3
          · exact HK.out.2.2 i h1 h3
          · obtain rfl : i = k := by omega
            rw [HD.out, H32.out]
        case measure => have := HL.out; simp [intOf]; omega
      · have q1 : ((d : Int) == 32) = false := bset d 32 h32
        have H32 : Hid (d ≠ 32) := h32
        clear h32
        have HS : Hid (skip (numsOf S) q = k) := skip_is HK.out.1 HK.out.2.1 HK.out.2.2 (fun _ => by rw [HD.out]; exact H32.out)
        have TA := tokenAt_any S k HK.out.2.1 HE.out.2.2 wr (by have := HE.out.1.lt; have := HE.out.1.b6; omega) HE.out.1.v
        obtain ⟨u0, u2, u3, u4, hA⟩ : ∃ (u0 : ByteArray) (u2 : Int) (u3 : ByteArray) (u4 : Int), tkA (tok ((numsOf S).drop k)).1 k (k + (tok ((numsOf S).drop k)).2) = #[.string u0, .int .i64 (k : Int), .int .i64 u2, .string u3, .int .i64 u4] := ⟨_, _, _, _, rfl⟩
        have HA : Hid (tkA (tok ((numsOf S).drop k)).1 k (k + (tok ((numsOf S).drop k)).2) = #[.string u0, .int .i64 (k : Int), .int .i64 u2, .string u3, .int .i64 u4]) := hA
        clear hA
        go_wp2_with fail
        refine TA.mono ?_
        rintro e w3 ⟨rfl, hb⟩
        rw [HA.out]
        have hB3 := box_below HB.out hb
        have HB3 : Hid (w3.heap[b]? = _ ∧ Below wr.heap.size wr w3) := ⟨hB3, hb⟩
        clear c0 c1 c2 c3 c4 c5 c6 f1 f2 f3 f4 f5 f6 TA hb
        obtain ⟨⟨c0, c1, c2, c3, c4, c5, c6⟩, f1, f2, f3, f4, f5, f6⟩ := row7_cells hB3
        clear hB3
        simp only []
        go_wp2_with fail
        go_end0
        refine ⟨rfl, ?_, grown_trans (grown_below HB3.out.2 _) (setT_grown w3 b _ _ _ _ _)⟩
        rw [HS.out]
        refine ⟨HK.out.2.1, HE.out.2.2, fun p e => ?_, fun p e => by cases e⟩
        cases e
        have h9 := setT_heap HB3.out.1 (.string u0) (.int .i64 (k : Int)) (.int .i64 u2) (.string u3) (.int .i64 u4)
        have h8 := HA.out
        unfold tkA at h8
        simp only [Array.mk.injEq, List.cons.injEq, Value.string.injEq, Value.int.injEq, and_true, true_and] at h8
        obtain ⟨e1, e2, e3, e4⟩ := h8
        unfold tkAt
        rw [e1, e2, e3, e4]
        exact h9
    · have hkI : ¬ (k : Int) < (S.size : Int) := by omega
      have HL : Hid (¬ k < S.size) := hlt
      clear hlt
      have HS : Hid (skip (numsOf S) q = k) := skip_is HK.out.1 HK.out.2.1 HK.out.2.2 (fun h => absurd h HL.out)
      have TA := tokenAt_any S k HK.out.2.1 HE.out.2.2 wr (by have := HE.out.1.lt; have := HE.out.1.b6; omega) HE.out.1.v
      obtain ⟨u0, u2, u3, u4, hA⟩ : ∃ (u0 : ByteArray) (u2 : Int) (u3 : ByteArray) (u4 : Int), tkA (tok ((numsOf S).drop k)).1 k (k + (tok ((numsOf S).drop k)).2) = #[.string u0, .int .i64 (k : Int), .int .i64 u2, .string u3, .int .i64 u4] := ⟨_, _, _, _, rfl⟩
      have HA : Hid (tkA (tok ((numsOf S).drop k)).1 k (k + (tok ((numsOf S).drop k)).2) = #[.string u0, .int .i64 (k : Int), .int .i64 u2, .string u3, .int .i64 u4]) := hA
      clear hA
      go_wp2_with fail
      refine TA.mono ?_
      rintro e w3 ⟨rfl, hb⟩
      rw [HA.out]
      have hB3 := box_below HB.out hb
      have HB3 : Hid (w3.heap[b]? = _ ∧ Below wr.heap.size wr w3) := ⟨hB3, hb⟩
      clear c0 c1 c2 c3 c4 c5 c6 f1 f2 f3 f4 f5 f6 TA hb
      obtain ⟨⟨c0, c1, c2, c3, c4, c5, c6⟩, f1, f2, f3, f4, f5, f6⟩ := row7_cells hB3
      clear hB3
      simp only []
      go_wp2_with fail
      go_end0
      refine ⟨rfl, ?_, grown_trans (grown_below HB3.out.2 _) (setT_grown w3 b _ _ _ _ _)⟩
      rw [HS.out]
      refine ⟨HK.out.2.1, HE.out.2.2, fun p e => ?_, fun p e => by cases e⟩
      cases e
      have h9 := setT_heap HB3.out.1 (.string u0) (.int .i64 (k : Int)) (.int .i64 u2) (.string u3) (.int .i64 u4)
      have h8 := HA.out
      unfold tkA at h8
      simp only [Array.mk.injEq, List.cons.injEq, Value.string.injEq, Value.int.injEq, and_true, true_and] at h8
      obtain ⟨e1, e2, e3, e4⟩ := h8
      unfold tkAt
      rw [e1, e2, e3, e4]
      exact h9
/-- what takes answers -/
structure TksP (S : ByteArray) (t : Tk) (σ : St) (b : Nat) (w : World) (e : Ending) (w' : World) : Prop where
  ex : e = .returned (.bool (σ.take (numsOf S) t).2) ∧ PIn w' b S (σ.take (numsOf S) t).1 ∧ w.grownBy w' (some b)
set_option maxHeartbeats 1000000 in
set_option maxRecDepth 8000 in
theorem takes_any (S : ByteArray) (b : Nat) (t : Tk) (ht : Vt t) (K : ByteArray) (hK : what t = K) (σ : St) (w : World) (hE : Env w b) (h : PIn w b S σ) :
    Calls Tryd.prog 23 #[rp b, .string K] w fun e w' => TksP S t σ b w e w' := by
  have hsz := h.sz
  have hle := h.le
  cases σ with
  | dead p =>
    have HF : Hid (TksP S t (.dead p) b w (.returned (.bool false)) w) := ⟨rfl, h, grown_refl _ _⟩
    obtain ⟨u, x, tt, n, hB⟩ := h.ded p rfl
    obtain ⟨⟨c0, c1, c2, c3, c4, c5, c6⟩, _, _, _, _, _, _⟩ := row7_cells hB
    clear hB h hE hK hsz hle ht
    unfold rp
    go_enter Tryd.func23, Tryd.ntmps23
    go_wp2_with fail
    go_ret
    exact HF.out
  | live p =>
    have hB := h.liv p rfl
    have hw := what_same (vt_at (numsOf S) p) ht
    rw [hK] at hw
    have hE2 : p + (tok ((numsOf S).drop p)).2 ≤ S.size := by
      have := tok_len ((numsOf S).drop p)
      rw [List.length_drop, numsOf_len] at this
      have : p ≤ S.size := hle
      omega
    cases hc : sameC (tkAt (numsOf S) p) t with
    | true =>
      have e1 := (Lib.bytes_beq_iff _ _).2 (hw.2 hc)
      have HS : Hid (St.take (numsOf S) t (.live p) = (.live (nx (numsOf S) p), true)) := by
        show St.take _ _ _ = _
        simp only [St.take, hc, if_true]
      have AD := advance_any S _ b hE2 hsz _ _ _ _ w hE hB
      obtain ⟨⟨c0, c1, c2, c3, c4, c5, c6⟩, _, _, _, _, _, _⟩ := row7_cells hB
      generalize what (tkAt (numsOf S) p) = U at e1 c1
      clear hB h hE hK hsz hle ht hw hc hE2
      unfold rp at AD ⊢
      go_enter Tryd.func23, Tryd.ntmps23
      go_wp2_with fail
      refine AD.mono ?_
      rintro e w3 ⟨rfl, hP, hg⟩
      have HF : Hid (TksP S t (.live p) b w (.returned (.bool true)) w3) := by
        refine ⟨?_, ?_, hg⟩
        · rw [HS.out]
        · rw [HS.out]; exact hP
      clear AD c0 c1 c2 c3 c4 c5 c6 hP hg
      simp only []
      go_wp2_with fail
      go_ret
      exact HF.out
    | false =>
      have e1 : ((what (tkAt (numsOf S) p)).toList == K.toList) = false := (Lib.bytes_beq_false_iff _ _).2 fun e => by
        have := hw.1 e
        rw [hc] at this
        cases this
      have HS : St.take (numsOf S) t (.live p) = (.live p, false) := by
        simp only [St.take, hc]
        rfl
      have HF : Hid (TksP S t (.live p) b w (.returned (.bool false)) w) := by
        refine ⟨?_, ?_, grown_refl _ _⟩
        · rw [HS]
        · rw [HS]; exact h
      obtain ⟨⟨c0, c1, c2, c3, c4, c5, c6⟩, _, _, _, _, _, _⟩ := row7_cells hB
      generalize what (tkAt (numsOf S) p) = U at e1 c1
      clear hB h hE hK hsz hle ht hw hc hE2 HS
      unfold rp
      go_enter Tryd.func23, Tryd.ntmps23
      go_wp2_with fail
      go_ret
      exact HF.out
/-- what must leaves -/
structure MuP (S : ByteArray) (t : Tk) (σ : St) (b : Nat) (w : World) (e : Ending) (w' : World) : Prop where
  ex : e = .returned (.tuple #[]) ∧ PIn w' b S (σ.must (numsOf S) t) ∧ w.grownBy w' (some b)
set_option maxHeartbeats 1000000 in
set_option maxRecDepth 8000 in
theorem must_any (S : ByteArray) (b : Nat) (t : Tk) (ht : Vt t) (K : ByteArray) (hK : what t = K) (σ : St) (w : World) (hE : Env w b) (h : PIn w b S σ) :
    Calls Tryd.prog 15 #[rp b, .string K] w fun e w' => MuP S t σ b w e w' := by
  have TK := takes_any S b t ht K hK σ w hE h
  clear hK ht hE h
  unfold rp at TK ⊢
  go_enter Tryd.func15, Tryd.ntmps15
  go_wp2_with fail
  refine TK.mono ?_
  rintro e w3 ⟨rfl, hP, hg⟩
  clear TK
  cases hb : (σ.take (numsOf S) t).2 with
  | true =>
    have HF : Hid (MuP S t σ b w (.returned (.tuple #[])) w3) := by
      refine ⟨rfl, ?_, hg⟩
      cases σ with
      | dead p => simp only [St.take] at hb; cases hb
      | live p =>
        simp only [St.take] at hb hP
        simp only [St.must]
        split at hb
        · rename_i hc
          rw [if_pos hc] at hP ⊢
          exact hP
        · cases hb
    clear hP hg hb
    simp only []
    go_wp2_with fail
    go_end0
    exact HF.out
  | false =>
    obtain ⟨p, hp⟩ : ∃ p, σ.must (numsOf S) t = .dead p ∧ (σ.take (numsOf S) t).1.p = p := by
      cases σ with
      | dead p => exact ⟨p, rfl, rfl⟩
      | live p =>
        simp only [St.take, St.must] at hb ⊢
        split at hb
        · cases hb
        · rename_i hc
          exact ⟨p, by rw [if_neg hc], by rw [if_neg hc]; rfl⟩
    have hBx : ∃ (u : ByteArray) (e : Nat) (t : ByteArray) (n : Int) (r : Bool), w3.heap[b]? = some (.cells #[.string S, .string u, .int .i64 (p : Int), .int .i64 (e : Int), .string t, .int .i64 n, .bool r] 35 (0, 0)) := by
      cases hs : (σ.take (numsOf S) t).1 with
      | live q =>
        rw [hs] at hP hp
        have hq : q = p := hp.2
        subst hq
        exact ⟨_, _, _, _, _, hP.liv q rfl⟩
      | dead q =>
        rw [hs] at hP hp
        have hq : q = p := hp.2
        subst hq
        obtain ⟨u, e, t, n, hx⟩ := hP.ded q rfl
        exact ⟨_, _, _, _, _, hx⟩
    obtain ⟨u, x, tt, n, r, hB⟩ := hBx
    have hle := hP.le
    have hsz := hP.sz
    rw [hp.2] at hle
    have HF : Hid (MuP S t σ b w (.returned (.tuple #[])) (w3.setCell ⟨b, 6, none⟩ (.bool true))) := by
      refine ⟨rfl, ?_, grown_trans hg (grown_set _ _ _ _)⟩
      rw [hp.1]
      refine ⟨hle, hsz, fun q e => (by cases e), fun q e => ?_⟩
      cases e
      exact ⟨u, x, tt, n, block_setCell (i := 6) hB _⟩
    obtain ⟨⟨c0, c1, c2, c3, c4, c5, c6⟩, f1, f2, f3, f4, f5, f6⟩ := row7_cells hB
    clear hP hg hb hp hB hle hsz
    simp only []
    go_wp2_with fail
    go_end0
    exact HF.out
end Go.Proofs.YtkcmidhpbaepoaaDoor.G
