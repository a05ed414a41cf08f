import Derived.Test.YtblnoekogdpolaaDoorJCon
namespace Go.Proofs.YtblnoekogdpolaaDoor
open Go.RowKit Go.WideShapes Go.Joins
theorem goR_number {s : ByteArray} {i j : Nat} {w : Bool} (hi : i ≤ s.size) (h : goR J.numB (.live s i) = (.live s j, some w)) :
    goR J.number (.live s i) = (.live s j, some (J.numV w (numsOf (s.extract i j)))) ∧ J.numB (numsOf (s.extract i j)) = .ok w [] := by
  obtain ⟨k, e1, h1, h2, r, hv, hr⟩ := goR_on J.Good.numB.okS h hi
  cases e1
  obtain ⟨a, ha⟩ := J.Good.numB.okS _ _ _ hv
  have hl := congrArg List.length ha
  rw [rest_len, List.length_append] at hl
  have hx : numsOf (s.extract i j) = a := by
    have : numsOf (s.extract i j) = ((numsOf s).drop i).take (j - i) := by
      unfold numsOf
      rw [← List.map_drop, ← List.map_take]
      congr 1
      simp [ByteArray.data_extract, Array.toList_extract, List.extract_eq_take_drop]
    rw [this, ha, show j - i = a.length by omega, List.take_left]
  rw [hx]
  refine ⟨?_, ?_⟩
  · simp only [goR, J.number, J.Rd.then, J.Rd.seen, hv, J.Rd.pure]
    rw [ha, hr]
    have e3 : s.size - (s.size - j) = j := by omega
    rw [e3, show (a ++ r).length - (s.size - j) = a.length by rw [List.length_append]; omega, List.take_left]
  · rw [ha] at hv
    exact J.Good.numB.ok1 hv
theorem goR_number_none {σ σ' : RS} (h : goR J.numB σ = (σ', none)) : goR J.number σ = (σ', none) := by
  cases σ with
  | dead s e => cases h; rfl
  | live s i =>
    simp only [goR] at h
    simp only [goR, J.number, J.Rd.then, J.Rd.seen]
    cases hv : J.numB ((numsOf s).drop i) with
    | ok x r => rw [hv] at h; cases h
    | bad e r => rw [hv] at h; cases h; rfl
    | out => rw [hv] at h; cases h; rfl
def minusS : ByteArray := ⟨#[45]⟩
def zeroS : ByteArray := ⟨#[48]⟩
def dotS : ByteArray := ⟨#[46]⟩
def expS : ByteArray := ⟨#[101, 69]⟩
def plusS : ByteArray := ⟨#[43, 45]⟩
theorem minus_is : oneS 45 = minusS := rfl
theorem zero_is : oneS 48 = zeroS := rfl
theorem dot_is : oneS 46 = dotS := rfl
theorem exp_is : twoS 101 69 = expS := rfl
theorem plus_is : twoS 43 45 = plusS := rfl
def stN (σ : RS) : RS :=
  let σ2 := (σ.skip minusS).skip zeroS
  let σ3 := if (σ.skip minusS).has zeroS then σ2 else (goR J.digits σ2).1
  let σ5 := if σ3.has dotS then (goR J.digits (σ3.skip dotS)).1 else σ3.skip dotS
  if σ5.has expS then (goR J.digits ((σ5.skip expS).skip plusS)).1 else σ5.skip expS
def flN (σ : RS) : Bool :=
  let σ2 := (σ.skip minusS).skip zeroS
  let σ3 := if (σ.skip minusS).has zeroS then σ2 else (goR J.digits σ2).1
  let σ5 := if σ3.has dotS then (goR J.digits (σ3.skip dotS)).1 else σ3.skip dotS
  !σ3.has dotS && !σ5.has expS
theorem digits_errs : Errs J.digits := by
  intro l e r h
  unfold J.digits J.Rd.then at h
  split at h
  · cases h
  · rename_i e1 r1 h1
    cases h
    unfold J.need at h1
    cases l with
    | nil => cases h1; decide
    | cons c l =>
      simp only [J.sw] at h1
      split at h1
      · rename_i q hq; split at hq <;> cases hq; cases h1
      · rename_i q hq; split at hq <;> cases hq
      · rename_i k hq; split at hq <;> cases hq; cases h1; decide
  · cases h
theorem digits_ok' {σ : RS} (h : σ.ok) : (goR J.digits σ).1.ok := goR_ok digits_errs h
theorem unit_then {α : Type} {p : J.Rd Unit} (hp : J.Good p) (q : J.Rd α) (σ : RS) : goR (p.then fun _ => q) σ = goR q (goR p σ).1 := goR_thenV (q := fun _ => q) hp (V := ()) (fun _ _ => rfl)
theorem numB_st (σ : RS) (ho : σ.ok) : goR J.numB σ = goR (J.Rd.pure (flN σ)) (stN σ) ∧ (stN σ).ok := by
  have o1 := skip_ok minusS ho
  have o2 := skip_ok zeroS o1
  obtain ⟨σ3, h3⟩ : ∃ x, (if (σ.skip minusS).has zeroS then (σ.skip minusS).skip zeroS else (goR J.digits ((σ.skip minusS).skip zeroS)).1) = x := ⟨_, rfl⟩
  have o3 : σ3.ok := by rw [← h3]; split; exact o2; exact digits_ok' o2
  have o4 := skip_ok dotS o3
  obtain ⟨σ5, h5⟩ : ∃ x, (if σ3.has dotS then (goR J.digits (σ3.skip dotS)).1 else σ3.skip dotS) = x := ⟨_, rfl⟩
  have o5 : σ5.ok := by rw [← h5]; split; exact digits_ok' o4; exact o4
  have o6 := skip_ok expS o5
  have e1 : stN σ = if σ5.has expS then (goR J.digits ((σ5.skip expS).skip plusS)).1 else σ5.skip expS := by unfold stN; simp only [h3, h5]
  have e2 : flN σ = (!σ3.has dotS && !σ5.has expS) := by unfold flN; simp only [h3, h5]
  refine ⟨?_, by rw [e1]; split; exact digits_ok' (skip_ok plusS o6); exact o6⟩
  rw [e1, e2]
  unfold J.numB J.numP J.numE
  rw [may_go 45 (by decide) _ σ ho, minus_is, may_go 48 (by decide) _ _ o1, zero_is]
  have k1 : ∀ (q : J.Rd Bool), goR ((if (σ.skip minusS).has zeroS = true then J.Rd.pure () else J.digits).then fun _ => q) ((σ.skip minusS).skip zeroS) = goR q σ3 := by
    intro q
    rw [← h3]
    cases (σ.skip minusS).has zeroS with
    | true => simp only [if_true]; rw [pure_then]
    | false => simp only [Bool.false_eq_true, if_false]; rw [unit_then J.Good.digits]
  rw [k1, may_go 46 (by decide) _ σ3 o3, dot_is]
  have k2 : ∀ (q : J.Rd Bool), goR ((if σ3.has dotS = true then J.digits else J.Rd.pure ()).then fun _ => q) (σ3.skip dotS) = goR q σ5 := by
    intro q
    rw [← h5]
    cases σ3.has dotS with
    | false => simp only [Bool.false_eq_true, if_false]; rw [pure_then]
    | true => simp only [if_true]; rw [unit_then J.Good.digits]
  rw [k2, may_two 101 69 (by decide) (by decide) _ σ5 o5, exp_is]
  cases σ5.has expS with
  | false => simp only [Bool.false_eq_true, if_false]; rw [pure_then]
  | true =>
    simp only [if_true]
    rw [then_assoc]
    have k3 : (fun x : Bool => ((if x = true then J.Rd.pure true else J.may 45).then fun _ => J.digits).then fun _ => J.Rd.pure (!σ3.has dotS && !true)) = fun x : Bool => ((if x = true then J.Rd.pure true else J.may 45).then fun _ => J.digits.then fun _ => J.Rd.pure (!σ3.has dotS && !true)) := by
      funext x; rw [then_assoc]
    rw [k3, may_two 43 45 (by decide) (by decide) (fun _ => J.digits.then fun _ => J.Rd.pure (!σ3.has dotS && !true)) _ o6, plus_is, unit_then J.Good.digits]
structure NumP (b : Nat) (σ : RS) (w : World) (e : Ending) (w' : World) : Prop where
  ex : ∃ (k : Nat) (n : Int) (t : ByteArray), e = .returned (.agg (flatA k false n t)) ∧ k < 256 ∧ J.Rng n ∧ (∀ v, (goR J.number σ).2 = some v → v = .mk k false n (numsOf t) [] []) ∧ RIn w' b (goR J.number σ).1 ∧ w.grownBy w' (some b)
def zeroA : Array Value := #[.int .u8 0, .bool false, .int .i64 0, .string ⟨#[]⟩, .slice none 0 0, .slice none 0 0]
def jbox : Obj := .cells zeroA 25
theorem box_grown {w w' : World} {g b : Nat} {o : Obj} (h : w.heap[g]? = some o) (hg : w.grownBy w' (some b)) (hne : g ≠ b) : w'.heap[g]? = some o := by
  have hlt : g < w.heap.size := by
    rcases Nat.lt_or_ge g w.heap.size with h' | h'
    · exact h'
    · rw [Array.getElem?_eq_none h'] at h; cases h
  exact (hg.block g hlt (fun e => hne (Option.some.inj e))).trans h
theorem box_below {w w' : World} {g : Nat} {o : Obj} (h : w.heap[g]? = some o) (hb : Below w.heap.size w w') : w'.heap[g]? = some o := by
  have hlt : g < w.heap.size := by
    rcases Nat.lt_or_ge g w.heap.size with h' | h'
    · exact h'
    · rw [Array.getElem?_eq_none h'] at h; cases h
  exact (hb.block g hlt).trans h
theorem slice_mid (s : ByteArray) (i j : Nat) (h1 : i ≤ j) (h2 : j ≤ s.size) (w : World) : (Instr.slice 9 (.string s) (some (.int .i64 (i : Int))) (some (.int .i64 (j : Int))) none).run Tryd.prog w = .ok (.string (s.extract i j)) w := by
  rw [run_slice_string w 9 s .i64 .i64 (i : Int) (j : Int) Tryd.underlying9 (by omega) (by omega) (by omega)]
  simp
theorem dash_list : (⟨#[45, 48]⟩ : ByteArray).toList = [45, 48] := by rw [Lib.toList_data]
theorem parse_rng {l : List UInt8} {n : Int} (h : Lib.parseIntB 64 l = .ok n) : J.Rng n := by
  unfold Lib.parseIntB at h
  cases l with
  | nil => cases h
  | cons c r =>
    simp only at h
    split at h
    · cases h
    · cases h
    · rename_i u hu
      unfold J.Rng
      have hp : (2 ^ (64 - 1) : Nat) = 9223372036854775808 := by decide
      rw [hp] at h
      split at h
      · cases h
      · rename_i h1
        split at h
        · cases h
        · rename_i h2
          simp only [Lib.NumEnd.ok.injEq] at h
          by_cases hc : c.toNat = 45
          · simp only [hc, true_and, if_true] at h h1 h2
            omega
          · simp only [hc, if_false, not_false_eq_true, true_and] at h h1
            omega
abbrev set6 (w : World) (g : Nat) (a b c d e f : Value) : World := (((((w.setCell ⟨g, 0, none⟩ a).setCell ⟨g, 1, none⟩ b).setCell ⟨g, 2, none⟩ c).setCell ⟨g, 3, none⟩ d).setCell ⟨g, 4, none⟩ e).setCell ⟨g, 5, none⟩ f
theorem set6_heap {w : World} {g : Nat} (h : w.heap[g]? = some jbox) (a b c d e f : Value) : (set6 w g a b c d e f).heap[g]? = some (.cells #[a, b, c, d, e, f] 25 (0, 0)) := by
  unfold jbox zeroA at h
  have h1 := block_setCell (i := 0) h a
  have h2 := block_setCell (i := 1) h1 b
  have h3 := block_setCell (i := 2) h2 c
  have h4 := block_setCell (i := 3) h3 d
  have h5 := block_setCell (i := 4) h4 e
  have h6 := block_setCell (i := 5) h5 f
  exact h6
theorem set6_grown (w : World) (g : Nat) (a b c d e f : Value) : w.grownBy (set6 w g a b c d e f) (some g) :=
  grown_trans (grown_trans (grown_trans (grown_trans (grown_trans (grown_set _ _ _ _) (grown_set _ _ _ _)) (grown_set _ _ _ _)) (grown_set _ _ _ _)) (grown_set _ _ _ _)) (grown_set _ _ _ _)
theorem box_cells {w : World} {g : Nat} (h : w.heap[g]? = some jbox) : (w.cell? ⟨g, 0, none⟩ = some (.int .u8 0) ∧ w.cell? ⟨g, 1, none⟩ = some (.bool false) ∧ w.cell? ⟨g, 2, none⟩ = some (.int .i64 0) ∧ w.cell? ⟨g, 3, none⟩ = some (.string ⟨#[]⟩) ∧ w.cell? ⟨g, 4, none⟩ = some (.slice none 0 0) ∧ w.cell? ⟨g, 5, none⟩ = some (.slice none 0 0)) ∧
    w.frozen? ⟨g, 0, none⟩ = false ∧ w.frozen? ⟨g, 1, none⟩ = false ∧ w.frozen? ⟨g, 2, none⟩ = false ∧ w.frozen? ⟨g, 3, none⟩ = false ∧ w.frozen? ⟨g, 4, none⟩ = false ∧ w.frozen? ⟨g, 5, none⟩ = false := by
  unfold jbox zeroA at h
  exact ⟨⟨by rw [cell_of_block h]; rfl, by rw [cell_of_block h]; rfl, by rw [cell_of_block h]; rfl, by rw [cell_of_block h]; rfl, by rw [cell_of_block h]; rfl, by rw [cell_of_block h]; rfl⟩,
    unfrozen_of_block h 0, unfrozen_of_block h 1, unfrozen_of_block h 2, unfrozen_of_block h 3, unfrozen_of_block h 4, unfrozen_of_block h 5⟩
theorem num_end {w wE wG : World} {b : Nat} {σ s8 : RS} {a1 a2 a3 a4 a5 a6 : Value} (hlt : b < w.heap.size) (h : RIn wE b s8) (hg : w.grownBy wE (some b)) (hb : Below wE.heap.size wE wG) (hs : (goR J.number σ).1 = s8)
    (k : Nat) (n : Int) (t : ByteArray) (hk : k < 256) (hn : J.Rng n) (hv : ∀ v, (goR J.number σ).2 = some v → v = .mk k false n (numsOf t) [] []) : NumP b σ w (.returned (.agg (flatA k false n t))) (set6 wG w.heap.size a1 a2 a3 a4 a5 a6) := by
  have g6 := set6_grown wG w.heap.size a1 a2 a3 a4 a5 a6
  have hg2 := grown_trans hg (grown_below hb (some b))
  refine ⟨k, n, t, rfl, hk, hn, hv, ?_, ⟨g6.os.trans hg2.os, g6.tape.trans hg2.tape, g6.output.trans hg2.output, Nat.le_trans hg2.size g6.size, fun i hi hne => ?_⟩⟩
  · rw [hs]
    have hlE := (h.below hb).lt
    exact (h.below hb).at (g6.block b hlE (fun e => by cases e; omega))
  · exact (g6.block i (Nat.lt_of_lt_of_le hi hg2.size) (fun e => by cases e; omega)).trans (hg2.block i hi hne)
theorem num_state {σ s8 : RS} {f : Bool} (h : goR J.numB σ = goR (J.Rd.pure f) s8) (ho : s8.ok) : (goR J.number σ).1 = s8 := by
  have e := goR_pureV f ho
  cases s8 with
  | dead s x => exact congrArg Prod.fst (goR_number_none (σ' := .dead s x) h)
  | live s j =>
    have e2 : goR J.numB σ = (.live s j, some f) := by rw [h, goR_pure f ho]
    obtain ⟨s', i, k, e3, e4⟩ := goR_live e2
    cases e4
    subst e3
    have hi : i ≤ s.size := by
      rcases Nat.lt_or_ge s.size i with hlt | hle
      · exfalso
        have hd : (numsOf s).drop i = [] := rest_nil (by omega)
        simp only [goR, hd] at e2
        rw [show J.numB [] = .bad 160 [] from rfl] at e2
        cases e2
      · exact hle
    rw [(goR_number hi e2).1]
theorem num_told {σ s8 : RS} {f : Bool} {tx : ByteArray} (h : goR J.numB σ = goR (J.Rd.pure f) s8) (ho : s8.ok) (htx : s8.s.extract σ.i s8.i = tx) (hs : σ.ok) : ∀ v, (goR J.number σ).2 = some v →
    (∀ nn, Lib.parseIntB 64 tx.data.toList = .ok nn → tx ≠ ⟨#[45, 48]⟩ → v = .mk 2 false nn [] [] []) ∧ ((tx = ⟨#[45, 48]⟩ ∨ ∀ nn, Lib.parseIntB 64 tx.data.toList ≠ .ok nn) → v = .mk 3 false 0 (numsOf tx) [] []) := by
  intro v hv
  cases s8 with
  | dead s x => rw [goR_number_none (σ' := .dead s x) h] at hv; cases hv
  | live s j =>
    have e2 : goR J.numB σ = (.live s j, some f) := by rw [h, goR_pure f ho]
    obtain ⟨s', i, k, e3, e4⟩ := goR_live e2
    cases e4
    subst e3
    obtain ⟨a1, a2⟩ := goR_number hs e2
    simp only [RS.s, RS.i] at htx
    rw [htx] at a1 a2
    rw [a1] at hv
    cases hv
    obtain ⟨p1, p2⟩ := parse_num a2
    have hne : numsOf tx = [45, 48] ↔ tx = ⟨#[45, 48]⟩ := ⟨fun e => numsOf_inj e, fun e => by rw [e]; rfl⟩
    refine ⟨fun nn hn hm => ?_, fun hm => ?_⟩
    · obtain ⟨rfl, rfl, hr⟩ := p1 nn hn
      unfold J.numV
      unfold J.Rng at hr
      rw [if_pos ⟨rfl, fun e => hm (hne.1 e), hr.1, hr.2⟩]
    · unfold J.numV
      rw [if_neg ?_]
      rintro ⟨hf, h1, h2, h3⟩
      rcases hm with rfl | hm
      · exact h1 rfl
      · exact hm _ (p2 hf ⟨h2, h3⟩)
set_option maxHeartbeats 4000000 in
set_option maxRecDepth 8000 in
theorem number_any (b : Nat) (σ : RS) (w : World) (h : RIn w b σ) (h8 : 8 ≤ b) (hL : Laid w) : Calls Tryd.prog 61 #[rp b] w fun e w' => NumP b σ w e w' := by
  have hlt := h.lt
  have hbA : Below w.heap.size w (w.alloc jbox) := (Below.refl _ _).alloc (Nat.le_refl _) jbox
  have hA := h.below hbA
  have hN := _root_.Go.heap_alloc_new w jbox
  have hc1 := hA.c1
  have hst := numB_st σ h.ok
  have hmo := goR_mono J.Good.numB σ h.ok
  have hsz := h.sz
  have hle := h.le
  have HH : Hid (RIn w b σ ∧ Laid w ∧ b < w.heap.size ∧ 8 ≤ b ∧ Below w.heap.size w (w.alloc jbox) ∧ (w.alloc jbox).heap[w.heap.size]? = some jbox) := ⟨h, hL, hlt, h8, hbA, hN⟩
  have HB : Hid (goR J.numB σ = goR (J.Rd.pure (flN σ)) (stN σ) ∧ (stN σ).ok ∧ σ.i ≤ (goR J.numB σ).1.i) := ⟨hst.1, hst.2, hmo⟩
  obtain ⟨w0, hw0⟩ : ∃ x, w.alloc jbox = x := ⟨_, rfl⟩
  obtain ⟨s1, hs1⟩ : ∃ x, σ.skip minusS = x := ⟨_, rfl⟩
  obtain ⟨s2, hs2⟩ : ∃ x, s1.skip zeroS = x := ⟨_, rfl⟩
  obtain ⟨z, hz⟩ : ∃ x, s1.has zeroS = x := ⟨_, rfl⟩
  obtain ⟨s3, hs3⟩ : ∃ x, (if z then s2 else (goR J.digits s2).1) = x := ⟨_, rfl⟩
  obtain ⟨s4, hs4⟩ : ∃ x, s3.skip dotS = x := ⟨_, rfl⟩
  obtain ⟨p, hp⟩ : ∃ x, s3.has dotS = x := ⟨_, rfl⟩
  obtain ⟨s5, hs5⟩ : ∃ x, (if p then (goR J.digits s4).1 else s4) = x := ⟨_, rfl⟩
  obtain ⟨s6, hs6⟩ : ∃ x, s5.skip expS = x := ⟨_, rfl⟩
  obtain ⟨s7, hs7⟩ : ∃ x, s6.skip plusS = x := ⟨_, rfl⟩
  obtain ⟨ex, hex⟩ : ∃ x, s5.has expS = x := ⟨_, rfl⟩
  obtain ⟨s8, hs8⟩ : ∃ x, (if ex then (goR J.digits s7).1 else s6) = x := ⟨_, rfl⟩
  have HS : Hid (stN σ = s8 ∧ flN σ = (!p && !ex)) := by
    refine ⟨?_, ?_⟩
    · unfold stN; simp only [hs1, hs2, hz, hs3, hp, hs4, hs5, hs6, hex, hs7, hs8]
    · unfold flN; simp only [hs1, hs2, hz, hs3, hp, hs4, hs5, hex]
  have K1 := skip_any b σ minusS (w.alloc jbox) hA
  have K2 := fun w' (hw : RIn w' b s1) => skip_any b s1 zeroS w' hw
  have K3 := fun w' (hw : RIn w' b s2) => digits_any b s2 w' hw
  have K4 := fun w' (hw : RIn w' b s3) => skip_any b s3 dotS w' hw
  have K5 := fun w' (hw : RIn w' b s4) => digits_any b s4 w' hw
  have K6 := fun w' (hw : RIn w' b s5) => skip_any b s5 expS w' hw
  have K7 := fun w' (hw : RIn w' b s6) => skip_any b s6 plusS w' hw
  have K8 := fun w' (hw : RIn w' b s7) => digits_any b s7 w' hw
  rw [hs1] at K1
  simp only [hs2, hz] at K2
  simp only [hs4, hp] at K4
  simp only [hs6, hex] at K6
  simp only [hs7] at K7
  have HE : Hid (goR J.numB σ = goR (J.Rd.pure (!p && !ex)) s8 ∧ s8.ok ∧ σ.i ≤ s8.i) := by
    have hb := HB.out
    have hs := HS.out
    have e1 := hb.1
    rw [hs.1, hs.2] at e1
    have o8 : s8.ok := by rw [← hs.1]; exact hb.2.1
    refine ⟨e1, o8, ?_⟩
    have := hb.2.2
    rw [e1, (goR_pureV (!p && !ex) o8).1] at this
    exact this
  obtain ⟨I, hI⟩ : ∃ I : Int, (σ.i : Int) = I := ⟨_, rfl⟩
  have HI : Hid ((σ.i : Int) = I) := hI
  rw [hI] at hc1
  clear hst hmo hs1 hs2 hs4 hs6 hs7 hA hN hbA hL hz hp hex HS HB hI h hlt
  unfold rp minusS at K1
  unfold rp zeroS at K2
  unfold rp at K3 K5 K8
  unfold rp dotS at K4
  unfold rp expS at K6
  unfold rp plusS at K7
  unfold rp
  unfold jbox zeroA at K1 hc1
  go_enter Tryd.func61, Tryd.ntmps61
  go_wp2_with fail
  refine K1.mono ?_
  rintro e w1 ⟨rfl, h1, g1⟩
  simp only []
  have K2' := K2 w1 h1
  clear K1 hc1 K2
  generalize σ.has (⟨#[45]⟩ : ByteArray) = B1
  go_wp2_with fail
  refine K2'.mono ?_
  rintro e w2 ⟨rfl, h2, g2⟩
  simp only []
  clear K2'
  cases z with
  | true =>
    have e3 : s2 = s3 := hs3
    subst e3
    clear hs3 K3
    have C4 := K4 w2 h2
    go_wp2_with fail
    refine C4.mono ?_
    rintro e w4 ⟨rfl, h4, g4⟩
    simp only []
    clear C4
    clear K4
    cases p with
    | true =>
      have e5 : (goR J.digits s4).1 = s5 := hs5
      simp only [e5] at K5
      have C5 := K5 w4 h4
      go_wp2_with fail
      refine C5.mono ?_
      rintro e w5 ⟨rfl, h5, g5⟩
      simp only []
      clear C5
      clear hs5 K5
      have C6 := K6 w5 h5
      go_wp2_with fail
      refine C6.mono ?_
      rintro e w6 ⟨rfl, h6, g6⟩
      simp only []
      clear C6
      clear K6
      cases ex with
      | true =>
        have e8 : (goR J.digits s7).1 = s8 := hs8
        simp only [e8] at K8
        have C7 := K7 w6 h6
        go_wp2_with fail
        refine C7.mono ?_
        rintro e w7 ⟨rfl, h7, g7⟩
        simp only []
        clear C7
        have C8 := K8 w7 h7
        go_wp2_with fail
        refine C8.mono ?_
        rintro e w8 ⟨rfl, h8, g8⟩
        simp only []
        clear C8
        clear hs8 K7 K8
        have GE : (w.alloc jbox).grownBy w8 (some b) := grown_trans (grown_trans (grown_trans (grown_trans (grown_trans (grown_trans g1 g2) g4) g5) g6) g7) g8
        have hbx := box_grown HH.out.2.2.2.2.2 GE (by have := HH.out; omega)
        have c0 := h8.c0
        have c1 := h8.c1
        have hE2 : s8.i ≤ s8.s.size := h8.le
        have hz8 := h8.sz
        have HF : Hid (RIn w8 b s8 ∧ w.grownBy w8 (some b) ∧ Laid w8) := ⟨h8, grown_trans (grown_below HH.out.2.2.2.2.1 _) GE, (HH.out.2.1.below HH.out.2.2.2.2.1 (by have := HH.out; omega)).grown GE HH.out.2.2.2.1 (by have := HH.out; simp; omega)⟩
        have X := slice_mid s8.s σ.i s8.i HE.out.2.2 hE2
        rw [HI.out] at X
        clear h1 h2 h4 h5 h6 h7 h8 g1 g2 g4 g5 g6 g7 g8 GE
        obtain ⟨J0, hJ⟩ : ∃ J0 : Int, (s8.i : Int) = J0 := ⟨_, rfl⟩
        rw [hJ] at c1 X
        obtain ⟨tx, htx⟩ : ∃ tx, s8.s.extract σ.i s8.i = tx := ⟨_, rfl⟩
        rw [htx] at X
        have HX : Hid (s8.s.extract σ.i s8.i = tx ∧ tx.size ≤ 20000) := ⟨htx, by rw [← htx, ByteArray.size_extract]; omega⟩
        clear htx hJ hE2 hz8
        generalize w8 = wE at *
        go_wp2_with fail
        go_quiet (fail)
        have B1' : Below wE.heap.size wE (wE.drewN nq) := below_dN (Below.refl _ _) _
        have PI := parseInt_any tx HX.out.2 (wE.drewN nq) (HF.out.2.2.below B1' (by have := HF.out.1.lt; have := HH.out; omega))
        have hbx2 := box_below hbx B1'
        generalize wE.drewN nq = wF at *
        clear c0 c1 hbx X
        go_wp2_with fail
        refine PI.mono ?_
        rintro e wG ⟨n, E, rfl, hbG, hcase⟩
        simp only []
        have hbx3 := box_below hbx2 hbG
        have HG : Hid (Below wE.heap.size wE wG) := below_more B1' hbG
        clear PI hbx2 hbG B1'
        have HW2 : Hid (Lib.parseIntB 64 tx.data.toList = Lib.parseIntB 64 tx.data.toList) := rfl
        have HV : Hid (∀ v, (goR J.number σ).2 = some v → (∀ nn, Lib.parseIntB 64 tx.data.toList = .ok nn → tx ≠ ⟨#[45, 48]⟩ → v = .mk 2 false nn [] [] []) ∧
            ((tx = ⟨#[45, 48]⟩ ∨ ∀ nn, Lib.parseIntB 64 tx.data.toList ≠ .ok nn) → v = .mk 3 false 0 (numsOf tx) [] [])) := num_told HE.out.1 HE.out.2.1 HX.out.1 HH.out.1.ok
        have HS8 : Hid ((goR J.number σ).1 = s8) := num_state HE.out.1 HE.out.2.1
        rcases hcase with ⟨rfl, hpa⟩ | ⟨⟨tp, a, rfl⟩, hpa⟩
        · by_cases hm : tx = ⟨#[45, 48]⟩
          · have HP : Hid (tx = ⟨#[45, 48]⟩) := hm
            have hmb : (tx.toList == [45, 48]) = true := by rw [← dash_list]; exact (Lib.bytes_beq_iff tx ⟨#[45, 48]⟩).2 hm
            clear hpa hm
            obtain ⟨⟨d0, d1, d2, d3, d4, d5⟩, f0, f1, f2, f3, f4, f5⟩ := box_cells hbx3
            go_wp2
            refine bodyPost_ret (results_cell_row rfl _ _ w.heap.size 25 (flatA 3 false 0 tx) (0, 0) _ rfl (set6_heap hbx3 _ _ _ _ _ _) Tryd.underlying25 rfl size_json) rfl ?_
            exact num_end HH.out.2.2.1 HF.out.1 HF.out.2.1 HG.out HS8.out 3 0 tx (by decide) rng_zero (fun v hv => (HV.out v hv).2 (.inl HP.out))
          · have HP : Hid (tx ≠ ⟨#[45, 48]⟩) := hm
            have hmb : (tx.toList == [45, 48]) = false := by rw [← dash_list]; exact (Lib.bytes_beq_false_iff tx ⟨#[45, 48]⟩).2 hm
            have NA := Num_any n wG
            have HPA : Hid (Lib.parseIntB 64 tx.data.toList = .ok n ∧ J.Rng n) := ⟨hpa, parse_rng hpa⟩
            clear hpa hm
            go_wp2_with fail
            refine NA.mono ?_
            rintro e wH ⟨rfl, hbH⟩
            have hbx4 := box_below hbx3 hbH
            simp only []
            obtain ⟨⟨d0, d1, d2, d3, d4, d5⟩, f0, f1, f2, f3, f4, f5⟩ := box_cells hbx4
            unfold flatA jA
            go_wp2
            refine bodyPost_ret (results_cell_row rfl _ _ w.heap.size 25 (flatA 2 false n ByteArray.empty) (0, 0) _ rfl (set6_heap hbx4 _ _ _ _ _ _) Tryd.underlying25 rfl size_json) rfl ?_
            exact num_end HH.out.2.2.1 HF.out.1 HF.out.2.1 (below_more HG.out hbH) HS8.out 2 n ByteArray.empty (by decide) HPA.out.2 (fun v hv => (HV.out v hv).1 n HPA.out.1 HP.out)
        · obtain ⟨⟨d0, d1, d2, d3, d4, d5⟩, f0, f1, f2, f3, f4, f5⟩ := box_cells hbx3
          have HPA : Hid (∀ nn, Lib.parseIntB 64 tx.data.toList ≠ .ok nn) := hpa
          clear hpa
          go_wp2
          refine bodyPost_ret (results_cell_row rfl _ _ w.heap.size 25 (flatA 3 false 0 tx) (0, 0) _ rfl (set6_heap hbx3 _ _ _ _ _ _) Tryd.underlying25 rfl size_json) rfl ?_
          exact num_end HH.out.2.2.1 HF.out.1 HF.out.2.1 HG.out HS8.out 3 0 tx (by decide) rng_zero (fun v hv => (HV.out v hv).2 (.inr HPA.out))
      | false =>
        have e8 : s6 = s8 := hs8
        subst e8
        clear hs8 K7 K8
        have GE : (w.alloc jbox).grownBy w6 (some b) := grown_trans (grown_trans (grown_trans (grown_trans g1 g2) g4) g5) g6
        have hbx := box_grown HH.out.2.2.2.2.2 GE (by have := HH.out; omega)
        have c0 := h6.c0
        have c1 := h6.c1
        have hE2 : s6.i ≤ s6.s.size := h6.le
        have hz8 := h6.sz
        have HF : Hid (RIn w6 b s6 ∧ w.grownBy w6 (some b) ∧ Laid w6) := ⟨h6, grown_trans (grown_below HH.out.2.2.2.2.1 _) GE, (HH.out.2.1.below HH.out.2.2.2.2.1 (by have := HH.out; omega)).grown GE HH.out.2.2.2.1 (by have := HH.out; simp; omega)⟩
        have X := slice_mid s6.s σ.i s6.i HE.out.2.2 hE2
        rw [HI.out] at X
        clear h1 h2 h4 h5 h6 g1 g2 g4 g5 g6 GE
        obtain ⟨J0, hJ⟩ : ∃ J0 : Int, (s6.i : Int) = J0 := ⟨_, rfl⟩
        rw [hJ] at c1 X
        obtain ⟨tx, htx⟩ : ∃ tx, s6.s.extract σ.i s6.i = tx := ⟨_, rfl⟩
        rw [htx] at X
        have HX : Hid (s6.s.extract σ.i s6.i = tx ∧ tx.size ≤ 20000) := ⟨htx, by rw [← htx, ByteArray.size_extract]; omega⟩
        clear htx hJ hE2 hz8
        generalize w6 = wE at *
        go_wp2_with fail
        go_quiet (fail)
        have B1' : Below wE.heap.size wE (wE.drewN nq) := below_dN (Below.refl _ _) _
        have PI := parseInt_any tx HX.out.2 (wE.drewN nq) (HF.out.2.2.below B1' (by have := HF.out.1.lt; have := HH.out; omega))
        have hbx2 := box_below hbx B1'
        generalize wE.drewN nq = wF at *
        clear c0 c1 hbx X
        go_wp2_with fail
        refine PI.mono ?_
        rintro e wG ⟨n, E, rfl, hbG, hcase⟩
        simp only []
        have hbx3 := box_below hbx2 hbG
        have HG : Hid (Below wE.heap.size wE wG) := below_more B1' hbG
        clear PI hbx2 hbG B1'
        have HW2 : Hid (Lib.parseIntB 64 tx.data.toList = Lib.parseIntB 64 tx.data.toList) := rfl
        have HV : Hid (∀ v, (goR J.number σ).2 = some v → (∀ nn, Lib.parseIntB 64 tx.data.toList = .ok nn → tx ≠ ⟨#[45, 48]⟩ → v = .mk 2 false nn [] [] []) ∧
            ((tx = ⟨#[45, 48]⟩ ∨ ∀ nn, Lib.parseIntB 64 tx.data.toList ≠ .ok nn) → v = .mk 3 false 0 (numsOf tx) [] [])) := num_told HE.out.1 HE.out.2.1 HX.out.1 HH.out.1.ok
        have HS8 : Hid ((goR J.number σ).1 = s6) := num_state HE.out.1 HE.out.2.1
        rcases hcase with ⟨rfl, hpa⟩ | ⟨⟨tp, a, rfl⟩, hpa⟩
        · by_cases hm : tx = ⟨#[45, 48]⟩
          · have HP : Hid (tx = ⟨#[45, 48]⟩) := hm
            have hmb : (tx.toList == [45, 48]) = true := by rw [← dash_list]; exact (Lib.bytes_beq_iff tx ⟨#[45, 48]⟩).2 hm
            clear hpa hm
            obtain ⟨⟨d0, d1, d2, d3, d4, d5⟩, f0, f1, f2, f3, f4, f5⟩ := box_cells hbx3
            go_wp2
            refine bodyPost_ret (results_cell_row rfl _ _ w.heap.size 25 (flatA 3 false 0 tx) (0, 0) _ rfl (set6_heap hbx3 _ _ _ _ _ _) Tryd.underlying25 rfl size_json) rfl ?_
            exact num_end HH.out.2.2.1 HF.out.1 HF.out.2.1 HG.out HS8.out 3 0 tx (by decide) rng_zero (fun v hv => (HV.out v hv).2 (.inl HP.out))
          · have HP : Hid (tx ≠ ⟨#[45, 48]⟩) := hm
            have hmb : (tx.toList == [45, 48]) = false := by rw [← dash_list]; exact (Lib.bytes_beq_false_iff tx ⟨#[45, 48]⟩).2 hm
            have NA := Num_any n wG
            have HPA : Hid (Lib.parseIntB 64 tx.data.toList = .ok n ∧ J.Rng n) := ⟨hpa, parse_rng hpa⟩
            clear hpa hm
            go_wp2_with fail
            refine NA.mono ?_
            rintro e wH ⟨rfl, hbH⟩
            have hbx4 := box_below hbx3 hbH
            simp only []
            obtain ⟨⟨d0, d1, d2, d3, d4, d5⟩, f0, f1, f2, f3, f4, f5⟩ := box_cells hbx4
            unfold flatA jA
            go_wp2
            refine bodyPost_ret (results_cell_row rfl _ _ w.heap.size 25 (flatA 2 false n ByteArray.empty) (0, 0) _ rfl (set6_heap hbx4 _ _ _ _ _ _) Tryd.underlying25 rfl size_json) rfl ?_
            exact num_end HH.out.2.2.1 HF.out.1 HF.out.2.1 (below_more HG.out hbH) HS8.out 2 n ByteArray.empty (by decide) HPA.out.2 (fun v hv => (HV.out v hv).1 n HPA.out.1 HP.out)
        · obtain ⟨⟨d0, d1, d2, d3, d4, d5⟩, f0, f1, f2, f3, f4, f5⟩ := box_cells hbx3
          have HPA : Hid (∀ nn, Lib.parseIntB 64 tx.data.toList ≠ .ok nn) := hpa
          clear hpa
          go_wp2
          refine bodyPost_ret (results_cell_row rfl _ _ w.heap.size 25 (flatA 3 false 0 tx) (0, 0) _ rfl (set6_heap hbx3 _ _ _ _ _ _) Tryd.underlying25 rfl size_json) rfl ?_
          exact num_end HH.out.2.2.1 HF.out.1 HF.out.2.1 HG.out HS8.out 3 0 tx (by decide) rng_zero (fun v hv => (HV.out v hv).2 (.inr HPA.out))
    | false =>
      have e5 : s4 = s5 := hs5
      subst e5
      clear hs5 K5
      have C6 := K6 w4 h4
      go_wp2_with fail
      refine C6.mono ?_
      rintro e w6 ⟨rfl, h6, g6⟩
      simp only []
      clear C6
      clear K6
      cases ex with
      | true =>
        have e8 : (goR J.digits s7).1 = s8 := hs8
        simp only [e8] at K8
        have C7 := K7 w6 h6
        go_wp2_with fail
        refine C7.mono ?_
        rintro e w7 ⟨rfl, h7, g7⟩
        simp only []
        clear C7
        have C8 := K8 w7 h7
        go_wp2_with fail
        refine C8.mono ?_
        rintro e w8 ⟨rfl, h8, g8⟩
        simp only []
        clear C8
        clear hs8 K7 K8
        have GE : (w.alloc jbox).grownBy w8 (some b) := grown_trans (grown_trans (grown_trans (grown_trans (grown_trans g1 g2) g4) g6) g7) g8
        have hbx := box_grown HH.out.2.2.2.2.2 GE (by have := HH.out; omega)
        have c0 := h8.c0
        have c1 := h8.c1
        have hE2 : s8.i ≤ s8.s.size := h8.le
        have hz8 := h8.sz
        have HF : Hid (RIn w8 b s8 ∧ w.grownBy w8 (some b) ∧ Laid w8) := ⟨h8, grown_trans (grown_below HH.out.2.2.2.2.1 _) GE, (HH.out.2.1.below HH.out.2.2.2.2.1 (by have := HH.out; omega)).grown GE HH.out.2.2.2.1 (by have := HH.out; simp; omega)⟩
        have X := slice_mid s8.s σ.i s8.i HE.out.2.2 hE2
        rw [HI.out] at X
        clear h1 h2 h4 h6 h7 h8 g1 g2 g4 g6 g7 g8 GE
        obtain ⟨J0, hJ⟩ : ∃ J0 : Int, (s8.i : Int) = J0 := ⟨_, rfl⟩
        rw [hJ] at c1 X
        obtain ⟨tx, htx⟩ : ∃ tx, s8.s.extract σ.i s8.i = tx := ⟨_, rfl⟩
        rw [htx] at X
        have HX : Hid (s8.s.extract σ.i s8.i = tx ∧ tx.size ≤ 20000) := ⟨htx, by rw [← htx, ByteArray.size_extract]; omega⟩
        clear htx hJ hE2 hz8
        generalize w8 = wE at *
        go_wp2_with fail
        go_quiet (fail)
        have B1' : Below wE.heap.size wE (wE.drewN nq) := below_dN (Below.refl _ _) _
        have PI := parseInt_any tx HX.out.2 (wE.drewN nq) (HF.out.2.2.below B1' (by have := HF.out.1.lt; have := HH.out; omega))
        have hbx2 := box_below hbx B1'
        generalize wE.drewN nq = wF at *
        clear c0 c1 hbx X
        go_wp2_with fail
        refine PI.mono ?_
        rintro e wG ⟨n, E, rfl, hbG, hcase⟩
        simp only []
        have hbx3 := box_below hbx2 hbG
        have HG : Hid (Below wE.heap.size wE wG) := below_more B1' hbG
        clear PI hbx2 hbG B1'
        have HW2 : Hid (Lib.parseIntB 64 tx.data.toList = Lib.parseIntB 64 tx.data.toList) := rfl
        have HV : Hid (∀ v, (goR J.number σ).2 = some v → (∀ nn, Lib.parseIntB 64 tx.data.toList = .ok nn → tx ≠ ⟨#[45, 48]⟩ → v = .mk 2 false nn [] [] []) ∧
            ((tx = ⟨#[45, 48]⟩ ∨ ∀ nn, Lib.parseIntB 64 tx.data.toList ≠ .ok nn) → v = .mk 3 false 0 (numsOf tx) [] [])) := num_told HE.out.1 HE.out.2.1 HX.out.1 HH.out.1.ok
        have HS8 : Hid ((goR J.number σ).1 = s8) := num_state HE.out.1 HE.out.2.1
        rcases hcase with ⟨rfl, hpa⟩ | ⟨⟨tp, a, rfl⟩, hpa⟩
        · by_cases hm : tx = ⟨#[45, 48]⟩
          · have HP : Hid (tx = ⟨#[45, 48]⟩) := hm
            have hmb : (tx.toList == [45, 48]) = true := by rw [← dash_list]; exact (Lib.bytes_beq_iff tx ⟨#[45, 48]⟩).2 hm
            clear hpa hm
            obtain ⟨⟨d0, d1, d2, d3, d4, d5⟩, f0, f1, f2, f3, f4, f5⟩ := box_cells hbx3
            go_wp2
            refine bodyPost_ret (results_cell_row rfl _ _ w.heap.size 25 (flatA 3 false 0 tx) (0, 0) _ rfl (set6_heap hbx3 _ _ _ _ _ _) Tryd.underlying25 rfl size_json) rfl ?_
            exact num_end HH.out.2.2.1 HF.out.1 HF.out.2.1 HG.out HS8.out 3 0 tx (by decide) rng_zero (fun v hv => (HV.out v hv).2 (.inl HP.out))
          · have HP : Hid (tx ≠ ⟨#[45, 48]⟩) := hm
            have hmb : (tx.toList == [45, 48]) = false := by rw [← dash_list]; exact (Lib.bytes_beq_false_iff tx ⟨#[45, 48]⟩).2 hm
            have NA := Num_any n wG
            have HPA : Hid (Lib.parseIntB 64 tx.data.toList = .ok n ∧ J.Rng n) := ⟨hpa, parse_rng hpa⟩
            clear hpa hm
            go_wp2_with fail
            refine NA.mono ?_
            rintro e wH ⟨rfl, hbH⟩
            have hbx4 := box_below hbx3 hbH
            simp only []
            obtain ⟨⟨d0, d1, d2, d3, d4, d5⟩, f0, f1, f2, f3, f4, f5⟩ := box_cells hbx4
            unfold flatA jA
            go_wp2
            refine bodyPost_ret (results_cell_row rfl _ _ w.heap.size 25 (flatA 2 false n ByteArray.empty) (0, 0) _ rfl (set6_heap hbx4 _ _ _ _ _ _) Tryd.underlying25 rfl size_json) rfl ?_
            exact num_end HH.out.2.2.1 HF.out.1 HF.out.2.1 (below_more HG.out hbH) HS8.out 2 n ByteArray.empty (by decide) HPA.out.2 (fun v hv => (HV.out v hv).1 n HPA.out.1 HP.out)
        · obtain ⟨⟨d0, d1, d2, d3, d4, d5⟩, f0, f1, f2, f3, f4, f5⟩ := box_cells hbx3
          have HPA : Hid (∀ nn, Lib.parseIntB 64 tx.data.toList ≠ .ok nn) := hpa
          clear hpa
          go_wp2
          refine bodyPost_ret (results_cell_row rfl _ _ w.heap.size 25 (flatA 3 false 0 tx) (0, 0) _ rfl (set6_heap hbx3 _ _ _ _ _ _) Tryd.underlying25 rfl size_json) rfl ?_
          exact num_end HH.out.2.2.1 HF.out.1 HF.out.2.1 HG.out HS8.out 3 0 tx (by decide) rng_zero (fun v hv => (HV.out v hv).2 (.inr HPA.out))
      | false =>
        have e8 : s6 = s8 := hs8
        subst e8
        clear hs8 K7 K8
        have GE : (w.alloc jbox).grownBy w6 (some b) := grown_trans (grown_trans (grown_trans g1 g2) g4) g6
        have hbx := box_grown HH.out.2.2.2.2.2 GE (by have := HH.out; omega)
        have c0 := h6.c0
        have c1 := h6.c1
        have hE2 : s6.i ≤ s6.s.size := h6.le
        have hz8 := h6.sz
        have HF : Hid (RIn w6 b s6 ∧ w.grownBy w6 (some b) ∧ Laid w6) := ⟨h6, grown_trans (grown_below HH.out.2.2.2.2.1 _) GE, (HH.out.2.1.below HH.out.2.2.2.2.1 (by have := HH.out; omega)).grown GE HH.out.2.2.2.1 (by have := HH.out; simp; omega)⟩
        have X := slice_mid s6.s σ.i s6.i HE.out.2.2 hE2
        rw [HI.out] at X
        clear h1 h2 h4 h6 g1 g2 g4 g6 GE
        obtain ⟨J0, hJ⟩ : ∃ J0 : Int, (s6.i : Int) = J0 := ⟨_, rfl⟩
        rw [hJ] at c1 X
        obtain ⟨tx, htx⟩ : ∃ tx, s6.s.extract σ.i s6.i = tx := ⟨_, rfl⟩
        rw [htx] at X
        have HX : Hid (s6.s.extract σ.i s6.i = tx ∧ tx.size ≤ 20000) := ⟨htx, by rw [← htx, ByteArray.size_extract]; omega⟩
        clear htx hJ hE2 hz8
        generalize w6 = wE at *
        go_wp2_with fail
        go_quiet (fail)
        have B1' : Below wE.heap.size wE (wE.drewN nq) := below_dN (Below.refl _ _) _
        have PI := parseInt_any tx HX.out.2 (wE.drewN nq) (HF.out.2.2.below B1' (by have := HF.out.1.lt; have := HH.out; omega))
        have hbx2 := box_below hbx B1'
        generalize wE.drewN nq = wF at *
        clear c0 c1 hbx X
        go_wp2_with fail
        refine PI.mono ?_
        rintro e wG ⟨n, E, rfl, hbG, hcase⟩
        simp only []
        have hbx3 := box_below hbx2 hbG
        have HG : Hid (Below wE.heap.size wE wG) := below_more B1' hbG
        clear PI hbx2 hbG B1'
        have HW2 : Hid (Lib.parseIntB 64 tx.data.toList = Lib.parseIntB 64 tx.data.toList) := rfl
        have HV : Hid (∀ v, (goR J.number σ).2 = some v → (∀ nn, Lib.parseIntB 64 tx.data.toList = .ok nn → tx ≠ ⟨#[45, 48]⟩ → v = .mk 2 false nn [] [] []) ∧
            ((tx = ⟨#[45, 48]⟩ ∨ ∀ nn, Lib.parseIntB 64 tx.data.toList ≠ .ok nn) → v = .mk 3 false 0 (numsOf tx) [] [])) := num_told HE.out.1 HE.out.2.1 HX.out.1 HH.out.1.ok
        have HS8 : Hid ((goR J.number σ).1 = s6) := num_state HE.out.1 HE.out.2.1
        rcases hcase with ⟨rfl, hpa⟩ | ⟨⟨tp, a, rfl⟩, hpa⟩
        · by_cases hm : tx = ⟨#[45, 48]⟩
          · have HP : Hid (tx = ⟨#[45, 48]⟩) := hm
            have hmb : (tx.toList == [45, 48]) = true := by rw [← dash_list]; exact (Lib.bytes_beq_iff tx ⟨#[45, 48]⟩).2 hm
            clear hpa hm
            obtain ⟨⟨d0, d1, d2, d3, d4, d5⟩, f0, f1, f2, f3, f4, f5⟩ := box_cells hbx3
            go_wp2
            refine bodyPost_ret (results_cell_row rfl _ _ w.heap.size 25 (flatA 3 false 0 tx) (0, 0) _ rfl (set6_heap hbx3 _ _ _ _ _ _) Tryd.underlying25 rfl size_json) rfl ?_
            exact num_end HH.out.2.2.1 HF.out.1 HF.out.2.1 HG.out HS8.out 3 0 tx (by decide) rng_zero (fun v hv => (HV.out v hv).2 (.inl HP.out))
          · have HP : Hid (tx ≠ ⟨#[45, 48]⟩) := hm
            have hmb : (tx.toList == [45, 48]) = false := by rw [← dash_list]; exact (Lib.bytes_beq_false_iff tx ⟨#[45, 48]⟩).2 hm
            have NA := Num_any n wG
            have HPA : Hid (Lib.parseIntB 64 tx.data.toList = .ok n ∧ J.Rng n) := ⟨hpa, parse_rng hpa⟩
            clear hpa hm
            go_wp2_with fail
            refine NA.mono ?_
            rintro e wH ⟨rfl, hbH⟩
            have hbx4 := box_below hbx3 hbH
            simp only []
            obtain ⟨⟨d0, d1, d2, d3, d4, d5⟩, f0, f1, f2, f3, f4, f5⟩ := box_cells hbx4
            unfold flatA jA
            go_wp2
            refine bodyPost_ret (results_cell_row rfl _ _ w.heap.size 25 (flatA 2 false n ByteArray.empty) (0, 0) _ rfl (set6_heap hbx4 _ _ _ _ _ _) Tryd.underlying25 rfl size_json) rfl ?_
            exact num_end HH.out.2.2.1 HF.out.1 HF.out.2.1 (below_more HG.out hbH) HS8.out 2 n ByteArray.empty (by decide) HPA.out.2 (fun v hv => (HV.out v hv).1 n HPA.out.1 HP.out)
        · obtain ⟨⟨d0, d1, d2, d3, d4, d5⟩, f0, f1, f2, f3, f4, f5⟩ := box_cells hbx3
          have HPA : Hid (∀ nn, Lib.parseIntB 64 tx.data.toList ≠ .ok nn) := hpa
          clear hpa
          go_wp2
          refine bodyPost_ret (results_cell_row rfl _ _ w.heap.size 25 (flatA 3 false 0 tx) (0, 0) _ rfl (set6_heap hbx3 _ _ _ _ _ _) Tryd.underlying25 rfl size_json) rfl ?_
          exact num_end HH.out.2.2.1 HF.out.1 HF.out.2.1 HG.out HS8.out 3 0 tx (by decide) rng_zero (fun v hv => (HV.out v hv).2 (.inr HPA.out))
  | false =>
    have e3 : (goR J.digits s2).1 = s3 := hs3
    simp only [e3] at K3
    have C3 := K3 w2 h2
    go_wp2_with fail
    refine C3.mono ?_
    rintro e w3 ⟨rfl, h3, g3⟩
    simp only []
    clear C3
    clear hs3 K3
    have C4 := K4 w3 h3
    go_wp2_with fail
    refine C4.mono ?_
    rintro e w4 ⟨rfl, h4, g4⟩
    simp only []
    clear C4
    clear K4
    cases p with
    | true =>
      have e5 : (goR J.digits s4).1 = s5 := hs5
      simp only [e5] at K5
      have C5 := K5 w4 h4
      go_wp2_with fail
      refine C5.mono ?_
      rintro e w5 ⟨rfl, h5, g5⟩
      simp only []
      clear C5
      clear hs5 K5
      have C6 := K6 w5 h5
      go_wp2_with fail
      refine C6.mono ?_
      rintro e w6 ⟨rfl, h6, g6⟩
      simp only []
      clear C6
      clear K6
      cases ex with
      | true =>
        have e8 : (goR J.digits s7).1 = s8 := hs8
        simp only [e8] at K8
        have C7 := K7 w6 h6
        go_wp2_with fail
        refine C7.mono ?_
        rintro e w7 ⟨rfl, h7, g7⟩
        simp only []
        clear C7
        have C8 := K8 w7 h7
        go_wp2_with fail
        refine C8.mono ?_
        rintro e w8 ⟨rfl, h8, g8⟩
        simp only []
        clear C8
        clear hs8 K7 K8
        have GE : (w.alloc jbox).grownBy w8 (some b) := grown_trans (grown_trans (grown_trans (grown_trans (grown_trans (grown_trans (grown_trans g1 g2) g3) g4) g5) g6) g7) g8
        have hbx := box_grown HH.out.2.2.2.2.2 GE (by have := HH.out; omega)
        have c0 := h8.c0
        have c1 := h8.c1
        have hE2 : s8.i ≤ s8.s.size := h8.le
        have hz8 := h8.sz
        have HF : Hid (RIn w8 b s8 ∧ w.grownBy w8 (some b) ∧ Laid w8) := ⟨h8, grown_trans (grown_below HH.out.2.2.2.2.1 _) GE, (HH.out.2.1.below HH.out.2.2.2.2.1 (by have := HH.out; omega)).grown GE HH.out.2.2.2.1 (by have := HH.out; simp; omega)⟩
        have X := slice_mid s8.s σ.i s8.i HE.out.2.2 hE2
        rw [HI.out] at X
        clear h1 h2 h3 h4 h5 h6 h7 h8 g1 g2 g3 g4 g5 g6 g7 g8 GE
        obtain ⟨J0, hJ⟩ : ∃ J0 : Int, (s8.i : Int) = J0 := ⟨_, rfl⟩
        rw [hJ] at c1 X
        obtain ⟨tx, htx⟩ : ∃ tx, s8.s.extract σ.i s8.i = tx := ⟨_, rfl⟩
        rw [htx] at X
        have HX : Hid (s8.s.extract σ.i s8.i = tx ∧ tx.size ≤ 20000) := ⟨htx, by rw [← htx, ByteArray.size_extract]; omega⟩
        clear htx hJ hE2 hz8
        generalize w8 = wE at *
        go_wp2_with fail
        go_quiet (fail)
        have B1' : Below wE.heap.size wE (wE.drewN nq) := below_dN (Below.refl _ _) _
        have PI := parseInt_any tx HX.out.2 (wE.drewN nq) (HF.out.2.2.below B1' (by have := HF.out.1.lt; have := HH.out; omega))
        have hbx2 := box_below hbx B1'
        generalize wE.drewN nq = wF at *
        clear c0 c1 hbx X
        go_wp2_with fail
        refine PI.mono ?_
        rintro e wG ⟨n, E, rfl, hbG, hcase⟩
        simp only []
        have hbx3 := box_below hbx2 hbG
        have HG : Hid (Below wE.heap.size wE wG) := below_more B1' hbG
        clear PI hbx2 hbG B1'
        have HW2 : Hid (Lib.parseIntB 64 tx.data.toList = Lib.parseIntB 64 tx.data.toList) := rfl
        have HV : Hid (∀ v, (goR J.number σ).2 = some v → (∀ nn, Lib.parseIntB 64 tx.data.toList = .ok nn → tx ≠ ⟨#[45, 48]⟩ → v = .mk 2 false nn [] [] []) ∧
            ((tx = ⟨#[45, 48]⟩ ∨ ∀ nn, Lib.parseIntB 64 tx.data.toList ≠ .ok nn) → v = .mk 3 false 0 (numsOf tx) [] [])) := num_told HE.out.1 HE.out.2.1 HX.out.1 HH.out.1.ok
        have HS8 : Hid ((goR J.number σ).1 = s8) := num_state HE.out.1 HE.out.2.1
        rcases hcase with ⟨rfl, hpa⟩ | ⟨⟨tp, a, rfl⟩, hpa⟩
        · by_cases hm : tx = ⟨#[45, 48]⟩
          · have HP : Hid (tx = ⟨#[45, 48]⟩) := hm
            have hmb : (tx.toList == [45, 48]) = true := by rw [← dash_list]; exact (Lib.bytes_beq_iff tx ⟨#[45, 48]⟩).2 hm
            clear hpa hm
            obtain ⟨⟨d0, d1, d2, d3, d4, d5⟩, f0, f1, f2, f3, f4, f5⟩ := box_cells hbx3
            go_wp2
            refine bodyPost_ret (results_cell_row rfl _ _ w.heap.size 25 (flatA 3 false 0 tx) (0, 0) _ rfl (set6_heap hbx3 _ _ _ _ _ _) Tryd.underlying25 rfl size_json) rfl ?_
            exact num_end HH.out.2.2.1 HF.out.1 HF.out.2.1 HG.out HS8.out 3 0 tx (by decide) rng_zero (fun v hv => (HV.out v hv).2 (.inl HP.out))
          · have HP : Hid (tx ≠ ⟨#[45, 48]⟩) := hm
            have hmb : (tx.toList == [45, 48]) = false := by rw [← dash_list]; exact (Lib.bytes_beq_false_iff tx ⟨#[45, 48]⟩).2 hm
            have NA := Num_any n wG
            have HPA : Hid (Lib.parseIntB 64 tx.data.toList = .ok n ∧ J.Rng n) := ⟨hpa, parse_rng hpa⟩
            clear hpa hm
            go_wp2_with fail
            refine NA.mono ?_
            rintro e wH ⟨rfl, hbH⟩
            have hbx4 := box_below hbx3 hbH
            simp only []
            obtain ⟨⟨d0, d1, d2, d3, d4, d5⟩, f0, f1, f2, f3, f4, f5⟩ := box_cells hbx4
            unfold flatA jA
            go_wp2
            refine bodyPost_ret (results_cell_row rfl _ _ w.heap.size 25 (flatA 2 false n ByteArray.empty) (0, 0) _ rfl (set6_heap hbx4 _ _ _ _ _ _) Tryd.underlying25 rfl size_json) rfl ?_
            exact num_end HH.out.2.2.1 HF.out.1 HF.out.2.1 (below_more HG.out hbH) HS8.out 2 n ByteArray.empty (by decide) HPA.out.2 (fun v hv => (HV.out v hv).1 n HPA.out.1 HP.out)
        · obtain ⟨⟨d0, d1, d2, d3, d4, d5⟩, f0, f1, f2, f3, f4, f5⟩ := box_cells hbx3
          have HPA : Hid (∀ nn, Lib.parseIntB 64 tx.data.toList ≠ .ok nn) := hpa
          clear hpa
          go_wp2
          refine bodyPost_ret (results_cell_row rfl _ _ w.heap.size 25 (flatA 3 false 0 tx) (0, 0) _ rfl (set6_heap hbx3 _ _ _ _ _ _) Tryd.underlying25 rfl size_json) rfl ?_
          exact num_end HH.out.2.2.1 HF.out.1 HF.out.2.1 HG.out HS8.out 3 0 tx (by decide) rng_zero (fun v hv => (HV.out v hv).2 (.inr HPA.out))
      | false =>
        have e8 : s6 = s8 := hs8
        subst e8
        clear hs8 K7 K8
        have GE : (w.alloc jbox).grownBy w6 (some b) := grown_trans (grown_trans (grown_trans (grown_trans (grown_trans g1 g2) g3) g4) g5) g6
        have hbx := box_grown HH.out.2.2.2.2.2 GE (by have := HH.out; omega)
        have c0 := h6.c0
        have c1 := h6.c1
        have hE2 : s6.i ≤ s6.s.size := h6.le
        have hz8 := h6.sz
        have HF : Hid (RIn w6 b s6 ∧ w.grownBy w6 (some b) ∧ Laid w6) := ⟨h6, grown_trans (grown_below HH.out.2.2.2.2.1 _) GE, (HH.out.2.1.below HH.out.2.2.2.2.1 (by have := HH.out; omega)).grown GE HH.out.2.2.2.1 (by have := HH.out; simp; omega)⟩
        have X := slice_mid s6.s σ.i s6.i HE.out.2.2 hE2
        rw [HI.out] at X
        clear h1 h2 h3 h4 h5 h6 g1 g2 g3 g4 g5 g6 GE
        obtain ⟨J0, hJ⟩ : ∃ J0 : Int, (s6.i : Int) = J0 := ⟨_, rfl⟩
        rw [hJ] at c1 X
        obtain ⟨tx, htx⟩ : ∃ tx, s6.s.extract σ.i s6.i = tx := ⟨_, rfl⟩
        rw [htx] at X
        have HX : Hid (s6.s.extract σ.i s6.i = tx ∧ tx.size ≤ 20000) := ⟨htx, by rw [← htx, ByteArray.size_extract]; omega⟩
        clear htx hJ hE2 hz8
        generalize w6 = wE at *
        go_wp2_with fail
        go_quiet (fail)
        have B1' : Below wE.heap.size wE (wE.drewN nq) := below_dN (Below.refl _ _) _
        have PI := parseInt_any tx HX.out.2 (wE.drewN nq) (HF.out.2.2.below B1' (by have := HF.out.1.lt; have := HH.out; omega))
        have hbx2 := box_below hbx B1'
        generalize wE.drewN nq = wF at *
        clear c0 c1 hbx X
        go_wp2_with fail
        refine PI.mono ?_
        rintro e wG ⟨n, E, rfl, hbG, hcase⟩
        simp only []
        have hbx3 := box_below hbx2 hbG
        have HG : Hid (Below wE.heap.size wE wG) := below_more B1' hbG
        clear PI hbx2 hbG B1'
        have HW2 : Hid (Lib.parseIntB 64 tx.data.toList = Lib.parseIntB 64 tx.data.toList) := rfl
        have HV : Hid (∀ v, (goR J.number σ).2 = some v → (∀ nn, Lib.parseIntB 64 tx.data.toList = .ok nn → tx ≠ ⟨#[45, 48]⟩ → v = .mk 2 false nn [] [] []) ∧
            ((tx = ⟨#[45, 48]⟩ ∨ ∀ nn, Lib.parseIntB 64 tx.data.toList ≠ .ok nn) → v = .mk 3 false 0 (numsOf tx) [] [])) := num_told HE.out.1 HE.out.2.1 HX.out.1 HH.out.1.ok
        have HS8 : Hid ((goR J.number σ).1 = s6) := num_state HE.out.1 HE.out.2.1
        rcases hcase with ⟨rfl, hpa⟩ | ⟨⟨tp, a, rfl⟩, hpa⟩
        · by_cases hm : tx = ⟨#[45, 48]⟩
          · have HP : Hid (tx = ⟨#[45, 48]⟩) := hm
            have hmb : (tx.toList == [45, 48]) = true := by rw [← dash_list]; exact (Lib.bytes_beq_iff tx ⟨#[45, 48]⟩).2 hm
            clear hpa hm
            obtain ⟨⟨d0, d1, d2, d3, d4, d5⟩, f0, f1, f2, f3, f4, f5⟩ := box_cells hbx3
            go_wp2
            refine bodyPost_ret (results_cell_row rfl _ _ w.heap.size 25 (flatA 3 false 0 tx) (0, 0) _ rfl (set6_heap hbx3 _ _ _ _ _ _) Tryd.underlying25 rfl size_json) rfl ?_
            exact num_end HH.out.2.2.1 HF.out.1 HF.out.2.1 HG.out HS8.out 3 0 tx (by decide) rng_zero (fun v hv => (HV.out v hv).2 (.inl HP.out))
          · have HP : Hid (tx ≠ ⟨#[45, 48]⟩) := hm
            have hmb : (tx.toList == [45, 48]) = false := by rw [← dash_list]; exact (Lib.bytes_beq_false_iff tx ⟨#[45, 48]⟩).2 hm
            have NA := Num_any n wG
            have HPA : Hid (Lib.parseIntB 64 tx.data.toList = .ok n ∧ J.Rng n) := ⟨hpa, parse_rng hpa⟩
            clear hpa hm
            go_wp2_with fail
            refine NA.mono ?_
            rintro e wH ⟨rfl, hbH⟩
            have hbx4 := box_below hbx3 hbH
            simp only []
            obtain ⟨⟨d0, d1, d2, d3, d4, d5⟩, f0, f1, f2, f3, f4, f5⟩ := box_cells hbx4
            unfold flatA jA
            go_wp2
            refine bodyPost_ret (results_cell_row rfl _ _ w.heap.size 25 (flatA 2 false n ByteArray.empty) (0, 0) _ rfl (set6_heap hbx4 _ _ _ _ _ _) Tryd.underlying25 rfl size_json) rfl ?_
            exact num_end HH.out.2.2.1 HF.out.1 HF.out.2.1 (below_more HG.out hbH) HS8.out 2 n ByteArray.empty (by decide) HPA.out.2 (fun v hv => (HV.out v hv).1 n HPA.out.1 HP.out)
        · obtain ⟨⟨d0, d1, d2, d3, d4, d5⟩, f0, f1, f2, f3, f4, f5⟩ := box_cells hbx3
          have HPA : Hid (∀ nn, Lib.parseIntB 64 tx.data.toList ≠ .ok nn) := hpa
          clear hpa
          go_wp2
          refine bodyPost_ret (results_cell_row rfl _ _ w.heap.size 25 (flatA 3 false 0 tx) (0, 0) _ rfl (set6_heap hbx3 _ _ _ _ _ _) Tryd.underlying25 rfl size_json) rfl ?_
          exact num_end HH.out.2.2.1 HF.out.1 HF.out.2.1 HG.out HS8.out 3 0 tx (by decide) rng_zero (fun v hv => (HV.out v hv).2 (.inr HPA.out))
    | false =>
      have e5 : s4 = s5 := hs5
      subst e5
      clear hs5 K5
      have C6 := K6 w4 h4
      go_wp2_with fail
      refine C6.mono ?_
      rintro e w6 ⟨rfl, h6, g6⟩
      simp only []
      clear C6
      clear K6
      cases ex with
      | true =>
        have e8 : (goR J.digits s7).1 = s8 := hs8
        simp only [e8] at K8
        have C7 := K7 w6 h6
        go_wp2_with fail
        refine C7.mono ?_
        rintro e w7 ⟨rfl, h7, g7⟩
        simp only []
        clear C7
        have C8 := K8 w7 h7
        go_wp2_with fail
        refine C8.mono ?_
        rintro e w8 ⟨rfl, h8, g8⟩
        simp only []
        clear C8
        clear hs8 K7 K8
        have GE : (w.alloc jbox).grownBy w8 (some b) := grown_trans (grown_trans (grown_trans (grown_trans (grown_trans (grown_trans g1 g2) g3) g4) g6) g7) g8
        have hbx := box_grown HH.out.2.2.2.2.2 GE (by have := HH.out; omega)
        have c0 := h8.c0
        have c1 := h8.c1
        have hE2 : s8.i ≤ s8.s.size := h8.le
        have hz8 := h8.sz
        have HF : Hid (RIn w8 b s8 ∧ w.grownBy w8 (some b) ∧ Laid w8) := ⟨h8, grown_trans (grown_below HH.out.2.2.2.2.1 _) GE, (HH.out.2.1.below HH.out.2.2.2.2.1 (by have := HH.out; omega)).grown GE HH.out.2.2.2.1 (by have := HH.out; simp; omega)⟩
        have X := slice_mid s8.s σ.i s8.i HE.out.2.2 hE2
        rw [HI.out] at X
        clear h1 h2 h3 h4 h6 h7 h8 g1 g2 g3 g4 g6 g7 g8 GE
        obtain ⟨J0, hJ⟩ : ∃ J0 : Int, (s8.i : Int) = J0 := ⟨_, rfl⟩
        rw [hJ] at c1 X
        obtain ⟨tx, htx⟩ : ∃ tx, s8.s.extract σ.i s8.i = tx := ⟨_, rfl⟩
        rw [htx] at X
        have HX : Hid (s8.s.extract σ.i s8.i = tx ∧ tx.size ≤ 20000) := ⟨htx, by rw [← htx, ByteArray.size_extract]; omega⟩
        clear htx hJ hE2 hz8
        generalize w8 = wE at *
        go_wp2_with fail
        go_quiet (fail)
        have B1' : Below wE.heap.size wE (wE.drewN nq) := below_dN (Below.refl _ _) _
        have PI := parseInt_any tx HX.out.2 (wE.drewN nq) (HF.out.2.2.below B1' (by have := HF.out.1.lt; have := HH.out; omega))
        have hbx2 := box_below hbx B1'
        generalize wE.drewN nq = wF at *
        clear c0 c1 hbx X
        go_wp2_with fail
        refine PI.mono ?_
        rintro e wG ⟨n, E, rfl, hbG, hcase⟩
        simp only []
        have hbx3 := box_below hbx2 hbG
        have HG : Hid (Below wE.heap.size wE wG) := below_more B1' hbG
        clear PI hbx2 hbG B1'
        have HW2 : Hid (Lib.parseIntB 64 tx.data.toList = Lib.parseIntB 64 tx.data.toList) := rfl
        have HV : Hid (∀ v, (goR J.number σ).2 = some v → (∀ nn, Lib.parseIntB 64 tx.data.toList = .ok nn → tx ≠ ⟨#[45, 48]⟩ → v = .mk 2 false nn [] [] []) ∧
            ((tx = ⟨#[45, 48]⟩ ∨ ∀ nn, Lib.parseIntB 64 tx.data.toList ≠ .ok nn) → v = .mk 3 false 0 (numsOf tx) [] [])) := num_told HE.out.1 HE.out.2.1 HX.out.1 HH.out.1.ok
        have HS8 : Hid ((goR J.number σ).1 = s8) := num_state HE.out.1 HE.out.2.1
        rcases hcase with ⟨rfl, hpa⟩ | ⟨⟨tp, a, rfl⟩, hpa⟩
        · by_cases hm : tx = ⟨#[45, 48]⟩
          · have HP : Hid (tx = ⟨#[45, 48]⟩) := hm
            have hmb : (tx.toList == [45, 48]) = true := by rw [← dash_list]; exact (Lib.bytes_beq_iff tx ⟨#[45, 48]⟩).2 hm
            clear hpa hm
            obtain ⟨⟨d0, d1, d2, d3, d4, d5⟩, f0, f1, f2, f3, f4, f5⟩ := box_cells hbx3
            go_wp2
            refine bodyPost_ret (results_cell_row rfl _ _ w.heap.size 25 (flatA 3 false 0 tx) (0, 0) _ rfl (set6_heap hbx3 _ _ _ _ _ _) Tryd.underlying25 rfl size_json) rfl ?_
            exact num_end HH.out.2.2.1 HF.out.1 HF.out.2.1 HG.out HS8.out 3 0 tx (by decide) rng_zero (fun v hv => (HV.out v hv).2 (.inl HP.out))
          · have HP : Hid (tx ≠ ⟨#[45, 48]⟩) := hm
            have hmb : (tx.toList == [45, 48]) = false := by rw [← dash_list]; exact (Lib.bytes_beq_false_iff tx ⟨#[45, 48]⟩).2 hm
            have NA := Num_any n wG
            have HPA : Hid (Lib.parseIntB 64 tx.data.toList = .ok n ∧ J.Rng n) := ⟨hpa, parse_rng hpa⟩
            clear hpa hm
            go_wp2_with fail
            refine NA.mono ?_
            rintro e wH ⟨rfl, hbH⟩
            have hbx4 := box_below hbx3 hbH
            simp only []
            obtain ⟨⟨d0, d1, d2, d3, d4, d5⟩, f0, f1, f2, f3, f4, f5⟩ := box_cells hbx4
            unfold flatA jA
            go_wp2
            refine bodyPost_ret (results_cell_row rfl _ _ w.heap.size 25 (flatA 2 false n ByteArray.empty) (0, 0) _ rfl (set6_heap hbx4 _ _ _ _ _ _) Tryd.underlying25 rfl size_json) rfl ?_
            exact num_end HH.out.2.2.1 HF.out.1 HF.out.2.1 (below_more HG.out hbH) HS8.out 2 n ByteArray.empty (by decide) HPA.out.2 (fun v hv => (HV.out v hv).1 n HPA.out.1 HP.out)
        · obtain ⟨⟨d0, d1, d2, d3, d4, d5⟩, f0, f1, f2, f3, f4, f5⟩ := box_cells hbx3
          have HPA : Hid (∀ nn, Lib.parseIntB 64 tx.data.toList ≠ .ok nn) := hpa
          clear hpa
          go_wp2
          refine bodyPost_ret (results_cell_row rfl _ _ w.heap.size 25 (flatA 3 false 0 tx) (0, 0) _ rfl (set6_heap hbx3 _ _ _ _ _ _) Tryd.underlying25 rfl size_json) rfl ?_
          exact num_end HH.out.2.2.1 HF.out.1 HF.out.2.1 HG.out HS8.out 3 0 tx (by decide) rng_zero (fun v hv => (HV.out v hv).2 (.inr HPA.out))
      | false =>
        have e8 : s6 = s8 := hs8
        subst e8
        clear hs8 K7 K8
        have GE : (w.alloc jbox).grownBy w6 (some b) := grown_trans (grown_trans (grown_trans (grown_trans g1 g2) g3) g4) g6
        have hbx := box_grown HH.out.2.2.2.2.2 GE (by have := HH.out; omega)
        have c0 := h6.c0
        have c1 := h6.c1
        have hE2 : s6.i ≤ s6.s.size := h6.le
        have hz8 := h6.sz
        have HF : Hid (RIn w6 b s6 ∧ w.grownBy w6 (some b) ∧ Laid w6) := ⟨h6, grown_trans (grown_below HH.out.2.2.2.2.1 _) GE, (HH.out.2.1.below HH.out.2.2.2.2.1 (by have := HH.out; omega)).grown GE HH.out.2.2.2.1 (by have := HH.out; simp; omega)⟩
        have X := slice_mid s6.s σ.i s6.i HE.out.2.2 hE2
        rw [HI.out] at X
        clear h1 h2 h3 h4 h6 g1 g2 g3 g4 g6 GE
        obtain ⟨J0, hJ⟩ : ∃ J0 : Int, (s6.i : Int) = J0 := ⟨_, rfl⟩
        rw [hJ] at c1 X
        obtain ⟨tx, htx⟩ : ∃ tx, s6.s.extract σ.i s6.i = tx := ⟨_, rfl⟩
        rw [htx] at X
        have HX : Hid (s6.s.extract σ.i s6.i = tx ∧ tx.size ≤ 20000) := ⟨htx, by rw [← htx, ByteArray.size_extract]; omega⟩
        clear htx hJ hE2 hz8
        generalize w6 = wE at *
        go_wp2_with fail
        go_quiet (fail)
        have B1' : Below wE.heap.size wE (wE.drewN nq) := below_dN (Below.refl _ _) _
        have PI := parseInt_any tx HX.out.2 (wE.drewN nq) (HF.out.2.2.below B1' (by have := HF.out.1.lt; have := HH.out; omega))
        have hbx2 := box_below hbx B1'
        generalize wE.drewN nq = wF at *
        clear c0 c1 hbx X
        go_wp2_with fail
        refine PI.mono ?_
        rintro e wG ⟨n, E, rfl, hbG, hcase⟩
        simp only []
        have hbx3 := box_below hbx2 hbG
        have HG : Hid (Below wE.heap.size wE wG) := below_more B1' hbG
        clear PI hbx2 hbG B1'
        have HW2 : Hid (Lib.parseIntB 64 tx.data.toList = Lib.parseIntB 64 tx.data.toList) := rfl
        have HV : Hid (∀ v, (goR J.number σ).2 = some v → (∀ nn, Lib.parseIntB 64 tx.data.toList = .ok nn → tx ≠ ⟨#[45, 48]⟩ → v = .mk 2 false nn [] [] []) ∧
            ((tx = ⟨#[45, 48]⟩ ∨ ∀ nn, Lib.parseIntB 64 tx.data.toList ≠ .ok nn) → v = .mk 3 false 0 (numsOf tx) [] [])) := num_told HE.out.1 HE.out.2.1 HX.out.1 HH.out.1.ok
        have HS8 : Hid ((goR J.number σ).1 = s6) := num_state HE.out.1 HE.out.2.1
        rcases hcase with ⟨rfl, hpa⟩ | ⟨⟨tp, a, rfl⟩, hpa⟩
        · by_cases hm : tx = ⟨#[45, 48]⟩
          · have HP : Hid (tx = ⟨#[45, 48]⟩) := hm
            have hmb : (tx.toList == [45, 48]) = true := by rw [← dash_list]; exact (Lib.bytes_beq_iff tx ⟨#[45, 48]⟩).2 hm
            clear hpa hm
            obtain ⟨⟨d0, d1, d2, d3, d4, d5⟩, f0, f1, f2, f3, f4, f5⟩ := box_cells hbx3
            go_wp2
            refine bodyPost_ret (results_cell_row rfl _ _ w.heap.size 25 (flatA 3 false 0 tx) (0, 0) _ rfl (set6_heap hbx3 _ _ _ _ _ _) Tryd.underlying25 rfl size_json) rfl ?_
            exact num_end HH.out.2.2.1 HF.out.1 HF.out.2.1 HG.out HS8.out 3 0 tx (by decide) rng_zero (fun v hv => (HV.out v hv).2 (.inl HP.out))
          · have HP : Hid (tx ≠ ⟨#[45, 48]⟩) := hm
            have hmb : (tx.toList == [45, 48]) = false := by rw [← dash_list]; exact (Lib.bytes_beq_false_iff tx ⟨#[45, 48]⟩).2 hm
            have NA := Num_any n wG
            have HPA : Hid (Lib.parseIntB 64 tx.data.toList = .ok n ∧ J.Rng n) := ⟨hpa, parse_rng hpa⟩
            clear hpa hm
            go_wp2_with fail
            refine NA.mono ?_
            rintro e wH ⟨rfl, hbH⟩
            have hbx4 := box_below hbx3 hbH
            simp only []
            obtain ⟨⟨d0, d1, d2, d3, d4, d5⟩, f0, f1, f2, f3, f4, f5⟩ := box_cells hbx4
            unfold flatA jA
            go_wp2
            refine bodyPost_ret (results_cell_row rfl _ _ w.heap.size 25 (flatA 2 false n ByteArray.empty) (0, 0) _ rfl (set6_heap hbx4 _ _ _ _ _ _) Tryd.underlying25 rfl size_json) rfl ?_
            exact num_end HH.out.2.2.1 HF.out.1 HF.out.2.1 (below_more HG.out hbH) HS8.out 2 n ByteArray.empty (by decide) HPA.out.2 (fun v hv => (HV.out v hv).1 n HPA.out.1 HP.out)
        · obtain ⟨⟨d0, d1, d2, d3, d4, d5⟩, f0, f1, f2, f3, f4, f5⟩ := box_cells hbx3
          have HPA : Hid (∀ nn, Lib.parseIntB 64 tx.data.toList ≠ .ok nn) := hpa
          clear hpa
          go_wp2
          refine bodyPost_ret (results_cell_row rfl _ _ w.heap.size 25 (flatA 3 false 0 tx) (0, 0) _ rfl (set6_heap hbx3 _ _ _ _ _ _) Tryd.underlying25 rfl size_json) rfl ?_
          exact num_end HH.out.2.2.1 HF.out.1 HF.out.2.1 HG.out HS8.out 3 0 tx (by decide) rng_zero (fun v hv => (HV.out v hv).2 (.inr HPA.out))
end Go.Proofs.YtblnoekogdpolaaDoor
