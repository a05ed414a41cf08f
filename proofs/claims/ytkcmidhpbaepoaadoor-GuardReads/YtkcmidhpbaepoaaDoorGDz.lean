/-
  The document's Deep and Read. Written by tools/gen_gdz.py.
-/
import Derived.Test.YtkcmidhpbaepoaaDoorGDx
namespace Go.Proofs.YtkcmidhpbaepoaaDoor.G
open Go.RowKit Go.WideShapes Go.Joins

/-- Between the kids. -/
inductive DdI (ds : List Nat) (N : Nat) (W : World) (m t : Value) (wr : World) : Prop where
  | intro (k : Nat) (hk : k ≤ N) (ht : t = .int .i64 (k : Int)) (hm : m = .int .i64 ((mx (ds.take k) : Nat) : Int)) (hx : mx (ds.take k) ≤ 16383) (hb : Below W.heap.size W wr)
set_option maxHeartbeats 4000000 in
set_option maxRecDepth 8000 in
theorem deep_walk (k : Nat) (n : Int) (t : ByteArray) (q : Option Addr) (N c : Nat) (F : Nat → Array Value) (ds : List Nat) (Z : Nat → Prop) (w : World) (hl : ds.length = N) (hN : N ≤ 2)
    (hI : KsIn w Z q F N) (hform : ∀ i, i < N → ∃ k n t q l c, F i = gA k n t q l c)
    (hd : ∀ (i d : Nat), ds[i]? = some d → 1 ≤ d ∧ d ≤ 16383 ∧ ∀ w', Below w.heap.size w w' → Calls Tryd.prog 12 #[.agg (F i)] w' fun e w'' => e = .returned (.int .i64 (d : Int)) ∧ Below w'.heap.size w' w'') :
    Calls Tryd.prog 12 #[.agg (gA k n t q N c)] w fun e w' => e = .returned (.int .i64 ((mx ds + 1 : Nat) : Int)) ∧ Below w.heap.size w w' := by
  have b1 := below_new w (.cells (gA k n t q N c) 24)
  have n1 := _root_.Go.heap_alloc_new w (.cells (gA k n t q N c) 24)
  have HX : Hid (∀ w', Below (w.alloc (.cells (gA k n t q N c) 24)).heap.size (w.alloc (.cells (gA k n t q N c) 24)) w' → w'.heap[w.heap.size]? = some (.cells (gA k n t q N c) 24 (0, 0)) ∧ Below w.heap.size w w') := fun w' hb =>
    ⟨box_below n1 hb, below_more b1 hb⟩
  have HH : Hid (KsIn w Z q F N ∧ (∀ i, i < N → ∃ k n t q l c, F i = gA k n t q l c) ∧ ds.length = N ∧ ∀ (i d : Nat), ds[i]? = some d → 1 ≤ d ∧ d ≤ 16383 ∧ ∀ w', Below w.heap.size w w' → Calls Tryd.prog 12 #[.agg (F i)] w' fun e w'' => e = .returned (.int .i64 (d : Int)) ∧ Below w'.heap.size w' w'') :=
    ⟨hI, hform, hl, hd⟩
  have hmx : (N : Int) ≤ 2 := by omega
  unfold gA at HX ⊢
  clear b1 n1 hl hN hI hform hd
  go_enter Tryd.func12, Tryd.ntmps12
  go_wp2_with fail
  obtain ⟨W1, hW1⟩ : ∃ W1, w.alloc (.cells #[.int .u8 (k : Int), .int .i64 n, .string t, .slice q N c] 24) = W1 := ⟨_, rfl⟩
  rw [hW1] at HX ⊢
  clear hW1
  go_loopw [3, 4] (fun m t wr => DdI ds N W1 m t wr) (fun _ t _ => N - (intOf t).toNat)
  case atStart => exact ⟨0, Nat.zero_le _, rfl, rfl, Nat.zero_le _, Below.refl _ _⟩
  case round =>
    obtain ⟨i, hi, rfl, rfl, hM, hb⟩ := hrel
    obtain ⟨G1, G2⟩ := HX.out wr hb
    obtain ⟨⟨c0, c1, c2, c3⟩, _, _, _, _⟩ := row4_cells G1
    have HB : Hid (Below W1.heap.size W1 wr ∧ mx (ds.take i) ≤ 16383 ∧ Below w.heap.size w wr) := ⟨hb, hM, G2⟩
    by_cases hlt : i < N
    · have hiI : (i : Int) < (N : Int) := by omega
      have hi0 : (0 : Int) ≤ (i : Int) := by omega
      obtain ⟨d, hds⟩ : ∃ d, ds[i]? = some d := ⟨_, List.getElem?_eq_getElem (by rw [HH.out.2.2.1]; exact hlt)⟩
      obtain ⟨ib, io, rfl, hz, hcs⟩ := HH.out.1 (by omega)
      have hcells := hcs i hlt
      obtain ⟨k', n', t', q', l', c', hF⟩ := HH.out.2.1 i hlt
      obtain ⟨hd1, hd2, HC⟩ := HH.out.2.2.2 i d hds
      rw [hF] at hcells HC
      obtain ⟨z0, z1, z2, z3⟩ := (gat_of hcells).below G2
      have hT := mx_take hds
      have HE : Hid (mx (ds.take (i + 1)) = max (mx (ds.take i)) d ∧ i < N ∧ 1 ≤ d ∧ d ≤ 16383) := ⟨hT, hlt, hd1, hd2⟩
      generalize mx (ds.take i) = M at HE HB hM ⊢
      have FX := HC wr G2
      unfold gA at FX
      have hM1 : (M : Int) ≤ 16383 := by omega
      have hd3 : (d : Int) ≤ 16383 := by omega
      clear hcells hF hT hb hM HC hds hi hd1 hd2 hcs hz G1 G2
      go_wp2_with (first | (go_at_call 12; refine FX.mono ?_; rintro e w3 ⟨rfl, hb3⟩) | fail)
      go_roundw
      case rel =>
        have H := HE.out
        have h9 := HB.out.2.1
        have h8 : max (M : Int) (d : Int) = ((max M d : Nat) : Int) := by omega
        exact ⟨i + 1, by omega, by go_num, by rw [H.1, h8], by omega, below_more HB.out.1 hb3⟩
      case measure => have H := HE.out; simp [intOf]; omega
    · have hiN : i = N := by omega
      subst hiN
      have HR : Hid (mx (ds.take i) = mx ds) := by
        show _ = _
        rw [← HH.out.2.2.1, List.take_length]
      have hM1 : ((mx (ds.take i) : Nat) : Int) ≤ 16383 := by omega
      clear hb hi hlt hM G1 G2
      go_wp2_with fail
      go_ret
      exact ⟨by rw [← HR.out]; rfl, HB.out.2.2⟩
theorem dDeep_any {g : GB} {d : Nat} (h : Wf g d) : ∀ (A : Array Value) (Z : Nat → Prop) (w : World), d ≤ 16384 → GIn w Z A g → Calls Tryd.prog 12 #[.agg A] w fun e w' => e = .returned (.int .i64 (d : Int)) ∧ Below w.heap.size w w' := by
  have none : ∀ {w : World} {Z : Nat → Prop} (k : Nat) (n : Int) (t : ByteArray) (q : Option Addr) (c : Nat) (F : Nat → Array Value), KsIn w Z q F 0 → Calls Tryd.prog 12 #[.agg (gA k n t q 0 c)] w fun e w' => e = .returned (.int .i64 ((1 : Nat) : Int)) ∧ Below w.heap.size w w' := by
    intro w Z k n t q c F hK
    exact deep_walk k n t q 0 c F [] Z w rfl (by omega) hK (fun i hi => absurd hi (Nat.not_lt_zero _)) (fun i d hd => by simp at hd)
  induction h with
  | leaf k hk =>
    intro A Z w _ hG
    unfold leaf at hG
    cases hG with
    | mk k n t gs q c F _ _ hc hm hq hK hR => exact none k 0 ByteArray.empty q c F hK
  | num n hn =>
    intro A Z w _ hG
    cases hG with
    | mk k n t gs q c F _ _ hc hm hq hK hR => exact none 3 _ ByteArray.empty q c F hK
  | text t ht hz =>
    intro A Z w _ hG
    unfold named at hG
    cases hG with
    | mk k n t' gs q c F _ _ hc hm hq hK hR => exact none 4 0 (strOf t) q c F hK
  | name k t hk ht =>
    intro A Z w _ hG
    unfold named at hG
    cases hG with
    | mk k n t' gs q c F _ _ hc hm hq hK hR => exact none k 0 (strOf t) q c F hK
  | @one a d ha ih =>
    intro A Z w hd hG
    have hp := ha.pos
    unfold one at hG
    cases hG with
    | mk k n t' gs q c F _ _ hc hm hq hK hR =>
      have h0 := hR 0 a rfl
      have D := deep_walk 8 0 ByteArray.empty q 1 c F [d] Z w rfl (by omega) hK (fun i hi => by
        obtain rfl : i = 0 := by omega
        exact gin_form h0) (fun i e he => by
        match i, he with
        | 0, he =>
          simp at he
          subst he
          exact ⟨hp, by omega, fun w' hb => ih (F 0) Z w' (by omega) (h0.bel hb)⟩
        | i + 1, he => simp at he)
      rw [show mx [d] = d by simp [mx]] at D
      exact D
  | @pair k a b d e hk1 hk2 ha hb iha ihb =>
    intro A Z w hd hG
    have hpa := ha.pos
    have hpb := hb.pos
    unfold pair at hG
    cases hG with
    | mk k n t' gs q c F _ _ hc hm hq hK hR =>
      have h0 := hR 0 a rfl
      have h1 := hR 1 b rfl
      have D := deep_walk k 0 ByteArray.empty q 2 c F [d, e] Z w rfl (by omega) hK (fun i hi => by
        match i, hi with
        | 0, _ => exact gin_form h0
        | 1, _ => exact gin_form h1) (fun i x he => by
        match i, he with
        | 0, he =>
          simp at he
          subst he
          exact ⟨hpa, by omega, fun w' hb' => iha (F 0) Z w' (by omega) (h0.bel hb')⟩
        | 1, he =>
          simp at he
          subst he
          exact ⟨hpb, by omega, fun w' hb' => ihb (F 1) Z w' (by omega) (h1.bel hb')⟩
        | i + 2, he => simp at he)
      rw [show mx [d, e] = max d e by simp [mx]] at D
      exact D
theorem dwh_of {S : List Nat} {g : GB} {σ : St} (h : DFin S (.lv .ors) (norm S (skip S 0)) g σ) : (∃ p, Wh S p none ∧ (σ = .dead p ∨ σ = .live p ∧ tkAt S p ≠ .fin)) ∨ (∃ p, Wh S p (some g) ∧ σ = .live p ∧ tkAt S p = .fin) := by
  obtain ⟨p', r, hR, hr⟩ := h.norm (s := .lv .ors) trivial
  cases r with
  | none => exact .inl ⟨p', .no hR, .inl hr⟩
  | some v =>
    obtain ⟨rfl, rfl, _⟩ := hr
    by_cases hf : tkAt S p' = .fin
    · exact .inr ⟨p', .ok hR hf, norm_live (by rw [hf]; simp), hf⟩
    · refine .inl ⟨p', .more hR hf, ?_⟩
      rcases norm_cases S p' with ⟨_, he⟩ | ⟨_, he⟩
      · exact .inl he
      · exact .inr ⟨he, hf⟩
theorem now_end {S : ByteArray} {p : Nat} (h0 : tkAt (numsOf S) p ≠ .non) : nowB S p = ⟨#[]⟩ ↔ tkAt (numsOf S) p = .fin := by
  have hn := tok_now ((numsOf S).drop p)
  rw [← nowB_nums] at hn
  have key : nowB S p = ⟨#[]⟩ ↔ (numsOf (nowB S p)).length = 0 := by
    constructor
    · intro e; rw [e]; rfl
    · intro e
      apply numsOf_inj
      rw [List.length_eq_zero_iff.1 e]; rfl
  rw [key]
  change NowIs _ (tkAt (numsOf S) p) at hn
  cases ht : tkAt (numsOf S) p with
  | fin => rw [ht] at hn; have hn : numsOf (nowB S p) = [] := hn; simp [hn]
  | non => exact absurd ht h0
  | sg c => rw [ht] at hn; simp [hn.1]
  | wd v =>
    rw [ht] at hn
    rw [hn.1]
    rcases wd_one hn.2 with rfl | rfl | rfl | rfl | rfl | rfl | rfl <;> simp [tkAnd, tkOr, tkNot, tkTrue, tkFalse, tkOpen, tkDone]
  | nm v =>
    rw [ht] at hn
    have := hn.2.pos
    rw [hn.1]
    simp only [reduceCtorEq, iff_false]
    omega
  | nu k =>
    rw [ht] at hn
    obtain ⟨⟨c, r, h, _⟩, _⟩ := hn
    simp [h]
  | tx t => rw [ht] at hn; have hn : numsOf (nowB S p) = 39 :: (t ++ [39]) := hn; simp [hn]
def drdr (S : ByteArray) : Obj := .cells #[.string S, .int .i64 0, .int .i64 0, .string ⟨#[]⟩, .bool false, .int .i64 0] 40
/-- behind the text -/
structure DrW (S : ByteArray) (w : World) (B : Nat) (A : Array Value) (g : GB) (σ : St) (w5 : World) : Prop where
  z : w5.heap[w.heap.size]? = some (.cells #[.int .u8 0, .int .i64 0, .string ⟨#[]⟩, .slice none 0 0] 24 (0, 0))
  bx : w5.heap[B]? = some (.cells A 24 (0, 0))
  hb : w.heap.size + 1 < B
  P : DIn w5 (w.heap.size + 1) S σ
  G : GIn w5 (fun i => w.heap.size + 1 < i ∧ i ≠ B) A g
  bel : Below w.heap.size w w5
theorem DrW.below {S : ByteArray} {w : World} {B : Nat} {A : Array Value} {g : GB} {σ : St} {w5 w6 : World} (h : DrW S w B A g σ w5) (hb : Below w5.heap.size w5 w6) : DrW S w B A g σ w6 :=
  ⟨box_below h.z hb, box_below h.bx hb, h.hb, h.P.below hb, h.G.bel hb, h.bel.trans (hb.mono h.bel.size)⟩
theorem DrW.grown {S : ByteArray} {w : World} {B : Nat} {A : Array Value} {g : GB} {σ σ' : St} {w5 w6 : World} (h : DrW S w B A g σ w5) (hP : DIn w6 (w.heap.size + 1) S σ') (hg : w5.grownBy w6 (some (w.heap.size + 1))) : DrW S w B A g σ' w6 :=
  ⟨box_at hg h.z (fun e => by have := Option.some.inj e; omega), box_at hg h.bx (fun e => by have := Option.some.inj e; have := h.hb; omega), h.hb, hP, h.G.grown hg (fun i hi => by omega), below_of_grown h.bel hg (by omega)⟩
set_option maxHeartbeats 2000000 in
set_option maxRecDepth 8000 in
theorem dRead_any (S : ByteArray) (w : World) :
    Calls Tryd.prog 5 #[.string S] w fun e w' => ReadP S w e w' := by
  by_cases hs : 16384 < S.size
  · have hq : (16384 : Int) < (S.size : Int) := by omega
    have HS : Hid (16384 < (numsOf S).length) := by show _ < _; rw [numsOf_len]; exact hs
    clear hs
    have hn := _root_.Go.heap_alloc_new w (.cells #[.int .u8 0, .int .i64 0, .string ⟨#[]⟩, .slice none 0 0] 24)
    obtain ⟨⟨d0, d1, d2, d3⟩, f0, f1, f2, f3⟩ := row4_cells hn
    have HN : Hid ((w.alloc (.cells #[.int .u8 0, .int .i64 0, .string ⟨#[]⟩, .slice none 0 0] 24)).heap[w.heap.size]? = _) := hn
    clear hn
    go_enter Tryd.func5, Tryd.ntmps5
    go_wp2_with fail
    refine bodyPost_ret (results_cell_row3 rfl _ _ _ w.heap.size 24 gz (0, 0) _ rfl HN.out rfl Tryd.underlying24 size_guard) rfl ?_
    exact ⟨gz, zeroG, 0, 3, rfl, gin_zero _ _, below_new w _, .long HS.out⟩
  · have hq : ¬ (16384 : Int) < (S.size : Int) := by omega
    have HS : Hid (S.size ≤ 16384 ∧ (numsOf S).length ≤ 16384) := by show _ ∧ _; rw [numsOf_len]; omega
    have n1 := _root_.Go.heap_alloc_new w (.cells #[.int .u8 0, .int .i64 0, .string ⟨#[]⟩, .slice none 0 0] 24)
    have b1 := below_new w (.cells #[.int .u8 0, .int .i64 0, .string ⟨#[]⟩, .slice none 0 0] 24)
    have b2 := below_new (w.alloc (.cells #[.int .u8 0, .int .i64 0, .string ⟨#[]⟩, .slice none 0 0] 24)) (drdr S)
    have n2 := _root_.Go.heap_alloc_new (w.alloc (.cells #[.int .u8 0, .int .i64 0, .string ⟨#[]⟩, .slice none 0 0] 24)) (drdr S)
    rw [World.size_alloc] at n2
    have SP := step_any S 0 (w.heap.size + 1) (Nat.zero_le _) HS.out.1 0 ⟨#[]⟩ _ n2
    have HH : Hid (Below w.heap.size w ((w.alloc (.cells #[.int .u8 0, .int .i64 0, .string ⟨#[]⟩, .slice none 0 0] 24)).alloc (drdr S)) ∧ ((w.alloc (.cells #[.int .u8 0, .int .i64 0, .string ⟨#[]⟩, .slice none 0 0] 24)).alloc (drdr S)).heap[w.heap.size]? = some (.cells #[.int .u8 0, .int .i64 0, .string ⟨#[]⟩, .slice none 0 0] 24 (0, 0)) ∧ ((w.alloc (.cells #[.int .u8 0, .int .i64 0, .string ⟨#[]⟩, .slice none 0 0] 24)).alloc (drdr S)).heap.size = w.heap.size + 2) := ⟨below_more b1 b2, box_below n1 b2, by simp only [World.size_alloc]⟩
    clear hs n1 b1 b2 n2
    unfold drdr at SP HH
    unfold rp at SP
    go_enter Tryd.func5, Tryd.ntmps5
    go_wp2_with fail
    refine SP.mono ?_
    clear SP
    rintro e w3 ⟨rfl, hD3, hg3⟩
    have CX := (dguard_all S (w.heap.size + 1) S.size).1 _ w3 (left_le S _) hD3
    have H3 : Hid (_ ∧ w.heap.size + 2 ≤ w3.heap.size) := ⟨hg3, by have := hg3.size; rw [HH.out.2.2] at this; exact this⟩
    unfold rp at CX
    clear hD3 hg3
    simp only []
    go_wp2_with fail
    refine CX.mono ?_
    clear CX
    rintro e w4 ⟨ka, na, ta, qa, la, ca, g, σ1, rfl, hG, hP, hg, hF⟩
    have hz4 := hg.size
    have hg04 := grown_trans H3.out.1 hg
    have b5 := below_new w4 (.cells (gA ka na ta qa la ca) 24)
    have H4 : Hid (DrW S w w4.heap.size (gA ka na ta qa la ca) g σ1 (w4.alloc (.cells (gA ka na ta qa la ca) 24))) := by
      refine ⟨box_below (box_at hg04 HH.out.2.1 (fun e => by have := Option.some.inj e; omega)) b5, _root_.Go.heap_alloc_new _ _, by have := H3.out.2; omega, hP.below b5, (hG.lt.bel b5).wk fun i hi => ?_, (below_of_grown HH.out.1 hg04 (by omega)).trans (b5.mono (by have := H3.out.2; omega))⟩
      have := H3.out.2
      omega
    have HW : Hid _ := dwh_of hF
    clear hG hP hg b5 hz4 HH hF hg04 H3
    unfold gA at H4
    simp only []
    unfold gA
    go_upto_region 6 with fail
    obtain ⟨B, hB⟩ : ∃ B, w4.heap.size = B := ⟨_, rfl⟩
    rw [hB] at H4
    simp only [hB]
    refine wp_at (DrW S w B _ g σ1) H4.out (fun w5 H5 => ?_)
    have HR : Hid (DrW S w B (gA ka na ta qa la ca) g σ1 w5) := H5
    clear H4 hB
    rcases HW.out with ⟨p, hwh, hσ⟩ | ⟨p, hwh, hσ, hfin⟩
    · have HWH : Hid (Wh (numsOf S) p none) := hwh
      clear hwh HW
      rcases hσ with rfl | ⟨rfl, hnf⟩
      · obtain ⟨i, a, hX⟩ := H5.P.ded p rfl
        obtain ⟨⟨c0, c1, c2, c3, c4, c5⟩, _, _, _, _, _⟩ := drow_cells hX
        obtain ⟨⟨x0, x1, x2, x3⟩, f0, f1, f2, f3⟩ := row4_cells H5.z
        clear H5 hX
        go_wp2_with fail
        go_region
        go_wp2_with fail
        have h9 : (set4 w5 w.heap.size (.int .u8 0) (.int .i64 0) (.string ⟨#[]⟩) (.slice none 0 0)).drew.heap[w.heap.size]? = some (.cells gz 24 (0, 0)) := by rw [drew_heap]; exact set4_heap HR.out.z _ _ _ _
        have b9 := (below_set4 (Nat.le_refl _) HR.out.bel (.int .u8 0) (.int .i64 0) (.string ⟨#[]⟩) (.slice none 0 0)).drew
        refine bodyPost_ret (results_cell_row3 rfl _ _ _ w.heap.size 24 gz (0, 0) _ rfl h9 rfl Tryd.underlying24 size_guard) rfl ?_
        exact ⟨gz, zeroG, p, 170, rfl, gin_zero _ _, b9, .bad HS.out.2 HWH.out⟩
      · obtain ⟨hnn, hX⟩ := H5.P.liv p rfl
        obtain ⟨⟨c0, c1, c2, c3, c4, c5⟩, _, _, _, _, _⟩ := drow_cells hX
        have e1 : ((nowB S p).toList == []) = false := lit_no (K := ⟨#[]⟩) rfl (fun e => hnf ((now_end hnn).1 e))
        have FL := fail_live S p H5.P.le HS.out.1 (w.heap.size + 1) w5 _ _ _ _ hX
        unfold rp at FL
        generalize nowB S p = U at e1 c3
        clear H5 hX hnn hnf
        go_wp2_with fail
        refine FL.mono ?_
        rintro e w6 ⟨rfl, hD6, hg6⟩
        have H6 := HR.out.grown hD6 hg6
        have HR6 : Hid (DrW S w B (gA ka na ta qa la ca) g (.dead p) w6) := H6
        clear FL hD6 hg6 c0 c1 c2 c3 c4 c5 e1
        obtain ⟨i, a, hX⟩ := H6.P.ded p rfl
        obtain ⟨⟨c0, c1, c2, c3, c4, c5⟩, _, _, _, _, _⟩ := drow_cells hX
        obtain ⟨⟨x0, x1, x2, x3⟩, f0, f1, f2, f3⟩ := row4_cells H6.z
        clear H6 hX
        simp only []
        go_wp2_with fail
        go_region
        go_wp2_with fail
        have h9 : (set4 w6 w.heap.size (.int .u8 0) (.int .i64 0) (.string ⟨#[]⟩) (.slice none 0 0)).drew.heap[w.heap.size]? = some (.cells gz 24 (0, 0)) := by rw [drew_heap]; exact set4_heap HR6.out.z _ _ _ _
        have b9 := (below_set4 (Nat.le_refl _) HR6.out.bel (.int .u8 0) (.int .i64 0) (.string ⟨#[]⟩) (.slice none 0 0)).drew
        refine bodyPost_ret (results_cell_row3 rfl _ _ _ w.heap.size 24 gz (0, 0) _ rfl h9 rfl Tryd.underlying24 size_guard) rfl ?_
        exact ⟨gz, zeroG, p, 170, rfl, gin_zero _ _, b9, .bad HS.out.2 HWH.out⟩
    · subst hσ
      obtain ⟨hnn, hX⟩ := H5.P.liv p rfl
      rw [(now_end hnn).2 hfin] at hX
      obtain ⟨⟨c0, c1, c2, c3, c4, c5⟩, _, _, _, _, _⟩ := drow_cells hX
      obtain ⟨d, hd, hdl⟩ := (Wh_wf HS.out.2 hwh).2 g rfl
      have DP := dDeep_any hd _ _ w5 (by have := HS.out.2; omega) HR.out.G
      have HWH : Hid (Wh (numsOf S) p (some g) ∧ g.dp = d) := ⟨hwh, hd.dp⟩
      have hdI : (d : Int) ≤ 16384 := by have := HS.out.2; omega
      obtain ⟨⟨y0, y1, y2, y3⟩, _, _, _, _⟩ := row4_cells H5.bx
      unfold gA at DP
      clear H5 hX hwh HW hd hdl hnn hfin
      go_wp2_with fail
      refine DP.mono ?_
      rintro e w6 ⟨rfl, hb6⟩
      have H6 := HR.out.below hb6
      have HR6 : Hid (DrW S w B (gA ka na ta qa la ca) g (.live p) w6) := H6
      clear DP y0 y1 y2 y3 c0 c1 c2 c3 c4 c5 HR hb6
      obtain ⟨⟨x0, x1, x2, x3⟩, f0, f1, f2, f3⟩ := row4_cells H6.z
      obtain ⟨⟨y0, y1, y2, y3⟩, _, _, _, _⟩ := row4_cells H6.bx
      clear H6
      simp only []
      by_cases h32 : 32 < d
      · have q1 : (32 : Int) < (d : Int) := by omega
        have HD : Hid (32 < g.dp) := by show 32 < _; rw [HWH.out.2]; exact h32
        clear h32
        go_wp2_with fail
        refine bodyPost_ret (results_cell_row3 rfl _ _ _ w.heap.size 24 gz (0, 0) _ rfl (set4_heap HR6.out.z _ _ _ _) rfl Tryd.underlying24 size_guard) rfl ?_
        exact ⟨gz, zeroG, 0, 161, rfl, gin_zero _ _, below_set4 (Nat.le_refl _) HR6.out.bel _ _ _ _, .deep HS.out.2 HWH.out.1 HD.out⟩
      · have q1 : ¬ (32 : Int) < (d : Int) := by omega
        have HD : Hid (g.dp ≤ 32) := by show _ ≤ 32; rw [HWH.out.2]; omega
        clear h32
        go_wp2_with fail
        refine bodyPost_ret (results_cell_row3 rfl _ _ _ w.heap.size 24 (gA ka na ta qa la ca) (0, 0) _ rfl (set4_heap HR6.out.z _ _ _ _) rfl Tryd.underlying24 size_guard) rfl ?_
        exact ⟨gA ka na ta qa la ca, g, 0, 0, rfl, (HR6.out.G.grown (set4_grown _ _ _ _ _ _) (fun i hi => by omega)).wk (fun i hi => by omega), below_set4 (Nat.le_refl _) HR6.out.bel _ _ _ _, .ok HS.out.2 HWH.out.1 HD.out⟩
end Go.Proofs.YtkcmidhpbaepoaaDoor.G
