/-
  The program's depth of what is well-formed.
-/
import Derived.Test.YtkcmidhpbaepoaaDoorGDp
namespace Go.Proofs.YtkcmidhpbaepoaaDoor.G
open Go.RowKit Go.WideShapes Go.Joins

theorem cnt_all {f : Nat → Bool} : ∀ {l : List Nat}, cnt f l = l.length → ∀ c ∈ l, f c = true
  | [], _, c, h => by cases h
  | a :: r, h, c, hc => by
    have hle := cnt_le f r
    simp only [cnt, List.length_cons] at h
    split at h
    · rename_i ha
      rcases List.mem_cons.1 hc with rfl | hc
      · exact ha
      · exact cnt_all (by omega) c hc
    · omega
theorem sm_lt {c : Nat} (h : isSm c = true) : c < 256 := by
  unfold isSm at h
  simp only [Bool.and_eq_true, decide_eq_true_eq] at h
  omega
theorem lt_lt {c : Nat} (h : isLt c = true) : c < 256 := by
  unfold isLt isSm isDg at h
  simp only [Bool.or_eq_true, Bool.and_eq_true, decide_eq_true_eq] at h
  omega
theorem ch_lt {c : Nat} (h : isCh c = true) : c < 256 := by
  unfold isCh at h
  simp only [Bool.and_eq_true, decide_eq_true_eq] at h
  omega
theorem nm_nums {w : List Nat} (h : NmOk w) : numsOf (strOf w) = w := by
  refine nums_strOf fun c hc => ?_
  have hw := h.word
  cases w with
  | nil => cases hc
  | cons a r =>
    simp only [wordN, List.length_cons] at hw
    split at hw
    · rename_i ha
      rcases List.mem_cons.1 hc with rfl | hc
      · exact sm_lt ha
      · exact lt_lt (cnt_all (by omega) c hc)
    · omega
theorem tx_nums {t : List Nat} (h : cnt isCh t = t.length) : numsOf (strOf t) = t := nums_strOf fun c hc => ch_lt (cnt_all h c hc)
/-- the deepest -/
def mx (l : List Nat) : Nat := l.foldl max 0
theorem mx_take {l : List Nat} {k d : Nat} (h : l[k]? = some d) : mx (l.take (k + 1)) = max (mx (l.take k)) d := by
  unfold mx
  rw [List.take_add_one, h]
  simp [List.foldl_append]
/-- Four cells of one guard within a row. -/
structure GAt (w : World) (b o k : Nat) (n : Int) (t : ByteArray) (v : Value) : Prop where
  c0 : w.cell? ⟨b, o, none⟩ = some (.int .u8 (k : Int))
  c1 : w.cell? ⟨b, o + 1, none⟩ = some (.int .i64 n)
  c2 : w.cell? ⟨b, o + 2, none⟩ = some (.string t)
  c3 : w.cell? ⟨b, o + 3, none⟩ = some v
theorem gat_of {w : World} {b o k : Nat} {n : Int} {t : ByteArray} {q : Option Addr} {l c : Nat} (h : ∀ j, j < 4 → w.cell? ⟨b, o + j, none⟩ = (gA k n t q l c)[j]?) : GAt w b o k n t (.slice q l c) :=
  ⟨h 0 (by omega), h 1 (by omega), h 2 (by omega), h 3 (by omega)⟩
theorem GAt.below {w w' : World} {b o k : Nat} {n : Int} {t : ByteArray} {v : Value} (h : GAt w b o k n t v) (hb : Below w.heap.size w w') : GAt w' b o k n t v :=
  ⟨below_cell h.c0 hb, below_cell h.c1 hb, below_cell h.c2 hb, below_cell h.c3 hb⟩
/-- Between the kids. -/
inductive DpI (ds : List Nat) (N : Nat) (w : World) (m t : Value) (wr : World) : Prop where
  | intro (k : Nat) (hk : k ≤ N) (ht : t = .int .i64 (k : Int)) (hm : m = .int .i64 ((mx (ds.take k) : Nat) : Int)) (hx : mx (ds.take k) ≤ 16383) (hb : Below w.heap.size w wr)
set_option maxHeartbeats 4000000 in
set_option maxRecDepth 8000 in
theorem depth_walk (k : Nat) (n : Int) (t : ByteArray) (q : Option Addr) (N c : Nat) (F : Nat → Array Value) (ds : List Nat) (Z : Nat → Prop) (w : World) (hl : ds.length = N) (hN : N ≤ 2)
    (hI : KsIn w Z q F N) (hform : ∀ i, i < N → ∃ k n t q l c, F i = gA k n t q l c)
    (hf : ∀ w', Calls Tryd.prog 16 #[.agg (gA k n t q N c)] w' fun e w'' => e = .returned (.bool true) ∧ Below w'.heap.size w' w'')
    (hd : ∀ (i d : Nat), ds[i]? = some d → 1 ≤ d ∧ d ≤ 16383 ∧ ∀ w', Below w.heap.size w w' → Calls Tryd.prog 8 #[.agg (F i)] w' fun e w'' => e = .returned (.int .i64 (d : Int)) ∧ Below w'.heap.size w' w'') :
    Calls Tryd.prog 8 #[.agg (gA k n t q N c)] w fun e w' => e = .returned (.int .i64 ((mx ds + 1 : Nat) : Int)) ∧ Below w.heap.size w w' := by
  have b1 := below_new w (.cells (gA k n t q N c) 24)
  have n1 := _root_.Go.heap_alloc_new w (.cells (gA k n t q N c) 24)
  have HF := hf (w.alloc (.cells (gA k n t q N c) 24))
  have HX : Hid (∀ w', Below (w.alloc (.cells (gA k n t q N c) 24)).heap.size (w.alloc (.cells (gA k n t q N c) 24)) w' → w'.heap[w.heap.size]? = some (.cells (gA k n t q N c) 24 (0, 0)) ∧ Below w.heap.size w w') := fun w' hb =>
    ⟨box_below n1 hb, below_more b1 hb⟩
  have HH : Hid (KsIn w Z q F N ∧ (∀ i, i < N → ∃ k n t q l c, F i = gA k n t q l c) ∧ ds.length = N ∧ ∀ (i d : Nat), ds[i]? = some d → 1 ≤ d ∧ d ≤ 16383 ∧ ∀ w', Below w.heap.size w w' → Calls Tryd.prog 8 #[.agg (F i)] w' fun e w'' => e = .returned (.int .i64 (d : Int)) ∧ Below w'.heap.size w' w'') :=
    ⟨hI, hform, hl, hd⟩
  have hmx : (N : Int) ≤ 2 := by omega
  unfold gA at n1 HF HX ⊢
  obtain ⟨⟨c0, c1, c2, c3⟩, f0, f1, f2, f3⟩ := row4_cells n1
  clear b1 n1 hl hN hI hform hf hd
  go_enter Tryd.func8, Tryd.ntmps8
  go_wp2_with fail
  refine HF.mono ?_
  rintro e w2 ⟨rfl, hb2⟩
  obtain ⟨n2, B2⟩ := HX.out w2 hb2
  clear HF HX c0 c1 c2 c3 f0 f1 f2 f3 hb2
  obtain ⟨⟨c0, c1, c2, c3⟩, f0, f1, f2, f3⟩ := row4_cells n2
  have HB2 : Hid (Below w.heap.size w w2) := B2
  clear B2 n2
  simp only []
  go_wp2_with fail
  clear c0 c1 c2 c3 f0 f1 f2 f3
  go_loopw [3, 13] (fun m t wr => DpI ds N w m t wr) (fun _ t _ => N - (intOf t).toNat)
  case atStart => exact ⟨0, Nat.zero_le _, rfl, rfl, Nat.zero_le _, HB2.out⟩
  case round =>
    clear HB2
    obtain ⟨i, hi, rfl, rfl, hM, hb⟩ := hrel
    have HB : Hid (Below w.heap.size w wr ∧ mx (ds.take i) ≤ 16383) := ⟨hb, hM⟩
    by_cases hlt : i < N
    · have hiI : (i : Int) < (N : Int) := by omega
      have hi0 : (0 : Int) ≤ (i : Int) := by omega
      obtain ⟨d, hds⟩ : ∃ d, ds[i]? = some d := ⟨_, List.getElem?_eq_getElem (by rw [HH.out.2.2.1]; exact hlt)⟩
      obtain ⟨ib, io, rfl, hz, hcs⟩ := HH.out.1 (by omega)
      have hcells := hcs i hlt
      obtain ⟨k', n', t', q', l', c', hF⟩ := HH.out.2.1 i hlt
      obtain ⟨hd1, hd2, HC⟩ := HH.out.2.2.2 i d hds
      rw [hF] at hcells HC
      obtain ⟨z0, z1, z2, z3⟩ := (gat_of hcells).below hb
      have hT := mx_take hds
      have HE : Hid (mx (ds.take (i + 1)) = max (mx (ds.take i)) d ∧ i < N ∧ 1 ≤ d ∧ d ≤ 16383) := ⟨hT, hlt, hd1, hd2⟩
      generalize mx (ds.take i) = M at HE HB hM ⊢
      have BX : Below w.heap.size w (wr.alloc (.cells (gA k' n' t' q' l' c') 24)) := hb.alloc hb.size _
      have RX : (wr.alloc (.cells (gA k' n' t' q' l' c') 24)).heap[wr.heap.size]? = some (.cells (gA k' n' t' q' l' c') 24 (0, 0)) := _root_.Go.heap_alloc_new _ _
      have FX := HC _ BX
      unfold gA at FX RX BX
      obtain ⟨⟨x0, x1, x2, x3⟩, _, _, _, _⟩ := row4_cells RX
      have hdz : ((d : Int) == 0) = false := bset d 0 (by omega)
      have hM1 : (M : Int) ≤ 16383 := by omega
      have hd3 : (d : Int) ≤ 16383 := by omega
      clear hcells hF hT hb hM HC hds hi hd1 hd2 RX hcs hz
      go_wp2_with (first | (go_at_call 8; refine FX.mono ?_; rintro e w3 ⟨rfl, hb3⟩) | fail)
      go_roundw
      case rel =>
        have H := HE.out
        have h9 := HB.out.2
        have h8 : max (M : Int) (d : Int) = ((max M d : Nat) : Int) := by omega
        exact ⟨i + 1, by omega, by go_num, by rw [H.1, h8], by omega, below_more BX hb3⟩
      case measure => have H := HE.out; simp [intOf]; omega
    · have hiN : i = N := by omega
      subst hiN
      have HR : Hid (mx (ds.take i) = mx ds) := by
        show _ = _
        rw [← HH.out.2.2.1, List.take_length]
      have hM1 : ((mx (ds.take i) : Nat) : Int) ≤ 16383 := by omega
      clear hb hi hlt hM
      go_wp2_with fail
      go_ret
      exact ⟨by rw [← HR.out]; rfl, HB.out.1⟩
theorem depth_any {g : GB} {d : Nat} (h : Wf g d) : ∀ (A : Array Value) (Z : Nat → Prop) (w : World), d ≤ 16384 → GIn w Z A g → Calls Tryd.prog 8 #[.agg A] w fun e w' => e = .returned (.int .i64 (d : Int)) ∧ Below w.heap.size w w' := by
  have none : ∀ {w : World} {Z : Nat → Prop} (k : Nat) (n : Int) (t : ByteArray) (q : Option Addr) (c : Nat) (F : Nat → Array Value), KsIn w Z q F 0 → (∀ w', Calls Tryd.prog 16 #[.agg (gA k n t q 0 c)] w' fun e w'' => e = .returned (.bool true) ∧ Below w'.heap.size w' w'') → Calls Tryd.prog 8 #[.agg (gA k n t q 0 c)] w fun e w' => e = .returned (.int .i64 ((1 : Nat) : Int)) ∧ Below w.heap.size w w' := by
    intro w Z k n t q c F hK hf
    exact depth_walk k n t q 0 c F [] Z w rfl (by omega) hK (fun i hi => absurd hi (Nat.not_lt_zero _)) hf (fun i d hd => by simp at hd)
  induction h with
  | leaf k hk =>
    intro A Z w _ hG
    unfold leaf at hG
    cases hG with
    | mk k n t gs q c F _ _ hc hm hq hK hR =>
      refine none k 0 ByteArray.empty q c F hK fun w' => ?_
      rcases hk with rfl | rfl
      · exact hf1 q c w'
      · exact hf2 q c w'
  | num n hn =>
    intro A Z w _ hG
    cases hG with
    | mk k n t gs q c F _ _ hc hm hq hK hR => exact none 3 _ ByteArray.empty q c F hK fun w' => hf3 _ q c w'
  | text t ht hz =>
    intro A Z w _ hG
    unfold named at hG
    cases hG with
    | mk k n t' gs q c F _ _ hc hm hq hK hR =>
      refine none 4 0 (strOf t) q c F hK fun w' => hf4 _ q c w' ?_ ?_
      · rw [← numsOf_len, tx_nums ht]; exact hz
      · rw [tx_nums ht]; exact ht
  | name k t hk ht =>
    intro A Z w _ hG
    unfold named at hG
    cases hG with
    | mk k n t' gs q c F _ _ hc hm hq hK hR =>
      refine none k 0 (strOf t) q c F hK fun w' => ?_
      rcases hk with rfl | rfl | rfl
      · exact hf5 _ q c w' (by rw [nm_nums ht]; exact ht)
      · exact hf6 _ q c w' (by rw [nm_nums ht]; exact ht)
      · exact hf7 _ q c w' (by rw [nm_nums ht]; exact ht)
  | @one a d ha ih =>
    intro A Z w hd hG
    have hp := ha.pos
    unfold one at hG
    cases hG with
    | mk k n t' gs q c F _ _ hc hm hq hK hR =>
      have h0 := hR 0 a rfl
      have D := depth_walk 8 0 ByteArray.empty q 1 c F [d] Z w rfl (by omega) hK (fun i hi => by
        obtain rfl : i = 0 := by omega
        exact gin_form h0) (fun w' => hf8 q c w') (fun i e he => by
        match i, he with
        | 0, he =>
          simp at he
          subst he
          exact ⟨hp, by omega, fun w' hb => ih (F 0) Z w' (by omega) (h0.bel hb)⟩
        | i + 1, he => simp at he)
      rw [show mx [d] = d by simp [mx]] at D
      exact D
  | @pair k a b d e hk1 hk2 ha hb iha ihb =>
    intro A Z w hd hG
    have hpa := ha.pos
    have hpb := hb.pos
    unfold pair at hG
    cases hG with
    | mk k n t' gs q c F _ _ hc hm hq hK hR =>
      have h0 := hR 0 a rfl
      have h1 := hR 1 b rfl
      have D := depth_walk k 0 ByteArray.empty q 2 c F [d, e] Z w rfl (by omega) hK (fun i hi => by
        match i, hi with
        | 0, _ => exact gin_form h0
        | 1, _ => exact gin_form h1) (fun w' => by
        obtain rfl | rfl | rfl | rfl | rfl | rfl | rfl : k = 9 ∨ k = 10 ∨ k = 11 ∨ k = 12 ∨ k = 13 ∨ k = 14 ∨ k = 15 := by omega
        · exact hf9 q c w'
        · exact hf10 q c w'
        · exact hf11 q c w'
        · exact hf12 q c w'
        · exact hf13 q c w'
        · exact hf14 q c w'
        · exact hf15 q c w') (fun i x he => by
        match i, he with
        | 0, he =>
          simp at he
          subst he
          exact ⟨hpa, by omega, fun w' hb' => iha (F 0) Z w' (by omega) (h0.bel hb')⟩
        | 1, he =>
          simp at he
          subst he
          exact ⟨hpb, by omega, fun w' hb' => ihb (F 1) Z w' (by omega) (h1.bel hb')⟩
        | i + 2, he => simp at he)
      rw [show mx [d, e] = max d e by simp [mx]] at D
      exact D
end Go.Proofs.YtkcmidhpbaepoaaDoor.G
