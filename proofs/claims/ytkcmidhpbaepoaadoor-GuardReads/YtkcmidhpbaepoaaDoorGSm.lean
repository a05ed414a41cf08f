/-
  The document's Same says yes of two guards that are one.
-/
import Derived.Test.YtkcmidhpbaepoaaDoorGDz
namespace Go.Proofs.YtkcmidhpbaepoaaDoor.G
open Go.RowKit Go.WideShapes Go.Joins

/-- Between the kids. -/
inductive DmI (N : Nat) (W : World) (t : Value) (wr : World) : Prop where
  | intro (k : Nat) (hk : k ≤ N) (ht : t = .int .i64 (k : Int)) (hb : Below W.heap.size W wr)
set_option maxHeartbeats 4000000 in
set_option maxRecDepth 8000 in
theorem dsame_walk (k : Nat) (n : Int) (t : ByteArray) (q1 q2 : Option Addr) (N ca cb : Nat) (F1 F2 : Nat → Array Value) (Z1 Z2 : Nat → Prop) (w : World) (hN : N ≤ maxLen)
    (hI1 : KsIn w Z1 q1 F1 N) (hI2 : KsIn w Z2 q2 F2 N) (hf1 : ∀ i, i < N → ∃ k n t q l c, F1 i = gA k n t q l c) (hf2 : ∀ i, i < N → ∃ k n t q l c, F2 i = gA k n t q l c)
    (hcall : ∀ i, i < N → ∀ w', Below w.heap.size w w' → Calls Tryd.prog 6 #[.agg (F1 i), .agg (F2 i)] w' fun e w'' => e = .returned (.bool true) ∧ Below w'.heap.size w' w'') :
    Calls Tryd.prog 6 #[.agg (gA k n t q1 N ca), .agg (gA k n t q2 N cb)] w fun e w' => e = .returned (.bool true) ∧ Below w.heap.size w w' := by
  have b1 := below_new w (.cells (gA k n t q1 N ca) 24)
  have m1 := _root_.Go.heap_alloc_new w (.cells (gA k n t q1 N ca) 24)
  have b2 := below_new (w.alloc (.cells (gA k n t q1 N ca) 24)) (.cells (gA k n t q2 N cb) 24)
  have m2 := _root_.Go.heap_alloc_new (w.alloc (.cells (gA k n t q1 N ca) 24)) (.cells (gA k n t q2 N cb) 24)
  simp only [World.size_alloc] at m2
  have HX : Hid (∀ w', Below ((w.alloc (.cells (gA k n t q1 N ca) 24)).alloc (.cells (gA k n t q2 N cb) 24)).heap.size ((w.alloc (.cells (gA k n t q1 N ca) 24)).alloc (.cells (gA k n t q2 N cb) 24)) w' → w'.heap[w.heap.size]? = some (.cells (gA k n t q1 N ca) 24 (0, 0)) ∧ w'.heap[w.heap.size + 1]? = some (.cells (gA k n t q2 N cb) 24 (0, 0)) ∧ Below w.heap.size w w') := fun w' hb =>
    ⟨box_below (box_below m1 b2) hb, box_below m2 hb, below_more (below_more b1 b2) hb⟩
  have HH : Hid (KsIn w Z1 q1 F1 N ∧ KsIn w Z2 q2 F2 N ∧ (∀ i, i < N → ∃ k n t q l c, F1 i = gA k n t q l c) ∧ (∀ i, i < N → ∃ k n t q l c, F2 i = gA k n t q l c) ∧ ∀ i, i < N → ∀ w', Below w.heap.size w w' → Calls Tryd.prog 6 #[.agg (F1 i), .agg (F2 i)] w' fun e w'' => e = .returned (.bool true) ∧ Below w'.heap.size w' w'') := ⟨hI1, hI2, hf1, hf2, hcall⟩
  have hNI : (N : Int) ≤ 9223372036854775807 := by unfold maxLen at hN; omega
  unfold gA at HX ⊢
  clear b1 m1 b2 m2 hI1 hI2 hf1 hf2 hcall hN
  go_enter Tryd.func6, Tryd.ntmps6
  go_upto_region 1 with fail
  obtain ⟨W1, hW1⟩ : ∃ W1, (w.alloc (.cells #[.int .u8 (k : Int), .int .i64 n, .string t, .slice q1 N ca] 24)).alloc (.cells #[.int .u8 (k : Int), .int .i64 n, .string t, .slice q2 N cb] 24) = W1 := ⟨_, rfl⟩
  rw [hW1] at HX ⊢
  clear hW1
  obtain ⟨G1, G2, G3⟩ := HX.out W1 (Below.refl _ _)
  obtain ⟨⟨r0, r1, r2, r3⟩, _, _, _, _⟩ := row4_cells G1
  obtain ⟨⟨x0, x1, x2, x3⟩, _, _, _, _⟩ := row4_cells G2
  clear G1 G2 G3
  go_wp2_with fail
  clear r0 r1 r2 r3 x0 x1 x2 x3
  go_loopw [5] (fun t wr => DmI N W1 t wr) (fun t _ => N - (intOf t).toNat)
  case atStart => exact ⟨0, Nat.zero_le _, rfl, Below.refl _ _⟩
  case round =>
    obtain ⟨j, hj, rfl, hb⟩ := hrel
    obtain ⟨G1, G2, G3⟩ := HX.out wr hb
    obtain ⟨⟨r0, r1, r2, r3⟩, _, _, _, _⟩ := row4_cells G1
    obtain ⟨⟨x0, x1, x2, x3⟩, _, _, _, _⟩ := row4_cells G2
    by_cases hlt : j < N
    · have hjI : (j : Int) < (N : Int) := by omega
      have hj0 : (0 : Int) ≤ (j : Int) := by omega
      obtain ⟨ab, ao, rfl, _, hcs1⟩ := HH.out.1 (by omega)
      obtain ⟨bb, bo, rfl, _, hcs2⟩ := HH.out.2.1 (by omega)
      have hc1 := hcs1 j hlt
      have hc2 := hcs2 j hlt
      obtain ⟨k3, n3, t3, q3, l3, c3, hF1⟩ := HH.out.2.2.1 j hlt
      obtain ⟨k4, n4, t4, q4, l4, c4, hF2⟩ := HH.out.2.2.2.1 j hlt
      have HCx := HH.out.2.2.2.2 j hlt
      rw [hF1] at hc1 HCx
      rw [hF2] at hc2 HCx
      obtain ⟨z0, z1, z2, z3⟩ := (gat_of hc1).below G3
      obtain ⟨y0, y1, y2, y3⟩ := (gat_of hc2).below G3
      unfold gA at HCx
      have HQ2 : Hid (Below W1.heap.size W1 wr ∧ j < N ∧ Below w.heap.size w wr) := ⟨hb, hlt, G3⟩
      have HCR : Hid (∀ w', Below wr.heap.size wr w' → Calls Tryd.prog 6 #[.agg #[.int .u8 (k3 : Int), .int .i64 n3, .string t3, .slice q3 l3 c3], .agg #[.int .u8 (k4 : Int), .int .i64 n4, .string t4, .slice q4 l4 c4]] w' fun e w'' => e = .returned (.bool true) ∧ Below wr.heap.size wr w'') := fun w' hb =>
        (HCx w' (below_more HQ2.out.2.2 hb)).mono fun e w'' ⟨p, q⟩ => ⟨p, below_more hb q⟩
      clear hb G1 G2 G3 hj hlt hc1 hc2 hF1 hF2 HCx hcs1 hcs2
      go_wp2_with fail
      go_region_with (go_at_call 6; refine (HCR.out _ (by first | exact below_dN (Below.refl _ _) _ | exact (Below.refl _ _).drew | exact Below.refl _ _)).mono ?_; rintro e w3 ⟨rfl, hb3⟩)
      all_goals
        go_wp2_with fail
        go_roundw
        case rel => exact ⟨j + 1, by have := HQ2.out.2.1; omega, by go_num, below_more HQ2.out.1 hb3⟩
        case measure => have := HQ2.out.2.1; simp [intOf]; omega
    · obtain rfl : j = N := by omega
      have HQ2 : Hid (Below w.heap.size w wr) := G3
      clear hb G1 G2 G3 hj hlt
      go_wp2_with fail
      go_ret
      exact ⟨rfl, HQ2.out⟩
theorem dSame_yes {w : World} {Z1 : Nat → Prop} {A : Array Value} {g : GB} (h : GIn w Z1 A g) : ∀ (B : Array Value) (Z2 : Nat → Prop) (w' : World), Below w.heap.size w w' → GIn w' Z2 B g → Calls Tryd.prog 6 #[.agg A, .agg B] w' fun e w'' => e = .returned (.bool true) ∧ Below w'.heap.size w' w'' := by
  induction h with
  | mk k n t gs q c F hk hn hc hm hq hK hR ih =>
    intro B Z2 w' hb hB
    generalize hv : GB.mk k n t gs = v at hB
    cases hB with
    | mk k' n' t' gs' q' c' F' hk' hn' hc' hm' hq' hK' hR' =>
      cases hv
      refine dsame_walk k n t q q' gs.length c c' F F' Z1 Z2 w' (Nat.le_trans hc hm) (hK.mono (fun i hi => (hR i _ (List.getElem?_eq_getElem hi)).size) fun _ _ z hx => ⟨below_cell hx hb, z⟩) hK' (fun i hi => gin_form (hR i _ (List.getElem?_eq_getElem hi))) (fun i hi => gin_form (hR' i _ (List.getElem?_eq_getElem hi))) ?_
      intro i hi w'' hb'
      exact ih i _ (List.getElem?_eq_getElem hi) (F' i) Z2 w'' (below_more hb hb') ((hR' i _ (List.getElem?_eq_getElem hi)).bel hb')
end Go.Proofs.YtkcmidhpbaepoaaDoor.G
