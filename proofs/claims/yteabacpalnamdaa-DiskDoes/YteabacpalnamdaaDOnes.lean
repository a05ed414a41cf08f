/-
  Contracts of the statements' own helpers ones and large.
-/
import Derived.Test.YteabacpalnamdaaDSame
namespace Go.Proofs.Yteabacpalnamdaa
open Go.RowKit Go.WideShapes

def onesK (x k : Nat) : List Nat := List.replicate k x ++ List.replicate (128 - k) 0
theorem onesK_len (x k : Nat) (h : k ≤ 128) : (onesK x k).length = 128 := by simp [onesK]; omega
theorem onesK_step (x k : Nat) (h : k < 128) : (onesK x k).set k x = onesK x (k + 1) := by
  unfold onesK
  rw [List.set_append_right _ _ (by simp), List.length_replicate, Nat.sub_self, show 128 - k = (128 - (k + 1)) + 1 from by omega, List.replicate_succ, List.set_cons_zero, List.replicate_succ', List.append_assoc]
  rfl
theorem Bs_set (xs : List Nat) (k x : Nat) : (Bs xs).toArray.setIfInBounds k (.int .u8 x) = (Bs (xs.set k x)).toArray := by
  simp [Bs, List.map_set]

set_option maxRecDepth 100000 in
set_option maxHeartbeats 1000000 in
theorem ones_any (x : Nat) (w : World) :
    Calls Try.prog 11 #[.int .u8 x] w fun e w' => ∃ g, e = .returned (.slice (some ⟨g, 0, none⟩) 128 128) ∧ w.heap.size ≤ g ∧ w'.heap[g]? = some (.cells (Bs (List.replicate 128 x)).toArray 5 (0, 0)) ∧ Below w.heap.size w w' := by
  obtain ⟨i0, hi, hz0, hz1, hz2⟩ := info_parts info_u8
  go_enter Try.func11, Try.ntmps11
  go_wp2_with (at_make; refine wpList_make_full _ rfl _ _ 22 rfl w.heap.size 5 i0 (.int .u8 0) 1 Try.underlying22 hi hz0 hz1 .i64 .i64 _ _ 128 rfl rfl rfl rfl (by rw [hz2]; decide) (by decide) (Nat.le_refl _) ?_)
  intro w1 hown hgrow
  have hrow := row_full hown
  rw [zeros_made] at hrow
  have hb1 : Below w.heap.size w w1 := (Below.refl _ _).grown hgrow (Nat.le_refl _) (fun k hk => by cases hk)
  have HR : Hid (w1.heap[w.heap.size]? = some (.cells (Bs (onesK x 0)).toArray 5 (0, 0))) := by show _ = _; rw [show onesK x 0 = List.replicate 128 0 from by simp only [onesK, List.replicate_zero, List.nil_append, Nat.sub_zero]]; exact hrow
  clear hown hgrow hrow
  go_wp2
  go_loopw [4] (fun i wr => ∃ k : Nat, k ≤ 128 ∧ i = .int .i64 k ∧ Hid (wr.heap[w.heap.size]? = some (.cells (Bs (onesK x k)).toArray 5 (0, 0))) ∧ Below w.heap.size w wr) (fun i _ => 128 - (intOf i).toNat)
  case atStart => exact ⟨0, by omega, rfl, HR, hb1⟩
  case round =>
    obtain ⟨k, hk, rfl, HK, hbk⟩ := hrel
    by_cases hkl : k < 128
    · have hc := cell_of_row wr w.heap.size k _ _ _ HK.out
      rw [show (Bs (onesK x k)).toArray[k]? = some (.int .u8 ((onesK x k).getD k 0 : Nat)) from by simp [Bs, List.getD, List.getElem?_eq_getElem (show k < (onesK x k).length by rw [onesK_len _ _ hk]; exact hkl)]] at hc
      have hf := frozen_of_row wr w.heap.size k _ _ HK.out
      have HS : Hid ((wr.setCell ⟨w.heap.size, k, none⟩ (.int .u8 x)).heap[w.heap.size]? = some (.cells (Bs (onesK x (k + 1))).toArray 5 (0, 0))) := by
        show _ = _
        rw [heap_setCell_same wr _ k _ _ _ HK.out, Bs_set, onesK_step x k hkl]
      generalize (onesK x k).getD k 0 = cc at *
      go_wp2
      go_roundw
      case rel => exact ⟨k + 1, by omega, by go_num, HS, hbk.setCell (Nat.le_refl _) _⟩
      case measure => simp [intOf]; omega
    · obtain rfl : k = 128 := by omega
      have HE : Hid (onesK x 128 = List.replicate 128 x) := by show _ = _; simp [onesK]
      rw [HE.out] at HK
      clear HE
      go_wp2
      go_ret
      exact ⟨_, rfl, Nat.le_refl _, HK.out, hbk⟩
/-- Is a disk larger than the statements go through? -/
def largeN (count : Int) (data : List Nat) (ws : Puts) : Prop := (40000 < data.length ∧ 0 < count ∧ count ≤ 4096) ∨ 600000 < data.length ∨ (300 < ws.length ∧ ws.length < 4090) ∨ 4200 < ws.length
instance (count : Int) (data : List Nat) (ws : Puts) : Decidable (largeN count data ws) := by unfold largeN; infer_instance
set_option maxRecDepth 100000 in
set_option maxHeartbeats 1000000 in
theorem large_any (v : Value) (count : Int) (data : List Nat) (ws : Puts) (w : World) (hd : DiskIn w v count data ws) :
    Calls Try.prog 18 #[v] w fun e w' => e = .returned (.bool (decide (largeN count data ws))) ∧ Below w.heap.size w w' := by
  obtain ⟨p, c, q, m, rfl, _⟩ := hd.parts
  clear hd
  generalize hL : data.length = L at *
  generalize hM : ws.length = M at *
  have hl : largeN count data ws ↔ ((40000 < L ∧ 0 < count ∧ count ≤ 4096) ∨ 600000 < L ∨ (300 < M ∧ M < 4090) ∨ 4200 < M) := by unfold largeN; rw [hL, hM]
  have HL : Hid _ := hl
  clear hl hL hM
  have h : (40000 < L ∧ 0 < count ∧ count ≤ 4096) ∨ ((L ≤ 40000 ∨ (40000 < L ∧ count ≤ 0) ∨ (40000 < L ∧ 0 < count ∧ 4096 < count)) ∧ (600000 < L ∨ (L ≤ 600000 ∧ ((300 < M ∧ M < 4090) ∨ M ≤ 300 ∨ (4090 ≤ M ∧ 4200 < M) ∨ (4090 ≤ M ∧ M ≤ 4200))))) := by omega
  rcases h with ⟨a1, a2, a3⟩ | ⟨a1 | ⟨a1, a2⟩ | ⟨a1, a2, a3⟩, b1 | ⟨b1, ⟨d1, d2⟩ | d1 | ⟨d1, d2⟩ | ⟨d1, d2⟩⟩⟩
  all_goals first | omega | skip
  all_goals
    obtain ⟨bb, HV⟩ : ∃ bb, Hid (decide (largeN count data ws) = bb) := ⟨_, rfl⟩
    have HW : Hid ((bb = true ∧ largeN count data ws) ∨ (bb = false ∧ ¬ largeN count data ws)) := by
      rw [← HV.out]
      by_cases h : largeN count data ws
      · exact .inl ⟨decide_eq_true h, h⟩
      · exact .inr ⟨decide_eq_false h, h⟩
    go_enter Try.func18, Try.ntmps18
    go_wp2
    go_ret
    refine ⟨?_, below_alloc _ _⟩
    rw [HV.out]
    rcases HW.out with ⟨rfl, h⟩ | ⟨rfl, h⟩ <;> rw [HL.out] at h <;> first | rfl | (exfalso; omega) | (simp; omega)
end Go.Proofs.Yteabacpalnamdaa
