/-
  Contracts of the calls Many, Join and Sectors.
-/
import Derived.Test.YtfplpdnhhefbaaaPFree
namespace Go.Proofs.Ytfplpdnhhefbaaa
open Go.RowKit Go.WideShapes

theorem wn_take {l : Pcs} (h : Good 4096 l) (k : Nat) : ∀ p ∈ l.take k, 0 ≤ p.2 ∧ p.2 ≤ 4096 := by
  intro p hp
  have := h.wn p (List.mem_of_mem_take hp)
  unfold Wn at this
  omega
theorem sum_step {l : Pcs} {k : Nat} (hk : k < l.length) : sumP (l.take (k + 1)) = sumP (l.take k) + (l.getD k (0, 0)).2 := by rw [take_snoc (d := (0, 0)) hk, sumP_snoc]
set_option maxHeartbeats 1000000 in
theorem many_any (v : Value) (l : Pcs) (w : World) (hl : PIn w v l) :
    Calls Try.prog 21 #[v] w fun e w' => e = .returned (.tuple #[.int .i64 (manyN l), .int .i64 (errK 4096 l)]) ∧ Below w.heap.size w w' := by
  obtain ⟨q, c, rfl, hq, hlc, hcm, _⟩ := hl.lies
  have hck := check_any 4096 _ l w hl
  unfold maxLen at hcm
  by_cases h2 : errK 4096 l = 0
  · have hz := errK_zero h2
    have hg := hz.2.2
    have hlen := hz.2.1
    have HM : Hid (manyN l = sumP l) := by show _ = _; unfold manyN; rw [if_pos h2]
    rw [h2] at hck ⊢
    clear hl hz h2
    go_enter Try.func21, Try.ntmps21
    go_wp2_with (go_at_call 14; refine hck.mono ?_; rintro e w1 ⟨rfl, hb1⟩)
    go_loopw [5, 15] (fun s i wr => ∃ k : Nat, k ≤ l.length ∧ i = .int .i64 k ∧ s = .int .i64 (sumP (l.take k)) ∧ Below w.heap.size w wr) (fun _ i _ => l.length - (intOf i).toNat)
    case atStart => exact ⟨0, by omega, rfl, rfl, hb1⟩
    case round =>
      obtain ⟨k, hk, rfl, rfl, hbel⟩ := hrel
      by_cases hkl : k < l.length
      · obtain ⟨b, o, rfl⟩ := hq.addr (by omega)
        obtain ⟨e1, e2⟩ := (hq.below hbel).at hkl
        have hwn := hg.wn _ (getD_mem' (d := (0, 0)) hkl)
        have hs := sumP_bound (wn_take hg k)
        have hsl : (l.take k).length ≤ 4096 := by simp; omega
        have HS : Hid _ := sum_step hkl
        unfold Wn at hwn
        clear hq hg hck
        generalize l.getD k (0, 0) = y at *
        obtain ⟨a, n⟩ := y
        generalize sumP (l.take k) = S at *
        generalize (l.take k).length = L at *
        simp only at e1 e2 hwn
        go_wp2
        go_roundw
        case rel => exact ⟨k + 1, by omega, by go_num, by rw [HS.out], hbel.alloc hbel.size _⟩
        case measure => simp [intOf]; omega
      · obtain rfl : k = l.length := by omega
        rw [List.take_length]
        clear hq hg hck
        go_wp2
        go_ret2
        exact ⟨by rw [HM.out]; rfl, hbel⟩
  · have HM : manyN l = 0 := by unfold manyN; rw [if_neg h2]
    have hne : (errK 4096 l != 0) = true := by simpa using h2
    rw [HM]
    generalize errK 4096 l = E at *
    clear hl hq h2
    go_enter Try.func21, Try.ntmps21
    go_wp2_with (go_at_call 14; refine hck.mono ?_; rintro e w1 ⟨rfl, hb1⟩)
    go_ret2
    exact ⟨rfl, hb1⟩

/-! ### Join -/
theorem fold_step {s : Pcs} {k : Nat} (hk : k < s.length) : foldW (s.take (k + 1)) = withN (foldW (s.take k)) (s.getD k (0, 0)) := by rw [take_snoc (d := (0, 0)) hk, foldW_snoc]
theorem fold_bounds {s : Pcs} (hg : Good 4096 s) (hu : Up s) (k : Nat) : (∀ q ∈ foldW (s.take k), 0 ≤ q.1 ∧ 0 ≤ q.2 ∧ q.1 + q.2 ≤ 8192) ∧ (foldW (s.take k)).length ≤ s.length := by
  have hc := hg.chain hu
  have hck : Chain (s.take k) := by
    unfold Chain at *
    rw [← List.take_append_drop k s] at hc
    exact (List.pairwise_append.1 hc).1
  have hf := foldW_of hck (fun p hp => by have := hg.wn p (List.mem_of_mem_take hp); exact ⟨this.1, this.2.1⟩)
  refine ⟨fun q hq => ?_, Nat.le_trans hf.len (by simp; omega)⟩
  have h1 := hf.ends q hq
  have h2 := hf.runs.2 q hq
  have h3 : endOf (s.take k) ≤ 4096 := by
    rcases nil_or_snoc (s.take k) with h0 | ⟨t, r, h0⟩
    · rw [h0]; simp [endOf]
    · rw [h0, endOf_snoc]
      have hm : r ∈ s := List.mem_of_mem_take (i := k) (by rw [h0]; simp)
      have := hg.wn r hm
      unfold Wn at this
      omega
  omega
set_option maxHeartbeats 1000000 in
theorem join_any (v : Value) (l : Pcs) (w : World) (hl : PIn w v l) : Calls Try.prog 11 #[v] w (ListPost (resJ l) (errK 4096 l) w) := by
  obtain ⟨q, c, rfl, _⟩ := hl.lies
  have hck := check_any 4096 _ l w hl
  by_cases h2 : errK 4096 l = 0
  · have hz := errK_zero h2
    have hg := hz.2.2
    have hlen := hz.2.1
    have HM : Hid (resJ l = joinN l) := by show _ = _; unfold resJ; rw [if_pos h2]
    rw [h2] at hck ⊢
    clear hz h2
    have hri := fun w1 (hb : Below w.heap.size w w1) => rising_sl _ l w1 (hl.below hb) (by omega)
    clear hl
    go_enter Try.func11, Try.ntmps11
    go_wp2_with (first
      | (go_at_call 14; refine hck.mono ?_; rintro e w1 ⟨rfl, hb1⟩)
      | (go_at_call 29; refine (hri _ hb1).mono ?_; rintro e w2 ⟨q1, c1, s, rfl, ho, hp, hu, hb2, hc1, hc2⟩))
    have HGS : Hid (Good 4096 s) := hg.perm hp
    have HU : Hid (Up s) := hu
    have HJ : Hid (foldW s = joinN l) := foldW_join hp hu hg
    have hsl : s.length ≤ 4096 := by rw [← hp.length_eq]; exact hlen
    have hb12 : Below w.heap.size w w2 := below_bt hb1 hb2
    have ho1 : POwn w2 w.heap.size (.slice q1 s.length c1) s := ho.mono hb1.size
    have HO1 : Hid _ := ho1
    clear ho hp hu hg hri hck hb1 hb2 ho1
    go_loopw [5, 16] (fun out i wr => ∃ k : Nat, k ≤ s.length ∧ i = .int .i64 k ∧ POwn wr w.heap.size out (foldW (s.take k)) ∧ POwn wr w.heap.size (.slice q1 s.length c1) s ∧ (∀ g, (Value.slice q1 s.length c1).ownBlock = some g → some g ≠ out.ownBlock) ∧ Below w.heap.size w wr) (fun _ i _ => s.length - (intOf i).toNat)
    case atStart => exact ⟨0, by omega, rfl, pown_nil _ _, HO1.out, fun g _ e => (by cases e), hb12⟩
    case round =>
      obtain ⟨k, hk, rfl, hout, hso, hfar, hbel⟩ := hrel
      by_cases hkl : k < s.length
      · obtain ⟨b, o, rfl⟩ := (hso.pcs).addr (by omega)
        obtain ⟨e1, e2⟩ := (hso.pcs).at hkl
        have hwn := HGS.out.wn _ (getD_mem' (d := (0, 0)) hkl)
        obtain ⟨hB, hLn⟩ := fold_bounds HGS.out HU.out k
        have HS : Hid _ := fold_step hkl
        unfold Wn at hwn
        generalize s.getD k (0, 0) = y at *
        obtain ⟨a, n⟩ := y
        simp only at e1 e2 hwn
        have hwith := with_any w.heap.size u5 (foldW (s.take k)) (a, n) (wr.alloc (.cells #[.int .i64 a, .int .i64 n] 29)) (hout.below (below_alloc _ _)) (by have := hbel.size; simp; omega) (by omega) hB (by simp only; omega)
        have HSO : Hid (POwn wr w.heap.size (.slice (some ⟨b, o, none⟩) s.length c1) s) := hso
        have HF : Hid (∀ g, (Value.slice (some ⟨b, o, none⟩) s.length c1).ownBlock = some g → some g ≠ u5.ownBlock) := hfar
        have HOUT : Hid (POwn wr w.heap.size u5 (foldW (s.take k))) := hout
        have HBEL : Hid (Below w.heap.size w wr) := hbel
        clear hso hfar hB hout hbel
        go_wp2_with (go_at_call 30; refine hwith.mono ?_; rintro e w3 ⟨v3, rfl, ho3, hg3, hf3⟩)
        have R1 : Hid (POwn w3 w.heap.size v3 (foldW (s.take (k + 1)))) := by show POwn _ _ _ _; rw [HS.out]; exact ho3
        have hal := below_alloc wr (.cells #[.int .i64 a, .int .i64 n] 29)
        have R2 : Hid (POwn w3 w.heap.size (.slice (some ⟨b, o, none⟩) s.length c1) s) := by
          exact POwn.kept (HSO.out.below hal) hg3 (.inr (HF.out b rfl))
        have R3 : Hid (∀ g, (Value.slice (some ⟨b, o, none⟩) s.length c1).ownBlock = some g → some g ≠ v3.ownBlock) := fun g hgg => hf3 g (Nat.lt_of_lt_of_le (HSO.out.lt g hgg).2 hal.size) (HF.out g hgg)
        have R4 : Hid (Below w.heap.size w w3) := (HBEL.out.trans (hal.mono HBEL.out.size)).grown hg3 (Nat.le_trans HBEL.out.size hal.size) (fun x hx => (HOUT.out.lt x hx).1)
        clear hwith ho3 hg3 hf3 hal HSO HF HOUT HBEL
        go_wp2
        go_roundw
        case rel => exact ⟨k + 1, by omega, by go_num, R1.out, R2.out, R3.out, R4.out⟩
        case measure => simp [intOf]; omega
      · obtain rfl : k = s.length := by omega
        rw [List.take_length, HJ.out] at hout
        have HOUT : Hid (POwn wr w.heap.size u5 (joinN l)) := hout
        have HBEL : Hid (Below w.heap.size w wr) := hbel
        clear hout hso hfar hbel
        go_wp2
        go_ret2
        rw [HM.out]
        exact listPost_own rfl HOUT.out (Below.refl _ _) HBEL.out
  · have HM : resJ l = [] := by unfold resJ; rw [if_neg h2]
    have hne : (errK 4096 l != 0) = true := by simpa using h2
    rw [HM]
    generalize errK 4096 l = E at *
    clear hl h2
    go_enter Try.func11, Try.ntmps11
    go_wp2_with (go_at_call 14; refine hck.mono ?_; rintro e w1 ⟨rfl, hb1⟩)
    go_ret2
    exact listPost_nil rfl rfl hb1
end Go.Proofs.Ytfplpdnhhefbaaa
