/-
  FilesReads, walked.
-/
import Derived.Test.YtkgmhmhphgaclabGreatDoorK40
import Derived.Test.YtkgmhmhphgaclabGreatDoorJ33
import Derived.Test.YtkgmhmhphgaclabGreatDoorK39
import Derived.Deep.QuietTactic
import Derived.BigQuiet
namespace Go.Proofs.YtkgmhmhphgaclabGreatDoor
open Go.RowKit Go.WideShapes Rm

def RGetP (w : World) (z : Int × List Nat) (e : Ending) (w' : World) : Prop :=
  ∃ v, e = .returned (.tuple #[v, .int .i64 z.1]) ∧ w'.ownsRow w.heap.size 5 1 v z.2.length (Bs z.2) ∧ Below w.heap.size w w'
theorem rgetP_err {w w' : World} {z : Int × List Nat} {e : Ending} (m : Int) (hz : z = (m, [])) (he : e = .returned (.tuple #[.slice none 0 0, .int .i64 m])) (hb : Below w.heap.size w w') : RGetP w z e w' := by
  subst hz
  exact ⟨_, he, World.ownsRow_nil _ _ _ _, hb⟩
end Go.Proofs.YtkgmhmhphgaclabGreatDoor
namespace Go.Proofs.YtkgmhmhphgaclabGreatDoor
open Go.RowKit Go.WideShapes Rm

theorem slotR_ex (count : Int) (xs : List Nat) : ∃ a, SlotR ltS count xs a := by
  by_cases h : ∃ x, IsDir ltS x xs ∧ errK count (allPcs x.files) = 0
  · obtain ⟨x, hx⟩ := h
    exact ⟨some x, hx⟩
  · exact ⟨none, fun x hx he => h ⟨x, hx, he⟩⟩
theorem mountIs_ex (count : Int) (data : List Nat) (ws : Puts) : ∃ r n, MountIs count data ws r n := by
  by_cases ho : Okay count data ws
  · by_cases hc : count < 96
    · exact ⟨none, 40, .inr (.inl ⟨ho, hc, rfl, rfl⟩)⟩
    · obtain ⟨a, ha⟩ := slotR_ex count (slotK data ws 0 8)
      obtain ⟨b, hb⟩ := slotR_ex count (slotK data ws 8 8)
      exact ⟨mountR a b, _, .inr (.inr ⟨ho, by omega, a, b, ha, hb, rfl, rfl⟩)⟩
  · exact ⟨none, 20, .inl ⟨ho, rfl, rfl⟩⟩
/-- A row of texts of one's own, read. -/
theorem own_text {w : World} {base n : Nat} {q : Option Addr} {m c : Nat} {l : List FileV} (h : w.ownsRow base 9 1 (.slice q m c) n (Ts l)) (hn : n = l.length) {k : Nat} (hk : k < l.length) : ∃ g, q = some ⟨g, 0, none⟩ ∧ w.cell? ⟨g, k, none⟩ = some (.string (l.getD k zeroF).name) := by
  subst hn
  rcases h.2 with ⟨_, h0⟩ | ⟨g, cap, cur, hv, _, hg, h1, _, _, _⟩
  · omega
  · obtain ⟨rfl, rfl, rfl⟩ := Value.slice.inj hv
    refine ⟨g, rfl, ?_⟩
    rw [World.ownsRow.cellAt h k (by omega)]
    simp [Ts, List.getD, List.getElem?_eq_getElem hk]
end Go.Proofs.YtkgmhmhphgaclabGreatDoor
namespace Go.Proofs.YtkgmhmhphgaclabGreatDoor
set_option maxRecDepth 8000
open Go.RowKit Go.WideShapes

end Go.Proofs.YtkgmhmhphgaclabGreatDoor
namespace Go.Proofs.YtkgmhmhphgaclabGreatDoor
open Go.RowKit Go.WideShapes Rm

/-- Is a disk larger than the statements go through? -/
def largeL (count : Int) (data : List Nat) (ws : Puts) : Prop := (40000 < data.length ∧ 0 < count ∧ count ≤ 4096) ∨ 600000 < data.length ∨ 300 < ws.length
instance (count : Int) (data : List Nat) (ws : Puts) : Decidable (largeL count data ws) := by unfold largeL; infer_instance
set_option maxRecDepth 20000 in
set_option maxHeartbeats 4000000 in
theorem large4_any (v : Value) (count : Int) (data : List Nat) (ws : Puts) (w : World) (hd : DiskIn w v count data ws) :
    Calls Tryz.prog 7 #[v] w fun e w' => e = .returned (.bool (decide (largeL count data ws))) ∧ Below w.heap.size w w' := by
  obtain ⟨p, c, q, m, rfl, _⟩ := hd.parts
  clear hd
  generalize hL : data.length = L at *
  generalize hM : ws.length = M at *
  have hl : largeL count data ws ↔ ((40000 < L ∧ 0 < count ∧ count ≤ 4096) ∨ 600000 < L ∨ 300 < M) := by unfold largeL; rw [hL, hM]
  have HL : Hid _ := hl
  clear hl hL hM
  have h : (40000 < L ∧ 0 < count ∧ count ≤ 4096) ∨ ((L ≤ 40000 ∨ (40000 < L ∧ count ≤ 0) ∨ (40000 < L ∧ 0 < count ∧ 4096 < count)) ∧ (600000 < L ∨ (L ≤ 600000 ∧ (300 < M ∨ M ≤ 300)))) := by omega
  rcases h with ⟨a1, a2, a3⟩ | ⟨a1 | ⟨a1, a2⟩ | ⟨a1, a2, a3⟩, b1 | ⟨b1, d1 | d1⟩⟩
  all_goals first | omega | skip
  all_goals
    obtain ⟨bb, HV⟩ : ∃ bb, Hid (decide (largeL count data ws) = bb) := ⟨_, rfl⟩
    have HW : Hid ((bb = true ∧ largeL count data ws) ∨ (bb = false ∧ ¬ largeL count data ws)) := by
      rw [← HV.out]
      by_cases h : largeL count data ws
      · exact .inl ⟨decide_eq_true h, h⟩
      · exact .inr ⟨decide_eq_false h, h⟩
    go_enter Tryz.func7, Tryz.ntmps7
    go_wp2
    go_ret
    refine ⟨?_, below_alloc _ _⟩
    rw [HV.out]
    rcases HW.out with ⟨rfl, h⟩ | ⟨rfl, h⟩ <;> rw [HL.out] at h <;> first | rfl | (exfalso; omega) | (simp; omega)
theorem nowK_mem {ws : Puts} {n : Int} {k : Nat} {xs : List Nat} (hk : k ≤ ws.length) (h : nowK ws n k = some xs) : ∃ y ∈ ws, y.2 = xs := by
  induction k with
  | zero => simp [nowK] at h
  | succ k ih =>
    unfold nowK at h
    split at h
    · rename_i hc
      simp only [Option.some.injEq] at h
      exact ⟨ws.getD k (0, []), by
        rw [List.getD_eq_getElem?_getD, List.getElem?_eq_getElem (by omega : k < ws.length)]; exact List.getElem_mem _, h⟩
    · exact ih (by omega) h
theorem nowN_byteF {w : World} {v : Value} {count : Int} {data : List Nat} {ws : Puts} (hd : DiskIn w v count data ws) (n : Int) : ∀ c ∈ nowN data ws n, c < 256 := by
  obtain ⟨p, c, q, m, rfl, hb, _, _, _, hqp, _⟩ := hd.parts
  intro x hi
  unfold nowN at hi
  cases hk : nowK ws n ws.length with
  | none =>
    rw [hk] at hi
    exact hb.2 x (List.mem_of_mem_drop (List.mem_of_mem_take hi))
  | some xs =>
    rw [hk] at hi
    obtain ⟨y, hy, rfl⟩ := nowK_mem (Nat.le_refl _) hk
    obtain ⟨j, hj, he⟩ := List.mem_iff_getElem.1 hy
    obtain ⟨b, o, _, hc⟩ := hqp (by omega)
    obtain ⟨_, v', _, hr⟩ := hc j hj
    rw [show ws.getD j (0, []) = y by rw [List.getD_eq_getElem?_getD, List.getElem?_eq_getElem hj]; exact he] at hr
    obtain ⟨_, _, _, h2, _⟩ := hr.lies
    exact h2.2 x hi
theorem getN_byte {w : World} {v : Value} {count : Int} {data : List Nat} {ws : Puts} (hd : DiskIn w v count data ws) (r : Option (DirV × Int)) (n : Int) (name : ByteArray) : ∀ c ∈ (getN data ws r n name).2, c < 256 := by
  intro c hc
  unfold getN at hc
  rcases r with _ | ⟨x, at_⟩
  · simp at hc
  · simp only at hc
    split at hc
    · split at hc
      · have h := List.mem_of_mem_take hc
        obtain ⟨n', _, h2⟩ := List.mem_flatMap.1 h
        exact nowN_byteF hd n' c h2
      · simp at hc
    · simp at hc
/-- A row of bytes of one's own that is written over. -/
def U8R (w : World) (n : Nat) : Option Addr → Prop
  | none => n = 0
  | some a => ∃ g, a = ⟨g, 0, none⟩ ∧ ∃ cs, w.heap[g]? = some (.cells cs 5 (0, 0)) ∧ n ≤ cs.size ∧ ∀ i, i < n → ∃ x : Int, cs[i]? = some (.int .u8 x)
theorem u8r_own {w : World} {base : Nat} {q : Option Addr} {m : Nat} {xs : List Nat} (h : w.ownsRow base 5 1 (.slice q xs.length m) xs.length (Bs xs)) : U8R w xs.length q := by
  rcases h.2 with ⟨hv, h0⟩ | ⟨g, cap, cur, hv, hb, hg, h1, _, h3, h4⟩
  · obtain ⟨rfl, _, _⟩ := Value.slice.inj hv
    exact h0
  · obtain ⟨rfl, _, rfl⟩ := Value.slice.inj hv
    refine ⟨g, rfl, cur, hg, by omega, fun i hi => ⟨((xs.getD i 0 : Nat) : Int), ?_⟩⟩
    have h5 := congrArg (fun l : List Value => l[i]?) h4
    simp only [Nat.mul_one] at h5
    rw [List.getElem?_take_of_lt hi] at h5
    rw [← Array.getElem?_toList, h5]
    simp [Bs, List.getD_eq_getElem?_getD, List.getElem?_eq_getElem hi]
theorem U8R.below {w w' : World} {n : Nat} {q : Option Addr} (h : U8R w n q) (hb : Below w.heap.size w w') : U8R w' n q := by
  rcases q with _ | a
  · exact h
  · obtain ⟨g, e, cs, h1, h2, h3⟩ := h
    exact ⟨g, e, cs, (hb.block _ (lt_heap h1)).trans h1, h2, h3⟩
theorem U8R.set {w : World} {n g : Nat} (h : U8R w n (some ⟨g, 0, none⟩)) (o : Nat) (x : Int) : U8R (w.setCell ⟨g, o, none⟩ (.int .u8 x)) n (some ⟨g, 0, none⟩) := by
  obtain ⟨g', e, cs, h1, h2, h3⟩ := h
  cases e
  refine ⟨g, rfl, _, heap_setCell_same w g o _ _ _ h1, by simpa using h2, fun i hi => ?_⟩
  by_cases ho : o = i
  · subst ho
    have ho2 : o < cs.size := by omega
    exact ⟨x, by simp [ho2]⟩
  · rw [Array.getElem?_setIfInBounds_ne ho]
    exact h3 i hi
end Go.Proofs.YtkgmhmhphgaclabGreatDoor
