/-
  The document's own answers Flush, Crash, Do: where the disk may not be; and what 'made' does byte by byte.
-/
import Derived.Test.YteabacpalnamdaaRU
namespace Go.Proofs.Yteabacpalnamdaa
open Go.RowKit Go.WideShapes
attribute [local go_sem ↓] Go.wp_at_zero Go.wp_at_succ

theorem splice_zero (L : List Nat) (off : Nat) : splice L off [] = L := by
  simp [splice]
/-- One byte more. -/
theorem splice_step (L : List Nat) (off : Nat) (ys : List Nat) (k : Nat) (hk : k < ys.length) (ho : off + ys.length ≤ L.length) :
    (splice L off (ys.take k)).set (off + k) (ys.getD k 0) = splice L off (ys.take (k + 1)) := by
  apply List.ext_getElem?
  intro i
  have e1 : (ys.take k).length = k := by rw [List.length_take]; omega
  have e2 : (ys.take (k + 1)).length = k + 1 := by rw [List.length_take]; omega
  have e3 : (L.take off).length = off := by rw [List.length_take]; omega
  simp only [splice, e1, e2]
  rw [List.getElem?_set]
  by_cases h : off + k = i
  · subst h
    rw [if_pos rfl, if_pos (by simp only [List.length_append, e3, e1, List.length_drop]; omega)]
    rw [List.getElem?_append_right (by omega), e3, List.getElem?_append_left (by omega)]
    rw [show off + k - off = k by omega, List.getElem?_take, if_pos (by omega)]
    simp [List.getD, List.getElem?_eq_getElem hk]
  · rw [if_neg h]
    simp only [List.getElem?_append, e1, e2, e3]
    by_cases h1 : i < off
    · rw [if_pos h1, if_pos h1]
    · rw [if_neg h1, if_neg h1]
      by_cases h2 : i - off < k
      · rw [if_pos h2, if_pos (by omega), List.getElem?_take, List.getElem?_take, if_pos (by omega), if_pos (by omega)]
      · rw [if_neg h2, if_neg (by omega), List.getElem?_drop, List.getElem?_drop]
        congr 1
        omega
/-- What is kept: all, or what the list says. -/
def keptL (all : Bool) (keep : List Bool) (n : Nat) : List Bool := if all = true then List.replicate n true else keep
theorem kept_all (keep : List Bool) (n : Nat) (data : List Nat) (ws : Puts) (hn : n = ws.length) : crashN data ws (keptL true keep n) = settleN data ws := by
  subst hn
  exact crash_all (fun k hk => by simp [keptL, List.getD, hk]) _ (Nat.le_refl _)
theorem kept_some (keep : List Bool) (n : Nat) (data : List Nat) (ws : Puts) : crashN data ws (keptL false keep n) = crashN data ws keep := by simp [keptL]
theorem kept_at (all : Bool) (keep : List Bool) (n k : Nat) (hk : k < n) : (keptL all keep n).getD k false = (all || keep.getD k false) := by
  cases all <;> simp [keptL, List.getD, hk]
theorem crashK_yes {data : List Nat} {ws : Puts} {keep : List Bool} {k : Nat} (h : keep.getD k false = true) : crashK data ws keep (k + 1) = putS (crashK data ws keep k) (ws.getD k (0, [])) := by rw [crashK, if_pos h]
theorem crashK_no {data : List Nat} {ws : Puts} {keep : List Bool} {k : Nat} (h : keep.getD k false = false) : crashK data ws keep (k + 1) = crashK data ws keep k := by rw [crashK, if_neg (by rw [h]; decide)]
/-- A byte of a row of the call's own, stored. -/
theorem RowG.setAt {w : World} {base g cap n : Nat} {xs : List Nat} (h : RowG w base (.slice (some ⟨g, 0, none⟩) n cap) xs) (i b : Nat) (hb : b < 256) :
    RowG (w.setCell ⟨g, i, none⟩ (.int .u8 b)) base (.slice (some ⟨g, 0, none⟩) n cap) (xs.set i b) := by
  rcases h.own.2 with ⟨hv, hn⟩ | ⟨g', cap', cur, hv, hg, hh, hle, hmax, hsz, htk⟩
  · cases hv
  · simp only [Value.slice.injEq, Option.some.injEq, Addr.mk.injEq, and_true] at hv
    obtain ⟨rfl, rfl, rfl⟩ := hv
    refine ⟨⟨by simp [Bs], .inr ⟨g, cap, _, by simp, hg, heap_setCell_same w g i _ _ _ hh, by simpa using hle, hmax, by simpa using hsz, ?_⟩⟩, ?_⟩
    · rw [Array.toList_setIfInBounds, List.take_set, List.length_set, htk]
      simp [Bs, List.map_set]
    · intro c hc
      rcases List.mem_or_eq_of_mem_set hc with h1 | h1
      · exact h.bytes c h1
      · omega
set_option maxRecDepth 8000 in
set_option maxHeartbeats 4000000 in
theorem rflush_bad (v : Value) (count : Int) (data : List Nat) (ws : Puts) (w : World) (hd : DiskIn w v count data ws) (ho : ¬ Okay count data ws) :
    Calls Try.prog 29 #[v] w fun e w' => e = .returned (.tuple #[zeroDisk, .int .i64 20]) ∧ Below w.heap.size w w' := by
  obtain ⟨pd, cd, q, m, rfl, _⟩ := hd.parts
  have HD : Hid _ := hd
  clear hd
  go_enter Try.func29, Try.ntmps29
  go_wp2_with fail
  refine (may_any _ count data ws _ (HD.out.below ((below_alloc w _).alloc (by simp) _)) false ⟨fun h => (by simp at h), fun h => absurd h ho⟩).mono ?_
  rintro e w1 ⟨rfl, hb1⟩
  replace hb1 := box2_of hb1
  obtain ⟨hB, hR⟩ := box2_cells hb1
  obtain ⟨x0, x1, x2⟩ := cells3 hB
  obtain ⟨r0, r1, r2⟩ := cells3 hR
  obtain ⟨f0, f1, f2⟩ := free3 hR
  have hsz := box2_size hb1
  have hbw := box2_below hb1
  clear hB hR
  go_wp2
  (try simp only [Exit.inBlock, Exit.then])
  refine bodyPost_ret (v := .tuple #[zeroDisk, .int .i64 20]) ?_ rfl ⟨rfl, set3_below hbw (by omega) _ _ _⟩
  rw [results_cell_tmp rfl]
  go_simp
set_option maxRecDepth 8000 in
set_option maxHeartbeats 4000000 in
theorem rcrash_bad (v l : Value) (count : Int) (data : List Nat) (ws : Puts) (w : World) (hd : DiskIn w v count data ws) (ho : ¬ Okay count data ws) :
    Calls Try.prog 30 #[v, l] w fun e w' => e = .returned (.tuple #[zeroDisk, .int .i64 20]) ∧ Below w.heap.size w w' := by
  obtain ⟨pd, cd, q, m, rfl, _⟩ := hd.parts
  have HD : Hid _ := hd
  clear hd
  go_enter Try.func30, Try.ntmps30
  go_wp2_with fail
  refine (may_any _ count data ws _ (HD.out.below ((below_alloc w _).alloc (by simp) _)) false ⟨fun h => (by simp at h), fun h => absurd h ho⟩).mono ?_
  rintro e w1 ⟨rfl, hb1⟩
  replace hb1 := box2_of hb1
  obtain ⟨hB, hR⟩ := box2_cells hb1
  obtain ⟨x0, x1, x2⟩ := cells3 hB
  obtain ⟨r0, r1, r2⟩ := cells3 hR
  obtain ⟨f0, f1, f2⟩ := free3 hR
  have hsz := box2_size hb1
  have hbw := box2_below hb1
  clear hB hR
  go_wp2
  (try simp only [Exit.inBlock, Exit.then])
  refine bodyPost_ret (v := .tuple #[zeroDisk, .int .i64 20]) ?_ rfl ⟨rfl, set3_below hbw (by omega) _ _ _⟩
  rw [results_cell_tmp rfl]
  go_simp
set_option maxRecDepth 8000 in
set_option maxHeartbeats 4000000 in
theorem rdo_bad (v l : Value) (count : Int) (data : List Nat) (ws : Puts) (w : World) (hd : DiskIn w v count data ws) (ho : ¬ Okay count data ws) :
    Calls Try.prog 28 #[v, l] w fun e w' => e = .returned (.tuple #[zeroDisk, .int .i64 20]) ∧ Below w.heap.size w w' := by
  obtain ⟨pd, cd, q, m, rfl, _⟩ := hd.parts
  have HD : Hid _ := hd
  clear hd
  go_enter Try.func28, Try.ntmps28
  go_wp2_with fail
  refine (may_any _ count data ws _ (HD.out.below ((below_alloc w _).alloc (by simp) _)) false ⟨fun h => (by simp at h), fun h => absurd h ho⟩).mono ?_
  rintro e w1 ⟨rfl, hb1⟩
  replace hb1 := box2_of hb1
  obtain ⟨hB, hR⟩ := box2_cells hb1
  obtain ⟨x0, x1, x2⟩ := cells3 hB
  obtain ⟨r0, r1, r2⟩ := cells3 hR
  obtain ⟨f0, f1, f2⟩ := free3 hR
  have hsz := box2_size hb1
  have hbw := box2_below hb1
  clear hB hR
  go_wp2
  (try simp only [Exit.inBlock, Exit.then])
  refine bodyPost_ret (v := .tuple #[zeroDisk, .int .i64 20]) ?_ rfl ⟨rfl, set3_below hbw (by omega) _ _ _⟩
  rw [results_cell_tmp rfl]
  go_simp
end Go.Proofs.Yteabacpalnamdaa
