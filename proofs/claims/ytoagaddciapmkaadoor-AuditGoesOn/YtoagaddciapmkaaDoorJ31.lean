/-
  A record of a row of one's own written over.
-/
import Derived.Test.YtoagaddciapmkaaDoorJ27
namespace Go.Proofs.YtoagaddciapmkaaDoor
open Go.RowKit Go.WideShapes

theorem set_recs (l : List RecV) (i : Nat) (r : RecV) (hi : i < l.length) : ((((((cellsR l).set (i * 6) (.int .i64 r.seq)).set (i * 6 + 1) (.int .i64 r.tim)).set (i * 6 + 2) (.string r.user)).set (i * 6 + 3) (.string r.deed)).set (i * 6 + 4) (.int .i64 r.out)).set (i * 6 + 5) (.string r.hash) = cellsR (l.set i r) := by
  apply List.ext_getElem?
  intro j
  have hlen := cellsR_len l
  by_cases hj : j < l.length * 6
  · have hq : j / 6 < l.length := by omega
    have hq2 : j / 6 < (l.set i r).length := by rw [List.length_set]; omega
    have e := cellsR_at (l.set i r) (j / 6) (j % 6) hq2 (Nat.mod_lt _ (by decide))
    have e0 := cellsR_at l (j / 6) (j % 6) hq (Nat.mod_lt _ (by decide))
    rw [show j / 6 * 6 + j % 6 = j by omega] at e e0
    rw [e]
    simp only [List.getElem?_set, List.length_set, hlen]
    by_cases hi2 : j / 6 = i
    · have hg : (l.set i r).getD (j / 6) zeroR = r := by simp [List.getD, hi2, hi]
      rw [hg]
      have hr : j % 6 = 0 ∨ j % 6 = 1 ∨ j % 6 = 2 ∨ j % 6 = 3 ∨ j % 6 = 4 ∨ j % 6 = 5 := by omega
      rcases hr with hr | hr | hr | hr | hr | hr
      · rw [if_neg (by omega), if_neg (by omega), if_neg (by omega), if_neg (by omega), if_neg (by omega), if_pos (by omega), if_pos (by omega), hr]
        rfl
      · rw [if_neg (by omega), if_neg (by omega), if_neg (by omega), if_neg (by omega), if_pos (by omega), if_pos (by omega), hr]
        rfl
      · rw [if_neg (by omega), if_neg (by omega), if_neg (by omega), if_pos (by omega), if_pos (by omega), hr]
        rfl
      · rw [if_neg (by omega), if_neg (by omega), if_pos (by omega), if_pos (by omega), hr]
        rfl
      · rw [if_neg (by omega), if_pos (by omega), if_pos (by omega), hr]
        rfl
      · rw [if_pos (by omega), if_pos (by omega), hr]
        rfl
    · have hg : (l.set i r).getD (j / 6) zeroR = l.getD (j / 6) zeroR := by simp [List.getD, show ¬ i = j / 6 by omega]
      rw [hg, ← e0]
      rw [if_neg (by omega), if_neg (by omega), if_neg (by omega), if_neg (by omega), if_neg (by omega), if_neg (by omega)]
  · rw [List.getElem?_eq_none (by simp only [List.length_set, hlen]; omega), List.getElem?_eq_none (by rw [cellsR_len, List.length_set]; omega)]
theorem rown_set {w : World} {base g n cap : Nat} {l : List RecV} (h : ROwn w base (.slice (some ⟨g, 0, none⟩) n cap) l) (hn : n = l.length) (i : Nat) (hi : i < l.length) (r : RecV) :
    ROwn ((((((w.setCell ⟨g, i * 6, none⟩ (.int .i64 r.seq)).setCell ⟨g, i * 6 + 1, none⟩ (.int .i64 r.tim)).setCell ⟨g, i * 6 + 2, none⟩ (.string r.user)).setCell ⟨g, i * 6 + 3, none⟩ (.string r.deed)).setCell ⟨g, i * 6 + 4, none⟩ (.int .i64 r.out)).setCell ⟨g, i * 6 + 5, none⟩ (.string r.hash)) base (.slice (some ⟨g, 0, none⟩) n cap) (l.set i r) ∧
      w.grownBy ((((((w.setCell ⟨g, i * 6, none⟩ (.int .i64 r.seq)).setCell ⟨g, i * 6 + 1, none⟩ (.int .i64 r.tim)).setCell ⟨g, i * 6 + 2, none⟩ (.string r.user)).setCell ⟨g, i * 6 + 3, none⟩ (.string r.deed)).setCell ⟨g, i * 6 + 4, none⟩ (.int .i64 r.out)).setCell ⟨g, i * 6 + 5, none⟩ (.string r.hash)) (some g) := by
  subst hn
  have h1 := World.ownsRow.stored h (i * 6) (.int .i64 r.seq)
  have h2 := World.ownsRow.stored h1.1 (i * 6 + 1) (.int .i64 r.tim)
  have h3 := World.ownsRow.stored h2.1 (i * 6 + 2) (.string r.user)
  have h4 := World.ownsRow.stored h3.1 (i * 6 + 3) (.string r.deed)
  have h5 := World.ownsRow.stored h4.1 (i * 6 + 4) (.int .i64 r.out)
  have h6 := World.ownsRow.stored h5.1 (i * 6 + 5) (.string r.hash)
  refine ⟨?_, ?_⟩
  · have := h6.1
    rw [set_recs l i r hi] at this
    unfold ROwn
    rw [List.length_set]
    exact this
  · have tr : ∀ {a b c : World}, a.grownBy b (some g) → b.grownBy c (some g) → a.grownBy c (some g) := fun {a b c} h k => ⟨k.os.trans h.os, k.tape.trans h.tape, k.output.trans h.output, Nat.le_trans h.size k.size, fun j hj hne => (k.block j (Nat.lt_of_lt_of_le hj h.size) hne).trans (h.block j hj hne)⟩
    exact tr (tr (tr (tr (tr h1.2 h2.2) h3.2) h4.2) h5.2) h6.2
end Go.Proofs.YtoagaddciapmkaaDoor
