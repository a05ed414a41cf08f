/-
  Writes that wait, and disks, in memory of the call's own.
-/
import Derived.Test.YteabacpalnamdaaDSecs
import Derived.Deep.AppendLies
namespace Go.Proofs.Yteabacpalnamdaa
open Go.RowKit Go.WideShapes

/-- The cells of writes, their bytes in the blocks gs. -/
def cellsP : Puts → List Nat → List Value
  | y :: ws, g :: gs => .int .i64 y.1 :: .slice (some ⟨g, 0, none⟩) 128 128 :: cellsP ws gs
  | _, _ => []
theorem cellsP_len : ∀ (ws : Puts) (gs : List Nat), gs.length = ws.length → (cellsP ws gs).length = ws.length * 2
  | [], [], _ => rfl
  | y :: ws, g :: gs, h => by
    have := cellsP_len ws gs (by simpa using h)
    simp [cellsP, this]; omega
  | [], _ :: _, h => by simp at h
  | _ :: _, [], h => by simp at h
theorem cellsP_snoc (y : Int × List Nat) (g : Nat) : ∀ (ws : Puts) (gs : List Nat), gs.length = ws.length → cellsP (ws ++ [y]) (gs ++ [g]) = cellsP ws gs ++ [.int .i64 y.1, .slice (some ⟨g, 0, none⟩) 128 128]
  | [], [], _ => rfl
  | z :: ws, h :: gs, hl => by
    have := cellsP_snoc y g ws gs (by simpa using hl)
    simp [cellsP, this]
  | [], _ :: _, h => by simp at h
  | _ :: _, [], h => by simp at h
theorem cellsP_at : ∀ (ws : Puts) (gs : List Nat) (i : Nat), gs.length = ws.length → i < ws.length → (cellsP ws gs)[i * 2]? = some (.int .i64 (ws.getD i (0, [])).1) ∧ (cellsP ws gs)[i * 2 + 1]? = some (.slice (some ⟨gs.getD i 0, 0, none⟩) 128 128)
  | y :: ws, g :: gs, 0, _, _ => ⟨rfl, rfl⟩
  | y :: ws, g :: gs, i + 1, h, hi => by
    have := cellsP_at ws gs i (by simpa using h) (by simpa using hi)
    rw [show (i + 1) * 2 = i * 2 + 1 + 1 from by omega]
    simpa [cellsP, List.getD] using this
  | [], _, _, _, h => by simp at h
  | _ :: _, [], _, h, _ => by simp at h

/-- Writes that wait, in memory of the call's own: the row of them, and a row of bytes for each. -/
structure PutsOwn (w : World) (base : Nat) (v : Value) (ws : Puts) (gs : List Nat) : Prop where
  len : gs.length = ws.length
  row : w.ownsRow base 51 2 v ws.length (cellsP ws gs)
  rows : ∀ i, i < ws.length → base ≤ gs.getD i 0 ∧ w.heap[gs.getD i 0]? = some (.cells (Bs (ws.getD i (0, [])).2).toArray 5 (0, 0))
  full : ∀ y ∈ ws, y.2.length = 128 ∧ ∀ c ∈ y.2, c < 256
theorem putsOwn_nil (w : World) (base : Nat) : PutsOwn w base (.slice none 0 0) [] [] := ⟨rfl, World.ownsRow_nil _ _ _ _, fun i hi => absurd hi (by simp), by simp⟩
theorem PutsOwn.form {w : World} {base : Nat} {v : Value} {ws : Puts} {gs : List Nat} (h : PutsOwn w base v ws gs) : ∃ q m, v = .slice q ws.length m := by
  rcases h.row.2 with ⟨hv, hn⟩ | ⟨g, cap, cur, hv, _⟩
  · exact ⟨none, 0, by rw [hv, hn]⟩
  · exact ⟨_, cap, hv⟩
theorem PutsOwn.mono {w : World} {base base' : Nat} {v : Value} {ws : Puts} {gs : List Nat} (h : PutsOwn w base v ws gs) (hb : base' ≤ base) : PutsOwn w base' v ws gs := by
  refine ⟨h.len, ⟨h.row.1, ?_⟩, fun i hi => ⟨Nat.le_trans hb (h.rows i hi).1, (h.rows i hi).2⟩, h.full⟩
  rcases h.row.2 with h' | ⟨g, cap, cur, h1, h2, h3⟩
  · exact .inl h'
  · exact .inr ⟨g, cap, cur, h1, Nat.le_trans hb h2, h3⟩
/-- It lies as writes do that are handed in. -/
theorem PutsOwn.lies {w : World} {base : Nat} {q : Option Addr} {n m : Nat} {ws : Puts} {gs : List Nat} (h : PutsOwn w base (.slice q n m) ws gs) : n = ws.length ∧ PutsIn w q ws ∧ ws.length ≤ m ∧ m ≤ maxLen ∧ (q = none → m = 0) := by
  rcases h.row.2 with ⟨hv, hn⟩ | ⟨g, cap, cur, hv, hb, hg, hle, hmax, hsz, htk⟩
  · simp only [Value.slice.injEq] at hv
    obtain ⟨rfl, rfl, rfl⟩ := hv
    exact ⟨by omega, fun h => by omega, by omega, by unfold maxLen; omega, fun _ => rfl⟩
  · simp only [Value.slice.injEq] at hv
    obtain ⟨rfl, rfl, rfl⟩ := hv
    refine ⟨rfl, fun _ => ⟨g, 0, rfl, fun i hi => ?_⟩, hle, hmax, fun h => by cases h⟩
    obtain ⟨c0, c1⟩ := cellsP_at ws gs i h.len hi
    have e0 : w.cell? ⟨g, i * 2, none⟩ = some (.int .i64 (ws.getD i (0, [])).1) := by rw [h.row.cellAt _ (by omega), c0]
    have e1 : w.cell? ⟨g, i * 2 + 1, none⟩ = some (.slice (some ⟨gs.getD i 0, 0, none⟩) 128 128) := by rw [h.row.cellAt _ (by omega), c1]
    refine ⟨by rw [Nat.zero_add]; exact e0, _, by rw [Nat.zero_add]; exact e1, ?_⟩
    have hf := h.full _ (getD_mem hi)
    refine ⟨some ⟨gs.getD i 0, 0, none⟩, 128, by rw [hf.1], bin_row (h.rows i hi).2 hf.2, by omega, by unfold maxLen; omega, fun h => by cases h⟩
/-- It stands where its blocks stand. -/
theorem PutsOwn.keep {w w' : World} {base : Nat} {v : Value} {ws : Puts} {gs : List Nat} (h : PutsOwn w base v ws gs) (hr : ∀ g cur, v.ownBlock = some g → w.heap[g]? = some (.cells cur 51 (0, 0)) → w'.heap[g]? = w.heap[g]?) (hg : ∀ i, i < ws.length → w'.heap[gs.getD i 0]? = w.heap[gs.getD i 0]?) : PutsOwn w' base v ws gs := by
  refine ⟨h.len, ⟨h.row.1, ?_⟩, fun i hi => ⟨(h.rows i hi).1, (hg i hi).trans (h.rows i hi).2⟩, h.full⟩
  rcases h.row.2 with h' | ⟨g, cap, cur, h1, h2, h3, h4⟩
  · exact .inl h'
  · exact .inr ⟨g, cap, cur, h1, h2, (hr g cur (by rw [h1]; rfl) h3).trans h3, h4⟩
theorem lt_heap {w : World} {b : Nat} {o : Obj} (h : w.heap[b]? = some o) : b < w.heap.size := (Array.getElem?_eq_some_iff.1 h).1
theorem PutsOwn.below {w w' : World} {base : Nat} {v : Value} {ws : Puts} {gs : List Nat} (h : PutsOwn w base v ws gs) (hb : Below w.heap.size w w') : PutsOwn w' base v ws gs :=
  h.keep (fun g _ _ e => hb.block g (lt_heap e)) (fun i hi => hb.block _ (lt_heap (h.rows i hi).2))
/-- One more of them. -/
theorem PutsOwn.push {w w1 : World} {base : Nat} {v v' : Value} {ws : Puts} {gs : List Nat} {s : Int} {xs : List Nat} {g : Nat} (h : PutsOwn w base v ws gs) (hx : xs.length = 128 ∧ ∀ c ∈ xs, c < 256) (hb : base ≤ g) (hg : w.heap[g]? = some (.cells (Bs xs).toArray 5 (0, 0)))
    (hown : w1.ownsRow base 51 2 v' (ws.length + 1) (cellsP ws gs ++ [.int .i64 s, .slice (some ⟨g, 0, none⟩) 128 128])) (hgrow : w.grownBy w1 v.ownBlock) : PutsOwn w1 base v' (ws ++ [(s, xs)]) (gs ++ [g]) := by
  have hfar : ∀ (k : Nat) (cs : Array Value), w.heap[k]? = some (.cells cs 5 (0, 0)) → w1.heap[k]? = w.heap[k]? := by
    intro k cs hk
    refine hgrow.block k (lt_heap hk) ?_
    intro e
    rcases h.row.2 with ⟨hv, _⟩ | ⟨g', cap, cur, hv, _, h3, _⟩
    · rw [hv] at e; simp [Value.ownBlock] at e
    · rw [hv] at e
      simp only [Value.ownBlock, Option.some.injEq] at e
      subst e
      rw [hk] at h3
      simp at h3
  refine ⟨by simp [h.len], by rw [cellsP_snoc _ _ _ _ h.len]; simpa using hown, ?_, ?_⟩
  · intro i hi
    simp only [List.length_append, List.length_singleton] at hi
    rcases Nat.lt_or_ge i ws.length with h' | h'
    · have r := h.rows i h'
      have e1 : (gs ++ [g]).getD i 0 = gs.getD i 0 := by simp [List.getD, List.getElem?_append_left (show i < gs.length by rw [h.len]; exact h')]
      rw [e1, getD_app_left h']
      exact ⟨r.1, (hfar _ _ r.2).trans r.2⟩
    · obtain rfl : i = ws.length := by omega
      have e1 : (gs ++ [g]).getD ws.length 0 = g := by rw [← h.len]; simp [List.getD]
      have e2 : (ws ++ [(s, xs)]).getD ws.length (0, []) = (s, xs) := by simp [List.getD]
      rw [e1, e2]
      exact ⟨hb, (hfar _ _ hg).trans hg⟩
  · intro y hy
    simp only [List.mem_append, List.mem_singleton] at hy
    rcases hy with hy | rfl
    · exact h.full y hy
    · exact hx
end Go.Proofs.Yteabacpalnamdaa
