/-
  Writes that wait, in memory of the call's own, their bytes however long; and the contract of the document's own answer Twin.
-/
import Derived.Test.YteabacpalnamdaaRBytes
import Derived.Test.YteabacpalnamdaaDDoAll
namespace Go.Proofs.Yteabacpalnamdaa
open Go.RowKit Go.WideShapes
attribute [local go_sem ↓] Go.wp_at_zero Go.wp_at_succ

/-- The cells of writes, their bytes as the values vs. -/
def cellsV : Puts → List Value → List Value
  | y :: ws, v :: vs => .int .i64 y.1 :: v :: cellsV ws vs
  | _, _ => []
theorem cellsV_snoc (y : Int × List Nat) (v : Value) : ∀ (ws : Puts) (vs : List Value), vs.length = ws.length → cellsV (ws ++ [y]) (vs ++ [v]) = cellsV ws vs ++ [.int .i64 y.1, v]
  | [], [], _ => rfl
  | z :: ws, h :: gs, hl => by
    have := cellsV_snoc y v ws gs (by simpa using hl)
    simp [cellsV, this]
  | [], _ :: _, h => by simp at h
  | _ :: _, [], h => by simp at h
theorem cellsV_at : ∀ (ws : Puts) (vs : List Value) (i : Nat), vs.length = ws.length → i < ws.length → (cellsV ws vs)[i * 2]? = some (.int .i64 (ws.getD i (0, [])).1) ∧ (cellsV ws vs)[i * 2 + 1]? = some (vs.getD i undef)
  | y :: ws, v :: vs, 0, _, _ => ⟨rfl, rfl⟩
  | y :: ws, v :: vs, i + 1, h, hi => by
    have := cellsV_at ws vs i (by simpa using h) (by simpa using hi)
    rw [show (i + 1) * 2 = i * 2 + 1 + 1 from by omega]
    simpa [cellsV, List.getD] using this
  | [], _, _, _, h => by simp at h
  | _ :: _, [], _, h, _ => by simp at h
structure PutsG (w : World) (base : Nat) (v : Value) (ws : Puts) (vs : List Value) : Prop where
  len : vs.length = ws.length
  row : w.ownsRow base 51 2 v ws.length (cellsV ws vs)
  rows : ∀ i, i < ws.length → RowG w base (vs.getD i undef) (ws.getD i (0, [])).2
theorem putsG_nil (w : World) (base : Nat) : PutsG w base (.slice none 0 0) [] [] := ⟨rfl, World.ownsRow_nil _ _ _ _, fun i hi => absurd hi (by simp)⟩
theorem PutsG.lies {w : World} {base : Nat} {v : Value} {ws : Puts} {vs : List Value} (h : PutsG w base v ws vs) : ∃ q m, v = .slice q ws.length m ∧ PutsIn w q ws ∧ ws.length ≤ m ∧ m ≤ maxLen ∧ (q = none → m = 0) := by
  rcases h.row.2 with ⟨hv, hn⟩ | ⟨g, cap, cur, hv, hb, hg, hle, hmax, hsz, htk⟩
  · exact ⟨none, 0, by rw [hv, hn], fun h => by omega, by omega, by unfold maxLen; omega, fun _ => rfl⟩
  · subst hv
    refine ⟨_, cap, rfl, fun _ => ⟨g, 0, rfl, fun i hi => ?_⟩, hle, hmax, fun h => by cases h⟩
    obtain ⟨c0, c1⟩ := cellsV_at ws vs i h.len hi
    have e0 : w.cell? ⟨g, i * 2, none⟩ = some (.int .i64 (ws.getD i (0, [])).1) := by rw [h.row.cellAt _ (by omega), c0]
    have e1 : w.cell? ⟨g, i * 2 + 1, none⟩ = some (vs.getD i undef) := by rw [h.row.cellAt _ (by omega), c1]
    exact ⟨by rw [Nat.zero_add]; exact e0, _, by rw [Nat.zero_add]; exact e1, (h.rows i hi).row⟩
theorem PutsG.keepB {w w' : World} {base : Nat} {v : Value} {ws : Puts} {vs : List Value} (h : PutsG w base v ws vs) (hk : ∀ (k : Nat) (cur : Array Value) (t : TypeId), t = 5 ∨ t = 51 → base ≤ k → w.heap[k]? = some (.cells cur t (0, 0)) → w'.heap[k]? = w.heap[k]?) : PutsG w' base v ws vs := by
  refine ⟨h.len, ⟨h.row.1, ?_⟩, fun i hi => (h.rows i hi).keepB fun k cur hb e => hk k cur _ (.inl rfl) hb e⟩
  rcases h.row.2 with h' | ⟨g, cap, cur, h1, h2, h3, h4⟩
  · exact .inl h'
  · exact .inr ⟨g, cap, cur, h1, h2, (hk g cur _ (.inr rfl) h2 h3).trans h3, h4⟩
theorem PutsG.below {w w' : World} {base : Nat} {v : Value} {ws : Puts} {vs : List Value} (h : PutsG w base v ws vs) (hb : Below w.heap.size w w') : PutsG w' base v ws vs := h.keepB fun k _ _ _ _ e => hb.block k (lt_heap e)
theorem PutsG.mono {w : World} {base base' : Nat} {v : Value} {ws : Puts} {vs : List Value} (h : PutsG w base v ws vs) (hb : base' ≤ base) : PutsG w base' v ws vs := by
  refine ⟨h.len, ⟨h.row.1, ?_⟩, fun i hi => (h.rows i hi).mono hb⟩
  rcases h.row.2 with h' | ⟨g, cap, cur, h1, h2, h3⟩
  · exact .inl h'
  · exact .inr ⟨g, cap, cur, h1, Nat.le_trans hb h2, h3⟩
/-- The row of writes is none of bytes. -/
theorem PutsG.apart {w : World} {base : Nat} {v : Value} {ws : Puts} {vs : List Value} (h : PutsG w base v ws vs) {k : Nat} {cs : Array Value} {t : TypeId} (ht : t ≠ 51) (hk : w.heap[k]? = some (.cells cs t (0, 0))) : some k ≠ v.ownBlock := by
  intro e
  rcases h.row.2 with ⟨hv, _⟩ | ⟨g', cap, cur, hv, _, h3, _⟩
  · rw [hv] at e; simp [Value.ownBlock] at e
  · rw [hv] at e
    simp only [Value.ownBlock, Option.some.injEq] at e
    subst e
    rw [hk] at h3
    simp only [Option.some.injEq, Obj.cells.injEq] at h3
    exact ht h3.2.1
theorem PutsG.push {w w1 : World} {base : Nat} {v v' : Value} {ws : Puts} {vs : List Value} {s : Int} {xs : List Nat} {xv : Value} (h : PutsG w base v ws vs) (hx : RowG w base xv xs)
    (hown : w1.ownsRow base 51 2 v' (ws.length + 1) (cellsV ws vs ++ [.int .i64 s, xv])) (hgrow : w.grownBy w1 v.ownBlock) : PutsG w1 base v' (ws ++ [(s, xs)]) (vs ++ [xv]) := by
  have hfar : ∀ (k : Nat) (cs : Array Value), base ≤ k → w.heap[k]? = some (.cells cs 5 (0, 0)) → w1.heap[k]? = w.heap[k]? := fun k cs _ hk => hgrow.block k (lt_heap hk) (h.apart (by decide) hk)
  refine ⟨by simp [h.len], by rw [cellsV_snoc _ _ _ _ h.len]; simpa using hown, ?_⟩
  intro i hi
  simp only [List.length_append, List.length_singleton] at hi
  rcases Nat.lt_or_ge i ws.length with h' | h'
  · have e1 : (vs ++ [xv]).getD i undef = vs.getD i undef := by simp [List.getD, List.getElem?_append_left (show i < vs.length by rw [h.len]; exact h')]
    rw [e1, getD_app_left h']
    exact (h.rows i h').keepB hfar
  · obtain rfl : i = ws.length := by omega
    have e1 : (vs ++ [xv]).getD ws.length undef = xv := by rw [← h.len]; simp [List.getD]
    have e2 : (ws ++ [(s, xs)]).getD ws.length (0, []) = (s, xs) := by simp [List.getD]
    rw [e1, e2]
    exact hx.keepB hfar
/-- A disk of the call's own behind a pointer, as the document's own answers make it. -/
structure DiskG (w : World) (base B0 : Nat) (count : Int) (dv : Value) (data : List Nat) (wv : Value) (ws : Puts) (vs : List Value) : Prop where
  box : w.heap[B0]? = some (.cells #[.int .i64 count, dv, wv] 25 (0, 0))
  hB : base ≤ B0
  data : RowG w base dv data
  puts : PutsG w base wv ws vs
theorem DiskG.below {w w' : World} {base B0 : Nat} {count : Int} {dv wv : Value} {data : List Nat} {ws : Puts} {vs : List Value} (h : DiskG w base B0 count dv data wv ws vs) (hb : Below w.heap.size w w') : DiskG w' base B0 count dv data wv ws vs :=
  ⟨(hb.block _ (lt_heap h.box)).trans h.box, h.hB, h.data.below hb, h.puts.below hb⟩
/-- By value. -/
structure DiskV (w : World) (base : Nat) (v : Value) (count : Int) (data : List Nat) (ws : Puts) : Prop where
  lies : ∃ dv wv vs, v = .agg #[.int .i64 count, dv, wv] ∧ RowG w base dv data ∧ PutsG w base wv ws vs
theorem DiskV.toIn {w : World} {base : Nat} {v : Value} {count : Int} {data : List Nat} {ws : Puts} (h : DiskV w base v count data ws) (hc : (Lit.int .i64 count).wf = true) (hw : ∀ y ∈ ws, (Lit.int .i64 y.1).wf = true) : DiskIn w v count data ws := by
  obtain ⟨dv, wv, vs, rfl, h1, h2⟩ := h.lies
  obtain ⟨q, m, rfl, g1, g2, g3, g4⟩ := h2.lies
  exact ⟨⟨dv, q, m, rfl, h1.row, g1, g2, g3, g4⟩, hc, hw⟩
theorem DiskV.keepB {w w' : World} {base : Nat} {v : Value} {count : Int} {data : List Nat} {ws : Puts} (h : DiskV w base v count data ws) (hk : ∀ (k : Nat) (cur : Array Value) (t : TypeId), t = 5 ∨ t = 51 → base ≤ k → w.heap[k]? = some (.cells cur t (0, 0)) → w'.heap[k]? = w.heap[k]?) : DiskV w' base v count data ws := by
  obtain ⟨dv, wv, vs, h1, h2, h3⟩ := h.lies
  exact ⟨⟨dv, wv, vs, h1, h2.keepB fun k cur hb e => hk k cur _ (.inl rfl) hb e, h3.keepB hk⟩⟩
theorem DiskV.below {w w' : World} {base : Nat} {v : Value} {count : Int} {data : List Nat} {ws : Puts} (h : DiskV w base v count data ws) (hb : Below w.heap.size w w') : DiskV w' base v count data ws := h.keepB fun k _ _ _ _ e => hb.block k (lt_heap e)
theorem DiskV.mono {w : World} {base base' : Nat} {v : Value} {count : Int} {data : List Nat} {ws : Puts} (h : DiskV w base v count data ws) (hb : base' ≤ base) : DiskV w base' v count data ws := by
  obtain ⟨dv, wv, vs, h1, h2, h3⟩ := h.lies
  exact ⟨⟨dv, wv, vs, h1, h2.mono hb, h3.mono hb⟩⟩
theorem DiskV.set3 {w : World} {base B : Nat} {v : Value} {count : Int} {data : List Nat} {ws : Puts} {cs : Array Value} (h : DiskV w base v count data ws) (hB : w.heap[B]? = some (.cells cs 25 (0, 0))) (a b c : Value) :
    DiskV (((w.setCell ⟨B, 0, none⟩ a).setCell ⟨B, 1, none⟩ b).setCell ⟨B, 2, none⟩ c) base v count data ws := by
  refine h.keepB fun k cs' t ht _ e => set3_other w B k a b c ?_
  rintro rfl
  rw [hB] at e
  simp only [Option.some.injEq, Obj.cells.injEq] at e
  rcases ht with rfl | rfl
  · exact absurd e.2.1 (by decide)
  · exact absurd e.2.1 (by decide)
end Go.Proofs.Yteabacpalnamdaa
