/-
  The document's Format.
-/
import Derived.Test.YtglcpfnpbcnejaaGreatDoorJ34
import Derived.Test.YtglcpfnpbcnejaaGreatDoorJ13
import Derived.Test.YtglcpfnpbcnejaaGreatDoorJ32
namespace Go.Proofs.YtglcpfnpbcnejaaGreatDoor
set_option maxRecDepth 8000
open Go.RowKit Go.WideShapes
attribute [local go_sem ↓] Go.wp_at_zero Go.wp_at_succ

/-- The cells of writes, their bytes as the values vs. -/
def cellsV : Puts → List Value → List Value
  | y :: ws, v :: vs => .int .i64 y.1 :: v :: cellsV ws vs
  | _, _ => []
theorem cellsV_snoc (y : Int × List Nat) (v : Value) : ∀ (ws : Puts) (vs : List Value), vs.length = ws.length → cellsV (ws ++ [y]) (vs ++ [v]) = cellsV ws vs ++ [.int .i64 y.1, v]
  | [], [], _ => rfl
  | z :: ws, h :: gs, hl => by
    have := cellsV_snoc y v ws gs (by simpa using hl)
    simp [cellsV, this]
  | [], _ :: _, h => by simp at h
  | _ :: _, [], h => by simp at h
theorem cellsV_at : ∀ (ws : Puts) (vs : List Value) (i : Nat), vs.length = ws.length → i < ws.length → (cellsV ws vs)[i * 2]? = some (.int .i64 (ws.getD i (0, [])).1) ∧ (cellsV ws vs)[i * 2 + 1]? = some (vs.getD i undef)
  | y :: ws, v :: vs, 0, _, _ => ⟨rfl, rfl⟩
  | y :: ws, v :: vs, i + 1, h, hi => by
    have := cellsV_at ws vs i (by simpa using h) (by simpa using hi)
    rw [show (i + 1) * 2 = i * 2 + 1 + 1 from by omega]
    simpa [cellsV, List.getD] using this
  | [], _, _, _, h => by simp at h
  | _ :: _, [], _, h, _ => by simp at h
structure PutsG (w : World) (base : Nat) (v : Value) (ws : Puts) (vs : List Value) : Prop where
  len : vs.length = ws.length
  row : w.ownsRow base 45 2 v ws.length (cellsV ws vs)
  rows : ∀ i, i < ws.length → RowG w base (vs.getD i undef) (ws.getD i (0, [])).2
theorem putsG_nil (w : World) (base : Nat) : PutsG w base (.slice none 0 0) [] [] := ⟨rfl, World.ownsRow_nil _ _ _ _, fun i hi => absurd hi (by simp)⟩
theorem PutsG.lies {w : World} {base : Nat} {v : Value} {ws : Puts} {vs : List Value} (h : PutsG w base v ws vs) : ∃ q m, v = .slice q ws.length m ∧ PutsIn w q ws ∧ ws.length ≤ m ∧ m ≤ maxLen ∧ (q = none → m = 0) := by
  rcases h.row.2 with ⟨hv, hn⟩ | ⟨g, cap, cur, hv, hb, hg, hle, hmax, hsz, htk⟩
  · exact ⟨none, 0, by rw [hv, hn], fun h => by omega, by omega, by unfold maxLen; omega, fun _ => rfl⟩
  · subst hv
    refine ⟨_, cap, rfl, fun _ => ⟨g, 0, rfl, fun i hi => ?_⟩, hle, hmax, fun h => by cases h⟩
    obtain ⟨c0, c1⟩ := cellsV_at ws vs i h.len hi
    have e0 : w.cell? ⟨g, i * 2, none⟩ = some (.int .i64 (ws.getD i (0, [])).1) := by rw [h.row.cellAt _ (by omega), c0]
    have e1 : w.cell? ⟨g, i * 2 + 1, none⟩ = some (vs.getD i undef) := by rw [h.row.cellAt _ (by omega), c1]
    exact ⟨by rw [Nat.zero_add]; exact e0, _, by rw [Nat.zero_add]; exact e1, (h.rows i hi).row⟩
theorem PutsG.keepB {w w' : World} {base : Nat} {v : Value} {ws : Puts} {vs : List Value} (h : PutsG w base v ws vs) (hk : ∀ (k : Nat) (cur : Array Value) (t : TypeId), t = 5 ∨ t = 45 → base ≤ k → w.heap[k]? = some (.cells cur t (0, 0)) → w'.heap[k]? = w.heap[k]?) : PutsG w' base v ws vs := by
  refine ⟨h.len, ⟨h.row.1, ?_⟩, fun i hi => (h.rows i hi).keepB fun k cur hb e => hk k cur _ (.inl rfl) hb e⟩
  rcases h.row.2 with h' | ⟨g, cap, cur, h1, h2, h3, h4⟩
  · exact .inl h'
  · exact .inr ⟨g, cap, cur, h1, h2, (hk g cur _ (.inr rfl) h2 h3).trans h3, h4⟩
theorem PutsG.below {w w' : World} {base : Nat} {v : Value} {ws : Puts} {vs : List Value} (h : PutsG w base v ws vs) (hb : Below w.heap.size w w') : PutsG w' base v ws vs := h.keepB fun k _ _ _ _ e => hb.block k (lt_heap e)
theorem PutsG.mono {w : World} {base base' : Nat} {v : Value} {ws : Puts} {vs : List Value} (h : PutsG w base v ws vs) (hb : base' ≤ base) : PutsG w base' v ws vs := by
  refine ⟨h.len, ⟨h.row.1, ?_⟩, fun i hi => (h.rows i hi).mono hb⟩
  rcases h.row.2 with h' | ⟨g, cap, cur, h1, h2, h3⟩
  · exact .inl h'
  · exact .inr ⟨g, cap, cur, h1, Nat.le_trans hb h2, h3⟩
/-- The row of writes is none of bytes. -/
theorem PutsG.apart {w : World} {base : Nat} {v : Value} {ws : Puts} {vs : List Value} (h : PutsG w base v ws vs) {k : Nat} {cs : Array Value} {t : TypeId} (ht : t ≠ 45) (hk : w.heap[k]? = some (.cells cs t (0, 0))) : some k ≠ v.ownBlock := by
  intro e
  rcases h.row.2 with ⟨hv, _⟩ | ⟨g', cap, cur, hv, _, h3, _⟩
  · rw [hv] at e; simp [Value.ownBlock] at e
  · rw [hv] at e
    simp only [Value.ownBlock, Option.some.injEq] at e
    subst e
    rw [hk] at h3
    simp only [Option.some.injEq, Obj.cells.injEq] at h3
    exact ht h3.2.1
theorem PutsG.push {w w1 : World} {base : Nat} {v v' : Value} {ws : Puts} {vs : List Value} {s : Int} {xs : List Nat} {xv : Value} (h : PutsG w base v ws vs) (hx : RowG w base xv xs)
    (hown : w1.ownsRow base 45 2 v' (ws.length + 1) (cellsV ws vs ++ [.int .i64 s, xv])) (hgrow : w.grownBy w1 v.ownBlock) : PutsG w1 base v' (ws ++ [(s, xs)]) (vs ++ [xv]) := by
  have hfar : ∀ (k : Nat) (cs : Array Value), base ≤ k → w.heap[k]? = some (.cells cs 5 (0, 0)) → w1.heap[k]? = w.heap[k]? := fun k cs _ hk => hgrow.block k (lt_heap hk) (h.apart (by decide) hk)
  refine ⟨by simp [h.len], by rw [cellsV_snoc _ _ _ _ h.len]; simpa using hown, ?_⟩
  intro i hi
  simp only [List.length_append, List.length_singleton] at hi
  rcases Nat.lt_or_ge i ws.length with h' | h'
  · have e1 : (vs ++ [xv]).getD i undef = vs.getD i undef := by simp [List.getD, List.getElem?_append_left (show i < vs.length by rw [h.len]; exact h')]
    rw [e1, getD_app_left h']
    exact (h.rows i h').keepB hfar
  · obtain rfl : i = ws.length := by omega
    have e1 : (vs ++ [xv]).getD ws.length undef = xv := by rw [← h.len]; simp [List.getD]
    have e2 : (ws ++ [(s, xs)]).getD ws.length (0, []) = (s, xs) := by simp [List.getD]
    rw [e1, e2]
    exact hx.keepB hfar
/-- A disk of the call's own behind a pointer, as the document's own answers make it. -/
structure DiskG (w : World) (base B0 : Nat) (count : Int) (dv : Value) (data : List Nat) (wv : Value) (ws : Puts) (vs : List Value) : Prop where
  box : w.heap[B0]? = some (.cells #[.int .i64 count, dv, wv] 25 (0, 0))
  hB : base ≤ B0
  data : RowG w base dv data
  puts : PutsG w base wv ws vs
theorem DiskG.below {w w' : World} {base B0 : Nat} {count : Int} {dv wv : Value} {data : List Nat} {ws : Puts} {vs : List Value} (h : DiskG w base B0 count dv data wv ws vs) (hb : Below w.heap.size w w') : DiskG w' base B0 count dv data wv ws vs :=
  ⟨(hb.block _ (lt_heap h.box)).trans h.box, h.hB, h.data.below hb, h.puts.below hb⟩
/-- By value. -/
structure DiskV (w : World) (base : Nat) (v : Value) (count : Int) (data : List Nat) (ws : Puts) : Prop where
  lies : ∃ dv wv vs, v = .agg #[.int .i64 count, dv, wv] ∧ RowG w base dv data ∧ PutsG w base wv ws vs
theorem DiskV.toIn {w : World} {base : Nat} {v : Value} {count : Int} {data : List Nat} {ws : Puts} (h : DiskV w base v count data ws) (hc : (Lit.int .i64 count).wf = true) (hw : ∀ y ∈ ws, (Lit.int .i64 y.1).wf = true) : DiskIn w v count data ws := by
  obtain ⟨dv, wv, vs, rfl, h1, h2⟩ := h.lies
  obtain ⟨q, m, rfl, g1, g2, g3, g4⟩ := h2.lies
  exact ⟨⟨dv, q, m, rfl, h1.row, g1, g2, g3, g4⟩, hc, hw⟩
theorem DiskV.keepB {w w' : World} {base : Nat} {v : Value} {count : Int} {data : List Nat} {ws : Puts} (h : DiskV w base v count data ws) (hk : ∀ (k : Nat) (cur : Array Value) (t : TypeId), t = 5 ∨ t = 45 → base ≤ k → w.heap[k]? = some (.cells cur t (0, 0)) → w'.heap[k]? = w.heap[k]?) : DiskV w' base v count data ws := by
  obtain ⟨dv, wv, vs, h1, h2, h3⟩ := h.lies
  exact ⟨⟨dv, wv, vs, h1, h2.keepB fun k cur hb e => hk k cur _ (.inl rfl) hb e, h3.keepB hk⟩⟩
theorem DiskV.below {w w' : World} {base : Nat} {v : Value} {count : Int} {data : List Nat} {ws : Puts} (h : DiskV w base v count data ws) (hb : Below w.heap.size w w') : DiskV w' base v count data ws := h.keepB fun k _ _ _ _ e => hb.block k (lt_heap e)
theorem DiskV.mono {w : World} {base base' : Nat} {v : Value} {count : Int} {data : List Nat} {ws : Puts} (h : DiskV w base v count data ws) (hb : base' ≤ base) : DiskV w base' v count data ws := by
  obtain ⟨dv, wv, vs, h1, h2, h3⟩ := h.lies
  exact ⟨⟨dv, wv, vs, h1, h2.mono hb, h3.mono hb⟩⟩
theorem DiskV.set3 {w : World} {base B : Nat} {v : Value} {count : Int} {data : List Nat} {ws : Puts} {cs : Array Value} (h : DiskV w base v count data ws) (hB : w.heap[B]? = some (.cells cs 25 (0, 0))) (a b c : Value) :
    DiskV (((w.setCell ⟨B, 0, none⟩ a).setCell ⟨B, 1, none⟩ b).setCell ⟨B, 2, none⟩ c) base v count data ws := by
  refine h.keepB fun k cs' t ht _ e => set3_other w B k a b c ?_
  rintro rfl
  rw [hB] at e
  simp only [Option.some.injEq, Obj.cells.injEq] at e
  rcases ht with rfl | rfl
  · exact absurd e.2.1 (by decide)
  · exact absurd e.2.1 (by decide)
end Go.Proofs.YtglcpfnpbcnejaaGreatDoor
namespace Go.Proofs.YtglcpfnpbcnejaaGreatDoor
set_option maxRecDepth 8000
open Go.RowKit Go.WideShapes
attribute [local go_sem ↓] Go.wp_at_zero Go.wp_at_succ

theorem RowG.set3 {w : World} {base B : Nat} {v : Value} {xs : List Nat} {cs : Array Value} (h : RowG w base v xs) (hB : w.heap[B]? = some (.cells cs 25 (0, 0))) (a b c : Value) :
    RowG (((w.setCell ⟨B, 0, none⟩ a).setCell ⟨B, 1, none⟩ b).setCell ⟨B, 2, none⟩ c) base v xs := by
  refine h.keepB fun k cs' _ e => set3_other w B k a b c ?_
  rintro rfl
  rw [hB] at e
  simp only [Option.some.injEq, Obj.cells.injEq] at e
  exact absurd e.2.1 (by decide)
/-- One write more, and the field that holds them stored. -/
theorem DiskG.pushed {w3 w4 : World} {base B0 : Nat} {count : Int} {dv wv : Value} {data : List Nat} {ws : Puts} {vs : List Value} (h : DiskG w3 base B0 count dv data wv ws vs) {s : Int} {xs : List Nat} {xv : Value} {g' cap' n : Nat} {o : Obj} (hx : RowG w3 base xv xs)
    (hn : n = ws.length + 1) (hown : w4.ownsRow base 45 2 (.slice (some ⟨g', 0, none⟩) n cap') n (cellsV ws vs ++ [.int .i64 s, xv])) (hgrow : (w3.alloc o).grownBy w4 wv.ownBlock) :
    DiskG (w4.setCell ⟨B0, 2, none⟩ (.slice (some ⟨g', 0, none⟩) n cap')) base B0 count dv data (.slice (some ⟨g', 0, none⟩) n cap') (ws ++ [(s, xs)]) (vs ++ [xv]) := by
  subst hn
  have ha := h.below (below_alloc w3 o)
  have P4 := ha.puts.push (hx.below (below_alloc w3 o)) hown hgrow
  have box4 := (hgrow.block _ (lt_heap ha.box) (ha.puts.apart (by decide) ha.box)).trans ha.box
  have D4 : RowG w4 base dv data := ha.data.keepB fun k cur _ e => hgrow.block k (lt_heap e) (ha.puts.apart (by decide) e)
  have hBne : ∀ (k : Nat) (cs : Array Value) (t : TypeId), t ≠ 25 → w4.heap[k]? = some (.cells cs t (0, 0)) → k ≠ B0 := by
    rintro k cs t ht hk rfl
    rw [box4] at hk
    simp only [Option.some.injEq, Obj.cells.injEq] at hk
    exact ht hk.2.1.symm
  refine ⟨?_, h.hB, D4.keepB fun k cur _ e => heap_setCell_other w4 ⟨B0, 2, none⟩ k _ (hBne k _ _ (by decide) e), P4.keepB fun k cur t ht _ e => heap_setCell_other w4 ⟨B0, 2, none⟩ k _ (hBne k _ _ (by rcases ht with rfl | rfl <;> decide) e)⟩
  rw [heap_setCell_same w4 B0 2 _ _ _ box4]
  simp
theorem rowG_at {w : World} {base k : Nat} {v : Value} {ws : Puts} {vs : List Value} (hk : ws.length = k) (h : PutsG w base v ws vs) : w.ownsRow base 45 2 v k (cellsV ws vs) := by
  subst hk; exact h.row
theorem results_cell_one {fn : Func} {p : Tmp} {ty : TypeId} (h : fn.results = #[.cell p ty]) (tmps : Array Value) (P : Program) (w : World) :
    (results fn tmps).run P w = ((asAddr (tmps.getD p undef)).run P w).andThen fun a w₁ => (loadVar ty a).run P w₁ := by
  simp only [results, h]
  simp [Sem.run_bind, Result.andThen]
theorem rowG_oneCell {w : World} {base : Nat} {v : Value} {xs : List Nat} (h : RowG w base v xs) (s : Int) : ∀ u ∈ [Value.int .i64 s, v], u.oneCell' = true := by
  obtain ⟨p, c, rfl, _⟩ := h.form
  exact two_oneCell s p _ c
theorem DiskG.toV {w : World} {base B0 : Nat} {count : Int} {dv wv : Value} {data : List Nat} {ws : Puts} {vs : List Value} (h : DiskG w base B0 count dv data wv ws vs) : DiskV w base (.agg #[.int .i64 count, dv, wv]) count data ws := ⟨⟨dv, wv, vs, rfl, h.data, h.puts⟩⟩

set_option maxRecDepth 4000 in
set_option maxHeartbeats 8000000 in
theorem twin_any (v : Value) (count : Int) (data : List Nat) (ws : Puts) (w : World) (hd : DiskIn w v count data ws) (hdl : data.length ≤ 140737488355328) (hwl : ∀ y ∈ ws, y.2.length ≤ 140737488355328) (hfew : ws.length ≤ 100000) :
    Calls Tryz.prog 20 #[v] w fun e w' => (∃ v', e = .returned v' ∧ DiskV w' w.heap.size v' count data ws) ∧ Below w.heap.size w w' := by
  obtain ⟨p, c, q, m, rfl, hb, _, _, hpn, hqp, hqm, hqmm, _⟩ := hd.parts
  have HPN : Hid (p = none → c = 0) := hpn
  have HBD : Hid (BIn w p data) := hb
  have HQ : Hid (PutsIn w q ws) := hqp
  have HDL : Hid (data.length ≤ 140737488355328) := hdl
  have HD : Hid _ := hd
  clear hpn hb hqp hdl hd
  have HWL : Hid (∀ y ∈ ws, y.2.length ≤ 140737488355328) := hwl
  clear hwl
  obtain ⟨i0, hi, hz0, hz1, hz2⟩ := info_parts info_put
  go_enter Tryz.func20, Tryz.ntmps20
  go_wp2
  obtain ⟨W, hW⟩ : ∃ W, W = (w.alloc (.cells #[.int .i64 count, .slice p data.length c, .slice q ws.length m] 25)).alloc (.cells #[.int .i64 0, .slice none 0 0, .slice none 0 0] 25) := ⟨_, rfl⟩
  have HX : Hid (∀ w', Below (w.heap.size + 2) W w' → w'.heap[w.heap.size]? = some (.cells #[.int .i64 count, .slice p data.length c, .slice q ws.length m] 25 (0, 0)) ∧ w'.heap[w.heap.size + 1]? = some (.cells #[.int .i64 0, .slice none 0 0, .slice none 0 0] 25 (0, 0)) ∧ Below w.heap.size w w' ∧ w.heap.size + 2 ≤ w'.heap.size) := by
    intro w' h
    rw [hW] at h
    exact ⟨(box2_cells h).1, (box2_cells h).2, box2_below h, box2_size h⟩
  have HBW : Hid (∀ w', Below (w.heap.size + 2) W w' → Below w.heap.size w w') := fun w' h => (HX.out w' h).2.2.1
  have HWz : Hid (w.heap.size + 2 ≤ W.heap.size) := by show _ ≤ _; rw [hW]; simp
  have HS1 : (W.drew.cell? ⟨w.heap.size, 0, none⟩ = some (.int .i64 count) ∧ W.drew.cell? ⟨w.heap.size, 1, none⟩ = some (.slice p data.length c) ∧ W.drew.cell? ⟨w.heap.size, 2, none⟩ = some (.slice q ws.length m)) ∧ Hid (Below (w.heap.size + 2) W W.drew) := ⟨cells3 (HX.out _ (Below.refl _ _)).1, (Below.refl _ _).drew⟩
  rw [← hW]
  clear hW
  go_cut [3] from 5 (fun s3 w5 => ∃ B0 pd cd, s3 = .pointer (some ⟨B0, 0, none⟩) ∧ DiskG w5 (w.heap.size + 2) B0 count (.slice pd data.length cd) data (.slice none 0 0) [] [] ∧ Below (w.heap.size + 2) W w5)
  case first =>
    refine wp_region_noPanic ?_
    refine wp_region_held_drew (S := (fun w' => (w'.cell? ⟨w.heap.size, 0, none⟩ = some (.int .i64 count) ∧ w'.cell? ⟨w.heap.size, 1, none⟩ = some (.slice p data.length c) ∧ w'.cell? ⟨w.heap.size, 2, none⟩ = some (.slice q ws.length m)) ∧ Hid (Below (w.heap.size + 2) W w'))) (by kernel_rfl) HS1 (fun hS0 => ?_)
    clear HS1
    refine takeH 0 5 (v := ?_) rfl rfl (by kernel_rfl) (by kernel_rfl) (by kernel_rfl) (fun _ _ _ h => h) (by rfl) ?_ (by assumption) ?_
    rotate_left
    · intro w hSw; go_simp; first | done | with_reducible rfl
    simp only [Act.put, List.setIfInBounds_toArray, List.set_cons_zero, List.set_cons_succ]
    refine takeH 1 6 (v := ?_) rfl rfl (by kernel_rfl) (by kernel_rfl) (by kernel_rfl) (fun _ _ _ h => h) (by rfl) ?_ (by assumption) ?_
    rotate_left
    · intro w hSw; go_simp; first | done | with_reducible rfl
    simp only [Act.put, List.setIfInBounds_toArray, List.set_cons_zero, List.set_cons_succ]
    refine takeH 2 7 (v := ?_) rfl rfl (by kernel_rfl) (by kernel_rfl) (by kernel_rfl) (fun _ _ _ h => h) (by rfl) ?_ (by assumption) ?_
    rotate_left
    · intro w hSw; go_simp; first | done | with_reducible rfl
    simp only [Act.put, List.setIfInBounds_toArray, List.set_cons_zero, List.set_cons_succ]
    refine takeH 3 8 (v := ?_) rfl rfl (by kernel_rfl) (by kernel_rfl) (by kernel_rfl) (fun _ _ _ h => h) (by rfl) ?_ (by assumption) ?_
    rotate_left
    · intro w hSw; go_simp; first | done | with_reducible rfl
    simp only [Act.put, List.setIfInBounds_toArray, List.set_cons_zero, List.set_cons_succ]
    refine wpAnyH_ready (rs := [4, 6]) (by kernel_rfl) (by simp) ?_
    refine AllReadyH.cons rfl (fun K hK => ?_) (AllReadyH.cons rfl (fun K hK => ?_) AllReadyH.nil)
    · go_simp
      refine (rbytes_any p c _ data _ rfl (HBD.out.below (HBW.out _ hS0.2.out)) HPN.out HDL.out).mono ?_
      rintro e ww1 ⟨dv, rfl, hg', hb1⟩
      obtain ⟨pd, cd, rfl, _⟩ := hg'.form
      go_simp
      refine hK.out _ _ (keepS HWz.out hS0 hb1) (fun hS1 => ?_)
      clear hK K
      refine takeH 5 10 (v := ?_) rfl rfl (by kernel_rfl) (by kernel_rfl) (by kernel_rfl) (fun _ _ _ h => h) (by rfl) ?_ (by assumption) ?_
      rotate_left
      · intro w hSw; go_simp; first | done | with_reducible rfl
      simp only [Act.put, List.setIfInBounds_toArray, List.set_cons_zero, List.set_cons_succ]
      refine wpAnyH_ready (rs := [6]) (by kernel_rfl) (by simp) ?_
      refine AllReadyH.cons rfl (fun K hK => ?_) AllReadyH.nil
      have hb2 := below_alloc ww1 (.cells #[.int .i64 0, .slice none 0 0, .slice none 0 0] 25)
      go_simp
      refine hK.out _ _ (keepS HWz.out hS1 hb2) (fun hS2 => ?_)
      clear hK K
      refine wpAnyH_ready (rs := [7]) (by kernel_rfl) (by simp) ?_
      refine AllReadyH.cons rfl (fun K hK => ?_) AllReadyH.nil
      have szB := Nat.le_trans HWz.out hS1.2.out.size
      have szC := Nat.le_trans HWz.out hS0.2.out.size
      go_simp
      refine hK.out _ _ (keepA HWz.out hS1 _) (fun hSz => ?_)
      clear hK K
      refine wpAnyH_done (by kernel_rfl) (NoPanic.normal ?_) _
      go_wp2
      go_meet
      case rel =>
        exact ⟨_, pd, cd, rfl, ⟨heap_alloc_new _ _, szB, (hg'.mono szC).below (below_alloc _ _), putsG_nil _ _⟩, hSz.2.out⟩
    · have hb1 := below_alloc W.drew (.cells #[.int .i64 0, .slice none 0 0, .slice none 0 0] 25)
      go_simp
      refine hK.out _ _ (keepS HWz.out hS0 hb1) (fun hS1 => ?_)
      clear hK K
      refine wpAnyH_ready (rs := [4]) (by kernel_rfl) (by simp) ?_
      refine AllReadyH.cons rfl (fun K hK => ?_) AllReadyH.nil
      go_simp
      refine (rbytes_any p c _ data _ rfl (HBD.out.below (HBW.out _ hS1.2.out)) HPN.out HDL.out).mono ?_
      rintro e ww2 ⟨dv, rfl, hg', hb2⟩
      obtain ⟨pd, cd, rfl, _⟩ := hg'.form
      go_simp
      refine hK.out _ _ (keepS HWz.out hS1 hb2) (fun hS2 => ?_)
      clear hK K
      refine takeH 5 10 (v := ?_) rfl rfl (by kernel_rfl) (by kernel_rfl) (by kernel_rfl) (fun _ _ _ h => h) (by rfl) ?_ (by assumption) ?_
      rotate_left
      · intro w hSw; go_simp; first | done | with_reducible rfl
      simp only [Act.put, List.setIfInBounds_toArray, List.set_cons_zero, List.set_cons_succ]
      refine wpAnyH_ready (rs := [7]) (by kernel_rfl) (by simp) ?_
      refine AllReadyH.cons rfl (fun K hK => ?_) AllReadyH.nil
      have hZ : ww2.heap[W.heap.size]? = some (.cells #[.int .i64 0, .slice none 0 0, .slice none 0 0] 25 (0, 0)) := ((hb2).block _ (by first | (rw [World.size_alloc]; exact Nat.lt_succ_self _) | (show _ < (World.alloc _ _).heap.size; rw [World.size_alloc]; exact Nat.lt_succ_self _))).trans (heap_alloc_new _ _)
      obtain ⟨z0, z1, z2⟩ := cells3 hZ
      obtain ⟨y0, y1, y2⟩ := free3 hZ
      have HZ : Hid _ := hZ
      clear hZ
      have szB := Nat.le_trans HWz.out hS0.2.out.size
      have szC := Nat.le_trans HWz.out hS1.2.out.size
      go_simp
      refine hK.out _ _ (keep3 hS2 ⟨by have := szB; simp at this; omega, szB⟩ _ _ _) (fun hSz => ?_)
      clear hK K
      refine wpAnyH_done (by kernel_rfl) (NoPanic.normal ?_) _
      go_wp2
      go_meet
      case rel =>
        exact ⟨_, pd, cd, rfl, ⟨set3_same _ _ _ _ _ _ _ _ _ HZ.out, szB, (hg'.mono szC).set3 HZ.out _ _ _, putsG_nil _ _⟩, hSz.2.out⟩
  case rest =>
    obtain ⟨B0, pd, cd, rfl, hg0, hbc⟩ := hcut
    have HG0 : Hid _ := hg0
    clear hg0 HS1 HD HBD
    go_wp2
    go_loopw [4] (fun i wr => ∃ k : Nat, ∃ qk mk vk, k ≤ ws.length ∧ i = .int .i64 k ∧ DiskG wr (w.heap.size + 2) B0 count (.slice pd data.length cd) data (.slice qk k mk) (ws.take k) vk ∧ Below (w.heap.size + 2) W wr) (fun i _ => ws.length - (intOf i).toNat)
    case atStart => exact ⟨0, none, 0, [], by omega, rfl, HG0.out, hbc⟩
    case round =>
      obtain ⟨k, qk, mk, vk, hk, rfl, hok, hbk⟩ := hrel
      obtain ⟨hbx, hres, hbw, hsz⟩ := HX.out _ hbk
      obtain ⟨b0, b1, b2⟩ := cells3 hok.box
      obtain ⟨x0, x1, x2⟩ := cells3 hbx
      by_cases hkl : k < ws.length
      · have hq := HQ.out.below hbw
        obtain ⟨b, o, rfl⟩ := hq.addr (by omega)
        obtain ⟨e1, pk, ck, e2, hbi, _, _, hpk⟩ := hq.at hkl
        rw [← Nat.add_assoc] at e2
        have HXL : Hid ((ws.getD k (0, [])).2.length ≤ 140737488355328) := HWL.out _ (getD_mem hkl)
        have HTK : Hid (ws.take (k + 1) = ws.take k ++ [ws.getD k (0, [])]) := take_getD hkl
        have HK : Hid ((ws.take k).length = k) := by show _ = _; simp; omega
        generalize ws.getD k (0, []) = y at *
        obtain ⟨s, xs⟩ := y
        simp only at e1 e2 hbi HXL
        have HBI : Hid (BIn wr pk xs) := hbi
        have HPK : Hid (pk = none → ck = 0) := hpk
        have HOK : Hid (DiskG wr (w.heap.size + 2) B0 count (.slice pd data.length cd) data (.slice qk k mk) (ws.take k) vk) := hok
        have hkk : (0 : Int) ≤ (k : Int) := by omega
        have hkw : (k : Int) < (ws.length : Int) := by omega
        have hob : b < w.heap.size := by
          obtain ⟨e1', _⟩ := HQ.out.at hkl
          exact World.block_lt_of_cell? _ _ e1'
        have HT : Hid (∀ w', Below (w.heap.size + 2) W w' → w'.cell? ⟨w.heap.size, 2, none⟩ = some (.slice (some ⟨b, o, none⟩) ws.length m) ∧ w'.cell? ⟨b, o + k * 2, none⟩ = some (.int .i64 s) ∧ w'.cell? ⟨b, o + k * 2 + 1, none⟩ = some (.slice pk xs.length ck)) := by
          intro w' h
          have hc : ∀ a : Addr, a.block < w.heap.size → w'.cell? a = wr.cell? a := fun a ha => (h.cell (by omega)).trans (hbk.cell (by omega)).symm
          exact ⟨(cells3 (HX.out _ h).1).2.2, by rw [hc _ hob]; exact e1, by rw [hc _ hob]; exact e2⟩
        clear hbi hpk hq hok hbx hres
        go_wp2
        have HT0 := HT.out _ hbk.drew
        have HS : wr.drew.cell? ⟨B0, 2, none⟩ = some (.slice qk k mk) := b2
        clear b0 b1 b2 x0 x1 x2 e1 e2
        refine wp_region_noPanic ?_
        refine beginZ (T := fun w' => w'.cell? ⟨w.heap.size, 2, none⟩ = some (.slice (some ⟨b, o, none⟩) ws.length m) ∧ w'.cell? ⟨b, o + k * 2, none⟩ = some (.int .i64 s) ∧ w'.cell? ⟨b, o + k * 2 + 1, none⟩ = some (.slice pk xs.length ck)) (S := fun w' => w'.cell? ⟨B0, 2, none⟩ = some (.slice qk k mk)) 19 (by kernel_rfl) ?_
        refine takeT 0 18 (v := ?_) rfl rfl (by kernel_rfl) (by kernel_rfl) (by kernel_rfl) (by kernel_rfl) (fun _ _ _ h => h) (by rfl) ?_ (by assumption) (by assumption) ?_
        rotate_left
        · intro w hTw; go_simp; first | done | with_reducible rfl
        simp only [Act.put, List.setIfInBounds_toArray, List.set_cons_zero, List.set_cons_succ]
        refine takeZ 1 19 17 (v := ?_) rfl rfl (by kernel_rfl) (by kernel_rfl) (by kernel_rfl) (by kernel_rfl) (by kernel_rfl) (by kernel_rfl) (by kernel_rfl) (fun _ _ _ h => h) (by rfl) ?_ (by assumption) (by assumption) ?_
        rotate_left
        · intro w hTw hSw; go_simp; first | done | with_reducible rfl
        simp only [Act.put, List.setIfInBounds_toArray, List.set_cons_zero, List.set_cons_succ]
        refine takeT 2 20 (v := ?_) rfl rfl (by kernel_rfl) (by kernel_rfl) (by kernel_rfl) (by kernel_rfl) (fun _ _ _ h => h) (by rfl) ?_ (by assumption) (by assumption) ?_
        rotate_left
        · intro w hTw; go_simp; first | done | with_reducible rfl
        simp only [Act.put, List.setIfInBounds_toArray, List.set_cons_zero, List.set_cons_succ]
        refine takeT 3 21 (v := ?_) rfl rfl (by kernel_rfl) (by kernel_rfl) (by kernel_rfl) (by kernel_rfl) (fun _ _ _ h => h) (by rfl) ?_ (by assumption) (by assumption) ?_
        rotate_left
        · intro w hTw; go_simp; first | done | with_reducible rfl
        simp only [Act.put, List.setIfInBounds_toArray, List.set_cons_zero, List.set_cons_succ]
        refine takeT 4 22 (v := ?_) rfl rfl (by kernel_rfl) (by kernel_rfl) (by kernel_rfl) (by kernel_rfl) (fun _ _ _ h => h) (by rfl) ?_ (by assumption) (by assumption) ?_
        rotate_left
        · intro w hTw; go_simp; first | done | with_reducible rfl
        simp only [Act.put, List.setIfInBounds_toArray, List.set_cons_zero, List.set_cons_succ]
        refine takeT 5 23 (v := ?_) rfl rfl (by kernel_rfl) (by kernel_rfl) (by kernel_rfl) (by kernel_rfl) (fun _ _ _ h => h) (by rfl) ?_ (by assumption) (by assumption) ?_
        rotate_left
        · intro w hTw; go_simp; first | done | with_reducible rfl
        simp only [Act.put, List.setIfInBounds_toArray, List.set_cons_zero, List.set_cons_succ]
        refine takeT 6 24 (v := ?_) rfl rfl (by kernel_rfl) (by kernel_rfl) (by kernel_rfl) (by kernel_rfl) (fun _ _ _ h => h) (by rfl) ?_ (by assumption) (by assumption) ?_
        rotate_left
        · intro w hTw; go_simp; first | done | with_reducible rfl
        simp only [Act.put, List.setIfInBounds_toArray, List.set_cons_zero, List.set_cons_succ]
        refine takeT 7 25 (v := ?_) rfl rfl (by kernel_rfl) (by kernel_rfl) (by kernel_rfl) (by kernel_rfl) (fun _ _ _ h => h) (by rfl) ?_ (by assumption) (by assumption) ?_
        rotate_left
        · intro w hTw; go_simp; first | done | with_reducible rfl
        simp only [Act.put, List.setIfInBounds_toArray, List.set_cons_zero, List.set_cons_succ]
        refine takeT 8 26 (v := ?_) rfl rfl (by kernel_rfl) (by kernel_rfl) (by kernel_rfl) (by kernel_rfl) (fun _ _ _ h => h) (by rfl) ?_ (by assumption) (by assumption) ?_
        rotate_left
        · intro w hTw; go_simp; first | done | with_reducible rfl
        simp only [Act.put, List.setIfInBounds_toArray, List.set_cons_zero, List.set_cons_succ]
        refine takeT 9 27 (v := ?_) rfl rfl (by kernel_rfl) (by kernel_rfl) (by kernel_rfl) (by kernel_rfl) (fun _ _ _ h => h) (by rfl) ?_ (by assumption) (by assumption) ?_
        rotate_left
        · intro w hTw; go_simp; first | done | with_reducible rfl
        simp only [Act.put, List.setIfInBounds_toArray, List.set_cons_zero, List.set_cons_succ]
        refine takeT 10 28 (v := ?_) rfl rfl (by kernel_rfl) (by kernel_rfl) (by kernel_rfl) (by kernel_rfl) (fun _ _ _ h => h) (by rfl) ?_ (by assumption) (by assumption) ?_
        rotate_left
        · intro w hTw; go_simp; first | done | with_reducible rfl
        simp only [Act.put, List.setIfInBounds_toArray, List.set_cons_zero, List.set_cons_succ]
        refine takeT 11 29 (v := ?_) rfl rfl (by kernel_rfl) (by kernel_rfl) (by kernel_rfl) (by kernel_rfl) (fun _ _ _ h => h) (by rfl) ?_ (by assumption) (by assumption) ?_
        rotate_left
        · intro w hTw; go_simp; first | done | with_reducible rfl
        simp only [Act.put, List.setIfInBounds_toArray, List.set_cons_zero, List.set_cons_succ]
        refine takeT 12 30 (v := ?_) rfl rfl (by kernel_rfl) (by kernel_rfl) (by kernel_rfl) (by kernel_rfl) (fun _ _ _ h => h) (by rfl) ?_ (by assumption) (by assumption) ?_
        rotate_left
        · intro w hTw; go_simp; first | done | with_reducible rfl
        simp only [Act.put, List.setIfInBounds_toArray, List.set_cons_zero, List.set_cons_succ]
        refine takeT 13 31 (v := ?_) rfl rfl (by kernel_rfl) (by kernel_rfl) (by kernel_rfl) (by kernel_rfl) (fun _ _ _ h => h) (by rfl) ?_ (by assumption) (by assumption) ?_
        rotate_left
        · intro w hTw; go_simp; first | done | with_reducible rfl
        simp only [Act.put, List.setIfInBounds_toArray, List.set_cons_zero, List.set_cons_succ]
        refine oneZ 14 (by kernel_rfl) rfl (by rfl) (fun K hK => ?_)
        go_simp
        refine (rbytes_any pk ck _ xs _ rfl (show BIn wr.drew pk xs from HBI.out) HPK.out HXL.out).mono ?_
        rintro e w2 ⟨xv, rfl, hxg, hb2⟩
        obtain ⟨px, cx, rfl, _⟩ := hxg.form
        have hbW2 : Below (w.heap.size + 2) W w2 := hbk.trans ((below_undrew hb2).mono hsz)
        go_simp
        refine hK.out _ _ (HT.out _ hbW2) (below_cell_some hb2 HS) (fun hTx hSx => ?_)
        clear hK K HT0 HS
        refine takeT 15 33 (v := ?_) rfl rfl (by kernel_rfl) (by kernel_rfl) (by kernel_rfl) (by kernel_rfl) (fun _ _ _ h => h) (by rfl) ?_ (by assumption) (by assumption) ?_
        rotate_left
        · intro w hTw; go_simp; first | done | with_reducible rfl
        simp only [Act.put, List.setIfInBounds_toArray, List.set_cons_zero, List.set_cons_succ]
        refine oneZ 16 (by kernel_rfl) rfl (by rfl) (fun K hK => ?_)
        go_simp
        refine hK.out _ _ (HT.out _ (hbW2.alloc (by have := hb2.size; simp at *; omega) _)) (below_cell_some (below_alloc w2 _) hSx) (fun hTy hSy => ?_)
        clear hK K hTx hSx
        refine oneZ 17 (by kernel_rfl) rfl (by rfl) (fun K hK => ?_)
        have hok2 := HOK.out.below (below_undrew hb2)
        refine step_append_lies _ (by rfl) (.tmp 19) (.tmp 34) 23 (by rfl) (w.heap.size + 2) 45 i0 _ 2 32 Tryz.underlying23 hi hz0 hz1 hz2 rfl (by omega) (.slice qk k mk) k (cellsV (ws.take k) vk) (by rfl) (rowG_at HK.out (hok2.puts.below (below_alloc w2 _))) ⟨w2.heap.size, 0, none⟩ 1 1 [.int .i64 s, .slice px xs.length cx] (by rfl) (by rfl) (World.news_of_block (cs := #[.int .i64 s, .slice px xs.length cx]) (t := 45) (fr := (0, 0)) (heap_alloc_new w2 _)) (rowG_oneCell hxg _) (by omega) (by unfold maxLen; omega) (by omega) (by have := hb2.size; rw [World.size_alloc]; simp at *; omega) (w2.heap.size + 1) (by simp) ?_
        intro g' cap' w4 hown4 hgrow hat hlt4
        have hbW4 : Below (w.heap.size + 2) W w4 := (hbW2.alloc (by have := hb2.size; simp at *; omega) _).grown hgrow (by rw [World.size_alloc]; have := hb2.size; simp at *; omega) (fun x hx => (hok2.puts.row.lt x hx).1)
        have HN2 : Hid (some B0 ≠ (Value.slice qk k mk).ownBlock) := HOK.out.puts.apart (by decide) HOK.out.box
        refine hK.out _ _ (HT.out _ hbW4) (hgrow.cell hSy HN2.out) (fun hTx hSx => ?_)
        clear hK K hTy hSy hat hlt4
        show wpAnyZ _ _ _ _ _ _ _ _ _ (Act.put _ (some 35) _) _
        simp only [Act.put, List.setIfInBounds_toArray, List.set_cons_zero, List.set_cons_succ]
        refine takeT 18 36 (v := ?_) rfl rfl (by kernel_rfl) (by kernel_rfl) (by kernel_rfl) (by kernel_rfl) (fun _ _ _ h => h) (by rfl) ?_ (by assumption) (by assumption) ?_
        rotate_left
        · intro w hTw; go_simp; first | done | with_reducible rfl
        simp only [Act.put, List.setIfInBounds_toArray, List.set_cons_zero, List.set_cons_succ]
        refine lastZ (by kernel_rfl) rfl (by rfl) (fun K hK => ?_)
        have hpd := hok2.pushed (s := s) (n := k + 1) (hxg.mono (show w.heap.size + 2 ≤ wr.drew.heap.size from hsz)) (by rw [HK.out]) hown4 hgrow
        have hbx : w4.heap[B0]? = some (.cells #[.int .i64 count, .slice pd data.length cd, .slice qk k mk] 25 (0, 0)) := (hgrow.block _ (by have := lt_heap hok2.box; rw [World.size_alloc]; omega) HN2.out).trans (((below_alloc w2 _).block _ (lt_heap hok2.box)).trans hok2.box)
        have hfr := frozen_of_row w4 B0 2 _ _ hbx
        have HPD : Hid _ := hpd
        clear hbx hpd
        go_simp
        refine hK.out _ _ (HT.out _ (hbW4.setCell HOK.out.hB _)) ?_
        clear hK K
        refine doneZ (by kernel_rfl) (NoPanic.normal ?_) _
        go_wp2
        go_roundw
        case rel => exact ⟨k + 1, _, _, vk ++ [_], by omega, by go_num, by rw [HTK.out]; exact HPD.out, hbW4.setCell HOK.out.hB _⟩
        case measure => simp [intOf]; omega
      · obtain rfl : k = ws.length := by omega
        rw [List.take_length] at hok
        have HV : Hid (DiskV wr w.heap.size (.agg #[.int .i64 count, .slice pd data.length cd, .slice qk ws.length mk]) count data ws) := hok.toV.mono (by omega)
        obtain ⟨r0, r1, r2⟩ := cells3 hres
        obtain ⟨f0, f1, f2⟩ := free3 hres
        have HR : Hid _ := hres
        clear hok hres hbx HG0
        go_wp2
        (try simp only [Exit.inBlock, Exit.then])
        refine bodyPost_ret (v := .agg #[.int .i64 count, .slice pd data.length cd, .slice qk ws.length mk]) ?_ rfl ⟨⟨_, rfl, HV.out.set3 HR.out _ _ _⟩, set3_below hbw (by omega) _ _ _⟩
        rw [results_cell_one rfl]
        go_simp
end Go.Proofs.YtglcpfnpbcnejaaGreatDoor
namespace Go.Proofs.YtglcpfnpbcnejaaGreatDoor
set_option maxRecDepth 8000
open Go.RowKit Go.WideShapes

theorem may_yes (v : Value) (count : Int) (data : List Nat) (ws : Puts) (w : World) (hd : DiskIn w v count data ws) (ho : Okay count data ws) :
    Calls Tryz.prog 116 #[v] w fun e w' => e = .returned (.bool true) ∧ Below w.heap.size w w' := may_any v count data ws w hd true ⟨fun _ => ho, fun _ => rfl⟩
theorem may_no (v : Value) (count : Int) (data : List Nat) (ws : Puts) (w : World) (hd : DiskIn w v count data ws) (ho : ¬ Okay count data ws) :
    Calls Tryz.prog 116 #[v] w fun e w' => e = .returned (.bool false) ∧ Below w.heap.size w w' := may_any v count data ws w hd false ⟨fun h => (by cases h), fun h => absurd h ho⟩
theorem box1 {w w1 : World} {o : Obj} (h : Below (w.alloc o).heap.size (w.alloc o) w1) : Below (w.heap.size + 1) (w.alloc o) w1 := by simpa using h

set_option maxHeartbeats 1000000 in
theorem rcheck_any (v : Value) (count : Int) (data : List Nat) (ws : Puts) (w : World) (hd : DiskIn w v count data ws) :
    Calls Tryz.prog 83 #[v] w fun e w' => e = .returned (.int .i64 (errC count data ws)) ∧ Below w.heap.size w w' := by
  obtain ⟨p, c, q, m, rfl, _⟩ := hd.parts
  have HD : Hid _ := hd
  clear hd
  by_cases ho : Okay count data ws
  · have HE : Hid _ := errC_ok ho
    go_enter Tryz.func83, Tryz.ntmps83
    go_wp2_with fail
    refine (may_yes _ count data ws _ (HD.out.below (below_alloc w _)) ho).mono ?_
    rintro e w1 ⟨rfl, hb1⟩
    go_wp2
    go_ret
    exact ⟨by rw [HE.out]; rfl, box_below (box1 hb1)⟩
  · have HE : Hid _ := errC_bad ho
    go_enter Tryz.func83, Tryz.ntmps83
    go_wp2_with fail
    refine (may_no _ count data ws _ (HD.out.below (below_alloc w _)) ho).mono ?_
    rintro e w1 ⟨rfl, hb1⟩
    go_wp2
    go_ret
    exact ⟨by rw [HE.out]; rfl, box_below (box1 hb1)⟩
set_option maxHeartbeats 1000000 in
theorem rsure0_any (v : Value) (n : Nat) (count : Int) (data : List Nat) (ws : Puts) (w : World) (hd : DiskIn w v count data ws) (ho : Okay count data ws) (hn : (n : Int) < count) :
    Calls Tryz.prog 118 #[v, .int .i64 n] w fun e w' => (∃ v', e = .returned v' ∧ RowG w' w.heap.size v' (secN data n)) ∧ Below w.heap.size w w' := by
  obtain ⟨p, c, q, m, rfl, hb, hc, hcm, _⟩ := hd.parts
  have hlen := ho.len
  have hhi := ho.hi
  have hnl : (n + 1) * 128 ≤ data.length := by omega
  have HL : Hid ((secN data n).length = 128) := secN_len hnl
  obtain ⟨b, o, rfl⟩ := hb.addr (by omega)
  have HB : Hid (BIn w (some ⟨b, o, none⟩) data) := hb
  have HLL : Hid ((secN data n).length ≤ 140737488355328) := by show _ ≤ _; rw [HL.out]; omega
  have HE : Hid (128 = (secN data n).length) := HL.out.symm
  clear hd ho hlen hb
  go_enter Tryz.func118, Tryz.ntmps118
  go_wp2_with fail
  refine (rbytes_any _ _ _ (secN data n) _ HE.out (bin_sec (HB.out.below (below_alloc w _)) n) (fun h => by cases h) HLL.out).mono ?_
  rintro e w1 ⟨v', rfl, hg, hb1⟩
  have HG : Hid _ := hg.mono (show w.heap.size ≤ _ by simp)
  clear hg
  go_wp2
  go_ret
  exact ⟨⟨_, rfl, HG.out⟩, box_below (box1 hb1)⟩
set_option maxHeartbeats 1000000 in
theorem rnow_any (v : Value) (n : Nat) (count : Int) (data : List Nat) (ws : Puts) (w : World) (hd : DiskIn w v count data ws) (ho : Okay count data ws) (hn : (n : Int) < count) :
    Calls Tryz.prog 92 #[v, .int .i64 n] w fun e w' => (∃ v', e = .returned v' ∧ RowG w' w.heap.size v' (nowN data ws n)) ∧ Below w.heap.size w w' := by
  obtain ⟨p, c, q, m, rfl, hb, hc, _, _, hqp, hqm, hqmm, _⟩ := hd.parts
  have hfew := ho.few
  have HQ : Hid (PutsIn w q ws) := hqp
  have HO : Hid _ := ho
  have HD : Hid _ := hd
  clear hd ho hb hqp
  go_enter Tryz.func92, Tryz.ntmps92
  go_wp2
  go_loopw [5] (fun i wr => ∃ j : Nat, j ≤ ws.length ∧ i = .int .i64 ((j : Int) - 1) ∧ Hid (nowK ws n ws.length = nowK ws n j) ∧ Below (w.heap.size + 1) (w.alloc (.cells #[.int .i64 count, .slice p data.length c, .slice q ws.length m] 25)) wr) (fun i _ => (intOf i + 1).toNat)
  case atStart => exact ⟨ws.length, by omega, rfl, rfl, Below.refl _ _⟩
  case round =>
    obtain ⟨j, hj, rfl, HN, hbk⟩ := hrel
    obtain ⟨r0, r1, r2⟩ := box_cells hbk
    have hz := box_size hbk
    by_cases hj0 : 0 < j
    · obtain ⟨t, rfl⟩ : ∃ t, j = t + 1 := ⟨j - 1, by omega⟩
      rw [show ((t + 1 : Nat) : Int) - 1 = (t : Int) from by omega]
      have htl : t < ws.length := by omega
      have hq := HQ.out.below (box_below hbk)
      obtain ⟨bq, oq, rfl⟩ := hq.addr (by omega)
      obtain ⟨e1, pk, ck, e2, hbi, _, _, hpk⟩ := hq.at htl
      rw [← Nat.add_assoc] at e2
      have hwt := HO.out.wait htl
      have HK : Hid (nowK ws n (t + 1) = if (ws.getD t (0, [])).1 = n then some (ws.getD t (0, [])).2 else nowK ws n t) := rfl
      generalize ws.getD t (0, []) = y at *
      obtain ⟨s, xs⟩ := y
      simp only at e1 e2 hbi hwt
      have HX : Hid (xs.length ≤ 140737488355328) := by show _ ≤ _; rw [hwt.2.2]; omega
      have HBI : Hid (BIn wr pk xs) := hbi
      have HPK : Hid (pk = none → ck = 0) := hpk
      clear hwt hbi hq hpk
      by_cases hs : s = n
      · have HF : Hid (nowN data ws n = xs) := nowN_some (by rw [HN.out, HK.out]; simp [hs])
        have hsb : (s == (n : Int)) = true := by simpa using hs
        clear hs
        go_wp2_with fail
        refine (rbytes_any pk ck _ xs _ rfl HBI.out HPK.out HX.out).mono ?_
        rintro e w3 ⟨v3, rfl, hg3, hb3⟩
        have HG : Hid _ := hg3.mono (show w.heap.size ≤ wr.heap.size by omega)
        have hb4 := (box_below hbk).trans (hb3.mono (by omega))
        clear hg3 hb3
        go_wp2
        go_ret
        refine ⟨⟨_, rfl, ?_⟩, hb4⟩
        rw [HF.out]
        exact HG.out
      · have HF : Hid (nowK ws n ws.length = nowK ws n t) := by show _ = _; rw [HN.out, HK.out]; simp [hs]
        have hsb : (s == (n : Int)) = false := by simpa using hs
        clear hs
        go_wp2
        go_roundw
        case rel => exact ⟨t, by omega, by go_num, HF, hbk⟩
        case measure => simp [intOf]
    · obtain rfl : j = 0 := by omega
      rw [show (((0 : Nat) : Int) - 1) = -1 from by omega]
      have HF : Hid (nowN data ws n = secN data n) := nowN_none (by rw [HN.out]; rfl)
      clear HN
      go_wp2_with fail
      refine (rsure0_any _ n count data ws _ (HD.out.below (box_below hbk)) HO.out hn).mono ?_
      rintro e w3 ⟨⟨v3, rfl, hg3⟩, hb3⟩
      have HG : Hid _ := hg3.mono (show w.heap.size ≤ wr.heap.size by omega)
      have hb4 := (box_below hbk).trans (hb3.mono (by omega))
      clear hg3 hb3
      go_wp2
      go_ret
      refine ⟨⟨_, rfl, ?_⟩, hb4⟩
      rw [HF.out]
      exact HG.out
set_option maxRecDepth 100000 in
set_option maxHeartbeats 400000 in
theorem rnew_ok (n : Nat) (w : World) (h1 : 1 ≤ n) (h2 : n ≤ 4096) :
    Calls Tryz.prog 46 #[.int .i64 n] w fun e w' => ∃ v, e = .returned (.tuple #[v, .int .i64 0]) ∧ DiskNew w' w.heap.size v n (zeroL n) [] ∧ Below w.heap.size w w' := by
  obtain ⟨i0, hi, hz0, hz1, hz2⟩ := info_parts info_u8
  have h : 1 ≤ (n : Int) ∧ (n : Int) ≤ 4096 := by omega
  go_enter Tryz.func46, Tryz.ntmps46
  go_wp2_with (at_make; refine wpList_make_full _ rfl _ _ 22 rfl (w.heap.size + 1) 5 i0 (.int .u8 0) 1 Tryz.underlying22 hi hz0 hz1 .i64 .i64 _ _ (n * 128) rfl rfl (by omega) (by omega) (by rw [hz2]; omega) (by unfold maxLen; omega) (by simp) ?_)
  intro w1 hown hgrow
  have hrow := row_full hown
  rw [zeros_made] at hrow
  have hb1 : Below (w.heap.size + 1) (w.alloc (.cells #[.int .i64 0, .slice none 0 0, .slice none 0 0] 25)) w1 := (Below.refl _ _).grown hgrow (by simp) (fun k hk => by cases hk)
  obtain ⟨c0, c1, c2⟩ := box_cells hb1
  obtain ⟨f0, f1, f2⟩ := box_free hb1
  have HR : Hid (w1.heap[w.heap.size + 1]? = some (.cells (Bs (zeroL n)).toArray 5 (0, 0))) := hrow
  clear hown hgrow hrow
  go_wp2
  (try simp only [Exit.inBlock, Exit.then])
  refine bodyPost_ret (v := .tuple #[.agg #[.int .i64 n, .slice (some ⟨w.heap.size + 1, 0, none⟩) (n * 128) (n * 128), .slice none 0 0], .int .i64 0]) ?_ rfl ⟨_, rfl, ?_, ?_⟩
  · rw [results_cell_tmp rfl]
    go_simp
  · refine DiskNew.set3 ?_ (box_block hb1) _ _ _
    refine ⟨⟨w.heap.size + 1, none, 0, [], by rw [zeroL_len]; rfl, by omega, HR.out, putsOwn_nil _ _, fun i hi => absurd hi (by simp)⟩, ?_⟩
    intro c hc
    rw [(List.mem_replicate.1 hc).2]
    decide
  · exact set3_below (box_below hb1) (Nat.le_refl _) _ _ _
end Go.Proofs.YtglcpfnpbcnejaaGreatDoor
namespace Go.Proofs.YtglcpfnpbcnejaaGreatDoor
open Go.RowKit Go.WideShapes Rm

theorem take_secs (D : List Nat) : ∀ k, (List.range k).flatMap (fun i => secN D i) = D.take (k * 128)
  | 0 => by simp
  | k + 1 => by
    rw [List.range_succ, List.flatMap_append, take_secs D k, show (k + 1) * 128 = k * 128 + 128 by omega, List.take_add]
    simp [secN]
theorem eq_secs {n : Nat} {D E : List Nat} (hD : D.length = n * 128) (hE : E.length = n * 128) (h : ∀ s, s < n → secN D s = secN E s) : D = E := by
  have h1 : D.take (n * 128) = E.take (n * 128) := by
    rw [← take_secs, ← take_secs]
    exact flat_congr fun i hi => h i hi
  rwa [List.take_of_length_le (by omega), List.take_of_length_le (by omega)] at h1
/-- The document's disk, k bytes of the directory laid. -/
def fmtK (n k : Nat) : List Nat := (bytesN emptyD).take k ++ (List.replicate (n * 128) 0).drop k
theorem fmtK_len {n k : Nat} (h1 : 96 ≤ n) (hk : k ≤ 1024) : (fmtK n k).length = n * 128 := by
  have := bytes_len empty_dir
  unfold fmtK
  simp
  omega
theorem fmtK_set {n k : Nat} (h1 : 96 ≤ n) (hk : k < 1024) : (fmtK n k).set k ((bytesN emptyD).getD k 0) = fmtK n (k + 1) := by
  have hl := bytes_len empty_dir
  unfold fmtK
  have e : ((bytesN emptyD).take k).length = k := by simp; omega
  rw [List.set_append_right _ _ (by omega), e, Nat.sub_self, List.drop_replicate, show n * 128 - k = (n * 128 - (k + 1)) + 1 by omega, List.replicate_succ, List.set_cons_zero, List.drop_replicate, List.take_add_one, List.append_assoc]
  congr 1
  rw [List.getElem?_eq_getElem (by omega), List.getD_eq_getElem?_getD, List.getElem?_eq_getElem (by omega)]
  rfl
theorem fmtK_is {n : Nat} {D : List Nat} (h1 : 96 ≤ n) (h2 : n ≤ 4096) (h : FmtIs n D) : fmtK n 1024 = D := by
  have ho := fmt_okay h1 h2 h
  have hl := bytes_len empty_dir
  have hz := zeros_okay h1 h2
  refine eq_secs (n := n) (fmtK_len h1 (by omega)) (by have := ho.len; omega) fun s hs => ?_
  have hk : fmtK n 1024 = bytesN emptyD ++ List.replicate (n * 128 - 1024) 0 := by unfold fmtK; rw [List.take_of_length_le (by omega), List.drop_replicate]
  rw [hk]
  by_cases h8 : s < 8
  · have e1 : nowN D [] (s : Int) = secAt (bytesN emptyD) s := by
      refine now_put (by omega) hz h (fun X hX => ?_) ?_
      · rcases turnA_mem hX with h | ⟨j, hj, e1, e2⟩
        · cases h
        · obtain rfl : s = j := by omega
          exact e2
      · unfold turnA
        exact List.mem_append.2 (.inr (List.mem_append.2 (.inl (List.mem_map.2 ⟨s, List.mem_range.2 h8, by simp⟩))))
    have e2 : secN D s = secAt (bytesN emptyD) s := e1
    rw [e2]
    unfold secN secAt
    rw [List.drop_append_of_le_length (by omega), List.take_append_of_le_length (by rw [List.length_drop]; omega)]
  · have e1 : nowN D [] (s : Int) = nowN (List.replicate (n * 128) 0) [] (s : Int) := by
      refine now_keep (by omega) hz h fun X hX => ?_
      rcases turnA_mem hX with h | ⟨j, hj, e1, _⟩
      · cases h
      · omega
    have e2 : secN D s = List.replicate 128 0 := by rw [zero_now s hs] at e1; exact e1
    rw [e2]
    unfold secN
    rw [List.drop_append, List.drop_of_length_le (by omega), List.nil_append, List.drop_replicate, List.take_replicate]
    congr 1
    omega
theorem fmt_bytes {n : Nat} {D : List Nat} (h1 : 96 ≤ n) (h2 : n ≤ 4096) (h : FmtIs n D) : ∀ c ∈ D, c < 256 := by
  rw [← fmtK_is h1 h2 h]
  intro c hc
  unfold fmtK at hc
  rcases List.mem_append.1 hc with h | h
  · exact wrote_bytes (Wrote.ok empty_may (by decide +kernel)) c (List.mem_of_mem_take h)
  · rw [(List.mem_replicate.1 (List.mem_of_mem_drop h)).2]; decide
theorem fnil2 (w : World) : FIn w (.slice none 0 0) [] := ⟨⟨none, 0, rfl, fun h => absurd h (by simp), by simp, by unfold maxLen; omega, fun _ => rfl⟩, by simp⟩
theorem wrote_empty {m : Int} {b : List Nat} (h : Wrote emptyD m b) : m = 0 ∧ b = bytesN emptyD := h.only (.ok empty_may (by decide +kernel))
/-- What the document's Format leaves in memory. -/
structure RFmtP (w : World) (n : Nat) (e : Ending) (w' : World) : Prop where
  ex : ∃ v D, e = .returned (.tuple #[v, .int .i64 0]) ∧ FmtIs n D ∧ DiskIn w' v (n : Int) D [] ∧ Below w.heap.size w w'
set_option maxRecDepth 8000 in
set_option maxHeartbeats 400000 in
theorem rFormat_bad (n : Int) (w : World) (h : n < 96 ∨ 4096 < n) :
    Calls Tryz.prog 21 #[.int .i64 n] w fun e w' => e = .returned (.tuple #[zeroDisk, .int .i64 20]) ∧ Below w.heap.size w w' := by
  by_cases h1 : 96 ≤ n
  · have h2 : 4096 < n := by omega
    go_enter Tryz.func21, Tryz.ntmps21
    go_wp2
    (try simp only [Exit.inBlock, Exit.then])
    refine bodyPost_ret (v := .tuple #[zeroDisk, .int .i64 20]) ?_ rfl ⟨rfl, below_alloc _ _⟩
    rw [results_cell_tmp rfl]
    go_simp
  · go_enter Tryz.func21, Tryz.ntmps21
    go_wp2
    (try simp only [Exit.inBlock, Exit.then])
    refine bodyPost_ret (v := .tuple #[zeroDisk, .int .i64 20]) ?_ rfl ⟨rfl, below_alloc _ _⟩
    rw [results_cell_tmp rfl]
    go_simp
set_option maxRecDepth 8000 in
set_option maxHeartbeats 4000000 in
theorem rFormat_ok (n : Nat) (w : World) (h1 : 96 ≤ n) (h2 : n ≤ 4096) :
    Calls Tryz.prog 21 #[.int .i64 (n : Int)] w fun e w' => RFmtP w n e w' := by
  obtain ⟨D, hD⟩ := fmt_ex h1 h2
  have h1I : (96 : Int) ≤ (n : Int) := by omega
  have h2I : (n : Int) ≤ 4096 := by omega
  have HD : Hid (FmtIs n D ∧ 96 ≤ n ∧ n ≤ 4096) := ⟨hD, h1, h2⟩
  have hnew := rnew_ok n (w.alloc (.cells #[.int .i64 0, .slice none 0 0, .slice none 0 0] 25)) (by omega) h2
  have HR : Hid ((w.alloc (.cells #[.int .i64 0, .slice none 0 0, .slice none 0 0] 25)).heap[w.heap.size]? = some (.cells #[.int .i64 0, .slice none 0 0, .slice none 0 0] 25 (0, 0))) := heap_alloc_new _ _
  clear h1 h2 hD
  go_enter Tryz.func21, Tryz.ntmps21
  go_wp2_with fail
  refine hnew.mono ?_
  rintro e w1 ⟨v1, rfl, hn1, hb1⟩
  obtain ⟨gd, q, m, gs, rfl, hgd, hrow, hpo, _⟩ := hn1.lies
  simp only [zeroL_len, List.length_nil] at *
  obtain ⟨dl, hdl⟩ : ∃ k, n * 128 = k := ⟨_, rfl⟩
  rw [hdl]
  have HB1 : Hid (Below w.heap.size w w1) := below_bt (below_alloc _ _) hb1
  have HRB : Hid (w1.heap[w.heap.size]? = some (.cells #[.int .i64 0, .slice none 0 0, .slice none 0 0] 25 (0, 0))) := (hb1.block _ (lt_heap HR.out)).trans HR.out
  have HX : Hid ((w1.alloc (.cells #[.int .i64 (n : Int), .slice (some ⟨gd, 0, none⟩) dl dl, .slice q 0 m] 25)).heap[w1.heap.size]? = some (.cells #[.int .i64 (n : Int), .slice (some ⟨gd, 0, none⟩) dl dl, .slice q 0 m] 25 (0, 0))) := heap_alloc_new _ _
  have HG : Hid (w1.heap[gd]? = some (.cells (Bs (zeroL n)).toArray 5 (0, 0)) ∧ w.heap.size < gd ∧ dl = n * 128) := ⟨hrow, by rw [heap_size_alloc] at hgd; omega, hdl.symm⟩
  have HNW : Hid (PutsOwn w1 (w.heap.size + 1) (.slice q 0 m) [] gs) := by rw [heap_size_alloc] at hpo; exact hpo
  have hwr := rWrite_any (.agg #[.int .i64 1, .slice none 0 0]) emptyD (w1.alloc (.cells #[.int .i64 (n : Int), .slice (some ⟨gd, 0, none⟩) dl dl, .slice q 0 m] 25)) ⟨⟨_, rfl, fnil2 _⟩, by unfold wf64; decide⟩ (by simp [emptyD]) (by simp [emptyD, allPcs])
  clear hnew hrow hgd hn1 hb1 hdl hpo
  go_wp2_with fail
  refine hwr.mono ?_
  rintro e w2 ⟨r2, n2, b2, rfl, hw2, ho2, hb2⟩
  obtain ⟨rfl, rfl⟩ := wrote_empty hw2
  rw [bytes_len empty_dir] at ho2
  obtain ⟨g2, m2, rfl, hm2, hM2, hg2⟩ := own_some ho2 (by decide)
  have HB2 : Hid (Below w.heap.size w w2) := below_bt HB1.out (below_bt (below_alloc _ _) hb2)
  have HX2 : Hid (w2.heap[w1.heap.size]? = some (.cells #[.int .i64 (n : Int), .slice (some ⟨gd, 0, none⟩) dl dl, .slice q 0 m] 25 (0, 0))) := (hb2.block _ (lt_heap HX.out)).trans HX.out
  have HR2 : Hid (w2.heap[w.heap.size]? = some (.cells #[.int .i64 0, .slice none 0 0, .slice none 0 0] 25 (0, 0))) := ((below_bt (below_alloc _ _) hb2).block _ (lt_heap HRB.out)).trans HRB.out
  have HG2 : Hid (w2.heap[gd]? = some (.cells (Bs (fmtK n 0)).toArray 5 (0, 0)) ∧ w.heap.size < gd ∧ gd < w1.heap.size ∧ w1.heap.size < g2 ∧ dl = n * 128) := ⟨((below_bt (below_alloc _ _) hb2).block _ (lt_heap HG.out.1)).trans HG.out.1, HG.out.2.1, lt_heap HG.out.1, by have h := World.ownsRow.lt ho2 g2 rfl; simp at h; omega, HG.out.2.2⟩
  have HBI : Hid (BIn w2 (some ⟨g2, 0, none⟩) (bytesN emptyD)) := own_in (by rw [bytes_len empty_dir]; exact ho2) (wrote_bytes hw2)
  unfold maxLen at hM2
  have HNP0 : PutsOwn w2 (w.heap.size + 1) (.slice q 0 m) [] gs := HNW.out.below (below_bt (below_alloc _ _) hb2)
  clear hwr hw2 ho2 hb2 hg2 HRB HX HG HR
  obtain ⟨hn1, hn2⟩ := HD.out.2
  have HNP : Hid (PutsOwn w2 (w.heap.size + 1) (.slice q 0 m) [] gs) := HNP0
  go_wp2
  go_loopw [8] (fun i wr => ∃ k : Nat, k ≤ 1024 ∧ i = .int .i64 (k : Int) ∧ wr.heap[gd]? = some (.cells (Bs (fmtK n k)).toArray 5 (0, 0)) ∧ (∀ j, j ≠ gd → j < w2.heap.size → wr.heap[j]? = w2.heap[j]?) ∧ Below w.heap.size w wr) (fun i _ => 1024 - (intOf i).toNat)
  case atStart => exact ⟨0, by omega, rfl, HG2.out.1, fun _ _ _ => rfl, HB2.out⟩
  case round =>
    obtain ⟨k, hk, rfl, hrow, hoth, hbw⟩ := hrel
    have HRW : Hid _ := hrow
    have HOT : Hid _ := hoth
    have HBW : Hid _ := hbw
    have e1 : wr.heap[w1.heap.size]? = some (.cells #[.int .i64 (n : Int), .slice (some ⟨gd, 0, none⟩) dl dl, .slice q 0 m] 25 (0, 0)) := (hoth _ (by have := HG2.out; omega) (lt_heap HX2.out)).trans HX2.out
    have e2 : wr.heap[w.heap.size]? = some (.cells #[.int .i64 0, .slice none 0 0, .slice none 0 0] 25 (0, 0)) := (hoth _ (by have := HG2.out; omega) (lt_heap HR2.out)).trans HR2.out
    obtain ⟨x0, x1, x2⟩ := three_cells e1
    clear hrow hoth hbw
    by_cases hkl : k < 1024
    · have hkI : (k : Int) < 1024 := by omega
      have hkd : (k : Int) < (dl : Int) := by have := HG2.out.2.2.2.2; omega
      have HKL : Hid (k < 1024) := hkl
      have hcd := cell_of_row wr gd k _ _ _ HRW.out
      rw [show (Bs (fmtK n k)).toArray[k]? = some (.int .u8 ((fmtK n k).getD k 0 : Nat)) from by simp [Bs, List.getD, List.getElem?_eq_getElem (show k < (fmtK n k).length by rw [fmtK_len hn1 hk]; omega)]] at hcd
      have hfd := frozen_of_row wr gd k _ _ HRW.out
      have hcb0 : w2.cell? ⟨g2, k, none⟩ = some (.int .u8 ((bytesN emptyD).getD k 0 : Nat)) := by have h := HBI.out.cell k (show k < (bytesN emptyD).length by rw [bytes_len empty_dir]; exact hkl); simpa using h
      have hcb : wr.cell? ⟨g2, k, none⟩ = some (.int .u8 ((bytesN emptyD).getD k 0 : Nat)) := by
        have hlt := World.block_lt_of_cell? _ _ hcb0
        have hh := HOT.out g2 (by have := HG2.out; omega) hlt
        rw [← hcb0]
        simp only [World.cell?, hh]
      have HS : Hid ((wr.setCell ⟨gd, k, none⟩ (.int .u8 ((bytesN emptyD).getD k 0 : Nat))).heap[gd]? = some (.cells (Bs (fmtK n (k + 1))).toArray 5 (0, 0))) := by
        show _ = _
        rw [heap_setCell_same wr gd k _ _ _ HRW.out, Bs_set, fmtK_set hn1 hkl]
      generalize (bytesN emptyD).getD k 0 = bk at *
      generalize (fmtK n k).getD k 0 = dk at *
      clear hcb0
      go_wp2
      have hne1 : w1.heap.size ≠ gd := by have := HG2.out; omega
      have hne2 : g2 ≠ gd := by have := HG2.out; omega
      have k0 : (0 : Int) ≤ (k : Int) := by omega
      have HSK : Hid ((wr.setCell ⟨gd, k, none⟩ (.int .u8 (bk : Nat))).cell? ⟨w1.heap.size, 1, none⟩ = some (.slice (some ⟨gd, 0, none⟩) dl dl) ∧ (wr.setCell ⟨gd, k, none⟩ (.int .u8 (bk : Nat))).cell? ⟨g2, k, none⟩ = some (.int .u8 (bk : Nat))) := by
        refine ⟨?_, ?_⟩
        · rw [← x1]; simp only [World.cell?, set_keep hne1]
        · rw [← hcb]; simp only [World.cell?, set_keep hne2]
      go_region_held3 (fun w' => w'.cell? ⟨w1.heap.size, 1, none⟩ = some (.slice (some ⟨gd, 0, none⟩) dl dl) ∧ w'.cell? ⟨g2, k, none⟩ = some (.int .u8 (bk : Nat))) (first | exact ⟨x1, hcb⟩ | exact HSK.out) (fail)
      all_goals
        have HN2 : Hid (∀ j, j ≠ gd → j < w2.heap.size → (wr.setCell ⟨gd, k, none⟩ (.int .u8 (bk : Nat))).heap[j]? = w2.heap[j]?) := fun j h1 h2 => (set_keep h1).trans (HOT.out j h1 h2)
        have HB3 : Hid (Below w.heap.size w (wr.setCell ⟨gd, k, none⟩ (.int .u8 (bk : Nat)))) := HBW.out.setCell (Nat.le_of_lt HG2.out.2.1) _
        clear hcd hcb hfd e1 e2 x0 x1 x2 HSK HBW HOT HRW
        go_wp2
        go_roundw
        case rel => exact ⟨k + 1, HKL.out, by go_num, HS.out, HN2.out, HB3.out.drew⟩
        case measure => have := HKL.out; simp [intOf]; omega
    · obtain rfl : k = 1024 := by omega
      clear hkl hk
      obtain ⟨⟨d0, d1, d2⟩, f0, f1, f2⟩ := cells3f e2
      have hlD : D.length = dl := by have := (fmt_okay hn1 hn2 HD.out.1).len; have := HG2.out.2.2.2.2; omega
      have HE : Hid (DiskNew wr (w.heap.size + 1) (.agg #[.int .i64 (n : Int), .slice (some ⟨gd, 0, none⟩) dl dl, .slice q 0 m]) (n : Int) D [] ∧ wr.heap[w.heap.size]? = some (.cells #[.int .i64 0, .slice none 0 0, .slice none 0 0] 25 (0, 0))) := by
        have hr := HRW.out
        rw [fmtK_is hn1 hn2 HD.out.1] at hr
        refine ⟨⟨⟨gd, q, m, gs, by rw [hlD]; rfl, HG2.out.2.1, hr, HNP.out.keep (fun g cur _ e => HOT.out g ?_ (lt_heap e)) (fun i hi => absurd hi (by simp)), fun i hi => absurd hi (by simp)⟩, fmt_bytes hn1 hn2 HD.out.1⟩, e2⟩
        rintro rfl
        rw [HG2.out.1] at e
        cases e
      clear e1 e2 hlD
      go_wp2
      (try simp only [Exit.inBlock, Exit.then])
      refine bodyPost_ret (v := .tuple #[.agg #[.int .i64 (n : Int), .slice (some ⟨gd, 0, none⟩) dl dl, .slice q 0 m], .int .i64 0]) ?_ rfl ⟨⟨_, D, rfl, HD.out.1, (HE.out.1.set3 HE.out.2 _ _ _).toIn (fmt_okay hn1 hn2 HD.out.1), set3_below HBW.out (Nat.le_refl _) _ _ _⟩⟩
      rw [results_cell_tmp rfl]
      go_simp
end Go.Proofs.YtglcpfnpbcnejaaGreatDoor
