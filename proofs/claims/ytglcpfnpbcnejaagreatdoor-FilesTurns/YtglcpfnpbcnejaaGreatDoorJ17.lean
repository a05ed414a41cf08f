/-
  Statements whose order Go leaves open and that end by a store (or what else turns what they read): S is held behind every operation but number z.
-/
import Derived.Test.YtglcpfnpbcnejaaGreatDoorJ16
import Derived.Deep.AppendLies
import Derived.WalkKit
import Derived.WideShapes
import Derived.Deep.RegionHeld3
namespace Go.Proofs.YtglcpfnpbcnejaaGreatDoor
set_option maxRecDepth 8000
open Go.RowKit Go.WideShapes

/-- The cells of writes, their bytes in the blocks gs. -/
def cellsP : Puts → List Nat → List Value
  | y :: ws, g :: gs => .int .i64 y.1 :: .slice (some ⟨g, 0, none⟩) 128 128 :: cellsP ws gs
  | _, _ => []
theorem cellsP_snoc (y : Int × List Nat) (g : Nat) : ∀ (ws : Puts) (gs : List Nat), gs.length = ws.length → cellsP (ws ++ [y]) (gs ++ [g]) = cellsP ws gs ++ [.int .i64 y.1, .slice (some ⟨g, 0, none⟩) 128 128]
  | [], [], _ => rfl
  | z :: ws, h :: gs, hl => by
    have := cellsP_snoc y g ws gs (by simpa using hl)
    simp [cellsP, this]
  | [], _ :: _, h => by simp at h
  | _ :: _, [], h => by simp at h
theorem cellsP_at : ∀ (ws : Puts) (gs : List Nat) (i : Nat), gs.length = ws.length → i < ws.length → (cellsP ws gs)[i * 2]? = some (.int .i64 (ws.getD i (0, [])).1) ∧ (cellsP ws gs)[i * 2 + 1]? = some (.slice (some ⟨gs.getD i 0, 0, none⟩) 128 128)
  | y :: ws, g :: gs, 0, _, _ => ⟨rfl, rfl⟩
  | y :: ws, g :: gs, i + 1, h, hi => by
    have := cellsP_at ws gs i (by simpa using h) (by simpa using hi)
    rw [show (i + 1) * 2 = i * 2 + 1 + 1 from by omega]
    simpa [cellsP, List.getD] using this
  | [], _, _, _, h => by simp at h
  | _ :: _, [], _, h, _ => by simp at h

/-- Writes that wait, in memory of the call's own: the row of them, and a row of bytes for each. -/
structure PutsOwn (w : World) (base : Nat) (v : Value) (ws : Puts) (gs : List Nat) : Prop where
  len : gs.length = ws.length
  row : w.ownsRow base 45 2 v ws.length (cellsP ws gs)
  rows : ∀ i, i < ws.length → base ≤ gs.getD i 0 ∧ w.heap[gs.getD i 0]? = some (.cells (Bs (ws.getD i (0, [])).2).toArray 5 (0, 0))
  full : ∀ y ∈ ws, y.2.length = 128 ∧ ∀ c ∈ y.2, c < 256
theorem putsOwn_nil (w : World) (base : Nat) : PutsOwn w base (.slice none 0 0) [] [] := ⟨rfl, World.ownsRow_nil _ _ _ _, fun i hi => absurd hi (by simp), by simp⟩
theorem PutsOwn.form {w : World} {base : Nat} {v : Value} {ws : Puts} {gs : List Nat} (h : PutsOwn w base v ws gs) : ∃ q m, v = .slice q ws.length m := by
  rcases h.row.2 with ⟨hv, hn⟩ | ⟨g, cap, cur, hv, _⟩
  · exact ⟨none, 0, by rw [hv, hn]⟩
  · exact ⟨_, cap, hv⟩
theorem PutsOwn.mono {w : World} {base base' : Nat} {v : Value} {ws : Puts} {gs : List Nat} (h : PutsOwn w base v ws gs) (hb : base' ≤ base) : PutsOwn w base' v ws gs := by
  refine ⟨h.len, ⟨h.row.1, ?_⟩, fun i hi => ⟨Nat.le_trans hb (h.rows i hi).1, (h.rows i hi).2⟩, h.full⟩
  rcases h.row.2 with h' | ⟨g, cap, cur, h1, h2, h3⟩
  · exact .inl h'
  · exact .inr ⟨g, cap, cur, h1, Nat.le_trans hb h2, h3⟩
/-- It lies as writes do that are handed in. -/
theorem PutsOwn.lies {w : World} {base : Nat} {q : Option Addr} {n m : Nat} {ws : Puts} {gs : List Nat} (h : PutsOwn w base (.slice q n m) ws gs) : n = ws.length ∧ PutsIn w q ws ∧ ws.length ≤ m ∧ m ≤ maxLen ∧ (q = none → m = 0) := by
  rcases h.row.2 with ⟨hv, hn⟩ | ⟨g, cap, cur, hv, hb, hg, hle, hmax, hsz, htk⟩
  · simp only [Value.slice.injEq] at hv
    obtain ⟨rfl, rfl, rfl⟩ := hv
    exact ⟨by omega, fun h => by omega, by omega, by unfold maxLen; omega, fun _ => rfl⟩
  · simp only [Value.slice.injEq] at hv
    obtain ⟨rfl, rfl, rfl⟩ := hv
    refine ⟨rfl, fun _ => ⟨g, 0, rfl, fun i hi => ?_⟩, hle, hmax, fun h => by cases h⟩
    obtain ⟨c0, c1⟩ := cellsP_at ws gs i h.len hi
    have e0 : w.cell? ⟨g, i * 2, none⟩ = some (.int .i64 (ws.getD i (0, [])).1) := by rw [h.row.cellAt _ (by omega), c0]
    have e1 : w.cell? ⟨g, i * 2 + 1, none⟩ = some (.slice (some ⟨gs.getD i 0, 0, none⟩) 128 128) := by rw [h.row.cellAt _ (by omega), c1]
    refine ⟨by rw [Nat.zero_add]; exact e0, _, by rw [Nat.zero_add]; exact e1, ?_⟩
    have hf := h.full _ (getD_mem hi)
    refine ⟨some ⟨gs.getD i 0, 0, none⟩, 128, by rw [hf.1], bin_row (h.rows i hi).2 hf.2, by omega, by unfold maxLen; omega, fun h => by cases h⟩
/-- It stands where its blocks stand. -/
theorem PutsOwn.keep {w w' : World} {base : Nat} {v : Value} {ws : Puts} {gs : List Nat} (h : PutsOwn w base v ws gs) (hr : ∀ g cur, v.ownBlock = some g → w.heap[g]? = some (.cells cur 45 (0, 0)) → w'.heap[g]? = w.heap[g]?) (hg : ∀ i, i < ws.length → w'.heap[gs.getD i 0]? = w.heap[gs.getD i 0]?) : PutsOwn w' base v ws gs := by
  refine ⟨h.len, ⟨h.row.1, ?_⟩, fun i hi => ⟨(h.rows i hi).1, (hg i hi).trans (h.rows i hi).2⟩, h.full⟩
  rcases h.row.2 with h' | ⟨g, cap, cur, h1, h2, h3, h4⟩
  · exact .inl h'
  · exact .inr ⟨g, cap, cur, h1, h2, (hr g cur (by rw [h1]; rfl) h3).trans h3, h4⟩
theorem lt_heap {w : World} {b : Nat} {o : Obj} (h : w.heap[b]? = some o) : b < w.heap.size := (Array.getElem?_eq_some_iff.1 h).1
theorem PutsOwn.below {w w' : World} {base : Nat} {v : Value} {ws : Puts} {gs : List Nat} (h : PutsOwn w base v ws gs) (hb : Below w.heap.size w w') : PutsOwn w' base v ws gs :=
  h.keep (fun g _ _ e => hb.block g (lt_heap e)) (fun i hi => hb.block _ (lt_heap (h.rows i hi).2))
/-- One more of them. -/
theorem PutsOwn.push {w w1 : World} {base : Nat} {v v' : Value} {ws : Puts} {gs : List Nat} {s : Int} {xs : List Nat} {g : Nat} (h : PutsOwn w base v ws gs) (hx : xs.length = 128 ∧ ∀ c ∈ xs, c < 256) (hb : base ≤ g) (hg : w.heap[g]? = some (.cells (Bs xs).toArray 5 (0, 0)))
    (hown : w1.ownsRow base 45 2 v' (ws.length + 1) (cellsP ws gs ++ [.int .i64 s, .slice (some ⟨g, 0, none⟩) 128 128])) (hgrow : w.grownBy w1 v.ownBlock) : PutsOwn w1 base v' (ws ++ [(s, xs)]) (gs ++ [g]) := by
  have hfar : ∀ (k : Nat) (cs : Array Value), w.heap[k]? = some (.cells cs 5 (0, 0)) → w1.heap[k]? = w.heap[k]? := by
    intro k cs hk
    refine hgrow.block k (lt_heap hk) ?_
    intro e
    rcases h.row.2 with ⟨hv, _⟩ | ⟨g', cap, cur, hv, _, h3, _⟩
    · rw [hv] at e; simp [Value.ownBlock] at e
    · rw [hv] at e
      simp only [Value.ownBlock, Option.some.injEq] at e
      subst e
      rw [hk] at h3
      simp at h3
  refine ⟨by simp [h.len], by rw [cellsP_snoc _ _ _ _ h.len]; simpa using hown, ?_, ?_⟩
  · intro i hi
    simp only [List.length_append, List.length_singleton] at hi
    rcases Nat.lt_or_ge i ws.length with h' | h'
    · have r := h.rows i h'
      have e1 : (gs ++ [g]).getD i 0 = gs.getD i 0 := by simp [List.getD, List.getElem?_append_left (show i < gs.length by rw [h.len]; exact h')]
      rw [e1, getD_app_left h']
      exact ⟨r.1, (hfar _ _ r.2).trans r.2⟩
    · obtain rfl : i = ws.length := by omega
      have e1 : (gs ++ [g]).getD ws.length 0 = g := by rw [← h.len]; simp [List.getD]
      have e2 : (ws ++ [(s, xs)]).getD ws.length (0, []) = (s, xs) := by simp [List.getD]
      rw [e1, e2]
      exact ⟨hb, (hfar _ _ hg).trans hg⟩
  · intro y hy
    simp only [List.mem_append, List.mem_singleton] at hy
    rcases hy with hy | rfl
    · exact h.full y hy
    · exact hx
end Go.Proofs.YtglcpfnpbcnejaaGreatDoor
namespace Go.Proofs.YtglcpfnpbcnejaaGreatDoor
set_option maxRecDepth 8000
open Go.RowKit Go.WideShapes
attribute [local go_sem ↓] Go.wp_at_zero Go.wp_at_succ

theorem info_put : (Tryz.prog.info? 45).map (fun i => (i.zero, i.size, i.bytes)) = some (some (.agg #[.int .i64 0, .slice none 0 0]), 2, 32) := by kernel_rfl
theorem take_getD {ws : Puts} {k : Nat} (h : k < ws.length) : ws.take (k + 1) = ws.take k ++ [ws.getD k (0, [])] := by
  rw [List.take_succ_eq_append_getElem h]; simp [List.getD, List.getElem?_eq_getElem h]
theorem PutsIn.at2 {w : World} {b o : Nat} {ws : Puts} (h : PutsIn w (some ⟨b, o, none⟩) ws) {k : Nat} (hk : k < ws.length) :
    w.cell? ⟨b, o + k * 2, none⟩ = some (.int .i64 (ws.getD k (0, [])).1) ∧ ∃ p c, w.cell? ⟨b, o + k * 2 + 1, none⟩ = some (.slice p (ws.getD k (0, [])).2.length c) ∧ BIn w p (ws.getD k (0, [])).2 := by
  obtain ⟨h1, p, c, h2, h3, _⟩ := h.at hk
  exact ⟨h1, p, c, by rw [Nat.add_assoc]; exact h2, h3⟩
theorem put_cells {w wr : World} {a b : Value} {t : TypeId} (h : Below (w.heap.size + 1) (w.alloc (.cells #[a, b] t)) wr) :
    wr.cell? ⟨w.heap.size, 0, none⟩ = some a ∧ wr.cell? ⟨w.heap.size, 1, none⟩ = some b := by
  have hh : wr.heap[w.heap.size]? = some (.cells #[a, b] t (0, 0)) := (h.block _ (by omega)).trans (heap_alloc_new w _)
  exact ⟨cell_of_row _ _ _ _ _ _ hh, cell_of_row _ _ _ _ _ _ hh⟩
theorem two_oneCell (s : Int) (p : Option Addr) (n c : Nat) : ∀ u ∈ [Value.int .i64 s, Value.slice p n c], u.oneCell' = true := by
  intro u hu
  simp only [List.mem_cons, List.not_mem_nil, or_false] at hu
  rcases hu with rfl | rfl <;> rfl

theorem c2_below {w1 w2 : World} {B : Nat} {x y : Value} (h : w1.cell? ⟨B, 0, none⟩ = some x ∧ w1.cell? ⟨B, 1, none⟩ = some y) (hb : Below w1.drew.heap.size w1.drew w2) : w2.cell? ⟨B, 0, none⟩ = some x ∧ w2.cell? ⟨B, 1, none⟩ = some y :=
  ⟨(hb.cell (World.block_lt_of_cell? _ _ h.1)).trans h.1, (hb.cell (World.block_lt_of_cell? _ _ h.2)).trans h.2⟩
theorem c2_alloc {w1 : World} {B : Nat} {x y : Value} (h : w1.cell? ⟨B, 0, none⟩ = some x ∧ w1.cell? ⟨B, 1, none⟩ = some y) (o : Obj) : (w1.alloc o).cell? ⟨B, 0, none⟩ = some x ∧ (w1.alloc o).cell? ⟨B, 1, none⟩ = some y :=
  c2_below h (let hb := below_alloc w1 o; ⟨hb.os, hb.tape, hb.output, hb.size, hb.block⟩)
theorem c2_grown {w1 w2 : World} {B : Nat} {x y : Value} {r : Option Nat} (h : w1.cell? ⟨B, 0, none⟩ = some x ∧ w1.cell? ⟨B, 1, none⟩ = some y) (hg : w1.grownBy w2 r) (hne : some B ≠ r) : w2.cell? ⟨B, 0, none⟩ = some x ∧ w2.cell? ⟨B, 1, none⟩ = some y :=
  ⟨hg.cell h.1 hne, hg.cell h.2 hne⟩
theorem ownBlock_ne {w : World} {base n : Nat} {v : Value} {xs : List Value} (h : w.ownsRow base 45 2 v n xs) : some w.heap.size ≠ v.ownBlock := by
  intro e
  have := (h.lt _ e.symm).2
  omega

theorem row_at {w : World} {base k : Nat} {v : Value} {ws : Puts} {gs : List Nat} (hk : ws.length = k) (h : PutsOwn w base v ws gs) : w.ownsRow base 45 2 v k (cellsP ws gs) := by
  subst hk; exact h.row
set_option maxHeartbeats 2000000 in
theorem waits_any (v : Value) (count : Int) (data : List Nat) (ws : Puts) (w : World) (hd : DiskIn w v count data ws) (ho : Okay count data ws) :
    Calls Tryz.prog 41 #[v] w fun e w' => ∃ q m gs, e = .returned (.slice q ws.length m) ∧ PutsOwn w' w.heap.size (.slice q ws.length m) ws gs ∧ Below w.heap.size w w' := by
  obtain ⟨p, c, q, m, rfl, hb, hc, hcm, hp, hq, hm, hmm, hqn⟩ := hd.parts
  obtain ⟨i0, hi, hz0, hz1, hz2⟩ := info_parts info_put
  have hfew := ho.few
  clear hd hp hqn hb hc hcm
  go_enter Tryz.func41, Tryz.ntmps41
  go_wp2
  go_loopw [3, 9] (fun l i wr => ∃ k : Nat, ∃ q' m' gs, k ≤ ws.length ∧ i = .int .i64 k ∧ l = .slice q' k m' ∧ PutsOwn wr (w.heap.size + 1) (.slice q' k m') (ws.take k) gs ∧ Below (w.heap.size + 1) (w.alloc (.cells #[.int .i64 count, .slice p data.length c, .slice q ws.length m] 25)) wr) (fun _ i _ => ws.length - (intOf i).toNat)
  case atStart => exact ⟨0, none, 0, [], by omega, rfl, rfl, putsOwn_nil _ _, Below.refl _ _⟩
  case round =>
    obtain ⟨k, q', m', gs, hk, rfl, rfl, hown, hbel⟩ := hrel
    obtain ⟨hc0, hc1, hc2⟩ := box_cells hbel
    have hsz := box_size hbel
    by_cases hkl : k < ws.length
    · obtain ⟨b, o, rfl⟩ := hq.addr (by omega)
      obtain ⟨e1, pk, ck, e2, hbk⟩ := (hq.below (box_below hbel)).at2 hkl
      have hL : (ws.getD k (0, [])).2.length = 128 := (ho.wait hkl).2.2
      have HT : Hid (ws.take (k + 1) = ws.take k ++ [ws.getD k (0, [])]) := take_getD hkl
      have HK : Hid ((ws.take k).length = k) := by show _ = _; simp; omega
      rw [hL] at e2
      clear hq ho
      generalize ws.getD k (0, []) = y at *
      obtain ⟨s, xs⟩ := y
      simp only at e1 e2 hL hbk
      have HX : Hid (xs.length = 128) := hL
      clear hL
      have HB : Hid (BIn wr pk xs) := hbk
      have HO : Hid _ := hown
      clear hbk hown
      have HW : Hid (BIn (wr.alloc (.cells #[.int .i64 s, .slice pk 128 ck] 45)).drew pk xs) := HB.out.alloc _
      have HC : Hid ((wr.alloc (.cells #[.int .i64 s, .slice pk 128 ck] 45)).cell? ⟨wr.heap.size, 0, none⟩ = some (.int .i64 s) ∧ (wr.alloc (.cells #[.int .i64 s, .slice pk 128 ck] 45)).cell? ⟨wr.heap.size, 1, none⟩ = some (.slice pk 128 ck)) := put_cells (Below.refl _ _)
      have HN : Hid (some wr.heap.size ≠ (Value.slice q' k m').ownBlock) := ownBlock_ne HO.out.row
      have HP : Hid (PutsOwn (wr.alloc (.cells #[.int .i64 s, .slice pk 128 ck] 45)).drew (w.heap.size + 1) (.slice q' k m') (ws.take k) gs) := HO.out.below ((below_alloc _ _).drew)
      have hbel1 : Below (w.heap.size + 1) (w.alloc (.cells #[.int .i64 count, .slice p data.length c, .slice (some ⟨b, o, none⟩) ws.length m] 25)) (wr.alloc (.cells #[.int .i64 s, .slice pk 128 ck] 45)).drew := (hbel.alloc (by omega) _).drew
      have hsz1 : w.heap.size + 1 ≤ (wr.alloc (.cells #[.int .i64 s, .slice pk 128 ck] 45)).drew.heap.size := by show _ ≤ (wr.alloc _).heap.size; rw [World.size_alloc]; omega
      clear HO HB hbel hc0 hc1 hc2
      go_wp2
      clear e1 e2
      obtain ⟨w1, hw1⟩ : ∃ w1, w1 = wr.alloc (.cells #[.int .i64 s, .slice pk 128 ck] 45) := ⟨_, rfl⟩
      rw [← hw1] at HW HC HP hbel1 hsz1 ⊢
      clear hw1
      have HC' := HC
      replace HC := HC.out
      go_region_held3 (fun w' => w'.cell? ⟨wr.heap.size, 0, none⟩ = some (.int .i64 s) ∧ w'.cell? ⟨wr.heap.size, 1, none⟩ = some (.slice pk 128 ck)) (first | go_keep | exact c2_below HC'.out hb2 | exact c2_alloc (c2_below HC'.out hb2) _ | exact c2_grown (c2_alloc (c2_below HC'.out hb2) _) hgrow HN.out)
        (first
          | (go_at_call 76; refine (copyOf_any pk ck xs _ HW.out HX.out).mono ?_; rintro e w2 ⟨g, rfl, hg1, hg2, hb2⟩)
          | (refine step_append_lies _ (by rfl) (.tmp 13) (.tmp 20) 23 (by rfl) (w.heap.size + 1) 45 i0 _ 2 32 Tryz.underlying23 hi hz0 hz1 hz2 rfl (by omega) (.slice q' k m') k (cellsP (ws.take k) gs) (by rfl) ((row_at HK.out (HP.out.below hb2)).alloc _) ⟨w2.heap.size, 0, none⟩ 1 1 [.int .i64 s, .slice (some ⟨g, 0, none⟩) 128 128] (by rfl) (by rfl) (World.news_of_block (cs := #[.int .i64 s, .slice (some ⟨g, 0, none⟩) 128 128]) (t := 45) (fr := (0, 0)) (heap_alloc_new w2 _)) (two_oneCell _ _ _ _) (by omega) (by unfold maxLen; omega) (by omega) (by have := hb2.size; simp; omega) (w2.heap.size + 1) (by simp) ?_; intro g' cap' w3 hown3 hgrow hat hlt)
          | fail)
      have hp2 := HP.out.below hb2
      have z2 := hb2.size
      have R : Hid (PutsOwn w3 (w.heap.size + 1) (.slice (some ⟨g', 0, none⟩) (k + 1) cap') (ws.take (k + 1)) (gs ++ [g])) := by
        show PutsOwn _ _ _ _ _
        rw [HT.out]
        exact (hp2.below (below_alloc w2 _)).push ⟨HX.out, HW.out.2⟩ (Nat.le_trans hsz1 hg1) (((below_alloc w2 _).block _ (lt_heap hg2)).trans hg2) (by rw [HK.out]; exact hown3) hgrow
      have hb3 : Below (w.heap.size + 1) (w.alloc (.cells #[.int .i64 count, .slice p data.length c, .slice (some ⟨b, o, none⟩) ws.length m] 25)) w3 :=
        ((hbel1.trans (hb2.mono hsz1)).alloc (by omega) _).grown hgrow (by rw [World.size_alloc]; omega) (fun x hx => (hp2.row.lt x hx).1)
      clear hp2 hb2 hown3 hgrow hat HP HW
      go_wp2
      go_roundw
      case rel => exact ⟨k + 1, some ⟨g', 0, none⟩, cap', gs ++ [g], by omega, by go_num, rfl, R.out, hb3⟩
      case measure => simp [intOf]; omega
    · obtain rfl : k = ws.length := by omega
      rw [List.take_length] at hown
      have HO : Hid _ := hown
      clear hown hq
      go_wp2
      go_ret
      exact ⟨_, _, gs, rfl, HO.out.mono (by omega), box_below hbel⟩
end Go.Proofs.YtglcpfnpbcnejaaGreatDoor
namespace Go.Proofs.YtglcpfnpbcnejaaGreatDoor
set_option maxRecDepth 8000
open Go.RowKit Go.WideShapes
attribute [local go_sem ↓] Go.wp_at_zero Go.wp_at_succ

theorem grown_trans {a b c : World} {r : Option Nat} (h : a.grownBy b r) (k : b.grownBy c r) : a.grownBy c r :=
  ⟨k.os.trans h.os, k.tape.trans h.tape, k.output.trans h.output, Nat.le_trans h.size k.size, fun x hx hr => (k.block x (Nat.lt_of_lt_of_le hx h.size) hr).trans (h.block x hx hr)⟩
theorem grown_of_below {a b : World} (r : Option Nat) (h : Below a.heap.size a b) : a.grownBy b r := ⟨h.os, h.tape, h.output, h.size, fun x hx _ => h.block x hx⟩
theorem below_of_grown {a b : World} {g base : Nat} (h : a.grownBy b (some g)) (hs : base ≤ a.heap.size) (hg : base ≤ g) : Below base a b :=
  (Below.refl _ _).grown h hs (fun k hk => by cases hk; exact hg)
theorem grown_drew (a : World) (r : Option Nat) : a.grownBy a.drew r := ⟨rfl, rfl, rfl, Nat.le_refl _, fun _ _ _ => rfl⟩
theorem grown_setRow (w : World) (g : Nat) (cs : Array Value) : w.grownBy (w.setRow g cs) (some g) :=
  ⟨rfl, rfl, rfl, by simp, fun x _ hx => setRow_other w g x cs (fun e => hx (by rw [e]))⟩

/-- copy into a row that is known whole: that row alone turns. -/
theorem step_copy_grown {P : Program} {ops : Array Oper} {o : Oper} {a : Act} {w : World} {K : Act → World → Prop} {Q : Exit → Act → World → Prop} {E : Prop} (hgd : o.guard = none) (d s : Operand) (dT sT : TypeId)
    (ho : o.op = .call { callee := .builtin .copy, args := #[d, s], argTypes := #[dT, sT] }) (elem : TypeId) (hu : P.underlying dT = some (.slice elem)) (hsz : (P.info? elem).map (·.size) = some 1)
    (g off : Nat) (ad : Addr) (dLen dCap sLen sCap : Nat) (hd : a.eval d = .slice (some ⟨g, off, none⟩) dLen dCap) (hs : a.eval s = .slice (some ad) sLen sCap)
    (cur : List Value) (t : TypeId) (hg : w.heap[g]? = some (.cells cur.toArray t (0, 0))) (cs : List Value) (hn : cs.length = Nat.min sLen dLen)
    (hsrc : ∀ j v, cs[j]? = some v → w.cell? (ad.add j) = some v) (hfit : off + cs.length ≤ cur.length) (h1 : ∀ v ∈ cs, v.oneCell' = true)
    (h : ∀ w', Hid (w'.heap[g]? = some (.cells (splice cur off cs).toArray t (0, 0))) → w.grownBy w' (some g) → K (a.put o.dst (goInt cs.length)) w') :
    if Region.wanted o (yielded ops a.tmps) = true then Oper.wp P o a w K Q else E := by
  have hw : Region.wanted o (yielded ops a.tmps) = true := by simp [Region.wanted, hgd]
  rw [if_pos hw]
  have hrun := run_copy_row (P := P) w dT sT o.type elem g off dLen dCap ad sLen sCap cur.toArray t cs hu hsz hg hn hsrc (by simpa using hfit) h1
  unfold Oper.wp
  simp [execOp, ho, resolve, invoke, builtin, hd, hs, hrun, Result.andThen]
  exact h _ (show _ = _ by simpa [splice] using setRow_heap w g _ _ t _ hg) (by simpa using grown_setRow w g _)

/-- A disk of the call's own behind a pointer: the block B0 of its fields, the row gd of its sectors, its writes. -/
structure DiskOwn (w : World) (base B0 gd : Nat) (count : Int) (data : List Nat) (q : Option Addr) (m : Nat) (ws : Puts) (gs : List Nat) : Prop where
  box : w.heap[B0]? = some (.cells #[.int .i64 count, .slice (some ⟨gd, 0, none⟩) data.length data.length, .slice q ws.length m] 25 (0, 0))
  hB : base ≤ B0
  hgd : base ≤ gd
  drow : w.heap[gd]? = some (.cells (Bs data).toArray 5 (0, 0))
  puts : PutsOwn w base (.slice q ws.length m) ws gs
  apart : ∀ i, i < ws.length → gs.getD i 0 ≠ gd
  bytes : ∀ c ∈ data, c < 256
theorem DiskOwn.below {w w' : World} {base B0 gd : Nat} {count : Int} {data : List Nat} {q : Option Addr} {m : Nat} {ws : Puts} {gs : List Nat} (h : DiskOwn w base B0 gd count data q m ws gs) (hb : Below w.heap.size w w') : DiskOwn w' base B0 gd count data q m ws gs :=
  ⟨(hb.block _ (lt_heap h.box)).trans h.box, h.hB, h.hgd, (hb.block _ (lt_heap h.drow)).trans h.drow, h.puts.below hb, h.apart, h.bytes⟩
theorem PutsOwn.grown {w w' : World} {base gd : Nat} {v : Value} {ws : Puts} {gs : List Nat} {cs : Array Value} (h : PutsOwn w base v ws gs) (hd : w.heap[gd]? = some (.cells cs 5 (0, 0))) (ha : ∀ i, i < ws.length → gs.getD i 0 ≠ gd) (hg : w.grownBy w' (some gd)) : PutsOwn w' base v ws gs := by
  refine h.keep (fun g cur _ e => hg.block g (lt_heap e) ?_) (fun i hi => hg.block _ (lt_heap (h.rows i hi).2) ?_)
  · intro e'
    simp only [Option.some.injEq] at e'
    subst e'
    rw [hd] at e
    simp at e
  · intro e'
    simp only [Option.some.injEq] at e'
    exact ha i hi e'
theorem DiskOwn.cells {w : World} {base B0 gd : Nat} {count : Int} {data : List Nat} {q : Option Addr} {m : Nat} {ws : Puts} {gs : List Nat} (h : DiskOwn w base B0 gd count data q m ws gs) :
    w.cell? ⟨B0, 0, none⟩ = some (.int .i64 count) ∧ w.cell? ⟨B0, 1, none⟩ = some (.slice (some ⟨gd, 0, none⟩) data.length data.length) ∧ w.cell? ⟨B0, 2, none⟩ = some (.slice q ws.length m) :=
  ⟨cell_of_row _ _ _ _ _ _ h.box, cell_of_row _ _ _ _ _ _ h.box, cell_of_row _ _ _ _ _ _ h.box⟩
theorem putS_bytes {data : List Nat} {y : Int × List Nat} (hd : ∀ c ∈ data, c < 256) (hy : ∀ c ∈ y.2, c < 256) : ∀ c ∈ putS data y, c < 256 := by
  intro c hc
  simp only [putS, splice, List.mem_append] at hc
  rcases hc with h | h | h
  · exact hd c (List.mem_of_mem_take h)
  · exact hy c h
  · exact hd c (List.mem_of_mem_drop h)
theorem settleK_bytes {data : List Nat} {ws : Puts} (hd : ∀ c ∈ data, c < 256) (hy : ∀ y ∈ ws, ∀ c ∈ y.2, c < 256) : ∀ k, k ≤ ws.length → ∀ c ∈ settleK data ws k, c < 256
  | 0, _ => hd
  | k + 1, hk => putS_bytes (settleK_bytes hd hy k (by omega)) (hy _ (getD_mem hk))
theorem DiskOwn.ne {w : World} {base B0 gd : Nat} {count : Int} {data : List Nat} {q : Option Addr} {m : Nat} {ws : Puts} {gs : List Nat} (h : DiskOwn w base B0 gd count data q m ws gs) : B0 ≠ gd := by
  intro e
  have h1 := h.box
  rw [e, h.drow] at h1
  simp at h1

set_option maxHeartbeats 2000000 in
theorem settle_any (base B0 gd : Nat) (count : Int) (data : List Nat) (q : Option Addr) (m : Nat) (ws : Puts) (gs : List Nat) (w : World) (hd : DiskOwn w base B0 gd count data q m ws gs) (ho : Okay count data ws) (hbs : base ≤ w.heap.size) :
    Calls Tryz.prog 42 #[.pointer (some ⟨B0, 0, none⟩)] w fun e w' => e = .returned (.tuple #[]) ∧ DiskOwn w' base B0 gd count (settleN data ws) none 0 [] [] ∧ Below base w w' := by
  obtain ⟨hc0, hc1, hc2⟩ := hd.cells
  have hfew := ho.few
  have hhi := ho.hi
  have hlen := ho.len
  go_enter Tryz.func42, Tryz.ntmps42
  go_wp2
  go_loopw [9] (fun i wr => ∃ k : Nat, k ≤ ws.length ∧ i = .int .i64 k ∧ Hid (wr.heap[gd]? = some (.cells (Bs (settleK data ws k)).toArray 5 (0, 0))) ∧ w.grownBy wr (some gd)) (fun i _ => ws.length - (intOf i).toNat)
  case atStart => exact ⟨0, by omega, rfl, hd.drow, grown_of_below _ (Below.refl _ _)⟩
  case round =>
    obtain ⟨k, hk, rfl, hrow, hgr⟩ := hrel
    have hne := hd.ne
    have hn1 : some B0 ≠ some gd := fun e => hne (by simpa using e)
    have r0 := hgr.cell hc0 hn1
    have r1 := hgr.cell hc1 hn1
    have r2 := hgr.cell hc2 hn1
    by_cases hkl : k < ws.length
    · have hp := hd.puts.grown hd.drow hd.apart hgr
      have hq := hp.lies.2.1
      obtain ⟨b, o, rfl⟩ := hq.addr (by omega)
      obtain ⟨e1, pk, ck, e2, hbk⟩ := hq.at2 hkl
      have hw := ho.wait hkl
      have HS : Hid (settleK data ws (k + 1) = putS (settleK data ws k) (ws.getD k (0, []))) := rfl
      have HL : Hid ((settleK data ws k).length = data.length) := settleK_len ho k hk
      rw [hw.2.2] at e2
      have hlt := lt_heap hrow.out
      clear hq hp ho
      generalize ws.getD k (0, []) = y at *
      obtain ⟨s, xs⟩ := y
      simp only at e1 e2 hbk hw
      obtain ⟨hw1, hw2, hw3⟩ := hw
      obtain ⟨n, rfl⟩ := Int.eq_ofNat_of_zero_le hw1
      have HX : Hid (xs.length = 128) := hw3
      have hnl : (n + 1) * 128 ≤ data.length := by omega
      obtain ⟨b', o', rfl⟩ := hbk.addr (by omega)
      have HW : Hid (∀ j v, (Bs xs)[j]? = some v → (wr.alloc (.cells #[.int .i64 n, .slice (some ⟨b', o', none⟩) 128 ck] 45)).drew.cell? ((⟨b', o', none⟩ : Addr).add j) = some v) := bin_news (hbk.alloc _)
      have HC : Hid ((wr.alloc (.cells #[.int .i64 n, .slice (some ⟨b', o', none⟩) 128 ck] 45)).cell? ⟨wr.heap.size, 0, none⟩ = some (.int .i64 n) ∧ (wr.alloc (.cells #[.int .i64 n, .slice (some ⟨b', o', none⟩) 128 ck] 45)).cell? ⟨wr.heap.size, 1, none⟩ = some (.slice (some ⟨b', o', none⟩) 128 ck)) := put_cells (Below.refl _ _)
      have HR : Hid ((wr.alloc (.cells #[.int .i64 n, .slice (some ⟨b', o', none⟩) 128 ck] 45)).drew.heap[gd]? = some (.cells (Bs (settleK data ws k)).toArray 5 (0, 0))) := ((below_alloc wr _).block gd hlt).trans hrow.out
      have hg1 : w.grownBy (wr.alloc (.cells #[.int .i64 n, .slice (some ⟨b', o', none⟩) 128 ck] 45)) (some gd) := grown_trans hgr (grown_of_below _ (below_alloc wr _))
      have r1' : Hid ((wr.alloc (.cells #[.int .i64 n, .slice (some ⟨b', o', none⟩) 128 ck] 45)).cell? ⟨B0, 1, none⟩ = some (.slice (some ⟨gd, 0, none⟩) data.length data.length)) := hg1.cell hc1 hn1
      have hl : Hid ((Bs xs).length = Nat.min 128 128) := by show _ = _; rw [Bs_len, HX.out]; rfl
      have hf : Hid (n * 128 + (Bs xs).length ≤ (Bs (settleK data ws k)).length) := by show _ ≤ _; rw [Bs_len, Bs_len, HX.out, HL.out]; omega
      have hs2 : Hid (splice (Bs (settleK data ws k)) (n * 128) (Bs xs) = Bs (settleK data ws (k + 1))) := by show _ = _; rw [Bs_splice, HS.out]; rfl
      have hn2 : Hid (some wr.heap.size ≠ some gd) := by show _ ≠ _; intro e; simp only [Option.some.injEq] at e; omega
      have hn1' : Hid (some B0 ≠ some gd) := hn1
      clear hn1 hne hw3 HL HS hbk
      go_wp2
      clear e1 e2 r0 r1 r2
      obtain ⟨w1, hw1⟩ : ∃ w1, w1 = wr.alloc (.cells #[.int .i64 n, .slice (some ⟨b', o', none⟩) 128 ck] 45) := ⟨_, rfl⟩
      rw [← hw1] at HW HC HR hg1 r1' ⊢
      clear hw1
      have HC' := HC
      replace HC := HC.out
      have r1 := r1'.out
      go_region_held3 (fun w' => (w'.cell? ⟨wr.heap.size, 0, none⟩ = some (.int .i64 n) ∧ w'.cell? ⟨wr.heap.size, 1, none⟩ = some (.slice (some ⟨b', o', none⟩) 128 ck)) ∧ w'.cell? ⟨B0, 1, none⟩ = some (.slice (some ⟨gd, 0, none⟩) data.length data.length)) (first | go_keep | exact ⟨c2_grown HC'.out (grown_trans (grown_drew _ _) hg2) hn2.out, (grown_trans (grown_drew _ _) hg2).cell r1'.out hn1'.out⟩)
        (first
          | (go_at_call 60; refine (sector_any gd 0 data.length data.length n _ (by omega) hnl (by omega)).mono ?_; rintro e w1 ⟨rfl, rfl⟩)
          | (refine step_copy_grown (by rfl) (.tmp 19) (.tmp 21) 22 22 (by rfl) 5 Tryz.underlying22 size_u8 gd (n * 128) ⟨b', o', none⟩ 128 (data.length - n * 128) 128 ck (by simp [Act.eval]) (by simp [Act.eval]) (Bs (settleK data ws k)) 5 HR.out (Bs xs) hl.out HW.out hf.out (Bs_oneCell _) ?_; intro w2 hrow2 hg2)
          | fail)
      have hrow3 : Hid (w2.heap[gd]? = some (.cells (Bs (settleK data ws (k + 1))).toArray 5 (0, 0))) := by show _ = _; rw [← hs2.out]; exact hrow2.out
      have hg3 : w.grownBy w2 (some gd) := grown_trans hg1 (grown_trans (grown_drew _ _) hg2)
      clear hrow2 hg2 HR HW
      go_wp2
      go_roundw
      case rel => exact ⟨k + 1, by omega, by go_num, hrow3, hg3⟩
      case measure => simp [intOf]; omega
    · obtain rfl : k = ws.length := by omega
      have hbox : wr.heap[B0]? = some (.cells #[.int .i64 count, .slice (some ⟨gd, 0, none⟩) data.length data.length, .slice q ws.length m] 25 (0, 0)) := (hgr.block _ (lt_heap hd.box) hn1).trans hd.box
      have hfr := frozen_of_row wr B0 2 _ _ hbox
      have HB : Hid _ := heap_setCell_same wr B0 2 _ _ (.slice none 0 0) hbox
      have HD : Hid ((wr.setCell ⟨B0, 2, none⟩ (.slice none 0 0)).heap[gd]? = some (.cells (Bs (settleN data ws)).toArray 5 (0, 0))) := (heap_setCell_other wr ⟨B0, 2, none⟩ gd _ (fun e => hne e.symm)).trans hrow.out
      have HL : Hid ((settleN data ws).length = data.length) := settleK_len ho _ (Nat.le_refl _)
      have hbel : Below base w (wr.setCell ⟨B0, 2, none⟩ (.slice none 0 0)) := (below_of_grown hgr hbs hd.hgd).setCell hd.hB _
      have HF : Hid (DiskOwn (wr.setCell ⟨B0, 2, none⟩ (.slice none 0 0)) base B0 gd count (settleN data ws) none 0 [] []) := by
        refine ⟨?_, hd.hB, hd.hgd, HD.out, putsOwn_nil _ _, fun i hi => absurd hi (by simp), settleK_bytes hd.bytes (fun y hy => (hd.puts.full y hy).2) _ (Nat.le_refl _)⟩
        rw [HL.out]
        exact HB.out
      clear hbox HB HD HL hrow
      go_wp2
      go_end0
      exact ⟨rfl, HF.out, hbel⟩
end Go.Proofs.YtglcpfnpbcnejaaGreatDoor
namespace Go.Proofs.YtglcpfnpbcnejaaGreatDoor
open Go.RowKit Go.WideShapes Go

section
variable {P : Program} {ops : Array Oper} {Q : Exit → Act → World → Prop} {md : Region.Mode} {T S : World → Prop} {z : Nat}

/-- Whatever order is picked from here on, and T holds behind every operation, S as long as number z has not come up. -/
def wpAnyZ (P : Program) (md : Region.Mode) (ops : Array Oper) (Q : Exit → Act → World → Prop) (T S : World → Prop) (z : Nat) : Nat → Array Bool → Act → World → Prop
  | 0, listed, a, w => Region.ready md ops listed = [] ∧ Q .normal a w
  | fuel + 1, listed, a, w =>
    (Region.ready md ops listed = [] → Q .normal a w) ∧
    ∀ i ∈ Region.ready md ops listed, wpOp P ops Q i (fun a' w' => (T w' ∧ ((listed.setIfInBounds i true)[z]?.getD false = false → S w')) ∧ wpAnyZ P md ops Q T S z fuel (listed.setIfInBounds i true) a' w') a w
theorem wpAny_of_Z : ∀ (fuel : Nat) (listed : Array Bool) (a : Act) (w : World), wpAnyZ P md ops Q T S z fuel listed a w → wpAny P md ops Q fuel listed a w
  | 0, _, _, _, h => h
  | fuel + 1, _, _, _, h => ⟨h.1, fun i hi => wpOp_mono (fun a' w' h' => wpAny_of_Z fuel _ a' w' h'.2) (h.2 i hi)⟩
theorem set_ne {listed : Array Bool} {i z : Nat} (h : i ≠ z) : (listed.setIfInBounds i true)[z]?.getD false = listed[z]?.getD false := by
  rw [Array.getElem?_setIfInBounds_ne h]
/-- z waits for m, which waits for i. -/
structure Waits (md : Region.Mode) (ops : Array Oper) (z m i : Nat) : Prop where
  zm : ∃ oz, ops[z]? = some oz ∧ ∃ e ∈ oz.after, Region.binds md e = true ∧ e.on = m
  mi : ∃ om, ops[m]? = some om ∧ ∃ e ∈ om.after, Region.binds md e = true ∧ e.on = i
theorem not_ready {z m : Nat} {listed : Array Bool} (h : ∃ oz, ops[z]? = some oz ∧ ∃ e ∈ oz.after, Region.binds md e = true ∧ e.on = m) (hm : listed[m]?.getD false = false) : z ∉ Region.ready md ops listed := by
  intro hz
  obtain ⟨_, oj, hoj, hall⟩ := mem_ready.1 hz
  obtain ⟨oz, h1, e, he, hb, hon⟩ := h
  rw [hoj] at h1
  simp only [Option.some.injEq] at h1
  subst h1
  have h1 := hall e he hb
  rw [hon] at h1
  rcases Nat.lt_or_ge m listed.size with h' | h'
  · simp [h'] at hm h1; rw [hm] at h1; cases h1
  · simp [Array.getElem?_eq_none h'] at h1
theorem wpAnyZ_first {i m : Nat} {oi : Oper} {v : Value} (hi : ops[i]? = some oi) (hsel : ∀ (j : Nat) (o : Oper) cs b, ops[j]? = some o → o.op ≠ .select cs b)
    (hQ : ∀ c a w, Q (.panic c) (a.put oi.dst v) w → Q (.panic c) a w) (hzi : i ≠ z) (hwt : Waits md ops z m i) :
    ∀ (fuel : Nat) (listed : Array Bool) (a : Act) (w : World),
      (∀ j oj, ops[j]? = some oj → j ≠ i → listed.getD j true = false → (∀ e ∈ oj.after, Region.binds md e = true → e.on ≠ i) → oi.apart ops oj = true) →
      i ∈ Region.ready md ops listed → listed[m]?.getD false = false → listed[z]?.getD false = false → YieldsIf P ops (fun w => T w ∧ S w) oi v a → T w ∧ S w →
      wpAnyZ P md ops Q T S z fuel (listed.setIfInBounds i true) (a.put oi.dst v) w → wpAnyZ P md ops Q T S z (fuel + 1) listed a w := by
  intro fuel
  induction fuel with
  | zero =>
    intro listed a w _ hr _ _ hy hS H
    refine ⟨fun h => (by rw [h] at hr; cases hr), fun j hj => ?_⟩
    by_cases hji : j = i
    · subst hji; exact hy.wpOp hi hS ⟨⟨hS.1, fun _ => hS.2⟩, H⟩
    · have := ready_mono hj hji
      rw [H.1] at this
      cases this
  | succ fuel ih =>
    intro listed a w hfree hr hm hz hy hS H
    refine ⟨fun h => (by rw [h] at hr; cases hr), fun j hj => ?_⟩
    by_cases hji : j = i
    · subst hji; exact hy.wpOp hi hS ⟨⟨hS.1, fun _ => hS.2⟩, H⟩
    · have hjz : j ≠ z := by
        rintro rfl
        exact not_ready hwt.zm hm hj
      have hiun : listed[i]?.getD false = false := by
        have h0 := (mem_ready.1 hr).1
        rcases Nat.lt_or_ge i listed.size with h' | h'
        · simpa [h'] using h0
        · simp [Array.getElem?_eq_none h']
      have hjm : j ≠ m := by
        rintro rfl
        exact not_ready hwt.mi hiun hj
      have h1 := H.2 j (ready_mono hj hji)
      obtain ⟨hjun, oj, hoj, hall⟩ := mem_ready.1 hj
      have hnot : ∀ e ∈ oj.after, Region.binds md e = true → e.on ≠ i := fun e he hb heq => by
        have h1 := hall e he hb
        have h0 := (mem_ready.1 hr).1
        rw [heq] at h1
        rcases Nat.lt_or_ge i listed.size with h' | h'
        · simp [h'] at h0 h1; rw [h0] at h1; cases h1
        · simp [Array.getElem?_eq_none h'] at h1
      have h2 := wpOp_putIf hoj (hfree j oj hoj hji hjun hnot) (fun cs b => hsel i oi cs b hi) (fun cs b => hsel j oj cs b hoj) hQ hy h1
      have hfree' : ∀ k ok, ops[k]? = some ok → k ≠ i → (listed.setIfInBounds j true).getD k true = false →
          (∀ e ∈ ok.after, Region.binds md e = true → e.on ≠ i) → oi.apart ops ok = true := fun k ok hk hki hun hno => by
        refine hfree k ok hk hki ?_ hno
        by_cases hjk : j = k
        · subst hjk; exact hjun
        · rw [getD_set_ne true hjk] at hun; exact hun
      have hm' : (listed.setIfInBounds j true)[m]?.getD false = false := by
        rw [Array.getElem?_setIfInBounds_ne hjm]; exact hm
      refine wpOp_mono (fun a' w' h3 => ⟨⟨h3.2.1.1, fun _ => h3.2.1.2 (by rw [set_ne hjz, set_ne hzi]; exact hz)⟩, ih (listed.setIfInBounds j true) a' w' hfree' (ready_mono hr (Ne.symm hji)) hm' (by rw [set_ne hjz]; exact hz) h3.1 ⟨h3.2.1.1, h3.2.1.2 (by rw [set_ne hjz, set_ne hzi]; exact hz)⟩ ?_⟩) h2
      rw [Array.setIfInBounds_comm _ _ hji]
      exact h3.2.2
/-- The same, of an operation that T alone serves. -/
theorem wpAnyT_first {i : Nat} {oi : Oper} {v : Value} (hi : ops[i]? = some oi) (hsel : ∀ (j : Nat) (o : Oper) cs b, ops[j]? = some o → o.op ≠ .select cs b)
    (hQ : ∀ c a w, Q (.panic c) (a.put oi.dst v) w → Q (.panic c) a w) (hzi : i ≠ z) :
    ∀ (fuel : Nat) (listed : Array Bool) (a : Act) (w : World),
      (∀ j oj, ops[j]? = some oj → j ≠ i → listed.getD j true = false → (∀ e ∈ oj.after, Region.binds md e = true → e.on ≠ i) → oi.apart ops oj = true) →
      i ∈ Region.ready md ops listed → YieldsIf P ops T oi v a → T w → (listed[z]?.getD false = false → S w) →
      wpAnyZ P md ops Q T S z fuel (listed.setIfInBounds i true) (a.put oi.dst v) w → wpAnyZ P md ops Q T S z (fuel + 1) listed a w := by
  intro fuel
  induction fuel with
  | zero =>
    intro listed a w _ hr hy hT hS H
    refine ⟨fun h => (by rw [h] at hr; cases hr), fun j hj => ?_⟩
    by_cases hji : j = i
    · subst hji; exact hy.wpOp hi hT ⟨⟨hT, fun h => hS (by rw [set_ne hzi] at h; exact h)⟩, H⟩
    · have := ready_mono hj hji
      rw [H.1] at this
      cases this
  | succ fuel ih =>
    intro listed a w hfree hr hy hT hS H
    refine ⟨fun h => (by rw [h] at hr; cases hr), fun j hj => ?_⟩
    by_cases hji : j = i
    · subst hji; exact hy.wpOp hi hT ⟨⟨hT, fun h => hS (by rw [set_ne hzi] at h; exact h)⟩, H⟩
    · have h1 := H.2 j (ready_mono hj hji)
      obtain ⟨hjun, oj, hoj, hall⟩ := mem_ready.1 hj
      have hnot : ∀ e ∈ oj.after, Region.binds md e = true → e.on ≠ i := fun e he hb heq => by
        have h1 := hall e he hb
        have h0 := (mem_ready.1 hr).1
        rw [heq] at h1
        rcases Nat.lt_or_ge i listed.size with h' | h'
        · simp [h'] at h0 h1; rw [h0] at h1; cases h1
        · simp [Array.getElem?_eq_none h'] at h1
      have h2 := wpOp_putIf hoj (hfree j oj hoj hji hjun hnot) (fun cs b => hsel i oi cs b hi) (fun cs b => hsel j oj cs b hoj) hQ hy h1
      have hfree' : ∀ k ok, ops[k]? = some ok → k ≠ i → (listed.setIfInBounds j true).getD k true = false →
          (∀ e ∈ ok.after, Region.binds md e = true → e.on ≠ i) → oi.apart ops ok = true := fun k ok hk hki hun hno => by
        refine hfree k ok hk hki ?_ hno
        by_cases hjk : j = k
        · subst hjk; exact hjun
        · rw [getD_set_ne true hjk] at hun; exact hun
      refine wpOp_mono (fun a' w' h3 => ⟨⟨h3.2.1.1, fun h => h3.2.1.2 (by rw [Array.setIfInBounds_comm _ _ (Ne.symm hji), set_ne hzi]; exact h)⟩, ih (listed.setIfInBounds j true) a' w' hfree' (ready_mono hr (Ne.symm hji)) h3.1 h3.2.1.1 (fun h => h3.2.1.2 (by rw [Array.setIfInBounds_comm _ _ (Ne.symm hji), set_ne hzi]; exact h)) ?_⟩) h2
      rw [Array.setIfInBounds_comm _ _ hji]
      exact h3.2.2
/-- Is it so that z waits for m, and m for i? -/
def waitsB (md : Region.Mode) (ops : Array Oper) (z m i : Nat) : Bool :=
  (match ops[z]? with | some oz => oz.after.any (fun e => Region.binds md e && e.on == m) | none => false) && (match ops[m]? with | some om => om.after.any (fun e => Region.binds md e && e.on == i) | none => false)
theorem waits_of {z m i : Nat} (h : waitsB md ops z m i = true) : Waits md ops z m i := by
  unfold waitsB at h
  simp only [Bool.and_eq_true] at h
  constructor
  · have h1 := h.1
    cases e : ops[z]? with
    | none => simp [e] at h1
    | some oz =>
      simp only [e, Array.any_eq_true', Bool.and_eq_true, beq_iff_eq] at h1
      obtain ⟨x, hx, hb, hon⟩ := h1
      exact ⟨oz, rfl, x, hx, hb, hon⟩
  · have h1 := h.2
    cases e : ops[m]? with
    | none => simp [e] at h1
    | some oz =>
      simp only [e, Array.any_eq_true', Bool.and_eq_true, beq_iff_eq] at h1
      obtain ⟨x, hx, hb, hon⟩ := h1
      exact ⟨oz, rfl, x, hx, hb, hon⟩
/-- Number i is taken first; its slot is d: it waits for nothing that z turns. -/
theorem takeZ (i d m : Nat) {oi : Oper} {v : Value} {fuel : Nat} {listed : Array Bool} {a : Act} {w : World} (hi : ops[i]? = some oi) (hd : oi.dst = some d)
    (hs : Region.noSelect ops = true) (hf : Region.free md ops listed i = true) (hr : (Region.ready md ops listed).contains i = true) (hzi : (i != z) = true) (hwt : waitsB md ops z m i = true) (hm : (listed[m]?.getD false) = false) (hz : (listed[z]?.getD false) = false)
    (hQ : ∀ c a w, Q (.panic c) (a.put oi.dst v) w → Q (.panic c) a w) (hw : Region.wanted oi (yielded ops a.tmps) = true) (hy : ∀ w, T w → S w → (execOp a.eval oi).run P w = .ok (.value v) w) (hT : T w) (hS : S w)
    (h : wpAnyZ P md ops Q T S z fuel (listed.setIfInBounds i true) (a.put (some d) v) w) : wpAnyZ P md ops Q T S z (fuel + 1) listed a w :=
  wpAnyZ_first hi (Region.noSelect_spec hs) hQ (by simpa using hzi) (waits_of hwt) fuel listed a w (Region.free_spec hi hf) (by simpa using hr) hm hz (Or.inl ⟨hw, fun w h => hy w h.1 h.2⟩) ⟨hT, hS⟩ (by rw [hd]; exact h)
theorem takeT (i d : Nat) {oi : Oper} {v : Value} {fuel : Nat} {listed : Array Bool} {a : Act} {w : World} (hi : ops[i]? = some oi) (hd : oi.dst = some d)
    (hs : Region.noSelect ops = true) (hf : Region.free md ops listed i = true) (hr : (Region.ready md ops listed).contains i = true) (hzi : (i != z) = true)
    (hQ : ∀ c a w, Q (.panic c) (a.put oi.dst v) w → Q (.panic c) a w) (hw : Region.wanted oi (yielded ops a.tmps) = true) (hy : ∀ w, T w → (execOp a.eval oi).run P w = .ok (.value v) w) (hT : T w) (hS : S w)
    (h : wpAnyZ P md ops Q T S z fuel (listed.setIfInBounds i true) (a.put (some d) v) w) : wpAnyZ P md ops Q T S z (fuel + 1) listed a w :=
  wpAnyT_first hi (Region.noSelect_spec hs) hQ (by simpa using hzi) fuel listed a w (Region.free_spec hi hf) (by simpa using hr) (Or.inl ⟨hw, hy⟩) hT (fun _ => hS) (by rw [hd]; exact h)
/-- One operation alone may come up, and is carried out. -/
theorem oneZ (i : Nat) {o : Oper} {fuel : Nat} {listed : Array Bool} {a : Act} {w : World} (hr : Region.ready md ops listed = [i]) (ho : ops[i]? = some o) (hzi : (i != z) = true)
    (h : ∀ K' : Act → World → Prop, Shut (∀ a w, T w → S w → (T w → S w → wpAnyZ P md ops Q T S z fuel (listed.setIfInBounds i true) a w) → K' a w) → if Region.wanted o (yielded ops a.tmps) = true then Oper.wp P o a w K' Q else K' (a.put o.dst undef) w) : wpAnyZ P md ops Q T S z (fuel + 1) listed a w := by
  refine ⟨fun h0 => (by rw [hr] at h0; cases h0), fun j hj => ?_⟩
  rw [hr] at hj
  obtain rfl : j = i := by simpa using hj
  exact wpOp_step ho (fun K' hK => h K' (fun a w hT hS hW => hK a w ⟨⟨hT, fun _ => hS⟩, hW hT hS⟩))
/-- The last one, number z. -/
theorem lastZ {o : Oper} {fuel : Nat} {listed : Array Bool} {a : Act} {w : World} (hr : Region.ready md ops listed = [z]) (ho : ops[z]? = some o) (hl : (listed[z]?).isSome = true)
    (h : ∀ K' : Act → World → Prop, Shut (∀ a w, T w → wpAnyZ P md ops Q T S z fuel (listed.setIfInBounds z true) a w → K' a w) → if Region.wanted o (yielded ops a.tmps) = true then Oper.wp P o a w K' Q else K' (a.put o.dst undef) w) : wpAnyZ P md ops Q T S z (fuel + 1) listed a w := by
  refine ⟨fun h0 => (by rw [hr] at h0; cases h0), fun j hj => ?_⟩
  rw [hr] at hj
  obtain rfl : j = z := by simpa using hj
  refine wpOp_step ho (fun K' hK => h K' (fun a w hT hW => hK a w ⟨⟨hT, fun h => ?_⟩, hW⟩))
  rw [Array.getElem?_setIfInBounds_self] at h
  simp only [Option.isSome_iff_exists] at hl
  obtain ⟨x, hx⟩ := hl
  have hlt : j < listed.size := (Array.getElem?_eq_some_iff.1 hx).1
  simp [hlt] at h
theorem doneZ {listed : Array Bool} {a : Act} {w : World} (hr : Region.ready md ops listed = []) (h : Q .normal a w) : ∀ fuel, wpAnyZ P md ops Q T S z fuel listed a w
  | 0 => ⟨hr, h⟩
  | _ + 1 => ⟨fun _ => h, by rw [hr]; simp⟩
theorem beginZ (z : Nat) {id : Nat} {a : Act} {w : World} (hm : P.follows .mixedOrders = true)
    (h : wpAnyZ P .any ops Q T S z ops.size (Array.replicate ops.size false) a w.drew) : (Code.region id ops true).wp P Q a w :=
  wp_region_any hm (wpAny_of_Z _ _ _ _ h)
end
end Go.Proofs.YtglcpfnpbcnejaaGreatDoor
