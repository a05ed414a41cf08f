/-
  Contract of the call waits: a copy of the writes that wait, in memory of its own.
-/
import Derived.Test.YteabacpalnamdaaDOwn
namespace Go.Proofs.Yteabacpalnamdaa
open Go.RowKit Go.WideShapes
attribute [local go_sem ↓] Go.wp_at_zero Go.wp_at_succ

theorem info_put : (Try.prog.info? 51).map (fun i => (i.zero, i.size, i.bytes)) = some (some (.agg #[.int .i64 0, .slice none 0 0]), 2, 32) := by kernel_rfl
theorem take_getD {ws : Puts} {k : Nat} (h : k < ws.length) : ws.take (k + 1) = ws.take k ++ [ws.getD k (0, [])] := by
  rw [List.take_succ_eq_append_getElem h]; simp [List.getD, List.getElem?_eq_getElem h]
theorem PutsIn.at2 {w : World} {b o : Nat} {ws : Puts} (h : PutsIn w (some ⟨b, o, none⟩) ws) {k : Nat} (hk : k < ws.length) :
    w.cell? ⟨b, o + k * 2, none⟩ = some (.int .i64 (ws.getD k (0, [])).1) ∧ ∃ p c, w.cell? ⟨b, o + k * 2 + 1, none⟩ = some (.slice p (ws.getD k (0, [])).2.length c) ∧ BIn w p (ws.getD k (0, [])).2 := by
  obtain ⟨h1, p, c, h2, h3, _⟩ := h.at hk
  exact ⟨h1, p, c, by rw [Nat.add_assoc]; exact h2, h3⟩
theorem put_cells {w wr : World} {a b : Value} {t : TypeId} (h : Below (w.heap.size + 1) (w.alloc (.cells #[a, b] t)) wr) :
    wr.cell? ⟨w.heap.size, 0, none⟩ = some a ∧ wr.cell? ⟨w.heap.size, 1, none⟩ = some b := by
  have hh : wr.heap[w.heap.size]? = some (.cells #[a, b] t (0, 0)) := (h.block _ (by omega)).trans (heap_alloc_new w _)
  exact ⟨cell_of_row _ _ _ _ _ _ hh, cell_of_row _ _ _ _ _ _ hh⟩
theorem two_oneCell (s : Int) (p : Option Addr) (n c : Nat) : ∀ u ∈ [Value.int .i64 s, Value.slice p n c], u.oneCell' = true := by
  intro u hu
  simp only [List.mem_cons, List.not_mem_nil, or_false] at hu
  rcases hu with rfl | rfl <;> rfl

theorem c2_below {w1 w2 : World} {B : Nat} {x y : Value} (h : w1.cell? ⟨B, 0, none⟩ = some x ∧ w1.cell? ⟨B, 1, none⟩ = some y) (hb : Below w1.drew.heap.size w1.drew w2) : w2.cell? ⟨B, 0, none⟩ = some x ∧ w2.cell? ⟨B, 1, none⟩ = some y :=
  ⟨(hb.cell (World.block_lt_of_cell? _ _ h.1)).trans h.1, (hb.cell (World.block_lt_of_cell? _ _ h.2)).trans h.2⟩
theorem c2_alloc {w1 : World} {B : Nat} {x y : Value} (h : w1.cell? ⟨B, 0, none⟩ = some x ∧ w1.cell? ⟨B, 1, none⟩ = some y) (o : Obj) : (w1.alloc o).cell? ⟨B, 0, none⟩ = some x ∧ (w1.alloc o).cell? ⟨B, 1, none⟩ = some y :=
  c2_below h (let hb := below_alloc w1 o; ⟨hb.os, hb.tape, hb.output, hb.size, hb.block⟩)
theorem c2_grown {w1 w2 : World} {B : Nat} {x y : Value} {r : Option Nat} (h : w1.cell? ⟨B, 0, none⟩ = some x ∧ w1.cell? ⟨B, 1, none⟩ = some y) (hg : w1.grownBy w2 r) (hne : some B ≠ r) : w2.cell? ⟨B, 0, none⟩ = some x ∧ w2.cell? ⟨B, 1, none⟩ = some y :=
  ⟨hg.cell h.1 hne, hg.cell h.2 hne⟩
theorem ownBlock_ne {w : World} {base n : Nat} {v : Value} {xs : List Value} (h : w.ownsRow base 51 2 v n xs) : some w.heap.size ≠ v.ownBlock := by
  intro e
  have := (h.lt _ e.symm).2
  omega

theorem row_at {w : World} {base k : Nat} {v : Value} {ws : Puts} {gs : List Nat} (hk : ws.length = k) (h : PutsOwn w base v ws gs) : w.ownsRow base 51 2 v k (cellsP ws gs) := by
  subst hk; exact h.row
set_option maxHeartbeats 2000000 in
theorem waits_any (v : Value) (count : Int) (data : List Nat) (ws : Puts) (w : World) (hd : DiskIn w v count data ws) (ho : Okay count data ws) :
    Calls Try.prog 43 #[v] w fun e w' => ∃ q m gs, e = .returned (.slice q ws.length m) ∧ PutsOwn w' w.heap.size (.slice q ws.length m) ws gs ∧ Below w.heap.size w w' := by
  obtain ⟨p, c, q, m, rfl, hb, hc, hcm, hp, hq, hm, hmm, hqn⟩ := hd.parts
  obtain ⟨i0, hi, hz0, hz1, hz2⟩ := info_parts info_put
  have hfew := ho.few
  clear hd hp hqn hb hc hcm
  go_enter Try.func43, Try.ntmps43
  go_wp2
  go_loopw [3, 9] (fun l i wr => ∃ k : Nat, ∃ q' m' gs, k ≤ ws.length ∧ i = .int .i64 k ∧ l = .slice q' k m' ∧ PutsOwn wr (w.heap.size + 1) (.slice q' k m') (ws.take k) gs ∧ Below (w.heap.size + 1) (w.alloc (.cells #[.int .i64 count, .slice p data.length c, .slice q ws.length m] 25)) wr) (fun _ i _ => ws.length - (intOf i).toNat)
  case atStart => exact ⟨0, none, 0, [], by omega, rfl, rfl, putsOwn_nil _ _, Below.refl _ _⟩
  case round =>
    obtain ⟨k, q', m', gs, hk, rfl, rfl, hown, hbel⟩ := hrel
    obtain ⟨hc0, hc1, hc2⟩ := box_cells hbel
    have hsz := box_size hbel
    by_cases hkl : k < ws.length
    · obtain ⟨b, o, rfl⟩ := hq.addr (by omega)
      obtain ⟨e1, pk, ck, e2, hbk⟩ := (hq.below (box_below hbel)).at2 hkl
      have hL : (ws.getD k (0, [])).2.length = 128 := (ho.wait hkl).2.2
      have HT : Hid (ws.take (k + 1) = ws.take k ++ [ws.getD k (0, [])]) := take_getD hkl
      have HK : Hid ((ws.take k).length = k) := by show _ = _; simp; omega
      rw [hL] at e2
      clear hq ho
      generalize ws.getD k (0, []) = y at *
      obtain ⟨s, xs⟩ := y
      simp only at e1 e2 hL hbk
      have HX : Hid (xs.length = 128) := hL
      clear hL
      have HB : Hid (BIn wr pk xs) := hbk
      have HO : Hid _ := hown
      clear hbk hown
      have HW : Hid (BIn (wr.alloc (.cells #[.int .i64 s, .slice pk 128 ck] 51)).drew pk xs) := HB.out.alloc _
      have HC : Hid ((wr.alloc (.cells #[.int .i64 s, .slice pk 128 ck] 51)).cell? ⟨wr.heap.size, 0, none⟩ = some (.int .i64 s) ∧ (wr.alloc (.cells #[.int .i64 s, .slice pk 128 ck] 51)).cell? ⟨wr.heap.size, 1, none⟩ = some (.slice pk 128 ck)) := put_cells (Below.refl _ _)
      have HN : Hid (some wr.heap.size ≠ (Value.slice q' k m').ownBlock) := ownBlock_ne HO.out.row
      have HP : Hid (PutsOwn (wr.alloc (.cells #[.int .i64 s, .slice pk 128 ck] 51)).drew (w.heap.size + 1) (.slice q' k m') (ws.take k) gs) := HO.out.below ((below_alloc _ _).drew)
      have hbel1 : Below (w.heap.size + 1) (w.alloc (.cells #[.int .i64 count, .slice p data.length c, .slice (some ⟨b, o, none⟩) ws.length m] 25)) (wr.alloc (.cells #[.int .i64 s, .slice pk 128 ck] 51)).drew := (hbel.alloc (by omega) _).drew
      have hsz1 : w.heap.size + 1 ≤ (wr.alloc (.cells #[.int .i64 s, .slice pk 128 ck] 51)).drew.heap.size := by show _ ≤ (wr.alloc _).heap.size; rw [World.size_alloc]; omega
      clear HO HB hbel hc0 hc1 hc2
      go_wp2
      clear e1 e2
      obtain ⟨w1, hw1⟩ : ∃ w1, w1 = wr.alloc (.cells #[.int .i64 s, .slice pk 128 ck] 51) := ⟨_, rfl⟩
      rw [← hw1] at HW HC HP hbel1 hsz1 ⊢
      clear hw1
      have HC' := HC
      replace HC := HC.out
      go_region_held3 (fun w' => w'.cell? ⟨wr.heap.size, 0, none⟩ = some (.int .i64 s) ∧ w'.cell? ⟨wr.heap.size, 1, none⟩ = some (.slice pk 128 ck)) (first | go_keep | exact c2_below HC'.out hb2 | exact c2_alloc (c2_below HC'.out hb2) _ | exact c2_grown (c2_alloc (c2_below HC'.out hb2) _) hgrow HN.out)
        (first
          | (go_at_call 36; refine (copyOf_any pk ck xs _ HW.out HX.out).mono ?_; rintro e w2 ⟨g, rfl, hg1, hg2, hb2⟩)
          | (refine step_append_lies _ (by rfl) (.tmp 13) (.tmp 20) 23 (by rfl) (w.heap.size + 1) 51 i0 _ 2 32 Try.underlying23 hi hz0 hz1 hz2 rfl (by omega) (.slice q' k m') k (cellsP (ws.take k) gs) (by rfl) ((row_at HK.out (HP.out.below hb2)).alloc _) ⟨w2.heap.size, 0, none⟩ 1 1 [.int .i64 s, .slice (some ⟨g, 0, none⟩) 128 128] (by rfl) (by rfl) (World.news_of_block (cs := #[.int .i64 s, .slice (some ⟨g, 0, none⟩) 128 128]) (t := 51) (fr := (0, 0)) (heap_alloc_new w2 _)) (two_oneCell _ _ _ _) (by omega) (by unfold maxLen; omega) (by omega) (by have := hb2.size; simp; omega) (w2.heap.size + 1) (by simp) ?_; intro g' cap' w3 hown3 hgrow hat hlt)
          | fail)
      have hp2 := HP.out.below hb2
      have z2 := hb2.size
      have R : Hid (PutsOwn w3 (w.heap.size + 1) (.slice (some ⟨g', 0, none⟩) (k + 1) cap') (ws.take (k + 1)) (gs ++ [g])) := by
        show PutsOwn _ _ _ _ _
        rw [HT.out]
        exact (hp2.below (below_alloc w2 _)).push ⟨HX.out, HW.out.2⟩ (Nat.le_trans hsz1 hg1) (((below_alloc w2 _).block _ (lt_heap hg2)).trans hg2) (by rw [HK.out]; exact hown3) hgrow
      have hb3 : Below (w.heap.size + 1) (w.alloc (.cells #[.int .i64 count, .slice p data.length c, .slice (some ⟨b, o, none⟩) ws.length m] 25)) w3 :=
        ((hbel1.trans (hb2.mono hsz1)).alloc (by omega) _).grown hgrow (by rw [World.size_alloc]; omega) (fun x hx => (hp2.row.lt x hx).1)
      clear hp2 hb2 hown3 hgrow hat HP HW
      go_wp2
      go_roundw
      case rel => exact ⟨k + 1, some ⟨g', 0, none⟩, cap', gs ++ [g], by omega, by go_num, rfl, R.out, hb3⟩
      case measure => simp [intOf]; omega
    · obtain rfl : k = ws.length := by omega
      rw [List.take_length] at hown
      have HO : Hid _ := hown
      clear hown hq
      go_wp2
      go_ret
      exact ⟨_, _, gs, rfl, HO.out.mono (by omega), box_below hbel⟩
end Go.Proofs.Yteabacpalnamdaa
