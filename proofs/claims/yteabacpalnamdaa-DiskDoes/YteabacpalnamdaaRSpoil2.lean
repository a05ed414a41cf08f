/-
  Contract of the statements' own helper spoil once more: it writes between two block numbers alone.
-/
import Derived.Test.YteabacpalnamdaaRU
namespace Go.Proofs.Yteabacpalnamdaa
open Go.RowKit Go.WideShapes

/-- Of the blocks that were there, those below B and from E on are as they were. -/
structure Outs (B E : Nat) (w w' : World) : Prop where
  os : w'.os = w.os
  tape : w'.tape = w.tape
  output : w'.output = w.output
  size : w.heap.size ≤ w'.heap.size
  block : ∀ k, k < w.heap.size → (k < B ∨ E ≤ k) → w'.heap[k]? = w.heap[k]?
theorem Outs.refl (B E : Nat) (w : World) : Outs B E w w := ⟨rfl, rfl, rfl, Nat.le_refl _, fun _ _ _ => rfl⟩
theorem Outs.setCell {B E : Nat} {a w : World} (h : Outs B E a w) {p : Addr} (hp : B ≤ p.block) (hE : p.block < E) (u : Value) : Outs B E a (w.setCell p u) :=
  ⟨h.os, h.tape, h.output, by simpa [World.setCell] using h.size, fun k hk ho => (Below.heap_setCell _ _ _ _ (by omega)).trans (h.block k hk ho)⟩
theorem Outs.alloc {B E : Nat} {a w : World} (h : Outs B E a w) (o : Obj) : Outs B E a (w.alloc o) :=
  ⟨h.os, h.tape, h.output, by have := h.size; simp; omega, fun k hk ho => (Below.heap_alloc _ _ _ (by have := h.size; omega)).trans (h.block k hk ho)⟩
theorem Outs.below {B E : Nat} {w w' : World} (h : Outs B E w w') (hB : B ≤ w.heap.size) : Below B w w' := ⟨h.os, h.tape, h.output, h.size, fun k hk => h.block k (by omega) (.inl hk)⟩
theorem Outs.of_below {B E : Nat} {w w' : World} (h : Below w.heap.size w w') : Outs B E w w' := ⟨h.os, h.tape, h.output, h.size, fun k hk _ => h.block k hk⟩
/-- A disk that was answered, between two block numbers, and may be written over. -/
def SpoilsE (w : World) (B E : Nat) (v : Value) : Prop := E ≤ w.heap.size ∧ (v = zeroDisk ∨ ∃ c d ws w0, DiskNew w0 B v c d ws ∧ Okay c d ws ∧ w0.heap.size = E ∧ ∀ k, B ≤ k → k < E → w.heap[k]? = w0.heap[k]?)
theorem Spoils.toE {w : World} {B : Nat} {v : Value} (h : Spoils w B v) : SpoilsE w B w.heap.size v := by
  refine ⟨Nat.le_refl _, ?_⟩
  rcases h with h | ⟨c, d, ws, h1, h2⟩
  · exact .inl h
  · exact .inr ⟨c, d, ws, w, h1, h2, rfl, fun _ _ _ => rfl⟩
theorem SpoilsE.below {w w' : World} {B E : Nat} {v : Value} (h : SpoilsE w B E v) (hb : Below w.heap.size w w') : SpoilsE w' B E v := by
  obtain ⟨h0, h⟩ := h
  refine ⟨Nat.le_trans h0 hb.size, ?_⟩
  rcases h with h | ⟨c, d, ws, w0, h1, h2, h3, h4⟩
  · exact .inl h
  · exact .inr ⟨c, d, ws, w0, h1, h2, h3, fun k hk hE => (hb.block k (by omega)).trans (h4 k hk hE)⟩
theorem SpoilsE.outs {w w' : World} {B E B' E' : Nat} {v : Value} (h : SpoilsE w B E v) (ho : Outs B' E' w w') (hd : E ≤ B' ∨ E' ≤ B) : SpoilsE w' B E v := by
  obtain ⟨h0, h⟩ := h
  refine ⟨Nat.le_trans h0 ho.size, ?_⟩
  rcases h with h | ⟨c, d, ws, w0, h1, h2, h3, h4⟩
  · exact .inl h
  · exact .inr ⟨c, d, ws, w0, h1, h2, h3, fun k hk hE => (ho.block k (by omega) (by omega)).trans (h4 k hk hE)⟩
/-- What stays while a disk is written over. -/
structure SK (w : World) (base E bx : Nat) (count : Int) (gd nd : Nat) (q : Option Addr) (nw m : Nat) (gs : List Nat) (w' : World) : Prop where
  box : w'.heap[bx]? = some (.cells #[.int .i64 count, .slice (some ⟨gd, 0, none⟩) nd nd, .slice q nw m] 25 (0, 0))
  data : U8At w' gd nd
  hgd : base ≤ gd ∧ gd < E
  row : 0 < nw → ∃ g cs, q = some ⟨g, 0, none⟩ ∧ (base ≤ g ∧ g < E) ∧ w'.heap[g]? = some (.cells cs 51 (0, 0)) ∧ ∀ i, i < nw → (∃ x : Int, cs[i * 2]? = some (.int .i64 x)) ∧ cs[i * 2 + 1]? = some (.slice (some ⟨gs.getD i 0, 0, none⟩) 128 128)
  rows : ∀ i, i < nw → (base ≤ gs.getD i 0 ∧ gs.getD i 0 < E) ∧ U8At w' (gs.getD i 0) 128
  bel : Outs base E w w'
theorem SK.setU8 {w : World} {base E bx : Nat} {count : Int} {gd nd : Nat} {q : Option Addr} {nw m : Nat} {gs : List Nat} {w' : World} (h : SK w base E bx count gd nd q nw m gs w') {g : Nat} {cs : Array Value} (hg : w'.heap[g]? = some (.cells cs 5 (0, 0))) (hb : base ≤ g ∧ g < E) (j : Nat) (x : Int) :
    SK w base E bx count gd nd q nw m gs (w'.setCell ⟨g, j, none⟩ (.int .u8 x)) := by
  have hne : ∀ (k : Nat) (cs' : Array Value) (t : TypeId), t ≠ 5 → w'.heap[k]? = some (.cells cs' t (0, 0)) → k ≠ g := by
    rintro k cs' t ht hk rfl
    rw [hg] at hk
    simp only [Option.some.injEq, Obj.cells.injEq] at hk
    exact ht hk.2.1.symm
  refine ⟨(heap_setCell_other w' ⟨g, j, none⟩ bx _ (hne _ _ _ (by decide) h.box)).trans h.box, h.data.set _ _ rfl, h.hgd, fun h0 => ?_, fun i hi => ⟨(h.rows i hi).1, (h.rows i hi).2.set _ _ rfl⟩, h.bel.setCell hb.1 hb.2 _⟩
  obtain ⟨g', cs', h1, h2, h3, h4⟩ := h.row h0
  exact ⟨g', cs', h1, h2, (heap_setCell_other w' ⟨g, j, none⟩ g' _ (hne _ _ _ (by decide) h3)).trans h3, h4⟩
theorem SK.setSec {w : World} {base E bx : Nat} {count : Int} {gd nd : Nat} {g nw m : Nat} {gs : List Nat} {w' : World} (h : SK w base E bx count gd nd (some ⟨g, 0, none⟩) nw m gs w') (j : Nat) (hj : j < nw) (x : Int) :
    SK w base E bx count gd nd (some ⟨g, 0, none⟩) nw m gs (w'.setCell ⟨g, j * 2, none⟩ (.int .i64 x)) := by
  obtain ⟨g', cs', h1, h2, h3, h4⟩ := h.row (by omega)
  simp only [Option.some.injEq, Addr.mk.injEq, and_true] at h1
  subst h1
  have hne : ∀ (k : Nat) (cs : Array Value) (t : TypeId), t ≠ 51 → w'.heap[k]? = some (.cells cs t (0, 0)) → k ≠ g := by
    rintro k cs t ht hk rfl
    rw [h3] at hk
    simp only [Option.some.injEq, Obj.cells.injEq] at hk
    exact ht hk.2.1.symm
  refine ⟨(heap_setCell_other w' ⟨g, j * 2, none⟩ bx _ (hne _ _ _ (by decide) h.box)).trans h.box, h.data.other fun cs e => heap_setCell_other w' ⟨g, j * 2, none⟩ _ _ (hne _ _ _ (by decide) e), h.hgd, fun _ => ?_, fun i hi => ⟨(h.rows i hi).1, (h.rows i hi).2.other fun cs e => heap_setCell_other w' ⟨g, j * 2, none⟩ _ _ (hne _ _ _ (by decide) e)⟩, h.bel.setCell h2.1 h2.2 _⟩
  refine ⟨g, _, rfl, h2, heap_setCell_same w' g (j * 2) _ _ _ h3, fun i hi => ?_⟩
  obtain ⟨⟨y, hy⟩, h5⟩ := h4 i hi
  refine ⟨?_, ?_⟩
  · by_cases e : j = i
    · subst e
      have hlt := (Array.getElem?_eq_some_iff.1 hy).1
      exact ⟨x, by simp [hlt]⟩
    · rw [Array.getElem?_setIfInBounds_ne (by omega)]
      exact ⟨y, hy⟩
  · rw [Array.getElem?_setIfInBounds_ne (by omega)]
    exact h5

set_option maxRecDepth 4000 in
set_option maxHeartbeats 4000000 in
theorem spoil_out (v : Value) (base E : Nat) (count : Int) (data : List Nat) (ws : Puts) (w w0 : World) (hd : DiskNew w0 base v count data ws) (ho : Okay count data ws) (hE : w0.heap.size = E) (hEw : E ≤ w.heap.size) (hk : ∀ k, base ≤ k → k < E → w.heap[k]? = w0.heap[k]?) :
    Calls Try.prog 26 #[v] w fun e w' => e = .returned (.tuple #[]) ∧ Outs base E w w' := by
  obtain ⟨gd, q, m, gs, rfl, hgd, hrow, hp, _⟩ := hd.lies
  have hlen := ho.len
  have hhi := ho.hi
  have hfew := ho.few
  have hql := hp.lies
  have hdl : data.length ≤ 600000 := by omega
  have HJ : Hid (SK w base E w.heap.size count gd data.length q ws.length m gs (w.alloc (.cells #[.int .i64 count, .slice (some ⟨gd, 0, none⟩) data.length data.length, .slice q ws.length m] 25))) := by
    have hk1 : ∀ k, base ≤ k → k < E → (w.alloc (.cells #[.int .i64 count, .slice (some ⟨gd, 0, none⟩) data.length data.length, .slice q ws.length m] 25)).heap[k]? = w0.heap[k]? := fun k h1 h2 => ((below_alloc w _).block k (by omega)).trans (hk k h1 h2)
    have u8 : ∀ (g : Nat) (xs : List Nat) (wx : World), wx.heap[g]? = some (.cells (Bs xs).toArray 5 (0, 0)) → U8At wx g xs.length := by
      intro g xs wx h
      refine ⟨_, h, by simp [Bs], fun i hi => ?_⟩
      simp [Bs] at hi
      exact ⟨(xs[i] : Nat), by simp [Bs, List.getElem?_eq_getElem hi]⟩
    have hgE : gd < E := by rw [← hE]; exact lt_heap hrow
    refine ⟨heap_alloc_new w _, u8 _ _ _ ((hk1 _ hgd hgE).trans hrow), ⟨hgd, hgE⟩, fun h0 => ?_, fun i hi => ?_, (Outs.refl _ _ _).alloc _⟩
    · rcases hp.row.2 with ⟨_, hn⟩ | ⟨g, cap, cur, hv, hb, hg, hle, hmax, hsz, htk⟩
      · omega
      · simp only [Value.slice.injEq] at hv
        have hgE2 : g < E := by rw [← hE]; exact lt_heap hg
        refine ⟨g, cur, hv.1, ⟨hb, hgE2⟩, (hk1 _ hb hgE2).trans hg, fun i hi => ?_⟩
        obtain ⟨c0, c1⟩ := cellsP_at ws gs i hp.len hi
        have hcur : ∀ j, j < ws.length * 2 → cur[j]? = (cellsP ws gs)[j]? := by
          intro j hj
          rw [← htk, List.getElem?_take, if_pos hj, Array.getElem?_toList]
        rw [hcur _ (by omega), hcur _ (by omega), c0, c1]
        exact ⟨⟨_, rfl⟩, rfl⟩
    · have r := hp.rows i hi
      have hgE3 : gs.getD i 0 < E := by rw [← hE]; exact lt_heap r.2
      have := u8 _ _ _ ((hk1 _ r.1 hgE3).trans r.2)
      rw [(hp.full _ (getD_mem hi)).1] at this
      exact ⟨⟨r.1, hgE3⟩, this⟩
  have hN : ws.length ≤ 4096 := hfew
  clear hp hrow hql hd ho hk hE
  generalize hW : (w.alloc (.cells #[.int .i64 count, .slice (some ⟨gd, 0, none⟩) data.length data.length, .slice q ws.length m] 25)) = W at HJ
  have HWW : Hid _ := hW
  go_enter Try.func26, Try.ntmps26
  go_wp2
  clear hW
  go_loopw [2] (fun i wr => ∃ k : Nat, k ≤ data.length ∧ i = .int .i64 k ∧ SK w base E w.heap.size count gd data.length q ws.length m gs wr) (fun i _ => data.length - (intOf i).toNat)
  case atStart => exact ⟨0, by omega, rfl, by first | exact HJ.out | (rw [HWW.out]; exact HJ.out)⟩
  case round =>
    obtain ⟨k, hk, rfl, hj⟩ := hrel
    obtain ⟨x0, x1, x2⟩ := cells3 hj.box
    by_cases hkl : k < data.length
    · obtain ⟨cs, hg, hn, hc⟩ := hj.data
      obtain ⟨xx, hx⟩ := hc k (by omega)
      have hcell := cell_of_row wr gd k _ _ _ hg
      rw [hx] at hcell
      have hf := frozen_of_row wr gd k _ _ hg
      have HJ2 : Hid _ := hj.setU8 hg hj.hgd k 77
      clear hj hg hc hx
      go_wp2
      go_roundw
      case rel => exact ⟨k + 1, by omega, by go_num, HJ2.out⟩
      case measure => simp [intOf]; omega
    · obtain rfl : k = data.length := by omega
      have HJ1 : Hid _ := hj
      clear hj
      go_wp2
      go_loopw [3] (fun i wr => ∃ j : Nat, j ≤ ws.length ∧ i = .int .i64 j ∧ SK w base E w.heap.size count gd data.length q ws.length m gs wr) (fun i _ => ws.length - (intOf i).toNat)
      case atStart => exact ⟨0, by omega, rfl, HJ1.out⟩
      case round =>
        obtain ⟨j, hjl, rfl, hj⟩ := hrel
        obtain ⟨x0, x1, x2⟩ := cells3 hj.box
        by_cases hjw : j < ws.length
        · obtain ⟨g, _, rfl, _⟩ := hj.row (by omega)
          have HJ3 : Hid _ := hj
          clear hj
          go_wp2
          go_loopw [4] (fun i wr => ∃ k : Nat, k ≤ 128 ∧ i = .int .i64 k ∧ SK w base E w.heap.size count gd data.length (some ⟨g, 0, none⟩) ws.length m gs wr) (fun i _ => 128 - (intOf i).toNat)
          case atStart => exact ⟨0, by omega, rfl, HJ3.out⟩
          case round =>
            obtain ⟨k, hk, rfl, hj⟩ := hrel
            obtain ⟨y0, y1, y2⟩ := cells3 hj.box
            obtain ⟨g', cs', e', hb', hg', hrow'⟩ := hj.row (by omega)
            simp only [Option.some.injEq, Addr.mk.injEq, and_true] at e'
            subst e'
            obtain ⟨⟨xs', hxs⟩, hsl⟩ := hrow' j hjw
            have r0 := cell_of_row wr g (j * 2) _ _ _ hg'
            have r1 := cell_of_row wr g (j * 2 + 1) _ _ _ hg'
            rw [hxs] at r0
            rw [hsl] at r1
            have rf := frozen_of_row wr g (j * 2) _ _ hg'
            have hjn : (0 : Int) ≤ (j : Int) := by omega
            have hjn2 : (j : Int) < (ws.length : Int) := by omega
            by_cases hkl : k < 128
            · obtain ⟨hgb, cs, hg, hn, hc⟩ := hj.rows j hjw
              obtain ⟨xx, hx⟩ := hc k (by omega)
              have hcell := cell_of_row wr _ k _ _ _ hg
              rw [hx] at hcell
              have hf := frozen_of_row wr _ k _ _ hg
              have HJ2 : Hid _ := hj.setU8 hg hgb k 77
              clear hj hg hc hx hrow' hg' hxs hsl
              generalize gs.getD j 0 = gj at *
              go_wp2
              go_roundw
              case rel => exact ⟨k + 1, by omega, by go_num, HJ2.out⟩
              case measure => simp [intOf]; omega
            · obtain rfl : k = 128 := by omega
              have HJ2 : Hid _ := hj.setSec j hjw (-7)
              clear hj hrow' hg' hxs hsl
              generalize gs.getD j 0 = gj at *
              go_wp2
              go_roundw
              case rel => exact ⟨j + 1, by omega, by go_num, HJ2.out⟩
              case measure => simp [intOf]; omega
        · obtain rfl : j = ws.length := by omega
          have hbf := hj.bel
          clear hj
          go_wp2
          go_end0
          exact ⟨rfl, hbf⟩
theorem spoil_e (v : Value) (base E : Nat) (w : World) (h : SpoilsE w base E v) : Calls Try.prog 26 #[v] w fun e w' => e = .returned (.tuple #[]) ∧ Outs base E w w' := by
  obtain ⟨h0, h⟩ := h
  rcases h with rfl | ⟨c, d, ws, w0, h1, h2, h3, h4⟩
  · exact (spoil_zero w).mono fun e w' h => ⟨h.1, .of_below h.2⟩
  · exact spoil_out v base E c d ws w w0 h1 h2 h3 h0 h4
end Go.Proofs.Yteabacpalnamdaa
