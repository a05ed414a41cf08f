/-
  Contract of the statements' own helper spoil: a disk that was answered is written over; what was there before stays.
-/
import Derived.Test.YteabacpalnamdaaRTwin2
namespace Go.Proofs.Yteabacpalnamdaa
open Go.RowKit Go.WideShapes

/-- A row of bytes is there, of n cells at least. -/
def U8At (w : World) (g n : Nat) : Prop := ∃ cs, w.heap[g]? = some (.cells cs 5 (0, 0)) ∧ n ≤ cs.size ∧ ∀ i, i < cs.size → ∃ x : Int, cs[i]? = some (.int .u8 x)
/-- What stays while a disk is written over. -/
structure SJ (w : World) (base bx : Nat) (count : Int) (gd nd : Nat) (q : Option Addr) (nw m : Nat) (gs : List Nat) (w' : World) : Prop where
  box : w'.heap[bx]? = some (.cells #[.int .i64 count, .slice (some ⟨gd, 0, none⟩) nd nd, .slice q nw m] 25 (0, 0))
  data : U8At w' gd nd
  hgd : base ≤ gd
  row : 0 < nw → ∃ g cs, q = some ⟨g, 0, none⟩ ∧ base ≤ g ∧ w'.heap[g]? = some (.cells cs 51 (0, 0)) ∧ ∀ i, i < nw → (∃ x : Int, cs[i * 2]? = some (.int .i64 x)) ∧ cs[i * 2 + 1]? = some (.slice (some ⟨gs.getD i 0, 0, none⟩) 128 128)
  rows : ∀ i, i < nw → base ≤ gs.getD i 0 ∧ U8At w' (gs.getD i 0) 128
  bel : Below base w w'
theorem U8At.set {w : World} {g n : Nat} (h : U8At w g n) (a : Addr) (x : Int) (ha : a.spot = none) : U8At (w.setCell a (.int .u8 x)) g n := by
  obtain ⟨cs, h1, h2, h3⟩ := h
  by_cases e : g = a.block
  · obtain ⟨b, o, s⟩ := a
    simp only at e ha
    subst ha
    subst e
    refine ⟨_, heap_setCell_same w g o _ _ _ h1, by simpa using h2, fun i hi => ?_⟩
    simp only [Array.size_setIfInBounds] at hi
    by_cases ho : o = i
    · subst ho
      exact ⟨x, by simp [hi]⟩
    · rw [Array.getElem?_setIfInBounds_ne ho]
      exact h3 i hi
  · exact ⟨cs, (heap_setCell_other w a g _ e).trans h1, h2, h3⟩
theorem U8At.other {w w' : World} {g n : Nat} (h : U8At w g n) (hk : ∀ cs, w.heap[g]? = some (.cells cs 5 (0, 0)) → w'.heap[g]? = w.heap[g]?) : U8At w' g n := by
  obtain ⟨cs, h1, h2⟩ := h
  exact ⟨cs, (hk cs h1).trans h1, h2⟩
theorem SJ.setU8 {w : World} {base bx : Nat} {count : Int} {gd nd : Nat} {q : Option Addr} {nw m : Nat} {gs : List Nat} {w' : World} (h : SJ w base bx count gd nd q nw m gs w') {g : Nat} {cs : Array Value} (hg : w'.heap[g]? = some (.cells cs 5 (0, 0))) (hb : base ≤ g) (j : Nat) (x : Int) :
    SJ w base bx count gd nd q nw m gs (w'.setCell ⟨g, j, none⟩ (.int .u8 x)) := by
  have hne : ∀ (k : Nat) (cs' : Array Value) (t : TypeId), t ≠ 5 → w'.heap[k]? = some (.cells cs' t (0, 0)) → k ≠ g := by
    rintro k cs' t ht hk rfl
    rw [hg] at hk
    simp only [Option.some.injEq, Obj.cells.injEq] at hk
    exact ht hk.2.1.symm
  refine ⟨(heap_setCell_other w' ⟨g, j, none⟩ bx _ (hne _ _ _ (by decide) h.box)).trans h.box, h.data.set _ _ rfl, h.hgd, fun h0 => ?_, fun i hi => ⟨(h.rows i hi).1, (h.rows i hi).2.set _ _ rfl⟩, h.bel.setCell hb _⟩
  obtain ⟨g', cs', h1, h2, h3, h4⟩ := h.row h0
  exact ⟨g', cs', h1, h2, (heap_setCell_other w' ⟨g, j, none⟩ g' _ (hne _ _ _ (by decide) h3)).trans h3, h4⟩
theorem SJ.setSec {w : World} {base bx : Nat} {count : Int} {gd nd : Nat} {g nw m : Nat} {gs : List Nat} {w' : World} (h : SJ w base bx count gd nd (some ⟨g, 0, none⟩) nw m gs w') (j : Nat) (hj : j < nw) (x : Int) :
    SJ w base bx count gd nd (some ⟨g, 0, none⟩) nw m gs (w'.setCell ⟨g, j * 2, none⟩ (.int .i64 x)) := by
  obtain ⟨g', cs', h1, h2, h3, h4⟩ := h.row (by omega)
  simp only [Option.some.injEq, Addr.mk.injEq, and_true] at h1
  subst h1
  have hne : ∀ (k : Nat) (cs : Array Value) (t : TypeId), t ≠ 51 → w'.heap[k]? = some (.cells cs t (0, 0)) → k ≠ g := by
    rintro k cs t ht hk rfl
    rw [h3] at hk
    simp only [Option.some.injEq, Obj.cells.injEq] at hk
    exact ht hk.2.1.symm
  refine ⟨(heap_setCell_other w' ⟨g, j * 2, none⟩ bx _ (hne _ _ _ (by decide) h.box)).trans h.box, h.data.other fun cs e => heap_setCell_other w' ⟨g, j * 2, none⟩ _ _ (hne _ _ _ (by decide) e), h.hgd, fun _ => ?_, fun i hi => ⟨(h.rows i hi).1, (h.rows i hi).2.other fun cs e => heap_setCell_other w' ⟨g, j * 2, none⟩ _ _ (hne _ _ _ (by decide) e)⟩, h.bel.setCell h2 _⟩
  refine ⟨g, _, rfl, h2, heap_setCell_same w' g (j * 2) _ _ _ h3, fun i hi => ?_⟩
  obtain ⟨⟨y, hy⟩, h5⟩ := h4 i hi
  refine ⟨?_, ?_⟩
  · by_cases e : j = i
    · subst e
      have hlt := (Array.getElem?_eq_some_iff.1 hy).1
      exact ⟨x, by simp [hlt]⟩
    · rw [Array.getElem?_setIfInBounds_ne (by omega)]
      exact ⟨y, hy⟩
  · rw [Array.getElem?_setIfInBounds_ne (by omega)]
    exact h5

set_option maxHeartbeats 2000000 in
theorem spoil_zero (w : World) : Calls Try.prog 26 #[zeroDisk] w fun e w' => e = .returned (.tuple #[]) ∧ Below w.heap.size w w' := by
  go_enter Try.func26, Try.ntmps26
  go_wp2
  refine wp_loop_rounds 1 ?_
  rw [rounds_succ]
  go_wp2
  refine wp_loop_rounds 1 ?_
  rw [rounds_succ]
  go_wp2
  go_end0
  exact ⟨rfl, below_alloc _ _⟩

set_option maxRecDepth 4000 in
set_option maxHeartbeats 4000000 in
theorem spoil_any (v : Value) (base : Nat) (count : Int) (data : List Nat) (ws : Puts) (w : World) (hd : DiskNew w base v count data ws) (ho : Okay count data ws) (hbs : base ≤ w.heap.size) :
    Calls Try.prog 26 #[v] w fun e w' => e = .returned (.tuple #[]) ∧ Below base w w' := by
  obtain ⟨gd, q, m, gs, rfl, hgd, hrow, hp, _⟩ := hd.lies
  have hlen := ho.len
  have hhi := ho.hi
  have hfew := ho.few
  have hql := hp.lies
  have hdl : data.length ≤ 600000 := by omega
  have HJ : Hid (SJ w base w.heap.size count gd data.length q ws.length m gs (w.alloc (.cells #[.int .i64 count, .slice (some ⟨gd, 0, none⟩) data.length data.length, .slice q ws.length m] 25))) := by
    have hp1 := hp.below (below_alloc w (.cells #[.int .i64 count, .slice (some ⟨gd, 0, none⟩) data.length data.length, .slice q ws.length m] 25))
    have u8 : ∀ (g : Nat) (xs : List Nat) (wx : World), wx.heap[g]? = some (.cells (Bs xs).toArray 5 (0, 0)) → U8At wx g xs.length := by
      intro g xs wx h
      refine ⟨_, h, by simp [Bs], fun i hi => ?_⟩
      simp [Bs] at hi
      exact ⟨(xs[i] : Nat), by simp [Bs, List.getElem?_eq_getElem hi]⟩
    refine ⟨heap_alloc_new w _, u8 _ _ _ (((below_alloc w _).block _ (lt_heap hrow)).trans hrow), hgd, fun h0 => ?_, fun i hi => ?_, (Below.refl _ _).alloc hbs _⟩
    · rcases hp1.row.2 with ⟨_, hn⟩ | ⟨g, cap, cur, hv, hb, hg, hle, hmax, hsz, htk⟩
      · omega
      · simp only [Value.slice.injEq] at hv
        refine ⟨g, cur, hv.1, hb, hg, fun i hi => ?_⟩
        obtain ⟨c0, c1⟩ := cellsP_at ws gs i hp1.len hi
        have hcur : ∀ j, j < ws.length * 2 → cur[j]? = (cellsP ws gs)[j]? := by
          intro j hj
          rw [← htk, List.getElem?_take, if_pos hj, Array.getElem?_toList]
        rw [hcur _ (by omega), hcur _ (by omega), c0, c1]
        exact ⟨⟨_, rfl⟩, rfl⟩
    · have r := hp1.rows i hi
      have := u8 _ _ _ r.2
      rw [(hp1.full _ (getD_mem hi)).1] at this
      exact ⟨r.1, this⟩
  have hN : ws.length ≤ 4096 := hfew
  clear hp hrow hql hd ho
  generalize hW : (w.alloc (.cells #[.int .i64 count, .slice (some ⟨gd, 0, none⟩) data.length data.length, .slice q ws.length m] 25)) = W at HJ
  have HWW : Hid _ := hW
  go_enter Try.func26, Try.ntmps26
  go_wp2
  clear hW
  go_loopw [2] (fun i wr => ∃ k : Nat, k ≤ data.length ∧ i = .int .i64 k ∧ SJ w base w.heap.size count gd data.length q ws.length m gs wr) (fun i _ => data.length - (intOf i).toNat)
  case atStart => exact ⟨0, by omega, rfl, by first | exact HJ.out | (rw [HWW.out]; exact HJ.out)⟩
  case round =>
    obtain ⟨k, hk, rfl, hj⟩ := hrel
    obtain ⟨x0, x1, x2⟩ := cells3 hj.box
    by_cases hkl : k < data.length
    · obtain ⟨cs, hg, hn, hc⟩ := hj.data
      obtain ⟨xx, hx⟩ := hc k (by omega)
      have hcell := cell_of_row wr gd k _ _ _ hg
      rw [hx] at hcell
      have hf := frozen_of_row wr gd k _ _ hg
      have HJ2 : Hid _ := hj.setU8 hg hj.hgd k 77
      clear hj hg hc hx
      go_wp2
      go_roundw
      case rel => exact ⟨k + 1, by omega, by go_num, HJ2.out⟩
      case measure => simp [intOf]; omega
    · obtain rfl : k = data.length := by omega
      have HJ1 : Hid _ := hj
      clear hj
      go_wp2
      go_loopw [3] (fun i wr => ∃ j : Nat, j ≤ ws.length ∧ i = .int .i64 j ∧ SJ w base w.heap.size count gd data.length q ws.length m gs wr) (fun i _ => ws.length - (intOf i).toNat)
      case atStart => exact ⟨0, by omega, rfl, HJ1.out⟩
      case round =>
        obtain ⟨j, hjl, rfl, hj⟩ := hrel
        obtain ⟨x0, x1, x2⟩ := cells3 hj.box
        by_cases hjw : j < ws.length
        · obtain ⟨g, _, rfl, _⟩ := hj.row (by omega)
          have HJ3 : Hid _ := hj
          clear hj
          go_wp2
          go_loopw [4] (fun i wr => ∃ k : Nat, k ≤ 128 ∧ i = .int .i64 k ∧ SJ w base w.heap.size count gd data.length (some ⟨g, 0, none⟩) ws.length m gs wr) (fun i _ => 128 - (intOf i).toNat)
          case atStart => exact ⟨0, by omega, rfl, HJ3.out⟩
          case round =>
            obtain ⟨k, hk, rfl, hj⟩ := hrel
            obtain ⟨y0, y1, y2⟩ := cells3 hj.box
            obtain ⟨g', cs', e', hb', hg', hrow'⟩ := hj.row (by omega)
            simp only [Option.some.injEq, Addr.mk.injEq, and_true] at e'
            subst e'
            obtain ⟨⟨xs', hxs⟩, hsl⟩ := hrow' j hjw
            have r0 := cell_of_row wr g (j * 2) _ _ _ hg'
            have r1 := cell_of_row wr g (j * 2 + 1) _ _ _ hg'
            rw [hxs] at r0
            rw [hsl] at r1
            have rf := frozen_of_row wr g (j * 2) _ _ hg'
            have hjn : (0 : Int) ≤ (j : Int) := by omega
            have hjn2 : (j : Int) < (ws.length : Int) := by omega
            by_cases hkl : k < 128
            · obtain ⟨hgb, cs, hg, hn, hc⟩ := hj.rows j hjw
              obtain ⟨xx, hx⟩ := hc k (by omega)
              have hcell := cell_of_row wr _ k _ _ _ hg
              rw [hx] at hcell
              have hf := frozen_of_row wr _ k _ _ hg
              have HJ2 : Hid _ := hj.setU8 hg hgb k 77
              clear hj hg hc hx hrow' hg' hxs hsl
              generalize gs.getD j 0 = gj at *
              go_wp2
              go_roundw
              case rel => exact ⟨k + 1, by omega, by go_num, HJ2.out⟩
              case measure => simp [intOf]; omega
            · obtain rfl : k = 128 := by omega
              have HJ2 : Hid _ := hj.setSec j hjw (-7)
              clear hj hrow' hg' hxs hsl
              generalize gs.getD j 0 = gj at *
              go_wp2
              go_roundw
              case rel => exact ⟨j + 1, by omega, by go_num, HJ2.out⟩
              case measure => simp [intOf]; omega
        · obtain rfl : j = ws.length := by omega
          have hbf := hj.bel
          clear hj
          go_wp2
          go_end0
          exact ⟨rfl, hbf⟩
end Go.Proofs.Yteabacpalnamdaa
