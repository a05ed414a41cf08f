/-
  Contract of the document's own answer Read.
-/
import Derived.Test.YtkgmhmhphgaclabGreatDoorJ11
import Derived.Laws.ResultCell
import Derived.Test.YtkgmhmhphgaclabGreatDoorJ03
import Derived.Test.YtkgmhmhphgaclabGreatDoorJ08
namespace Go.Proofs.YtkgmhmhphgaclabGreatDoor
open Go.RowKit Go.WideShapes Rm

set_option maxRecDepth 4000 in
set_option maxHeartbeats 2000000 in
theorem read4_any (p : Option Addr) (c : Nat) (xs : List Nat) (w : World) (hL : Laid w) (hb : BIn w p xs) (hc : xs.length ≤ c) (hcm : c ≤ maxLen) :
    Calls Tryz.prog 40 #[.slice p xs.length c] w fun e w' => ReadPost w xs e w' := by
  have hb1 := hb.below (below_alloc w (.cells #[.int .i64 0, .slice none 0 0] 43))
  have HL1 : Hid (Laid (w.alloc (.cells #[.int .i64 0, .slice none 0 0] 43))) := hL.below (below_alloc w _)
  have HBY : Hid (Byt xs) := hb.2
  have hcm' := hcm
  unfold maxLen at hcm'
  by_cases hlen : xs.length = 1024
  · have hjo := joined_any p c xs _ hb1 hlen hc hcm
    have HLEN : Hid (xs.length = 1024) := hlen
    have hlen' : ((xs.length : Int) != 1024) = false := by simp [hlen]
    clear hb hb1 hL hcm
    rw [hlen] at hc ⊢
    clear hlen hlen'
    go_enter Tryz.func40, Tryz.ntmps40
    go_wp2_with fail
    refine hjo.mono ?_
    rintro e w1 (⟨r, rfl, hsec, ho1, hb1⟩ | ⟨ev, rfl, hfl, hno, hb1⟩)
    · have hs1 := hb1.size
      simp at hs1
      have HSEC : Hid (∀ i, i < 8 → SecOk xs i) := hsec
      have hrt := own_rowT ho1 (inner_byt HBY.out 8)
      have hil := innerN_len HLEN.out
      have HL2 : Hid (Laid w1) := HL1.out.below hb1
      cases hcf : cutFiles BP (innerN xs 8) with
      | none =>
        have hcl := cutFiles_any r (innerN xs 8) w1 HL2.out hrt (by omega) none (by rw [cutL_eq]; exact hcf)
        have HN0 : Hid (∀ x, ¬ IsDir ltS x xs) := fun x h => by obtain ⟨_, h1, _⟩ := isDir_cut bokBP h; rw [hcf] at h1; cases h1
        clear hjo hsec ho1 hrt hcf
        go_wp2_with fail
        refine hcl.mono ?_
        rintro e w2 ⟨ev, rfl, hfl, hb2⟩
        have HFL : Hid (Faults ev 8) := hfl
        obtain ⟨tx, vx, rfl⟩ := hfl.iface
        have hb' : Below (w.heap.size + 1) (w.alloc (.cells #[.int .i64 0, .slice none 0 0] 43)) w2 := (hb1.mono (by simp)).trans (hb2.mono (by omega))
        obtain ⟨c0, c1⟩ := box2 hb'
        obtain ⟨f0, f1⟩ := box2f hb'
        have HB : Hid (Below w.heap.size w w2) := box_below hb'
        have HN : Hid (∀ x, ¬ IsDir ltS x xs) := HN0.out
        clear hb' hb1 hb2 hfl hcl
        go_wp2
        (try simp only [Exit.inBlock, Exit.then])
        refine bodyPost_ret (v := .tuple #[.agg #[.int .i64 0, .slice none 0 0], .iface 99 (.agg #[.string ⟨#[105, 110, 115, 105, 100, 101]⟩, .iface tx vx])]) ?_ rfl ?_
        · rw [results_cell_tmp rfl]
          go_simp
        · exact .inr ⟨_, HN.out, rfl, .more _ HFL.out, by first | exact set2_below HB.out (by omega) _ _ | exact below_alloc _ _⟩
      | some lr =>
        obtain ⟨l, rest⟩ := lr
        have hcl := cutFiles_any r (innerN xs 8) w1 HL2.out hrt (by omega) (some (l, rest)) (by rw [cutL_eq]; exact hcf)
        obtain ⟨⟨ht1, ht2⟩, ht3⟩ := cut_told (inner_byt HBY.out 8) hcf
        have HCF : Hid (cutFiles BP (innerN xs 8) = some (l, rest)) := hcf
        have hG := beg8_lt HBY.out
        clear hjo hsec ho1 hrt hcf
        go_wp2_with fail
        refine hcl.mono ?_
        rintro e w2 ⟨ls, lv, v2, hls, rfl, hfo, hro, hb2⟩
        have hs2 := hb2.size
        have hb12 : Below (w.heap.size + 1) (w.alloc (.cells #[.int .i64 0, .slice none 0 0] 43)) w2 := (hb1.mono (by simp)).trans (hb2.mono (by omega))
        clear hcl hb1 hb2
        by_cases hz : ∃ x ∈ rest, x ≠ 0
        · have hcn := contains_nz v2 rest w2 hro.row true ⟨fun _ => hz, fun _ => rfl⟩
          have HN0 : Hid (∀ x, ¬ IsDir ltS x xs) := fun y h => by
            obtain ⟨x, hx, hne⟩ := hz
            exact hne ((isDir_is h HCF.out).2 x hx)
          clear hz hfo hro
          go_wp2_with fail
          refine hcn.mono ?_
          rintro e w3 ⟨rfl, rfl⟩
          have hb' : Below (w.heap.size + 1) (w.alloc (.cells #[.int .i64 0, .slice none 0 0] 43)) w3 := hb12
          obtain ⟨c0, c1⟩ := box2 hb'
          obtain ⟨f0, f1⟩ := box2f hb'
          have HB : Hid (Below w.heap.size w w3) := box_below hb'
          have HN : Hid (∀ x, ¬ IsDir ltS x xs) := HN0.out
          clear hb' hb12 hcn
          go_wp2
          (try simp only [Exit.inBlock, Exit.then])
          refine bodyPost_ret (v := .tuple #[.agg #[.int .i64 0, .slice none 0 0], .iface 99 (.agg #[.string ⟨#[98, 101, 104, 105, 110, 100, 32, 116, 104, 101, 32, 105, 110, 115, 105, 100, 101]⟩, .iface 31 (.int .i64 8)])]) ?_ rfl ?_
          · rw [results_cell_tmp rfl]
            go_simp
          · exact .inr ⟨_, HN.out, rfl, Faults.one _ _, by first | exact set2_below HB.out (by omega) _ _ | exact below_alloc _ _⟩
        · have hcn := contains_nz v2 rest w2 hro.row false ⟨fun h => (by cases h), fun h => absurd h hz⟩
          have HZ : Hid (∀ c ∈ rest, c = 0) := fun c hc => by
            rcases Nat.eq_zero_or_pos c with h | h
            · exact h
            · exact absurd ⟨c, hc, by omega⟩ hz
          have hfin := hfo.fin (fun x hx => (ht3 _ (by rw [← hls]; exact List.mem_map_of_mem hx)).2) (fun x hx => (ht3 _ (by rw [← hls]; exact List.mem_map_of_mem hx)).1)
          rw [hls] at hfin
          have hdir : DirIn w2 (.agg #[.int .i64 (wrap64 (beg8 xs : Nat)), lv]) ⟨wrap64 (beg8 xs : Nat), l⟩ := ⟨⟨lv, rfl, hfin⟩, wrap_wf⟩
          have HFO : Hid (FOwn w2 w1.heap.size lv ls) := hfo
          obtain ⟨ql, ml, rfl, _⟩ := hfo.form
          have hck := check4_any _ _ _ (hdir.below (below_alloc w2 (.cells #[.int .i64 (wrap64 (beg8 xs : Nat)), .slice ql ls.length ml] 43))) (fun f hf => by have := ht1 f hf; omega) (by simp only; omega)
          have HIS : Hid (∀ y, IsDir ltS y xs → y = ⟨wrap64 (beg8 xs : Nat), l⟩) := fun y h => (isDir_is h HCF.out).1
          have HOF : Hid (May ltS ⟨wrap64 (beg8 xs : Nat), l⟩ → IsDir ltS ⟨wrap64 (beg8 xs : Nat), l⟩ xs) := fun hm => by
            refine isDir_of HBY.out HLEN.out (fun i hi => ?_) HCF.out HZ.out hm
            obtain ⟨k1, k2⟩ := HSEC.out i hi
            refine ⟨?_, k2⟩
            rw [k1]
            have := hm.lo
            simp only at this ⊢
            rw [wrap_pos hG this]
            simp
          have HLS : Hid (ls.map Prod.fst = l) := hls
          clear hz hro hfin hdir hfo hls ht1 ht2 ht3
          generalize wrap64 (beg8 xs : Nat) = GG at *
          go_wp2_with fail
          refine hcn.mono ?_
          rintro e w3 ⟨rfl, rfl⟩
          go_wp2_with fail
          refine hck.mono ?_
          rintro e w4 ⟨rv, rfl, hrv, hb4⟩
          have hs4 := hb4.size
          simp at hs4
          have hb14 : Below (w.heap.size + 1) (w.alloc (.cells #[.int .i64 0, .slice none 0 0] 43)) w4 := (hb12.alloc (by omega) _).trans (hb4.mono (by simp; omega))
          obtain ⟨d0, d1⟩ := box2 (hb4.mono (by simp) : Below (w3.heap.size + 1) _ w4)
          have HFO4 : Hid (FOwn w4 w1.heap.size _ ls) := (HFO.out.below (below_alloc w3 _)).below hb4
          clear hck hcn hb4 hb12 HFO
          rcases hrv with ⟨hok, rfl⟩ | ⟨hno, hfl⟩
          · have HD : Hid (IsDir ltS ⟨GG, l⟩ xs) := HOF.out hok
            obtain ⟨c0, c1⟩ := box2 hb14
            obtain ⟨f0, f1⟩ := box2f hb14
            have HB : Hid (Below w.heap.size w w4) := box_below hb14
            clear hb14 hok HOF HIS
            go_wp2
            (try simp only [Exit.inBlock, Exit.then])
            refine bodyPost_ret (v := .tuple #[.agg #[.int .i64 GG, .slice ql ls.length ml], .nilIface]) ?_ rfl ?_
            · rw [results_cell_tmp rfl]
              go_simp
            · exact .inl ⟨⟨GG, l⟩, ls, _, HD.out, HLS.out, rfl, (HFO4.out.set2 (by omega) _ _).mono (by omega), set2_below HB.out (by omega) _ _⟩
          · have HFL : Hid (Faults rv 8) := hfl
            obtain ⟨tx, vx, rfl⟩ := hfl.iface
            have HN0 : Hid (∀ x, ¬ IsDir ltS x xs) := fun y h => by have e := HIS.out y h; subst e; exact hno h.1
            have hb' : Below (w.heap.size + 1) (w.alloc (.cells #[.int .i64 0, .slice none 0 0] 43)) w4 := hb14
            obtain ⟨c0, c1⟩ := box2 hb'
            obtain ⟨f0, f1⟩ := box2f hb'
            have HB : Hid (Below w.heap.size w w4) := box_below hb'
            have HN : Hid (∀ x, ¬ IsDir ltS x xs) := HN0.out
            clear hb' hb14 hno hfl
            go_wp2
            (try simp only [Exit.inBlock, Exit.then])
            refine bodyPost_ret (v := .tuple #[.agg #[.int .i64 0, .slice none 0 0], .iface tx vx]) ?_ rfl ?_
            · rw [results_cell_tmp rfl]
              go_simp
            · exact .inr ⟨_, HN.out, rfl, HFL.out, by first | exact set2_below HB.out (by omega) _ _ | exact below_alloc _ _⟩
    · have HFL : Hid (Faults ev 8) := hfl
      obtain ⟨tx, vx, rfl⟩ := hfl.iface
      have HN0 : Hid (∀ x, ¬ IsDir ltS x xs) := fun x h => by obtain ⟨i, hi, hh⟩ := hno; exact hh (isDir_ok h hi)
      have hb' : Below (w.heap.size + 1) (w.alloc (.cells #[.int .i64 0, .slice none 0 0] 43)) w1 := hb1.mono (by simp)
      obtain ⟨c0, c1⟩ := box2 hb'
      obtain ⟨f0, f1⟩ := box2f hb'
      have HB : Hid (Below w.heap.size w w1) := box_below hb'
      have HN : Hid (∀ x, ¬ IsDir ltS x xs) := HN0.out
      clear hb' hb1 hfl hno hjo
      go_wp2
      (try simp only [Exit.inBlock, Exit.then])
      refine bodyPost_ret (v := .tuple #[.agg #[.int .i64 0, .slice none 0 0], .iface tx vx]) ?_ rfl ?_
      · rw [results_cell_tmp rfl]
        go_simp
      · exact .inr ⟨_, HN.out, rfl, HFL.out, by first | exact set2_below HB.out (by omega) _ _ | exact below_alloc _ _⟩
  · have hne : ((xs.length : Int) != 1024) = true := by simp; omega
    have HN0 : Hid (∀ x, ¬ IsDir ltS x xs) := fun x h => hlen (isDir_len h)
    clear hlen hb hb1 hL
    go_enter Tryz.func40, Tryz.ntmps40
    go_wp2
    (try simp only [Exit.inBlock, Exit.then])
    refine bodyPost_ret (v := .tuple #[.agg #[.int .i64 0, .slice none 0 0], .iface 99 (.agg #[.string ⟨#[108, 101, 110, 103, 116, 104]⟩, .iface 31 (.int .i64 8)])]) ?_ rfl ?_
    · rw [results_cell_tmp rfl]
      go_simp
    · exact .inr ⟨_, HN0.out, rfl, Faults.one _ _, below_alloc _ _⟩
end Go.Proofs.YtkgmhmhphgaclabGreatDoor
namespace Go.Proofs.YtkgmhmhphgaclabGreatDoor
open Go.RowKit Go.WideShapes Rm

theorem own_keepB {w w' : World} {base n s : Nat} {e : TypeId} {v : Value} {xs : List Value} (h : w.ownsRow base e s v n xs) (hk : ∀ k, base ≤ k → k < w.heap.size → w'.heap[k]? = w.heap[k]?) : w'.ownsRow base e s v n xs := by
  refine ⟨h.1, ?_⟩
  rcases h.2 with h' | ⟨g, cap, cur, h1, h2, h3, h4⟩
  · exact .inl h'
  · exact .inr ⟨g, cap, cur, h1, h2, (hk g h2 (lt_heap h3)).trans h3, h4⟩
theorem FOwn.keepB {w w' : World} {base : Nat} {v : Value} {ls : FPs} (h : FOwn w base v ls) (hk : ∀ k, base ≤ k → k < w.heap.size → w'.heap[k]? = w.heap[k]?) : FOwn w' base v ls :=
  ⟨own_keepB h.row hk, fun x hx => own_keepB (h.pcs x hx) hk⟩
theorem results_cells {fn : Func} {p u : Tmp} {ty t2 : TypeId} (h : fn.results = #[.cell p ty, .cell u t2]) (tmps : Array Value) (P : Program) (w : World) :
    (results fn tmps).run P w = ((asAddr (tmps.getD p undef)).run P w).andThen fun a w₁ => ((loadVar ty a).run P w₁).andThen fun v w₂ => ((asAddr (tmps.getD u undef)).run P w₂).andThen fun a2 w₃ => ((loadVar t2 a2).run P w₃).andThen fun v2 w₄ => .ok (.tuple #[v, v2]) w₄ := by
  simp only [results, h]
  simp [Sem.run_bind, Result.andThen]
theorem readD (a b : Addr) (ev old : Value) (n : Int) (u : FrameMode) (w : World) (hg : ErrT w) (hv : ErrV ev n) (ha : w.cell? a = some ev) (hb : w.cell? b = some old) (hf : w.frozen? b = false) :
    CallsD Tryz.prog 39 #[.pointer (some a), .pointer (some b)] u w fun e u' w' => u' = u ∧ e = .returned (.tuple #[]) ∧ ∃ w1, w' = w1.setCell b (.int .i64 n) ∧ Below w.heap.size w w1 := by
  have hn := number_v ev n hv w hg
  have hlt := World.block_lt_of_cell? _ _ hb
  go_enter_d Tryz.func39, Tryz.ntmps39
  go_wp2_with fail
  refine hn.mono ?_
  rintro e w1 ⟨rfl, hb1⟩
  have hb2 : w1.cell? b = some old := (hb1.cell hlt).trans hb
  have hf2 : w1.frozen? b = false := (hb1.frozen hlt).trans hf
  go_wp2
  go_end0
  exact ⟨rfl, w1, rfl, hb1⟩
theorem o1 (w : World) {a b : Addr} (v : Value) (h : a ≠ b) : (w.setCell a v).cell? b = w.cell? b := World.cell?_setCell_other _ _ _ _ h
theorem o2 {w : World} {a : Addr} {v u : Value} (h : w.cell? a = some u) : (w.setCell a v).cell? a = some v := World.cell?_setCell_same _ _ _ h
theorem ab_ne {a b i j : Nat} (h : a ≠ b) : (⟨a, i, none⟩ : Addr) ≠ ⟨b, j, none⟩ := fun e => h (by cases e; rfl)
theorem ij_ne {a i j : Nat} (h : i ≠ j) : (⟨a, i, none⟩ : Addr) ≠ ⟨a, j, none⟩ := fun e => h (by cases e; rfl)
theorem rdA {w1 : World} {D E A : Nat} {g lv ev a3 : Value} (hDA : D ≠ A) (hEA : E ≠ A) (cA : w1.cell? ⟨A, 0, none⟩ = some a3) : ((((((w1.setCell ⟨D, 0, none⟩ g).setCell ⟨D, 1, none⟩ lv).setCell ⟨A, 0, none⟩ ev).setCell ⟨D, 0, none⟩ g).setCell ⟨D, 1, none⟩ lv).setCell ⟨E, 0, none⟩ (.int .i64 0)).cell? ⟨A, 0, none⟩ = some ev := by
  rw [o1 _ _ (ab_ne hEA), o1 _ _ (ab_ne hDA), o1 _ _ (ab_ne hDA)]
  refine o2 (u := a3) ?_
  rw [o1 _ _ (ab_ne hDA), o1 _ _ (ab_ne hDA)]
  exact cA
theorem rdE {w1 : World} {D E A : Nat} {g lv ev a2 : Value} (hDE : D ≠ E) (hEA : E ≠ A) (cE : w1.cell? ⟨E, 0, none⟩ = some a2) : ((((((w1.setCell ⟨D, 0, none⟩ g).setCell ⟨D, 1, none⟩ lv).setCell ⟨A, 0, none⟩ ev).setCell ⟨D, 0, none⟩ g).setCell ⟨D, 1, none⟩ lv).setCell ⟨E, 0, none⟩ (.int .i64 0)).cell? ⟨E, 0, none⟩ = some (.int .i64 0) := by
  refine o2 (u := a2) ?_
  rw [o1 _ _ (ab_ne hDE), o1 _ _ (ab_ne hDE), o1 _ _ (ab_ne (Ne.symm hEA)), o1 _ _ (ab_ne hDE), o1 _ _ (ab_ne hDE)]
  exact cE
theorem rdF {w1 : World} {D E A : Nat} {g lv ev : Value} (fE : w1.frozen? ⟨E, 0, none⟩ = false) : ((((((w1.setCell ⟨D, 0, none⟩ g).setCell ⟨D, 1, none⟩ lv).setCell ⟨A, 0, none⟩ ev).setCell ⟨D, 0, none⟩ g).setCell ⟨D, 1, none⟩ lv).setCell ⟨E, 0, none⟩ (.int .i64 0)).frozen? ⟨E, 0, none⟩ = false := by simp [fE]
theorem rd0 {w1 : World} {D E A : Nat} {g lv ev a0 : Value} (hDE : D ≠ E) (hDA : D ≠ A) (c0 : w1.cell? ⟨D, 0, none⟩ = some a0) : ((((((w1.setCell ⟨D, 0, none⟩ g).setCell ⟨D, 1, none⟩ lv).setCell ⟨A, 0, none⟩ ev).setCell ⟨D, 0, none⟩ g).setCell ⟨D, 1, none⟩ lv).setCell ⟨E, 0, none⟩ (.int .i64 0)).cell? ⟨D, 0, none⟩ = some g := by
  rw [o1 _ _ (ab_ne (Ne.symm hDE)), o1 _ _ (ij_ne (by decide))]
  refine o2 (u := g) ?_
  rw [o1 _ _ (ab_ne (Ne.symm hDA)), o1 _ _ (ij_ne (by decide))]
  exact o2 c0
theorem rd1 {w1 : World} {D E A : Nat} {g lv ev a1 : Value} (hDE : D ≠ E) (hDA : D ≠ A) (c1 : w1.cell? ⟨D, 1, none⟩ = some a1) : ((((((w1.setCell ⟨D, 0, none⟩ g).setCell ⟨D, 1, none⟩ lv).setCell ⟨A, 0, none⟩ ev).setCell ⟨D, 0, none⟩ g).setCell ⟨D, 1, none⟩ lv).setCell ⟨E, 0, none⟩ (.int .i64 0)).cell? ⟨D, 1, none⟩ = some lv := by
  rw [o1 _ _ (ab_ne (Ne.symm hDE))]
  refine o2 (u := lv) ?_
  rw [o1 _ _ (ij_ne (by decide)), o1 _ _ (ab_ne (Ne.symm hDA))]
  refine o2 (u := a1) ?_
  rw [o1 _ _ (ij_ne (by decide))]
  exact c1
theorem rdH {w1 : World} {D E A : Nat} {g lv ev : Value} {k : Nat} (h1 : k ≠ D) (h2 : k ≠ E) (h3 : k ≠ A) : ((((((w1.setCell ⟨D, 0, none⟩ g).setCell ⟨D, 1, none⟩ lv).setCell ⟨A, 0, none⟩ ev).setCell ⟨D, 0, none⟩ g).setCell ⟨D, 1, none⟩ lv).setCell ⟨E, 0, none⟩ (.int .i64 0)).heap[k]? = w1.heap[k]? := by
  rw [Below.heap_setCell _ _ _ _ h2, Below.heap_setCell _ _ _ _ h1, Below.heap_setCell _ _ _ _ h1, Below.heap_setCell _ _ _ _ h3, Below.heap_setCell _ _ _ _ h1, Below.heap_setCell _ _ _ _ h1]
theorem rdB {w w1 : World} {D E A B : Nat} {g lv ev : Value} (h : Below B w w1) (h1 : B ≤ D) (h2 : B ≤ E) (h3 : B ≤ A) : Below B w ((((((w1.setCell ⟨D, 0, none⟩ g).setCell ⟨D, 1, none⟩ lv).setCell ⟨A, 0, none⟩ ev).setCell ⟨D, 0, none⟩ g).setCell ⟨D, 1, none⟩ lv).setCell ⟨E, 0, none⟩ (.int .i64 0)) :=
  (((((h.setCell (p := ⟨D, 0, none⟩) h1 _).setCell (p := ⟨D, 1, none⟩) h1 _).setCell (p := ⟨A, 0, none⟩) h3 _).setCell (p := ⟨D, 0, none⟩) h1 _).setCell (p := ⟨D, 1, none⟩) h1 _).setCell (p := ⟨E, 0, none⟩) h2 _
theorem rdS {w1 : World} {D E A : Nat} {g lv ev : Value} : ((((((w1.setCell ⟨D, 0, none⟩ g).setCell ⟨D, 1, none⟩ lv).setCell ⟨A, 0, none⟩ ev).setCell ⟨D, 0, none⟩ g).setCell ⟨D, 1, none⟩ lv).setCell ⟨E, 0, none⟩ (.int .i64 0)).heap.size = w1.heap.size := by simp [World.setCell]
/-- What Read answers. -/
def ReadD (w : World) (xs : List Nat) (e : Ending) (w' : World) : Prop :=
  (∃ x ls lv, IsDir ltS x xs ∧ ls.map Prod.fst = x.files ∧ e = .returned (.tuple #[.agg #[.int .i64 x.gen, lv], .int .i64 0]) ∧ FOwn w' w.heap.size lv ls ∧ Below w.heap.size w w')
  ∨ ((∀ x, ¬ IsDir ltS x xs) ∧ e = .returned (.tuple #[.agg #[.int .i64 0, .slice none 0 0], .int .i64 8]) ∧ Below w.heap.size w w')
set_option maxHeartbeats 2000000 in
theorem Read_any (p : Option Addr) (c : Nat) (xs : List Nat) (w : World) (hL : Laid w) (hb : BIn w p xs) (hc : xs.length ≤ c) (hcm : c ≤ maxLen) :
    Calls Tryz.prog 17 #[.slice p xs.length c] w fun e w' => ReadD w xs e w' := by
  have hb3 : Below w.heap.size w (((w.alloc (.cells #[.int .i64 0, .slice none 0 0] 43)).alloc (.cells #[.int .i64 0] 31)).alloc (.cells #[.nilIface] 63)) := ((below_alloc w _).alloc (by simp) _).alloc (by simp; omega) _
  have hrd := read4_any p c xs _ (hL.below hb3) (hb.below hb3) hc hcm
  have HG : Hid (ErrT w) := hL.err
  have hmf : ∀ (fn : Fn) (first cap : Array Value) (w : World), (Instr.makeFunc fn first cap).run Tryz.prog w = .ok (.func fn first cap) w := fun _ _ _ _ => rfl
  clear hL hb
  go_enter_defers Tryz.func17, Tryz.ntmps17
  go_wp2_with fail
  refine hrd.mono ?_
  rintro e w1 hpost
  have hbb : Below (((w.alloc (.cells #[.int .i64 0, .slice none 0 0] 43)).alloc (.cells #[.int .i64 0] 31)).alloc (.cells #[.nilIface] 63)).heap.size (((w.alloc (.cells #[.int .i64 0, .slice none 0 0] 43)).alloc (.cells #[.int .i64 0] 31)).alloc (.cells #[.nilIface] 63)) w1 := by
    rcases hpost with ⟨_, _, _, _, _, _, _, h⟩ | ⟨_, _, _, _, h⟩ <;> exact h
  have hs1 := hbb.size
  simp at hs1
  obtain ⟨cE, cA, fE, fA⟩ := vars2 (a := .int .i64 0) (b := .nilIface) (s := 31) (t := 63) (w.alloc (.cells #[.int .i64 0, .slice none 0 0] 43)) w1 hbb
  simp only [heap_size_alloc] at cE cA fE fA
  have hbx : Below (w.heap.size + 1) (w.alloc (.cells #[.int .i64 0, .slice none 0 0] 43)) w1 := (((Below.refl _ _).alloc (by simp) _).alloc (by simp) _).trans (hbb.mono (by simp))
  obtain ⟨c0, c1⟩ := box2 hbx
  obtain ⟨f0, f1⟩ := box2f hbx
  have HB : Hid (Below w.heap.size w w1) := box_below hbx
  clear hbb hbx hrd hb3
  rcases hpost with ⟨x, ls, lv, hd, hls, rfl, hfo, _⟩ | ⟨ev, hno, rfl, hfl, _⟩
  · have HDI : Hid (IsDir ltS x xs) := hd
    have HLS : Hid (ls.map Prod.fst = x.files) := hls
    have hfo' : FOwn w1 (w.heap.size + 1 + 1 + 1) lv ls := by simpa using hfo
    have HFO : Hid (FOwn w1 (w.heap.size + 1 + 1 + 1) lv ls) := hfo'
    obtain ⟨ql, ml, rfl, _⟩ := hfo.form
    have HEV : Hid (ErrV .nilIface 0) := .inl ⟨rfl, rfl⟩
    clear hd hls hfo hfo'
    go_wp2
    have g1 := rdA (g := .int .i64 x.gen) (lv := .slice ql ls.length ml) (ev := .nilIface) (D := w.heap.size) (E := w.heap.size + 1) (A := w.heap.size + 1 + 1) (by omega) (by omega) cA
    have g2 := rdE (g := .int .i64 x.gen) (lv := .slice ql ls.length ml) (ev := .nilIface) (D := w.heap.size) (E := w.heap.size + 1) (A := w.heap.size + 1 + 1) (by omega) (by omega) cE
    have g3 := rdF (g := .int .i64 x.gen) (lv := .slice ql ls.length ml) (ev := .nilIface) (D := w.heap.size) (E := w.heap.size + 1) (A := w.heap.size + 1 + 1) fE
    have g4 := rd0 (g := .int .i64 x.gen) (lv := .slice ql ls.length ml) (ev := .nilIface) (D := w.heap.size) (E := w.heap.size + 1) (A := w.heap.size + 1 + 1) (by omega) (by omega) c0
    have g5 := rd1 (g := .int .i64 x.gen) (lv := .slice ql ls.length ml) (ev := .nilIface) (D := w.heap.size) (E := w.heap.size + 1) (A := w.heap.size + 1 + 1) (by omega) (by omega) c1
    have g6 := fun k h1 h2 h3 => rdH (w1 := w1) (g := .int .i64 x.gen) (lv := .slice ql ls.length ml) (ev := .nilIface) (D := w.heap.size) (E := w.heap.size + 1) (A := w.heap.size + 1 + 1) (k := k) h1 h2 h3
    have g7 := rdS (w1 := w1) (g := .int .i64 x.gen) (lv := .slice ql ls.length ml) (ev := .nilIface) (D := w.heap.size) (E := w.heap.size + 1) (A := w.heap.size + 1 + 1)
    have hbW := rdB (g := .int .i64 x.gen) (lv := .slice ql ls.length ml) (ev := .nilIface) (D := w.heap.size) (E := w.heap.size + 1) (A := w.heap.size + 1 + 1) HB.out (by omega) (by omega) (by omega)
    generalize (((((w1.setCell ⟨w.heap.size, 0, none⟩ (.int .i64 x.gen)).setCell ⟨w.heap.size, 1, none⟩ (.slice ql ls.length ml)).setCell ⟨w.heap.size + 1 + 1, 0, none⟩ (.nilIface)).setCell ⟨w.heap.size, 0, none⟩ (.int .i64 x.gen)).setCell ⟨w.heap.size, 1, none⟩ (.slice ql ls.length ml)).setCell ⟨w.heap.size + 1, 0, none⟩ (.int .i64 0) = W at *
    refine leaves_cons (f := 39) (args := #[.pointer (some ⟨w.heap.size + 1 + 1, 0, none⟩), .pointer (some ⟨w.heap.size + 1, 0, none⟩)]) (by simp) (by simp [go_sem]) ?_
    refine (readD ⟨w.heap.size + 1 + 1, 0, none⟩ ⟨w.heap.size + 1, 0, none⟩ (.nilIface) (.int .i64 0) 0 .returning _ (HG.out.below hbW) HEV.out g1 g2 g3).mono ?_
    rintro e u' w'' ⟨rfl, rfl, w3, rfl, hb3⟩
    have hlE := World.block_lt_of_cell? _ _ g2
    have hlD := World.block_lt_of_cell? _ _ g4
    have k1 : (w3.setCell ⟨w.heap.size + 1, 0, none⟩ (.int .i64 0)).cell? ⟨w.heap.size + 1, 0, none⟩ = some (.int .i64 0) := World.cell?_setCell_same _ _ _ ((hb3.cell hlE).trans g2)
    have k4 : (w3.setCell ⟨w.heap.size + 1, 0, none⟩ (.int .i64 0)).cell? ⟨w.heap.size, 0, none⟩ = some (.int .i64 x.gen) := by rw [World.cell?_setCell_other _ _ _ _ (by simp)]; exact (hb3.cell hlD).trans g4
    have k5 : (w3.setCell ⟨w.heap.size + 1, 0, none⟩ (.int .i64 0)).cell? ⟨w.heap.size, 1, none⟩ = some (.slice ql ls.length ml) := by rw [World.cell?_setCell_other _ _ _ _ (by simp)]; exact (hb3.cell (World.block_lt_of_cell? _ _ g5)).trans g5
    have k2 : Below w.heap.size w (w3.setCell ⟨w.heap.size + 1, 0, none⟩ (.int .i64 0)) := (hbW.trans (hb3.mono hbW.size)).setCell (by simp) _
    have k6 : ∀ k, w.heap.size + 1 + 1 + 1 ≤ k → k < w1.heap.size → (w3.setCell ⟨w.heap.size + 1, 0, none⟩ (.int .i64 0)).heap[k]? = w1.heap[k]? := fun k hk hk2 => by
      rw [Below.heap_setCell _ _ _ _ (by simp; omega), hb3.block k (by omega), g6 k (by omega) (by omega) (by omega)]
    generalize w3.setCell ⟨w.heap.size + 1, 0, none⟩ (.int .i64 0) = w4 at *
    simp [Leaves, settle, results_cells Tryz.results17, go_sem, k1, k4, k5]
    exact .inl ⟨x, ls, _, HDI.out, HLS.out, rfl, (HFO.out.keepB k6).mono (by omega), k2⟩
  · have HN : Hid (∀ x, ¬ IsDir ltS x xs) := hno
    have HEV : Hid (ErrV ev 8) := .inr ⟨by decide, hfl⟩
    obtain ⟨tx, vx, rfl⟩ := hfl.iface
    clear hno hfl
    go_wp2
    have g1 := rdA (g := .int .i64 0) (lv := .slice none 0 0) (ev := .iface tx vx) (D := w.heap.size) (E := w.heap.size + 1) (A := w.heap.size + 1 + 1) (by omega) (by omega) cA
    have g2 := rdE (g := .int .i64 0) (lv := .slice none 0 0) (ev := .iface tx vx) (D := w.heap.size) (E := w.heap.size + 1) (A := w.heap.size + 1 + 1) (by omega) (by omega) cE
    have g3 := rdF (g := .int .i64 0) (lv := .slice none 0 0) (ev := .iface tx vx) (D := w.heap.size) (E := w.heap.size + 1) (A := w.heap.size + 1 + 1) fE
    have g4 := rd0 (g := .int .i64 0) (lv := .slice none 0 0) (ev := .iface tx vx) (D := w.heap.size) (E := w.heap.size + 1) (A := w.heap.size + 1 + 1) (by omega) (by omega) c0
    have g5 := rd1 (g := .int .i64 0) (lv := .slice none 0 0) (ev := .iface tx vx) (D := w.heap.size) (E := w.heap.size + 1) (A := w.heap.size + 1 + 1) (by omega) (by omega) c1
    have g6 := fun k h1 h2 h3 => rdH (w1 := w1) (g := .int .i64 0) (lv := .slice none 0 0) (ev := .iface tx vx) (D := w.heap.size) (E := w.heap.size + 1) (A := w.heap.size + 1 + 1) (k := k) h1 h2 h3
    have g7 := rdS (w1 := w1) (g := .int .i64 0) (lv := .slice none 0 0) (ev := .iface tx vx) (D := w.heap.size) (E := w.heap.size + 1) (A := w.heap.size + 1 + 1)
    have hbW := rdB (g := .int .i64 0) (lv := .slice none 0 0) (ev := .iface tx vx) (D := w.heap.size) (E := w.heap.size + 1) (A := w.heap.size + 1 + 1) HB.out (by omega) (by omega) (by omega)
    generalize (((((w1.setCell ⟨w.heap.size, 0, none⟩ (.int .i64 0)).setCell ⟨w.heap.size, 1, none⟩ (.slice none 0 0)).setCell ⟨w.heap.size + 1 + 1, 0, none⟩ (.iface tx vx)).setCell ⟨w.heap.size, 0, none⟩ (.int .i64 0)).setCell ⟨w.heap.size, 1, none⟩ (.slice none 0 0)).setCell ⟨w.heap.size + 1, 0, none⟩ (.int .i64 0) = W at *
    refine leaves_cons (f := 39) (args := #[.pointer (some ⟨w.heap.size + 1 + 1, 0, none⟩), .pointer (some ⟨w.heap.size + 1, 0, none⟩)]) (by simp) (by simp [go_sem]) ?_
    refine (readD ⟨w.heap.size + 1 + 1, 0, none⟩ ⟨w.heap.size + 1, 0, none⟩ (.iface tx vx) (.int .i64 0) 8 .returning _ (HG.out.below hbW) HEV.out g1 g2 g3).mono ?_
    rintro e u' w'' ⟨rfl, rfl, w3, rfl, hb3⟩
    have hlE := World.block_lt_of_cell? _ _ g2
    have hlD := World.block_lt_of_cell? _ _ g4
    have k1 : (w3.setCell ⟨w.heap.size + 1, 0, none⟩ (.int .i64 8)).cell? ⟨w.heap.size + 1, 0, none⟩ = some (.int .i64 8) := World.cell?_setCell_same _ _ _ ((hb3.cell hlE).trans g2)
    have k4 : (w3.setCell ⟨w.heap.size + 1, 0, none⟩ (.int .i64 8)).cell? ⟨w.heap.size, 0, none⟩ = some (.int .i64 0) := by rw [World.cell?_setCell_other _ _ _ _ (by simp)]; exact (hb3.cell hlD).trans g4
    have k5 : (w3.setCell ⟨w.heap.size + 1, 0, none⟩ (.int .i64 8)).cell? ⟨w.heap.size, 1, none⟩ = some (.slice none 0 0) := by rw [World.cell?_setCell_other _ _ _ _ (by simp)]; exact (hb3.cell (World.block_lt_of_cell? _ _ g5)).trans g5
    have k2 : Below w.heap.size w (w3.setCell ⟨w.heap.size + 1, 0, none⟩ (.int .i64 8)) := (hbW.trans (hb3.mono hbW.size)).setCell (by simp) _
    have k6 : ∀ k, w.heap.size + 1 + 1 + 1 ≤ k → k < w1.heap.size → (w3.setCell ⟨w.heap.size + 1, 0, none⟩ (.int .i64 8)).heap[k]? = w1.heap[k]? := fun k hk hk2 => by
      rw [Below.heap_setCell _ _ _ _ (by simp; omega), hb3.block k (by omega), g6 k (by omega) (by omega) (by omega)]
    generalize w3.setCell ⟨w.heap.size + 1, 0, none⟩ (.int .i64 8) = w4 at *
    simp [Leaves, settle, results_cells Tryz.results17, go_sem, k1, k4, k5]
    exact .inr ⟨HN.out, rfl, k2⟩
end Go.Proofs.YtkgmhmhphgaclabGreatDoor
namespace Go.Proofs.YtkgmhmhphgaclabGreatDoor
open Go.RowKit Go.WideShapes


/-- The lowest k bytes of a number. -/
def putK : Nat → Nat → List Nat
  | 0, _ => []
  | k + 1, m => (m % 256) :: putK k (m / 256)
theorem putK_8 (n : Nat) (h : n < 18446744073709551616) : putK 8 n = putN n := by
  simp only [putK, putN, Nat.div_div_eq_div_mul, Nat.reduceMul]
  have : n / 72057594037927936 % 256 = n / 72057594037927936 := by omega
  rw [this]
theorem putK_step (k m : Nat) (h : k < 8) : putK (8 - k) m = (m % 256) :: putK (8 - (k + 1)) (m / 256) := by
  rw [show 8 - k = (8 - (k + 1)) + 1 from by omega]; rfl

theorem ret_two {a b : Int} {k1 k2 : IntKind} {c : Int} (h : a = b) : Ending.returned (.tuple #[.int k1 a, .int k2 c]) = .returned (.tuple #[.int k1 b, .int k2 c]) := by rw [h]
end Go.Proofs.YtkgmhmhphgaclabGreatDoor
namespace Go.Proofs.YtkgmhmhphgaclabGreatDoor
open Go.RowKit Go.WideShapes


/-- The number of bytes, seven bits each, the lowest first. -/
def val : List Nat → Nat
  | [] => 0
  | c :: l => c % 128 + 128 * val l
theorem val_snoc (l : List Nat) (c : Nat) : val (l ++ [c]) = c % 128 * 2 ^ (7 * l.length) + val l := by
  induction l with
  | nil => simp [val]
  | cons a l ih =>
    rw [List.cons_append, val, val, ih, List.length_cons, show 7 * (l.length + 1) = 7 * l.length + 7 from by omega, Nat.pow_add]
    generalize 2 ^ (7 * l.length) = X
    rw [show 128 * (c % 128 * X + val l) = c % 128 * (X * 2 ^ 7) + 128 * val l from by rw [Nat.mul_add, ← Nat.mul_assoc, Nat.mul_comm 128 (c % 128), Nat.mul_assoc, Nat.mul_comm 128 X]]
    omega
theorem val_lt (l : List Nat) : val l < 2 ^ (7 * l.length) := by
  induction l with
  | nil => simp [val]
  | cons a l ih =>
    rw [val, List.length_cons, show 7 * (l.length + 1) = 7 * l.length + 7 from by omega, Nat.pow_add]
    omega
theorem take_at (xs : List Nat) (k : Nat) (h : k < xs.length) : xs.take (k + 1) = xs.take k ++ [xs.getD k 0] := by
  rw [List.take_succ_eq_append_getElem h]; simp [List.getD, List.getElem?_eq_getElem h]
theorem val_take (xs : List Nat) (k : Nat) (h : k < xs.length) : val (xs.take (k + 1)) = xs.getD k 0 % 128 * 2 ^ (7 * k) + val (xs.take k) := by
  rw [take_at xs k h, val_snoc, List.length_take, Nat.min_eq_left (by omega)]
theorem val_drop (xs : List Nat) (k t : Nat) (h : t ≤ k) (hk : k < xs.length) : val ((xs.take (k + 1)).drop t) = xs.getD t 0 % 128 + 128 * val ((xs.take (k + 1)).drop (t + 1)) := by
  have hl : t < (xs.take (k + 1)).length := by simp; omega
  rw [List.drop_eq_getElem_cons hl, val]
  congr 1
  simp [List.getD, List.getElem?_eq_getElem (show t < xs.length from by omega)]
theorem val_drop_le (l : List Nat) (t : Nat) : val (l.drop t) ≤ val l := by
  induction l generalizing t with
  | nil => simp
  | cons a l ih =>
    cases t with
    | zero => simp
    | succ t => rw [List.drop_succ_cons, val]; have := ih t; omega
theorem val_fits {l : List Nat} {t : Nat} (h : val l < 18446744073709551616) : val (l.drop t) < 18446744073709551616 := Nat.lt_of_le_of_lt (val_drop_le l t) h
theorem read_skip {xs : List Nat} (j : Nat) (hj : j ≤ 9) (hlen : j ≤ xs.length) (hall : ∀ i, i < j → 128 ≤ xs.getD i 0) : readN xs = readAux j (val (xs.take j)) (xs.drop j) := by
  induction j with
  | zero => simp [val, readN]
  | succ j ih =>
    rw [ih (by omega) (by omega) (fun i hi => hall i (by omega)), drop_at xs j (by omega), aux_hi (by omega) (hall j (by omega)), val_take xs j (by omega)]
theorem read_over {xs : List Nat} (hlen : 10 ≤ xs.length) (hall : ∀ i, i < 10 → 128 ≤ xs.getD i 0) : readN xs = none := by
  have := hall 9 (by omega)
  rw [read_skip 9 (by omega) (by omega) (fun i hi => hall i (by omega)), drop_at xs 9 (by omega), aux_big ⟨rfl, by omega⟩]
theorem read_end {xs : List Nat} (hlen : xs.length ≤ 9) (hall : ∀ i, i < xs.length → 128 ≤ xs.getD i 0) : readN xs = none := by
  rw [read_skip xs.length hlen (by omega) hall, List.drop_length]; rfl
theorem read_big {xs : List Nat} (hlen : 9 < xs.length) (hall : ∀ i, i < 9 → 128 ≤ xs.getD i 0) (h : 1 < xs.getD 9 0) : readN xs = none := by
  rw [read_skip 9 (by omega) (by omega) hall, drop_at xs 9 hlen, aux_big ⟨rfl, h⟩]
theorem read_zero {xs : List Nat} {k : Nat} (hlen : k < xs.length) (hk : k ≤ 9) (hall : ∀ i, i < k → 128 ≤ xs.getD i 0) (h0 : 0 < k) (h : xs.getD k 0 = 0) : readN xs = none := by
  rw [read_skip k hk (by omega) hall, drop_at xs k hlen, aux_zero (by omega) (by omega) ⟨h, h0⟩]
theorem read_ok {xs : List Nat} {k : Nat} (hlen : k < xs.length) (hk : k ≤ 9) (hall : ∀ i, i < k → 128 ≤ xs.getD i 0) (hc : xs.getD k 0 < 128) (hbig : k = 9 → xs.getD k 0 ≤ 1) (hz : 0 < k → xs.getD k 0 ≠ 0) : readN xs = some (val (xs.take (k + 1)), k + 1) := by
  rw [read_skip k hk (by omega) hall, drop_at xs k hlen, aux_end (by omega) (by omega) (by omega), val_take xs k hlen]
theorem read_ok_fits {xs : List Nat} {k : Nat} (hlen : k < xs.length) (hk : k ≤ 9) (hall : ∀ i, i < k → 128 ≤ xs.getD i 0) (hc : xs.getD k 0 < 128) (hbig : k = 9 → xs.getD k 0 ≤ 1) (hz : 0 < k → xs.getD k 0 ≠ 0) : val (xs.take (k + 1)) < 18446744073709551616 :=
  (readN_some (read_ok hlen hk hall hc hbig hz)).2.2.2

end Go.Proofs.YtkgmhmhphgaclabGreatDoor
