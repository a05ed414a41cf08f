/-
  For the law FilesDirs: bytes that Write answers; how many pieces all files have; a row of pieces whose cells are written over; directories handed in.
-/
import Derived.Test.YtiakfdhbbkpfhaaGreatDoorJ11
import Derived.Laws.ResultCell
import Derived.Test.YtiakfdhbbkpfhaaGreatDoorJ08
import Derived.Deep.Slices
import Derived.Test.YtiakfdhbbkpfhaaGreatDoorJ10
namespace Go.Proofs.YtiakfdhbbkpfhaaGreatDoor
open Go.RowKit Go.WideShapes Rm

set_option maxRecDepth 4000 in
set_option maxHeartbeats 2000000 in
theorem read4_any (p : Option Addr) (c : Nat) (xs : List Nat) (w : World) (hL : Laid w) (hb : BIn w p xs) (hc : xs.length ≤ c) (hcm : c ≤ maxLen) :
    Calls Tryz.prog 103 #[.slice p xs.length c] w fun e w' => ReadPost w xs e w' := by
  have hb1 := hb.below (below_alloc w (.cells #[.int .i64 0, .slice none 0 0] 31))
  have HL1 : Hid (Laid (w.alloc (.cells #[.int .i64 0, .slice none 0 0] 31))) := hL.below (below_alloc w _)
  have HBY : Hid (Byt xs) := hb.2
  have hcm' := hcm
  unfold maxLen at hcm'
  by_cases hlen : xs.length = 1024
  · have hjo := joined_any p c xs _ hb1 hlen hc hcm
    have HLEN : Hid (xs.length = 1024) := hlen
    have hlen' : ((xs.length : Int) != 1024) = false := by simp [hlen]
    clear hb hb1 hL hcm
    rw [hlen] at hc ⊢
    clear hlen hlen'
    go_enter Tryz.func103, Tryz.ntmps103
    go_wp2_with fail
    refine hjo.mono ?_
    rintro e w1 (⟨r, rfl, hsec, ho1, hb1⟩ | ⟨ev, rfl, hfl, hno, hb1⟩)
    · have hs1 := hb1.size
      simp at hs1
      have HSEC : Hid (∀ i, i < 8 → SecOk xs i) := hsec
      have hrt := own_rowT ho1 (inner_byt HBY.out 8)
      have hil := innerN_len HLEN.out
      have HL2 : Hid (Laid w1) := HL1.out.below hb1
      cases hcf : cutFiles BP (innerN xs 8) with
      | none =>
        have hcl := cutFiles_any r (innerN xs 8) w1 HL2.out hrt (by omega) none (by rw [cutL_eq]; exact hcf)
        have HN0 : Hid (∀ x, ¬ IsDir ltS x xs) := fun x h => by obtain ⟨_, h1, _⟩ := isDir_cut bokBP h; rw [hcf] at h1; cases h1
        clear hjo hsec ho1 hrt hcf
        go_wp2_with fail
        refine hcl.mono ?_
        rintro e w2 ⟨ev, rfl, hfl, hb2⟩
        have HFL : Hid (Faults ev 8) := hfl
        obtain ⟨tx, vx, rfl⟩ := hfl.iface
        have hb' : Below (w.heap.size + 1) (w.alloc (.cells #[.int .i64 0, .slice none 0 0] 31)) w2 := (hb1.mono (by simp)).trans (hb2.mono (by omega))
        obtain ⟨c0, c1⟩ := box2 hb'
        obtain ⟨f0, f1⟩ := box2f hb'
        have HB : Hid (Below w.heap.size w w2) := box_below hb'
        have HN : Hid (∀ x, ¬ IsDir ltS x xs) := HN0.out
        clear hb' hb1 hb2 hfl hcl
        go_wp2
        (try simp only [Exit.inBlock, Exit.then])
        refine bodyPost_ret (v := .tuple #[.agg #[.int .i64 0, .slice none 0 0], .iface 120 (.agg #[.string ⟨#[105, 110, 115, 105, 100, 101]⟩, .iface tx vx])]) ?_ rfl ?_
        · rw [results_cell_tmp rfl]
          go_simp
        · exact .inr ⟨_, HN.out, rfl, .more _ HFL.out, by first | exact set2_below HB.out (by omega) _ _ | exact below_alloc _ _⟩
      | some lr =>
        obtain ⟨l, rest⟩ := lr
        have hcl := cutFiles_any r (innerN xs 8) w1 HL2.out hrt (by omega) (some (l, rest)) (by rw [cutL_eq]; exact hcf)
        obtain ⟨⟨ht1, ht2⟩, ht3⟩ := cut_told (inner_byt HBY.out 8) hcf
        have HCF : Hid (cutFiles BP (innerN xs 8) = some (l, rest)) := hcf
        have hG := beg8_lt HBY.out
        clear hjo hsec ho1 hrt hcf
        go_wp2_with fail
        refine hcl.mono ?_
        rintro e w2 ⟨ls, lv, v2, hls, rfl, hfo, hro, hb2⟩
        have hs2 := hb2.size
        have hb12 : Below (w.heap.size + 1) (w.alloc (.cells #[.int .i64 0, .slice none 0 0] 31)) w2 := (hb1.mono (by simp)).trans (hb2.mono (by omega))
        clear hcl hb1 hb2
        by_cases hz : ∃ x ∈ rest, x ≠ 0
        · have hcn := contains_nz v2 rest w2 hro.row true ⟨fun _ => hz, fun _ => rfl⟩
          have HN0 : Hid (∀ x, ¬ IsDir ltS x xs) := fun y h => by
            obtain ⟨x, hx, hne⟩ := hz
            exact hne ((isDir_is h HCF.out).2 x hx)
          clear hz hfo hro
          go_wp2_with fail
          refine hcn.mono ?_
          rintro e w3 ⟨rfl, rfl⟩
          have hb' : Below (w.heap.size + 1) (w.alloc (.cells #[.int .i64 0, .slice none 0 0] 31)) w3 := hb12
          obtain ⟨c0, c1⟩ := box2 hb'
          obtain ⟨f0, f1⟩ := box2f hb'
          have HB : Hid (Below w.heap.size w w3) := box_below hb'
          have HN : Hid (∀ x, ¬ IsDir ltS x xs) := HN0.out
          clear hb' hb12 hcn
          go_wp2
          (try simp only [Exit.inBlock, Exit.then])
          refine bodyPost_ret (v := .tuple #[.agg #[.int .i64 0, .slice none 0 0], .iface 120 (.agg #[.string ⟨#[98, 101, 104, 105, 110, 100, 32, 116, 104, 101, 32, 105, 110, 115, 105, 100, 101]⟩, .iface 26 (.int .i64 8)])]) ?_ rfl ?_
          · rw [results_cell_tmp rfl]
            go_simp
          · exact .inr ⟨_, HN.out, rfl, Faults.one _ _, by first | exact set2_below HB.out (by omega) _ _ | exact below_alloc _ _⟩
        · have hcn := contains_nz v2 rest w2 hro.row false ⟨fun h => (by cases h), fun h => absurd h hz⟩
          have HZ : Hid (∀ c ∈ rest, c = 0) := fun c hc => by
            rcases Nat.eq_zero_or_pos c with h | h
            · exact h
            · exact absurd ⟨c, hc, by omega⟩ hz
          have hfin := hfo.fin (fun x hx => (ht3 _ (by rw [← hls]; exact List.mem_map_of_mem hx)).2) (fun x hx => (ht3 _ (by rw [← hls]; exact List.mem_map_of_mem hx)).1)
          rw [hls] at hfin
          have hdir : DirIn w2 (.agg #[.int .i64 (wrap64 (beg8 xs : Nat)), lv]) ⟨wrap64 (beg8 xs : Nat), l⟩ := ⟨⟨lv, rfl, hfin⟩, wrap_wf⟩
          have HFO : Hid (FOwn w2 w1.heap.size lv ls) := hfo
          obtain ⟨ql, ml, rfl, _⟩ := hfo.form
          have hck := check4_any _ _ _ (hdir.below (below_alloc w2 (.cells #[.int .i64 (wrap64 (beg8 xs : Nat)), .slice ql ls.length ml] 31))) (fun f hf => by have := ht1 f hf; omega) (by simp only; omega)
          have HIS : Hid (∀ y, IsDir ltS y xs → y = ⟨wrap64 (beg8 xs : Nat), l⟩) := fun y h => (isDir_is h HCF.out).1
          have HOF : Hid (May ltS ⟨wrap64 (beg8 xs : Nat), l⟩ → IsDir ltS ⟨wrap64 (beg8 xs : Nat), l⟩ xs) := fun hm => by
            refine isDir_of HBY.out HLEN.out (fun i hi => ?_) HCF.out HZ.out hm
            obtain ⟨k1, k2⟩ := HSEC.out i hi
            refine ⟨?_, k2⟩
            rw [k1]
            have := hm.lo
            simp only at this ⊢
            rw [wrap_pos hG this]
            simp
          have HLS : Hid (ls.map Prod.fst = l) := hls
          clear hz hro hfin hdir hfo hls ht1 ht2 ht3
          generalize wrap64 (beg8 xs : Nat) = GG at *
          go_wp2_with fail
          refine hcn.mono ?_
          rintro e w3 ⟨rfl, rfl⟩
          go_wp2_with fail
          refine hck.mono ?_
          rintro e w4 ⟨rv, rfl, hrv, hb4⟩
          have hs4 := hb4.size
          simp at hs4
          have hb14 : Below (w.heap.size + 1) (w.alloc (.cells #[.int .i64 0, .slice none 0 0] 31)) w4 := (hb12.alloc (by omega) _).trans (hb4.mono (by simp; omega))
          obtain ⟨d0, d1⟩ := box2 (hb4.mono (by simp) : Below (w3.heap.size + 1) _ w4)
          have HFO4 : Hid (FOwn w4 w1.heap.size _ ls) := (HFO.out.below (below_alloc w3 _)).below hb4
          clear hck hcn hb4 hb12 HFO
          rcases hrv with ⟨hok, rfl⟩ | ⟨hno, hfl⟩
          · have HD : Hid (IsDir ltS ⟨GG, l⟩ xs) := HOF.out hok
            obtain ⟨c0, c1⟩ := box2 hb14
            obtain ⟨f0, f1⟩ := box2f hb14
            have HB : Hid (Below w.heap.size w w4) := box_below hb14
            clear hb14 hok HOF HIS
            go_wp2
            (try simp only [Exit.inBlock, Exit.then])
            refine bodyPost_ret (v := .tuple #[.agg #[.int .i64 GG, .slice ql ls.length ml], .nilIface]) ?_ rfl ?_
            · rw [results_cell_tmp rfl]
              go_simp
            · exact .inl ⟨⟨GG, l⟩, ls, _, HD.out, HLS.out, rfl, (HFO4.out.set2 (by omega) _ _).mono (by omega), set2_below HB.out (by omega) _ _⟩
          · have HFL : Hid (Faults rv 8) := hfl
            obtain ⟨tx, vx, rfl⟩ := hfl.iface
            have HN0 : Hid (∀ x, ¬ IsDir ltS x xs) := fun y h => by have e := HIS.out y h; subst e; exact hno h.1
            have hb' : Below (w.heap.size + 1) (w.alloc (.cells #[.int .i64 0, .slice none 0 0] 31)) w4 := hb14
            obtain ⟨c0, c1⟩ := box2 hb'
            obtain ⟨f0, f1⟩ := box2f hb'
            have HB : Hid (Below w.heap.size w w4) := box_below hb'
            have HN : Hid (∀ x, ¬ IsDir ltS x xs) := HN0.out
            clear hb' hb14 hno hfl
            go_wp2
            (try simp only [Exit.inBlock, Exit.then])
            refine bodyPost_ret (v := .tuple #[.agg #[.int .i64 0, .slice none 0 0], .iface tx vx]) ?_ rfl ?_
            · rw [results_cell_tmp rfl]
              go_simp
            · exact .inr ⟨_, HN.out, rfl, HFL.out, by first | exact set2_below HB.out (by omega) _ _ | exact below_alloc _ _⟩
    · have HFL : Hid (Faults ev 8) := hfl
      obtain ⟨tx, vx, rfl⟩ := hfl.iface
      have HN0 : Hid (∀ x, ¬ IsDir ltS x xs) := fun x h => by obtain ⟨i, hi, hh⟩ := hno; exact hh (isDir_ok h hi)
      have hb' : Below (w.heap.size + 1) (w.alloc (.cells #[.int .i64 0, .slice none 0 0] 31)) w1 := hb1.mono (by simp)
      obtain ⟨c0, c1⟩ := box2 hb'
      obtain ⟨f0, f1⟩ := box2f hb'
      have HB : Hid (Below w.heap.size w w1) := box_below hb'
      have HN : Hid (∀ x, ¬ IsDir ltS x xs) := HN0.out
      clear hb' hb1 hfl hno hjo
      go_wp2
      (try simp only [Exit.inBlock, Exit.then])
      refine bodyPost_ret (v := .tuple #[.agg #[.int .i64 0, .slice none 0 0], .iface tx vx]) ?_ rfl ?_
      · rw [results_cell_tmp rfl]
        go_simp
      · exact .inr ⟨_, HN.out, rfl, HFL.out, by first | exact set2_below HB.out (by omega) _ _ | exact below_alloc _ _⟩
  · have hne : ((xs.length : Int) != 1024) = true := by simp; omega
    have HN0 : Hid (∀ x, ¬ IsDir ltS x xs) := fun x h => hlen (isDir_len h)
    clear hlen hb hb1 hL
    go_enter Tryz.func103, Tryz.ntmps103
    go_wp2
    (try simp only [Exit.inBlock, Exit.then])
    refine bodyPost_ret (v := .tuple #[.agg #[.int .i64 0, .slice none 0 0], .iface 120 (.agg #[.string ⟨#[108, 101, 110, 103, 116, 104]⟩, .iface 26 (.int .i64 8)])]) ?_ rfl ?_
    · rw [results_cell_tmp rfl]
      go_simp
    · exact .inr ⟨_, HN0.out, rfl, Faults.one _ _, below_alloc _ _⟩
end Go.Proofs.YtiakfdhbbkpfhaaGreatDoor
namespace Go.Proofs.YtiakfdhbbkpfhaaGreatDoor
open Go.RowKit Go.WideShapes Rm

theorem own_keepB {w w' : World} {base n s : Nat} {e : TypeId} {v : Value} {xs : List Value} (h : w.ownsRow base e s v n xs) (hk : ∀ k, base ≤ k → k < w.heap.size → w'.heap[k]? = w.heap[k]?) : w'.ownsRow base e s v n xs := by
  refine ⟨h.1, ?_⟩
  rcases h.2 with h' | ⟨g, cap, cur, h1, h2, h3, h4⟩
  · exact .inl h'
  · exact .inr ⟨g, cap, cur, h1, h2, (hk g h2 (lt_heap h3)).trans h3, h4⟩
theorem FOwn.keepB {w w' : World} {base : Nat} {v : Value} {ls : FPs} (h : FOwn w base v ls) (hk : ∀ k, base ≤ k → k < w.heap.size → w'.heap[k]? = w.heap[k]?) : FOwn w' base v ls :=
  ⟨own_keepB h.row hk, fun x hx => own_keepB (h.pcs x hx) hk⟩
theorem results_cells {fn : Func} {p u : Tmp} {ty t2 : TypeId} (h : fn.results = #[.cell p ty, .cell u t2]) (tmps : Array Value) (P : Program) (w : World) :
    (results fn tmps).run P w = ((asAddr (tmps.getD p undef)).run P w).andThen fun a w₁ => ((loadVar ty a).run P w₁).andThen fun v w₂ => ((asAddr (tmps.getD u undef)).run P w₂).andThen fun a2 w₃ => ((loadVar t2 a2).run P w₃).andThen fun v2 w₄ => .ok (.tuple #[v, v2]) w₄ := by
  simp only [results, h]
  simp [Sem.run_bind, Result.andThen]
theorem o1 (w : World) {a b : Addr} (v : Value) (h : a ≠ b) : (w.setCell a v).cell? b = w.cell? b := World.cell?_setCell_other _ _ _ _ h
theorem o2 {w : World} {a : Addr} {v u : Value} (h : w.cell? a = some u) : (w.setCell a v).cell? a = some v := World.cell?_setCell_same _ _ _ h
theorem ab_ne {a b i j : Nat} (h : a ≠ b) : (⟨a, i, none⟩ : Addr) ≠ ⟨b, j, none⟩ := fun e => h (by cases e; rfl)
theorem ij_ne {a i j : Nat} (h : i ≠ j) : (⟨a, i, none⟩ : Addr) ≠ ⟨a, j, none⟩ := fun e => h (by cases e; rfl)
theorem rdA {w1 : World} {D E A : Nat} {g lv ev a3 : Value} (hDA : D ≠ A) (hEA : E ≠ A) (cA : w1.cell? ⟨A, 0, none⟩ = some a3) : ((((((w1.setCell ⟨D, 0, none⟩ g).setCell ⟨D, 1, none⟩ lv).setCell ⟨A, 0, none⟩ ev).setCell ⟨D, 0, none⟩ g).setCell ⟨D, 1, none⟩ lv).setCell ⟨E, 0, none⟩ (.int .i64 0)).cell? ⟨A, 0, none⟩ = some ev := by
  rw [o1 _ _ (ab_ne hEA), o1 _ _ (ab_ne hDA), o1 _ _ (ab_ne hDA)]
  refine o2 (u := a3) ?_
  rw [o1 _ _ (ab_ne hDA), o1 _ _ (ab_ne hDA)]
  exact cA
theorem rdE {w1 : World} {D E A : Nat} {g lv ev a2 : Value} (hDE : D ≠ E) (hEA : E ≠ A) (cE : w1.cell? ⟨E, 0, none⟩ = some a2) : ((((((w1.setCell ⟨D, 0, none⟩ g).setCell ⟨D, 1, none⟩ lv).setCell ⟨A, 0, none⟩ ev).setCell ⟨D, 0, none⟩ g).setCell ⟨D, 1, none⟩ lv).setCell ⟨E, 0, none⟩ (.int .i64 0)).cell? ⟨E, 0, none⟩ = some (.int .i64 0) := by
  refine o2 (u := a2) ?_
  rw [o1 _ _ (ab_ne hDE), o1 _ _ (ab_ne hDE), o1 _ _ (ab_ne (Ne.symm hEA)), o1 _ _ (ab_ne hDE), o1 _ _ (ab_ne hDE)]
  exact cE
theorem rdF {w1 : World} {D E A : Nat} {g lv ev : Value} (fE : w1.frozen? ⟨E, 0, none⟩ = false) : ((((((w1.setCell ⟨D, 0, none⟩ g).setCell ⟨D, 1, none⟩ lv).setCell ⟨A, 0, none⟩ ev).setCell ⟨D, 0, none⟩ g).setCell ⟨D, 1, none⟩ lv).setCell ⟨E, 0, none⟩ (.int .i64 0)).frozen? ⟨E, 0, none⟩ = false := by simp [fE]
theorem rd0 {w1 : World} {D E A : Nat} {g lv ev a0 : Value} (hDE : D ≠ E) (hDA : D ≠ A) (c0 : w1.cell? ⟨D, 0, none⟩ = some a0) : ((((((w1.setCell ⟨D, 0, none⟩ g).setCell ⟨D, 1, none⟩ lv).setCell ⟨A, 0, none⟩ ev).setCell ⟨D, 0, none⟩ g).setCell ⟨D, 1, none⟩ lv).setCell ⟨E, 0, none⟩ (.int .i64 0)).cell? ⟨D, 0, none⟩ = some g := by
  rw [o1 _ _ (ab_ne (Ne.symm hDE)), o1 _ _ (ij_ne (by decide))]
  refine o2 (u := g) ?_
  rw [o1 _ _ (ab_ne (Ne.symm hDA)), o1 _ _ (ij_ne (by decide))]
  exact o2 c0
theorem rd1 {w1 : World} {D E A : Nat} {g lv ev a1 : Value} (hDE : D ≠ E) (hDA : D ≠ A) (c1 : w1.cell? ⟨D, 1, none⟩ = some a1) : ((((((w1.setCell ⟨D, 0, none⟩ g).setCell ⟨D, 1, none⟩ lv).setCell ⟨A, 0, none⟩ ev).setCell ⟨D, 0, none⟩ g).setCell ⟨D, 1, none⟩ lv).setCell ⟨E, 0, none⟩ (.int .i64 0)).cell? ⟨D, 1, none⟩ = some lv := by
  rw [o1 _ _ (ab_ne (Ne.symm hDE))]
  refine o2 (u := lv) ?_
  rw [o1 _ _ (ij_ne (by decide)), o1 _ _ (ab_ne (Ne.symm hDA))]
  refine o2 (u := a1) ?_
  rw [o1 _ _ (ij_ne (by decide))]
  exact c1
theorem rdH {w1 : World} {D E A : Nat} {g lv ev : Value} {k : Nat} (h1 : k ≠ D) (h2 : k ≠ E) (h3 : k ≠ A) : ((((((w1.setCell ⟨D, 0, none⟩ g).setCell ⟨D, 1, none⟩ lv).setCell ⟨A, 0, none⟩ ev).setCell ⟨D, 0, none⟩ g).setCell ⟨D, 1, none⟩ lv).setCell ⟨E, 0, none⟩ (.int .i64 0)).heap[k]? = w1.heap[k]? := by
  rw [Below.heap_setCell _ _ _ _ h2, Below.heap_setCell _ _ _ _ h1, Below.heap_setCell _ _ _ _ h1, Below.heap_setCell _ _ _ _ h3, Below.heap_setCell _ _ _ _ h1, Below.heap_setCell _ _ _ _ h1]
theorem rdB {w w1 : World} {D E A B : Nat} {g lv ev : Value} (h : Below B w w1) (h1 : B ≤ D) (h2 : B ≤ E) (h3 : B ≤ A) : Below B w ((((((w1.setCell ⟨D, 0, none⟩ g).setCell ⟨D, 1, none⟩ lv).setCell ⟨A, 0, none⟩ ev).setCell ⟨D, 0, none⟩ g).setCell ⟨D, 1, none⟩ lv).setCell ⟨E, 0, none⟩ (.int .i64 0)) :=
  (((((h.setCell (p := ⟨D, 0, none⟩) h1 _).setCell (p := ⟨D, 1, none⟩) h1 _).setCell (p := ⟨A, 0, none⟩) h3 _).setCell (p := ⟨D, 0, none⟩) h1 _).setCell (p := ⟨D, 1, none⟩) h1 _).setCell (p := ⟨E, 0, none⟩) h2 _
theorem rdS {w1 : World} {D E A : Nat} {g lv ev : Value} : ((((((w1.setCell ⟨D, 0, none⟩ g).setCell ⟨D, 1, none⟩ lv).setCell ⟨A, 0, none⟩ ev).setCell ⟨D, 0, none⟩ g).setCell ⟨D, 1, none⟩ lv).setCell ⟨E, 0, none⟩ (.int .i64 0)).heap.size = w1.heap.size := by simp [World.setCell]
/-- What Read answers. -/
def ReadD (w : World) (xs : List Nat) (e : Ending) (w' : World) : Prop :=
  (∃ x ls lv, IsDir ltS x xs ∧ ls.map Prod.fst = x.files ∧ e = .returned (.tuple #[.agg #[.int .i64 x.gen, lv], .int .i64 0]) ∧ FOwn w' w.heap.size lv ls ∧ Below w.heap.size w w')
  ∨ ((∀ x, ¬ IsDir ltS x xs) ∧ e = .returned (.tuple #[.agg #[.int .i64 0, .slice none 0 0], .int .i64 8]) ∧ Below w.heap.size w w')
end Go.Proofs.YtiakfdhbbkpfhaaGreatDoor
namespace Go.Proofs.YtiakfdhbbkpfhaaGreatDoor
open Go.RowKit Go.WideShapes Go.ChangeShapes Go.Deep Go.Joins Rm

section
variable {P : Program} {w : World} {H : Type} {enc : TypeId × Value → H}

theorem open_files {t e tp ep : TypeId} {f0 f1 f2 p0 p1 : Field} {n : Nat} {v : Value} {x : DataW H × List MemPlace} (ht : P.underlying t = some (.slice e)) (he : P.underlying e = some (.struct #[f0, f1, f2])) (ce : P.cellsOf e = 3)
    (o0 : f0.offset = 0) (o1 : f1.offset = 1) (o2 : f2.offset = 2) (c0 : P.cellsOf f0.type = 1) (c1 : P.cellsOf f1.type = 1) (c2 : P.cellsOf f2.type = 1) (k0 : P.underlying f0.type = some .string) (k1 : P.underlying f1.type = some (.int .i64)) (k2 : f2.type = tp)
    (htp : P.underlying tp = some (.slice ep)) (hep : P.underlying ep = some (.struct #[p0, p1])) (cep : P.cellsOf ep = 2) (q0 : p0.offset = 0) (q1 : p1.offset = 1) (d0 : P.cellsOf p0.type = 1) (d1 : P.cellsOf p1.type = 1) (m0 : P.underlying p0.type = some (.int .i64)) (m1 : P.underlying p1.type = some (.int .i64))
    (h : DataW.trod enc P w 0 (fun _ => true) true n t [v] = some x) : ∃ l, FIn w v l ∧ ∀ f ∈ l, f.name.size ≤ maxLen := by
  subst k2
  rcases open_slice ht h with ⟨hcs, _⟩ | ⟨a, len, cap, m, k, D, Pl, hcs, _, hl, hm, hmm, _, hel⟩
  · simp only [List.cons.injEq, and_true] at hcs
    exact ⟨[], ⟨⟨none, 0, hcs, fun h => absurd h (by simp), by simp, by unfold maxLen; omega, fun _ => rfl⟩, by simp⟩, by simp⟩
  · simp only [List.cons.injEq, and_true] at hcs
    have hmc : m = cap := by simpa using hmm
    have each : ∀ i, i < len → ∃ y : FileV × Value, w.cell? (a.add (i * 3)) = some (.string y.1.name) ∧ w.cell? (a.add (i * 3 + 1)) = some (.int .i64 y.1.size) ∧ w.cell? (a.add (i * 3 + 2)) = some y.2 ∧ PIn w y.2 y.1.pcs ∧ wf64 y.1.size ∧ y.1.name.size ≤ maxLen := by
      intro i hi
      obtain ⟨cs', g1, g2⟩ := hel i (by omega)
      rw [ce] at g1
      obtain ⟨_, hlen, hcell⟩ := World.cells?_some g1
      obtain ⟨xs, k', hk, hxy, _, hxl, hf⟩ := DataW.trod_struct he g2
      match xs, hxl, cs', hlen with
      | [y0, y1, y2], _, [v0, v1, v2], _ =>
        have r0 := hf 0 f0 rfl
        have r1 := hf 1 f1 rfl
        have r2 := hf 2 f2 rfl
        simp [o0, o1, o2, c0, c1, c2] at r0 r1 r2
        have e0 := hcell 0 (by omega)
        have e1 := hcell 1 (by omega)
        have e2 := hcell 2 (by omega)
        rw [add_add] at e0 e1 e2
        obtain ⟨s, hs, _, hsz⟩ := DataW.trod_string k0 r0
        obtain ⟨z, hz, _, wz⟩ := DataW.trod_int k1 r1
        obtain ⟨l, hp⟩ := open_pcs htp hep cep q0 q1 d0 d1 m0 m1 r2
        simp only [List.cons.injEq, and_true] at hs hz
        subst hs hz
        exact ⟨(⟨s, z, l⟩, v2), by simpa using e0, by simpa using e1, by simpa using e2, hp, bounds_i64 wz, hsz⟩
    haveI : Inhabited (FileV × Value) := ⟨(zeroF, .nilIface)⟩
    obtain ⟨f, hf⟩ := choose_lt each
    have hlen : ((List.range len).map fun i => (f i).1).length = len := by simp
    have hget : ∀ i, i < len → ((List.range len).map fun i => (f i).1).getD i zeroF = (f i).1 := by intro i hi; simp [List.getD, hi]
    refine ⟨(List.range len).map fun i => (f i).1, ⟨⟨some a, cap, by rw [hlen]; exact hcs, fun hp => ?_, by rw [hlen]; exact hl, hm, by simp⟩, ?_⟩, ?_⟩
    · rw [hlen] at hp
      obtain ⟨b, o, s⟩ := a
      obtain rfl : s = none := by
        have := World.cell?_spot (hf 0 (by omega)).1
        simpa [Addr.add] using this
      refine ⟨b, o, rfl, fun i hi => ?_⟩
      rw [hlen] at hi
      obtain ⟨e0, e1, e2, e3, _⟩ := hf i hi
      rw [hget i hi]
      rw [add_plain] at e0 e1 e2
      exact ⟨e0, e1, (f i).2, e2, e3⟩
    · intro y hy
      simp only [List.mem_map, List.mem_range] at hy
      obtain ⟨i, hi, rfl⟩ := hy
      exact (hf i hi).2.2.2.2.1
    · intro y hy
      simp only [List.mem_map, List.mem_range] at hy
      obtain ⟨i, hi, rfl⟩ := hy
      exact (hf i hi).2.2.2.2.2
end
end Go.Proofs.YtiakfdhbbkpfhaaGreatDoor
namespace Go.Proofs.YtiakfdhbbkpfhaaGreatDoor
open Go.RowKit Go.WideShapes Go.ChangeShapes Go.Deep Go.Joins Rm

theorem wrote_bytes {x : DirV} {n : Int} {b : List Nat} (h : Wrote x n b) : ∀ c ∈ b, c < 256 := by
  cases h with
  | many => intro c hc; simp at hc
  | bad => intro c hc; simp at hc
  | long => intro c hc; simp at hc
  | ok h1 h2 =>
    intro c hc
    unfold bytesN sectsN at hc
    obtain ⟨i, hi, hc⟩ := List.mem_flatMap.1 hc
    have hi8 := List.mem_range.1 hi
    have := h1.lo
    have := h1.hi
    unfold sectN at hc
    simp only [List.mem_append, List.mem_singleton] at hc
    rcases hc with (hc | hc) | hc
    · exact putN_bytes _ (by omega) c hc
    · omega
    · exact pad_bytes (insideN_bytes _) c (List.mem_of_mem_drop (List.mem_of_mem_take hc))
theorem allPcs_le {l : List FileV} {c : Nat} (h : ∀ f ∈ l, f.pcs.length ≤ c) : (allPcs l).length ≤ l.length * c := by
  induction l with
  | nil => simp [allPcs]
  | cons g l ih =>
    have h1 := h g (by simp)
    have h2 := ih (fun f hf => h f (by simp [hf]))
    unfold allPcs at h2 ⊢
    rw [List.flatMap_cons, List.length_append, List.length_cons, Nat.succ_mul]
    omega
theorem May.fin {x : DirV} (h : May ltS x) : ∀ f ∈ x.files, wf64 f.size ∧ Wf f.pcs := by
  obtain ⟨_, _, hg⟩ := errK_zero h.pcs
  intro f hf
  refine ⟨?_, fun p hp => ?_⟩
  · have := h.told.size f hf
    unfold wf64
    omega
  · have := hg.wn p (mem_allPcs hf hp)
    unfold Wn at this
    omega
theorem cellsQ_set0 : ∀ (l : Pcs) (i : Nat) (z : Int), i < l.length → (cellsQ l).set (i * 2) (.int .i64 z) = cellsQ (l.set i (z, (l.getD i (0, 0)).2))
  | p :: l, 0, z, _ => by simp [cellsQ]
  | p :: l, i + 1, z, h => by
    have := cellsQ_set0 l i z (by simpa using h)
    simp only [cellsQ, List.flatMap_cons] at this ⊢
    rw [show (i + 1) * 2 = i * 2 + 1 + 1 from by omega]
    simpa [cellsQ] using this
  | [], _, _, h => by simp at h
theorem cellsQ_set1 : ∀ (l : Pcs) (i : Nat) (z : Int), i < l.length → (cellsQ l).set (i * 2 + 1) (.int .i64 z) = cellsQ (l.set i ((l.getD i (0, 0)).1, z))
  | p :: l, 0, z, _ => by simp [cellsQ]
  | p :: l, i + 1, z, h => by
    have := cellsQ_set1 l i z (by simpa using h)
    simp only [cellsQ, List.flatMap_cons] at this ⊢
    rw [show (i + 1) * 2 + 1 = i * 2 + 1 + 1 + 1 from by omega]
    simpa [cellsQ] using this
  | [], _, _, h => by simp at h
/-- A row of pieces, one cell of some block written over: still a row of as many. -/
theorem pown_over {w : World} {base g i : Nat} {v : Value} {l : Pcs} (h : POwn w base v l) (z : Int) : ∃ l', l'.length = l.length ∧ POwn (w.setCell ⟨g, i, none⟩ (.int .i64 z)) base v l' := by
  rcases h.2 with ⟨hv, h0⟩ | ⟨g', cap, cur, hv, hb, hg, h1, h2, h3, h4⟩
  · exact ⟨l, rfl, ⟨h.1, .inl ⟨hv, h0⟩⟩⟩
  · by_cases hgg : g' = g
    · subst hgg
      have hset : (w.setCell ⟨g', i, none⟩ (.int .i64 z)).heap[g']? = some (.cells (cur.set! i (.int .i64 z)) 53 (0, 0)) := by
        simp only [World.setCell, Array.getElem?_modify, hg, if_true]
        rfl
      have key : ∀ l' : Pcs, l'.length = l.length → (cur.set! i (.int .i64 z)).toList.take (l.length * 2) = cellsQ l' → POwn (w.setCell ⟨g', i, none⟩ (.int .i64 z)) base v l' := by
        intro l' hl ht
        refine ⟨by rw [cellsQ_len], .inr ⟨g', cap, _, by rw [hl]; exact hv, hb, hset, by omega, h2, by simpa using h3, by rw [hl]; exact ht⟩⟩
      have htk : (cur.set! i (.int .i64 z)).toList.take (l.length * 2) = (cellsQ l).set i (.int .i64 z) := by
        rw [← h4, Array.set!_eq_setIfInBounds, Array.toList_setIfInBounds, List.take_set]
      by_cases hi : i < l.length * 2
      · rcases Nat.mod_two_eq_zero_or_one i with hm | hm
        · refine ⟨l.set (i / 2) (z, (l.getD (i / 2) (0, 0)).2), by simp, key _ (by simp) ?_⟩
          rw [htk, ← cellsQ_set0 l (i / 2) z (by omega), show i / 2 * 2 = i from by omega]
        · refine ⟨l.set (i / 2) ((l.getD (i / 2) (0, 0)).1, z), by simp, key _ (by simp) ?_⟩
          rw [htk, ← cellsQ_set1 l (i / 2) z (by omega), show i / 2 * 2 + 1 = i from by omega]
      · refine ⟨l, rfl, key l rfl ?_⟩
        rw [htk, List.set_eq_of_length_le (by rw [cellsQ_len]; omega)]
    · exact ⟨l, rfl, ⟨h.1, .inr ⟨g', cap, cur, hv, hb, (Below.heap_setCell _ _ _ _ hgg).trans hg, h1, h2, h3, h4⟩⟩⟩
end Go.Proofs.YtiakfdhbbkpfhaaGreatDoor
