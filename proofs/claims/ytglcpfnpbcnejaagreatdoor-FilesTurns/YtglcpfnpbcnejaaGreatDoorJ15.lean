/-
  For the law FilesDirs: bytes that Write answers; how many pieces all files have; a row of pieces whose cells are written over; directories handed in.
-/
import Derived.Test.YtglcpfnpbcnejaaGreatDoorJ14
import Derived.Laws.ResultCell
import Derived.Test.YtglcpfnpbcnejaaGreatDoorJ07
import Derived.Deep.Slices
import Derived.Test.YtglcpfnpbcnejaaGreatDoorJ12
namespace Go.Proofs.YtglcpfnpbcnejaaGreatDoor
open Go.RowKit Go.WideShapes Rm

set_option maxRecDepth 4000 in
set_option maxHeartbeats 2000000 in
theorem read4_any (p : Option Addr) (c : Nat) (xs : List Nat) (w : World) (hL : Laid w) (hb : BIn w p xs) (hc : xs.length ≤ c) (hcm : c ≤ maxLen) :
    Calls Tryz.prog 103 #[.slice p xs.length c] w fun e w' => ReadPost w xs e w' := by
  have hb1 := hb.below (below_alloc w (.cells #[.int .i64 0, .slice none 0 0] 31))
  have HL1 : Hid (Laid (w.alloc (.cells #[.int .i64 0, .slice none 0 0] 31))) := hL.below (below_alloc w _)
  have HBY : Hid (Byt xs) := hb.2
  have hcm' := hcm
  unfold maxLen at hcm'
  by_cases hlen : xs.length = 1024
  · have hjo := joined_any p c xs _ hb1 hlen hc hcm
    have HLEN : Hid (xs.length = 1024) := hlen
    have hlen' : ((xs.length : Int) != 1024) = false := by simp [hlen]
    clear hb hb1 hL hcm
    rw [hlen] at hc ⊢
    clear hlen hlen'
    go_enter Tryz.func103, Tryz.ntmps103
    go_wp2_with fail
    refine hjo.mono ?_
    rintro e w1 (⟨r, rfl, hsec, ho1, hb1⟩ | ⟨ev, rfl, hfl, hno, hb1⟩)
    · have hs1 := hb1.size
      simp at hs1
      have HSEC : Hid (∀ i, i < 8 → SecOk xs i) := hsec
      have hrt := own_rowT ho1 (inner_byt HBY.out 8)
      have hil := innerN_len HLEN.out
      have HL2 : Hid (Laid w1) := HL1.out.below hb1
      cases hcf : cutFiles BP (innerN xs 8) with
      | none =>
        have hcl := cutFiles_any r (innerN xs 8) w1 HL2.out hrt (by omega) none (by rw [cutL_eq]; exact hcf)
        have HN0 : Hid (∀ x, ¬ IsDir ltS x xs) := fun x h => by obtain ⟨_, h1, _⟩ := isDir_cut bokBP h; rw [hcf] at h1; cases h1
        clear hjo hsec ho1 hrt hcf
        go_wp2_with fail
        refine hcl.mono ?_
        rintro e w2 ⟨ev, rfl, hfl, hb2⟩
        have HFL : Hid (Faults ev 8) := hfl
        obtain ⟨tx, vx, rfl⟩ := hfl.iface
        have hb' : Below (w.heap.size + 1) (w.alloc (.cells #[.int .i64 0, .slice none 0 0] 31)) w2 := (hb1.mono (by simp)).trans (hb2.mono (by omega))
        obtain ⟨c0, c1⟩ := box2 hb'
        obtain ⟨f0, f1⟩ := box2f hb'
        have HB : Hid (Below w.heap.size w w2) := box_below hb'
        have HN : Hid (∀ x, ¬ IsDir ltS x xs) := HN0.out
        clear hb' hb1 hb2 hfl hcl
        go_wp2
        (try simp only [Exit.inBlock, Exit.then])
        refine bodyPost_ret (v := .tuple #[.agg #[.int .i64 0, .slice none 0 0], .iface 120 (.agg #[.string ⟨#[105, 110, 115, 105, 100, 101]⟩, .iface tx vx])]) ?_ rfl ?_
        · rw [results_cell_tmp rfl]
          go_simp
        · exact .inr ⟨_, HN.out, rfl, .more _ HFL.out, by first | exact set2_below HB.out (by omega) _ _ | exact below_alloc _ _⟩
      | some lr =>
        obtain ⟨l, rest⟩ := lr
        have hcl := cutFiles_any r (innerN xs 8) w1 HL2.out hrt (by omega) (some (l, rest)) (by rw [cutL_eq]; exact hcf)
        obtain ⟨⟨ht1, ht2⟩, ht3⟩ := cut_told (inner_byt HBY.out 8) hcf
        have HCF : Hid (cutFiles BP (innerN xs 8) = some (l, rest)) := hcf
        have hG := beg8_lt HBY.out
        clear hjo hsec ho1 hrt hcf
        go_wp2_with fail
        refine hcl.mono ?_
        rintro e w2 ⟨ls, lv, v2, hls, rfl, hfo, hro, hb2⟩
        have hs2 := hb2.size
        have hb12 : Below (w.heap.size + 1) (w.alloc (.cells #[.int .i64 0, .slice none 0 0] 31)) w2 := (hb1.mono (by simp)).trans (hb2.mono (by omega))
        clear hcl hb1 hb2
        by_cases hz : ∃ x ∈ rest, x ≠ 0
        · have hcn := contains_nz v2 rest w2 hro.row true ⟨fun _ => hz, fun _ => rfl⟩
          have HN0 : Hid (∀ x, ¬ IsDir ltS x xs) := fun y h => by
            obtain ⟨x, hx, hne⟩ := hz
            exact hne ((isDir_is h HCF.out).2 x hx)
          clear hz hfo hro
          go_wp2_with fail
          refine hcn.mono ?_
          rintro e w3 ⟨rfl, rfl⟩
          have hb' : Below (w.heap.size + 1) (w.alloc (.cells #[.int .i64 0, .slice none 0 0] 31)) w3 := hb12
          obtain ⟨c0, c1⟩ := box2 hb'
          obtain ⟨f0, f1⟩ := box2f hb'
          have HB : Hid (Below w.heap.size w w3) := box_below hb'
          have HN : Hid (∀ x, ¬ IsDir ltS x xs) := HN0.out
          clear hb' hb12 hcn
          go_wp2
          (try simp only [Exit.inBlock, Exit.then])
          refine bodyPost_ret (v := .tuple #[.agg #[.int .i64 0, .slice none 0 0], .iface 120 (.agg #[.string ⟨#[98, 101, 104, 105, 110, 100, 32, 116, 104, 101, 32, 105, 110, 115, 105, 100, 101]⟩, .iface 26 (.int .i64 8)])]) ?_ rfl ?_
          · rw [results_cell_tmp rfl]
            go_simp
          · exact .inr ⟨_, HN.out, rfl, Faults.one _ _, by first | exact set2_below HB.out (by omega) _ _ | exact below_alloc _ _⟩
        · have hcn := contains_nz v2 rest w2 hro.row false ⟨fun h => (by cases h), fun h => absurd h hz⟩
          have HZ : Hid (∀ c ∈ rest, c = 0) := fun c hc => by
            rcases Nat.eq_zero_or_pos c with h | h
            · exact h
            · exact absurd ⟨c, hc, by omega⟩ hz
          have hfin := hfo.fin (fun x hx => (ht3 _ (by rw [← hls]; exact List.mem_map_of_mem hx)).2) (fun x hx => (ht3 _ (by rw [← hls]; exact List.mem_map_of_mem hx)).1)
          rw [hls] at hfin
          have hdir : DirIn w2 (.agg #[.int .i64 (wrap64 (beg8 xs : Nat)), lv]) ⟨wrap64 (beg8 xs : Nat), l⟩ := ⟨⟨lv, rfl, hfin⟩, wrap_wf⟩
          have HFO : Hid (FOwn w2 w1.heap.size lv ls) := hfo
          obtain ⟨ql, ml, rfl, _⟩ := hfo.form
          have hck := check4_any _ _ _ (hdir.below (below_alloc w2 (.cells #[.int .i64 (wrap64 (beg8 xs : Nat)), .slice ql ls.length ml] 31))) (fun f hf => by have := ht1 f hf; omega) (by simp only; omega)
          have HIS : Hid (∀ y, IsDir ltS y xs → y = ⟨wrap64 (beg8 xs : Nat), l⟩) := fun y h => (isDir_is h HCF.out).1
          have HOF : Hid (May ltS ⟨wrap64 (beg8 xs : Nat), l⟩ → IsDir ltS ⟨wrap64 (beg8 xs : Nat), l⟩ xs) := fun hm => by
            refine isDir_of HBY.out HLEN.out (fun i hi => ?_) HCF.out HZ.out hm
            obtain ⟨k1, k2⟩ := HSEC.out i hi
            refine ⟨?_, k2⟩
            rw [k1]
            have := hm.lo
            simp only at this ⊢
            rw [wrap_pos hG this]
            simp
          have HLS : Hid (ls.map Prod.fst = l) := hls
          clear hz hro hfin hdir hfo hls ht1 ht2 ht3
          generalize wrap64 (beg8 xs : Nat) = GG at *
          go_wp2_with fail
          refine hcn.mono ?_
          rintro e w3 ⟨rfl, rfl⟩
          go_wp2_with fail
          refine hck.mono ?_
          rintro e w4 ⟨rv, rfl, hrv, hb4⟩
          have hs4 := hb4.size
          simp at hs4
          have hb14 : Below (w.heap.size + 1) (w.alloc (.cells #[.int .i64 0, .slice none 0 0] 31)) w4 := (hb12.alloc (by omega) _).trans (hb4.mono (by simp; omega))
          obtain ⟨d0, d1⟩ := box2 (hb4.mono (by simp) : Below (w3.heap.size + 1) _ w4)
          have HFO4 : Hid (FOwn w4 w1.heap.size _ ls) := (HFO.out.below (below_alloc w3 _)).below hb4
          clear hck hcn hb4 hb12 HFO
          rcases hrv with ⟨hok, rfl⟩ | ⟨hno, hfl⟩
          · have HD : Hid (IsDir ltS ⟨GG, l⟩ xs) := HOF.out hok
            obtain ⟨c0, c1⟩ := box2 hb14
            obtain ⟨f0, f1⟩ := box2f hb14
            have HB : Hid (Below w.heap.size w w4) := box_below hb14
            clear hb14 hok HOF HIS
            go_wp2
            (try simp only [Exit.inBlock, Exit.then])
            refine bodyPost_ret (v := .tuple #[.agg #[.int .i64 GG, .slice ql ls.length ml], .nilIface]) ?_ rfl ?_
            · rw [results_cell_tmp rfl]
              go_simp
            · exact .inl ⟨⟨GG, l⟩, ls, _, HD.out, HLS.out, rfl, (HFO4.out.set2 (by omega) _ _).mono (by omega), set2_below HB.out (by omega) _ _⟩
          · have HFL : Hid (Faults rv 8) := hfl
            obtain ⟨tx, vx, rfl⟩ := hfl.iface
            have HN0 : Hid (∀ x, ¬ IsDir ltS x xs) := fun y h => by have e := HIS.out y h; subst e; exact hno h.1
            have hb' : Below (w.heap.size + 1) (w.alloc (.cells #[.int .i64 0, .slice none 0 0] 31)) w4 := hb14
            obtain ⟨c0, c1⟩ := box2 hb'
            obtain ⟨f0, f1⟩ := box2f hb'
            have HB : Hid (Below w.heap.size w w4) := box_below hb'
            have HN : Hid (∀ x, ¬ IsDir ltS x xs) := HN0.out
            clear hb' hb14 hno hfl
            go_wp2
            (try simp only [Exit.inBlock, Exit.then])
            refine bodyPost_ret (v := .tuple #[.agg #[.int .i64 0, .slice none 0 0], .iface tx vx]) ?_ rfl ?_
            · rw [results_cell_tmp rfl]
              go_simp
            · exact .inr ⟨_, HN.out, rfl, HFL.out, by first | exact set2_below HB.out (by omega) _ _ | exact below_alloc _ _⟩
    · have HFL : Hid (Faults ev 8) := hfl
      obtain ⟨tx, vx, rfl⟩ := hfl.iface
      have HN0 : Hid (∀ x, ¬ IsDir ltS x xs) := fun x h => by obtain ⟨i, hi, hh⟩ := hno; exact hh (isDir_ok h hi)
      have hb' : Below (w.heap.size + 1) (w.alloc (.cells #[.int .i64 0, .slice none 0 0] 31)) w1 := hb1.mono (by simp)
      obtain ⟨c0, c1⟩ := box2 hb'
      obtain ⟨f0, f1⟩ := box2f hb'
      have HB : Hid (Below w.heap.size w w1) := box_below hb'
      have HN : Hid (∀ x, ¬ IsDir ltS x xs) := HN0.out
      clear hb' hb1 hfl hno hjo
      go_wp2
      (try simp only [Exit.inBlock, Exit.then])
      refine bodyPost_ret (v := .tuple #[.agg #[.int .i64 0, .slice none 0 0], .iface tx vx]) ?_ rfl ?_
      · rw [results_cell_tmp rfl]
        go_simp
      · exact .inr ⟨_, HN.out, rfl, HFL.out, by first | exact set2_below HB.out (by omega) _ _ | exact below_alloc _ _⟩
  · have hne : ((xs.length : Int) != 1024) = true := by simp; omega
    have HN0 : Hid (∀ x, ¬ IsDir ltS x xs) := fun x h => hlen (isDir_len h)
    clear hlen hb hb1 hL
    go_enter Tryz.func103, Tryz.ntmps103
    go_wp2
    (try simp only [Exit.inBlock, Exit.then])
    refine bodyPost_ret (v := .tuple #[.agg #[.int .i64 0, .slice none 0 0], .iface 120 (.agg #[.string ⟨#[108, 101, 110, 103, 116, 104]⟩, .iface 26 (.int .i64 8)])]) ?_ rfl ?_
    · rw [results_cell_tmp rfl]
      go_simp
    · exact .inr ⟨_, HN0.out, rfl, Faults.one _ _, below_alloc _ _⟩
end Go.Proofs.YtglcpfnpbcnejaaGreatDoor
namespace Go.Proofs.YtglcpfnpbcnejaaGreatDoor
open Go.RowKit Go.WideShapes Rm

theorem own_keepB {w w' : World} {base n s : Nat} {e : TypeId} {v : Value} {xs : List Value} (h : w.ownsRow base e s v n xs) (hk : ∀ k, base ≤ k → k < w.heap.size → w'.heap[k]? = w.heap[k]?) : w'.ownsRow base e s v n xs := by
  refine ⟨h.1, ?_⟩
  rcases h.2 with h' | ⟨g, cap, cur, h1, h2, h3, h4⟩
  · exact .inl h'
  · exact .inr ⟨g, cap, cur, h1, h2, (hk g h2 (lt_heap h3)).trans h3, h4⟩
theorem FOwn.keepB {w w' : World} {base : Nat} {v : Value} {ls : FPs} (h : FOwn w base v ls) (hk : ∀ k, base ≤ k → k < w.heap.size → w'.heap[k]? = w.heap[k]?) : FOwn w' base v ls :=
  ⟨own_keepB h.row hk, fun x hx => own_keepB (h.pcs x hx) hk⟩
theorem results_cells {fn : Func} {p u : Tmp} {ty t2 : TypeId} (h : fn.results = #[.cell p ty, .cell u t2]) (tmps : Array Value) (P : Program) (w : World) :
    (results fn tmps).run P w = ((asAddr (tmps.getD p undef)).run P w).andThen fun a w₁ => ((loadVar ty a).run P w₁).andThen fun v w₂ => ((asAddr (tmps.getD u undef)).run P w₂).andThen fun a2 w₃ => ((loadVar t2 a2).run P w₃).andThen fun v2 w₄ => .ok (.tuple #[v, v2]) w₄ := by
  simp only [results, h]
  simp [Sem.run_bind, Result.andThen]
theorem o1 (w : World) {a b : Addr} (v : Value) (h : a ≠ b) : (w.setCell a v).cell? b = w.cell? b := World.cell?_setCell_other _ _ _ _ h
theorem o2 {w : World} {a : Addr} {v u : Value} (h : w.cell? a = some u) : (w.setCell a v).cell? a = some v := World.cell?_setCell_same _ _ _ h
theorem ab_ne {a b i j : Nat} (h : a ≠ b) : (⟨a, i, none⟩ : Addr) ≠ ⟨b, j, none⟩ := fun e => h (by cases e; rfl)
theorem ij_ne {a i j : Nat} (h : i ≠ j) : (⟨a, i, none⟩ : Addr) ≠ ⟨a, j, none⟩ := fun e => h (by cases e; rfl)
theorem rdA {w1 : World} {D E A : Nat} {g lv ev a3 : Value} (hDA : D ≠ A) (hEA : E ≠ A) (cA : w1.cell? ⟨A, 0, none⟩ = some a3) : ((((((w1.setCell ⟨D, 0, none⟩ g).setCell ⟨D, 1, none⟩ lv).setCell ⟨A, 0, none⟩ ev).setCell ⟨D, 0, none⟩ g).setCell ⟨D, 1, none⟩ lv).setCell ⟨E, 0, none⟩ (.int .i64 0)).cell? ⟨A, 0, none⟩ = some ev := by
  rw [o1 _ _ (ab_ne hEA), o1 _ _ (ab_ne hDA), o1 _ _ (ab_ne hDA)]
  refine o2 (u := a3) ?_
  rw [o1 _ _ (ab_ne hDA), o1 _ _ (ab_ne hDA)]
  exact cA
theorem rdE {w1 : World} {D E A : Nat} {g lv ev a2 : Value} (hDE : D ≠ E) (hEA : E ≠ A) (cE : w1.cell? ⟨E, 0, none⟩ = some a2) : ((((((w1.setCell ⟨D, 0, none⟩ g).setCell ⟨D, 1, none⟩ lv).setCell ⟨A, 0, none⟩ ev).setCell ⟨D, 0, none⟩ g).setCell ⟨D, 1, none⟩ lv).setCell ⟨E, 0, none⟩ (.int .i64 0)).cell? ⟨E, 0, none⟩ = some (.int .i64 0) := by
  refine o2 (u := a2) ?_
  rw [o1 _ _ (ab_ne hDE), o1 _ _ (ab_ne hDE), o1 _ _ (ab_ne (Ne.symm hEA)), o1 _ _ (ab_ne hDE), o1 _ _ (ab_ne hDE)]
  exact cE
theorem rdF {w1 : World} {D E A : Nat} {g lv ev : Value} (fE : w1.frozen? ⟨E, 0, none⟩ = false) : ((((((w1.setCell ⟨D, 0, none⟩ g).setCell ⟨D, 1, none⟩ lv).setCell ⟨A, 0, none⟩ ev).setCell ⟨D, 0, none⟩ g).setCell ⟨D, 1, none⟩ lv).setCell ⟨E, 0, none⟩ (.int .i64 0)).frozen? ⟨E, 0, none⟩ = false := by simp [fE]
theorem rd0 {w1 : World} {D E A : Nat} {g lv ev a0 : Value} (hDE : D ≠ E) (hDA : D ≠ A) (c0 : w1.cell? ⟨D, 0, none⟩ = some a0) : ((((((w1.setCell ⟨D, 0, none⟩ g).setCell ⟨D, 1, none⟩ lv).setCell ⟨A, 0, none⟩ ev).setCell ⟨D, 0, none⟩ g).setCell ⟨D, 1, none⟩ lv).setCell ⟨E, 0, none⟩ (.int .i64 0)).cell? ⟨D, 0, none⟩ = some g := by
  rw [o1 _ _ (ab_ne (Ne.symm hDE)), o1 _ _ (ij_ne (by decide))]
  refine o2 (u := g) ?_
  rw [o1 _ _ (ab_ne (Ne.symm hDA)), o1 _ _ (ij_ne (by decide))]
  exact o2 c0
theorem rd1 {w1 : World} {D E A : Nat} {g lv ev a1 : Value} (hDE : D ≠ E) (hDA : D ≠ A) (c1 : w1.cell? ⟨D, 1, none⟩ = some a1) : ((((((w1.setCell ⟨D, 0, none⟩ g).setCell ⟨D, 1, none⟩ lv).setCell ⟨A, 0, none⟩ ev).setCell ⟨D, 0, none⟩ g).setCell ⟨D, 1, none⟩ lv).setCell ⟨E, 0, none⟩ (.int .i64 0)).cell? ⟨D, 1, none⟩ = some lv := by
  rw [o1 _ _ (ab_ne (Ne.symm hDE))]
  refine o2 (u := lv) ?_
  rw [o1 _ _ (ij_ne (by decide)), o1 _ _ (ab_ne (Ne.symm hDA))]
  refine o2 (u := a1) ?_
  rw [o1 _ _ (ij_ne (by decide))]
  exact c1
theorem rdH {w1 : World} {D E A : Nat} {g lv ev : Value} {k : Nat} (h1 : k ≠ D) (h2 : k ≠ E) (h3 : k ≠ A) : ((((((w1.setCell ⟨D, 0, none⟩ g).setCell ⟨D, 1, none⟩ lv).setCell ⟨A, 0, none⟩ ev).setCell ⟨D, 0, none⟩ g).setCell ⟨D, 1, none⟩ lv).setCell ⟨E, 0, none⟩ (.int .i64 0)).heap[k]? = w1.heap[k]? := by
  rw [Below.heap_setCell _ _ _ _ h2, Below.heap_setCell _ _ _ _ h1, Below.heap_setCell _ _ _ _ h1, Below.heap_setCell _ _ _ _ h3, Below.heap_setCell _ _ _ _ h1, Below.heap_setCell _ _ _ _ h1]
theorem rdB {w w1 : World} {D E A B : Nat} {g lv ev : Value} (h : Below B w w1) (h1 : B ≤ D) (h2 : B ≤ E) (h3 : B ≤ A) : Below B w ((((((w1.setCell ⟨D, 0, none⟩ g).setCell ⟨D, 1, none⟩ lv).setCell ⟨A, 0, none⟩ ev).setCell ⟨D, 0, none⟩ g).setCell ⟨D, 1, none⟩ lv).setCell ⟨E, 0, none⟩ (.int .i64 0)) :=
  (((((h.setCell (p := ⟨D, 0, none⟩) h1 _).setCell (p := ⟨D, 1, none⟩) h1 _).setCell (p := ⟨A, 0, none⟩) h3 _).setCell (p := ⟨D, 0, none⟩) h1 _).setCell (p := ⟨D, 1, none⟩) h1 _).setCell (p := ⟨E, 0, none⟩) h2 _
theorem rdS {w1 : World} {D E A : Nat} {g lv ev : Value} : ((((((w1.setCell ⟨D, 0, none⟩ g).setCell ⟨D, 1, none⟩ lv).setCell ⟨A, 0, none⟩ ev).setCell ⟨D, 0, none⟩ g).setCell ⟨D, 1, none⟩ lv).setCell ⟨E, 0, none⟩ (.int .i64 0)).heap.size = w1.heap.size := by simp [World.setCell]
/-- What Read answers. -/
def ReadD (w : World) (xs : List Nat) (e : Ending) (w' : World) : Prop :=
  (∃ x ls lv, IsDir ltS x xs ∧ ls.map Prod.fst = x.files ∧ e = .returned (.tuple #[.agg #[.int .i64 x.gen, lv], .int .i64 0]) ∧ FOwn w' w.heap.size lv ls ∧ Below w.heap.size w w')
  ∨ ((∀ x, ¬ IsDir ltS x xs) ∧ e = .returned (.tuple #[.agg #[.int .i64 0, .slice none 0 0], .int .i64 8]) ∧ Below w.heap.size w w')
end Go.Proofs.YtglcpfnpbcnejaaGreatDoor
namespace Go.Proofs.YtglcpfnpbcnejaaGreatDoor
open Go.RowKit Go.WideShapes Go.ChangeShapes Go.Deep Go.Joins Rm

section
variable {P : Program} {w : World} {H : Type} {enc : TypeId × Value → H}

end
end Go.Proofs.YtglcpfnpbcnejaaGreatDoor
namespace Go.Proofs.YtglcpfnpbcnejaaGreatDoor
open Go.RowKit Go.WideShapes Go.ChangeShapes Go.Deep Go.Joins Rm

theorem wrote_bytes {x : DirV} {n : Int} {b : List Nat} (h : Wrote x n b) : ∀ c ∈ b, c < 256 := by
  cases h with
  | many => intro c hc; simp at hc
  | bad => intro c hc; simp at hc
  | long => intro c hc; simp at hc
  | ok h1 h2 =>
    intro c hc
    unfold bytesN sectsN at hc
    obtain ⟨i, hi, hc⟩ := List.mem_flatMap.1 hc
    have hi8 := List.mem_range.1 hi
    have := h1.lo
    have := h1.hi
    unfold sectN at hc
    simp only [List.mem_append, List.mem_singleton] at hc
    rcases hc with (hc | hc) | hc
    · exact putN_bytes _ (by omega) c hc
    · omega
    · exact pad_bytes (insideN_bytes _) c (List.mem_of_mem_drop (List.mem_of_mem_take hc))
theorem May.fin {x : DirV} (h : May ltS x) : ∀ f ∈ x.files, wf64 f.size ∧ Wf f.pcs := by
  obtain ⟨_, _, hg⟩ := errK_zero h.pcs
  intro f hf
  refine ⟨?_, fun p hp => ?_⟩
  · have := h.told.size f hf
    unfold wf64
    omega
  · have := hg.wn p (mem_allPcs hf hp)
    unfold Wn at this
    omega
end Go.Proofs.YtglcpfnpbcnejaaGreatDoor
