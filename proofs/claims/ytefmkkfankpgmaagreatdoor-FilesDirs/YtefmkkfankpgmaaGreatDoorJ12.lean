/-
  What lies in memory while the document's Read goes on; its reader's number in one form.
-/
import Derived.Test.YtefmkkfankpgmaaGreatDoorJ11
import Derived.Laws.ResultCell
import Derived.Test.YtefmkkfankpgmaaGreatDoorJ10
namespace Go.Proofs.YtefmkkfankpgmaaGreatDoor
open Go.RowKit Go.WideShapes Rm

theorem FOwn.form {w : World} {base : Nat} {v : Value} {ls : FPs} (h : FOwn w base v ls) : ∃ q m, v = .slice q ls.length m ∧ ls.length ≤ m ∧ m ≤ maxLen ∧ (q = none → m = 0) := own_form h.row
theorem FOwn.fin {w : World} {base : Nat} {v : Value} {ls : FPs} (h : FOwn w base v ls) (hw : ∀ x ∈ ls, Wf x.1.pcs) (hs : ∀ x ∈ ls, wf64 x.1.size) : FIn w v (ls.map Prod.fst) := by
  obtain ⟨q, m, rfl, h1, h2, h3⟩ := h.form
  refine ⟨⟨q, m, by simp, fun hp => ?_, by simpa using h1, h2, h3⟩, fun f hf => ?_⟩
  · rcases h.row.2 with ⟨_, hn⟩ | ⟨g, cap, cur, hv, hb, hg, hle, hmax, hsz, htk⟩
    · simp [hn] at hp
    · simp only [Value.slice.injEq] at hv
      obtain ⟨rfl, _, rfl⟩ := hv
      refine ⟨g, 0, rfl, fun i hi => ?_⟩
      have hi' : i < ls.length := by simpa using hi
      obtain ⟨a0, a1, a2⟩ := cellsF_at ls i ls[i] (List.getElem?_eq_getElem hi')
      have hget : (ls.map Prod.fst).getD i zeroF = ls[i].1 := by simp [List.getD, hi']
      rw [hget]
      refine ⟨by rw [Nat.zero_add, World.ownsRow.cellAt h.row _ (by omega), a0], by rw [Nat.zero_add, World.ownsRow.cellAt h.row _ (by omega), a1], ls[i].2, by rw [Nat.zero_add, World.ownsRow.cellAt h.row _ (by omega), a2], ?_⟩
      exact (h.pcs _ (List.getElem_mem hi')).pin (hw _ (List.getElem_mem hi'))
  · obtain ⟨x, hx, rfl⟩ := List.mem_map.1 hf
    exact hs x hx
theorem set2_at (w : World) (B b : Nat) (x y : Value) (h : b ≠ B) : ((w.setCell ⟨B, 0, none⟩ x).setCell ⟨B, 1, none⟩ y).heap[b]? = w.heap[b]? := by
  rw [Below.heap_setCell _ _ _ _ h, Below.heap_setCell _ _ _ _ h]
theorem FOwn.set2 {w : World} {base B : Nat} {v : Value} {ls : FPs} (h : FOwn w base v ls) (hB : B < base) (x y : Value) : FOwn ((w.setCell ⟨B, 0, none⟩ x).setCell ⟨B, 1, none⟩ y) base v ls := by
  refine ⟨?_, fun u hu => set2_pown (h.pcs u hu) (fun e => by have := ((h.pcs u hu).lt _ e).1; omega) x y⟩
  have hne : v.ownBlock ≠ some B := fun e => by have := (h.row.lt _ e).1; omega
  refine World.ownsRow.kept (row := some B) h.row ⟨rfl, rfl, rfl, by simp [World.setCell], fun k hk hne => set2_at w B k x y (fun e => hne (by rw [e]))⟩ (by cases hv : v.ownBlock with | none => exact .inl rfl | some g => exact .inr (by rw [← hv]; exact hne))
theorem beg8_sec0 (xs : List Nat) : beg8 (secAt xs 0) = beg8 xs := by
  unfold secAt beg8
  have : ∀ i, i < 8 → ((xs.drop (0 * 128)).take 128).getD i 0 = xs.getD i 0 := by
    intro i hi
    simp [List.getD, show i < 128 from by omega]
  rw [this 0 (by omega), this 1 (by omega), this 2 (by omega), this 3 (by omega), this 4 (by omega), this 5 (by omega), this 6 (by omega), this 7 (by omega)]
theorem isDir_ok {x : DirV} {xs : List Nat} (h : IsDir ltS x xs) {i : Nat} (hi : i < 8) : SecOk xs i := by
  have h0 := isDir_sec h (i := 0) (by omega)
  have h1 := isDir_sec h hi
  rw [beg8_sec0 xs] at h0
  exact ⟨by rw [h1.1, h0.1], h1.2⟩
theorem bokBP : Bok BP := ⟨by simp [BP], by simp [BP], by simp [BP], by simp [BP], by simp [BP]⟩
theorem cutL_eq (b : List Nat) : cutL (cutFile BP) b = cutFiles BP b := rfl
theorem small_one (n : Nat) : 1 ≤ (smallN n).length := smallN_pos n
theorem pcs_le (l : Pcs) : l.length ≤ (l.flatMap pieceN).length := by
  induction l with
  | nil => simp
  | cons p l ih =>
    rw [List.flatMap_cons, List.length_append, List.length_cons]
    have : 1 ≤ (pieceN p).length := by unfold pieceN; rw [List.length_append]; have := small_one p.1.toNat; omega
    omega
theorem file_le (f : FileV) : f.name.size ≤ (fileN f).length ∧ f.pcs.length ≤ (fileN f).length := by
  have := pcs_le f.pcs
  have h2 := numsOf_len f.name
  unfold fileN textN
  simp only [List.length_append]
  omega
theorem files_le (l : List FileV) : (∀ f ∈ l, f.name.size ≤ (l.flatMap fileN).length) ∧ (allPcs l).length ≤ (l.flatMap fileN).length := by
  induction l with
  | nil => exact ⟨fun f hf => by simp at hf, by simp [allPcs]⟩
  | cons g l ih =>
    have hg := file_le g
    unfold allPcs at ih ⊢
    rw [List.flatMap_cons, List.flatMap_cons, List.length_append, List.length_append]
    refine ⟨fun f hf => ?_, by omega⟩
    rcases List.mem_cons.1 hf with rfl | h
    · omega
    · have := ih.1 f h; omega
theorem cut_told {xs r : List Nat} {l : List FileV} (hb : Byt xs) (h : cutFiles BP xs = some (l, r)) : ((∀ f ∈ l, f.name.size ≤ xs.length) ∧ (allPcs l).length ≤ xs.length) ∧ (∀ f ∈ l, wf64 f.size ∧ Wf f.pcs) := by
  have h1 := cutFiles_only hb h
  have h2 := files_le l
  have h3 : (l.flatMap fileN).length ≤ xs.length := by
    rw [h1]; unfold insideN; simp only [List.length_append]; omega
  refine ⟨⟨fun f hf => Nat.le_trans (h2.1 f hf) h3, Nat.le_trans h2.2 h3⟩, ?_⟩
  unfold cutFiles at h
  split at h
  · cases h
  · rename_i n r1 e1
    obtain ⟨g1, _⟩ := cutNum_only hb e1
    obtain ⟨_, _, g4⟩ := cutMany_only (g := fileN) (Q := fun f => (0 ≤ f.size ∧ f.size ≤ BP.size) ∧ f.pcs.length ≤ BP.many ∧ ∀ p ∈ f.pcs, (0 ≤ p.1 ∧ p.1 ≤ BP.lo) ∧ (0 ≤ p.2 ∧ p.2 ≤ BP.count)) (fun b x r hb h => cutFile_only hb h) n r1 l r (Byt.app (g1 ▸ hb)) h
    intro f hf
    obtain ⟨k1, _, k3⟩ := g4 f hf
    simp only [BP] at k1 k3
    refine ⟨⟨by omega, by omega⟩, fun p hp => ?_⟩
    have := k3 p hp
    omega
/-- What read answers. -/
def ReadPost (w : World) (xs : List Nat) (e : Ending) (w' : World) : Prop :=
  (∃ x ls lv, IsDir ltS x xs ∧ ls.map Prod.fst = x.files ∧ e = .returned (.tuple #[.agg #[.int .i64 x.gen, lv], .nilIface]) ∧ FOwn w' w.heap.size lv ls ∧ Below w.heap.size w w')
  ∨ (∃ ev, (∀ x, ¬ IsDir ltS x xs) ∧ e = .returned (.tuple #[.agg #[.int .i64 0, .slice none 0 0], ev]) ∧ Faults ev 8 ∧ Below w.heap.size w w')
theorem inner_byt {xs : List Nat} (hb : Byt xs) (k : Nat) : Byt (innerN xs k) := by
  intro c hc
  obtain ⟨i, _, h⟩ := List.mem_flatMap.1 hc
  exact hb c (List.mem_of_mem_drop (List.mem_of_mem_take (List.mem_of_mem_drop h)))
theorem wrap_pos {n : Nat} (h : n < 18446744073709551616) (h1 : 1 ≤ wrap64 (n : Int)) : wrap64 (n : Int) = n := by
  unfold wrap64 at *; omega
theorem wrap_low {n : Nat} (h : n < 9223372036854775808) : wrap64 (n : Int) = n := by
  unfold wrap64; omega
theorem wrap_wf {n : Nat} : wf64 (wrap64 (n : Int)) := by
  unfold wrap64 wf64; omega
/-- A directory of these bytes is what is read off them. -/
theorem isDir_is {y : DirV} {xs r : List Nat} {l : List FileV} (h : IsDir ltS y xs) (hc : cutFiles BP (innerN xs 8) = some (l, r)) : y = ⟨wrap64 (beg8 xs : Nat), l⟩ ∧ ∀ c ∈ r, c = 0 := by
  obtain ⟨r', h1, h2⟩ := isDir_cut bokBP h
  rw [hc] at h1
  simp only [Option.some.injEq, Prod.mk.injEq] at h1
  have g := (isDir_sec h (i := 0) (by omega)).1
  rw [beg8_sec0 xs] at g
  have a1 := h.1.lo
  have a2 := h.1.hi
  obtain ⟨gy, fy⟩ := y
  simp only at h1 g a1 a2
  refine ⟨?_, by rw [h1.2]; exact h2⟩
  rw [h1.1, wrap_low (by omega), show gy = (beg8 xs : Int) from by omega]
end Go.Proofs.YtefmkkfankpgmaaGreatDoor
namespace Go.Proofs.YtefmkkfankpgmaaGreatDoor
open Go.RowKit Go.WideShapes Rm

set_option maxRecDepth 4000 in
set_option maxHeartbeats 2000000 in
theorem read4_any (p : Option Addr) (c : Nat) (xs : List Nat) (w : World) (hL : Laid w) (hb : BIn w p xs) (hc : xs.length ≤ c) (hcm : c ≤ maxLen) :
    Calls Tryz.prog 62 #[.slice p xs.length c] w fun e w' => ReadPost w xs e w' := by
  have hb1 := hb.below (below_alloc w (.cells #[.int .i64 0, .slice none 0 0] 31))
  have HL1 : Hid (Laid (w.alloc (.cells #[.int .i64 0, .slice none 0 0] 31))) := hL.below (below_alloc w _)
  have HBY : Hid (Byt xs) := hb.2
  have hcm' := hcm
  unfold maxLen at hcm'
  by_cases hlen : xs.length = 1024
  · have hjo := joined_any p c xs _ hb1 hlen hc hcm
    have HLEN : Hid (xs.length = 1024) := hlen
    have hlen' : ((xs.length : Int) != 1024) = false := by simp [hlen]
    clear hb hb1 hL hcm
    rw [hlen] at hc ⊢
    clear hlen hlen'
    go_enter Tryz.func62, Tryz.ntmps62
    go_wp2_with fail
    refine hjo.mono ?_
    rintro e w1 (⟨r, rfl, hsec, ho1, hb1⟩ | ⟨ev, rfl, hfl, hno, hb1⟩)
    · have hs1 := hb1.size
      simp at hs1
      have HSEC : Hid (∀ i, i < 8 → SecOk xs i) := hsec
      have hrt := own_rowT ho1 (inner_byt HBY.out 8)
      have hil := innerN_len HLEN.out
      have HL2 : Hid (Laid w1) := HL1.out.below hb1
      cases hcf : cutFiles BP (innerN xs 8) with
      | none =>
        have hcl := cutFiles_any r (innerN xs 8) w1 HL2.out hrt (by omega) none (by rw [cutL_eq]; exact hcf)
        have HN0 : Hid (∀ x, ¬ IsDir ltS x xs) := fun x h => by obtain ⟨_, h1, _⟩ := isDir_cut bokBP h; rw [hcf] at h1; cases h1
        clear hjo hsec ho1 hrt hcf
        go_wp2_with fail
        refine hcl.mono ?_
        rintro e w2 ⟨ev, rfl, hfl, hb2⟩
        have HFL : Hid (Faults ev 8) := hfl
        obtain ⟨tx, vx, rfl⟩ := hfl.iface
        have hb' : Below (w.heap.size + 1) (w.alloc (.cells #[.int .i64 0, .slice none 0 0] 31)) w2 := (hb1.mono (by simp)).trans (hb2.mono (by omega))
        obtain ⟨c0, c1⟩ := box2 hb'
        obtain ⟨f0, f1⟩ := box2f hb'
        have HB : Hid (Below w.heap.size w w2) := box_below hb'
        have HN : Hid (∀ x, ¬ IsDir ltS x xs) := HN0.out
        clear hb' hb1 hb2 hfl hcl
        go_wp2
        (try simp only [Exit.inBlock, Exit.then])
        refine bodyPost_ret (v := .tuple #[.agg #[.int .i64 0, .slice none 0 0], .iface 153 (.agg #[.string ⟨#[105, 110, 115, 105, 100, 101]⟩, .iface tx vx])]) ?_ rfl ?_
        · rw [results_cell_tmp rfl]
          go_simp
        · exact .inr ⟨_, HN.out, rfl, .more _ HFL.out, by first | exact set2_below HB.out (by omega) _ _ | exact below_alloc _ _⟩
      | some lr =>
        obtain ⟨l, rest⟩ := lr
        have hcl := cutFiles_any r (innerN xs 8) w1 HL2.out hrt (by omega) (some (l, rest)) (by rw [cutL_eq]; exact hcf)
        obtain ⟨⟨ht1, ht2⟩, ht3⟩ := cut_told (inner_byt HBY.out 8) hcf
        have HCF : Hid (cutFiles BP (innerN xs 8) = some (l, rest)) := hcf
        have hG := beg8_lt HBY.out
        clear hjo hsec ho1 hrt hcf
        go_wp2_with fail
        refine hcl.mono ?_
        rintro e w2 ⟨ls, lv, v2, hls, rfl, hfo, hro, hb2⟩
        have hs2 := hb2.size
        have hb12 : Below (w.heap.size + 1) (w.alloc (.cells #[.int .i64 0, .slice none 0 0] 31)) w2 := (hb1.mono (by simp)).trans (hb2.mono (by omega))
        clear hcl hb1 hb2
        by_cases hz : ∃ x ∈ rest, x ≠ 0
        · have hcn := contains_nz v2 rest w2 hro.row true ⟨fun _ => hz, fun _ => rfl⟩
          have HN0 : Hid (∀ x, ¬ IsDir ltS x xs) := fun y h => by
            obtain ⟨x, hx, hne⟩ := hz
            exact hne ((isDir_is h HCF.out).2 x hx)
          clear hz hfo hro
          go_wp2_with fail
          refine hcn.mono ?_
          rintro e w3 ⟨rfl, rfl⟩
          have hb' : Below (w.heap.size + 1) (w.alloc (.cells #[.int .i64 0, .slice none 0 0] 31)) w3 := hb12
          obtain ⟨c0, c1⟩ := box2 hb'
          obtain ⟨f0, f1⟩ := box2f hb'
          have HB : Hid (Below w.heap.size w w3) := box_below hb'
          have HN : Hid (∀ x, ¬ IsDir ltS x xs) := HN0.out
          clear hb' hb12 hcn
          go_wp2
          (try simp only [Exit.inBlock, Exit.then])
          refine bodyPost_ret (v := .tuple #[.agg #[.int .i64 0, .slice none 0 0], .iface 153 (.agg #[.string ⟨#[98, 101, 104, 105, 110, 100, 32, 116, 104, 101, 32, 105, 110, 115, 105, 100, 101]⟩, .iface 26 (.int .i64 8)])]) ?_ rfl ?_
          · rw [results_cell_tmp rfl]
            go_simp
          · exact .inr ⟨_, HN.out, rfl, Faults.one _ _, by first | exact set2_below HB.out (by omega) _ _ | exact below_alloc _ _⟩
        · have hcn := contains_nz v2 rest w2 hro.row false ⟨fun h => (by cases h), fun h => absurd h hz⟩
          have HZ : Hid (∀ c ∈ rest, c = 0) := fun c hc => by
            rcases Nat.eq_zero_or_pos c with h | h
            · exact h
            · exact absurd ⟨c, hc, by omega⟩ hz
          have hfin := hfo.fin (fun x hx => (ht3 _ (by rw [← hls]; exact List.mem_map_of_mem hx)).2) (fun x hx => (ht3 _ (by rw [← hls]; exact List.mem_map_of_mem hx)).1)
          rw [hls] at hfin
          have hdir : DirIn w2 (.agg #[.int .i64 (wrap64 (beg8 xs : Nat)), lv]) ⟨wrap64 (beg8 xs : Nat), l⟩ := ⟨⟨lv, rfl, hfin⟩, wrap_wf⟩
          have HFO : Hid (FOwn w2 w1.heap.size lv ls) := hfo
          obtain ⟨ql, ml, rfl, _⟩ := hfo.form
          have hck := check4_any _ _ _ (hdir.below (below_alloc w2 (.cells #[.int .i64 (wrap64 (beg8 xs : Nat)), .slice ql ls.length ml] 31))) (fun f hf => by have := ht1 f hf; omega) (by simp only; omega)
          have HIS : Hid (∀ y, IsDir ltS y xs → y = ⟨wrap64 (beg8 xs : Nat), l⟩) := fun y h => (isDir_is h HCF.out).1
          have HOF : Hid (May ltS ⟨wrap64 (beg8 xs : Nat), l⟩ → IsDir ltS ⟨wrap64 (beg8 xs : Nat), l⟩ xs) := fun hm => by
            refine isDir_of HBY.out HLEN.out (fun i hi => ?_) HCF.out HZ.out hm
            obtain ⟨k1, k2⟩ := HSEC.out i hi
            refine ⟨?_, k2⟩
            rw [k1]
            have := hm.lo
            simp only at this ⊢
            rw [wrap_pos hG this]
            simp
          have HLS : Hid (ls.map Prod.fst = l) := hls
          clear hz hro hfin hdir hfo hls ht1 ht2 ht3
          generalize wrap64 (beg8 xs : Nat) = GG at *
          go_wp2_with fail
          refine hcn.mono ?_
          rintro e w3 ⟨rfl, rfl⟩
          go_wp2_with fail
          refine hck.mono ?_
          rintro e w4 ⟨rv, rfl, hrv, hb4⟩
          have hs4 := hb4.size
          simp at hs4
          have hb14 : Below (w.heap.size + 1) (w.alloc (.cells #[.int .i64 0, .slice none 0 0] 31)) w4 := (hb12.alloc (by omega) _).trans (hb4.mono (by simp; omega))
          obtain ⟨d0, d1⟩ := box2 (hb4.mono (by simp) : Below (w3.heap.size + 1) _ w4)
          have HFO4 : Hid (FOwn w4 w1.heap.size _ ls) := (HFO.out.below (below_alloc w3 _)).below hb4
          clear hck hcn hb4 hb12 HFO
          rcases hrv with ⟨hok, rfl⟩ | ⟨hno, hfl⟩
          · have HD : Hid (IsDir ltS ⟨GG, l⟩ xs) := HOF.out hok
            obtain ⟨c0, c1⟩ := box2 hb14
            obtain ⟨f0, f1⟩ := box2f hb14
            have HB : Hid (Below w.heap.size w w4) := box_below hb14
            clear hb14 hok HOF HIS
            go_wp2
            (try simp only [Exit.inBlock, Exit.then])
            refine bodyPost_ret (v := .tuple #[.agg #[.int .i64 GG, .slice ql ls.length ml], .nilIface]) ?_ rfl ?_
            · rw [results_cell_tmp rfl]
              go_simp
            · exact .inl ⟨⟨GG, l⟩, ls, _, HD.out, HLS.out, rfl, (HFO4.out.set2 (by omega) _ _).mono (by omega), set2_below HB.out (by omega) _ _⟩
          · have HFL : Hid (Faults rv 8) := hfl
            obtain ⟨tx, vx, rfl⟩ := hfl.iface
            have HN0 : Hid (∀ x, ¬ IsDir ltS x xs) := fun y h => by have e := HIS.out y h; subst e; exact hno h.1
            have hb' : Below (w.heap.size + 1) (w.alloc (.cells #[.int .i64 0, .slice none 0 0] 31)) w4 := hb14
            obtain ⟨c0, c1⟩ := box2 hb'
            obtain ⟨f0, f1⟩ := box2f hb'
            have HB : Hid (Below w.heap.size w w4) := box_below hb'
            have HN : Hid (∀ x, ¬ IsDir ltS x xs) := HN0.out
            clear hb' hb14 hno hfl
            go_wp2
            (try simp only [Exit.inBlock, Exit.then])
            refine bodyPost_ret (v := .tuple #[.agg #[.int .i64 0, .slice none 0 0], .iface tx vx]) ?_ rfl ?_
            · rw [results_cell_tmp rfl]
              go_simp
            · exact .inr ⟨_, HN.out, rfl, HFL.out, by first | exact set2_below HB.out (by omega) _ _ | exact below_alloc _ _⟩
    · have HFL : Hid (Faults ev 8) := hfl
      obtain ⟨tx, vx, rfl⟩ := hfl.iface
      have HN0 : Hid (∀ x, ¬ IsDir ltS x xs) := fun x h => by obtain ⟨i, hi, hh⟩ := hno; exact hh (isDir_ok h hi)
      have hb' : Below (w.heap.size + 1) (w.alloc (.cells #[.int .i64 0, .slice none 0 0] 31)) w1 := hb1.mono (by simp)
      obtain ⟨c0, c1⟩ := box2 hb'
      obtain ⟨f0, f1⟩ := box2f hb'
      have HB : Hid (Below w.heap.size w w1) := box_below hb'
      have HN : Hid (∀ x, ¬ IsDir ltS x xs) := HN0.out
      clear hb' hb1 hfl hno hjo
      go_wp2
      (try simp only [Exit.inBlock, Exit.then])
      refine bodyPost_ret (v := .tuple #[.agg #[.int .i64 0, .slice none 0 0], .iface tx vx]) ?_ rfl ?_
      · rw [results_cell_tmp rfl]
        go_simp
      · exact .inr ⟨_, HN.out, rfl, HFL.out, by first | exact set2_below HB.out (by omega) _ _ | exact below_alloc _ _⟩
  · have hne : ((xs.length : Int) != 1024) = true := by simp; omega
    have HN0 : Hid (∀ x, ¬ IsDir ltS x xs) := fun x h => hlen (isDir_len h)
    clear hlen hb hb1 hL
    go_enter Tryz.func62, Tryz.ntmps62
    go_wp2
    (try simp only [Exit.inBlock, Exit.then])
    refine bodyPost_ret (v := .tuple #[.agg #[.int .i64 0, .slice none 0 0], .iface 153 (.agg #[.string ⟨#[108, 101, 110, 103, 116, 104]⟩, .iface 26 (.int .i64 8)])]) ?_ rfl ?_
    · rw [results_cell_tmp rfl]
      go_simp
    · exact .inr ⟨_, HN0.out, rfl, Faults.one _ _, below_alloc _ _⟩
end Go.Proofs.YtefmkkfankpgmaaGreatDoor
namespace Go.Proofs.YtefmkkfankpgmaaGreatDoor
open Go.RowKit Go.WideShapes Rm

theorem own_keepB {w w' : World} {base n s : Nat} {e : TypeId} {v : Value} {xs : List Value} (h : w.ownsRow base e s v n xs) (hk : ∀ k, base ≤ k → k < w.heap.size → w'.heap[k]? = w.heap[k]?) : w'.ownsRow base e s v n xs := by
  refine ⟨h.1, ?_⟩
  rcases h.2 with h' | ⟨g, cap, cur, h1, h2, h3, h4⟩
  · exact .inl h'
  · exact .inr ⟨g, cap, cur, h1, h2, (hk g h2 (lt_heap h3)).trans h3, h4⟩
theorem FOwn.keepB {w w' : World} {base : Nat} {v : Value} {ls : FPs} (h : FOwn w base v ls) (hk : ∀ k, base ≤ k → k < w.heap.size → w'.heap[k]? = w.heap[k]?) : FOwn w' base v ls :=
  ⟨own_keepB h.row hk, fun x hx => own_keepB (h.pcs x hx) hk⟩
theorem results_cells {fn : Func} {p u : Tmp} {ty t2 : TypeId} (h : fn.results = #[.cell p ty, .cell u t2]) (tmps : Array Value) (P : Program) (w : World) :
    (results fn tmps).run P w = ((asAddr (tmps.getD p undef)).run P w).andThen fun a w₁ => ((loadVar ty a).run P w₁).andThen fun v w₂ => ((asAddr (tmps.getD u undef)).run P w₂).andThen fun a2 w₃ => ((loadVar t2 a2).run P w₃).andThen fun v2 w₄ => .ok (.tuple #[v, v2]) w₄ := by
  simp only [results, h]
  simp [Sem.run_bind, Result.andThen]
theorem readD (a b : Addr) (ev old : Value) (n : Int) (u : FrameMode) (w : World) (hg : ErrT w) (hv : ErrV ev n) (ha : w.cell? a = some ev) (hb : w.cell? b = some old) (hf : w.frozen? b = false) :
    CallsD Tryz.prog 61 #[.pointer (some a), .pointer (some b)] u w fun e u' w' => u' = u ∧ e = .returned (.tuple #[]) ∧ ∃ w1, w' = w1.setCell b (.int .i64 n) ∧ Below w.heap.size w w1 := by
  have hn := number_v ev n hv w hg
  have hlt := World.block_lt_of_cell? _ _ hb
  go_enter_d Tryz.func61, Tryz.ntmps61
  go_wp2_with fail
  refine hn.mono ?_
  rintro e w1 ⟨rfl, hb1⟩
  have hb2 : w1.cell? b = some old := (hb1.cell hlt).trans hb
  have hf2 : w1.frozen? b = false := (hb1.frozen hlt).trans hf
  go_wp2
  go_end0
  exact ⟨rfl, w1, rfl, hb1⟩
theorem o1 (w : World) {a b : Addr} (v : Value) (h : a ≠ b) : (w.setCell a v).cell? b = w.cell? b := World.cell?_setCell_other _ _ _ _ h
theorem o2 {w : World} {a : Addr} {v u : Value} (h : w.cell? a = some u) : (w.setCell a v).cell? a = some v := World.cell?_setCell_same _ _ _ h
theorem ab_ne {a b i j : Nat} (h : a ≠ b) : (⟨a, i, none⟩ : Addr) ≠ ⟨b, j, none⟩ := fun e => h (by cases e; rfl)
theorem ij_ne {a i j : Nat} (h : i ≠ j) : (⟨a, i, none⟩ : Addr) ≠ ⟨a, j, none⟩ := fun e => h (by cases e; rfl)
theorem rdA {w1 : World} {D E A : Nat} {g lv ev a3 : Value} (hDA : D ≠ A) (hEA : E ≠ A) (cA : w1.cell? ⟨A, 0, none⟩ = some a3) : ((((((w1.setCell ⟨D, 0, none⟩ g).setCell ⟨D, 1, none⟩ lv).setCell ⟨A, 0, none⟩ ev).setCell ⟨D, 0, none⟩ g).setCell ⟨D, 1, none⟩ lv).setCell ⟨E, 0, none⟩ (.int .i64 0)).cell? ⟨A, 0, none⟩ = some ev := by
  rw [o1 _ _ (ab_ne hEA), o1 _ _ (ab_ne hDA), o1 _ _ (ab_ne hDA)]
  refine o2 (u := a3) ?_
  rw [o1 _ _ (ab_ne hDA), o1 _ _ (ab_ne hDA)]
  exact cA
theorem rdE {w1 : World} {D E A : Nat} {g lv ev a2 : Value} (hDE : D ≠ E) (hEA : E ≠ A) (cE : w1.cell? ⟨E, 0, none⟩ = some a2) : ((((((w1.setCell ⟨D, 0, none⟩ g).setCell ⟨D, 1, none⟩ lv).setCell ⟨A, 0, none⟩ ev).setCell ⟨D, 0, none⟩ g).setCell ⟨D, 1, none⟩ lv).setCell ⟨E, 0, none⟩ (.int .i64 0)).cell? ⟨E, 0, none⟩ = some (.int .i64 0) := by
  refine o2 (u := a2) ?_
  rw [o1 _ _ (ab_ne hDE), o1 _ _ (ab_ne hDE), o1 _ _ (ab_ne (Ne.symm hEA)), o1 _ _ (ab_ne hDE), o1 _ _ (ab_ne hDE)]
  exact cE
theorem rdF {w1 : World} {D E A : Nat} {g lv ev : Value} (fE : w1.frozen? ⟨E, 0, none⟩ = false) : ((((((w1.setCell ⟨D, 0, none⟩ g).setCell ⟨D, 1, none⟩ lv).setCell ⟨A, 0, none⟩ ev).setCell ⟨D, 0, none⟩ g).setCell ⟨D, 1, none⟩ lv).setCell ⟨E, 0, none⟩ (.int .i64 0)).frozen? ⟨E, 0, none⟩ = false := by simp [fE]
theorem rd0 {w1 : World} {D E A : Nat} {g lv ev a0 : Value} (hDE : D ≠ E) (hDA : D ≠ A) (c0 : w1.cell? ⟨D, 0, none⟩ = some a0) : ((((((w1.setCell ⟨D, 0, none⟩ g).setCell ⟨D, 1, none⟩ lv).setCell ⟨A, 0, none⟩ ev).setCell ⟨D, 0, none⟩ g).setCell ⟨D, 1, none⟩ lv).setCell ⟨E, 0, none⟩ (.int .i64 0)).cell? ⟨D, 0, none⟩ = some g := by
  rw [o1 _ _ (ab_ne (Ne.symm hDE)), o1 _ _ (ij_ne (by decide))]
  refine o2 (u := g) ?_
  rw [o1 _ _ (ab_ne (Ne.symm hDA)), o1 _ _ (ij_ne (by decide))]
  exact o2 c0
theorem rd1 {w1 : World} {D E A : Nat} {g lv ev a1 : Value} (hDE : D ≠ E) (hDA : D ≠ A) (c1 : w1.cell? ⟨D, 1, none⟩ = some a1) : ((((((w1.setCell ⟨D, 0, none⟩ g).setCell ⟨D, 1, none⟩ lv).setCell ⟨A, 0, none⟩ ev).setCell ⟨D, 0, none⟩ g).setCell ⟨D, 1, none⟩ lv).setCell ⟨E, 0, none⟩ (.int .i64 0)).cell? ⟨D, 1, none⟩ = some lv := by
  rw [o1 _ _ (ab_ne (Ne.symm hDE))]
  refine o2 (u := lv) ?_
  rw [o1 _ _ (ij_ne (by decide)), o1 _ _ (ab_ne (Ne.symm hDA))]
  refine o2 (u := a1) ?_
  rw [o1 _ _ (ij_ne (by decide))]
  exact c1
theorem rdH {w1 : World} {D E A : Nat} {g lv ev : Value} {k : Nat} (h1 : k ≠ D) (h2 : k ≠ E) (h3 : k ≠ A) : ((((((w1.setCell ⟨D, 0, none⟩ g).setCell ⟨D, 1, none⟩ lv).setCell ⟨A, 0, none⟩ ev).setCell ⟨D, 0, none⟩ g).setCell ⟨D, 1, none⟩ lv).setCell ⟨E, 0, none⟩ (.int .i64 0)).heap[k]? = w1.heap[k]? := by
  rw [Below.heap_setCell _ _ _ _ h2, Below.heap_setCell _ _ _ _ h1, Below.heap_setCell _ _ _ _ h1, Below.heap_setCell _ _ _ _ h3, Below.heap_setCell _ _ _ _ h1, Below.heap_setCell _ _ _ _ h1]
theorem rdB {w w1 : World} {D E A B : Nat} {g lv ev : Value} (h : Below B w w1) (h1 : B ≤ D) (h2 : B ≤ E) (h3 : B ≤ A) : Below B w ((((((w1.setCell ⟨D, 0, none⟩ g).setCell ⟨D, 1, none⟩ lv).setCell ⟨A, 0, none⟩ ev).setCell ⟨D, 0, none⟩ g).setCell ⟨D, 1, none⟩ lv).setCell ⟨E, 0, none⟩ (.int .i64 0)) :=
  (((((h.setCell (p := ⟨D, 0, none⟩) h1 _).setCell (p := ⟨D, 1, none⟩) h1 _).setCell (p := ⟨A, 0, none⟩) h3 _).setCell (p := ⟨D, 0, none⟩) h1 _).setCell (p := ⟨D, 1, none⟩) h1 _).setCell (p := ⟨E, 0, none⟩) h2 _
theorem rdS {w1 : World} {D E A : Nat} {g lv ev : Value} : ((((((w1.setCell ⟨D, 0, none⟩ g).setCell ⟨D, 1, none⟩ lv).setCell ⟨A, 0, none⟩ ev).setCell ⟨D, 0, none⟩ g).setCell ⟨D, 1, none⟩ lv).setCell ⟨E, 0, none⟩ (.int .i64 0)).heap.size = w1.heap.size := by simp [World.setCell]
/-- What Read answers. -/
def ReadD (w : World) (xs : List Nat) (e : Ending) (w' : World) : Prop :=
  (∃ x ls lv, IsDir ltS x xs ∧ ls.map Prod.fst = x.files ∧ e = .returned (.tuple #[.agg #[.int .i64 x.gen, lv], .int .i64 0]) ∧ FOwn w' w.heap.size lv ls ∧ Below w.heap.size w w')
  ∨ ((∀ x, ¬ IsDir ltS x xs) ∧ e = .returned (.tuple #[.agg #[.int .i64 0, .slice none 0 0], .int .i64 8]) ∧ Below w.heap.size w w')
set_option maxHeartbeats 2000000 in
theorem Read_any (p : Option Addr) (c : Nat) (xs : List Nat) (w : World) (hL : Laid w) (hb : BIn w p xs) (hc : xs.length ≤ c) (hcm : c ≤ maxLen) :
    Calls Tryz.prog 21 #[.slice p xs.length c] w fun e w' => ReadD w xs e w' := by
  have hb3 : Below w.heap.size w (((w.alloc (.cells #[.int .i64 0, .slice none 0 0] 31)).alloc (.cells #[.int .i64 0] 26)).alloc (.cells #[.nilIface] 93)) := ((below_alloc w _).alloc (by simp) _).alloc (by simp; omega) _
  have hrd := read4_any p c xs _ (hL.below hb3) (hb.below hb3) hc hcm
  have HG : Hid (ErrT w) := hL.err
  have hmf : ∀ (fn : Fn) (first cap : Array Value) (w : World), (Instr.makeFunc fn first cap).run Tryz.prog w = .ok (.func fn first cap) w := fun _ _ _ _ => rfl
  clear hL hb
  go_enter_defers Tryz.func21, Tryz.ntmps21
  go_wp2_with fail
  refine hrd.mono ?_
  rintro e w1 hpost
  have hbb : Below (((w.alloc (.cells #[.int .i64 0, .slice none 0 0] 31)).alloc (.cells #[.int .i64 0] 26)).alloc (.cells #[.nilIface] 93)).heap.size (((w.alloc (.cells #[.int .i64 0, .slice none 0 0] 31)).alloc (.cells #[.int .i64 0] 26)).alloc (.cells #[.nilIface] 93)) w1 := by
    rcases hpost with ⟨_, _, _, _, _, _, _, h⟩ | ⟨_, _, _, _, h⟩ <;> exact h
  have hs1 := hbb.size
  simp at hs1
  obtain ⟨cE, cA, fE, fA⟩ := vars2 (a := .int .i64 0) (b := .nilIface) (s := 26) (t := 93) (w.alloc (.cells #[.int .i64 0, .slice none 0 0] 31)) w1 hbb
  simp only [heap_size_alloc] at cE cA fE fA
  have hbx : Below (w.heap.size + 1) (w.alloc (.cells #[.int .i64 0, .slice none 0 0] 31)) w1 := (((Below.refl _ _).alloc (by simp) _).alloc (by simp) _).trans (hbb.mono (by simp))
  obtain ⟨c0, c1⟩ := box2 hbx
  obtain ⟨f0, f1⟩ := box2f hbx
  have HB : Hid (Below w.heap.size w w1) := box_below hbx
  clear hbb hbx hrd hb3
  rcases hpost with ⟨x, ls, lv, hd, hls, rfl, hfo, _⟩ | ⟨ev, hno, rfl, hfl, _⟩
  · have HDI : Hid (IsDir ltS x xs) := hd
    have HLS : Hid (ls.map Prod.fst = x.files) := hls
    have hfo' : FOwn w1 (w.heap.size + 1 + 1 + 1) lv ls := by simpa using hfo
    have HFO : Hid (FOwn w1 (w.heap.size + 1 + 1 + 1) lv ls) := hfo'
    obtain ⟨ql, ml, rfl, _⟩ := hfo.form
    have HEV : Hid (ErrV .nilIface 0) := .inl ⟨rfl, rfl⟩
    clear hd hls hfo hfo'
    go_wp2
    have g1 := rdA (g := .int .i64 x.gen) (lv := .slice ql ls.length ml) (ev := .nilIface) (D := w.heap.size) (E := w.heap.size + 1) (A := w.heap.size + 1 + 1) (by omega) (by omega) cA
    have g2 := rdE (g := .int .i64 x.gen) (lv := .slice ql ls.length ml) (ev := .nilIface) (D := w.heap.size) (E := w.heap.size + 1) (A := w.heap.size + 1 + 1) (by omega) (by omega) cE
    have g3 := rdF (g := .int .i64 x.gen) (lv := .slice ql ls.length ml) (ev := .nilIface) (D := w.heap.size) (E := w.heap.size + 1) (A := w.heap.size + 1 + 1) fE
    have g4 := rd0 (g := .int .i64 x.gen) (lv := .slice ql ls.length ml) (ev := .nilIface) (D := w.heap.size) (E := w.heap.size + 1) (A := w.heap.size + 1 + 1) (by omega) (by omega) c0
    have g5 := rd1 (g := .int .i64 x.gen) (lv := .slice ql ls.length ml) (ev := .nilIface) (D := w.heap.size) (E := w.heap.size + 1) (A := w.heap.size + 1 + 1) (by omega) (by omega) c1
    have g6 := fun k h1 h2 h3 => rdH (w1 := w1) (g := .int .i64 x.gen) (lv := .slice ql ls.length ml) (ev := .nilIface) (D := w.heap.size) (E := w.heap.size + 1) (A := w.heap.size + 1 + 1) (k := k) h1 h2 h3
    have g7 := rdS (w1 := w1) (g := .int .i64 x.gen) (lv := .slice ql ls.length ml) (ev := .nilIface) (D := w.heap.size) (E := w.heap.size + 1) (A := w.heap.size + 1 + 1)
    have hbW := rdB (g := .int .i64 x.gen) (lv := .slice ql ls.length ml) (ev := .nilIface) (D := w.heap.size) (E := w.heap.size + 1) (A := w.heap.size + 1 + 1) HB.out (by omega) (by omega) (by omega)
    generalize (((((w1.setCell ⟨w.heap.size, 0, none⟩ (.int .i64 x.gen)).setCell ⟨w.heap.size, 1, none⟩ (.slice ql ls.length ml)).setCell ⟨w.heap.size + 1 + 1, 0, none⟩ (.nilIface)).setCell ⟨w.heap.size, 0, none⟩ (.int .i64 x.gen)).setCell ⟨w.heap.size, 1, none⟩ (.slice ql ls.length ml)).setCell ⟨w.heap.size + 1, 0, none⟩ (.int .i64 0) = W at *
    refine leaves_cons (f := 61) (args := #[.pointer (some ⟨w.heap.size + 1 + 1, 0, none⟩), .pointer (some ⟨w.heap.size + 1, 0, none⟩)]) (by simp) (by simp [go_sem]) ?_
    refine (readD ⟨w.heap.size + 1 + 1, 0, none⟩ ⟨w.heap.size + 1, 0, none⟩ (.nilIface) (.int .i64 0) 0 .returning _ (HG.out.below hbW) HEV.out g1 g2 g3).mono ?_
    rintro e u' w'' ⟨rfl, rfl, w3, rfl, hb3⟩
    have hlE := World.block_lt_of_cell? _ _ g2
    have hlD := World.block_lt_of_cell? _ _ g4
    have k1 : (w3.setCell ⟨w.heap.size + 1, 0, none⟩ (.int .i64 0)).cell? ⟨w.heap.size + 1, 0, none⟩ = some (.int .i64 0) := World.cell?_setCell_same _ _ _ ((hb3.cell hlE).trans g2)
    have k4 : (w3.setCell ⟨w.heap.size + 1, 0, none⟩ (.int .i64 0)).cell? ⟨w.heap.size, 0, none⟩ = some (.int .i64 x.gen) := by rw [World.cell?_setCell_other _ _ _ _ (by simp)]; exact (hb3.cell hlD).trans g4
    have k5 : (w3.setCell ⟨w.heap.size + 1, 0, none⟩ (.int .i64 0)).cell? ⟨w.heap.size, 1, none⟩ = some (.slice ql ls.length ml) := by rw [World.cell?_setCell_other _ _ _ _ (by simp)]; exact (hb3.cell (World.block_lt_of_cell? _ _ g5)).trans g5
    have k2 : Below w.heap.size w (w3.setCell ⟨w.heap.size + 1, 0, none⟩ (.int .i64 0)) := (hbW.trans (hb3.mono hbW.size)).setCell (by simp) _
    have k6 : ∀ k, w.heap.size + 1 + 1 + 1 ≤ k → k < w1.heap.size → (w3.setCell ⟨w.heap.size + 1, 0, none⟩ (.int .i64 0)).heap[k]? = w1.heap[k]? := fun k hk hk2 => by
      rw [Below.heap_setCell _ _ _ _ (by simp; omega), hb3.block k (by omega), g6 k (by omega) (by omega) (by omega)]
    generalize w3.setCell ⟨w.heap.size + 1, 0, none⟩ (.int .i64 0) = w4 at *
    simp [Leaves, settle, results_cells Tryz.results21, go_sem, k1, k4, k5]
    exact .inl ⟨x, ls, _, HDI.out, HLS.out, rfl, (HFO.out.keepB k6).mono (by omega), k2⟩
  · have HN : Hid (∀ x, ¬ IsDir ltS x xs) := hno
    have HEV : Hid (ErrV ev 8) := .inr ⟨by decide, hfl⟩
    obtain ⟨tx, vx, rfl⟩ := hfl.iface
    clear hno hfl
    go_wp2
    have g1 := rdA (g := .int .i64 0) (lv := .slice none 0 0) (ev := .iface tx vx) (D := w.heap.size) (E := w.heap.size + 1) (A := w.heap.size + 1 + 1) (by omega) (by omega) cA
    have g2 := rdE (g := .int .i64 0) (lv := .slice none 0 0) (ev := .iface tx vx) (D := w.heap.size) (E := w.heap.size + 1) (A := w.heap.size + 1 + 1) (by omega) (by omega) cE
    have g3 := rdF (g := .int .i64 0) (lv := .slice none 0 0) (ev := .iface tx vx) (D := w.heap.size) (E := w.heap.size + 1) (A := w.heap.size + 1 + 1) fE
    have g4 := rd0 (g := .int .i64 0) (lv := .slice none 0 0) (ev := .iface tx vx) (D := w.heap.size) (E := w.heap.size + 1) (A := w.heap.size + 1 + 1) (by omega) (by omega) c0
    have g5 := rd1 (g := .int .i64 0) (lv := .slice none 0 0) (ev := .iface tx vx) (D := w.heap.size) (E := w.heap.size + 1) (A := w.heap.size + 1 + 1) (by omega) (by omega) c1
    have g6 := fun k h1 h2 h3 => rdH (w1 := w1) (g := .int .i64 0) (lv := .slice none 0 0) (ev := .iface tx vx) (D := w.heap.size) (E := w.heap.size + 1) (A := w.heap.size + 1 + 1) (k := k) h1 h2 h3
    have g7 := rdS (w1 := w1) (g := .int .i64 0) (lv := .slice none 0 0) (ev := .iface tx vx) (D := w.heap.size) (E := w.heap.size + 1) (A := w.heap.size + 1 + 1)
    have hbW := rdB (g := .int .i64 0) (lv := .slice none 0 0) (ev := .iface tx vx) (D := w.heap.size) (E := w.heap.size + 1) (A := w.heap.size + 1 + 1) HB.out (by omega) (by omega) (by omega)
    generalize (((((w1.setCell ⟨w.heap.size, 0, none⟩ (.int .i64 0)).setCell ⟨w.heap.size, 1, none⟩ (.slice none 0 0)).setCell ⟨w.heap.size + 1 + 1, 0, none⟩ (.iface tx vx)).setCell ⟨w.heap.size, 0, none⟩ (.int .i64 0)).setCell ⟨w.heap.size, 1, none⟩ (.slice none 0 0)).setCell ⟨w.heap.size + 1, 0, none⟩ (.int .i64 0) = W at *
    refine leaves_cons (f := 61) (args := #[.pointer (some ⟨w.heap.size + 1 + 1, 0, none⟩), .pointer (some ⟨w.heap.size + 1, 0, none⟩)]) (by simp) (by simp [go_sem]) ?_
    refine (readD ⟨w.heap.size + 1 + 1, 0, none⟩ ⟨w.heap.size + 1, 0, none⟩ (.iface tx vx) (.int .i64 0) 8 .returning _ (HG.out.below hbW) HEV.out g1 g2 g3).mono ?_
    rintro e u' w'' ⟨rfl, rfl, w3, rfl, hb3⟩
    have hlE := World.block_lt_of_cell? _ _ g2
    have hlD := World.block_lt_of_cell? _ _ g4
    have k1 : (w3.setCell ⟨w.heap.size + 1, 0, none⟩ (.int .i64 8)).cell? ⟨w.heap.size + 1, 0, none⟩ = some (.int .i64 8) := World.cell?_setCell_same _ _ _ ((hb3.cell hlE).trans g2)
    have k4 : (w3.setCell ⟨w.heap.size + 1, 0, none⟩ (.int .i64 8)).cell? ⟨w.heap.size, 0, none⟩ = some (.int .i64 0) := by rw [World.cell?_setCell_other _ _ _ _ (by simp)]; exact (hb3.cell hlD).trans g4
    have k5 : (w3.setCell ⟨w.heap.size + 1, 0, none⟩ (.int .i64 8)).cell? ⟨w.heap.size, 1, none⟩ = some (.slice none 0 0) := by rw [World.cell?_setCell_other _ _ _ _ (by simp)]; exact (hb3.cell (World.block_lt_of_cell? _ _ g5)).trans g5
    have k2 : Below w.heap.size w (w3.setCell ⟨w.heap.size + 1, 0, none⟩ (.int .i64 8)) := (hbW.trans (hb3.mono hbW.size)).setCell (by simp) _
    have k6 : ∀ k, w.heap.size + 1 + 1 + 1 ≤ k → k < w1.heap.size → (w3.setCell ⟨w.heap.size + 1, 0, none⟩ (.int .i64 8)).heap[k]? = w1.heap[k]? := fun k hk hk2 => by
      rw [Below.heap_setCell _ _ _ _ (by simp; omega), hb3.block k (by omega), g6 k (by omega) (by omega) (by omega)]
    generalize w3.setCell ⟨w.heap.size + 1, 0, none⟩ (.int .i64 8) = w4 at *
    simp [Leaves, settle, results_cells Tryz.results21, go_sem, k1, k4, k5]
    exact .inr ⟨HN.out, rfl, k2⟩
end Go.Proofs.YtefmkkfankpgmaaGreatDoor
namespace Go.Proofs.YtefmkkfankpgmaaGreatDoor
open Go.RowKit Go.WideShapes Rm

set_option maxHeartbeats 1000000 in
theorem rnumber_none (R bound : Nat) (vb : Value) (bad : Bool) (xs : List Nat) (w : World) (hv : RowT w vb xs) (hB : 0 < bound ∧ bound < 1000000) (c0 : w.cell? ⟨R, 0, none⟩ = some vb) (c1 : w.cell? ⟨R, 1, none⟩ = some (.bool bad)) (f1 : w.frozen? ⟨R, 1, none⟩ = false) (h : cutNum (bound - 1) xs = none) :
    Calls Tryz.prog 64 #[.pointer (some ⟨R, 0, none⟩), .int .u64 bound] w fun e w' => e = .returned (.int .i64 0) ∧ w' = w.setCell ⟨R, 1, none⟩ (.bool true) := by
  obtain ⟨p, c, rfl, hb, hlc, hcm, _⟩ := hv.row.lies
  rcases cutNum_cases (bound - 1) xs with ⟨h1, _⟩ | ⟨n, k, h1, h2, _⟩ | ⟨n, k, _, _, h3⟩
  · have hrd := refRead_none p xs.length c xs w rfl hb (by omega) h1
    clear h h1 hb hv
    go_enter Tryz.func64, Tryz.ntmps64
    go_wp2_with fail
    refine hrd.mono ?_
    rintro e w1 ⟨rfl, rfl⟩
    go_wp2
    go_ret
    exact ⟨rfl, rfl⟩
  · have hrd := refRead_some p xs.length c xs w n k rfl hb (by omega) h1
    have hge : bound ≤ n := by omega
    clear h h1 hb hv h2
    go_enter Tryz.func64, Tryz.ntmps64
    go_wp2_with fail
    refine hrd.mono ?_
    rintro e w1 ⟨rfl, rfl⟩
    go_wp2
    go_ret
    exact ⟨rfl, rfl⟩
  · rw [h3] at h; cases h
set_option maxHeartbeats 1000000 in
theorem rnumber_some (R bound : Nat) (vb : Value) (xs r : List Nat) (n : Nat) (w : World) (hv : RowT w vb xs) (hB : 0 < bound ∧ bound < 1000000) (c0 : w.cell? ⟨R, 0, none⟩ = some vb) (f0 : w.frozen? ⟨R, 0, none⟩ = false) (h : cutNum (bound - 1) xs = some (n, r)) :
    Calls Tryz.prog 64 #[.pointer (some ⟨R, 0, none⟩), .int .u64 bound] w fun e w' => ∃ v', e = .returned (.int .i64 n) ∧ Carry vb xs v' r ∧ w' = w.setCell ⟨R, 0, none⟩ v' := by
  obtain ⟨p, c, rfl, hb, hlc, hcm, hpn⟩ := hv.row.lies
  rcases cutNum_cases (bound - 1) xs with ⟨_, h1⟩ | ⟨_, _, _, _, h1⟩ | ⟨n', k, h1, h2, h3⟩
  · rw [h1] at h; cases h
  · rw [h1] at h; cases h
  · rw [h3] at h
    simp only [Option.some.injEq, Prod.mk.injEq] at h
    obtain ⟨rfl, rfl⟩ := h
    obtain ⟨k1, k2, k3, k4⟩ := readN_some h1
    obtain ⟨b, o, rfl, _⟩ := hb.1 (by omega)
    have hrd := refRead_some _ xs.length c xs w n' k rfl hb (by omega) h1
    have HC : Hid (Carry (.slice (some ⟨b, o, none⟩) xs.length c) xs (.slice (if c = k then some ⟨b, o, none⟩ else some ⟨b, o + k, none⟩) (xs.length - k) (c - k)) (xs.drop k)) := carry_sub (b := b) (o := o) hlc k2
    unfold maxLen at hcm
    have hlt : n' < bound := by omega
    have hw : IntKind.i64.wrap (n' : Int) = (n' : Int) := by rw [IntKind.wrap_i64]; omega
    clear h1 h3 hb hv
    go_enter Tryz.func64, Tryz.ntmps64
    go_wp2_with fail
    refine hrd.mono ?_
    rintro e w1 ⟨rfl, rfl⟩
    by_cases hck : c = k
    · have HC2 : Hid _ := HC.out
      rw [if_pos hck, show c - k = 0 from by omega] at HC2
      clear HC
      go_wp2
      go_ret
      exact ⟨_, rfl, HC2.out, rfl⟩
    · have HC2 : Hid _ := HC.out
      rw [if_neg hck] at HC2
      clear HC
      go_wp2
      go_ret
      exact ⟨_, rfl, HC2.out, rfl⟩
end Go.Proofs.YtefmkkfankpgmaaGreatDoor
namespace Go.Proofs.YtefmkkfankpgmaaGreatDoor
open Go.RowKit Go.WideShapes Rm

/-- One block is written, all else stays. -/
structure Upd (R : Nat) (w w' : World) : Prop where
  oth : ∀ k, k ≠ R → w'.heap[k]? = w.heap[k]?
  size : w'.heap.size = w.heap.size
  os : w'.os = w.os
  tape : w'.tape = w.tape
  output : w'.output = w.output
theorem Upd.set (w : World) (R i : Nat) (u : Value) : Upd R w (w.setCell ⟨R, i, none⟩ u) :=
  ⟨fun k hk => Below.heap_setCell _ _ _ _ hk, by simp [World.setCell], rfl, rfl, rfl⟩
theorem Upd.below {R B : Nat} {w0 w w' : World} (h : Upd R w w') (hb : Below B w0 w) (hR : B ≤ R) : Below B w0 w' :=
  hb.trans ⟨h.os, h.tape, h.output, by rw [h.size]; exact Nat.le_refl _, fun k hk => h.oth k (by omega)⟩
theorem Upd.rowT {R : Nat} {w w' : World} {v : Value} {xs : List Nat} {C : Array Value} {t : TypeId} {fr : Nat × Nat} (h : Upd R w w') (hR : w.heap[R]? = some (.cells C t fr)) (ht : t ≠ 5) (hv : RowT w v xs) : RowT w' v xs := by
  refine hv.keep fun b C' fr' hb => h.oth b ?_
  rintro rfl
  rw [hR] at hb
  simp only [Option.some.injEq, Obj.cells.injEq] at hb
  exact ht hb.2.1
theorem Upd.own {R base n s : Nat} {e : TypeId} {w w' : World} {v : Value} {xs : List Value} (h : Upd R w w') (ho : w.ownsRow base e s v n xs) (hR : R < base) : w'.ownsRow base e s v n xs :=
  own_keepB ho fun k hk _ => h.oth k (by omega)
theorem heap_set0 {w : World} {R : Nat} {a b : Value} {t : TypeId} {fr : Nat × Nat} (h : w.heap[R]? = some (.cells #[a, b] t fr)) (u : Value) : (w.setCell ⟨R, 0, none⟩ u).heap[R]? = some (.cells #[u, b] t fr) := by
  simp only [World.setCell, Array.getElem?_modify, h, if_true]
  rfl
theorem heap_set1 {w : World} {R : Nat} {a b : Value} {t : TypeId} {fr : Nat × Nat} (h : w.heap[R]? = some (.cells #[a, b] t fr)) (u : Value) : (w.setCell ⟨R, 1, none⟩ u).heap[R]? = some (.cells #[a, u] t fr) := by
  simp only [World.setCell, Array.getElem?_modify, h, if_true]
  rfl
theorem frozen_row {w : World} {R i : Nat} {C : Array Value} {t : TypeId} (h : w.heap[R]? = some (.cells C t (0, 0))) : w.frozen? ⟨R, i, none⟩ = false := by
  simp [World.frozen?, h]
/-- What number answers, whatever stands there. -/
structure NumPost (R bound : Nat) (w : World) (vb : Value) (xs : List Nat) (bad : Bool) (e : Ending) (w' : World) : Prop where
  out : ∃ (z : Nat) (vb' : Value) (xs' : List Nat) (bad' : Bool), e = .returned (.int .i64 z) ∧ z < bound ∧ Upd R w w' ∧ w'.heap[R]? = some (.cells #[vb', .bool bad'] 123 (0, 0)) ∧ Carry vb xs vb' xs' ∧ xs'.length ≤ xs.length ∧
    ((cutNum (bound - 1) xs = some (z, xs') ∧ bad' = bad) ∨ (cutNum (bound - 1) xs = none ∧ bad' = true))
theorem rnumber_u (R bound : Nat) (vb : Value) (bad : Bool) (xs : List Nat) (w : World) (hv : RowT w vb xs) (hB : 0 < bound ∧ bound < 1000000) (hR : w.heap[R]? = some (.cells #[vb, .bool bad] 123 (0, 0))) :
    Calls Tryz.prog 64 #[.pointer (some ⟨R, 0, none⟩), .int .u64 bound] w fun e w' => NumPost R bound w vb xs bad e w' := by
  have c0 : w.cell? ⟨R, 0, none⟩ = some vb := cell_of_row _ _ _ _ _ _ hR
  have c1 : w.cell? ⟨R, 1, none⟩ = some (.bool bad) := cell_of_row _ _ _ _ _ _ hR
  cases h : cutNum (bound - 1) xs with
  | none =>
    refine (rnumber_none R bound vb bad xs w hv hB c0 c1 (frozen_row hR) h).mono ?_
    rintro e w' ⟨rfl, rfl⟩
    exact ⟨⟨0, vb, xs, true, rfl, hB.1, Upd.set _ _ _ _, heap_set1 hR _, fun _ hw => hw, Nat.le_refl _, .inr ⟨h, rfl⟩⟩⟩
  | some nr =>
    obtain ⟨n, r⟩ := nr
    refine (rnumber_some R bound vb xs r n w hv hB c0 (frozen_row hR) h).mono ?_
    rintro e w' ⟨v', rfl, hc, rfl⟩
    obtain ⟨h1, h2⟩ := cutNum_only hv.byt h
    have hl : r.length ≤ xs.length := by rw [h1, List.length_append]; omega
    exact ⟨⟨n, v', r, bad, rfl, by omega, Upd.set _ _ _ _, heap_set0 hR _, hc, hl, .inl ⟨h, rfl⟩⟩⟩
end Go.Proofs.YtefmkkfankpgmaaGreatDoor
