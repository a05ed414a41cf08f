import Derived.Test.YtghcmllmbpoidaaGreatDoorJ10
import Derived.Laws.ResultCell
import Derived.Test.YtghcmllmbpoidaaGreatDoorJ09
import Derived.Test.YtghcmllmbpoidaaGreatDoorJ08
import Derived.Deep.Slices
namespace Go.Proofs.YtghcmllmbpoidaaGreatDoor
open Go.RowKit Go.WideShapes Rm
theorem FOwn.form {w : World} {base : Nat} {v : Value} {ls : FPs} (h : FOwn w base v ls) : ∃ q m, v = .slice q ls.length m ∧ ls.length ≤ m ∧ m ≤ maxLen ∧ (q = none → m = 0) := own_form h.row
theorem FOwn.fin {w : World} {base : Nat} {v : Value} {ls : FPs} (h : FOwn w base v ls) (hw : ∀ x ∈ ls, Wf x.1.pcs) (hs : ∀ x ∈ ls, wf64 x.1.size) : FIn w v (ls.map Prod.fst) := by
  obtain ⟨q, m, rfl, h1, h2, h3⟩ := h.form
  refine ⟨⟨q, m, by simp, fun hp => ?_, by simpa using h1, h2, h3⟩, fun f hf => ?_⟩
  · rcases h.row.2 with ⟨_, hn⟩ | ⟨g, cap, cur, hv, hb, hg, hle, hmax, hsz, htk⟩
    · simp [hn] at hp
    · simp only [Value.slice.injEq] at hv
      obtain ⟨rfl, _, rfl⟩ := hv
      refine ⟨g, 0, rfl, fun i hi => ?_⟩
      have hi' : i < ls.length := by simpa using hi
      obtain ⟨a0, a1, a2⟩ := cellsF_at ls i ls[i] (List.getElem?_eq_getElem hi')
      have hget : (ls.map Prod.fst).getD i zeroF = ls[i].1 := by simp [List.getD, hi']
      rw [hget]
      refine ⟨by rw [Nat.zero_add, World.ownsRow.cellAt h.row _ (by omega), a0], by rw [Nat.zero_add, World.ownsRow.cellAt h.row _ (by omega), a1], ls[i].2, by rw [Nat.zero_add, World.ownsRow.cellAt h.row _ (by omega), a2], ?_⟩
      exact (h.pcs _ (List.getElem_mem hi')).pin (hw _ (List.getElem_mem hi'))
  · obtain ⟨x, hx, rfl⟩ := List.mem_map.1 hf
    exact hs x hx
theorem set2_at (w : World) (B b : Nat) (x y : Value) (h : b ≠ B) : ((w.setCell ⟨B, 0, none⟩ x).setCell ⟨B, 1, none⟩ y).heap[b]? = w.heap[b]? := by
  rw [Below.heap_setCell _ _ _ _ h, Below.heap_setCell _ _ _ _ h]
theorem FOwn.set2 {w : World} {base B : Nat} {v : Value} {ls : FPs} (h : FOwn w base v ls) (hB : B < base) (x y : Value) : FOwn ((w.setCell ⟨B, 0, none⟩ x).setCell ⟨B, 1, none⟩ y) base v ls := by
  refine ⟨?_, fun u hu => set2_pown (h.pcs u hu) (fun e => by have := ((h.pcs u hu).lt _ e).1; omega) x y⟩
  have hne : v.ownBlock ≠ some B := fun e => by have := (h.row.lt _ e).1; omega
  refine World.ownsRow.kept (row := some B) h.row ⟨rfl, rfl, rfl, by simp [World.setCell], fun k hk hne => set2_at w B k x y (fun e => hne (by rw [e]))⟩ (by cases hv : v.ownBlock with | none => exact .inl rfl | some g => exact .inr (by rw [← hv]; exact hne))
theorem beg8_sec0 (xs : List Nat) : beg8 (secAt xs 0) = beg8 xs := by
  unfold secAt beg8
  have : ∀ i, i < 8 → ((xs.drop (0 * 128)).take 128).getD i 0 = xs.getD i 0 := by
    intro i hi
    simp [List.getD, show i < 128 from by omega]
  rw [this 0 (by omega), this 1 (by omega), this 2 (by omega), this 3 (by omega), this 4 (by omega), this 5 (by omega), this 6 (by omega), this 7 (by omega)]
theorem isDir_ok {x : DirV} {xs : List Nat} (h : IsDir ltS x xs) {i : Nat} (hi : i < 8) : SecOk xs i := by
  have h0 := isDir_sec h (i := 0) (by omega)
  have h1 := isDir_sec h hi
  rw [beg8_sec0 xs] at h0
  exact ⟨by rw [h1.1, h0.1], h1.2⟩
theorem bokBP : Bok BP := ⟨by simp [BP], by simp [BP], by simp [BP], by simp [BP], by simp [BP]⟩
theorem cutL_eq (b : List Nat) : cutL (cutFile BP) b = cutFiles BP b := rfl
theorem small_one (n : Nat) : 1 ≤ (smallN n).length := smallN_pos n
theorem pcs_le (l : Pcs) : l.length ≤ (l.flatMap pieceN).length := by
  induction l with
  | nil => simp
  | cons p l ih =>
    rw [List.flatMap_cons, List.length_append, List.length_cons]
    have : 1 ≤ (pieceN p).length := by unfold pieceN; rw [List.length_append]; have := small_one p.1.toNat; omega
    omega
theorem file_le (f : FileV) : f.name.size ≤ (fileN f).length ∧ f.pcs.length ≤ (fileN f).length := by
  have := pcs_le f.pcs
  have h2 := numsOf_len f.name
  unfold fileN textN
  simp only [List.length_append]
  omega
theorem files_le (l : List FileV) : (∀ f ∈ l, f.name.size ≤ (l.flatMap fileN).length) ∧ (allPcs l).length ≤ (l.flatMap fileN).length := by
  induction l with
  | nil => exact ⟨fun f hf => by simp at hf, by simp [allPcs]⟩
  | cons g l ih =>
    have hg := file_le g
    unfold allPcs at ih ⊢
    rw [List.flatMap_cons, List.flatMap_cons, List.length_append, List.length_append]
    refine ⟨fun f hf => ?_, by omega⟩
    rcases List.mem_cons.1 hf with rfl | h
    · omega
    · have := ih.1 f h; omega
theorem cut_told {xs r : List Nat} {l : List FileV} (hb : Byt xs) (h : cutFiles BP xs = some (l, r)) : ((∀ f ∈ l, f.name.size ≤ xs.length) ∧ (allPcs l).length ≤ xs.length) ∧ (∀ f ∈ l, wf64 f.size ∧ Wf f.pcs) := by
  have h1 := cutFiles_only hb h
  have h2 := files_le l
  have h3 : (l.flatMap fileN).length ≤ xs.length := by
    rw [h1]; unfold insideN; simp only [List.length_append]; omega
  refine ⟨⟨fun f hf => Nat.le_trans (h2.1 f hf) h3, Nat.le_trans h2.2 h3⟩, ?_⟩
  unfold cutFiles at h
  split at h
  · cases h
  · rename_i n r1 e1
    obtain ⟨g1, _⟩ := cutNum_only hb e1
    obtain ⟨_, _, g4⟩ := cutMany_only (g := fileN) (Q := fun f => (0 ≤ f.size ∧ f.size ≤ BP.size) ∧ f.pcs.length ≤ BP.many ∧ ∀ p ∈ f.pcs, (0 ≤ p.1 ∧ p.1 ≤ BP.lo) ∧ (0 ≤ p.2 ∧ p.2 ≤ BP.count)) (fun b x r hb h => cutFile_only hb h) n r1 l r (Byt.app (g1 ▸ hb)) h
    intro f hf
    obtain ⟨k1, _, k3⟩ := g4 f hf
    simp only [BP] at k1 k3
    refine ⟨⟨by omega, by omega⟩, fun p hp => ?_⟩
    have := k3 p hp
    omega
def ReadPost (w : World) (xs : List Nat) (e : Ending) (w' : World) : Prop :=
  (∃ x ls lv, IsDir ltS x xs ∧ ls.map Prod.fst = x.files ∧ e = .returned (.tuple #[.agg #[.int .i64 x.gen, lv], .nilIface]) ∧ FOwn w' w.heap.size lv ls ∧ Below w.heap.size w w')
  ∨ (∃ ev, (∀ x, ¬ IsDir ltS x xs) ∧ e = .returned (.tuple #[.agg #[.int .i64 0, .slice none 0 0], ev]) ∧ Faults ev 8 ∧ Below w.heap.size w w')
theorem inner_byt {xs : List Nat} (hb : Byt xs) (k : Nat) : Byt (innerN xs k) := by
  intro c hc
  obtain ⟨i, _, h⟩ := List.mem_flatMap.1 hc
  exact hb c (List.mem_of_mem_drop (List.mem_of_mem_take (List.mem_of_mem_drop h)))
theorem wrap_pos {n : Nat} (h : n < 18446744073709551616) (h1 : 1 ≤ wrap64 (n : Int)) : wrap64 (n : Int) = n := by
  unfold wrap64 at *; omega
theorem wrap_low {n : Nat} (h : n < 9223372036854775808) : wrap64 (n : Int) = n := by
  unfold wrap64; omega
theorem wrap_wf {n : Nat} : wf64 (wrap64 (n : Int)) := by
  unfold wrap64 wf64; omega
theorem isDir_is {y : DirV} {xs r : List Nat} {l : List FileV} (h : IsDir ltS y xs) (hc : cutFiles BP (innerN xs 8) = some (l, r)) : y = ⟨wrap64 (beg8 xs : Nat), l⟩ ∧ ∀ c ∈ r, c = 0 := by
  obtain ⟨r', h1, h2⟩ := isDir_cut bokBP h
  rw [hc] at h1
  simp only [Option.some.injEq, Prod.mk.injEq] at h1
  have g := (isDir_sec h (i := 0) (by omega)).1
  rw [beg8_sec0 xs] at g
  have a1 := h.1.lo
  have a2 := h.1.hi
  obtain ⟨gy, fy⟩ := y
  simp only at h1 g a1 a2
  refine ⟨?_, by rw [h1.2]; exact h2⟩
  rw [h1.1, wrap_low (by omega), show gy = (beg8 xs : Int) from by omega]
set_option maxRecDepth 4000 in
set_option maxHeartbeats 2000000 in
theorem read4_any (p : Option Addr) (c : Nat) (xs : List Nat) (w : World) (hL : Laid w) (hb : BIn w p xs) (hc : xs.length ≤ c) (hcm : c ≤ maxLen) :
    Calls Tryz.prog 133 #[.slice p xs.length c] w fun e w' => ReadPost w xs e w' := by
  have hb1 := hb.below (below_alloc w (.cells #[.int .i64 0, .slice none 0 0] 142))
  have HL1 : Hid (Laid (w.alloc (.cells #[.int .i64 0, .slice none 0 0] 142))) := hL.below (below_alloc w _)
  have HBY : Hid (Byt xs) := hb.2
  have hcm' := hcm
  unfold maxLen at hcm'
  by_cases hlen : xs.length = 1024
  · have hjo := joined_any p c xs _ hb1 hlen hc hcm
    have HLEN : Hid (xs.length = 1024) := hlen
    have hlen' : ((xs.length : Int) != 1024) = false := by simp [hlen]
    clear hb hb1 hL hcm
    rw [hlen] at hc ⊢
    clear hlen hlen'
    go_enter Tryz.func133, Tryz.ntmps133
    go_wp2_with fail
    refine hjo.mono ?_
    rintro e w1 (⟨r, rfl, hsec, ho1, hb1⟩ | ⟨ev, rfl, hfl, hno, hb1⟩)
    · have hs1 := hb1.size
      simp at hs1
      have HSEC : Hid (∀ i, i < 8 → SecOk xs i) := hsec
      have hrt := own_rowT ho1 (inner_byt HBY.out 8)
      have hil := innerN_len HLEN.out
      have HL2 : Hid (Laid w1) := HL1.out.below hb1
      cases hcf : cutFiles BP (innerN xs 8) with
      | none =>
        have hcl := cutFiles_any r (innerN xs 8) w1 HL2.out hrt (by omega) none (by rw [cutL_eq]; exact hcf)
        have HN0 : Hid (∀ x, ¬ IsDir ltS x xs) := fun x h => by obtain ⟨_, h1, _⟩ := isDir_cut bokBP h; rw [hcf] at h1; cases h1
        clear hjo hsec ho1 hrt hcf
        go_wp2_with fail
        refine hcl.mono ?_
        rintro e w2 ⟨ev, rfl, hfl, hb2⟩
        have HFL : Hid (Faults ev 8) := hfl
        obtain ⟨tx, vx, rfl⟩ := hfl.iface
        have hb' : Below (w.heap.size + 1) (w.alloc (.cells #[.int .i64 0, .slice none 0 0] 142)) w2 := (hb1.mono (by simp)).trans (hb2.mono (by omega))
        obtain ⟨c0, c1⟩ := box2 hb'
        obtain ⟨f0, f1⟩ := box2f hb'
        have HB : Hid (Below w.heap.size w w2) := box_below hb'
        have HN : Hid (∀ x, ¬ IsDir ltS x xs) := HN0.out
        clear hb' hb1 hb2 hfl hcl
        go_wp2
        (try simp only [Exit.inBlock, Exit.then])
        refine bodyPost_ret (v := .tuple #[.agg #[.int .i64 0, .slice none 0 0], .iface 124 (.agg #[.string ⟨#[105, 110, 115, 105, 100, 101]⟩, .iface tx vx])]) ?_ rfl ?_
        · rw [results_cell_tmp rfl]
          go_simp
        · exact .inr ⟨_, HN.out, rfl, .more _ HFL.out, by first | exact set2_below HB.out (by omega) _ _ | exact below_alloc _ _⟩
      | some lr =>
        obtain ⟨l, rest⟩ := lr
        have hcl := cutFiles_any r (innerN xs 8) w1 HL2.out hrt (by omega) (some (l, rest)) (by rw [cutL_eq]; exact hcf)
        obtain ⟨⟨ht1, ht2⟩, ht3⟩ := cut_told (inner_byt HBY.out 8) hcf
        have HCF : Hid (cutFiles BP (innerN xs 8) = some (l, rest)) := hcf
        have hG := beg8_lt HBY.out
        clear hjo hsec ho1 hrt hcf
        go_wp2_with fail
        refine hcl.mono ?_
        rintro e w2 ⟨ls, lv, v2, hls, rfl, hfo, hro, hb2⟩
        have hs2 := hb2.size
        have hb12 : Below (w.heap.size + 1) (w.alloc (.cells #[.int .i64 0, .slice none 0 0] 142)) w2 := (hb1.mono (by simp)).trans (hb2.mono (by omega))
        clear hcl hb1 hb2
        by_cases hz : ∃ x ∈ rest, x ≠ 0
        · have hcn := contains_nz v2 rest w2 hro.row true ⟨fun _ => hz, fun _ => rfl⟩
          have HN0 : Hid (∀ x, ¬ IsDir ltS x xs) := fun y h => by
            obtain ⟨x, hx, hne⟩ := hz
            exact hne ((isDir_is h HCF.out).2 x hx)
          clear hz hfo hro
          go_wp2_with fail
          refine hcn.mono ?_
          rintro e w3 ⟨rfl, rfl⟩
          have hb' : Below (w.heap.size + 1) (w.alloc (.cells #[.int .i64 0, .slice none 0 0] 142)) w3 := hb12
          obtain ⟨c0, c1⟩ := box2 hb'
          obtain ⟨f0, f1⟩ := box2f hb'
          have HB : Hid (Below w.heap.size w w3) := box_below hb'
          have HN : Hid (∀ x, ¬ IsDir ltS x xs) := HN0.out
          clear hb' hb12 hcn
          go_wp2
          (try simp only [Exit.inBlock, Exit.then])
          refine bodyPost_ret (v := .tuple #[.agg #[.int .i64 0, .slice none 0 0], .iface 124 (.agg #[.string ⟨#[98, 101, 104, 105, 110, 100, 32, 116, 104, 101, 32, 105, 110, 115, 105, 100, 101]⟩, .iface 25 (.int .i64 8)])]) ?_ rfl ?_
          · rw [results_cell_tmp rfl]
            go_simp
          · exact .inr ⟨_, HN.out, rfl, Faults.one _ _, by first | exact set2_below HB.out (by omega) _ _ | exact below_alloc _ _⟩
        · have hcn := contains_nz v2 rest w2 hro.row false ⟨fun h => (by cases h), fun h => absurd h hz⟩
          have HZ : Hid (∀ c ∈ rest, c = 0) := fun c hc => by
            rcases Nat.eq_zero_or_pos c with h | h
            · exact h
            · exact absurd ⟨c, hc, by omega⟩ hz
          have hfin := hfo.fin (fun x hx => (ht3 _ (by rw [← hls]; exact List.mem_map_of_mem hx)).2) (fun x hx => (ht3 _ (by rw [← hls]; exact List.mem_map_of_mem hx)).1)
          rw [hls] at hfin
          have hdir : DirIn w2 (.agg #[.int .i64 (wrap64 (beg8 xs : Nat)), lv]) ⟨wrap64 (beg8 xs : Nat), l⟩ := ⟨⟨lv, rfl, hfin⟩, wrap_wf⟩
          have HFO : Hid (FOwn w2 w1.heap.size lv ls) := hfo
          obtain ⟨ql, ml, rfl, _⟩ := hfo.form
          have hck := check4_any _ _ _ (hdir.below (below_alloc w2 (.cells #[.int .i64 (wrap64 (beg8 xs : Nat)), .slice ql ls.length ml] 142))) (fun f hf => by have := ht1 f hf; omega) (by simp only; omega)
          have HIS : Hid (∀ y, IsDir ltS y xs → y = ⟨wrap64 (beg8 xs : Nat), l⟩) := fun y h => (isDir_is h HCF.out).1
          have HOF : Hid (May ltS ⟨wrap64 (beg8 xs : Nat), l⟩ → IsDir ltS ⟨wrap64 (beg8 xs : Nat), l⟩ xs) := fun hm => by
            refine isDir_of HBY.out HLEN.out (fun i hi => ?_) HCF.out HZ.out hm
            obtain ⟨k1, k2⟩ := HSEC.out i hi
            refine ⟨?_, k2⟩
            rw [k1]
            have := hm.lo
            simp only at this ⊢
            rw [wrap_pos hG this]
            simp
          have HLS : Hid (ls.map Prod.fst = l) := hls
          clear hz hro hfin hdir hfo hls ht1 ht2 ht3
          generalize wrap64 (beg8 xs : Nat) = GG at *
          go_wp2_with fail
          refine hcn.mono ?_
          rintro e w3 ⟨rfl, rfl⟩
          go_wp2_with fail
          refine hck.mono ?_
          rintro e w4 ⟨rv, rfl, hrv, hb4⟩
          have hs4 := hb4.size
          simp at hs4
          have hb14 : Below (w.heap.size + 1) (w.alloc (.cells #[.int .i64 0, .slice none 0 0] 142)) w4 := (hb12.alloc (by omega) _).trans (hb4.mono (by simp; omega))
          obtain ⟨d0, d1⟩ := box2 (hb4.mono (by simp) : Below (w3.heap.size + 1) _ w4)
          have HFO4 : Hid (FOwn w4 w1.heap.size _ ls) := (HFO.out.below (below_alloc w3 _)).below hb4
          clear hck hcn hb4 hb12 HFO
          rcases hrv with ⟨hok, rfl⟩ | ⟨hno, hfl⟩
          · have HD : Hid (IsDir ltS ⟨GG, l⟩ xs) := HOF.out hok
            obtain ⟨c0, c1⟩ := box2 hb14
            obtain ⟨f0, f1⟩ := box2f hb14
            have HB : Hid (Below w.heap.size w w4) := box_below hb14
            clear hb14 hok HOF HIS
            go_wp2
            (try simp only [Exit.inBlock, Exit.then])
            refine bodyPost_ret (v := .tuple #[.agg #[.int .i64 GG, .slice ql ls.length ml], .nilIface]) ?_ rfl ?_
            · rw [results_cell_tmp rfl]
              go_simp
            · exact .inl ⟨⟨GG, l⟩, ls, _, HD.out, HLS.out, rfl, (HFO4.out.set2 (by omega) _ _).mono (by omega), set2_below HB.out (by omega) _ _⟩
          · have HFL : Hid (Faults rv 8) := hfl
            obtain ⟨tx, vx, rfl⟩ := hfl.iface
            have HN0 : Hid (∀ x, ¬ IsDir ltS x xs) := fun y h => by have e := HIS.out y h; subst e; exact hno h.1
            have hb' : Below (w.heap.size + 1) (w.alloc (.cells #[.int .i64 0, .slice none 0 0] 142)) w4 := hb14
            obtain ⟨c0, c1⟩ := box2 hb'
            obtain ⟨f0, f1⟩ := box2f hb'
            have HB : Hid (Below w.heap.size w w4) := box_below hb'
            have HN : Hid (∀ x, ¬ IsDir ltS x xs) := HN0.out
            clear hb' hb14 hno hfl
            go_wp2
            (try simp only [Exit.inBlock, Exit.then])
            refine bodyPost_ret (v := .tuple #[.agg #[.int .i64 0, .slice none 0 0], .iface tx vx]) ?_ rfl ?_
            · rw [results_cell_tmp rfl]
              go_simp
            · exact .inr ⟨_, HN.out, rfl, HFL.out, by first | exact set2_below HB.out (by omega) _ _ | exact below_alloc _ _⟩
    · have HFL : Hid (Faults ev 8) := hfl
      obtain ⟨tx, vx, rfl⟩ := hfl.iface
      have HN0 : Hid (∀ x, ¬ IsDir ltS x xs) := fun x h => by obtain ⟨i, hi, hh⟩ := hno; exact hh (isDir_ok h hi)
      have hb' : Below (w.heap.size + 1) (w.alloc (.cells #[.int .i64 0, .slice none 0 0] 142)) w1 := hb1.mono (by simp)
      obtain ⟨c0, c1⟩ := box2 hb'
      obtain ⟨f0, f1⟩ := box2f hb'
      have HB : Hid (Below w.heap.size w w1) := box_below hb'
      have HN : Hid (∀ x, ¬ IsDir ltS x xs) := HN0.out
      clear hb' hb1 hfl hno hjo
      go_wp2
      (try simp only [Exit.inBlock, Exit.then])
      refine bodyPost_ret (v := .tuple #[.agg #[.int .i64 0, .slice none 0 0], .iface tx vx]) ?_ rfl ?_
      · rw [results_cell_tmp rfl]
        go_simp
      · exact .inr ⟨_, HN.out, rfl, HFL.out, by first | exact set2_below HB.out (by omega) _ _ | exact below_alloc _ _⟩
  · have hne : ((xs.length : Int) != 1024) = true := by simp; omega
    have HN0 : Hid (∀ x, ¬ IsDir ltS x xs) := fun x h => hlen (isDir_len h)
    clear hlen hb hb1 hL
    go_enter Tryz.func133, Tryz.ntmps133
    go_wp2
    (try simp only [Exit.inBlock, Exit.then])
    refine bodyPost_ret (v := .tuple #[.agg #[.int .i64 0, .slice none 0 0], .iface 124 (.agg #[.string ⟨#[108, 101, 110, 103, 116, 104]⟩, .iface 25 (.int .i64 8)])]) ?_ rfl ?_
    · rw [results_cell_tmp rfl]
      go_simp
    · exact .inr ⟨_, HN0.out, rfl, Faults.one _ _, below_alloc _ _⟩
theorem o1 (w : World) {a b : Addr} (v : Value) (h : a ≠ b) : (w.setCell a v).cell? b = w.cell? b := World.cell?_setCell_other _ _ _ _ h
theorem o2 {w : World} {a : Addr} {v u : Value} (h : w.cell? a = some u) : (w.setCell a v).cell? a = some v := World.cell?_setCell_same _ _ _ h
theorem ab_ne {a b i j : Nat} (h : a ≠ b) : (⟨a, i, none⟩ : Addr) ≠ ⟨b, j, none⟩ := fun e => h (by cases e; rfl)
theorem ij_ne {a i j : Nat} (h : i ≠ j) : (⟨a, i, none⟩ : Addr) ≠ ⟨a, j, none⟩ := fun e => h (by cases e; rfl)
end Go.Proofs.YtghcmllmbpoidaaGreatDoor
namespace Go.Proofs.YtghcmllmbpoidaaGreatDoor
open Go.RowKit Go.WideShapes Go.ChangeShapes Go.Deep Go.Joins Rm
theorem wrote_bytes {x : DirV} {n : Int} {b : List Nat} (h : Wrote x n b) : ∀ c ∈ b, c < 256 := by
  cases h with
  | many => intro c hc; simp at hc
  | bad => intro c hc; simp at hc
  | long => intro c hc; simp at hc
  | ok h1 h2 =>
    intro c hc
    unfold bytesN sectsN at hc
    obtain ⟨i, hi, hc⟩ := List.mem_flatMap.1 hc
    have hi8 := List.mem_range.1 hi
    have := h1.lo
    have := h1.hi
    unfold sectN at hc
    simp only [List.mem_append, List.mem_singleton] at hc
    rcases hc with (hc | hc) | hc
    · exact putN_bytes _ (by omega) c hc
    · omega
    · exact pad_bytes (insideN_bytes _) c (List.mem_of_mem_drop (List.mem_of_mem_take hc))
theorem May.fin {x : DirV} (h : May ltS x) : ∀ f ∈ x.files, wf64 f.size ∧ Wf f.pcs := by
  obtain ⟨_, _, hg⟩ := errK_zero h.pcs
  intro f hf
  refine ⟨?_, fun p hp => ?_⟩
  · have := h.told.size f hf
    unfold wf64
    omega
  · have := hg.wn p (mem_allPcs hf hp)
    unfold Wn at this
    omega
end Go.Proofs.YtghcmllmbpoidaaGreatDoor
