/-
  Contract of read.
-/
import Derived.Test.YtglcpfnpbcnejaaGreatDoorJ13
namespace Go.Proofs.YtglcpfnpbcnejaaGreatDoor
open Go.RowKit Go.WideShapes Rm

theorem RowT.keep {w w' : World} {v : Value} {xs : List Nat} (h : RowT w v xs) (hk : ∀ (b : Nat) (C : Array Value) (fr : Nat × Nat), w.heap[b]? = some (.cells C 5 fr) → w'.heap[b]? = w.heap[b]?) : RowT w' v xs := by
  obtain ⟨p, c, h1, h2, h3⟩ := h.row.lies
  refine ⟨⟨p, c, h1, ⟨fun hp => ?_, h2.2⟩, h3⟩, fun hp => ?_⟩
  · obtain ⟨b, o, rfl, hc⟩ := h2.1 hp
    obtain ⟨b', o', n', c', C, fr, e, hb⟩ := h.blk hp
    rw [h1] at e
    simp only [Value.slice.injEq, Option.some.injEq, Addr.mk.injEq, and_true] at e
    obtain ⟨⟨rfl, rfl⟩, _, _⟩ := e
    exact ⟨b, o, rfl, fun i hi => (World.cell?_of_block (hk b C fr hb)).trans (hc i hi)⟩
  · obtain ⟨b', o', n', c', C, fr, e, hb⟩ := h.blk hp
    exact ⟨b', o', n', c', C, fr, e, (hk b' C fr hb).trans hb⟩
theorem set3_at (w : World) (B b : Nat) (x y z : Value) (h : b ≠ B) : (((w.setCell ⟨B, 0, none⟩ x).setCell ⟨B, 1, none⟩ y).setCell ⟨B, 2, none⟩ z).heap[b]? = w.heap[b]? := by
  rw [Below.heap_setCell _ _ _ _ h, Below.heap_setCell _ _ _ _ h, Below.heap_setCell _ _ _ _ h]
theorem RowT.set3 {w : World} {v : Value} {xs : List Nat} {B : Nat} {C : Array Value} {t : TypeId} {fr : Nat × Nat} (h : RowT w v xs) (hB : w.heap[B]? = some (.cells C t fr)) (ht : t ≠ 5) (x y z : Value) : RowT (((w.setCell ⟨B, 0, none⟩ x).setCell ⟨B, 1, none⟩ y).setCell ⟨B, 2, none⟩ z) v xs := by
  refine h.keep fun b C' fr' hb => set3_at w B b x y z ?_
  rintro rfl
  rw [hB] at hb
  simp only [Option.some.injEq, Obj.cells.injEq] at hb
  exact ht hb.2.1
theorem set3_below4 {base B : Nat} {w0 w : World} (h : Below base w0 w) (hB : base ≤ B) (a b c : Value) : Below base w0 (((w.setCell ⟨B, 0, none⟩ a).setCell ⟨B, 1, none⟩ b).setCell ⟨B, 2, none⟩ c) :=
  ((h.setCell (p := ⟨B, 0, none⟩) hB a).setCell (p := ⟨B, 1, none⟩) hB b).setCell (p := ⟨B, 2, none⟩) hB c
theorem set3_pown {w : World} {base B : Nat} {v : Value} {l : Pcs} (h : POwn w base v l) (hne : v.ownBlock ≠ some B) (x y z : Value) : POwn (((w.setCell ⟨B, 0, none⟩ x).setCell ⟨B, 1, none⟩ y).setCell ⟨B, 2, none⟩ z) base v l := by
  refine World.ownsRow.kept (row := some B) h ⟨rfl, rfl, rfl, by simp [World.setCell], fun k hk hne => ?_⟩ (by cases hv : v.ownBlock with | none => exact .inl rfl | some g => exact .inr (by rw [← hv]; exact hne))
  exact set3_at w B k x y z (fun e => hne (by rw [e]))
theorem box3f {w wr : World} {a b c : Value} {t : TypeId} (h : Below (w.heap.size + 1) (w.alloc (.cells #[a, b, c] t)) wr) :
    wr.frozen? ⟨w.heap.size, 0, none⟩ = false ∧ wr.frozen? ⟨w.heap.size, 1, none⟩ = false ∧ wr.frozen? ⟨w.heap.size, 2, none⟩ = false ∧ wr.heap[w.heap.size]? = some (.cells #[a, b, c] t (0, 0)) := by
  refine ⟨?_, ?_, ?_, (h.block _ (by omega)).trans (heap_alloc_new w _)⟩ <;> (rw [h.frozen (by simp)]; simp)
/-- What cutFile answers. -/
def FilePost (w : World) (o : Option (FileV × List Nat)) (e : Ending) (w' : World) : Prop := match o with
  | none => ∃ ev, e = .returned (.tuple #[.agg #[.string ByteArray.empty, .int .i64 0, .slice none 0 0], .slice none 0 0, ev]) ∧ Faults ev 8 ∧ Below w.heap.size w w'
  | some (f, r) => ∃ pv v', e = .returned (.tuple #[.agg #[.string f.name, .int .i64 f.size, pv], v', .nilIface]) ∧ POwn w' w.heap.size pv f.pcs ∧ RowT w' v' r ∧ Below w.heap.size w w'
def BP : Bnds := ⟨524288, 524288, 524288, 524288, 524288⟩
theorem cutFile_cases (xs : List Nat) : (cutText xs = none ∧ cutFile BP xs = none) ∨ (∃ s r, cutText xs = some (s, r) ∧ cutNum 524288 r = none ∧ cutFile BP xs = none) ∨ (∃ s r n r1, cutText xs = some (s, r) ∧ cutNum 524288 r = some (n, r1) ∧ cutL (cutPiece 524288 524288) r1 = none ∧ cutFile BP xs = none)
    ∨ ∃ s r n r1 l r2, cutText xs = some (s, r) ∧ cutNum 524288 r = some (n, r1) ∧ cutL (cutPiece 524288 524288) r1 = some (l, r2) ∧ cutFile BP xs = some (⟨s, n, l⟩, r2) := by
  cases h : cutText xs with
  | none => exact .inl ⟨rfl, by unfold cutFile; rw [h]⟩
  | some sr =>
    obtain ⟨s, r⟩ := sr
    cases h2 : cutNum 524288 r with
    | none => exact .inr (.inl ⟨s, r, rfl, h2, by unfold cutFile; rw [h]; simp [BP, h2]⟩)
    | some nr =>
      obtain ⟨n, r1⟩ := nr
      have he : cutFile BP xs = (match cutL (cutPiece 524288 524288) r1 with | none => none | some (l, r) => some (⟨s, n, l⟩, r)) := by
        unfold cutFile cutL
        rw [h]
        simp only [BP, h2]
        cases cutNum 524288 r1 with
        | none => rfl
        | some kr => rfl
      cases h3 : cutL (cutPiece 524288 524288) r1 with
      | none => exact .inr (.inr (.inl ⟨s, r, n, r1, rfl, h2, h3, by rw [he, h3]⟩))
      | some lr =>
        obtain ⟨l, r2⟩ := lr
        exact .inr (.inr (.inr ⟨s, r, n, r1, l, r2, rfl, h2, h3, by rw [he, h3]⟩))
theorem cutText_none {xs : List Nat} (h : cutText xs = none) : readN xs = none ∨ ∃ n k, readN xs = some (n, k) ∧ xs.length < k + n := by
  unfold cutText at h
  split at h
  · exact .inl (by assumption)
  · rename_i n k e
    split at h
    · exact .inr ⟨n, k, e, by assumption⟩
    · cases h
theorem cutText_some {xs r : List Nat} {s : ByteArray} (h : cutText xs = some (s, r)) : ∃ n k, readN xs = some (n, k) ∧ k + n ≤ xs.length ∧ s = strOf ((xs.drop k).take n) ∧ r = xs.drop (k + n) := by
  unfold cutText at h
  split at h
  · cases h
  · rename_i n k e
    split at h
    · cases h
    · simp only [Option.some.injEq, Prod.mk.injEq] at h
      exact ⟨n, k, e, by omega, h.1.symm, h.2.symm⟩
theorem cut4_none (v : Value) (xs : List Nat) (w : World) (hv : RowT w v xs) (h : cutText xs = none) :
    Calls Tryz.prog 150 #[v] w fun e w' => e = .returned (.tuple #[.string ByteArray.empty, .slice none 0 0, .int .i64 8]) ∧ w' = w := by
  obtain ⟨p, c, rfl, hb, hlc, hcm, _⟩ := hv.row.lies
  rcases cutText_none h with h1 | ⟨n, k, h1, h2⟩
  · exact cut_none p c xs w hb (by omega) h1
  · exact cut_long p c xs w hb (by omega) n k h1 h2
theorem cut4_some (v : Value) (xs r : List Nat) (s : ByteArray) (w : World) (hv : RowT w v xs) (hx : xs.length ≤ 100000) (h : cutText xs = some (s, r)) :
    Calls Tryz.prog 150 #[v] w fun e w' => ∃ v', e = .returned (.tuple #[.string s, v', .int .i64 0]) ∧ RowT w' v' r ∧ Below w.heap.size w w' := by
  obtain ⟨p, c, rfl, hb, hlc, hcm, _⟩ := hv.row.lies
  obtain ⟨n, k, h1, h2, rfl, rfl⟩ := cutText_some h
  refine (cut_ok p c xs w hb hx hlc n k h1 h2).mono ?_
  rintro e w' ⟨v', rfl, ho, hb'⟩
  exact ⟨v', rfl, own_rowT ho (fun x hx => hb.2 x (List.mem_of_mem_drop hx)), hb'⟩

set_option maxHeartbeats 2000000 in
theorem cutFile_any (v : Value) (xs : List Nat) (w : World) (hL : Laid w) (hv : RowT w v xs) (hx : xs.length ≤ 100000) (r : Option (FileV × List Nat)) (hr : cutFile BP xs = r) :
    Calls Tryz.prog 127 #[v] w fun e w' => FilePost w r e w' := by
  have hv1 := hv.below (below_alloc w (.cells #[.string ByteArray.empty, .int .i64 0, .slice none 0 0] 51))
  have hL1 := hL.below (below_alloc w (.cells #[.string ByteArray.empty, .int .i64 0, .slice none 0 0] 51))
  clear hv hL
  rcases cutFile_cases xs with ⟨h1, h2⟩ | ⟨s, r1, h1, h2, h3⟩ | ⟨s, r1, n, r2, h1, h2, h3, h4⟩ | ⟨s, r1, n, r2, l, r3, h1, h2, h3, h4⟩
  · rw [h2] at hr
    subst hr
    have hc := cut4_none v xs _ hv1 h1
    go_enter Tryz.func127, Tryz.ntmps127
    go_wp2_with fail
    refine hc.mono ?_
    rintro e w1 ⟨rfl, rfl⟩
    have hb' : Below (w.heap.size + 1) (w.alloc (.cells #[.string ByteArray.empty, .int .i64 0, .slice none 0 0] 51)) (w.alloc (.cells #[.string ByteArray.empty, .int .i64 0, .slice none 0 0] 51)) := Below.refl _ _
    obtain ⟨c0, c1, c2⟩ := box3 hb'
    obtain ⟨f0, f1, f2, _⟩ := box3f hb'
    have HB : Hid (Below w.heap.size w (w.alloc (.cells #[.string ByteArray.empty, .int .i64 0, .slice none 0 0] 51))) := box_below hb'
    clear hb' hc
    go_wp2
    (try simp only [Exit.inBlock, Exit.then])
    refine bodyPost_ret (v := .tuple #[.agg #[.string ByteArray.empty, .int .i64 0, .slice none 0 0], .slice none 0 0, .iface 120 (.agg #[.string ⟨#[110, 97, 109, 101]⟩, .iface 26 (.int .i64 8)])]) ?_ rfl ?_
    · rw [results_cell_tmp2 rfl]
      go_simp
      rfl
    · exact ⟨_, rfl, Faults.one _ _, by first | exact set3_below4 HB.out (by omega) _ _ _ | exact below_alloc _ _⟩
  · rw [h3] at hr
    subst hr
    have hc := cut4_some v xs r1 s _ hv1 hx h1
    go_enter Tryz.func127, Tryz.ntmps127
    go_wp2_with fail
    refine hc.mono ?_
    rintro e w1 ⟨v1, rfl, hr1, hb1⟩
    have hs1 := hb1.size
    simp at hs1
    clear hc
    have hc2 := cutNumber_none v1 r1 w1 hr1 h2
    go_wp2_with fail
    refine hc2.mono ?_
    rintro e w2 ⟨ev, rfl, hfl, hb2⟩
    have HFL : Hid (Faults ev 8) := hfl
    obtain ⟨tx, vx, rfl⟩ := hfl.iface
    have hb' : Below (w.heap.size + 1) (w.alloc (.cells #[.string ByteArray.empty, .int .i64 0, .slice none 0 0] 51)) w2 := (hb1.mono (by simp)).trans (hb2.mono (by omega))
    obtain ⟨c0, c1, c2⟩ := box3 hb'
    obtain ⟨f0, f1, f2, _⟩ := box3f hb'
    have HB : Hid (Below w.heap.size w w2) := box_below hb'
    clear hb' hb1 hb2 hfl hc2 hr1
    go_wp2
    (try simp only [Exit.inBlock, Exit.then])
    refine bodyPost_ret (v := .tuple #[.agg #[.string ByteArray.empty, .int .i64 0, .slice none 0 0], .slice none 0 0, .iface 120 (.agg #[.string ⟨#[115, 105, 122, 101]⟩, .iface tx vx])]) ?_ rfl ?_
    · rw [results_cell_tmp2 rfl]
      go_simp
      rfl
    · exact ⟨_, rfl, .more _ HFL.out, by first | exact set3_below4 HB.out (by omega) _ _ _ | exact below_alloc _ _⟩
  · rw [h4] at hr
    subst hr
    have hc := cut4_some v xs r1 s _ hv1 hx h1
    go_enter Tryz.func127, Tryz.ntmps127
    go_wp2_with fail
    refine hc.mono ?_
    rintro e w1 ⟨v1, rfl, hr1, hb1⟩
    have hs1 := hb1.size
    simp at hs1
    clear hc
    have hc2 := cutNumber_some v1 r1 r2 n w1 hr1 h2
    go_wp2_with fail
    refine hc2.mono ?_
    rintro e w2 ⟨v2, rfl, hr2, hb2⟩
    have hs2 := hb2.size
    have hb12 : Below (w.heap.size + 1) (w.alloc (.cells #[.string ByteArray.empty, .int .i64 0, .slice none 0 0] 51)) w2 := (hb1.mono (by simp)).trans (hb2.mono (by omega))
    have hrow2 := (hr2 _ hr1).below hb2
    have hL2 := hL1.below ((hb1.mono (by simp)).trans (hb2.mono (by simp; omega)) : Below (w.alloc (.cells #[.string ByteArray.empty, .int .i64 0, .slice none 0 0] 51)).heap.size (w.alloc (.cells #[.string ByteArray.empty, .int .i64 0, .slice none 0 0] 51)) w2)
    clear hc2 hr2 hr1
    have hc3 := cutPcs_any v2 r2 w2 hL2 hrow2 none h3
    go_wp2_with fail
    refine hc3.mono ?_
    rintro e w3 ⟨ev, rfl, hfl, hb3⟩
    have HFL : Hid (Faults ev 8) := hfl
    obtain ⟨tx, vx, rfl⟩ := hfl.iface
    have hb' : Below (w.heap.size + 1) (w.alloc (.cells #[.string ByteArray.empty, .int .i64 0, .slice none 0 0] 51)) w3 := hb12.trans (hb3.mono (by omega))
    obtain ⟨c0, c1, c2⟩ := box3 hb'
    obtain ⟨f0, f1, f2, _⟩ := box3f hb'
    have HB : Hid (Below w.heap.size w w3) := box_below hb'
    clear hb' hb1 hb2 hb3 hb12 hfl hc3 hrow2 hL2
    go_wp2
    (try simp only [Exit.inBlock, Exit.then])
    refine bodyPost_ret (v := .tuple #[.agg #[.string ByteArray.empty, .int .i64 0, .slice none 0 0], .slice none 0 0, .iface 120 (.agg #[.string ⟨#[112, 105, 101, 99, 101, 115]⟩, .iface tx vx])]) ?_ rfl ?_
    · rw [results_cell_tmp2 rfl]
      go_simp
      rfl
    · exact ⟨_, rfl, .more _ HFL.out, by first | exact set3_below4 HB.out (by omega) _ _ _ | exact below_alloc _ _⟩
  · rw [h4] at hr
    subst hr
    have hc := cut4_some v xs r1 s _ hv1 hx h1
    go_enter Tryz.func127, Tryz.ntmps127
    go_wp2_with fail
    refine hc.mono ?_
    rintro e w1 ⟨v1, rfl, hr1, hb1⟩
    have hs1 := hb1.size
    simp at hs1
    clear hc
    have hc2 := cutNumber_some v1 r1 r2 n w1 hr1 h2
    go_wp2_with fail
    refine hc2.mono ?_
    rintro e w2 ⟨v2, rfl, hr2, hb2⟩
    have hs2 := hb2.size
    have hb12 : Below (w.heap.size + 1) (w.alloc (.cells #[.string ByteArray.empty, .int .i64 0, .slice none 0 0] 51)) w2 := (hb1.mono (by simp)).trans (hb2.mono (by omega))
    have hrow2 := (hr2 _ hr1).below hb2
    have hL2 := hL1.below ((hb1.mono (by simp)).trans (hb2.mono (by simp; omega)) : Below (w.alloc (.cells #[.string ByteArray.empty, .int .i64 0, .slice none 0 0] 51)).heap.size (w.alloc (.cells #[.string ByteArray.empty, .int .i64 0, .slice none 0 0] 51)) w2)
    clear hc2 hr2 hr1
    have hc3 := cutPcs_any v2 r2 w2 hL2 hrow2 (some (l, r3)) h3
    go_wp2_with fail
    refine hc3.mono ?_
    rintro e w3 ⟨lv, v3, rfl, ho3, hcy, hb3⟩
    have hs3 := hb3.size
    have hb' : Below (w.heap.size + 1) (w.alloc (.cells #[.string ByteArray.empty, .int .i64 0, .slice none 0 0] 51)) w3 := hb12.trans (hb3.mono (by omega))
    obtain ⟨c0, c1, c2⟩ := box3 hb'
    obtain ⟨f0, f1, f2, hB⟩ := box3f hb'
    have HB : Hid (Below w.heap.size w w3) := box_below hb'
    have HR : Hid (RowT w3 v3 r3) := (hcy _ hrow2).below hb3
    have HO : Hid (POwn w3 w2.heap.size lv l) := ho3
    have HBL : Hid (w3.heap[w.heap.size]? = some (.cells #[.string ByteArray.empty, .int .i64 0, .slice none 0 0] 51 (0, 0))) := hB
    obtain ⟨q3, m3, rfl, _⟩ := ho3.form
    clear hb' hb1 hb2 hb3 hb12 hc3 hrow2 hL2 ho3 hcy hB
    go_wp2
    (try simp only [Exit.inBlock, Exit.then])
    refine bodyPost_ret (v := .tuple #[.agg #[.string s, .int .i64 n, .slice q3 l.length m3], v3, .nilIface]) ?_ rfl ?_
    · rw [results_cell_tmp2 rfl]
      go_simp
    · exact ⟨_, _, rfl, set3_pown (HO.out.mono (by omega)) (fun e => by have := (HO.out.lt _ e).1; omega) _ _ _, HR.out.set3 HBL.out (by decide) _ _ _, set3_below4 HB.out (by omega) _ _ _⟩
end Go.Proofs.YtglcpfnpbcnejaaGreatDoor
namespace Go.Proofs.YtglcpfnpbcnejaaGreatDoor
open Go.RowKit Go.WideShapes Rm

abbrev FPs := List (FileV × Value)
def cellsF (ls : FPs) : List Value := ls.flatMap fun x => [.string x.1.name, .int .i64 x.1.size, x.2]
theorem cellsF_len (l : FPs) : (cellsF l).length = l.length * 3 := by
  induction l with
  | nil => rfl
  | cons p l ih => simp only [cellsF, List.flatMap_cons, List.length_append, List.length_cons] at *; simp at *; omega
theorem cellsF_app (l m : FPs) : cellsF (l ++ m) = cellsF l ++ cellsF m := by simp [cellsF]
theorem cellsF_at : ∀ (l : FPs) (i : Nat) (x : FileV × Value), l[i]? = some x → (cellsF l)[i * 3]? = some (.string x.1.name) ∧ (cellsF l)[i * 3 + 1]? = some (.int .i64 x.1.size) ∧ (cellsF l)[i * 3 + 2]? = some x.2
  | y :: l, 0, x, h => by
    simp at h
    subst h
    exact ⟨rfl, rfl, rfl⟩
  | y :: l, i + 1, x, h => by
    have := cellsF_at l i x (by simpa using h)
    rw [show (i + 1) * 3 = i * 3 + 1 + 1 + 1 from by omega]
    simpa [cellsF] using this
  | [], _, _, h => by simp at h
structure FOwn (w : World) (base : Nat) (v : Value) (ls : FPs) : Prop where
  row : w.ownsRow base 51 3 v ls.length (cellsF ls)
  pcs : ∀ x ∈ ls, POwn w base x.2 x.1.pcs
theorem info_file : (Tryz.prog.info? 51).map (fun i => (i.zero, i.size, i.bytes)) = some (some (.agg #[.string ⟨#[]⟩, .int .i64 0, .slice none 0 0]), 3, 48) := by kernel_rfl
theorem fown_nil (w : World) (base : Nat) : FOwn w base (.slice none 0 0) [] := ⟨World.ownsRow_nil _ _ _ _, fun x hx => by simp at hx⟩
theorem FOwn.below {w w' : World} {base : Nat} {v : Value} {ls : FPs} (h : FOwn w base v ls) (hb : Below w.heap.size w w') : FOwn w' base v ls := ⟨own_below h.row hb, fun x hx => (h.pcs x hx).below hb⟩
theorem FOwn.mono {w : World} {base base' : Nat} {v : Value} {ls : FPs} (h : FOwn w base v ls) (hb : base' ≤ base) : FOwn w base' v ls := ⟨own_mono h.row hb, fun x hx => (h.pcs x hx).mono hb⟩
theorem own_blk {w : World} {base n s g : Nat} {e : TypeId} {v : Value} {xs : List Value} (h : w.ownsRow base e s v n xs) (hg : v.ownBlock = some g) : ∃ C, w.heap[g]? = some (.cells C e (0, 0)) := by
  rcases h.2 with ⟨hv, _⟩ | ⟨g', cap, cur, hv, _, hb, _⟩
  · rw [hv] at hg; cases hg
  · rw [hv] at hg
    simp only [Value.ownBlock, Option.some.injEq] at hg
    subst hg
    exact ⟨cur, hb⟩
theorem apart_own {w : World} {base base' n n' s s' : Nat} {e e' : TypeId} {v v' : Value} {xs xs' : List Value} (h : w.ownsRow base e s v n xs) (h' : w.ownsRow base' e' s' v' n' xs') (hne : e ≠ e') : v.ownBlock = none ∨ v.ownBlock ≠ v'.ownBlock := by
  cases hv : v.ownBlock with
  | none => exact .inl rfl
  | some g =>
    refine .inr fun e2 => hne ?_
    obtain ⟨C, h1⟩ := own_blk h hv
    obtain ⟨C', h2⟩ := own_blk h' e2.symm
    rw [h1] at h2
    simp only [Option.some.injEq, Obj.cells.injEq] at h2
    exact h2.2.1
theorem RowT.grown {w w' : World} {base n s : Nat} {e : TypeId} {v u : Value} {xs : List Value} {ys : List Nat} (h : RowT w u ys) (ho : w.ownsRow base e s v n xs) (hne : e ≠ 5) (hg : w.grownBy w' v.ownBlock) : RowT w' u ys := by
  refine h.keep fun b C fr hb => hg.block b (lt_heap hb) ?_
  intro e2
  obtain ⟨C', h2⟩ := own_blk ho e2.symm
  rw [hb] at h2
  simp only [Option.some.injEq, Obj.cells.injEq] at h2
  exact hne h2.2.1.symm
theorem run_append_file (w : World) (ty : TypeId) (base : Nat) (v : Value) (ls : FPs) (x : FileV × Value) (ad : Addr) (c : Nat) (hown : FOwn w base v ls) (hx : x.2.oneCell' = true) (hp : POwn w base x.2 x.1.pcs)
    (h0 : w.cell? (ad.add 0) = some (.string x.1.name)) (h1 : w.cell? (ad.add 1) = some (.int .i64 x.1.size)) (h2 : w.cell? (ad.add 2) = some x.2) (hlen : ls.length ≤ 1000000) (hbase : base ≤ w.heap.size) :
    ∃ v' w', (Builtin.append_ #[29, 29] ty #[v, .slice (some ad) 1 c]).run Tryz.prog w = .ok v' w' ∧ FOwn w' base v' (ls ++ [x]) ∧ w.grownBy w' v.ownBlock := by
  obtain ⟨i0, hi, hz0, hz1, hz2⟩ := info_parts' info_file
  have hcs : ∀ j u, (cellsF [x])[j]? = some u → w.cell? (ad.add j) = some u := by
    intro j u hu
    rcases j with _ | _ | _ | j
    · simp [cellsF] at hu; rw [h0, hu]
    · simp [cellsF] at hu; rw [h1, hu]
    · simp [cellsF] at hu; rw [h2, hu]
    · simp [cellsF] at hu
  have hone : ∀ u ∈ cellsF [x], u.oneCell' = true := by
    intro u hu
    simp [cellsF] at hu
    rcases hu with rfl | rfl | rfl
    · rfl
    · rfl
    · exact hx
  obtain ⟨v', w', g1, g2, g3, _⟩ := run_append_own (P := Tryz.prog) w base 29 ty 51 i0 _ 3 48 Tryz.underlying29 hi hz0 hz1 hz2 rfl (by decide) v ls.length (cellsF ls) hown.row ad 1 c (cellsF [x]) rfl hcs hone (by unfold maxLen; omega) (by omega) hbase
  refine ⟨v', w', g1, ⟨?_, fun y hy => ?_⟩, g3⟩
  · rw [cellsF_app, List.length_append]
    exact g2
  · have hy' : POwn w base y.2 y.1.pcs := by
      rcases List.mem_append.1 hy with h | h
      · exact hown.pcs y h
      · rw [List.mem_singleton.1 h]; exact hp
    exact hy'.kept g3 (apart_own hy' hown.row (by decide))
theorem wpList_append_file (w : World) {ops : Array Oper} {rest : List Oper} {o : Oper} {a : Act} {Q : Exit → Act → World → Prop} (hgd : o.guard = none) (s x : Operand)
    (ho : o.op = .call { callee := .builtin .append, args := #[s, x], argTypes := #[29, 29] }) (base : Nat) (v : Value) (ls : FPs) (y : FileV × Value) (ad : Addr) (c : Nat) (hs : a.eval s = v) (hx : a.eval x = .slice (some ad) 1 c)
    (hown : FOwn w base v ls) (h1c : y.2.oneCell' = true) (hp : POwn w base y.2 y.1.pcs) (h0 : w.cell? (ad.add 0) = some (.string y.1.name)) (h1 : w.cell? (ad.add 1) = some (.int .i64 y.1.size)) (h2 : w.cell? (ad.add 2) = some y.2) (hlen : ls.length ≤ 1000000) (hbase : base ≤ w.heap.size)
    (h : ∀ v' w', FOwn w' base v' (ls ++ [y]) → w.grownBy w' v.ownBlock → wpList Tryz.prog ops Q rest (a.put o.dst v') w') : wpList Tryz.prog ops Q (o :: rest) a w := by
  refine wpList_plain hgd fun K hK => ?_
  obtain ⟨v', w', hr, g2, g3⟩ := run_append_file w o.type base v ls y ad c hown h1c hp h0 h1 h2 hlen hbase
  unfold Oper.wp execOp
  simp only [ho, resolve, invoke, builtin, Sem.run_bind, Sem.run_pure, Result.andThen_ok, List.map_toArray, List.map_cons, List.map_nil, hs, hx, hr]
  exact hK _ _ (h v' w' g2 g3)
theorem set3_own {w : World} {base B n s : Nat} {e : TypeId} {v : Value} {xs : List Value} (h : w.ownsRow base e s v n xs) (hne : v.ownBlock ≠ some B) (x y z : Value) : (((w.setCell ⟨B, 0, none⟩ x).setCell ⟨B, 1, none⟩ y).setCell ⟨B, 2, none⟩ z).ownsRow base e s v n xs := by
  refine World.ownsRow.kept (row := some B) h ⟨rfl, rfl, rfl, by simp [World.setCell], fun k hk hne => ?_⟩ (by cases hv : v.ownBlock with | none => exact .inl rfl | some g => exact .inr (by rw [← hv]; exact hne))
  exact set3_at w B k x y z (fun e => hne (by rw [e]))
/-- A row of files that lies below the block B stays when B is written. -/
theorem FOwn.set3 {w w0 : World} {base B : Nat} {v : Value} {ls : FPs} (h : FOwn w base v ls) (h0 : FOwn w0 base v ls) (hB : w0.heap.size ≤ B) (x y z : Value) : FOwn (((w.setCell ⟨B, 0, none⟩ x).setCell ⟨B, 1, none⟩ y).setCell ⟨B, 2, none⟩ z) base v ls :=
  ⟨set3_own h.row (fun e => by have := (h0.row.lt _ e).2; omega) x y z, fun u hu => set3_pown (h.pcs u hu) (fun e => by have := ((h0.pcs u hu).lt _ e).2; omega) x y z⟩
theorem set3_cells {w : World} {B : Nat} {a b c x y z : Value} (c0 : w.cell? ⟨B, 0, none⟩ = some a) (c1 : w.cell? ⟨B, 1, none⟩ = some b) (c2 : w.cell? ⟨B, 2, none⟩ = some c) :
    (((w.setCell ⟨B, 0, none⟩ x).setCell ⟨B, 1, none⟩ y).setCell ⟨B, 2, none⟩ z).cell? ⟨B, 0, none⟩ = some x ∧ (((w.setCell ⟨B, 0, none⟩ x).setCell ⟨B, 1, none⟩ y).setCell ⟨B, 2, none⟩ z).cell? ⟨B, 1, none⟩ = some y ∧ (((w.setCell ⟨B, 0, none⟩ x).setCell ⟨B, 1, none⟩ y).setCell ⟨B, 2, none⟩ z).cell? ⟨B, 2, none⟩ = some z := by
  refine ⟨?_, ?_, ?_⟩
  · rw [World.cell?_setCell_other _ _ _ _ (by simp), World.cell?_setCell_other _ _ _ _ (by simp)]
    exact World.cell?_setCell_same _ _ _ c0
  · rw [World.cell?_setCell_other _ _ _ _ (by simp)]
    refine World.cell?_setCell_same _ _ _ (u := b) ?_
    rw [World.cell?_setCell_other _ _ _ _ (by simp)]
    exact c1
  · refine World.cell?_setCell_same _ _ _ (u := c) ?_
    rw [World.cell?_setCell_other _ _ _ _ (by simp), World.cell?_setCell_other _ _ _ _ (by simp)]
    exact c2
theorem new3 (w : World) (a b c : Value) (t : TypeId) (g : Nat) (hg : g = w.heap.size) : (w.alloc (.cells #[a, b, c] t)).cell? ((⟨g, 0, none⟩ : Addr).add 0) = some a ∧ (w.alloc (.cells #[a, b, c] t)).cell? ((⟨g, 0, none⟩ : Addr).add 1) = some b ∧ (w.alloc (.cells #[a, b, c] t)).cell? ((⟨g, 0, none⟩ : Addr).add 2) = some c := by
  subst hg
  have hh := heap_alloc_new w (.cells #[a, b, c] t)
  simp only [add_plain]
  exact ⟨cell_of_row _ _ _ _ _ _ hh, cell_of_row _ _ _ _ _ _ hh, cell_of_row _ _ _ _ _ _ hh⟩
def FilesPost (w : World) (o : Option (List FileV × List Nat)) (e : Ending) (w' : World) : Prop := match o with
  | none => ∃ ev, e = .returned (.tuple #[.slice none 0 0, .slice none 0 0, ev]) ∧ Faults ev 8 ∧ Below w.heap.size w w'
  | some (l, r) => ∃ ls lv v', ls.map Prod.fst = l ∧ e = .returned (.tuple #[lv, v', .nilIface]) ∧ FOwn w' w.heap.size lv ls ∧ RowT w' v' r ∧ Below w.heap.size w w'
theorem cutFile_short {xs r : List Nat} {f : FileV} (hb : Byt xs) (h : cutFile BP xs = some (f, r)) : r.length ≤ xs.length := by
  have := (cutFile_only hb h).1
  rw [this, List.length_append]
  omega
theorem RowT.byt {w : World} {v : Value} {xs : List Nat} (h : RowT w v xs) : Byt xs := by
  obtain ⟨_, _, _, hb, _⟩ := h.row.lies
  exact hb.2

set_option maxRecDepth 4000 in
set_option maxHeartbeats 2000000 in
theorem cutFiles_any (v : Value) (xs : List Nat) (w : World) (hL : Laid w) (hv : RowT w v xs) (hx : xs.length ≤ 100000) (r : Option (List FileV × List Nat)) (hr : cutL (cutFile BP) xs = r) :
    Calls Tryz.prog 126 #[v, .func (.func 127) #[] #[]] w fun e w' => FilesPost w r e w' := by
  cases h1 : cutNum 524288 xs with
  | none =>
    have hr' : r = none := by rw [← hr]; unfold cutL; rw [h1]
    subst hr'
    have hc := cutNumber_none v xs w hv h1
    go_enter Tryz.func126, Tryz.ntmps126
    go_wp2_with fail
    refine hc.mono ?_
    rintro e w1 ⟨ev, rfl, hfl, hb⟩
    have HFL : Hid (Faults ev 8) := hfl
    obtain ⟨tx, vx, rfl⟩ := hfl.iface
    clear hfl hc
    go_wp2
    go_ret3
    exact ⟨_, rfl, HFL.out, hb⟩
  | some nr =>
    obtain ⟨n, xs1⟩ := nr
    have hr' : manyGo (cutFile BP) n [] xs1 = r := by rw [← hr]; unfold cutL; rw [h1, ← manyGo_start]
    obtain ⟨hsp, hn⟩ := cutNum_only hv.byt h1
    have hx1 : xs1.length ≤ 100000 := by have := congrArg List.length hsp; rw [List.length_append] at this; omega
    have hc := cutNumber_some v xs xs1 n w hv h1
    have HL : Hid (Laid w) := hL
    have HV : Hid (RowT w v xs) := hv
    clear hr h1 hL hv hsp hx
    go_enter Tryz.func126, Tryz.ntmps126
    go_wp2_with fail
    refine hc.mono ?_
    rintro e w1 ⟨v1, rfl, hcy, hb⟩
    have HR1 : Hid (RowT w1 v1 xs1) := (hcy w HV.out).below hb
    have HB1 : Hid (Below w.heap.size w w1) := hb
    have hs1 := hb.size
    have HR0 : Hid _ := hr'
    clear hc hcy hb hr'
    go_wp2
    go_loopw [0, 8, 9, 22] (fun bv ev m i wr => ∃ k ls rest, k ≤ n ∧ i = .int .i64 (k : Nat) ∧ ev = .nilIface ∧ FOwn wr w.heap.size m ls ∧ ls.length = k ∧ RowT wr bv rest ∧ rest.length ≤ 100000 ∧ manyGo (cutFile BP) (n - k) (ls.map Prod.fst) rest = r ∧ Below w.heap.size w wr) (fun _ _ _ i _ => n - (intOf i).toNat)
    case atStart => exact ⟨0, [], xs1, by omega, rfl, rfl, fown_nil _ _, rfl, HR1.out, hx1, HR0.out, HB1.out⟩
    case round =>
      obtain ⟨k, ls, rest, hk, rfl, rfl, hown, hdl, hrow, hrl, hmg, hbel⟩ := hrel
      clear HR0 HB1 HR1
      have hsz := hbel.size
      have HB : Hid (Below w.heap.size w wr) := hbel
      have HO : Hid (FOwn wr w.heap.size _ ls) := hown
      have HR : Hid (RowT wr _ rest) := hrow
      by_cases hkn : k < n
      · have hpc := cutFile_any _ rest _ (HL.out.below (hbel.alloc hsz (.cells #[.string ⟨#[]⟩, .int .i64 0, .slice none 0 0] 51))) (hrow.below (below_alloc wr (.cells #[.string ⟨#[]⟩, .int .i64 0, .slice none 0 0] 51))) hrl
        obtain ⟨j, hj⟩ : ∃ j, n - k = j + 1 := ⟨n - k - 1, by omega⟩
        rw [hj] at hmg
        have hbyt := hrow.byt
        clear hown hrow hbel
        cases h2 : cutFile BP rest with
        | none =>
          rw [manyGo_none h2] at hmg
          subst hmg
          have hpc2 := hpc none h2
          clear hpc h2 HR HO
          go_wp2_with fail
          refine hpc2.mono ?_
          rintro e w2 ⟨ev, rfl, hfl, hb2⟩
          have HFL : Hid (Faults ev 8) := hfl
          obtain ⟨tx, vx, rfl⟩ := hfl.iface
          have hs2 := hb2.size
          simp at hs2
          have hb' : Below (wr.heap.size + 1) (wr.alloc (.cells #[.string ⟨#[]⟩, .int .i64 0, .slice none 0 0] 51)) w2 := hb2.mono (by simp)
          obtain ⟨c0, c1, c2⟩ := box3 hb'
          obtain ⟨f0, f1, f2, _⟩ := box3f hb'
          have HB2 : Hid (Below w.heap.size w w2) := HB.out.trans ((box_below hb').mono hsz)
          clear hfl hb2 hb' hpc2
          go_wp2_with (go_at_call 148; refine (itoa_any k (by omega) _ (HL.out.below (set3_below4 HB2.out (by omega) _ _ _))).mono ?_; rintro e w3 ⟨st, rfl, hb3⟩)
          go_ret3
          have h5 := set3_below4 HB2.out (B := wr.heap.size) (by omega) (.string ByteArray.empty) (.int .i64 0) (.slice none 0 0)
          exact ⟨_, rfl, .more _ HFL.out, h5.trans (hb3.mono h5.size)⟩
        | some pr =>
          obtain ⟨f, rest'⟩ := pr
          rw [manyGo_some h2] at hmg
          have HMG : Hid (manyGo (cutFile BP) j (ls.map Prod.fst ++ [f]) rest' = r) := hmg
          have hsh := cutFile_short hbyt h2
          have hpc2 := hpc (some (f, rest')) h2
          obtain ⟨nm, sz, pl⟩ := f
          clear hpc hmg HR hbyt
          go_wp2_with fail
          refine hpc2.mono ?_
          rintro e w2 ⟨pv, v2, rfl, hpo, hro, hb2⟩
          have hs2 := hb2.size
          simp at hs2
          have hb' : Below (wr.heap.size + 1) (wr.alloc (.cells #[.string ⟨#[]⟩, .int .i64 0, .slice none 0 0] 51)) w2 := hb2.mono (by simp)
          obtain ⟨c0, c1, c2⟩ := box3 hb'
          obtain ⟨f0, f1, f2, hBL⟩ := box3f hb'
          have HB2 : Hid (Below w.heap.size w w2) := HB.out.trans ((box_below hb').mono hsz)
          simp only at hpo
          obtain ⟨qp, mp, rfl, _⟩ := hpo.form
          have ho2 := FOwn.below HO.out (box_below hb')
          have HO3 : Hid (FOwn (((w2.setCell ⟨wr.heap.size, 0, none⟩ (.string nm)).setCell ⟨wr.heap.size, 1, none⟩ (.int .i64 sz)).setCell ⟨wr.heap.size, 2, none⟩ (.slice qp pl.length mp)) w.heap.size _ ls) := ho2.set3 HO.out (Nat.le_refl _) _ _ _
          have HP3 : Hid (POwn (((w2.setCell ⟨wr.heap.size, 0, none⟩ (.string nm)).setCell ⟨wr.heap.size, 1, none⟩ (.int .i64 sz)).setCell ⟨wr.heap.size, 2, none⟩ (.slice qp pl.length mp)) w.heap.size (.slice qp pl.length mp) pl) := (set3_pown hpo (fun e => by have := (hpo.lt _ e).1; simp at this; omega) _ _ _).mono (by simp; omega)
          have HR3 : Hid (RowT (((w2.setCell ⟨wr.heap.size, 0, none⟩ (.string nm)).setCell ⟨wr.heap.size, 1, none⟩ (.int .i64 sz)).setCell ⟨wr.heap.size, 2, none⟩ (.slice qp pl.length mp)) v2 rest') := hro.set3 hBL (by decide) _ _ _
          have HB3 : Hid (Below w.heap.size w (((w2.setCell ⟨wr.heap.size, 0, none⟩ (.string nm)).setCell ⟨wr.heap.size, 1, none⟩ (.int .i64 sz)).setCell ⟨wr.heap.size, 2, none⟩ (.slice qp pl.length mp))) := set3_below4 HB2.out (by omega) _ _ _
          have hW : (((w2.setCell ⟨wr.heap.size, 0, none⟩ (.string nm)).setCell ⟨wr.heap.size, 1, none⟩ (.int .i64 sz)).setCell ⟨wr.heap.size, 2, none⟩ (.slice qp pl.length mp)).heap.size = w2.heap.size := by simp [World.setCell]
          clear hb2 hb' hpc2 ho2 HO HB hpo hro hBL
          obtain ⟨d0, d1, d2⟩ := set3_cells (x := .string nm) (y := .int .i64 sz) (z := .slice qp pl.length mp) c0 c1 c2
          have hnew := new3 (((w2.setCell ⟨wr.heap.size, 0, none⟩ (.string nm)).setCell ⟨wr.heap.size, 1, none⟩ (.int .i64 sz)).setCell ⟨wr.heap.size, 2, none⟩ (.slice qp pl.length mp)) (.string nm) (.int .i64 sz) (.slice qp pl.length mp) 51 w2.heap.size hW.symm
          have HN : Hid _ := hnew
          clear hnew
          go_wp2_with (at_builtin; refine wpList_append_file _ rfl _ _ rfl w.heap.size _ ls (⟨nm, sz, pl⟩, .slice qp pl.length mp) ⟨w2.heap.size, 0, none⟩ _ rfl rfl (FOwn.below HO3.out (below_alloc _ _)) rfl (POwn.below HP3.out (below_alloc _ _)) HN.out.1 HN.out.2.1 HN.out.2.2 (by omega) (by simp; omega) ?_; intro v4 w4 ho4 hg4)
          have HB4 : Hid (Below w.heap.size w w4) := (HB3.out.alloc HB3.out.size _).grown hg4 (by simp; omega) (fun x hx => (HO3.out.row.lt x hx).1)
          have HR4 : Hid (RowT w4 v2 rest') := (HR3.out.below (below_alloc _ _)).grown (FOwn.below HO3.out (below_alloc _ _)).row (by decide) hg4
          go_roundw
          case rel => exact ⟨k + 1, ls ++ [(⟨nm, sz, pl⟩, .slice qp pl.length mp)], rest', by omega, by go_num, rfl, ho4, by simp; omega, HR4.out, by omega, by rw [show n - (k + 1) = j from by omega, List.map_append]; exact HMG.out, HB4.out⟩
          case measure => simp [intOf]; omega
      · obtain rfl : k = n := by omega
        rw [Nat.sub_self, manyGo_end] at hmg
        subst hmg
        clear hown hrow hbel
        go_wp2
        go_ret3
        exact ⟨_, _, _, rfl, rfl, HO.out, HR.out, HB.out⟩
end Go.Proofs.YtglcpfnpbcnejaaGreatDoor
namespace Go.Proofs.YtglcpfnpbcnejaaGreatDoor
open Go.RowKit Go.WideShapes Rm

theorem bin_take {w : World} {p : Option Addr} {xs : List Nat} (h : BIn w p xs) (n : Nat) : BIn w p (xs.take n) := by
  refine ⟨fun hp => ?_, fun c hc => h.2 c (List.mem_of_mem_take hc)⟩
  have hn : 0 < n ∧ 0 < xs.length := by rw [List.length_take] at hp; omega
  obtain ⟨b, o, e, hc⟩ := h.1 hn.2
  refine ⟨b, o, e, fun i hi => ?_⟩
  have hi' : i < n ∧ i < xs.length := by simp at hi; omega
  rw [hc i hi'.2]
  simp [List.getD, hi'.1]
set_option maxHeartbeats 1000000 in
theorem begins_any (p : Option Addr) (n c : Nat) (xs : List Nat) (w : World) (hb : BIn w p xs) (hn : n = xs.length) (hc : xs.length ≤ c) (h8 : 8 ≤ xs.length) :
    Calls Tryz.prog 112 #[.slice p n c] w fun e w' => e = .returned (.int .u64 (beg8 xs : Nat)) ∧ Below w.heap.size w w' := by
  subst hn
  have hb8 := bin_take hb 8
  rw [list8' h8] at hb8
  have hg := fun c' => get_ok p c' _ _ _ _ _ _ _ _ w hb8
  obtain ⟨b, o, rfl, _⟩ := hb.1 (by omega)
  clear hb hb8
  go_enter Tryz.func112, Tryz.ntmps112
  go_wp2_with fail
  refine (hg _).mono ?_
  rintro e w1 ⟨rfl, hb1⟩
  go_wp2
  go_ret
  exact ⟨rfl, hb1⟩
def SecOk (xs : List Nat) (i : Nat) : Prop := beg8 (secAt xs i) = beg8 xs ∧ (secAt xs i).getD 8 0 = i
theorem inner_snoc (xs : List Nat) (k : Nat) : innerN xs (k + 1) = innerN xs k ++ (secAt xs k).drop 9 := by
  unfold innerN
  rw [List.range_succ, List.flatMap_append]
  simp
theorem inner_le (xs : List Nat) (k : Nat) : (innerN xs k).length ≤ k * 128 := by
  unfold innerN
  have := flat_le (l := List.range k) (f := fun i => (secAt xs i).drop 9) (c := 128) (fun i _ => by unfold secAt; simp; omega)
  simpa using this
theorem sec_step {xs : List Nat} {k : Nat} (h : ∀ i, i < k → SecOk xs i) (h1 : SecOk xs k) : ∀ i, i < k + 1 → SecOk xs i := by
  intro i hi
  rcases Nat.lt_or_ge i k with h' | h'
  · exact h i h'
  · obtain rfl : i = k := by omega
    exact h1
/-- What joined answers. -/
def JoinPost (w : World) (xs : List Nat) (e : Ending) (w' : World) : Prop :=
  (∃ r, e = .returned (.tuple #[.int .i64 (wrap64 (beg8 xs : Nat)), r, .nilIface]) ∧ (∀ i, i < 8 → SecOk xs i) ∧ w'.ownsRow w.heap.size 5 1 r (innerN xs 8).length (Bs (innerN xs 8)) ∧ Below w.heap.size w w')
  ∨ (∃ ev, e = .returned (.tuple #[.int .i64 0, .slice none 0 0, ev]) ∧ Faults ev 8 ∧ (∃ i, i < 8 ∧ ¬ SecOk xs i) ∧ Below w.heap.size w w')
set_option maxRecDepth 4000 in
set_option maxHeartbeats 2000000 in
theorem joined_any (p : Option Addr) (c : Nat) (xs : List Nat) (w : World) (hb : BIn w p xs) (hlen : xs.length = 1024) (hc : xs.length ≤ c) (hcm : c ≤ maxLen) :
    Calls Tryz.prog 125 #[.slice p 1024 c] w fun e w' => JoinPost w xs e w' := by
  have hbg := begins_any p 1024 c xs w hb hlen.symm hc (by omega)
  obtain ⟨b, o, rfl, _⟩ := hb.1 (by omega)
  have HB : Hid (BIn w (some ⟨b, o, none⟩) xs) := hb
  have hglt := beg8_lt hb.2
  unfold maxLen at hcm
  clear hb
  generalize hG : beg8 xs = G at *
  go_enter Tryz.func125, Tryz.ntmps125
  go_wp2_with fail
  refine hbg.mono ?_
  rintro e w1 ⟨rfl, hb1⟩
  have S0 : St w [] w1 (.slice none 0 0) (innerN xs 0) := ⟨World.ownsRow_nil _ _ _ _, hb1, fun p hp => by simp at hp⟩
  clear hb1 hbg
  go_wp2
  go_loopw [5, 11] (fun m i wr => ∃ k : Nat, k ≤ 8 ∧ i = .int .i64 k ∧ (∀ i, i < k → SecOk xs i) ∧ St w [] wr m (innerN xs k)) (fun _ i _ => 8 - (intOf i).toNat)
  case atStart => exact ⟨0, by omega, rfl, fun i hi => absurd hi (by omega), S0⟩
  case round =>
    obtain ⟨k, hk, rfl, hok, hst⟩ := hrel
    clear S0
    have HS : Hid (St w [] wr _ (innerN xs k)) := hst
    have HK : Hid (∀ i, i < k → SecOk xs i) := hok
    have hbr := HB.out.below hst.bel
    clear hok
    by_cases hk8 : k < 8
    · have hsl : (secAt xs k).length = 128 := secAt_len hlen hk8
      have hsb : BIn wr (some ⟨b, o + k * 128, none⟩) (secAt xs k) := bin_part4 hbr (k * 128) 128 (by omega)
      have hbg2 := begins_any (some ⟨b, o + k * 128, none⟩) ((k + 1) * 128 - k * 128) (c - k * 128) (secAt xs k) wr hsb (by omega) (by omega) (by omega)
      have HSB : Hid (BIn wr (some ⟨b, o + k * 128, none⟩) (secAt xs k)) := hsb
      have hil := inner_le xs k
      have HIS : Hid _ := inner_snoc xs k
      have HNO : Hid (beg8 (secAt xs k) ≠ G → ∃ i, i < 8 ∧ ¬ SecOk xs i) := fun h => ⟨k, hk8, fun h2 => h (by rw [h2.1, hG])⟩
      have HNO2 : Hid ((secAt xs k).getD 8 0 ≠ k → ∃ i, i < 8 ∧ ¬ SecOk xs i) := fun h => ⟨k, hk8, fun h2 => h h2.2⟩
      have HYES : Hid (beg8 (secAt xs k) = G → (secAt xs k).getD 8 0 = k → ∀ i, i < k + 1 → SecOk xs i) := fun h1 h2 => sec_step HK.out ⟨by rw [h1, hG], h2⟩
      clear hst hbr hsb HK
      generalize secAt xs k = S at *
      go_wp2_with fail
      refine hbg2.mono ?_
      rintro e w2 ⟨rfl, hb2⟩
      have HS2 : Hid (St w [] w2 _ (innerN xs k)) := HS.out.call hb2
      have hsz2 := HS2.out.size
      have HSB2 : Hid (BIn w2 (some ⟨b, o + k * 128, none⟩) S) := HSB.out.below hb2
      have e8 : w2.cell? ⟨b, o + k * 128 + 8, none⟩ = some (.int .u8 (S.getD 8 0 : Nat)) := by
        obtain ⟨b', o', e, hcc⟩ := HSB2.out.1 (by omega)
        simp only [Option.some.injEq, Addr.mk.injEq, and_true] at e
        obtain ⟨rfl, rfl⟩ := e
        exact hcc 8 (by omega)
      have h8lt := getD_lt HSB2.out.2 8
      have HB2 : Hid (Below w.heap.size w w2) := HS2.out.bel
      clear hbg2 hb2 HS HSB
      generalize S.getD 8 0 = c8 at *
      by_cases g1 : beg8 S = G
      · have hne : ((beg8 S : Int) != (G : Int)) = false := by simp [g1]
        by_cases g2 : c8 = k
        · have hne2 : ((c8 : Int) != (k : Int)) = false := by simp [g2]
          have HY : Hid (∀ i, i < k + 1 → SecOk xs i) := HYES.out g1 g2
          have hbp : BIn w2 (some ⟨b, o + k * 128 + 9, none⟩) (S.drop 9) := by
            have := bin_part4 HSB2.out 9 119 (by omega)
            rwa [List.take_of_length_le (by simp; omega)] at this
          have HBP : Hid _ := hbp
          clear hbp g1 g2 HYES HNO HNO2
          generalize beg8 S = bs at *
          go_wp2_with (at_builtin; refine wpList_append_bytes _ rfl _ _ rfl w.heap.size _ _ (S.drop 9) (some ⟨b, o + k * 128 + 9, none⟩) _ _ rfl rfl (by rw [List.length_drop]; omega) HS2.out.own HBP.out (fun h => by cases h) (by rw [List.length_drop]; omega) hsz2 ?_; intro v3 w3 ho3 hg3; have S3 := HS2.out.app ho3 hg3)
          go_roundw
          case rel => exact ⟨k + 1, by omega, by go_num, HY.out, S3.eq HIS.out.symm⟩
          case measure => simp [intOf]; omega
        · have hne2 : ((c8 : Int) != (k : Int)) = true := by simp; omega
          have HN : Hid (∃ i, i < 8 ∧ ¬ SecOk xs i) := HNO2.out g2
          clear g1 g2 HYES HNO HNO2
          generalize beg8 S = bs at *
          go_wp2_with (go_at_call 148; refine (itoa_small k (by omega) _).mono ?_; rintro e w3 ⟨st, rfl, hst, rfl⟩)
          go_ret3
          exact .inr ⟨_, rfl, Faults.one _ _, HN.out, HB2.out⟩
      · have hne : ((beg8 S : Int) != (G : Int)) = true := by simp; omega
        have HN : Hid (∃ i, i < 8 ∧ ¬ SecOk xs i) := HNO.out g1
        clear g1 HYES HNO HNO2
        generalize beg8 S = bs at *
        go_wp2_with (go_at_call 148; refine (itoa_small k (by omega) _).mono ?_; rintro e w3 ⟨st, rfl, hst, rfl⟩)
        go_ret3
        exact .inr ⟨_, rfl, Faults.one _ _, HN.out, HB2.out⟩
    · obtain rfl : k = 8 := by omega
      clear hst hbr
      go_wp2
      go_ret3
      exact .inl ⟨_, by rw [hG]; rfl, HK.out, HS.out.own, HS.out.bel⟩

def IdxPost (xs : List Nat) (w : World) (e : Ending) (w' : World) : Prop := ((∃ k : Nat, e = .returned (.int .i64 k) ∧ ∃ x ∈ xs, x ≠ 0) ∧ w' = w) ∨ ((e = .returned (.int .i64 (-1)) ∧ ∀ x ∈ xs, x = 0) ∧ w' = w)
set_option maxHeartbeats 1000000 in
theorem index_nz (p : Option Addr) (n c : Nat) (xs : List Nat) (w : World) (hb : BIn w p xs) (hn : n = xs.length) (hc : xs.length ≤ c) (hcm : c ≤ maxLen) :
    Calls Tryz.prog 153 #[.slice p n c, .func (.func 129) #[] #[]] w fun e w' => IdxPost xs w e w' := by
  subst hn
  unfold maxLen at hcm
  go_enter Tryz.func153, Tryz.ntmps153
  go_wp2
  go_loop [8] (fun i => ∃ k : Nat, k ≤ xs.length ∧ i = .int .i64 k ∧ ∀ j, j < k → xs.getD j 0 = 0) (fun i => xs.length - (intOf i).toNat)
  case atStart => exact ⟨0, by omega, rfl, fun j hj => absurd hj (by omega)⟩
  case round =>
    obtain ⟨k, hk, rfl, hz⟩ := hrel
    have HZ : Hid (∀ j, j < k → xs.getD j 0 = 0) := hz
    clear hz
    by_cases hkl : k < xs.length
    · obtain ⟨b, o, rfl, hcc⟩ := hb.1 (by omega)
      have e1 := hcc k hkl
      have hlt := getD_lt hb.2 k
      have HM : Hid (xs.getD k 0 ≠ 0 → ∃ x ∈ xs, x ≠ 0) := fun h => ⟨_, getD_mem' hkl, h⟩
      have HS : Hid (xs.getD k 0 = 0 → ∀ j, j < k + 1 → xs.getD j 0 = 0) := fun h j hj => by
        rcases Nat.lt_or_ge j k with h' | h'
        · exact HZ.out j h'
        · obtain rfl : j = k := by omega
          exact h
      clear HZ hcc hb
      generalize xs.getD k 0 = y at *
      by_cases g : y = 0
      · have HS2 : Hid _ := HS.out g
        subst g
        clear HM HS
        go_wp2
        go_round
        case rel => exact ⟨k + 1, by omega, by go_num, HS2.out⟩
        case measure => simp [intOf]; omega
      · have HM2 : Hid _ := HM.out g
        have hne : ((y : Int) != 0) = true := by simp; omega
        clear HM HS g
        go_wp2
        go_ret
        exact .inl ⟨⟨k, rfl, HM2.out⟩, rfl⟩
    · obtain rfl : k = xs.length := by omega
      have HA : Hid (∀ x ∈ xs, x = 0) := by
        intro x hx
        obtain ⟨i, hi, rfl⟩ := List.getElem_of_mem hx
        have := HZ.out i hi
        rwa [getD_eq hi] at this
      clear HZ hb
      go_wp2
      go_ret
      exact .inr ⟨⟨rfl, HA.out⟩, rfl⟩
set_option maxHeartbeats 1000000 in
theorem contains_nz (v : Value) (xs : List Nat) (w : World) (hv : Row w v xs) (r : Bool) (hr : r = true ↔ ∃ x ∈ xs, x ≠ 0) :
    Calls Tryz.prog 128 #[v, .func (.func 129) #[] #[]] w fun e w' => e = .returned (.bool r) ∧ w' = w := by
  obtain ⟨p, c, rfl, hb, hlc, hcm, _⟩ := hv.lies
  have hi := index_nz p xs.length c xs w hb rfl hlc hcm
  have HR : Hid (r = true ↔ ∃ x ∈ xs, x ≠ 0) := hr
  clear hr hb
  go_enter Tryz.func128, Tryz.ntmps128
  go_wp2_with fail
  refine hi.mono ?_
  rintro e w1 (⟨⟨k, rfl, h⟩, rfl⟩ | ⟨⟨rfl, h⟩, rfl⟩)
  · have e1 : r = true := HR.out.2 h
    clear h
    go_wp2
    go_ret
    exact ⟨by rw [e1]; rfl, rfl⟩
  · have e1 : r = false := by
      cases r with
      | false => rfl
      | true => obtain ⟨x, hx, hne⟩ := HR.out.1 rfl; exact absurd (h x hx) hne
    clear h
    go_wp2
    go_ret
    exact ⟨by rw [e1]; rfl, rfl⟩
end Go.Proofs.YtglcpfnpbcnejaaGreatDoor
namespace Go.Proofs.YtglcpfnpbcnejaaGreatDoor
open Go.RowKit Go.WideShapes Rm

theorem FOwn.form {w : World} {base : Nat} {v : Value} {ls : FPs} (h : FOwn w base v ls) : ∃ q m, v = .slice q ls.length m ∧ ls.length ≤ m ∧ m ≤ maxLen ∧ (q = none → m = 0) := own_form h.row
theorem FOwn.fin {w : World} {base : Nat} {v : Value} {ls : FPs} (h : FOwn w base v ls) (hw : ∀ x ∈ ls, Wf x.1.pcs) (hs : ∀ x ∈ ls, wf64 x.1.size) : FIn w v (ls.map Prod.fst) := by
  obtain ⟨q, m, rfl, h1, h2, h3⟩ := h.form
  refine ⟨⟨q, m, by simp, fun hp => ?_, by simpa using h1, h2, h3⟩, fun f hf => ?_⟩
  · rcases h.row.2 with ⟨_, hn⟩ | ⟨g, cap, cur, hv, hb, hg, hle, hmax, hsz, htk⟩
    · simp [hn] at hp
    · simp only [Value.slice.injEq] at hv
      obtain ⟨rfl, _, rfl⟩ := hv
      refine ⟨g, 0, rfl, fun i hi => ?_⟩
      have hi' : i < ls.length := by simpa using hi
      obtain ⟨a0, a1, a2⟩ := cellsF_at ls i ls[i] (List.getElem?_eq_getElem hi')
      have hget : (ls.map Prod.fst).getD i zeroF = ls[i].1 := by simp [List.getD, hi']
      rw [hget]
      refine ⟨by rw [Nat.zero_add, World.ownsRow.cellAt h.row _ (by omega), a0], by rw [Nat.zero_add, World.ownsRow.cellAt h.row _ (by omega), a1], ls[i].2, by rw [Nat.zero_add, World.ownsRow.cellAt h.row _ (by omega), a2], ?_⟩
      exact (h.pcs _ (List.getElem_mem hi')).pin (hw _ (List.getElem_mem hi'))
  · obtain ⟨x, hx, rfl⟩ := List.mem_map.1 hf
    exact hs x hx
theorem set2_at (w : World) (B b : Nat) (x y : Value) (h : b ≠ B) : ((w.setCell ⟨B, 0, none⟩ x).setCell ⟨B, 1, none⟩ y).heap[b]? = w.heap[b]? := by
  rw [Below.heap_setCell _ _ _ _ h, Below.heap_setCell _ _ _ _ h]
theorem FOwn.set2 {w : World} {base B : Nat} {v : Value} {ls : FPs} (h : FOwn w base v ls) (hB : B < base) (x y : Value) : FOwn ((w.setCell ⟨B, 0, none⟩ x).setCell ⟨B, 1, none⟩ y) base v ls := by
  refine ⟨?_, fun u hu => set2_pown (h.pcs u hu) (fun e => by have := ((h.pcs u hu).lt _ e).1; omega) x y⟩
  have hne : v.ownBlock ≠ some B := fun e => by have := (h.row.lt _ e).1; omega
  refine World.ownsRow.kept (row := some B) h.row ⟨rfl, rfl, rfl, by simp [World.setCell], fun k hk hne => set2_at w B k x y (fun e => hne (by rw [e]))⟩ (by cases hv : v.ownBlock with | none => exact .inl rfl | some g => exact .inr (by rw [← hv]; exact hne))
theorem beg8_sec0 (xs : List Nat) : beg8 (secAt xs 0) = beg8 xs := by
  unfold secAt beg8
  have : ∀ i, i < 8 → ((xs.drop (0 * 128)).take 128).getD i 0 = xs.getD i 0 := by
    intro i hi
    simp [List.getD, show i < 128 from by omega]
  rw [this 0 (by omega), this 1 (by omega), this 2 (by omega), this 3 (by omega), this 4 (by omega), this 5 (by omega), this 6 (by omega), this 7 (by omega)]
theorem isDir_ok {x : DirV} {xs : List Nat} (h : IsDir ltS x xs) {i : Nat} (hi : i < 8) : SecOk xs i := by
  have h0 := isDir_sec h (i := 0) (by omega)
  have h1 := isDir_sec h hi
  rw [beg8_sec0 xs] at h0
  exact ⟨by rw [h1.1, h0.1], h1.2⟩
theorem bokBP : Bok BP := ⟨by simp [BP], by simp [BP], by simp [BP], by simp [BP], by simp [BP]⟩
theorem cutL_eq (b : List Nat) : cutL (cutFile BP) b = cutFiles BP b := rfl
theorem small_one (n : Nat) : 1 ≤ (smallN n).length := smallN_pos n
theorem pcs_le (l : Pcs) : l.length ≤ (l.flatMap pieceN).length := by
  induction l with
  | nil => simp
  | cons p l ih =>
    rw [List.flatMap_cons, List.length_append, List.length_cons]
    have : 1 ≤ (pieceN p).length := by unfold pieceN; rw [List.length_append]; have := small_one p.1.toNat; omega
    omega
theorem file_le (f : FileV) : f.name.size ≤ (fileN f).length ∧ f.pcs.length ≤ (fileN f).length := by
  have := pcs_le f.pcs
  have h2 := numsOf_len f.name
  unfold fileN textN
  simp only [List.length_append]
  omega
theorem files_le (l : List FileV) : (∀ f ∈ l, f.name.size ≤ (l.flatMap fileN).length) ∧ (allPcs l).length ≤ (l.flatMap fileN).length := by
  induction l with
  | nil => exact ⟨fun f hf => by simp at hf, by simp [allPcs]⟩
  | cons g l ih =>
    have hg := file_le g
    unfold allPcs at ih ⊢
    rw [List.flatMap_cons, List.flatMap_cons, List.length_append, List.length_append]
    refine ⟨fun f hf => ?_, by omega⟩
    rcases List.mem_cons.1 hf with rfl | h
    · omega
    · have := ih.1 f h; omega
theorem cut_told {xs r : List Nat} {l : List FileV} (hb : Byt xs) (h : cutFiles BP xs = some (l, r)) : ((∀ f ∈ l, f.name.size ≤ xs.length) ∧ (allPcs l).length ≤ xs.length) ∧ (∀ f ∈ l, wf64 f.size ∧ Wf f.pcs) := by
  have h1 := cutFiles_only hb h
  have h2 := files_le l
  have h3 : (l.flatMap fileN).length ≤ xs.length := by
    rw [h1]; unfold insideN; simp only [List.length_append]; omega
  refine ⟨⟨fun f hf => Nat.le_trans (h2.1 f hf) h3, Nat.le_trans h2.2 h3⟩, ?_⟩
  unfold cutFiles at h
  split at h
  · cases h
  · rename_i n r1 e1
    obtain ⟨g1, _⟩ := cutNum_only hb e1
    obtain ⟨_, _, g4⟩ := cutMany_only (g := fileN) (Q := fun f => (0 ≤ f.size ∧ f.size ≤ BP.size) ∧ f.pcs.length ≤ BP.many ∧ ∀ p ∈ f.pcs, (0 ≤ p.1 ∧ p.1 ≤ BP.lo) ∧ (0 ≤ p.2 ∧ p.2 ≤ BP.count)) (fun b x r hb h => cutFile_only hb h) n r1 l r (Byt.app (g1 ▸ hb)) h
    intro f hf
    obtain ⟨k1, _, k3⟩ := g4 f hf
    simp only [BP] at k1 k3
    refine ⟨⟨by omega, by omega⟩, fun p hp => ?_⟩
    have := k3 p hp
    omega
/-- What read answers. -/
def ReadPost (w : World) (xs : List Nat) (e : Ending) (w' : World) : Prop :=
  (∃ x ls lv, IsDir ltS x xs ∧ ls.map Prod.fst = x.files ∧ e = .returned (.tuple #[.agg #[.int .i64 x.gen, lv], .nilIface]) ∧ FOwn w' w.heap.size lv ls ∧ Below w.heap.size w w')
  ∨ (∃ ev, (∀ x, ¬ IsDir ltS x xs) ∧ e = .returned (.tuple #[.agg #[.int .i64 0, .slice none 0 0], ev]) ∧ Faults ev 8 ∧ Below w.heap.size w w')
theorem inner_byt {xs : List Nat} (hb : Byt xs) (k : Nat) : Byt (innerN xs k) := by
  intro c hc
  obtain ⟨i, _, h⟩ := List.mem_flatMap.1 hc
  exact hb c (List.mem_of_mem_drop (List.mem_of_mem_take (List.mem_of_mem_drop h)))
theorem wrap_pos {n : Nat} (h : n < 18446744073709551616) (h1 : 1 ≤ wrap64 (n : Int)) : wrap64 (n : Int) = n := by
  unfold wrap64 at *; omega
theorem wrap_low {n : Nat} (h : n < 9223372036854775808) : wrap64 (n : Int) = n := by
  unfold wrap64; omega
theorem wrap_wf {n : Nat} : wf64 (wrap64 (n : Int)) := by
  unfold wrap64 wf64; omega
/-- A directory of these bytes is what is read off them. -/
theorem isDir_is {y : DirV} {xs r : List Nat} {l : List FileV} (h : IsDir ltS y xs) (hc : cutFiles BP (innerN xs 8) = some (l, r)) : y = ⟨wrap64 (beg8 xs : Nat), l⟩ ∧ ∀ c ∈ r, c = 0 := by
  obtain ⟨r', h1, h2⟩ := isDir_cut bokBP h
  rw [hc] at h1
  simp only [Option.some.injEq, Prod.mk.injEq] at h1
  have g := (isDir_sec h (i := 0) (by omega)).1
  rw [beg8_sec0 xs] at g
  have a1 := h.1.lo
  have a2 := h.1.hi
  obtain ⟨gy, fy⟩ := y
  simp only at h1 g a1 a2
  refine ⟨?_, by rw [h1.2]; exact h2⟩
  rw [h1.1, wrap_low (by omega), show gy = (beg8 xs : Int) from by omega]
end Go.Proofs.YtglcpfnpbcnejaaGreatDoor
