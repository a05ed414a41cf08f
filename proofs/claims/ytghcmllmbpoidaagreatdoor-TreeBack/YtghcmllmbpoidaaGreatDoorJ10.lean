import Derived.Test.YtghcmllmbpoidaaGreatDoorJ09
import Derived.Test.YtghcmllmbpoidaaGreatDoorJ02
namespace Go.Proofs.YtghcmllmbpoidaaGreatDoor
open Go.RowKit Go.WideShapes Rm
structure RowT (w : World) (v : Value) (xs : List Nat) : Prop where
  row : Row w v xs
  blk : 0 < xs.length → ∃ b o n c C fr, v = .slice (some ⟨b, o, none⟩) n c ∧ w.heap[b]? = some (.cells C 5 fr)
theorem RowT.below {w w' : World} {v : Value} {xs : List Nat} (h : RowT w v xs) (hb : Below w.heap.size w w') : RowT w' v xs :=
  ⟨h.row.below hb, fun hp => by obtain ⟨b, o, n, c, C, fr, h1, h2⟩ := h.blk hp; exact ⟨b, o, n, c, C, fr, h1, (hb.block b (lt_heap h2)).trans h2⟩⟩
def Carry (v : Value) (xs : List Nat) (v' : Value) (ys : List Nat) : Prop := ∀ w, RowT w v xs → RowT w v' ys
theorem Carry.trans {a b c : Value} {xs ys zs : List Nat} (h : Carry a xs b ys) (k : Carry b ys c zs) : Carry a xs c zs := fun w hw => k w (h w hw)
theorem carry_sub {b o c k : Nat} {xs : List Nat} (hc : xs.length ≤ c) (hk : k ≤ xs.length) : Carry (.slice (some ⟨b, o, none⟩) xs.length c) xs (.slice (if c = k then some ⟨b, o, none⟩ else some ⟨b, o + k, none⟩) (xs.length - k) (c - k)) (xs.drop k) := by
  intro w h
  obtain ⟨p, c', e, hb, h1, h2, _⟩ := h.row.lies
  simp only [Value.slice.injEq, true_and] at e
  obtain ⟨rfl, rfl⟩ := e
  have hbp := bin_part hb c k hc (xs.length - k)
  rw [List.take_of_length_le (by simp)] at hbp
  refine ⟨⟨_, c - k, by rw [List.length_drop], hbp, by rw [List.length_drop]; omega, by omega, fun h => by split at h <;> simp at h⟩, fun hp => ?_⟩
  obtain ⟨b', o', n, c'', C, fr, e, h5⟩ := h.blk (by simp at hp; omega)
  simp only [Value.slice.injEq, Option.some.injEq, Addr.mk.injEq, and_true] at e
  obtain ⟨⟨rfl, rfl⟩, _, _⟩ := e
  split
  · exact ⟨b, o, _, _, C, fr, rfl, h5⟩
  · exact ⟨b, o + k, _, _, C, fr, rfl, h5⟩
theorem own_rowT {w : World} {base : Nat} {v : Value} {xs : List Nat} (h : w.ownsRow base 5 1 v xs.length (Bs xs)) (hx : ∀ c ∈ xs, c < 256) : RowT w v xs := by
  obtain ⟨q, m, rfl, h1, h2, h3⟩ := own_form h
  refine ⟨⟨q, m, rfl, own_in h hx, h1, h2, h3⟩, fun hp => ?_⟩
  rcases h.2 with ⟨_, h0⟩ | ⟨g, cap, cur, hv, _, hg, _⟩
  · omega
  · exact ⟨g, 0, _, cap, cur, (0, 0), hv, hg⟩
theorem cutNum_cases (B : Nat) (xs : List Nat) : (readN xs = none ∧ cutNum B xs = none) ∨ (∃ n k, readN xs = some (n, k) ∧ B < n ∧ cutNum B xs = none) ∨ ∃ n k, readN xs = some (n, k) ∧ n ≤ B ∧ cutNum B xs = some (n, xs.drop k) := by
  cases h : readN xs with
  | none => exact .inl ⟨rfl, by unfold cutNum; rw [h]⟩
  | some nk =>
    obtain ⟨n, k⟩ := nk
    rcases Nat.lt_or_ge B n with h1 | h1
    · exact .inr (.inl ⟨n, k, rfl, h1, by unfold cutNum; rw [h]; simp [h1]⟩)
    · exact .inr (.inr ⟨n, k, rfl, h1, by unfold cutNum; rw [h]; simp; omega⟩)
set_option maxHeartbeats 1000000 in
theorem cutNumber_none (v : Value) (xs : List Nat) (w : World) (hv : RowT w v xs) (h : cutNum 524288 xs = none) :
    Calls Tryz.prog 222 #[v] w fun e w' => ∃ ev, e = .returned (.tuple #[.int .i64 0, .slice none 0 0, ev]) ∧ Faults ev 8 ∧ Below w.heap.size w w' := by
  obtain ⟨p, c, rfl, hb, hlc, hcm, _⟩ := hv.row.lies
  rcases cutNum_cases 524288 xs with ⟨h1, _⟩ | ⟨n, k, h1, h2, _⟩ | ⟨n, k, _, _, h3⟩
  · have hrd := read_none p xs.length c xs w rfl hb (by omega) h1
    clear h h1
    go_enter Tryz.func222, Tryz.ntmps222
    go_wp2_with fail
    refine hrd.mono ?_
    rintro e w1 ⟨rfl, rfl⟩
    go_wp2
    go_ret3
    exact ⟨_, rfl, Faults.one _ _, Below.refl _ _⟩
  · have hrd := read_some p xs.length c xs w n k rfl hb (by omega) h1
    clear h h1
    go_enter Tryz.func222, Tryz.ntmps222
    go_wp2_with fail
    refine hrd.mono ?_
    rintro e w1 ⟨rfl, rfl⟩
    go_wp2
    go_ret3
    exact ⟨_, rfl, Faults.one _ _, Below.refl _ _⟩
  · rw [h3] at h; cases h
set_option maxHeartbeats 1000000 in
theorem cutNumber_some (v : Value) (xs r : List Nat) (n : Nat) (w : World) (hv : RowT w v xs) (h : cutNum 524288 xs = some (n, r)) :
    Calls Tryz.prog 222 #[v] w fun e w' => ∃ v', e = .returned (.tuple #[.int .i64 n, v', .nilIface]) ∧ Carry v xs v' r ∧ Below w.heap.size w w' := by
  obtain ⟨p, c, rfl, hb, hlc, hcm, hpn⟩ := hv.row.lies
  rcases cutNum_cases 524288 xs with ⟨_, h1⟩ | ⟨_, _, _, _, h1⟩ | ⟨n', k, h1, h2, h3⟩
  · rw [h1] at h; cases h
  · rw [h1] at h; cases h
  · rw [h3] at h
    simp only [Option.some.injEq, Prod.mk.injEq] at h
    obtain ⟨rfl, rfl⟩ := h
    obtain ⟨k1, k2, k3, k4⟩ := readN_some h1
    obtain ⟨b, o, rfl, _⟩ := hb.1 (by omega)
    have hrd := read_some _ xs.length c xs w n' k rfl hb (by omega) h1
    unfold maxLen at hcm
    have hw : IntKind.i64.wrap (n' : Int) = (n' : Int) := by rw [IntKind.wrap_i64]; omega
    clear h1 h3 hb
    go_enter Tryz.func222, Tryz.ntmps222
    go_wp2_with fail
    refine hrd.mono ?_
    rintro e w1 ⟨rfl, rfl⟩
    go_wp2
    go_quiet (fail)
    have hcy : Carry _ _ _ _ := carry_sub (b := b) (o := o) hlc (by omega : k ≤ xs.length)
    have HC : Hid _ := hcy
    clear hcy
    generalize (if c = k then some (⟨b, o, none⟩ : Addr) else some ⟨b, o + k, none⟩) = q' at *
    go_wp2
    go_ret3
    exact ⟨_, rfl, HC.out, below_drewN (Below.refl _ _) _⟩
theorem cutPiece_cases (xs : List Nat) : (cutNum 524288 xs = none ∧ cutPiece 524288 524288 xs = none) ∨ (∃ n r, cutNum 524288 xs = some (n, r) ∧ cutNum 524288 r = none ∧ cutPiece 524288 524288 xs = none) ∨ ∃ n r m s, cutNum 524288 xs = some (n, r) ∧ cutNum 524288 r = some (m, s) ∧ cutPiece 524288 524288 xs = some (((n : Int), (m : Int)), s) := by
  cases h : cutNum 524288 xs with
  | none => exact .inl ⟨rfl, by unfold cutPiece; rw [h]⟩
  | some nr =>
    obtain ⟨n, r⟩ := nr
    cases h2 : cutNum 524288 r with
    | none => exact .inr (.inl ⟨n, r, rfl, h2, by unfold cutPiece; rw [h]; simp [h2]⟩)
    | some ms =>
      obtain ⟨m, s⟩ := ms
      exact .inr (.inr ⟨n, r, m, s, rfl, h2, by unfold cutPiece; rw [h]; simp [h2]⟩)
def PiecePost (w : World) (v : Value) (xs : List Nat) (o : Option ((Int × Int) × List Nat)) (e : Ending) (w' : World) : Prop := match o with
  | none => ∃ ev, e = .returned (.tuple #[.agg #[.int .i64 0, .int .i64 0], .slice none 0 0, ev]) ∧ Faults ev 8 ∧ Below w.heap.size w w'
  | some (p, r) => ∃ v', e = .returned (.tuple #[.agg #[.int .i64 p.1, .int .i64 p.2], v', .nilIface]) ∧ Carry v xs v' r ∧ Below w.heap.size w w'
theorem results_cell_tmp2 {fn : Func} {p u x : Tmp} {ty : TypeId} (h : fn.results = #[.cell p ty, .tmp u, .tmp x]) (tmps : Array Value) (P : Program) (w : World) :
    (results fn tmps).run P w = ((asAddr (tmps.getD p undef)).run P w).andThen fun a w₁ => ((loadVar ty a).run P w₁).andThen fun v w₂ => .ok (.tuple #[v, tmps.getD u undef, tmps.getD x undef]) w₂ := by
  simp only [results, h]
  simp [Sem.run_bind, Result.andThen]
theorem box2f {w wr : World} {a b : Value} {t : TypeId} (h : Below (w.heap.size + 1) (w.alloc (.cells #[a, b] t)) wr) :
    wr.frozen? ⟨w.heap.size, 0, none⟩ = false ∧ wr.frozen? ⟨w.heap.size, 1, none⟩ = false := by
  constructor <;> (rw [h.frozen (by simp)]; simp)
theorem set2_below {base B : Nat} {w0 w : World} (h : Below base w0 w) (hB : base ≤ B) (a b : Value) : Below base w0 ((w.setCell ⟨B, 0, none⟩ a).setCell ⟨B, 1, none⟩ b) :=
  (h.setCell (p := ⟨B, 0, none⟩) hB a).setCell (p := ⟨B, 1, none⟩) hB b
set_option maxHeartbeats 1000000 in
theorem cutPiece_any (v : Value) (xs : List Nat) (w : World) (hv : RowT w v xs) (r : Option ((Int × Int) × List Nat)) (hr : cutPiece 524288 524288 xs = r) :
    Calls Tryz.prog 224 #[v] w fun e w' => PiecePost w v xs r e w' := by
  have hv1 := hv.below (below_alloc w (.cells #[.int .i64 0, .int .i64 0] 194))
  rcases cutPiece_cases xs with ⟨h1, h2⟩ | ⟨n, r1, h1, h2, h3⟩ | ⟨n, r1, m, r2, h1, h2, h3⟩
  · rw [h2] at hr
    subst hr
    have hc := cutNumber_none v xs _ hv1 h1
    go_enter Tryz.func224, Tryz.ntmps224
    go_wp2_with fail
    refine hc.mono ?_
    rintro e w1 ⟨ev, rfl, hfl, hb⟩
    have HFL : Hid (Faults ev 8) := hfl
    obtain ⟨tx, vx, rfl⟩ := hfl.iface
    have hb' : Below (w.heap.size + 1) (w.alloc (.cells #[.int .i64 0, .int .i64 0] 194)) w1 := hb.mono (by simp)
    obtain ⟨c0, c1⟩ := box2 hb'
    obtain ⟨f0, f1⟩ := box2f hb'
    have HB : Hid (Below w.heap.size w w1) := box_below hb'
    clear hfl hb hb' hc
    go_wp2
    (try simp only [Exit.inBlock, Exit.then])
    refine bodyPost_ret (v := .tuple #[.agg #[.int .i64 0, .int .i64 0], .slice none 0 0, .iface 124 (.agg #[.string ⟨#[102, 114, 111, 109]⟩, .iface tx vx])]) ?_ rfl ?_
    · rw [results_cell_tmp2 rfl]
      go_simp
    · exact ⟨_, rfl, .more _ HFL.out, set2_below HB.out (by omega) _ _⟩
  · rw [h3] at hr
    subst hr
    have hc := cutNumber_some v xs r1 n _ hv1 h1
    go_enter Tryz.func224, Tryz.ntmps224
    go_wp2_with fail
    refine hc.mono ?_
    rintro e w1 ⟨v1, rfl, hr1, hb⟩
    have hc2 := cutNumber_none v1 r1 w1 ((hr1 _ hv1).below hb) h2
    have hs1 := hb.size
    simp at hs1
    clear hc
    go_wp2_with fail
    refine hc2.mono ?_
    rintro e w2 ⟨ev, rfl, hfl, hb2⟩
    have HFL : Hid (Faults ev 8) := hfl
    obtain ⟨tx, vx, rfl⟩ := hfl.iface
    have hb' : Below (w.heap.size + 1) (w.alloc (.cells #[.int .i64 0, .int .i64 0] 194)) w2 := (hb.mono (by simp)).trans (hb2.mono (by omega))
    obtain ⟨c0, c1⟩ := box2 hb'
    obtain ⟨f0, f1⟩ := box2f hb'
    have HB : Hid (Below w.heap.size w w2) := box_below hb'
    clear hfl hb hb2 hb' hc2 hr1
    go_wp2
    (try simp only [Exit.inBlock, Exit.then])
    refine bodyPost_ret (v := .tuple #[.agg #[.int .i64 0, .int .i64 0], .slice none 0 0, .iface 124 (.agg #[.string ⟨#[99, 111, 117, 110, 116]⟩, .iface tx vx])]) ?_ rfl ?_
    · rw [results_cell_tmp2 rfl]
      go_simp
    · exact ⟨_, rfl, .more _ HFL.out, set2_below HB.out (by omega) _ _⟩
  · rw [h3] at hr
    subst hr
    have hc := cutNumber_some v xs r1 n _ hv1 h1
    go_enter Tryz.func224, Tryz.ntmps224
    go_wp2_with fail
    refine hc.mono ?_
    rintro e w1 ⟨v1, rfl, hr1, hb⟩
    have hc2 := cutNumber_some v1 r1 r2 m w1 ((hr1 _ hv1).below hb) h2
    have hs1 := hb.size
    simp at hs1
    clear hc
    go_wp2_with fail
    refine hc2.mono ?_
    rintro e w2 ⟨v2, rfl, hr2, hb2⟩
    have hb' : Below (w.heap.size + 1) (w.alloc (.cells #[.int .i64 0, .int .i64 0] 194)) w2 := (hb.mono (by simp)).trans (hb2.mono (by omega))
    obtain ⟨c0, c1⟩ := box2 hb'
    obtain ⟨f0, f1⟩ := box2f hb'
    have HB : Hid (Below w.heap.size w w2) := box_below hb'
    have HR : Hid (Carry v xs v2 r2) := hr1.trans hr2
    clear hr2 hb hb2 hb' hc2 hr1
    go_wp2
    (try simp only [Exit.inBlock, Exit.then])
    refine bodyPost_ret (v := .tuple #[.agg #[.int .i64 n, .int .i64 m], v2, .nilIface]) ?_ rfl ?_
    · rw [results_cell_tmp2 rfl]
      go_simp
    · exact ⟨_, rfl, HR.out, set2_below HB.out (by omega) _ _⟩
def manyGo {α : Type} (f : List Nat → Option (α × List Nat)) (n : Nat) (done : List α) (b : List Nat) : Option (List α × List Nat) := match cutMany f n b with
  | none => none
  | some (l, r) => some (done ++ l, r)
theorem manyGo_start {α : Type} (f : List Nat → Option (α × List Nat)) (n : Nat) (b : List Nat) : cutMany f n b = manyGo f n [] b := by
  unfold manyGo
  split <;> simp_all
theorem manyGo_none {α : Type} {f : List Nat → Option (α × List Nat)} {n : Nat} {done : List α} {b : List Nat} (h : f b = none) : manyGo f (n + 1) done b = none := by
  simp [manyGo, cutMany, h]
theorem manyGo_some {α : Type} {f : List Nat → Option (α × List Nat)} {n : Nat} {done : List α} {b r : List Nat} {x : α} (h : f b = some (x, r)) : manyGo f (n + 1) done b = manyGo f n (done ++ [x]) r := by
  simp only [manyGo, cutMany, h]
  cases cutMany f n r with
  | none => rfl
  | some lr => simp
theorem manyGo_end {α : Type} (f : List Nat → Option (α × List Nat)) (done : List α) (b : List Nat) : manyGo f 0 done b = some (done, b) := by simp [manyGo, cutMany]
def cutL {α : Type} (f : List Nat → Option (α × List Nat)) (b : List Nat) : Option (List α × List Nat) := match cutNum 524288 b with
  | none => none
  | some (n, r) => cutMany f n r
def PcsPost (w : World) (v : Value) (xs : List Nat) (o : Option (Pcs × List Nat)) (e : Ending) (w' : World) : Prop := match o with
  | none => ∃ ev, e = .returned (.tuple #[.slice none 0 0, .slice none 0 0, ev]) ∧ Faults ev 8 ∧ Below w.heap.size w w'
  | some (l, r) => ∃ lv v', e = .returned (.tuple #[lv, v', .nilIface]) ∧ POwn w' w.heap.size lv l ∧ Carry v xs v' r ∧ Below w.heap.size w w'
theorem pcs_new (w : World) (a n : Int) : PcsIn (w.alloc (.cells #[.int .i64 a, .int .i64 n] 194)) (some ⟨w.heap.size, 0, none⟩) [(a, n)] := by
  intro _
  refine ⟨w.heap.size, 0, rfl, fun i hi => ?_⟩
  have hh := heap_alloc_new w (.cells #[.int .i64 a, .int .i64 n] 194)
  obtain rfl : i = 0 := by simpa using hi
  exact ⟨cell_of_row _ _ _ _ _ _ hh, cell_of_row _ _ _ _ _ _ hh⟩
theorem pcs_new' (w : World) (a n : Int) (g : Nat) (hg : g = w.heap.size) : PcsIn (w.alloc (.cells #[.int .i64 a, .int .i64 n] 194)) (some ⟨g, 0, none⟩) [(a, n)] := by subst hg; exact pcs_new w a n
theorem set2_pown {w : World} {base B : Nat} {v : Value} {l : Pcs} (h : POwn w base v l) (hne : v.ownBlock ≠ some B) (x y : Value) : POwn ((w.setCell ⟨B, 0, none⟩ x).setCell ⟨B, 1, none⟩ y) base v l := by
  refine World.ownsRow.kept (row := some B) h ⟨rfl, rfl, rfl, by simp [World.setCell], fun k hk hne => ?_⟩ (by cases hv : v.ownBlock with | none => exact .inl rfl | some g => exact .inr (by rw [← hv]; exact hne))
  rw [Below.heap_setCell _ _ _ _ (fun e => hne (by rw [e])), Below.heap_setCell _ _ _ _ (fun e => hne (by rw [e]))]
set_option maxRecDepth 4000 in
set_option maxHeartbeats 2000000 in
theorem cutPcs_any (v : Value) (xs : List Nat) (w : World) (hL : Laid w) (hv : RowT w v xs) (r : Option (Pcs × List Nat)) (hr : cutL (cutPiece 524288 524288) xs = r) :
    Calls Tryz.prog 223 #[v, .func (.func 224) #[] #[]] w fun e w' => PcsPost w v xs r e w' := by
  cases h1 : cutNum 524288 xs with
  | none =>
    have hr' : r = none := by rw [← hr]; unfold cutL; rw [h1]
    subst hr'
    have hc := cutNumber_none v xs w hv h1
    go_enter Tryz.func223, Tryz.ntmps223
    go_wp2_with fail
    refine hc.mono ?_
    rintro e w1 ⟨ev, rfl, hfl, hb⟩
    have HFL : Hid (Faults ev 8) := hfl
    obtain ⟨tx, vx, rfl⟩ := hfl.iface
    clear hfl hc
    go_wp2
    go_ret3
    exact ⟨_, rfl, HFL.out, hb⟩
  | some nr =>
    obtain ⟨n, xs1⟩ := nr
    have hr' : manyGo (cutPiece 524288 524288) n [] xs1 = r := by rw [← hr]; unfold cutL; rw [h1, ← manyGo_start]
    have hn : n ≤ 524288 := by
      rcases cutNum_cases 524288 xs with ⟨_, h2⟩ | ⟨_, _, _, _, h2⟩ | ⟨n', k, _, h2, h3⟩
      · rw [h2] at h1; cases h1
      · rw [h2] at h1; cases h1
      · rw [h3] at h1
        simp only [Option.some.injEq, Prod.mk.injEq] at h1
        omega
    have hc := cutNumber_some v xs xs1 n w hv h1
    have HL : Hid (Laid w) := hL
    have HV : Hid (RowT w v xs) := hv
    clear hr h1 hL hv
    go_enter Tryz.func223, Tryz.ntmps223
    go_wp2_with fail
    refine hc.mono ?_
    rintro e w1 ⟨v1, rfl, hcy, hb⟩
    have HC : Hid (Carry v xs v1 xs1) := hcy
    have HB1 : Hid (Below w.heap.size w w1) := hb
    have hs1 := hb.size
    have HR0 : Hid _ := hr'
    clear hc hcy hb hr'
    go_wp2
    go_loopw [0, 8, 9, 22] (fun bv ev m i wr => ∃ k done rest, k ≤ n ∧ i = .int .i64 (k : Nat) ∧ ev = .nilIface ∧ POwn wr w.heap.size m done ∧ done.length = k ∧ Carry v xs bv rest ∧ manyGo (cutPiece 524288 524288) (n - k) done rest = r ∧ Below w.heap.size w wr) (fun _ _ _ i _ => n - (intOf i).toNat)
    case atStart => exact ⟨0, [], xs1, by omega, rfl, rfl, pown_nil _ _, rfl, HC.out, HR0.out, HB1.out⟩
    case round =>
      obtain ⟨k, done, rest, hk, rfl, rfl, hown, hdl, hcy, hmg, hbel⟩ := hrel
      clear HR0 HB1 HC
      have hsz := hbel.size
      have HB : Hid (Below w.heap.size w wr) := hbel
      have HO : Hid _ := hown
      have HC : Hid (Carry v xs _ rest) := hcy
      have hrow := (hcy w HV.out).below hbel
      by_cases hkn : k < n
      · have hpc := cutPiece_any _ rest _ (hrow.below (below_alloc wr (.cells #[.int .i64 0, .int .i64 0] 194)))
        obtain ⟨j, hj⟩ : ∃ j, n - k = j + 1 := ⟨n - k - 1, by omega⟩
        rw [hj] at hmg
        have hlto := hown.lt
        clear hown hcy hrow hbel
        cases h2 : cutPiece 524288 524288 rest with
        | none =>
          rw [manyGo_none h2] at hmg
          subst hmg
          have hpc2 := hpc none h2
          clear hpc h2
          go_wp2_with fail
          refine hpc2.mono ?_
          rintro e w2 ⟨ev, rfl, hfl, hb2⟩
          have HFL : Hid (Faults ev 8) := hfl
          obtain ⟨tx, vx, rfl⟩ := hfl.iface
          have hs2 := hb2.size
          simp at hs2
          have hb' : Below (wr.heap.size + 1) (wr.alloc (.cells #[.int .i64 0, .int .i64 0] 194)) w2 := hb2.mono (by simp)
          obtain ⟨c0, c1⟩ := box2 hb'
          obtain ⟨f0, f1⟩ := box2f hb'
          have HB2 : Hid (Below w.heap.size w w2) := HB.out.trans ((box_below hb').mono hsz)
          have HL2 : Hid (Laid ((w2.setCell ⟨wr.heap.size, 0, none⟩ (.int .i64 0)).setCell ⟨wr.heap.size, 1, none⟩ (.int .i64 0))) := HL.out.below (set2_below HB2.out (by omega) _ _)
          clear hfl hb2 hb' hpc2
          go_wp2_with (go_at_call 27; refine (itoa_any k (by omega) _ HL2.out).mono ?_; rintro e w3 ⟨st, rfl, hb3⟩)
          go_ret3
          have h5 := set2_below HB2.out (B := wr.heap.size) (by omega) (.int .i64 0) (.int .i64 0)
          exact ⟨_, rfl, .more _ HFL.out, h5.trans (hb3.mono h5.size)⟩
        | some pr =>
          obtain ⟨⟨a, m⟩, rest'⟩ := pr
          rw [manyGo_some h2] at hmg
          have HMG : Hid (manyGo (cutPiece 524288 524288) j (done ++ [(a, m)]) rest' = r) := hmg
          have hpc2 := hpc (some ((a, m), rest')) h2
          clear hpc hmg
          go_wp2_with fail
          refine hpc2.mono ?_
          rintro e w2 ⟨v2, rfl, hcy2, hb2⟩
          have hs2 := hb2.size
          simp at hs2
          have hb' : Below (wr.heap.size + 1) (wr.alloc (.cells #[.int .i64 0, .int .i64 0] 194)) w2 := hb2.mono (by simp)
          obtain ⟨c0, c1⟩ := box2 hb'
          obtain ⟨f0, f1⟩ := box2f hb'
          have HB2 : Hid (Below w.heap.size w w2) := HB.out.trans ((box_below hb').mono hsz)
          have HC2 : Hid (Carry v xs v2 rest') := HC.out.trans hcy2
          have ho2 := POwn.below HO.out (box_below hb')
          have ho3 := set2_pown ho2 (B := wr.heap.size) (fun e => by have := (hlto _ e).2; omega) (.int .i64 a) (.int .i64 m)
          have hb3 := set2_below HB2.out (B := wr.heap.size) (by omega) (.int .i64 a) (.int .i64 m)
          have hd0 : ((w2.setCell ⟨wr.heap.size, 0, none⟩ (.int .i64 a)).setCell ⟨wr.heap.size, 1, none⟩ (.int .i64 m)).cell? ⟨wr.heap.size, 0, none⟩ = some (.int .i64 a) := by
            rw [World.cell?_setCell_other _ _ _ _ (by simp)]; exact World.cell?_setCell_same _ _ _ c0
          have hd1 : ((w2.setCell ⟨wr.heap.size, 0, none⟩ (.int .i64 a)).setCell ⟨wr.heap.size, 1, none⟩ (.int .i64 m)).cell? ⟨wr.heap.size, 1, none⟩ = some (.int .i64 m) :=
            World.cell?_setCell_same _ _ _ (u := .int .i64 0) (by rw [World.cell?_setCell_other _ _ _ _ (by simp)]; exact c1)
          clear hb2 hb' hpc2 hcy2 ho2 HC HO HB
          have HO3 : Hid _ := ho3
          have HB3 : Hid _ := hb3
          have hs3 := hb3.size
          clear ho3 hb3
          go_wp2_with (at_builtin; refine wpList_append_pcs _ rfl _ _ rfl w.heap.size _ done [(a, m)] (some ⟨w2.heap.size, 0, none⟩) _ _ rfl rfl rfl (POwn.below HO3.out (below_alloc _ _)) (pcs_new' _ a m _ (by simp [World.setCell])) (fun h => by cases h) (by simp; omega) (by simp; omega) ?_; intro v4 w4 ho4 hg4)
          have HB4 : Hid (Below w.heap.size w w4) := (HB3.out.alloc HB3.out.size _).grown hg4 (by simp; omega) (fun x hx => (POwn.lt HO3.out x hx).1)
          go_roundw
          case rel => exact ⟨k + 1, done ++ [(a, m)], rest', by omega, by go_num, rfl, ho4, by simp; omega, HC2.out, by rw [show n - (k + 1) = j from by omega]; exact HMG.out, HB4.out⟩
          case measure => simp [intOf]; omega
      · obtain rfl : k = n := by omega
        rw [Nat.sub_self, manyGo_end] at hmg
        subst hmg
        clear hown hcy hrow hbel
        go_wp2
        go_ret3
        exact ⟨_, _, rfl, HO.out, HC.out, HB.out⟩
theorem RowT.keep {w w' : World} {v : Value} {xs : List Nat} (h : RowT w v xs) (hk : ∀ (b : Nat) (C : Array Value) (fr : Nat × Nat), w.heap[b]? = some (.cells C 5 fr) → w'.heap[b]? = w.heap[b]?) : RowT w' v xs := by
  obtain ⟨p, c, h1, h2, h3⟩ := h.row.lies
  refine ⟨⟨p, c, h1, ⟨fun hp => ?_, h2.2⟩, h3⟩, fun hp => ?_⟩
  · obtain ⟨b, o, rfl, hc⟩ := h2.1 hp
    obtain ⟨b', o', n', c', C, fr, e, hb⟩ := h.blk hp
    rw [h1] at e
    simp only [Value.slice.injEq, Option.some.injEq, Addr.mk.injEq, and_true] at e
    obtain ⟨⟨rfl, rfl⟩, _, _⟩ := e
    exact ⟨b, o, rfl, fun i hi => (World.cell?_of_block (hk b C fr hb)).trans (hc i hi)⟩
  · obtain ⟨b', o', n', c', C, fr, e, hb⟩ := h.blk hp
    exact ⟨b', o', n', c', C, fr, e, (hk b' C fr hb).trans hb⟩
theorem set3_at (w : World) (B b : Nat) (x y z : Value) (h : b ≠ B) : (((w.setCell ⟨B, 0, none⟩ x).setCell ⟨B, 1, none⟩ y).setCell ⟨B, 2, none⟩ z).heap[b]? = w.heap[b]? := by
  rw [Below.heap_setCell _ _ _ _ h, Below.heap_setCell _ _ _ _ h, Below.heap_setCell _ _ _ _ h]
theorem RowT.set3 {w : World} {v : Value} {xs : List Nat} {B : Nat} {C : Array Value} {t : TypeId} {fr : Nat × Nat} (h : RowT w v xs) (hB : w.heap[B]? = some (.cells C t fr)) (ht : t ≠ 5) (x y z : Value) : RowT (((w.setCell ⟨B, 0, none⟩ x).setCell ⟨B, 1, none⟩ y).setCell ⟨B, 2, none⟩ z) v xs := by
  refine h.keep fun b C' fr' hb => set3_at w B b x y z ?_
  rintro rfl
  rw [hB] at hb
  simp only [Option.some.injEq, Obj.cells.injEq] at hb
  exact ht hb.2.1
theorem set3_below4 {base B : Nat} {w0 w : World} (h : Below base w0 w) (hB : base ≤ B) (a b c : Value) : Below base w0 (((w.setCell ⟨B, 0, none⟩ a).setCell ⟨B, 1, none⟩ b).setCell ⟨B, 2, none⟩ c) :=
  ((h.setCell (p := ⟨B, 0, none⟩) hB a).setCell (p := ⟨B, 1, none⟩) hB b).setCell (p := ⟨B, 2, none⟩) hB c
theorem set3_pown {w : World} {base B : Nat} {v : Value} {l : Pcs} (h : POwn w base v l) (hne : v.ownBlock ≠ some B) (x y z : Value) : POwn (((w.setCell ⟨B, 0, none⟩ x).setCell ⟨B, 1, none⟩ y).setCell ⟨B, 2, none⟩ z) base v l := by
  refine World.ownsRow.kept (row := some B) h ⟨rfl, rfl, rfl, by simp [World.setCell], fun k hk hne => ?_⟩ (by cases hv : v.ownBlock with | none => exact .inl rfl | some g => exact .inr (by rw [← hv]; exact hne))
  exact set3_at w B k x y z (fun e => hne (by rw [e]))
theorem box3f {w wr : World} {a b c : Value} {t : TypeId} (h : Below (w.heap.size + 1) (w.alloc (.cells #[a, b, c] t)) wr) :
    wr.frozen? ⟨w.heap.size, 0, none⟩ = false ∧ wr.frozen? ⟨w.heap.size, 1, none⟩ = false ∧ wr.frozen? ⟨w.heap.size, 2, none⟩ = false ∧ wr.heap[w.heap.size]? = some (.cells #[a, b, c] t (0, 0)) := by
  refine ⟨?_, ?_, ?_, (h.block _ (by omega)).trans (heap_alloc_new w _)⟩ <;> (rw [h.frozen (by simp)]; simp)
def FilePost (w : World) (o : Option (FileV × List Nat)) (e : Ending) (w' : World) : Prop := match o with
  | none => ∃ ev, e = .returned (.tuple #[.agg #[.string ByteArray.empty, .int .i64 0, .slice none 0 0], .slice none 0 0, ev]) ∧ Faults ev 8 ∧ Below w.heap.size w w'
  | some (f, r) => ∃ pv v', e = .returned (.tuple #[.agg #[.string f.name, .int .i64 f.size, pv], v', .nilIface]) ∧ POwn w' w.heap.size pv f.pcs ∧ RowT w' v' r ∧ Below w.heap.size w w'
def BP : Bnds := ⟨524288, 524288, 524288, 524288, 524288⟩
theorem cutFile_cases (xs : List Nat) : (cutText xs = none ∧ cutFile BP xs = none) ∨ (∃ s r, cutText xs = some (s, r) ∧ cutNum 524288 r = none ∧ cutFile BP xs = none) ∨ (∃ s r n r1, cutText xs = some (s, r) ∧ cutNum 524288 r = some (n, r1) ∧ cutL (cutPiece 524288 524288) r1 = none ∧ cutFile BP xs = none)
    ∨ ∃ s r n r1 l r2, cutText xs = some (s, r) ∧ cutNum 524288 r = some (n, r1) ∧ cutL (cutPiece 524288 524288) r1 = some (l, r2) ∧ cutFile BP xs = some (⟨s, n, l⟩, r2) := by
  cases h : cutText xs with
  | none => exact .inl ⟨rfl, by unfold cutFile; rw [h]⟩
  | some sr =>
    obtain ⟨s, r⟩ := sr
    cases h2 : cutNum 524288 r with
    | none => exact .inr (.inl ⟨s, r, rfl, h2, by unfold cutFile; rw [h]; simp [BP, h2]⟩)
    | some nr =>
      obtain ⟨n, r1⟩ := nr
      have he : cutFile BP xs = (match cutL (cutPiece 524288 524288) r1 with | none => none | some (l, r) => some (⟨s, n, l⟩, r)) := by
        unfold cutFile cutL
        rw [h]
        simp only [BP, h2]
        cases cutNum 524288 r1 with
        | none => rfl
        | some kr => rfl
      cases h3 : cutL (cutPiece 524288 524288) r1 with
      | none => exact .inr (.inr (.inl ⟨s, r, n, r1, rfl, h2, h3, by rw [he, h3]⟩))
      | some lr =>
        obtain ⟨l, r2⟩ := lr
        exact .inr (.inr (.inr ⟨s, r, n, r1, l, r2, rfl, h2, h3, by rw [he, h3]⟩))
theorem cutText_none {xs : List Nat} (h : cutText xs = none) : readN xs = none ∨ ∃ n k, readN xs = some (n, k) ∧ xs.length < k + n := by
  unfold cutText at h
  split at h
  · exact .inl (by assumption)
  · rename_i n k e
    split at h
    · exact .inr ⟨n, k, e, by assumption⟩
    · cases h
theorem cutText_some {xs r : List Nat} {s : ByteArray} (h : cutText xs = some (s, r)) : ∃ n k, readN xs = some (n, k) ∧ k + n ≤ xs.length ∧ s = strOf ((xs.drop k).take n) ∧ r = xs.drop (k + n) := by
  unfold cutText at h
  split at h
  · cases h
  · rename_i n k e
    split at h
    · cases h
    · simp only [Option.some.injEq, Prod.mk.injEq] at h
      exact ⟨n, k, e, by omega, h.1.symm, h.2.symm⟩
theorem cut4_none (v : Value) (xs : List Nat) (w : World) (hv : RowT w v xs) (h : cutText xs = none) :
    Calls Tryz.prog 89 #[v] w fun e w' => e = .returned (.tuple #[.string ByteArray.empty, .slice none 0 0, .int .i64 8]) ∧ w' = w := by
  obtain ⟨p, c, rfl, hb, hlc, hcm, _⟩ := hv.row.lies
  rcases cutText_none h with h1 | ⟨n, k, h1, h2⟩
  · exact cut_none p c xs w hb (by omega) h1
  · exact cut_long p c xs w hb (by omega) n k h1 h2
theorem cut4_some (v : Value) (xs r : List Nat) (s : ByteArray) (w : World) (hv : RowT w v xs) (hx : xs.length ≤ 100000) (h : cutText xs = some (s, r)) :
    Calls Tryz.prog 89 #[v] w fun e w' => ∃ v', e = .returned (.tuple #[.string s, v', .int .i64 0]) ∧ RowT w' v' r ∧ Below w.heap.size w w' := by
  obtain ⟨p, c, rfl, hb, hlc, hcm, _⟩ := hv.row.lies
  obtain ⟨n, k, h1, h2, rfl, rfl⟩ := cutText_some h
  refine (cut_ok p c xs w hb hx hlc n k h1 h2).mono ?_
  rintro e w' ⟨v', rfl, ho, hb'⟩
  exact ⟨v', rfl, own_rowT ho (fun x hx => hb.2 x (List.mem_of_mem_drop hx)), hb'⟩
set_option maxHeartbeats 2000000 in
theorem cutFile_any (v : Value) (xs : List Nat) (w : World) (hL : Laid w) (hv : RowT w v xs) (hx : xs.length ≤ 100000) (r : Option (FileV × List Nat)) (hr : cutFile BP xs = r) :
    Calls Tryz.prog 170 #[v] w fun e w' => FilePost w r e w' := by
  have hv1 := hv.below (below_alloc w (.cells #[.string ByteArray.empty, .int .i64 0, .slice none 0 0] 147))
  have hL1 := hL.below (below_alloc w (.cells #[.string ByteArray.empty, .int .i64 0, .slice none 0 0] 147))
  clear hv hL
  rcases cutFile_cases xs with ⟨h1, h2⟩ | ⟨s, r1, h1, h2, h3⟩ | ⟨s, r1, n, r2, h1, h2, h3, h4⟩ | ⟨s, r1, n, r2, l, r3, h1, h2, h3, h4⟩
  · rw [h2] at hr
    subst hr
    have hc := cut4_none v xs _ hv1 h1
    go_enter Tryz.func170, Tryz.ntmps170
    go_wp2_with fail
    refine hc.mono ?_
    rintro e w1 ⟨rfl, rfl⟩
    have hb' : Below (w.heap.size + 1) (w.alloc (.cells #[.string ByteArray.empty, .int .i64 0, .slice none 0 0] 147)) (w.alloc (.cells #[.string ByteArray.empty, .int .i64 0, .slice none 0 0] 147)) := Below.refl _ _
    obtain ⟨c0, c1, c2⟩ := box3 hb'
    obtain ⟨f0, f1, f2, _⟩ := box3f hb'
    have HB : Hid (Below w.heap.size w (w.alloc (.cells #[.string ByteArray.empty, .int .i64 0, .slice none 0 0] 147))) := box_below hb'
    clear hb' hc
    go_wp2
    (try simp only [Exit.inBlock, Exit.then])
    refine bodyPost_ret (v := .tuple #[.agg #[.string ByteArray.empty, .int .i64 0, .slice none 0 0], .slice none 0 0, .iface 124 (.agg #[.string ⟨#[110, 97, 109, 101]⟩, .iface 25 (.int .i64 8)])]) ?_ rfl ?_
    · rw [results_cell_tmp2 rfl]
      go_simp
      rfl
    · exact ⟨_, rfl, Faults.one _ _, by first | exact set3_below4 HB.out (by omega) _ _ _ | exact below_alloc _ _⟩
  · rw [h3] at hr
    subst hr
    have hc := cut4_some v xs r1 s _ hv1 hx h1
    go_enter Tryz.func170, Tryz.ntmps170
    go_wp2_with fail
    refine hc.mono ?_
    rintro e w1 ⟨v1, rfl, hr1, hb1⟩
    have hs1 := hb1.size
    simp at hs1
    clear hc
    have hc2 := cutNumber_none v1 r1 w1 hr1 h2
    go_wp2_with fail
    refine hc2.mono ?_
    rintro e w2 ⟨ev, rfl, hfl, hb2⟩
    have HFL : Hid (Faults ev 8) := hfl
    obtain ⟨tx, vx, rfl⟩ := hfl.iface
    have hb' : Below (w.heap.size + 1) (w.alloc (.cells #[.string ByteArray.empty, .int .i64 0, .slice none 0 0] 147)) w2 := (hb1.mono (by simp)).trans (hb2.mono (by omega))
    obtain ⟨c0, c1, c2⟩ := box3 hb'
    obtain ⟨f0, f1, f2, _⟩ := box3f hb'
    have HB : Hid (Below w.heap.size w w2) := box_below hb'
    clear hb' hb1 hb2 hfl hc2 hr1
    go_wp2
    (try simp only [Exit.inBlock, Exit.then])
    refine bodyPost_ret (v := .tuple #[.agg #[.string ByteArray.empty, .int .i64 0, .slice none 0 0], .slice none 0 0, .iface 124 (.agg #[.string ⟨#[115, 105, 122, 101]⟩, .iface tx vx])]) ?_ rfl ?_
    · rw [results_cell_tmp2 rfl]
      go_simp
      rfl
    · exact ⟨_, rfl, .more _ HFL.out, by first | exact set3_below4 HB.out (by omega) _ _ _ | exact below_alloc _ _⟩
  · rw [h4] at hr
    subst hr
    have hc := cut4_some v xs r1 s _ hv1 hx h1
    go_enter Tryz.func170, Tryz.ntmps170
    go_wp2_with fail
    refine hc.mono ?_
    rintro e w1 ⟨v1, rfl, hr1, hb1⟩
    have hs1 := hb1.size
    simp at hs1
    clear hc
    have hc2 := cutNumber_some v1 r1 r2 n w1 hr1 h2
    go_wp2_with fail
    refine hc2.mono ?_
    rintro e w2 ⟨v2, rfl, hr2, hb2⟩
    have hs2 := hb2.size
    have hb12 : Below (w.heap.size + 1) (w.alloc (.cells #[.string ByteArray.empty, .int .i64 0, .slice none 0 0] 147)) w2 := (hb1.mono (by simp)).trans (hb2.mono (by omega))
    have hrow2 := (hr2 _ hr1).below hb2
    have hL2 := hL1.below ((hb1.mono (by simp)).trans (hb2.mono (by simp; omega)) : Below (w.alloc (.cells #[.string ByteArray.empty, .int .i64 0, .slice none 0 0] 147)).heap.size (w.alloc (.cells #[.string ByteArray.empty, .int .i64 0, .slice none 0 0] 147)) w2)
    clear hc2 hr2 hr1
    have hc3 := cutPcs_any v2 r2 w2 hL2 hrow2 none h3
    go_wp2_with fail
    refine hc3.mono ?_
    rintro e w3 ⟨ev, rfl, hfl, hb3⟩
    have HFL : Hid (Faults ev 8) := hfl
    obtain ⟨tx, vx, rfl⟩ := hfl.iface
    have hb' : Below (w.heap.size + 1) (w.alloc (.cells #[.string ByteArray.empty, .int .i64 0, .slice none 0 0] 147)) w3 := hb12.trans (hb3.mono (by omega))
    obtain ⟨c0, c1, c2⟩ := box3 hb'
    obtain ⟨f0, f1, f2, _⟩ := box3f hb'
    have HB : Hid (Below w.heap.size w w3) := box_below hb'
    clear hb' hb1 hb2 hb3 hb12 hfl hc3 hrow2 hL2
    go_wp2
    (try simp only [Exit.inBlock, Exit.then])
    refine bodyPost_ret (v := .tuple #[.agg #[.string ByteArray.empty, .int .i64 0, .slice none 0 0], .slice none 0 0, .iface 124 (.agg #[.string ⟨#[112, 105, 101, 99, 101, 115]⟩, .iface tx vx])]) ?_ rfl ?_
    · rw [results_cell_tmp2 rfl]
      go_simp
      rfl
    · exact ⟨_, rfl, .more _ HFL.out, by first | exact set3_below4 HB.out (by omega) _ _ _ | exact below_alloc _ _⟩
  · rw [h4] at hr
    subst hr
    have hc := cut4_some v xs r1 s _ hv1 hx h1
    go_enter Tryz.func170, Tryz.ntmps170
    go_wp2_with fail
    refine hc.mono ?_
    rintro e w1 ⟨v1, rfl, hr1, hb1⟩
    have hs1 := hb1.size
    simp at hs1
    clear hc
    have hc2 := cutNumber_some v1 r1 r2 n w1 hr1 h2
    go_wp2_with fail
    refine hc2.mono ?_
    rintro e w2 ⟨v2, rfl, hr2, hb2⟩
    have hs2 := hb2.size
    have hb12 : Below (w.heap.size + 1) (w.alloc (.cells #[.string ByteArray.empty, .int .i64 0, .slice none 0 0] 147)) w2 := (hb1.mono (by simp)).trans (hb2.mono (by omega))
    have hrow2 := (hr2 _ hr1).below hb2
    have hL2 := hL1.below ((hb1.mono (by simp)).trans (hb2.mono (by simp; omega)) : Below (w.alloc (.cells #[.string ByteArray.empty, .int .i64 0, .slice none 0 0] 147)).heap.size (w.alloc (.cells #[.string ByteArray.empty, .int .i64 0, .slice none 0 0] 147)) w2)
    clear hc2 hr2 hr1
    have hc3 := cutPcs_any v2 r2 w2 hL2 hrow2 (some (l, r3)) h3
    go_wp2_with fail
    refine hc3.mono ?_
    rintro e w3 ⟨lv, v3, rfl, ho3, hcy, hb3⟩
    have hs3 := hb3.size
    have hb' : Below (w.heap.size + 1) (w.alloc (.cells #[.string ByteArray.empty, .int .i64 0, .slice none 0 0] 147)) w3 := hb12.trans (hb3.mono (by omega))
    obtain ⟨c0, c1, c2⟩ := box3 hb'
    obtain ⟨f0, f1, f2, hB⟩ := box3f hb'
    have HB : Hid (Below w.heap.size w w3) := box_below hb'
    have HR : Hid (RowT w3 v3 r3) := (hcy _ hrow2).below hb3
    have HO : Hid (POwn w3 w2.heap.size lv l) := ho3
    have HBL : Hid (w3.heap[w.heap.size]? = some (.cells #[.string ByteArray.empty, .int .i64 0, .slice none 0 0] 147 (0, 0))) := hB
    obtain ⟨q3, m3, rfl, _⟩ := ho3.form
    clear hb' hb1 hb2 hb3 hb12 hc3 hrow2 hL2 ho3 hcy hB
    go_wp2
    (try simp only [Exit.inBlock, Exit.then])
    refine bodyPost_ret (v := .tuple #[.agg #[.string s, .int .i64 n, .slice q3 l.length m3], v3, .nilIface]) ?_ rfl ?_
    · rw [results_cell_tmp2 rfl]
      go_simp
    · exact ⟨_, _, rfl, set3_pown (HO.out.mono (by omega)) (fun e => by have := (HO.out.lt _ e).1; omega) _ _ _, HR.out.set3 HBL.out (by decide) _ _ _, set3_below4 HB.out (by omega) _ _ _⟩
abbrev FPs := List (FileV × Value)
def cellsF (ls : FPs) : List Value := ls.flatMap fun x => [.string x.1.name, .int .i64 x.1.size, x.2]
theorem cellsF_app (l m : FPs) : cellsF (l ++ m) = cellsF l ++ cellsF m := by simp [cellsF]
theorem cellsF_at : ∀ (l : FPs) (i : Nat) (x : FileV × Value), l[i]? = some x → (cellsF l)[i * 3]? = some (.string x.1.name) ∧ (cellsF l)[i * 3 + 1]? = some (.int .i64 x.1.size) ∧ (cellsF l)[i * 3 + 2]? = some x.2
  | y :: l, 0, x, h => by
    simp at h
    subst h
    exact ⟨rfl, rfl, rfl⟩
  | y :: l, i + 1, x, h => by
    have := cellsF_at l i x (by simpa using h)
    rw [show (i + 1) * 3 = i * 3 + 1 + 1 + 1 from by omega]
    simpa [cellsF] using this
  | [], _, _, h => by simp at h
structure FOwn (w : World) (base : Nat) (v : Value) (ls : FPs) : Prop where
  row : w.ownsRow base 147 3 v ls.length (cellsF ls)
  pcs : ∀ x ∈ ls, POwn w base x.2 x.1.pcs
theorem info_file : (Tryz.prog.info? 147).map (fun i => (i.zero, i.size, i.bytes)) = some (some (.agg #[.string ⟨#[]⟩, .int .i64 0, .slice none 0 0]), 3, 48) := by kernel_rfl
theorem fown_nil (w : World) (base : Nat) : FOwn w base (.slice none 0 0) [] := ⟨World.ownsRow_nil _ _ _ _, fun x hx => by simp at hx⟩
theorem FOwn.below {w w' : World} {base : Nat} {v : Value} {ls : FPs} (h : FOwn w base v ls) (hb : Below w.heap.size w w') : FOwn w' base v ls := ⟨own_below h.row hb, fun x hx => (h.pcs x hx).below hb⟩
theorem FOwn.mono {w : World} {base base' : Nat} {v : Value} {ls : FPs} (h : FOwn w base v ls) (hb : base' ≤ base) : FOwn w base' v ls := ⟨own_mono h.row hb, fun x hx => (h.pcs x hx).mono hb⟩
theorem own_blk {w : World} {base n s g : Nat} {e : TypeId} {v : Value} {xs : List Value} (h : w.ownsRow base e s v n xs) (hg : v.ownBlock = some g) : ∃ C, w.heap[g]? = some (.cells C e (0, 0)) := by
  rcases h.2 with ⟨hv, _⟩ | ⟨g', cap, cur, hv, _, hb, _⟩
  · rw [hv] at hg; cases hg
  · rw [hv] at hg
    simp only [Value.ownBlock, Option.some.injEq] at hg
    subst hg
    exact ⟨cur, hb⟩
theorem apart_own {w : World} {base base' n n' s s' : Nat} {e e' : TypeId} {v v' : Value} {xs xs' : List Value} (h : w.ownsRow base e s v n xs) (h' : w.ownsRow base' e' s' v' n' xs') (hne : e ≠ e') : v.ownBlock = none ∨ v.ownBlock ≠ v'.ownBlock := by
  cases hv : v.ownBlock with
  | none => exact .inl rfl
  | some g =>
    refine .inr fun e2 => hne ?_
    obtain ⟨C, h1⟩ := own_blk h hv
    obtain ⟨C', h2⟩ := own_blk h' e2.symm
    rw [h1] at h2
    simp only [Option.some.injEq, Obj.cells.injEq] at h2
    exact h2.2.1
theorem RowT.grown {w w' : World} {base n s : Nat} {e : TypeId} {v u : Value} {xs : List Value} {ys : List Nat} (h : RowT w u ys) (ho : w.ownsRow base e s v n xs) (hne : e ≠ 5) (hg : w.grownBy w' v.ownBlock) : RowT w' u ys := by
  refine h.keep fun b C fr hb => hg.block b (lt_heap hb) ?_
  intro e2
  obtain ⟨C', h2⟩ := own_blk ho e2.symm
  rw [hb] at h2
  simp only [Option.some.injEq, Obj.cells.injEq] at h2
  exact hne h2.2.1.symm
theorem run_append_file (w : World) (ty : TypeId) (base : Nat) (v : Value) (ls : FPs) (x : FileV × Value) (ad : Addr) (c : Nat) (hown : FOwn w base v ls) (hx : x.2.oneCell' = true) (hp : POwn w base x.2 x.1.pcs)
    (h0 : w.cell? (ad.add 0) = some (.string x.1.name)) (h1 : w.cell? (ad.add 1) = some (.int .i64 x.1.size)) (h2 : w.cell? (ad.add 2) = some x.2) (hlen : ls.length ≤ 1000000) (hbase : base ≤ w.heap.size) :
    ∃ v' w', (Builtin.append_ #[140, 140] ty #[v, .slice (some ad) 1 c]).run Tryz.prog w = .ok v' w' ∧ FOwn w' base v' (ls ++ [x]) ∧ w.grownBy w' v.ownBlock := by
  obtain ⟨i0, hi, hz0, hz1, hz2⟩ := info_parts' info_file
  have hcs : ∀ j u, (cellsF [x])[j]? = some u → w.cell? (ad.add j) = some u := by
    intro j u hu
    rcases j with _ | _ | _ | j
    · simp [cellsF] at hu; rw [h0, hu]
    · simp [cellsF] at hu; rw [h1, hu]
    · simp [cellsF] at hu; rw [h2, hu]
    · simp [cellsF] at hu
  have hone : ∀ u ∈ cellsF [x], u.oneCell' = true := by
    intro u hu
    simp [cellsF] at hu
    rcases hu with rfl | rfl | rfl
    · rfl
    · rfl
    · exact hx
  obtain ⟨v', w', g1, g2, g3, _⟩ := run_append_own (P := Tryz.prog) w base 140 ty 147 i0 _ 3 48 Tryz.underlying140 hi hz0 hz1 hz2 rfl (by decide) v ls.length (cellsF ls) hown.row ad 1 c (cellsF [x]) rfl hcs hone (by unfold maxLen; omega) (by omega) hbase
  refine ⟨v', w', g1, ⟨?_, fun y hy => ?_⟩, g3⟩
  · rw [cellsF_app, List.length_append]
    exact g2
  · have hy' : POwn w base y.2 y.1.pcs := by
      rcases List.mem_append.1 hy with h | h
      · exact hown.pcs y h
      · rw [List.mem_singleton.1 h]; exact hp
    exact hy'.kept g3 (apart_own hy' hown.row (by decide))
theorem wpList_append_file (w : World) {ops : Array Oper} {rest : List Oper} {o : Oper} {a : Act} {Q : Exit → Act → World → Prop} (hgd : o.guard = none) (s x : Operand)
    (ho : o.op = .call { callee := .builtin .append, args := #[s, x], argTypes := #[140, 140] }) (base : Nat) (v : Value) (ls : FPs) (y : FileV × Value) (ad : Addr) (c : Nat) (hs : a.eval s = v) (hx : a.eval x = .slice (some ad) 1 c)
    (hown : FOwn w base v ls) (h1c : y.2.oneCell' = true) (hp : POwn w base y.2 y.1.pcs) (h0 : w.cell? (ad.add 0) = some (.string y.1.name)) (h1 : w.cell? (ad.add 1) = some (.int .i64 y.1.size)) (h2 : w.cell? (ad.add 2) = some y.2) (hlen : ls.length ≤ 1000000) (hbase : base ≤ w.heap.size)
    (h : ∀ v' w', FOwn w' base v' (ls ++ [y]) → w.grownBy w' v.ownBlock → wpList Tryz.prog ops Q rest (a.put o.dst v') w') : wpList Tryz.prog ops Q (o :: rest) a w := by
  refine wpList_plain hgd fun K hK => ?_
  obtain ⟨v', w', hr, g2, g3⟩ := run_append_file w o.type base v ls y ad c hown h1c hp h0 h1 h2 hlen hbase
  unfold Oper.wp execOp
  simp only [ho, resolve, invoke, builtin, Sem.run_bind, Sem.run_pure, Result.andThen_ok, List.map_toArray, List.map_cons, List.map_nil, hs, hx, hr]
  exact hK _ _ (h v' w' g2 g3)
theorem set3_own {w : World} {base B n s : Nat} {e : TypeId} {v : Value} {xs : List Value} (h : w.ownsRow base e s v n xs) (hne : v.ownBlock ≠ some B) (x y z : Value) : (((w.setCell ⟨B, 0, none⟩ x).setCell ⟨B, 1, none⟩ y).setCell ⟨B, 2, none⟩ z).ownsRow base e s v n xs := by
  refine World.ownsRow.kept (row := some B) h ⟨rfl, rfl, rfl, by simp [World.setCell], fun k hk hne => ?_⟩ (by cases hv : v.ownBlock with | none => exact .inl rfl | some g => exact .inr (by rw [← hv]; exact hne))
  exact set3_at w B k x y z (fun e => hne (by rw [e]))
theorem FOwn.set3 {w w0 : World} {base B : Nat} {v : Value} {ls : FPs} (h : FOwn w base v ls) (h0 : FOwn w0 base v ls) (hB : w0.heap.size ≤ B) (x y z : Value) : FOwn (((w.setCell ⟨B, 0, none⟩ x).setCell ⟨B, 1, none⟩ y).setCell ⟨B, 2, none⟩ z) base v ls :=
  ⟨set3_own h.row (fun e => by have := (h0.row.lt _ e).2; omega) x y z, fun u hu => set3_pown (h.pcs u hu) (fun e => by have := ((h0.pcs u hu).lt _ e).2; omega) x y z⟩
theorem set3_cells {w : World} {B : Nat} {a b c x y z : Value} (c0 : w.cell? ⟨B, 0, none⟩ = some a) (c1 : w.cell? ⟨B, 1, none⟩ = some b) (c2 : w.cell? ⟨B, 2, none⟩ = some c) :
    (((w.setCell ⟨B, 0, none⟩ x).setCell ⟨B, 1, none⟩ y).setCell ⟨B, 2, none⟩ z).cell? ⟨B, 0, none⟩ = some x ∧ (((w.setCell ⟨B, 0, none⟩ x).setCell ⟨B, 1, none⟩ y).setCell ⟨B, 2, none⟩ z).cell? ⟨B, 1, none⟩ = some y ∧ (((w.setCell ⟨B, 0, none⟩ x).setCell ⟨B, 1, none⟩ y).setCell ⟨B, 2, none⟩ z).cell? ⟨B, 2, none⟩ = some z := by
  refine ⟨?_, ?_, ?_⟩
  · rw [World.cell?_setCell_other _ _ _ _ (by simp), World.cell?_setCell_other _ _ _ _ (by simp)]
    exact World.cell?_setCell_same _ _ _ c0
  · rw [World.cell?_setCell_other _ _ _ _ (by simp)]
    refine World.cell?_setCell_same _ _ _ (u := b) ?_
    rw [World.cell?_setCell_other _ _ _ _ (by simp)]
    exact c1
  · refine World.cell?_setCell_same _ _ _ (u := c) ?_
    rw [World.cell?_setCell_other _ _ _ _ (by simp), World.cell?_setCell_other _ _ _ _ (by simp)]
    exact c2
theorem new3 (w : World) (a b c : Value) (t : TypeId) (g : Nat) (hg : g = w.heap.size) : (w.alloc (.cells #[a, b, c] t)).cell? ((⟨g, 0, none⟩ : Addr).add 0) = some a ∧ (w.alloc (.cells #[a, b, c] t)).cell? ((⟨g, 0, none⟩ : Addr).add 1) = some b ∧ (w.alloc (.cells #[a, b, c] t)).cell? ((⟨g, 0, none⟩ : Addr).add 2) = some c := by
  subst hg
  have hh := heap_alloc_new w (.cells #[a, b, c] t)
  simp only [add_plain]
  exact ⟨cell_of_row _ _ _ _ _ _ hh, cell_of_row _ _ _ _ _ _ hh, cell_of_row _ _ _ _ _ _ hh⟩
def FilesPost (w : World) (o : Option (List FileV × List Nat)) (e : Ending) (w' : World) : Prop := match o with
  | none => ∃ ev, e = .returned (.tuple #[.slice none 0 0, .slice none 0 0, ev]) ∧ Faults ev 8 ∧ Below w.heap.size w w'
  | some (l, r) => ∃ ls lv v', ls.map Prod.fst = l ∧ e = .returned (.tuple #[lv, v', .nilIface]) ∧ FOwn w' w.heap.size lv ls ∧ RowT w' v' r ∧ Below w.heap.size w w'
theorem cutFile_short {xs r : List Nat} {f : FileV} (hb : Byt xs) (h : cutFile BP xs = some (f, r)) : r.length ≤ xs.length := by
  have := (cutFile_only hb h).1
  rw [this, List.length_append]
  omega
theorem RowT.byt {w : World} {v : Value} {xs : List Nat} (h : RowT w v xs) : Byt xs := by
  obtain ⟨_, _, _, hb, _⟩ := h.row.lies
  exact hb.2
set_option maxRecDepth 4000 in
set_option maxHeartbeats 2000000 in
theorem cutFiles_any (v : Value) (xs : List Nat) (w : World) (hL : Laid w) (hv : RowT w v xs) (hx : xs.length ≤ 100000) (r : Option (List FileV × List Nat)) (hr : cutL (cutFile BP) xs = r) :
    Calls Tryz.prog 169 #[v, .func (.func 170) #[] #[]] w fun e w' => FilesPost w r e w' := by
  cases h1 : cutNum 524288 xs with
  | none =>
    have hr' : r = none := by rw [← hr]; unfold cutL; rw [h1]
    subst hr'
    have hc := cutNumber_none v xs w hv h1
    go_enter Tryz.func169, Tryz.ntmps169
    go_wp2_with fail
    refine hc.mono ?_
    rintro e w1 ⟨ev, rfl, hfl, hb⟩
    have HFL : Hid (Faults ev 8) := hfl
    obtain ⟨tx, vx, rfl⟩ := hfl.iface
    clear hfl hc
    go_wp2
    go_ret3
    exact ⟨_, rfl, HFL.out, hb⟩
  | some nr =>
    obtain ⟨n, xs1⟩ := nr
    have hr' : manyGo (cutFile BP) n [] xs1 = r := by rw [← hr]; unfold cutL; rw [h1, ← manyGo_start]
    obtain ⟨hsp, hn⟩ := cutNum_only hv.byt h1
    have hx1 : xs1.length ≤ 100000 := by have := congrArg List.length hsp; rw [List.length_append] at this; omega
    have hc := cutNumber_some v xs xs1 n w hv h1
    have HL : Hid (Laid w) := hL
    have HV : Hid (RowT w v xs) := hv
    clear hr h1 hL hv hsp hx
    go_enter Tryz.func169, Tryz.ntmps169
    go_wp2_with fail
    refine hc.mono ?_
    rintro e w1 ⟨v1, rfl, hcy, hb⟩
    have HR1 : Hid (RowT w1 v1 xs1) := (hcy w HV.out).below hb
    have HB1 : Hid (Below w.heap.size w w1) := hb
    have hs1 := hb.size
    have HR0 : Hid _ := hr'
    clear hc hcy hb hr'
    go_wp2
    go_loopw [0, 8, 9, 22] (fun bv ev m i wr => ∃ k ls rest, k ≤ n ∧ i = .int .i64 (k : Nat) ∧ ev = .nilIface ∧ FOwn wr w.heap.size m ls ∧ ls.length = k ∧ RowT wr bv rest ∧ rest.length ≤ 100000 ∧ manyGo (cutFile BP) (n - k) (ls.map Prod.fst) rest = r ∧ Below w.heap.size w wr) (fun _ _ _ i _ => n - (intOf i).toNat)
    case atStart => exact ⟨0, [], xs1, by omega, rfl, rfl, fown_nil _ _, rfl, HR1.out, hx1, HR0.out, HB1.out⟩
    case round =>
      obtain ⟨k, ls, rest, hk, rfl, rfl, hown, hdl, hrow, hrl, hmg, hbel⟩ := hrel
      clear HR0 HB1 HR1
      have hsz := hbel.size
      have HB : Hid (Below w.heap.size w wr) := hbel
      have HO : Hid (FOwn wr w.heap.size _ ls) := hown
      have HR : Hid (RowT wr _ rest) := hrow
      by_cases hkn : k < n
      · have hpc := cutFile_any _ rest _ (HL.out.below (hbel.alloc hsz (.cells #[.string ⟨#[]⟩, .int .i64 0, .slice none 0 0] 147))) (hrow.below (below_alloc wr (.cells #[.string ⟨#[]⟩, .int .i64 0, .slice none 0 0] 147))) hrl
        obtain ⟨j, hj⟩ : ∃ j, n - k = j + 1 := ⟨n - k - 1, by omega⟩
        rw [hj] at hmg
        have hbyt := hrow.byt
        clear hown hrow hbel
        cases h2 : cutFile BP rest with
        | none =>
          rw [manyGo_none h2] at hmg
          subst hmg
          have hpc2 := hpc none h2
          clear hpc h2 HR HO
          go_wp2_with fail
          refine hpc2.mono ?_
          rintro e w2 ⟨ev, rfl, hfl, hb2⟩
          have HFL : Hid (Faults ev 8) := hfl
          obtain ⟨tx, vx, rfl⟩ := hfl.iface
          have hs2 := hb2.size
          simp at hs2
          have hb' : Below (wr.heap.size + 1) (wr.alloc (.cells #[.string ⟨#[]⟩, .int .i64 0, .slice none 0 0] 147)) w2 := hb2.mono (by simp)
          obtain ⟨c0, c1, c2⟩ := box3 hb'
          obtain ⟨f0, f1, f2, _⟩ := box3f hb'
          have HB2 : Hid (Below w.heap.size w w2) := HB.out.trans ((box_below hb').mono hsz)
          clear hfl hb2 hb' hpc2
          go_wp2_with (go_at_call 27; refine (itoa_any k (by omega) _ (HL.out.below (set3_below4 HB2.out (by omega) _ _ _))).mono ?_; rintro e w3 ⟨st, rfl, hb3⟩)
          go_ret3
          have h5 := set3_below4 HB2.out (B := wr.heap.size) (by omega) (.string ByteArray.empty) (.int .i64 0) (.slice none 0 0)
          exact ⟨_, rfl, .more _ HFL.out, h5.trans (hb3.mono h5.size)⟩
        | some pr =>
          obtain ⟨f, rest'⟩ := pr
          rw [manyGo_some h2] at hmg
          have HMG : Hid (manyGo (cutFile BP) j (ls.map Prod.fst ++ [f]) rest' = r) := hmg
          have hsh := cutFile_short hbyt h2
          have hpc2 := hpc (some (f, rest')) h2
          obtain ⟨nm, sz, pl⟩ := f
          clear hpc hmg HR hbyt
          go_wp2_with fail
          refine hpc2.mono ?_
          rintro e w2 ⟨pv, v2, rfl, hpo, hro, hb2⟩
          have hs2 := hb2.size
          simp at hs2
          have hb' : Below (wr.heap.size + 1) (wr.alloc (.cells #[.string ⟨#[]⟩, .int .i64 0, .slice none 0 0] 147)) w2 := hb2.mono (by simp)
          obtain ⟨c0, c1, c2⟩ := box3 hb'
          obtain ⟨f0, f1, f2, hBL⟩ := box3f hb'
          have HB2 : Hid (Below w.heap.size w w2) := HB.out.trans ((box_below hb').mono hsz)
          simp only at hpo
          obtain ⟨qp, mp, rfl, _⟩ := hpo.form
          have ho2 := FOwn.below HO.out (box_below hb')
          have HO3 : Hid (FOwn (((w2.setCell ⟨wr.heap.size, 0, none⟩ (.string nm)).setCell ⟨wr.heap.size, 1, none⟩ (.int .i64 sz)).setCell ⟨wr.heap.size, 2, none⟩ (.slice qp pl.length mp)) w.heap.size _ ls) := ho2.set3 HO.out (Nat.le_refl _) _ _ _
          have HP3 : Hid (POwn (((w2.setCell ⟨wr.heap.size, 0, none⟩ (.string nm)).setCell ⟨wr.heap.size, 1, none⟩ (.int .i64 sz)).setCell ⟨wr.heap.size, 2, none⟩ (.slice qp pl.length mp)) w.heap.size (.slice qp pl.length mp) pl) := (set3_pown hpo (fun e => by have := (hpo.lt _ e).1; simp at this; omega) _ _ _).mono (by simp; omega)
          have HR3 : Hid (RowT (((w2.setCell ⟨wr.heap.size, 0, none⟩ (.string nm)).setCell ⟨wr.heap.size, 1, none⟩ (.int .i64 sz)).setCell ⟨wr.heap.size, 2, none⟩ (.slice qp pl.length mp)) v2 rest') := hro.set3 hBL (by decide) _ _ _
          have HB3 : Hid (Below w.heap.size w (((w2.setCell ⟨wr.heap.size, 0, none⟩ (.string nm)).setCell ⟨wr.heap.size, 1, none⟩ (.int .i64 sz)).setCell ⟨wr.heap.size, 2, none⟩ (.slice qp pl.length mp))) := set3_below4 HB2.out (by omega) _ _ _
          have hW : (((w2.setCell ⟨wr.heap.size, 0, none⟩ (.string nm)).setCell ⟨wr.heap.size, 1, none⟩ (.int .i64 sz)).setCell ⟨wr.heap.size, 2, none⟩ (.slice qp pl.length mp)).heap.size = w2.heap.size := by simp [World.setCell]
          clear hb2 hb' hpc2 ho2 HO HB hpo hro hBL
          obtain ⟨d0, d1, d2⟩ := set3_cells (x := .string nm) (y := .int .i64 sz) (z := .slice qp pl.length mp) c0 c1 c2
          have hnew := new3 (((w2.setCell ⟨wr.heap.size, 0, none⟩ (.string nm)).setCell ⟨wr.heap.size, 1, none⟩ (.int .i64 sz)).setCell ⟨wr.heap.size, 2, none⟩ (.slice qp pl.length mp)) (.string nm) (.int .i64 sz) (.slice qp pl.length mp) 147 w2.heap.size hW.symm
          have HN : Hid _ := hnew
          clear hnew
          go_wp2_with (at_builtin; refine wpList_append_file _ rfl _ _ rfl w.heap.size _ ls (⟨nm, sz, pl⟩, .slice qp pl.length mp) ⟨w2.heap.size, 0, none⟩ _ rfl rfl (FOwn.below HO3.out (below_alloc _ _)) rfl (POwn.below HP3.out (below_alloc _ _)) HN.out.1 HN.out.2.1 HN.out.2.2 (by omega) (by simp; omega) ?_; intro v4 w4 ho4 hg4)
          have HB4 : Hid (Below w.heap.size w w4) := (HB3.out.alloc HB3.out.size _).grown hg4 (by simp; omega) (fun x hx => (HO3.out.row.lt x hx).1)
          have HR4 : Hid (RowT w4 v2 rest') := (HR3.out.below (below_alloc _ _)).grown (FOwn.below HO3.out (below_alloc _ _)).row (by decide) hg4
          go_roundw
          case rel => exact ⟨k + 1, ls ++ [(⟨nm, sz, pl⟩, .slice qp pl.length mp)], rest', by omega, by go_num, rfl, ho4, by simp; omega, HR4.out, by omega, by rw [show n - (k + 1) = j from by omega, List.map_append]; exact HMG.out, HB4.out⟩
          case measure => simp [intOf]; omega
      · obtain rfl : k = n := by omega
        rw [Nat.sub_self, manyGo_end] at hmg
        subst hmg
        clear hown hrow hbel
        go_wp2
        go_ret3
        exact ⟨_, _, _, rfl, rfl, HO.out, HR.out, HB.out⟩
theorem bin_take {w : World} {p : Option Addr} {xs : List Nat} (h : BIn w p xs) (n : Nat) : BIn w p (xs.take n) := by
  refine ⟨fun hp => ?_, fun c hc => h.2 c (List.mem_of_mem_take hc)⟩
  have hn : 0 < n ∧ 0 < xs.length := by rw [List.length_take] at hp; omega
  obtain ⟨b, o, e, hc⟩ := h.1 hn.2
  refine ⟨b, o, e, fun i hi => ?_⟩
  have hi' : i < n ∧ i < xs.length := by simp at hi; omega
  rw [hc i hi'.2]
  simp [List.getD, hi'.1]
set_option maxHeartbeats 1000000 in
theorem begins_any (p : Option Addr) (n c : Nat) (xs : List Nat) (w : World) (hb : BIn w p xs) (hn : n = xs.length) (hc : xs.length ≤ c) (h8 : 8 ≤ xs.length) :
    Calls Tryz.prog 221 #[.slice p n c] w fun e w' => e = .returned (.int .u64 (beg8 xs : Nat)) ∧ Below w.heap.size w w' := by
  subst hn
  have hb8 := bin_take hb 8
  rw [list8' h8] at hb8
  have hg := fun c' => get_ok p c' _ _ _ _ _ _ _ _ w hb8
  obtain ⟨b, o, rfl, _⟩ := hb.1 (by omega)
  clear hb hb8
  go_enter Tryz.func221, Tryz.ntmps221
  go_wp2_with fail
  refine (hg _).mono ?_
  rintro e w1 ⟨rfl, hb1⟩
  go_wp2
  go_ret
  exact ⟨rfl, hb1⟩
def SecOk (xs : List Nat) (i : Nat) : Prop := beg8 (secAt xs i) = beg8 xs ∧ (secAt xs i).getD 8 0 = i
theorem inner_snoc (xs : List Nat) (k : Nat) : innerN xs (k + 1) = innerN xs k ++ (secAt xs k).drop 9 := by
  unfold innerN
  rw [List.range_succ, List.flatMap_append]
  simp
theorem inner_le (xs : List Nat) (k : Nat) : (innerN xs k).length ≤ k * 128 := by
  unfold innerN
  have := flat_le (l := List.range k) (f := fun i => (secAt xs i).drop 9) (c := 128) (fun i _ => by unfold secAt; simp; omega)
  simpa using this
theorem sec_step {xs : List Nat} {k : Nat} (h : ∀ i, i < k → SecOk xs i) (h1 : SecOk xs k) : ∀ i, i < k + 1 → SecOk xs i := by
  intro i hi
  rcases Nat.lt_or_ge i k with h' | h'
  · exact h i h'
  · obtain rfl : i = k := by omega
    exact h1
def JoinPost (w : World) (xs : List Nat) (e : Ending) (w' : World) : Prop :=
  (∃ r, e = .returned (.tuple #[.int .i64 (wrap64 (beg8 xs : Nat)), r, .nilIface]) ∧ (∀ i, i < 8 → SecOk xs i) ∧ w'.ownsRow w.heap.size 5 1 r (innerN xs 8).length (Bs (innerN xs 8)) ∧ Below w.heap.size w w')
  ∨ (∃ ev, e = .returned (.tuple #[.int .i64 0, .slice none 0 0, ev]) ∧ Faults ev 8 ∧ (∃ i, i < 8 ∧ ¬ SecOk xs i) ∧ Below w.heap.size w w')
set_option maxRecDepth 4000 in
set_option maxHeartbeats 2000000 in
theorem joined_any (p : Option Addr) (c : Nat) (xs : List Nat) (w : World) (hb : BIn w p xs) (hlen : xs.length = 1024) (hc : xs.length ≤ c) (hcm : c ≤ maxLen) :
    Calls Tryz.prog 168 #[.slice p 1024 c] w fun e w' => JoinPost w xs e w' := by
  have hbg := begins_any p 1024 c xs w hb hlen.symm hc (by omega)
  obtain ⟨b, o, rfl, _⟩ := hb.1 (by omega)
  have HB : Hid (BIn w (some ⟨b, o, none⟩) xs) := hb
  have hglt := beg8_lt hb.2
  unfold maxLen at hcm
  clear hb
  generalize hG : beg8 xs = G at *
  go_enter Tryz.func168, Tryz.ntmps168
  go_wp2_with fail
  refine hbg.mono ?_
  rintro e w1 ⟨rfl, hb1⟩
  have S0 : St w [] w1 (.slice none 0 0) (innerN xs 0) := ⟨World.ownsRow_nil _ _ _ _, hb1, fun p hp => by simp at hp⟩
  clear hb1 hbg
  go_wp2
  go_loopw [5, 11] (fun m i wr => ∃ k : Nat, k ≤ 8 ∧ i = .int .i64 k ∧ (∀ i, i < k → SecOk xs i) ∧ St w [] wr m (innerN xs k)) (fun _ i _ => 8 - (intOf i).toNat)
  case atStart => exact ⟨0, by omega, rfl, fun i hi => absurd hi (by omega), S0⟩
  case round =>
    obtain ⟨k, hk, rfl, hok, hst⟩ := hrel
    clear S0
    have HS : Hid (St w [] wr _ (innerN xs k)) := hst
    have HK : Hid (∀ i, i < k → SecOk xs i) := hok
    have hbr := HB.out.below hst.bel
    clear hok
    by_cases hk8 : k < 8
    · have hsl : (secAt xs k).length = 128 := secAt_len hlen hk8
      have hsb : BIn wr (some ⟨b, o + k * 128, none⟩) (secAt xs k) := bin_part4 hbr (k * 128) 128 (by omega)
      have hbg2 := begins_any (some ⟨b, o + k * 128, none⟩) ((k + 1) * 128 - k * 128) (c - k * 128) (secAt xs k) wr hsb (by omega) (by omega) (by omega)
      have HSB : Hid (BIn wr (some ⟨b, o + k * 128, none⟩) (secAt xs k)) := hsb
      have hil := inner_le xs k
      have HIS : Hid _ := inner_snoc xs k
      have HNO : Hid (beg8 (secAt xs k) ≠ G → ∃ i, i < 8 ∧ ¬ SecOk xs i) := fun h => ⟨k, hk8, fun h2 => h (by rw [h2.1, hG])⟩
      have HNO2 : Hid ((secAt xs k).getD 8 0 ≠ k → ∃ i, i < 8 ∧ ¬ SecOk xs i) := fun h => ⟨k, hk8, fun h2 => h h2.2⟩
      have HYES : Hid (beg8 (secAt xs k) = G → (secAt xs k).getD 8 0 = k → ∀ i, i < k + 1 → SecOk xs i) := fun h1 h2 => sec_step HK.out ⟨by rw [h1, hG], h2⟩
      clear hst hbr hsb HK
      generalize secAt xs k = S at *
      go_wp2_with fail
      refine hbg2.mono ?_
      rintro e w2 ⟨rfl, hb2⟩
      have HS2 : Hid (St w [] w2 _ (innerN xs k)) := HS.out.call hb2
      have hsz2 := HS2.out.size
      have HSB2 : Hid (BIn w2 (some ⟨b, o + k * 128, none⟩) S) := HSB.out.below hb2
      have e8 : w2.cell? ⟨b, o + k * 128 + 8, none⟩ = some (.int .u8 (S.getD 8 0 : Nat)) := by
        obtain ⟨b', o', e, hcc⟩ := HSB2.out.1 (by omega)
        simp only [Option.some.injEq, Addr.mk.injEq, and_true] at e
        obtain ⟨rfl, rfl⟩ := e
        exact hcc 8 (by omega)
      have h8lt := getD_lt HSB2.out.2 8
      have HB2 : Hid (Below w.heap.size w w2) := HS2.out.bel
      clear hbg2 hb2 HS HSB
      generalize S.getD 8 0 = c8 at *
      by_cases g1 : beg8 S = G
      · have hne : ((beg8 S : Int) != (G : Int)) = false := by simp [g1]
        by_cases g2 : c8 = k
        · have hne2 : ((c8 : Int) != (k : Int)) = false := by simp [g2]
          have HY : Hid (∀ i, i < k + 1 → SecOk xs i) := HYES.out g1 g2
          have hbp : BIn w2 (some ⟨b, o + k * 128 + 9, none⟩) (S.drop 9) := by
            have := bin_part4 HSB2.out 9 119 (by omega)
            rwa [List.take_of_length_le (by simp; omega)] at this
          have HBP : Hid _ := hbp
          clear hbp g1 g2 HYES HNO HNO2
          generalize beg8 S = bs at *
          go_wp2_with (at_builtin; refine wpList_append_bytes _ rfl _ _ rfl w.heap.size _ _ (S.drop 9) (some ⟨b, o + k * 128 + 9, none⟩) _ _ rfl rfl (by rw [List.length_drop]; omega) HS2.out.own HBP.out (fun h => by cases h) (by rw [List.length_drop]; omega) hsz2 ?_; intro v3 w3 ho3 hg3; have S3 := HS2.out.app ho3 hg3)
          go_roundw
          case rel => exact ⟨k + 1, by omega, by go_num, HY.out, S3.eq HIS.out.symm⟩
          case measure => simp [intOf]; omega
        · have hne2 : ((c8 : Int) != (k : Int)) = true := by simp; omega
          have HN : Hid (∃ i, i < 8 ∧ ¬ SecOk xs i) := HNO2.out g2
          clear g1 g2 HYES HNO HNO2
          generalize beg8 S = bs at *
          go_wp2_with (go_at_call 27; refine (itoa_small k (by omega) _).mono ?_; rintro e w3 ⟨st, rfl, hst, rfl⟩)
          go_ret3
          exact .inr ⟨_, rfl, Faults.one _ _, HN.out, HB2.out⟩
      · have hne : ((beg8 S : Int) != (G : Int)) = true := by simp; omega
        have HN : Hid (∃ i, i < 8 ∧ ¬ SecOk xs i) := HNO.out g1
        clear g1 HYES HNO HNO2
        generalize beg8 S = bs at *
        go_wp2_with (go_at_call 27; refine (itoa_small k (by omega) _).mono ?_; rintro e w3 ⟨st, rfl, hst, rfl⟩)
        go_ret3
        exact .inr ⟨_, rfl, Faults.one _ _, HN.out, HB2.out⟩
    · obtain rfl : k = 8 := by omega
      clear hst hbr
      go_wp2
      go_ret3
      exact .inl ⟨_, by rw [hG]; rfl, HK.out, HS.out.own, HS.out.bel⟩
def IdxPost (xs : List Nat) (w : World) (e : Ending) (w' : World) : Prop := ((∃ k : Nat, e = .returned (.int .i64 k) ∧ ∃ x ∈ xs, x ≠ 0) ∧ w' = w) ∨ ((e = .returned (.int .i64 (-1)) ∧ ∀ x ∈ xs, x = 0) ∧ w' = w)
set_option maxHeartbeats 1000000 in
theorem index_nz (p : Option Addr) (n c : Nat) (xs : List Nat) (w : World) (hb : BIn w p xs) (hn : n = xs.length) (hc : xs.length ≤ c) (hcm : c ≤ maxLen) :
    Calls Tryz.prog 225 #[.slice p n c, .func (.func 172) #[] #[]] w fun e w' => IdxPost xs w e w' := by
  subst hn
  unfold maxLen at hcm
  go_enter Tryz.func225, Tryz.ntmps225
  go_wp2
  go_loop [8] (fun i => ∃ k : Nat, k ≤ xs.length ∧ i = .int .i64 k ∧ ∀ j, j < k → xs.getD j 0 = 0) (fun i => xs.length - (intOf i).toNat)
  case atStart => exact ⟨0, by omega, rfl, fun j hj => absurd hj (by omega)⟩
  case round =>
    obtain ⟨k, hk, rfl, hz⟩ := hrel
    have HZ : Hid (∀ j, j < k → xs.getD j 0 = 0) := hz
    clear hz
    by_cases hkl : k < xs.length
    · obtain ⟨b, o, rfl, hcc⟩ := hb.1 (by omega)
      have e1 := hcc k hkl
      have hlt := getD_lt hb.2 k
      have HM : Hid (xs.getD k 0 ≠ 0 → ∃ x ∈ xs, x ≠ 0) := fun h => ⟨_, getD_mem' hkl, h⟩
      have HS : Hid (xs.getD k 0 = 0 → ∀ j, j < k + 1 → xs.getD j 0 = 0) := fun h j hj => by
        rcases Nat.lt_or_ge j k with h' | h'
        · exact HZ.out j h'
        · obtain rfl : j = k := by omega
          exact h
      clear HZ hcc hb
      generalize xs.getD k 0 = y at *
      by_cases g : y = 0
      · have HS2 : Hid _ := HS.out g
        subst g
        clear HM HS
        go_wp2
        go_round
        case rel => exact ⟨k + 1, by omega, by go_num, HS2.out⟩
        case measure => simp [intOf]; omega
      · have HM2 : Hid _ := HM.out g
        have hne : ((y : Int) != 0) = true := by simp; omega
        clear HM HS g
        go_wp2
        go_ret
        exact .inl ⟨⟨k, rfl, HM2.out⟩, rfl⟩
    · obtain rfl : k = xs.length := by omega
      have HA : Hid (∀ x ∈ xs, x = 0) := by
        intro x hx
        obtain ⟨i, hi, rfl⟩ := List.getElem_of_mem hx
        have := HZ.out i hi
        rwa [getD_eq hi] at this
      clear HZ hb
      go_wp2
      go_ret
      exact .inr ⟨⟨rfl, HA.out⟩, rfl⟩
set_option maxHeartbeats 1000000 in
theorem contains_nz (v : Value) (xs : List Nat) (w : World) (hv : Row w v xs) (r : Bool) (hr : r = true ↔ ∃ x ∈ xs, x ≠ 0) :
    Calls Tryz.prog 171 #[v, .func (.func 172) #[] #[]] w fun e w' => e = .returned (.bool r) ∧ w' = w := by
  obtain ⟨p, c, rfl, hb, hlc, hcm, _⟩ := hv.lies
  have hi := index_nz p xs.length c xs w hb rfl hlc hcm
  have HR : Hid (r = true ↔ ∃ x ∈ xs, x ≠ 0) := hr
  clear hr hb
  go_enter Tryz.func171, Tryz.ntmps171
  go_wp2_with fail
  refine hi.mono ?_
  rintro e w1 (⟨⟨k, rfl, h⟩, rfl⟩ | ⟨⟨rfl, h⟩, rfl⟩)
  · have e1 : r = true := HR.out.2 h
    clear h
    go_wp2
    go_ret
    exact ⟨by rw [e1]; rfl, rfl⟩
  · have e1 : r = false := by
      cases r with
      | false => rfl
      | true => obtain ⟨x, hx, hne⟩ := HR.out.1 rfl; exact absurd (h x hx) hne
    clear h
    go_wp2
    go_ret
    exact ⟨by rw [e1]; rfl, rfl⟩
end Go.Proofs.YtghcmllmbpoidaaGreatDoor
