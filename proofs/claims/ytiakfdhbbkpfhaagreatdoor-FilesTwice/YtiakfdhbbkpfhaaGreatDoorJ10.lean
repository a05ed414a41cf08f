/-
  Contract of cutList at pieces.
-/
import Derived.Test.YtiakfdhbbkpfhaaGreatDoorJ09
import Derived.Defers
import Derived.Test.YtiakfdhbbkpfhaaGreatDoorJ08
import Derived.Recover
namespace Go.Proofs.YtiakfdhbbkpfhaaGreatDoor
open Go.RowKit Go.WideShapes Rm

/-- What Write answers: an error's number, or the bytes. -/
inductive Wrote (x : DirV) : Int → List Nat → Prop
  | many (h : 32 < x.files.length) : Wrote x 42 []
  | bad (h1 : x.files.length ≤ 32) (h2 : ¬ May ltS x) : Wrote x 8 []
  | long (h1 : May ltS x) (h2 : 952 < (insideN x.files).length) : Wrote x 42 []
  | ok (h1 : May ltS x) (h2 : (insideN x.files).length ≤ 952) : Wrote x 0 (bytesN x)
theorem Wrote.only {x : DirV} {e f : Int} {b c : List Nat} (h1 : Wrote x e b) (h2 : Wrote x f c) : e = f ∧ b = c := by
  cases h1 with
  | many h => cases h2 with
    | many => exact ⟨rfl, rfl⟩
    | bad a _ => omega
    | long a _ => exact absurd a.many (by omega)
    | ok a _ => exact absurd a.many (by omega)
  | bad h k => cases h2 with
    | many a => omega
    | bad => exact ⟨rfl, rfl⟩
    | long a _ => exact absurd a k
    | ok a _ => exact absurd a k
  | long h k => cases h2 with
    | many a => exact absurd h.many (by omega)
    | bad _ a => exact absurd h a
    | long => exact ⟨rfl, rfl⟩
    | ok _ a => omega
  | ok h k => cases h2 with
    | many a => exact absurd h.many (by omega)
    | bad _ a => exact absurd h a
    | long _ a => omega
    | ok => exact ⟨rfl, rfl⟩
theorem insideN_bytes (l : List FileV) : ∀ c ∈ insideN l, c < 256 := by
  intro c hc
  unfold insideN at hc
  rcases List.mem_append.1 hc with h | h
  · exact smallN_bytes _ c h
  · obtain ⟨f, _, h⟩ := List.mem_flatMap.1 h
    unfold fileN at h
    simp only [List.mem_append] at h
    rcases h with ((h | h) | h) | h
    · exact textN_bytes _ c h
    · exact smallN_bytes _ c h
    · exact smallN_bytes _ c h
    · obtain ⟨p, _, h⟩ := List.mem_flatMap.1 h
      unfold pieceN at h
      rcases List.mem_append.1 h with h | h <;> exact smallN_bytes _ c h
/-- What is answered beside: nil where all is well, else an error that wraps the number. -/
def ErrV (v : Value) (e : Int) : Prop := (e = 0 ∧ v = .nilIface) ∨ (e ≠ 0 ∧ Faults v e)
set_option maxHeartbeats 1000000 in
theorem write_any (v : Value) (x : DirV) (w : World) (hx : DirIn w v x) (hs : ∀ f ∈ x.files, (f.name.size : Int) ≤ 9223372036854775807) (hsum : (allPcs x.files).length ≤ 1000000) :
    Calls Tryz.prog 111 #[v] w fun e w' => ∃ r ev n b, e = .returned (.tuple #[r, ev]) ∧ Wrote x n b ∧ ErrV ev n ∧ w'.ownsRow w.heap.size 5 1 r b.length (Bs b) ∧ Below w.heap.size w w' := by
  obtain ⟨fv, rfl, hf⟩ := hx.lies
  have HX : Hid (DirIn w (.agg #[.int .i64 x.gen, fv]) x) := hx
  have HF : Hid (FIn w fv x.files) := hf
  have hgw := hx.wf
  unfold wf64 at hgw
  obtain ⟨q, c, rfl, hq, hlc, hcm, _⟩ := hf.lies
  unfold maxLen at hcm
  clear hq hx hf
  have hck := check4_any _ x (w.alloc (.cells #[.int .i64 x.gen, .slice q x.files.length c] 31)) (HX.out.below (below_alloc w _)) hs hsum
  by_cases h1 : x.files.length ≤ 32
  · go_enter Tryz.func111, Tryz.ntmps111
    go_wp2_with fail
    refine hck.mono ?_
    rintro e w1 ⟨r, rfl, hr, hb1⟩
    have hs1 := hb1.size
    simp at hs1
    have hb1' : Below (w.heap.size + 1) (w.alloc (.cells #[.int .i64 x.gen, .slice q x.files.length c] 31)) w1 := hb1.mono (by simp)
    obtain ⟨d0, d1⟩ := box2 hb1'
    have HB1 : Hid (Below w.heap.size w w1) := box_below hb1'
    clear hck hb1 hb1'
    rcases hr with ⟨hok, rfl⟩ | ⟨hno, hfl⟩
    · have HM : Hid (May ltS x) := hok
      have hgen := hok.lo
      have hgh := hok.hi
      have hin := inside_any _ x.files w1 (HF.out.below HB1.out) hok.told
      clear hok
      go_wp2_with fail
      refine hin.mono ?_
      rintro e w2 ⟨r2, rfl, ho2, hb2⟩
      have hs2 := hb2.size
      obtain ⟨q2, m2, rfl, _, _, _⟩ := own_form ho2
      have hi2 := own_in ho2 (insideN_bytes _)
      have d0' : w2.cell? ⟨w.heap.size, 0, none⟩ = some (.int .i64 x.gen) := (hb2.cell (by simp; omega)).trans d0
      have HI2 : Hid _ := hi2
      have HB2 : Hid (Below w.heap.size w w2) := HB1.out.trans (hb2.mono (by omega))
      clear hin hb2 ho2 hi2 d0 d1
      obtain ⟨gn, hgn⟩ := Int.eq_ofNat_of_zero_le (show 0 ≤ x.gen by omega)
      have HIL : Hid ((insideN x.files).length ≤ 952 → Wrote x 0 (bytesN x)) := fun h => .ok HM.out h
      have HIG : Hid (952 < (insideN x.files).length → Wrote x 42 []) := fun h => .long HM.out h
      by_cases h2 : (insideN x.files).length ≤ 952
      · have HW := HIL.out h2
        have hpa := parted_any gn q2 m2 _ w2 (by omega) HI2.out h2
        rw [hgn] at d0'
        unfold bytesN at HW
        rw [hgn, Int.toNat_natCast] at HW
        have HW' : Hid (Wrote x 0 (sectsN gn (padN (insideN x.files)) 8)) := HW
        clear HW HIL HIG
        generalize (insideN x.files).length = L at *
        go_wp2_with fail
        refine hpa.mono ?_
        rintro e w3 ⟨r3, rfl, ho3, hb3⟩
        have hs3 := hb3.size
        go_wp2
        go_ret2
        exact ⟨_, _, 0, _, rfl, HW'.out, .inl ⟨rfl, rfl⟩, own_mono ho3 (by omega), HB2.out.trans (hb3.mono (by omega))⟩
      · have HW := HIG.out (by omega)
        have HW' : Hid (Wrote x 42 []) := HW
        clear HW HIL HIG
        generalize (insideN x.files).length = L at *
        go_wp2
        go_ret2
        exact ⟨_, _, 42, [], rfl, HW'.out, .inr ⟨by decide, Faults.one _ _⟩, World.ownsRow_nil _ _ _ _, HB2.out⟩
    · have HW : Hid (Wrote x 8 []) := .bad h1 hno
      have HFL : Hid (Faults r 8) := hfl
      obtain ⟨tx, vx, rfl⟩ := hfl.iface
      clear hfl hno
      go_wp2
      go_ret2
      exact ⟨_, _, 8, [], rfl, HW.out, .inr ⟨by decide, HFL.out⟩, World.ownsRow_nil _ _ _ _, HB1.out⟩
  · go_enter Tryz.func111, Tryz.ntmps111
    go_wp2
    go_ret2
    exact ⟨_, _, 42, [], rfl, .many (by omega), .inr ⟨by decide, Faults.one _ _⟩, World.ownsRow_nil _ _ _ _, below_alloc _ _⟩
end Go.Proofs.YtiakfdhbbkpfhaaGreatDoor
namespace Go.Proofs.YtiakfdhbbkpfhaaGreatDoor
open Go.RowKit Go.WideShapes Rm

theorem number_v (v : Value) (e : Int) (hv : ErrV v e) (w : World) (hg : ErrT w) : Calls Tryz.prog 30 #[v] w fun ev w' => ev = .returned (.int .i64 e) ∧ Below w.heap.size w w' := by
  rcases hv with ⟨rfl, rfl⟩ | ⟨_, h⟩
  · exact number_nil w
  · exact number_any v e h w hg
theorem heap_size_alloc (w : World) (o : Obj) : (w.alloc o).heap.size = w.heap.size + 1 := by simp
theorem vars2 {a b : Value} {s t : TypeId} (w w1 : World) (hb : Below ((w.alloc (.cells #[a] s)).alloc (.cells #[b] t)).heap.size ((w.alloc (.cells #[a] s)).alloc (.cells #[b] t)) w1) :
    w1.cell? ⟨w.heap.size, 0, none⟩ = some a ∧ w1.cell? ⟨w.heap.size + 1, 0, none⟩ = some b ∧ w1.frozen? ⟨w.heap.size, 0, none⟩ = false ∧ w1.frozen? ⟨w.heap.size + 1, 0, none⟩ = false := by
  refine ⟨?_, ?_, ?_, ?_⟩
  · rw [hb.cell (by simp; omega), World.cell?_alloc_lt _ _ _ (by simp)]; simp
  · rw [hb.cell (by simp)]; simp
  · rw [hb.frozen (by simp; omega), World.frozen?_alloc_old _ _ _ (by simp)]; simp
  · rw [hb.frozen (by simp)]; simp
theorem doorV {A E : Addr} {w : World} {ev oa oe : Value} (hne : A ≠ E) (ha : w.cell? A = some oa) (he : w.cell? E = some oe) (_fa : w.frozen? A = false) (fe : w.frozen? E = false) :
    ((w.setCell A ev).setCell E (.int .i64 0)).cell? A = some ev ∧ ((w.setCell A ev).setCell E (.int .i64 0)).cell? E = some (.int .i64 0) ∧ ((w.setCell A ev).setCell E (.int .i64 0)).frozen? E = false := by
  refine ⟨?_, ?_, ?_⟩
  · rw [World.cell?_setCell_other _ _ _ _ (Ne.symm hne)]
    exact World.cell?_setCell_same _ _ _ ha
  · refine World.cell?_setCell_same _ _ _ (u := oe) ?_
    rw [World.cell?_setCell_other _ _ _ _ hne]
    exact he
  · simp [fe]
end Go.Proofs.YtiakfdhbbkpfhaaGreatDoor
namespace Go.Proofs.YtiakfdhbbkpfhaaGreatDoor
open Go.RowKit Go.WideShapes Rm

/-- A []byte whose block is one of bytes. -/
structure RowT (w : World) (v : Value) (xs : List Nat) : Prop where
  row : Row w v xs
  blk : 0 < xs.length → ∃ b o n c C fr, v = .slice (some ⟨b, o, none⟩) n c ∧ w.heap[b]? = some (.cells C 5 fr)
theorem RowT.below {w w' : World} {v : Value} {xs : List Nat} (h : RowT w v xs) (hb : Below w.heap.size w w') : RowT w' v xs :=
  ⟨h.row.below hb, fun hp => by obtain ⟨b, o, n, c, C, fr, h1, h2⟩ := h.blk hp; exact ⟨b, o, n, c, C, fr, h1, (hb.block b (lt_heap h2)).trans h2⟩⟩
/-- Wherever v reads as xs, v' reads as ys. -/
def Carry (v : Value) (xs : List Nat) (v' : Value) (ys : List Nat) : Prop := ∀ w, RowT w v xs → RowT w v' ys
theorem Carry.trans {a b c : Value} {xs ys zs : List Nat} (h : Carry a xs b ys) (k : Carry b ys c zs) : Carry a xs c zs := fun w hw => k w (h w hw)
theorem carry_sub {b o c k : Nat} {xs : List Nat} (hc : xs.length ≤ c) (hk : k ≤ xs.length) : Carry (.slice (some ⟨b, o, none⟩) xs.length c) xs (.slice (if c = k then some ⟨b, o, none⟩ else some ⟨b, o + k, none⟩) (xs.length - k) (c - k)) (xs.drop k) := by
  intro w h
  obtain ⟨p, c', e, hb, h1, h2, _⟩ := h.row.lies
  simp only [Value.slice.injEq, true_and] at e
  obtain ⟨rfl, rfl⟩ := e
  have hbp := bin_part hb c k hc (xs.length - k)
  rw [List.take_of_length_le (by simp)] at hbp
  refine ⟨⟨_, c - k, by rw [List.length_drop], hbp, by rw [List.length_drop]; omega, by omega, fun h => by split at h <;> simp at h⟩, fun hp => ?_⟩
  obtain ⟨b', o', n, c'', C, fr, e, h5⟩ := h.blk (by simp at hp; omega)
  simp only [Value.slice.injEq, Option.some.injEq, Addr.mk.injEq, and_true] at e
  obtain ⟨⟨rfl, rfl⟩, _, _⟩ := e
  split
  · exact ⟨b, o, _, _, C, fr, rfl, h5⟩
  · exact ⟨b, o + k, _, _, C, fr, rfl, h5⟩
theorem own_rowT {w : World} {base : Nat} {v : Value} {xs : List Nat} (h : w.ownsRow base 5 1 v xs.length (Bs xs)) (hx : ∀ c ∈ xs, c < 256) : RowT w v xs := by
  obtain ⟨q, m, rfl, h1, h2, h3⟩ := own_form h
  refine ⟨⟨q, m, rfl, own_in h hx, h1, h2, h3⟩, fun hp => ?_⟩
  rcases h.2 with ⟨_, h0⟩ | ⟨g, cap, cur, hv, _, hg, _⟩
  · omega
  · exact ⟨g, 0, _, cap, cur, (0, 0), hv, hg⟩
theorem cutNum_cases (B : Nat) (xs : List Nat) : (readN xs = none ∧ cutNum B xs = none) ∨ (∃ n k, readN xs = some (n, k) ∧ B < n ∧ cutNum B xs = none) ∨ ∃ n k, readN xs = some (n, k) ∧ n ≤ B ∧ cutNum B xs = some (n, xs.drop k) := by
  cases h : readN xs with
  | none => exact .inl ⟨rfl, by unfold cutNum; rw [h]⟩
  | some nk =>
    obtain ⟨n, k⟩ := nk
    rcases Nat.lt_or_ge B n with h1 | h1
    · exact .inr (.inl ⟨n, k, rfl, h1, by unfold cutNum; rw [h]; simp [h1]⟩)
    · exact .inr (.inr ⟨n, k, rfl, h1, by unfold cutNum; rw [h]; simp; omega⟩)
set_option maxHeartbeats 1000000 in
theorem cutNumber_none (v : Value) (xs : List Nat) (w : World) (hv : RowT w v xs) (h : cutNum 524288 xs = none) :
    Calls Tryz.prog 149 #[v] w fun e w' => ∃ ev, e = .returned (.tuple #[.int .i64 0, .slice none 0 0, ev]) ∧ Faults ev 8 ∧ Below w.heap.size w w' := by
  obtain ⟨p, c, rfl, hb, hlc, hcm, _⟩ := hv.row.lies
  rcases cutNum_cases 524288 xs with ⟨h1, _⟩ | ⟨n, k, h1, h2, _⟩ | ⟨n, k, _, _, h3⟩
  · have hrd := read_none p xs.length c xs w rfl hb (by omega) h1
    clear h h1
    go_enter Tryz.func149, Tryz.ntmps149
    go_wp2_with fail
    refine hrd.mono ?_
    rintro e w1 ⟨rfl, rfl⟩
    go_wp2
    go_ret3
    exact ⟨_, rfl, Faults.one _ _, Below.refl _ _⟩
  · have hrd := read_some p xs.length c xs w n k rfl hb (by omega) h1
    clear h h1
    go_enter Tryz.func149, Tryz.ntmps149
    go_wp2_with fail
    refine hrd.mono ?_
    rintro e w1 ⟨rfl, rfl⟩
    go_wp2
    go_ret3
    exact ⟨_, rfl, Faults.one _ _, Below.refl _ _⟩
  · rw [h3] at h; cases h
set_option maxHeartbeats 1000000 in
theorem cutNumber_some (v : Value) (xs r : List Nat) (n : Nat) (w : World) (hv : RowT w v xs) (h : cutNum 524288 xs = some (n, r)) :
    Calls Tryz.prog 149 #[v] w fun e w' => ∃ v', e = .returned (.tuple #[.int .i64 n, v', .nilIface]) ∧ Carry v xs v' r ∧ Below w.heap.size w w' := by
  obtain ⟨p, c, rfl, hb, hlc, hcm, hpn⟩ := hv.row.lies
  rcases cutNum_cases 524288 xs with ⟨_, h1⟩ | ⟨_, _, _, _, h1⟩ | ⟨n', k, h1, h2, h3⟩
  · rw [h1] at h; cases h
  · rw [h1] at h; cases h
  · rw [h3] at h
    simp only [Option.some.injEq, Prod.mk.injEq] at h
    obtain ⟨rfl, rfl⟩ := h
    obtain ⟨k1, k2, k3, k4⟩ := readN_some h1
    obtain ⟨b, o, rfl, _⟩ := hb.1 (by omega)
    have hrd := read_some _ xs.length c xs w n' k rfl hb (by omega) h1
    unfold maxLen at hcm
    have hw : IntKind.i64.wrap (n' : Int) = (n' : Int) := by rw [IntKind.wrap_i64]; omega
    clear h1 h3 hb
    go_enter Tryz.func149, Tryz.ntmps149
    go_wp2_with fail
    refine hrd.mono ?_
    rintro e w1 ⟨rfl, rfl⟩
    go_wp2
    go_quiet (fail)
    have hcy : Carry _ _ _ _ := carry_sub (b := b) (o := o) hlc (by omega : k ≤ xs.length)
    have HC : Hid _ := hcy
    clear hcy
    generalize (if c = k then some (⟨b, o, none⟩ : Addr) else some ⟨b, o + k, none⟩) = q' at *
    go_wp2
    go_ret3
    exact ⟨_, rfl, HC.out, below_drewN (Below.refl _ _) _⟩

theorem cutPiece_cases (xs : List Nat) : (cutNum 524288 xs = none ∧ cutPiece 524288 524288 xs = none) ∨ (∃ n r, cutNum 524288 xs = some (n, r) ∧ cutNum 524288 r = none ∧ cutPiece 524288 524288 xs = none) ∨ ∃ n r m s, cutNum 524288 xs = some (n, r) ∧ cutNum 524288 r = some (m, s) ∧ cutPiece 524288 524288 xs = some (((n : Int), (m : Int)), s) := by
  cases h : cutNum 524288 xs with
  | none => exact .inl ⟨rfl, by unfold cutPiece; rw [h]⟩
  | some nr =>
    obtain ⟨n, r⟩ := nr
    cases h2 : cutNum 524288 r with
    | none => exact .inr (.inl ⟨n, r, rfl, h2, by unfold cutPiece; rw [h]; simp [h2]⟩)
    | some ms =>
      obtain ⟨m, s⟩ := ms
      exact .inr (.inr ⟨n, r, m, s, rfl, h2, by unfold cutPiece; rw [h]; simp [h2]⟩)
/-- What cutPiece answers. -/
def PiecePost (w : World) (v : Value) (xs : List Nat) (o : Option ((Int × Int) × List Nat)) (e : Ending) (w' : World) : Prop := match o with
  | none => ∃ ev, e = .returned (.tuple #[.agg #[.int .i64 0, .int .i64 0], .slice none 0 0, ev]) ∧ Faults ev 8 ∧ Below w.heap.size w w'
  | some (p, r) => ∃ v', e = .returned (.tuple #[.agg #[.int .i64 p.1, .int .i64 p.2], v', .nilIface]) ∧ Carry v xs v' r ∧ Below w.heap.size w w'
theorem results_cell_tmp2 {fn : Func} {p u x : Tmp} {ty : TypeId} (h : fn.results = #[.cell p ty, .tmp u, .tmp x]) (tmps : Array Value) (P : Program) (w : World) :
    (results fn tmps).run P w = ((asAddr (tmps.getD p undef)).run P w).andThen fun a w₁ => ((loadVar ty a).run P w₁).andThen fun v w₂ => .ok (.tuple #[v, tmps.getD u undef, tmps.getD x undef]) w₂ := by
  simp only [results, h]
  simp [Sem.run_bind, Result.andThen]
theorem box2f {w wr : World} {a b : Value} {t : TypeId} (h : Below (w.heap.size + 1) (w.alloc (.cells #[a, b] t)) wr) :
    wr.frozen? ⟨w.heap.size, 0, none⟩ = false ∧ wr.frozen? ⟨w.heap.size, 1, none⟩ = false := by
  constructor <;> (rw [h.frozen (by simp)]; simp)
theorem set2_below {base B : Nat} {w0 w : World} (h : Below base w0 w) (hB : base ≤ B) (a b : Value) : Below base w0 ((w.setCell ⟨B, 0, none⟩ a).setCell ⟨B, 1, none⟩ b) :=
  (h.setCell (p := ⟨B, 0, none⟩) hB a).setCell (p := ⟨B, 1, none⟩) hB b
set_option maxHeartbeats 1000000 in
theorem cutPiece_any (v : Value) (xs : List Nat) (w : World) (hv : RowT w v xs) (r : Option ((Int × Int) × List Nat)) (hr : cutPiece 524288 524288 xs = r) :
    Calls Tryz.prog 152 #[v] w fun e w' => PiecePost w v xs r e w' := by
  have hv1 := hv.below (below_alloc w (.cells #[.int .i64 0, .int .i64 0] 53))
  rcases cutPiece_cases xs with ⟨h1, h2⟩ | ⟨n, r1, h1, h2, h3⟩ | ⟨n, r1, m, r2, h1, h2, h3⟩
  · rw [h2] at hr
    subst hr
    have hc := cutNumber_none v xs _ hv1 h1
    go_enter Tryz.func152, Tryz.ntmps152
    go_wp2_with fail
    refine hc.mono ?_
    rintro e w1 ⟨ev, rfl, hfl, hb⟩
    have HFL : Hid (Faults ev 8) := hfl
    obtain ⟨tx, vx, rfl⟩ := hfl.iface
    have hb' : Below (w.heap.size + 1) (w.alloc (.cells #[.int .i64 0, .int .i64 0] 53)) w1 := hb.mono (by simp)
    obtain ⟨c0, c1⟩ := box2 hb'
    obtain ⟨f0, f1⟩ := box2f hb'
    have HB : Hid (Below w.heap.size w w1) := box_below hb'
    clear hfl hb hb' hc
    go_wp2
    (try simp only [Exit.inBlock, Exit.then])
    refine bodyPost_ret (v := .tuple #[.agg #[.int .i64 0, .int .i64 0], .slice none 0 0, .iface 120 (.agg #[.string ⟨#[102, 114, 111, 109]⟩, .iface tx vx])]) ?_ rfl ?_
    · rw [results_cell_tmp2 rfl]
      go_simp
    · exact ⟨_, rfl, .more _ HFL.out, set2_below HB.out (by omega) _ _⟩
  · rw [h3] at hr
    subst hr
    have hc := cutNumber_some v xs r1 n _ hv1 h1
    go_enter Tryz.func152, Tryz.ntmps152
    go_wp2_with fail
    refine hc.mono ?_
    rintro e w1 ⟨v1, rfl, hr1, hb⟩
    have hc2 := cutNumber_none v1 r1 w1 ((hr1 _ hv1).below hb) h2
    have hs1 := hb.size
    simp at hs1
    clear hc
    go_wp2_with fail
    refine hc2.mono ?_
    rintro e w2 ⟨ev, rfl, hfl, hb2⟩
    have HFL : Hid (Faults ev 8) := hfl
    obtain ⟨tx, vx, rfl⟩ := hfl.iface
    have hb' : Below (w.heap.size + 1) (w.alloc (.cells #[.int .i64 0, .int .i64 0] 53)) w2 := (hb.mono (by simp)).trans (hb2.mono (by omega))
    obtain ⟨c0, c1⟩ := box2 hb'
    obtain ⟨f0, f1⟩ := box2f hb'
    have HB : Hid (Below w.heap.size w w2) := box_below hb'
    clear hfl hb hb2 hb' hc2 hr1
    go_wp2
    (try simp only [Exit.inBlock, Exit.then])
    refine bodyPost_ret (v := .tuple #[.agg #[.int .i64 0, .int .i64 0], .slice none 0 0, .iface 120 (.agg #[.string ⟨#[99, 111, 117, 110, 116]⟩, .iface tx vx])]) ?_ rfl ?_
    · rw [results_cell_tmp2 rfl]
      go_simp
    · exact ⟨_, rfl, .more _ HFL.out, set2_below HB.out (by omega) _ _⟩
  · rw [h3] at hr
    subst hr
    have hc := cutNumber_some v xs r1 n _ hv1 h1
    go_enter Tryz.func152, Tryz.ntmps152
    go_wp2_with fail
    refine hc.mono ?_
    rintro e w1 ⟨v1, rfl, hr1, hb⟩
    have hc2 := cutNumber_some v1 r1 r2 m w1 ((hr1 _ hv1).below hb) h2
    have hs1 := hb.size
    simp at hs1
    clear hc
    go_wp2_with fail
    refine hc2.mono ?_
    rintro e w2 ⟨v2, rfl, hr2, hb2⟩
    have hb' : Below (w.heap.size + 1) (w.alloc (.cells #[.int .i64 0, .int .i64 0] 53)) w2 := (hb.mono (by simp)).trans (hb2.mono (by omega))
    obtain ⟨c0, c1⟩ := box2 hb'
    obtain ⟨f0, f1⟩ := box2f hb'
    have HB : Hid (Below w.heap.size w w2) := box_below hb'
    have HR : Hid (Carry v xs v2 r2) := hr1.trans hr2
    clear hr2 hb hb2 hb' hc2 hr1
    go_wp2
    (try simp only [Exit.inBlock, Exit.then])
    refine bodyPost_ret (v := .tuple #[.agg #[.int .i64 n, .int .i64 m], v2, .nilIface]) ?_ rfl ?_
    · rw [results_cell_tmp2 rfl]
      go_simp
    · exact ⟨_, rfl, HR.out, set2_below HB.out (by omega) _ _⟩
end Go.Proofs.YtiakfdhbbkpfhaaGreatDoor
namespace Go.Proofs.YtiakfdhbbkpfhaaGreatDoor
open Go.RowKit Go.WideShapes Rm

/-- So many things read, some being there already. -/
def manyGo {α : Type} (f : List Nat → Option (α × List Nat)) (n : Nat) (done : List α) (b : List Nat) : Option (List α × List Nat) := match cutMany f n b with
  | none => none
  | some (l, r) => some (done ++ l, r)
theorem manyGo_start {α : Type} (f : List Nat → Option (α × List Nat)) (n : Nat) (b : List Nat) : cutMany f n b = manyGo f n [] b := by
  unfold manyGo
  split <;> simp_all
theorem manyGo_none {α : Type} {f : List Nat → Option (α × List Nat)} {n : Nat} {done : List α} {b : List Nat} (h : f b = none) : manyGo f (n + 1) done b = none := by
  simp [manyGo, cutMany, h]
theorem manyGo_some {α : Type} {f : List Nat → Option (α × List Nat)} {n : Nat} {done : List α} {b r : List Nat} {x : α} (h : f b = some (x, r)) : manyGo f (n + 1) done b = manyGo f n (done ++ [x]) r := by
  simp only [manyGo, cutMany, h]
  cases cutMany f n r with
  | none => rfl
  | some lr => simp
theorem manyGo_end {α : Type} (f : List Nat → Option (α × List Nat)) (done : List α) (b : List Nat) : manyGo f 0 done b = some (done, b) := by simp [manyGo, cutMany]
/-- A number, and as many things. -/
def cutL {α : Type} (f : List Nat → Option (α × List Nat)) (b : List Nat) : Option (List α × List Nat) := match cutNum 524288 b with
  | none => none
  | some (n, r) => cutMany f n r
def PcsPost (w : World) (v : Value) (xs : List Nat) (o : Option (Pcs × List Nat)) (e : Ending) (w' : World) : Prop := match o with
  | none => ∃ ev, e = .returned (.tuple #[.slice none 0 0, .slice none 0 0, ev]) ∧ Faults ev 8 ∧ Below w.heap.size w w'
  | some (l, r) => ∃ lv v', e = .returned (.tuple #[lv, v', .nilIface]) ∧ POwn w' w.heap.size lv l ∧ Carry v xs v' r ∧ Below w.heap.size w w'
theorem pcs_new (w : World) (a n : Int) : PcsIn (w.alloc (.cells #[.int .i64 a, .int .i64 n] 53)) (some ⟨w.heap.size, 0, none⟩) [(a, n)] := by
  intro _
  refine ⟨w.heap.size, 0, rfl, fun i hi => ?_⟩
  have hh := heap_alloc_new w (.cells #[.int .i64 a, .int .i64 n] 53)
  obtain rfl : i = 0 := by simpa using hi
  exact ⟨cell_of_row _ _ _ _ _ _ hh, cell_of_row _ _ _ _ _ _ hh⟩
theorem pcs_new' (w : World) (a n : Int) (g : Nat) (hg : g = w.heap.size) : PcsIn (w.alloc (.cells #[.int .i64 a, .int .i64 n] 53)) (some ⟨g, 0, none⟩) [(a, n)] := by subst hg; exact pcs_new w a n
theorem set2_pown {w : World} {base B : Nat} {v : Value} {l : Pcs} (h : POwn w base v l) (hne : v.ownBlock ≠ some B) (x y : Value) : POwn ((w.setCell ⟨B, 0, none⟩ x).setCell ⟨B, 1, none⟩ y) base v l := by
  refine World.ownsRow.kept (row := some B) h ⟨rfl, rfl, rfl, by simp [World.setCell], fun k hk hne => ?_⟩ (by cases hv : v.ownBlock with | none => exact .inl rfl | some g => exact .inr (by rw [← hv]; exact hne))
  rw [Below.heap_setCell _ _ _ _ (fun e => hne (by rw [e])), Below.heap_setCell _ _ _ _ (fun e => hne (by rw [e]))]

set_option maxRecDepth 4000 in
set_option maxHeartbeats 2000000 in
theorem cutPcs_any (v : Value) (xs : List Nat) (w : World) (hL : Laid w) (hv : RowT w v xs) (r : Option (Pcs × List Nat)) (hr : cutL (cutPiece 524288 524288) xs = r) :
    Calls Tryz.prog 151 #[v, .func (.func 152) #[] #[]] w fun e w' => PcsPost w v xs r e w' := by
  cases h1 : cutNum 524288 xs with
  | none =>
    have hr' : r = none := by rw [← hr]; unfold cutL; rw [h1]
    subst hr'
    have hc := cutNumber_none v xs w hv h1
    go_enter Tryz.func151, Tryz.ntmps151
    go_wp2_with fail
    refine hc.mono ?_
    rintro e w1 ⟨ev, rfl, hfl, hb⟩
    have HFL : Hid (Faults ev 8) := hfl
    obtain ⟨tx, vx, rfl⟩ := hfl.iface
    clear hfl hc
    go_wp2
    go_ret3
    exact ⟨_, rfl, HFL.out, hb⟩
  | some nr =>
    obtain ⟨n, xs1⟩ := nr
    have hr' : manyGo (cutPiece 524288 524288) n [] xs1 = r := by rw [← hr]; unfold cutL; rw [h1, ← manyGo_start]
    have hn : n ≤ 524288 := by
      rcases cutNum_cases 524288 xs with ⟨_, h2⟩ | ⟨_, _, _, _, h2⟩ | ⟨n', k, _, h2, h3⟩
      · rw [h2] at h1; cases h1
      · rw [h2] at h1; cases h1
      · rw [h3] at h1
        simp only [Option.some.injEq, Prod.mk.injEq] at h1
        omega
    have hc := cutNumber_some v xs xs1 n w hv h1
    have HL : Hid (Laid w) := hL
    have HV : Hid (RowT w v xs) := hv
    clear hr h1 hL hv
    go_enter Tryz.func151, Tryz.ntmps151
    go_wp2_with fail
    refine hc.mono ?_
    rintro e w1 ⟨v1, rfl, hcy, hb⟩
    have HC : Hid (Carry v xs v1 xs1) := hcy
    have HB1 : Hid (Below w.heap.size w w1) := hb
    have hs1 := hb.size
    have HR0 : Hid _ := hr'
    clear hc hcy hb hr'
    go_wp2
    go_loopw [0, 8, 9, 22] (fun bv ev m i wr => ∃ k done rest, k ≤ n ∧ i = .int .i64 (k : Nat) ∧ ev = .nilIface ∧ POwn wr w.heap.size m done ∧ done.length = k ∧ Carry v xs bv rest ∧ manyGo (cutPiece 524288 524288) (n - k) done rest = r ∧ Below w.heap.size w wr) (fun _ _ _ i _ => n - (intOf i).toNat)
    case atStart => exact ⟨0, [], xs1, by omega, rfl, rfl, pown_nil _ _, rfl, HC.out, HR0.out, HB1.out⟩
    case round =>
      obtain ⟨k, done, rest, hk, rfl, rfl, hown, hdl, hcy, hmg, hbel⟩ := hrel
      clear HR0 HB1 HC
      have hsz := hbel.size
      have HB : Hid (Below w.heap.size w wr) := hbel
      have HO : Hid _ := hown
      have HC : Hid (Carry v xs _ rest) := hcy
      have hrow := (hcy w HV.out).below hbel
      by_cases hkn : k < n
      · have hpc := cutPiece_any _ rest _ (hrow.below (below_alloc wr (.cells #[.int .i64 0, .int .i64 0] 53)))
        obtain ⟨j, hj⟩ : ∃ j, n - k = j + 1 := ⟨n - k - 1, by omega⟩
        rw [hj] at hmg
        have hlto := hown.lt
        clear hown hcy hrow hbel
        cases h2 : cutPiece 524288 524288 rest with
        | none =>
          rw [manyGo_none h2] at hmg
          subst hmg
          have hpc2 := hpc none h2
          clear hpc h2
          go_wp2_with fail
          refine hpc2.mono ?_
          rintro e w2 ⟨ev, rfl, hfl, hb2⟩
          have HFL : Hid (Faults ev 8) := hfl
          obtain ⟨tx, vx, rfl⟩ := hfl.iface
          have hs2 := hb2.size
          simp at hs2
          have hb' : Below (wr.heap.size + 1) (wr.alloc (.cells #[.int .i64 0, .int .i64 0] 53)) w2 := hb2.mono (by simp)
          obtain ⟨c0, c1⟩ := box2 hb'
          obtain ⟨f0, f1⟩ := box2f hb'
          have HB2 : Hid (Below w.heap.size w w2) := HB.out.trans ((box_below hb').mono hsz)
          have HL2 : Hid (Laid ((w2.setCell ⟨wr.heap.size, 0, none⟩ (.int .i64 0)).setCell ⟨wr.heap.size, 1, none⟩ (.int .i64 0))) := HL.out.below (set2_below HB2.out (by omega) _ _)
          clear hfl hb2 hb' hpc2
          go_wp2_with (go_at_call 148; refine (itoa_any k (by omega) _ HL2.out).mono ?_; rintro e w3 ⟨st, rfl, hb3⟩)
          go_ret3
          have h5 := set2_below HB2.out (B := wr.heap.size) (by omega) (.int .i64 0) (.int .i64 0)
          exact ⟨_, rfl, .more _ HFL.out, h5.trans (hb3.mono h5.size)⟩
        | some pr =>
          obtain ⟨⟨a, m⟩, rest'⟩ := pr
          rw [manyGo_some h2] at hmg
          have HMG : Hid (manyGo (cutPiece 524288 524288) j (done ++ [(a, m)]) rest' = r) := hmg
          have hpc2 := hpc (some ((a, m), rest')) h2
          clear hpc hmg
          go_wp2_with fail
          refine hpc2.mono ?_
          rintro e w2 ⟨v2, rfl, hcy2, hb2⟩
          have hs2 := hb2.size
          simp at hs2
          have hb' : Below (wr.heap.size + 1) (wr.alloc (.cells #[.int .i64 0, .int .i64 0] 53)) w2 := hb2.mono (by simp)
          obtain ⟨c0, c1⟩ := box2 hb'
          obtain ⟨f0, f1⟩ := box2f hb'
          have HB2 : Hid (Below w.heap.size w w2) := HB.out.trans ((box_below hb').mono hsz)
          have HC2 : Hid (Carry v xs v2 rest') := HC.out.trans hcy2
          have ho2 := POwn.below HO.out (box_below hb')
          have ho3 := set2_pown ho2 (B := wr.heap.size) (fun e => by have := (hlto _ e).2; omega) (.int .i64 a) (.int .i64 m)
          have hb3 := set2_below HB2.out (B := wr.heap.size) (by omega) (.int .i64 a) (.int .i64 m)
          have hd0 : ((w2.setCell ⟨wr.heap.size, 0, none⟩ (.int .i64 a)).setCell ⟨wr.heap.size, 1, none⟩ (.int .i64 m)).cell? ⟨wr.heap.size, 0, none⟩ = some (.int .i64 a) := by
            rw [World.cell?_setCell_other _ _ _ _ (by simp)]; exact World.cell?_setCell_same _ _ _ c0
          have hd1 : ((w2.setCell ⟨wr.heap.size, 0, none⟩ (.int .i64 a)).setCell ⟨wr.heap.size, 1, none⟩ (.int .i64 m)).cell? ⟨wr.heap.size, 1, none⟩ = some (.int .i64 m) :=
            World.cell?_setCell_same _ _ _ (u := .int .i64 0) (by rw [World.cell?_setCell_other _ _ _ _ (by simp)]; exact c1)
          clear hb2 hb' hpc2 hcy2 ho2 HC HO HB
          have HO3 : Hid _ := ho3
          have HB3 : Hid _ := hb3
          have hs3 := hb3.size
          clear ho3 hb3
          go_wp2_with (at_builtin; refine wpList_append_pcs _ rfl _ _ rfl w.heap.size _ done [(a, m)] (some ⟨w2.heap.size, 0, none⟩) _ _ rfl rfl rfl (POwn.below HO3.out (below_alloc _ _)) (pcs_new' _ a m _ (by simp [World.setCell])) (fun h => by cases h) (by simp; omega) (by simp; omega) ?_; intro v4 w4 ho4 hg4)
          have HB4 : Hid (Below w.heap.size w w4) := (HB3.out.alloc HB3.out.size _).grown hg4 (by simp; omega) (fun x hx => (POwn.lt HO3.out x hx).1)
          go_roundw
          case rel => exact ⟨k + 1, done ++ [(a, m)], rest', by omega, by go_num, rfl, ho4, by simp; omega, HC2.out, by rw [show n - (k + 1) = j from by omega]; exact HMG.out, HB4.out⟩
          case measure => simp [intOf]; omega
      · obtain rfl : k = n := by omega
        rw [Nat.sub_self, manyGo_end] at hmg
        subst hmg
        clear hown hcy hrow hbel
        go_wp2
        go_ret3
        exact ⟨_, _, rfl, HO.out, HC.out, HB.out⟩
end Go.Proofs.YtiakfdhbbkpfhaaGreatDoor
