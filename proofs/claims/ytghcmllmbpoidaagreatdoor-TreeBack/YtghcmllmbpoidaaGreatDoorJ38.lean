import Derived.Test.YtghcmllmbpoidaaGreatDoorJ37
import Derived.Test.YtghcmllmbpoidaaGreatDoorJ34
import Derived.Test.YtghcmllmbpoidaaGreatDoorJ36
import Derived.Test.YtghcmllmbpoidaaGreatDoorJ03
import Derived.Test.YtghcmllmbpoidaaGreatDoorJ14
namespace Go.Proofs.YtghcmllmbpoidaaGreatDoor.Mg
set_option maxRecDepth 8000
open Go.RowKit Go.WideShapes
def RowsIn (w : World) (q : Option Addr) (R : List RV) : Prop := 0 < R.length → ∃ b o, q = some ⟨b, o, none⟩ ∧ ∀ i, i < R.length → w.cell? ⟨b, o + i, none⟩ = some (rvV (R.getD i zR))
structure RowsL (w : World) (q : Option Addr) (n : Nat) (R : List RV) : Prop where
  n : n = R.length
  lies : RowsIn w q R
  each : ∀ r ∈ R, RowOk w r
theorem RowsIn.below {w w' : World} {q : Option Addr} {R : List RV} (h : RowsIn w q R) (hb : Below w.heap.size w w') : RowsIn w' q R := by
  intro hp
  obtain ⟨b, o, rfl, hc⟩ := h hp
  exact ⟨b, o, rfl, fun i hi => cell_below (hc i hi) hb⟩
theorem RowsL.below {w w' : World} {q : Option Addr} {n : Nat} {R : List RV} (h : RowsL w q n R) (hb : Below w.heap.size w w') : RowsL w' q n R := ⟨h.n, h.lies.below hb, fun r hr => (h.each r hr).below hb⟩
theorem RowsL.at {w : World} {q : Option Addr} {n : Nat} {R : List RV} (h : RowsL w q n R) {i : Nat} (hi : i < R.length) : ∃ b o, q = some ⟨b, o, none⟩ ∧ w.cell? ⟨b, o + i, none⟩ = some (rvV (R.getD i zR)) := by
  obtain ⟨b, o, e, hc⟩ := h.lies (by omega)
  exact ⟨b, o, e, hc i hi⟩
def entsR (R : List RV) : List EntV := (R.map RV.l).flatten
theorem entsR_cons (r : RV) (R : List RV) : entsR (r :: R) = r.l ++ entsR R := by simp [entsR]
theorem entsR_app (R S : List RV) : entsR (R ++ S) = entsR R ++ entsR S := by simp [entsR]
theorem entsR_perm {R S : List RV} (h : R.Perm S) : (entsR R).Perm (entsR S) := (h.map _).flatten
structure Jo (T L : List EntV) (R : List RV) : Prop where
  perm : (L ++ entsR R).Perm T
  weak : WeakE L
  low : ∀ x ∈ L, ∀ r ∈ R, ∀ y ∈ r.l, lessE y x = false
  rows : ∀ r ∈ R, WeakE r.l
theorem Jo.of {T L : List EntV} {R R' : List RV} (h : Jo T L R) (hp : R'.Perm R) : Jo T L R' :=
  ⟨((entsR_perm hp).append_left L).trans h.perm, h.weak, fun x hx r hr => h.low x hx r (hp.mem_iff.1 hr), fun r hr => h.rows r (hp.mem_iff.1 hr)⟩
theorem Jo.least {T L : List EntV} {R : List RV} (h : Jo T L R) (hh : Heap zR ltR R) {x : EntV} {t : List EntV} (hx : (R.getD 0 zR).l = x :: t) {r : RV} (hr : r ∈ R) {y : EntV} (hy : y ∈ r.l) : lessE y x = false := by
  have h1 := heap_least ltR_trans ltR_irr hh hr
  unfold ltR headR at h1
  rw [hx] at h1
  simp only [List.getD_cons_zero] at h1
  obtain ⟨a, s, hl⟩ : ∃ a s, r.l = a :: s := by
    cases hl : r.l with
    | nil => rw [hl] at hy; cases hy
    | cons a s => exact ⟨a, s, rfl⟩
  rw [hl] at h1 hy
  simp only [List.getD_cons_zero] at h1
  rcases List.mem_cons.1 hy with rfl | hy
  · exact h1
  · have := h.rows r hr
    rw [hl] at this
    exact weak_trans h1 ((List.pairwise_cons.1 this).1 y hy)
theorem Jo.weak' {T L : List EntV} {R : List RV} (h : Jo T L R) {x : EntV} {t : List EntV} (hx : (R.getD 0 zR).l = x :: t) (hp : 0 < R.length) : WeakE (L ++ [x]) := by
  refine List.pairwise_append.2 ⟨h.weak, by simp, fun a ha b hb => ?_⟩
  simp at hb
  subst hb
  exact h.low a ha _ (getR_mem hp) b (by rw [hx]; simp)
theorem Jo.low' {T L : List EntV} {R : List RV} (h : Jo T L R) (hh : Heap zR ltR R) {x : EntV} {t : List EntV} (hx : (R.getD 0 zR).l = x :: t) : ∀ z ∈ L ++ [x], ∀ r ∈ R, ∀ y ∈ r.l, lessE y z = false := by
  intro z hz r hr y hy
  rcases List.mem_append.1 hz with hz | hz
  · exact h.low z hz r hr y hy
  · simp at hz
    subst hz
    exact h.least hh hx hr hy
theorem Jo.pop {T L : List EntV} {R R' : List RV} (h : Jo T L R) (hh : Heap zR ltR R) (hp : 0 < R.length) {x : EntV} (hx : (R.getD 0 zR).l = [x]) (hq : (R' ++ [R.getD 0 zR]).Perm R) : Jo T (L ++ [x]) R' := by
  have hsub : ∀ r ∈ R', r ∈ R := fun r hr => hq.mem_iff.1 (List.mem_append_left _ hr)
  refine ⟨?_, h.weak' hx hp, fun z hz r hr => h.low' hh hx z hz r (hsub r hr), fun r hr => h.rows r (hsub r hr)⟩
  have h1 := entsR_perm hq
  rw [entsR_app, entsR_cons, hx, show entsR ([] : List RV) = [] from rfl, List.append_nil] at h1
  refine List.Perm.trans ?_ h.perm
  rw [List.append_assoc]
  exact (List.perm_append_comm.trans h1).append_left L
theorem Jo.cut {T L : List EntV} {R : List RV} (h : Jo T L R) (hh : Heap zR ltR R) (hp : 0 < R.length) {x : EntV} {t : List EntV} (hx : (R.getD 0 zR).l = x :: t) (r' : RV) (hr' : r'.l = t) : Jo T (L ++ [x]) (R.set 0 r') := by
  cases R with
  | nil => simp at hp
  | cons r0 S =>
    simp only [List.getD_cons_zero] at hx
    have hsub : ∀ r ∈ r' :: S, ∀ y ∈ r.l, ∃ s ∈ r0 :: S, y ∈ s.l := by
      intro r hr y hy
      rcases List.mem_cons.1 hr with rfl | hr
      · exact ⟨r0, by simp, by rw [hx, ← hr']; simp [hy]⟩
      · exact ⟨r, by simp [hr], hy⟩
    refine ⟨?_, h.weak' (by simpa using hx) hp, fun z hz r hr y hy => ?_, fun r hr => ?_⟩
    · refine List.Perm.trans ?_ h.perm
      rw [List.set_cons_zero, entsR_cons, entsR_cons, hr', hx]
      simp
    · rw [List.set_cons_zero] at hr
      obtain ⟨s, hs, hys⟩ := hsub r hr y hy
      exact h.low' hh (by simpa using hx) z hz s hs y hys
    · rw [List.set_cons_zero] at hr
      rcases List.mem_cons.1 hr with rfl | hr
      · have := h.rows r0 (by simp)
        rw [hx] at this
        rw [hr']
        exact (List.pairwise_cons.1 this).2
      · exact h.rows r (by simp [hr])
theorem Hp.grownE {w0 w w' : World} {bh base : Nat} {hv v : Value} {R : List RV} {L : List EntV} (h : Hp w0 bh hv R w) (ho : EOwn w base v L) (hb : w0.heap.size ≤ base) (hg : w.grownBy w' v.ownBlock) : Hp w0 bh hv R w' := by
  refine ⟨ents_grownE ho hg h.bel hb, h.bhb, ?_, ?_, h.rows⟩
  · rw [hg.block bh (lt_heap h.ptr) (fun e => own_neS ho h.ptr (by decide) e.symm)]
    exact h.ptr
  · refine World.ownsRow.kept h.own hg ?_
    cases h3 : hv.ownBlock with
    | none => exact .inl rfl
    | some k =>
      right
      rcases h.own.2 with ⟨hv', _⟩ | ⟨g, cap, cur, hv', _, hgg, _⟩
      · rw [hv'] at h3; cases h3
      · rw [hv'] at h3
        simp only [Value.ownBlock, Option.some.injEq] at h3
        subst h3
        exact fun e => own_neS ho hgg (by decide) e.symm
theorem EOwn.kept {w w' : World} {base : Nat} {v : Value} {L : List EntV} (h : EOwn w base v L) (k : KeptR w w') : EOwn w' base v L := by
  refine own_heap h (fun g hg => ?_)
  rcases h.2 with ⟨hv, _⟩ | ⟨g', cap, cur, hv, _, hgg, _⟩
  · rw [hv] at hg; cases hg
  · rw [hv] at hg
    simp only [Value.ownBlock, Option.some.injEq] at hg
    subst hg
    rw [hgg]
    exact k.typ _ _ _ _ hgg (by decide) (by decide)
theorem ents_new (w : World) (k v : ByteArray) (s : Int) (d : Bool) : EntsIn (w.alloc (.cells #[.string k, .string v, .int .i64 s, .bool d] 66)) (some ⟨w.heap.size, 0, none⟩) [⟨k, v, s, d⟩] := by
  intro _
  refine ⟨w.heap.size, 0, rfl, fun i hi => ?_⟩
  obtain rfl : i = 0 := by simpa using hi
  have hh := heap_alloc_new w (.cells #[.string k, .string v, .int .i64 s, .bool d] 66)
  exact ⟨Lib.cell_of_heap hh 0, Lib.cell_of_heap hh 1, Lib.cell_of_heap hh 2, Lib.cell_of_heap hh 3⟩
def lenV : Value → Nat
  | .slice _ n _ => n
  | _ => 0
theorem make_out (w : World) (many : Nat) (h : many ≤ 100000) (base : Nat) (hb : base ≤ w.heap.size) : ∃ w', (Instr.makeSlice 58 (.int .i64 0) (.int .i64 (many : Int))).run Tryz.prog w = .ok (.slice (some ⟨w.heap.size, 0, none⟩) 0 many) w' ∧ EOwn w' base (.slice (some ⟨w.heap.size, 0, none⟩) 0 many) [] ∧ w.grownBy w' none := by
  obtain ⟨i0, hi, hz0, hz1, hz2⟩ := info_parts' info_entry
  exact run_make_own (P := Tryz.prog) w base 58 66 i0 _ 4 Tryz.underlying58 hi hz0 hz1 .i64 .i64 many (by rw [hz2]; omega) (by unfold maxLen; omega) hb
theorem grown_below {w w' : World} (hg : w.grownBy w' none) : Below w.heap.size w w' := (Below.refl _ _).grown hg (Nat.le_refl _) (fun k hk => by cases hk)
theorem entsR_filter (R : List RV) : entsR (R.filter fun r => decide (0 < r.l.length)) = entsR R := by
  induction R with
  | nil => rfl
  | cons r R ih =>
    rw [List.filter_cons]
    split
    · rw [entsR_cons, entsR_cons, ih]
    · rename_i h
      have : r.l = [] := by simpa using h
      rw [ih, entsR_cons, this, List.nil_append]
theorem takeR_succ {R : List RV} {k : Nat} (hk : k < R.length) : R.take (k + 1) = R.take k ++ [R.getD k zR] := by
  rw [List.take_add_one, List.getElem?_eq_getElem hk, List.getD_eq_getElem?_getD, List.getElem?_eq_getElem hk]
  rfl
set_option maxRecDepth 8000 in
set_option maxHeartbeats 4000000 in
theorem joined_any (q : Option Addr) (n c : Nat) (R : List RV) (w : World) (h : RowsL w q n R) (hn : R.length ≤ 64) (hw : ∀ r ∈ R, WeakE r.l) (many : Nat) (hm : (entsR R).length = many) (hmm : many ≤ 16384) :
    Calls Tryz.prog 118 #[.slice q n c, .int .i64 (many : Int)] w fun e w' => ∃ v L, e = .returned v ∧ OnB w v L w' ∧ L.Perm (entsR R) ∧ WeakE L := by
  have HL : Hid (RowsL w q n R ∧ R.length ≤ 64 ∧ (∀ r ∈ R, WeakE r.l) ∧ (entsR R).length = many ∧ many ≤ 16384) := ⟨h, hn, hw, hm, hmm⟩
  have nI : (n : Int) ≤ 64 := by have := h.n; omega
  clear h hn hw hm hmm
  have HB0 : Hid (Hp w (w.heap.size + 1) (.slice (some ⟨w.heap.size, 0, none⟩) 0 0) [] ((w.alloc (.cells #[] 58)).alloc (.cells #[.slice (some ⟨w.heap.size, 0, none⟩) 0 0] 278))) := by
    refine ⟨below_bt (below_alloc _ _) (below_alloc _ _), by omega, ?_, ⟨by simp, .inr ⟨w.heap.size, 0, #[], rfl, Nat.le_refl _, ?_, Nat.le_refl _, by unfold maxLen; omega, by simp, by simp⟩⟩, by simp⟩
    · have := heap_alloc_new (w.alloc (.cells #[] 58)) (.cells #[.slice (some ⟨w.heap.size, 0, none⟩) 0 0] 278)
      rwa [show (w.alloc (.cells #[] 58)).heap.size = w.heap.size + 1 by simp] at this
    · exact block_belowR (heap_alloc_new w _) (below_alloc _ _)
  go_enter Tryz.func118, Tryz.ntmps118
  go_wp2
  go_loopw [14] (fun s14 wr => ∃ (k : Nat) (Rk : List RV) (hv : Value), s14 = .int .i64 (k : Int) ∧ k ≤ n ∧ Rk.Perm ((R.take k).filter fun r => decide (0 < r.l.length)) ∧ Heap zR ltR Rk ∧ Hp w (w.heap.size + 1) hv Rk wr) (fun s14 _ => n - (intOf s14).toNat)
  case atStart => exact ⟨0, [], _, rfl, by omega, by simp, heap_nil, HB0.out⟩
  case round =>
    obtain ⟨k, Rk, hv, rfl, hk, hp, hh, hon⟩ := hrel
    have HK : Hid (k ≤ n ∧ Rk.Perm ((R.take k).filter fun r => decide (0 < r.l.length)) ∧ Heap zR ltR Rk ∧ Hp w (w.heap.size + 1) hv Rk wr) := ⟨hk, hp, hh, hon⟩
    clear hk hp hh hon HB0
    by_cases hkn : k < n
    · have hkI : (k : Int) < (n : Int) := by omega
      have k0 : (0 : Int) ≤ (k : Int) := by omega
      have hkR : k < R.length := by have := HL.out.1.n; omega
      obtain ⟨b, o, rfl, hc⟩ := (HL.out.1.below HK.out.2.2.2.bel).at hkR
      obtain ⟨r, hr⟩ : ∃ r, R.getD k zR = r := ⟨_, rfl⟩
      have hro := HL.out.1.each _ (getR_mem hkR)
      rw [hr] at hc hro
      have HR : Hid (R.getD k zR = r ∧ k < R.length ∧ RowOk w r) := ⟨hr, hkR, hro⟩
      have hlr : Rk.length ≤ 64 := by
        rw [HK.out.2.1.length_eq]
        refine Nat.le_trans (List.length_filter_le _ _) ?_
        rw [List.length_take]
        have := HL.out.2.1
        omega
      by_cases hrn : 0 < r.n
      · have hrl : 0 < r.l.length := by have := hro.n; omega
        have HP := heapPush_any w (w.heap.size + 1) hv Rk r wr HK.out.2.2.2 HK.out.2.2.1 ⟨hro, hrl⟩ (by omega)
        have HRL : Hid (0 < r.l.length) := hrl
        obtain ⟨qr, nr, cr, lr⟩ := r
        simp only at hrn
        rw [show rvV ⟨qr, nr, cr, lr⟩ = .slice qr nr cr from rfl] at hc HP
        have hrnI : (0 : Int) < (nr : Int) := by omega
        clear hr hkR hro hlr hrl hkn
        go_wp2_with fail
        refine HP.mono ?_
        rintro e w2 ⟨v2, R2, rfl, p2, hh2, h2, _⟩
        have H2 : Hid (R2.Perm ((R.take (k + 1)).filter fun r => decide (0 < r.l.length)) ∧ Heap zR ltR R2 ∧ Hp w (w.heap.size + 1) v2 R2 w2) := by
          refine ⟨?_, hh2, h2⟩
          rw [takeR_succ HR.out.2.1, List.filter_append, HR.out.1, List.filter_cons, if_pos (by simpa using HRL.out), List.filter_nil]
          exact p2.trans (HK.out.2.1.append_right _)
        clear p2 hh2 h2 HP hc
        go_wp2
        go_roundw
        case rel => exact ⟨k + 1, R2, v2, by go_num, by have := HR.out.2.1; have := HL.out.1.n; omega, H2.out⟩
        case measure => have := HR.out.2.1; have := HL.out.1.n; simp [intOf]; omega
      · have hr0 : r.l = [] := by have := hro.n; exact List.length_eq_zero_iff.1 (by omega)
        obtain ⟨qr, nr, cr, lr⟩ := r
        simp only at hrn hr0
        subst hr0
        obtain rfl : nr = 0 := by omega
        rw [show rvV ⟨qr, 0, cr, []⟩ = .slice qr 0 cr from rfl] at hc
        have H2 : Hid (Rk.Perm ((R.take (k + 1)).filter fun r => decide (0 < r.l.length)) ∧ Heap zR ltR Rk ∧ Hp w (w.heap.size + 1) hv Rk wr) := by
          refine ⟨?_, HK.out.2.2⟩
          rw [takeR_succ HR.out.2.1, List.filter_append, HR.out.1, List.filter_cons, if_neg (by simp), List.filter_nil, List.append_nil]
          exact HK.out.2.1
        clear hr hkR hro hlr hkn
        go_wp2
        go_roundw
        case rel => exact ⟨k + 1, Rk, hv, by go_num, by have := HR.out.2.1; have := HL.out.1.n; omega, H2.out⟩
        case measure => have := HR.out.2.1; have := HL.out.1.n; simp [intOf]; omega
    · have hkI : (n : Int) ≤ (k : Int) := by omega
      have hJ : Jo (entsR R) [] Rk := by
        have e : R.take k = R := List.take_of_length_le (by have := HL.out.1.n; omega)
        have hp := HK.out.2.1
        rw [e] at hp
        refine ⟨?_, List.Pairwise.nil, by simp, fun r hr => HL.out.2.2.1 r (List.mem_filter.1 (hp.mem_iff.1 hr)).1⟩
        have := entsR_perm hp
        rw [entsR_filter] at this
        simpa using this
      obtain ⟨wm, hmk, hmo, hmg⟩ := make_out wr many (by have := HL.out; omega) w.heap.size HK.out.2.2.2.bel.size
      have hlr : Rk.length ≤ 64 := by
        rw [HK.out.2.1.length_eq]
        refine Nat.le_trans (List.length_filter_le _ _) ?_
        rw [List.length_take]
        have := HL.out.2.1
        omega
      have H2 : Hid (Jo (entsR R) [] Rk ∧ Heap zR ltR Rk ∧ Hp w (w.heap.size + 1) hv Rk wm ∧ EOwn wm w.heap.size (.slice (some ⟨wr.heap.size, 0, none⟩) 0 many) [] ∧ Rk.length ≤ 64) := ⟨hJ, HK.out.2.2.1, HK.out.2.2.2.next (grown_below hmg), hmo, hlr⟩
      clear hJ hmo hmg hlr HK
      go_wp2
      go_loopw [8] (fun s8 wx => ∃ (Rk : List RV) (hv : Value) (L : List EntV), Jo (entsR R) L Rk ∧ Heap zR ltR Rk ∧ Hp w (w.heap.size + 1) hv Rk wx ∧ EOwn wx w.heap.size s8 L ∧ Rk.length ≤ 64) (fun s8 _ => many - lenV s8)
      case atStart => exact ⟨Rk, hv, [], H2.out⟩
      case round =>
        obtain ⟨Rx, hx, L, hJ, hH, hon, ho, hl64⟩ := hrel
        have HS : Hid (Jo (entsR R) L Rx ∧ Heap zR ltR Rx ∧ Rx.length ≤ 64) := ⟨hJ, hH, hl64⟩
        obtain ⟨qo, co, rfl, hoc, hocm, hoq⟩ := ho.form
        have HO : Hid (Hp w (w.heap.size + 1) hx Rx wr ∧ EOwn wr w.heap.size (.slice qo L.length co) L) := ⟨hon, ho⟩
        have HLM : Hid (L.length + (entsR Rx).length = many) := by
          have := hJ.perm.length_eq
          rw [List.length_append] at this
          show _ = _
          rw [this]
          exact HL.out.2.2.2.1
        obtain ⟨qh, ch, rfl, hlc, _⟩ := hon.val
        have pt : wr.cell? ⟨w.heap.size + 1, 0, none⟩ = some (.slice qh Rx.length ch) := Lib.cell_of_heap hon.ptr 0
        have HLN := hLen_any qh Rx.length ch wr
        clear hJ hH hoc hocm hoq ho hlc H2
        by_cases hr0 : 0 < Rx.length
        · have HR0 : Hid (0 < Rx.length) := hr0
          obtain ⟨g, cap, cur, hgv, hgb, hg, hle, hmax, hc, hf⟩ := hon.form hr0
          simp only [Value.slice.injEq] at hgv
          obtain ⟨rfl, _, rfl⟩ := hgv
          have hc0 := hc 0 hr0
          have hrow := hon.rows _ (getR_mem hr0)
          obtain ⟨⟨qr, nr, cr, lr⟩, hR⟩ : ∃ r, Rx.getD 0 zR = r := ⟨_, rfl⟩
          rw [hR] at hc0 hrow
          rw [show rvV ⟨qr, nr, cr, lr⟩ = .slice qr nr cr from rfl] at hc0
          obtain ⟨hro, hrp⟩ := hrow
          simp only at hrp
          obtain ⟨b, o, rfl⟩ := hro.lies.addr hrp
          have h4 := (hro.lies.below hon.bel).at (k := 0) hrp
          simp only [Nat.zero_mul, Nat.add_zero] at h4
          obtain ⟨⟨ke, ve, se, de⟩, t, hlr⟩ : ∃ x t, lr = x :: t := by
            cases lr with
            | nil => simp at hrp
            | cons x t => exact ⟨x, t, rfl⟩
          subst hlr
          simp only [List.getD_cons_zero] at h4
          obtain ⟨x0, x1, x2, x3⟩ := h4
          have hnr : nr = t.length + 1 := by have := hro.n; simpa using this
          have HRO : Hid (RowOk w ⟨some ⟨b, o, none⟩, nr, cr, ⟨ke, ve, se, de⟩ :: t⟩ ∧ Rx.getD 0 zR = ⟨some ⟨b, o, none⟩, nr, cr, ⟨ke, ve, se, de⟩ :: t⟩ ∧ nr = t.length + 1) := ⟨hro, hR, hnr⟩
          obtain ⟨m, hm⟩ : ∃ m, Rx.length = m := ⟨_, rfl⟩
          have hmI : (0 : Int) < (m : Int) := by omega
          have hmN : 0 < m := by omega
          have nrI : (0 : Int) < (nr : Int) := by omega
          have nrN : 0 < nr := by omega
          have HM : Hid (Rx.length = m ∧ Rx.length ≤ ch ∧ ch ≤ maxLen) := ⟨hm, hle, hmax⟩
          have hA : EOwn (wr.alloc (.cells #[.string ke, .string ve, .int .i64 se, .bool de] 66)) w.heap.size (.slice qo L.length co) L := HO.out.2.below (below_alloc _ _)
          have HA : Hid (EOwn (wr.alloc (.cells #[.string ke, .string ve, .int .i64 se, .bool de] 66)) w.heap.size (.slice qo L.length co) L ∧ Hp w (w.heap.size + 1) (.slice (some ⟨g, 0, none⟩) Rx.length ch) Rx (wr.alloc (.cells #[.string ke, .string ve, .int .i64 se, .bool de] 66)) ∧ L.length ≤ 16384 ∧ w.heap.size ≤ (wr.alloc (.cells #[.string ke, .string ve, .int .i64 se, .bool de] 66)).heap.size) := ⟨hA, HO.out.1.next (below_alloc _ _), by have := HLM.out; have := HL.out; omega, (below_bt HO.out.1.bel (below_alloc _ _)).size⟩
          have HE1 : Hid (EntsIn (wr.alloc (.cells #[.string ke, .string ve, .int .i64 se, .bool de] 66)) (some ⟨wr.heap.size, 0, none⟩) [⟨ke, ve, se, de⟩]) := ents_new wr ke ve se de
          rw [hm] at pt HLN
          obtain ⟨lo, hlo⟩ : ∃ lo, L.length = lo := ⟨_, rfl⟩
          have HLO : Hid (L.length = lo) := hlo
          rw [hlo] at HA ⊢
          clear hA hon hgb hg hle hmax hc hf hR hro hrp hnr hr0 hm hlo
          obtain ⟨lo1, hlo1⟩ : ∃ lo1, lo + 1 = lo1 := ⟨_, rfl⟩
          have HL1 : Hid (lo + 1 = lo1) := hlo1
          have HLV : Hid (∀ (v3 : Value) (w3 : World), EOwn w3 w.heap.size v3 (L ++ [⟨ke, ve, se, de⟩]) → ∃ q3 c3, v3 = .slice q3 lo1 c3) := by
            intro v3 w3 ho3
            obtain ⟨q3, c3, e, _⟩ := ho3.form
            refine ⟨q3, c3, ?_⟩
            rw [e, List.length_append, HLO.out, List.length_singleton, hlo1]
          clear hlo1
          go_wp2_with fail
          refine HLN.mono ?_
          rintro e w1 ⟨rfl, hw1⟩
          have hw1 := hw1.symm
          subst hw1
          clear HLN
          by_cases hn1 : nr = 1
          · have e1 : ((nr : Int) == 1) = true := by simp; omega
            have e1' : (nr == 1) = true := by simp; omega
            have HT : Hid (t = []) := by have := HRO.out.2.2; exact List.length_eq_zero_iff.1 (by omega)
            clear hn1
            go_wp2_with (at_builtin; go_loud ((refine wpList_append_two _ rfl _ _ rfl w.heap.size (.slice qo lo co) L [⟨ke, ve, se, de⟩] (some ⟨wr.heap.size, 0, none⟩) 1 1 rfl rfl rfl HA.out.1 HE1.out (fun h => by cases h) (by have := HA.out.2.2.1; have := HLO.out; simp only [List.length_cons, List.length_nil]; omega) HA.out.2.2.2 ?_); intro v3 w3 ho3 hg3; have h3 := HA.out.2.1.grownE HA.out.1 (Nat.le_refl _) hg3; obtain ⟨q3, c3, hv3⟩ := HLV.out v3 w3 ho3; subst hv3; have H3 : Hid _ := And.intro h3 ho3; have p3 : w3.cell? ⟨w.heap.size + 1, 0, none⟩ = some (.slice (some ⟨g, 0, none⟩) m ch) := (Lib.cell_of_heap h3.ptr 0).trans (congrArg (fun k => some (Value.slice (some ⟨g, 0, none⟩) k ch)) HM.out.1); have HPO := heapPop_any w (w.heap.size + 1) _ Rx w3 h3 HS.out.2.1 HR0.out (by have := HS.out; omega); clear h3 ho3 hg3))
            refine HPO.mono ?_
            rintro e w4 ⟨v, v4, R4, rfl, q4, hh4, h4, k4⟩
            have H4 : Hid (Jo (entsR R) (L ++ [⟨ke, ve, se, de⟩]) R4 ∧ Heap zR ltR R4 ∧ Hp w (w.heap.size + 1) v4 R4 w4 ∧ EOwn w4 w.heap.size (.slice q3 lo1 c3) (L ++ [⟨ke, ve, se, de⟩]) ∧ R4.length ≤ 64) := by
              refine ⟨HS.out.1.pop HS.out.2.1 HR0.out (by rw [HRO.out.2.1, HT.out]) q4, hh4, h4, H3.out.2.kept k4, ?_⟩
              have := q4.length_eq
              rw [List.length_append, List.length_singleton] at this
              have := HS.out.2.2
              omega
            clear q4 hh4 h4 k4 HPO
            go_wp2
            go_roundw
            case rel => exact ⟨R4, v4, _, H4.out⟩
            case measure => have := HLM.out; have := HLO.out; have := HL1.out; have := H4.out.1.perm.length_eq; have := HL.out.2.2.2.1; rw [List.length_append, List.length_append, List.length_singleton] at *; simp [lenV]; omega
          · have e1 : ((nr : Int) == 1) = false := by simp; omega
            have e1' : (nr == 1) = false := by simp; omega
            have hnc := HRO.out.1.nc
            simp only at hnc
            have HN2 : Hid (2 ≤ nr) := by show _ ≤ _; omega
            obtain ⟨p', hcut, hdrop, hp'⟩ := cutE_from (some ⟨b, o, none⟩) nr cr 1 (⟨ke, ve, se, de⟩ :: t) HRO.out.1.n hnc (by omega) (fun h => by cases h)
            rw [show ((1 : Nat) : Int) = 1 from rfl] at hcut
            obtain ⟨n2, hn2⟩ : ∃ n2, nr - 1 = n2 := ⟨_, rfl⟩
            obtain ⟨c2, hc2⟩ : ∃ c2, cr - 1 = c2 := ⟨_, rfl⟩
            rw [hn2, hc2] at hcut
            have HR2 : Hid (RowOk w ⟨p', n2, c2, t⟩ ∧ 0 < t.length) := by
              refine ⟨⟨?_, hdrop w HRO.out.1.lies, ?_, ?_, fun h => ?_⟩, ?_⟩
              · have := HRO.out.2.2; show n2 = t.length; omega
              · show n2 ≤ c2; omega
              · have := HRO.out.1.c; simp only at this; show c2 ≤ _; omega
              · have := hp' h; show c2 = 0; omega
              · have := HRO.out.2.2; have := HN2.out; omega
            clear hn1 hnc hdrop hp' hn2 hc2
            go_wp2_with (at_builtin; go_loud ((refine wpList_append_two _ rfl _ _ rfl w.heap.size (.slice qo lo co) L [⟨ke, ve, se, de⟩] (some ⟨wr.heap.size, 0, none⟩) 1 1 rfl rfl rfl HA.out.1 HE1.out (fun h => by cases h) (by have := HA.out.2.2.1; have := HLO.out; simp only [List.length_cons, List.length_nil]; omega) HA.out.2.2.2 ?_); intro v3 w3 ho3 hg3; have h3 := HA.out.2.1.grownE HA.out.1 (Nat.le_refl _) hg3; obtain ⟨q3, c3, hv3⟩ := HLV.out v3 w3 ho3; subst hv3; have H3 : Hid _ := And.intro h3 ho3; have p3 : w3.cell? ⟨w.heap.size + 1, 0, none⟩ = some (.slice (some ⟨g, 0, none⟩) m ch) := (Lib.cell_of_heap h3.ptr 0).trans (congrArg (fun k => some (Value.slice (some ⟨g, 0, none⟩) k ch)) HM.out.1); obtain ⟨g5, cap5, cur5, hgv5, hgb5, hg5, _, _, hc5, hf5⟩ := h3.form HR0.out; simp only [Value.slice.injEq, Option.some.injEq, Addr.mk.injEq] at hgv5; obtain ⟨⟨rfl, _⟩, _, _⟩ := hgv5; have y5 := hc5 0 HR0.out; rw [HRO.out.2.1] at y5; rw [show rvV ⟨some ⟨b, o, none⟩, nr, cr, ⟨ke, ve, se, de⟩ :: t⟩ = .slice (some ⟨b, o, none⟩) nr cr from rfl] at y5; have z5 := hf5 0; have HG5 : Hid _ := hg5; clear h3 ho3 hg3 hgb5 hg5 hc5 hf5))
            have hset := H3.out.1.set (i := 0) HR0.out ⟨p', n2, c2, t⟩ HR2.out
            have HF := heapFix_any w (w.heap.size + 1) _ (Rx.set 0 ⟨p', n2, c2, t⟩) _ hset.drew (by rw [List.length_set]; exact heap_root HS.out.2.1 _ HR0.out) (by rw [List.length_set]; exact HR0.out) (by rw [List.length_set]; have := HS.out; omega)
            rw [show rvV ⟨p', n2, c2, t⟩ = .slice p' n2 c2 from rfl] at HF
            have HK4 : Hid (KeptR w3 (w3.setCell ⟨g, 0, none⟩ (.slice p' n2 c2)).drew) := (H3.out.1.keptS HR0.out 0 _).trans (keptR_below (Below.refl _ _).drew)
            clear hset
            go_region
            all_goals
              go_wp2_with fail
              refine HF.mono ?_
              rintro e w5 ⟨R5, rfl, q5, hh5, h5, k5⟩
              have H5 : Hid (Jo (entsR R) (L ++ [⟨ke, ve, se, de⟩]) R5 ∧ Heap zR ltR R5 ∧ Hp w (w.heap.size + 1) (.slice (some ⟨g, 0, none⟩) Rx.length ch) R5 w5 ∧ EOwn w5 w.heap.size (.slice q3 lo1 c3) (L ++ [⟨ke, ve, se, de⟩]) ∧ R5.length ≤ 64) := by
                refine ⟨(HS.out.1.cut HS.out.2.1 HR0.out (by rw [HRO.out.2.1]) ⟨p', n2, c2, t⟩ rfl).of q5, hh5, h5, (H3.out.2.kept HK4.out).kept k5, ?_⟩
                rw [q5.length_eq, List.length_set]
                exact HS.out.2.2
              clear q5 hh5 h5 k5 HF
              go_wp2
              go_roundw
              case rel => exact ⟨R5, _, _, H5.out⟩
              case measure => have := HLM.out; have := HLO.out; have := HL1.out; have := H5.out.1.perm.length_eq; have := HL.out.2.2.2.1; rw [List.length_append, List.length_append, List.length_singleton] at *; simp [lenV]; omega
        · obtain rfl : Rx = [] := List.length_eq_zero_iff.1 (by omega)
          rw [show ([] : List RV).length = 0 from rfl] at pt HLN
          clear hon hr0
          go_wp2_with fail
          refine HLN.mono ?_
          rintro e w1 ⟨rfl, hw1⟩
          have hw1 := hw1.symm
          subst hw1
          clear HLN
          go_wp2
          go_ret
          exact ⟨_, L, rfl, ⟨HO.out.2, HO.out.1.bel⟩, by have := HS.out.1.perm; simpa [entsR] using this, HS.out.1.weak⟩
end Go.Proofs.YtghcmllmbpoidaaGreatDoor.Mg
namespace Go.Proofs.YtghcmllmbpoidaaGreatDoor.Mg
open Go.RowKit Go.WideShapes
def firstE : List (List EntV) → Nat
  | [] => 0
  | l :: t => if checkE l ≠ 0 then checkE l else firstE t
def chkR (ls : List (List EntV)) : Nat := if 64 < ls.length then 4 else if firstE ls ≠ 0 then firstE ls else if 16384 < ls.flatten.length then 4 else 0
open Classical in
noncomputable def allE (ls : List (List EntV)) : List EntV × Nat := if chkR ls ≠ 0 then ([], chkR ls) else if RiseE (allM ls) then (allM ls, 0) else ([], 100)
theorem firstE_at {ls : List (List EntV)} {k : Nat} (h : k < ls.length) : firstE (ls.drop k) = if checkE (ls.getD k []) ≠ 0 then checkE (ls.getD k []) else firstE (ls.drop (k + 1)) := by
  rw [List.drop_eq_getElem_cons h, List.getD_eq_getElem?_getD, List.getElem?_eq_getElem h]
  rfl
theorem firstE_zero : ∀ {ls : List (List EntV)}, firstE ls = 0 ↔ ∀ l ∈ ls, checkE l = 0
  | [] => by simp [firstE]
  | l :: t => by
    simp only [firstE]
    by_cases h : checkE l = 0
    · rw [if_neg (by simp [h]), firstE_zero]
      simp [h]
    · rw [if_pos h]
      simp [h]
theorem chkR_zero {ls : List (List EntV)} : chkR ls = 0 ↔ ls.length ≤ 64 ∧ (∀ l ∈ ls, checkE l = 0) ∧ ls.flatten.length ≤ 16384 := by
  unfold chkR
  rw [← firstE_zero]
  obtain ⟨F, hF⟩ : ∃ F, ls.flatten.length = F := ⟨_, rfl⟩
  rw [hF]
  by_cases h1 : 64 < ls.length
  · rw [if_pos h1]
    exact ⟨fun h => by omega, fun h => by omega⟩
  · rw [if_neg h1]
    by_cases h2 : firstE ls = 0
    · rw [if_neg (by simp [h2])]
      by_cases h3 : 16384 < F
      · rw [if_pos h3]
        exact ⟨fun h => by omega, fun h => by omega⟩
      · rw [if_neg h3]
        exact ⟨fun _ => ⟨by omega, h2, by omega⟩, fun _ => rfl⟩
    · rw [if_pos h2]
      exact ⟨fun h => absurd h h2, fun h => absurd h.2.1 h2⟩
theorem allE_bad {ls : List (List EntV)} (h : chkR ls ≠ 0) : allE ls = ([], chkR ls) := by unfold allE; rw [if_pos h]
theorem allE_rise {ls : List (List EntV)} (h : chkR ls = 0) (hr : RiseE (allM ls)) : allE ls = (allM ls, 0) := by unfold allE; rw [if_neg (by simp [h]), if_pos hr]
theorem allE_not {ls : List (List EntV)} (h : chkR ls = 0) (hr : ¬ RiseE (allM ls)) : allE ls = ([], 100) := by unfold allE; rw [if_neg (by simp [h]), if_neg hr]
theorem chk_weak {ls : List (List EntV)} (h : ∀ l ∈ ls, checkE l = 0) : ∀ l ∈ ls, WeakE l := fun l hl => rise_weak ((checkE_rise l).1 (h l hl)).2.2
theorem allE_of {ls : List (List EntV)} {L : List EntV} (h : chkR ls = 0) (hp : L.Perm ls.flatten) (hw : WeakE L) : (RiseE L → allE ls = (L, 0)) ∧ (¬ RiseE L → allE ls = ([], 100)) := by
  have hw' := chk_weak (chkR_zero.1 h).2.1
  obtain ⟨p2, w2⟩ := allM_perm hw'
  have hiff : RiseE L ↔ RiseE (allM ls) := by rw [weak_rise hw, weak_rise w2, sole_perm hp, sole_perm p2]
  refine ⟨fun hr => ?_, fun hr => allE_not h (fun hh => hr (hiff.2 hh))⟩
  have hr2 := hiff.1 hr
  rw [allE_rise h hr2, riseE_ext hr2 hr (fun x => by rw [p2.mem_iff, hp.mem_iff])]
theorem rise_adj {l : List EntV} : RiseE l ↔ ∀ i, i + 1 < l.length → lessE (l.getD i zeroE) (l.getD (i + 1) zeroE) = true := by
  constructor
  · intro h i hi
    have := List.pairwise_iff_getElem.1 h i (i + 1) (by omega) hi (by omega)
    rwa [List.getD_eq_getElem?_getD, List.getD_eq_getElem?_getD, List.getElem?_eq_getElem (by omega : i < l.length), List.getElem?_eq_getElem hi]
  · intro h
    refine List.pairwise_iff_getElem.2 (fun i j hi hj hij => ?_)
    have aux : ∀ d, i + d + 1 < l.length → lessE (l.getD i zeroE) (l.getD (i + d + 1) zeroE) = true := by
      intro d
      induction d with
      | zero => intro hd; exact h i hd
      | succ d ih => intro hd; exact lessE_trans (ih (by omega)) (h (i + d + 1) (by omega))
    have := aux (j - i - 1) (by omega)
    rw [show i + (j - i - 1) + 1 = j by omega] at this
    rwa [List.getD_eq_getElem?_getD, List.getD_eq_getElem?_getD, List.getElem?_eq_getElem hi, List.getElem?_eq_getElem hj] at this
end Go.Proofs.YtghcmllmbpoidaaGreatDoor.Mg
namespace Go.Proofs.YtghcmllmbpoidaaGreatDoor.Mg
set_option maxRecDepth 8000
open Go.RowKit Go.WideShapes
def lsR (R : List RV) : List (List EntV) := R.map RV.l
theorem lsR_len (R : List RV) : (lsR R).length = R.length := by simp [lsR]
theorem lsR_at {R : List RV} {k : Nat} (hk : k < R.length) : (lsR R).getD k [] = (R.getD k zR).l := by
  unfold lsR
  rw [List.getD_eq_getElem?_getD, List.getElem?_map, List.getD_eq_getElem?_getD, List.getElem?_eq_getElem hk]
  rfl
theorem lsR_mem {R : List RV} {r : RV} (h : r ∈ R) : r.l ∈ lsR R := List.mem_map.2 ⟨r, h, rfl⟩
theorem sumR_succ {R : List RV} {k : Nat} (hk : k < R.length) : (entsR (R.take (k + 1))).length = (entsR (R.take k)).length + (R.getD k zR).l.length := by
  rw [takeR_succ hk, entsR_app, List.length_append]
  simp [entsR]
set_option maxRecDepth 8000 in
set_option maxHeartbeats 2000000 in
theorem checkRows_any (q : Option Addr) (n c : Nat) (R : List RV) (w : World) (h : RowsL w q n R) (hnb : (n : Int) ≤ 9223372036854775807) (E : Nat) (hE : chkR (lsR R) = E) :
    Calls Tryz.prog 117 #[.slice q n c] w fun e w' => ∃ many : Nat, e = .returned (.tuple #[.int .i64 (many : Int), .int .i64 (E : Int)]) ∧ (E = 0 → many = (entsR R).length) ∧ Below w.heap.size w w' := by
  have HL : Hid (RowsL w q n R) := h
  unfold chkR at hE
  rw [lsR_len] at hE
  by_cases h64 : 64 < R.length
  · rw [if_pos h64] at hE
    subst hE
    have g1 : (64 : Int) < (n : Int) := by have := h.n; omega
    clear h h64
    go_enter Tryz.func117, Tryz.ntmps117
    go_wp2
    go_ret2
    exact ⟨0, rfl, fun (h : 4 = 0) => absurd h (by decide), Below.refl _ _⟩
  · rw [if_neg h64] at hE
    have HE : Hid ((if firstE (lsR R) ≠ 0 then firstE (lsR R) else if 16384 < (lsR R).flatten.length then 4 else 0) = E) := hE
    have g1 : (n : Int) ≤ 64 := by have := h.n; omega
    have g1' : n ≤ 64 := by omega
    clear h h64 hE hnb
    go_enter Tryz.func117, Tryz.ntmps117
    go_wp2
    go_loopw [4, 13] (fun s4 s13 wr => ∃ (k m : Nat), s13 = .int .i64 (k : Int) ∧ s4 = .int .i64 (m : Int) ∧ k ≤ n ∧ m = (entsR (R.take k)).length ∧ m ≤ k * 4096 ∧ firstE ((lsR R).drop k) = firstE (lsR R) ∧ Below w.heap.size w wr) (fun _ s13 _ => n - (intOf s13).toNat)
    case atStart => exact ⟨0, 0, rfl, rfl, by omega, by simp [entsR], by omega, by rw [List.drop_zero], Below.refl _ _⟩
    case round =>
      obtain ⟨k, m, rfl, rfl, hk, hm, hmk, hf, hbel⟩ := hrel
      have HK : Hid (m = (entsR (R.take k)).length ∧ m ≤ k * 4096 ∧ firstE ((lsR R).drop k) = firstE (lsR R) ∧ Below w.heap.size w wr) := ⟨hm, hmk, hf, hbel⟩
      clear hm hmk hf hbel
      by_cases hkn : k < n
      · have hkI : (k : Int) < (n : Int) := by omega
        have k0 : (0 : Int) ≤ (k : Int) := by omega
        have hkR : k < R.length := by have := HL.out.n; omega
        obtain ⟨b, o, rfl, hc⟩ := (HL.out.below HK.out.2.2.2).at hkR
        have hro := (HL.out.each _ (getR_mem hkR)).below HK.out.2.2.2
        have hfa := firstE_at (ls := lsR R) (k := k) (by rw [lsR_len]; exact hkR)
        have hsu := sumR_succ hkR
        rw [lsR_at hkR] at hfa
        obtain ⟨⟨qr, nr, cr, lr⟩, hr⟩ : ∃ r, R.getD k zR = r := ⟨_, rfl⟩
        rw [hr] at hc hro hfa hsu
        simp only at hfa hsu
        rw [show rvV ⟨qr, nr, cr, lr⟩ = .slice qr nr cr from rfl] at hc
        obtain ⟨C, hC⟩ : ∃ C, checkE lr = C := ⟨_, rfl⟩
        have HCK := Check_any qr nr cr lr wr ⟨hro.n, hro.lies⟩ C hC
        rw [hC] at hfa
        have HF : Hid (firstE ((lsR R).drop k) = (if C ≠ 0 then C else firstE ((lsR R).drop (k + 1))) ∧ (entsR (R.take (k + 1))).length = (entsR (R.take k)).length + nr ∧ (C = 0 → nr ≤ 4096) ∧ k < n) := ⟨hfa, by rw [hsu]; have := hro.n; simp only at this; omega, fun h0 => by have := ((checkE_rise lr).1 (hC.trans h0)).1; have := hro.n; simp only at this; omega, hkn⟩
        clear hfa hsu hro hr hkR hkn hC
        by_cases hC0 : C = 0
        · subst hC0
          obtain ⟨m', hm'⟩ : ∃ m', m + nr = m' := ⟨_, rfl⟩
          have hmw : IntKind.i64.wrap ((m : Int) + (nr : Int)) = (m' : Int) := by have := HF.out.2.2.1 rfl; have := HK.out.2.1; rw [IntKind.wrap_i64]; omega
          have HM : Hid (m + nr = m' ∧ nr ≤ 4096) := ⟨hm', HF.out.2.2.1 rfl⟩
          clear hm'
          go_wp2_with fail
          refine HCK.mono ?_
          rintro e w2 ⟨rfl, hb2⟩
          have HB2 : Hid (Below w.heap.size w w2) := below_bt HK.out.2.2.2 hb2
          clear hb2 HCK
          go_wp2
          go_roundw
          case rel => exact ⟨k + 1, m', by go_num, rfl, by have := HF.out; omega, by have := HF.out; have := HK.out; have := HM.out; omega, by have := HK.out; have := HM.out; omega, by have := HF.out.1; rw [if_neg (by simp)] at this; rw [← this]; exact HK.out.2.2.1, HB2.out⟩
          case measure => have := HF.out; simp [intOf]; omega
        · have e1 : ((C : Int) != 0) = true := by simp; omega
          have e1' : ((C : Int) == 0) = false := by simp; omega
          have HC0 : Hid (C ≠ 0) := hC0
          clear hC0
          go_wp2_with fail
          refine HCK.mono ?_
          rintro e w2 ⟨rfl, hb2⟩
          have HB2 : Hid (Below w.heap.size w w2) := below_bt HK.out.2.2.2 hb2
          clear hb2 HCK
          go_wp2
          go_ret2
          refine ⟨0, ?_, fun h0 => ?_, HB2.out⟩
          · have h1 := HF.out.1
            rw [if_pos HC0.out, HK.out.2.2.1] at h1
            have h2 := HE.out
            rw [h1, if_pos HC0.out] at h2
            rw [h2]
            rfl
          · have h1 := HF.out.1
            rw [if_pos HC0.out, HK.out.2.2.1] at h1
            have h2 := HE.out
            rw [h1, if_pos HC0.out] at h2
            exact absurd (h2.trans h0) HC0.out
      · have hkI : (n : Int) ≤ (k : Int) := by omega
        have hkR : R.take k = R := List.take_of_length_le (by have := HL.out.n; omega)
        have hF0 : firstE (lsR R) = 0 := by rw [← HK.out.2.2.1, List.drop_eq_nil_of_le (by rw [lsR_len]; have := HL.out.n; omega)]; rfl
        have HMM : Hid (m = (entsR R).length ∧ (if 16384 < m then 4 else 0) = E) := by
          have h1 := HK.out.1
          rw [hkR] at h1
          refine ⟨h1, ?_⟩
          have h2 := HE.out
          rw [hF0, if_neg (by simp)] at h2
          rw [h1]
          exact h2
        have hmI : (m : Int) ≤ 1000000 := by have := HK.out; omega
        clear hkR hF0
        by_cases hbig : 16384 < m
        · have hbI : (16384 : Int) < (m : Int) := by omega
          obtain rfl : 4 = E := by have := HMM.out.2; rw [if_pos hbig] at this; exact this
          go_wp2
          go_ret2
          exact ⟨0, rfl, fun (h : 4 = 0) => absurd h (by decide), HK.out.2.2.2⟩
        · have hbI : (m : Int) ≤ (16384 : Int) := by omega
          obtain rfl : 0 = E := by have := HMM.out.2; rw [if_neg hbig] at this; exact this
          go_wp2
          go_ret2
          exact ⟨m, rfl, HMM.out.1, HK.out.2.2.2⟩
theorem own_base {w : World} {base base' n s : Nat} {e : TypeId} {v : Value} {xs : List Value} (h : w.ownsRow base e s v n xs) (hb : base' ≤ base) : w.ownsRow base' e s v n xs := by
  obtain ⟨h1, h2⟩ := h
  refine ⟨h1, ?_⟩
  rcases h2 with h2 | ⟨g, cap, cur, hv, hbs, h3⟩
  · exact .inl h2
  · exact .inr ⟨g, cap, cur, hv, Nat.le_trans hb hbs, h3⟩
set_option maxRecDepth 8000 in
set_option maxHeartbeats 2000000 in
theorem All_any (q : Option Addr) (n c : Nat) (R : List RV) (w : World) (h : RowsL w q n R) (hnb : (n : Int) ≤ 9223372036854775807) (L : List EntV) (E : Nat) (hE : allE (lsR R) = (L, E)) :
    Calls Tryz.prog 85 #[.slice q n c] w fun e w' => ∃ v, e = .returned (.tuple #[v, .int .i64 (E : Int)]) ∧ OnB w v L w' := by
  obtain ⟨C, hC⟩ : ∃ C, chkR (lsR R) = C := ⟨_, rfl⟩
  have HCK := checkRows_any q n c R w h hnb C hC
  have HL : Hid (RowsL w q n R) := h
  have HE : Hid (allE (lsR R) = (L, E)) := hE
  have HC : Hid (chkR (lsR R) = C) := hC
  clear h hE hC hnb
  go_enter Tryz.func85, Tryz.ntmps85
  go_wp2_with fail
  refine HCK.mono ?_
  rintro e w2 ⟨many, rfl, hmany, hb2⟩
  have HB2 : Hid (Below w.heap.size w w2) := hb2
  clear HCK
  by_cases hC0 : C = 0
  · subst hC0
    obtain ⟨c1, c2, c3⟩ := chkR_zero.1 HC.out
    have hm := hmany rfl
    have HJ := joined_any q n c R w2 (HL.out.below HB2.out) (by rw [lsR_len] at c1; exact c1) (fun r hr => chk_weak c2 _ (lsR_mem hr)) many hm.symm (by rw [hm]; exact c3)
    have HMN : Hid ((entsR R).length ≤ 16384) := c3
    clear c1 c2 c3 hm hmany hb2
    go_wp2_with fail
    refine HJ.mono ?_
    rintro e w3 ⟨v3, L3, rfl, h3, p3, wk3⟩
    obtain ⟨q3, m3, rfl, _, _, hq3⟩ := h3.own.form
    have HO : Hid (EOwn w3 w2.heap.size (.slice q3 L3.length m3) L3 ∧ Below w.heap.size w w3) := ⟨h3.own, below_bt HB2.out h3.bel⟩
    obtain ⟨a1, a2⟩ := allE_of HC.out p3 wk3
    have HA : Hid ((RiseE L3 → allE (lsR R) = (L3, 0)) ∧ (¬ RiseE L3 → allE (lsR R) = ([], 100))) := ⟨a1, a2⟩
    obtain ⟨m, hm⟩ : ∃ m, L3.length = m := ⟨_, rfl⟩
    have HN : Hid (L3.length = m ∧ m ≤ 16384) := ⟨hm, by rw [← hm, p3.length_eq]; exact HMN.out⟩
    have hmI : (m : Int) ≤ 16384 := by have := HN.out; omega
    rw [hm] at HO ⊢
    clear a1 a2 p3 wk3 h3 HJ hm
    go_wp2
    go_loopw [7] (fun s7 wr => ∃ (k : Nat), s7 = .int .i64 ((k : Int) + 1) ∧ k ≤ m ∧ (∀ i, i + 1 < L3.length → i < k → lessE (L3.getD i zeroE) (L3.getD (i + 1) zeroE) = true) ∧ Below w3.heap.size w3 wr) (fun s7 _ => m + 1 - (intOf s7).toNat)
    case atStart => exact ⟨0, rfl, by omega, fun i _ hi => by omega, Below.refl _ _⟩
    case round =>
      obtain ⟨k, rfl, hk, hadj, hbel⟩ := hrel
      have HK : Hid (k ≤ m ∧ (∀ i, i + 1 < L3.length → i < k → lessE (L3.getD i zeroE) (L3.getD (i + 1) zeroE) = true) ∧ Below w3.heap.size w3 wr) := ⟨hk, hadj, hbel⟩
      clear hadj hbel
      obtain ⟨k1, hk1⟩ : ∃ k1 : Nat, k1 = k + 1 := ⟨_, rfl⟩
      rw [show (k : Int) + 1 = (k1 : Int) by omega]
      have HK1 : Hid (k1 = k + 1) := hk1
      have kI : (k1 : Int) ≤ 20000 := by omega
      have k0 : (0 : Int) ≤ (k1 : Int) := by omega
      have kk0 : (0 : Int) ≤ (k : Int) := by omega
      have kw1 : IntKind.i64.wrap ((k1 : Int) - 1) = (k : Int) := by rw [IntKind.wrap_i64]; omega
      have kw2 : IntKind.i64.wrap ((k1 : Int) + 1) = (k1 : Int) + 1 := by rw [IntKind.wrap_i64]; omega
      by_cases hkm : k1 < m
      · have hkI : (k1 : Int) < (m : Int) := by omega
        have hkI2 : (k : Int) < (m : Int) := by omega
        have HKM : Hid (k1 < m) := hkm
        have hen := (HO.out.1.below HK.out.2.2).ents
        obtain ⟨be, oe, rfl⟩ := hen.addr (by have := HN.out; omega)
        have x4 := hen.at (k := k) (by have := HN.out; omega)
        have y4 := hen.at (k := k1) (by have := HN.out; omega)
        obtain ⟨⟨ka, va, sa, da⟩, hxa⟩ : ∃ x, L3.getD k zeroE = x := ⟨_, rfl⟩
        obtain ⟨⟨kb, vb, sb, db⟩, hxb⟩ : ∃ x, L3.getD k1 zeroE = x := ⟨_, rfl⟩
        rw [hxa] at x4
        rw [hxb] at y4
        obtain ⟨r, hr⟩ : ∃ r, lessE ⟨ka, va, sa, da⟩ ⟨kb, vb, sb, db⟩ = r := ⟨_, rfl⟩
        have HLE := fun w' => less_any ⟨ka, va, sa, da⟩ ⟨kb, vb, sb, db⟩ w'
        rw [hr, entV_def, entV_def] at HLE
        have HR : Hid (lessE (L3.getD k zeroE) (L3.getD (k + 1) zeroE) = r) := by show _ = _; rw [← HK1.out, hxa, hxb]; exact hr
        have HP : Hid (C4 wr be (oe + k * 4) (.string ka) (.string va) (.int .i64 sa) (.bool da)) := x4
        have HD : Hid (C4 wr be (oe + k1 * 4) (.string kb) (.string vb) (.int .i64 sb) (.bool db)) := y4
        clear x4 y4 hr hxa hxb hen hkm hk1 hk
        go_wp2
        go_region_held3 (fun w' => (w'.cell? ⟨be, oe + k1 * 4, none⟩ = some (.string kb) ∧ w'.cell? ⟨be, oe + k1 * 4 + 1, none⟩ = some (.string vb) ∧ w'.cell? ⟨be, oe + k1 * 4 + 2, none⟩ = some (.int .i64 sb) ∧ w'.cell? ⟨be, oe + k1 * 4 + 3, none⟩ = some (.bool db)) ∧ (w'.cell? ⟨be, oe + k * 4, none⟩ = some (.string ka) ∧ w'.cell? ⟨be, oe + k * 4 + 1, none⟩ = some (.string va) ∧ w'.cell? ⟨be, oe + k * 4 + 2, none⟩ = some (.int .i64 sa) ∧ w'.cell? ⟨be, oe + k * 4 + 3, none⟩ = some (.bool da)) ∧ Below wr.heap.size wr w')
          (with_reducible first | exact ⟨HD.out, HP.out, Below.refl _ _⟩ | exact ⟨c4_below HD.out (Below.refl _ _).drew, c4_below HP.out (Below.refl _ _).drew, (Below.refl _ _).drew⟩ | exact ⟨c4_below HD.out (below_dw (by assumption)), c4_below HP.out (below_dw (by assumption)), below_dw (by assumption)⟩ | assumption)
          (first
            | (go_at_call 50; refine (HLE _).mono ?_; rintro e w4 ⟨rfl, hb4⟩)
            | fail)
        rename_i hh
        have HB4 : Hid (Below w3.heap.size w3 w4) := below_bt HK.out.2.2 hh.2.2
        clear hh HLE
        cases r with
        | true =>
          go_wp2
          go_roundw
          case rel =>
            refine ⟨k1, ?_, by have := HKM.out; omega, fun i hi hik => ?_, HB4.out⟩
            · rfl
            · by_cases e : i = k
              · subst e; exact HR.out
              · exact HK.out.2.1 i hi (by have := HK1.out; omega)
          case measure => have := HKM.out; simp [intOf]; omega
        | false =>
          have hnr : ¬ RiseE L3 := fun hh => by
            have := rise_adj.1 hh k (by have := HN.out; have := HKM.out; have := HK1.out; omega)
            rw [HR.out] at this
            cases this
          have hLE := HA.out.2 hnr
          rw [HE.out, Prod.mk.injEq] at hLE
          obtain ⟨rfl, rfl⟩ := hLE
          go_wp2
          go_ret2
          exact ⟨_, rfl, eown_nil _ _, below_bt HO.out.2 HB4.out⟩
      · have hkI : (m : Int) ≤ (k1 : Int) := by omega
        have hr : RiseE L3 := rise_adj.2 (fun i hi => HK.out.2.1 i hi (by have := HN.out; omega))
        have hLE := HA.out.1 hr
        rw [HE.out, Prod.mk.injEq] at hLE
        obtain ⟨rfl, rfl⟩ := hLE
        have HEO : Hid (EOwn wr w.heap.size (.slice q3 m m3) L) := by
          have h1 := HO.out.1.below HK.out.2.2
          exact own_base h1 HB2.out.size
        clear hr
        go_wp2
        go_ret2
        exact ⟨_, rfl, HEO.out, below_bt HO.out.2 HK.out.2.2⟩
  · have e1 : ((C : Int) != 0) = true := by simp; omega
    have e1' : ((C : Int) == 0) = false := by simp; omega
    have hLE := allE_bad (ls := lsR R) (by rw [HC.out]; exact hC0)
    rw [HE.out, HC.out, Prod.mk.injEq] at hLE
    obtain ⟨rfl, rfl⟩ := hLE
    clear hC0 hmany hb2
    go_wp2
    go_ret2
    exact ⟨_, rfl, eown_nil _ _, HB2.out⟩
end Go.Proofs.YtghcmllmbpoidaaGreatDoor.Mg
namespace Go.Proofs.YtghcmllmbpoidaaGreatDoor.Mg
open Go.RowKit Go.WideShapes
theorem run_pushR (w : World) (base : Nat) (ty : TypeId) (hv : Value) (R : List RV) (r : RV) (g : Nat) (hown : w.ownsRow base 58 1 hv R.length (R.map rvV)) (hg : w.cell? ⟨g, 0, none⟩ = some (rvV r)) (hlen : R.length ≤ 1000) (hbase : base ≤ w.heap.size) :
    ∃ v' w', (Builtin.append_ #[161, 161] ty #[hv, .slice (some ⟨g, 0, none⟩) 1 1]).run Tryz.prog w = .ok v' w' ∧ w'.ownsRow base 58 1 v' (R ++ [r]).length ((R ++ [r]).map rvV) ∧ w.grownBy w' hv.ownBlock := by
  obtain ⟨i0, hi, hz0, hz1, hz2⟩ := info_parts' info_ents
  have hmax : R.length + 1 ≤ maxLen := by unfold maxLen; omega
  have hc : ∀ j u, [rvV r][j]? = some u → w.cell? ((⟨g, 0, none⟩ : Addr).add j) = some u := by
    intro j u hu
    cases j with
    | zero => simp at hu; subst hu; exact hg
    | succ j => simp at hu
  obtain ⟨v', w', h1, h2, h3, _⟩ := run_append_own (P := Tryz.prog) w base 161 ty 58 i0 (.slice none 0 0) 1 24 Tryz.underlying161 hi hz0 hz1 hz2 rfl (by decide) hv R.length (R.map rvV) hown ⟨g, 0, none⟩ 1 1 [rvV r] rfl hc (by intro u hu; simp at hu; subst hu; rfl) hmax (by omega) hbase
  refine ⟨v', w', h1, ?_, h3⟩
  rw [List.length_append, List.map_append]
  exact h2
theorem wpList_pushR (w : World) {ops : Array Oper} {rest : List Oper} {o : Oper} {a : Act} {Q : Exit → Act → World → Prop} (hw : Region.wanted o (yielded ops a.tmps) = true) (s x : Operand)
    (ho : o.op = .call { callee := .builtin .append, args := #[s, x], argTypes := #[161, 161] }) (base : Nat) (v : Value) (R : List RV) (r : RV) (g : Nat) (hs : a.eval s = v) (hx : a.eval x = .slice (some ⟨g, 0, none⟩) 1 1)
    (hown : w.ownsRow base 58 1 v R.length (R.map rvV)) (hg : w.cell? ⟨g, 0, none⟩ = some (rvV r)) (hlen : R.length ≤ 1000) (hbase : base ≤ w.heap.size)
    (h : ∀ v' w', w'.ownsRow base 58 1 v' (R ++ [r]).length ((R ++ [r]).map rvV) → w.grownBy w' v.ownBlock → wpList Tryz.prog ops Q rest (a.put o.dst v') w') : wpList Tryz.prog ops Q (o :: rest) a w := by
  refine wpList_step fun K hK => ?_
  rw [if_pos hw]
  obtain ⟨v', w', hr, h2, h3⟩ := run_pushR w base o.type v R r g hown hg hlen hbase
  unfold Oper.wp execOp
  simp only [ho, resolve, invoke, builtin, Sem.run_bind, Sem.run_pure, Result.andThen_ok, List.map_toArray, List.map_cons, List.map_nil, hs, hx, hr]
  exact hK _ _ (h v' w' h2 h3)
theorem rows_own {w : World} {base : Nat} {q : Option Addr} {n c : Nat} {R : List RV} (h : w.ownsRow base 58 1 (.slice q n c) R.length (R.map rvV)) : RowsIn w q R := by
  intro hp
  rcases h.2 with ⟨_, hn⟩ | ⟨g, cap, cur, hv, hb, hg, hle, hmax, hsz, htk⟩
  · omega
  · simp only [Value.slice.injEq] at hv
    obtain ⟨rfl, rfl, rfl⟩ := hv
    refine ⟨g, 0, rfl, fun i hi => ?_⟩
    rw [Nat.zero_add, World.ownsRow.cellAt h i (by omega)]
    exact mapR_at hi
theorem EOwn.rowOk {w : World} {base : Nat} {t : RV} (h : EOwn w base (rvV t) t.l) : RowOk w t := by
  obtain ⟨q, m, e, h1, h2, h3⟩ := h.form
  obtain ⟨tq, tn, tc, tl⟩ := t
  simp only [rvV, Value.slice.injEq] at e h h1
  obtain ⟨rfl, rfl, rfl⟩ := e
  exact ⟨rfl, h.ents, h1, h2, h3⟩
theorem EOwn.grownR {w w' : World} {b1 b2 n : Nat} {v v2 : Value} {L : List EntV} {xs : List Value} (h : EOwn w b1 v L) (ho : w.ownsRow b2 58 1 v2 n xs) (hg : w.grownBy w' v2.ownBlock) : EOwn w' b1 v L := by
  refine World.ownsRow.kept h hg ?_
  cases h3 : v.ownBlock with
  | none => exact .inl rfl
  | some k =>
    right
    rcases h.2 with ⟨hv, _⟩ | ⟨g, cap, cur, hv, _, hgg, _⟩
    · rw [hv] at h3; cases h3
    · rw [hv] at h3
      simp only [Value.ownBlock, Option.some.injEq] at h3
      subst h3
      exact fun e => own_neS ho hgg (by decide) e.symm
theorem step_ents {ops : Array Oper} {o : Oper} {a : Act} {w : World} {K : Act → World → Prop} {Q : Exit → Act → World → Prop} {E : Prop} (hgd : o.guard = none) (s x : Operand)
    (ho : o.op = .call { callee := .builtin .append, args := #[s, x], argTypes := #[58, 58] }) (base : Nat) (l : List EntV) (p : Option Addr) (m c : Nat) (hs : a.eval s = .slice none 0 0) (hx : a.eval x = .slice p m c) (hm : m = l.length)
    (hin : EntsIn w p l) (hp : p = none → c = 0) (hlen : l.length ≤ 100000) (hbase : base ≤ w.heap.size)
    (h : ∀ v' w', EOwn w' base v' l → w.grownBy w' none → K (a.put o.dst v') w') : if Region.wanted o (yielded ops a.tmps) = true then Oper.wp Tryz.prog o a w K Q else E := by
  subst hm
  have hw : Region.wanted o (yielded ops a.tmps) = true := by simp [Region.wanted, hgd]
  rw [if_pos hw]
  obtain ⟨v', w', hr, h2, h3⟩ := run_append_ents w base o.type l p c hin hp hlen hbase
  unfold Oper.wp execOp
  simp only [ho, resolve, invoke, builtin, Sem.run_bind, Sem.run_pure, Result.andThen_ok, List.map_toArray, List.map_cons, List.map_nil, hs, hx, hr]
  exact h v' w' h2 h3
end Go.Proofs.YtghcmllmbpoidaaGreatDoor.Mg
namespace Go.Proofs.YtghcmllmbpoidaaGreatDoor
open Go.RowKit Go.WideShapes
def entC (seq : Int) (x : Tr.CV) : Mg.EntV := ⟨x.key, x.val, seq, x.gone⟩
noncomputable def rowC (l : List Tr.CV) (seq : Int) : List Mg.EntV := Mg.rowE [] (l.map (entC seq))
noncomputable def rowK (l : List Tr.CV) (seq : Int) (k : Nat) : List Mg.EntV := Mg.rowE [] ((l.take k).map (entC seq))
theorem rowK_zero (l : List Tr.CV) (seq : Int) : rowK l seq 0 = [] := rfl
theorem rowK_all (l : List Tr.CV) (seq : Int) {k : Nat} (h : k = l.length) : rowK l seq k = rowC l seq := by
  unfold rowK rowC; rw [h, List.take_length]
theorem rowK_step {l : List Tr.CV} {seq : Int} {k : Nat} (h : k < l.length) : rowK l seq (k + 1) = Mg.stepE (rowK l seq k) (entC seq (l.getD k Tr.zeroCV)) := by
  unfold rowK
  rw [List.take_succ_eq_append_getElem h, List.map_append, List.map_cons, List.map_nil, Mg.rowE_snoc, List.getD_eq_getElem?_getD, List.getElem?_eq_getElem h]
  rfl
theorem check_nil : Mg.checkE [] = 0 := by decide
theorem rowK_check (l : List Tr.CV) (seq : Int) (k : Nat) : Mg.checkE (rowK l seq k) = 0 := Mg.rowE_check check_nil _
structure OnR (w : World) (r : Nat) (a : List Mg.EntV) (wr : World) : Prop where
  row : Mg.RowIn wr (fun k => w.heap.size ≤ k) r a
  bel : Below w.heap.size w wr
set_option maxHeartbeats 2000000 in
theorem rowOf_any (q : Option Addr) (n c : Nat) (l : List Tr.CV) (seq : Int) (w : World) (hq : Tr.CsIn w q l) (hn0 : n = l.length) (hn : n ≤ 64) (hL : Mg.Laid w) :
    Calls Tryz.prog 84 #[.slice q n c, .int .i64 seq] w fun e w' => (∃ q' c', e = .returned (.slice q' (rowC l seq).length c') ∧ Mg.EOwn w' w.heap.size (.slice q' (rowC l seq).length c') (rowC l seq)) ∧ Below w.heap.size w w' := by
  have HN := Mg.New_any w
  have HQ : Hid (Tr.CsIn w q l) := hq
  have HL : Hid (Mg.Laid w) := hL
  have HLN : Hid (n = l.length) := hn0
  have hnI : (n : Int) ≤ 64 := by omega
  clear hq hL hn0 hn
  go_enter Tryz.func84, Tryz.ntmps84
  go_wp2_with fail
  refine HN.mono ?_
  rintro e w1 ⟨rfl, hrow, hb1⟩
  have H1 : Hid (OnR w (w.heap.size + 3) [] w1) := ⟨hrow, hb1⟩
  clear hrow hb1 HN
  go_wp2
  go_loopw [13] (fun s13 wr => ∃ i : Nat, s13 = .int .i64 (i : Int) ∧ i ≤ n ∧ OnR w (w.heap.size + 3) (rowK l seq i) wr) (fun s13 _ => n - (intOf s13).toNat)
  case atStart => exact ⟨0, rfl, by omega, by rw [rowK_zero]; exact H1.out⟩
  case round =>
    obtain ⟨i, rfl, h1, hon⟩ := hrel
    have HI : Hid (i ≤ n) := h1
    have HO : Hid (OnR w (w.heap.size + 3) (rowK l seq i) wr) := hon
    clear h1 hon
    by_cases hlt : i < n
    · have hltI : (i : Int) < (n : Int) := by omega
      have hiI0 : (0 : Int) ≤ (i : Int) := by omega
      have hil : i < l.length := by have := HLN.out; omega
      obtain ⟨b, o, rfl⟩ := HQ.out.addr (by omega)
      obtain ⟨x, hx⟩ : ∃ x, l.getD i Tr.zeroCV = x := ⟨_, rfl⟩
      have HX : Hid (rowK l seq (i + 1) = Mg.stepE (rowK l seq i) (entC seq x)) := by rw [← hx]; exact rowK_step hil
      obtain ⟨e0, e1, e2⟩ := (HQ.out.below HO.out.bel).at hil
      rw [hx] at e0 e1 e2
      obtain ⟨xk, xv, xg⟩ := x
      simp only at e0 e1 e2
      obtain ⟨E, hE⟩ : ∃ E, (Mg.putE (rowK l seq i) (entC seq ⟨xk, xv, xg⟩)).2 = E := ⟨_, rfl⟩
      have hbA := below_alloc wr (.cells #[.string xk, .string xv, .bool xg] 40)
      have hsz := HO.out.bel.size
      have HP := Mg.rowPut_any (fun k => w.heap.size ≤ k) (w.heap.size + 3) (rowK l seq i) (entC seq ⟨xk, xv, xg⟩) (wr.alloc (.cells #[.string xk, .string xv, .bool xg] 40)) (HO.out.row.below hbA) (rowK_check l seq i)
        (HL.out.below (below_bt HO.out.bel hbA) HL.out.size) (by have := HL.out.size; show ¬ _ ≤ _; omega) (fun k hk => by have := hbA.size; show _ ≤ _; omega) (rowK l seq (i + 1)) E HX.out.symm hE
      have HBA : Hid (Below w.heap.size w (wr.alloc (.cells #[.string xk, .string xv, .bool xg] 40))) := below_bt HO.out.bel hbA
      simp only [entC, Mg.entV_def] at HP
      clear hlt hx hE hbA hsz hil
      go_wp2_with fail
      refine HP.mono ?_
      rintro e w2 ⟨rfl, hr2, hk2⟩
      have HO2 : Hid (OnR w (w.heap.size + 3) (rowK l seq (i + 1)) w2) := ⟨hr2, HBA.out.trans (hk2.bel (fun k hk h => by omega) HBA.out.size)⟩
      clear hr2 hk2 HP
      go_wp2
      go_roundw
      case rel => exact ⟨i + 1, by go_num, by omega, HO2.out⟩
      case measure => simp [intOf]; omega
    · have hltI : (n : Int) ≤ (i : Int) := by omega
      have hin : i = n := by have := HI.out; omega
      subst hin
      have HA := Mg.rowAll_any _ _ _ wr HO.out.row (rowK_check l seq i)
      rw [rowK_all l seq HLN.out] at HA
      clear hlt
      go_wp2_with fail
      refine HA.mono ?_
      rintro e w2 ⟨⟨q2, c2, rfl, ho2⟩, hb2⟩
      have HE : Hid (Mg.EOwn w2 w.heap.size (.slice q2 (rowC l seq).length c2) (rowC l seq)) := Mg.own_mono ho2 HO.out.bel.size
      have HB2 : Hid (Below w.heap.size w w2) := below_bt HO.out.bel hb2
      clear ho2 hb2 HA
      go_wp2
      go_ret
      exact ⟨⟨_, _, rfl, HE.out⟩, HB2.out⟩
end Go.Proofs.YtghcmllmbpoidaaGreatDoor
