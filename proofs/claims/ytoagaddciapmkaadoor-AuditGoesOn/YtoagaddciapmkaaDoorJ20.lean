/-
  The first record that does not fit: the program's. Check, Head, Text.
-/
import Derived.Test.YtoagaddciapmkaaDoorJ19
namespace Go.Proofs.YtoagaddciapmkaaDoor
open Go.RowKit Go.WideShapes

inductive MisI (w : World) (g : Nat) (l : List RecV) (n : Nat) (t : Value) (wr : World) : Prop where
  | intro (k : Nat) (hk : k ≤ n) (ht : t = .int .i64 (k : Int)) (hg : wr.heap[g]? = some (.cells (recA (prevR l k)) 41 (0, 0))) (hz : ∀ j, j < k → FitAt l j) (hb : Below w.heap.size w wr)
set_option maxHeartbeats 2000000 in
set_option maxRecDepth 8000 in
theorem misfit_any (q : Option Addr) (n c : Nat) (l : List RecV) (w : World) (hk : KOn w) (h : RsIn w q l) (hn0 : n = l.length) (hm : ∀ r ∈ l, MayR r) (hnb : (n : Int) ≤ 4096) (m : Int) (hmis : MisP l m) :
    Calls Tryd.prog 42 #[.slice q n c] w fun e w' => e = .returned (.int .i64 m) ∧ Below w.heap.size w w' := by
  have HN : Hid (n = l.length) := hn0
  have HQ : Hid (RsIn w q l) := h
  have HM : Hid (MisP l m) := hmis
  have HA : Hid (∀ r ∈ l, MayR r) := hm
  have LA := last_any none 0 0 [] w (rs_nil w none) rfl (by decide)
  rw [show prevR [] ([] : List RecV).length = firstR from rfl] at LA
  clear h hn0 hm hmis
  go_enter Tryd.func42, Tryd.ntmps42
  go_wp2_with fail
  refine LA.mono ?_
  rintro e w1 ⟨rfl, hb1⟩
  simp only []
  go_step
  go_step
  go_step
  go_step
  refine wpList_store_row rfl 41 (.tmp 3) (.tmp 6) rfl w1.heap.size (recA firstR) (by rfl) (by rfl) 41 _ (_root_.Go.heap_alloc_new _ _) size_rec (by rfl) (one_rec _) ?_
  rw [World.setRow_alloc_new]
  have N1 : (w1.alloc (Obj.cells (recA firstR) 41)).heap[w1.heap.size]? = some (.cells (recA firstR) 41 (0, 0)) := _root_.Go.heap_alloc_new _ _
  have B1 : Below w.heap.size w (w1.alloc (Obj.cells (recA firstR) 41)) := hb1.alloc hb1.size _
  have hg1 : w.heap.size ≤ w1.heap.size := hb1.size
  generalize w1.heap.size = g at N1 hg1 ⊢
  generalize w1.alloc (Obj.cells (recA firstR) 41) = W1 at N1 B1 ⊢
  clear LA hb1
  go_wp2
  go_loopw [9] (fun t wr => MisI w g l n t wr) (fun t _ => n - (intOf t).toNat)
  case atStart => exact ⟨0, by omega, rfl, N1, fun j hj => absurd hj (by omega), B1⟩
  case round =>
    clear N1 B1
    obtain ⟨k, hkn, rfl, hgr, hz, hbw⟩ := hrel
    have HZ : Hid (∀ j, j < k → FitAt l j) := hz
    have HB : Hid (Below w.heap.size w wr) := hbw
    by_cases hkl : k < n
    · have hkI : (k : Int) < (n : Int) := by omega
      have hkl2 : k < l.length := by have := HN.out; omega
      have hen := HQ.out.below hbw
      obtain ⟨fb, fo, rfl⟩ := hen.addr (by omega)
      have hrec := hen.at hkl2
      have hmr := HA.out _ (getR_mem hkl2)
      have hah := prev_ahd HA.out (j := k) (by omega)
      have hsq : (prevR l k).seq ≤ 1000000 := by rw [fit_seq k hz]; omega
      have hlg := rw_lt hgr
      have HK1 : Hid (FitP (l.getD k zeroR) (prevR l k) → ∀ j, j < k + 1 → FitAt l j) := fun hf j hj => by
        rcases Nat.lt_or_ge j k with h' | h'
        · exact HZ.out j h'
        · obtain rfl : j = k := by omega
          exact hf
      have HK2 : Hid (¬ FitP (l.getD k zeroR) (prevR l k) → m = (k : Int)) := fun hf => HM.out.eq (.one k (by have := HN.out; omega) HZ.out hf)
      have HP : Hid (prevR l (k + 1) = l.getD k zeroR) := rfl
      have FI := fun w' (hb' : Below w.heap.size w w') => fits_any (l.getD k zeroR) (prevR l k) w' (hk.below hb' hk.pos) hmr hah hsq
      have HFB := fitB_iff (l.getD k zeroR) (prevR l k)
      generalize l.getD k zeroR = r at hrec HK1 HK2 FI HFB HP
      generalize prevR l k = a at hgr HK1 HK2 FI HFB
      generalize hB : fitB r a = B at FI HFB
      have HFH : Hid (B = true ↔ FitP r a) := HFB
      obtain ⟨s, t, u, d, o, hh⟩ := r
      obtain ⟨z0, z1, z2, z3, z4, z5⟩ := hrec
      obtain ⟨a0, a1, a2, a3, a4, a5⟩ := a
      simp only [recA] at FI z0 z1 z2 z3 z4 z5 hgr
      have BX : Below w.heap.size w (wr.alloc (.cells #[.int .i64 s, .int .i64 t, .string u, .string d, .int .i64 o, .string hh] 41)) := hbw.alloc hbw.size _
      have GX : (wr.alloc (.cells #[.int .i64 s, .int .i64 t, .string u, .string d, .int .i64 o, .string hh] 41)).heap[g]? = some (.cells #[.int .i64 a0, .int .i64 a1, .string a2, .string a3, .int .i64 a4, .string a5] 41 (0, 0)) := (_root_.Go.heap_alloc_old _ _ hlg).trans hgr
      have RX : (wr.alloc (.cells #[.int .i64 s, .int .i64 t, .string u, .string d, .int .i64 o, .string hh] 41)).heap[wr.heap.size]? = some (.cells #[.int .i64 s, .int .i64 t, .string u, .string d, .int .i64 o, .string hh] 41 (0, 0)) := _root_.Go.heap_alloc_new _ _
      clear hz hbw hen hmr hah hsq HFB hB hgr hkl2
      go_upto_region 5 with fail
      change Code.wp _ _ _ _ (wr.alloc (.cells #[.int .i64 s, .int .i64 t, .string u, .string d, .int .i64 o, .string hh] 41))
      generalize wr.heap.size = gx at RX hlg ⊢
      generalize wr.alloc (.cells #[.int .i64 s, .int .i64 t, .string u, .string d, .int .i64 o, .string hh] 41) = WX at BX GX RX ⊢
      have x0 : WX.cell? ⟨gx, 0, none⟩ = some (.int .i64 s) := Lib.cell_of_heap RX 0
      have x1 : WX.cell? ⟨gx, 1, none⟩ = some (.int .i64 t) := Lib.cell_of_heap RX 1
      have x2 : WX.cell? ⟨gx, 2, none⟩ = some (.string u) := Lib.cell_of_heap RX 2
      have x3 : WX.cell? ⟨gx, 3, none⟩ = some (.string d) := Lib.cell_of_heap RX 3
      have x4 : WX.cell? ⟨gx, 4, none⟩ = some (.int .i64 o) := Lib.cell_of_heap RX 4
      have x5 : WX.cell? ⟨gx, 5, none⟩ = some (.string hh) := Lib.cell_of_heap RX 5
      have y0 : WX.cell? ⟨g, 0, none⟩ = some (.int .i64 a0) := Lib.cell_of_heap GX 0
      have y1 : WX.cell? ⟨g, 1, none⟩ = some (.int .i64 a1) := Lib.cell_of_heap GX 1
      have y2 : WX.cell? ⟨g, 2, none⟩ = some (.string a2) := Lib.cell_of_heap GX 2
      have y3 : WX.cell? ⟨g, 3, none⟩ = some (.string a3) := Lib.cell_of_heap GX 3
      have y4 : WX.cell? ⟨g, 4, none⟩ = some (.int .i64 a4) := Lib.cell_of_heap GX 4
      have y5 : WX.cell? ⟨g, 5, none⟩ = some (.string a5) := Lib.cell_of_heap GX 5
      have FX := FI _ BX
      clear FI
      go_wp2_with fail
      refine FX.mono ?_
      rintro e w3 ⟨rfl, hb3⟩
      have B3 := below_more BX hb3
      replace GX := (hb3.block _ (rw_lt GX)).trans GX
      replace RX := (hb3.block _ (rw_lt RX)).trans RX
      clear FX x0 x1 x2 x3 x4 x5 y0 y1 y2 y3 y4 y5 BX hb3
      simp only []
      cases B with
      | false =>
        go_wp2
        go_ret
        refine ⟨?_, B3⟩
        rw [HK2.out (fun hf => by have := HFH.out.2 hf; cases this)]
        rfl
      | true =>
        go_upto_region 7 with fail
        go_step
        refine wpList_load_row rfl 41 (.tmp 5) rfl _ (by rfl) 41 _ _ _ RX Tryd.underlying41 rfl size_rec ?_
        refine wpList_store_row rfl 41 (.tmp 3) (.tmp 19) rfl g (recA ⟨s, t, u, d, o, hh⟩) (by rfl) (by rfl) 41 _ GX size_rec (by rfl) (one_rec _) ?_
        have G5 := setRow_heap _ _ _ (recA ⟨s, t, u, d, o, hh⟩) _ _ GX
        have B5 : Below w.heap.size w (w3.setRow g (recA ⟨s, t, u, d, o, hh⟩)) := below_setRow B3 hg1
        generalize w3.setRow g (recA ⟨s, t, u, d, o, hh⟩) = W5 at G5 B5 ⊢
        rw [← HP.out] at G5
        go_wp2
        go_roundw
        case rel => exact ⟨k + 1, by omega, rfl, G5, HK1.out (HFH.out.1 rfl), B5⟩
        case measure => simp [intOf]; omega
    · obtain rfl : k = n := by omega
      have HE : Hid (m = -1) := HM.out.eq (.all fun j hj => HZ.out j (by have := HN.out; omega))
      go_wp2
      go_ret
      refine ⟨?_, HB.out⟩
      rw [HE.out]
      rfl
/-- A slice of records. -/
structure RsL (w : World) (q : Option Addr) (n : Nat) (l : List RecV) : Prop where
  n : n = l.length
  lies : RsIn w q l
theorem RsL.below {w w' : World} {q : Option Addr} {n : Nat} {l : List RecV} (h : RsL w q n l) (hb : Below w.heap.size w w') : RsL w' q n l := ⟨h.n, h.lies.below hb⟩
set_option maxHeartbeats 1000000 in
theorem Check_any (q : Option Addr) (n c : Nat) (l : List RecV) (w : World) (hk : KOn w) (h : RsL w q n l) (hnb : (n : Int) ≤ 9223372036854775807) (m : Int) (hmis : MisP l m) (E : Nat) (hE : refE l = E) :
    Calls Tryd.prog 18 #[.slice q n c] w fun e w' => e = .returned (.tuple #[.int .i64 (if E = 0 then m else 0), .int .i64 (E : Int)]) ∧ Below w.heap.size w w' := by
  have RF := refused_any q n c l w h.lies h.n hnb
  rw [hE] at RF
  go_enter Tryd.func18, Tryd.ntmps18
  cases E with
  | zero =>
    have ho := ref_ok hE
    have MF := fun w' (hb : Below w.heap.size w w') => misfit_any q n c l w' (hk.below hb hk.pos) (h.lies.below hb) h.n ho.2 (by have := h.n; have := ho.1; omega) m hmis
    clear hE ho h hmis
    go_wp2_with fail
    refine RF.mono ?_
    rintro e w1 ⟨rfl, hb1⟩
    have M1 := MF w1 hb1
    clear RF MF
    simp only []
    go_wp2_with fail
    refine M1.mono ?_
    rintro e w2 ⟨rfl, hb2⟩
    simp only []
    go_wp2
    go_ret2
    exact ⟨rfl, below_more hb1 hb2⟩
  | succ E =>
    clear hE h hmis
    have hne : (((E + 1 : Nat) : Int) != 0) = true := by simp; omega
    go_wp2_with fail
    refine RF.mono ?_
    rintro e w1 ⟨rfl, hb1⟩
    simp only []
    go_wp2
    go_ret2
    exact ⟨rfl, hb1⟩
set_option maxHeartbeats 1000000 in
theorem Head_any (q : Option Addr) (n c : Nat) (l : List RecV) (w : World) (h : RsL w q n l) (hnb : (n : Int) ≤ 9223372036854775807) (E : Nat) (hE : refE l = E) :
    Calls Tryd.prog 19 #[.slice q n c] w fun e w' => e = .returned (.tuple #[.string (if E = 0 then (prevR l l.length).hash else ⟨#[]⟩), .int .i64 (E : Int)]) ∧ Below w.heap.size w w' := by
  have RF := refused_any q n c l w h.lies h.n hnb
  rw [hE] at RF
  go_enter Tryd.func19, Tryd.ntmps19
  cases E with
  | zero =>
    have MF := fun w' (hb : Below w.heap.size w w') => last_any q n c l w' (h.lies.below hb) h.n hnb
    clear hE h
    generalize prevR l l.length = r at MF
    have hf : ∀ w, (Instr.field 41 (.agg (recA r)) 5).run Tryd.prog w = .ok (.string r.hash) w := fun _ => by kernel_rfl
    go_wp2_with fail
    refine RF.mono ?_
    rintro e w1 ⟨rfl, hb1⟩
    have M1 := MF w1 hb1
    clear RF MF
    simp only []
    go_wp2_with fail
    refine M1.mono ?_
    rintro e w2 ⟨rfl, hb2⟩
    simp only []
    go_wp2
    go_ret2
    exact ⟨rfl, below_more hb1 hb2⟩
  | succ E =>
    clear hE h
    have hne : (((E + 1 : Nat) : Int) != 0) = true := by simp; omega
    go_wp2_with fail
    refine RF.mono ?_
    rintro e w1 ⟨rfl, hb1⟩
    simp only []
    go_wp2
    go_ret2
    exact ⟨rfl, hb1⟩
def textE (r : RecV) (b : ByteArray) : Nat := if mayB r = false then 8 else if digB b = false then 3 else 0
set_option maxHeartbeats 1000000 in
set_option maxRecDepth 8000 in
theorem Text_any (r : RecV) (b : ByteArray) (w : World) (hw : r.seq ≤ 9223372036854775807) (E : Nat) (hE : textE r b = E) :
    Calls Tryd.prog 21 #[.agg (recA r), .string b] w fun e w' => e = .returned (.tuple #[.string (if E = 0 then strOf (recN r.seq r.tim r.out r.user r.deed b) else ⟨#[]⟩), .int .i64 (E : Int)]) ∧ Below w.heap.size w w' := by
  have MB := fun w' => mayBe_any r w'
  have DG := fun w' => isDigest_any b w'
  have N0 := _root_.Go.heap_alloc_new w (.cells (recA r) 41)
  have B0 : Below w.heap.size w (w.alloc (.cells (recA r) 41)) := (Below.refl _ _).alloc (Nat.le_refl _) _
  by_cases hm : mayB r = true
  · by_cases hd : digB b = true
    · obtain rfl : E = 0 := by rw [← hE]; unfold textE; rw [hm, hd]; rfl
      rw [hm] at MB
      rw [hd] at DG
      have hmr := may_iff.1 hm
      have hb64 := dig_size hd
      obtain ⟨s, t, u, d, o, hh⟩ := r
      have q1 := hmr.seq
      have q2 := hmr.t0
      have q3 := hmr.o0
      have q4 := hmr.t1
      have q5 := hmr.o1
      simp only at hw q1 q2 q3 q4 q5
      obtain ⟨S, rfl⟩ : ∃ S : Nat, s = (S : Int) := ⟨s.toNat, by omega⟩
      obtain ⟨Tm, rfl⟩ : ∃ S : Nat, t = (S : Int) := ⟨t.toNat, by omega⟩
      obtain ⟨O, rfl⟩ : ∃ S : Nat, o = (S : Int) := ⟨o.toNat, by omega⟩
      have BH := fun w' => abehind_any S Tm O u d hh b w' hw q4 q5 hmr.us hmr.de (by omega)
      simp only [if_true]
      have HR : Hid _ := hE
      generalize recN S Tm O u d b = X at BH ⊢
      clear hE hmr hm hd HR hb64 q1 q2 q3 q4 q5
      simp only [recA] at MB N0 B0 ⊢
      go_enter Tryd.func21, Tryd.ntmps21
      go_upto_region 1 with fail
      change Code.wp _ _ _ _ (w.alloc (.cells #[.int .i64 (S : Int), .int .i64 (Tm : Int), .string u, .string d, .int .i64 (O : Int), .string hh] 41))
      generalize w.alloc (.cells #[.int .i64 (S : Int), .int .i64 (Tm : Int), .string u, .string d, .int .i64 (O : Int), .string hh] 41) = W at N0 B0 ⊢
      have HC : Hid (∀ w', Below W.heap.size W w' → w'.cell? ⟨w.heap.size, 0, none⟩ = some (.int .i64 (S : Int)) ∧ w'.cell? ⟨w.heap.size, 1, none⟩ = some (.int .i64 (Tm : Int)) ∧ w'.cell? ⟨w.heap.size, 2, none⟩ = some (.string u) ∧ w'.cell? ⟨w.heap.size, 3, none⟩ = some (.string d) ∧ w'.cell? ⟨w.heap.size, 4, none⟩ = some (.int .i64 (O : Int)) ∧ w'.cell? ⟨w.heap.size, 5, none⟩ = some (.string hh)) := fun w' hb => by
        have hx := block_below N0 hb
        exact ⟨Lib.cell_of_heap hx 0, Lib.cell_of_heap hx 1, Lib.cell_of_heap hx 2, Lib.cell_of_heap hx 3, Lib.cell_of_heap hx 4, Lib.cell_of_heap hx 5⟩
      obtain ⟨c0, c1, c2, c3, c4, c5⟩ := HC.out W (Below.refl _ _)
      go_wp2_with fail
      refine (MB _).mono ?_
      rintro e w1 ⟨rfl, hb1⟩
      clear c0 c1 c2 c3 c4 c5
      simp only []
      go_wp2_with fail
      refine (DG _).mono ?_
      rintro e w2 ⟨rfl, hb2⟩
      obtain ⟨c0, c1, c2, c3, c4, c5⟩ := HC.out w2 (below_more hb1 hb2)
      have B2 := below_more B0 (below_more hb1 hb2)
      simp only []
      go_wp2_with fail
      refine (BH _).mono ?_
      rintro e w3 ⟨⟨p3, d3, rfl, i3, k3, z3⟩, hb3⟩
      have cv := conv_at (c := d3) i3 rfl
      clear c0 c1 c2 c3 c4 c5 MB DG BH
      simp only []
      go_wp2
      go_ret2
      exact ⟨rfl, below_more B2 hb3⟩
    · have hd' : digB b = false := by simpa using hd
      obtain rfl : E = 3 := by rw [← hE]; unfold textE; rw [hm, hd']; rfl
      rw [hm] at MB
      rw [hd'] at DG
      obtain ⟨s, t, u, d, o, hh⟩ := r
      clear hE hm hd hd' hw
      simp only [recA] at MB N0 B0 ⊢
      go_enter Tryd.func21, Tryd.ntmps21
      go_wp2_with fail
      refine (MB _).mono ?_
      rintro e w1 ⟨rfl, hb1⟩
      simp only []
      go_wp2_with fail
      refine (DG _).mono ?_
      rintro e w2 ⟨rfl, hb2⟩
      simp only []
      go_wp2
      go_ret2
      exact ⟨rfl, below_more B0 (below_more hb1 hb2)⟩
  · have hm' : mayB r = false := by simpa using hm
    obtain rfl : E = 8 := by rw [← hE]; unfold textE; rw [hm']; rfl
    rw [hm'] at MB
    obtain ⟨s, t, u, d, o, hh⟩ := r
    clear hE hm hm' hw
    simp only [recA] at MB N0 B0 ⊢
    go_enter Tryd.func21, Tryd.ntmps21
    go_wp2_with fail
    refine (MB _).mono ?_
    rintro e w1 ⟨rfl, hb1⟩
    simp only []
    go_wp2
    go_ret2
    exact ⟨rfl, below_more B0 hb1⟩
end Go.Proofs.YtoagaddciapmkaaDoor
