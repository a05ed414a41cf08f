/-
  The document's Read.
-/
import Derived.Test.YtcfalgomcdmdhaaDoorJDGo
namespace Go.Proofs.YtcfalgomcdmdhaaDoor
open Go.RowKit Go.WideShapes Go.Joins

theorem dval_flat {p : RS × Option J.JV} {b dp : Nat} {S : ByteArray} {w w' : World} (k : Nat) (bb : Bool) (n : Int) (t : ByteArray) (hk : k < 256) (hn : J.Rng n) (hv : ∀ v, p.2 = some v → v = .mk k bb n (numsOf t) [] []) (hr : DIn w' b S dp p.1) (hg : w.grownBy w' (some b)) :
    DValP p b S dp w (.returned (.agg (flatA k bb n t))) w' :=
  ⟨_, .mk k bb n t [] [], rfl, jin_flat _ _ k bb n t hk hn, fun v h => by rw [hv v h]; simp [JB.toJ, toJs], hr, hg⟩
theorem ni_end {w wE : World} {b dp : Nat} {S : ByteArray} {σ : RS} {a1 a2 a3 a4 a5 a6 : Value} (h : NI b S dp w σ wE) : DIn (set6 wE w.heap.size a1 a2 a3 a4 a5 a6) b S dp σ ∧ w.grownBy (set6 wE w.heap.size a1 a2 a3 a4 a5 a6) (some b) := by
  have g6 := set6_grown wE w.heap.size a1 a2 a3 a4 a5 a6
  have hg2 := h.g
  have hlt := h.lt
  exact ⟨h.r.at (g6.block b h.r.lt (fun e => by cases e; omega)), ⟨g6.os.trans hg2.os, g6.tape.trans hg2.tape, g6.output.trans hg2.output, Nat.le_trans hg2.size g6.size, fun i hi hne => (g6.block i (Nat.lt_of_lt_of_le hi hg2.size) (fun e => by cases e; omega)).trans (hg2.block i hi hne)⟩⟩
theorem vb_text {F : Nat} {g : Option (J.Rd J.JV)} {σ : RS} (h : σ.pk = 34) : goR (J.valueB F g) σ = goR ((J.text F []).then fun s => J.Rd.pure (.mk 4 false 0 s [] [])) σ := by
  obtain ⟨s, i, rfl, hi⟩ := pk_pos (σ := σ) (by rw [h]; decide)
  have hp := h
  rw [pk_in s i hi] at hp
  have hn : goR (J.need 34 34) (.live s i) = (.live s (i + 1), some 34) := by
    unfold J.need
    rw [goR_sw _ _ hi]
    simp only [hp, Nat.le_refl, and_self, if_true]
    exact goR_pure _ (by omega)
  unfold J.text
  rw [then_assoc, goR_some (J.Good.need _ _) hn]
  unfold J.valueB
  rw [goR_sw _ _ hi, hp]
  rfl
set_option maxHeartbeats 4000000 in
set_option maxRecDepth 8000 in
theorem dgroup_deep (K FN : Nat) (hK : K < 256) (b : Nat) (s : ByteArray) (i : Nat) (w : World) (h : DIn w b s 32 (.live s i)) (p : RS × Option J.JV) (hp : p = (.dead (cutS s i) 161, none)) :
    Calls Tryd.prog 71 #[rp b, .int .u8 (K : Int), .int .u8 (FN : Int)] w fun e w' => DValP p b s 32 w e w' := by
  have hlt := h.lt
  have hb0 : Below w.heap.size w (w.alloc jbox) := below_new _ _
  have hn0 := _root_.Go.heap_alloc_new w jbox
  have hb1 := below_new (w.alloc jbox) (.cells #[.int .u8 (K : Int), .bool false, .int .i64 0, .string ⟨#[]⟩, .slice none 0 0, .slice none 0 0] 25)
  have hn1 := _root_.Go.heap_alloc_new (w.alloc jbox) (.cells #[.int .u8 (K : Int), .bool false, .int .i64 0, .string ⟨#[]⟩, .slice none 0 0, .slice none 0 0] 25)
  rw [World.size_alloc] at hn1
  have hbb := below_more hb0 hb1
  have hR := box_below hn0 hb1
  have d0 := h.below hbb
  have c1 := d0.c1
  have c4 := d0.c4
  simp only [show (((32 : Nat) : Int)) = 32 from rfl] at c4
  have Fl := fail_any b s 32 (.live s i) 161 (i : Int) (fun s' j e => by cases e; rfl) ⟨by decide, by decide⟩ _ d0
  simp only [show (((161 : Nat) : Int)) = 161 from rfl] at Fl
  have HP : Hid (p = (.dead (cutS s i) 161, none) ∧ K < 256) := ⟨hp, hK⟩
  have HW : Hid (b < w.heap.size ∧ w.grownBy ((w.alloc jbox).alloc (.cells #[.int .u8 (K : Int), .bool false, .int .i64 0, .string ⟨#[]⟩, .slice none 0 0, .slice none 0 0] 25)) (some b) ∧ ((w.alloc jbox).alloc (.cells #[.int .u8 (K : Int), .bool false, .int .i64 0, .string ⟨#[]⟩, .slice none 0 0, .slice none 0 0] 25)).heap[w.heap.size]? = some jbox ∧
      ((w.alloc jbox).alloc (.cells #[.int .u8 (K : Int), .bool false, .int .i64 0, .string ⟨#[]⟩, .slice none 0 0, .slice none 0 0] 25)).heap[w.heap.size + 1]? = some (.cells #[.int .u8 (K : Int), .bool false, .int .i64 0, .string ⟨#[]⟩, .slice none 0 0, .slice none 0 0] 25 (0, 0))) := ⟨hlt, grown_below hbb _, hR, hn1⟩
  unfold rp at Fl ⊢
  unfold jbox zeroA at Fl c1 c4 HW
  clear h hlt hb0 hn0 hb1 hn1 hbb hR d0 hp hK
  go_enter Tryd.func71, Tryd.ntmps71
  go_wp2_with fail
  refine Fl.mono ?_
  rintro e w1 ⟨rfl, h1, g1⟩
  have hW := HW.out
  have HN : Hid (NI b s 32 w ((RS.live s i).refuse 161) w1) := ⟨h1, box_grown hW.2.2.1 g1 (by omega), grown_trans hW.2.1 g1, hW.1⟩
  have HX : Hid (w1.heap[w.heap.size + 1]? = some (.cells #[.int .u8 (K : Int), .bool false, .int .i64 0, .string ⟨#[]⟩, .slice none 0 0, .slice none 0 0] 25 (0, 0))) := box_grown hW.2.2.2 g1 (by omega)
  obtain ⟨⟨x0, x1, x2, x3, x4, x5⟩, _, _, _, _, _, _⟩ := row6_cells HX.out
  obtain ⟨⟨y0, y1, y2, y3, y4, y5⟩, z0, z1, z2, z3, z4, z5⟩ := box_cells HN.out.x
  clear Fl h1 g1 hW c1 c4
  simp only []
  go_wp2_with fail
  refine bodyPost_ret (results_cell_row rfl _ _ w.heap.size 25 (flatA K false 0 ⟨#[]⟩) (0, 0) _ rfl (set6_heap HN.out.x _ _ _ _ _ _) Tryd.underlying25 rfl size_json) rfl ?_
  have he := ni_end (a1 := .int .u8 (K : Int)) (a2 := .bool false) (a3 := .int .i64 0) (a4 := .string ⟨#[]⟩) (a5 := .slice none 0 0) (a6 := .slice none 0 0) HN.out
  exact dval_flat K false 0 ⟨#[]⟩ HP.out.2 rng_zero (fun v hv => by rw [HP.out.1] at hv; cases hv) (by rw [HP.out.1]; exact he.1) he.2
end Go.Proofs.YtcfalgomcdmdhaaDoor
namespace Go.Proofs.YtcfalgomcdmdhaaDoor
open Go.RowKit Go.WideShapes Go.Joins

theorem NI.below {b : Nat} {S : ByteArray} {dp : Nat} {w wc w' : World} {σ : RS} (h : NI b S dp w σ wc) (hb : Below wc.heap.size wc w') : NI b S dp w σ w' := h.step (h.r.below hb) (grown_below hb _)
theorem heap_lt2 {w : World} {g : Nat} {o : Obj} (h : w.heap[g]? = some o) : g < w.heap.size := by
  rcases Nat.lt_or_ge g w.heap.size with h' | h'
  · exact h'
  · rw [Array.getElem?_eq_none h'] at h; cases h
set_option maxHeartbeats 8000000 in
set_option maxRecDepth 8000 in
theorem dvalue_walk (F : Nat) (hF : 20001 ≤ F) (g : Option (J.Rd J.JV)) (b : Nat) (S : ByteArray) (dp : Nat) (σ : RS) (w : World) (h : DIn w b S dp σ)
    (hl : ∀ s i w', DIn w' b S dp (.live s i) → i < s.size → (numsOf s).getD i 0 = 91 → Calls Tryd.prog 71 #[rp b, .int .u8 5, .int .u8 93] w' fun e w'' => DValP (goR (J.valueB F g) (.live s i)) b S dp w' e w'')
    (ho : ∀ s i w', DIn w' b S dp (.live s i) → i < s.size → (numsOf s).getD i 0 = 123 → Calls Tryd.prog 71 #[rp b, .int .u8 6, .int .u8 125] w' fun e w'' => DValP (goR (J.valueB F g) (.live s i)) b S dp w' e w'') :
    Calls Tryd.prog 38 #[rp b] w fun e w' => DValP (goR (valR F g) σ) b S dp w e w' := by
  have hlt := h.lt
  have hbA : Below w.heap.size w (w.alloc jbox) := (Below.refl _ _).alloc (Nat.le_refl _) jbox
  have ni0 : NI b S dp w σ (w.alloc jbox) := ⟨h.below hbA, _root_.Go.heap_alloc_new w jbox, grown_below hbA _, hlt⟩
  have Bk := dblanks_any b S dp σ (w.alloc jbox) ni0.r
  obtain ⟨σ1, hσ1⟩ : ∃ x, (goR J.blanks σ).1 = x := ⟨_, rfl⟩
  rw [valR_is, hσ1]
  rw [hσ1] at Bk
  have HN0 : Hid (NI b S dp w σ (w.alloc jbox)) := ni0
  have HL : Hid (∀ s i w', DIn w' b S dp (.live s i) → i < s.size → (numsOf s).getD i 0 = 91 → Calls Tryd.prog 71 #[rp b, .int .u8 5, .int .u8 93] w' fun e w'' => DValP (goR (J.valueB F g) (.live s i)) b S dp w' e w'') := hl
  have HO : Hid (∀ s i w', DIn w' b S dp (.live s i) → i < s.size → (numsOf s).getD i 0 = 123 → Calls Tryd.prog 71 #[rp b, .int .u8 6, .int .u8 125] w' fun e w'' => DValP (goR (J.valueB F g) (.live s i)) b S dp w' e w'') := ho
  have HF : Hid (20001 ≤ F) := hF
  unfold rp at Bk ⊢
  unfold jbox zeroA at Bk
  clear h hlt hbA ni0 hσ1 hl ho hF
  go_enter Tryd.func38, Tryd.ntmps38
  go_wp2_with fail
  refine Bk.mono ?_
  rintro e w1 ⟨rfl, h1, g1⟩
  have n1 : NI b S dp w σ1 w1 := HN0.out.step h1 g1
  have N1 := next_any b S dp σ1 w1 h1
  have HNP : Hid (σ1.nx = (σ1.pk : Int) ∨ (σ1.nx = -1 ∧ σ1.pk = 0)) := nx_pk σ1
  obtain ⟨V, hV⟩ : ∃ V, σ1.nx = V := ⟨_, rfl⟩
  rw [hV] at N1
  have HV : Hid (σ1.nx = V) := hV
  have HN1 : Hid (NI b S dp w σ1 w1) := n1
  unfold rp at N1
  clear Bk h1 g1 n1 hV HN0
  simp only []
  go_wp2_with fail
  refine N1.mono ?_
  rintro e w2 ⟨rfl, hb2⟩
  have HN2 : Hid (NI b S dp w σ1 w2) := HN1.out.below hb2
  clear N1 hb2 HN1
  simp only []
  by_cases k91 : V = 91
  · have hp : σ1.pk = 91 := by rcases HNP.out with e | ⟨e, _⟩ <;> have := HV.out <;> omega
    obtain ⟨s, i, rfl, hi⟩ := pk_pos (σ := σ1) (by rw [hp]; decide)
    rw [pk_in s i hi] at hp
    have Gr := HL.out s i w2 HN2.out.r hi hp
    unfold rp at Gr
    subst k91
    clear hi hp
    go_wp2_with fail
    refine Gr.mono ?_
    rintro e w3 ⟨A, x, rfl, hA, hx, d3, g3⟩
    obtain ⟨kk, bb, nn, tt, nq, nl, nc, iq, il, ic, rfl⟩ := jin_form hA
    have HN3 : Hid (NI b S dp w (goR (J.valueB F g) (.live s i)).1 w3) := HN2.out.step d3 g3
    have HA : Hid (JIn w3 (fun k => w2.heap.size ≤ k) (jA kk bb nn tt nq nl nc iq il ic) x ∧ (∀ v, (goR (J.valueB F g) (.live s i)).2 = some v → x.toJ = v)) := ⟨hA, hx⟩
    obtain ⟨⟨y0, y1, y2, y3, y4, y5⟩, z0, z1, z2, z3, z4, z5⟩ := box_cells HN3.out.x
    unfold jA
    clear Gr hA hx d3 g3
    simp only []
    go_wp2_with fail
    refine bodyPost_ret (results_cell_row rfl _ _ w.heap.size 25 (jA kk bb nn tt nq nl nc iq il ic) (0, 0) _ rfl (set6_heap HN3.out.x _ _ _ _ _ _) Tryd.underlying25 rfl size_json) rfl ?_
    have he := ni_end (a1 := .int .u8 (kk : Int)) (a2 := .bool bb) (a3 := .int .i64 nn) (a4 := .string tt) (a5 := .slice nq nl nc) (a6 := .slice iq il ic) HN3.out
    have hl2 := heap_lt2 HN2.out.x
    exact ⟨_, x, rfl, (HA.out.1.kept (set6_grown _ _ _ _ _ _ _ _) (fun k hk e => by cases e; omega)).wk (fun k hk => by omega), HA.out.2, he.1, he.2⟩
  by_cases k123 : V = 123
  · have hp : σ1.pk = 123 := by rcases HNP.out with e | ⟨e, _⟩ <;> have := HV.out <;> omega
    obtain ⟨s, i, rfl, hi⟩ := pk_pos (σ := σ1) (by rw [hp]; decide)
    rw [pk_in s i hi] at hp
    have Gr := HO.out s i w2 HN2.out.r hi hp
    unfold rp at Gr
    subst k123
    clear hi hp
    go_wp2_with fail
    refine Gr.mono ?_
    rintro e w3 ⟨A, x, rfl, hA, hx, d3, g3⟩
    obtain ⟨kk, bb, nn, tt, nq, nl, nc, iq, il, ic, rfl⟩ := jin_form hA
    have HN3 : Hid (NI b S dp w (goR (J.valueB F g) (.live s i)).1 w3) := HN2.out.step d3 g3
    have HA : Hid (JIn w3 (fun k => w2.heap.size ≤ k) (jA kk bb nn tt nq nl nc iq il ic) x ∧ (∀ v, (goR (J.valueB F g) (.live s i)).2 = some v → x.toJ = v)) := ⟨hA, hx⟩
    obtain ⟨⟨y0, y1, y2, y3, y4, y5⟩, z0, z1, z2, z3, z4, z5⟩ := box_cells HN3.out.x
    unfold jA
    clear Gr hA hx d3 g3
    simp only []
    go_wp2_with fail
    refine bodyPost_ret (results_cell_row rfl _ _ w.heap.size 25 (jA kk bb nn tt nq nl nc iq il ic) (0, 0) _ rfl (set6_heap HN3.out.x _ _ _ _ _ _) Tryd.underlying25 rfl size_json) rfl ?_
    have he := ni_end (a1 := .int .u8 (kk : Int)) (a2 := .bool bb) (a3 := .int .i64 nn) (a4 := .string tt) (a5 := .slice nq nl nc) (a6 := .slice iq il ic) HN3.out
    have hl2 := heap_lt2 HN2.out.x
    exact ⟨_, x, rfl, (HA.out.1.kept (set6_grown _ _ _ _ _ _ _ _) (fun k hk e => by cases e; omega)).wk (fun k hk => by omega), HA.out.2, he.1, he.2⟩
  by_cases k34 : V = 34
  · have hp : σ1.pk = 34 := by rcases HNP.out with e | ⟨e, _⟩ <;> have := HV.out <;> omega
    have Tx := dtext_any F HF.out b S dp none 0 [] (fun _ => False) σ1 w2 HN2.out.r (ss_nil _ _ _) (fun k hk => hk.elim) (by decide)
    simp only [List.map_nil, List.length_nil] at Tx
    have HVB : Hid (goR (J.valueB F g) σ1 = goR ((J.text F []).then fun s => J.Rd.pure (.mk 4 false 0 s [] [])) σ1) := vb_text hp
    unfold rp at Tx
    subst k34
    clear hp
    go_wp2_with fail
    refine Tx.mono ?_
    rintro e w3 ⟨str, rfl, hv, d3, g3⟩
    have hvb := HVB.out
    rw [goR_thenV (q := fun s => J.Rd.pure (J.JV.mk 4 false 0 s [] [])) (J.Good.text _ _) (V := numsOf str) (fun v h => (hv v h).symm)] at hvb
    have hpv := goR_pureV (J.JV.mk 4 false 0 (numsOf str) [] []) d3.ok
    have h1 : (goR (J.valueB F g) σ1).1 = (goR (J.text F []) σ1).1 := by rw [hvb]; exact hpv.1
    rw [← h1] at d3
    have HN3 : Hid (NI b S dp w (goR (J.valueB F g) σ1).1 w3 ∧ ∀ v, (goR (J.valueB F g) σ1).2 = some v → v = .mk 4 false 0 (numsOf str) [] []) := ⟨HN2.out.step d3 g3, fun v h => hpv.2 v (by rw [← hvb]; exact h)⟩
    obtain ⟨⟨y0, y1, y2, y3, y4, y5⟩, z0, z1, z2, z3, z4, z5⟩ := box_cells HN3.out.1.x
    clear Tx d3 g3 hv hvb hpv h1
    simp only []
    go_wp2_with fail
    refine bodyPost_ret (results_cell_row rfl _ _ w.heap.size 25 (flatA 4 false 0 str) (0, 0) _ rfl (set6_heap HN3.out.1.x _ _ _ _ _ _) Tryd.underlying25 rfl size_json) rfl ?_
    have he := ni_end (a1 := .int .u8 4) (a2 := .bool false) (a3 := .int .i64 0) (a4 := .string str) (a5 := .slice none 0 0) (a6 := .slice none 0 0) HN3.out.1
    exact dval_flat 4 false 0 str (by decide) rng_zero (fun v hv => HN3.out.2 v hv) he.1 he.2
  by_cases k110 : V = 110
  · have hp : σ1.pk = 110 := by rcases HNP.out with e | ⟨e, _⟩ <;> have := HV.out <;> omega
    have Wd := dword_any b S dp σ1 ⟨#[110, 117, 108, 108]⟩ (by decide) w2 HN2.out.r
    rw [show numsOf (⟨#[110, 117, 108, 108]⟩ : ByteArray) = [110, 117, 108, 108] from rfl] at Wd
    have HW : Hid ((goR (J.word [110, 117, 108, 108]) σ1).1.ok → (goR (J.valueB F g) σ1).1 = (goR (J.word [110, 117, 108, 108]) σ1).1 ∧ ∀ v, (goR (J.valueB F g) σ1).2 = some v → v = .mk 0 false 0 [] [] []) := fun hok => valueB_word (c := 110) (u := [117, 108, 108]) (by decide) (by decide) hp HN2.out.r.ok (fun l => rfl) hok
    unfold rp at Wd
    subst k110
    clear hp
    go_wp2_with fail
    refine Wd.mono ?_
    rintro e w3 ⟨rfl, d3, g3⟩
    have HVB := HW.out d3.ok
    rw [← HVB.1] at d3
    have HN3 : Hid (NI b S dp w (goR (J.valueB F g) σ1).1 w3 ∧ ∀ v, (goR (J.valueB F g) σ1).2 = some v → v = .mk 0 false 0 [] [] []) := ⟨HN2.out.step d3 g3, HVB.2⟩
    obtain ⟨⟨y0, y1, y2, y3, y4, y5⟩, z0, z1, z2, z3, z4, z5⟩ := box_cells HN3.out.1.x
    clear Wd d3 g3 HVB
    simp only []
    go_wp2_with fail
    refine bodyPost_ret (results_cell_row rfl _ _ w.heap.size 25 (flatA 0 false 0 ⟨#[]⟩) (0, 0) _ rfl (set6_heap HN3.out.1.x _ _ _ _ _ _) Tryd.underlying25 rfl size_json) rfl ?_
    have he := ni_end (a1 := .int .u8 0) (a2 := .bool false) (a3 := .int .i64 0) (a4 := .string ⟨#[]⟩) (a5 := .slice none 0 0) (a6 := .slice none 0 0) HN3.out.1
    exact dval_flat 0 false 0 ⟨#[]⟩ (by decide) rng_zero (fun v hv => HN3.out.2 v hv) he.1 he.2
  by_cases k116 : V = 116
  · have hp : σ1.pk = 116 := by rcases HNP.out with e | ⟨e, _⟩ <;> have := HV.out <;> omega
    have Wd := dword_any b S dp σ1 ⟨#[116, 114, 117, 101]⟩ (by decide) w2 HN2.out.r
    rw [show numsOf (⟨#[116, 114, 117, 101]⟩ : ByteArray) = [116, 114, 117, 101] from rfl] at Wd
    have HW : Hid ((goR (J.word [116, 114, 117, 101]) σ1).1.ok → (goR (J.valueB F g) σ1).1 = (goR (J.word [116, 114, 117, 101]) σ1).1 ∧ ∀ v, (goR (J.valueB F g) σ1).2 = some v → v = .mk 1 true 0 [] [] []) := fun hok => valueB_word (c := 116) (u := [114, 117, 101]) (by decide) (by decide) hp HN2.out.r.ok (fun l => rfl) hok
    unfold rp at Wd
    subst k116
    clear hp
    go_wp2_with fail
    refine Wd.mono ?_
    rintro e w3 ⟨rfl, d3, g3⟩
    have HVB := HW.out d3.ok
    rw [← HVB.1] at d3
    have HN3 : Hid (NI b S dp w (goR (J.valueB F g) σ1).1 w3 ∧ ∀ v, (goR (J.valueB F g) σ1).2 = some v → v = .mk 1 true 0 [] [] []) := ⟨HN2.out.step d3 g3, HVB.2⟩
    obtain ⟨⟨y0, y1, y2, y3, y4, y5⟩, z0, z1, z2, z3, z4, z5⟩ := box_cells HN3.out.1.x
    clear Wd d3 g3 HVB
    simp only []
    go_wp2_with fail
    refine bodyPost_ret (results_cell_row rfl _ _ w.heap.size 25 (flatA 1 true 0 ⟨#[]⟩) (0, 0) _ rfl (set6_heap HN3.out.1.x _ _ _ _ _ _) Tryd.underlying25 rfl size_json) rfl ?_
    have he := ni_end (a1 := .int .u8 1) (a2 := .bool true) (a3 := .int .i64 0) (a4 := .string ⟨#[]⟩) (a5 := .slice none 0 0) (a6 := .slice none 0 0) HN3.out.1
    exact dval_flat 1 true 0 ⟨#[]⟩ (by decide) rng_zero (fun v hv => HN3.out.2 v hv) he.1 he.2
  by_cases k102 : V = 102
  · have hp : σ1.pk = 102 := by rcases HNP.out with e | ⟨e, _⟩ <;> have := HV.out <;> omega
    have Wd := dword_any b S dp σ1 ⟨#[102, 97, 108, 115, 101]⟩ (by decide) w2 HN2.out.r
    rw [show numsOf (⟨#[102, 97, 108, 115, 101]⟩ : ByteArray) = [102, 97, 108, 115, 101] from rfl] at Wd
    have HW : Hid ((goR (J.word [102, 97, 108, 115, 101]) σ1).1.ok → (goR (J.valueB F g) σ1).1 = (goR (J.word [102, 97, 108, 115, 101]) σ1).1 ∧ ∀ v, (goR (J.valueB F g) σ1).2 = some v → v = .mk 1 false 0 [] [] []) := fun hok => valueB_word (c := 102) (u := [97, 108, 115, 101]) (by decide) (by decide) hp HN2.out.r.ok (fun l => rfl) hok
    unfold rp at Wd
    subst k102
    clear hp
    go_wp2_with fail
    refine Wd.mono ?_
    rintro e w3 ⟨rfl, d3, g3⟩
    have HVB := HW.out d3.ok
    rw [← HVB.1] at d3
    have HN3 : Hid (NI b S dp w (goR (J.valueB F g) σ1).1 w3 ∧ ∀ v, (goR (J.valueB F g) σ1).2 = some v → v = .mk 1 false 0 [] [] []) := ⟨HN2.out.step d3 g3, HVB.2⟩
    obtain ⟨⟨y0, y1, y2, y3, y4, y5⟩, z0, z1, z2, z3, z4, z5⟩ := box_cells HN3.out.1.x
    clear Wd d3 g3 HVB
    simp only []
    go_wp2_with fail
    refine bodyPost_ret (results_cell_row rfl _ _ w.heap.size 25 (flatA 1 false 0 ⟨#[]⟩) (0, 0) _ rfl (set6_heap HN3.out.1.x _ _ _ _ _ _) Tryd.underlying25 rfl size_json) rfl ?_
    have he := ni_end (a1 := .int .u8 1) (a2 := .bool false) (a3 := .int .i64 0) (a4 := .string ⟨#[]⟩) (a5 := .slice none 0 0) (a6 := .slice none 0 0) HN3.out.1
    exact dval_flat 1 false 0 ⟨#[]⟩ (by decide) rng_zero (fun v hv => HN3.out.2 v hv) he.1 he.2
  have hvb : goR (J.valueB F g) σ1 = goR J.number σ1 := by
    have hv := HV.out
    refine valueB_num HN2.out.r.ok ?_
    rcases HNP.out with e | ⟨e, e2⟩
    · refine ⟨fun q => k91 ?_, fun q => k123 ?_, fun q => k34 ?_, fun q => k110 ?_, fun q => k116 ?_, fun q => k102 ?_⟩ <;> omega
    · rw [e2]; decide
  have HVB : Hid (goR (J.valueB F g) σ1 = goR J.number σ1) := hvb
  have Nb := dnumber_any b S dp σ1 w2 HN2.out.r
  have b1 : (V == 91) = false := by simpa using k91
  have b2 : (V == 123) = false := by simpa using k123
  have b3 : (V == 34) = false := by simpa using k34
  have b4 : (V == 110) = false := by simpa using k110
  have b5 : (V == 116) = false := by simpa using k116
  have b6 : (V == 102) = false := by simpa using k102
  have Nb2 : Calls Tryd.prog 74 #[rp b] w2 fun e w' => ∃ (k : Nat) (n : Int) (t : ByteArray), e = .returned (.agg (flatA k false n t)) ∧ k < 256 ∧ J.Rng n ∧ (∀ v, (goR (J.valueB F g) σ1).2 = some v → v = .mk k false n (numsOf t) [] []) ∧ DIn w' b S dp (goR (J.valueB F g) σ1).1 ∧ w2.grownBy w' (some b) := by
    refine Nb.mono fun e w' hh => ?_
    obtain ⟨k, n, t, a1, a2, a3, a4, a5, a6⟩ := hh
    rw [← hvb] at a4 a5
    exact ⟨k, n, t, a1, a2, a3, a4, a5, a6⟩
  unfold rp at Nb2
  clear Nb hvb k91 k123 k34 k110 k116 k102
  go_wp2_with fail
  refine Nb2.mono ?_
  rintro e w3 ⟨k, n, t, rfl, a2, a3, a4, d3, g3⟩
  have HN3 : Hid (NI b S dp w (goR (J.valueB F g) σ1).1 w3 ∧ k < 256 ∧ J.Rng n ∧ ∀ v, (goR (J.valueB F g) σ1).2 = some v → v = .mk k false n (numsOf t) [] []) := ⟨HN2.out.step d3 g3, a2, a3, a4⟩
  obtain ⟨⟨y0, y1, y2, y3, y4, y5⟩, z0, z1, z2, z3, z4, z5⟩ := box_cells HN3.out.1.x
  unfold flatA jA
  clear Nb2 d3 g3 a2 a3 a4
  simp only []
  go_wp2_with fail
  refine bodyPost_ret (results_cell_row rfl _ _ w.heap.size 25 (flatA k false n t) (0, 0) _ rfl (set6_heap HN3.out.1.x _ _ _ _ _ _) Tryd.underlying25 rfl size_json) rfl ?_
  have he := ni_end (a1 := .int .u8 (k : Int)) (a2 := .bool false) (a3 := .int .i64 n) (a4 := .string t) (a5 := .slice none 0 0) (a6 := .slice none 0 0) HN3.out.1
  exact dval_flat k false n t HN3.out.2.1 HN3.out.2.2.1 HN3.out.2.2.2 he.1 he.2
end Go.Proofs.YtcfalgomcdmdhaaDoor
namespace Go.Proofs.YtcfalgomcdmdhaaDoor
open Go.RowKit Go.WideShapes Go.Joins

/-- a value, under d brackets that may still be opened -/
theorem dvalue_any (F : Nat) (hF : 20001 ≤ F) (b : Nat) (S : ByteArray) : ∀ (d dp : Nat), d + dp = 32 → ∀ (σ : RS) (w : World), DIn w b S dp σ →
    Calls Tryd.prog 38 #[rp b] w fun e w' => DValP (goR (J.value F d) σ) b S dp w e w' := by
  intro d
  induction d with
  | zero =>
    intro dp hd σ w h
    obtain rfl : dp = 32 := by omega
    refine dvalue_walk F hF none b S 32 σ w h ?_ ?_
    · intro s i w' hw hi hby
      obtain rfl := hw.is
      exact dgroup_deep 5 93 (by decide) b s i w' hw _ (bracket_deep (obj := false) hi hby rfl)
    · intro s i w' hw hi hby
      obtain rfl := hw.is
      exact dgroup_deep 6 125 (by decide) b s i w' hw _ (bracket_deep (obj := true) hi hby rfl)
  | succ d ih =>
    intro dp hd σ w h
    refine dvalue_walk F hF (some (J.value F d)) b S dp σ w h ?_ ?_
    · intro s i w' hw hi hby
      obtain rfl := hw.is
      exact dgroup_list F hF (J.value F d) (J.Good.value (by omega) d) (J.value_end F d) dp (by omega) b s i hi hby w' hw (fun σ' w'' hw' => ih (dp + 1) (by omega) σ' w'' hw')
    · intro s i w' hw hi hby
      obtain rfl := hw.is
      exact dgroup_object F hF (J.value F d) (J.Good.value (by omega) d) (J.value_end F d) dp (by omega) b s i hi hby w' hw (fun σ' w'' hw' => ih (dp + 1) (by omega) σ' w'' hw')
theorem read_goes {F : Nat} (hF : 0 < F) {σ σ1 σ2 : RS} {V : J.JV} (hV : Gives (J.value F 32) σ V) (h1 : (goR (J.value F 32) σ).1 = σ1) (h2 : (goR J.blanks σ1).1 = σ2) : goR (J.read F) σ = goR (J.close V) σ2 := by
  unfold J.read J.valueE
  simp only [then_assoc, pure_then]
  rw [goR_thenV (J.Good.value hF 32) hV, h1, unit_then J.Good.blanks, h2]
theorem close_end {V : J.JV} {s : ByteArray} : goR (J.close V) (.live s s.size) = (.live s s.size, some V) := by
  simp only [goR, rest_nil (Nat.lt_irrefl _), J.close, List.length_nil, Nat.sub_zero]
theorem close_more {V : J.JV} {s : ByteArray} {i : Nat} (hi : i < s.size) : goR (J.close V) (.live s i) = ((RS.live s i).refuse 160, none) := by
  have hl := rest_len s i
  have hc := rest_cons hi
  rw [hc] at hl
  simp only [goR, hc, J.close, RS.refuse]
  rw [hl, show s.size - (s.size - i) = i by omega]
def rrbox (s : ByteArray) : Obj := .cells #[.string s, .int .i64 0, .int .i64 0, .int .i64 0, .int .i64 0] 72
theorem read_shape {F : Nat} {s : ByteArray} : goR (J.read F) (.live s 0) = (match J.read F (numsOf s) with
      | .ok v r => (.live s (s.size - r.length), some v)
      | .bad e r => (.dead (cutS s (s.size - r.length)) e, none)
      | .out => (.dead s 160, none)) := by
  simp only [goR, List.drop_zero]
  cases J.read F (numsOf s) <;> rfl
/-- what Read answers, by the state at the end -/
theorem readp_live {F : Nat} {s : ByteArray} {w w' : World} {A : Array Value} {x : JB} {i : Nat} (hl : (numsOf s).length < F) (hs : s.size ≤ 16384) (hg : goR (J.read F) (.live s 0) = (.live s i, some x.toJ)) (hA : JIn w' (fun k => w.heap.size ≤ k) A x) (hb : Below w.heap.size w w') :
    ReadP F s w (.returned (.tuple #[.agg A, .int .i64 0, .int .i64 0])) w' := by
  refine ⟨A, x, 0, 0, rfl, hA, hb, fun h => absurd hs (by omega), fun _ => ?_⟩
  rw [read_shape] at hg
  cases hr : J.read F (numsOf s) with
  | out => exact absurd hr (J.read_fed hl)
  | ok v r => rw [hr] at hg; simp only [Prod.mk.injEq, Option.some.injEq] at hg; exact ⟨rfl, rfl, hg.2.symm⟩
  | bad e r => rw [hr] at hg; simp only [Prod.mk.injEq] at hg; cases hg.2
theorem readp_dead {F : Nat} {s t : ByteArray} {w w' : World} {e : Nat} (hl : (numsOf s).length < F) (hs : s.size ≤ 16384) (hg : goR (J.read F) (.live s 0) = (.dead t e, none)) (he : e ≠ 0) (hb : Below w.heap.size w w') :
    ReadP F s w (.returned (.tuple #[.agg zeroA, .int .i64 (t.size : Int), .int .i64 (e : Int)])) w' := by
  refine ⟨zeroA, zeroB, t.size, e, rfl, jin_zero _ _, hb, fun h => absurd hs (by omega), fun _ => ?_⟩
  rw [read_shape] at hg
  cases hr : J.read F (numsOf s) with
  | out => exact absurd hr (J.read_fed hl)
  | ok v r => rw [hr] at hg; simp only [Prod.mk.injEq] at hg; cases hg.2
  | bad e2 r =>
    rw [hr] at hg
    simp only [Prod.mk.injEq, RS.dead.injEq, and_true] at hg
    obtain ⟨rfl, rfl⟩ := hg
    exact ⟨rfl, cutS_size s (Nat.sub_le _ _), rfl, he⟩
set_option maxHeartbeats 4000000 in
set_option maxRecDepth 8000 in
theorem dRead_any (F : Nat) (hF : 20001 ≤ F) (s : ByteArray) (w : World) : Calls Tryd.prog 17 #[.string s] w fun e w' => ReadP F s w e w' := by
  by_cases hs : 16384 < s.size
  · have hq : (16384 : Int) < (s.size : Int) := by omega
    have HS : Hid (16384 < s.size) := hs
    clear hs
    have hn := _root_.Go.heap_alloc_new w jbox
    obtain ⟨⟨d0, d1, d2, d3, d4, d5⟩, f0, f1, f2, f3, f4, f5⟩ := box_cells hn
    have HN : Hid ((w.alloc jbox).heap[w.heap.size]? = some jbox) := hn
    unfold jbox zeroA at d0 d1 d2 d3 d4 d5 f0 f1 f2 f3 f4 f5
    clear hn
    go_enter Tryd.func17, Tryd.ntmps17
    go_wp2
    refine bodyPost_ret (results_cell_row3 rfl _ _ _ w.heap.size 25 zeroA (0, 0) _ rfl HN.out rfl Tryd.underlying25 size_json) rfl ?_
    exact ⟨zeroA, zeroB, 0, 3, rfl, jin_zero _ _, below_new w jbox, fun _ => ⟨rfl, rfl, rfl⟩, fun h => absurd HS.out (by omega)⟩
  · have hq : ¬ (16384 : Int) < (s.size : Int) := by omega
    have HS : Hid (s.size ≤ 16384) := by show _ ≤ _; omega
    have n1 := _root_.Go.heap_alloc_new w jbox
    have b1 := below_new w jbox
    have b2 := below_new (w.alloc jbox) (rrbox s)
    have n2 := _root_.Go.heap_alloc_new (w.alloc jbox) (rrbox s)
    rw [World.size_alloc] at n2
    have h2 : DIn ((w.alloc jbox).alloc (rrbox s)) (w.heap.size + 1) s 0 (.live s 0) := ⟨Nat.zero_le _, by have := HS.out; omega, by omega, 0, 0, by omega, by omega, n2, (fun s' j e => by cases e; exact ⟨rfl, rfl⟩), (fun s' e e' => by cases e')⟩
    have Vl := dvalue_any F hF (w.heap.size + 1) s 32 0 rfl (.live s 0) _ h2
    have HH : Hid (20001 ≤ F ∧ Below w.heap.size w ((w.alloc jbox).alloc (rrbox s)) ∧ ((w.alloc jbox).alloc (rrbox s)).heap[w.heap.size]? = some jbox ∧ (numsOf s).length < F) := ⟨hF, below_more b1 b2, box_below n1 b2, by rw [numsOf_len]; have := HS.out; omega⟩
    clear hF hs n1 b1 b2 n2 h2
    unfold rp at Vl
    go_enter Tryd.func17, Tryd.ntmps17
    go_wp2_with fail
    refine (show Calls _ _ _ ((w.alloc jbox).alloc (rrbox s)) _ from Vl.mono ?_)
    clear Vl
    rintro e w4 ⟨A, x, rfl, hA, hx, h4, g4⟩
    obtain ⟨kk, bb, nn, tt, qn, nl, nc, qi, il, ic, rfl⟩ := jin_form hA
    simp only []
    have hz3 : ((w.alloc jbox).alloc (rrbox s)).heap.size = w.heap.size + 1 + 1 := by simp only [World.size_alloc]
    have z4 := g4.size
    obtain ⟨σ1, hσ1⟩ : ∃ y, (goR (J.value F 32) (.live s 0)).1 = y := ⟨_, rfl⟩
    rw [hσ1] at h4
    have hn5 := _root_.Go.heap_alloc_new w4 (.cells (jA kk bb nn tt qn nl nc qi il ic) 25)
    have b5 := below_new w4 (.cells (jA kk bb nn tt qn nl nc qi il ic) 25)
    have bx5 := box_below (box_grown HH.out.2.2.1 g4 (by omega)) b5
    have hA5 := (hA.bel b5).wk (Z' := fun k => w.heap.size + 1 < k) (fun k hk => by omega)
    have B5 : Below w.heap.size w (w4.alloc (.cells (jA kk bb nn tt qn nl nc qi il ic) 25)) := (below_of_grown HH.out.2.1 g4 (by omega)).trans (b5.mono (by omega))
    have Bk := dblanks_any (w.heap.size + 1) s 0 σ1 _ (h4.below b5)
    obtain ⟨σ2, hσ2⟩ : ∃ y, (goR J.blanks σ1).1 = y := ⟨_, rfl⟩
    rw [hσ2] at Bk
    have HR : Hid (goR (J.read F) (.live s 0) = goR (J.close x.toJ) σ2) := read_goes (by have := HH.out.1; omega) (fun v hv => (hx v hv).symm) hσ1 hσ2
    have H5 : Hid ((w4.alloc (.cells (jA kk bb nn tt qn nl nc qi il ic) 25)).heap[w.heap.size]? = some jbox ∧ JIn (w4.alloc (.cells (jA kk bb nn tt qn nl nc qi il ic) 25)) (fun k => w.heap.size + 1 < k) (jA kk bb nn tt qn nl nc qi il ic) x ∧ Below w.heap.size w (w4.alloc (.cells (jA kk bb nn tt qn nl nc qi il ic) 25)) ∧
      (w4.alloc (.cells (jA kk bb nn tt qn nl nc qi il ic) 25)).heap[w4.heap.size]? = some (.cells #[.int .u8 (kk : Int), .bool bb, .int .i64 nn, .string tt, .slice qn nl nc, .slice qi il ic] 25 (0, 0)) ∧ w.heap.size + 1 < w4.heap.size) := ⟨bx5, hA5, B5, hn5, by omega⟩
    unfold rp at Bk
    unfold jA at Bk H5 ⊢
    clear hz3 z4 hσ1 h4 hn5 b5 bx5 hA5 B5 hσ2 hx hA g4
    go_wp2_with fail
    refine Bk.mono ?_
    rintro e w6 ⟨rfl, h6, g6⟩
    have h5 := H5.out
    have HV6 : Hid (w6.heap[w4.heap.size]? = some (.cells #[.int .u8 (kk : Int), .bool bb, .int .i64 nn, .string tt, .slice qn nl nc, .slice qi il ic] 25 (0, 0)) ∧ w6.heap[w.heap.size]? = some jbox ∧ JIn w6 (fun k => w.heap.size + 1 < k) (jA kk bb nn tt qn nl nc qi il ic) x ∧ Below w.heap.size w w6 ∧ w.heap.size + 1 < w4.heap.size ∧ DIn w6 (w.heap.size + 1) s 0 σ2) :=
      ⟨box_grown h5.2.2.2.1 g6 (by omega), box_grown h5.1 g6 (by omega), h5.2.1.kept g6 (fun k hk e => by cases e; omega), below_of_grown h5.2.2.1 g6 (by omega), h5.2.2.2.2, h6⟩
    clear Bk h6 g6 h5
    simp only []
    obtain ⟨i1, at1, hi1, hat1, hb1, hl1, hd1⟩ := HV6.out.2.2.2.2.2.ex
    have c1 : w6.cell? ⟨w.heap.size + 1, 1, none⟩ = some (.int .i64 (i1 : Int)) := by rw [cell_of_block hb1]; rfl
    by_cases hi : i1 < s.size
    · have hq2 : (i1 : Int) < (s.size : Int) := by omega
      have Fl := fail_any (w.heap.size + 1) s 0 σ2 160 (i1 : Int) (fun s' j e => by have := (hl1 s' j e).2; rw [this]) ⟨by decide, by decide⟩ w6 HV6.out.2.2.2.2.2
      obtain ⟨t, e, hte⟩ := refuse_dead 160 σ2
      rw [hte] at Fl
      have HRD : Hid (goR (J.read F) (.live s 0) = (.dead t e, none)) := by
        show _ = _
        rw [HR.out]
        cases σ2 with
        | dead t' e' => cases hte; rfl
        | live s' j =>
          obtain ⟨hss, hjj⟩ := hl1 s' j rfl
          subst hss
          subst hjj
          rw [close_more hi, hte]
      simp only [show (((160 : Nat) : Int)) = 160 from rfl] at Fl
      unfold rp at Fl
      clear hl1 hd1 hi1 hat1 hb1 hi hte
      go_wp2_with fail
      refine Fl.mono ?_
      rintro e' w7 ⟨rfl, h7, g7⟩
      have h6 := HV6.out
      have HV7 : Hid (w7.heap[w4.heap.size]? = some (.cells #[.int .u8 (kk : Int), .bool bb, .int .i64 nn, .string tt, .slice qn nl nc, .slice qi il ic] 25 (0, 0)) ∧ w7.heap[w.heap.size]? = some jbox ∧ JIn w7 (fun k => w.heap.size + 1 < k) (jA kk bb nn tt qn nl nc qi il ic) x ∧ Below w.heap.size w w7 ∧ w.heap.size + 1 < w4.heap.size ∧ DIn w7 (w.heap.size + 1) s 0 (.dead t e)) :=
        ⟨box_grown h6.1 g7 (by omega), box_grown h6.2.1 g7 (by omega), h6.2.2.1.kept g7 (fun k hk e => by cases e; omega), below_of_grown h6.2.2.2.1 g7 (by omega), h6.2.2.2.2.1, h7⟩
      clear Fl h7 g7 h6 c1 hq2
      simp only []
      obtain ⟨i8, at8, _, _, hb8, _, hd8⟩ := HV7.out.2.2.2.2.2.ex
      have e8 : at8 = t.size := (hd8 t e rfl).symm
      subst e8
      have k2 : w7.cell? ⟨w.heap.size + 1, 2, none⟩ = some (.int .i64 (e : Int)) := by rw [cell_of_block hb8]; rfl
      have k3 : w7.cell? ⟨w.heap.size + 1, 3, none⟩ = some (.int .i64 (t.size : Int)) := by rw [cell_of_block hb8]; rfl
      have hne := HV7.out.2.2.2.2.2.ok.1
      have he1 : ((e : Int) == 0) = false := by simpa using fun q : (e : Int) = 0 => hne (by omega)
      have HNZ : Hid (e ≠ 0) := hne
      obtain ⟨⟨p0, p1, p2, p3, p4, p5⟩, u0, u1, u2, u3, u4, u5⟩ := box_cells HV7.out.2.1
      obtain ⟨E, hE⟩ : ∃ E : Int, (e : Int) = E := ⟨_, rfl⟩
      obtain ⟨I, hI⟩ : ∃ I : Int, (t.size : Int) = I := ⟨_, rfl⟩
      rw [hE] at k2 he1
      rw [hI] at k3
      have HE : Hid ((e : Int) = E ∧ (t.size : Int) = I) := ⟨hE, hI⟩
      clear hb8 hd8 hne hE hI
      go_wp2_with fail
      go_region
      go_wp2
      rw [← HE.out.1, ← HE.out.2]
      have g6 := set6_grown w7 w.heap.size (.int .u8 0) (.bool false) (.int .i64 0) (.string ⟨#[]⟩) (.slice none 0 0) (.slice none 0 0)
      have B6 := below_of_grown HV7.out.2.2.2.1 g6 (Nat.le_refl _)
      have hx8 := set6_heap HV7.out.2.1 (.int .u8 0) (.bool false) (.int .i64 0) (.string ⟨#[]⟩) (.slice none 0 0) (.slice none 0 0)
      have hx9 : (World.drew (set6 w7 w.heap.size (.int .u8 0) (.bool false) (.int .i64 0) (.string ⟨#[]⟩) (.slice none 0 0) (.slice none 0 0))).heap[w.heap.size]? = some (.cells zeroA 25 (0, 0)) := by rw [drew_heap]; unfold zeroA; exact hx8
      have B7 := B6.drew
      unfold set6 at hx9 B7
      refine bodyPost_ret (results_cell_row3 rfl _ _ _ w.heap.size 25 zeroA (0, 0) _ rfl hx9 rfl Tryd.underlying25 size_json) rfl ?_
      exact readp_dead HH.out.2.2.2 HS.out HRD.out HNZ.out B7
    · have hq2 : ¬ (i1 : Int) < (s.size : Int) := by omega
      cases σ2 with
      | dead t e =>
        have HRD : Hid (goR (J.read F) (.live s 0) = (.dead t e, none)) := HR.out
        clear hl1 hd1 hi1 hat1 hb1 hi
        obtain ⟨i8, at8, _, _, hb8, _, hd8⟩ := HV6.out.2.2.2.2.2.ex
        have e8 : at8 = t.size := (hd8 t e rfl).symm
        subst e8
        have k2 : w6.cell? ⟨w.heap.size + 1, 2, none⟩ = some (.int .i64 (e : Int)) := by rw [cell_of_block hb8]; rfl
        have k3 : w6.cell? ⟨w.heap.size + 1, 3, none⟩ = some (.int .i64 (t.size : Int)) := by rw [cell_of_block hb8]; rfl
        have hne := HV6.out.2.2.2.2.2.ok.1
        have he1 : ((e : Int) == 0) = false := by simpa using fun q : (e : Int) = 0 => hne (by omega)
        have HNZ : Hid (e ≠ 0) := hne
        obtain ⟨⟨p0, p1, p2, p3, p4, p5⟩, u0, u1, u2, u3, u4, u5⟩ := box_cells HV6.out.2.1
        obtain ⟨E, hE⟩ : ∃ E : Int, (e : Int) = E := ⟨_, rfl⟩
        obtain ⟨I, hI⟩ : ∃ I : Int, (t.size : Int) = I := ⟨_, rfl⟩
        rw [hE] at k2 he1
        rw [hI] at k3
        have HE : Hid ((e : Int) = E ∧ (t.size : Int) = I) := ⟨hE, hI⟩
        clear hb8 hd8 hne hE hI
        go_wp2_with fail
        go_region
        go_wp2
        rw [← HE.out.1, ← HE.out.2]
        have g6 := set6_grown w6 w.heap.size (.int .u8 0) (.bool false) (.int .i64 0) (.string ⟨#[]⟩) (.slice none 0 0) (.slice none 0 0)
        have B6 := below_of_grown HV6.out.2.2.2.1 g6 (Nat.le_refl _)
        have hx8 := set6_heap HV6.out.2.1 (.int .u8 0) (.bool false) (.int .i64 0) (.string ⟨#[]⟩) (.slice none 0 0) (.slice none 0 0)
        have hx9 : (World.drew (set6 w6 w.heap.size (.int .u8 0) (.bool false) (.int .i64 0) (.string ⟨#[]⟩) (.slice none 0 0) (.slice none 0 0))).heap[w.heap.size]? = some (.cells zeroA 25 (0, 0)) := by rw [drew_heap]; unfold zeroA; exact hx8
        have B7 := B6.drew
        unfold set6 at hx9 B7
        refine bodyPost_ret (results_cell_row3 rfl _ _ _ w.heap.size 25 zeroA (0, 0) _ rfl hx9 rfl Tryd.underlying25 size_json) rfl ?_
        exact readp_dead HH.out.2.2.2 HS.out HRD.out HNZ.out B7
      | live s' j =>
        obtain ⟨hss, hjj⟩ := hl1 s' j rfl
        subst hss
        subst hjj
        have hii : i1 = s'.size := by have : i1 ≤ s'.size := HV6.out.2.2.2.2.2.ok; omega
        have HRD : Hid (goR (J.read F) (.live s' 0) = (.live s' i1, some x.toJ)) := by
          show _ = _
          rw [HR.out, hii]
          exact close_end
        have c2 : w6.cell? ⟨w.heap.size + 1, 2, none⟩ = some (.int .i64 0) := by rw [cell_of_block hb1]; rfl
        obtain ⟨⟨d0, d1, d2, d3, d4, d5⟩, f0, f1, f2, f3, f4, f5⟩ := row6_cells HV6.out.1
        obtain ⟨⟨p0, p1, p2, p3, p4, p5⟩, u0, u1, u2, u3, u4, u5⟩ := box_cells HV6.out.2.1
        clear hl1 hd1 hi1 hat1 hb1 hi hii
        go_wp2_with fail
        refine bodyPost_ret (results_cell_row3 rfl _ _ _ w.heap.size 25 (jA kk bb nn tt qn nl nc qi il ic) (0, 0) _ rfl (set6_heap HV6.out.2.1 _ _ _ _ _ _) rfl Tryd.underlying25 size_json) rfl ?_
        have g6 := set6_grown w6 w.heap.size (.int .u8 (kk : Int)) (.bool bb) (.int .i64 nn) (.string tt) (.slice qn nl nc) (.slice qi il ic)
        exact readp_live HH.out.2.2.2 HS.out HRD.out ((HV6.out.2.2.1.kept g6 (fun k hk e => by cases e; omega)).wk (fun k hk => by omega)) (below_of_grown HV6.out.2.2.2.1 g6 (Nat.le_refl _))
end Go.Proofs.YtcfalgomcdmdhaaDoor
