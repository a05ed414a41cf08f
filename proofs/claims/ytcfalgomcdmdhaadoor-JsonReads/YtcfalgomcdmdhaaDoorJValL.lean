/-
  The reader: lists.
-/
import Derived.Test.YtcfalgomcdmdhaaDoorJGrp
namespace Go.Proofs.YtcfalgomcdmdhaaDoor
open Go.RowKit Go.WideShapes Go.Joins

/-- Between two rounds. -/
inductive GrpX (D : Int) (F : Nat) (f : J.Rd J.JV) (obj : Bool) (T : RS × Option (List (List Nat) × List J.JV)) (b pr pv : Nat) (w : World) (gk : Nat) (wr : World) : Prop where
  | intro (σ : RS) (As : List (Array Value)) (Js : List JB) (ss : List ByteArray) (nv iv : Value) (h : GrpI F f obj T b pr pv w σ As Js ss nv iv wr) (hm : gk + Js.length = 1024) (hd : 32 < D → ∃ s e, σ = .dead s e)
theorem below_new (w : World) (o : Obj) : Below w.heap.size w (w.alloc o) := (Below.refl _ _).alloc (Nat.le_refl _) o
theorem jin_form {w : World} {Z : Nat → Prop} {A : Array Value} {x : JB} (h : JIn w Z A x) : ∃ k bb n t nq nl nc iq il ic, A = jA k bb n t nq nl nc iq il ic := by
  cases h
  exact ⟨_, _, _, _, _, _, _, _, _, _, rfl⟩
set_option maxHeartbeats 800000 in
set_option maxRecDepth 8000 in
theorem val_list (b pr pv : Nat) (D D1 : Int) (F : Nat) (hF : 20000 ≤ F) (g : Option (J.Rd J.JV)) (f : J.Rd J.JV) (hf : J.Good f) (σ : RS) (w : World) (hE : Env w b pr pv) (h : RIn w b σ)
    (hp : (goR J.blanks σ).1.pk = 91) (hD : IntKind.i64.wrap (D + 1) = D1) (hg : (32 < D → g = none) ∧ (¬ 32 < D → ∃ d, g = some f ∧ f = J.value F d))
    (hcall : ∀ σ' w', Env w' b pr pv → RIn w' b σ' → (32 < D → ∃ s e, σ' = .dead s e) → Calls Tryd.prog 52 #[.int .i64 D1, pp pr, pp pv] w' fun e w'' => ValP f b σ' w' e w'') :
    Calls Tryd.prog 52 #[.int .i64 D, pp pr, pp pv] w fun e w' => ValP (valR F g) b σ w e w' := by
  have hlt := h.lt
  have h8 := hE.h8
  have hbA : Below w.heap.size w (w.alloc jbox) := (Below.refl _ _).alloc (Nat.le_refl _) jbox
  have hA := h.below hbA
  have hEA := hE.below hbA (by omega)
  have hN := _root_.Go.heap_alloc_new w jbox
  have Bk := blanks_any b σ (w.alloc jbox) hA
  have hG := valR_is F g σ
  have HA : Hid (Ahd b pr pv w) := ⟨hlt, World.block_lt_of_cell? _ _ hE.r, World.block_lt_of_cell? _ _ hE.v⟩
  generalize (goR J.blanks σ).1 = σ1 at Bk hG hp
  obtain ⟨s, i, rfl, hi⟩ := pk_pos (σ := σ1) (by rw [hp]; decide)
  have hbk : (numsOf s).getD i 0 = if false then 123 else 91 := by rw [← pk_in s i hi]; exact hp
  have P := fun w' (hw : RIn w' b (.live s i)) => peek_any b (.live s i) w' hw
  have En := fun w' (hw : RIn w' b (.live s i)) => enter_any b s i D hi w' hw
  simp only [hp, show (((91 : Nat) : Int)) = 91 from rfl] at P
  have hK : ∀ w', RIn w' b (.live s i) → (goR (J.valueB F g) (.live s i)).1 = (goR (loopR F f false (F + 1) [] []) (if 32 < D then .dead (cutS s i) 161 else .live s (i + 1))).1 ∧
    ∀ v, (goR (J.valueB F g) (.live s i)).2 = some v → ∃ p, (goR (loopR F f false (F + 1) [] []) (if 32 < D then .dead (cutS s i) 161 else .live s (i + 1))).2 = some p ∧ v = J.groupV false p :=
    fun w' hw => bracket_go hF hi hw.sz hbk hg
  have hDD : 32 < D → ∃ s' e, (if 32 < D then RS.dead (cutS s i) 161 else .live s (i + 1)) = .dead s' e := fun hd => ⟨cutS s i, 161, by rw [if_pos hd]⟩
  obtain ⟨σ2, hσ2⟩ : ∃ σ2, (if 32 < D then RS.dead (cutS s i) 161 else .live s (i + 1)) = σ2 := ⟨_, rfl⟩
  rw [hσ2] at hDD
  simp only [hσ2] at En hK
  rw [← hG] at hK
  have HBK : Hid (∀ w', RIn w' b (.live s i) → (goR (valR F g) σ).1 = (goR (loopR F f false (F + 1) [] []) σ2).1 ∧ ∀ v, (goR (valR F g) σ).2 = some v → ∃ p, (goR (loopR F f false (F + 1) [] []) σ2).2 = some p ∧ v = J.groupV false p) := hK
  have HDD : Hid (32 < D → ∃ s' e, σ2 = .dead s' e) := hDD
  have hr := hEA.r
  have HH : Hid (RIn w b σ ∧ b < w.heap.size ∧ 8 ≤ b ∧ Env (w.alloc jbox) b pr pv ∧ (w.alloc jbox).heap[w.heap.size]? = some jbox ∧ Below w.heap.size w (w.alloc jbox)) := ⟨h, hlt, h8, hEA, hN, hbA⟩
  have HF : Hid (20000 ≤ F ∧ J.Good f) := ⟨hF, hf⟩
  have HC : Hid (∀ σ' w', Env w' b pr pv → RIn w' b σ' → (32 < D → ∃ s e, σ' = .dead s e) → Calls Tryd.prog 52 #[.int .i64 D1, pp pr, pp pv] w' fun e w'' => ValP f b σ' w' e w'') := hcall
  obtain ⟨T, hT⟩ : ∃ T, goR (loopR F f false (F + 1) [] []) σ2 = T := ⟨_, rfl⟩
  have HT : Hid (goR (loopR F f false (F + 1) [] []) σ2 = T) := hT
  clear hK hDD hσ2 hG hp hi hbk h hE hA hN hbA hEA h8 hlt hF hf hcall hg hT
  unfold rp at Bk P hr En
  unfold pp
  unfold jbox zeroA at Bk hr
  go_enter Tryd.func52, Tryd.ntmps52
  go_wp2_with fail
  refine Bk.mono ?_
  rintro e w1 ⟨rfl, h1, g1⟩
  simp only []
  have E1 := HH.out.2.2.2.1.grown g1 (by have := (HH.out.1.below HH.out.2.2.2.2.2).lt; have := HH.out; omega)
  have P' := P w1 h1
  have hr1 := E1.r
  have HE1 : Hid (Env w1 b pr pv) := E1
  have HB1 : Hid (w1.heap[w.heap.size]? = some jbox) := box_grown HH.out.2.2.2.2.1 g1 (by have := HH.out; omega)
  unfold rp at hr1
  clear Bk hr P E1
  go_wp2_with fail
  refine P'.mono ?_
  rintro e w2 ⟨rfl, hb2⟩
  simp only []
  have h2 := h1.below hb2
  have E2 := HE1.out.below hb2 (by have := h1.lt; have := HH.out; omega)
  have HE2 : Hid (Env w2 b pr pv ∧ RIn w2 b (.live s i)) := ⟨E2, h2⟩
  have hr2 := E2.r
  have HB2 : Hid (w2.heap[w.heap.size]? = some jbox) := box_below HB1.out hb2
  have HG1 : Hid (w.grownBy w2 (some b)) := grown_trans (grown_trans (grown_below HH.out.2.2.2.2.2 _) g1) (grown_below hb2 _)
  unfold rp at hr2
  clear P' hr1 h1 g1 hb2 E2 h2
  have hb2 := HB2.out
  obtain ⟨⟨d0, d1, d2, d3, d4, d5⟩, f0, f1, f2, f3, f4, f5⟩ := box_cells hb2
  have hne : pr ≠ w.heap.size := by have := HA.out.r; omega
  unfold jbox zeroA at hb2
  have HB3 : Hid _ := hb2
  clear hb2 d1 d2 d3 d4 d5 f1 f2 f3 f4 f5
  go_wp2_with fail
  obtain ⟨w3, hw3⟩ : ∃ w3, w3 = w2.setCell ⟨w.heap.size, 0, none⟩ (.int .u8 5) := ⟨_, rfl⟩
  have hx3 : w3.heap[w.heap.size]? = some (.cells #[.int .u8 (kindG false : Int), .bool false, .int .i64 0, .string ⟨#[]⟩, .slice none 0 0, .slice none 0 0] 25 (0, 0)) := by rw [hw3]; exact block_setCell (i := 0) HB3.out _
  have h3 := end_any (wF := w3) HH.out.2.1 HE2.out.2 HG1.out (Below.refl _ _) (by rw [hw3]; exact grown_set _ _ _ _)
  have E3 : Env w3 b pr pv := HE2.out.1.kept (row := some w.heap.size) (by rw [hw3]; exact grown_set _ _ _ _) (fun e => hne (Option.some.inj e)) (fun e => by have := HA.out.v; cases e; omega) (fun k e => by cases e; have := HH.out; omega) (by have := HE2.out.2.lt; have := HH.out; omega)
  have h3r := h3.1
  refine (En _ (by rw [hw3] at h3r; exact h3r)).mono ?_
  have hw6 := hw3
  rw [← hw6]
  clear hw6
  rintro e w4 ⟨rfl, h4, g4⟩
  simp only []
  have hst := GrpI.start (F := F) (f := f) (obj := false) h4 (E3.grown g4 (by have := h3r.lt; have := HH.out; omega)) (grown_trans h3.2 g4) (box_grown hx3 g4 (by have := HH.out; omega))
  rw [HT.out] at hst
  have HST : Hid (GrpI F f false T b pr pv w σ2 [] [] [] (.slice none 0 0) (.slice none 0 0) w4) := hst
  have HBT : Hid ((goR (valR F g) σ).1 = T.1 ∧ ∀ v, (goR (valR F g) σ).2 = some v → ∃ p, T.2 = some p ∧ v = J.groupV false p) := by
    have := HBK.out w3 h3r
    rw [HT.out] at this
    exact this
  clear hst h3 h3r E3 hx3 hw3 h4 g4 d0 f0 hr2 En HBK
  go_wp2_with fail
  go_loopg [] 1024 (fun gk wr => GrpX D F f false T b pr pv w gk wr)
  case atStart => exact ⟨σ2, [], [], [], _, _, HST.out, by simp, HDD.out⟩
  case round =>
    obtain ⟨σa, As, Js, ss, nv, iv, hI, hm, hd⟩ := hrel
    obtain ⟨q, m, e1, a1, a2, a3⟩ := own_form hI.it.own
    rw [hI.its.1] at e1
    subst e1
    obtain ⟨q2, m2, e2, c1, c2, c3⟩ := own_form hI.nm
    subst e2
    obtain ⟨⟨d0, d1, d2, d3, d4, d5⟩, f0, f1, f2, f3, f4, f5⟩ := row6_cells hI.box
    have M := more_any b 93 Js.length (by decide) hI.n σa wr hI.r
    have hr := hI.env.r
    unfold rp at hr M
    rw [show oneS 93 = ⟨#[93]⟩ from rfl] at M
    have HI : Hid (GrpI F f false T b pr pv w σa As Js ss (.slice q2 ss.length m2) (.slice q Js.length m) wr) := hI
    have HM : Hid (gk + Js.length = 1024 ∧ (32 < D → ∃ s e, σa = .dead s e)) := ⟨hm, hd⟩
    clear hI hm hd a1 a2 a3 c1 c2 c3 d0 d1 d2 d3 f0 f1 f2 f3 f4 f5 d4
    go_wp2_with fail
    refine M.mono ?_
    rintro e w1 ⟨B, rfl, hB, hN, h1, g1⟩
    simp only []
    clear M hr d5
    cases B with
    | false =>
      have hov := HI.out.over HF.out.1 (w' := w1) hB h1
      have hM := HI.out.m.goes HA.out.b hov.1 (by exact g1)
      have hbx := hM.box
      have HMM : Hid (GrpM false b pr pv w T.1 As Js ss (.slice q2 ss.length m2) (.slice q Js.length m) w1 ∧ ∀ p, T.2 = some p → p = (ss.map numsOf, toJs Js)) := ⟨hM, hov.2⟩
      obtain ⟨⟨d0, d1, d2, d3, d4, d5⟩, f0, f1, f2, f3, f4, f5⟩ := row6_cells hbx
      have HX : Hid _ := hbx
      clear hov hM hB hN h1 g1 hbx
      go_wp2
      refine bodyPost_ret (results_cell_row rfl _ _ w.heap.size 25 (jA (kindG false) false 0 ⟨#[]⟩ q2 ss.length m2 q Js.length m) (0, 0) _ rfl (set6_heap' HX.out _ _ _ _ _ _) Tryd.underlying25 rfl size_json) rfl ?_
      refine HMM.out.1.fin HA.out.b HBT.out.1 (fun v hv => ?_) (set6_grown _ _ _ _ _ _ _ _)
      obtain ⟨p, hp, rfl⟩ := HBT.out.2 v hv
      rw [HMM.out.2 p hp]
    | true =>
      have hon := HI.out.on HF.out.1 hB hN
      have hM := HI.out.m.goes HA.out.b h1 g1
      have HMM : Hid (GrpM false b pr pv w (goR (moreR 93 Js.length) σa).1 As Js ss (.slice q2 ss.length m2) (.slice q Js.length m) w1) := hM
      have HON : Hid (T = goR (bodyR F f false (F - Js.length) (ss.map numsOf) (toJs Js)) (goR (moreR 93 Js.length) σa).1 ∧ Js.length < 1024) := hon
      have hD3 : 32 < D → ∃ s e, (goR (moreR 93 Js.length) σa).1 = .dead s e := fun hd => by
        obtain ⟨s', e', rfl⟩ := HM.out.2 hd
        exact ⟨s', e', rfl⟩
      generalize (goR (moreR 93 Js.length) σa).1 = σb at *
      have hMd := hM.more HA.out.b (w' := w1.drew) ((Below.refl _ _).drew)
      have Cv := HC.out σb w1.drew hMd.env hMd.r hD3
      have HMD : Hid (GrpM false b pr pv w σb As Js ss (.slice q2 ss.length m2) (.slice q Js.length m) w1.drew) := hMd
      have hx5 := (row6_cells hMd.box).1.2.2.2.2.2
      have hv5 := hMd.env.v
      have HD3 : Hid (32 < D → ∃ s e, σb = .dead s e) := hD3
      obtain ⟨i0, hi0, hz0, hz1, hz2⟩ := info_parts' info_json
      clear hon hM hB hN h1 g1 hMd hD3
      unfold cloV at hv5
      unfold pp at hv5 Cv
      go_wp2_with fail
      refine wp_region_noPanic ?_
      refine beginZ (T := fun w' => w'.cell? ⟨pv, 0, none⟩ = some (.func (.func 52) #[] #[.pointer (some ⟨pr, 0, none⟩), .pointer (some ⟨pv, 0, none⟩)])) (S := fun w' => w'.cell? ⟨w.heap.size, 5, none⟩ = some (.slice q Js.length m)) 9 (by kernel_rfl) ?_
      refine takeT 0 43 (v := ?_) rfl rfl (by kernel_rfl) (by kernel_rfl) (by kernel_rfl) (by kernel_rfl) (fun _ _ _ h => h) (by rfl) ?_ (by assumption) (by assumption) ?_
      rotate_left
      · intro w hTw; go_simp; first | done | with_reducible rfl
      simp only [Act.put, List.setIfInBounds_toArray, List.set_cons_zero, List.set_cons_succ]
      refine takeZ 1 44 7 (v := ?_) rfl rfl (by kernel_rfl) (by kernel_rfl) (by kernel_rfl) (by kernel_rfl) (by kernel_rfl) (by kernel_rfl) (by kernel_rfl) (fun _ _ _ h => h) (by rfl) ?_ (by assumption) (by assumption) ?_
      rotate_left
      · intro w hTw hSw; go_simp; first | done | with_reducible rfl
      simp only [Act.put, List.setIfInBounds_toArray, List.set_cons_zero, List.set_cons_succ]
      refine takeT 2 45 (v := ?_) rfl rfl (by kernel_rfl) (by kernel_rfl) (by kernel_rfl) (by kernel_rfl) (fun _ _ _ h => h) (by rfl) ?_ (by assumption) (by assumption) ?_
      rotate_left
      · intro w hTw; go_simp; first | done | with_reducible rfl
      simp only [Act.put, List.setIfInBounds_toArray, List.set_cons_zero, List.set_cons_succ]
      refine takeT 3 46 (v := ?_) rfl rfl (by kernel_rfl) (by kernel_rfl) (by kernel_rfl) (by kernel_rfl) (fun _ _ _ h => h) (by rfl) ?_ (by assumption) (by assumption) ?_
      rotate_left
      · intro w hTw; go_simp; first | done | with_reducible rfl
      simp only [Act.put, List.setIfInBounds_toArray, List.set_cons_zero, List.set_cons_succ]
      refine takeT 4 47 (v := ?_) rfl rfl (by kernel_rfl) (by kernel_rfl) (by kernel_rfl) (by kernel_rfl) (fun _ _ _ h => h) (by rfl) ?_ (by assumption) (by assumption) ?_
      rotate_left
      · intro w hTw; go_simp; first | done | with_reducible rfl
      simp only [Act.put, List.setIfInBounds_toArray, List.set_cons_zero, List.set_cons_succ]
      refine oneZ 5 (by kernel_rfl) rfl (by rfl) (fun K hK => ?_)
      go_simp
      refine Cv.mono ?_
      rintro e w2 ⟨A, x, rfl, hA, hx, h2, g2⟩
      obtain ⟨kk, bb, nn, tt, nq, nl, nc, iq, il, ic, rfl⟩ := jin_form hA
      have hM2 := HMD.out.goes HA.out.b h2 g2
      have hx52 := (row6_cells hM2.box).1.2.2.2.2.2
      have hv52 := hM2.env.v
      unfold cloV pp at hv52
      have HM2 : Hid (GrpM false b pr pv w (goR f σb).1 As Js ss (.slice q2 ss.length m2) (.slice q Js.length m) w2 ∧ JIn w2 (fun k => w1.heap.size ≤ k) (jA kk bb nn tt nq nl nc iq il ic) x ∧ (∀ v, (goR f σb).2 = some v → x.toJ = v)) := ⟨hM2, hA, hx⟩
      clear hM2 hA hx h2 g2 hx5 hv5 Cv
      go_simp
      refine hK.out _ _ hv52 hx52 (fun hTx hSx => ?_)
      clear hK K hv52 hx52
      refine oneZ 6 (by kernel_rfl) rfl (by rfl) (fun K hK => ?_)
      unfold jA
      go_simp
      have hn2 := (HM2.out.1.more HA.out.b (below_new w2 (.cells (jA kk bb nn tt nq nl nc iq il ic) 25)))
      have hv6 := hn2.env.v
      have hx6 := (row6_cells hn2.box).1.2.2.2.2.2
      unfold cloV pp at hv6
      unfold jA at hv6 hx6
      refine hK.out _ _ hv6 hx6 (fun hTy hSy => ?_)
      clear hK K hTx hSx hv6 hx6
      have HN2 : Hid (GrpM false b pr pv w (goR f σb).1 As Js ss (.slice q2 ss.length m2) (.slice q Js.length m) (w2.alloc (.cells (jA kk bb nn tt nq nl nc iq il ic) 25))) := hn2
      clear hn2
      refine oneZ 7 (by kernel_rfl) rfl (by rfl) (fun K hK => ?_)
      refine step_append_lies _ (by rfl) (.tmp 44) (.tmp 49) 23 (by rfl) (w.heap.size + 1) 25 i0 _ 6 80 Tryd.underlying23 hi0 hz0 hz1 hz2 rfl (by omega) (.slice q Js.length m) As.length (cellsA As) (by rfl) HN2.out.it.own ⟨w2.heap.size, 0, none⟩ 1 1 [.int .u8 (kk : Int), .bool bb, .int .i64 nn, .string tt, .slice nq nl nc, .slice iq il ic] (by rfl) (by rfl) (World.news_of_block (cs := jA kk bb nn tt nq nl nc iq il ic) (t := 25) (fr := (0, 0)) (heap_alloc_new w2 _)) (jin_one HM2.out.2.1) (by omega) (by have := HI.out.its.1; have := HON.out.2; unfold maxLen; omega) (by have := HI.out.its.1; have := HON.out.2; omega) (Nat.succ_le_of_lt HN2.out.sz) _ rfl ?_
      intro g' cap' w4 hown4 hgrow hat hlt4
      have hv7 := hgrow.cell hTy (fun e => by have := HN2.out.own.2 _ e.symm; have := HA.out.v; simp at *; omega)
      have hx7 := hgrow.cell hSy (fun e => by have := HN2.out.own.2 _ e.symm; simp at *)
      refine hK.out _ _ hv7 hx7 (fun hTx hSx => ?_)
      clear hK K hTy hSy hv7 hx7
      have hbox4 := box_at hgrow HN2.out.box (fun e => by have := HN2.out.own.2 _ e.symm; omega)
      have hit := HM2.out.1.item (A := jA kk bb nn tt nq nl nc iq il ic) (x := x) (N1 := w1.heap.size) HA.out HM2.out.2.1 ⟨HMM.out.sz, fun k hk => (HMM.out.own.1 k hk).2, fun k hk => (HMM.out.own.2 k hk).2⟩ (below_new w2 _) hown4 hgrow hat
      have HIT : Hid (GrpM false b pr pv w (goR f σb).1 (As ++ [jA kk bb nn tt nq nl nc iq il ic]) (Js ++ [x]) ss (.slice q2 ss.length m2) (.slice (some ⟨g', 0, none⟩) (As.length + 1) cap') (w4.setCell ⟨w.heap.size, 5, none⟩ (.slice (some ⟨g', 0, none⟩) (As.length + 1) cap'))) := hit
      clear hit hown4 hgrow hat hlt4
      show wpAnyZ _ _ _ _ _ _ _ _ _ (Act.put _ (some 50) _) _
      simp only [Act.put, List.setIfInBounds_toArray, List.set_cons_zero, List.set_cons_succ]
      refine takeT 8 51 (v := ?_) rfl rfl (by kernel_rfl) (by kernel_rfl) (by kernel_rfl) (by kernel_rfl) (fun _ _ _ h => h) (by rfl) ?_ (by assumption) (by assumption) ?_
      rotate_left
      · intro w hTw; go_simp; first | done | with_reducible rfl
      simp only [Act.put, List.setIfInBounds_toArray, List.set_cons_zero, List.set_cons_succ]
      have hfr := frozen_of_row w4 w.heap.size 5 _ _ hbox4
      have HBX : Hid _ := hbox4
      clear hbox4
      refine lastZ (by kernel_rfl) rfl (by rfl) (fun K hK => ?_)
      go_simp
      have hv8 := HIT.out.env.v
      unfold cloV pp at hv8
      refine hK.out _ _ hv8 ?_
      clear hK K hv8
      refine doneZ (by kernel_rfl) (NoPanic.normal ?_) _
      go_wp2_with fail
      go_roundg (gk - 1)
      case measure => have := HM.out; have := HON.out; omega
      case rel =>
        have hlen := HI.out.its.1
        have hd9 : 32 < D → ∃ s e, (goR f σb).1 = .dead s e := fun hd => by
          obtain ⟨s', e', rfl⟩ := HD3.out hd
          exact ⟨s', e', rfl⟩
        refine ⟨_, _, _, ss, _, _, HIT.out.i ?_ ?_ HI.out.s, ?_, hd9⟩
        · have ht := HON.out.1
          rw [body_list HF.out.2 HM2.out.2.2] at ht
          rw [ht, toJs_app, List.length_append, List.length_singleton]
          rw [show F + 1 - (Js.length + 1) = F - Js.length by omega]
          rfl
        · have := HON.out; simp; omega
        · have := HM.out; have := HON.out; simp; omega
end Go.Proofs.YtcfalgomcdmdhaaDoor
