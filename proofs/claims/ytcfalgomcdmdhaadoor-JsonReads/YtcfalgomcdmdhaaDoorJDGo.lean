/-
  The document's reader: objects. Written by tools/gen_jdgr.py.
-/
import Derived.Test.YtcfalgomcdmdhaaDoorJDGl
namespace Go.Proofs.YtcfalgomcdmdhaaDoor
open Go.RowKit Go.WideShapes Go.Joins

set_option maxHeartbeats 8000000 in
set_option maxRecDepth 8000 in
theorem dgroup_object (F : Nat) (hF : 20001 ≤ F) (f : J.Rd J.JV) (hf : J.Good f) (h0 : f [] = .bad 160 []) (dp : Nat) (hdp : dp < 32) (b : Nat) (s : ByteArray) (i : Nat) (hi : i < s.size) (hby : (numsOf s).getD i 0 = 123) (w : World) (h : DIn w b s dp (.live s i))
    (hcall : ∀ σ' w', DIn w' b s (dp + 1) σ' → Calls Tryd.prog 38 #[rp b] w' fun e w'' => DValP (goR f σ') b s (dp + 1) w' e w'') :
    Calls Tryd.prog 71 #[rp b, .int .u8 6, .int .u8 125] w fun e w' => DValP (goR (J.valueB F (some f)) (.live s i)) b s dp w e w' := by
  have hlt := h.lt
  have hsz := h.sz
  obtain ⟨TX, hTX⟩ : ∃ x, goR (headG F f true) (.live s (i + 1)) = x := ⟨_, rfl⟩
  have HP : Hid ((goR (J.valueB F (some f)) (.live s i)).1 = TX.1 ∧ ∀ v, (goR (J.valueB F (some f)) (.live s i)).2 = some v → ∃ q, TX.2 = some q ∧ v = J.groupV true q) := by
    have := group_is F f true (.live s (i + 1))
    rw [hTX] at this
    rw [bracket_some (obj := true) hi hby rfl]
    exact this
  have HTX : Hid (goR (headG F f true) (.live s (i + 1)) = TX) := hTX
  have HF : Hid (20001 ≤ F ∧ J.Good f ∧ f [] = .bad 160 []) := ⟨hF, hf, h0⟩
  have HC : Hid (∀ σ' w', DIn w' b s (dp + 1) σ' → Calls Tryd.prog 38 #[rp b] w' fun e w'' => DValP (goR f σ') b s (dp + 1) w' e w'') := hcall
  have HLT : Hid (b < w.heap.size ∧ dp < 32) := ⟨hlt, hdp⟩
  -- the two boxes
  have hb0 : Below w.heap.size w (w.alloc jbox) := below_new _ _
  have hn0 := _root_.Go.heap_alloc_new w jbox
  have hb1 := below_new (w.alloc jbox) (.cells #[.int .u8 6, .bool false, .int .i64 0, .string ⟨#[]⟩, .slice none 0 0, .slice none 0 0] 25)
  have hn1 := _root_.Go.heap_alloc_new (w.alloc jbox) (.cells #[.int .u8 6, .bool false, .int .i64 0, .string ⟨#[]⟩, .slice none 0 0, .slice none 0 0] 25)
  rw [World.size_alloc] at hn1
  have hbb := below_more hb0 hb1
  have hR := box_below hn0 hb1
  have d0 := h.below hbb
  have HW0 : Hid (Below w.heap.size w ((w.alloc jbox).alloc (.cells #[.int .u8 6, .bool false, .int .i64 0, .string ⟨#[]⟩, .slice none 0 0, .slice none 0 0] 25)) ∧ ((w.alloc jbox).alloc (.cells #[.int .u8 6, .bool false, .int .i64 0, .string ⟨#[]⟩, .slice none 0 0, .slice none 0 0] 25)).heap[w.heap.size]? = some jbox ∧ ((w.alloc jbox).alloc (.cells #[.int .u8 6, .bool false, .int .i64 0, .string ⟨#[]⟩, .slice none 0 0, .slice none 0 0] 25)).heap[w.heap.size + 1]? = some (.cells #[.int .u8 6, .bool false, .int .i64 0, .string ⟨#[]⟩, .slice none 0 0, .slice none 0 0] 25 (0, 0)) ∧ DIn ((w.alloc jbox).alloc (.cells #[.int .u8 6, .bool false, .int .i64 0, .string ⟨#[]⟩, .slice none 0 0, .slice none 0 0] 25)) b s dp (.live s i)) := ⟨hbb, hR, hn1, d0⟩
  have c1 := d0.c1
  have f1 := d0.fz 1
  have c4 := d0.c4
  have f4 := d0.fz 4
  have hdq : ((dp : Int) == 32) = false := by simpa using fun e : (dp : Int) = 32 => by omega
  obtain ⟨DI, hDI⟩ : ∃ DI : Int, (dp : Int) = DI := ⟨_, rfl⟩
  obtain ⟨I, hI⟩ : ∃ I : Int, (i : Int) = I := ⟨_, rfl⟩
  have I0 : 0 ≤ I := by omega
  have I1 : I < 1000000 := by omega
  have D0 : 0 ≤ DI := by omega
  have D1 : DI < 32 := by omega
  have dA : DIn ((((w.alloc jbox).alloc (.cells #[.int .u8 6, .bool false, .int .i64 0, .string ⟨#[]⟩, .slice none 0 0, .slice none 0 0] 25)).setCell ⟨b, 4, none⟩ (.int .i64 (DI + 1))).setCell ⟨b, 1, none⟩ (.int .i64 (I + 1))) b s (dp + 1) (.live s (i + 1)) := by
    have := (d0.deep (dp' := dp + 1) (by omega)).step hi
    rw [hI, Int.natCast_add, hDI] at this
    exact this
  have gA : ((w.alloc jbox).alloc (.cells #[.int .u8 6, .bool false, .int .i64 0, .string ⟨#[]⟩, .slice none 0 0, .slice none 0 0] 25)).grownBy ((((w.alloc jbox).alloc (.cells #[.int .u8 6, .bool false, .int .i64 0, .string ⟨#[]⟩, .slice none 0 0, .slice none 0 0] 25)).setCell ⟨b, 4, none⟩ (.int .i64 (DI + 1))).setCell ⟨b, 1, none⟩ (.int .i64 (I + 1))) (some b) := grown_trans (grown_set _ _ _ _) (grown_set _ _ _ _)
  have Bk := dblanks_any b s (dp + 1) (.live s (i + 1)) _ dA
  have HGA : Hid (((w.alloc jbox).alloc (.cells #[.int .u8 6, .bool false, .int .i64 0, .string ⟨#[]⟩, .slice none 0 0, .slice none 0 0] 25)).grownBy ((((w.alloc jbox).alloc (.cells #[.int .u8 6, .bool false, .int .i64 0, .string ⟨#[]⟩, .slice none 0 0, .slice none 0 0] 25)).setCell ⟨b, 4, none⟩ (.int .i64 (DI + 1))).setCell ⟨b, 1, none⟩ (.int .i64 (I + 1))) (some b)) := gA
  rw [hDI] at hdq c4
  rw [hI] at c1
  have HDI : Hid ((dp : Int) = DI) := hDI
  obtain ⟨σ2, hσ2⟩ : ∃ x, (goR J.blanks (.live s (i + 1))).1 = x := ⟨_, rfl⟩
  rw [hσ2] at Bk
  have HS2 : Hid ((goR J.blanks (.live s (i + 1))).1 = σ2) := hσ2
  unfold rp at Bk ⊢
  unfold jbox zeroA at Bk c1 f1 c4 f4 HW0 HGA
  clear h hlt hsz hTX hF hf h0 hcall hdp hb0 hn0 hb1 hn1 hbb hR d0 dA gA hI hDI hσ2 hi hby
  go_enter Tryd.func71, Tryd.ntmps71
  go_wp2_with fail
  refine Bk.mono ?_
  rintro e w1 ⟨rfl, h1, g1⟩
  have hst := GrpD.start (obj := true) HLT.out.1 h1 (grown_trans (grown_below HW0.out.1 _) (grown_trans HGA.out g1)) (box_grown HW0.out.2.1 (grown_trans HGA.out g1) (by have := HLT.out.1; omega)) (box_grown HW0.out.2.2.1 (grown_trans HGA.out g1) (by have := HLT.out.1; omega))
  have HST : Hid (GrpD true b s (dp + 1) w σ2 [] [] [] (.slice none 0 0) (.slice none 0 0) w1) := hst
  have May := may_any b s (dp + 1) 125 (by decide) σ2 w1 h1
  have HOK : Hid (σ2.ok) := h1.ok
  simp only [show (((125 : Nat) : Int)) = 125 from rfl] at May
  unfold rp at May
  clear Bk h1 g1 hst c1 f1 c4 f4
  simp only []
  go_wp2_with fail
  refine May.mono ?_
  rintro e w2 ⟨B, rfl, hB, _, d2, g2⟩
  clear May
  simp only []
  cases B with
  | true =>
    have hnx : σ2.nx = (J.fin true : Int) := hB.1 rfl
    rw [may_next (x := 125) HOK.out hnx] at d2
    have hM := HST.out.goes d2 g2
    have TF : Hid (TX.1 = σ2.next ∧ ∀ q, TX.2 = some q → q = (([] : List ByteArray).map numsOf, toJs [])) := by
      rw [← HTX.out, head_fin HS2.out hnx]
      exact ⟨rfl, fun q hq => by cases hq; rfl⟩
    clear hnx d2 g2 hB
    have HE0 : Hid (GrpD true b s (dp + 1) w σ2.next [] ([] : List JB) ([] : List ByteArray) (.slice none (([] : List ByteArray)).length 0) (.slice none (([] : List JB)).length 0) w2) := hM
    have c4 : (w2).cell? ⟨b, 4, none⟩ = some (.int .i64 (DI + 1)) := by
      have := hM.r.c4
      rw [show (((dp + 1 : Nat) : Int)) = DI + 1 by have := HDI.out; omega] at this
      exact this
    have f4 := hM.r.fz 4
    have hME := hM.goes (hM.r.deep (dp' := dp) (by have := HLT.out.2; omega)) (grown_set _ _ _ _)
    rw [HDI.out] at hME
    have HME : Hid (GrpD true b s dp w σ2.next [] ([] : List JB) ([] : List ByteArray) (.slice none (([] : List ByteArray)).length 0) (.slice none (([] : List JB)).length 0) ((w2).setCell ⟨b, 4, none⟩ (.int .i64 DI))) := hME
    obtain ⟨⟨x0, x1, x2, x3, x4, x5⟩, _, _, _, _, _, _⟩ := row6_cells hME.box
    obtain ⟨⟨y0, y1, y2, y3, y4, y5⟩, z0, z1, z2, z3, z4, z5⟩ := box_cells hME.rb
    clear hM hME
    go_wp2_with fail
    refine bodyPost_ret (results_cell_row rfl _ _ w.heap.size 25 (jA (kindG true) false 0 ⟨#[]⟩ none (([] : List ByteArray)).length 0 none (([] : List JB)).length 0) (0, 0) _ rfl (set6_heap HME.out.rb _ _ _ _ _ _) Tryd.underlying25 rfl size_json) rfl ?_
    refine HME.out.fin (p := goR (J.valueB F (some f)) (.live s i)) (by rw [HP.out.1]; exact TF.out.1) (fun v hv => ?_) (set6_grown _ _ _ _ _ _ _ _)
    obtain ⟨qq, hq, rfl⟩ := HP.out.2 v hv
    rw [TF.out.2 qq hq]
  | false =>
    have hnx : ¬ σ2.nx = (J.fin true : Int) := fun e => by have := hB.2 e; cases this
    rw [may_not' (x := 125) HOK.out hnx] at d2
    have hM := HST.out.goes d2 g2
    have HT0 : Hid (goR (J.groupN F f true F [] []) σ2 = TX) := by
      show _ = _
      rw [← HTX.out]
      exact (head_on HOK.out HF.out.2.2 (by have := HF.out.1; omega) HS2.out hnx).symm
    have HM : Hid (GrpD true b s (dp + 1) w σ2 [] [] [] (.slice none 0 0) (.slice none 0 0) w2) := hM
    clear hnx d2 g2 hB hM
    go_wp2_with fail
    go_loopg [] 1024 (fun gk wr => DGrI F f true TX b s (dp + 1) w gk wr)
    case atStart => exact ⟨σ2, [], [], [], _, _, HM.out, HT0.out, rfl, fun _ _ _ => by decide, by simp⟩
    case round =>
      clear HM HT0 HST
      obtain ⟨σa, As, Js, ss, nv, iv, hM, he, hm, hlv, hs⟩ := hrel
      obtain ⟨q, m, e1, _, _, _⟩ := own_form hM.it.own
      rw [hM.its.1] at e1
      subst e1
      obtain ⟨q2, m2, e2, _, _, _⟩ := own_form hM.nm
      subst e2
      have c2 := hM.r.c2
      cases σa with
      | dead t e =>
        simp only [RS.e] at c2
        have he0 : ((e : Int) == 0) = false := by
          have := hM.r.ok.1
          simpa using fun x : (e : Int) = 0 => this (by omega)
        have TF : Hid (TX.1 = .dead t e ∧ ∀ q, TX.2 = some q → q = (ss.map numsOf, toJs Js)) := by
          rw [← he]
          exact ⟨rfl, fun q hq => by cases hq⟩
        clear he hm hlv hs
        have HE0 : Hid (GrpD true b s (dp + 1) w (.dead t e) As Js ss (.slice q2 (ss).length m2) (.slice q (Js).length m) wr) := hM
        have c4 : (wr).cell? ⟨b, 4, none⟩ = some (.int .i64 (DI + 1)) := by
          have := hM.r.c4
          rw [show (((dp + 1 : Nat) : Int)) = DI + 1 by have := HDI.out; omega] at this
          exact this
        have f4 := hM.r.fz 4
        have hME := hM.goes (hM.r.deep (dp' := dp) (by have := HLT.out.2; omega)) (grown_set _ _ _ _)
        rw [HDI.out] at hME
        have HME : Hid (GrpD true b s dp w (.dead t e) As Js ss (.slice q2 (ss).length m2) (.slice q (Js).length m) ((wr).setCell ⟨b, 4, none⟩ (.int .i64 DI))) := hME
        obtain ⟨⟨x0, x1, x2, x3, x4, x5⟩, _, _, _, _, _, _⟩ := row6_cells hME.box
        obtain ⟨⟨y0, y1, y2, y3, y4, y5⟩, z0, z1, z2, z3, z4, z5⟩ := box_cells hME.rb
        clear hM hME
        go_wp2_with fail
        refine bodyPost_ret (results_cell_row rfl _ _ w.heap.size 25 (jA (kindG true) false 0 ⟨#[]⟩ q2 (ss).length m2 q (Js).length m) (0, 0) _ rfl (set6_heap HME.out.rb _ _ _ _ _ _) Tryd.underlying25 rfl size_json) rfl ?_
        refine HME.out.fin (p := goR (J.valueB F (some f)) (.live s i)) (by rw [HP.out.1]; exact TF.out.1) (fun v hv => ?_) (set6_grown _ _ _ _ _ _ _ _)
        obtain ⟨qq, hq, rfl⟩ := HP.out.2 v hv
        rw [TF.out.2 qq hq]
      | live t j =>
        simp only [RS.e] at c2
        rw [show (((0 : Nat) : Int)) = 0 from rfl] at c2
        have hlt : Js.length < 1024 := hlv t j rfl
        have HQ : Hid (goR (J.groupN F f true (F - Js.length) (ss.map numsOf) (toJs Js)) (.live t j) = TX ∧ gk + Js.length = 1024 ∧ Js.length < 1024 ∧ ss.length = if true then Js.length else 0) := ⟨he, hm, hlt, hs⟩
        have HM : Hid (GrpD true b s (dp + 1) w (.live t j) As Js ss (.slice q2 ss.length m2) (.slice q Js.length m) wr) := hM
        clear he hm hlv hs hlt hM
        have hMd := HM.out.more (w' := wr.drew) ((Below.refl _ _).drew)
        have Nm := dtext_any F HF.out.1 b s (dp + 1) q2 m2 ss (fun k => w.heap.size + 2 ≤ k) (.live t j) wr.drew hMd.r hMd.nm.ss (fun k hk => by have := HLT.out.1; omega) (by have := HQ.out; simp at this; omega)
        have HMD : Hid (GrpD true b s (dp + 1) w (.live t j) As Js ss (.slice q2 ss.length m2) (.slice q Js.length m) wr.drew) := hMd
        have hx5 := (row6_cells hMd.box).1.2.2.2.2.1
        have hv5 := (box_cells hMd.rb).1.1
        obtain ⟨i1, hi1, hy0, hy1, hy2⟩ := info_parts' info_str
        unfold rp at Nm
        clear hMd
        go_wp2_with fail
        clear c2
        refine wp_region_noPanic ?_
        refine beginZ (T := fun w' => w'.cell? ⟨w.heap.size, 0, none⟩ = some (.int .u8 0)) (S := fun w' => w'.cell? ⟨w.heap.size + 1, 4, none⟩ = some (.slice q2 ss.length m2)) 9 (by kernel_rfl) ?_
        refine takeT 0 56 (v := ?_) rfl rfl (by kernel_rfl) (by kernel_rfl) (by kernel_rfl) (by kernel_rfl) (fun _ _ _ h => h) (by rfl) ?_ (by assumption) (by assumption) ?_
        rotate_left
        · intro w hTw; go_simp; first | done | with_reducible rfl
        simp only [Act.put, List.setIfInBounds_toArray, List.set_cons_zero, List.set_cons_succ]
        refine takeZ 1 57 7 (v := ?_) rfl rfl (by kernel_rfl) (by kernel_rfl) (by kernel_rfl) (by kernel_rfl) (by kernel_rfl) (by kernel_rfl) (by kernel_rfl) (fun _ _ _ h => h) (by rfl) ?_ (by assumption) (by assumption) ?_
        rotate_left
        · intro w hTw hSw; go_simp; first | done | with_reducible rfl
        simp only [Act.put, List.setIfInBounds_toArray, List.set_cons_zero, List.set_cons_succ]
        refine takeT 2 58 (v := ?_) rfl rfl (by kernel_rfl) (by kernel_rfl) (by kernel_rfl) (by kernel_rfl) (fun _ _ _ h => h) (by rfl) ?_ (by assumption) (by assumption) ?_
        rotate_left
        · intro w hTw; go_simp; first | done | with_reducible rfl
        simp only [Act.put, List.setIfInBounds_toArray, List.set_cons_zero, List.set_cons_succ]
        refine takeT 3 59 (v := ?_) rfl rfl (by kernel_rfl) (by kernel_rfl) (by kernel_rfl) (by kernel_rfl) (fun _ _ _ h => h) (by rfl) ?_ (by assumption) (by assumption) ?_
        rotate_left
        · intro w hTw; go_simp; first | done | with_reducible rfl
        simp only [Act.put, List.setIfInBounds_toArray, List.set_cons_zero, List.set_cons_succ]
        refine takeZ 4 60 5 (v := ?_) rfl rfl (by kernel_rfl) (by kernel_rfl) (by kernel_rfl) (by kernel_rfl) (by kernel_rfl) (by kernel_rfl) (by kernel_rfl) (fun _ _ _ h => h) (by rfl) ?_ (by assumption) (by assumption) ?_
        rotate_left
        · intro w hTw hSw; go_simp; first | done | with_reducible rfl
        simp only [Act.put, List.setIfInBounds_toArray, List.set_cons_zero, List.set_cons_succ]
        refine oneZ 5 (by kernel_rfl) rfl (by rfl) (fun K hK => ?_)
        go_simp
        refine Nm.mono ?_
        rintro e w3 ⟨str, rfl, hv, h2, g2⟩
        have hM2 := HMD.out.goes h2 g2
        have hx52 := (row6_cells hM2.box).1.2.2.2.2.1
        have hv52 := (box_cells hM2.rb).1.1
        have HM2' : Hid (GrpD true b s (dp + 1) w (goR (J.text F (ss.map numsOf)) (.live t j)).1 As Js ss (.slice q2 ss.length m2) (.slice q Js.length m) w3 ∧ (∀ v, (goR (J.text F (ss.map numsOf)) (.live t j)).2 = some v → numsOf str = v)) := ⟨hM2, hv⟩
        clear hM2 hv h2 g2 hx5 hv5 Nm
        go_simp
        refine hK.out _ _ hv52 hx52 (fun hTx hSx => ?_)
        clear hK K hv52 hx52
        refine oneZ 6 (by kernel_rfl) rfl (by rfl) (fun K hK => ?_)
        go_simp
        have hn2 := (HM2'.out.1.more (below_new w3 (.cells #[.string str] 9)))
        have hx6 := (row6_cells hn2.box).1.2.2.2.2.1
        have hv6 := (box_cells hn2.rb).1.1
        refine hK.out _ _ hv6 hx6 (fun hTy hSy => ?_)
        clear hK K hTx hSx hv6 hx6
        have HN2' : Hid (GrpD true b s (dp + 1) w (goR (J.text F (ss.map numsOf)) (.live t j)).1 As Js ss (.slice q2 ss.length m2) (.slice q Js.length m) (w3.alloc (.cells #[.string str] 9))) := hn2
        clear hn2
        refine oneZ 7 (by kernel_rfl) rfl (by rfl) (fun K hK => ?_)
        refine step_append_lies _ (by rfl) (.tmp 57) (.tmp 62) 22 (by rfl) (w.heap.size + 2) 9 i1 _ 1 16 Tryd.underlying22 hi1 hy0 hy1 hy2 rfl (by omega) (.slice q2 ss.length m2) ss.length (ss.map Value.string) (by rfl) HN2'.out.nm ⟨w3.heap.size, 0, none⟩ 1 1 [.string str] (by rfl) (by rfl) (World.news_of_block (cs := #[.string str]) (t := 9) (fr := (0, 0)) (heap_alloc_new w3 _)) (by intro u hu; rw [List.mem_singleton] at hu; rw [hu]; rfl) (by omega) (by have h1 := HQ.out; simp at h1; unfold maxLen; omega) (by have h1 := HQ.out; simp at h1; omega) (Nat.succ_le_of_lt HN2'.out.sz) _ rfl ?_
        intro gn capn w4 hown4 hgrow hat hlt4
        have hv7 := hgrow.cell hTy (fun e => by have := HN2'.out.own.1 _ e.symm; simp at *; omega)
        have hx7 := hgrow.cell hSy (fun e => by have := HN2'.out.own.1 _ e.symm; simp at *)
        refine hK.out _ _ hv7 hx7 (fun hTx hSx => ?_)
        clear hK K hTy hSy hv7 hx7
        have hbox4 := box_at hgrow HN2'.out.box (fun e => by have := HN2'.out.own.1 _ e.symm; omega)
        have hit := HM2'.out.1.name (below_new w3 _) hown4 hgrow hat
        have HIN : Hid (GrpD true b s (dp + 1) w (goR (J.text F (ss.map numsOf)) (.live t j)).1 As Js (ss ++ [str]) (.slice (some ⟨gn, 0, none⟩) (ss.length + 1) capn) (.slice q Js.length m) (w4.setCell ⟨w.heap.size + 1, 4, none⟩ (.slice (some ⟨gn, 0, none⟩) (ss.length + 1) capn))) := hit
        clear hit hown4 hgrow hat hlt4
        show wpAnyZ _ _ _ _ _ _ _ _ _ (Act.put _ (some 63) _) _
        simp only [Act.put, List.setIfInBounds_toArray, List.set_cons_zero, List.set_cons_succ]
        refine takeT 8 64 (v := ?_) rfl rfl (by kernel_rfl) (by kernel_rfl) (by kernel_rfl) (by kernel_rfl) (fun _ _ _ h => h) (by rfl) ?_ (by assumption) (by assumption) ?_
        rotate_left
        · intro w hTw; go_simp; first | done | with_reducible rfl
        simp only [Act.put, List.setIfInBounds_toArray, List.set_cons_zero, List.set_cons_succ]
        have hfr := frozen_of_row w4 (w.heap.size + 1) 4 _ _ hbox4
        have HBX' : Hid _ := hbox4
        clear hbox4
        refine lastZ (by kernel_rfl) rfl (by rfl) (fun K hK => ?_)
        go_simp
        have hv8 := (box_cells HIN.out.rb).1.1
        refine hK.out _ _ hv8 ?_
        clear hK K hv8 hfr hTx hSx
        refine doneZ (by kernel_rfl) (NoPanic.normal ?_) _
        have hIN := HIN.out
        have hL0 : ss.length + 1 = (ss ++ [str]).length := by rw [List.length_append, List.length_singleton]
        rw [hL0] at hIN ⊢
        generalize w4.setCell ⟨w.heap.size + 1, 4, none⟩ (.slice (some ⟨gn, 0, none⟩) (ss ++ [str]).length capn) = w5 at hIN ⊢
        obtain ⟨ss', hss'⟩ : ∃ l, ss ++ [str] = l := ⟨_, rfl⟩
        have HSN : Hid (ss'.map numsOf = ss.map numsOf ++ [numsOf str] ∧ ss'.length = ss.length + 1) := by
          rw [← hss']
          exact ⟨by rw [List.map_append]; rfl, by rw [List.length_append, List.length_singleton]⟩
        rw [hss'] at hIN ⊢
        clear hL0 hss'
        clear HIN HN2' HBX'
        obtain ⟨σA, hσA⟩ : ∃ x, (goR (J.text F (ss.map numsOf)) (.live t j)).1 = x := ⟨_, rfl⟩
        rw [hσA] at hIN
        have Bk5 := dblanks_any b s (dp + 1) σA w5 hIN.r
        obtain ⟨σB, hσB⟩ : ∃ x, (goR J.blanks σA).1 = x := ⟨_, rfl⟩
        rw [hσB] at Bk5
        have HI5 : Hid (GrpD true b s (dp + 1) w σA As Js ss' (.slice (some ⟨gn, 0, none⟩) ss'.length capn) (.slice q Js.length m) w5) := hIN
        have Hdgroup_object : Hid (Gives (J.text F (ss.map numsOf)) (.live t j) (numsOf str) ∧ (goR (J.text F (ss.map numsOf)) (.live t j)).1 = σA ∧ (goR J.blanks σA).1 = σB) := ⟨fun v hv => (HM2'.out.2 v hv).symm, hσA, hσB⟩
        unfold rp at Bk5
        clear hIN hσA hσB HM2' HMD
        go_wp2_with fail
        refine Bk5.mono ?_
        rintro e w6 ⟨rfl, h6, g6⟩
        have Nd6 := need_any b s (dp + 1) 58 58 (by decide) σB w6 h6
        obtain ⟨σC, hσC⟩ : ∃ x, (goR (J.need 58 58) σB).1 = x := ⟨_, rfl⟩
        rw [hσC] at Nd6
        have HI6 : Hid (GrpD true b s (dp + 1) w σB As Js ss' (.slice (some ⟨gn, 0, none⟩) ss'.length capn) (.slice q Js.length m) w6) := HI5.out.goes h6 g6
        have HSC : Hid ((goR (J.need 58 58) σB).1 = σC) := hσC
        simp only [show (((58 : Nat) : Int)) = 58 from rfl] at Nd6
        unfold rp at Nd6
        clear Bk5 h6 g6 hσC
        go_wp2_with fail
        refine Nd6.mono ?_
        rintro e w7 ⟨rfl, h7, g7⟩
        have HM7 : Hid (GrpD true b s (dp + 1) w σC As Js ss' (.slice (some ⟨gn, 0, none⟩) ss'.length capn) (.slice q Js.length m) w7) := HI6.out.goes h7 g7
        clear Nd6 h7 g7
        have hMd := HM7.out.more (w' := w7.drew) ((Below.refl _ _).drew)
        have Cv := HC.out σC w7.drew hMd.r
        have HMD : Hid (GrpD true b s (dp + 1) w σC As Js ss' (.slice (some ⟨gn, 0, none⟩) ss'.length capn) (.slice q Js.length m) w7.drew) := hMd
        have hx5 := (row6_cells hMd.box).1.2.2.2.2.2
        have hv5 := (box_cells hMd.rb).1.1
        obtain ⟨i0, hi0, hz0, hz1, hz2⟩ := info_parts' info_json
        unfold rp at Cv
        clear hMd
        go_wp2_with fail
        refine wp_region_noPanic ?_
        refine beginZ (T := fun w' => w'.cell? ⟨w.heap.size, 0, none⟩ = some (.int .u8 0)) (S := fun w' => w'.cell? ⟨w.heap.size + 1, 5, none⟩ = some (.slice q Js.length m)) 7 (by kernel_rfl) ?_
        refine takeT 0 69 (v := ?_) rfl rfl (by kernel_rfl) (by kernel_rfl) (by kernel_rfl) (by kernel_rfl) (fun _ _ _ h => h) (by rfl) ?_ (by assumption) (by assumption) ?_
        rotate_left
        · intro w hTw; go_simp; first | done | with_reducible rfl
        simp only [Act.put, List.setIfInBounds_toArray, List.set_cons_zero, List.set_cons_succ]
        refine takeZ 1 70 5 (v := ?_) rfl rfl (by kernel_rfl) (by kernel_rfl) (by kernel_rfl) (by kernel_rfl) (by kernel_rfl) (by kernel_rfl) (by kernel_rfl) (fun _ _ _ h => h) (by rfl) ?_ (by assumption) (by assumption) ?_
        rotate_left
        · intro w hTw hSw; go_simp; first | done | with_reducible rfl
        simp only [Act.put, List.setIfInBounds_toArray, List.set_cons_zero, List.set_cons_succ]
        refine takeT 2 71 (v := ?_) rfl rfl (by kernel_rfl) (by kernel_rfl) (by kernel_rfl) (by kernel_rfl) (fun _ _ _ h => h) (by rfl) ?_ (by assumption) (by assumption) ?_
        rotate_left
        · intro w hTw; go_simp; first | done | with_reducible rfl
        simp only [Act.put, List.setIfInBounds_toArray, List.set_cons_zero, List.set_cons_succ]
        refine oneZ 3 (by kernel_rfl) rfl (by rfl) (fun K hK => ?_)
        go_simp
        refine Cv.mono ?_
        rintro e v2 ⟨A, x, rfl, hA, hx, h2, g2⟩
        obtain ⟨kk, bb, nn, tt, nq, nl, nc, iq, il, ic, rfl⟩ := jin_form hA
        have hM2 := HMD.out.goes h2 g2
        have hx52 := (row6_cells hM2.box).1.2.2.2.2.2
        have hv52 := (box_cells hM2.rb).1.1
        have HM2 : Hid (GrpD true b s (dp + 1) w (goR f σC).1 As Js ss' (.slice (some ⟨gn, 0, none⟩) ss'.length capn) (.slice q Js.length m) v2 ∧ JIn v2 (fun k => w7.heap.size ≤ k) (jA kk bb nn tt nq nl nc iq il ic) x ∧ (∀ v, (goR f σC).2 = some v → x.toJ = v)) := ⟨hM2, hA, hx⟩
        clear hM2 hA hx h2 g2 hx5 hv5 Cv
        go_simp
        refine hK.out _ _ hv52 hx52 (fun hTx hSx => ?_)
        clear hK K hv52 hx52
        refine oneZ 4 (by kernel_rfl) rfl (by rfl) (fun K hK => ?_)
        unfold jA
        go_simp
        have hn2 := (HM2.out.1.more (below_new v2 (.cells (jA kk bb nn tt nq nl nc iq il ic) 25)))
        have hx6 := (row6_cells hn2.box).1.2.2.2.2.2
        have hv6 := (box_cells hn2.rb).1.1
        unfold jA at hv6 hx6
        refine hK.out _ _ hv6 hx6 (fun hTy hSy => ?_)
        clear hK K hTx hSx hv6 hx6
        have HN2 : Hid (GrpD true b s (dp + 1) w (goR f σC).1 As Js ss' (.slice (some ⟨gn, 0, none⟩) ss'.length capn) (.slice q Js.length m) (v2.alloc (.cells (jA kk bb nn tt nq nl nc iq il ic) 25))) := hn2
        clear hn2
        refine oneZ 5 (by kernel_rfl) rfl (by rfl) (fun K hK => ?_)
        refine step_append_lies _ (by rfl) (.tmp 70) (.tmp 73) 23 (by rfl) (w.heap.size + 2) 25 i0 _ 6 80 Tryd.underlying23 hi0 hz0 hz1 hz2 rfl (by omega) (.slice q Js.length m) As.length (cellsA As) (by rfl) HN2.out.it.own ⟨v2.heap.size, 0, none⟩ 1 1 [.int .u8 (kk : Int), .bool bb, .int .i64 nn, .string tt, .slice nq nl nc, .slice iq il ic] (by rfl) (by rfl) (World.news_of_block (cs := jA kk bb nn tt nq nl nc iq il ic) (t := 25) (fr := (0, 0)) (heap_alloc_new v2 _)) (jin_one HM2.out.2.1) (by omega) (by have := HM.out.its.1; have := HQ.out.2.2.1; unfold maxLen; omega) (by have := HM.out.its.1; have := HQ.out.2.2.1; omega) (Nat.succ_le_of_lt HN2.out.sz) _ rfl ?_
        intro g' cap' v4 hown4 hgrow hat hlt4
        have hv7 := hgrow.cell hTy (fun e => by have := HN2.out.own.2 _ e.symm; simp at *; omega)
        have hx7 := hgrow.cell hSy (fun e => by have := HN2.out.own.2 _ e.symm; simp at *)
        refine hK.out _ _ hv7 hx7 (fun hTx hSx => ?_)
        clear hK K hTy hSy hv7 hx7
        have hbox4 := box_at hgrow HN2.out.box (fun e => by have := HN2.out.own.2 _ e.symm; omega)
        have hit := HM2.out.1.item (A := jA kk bb nn tt nq nl nc iq il ic) (x := x) (N1 := w7.heap.size) HM2.out.2.1 ⟨HM7.out.sz, fun k hk => (HM7.out.own.1 k hk).2, fun k hk => (HM7.out.own.2 k hk).2⟩ (below_new v2 _) hown4 hgrow hat
        have HIT : Hid (GrpD true b s (dp + 1) w (goR f σC).1 (As ++ [jA kk bb nn tt nq nl nc iq il ic]) (Js ++ [x]) ss' (.slice (some ⟨gn, 0, none⟩) ss'.length capn) (.slice (some ⟨g', 0, none⟩) (As.length + 1) cap') (v4.setCell ⟨w.heap.size + 1, 5, none⟩ (.slice (some ⟨g', 0, none⟩) (As.length + 1) cap'))) := hit
        clear hit hown4 hgrow hat hlt4
        show wpAnyZ _ _ _ _ _ _ _ _ _ (Act.put _ (some 74) _) _
        simp only [Act.put, List.setIfInBounds_toArray, List.set_cons_zero, List.set_cons_succ]
        refine takeT 6 75 (v := ?_) rfl rfl (by kernel_rfl) (by kernel_rfl) (by kernel_rfl) (by kernel_rfl) (fun _ _ _ h => h) (by rfl) ?_ (by assumption) (by assumption) ?_
        rotate_left
        · intro w hTw; go_simp; first | done | with_reducible rfl
        simp only [Act.put, List.setIfInBounds_toArray, List.set_cons_zero, List.set_cons_succ]
        have hfr := frozen_of_row v4 (w.heap.size + 1) 5 _ _ hbox4
        have HBX : Hid _ := hbox4
        clear hbox4
        refine lastZ (by kernel_rfl) rfl (by rfl) (fun K hK => ?_)
        go_simp
        have hv8 := (box_cells HIT.out.rb).1.1
        refine hK.out _ _ hv8 ?_
        clear hK K hv8 hfr hTx hSx
        refine doneZ (by kernel_rfl) (NoPanic.normal ?_) _
        have hit := HIT.out
        have hAJ : As.length = Js.length := HM.out.its.1
        have hL1 : As.length + 1 = (Js ++ [x]).length := by rw [List.length_append, List.length_singleton, hAJ]
        have HV : Hid (Gives f σC x.toJ) := fun v hv => (HM2.out.2.2 v hv).symm
        rw [hL1] at hit ⊢
        generalize v4.setCell ⟨w.heap.size + 1, 5, none⟩ (.slice (some ⟨g', 0, none⟩) (Js ++ [x]).length cap') = v5 at hit ⊢
        obtain ⟨As', hAs'⟩ : ∃ l, As ++ [jA kk bb nn tt nq nl nc iq il ic] = l := ⟨_, rfl⟩
        rw [hAs'] at hit
        obtain ⟨Js', hJs'⟩ : ∃ l, Js ++ [x] = l := ⟨_, rfl⟩
        have hJl : Js'.length = Js.length + 1 := by rw [← hJs', List.length_append, List.length_singleton]
        have hJt : toJs Js' = toJs Js ++ [x.toJ] := by rw [← hJs', toJs_app]; rfl
        rw [hJs'] at hit ⊢
        obtain ⟨σd, hσd⟩ : ∃ y, (goR f σC).1 = y := ⟨_, rfl⟩
        rw [hσd] at hit
        obtain ⟨n, hn⟩ : ∃ n, F - Js.length = n + 1 := ⟨F - Js.length - 1, by have := HF.out.1; have := HQ.out.2.2.1; omega⟩
        have hstep : TX = goR (tailG F f true n (ss'.map numsOf) (toJs Js')) σd := by
          have := HQ.out.1
          rw [hn] at this
          rw [← this, hJt, ← hσd]
          rw [HSN.out.1]
          exact grp_obj HF.out.2.1 Hdgroup_object.out.1 Hdgroup_object.out.2.1 Hdgroup_object.out.2.2 HSC.out HV.out
        have HSTEP : Hid (TX = goR (tailG F f true n (ss'.map numsOf) (toJs Js')) σd ∧ F - Js'.length = n ∧ (toJs Js').length = Js'.length ∧ Js'.length = Js.length + 1 ∧ Js'.length ≤ 1024 ∧ ss'.length = if true then Js'.length else 0) := by
          refine ⟨hstep, by omega, toJs_len Js', hJl, by have := HQ.out.2.2.1; omega, ?_⟩
          have := HQ.out.2.2.2
          simp at this ⊢
          have := HSN.out.2
          omega
        have HIT2 : Hid (GrpD true b s (dp + 1) w σd As' Js' ss' (.slice (some ⟨gn, 0, none⟩) ss'.length capn) (.slice (some ⟨g', 0, none⟩) Js'.length cap') v5) := hit
        have Bk8 := dblanks_any b s (dp + 1) σd v5 hit.r
        obtain ⟨σe, hσe⟩ : ∃ y, (goR J.blanks σd).1 = y := ⟨_, rfl⟩
        rw [hσe] at Bk8
        have HSE : Hid ((goR J.blanks σd).1 = σe) := hσe
        unfold rp at Bk8
        clear hit hAJ hL1 hAs' hJs' hJl hJt hσd hn hstep hσe HIT HN2 HBX HM2 HMD HI5 HI6 Hdgroup_object HSC HM7
        go_wp2_with fail
        refine Bk8.mono ?_
        rintro e v6 ⟨rfl, h8, g8⟩
        have HI8 : Hid (GrpD true b s (dp + 1) w σe As' Js' ss' (.slice (some ⟨gn, 0, none⟩) ss'.length capn) (.slice (some ⟨g', 0, none⟩) Js'.length cap') v6) := HIT2.out.goes h8 g8
        have My8 := may_any b s (dp + 1) 125 (by decide) σe v6 h8
        simp only [show (((125 : Nat) : Int)) = 125 from rfl] at My8
        unfold rp at My8
        clear Bk8 h8 g8
        go_wp2_with fail
        refine My8.mono ?_
        rintro e v7 ⟨B, rfl, hB, _, d7, g7⟩
        clear My8
        simp only []
        cases B with
        | true =>
          have hnx : σe.nx = (J.fin true : Int) := hB.1 rfl
          rw [may_next (x := 125) HI8.out.r.ok hnx] at d7
          have hM := HI8.out.goes d7 g7
          have TF : Hid (TX.1 = σe.next ∧ ∀ q, TX.2 = some q → q = (ss'.map numsOf, toJs Js')) := by
            rw [HSTEP.out.1, tail_fin HSE.out hnx]
            exact ⟨rfl, fun q hq => by cases hq; rfl⟩
          clear hnx d7 g7 hB
          have HE0 : Hid (GrpD true b s (dp + 1) w σe.next As' Js' ss' (.slice (some ⟨gn, 0, none⟩) (ss').length capn) (.slice (some ⟨g', 0, none⟩) (Js').length cap') v7) := hM
          have c4 : (v7).cell? ⟨b, 4, none⟩ = some (.int .i64 (DI + 1)) := by
            have := hM.r.c4
            rw [show (((dp + 1 : Nat) : Int)) = DI + 1 by have := HDI.out; omega] at this
            exact this
          have f4 := hM.r.fz 4
          have hME := hM.goes (hM.r.deep (dp' := dp) (by have := HLT.out.2; omega)) (grown_set _ _ _ _)
          rw [HDI.out] at hME
          have HME : Hid (GrpD true b s dp w σe.next As' Js' ss' (.slice (some ⟨gn, 0, none⟩) (ss').length capn) (.slice (some ⟨g', 0, none⟩) (Js').length cap') ((v7).setCell ⟨b, 4, none⟩ (.int .i64 DI))) := hME
          obtain ⟨⟨x0, x1, x2, x3, x4, x5⟩, _, _, _, _, _, _⟩ := row6_cells hME.box
          obtain ⟨⟨y0, y1, y2, y3, y4, y5⟩, z0, z1, z2, z3, z4, z5⟩ := box_cells hME.rb
          clear hM hME
          go_wp2_with fail
          refine bodyPost_ret (results_cell_row rfl _ _ w.heap.size 25 (jA (kindG true) false 0 ⟨#[]⟩ (some ⟨gn, 0, none⟩) (ss').length capn (some ⟨g', 0, none⟩) (Js').length cap') (0, 0) _ rfl (set6_heap HME.out.rb _ _ _ _ _ _) Tryd.underlying25 rfl size_json) rfl ?_
          refine HME.out.fin (p := goR (J.valueB F (some f)) (.live s i)) (by rw [HP.out.1]; exact TF.out.1) (fun v hv => ?_) (set6_grown _ _ _ _ _ _ _ _)
          obtain ⟨qq, hq, rfl⟩ := HP.out.2 v hv
          rw [TF.out.2 qq hq]
        | false =>
          have hnx : ¬ σe.nx = (J.fin true : Int) := fun e => by have := hB.2 e; cases this
          rw [may_not' (x := 125) HI8.out.r.ok hnx] at d7
          have HM9 : Hid (GrpD true b s (dp + 1) w σe As' Js' ss' (.slice (some ⟨gn, 0, none⟩) ss'.length capn) (.slice (some ⟨g', 0, none⟩) Js'.length cap') v7) := HI8.out.goes d7 g7
          have HNX : Hid (¬ σe.nx = (J.fin true : Int)) := hnx
          have hx9 := (row6_cells HM9.out.box).1.2.2.2.2.2
          clear hnx d7 g7 hB
          by_cases hl : Js'.length = 1024
          · have hlb : ((Js'.length : Int) == 1024) = true := by simp; omega
            have N9 := next_any b s (dp + 1) σe v7 HM9.out.r
            obtain ⟨V, hV⟩ : ∃ V, σe.nx = V := ⟨_, rfl⟩
            rw [hV] at N9
            have HVV : Hid (σe.nx = V ∧ Js'.length = 1024) := ⟨hV, hl⟩
            unfold rp at N9
            clear hV hl
            go_wp2_with fail
            refine N9.mono ?_
            rintro e v8 ⟨rfl, hb8⟩
            have HM10 : Hid (GrpD true b s (dp + 1) w σe As' Js' ss' (.slice (some ⟨gn, 0, none⟩) ss'.length capn) (.slice (some ⟨g', 0, none⟩) Js'.length cap') v8) := HM9.out.more hb8
            clear N9 hb8 hx9 hlb
            simp only []
            by_cases h44 : V = 44
            · obtain ⟨ic1, _, hc1, hc2⟩ := HM10.out.r.c1'
              have F9 := fail_any b s (dp + 1) σe 4 (ic1 : Int) hc2 (by decide) v8 HM10.out.r
              simp only [show (((4 : Nat) : Int)) = 4 from rfl] at F9
              have HTF : Hid (goR (J.groupN F f true n (ss'.map numsOf) (toJs Js')) (goR J.blanks (goR (J.need 44 44) (σe.refuse 4)).1).1 = TX) := by
                show _ = _
                rw [many_stays, HSTEP.out.1, tail_many HI8.out.r.ok HSE.out HNX.out (by rw [HVV.out.1]; exact h44) (by rw [HSTEP.out.2.2.1]; exact HVV.out.2)]
                obtain ⟨t', e', h'⟩ := refuse_dead 4 σe
                rw [h']
                rfl
              have HLV : Hid (∀ t j, (goR J.blanks (goR (J.need 44 44) (σe.refuse 4)).1).1 = .live t j → Js'.length < 1024) := fun t j e => by
                rw [many_stays] at e
                obtain ⟨t', e', h'⟩ := refuse_dead 4 σe
                rw [h'] at e
                cases e
              unfold rp at F9
              subst h44
              clear hc2
              go_wp2_with fail
              refine F9.mono ?_
              rintro e v9 ⟨rfl, h9, g9⟩
              have HM11 : Hid (GrpD true b s (dp + 1) w (σe.refuse 4) As' Js' ss' (.slice (some ⟨gn, 0, none⟩) ss'.length capn) (.slice (some ⟨g', 0, none⟩) Js'.length cap') v9) := HM10.out.goes h9 g9
              clear F9 h9 g9 hc1
              simp only []
              have Nd := need_any b s (dp + 1) 44 44 (by decide) (σe.refuse 4) v9 HM11.out.r
              obtain ⟨σg, hσg⟩ : ∃ y, (goR (J.need 44 44) (σe.refuse 4)).1 = y := ⟨_, rfl⟩
              rw [hσg] at Nd
              have HSG : Hid ((goR (J.need 44 44) (σe.refuse 4)).1 = σg) := hσg
              simp only [show (((44 : Nat) : Int)) = 44 from rfl] at Nd
              unfold rp at Nd
              clear hσg
              go_wp2_with fail
              refine Nd.mono ?_
              rintro e u1 ⟨rfl, k1, l1⟩
              have Bk := dblanks_any b s (dp + 1) σg u1 k1
              have HK1 : Hid (GrpD true b s (dp + 1) w σg As' Js' ss' (.slice (some ⟨gn, 0, none⟩) ss'.length capn) (.slice (some ⟨g', 0, none⟩) Js'.length cap') u1) := HM11.out.goes k1 l1
              unfold rp at Bk
              clear Nd k1 l1
              simp only []
              go_wp2_with fail
              refine Bk.mono ?_
              rintro e u2 ⟨rfl, k2, l2⟩
              clear Bk
              simp only []
              go_wp2_with fail
              go_roundg (gk - 1)
              case measure => have := HQ.out; omega
              case rel =>
                have hst := HSTEP.out
                refine ⟨_, As', Js', ss', _, _, HK1.out.goes k2 l2, ?_, ?_, ?_, hst.2.2.2.2.2⟩
                · rw [hst.2.1, ← HSG.out]; exact HTF.out
                · have := HQ.out; omega
                · rw [← HSG.out]; exact HLV.out
            · have hvb : (V == 44) = false := by simpa using h44
              have HTF : Hid (goR (J.groupN F f true n (ss'.map numsOf) (toJs Js')) (goR J.blanks (goR (J.need 44 44) σe).1).1 = TX) := by
                show _ = _
                rw [HSTEP.out.1]
                exact (tail_on HI8.out.r.ok HSE.out HNX.out (fun h => h44 (by rw [← HVV.out.1]; exact h.2))).symm
              have HLV : Hid (∀ t j, (goR J.blanks (goR (J.need 44 44) σe).1).1 = .live t j → Js'.length < 1024) := fun t j e => by
                have hn := (need_go 44 44 HI8.out.r.ok).2 (fun h => h44 (by have := HVV.out.1; omega))
                rw [hn] at e
                obtain ⟨t', e', h'⟩ := refuse_dead 160 σe
                rw [h'] at e
                cases e
              clear h44
              go_wp2_with fail
              have Nd := need_any b s (dp + 1) 44 44 (by decide) σe v8 HM10.out.r
              obtain ⟨σg, hσg⟩ : ∃ y, (goR (J.need 44 44) σe).1 = y := ⟨_, rfl⟩
              rw [hσg] at Nd
              have HSG : Hid ((goR (J.need 44 44) σe).1 = σg) := hσg
              simp only [show (((44 : Nat) : Int)) = 44 from rfl] at Nd
              unfold rp at Nd
              clear hσg
              go_wp2_with fail
              refine Nd.mono ?_
              rintro e u1 ⟨rfl, k1, l1⟩
              have Bk := dblanks_any b s (dp + 1) σg u1 k1
              have HK1 : Hid (GrpD true b s (dp + 1) w σg As' Js' ss' (.slice (some ⟨gn, 0, none⟩) ss'.length capn) (.slice (some ⟨g', 0, none⟩) Js'.length cap') u1) := HM10.out.goes k1 l1
              unfold rp at Bk
              clear Nd k1 l1
              simp only []
              go_wp2_with fail
              refine Bk.mono ?_
              rintro e u2 ⟨rfl, k2, l2⟩
              clear Bk
              simp only []
              go_wp2_with fail
              go_roundg (gk - 1)
              case measure => have := HQ.out; omega
              case rel =>
                have hst := HSTEP.out
                refine ⟨_, As', Js', ss', _, _, HK1.out.goes k2 l2, ?_, ?_, ?_, hst.2.2.2.2.2⟩
                · rw [hst.2.1, ← HSG.out]; exact HTF.out
                · have := HQ.out; omega
                · rw [← HSG.out]; exact HLV.out
          · have hlb : ((Js'.length : Int) == 1024) = false := by simp; omega
            have HTF : Hid (goR (J.groupN F f true n (ss'.map numsOf) (toJs Js')) (goR J.blanks (goR (J.need 44 44) σe).1).1 = TX) := by
              show _ = _
              rw [HSTEP.out.1]
              exact (tail_on HI8.out.r.ok HSE.out HNX.out (fun h => hl (by rw [← HSTEP.out.2.2.1]; exact h.1))).symm
            have HLV : Hid (∀ t j, (goR J.blanks (goR (J.need 44 44) σe).1).1 = .live t j → Js'.length < 1024) := fun t j e => by have := HSTEP.out.2.2.2.2.1; omega
            clear hl
            have Nd := need_any b s (dp + 1) 44 44 (by decide) σe v7 HM9.out.r
            obtain ⟨σg, hσg⟩ : ∃ y, (goR (J.need 44 44) σe).1 = y := ⟨_, rfl⟩
            rw [hσg] at Nd
            have HSG : Hid ((goR (J.need 44 44) σe).1 = σg) := hσg
            simp only [show (((44 : Nat) : Int)) = 44 from rfl] at Nd
            unfold rp at Nd
            clear hσg
            go_wp2_with fail
            refine Nd.mono ?_
            rintro e u1 ⟨rfl, k1, l1⟩
            have Bk := dblanks_any b s (dp + 1) σg u1 k1
            have HK1 : Hid (GrpD true b s (dp + 1) w σg As' Js' ss' (.slice (some ⟨gn, 0, none⟩) ss'.length capn) (.slice (some ⟨g', 0, none⟩) Js'.length cap') u1) := HM9.out.goes k1 l1
            unfold rp at Bk
            clear Nd k1 l1
            simp only []
            go_wp2_with fail
            refine Bk.mono ?_
            rintro e u2 ⟨rfl, k2, l2⟩
            clear Bk
            simp only []
            go_wp2_with fail
            go_roundg (gk - 1)
            case measure => have := HQ.out; omega
            case rel =>
              have hst := HSTEP.out
              refine ⟨_, As', Js', ss', _, _, HK1.out.goes k2 l2, ?_, ?_, ?_, hst.2.2.2.2.2⟩
              · rw [hst.2.1, ← HSG.out]; exact HTF.out
              · have := HQ.out; omega
              · rw [← HSG.out]; exact HLV.out
end Go.Proofs.YtcfalgomcdmdhaaDoor
