/-
  AuditNames: the law.
-/
import Derived.Test.YtoagaddciapmkaaDoorALaw0
import Derived.Test.YtoagaddciapmkaaDoorXPass
import Derived.Deep.RegionHeld3
namespace Go.Proofs.YtoagaddciapmkaaDoor
open Go.RowKit Go.WideShapes

def raiseB : ByteArray := ⟨#[114, 97, 105, 115, 101]⟩
def xB : ByteArray := ⟨#[120]⟩
def bytesA : List Nat := 64 :: (List.replicate 64 48 ++ (putN 0 ++ (putN 5 ++ (putN 200 ++ ([3, 97, 110, 110] ++ [6, 99, 114, 101, 97, 116, 101])))))
def bytesB : List Nat := 64 :: (List.replicate 64 48 ++ (putN 0 ++ (putN 5 ++ (putN 200 ++ ([3, 97, 110, 110] ++ [5, 114, 97, 105, 115, 101])))))
theorem nought_nums : numsOf nought = List.replicate 64 48 := by
  unfold nought
  exact nums_strOf (by intro c hc; rw [List.mem_replicate] at hc; omega)
theorem recA_is : recN 0 5 200 annB createB nought = bytesA := by
  unfold recN txN
  rw [nought_size, nought_nums, show annB.size = 3 from rfl, show createB.size = 6 from rfl, smallN_lo (by decide), smallN_lo (by decide), smallN_lo (by decide)]
  rfl
theorem recB_is : recN 0 5 200 annB raiseB nought = bytesB := by
  unfold recN txN
  rw [nought_size, nought_nums, show annB.size = 3 from rfl, show raiseB.size = 5 from rfl, smallN_lo (by decide), smallN_lo (by decide), smallN_lo (by decide)]
  rfl
theorem dig_differ : decide (digN bytesA = digN bytesB) = false := by kernel_rfl
theorem hex_differ : hexD (recN 0 5 200 annB createB nought) ≠ hexD (recN 0 5 200 annB raiseB nought) := by
  rw [recA_is, recB_is]
  intro h
  have e1 := congrArg numsOf h
  rw [hexD_nums, hexD_nums] at e1
  have e2 := congrArg unhexN e1
  rw [unhex_hex (digN_byte _), unhex_hex (digN_byte _)] at e2
  exact absurd (decide_eq_true (Option.some.inj e2)) (by rw [dig_differ]; decide)
theorem rown_row {w : World} {base g cap : Nat} {r : RecV} (h : ROwn w base (.slice (some ⟨g, 0, none⟩) 1 cap) [r]) : ∃ cur, w.heap[g]? = some (.cells cur 41 (0, 0)) := by
  rcases h.2 with ⟨h', _⟩ | ⟨g', cap', cur, h', _, hg, _⟩
  · simp at h'
  · simp only [Value.slice.injEq, Option.some.injEq, Addr.mk.injEq, and_true] at h'
    obtain ⟨rfl, _⟩ := h'
    exact ⟨cur, hg⟩
theorem stored1 {w : World} {base g cap : Nat} {r r' : RecV} (h : ROwn w base (.slice (some ⟨g, 0, none⟩) 1 cap) [r]) (j : Nat) (u : Value) (he : (cellsR [r]).set j u = cellsR [r']) : ROwn (w.setCell ⟨g, j, none⟩ u) base (.slice (some ⟨g, 0, none⟩) 1 cap) [r'] ∧ w.grownBy (w.setCell ⟨g, j, none⟩ u) (some g) := by
  have h1 := World.ownsRow.stored (n := 1) h j u
  rw [he] at h1
  exact h1
set_option maxHeartbeats 8000000 in
set_option maxRecDepth 100000 in
theorem law_names (w : World) (hk : KOn w) : Calls Tryd.prog 5 #[] w fun e w' => e = .returned (.bool true) ∧ Below w.heap.size w w' := by
  have CK0 := Check_any none 0 0 [] w hk ⟨rfl, rs_nil _ _⟩ (by decide) (-1) misN 0 rfl
  have HD0 := fun w' => Head_any none 0 0 [] w' ⟨rfl, rs_nil _ _⟩ (by decide) 0 rfl
  have NX0 := fun w' (hb : Below w.heap.size w w') => Next_any none 0 0 [] 5 annB createB 200 w' (hk.below hb hk.pos) ⟨rfl, rs_nil _ _⟩ (fun _ => rfl) (by decide) (-1) misN 0 (nextE_none fld_alive)
  have NX9 := fun w' (hb : Below w.heap.size w w') => Next_any none 0 0 [] 6 annB raiseB 99 w' (hk.below hb hk.pos) ⟨rfl, rs_nil _ _⟩ (fun _ => rfl) (by decide) (-1) misN 2 (by decide)
  have hfr : folR firstR 5 annB createB 200 = ⟨0, 5, annB, createB, 200, hexD (recN 0 5 200 annB createB nought)⟩ := rfl
  have hL : nextL [] 5 annB createB 200 0 = [⟨0, 5, annB, createB, 200, hexD (recN 0 5 200 annB createB nought)⟩] := rfl
  have hmay := fol_may (d := createB) first_ahd fld_alive
  have hmis : MisP [folR firstR 5 annB createB 200] (-1) := mis_more misN (by decide)
  rw [hfr] at hmay hmis
  have hpe : (prevR [] ([] : List RecV).length).hash = nought := rfl
  simp only [hL, hpe, if_true] at NX0 HD0 CK0
  have hXb : ∀ z ∈ recN 0 5 200 annB createB nought, z < 256 := by rw [recA_is]; decide
  have hXl : (recN 0 5 200 annB createB nought).length ≤ 1000 := by rw [recA_is]; decide
  have hne := hex_differ
  have HHX : Hid (hexD (recN 0 5 200 annB createB nought) = strOf (hexN (digN (recN 0 5 200 annB createB nought)))) := rfl
  have hDl := digN_len (recN 0 5 200 annB createB nought)
  have hDb := digN_byte (recN 0 5 200 annB createB nought)
  generalize hH : hexD (recN 0 5 200 annB createB nought) = H at NX0 hmay hmis hne HHX
  have hT : textE ⟨0, 5, annB, createB, 200, H⟩ nought = 0 := by unfold textE; rw [may_iff.2 hmay, nought_dig]; rfl
  have TX := fun w' => Text_any ⟨0, 5, annB, createB, 200, H⟩ nought w' (show (0 : Int) ≤ _ by decide) 0 hT
  simp only [if_true] at TX
  have hmay2 : MayR ⟨0, 5, annB, raiseB, 200, H⟩ := ⟨show (0 : Int) ≤ 0 by decide, hmay.dig, show (0 : Int) ≤ 5 by decide, show (5 : Int) ≤ 1099511627776 by decide, show annB.size ≤ 32 by decide, show raiseB.size ≤ 16384 by decide, show (100 : Int) ≤ 200 by decide, show (200 : Int) ≤ 599 by decide⟩
  have hmis2 : MisP [⟨0, 5, annB, raiseB, 200, H⟩] 0 := .one 0 (by simp) (fun j hj => absurd hj (by omega)) (fun hf => hne (congrArg RecV.hash hf.2))
  have hr1 := ref_one hmay
  have hr2 := ref_one hmay2
  have hr3 : refE [⟨0, 5, annB, raiseB, 200, xB⟩] = 8 := ref_bad (k := 0) (by simp) (by simp) (by
    show mayB ⟨0, 5, annB, raiseB, 200, xB⟩ = false
    decide)
  obtain ⟨m3, hm3⟩ := mis_ex [⟨0, 5, annB, raiseB, 200, xB⟩]
  have hE4 : nextE [⟨0, 5, annB, createB, 200, H⟩] 4 annB raiseB 200 (-1) = 150 := by
    unfold nextE
    rw [hr1, if_neg (by decide), show fldE 4 annB raiseB 200 = 0 from by decide, if_neg (by decide), if_neg (by simp), if_pos (.inl (show (4 : Int) < 5 by decide))]
  have hE7 : nextE [⟨0, 5, annB, raiseB, 200, H⟩] 6 annB raiseB 200 0 = 150 := by
    unfold nextE
    rw [hr2, if_neg (by decide), show fldE 6 annB raiseB 200 = 0 from by decide, if_neg (by decide), if_neg (by simp), if_pos (.inr (by decide))]
  have NX4 := fun w' q' c' hk' h' hq' => Next_any q' 1 c' [⟨0, 5, annB, createB, 200, H⟩] 4 annB raiseB 200 w' hk' h' hq' (by decide) (-1) hmis 150 hE4
  have CK6 := fun w' q' c' hk' h' => Check_any q' 1 c' [⟨0, 5, annB, raiseB, 200, H⟩] w' hk' h' (by decide) 0 hmis2 0 hr2
  have NX7 := fun w' q' c' hk' h' hq' => Next_any q' 1 c' [⟨0, 5, annB, raiseB, 200, H⟩] 6 annB raiseB 200 w' hk' h' hq' (by decide) 0 hmis2 150 hE7
  have CK9 := fun w' q' c' hk' h' => Check_any q' 1 c' [⟨0, 5, annB, raiseB, 200, xB⟩] w' hk' h' (by decide) m3 hm3 8 hr3
  have AL := fun w' (hb : Below w.heap.size w w') => alive_any w' (hk.below hb hk.pos)
  generalize recN 0 5 200 annB createB nought = X at TX hXb hXl HHX hDl hDb
  have hns := nums_strOf hXb
  generalize strOf X = S at TX hns
  have hSX : S.size = X.length := by rw [← hns, numsOf_len]
  have HK : Hid (KOn w) := hk
  clear hH hT hmay hmay2 hmis hmis2 hr1 hr2 hr3 hm3 hE4 hE7 hne hfr hL hpe hk hXb
  go_enter Tryd.func5, Tryd.ntmps5
  go_wp2_with fail
  refine CK0.mono ?_
  rintro e w1 ⟨rfl, hb1⟩
  clear CK0
  simp only []
  go_upto_region 2 with fail
  go_wp2_with fail
  refine (HD0 _).mono ?_
  rintro e w2 ⟨rfl, hb2⟩
  have B2 := below_more hb1 hb2
  clear HD0 hb1 hb2
  simp only []
  go_upto_region 3 with fail
  go_wp2_with fail
  refine (NX0 _ B2).mono ?_
  rintro e w3 ⟨v3, rfl, on3⟩
  clear NX0
  have hown := on3.own
  rcases hown.2 with ⟨_, h0⟩ | ⟨g, cap, cur, rfl, hgb, hrow, _⟩
  · simp at h0
  have HGB : Hid (w2.heap.size ≤ g) := hgb
  have O3 : OnR w2 (.slice (some ⟨g, 0, none⟩) 1 cap) [⟨0, 5, annB, createB, 200, H⟩] w3 := on3
  have B3 := below_more B2 on3.bel
  clear hown on3 hgb hrow
  simp only [List.length_cons, List.length_nil, Nat.zero_add]
  go_upto_region 6 with fail
  have N6 := NX4 w3 (some ⟨g, 0, none⟩) cap (HK.out.below B3 HK.out.pos) O3.own.recs (fun h => by cases h)
  clear NX4
  go_wp2_with fail
  refine N6.mono ?_
  rintro e w4 ⟨v4, rfl, on4⟩
  have O4 := O3.call on4.bel
  have B4 := below_more B3 on4.bel
  clear N6 O3 B3 on4
  simp only []
  obtain ⟨x0, x1, x2, x3, x4, x5⟩ := O4.own.recs.lies.at (k := 0) (by simp)
  simp only [Nat.zero_mul, Nat.zero_add, List.getD_cons_zero] at x0 x1 x2 x3 x4 x5
  simp only [recA] at TX
  go_upto_region 7 with fail
  go_wp2_with fail
  refine (TX _).mono ?_
  rintro e w5 ⟨rfl, hb5⟩
  have O5 := O4.call hb5
  have B5 := below_more B4 hb5
  clear TX O4 B4 hb5 x0 x1 x2 x3 x4 x5
  simp only []
  go_upto_region 8 with fail
  obtain ⟨c9, w9, r9, hc9, i9, hb9⟩ := conv_str S w5
  rw [hns] at i9
  rw [hSX] at hc9 r9
  have B9 := below_more B5 hb9
  have O9 := O5.call hb9
  have SM := sum_any (some ⟨w5.heap.size, 0, none⟩) c9 X w9 (HK.out.below B9 HK.out.pos) i9 hc9 (by omega)
  generalize digN X = D at SM hDl hDb HHX
  have hDs : (Tryd.prog.info? 23).map (·.size) = some (Bs D).toArray.size := by rw [size_dig]; simp [Bs, hDl]
  go_wp2_with fail
  refine SM.mono ?_
  rintro e wa ⟨rfl, hba⟩
  have Ba := below_more B9 hba
  have Oa := O9.call hba
  clear SM r9 i9 hc9 hb9 B9 hba B5 O5 O9
  simp only []
  go_step
  go_step
  go_step
  go_step
  refine wpList_store_row rfl 23 (.tmp 11) (.tmp 54) rfl wa.heap.size (Bs D).toArray (by rfl) (by rfl) 23 _ (_root_.Go.heap_alloc_new _ _) hDs (by simp [Bs, hDl]) (one_cell_bs _) ?_
  rw [World.setRow_alloc_new]
  have G1 : (wa.alloc (Obj.cells (Bs D).toArray 23)).heap[wa.heap.size]? = some (.cells (Bs D).toArray 23 (0, 0)) := _root_.Go.heap_alloc_new _ _
  replace Ba := Ba.alloc (o := Obj.cells (Bs D).toArray 23) Ba.size
  have Ob := Oa.call (w' := wa.alloc (Obj.cells (Bs D).toArray 23)) ((Below.refl _ _).alloc (Nat.le_refl _) _)
  have hsl := slice_dig wa.heap.size
  generalize wa.heap.size = gd at G1 hsl ⊢
  generalize wa.alloc (Obj.cells (Bs D).toArray 23) = wb at G1 Ba Ob ⊢
  clear Oa
  simp only [Act.put]
  go_upto_region 9 with fail
  have HX := hex_any (some ⟨gd, 0, none⟩) 32 D wb.drew (bin_dig G1 hDb) (by omega)
  rw [hDl, ← HHX.out] at HX
  have hRA := fun w' (hb : Below wb.heap.size wb w') => (Ob.call hb).own.recs.lies.at (k := 0) (by simp)
  have HKS : Hid (∀ w', Below wb.heap.size wb w' → w'.cell? ⟨g, 0, none⟩ = some (.int .i64 0) ∧ w'.cell? ⟨g, 1, none⟩ = some (.int .i64 5) ∧ w'.cell? ⟨g, 5, none⟩ = some (.string H)) := fun w' hb => by
    have hr := hRA w' hb
    exact ⟨hr.c0, hr.c1, hr.c5⟩
  have A0 : Below wb.heap.size wb wb.drew := (Below.refl _ _).drew
  have q1 : (nought.toList == nought.toList) = true := by simp
  have q2 : (H.toList == H.toList) = true := by simp
  clear hRA
  rw [nought_lit]
  go_region_held3 (fun w' => w'.cell? ⟨g, 0, none⟩ = some (.int .i64 0) ∧ w'.cell? ⟨g, 1, none⟩ = some (.int .i64 5) ∧ w'.cell? ⟨g, 5, none⟩ = some (.string H))
    (with_reducible first | exact HKS.out _ (Below.refl _ _) | exact HKS.out _ A0 | exact HKS.out _ A1 | assumption)
    (first
      | (go_at_call 22; refine HX.mono ?_; rintro e wc ⟨rfl, hbc⟩; have A1 := below_more A0 hbc)
      | fail)
  have Oc := Ob.call A1
  have Bc := below_more Ba A1
  clear HX HKS A0 A1 Ob Ba hbc G1 hsl q1 q2
  obtain ⟨cu, hrow⟩ := rown_row Oc.own
  obtain ⟨y0, y1, y2, y3, y4, y5⟩ := Oc.own.recs.lies.at (k := 0) (by simp)
  simp only [Nat.zero_mul, Nat.zero_add, List.getD_cons_zero] at y0 y1 y2 y3 y4 y5
  have fz : wc.frozen? ⟨g, 3, none⟩ = false := frozen_of_row wc _ _ _ _ hrow
  go_upto_region 11 with fail
  have RS := stored1 (r' := ⟨0, 5, annB, raiseB, 200, H⟩) Oc.own 3 (.string ⟨#[114, 97, 105, 115, 101]⟩) rfl
  have Od : OnR w2 (.slice (some ⟨g, 0, none⟩) 1 cap) [⟨0, 5, annB, raiseB, 200, H⟩] (wc.setCell ⟨g, 3, none⟩ (.string ⟨#[114, 97, 105, 115, 101]⟩)) := ⟨RS.1, Oc.bel.grown RS.2 Oc.bel.size (fun j hj => by cases hj; exact HGB.out)⟩
  generalize wc.setCell ⟨g, 3, none⟩ (.string ⟨#[114, 97, 105, 115, 101]⟩) = wd at Od ⊢
  have Bd := below_more B2 Od.bel
  have C6 := CK6 wd (some ⟨g, 0, none⟩) cap (HK.out.below Bd HK.out.pos) Od.own.recs
  simp only [if_true] at C6
  clear CK6 RS Oc Bc hrow y0 y1 y2 y3 y4 y5 fz
  go_wp2_with fail
  refine C6.mono ?_
  rintro e we ⟨rfl, hbe⟩
  have Oe := Od.call hbe
  have Be := below_more B2 Oe.bel
  clear C6 Od Bd hbe
  simp only []
  go_upto_region 12 with fail
  have C7 := NX7 we (some ⟨g, 0, none⟩) cap (HK.out.below Be HK.out.pos) Oe.own.recs (fun h => by cases h)
  clear NX7
  go_wp2_with fail
  refine C7.mono ?_
  rintro e wf ⟨vf, rfl, onf⟩
  have Of := Oe.call onf.bel
  have Bf := below_more B2 Of.bel
  clear C7 Oe Be onf
  simp only []
  go_upto_region 13 with fail
  go_wp2_with fail
  refine (NX9 _ Bf).mono ?_
  rintro e wg ⟨vg, rfl, ong⟩
  have Og := Of.call ong.bel
  clear NX9 Of Bf ong
  simp only []
  obtain ⟨cu, hrow⟩ := rown_row Og.own
  obtain ⟨y0, y1, y2, y3, y4, y5⟩ := Og.own.recs.lies.at (k := 0) (by simp)
  simp only [Nat.zero_mul, Nat.zero_add, List.getD_cons_zero] at y0 y1 y2 y3 y4 y5
  have fz : wg.frozen? ⟨g, 5, none⟩ = false := frozen_of_row wg _ _ _ _ hrow
  go_upto_region 15 with fail
  have RS := stored1 (r' := ⟨0, 5, annB, raiseB, 200, xB⟩) Og.own 5 (.string ⟨#[120]⟩) rfl
  have Oh : OnR w2 (.slice (some ⟨g, 0, none⟩) 1 cap) [⟨0, 5, annB, raiseB, 200, xB⟩] (wg.setCell ⟨g, 5, none⟩ (.string ⟨#[120]⟩)) := ⟨RS.1, Og.bel.grown RS.2 Og.bel.size (fun j hj => by cases hj; exact HGB.out)⟩
  generalize wg.setCell ⟨g, 5, none⟩ (.string ⟨#[120]⟩) = wh at Oh ⊢
  have Bh := below_more B2 Oh.bel
  have C9 := CK9 wh (some ⟨g, 0, none⟩) cap (HK.out.below Bh HK.out.pos) Oh.own.recs
  rw [if_neg (by decide)] at C9
  clear CK9 RS Og hrow y0 y1 y2 y3 y4 y5 fz
  go_wp2_with fail
  refine C9.mono ?_
  rintro e wi ⟨rfl, hbi⟩
  have Bi := below_more Bh hbi
  clear C9 Oh hbi Bh
  simp only []
  have A9 := AL wi Bi
  go_wp2_with (go_at_call 23; refine A9.mono ?_; rintro e wj ⟨rfl, hbj⟩)
  go_ret
  exact ⟨rfl, below_more Bi hbj⟩
end Go.Proofs.YtoagaddciapmkaaDoor
