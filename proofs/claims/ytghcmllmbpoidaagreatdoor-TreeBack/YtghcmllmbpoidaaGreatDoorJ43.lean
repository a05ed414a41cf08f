import Derived.Test.YtghcmllmbpoidaaGreatDoorJ42
import Derived.Test.YtghcmllmbpoidaaGreatDoorJ23
import Derived.Test.YtghcmllmbpoidaaGreatDoorJ29
import Derived.Test.YtghcmllmbpoidaaGreatDoorJ31
import Derived.Test.YtghcmllmbpoidaaGreatDoorJ04
import Derived.Deep.QuietTactic
import Derived.Test.YtghcmllmbpoidaaGreatDoorJ41
import Derived.Test.YtghcmllmbpoidaaGreatDoorJ20
namespace Go.Proofs.YtghcmllmbpoidaaGreatDoor
open Go.RowKit Go.WideShapes
theorem strs_own {w : World} {base : Nat} {q : Option Addr} {n m : Nat} {l : List (List Nat)} (h : w.ownsRow base 9 1 (.slice q n m) l.length (l.map fun r => .string (strOf r))) : n = l.length ∧ Lg.StrsIn w q (l.map strOf) := by
  rcases h.2 with ⟨hv, hn⟩ | ⟨g, cap, cur, hv, hb, hg, hle, hmax, hsz, htk⟩
  · simp only [Value.slice.injEq] at hv
    refine ⟨by omega, fun h0 => ?_⟩
    rw [List.length_map] at h0
    omega
  · simp only [Value.slice.injEq] at hv
    obtain ⟨rfl, rfl, rfl⟩ := hv
    refine ⟨rfl, fun h0 => ⟨g, 0, rfl, fun i hi => ?_⟩⟩
    rw [List.length_map] at hi
    rw [Nat.zero_add, World.ownsRow.cellAt h i (by omega), List.getElem?_map, List.getElem?_eq_getElem hi, List.getD_eq_getElem?_getD, List.getElem?_map, List.getElem?_eq_getElem hi]
    rfl
theorem eown_set {w : World} {base g i : Nat} {v u : Value} {l : List Mg.EntV} (h : Mg.EOwn w base v l) (hg : g < base) : Mg.EOwn (w.setCell ⟨g, i, none⟩ u) base v l :=
  World.ownsRow.kept h (Lg.grown_set w g i u) (.inr (fun e => by have := (World.ownsRow.lt h g e).1; omega))
structure OpenP (w : World) (count : Int) (n1 n2 : Nat) (p : Option Addr) (c : Nat) (q : Option Addr) (m N : Nat) (E : List Mg.EntV) (e : Ending) (w' : World) : Prop where
  ex : ∃ fq fn fc eq ec, e = .returned (.tuple #[.agg #[.int .i64 count, .slice p n1 c, .slice q n2 m, .slice none 0 0, .int .i64 (N : Int), .slice fq fn fc, .slice eq E.length ec, .int .i64 (N : Int)], .nilIface]) ∧ Mg.EntsL w' eq E.length E
  bel : Below w.heap.size w w'
set_option maxRecDepth 8000 in
set_option maxHeartbeats 4000000 in
theorem open_any (count : Int) (data : List Nat) (ws : Puts) (p q : Option Addr) (c m : Nat) (w : World) (hL : Laid w) (hM : Mg.Laid w) (hd : DiskIn w (.agg #[.int .i64 count, .slice p data.length c, .slice q ws.length m]) count data ws) (ho : Okay count data ws) (r : Option (DirV × Int)) (hm : MountIs count data ws r 0) (hx : namesN r = [])
    (hl : Lg.HasLog count data ws) (X : Nat) (hX : Lg.epochN (Lg.logN data ws) = X) (hX0 : X ≠ 0) (hX2 : X < 4294967296) (rs : List (List Nat)) (A la : Nat) (t : List Nat) (hrec : Lg.Recs X 0 ((Lg.logN data ws).drop 128) rs A la t)
    (N : Nat) (hN : rs.length = N) (hn63 : N ≤ 63) (ls : List (List Tr.CV)) (E : List Mg.EntV) (hrd : ∀ i, i < N → ((rs.map strOf).getD i ByteArray.empty).size ≤ 100000 ∧ Tr.readE Tr.gP (numsOf ((rs.map strOf).getD i ByteArray.empty)) = some (ls.getD i [], i + 1) ∧ (ls.getD i []).length ≤ 64)
    (hE : Mg.allE (rowsK ls N) = (E, 0)) (hr : Mg.RiseE E) (hE12 : E.length ≤ 12) :
    Calls Tryz.prog 20 #[.agg #[.int .i64 count, .slice p data.length c, .slice q ws.length m]] w fun e w' => OpenP w count data.length ws.length p c q m N E e w' := by
  have hb1 := below_alloc w (.cells #[.int .i64 count, .slice p data.length c, .slice q ws.length m] 35)
  have hb2 := below_alloc (w.alloc (.cells #[.int .i64 count, .slice p data.length c, .slice q ws.length m] 35)) (.cells #[.int .i64 0, .slice none 0 0, .slice none 0 0, .slice none 0 0, .int .i64 0, .slice none 0 0, .slice none 0 0, .int .i64 0] 60)
  have hbB := below_bt hb1 hb2
  obtain ⟨W, hW⟩ : ∃ W, ((w.alloc (.cells #[.int .i64 count, .slice p data.length c, .slice q ws.length m] 35)).alloc (.cells #[.int .i64 0, .slice none 0 0, .slice none 0 0, .slice none 0 0, .int .i64 0, .slice none 0 0, .slice none 0 0, .int .i64 0] 60)) = W := ⟨_, rfl⟩
  rw [hW] at hbB
  have g0 : W.heap[w.heap.size]? = some (.cells #[.int .i64 count, .slice p data.length c, .slice q ws.length m] 35 (0, 0)) := by
    rw [← hW]; exact (hb2.block _ (by simp)).trans (heap_alloc_new w _)
  have g1 : W.heap[w.heap.size + 1]? = some (.cells #[.int .i64 0, .slice none 0 0, .slice none 0 0, .slice none 0 0, .int .i64 0, .slice none 0 0, .slice none 0 0, .int .i64 0] 60 (0, 0)) := by
    rw [← hW]; have := heap_alloc_new (w.alloc (.cells #[.int .i64 count, .slice p data.length c, .slice q ws.length m] 35)) (.cells #[.int .i64 0, .slice none 0 0, .slice none 0 0, .slice none 0 0, .int .i64 0, .slice none 0 0, .slice none 0 0, .int .i64 0] 60); simpa using this
  have HW : Hid _ := hW
  have HBW : Hid (Below w.heap.size w W) := hbB
  have HG : Hid (W.heap[w.heap.size]? = some (.cells #[.int .i64 count, .slice p data.length c, .slice q ws.length m] 35 (0, 0)) ∧ W.heap[w.heap.size + 1]? = some (.cells #[.int .i64 0, .slice none 0 0, .slice none 0 0, .slice none 0 0, .int .i64 0, .slice none 0 0, .slice none 0 0, .int .i64 0] 60 (0, 0))) := ⟨g0, g1⟩
  have HD : Hid (DiskIn w (.agg #[.int .i64 count, .slice p data.length c, .slice q ws.length m]) count data ws) := hd
  have HO : Hid (Okay count data ws) := ho
  have HLL : Hid (Laid w ∧ Mg.Laid w) := ⟨hL, hM⟩
  have HM : Hid (MountIs count data ws r 0 ∧ namesN r = []) := ⟨hm, hx⟩
  have HX : Hid (Lg.HasLog count data ws ∧ Lg.epochN (Lg.logN data ws) = X ∧ X ≠ 0 ∧ X < 4294967296 ∧ Lg.Recs X 0 ((Lg.logN data ws).drop 128) rs A la t ∧ rs.length = N ∧ N ≤ 63) := ⟨hl, hX, hX0, hX2, hrec, hN, hn63⟩
  have HR : Hid ((∀ i, i < N → ((rs.map strOf).getD i ByteArray.empty).size ≤ 100000 ∧ Tr.readE Tr.gP (numsOf ((rs.map strOf).getD i ByteArray.empty)) = some (ls.getD i [], i + 1) ∧ (ls.getD i []).length ≤ 64) ∧ Mg.allE (rowsK ls N) = (E, 0) ∧ Mg.RiseE E ∧ E.length ≤ 12) := ⟨hrd, hE, hr, hE12⟩
  have hck := check_ok _ count data ws W (HD.out.below HBW.out) ho
  have HCK : Hid _ := hck
  have hNI : (N : Int) ≤ 63 := by omega
  clear hb1 hb2 hbB hW g0 g1 hd ho hL hM hm hx hl hX hX0 hX2 hrec hN hn63 hrd hE hr hE12 hck
  go_enter Tryz.func20, Tryz.ntmps20
  go_wp2_with fail
  rw [HW.out]
  refine Calls.mono HCK.out ?_
  rintro e w1 ⟨rfl, hb1⟩
  have HB1 : Hid (Below w.heap.size w w1) := below_bt HBW.out hb1
  have G1 : Hid (w1.heap[w.heap.size]? = some (.cells #[.int .i64 count, .slice p data.length c, .slice q ws.length m] 35 (0, 0)) ∧ w1.heap[w.heap.size + 1]? = some (.cells #[.int .i64 0, .slice none 0 0, .slice none 0 0, .slice none 0 0, .int .i64 0, .slice none 0 0, .slice none 0 0, .int .i64 0] 60 (0, 0))) := ⟨(hb1.block _ (lt_heap HG.out.1)).trans HG.out.1, (hb1.block _ (lt_heap HG.out.2)).trans HG.out.2⟩
  obtain ⟨a0, a1, a2⟩ := three_cells G1.out.1
  have hna := Names_any _ count data ws w1 (HLL.out.1.below HB1.out) (HD.out.below HB1.out) r 0 HM.out.1
  have HNA : Hid _ := hna
  clear hb1 hna
  go_wp2_with fail
  refine Calls.mono HNA.out ?_
  rintro e w2 ⟨⟨lv, rfl, hown⟩, hb2⟩
  rw [HM.out.2] at hown
  obtain ⟨nq, nm, rfl, _⟩ := own_form hown
  have HB2 : Hid (Below w.heap.size w w2) := below_bt HB1.out hb2
  have G2 : Hid (w2.heap[w.heap.size]? = some (.cells #[.int .i64 count, .slice p data.length c, .slice q ws.length m] 35 (0, 0)) ∧ w2.heap[w.heap.size + 1]? = some (.cells #[.int .i64 0, .slice none 0 0, .slice none 0 0, .slice none 0 0, .int .i64 0, .slice none 0 0, .slice none 0 0, .int .i64 0] 60 (0, 0))) := ⟨(hb2.block _ (lt_heap G1.out.1)).trans G1.out.1, (hb2.block _ (lt_heap G1.out.2)).trans G1.out.2⟩
  clear a0 a1 a2
  obtain ⟨a0, a1, a2⟩ := three_cells G2.out.1
  have hrc := Lg.Records_ok _ count data ws w2 (HD.out.below HB2.out) HX.out.1 X HX.out.2.1 HX.out.2.2.1
  have HRC : Hid _ := hrc
  simp only [List.length_nil]
  clear hb2 hown hrc HNA HCK HW
  go_wp2_with fail
  refine Calls.mono HRC.out ?_
  rintro e w3 ⟨rv, l3, A3, la3, t3, rfl, hr3, ho3, hb3⟩
  obtain ⟨rfl, _, _, _⟩ := HX.out.2.2.2.2.1.only HX.out.2.2.2.1 (by omega) hr3
  obtain ⟨rq, rm, rfl, _⟩ := own_form ho3
  obtain ⟨_, hst⟩ := strs_own ho3
  rw [HX.out.2.2.2.2.2.1]
  have HST : Hid (Lg.StrsIn w3 rq (rs.map strOf)) := hst
  have HB3 : Hid (Below w.heap.size w w3) := below_bt HB2.out hb3
  have G3 : Hid (w3.heap[w.heap.size]? = some (.cells #[.int .i64 count, .slice p data.length c, .slice q ws.length m] 35 (0, 0)) ∧ w3.heap[w.heap.size + 1]? = some (.cells #[.int .i64 0, .slice none 0 0, .slice none 0 0, .slice none 0 0, .int .i64 0, .slice none 0 0, .slice none 0 0, .int .i64 0] 60 (0, 0))) := ⟨(hb3.block _ (lt_heap G2.out.1)).trans G2.out.1, (hb3.block _ (lt_heap G2.out.2)).trans G2.out.2⟩
  clear a0 a1 a2
  obtain ⟨a0, a1, a2⟩ := three_cells G3.out.1
  clear hb3 hr3 ho3 hst HRC
  go_wp2_with fail
  have hT3 : (w3.alloc (.cells #[.int .i64 count, .slice p data.length c, .slice q ws.length m, .slice none 0 0, .int .i64 (N : Int), .slice none 0 0, .slice none 0 0, .int .i64 0] 60)).heap[w3.heap.size]? = some (.cells #[.int .i64 count, .slice p data.length c, .slice q ws.length m, .slice none 0 0, .int .i64 (N : Int), .slice none 0 0, .slice none 0 0, .int .i64 0] 60 (0, 0)) := heap_alloc_new w3 _
  have hbT := below_alloc w3 (.cells #[.int .i64 count, .slice p data.length c, .slice q ws.length m, .slice none 0 0, .int .i64 (N : Int), .slice none 0 0, .slice none 0 0, .int .i64 0] 60)
  have hlv := leaves_none w3.heap.size count (N : Int) 0 p q none none nq data.length ws.length 0 0 c m 0 0 nm _ hT3
  refine hlv.mono ?_
  rintro e w4 ⟨rfl, hb4⟩
  have hb34 := below_bt hbT hb4
  have HB4 : Hid (Below w.heap.size w w4) := below_bt HB3.out hb34
  have hT4 : w4.heap[w3.heap.size]? = some (.cells #[.int .i64 count, .slice p data.length c, .slice q ws.length m, .slice none 0 0, .int .i64 (N : Int), .slice none 0 0, .slice none 0 0, .int .i64 0] 60 (0, 0)) := (hb4.block _ (lt_heap hT3)).trans hT3
  have G4 : Hid (w4.heap[w.heap.size + 1]? = some (.cells #[.int .i64 0, .slice none 0 0, .slice none 0 0, .slice none 0 0, .int .i64 0, .slice none 0 0, .slice none 0 0, .int .i64 0] 60 (0, 0)) ∧ w.heap.size + 1 < w3.heap.size) := ⟨(hb34.block _ (lt_heap G3.out.2)).trans G3.out.2, lt_heap G3.out.2⟩
  have hrr := records_any w3.heap.size count (N : Int) p q none none rq data.length ws.length 0 0 N c m 0 0 rm (rs.map strOf) ls E w4 hT4 (HST.out.below hb34) (by rw [List.length_map, HX.out.2.2.2.2.2.1]) HX.out.2.2.2.2.2.2 HR.out.1 HR.out.2.1 HR.out.2.2.1 HR.out.2.2.2 (HLL.out.2.below HB4.out HLL.out.2.size)
  have HRR : Hid _ := hrr
  clear hT3 hbT hlv hb4 hb34 hT4 hrr a0 a1 a2
  go_wp2_with fail
  refine Calls.mono HRR.out ?_
  rintro e w5 ⟨⟨rfl, fq, fn, fc, eq, ec, hT5, hown⟩, hk5⟩
  have HG5 : Hid (w5.heap[w.heap.size + 1]? = some (.cells #[.int .i64 0, .slice none 0 0, .slice none 0 0, .slice none 0 0, .int .i64 0, .slice none 0 0, .slice none 0 0, .int .i64 0] 60 (0, 0))) := (hk5.oth _ (lt_heap G4.out.1) (by have := G4.out.2; omega)).trans G4.out.1
  have HB5 : Hid (Below w.heap.size w w5) := HB4.out.trans (hk5.bel (by have := G4.out.2; omega) HB4.out.size)
  have HOW : Hid (Mg.EOwn w5 (w3.heap.size + 1) (.slice eq E.length ec) E) := hown
  obtain ⟨ke, hke⟩ : ∃ ke, E.length = ke := ⟨_, rfl⟩
  rw [hke] at hT5
  have HKE : Hid (E.length = ke) := hke
  have t0 := Lib.cell_of_heap hT5 0
  have t1 := Lib.cell_of_heap hT5 1
  have t2 := Lib.cell_of_heap hT5 2
  have t3 := Lib.cell_of_heap hT5 3
  have t4 := Lib.cell_of_heap hT5 4
  have t5 := Lib.cell_of_heap hT5 5
  have t6 := Lib.cell_of_heap hT5 6
  have t7 := Lib.cell_of_heap hT5 7
  have r0 := Lib.cell_of_heap HG5.out 0
  have f0 := Lib.frozen_of_heap HG5.out 0
  have r1 := Lib.cell_of_heap HG5.out 1
  have f1 := Lib.frozen_of_heap HG5.out 1
  have r2 := Lib.cell_of_heap HG5.out 2
  have f2 := Lib.frozen_of_heap HG5.out 2
  have r3 := Lib.cell_of_heap HG5.out 3
  have f3 := Lib.frozen_of_heap HG5.out 3
  have r4 := Lib.cell_of_heap HG5.out 4
  have f4 := Lib.frozen_of_heap HG5.out 4
  have r5 := Lib.cell_of_heap HG5.out 5
  have f5 := Lib.frozen_of_heap HG5.out 5
  have r6 := Lib.cell_of_heap HG5.out 6
  have f6 := Lib.frozen_of_heap HG5.out 6
  have r7 := Lib.cell_of_heap HG5.out 7
  have f7 := Lib.frozen_of_heap HG5.out 7
  clear hown hk5 hT5 hke HRR
  go_wp2
  (try simp only [Exit.inBlock, Exit.then])
  refine bodyPost_ret (v := .tuple #[.agg #[.int .i64 count, .slice p data.length c, .slice q ws.length m, .slice none 0 0, .int .i64 (N : Int), .slice fq fn fc, .slice eq ke ec, .int .i64 (N : Int)], .nilIface]) ?_ rfl ?_
  · rw [results_cell_tmp rfl]
    go_simp
  · have hlt : w.heap.size + 1 < w3.heap.size + 1 := by have := G4.out.2; omega
    have hle : w.heap.size ≤ w.heap.size + 1 := Nat.le_succ _
    refine ⟨⟨fq, fn, fc, eq, ec, by rw [HKE.out], rfl, Mg.EOwn.ents (base := w3.heap.size + 1) (n := E.length) (m := ec) ?_⟩, ?_⟩
    · exact eown_set (eown_set (eown_set (eown_set (eown_set (eown_set (eown_set (eown_set (HOW.out) hlt) hlt) hlt) hlt) hlt) hlt) hlt) hlt
    · exact (((((((HB5.out.setCell hle _).setCell hle _).setCell hle _).setCell hle _).setCell hle _).setCell hle _).setCell hle _).setCell hle _
set_option maxHeartbeats 2000000 in
theorem checkSeq_ok (C R S seq : Int) (pl : ByteArray) (p1 p2 p3 p4 q : Option Addr) (n1 n2 n3 n4 n c1 c2 c3 c4 c : Nat) (w : World) (h0 : 0 ≤ seq) (h1 : seq ≤ S) :
    Calls Tryz.prog 22 #[.agg #[.int .i64 C, .slice p1 n1 c1, .slice p2 n2 c2, .slice p3 n3 c3, .int .i64 R, .slice p4 n4 c4, .slice q n c, .int .i64 S], .string pl, .int .i64 seq] w fun e w' => e = .returned .nilIface ∧ Below w.heap.size w w' := by
  have HB : Hid (Below w.heap.size w (w.alloc (.cells #[.int .i64 C, .slice p1 n1 c1, .slice p2 n2 c2, .slice p3 n3 c3, .int .i64 R, .slice p4 n4 c4, .slice q n c, .int .i64 S] 60))) := below_alloc w _
  go_enter Tryz.func22, Tryz.ntmps22
  go_wp2
  go_ret
  exact ⟨rfl, HB.out⟩
set_option maxHeartbeats 2000000 in
theorem added_ok (count : Int) (data : List Nat) (ws : Puts) (p q : Option Addr) (c m : Nat) (r : ByteArray) (w : World) (hd : DiskIn w (.agg #[.int .i64 count, .slice p data.length c, .slice q ws.length m]) count data ws) (L : List ByteArray) (A X la : Nat) (t : List Nat) (hI : Lg.Inf count data ws 0 L A X la t) (acts : Acts) (hA : Lg.addA 0 A X la t r = (acts, 0)) :
    Calls Tryz.prog 74 #[.agg #[.int .i64 count, .slice p data.length c, .slice q ws.length m], .string r] w fun e w' => ∃ aq am l, e = .returned (.tuple #[.slice aq (List.length (α := Lg.ActC) l) am, .nilIface]) ∧ Lg.AOwn w' w.heap.size (.slice aq l.length am) l ∧ l.map Prod.fst = acts ∧ Below w.heap.size w w' := by
  have hb1 := below_alloc w (.cells #[.int .i64 count, .slice p data.length c, .slice q ws.length m] 35)
  have hap := Lg.Add_p r (hd.below hb1) hI
  rw [hA] at hap
  have HAP : Hid _ := hap
  have HB1 : Hid (Below w.heap.size w (w.alloc (.cells #[.int .i64 count, .slice p data.length c, .slice q ws.length m] 35))) := hb1
  clear hd hI hA hb1 hap
  go_enter Tryz.func74, Tryz.ntmps74
  go_wp2_with fail
  refine Calls.mono HAP.out ?_
  rintro e w1 ⟨⟨v', l, rfl, ho, hl⟩, hb1⟩
  obtain ⟨aq, am, rfl, _, _⟩ := ho.form
  obtain ⟨kl, hkl⟩ : ∃ kl, l.length = kl := ⟨_, rfl⟩
  have HO : Hid (Lg.AOwn w1 w.heap.size (.slice aq l.length am) l) := ⟨Lg.own_mono ho.row HB1.out.size, fun y hy => (ho.data y hy).mono HB1.out.size⟩
  have HL : Hid (l.map Prod.fst = acts ∧ l.length = kl) := ⟨hl, hkl⟩
  have HB2 : Hid (Below w.heap.size w w1) := below_bt HB1.out hb1
  simp only at hkl ⊢
  rw [hkl]
  clear ho hl hb1 HAP hkl
  go_wp2
  go_ret2
  exact ⟨aq, am, l, by rw [HL.out.2]; rfl, HO.out, HL.out.1, HB2.out⟩
set_option maxRecDepth 8000 in
set_option maxHeartbeats 4000000 in
theorem put_ok (count : Int) (data : List Nat) (ws : Puts) (p q : Option Addr) (c m : Nat) (w : World) (hd : DiskIn w (.agg #[.int .i64 count, .slice p data.length c, .slice q ws.length m]) count data ws) (N : Nat) (E : List Mg.EntV) (hN : N ≤ 63)
    (HOP : ∀ W, Below w.heap.size w W → Calls Tryz.prog 20 #[.agg #[.int .i64 count, .slice p data.length c, .slice q ws.length m]] W fun e w' => OpenP W count data.length ws.length p c q m N E e w')
    (L : List ByteArray) (A X la : Nat) (t : List Nat) (hI : Lg.Inf count data ws 0 L A X la t)
    (q2 : Option Addr) (n2 c2 : Nat) (l : List Tr.CV) (hq : Tr.CsIn w q2 l) (hn0 : n2 = l.length) (hnc : n2 ≤ c2) (hn64 : n2 ≤ 64) (hs : ∀ x ∈ l, (x.key.size : Int) ≤ 9223372036854775807 ∧ (x.val.size : Int) ≤ 9223372036854775807) (b : List Nat) (hr : Tr.writeE l ((N : Int) + 1) = (0, b))
    (acts : Acts) (hA : Lg.addA 0 A X la t (strOf b) = (acts, 0)) (ha64 : acts.length ≤ 64) (keep : Int) (hk0 : 0 ≤ keep) (hk1 : keep ≤ (N : Int)) :
    Calls Tryz.prog 43 #[.agg #[.int .i64 count, .slice p data.length c, .slice q ws.length m], .slice q2 n2 c2, .int .i64 keep] w fun e w' => ∃ aq an am l', e = .returned (.tuple #[.slice aq an am, .int .i64 ((N : Int) + 1), .nilIface]) ∧ Lg.AOwn w' w.heap.size (.slice aq an am) l' ∧ l'.map Prod.fst = acts ++ [(true, 0, [])] ∧ Below w.heap.size w w' := by
  obtain ⟨j0, ji, jz0, jz1, jz2⟩ := info_parts Lg.info_act
  have hb1 := below_alloc w (.cells #[.int .i64 count, .slice p data.length c, .slice q ws.length m] 35)
  have g1 := heap_alloc_new w (.cells #[.int .i64 count, .slice p data.length c, .slice q ws.length m] 35)
  have hop := HOP _ hb1
  have HOPN : Hid _ := hop
  have HD : Hid (DiskIn w (.agg #[.int .i64 count, .slice p data.length c, .slice q ws.length m]) count data ws) := hd
  have HI : Hid (Lg.Inf count data ws 0 L A X la t) := hI
  have HQ : Hid (Tr.CsIn w q2 l) := hq
  have HWR : Hid (∀ W, Below w.heap.size w W → Calls Tryz.prog 13 #[.slice q2 n2 c2, .int .i64 ((N : Int) + 1)] W fun e w' => Tr.WrP W (0, b) e w') := fun W hb => Tr.write_any q2 n2 c2 l ((N : Int) + 1) W (hq.below hb) hn0 hnc (by omega) hs (0, b) hr
  have HA : Hid (Lg.addA 0 A X la t (strOf b) = (acts, 0) ∧ acts.length ≤ 64) := ⟨hA, ha64⟩
  have HB1 : Hid (Below w.heap.size w (w.alloc (.cells #[.int .i64 count, .slice p data.length c, .slice q ws.length m] 35))) := hb1
  have HG1 : Hid ((w.alloc (.cells #[.int .i64 count, .slice p data.length c, .slice q ws.length m] 35)).heap[w.heap.size]? = some (.cells #[.int .i64 count, .slice p data.length c, .slice q ws.length m] 35 (0, 0))) := g1
  have hNI : (N : Int) ≤ 63 := by omega
  have hN0 : (0 : Int) ≤ (N : Int) := by omega
  clear hd HOP hI hq hn0 hnc hn64 hs hr hA ha64 hb1 g1 hop hN
  go_enter Tryz.func43, Tryz.ntmps43
  go_wp2_with fail
  refine Calls.mono HOPN.out ?_
  rintro e w1 ⟨⟨fq, fn, fc, eq, ec, rfl, _⟩, hbo⟩
  obtain ⟨ke, hke⟩ : ∃ ke, E.length = ke := ⟨_, rfl⟩
  rw [hke]
  have hbT := below_alloc w1 (.cells #[.int .i64 count, .slice p data.length c, .slice q ws.length m, .slice none 0 0, .int .i64 (N : Int), .slice fq fn fc, .slice eq ke ec, .int .i64 (N : Int)] 60)
  have HB2 : Hid (Below w.heap.size w (w1.alloc (.cells #[.int .i64 count, .slice p data.length c, .slice q ws.length m, .slice none 0 0, .int .i64 (N : Int), .slice fq fn fc, .slice eq ke ec, .int .i64 (N : Int)] 60))) := below_bt (below_bt HB1.out hbo) hbT
  have HG2 : Hid ((w1.alloc (.cells #[.int .i64 count, .slice p data.length c, .slice q ws.length m, .slice none 0 0, .int .i64 (N : Int), .slice fq fn fc, .slice eq ke ec, .int .i64 (N : Int)] 60)).heap[w.heap.size]? = some (.cells #[.int .i64 count, .slice p data.length c, .slice q ws.length m] 35 (0, 0)) ∧ (w1.alloc (.cells #[.int .i64 count, .slice p data.length c, .slice q ws.length m, .slice none 0 0, .int .i64 (N : Int), .slice fq fn fc, .slice eq ke ec, .int .i64 (N : Int)] 60)).heap[w1.heap.size]? = some (.cells #[.int .i64 count, .slice p data.length c, .slice q ws.length m, .slice none 0 0, .int .i64 (N : Int), .slice fq fn fc, .slice eq ke ec, .int .i64 (N : Int)] 60 (0, 0))) := ⟨((below_bt hbo hbT).block _ (lt_heap HG1.out)).trans HG1.out, heap_alloc_new w1 _⟩
  have hwr := HWR.out _ HB2.out
  have HWRN : Hid _ := hwr
  clear hke hbT hbo hwr HOPN
  go_wp2_with fail
  refine Calls.mono HWRN.out ?_
  rintro e w2 ⟨ev, rfl, hev, hb2⟩
  obtain rfl : ev = .nilIface := by
    rcases hev with ⟨_, h⟩ | ⟨h, _⟩
    · exact h
    · exact absurd rfl h
  have HB3 : Hid (Below w.heap.size w w2) := below_bt HB2.out hb2
  have HG3 : Hid (w2.heap[w.heap.size]? = some (.cells #[.int .i64 count, .slice p data.length c, .slice q ws.length m] 35 (0, 0)) ∧ w2.heap[w1.heap.size]? = some (.cells #[.int .i64 count, .slice p data.length c, .slice q ws.length m, .slice none 0 0, .int .i64 (N : Int), .slice fq fn fc, .slice eq ke ec, .int .i64 (N : Int)] 60 (0, 0))) := ⟨(hb2.block _ (lt_heap HG2.out.1)).trans HG2.out.1, (hb2.block _ (lt_heap HG2.out.2)).trans HG2.out.2⟩
  have t0 := Lib.cell_of_heap HG3.out.2 0
  have t1 := Lib.cell_of_heap HG3.out.2 1
  have t2 := Lib.cell_of_heap HG3.out.2 2
  have t3 := Lib.cell_of_heap HG3.out.2 3
  have t4 := Lib.cell_of_heap HG3.out.2 4
  have t5 := Lib.cell_of_heap HG3.out.2 5
  have t6 := Lib.cell_of_heap HG3.out.2 6
  have t7 := Lib.cell_of_heap HG3.out.2 7
  clear hev hb2 HWRN
  go_wp2_with fail
  refine (checkSeq_ok count (N : Int) (N : Int) keep _ p q none fq eq data.length ws.length 0 fn ke c m 0 fc ec w2 hk0 hk1).mono ?_
  rintro e w3 ⟨rfl, hb3⟩
  have HB4 : Hid (Below w.heap.size w w3) := below_bt HB3.out hb3
  have HG4 : Hid (w3.heap[w.heap.size]? = some (.cells #[.int .i64 count, .slice p data.length c, .slice q ws.length m] 35 (0, 0))) := (hb3.block _ (lt_heap HG3.out.1)).trans HG3.out.1
  obtain ⟨a0, a1, a2⟩ := three_cells HG4.out
  clear hb3 t0 t1 t2 t3 t4 t5 t6 t7
  go_wp2_with fail
  refine (added_ok count data ws p q c m (strOf b) w3 (HD.out.below HB4.out) L A X la t HI.out acts HA.out.1).mono ?_
  rintro e w4 ⟨aq, am, l4, rfl, hao, hal, hb4⟩
  obtain ⟨kl, hkl⟩ : ∃ kl, l4.length = kl := ⟨_, rfl⟩
  have HL4 : Hid (l4.map Prod.fst = acts ∧ l4.length = kl ∧ kl ≤ 64) := ⟨hal, hkl, by have := congrArg List.length hal; rw [List.length_map] at this; have := HA.out.2; omega⟩
  have HO4 : Hid (Lg.AOwn w4 w3.heap.size (.slice aq l4.length am) l4) := hao
  have HB5 : Hid (Below w.heap.size w w4) := below_bt HB4.out hb4
  rw [hkl]
  clear hao hal hkl hb4 a0 a1 a2
  go_wp2_with fail
  refine (Tr.Is_nil 30 w4).mono ?_
  rintro e w5 ⟨rfl, hb5⟩
  have hbA := below_alloc w5 (.cells #[.bool true, .int .i64 0, .slice none 0 0] 90)
  have HO5 : Hid (Lg.AOwn (w5.alloc (.cells #[.bool true, .int .i64 0, .slice none 0 0] 90)) w.heap.size (.slice aq kl am) l4) := by
    have h : Lg.AOwn w4 w.heap.size (.slice aq l4.length am) l4 := ⟨Lg.own_mono HO4.out.row HB4.out.size, fun y hy => (HO4.out.data y hy).mono HB4.out.size⟩
    have h2 := (h.below hb5).below hbA
    rw [HL4.out.2.1] at h2
    exact h2
  have HB6 : Hid (Below w.heap.size w (w5.alloc (.cells #[.bool true, .int .i64 0, .slice none 0 0] 90))) := below_bt (below_bt HB5.out hb5) hbA
  have HCL : Hid (∀ j u, [Value.bool true, .int .i64 0, .slice none 0 0][j]? = some u → (w5.alloc (.cells #[.bool true, .int .i64 0, .slice none 0 0] 90)).cell? ((⟨w5.heap.size, 0, none⟩ : Addr).add j) = some u) := Lg.act_cells w5 _ _ _ _
  have HD6 : Hid (Lg.DataIs (w5.alloc (.cells #[.bool true, .int .i64 0, .slice none 0 0] 90)) w.heap.size (.slice none 0 0) []) := .inl ⟨rfl, rfl⟩
  have HRW : Hid ((w5.alloc (.cells #[.bool true, .int .i64 0, .slice none 0 0] 90)).ownsRow w.heap.size 90 3 (.slice aq kl am) l4.length (Lg.cellsA l4)) := HO5.out.row
  clear hb5 hbA
  go_wp2_with (at_builtin; go_loud (refine wpList_append_own _ rfl _ _ 51 rfl w.heap.size 90 j0 _ 3 40 Tryz.underlying51 ji jz0 jz1 jz2 rfl (by omega) _ _ _ rfl HRW.out ⟨w5.heap.size, 0, none⟩ 1 1 [.bool true, .int .i64 0, .slice none 0 0] rfl rfl HCL.out (Lg.act_one _ _ _ _ _) (by have := HL4.out; unfold maxLen; omega) (by have := HL4.out; omega) HB6.out.size ?_); intro va ua hoa hga _; have h7 := Lg.AOwn.push HO5.out HD6.out hoa hga; obtain ⟨q7, m7, e7, _⟩ := Tr.own_form h7.row; obtain ⟨k7, hk7⟩ : ∃ k7, (l4 ++ [((true, (0 : Int), ([] : List Nat)), Value.slice none 0 0)]).length = k7 := ⟨_, rfl⟩; rw [hk7] at e7; subst e7; have H7 : Hid _ := And.intro h7 (HB6.out.grown hga HB6.out.size (fun k hk => (World.ownsRow.lt HRW.out k hk).1)); clear hoa hga h7 hk7)
  go_ret3
  exact ⟨q7, k7, m7, _, rfl, H7.out.1, by rw [List.map_append, HL4.out.1]; rfl, H7.out.2⟩
set_option maxRecDepth 8000 in
set_option maxHeartbeats 4000000 in
theorem Put_ok (count : Int) (data : List Nat) (ws : Puts) (p q : Option Addr) (c m : Nat) (w : World) (hd : DiskIn w (.agg #[.int .i64 count, .slice p data.length c, .slice q ws.length m]) count data ws) (N : Nat) (E : List Mg.EntV) (hN : N ≤ 63)
    (HOP : ∀ W, Below w.heap.size w W → Calls Tryz.prog 20 #[.agg #[.int .i64 count, .slice p data.length c, .slice q ws.length m]] W fun e w' => OpenP W count data.length ws.length p c q m N E e w')
    (L : List ByteArray) (A X la : Nat) (t : List Nat) (hI : Lg.Inf count data ws 0 L A X la t)
    (q2 : Option Addr) (n2 c2 : Nat) (l : List Tr.CV) (hq : Tr.CsIn w q2 l) (hn0 : n2 = l.length) (hnc : n2 ≤ c2) (hn64 : n2 ≤ 64) (hs : ∀ x ∈ l, (x.key.size : Int) ≤ 9223372036854775807 ∧ (x.val.size : Int) ≤ 9223372036854775807) (b : List Nat) (hr : Tr.writeE l ((N : Int) + 1) = (0, b))
    (acts : Acts) (hA : Lg.addA 0 A X la t (strOf b) = (acts, 0)) (ha64 : acts.length ≤ 64) (keep : Int) (hk0 : 0 ≤ keep) (hk1 : keep ≤ (N : Int)) :
    Calls Tryz.prog 19 #[.agg #[.int .i64 count, .slice p data.length c, .slice q ws.length m], .slice q2 n2 c2, .int .i64 keep] w fun e w' => ∃ aq an am l', e = .returned (.tuple #[.slice aq an am, .int .i64 ((N : Int) + 1), .int .i64 0]) ∧ Lg.AOwn w' w.heap.size (.slice aq an am) l' ∧ l'.map Prod.fst = acts ++ [(true, 0, [])] ∧ Below w.heap.size w w' := by
  have hb1 := below_alloc w (.cells #[.int .i64 count, .slice p data.length c, .slice q ws.length m] 35)
  have hp := put_ok count data ws p q c m _ (hd.below hb1) N E hN (fun W hb => HOP W (below_bt hb1 hb)) L A X la t hI q2 n2 c2 l (hq.below hb1) hn0 hnc hn64 hs b hr acts hA ha64 keep hk0 hk1
  have HP : Hid _ := hp
  have HB1 : Hid (Below w.heap.size w (w.alloc (.cells #[.int .i64 count, .slice p data.length c, .slice q ws.length m] 35))) := hb1
  have hnu := fun W => Tr.numberOf_any .nilIface 0 (.inl ⟨rfl, rfl⟩) (by omega) W
  clear hd HOP hI hq hn0 hnc hn64 hs hr hA ha64 hb1 hp hN hk0 hk1
  go_enter Tryz.func19, Tryz.ntmps19
  go_wp2_with fail
  refine Calls.mono HP.out ?_
  rintro e w1 ⟨aq, an, am, l1, rfl, hao, hal, hb2⟩
  have HO1 : Hid (Lg.AOwn w1 w.heap.size (.slice aq an am) l1) := ⟨Lg.own_mono hao.row HB1.out.size, fun y hy => (hao.data y hy).mono HB1.out.size⟩
  have HL1 : Hid (l1.map Prod.fst = acts ++ [(true, 0, [])]) := hal
  have HB2 : Hid (Below w.heap.size w w1) := below_bt HB1.out hb2
  clear hao hal hb2 HP
  go_wp2_with fail
  refine (hnu w1).mono ?_
  rintro e w2 ⟨rfl, hb3⟩
  have HO2 : Hid (Lg.AOwn w2 w.heap.size (.slice aq an am) l1) := HO1.out.below hb3
  have HB3 : Hid (Below w.heap.size w w2) := below_bt HB2.out hb3
  clear hb3 hnu
  go_wp2
  go_ret3
  exact ⟨aq, an, am, l1, rfl, HO2.out, HL1.out, HB3.out⟩
set_option maxRecDepth 8000 in
set_option maxHeartbeats 4000000 in
theorem Get_ok (count : Int) (n1 n2 : Nat) (p q : Option Addr) (c m : Nat) (w : World) (N : Nat) (E : List Mg.EntV)
    (HOP : ∀ W, Below w.heap.size w W → Calls Tryz.prog 20 #[.agg #[.int .i64 count, .slice p n1 c, .slice q n2 m]] W fun e w' => OpenP W count n1 n2 p c q m N E e w')
    (key : ByteArray) (hk1 : 1 ≤ key.size) (hk2 : key.size ≤ 256) (seq : Int) (h0 : 0 ≤ seq) (h1 : seq ≤ (N : Int)) (k : Nat) (hE : E.length ≤ 5000) (hk : k < E.length) (hlo : ∀ t, t < k → Mg.lessE (E.getD t Mg.zeroE) ⟨key, ByteArray.empty, seq, false⟩ = true) (hhi : ∀ t, k ≤ t → t < E.length → Mg.lessE (E.getD t Mg.zeroE) ⟨key, ByteArray.empty, seq, false⟩ = false) (xv : ByteArray) (xs : Int) (hx : E.getD k Mg.zeroE = ⟨key, xv, xs, false⟩) :
    Calls Tryz.prog 12 #[.agg #[.int .i64 count, .slice p n1 c, .slice q n2 m], .string key, .int .i64 seq] w fun e w' => e = .returned (.tuple #[.string xv, .bool true, .int .i64 0]) ∧ Below w.heap.size w w' := by
  have hb1 := below_alloc w (.cells #[.int .i64 count, .slice p n1 c, .slice q n2 m] 35)
  have hop := HOP _ hb1
  have HOPN : Hid _ := hop
  have HB1 : Hid (Below w.heap.size w (w.alloc (.cells #[.int .i64 count, .slice p n1 c, .slice q n2 m] 35))) := hb1
  have hik := fun W => Tr.isKey_any key (by omega) W
  rw [show decide (1 ≤ key.size ∧ key.size ≤ 256) = true by simp; omega] at hik
  have HN : Hid (∀ (C R S : Int) (p1 p2 p3 p4 q' : Option Addr) (m1 m2 m3 m4 d1 d2 d3 d4 c' : Nat) (W : World), Mg.EntsL W q' E.length E → Calls Tryz.prog 23 #[.agg #[.int .i64 C, .slice p1 m1 d1, .slice p2 m2 d2, .slice p3 m3 d3, .int .i64 R, .slice p4 m4 d4, .slice q' E.length c', .int .i64 S], .string key, .int .i64 seq] W fun e w' => e = .returned (.tuple #[Mg.entV ⟨key, xv, xs, false⟩, .bool true]) ∧ Below W.heap.size W w') := fun C R S p1 p2 p3 p4 q' m1 m2 m3 m4 d1 d2 d3 d4 c' W he => newest_any C R S seq p1 p2 p3 p4 q' m1 m2 m3 m4 E.length d1 d2 d3 d4 c' E key k W he hE hk hlo hhi _ hx rfl
  clear HOP hb1 hop hlo hhi hx hk hE hk1 hk2
  go_enter Tryz.func12, Tryz.ntmps12
  go_wp2_with fail
  refine Calls.mono HOPN.out ?_
  rintro e w1 ⟨⟨fq, fn, fc, eq, ec, rfl, hent⟩, hbo⟩
  obtain ⟨ke, hke⟩ : ∃ ke, E.length = ke := ⟨_, rfl⟩
  rw [hke]
  rw [hke] at hent HN
  have hbT := below_alloc w1 (.cells #[.int .i64 count, .slice p n1 c, .slice q n2 m, .slice none 0 0, .int .i64 (N : Int), .slice fq fn fc, .slice eq ke ec, .int .i64 (N : Int)] 60)
  have HB2 : Hid (Below w.heap.size w (w1.alloc (.cells #[.int .i64 count, .slice p n1 c, .slice q n2 m, .slice none 0 0, .int .i64 (N : Int), .slice fq fn fc, .slice eq ke ec, .int .i64 (N : Int)] 60))) := below_bt (below_bt HB1.out hbo) hbT
  have HG2 : Hid ((w1.alloc (.cells #[.int .i64 count, .slice p n1 c, .slice q n2 m, .slice none 0 0, .int .i64 (N : Int), .slice fq fn fc, .slice eq ke ec, .int .i64 (N : Int)] 60)).heap[w1.heap.size]? = some (.cells #[.int .i64 count, .slice p n1 c, .slice q n2 m, .slice none 0 0, .int .i64 (N : Int), .slice fq fn fc, .slice eq ke ec, .int .i64 (N : Int)] 60 (0, 0))) := heap_alloc_new w1 _
  have HEN : Hid (Mg.EntsL (w1.alloc (.cells #[.int .i64 count, .slice p n1 c, .slice q n2 m, .slice none 0 0, .int .i64 (N : Int), .slice fq fn fc, .slice eq ke ec, .int .i64 (N : Int)] 60)) eq ke E) := hent.below hbT
  clear hke hbT hbo hent HOPN
  go_wp2_with fail
  refine (hik _).mono ?_
  rintro e w2 ⟨rfl, rfl⟩
  have t0 := Lib.cell_of_heap HG2.out 0
  have t1 := Lib.cell_of_heap HG2.out 1
  have t2 := Lib.cell_of_heap HG2.out 2
  have t3 := Lib.cell_of_heap HG2.out 3
  have t4 := Lib.cell_of_heap HG2.out 4
  have t5 := Lib.cell_of_heap HG2.out 5
  have t6 := Lib.cell_of_heap HG2.out 6
  have t7 := Lib.cell_of_heap HG2.out 7
  clear hik
  go_wp2_with fail
  refine (checkSeq_ok count (N : Int) (N : Int) seq _ p q none fq eq n1 n2 0 fn ke c m 0 fc ec _ h0 h1).mono ?_
  rintro e w3 ⟨rfl, hb3⟩
  have HB3 : Hid (Below w.heap.size w w3) := below_bt HB2.out hb3
  have HG3 : Hid (w3.heap[w1.heap.size]? = some (.cells #[.int .i64 count, .slice p n1 c, .slice q n2 m, .slice none 0 0, .int .i64 (N : Int), .slice fq fn fc, .slice eq ke ec, .int .i64 (N : Int)] 60 (0, 0))) := (hb3.block _ (lt_heap HG2.out)).trans HG2.out
  have HE3 : Hid (Mg.EntsL w3 eq ke E) := HEN.out.below hb3
  clear t0 t1 t2 t3 t4 t5 t6 t7 hb3
  have t0 := Lib.cell_of_heap HG3.out 0
  have t1 := Lib.cell_of_heap HG3.out 1
  have t2 := Lib.cell_of_heap HG3.out 2
  have t3 := Lib.cell_of_heap HG3.out 3
  have t4 := Lib.cell_of_heap HG3.out 4
  have t5 := Lib.cell_of_heap HG3.out 5
  have t6 := Lib.cell_of_heap HG3.out 6
  have t7 := Lib.cell_of_heap HG3.out 7
  go_wp2_with fail
  refine (HN.out count (N : Int) (N : Int) p q none fq eq n1 n2 0 fn c m 0 fc ec w3 HE3.out).mono ?_
  rintro e w4 ⟨rfl, hb4⟩
  rw [Mg.entV_def]
  have HB4 : Hid (Below w.heap.size w w4) := below_bt HB3.out hb4
  have HB5 : Hid (Below w.heap.size w (w4.alloc (.cells #[.string key, .string xv, .int .i64 xs, .bool false] 66))) := below_bt HB4.out (below_alloc _ _)
  clear t0 t1 t2 t3 t4 t5 t6 t7 hb4
  have e1 : (w4.alloc (.cells #[.string key, .string xv, .int .i64 xs, .bool false] 66)).cell? ⟨w4.heap.size, 1, none⟩ = some (.string xv) := Lib.cell_of_heap (heap_alloc_new w4 _) 1
  have e3 : (w4.alloc (.cells #[.string key, .string xv, .int .i64 xs, .bool false] 66)).cell? ⟨w4.heap.size, 3, none⟩ = some (.bool false) := Lib.cell_of_heap (heap_alloc_new w4 _) 3
  go_wp2
  go_quiet (fail)
  go_wp2
  go_ret3
  exact ⟨rfl, Mg.below_drewN HB5.out _⟩
structure FmP (w : World) (n : Nat) (e : Ending) (w' : World) : Prop where
  ex : ∃ v D, e = .returned (.tuple #[v, .int .i64 0]) ∧ Dk (n : Int) D [] 0 0 (List.replicate 8064 0) ∧ DiskIn w' v (n : Int) D []
  bel : Below w.heap.size w w'
set_option maxRecDepth 8000 in
set_option maxHeartbeats 4000000 in
theorem FormatT_ok (n : Nat) (w : World) (hL : Laid w) (h1 : 96 ≤ n) (h2 : n ≤ 4096) :
    Calls Tryz.prog 9 #[.int .i64 (n : Int)] w fun e w' => FmP w n e w' := by
  have hb0 := below_alloc w (.cells #[.int .i64 0, .slice none 0 0, .slice none 0 0] 35)
  have g0 := heap_alloc_new w (.cells #[.int .i64 0, .slice none 0 0, .slice none 0 0] 35)
  have hft := Format_ok n (w.alloc (.cells #[.int .i64 0, .slice none 0 0, .slice none 0 0] 35)) (hL.below hb0) h1 h2
  have HFT : Hid _ := hft
  have HB0 : Hid (Below w.heap.size w (w.alloc (.cells #[.int .i64 0, .slice none 0 0, .slice none 0 0] 35))) := hb0
  have HG0 : Hid ((w.alloc (.cells #[.int .i64 0, .slice none 0 0, .slice none 0 0] 35)).heap[w.heap.size]? = some (.cells #[.int .i64 0, .slice none 0 0, .slice none 0 0] 35 (0, 0))) := g0
  have HN : Hid (96 ≤ n ∧ n ≤ 4096) := ⟨h1, h2⟩
  clear hL hb0 g0 hft h1 h2
  go_enter Tryz.func9, Tryz.ntmps9
  go_wp2_with fail
  refine Calls.mono HFT.out ?_
  rintro e w1 ⟨v, D, rfl, hfm, hdf, hb1⟩
  obtain ⟨p, c, q, m, rfl, _⟩ := hdf.self.parts
  simp only [List.length_nil]
  have hbA := below_alloc w1 (.cells #[.int .i64 (n : Int), .slice p D.length c, .slice q 0 m] 35)
  have HB1 : Hid (Below w.heap.size w (w1.alloc (.cells #[.int .i64 (n : Int), .slice p D.length c, .slice q 0 m] 35))) := below_bt (below_bt HB0.out hb1) hbA
  have HG1 : Hid ((w1.alloc (.cells #[.int .i64 (n : Int), .slice p D.length c, .slice q 0 m] 35)).heap[w.heap.size]? = some (.cells #[.int .i64 0, .slice none 0 0, .slice none 0 0] 35 (0, 0)) ∧ (w1.alloc (.cells #[.int .i64 (n : Int), .slice p D.length c, .slice q 0 m] 35)).heap[w1.heap.size]? = some (.cells #[.int .i64 (n : Int), .slice p D.length c, .slice q 0 m] 35 (0, 0))) := ⟨((below_bt hb1 hbA).block _ (lt_heap HG0.out)).trans HG0.out, heap_alloc_new w1 _⟩
  have HD1 : Hid (DiskIn (w1.alloc (.cells #[.int .i64 (n : Int), .slice p D.length c, .slice q 0 m] 35)) (.agg #[.int .i64 (n : Int), .slice p D.length c, .slice q 0 m]) (n : Int) D []) := hdf.below hbA
  have HF : Hid (FmtIs n D) := hfm
  have hl : Lg.HasLog (n : Int) D [] := ⟨fmt_okay HN.out.1 HN.out.2 hfm, by have := HN.out; omega⟩
  have HL : Hid (Lg.HasLog (n : Int) D []) := hl
  have hcl := Lg.Clear_ok _ (n : Int) D [] _ HD1.out hl 1 (by rw [fmt_log HN.out.1 HN.out.2 hfm]; exact mostE_zero) (by decide)
  have HCL : Hid _ := hcl
  clear hfm hdf hb1 hbA hl hcl HFT
  go_wp2_with fail
  refine Calls.mono HCL.out ?_
  rintro e w2 ⟨v2, la, rfl, hao, hal, hb2⟩
  obtain ⟨aq, am, rfl, _, _⟩ := hao.form
  obtain ⟨kl, hkl⟩ : ∃ kl, la.length = kl := ⟨_, rfl⟩
  have HB2 : Hid (Below w.heap.size w w2) := below_bt HB1.out hb2
  have HG2 : Hid (w2.heap[w.heap.size]? = some (.cells #[.int .i64 0, .slice none 0 0, .slice none 0 0] 35 (0, 0)) ∧ w2.heap[w1.heap.size]? = some (.cells #[.int .i64 (n : Int), .slice p D.length c, .slice q 0 m] 35 (0, 0))) := ⟨(hb2.block _ (lt_heap HG1.out.1)).trans HG1.out.1, (hb2.block _ (lt_heap HG1.out.2)).trans HG1.out.2⟩
  obtain ⟨a0, a1, a2⟩ := three_cells HG2.out.2
  have hdo := Lg.do_clear_any _ (n : Int) D [] w2 aq la.length am 1 la (HD1.out.below hb2) ⟨Lg.own_mono hao.row (Nat.zero_le _), fun y hy => (hao.data y hy).mono (Nat.zero_le _)⟩ hal HL.out (by simp)
  obtain ⟨D1, hD1⟩ : ∃ D1, settleN D ([] ++ [(16, Lg.headL 1)]) = D1 := ⟨_, rfl⟩
  rw [hD1, hkl] at hdo
  have HDO : Hid _ := hdo
  have HDK : Hid (Dk (n : Int) D1 [] 0 0 (List.replicate 8064 0)) := by rw [← hD1]; exact dk_first HN.out.1 HN.out.2 HF.out
  rw [hkl]
  clear hao hal hb2 hkl hdo hD1 HCL
  go_wp2_with fail
  refine Calls.mono HDO.out ?_
  rintro e w3 ⟨v3, rfl, hdf3, hb3⟩
  obtain ⟨p3, c3, q3, m3, rfl, _⟩ := hdf3.self.parts
  obtain ⟨k3, hk3⟩ : ∃ k3, D1.length = k3 := ⟨_, rfl⟩
  have HDF : Hid (DiskF w2.heap.size w3 (.agg #[.int .i64 (n : Int), .slice p3 k3 c3, .slice q3 0 m3]) (n : Int) D1 []) := by rw [← hk3]; exact hdf3
  simp only [List.length_nil]
  rw [hk3]
  have HB3 : Hid (Below w.heap.size w w3) := below_bt HB2.out hb3
  have HG3 : Hid (w3.heap[w.heap.size]? = some (.cells #[.int .i64 0, .slice none 0 0, .slice none 0 0] 35 (0, 0))) := (hb3.block _ (lt_heap HG2.out.1)).trans HG2.out.1
  obtain ⟨r0, r1, r2⟩ := three_cells HG3.out
  have f0 := Lib.frozen_of_heap HG3.out 0
  have f1 := Lib.frozen_of_heap HG3.out 1
  have f2 := Lib.frozen_of_heap HG3.out 2
  have HLT : Hid (w.heap.size < w2.heap.size) := lt_heap HG2.out.1
  clear hdf3 hb3 a0 a1 a2 hk3 HDO
  go_wp2
  (try simp only [Exit.inBlock, Exit.then])
  refine bodyPost_ret (v := .tuple #[.agg #[.int .i64 (n : Int), .slice p3 k3 c3, .slice q3 0 m3], .int .i64 0]) ?_ rfl ?_
  · rw [results_cell_tmp rfl]
    go_simp
  · exact ⟨⟨_, D1, rfl, HDK.out, HDF.out.set3 HLT.out _ _ _⟩, (((HB3.out.setCell (Nat.le_refl _) _).setCell (Nat.le_refl _) _).setCell (Nat.le_refl _) _)⟩
theorem Dk.inf {n : Int} {D : List Nat} {rs : List (List Nat)} {A la : Nat} {t : List Nat} (h : Dk n D rs A la t) : Lg.Inf n D [] 0 (rs.map strOf) A 1 la t := by
  refine ⟨?_, fun h => absurd rfl h, fun _ => ⟨h.has, h.epoch, by decide, rs, h.recs, rfl⟩⟩
  have hb := h.has.big
  unfold Lg.errL
  rw [if_pos h.has.ok, if_neg (by omega), if_neg (by rw [h.epoch]; decide)]
structure Tells (rs : List (List Nat)) (ls : List (List Tr.CV)) (E : List Mg.EntV) : Prop where
  many : rs.length ≤ 63
  each : ∀ i, i < rs.length → ((rs.map strOf).getD i ByteArray.empty).size ≤ 100000 ∧ Tr.readE Tr.gP (numsOf ((rs.map strOf).getD i ByteArray.empty)) = some (ls.getD i [], i + 1) ∧ (ls.getD i []).length ≤ 64
  all : Mg.allE (rowsK ls rs.length) = (E, 0)
  rise : Mg.RiseE E
  few : E.length ≤ 12
theorem open_dk {n : Int} {D : List Nat} {rs : List (List Nat)} {A la : Nat} {t : List Nat} (h : Dk n D rs A la t) {ls : List (List Tr.CV)} {E : List Mg.EntV} (ht : Tells rs ls E) {k : Nat} (hk : D.length = k) (p q : Option Addr) (c m : Nat) (W : World) (hL : Laid W) (hM : Mg.Laid W) (hd : DiskIn W (.agg #[.int .i64 n, .slice p k c, .slice q 0 m]) n D []) :
    Calls Tryz.prog 20 #[.agg #[.int .i64 n, .slice p k c, .slice q 0 m]] W fun e w' => OpenP W n k 0 p c q m rs.length E e w' := by
  subst hk
  exact open_any n D [] p q c m W hL hM hd h.has.ok (some (emptyD, 0)) h.mount rfl h.has 1 h.epoch (by decide) (by decide) rs A la t h.recs rs.length rfl ht.many ls E ht.each ht.all ht.rise ht.few
set_option maxRecDepth 8000 in
set_option maxHeartbeats 4000000 in
theorem done_ok {n : Int} {D : List Nat} {rs : List (List Nat)} {A la : Nat} {t : List Nat} (h : Dk n D rs A la t) {ls : List (List Tr.CV)} {E : List Mg.EntV} (ht : Tells rs ls E) {k : Nat} (hk : D.length = k) (p q : Option Addr) (c m : Nat) (w : World) (hL : Laid w) (hM : Mg.Laid w) (hd : DiskIn w (.agg #[.int .i64 n, .slice p k c, .slice q 0 m]) n D [])
    (q2 : Option Addr) (n2 c2 : Nat) (l : List Tr.CV) (hq : Tr.CsIn w q2 l) (hn0 : n2 = l.length) (hnc : n2 ≤ c2) (hn64 : n2 ≤ 64) (hs : ∀ x ∈ l, (x.key.size : Int) ≤ 9223372036854775807 ∧ (x.val.size : Int) ≤ 9223372036854775807) (b : List Nat) (hr : Tr.writeE l ((rs.length : Int) + 1) = (0, b)) (hbb : ∀ x ∈ b, x < 256) (hb4 : b.length ≤ 4096)
    (S : Nat) (hS : Lg.mostS 1 t (63 - A) + 1 = S) (hS2 : S < 4294967296) (hfit : A + Lg.needsN b.length ≤ 63) :
    Calls Tryz.prog 10 #[.agg #[.int .i64 n, .slice p k c, .slice q 0 m], .int .i64 0, .slice q2 n2 c2] w fun e w' => (∃ v D', e = .returned v ∧ Dk n D' (rs ++ [b]) (A + Lg.needsN b.length) S (t.drop (Lg.needsN b.length * 128)) ∧ DiskF w.heap.size w' v n D' []) ∧ Below w.heap.size w w' := by
  have hsz : (strOf b).size = b.length := by rw [← numsOf_len, nums_strOf hbb]
  have hA : Lg.addA 0 A 1 la t (strOf b) = (Lg.actsK ((17 + A : Nat) : Int) (Lg.frameN 1 S la b) (Lg.needsN b.length), 0) := by
    unfold Lg.addA
    rw [hsz, nums_strOf hbb, hS, if_neg (by simp), if_neg (by omega), if_neg (by omega), if_pos hS2]
  obtain ⟨hdo, hdk⟩ := dk_more (r := b) h S hS hS2 hb4 hbb hfit
  obtain ⟨acts, hacts⟩ : ∃ acts, Lg.actsK ((17 + A : Nat) : Int) (Lg.frameN 1 S la b) (Lg.needsN b.length) = acts := ⟨_, rfl⟩
  have ha64 : acts.length ≤ 64 := by rw [← hacts]; simp [Lg.actsK]; omega
  obtain ⟨D', hD'⟩ : ∃ D', settleN D (Lg.putsK ((17 + A : Nat) : Int) (Lg.frameN 1 S la b) (Lg.needsN b.length)) = D' := ⟨_, rfl⟩
  rw [hacts] at hA hdo
  rw [hD'] at hdo hdk
  have hb1 := below_alloc w (.cells #[.int .i64 n, .slice p k c, .slice q 0 m] 35)
  have hb2 := below_alloc (w.alloc (.cells #[.int .i64 n, .slice p k c, .slice q 0 m] 35)) (.cells #[.int .i64 0, .slice none 0 0, .slice none 0 0] 35)
  obtain ⟨W, hW⟩ : ∃ W, ((w.alloc (.cells #[.int .i64 n, .slice p k c, .slice q 0 m] 35)).alloc (.cells #[.int .i64 0, .slice none 0 0, .slice none 0 0] 35)) = W := ⟨_, rfl⟩
  have hbW : Below w.heap.size w W := by rw [← hW]; exact below_bt hb1 hb2
  have g0 : W.heap[w.heap.size]? = some (.cells #[.int .i64 n, .slice p k c, .slice q 0 m] 35 (0, 0)) := by
    rw [← hW]; exact (hb2.block _ (by simp)).trans (heap_alloc_new w _)
  have g1 : W.heap[w.heap.size + 1]? = some (.cells #[.int .i64 0, .slice none 0 0, .slice none 0 0] 35 (0, 0)) := by
    rw [← hW]; have := heap_alloc_new (w.alloc (.cells #[.int .i64 n, .slice p k c, .slice q 0 m] 35)) (.cells #[.int .i64 0, .slice none 0 0, .slice none 0 0] 35); simpa using this
  have hp := fun (hk : D.length = k) => Put_ok n D [] p q c m W (hk ▸ hd.below hbW) rs.length E ht.many (fun W' hb => by
    have := open_dk h ht rfl p q c m W' (hL.below (below_bt hbW hb)) (hM.below (below_bt hbW hb) hM.size) (hk ▸ hd.below (below_bt hbW hb))
    exact this) _ A 1 la t h.inf q2 n2 c2 l (hq.below hbW) hn0 hnc hn64 hs b hr acts hA ha64 0 (by omega) (by omega)
  have hp2 := hp hk
  rw [hk, List.length_nil] at hp2
  have HP : Hid _ := hp2
  have HW : Hid _ := hW
  have HBW : Hid (Below w.heap.size w W) := hbW
  have HG : Hid (W.heap[w.heap.size]? = some (.cells #[.int .i64 n, .slice p k c, .slice q 0 m] 35 (0, 0)) ∧ W.heap[w.heap.size + 1]? = some (.cells #[.int .i64 0, .slice none 0 0, .slice none 0 0] 35 (0, 0))) := ⟨g0, g1⟩
  have HD : Hid (DiskIn w (.agg #[.int .i64 n, .slice p k c, .slice q 0 m]) n D []) := hd
  have HDO : Hid (doAny n D [] (acts ++ [(true, 0, [])]) = .ok (D', []) ∧ acts.length ≤ 64) := ⟨hdo, ha64⟩
  have HDK : Hid (Dk n D' (rs ++ [b]) (A + Lg.needsN b.length) S (t.drop (Lg.needsN b.length * 128))) := hdk
  clear h ht hk hL hM hd hq hn0 hnc hn64 hs hr hbb hb4 hS hS2 hfit hsz hA hdo hdk hacts ha64 hD' hb1 hb2 hW hbW g0 g1 hp hp2
  go_enter Tryz.func10, Tryz.ntmps10
  go_wp2_with fail
  rw [HW.out]
  refine Calls.mono HP.out ?_
  rintro e w1 ⟨aq, an, am, l1, rfl, hao, hal, hb1⟩
  have HB1 : Hid (Below w.heap.size w w1) := below_bt HBW.out hb1
  have HG1 : Hid (w1.heap[w.heap.size]? = some (.cells #[.int .i64 n, .slice p k c, .slice q 0 m] 35 (0, 0)) ∧ w1.heap[w.heap.size + 1]? = some (.cells #[.int .i64 0, .slice none 0 0, .slice none 0 0] 35 (0, 0))) := ⟨(hb1.block _ (lt_heap HG.out.1)).trans HG.out.1, (hb1.block _ (lt_heap HG.out.2)).trans HG.out.2⟩
  obtain ⟨a0, a1, a2⟩ := three_cells HG1.out.1
  obtain ⟨hln, hai, _, _⟩ := Lg.AOwn.lies hao
  rw [hal] at hai
  have hlen : an = (acts ++ [(true, (0 : Int), ([] : List Nat))]).length := by rw [hln, ← hal, List.length_map]
  have hdd := do_all _ n D [] w1 (HD.out.below HB1.out) aq an am _ hlen hai (by have := HDO.out.2; rw [List.length_append]; simp; omega) _ HDO.out.1
  have HDD : Hid _ := hdd
  clear hao hal hb1 hln hai hlen hdd HP HW
  go_wp2_with fail
  refine Calls.mono HDD.out ?_
  rintro e w2 ⟨⟨v2, rfl, hdf⟩, hb2⟩
  rw [show resE (Except.ok (D', [])) = 0 from rfl]
  have hdf' : DiskF w1.heap.size w2 v2 n D' [] := hdf
  obtain ⟨p3, c3, q3, m3, rfl, _⟩ := hdf'.self.parts
  obtain ⟨k3, hk3⟩ : ∃ k3, D'.length = k3 := ⟨_, rfl⟩
  rw [hk3] at hdf'
  simp only [List.length_nil] at hdf' ⊢
  rw [hk3]
  have hbA := below_alloc w2 (.cells #[.int .i64 n, .slice p3 k3 c3, .slice q3 0 m3] 35)
  have HDF : Hid (DiskF w1.heap.size (w2.alloc (.cells #[.int .i64 n, .slice p3 k3 c3, .slice q3 0 m3] 35)) (.agg #[.int .i64 n, .slice p3 k3 c3, .slice q3 0 m3]) n D' []) := fun w' ha => hdf' w' (fun k h1 h2 => (ha k h1 (Nat.lt_of_lt_of_le h2 hbA.size)).trans (hbA.block k h2))
  have HB2 : Hid (Below w.heap.size w (w2.alloc (.cells #[.int .i64 n, .slice p3 k3 c3, .slice q3 0 m3] 35))) := below_bt (below_bt HB1.out hb2) hbA
  have HG2 : Hid ((w2.alloc (.cells #[.int .i64 n, .slice p3 k3 c3, .slice q3 0 m3] 35)).heap[w.heap.size + 1]? = some (.cells #[.int .i64 0, .slice none 0 0, .slice none 0 0] 35 (0, 0))) := ((below_bt hb2 hbA).block _ (lt_heap HG1.out.2)).trans HG1.out.2
  have HG3 : Hid ((w2.alloc (.cells #[.int .i64 n, .slice p3 k3 c3, .slice q3 0 m3] 35)).heap[w2.heap.size]? = some (.cells #[.int .i64 n, .slice p3 k3 c3, .slice q3 0 m3] 35 (0, 0))) := heap_alloc_new w2 _
  obtain ⟨r0, r1, r2⟩ := three_cells HG2.out
  obtain ⟨b0, b1, b2⟩ := three_cells HG3.out
  have f0 := Lib.frozen_of_heap HG2.out 0
  have f1 := Lib.frozen_of_heap HG2.out 1
  have f2 := Lib.frozen_of_heap HG2.out 2
  have HLT : Hid (w.heap.size + 1 < w1.heap.size) := lt_heap HG1.out.2
  clear hdf hdf' hb2 a0 a1 a2 hk3 hbA HDD
  go_wp2
  (try simp only [Exit.inBlock, Exit.then])
  refine bodyPost_ret (v := .agg #[.int .i64 n, .slice p3 k3 c3, .slice q3 0 m3]) ?_ rfl ?_
  · rw [Lg.results_cell1 rfl]
    go_simp
  · have hle : w.heap.size ≤ w1.heap.size := HB1.out.size
    refine ⟨⟨_, D', rfl, HDK.out, fun w' ha => HDF.out w' (fun k h1 h2 => (ha k (by omega) ?_).trans ?_)⟩, (((HB2.out.setCell (Nat.le_succ _) _).setCell (Nat.le_succ _) _).setCell (Nat.le_succ _) _)⟩
    · simpa using h2
    · have hne : k ≠ w.heap.size + 1 := by have := HLT.out; omega
      rw [heap_setCell_other _ ⟨w.heap.size + 1, 2, none⟩ k _ hne, heap_setCell_other _ ⟨w.heap.size + 1, 1, none⟩ k _ hne, heap_setCell_other _ ⟨w.heap.size + 1, 0, none⟩ k _ hne]
end Go.Proofs.YtghcmllmbpoidaaGreatDoor
