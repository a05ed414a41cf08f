/-
  FilesReads, walked whole.
-/
import Derived.Test.YthifpelappedcaaGreatDoorJ13
import Derived.Deep.QuietTactic
import Derived.BigQuiet
import Derived.SizedLaws
namespace Go.Proofs.YthifpelappedcaaGreatDoor
open Go.RowKit Go.WideShapes Rm

/-- What Get answers: its number, its bytes. -/
def getN (data : List Nat) (ws : Puts) (r : Option (DirV × Int)) (n : Int) (name : ByteArray) : Int × List Nat :=
  match r with
  | none => (n, [])
  | some (x, _) => if isNameN name = true then (match findN x.files name with | some k => (0, fileD data ws (x.files.getD k zeroF)) | none => (6, [])) else (5, [])
def GetP (w : World) (z : Int × List Nat) (e : Ending) (w' : World) : Prop :=
  ∃ v ev, e = .returned (.tuple #[v, ev]) ∧ w'.ownsRow w.heap.size 5 1 v z.2.length (Bs z.2) ∧ ErrV ev z.1 ∧ Below w.heap.size w w'
theorem getP_err {w w' : World} {z : Int × List Nat} {e : Ending} {ev : Value} (m : Int) (hz : z = (m, [])) (he : e = .returned (.tuple #[.slice none 0 0, ev])) (hv : ErrV ev m) (hb : Below w.heap.size w w') : GetP w z e w' := by
  subst hz
  exact ⟨_, _, he, World.ownsRow_nil _ _ _ _, hv, hb⟩
theorem own_take {w : World} {base n k m : Nat} {e : TypeId} {q : Option Addr} {xs : List Value} (h : w.ownsRow base e 1 (.slice q n m) n xs) (hk : k ≤ n) : w.ownsRow base e 1 (.slice q k m) k (xs.take k) := by
  obtain ⟨h1, h2⟩ := h
  refine ⟨by rw [List.length_take]; omega, ?_⟩
  rcases h2 with ⟨hv, h0⟩ | ⟨g, cap, cur, hv, a, b, c, d, f, t⟩
  · obtain ⟨rfl, _, rfl⟩ := Value.slice.inj hv
    exact .inl ⟨by rw [show k = 0 by omega], by omega⟩
  · obtain ⟨rfl, _, rfl⟩ := Value.slice.inj hv
    refine .inr ⟨g, m, cur, rfl, a, b, by omega, d, f, ?_⟩
    rw [← t, List.take_take]
    congr 1
    omega
theorem Bs_take (xs : List Nat) (k : Nat) : (Bs xs).take k = Bs (xs.take k) := by simp [Bs, List.map_take]
theorem take_int {l : List Int} {k : Nat} (h : k < l.length) : l.take (k + 1) = l.take k ++ [l.getD k 0] := by
  rw [List.take_succ_eq_append_getElem h, List.getD_eq_getElem?_getD, List.getElem?_eq_getElem h]; rfl
theorem pcs_len {l : List FileV} {f : FileV} (hf : f ∈ l) : f.pcs.length ≤ (allPcs l).length := by
  obtain ⟨a, b, e⟩ := List.append_of_mem hf
  have e2 : allPcs l = allPcs a ++ (f.pcs ++ allPcs b) := by rw [e]; simp [allPcs]
  rw [e2]
  simp only [List.length_append]
  omega
set_option maxRecDepth 8000 in
set_option maxHeartbeats 8000000 in
theorem get_any (v : Value) (name : ByteArray) (count : Int) (data : List Nat) (ws : Puts) (w : World) (hL : Laid w) (hd : DiskIn w v count data ws) (hs : (name.size : Int) ≤ 9223372036854775807) (r : Option (DirV × Int)) (n : Int) (hm : MountIs count data ws r n) :
    Calls Tryz.prog 79 #[v, .string name] w fun e w' => GetP w (getN data ws r n name) e w' := by
  obtain ⟨p, c, q, m, rfl, _⟩ := hd.parts
  have HMT := fun wx (hb : Below w.heap.size w wx) => mount_any _ count data ws wx (hL.below hb) (hd.below hb) r n hm
  have HDB : Hid ((w.alloc (.cells #[.int .i64 count, .slice p data.length c, .slice q ws.length m] 25)).heap[w.heap.size]? = some (.cells #[.int .i64 count, .slice p data.length c, .slice q ws.length m] 25 (0, 0))) := heap_alloc_new _ _
  have HD : Hid (DiskIn w (.agg #[.int .i64 count, .slice p data.length c, .slice q ws.length m]) count data ws) := hd
  clear hd hL
  rcases r with _ | ⟨x, at_⟩
  · have HN0 : Hid (n ≠ 0) := by show _ ≠ _; rcases mountIs_none hm with h | h <;> omega
    clear hm
    go_enter Tryz.func79, Tryz.ntmps79
    go_wp2_with fail
    refine (HMT _ (below_alloc w _)).mono ?_
    rintro e w2 ⟨ev, rfl, hfa, hb2⟩
    have HFA : Hid (Faults ev n) := hfa
    have HB2 : Hid (Below w.heap.size w w2) := below_bt (below_alloc _ _) hb2
    obtain ⟨T, vv, rfl⟩ : ∃ T vv, ev = .iface T vv := by cases hfa <;> exact ⟨_, _, rfl⟩
    clear hfa hb2 HMT
    go_wp2
    go_ret2
    exact getP_err n rfl rfl (.inr ⟨HN0.out, HFA.out⟩) (below_bt HB2.out (below_alloc _ _))
  · obtain ⟨hmay, hek, hn, hc96, hok⟩ := mountIs_some hm
    have HMAY : Hid (May ltS x) := hmay
    have HEK : Hid (errK count (allPcs x.files) = 0) := hek
    have HOK : Hid (Okay count data ws) := hok
    have HC : Hid (96 ≤ count ∧ count ≤ 4096) := ⟨hc96, hok.hi⟩
    clear hmay hek hn hc96 hok hm
    go_enter Tryz.func79, Tryz.ntmps79
    go_wp2_with fail
    refine (HMT _ (below_alloc w _)).mono ?_
    rintro e w2 ⟨ls, lv, hls, rfl, hfo, hb2⟩
    have hfin := hfo.files HMAY.out hls
    obtain ⟨lq, lc, rfl, hfi, _, _, _⟩ := hfin.lies
    obtain ⟨L, hLn⟩ : ∃ L, x.files.length = L := ⟨_, rfl⟩
    have HLN : Hid (x.files.length = L) := hLn
    have hLI : (L : Int) ≤ 32 := by have := HMAY.out.many; omega
    rw [hLn] at hfin ⊢
    clear hLn
    have bx := below_alloc w2 (.cells #[.int .i64 x.gen, .slice lq L lc] 31)
    have hbb := below_bt hb2 bx
    have HDB3 : Hid ((w2.alloc (.cells #[.int .i64 x.gen, .slice lq L lc] 31)).heap[w.heap.size]? = some (.cells #[.int .i64 count, .slice p data.length c, .slice q ws.length m] 25 (0, 0))) := (hbb.block _ (lt_heap HDB.out)).trans HDB.out
    have HXB3 : Hid ((w2.alloc (.cells #[.int .i64 x.gen, .slice lq L lc] 31)).heap[w2.heap.size]? = some (.cells #[.int .i64 x.gen, .slice lq L lc] 31 (0, 0))) := heap_alloc_new _ _
    have HFI3 : Hid (FIn (w2.alloc (.cells #[.int .i64 x.gen, .slice lq L lc] 31)) (.slice lq L lc) x.files) := hfin.below bx
    have HB3 : Hid (Below w.heap.size w (w2.alloc (.cells #[.int .i64 x.gen, .slice lq L lc] 31))) := below_bt (below_alloc w _) hbb
    clear hls hfo hb2 hfin hfi bx hbb HMT HDB
    cases hnm : isNameN name with
    | false =>
      have hin := fun wx => isName_r name false hnm wx hs
      have HG : Hid (getN data ws (some (x, at_)) n name = (5, [])) := by show _ = _; simp [getN, hnm]
      clear hnm
      go_wp2_with fail
      refine (hin _).mono ?_
      rintro e w3 ⟨rfl, rfl⟩
      go_wp2
      go_ret2
      exact getP_err 5 HG.out rfl (.inr ⟨by decide, Faults.one _ _⟩) HB3.out
    | true =>
      have hin := fun wx => isName_r name true hnm wx hs
      have hfc := find_any4 _ x.files name _ HFI3.out
      go_wp2_with fail
      refine (hin _).mono ?_
      rintro e w3 ⟨rfl, he3⟩
      have x0 : (w2.alloc (.cells #[.int .i64 x.gen, .slice lq L lc] 31)).cell? ⟨w2.heap.size, 0, none⟩ = some (.int .i64 x.gen) := Lib.cell_of_heap HXB3.out 0
      have x1 : (w2.alloc (.cells #[.int .i64 x.gen, .slice lq L lc] 31)).cell? ⟨w2.heap.size, 1, none⟩ = some (.slice lq L lc) := Lib.cell_of_heap HXB3.out 1
      generalize w2.alloc (.cells #[.int .i64 x.gen, .slice lq L lc] 31) = w3' at *
      subst he3
      generalize w2.heap.size = gX at *
      cases hfd : findN x.files name with
      | none =>
        have HG : Hid (getN data ws (some (x, at_)) n name = (6, [])) := by show _ = _; simp [getN, hnm, hfd]
        have hfI : findI x.files name = -1 := by unfold findI; rw [hfd]
        rw [hfI] at hfc
        clear hnm hfd hfI hin
        go_wp2_with fail
        refine hfc.mono ?_
        rintro e w4 ⟨rfl, hb4⟩
        have HB4 : Hid (Below w.heap.size w w4) := below_bt HB3.out hb4
        clear hb4 hfc
        go_wp2
        go_ret2
        exact getP_err 6 HG.out rfl (.inr ⟨by decide, Faults.one _ _⟩) HB4.out
      | some k =>
        have HG : Hid (getN data ws (some (x, at_)) n name = (0, fileD data ws (x.files.getD k zeroF))) := by show _ = _; simp [getN, hnm, hfd]
        have hfI : findI x.files name = (k : Int) := by unfold findI; rw [hfd]
        rw [hfI] at hfc
        have hkl := (findN_some hfd).1
        have hkI : (k : Int) < (L : Int) := by have := HLN.out; omega
        have hkI0 : (0 : Int) ≤ (k : Int) := by omega
        clear hnm hfd hfI hin
        go_wp2_with fail
        refine hfc.mono ?_
        rintro e w4 ⟨rfl, hb4⟩
        have HB4 : Hid (Below w.heap.size w w4) := below_bt HB3.out hb4
        have HDB4 : Hid (w4.heap[w.heap.size]? = some (.cells #[.int .i64 count, .slice p data.length c, .slice q ws.length m] 25 (0, 0))) := (hb4.block _ (lt_heap HDB3.out)).trans HDB3.out
        have HXB4 : Hid (w4.heap[gX]? = some (.cells #[.int .i64 x.gen, .slice lq L lc] 31 (0, 0))) := (hb4.block _ (lt_heap HXB3.out)).trans HXB3.out
        obtain ⟨q3, c3, e3, hfi4, _⟩ := (HFI3.out.below hb4).lies
        obtain ⟨e4, _, e5⟩ := Value.slice.inj e3
        subst e4
        obtain ⟨fb, fo, pv, hfe, z0, z1, z2, hpin⟩ := hfi4.file hkl
        subst hfe
        have hmem : x.files.getD k zeroF ∈ x.files := by rw [List.getD_eq_getElem?_getD, List.getElem?_eq_getElem hkl]; exact List.getElem_mem _
        have hfok := HMAY.out.each _ hmem
        have hgd := may_good HEK.out hmem
        have hgd4 := may_good HMAY.out.pcs hmem
        have hpl : (x.files.getD k zeroF).pcs.length ≤ 4096 := by
          have h1 := (errK_zero HMAY.out.pcs).2.1
          have h2 := pcs_len hmem
          omega
        obtain ⟨hr1, hr2, hr3, hr4⟩ := file_room HOK.out hfok hgd
        have hsN : secsN (x.files.getD k zeroF).pcs = secs (x.files.getD k zeroF).pcs := by unfold secsN; rw [if_pos (errK_ok (by omega) hpl hgd4)]
        have x0 : w4.cell? ⟨gX, 0, none⟩ = some (.int .i64 x.gen) := Lib.cell_of_heap HXB4.out 0
        have x1 : w4.cell? ⟨gX, 1, none⟩ = some (.slice (some ⟨fb, fo, none⟩) L lc) := Lib.cell_of_heap HXB4.out 1
        have hsc := sectors_any4 (x.files.getD k zeroF).name (x.files.getD k zeroF).size pv _ w4 hpin
        rw [hsN] at hsc
        have hsz0 := hfok.2.1
        have hsz1 := hfok.2.2.1
        have hKn : (secs (x.files.getD k zeroF).pcs).length ≤ 4096 := by have h1 := hr3; unfold needsN at h1; omega
        obtain ⟨pq, pc, rfl, _⟩ := hpin.lies
        have HFD : Hid (fileD data ws (x.files.getD k zeroF) = (secsD data ws (secs (x.files.getD k zeroF).pcs)).take (x.files.getD k zeroF).size.toNat) := rfl
        clear hpin hfi4 hb4 hfc hmem hfok hgd hgd4 hpl hr2 hr3 hsN e3 hkl
        generalize x.files.getD k zeroF = f at *
        obtain ⟨fnm, fsz, fpc⟩ := f
        simp only at z0 z1 z2 hr1 hr4 hsc hsz0 hsz1 hKn HFD
        obtain ⟨Sz, rfl⟩ : ∃ Sz : Nat, fsz = (Sz : Int) := ⟨fsz.toNat, by omega⟩
        rw [Int.toNat_natCast] at hr1
        have HFD2 : Hid (fileD data ws ⟨fnm, (Sz : Int), fpc⟩ = (secsD data ws (secs fpc)).take Sz) := by have h := HFD.out; rw [Int.toNat_natCast] at h; exact h
        clear HFD
        obtain ⟨PL, hPL⟩ : ∃ PL, fpc.length = PL := ⟨_, rfl⟩
        rw [hPL] at z2 hsc
        clear hPL
        obtain ⟨S, hS⟩ : ∃ S, secs fpc = S := ⟨_, rfl⟩
        rw [hS] at hr1 hr4 hsc hKn HFD2
        clear hS
        have HZ1 : Hid (w4.cell? ⟨fb, fo + k * 3 + 1, none⟩ = some (.int .i64 (Sz : Int))) := z1
        go_wp2_with fail
        refine hsc.mono ?_
        rintro e w5 ⟨sq, sc, rfl, hso, hb5⟩
        have HSO : Hid (IOwn w5 w4.heap.size (.slice sq S.length sc) S) := hso
        have HS0 : Hid (St w5 [(gX, #[.int .i64 x.gen, .slice (some ⟨fb, fo, none⟩) L lc], 31), (w.heap.size, #[.int .i64 count, .slice p data.length c, .slice q ws.length m], 25)] w5 (.slice none 0 0) []) := by
          refine St.start (fun b hb => ?_)
          rcases List.mem_cons.1 hb with rfl | hb
          · exact ⟨(hb5.block _ (lt_heap HXB4.out)).trans HXB4.out, by simp⟩
          · obtain rfl := List.mem_singleton.1 hb
            exact ⟨(hb5.block _ (lt_heap HDB4.out)).trans HDB4.out, by simp⟩
        have HZ5 : Hid (w5.cell? ⟨fb, fo + k * 3 + 1, none⟩ = some (.int .i64 (Sz : Int))) := (hb5.cell (World.block_lt_of_cell? _ _ HZ1.out)).trans HZ1.out
        have HB5 : Hid (Below w.heap.size w w5) := below_bt HB4.out hb5
        have HR : Hid (Sz ≤ (secsD data ws S).length ∧ (∀ n ∈ S, 0 ≤ n ∧ n < count)) := ⟨hr1, hr4⟩
        obtain ⟨K, hK⟩ : ∃ K, S.length = K := ⟨_, rfl⟩
        have HK : Hid (S.length = K) := hK
        rw [hK] at HSO hKn ⊢
        have hKI : (K : Int) ≤ 4096 := by omega
        clear hso hb5 hsc hK x0 x1 z0 z1 z2 hr1 hr4 HZ1
        go_wp2
        go_loopw [10, 45] (fun b i wr => ∃ j : Nat, j ≤ K ∧ i = .int .i64 (j : Int) ∧ (∀ c ∈ secsD data ws (S.take j), c < 256) ∧ (secsD data ws (S.take j)).length = j * 128 ∧ ∃ bq bc, b = .slice bq (secsD data ws (S.take j)).length bc ∧ St w5 [(gX, #[.int .i64 x.gen, .slice (some ⟨fb, fo, none⟩) L lc], 31), (w.heap.size, #[.int .i64 count, .slice p data.length c, .slice q ws.length m], 25)] wr (.slice bq (secsD data ws (S.take j)).length bc) (secsD data ws (S.take j))) (fun _ i _ => K - (intOf i).toNat)
        case atStart => exact ⟨0, by omega, rfl, (fun c hc => by simp [secsD] at hc), rfl, none, 0, rfl, HS0.out⟩
        case round =>
          obtain ⟨j, hj, rfl, hby, hlen, bq, bc, rfl, hst⟩ := hrel
          obtain ⟨KL, hKL⟩ : ∃ KL, (secsD data ws (S.take j)).length = KL := ⟨_, rfl⟩
          rw [hKL] at hst ⊢
          have HKL : Hid ((secsD data ws (S.take j)).length = KL) := hKL
          have HBY : Hid ((∀ c ∈ secsD data ws (S.take j), c < 256) ∧ (secsD data ws (S.take j)).length = j * 128) := ⟨hby, hlen⟩
          have HST : Hid (St w5 [(gX, #[.int .i64 x.gen, .slice (some ⟨fb, fo, none⟩) L lc], 31), (w.heap.size, #[.int .i64 count, .slice p data.length c, .slice q ws.length m], 25)] wr (.slice bq KL bc) (secsD data ws (S.take j))) := hst
          have c0 : wr.cell? ⟨w.heap.size, 0, none⟩ = some (.int .i64 count) := hst.cell (List.Mem.tail _ (List.Mem.head _)) 0
          have c1 : wr.cell? ⟨w.heap.size, 1, none⟩ = some (.slice p data.length c) := hst.cell (List.Mem.tail _ (List.Mem.head _)) 1
          have c2 : wr.cell? ⟨w.heap.size, 2, none⟩ = some (.slice q ws.length m) := hst.cell (List.Mem.tail _ (List.Mem.head _)) 2
          clear hby hlen hKL
          by_cases hjK : j < K
          · have hjI : (j : Int) < (K : Int) := by omega
            have hjI0 : (0 : Int) ≤ (j : Int) := by omega
            have HJ : Hid (j < K) := hjK
            have hjS : j < S.length := by have := HK.out; omega
            have hsm : S.getD j 0 ∈ S := by rw [List.getD_eq_getElem?_getD, List.getElem?_eq_getElem hjS]; exact List.getElem_mem _
            have hrg := HR.out.2 _ hsm
            obtain ⟨sg, hsq, hsc0⟩ := HSO.out.at hjS
            subst hsq
            have s0 := (hst.bel.cell (World.block_lt_of_cell? _ _ hsc0)).trans hsc0
            obtain ⟨t, ht⟩ : ∃ t : Nat, S.getD j 0 = (t : Int) := ⟨(S.getD j 0).toNat, by omega⟩
            rw [ht] at s0 hrg
            have HT : Hid (S.getD j 0 = (t : Int) ∧ j < S.length) := ⟨ht, hjS⟩
            have hnw := fnow_any _ t count data ws wr (HD.out.below (below_bt HB5.out hst.bel)) HOK.out hrg.2
            clear hst hjK hj hjS hsm hrg hsc0 ht
            go_wp2_with fail
            refine hnw.mono ?_
            rintro e w6 ⟨⟨g, rfl, hbi, hl, hby⟩, hb6⟩
            have HN : Hid ((nowN data ws t).length = 128 ∧ (∀ c ∈ nowN data ws t, c < 256)) := ⟨hl, hby⟩
            have HI2 : Hid (BIn w6 (some ⟨g, 0, none⟩) (nowN data ws t)) := hbi
            have S2 := HST.out.call hb6
            have hsz2 := S2.size
            have HS2 : Hid (St w5 [(gX, #[.int .i64 x.gen, .slice (some ⟨fb, fo, none⟩) L lc], 31), (w.heap.size, #[.int .i64 count, .slice p data.length c, .slice q ws.length m], 25)] w6 (.slice bq KL bc) (secsD data ws (S.take j))) := S2
            clear S2 hb6 hbi hl hby hnw HST c0 c1 c2 s0
            go_wp2_with (at_builtin; refine wpList_append_bytes _ rfl _ _ rfl w5.heap.size _ _ (nowN data ws t) (some ⟨g, 0, none⟩) _ 128 rfl rfl HN.out.1.symm HS2.out.own HI2.out (fun h => by cases h) (by have := HBY.out.2; have := HN.out.1; have := HJ.out; omega) hsz2 ?_; intro v3 w7 ho3 hg3; have S3 := HS2.out.app ho3 hg3; have HS3 : Hid (St w5 [(gX, #[.int .i64 x.gen, .slice (some ⟨fb, fo, none⟩) L lc], 31), (w.heap.size, #[.int .i64 count, .slice p data.length c, .slice q ws.length m], 25)] w7 v3 (secsD data ws (S.take j) ++ nowN data ws t)) := S3; clear S3 ho3 hg3)
            go_roundw
            case rel =>
              have hnx : secsD data ws (S.take (j + 1)) = secsD data ws (S.take j) ++ nowN data ws t := by rw [take_int HT.out.2, secsD_snoc, HT.out.1]
              have hs3 := HS3.out.eq hnx.symm
              obtain ⟨q3, c3, rfl, _, _, _⟩ := own_form hs3.own
              refine ⟨j + 1, HJ.out, by go_num, ?_, ?_, q3, c3, rfl, hs3⟩
              · intro c hc
                rw [hnx] at hc
                rcases List.mem_append.1 hc with hc | hc
                · exact HBY.out.1 c hc
                · exact HN.out.2 c hc
              · rw [hnx, List.length_append, HBY.out.2, HN.out.1]; omega
            case measure => have := HJ.out; simp [intOf]; omega
          · have hjI : (K : Int) ≤ (j : Int) := by omega
            obtain rfl : j = K := by omega
            have hall : S.take j = S := by rw [List.take_of_length_le (by have := HK.out; omega)]
            have HST2 : Hid (St w5 [(gX, #[.int .i64 x.gen, .slice (some ⟨fb, fo, none⟩) L lc], 31), (w.heap.size, #[.int .i64 count, .slice p data.length c, .slice q ws.length m], 25)] wr (.slice bq KL bc) (secsD data ws S)) := by rw [hall] at hst; exact hst
            have hKS : KL = (secsD data ws S).length := by rw [← HKL.out, hall]
            have x0 : wr.cell? ⟨gX, 0, none⟩ = some (.int .i64 x.gen) := hst.cell (List.Mem.head _) 0
            have x1 : wr.cell? ⟨gX, 1, none⟩ = some (.slice (some ⟨fb, fo, none⟩) L lc) := hst.cell (List.Mem.head _) 1
            have z1 := (hst.bel.cell (World.block_lt_of_cell? _ _ HZ5.out)).trans HZ5.out
            have hrow : wr.ownsRow w5.heap.size 5 1 (.slice bq KL bc) KL (Bs (secsD data ws S)) := by have h := HST2.out.own; rw [← hKS] at h; exact h
            have hSzK : Sz ≤ KL := by rw [hKS]; exact HR.out.1
            have HROW : Hid (wr.ownsRow w5.heap.size 5 1 (.slice bq Sz bc) Sz (Bs ((secsD data ws S).take Sz)) ∧ ((secsD data ws S).take Sz).length = Sz) := ⟨by rw [← Bs_take]; exact own_take hrow hSzK, by rw [List.length_take]; omega⟩
            obtain ⟨q4, c4, e4, hkc, hcm, hq0⟩ := own_form hrow
            obtain ⟨r1, _, r3⟩ := Value.slice.inj e4
            subst r1 r3
            unfold maxLen at hcm
            have HBW : Hid (Below w.heap.size w wr) := below_bt HB5.out HST2.out.bel
            clear hst hall hKS hrow e4 HST HST2 HS0 c0 c1 c2 hjK hj
            have hfin : ∀ e, e = .returned (.tuple #[.slice bq Sz bc, .nilIface]) → GetP w (getN data ws (some (x, at_)) n name) e wr := fun e he => by
              rw [HG.out, HFD2.out]
              refine ⟨_, _, he, ?_, .inl ⟨rfl, rfl⟩, HBW.out⟩
              show wr.ownsRow w.heap.size 5 1 (.slice bq Sz bc) ((secsD data ws S).take Sz).length _
              rw [HROW.out.2]
              exact own_mono HROW.out.1 HB5.out.size
            have HF : Hid (∀ e, e = .returned (.tuple #[.slice bq Sz bc, .nilIface]) → GetP w (getN data ws (some (x, at_)) n name) e wr) := hfin
            clear hfin
            rcases bq with _ | ⟨gb, go_, gi⟩
            · obtain rfl := hq0 rfl
              obtain rfl : KL = 0 := by omega
              obtain rfl : Sz = 0 := by omega
              go_wp2
              go_ret2
              exact HF.out _ rfl
            · go_wp2
              go_ret2
              exact HF.out _ rfl
end Go.Proofs.YthifpelappedcaaGreatDoor
namespace Go.Proofs.YthifpelappedcaaGreatDoor
open Go.RowKit Go.WideShapes Rm

set_option maxRecDepth 8000 in
set_option maxHeartbeats 4000000 in
theorem rbytes4_any (v pv : Value) (f : FileV) (count : Int) (data : List Nat) (ws : Puts) (w : World) (hd : DiskIn w v count data ws) (ho : Okay count data ws) (hpin : PIn w pv f.pcs) (hfok : FileOk f) (hgd : Rm.Good count f.pcs) (hgd4 : Rm.Good 4096 f.pcs) (hpl : f.pcs.length ≤ 4096) :
    Calls Tryz.prog 82 #[v, .agg #[.string f.name, .int .i64 f.size, pv]] w fun e w' => ∃ lv, e = .returned lv ∧ w'.ownsRow w.heap.size 5 1 lv (fileD data ws f).length (Bs (fileD data ws f)) ∧ Below w.heap.size w w' := by
  obtain ⟨p, c, q, m, rfl, _⟩ := hd.parts
  have HD : Hid (DiskIn w (.agg #[.int .i64 count, .slice p data.length c, .slice q ws.length m]) count data ws) := hd
  have HOK : Hid (Okay count data ws) := ho
  obtain ⟨hr1, hr2, hr3, hr4⟩ := file_room ho hfok hgd
  have hsN : secsN f.pcs = secs f.pcs := by unfold secsN; rw [if_pos (errK_ok (by omega) hpl hgd4)]
  have hsz0 := hfok.2.1
  have hsz1 := hfok.2.2.1
  have hKn : (secs f.pcs).length ≤ 4096 := by have h1 := hr3; unfold needsN at h1; omega
  have HFD : Hid (fileD data ws f = (secsD data ws (secs f.pcs)).take f.size.toNat) := rfl
  obtain ⟨fnm, fsz, fpc⟩ := f
  simp only at hpin hr1 hr4 hsN hsz0 hsz1 hKn HFD ⊢
  obtain ⟨pq, pc, rfl, _⟩ := hpin.lies
  obtain ⟨Sz, rfl⟩ : ∃ Sz : Nat, fsz = (Sz : Int) := ⟨fsz.toNat, by omega⟩
  rw [Int.toNat_natCast] at hr1
  have HFD2 : Hid (fileD data ws ⟨fnm, (Sz : Int), fpc⟩ = (secsD data ws (secs fpc)).take Sz) := by have h := HFD.out; rw [Int.toNat_natCast] at h; exact h
  obtain ⟨PL, hPL⟩ : ∃ PL, fpc.length = PL := ⟨_, rfl⟩
  rw [hPL] at hpin ⊢
  have hb0 : Below w.heap.size w ((w.alloc (.cells #[.int .i64 count, .slice p data.length c, .slice q ws.length m] 25)).alloc (.cells #[.string fnm, .int .i64 (Sz : Int), .slice pq PL pc] 51)) := (below_alloc w _).alloc (by simp) _
  have HFB : Hid (((w.alloc (.cells #[.int .i64 count, .slice p data.length c, .slice q ws.length m] 25)).alloc (.cells #[.string fnm, .int .i64 (Sz : Int), .slice pq PL pc] 51)).heap[w.heap.size + 1]? = some (.cells #[.string fnm, .int .i64 (Sz : Int), .slice pq PL pc] 51 (0, 0))) := by
    have h := heap_alloc_new (w.alloc (.cells #[.int .i64 count, .slice p data.length c, .slice q ws.length m] 25)) (.cells #[.string fnm, .int .i64 (Sz : Int), .slice pq PL pc] 51)
    rw [heap_size_alloc] at h
    exact h
  have HDB : Hid (((w.alloc (.cells #[.int .i64 count, .slice p data.length c, .slice q ws.length m] 25)).alloc (.cells #[.string fnm, .int .i64 (Sz : Int), .slice pq PL pc] 51)).heap[w.heap.size]? = some (.cells #[.int .i64 count, .slice p data.length c, .slice q ws.length m] 25 (0, 0))) := ((below_alloc _ _).block _ (by simp)).trans (heap_alloc_new w _)
  have hsc := Rm.rsectors_any _ fpc ((w.alloc (.cells #[.int .i64 count, .slice p data.length c, .slice q ws.length m] 25)).alloc (.cells #[.string fnm, .int .i64 (Sz : Int), .slice pq PL pc] 51)) (hpin.below hb0)
  rw [hsN] at hsc
  obtain ⟨S, hS⟩ : ∃ S, secs fpc = S := ⟨_, rfl⟩
  rw [hS] at hr1 hr4 hsc hKn HFD2
  obtain ⟨K, hK⟩ : ∃ K, S.length = K := ⟨_, rfl⟩
  have HK : Hid (S.length = K) := hK
  rw [hK] at hsc hKn
  have hKI : (K : Int) ≤ 4096 := by omega
  have HR : Hid (Sz ≤ (secsD data ws S).length ∧ (∀ n ∈ S, 0 ≤ n ∧ n < count)) := ⟨hr1, hr4⟩
  clear hd ho hpin hfok hgd hgd4 hpl hr1 hr2 hr3 hr4 hsN HFD hPL hS hK
  generalize errK 4096 fpc = E4 at *
  go_enter Tryz.func82, Tryz.ntmps82
  go_wp2_with fail
  refine hsc.mono ?_
  rintro e w5 ⟨sq, sc, rfl, hso, hb5⟩
  have HSO : Hid (IOwn w5 ((w.alloc (.cells #[.int .i64 count, .slice p data.length c, .slice q ws.length m] 25)).alloc (.cells #[.string fnm, .int .i64 (Sz : Int), .slice pq PL pc] 51)).heap.size (.slice sq K sc) S) := hso
  have HB5 : Hid (Below w.heap.size w w5) := below_bt hb0 hb5
  have HS0 : Hid (St w5 [(w.heap.size + 1, #[.string fnm, .int .i64 (Sz : Int), .slice pq PL pc], 51), (w.heap.size, #[.int .i64 count, .slice p data.length c, .slice q ws.length m], 25)] w5 (.slice none 0 0) []) := by
    refine St.start (fun b hb => ?_)
    rcases List.mem_cons.1 hb with rfl | hb
    · exact ⟨(hb5.block _ (lt_heap HFB.out)).trans HFB.out, by simp⟩
    · obtain rfl := List.mem_singleton.1 hb
      exact ⟨(hb5.block _ (lt_heap HDB.out)).trans HDB.out, by simp⟩
  clear hso hb5 hsc hb0 HFB HDB
  go_wp2
  go_loopw [5, 8] (fun b i wr => ∃ j : Nat, j ≤ K ∧ i = .int .i64 (j : Int) ∧ (secsD data ws (S.take j)).length = j * 128 ∧ ∃ bq bc, b = .slice bq (secsD data ws (S.take j)).length bc ∧ St w5 [(w.heap.size + 1, #[.string fnm, .int .i64 (Sz : Int), .slice pq PL pc], 51), (w.heap.size, #[.int .i64 count, .slice p data.length c, .slice q ws.length m], 25)] wr (.slice bq (secsD data ws (S.take j)).length bc) (secsD data ws (S.take j))) (fun _ i _ => K - (intOf i).toNat)
  case atStart => exact ⟨0, by omega, rfl, rfl, none, 0, rfl, HS0.out⟩
  case round =>
    obtain ⟨j, hj, rfl, hlen, bq, bc, rfl, hst⟩ := hrel
    obtain ⟨KL, hKL⟩ : ∃ KL, (secsD data ws (S.take j)).length = KL := ⟨_, rfl⟩
    rw [hKL] at hst ⊢
    have HKL : Hid ((secsD data ws (S.take j)).length = KL) := hKL
    have HLEN : Hid ((secsD data ws (S.take j)).length = j * 128) := hlen
    have HST : Hid (St w5 [(w.heap.size + 1, #[.string fnm, .int .i64 (Sz : Int), .slice pq PL pc], 51), (w.heap.size, #[.int .i64 count, .slice p data.length c, .slice q ws.length m], 25)] wr (.slice bq KL bc) (secsD data ws (S.take j))) := hst
    clear hlen hKL
    by_cases hjK : j < K
    · have hjI : (j : Int) < (K : Int) := by omega
      have hjI0 : (0 : Int) ≤ (j : Int) := by omega
      have HJ : Hid (j < K) := hjK
      have hjS : j < S.length := by have := HK.out; omega
      have hsm : S.getD j 0 ∈ S := by rw [List.getD_eq_getElem?_getD, List.getElem?_eq_getElem hjS]; exact List.getElem_mem _
      have hrg := HR.out.2 _ hsm
      obtain ⟨sg, hsq, hsc0⟩ := HSO.out.at hjS
      subst hsq
      obtain ⟨t, ht⟩ : ∃ t : Nat, S.getD j 0 = (t : Int) := ⟨(S.getD j 0).toNat, by omega⟩
      rw [ht] at hsc0 hrg
      have HT : Hid (S.getD j 0 = (t : Int) ∧ j < S.length) := ⟨ht, hjS⟩
      have HN : Hid ((nowN data ws t).length = 128) := nowN_len HOK.out hrg.2
      have HNW : Hid (∀ w', Below wr.heap.size wr w' → Calls Tryz.prog 118 #[.agg #[.int .i64 count, .slice p data.length c, .slice q ws.length m], .int .i64 (t : Int)] w' fun e w'' => ∃ vp vc, e = .returned (.slice vp 128 vc) ∧ BIn w'' vp (nowN data ws t) ∧ (vp = none → vc = 0) ∧ Below w'.heap.size w' w'') := fun w' hb => by
        refine (rnow_any _ t count data ws w' (HD.out.below (below_bt (below_bt HB5.out HST.out.bel) hb)) HOK.out hrg.2).mono ?_
        rintro e w'' ⟨⟨v', rfl, hrw⟩, hb2⟩
        obtain ⟨vp, vc, rfl, hbi, _, _, hvn⟩ := hrw.form
        exact ⟨vp, vc, by rw [HN.out], hbi, hvn, hb2⟩
      have HKS : Hid (∀ w' v' xs', St w5 [(w.heap.size + 1, #[.string fnm, .int .i64 (Sz : Int), .slice pq PL pc], 51), (w.heap.size, #[.int .i64 count, .slice p data.length c, .slice q ws.length m], 25)] w' v' xs' → (w'.cell? ⟨w.heap.size, 0, none⟩ = some (.int .i64 count) ∧ w'.cell? ⟨w.heap.size, 1, none⟩ = some (.slice p data.length c) ∧ w'.cell? ⟨w.heap.size, 2, none⟩ = some (.slice q ws.length m)) ∧ w'.cell? ⟨sg, j, none⟩ = some (.int .i64 (t : Int))) := fun w' v' xs' h => ⟨⟨h.cell (List.Mem.tail _ (List.Mem.head _)) 0, h.cell (List.Mem.tail _ (List.Mem.head _)) 1, h.cell (List.Mem.tail _ (List.Mem.head _)) 2⟩, (h.bel.cell (World.block_lt_of_cell? _ _ hsc0)).trans hsc0⟩
      obtain ⟨⟨c0, c1, c2⟩, s0⟩ := HKS.out _ _ _ HST.out
      have HSD : Hid (St w5 [(w.heap.size + 1, #[.string fnm, .int .i64 (Sz : Int), .slice pq PL pc], 51), (w.heap.size, #[.int .i64 count, .slice p data.length c, .slice q ws.length m], 25)] wr.drew (.slice bq KL bc) (secsD data ws (S.take j))) := HST.out.call (Below.refl _ _).drew
      clear hst hjK hj hjS hsm hrg hsc0 ht
      go_upto_region 6 with fail
      go_region_held3 (fun w' => (w'.cell? ⟨w.heap.size, 0, none⟩ = some (.int .i64 count) ∧ w'.cell? ⟨w.heap.size, 1, none⟩ = some (.slice p data.length c) ∧ w'.cell? ⟨w.heap.size, 2, none⟩ = some (.slice q ws.length m)) ∧ w'.cell? ⟨sg, j, none⟩ = some (.int .i64 (t : Int)))
        (with_reducible first | exact HKS.out _ _ _ HSD.out | exact HKS.out _ _ _ HST.out | exact HKS.out _ _ _ (HSD.out.call hb6) | exact HKS.out _ _ _ ((HSD.out.call hb6).app ho3 hg3) | assumption)
        (first
          | (go_at_call 118; refine (HNW.out _ (Below.refl _ _).drew).mono ?_; rintro e w6 ⟨vp, vc, rfl, hbi, hvn, hb6⟩)
          | (refine step_append_bytes rfl (.tmp 21) (.tmp 27) rfl w5.heap.size (.slice bq KL bc) (secsD data ws (S.take j)) (nowN data ws t) vp 128 vc (by first | rfl | simp [Act.eval, Act.put]) (by first | rfl | simp [Act.eval, Act.put]) HN.out.symm (HSD.out.call hb6).own hbi hvn (by have h1 := HLEN.out; have h2 := HN.out; have h3 := HJ.out; omega) (HSD.out.call hb6).size ?_; intro v3 w7 ho3 hg3)
          | fail)
      have HS3 : Hid (St w5 [(w.heap.size + 1, #[.string fnm, .int .i64 (Sz : Int), .slice pq PL pc], 51), (w.heap.size, #[.int .i64 count, .slice p data.length c, .slice q ws.length m], 25)] w7 v3 (secsD data ws (S.take j) ++ nowN data ws t)) := (HSD.out.call hb6).app ho3 hg3
      clear ho3 hg3 hb6 hbi HSD HST HNW HKS c0 c1 c2 s0
      go_wp2
      go_roundw
      case rel =>
        have hnx : secsD data ws (S.take (j + 1)) = secsD data ws (S.take j) ++ nowN data ws t := by rw [take_int HT.out.2, secsD_snoc, HT.out.1]
        have hs3 := HS3.out.eq hnx.symm
        obtain ⟨q3, c3, rfl, _, _, _⟩ := own_form hs3.own
        refine ⟨j + 1, HJ.out, by go_num, ?_, q3, c3, rfl, hs3⟩
        rw [hnx, List.length_append, HLEN.out, HN.out]; omega
      case measure => have := HJ.out; simp [intOf]; omega
    · have hjI : (K : Int) ≤ (j : Int) := by omega
      obtain rfl : j = K := by omega
      have hall : S.take j = S := by rw [List.take_of_length_le (by have := HK.out; omega)]
      have hst2 : St w5 [(w.heap.size + 1, #[.string fnm, .int .i64 (Sz : Int), .slice pq PL pc], 51), (w.heap.size, #[.int .i64 count, .slice p data.length c, .slice q ws.length m], 25)] wr (.slice bq KL bc) (secsD data ws S) := by rw [hall] at hst; exact hst
      have hKS : KL = (secsD data ws S).length := by rw [← HKL.out, hall]
      have x1 : wr.cell? ⟨w.heap.size + 1, 1, none⟩ = some (.int .i64 (Sz : Int)) := hst.cell (List.Mem.head _) 1
      have hrow : wr.ownsRow w5.heap.size 5 1 (.slice bq KL bc) KL (Bs (secsD data ws S)) := by have h := hst2.own; rw [← hKS] at h; exact h
      have hSzK : Sz ≤ KL := by rw [hKS]; exact HR.out.1
      have HROW : Hid (wr.ownsRow w5.heap.size 5 1 (.slice bq Sz bc) Sz (Bs ((secsD data ws S).take Sz)) ∧ ((secsD data ws S).take Sz).length = Sz) := ⟨by rw [← Bs_take]; exact own_take hrow hSzK, by rw [List.length_take]; omega⟩
      obtain ⟨q4, c4, e4, hkc, hcm, hq0⟩ := own_form hrow
      obtain ⟨r1, _, r3⟩ := Value.slice.inj e4
      subst r1 r3
      unfold maxLen at hcm
      have HBW : Hid (Below w.heap.size w wr) := below_bt HB5.out hst2.bel
      have HF : Hid (∀ e : Ending, e = .returned (.slice bq Sz bc) → ∃ lv, e = .returned lv ∧ wr.ownsRow w.heap.size 5 1 lv (fileD data ws ⟨fnm, (Sz : Int), fpc⟩).length (Bs (fileD data ws ⟨fnm, (Sz : Int), fpc⟩)) ∧ Below w.heap.size w wr) := fun e he => by
        rw [HFD2.out]
        refine ⟨_, he, ?_, HBW.out⟩
        rw [HROW.out.2]
        exact own_mono HROW.out.1 HB5.out.size
      clear hst hst2 hall hKS hrow e4 HST HS0 hjK hj
      rcases bq with _ | ⟨gb, go_, gi⟩
      · obtain rfl := hq0 rfl
        obtain rfl : KL = 0 := by omega
        obtain rfl : Sz = 0 := by omega
        go_wp2
        go_ret
        exact HF.out _ rfl
      · go_wp2
        go_ret
        exact HF.out _ rfl
end Go.Proofs.YthifpelappedcaaGreatDoor
namespace Go.Proofs.YthifpelappedcaaGreatDoor
open Go.RowKit Go.WideShapes Rm

def RGetP (w : World) (z : Int × List Nat) (e : Ending) (w' : World) : Prop :=
  ∃ v, e = .returned (.tuple #[v, .int .i64 z.1]) ∧ w'.ownsRow w.heap.size 5 1 v z.2.length (Bs z.2) ∧ Below w.heap.size w w'
theorem rgetP_err {w w' : World} {z : Int × List Nat} {e : Ending} (m : Int) (hz : z = (m, [])) (he : e = .returned (.tuple #[.slice none 0 0, .int .i64 m])) (hb : Below w.heap.size w w') : RGetP w z e w' := by
  subst hz
  exact ⟨_, he, World.ownsRow_nil _ _ _ _, hb⟩
set_option maxRecDepth 8000 in
set_option maxHeartbeats 8000000 in
theorem rGet_any (v : Value) (name : ByteArray) (count : Int) (data : List Nat) (ws : Puts) (w : World) (hd : DiskIn w v count data ws) (hs : (name.size : Int) ≤ 9223372036854775807) (r : Option (DirV × Int)) (n : Int) (hm : MountIs count data ws r n) :
    Calls Tryz.prog 33 #[v, .string name] w fun e w' => RGetP w (getN data ws r n name) e w' := by
  obtain ⟨p, c, q, m, rfl, _⟩ := hd.parts
  have hb0 := below_alloc w (.cells #[.int .i64 count, .slice p data.length c, .slice q ws.length m] 25)
  have hmt := rMount_any _ count data ws _ (hd.below hb0) r n hm
  have HDB : Hid ((w.alloc (.cells #[.int .i64 count, .slice p data.length c, .slice q ws.length m] 25)).heap[w.heap.size]? = some (.cells #[.int .i64 count, .slice p data.length c, .slice q ws.length m] 25 (0, 0))) := heap_alloc_new _ _
  have HD : Hid (DiskIn w (.agg #[.int .i64 count, .slice p data.length c, .slice q ws.length m]) count data ws) := hd
  clear hd
  rcases r with _ | ⟨x, at_⟩
  · have hn0 : (n != 0) = true := by rcases mountIs_none hm with h | h <;> subst h <;> rfl
    clear hm
    go_enter Tryz.func33, Tryz.ntmps33
    go_wp2_with fail
    refine hmt.mono ?_
    rintro e w2 ⟨rfl, hb2⟩
    have HB2 : Hid (Below w.heap.size w w2) := below_bt hb0 hb2
    clear hb2 hmt hb0
    go_wp2
    go_ret2
    exact rgetP_err n rfl rfl (below_bt HB2.out (below_alloc _ _))
  · obtain ⟨hmay, hek, hn, hc96, hok⟩ := mountIs_some hm
    subst hn
    have HMAY : Hid (May ltS x) := hmay
    have HEK : Hid (errK count (allPcs x.files) = 0) := hek
    have HOK : Hid (Okay count data ws) := hok
    clear hmay hek hc96 hok hm
    go_enter Tryz.func33, Tryz.ntmps33
    go_wp2_with fail
    refine hmt.mono ?_
    rintro e w2 ⟨ls, lv, hls, rfl, hfo, hb2⟩
    have hfin := hfo.files HMAY.out hls
    obtain ⟨lq, lc, rfl, hfi, _, _, _⟩ := hfin.lies
    obtain ⟨L, hLn⟩ : ∃ L, x.files.length = L := ⟨_, rfl⟩
    have HLN : Hid (x.files.length = L) := hLn
    have hLI : (L : Int) ≤ 32 := by have := HMAY.out.many; omega
    rw [hLn] at hfin ⊢
    clear hLn
    have bx := below_alloc w2 (.cells #[.int .i64 x.gen, .slice lq L lc] 31)
    have hbb := below_bt hb2 bx
    have HDB3 : Hid ((w2.alloc (.cells #[.int .i64 x.gen, .slice lq L lc] 31)).heap[w.heap.size]? = some (.cells #[.int .i64 count, .slice p data.length c, .slice q ws.length m] 25 (0, 0))) := (hbb.block _ (lt_heap HDB.out)).trans HDB.out
    have HXB3 : Hid ((w2.alloc (.cells #[.int .i64 x.gen, .slice lq L lc] 31)).heap[w2.heap.size]? = some (.cells #[.int .i64 x.gen, .slice lq L lc] 31 (0, 0))) := heap_alloc_new _ _
    have HFI3 : Hid (FIn (w2.alloc (.cells #[.int .i64 x.gen, .slice lq L lc] 31)) (.slice lq L lc) x.files) := hfin.below bx
    have HB3 : Hid (Below w.heap.size w (w2.alloc (.cells #[.int .i64 x.gen, .slice lq L lc] 31))) := below_bt hb0 hbb
    clear hls hfo hb2 hfin hfi bx hbb hmt HDB hb0
    go_upto_region 4 with fail
    have hpc := rplace_any x.gen _ x.files name _ HFI3.out
    obtain ⟨x0, x1⟩ := two_cells HXB3.out
    generalize w2.alloc (.cells #[.int .i64 x.gen, .slice lq L lc] 31) = w3 at *
    generalize w2.heap.size = gX at *
    cases hnm : isNameN name with
    | false =>
      have hin := risName_r name false hnm w3 hs
      have HG : Hid (getN data ws (some (x, at_)) 0 name = (5, [])) := by show _ = _; simp [getN, hnm]
      clear hnm hpc
      go_wp2_with fail
      refine hin.mono ?_
      rintro e w4 ⟨rfl, rfl⟩
      go_wp2
      go_ret2
      exact rgetP_err 5 HG.out rfl HB3.out
    | true =>
      have hin := risName_r name true hnm w3 hs
      go_wp2_with fail
      refine hin.mono ?_
      rintro e w4 ⟨rfl, he4⟩
      subst he4
      cases hfd : findN x.files name with
      | none =>
        have HG : Hid (getN data ws (some (x, at_)) 0 name = (6, [])) := by show _ = _; simp [getN, hnm, hfd]
        have hfI : findI x.files name = -1 := by unfold findI; rw [hfd]
        rw [hfI] at hpc
        clear hnm hfd hfI hin
        go_wp2_with fail
        refine hpc.mono ?_
        rintro e w4 ⟨rfl, hb4⟩
        have HB4 : Hid (Below w.heap.size w w4) := below_bt HB3.out hb4
        clear hb4 hpc
        go_wp2
        go_ret2
        exact rgetP_err 6 HG.out rfl HB4.out
      | some k =>
        have HG : Hid (getN data ws (some (x, at_)) 0 name = (0, fileD data ws (x.files.getD k zeroF))) := by show _ = _; simp [getN, hnm, hfd]
        have hfI : findI x.files name = (k : Int) := by unfold findI; rw [hfd]
        rw [hfI] at hpc
        have hkl := (findN_some hfd).1
        have hkI : (k : Int) < (L : Int) := by have := HLN.out; omega
        have hkI0 : (0 : Int) ≤ (k : Int) := by omega
        clear hnm hfd hfI hin
        go_wp2_with fail
        refine hpc.mono ?_
        rintro e w4 ⟨rfl, hb4⟩
        have HB4 : Hid (Below w.heap.size w w4) := below_bt HB3.out hb4
        have HDB4 : Hid (w4.heap[w.heap.size]? = some (.cells #[.int .i64 count, .slice p data.length c, .slice q ws.length m] 25 (0, 0))) := (hb4.block _ (lt_heap HDB3.out)).trans HDB3.out
        have HXB4 : Hid (w4.heap[gX]? = some (.cells #[.int .i64 x.gen, .slice lq L lc] 31 (0, 0))) := (hb4.block _ (lt_heap HXB3.out)).trans HXB3.out
        obtain ⟨q3, c3, e3, hfi4, _⟩ := (HFI3.out.below hb4).lies
        obtain ⟨e4, _, e5⟩ := Value.slice.inj e3
        subst e4
        obtain ⟨fb, fo, pv, hfe, z0, z1, z2, hpin⟩ := hfi4.file hkl
        subst hfe
        have hmem : x.files.getD k zeroF ∈ x.files := by rw [List.getD_eq_getElem?_getD, List.getElem?_eq_getElem hkl]; exact List.getElem_mem _
        have HBT : Hid (∀ w', Below w4.heap.size w4 w' → Calls Tryz.prog 82 #[.agg #[.int .i64 count, .slice p data.length c, .slice q ws.length m], .agg #[.string (x.files.getD k zeroF).name, .int .i64 (x.files.getD k zeroF).size, pv]] w' fun e w'' => ∃ lv, e = .returned lv ∧ w''.ownsRow w'.heap.size 5 1 lv (fileD data ws (x.files.getD k zeroF)).length (Bs (fileD data ws (x.files.getD k zeroF))) ∧ Below w'.heap.size w' w'') := fun w' hb => rbytes4_any _ pv _ count data ws w' (HD.out.below (below_bt HB4.out hb)) HOK.out (hpin.below hb) (HMAY.out.each _ hmem) (may_good HEK.out hmem) (may_good HMAY.out.pcs hmem) (by have h1 := (errK_zero HMAY.out.pcs).2.1; have h2 := pcs_len hmem; omega)
        obtain ⟨pq, pc, rfl, _⟩ := hpin.lies
        have HKS : Hid (∀ w', Below w4.heap.size w4 w' → (w'.cell? ⟨w.heap.size, 0, none⟩ = some (.int .i64 count) ∧ w'.cell? ⟨w.heap.size, 1, none⟩ = some (.slice p data.length c) ∧ w'.cell? ⟨w.heap.size, 2, none⟩ = some (.slice q ws.length m)) ∧ (w'.cell? ⟨gX, 0, none⟩ = some (.int .i64 x.gen) ∧ w'.cell? ⟨gX, 1, none⟩ = some (.slice (some ⟨fb, fo, none⟩) L lc)) ∧ (w'.cell? ⟨fb, fo + k * 3, none⟩ = some (.string (x.files.getD k zeroF).name) ∧ w'.cell? ⟨fb, fo + k * 3 + 1, none⟩ = some (.int .i64 (x.files.getD k zeroF).size) ∧ w'.cell? ⟨fb, fo + k * 3 + 2, none⟩ = some (.slice pq (x.files.getD k zeroF).pcs.length pc))) := fun w' hb => ⟨three_cells ((hb.block _ (lt_heap HDB4.out)).trans HDB4.out), two_cells ((hb.block _ (lt_heap HXB4.out)).trans HXB4.out), (hb.cell (World.block_lt_of_cell? _ _ z0)).trans z0, (hb.cell (World.block_lt_of_cell? _ _ z1)).trans z1, (hb.cell (World.block_lt_of_cell? _ _ z2)).trans z2⟩
        clear hpin hfi4 hb4 hpc hmem e3 hkl z0 z1 z2 x0 x1
        obtain ⟨PL, hPL⟩ : ∃ PL, (x.files.getD k zeroF).pcs.length = PL := ⟨_, rfl⟩
        rw [hPL] at HKS HBT
        clear hPL
        generalize x.files.getD k zeroF = f at *
        obtain ⟨fnm, fsz, fpc⟩ := f
        simp only at HKS HBT HG
        generalize fileD data ws ⟨fnm, fsz, fpc⟩ = zl at *
        have hkN : k < L := by omega
        have hkle : (k : Int) ≤ (L : Int) := by omega
        go_upto_region 9 with fail
        obtain ⟨⟨c0, c1, c2⟩, ⟨x0, x1⟩, z0, z1, z2⟩ := HKS.out _ (Below.refl _ _)
        go_region_with (go_at_call 82; refine (HBT.out _ (by first | exact (Below.refl _ _).drew | exact Below.refl _ _)).mono ?_; rintro e w6 ⟨lv6, rfl, hown6, hb6⟩)
        all_goals
          have HO6 : Hid (w6.ownsRow w.heap.size 5 1 lv6 zl.length (Bs zl)) := own_mono hown6 (by have := HB4.out.size; simpa using this)
          have HB6 : Hid (Below w.heap.size w w6) := below_bt HB4.out (below_dwF hb6)
          clear hown6 hb6 HKS HBT
          go_wp2
          go_ret2
          rw [HG.out]
          exact ⟨_, rfl, HO6.out, HB6.out⟩
end Go.Proofs.YthifpelappedcaaGreatDoor
namespace Go.Proofs.YthifpelappedcaaGreatDoor
open Go.RowKit Go.WideShapes Rm

theorem getD4 (a b : Addr) (ev old : Value) (n : Int) (u : FrameMode) (w : World) (hg : ErrT w) (hv : ErrV ev n) (ha : w.cell? a = some ev) (hb : w.cell? b = some old) (hf : w.frozen? b = false) :
    CallsD Tryz.prog 78 #[.pointer (some a), .pointer (some b)] u w fun e u' w' => u' = u ∧ e = .returned (.tuple #[]) ∧ ∃ w1, w' = w1.setCell b (.int .i64 n) ∧ Below w.heap.size w w1 := by
  have hn := number_v ev n hv w hg
  have hlt := World.block_lt_of_cell? _ _ hb
  go_enter_d Tryz.func78, Tryz.ntmps78
  go_wp2_with fail
  refine hn.mono ?_
  rintro e w1 ⟨rfl, hb1⟩
  have hb2 : w1.cell? b = some old := (hb1.cell hlt).trans hb
  have hf2 : w1.frozen? b = false := (hb1.frozen hlt).trans hf
  go_wp2
  go_end0
  exact ⟨rfl, w1, rfl, hb1⟩
set_option maxRecDepth 8000 in
set_option maxHeartbeats 4000000 in
theorem Get_any (v : Value) (name : ByteArray) (count : Int) (data : List Nat) (ws : Puts) (w : World) (hL : Laid w) (hd : DiskIn w v count data ws) (hs : (name.size : Int) ≤ 9223372036854775807) (r : Option (DirV × Int)) (n : Int) (hm : MountIs count data ws r n) (zn : Int) (zl : List Nat) (hz : getN data ws r n name = (zn, zl)) :
    Calls Tryz.prog 32 #[v, .string name] w fun e w' => (∃ lv, e = .returned (.tuple #[lv, .int .i64 zn]) ∧ w'.ownsRow w.heap.size 5 1 lv zl.length (Bs zl)) ∧ Below w.heap.size w w' := by
  obtain ⟨p, c, q, m, rfl, _⟩ := hd.parts
  have hb3 : Below w.heap.size w (((w.alloc (.cells #[.int .i64 count, .slice p data.length c, .slice q ws.length m] 25)).alloc (.cells #[.int .i64 0] 26)).alloc (.cells #[.nilIface] 93)) := ((below_alloc w _).alloc (by simp) _).alloc (by simp; omega) _
  have hgt := get_any _ name count data ws (((w.alloc (.cells #[.int .i64 count, .slice p data.length c, .slice q ws.length m] 25)).alloc (.cells #[.int .i64 0] 26)).alloc (.cells #[.nilIface] 93)) (hL.below hb3) (hd.below hb3) hs r n hm
  rw [hz] at hgt
  have HG : Hid (ErrT w) := hL.err
  have hmf : ∀ (fn : Fn) (first cap : Array Value) (w : World), (Instr.makeFunc fn first cap).run Tryz.prog w = .ok (.func fn first cap) w := fun _ _ _ _ => rfl
  have hdk : (((w.alloc (.cells #[.int .i64 count, .slice p data.length c, .slice q ws.length m] 25)).alloc (.cells #[.int .i64 0] 26)).alloc (.cells #[.nilIface] 93)).heap[w.heap.size]? = some (.cells #[.int .i64 count, .slice p data.length c, .slice q ws.length m] 25 (0, 0)) := by
    have h1 := heap_alloc_new w (.cells #[.int .i64 count, .slice p data.length c, .slice q ws.length m] 25)
    have h2 := ((below_alloc (w.alloc (.cells #[.int .i64 count, .slice p data.length c, .slice q ws.length m] 25)) (.cells #[.int .i64 0] 26)).block _ (by simp)).trans h1
    exact ((below_alloc ((w.alloc (.cells #[.int .i64 count, .slice p data.length c, .slice q ws.length m] 25)).alloc (.cells #[.int .i64 0] 26)) (.cells #[.nilIface] 93)).block _ (by simp; omega)).trans h2
  obtain ⟨c0, c1, c2⟩ := three_cells hdk
  clear hL hd hm hdk hz
  go_enter_defers Tryz.func32, Tryz.ntmps32
  go_wp2_with fail
  refine hgt.mono ?_
  rintro e w1 ⟨lv, ev, rfl, hown, herr, hbb⟩
  have hs1 := hbb.size
  simp at hs1
  obtain ⟨ce, cr, fe, fr⟩ := vars2 (a := .int .i64 0) (b := .nilIface) (s := 26) (t := 93) (w.alloc (.cells #[.int .i64 count, .slice p data.length c, .slice q ws.length m] 25)) w1 hbb
  simp only [heap_size_alloc] at ce cr fe fr
  have HB : Hid (Below w.heap.size w w1) := hb3.trans (hbb.mono hb3.size)
  have HE : Hid (ErrV ev zn) := herr
  simp only [heap_size_alloc] at hown
  have HO : Hid (w1.ownsRow (w.heap.size + 1 + 1 + 1) 5 1 lv zl.length (Bs zl)) := hown
  clear hbb hgt hb3 c0 c1 c2 hown
  rcases herr with ⟨_, rfl⟩ | ⟨_, hfl⟩
  · skip
    have hoW : ((w1.setCell ⟨w.heap.size + 1 + 1, 0, none⟩ .nilIface).setCell ⟨w.heap.size + 1, 0, none⟩ (.int .i64 0)).ownsRow (w.heap.size + 1 + 1 + 1) 5 1 lv zl.length (Bs zl) := ownsRow_setCell_below (ownsRow_setCell_below HO.out (a := ⟨w.heap.size + 1 + 1, 0, none⟩) (by simp) _) (a := ⟨w.heap.size + 1, 0, none⟩) (by simp) _
    have HOW : Hid (((w1.setCell ⟨w.heap.size + 1 + 1, 0, none⟩ .nilIface).setCell ⟨w.heap.size + 1, 0, none⟩ (.int .i64 0)).ownsRow (w.heap.size + 1 + 1 + 1) 5 1 lv zl.length (Bs zl)) := hoW
    obtain ⟨lq, lm, hlv, _, _, _⟩ := own_form HO.out
    subst hlv
    have hdoor := doorV (A := ⟨w.heap.size + 1 + 1, 0, none⟩) (E := ⟨w.heap.size + 1, 0, none⟩) (by simp) cr ce fr fe (ev := .nilIface)
    have HDR : Hid (((w1.setCell ⟨w.heap.size + 1 + 1, 0, none⟩ .nilIface).setCell ⟨w.heap.size + 1, 0, none⟩ (.int .i64 0)).cell? ⟨w.heap.size + 1 + 1, 0, none⟩ = some .nilIface ∧ ((w1.setCell ⟨w.heap.size + 1 + 1, 0, none⟩ .nilIface).setCell ⟨w.heap.size + 1, 0, none⟩ (.int .i64 0)).cell? ⟨w.heap.size + 1, 0, none⟩ = some (.int .i64 0) ∧ ((w1.setCell ⟨w.heap.size + 1 + 1, 0, none⟩ .nilIface).setCell ⟨w.heap.size + 1, 0, none⟩ (.int .i64 0)).frozen? ⟨w.heap.size + 1, 0, none⟩ = false) := hdoor
    obtain ⟨ZL, hZL⟩ : ∃ ZL, zl.length = ZL := ⟨_, rfl⟩
    have HZL : Hid (zl.length = ZL) := hZL
    rw [hZL] at HO HOW ⊢
    clear hdoor hoW hZL
    go_wp2
    obtain ⟨g1, g2, g3⟩ := HDR.out
    have hbW : Below w.heap.size w ((w1.setCell ⟨w.heap.size + 1 + 1, 0, none⟩ .nilIface).setCell ⟨w.heap.size + 1, 0, none⟩ (.int .i64 0)) := (HB.out.setCell (by simp; omega) _).setCell (by simp) _
    have hoW := HOW.out
    clear HOW HDR
    generalize ((w1.setCell ⟨w.heap.size + 1 + 1, 0, none⟩ .nilIface).setCell ⟨w.heap.size + 1, 0, none⟩ (.int .i64 0)) = W at *
    refine leaves_cons (f := 78) (args := #[.pointer (some ⟨w.heap.size + 1 + 1, 0, none⟩), .pointer (some ⟨w.heap.size + 1, 0, none⟩)]) (by simp) (by simp [go_sem]) ?_
    refine (getD4 ⟨w.heap.size + 1 + 1, 0, none⟩ ⟨w.heap.size + 1, 0, none⟩ .nilIface (.int .i64 0) zn .returning _ (HG.out.below hbW) HE.out g1 g2 g3).mono ?_
    rintro e u' w'' ⟨rfl, rfl, w3, rfl, hb3⟩
    have hltE := World.block_lt_of_cell? _ _ g2
    have k1 : (w3.setCell ⟨w.heap.size + 1, 0, none⟩ (.int .i64 zn)).cell? ⟨w.heap.size + 1, 0, none⟩ = some (.int .i64 zn) := World.cell?_setCell_same _ _ _ ((hb3.cell hltE).trans g2)
    have k2 : Below w.heap.size w (w3.setCell ⟨w.heap.size + 1, 0, none⟩ (.int .i64 zn)) := (hbW.trans (hb3.mono hbW.size)).setCell (by simp) _
    have k3 := ownsRow_setCell_below (own_below hoW hb3) (a := ⟨w.heap.size + 1, 0, none⟩) (by simp) (.int .i64 zn)
    generalize w3.setCell ⟨w.heap.size + 1, 0, none⟩ (.int .i64 zn) = w4 at *
    simp [Leaves, settle, results, Tryz.results32, go_sem, k1]
    exact ⟨by rw [HZL.out]; exact own_mono k3 (by omega), k2⟩
  · obtain ⟨tx, vx, rfl⟩ := hfl.iface
    clear hfl
    have hoW : ((w1.setCell ⟨w.heap.size + 1 + 1, 0, none⟩ (.iface tx vx)).setCell ⟨w.heap.size + 1, 0, none⟩ (.int .i64 0)).ownsRow (w.heap.size + 1 + 1 + 1) 5 1 lv zl.length (Bs zl) := ownsRow_setCell_below (ownsRow_setCell_below HO.out (a := ⟨w.heap.size + 1 + 1, 0, none⟩) (by simp) _) (a := ⟨w.heap.size + 1, 0, none⟩) (by simp) _
    have HOW : Hid (((w1.setCell ⟨w.heap.size + 1 + 1, 0, none⟩ (.iface tx vx)).setCell ⟨w.heap.size + 1, 0, none⟩ (.int .i64 0)).ownsRow (w.heap.size + 1 + 1 + 1) 5 1 lv zl.length (Bs zl)) := hoW
    obtain ⟨lq, lm, hlv, _, _, _⟩ := own_form HO.out
    subst hlv
    have hdoor := doorV (A := ⟨w.heap.size + 1 + 1, 0, none⟩) (E := ⟨w.heap.size + 1, 0, none⟩) (by simp) cr ce fr fe (ev := (.iface tx vx))
    have HDR : Hid (((w1.setCell ⟨w.heap.size + 1 + 1, 0, none⟩ (.iface tx vx)).setCell ⟨w.heap.size + 1, 0, none⟩ (.int .i64 0)).cell? ⟨w.heap.size + 1 + 1, 0, none⟩ = some (.iface tx vx) ∧ ((w1.setCell ⟨w.heap.size + 1 + 1, 0, none⟩ (.iface tx vx)).setCell ⟨w.heap.size + 1, 0, none⟩ (.int .i64 0)).cell? ⟨w.heap.size + 1, 0, none⟩ = some (.int .i64 0) ∧ ((w1.setCell ⟨w.heap.size + 1 + 1, 0, none⟩ (.iface tx vx)).setCell ⟨w.heap.size + 1, 0, none⟩ (.int .i64 0)).frozen? ⟨w.heap.size + 1, 0, none⟩ = false) := hdoor
    obtain ⟨ZL, hZL⟩ : ∃ ZL, zl.length = ZL := ⟨_, rfl⟩
    have HZL : Hid (zl.length = ZL) := hZL
    rw [hZL] at HO HOW ⊢
    clear hdoor hoW hZL
    go_wp2
    obtain ⟨g1, g2, g3⟩ := HDR.out
    have hbW : Below w.heap.size w ((w1.setCell ⟨w.heap.size + 1 + 1, 0, none⟩ (.iface tx vx)).setCell ⟨w.heap.size + 1, 0, none⟩ (.int .i64 0)) := (HB.out.setCell (by simp; omega) _).setCell (by simp) _
    have hoW := HOW.out
    clear HOW HDR
    generalize ((w1.setCell ⟨w.heap.size + 1 + 1, 0, none⟩ (.iface tx vx)).setCell ⟨w.heap.size + 1, 0, none⟩ (.int .i64 0)) = W at *
    refine leaves_cons (f := 78) (args := #[.pointer (some ⟨w.heap.size + 1 + 1, 0, none⟩), .pointer (some ⟨w.heap.size + 1, 0, none⟩)]) (by simp) (by simp [go_sem]) ?_
    refine (getD4 ⟨w.heap.size + 1 + 1, 0, none⟩ ⟨w.heap.size + 1, 0, none⟩ (.iface tx vx) (.int .i64 0) zn .returning _ (HG.out.below hbW) HE.out g1 g2 g3).mono ?_
    rintro e u' w'' ⟨rfl, rfl, w3, rfl, hb3⟩
    have hltE := World.block_lt_of_cell? _ _ g2
    have k1 : (w3.setCell ⟨w.heap.size + 1, 0, none⟩ (.int .i64 zn)).cell? ⟨w.heap.size + 1, 0, none⟩ = some (.int .i64 zn) := World.cell?_setCell_same _ _ _ ((hb3.cell hltE).trans g2)
    have k2 : Below w.heap.size w (w3.setCell ⟨w.heap.size + 1, 0, none⟩ (.int .i64 zn)) := (hbW.trans (hb3.mono hbW.size)).setCell (by simp) _
    have k3 := ownsRow_setCell_below (own_below hoW hb3) (a := ⟨w.heap.size + 1, 0, none⟩) (by simp) (.int .i64 zn)
    generalize w3.setCell ⟨w.heap.size + 1, 0, none⟩ (.int .i64 zn) = w4 at *
    simp [Leaves, settle, results, Tryz.results32, go_sem, k1]
    exact ⟨by rw [HZL.out]; exact own_mono k3 (by omega), k2⟩
end Go.Proofs.YthifpelappedcaaGreatDoor
namespace Go.Proofs.YthifpelappedcaaGreatDoor
open Go.RowKit Go.WideShapes Rm

theorem slotR_ex (count : Int) (xs : List Nat) : ∃ a, SlotR ltS count xs a := by
  by_cases h : ∃ x, IsDir ltS x xs ∧ errK count (allPcs x.files) = 0
  · obtain ⟨x, hx⟩ := h
    exact ⟨some x, hx⟩
  · exact ⟨none, fun x hx he => h ⟨x, hx, he⟩⟩
theorem mountIs_ex (count : Int) (data : List Nat) (ws : Puts) : ∃ r n, MountIs count data ws r n := by
  by_cases ho : Okay count data ws
  · by_cases hc : count < 96
    · exact ⟨none, 40, .inr (.inl ⟨ho, hc, rfl, rfl⟩)⟩
    · obtain ⟨a, ha⟩ := slotR_ex count (slotK data ws 0 8)
      obtain ⟨b, hb⟩ := slotR_ex count (slotK data ws 8 8)
      exact ⟨mountR a b, _, .inr (.inr ⟨ho, by omega, a, b, ha, hb, rfl, rfl⟩)⟩
  · exact ⟨none, 20, .inl ⟨ho, rfl, rfl⟩⟩
/-- A row of texts of one's own, read. -/
theorem own_text {w : World} {base n : Nat} {q : Option Addr} {m c : Nat} {l : List FileV} (h : w.ownsRow base 9 1 (.slice q m c) n (Ts l)) (hn : n = l.length) {k : Nat} (hk : k < l.length) : ∃ g, q = some ⟨g, 0, none⟩ ∧ w.cell? ⟨g, k, none⟩ = some (.string (l.getD k zeroF).name) := by
  subst hn
  rcases h.2 with ⟨_, h0⟩ | ⟨g, cap, cur, hv, _, hg, h1, _, _, _⟩
  · omega
  · obtain ⟨rfl, rfl, rfl⟩ := Value.slice.inj hv
    refine ⟨g, rfl, ?_⟩
    rw [World.ownsRow.cellAt h k (by omega)]
    simp [Ts, List.getD, List.getElem?_eq_getElem hk]
set_option maxRecDepth 8000 in
set_option maxHeartbeats 2000000 in
theorem rsameTexts_yes (v1 v2 : Value) (b1 b2 : Nat) (l : List FileV) (w : World) (h1 : w.ownsRow b1 9 1 v1 l.length (Ts l)) (h2 : w.ownsRow b2 9 1 v2 l.length (Ts l)) :
    Calls Tryz.prog 37 #[v1, v2] w fun e w' => e = .returned (.bool true) ∧ Below w.heap.size w w' := by
  obtain ⟨q1, m1, rfl, hm1, hx1, _⟩ := own_form h1
  obtain ⟨q2, m2, rfl, hm2, hx2, _⟩ := own_form h2
  unfold maxLen at hx1 hx2
  have H1 : Hid (w.ownsRow b1 9 1 (.slice q1 l.length m1) l.length (Ts l)) := h1
  have H2 : Hid (w.ownsRow b2 9 1 (.slice q2 l.length m2) l.length (Ts l)) := h2
  clear h1 h2
  obtain ⟨L, hL⟩ : ∃ L, l.length = L := ⟨_, rfl⟩
  have HL : Hid (l.length = L) := hL
  rw [hL] at hm1 hm2 H1 H2 ⊢
  clear hL
  go_enter Tryz.func37, Tryz.ntmps37
  go_wp2
  go_loopw [5] (fun i wr => ∃ k : Nat, k ≤ L ∧ i = .int .i64 (k : Int) ∧ Below w.heap.size w wr) (fun i _ => L - (intOf i).toNat)
  case atStart => exact ⟨0, by omega, rfl, Below.refl _ _⟩
  case round =>
    obtain ⟨k, hk, rfl, hbw⟩ := hrel
    have HB : Hid (Below w.heap.size w wr) := hbw
    clear hbw
    by_cases hkl : k < L
    · have hkI : (k : Int) < (L : Int) := by omega
      have hkI0 : (0 : Int) ≤ (k : Int) := by omega
      have hkl2 : k < l.length := by have := HL.out; omega
      obtain ⟨g1, rfl, y1⟩ := own_text H1.out HL.out.symm hkl2
      obtain ⟨g2, rfl, y2⟩ := own_text H2.out HL.out.symm hkl2
      have z1 := (HB.out.cell (World.block_lt_of_cell? _ _ y1)).trans y1
      have z2 := (HB.out.cell (World.block_lt_of_cell? _ _ y2)).trans y2
      clear y1 y2
      have HKL : Hid (k < L) := hkl
      clear hkl hkl2 hk
      generalize (l.getD k zeroF).name = nm at *
      go_wp2
      go_quiet (fail)
      go_wp2
      go_roundw
      case rel => exact ⟨k + 1, HKL.out, by go_num, below_drewN HB.out _⟩
      case measure => have := HKL.out; simp [intOf]; omega
    · have hkI : (L : Int) ≤ (k : Int) := by omega
      obtain rfl : k = L := by omega
      clear hkl
      go_wp2
      go_ret
      exact ⟨rfl, HB.out⟩
end Go.Proofs.YthifpelappedcaaGreatDoor
namespace Go.Proofs.YthifpelappedcaaGreatDoor
set_option maxRecDepth 8000
open Go.RowKit Go.WideShapes

set_option maxHeartbeats 4000000 in
theorem rsame_any (v1 v2 : Value) (c1 c2 : Int) (d1 d2 : List Nat) (w1 w2 : Puts) (w : World) (h1 : DiskIn w v1 c1 d1 w1) (h2 : DiskIn w v2 c2 d2 w2) (b : Bool) (hb : b = true ↔ SameD c1 c2 d1 d2 w1 w2) :
    Calls Tryz.prog 30 #[v1, v2] w fun e w' => e = .returned (.bool b) ∧ Below w.heap.size w w' := by
  obtain ⟨p1, k1, q1, m1, rfl, hb1, _, _, _, hq1, hm1, hmm1, _⟩ := h1.parts
  obtain ⟨p2, k2, q2, m2, rfl, hb2, _, _, _, hq2, hm2, hmm2, _⟩ := h2.parts
  unfold maxLen at hmm1 hmm2
  have HBB : Hid _ := hb
  have HB1 : Hid (BIn w p1 d1) := hb1
  have HB2 : Hid (BIn w p2 d2) := hb2
  have HQ1 : Hid (PutsIn w q1 w1) := hq1
  have HQ2 : Hid (PutsIn w q2 w2) := hq2
  clear hb hb1 hb2 hq1 hq2 h1 h2
  by_cases g1 : c1 = c2
  · subst g1
    have cv1 := conv_bytes (HB1.out.below ((below_alloc w (.cells #[.int .i64 c1, .slice p1 d1.length k1, .slice q1 w1.length m1] 25)).alloc (by simp) (.cells #[.int .i64 c1, .slice p2 d2.length k2, .slice q2 w2.length m2] 25))) k1
    have cv2 := conv_bytes (HB2.out.below ((below_alloc w (.cells #[.int .i64 c1, .slice p1 d1.length k1, .slice q1 w1.length m1] 25)).alloc (by simp) (.cells #[.int .i64 c1, .slice p2 d2.length k2, .slice q2 w2.length m2] 25))) k2
    by_cases g2 : d1 = d2
    · subst g2
      by_cases g3 : w1.length = w2.length
      · have G3 : Hid (w1.length = w2.length) := g3
        have g3a : w1.length ≤ w2.length := by omega
        have g3b : w2.length ≤ w1.length := by omega
        have hneb : ((w1.length : Int) != (w2.length : Int)) = false := by simp; omega
        clear g3
        go_enter Tryz.func30, Tryz.ntmps30
        go_wp2
        clear cv1 cv2
        go_loopw [5] (fun i wr => ∃ k : Nat, k ≤ w1.length ∧ i = .int .i64 k ∧ Hid (w1.take k = w2.take k) ∧ Below (w.heap.size + 2) ((w.alloc (.cells #[.int .i64 c1, .slice p1 d1.length k1, .slice q1 w1.length m1] 25)).alloc (.cells #[.int .i64 c1, .slice p2 d1.length k2, .slice q2 w2.length m2] 25)) wr) (fun i _ => w1.length - (intOf i).toNat)
        case atStart => exact ⟨0, by omega, rfl, rfl, Below.refl _ _⟩
        case round =>
          obtain ⟨k, hk, rfl, HT, hbk⟩ := hrel
          obtain ⟨hx1, hx2⟩ := box2_cells hbk
          obtain ⟨r0, r1, r2⟩ := cells3 hx2
          obtain ⟨u0, u1, u2⟩ := cells3 hx1
          have hz := box2_size hbk
          have hbw := box2_below hbk
          clear hx1 hx2
          by_cases hkl : k < w1.length
          · have hq1 := HQ1.out.below hbw
            have hq2 := HQ2.out.below hbw
            obtain ⟨bq1, oq1, rfl⟩ := hq1.addr (by omega)
            obtain ⟨bq2, oq2, rfl⟩ := hq2.addr (by omega)
            obtain ⟨e1, pk1, ck1, e2, hbi1⟩ := hq1.at2 hkl
            obtain ⟨f1, pk2, ck2, f2, hbi2⟩ := hq2.at2 (show k < w2.length by omega)
            have HST := same_step (w1 := w1) (w2 := w2) hkl (show k < w2.length by omega) HT.out
            have HNO := same_not (w1 := w1) (w2 := w2) (k := k)
            generalize w1.getD k (0, []) = y1 at *
            generalize w2.getD k (0, []) = y2 at *
            obtain ⟨s1, xs1⟩ := y1
            obtain ⟨s2, xs2⟩ := y2
            simp only at e1 e2 f1 f2 hbi1 hbi2
            have HST' : Hid _ := HST
            have HNO' : Hid _ := HNO
            have cx1 := fun n => conv_atD (w := wr.drewN n) (c := ck1) (show BIn (wr.drewN n) pk1 xs1 from hbi1) rfl
            have cx2 := fun n => conv_atD (w := wr.drewN n) (c := ck2) (show BIn (wr.drewN n) pk2 xs2 from hbi2) rfl
            have HSE : Hid (((strOf xs1).toList == (strOf xs2).toList) = decide (xs1 = xs2)) := str_eq hbi1.2 hbi2.2
            clear HST HNO hbi1 hbi2 hq1 hq2
            have hk0 : (0 : Int) ≤ (k : Int) := by omega
            have hk1 : (k : Int) < (w1.length : Int) := by omega
            have hk2 : (k : Int) < (w2.length : Int) := by omega
            by_cases gs : s1 = s2
            · have hsb : (s1 != s2) = false := by simpa using gs
              by_cases gx : xs1 = xs2
              · have HT2 : Hid (w1.take (k + 1) = w2.take (k + 1)) := HST'.out (by rw [gs, gx])
                subst gx
                clear gs HST' HNO'
                go_wp2
                go_quiet (fail)
                go_wp2
                go_roundw
                case rel => exact ⟨k + 1, by omega, by go_num, HT2, below_drewND hbk nq⟩
                case measure => simp [intOf]; omega
              · have hf : b = false := by
                  cases b with
                  | false => rfl
                  | true => exact absurd (HBB.out.1 rfl).2.2 (HNO'.out (fun h => gx (by simpa using congrArg Prod.snd h)))
                subst hf
                have hne1 : ((strOf xs1).toList == (strOf xs2).toList) = false := by rw [HSE.out]; exact decide_eq_false gx
                have hne2 : ((strOf xs1).toList != (strOf xs2).toList) = true := by simpa [bne] using hne1
                clear gs gx
                go_wp2
                go_quiet (fail)
                go_wp2
                go_ret
                exact ⟨rfl, box2_below (below_drewND hbk nq)⟩
            · have hf : b = false := by
                cases b with
                | false => rfl
                | true => exact absurd (HBB.out.1 rfl).2.2 (HNO'.out (fun h => gs (by simpa using congrArg Prod.fst h)))
              have hsb : (s1 != s2) = true := by simpa using gs
              subst hf
              clear gs cx1 cx2
              go_wp2
              go_quiet (fail)
              go_wp2
              go_ret
              exact ⟨rfl, box2_below (below_drewND hbk nq)⟩
          · obtain rfl : k = w1.length := by omega
            have ht : b = true := HBB.out.2 ⟨rfl, rfl, same_all G3.out HT.out⟩
            subst ht
            go_wp2
            go_ret
            exact ⟨rfl, hbw⟩
      · have hf : b = false := by
          cases b with
          | false => rfl
          | true => exact absurd (HBB.out.1 rfl).2.2 (fun h => g3 (by rw [h]))
        have hne : ((w1.length : Int) != (w2.length : Int)) = true := by simp; omega
        subst hf
        go_enter Tryz.func30, Tryz.ntmps30
        go_wp2
        go_ret
        exact ⟨rfl, (below_alloc _ _).alloc (by simp) _⟩
    · have hf : b = false := by
        cases b with
        | false => rfl
        | true => exact absurd (HBB.out.1 rfl).2.1 g2
      have hne1 : ((strOf d1).toList == (strOf d2).toList) = false := by rw [str_eq HB1.out.2 HB2.out.2]; exact decide_eq_false g2
      have hne2 : ((strOf d1).toList != (strOf d2).toList) = true := by simpa [bne] using hne1
      subst hf
      clear g2
      go_enter Tryz.func30, Tryz.ntmps30
      go_wp2
      go_ret
      exact ⟨rfl, (below_alloc _ _).alloc (by simp) _⟩
  · have hf : b = false := by
      cases b with
      | false => rfl
      | true => exact absurd (HBB.out.1 rfl).1 g1
    have hne : (c1 != c2) = true := by simpa using g1
    subst hf
    clear g1
    go_enter Tryz.func30, Tryz.ntmps30
    go_wp2
    go_ret
    exact ⟨rfl, (below_alloc _ _).alloc (by simp) _⟩
end Go.Proofs.YthifpelappedcaaGreatDoor
namespace Go.Proofs.YthifpelappedcaaGreatDoor
open Go.RowKit Go.WideShapes Rm

/-- Is a disk larger than the statements go through? -/
def largeL (count : Int) (data : List Nat) (ws : Puts) : Prop := (40000 < data.length ∧ 0 < count ∧ count ≤ 4096) ∨ 600000 < data.length ∨ 300 < ws.length
instance (count : Int) (data : List Nat) (ws : Puts) : Decidable (largeL count data ws) := by unfold largeL; infer_instance
set_option maxRecDepth 20000 in
set_option maxHeartbeats 4000000 in
theorem large4_any (v : Value) (count : Int) (data : List Nat) (ws : Puts) (w : World) (hd : DiskIn w v count data ws) :
    Calls Tryz.prog 24 #[v] w fun e w' => e = .returned (.bool (decide (largeL count data ws))) ∧ Below w.heap.size w w' := by
  obtain ⟨p, c, q, m, rfl, _⟩ := hd.parts
  clear hd
  generalize hL : data.length = L at *
  generalize hM : ws.length = M at *
  have hl : largeL count data ws ↔ ((40000 < L ∧ 0 < count ∧ count ≤ 4096) ∨ 600000 < L ∨ 300 < M) := by unfold largeL; rw [hL, hM]
  have HL : Hid _ := hl
  clear hl hL hM
  have h : (40000 < L ∧ 0 < count ∧ count ≤ 4096) ∨ ((L ≤ 40000 ∨ (40000 < L ∧ count ≤ 0) ∨ (40000 < L ∧ 0 < count ∧ 4096 < count)) ∧ (600000 < L ∨ (L ≤ 600000 ∧ (300 < M ∨ M ≤ 300)))) := by omega
  rcases h with ⟨a1, a2, a3⟩ | ⟨a1 | ⟨a1, a2⟩ | ⟨a1, a2, a3⟩, b1 | ⟨b1, d1 | d1⟩⟩
  all_goals first | omega | skip
  all_goals
    obtain ⟨bb, HV⟩ : ∃ bb, Hid (decide (largeL count data ws) = bb) := ⟨_, rfl⟩
    have HW : Hid ((bb = true ∧ largeL count data ws) ∨ (bb = false ∧ ¬ largeL count data ws)) := by
      rw [← HV.out]
      by_cases h : largeL count data ws
      · exact .inl ⟨decide_eq_true h, h⟩
      · exact .inr ⟨decide_eq_false h, h⟩
    go_enter Tryz.func24, Tryz.ntmps24
    go_wp2
    go_ret
    refine ⟨?_, below_alloc _ _⟩
    rw [HV.out]
    rcases HW.out with ⟨rfl, h⟩ | ⟨rfl, h⟩ <;> rw [HL.out] at h <;> first | rfl | (exfalso; omega) | (simp; omega)
theorem nowK_mem {ws : Puts} {n : Int} {k : Nat} {xs : List Nat} (hk : k ≤ ws.length) (h : nowK ws n k = some xs) : ∃ y ∈ ws, y.2 = xs := by
  induction k with
  | zero => simp [nowK] at h
  | succ k ih =>
    unfold nowK at h
    split at h
    · rename_i hc
      simp only [Option.some.injEq] at h
      exact ⟨ws.getD k (0, []), by
        rw [List.getD_eq_getElem?_getD, List.getElem?_eq_getElem (by omega : k < ws.length)]; exact List.getElem_mem _, h⟩
    · exact ih (by omega) h
theorem nowN_byteF {w : World} {v : Value} {count : Int} {data : List Nat} {ws : Puts} (hd : DiskIn w v count data ws) (n : Int) : ∀ c ∈ nowN data ws n, c < 256 := by
  obtain ⟨p, c, q, m, rfl, hb, _, _, _, hqp, _⟩ := hd.parts
  intro x hi
  unfold nowN at hi
  cases hk : nowK ws n ws.length with
  | none =>
    rw [hk] at hi
    exact hb.2 x (List.mem_of_mem_drop (List.mem_of_mem_take hi))
  | some xs =>
    rw [hk] at hi
    obtain ⟨y, hy, rfl⟩ := nowK_mem (Nat.le_refl _) hk
    obtain ⟨j, hj, he⟩ := List.mem_iff_getElem.1 hy
    obtain ⟨b, o, _, hc⟩ := hqp (by omega)
    obtain ⟨_, v', _, hr⟩ := hc j hj
    rw [show ws.getD j (0, []) = y by rw [List.getD_eq_getElem?_getD, List.getElem?_eq_getElem hj]; exact he] at hr
    obtain ⟨_, _, _, h2, _⟩ := hr.lies
    exact h2.2 x hi
theorem getN_byte {w : World} {v : Value} {count : Int} {data : List Nat} {ws : Puts} (hd : DiskIn w v count data ws) (r : Option (DirV × Int)) (n : Int) (name : ByteArray) : ∀ c ∈ (getN data ws r n name).2, c < 256 := by
  intro c hc
  unfold getN at hc
  rcases r with _ | ⟨x, at_⟩
  · simp at hc
  · simp only at hc
    split at hc
    · split at hc
      · have h := List.mem_of_mem_take hc
        obtain ⟨n', _, h2⟩ := List.mem_flatMap.1 h
        exact nowN_byteF hd n' c h2
      · simp at hc
    · simp at hc
/-- A row of bytes of one's own that is written over. -/
def U8R (w : World) (n : Nat) : Option Addr → Prop
  | none => n = 0
  | some a => ∃ g, a = ⟨g, 0, none⟩ ∧ ∃ cs, w.heap[g]? = some (.cells cs 5 (0, 0)) ∧ n ≤ cs.size ∧ ∀ i, i < n → ∃ x : Int, cs[i]? = some (.int .u8 x)
theorem u8r_own {w : World} {base : Nat} {q : Option Addr} {m : Nat} {xs : List Nat} (h : w.ownsRow base 5 1 (.slice q xs.length m) xs.length (Bs xs)) : U8R w xs.length q := by
  rcases h.2 with ⟨hv, h0⟩ | ⟨g, cap, cur, hv, hb, hg, h1, _, h3, h4⟩
  · obtain ⟨rfl, _, _⟩ := Value.slice.inj hv
    exact h0
  · obtain ⟨rfl, _, rfl⟩ := Value.slice.inj hv
    refine ⟨g, rfl, cur, hg, by omega, fun i hi => ⟨((xs.getD i 0 : Nat) : Int), ?_⟩⟩
    have h5 := congrArg (fun l : List Value => l[i]?) h4
    simp only [Nat.mul_one] at h5
    rw [List.getElem?_take_of_lt hi] at h5
    rw [← Array.getElem?_toList, h5]
    simp [Bs, List.getD_eq_getElem?_getD, List.getElem?_eq_getElem hi]
theorem U8R.below {w w' : World} {n : Nat} {q : Option Addr} (h : U8R w n q) (hb : Below w.heap.size w w') : U8R w' n q := by
  rcases q with _ | a
  · exact h
  · obtain ⟨g, e, cs, h1, h2, h3⟩ := h
    exact ⟨g, e, cs, (hb.block _ (lt_heap h1)).trans h1, h2, h3⟩
theorem U8R.set {w : World} {n g : Nat} (h : U8R w n (some ⟨g, 0, none⟩)) (o : Nat) (x : Int) : U8R (w.setCell ⟨g, o, none⟩ (.int .u8 x)) n (some ⟨g, 0, none⟩) := by
  obtain ⟨g', e, cs, h1, h2, h3⟩ := h
  cases e
  refine ⟨g, rfl, _, heap_setCell_same w g o _ _ _ h1, by simpa using h2, fun i hi => ?_⟩
  by_cases ho : o = i
  · subst ho
    have ho2 : o < cs.size := by omega
    exact ⟨x, by simp [ho2]⟩
  · rw [Array.getElem?_setIfInBounds_ne ho]
    exact h3 i hi
set_option maxRecDepth 8000 in
set_option maxHeartbeats 16000000 in
theorem reads_main (v : Value) (count : Int) (data : List Nat) (ws : Puts) (name : ByteArray) (w : World) (hL : Laid w) (hd : DiskIn w v count data ws) (hsz : ∀ y ∈ ws, y.2.length ≤ 140737488355328) (hlg : ¬ largeL count data ws) (hr : name.size ≤ 1000) :
    Calls Tryz.prog 6 #[v, .string name] w fun e w' => e = .returned (.bool true) ∧ Below w.heap.size w w' := by
  obtain ⟨p, c, q, m, rfl, _⟩ := hd.parts
  obtain ⟨r, n, hm⟩ := mountIs_ex count data ws
  obtain ⟨zn, zl, hz⟩ : ∃ zn zl, getN data ws r n name = (zn, zl) := ⟨_, _, rfl⟩
  have HM : Hid (MountIs count data ws r n ∧ getN data ws r n name = (zn, zl)) := ⟨hm, hz⟩
  have HLD : Hid (Laid w) := hL
  have HSZ : Hid (data.length ≤ 140737488355328 ∧ (∀ y ∈ ws, y.2.length ≤ 140737488355328) ∧ ws.length ≤ 100000) := ⟨by unfold largeL at hlg; omega, hsz, by unfold largeL at hlg; omega⟩
  have HCW : Hid ((Lit.int .i64 count).wf = true) := hd.count_wf
  have HPW : Hid (∀ y ∈ ws, (Lit.int .i64 y.1).wf = true) := hd.puts_wf
  have HD : Hid (DiskIn w (.agg #[.int .i64 count, .slice p data.length c, .slice q ws.length m]) count data ws) := hd
  have HLG : Hid (decide (largeL count data ws) = false) := decide_eq_false hlg
  have HNS : Hid ((name.size : Int) ≤ 9223372036854775807) := by show _ ≤ _; omega
  have g0 : decide ((1000 : Int) < (name.size : Int)) = false := decide_eq_false (by omega)
  clear hd hlg hr hsz hm hz hL
  go_enter Tryz.func6, Tryz.ntmps6
  go_wp2_with fail
  refine (large4_any _ count data ws _ (HD.out.below (below_alloc w _))).mono ?_
  rintro e w1 ⟨rfl, hb1⟩
  rw [HLG.out]
  have HX1 : Hid (w1.heap[w.heap.size]? = some (.cells #[.int .i64 count, .slice p data.length c, .slice q ws.length m] 25 (0, 0))) := (hb1.block _ (by simp)).trans (heap_alloc_new w _)
  have HB1 : Hid (Below w.heap.size w w1) := below_bt (below_alloc w _) hb1
  clear hb1
  obtain ⟨c0, c1, c2⟩ := three_cells HX1.out
  go_wp2_with fail
  refine (twin_any _ count data ws _ (HD.out.below HB1.out) HSZ.out.1 HSZ.out.2.1 HSZ.out.2.2).mono ?_
  rintro e w2 ⟨⟨vT, rfl, hvT⟩, hb2⟩
  have hnT := hvT.toIn HCW.out HPW.out
  obtain ⟨pT, cT, qT, mT, rfl, _⟩ := hnT.parts
  have HT2 : Hid (DiskIn w2 (.agg #[.int .i64 count, .slice pT data.length cT, .slice qT ws.length mT]) count data ws) := hnT
  have HX2 : Hid (w2.heap[w.heap.size]? = some (.cells #[.int .i64 count, .slice p data.length c, .slice q ws.length m] 25 (0, 0))) := (hb2.block _ (lt_heap HX1.out)).trans HX1.out
  have HB2 : Hid (Below w.heap.size w w2) := below_bt HB1.out hb2
  clear hb2 hnT hvT c0 c1 c2 g0
  go_wp2_with fail
  refine (Get_any _ name count data ws _ (HLD.out.below (below_bt HB2.out (below_alloc _ _))) (HT2.out.below (below_alloc _ _)) HNS.out r n HM.out.1 zn zl HM.out.2).mono ?_
  rintro e w3 ⟨⟨lv, rfl, ho3⟩, hb3⟩
  have HO3 : Hid (w3.heap[w2.heap.size]? = some (.cells #[.int .i64 count, .slice pT data.length cT, .slice qT ws.length mT] 25 (0, 0))) := (hb3.block _ (by simp)).trans (heap_alloc_new w2 _)
  have HX3 : Hid (w3.heap[w.heap.size]? = some (.cells #[.int .i64 count, .slice p data.length c, .slice q ws.length m] 25 (0, 0))) := ((below_bt (below_alloc _ _) hb3).block _ (lt_heap HX2.out)).trans HX2.out
  have HC3 : Hid (Below w2.heap.size w2 w3) := below_bt (below_alloc _ _) hb3
  have HW3 : Hid (Below (w2.alloc (.cells #[.int .i64 count, .slice pT data.length cT, .slice qT ws.length mT] 25)).heap.size (w2.alloc (.cells #[.int .i64 count, .slice pT data.length cT, .slice qT ws.length mT] 25)) w3) := hb3
  obtain ⟨aq, am, rfl, hal, ham, haq⟩ := own_form ho3
  rw [heap_size_alloc] at ho3
  have HA3 : Hid (w3.ownsRow (w2.heap.size + 1) 5 1 (.slice aq zl.length am) zl.length (Bs zl)) := ho3
  clear hb3 ho3
  obtain ⟨c0, c1, c2⟩ := three_cells HX3.out
  go_wp2_with fail
  refine (rGet_any _ name count data ws w3 (HD.out.below (below_bt HB2.out HC3.out)) HNS.out r n HM.out.1).mono ?_
  rintro e w4 ⟨bv, rfl, ho4, hb4⟩
  have HO4 : Hid (w4.heap[w2.heap.size]? = some (.cells #[.int .i64 count, .slice pT data.length cT, .slice qT ws.length mT] 25 (0, 0))) := (hb4.block _ (lt_heap HO3.out)).trans HO3.out
  have HX4 : Hid (w4.heap[w.heap.size]? = some (.cells #[.int .i64 count, .slice p data.length c, .slice q ws.length m] 25 (0, 0))) := (hb4.block _ (lt_heap HX3.out)).trans HX3.out
  have HC4 : Hid (Below w2.heap.size w2 w4) := below_bt HC3.out hb4
  have HW4 : Hid (Below (w2.alloc (.cells #[.int .i64 count, .slice pT data.length cT, .slice qT ws.length mT] 25)).heap.size (w2.alloc (.cells #[.int .i64 count, .slice pT data.length cT, .slice qT ws.length mT] 25)) w4) := below_bt HW3.out hb4
  rw [HM.out.2] at ho4 ⊢
  simp only at ho4 ⊢
  obtain ⟨bq, bm, rfl, _, _, _⟩ := own_form ho4
  have HA4 : Hid (w4.ownsRow (w2.heap.size + 1) 5 1 (.slice aq zl.length am) zl.length (Bs zl)) := own_below HA3.out hb4
  have HB4 : Hid (w4.ownsRow w3.heap.size 5 1 (.slice bq zl.length bm) zl.length (Bs zl)) := ho4
  clear hb4 c0 c1 c2 ho4 HA3
  obtain ⟨c0, c1, c2⟩ := three_cells HO4.out
  go_wp2_with fail
  refine (Names_any _ count data ws w4 (HLD.out.below (below_bt HB2.out HC4.out)) (HT2.out.below HC4.out) r n HM.out.1).mono ?_
  rintro e w5 ⟨⟨nv, rfl, ho5⟩, hb5⟩
  have HO5 : Hid (w5.heap[w2.heap.size]? = some (.cells #[.int .i64 count, .slice pT data.length cT, .slice qT ws.length mT] 25 (0, 0))) := (hb5.block _ (lt_heap HO4.out)).trans HO4.out
  have HX5 : Hid (w5.heap[w.heap.size]? = some (.cells #[.int .i64 count, .slice p data.length c, .slice q ws.length m] 25 (0, 0))) := (hb5.block _ (lt_heap HX4.out)).trans HX4.out
  have HC5 : Hid (Below w2.heap.size w2 w5) := below_bt HC4.out hb5
  have HW5 : Hid (Below (w2.alloc (.cells #[.int .i64 count, .slice pT data.length cT, .slice qT ws.length mT] 25)).heap.size (w2.alloc (.cells #[.int .i64 count, .slice pT data.length cT, .slice qT ws.length mT] 25)) w5) := below_bt HW4.out hb5
  obtain ⟨nq, nm, rfl, _, _, _⟩ := own_form ho5
  have HA5 : Hid (w5.ownsRow (w2.heap.size + 1) 5 1 (.slice aq zl.length am) zl.length (Bs zl)) := own_below HA4.out hb5
  have HB5 : Hid (w5.ownsRow w3.heap.size 5 1 (.slice bq zl.length bm) zl.length (Bs zl)) := own_below HB4.out hb5
  have HN5 : Hid (w5.ownsRow w4.heap.size 9 1 (.slice nq (namesN r).length nm) (namesN r).length (Ts (namesN r))) := ho5
  clear hb5 c0 c1 c2 ho5 HA4 HB4
  obtain ⟨c0, c1, c2⟩ := three_cells HX5.out
  go_wp2_with fail
  refine (rNames_any _ count data ws w5 (HD.out.below (below_bt HB2.out HC5.out)) r n HM.out.1).mono ?_
  rintro e w6 ⟨⟨mv, rfl, ho6⟩, hb6⟩
  have HO6 : Hid (w6.heap[w2.heap.size]? = some (.cells #[.int .i64 count, .slice pT data.length cT, .slice qT ws.length mT] 25 (0, 0))) := (hb6.block _ (lt_heap HO5.out)).trans HO5.out
  have HX6 : Hid (w6.heap[w.heap.size]? = some (.cells #[.int .i64 count, .slice p data.length c, .slice q ws.length m] 25 (0, 0))) := (hb6.block _ (lt_heap HX5.out)).trans HX5.out
  have HC6 : Hid (Below w2.heap.size w2 w6) := below_bt HC5.out hb6
  have HW6 : Hid (Below (w2.alloc (.cells #[.int .i64 count, .slice pT data.length cT, .slice qT ws.length mT] 25)).heap.size (w2.alloc (.cells #[.int .i64 count, .slice pT data.length cT, .slice qT ws.length mT] 25)) w6) := below_bt HW5.out hb6
  obtain ⟨oq, om, rfl, _, _, _⟩ := own_form ho6
  have HA6 : Hid (w6.ownsRow (w2.heap.size + 1) 5 1 (.slice aq zl.length am) zl.length (Bs zl)) := own_below HA5.out hb6
  have HB6 : Hid (w6.ownsRow w3.heap.size 5 1 (.slice bq zl.length bm) zl.length (Bs zl)) := own_below HB5.out hb6
  have HN6 : Hid (w6.ownsRow w4.heap.size 9 1 (.slice nq (namesN r).length nm) (namesN r).length (Ts (namesN r))) := own_below HN5.out hb6
  have HM6 : Hid (w6.ownsRow w5.heap.size 9 1 (.slice oq (namesN r).length om) (namesN r).length (Ts (namesN r))) := ho6
  clear hb6 c0 c1 c2 ho6 HA5 HB5 HN5
  obtain ⟨c0, c1, c2⟩ := three_cells HO6.out
  go_wp2_with fail
  refine (Room_any _ count data ws w6 (HLD.out.below (below_bt HB2.out HC6.out)) (HT2.out.below HC6.out) r n HM.out.1).mono ?_
  rintro e w7 ⟨rfl, hb7⟩
  have HO7 : Hid (w7.heap[w2.heap.size]? = some (.cells #[.int .i64 count, .slice pT data.length cT, .slice qT ws.length mT] 25 (0, 0))) := (hb7.block _ (lt_heap HO6.out)).trans HO6.out
  have HX7 : Hid (w7.heap[w.heap.size]? = some (.cells #[.int .i64 count, .slice p data.length c, .slice q ws.length m] 25 (0, 0))) := (hb7.block _ (lt_heap HX6.out)).trans HX6.out
  have HC7 : Hid (Below w2.heap.size w2 w7) := below_bt HC6.out hb7
  have HW7 : Hid (Below (w2.alloc (.cells #[.int .i64 count, .slice pT data.length cT, .slice qT ws.length mT] 25)).heap.size (w2.alloc (.cells #[.int .i64 count, .slice pT data.length cT, .slice qT ws.length mT] 25)) w7) := below_bt HW6.out hb7
  have HA7 : Hid (w7.ownsRow (w2.heap.size + 1) 5 1 (.slice aq zl.length am) zl.length (Bs zl)) := own_below HA6.out hb7
  have HB7 : Hid (w7.ownsRow w3.heap.size 5 1 (.slice bq zl.length bm) zl.length (Bs zl)) := own_below HB6.out hb7
  have HN7 : Hid (w7.ownsRow w4.heap.size 9 1 (.slice nq (namesN r).length nm) (namesN r).length (Ts (namesN r))) := own_below HN6.out hb7
  have HM7 : Hid (w7.ownsRow w5.heap.size 9 1 (.slice oq (namesN r).length om) (namesN r).length (Ts (namesN r))) := own_below HM6.out hb7
  clear hb7 c0 c1 c2 HA6 HB6 HN6 HM6
  obtain ⟨c0, c1, c2⟩ := three_cells HX7.out
  go_wp2_with fail
  refine (rRoom_any _ count data ws w7 (HD.out.below (below_bt HB2.out HC7.out)) r n HM.out.1).mono ?_
  rintro e w8 ⟨rfl, hb8⟩
  have HO8 : Hid (w8.heap[w2.heap.size]? = some (.cells #[.int .i64 count, .slice pT data.length cT, .slice qT ws.length mT] 25 (0, 0))) := (hb8.block _ (lt_heap HO7.out)).trans HO7.out
  have HX8 : Hid (w8.heap[w.heap.size]? = some (.cells #[.int .i64 count, .slice p data.length c, .slice q ws.length m] 25 (0, 0))) := (hb8.block _ (lt_heap HX7.out)).trans HX7.out
  have HC8 : Hid (Below w2.heap.size w2 w8) := below_bt HC7.out hb8
  have HW8 : Hid (Below (w2.alloc (.cells #[.int .i64 count, .slice pT data.length cT, .slice qT ws.length mT] 25)).heap.size (w2.alloc (.cells #[.int .i64 count, .slice pT data.length cT, .slice qT ws.length mT] 25)) w8) := below_bt HW7.out hb8
  have HA8 : Hid (w8.ownsRow (w2.heap.size + 1) 5 1 (.slice aq zl.length am) zl.length (Bs zl)) := own_below HA7.out hb8
  have HB8 : Hid (w8.ownsRow w3.heap.size 5 1 (.slice bq zl.length bm) zl.length (Bs zl)) := own_below HB7.out hb8
  have HN8 : Hid (w8.ownsRow w4.heap.size 9 1 (.slice nq (namesN r).length nm) (namesN r).length (Ts (namesN r))) := own_below HN7.out hb8
  have HM8 : Hid (w8.ownsRow w5.heap.size 9 1 (.slice oq (namesN r).length om) (namesN r).length (Ts (namesN r))) := own_below HM7.out hb8
  clear hb8 c0 c1 c2 HA7 HB7 HN7 HM7
  have hby : ∀ c ∈ zl, c < 256 := by have h := getN_byte HD.out r n name; rw [HM.out.2] at h; exact h
  have hcv1 := conv_bytes (own_in HA8.out hby) am
  have hcv2 := conv_bytes (own_in HB8.out hby) bm
  have HU8 : Hid (U8R w8 zl.length aq) := u8r_own HA8.out
  have HGB : Hid (∀ g, aq = some ⟨g, 0, none⟩ → (w2.alloc (.cells #[.int .i64 count, .slice pT data.length cT, .slice qT ws.length mT] 25)).heap.size ≤ g) := fun g hg => by
    have h := World.ownsRow.lt HA8.out g (by rw [hg]; rfl)
    rw [heap_size_alloc]
    exact h.1
  have hst := rsameTexts_yes _ _ _ _ _ _ HN8.out HM8.out
  obtain ⟨ZL, hZL⟩ : ∃ ZL, zl.length = ZL := ⟨_, rfl⟩
  obtain ⟨NL, hNL⟩ : ∃ NL, (namesN r).length = NL := ⟨_, rfl⟩
  rw [hZL] at hcv1 hcv2 HU8 hal ⊢
  rw [hNL] at hst ⊢
  unfold maxLen at ham
  clear HA8 HB8 HN8 HM8 hby hZL hNL
  generalize strOf zl = stz at *
  generalize roomN count r = rn at *
  go_wp2_with fail
  refine hst.mono ?_
  rintro e w9 ⟨rfl, hb9⟩
  have HW9 : Hid (Below (w2.alloc (.cells #[.int .i64 count, .slice pT data.length cT, .slice qT ws.length mT] 25)).heap.size (w2.alloc (.cells #[.int .i64 count, .slice pT data.length cT, .slice qT ws.length mT] 25)) w9) := below_bt HW8.out hb9
  have HU9 : Hid (U8R w9 ZL aq) := HU8.out.below hb9
  have HO2 : Hid ((w2.alloc (.cells #[.int .i64 count, .slice pT data.length cT, .slice qT ws.length mT] 25)).heap[w2.heap.size]? = some (.cells #[.int .i64 count, .slice pT data.length cT, .slice qT ws.length mT] 25 (0, 0))) := heap_alloc_new _ _
  have HXW : Hid ((w2.alloc (.cells #[.int .i64 count, .slice pT data.length cT, .slice qT ws.length mT] 25)).heap[w.heap.size]? = some (.cells #[.int .i64 count, .slice p data.length c, .slice q ws.length m] 25 (0, 0))) := ((below_alloc _ _).block _ (lt_heap HX2.out)).trans HX2.out
  clear hb9 hst hcv1 hcv2 HU8 HW8 HW7 HW6 HW5 HW4 HW3 HO3 HO4 HO5 HO6 HO7 HO8 HX3 HX4 HX5 HX6 HX7 HX8
  go_wp2
  go_loopw [18] (fun i wr => ∃ k : Nat, k ≤ ZL ∧ i = .int .i64 (k : Int) ∧ U8R wr ZL aq ∧ Below (w2.alloc (.cells #[.int .i64 count, .slice pT data.length cT, .slice qT ws.length mT] 25)).heap.size (w2.alloc (.cells #[.int .i64 count, .slice pT data.length cT, .slice qT ws.length mT] 25)) wr) (fun i _ => ZL - (intOf i).toNat)
  case atStart => exact ⟨0, by omega, rfl, HU9.out, HW9.out⟩
  case round =>
    obtain ⟨k, hk, rfl, hu, hw⟩ := hrel
    have HW : Hid (Below (w2.alloc (.cells #[.int .i64 count, .slice pT data.length cT, .slice qT ws.length mT] 25)).heap.size (w2.alloc (.cells #[.int .i64 count, .slice pT data.length cT, .slice qT ws.length mT] 25)) wr) := hw
    clear hw
    by_cases hkl : k < ZL
    · have hkI : (k : Int) < (ZL : Int) := by omega
      have hkI0 : (0 : Int) ≤ (k : Int) := by omega
      have HKL : Hid (k < ZL) := hkl
      rcases aq with _ | a
      · exact absurd (show ZL = 0 from hu) (by omega)
      · obtain ⟨g, rfl, cs, hg, hn, hc⟩ := hu
        obtain ⟨xx, hx⟩ := hc k hkl
        have hcell := cell_of_row wr g k _ _ _ hg
        rw [hx] at hcell
        have hf := frozen_of_row wr g k _ _ hg
        have HU2 : Hid (U8R (wr.setCell ⟨g, k, none⟩ (.int .u8 77)) ZL (some ⟨g, 0, none⟩)) := U8R.set ⟨g, rfl, cs, hg, hn, hc⟩ k 77
        have HW3 : Hid (Below (w2.alloc (.cells #[.int .i64 count, .slice pT data.length cT, .slice qT ws.length mT] 25)).heap.size (w2.alloc (.cells #[.int .i64 count, .slice pT data.length cT, .slice qT ws.length mT] 25)) (wr.setCell ⟨g, k, none⟩ (.int .u8 77))) := HW.out.setCell (HGB.out g rfl) _
        clear hg hc hx hkl hk hn
        go_wp2
        go_roundw
        case rel => exact ⟨k + 1, HKL.out, by go_num, HU2.out, HW3.out⟩
        case measure => have := HKL.out; simp [intOf]; omega
    · have hkI : (ZL : Int) ≤ (k : Int) := by omega
      obtain ⟨c0, c1, c2⟩ := three_cells ((HW.out.block _ (lt_heap HO2.out)).trans HO2.out)
      obtain ⟨d0, d1, d2⟩ := three_cells ((HW.out.block _ (lt_heap HXW.out)).trans HXW.out)
      have hBW : Below w2.heap.size w2 wr := below_bt (below_alloc w2 _) HW.out
      have hsm := rsame_any _ _ count count data data ws ws wr (HT2.out.below hBW) (HD.out.below (below_bt HB2.out hBW)) true ⟨fun _ => ⟨rfl, rfl, rfl⟩, fun _ => rfl⟩
      have HBW : Hid (Below w.heap.size w wr) := below_bt HB2.out hBW
      clear hkl hk hu hBW
      go_wp2_with fail
      refine hsm.mono ?_
      rintro e wz ⟨rfl, hbz⟩
      have HBZ : Hid (Below w.heap.size w wz) := below_bt HBW.out hbz
      clear hbz hsm
      go_wp2
      go_ret
      exact ⟨rfl, HBZ.out⟩
end Go.Proofs.YthifpelappedcaaGreatDoor
namespace Go.Proofs.YthifpelappedcaaGreatDoor
open Go.RowKit Go.WideShapes Go.ChangeShapes Go.Deep Go.Joins Rm

set_option maxRecDepth 8000 in
set_option maxHeartbeats 100000 in
theorem reads_walk (v : Value) (count : Int) (data : List Nat) (ws : Puts) (r : ByteArray) (w : World) (hL : Laid w) (hd : DiskIn w v count data ws) (hsz : ∀ y ∈ ws, y.2.length ≤ reachBytes) (_ : r.size ≤ maxLen) :
    Calls Tryz.prog 6 #[v, .string r] w fun e w' => e = .returned (.bool true) ∧ Below w.heap.size w w' := by
  by_cases h1 : largeL count data ws
  · have HD : Hid (DiskIn w v count data ws) := hd
    obtain ⟨p, c, q, m, rfl, _⟩ := hd.parts
    have HLG : Hid (decide (largeL count data ws) = true) := decide_eq_true h1
    clear h1 hd hsz
    go_enter Tryz.func6, Tryz.ntmps6
    go_wp2_with fail
    refine (large4_any _ count data ws _ (HD.out.below (below_alloc w _))).mono ?_
    rintro e w2 ⟨rfl, hb2⟩
    rw [HLG.out]
    have HB2 : Hid (Below w.heap.size w w2) := below_bt (below_alloc w _) hb2
    clear hb2
    go_wp2
    go_ret
    exact ⟨rfl, HB2.out⟩
  · by_cases h2 : 1000 < r.size
    · have HD : Hid (DiskIn w v count data ws) := hd
      obtain ⟨p, c, q, m, rfl, _⟩ := hd.parts
      have HLG : Hid (decide (largeL count data ws) = false) := decide_eq_false h1
      have g0 : decide ((1000 : Int) < (r.size : Int)) = true := decide_eq_true (by omega)
      clear h1 hd h2 hsz
      go_enter Tryz.func6, Tryz.ntmps6
      go_wp2_with fail
      refine (large4_any _ count data ws _ (HD.out.below (below_alloc w _))).mono ?_
      rintro e w2 ⟨rfl, hb2⟩
      rw [HLG.out]
      have HB2 : Hid (Below w.heap.size w w2) := below_bt (below_alloc w _) hb2
      clear hb2
      go_wp2
      go_ret
      exact ⟨rfl, HB2.out⟩
    · exact reads_main v count data ws r w hL hd (fun y hy => Nat.le_trans (hsz y hy) (by decide)) h1 (by omega)
end Go.Proofs.YthifpelappedcaaGreatDoor
