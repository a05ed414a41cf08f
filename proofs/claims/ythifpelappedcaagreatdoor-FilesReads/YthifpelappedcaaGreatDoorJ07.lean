/-
  Contract of read.
-/
import Derived.Test.YthifpelappedcaaGreatDoorJ06
import Derived.Test.YthifpelappedcaaGreatDoorJ05
import Derived.Defers
import Derived.Recover
import Derived.Test.YthifpelappedcaaGreatDoorJ04
namespace Go.Proofs.YthifpelappedcaaGreatDoor
open Go.RowKit Go.WideShapes Rm

theorem pad_snoc (xs : List Nat) (j : Nat) : xs ++ List.replicate j 0 ++ [0] = xs ++ List.replicate (j + 1) 0 := by
  rw [List.append_assoc, List.replicate_succ']
def WrotePost (x : DirV) (w : World) (e : Ending) (w' : World) : Prop := ∃ r n b, e = .returned (.tuple #[r, .int .i64 n]) ∧ Wrote x n b ∧ w'.ownsRow w.heap.size 5 1 r b.length (Bs b) ∧ Below w.heap.size w w'
def lenOf : Value → Nat
  | .slice _ n _ => n
  | _ => 0
theorem own_some {w : World} {base n : Nat} {v : Value} {xs : List Value} (h : w.ownsRow base 5 1 v n xs) (hn : 0 < n) : ∃ g m, v = .slice (some ⟨g, 0, none⟩) n m ∧ n ≤ m ∧ m ≤ maxLen ∧ g < w.heap.size := by
  rcases h.2 with ⟨_, h0⟩ | ⟨g, cap, cur, hv, _, hg, h1, h2, _⟩
  · omega
  · exact ⟨g, cap, hv, h1, h2, lt_heap hg⟩
set_option maxRecDepth 20000 in
set_option maxHeartbeats 4000000 in
theorem rWrite_any (v : Value) (x : DirV) (w : World) (hx : DirIn w v x) (hs : ∀ f ∈ x.files, (f.name.size : Int) ≤ 9223372036854775807) (hsum : (allPcs x.files).length ≤ 1000000) :
    Calls Tryz.prog 20 #[v] w fun e w' => WrotePost x w e w' := by
  obtain ⟨fv, rfl, hf⟩ := hx.lies
  obtain ⟨gen, l⟩ := x
  have HX : Hid (DirIn w (.agg #[.int .i64 gen, fv]) ⟨gen, l⟩) := hx
  have hgw := hx.wf
  unfold wf64 at hgw
  obtain ⟨q, c, rfl, hq, hlc, hcm, _⟩ := hf.lies
  unfold maxLen at hcm
  simp only at hs hsum hlc hgw
  have HQ : Hid (FilesIn w q l) := hq
  clear hq hx hf
  by_cases h1 : l.length ≤ 32
  · by_cases hm : MayR ⟨gen, l⟩
    · have hM : May ltS ⟨gen, l⟩ := (mayR_iff h1).1 hm
      have hmy := rmay_any _ ⟨gen, l⟩ true (w.alloc (.cells #[.int .i64 gen, .slice q l.length c] 31)) ⟨fun _ => hm, fun _ => rfl⟩ (HX.out.below (below_alloc w _)) hs hsum
      have HT : Hid (Told l) := hM.told
      have hlo := hM.lo
      have hhi := hM.hi
      simp only at hlo hhi
      have HWL : Hid (952 < (insideN l).length → Wrote ⟨gen, l⟩ 42 []) := fun h => .long hM h
      have HWO : Hid ((insideN l).length ≤ 952 → Wrote ⟨gen, l⟩ 0 (bytesN ⟨gen, l⟩)) := fun h => .ok hM h
      have hlen0 := smallN_ten l.length (by omega)
      clear hm hM hs hsum
      go_enter Tryz.func20, Tryz.ntmps20
      go_wp2_with fail
      refine hmy.mono ?_
      rintro e w1 ⟨rfl, hb1⟩
      have hs1 := hb1.size
      simp at hs1
      have hbx1 : w1.heap[w.heap.size]? = some (.cells #[.int .i64 gen, .slice q l.length c] 31 (0, 0)) := (hb1.block _ (by simp)).trans (heap_alloc_new w _)
      have d1 : w1.cell? ⟨w.heap.size, 1, none⟩ = some (.slice q l.length c) := cell_of_row _ _ _ _ _ _ hbx1
      have HB1 : Hid (Below w.heap.size w w1) := (below_alloc w _).trans (hb1.mono (by simp))
      have HX1 : Hid _ := hbx1
      clear hmy hb1 hbx1
      go_wp2_with fail
      refine (rsmall4_any l.length w1 (by omega)).mono ?_
      rintro e w0 ⟨v0, rfl, ho0, hb0⟩
      rw [Int.toNat_natCast] at ho0
      have S0 : St w [(w.heap.size, #[.int .i64 gen, .slice q l.length c], 31)] w0 v0 (smallN l.length) := ⟨own_mono ho0 (by omega), HB1.out.trans (hb0.mono (by omega)), fun p hp => by
        rcases List.mem_singleton.1 hp with rfl
        exact ⟨(hb0.block _ (lt_heap HX1.out)).trans HX1.out, by simp⟩⟩
      clear ho0 hb0 HX1 HB1 d1
      go_wp2
      go_loopw [4, 5] (fun m i wr => ∃ k : Nat, k ≤ l.length ∧ i = .int .i64 k ∧ St w [(w.heap.size, #[.int .i64 gen, .slice q l.length c], 31)] wr m (smallN l.length ++ (l.take k).flatMap fileN)) (fun _ i _ => l.length - (intOf i).toNat)
      case atStart => exact ⟨0, by omega, rfl, by simpa using S0⟩
      case round =>
        obtain ⟨k, hk, rfl, hst⟩ := hrel
        clear S0
        have d1 : wr.cell? ⟨w.heap.size, 1, none⟩ = some (.slice q l.length c) := hst.cell List.mem_cons_self 1
        by_cases hkl : k < l.length
        · obtain ⟨b, o, rfl⟩ := HQ.out.addr (by omega)
          have hat := HQ.out.at hkl
          obtain ⟨e0, e1, pv, e2, hp⟩ := hat
          have f0 := (hst.bel.cell (World.block_lt_of_cell? _ _ e0)).trans e0
          have f1 := (hst.bel.cell (World.block_lt_of_cell? _ _ e1)).trans e1
          have f2 := (hst.bel.cell (World.block_lt_of_cell? _ _ e2)).trans e2
          obtain ⟨qp, cp, rfl, hqp, hlc2, hcm2, _⟩ := hp.lies
          have hmem : l.getD k zeroF ∈ l := getD_mem' hkl
          have h32 := HT.out.name _ hmem
          have hsz := HT.out.size _ hmem
          have hpl := HT.out.pcs _ hmem
          have HPC : Hid _ := HT.out.piece _ hmem
          have HPT : Hid _ := pcs_take_len HT.out hmem
          have hfl := files_take_len HT.out k
          have HFF : Hid _ := files_flat hkl
          have HFN : Hid (fileN (l.getD k zeroF) = textN (l.getD k zeroF).name ++ smallN (l.getD k zeroF).size.toNat ++ smallN (l.getD k zeroF).pcs.length ++ (l.getD k zeroF).pcs.flatMap pieceN) := rfl
          have HP : Hid (PcsIn w qp (l.getD k zeroF).pcs) := hqp
          clear hp hqp hmem e0 e1 e2
          generalize hy : l.getD k zeroF = y at *
          obtain ⟨nm, sz, pl⟩ := y
          simp only at f0 f1 f2 h32 hsz hpl hlc2
          have hal := hst.alloc #[.string nm, .int .i64 sz, .slice qp pl.length cp] 51 (by decide)
          have HA : Hid (St w [(wr.heap.size, #[.string nm, .int .i64 sz, .slice qp pl.length cp], 51), (w.heap.size, #[.int .i64 gen, .slice (some ⟨b, o, none⟩) l.length c], 31)] (wr.alloc (.cells #[.string nm, .int .i64 sz, .slice qp pl.length cp] 51)) _ (smallN l.length ++ (l.take k).flatMap fileN)) := hal
          clear hal hst
          have htx := textN_len nm (by omega)
          have hss := smallN_ten sz.toNat (by omega)
          have hsp := smallN_ten pl.length (by omega)
          unfold maxLen at hcm2
          go_wp2_with fail
          refine (refText_any nm _ (by omega)).mono ?_
          rintro e w1a ⟨v1a, rfl, ho1, hb1⟩
          have S1a := HA.out.call hb1
          obtain ⟨q1, m1, rfl, _, _, hn1⟩ := own_form ho1
          have hi1 := own_in ho1 (textN_bytes nm)
          have HS1a : Hid _ := S1a
          have HI1 : Hid _ := hi1
          have hsz1 := S1a.size
          clear S1a hi1 ho1 hb1 HA
          go_wp2_with (at_builtin; refine wpList_append_bytes _ rfl _ _ rfl w.heap.size _ _ (textN nm) q1 _ m1 rfl rfl rfl HS1a.out.own HI1.out hn1 (by simp only [List.length_append]; omega) hsz1 ?_; intro v1b w1b ho1b hg1b; have S1b := HS1a.out.app ho1b hg1b; have c11 : w1b.cell? ⟨wr.heap.size, 1, none⟩ = some (.int .i64 sz) := S1b.cell List.mem_cons_self 1; have c12 : w1b.cell? ⟨wr.heap.size, 2, none⟩ = some (.slice qp pl.length cp) := S1b.cell List.mem_cons_self 2)
          have H1 : Hid _ := S1b
          clear S1b HS1a HI1 ho1b hg1b
          go_wp2_with fail
          refine (rsmall4_any sz _ (by omega)).mono ?_
          rintro e w2a ⟨v2a, rfl, ho2, hb2⟩
          have S2a := H1.out.call hb2
          obtain ⟨q2, m2, rfl, _, _, hn2⟩ := own_form ho2
          have hi2 := own_in ho2 (smallN_bytes _)
          have HS2a : Hid _ := S2a
          have HI2 : Hid _ := hi2
          have hsz2 := S2a.size
          clear S2a hi2 ho2 hb2 H1
          go_wp2_with (at_builtin; refine wpList_append_bytes _ rfl _ _ rfl w.heap.size _ _ (smallN sz.toNat) q2 _ m2 rfl rfl rfl HS2a.out.own HI2.out hn2 (by simp only [List.length_append]; omega) hsz2 ?_; intro v2b w2b ho2b hg2b; have S2b := HS2a.out.app ho2b hg2b; have c22 : w2b.cell? ⟨wr.heap.size, 2, none⟩ = some (.slice qp pl.length cp) := S2b.cell List.mem_cons_self 2)
          have H2 : Hid _ := S2b
          clear S2b HS2a HI2 ho2b hg2b c11 c12
          go_wp2_with fail
          refine (rsmall4_any pl.length _ (by omega)).mono ?_
          rintro e w3a ⟨v3a, rfl, ho3, hb3⟩
          have S3a := H2.out.call hb3
          obtain ⟨q3, m3, rfl, _, _, hn3⟩ := own_form ho3
          have hi3 := own_in ho3 (smallN_bytes _)
          have HS3a : Hid _ := S3a
          have HI3 : Hid _ := hi3
          have hsz3 := S3a.size
          clear S3a hi3 ho3 hb3 H2
          go_wp2_with (at_builtin; refine wpList_append_bytes _ rfl _ _ rfl w.heap.size _ _ (smallN pl.length) q3 _ m3 rfl rfl rfl HS3a.out.own HI3.out hn3 (by simp only [List.length_append]; omega) hsz3 ?_; intro v3b w3b ho3b hg3b; have S3b := HS3a.out.app ho3b hg3b; have c32 : w3b.cell? ⟨wr.heap.size, 2, none⟩ = some (.slice qp pl.length cp) := S3b.cell List.mem_cons_self 2)
          have H3 : Hid (St w [(wr.heap.size, #[.string nm, .int .i64 sz, .slice qp pl.length cp], 51), (w.heap.size, #[.int .i64 gen, .slice (some ⟨b, o, none⟩) l.length c], 31)] w3b v3b (smallN l.length ++ (l.take k).flatMap fileN ++ textN nm ++ smallN sz.toNat ++ smallN pl.length)) := S3b
          clear S3b HS3a HI3 ho3b hg3b c22
          generalize hX : smallN l.length ++ (l.take k).flatMap fileN ++ textN nm ++ smallN sz.toNat ++ smallN pl.length = X at *
          have hXl : X.length ≤ 7000000 := by rw [← hX]; simp only [List.length_append]; omega
          go_wp2
          go_loopw [4, 7] (fun m i wn => ∃ j : Nat, j ≤ pl.length ∧ i = .int .i64 j ∧ St w [(wr.heap.size, #[.string nm, .int .i64 sz, .slice qp pl.length cp], 51), (w.heap.size, #[.int .i64 gen, .slice (some ⟨b, o, none⟩) l.length c], 31)] wn m (X ++ (pl.take j).flatMap pieceN)) (fun _ i _ => pl.length - (intOf i).toNat)
          case atStart => exact ⟨0, by omega, rfl, by simpa using H3.out⟩
          case round =>
            obtain ⟨j, hj, rfl, hst⟩ := hrel
            clear H3
            have c2 : wr.cell? ⟨_, 2, none⟩ = some (.slice qp pl.length cp) := hst.cell List.mem_cons_self 2
            by_cases hjl : j < pl.length
            · obtain ⟨bp, op, rfl⟩ := HP.out.addr (by omega)
              obtain ⟨a, n, hz⟩ : ∃ a n, pl.getD j (0, 0) = (a, n) := ⟨_, _, rfl⟩
              obtain ⟨e1, e2⟩ := (HP.out.below hst.bel).at hjl
              have hpt := HPT.out j
              have hpc := HPC.out _ (getD_mem' (d := (0, 0)) hjl)
              have HPF : Hid _ := pcs_flat hjl
              rw [hz] at e1 e2 hpc HPF
              simp only at e1 e2 hpc
              have HA : Hid _ := hst
              have hsa := smallN_ten a.toNat (by omega)
              have hsn := smallN_ten n.toNat (by omega)
              clear hst
              go_wp2_with fail
              refine (rsmall4_any a _ (by omega)).mono ?_
              rintro e w4a ⟨v4a, rfl, ho4, hb4⟩
              have S4a := HA.out.call hb4
              obtain ⟨q4, m4, rfl, _, _, hn4⟩ := own_form ho4
              have hi4 := own_in ho4 (smallN_bytes _)
              have HS4a : Hid _ := S4a
              have HI4 : Hid _ := hi4
              have hsz4 := S4a.size
              clear S4a hi4 ho4 hb4 HA
              go_wp2_with (at_builtin; refine wpList_append_bytes _ rfl _ _ rfl w.heap.size _ _ (smallN a.toNat) q4 _ m4 rfl rfl rfl HS4a.out.own HI4.out hn4 (by simp only [List.length_append]; omega) hsz4 ?_; intro v4b w4b ho4b hg4b; have S4b := HS4a.out.app ho4b hg4b; have c42 : w4b.cell? ⟨_, 2, none⟩ = some (.slice (some ⟨bp, op, none⟩) pl.length cp) := S4b.cell List.mem_cons_self 2; have e2b := ((HP.out.below S4b.bel).at hjl).2; rw [hz] at e2b; simp only at e2b)
              have H4 : Hid _ := S4b
              clear S4b HS4a HI4 ho4b hg4b
              go_wp2_with fail
              refine (rsmall4_any n _ (by omega)).mono ?_
              rintro e w5a ⟨v5a, rfl, ho5, hb5⟩
              have S5a := H4.out.call hb5
              obtain ⟨q5, m5, rfl, _, _, hn5⟩ := own_form ho5
              have hi5 := own_in ho5 (smallN_bytes _)
              have HS5a : Hid _ := S5a
              have HI5 : Hid _ := hi5
              have hsz5 := S5a.size
              clear S5a hi5 ho5 hb5 H4
              go_wp2_with (at_builtin; refine wpList_append_bytes _ rfl _ _ rfl w.heap.size _ _ (smallN n.toNat) q5 _ m5 rfl rfl rfl HS5a.out.own HI5.out hn5 (by simp only [List.length_append]; omega) hsz5 ?_; intro v5b w5b ho5b hg5b; have S5b := HS5a.out.app ho5b hg5b)
              have H5 : Hid _ := S5b
              clear S5b HS5a HI5 ho5b hg5b c42 e2b
              go_roundw
              case rel => exact ⟨j + 1, by omega, by go_num, H5.out.eq (by rw [HPF.out]; unfold pieceN; simp only [List.append_assoc])⟩
              case measure => simp [intOf]; omega
            · obtain rfl : j = pl.length := by omega
              rw [List.take_length] at hst
              have HS : Hid _ := hst
              clear hst
              go_wp2
              refine ⟨⟨k + 1, by omega, by go_num, HS.out.drop.eq ?_⟩, by simp [intOf]; omega⟩
              rw [HFF.out, HFN.out, ← hX]
              simp only [List.append_assoc]
        · obtain rfl : k = l.length := by omega
          rw [List.take_length] at hst
          have hst' : St w [(w.heap.size, #[.int .i64 gen, .slice q l.length c], 31)] wr _ (insideN l) := hst
          clear hst
          obtain ⟨q2, m2, rfl, _⟩ := own_form hst'.own
          by_cases h2 : (insideN l).length ≤ 952
          · have HW := HWO.out h2
            unfold bytesN at HW
            simp only at HW
            obtain ⟨gn, rfl⟩ := Int.eq_ofNat_of_zero_le (show 0 ≤ gen by omega)
            rw [Int.toNat_natCast] at HW
            have HW' : Hid _ := HW
            have HGL : Hid (gn < 4611686018427387904) := by show _ < _; omega
            clear hlo hhi hgw
            have HIB : Hid _ := insideN_bytes l
            clear HW HWL HWO
            generalize hX : insideN l = X at *
            have S0 := hst'
            have H2 : Hid (X.length ≤ 952) := h2
            have h2i : (X.length : Int) ≤ 952 := by omega
            have HS0 : Hid _ := S0
            clear hst' h2 S0
            generalize hLL : X.length = L at *
            go_wp2
            go_loopw [4] (fun m wr => ∃ j : Nat, X.length + j ≤ 952 ∧ St w [(w.heap.size, #[.int .i64 (gn : Int), .slice q l.length c], 31)] wr m (X ++ List.replicate j 0)) (fun m _ => 952 - lenOf m)
            case atStart => exact ⟨0, by rw [hLL]; exact H2.out, by simpa using HS0.out⟩
            case round =>
              clear HS0
              obtain ⟨j, hj, hst⟩ := hrel
              have hlen : (X ++ List.replicate j 0).length = X.length + j := by simp
              by_cases hjl : X.length + j < 952
              · obtain ⟨q3, m3, hv3, _⟩ := own_form hst.own
                rw [hlen] at hv3
                subst hv3
                have HS : Hid _ := hst
                have hs3 := hst.size
                have HJ : Hid (X.length + j < 952) := hjl
                have hji : (X.length : Int) + (j : Int) < 952 := by omega
                clear hst hj hjl
                go_wp2_with (at_builtin; refine wpList_append_bytes _ rfl _ _ rfl w.heap.size _ _ [0] (some ⟨wr.heap.size, 0, none⟩) _ 1 rfl rfl rfl (St.own (St.call HS.out (below_alloc wr (.cells #[.int .u8 0] 5)))) (bin_lit wr _ _ _ _ [0] rfl rfl (by simp)) (fun h => by cases h) (by have := HJ.out; rw [hlen]; simp; omega) (by simp; omega) ?_; intro v5 w5 ho5 hg5; have S5 := (St.call HS.out (below_alloc wr (.cells #[.int .u8 0] 5))).app ho5 hg5)
                obtain ⟨q5, m5, hv5, _⟩ := own_form S5.own
                go_roundw
                case rel => exact ⟨j + 1, by have := HJ.out; omega, S5.eq (pad_snoc X j)⟩
                case measure => have := HJ.out; rw [hv5]; simp [lenOf]; omega
              · have hpad : X ++ List.replicate j 0 = padN X := by unfold padN; rw [show 952 - X.length = j from by omega]
                rw [hpad] at hst
                have hpl : (padN X).length = 952 := pad_len (by omega)
                have hpb := pad_bytes HIB.out
                clear hpad hlen
                generalize padN X = ys at *
                obtain ⟨g5, m5, rfl, hm5, hmx, hg5⟩ := own_some hst.own (by omega)
                have HB5 : Hid (BIn wr (some ⟨g5, 0, none⟩) ys) := own_in hst.own hpb
                have HBW : Hid (Below w.heap.size w wr) := hst.bel
                have hsz5 := hst.size
                have HBX : Hid (wr.heap[w.heap.size]? = some (.cells #[.int .i64 (gn : Int), .slice q l.length c] 31 (0, 0))) := (hst.box _ List.mem_cons_self).1
                have hlt5 := lt_heap HBX.out
                unfold maxLen at hmx
                clear hst
                rw [hpl]
                have hm5i : (952 : Int) ≤ m5 := by omega
                have HM5 : Hid (ys.length ≤ m5) := hm5
                clear hj hjl h2i
                generalize hww : wr = w5 at *
                clear hww
                go_wp2
                go_loopw [8, 9] (fun m i wn => ∃ k : Nat, k ≤ 8 ∧ i = .int .i64 k ∧ St w5 [] wn m (sectsN gn ys k)) (fun _ i _ => 8 - (intOf i).toNat)
                case atStart => exact ⟨0, by omega, rfl, St.start (fun p hp => by simp at hp)⟩
                case round =>
                  obtain ⟨k, hk8, rfl, hst⟩ := hrel
                  have HS : Hid _ := hst
                  by_cases hkl : k < 8
                  · have hlen : (sectsN gn ys k).length ≤ 2000 := by
                      unfold sectsN
                      have := flat_le (l := List.range k) (f := sectN gn ys) (c := 128) (fun i _ => by unfold sectN; simp [putN_len]; omega)
                      simp at this ⊢
                      omega
                    have HSN : Hid _ := sects_snoc gn ys k
                    have hwr : IntKind.u64.wrap (gn : Int) = (gn : Int) := by have := HGL.out; rw [IntKind.wrap_u64]; omega
                    have hwk : IntKind.u8.wrap (k : Int) = (k : Int) := by rw [IntKind.wrap_u8]; omega
                    have d0 : wr.cell? ⟨w.heap.size, 0, none⟩ = some (.int .i64 (gn : Int)) := cell_of_row _ _ _ _ _ _ ((hst.bel.block _ hlt5).trans HBX.out)
                    clear hst
                    go_wp2_with fail
                    refine (refPut_any gn _ (by have := HGL.out; omega)).mono ?_
                    rintro e w3 ⟨v3, rfl, ho3, hb3⟩
                    obtain ⟨q3, m3, rfl, _, _, hn3⟩ := own_form ho3
                    have hi3 : BIn w3 q3 (putN gn) := own_in ho3 (putN_bytes gn (by have := HGL.out; omega))
                    have S3 := HS.out.call hb3
                    have hs3 := S3.size
                    have H3 : Hid _ := S3
                    have HI3 : Hid _ := hi3
                    clear S3 hi3 hb3 ho3 HS
                    go_wp2_with (first
                      | (at_builtin; refine wpList_append_bytes _ rfl _ _ rfl w5.heap.size _ _ (putN gn) q3 _ m3 rfl rfl rfl H3.out.own HI3.out hn3 (by simp [putN_len]; omega) hs3 ?_; intro v4 w4 ho4 hg4; have S4 := H3.out.app ho4 hg4; have hs4 := S4.size; have H4 : Hid _ := S4; clear S4 ho4 hg4 H3 HI3)
                      | (at_builtin; refine wpList_append_bytes _ rfl _ _ rfl w5.heap.size _ _ [k] (some ⟨w4.heap.size, 0, none⟩) _ 1 rfl rfl rfl (H4.out.call (below_alloc w4 (.cells #[.int .u8 k] 5))).own (bin_lit w4 _ _ _ _ [k] rfl rfl (by simp; omega)) (fun h => by cases h) (by simp [putN_len]; omega) (by simp; omega) ?_; intro v6 w6 ho6 hg6; have S6 := (H4.out.call (below_alloc w4 (.cells #[.int .u8 k] 5))).app ho6 hg6; have hs6 := S6.size; have hbb := bin_part4 (HB5.out.below S6.bel) (k * 119) 119 (by omega); rw [Nat.zero_add] at hbb; have HBB : Hid _ := hbb; have H6 : Hid _ := S6; clear hbb S6 ho6 hg6 H4)
                      | (at_builtin; refine wpList_append_bytes _ rfl _ _ rfl w5.heap.size _ _ ((ys.drop (k * 119)).take 119) (some ⟨g5, k * 119, none⟩) _ (m5 - k * 119) rfl rfl (by rw [List.length_take, List.length_drop]; omega) H6.out.own HBB.out (fun h => by cases h) (by simp only [List.length_append, List.length_take, List.length_drop, List.length_singleton, putN_len]; omega) hs6 ?_; intro v7 w7 ho7 hg7; have S7 := H6.out.app ho7 hg7; have H7 : Hid _ := S7; clear S7 ho7 hg7 H6 HBB)
                      | fail)
                    go_roundw
                    case rel => exact ⟨k + 1, by omega, by go_num, H7.out.eq HSN.out.symm⟩
                    case measure => simp [intOf]; omega
                  · obtain rfl : k = 8 := by omega
                    clear hst
                    go_wp2
                    go_ret2
                    exact ⟨_, 0, _, rfl, HW'.out, own_mono HS.out.own hsz5, HBW.out.trans (HS.out.bel.mono hsz5)⟩
          · have HW' : Hid (Wrote ⟨gen, l⟩ 42 []) := HWL.out (by omega)
            have HB : Hid (Below w.heap.size w wr) := hst'.bel
            clear hst' HWL HWO
            generalize (insideN l).length = L at *
            go_wp2
            go_ret2
            exact ⟨_, 42, [], rfl, HW'.out, World.ownsRow_nil _ _ _ _, HB.out⟩
    · have hmy := rmay_any _ ⟨gen, l⟩ false (w.alloc (.cells #[.int .i64 gen, .slice q l.length c] 31)) ⟨fun h => (by cases h), fun h => absurd h hm⟩ (HX.out.below (below_alloc w _)) hs hsum
      have HW : Hid (Wrote ⟨gen, l⟩ 8 []) := .bad h1 (fun h => hm ((mayR_iff h1).2 h))
      clear hm hs hsum
      go_enter Tryz.func20, Tryz.ntmps20
      go_wp2_with fail
      refine hmy.mono ?_
      rintro e w1 ⟨rfl, hb1⟩
      go_wp2
      go_ret2
      exact ⟨_, 8, [], rfl, HW.out, World.ownsRow_nil _ _ _ _, (below_alloc w _).trans (hb1.mono (by simp))⟩
  · go_enter Tryz.func20, Tryz.ntmps20
    go_wp2
    go_ret2
    exact ⟨_, 42, [], rfl, .many (by show 32 < l.length; omega), World.ownsRow_nil _ _ _ _, below_alloc _ _⟩
end Go.Proofs.YthifpelappedcaaGreatDoor
namespace Go.Proofs.YthifpelappedcaaGreatDoor
open Go.RowKit Go.WideShapes Rm

theorem number_v (v : Value) (e : Int) (hv : ErrV v e) (w : World) (hg : ErrT w) : Calls Tryz.prog 41 #[v] w fun ev w' => ev = .returned (.int .i64 e) ∧ Below w.heap.size w w' := by
  rcases hv with ⟨rfl, rfl⟩ | ⟨_, h⟩
  · exact number_nil w
  · exact number_any v e h w hg
theorem writeD (a b : Addr) (ev old : Value) (n : Int) (u : FrameMode) (w : World) (hg : ErrT w) (hv : ErrV ev n) (ha : w.cell? a = some ev) (hb : w.cell? b = some old) (hf : w.frozen? b = false) :
    CallsD Tryz.prog 55 #[.pointer (some a), .pointer (some b)] u w fun e u' w' => u' = u ∧ e = .returned (.tuple #[]) ∧ ∃ w1, w' = w1.setCell b (.int .i64 n) ∧ Below w.heap.size w w1 := by
  have hn := number_v ev n hv w hg
  have hlt := World.block_lt_of_cell? _ _ hb
  go_enter_d Tryz.func55, Tryz.ntmps55
  go_wp2_with fail
  refine hn.mono ?_
  rintro e w1 ⟨rfl, hb1⟩
  have hb2 : w1.cell? b = some old := (hb1.cell hlt).trans hb
  have hf2 : w1.frozen? b = false := (hb1.frozen hlt).trans hf
  go_wp2
  go_end0
  exact ⟨rfl, w1, rfl, hb1⟩
theorem heap_size_alloc (w : World) (o : Obj) : (w.alloc o).heap.size = w.heap.size + 1 := by simp
theorem vars2 {a b : Value} {s t : TypeId} (w w1 : World) (hb : Below ((w.alloc (.cells #[a] s)).alloc (.cells #[b] t)).heap.size ((w.alloc (.cells #[a] s)).alloc (.cells #[b] t)) w1) :
    w1.cell? ⟨w.heap.size, 0, none⟩ = some a ∧ w1.cell? ⟨w.heap.size + 1, 0, none⟩ = some b ∧ w1.frozen? ⟨w.heap.size, 0, none⟩ = false ∧ w1.frozen? ⟨w.heap.size + 1, 0, none⟩ = false := by
  refine ⟨?_, ?_, ?_, ?_⟩
  · rw [hb.cell (by simp; omega), World.cell?_alloc_lt _ _ _ (by simp)]; simp
  · rw [hb.cell (by simp)]; simp
  · rw [hb.frozen (by simp; omega), World.frozen?_alloc_old _ _ _ (by simp)]; simp
  · rw [hb.frozen (by simp)]; simp
theorem doorV {A E : Addr} {w : World} {ev oa oe : Value} (hne : A ≠ E) (ha : w.cell? A = some oa) (he : w.cell? E = some oe) (_fa : w.frozen? A = false) (fe : w.frozen? E = false) :
    ((w.setCell A ev).setCell E (.int .i64 0)).cell? A = some ev ∧ ((w.setCell A ev).setCell E (.int .i64 0)).cell? E = some (.int .i64 0) ∧ ((w.setCell A ev).setCell E (.int .i64 0)).frozen? E = false := by
  refine ⟨?_, ?_, ?_⟩
  · rw [World.cell?_setCell_other _ _ _ _ (Ne.symm hne)]
    exact World.cell?_setCell_same _ _ _ ha
  · refine World.cell?_setCell_same _ _ _ (u := oe) ?_
    rw [World.cell?_setCell_other _ _ _ _ hne]
    exact he
  · simp [fe]
set_option maxHeartbeats 1000000 in
theorem Write_any (v : Value) (x : DirV) (w : World) (hL : Laid w) (hx : DirIn w v x) (hs : ∀ f ∈ x.files, (f.name.size : Int) ≤ 9223372036854775807) (hsum : (allPcs x.files).length ≤ 1000000) :
    Calls Tryz.prog 19 #[v] w fun e w' => ∃ r n b, e = .returned (.tuple #[r, .int .i64 n]) ∧ Wrote x n b ∧ w'.ownsRow w.heap.size 5 1 r b.length (Bs b) ∧ Below w.heap.size w w' := by
  obtain ⟨fv, rfl, hf⟩ := hx.lies
  have HX : Hid (DirIn w (.agg #[.int .i64 x.gen, fv]) x) := hx
  obtain ⟨q, c, rfl, _⟩ := hf.lies
  clear hx hf
  have hwr := write_any _ x (((w.alloc (.cells #[.int .i64 x.gen, .slice q x.files.length c] 31)).alloc (.cells #[.int .i64 0] 26)).alloc (.cells #[.nilIface] 93)) (HX.out.below (((below_alloc w _).alloc (by simp) _).alloc (by simp; omega) _)) hs hsum
  have hmf : ∀ (fn : Fn) (first cap : Array Value) (w : World), (Instr.makeFunc fn first cap).run Tryz.prog w = .ok (.func fn first cap) w := fun _ _ _ _ => rfl
  go_enter_defers Tryz.func19, Tryz.ntmps19
  go_wp2_with fail
  refine hwr.mono ?_
  rintro e w1 ⟨r, ev, n, b, rfl, hw, he, ho, hb⟩
  have hs1 := hb.size
  simp at hs1
  obtain ⟨ce, cr, fe, fr⟩ := vars2 (a := .int .i64 0) (b := .nilIface) (s := 26) (t := 93) (w.alloc (.cells #[.int .i64 x.gen, .slice q x.files.length c] 31)) w1 hb
  simp only [heap_size_alloc] at ce cr fe fr
  have HW : Hid (Wrote x n b) := hw
  have HO : Hid _ := ho
  have HB : Hid (Below w.heap.size w w1) := (((below_alloc w _).alloc (by simp) _).alloc (by simp; omega) _).trans (hb.mono (by simp; omega))
  have HG : Hid (ErrT w) := hL.err
  have HE : Hid (ErrV ev n) := he
  obtain ⟨q1, m1, rfl, _⟩ := own_form ho
  clear hw ho hb hwr hL
  have hdoor := doorV (A := ⟨w.heap.size + 1 + 1, 0, none⟩) (E := ⟨w.heap.size + 1, 0, none⟩) (by simp) cr ce fr fe (ev := ev)
  have HD : Hid _ := hdoor
  clear hdoor
  rcases he with ⟨rfl, rfl⟩ | ⟨hne, hfl⟩
  · go_wp2
    obtain ⟨g1, g2, g3⟩ := HD.out
    have hbW : Below w.heap.size w ((w1.setCell ⟨w.heap.size + 1 + 1, 0, none⟩ (.nilIface)).setCell ⟨w.heap.size + 1, 0, none⟩ (.int .i64 0)) := (HB.out.setCell (by simp; omega) _).setCell (by simp) _
    have hoW := ownsRow_setCell_below (ownsRow_setCell_below HO.out (a := ⟨w.heap.size + 1 + 1, 0, none⟩) (by simp) (.nilIface)) (a := ⟨w.heap.size + 1, 0, none⟩) (by simp) (.int .i64 0)
    generalize (w1.setCell ⟨w.heap.size + 1 + 1, 0, none⟩ (.nilIface)).setCell ⟨w.heap.size + 1, 0, none⟩ (.int .i64 0) = W at *
    refine leaves_cons (f := 55) (args := #[.pointer (some ⟨w.heap.size + 1 + 1, 0, none⟩), .pointer (some ⟨w.heap.size + 1, 0, none⟩)]) (by simp) (by simp [go_sem]) ?_
    refine (writeD ⟨w.heap.size + 1 + 1, 0, none⟩ ⟨w.heap.size + 1, 0, none⟩ (.nilIface) (.int .i64 0) 0 .returning _ (HG.out.below hbW) HE.out g1 g2 g3).mono ?_
    rintro e u' w'' ⟨rfl, rfl, w3, rfl, hb3⟩
    have hltE := World.block_lt_of_cell? _ _ g2
    have k1 : (w3.setCell ⟨w.heap.size + 1, 0, none⟩ (.int .i64 0)).cell? ⟨w.heap.size + 1, 0, none⟩ = some (.int .i64 0) := World.cell?_setCell_same _ _ _ ((hb3.cell hltE).trans g2)
    have k2 : Below w.heap.size w (w3.setCell ⟨w.heap.size + 1, 0, none⟩ (.int .i64 0)) := (hbW.trans (hb3.mono hbW.size)).setCell (by simp) _
    have k3 := ownsRow_setCell_below (own_below hoW hb3) (a := ⟨w.heap.size + 1, 0, none⟩) (by simp) (.int .i64 0)
    generalize w3.setCell ⟨w.heap.size + 1, 0, none⟩ (.int .i64 0) = w4 at *
    simp [Leaves, settle, results, Tryz.results19, go_sem, k1]
    exact ⟨_, _, ⟨rfl, rfl⟩, b, HW.out, own_mono k3 (by simp; omega), k2⟩
  · obtain ⟨tx, vx, rfl⟩ := hfl.iface
    go_wp2
    obtain ⟨g1, g2, g3⟩ := HD.out
    have hbW : Below w.heap.size w ((w1.setCell ⟨w.heap.size + 1 + 1, 0, none⟩ (.iface tx vx)).setCell ⟨w.heap.size + 1, 0, none⟩ (.int .i64 0)) := (HB.out.setCell (by simp; omega) _).setCell (by simp) _
    have hoW := ownsRow_setCell_below (ownsRow_setCell_below HO.out (a := ⟨w.heap.size + 1 + 1, 0, none⟩) (by simp) (.iface tx vx)) (a := ⟨w.heap.size + 1, 0, none⟩) (by simp) (.int .i64 0)
    generalize (w1.setCell ⟨w.heap.size + 1 + 1, 0, none⟩ (.iface tx vx)).setCell ⟨w.heap.size + 1, 0, none⟩ (.int .i64 0) = W at *
    refine leaves_cons (f := 55) (args := #[.pointer (some ⟨w.heap.size + 1 + 1, 0, none⟩), .pointer (some ⟨w.heap.size + 1, 0, none⟩)]) (by simp) (by simp [go_sem]) ?_
    refine (writeD ⟨w.heap.size + 1 + 1, 0, none⟩ ⟨w.heap.size + 1, 0, none⟩ (.iface tx vx) (.int .i64 0) n .returning _ (HG.out.below hbW) HE.out g1 g2 g3).mono ?_
    rintro e u' w'' ⟨rfl, rfl, w3, rfl, hb3⟩
    have hltE := World.block_lt_of_cell? _ _ g2
    have k1 : (w3.setCell ⟨w.heap.size + 1, 0, none⟩ (.int .i64 n)).cell? ⟨w.heap.size + 1, 0, none⟩ = some (.int .i64 n) := World.cell?_setCell_same _ _ _ ((hb3.cell hltE).trans g2)
    have k2 : Below w.heap.size w (w3.setCell ⟨w.heap.size + 1, 0, none⟩ (.int .i64 n)) := (hbW.trans (hb3.mono hbW.size)).setCell (by simp) _
    have k3 := ownsRow_setCell_below (own_below hoW hb3) (a := ⟨w.heap.size + 1, 0, none⟩) (by simp) (.int .i64 n)
    generalize w3.setCell ⟨w.heap.size + 1, 0, none⟩ (.int .i64 n) = w4 at *
    simp [Leaves, settle, results, Tryz.results19, go_sem, k1]
    exact ⟨_, _, ⟨rfl, rfl⟩, b, HW.out, own_mono k3 (by simp; omega), k2⟩
end Go.Proofs.YthifpelappedcaaGreatDoor
namespace Go.Proofs.YthifpelappedcaaGreatDoor
open Go.RowKit Go.WideShapes Rm

/-- A []byte whose block is one of bytes. -/
structure RowT (w : World) (v : Value) (xs : List Nat) : Prop where
  row : Row w v xs
  blk : 0 < xs.length → ∃ b o n c C fr, v = .slice (some ⟨b, o, none⟩) n c ∧ w.heap[b]? = some (.cells C 5 fr)
theorem RowT.below {w w' : World} {v : Value} {xs : List Nat} (h : RowT w v xs) (hb : Below w.heap.size w w') : RowT w' v xs :=
  ⟨h.row.below hb, fun hp => by obtain ⟨b, o, n, c, C, fr, h1, h2⟩ := h.blk hp; exact ⟨b, o, n, c, C, fr, h1, (hb.block b (lt_heap h2)).trans h2⟩⟩
/-- Wherever v reads as xs, v' reads as ys. -/
def Carry (v : Value) (xs : List Nat) (v' : Value) (ys : List Nat) : Prop := ∀ w, RowT w v xs → RowT w v' ys
theorem Carry.trans {a b c : Value} {xs ys zs : List Nat} (h : Carry a xs b ys) (k : Carry b ys c zs) : Carry a xs c zs := fun w hw => k w (h w hw)
theorem carry_sub {b o c k : Nat} {xs : List Nat} (hc : xs.length ≤ c) (hk : k ≤ xs.length) : Carry (.slice (some ⟨b, o, none⟩) xs.length c) xs (.slice (if c = k then some ⟨b, o, none⟩ else some ⟨b, o + k, none⟩) (xs.length - k) (c - k)) (xs.drop k) := by
  intro w h
  obtain ⟨p, c', e, hb, h1, h2, _⟩ := h.row.lies
  simp only [Value.slice.injEq, true_and] at e
  obtain ⟨rfl, rfl⟩ := e
  have hbp := bin_part hb c k hc (xs.length - k)
  rw [List.take_of_length_le (by simp)] at hbp
  refine ⟨⟨_, c - k, by rw [List.length_drop], hbp, by rw [List.length_drop]; omega, by omega, fun h => by split at h <;> simp at h⟩, fun hp => ?_⟩
  obtain ⟨b', o', n, c'', C, fr, e, h5⟩ := h.blk (by simp at hp; omega)
  simp only [Value.slice.injEq, Option.some.injEq, Addr.mk.injEq, and_true] at e
  obtain ⟨⟨rfl, rfl⟩, _, _⟩ := e
  split
  · exact ⟨b, o, _, _, C, fr, rfl, h5⟩
  · exact ⟨b, o + k, _, _, C, fr, rfl, h5⟩
theorem own_rowT {w : World} {base : Nat} {v : Value} {xs : List Nat} (h : w.ownsRow base 5 1 v xs.length (Bs xs)) (hx : ∀ c ∈ xs, c < 256) : RowT w v xs := by
  obtain ⟨q, m, rfl, h1, h2, h3⟩ := own_form h
  refine ⟨⟨q, m, rfl, own_in h hx, h1, h2, h3⟩, fun hp => ?_⟩
  rcases h.2 with ⟨_, h0⟩ | ⟨g, cap, cur, hv, _, hg, _⟩
  · omega
  · exact ⟨g, 0, _, cap, cur, (0, 0), hv, hg⟩
theorem cutNum_cases (B : Nat) (xs : List Nat) : (readN xs = none ∧ cutNum B xs = none) ∨ (∃ n k, readN xs = some (n, k) ∧ B < n ∧ cutNum B xs = none) ∨ ∃ n k, readN xs = some (n, k) ∧ n ≤ B ∧ cutNum B xs = some (n, xs.drop k) := by
  cases h : readN xs with
  | none => exact .inl ⟨rfl, by unfold cutNum; rw [h]⟩
  | some nk =>
    obtain ⟨n, k⟩ := nk
    rcases Nat.lt_or_ge B n with h1 | h1
    · exact .inr (.inl ⟨n, k, rfl, h1, by unfold cutNum; rw [h]; simp [h1]⟩)
    · exact .inr (.inr ⟨n, k, rfl, h1, by unfold cutNum; rw [h]; simp; omega⟩)
set_option maxHeartbeats 1000000 in
theorem cutNumber_none (v : Value) (xs : List Nat) (w : World) (hv : RowT w v xs) (h : cutNum 524288 xs = none) :
    Calls Tryz.prog 140 #[v] w fun e w' => ∃ ev, e = .returned (.tuple #[.int .i64 0, .slice none 0 0, ev]) ∧ Faults ev 8 ∧ Below w.heap.size w w' := by
  obtain ⟨p, c, rfl, hb, hlc, hcm, _⟩ := hv.row.lies
  rcases cutNum_cases 524288 xs with ⟨h1, _⟩ | ⟨n, k, h1, h2, _⟩ | ⟨n, k, _, _, h3⟩
  · have hrd := read_none p xs.length c xs w rfl hb (by omega) h1
    clear h h1
    go_enter Tryz.func140, Tryz.ntmps140
    go_wp2_with fail
    refine hrd.mono ?_
    rintro e w1 ⟨rfl, rfl⟩
    go_wp2
    go_ret3
    exact ⟨_, rfl, Faults.one _ _, Below.refl _ _⟩
  · have hrd := read_some p xs.length c xs w n k rfl hb (by omega) h1
    clear h h1
    go_enter Tryz.func140, Tryz.ntmps140
    go_wp2_with fail
    refine hrd.mono ?_
    rintro e w1 ⟨rfl, rfl⟩
    go_wp2
    go_ret3
    exact ⟨_, rfl, Faults.one _ _, Below.refl _ _⟩
  · rw [h3] at h; cases h
set_option maxHeartbeats 1000000 in
theorem cutNumber_some (v : Value) (xs r : List Nat) (n : Nat) (w : World) (hv : RowT w v xs) (h : cutNum 524288 xs = some (n, r)) :
    Calls Tryz.prog 140 #[v] w fun e w' => ∃ v', e = .returned (.tuple #[.int .i64 n, v', .nilIface]) ∧ Carry v xs v' r ∧ Below w.heap.size w w' := by
  obtain ⟨p, c, rfl, hb, hlc, hcm, hpn⟩ := hv.row.lies
  rcases cutNum_cases 524288 xs with ⟨_, h1⟩ | ⟨_, _, _, _, h1⟩ | ⟨n', k, h1, h2, h3⟩
  · rw [h1] at h; cases h
  · rw [h1] at h; cases h
  · rw [h3] at h
    simp only [Option.some.injEq, Prod.mk.injEq] at h
    obtain ⟨rfl, rfl⟩ := h
    obtain ⟨k1, k2, k3, k4⟩ := readN_some h1
    obtain ⟨b, o, rfl, _⟩ := hb.1 (by omega)
    have hrd := read_some _ xs.length c xs w n' k rfl hb (by omega) h1
    unfold maxLen at hcm
    have hw : IntKind.i64.wrap (n' : Int) = (n' : Int) := by rw [IntKind.wrap_i64]; omega
    clear h1 h3 hb
    go_enter Tryz.func140, Tryz.ntmps140
    go_wp2_with fail
    refine hrd.mono ?_
    rintro e w1 ⟨rfl, rfl⟩
    go_wp2
    go_quiet (fail)
    have hcy : Carry _ _ _ _ := carry_sub (b := b) (o := o) hlc (by omega : k ≤ xs.length)
    have HC : Hid _ := hcy
    clear hcy
    generalize (if c = k then some (⟨b, o, none⟩ : Addr) else some ⟨b, o + k, none⟩) = q' at *
    go_wp2
    go_ret3
    exact ⟨_, rfl, HC.out, below_drewN (Below.refl _ _) _⟩

theorem cutPiece_cases (xs : List Nat) : (cutNum 524288 xs = none ∧ cutPiece 524288 524288 xs = none) ∨ (∃ n r, cutNum 524288 xs = some (n, r) ∧ cutNum 524288 r = none ∧ cutPiece 524288 524288 xs = none) ∨ ∃ n r m s, cutNum 524288 xs = some (n, r) ∧ cutNum 524288 r = some (m, s) ∧ cutPiece 524288 524288 xs = some (((n : Int), (m : Int)), s) := by
  cases h : cutNum 524288 xs with
  | none => exact .inl ⟨rfl, by unfold cutPiece; rw [h]⟩
  | some nr =>
    obtain ⟨n, r⟩ := nr
    cases h2 : cutNum 524288 r with
    | none => exact .inr (.inl ⟨n, r, rfl, h2, by unfold cutPiece; rw [h]; simp [h2]⟩)
    | some ms =>
      obtain ⟨m, s⟩ := ms
      exact .inr (.inr ⟨n, r, m, s, rfl, h2, by unfold cutPiece; rw [h]; simp [h2]⟩)
/-- What cutPiece answers. -/
def PiecePost (w : World) (v : Value) (xs : List Nat) (o : Option ((Int × Int) × List Nat)) (e : Ending) (w' : World) : Prop := match o with
  | none => ∃ ev, e = .returned (.tuple #[.agg #[.int .i64 0, .int .i64 0], .slice none 0 0, ev]) ∧ Faults ev 8 ∧ Below w.heap.size w w'
  | some (p, r) => ∃ v', e = .returned (.tuple #[.agg #[.int .i64 p.1, .int .i64 p.2], v', .nilIface]) ∧ Carry v xs v' r ∧ Below w.heap.size w w'
theorem results_cell_tmp2 {fn : Func} {p u x : Tmp} {ty : TypeId} (h : fn.results = #[.cell p ty, .tmp u, .tmp x]) (tmps : Array Value) (P : Program) (w : World) :
    (results fn tmps).run P w = ((asAddr (tmps.getD p undef)).run P w).andThen fun a w₁ => ((loadVar ty a).run P w₁).andThen fun v w₂ => .ok (.tuple #[v, tmps.getD u undef, tmps.getD x undef]) w₂ := by
  simp only [results, h]
  simp [Sem.run_bind, Result.andThen]
theorem box2f {w wr : World} {a b : Value} {t : TypeId} (h : Below (w.heap.size + 1) (w.alloc (.cells #[a, b] t)) wr) :
    wr.frozen? ⟨w.heap.size, 0, none⟩ = false ∧ wr.frozen? ⟨w.heap.size, 1, none⟩ = false := by
  constructor <;> (rw [h.frozen (by simp)]; simp)
theorem set2_below {base B : Nat} {w0 w : World} (h : Below base w0 w) (hB : base ≤ B) (a b : Value) : Below base w0 ((w.setCell ⟨B, 0, none⟩ a).setCell ⟨B, 1, none⟩ b) :=
  (h.setCell (p := ⟨B, 0, none⟩) hB a).setCell (p := ⟨B, 1, none⟩) hB b
set_option maxHeartbeats 1000000 in
theorem cutPiece_any (v : Value) (xs : List Nat) (w : World) (hv : RowT w v xs) (r : Option ((Int × Int) × List Nat)) (hr : cutPiece 524288 524288 xs = r) :
    Calls Tryz.prog 143 #[v] w fun e w' => PiecePost w v xs r e w' := by
  have hv1 := hv.below (below_alloc w (.cells #[.int .i64 0, .int .i64 0] 53))
  rcases cutPiece_cases xs with ⟨h1, h2⟩ | ⟨n, r1, h1, h2, h3⟩ | ⟨n, r1, m, r2, h1, h2, h3⟩
  · rw [h2] at hr
    subst hr
    have hc := cutNumber_none v xs _ hv1 h1
    go_enter Tryz.func143, Tryz.ntmps143
    go_wp2_with fail
    refine hc.mono ?_
    rintro e w1 ⟨ev, rfl, hfl, hb⟩
    have HFL : Hid (Faults ev 8) := hfl
    obtain ⟨tx, vx, rfl⟩ := hfl.iface
    have hb' : Below (w.heap.size + 1) (w.alloc (.cells #[.int .i64 0, .int .i64 0] 53)) w1 := hb.mono (by simp)
    obtain ⟨c0, c1⟩ := box2 hb'
    obtain ⟨f0, f1⟩ := box2f hb'
    have HB : Hid (Below w.heap.size w w1) := box_below hb'
    clear hfl hb hb' hc
    go_wp2
    (try simp only [Exit.inBlock, Exit.then])
    refine bodyPost_ret (v := .tuple #[.agg #[.int .i64 0, .int .i64 0], .slice none 0 0, .iface 153 (.agg #[.string ⟨#[102, 114, 111, 109]⟩, .iface tx vx])]) ?_ rfl ?_
    · rw [results_cell_tmp2 rfl]
      go_simp
    · exact ⟨_, rfl, .more _ HFL.out, set2_below HB.out (by omega) _ _⟩
  · rw [h3] at hr
    subst hr
    have hc := cutNumber_some v xs r1 n _ hv1 h1
    go_enter Tryz.func143, Tryz.ntmps143
    go_wp2_with fail
    refine hc.mono ?_
    rintro e w1 ⟨v1, rfl, hr1, hb⟩
    have hc2 := cutNumber_none v1 r1 w1 ((hr1 _ hv1).below hb) h2
    have hs1 := hb.size
    simp at hs1
    clear hc
    go_wp2_with fail
    refine hc2.mono ?_
    rintro e w2 ⟨ev, rfl, hfl, hb2⟩
    have HFL : Hid (Faults ev 8) := hfl
    obtain ⟨tx, vx, rfl⟩ := hfl.iface
    have hb' : Below (w.heap.size + 1) (w.alloc (.cells #[.int .i64 0, .int .i64 0] 53)) w2 := (hb.mono (by simp)).trans (hb2.mono (by omega))
    obtain ⟨c0, c1⟩ := box2 hb'
    obtain ⟨f0, f1⟩ := box2f hb'
    have HB : Hid (Below w.heap.size w w2) := box_below hb'
    clear hfl hb hb2 hb' hc2 hr1
    go_wp2
    (try simp only [Exit.inBlock, Exit.then])
    refine bodyPost_ret (v := .tuple #[.agg #[.int .i64 0, .int .i64 0], .slice none 0 0, .iface 153 (.agg #[.string ⟨#[99, 111, 117, 110, 116]⟩, .iface tx vx])]) ?_ rfl ?_
    · rw [results_cell_tmp2 rfl]
      go_simp
    · exact ⟨_, rfl, .more _ HFL.out, set2_below HB.out (by omega) _ _⟩
  · rw [h3] at hr
    subst hr
    have hc := cutNumber_some v xs r1 n _ hv1 h1
    go_enter Tryz.func143, Tryz.ntmps143
    go_wp2_with fail
    refine hc.mono ?_
    rintro e w1 ⟨v1, rfl, hr1, hb⟩
    have hc2 := cutNumber_some v1 r1 r2 m w1 ((hr1 _ hv1).below hb) h2
    have hs1 := hb.size
    simp at hs1
    clear hc
    go_wp2_with fail
    refine hc2.mono ?_
    rintro e w2 ⟨v2, rfl, hr2, hb2⟩
    have hb' : Below (w.heap.size + 1) (w.alloc (.cells #[.int .i64 0, .int .i64 0] 53)) w2 := (hb.mono (by simp)).trans (hb2.mono (by omega))
    obtain ⟨c0, c1⟩ := box2 hb'
    obtain ⟨f0, f1⟩ := box2f hb'
    have HB : Hid (Below w.heap.size w w2) := box_below hb'
    have HR : Hid (Carry v xs v2 r2) := hr1.trans hr2
    clear hr2 hb hb2 hb' hc2 hr1
    go_wp2
    (try simp only [Exit.inBlock, Exit.then])
    refine bodyPost_ret (v := .tuple #[.agg #[.int .i64 n, .int .i64 m], v2, .nilIface]) ?_ rfl ?_
    · rw [results_cell_tmp2 rfl]
      go_simp
    · exact ⟨_, rfl, HR.out, set2_below HB.out (by omega) _ _⟩
end Go.Proofs.YthifpelappedcaaGreatDoor
namespace Go.Proofs.YthifpelappedcaaGreatDoor
open Go.RowKit Go.WideShapes Rm

/-- So many things read, some being there already. -/
def manyGo {α : Type} (f : List Nat → Option (α × List Nat)) (n : Nat) (done : List α) (b : List Nat) : Option (List α × List Nat) := match cutMany f n b with
  | none => none
  | some (l, r) => some (done ++ l, r)
theorem manyGo_start {α : Type} (f : List Nat → Option (α × List Nat)) (n : Nat) (b : List Nat) : cutMany f n b = manyGo f n [] b := by
  unfold manyGo
  split <;> simp_all
theorem manyGo_none {α : Type} {f : List Nat → Option (α × List Nat)} {n : Nat} {done : List α} {b : List Nat} (h : f b = none) : manyGo f (n + 1) done b = none := by
  simp [manyGo, cutMany, h]
theorem manyGo_some {α : Type} {f : List Nat → Option (α × List Nat)} {n : Nat} {done : List α} {b r : List Nat} {x : α} (h : f b = some (x, r)) : manyGo f (n + 1) done b = manyGo f n (done ++ [x]) r := by
  simp only [manyGo, cutMany, h]
  cases cutMany f n r with
  | none => rfl
  | some lr => simp
theorem manyGo_end {α : Type} (f : List Nat → Option (α × List Nat)) (done : List α) (b : List Nat) : manyGo f 0 done b = some (done, b) := by simp [manyGo, cutMany]
/-- A number, and as many things. -/
def cutL {α : Type} (f : List Nat → Option (α × List Nat)) (b : List Nat) : Option (List α × List Nat) := match cutNum 524288 b with
  | none => none
  | some (n, r) => cutMany f n r
def PcsPost (w : World) (v : Value) (xs : List Nat) (o : Option (Pcs × List Nat)) (e : Ending) (w' : World) : Prop := match o with
  | none => ∃ ev, e = .returned (.tuple #[.slice none 0 0, .slice none 0 0, ev]) ∧ Faults ev 8 ∧ Below w.heap.size w w'
  | some (l, r) => ∃ lv v', e = .returned (.tuple #[lv, v', .nilIface]) ∧ POwn w' w.heap.size lv l ∧ Carry v xs v' r ∧ Below w.heap.size w w'
theorem pcs_new (w : World) (a n : Int) : PcsIn (w.alloc (.cells #[.int .i64 a, .int .i64 n] 53)) (some ⟨w.heap.size, 0, none⟩) [(a, n)] := by
  intro _
  refine ⟨w.heap.size, 0, rfl, fun i hi => ?_⟩
  have hh := heap_alloc_new w (.cells #[.int .i64 a, .int .i64 n] 53)
  obtain rfl : i = 0 := by simpa using hi
  exact ⟨cell_of_row _ _ _ _ _ _ hh, cell_of_row _ _ _ _ _ _ hh⟩
theorem pcs_new' (w : World) (a n : Int) (g : Nat) (hg : g = w.heap.size) : PcsIn (w.alloc (.cells #[.int .i64 a, .int .i64 n] 53)) (some ⟨g, 0, none⟩) [(a, n)] := by subst hg; exact pcs_new w a n
theorem set2_pown {w : World} {base B : Nat} {v : Value} {l : Pcs} (h : POwn w base v l) (hne : v.ownBlock ≠ some B) (x y : Value) : POwn ((w.setCell ⟨B, 0, none⟩ x).setCell ⟨B, 1, none⟩ y) base v l := by
  refine World.ownsRow.kept (row := some B) h ⟨rfl, rfl, rfl, by simp [World.setCell], fun k hk hne => ?_⟩ (by cases hv : v.ownBlock with | none => exact .inl rfl | some g => exact .inr (by rw [← hv]; exact hne))
  rw [Below.heap_setCell _ _ _ _ (fun e => hne (by rw [e])), Below.heap_setCell _ _ _ _ (fun e => hne (by rw [e]))]

set_option maxRecDepth 4000 in
set_option maxHeartbeats 2000000 in
theorem cutPcs_any (v : Value) (xs : List Nat) (w : World) (hL : Laid w) (hv : RowT w v xs) (r : Option (Pcs × List Nat)) (hr : cutL (cutPiece 524288 524288) xs = r) :
    Calls Tryz.prog 142 #[v, .func (.func 143) #[] #[]] w fun e w' => PcsPost w v xs r e w' := by
  cases h1 : cutNum 524288 xs with
  | none =>
    have hr' : r = none := by rw [← hr]; unfold cutL; rw [h1]
    subst hr'
    have hc := cutNumber_none v xs w hv h1
    go_enter Tryz.func142, Tryz.ntmps142
    go_wp2_with fail
    refine hc.mono ?_
    rintro e w1 ⟨ev, rfl, hfl, hb⟩
    have HFL : Hid (Faults ev 8) := hfl
    obtain ⟨tx, vx, rfl⟩ := hfl.iface
    clear hfl hc
    go_wp2
    go_ret3
    exact ⟨_, rfl, HFL.out, hb⟩
  | some nr =>
    obtain ⟨n, xs1⟩ := nr
    have hr' : manyGo (cutPiece 524288 524288) n [] xs1 = r := by rw [← hr]; unfold cutL; rw [h1, ← manyGo_start]
    have hn : n ≤ 524288 := by
      rcases cutNum_cases 524288 xs with ⟨_, h2⟩ | ⟨_, _, _, _, h2⟩ | ⟨n', k, _, h2, h3⟩
      · rw [h2] at h1; cases h1
      · rw [h2] at h1; cases h1
      · rw [h3] at h1
        simp only [Option.some.injEq, Prod.mk.injEq] at h1
        omega
    have hc := cutNumber_some v xs xs1 n w hv h1
    have HL : Hid (Laid w) := hL
    have HV : Hid (RowT w v xs) := hv
    clear hr h1 hL hv
    go_enter Tryz.func142, Tryz.ntmps142
    go_wp2_with fail
    refine hc.mono ?_
    rintro e w1 ⟨v1, rfl, hcy, hb⟩
    have HC : Hid (Carry v xs v1 xs1) := hcy
    have HB1 : Hid (Below w.heap.size w w1) := hb
    have hs1 := hb.size
    have HR0 : Hid _ := hr'
    clear hc hcy hb hr'
    go_wp2
    go_loopw [0, 8, 9, 22] (fun bv ev m i wr => ∃ k done rest, k ≤ n ∧ i = .int .i64 (k : Nat) ∧ ev = .nilIface ∧ POwn wr w.heap.size m done ∧ done.length = k ∧ Carry v xs bv rest ∧ manyGo (cutPiece 524288 524288) (n - k) done rest = r ∧ Below w.heap.size w wr) (fun _ _ _ i _ => n - (intOf i).toNat)
    case atStart => exact ⟨0, [], xs1, by omega, rfl, rfl, pown_nil _ _, rfl, HC.out, HR0.out, HB1.out⟩
    case round =>
      obtain ⟨k, done, rest, hk, rfl, rfl, hown, hdl, hcy, hmg, hbel⟩ := hrel
      clear HR0 HB1 HC
      have hsz := hbel.size
      have HB : Hid (Below w.heap.size w wr) := hbel
      have HO : Hid _ := hown
      have HC : Hid (Carry v xs _ rest) := hcy
      have hrow := (hcy w HV.out).below hbel
      by_cases hkn : k < n
      · have hpc := cutPiece_any _ rest _ (hrow.below (below_alloc wr (.cells #[.int .i64 0, .int .i64 0] 53)))
        obtain ⟨j, hj⟩ : ∃ j, n - k = j + 1 := ⟨n - k - 1, by omega⟩
        rw [hj] at hmg
        have hlto := hown.lt
        clear hown hcy hrow hbel
        cases h2 : cutPiece 524288 524288 rest with
        | none =>
          rw [manyGo_none h2] at hmg
          subst hmg
          have hpc2 := hpc none h2
          clear hpc h2
          go_wp2_with fail
          refine hpc2.mono ?_
          rintro e w2 ⟨ev, rfl, hfl, hb2⟩
          have HFL : Hid (Faults ev 8) := hfl
          obtain ⟨tx, vx, rfl⟩ := hfl.iface
          have hs2 := hb2.size
          simp at hs2
          have hb' : Below (wr.heap.size + 1) (wr.alloc (.cells #[.int .i64 0, .int .i64 0] 53)) w2 := hb2.mono (by simp)
          obtain ⟨c0, c1⟩ := box2 hb'
          obtain ⟨f0, f1⟩ := box2f hb'
          have HB2 : Hid (Below w.heap.size w w2) := HB.out.trans ((box_below hb').mono hsz)
          have HL2 : Hid (Laid ((w2.setCell ⟨wr.heap.size, 0, none⟩ (.int .i64 0)).setCell ⟨wr.heap.size, 1, none⟩ (.int .i64 0))) := HL.out.below (set2_below HB2.out (by omega) _ _)
          clear hfl hb2 hb' hpc2
          go_wp2_with (go_at_call 139; refine (itoa_any k (by omega) _ HL2.out).mono ?_; rintro e w3 ⟨st, rfl, hb3⟩)
          go_ret3
          have h5 := set2_below HB2.out (B := wr.heap.size) (by omega) (.int .i64 0) (.int .i64 0)
          exact ⟨_, rfl, .more _ HFL.out, h5.trans (hb3.mono h5.size)⟩
        | some pr =>
          obtain ⟨⟨a, m⟩, rest'⟩ := pr
          rw [manyGo_some h2] at hmg
          have HMG : Hid (manyGo (cutPiece 524288 524288) j (done ++ [(a, m)]) rest' = r) := hmg
          have hpc2 := hpc (some ((a, m), rest')) h2
          clear hpc hmg
          go_wp2_with fail
          refine hpc2.mono ?_
          rintro e w2 ⟨v2, rfl, hcy2, hb2⟩
          have hs2 := hb2.size
          simp at hs2
          have hb' : Below (wr.heap.size + 1) (wr.alloc (.cells #[.int .i64 0, .int .i64 0] 53)) w2 := hb2.mono (by simp)
          obtain ⟨c0, c1⟩ := box2 hb'
          obtain ⟨f0, f1⟩ := box2f hb'
          have HB2 : Hid (Below w.heap.size w w2) := HB.out.trans ((box_below hb').mono hsz)
          have HC2 : Hid (Carry v xs v2 rest') := HC.out.trans hcy2
          have ho2 := POwn.below HO.out (box_below hb')
          have ho3 := set2_pown ho2 (B := wr.heap.size) (fun e => by have := (hlto _ e).2; omega) (.int .i64 a) (.int .i64 m)
          have hb3 := set2_below HB2.out (B := wr.heap.size) (by omega) (.int .i64 a) (.int .i64 m)
          have hd0 : ((w2.setCell ⟨wr.heap.size, 0, none⟩ (.int .i64 a)).setCell ⟨wr.heap.size, 1, none⟩ (.int .i64 m)).cell? ⟨wr.heap.size, 0, none⟩ = some (.int .i64 a) := by
            rw [World.cell?_setCell_other _ _ _ _ (by simp)]; exact World.cell?_setCell_same _ _ _ c0
          have hd1 : ((w2.setCell ⟨wr.heap.size, 0, none⟩ (.int .i64 a)).setCell ⟨wr.heap.size, 1, none⟩ (.int .i64 m)).cell? ⟨wr.heap.size, 1, none⟩ = some (.int .i64 m) :=
            World.cell?_setCell_same _ _ _ (u := .int .i64 0) (by rw [World.cell?_setCell_other _ _ _ _ (by simp)]; exact c1)
          clear hb2 hb' hpc2 hcy2 ho2 HC HO HB
          have HO3 : Hid _ := ho3
          have HB3 : Hid _ := hb3
          have hs3 := hb3.size
          clear ho3 hb3
          go_wp2_with (at_builtin; refine wpList_append_pcs _ rfl _ _ rfl w.heap.size _ done [(a, m)] (some ⟨w2.heap.size, 0, none⟩) _ _ rfl rfl rfl (POwn.below HO3.out (below_alloc _ _)) (pcs_new' _ a m _ (by simp [World.setCell])) (fun h => by cases h) (by simp; omega) (by simp; omega) ?_; intro v4 w4 ho4 hg4)
          have HB4 : Hid (Below w.heap.size w w4) := (HB3.out.alloc HB3.out.size _).grown hg4 (by simp; omega) (fun x hx => (POwn.lt HO3.out x hx).1)
          go_roundw
          case rel => exact ⟨k + 1, done ++ [(a, m)], rest', by omega, by go_num, rfl, ho4, by simp; omega, HC2.out, by rw [show n - (k + 1) = j from by omega]; exact HMG.out, HB4.out⟩
          case measure => simp [intOf]; omega
      · obtain rfl : k = n := by omega
        rw [Nat.sub_self, manyGo_end] at hmg
        subst hmg
        clear hown hcy hrow hbel
        go_wp2
        go_ret3
        exact ⟨_, _, rfl, HO.out, HC.out, HB.out⟩
end Go.Proofs.YthifpelappedcaaGreatDoor
namespace Go.Proofs.YthifpelappedcaaGreatDoor
open Go.RowKit Go.WideShapes Rm

theorem RowT.keep {w w' : World} {v : Value} {xs : List Nat} (h : RowT w v xs) (hk : ∀ (b : Nat) (C : Array Value) (fr : Nat × Nat), w.heap[b]? = some (.cells C 5 fr) → w'.heap[b]? = w.heap[b]?) : RowT w' v xs := by
  obtain ⟨p, c, h1, h2, h3⟩ := h.row.lies
  refine ⟨⟨p, c, h1, ⟨fun hp => ?_, h2.2⟩, h3⟩, fun hp => ?_⟩
  · obtain ⟨b, o, rfl, hc⟩ := h2.1 hp
    obtain ⟨b', o', n', c', C, fr, e, hb⟩ := h.blk hp
    rw [h1] at e
    simp only [Value.slice.injEq, Option.some.injEq, Addr.mk.injEq, and_true] at e
    obtain ⟨⟨rfl, rfl⟩, _, _⟩ := e
    exact ⟨b, o, rfl, fun i hi => (World.cell?_of_block (hk b C fr hb)).trans (hc i hi)⟩
  · obtain ⟨b', o', n', c', C, fr, e, hb⟩ := h.blk hp
    exact ⟨b', o', n', c', C, fr, e, (hk b' C fr hb).trans hb⟩
theorem set3_at (w : World) (B b : Nat) (x y z : Value) (h : b ≠ B) : (((w.setCell ⟨B, 0, none⟩ x).setCell ⟨B, 1, none⟩ y).setCell ⟨B, 2, none⟩ z).heap[b]? = w.heap[b]? := by
  rw [Below.heap_setCell _ _ _ _ h, Below.heap_setCell _ _ _ _ h, Below.heap_setCell _ _ _ _ h]
theorem RowT.set3 {w : World} {v : Value} {xs : List Nat} {B : Nat} {C : Array Value} {t : TypeId} {fr : Nat × Nat} (h : RowT w v xs) (hB : w.heap[B]? = some (.cells C t fr)) (ht : t ≠ 5) (x y z : Value) : RowT (((w.setCell ⟨B, 0, none⟩ x).setCell ⟨B, 1, none⟩ y).setCell ⟨B, 2, none⟩ z) v xs := by
  refine h.keep fun b C' fr' hb => set3_at w B b x y z ?_
  rintro rfl
  rw [hB] at hb
  simp only [Option.some.injEq, Obj.cells.injEq] at hb
  exact ht hb.2.1
theorem set3_below4 {base B : Nat} {w0 w : World} (h : Below base w0 w) (hB : base ≤ B) (a b c : Value) : Below base w0 (((w.setCell ⟨B, 0, none⟩ a).setCell ⟨B, 1, none⟩ b).setCell ⟨B, 2, none⟩ c) :=
  ((h.setCell (p := ⟨B, 0, none⟩) hB a).setCell (p := ⟨B, 1, none⟩) hB b).setCell (p := ⟨B, 2, none⟩) hB c
theorem set3_pown {w : World} {base B : Nat} {v : Value} {l : Pcs} (h : POwn w base v l) (hne : v.ownBlock ≠ some B) (x y z : Value) : POwn (((w.setCell ⟨B, 0, none⟩ x).setCell ⟨B, 1, none⟩ y).setCell ⟨B, 2, none⟩ z) base v l := by
  refine World.ownsRow.kept (row := some B) h ⟨rfl, rfl, rfl, by simp [World.setCell], fun k hk hne => ?_⟩ (by cases hv : v.ownBlock with | none => exact .inl rfl | some g => exact .inr (by rw [← hv]; exact hne))
  exact set3_at w B k x y z (fun e => hne (by rw [e]))
theorem box3f {w wr : World} {a b c : Value} {t : TypeId} (h : Below (w.heap.size + 1) (w.alloc (.cells #[a, b, c] t)) wr) :
    wr.frozen? ⟨w.heap.size, 0, none⟩ = false ∧ wr.frozen? ⟨w.heap.size, 1, none⟩ = false ∧ wr.frozen? ⟨w.heap.size, 2, none⟩ = false ∧ wr.heap[w.heap.size]? = some (.cells #[a, b, c] t (0, 0)) := by
  refine ⟨?_, ?_, ?_, (h.block _ (by omega)).trans (heap_alloc_new w _)⟩ <;> (rw [h.frozen (by simp)]; simp)
/-- What cutFile answers. -/
def FilePost (w : World) (o : Option (FileV × List Nat)) (e : Ending) (w' : World) : Prop := match o with
  | none => ∃ ev, e = .returned (.tuple #[.agg #[.string ByteArray.empty, .int .i64 0, .slice none 0 0], .slice none 0 0, ev]) ∧ Faults ev 8 ∧ Below w.heap.size w w'
  | some (f, r) => ∃ pv v', e = .returned (.tuple #[.agg #[.string f.name, .int .i64 f.size, pv], v', .nilIface]) ∧ POwn w' w.heap.size pv f.pcs ∧ RowT w' v' r ∧ Below w.heap.size w w'
def BP : Bnds := ⟨524288, 524288, 524288, 524288, 524288⟩
theorem cutFile_cases (xs : List Nat) : (cutText xs = none ∧ cutFile BP xs = none) ∨ (∃ s r, cutText xs = some (s, r) ∧ cutNum 524288 r = none ∧ cutFile BP xs = none) ∨ (∃ s r n r1, cutText xs = some (s, r) ∧ cutNum 524288 r = some (n, r1) ∧ cutL (cutPiece 524288 524288) r1 = none ∧ cutFile BP xs = none)
    ∨ ∃ s r n r1 l r2, cutText xs = some (s, r) ∧ cutNum 524288 r = some (n, r1) ∧ cutL (cutPiece 524288 524288) r1 = some (l, r2) ∧ cutFile BP xs = some (⟨s, n, l⟩, r2) := by
  cases h : cutText xs with
  | none => exact .inl ⟨rfl, by unfold cutFile; rw [h]⟩
  | some sr =>
    obtain ⟨s, r⟩ := sr
    cases h2 : cutNum 524288 r with
    | none => exact .inr (.inl ⟨s, r, rfl, h2, by unfold cutFile; rw [h]; simp [BP, h2]⟩)
    | some nr =>
      obtain ⟨n, r1⟩ := nr
      have he : cutFile BP xs = (match cutL (cutPiece 524288 524288) r1 with | none => none | some (l, r) => some (⟨s, n, l⟩, r)) := by
        unfold cutFile cutL
        rw [h]
        simp only [BP, h2]
        cases cutNum 524288 r1 with
        | none => rfl
        | some kr => rfl
      cases h3 : cutL (cutPiece 524288 524288) r1 with
      | none => exact .inr (.inr (.inl ⟨s, r, n, r1, rfl, h2, h3, by rw [he, h3]⟩))
      | some lr =>
        obtain ⟨l, r2⟩ := lr
        exact .inr (.inr (.inr ⟨s, r, n, r1, l, r2, rfl, h2, h3, by rw [he, h3]⟩))
theorem cutText_none {xs : List Nat} (h : cutText xs = none) : readN xs = none ∨ ∃ n k, readN xs = some (n, k) ∧ xs.length < k + n := by
  unfold cutText at h
  split at h
  · exact .inl (by assumption)
  · rename_i n k e
    split at h
    · exact .inr ⟨n, k, e, by assumption⟩
    · cases h
theorem cutText_some {xs r : List Nat} {s : ByteArray} (h : cutText xs = some (s, r)) : ∃ n k, readN xs = some (n, k) ∧ k + n ≤ xs.length ∧ s = strOf ((xs.drop k).take n) ∧ r = xs.drop (k + n) := by
  unfold cutText at h
  split at h
  · cases h
  · rename_i n k e
    split at h
    · cases h
    · simp only [Option.some.injEq, Prod.mk.injEq] at h
      exact ⟨n, k, e, by omega, h.1.symm, h.2.symm⟩
theorem cut4_none (v : Value) (xs : List Nat) (w : World) (hv : RowT w v xs) (h : cutText xs = none) :
    Calls Tryz.prog 141 #[v] w fun e w' => e = .returned (.tuple #[.string ByteArray.empty, .slice none 0 0, .int .i64 8]) ∧ w' = w := by
  obtain ⟨p, c, rfl, hb, hlc, hcm, _⟩ := hv.row.lies
  rcases cutText_none h with h1 | ⟨n, k, h1, h2⟩
  · exact cut_none p c xs w hb (by omega) h1
  · exact cut_long p c xs w hb (by omega) n k h1 h2
theorem cut4_some (v : Value) (xs r : List Nat) (s : ByteArray) (w : World) (hv : RowT w v xs) (hx : xs.length ≤ 100000) (h : cutText xs = some (s, r)) :
    Calls Tryz.prog 141 #[v] w fun e w' => ∃ v', e = .returned (.tuple #[.string s, v', .int .i64 0]) ∧ RowT w' v' r ∧ Below w.heap.size w w' := by
  obtain ⟨p, c, rfl, hb, hlc, hcm, _⟩ := hv.row.lies
  obtain ⟨n, k, h1, h2, rfl, rfl⟩ := cutText_some h
  refine (cut_ok p c xs w hb hx hlc n k h1 h2).mono ?_
  rintro e w' ⟨v', rfl, ho, hb'⟩
  exact ⟨v', rfl, own_rowT ho (fun x hx => hb.2 x (List.mem_of_mem_drop hx)), hb'⟩

set_option maxHeartbeats 2000000 in
theorem cutFile_any (v : Value) (xs : List Nat) (w : World) (hL : Laid w) (hv : RowT w v xs) (hx : xs.length ≤ 100000) (r : Option (FileV × List Nat)) (hr : cutFile BP xs = r) :
    Calls Tryz.prog 109 #[v] w fun e w' => FilePost w r e w' := by
  have hv1 := hv.below (below_alloc w (.cells #[.string ByteArray.empty, .int .i64 0, .slice none 0 0] 51))
  have hL1 := hL.below (below_alloc w (.cells #[.string ByteArray.empty, .int .i64 0, .slice none 0 0] 51))
  clear hv hL
  rcases cutFile_cases xs with ⟨h1, h2⟩ | ⟨s, r1, h1, h2, h3⟩ | ⟨s, r1, n, r2, h1, h2, h3, h4⟩ | ⟨s, r1, n, r2, l, r3, h1, h2, h3, h4⟩
  · rw [h2] at hr
    subst hr
    have hc := cut4_none v xs _ hv1 h1
    go_enter Tryz.func109, Tryz.ntmps109
    go_wp2_with fail
    refine hc.mono ?_
    rintro e w1 ⟨rfl, rfl⟩
    have hb' : Below (w.heap.size + 1) (w.alloc (.cells #[.string ByteArray.empty, .int .i64 0, .slice none 0 0] 51)) (w.alloc (.cells #[.string ByteArray.empty, .int .i64 0, .slice none 0 0] 51)) := Below.refl _ _
    obtain ⟨c0, c1, c2⟩ := box3 hb'
    obtain ⟨f0, f1, f2, _⟩ := box3f hb'
    have HB : Hid (Below w.heap.size w (w.alloc (.cells #[.string ByteArray.empty, .int .i64 0, .slice none 0 0] 51))) := box_below hb'
    clear hb' hc
    go_wp2
    (try simp only [Exit.inBlock, Exit.then])
    refine bodyPost_ret (v := .tuple #[.agg #[.string ByteArray.empty, .int .i64 0, .slice none 0 0], .slice none 0 0, .iface 153 (.agg #[.string ⟨#[110, 97, 109, 101]⟩, .iface 26 (.int .i64 8)])]) ?_ rfl ?_
    · rw [results_cell_tmp2 rfl]
      go_simp
      rfl
    · exact ⟨_, rfl, Faults.one _ _, by first | exact set3_below4 HB.out (by omega) _ _ _ | exact below_alloc _ _⟩
  · rw [h3] at hr
    subst hr
    have hc := cut4_some v xs r1 s _ hv1 hx h1
    go_enter Tryz.func109, Tryz.ntmps109
    go_wp2_with fail
    refine hc.mono ?_
    rintro e w1 ⟨v1, rfl, hr1, hb1⟩
    have hs1 := hb1.size
    simp at hs1
    clear hc
    have hc2 := cutNumber_none v1 r1 w1 hr1 h2
    go_wp2_with fail
    refine hc2.mono ?_
    rintro e w2 ⟨ev, rfl, hfl, hb2⟩
    have HFL : Hid (Faults ev 8) := hfl
    obtain ⟨tx, vx, rfl⟩ := hfl.iface
    have hb' : Below (w.heap.size + 1) (w.alloc (.cells #[.string ByteArray.empty, .int .i64 0, .slice none 0 0] 51)) w2 := (hb1.mono (by simp)).trans (hb2.mono (by omega))
    obtain ⟨c0, c1, c2⟩ := box3 hb'
    obtain ⟨f0, f1, f2, _⟩ := box3f hb'
    have HB : Hid (Below w.heap.size w w2) := box_below hb'
    clear hb' hb1 hb2 hfl hc2 hr1
    go_wp2
    (try simp only [Exit.inBlock, Exit.then])
    refine bodyPost_ret (v := .tuple #[.agg #[.string ByteArray.empty, .int .i64 0, .slice none 0 0], .slice none 0 0, .iface 153 (.agg #[.string ⟨#[115, 105, 122, 101]⟩, .iface tx vx])]) ?_ rfl ?_
    · rw [results_cell_tmp2 rfl]
      go_simp
      rfl
    · exact ⟨_, rfl, .more _ HFL.out, by first | exact set3_below4 HB.out (by omega) _ _ _ | exact below_alloc _ _⟩
  · rw [h4] at hr
    subst hr
    have hc := cut4_some v xs r1 s _ hv1 hx h1
    go_enter Tryz.func109, Tryz.ntmps109
    go_wp2_with fail
    refine hc.mono ?_
    rintro e w1 ⟨v1, rfl, hr1, hb1⟩
    have hs1 := hb1.size
    simp at hs1
    clear hc
    have hc2 := cutNumber_some v1 r1 r2 n w1 hr1 h2
    go_wp2_with fail
    refine hc2.mono ?_
    rintro e w2 ⟨v2, rfl, hr2, hb2⟩
    have hs2 := hb2.size
    have hb12 : Below (w.heap.size + 1) (w.alloc (.cells #[.string ByteArray.empty, .int .i64 0, .slice none 0 0] 51)) w2 := (hb1.mono (by simp)).trans (hb2.mono (by omega))
    have hrow2 := (hr2 _ hr1).below hb2
    have hL2 := hL1.below ((hb1.mono (by simp)).trans (hb2.mono (by simp; omega)) : Below (w.alloc (.cells #[.string ByteArray.empty, .int .i64 0, .slice none 0 0] 51)).heap.size (w.alloc (.cells #[.string ByteArray.empty, .int .i64 0, .slice none 0 0] 51)) w2)
    clear hc2 hr2 hr1
    have hc3 := cutPcs_any v2 r2 w2 hL2 hrow2 none h3
    go_wp2_with fail
    refine hc3.mono ?_
    rintro e w3 ⟨ev, rfl, hfl, hb3⟩
    have HFL : Hid (Faults ev 8) := hfl
    obtain ⟨tx, vx, rfl⟩ := hfl.iface
    have hb' : Below (w.heap.size + 1) (w.alloc (.cells #[.string ByteArray.empty, .int .i64 0, .slice none 0 0] 51)) w3 := hb12.trans (hb3.mono (by omega))
    obtain ⟨c0, c1, c2⟩ := box3 hb'
    obtain ⟨f0, f1, f2, _⟩ := box3f hb'
    have HB : Hid (Below w.heap.size w w3) := box_below hb'
    clear hb' hb1 hb2 hb3 hb12 hfl hc3 hrow2 hL2
    go_wp2
    (try simp only [Exit.inBlock, Exit.then])
    refine bodyPost_ret (v := .tuple #[.agg #[.string ByteArray.empty, .int .i64 0, .slice none 0 0], .slice none 0 0, .iface 153 (.agg #[.string ⟨#[112, 105, 101, 99, 101, 115]⟩, .iface tx vx])]) ?_ rfl ?_
    · rw [results_cell_tmp2 rfl]
      go_simp
      rfl
    · exact ⟨_, rfl, .more _ HFL.out, by first | exact set3_below4 HB.out (by omega) _ _ _ | exact below_alloc _ _⟩
  · rw [h4] at hr
    subst hr
    have hc := cut4_some v xs r1 s _ hv1 hx h1
    go_enter Tryz.func109, Tryz.ntmps109
    go_wp2_with fail
    refine hc.mono ?_
    rintro e w1 ⟨v1, rfl, hr1, hb1⟩
    have hs1 := hb1.size
    simp at hs1
    clear hc
    have hc2 := cutNumber_some v1 r1 r2 n w1 hr1 h2
    go_wp2_with fail
    refine hc2.mono ?_
    rintro e w2 ⟨v2, rfl, hr2, hb2⟩
    have hs2 := hb2.size
    have hb12 : Below (w.heap.size + 1) (w.alloc (.cells #[.string ByteArray.empty, .int .i64 0, .slice none 0 0] 51)) w2 := (hb1.mono (by simp)).trans (hb2.mono (by omega))
    have hrow2 := (hr2 _ hr1).below hb2
    have hL2 := hL1.below ((hb1.mono (by simp)).trans (hb2.mono (by simp; omega)) : Below (w.alloc (.cells #[.string ByteArray.empty, .int .i64 0, .slice none 0 0] 51)).heap.size (w.alloc (.cells #[.string ByteArray.empty, .int .i64 0, .slice none 0 0] 51)) w2)
    clear hc2 hr2 hr1
    have hc3 := cutPcs_any v2 r2 w2 hL2 hrow2 (some (l, r3)) h3
    go_wp2_with fail
    refine hc3.mono ?_
    rintro e w3 ⟨lv, v3, rfl, ho3, hcy, hb3⟩
    have hs3 := hb3.size
    have hb' : Below (w.heap.size + 1) (w.alloc (.cells #[.string ByteArray.empty, .int .i64 0, .slice none 0 0] 51)) w3 := hb12.trans (hb3.mono (by omega))
    obtain ⟨c0, c1, c2⟩ := box3 hb'
    obtain ⟨f0, f1, f2, hB⟩ := box3f hb'
    have HB : Hid (Below w.heap.size w w3) := box_below hb'
    have HR : Hid (RowT w3 v3 r3) := (hcy _ hrow2).below hb3
    have HO : Hid (POwn w3 w2.heap.size lv l) := ho3
    have HBL : Hid (w3.heap[w.heap.size]? = some (.cells #[.string ByteArray.empty, .int .i64 0, .slice none 0 0] 51 (0, 0))) := hB
    obtain ⟨q3, m3, rfl, _⟩ := ho3.form
    clear hb' hb1 hb2 hb3 hb12 hc3 hrow2 hL2 ho3 hcy hB
    go_wp2
    (try simp only [Exit.inBlock, Exit.then])
    refine bodyPost_ret (v := .tuple #[.agg #[.string s, .int .i64 n, .slice q3 l.length m3], v3, .nilIface]) ?_ rfl ?_
    · rw [results_cell_tmp2 rfl]
      go_simp
    · exact ⟨_, _, rfl, set3_pown (HO.out.mono (by omega)) (fun e => by have := (HO.out.lt _ e).1; omega) _ _ _, HR.out.set3 HBL.out (by decide) _ _ _, set3_below4 HB.out (by omega) _ _ _⟩
end Go.Proofs.YthifpelappedcaaGreatDoor
namespace Go.Proofs.YthifpelappedcaaGreatDoor
open Go.RowKit Go.WideShapes Rm

abbrev FPs := List (FileV × Value)
def cellsF (ls : FPs) : List Value := ls.flatMap fun x => [.string x.1.name, .int .i64 x.1.size, x.2]
theorem cellsF_len (l : FPs) : (cellsF l).length = l.length * 3 := by
  induction l with
  | nil => rfl
  | cons p l ih => simp only [cellsF, List.flatMap_cons, List.length_append, List.length_cons] at *; simp at *; omega
theorem cellsF_app (l m : FPs) : cellsF (l ++ m) = cellsF l ++ cellsF m := by simp [cellsF]
theorem cellsF_at : ∀ (l : FPs) (i : Nat) (x : FileV × Value), l[i]? = some x → (cellsF l)[i * 3]? = some (.string x.1.name) ∧ (cellsF l)[i * 3 + 1]? = some (.int .i64 x.1.size) ∧ (cellsF l)[i * 3 + 2]? = some x.2
  | y :: l, 0, x, h => by
    simp at h
    subst h
    exact ⟨rfl, rfl, rfl⟩
  | y :: l, i + 1, x, h => by
    have := cellsF_at l i x (by simpa using h)
    rw [show (i + 1) * 3 = i * 3 + 1 + 1 + 1 from by omega]
    simpa [cellsF] using this
  | [], _, _, h => by simp at h
structure FOwn (w : World) (base : Nat) (v : Value) (ls : FPs) : Prop where
  row : w.ownsRow base 51 3 v ls.length (cellsF ls)
  pcs : ∀ x ∈ ls, POwn w base x.2 x.1.pcs
theorem info_file : (Tryz.prog.info? 51).map (fun i => (i.zero, i.size, i.bytes)) = some (some (.agg #[.string ⟨#[]⟩, .int .i64 0, .slice none 0 0]), 3, 48) := by kernel_rfl
theorem fown_nil (w : World) (base : Nat) : FOwn w base (.slice none 0 0) [] := ⟨World.ownsRow_nil _ _ _ _, fun x hx => by simp at hx⟩
theorem FOwn.below {w w' : World} {base : Nat} {v : Value} {ls : FPs} (h : FOwn w base v ls) (hb : Below w.heap.size w w') : FOwn w' base v ls := ⟨own_below h.row hb, fun x hx => (h.pcs x hx).below hb⟩
theorem FOwn.mono {w : World} {base base' : Nat} {v : Value} {ls : FPs} (h : FOwn w base v ls) (hb : base' ≤ base) : FOwn w base' v ls := ⟨own_mono h.row hb, fun x hx => (h.pcs x hx).mono hb⟩
theorem own_blk {w : World} {base n s g : Nat} {e : TypeId} {v : Value} {xs : List Value} (h : w.ownsRow base e s v n xs) (hg : v.ownBlock = some g) : ∃ C, w.heap[g]? = some (.cells C e (0, 0)) := by
  rcases h.2 with ⟨hv, _⟩ | ⟨g', cap, cur, hv, _, hb, _⟩
  · rw [hv] at hg; cases hg
  · rw [hv] at hg
    simp only [Value.ownBlock, Option.some.injEq] at hg
    subst hg
    exact ⟨cur, hb⟩
theorem apart_own {w : World} {base base' n n' s s' : Nat} {e e' : TypeId} {v v' : Value} {xs xs' : List Value} (h : w.ownsRow base e s v n xs) (h' : w.ownsRow base' e' s' v' n' xs') (hne : e ≠ e') : v.ownBlock = none ∨ v.ownBlock ≠ v'.ownBlock := by
  cases hv : v.ownBlock with
  | none => exact .inl rfl
  | some g =>
    refine .inr fun e2 => hne ?_
    obtain ⟨C, h1⟩ := own_blk h hv
    obtain ⟨C', h2⟩ := own_blk h' e2.symm
    rw [h1] at h2
    simp only [Option.some.injEq, Obj.cells.injEq] at h2
    exact h2.2.1
theorem RowT.grown {w w' : World} {base n s : Nat} {e : TypeId} {v u : Value} {xs : List Value} {ys : List Nat} (h : RowT w u ys) (ho : w.ownsRow base e s v n xs) (hne : e ≠ 5) (hg : w.grownBy w' v.ownBlock) : RowT w' u ys := by
  refine h.keep fun b C fr hb => hg.block b (lt_heap hb) ?_
  intro e2
  obtain ⟨C', h2⟩ := own_blk ho e2.symm
  rw [hb] at h2
  simp only [Option.some.injEq, Obj.cells.injEq] at h2
  exact hne h2.2.1.symm
theorem run_append_file (w : World) (ty : TypeId) (base : Nat) (v : Value) (ls : FPs) (x : FileV × Value) (ad : Addr) (c : Nat) (hown : FOwn w base v ls) (hx : x.2.oneCell' = true) (hp : POwn w base x.2 x.1.pcs)
    (h0 : w.cell? (ad.add 0) = some (.string x.1.name)) (h1 : w.cell? (ad.add 1) = some (.int .i64 x.1.size)) (h2 : w.cell? (ad.add 2) = some x.2) (hlen : ls.length ≤ 1000000) (hbase : base ≤ w.heap.size) :
    ∃ v' w', (Builtin.append_ #[29, 29] ty #[v, .slice (some ad) 1 c]).run Tryz.prog w = .ok v' w' ∧ FOwn w' base v' (ls ++ [x]) ∧ w.grownBy w' v.ownBlock := by
  obtain ⟨i0, hi, hz0, hz1, hz2⟩ := info_parts' info_file
  have hcs : ∀ j u, (cellsF [x])[j]? = some u → w.cell? (ad.add j) = some u := by
    intro j u hu
    rcases j with _ | _ | _ | j
    · simp [cellsF] at hu; rw [h0, hu]
    · simp [cellsF] at hu; rw [h1, hu]
    · simp [cellsF] at hu; rw [h2, hu]
    · simp [cellsF] at hu
  have hone : ∀ u ∈ cellsF [x], u.oneCell' = true := by
    intro u hu
    simp [cellsF] at hu
    rcases hu with rfl | rfl | rfl
    · rfl
    · rfl
    · exact hx
  obtain ⟨v', w', g1, g2, g3, _⟩ := run_append_own (P := Tryz.prog) w base 29 ty 51 i0 _ 3 48 Tryz.underlying29 hi hz0 hz1 hz2 rfl (by decide) v ls.length (cellsF ls) hown.row ad 1 c (cellsF [x]) rfl hcs hone (by unfold maxLen; omega) (by omega) hbase
  refine ⟨v', w', g1, ⟨?_, fun y hy => ?_⟩, g3⟩
  · rw [cellsF_app, List.length_append]
    exact g2
  · have hy' : POwn w base y.2 y.1.pcs := by
      rcases List.mem_append.1 hy with h | h
      · exact hown.pcs y h
      · rw [List.mem_singleton.1 h]; exact hp
    exact hy'.kept g3 (apart_own hy' hown.row (by decide))
theorem wpList_append_file (w : World) {ops : Array Oper} {rest : List Oper} {o : Oper} {a : Act} {Q : Exit → Act → World → Prop} (hgd : o.guard = none) (s x : Operand)
    (ho : o.op = .call { callee := .builtin .append, args := #[s, x], argTypes := #[29, 29] }) (base : Nat) (v : Value) (ls : FPs) (y : FileV × Value) (ad : Addr) (c : Nat) (hs : a.eval s = v) (hx : a.eval x = .slice (some ad) 1 c)
    (hown : FOwn w base v ls) (h1c : y.2.oneCell' = true) (hp : POwn w base y.2 y.1.pcs) (h0 : w.cell? (ad.add 0) = some (.string y.1.name)) (h1 : w.cell? (ad.add 1) = some (.int .i64 y.1.size)) (h2 : w.cell? (ad.add 2) = some y.2) (hlen : ls.length ≤ 1000000) (hbase : base ≤ w.heap.size)
    (h : ∀ v' w', FOwn w' base v' (ls ++ [y]) → w.grownBy w' v.ownBlock → wpList Tryz.prog ops Q rest (a.put o.dst v') w') : wpList Tryz.prog ops Q (o :: rest) a w := by
  refine wpList_plain hgd fun K hK => ?_
  obtain ⟨v', w', hr, g2, g3⟩ := run_append_file w o.type base v ls y ad c hown h1c hp h0 h1 h2 hlen hbase
  unfold Oper.wp execOp
  simp only [ho, resolve, invoke, builtin, Sem.run_bind, Sem.run_pure, Result.andThen_ok, List.map_toArray, List.map_cons, List.map_nil, hs, hx, hr]
  exact hK _ _ (h v' w' g2 g3)
theorem set3_own {w : World} {base B n s : Nat} {e : TypeId} {v : Value} {xs : List Value} (h : w.ownsRow base e s v n xs) (hne : v.ownBlock ≠ some B) (x y z : Value) : (((w.setCell ⟨B, 0, none⟩ x).setCell ⟨B, 1, none⟩ y).setCell ⟨B, 2, none⟩ z).ownsRow base e s v n xs := by
  refine World.ownsRow.kept (row := some B) h ⟨rfl, rfl, rfl, by simp [World.setCell], fun k hk hne => ?_⟩ (by cases hv : v.ownBlock with | none => exact .inl rfl | some g => exact .inr (by rw [← hv]; exact hne))
  exact set3_at w B k x y z (fun e => hne (by rw [e]))
/-- A row of files that lies below the block B stays when B is written. -/
theorem FOwn.set3 {w w0 : World} {base B : Nat} {v : Value} {ls : FPs} (h : FOwn w base v ls) (h0 : FOwn w0 base v ls) (hB : w0.heap.size ≤ B) (x y z : Value) : FOwn (((w.setCell ⟨B, 0, none⟩ x).setCell ⟨B, 1, none⟩ y).setCell ⟨B, 2, none⟩ z) base v ls :=
  ⟨set3_own h.row (fun e => by have := (h0.row.lt _ e).2; omega) x y z, fun u hu => set3_pown (h.pcs u hu) (fun e => by have := ((h0.pcs u hu).lt _ e).2; omega) x y z⟩
theorem set3_cells {w : World} {B : Nat} {a b c x y z : Value} (c0 : w.cell? ⟨B, 0, none⟩ = some a) (c1 : w.cell? ⟨B, 1, none⟩ = some b) (c2 : w.cell? ⟨B, 2, none⟩ = some c) :
    (((w.setCell ⟨B, 0, none⟩ x).setCell ⟨B, 1, none⟩ y).setCell ⟨B, 2, none⟩ z).cell? ⟨B, 0, none⟩ = some x ∧ (((w.setCell ⟨B, 0, none⟩ x).setCell ⟨B, 1, none⟩ y).setCell ⟨B, 2, none⟩ z).cell? ⟨B, 1, none⟩ = some y ∧ (((w.setCell ⟨B, 0, none⟩ x).setCell ⟨B, 1, none⟩ y).setCell ⟨B, 2, none⟩ z).cell? ⟨B, 2, none⟩ = some z := by
  refine ⟨?_, ?_, ?_⟩
  · rw [World.cell?_setCell_other _ _ _ _ (by simp), World.cell?_setCell_other _ _ _ _ (by simp)]
    exact World.cell?_setCell_same _ _ _ c0
  · rw [World.cell?_setCell_other _ _ _ _ (by simp)]
    refine World.cell?_setCell_same _ _ _ (u := b) ?_
    rw [World.cell?_setCell_other _ _ _ _ (by simp)]
    exact c1
  · refine World.cell?_setCell_same _ _ _ (u := c) ?_
    rw [World.cell?_setCell_other _ _ _ _ (by simp), World.cell?_setCell_other _ _ _ _ (by simp)]
    exact c2
theorem new3 (w : World) (a b c : Value) (t : TypeId) (g : Nat) (hg : g = w.heap.size) : (w.alloc (.cells #[a, b, c] t)).cell? ((⟨g, 0, none⟩ : Addr).add 0) = some a ∧ (w.alloc (.cells #[a, b, c] t)).cell? ((⟨g, 0, none⟩ : Addr).add 1) = some b ∧ (w.alloc (.cells #[a, b, c] t)).cell? ((⟨g, 0, none⟩ : Addr).add 2) = some c := by
  subst hg
  have hh := heap_alloc_new w (.cells #[a, b, c] t)
  simp only [add_plain]
  exact ⟨cell_of_row _ _ _ _ _ _ hh, cell_of_row _ _ _ _ _ _ hh, cell_of_row _ _ _ _ _ _ hh⟩
def FilesPost (w : World) (o : Option (List FileV × List Nat)) (e : Ending) (w' : World) : Prop := match o with
  | none => ∃ ev, e = .returned (.tuple #[.slice none 0 0, .slice none 0 0, ev]) ∧ Faults ev 8 ∧ Below w.heap.size w w'
  | some (l, r) => ∃ ls lv v', ls.map Prod.fst = l ∧ e = .returned (.tuple #[lv, v', .nilIface]) ∧ FOwn w' w.heap.size lv ls ∧ RowT w' v' r ∧ Below w.heap.size w w'
theorem cutFile_short {xs r : List Nat} {f : FileV} (hb : Byt xs) (h : cutFile BP xs = some (f, r)) : r.length ≤ xs.length := by
  have := (cutFile_only hb h).1
  rw [this, List.length_append]
  omega
theorem RowT.byt {w : World} {v : Value} {xs : List Nat} (h : RowT w v xs) : Byt xs := by
  obtain ⟨_, _, _, hb, _⟩ := h.row.lies
  exact hb.2

set_option maxRecDepth 4000 in
set_option maxHeartbeats 2000000 in
theorem cutFiles_any (v : Value) (xs : List Nat) (w : World) (hL : Laid w) (hv : RowT w v xs) (hx : xs.length ≤ 100000) (r : Option (List FileV × List Nat)) (hr : cutL (cutFile BP) xs = r) :
    Calls Tryz.prog 108 #[v, .func (.func 109) #[] #[]] w fun e w' => FilesPost w r e w' := by
  cases h1 : cutNum 524288 xs with
  | none =>
    have hr' : r = none := by rw [← hr]; unfold cutL; rw [h1]
    subst hr'
    have hc := cutNumber_none v xs w hv h1
    go_enter Tryz.func108, Tryz.ntmps108
    go_wp2_with fail
    refine hc.mono ?_
    rintro e w1 ⟨ev, rfl, hfl, hb⟩
    have HFL : Hid (Faults ev 8) := hfl
    obtain ⟨tx, vx, rfl⟩ := hfl.iface
    clear hfl hc
    go_wp2
    go_ret3
    exact ⟨_, rfl, HFL.out, hb⟩
  | some nr =>
    obtain ⟨n, xs1⟩ := nr
    have hr' : manyGo (cutFile BP) n [] xs1 = r := by rw [← hr]; unfold cutL; rw [h1, ← manyGo_start]
    obtain ⟨hsp, hn⟩ := cutNum_only hv.byt h1
    have hx1 : xs1.length ≤ 100000 := by have := congrArg List.length hsp; rw [List.length_append] at this; omega
    have hc := cutNumber_some v xs xs1 n w hv h1
    have HL : Hid (Laid w) := hL
    have HV : Hid (RowT w v xs) := hv
    clear hr h1 hL hv hsp hx
    go_enter Tryz.func108, Tryz.ntmps108
    go_wp2_with fail
    refine hc.mono ?_
    rintro e w1 ⟨v1, rfl, hcy, hb⟩
    have HR1 : Hid (RowT w1 v1 xs1) := (hcy w HV.out).below hb
    have HB1 : Hid (Below w.heap.size w w1) := hb
    have hs1 := hb.size
    have HR0 : Hid _ := hr'
    clear hc hcy hb hr'
    go_wp2
    go_loopw [0, 8, 9, 22] (fun bv ev m i wr => ∃ k ls rest, k ≤ n ∧ i = .int .i64 (k : Nat) ∧ ev = .nilIface ∧ FOwn wr w.heap.size m ls ∧ ls.length = k ∧ RowT wr bv rest ∧ rest.length ≤ 100000 ∧ manyGo (cutFile BP) (n - k) (ls.map Prod.fst) rest = r ∧ Below w.heap.size w wr) (fun _ _ _ i _ => n - (intOf i).toNat)
    case atStart => exact ⟨0, [], xs1, by omega, rfl, rfl, fown_nil _ _, rfl, HR1.out, hx1, HR0.out, HB1.out⟩
    case round =>
      obtain ⟨k, ls, rest, hk, rfl, rfl, hown, hdl, hrow, hrl, hmg, hbel⟩ := hrel
      clear HR0 HB1 HR1
      have hsz := hbel.size
      have HB : Hid (Below w.heap.size w wr) := hbel
      have HO : Hid (FOwn wr w.heap.size _ ls) := hown
      have HR : Hid (RowT wr _ rest) := hrow
      by_cases hkn : k < n
      · have hpc := cutFile_any _ rest _ (HL.out.below (hbel.alloc hsz (.cells #[.string ⟨#[]⟩, .int .i64 0, .slice none 0 0] 51))) (hrow.below (below_alloc wr (.cells #[.string ⟨#[]⟩, .int .i64 0, .slice none 0 0] 51))) hrl
        obtain ⟨j, hj⟩ : ∃ j, n - k = j + 1 := ⟨n - k - 1, by omega⟩
        rw [hj] at hmg
        have hbyt := hrow.byt
        clear hown hrow hbel
        cases h2 : cutFile BP rest with
        | none =>
          rw [manyGo_none h2] at hmg
          subst hmg
          have hpc2 := hpc none h2
          clear hpc h2 HR HO
          go_wp2_with fail
          refine hpc2.mono ?_
          rintro e w2 ⟨ev, rfl, hfl, hb2⟩
          have HFL : Hid (Faults ev 8) := hfl
          obtain ⟨tx, vx, rfl⟩ := hfl.iface
          have hs2 := hb2.size
          simp at hs2
          have hb' : Below (wr.heap.size + 1) (wr.alloc (.cells #[.string ⟨#[]⟩, .int .i64 0, .slice none 0 0] 51)) w2 := hb2.mono (by simp)
          obtain ⟨c0, c1, c2⟩ := box3 hb'
          obtain ⟨f0, f1, f2, _⟩ := box3f hb'
          have HB2 : Hid (Below w.heap.size w w2) := HB.out.trans ((box_below hb').mono hsz)
          clear hfl hb2 hb' hpc2
          go_wp2_with (go_at_call 139; refine (itoa_any k (by omega) _ (HL.out.below (set3_below4 HB2.out (by omega) _ _ _))).mono ?_; rintro e w3 ⟨st, rfl, hb3⟩)
          go_ret3
          have h5 := set3_below4 HB2.out (B := wr.heap.size) (by omega) (.string ByteArray.empty) (.int .i64 0) (.slice none 0 0)
          exact ⟨_, rfl, .more _ HFL.out, h5.trans (hb3.mono h5.size)⟩
        | some pr =>
          obtain ⟨f, rest'⟩ := pr
          rw [manyGo_some h2] at hmg
          have HMG : Hid (manyGo (cutFile BP) j (ls.map Prod.fst ++ [f]) rest' = r) := hmg
          have hsh := cutFile_short hbyt h2
          have hpc2 := hpc (some (f, rest')) h2
          obtain ⟨nm, sz, pl⟩ := f
          clear hpc hmg HR hbyt
          go_wp2_with fail
          refine hpc2.mono ?_
          rintro e w2 ⟨pv, v2, rfl, hpo, hro, hb2⟩
          have hs2 := hb2.size
          simp at hs2
          have hb' : Below (wr.heap.size + 1) (wr.alloc (.cells #[.string ⟨#[]⟩, .int .i64 0, .slice none 0 0] 51)) w2 := hb2.mono (by simp)
          obtain ⟨c0, c1, c2⟩ := box3 hb'
          obtain ⟨f0, f1, f2, hBL⟩ := box3f hb'
          have HB2 : Hid (Below w.heap.size w w2) := HB.out.trans ((box_below hb').mono hsz)
          simp only at hpo
          obtain ⟨qp, mp, rfl, _⟩ := hpo.form
          have ho2 := FOwn.below HO.out (box_below hb')
          have HO3 : Hid (FOwn (((w2.setCell ⟨wr.heap.size, 0, none⟩ (.string nm)).setCell ⟨wr.heap.size, 1, none⟩ (.int .i64 sz)).setCell ⟨wr.heap.size, 2, none⟩ (.slice qp pl.length mp)) w.heap.size _ ls) := ho2.set3 HO.out (Nat.le_refl _) _ _ _
          have HP3 : Hid (POwn (((w2.setCell ⟨wr.heap.size, 0, none⟩ (.string nm)).setCell ⟨wr.heap.size, 1, none⟩ (.int .i64 sz)).setCell ⟨wr.heap.size, 2, none⟩ (.slice qp pl.length mp)) w.heap.size (.slice qp pl.length mp) pl) := (set3_pown hpo (fun e => by have := (hpo.lt _ e).1; simp at this; omega) _ _ _).mono (by simp; omega)
          have HR3 : Hid (RowT (((w2.setCell ⟨wr.heap.size, 0, none⟩ (.string nm)).setCell ⟨wr.heap.size, 1, none⟩ (.int .i64 sz)).setCell ⟨wr.heap.size, 2, none⟩ (.slice qp pl.length mp)) v2 rest') := hro.set3 hBL (by decide) _ _ _
          have HB3 : Hid (Below w.heap.size w (((w2.setCell ⟨wr.heap.size, 0, none⟩ (.string nm)).setCell ⟨wr.heap.size, 1, none⟩ (.int .i64 sz)).setCell ⟨wr.heap.size, 2, none⟩ (.slice qp pl.length mp))) := set3_below4 HB2.out (by omega) _ _ _
          have hW : (((w2.setCell ⟨wr.heap.size, 0, none⟩ (.string nm)).setCell ⟨wr.heap.size, 1, none⟩ (.int .i64 sz)).setCell ⟨wr.heap.size, 2, none⟩ (.slice qp pl.length mp)).heap.size = w2.heap.size := by simp [World.setCell]
          clear hb2 hb' hpc2 ho2 HO HB hpo hro hBL
          obtain ⟨d0, d1, d2⟩ := set3_cells (x := .string nm) (y := .int .i64 sz) (z := .slice qp pl.length mp) c0 c1 c2
          have hnew := new3 (((w2.setCell ⟨wr.heap.size, 0, none⟩ (.string nm)).setCell ⟨wr.heap.size, 1, none⟩ (.int .i64 sz)).setCell ⟨wr.heap.size, 2, none⟩ (.slice qp pl.length mp)) (.string nm) (.int .i64 sz) (.slice qp pl.length mp) 51 w2.heap.size hW.symm
          have HN : Hid _ := hnew
          clear hnew
          go_wp2_with (at_builtin; refine wpList_append_file _ rfl _ _ rfl w.heap.size _ ls (⟨nm, sz, pl⟩, .slice qp pl.length mp) ⟨w2.heap.size, 0, none⟩ _ rfl rfl (FOwn.below HO3.out (below_alloc _ _)) rfl (POwn.below HP3.out (below_alloc _ _)) HN.out.1 HN.out.2.1 HN.out.2.2 (by omega) (by simp; omega) ?_; intro v4 w4 ho4 hg4)
          have HB4 : Hid (Below w.heap.size w w4) := (HB3.out.alloc HB3.out.size _).grown hg4 (by simp; omega) (fun x hx => (HO3.out.row.lt x hx).1)
          have HR4 : Hid (RowT w4 v2 rest') := (HR3.out.below (below_alloc _ _)).grown (FOwn.below HO3.out (below_alloc _ _)).row (by decide) hg4
          go_roundw
          case rel => exact ⟨k + 1, ls ++ [(⟨nm, sz, pl⟩, .slice qp pl.length mp)], rest', by omega, by go_num, rfl, ho4, by simp; omega, HR4.out, by omega, by rw [show n - (k + 1) = j from by omega, List.map_append]; exact HMG.out, HB4.out⟩
          case measure => simp [intOf]; omega
      · obtain rfl : k = n := by omega
        rw [Nat.sub_self, manyGo_end] at hmg
        subst hmg
        clear hown hrow hbel
        go_wp2
        go_ret3
        exact ⟨_, _, _, rfl, rfl, HO.out, HR.out, HB.out⟩
end Go.Proofs.YthifpelappedcaaGreatDoor
namespace Go.Proofs.YthifpelappedcaaGreatDoor
open Go.RowKit Go.WideShapes Rm

theorem bin_take {w : World} {p : Option Addr} {xs : List Nat} (h : BIn w p xs) (n : Nat) : BIn w p (xs.take n) := by
  refine ⟨fun hp => ?_, fun c hc => h.2 c (List.mem_of_mem_take hc)⟩
  have hn : 0 < n ∧ 0 < xs.length := by rw [List.length_take] at hp; omega
  obtain ⟨b, o, e, hc⟩ := h.1 hn.2
  refine ⟨b, o, e, fun i hi => ?_⟩
  have hi' : i < n ∧ i < xs.length := by simp at hi; omega
  rw [hc i hi'.2]
  simp [List.getD, hi'.1]
set_option maxHeartbeats 1000000 in
theorem begins_any (p : Option Addr) (n c : Nat) (xs : List Nat) (w : World) (hb : BIn w p xs) (hn : n = xs.length) (hc : xs.length ≤ c) (h8 : 8 ≤ xs.length) :
    Calls Tryz.prog 136 #[.slice p n c] w fun e w' => e = .returned (.int .u64 (beg8 xs : Nat)) ∧ Below w.heap.size w w' := by
  subst hn
  have hb8 := bin_take hb 8
  rw [list8' h8] at hb8
  have hg := fun c' => get_ok p c' _ _ _ _ _ _ _ _ w hb8
  obtain ⟨b, o, rfl, _⟩ := hb.1 (by omega)
  clear hb hb8
  go_enter Tryz.func136, Tryz.ntmps136
  go_wp2_with fail
  refine (hg _).mono ?_
  rintro e w1 ⟨rfl, hb1⟩
  go_wp2
  go_ret
  exact ⟨rfl, hb1⟩
def SecOk (xs : List Nat) (i : Nat) : Prop := beg8 (secAt xs i) = beg8 xs ∧ (secAt xs i).getD 8 0 = i
theorem inner_snoc (xs : List Nat) (k : Nat) : innerN xs (k + 1) = innerN xs k ++ (secAt xs k).drop 9 := by
  unfold innerN
  rw [List.range_succ, List.flatMap_append]
  simp
theorem inner_le (xs : List Nat) (k : Nat) : (innerN xs k).length ≤ k * 128 := by
  unfold innerN
  have := flat_le (l := List.range k) (f := fun i => (secAt xs i).drop 9) (c := 128) (fun i _ => by unfold secAt; simp; omega)
  simpa using this
theorem sec_step {xs : List Nat} {k : Nat} (h : ∀ i, i < k → SecOk xs i) (h1 : SecOk xs k) : ∀ i, i < k + 1 → SecOk xs i := by
  intro i hi
  rcases Nat.lt_or_ge i k with h' | h'
  · exact h i h'
  · obtain rfl : i = k := by omega
    exact h1
/-- What joined answers. -/
def JoinPost (w : World) (xs : List Nat) (e : Ending) (w' : World) : Prop :=
  (∃ r, e = .returned (.tuple #[.int .i64 (wrap64 (beg8 xs : Nat)), r, .nilIface]) ∧ (∀ i, i < 8 → SecOk xs i) ∧ w'.ownsRow w.heap.size 5 1 r (innerN xs 8).length (Bs (innerN xs 8)) ∧ Below w.heap.size w w')
  ∨ (∃ ev, e = .returned (.tuple #[.int .i64 0, .slice none 0 0, ev]) ∧ Faults ev 8 ∧ (∃ i, i < 8 ∧ ¬ SecOk xs i) ∧ Below w.heap.size w w')
set_option maxRecDepth 4000 in
set_option maxHeartbeats 2000000 in
theorem joined_any (p : Option Addr) (c : Nat) (xs : List Nat) (w : World) (hb : BIn w p xs) (hlen : xs.length = 1024) (hc : xs.length ≤ c) (hcm : c ≤ maxLen) :
    Calls Tryz.prog 107 #[.slice p 1024 c] w fun e w' => JoinPost w xs e w' := by
  have hbg := begins_any p 1024 c xs w hb hlen.symm hc (by omega)
  obtain ⟨b, o, rfl, _⟩ := hb.1 (by omega)
  have HB : Hid (BIn w (some ⟨b, o, none⟩) xs) := hb
  have hglt := beg8_lt hb.2
  unfold maxLen at hcm
  clear hb
  generalize hG : beg8 xs = G at *
  go_enter Tryz.func107, Tryz.ntmps107
  go_wp2_with fail
  refine hbg.mono ?_
  rintro e w1 ⟨rfl, hb1⟩
  have S0 : St w [] w1 (.slice none 0 0) (innerN xs 0) := ⟨World.ownsRow_nil _ _ _ _, hb1, fun p hp => by simp at hp⟩
  clear hb1 hbg
  go_wp2
  go_loopw [5, 11] (fun m i wr => ∃ k : Nat, k ≤ 8 ∧ i = .int .i64 k ∧ (∀ i, i < k → SecOk xs i) ∧ St w [] wr m (innerN xs k)) (fun _ i _ => 8 - (intOf i).toNat)
  case atStart => exact ⟨0, by omega, rfl, fun i hi => absurd hi (by omega), S0⟩
  case round =>
    obtain ⟨k, hk, rfl, hok, hst⟩ := hrel
    clear S0
    have HS : Hid (St w [] wr _ (innerN xs k)) := hst
    have HK : Hid (∀ i, i < k → SecOk xs i) := hok
    have hbr := HB.out.below hst.bel
    clear hok
    by_cases hk8 : k < 8
    · have hsl : (secAt xs k).length = 128 := secAt_len hlen hk8
      have hsb : BIn wr (some ⟨b, o + k * 128, none⟩) (secAt xs k) := bin_part4 hbr (k * 128) 128 (by omega)
      have hbg2 := begins_any (some ⟨b, o + k * 128, none⟩) ((k + 1) * 128 - k * 128) (c - k * 128) (secAt xs k) wr hsb (by omega) (by omega) (by omega)
      have HSB : Hid (BIn wr (some ⟨b, o + k * 128, none⟩) (secAt xs k)) := hsb
      have hil := inner_le xs k
      have HIS : Hid _ := inner_snoc xs k
      have HNO : Hid (beg8 (secAt xs k) ≠ G → ∃ i, i < 8 ∧ ¬ SecOk xs i) := fun h => ⟨k, hk8, fun h2 => h (by rw [h2.1, hG])⟩
      have HNO2 : Hid ((secAt xs k).getD 8 0 ≠ k → ∃ i, i < 8 ∧ ¬ SecOk xs i) := fun h => ⟨k, hk8, fun h2 => h h2.2⟩
      have HYES : Hid (beg8 (secAt xs k) = G → (secAt xs k).getD 8 0 = k → ∀ i, i < k + 1 → SecOk xs i) := fun h1 h2 => sec_step HK.out ⟨by rw [h1, hG], h2⟩
      clear hst hbr hsb HK
      generalize secAt xs k = S at *
      go_wp2_with fail
      refine hbg2.mono ?_
      rintro e w2 ⟨rfl, hb2⟩
      have HS2 : Hid (St w [] w2 _ (innerN xs k)) := HS.out.call hb2
      have hsz2 := HS2.out.size
      have HSB2 : Hid (BIn w2 (some ⟨b, o + k * 128, none⟩) S) := HSB.out.below hb2
      have e8 : w2.cell? ⟨b, o + k * 128 + 8, none⟩ = some (.int .u8 (S.getD 8 0 : Nat)) := by
        obtain ⟨b', o', e, hcc⟩ := HSB2.out.1 (by omega)
        simp only [Option.some.injEq, Addr.mk.injEq, and_true] at e
        obtain ⟨rfl, rfl⟩ := e
        exact hcc 8 (by omega)
      have h8lt := getD_lt HSB2.out.2 8
      have HB2 : Hid (Below w.heap.size w w2) := HS2.out.bel
      clear hbg2 hb2 HS HSB
      generalize S.getD 8 0 = c8 at *
      by_cases g1 : beg8 S = G
      · have hne : ((beg8 S : Int) != (G : Int)) = false := by simp [g1]
        by_cases g2 : c8 = k
        · have hne2 : ((c8 : Int) != (k : Int)) = false := by simp [g2]
          have HY : Hid (∀ i, i < k + 1 → SecOk xs i) := HYES.out g1 g2
          have hbp : BIn w2 (some ⟨b, o + k * 128 + 9, none⟩) (S.drop 9) := by
            have := bin_part4 HSB2.out 9 119 (by omega)
            rwa [List.take_of_length_le (by simp; omega)] at this
          have HBP : Hid _ := hbp
          clear hbp g1 g2 HYES HNO HNO2
          generalize beg8 S = bs at *
          go_wp2_with (at_builtin; refine wpList_append_bytes _ rfl _ _ rfl w.heap.size _ _ (S.drop 9) (some ⟨b, o + k * 128 + 9, none⟩) _ _ rfl rfl (by rw [List.length_drop]; omega) HS2.out.own HBP.out (fun h => by cases h) (by rw [List.length_drop]; omega) hsz2 ?_; intro v3 w3 ho3 hg3; have S3 := HS2.out.app ho3 hg3)
          go_roundw
          case rel => exact ⟨k + 1, by omega, by go_num, HY.out, S3.eq HIS.out.symm⟩
          case measure => simp [intOf]; omega
        · have hne2 : ((c8 : Int) != (k : Int)) = true := by simp; omega
          have HN : Hid (∃ i, i < 8 ∧ ¬ SecOk xs i) := HNO2.out g2
          clear g1 g2 HYES HNO HNO2
          generalize beg8 S = bs at *
          go_wp2_with (go_at_call 139; refine (itoa_small k (by omega) _).mono ?_; rintro e w3 ⟨st, rfl, hst, rfl⟩)
          go_ret3
          exact .inr ⟨_, rfl, Faults.one _ _, HN.out, HB2.out⟩
      · have hne : ((beg8 S : Int) != (G : Int)) = true := by simp; omega
        have HN : Hid (∃ i, i < 8 ∧ ¬ SecOk xs i) := HNO.out g1
        clear g1 HYES HNO HNO2
        generalize beg8 S = bs at *
        go_wp2_with (go_at_call 139; refine (itoa_small k (by omega) _).mono ?_; rintro e w3 ⟨st, rfl, hst, rfl⟩)
        go_ret3
        exact .inr ⟨_, rfl, Faults.one _ _, HN.out, HB2.out⟩
    · obtain rfl : k = 8 := by omega
      clear hst hbr
      go_wp2
      go_ret3
      exact .inl ⟨_, by rw [hG]; rfl, HK.out, HS.out.own, HS.out.bel⟩

def IdxPost (xs : List Nat) (w : World) (e : Ending) (w' : World) : Prop := ((∃ k : Nat, e = .returned (.int .i64 k) ∧ ∃ x ∈ xs, x ≠ 0) ∧ w' = w) ∨ ((e = .returned (.int .i64 (-1)) ∧ ∀ x ∈ xs, x = 0) ∧ w' = w)
set_option maxHeartbeats 1000000 in
theorem index_nz (p : Option Addr) (n c : Nat) (xs : List Nat) (w : World) (hb : BIn w p xs) (hn : n = xs.length) (hc : xs.length ≤ c) (hcm : c ≤ maxLen) :
    Calls Tryz.prog 144 #[.slice p n c, .func (.func 111) #[] #[]] w fun e w' => IdxPost xs w e w' := by
  subst hn
  unfold maxLen at hcm
  go_enter Tryz.func144, Tryz.ntmps144
  go_wp2
  go_loop [8] (fun i => ∃ k : Nat, k ≤ xs.length ∧ i = .int .i64 k ∧ ∀ j, j < k → xs.getD j 0 = 0) (fun i => xs.length - (intOf i).toNat)
  case atStart => exact ⟨0, by omega, rfl, fun j hj => absurd hj (by omega)⟩
  case round =>
    obtain ⟨k, hk, rfl, hz⟩ := hrel
    have HZ : Hid (∀ j, j < k → xs.getD j 0 = 0) := hz
    clear hz
    by_cases hkl : k < xs.length
    · obtain ⟨b, o, rfl, hcc⟩ := hb.1 (by omega)
      have e1 := hcc k hkl
      have hlt := getD_lt hb.2 k
      have HM : Hid (xs.getD k 0 ≠ 0 → ∃ x ∈ xs, x ≠ 0) := fun h => ⟨_, getD_mem' hkl, h⟩
      have HS : Hid (xs.getD k 0 = 0 → ∀ j, j < k + 1 → xs.getD j 0 = 0) := fun h j hj => by
        rcases Nat.lt_or_ge j k with h' | h'
        · exact HZ.out j h'
        · obtain rfl : j = k := by omega
          exact h
      clear HZ hcc hb
      generalize xs.getD k 0 = y at *
      by_cases g : y = 0
      · have HS2 : Hid _ := HS.out g
        subst g
        clear HM HS
        go_wp2
        go_round
        case rel => exact ⟨k + 1, by omega, by go_num, HS2.out⟩
        case measure => simp [intOf]; omega
      · have HM2 : Hid _ := HM.out g
        have hne : ((y : Int) != 0) = true := by simp; omega
        clear HM HS g
        go_wp2
        go_ret
        exact .inl ⟨⟨k, rfl, HM2.out⟩, rfl⟩
    · obtain rfl : k = xs.length := by omega
      have HA : Hid (∀ x ∈ xs, x = 0) := by
        intro x hx
        obtain ⟨i, hi, rfl⟩ := List.getElem_of_mem hx
        have := HZ.out i hi
        rwa [getD_eq hi] at this
      clear HZ hb
      go_wp2
      go_ret
      exact .inr ⟨⟨rfl, HA.out⟩, rfl⟩
set_option maxHeartbeats 1000000 in
theorem contains_nz (v : Value) (xs : List Nat) (w : World) (hv : Row w v xs) (r : Bool) (hr : r = true ↔ ∃ x ∈ xs, x ≠ 0) :
    Calls Tryz.prog 110 #[v, .func (.func 111) #[] #[]] w fun e w' => e = .returned (.bool r) ∧ w' = w := by
  obtain ⟨p, c, rfl, hb, hlc, hcm, _⟩ := hv.lies
  have hi := index_nz p xs.length c xs w hb rfl hlc hcm
  have HR : Hid (r = true ↔ ∃ x ∈ xs, x ≠ 0) := hr
  clear hr hb
  go_enter Tryz.func110, Tryz.ntmps110
  go_wp2_with fail
  refine hi.mono ?_
  rintro e w1 (⟨⟨k, rfl, h⟩, rfl⟩ | ⟨⟨rfl, h⟩, rfl⟩)
  · have e1 : r = true := HR.out.2 h
    clear h
    go_wp2
    go_ret
    exact ⟨by rw [e1]; rfl, rfl⟩
  · have e1 : r = false := by
      cases r with
      | false => rfl
      | true => obtain ⟨x, hx, hne⟩ := HR.out.1 rfl; exact absurd (h x hx) hne
    clear h
    go_wp2
    go_ret
    exact ⟨by rw [e1]; rfl, rfl⟩
end Go.Proofs.YthifpelappedcaaGreatDoor
namespace Go.Proofs.YthifpelappedcaaGreatDoor
open Go.RowKit Go.WideShapes Rm

theorem FOwn.form {w : World} {base : Nat} {v : Value} {ls : FPs} (h : FOwn w base v ls) : ∃ q m, v = .slice q ls.length m ∧ ls.length ≤ m ∧ m ≤ maxLen ∧ (q = none → m = 0) := own_form h.row
theorem FOwn.fin {w : World} {base : Nat} {v : Value} {ls : FPs} (h : FOwn w base v ls) (hw : ∀ x ∈ ls, Wf x.1.pcs) (hs : ∀ x ∈ ls, wf64 x.1.size) : FIn w v (ls.map Prod.fst) := by
  obtain ⟨q, m, rfl, h1, h2, h3⟩ := h.form
  refine ⟨⟨q, m, by simp, fun hp => ?_, by simpa using h1, h2, h3⟩, fun f hf => ?_⟩
  · rcases h.row.2 with ⟨_, hn⟩ | ⟨g, cap, cur, hv, hb, hg, hle, hmax, hsz, htk⟩
    · simp [hn] at hp
    · simp only [Value.slice.injEq] at hv
      obtain ⟨rfl, _, rfl⟩ := hv
      refine ⟨g, 0, rfl, fun i hi => ?_⟩
      have hi' : i < ls.length := by simpa using hi
      obtain ⟨a0, a1, a2⟩ := cellsF_at ls i ls[i] (List.getElem?_eq_getElem hi')
      have hget : (ls.map Prod.fst).getD i zeroF = ls[i].1 := by simp [List.getD, hi']
      rw [hget]
      refine ⟨by rw [Nat.zero_add, World.ownsRow.cellAt h.row _ (by omega), a0], by rw [Nat.zero_add, World.ownsRow.cellAt h.row _ (by omega), a1], ls[i].2, by rw [Nat.zero_add, World.ownsRow.cellAt h.row _ (by omega), a2], ?_⟩
      exact (h.pcs _ (List.getElem_mem hi')).pin (hw _ (List.getElem_mem hi'))
  · obtain ⟨x, hx, rfl⟩ := List.mem_map.1 hf
    exact hs x hx
theorem set2_at (w : World) (B b : Nat) (x y : Value) (h : b ≠ B) : ((w.setCell ⟨B, 0, none⟩ x).setCell ⟨B, 1, none⟩ y).heap[b]? = w.heap[b]? := by
  rw [Below.heap_setCell _ _ _ _ h, Below.heap_setCell _ _ _ _ h]
theorem FOwn.set2 {w : World} {base B : Nat} {v : Value} {ls : FPs} (h : FOwn w base v ls) (hB : B < base) (x y : Value) : FOwn ((w.setCell ⟨B, 0, none⟩ x).setCell ⟨B, 1, none⟩ y) base v ls := by
  refine ⟨?_, fun u hu => set2_pown (h.pcs u hu) (fun e => by have := ((h.pcs u hu).lt _ e).1; omega) x y⟩
  have hne : v.ownBlock ≠ some B := fun e => by have := (h.row.lt _ e).1; omega
  refine World.ownsRow.kept (row := some B) h.row ⟨rfl, rfl, rfl, by simp [World.setCell], fun k hk hne => set2_at w B k x y (fun e => hne (by rw [e]))⟩ (by cases hv : v.ownBlock with | none => exact .inl rfl | some g => exact .inr (by rw [← hv]; exact hne))
theorem beg8_sec0 (xs : List Nat) : beg8 (secAt xs 0) = beg8 xs := by
  unfold secAt beg8
  have : ∀ i, i < 8 → ((xs.drop (0 * 128)).take 128).getD i 0 = xs.getD i 0 := by
    intro i hi
    simp [List.getD, show i < 128 from by omega]
  rw [this 0 (by omega), this 1 (by omega), this 2 (by omega), this 3 (by omega), this 4 (by omega), this 5 (by omega), this 6 (by omega), this 7 (by omega)]
theorem isDir_ok {x : DirV} {xs : List Nat} (h : IsDir ltS x xs) {i : Nat} (hi : i < 8) : SecOk xs i := by
  have h0 := isDir_sec h (i := 0) (by omega)
  have h1 := isDir_sec h hi
  rw [beg8_sec0 xs] at h0
  exact ⟨by rw [h1.1, h0.1], h1.2⟩
theorem bokBP : Bok BP := ⟨by simp [BP], by simp [BP], by simp [BP], by simp [BP], by simp [BP]⟩
theorem cutL_eq (b : List Nat) : cutL (cutFile BP) b = cutFiles BP b := rfl
theorem small_one (n : Nat) : 1 ≤ (smallN n).length := smallN_pos n
theorem pcs_le (l : Pcs) : l.length ≤ (l.flatMap pieceN).length := by
  induction l with
  | nil => simp
  | cons p l ih =>
    rw [List.flatMap_cons, List.length_append, List.length_cons]
    have : 1 ≤ (pieceN p).length := by unfold pieceN; rw [List.length_append]; have := small_one p.1.toNat; omega
    omega
theorem file_le (f : FileV) : f.name.size ≤ (fileN f).length ∧ f.pcs.length ≤ (fileN f).length := by
  have := pcs_le f.pcs
  have h2 := numsOf_len f.name
  unfold fileN textN
  simp only [List.length_append]
  omega
theorem files_le (l : List FileV) : (∀ f ∈ l, f.name.size ≤ (l.flatMap fileN).length) ∧ (allPcs l).length ≤ (l.flatMap fileN).length := by
  induction l with
  | nil => exact ⟨fun f hf => by simp at hf, by simp [allPcs]⟩
  | cons g l ih =>
    have hg := file_le g
    unfold allPcs at ih ⊢
    rw [List.flatMap_cons, List.flatMap_cons, List.length_append, List.length_append]
    refine ⟨fun f hf => ?_, by omega⟩
    rcases List.mem_cons.1 hf with rfl | h
    · omega
    · have := ih.1 f h; omega
theorem cut_told {xs r : List Nat} {l : List FileV} (hb : Byt xs) (h : cutFiles BP xs = some (l, r)) : ((∀ f ∈ l, f.name.size ≤ xs.length) ∧ (allPcs l).length ≤ xs.length) ∧ (∀ f ∈ l, wf64 f.size ∧ Wf f.pcs) := by
  have h1 := cutFiles_only hb h
  have h2 := files_le l
  have h3 : (l.flatMap fileN).length ≤ xs.length := by
    rw [h1]; unfold insideN; simp only [List.length_append]; omega
  refine ⟨⟨fun f hf => Nat.le_trans (h2.1 f hf) h3, Nat.le_trans h2.2 h3⟩, ?_⟩
  unfold cutFiles at h
  split at h
  · cases h
  · rename_i n r1 e1
    obtain ⟨g1, _⟩ := cutNum_only hb e1
    obtain ⟨_, _, g4⟩ := cutMany_only (g := fileN) (Q := fun f => (0 ≤ f.size ∧ f.size ≤ BP.size) ∧ f.pcs.length ≤ BP.many ∧ ∀ p ∈ f.pcs, (0 ≤ p.1 ∧ p.1 ≤ BP.lo) ∧ (0 ≤ p.2 ∧ p.2 ≤ BP.count)) (fun b x r hb h => cutFile_only hb h) n r1 l r (Byt.app (g1 ▸ hb)) h
    intro f hf
    obtain ⟨k1, _, k3⟩ := g4 f hf
    simp only [BP] at k1 k3
    refine ⟨⟨by omega, by omega⟩, fun p hp => ?_⟩
    have := k3 p hp
    omega
/-- What read answers. -/
def ReadPost (w : World) (xs : List Nat) (e : Ending) (w' : World) : Prop :=
  (∃ x ls lv, IsDir ltS x xs ∧ ls.map Prod.fst = x.files ∧ e = .returned (.tuple #[.agg #[.int .i64 x.gen, lv], .nilIface]) ∧ FOwn w' w.heap.size lv ls ∧ Below w.heap.size w w')
  ∨ (∃ ev, (∀ x, ¬ IsDir ltS x xs) ∧ e = .returned (.tuple #[.agg #[.int .i64 0, .slice none 0 0], ev]) ∧ Faults ev 8 ∧ Below w.heap.size w w')
theorem inner_byt {xs : List Nat} (hb : Byt xs) (k : Nat) : Byt (innerN xs k) := by
  intro c hc
  obtain ⟨i, _, h⟩ := List.mem_flatMap.1 hc
  exact hb c (List.mem_of_mem_drop (List.mem_of_mem_take (List.mem_of_mem_drop h)))
theorem wrap_pos {n : Nat} (h : n < 18446744073709551616) (h1 : 1 ≤ wrap64 (n : Int)) : wrap64 (n : Int) = n := by
  unfold wrap64 at *; omega
theorem wrap_low {n : Nat} (h : n < 9223372036854775808) : wrap64 (n : Int) = n := by
  unfold wrap64; omega
theorem wrap_wf {n : Nat} : wf64 (wrap64 (n : Int)) := by
  unfold wrap64 wf64; omega
/-- A directory of these bytes is what is read off them. -/
theorem isDir_is {y : DirV} {xs r : List Nat} {l : List FileV} (h : IsDir ltS y xs) (hc : cutFiles BP (innerN xs 8) = some (l, r)) : y = ⟨wrap64 (beg8 xs : Nat), l⟩ ∧ ∀ c ∈ r, c = 0 := by
  obtain ⟨r', h1, h2⟩ := isDir_cut bokBP h
  rw [hc] at h1
  simp only [Option.some.injEq, Prod.mk.injEq] at h1
  have g := (isDir_sec h (i := 0) (by omega)).1
  rw [beg8_sec0 xs] at g
  have a1 := h.1.lo
  have a2 := h.1.hi
  obtain ⟨gy, fy⟩ := y
  simp only at h1 g a1 a2
  refine ⟨?_, by rw [h1.2]; exact h2⟩
  rw [h1.1, wrap_low (by omega), show gy = (beg8 xs : Int) from by omega]
end Go.Proofs.YthifpelappedcaaGreatDoor
