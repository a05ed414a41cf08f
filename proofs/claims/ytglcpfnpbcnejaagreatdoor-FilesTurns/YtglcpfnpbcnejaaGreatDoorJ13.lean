/-
  Contract of cutList at pieces.
-/
import Derived.Test.YtglcpfnpbcnejaaGreatDoorJ12
import Derived.Test.YtglcpfnpbcnejaaGreatDoorJ09
import Derived.Defers
import Derived.Recover
import Derived.Test.YtglcpfnpbcnejaaGreatDoorJ08
namespace Go.Proofs.YtglcpfnpbcnejaaGreatDoor
open Go.RowKit Go.WideShapes Rm

theorem pad_snoc (xs : List Nat) (j : Nat) : xs ++ List.replicate j 0 ++ [0] = xs ++ List.replicate (j + 1) 0 := by
  rw [List.append_assoc, List.replicate_succ']
def WrotePost (x : DirV) (w : World) (e : Ending) (w' : World) : Prop := ∃ r n b, e = .returned (.tuple #[r, .int .i64 n]) ∧ Wrote x n b ∧ w'.ownsRow w.heap.size 5 1 r b.length (Bs b) ∧ Below w.heap.size w w'
def lenOf : Value → Nat
  | .slice _ n _ => n
  | _ => 0
theorem own_some {w : World} {base n : Nat} {v : Value} {xs : List Value} (h : w.ownsRow base 5 1 v n xs) (hn : 0 < n) : ∃ g m, v = .slice (some ⟨g, 0, none⟩) n m ∧ n ≤ m ∧ m ≤ maxLen ∧ g < w.heap.size := by
  rcases h.2 with ⟨_, h0⟩ | ⟨g, cap, cur, hv, _, hg, h1, h2, _⟩
  · omega
  · exact ⟨g, cap, hv, h1, h2, lt_heap hg⟩
set_option maxRecDepth 20000 in
set_option maxHeartbeats 4000000 in
theorem rWrite_any (v : Value) (x : DirV) (w : World) (hx : DirIn w v x) (hs : ∀ f ∈ x.files, (f.name.size : Int) ≤ 9223372036854775807) (hsum : (allPcs x.files).length ≤ 1000000) :
    Calls Tryz.prog 47 #[v] w fun e w' => WrotePost x w e w' := by
  obtain ⟨fv, rfl, hf⟩ := hx.lies
  obtain ⟨gen, l⟩ := x
  have HX : Hid (DirIn w (.agg #[.int .i64 gen, fv]) ⟨gen, l⟩) := hx
  have hgw := hx.wf
  unfold wf64 at hgw
  obtain ⟨q, c, rfl, hq, hlc, hcm, _⟩ := hf.lies
  unfold maxLen at hcm
  simp only at hs hsum hlc hgw
  have HQ : Hid (FilesIn w q l) := hq
  clear hq hx hf
  by_cases h1 : l.length ≤ 32
  · by_cases hm : MayR ⟨gen, l⟩
    · have hM : May ltS ⟨gen, l⟩ := (mayR_iff h1).1 hm
      have hmy := rmay_any _ ⟨gen, l⟩ true (w.alloc (.cells #[.int .i64 gen, .slice q l.length c] 31)) ⟨fun _ => hm, fun _ => rfl⟩ (HX.out.below (below_alloc w _)) hs hsum
      have HT : Hid (Told l) := hM.told
      have hlo := hM.lo
      have hhi := hM.hi
      simp only at hlo hhi
      have HWL : Hid (952 < (insideN l).length → Wrote ⟨gen, l⟩ 42 []) := fun h => .long hM h
      have HWO : Hid ((insideN l).length ≤ 952 → Wrote ⟨gen, l⟩ 0 (bytesN ⟨gen, l⟩)) := fun h => .ok hM h
      have hlen0 := smallN_ten l.length (by omega)
      clear hm hM hs hsum
      go_enter Tryz.func47, Tryz.ntmps47
      go_wp2_with fail
      refine hmy.mono ?_
      rintro e w1 ⟨rfl, hb1⟩
      have hs1 := hb1.size
      simp at hs1
      have hbx1 : w1.heap[w.heap.size]? = some (.cells #[.int .i64 gen, .slice q l.length c] 31 (0, 0)) := (hb1.block _ (by simp)).trans (heap_alloc_new w _)
      have d1 : w1.cell? ⟨w.heap.size, 1, none⟩ = some (.slice q l.length c) := cell_of_row _ _ _ _ _ _ hbx1
      have HB1 : Hid (Below w.heap.size w w1) := (below_alloc w _).trans (hb1.mono (by simp))
      have HX1 : Hid _ := hbx1
      clear hmy hb1 hbx1
      go_wp2_with fail
      refine (rsmall4_any l.length w1 (by omega)).mono ?_
      rintro e w0 ⟨v0, rfl, ho0, hb0⟩
      rw [Int.toNat_natCast] at ho0
      have S0 : St w [(w.heap.size, #[.int .i64 gen, .slice q l.length c], 31)] w0 v0 (smallN l.length) := ⟨own_mono ho0 (by omega), HB1.out.trans (hb0.mono (by omega)), fun p hp => by
        rcases List.mem_singleton.1 hp with rfl
        exact ⟨(hb0.block _ (lt_heap HX1.out)).trans HX1.out, by simp⟩⟩
      clear ho0 hb0 HX1 HB1 d1
      go_wp2
      go_loopw [4, 5] (fun m i wr => ∃ k : Nat, k ≤ l.length ∧ i = .int .i64 k ∧ St w [(w.heap.size, #[.int .i64 gen, .slice q l.length c], 31)] wr m (smallN l.length ++ (l.take k).flatMap fileN)) (fun _ i _ => l.length - (intOf i).toNat)
      case atStart => exact ⟨0, by omega, rfl, by simpa using S0⟩
      case round =>
        obtain ⟨k, hk, rfl, hst⟩ := hrel
        clear S0
        have d1 : wr.cell? ⟨w.heap.size, 1, none⟩ = some (.slice q l.length c) := hst.cell List.mem_cons_self 1
        by_cases hkl : k < l.length
        · obtain ⟨b, o, rfl⟩ := HQ.out.addr (by omega)
          have hat := HQ.out.at hkl
          obtain ⟨e0, e1, pv, e2, hp⟩ := hat
          have f0 := (hst.bel.cell (World.block_lt_of_cell? _ _ e0)).trans e0
          have f1 := (hst.bel.cell (World.block_lt_of_cell? _ _ e1)).trans e1
          have f2 := (hst.bel.cell (World.block_lt_of_cell? _ _ e2)).trans e2
          obtain ⟨qp, cp, rfl, hqp, hlc2, hcm2, _⟩ := hp.lies
          have hmem : l.getD k zeroF ∈ l := getD_mem' hkl
          have h32 := HT.out.name _ hmem
          have hsz := HT.out.size _ hmem
          have hpl := HT.out.pcs _ hmem
          have HPC : Hid _ := HT.out.piece _ hmem
          have HPT : Hid _ := pcs_take_len HT.out hmem
          have hfl := files_take_len HT.out k
          have HFF : Hid _ := files_flat hkl
          have HFN : Hid (fileN (l.getD k zeroF) = textN (l.getD k zeroF).name ++ smallN (l.getD k zeroF).size.toNat ++ smallN (l.getD k zeroF).pcs.length ++ (l.getD k zeroF).pcs.flatMap pieceN) := rfl
          have HP : Hid (PcsIn w qp (l.getD k zeroF).pcs) := hqp
          clear hp hqp hmem e0 e1 e2
          generalize hy : l.getD k zeroF = y at *
          obtain ⟨nm, sz, pl⟩ := y
          simp only at f0 f1 f2 h32 hsz hpl hlc2
          have hal := hst.alloc #[.string nm, .int .i64 sz, .slice qp pl.length cp] 51 (by decide)
          have HA : Hid (St w [(wr.heap.size, #[.string nm, .int .i64 sz, .slice qp pl.length cp], 51), (w.heap.size, #[.int .i64 gen, .slice (some ⟨b, o, none⟩) l.length c], 31)] (wr.alloc (.cells #[.string nm, .int .i64 sz, .slice qp pl.length cp] 51)) _ (smallN l.length ++ (l.take k).flatMap fileN)) := hal
          clear hal hst
          have htx := textN_len nm (by omega)
          have hss := smallN_ten sz.toNat (by omega)
          have hsp := smallN_ten pl.length (by omega)
          unfold maxLen at hcm2
          go_wp2_with fail
          refine (refText_any nm _ (by omega)).mono ?_
          rintro e w1a ⟨v1a, rfl, ho1, hb1⟩
          have S1a := HA.out.call hb1
          obtain ⟨q1, m1, rfl, _, _, hn1⟩ := own_form ho1
          have hi1 := own_in ho1 (textN_bytes nm)
          have HS1a : Hid _ := S1a
          have HI1 : Hid _ := hi1
          have hsz1 := S1a.size
          clear S1a hi1 ho1 hb1 HA
          go_wp2_with (at_builtin; refine wpList_append_bytes _ rfl _ _ rfl w.heap.size _ _ (textN nm) q1 _ m1 rfl rfl rfl HS1a.out.own HI1.out hn1 (by simp only [List.length_append]; omega) hsz1 ?_; intro v1b w1b ho1b hg1b; have S1b := HS1a.out.app ho1b hg1b; have c11 : w1b.cell? ⟨wr.heap.size, 1, none⟩ = some (.int .i64 sz) := S1b.cell List.mem_cons_self 1; have c12 : w1b.cell? ⟨wr.heap.size, 2, none⟩ = some (.slice qp pl.length cp) := S1b.cell List.mem_cons_self 2)
          have H1 : Hid _ := S1b
          clear S1b HS1a HI1 ho1b hg1b
          go_wp2_with fail
          refine (rsmall4_any sz _ (by omega)).mono ?_
          rintro e w2a ⟨v2a, rfl, ho2, hb2⟩
          have S2a := H1.out.call hb2
          obtain ⟨q2, m2, rfl, _, _, hn2⟩ := own_form ho2
          have hi2 := own_in ho2 (smallN_bytes _)
          have HS2a : Hid _ := S2a
          have HI2 : Hid _ := hi2
          have hsz2 := S2a.size
          clear S2a hi2 ho2 hb2 H1
          go_wp2_with (at_builtin; refine wpList_append_bytes _ rfl _ _ rfl w.heap.size _ _ (smallN sz.toNat) q2 _ m2 rfl rfl rfl HS2a.out.own HI2.out hn2 (by simp only [List.length_append]; omega) hsz2 ?_; intro v2b w2b ho2b hg2b; have S2b := HS2a.out.app ho2b hg2b; have c22 : w2b.cell? ⟨wr.heap.size, 2, none⟩ = some (.slice qp pl.length cp) := S2b.cell List.mem_cons_self 2)
          have H2 : Hid _ := S2b
          clear S2b HS2a HI2 ho2b hg2b c11 c12
          go_wp2_with fail
          refine (rsmall4_any pl.length _ (by omega)).mono ?_
          rintro e w3a ⟨v3a, rfl, ho3, hb3⟩
          have S3a := H2.out.call hb3
          obtain ⟨q3, m3, rfl, _, _, hn3⟩ := own_form ho3
          have hi3 := own_in ho3 (smallN_bytes _)
          have HS3a : Hid _ := S3a
          have HI3 : Hid _ := hi3
          have hsz3 := S3a.size
          clear S3a hi3 ho3 hb3 H2
          go_wp2_with (at_builtin; refine wpList_append_bytes _ rfl _ _ rfl w.heap.size _ _ (smallN pl.length) q3 _ m3 rfl rfl rfl HS3a.out.own HI3.out hn3 (by simp only [List.length_append]; omega) hsz3 ?_; intro v3b w3b ho3b hg3b; have S3b := HS3a.out.app ho3b hg3b; have c32 : w3b.cell? ⟨wr.heap.size, 2, none⟩ = some (.slice qp pl.length cp) := S3b.cell List.mem_cons_self 2)
          have H3 : Hid (St w [(wr.heap.size, #[.string nm, .int .i64 sz, .slice qp pl.length cp], 51), (w.heap.size, #[.int .i64 gen, .slice (some ⟨b, o, none⟩) l.length c], 31)] w3b v3b (smallN l.length ++ (l.take k).flatMap fileN ++ textN nm ++ smallN sz.toNat ++ smallN pl.length)) := S3b
          clear S3b HS3a HI3 ho3b hg3b c22
          generalize hX : smallN l.length ++ (l.take k).flatMap fileN ++ textN nm ++ smallN sz.toNat ++ smallN pl.length = X at *
          have hXl : X.length ≤ 7000000 := by rw [← hX]; simp only [List.length_append]; omega
          go_wp2
          go_loopw [4, 7] (fun m i wn => ∃ j : Nat, j ≤ pl.length ∧ i = .int .i64 j ∧ St w [(wr.heap.size, #[.string nm, .int .i64 sz, .slice qp pl.length cp], 51), (w.heap.size, #[.int .i64 gen, .slice (some ⟨b, o, none⟩) l.length c], 31)] wn m (X ++ (pl.take j).flatMap pieceN)) (fun _ i _ => pl.length - (intOf i).toNat)
          case atStart => exact ⟨0, by omega, rfl, by simpa using H3.out⟩
          case round =>
            obtain ⟨j, hj, rfl, hst⟩ := hrel
            clear H3
            have c2 : wr.cell? ⟨_, 2, none⟩ = some (.slice qp pl.length cp) := hst.cell List.mem_cons_self 2
            by_cases hjl : j < pl.length
            · obtain ⟨bp, op, rfl⟩ := HP.out.addr (by omega)
              obtain ⟨a, n, hz⟩ : ∃ a n, pl.getD j (0, 0) = (a, n) := ⟨_, _, rfl⟩
              obtain ⟨e1, e2⟩ := (HP.out.below hst.bel).at hjl
              have hpt := HPT.out j
              have hpc := HPC.out _ (getD_mem' (d := (0, 0)) hjl)
              have HPF : Hid _ := pcs_flat hjl
              rw [hz] at e1 e2 hpc HPF
              simp only at e1 e2 hpc
              have HA : Hid _ := hst
              have hsa := smallN_ten a.toNat (by omega)
              have hsn := smallN_ten n.toNat (by omega)
              clear hst
              go_wp2_with fail
              refine (rsmall4_any a _ (by omega)).mono ?_
              rintro e w4a ⟨v4a, rfl, ho4, hb4⟩
              have S4a := HA.out.call hb4
              obtain ⟨q4, m4, rfl, _, _, hn4⟩ := own_form ho4
              have hi4 := own_in ho4 (smallN_bytes _)
              have HS4a : Hid _ := S4a
              have HI4 : Hid _ := hi4
              have hsz4 := S4a.size
              clear S4a hi4 ho4 hb4 HA
              go_wp2_with (at_builtin; refine wpList_append_bytes _ rfl _ _ rfl w.heap.size _ _ (smallN a.toNat) q4 _ m4 rfl rfl rfl HS4a.out.own HI4.out hn4 (by simp only [List.length_append]; omega) hsz4 ?_; intro v4b w4b ho4b hg4b; have S4b := HS4a.out.app ho4b hg4b; have c42 : w4b.cell? ⟨_, 2, none⟩ = some (.slice (some ⟨bp, op, none⟩) pl.length cp) := S4b.cell List.mem_cons_self 2; have e2b := ((HP.out.below S4b.bel).at hjl).2; rw [hz] at e2b; simp only at e2b)
              have H4 : Hid _ := S4b
              clear S4b HS4a HI4 ho4b hg4b
              go_wp2_with fail
              refine (rsmall4_any n _ (by omega)).mono ?_
              rintro e w5a ⟨v5a, rfl, ho5, hb5⟩
              have S5a := H4.out.call hb5
              obtain ⟨q5, m5, rfl, _, _, hn5⟩ := own_form ho5
              have hi5 := own_in ho5 (smallN_bytes _)
              have HS5a : Hid _ := S5a
              have HI5 : Hid _ := hi5
              have hsz5 := S5a.size
              clear S5a hi5 ho5 hb5 H4
              go_wp2_with (at_builtin; refine wpList_append_bytes _ rfl _ _ rfl w.heap.size _ _ (smallN n.toNat) q5 _ m5 rfl rfl rfl HS5a.out.own HI5.out hn5 (by simp only [List.length_append]; omega) hsz5 ?_; intro v5b w5b ho5b hg5b; have S5b := HS5a.out.app ho5b hg5b)
              have H5 : Hid _ := S5b
              clear S5b HS5a HI5 ho5b hg5b c42 e2b
              go_roundw
              case rel => exact ⟨j + 1, by omega, by go_num, H5.out.eq (by rw [HPF.out]; unfold pieceN; simp only [List.append_assoc])⟩
              case measure => simp [intOf]; omega
            · obtain rfl : j = pl.length := by omega
              rw [List.take_length] at hst
              have HS : Hid _ := hst
              clear hst
              go_wp2
              refine ⟨⟨k + 1, by omega, by go_num, HS.out.drop.eq ?_⟩, by simp [intOf]; omega⟩
              rw [HFF.out, HFN.out, ← hX]
              simp only [List.append_assoc]
        · obtain rfl : k = l.length := by omega
          rw [List.take_length] at hst
          have hst' : St w [(w.heap.size, #[.int .i64 gen, .slice q l.length c], 31)] wr _ (insideN l) := hst
          clear hst
          obtain ⟨q2, m2, rfl, _⟩ := own_form hst'.own
          by_cases h2 : (insideN l).length ≤ 952
          · have HW := HWO.out h2
            unfold bytesN at HW
            simp only at HW
            obtain ⟨gn, rfl⟩ := Int.eq_ofNat_of_zero_le (show 0 ≤ gen by omega)
            rw [Int.toNat_natCast] at HW
            have HW' : Hid _ := HW
            have HGL : Hid (gn < 4611686018427387904) := by show _ < _; omega
            clear hlo hhi hgw
            have HIB : Hid _ := insideN_bytes l
            clear HW HWL HWO
            generalize hX : insideN l = X at *
            have S0 := hst'
            have H2 : Hid (X.length ≤ 952) := h2
            have h2i : (X.length : Int) ≤ 952 := by omega
            have HS0 : Hid _ := S0
            clear hst' h2 S0
            generalize hLL : X.length = L at *
            go_wp2
            go_loopw [4] (fun m wr => ∃ j : Nat, X.length + j ≤ 952 ∧ St w [(w.heap.size, #[.int .i64 (gn : Int), .slice q l.length c], 31)] wr m (X ++ List.replicate j 0)) (fun m _ => 952 - lenOf m)
            case atStart => exact ⟨0, by rw [hLL]; exact H2.out, by simpa using HS0.out⟩
            case round =>
              clear HS0
              obtain ⟨j, hj, hst⟩ := hrel
              have hlen : (X ++ List.replicate j 0).length = X.length + j := by simp
              by_cases hjl : X.length + j < 952
              · obtain ⟨q3, m3, hv3, _⟩ := own_form hst.own
                rw [hlen] at hv3
                subst hv3
                have HS : Hid _ := hst
                have hs3 := hst.size
                have HJ : Hid (X.length + j < 952) := hjl
                have hji : (X.length : Int) + (j : Int) < 952 := by omega
                clear hst hj hjl
                go_wp2_with (at_builtin; refine wpList_append_bytes _ rfl _ _ rfl w.heap.size _ _ [0] (some ⟨wr.heap.size, 0, none⟩) _ 1 rfl rfl rfl (St.own (St.call HS.out (below_alloc wr (.cells #[.int .u8 0] 5)))) (bin_lit wr _ _ _ _ [0] rfl rfl (by simp)) (fun h => by cases h) (by have := HJ.out; rw [hlen]; simp; omega) (by simp; omega) ?_; intro v5 w5 ho5 hg5; have S5 := (St.call HS.out (below_alloc wr (.cells #[.int .u8 0] 5))).app ho5 hg5)
                obtain ⟨q5, m5, hv5, _⟩ := own_form S5.own
                go_roundw
                case rel => exact ⟨j + 1, by have := HJ.out; omega, S5.eq (pad_snoc X j)⟩
                case measure => have := HJ.out; rw [hv5]; simp [lenOf]; omega
              · have hpad : X ++ List.replicate j 0 = padN X := by unfold padN; rw [show 952 - X.length = j from by omega]
                rw [hpad] at hst
                have hpl : (padN X).length = 952 := pad_len (by omega)
                have hpb := pad_bytes HIB.out
                clear hpad hlen
                generalize padN X = ys at *
                obtain ⟨g5, m5, rfl, hm5, hmx, hg5⟩ := own_some hst.own (by omega)
                have HB5 : Hid (BIn wr (some ⟨g5, 0, none⟩) ys) := own_in hst.own hpb
                have HBW : Hid (Below w.heap.size w wr) := hst.bel
                have hsz5 := hst.size
                have HBX : Hid (wr.heap[w.heap.size]? = some (.cells #[.int .i64 (gn : Int), .slice q l.length c] 31 (0, 0))) := (hst.box _ List.mem_cons_self).1
                have hlt5 := lt_heap HBX.out
                unfold maxLen at hmx
                clear hst
                rw [hpl]
                have hm5i : (952 : Int) ≤ m5 := by omega
                have HM5 : Hid (ys.length ≤ m5) := hm5
                clear hj hjl h2i
                generalize hww : wr = w5 at *
                clear hww
                go_wp2
                go_loopw [8, 9] (fun m i wn => ∃ k : Nat, k ≤ 8 ∧ i = .int .i64 k ∧ St w5 [] wn m (sectsN gn ys k)) (fun _ i _ => 8 - (intOf i).toNat)
                case atStart => exact ⟨0, by omega, rfl, St.start (fun p hp => by simp at hp)⟩
                case round =>
                  obtain ⟨k, hk8, rfl, hst⟩ := hrel
                  have HS : Hid _ := hst
                  by_cases hkl : k < 8
                  · have hlen : (sectsN gn ys k).length ≤ 2000 := by
                      unfold sectsN
                      have := flat_le (l := List.range k) (f := sectN gn ys) (c := 128) (fun i _ => by unfold sectN; simp [putN_len]; omega)
                      simp at this ⊢
                      omega
                    have HSN : Hid _ := sects_snoc gn ys k
                    have hwr : IntKind.u64.wrap (gn : Int) = (gn : Int) := by have := HGL.out; rw [IntKind.wrap_u64]; omega
                    have hwk : IntKind.u8.wrap (k : Int) = (k : Int) := by rw [IntKind.wrap_u8]; omega
                    have d0 : wr.cell? ⟨w.heap.size, 0, none⟩ = some (.int .i64 (gn : Int)) := cell_of_row _ _ _ _ _ _ ((hst.bel.block _ hlt5).trans HBX.out)
                    clear hst
                    go_wp2_with fail
                    refine (refPut_any gn _ (by have := HGL.out; omega)).mono ?_
                    rintro e w3 ⟨v3, rfl, ho3, hb3⟩
                    obtain ⟨q3, m3, rfl, _, _, hn3⟩ := own_form ho3
                    have hi3 : BIn w3 q3 (putN gn) := own_in ho3 (putN_bytes gn (by have := HGL.out; omega))
                    have S3 := HS.out.call hb3
                    have hs3 := S3.size
                    have H3 : Hid _ := S3
                    have HI3 : Hid _ := hi3
                    clear S3 hi3 hb3 ho3 HS
                    go_wp2_with (first
                      | (at_builtin; refine wpList_append_bytes _ rfl _ _ rfl w5.heap.size _ _ (putN gn) q3 _ m3 rfl rfl rfl H3.out.own HI3.out hn3 (by simp [putN_len]; omega) hs3 ?_; intro v4 w4 ho4 hg4; have S4 := H3.out.app ho4 hg4; have hs4 := S4.size; have H4 : Hid _ := S4; clear S4 ho4 hg4 H3 HI3)
                      | (at_builtin; refine wpList_append_bytes _ rfl _ _ rfl w5.heap.size _ _ [k] (some ⟨w4.heap.size, 0, none⟩) _ 1 rfl rfl rfl (H4.out.call (below_alloc w4 (.cells #[.int .u8 k] 5))).own (bin_lit w4 _ _ _ _ [k] rfl rfl (by simp; omega)) (fun h => by cases h) (by simp [putN_len]; omega) (by simp; omega) ?_; intro v6 w6 ho6 hg6; have S6 := (H4.out.call (below_alloc w4 (.cells #[.int .u8 k] 5))).app ho6 hg6; have hs6 := S6.size; have hbb := bin_part4 (HB5.out.below S6.bel) (k * 119) 119 (by omega); rw [Nat.zero_add] at hbb; have HBB : Hid _ := hbb; have H6 : Hid _ := S6; clear hbb S6 ho6 hg6 H4)
                      | (at_builtin; refine wpList_append_bytes _ rfl _ _ rfl w5.heap.size _ _ ((ys.drop (k * 119)).take 119) (some ⟨g5, k * 119, none⟩) _ (m5 - k * 119) rfl rfl (by rw [List.length_take, List.length_drop]; omega) H6.out.own HBB.out (fun h => by cases h) (by simp only [List.length_append, List.length_take, List.length_drop, List.length_singleton, putN_len]; omega) hs6 ?_; intro v7 w7 ho7 hg7; have S7 := H6.out.app ho7 hg7; have H7 : Hid _ := S7; clear S7 ho7 hg7 H6 HBB)
                      | fail)
                    go_roundw
                    case rel => exact ⟨k + 1, by omega, by go_num, H7.out.eq HSN.out.symm⟩
                    case measure => simp [intOf]; omega
                  · obtain rfl : k = 8 := by omega
                    clear hst
                    go_wp2
                    go_ret2
                    exact ⟨_, 0, _, rfl, HW'.out, own_mono HS.out.own hsz5, HBW.out.trans (HS.out.bel.mono hsz5)⟩
          · have HW' : Hid (Wrote ⟨gen, l⟩ 42 []) := HWL.out (by omega)
            have HB : Hid (Below w.heap.size w wr) := hst'.bel
            clear hst' HWL HWO
            generalize (insideN l).length = L at *
            go_wp2
            go_ret2
            exact ⟨_, 42, [], rfl, HW'.out, World.ownsRow_nil _ _ _ _, HB.out⟩
    · have hmy := rmay_any _ ⟨gen, l⟩ false (w.alloc (.cells #[.int .i64 gen, .slice q l.length c] 31)) ⟨fun h => (by cases h), fun h => absurd h hm⟩ (HX.out.below (below_alloc w _)) hs hsum
      have HW : Hid (Wrote ⟨gen, l⟩ 8 []) := .bad h1 (fun h => hm ((mayR_iff h1).2 h))
      clear hm hs hsum
      go_enter Tryz.func47, Tryz.ntmps47
      go_wp2_with fail
      refine hmy.mono ?_
      rintro e w1 ⟨rfl, hb1⟩
      go_wp2
      go_ret2
      exact ⟨_, 8, [], rfl, HW.out, World.ownsRow_nil _ _ _ _, (below_alloc w _).trans (hb1.mono (by simp))⟩
  · go_enter Tryz.func47, Tryz.ntmps47
    go_wp2
    go_ret2
    exact ⟨_, 42, [], rfl, .many (by show 32 < l.length; omega), World.ownsRow_nil _ _ _ _, below_alloc _ _⟩
end Go.Proofs.YtglcpfnpbcnejaaGreatDoor
namespace Go.Proofs.YtglcpfnpbcnejaaGreatDoor
open Go.RowKit Go.WideShapes Rm

theorem number_v (v : Value) (e : Int) (hv : ErrV v e) (w : World) (hg : ErrT w) : Calls Tryz.prog 30 #[v] w fun ev w' => ev = .returned (.int .i64 e) ∧ Below w.heap.size w w' := by
  rcases hv with ⟨rfl, rfl⟩ | ⟨_, h⟩
  · exact number_nil w
  · exact number_any v e h w hg
theorem heap_size_alloc (w : World) (o : Obj) : (w.alloc o).heap.size = w.heap.size + 1 := by simp
theorem vars2 {a b : Value} {s t : TypeId} (w w1 : World) (hb : Below ((w.alloc (.cells #[a] s)).alloc (.cells #[b] t)).heap.size ((w.alloc (.cells #[a] s)).alloc (.cells #[b] t)) w1) :
    w1.cell? ⟨w.heap.size, 0, none⟩ = some a ∧ w1.cell? ⟨w.heap.size + 1, 0, none⟩ = some b ∧ w1.frozen? ⟨w.heap.size, 0, none⟩ = false ∧ w1.frozen? ⟨w.heap.size + 1, 0, none⟩ = false := by
  refine ⟨?_, ?_, ?_, ?_⟩
  · rw [hb.cell (by simp; omega), World.cell?_alloc_lt _ _ _ (by simp)]; simp
  · rw [hb.cell (by simp)]; simp
  · rw [hb.frozen (by simp; omega), World.frozen?_alloc_old _ _ _ (by simp)]; simp
  · rw [hb.frozen (by simp)]; simp
theorem doorV {A E : Addr} {w : World} {ev oa oe : Value} (hne : A ≠ E) (ha : w.cell? A = some oa) (he : w.cell? E = some oe) (_fa : w.frozen? A = false) (fe : w.frozen? E = false) :
    ((w.setCell A ev).setCell E (.int .i64 0)).cell? A = some ev ∧ ((w.setCell A ev).setCell E (.int .i64 0)).cell? E = some (.int .i64 0) ∧ ((w.setCell A ev).setCell E (.int .i64 0)).frozen? E = false := by
  refine ⟨?_, ?_, ?_⟩
  · rw [World.cell?_setCell_other _ _ _ _ (Ne.symm hne)]
    exact World.cell?_setCell_same _ _ _ ha
  · refine World.cell?_setCell_same _ _ _ (u := oe) ?_
    rw [World.cell?_setCell_other _ _ _ _ hne]
    exact he
  · simp [fe]
end Go.Proofs.YtglcpfnpbcnejaaGreatDoor
namespace Go.Proofs.YtglcpfnpbcnejaaGreatDoor
open Go.RowKit Go.WideShapes Rm

/-- A []byte whose block is one of bytes. -/
structure RowT (w : World) (v : Value) (xs : List Nat) : Prop where
  row : Row w v xs
  blk : 0 < xs.length → ∃ b o n c C fr, v = .slice (some ⟨b, o, none⟩) n c ∧ w.heap[b]? = some (.cells C 5 fr)
theorem RowT.below {w w' : World} {v : Value} {xs : List Nat} (h : RowT w v xs) (hb : Below w.heap.size w w') : RowT w' v xs :=
  ⟨h.row.below hb, fun hp => by obtain ⟨b, o, n, c, C, fr, h1, h2⟩ := h.blk hp; exact ⟨b, o, n, c, C, fr, h1, (hb.block b (lt_heap h2)).trans h2⟩⟩
/-- Wherever v reads as xs, v' reads as ys. -/
def Carry (v : Value) (xs : List Nat) (v' : Value) (ys : List Nat) : Prop := ∀ w, RowT w v xs → RowT w v' ys
theorem Carry.trans {a b c : Value} {xs ys zs : List Nat} (h : Carry a xs b ys) (k : Carry b ys c zs) : Carry a xs c zs := fun w hw => k w (h w hw)
theorem carry_sub {b o c k : Nat} {xs : List Nat} (hc : xs.length ≤ c) (hk : k ≤ xs.length) : Carry (.slice (some ⟨b, o, none⟩) xs.length c) xs (.slice (if c = k then some ⟨b, o, none⟩ else some ⟨b, o + k, none⟩) (xs.length - k) (c - k)) (xs.drop k) := by
  intro w h
  obtain ⟨p, c', e, hb, h1, h2, _⟩ := h.row.lies
  simp only [Value.slice.injEq, true_and] at e
  obtain ⟨rfl, rfl⟩ := e
  have hbp := bin_part hb c k hc (xs.length - k)
  rw [List.take_of_length_le (by simp)] at hbp
  refine ⟨⟨_, c - k, by rw [List.length_drop], hbp, by rw [List.length_drop]; omega, by omega, fun h => by split at h <;> simp at h⟩, fun hp => ?_⟩
  obtain ⟨b', o', n, c'', C, fr, e, h5⟩ := h.blk (by simp at hp; omega)
  simp only [Value.slice.injEq, Option.some.injEq, Addr.mk.injEq, and_true] at e
  obtain ⟨⟨rfl, rfl⟩, _, _⟩ := e
  split
  · exact ⟨b, o, _, _, C, fr, rfl, h5⟩
  · exact ⟨b, o + k, _, _, C, fr, rfl, h5⟩
theorem own_rowT {w : World} {base : Nat} {v : Value} {xs : List Nat} (h : w.ownsRow base 5 1 v xs.length (Bs xs)) (hx : ∀ c ∈ xs, c < 256) : RowT w v xs := by
  obtain ⟨q, m, rfl, h1, h2, h3⟩ := own_form h
  refine ⟨⟨q, m, rfl, own_in h hx, h1, h2, h3⟩, fun hp => ?_⟩
  rcases h.2 with ⟨_, h0⟩ | ⟨g, cap, cur, hv, _, hg, _⟩
  · omega
  · exact ⟨g, 0, _, cap, cur, (0, 0), hv, hg⟩
theorem cutNum_cases (B : Nat) (xs : List Nat) : (readN xs = none ∧ cutNum B xs = none) ∨ (∃ n k, readN xs = some (n, k) ∧ B < n ∧ cutNum B xs = none) ∨ ∃ n k, readN xs = some (n, k) ∧ n ≤ B ∧ cutNum B xs = some (n, xs.drop k) := by
  cases h : readN xs with
  | none => exact .inl ⟨rfl, by unfold cutNum; rw [h]⟩
  | some nk =>
    obtain ⟨n, k⟩ := nk
    rcases Nat.lt_or_ge B n with h1 | h1
    · exact .inr (.inl ⟨n, k, rfl, h1, by unfold cutNum; rw [h]; simp [h1]⟩)
    · exact .inr (.inr ⟨n, k, rfl, h1, by unfold cutNum; rw [h]; simp; omega⟩)
set_option maxHeartbeats 1000000 in
theorem cutNumber_none (v : Value) (xs : List Nat) (w : World) (hv : RowT w v xs) (h : cutNum 524288 xs = none) :
    Calls Tryz.prog 149 #[v] w fun e w' => ∃ ev, e = .returned (.tuple #[.int .i64 0, .slice none 0 0, ev]) ∧ Faults ev 8 ∧ Below w.heap.size w w' := by
  obtain ⟨p, c, rfl, hb, hlc, hcm, _⟩ := hv.row.lies
  rcases cutNum_cases 524288 xs with ⟨h1, _⟩ | ⟨n, k, h1, h2, _⟩ | ⟨n, k, _, _, h3⟩
  · have hrd := read_none p xs.length c xs w rfl hb (by omega) h1
    clear h h1
    go_enter Tryz.func149, Tryz.ntmps149
    go_wp2_with fail
    refine hrd.mono ?_
    rintro e w1 ⟨rfl, rfl⟩
    go_wp2
    go_ret3
    exact ⟨_, rfl, Faults.one _ _, Below.refl _ _⟩
  · have hrd := read_some p xs.length c xs w n k rfl hb (by omega) h1
    clear h h1
    go_enter Tryz.func149, Tryz.ntmps149
    go_wp2_with fail
    refine hrd.mono ?_
    rintro e w1 ⟨rfl, rfl⟩
    go_wp2
    go_ret3
    exact ⟨_, rfl, Faults.one _ _, Below.refl _ _⟩
  · rw [h3] at h; cases h
set_option maxHeartbeats 1000000 in
theorem cutNumber_some (v : Value) (xs r : List Nat) (n : Nat) (w : World) (hv : RowT w v xs) (h : cutNum 524288 xs = some (n, r)) :
    Calls Tryz.prog 149 #[v] w fun e w' => ∃ v', e = .returned (.tuple #[.int .i64 n, v', .nilIface]) ∧ Carry v xs v' r ∧ Below w.heap.size w w' := by
  obtain ⟨p, c, rfl, hb, hlc, hcm, hpn⟩ := hv.row.lies
  rcases cutNum_cases 524288 xs with ⟨_, h1⟩ | ⟨_, _, _, _, h1⟩ | ⟨n', k, h1, h2, h3⟩
  · rw [h1] at h; cases h
  · rw [h1] at h; cases h
  · rw [h3] at h
    simp only [Option.some.injEq, Prod.mk.injEq] at h
    obtain ⟨rfl, rfl⟩ := h
    obtain ⟨k1, k2, k3, k4⟩ := readN_some h1
    obtain ⟨b, o, rfl, _⟩ := hb.1 (by omega)
    have hrd := read_some _ xs.length c xs w n' k rfl hb (by omega) h1
    unfold maxLen at hcm
    have hw : IntKind.i64.wrap (n' : Int) = (n' : Int) := by rw [IntKind.wrap_i64]; omega
    clear h1 h3 hb
    go_enter Tryz.func149, Tryz.ntmps149
    go_wp2_with fail
    refine hrd.mono ?_
    rintro e w1 ⟨rfl, rfl⟩
    go_wp2
    go_quiet (fail)
    have hcy : Carry _ _ _ _ := carry_sub (b := b) (o := o) hlc (by omega : k ≤ xs.length)
    have HC : Hid _ := hcy
    clear hcy
    generalize (if c = k then some (⟨b, o, none⟩ : Addr) else some ⟨b, o + k, none⟩) = q' at *
    go_wp2
    go_ret3
    exact ⟨_, rfl, HC.out, below_drewN (Below.refl _ _) _⟩

theorem cutPiece_cases (xs : List Nat) : (cutNum 524288 xs = none ∧ cutPiece 524288 524288 xs = none) ∨ (∃ n r, cutNum 524288 xs = some (n, r) ∧ cutNum 524288 r = none ∧ cutPiece 524288 524288 xs = none) ∨ ∃ n r m s, cutNum 524288 xs = some (n, r) ∧ cutNum 524288 r = some (m, s) ∧ cutPiece 524288 524288 xs = some (((n : Int), (m : Int)), s) := by
  cases h : cutNum 524288 xs with
  | none => exact .inl ⟨rfl, by unfold cutPiece; rw [h]⟩
  | some nr =>
    obtain ⟨n, r⟩ := nr
    cases h2 : cutNum 524288 r with
    | none => exact .inr (.inl ⟨n, r, rfl, h2, by unfold cutPiece; rw [h]; simp [h2]⟩)
    | some ms =>
      obtain ⟨m, s⟩ := ms
      exact .inr (.inr ⟨n, r, m, s, rfl, h2, by unfold cutPiece; rw [h]; simp [h2]⟩)
/-- What cutPiece answers. -/
def PiecePost (w : World) (v : Value) (xs : List Nat) (o : Option ((Int × Int) × List Nat)) (e : Ending) (w' : World) : Prop := match o with
  | none => ∃ ev, e = .returned (.tuple #[.agg #[.int .i64 0, .int .i64 0], .slice none 0 0, ev]) ∧ Faults ev 8 ∧ Below w.heap.size w w'
  | some (p, r) => ∃ v', e = .returned (.tuple #[.agg #[.int .i64 p.1, .int .i64 p.2], v', .nilIface]) ∧ Carry v xs v' r ∧ Below w.heap.size w w'
theorem results_cell_tmp2 {fn : Func} {p u x : Tmp} {ty : TypeId} (h : fn.results = #[.cell p ty, .tmp u, .tmp x]) (tmps : Array Value) (P : Program) (w : World) :
    (results fn tmps).run P w = ((asAddr (tmps.getD p undef)).run P w).andThen fun a w₁ => ((loadVar ty a).run P w₁).andThen fun v w₂ => .ok (.tuple #[v, tmps.getD u undef, tmps.getD x undef]) w₂ := by
  simp only [results, h]
  simp [Sem.run_bind, Result.andThen]
theorem box2f {w wr : World} {a b : Value} {t : TypeId} (h : Below (w.heap.size + 1) (w.alloc (.cells #[a, b] t)) wr) :
    wr.frozen? ⟨w.heap.size, 0, none⟩ = false ∧ wr.frozen? ⟨w.heap.size, 1, none⟩ = false := by
  constructor <;> (rw [h.frozen (by simp)]; simp)
theorem set2_below {base B : Nat} {w0 w : World} (h : Below base w0 w) (hB : base ≤ B) (a b : Value) : Below base w0 ((w.setCell ⟨B, 0, none⟩ a).setCell ⟨B, 1, none⟩ b) :=
  (h.setCell (p := ⟨B, 0, none⟩) hB a).setCell (p := ⟨B, 1, none⟩) hB b
set_option maxHeartbeats 1000000 in
theorem cutPiece_any (v : Value) (xs : List Nat) (w : World) (hv : RowT w v xs) (r : Option ((Int × Int) × List Nat)) (hr : cutPiece 524288 524288 xs = r) :
    Calls Tryz.prog 152 #[v] w fun e w' => PiecePost w v xs r e w' := by
  have hv1 := hv.below (below_alloc w (.cells #[.int .i64 0, .int .i64 0] 53))
  rcases cutPiece_cases xs with ⟨h1, h2⟩ | ⟨n, r1, h1, h2, h3⟩ | ⟨n, r1, m, r2, h1, h2, h3⟩
  · rw [h2] at hr
    subst hr
    have hc := cutNumber_none v xs _ hv1 h1
    go_enter Tryz.func152, Tryz.ntmps152
    go_wp2_with fail
    refine hc.mono ?_
    rintro e w1 ⟨ev, rfl, hfl, hb⟩
    have HFL : Hid (Faults ev 8) := hfl
    obtain ⟨tx, vx, rfl⟩ := hfl.iface
    have hb' : Below (w.heap.size + 1) (w.alloc (.cells #[.int .i64 0, .int .i64 0] 53)) w1 := hb.mono (by simp)
    obtain ⟨c0, c1⟩ := box2 hb'
    obtain ⟨f0, f1⟩ := box2f hb'
    have HB : Hid (Below w.heap.size w w1) := box_below hb'
    clear hfl hb hb' hc
    go_wp2
    (try simp only [Exit.inBlock, Exit.then])
    refine bodyPost_ret (v := .tuple #[.agg #[.int .i64 0, .int .i64 0], .slice none 0 0, .iface 120 (.agg #[.string ⟨#[102, 114, 111, 109]⟩, .iface tx vx])]) ?_ rfl ?_
    · rw [results_cell_tmp2 rfl]
      go_simp
    · exact ⟨_, rfl, .more _ HFL.out, set2_below HB.out (by omega) _ _⟩
  · rw [h3] at hr
    subst hr
    have hc := cutNumber_some v xs r1 n _ hv1 h1
    go_enter Tryz.func152, Tryz.ntmps152
    go_wp2_with fail
    refine hc.mono ?_
    rintro e w1 ⟨v1, rfl, hr1, hb⟩
    have hc2 := cutNumber_none v1 r1 w1 ((hr1 _ hv1).below hb) h2
    have hs1 := hb.size
    simp at hs1
    clear hc
    go_wp2_with fail
    refine hc2.mono ?_
    rintro e w2 ⟨ev, rfl, hfl, hb2⟩
    have HFL : Hid (Faults ev 8) := hfl
    obtain ⟨tx, vx, rfl⟩ := hfl.iface
    have hb' : Below (w.heap.size + 1) (w.alloc (.cells #[.int .i64 0, .int .i64 0] 53)) w2 := (hb.mono (by simp)).trans (hb2.mono (by omega))
    obtain ⟨c0, c1⟩ := box2 hb'
    obtain ⟨f0, f1⟩ := box2f hb'
    have HB : Hid (Below w.heap.size w w2) := box_below hb'
    clear hfl hb hb2 hb' hc2 hr1
    go_wp2
    (try simp only [Exit.inBlock, Exit.then])
    refine bodyPost_ret (v := .tuple #[.agg #[.int .i64 0, .int .i64 0], .slice none 0 0, .iface 120 (.agg #[.string ⟨#[99, 111, 117, 110, 116]⟩, .iface tx vx])]) ?_ rfl ?_
    · rw [results_cell_tmp2 rfl]
      go_simp
    · exact ⟨_, rfl, .more _ HFL.out, set2_below HB.out (by omega) _ _⟩
  · rw [h3] at hr
    subst hr
    have hc := cutNumber_some v xs r1 n _ hv1 h1
    go_enter Tryz.func152, Tryz.ntmps152
    go_wp2_with fail
    refine hc.mono ?_
    rintro e w1 ⟨v1, rfl, hr1, hb⟩
    have hc2 := cutNumber_some v1 r1 r2 m w1 ((hr1 _ hv1).below hb) h2
    have hs1 := hb.size
    simp at hs1
    clear hc
    go_wp2_with fail
    refine hc2.mono ?_
    rintro e w2 ⟨v2, rfl, hr2, hb2⟩
    have hb' : Below (w.heap.size + 1) (w.alloc (.cells #[.int .i64 0, .int .i64 0] 53)) w2 := (hb.mono (by simp)).trans (hb2.mono (by omega))
    obtain ⟨c0, c1⟩ := box2 hb'
    obtain ⟨f0, f1⟩ := box2f hb'
    have HB : Hid (Below w.heap.size w w2) := box_below hb'
    have HR : Hid (Carry v xs v2 r2) := hr1.trans hr2
    clear hr2 hb hb2 hb' hc2 hr1
    go_wp2
    (try simp only [Exit.inBlock, Exit.then])
    refine bodyPost_ret (v := .tuple #[.agg #[.int .i64 n, .int .i64 m], v2, .nilIface]) ?_ rfl ?_
    · rw [results_cell_tmp2 rfl]
      go_simp
    · exact ⟨_, rfl, HR.out, set2_below HB.out (by omega) _ _⟩
end Go.Proofs.YtglcpfnpbcnejaaGreatDoor
namespace Go.Proofs.YtglcpfnpbcnejaaGreatDoor
open Go.RowKit Go.WideShapes Rm

/-- So many things read, some being there already. -/
def manyGo {α : Type} (f : List Nat → Option (α × List Nat)) (n : Nat) (done : List α) (b : List Nat) : Option (List α × List Nat) := match cutMany f n b with
  | none => none
  | some (l, r) => some (done ++ l, r)
theorem manyGo_start {α : Type} (f : List Nat → Option (α × List Nat)) (n : Nat) (b : List Nat) : cutMany f n b = manyGo f n [] b := by
  unfold manyGo
  split <;> simp_all
theorem manyGo_none {α : Type} {f : List Nat → Option (α × List Nat)} {n : Nat} {done : List α} {b : List Nat} (h : f b = none) : manyGo f (n + 1) done b = none := by
  simp [manyGo, cutMany, h]
theorem manyGo_some {α : Type} {f : List Nat → Option (α × List Nat)} {n : Nat} {done : List α} {b r : List Nat} {x : α} (h : f b = some (x, r)) : manyGo f (n + 1) done b = manyGo f n (done ++ [x]) r := by
  simp only [manyGo, cutMany, h]
  cases cutMany f n r with
  | none => rfl
  | some lr => simp
theorem manyGo_end {α : Type} (f : List Nat → Option (α × List Nat)) (done : List α) (b : List Nat) : manyGo f 0 done b = some (done, b) := by simp [manyGo, cutMany]
/-- A number, and as many things. -/
def cutL {α : Type} (f : List Nat → Option (α × List Nat)) (b : List Nat) : Option (List α × List Nat) := match cutNum 524288 b with
  | none => none
  | some (n, r) => cutMany f n r
def PcsPost (w : World) (v : Value) (xs : List Nat) (o : Option (Pcs × List Nat)) (e : Ending) (w' : World) : Prop := match o with
  | none => ∃ ev, e = .returned (.tuple #[.slice none 0 0, .slice none 0 0, ev]) ∧ Faults ev 8 ∧ Below w.heap.size w w'
  | some (l, r) => ∃ lv v', e = .returned (.tuple #[lv, v', .nilIface]) ∧ POwn w' w.heap.size lv l ∧ Carry v xs v' r ∧ Below w.heap.size w w'
theorem pcs_new (w : World) (a n : Int) : PcsIn (w.alloc (.cells #[.int .i64 a, .int .i64 n] 53)) (some ⟨w.heap.size, 0, none⟩) [(a, n)] := by
  intro _
  refine ⟨w.heap.size, 0, rfl, fun i hi => ?_⟩
  have hh := heap_alloc_new w (.cells #[.int .i64 a, .int .i64 n] 53)
  obtain rfl : i = 0 := by simpa using hi
  exact ⟨cell_of_row _ _ _ _ _ _ hh, cell_of_row _ _ _ _ _ _ hh⟩
theorem pcs_new' (w : World) (a n : Int) (g : Nat) (hg : g = w.heap.size) : PcsIn (w.alloc (.cells #[.int .i64 a, .int .i64 n] 53)) (some ⟨g, 0, none⟩) [(a, n)] := by subst hg; exact pcs_new w a n
theorem set2_pown {w : World} {base B : Nat} {v : Value} {l : Pcs} (h : POwn w base v l) (hne : v.ownBlock ≠ some B) (x y : Value) : POwn ((w.setCell ⟨B, 0, none⟩ x).setCell ⟨B, 1, none⟩ y) base v l := by
  refine World.ownsRow.kept (row := some B) h ⟨rfl, rfl, rfl, by simp [World.setCell], fun k hk hne => ?_⟩ (by cases hv : v.ownBlock with | none => exact .inl rfl | some g => exact .inr (by rw [← hv]; exact hne))
  rw [Below.heap_setCell _ _ _ _ (fun e => hne (by rw [e])), Below.heap_setCell _ _ _ _ (fun e => hne (by rw [e]))]

set_option maxRecDepth 4000 in
set_option maxHeartbeats 2000000 in
theorem cutPcs_any (v : Value) (xs : List Nat) (w : World) (hL : Laid w) (hv : RowT w v xs) (r : Option (Pcs × List Nat)) (hr : cutL (cutPiece 524288 524288) xs = r) :
    Calls Tryz.prog 151 #[v, .func (.func 152) #[] #[]] w fun e w' => PcsPost w v xs r e w' := by
  cases h1 : cutNum 524288 xs with
  | none =>
    have hr' : r = none := by rw [← hr]; unfold cutL; rw [h1]
    subst hr'
    have hc := cutNumber_none v xs w hv h1
    go_enter Tryz.func151, Tryz.ntmps151
    go_wp2_with fail
    refine hc.mono ?_
    rintro e w1 ⟨ev, rfl, hfl, hb⟩
    have HFL : Hid (Faults ev 8) := hfl
    obtain ⟨tx, vx, rfl⟩ := hfl.iface
    clear hfl hc
    go_wp2
    go_ret3
    exact ⟨_, rfl, HFL.out, hb⟩
  | some nr =>
    obtain ⟨n, xs1⟩ := nr
    have hr' : manyGo (cutPiece 524288 524288) n [] xs1 = r := by rw [← hr]; unfold cutL; rw [h1, ← manyGo_start]
    have hn : n ≤ 524288 := by
      rcases cutNum_cases 524288 xs with ⟨_, h2⟩ | ⟨_, _, _, _, h2⟩ | ⟨n', k, _, h2, h3⟩
      · rw [h2] at h1; cases h1
      · rw [h2] at h1; cases h1
      · rw [h3] at h1
        simp only [Option.some.injEq, Prod.mk.injEq] at h1
        omega
    have hc := cutNumber_some v xs xs1 n w hv h1
    have HL : Hid (Laid w) := hL
    have HV : Hid (RowT w v xs) := hv
    clear hr h1 hL hv
    go_enter Tryz.func151, Tryz.ntmps151
    go_wp2_with fail
    refine hc.mono ?_
    rintro e w1 ⟨v1, rfl, hcy, hb⟩
    have HC : Hid (Carry v xs v1 xs1) := hcy
    have HB1 : Hid (Below w.heap.size w w1) := hb
    have hs1 := hb.size
    have HR0 : Hid _ := hr'
    clear hc hcy hb hr'
    go_wp2
    go_loopw [0, 8, 9, 22] (fun bv ev m i wr => ∃ k done rest, k ≤ n ∧ i = .int .i64 (k : Nat) ∧ ev = .nilIface ∧ POwn wr w.heap.size m done ∧ done.length = k ∧ Carry v xs bv rest ∧ manyGo (cutPiece 524288 524288) (n - k) done rest = r ∧ Below w.heap.size w wr) (fun _ _ _ i _ => n - (intOf i).toNat)
    case atStart => exact ⟨0, [], xs1, by omega, rfl, rfl, pown_nil _ _, rfl, HC.out, HR0.out, HB1.out⟩
    case round =>
      obtain ⟨k, done, rest, hk, rfl, rfl, hown, hdl, hcy, hmg, hbel⟩ := hrel
      clear HR0 HB1 HC
      have hsz := hbel.size
      have HB : Hid (Below w.heap.size w wr) := hbel
      have HO : Hid _ := hown
      have HC : Hid (Carry v xs _ rest) := hcy
      have hrow := (hcy w HV.out).below hbel
      by_cases hkn : k < n
      · have hpc := cutPiece_any _ rest _ (hrow.below (below_alloc wr (.cells #[.int .i64 0, .int .i64 0] 53)))
        obtain ⟨j, hj⟩ : ∃ j, n - k = j + 1 := ⟨n - k - 1, by omega⟩
        rw [hj] at hmg
        have hlto := hown.lt
        clear hown hcy hrow hbel
        cases h2 : cutPiece 524288 524288 rest with
        | none =>
          rw [manyGo_none h2] at hmg
          subst hmg
          have hpc2 := hpc none h2
          clear hpc h2
          go_wp2_with fail
          refine hpc2.mono ?_
          rintro e w2 ⟨ev, rfl, hfl, hb2⟩
          have HFL : Hid (Faults ev 8) := hfl
          obtain ⟨tx, vx, rfl⟩ := hfl.iface
          have hs2 := hb2.size
          simp at hs2
          have hb' : Below (wr.heap.size + 1) (wr.alloc (.cells #[.int .i64 0, .int .i64 0] 53)) w2 := hb2.mono (by simp)
          obtain ⟨c0, c1⟩ := box2 hb'
          obtain ⟨f0, f1⟩ := box2f hb'
          have HB2 : Hid (Below w.heap.size w w2) := HB.out.trans ((box_below hb').mono hsz)
          have HL2 : Hid (Laid ((w2.setCell ⟨wr.heap.size, 0, none⟩ (.int .i64 0)).setCell ⟨wr.heap.size, 1, none⟩ (.int .i64 0))) := HL.out.below (set2_below HB2.out (by omega) _ _)
          clear hfl hb2 hb' hpc2
          go_wp2_with (go_at_call 148; refine (itoa_any k (by omega) _ HL2.out).mono ?_; rintro e w3 ⟨st, rfl, hb3⟩)
          go_ret3
          have h5 := set2_below HB2.out (B := wr.heap.size) (by omega) (.int .i64 0) (.int .i64 0)
          exact ⟨_, rfl, .more _ HFL.out, h5.trans (hb3.mono h5.size)⟩
        | some pr =>
          obtain ⟨⟨a, m⟩, rest'⟩ := pr
          rw [manyGo_some h2] at hmg
          have HMG : Hid (manyGo (cutPiece 524288 524288) j (done ++ [(a, m)]) rest' = r) := hmg
          have hpc2 := hpc (some ((a, m), rest')) h2
          clear hpc hmg
          go_wp2_with fail
          refine hpc2.mono ?_
          rintro e w2 ⟨v2, rfl, hcy2, hb2⟩
          have hs2 := hb2.size
          simp at hs2
          have hb' : Below (wr.heap.size + 1) (wr.alloc (.cells #[.int .i64 0, .int .i64 0] 53)) w2 := hb2.mono (by simp)
          obtain ⟨c0, c1⟩ := box2 hb'
          obtain ⟨f0, f1⟩ := box2f hb'
          have HB2 : Hid (Below w.heap.size w w2) := HB.out.trans ((box_below hb').mono hsz)
          have HC2 : Hid (Carry v xs v2 rest') := HC.out.trans hcy2
          have ho2 := POwn.below HO.out (box_below hb')
          have ho3 := set2_pown ho2 (B := wr.heap.size) (fun e => by have := (hlto _ e).2; omega) (.int .i64 a) (.int .i64 m)
          have hb3 := set2_below HB2.out (B := wr.heap.size) (by omega) (.int .i64 a) (.int .i64 m)
          have hd0 : ((w2.setCell ⟨wr.heap.size, 0, none⟩ (.int .i64 a)).setCell ⟨wr.heap.size, 1, none⟩ (.int .i64 m)).cell? ⟨wr.heap.size, 0, none⟩ = some (.int .i64 a) := by
            rw [World.cell?_setCell_other _ _ _ _ (by simp)]; exact World.cell?_setCell_same _ _ _ c0
          have hd1 : ((w2.setCell ⟨wr.heap.size, 0, none⟩ (.int .i64 a)).setCell ⟨wr.heap.size, 1, none⟩ (.int .i64 m)).cell? ⟨wr.heap.size, 1, none⟩ = some (.int .i64 m) :=
            World.cell?_setCell_same _ _ _ (u := .int .i64 0) (by rw [World.cell?_setCell_other _ _ _ _ (by simp)]; exact c1)
          clear hb2 hb' hpc2 hcy2 ho2 HC HO HB
          have HO3 : Hid _ := ho3
          have HB3 : Hid _ := hb3
          have hs3 := hb3.size
          clear ho3 hb3
          go_wp2_with (at_builtin; refine wpList_append_pcs _ rfl _ _ rfl w.heap.size _ done [(a, m)] (some ⟨w2.heap.size, 0, none⟩) _ _ rfl rfl rfl (POwn.below HO3.out (below_alloc _ _)) (pcs_new' _ a m _ (by simp [World.setCell])) (fun h => by cases h) (by simp; omega) (by simp; omega) ?_; intro v4 w4 ho4 hg4)
          have HB4 : Hid (Below w.heap.size w w4) := (HB3.out.alloc HB3.out.size _).grown hg4 (by simp; omega) (fun x hx => (POwn.lt HO3.out x hx).1)
          go_roundw
          case rel => exact ⟨k + 1, done ++ [(a, m)], rest', by omega, by go_num, rfl, ho4, by simp; omega, HC2.out, by rw [show n - (k + 1) = j from by omega]; exact HMG.out, HB4.out⟩
          case measure => simp [intOf]; omega
      · obtain rfl : k = n := by omega
        rw [Nat.sub_self, manyGo_end] at hmg
        subst hmg
        clear hown hcy hrow hbel
        go_wp2
        go_ret3
        exact ⟨_, _, rfl, HO.out, HC.out, HB.out⟩
end Go.Proofs.YtglcpfnpbcnejaaGreatDoor
