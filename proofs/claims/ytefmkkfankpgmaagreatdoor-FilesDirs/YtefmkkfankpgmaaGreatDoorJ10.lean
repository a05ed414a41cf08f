/-
  Contract of the call Write: a deferred function lays the error's number down.
-/
import Derived.Test.YtefmkkfankpgmaaGreatDoorJ07
import Derived.Laws.CopyOwn
import Derived.Defers
import Derived.Test.YtefmkkfankpgmaaGreatDoorJ09
import Derived.Recover
namespace Go.Proofs.YtefmkkfankpgmaaGreatDoor
open Go.RowKit Go.WideShapes Rm

set_option maxRecDepth 4000 in
set_option maxHeartbeats 4000000 in
theorem inside_any (v : Value) (l : List FileV) (w : World) (hf : FIn w v l) (ht : Told l) :
    Calls Tryz.prog 91 #[v] w fun e w' => ∃ r, e = .returned r ∧ w'.ownsRow w.heap.size 5 1 r (insideN l).length (Bs (insideN l)) ∧ Below w.heap.size w w' := by
  obtain ⟨q, c, rfl, hq, hlc, hcm, hqn⟩ := hf.lies
  have hmany := ht.many
  have HT : Hid (Told l) := ht
  have HQ : Hid (FilesIn w q l) := hq
  unfold maxLen at hcm
  clear hf hq hqn ht
  have hlen0 := smallN_ten l.length (by omega)
  go_enter Tryz.func91, Tryz.ntmps91
  go_wp2_with fail
  refine (small4_any l.length w (by omega)).mono ?_
  rintro e w0 ⟨v0, rfl, ho0, hb0⟩
  rw [Int.toNat_natCast] at ho0
  have S0 : St w [] w0 v0 (smallN l.length) := ⟨ho0, hb0, fun p hp => by simp at hp⟩
  clear ho0 hb0
  go_wp2
  go_loopw [3, 13] (fun m i wr => ∃ k : Nat, k ≤ l.length ∧ i = .int .i64 k ∧ St w [] wr m (smallN l.length ++ (l.take k).flatMap fileN)) (fun _ i _ => l.length - (intOf i).toNat)
  case atStart => exact ⟨0, by omega, rfl, by simpa using S0⟩
  case round =>
    obtain ⟨k, hk, rfl, hst⟩ := hrel
    clear S0
    have HS : Hid _ := hst
    by_cases hkl : k < l.length
    · obtain ⟨b, o, rfl⟩ := HQ.out.addr (by omega)
      have hat := HQ.out.at hkl
      obtain ⟨e0, e1, pv, e2, hp⟩ := hat
      have f0 := (hst.bel.cell (World.block_lt_of_cell? _ _ e0)).trans e0
      have f1 := (hst.bel.cell (World.block_lt_of_cell? _ _ e1)).trans e1
      have f2 := (hst.bel.cell (World.block_lt_of_cell? _ _ e2)).trans e2
      obtain ⟨qp, cp, rfl, hqp, hlc2, hcm2, _⟩ := hp.lies
      have hmem : l.getD k zeroF ∈ l := getD_mem' hkl
      have h32 := HT.out.name _ hmem
      have hsz := HT.out.size _ hmem
      have hpl := HT.out.pcs _ hmem
      have HPC : Hid _ := HT.out.piece _ hmem
      have HPT : Hid _ := pcs_take_len HT.out hmem
      have hfl := files_take_len HT.out k
      have HFF : Hid _ := files_flat hkl
      have HFN : Hid (fileN (l.getD k zeroF) = textN (l.getD k zeroF).name ++ smallN (l.getD k zeroF).size.toNat ++ smallN (l.getD k zeroF).pcs.length ++ (l.getD k zeroF).pcs.flatMap pieceN) := rfl
      have HP : Hid (PcsIn w qp (l.getD k zeroF).pcs) := hqp
      clear hp hqp hmem e0 e1 e2
      generalize hy : l.getD k zeroF = y at *
      obtain ⟨nm, sz, pl⟩ := y
      simp only at f0 f1 f2 h32 hsz hpl hlc2
      have hal := hst.alloc #[.string nm, .int .i64 sz, .slice qp pl.length cp] 51 (by decide)
      have HA : Hid (St w [(wr.heap.size, #[.string nm, .int .i64 sz, .slice qp pl.length cp], 51)] (wr.alloc (.cells #[.string nm, .int .i64 sz, .slice qp pl.length cp] 51)) _ (smallN l.length ++ (l.take k).flatMap fileN)) := hal
      clear hal hst HS
      have htx := textN_len nm (by omega)
      have hss := smallN_ten sz.toNat (by omega)
      have hsp := smallN_ten pl.length (by omega)
      unfold maxLen at hcm2
      go_wp2_with fail
      refine (text_any nm _ (by omega)).mono ?_
      rintro e w1a ⟨v1a, rfl, ho1, hb1⟩
      have S1a := HA.out.call hb1
      obtain ⟨q1, m1, rfl, _, _, hn1⟩ := own_form ho1
      have hi1 := own_in ho1 (textN_bytes nm)
      have HS1a : Hid _ := S1a
      have HI1 : Hid _ := hi1
      have hsz1 := S1a.size
      clear S1a hi1 ho1 hb1 HA
      go_wp2_with (at_builtin; refine wpList_append_bytes _ rfl _ _ rfl w.heap.size _ _ (textN nm) q1 _ m1 rfl rfl rfl HS1a.out.own HI1.out hn1 (by simp only [List.length_append]; omega) hsz1 ?_; intro v1b w1b ho1b hg1b; have S1b := HS1a.out.app ho1b hg1b; have c11 : w1b.cell? ⟨wr.heap.size, 1, none⟩ = some (.int .i64 sz) := S1b.cell List.mem_cons_self 1; have c12 : w1b.cell? ⟨wr.heap.size, 2, none⟩ = some (.slice qp pl.length cp) := S1b.cell List.mem_cons_self 2)
      have H1 : Hid _ := S1b
      clear S1b HS1a HI1 ho1b hg1b
      go_wp2_with fail
      refine (small4_any sz _ (by omega)).mono ?_
      rintro e w2a ⟨v2a, rfl, ho2, hb2⟩
      have S2a := H1.out.call hb2
      obtain ⟨q2, m2, rfl, _, _, hn2⟩ := own_form ho2
      have hi2 := own_in ho2 (smallN_bytes _)
      have HS2a : Hid _ := S2a
      have HI2 : Hid _ := hi2
      have hsz2 := S2a.size
      clear S2a hi2 ho2 hb2 H1
      go_wp2_with (at_builtin; refine wpList_append_bytes _ rfl _ _ rfl w.heap.size _ _ (smallN sz.toNat) q2 _ m2 rfl rfl rfl HS2a.out.own HI2.out hn2 (by simp only [List.length_append]; omega) hsz2 ?_; intro v2b w2b ho2b hg2b; have S2b := HS2a.out.app ho2b hg2b; have c22 : w2b.cell? ⟨wr.heap.size, 2, none⟩ = some (.slice qp pl.length cp) := S2b.cell List.mem_cons_self 2)
      have H2 : Hid _ := S2b
      clear S2b HS2a HI2 ho2b hg2b c11 c12
      go_wp2_with fail
      refine (small4_any pl.length _ (by omega)).mono ?_
      rintro e w3a ⟨v3a, rfl, ho3, hb3⟩
      have S3a := H2.out.call hb3
      obtain ⟨q3, m3, rfl, _, _, hn3⟩ := own_form ho3
      have hi3 := own_in ho3 (smallN_bytes _)
      have HS3a : Hid _ := S3a
      have HI3 : Hid _ := hi3
      have hsz3 := S3a.size
      clear S3a hi3 ho3 hb3 H2
      go_wp2_with (at_builtin; refine wpList_append_bytes _ rfl _ _ rfl w.heap.size _ _ (smallN pl.length) q3 _ m3 rfl rfl rfl HS3a.out.own HI3.out hn3 (by simp only [List.length_append]; omega) hsz3 ?_; intro v3b w3b ho3b hg3b; have S3b := HS3a.out.app ho3b hg3b; have c32 : w3b.cell? ⟨wr.heap.size, 2, none⟩ = some (.slice qp pl.length cp) := S3b.cell List.mem_cons_self 2)
      have H3 : Hid (St w [(wr.heap.size, #[.string nm, .int .i64 sz, .slice qp pl.length cp], 51)] w3b v3b (smallN l.length ++ (l.take k).flatMap fileN ++ textN nm ++ smallN sz.toNat ++ smallN pl.length)) := S3b
      clear S3b HS3a HI3 ho3b hg3b c22
      generalize hX : smallN l.length ++ (l.take k).flatMap fileN ++ textN nm ++ smallN sz.toNat ++ smallN pl.length = X at *
      have hXl : X.length ≤ 7000000 := by rw [← hX]; simp only [List.length_append]; omega
      go_wp2
      go_loopw [3, 36] (fun m i wn => ∃ j : Nat, j ≤ pl.length ∧ i = .int .i64 j ∧ St w [(wr.heap.size, #[.string nm, .int .i64 sz, .slice qp pl.length cp], 51)] wn m (X ++ (pl.take j).flatMap pieceN)) (fun _ i _ => pl.length - (intOf i).toNat)
      case atStart => exact ⟨0, by omega, rfl, by simpa using H3.out⟩
      case round =>
        obtain ⟨j, hj, rfl, hst⟩ := hrel
        clear H3
        have HS : Hid _ := hst
        by_cases hjl : j < pl.length
        · obtain ⟨bp, op, rfl⟩ := HP.out.addr (by omega)
          obtain ⟨e1, e2⟩ := (HP.out.below hst.bel).at hjl
          have hpt := HPT.out j
          have hpc := HPC.out _ (getD_mem' (d := (0, 0)) hjl)
          have HPF : Hid _ := pcs_flat hjl
          generalize pl.getD j (0, 0) = z at *
          obtain ⟨a, n⟩ := z
          simp only at e1 e2 hpc
          have hal := hst.alloc #[.int .i64 a, .int .i64 n] 53 (by decide)
          have HA : Hid _ := hal
          clear hal hst HS
          have hsa := smallN_ten a.toNat (by omega)
          have hsn := smallN_ten n.toNat (by omega)
          go_wp2_with fail
          refine (small4_any a _ (by omega)).mono ?_
          rintro e w4a ⟨v4a, rfl, ho4, hb4⟩
          have S4a := HA.out.call hb4
          obtain ⟨q4, m4, rfl, _, _, hn4⟩ := own_form ho4
          have hi4 := own_in ho4 (smallN_bytes _)
          have HS4a : Hid _ := S4a
          have HI4 : Hid _ := hi4
          have hsz4 := S4a.size
          clear S4a hi4 ho4 hb4 HA
          go_wp2_with (at_builtin; refine wpList_append_bytes _ rfl _ _ rfl w.heap.size _ _ (smallN a.toNat) q4 _ m4 rfl rfl rfl HS4a.out.own HI4.out hn4 (by simp only [List.length_append]; omega) hsz4 ?_; intro v4b w4b ho4b hg4b; have S4b := HS4a.out.app ho4b hg4b; have c41 : w4b.cell? ⟨wr.heap.size, 1, none⟩ = some (.int .i64 n) := S4b.cell List.mem_cons_self 1)
          have H4 : Hid _ := S4b
          clear S4b HS4a HI4 ho4b hg4b
          go_wp2_with fail
          refine (small4_any n _ (by omega)).mono ?_
          rintro e w5a ⟨v5a, rfl, ho5, hb5⟩
          have S5a := H4.out.call hb5
          obtain ⟨q5, m5, rfl, _, _, hn5⟩ := own_form ho5
          have hi5 := own_in ho5 (smallN_bytes _)
          have HS5a : Hid _ := S5a
          have HI5 : Hid _ := hi5
          have hsz5 := S5a.size
          clear S5a hi5 ho5 hb5 H4
          go_wp2_with (at_builtin; refine wpList_append_bytes _ rfl _ _ rfl w.heap.size _ _ (smallN n.toNat) q5 _ m5 rfl rfl rfl HS5a.out.own HI5.out hn5 (by simp only [List.length_append]; omega) hsz5 ?_; intro v5b w5b ho5b hg5b; have S5b := HS5a.out.app ho5b hg5b)
          have H5 : Hid _ := S5b.drop
          clear S5b HS5a HI5 ho5b hg5b c41
          go_roundw
          case rel => exact ⟨j + 1, by omega, by go_num, H5.out.eq (by rw [HPF.out]; unfold pieceN; simp only [List.append_assoc])⟩
          case measure => simp [intOf]; omega
        · obtain rfl : j = pl.length := by omega
          rw [List.take_length] at HS
          clear hst
          go_wp2
          refine ⟨⟨k + 1, by omega, by go_num, HS.out.drop.eq ?_⟩, by simp [intOf]; omega⟩
          rw [HFF.out, HFN.out, ← hX]
          simp only [List.append_assoc]
    · obtain rfl : k = l.length := by omega
      rw [List.take_length] at HS
      clear hst
      go_wp2
      go_ret
      exact ⟨_, rfl, HS.out.own, HS.out.bel⟩
end Go.Proofs.YtefmkkfankpgmaaGreatDoor
namespace Go.Proofs.YtefmkkfankpgmaaGreatDoor
open Go.RowKit Go.WideShapes Rm

theorem zeros_made4 (n : Nat) : (madeCells #[Value.int .u8 0] n).toList = Bs (List.replicate n 0) := by
  rw [toList_madeCells_one]
  simp [Bs]
theorem size5 : (Tryz.prog.info? 5).map (·.size) = some 1 := by kernel_rfl
theorem bin_row4 {w : World} {g t : Nat} {xs : List Nat} (h : w.heap[g]? = some (.cells (Bs xs).toArray t (0, 0))) (hx : ∀ c ∈ xs, c < 256) : BIn w (some ⟨g, 0, none⟩) xs := by
  refine ⟨fun _ => ⟨g, 0, rfl, fun i hi => ?_⟩, hx⟩
  rw [Nat.zero_add, cell_of_row w g i _ _ _ h]
  simp [Bs, List.getD, List.getElem?_eq_getElem hi]
theorem bin_part4 {w : World} {g o : Nat} {xs : List Nat} (h : BIn w (some ⟨g, o, none⟩) xs) (a n : Nat) (hl : a + n ≤ xs.length) : BIn w (some ⟨g, o + a, none⟩) ((xs.drop a).take n) := by
  refine ⟨fun hp => ⟨g, o + a, rfl, fun i hi => ?_⟩, fun c hc => h.2 c (List.mem_of_mem_drop (List.mem_of_mem_take hc))⟩
  have hn : i < n := by simp at hi; omega
  obtain ⟨b', o', e, hc⟩ := h.1 (by omega)
  simp only [Option.some.injEq, Addr.mk.injEq, and_true] at e
  obtain ⟨rfl, rfl⟩ := e
  rw [Nat.add_assoc, hc (a + i) (by omega)]
  simp [List.getD, hn]
theorem put_in (n : Nat) (w : World) (hn : n < 18446744073709551616) : Calls Tryz.prog 128 #[.int .u64 n] w fun e w' => ∃ g, e = .returned (.slice (some ⟨g, 0, none⟩) 8 8) ∧ BIn w' (some ⟨g, 0, none⟩) (putN n) ∧ Below w.heap.size w w' := by
  refine (put_any n w hn).mono ?_
  rintro e w' ⟨w1, rfl, rfl, hb⟩
  exact ⟨_, rfl, bin_lit _ _ _ _ _ _ rfl rfl (putN_bytes n hn), hb.alloc hb.size _⟩
theorem own_mono {w : World} {base base' n s : Nat} {e : TypeId} {v : Value} {xs : List Value} (h : w.ownsRow base e s v n xs) (hb : base' ≤ base) : w.ownsRow base' e s v n xs := by
  refine ⟨h.1, ?_⟩
  rcases h.2 with h' | ⟨g, cap, cur, h1, h2, h3⟩
  · exact .inl h'
  · exact .inr ⟨g, cap, cur, h1, Nat.le_trans hb h2, h3⟩
theorem pad_splice (xs : List Nat) : splice (Bs (List.replicate 952 0)) 0 (Bs xs) = Bs (padN xs) := by
  unfold splice padN
  rw [Bs_app, Bs_len]
  simp only [List.take_zero, List.nil_append, Nat.zero_add]
  congr 1
  unfold Bs
  rw [← List.map_drop, List.drop_replicate]
theorem pad_bytes {xs : List Nat} (h : ∀ c ∈ xs, c < 256) : ∀ c ∈ padN xs, c < 256 := by
  intro c hc
  unfold padN at hc
  rcases List.mem_append.1 hc with hc | hc
  · exact h c hc
  · have := (List.mem_replicate.1 hc).2; omega
theorem sects_snoc (gen : Nat) (xs : List Nat) (k : Nat) : sectsN gen xs (k + 1) = sectsN gen xs k ++ putN gen ++ [k] ++ (xs.drop (k * 119)).take 119 := by
  unfold sectsN
  rw [List.range_succ, List.flatMap_append]
  simp [sectN]

set_option maxRecDepth 4000 in
set_option maxHeartbeats 2000000 in
theorem parted_any (gen : Nat) (p : Option Addr) (cap : Nat) (xs : List Nat) (w : World) (hg : gen < 4611686018427387904) (hb : BIn w p xs) (hl : xs.length ≤ 952) :
    Calls Tryz.prog 90 #[.int .i64 gen, .slice p xs.length cap] w fun e w' => ∃ r, e = .returned r ∧ w'.ownsRow w.heap.size 5 1 r (sectsN gen (padN xs) 8).length (Bs (sectsN gen (padN xs) 8)) ∧ Below w.heap.size w w' := by
  obtain ⟨i0, hi, hz0, hz1, hz2⟩ := info_parts info5
  have hx := hb.2
  go_enter Tryz.func90, Tryz.ntmps90
  go_wp2_with (at_make; refine wpList_make_full _ rfl _ _ 22 rfl w.heap.size 5 i0 (.int .u8 0) 1 Tryz.underlying22 hi hz0 hz1 .i64 .i64 _ _ 952 rfl rfl rfl rfl (by rw [hz2]; decide) (by decide) (Nat.le_refl _) ?_)
  intro w1 hown hgrow
  have hrow := row_full' hown
  rw [zeros_made4] at hrow
  have hb1 : Below w.heap.size w w1 := (Below.refl _ _).grown hgrow (Nat.le_refl _) (fun k hk => by cases hk)
  have hbb := hb.below hb1
  have HR : Hid (w1.heap[w.heap.size]? = some (.cells (Bs (List.replicate 952 0)).toArray 5 (0, 0))) := hrow
  have HL : Hid ((Bs xs).length = Nat.min xs.length 952) := by show _ = _; rw [Bs_len]; exact (Nat.min_eq_left hl).symm
  have HF : Hid (0 + (Bs xs).length ≤ (Bs (List.replicate 952 0)).length) := by show _ ≤ _; rw [Bs_len, Bs_len, List.length_replicate]; omega
  have HP : Hid (0 < (Bs xs).length → some (⟨w.heap.size, 0, none⟩ : Addr) = some ⟨w.heap.size, 0, none⟩ ∧ ∃ ad, p = some ad ∧ ∀ j v, (Bs xs)[j]? = some v → w1.cell? (ad.add j) = some v) := by
    intro h
    rw [Bs_len] at h
    obtain ⟨b, o, rfl, _⟩ := hbb.1 h
    exact ⟨rfl, _, rfl, bin_cells hbb⟩
  clear hown hgrow hrow hb hbb
  go_wp2_with (refine wpList_copy_splice (o := ⟨some 11, _, _, _, _, _⟩) rfl (.tmp 9) (.tmp 10) 22 22 rfl 5 Tryz.underlying22 size5 (some ⟨w.heap.size, 0, none⟩) p 952 952 xs.length cap rfl rfl w.heap.size 0 (Bs (List.replicate 952 0)) 5 HR.out (Bs xs) HL.out HP.out HF.out (Bs_one xs) w.heap.size w hb1 (Nat.le_refl _) ?_)
  intro w2 hrow2 hb2
  have hr2 : w2.heap[w.heap.size]? = some (.cells (Bs (padN xs)).toArray 5 (0, 0)) := by rw [← pad_splice xs]; exact hrow2.out
  have hpl := pad_len hl
  have hpb := bin_row4 hr2 (pad_bytes hx)
  have hlt := lt_heap hr2
  clear hr2 hrow2 HR HL HF HP hb1
  generalize hys : padN xs = ys at *
  have HB : Hid (BIn w2 (some ⟨w.heap.size, 0, none⟩) ys) := hpb
  have HB2 : Hid (Below w.heap.size w w2) := hb2
  have hsz2 := hb2.size
  clear hpb hb2
  go_wp2
  go_loopw [6, 12] (fun m i wr => ∃ k : Nat, k ≤ 8 ∧ i = .int .i64 k ∧ St w2 [] wr m (sectsN gen ys k)) (fun _ i _ => 8 - (intOf i).toNat)
  case atStart => exact ⟨0, by omega, rfl, St.start (fun p hp => by simp at hp)⟩
  case round =>
    obtain ⟨k, hk, rfl, hst⟩ := hrel
    have HS : Hid _ := hst
    by_cases hkl : k < 8
    · have hlen : (sectsN gen ys k).length ≤ 2000 := by
        unfold sectsN
        have := flat_le (l := List.range k) (f := sectN gen ys) (c := 128) (fun i _ => by unfold sectN; simp [putN_len]; omega)
        simp at this ⊢
        omega
      have HSN : Hid _ := sects_snoc gen ys k
      have hwr : IntKind.u64.wrap (gen : Int) = (gen : Int) := by rw [IntKind.wrap_u64]; omega
      have hwk : IntKind.u8.wrap (k : Int) = (k : Int) := by rw [IntKind.wrap_u8]; omega
      clear hst
      go_wp2_with fail
      refine (put_in gen _ (by omega)).mono ?_
      rintro e w3 ⟨g3, rfl, hi3, hb3⟩
      have S3 := HS.out.call hb3
      have hs3 := S3.size
      have H3 : Hid _ := S3
      have HI3 : Hid _ := hi3
      clear S3 hi3 hb3 HS
      go_wp2_with (first
        | (at_builtin; refine wpList_append_bytes _ rfl _ _ rfl w2.heap.size _ _ (putN gen) (some ⟨g3, 0, none⟩) _ 8 rfl rfl rfl H3.out.own HI3.out (fun h => by cases h) (by simp [putN_len]; omega) hs3 ?_; intro v4 w4 ho4 hg4; have S4 := H3.out.app ho4 hg4; have hs4 := S4.size; have H4 : Hid _ := S4; clear S4 ho4 hg4 H3 HI3)
        | (at_builtin; refine wpList_append_bytes _ rfl _ _ rfl w2.heap.size _ _ [k] (some ⟨w4.heap.size, 0, none⟩) _ 1 rfl rfl rfl (H4.out.call (below_alloc w4 (.cells #[.int .u8 k] 5))).own (bin_lit w4 _ _ _ _ [k] rfl rfl (by simp; omega)) (fun h => by cases h) (by simp [putN_len]; omega) (by simp; omega) ?_; intro v5 w5 ho5 hg5; have S5 := (H4.out.call (below_alloc w4 (.cells #[.int .u8 k] 5))).app ho5 hg5; have hs5 := S5.size; have hbb := bin_part4 (HB.out.below S5.bel) (k * 119) 119 (by omega); rw [Nat.zero_add] at hbb; have HBB : Hid _ := hbb; have H5 : Hid _ := S5; clear hbb S5 ho5 hg5 H4)
        | (at_builtin; refine wpList_append_bytes _ rfl _ _ rfl w2.heap.size _ _ ((ys.drop (k * 119)).take 119) (some ⟨w.heap.size, k * 119, none⟩) _ (952 - k * 119) rfl rfl (by rw [List.length_take, List.length_drop]; omega) H5.out.own HBB.out (fun h => by cases h) (by simp only [List.length_append, List.length_take, List.length_drop, List.length_singleton, putN_len]; omega) hs5 ?_; intro v6 w6 ho6 hg6; have S6 := H5.out.app ho6 hg6; have H6 : Hid _ := S6; clear S6 ho6 hg6 H5 HBB)
        | fail)
      go_roundw
      case rel => exact ⟨k + 1, by omega, by go_num, H6.out.eq HSN.out.symm⟩
      case measure => simp [intOf]; omega
    · obtain rfl : k = 8 := by omega
      clear hst
      go_wp2
      go_ret
      exact ⟨_, rfl, by rw [hys]; exact own_mono HS.out.own hsz2, HB2.out.trans (HS.out.bel.mono hsz2)⟩
end Go.Proofs.YtefmkkfankpgmaaGreatDoor
namespace Go.Proofs.YtefmkkfankpgmaaGreatDoor
open Go.RowKit Go.WideShapes Rm

/-- What Write answers: an error's number, or the bytes. -/
inductive Wrote (x : DirV) : Int → List Nat → Prop
  | many (h : 32 < x.files.length) : Wrote x 42 []
  | bad (h1 : x.files.length ≤ 32) (h2 : ¬ May ltS x) : Wrote x 8 []
  | long (h1 : May ltS x) (h2 : 952 < (insideN x.files).length) : Wrote x 42 []
  | ok (h1 : May ltS x) (h2 : (insideN x.files).length ≤ 952) : Wrote x 0 (bytesN x)
theorem Wrote.only {x : DirV} {e f : Int} {b c : List Nat} (h1 : Wrote x e b) (h2 : Wrote x f c) : e = f ∧ b = c := by
  cases h1 with
  | many h => cases h2 with
    | many => exact ⟨rfl, rfl⟩
    | bad a _ => omega
    | long a _ => exact absurd a.many (by omega)
    | ok a _ => exact absurd a.many (by omega)
  | bad h k => cases h2 with
    | many a => omega
    | bad => exact ⟨rfl, rfl⟩
    | long a _ => exact absurd a k
    | ok a _ => exact absurd a k
  | long h k => cases h2 with
    | many a => exact absurd h.many (by omega)
    | bad _ a => exact absurd h a
    | long => exact ⟨rfl, rfl⟩
    | ok _ a => omega
  | ok h k => cases h2 with
    | many a => exact absurd h.many (by omega)
    | bad _ a => exact absurd h a
    | long _ a => omega
    | ok => exact ⟨rfl, rfl⟩
theorem insideN_bytes (l : List FileV) : ∀ c ∈ insideN l, c < 256 := by
  intro c hc
  unfold insideN at hc
  rcases List.mem_append.1 hc with h | h
  · exact smallN_bytes _ c h
  · obtain ⟨f, _, h⟩ := List.mem_flatMap.1 h
    unfold fileN at h
    simp only [List.mem_append] at h
    rcases h with ((h | h) | h) | h
    · exact textN_bytes _ c h
    · exact smallN_bytes _ c h
    · exact smallN_bytes _ c h
    · obtain ⟨p, _, h⟩ := List.mem_flatMap.1 h
      unfold pieceN at h
      rcases List.mem_append.1 h with h | h <;> exact smallN_bytes _ c h
/-- What is answered beside: nil where all is well, else an error that wraps the number. -/
def ErrV (v : Value) (e : Int) : Prop := (e = 0 ∧ v = .nilIface) ∨ (e ≠ 0 ∧ Faults v e)
set_option maxHeartbeats 1000000 in
theorem write_any (v : Value) (x : DirV) (w : World) (hx : DirIn w v x) (hs : ∀ f ∈ x.files, (f.name.size : Int) ≤ 9223372036854775807) (hsum : (allPcs x.files).length ≤ 1000000) :
    Calls Tryz.prog 56 #[v] w fun e w' => ∃ r ev n b, e = .returned (.tuple #[r, ev]) ∧ Wrote x n b ∧ ErrV ev n ∧ w'.ownsRow w.heap.size 5 1 r b.length (Bs b) ∧ Below w.heap.size w w' := by
  obtain ⟨fv, rfl, hf⟩ := hx.lies
  have HX : Hid (DirIn w (.agg #[.int .i64 x.gen, fv]) x) := hx
  have HF : Hid (FIn w fv x.files) := hf
  have hgw := hx.wf
  unfold wf64 at hgw
  obtain ⟨q, c, rfl, hq, hlc, hcm, _⟩ := hf.lies
  unfold maxLen at hcm
  clear hq hx hf
  have hck := check4_any _ x (w.alloc (.cells #[.int .i64 x.gen, .slice q x.files.length c] 31)) (HX.out.below (below_alloc w _)) hs hsum
  by_cases h1 : x.files.length ≤ 32
  · go_enter Tryz.func56, Tryz.ntmps56
    go_wp2_with fail
    refine hck.mono ?_
    rintro e w1 ⟨r, rfl, hr, hb1⟩
    have hs1 := hb1.size
    simp at hs1
    have hb1' : Below (w.heap.size + 1) (w.alloc (.cells #[.int .i64 x.gen, .slice q x.files.length c] 31)) w1 := hb1.mono (by simp)
    obtain ⟨d0, d1⟩ := box2 hb1'
    have HB1 : Hid (Below w.heap.size w w1) := box_below hb1'
    clear hck hb1 hb1'
    rcases hr with ⟨hok, rfl⟩ | ⟨hno, hfl⟩
    · have HM : Hid (May ltS x) := hok
      have hgen := hok.lo
      have hgh := hok.hi
      have hin := inside_any _ x.files w1 (HF.out.below HB1.out) hok.told
      clear hok
      go_wp2_with fail
      refine hin.mono ?_
      rintro e w2 ⟨r2, rfl, ho2, hb2⟩
      have hs2 := hb2.size
      obtain ⟨q2, m2, rfl, _, _, _⟩ := own_form ho2
      have hi2 := own_in ho2 (insideN_bytes _)
      have d0' : w2.cell? ⟨w.heap.size, 0, none⟩ = some (.int .i64 x.gen) := (hb2.cell (by simp; omega)).trans d0
      have HI2 : Hid _ := hi2
      have HB2 : Hid (Below w.heap.size w w2) := HB1.out.trans (hb2.mono (by omega))
      clear hin hb2 ho2 hi2 d0 d1
      obtain ⟨gn, hgn⟩ := Int.eq_ofNat_of_zero_le (show 0 ≤ x.gen by omega)
      have HIL : Hid ((insideN x.files).length ≤ 952 → Wrote x 0 (bytesN x)) := fun h => .ok HM.out h
      have HIG : Hid (952 < (insideN x.files).length → Wrote x 42 []) := fun h => .long HM.out h
      by_cases h2 : (insideN x.files).length ≤ 952
      · have HW := HIL.out h2
        have hpa := parted_any gn q2 m2 _ w2 (by omega) HI2.out h2
        rw [hgn] at d0'
        unfold bytesN at HW
        rw [hgn, Int.toNat_natCast] at HW
        have HW' : Hid (Wrote x 0 (sectsN gn (padN (insideN x.files)) 8)) := HW
        clear HW HIL HIG
        generalize (insideN x.files).length = L at *
        go_wp2_with fail
        refine hpa.mono ?_
        rintro e w3 ⟨r3, rfl, ho3, hb3⟩
        have hs3 := hb3.size
        go_wp2
        go_ret2
        exact ⟨_, _, 0, _, rfl, HW'.out, .inl ⟨rfl, rfl⟩, own_mono ho3 (by omega), HB2.out.trans (hb3.mono (by omega))⟩
      · have HW := HIG.out (by omega)
        have HW' : Hid (Wrote x 42 []) := HW
        clear HW HIL HIG
        generalize (insideN x.files).length = L at *
        go_wp2
        go_ret2
        exact ⟨_, _, 42, [], rfl, HW'.out, .inr ⟨by decide, Faults.one _ _⟩, World.ownsRow_nil _ _ _ _, HB2.out⟩
    · have HW : Hid (Wrote x 8 []) := .bad h1 hno
      have HFL : Hid (Faults r 8) := hfl
      obtain ⟨tx, vx, rfl⟩ := hfl.iface
      clear hfl hno
      go_wp2
      go_ret2
      exact ⟨_, _, 8, [], rfl, HW.out, .inr ⟨by decide, HFL.out⟩, World.ownsRow_nil _ _ _ _, HB1.out⟩
  · go_enter Tryz.func56, Tryz.ntmps56
    go_wp2
    go_ret2
    exact ⟨_, _, 42, [], rfl, .many (by omega), .inr ⟨by decide, Faults.one _ _⟩, World.ownsRow_nil _ _ _ _, below_alloc _ _⟩
end Go.Proofs.YtefmkkfankpgmaaGreatDoor
namespace Go.Proofs.YtefmkkfankpgmaaGreatDoor
open Go.RowKit Go.WideShapes Rm

theorem pad_snoc (xs : List Nat) (j : Nat) : xs ++ List.replicate j 0 ++ [0] = xs ++ List.replicate (j + 1) 0 := by
  rw [List.append_assoc, List.replicate_succ']
def WrotePost (x : DirV) (w : World) (e : Ending) (w' : World) : Prop := ∃ r n b, e = .returned (.tuple #[r, .int .i64 n]) ∧ Wrote x n b ∧ w'.ownsRow w.heap.size 5 1 r b.length (Bs b) ∧ Below w.heap.size w w'
def lenOf : Value → Nat
  | .slice _ n _ => n
  | _ => 0
theorem own_some {w : World} {base n : Nat} {v : Value} {xs : List Value} (h : w.ownsRow base 5 1 v n xs) (hn : 0 < n) : ∃ g m, v = .slice (some ⟨g, 0, none⟩) n m ∧ n ≤ m ∧ m ≤ maxLen ∧ g < w.heap.size := by
  rcases h.2 with ⟨_, h0⟩ | ⟨g, cap, cur, hv, _, hg, h1, h2, _⟩
  · omega
  · exact ⟨g, cap, hv, h1, h2, lt_heap hg⟩
set_option maxRecDepth 20000 in
set_option maxHeartbeats 4000000 in
theorem rWrite_any (v : Value) (x : DirV) (w : World) (hx : DirIn w v x) (hs : ∀ f ∈ x.files, (f.name.size : Int) ≤ 9223372036854775807) (hsum : (allPcs x.files).length ≤ 1000000) :
    Calls Tryz.prog 20 #[v] w fun e w' => WrotePost x w e w' := by
  obtain ⟨fv, rfl, hf⟩ := hx.lies
  obtain ⟨gen, l⟩ := x
  have HX : Hid (DirIn w (.agg #[.int .i64 gen, fv]) ⟨gen, l⟩) := hx
  have hgw := hx.wf
  unfold wf64 at hgw
  obtain ⟨q, c, rfl, hq, hlc, hcm, _⟩ := hf.lies
  unfold maxLen at hcm
  simp only at hs hsum hlc hgw
  have HQ : Hid (FilesIn w q l) := hq
  clear hq hx hf
  by_cases h1 : l.length ≤ 32
  · by_cases hm : MayR ⟨gen, l⟩
    · have hM : May ltS ⟨gen, l⟩ := (mayR_iff h1).1 hm
      have hmy := rmay_any _ ⟨gen, l⟩ true (w.alloc (.cells #[.int .i64 gen, .slice q l.length c] 31)) ⟨fun _ => hm, fun _ => rfl⟩ (HX.out.below (below_alloc w _)) hs hsum
      have HT : Hid (Told l) := hM.told
      have hlo := hM.lo
      have hhi := hM.hi
      simp only at hlo hhi
      have HWL : Hid (952 < (insideN l).length → Wrote ⟨gen, l⟩ 42 []) := fun h => .long hM h
      have HWO : Hid ((insideN l).length ≤ 952 → Wrote ⟨gen, l⟩ 0 (bytesN ⟨gen, l⟩)) := fun h => .ok hM h
      have hlen0 := smallN_ten l.length (by omega)
      clear hm hM hs hsum
      go_enter Tryz.func20, Tryz.ntmps20
      go_wp2_with fail
      refine hmy.mono ?_
      rintro e w1 ⟨rfl, hb1⟩
      have hs1 := hb1.size
      simp at hs1
      have hbx1 : w1.heap[w.heap.size]? = some (.cells #[.int .i64 gen, .slice q l.length c] 31 (0, 0)) := (hb1.block _ (by simp)).trans (heap_alloc_new w _)
      have d1 : w1.cell? ⟨w.heap.size, 1, none⟩ = some (.slice q l.length c) := cell_of_row _ _ _ _ _ _ hbx1
      have HB1 : Hid (Below w.heap.size w w1) := (below_alloc w _).trans (hb1.mono (by simp))
      have HX1 : Hid _ := hbx1
      clear hmy hb1 hbx1
      go_wp2_with fail
      refine (rsmall4_any l.length w1 (by omega)).mono ?_
      rintro e w0 ⟨v0, rfl, ho0, hb0⟩
      rw [Int.toNat_natCast] at ho0
      have S0 : St w [(w.heap.size, #[.int .i64 gen, .slice q l.length c], 31)] w0 v0 (smallN l.length) := ⟨own_mono ho0 (by omega), HB1.out.trans (hb0.mono (by omega)), fun p hp => by
        rcases List.mem_singleton.1 hp with rfl
        exact ⟨(hb0.block _ (lt_heap HX1.out)).trans HX1.out, by simp⟩⟩
      clear ho0 hb0 HX1 HB1 d1
      go_wp2
      go_loopw [4, 5] (fun m i wr => ∃ k : Nat, k ≤ l.length ∧ i = .int .i64 k ∧ St w [(w.heap.size, #[.int .i64 gen, .slice q l.length c], 31)] wr m (smallN l.length ++ (l.take k).flatMap fileN)) (fun _ i _ => l.length - (intOf i).toNat)
      case atStart => exact ⟨0, by omega, rfl, by simpa using S0⟩
      case round =>
        obtain ⟨k, hk, rfl, hst⟩ := hrel
        clear S0
        have d1 : wr.cell? ⟨w.heap.size, 1, none⟩ = some (.slice q l.length c) := hst.cell List.mem_cons_self 1
        by_cases hkl : k < l.length
        · obtain ⟨b, o, rfl⟩ := HQ.out.addr (by omega)
          have hat := HQ.out.at hkl
          obtain ⟨e0, e1, pv, e2, hp⟩ := hat
          have f0 := (hst.bel.cell (World.block_lt_of_cell? _ _ e0)).trans e0
          have f1 := (hst.bel.cell (World.block_lt_of_cell? _ _ e1)).trans e1
          have f2 := (hst.bel.cell (World.block_lt_of_cell? _ _ e2)).trans e2
          obtain ⟨qp, cp, rfl, hqp, hlc2, hcm2, _⟩ := hp.lies
          have hmem : l.getD k zeroF ∈ l := getD_mem' hkl
          have h32 := HT.out.name _ hmem
          have hsz := HT.out.size _ hmem
          have hpl := HT.out.pcs _ hmem
          have HPC : Hid _ := HT.out.piece _ hmem
          have HPT : Hid _ := pcs_take_len HT.out hmem
          have hfl := files_take_len HT.out k
          have HFF : Hid _ := files_flat hkl
          have HFN : Hid (fileN (l.getD k zeroF) = textN (l.getD k zeroF).name ++ smallN (l.getD k zeroF).size.toNat ++ smallN (l.getD k zeroF).pcs.length ++ (l.getD k zeroF).pcs.flatMap pieceN) := rfl
          have HP : Hid (PcsIn w qp (l.getD k zeroF).pcs) := hqp
          clear hp hqp hmem e0 e1 e2
          generalize hy : l.getD k zeroF = y at *
          obtain ⟨nm, sz, pl⟩ := y
          simp only at f0 f1 f2 h32 hsz hpl hlc2
          have hal := hst.alloc #[.string nm, .int .i64 sz, .slice qp pl.length cp] 51 (by decide)
          have HA : Hid (St w [(wr.heap.size, #[.string nm, .int .i64 sz, .slice qp pl.length cp], 51), (w.heap.size, #[.int .i64 gen, .slice (some ⟨b, o, none⟩) l.length c], 31)] (wr.alloc (.cells #[.string nm, .int .i64 sz, .slice qp pl.length cp] 51)) _ (smallN l.length ++ (l.take k).flatMap fileN)) := hal
          clear hal hst
          have htx := textN_len nm (by omega)
          have hss := smallN_ten sz.toNat (by omega)
          have hsp := smallN_ten pl.length (by omega)
          unfold maxLen at hcm2
          go_wp2_with fail
          refine (refText_any nm _ (by omega)).mono ?_
          rintro e w1a ⟨v1a, rfl, ho1, hb1⟩
          have S1a := HA.out.call hb1
          obtain ⟨q1, m1, rfl, _, _, hn1⟩ := own_form ho1
          have hi1 := own_in ho1 (textN_bytes nm)
          have HS1a : Hid _ := S1a
          have HI1 : Hid _ := hi1
          have hsz1 := S1a.size
          clear S1a hi1 ho1 hb1 HA
          go_wp2_with (at_builtin; refine wpList_append_bytes _ rfl _ _ rfl w.heap.size _ _ (textN nm) q1 _ m1 rfl rfl rfl HS1a.out.own HI1.out hn1 (by simp only [List.length_append]; omega) hsz1 ?_; intro v1b w1b ho1b hg1b; have S1b := HS1a.out.app ho1b hg1b; have c11 : w1b.cell? ⟨wr.heap.size, 1, none⟩ = some (.int .i64 sz) := S1b.cell List.mem_cons_self 1; have c12 : w1b.cell? ⟨wr.heap.size, 2, none⟩ = some (.slice qp pl.length cp) := S1b.cell List.mem_cons_self 2)
          have H1 : Hid _ := S1b
          clear S1b HS1a HI1 ho1b hg1b
          go_wp2_with fail
          refine (rsmall4_any sz _ (by omega)).mono ?_
          rintro e w2a ⟨v2a, rfl, ho2, hb2⟩
          have S2a := H1.out.call hb2
          obtain ⟨q2, m2, rfl, _, _, hn2⟩ := own_form ho2
          have hi2 := own_in ho2 (smallN_bytes _)
          have HS2a : Hid _ := S2a
          have HI2 : Hid _ := hi2
          have hsz2 := S2a.size
          clear S2a hi2 ho2 hb2 H1
          go_wp2_with (at_builtin; refine wpList_append_bytes _ rfl _ _ rfl w.heap.size _ _ (smallN sz.toNat) q2 _ m2 rfl rfl rfl HS2a.out.own HI2.out hn2 (by simp only [List.length_append]; omega) hsz2 ?_; intro v2b w2b ho2b hg2b; have S2b := HS2a.out.app ho2b hg2b; have c22 : w2b.cell? ⟨wr.heap.size, 2, none⟩ = some (.slice qp pl.length cp) := S2b.cell List.mem_cons_self 2)
          have H2 : Hid _ := S2b
          clear S2b HS2a HI2 ho2b hg2b c11 c12
          go_wp2_with fail
          refine (rsmall4_any pl.length _ (by omega)).mono ?_
          rintro e w3a ⟨v3a, rfl, ho3, hb3⟩
          have S3a := H2.out.call hb3
          obtain ⟨q3, m3, rfl, _, _, hn3⟩ := own_form ho3
          have hi3 := own_in ho3 (smallN_bytes _)
          have HS3a : Hid _ := S3a
          have HI3 : Hid _ := hi3
          have hsz3 := S3a.size
          clear S3a hi3 ho3 hb3 H2
          go_wp2_with (at_builtin; refine wpList_append_bytes _ rfl _ _ rfl w.heap.size _ _ (smallN pl.length) q3 _ m3 rfl rfl rfl HS3a.out.own HI3.out hn3 (by simp only [List.length_append]; omega) hsz3 ?_; intro v3b w3b ho3b hg3b; have S3b := HS3a.out.app ho3b hg3b; have c32 : w3b.cell? ⟨wr.heap.size, 2, none⟩ = some (.slice qp pl.length cp) := S3b.cell List.mem_cons_self 2)
          have H3 : Hid (St w [(wr.heap.size, #[.string nm, .int .i64 sz, .slice qp pl.length cp], 51), (w.heap.size, #[.int .i64 gen, .slice (some ⟨b, o, none⟩) l.length c], 31)] w3b v3b (smallN l.length ++ (l.take k).flatMap fileN ++ textN nm ++ smallN sz.toNat ++ smallN pl.length)) := S3b
          clear S3b HS3a HI3 ho3b hg3b c22
          generalize hX : smallN l.length ++ (l.take k).flatMap fileN ++ textN nm ++ smallN sz.toNat ++ smallN pl.length = X at *
          have hXl : X.length ≤ 7000000 := by rw [← hX]; simp only [List.length_append]; omega
          go_wp2
          go_loopw [4, 7] (fun m i wn => ∃ j : Nat, j ≤ pl.length ∧ i = .int .i64 j ∧ St w [(wr.heap.size, #[.string nm, .int .i64 sz, .slice qp pl.length cp], 51), (w.heap.size, #[.int .i64 gen, .slice (some ⟨b, o, none⟩) l.length c], 31)] wn m (X ++ (pl.take j).flatMap pieceN)) (fun _ i _ => pl.length - (intOf i).toNat)
          case atStart => exact ⟨0, by omega, rfl, by simpa using H3.out⟩
          case round =>
            obtain ⟨j, hj, rfl, hst⟩ := hrel
            clear H3
            have c2 : wr.cell? ⟨_, 2, none⟩ = some (.slice qp pl.length cp) := hst.cell List.mem_cons_self 2
            by_cases hjl : j < pl.length
            · obtain ⟨bp, op, rfl⟩ := HP.out.addr (by omega)
              obtain ⟨a, n, hz⟩ : ∃ a n, pl.getD j (0, 0) = (a, n) := ⟨_, _, rfl⟩
              obtain ⟨e1, e2⟩ := (HP.out.below hst.bel).at hjl
              have hpt := HPT.out j
              have hpc := HPC.out _ (getD_mem' (d := (0, 0)) hjl)
              have HPF : Hid _ := pcs_flat hjl
              rw [hz] at e1 e2 hpc HPF
              simp only at e1 e2 hpc
              have HA : Hid _ := hst
              have hsa := smallN_ten a.toNat (by omega)
              have hsn := smallN_ten n.toNat (by omega)
              clear hst
              go_wp2_with fail
              refine (rsmall4_any a _ (by omega)).mono ?_
              rintro e w4a ⟨v4a, rfl, ho4, hb4⟩
              have S4a := HA.out.call hb4
              obtain ⟨q4, m4, rfl, _, _, hn4⟩ := own_form ho4
              have hi4 := own_in ho4 (smallN_bytes _)
              have HS4a : Hid _ := S4a
              have HI4 : Hid _ := hi4
              have hsz4 := S4a.size
              clear S4a hi4 ho4 hb4 HA
              go_wp2_with (at_builtin; refine wpList_append_bytes _ rfl _ _ rfl w.heap.size _ _ (smallN a.toNat) q4 _ m4 rfl rfl rfl HS4a.out.own HI4.out hn4 (by simp only [List.length_append]; omega) hsz4 ?_; intro v4b w4b ho4b hg4b; have S4b := HS4a.out.app ho4b hg4b; have c42 : w4b.cell? ⟨_, 2, none⟩ = some (.slice (some ⟨bp, op, none⟩) pl.length cp) := S4b.cell List.mem_cons_self 2; have e2b := ((HP.out.below S4b.bel).at hjl).2; rw [hz] at e2b; simp only at e2b)
              have H4 : Hid _ := S4b
              clear S4b HS4a HI4 ho4b hg4b
              go_wp2_with fail
              refine (rsmall4_any n _ (by omega)).mono ?_
              rintro e w5a ⟨v5a, rfl, ho5, hb5⟩
              have S5a := H4.out.call hb5
              obtain ⟨q5, m5, rfl, _, _, hn5⟩ := own_form ho5
              have hi5 := own_in ho5 (smallN_bytes _)
              have HS5a : Hid _ := S5a
              have HI5 : Hid _ := hi5
              have hsz5 := S5a.size
              clear S5a hi5 ho5 hb5 H4
              go_wp2_with (at_builtin; refine wpList_append_bytes _ rfl _ _ rfl w.heap.size _ _ (smallN n.toNat) q5 _ m5 rfl rfl rfl HS5a.out.own HI5.out hn5 (by simp only [List.length_append]; omega) hsz5 ?_; intro v5b w5b ho5b hg5b; have S5b := HS5a.out.app ho5b hg5b)
              have H5 : Hid _ := S5b
              clear S5b HS5a HI5 ho5b hg5b c42 e2b
              go_roundw
              case rel => exact ⟨j + 1, by omega, by go_num, H5.out.eq (by rw [HPF.out]; unfold pieceN; simp only [List.append_assoc])⟩
              case measure => simp [intOf]; omega
            · obtain rfl : j = pl.length := by omega
              rw [List.take_length] at hst
              have HS : Hid _ := hst
              clear hst
              go_wp2
              refine ⟨⟨k + 1, by omega, by go_num, HS.out.drop.eq ?_⟩, by simp [intOf]; omega⟩
              rw [HFF.out, HFN.out, ← hX]
              simp only [List.append_assoc]
        · obtain rfl : k = l.length := by omega
          rw [List.take_length] at hst
          have hst' : St w [(w.heap.size, #[.int .i64 gen, .slice q l.length c], 31)] wr _ (insideN l) := hst
          clear hst
          obtain ⟨q2, m2, rfl, _⟩ := own_form hst'.own
          by_cases h2 : (insideN l).length ≤ 952
          · have HW := HWO.out h2
            unfold bytesN at HW
            simp only at HW
            obtain ⟨gn, rfl⟩ := Int.eq_ofNat_of_zero_le (show 0 ≤ gen by omega)
            rw [Int.toNat_natCast] at HW
            have HW' : Hid _ := HW
            have HGL : Hid (gn < 4611686018427387904) := by show _ < _; omega
            clear hlo hhi hgw
            have HIB : Hid _ := insideN_bytes l
            clear HW HWL HWO
            generalize hX : insideN l = X at *
            have S0 := hst'
            have H2 : Hid (X.length ≤ 952) := h2
            have h2i : (X.length : Int) ≤ 952 := by omega
            have HS0 : Hid _ := S0
            clear hst' h2 S0
            generalize hLL : X.length = L at *
            go_wp2
            go_loopw [4] (fun m wr => ∃ j : Nat, X.length + j ≤ 952 ∧ St w [(w.heap.size, #[.int .i64 (gn : Int), .slice q l.length c], 31)] wr m (X ++ List.replicate j 0)) (fun m _ => 952 - lenOf m)
            case atStart => exact ⟨0, by rw [hLL]; exact H2.out, by simpa using HS0.out⟩
            case round =>
              clear HS0
              obtain ⟨j, hj, hst⟩ := hrel
              have hlen : (X ++ List.replicate j 0).length = X.length + j := by simp
              by_cases hjl : X.length + j < 952
              · obtain ⟨q3, m3, hv3, _⟩ := own_form hst.own
                rw [hlen] at hv3
                subst hv3
                have HS : Hid _ := hst
                have hs3 := hst.size
                have HJ : Hid (X.length + j < 952) := hjl
                have hji : (X.length : Int) + (j : Int) < 952 := by omega
                clear hst hj hjl
                go_wp2_with (at_builtin; refine wpList_append_bytes _ rfl _ _ rfl w.heap.size _ _ [0] (some ⟨wr.heap.size, 0, none⟩) _ 1 rfl rfl rfl (St.own (St.call HS.out (below_alloc wr (.cells #[.int .u8 0] 5)))) (bin_lit wr _ _ _ _ [0] rfl rfl (by simp)) (fun h => by cases h) (by have := HJ.out; rw [hlen]; simp; omega) (by simp; omega) ?_; intro v5 w5 ho5 hg5; have S5 := (St.call HS.out (below_alloc wr (.cells #[.int .u8 0] 5))).app ho5 hg5)
                obtain ⟨q5, m5, hv5, _⟩ := own_form S5.own
                go_roundw
                case rel => exact ⟨j + 1, by have := HJ.out; omega, S5.eq (pad_snoc X j)⟩
                case measure => have := HJ.out; rw [hv5]; simp [lenOf]; omega
              · have hpad : X ++ List.replicate j 0 = padN X := by unfold padN; rw [show 952 - X.length = j from by omega]
                rw [hpad] at hst
                have hpl : (padN X).length = 952 := pad_len (by omega)
                have hpb := pad_bytes HIB.out
                clear hpad hlen
                generalize padN X = ys at *
                obtain ⟨g5, m5, rfl, hm5, hmx, hg5⟩ := own_some hst.own (by omega)
                have HB5 : Hid (BIn wr (some ⟨g5, 0, none⟩) ys) := own_in hst.own hpb
                have HBW : Hid (Below w.heap.size w wr) := hst.bel
                have hsz5 := hst.size
                have HBX : Hid (wr.heap[w.heap.size]? = some (.cells #[.int .i64 (gn : Int), .slice q l.length c] 31 (0, 0))) := (hst.box _ List.mem_cons_self).1
                have hlt5 := lt_heap HBX.out
                unfold maxLen at hmx
                clear hst
                rw [hpl]
                have hm5i : (952 : Int) ≤ m5 := by omega
                have HM5 : Hid (ys.length ≤ m5) := hm5
                clear hj hjl h2i
                generalize hww : wr = w5 at *
                clear hww
                go_wp2
                go_loopw [8, 9] (fun m i wn => ∃ k : Nat, k ≤ 8 ∧ i = .int .i64 k ∧ St w5 [] wn m (sectsN gn ys k)) (fun _ i _ => 8 - (intOf i).toNat)
                case atStart => exact ⟨0, by omega, rfl, St.start (fun p hp => by simp at hp)⟩
                case round =>
                  obtain ⟨k, hk8, rfl, hst⟩ := hrel
                  have HS : Hid _ := hst
                  by_cases hkl : k < 8
                  · have hlen : (sectsN gn ys k).length ≤ 2000 := by
                      unfold sectsN
                      have := flat_le (l := List.range k) (f := sectN gn ys) (c := 128) (fun i _ => by unfold sectN; simp [putN_len]; omega)
                      simp at this ⊢
                      omega
                    have HSN : Hid _ := sects_snoc gn ys k
                    have hwr : IntKind.u64.wrap (gn : Int) = (gn : Int) := by have := HGL.out; rw [IntKind.wrap_u64]; omega
                    have hwk : IntKind.u8.wrap (k : Int) = (k : Int) := by rw [IntKind.wrap_u8]; omega
                    have d0 : wr.cell? ⟨w.heap.size, 0, none⟩ = some (.int .i64 (gn : Int)) := cell_of_row _ _ _ _ _ _ ((hst.bel.block _ hlt5).trans HBX.out)
                    clear hst
                    go_wp2_with fail
                    refine (refPut_any gn _ (by have := HGL.out; omega)).mono ?_
                    rintro e w3 ⟨v3, rfl, ho3, hb3⟩
                    obtain ⟨q3, m3, rfl, _, _, hn3⟩ := own_form ho3
                    have hi3 : BIn w3 q3 (putN gn) := own_in ho3 (putN_bytes gn (by have := HGL.out; omega))
                    have S3 := HS.out.call hb3
                    have hs3 := S3.size
                    have H3 : Hid _ := S3
                    have HI3 : Hid _ := hi3
                    clear S3 hi3 hb3 ho3 HS
                    go_wp2_with (first
                      | (at_builtin; refine wpList_append_bytes _ rfl _ _ rfl w5.heap.size _ _ (putN gn) q3 _ m3 rfl rfl rfl H3.out.own HI3.out hn3 (by simp [putN_len]; omega) hs3 ?_; intro v4 w4 ho4 hg4; have S4 := H3.out.app ho4 hg4; have hs4 := S4.size; have H4 : Hid _ := S4; clear S4 ho4 hg4 H3 HI3)
                      | (at_builtin; refine wpList_append_bytes _ rfl _ _ rfl w5.heap.size _ _ [k] (some ⟨w4.heap.size, 0, none⟩) _ 1 rfl rfl rfl (H4.out.call (below_alloc w4 (.cells #[.int .u8 k] 5))).own (bin_lit w4 _ _ _ _ [k] rfl rfl (by simp; omega)) (fun h => by cases h) (by simp [putN_len]; omega) (by simp; omega) ?_; intro v6 w6 ho6 hg6; have S6 := (H4.out.call (below_alloc w4 (.cells #[.int .u8 k] 5))).app ho6 hg6; have hs6 := S6.size; have hbb := bin_part4 (HB5.out.below S6.bel) (k * 119) 119 (by omega); rw [Nat.zero_add] at hbb; have HBB : Hid _ := hbb; have H6 : Hid _ := S6; clear hbb S6 ho6 hg6 H4)
                      | (at_builtin; refine wpList_append_bytes _ rfl _ _ rfl w5.heap.size _ _ ((ys.drop (k * 119)).take 119) (some ⟨g5, k * 119, none⟩) _ (m5 - k * 119) rfl rfl (by rw [List.length_take, List.length_drop]; omega) H6.out.own HBB.out (fun h => by cases h) (by simp only [List.length_append, List.length_take, List.length_drop, List.length_singleton, putN_len]; omega) hs6 ?_; intro v7 w7 ho7 hg7; have S7 := H6.out.app ho7 hg7; have H7 : Hid _ := S7; clear S7 ho7 hg7 H6 HBB)
                      | fail)
                    go_roundw
                    case rel => exact ⟨k + 1, by omega, by go_num, H7.out.eq HSN.out.symm⟩
                    case measure => simp [intOf]; omega
                  · obtain rfl : k = 8 := by omega
                    clear hst
                    go_wp2
                    go_ret2
                    exact ⟨_, 0, _, rfl, HW'.out, own_mono HS.out.own hsz5, HBW.out.trans (HS.out.bel.mono hsz5)⟩
          · have HW' : Hid (Wrote ⟨gen, l⟩ 42 []) := HWL.out (by omega)
            have HB : Hid (Below w.heap.size w wr) := hst'.bel
            clear hst' HWL HWO
            generalize (insideN l).length = L at *
            go_wp2
            go_ret2
            exact ⟨_, 42, [], rfl, HW'.out, World.ownsRow_nil _ _ _ _, HB.out⟩
    · have hmy := rmay_any _ ⟨gen, l⟩ false (w.alloc (.cells #[.int .i64 gen, .slice q l.length c] 31)) ⟨fun h => (by cases h), fun h => absurd h hm⟩ (HX.out.below (below_alloc w _)) hs hsum
      have HW : Hid (Wrote ⟨gen, l⟩ 8 []) := .bad h1 (fun h => hm ((mayR_iff h1).2 h))
      clear hm hs hsum
      go_enter Tryz.func20, Tryz.ntmps20
      go_wp2_with fail
      refine hmy.mono ?_
      rintro e w1 ⟨rfl, hb1⟩
      go_wp2
      go_ret2
      exact ⟨_, 8, [], rfl, HW.out, World.ownsRow_nil _ _ _ _, (below_alloc w _).trans (hb1.mono (by simp))⟩
  · go_enter Tryz.func20, Tryz.ntmps20
    go_wp2
    go_ret2
    exact ⟨_, 42, [], rfl, .many (by show 32 < l.length; omega), World.ownsRow_nil _ _ _ _, below_alloc _ _⟩
end Go.Proofs.YtefmkkfankpgmaaGreatDoor
namespace Go.Proofs.YtefmkkfankpgmaaGreatDoor
open Go.RowKit Go.WideShapes Rm

theorem number_v (v : Value) (e : Int) (hv : ErrV v e) (w : World) (hg : ErrT w) : Calls Tryz.prog 41 #[v] w fun ev w' => ev = .returned (.int .i64 e) ∧ Below w.heap.size w w' := by
  rcases hv with ⟨rfl, rfl⟩ | ⟨_, h⟩
  · exact number_nil w
  · exact number_any v e h w hg
theorem writeD (a b : Addr) (ev old : Value) (n : Int) (u : FrameMode) (w : World) (hg : ErrT w) (hv : ErrV ev n) (ha : w.cell? a = some ev) (hb : w.cell? b = some old) (hf : w.frozen? b = false) :
    CallsD Tryz.prog 55 #[.pointer (some a), .pointer (some b)] u w fun e u' w' => u' = u ∧ e = .returned (.tuple #[]) ∧ ∃ w1, w' = w1.setCell b (.int .i64 n) ∧ Below w.heap.size w w1 := by
  have hn := number_v ev n hv w hg
  have hlt := World.block_lt_of_cell? _ _ hb
  go_enter_d Tryz.func55, Tryz.ntmps55
  go_wp2_with fail
  refine hn.mono ?_
  rintro e w1 ⟨rfl, hb1⟩
  have hb2 : w1.cell? b = some old := (hb1.cell hlt).trans hb
  have hf2 : w1.frozen? b = false := (hb1.frozen hlt).trans hf
  go_wp2
  go_end0
  exact ⟨rfl, w1, rfl, hb1⟩
theorem heap_size_alloc (w : World) (o : Obj) : (w.alloc o).heap.size = w.heap.size + 1 := by simp
theorem vars2 {a b : Value} {s t : TypeId} (w w1 : World) (hb : Below ((w.alloc (.cells #[a] s)).alloc (.cells #[b] t)).heap.size ((w.alloc (.cells #[a] s)).alloc (.cells #[b] t)) w1) :
    w1.cell? ⟨w.heap.size, 0, none⟩ = some a ∧ w1.cell? ⟨w.heap.size + 1, 0, none⟩ = some b ∧ w1.frozen? ⟨w.heap.size, 0, none⟩ = false ∧ w1.frozen? ⟨w.heap.size + 1, 0, none⟩ = false := by
  refine ⟨?_, ?_, ?_, ?_⟩
  · rw [hb.cell (by simp; omega), World.cell?_alloc_lt _ _ _ (by simp)]; simp
  · rw [hb.cell (by simp)]; simp
  · rw [hb.frozen (by simp; omega), World.frozen?_alloc_old _ _ _ (by simp)]; simp
  · rw [hb.frozen (by simp)]; simp
theorem doorV {A E : Addr} {w : World} {ev oa oe : Value} (hne : A ≠ E) (ha : w.cell? A = some oa) (he : w.cell? E = some oe) (_fa : w.frozen? A = false) (fe : w.frozen? E = false) :
    ((w.setCell A ev).setCell E (.int .i64 0)).cell? A = some ev ∧ ((w.setCell A ev).setCell E (.int .i64 0)).cell? E = some (.int .i64 0) ∧ ((w.setCell A ev).setCell E (.int .i64 0)).frozen? E = false := by
  refine ⟨?_, ?_, ?_⟩
  · rw [World.cell?_setCell_other _ _ _ _ (Ne.symm hne)]
    exact World.cell?_setCell_same _ _ _ ha
  · refine World.cell?_setCell_same _ _ _ (u := oe) ?_
    rw [World.cell?_setCell_other _ _ _ _ hne]
    exact he
  · simp [fe]
set_option maxHeartbeats 1000000 in
theorem Write_any (v : Value) (x : DirV) (w : World) (hL : Laid w) (hx : DirIn w v x) (hs : ∀ f ∈ x.files, (f.name.size : Int) ≤ 9223372036854775807) (hsum : (allPcs x.files).length ≤ 1000000) :
    Calls Tryz.prog 19 #[v] w fun e w' => ∃ r n b, e = .returned (.tuple #[r, .int .i64 n]) ∧ Wrote x n b ∧ w'.ownsRow w.heap.size 5 1 r b.length (Bs b) ∧ Below w.heap.size w w' := by
  obtain ⟨fv, rfl, hf⟩ := hx.lies
  have HX : Hid (DirIn w (.agg #[.int .i64 x.gen, fv]) x) := hx
  obtain ⟨q, c, rfl, _⟩ := hf.lies
  clear hx hf
  have hwr := write_any _ x (((w.alloc (.cells #[.int .i64 x.gen, .slice q x.files.length c] 31)).alloc (.cells #[.int .i64 0] 26)).alloc (.cells #[.nilIface] 93)) (HX.out.below (((below_alloc w _).alloc (by simp) _).alloc (by simp; omega) _)) hs hsum
  have hmf : ∀ (fn : Fn) (first cap : Array Value) (w : World), (Instr.makeFunc fn first cap).run Tryz.prog w = .ok (.func fn first cap) w := fun _ _ _ _ => rfl
  go_enter_defers Tryz.func19, Tryz.ntmps19
  go_wp2_with fail
  refine hwr.mono ?_
  rintro e w1 ⟨r, ev, n, b, rfl, hw, he, ho, hb⟩
  have hs1 := hb.size
  simp at hs1
  obtain ⟨ce, cr, fe, fr⟩ := vars2 (a := .int .i64 0) (b := .nilIface) (s := 26) (t := 93) (w.alloc (.cells #[.int .i64 x.gen, .slice q x.files.length c] 31)) w1 hb
  simp only [heap_size_alloc] at ce cr fe fr
  have HW : Hid (Wrote x n b) := hw
  have HO : Hid _ := ho
  have HB : Hid (Below w.heap.size w w1) := (((below_alloc w _).alloc (by simp) _).alloc (by simp; omega) _).trans (hb.mono (by simp; omega))
  have HG : Hid (ErrT w) := hL.err
  have HE : Hid (ErrV ev n) := he
  obtain ⟨q1, m1, rfl, _⟩ := own_form ho
  clear hw ho hb hwr hL
  have hdoor := doorV (A := ⟨w.heap.size + 1 + 1, 0, none⟩) (E := ⟨w.heap.size + 1, 0, none⟩) (by simp) cr ce fr fe (ev := ev)
  have HD : Hid _ := hdoor
  clear hdoor
  rcases he with ⟨rfl, rfl⟩ | ⟨hne, hfl⟩
  · go_wp2
    obtain ⟨g1, g2, g3⟩ := HD.out
    have hbW : Below w.heap.size w ((w1.setCell ⟨w.heap.size + 1 + 1, 0, none⟩ (.nilIface)).setCell ⟨w.heap.size + 1, 0, none⟩ (.int .i64 0)) := (HB.out.setCell (by simp; omega) _).setCell (by simp) _
    have hoW := ownsRow_setCell_below (ownsRow_setCell_below HO.out (a := ⟨w.heap.size + 1 + 1, 0, none⟩) (by simp) (.nilIface)) (a := ⟨w.heap.size + 1, 0, none⟩) (by simp) (.int .i64 0)
    generalize (w1.setCell ⟨w.heap.size + 1 + 1, 0, none⟩ (.nilIface)).setCell ⟨w.heap.size + 1, 0, none⟩ (.int .i64 0) = W at *
    refine leaves_cons (f := 55) (args := #[.pointer (some ⟨w.heap.size + 1 + 1, 0, none⟩), .pointer (some ⟨w.heap.size + 1, 0, none⟩)]) (by simp) (by simp [go_sem]) ?_
    refine (writeD ⟨w.heap.size + 1 + 1, 0, none⟩ ⟨w.heap.size + 1, 0, none⟩ (.nilIface) (.int .i64 0) 0 .returning _ (HG.out.below hbW) HE.out g1 g2 g3).mono ?_
    rintro e u' w'' ⟨rfl, rfl, w3, rfl, hb3⟩
    have hltE := World.block_lt_of_cell? _ _ g2
    have k1 : (w3.setCell ⟨w.heap.size + 1, 0, none⟩ (.int .i64 0)).cell? ⟨w.heap.size + 1, 0, none⟩ = some (.int .i64 0) := World.cell?_setCell_same _ _ _ ((hb3.cell hltE).trans g2)
    have k2 : Below w.heap.size w (w3.setCell ⟨w.heap.size + 1, 0, none⟩ (.int .i64 0)) := (hbW.trans (hb3.mono hbW.size)).setCell (by simp) _
    have k3 := ownsRow_setCell_below (own_below hoW hb3) (a := ⟨w.heap.size + 1, 0, none⟩) (by simp) (.int .i64 0)
    generalize w3.setCell ⟨w.heap.size + 1, 0, none⟩ (.int .i64 0) = w4 at *
    simp [Leaves, settle, results, Tryz.results19, go_sem, k1]
    exact ⟨_, _, ⟨rfl, rfl⟩, b, HW.out, own_mono k3 (by simp; omega), k2⟩
  · obtain ⟨tx, vx, rfl⟩ := hfl.iface
    go_wp2
    obtain ⟨g1, g2, g3⟩ := HD.out
    have hbW : Below w.heap.size w ((w1.setCell ⟨w.heap.size + 1 + 1, 0, none⟩ (.iface tx vx)).setCell ⟨w.heap.size + 1, 0, none⟩ (.int .i64 0)) := (HB.out.setCell (by simp; omega) _).setCell (by simp) _
    have hoW := ownsRow_setCell_below (ownsRow_setCell_below HO.out (a := ⟨w.heap.size + 1 + 1, 0, none⟩) (by simp) (.iface tx vx)) (a := ⟨w.heap.size + 1, 0, none⟩) (by simp) (.int .i64 0)
    generalize (w1.setCell ⟨w.heap.size + 1 + 1, 0, none⟩ (.iface tx vx)).setCell ⟨w.heap.size + 1, 0, none⟩ (.int .i64 0) = W at *
    refine leaves_cons (f := 55) (args := #[.pointer (some ⟨w.heap.size + 1 + 1, 0, none⟩), .pointer (some ⟨w.heap.size + 1, 0, none⟩)]) (by simp) (by simp [go_sem]) ?_
    refine (writeD ⟨w.heap.size + 1 + 1, 0, none⟩ ⟨w.heap.size + 1, 0, none⟩ (.iface tx vx) (.int .i64 0) n .returning _ (HG.out.below hbW) HE.out g1 g2 g3).mono ?_
    rintro e u' w'' ⟨rfl, rfl, w3, rfl, hb3⟩
    have hltE := World.block_lt_of_cell? _ _ g2
    have k1 : (w3.setCell ⟨w.heap.size + 1, 0, none⟩ (.int .i64 n)).cell? ⟨w.heap.size + 1, 0, none⟩ = some (.int .i64 n) := World.cell?_setCell_same _ _ _ ((hb3.cell hltE).trans g2)
    have k2 : Below w.heap.size w (w3.setCell ⟨w.heap.size + 1, 0, none⟩ (.int .i64 n)) := (hbW.trans (hb3.mono hbW.size)).setCell (by simp) _
    have k3 := ownsRow_setCell_below (own_below hoW hb3) (a := ⟨w.heap.size + 1, 0, none⟩) (by simp) (.int .i64 n)
    generalize w3.setCell ⟨w.heap.size + 1, 0, none⟩ (.int .i64 n) = w4 at *
    simp [Leaves, settle, results, Tryz.results19, go_sem, k1]
    exact ⟨_, _, ⟨rfl, rfl⟩, b, HW.out, own_mono k3 (by simp; omega), k2⟩
end Go.Proofs.YtefmkkfankpgmaaGreatDoor
