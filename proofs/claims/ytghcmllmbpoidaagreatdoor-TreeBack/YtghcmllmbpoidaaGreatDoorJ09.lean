import Derived.Test.YtghcmllmbpoidaaGreatDoorJ08
import Derived.Laws.CopyOwn
import Derived.Defers
import Derived.Recover
namespace Go.Proofs.YtghcmllmbpoidaaGreatDoor
open Go.RowKit Go.WideShapes Rm
abbrev Box := Nat × Array Value × TypeId
structure St (w : World) (bx : List Box) (wc : World) (v : Value) (xs : List Nat) : Prop where
  own : wc.ownsRow w.heap.size 5 1 v xs.length (Bs xs)
  bel : Below w.heap.size w wc
  box : ∀ p ∈ bx, wc.heap[p.1]? = some (.cells p.2.1 p.2.2 (0, 0)) ∧ p.2.2 ≠ 5
theorem own_form {w : World} {base n : Nat} {e : TypeId} {s : Nat} {v : Value} {xs : List Value} (h : w.ownsRow base e s v n xs) : ∃ q m, v = .slice q n m ∧ n ≤ m ∧ m ≤ maxLen ∧ (q = none → m = 0) := by
  rcases h.2 with ⟨hv, hn⟩ | ⟨g, cap, cur, hv, _, _, h1, h2, _⟩
  · exact ⟨none, 0, by rw [hv, hn], by omega, by unfold maxLen; omega, fun _ => rfl⟩
  · exact ⟨_, cap, hv, h1, h2, fun h => by cases h⟩
theorem blk_grown {w w' : World} {base n : Nat} {v : Value} {xs : List Value} (h : w.ownsRow base 5 1 v n xs) (hg : w.grownBy w' v.ownBlock) {B : Nat} {C : Array Value} {t : TypeId} {fr : Nat × Nat} (hB : w.heap[B]? = some (.cells C t fr)) (ht : t ≠ 5) : w'.heap[B]? = some (.cells C t fr) := by
  rw [hg.block B (lt_heap hB) ?_]
  · exact hB
  · intro e
    rcases h.2 with ⟨hv, _⟩ | ⟨g, cap, cur, hv, _, hgg, _⟩
    · rw [hv] at e; cases e
    · rw [hv] at e
      simp only [Value.ownBlock, Option.some.injEq] at e
      subst e
      rw [hB] at hgg
      simp only [Option.some.injEq, Obj.cells.injEq] at hgg
      exact ht hgg.2.1
theorem St.start {w : World} {bx : List Box} (hb : ∀ p ∈ bx, w.heap[p.1]? = some (.cells p.2.1 p.2.2 (0, 0)) ∧ p.2.2 ≠ 5) : St w bx w (.slice none 0 0) [] := ⟨World.ownsRow_nil _ _ _ _, Below.refl _ _, hb⟩
theorem St.call {w : World} {bx : List Box} {wc w1 : World} {v : Value} {xs : List Nat} (h : St w bx wc v xs) (hb : Below wc.heap.size wc w1) : St w bx w1 v xs :=
  ⟨own_below h.own hb, h.bel.trans (hb.mono h.bel.size), fun p hp => ⟨(hb.block _ (lt_heap (h.box p hp).1)).trans (h.box p hp).1, (h.box p hp).2⟩⟩
theorem St.app {w : World} {bx : List Box} {wc w2 : World} {v v2 : Value} {xs ys : List Nat} (h : St w bx wc v xs) (ho : w2.ownsRow w.heap.size 5 1 v2 (xs ++ ys).length (Bs (xs ++ ys))) (hg : wc.grownBy w2 v.ownBlock) : St w bx w2 v2 (xs ++ ys) :=
  ⟨ho, h.bel.grown hg h.bel.size (fun k hk => (h.own.lt k hk).1), fun p hp => ⟨blk_grown h.own hg (h.box p hp).1 (h.box p hp).2, (h.box p hp).2⟩⟩
theorem St.alloc {w : World} {bx : List Box} {wc : World} {v : Value} {xs : List Nat} (h : St w bx wc v xs) (C : Array Value) (t : TypeId) (ht : t ≠ 5) : St w ((wc.heap.size, C, t) :: bx) (wc.alloc (.cells C t)) v xs := by
  have h1 := h.call (below_alloc wc (.cells C t))
  refine ⟨h1.own, h1.bel, fun p hp => ?_⟩
  rcases List.mem_cons.1 hp with rfl | hp
  · exact ⟨heap_alloc_new wc _, ht⟩
  · exact h1.box p hp
theorem St.drop {w : World} {b : Box} {bx : List Box} {wc : World} {v : Value} {xs : List Nat} (h : St w (b :: bx) wc v xs) : St w bx wc v xs := ⟨h.own, h.bel, fun p hp => h.box p (by simp [hp])⟩
theorem St.eq {w : World} {bx : List Box} {wc : World} {v : Value} {xs ys : List Nat} (h : St w bx wc v xs) (e : xs = ys) : St w bx wc v ys := e ▸ h
theorem St.cell {w : World} {bx : List Box} {wc : World} {v : Value} {xs : List Nat} (h : St w bx wc v xs) {B : Nat} {C : Array Value} {t : TypeId} (hm : (B, C, t) ∈ bx) (i : Nat) : wc.cell? ⟨B, i, none⟩ = C[i]? := cell_of_row wc B i C t (0, 0) (h.box _ hm).1
theorem St.size {w : World} {bx : List Box} {wc : World} {v : Value} {xs : List Nat} (h : St w bx wc v xs) : w.heap.size ≤ wc.heap.size := h.bel.size
theorem own_in {w : World} {base : Nat} {p : Option Addr} {m c : Nat} {xs : List Nat} (h : w.ownsRow base 5 1 (.slice p m c) xs.length (Bs xs)) (hx : ∀ c ∈ xs, c < 256) : BIn w p xs := (own_bin h hx).1
theorem flat_le {α : Type} {l : List α} {f : α → List Nat} {c : Nat} (h : ∀ x ∈ l, (f x).length ≤ c) : (l.flatMap f).length ≤ l.length * c := by
  induction l with
  | nil => simp
  | cons x l ih =>
    have h1 := h x (by simp)
    have h2 := ih (fun y hy => h y (by simp [hy]))
    rw [List.flatMap_cons, List.length_append, List.length_cons, Nat.succ_mul]
    omega
theorem textN_bytes (s : ByteArray) : ∀ c ∈ textN s, c < 256 := by
  intro c hc
  unfold textN at hc
  rcases List.mem_append.1 hc with h | h
  · exact smallN_bytes _ c h
  · exact numsOf_lt s c h
theorem textN_len (s : ByteArray) (h : s.size ≤ 100000) : (textN s).length ≤ 100010 := by
  have := smallN_ten s.size (by omega)
  unfold textN; rw [List.length_append, numsOf_len]; omega
theorem piece_len (p : Int × Int) (h : wf64 p.1 ∧ wf64 p.2) : (pieceN p).length ≤ 20 := by
  have h1 := smallN_ten p.1.toNat (by have := h.1; unfold wf64 at this; omega)
  have h2 := smallN_ten p.2.toNat (by have := h.2; unfold wf64 at this; omega)
  unfold pieceN; rw [List.length_append]; omega
structure Told (l : List FileV) : Prop where
  many : l.length ≤ 32
  name : ∀ f ∈ l, f.name.size ≤ 32
  size : ∀ f ∈ l, 0 ≤ f.size ∧ f.size ≤ 524288
  pcs : ∀ f ∈ l, f.pcs.length ≤ 4096
  piece : ∀ f ∈ l, ∀ p ∈ f.pcs, (0 ≤ p.1 ∧ p.1 ≤ 4096) ∧ (0 ≤ p.2 ∧ p.2 ≤ 4096)
theorem May.told {lt : ByteArray → ByteArray → Prop} {x : DirV} (h : May lt x) : Told x.files := by
  obtain ⟨_, hl, hg⟩ := errK_zero h.pcs
  refine ⟨h.many, fun f hf => ?_, fun f hf => ⟨(h.each f hf).2.1, (h.each f hf).2.2.1⟩, fun f hf => by have := len_allPcs hf; omega, fun f hf p hp => ?_⟩
  · have := (h.each f hf).1
    unfold isNameN at this
    simp only [Bool.and_eq_true, decide_eq_true_eq] at this
    omega
  · have := hg.wn p (mem_allPcs hf hp)
    unfold Wn at this
    omega
theorem file_len {l : List FileV} (h : Told l) {f : FileV} (hf : f ∈ l) : (fileN f).length ≤ 200000 := by
  have h1 := textN_len f.name (by have := h.name f hf; omega)
  have h2 := smallN_ten f.size.toNat (by have := h.size f hf; omega)
  have h3 := smallN_ten f.pcs.length (by have := h.pcs f hf; omega)
  have h4 := flat_le (l := f.pcs) (f := pieceN) (c := 20) (fun p hp => piece_len p (by have := h.piece f hf p hp; unfold wf64; omega))
  have h5 := h.pcs f hf
  unfold fileN
  simp only [List.length_append]
  omega
theorem pcs_take_len {l : List FileV} (h : Told l) {f : FileV} (hf : f ∈ l) (j : Nat) : ((f.pcs.take j).flatMap pieceN).length ≤ 81920 := by
  have h4 := flat_le (l := f.pcs.take j) (f := pieceN) (c := 20) (fun p hp => piece_len p (by have := h.piece f hf p (List.mem_of_mem_take hp); unfold wf64; omega))
  have h5 := h.pcs f hf
  have : (f.pcs.take j).length ≤ f.pcs.length := by simp; omega
  omega
theorem files_take_len {l : List FileV} (h : Told l) (k : Nat) : ((l.take k).flatMap fileN).length ≤ 6400000 := by
  have h4 := flat_le (l := l.take k) (f := fileN) (c := 200000) (fun f hf => file_len h (List.mem_of_mem_take hf))
  have h5 := h.many
  have : (l.take k).length ≤ l.length := by simp; omega
  omega
theorem files_flat {l : List FileV} {k : Nat} (h : k < l.length) : (l.take (k + 1)).flatMap fileN = (l.take k).flatMap fileN ++ fileN (l.getD k zeroF) := by
  rw [files_snoc h, List.flatMap_append]; simp
theorem pcs_flat {l : Pcs} {k : Nat} (h : k < l.length) : (l.take (k + 1)).flatMap pieceN = (l.take k).flatMap pieceN ++ pieceN (l.getD k (0, 0)) := by
  rw [take_snoc (d := (0, 0)) h, List.flatMap_append]; simp
set_option maxRecDepth 4000 in
set_option maxHeartbeats 4000000 in
theorem inside_any (v : Value) (l : List FileV) (w : World) (hf : FIn w v l) (ht : Told l) :
    Calls Tryz.prog 65 #[v] w fun e w' => ∃ r, e = .returned r ∧ w'.ownsRow w.heap.size 5 1 r (insideN l).length (Bs (insideN l)) ∧ Below w.heap.size w w' := by
  obtain ⟨q, c, rfl, hq, hlc, hcm, hqn⟩ := hf.lies
  have hmany := ht.many
  have HT : Hid (Told l) := ht
  have HQ : Hid (FilesIn w q l) := hq
  unfold maxLen at hcm
  clear hf hq hqn ht
  have hlen0 := smallN_ten l.length (by omega)
  go_enter Tryz.func65, Tryz.ntmps65
  go_wp2_with fail
  refine (small4_any l.length w (by omega)).mono ?_
  rintro e w0 ⟨v0, rfl, ho0, hb0⟩
  rw [Int.toNat_natCast] at ho0
  have S0 : St w [] w0 v0 (smallN l.length) := ⟨ho0, hb0, fun p hp => by simp at hp⟩
  clear ho0 hb0
  go_wp2
  go_loopw [3, 13] (fun m i wr => ∃ k : Nat, k ≤ l.length ∧ i = .int .i64 k ∧ St w [] wr m (smallN l.length ++ (l.take k).flatMap fileN)) (fun _ i _ => l.length - (intOf i).toNat)
  case atStart => exact ⟨0, by omega, rfl, by simpa using S0⟩
  case round =>
    obtain ⟨k, hk, rfl, hst⟩ := hrel
    clear S0
    have HS : Hid _ := hst
    by_cases hkl : k < l.length
    · obtain ⟨b, o, rfl⟩ := HQ.out.addr (by omega)
      have hat := HQ.out.at hkl
      obtain ⟨e0, e1, pv, e2, hp⟩ := hat
      have f0 := (hst.bel.cell (World.block_lt_of_cell? _ _ e0)).trans e0
      have f1 := (hst.bel.cell (World.block_lt_of_cell? _ _ e1)).trans e1
      have f2 := (hst.bel.cell (World.block_lt_of_cell? _ _ e2)).trans e2
      obtain ⟨qp, cp, rfl, hqp, hlc2, hcm2, _⟩ := hp.lies
      have hmem : l.getD k zeroF ∈ l := getD_mem' hkl
      have h32 := HT.out.name _ hmem
      have hsz := HT.out.size _ hmem
      have hpl := HT.out.pcs _ hmem
      have HPC : Hid _ := HT.out.piece _ hmem
      have HPT : Hid _ := pcs_take_len HT.out hmem
      have hfl := files_take_len HT.out k
      have HFF : Hid _ := files_flat hkl
      have HFN : Hid (fileN (l.getD k zeroF) = textN (l.getD k zeroF).name ++ smallN (l.getD k zeroF).size.toNat ++ smallN (l.getD k zeroF).pcs.length ++ (l.getD k zeroF).pcs.flatMap pieceN) := rfl
      have HP : Hid (PcsIn w qp (l.getD k zeroF).pcs) := hqp
      clear hp hqp hmem e0 e1 e2
      generalize hy : l.getD k zeroF = y at *
      obtain ⟨nm, sz, pl⟩ := y
      simp only at f0 f1 f2 h32 hsz hpl hlc2
      have hal := hst.alloc #[.string nm, .int .i64 sz, .slice qp pl.length cp] 147 (by decide)
      have HA : Hid (St w [(wr.heap.size, #[.string nm, .int .i64 sz, .slice qp pl.length cp], 147)] (wr.alloc (.cells #[.string nm, .int .i64 sz, .slice qp pl.length cp] 147)) _ (smallN l.length ++ (l.take k).flatMap fileN)) := hal
      clear hal hst HS
      have htx := textN_len nm (by omega)
      have hss := smallN_ten sz.toNat (by omega)
      have hsp := smallN_ten pl.length (by omega)
      unfold maxLen at hcm2
      go_wp2_with fail
      refine (text_any nm _ (by omega)).mono ?_
      rintro e w1a ⟨v1a, rfl, ho1, hb1⟩
      have S1a := HA.out.call hb1
      obtain ⟨q1, m1, rfl, _, _, hn1⟩ := own_form ho1
      have hi1 := own_in ho1 (textN_bytes nm)
      have HS1a : Hid _ := S1a
      have HI1 : Hid _ := hi1
      have hsz1 := S1a.size
      clear S1a hi1 ho1 hb1 HA
      go_wp2_with (at_builtin; refine wpList_append_bytes _ rfl _ _ rfl w.heap.size _ _ (textN nm) q1 _ m1 rfl rfl rfl HS1a.out.own HI1.out hn1 (by simp only [List.length_append]; omega) hsz1 ?_; intro v1b w1b ho1b hg1b; have S1b := HS1a.out.app ho1b hg1b; have c11 : w1b.cell? ⟨wr.heap.size, 1, none⟩ = some (.int .i64 sz) := S1b.cell List.mem_cons_self 1; have c12 : w1b.cell? ⟨wr.heap.size, 2, none⟩ = some (.slice qp pl.length cp) := S1b.cell List.mem_cons_self 2)
      have H1 : Hid _ := S1b
      clear S1b HS1a HI1 ho1b hg1b
      go_wp2_with fail
      refine (small4_any sz _ (by omega)).mono ?_
      rintro e w2a ⟨v2a, rfl, ho2, hb2⟩
      have S2a := H1.out.call hb2
      obtain ⟨q2, m2, rfl, _, _, hn2⟩ := own_form ho2
      have hi2 := own_in ho2 (smallN_bytes _)
      have HS2a : Hid _ := S2a
      have HI2 : Hid _ := hi2
      have hsz2 := S2a.size
      clear S2a hi2 ho2 hb2 H1
      go_wp2_with (at_builtin; refine wpList_append_bytes _ rfl _ _ rfl w.heap.size _ _ (smallN sz.toNat) q2 _ m2 rfl rfl rfl HS2a.out.own HI2.out hn2 (by simp only [List.length_append]; omega) hsz2 ?_; intro v2b w2b ho2b hg2b; have S2b := HS2a.out.app ho2b hg2b; have c22 : w2b.cell? ⟨wr.heap.size, 2, none⟩ = some (.slice qp pl.length cp) := S2b.cell List.mem_cons_self 2)
      have H2 : Hid _ := S2b
      clear S2b HS2a HI2 ho2b hg2b c11 c12
      go_wp2_with fail
      refine (small4_any pl.length _ (by omega)).mono ?_
      rintro e w3a ⟨v3a, rfl, ho3, hb3⟩
      have S3a := H2.out.call hb3
      obtain ⟨q3, m3, rfl, _, _, hn3⟩ := own_form ho3
      have hi3 := own_in ho3 (smallN_bytes _)
      have HS3a : Hid _ := S3a
      have HI3 : Hid _ := hi3
      have hsz3 := S3a.size
      clear S3a hi3 ho3 hb3 H2
      go_wp2_with (at_builtin; refine wpList_append_bytes _ rfl _ _ rfl w.heap.size _ _ (smallN pl.length) q3 _ m3 rfl rfl rfl HS3a.out.own HI3.out hn3 (by simp only [List.length_append]; omega) hsz3 ?_; intro v3b w3b ho3b hg3b; have S3b := HS3a.out.app ho3b hg3b; have c32 : w3b.cell? ⟨wr.heap.size, 2, none⟩ = some (.slice qp pl.length cp) := S3b.cell List.mem_cons_self 2)
      have H3 : Hid (St w [(wr.heap.size, #[.string nm, .int .i64 sz, .slice qp pl.length cp], 147)] w3b v3b (smallN l.length ++ (l.take k).flatMap fileN ++ textN nm ++ smallN sz.toNat ++ smallN pl.length)) := S3b
      clear S3b HS3a HI3 ho3b hg3b c22
      generalize hX : smallN l.length ++ (l.take k).flatMap fileN ++ textN nm ++ smallN sz.toNat ++ smallN pl.length = X at *
      have hXl : X.length ≤ 7000000 := by rw [← hX]; simp only [List.length_append]; omega
      go_wp2
      go_loopw [3, 36] (fun m i wn => ∃ j : Nat, j ≤ pl.length ∧ i = .int .i64 j ∧ St w [(wr.heap.size, #[.string nm, .int .i64 sz, .slice qp pl.length cp], 147)] wn m (X ++ (pl.take j).flatMap pieceN)) (fun _ i _ => pl.length - (intOf i).toNat)
      case atStart => exact ⟨0, by omega, rfl, by simpa using H3.out⟩
      case round =>
        obtain ⟨j, hj, rfl, hst⟩ := hrel
        clear H3
        have HS : Hid _ := hst
        by_cases hjl : j < pl.length
        · obtain ⟨bp, op, rfl⟩ := HP.out.addr (by omega)
          obtain ⟨e1, e2⟩ := (HP.out.below hst.bel).at hjl
          have hpt := HPT.out j
          have hpc := HPC.out _ (getD_mem' (d := (0, 0)) hjl)
          have HPF : Hid _ := pcs_flat hjl
          generalize pl.getD j (0, 0) = z at *
          obtain ⟨a, n⟩ := z
          simp only at e1 e2 hpc
          have hal := hst.alloc #[.int .i64 a, .int .i64 n] 194 (by decide)
          have HA : Hid _ := hal
          clear hal hst HS
          have hsa := smallN_ten a.toNat (by omega)
          have hsn := smallN_ten n.toNat (by omega)
          go_wp2_with fail
          refine (small4_any a _ (by omega)).mono ?_
          rintro e w4a ⟨v4a, rfl, ho4, hb4⟩
          have S4a := HA.out.call hb4
          obtain ⟨q4, m4, rfl, _, _, hn4⟩ := own_form ho4
          have hi4 := own_in ho4 (smallN_bytes _)
          have HS4a : Hid _ := S4a
          have HI4 : Hid _ := hi4
          have hsz4 := S4a.size
          clear S4a hi4 ho4 hb4 HA
          go_wp2_with (at_builtin; refine wpList_append_bytes _ rfl _ _ rfl w.heap.size _ _ (smallN a.toNat) q4 _ m4 rfl rfl rfl HS4a.out.own HI4.out hn4 (by simp only [List.length_append]; omega) hsz4 ?_; intro v4b w4b ho4b hg4b; have S4b := HS4a.out.app ho4b hg4b; have c41 : w4b.cell? ⟨wr.heap.size, 1, none⟩ = some (.int .i64 n) := S4b.cell List.mem_cons_self 1)
          have H4 : Hid _ := S4b
          clear S4b HS4a HI4 ho4b hg4b
          go_wp2_with fail
          refine (small4_any n _ (by omega)).mono ?_
          rintro e w5a ⟨v5a, rfl, ho5, hb5⟩
          have S5a := H4.out.call hb5
          obtain ⟨q5, m5, rfl, _, _, hn5⟩ := own_form ho5
          have hi5 := own_in ho5 (smallN_bytes _)
          have HS5a : Hid _ := S5a
          have HI5 : Hid _ := hi5
          have hsz5 := S5a.size
          clear S5a hi5 ho5 hb5 H4
          go_wp2_with (at_builtin; refine wpList_append_bytes _ rfl _ _ rfl w.heap.size _ _ (smallN n.toNat) q5 _ m5 rfl rfl rfl HS5a.out.own HI5.out hn5 (by simp only [List.length_append]; omega) hsz5 ?_; intro v5b w5b ho5b hg5b; have S5b := HS5a.out.app ho5b hg5b)
          have H5 : Hid _ := S5b.drop
          clear S5b HS5a HI5 ho5b hg5b c41
          go_roundw
          case rel => exact ⟨j + 1, by omega, by go_num, H5.out.eq (by rw [HPF.out]; unfold pieceN; simp only [List.append_assoc])⟩
          case measure => simp [intOf]; omega
        · obtain rfl : j = pl.length := by omega
          rw [List.take_length] at HS
          clear hst
          go_wp2
          refine ⟨⟨k + 1, by omega, by go_num, HS.out.drop.eq ?_⟩, by simp [intOf]; omega⟩
          rw [HFF.out, HFN.out, ← hX]
          simp only [List.append_assoc]
    · obtain rfl : k = l.length := by omega
      rw [List.take_length] at HS
      clear hst
      go_wp2
      go_ret
      exact ⟨_, rfl, HS.out.own, HS.out.bel⟩
theorem zeros_made4 (n : Nat) : (madeCells #[Value.int .u8 0] n).toList = Bs (List.replicate n 0) := by
  rw [toList_madeCells_one]
  simp [Bs]
theorem size5 : (Tryz.prog.info? 5).map (·.size) = some 1 := by kernel_rfl
theorem bin_row4 {w : World} {g t : Nat} {xs : List Nat} (h : w.heap[g]? = some (.cells (Bs xs).toArray t (0, 0))) (hx : ∀ c ∈ xs, c < 256) : BIn w (some ⟨g, 0, none⟩) xs := by
  refine ⟨fun _ => ⟨g, 0, rfl, fun i hi => ?_⟩, hx⟩
  rw [Nat.zero_add, cell_of_row w g i _ _ _ h]
  simp [Bs, List.getD, List.getElem?_eq_getElem hi]
theorem bin_part4 {w : World} {g o : Nat} {xs : List Nat} (h : BIn w (some ⟨g, o, none⟩) xs) (a n : Nat) (hl : a + n ≤ xs.length) : BIn w (some ⟨g, o + a, none⟩) ((xs.drop a).take n) := by
  refine ⟨fun hp => ⟨g, o + a, rfl, fun i hi => ?_⟩, fun c hc => h.2 c (List.mem_of_mem_drop (List.mem_of_mem_take hc))⟩
  have hn : i < n := by simp at hi; omega
  obtain ⟨b', o', e, hc⟩ := h.1 (by omega)
  simp only [Option.some.injEq, Addr.mk.injEq, and_true] at e
  obtain ⟨rfl, rfl⟩ := e
  rw [Nat.add_assoc, hc (a + i) (by omega)]
  simp [List.getD, hn]
theorem put_in (n : Nat) (w : World) (hn : n < 18446744073709551616) : Calls Tryz.prog 36 #[.int .u64 n] w fun e w' => ∃ g, e = .returned (.slice (some ⟨g, 0, none⟩) 8 8) ∧ BIn w' (some ⟨g, 0, none⟩) (putN n) ∧ Below w.heap.size w w' := by
  refine (put_any n w hn).mono ?_
  rintro e w' ⟨w1, rfl, rfl, hb⟩
  exact ⟨_, rfl, bin_lit _ _ _ _ _ _ rfl rfl (putN_bytes n hn), hb.alloc hb.size _⟩
theorem own_mono {w : World} {base base' n s : Nat} {e : TypeId} {v : Value} {xs : List Value} (h : w.ownsRow base e s v n xs) (hb : base' ≤ base) : w.ownsRow base' e s v n xs := by
  refine ⟨h.1, ?_⟩
  rcases h.2 with h' | ⟨g, cap, cur, h1, h2, h3⟩
  · exact .inl h'
  · exact .inr ⟨g, cap, cur, h1, Nat.le_trans hb h2, h3⟩
theorem pad_splice (xs : List Nat) : splice (Bs (List.replicate 952 0)) 0 (Bs xs) = Bs (padN xs) := by
  unfold splice padN
  rw [Bs_app, Bs_len]
  simp only [List.take_zero, List.nil_append, Nat.zero_add]
  congr 1
  unfold Bs
  rw [← List.map_drop, List.drop_replicate]
theorem pad_bytes {xs : List Nat} (h : ∀ c ∈ xs, c < 256) : ∀ c ∈ padN xs, c < 256 := by
  intro c hc
  unfold padN at hc
  rcases List.mem_append.1 hc with hc | hc
  · exact h c hc
  · have := (List.mem_replicate.1 hc).2; omega
theorem sects_snoc (gen : Nat) (xs : List Nat) (k : Nat) : sectsN gen xs (k + 1) = sectsN gen xs k ++ putN gen ++ [k] ++ (xs.drop (k * 119)).take 119 := by
  unfold sectsN
  rw [List.range_succ, List.flatMap_append]
  simp [sectN]
set_option maxRecDepth 4000 in
set_option maxHeartbeats 2000000 in
theorem parted_any (gen : Nat) (p : Option Addr) (cap : Nat) (xs : List Nat) (w : World) (hg : gen < 4611686018427387904) (hb : BIn w p xs) (hl : xs.length ≤ 952) :
    Calls Tryz.prog 64 #[.int .i64 gen, .slice p xs.length cap] w fun e w' => ∃ r, e = .returned r ∧ w'.ownsRow w.heap.size 5 1 r (sectsN gen (padN xs) 8).length (Bs (sectsN gen (padN xs) 8)) ∧ Below w.heap.size w w' := by
  obtain ⟨i0, hi, hz0, hz1, hz2⟩ := info_parts info5
  have hx := hb.2
  go_enter Tryz.func64, Tryz.ntmps64
  go_wp2_with (at_make; refine wpList_make_full _ rfl _ _ 32 rfl w.heap.size 5 i0 (.int .u8 0) 1 Tryz.underlying32 hi hz0 hz1 .i64 .i64 _ _ 952 rfl rfl rfl rfl (by rw [hz2]; decide) (by decide) (Nat.le_refl _) ?_)
  intro w1 hown hgrow
  have hrow := row_full' hown
  rw [zeros_made4] at hrow
  have hb1 : Below w.heap.size w w1 := (Below.refl _ _).grown hgrow (Nat.le_refl _) (fun k hk => by cases hk)
  have hbb := hb.below hb1
  have HR : Hid (w1.heap[w.heap.size]? = some (.cells (Bs (List.replicate 952 0)).toArray 5 (0, 0))) := hrow
  have HL : Hid ((Bs xs).length = Nat.min xs.length 952) := by show _ = _; rw [Bs_len]; exact (Nat.min_eq_left hl).symm
  have HF : Hid (0 + (Bs xs).length ≤ (Bs (List.replicate 952 0)).length) := by show _ ≤ _; rw [Bs_len, Bs_len, List.length_replicate]; omega
  have HP : Hid (0 < (Bs xs).length → some (⟨w.heap.size, 0, none⟩ : Addr) = some ⟨w.heap.size, 0, none⟩ ∧ ∃ ad, p = some ad ∧ ∀ j v, (Bs xs)[j]? = some v → w1.cell? (ad.add j) = some v) := by
    intro h
    rw [Bs_len] at h
    obtain ⟨b, o, rfl, _⟩ := hbb.1 h
    exact ⟨rfl, _, rfl, bin_cells hbb⟩
  clear hown hgrow hrow hb hbb
  go_wp2_with (refine wpList_copy_splice (o := ⟨some 11, _, _, _, _, _⟩) rfl (.tmp 9) (.tmp 10) 32 32 rfl 5 Tryz.underlying32 size5 (some ⟨w.heap.size, 0, none⟩) p 952 952 xs.length cap rfl rfl w.heap.size 0 (Bs (List.replicate 952 0)) 5 HR.out (Bs xs) HL.out HP.out HF.out (Bs_one xs) w.heap.size w hb1 (Nat.le_refl _) ?_)
  intro w2 hrow2 hb2
  have hr2 : w2.heap[w.heap.size]? = some (.cells (Bs (padN xs)).toArray 5 (0, 0)) := by rw [← pad_splice xs]; exact hrow2.out
  have hpl := pad_len hl
  have hpb := bin_row4 hr2 (pad_bytes hx)
  have hlt := lt_heap hr2
  clear hr2 hrow2 HR HL HF HP hb1
  generalize hys : padN xs = ys at *
  have HB : Hid (BIn w2 (some ⟨w.heap.size, 0, none⟩) ys) := hpb
  have HB2 : Hid (Below w.heap.size w w2) := hb2
  have hsz2 := hb2.size
  clear hpb hb2
  go_wp2
  go_loopw [6, 12] (fun m i wr => ∃ k : Nat, k ≤ 8 ∧ i = .int .i64 k ∧ St w2 [] wr m (sectsN gen ys k)) (fun _ i _ => 8 - (intOf i).toNat)
  case atStart => exact ⟨0, by omega, rfl, St.start (fun p hp => by simp at hp)⟩
  case round =>
    obtain ⟨k, hk, rfl, hst⟩ := hrel
    have HS : Hid _ := hst
    by_cases hkl : k < 8
    · have hlen : (sectsN gen ys k).length ≤ 2000 := by
        unfold sectsN
        have := flat_le (l := List.range k) (f := sectN gen ys) (c := 128) (fun i _ => by unfold sectN; simp [putN_len]; omega)
        simp at this ⊢
        omega
      have HSN : Hid _ := sects_snoc gen ys k
      have hwr : IntKind.u64.wrap (gen : Int) = (gen : Int) := by rw [IntKind.wrap_u64]; omega
      have hwk : IntKind.u8.wrap (k : Int) = (k : Int) := by rw [IntKind.wrap_u8]; omega
      clear hst
      go_wp2_with fail
      refine (put_in gen _ (by omega)).mono ?_
      rintro e w3 ⟨g3, rfl, hi3, hb3⟩
      have S3 := HS.out.call hb3
      have hs3 := S3.size
      have H3 : Hid _ := S3
      have HI3 : Hid _ := hi3
      clear S3 hi3 hb3 HS
      go_wp2_with (first
        | (at_builtin; refine wpList_append_bytes _ rfl _ _ rfl w2.heap.size _ _ (putN gen) (some ⟨g3, 0, none⟩) _ 8 rfl rfl rfl H3.out.own HI3.out (fun h => by cases h) (by simp [putN_len]; omega) hs3 ?_; intro v4 w4 ho4 hg4; have S4 := H3.out.app ho4 hg4; have hs4 := S4.size; have H4 : Hid _ := S4; clear S4 ho4 hg4 H3 HI3)
        | (at_builtin; refine wpList_append_bytes _ rfl _ _ rfl w2.heap.size _ _ [k] (some ⟨w4.heap.size, 0, none⟩) _ 1 rfl rfl rfl (H4.out.call (below_alloc w4 (.cells #[.int .u8 k] 5))).own (bin_lit w4 _ _ _ _ [k] rfl rfl (by simp; omega)) (fun h => by cases h) (by simp [putN_len]; omega) (by simp; omega) ?_; intro v5 w5 ho5 hg5; have S5 := (H4.out.call (below_alloc w4 (.cells #[.int .u8 k] 5))).app ho5 hg5; have hs5 := S5.size; have hbb := bin_part4 (HB.out.below S5.bel) (k * 119) 119 (by omega); rw [Nat.zero_add] at hbb; have HBB : Hid _ := hbb; have H5 : Hid _ := S5; clear hbb S5 ho5 hg5 H4)
        | (at_builtin; refine wpList_append_bytes _ rfl _ _ rfl w2.heap.size _ _ ((ys.drop (k * 119)).take 119) (some ⟨w.heap.size, k * 119, none⟩) _ (952 - k * 119) rfl rfl (by rw [List.length_take, List.length_drop]; omega) H5.out.own HBB.out (fun h => by cases h) (by simp only [List.length_append, List.length_take, List.length_drop, List.length_singleton, putN_len]; omega) hs5 ?_; intro v6 w6 ho6 hg6; have S6 := H5.out.app ho6 hg6; have H6 : Hid _ := S6; clear S6 ho6 hg6 H5 HBB)
        | fail)
      go_roundw
      case rel => exact ⟨k + 1, by omega, by go_num, H6.out.eq HSN.out.symm⟩
      case measure => simp [intOf]; omega
    · obtain rfl : k = 8 := by omega
      clear hst
      go_wp2
      go_ret
      exact ⟨_, rfl, by rw [hys]; exact own_mono HS.out.own hsz2, HB2.out.trans (HS.out.bel.mono hsz2)⟩
inductive Wrote (x : DirV) : Int → List Nat → Prop
  | many (h : 32 < x.files.length) : Wrote x 42 []
  | bad (h1 : x.files.length ≤ 32) (h2 : ¬ May ltS x) : Wrote x 8 []
  | long (h1 : May ltS x) (h2 : 952 < (insideN x.files).length) : Wrote x 42 []
  | ok (h1 : May ltS x) (h2 : (insideN x.files).length ≤ 952) : Wrote x 0 (bytesN x)
theorem insideN_bytes (l : List FileV) : ∀ c ∈ insideN l, c < 256 := by
  intro c hc
  unfold insideN at hc
  rcases List.mem_append.1 hc with h | h
  · exact smallN_bytes _ c h
  · obtain ⟨f, _, h⟩ := List.mem_flatMap.1 h
    unfold fileN at h
    simp only [List.mem_append] at h
    rcases h with ((h | h) | h) | h
    · exact textN_bytes _ c h
    · exact smallN_bytes _ c h
    · exact smallN_bytes _ c h
    · obtain ⟨p, _, h⟩ := List.mem_flatMap.1 h
      unfold pieceN at h
      rcases List.mem_append.1 h with h | h <;> exact smallN_bytes _ c h
def ErrV (v : Value) (e : Int) : Prop := (e = 0 ∧ v = .nilIface) ∨ (e ≠ 0 ∧ Faults v e)
theorem number_v (v : Value) (e : Int) (hv : ErrV v e) (w : World) (hg : ErrT w) : Calls Tryz.prog 32 #[v] w fun ev w' => ev = .returned (.int .i64 e) ∧ Below w.heap.size w w' := by
  rcases hv with ⟨rfl, rfl⟩ | ⟨_, h⟩
  · exact number_nil w
  · exact number_any v e h w hg
theorem heap_size_alloc (w : World) (o : Obj) : (w.alloc o).heap.size = w.heap.size + 1 := by simp
theorem vars2 {a b : Value} {s t : TypeId} (w w1 : World) (hb : Below ((w.alloc (.cells #[a] s)).alloc (.cells #[b] t)).heap.size ((w.alloc (.cells #[a] s)).alloc (.cells #[b] t)) w1) :
    w1.cell? ⟨w.heap.size, 0, none⟩ = some a ∧ w1.cell? ⟨w.heap.size + 1, 0, none⟩ = some b ∧ w1.frozen? ⟨w.heap.size, 0, none⟩ = false ∧ w1.frozen? ⟨w.heap.size + 1, 0, none⟩ = false := by
  refine ⟨?_, ?_, ?_, ?_⟩
  · rw [hb.cell (by simp; omega), World.cell?_alloc_lt _ _ _ (by simp)]; simp
  · rw [hb.cell (by simp)]; simp
  · rw [hb.frozen (by simp; omega), World.frozen?_alloc_old _ _ _ (by simp)]; simp
  · rw [hb.frozen (by simp)]; simp
end Go.Proofs.YtghcmllmbpoidaaGreatDoor
