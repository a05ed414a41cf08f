/-
  The bytes of a record behind a digest: the program's (slices.Grow, slices.Concat of six rows of bytes).
-/
import Derived.Test.YtoagaddciapmkaaDoorARec
import Derived.Test.YtoagaddciapmkaaDoorText
import Derived.Test.YtoagaddciapmkaaDoorRef
import Derived.Lib.AppendZeros
import Derived.Deep.RegionHeld3
namespace Go.Proofs.YtoagaddciapmkaaDoor
open Go.RowKit Go.WideShapes

/-- What is answered is bytes in memory of the call's own, or none. -/
structure RetB (w : World) (xs : List Nat) (e : Ending) (w' : World) : Prop where
  ret : ∃ p c, e = .returned (.slice p xs.length c) ∧ BIn w' p xs ∧ xs.length ≤ c ∧ (p = none → c = 0)
  bel : Below w.heap.size w w'
theorem ret_own {w w' : World} {v : Value} {xs : List Nat} {n : Nat} (hn : n = xs.length) (h : w'.ownsRow w.heap.size 5 1 v n (Bs xs)) (hx : ∀ x ∈ xs, x < 256) (hb : Below w.heap.size w w') : RetB w xs (.returned v) w' := by
  subst hn
  obtain ⟨p5, c5, e5, hc5, hi5, _⟩ := owns_bin h hx
  subst e5
  refine ⟨⟨p5, c5, rfl, hi5, hc5, fun e => ?_⟩, hb⟩
  rcases h.2 with ⟨hv, _⟩ | ⟨g, cap, cur, hv, _⟩
  · simp only [Value.slice.injEq] at hv; omega
  · simp only [Value.slice.injEq] at hv; rw [e] at hv; exact absurd hv.1 (by simp)
theorem txN_byte (s : ByteArray) : ∀ x ∈ txN s, x < 256 := by
  intro x hx
  rcases List.mem_append.1 hx with h | h
  · exact smallN_bytes _ x h
  · exact numsOf_lt s x h
theorem txN_len {s : ByteArray} (h : s.size ≤ 100000) : 1 ≤ (txN s).length ∧ (txN s).length ≤ s.size + 10 := by
  unfold txN
  rw [List.length_append, numsOf_len]
  have h1 := smallN_pos s.size
  have h2 := smallN_ten s.size (by omega)
  omega
theorem putN_len (n : Nat) : (putN n).length = 8 := rfl
theorem tx_any (s : ByteArray) (w : World) (hs : s.size ≤ 100000) : Calls Tryd.prog 68 #[.string s] w fun e w' => RetB w (txN s) e w' := by
  refine (Bt.text_any s w hs).mono ?_
  rintro e w' ⟨v, rfl, ho, hb⟩
  exact ret_own rfl ho (txN_byte s) hb
theorem pt_any (n : Nat) (w : World) (hn : n < 18446744073709551616) : Calls Tryd.prog 69 #[.int .u64 (n : Int)] w fun e w' => RetB w (putN n) e w' := by
  refine (Bt.put_any n w hn).mono ?_
  rintro e w' ⟨w1, rfl, rfl, hb⟩
  exact ⟨⟨_, 8, rfl, Bt.bin_alloc w1 _ _ (putN_bytes n hn), by rw [putN_len]; decide, (fun h => by cases h)⟩, hb.alloc hb.size _⟩
theorem zeros_own (w : World) (n : Nat) (h1 : 1 ≤ n) (h2 : n ≤ 100000) : ∃ c v' w', (Builtin.append_ #[22, 3] 22 #[.slice none 0 0, .int .i64 (n : Int)]).run Tryd.prog w = .ok v' w' ∧ v' = .slice (some ⟨w.heap.size, 0, none⟩) n c ∧ n ≤ c ∧ c ≤ maxLen ∧ w'.ownsRow w.heap.size 5 1 (.slice (some ⟨w.heap.size, 0, none⟩) 0 c) 0 (Bs []) ∧ Below w.heap.size w w' := by
  obtain ⟨i0, hi, hz0, hz1, hz2⟩ := info_parts info5
  have hr := Lib.run_append_nil_zeros (P := Tryd.prog) w 22 3 22 5 i0 _ .i64 .i64 Tryd.underlying22 Tryd.underlying3 hi hz0 n (by omega) (by omega) (by omega) (by rw [hz2]; omega)
  have hge := grownCap_ge w n 0 5
  have hle := grownCap_le_maxLen w n 0 5 (by unfold maxLen; omega)
  refine ⟨grownCap w n 0 5, _, _, hr, rfl, hge, hle, ?_, ((Below.refl _ _).drew).alloc (by simp) _⟩
  refine ⟨rfl, .inr ⟨w.heap.size, grownCap w n 0 5, _, rfl, Nat.le_refl _, _root_.Go.heap_alloc_new w.drew _, Nat.zero_le _, hle, ?_, by simp [Bs]⟩⟩
  rw [Array.size_append, size_zeroCells, size_zeroCells]
  simp only [Value.cells]
  show n * 1 + (grownCap w n 0 5 - n) * 1 = _
  omega
set_option maxHeartbeats 1000000 in
set_option maxRecDepth 100000 in
theorem growB_any (n : Nat) (w : World) (h1 : 1 ≤ n) (h2 : n ≤ 100000) :
    Calls Tryd.prog 77 #[.slice none 0 0, .int .i64 (n : Int)] w fun e w' => ∃ c, e = .returned (.slice (some ⟨w.heap.size, 0, none⟩) 0 c) ∧ w'.ownsRow w.heap.size 5 1 (.slice (some ⟨w.heap.size, 0, none⟩) 0 c) 0 (Bs []) ∧ Below w.heap.size w w' := by
  obtain ⟨c, v', w', hr, hv, hn, hc, hon, hbl⟩ := zeros_own w n h1 h2
  have HON : Hid (w'.ownsRow w.heap.size 5 1 (.slice (some ⟨w.heap.size, 0, none⟩) 0 c) 0 (Bs [])) := hon
  have HBL : Hid (Below w.heap.size w w') := hbl
  have hnI : (1 : Int) ≤ (n : Int) := by omega
  have hnI2 : (n : Int) ≤ 100000 := by omega
  have hcI : (n : Int) ≤ (c : Int) := by omega
  subst hv
  clear hon hbl h1 h2 hn hc
  go_enter Tryd.func77, Tryd.ntmps77
  go_wp2_with (at_builtin; refine Lib.wpList_append_run _ rfl _ _ _ _ rfl _ _ rfl rfl _ _ hr ?_)
  go_ret
  exact ⟨c, rfl, HON.out, HBL.out⟩
/-- A row of bytes under way. -/
structure OnY (w : World) (v : Value) (xs : List Nat) (wr : World) : Prop where
  own : wr.ownsRow w.heap.size 5 1 v xs.length (Bs xs)
  bel : Below w.heap.size w wr
theorem OnY.two {w wr w' : World} {v v' : Value} {l l' : List Nat} (h : OnY w v l wr) (ho : w'.ownsRow w.heap.size 5 1 v' (l ++ l').length (Bs (l ++ l'))) (hg : wr.grownBy w' v.ownBlock) : OnY w v' (l ++ l') w' :=
  ⟨ho, h.bel.grown hg h.bel.size (fun k hk => (World.ownsRow.lt h.own k hk).1)⟩
/-- One slice of bytes that is put together with others. -/
structure Pc1 (w : World) (q : Option Addr) (n c : Nat) (l : List Nat) : Prop where
  n : n = l.length
  lies : BIn w q l
  z : q = none → c = 0
set_option maxHeartbeats 4000000 in
set_option maxRecDepth 8000 in
theorem concat6_any (g : Nat) (q1 q2 q3 q4 q5 q6 : Option Addr) (n1 n2 n3 n4 n5 n6 c1 c2 c3 c4 c5 c6 : Nat) (l1 l2 l3 l4 l5 l6 : List Nat) (w : World) (hg : w.heap[g]? = some (.cells #[.slice q1 n1 c1, .slice q2 n2 c2, .slice q3 n3 c3, .slice q4 n4 c4, .slice q5 n5 c5, .slice q6 n6 c6] 22 (0, 0))) (h1 : Pc1 w q1 n1 c1 l1) (h2 : Pc1 w q2 n2 c2 l2) (h3 : Pc1 w q3 n3 c3 l3) (h4 : Pc1 w q4 n4 c4 l4) (h5 : Pc1 w q5 n5 c5 l5) (h6 : Pc1 w q6 n6 c6 l6) (hs : 1 ≤ n1) (hm : n1 + n2 + n3 + n4 + n5 + n6 ≤ 50000) :
    Calls Tryd.prog 67 #[.slice (some ⟨g, 0, none⟩) 6 6] w fun e w' => RetB w (l1 ++ l2 ++ l3 ++ l4 ++ l5 ++ l6) e w' := by
  have g1 : w.cell? ⟨g, 0, none⟩ = some (.slice q1 n1 c1) := Lib.cell_of_heap hg 0
  have g2 : w.cell? ⟨g, 1, none⟩ = some (.slice q2 n2 c2) := Lib.cell_of_heap hg 1
  have g3 : w.cell? ⟨g, 2, none⟩ = some (.slice q3 n3 c3) := Lib.cell_of_heap hg 2
  have g4 : w.cell? ⟨g, 3, none⟩ = some (.slice q4 n4 c4) := Lib.cell_of_heap hg 3
  have g5 : w.cell? ⟨g, 4, none⟩ = some (.slice q5 n5 c5) := Lib.cell_of_heap hg 4
  have g6 : w.cell? ⟨g, 5, none⟩ = some (.slice q6 n6 c6) := Lib.cell_of_heap hg 5
  have HG : Hid _ := hg
  obtain ⟨N, hN⟩ : ∃ N : Nat, n1 + n2 + n3 + n4 + n5 + n6 = N := ⟨_, rfl⟩
  have HGR := growB_any N w (by omega) (by omega)
  have HL : Hid (n1 = l1.length ∧ n2 = l2.length ∧ n3 = l3.length ∧ n4 = l4.length ∧ n5 = l5.length ∧ n6 = l6.length ∧ n1 + n2 + n3 + n4 + n5 + n6 ≤ 50000) := ⟨h1.n, h2.n, h3.n, h4.n, h5.n, h6.n, hm⟩
  have HX : Hid (∀ x ∈ l1 ++ l2 ++ l3 ++ l4 ++ l5 ++ l6, x < 256) := by
    intro x hx
    simp only [List.mem_append] at hx
    rcases hx with ((((h | h) | h) | h) | h) | h
    · exact h1.lies.2 x h
    · exact h2.lies.2 x h
    · exact h3.lies.2 x h
    · exact h4.lies.2 x h
    · exact h5.lies.2 x h
    · exact h6.lies.2 x h
  have H1 : Hid (Pc1 w q1 n1 c1 l1) := h1
  have H2 : Hid (Pc1 w q2 n2 c2 l2) := h2
  have H3 : Hid (Pc1 w q3 n3 c3 l3) := h3
  have H4 : Hid (Pc1 w q4 n4 c4 l4) := h4
  have H5 : Hid (Pc1 w q5 n5 c5 l5) := h5
  have H6 : Hid (Pc1 w q6 n6 c6 l6) := h6
  have b1 : (n1 : Int) ≤ 50000 := by omega
  have b2 : (n1 : Int) + (n2 : Int) ≤ 50000 := by omega
  have b3 : (n1 : Int) + (n2 : Int) + (n3 : Int) ≤ 50000 := by omega
  have b4 : (n1 : Int) + (n2 : Int) + (n3 : Int) + (n4 : Int) ≤ 50000 := by omega
  have b5 : (n1 : Int) + (n2 : Int) + (n3 : Int) + (n4 : Int) + (n5 : Int) ≤ 50000 := by omega
  have b6 : (n1 : Int) + (n2 : Int) + (n3 : Int) + (n4 : Int) + (n5 : Int) + (n6 : Int) ≤ 50000 := by omega
  have hNI : (n1 : Int) + (n2 : Int) + (n3 : Int) + (n4 : Int) + (n5 : Int) + (n6 : Int) = (N : Int) := by omega
  rw [← hNI] at HGR
  clear hg h1 h2 h3 h4 h5 h6 hs hm hN hNI
  go_enter Tryd.func67, Tryd.ntmps67
  go_wp2
  refine wp_loop_rounds 7 ?_
  iterate 6 (rw [rounds_succ]; go_wp2)
  rw [rounds_succ]
  go_wp2_with fail
  refine HGR.mono ?_
  rintro e w2 ⟨c, rfl, hon, hbl⟩
  have HO0 : Hid (OnY w (.slice (some ⟨w.heap.size, 0, none⟩) 0 c) [] w2) := ⟨hon, hbl⟩
  have HC : Hid (∀ u, Below w.heap.size w u → u.cell? ⟨g, 0, none⟩ = some (.slice q1 n1 c1) ∧ u.cell? ⟨g, 1, none⟩ = some (.slice q2 n2 c2) ∧ u.cell? ⟨g, 2, none⟩ = some (.slice q3 n3 c3) ∧ u.cell? ⟨g, 3, none⟩ = some (.slice q4 n4 c4) ∧ u.cell? ⟨g, 4, none⟩ = some (.slice q5 n5 c5) ∧ u.cell? ⟨g, 5, none⟩ = some (.slice q6 n6 c6)) := fun u hb => ⟨Lib.cell_of_heap (block_below HG.out hb) 0, Lib.cell_of_heap (block_below HG.out hb) 1, Lib.cell_of_heap (block_below HG.out hb) 2, Lib.cell_of_heap (block_below HG.out hb) 3, Lib.cell_of_heap (block_below HG.out hb) 4, Lib.cell_of_heap (block_below HG.out hb) 5⟩
  clear g1 g2 g3 g4 g5 g6 hon hbl HGR
  obtain ⟨g1, g2, g3, g4, g5, g6⟩ := HC.out w2 HO0.out.bel
  go_wp2
  refine wp_loop_rounds 7 ?_
  rw [rounds_succ]
  go_wp2_with (at_builtin; go_loud (refine wpList_append_bytesX _ rfl _ _ rfl w.heap.size (.slice (some ⟨w.heap.size, 0, none⟩) 0 c) ([]) l1 q1 n1 c1 rfl rfl HL.out.1 HO0.out.own (H1.out.lies.below HO0.out.bel) H1.out.z (by have := HL.out; simp only [List.length_nil]; omega) HO0.out.bel.size ?_); intro v1 u1 ho hg _; have HO1 : Hid (OnY w v1 ([] ++ l1) u1) := HO0.out.two ho hg; obtain ⟨g1, g2, g3, g4, g5, g6⟩ := HC.out u1 HO1.out.bel; clear ho hg)
  rw [rounds_succ]
  go_wp2_with (at_builtin; go_loud (refine wpList_append_bytesX _ rfl _ _ rfl w.heap.size v1 ([] ++ l1) l2 q2 n2 c2 rfl rfl HL.out.2.1 HO1.out.own (H2.out.lies.below HO1.out.bel) H2.out.z (by have := HL.out; simp only [List.length_append, List.length_nil]; omega) HO1.out.bel.size ?_); intro v2 u2 ho hg _; have HO2 : Hid (OnY w v2 ([] ++ l1 ++ l2) u2) := HO1.out.two ho hg; obtain ⟨g1, g2, g3, g4, g5, g6⟩ := HC.out u2 HO2.out.bel; clear ho hg)
  rw [rounds_succ]
  go_wp2_with (at_builtin; go_loud (refine wpList_append_bytesX _ rfl _ _ rfl w.heap.size v2 ([] ++ l1 ++ l2) l3 q3 n3 c3 rfl rfl HL.out.2.2.1 HO2.out.own (H3.out.lies.below HO2.out.bel) H3.out.z (by have := HL.out; simp only [List.length_append, List.length_nil]; omega) HO2.out.bel.size ?_); intro v3 u3 ho hg _; have HO3 : Hid (OnY w v3 ([] ++ l1 ++ l2 ++ l3) u3) := HO2.out.two ho hg; obtain ⟨g1, g2, g3, g4, g5, g6⟩ := HC.out u3 HO3.out.bel; clear ho hg)
  rw [rounds_succ]
  go_wp2_with (at_builtin; go_loud (refine wpList_append_bytesX _ rfl _ _ rfl w.heap.size v3 ([] ++ l1 ++ l2 ++ l3) l4 q4 n4 c4 rfl rfl HL.out.2.2.2.1 HO3.out.own (H4.out.lies.below HO3.out.bel) H4.out.z (by have := HL.out; simp only [List.length_append, List.length_nil]; omega) HO3.out.bel.size ?_); intro v4 u4 ho hg _; have HO4 : Hid (OnY w v4 ([] ++ l1 ++ l2 ++ l3 ++ l4) u4) := HO3.out.two ho hg; obtain ⟨g1, g2, g3, g4, g5, g6⟩ := HC.out u4 HO4.out.bel; clear ho hg)
  rw [rounds_succ]
  go_wp2_with (at_builtin; go_loud (refine wpList_append_bytesX _ rfl _ _ rfl w.heap.size v4 ([] ++ l1 ++ l2 ++ l3 ++ l4) l5 q5 n5 c5 rfl rfl HL.out.2.2.2.2.1 HO4.out.own (H5.out.lies.below HO4.out.bel) H5.out.z (by have := HL.out; simp only [List.length_append, List.length_nil]; omega) HO4.out.bel.size ?_); intro v5 u5 ho hg _; have HO5 : Hid (OnY w v5 ([] ++ l1 ++ l2 ++ l3 ++ l4 ++ l5) u5) := HO4.out.two ho hg; obtain ⟨g1, g2, g3, g4, g5, g6⟩ := HC.out u5 HO5.out.bel; clear ho hg)
  rw [rounds_succ]
  go_wp2_with (at_builtin; go_loud (refine wpList_append_bytesX _ rfl _ _ rfl w.heap.size v5 ([] ++ l1 ++ l2 ++ l3 ++ l4 ++ l5) l6 q6 n6 c6 rfl rfl HL.out.2.2.2.2.2.1 HO5.out.own (H6.out.lies.below HO5.out.bel) H6.out.z (by have := HL.out; simp only [List.length_append, List.length_nil]; omega) HO5.out.bel.size ?_); intro v6 u6 ho hg _; have HO6 : Hid (OnY w v6 ([] ++ l1 ++ l2 ++ l3 ++ l4 ++ l5 ++ l6) u6) := HO5.out.two ho hg; clear ho hg)
  rw [rounds_succ]
  go_wp2
  go_ret
  have h := HO6.out
  rw [List.nil_append] at h
  exact ret_own rfl h.own HX.out h.bel
set_option maxHeartbeats 4000000 in
set_option maxRecDepth 8000 in
theorem abehind_any (S Tm O : Nat) (u d h b : ByteArray) (w : World) (hS : (S : Int) ≤ 9223372036854775807) (hT : (Tm : Int) ≤ 1099511627776) (hO : (O : Int) ≤ 599) (hu : u.size ≤ 32) (hd : d.size ≤ 16384) (hb : b.size ≤ 64) :
    Calls Tryd.prog 48 #[.agg #[.int .i64 (S : Int), .int .i64 (Tm : Int), .string u, .string d, .int .i64 (O : Int), .string h], .string b] w fun e w' => RetB w (recN S Tm O u d b) e w' := by
  have T1 : Hid (∀ w', Calls Tryd.prog 68 #[.string b] w' fun e w'' => RetB w' (txN b) e w'') := fun w' => tx_any b w' (by omega)
  have T2 : Hid (∀ w', Calls Tryd.prog 69 #[.int .u64 (S : Int)] w' fun e w'' => RetB w' (putN S) e w'') := fun w' => pt_any S w' (by omega)
  have T3 : Hid (∀ w', Calls Tryd.prog 69 #[.int .u64 (Tm : Int)] w' fun e w'' => RetB w' (putN Tm) e w'') := fun w' => pt_any Tm w' (by omega)
  have T4 : Hid (∀ w', Calls Tryd.prog 69 #[.int .u64 (O : Int)] w' fun e w'' => RetB w' (putN O) e w'') := fun w' => pt_any O w' (by omega)
  have T5 : Hid (∀ w', Calls Tryd.prog 68 #[.string u] w' fun e w'' => RetB w' (txN u) e w'') := fun w' => tx_any u w' (by omega)
  have T6 : Hid (∀ w', Calls Tryd.prog 68 #[.string d] w' fun e w'' => RetB w' (txN d) e w'') := fun w' => tx_any d w' (by omega)
  have HLN : Hid (1 ≤ (txN b).length ∧ (txN b).length + (putN S).length + (putN Tm).length + (putN O).length + (txN u).length + (txN d).length ≤ 50000) := by
    have q1 := txN_len (s := b) (by omega)
    have q2 := txN_len (s := u) (by omega)
    have q3 := txN_len (s := d) (by omega)
    refine ⟨q1.1, ?_⟩
    rw [putN_len, putN_len, putN_len]
    omega
  have HR : Hid (recN S Tm O u d b = txN b ++ putN S ++ putN Tm ++ putN O ++ txN u ++ txN d) := by
    show recN S Tm O u d b = _
    unfold recN
    simp [List.append_assoc]
  have HW0 : Hid (Below w.heap.size w (w.alloc (.cells #[.int .i64 (S : Int), .int .i64 (Tm : Int), .string u, .string d, .int .i64 (O : Int), .string h] 41))) := (Below.refl _ _).alloc (Nat.le_refl _) _
  have cv : ∀ z : Nat, (z : Int) ≤ 9223372036854775807 → ∀ w', (convert 3 91 (.int .i64 (z : Int))).run Tryd.prog w' = .ok (.int .u64 (z : Int)) w' := fun z hz w' => by
    have e1 : (z : Int) % 18446744073709551616 = (z : Int) := by omega
    simp [convert, go_sem, run_underlying Tryd.underlying3, run_underlying Tryd.underlying91, IntKind.wrap, IntKind.bits, IntKind.signed, e1]
  have cv1 := cv S hS
  have cv2 := cv Tm (by omega)
  have cv3 := cv O (by omega)
  have HKS : Hid (∀ w', Below (w.alloc (.cells #[.int .i64 (S : Int), .int .i64 (Tm : Int), .string u, .string d, .int .i64 (O : Int), .string h] 41)).heap.size (w.alloc (.cells #[.int .i64 (S : Int), .int .i64 (Tm : Int), .string u, .string d, .int .i64 (O : Int), .string h] 41)) w' → w'.cell? ⟨w.heap.size, 0, none⟩ = some (.int .i64 (S : Int)) ∧ w'.cell? ⟨w.heap.size, 1, none⟩ = some (.int .i64 (Tm : Int)) ∧ w'.cell? ⟨w.heap.size, 2, none⟩ = some (.string u) ∧ w'.cell? ⟨w.heap.size, 3, none⟩ = some (.string d) ∧ w'.cell? ⟨w.heap.size, 4, none⟩ = some (.int .i64 (O : Int))) := fun w' hb' => by
    have hn := _root_.Go.heap_alloc_new w (.cells #[.int .i64 (S : Int), .int .i64 (Tm : Int), .string u, .string d, .int .i64 (O : Int), .string h] 41)
    have hh := block_below hn hb'
    exact ⟨Lib.cell_of_heap hh 0, Lib.cell_of_heap hh 1, Lib.cell_of_heap hh 2, Lib.cell_of_heap hh 3, Lib.cell_of_heap hh 4⟩
  clear cv
  go_enter Tryd.func48, Tryd.ntmps48
  go_upto_region 1 with fail
  change Code.wp _ _ _ _ (w.alloc (.cells #[.int .i64 (S : Int), .int .i64 (Tm : Int), .string u, .string d, .int .i64 (O : Int), .string h] 41))
  generalize w.alloc (.cells #[.int .i64 (S : Int), .int .i64 (Tm : Int), .string u, .string d, .int .i64 (O : Int), .string h] 41) = W at HKS HW0 ⊢
  obtain ⟨e0, e1, e2, e3, e4⟩ := HKS.out W (Below.refl _ _)
  have A0 : Below W.heap.size W W.drew := (Below.refl _ _).drew
  go_region_held3 (fun w' => w'.cell? ⟨w.heap.size, 0, none⟩ = some (.int .i64 (S : Int)) ∧ w'.cell? ⟨w.heap.size, 1, none⟩ = some (.int .i64 (Tm : Int)) ∧ w'.cell? ⟨w.heap.size, 2, none⟩ = some (.string u) ∧ w'.cell? ⟨w.heap.size, 3, none⟩ = some (.string d) ∧ w'.cell? ⟨w.heap.size, 4, none⟩ = some (.int .i64 (O : Int)))
    (with_reducible first | exact HKS.out _ (Below.refl _ _) | exact HKS.out _ A0 | exact HKS.out _ A8 | exact HKS.out _ A7 | exact HKS.out _ (A6.alloc A6.size _) | exact HKS.out _ A6 | exact HKS.out _ A5 | exact HKS.out _ A4 | exact HKS.out _ A3 | exact HKS.out _ A2 | exact HKS.out _ A1 | assumption)
    (first
      | (go_at_call 67; refine (concat6_any _ _ _ _ _ _ _ _ _ _ _ _ _ _ _ _ _ _ _ _ _ _ _ _ _ _ (_root_.Go.heap_alloc_new _ _) ⟨rfl, (((((i1.below hb2).below hb3).below hb4).below hb5).below hb6).alloc _, z1⟩ ⟨rfl, ((((i2.below hb3).below hb4).below hb5).below hb6).alloc _, z2⟩ ⟨rfl, (((i3.below hb4).below hb5).below hb6).alloc _, z3⟩ ⟨rfl, ((i4.below hb5).below hb6).alloc _, z4⟩ ⟨rfl, (i5.below hb6).alloc _, z5⟩ ⟨rfl, i6.alloc _, z6⟩ HLN.out.1 HLN.out.2).mono ?_; rintro e w7 hr7; rw [← HR.out] at hr7; obtain ⟨⟨p7, d7, rfl, i7, k7, z7⟩, hb7⟩ := hr7; have A8 := below_more (A6.alloc A6.size _) hb7)
      | (go_at_call 68; refine (T6.out w5).mono ?_; rintro e w6 ⟨⟨p6, d6, rfl, i6, k6, z6⟩, hb6⟩; have A6 := below_more A5 hb6)
      | (go_at_call 68; refine (T5.out w4).mono ?_; rintro e w5 ⟨⟨p5, d5, rfl, i5, k5, z5⟩, hb5⟩; have A5 := below_more A4 hb5)
      | (go_at_call 69; refine (T4.out w3).mono ?_; rintro e w4 ⟨⟨p4, d4, rfl, i4, k4, z4⟩, hb4⟩; have A4 := below_more A3 hb4)
      | (go_at_call 69; refine (T3.out w2).mono ?_; rintro e w3 ⟨⟨p3, d3, rfl, i3, k3, z3⟩, hb3⟩; have A3 := below_more A2 hb3)
      | (go_at_call 69; refine (T2.out w1).mono ?_; rintro e w2 ⟨⟨p2, d2, rfl, i2, k2, z2⟩, hb2⟩; have A2 := below_more A1 hb2)
      | (go_at_call 68; refine (T1.out _).mono ?_; rintro e w1 ⟨⟨p1, d1, rfl, i1, k1, z1⟩, hb1⟩; have A1 := below_more A0 hb1)
      | fail)
  go_wp2
  go_ret
  exact ⟨⟨_, _, rfl, i7, k7, z7⟩, below_more HW0.out A8⟩
end Go.Proofs.YtoagaddciapmkaaDoor
