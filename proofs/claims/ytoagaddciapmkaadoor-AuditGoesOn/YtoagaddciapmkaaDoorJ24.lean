/-
  What a record's bytes and digest are, whether it may be: the document's.
-/
import Derived.Test.YtoagaddciapmkaaDoorJ20
import Derived.Test.YtoagaddciapmkaaDoorJ22
import Derived.Test.YtoagaddciapmkaaDoorJ23
namespace Go.Proofs.YtoagaddciapmkaaDoor
open Go.RowKit Go.WideShapes Go.Maps

theorem rDigest_any (s : ByteArray) (w : World) (hs : s.size ≤ 1000000) : Calls Tryd.prog 53 #[.string s] w fun e w' => e = .returned (.bool (digB s)) ∧ Below w.heap.size w w' := by
  have U := runhex_any s w hs
  go_enter Tryd.func53, Tryd.ntmps53
  by_cases h : s.size = 64
  · have hI : (((s.size : Nat) : Int) == 64) = true := by rw [h]; rfl
    have HD : Hid (digB s = (unhexN (numsOf s)).isSome) := by show _ = _; unfold digB; rw [h]; rfl
    clear h hs
    go_wp2_with fail
    refine U.mono ?_
    intro e w1 hu
    cases hu with
    | ok r v h he ho hb =>
      subst he
      simp only []
      go_wp2
      go_ret
      rw [HD.out, h]
      exact ⟨rfl, hb⟩
    | no h he hb =>
      subst he
      simp only []
      go_wp2
      go_ret
      rw [HD.out, h]
      exact ⟨rfl, hb⟩
  · have hI : (((s.size : Nat) : Int) == 64) = false := by simpa using fun e : ((s.size : Nat) : Int) = 64 => h (by omega)
    have HD : digB s = false := by unfold digB; rw [decide_eq_false h]; rfl
    rw [HD]
    clear h hs
    go_wp2_with fail
    refine U.mono ?_
    intro e w1 hu
    cases hu with
    | ok r v h he ho hb =>
      subst he
      simp only []
      go_wp2
      go_ret
      exact ⟨rfl, hb⟩
    | no h he hb =>
      subst he
      simp only []
      go_wp2
      go_ret
      exact ⟨rfl, hb⟩
theorem may_no {r : RecV} (h : ¬ MayR r) : mayB r = false := by
  cases hb : mayB r with
  | false => rfl
  | true => exact absurd (may_iff.1 hb) h
set_option maxHeartbeats 2000000 in
set_option maxRecDepth 8000 in
theorem rMay_any (r : RecV) (w : World) (hs : r.hash.size ≤ 1000000) : Calls Tryd.prog 52 #[.agg (recA r)] w fun e w' => e = .returned (.bool (mayB r)) ∧ Below w.heap.size w w' := by
  obtain ⟨s, t, u, d, o, h⟩ := r
  have D := fun w' => rDigest_any h w' hs
  have BA : Below w.heap.size w (w.alloc (.cells (recA ⟨s, t, u, d, o, h⟩) 41)) := (Below.refl _ _).alloc (Nat.le_refl _) _
  have BH : Hid _ := BA
  clear BA
  have NO : Hid (¬ (0 ≤ s ∧ 0 ≤ t ∧ t ≤ 1099511627776 ∧ 100 ≤ o ∧ o ≤ 599 ∧ u.size ≤ 32 ∧ d.size ≤ 16384) → mayB ⟨s, t, u, d, o, h⟩ = false) := fun hn => may_no fun hm => hn ⟨hm.seq, hm.t0, hm.t1, hm.o0, hm.o1, hm.us, hm.de⟩
  have YES : Hid (0 ≤ s → 0 ≤ t → t ≤ 1099511627776 → 100 ≤ o → o ≤ 599 → u.size ≤ 32 → d.size ≤ 16384 → mayB ⟨s, t, u, d, o, h⟩ = digB h) := fun h1 h2 h3 h4 h5 h6 h7 => by
    unfold mayB
    simp only
    rw [decide_eq_true h1, fld_ok.2 ⟨h2, h3, h6, h7, h4, h5⟩]
    simp
  generalize mayB ⟨s, t, u, d, o, h⟩ = B at NO YES
  generalize digB h = G at D YES
  show Calls Tryd.prog 52 #[.agg #[.int .i64 s, .int .i64 t, .string u, .string d, .int .i64 o, .string h]] w _
  go_enter Tryd.func52, Tryd.ntmps52
  by_cases s0 : 0 ≤ s
  case neg =>
    have HB : Hid (B = false) := NO.out (by omega)
    go_wp2
    go_ret
    exact ⟨by rw [HB.out]; rfl, BH.out⟩
  by_cases t0 : 0 ≤ t
  case neg =>
    have HB : Hid (B = false) := NO.out (by omega)
    go_wp2
    go_ret
    exact ⟨by rw [HB.out]; rfl, BH.out⟩
  by_cases t1 : t ≤ 1099511627776
  case neg =>
    have HB : Hid (B = false) := NO.out (by omega)
    go_wp2
    go_ret
    exact ⟨by rw [HB.out]; rfl, BH.out⟩
  by_cases o0 : 100 ≤ o
  case neg =>
    have HB : Hid (B = false) := NO.out (by omega)
    go_wp2
    go_ret
    exact ⟨by rw [HB.out]; rfl, BH.out⟩
  by_cases o1 : o ≤ 599
  case neg =>
    have HB : Hid (B = false) := NO.out (by omega)
    go_wp2
    go_ret
    exact ⟨by rw [HB.out]; rfl, BH.out⟩
  by_cases u0 : (u.size : Int) ≤ 32
  case neg =>
    have HB : Hid (B = false) := NO.out (by omega)
    go_wp2
    go_ret
    exact ⟨by rw [HB.out]; rfl, BH.out⟩
  by_cases d0 : (d.size : Int) ≤ 16384
  case neg =>
    have HB : Hid (B = false) := NO.out (by omega)
    go_wp2
    go_ret
    exact ⟨by rw [HB.out]; rfl, BH.out⟩
  have HB : Hid (B = G) := YES.out s0 t0 t1 o0 o1 (by omega) (by omega)
  go_wp2_with (go_at_call 53; refine (D _).mono ?_; rintro e w1 ⟨rfl, hb1⟩)
  go_ret
  exact ⟨by rw [HB.out]; rfl, below_more BH.out hb1⟩
set_option maxHeartbeats 1000000 in
set_option maxRecDepth 8000 in
theorem rAsked_any (q : Option Addr) (n c : Nat) (l : List RecV) (w : World) (h : RsL w q n l) (hnb : (n : Int) ≤ 9223372036854775807) (hs : (4096 : Int) < (n : Int) ∨ ∀ r ∈ l, r.hash.size ≤ 1000000) :
    Calls Tryd.prog 55 #[.slice q n c] w fun e w' => e = .returned (.int .i64 (refE l : Nat)) ∧ Below w.heap.size w w' := by
  have HN : Hid (n = l.length) := h.n
  have HQ : Hid (RsIn w q l) := h.lies
  clear h
  go_enter Tryd.func55, Tryd.ntmps55
  by_cases hm : (4096 : Int) < (n : Int)
  · have HE : Hid (refE l = 4) := ref_many (by have := HN.out; omega)
    clear hs
    go_wp2
    go_ret
    exact ⟨by rw [HE.out]; rfl, Below.refl _ _⟩
  have HM : Hid (l.length ≤ 4096) := by show _ ≤ _; have := HN.out; omega
  have HS : Hid (∀ r ∈ l, r.hash.size ≤ 1000000) := hs.resolve_left hm
  clear hs
  go_wp2
  go_loopw [3] (fun t wr => ∃ k : Nat, k ≤ n ∧ t = .int .i64 (k : Int) ∧ (∀ j, j < k → mayB (l.getD j zeroR) = true) ∧ Below w.heap.size w wr) (fun t _ => n - (intOf t).toNat)
  case atStart => exact ⟨0, by omega, rfl, fun j hj => absurd hj (by omega), Below.refl _ _⟩
  case round =>
    obtain ⟨k, hk, rfl, hz, hbw⟩ := hrel
    have HZ : Hid (∀ j, j < k → mayB (l.getD j zeroR) = true) := hz
    have HB : Hid (Below w.heap.size w wr) := hbw
    clear hz
    by_cases hkl : k < n
    · have hkI : (k : Int) < (n : Int) := by omega
      have hkl2 : k < l.length := by have := HN.out; omega
      have hen := HQ.out.below hbw
      obtain ⟨fb, fo, rfl⟩ := hen.addr (by omega)
      obtain ⟨z0, z1, z2, z3, z4, z5⟩ := hen.at hkl2
      have M := fun w' => rMay_any (l.getD k zeroR) w' (HS.out _ (getR_mem hkl2))
      have HG : Hid (k < l.length) := hkl2
      have HNX : Hid (mayB (l.getD k zeroR) = true → ∀ j, j < k + 1 → mayB (l.getD j zeroR) = true) := fun h j hj => by
        rcases Nat.lt_or_ge j k with h' | h'
        · exact HZ.out j h'
        · obtain rfl : j = k := by omega
          exact h
      have HBD : Hid (mayB (l.getD k zeroR) = false → refE l = 8) := fun h => ref_bad HM.out HG.out h
      generalize l.getD k zeroR = r at z0 z1 z2 z3 z4 z5 M HNX HBD
      obtain ⟨s, t, u, d, o, hh⟩ := r
      simp only [recA] at z0 z1 z2 z3 z4 z5 M
      generalize mayB ⟨s, t, u, d, o, hh⟩ = B at M HNX HBD
      clear hen hkl hbw hkl2
      cases B with
      | false =>
        go_wp2_with (go_at_call 52; refine (M _).mono ?_; rintro e w1 ⟨rfl, hb1⟩)
        go_ret
        exact ⟨by rw [HBD.out (by trivial)]; rfl, below_more HB.out hb1⟩
      | true =>
        go_wp2_with (go_at_call 52; refine (M _).mono ?_; rintro e w1 ⟨rfl, hb1⟩)
        go_roundw
        case rel => exact ⟨k + 1, by omega, rfl, HNX.out (by trivial), below_more HB.out hb1⟩
        case measure => simp [intOf]; omega
    · obtain rfl : k = n := by omega
      have HE : Hid (refE l = 0) := ref_of HM.out (fun r hr => by
        obtain ⟨j, hj, rfl⟩ := List.getElem_of_mem hr
        have := HZ.out j (by have := HN.out; omega)
        rw [List.getD_eq_getElem?_getD, List.getElem?_eq_getElem hj] at this
        exact may_iff.1 this)
      go_wp2
      go_ret
      exact ⟨by rw [HE.out]; rfl, HB.out⟩
theorem rtx_any (s : ByteArray) (w : World) (hs : s.size ≤ 100000) : Calls Tryd.prog 73 #[.string s] w fun e w' => RetB w (txN s) e w' := by
  refine (Bt.refText_any s w hs).mono ?_
  rintro e w' ⟨v, rfl, ho, hb⟩
  exact ret_own rfl ho (txN_byte s) hb
theorem rpt_any (n : Nat) (w : World) (hn : n < 18446744073709551616) : Calls Tryd.prog 74 #[.int .u64 (n : Int)] w fun e w' => RetB w (putN n) e w' := by
  refine (Bt.refPut_any n w hn).mono ?_
  rintro e w' ⟨v, rfl, ho, hb⟩
  exact ret_own (putN_len n).symm ho (putN_bytes n hn) hb
set_option maxHeartbeats 4000000 in
set_option maxRecDepth 8000 in
theorem rbytes_any (S Tm O : Nat) (u d h b : ByteArray) (w : World) (hS : (S : Int) ≤ 9223372036854775807) (hT : (Tm : Int) ≤ 1099511627776) (hO : (O : Int) ≤ 599) (hu : u.size ≤ 32) (hd : d.size ≤ 16384) (hb : b.size ≤ 64) :
    Calls Tryd.prog 54 #[.agg #[.int .i64 (S : Int), .int .i64 (Tm : Int), .string u, .string d, .int .i64 (O : Int), .string h], .string b] w fun e w' => RetB w (recN S Tm O u d b) e w' := by
  have T1 : ∀ w', Calls Tryd.prog 73 #[.string b] w' fun e w'' => RetB w' (txN b) e w'' := fun w' => rtx_any b w' (by omega)
  have T2 : ∀ w', Calls Tryd.prog 74 #[.int .u64 (S : Int)] w' fun e w'' => RetB w' (putN S) e w'' := fun w' => rpt_any S w' (by omega)
  have T3 : ∀ w', Calls Tryd.prog 74 #[.int .u64 (Tm : Int)] w' fun e w'' => RetB w' (putN Tm) e w'' := fun w' => rpt_any Tm w' (by omega)
  have T4 : ∀ w', Calls Tryd.prog 74 #[.int .u64 (O : Int)] w' fun e w'' => RetB w' (putN O) e w'' := fun w' => rpt_any O w' (by omega)
  have T5 : ∀ w', Calls Tryd.prog 73 #[.string u] w' fun e w'' => RetB w' (txN u) e w'' := fun w' => rtx_any u w' (by omega)
  have T6 : ∀ w', Calls Tryd.prog 73 #[.string d] w' fun e w'' => RetB w' (txN d) e w'' := fun w' => rtx_any d w' (by omega)
  have HLN : Hid ((txN b).length + (putN S).length + (putN Tm).length + (putN O).length + (txN u).length + (txN d).length ≤ 50000) := by
    have q1 := txN_len (s := b) (by omega)
    have q2 := txN_len (s := u) (by omega)
    have q3 := txN_len (s := d) (by omega)
    show _ ≤ _
    rw [putN_len, putN_len, putN_len]
    omega
  have HR : Hid (recN S Tm O u d b = [] ++ txN b ++ putN S ++ putN Tm ++ putN O ++ txN u ++ txN d) := by
    show recN S Tm O u d b = _
    unfold recN
    simp [List.append_assoc]
  have HBY : Hid (∀ x ∈ [] ++ txN b ++ putN S ++ putN Tm ++ putN O ++ txN u ++ txN d, x < 256) := by
    intro x hx
    simp only [List.mem_append, List.not_mem_nil, false_or] at hx
    rcases hx with ((((hx | hx) | hx) | hx) | hx) | hx
    · exact txN_byte _ x hx
    · exact putN_bytes _ (by omega) x hx
    · exact putN_bytes _ (by omega) x hx
    · exact putN_bytes _ (by omega) x hx
    · exact txN_byte _ x hx
    · exact txN_byte _ x hx
  generalize txN b = x1 at T1 HLN HR HBY
  generalize putN S = x2 at T2 HLN HR HBY
  generalize putN Tm = x3 at T3 HLN HR HBY
  generalize putN O = x4 at T4 HLN HR HBY
  generalize txN u = x5 at T5 HLN HR HBY
  generalize txN d = x6 at T6 HLN HR HBY
  have HW0 : Hid (Below w.heap.size w (w.alloc (.cells #[.int .i64 (S : Int), .int .i64 (Tm : Int), .string u, .string d, .int .i64 (O : Int), .string h] 41))) := (Below.refl _ _).alloc (Nat.le_refl _) _
  have cv : ∀ z : Nat, (z : Int) ≤ 9223372036854775807 → ∀ w', (convert 3 91 (.int .i64 (z : Int))).run Tryd.prog w' = .ok (.int .u64 (z : Int)) w' := fun z hz w' => by
    have e1 : (z : Int) % 18446744073709551616 = (z : Int) := by omega
    simp [convert, go_sem, run_underlying Tryd.underlying3, run_underlying Tryd.underlying91, IntKind.wrap, IntKind.bits, IntKind.signed, e1]
  have cv1 := cv S hS
  have cv2 := cv Tm (by omega)
  have cv3 := cv O (by omega)
  have HKS : Hid (∀ w', Below (w.alloc (.cells #[.int .i64 (S : Int), .int .i64 (Tm : Int), .string u, .string d, .int .i64 (O : Int), .string h] 41)).heap.size (w.alloc (.cells #[.int .i64 (S : Int), .int .i64 (Tm : Int), .string u, .string d, .int .i64 (O : Int), .string h] 41)) w' → w'.cell? ⟨w.heap.size, 0, none⟩ = some (.int .i64 (S : Int)) ∧ w'.cell? ⟨w.heap.size, 1, none⟩ = some (.int .i64 (Tm : Int)) ∧ w'.cell? ⟨w.heap.size, 2, none⟩ = some (.string u) ∧ w'.cell? ⟨w.heap.size, 3, none⟩ = some (.string d) ∧ w'.cell? ⟨w.heap.size, 4, none⟩ = some (.int .i64 (O : Int))) := fun w' hb' => by
    have hh := block_below (_root_.Go.heap_alloc_new w (.cells #[.int .i64 (S : Int), .int .i64 (Tm : Int), .string u, .string d, .int .i64 (O : Int), .string h] 41)) hb'
    exact ⟨Lib.cell_of_heap hh 0, Lib.cell_of_heap hh 1, Lib.cell_of_heap hh 2, Lib.cell_of_heap hh 3, Lib.cell_of_heap hh 4⟩
  clear cv
  go_enter Tryd.func54, Tryd.ntmps54
  go_upto_region 2 with fail
  change Code.wp _ _ _ _ (w.alloc (.cells #[.int .i64 (S : Int), .int .i64 (Tm : Int), .string u, .string d, .int .i64 (O : Int), .string h] 41))
  generalize w.alloc (.cells #[.int .i64 (S : Int), .int .i64 (Tm : Int), .string u, .string d, .int .i64 (O : Int), .string h] 41) = W at HKS HW0 ⊢
  have O0 : OnY W (.slice none 0 0) [] W := ⟨World.ownsRow_nil _ _ _ _, Below.refl _ _⟩
  obtain ⟨e0, e1, e2, e3, e4⟩ := HKS.out _ O0.bel
  go_wp2_with fail
  refine (T1 _).mono ?_
  rintro e w1 ⟨⟨p1, d1, rfl, i1, k1, z1⟩, hb1⟩
  have Oc1 : OnY W (.slice none 0 0) ([]) w1 := ⟨own_below O0.own hb1, below_more O0.bel hb1⟩
  clear e0 e1 e2 e3 e4 O0 hb1 T1
  simp only []
  go_wp2_with (at_builtin; refine wpList_append_bytesX _ rfl _ _ rfl W.heap.size (.slice none 0 0) ([]) x1 p1 x1.length d1 rfl rfl rfl Oc1.own i1 z1 (by have := HLN.out; simp only [List.length_nil]; omega) Oc1.bel.size ?_)
  intro v1 u1 ho hg _
  have O1 : OnY W v1 ([] ++ x1) u1 := Oc1.two ho hg
  clear ho hg Oc1 i1 k1 z1
  obtain ⟨e0, e1, e2, e3, e4⟩ := HKS.out _ O1.bel
  go_wp2_with fail
  refine (T2 _).mono ?_
  rintro e w2 ⟨⟨p2, d2, rfl, i2, k2, z2⟩, hb2⟩
  have Oc2 : OnY W v1 ([] ++ x1) w2 := ⟨own_below O1.own hb2, below_more O1.bel hb2⟩
  clear e0 e1 e2 e3 e4 O1 hb2 T2
  simp only []
  go_wp2_with (at_builtin; refine wpList_append_bytesX _ rfl _ _ rfl W.heap.size v1 ([] ++ x1) x2 p2 x2.length d2 rfl rfl rfl Oc2.own i2 z2 (by have := HLN.out; simp only [List.length_append, List.length_nil]; omega) Oc2.bel.size ?_)
  intro v2 u2 ho hg _
  have O2 : OnY W v2 ([] ++ x1 ++ x2) u2 := Oc2.two (by simpa using ho) hg
  clear ho hg Oc2 i2 k2 z2
  obtain ⟨e0, e1, e2, e3, e4⟩ := HKS.out _ O2.bel
  go_wp2_with fail
  refine (T3 _).mono ?_
  rintro e w3 ⟨⟨p3, d3, rfl, i3, k3, z3⟩, hb3⟩
  have Oc3 : OnY W v2 ([] ++ x1 ++ x2) w3 := ⟨own_below O2.own hb3, below_more O2.bel hb3⟩
  clear e0 e1 e2 e3 e4 O2 hb3 T3
  simp only []
  go_wp2_with (at_builtin; refine wpList_append_bytesX _ rfl _ _ rfl W.heap.size v2 ([] ++ x1 ++ x2) x3 p3 x3.length d3 rfl rfl rfl Oc3.own i3 z3 (by have := HLN.out; simp only [List.length_append, List.length_nil]; omega) Oc3.bel.size ?_)
  intro v3 u3 ho hg _
  have O3 : OnY W v3 ([] ++ x1 ++ x2 ++ x3) u3 := Oc3.two (by simpa using ho) hg
  clear ho hg Oc3 i3 k3 z3
  obtain ⟨e0, e1, e2, e3, e4⟩ := HKS.out _ O3.bel
  go_wp2_with fail
  refine (T4 _).mono ?_
  rintro e w4 ⟨⟨p4, d4, rfl, i4, k4, z4⟩, hb4⟩
  have Oc4 : OnY W v3 ([] ++ x1 ++ x2 ++ x3) w4 := ⟨own_below O3.own hb4, below_more O3.bel hb4⟩
  clear e0 e1 e2 e3 e4 O3 hb4 T4
  simp only []
  go_wp2_with (at_builtin; refine wpList_append_bytesX _ rfl _ _ rfl W.heap.size v3 ([] ++ x1 ++ x2 ++ x3) x4 p4 x4.length d4 rfl rfl rfl Oc4.own i4 z4 (by have := HLN.out; simp only [List.length_append, List.length_nil]; omega) Oc4.bel.size ?_)
  intro v4 u4 ho hg _
  have O4 : OnY W v4 ([] ++ x1 ++ x2 ++ x3 ++ x4) u4 := Oc4.two (by simpa using ho) hg
  clear ho hg Oc4 i4 k4 z4
  obtain ⟨e0, e1, e2, e3, e4⟩ := HKS.out _ O4.bel
  go_wp2_with fail
  refine (T5 _).mono ?_
  rintro e w5 ⟨⟨p5, d5, rfl, i5, k5, z5⟩, hb5⟩
  have Oc5 : OnY W v4 ([] ++ x1 ++ x2 ++ x3 ++ x4) w5 := ⟨own_below O4.own hb5, below_more O4.bel hb5⟩
  clear e0 e1 e2 e3 e4 O4 hb5 T5
  simp only []
  go_wp2_with (at_builtin; refine wpList_append_bytesX _ rfl _ _ rfl W.heap.size v4 ([] ++ x1 ++ x2 ++ x3 ++ x4) x5 p5 x5.length d5 rfl rfl rfl Oc5.own i5 z5 (by have := HLN.out; simp only [List.length_append, List.length_nil]; omega) Oc5.bel.size ?_)
  intro v5 u5 ho hg _
  have O5 : OnY W v5 ([] ++ x1 ++ x2 ++ x3 ++ x4 ++ x5) u5 := Oc5.two (by simpa using ho) hg
  clear ho hg Oc5 i5 k5 z5
  obtain ⟨e0, e1, e2, e3, e4⟩ := HKS.out _ O5.bel
  go_wp2_with fail
  refine (T6 _).mono ?_
  rintro e w6 ⟨⟨p6, d6, rfl, i6, k6, z6⟩, hb6⟩
  have Oc6 : OnY W v5 ([] ++ x1 ++ x2 ++ x3 ++ x4 ++ x5) w6 := ⟨own_below O5.own hb6, below_more O5.bel hb6⟩
  clear e0 e1 e2 e3 e4 O5 hb6 T6
  simp only []
  go_wp2_with (at_builtin; refine wpList_append_bytesX _ rfl _ _ rfl W.heap.size v5 ([] ++ x1 ++ x2 ++ x3 ++ x4 ++ x5) x6 p6 x6.length d6 rfl rfl rfl Oc6.own i6 z6 (by have := HLN.out; simp only [List.length_append, List.length_nil]; omega) Oc6.bel.size ?_)
  intro v6 u6 ho hg _
  have O6 : OnY W v6 ([] ++ x1 ++ x2 ++ x3 ++ x4 ++ x5 ++ x6) u6 := Oc6.two (by simpa using ho) hg
  clear ho hg Oc6 i6 k6 z6
  go_wp2
  go_ret
  rw [HR.out]
  have hr := ret_own (w := W) rfl O6.own HBY.out O6.bel
  exact ⟨hr.ret, below_more HW0.out hr.bel⟩
end Go.Proofs.YtoagaddciapmkaaDoor
