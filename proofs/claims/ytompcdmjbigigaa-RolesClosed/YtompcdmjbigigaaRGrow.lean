/-
  The law RolesGrow walked.
-/
import Derived.Test.YtompcdmjbigigaaRAlive
namespace Go.Proofs.Ytompcdmjbigigaa
open Go.RowKit Go.WideShapes Go.Joins Go.Maps

theorem clE_same {L : List Rl} {ns ms : List ByteArray} (h : ns.length ≤ 1024) (k : ms.length ≤ 1024) : clE L ns = clE L ms := by
  unfold clE
  rw [if_neg (by omega : ¬ 1024 < ns.length), if_neg (by omega : ¬ 1024 < ms.length)]
theorem mayE_same {L : List Rl} {ns ms : List ByteArray} (d : ByteArray) (h : ns.length ≤ 1024) (k : ms.length ≤ 1024) : mayE L ns d = mayE L ms d := by
  unfold mayE
  rw [clE_same h k]
theorem Mays.mono {L : List Rl} {ns ms : List ByteArray} {d : ByteArray} (hs : ∀ a ∈ ns, a ∈ ms) (h : Mays L ns d) : Mays L ms d := by
  obtain ⟨r, hr, hc, hd⟩ := h
  exact ⟨r, hr, hc.mono fun a ha hn => .here (hs a ha) hn, hd⟩
theorem any_take {f : Rl → Bool} {L : List Rl} {k : Nat} (hk : k < L.length) : (L.take (k + 1)).any f = ((L.take k).any f || f (L.getD k zR)) := by
  rw [take_snoc L zR hk, List.any_append]
  simp
set_option maxHeartbeats 8000000 in
set_option maxRecDepth 8000 in
theorem grow_walk (q : Option Addr) (c : Nat) (L : List Rl) (q2 : Option Addr) (c2 : Nat) (ns : List ByteArray) (q3 : Option Addr) (c3 : Nat) (ms : List ByteArray) (d : ByteArray) (w : World) (h : RolesIn w q L c) (hn : StrsIn w q2 ns c2) (hm : StrsIn w q3 ms c3) (hd : d.size ≤ maxLen) :
    Calls Try.prog 7 #[.slice q L.length c, .slice q2 ns.length c2, .slice q3 ms.length c3, .string d] w fun e w' => e = .returned (.bool true) ∧ Below w.heap.size w w' := by
  have AL := alive_any w
  have HH : Hid (RolesIn w q L c ∧ StrsIn w q2 ns c2 ∧ StrsIn w q3 ms c3 ∧ d.size ≤ maxLen) := ⟨h, hn, hm, hd⟩
  have hnI : (L.length : Int) ≤ 9223372036854775807 := by have := h.le; have := h.cap; unfold maxLen at this; omega
  have hmI : (ns.length : Int) ≤ 9223372036854775807 := by have := hn.le; have := hn.cap; unfold maxLen at this; omega
  have hkI : (ms.length : Int) ≤ 9223372036854775807 := by have := hm.le; have := hm.cap; unfold maxLen at this; omega
  obtain ⟨n, hN⟩ : ∃ n, L.length = n := ⟨_, rfl⟩
  obtain ⟨m, hM⟩ : ∃ m, ns.length = m := ⟨_, rfl⟩
  obtain ⟨k, hK⟩ : ∃ k, ms.length = k := ⟨_, rfl⟩
  rw [hN] at hnI ⊢
  rw [hM] at hmI ⊢
  rw [hK] at hkI ⊢
  have HN : Hid (L.length = n ∧ ns.length = m ∧ ms.length = k) := ⟨hN, hM, hK⟩
  clear h hn hm hd hN hM hK
  go_enter Try.func7, Try.ntmps7
  go_wp2_with fail
  refine AL.mono ?_
  rintro e w1 ⟨rfl, hb1⟩
  simp only []
  have G1 := great_any q c L q2 c2 ns w1 (HH.out.1.below hb1) (HH.out.2.1.below hb1)
  rw [HN.out.1, HN.out.2.1] at G1
  have HB1 : Hid (Below w.heap.size w w1) := hb1
  clear AL hb1
  go_wp2_with fail
  refine G1.mono ?_
  rintro e w2 ⟨g, rfl, hg, hb2⟩
  simp only []
  have HB2 : Hid (Below w.heap.size w w2) := below_more HB1.out hb2
  have HG : Hid (GrP L ns g) := hg
  clear G1 hb2
  cases hg with
  | yes =>
    go_wp2_with fail
    go_ret
    exact ⟨rfl, HB2.out⟩
  | no gl gn =>
    have G2 := great_any q c L q3 c3 ms w2 (HH.out.1.below HB2.out) (HH.out.2.2.1.below HB2.out)
    rw [HN.out.1, HN.out.2.2] at G2
    have HF : Hid (L.length ≤ 40 ∧ ns.length ≤ 1100) := ⟨gl, gn⟩
    clear gl gn
    go_wp2_with fail
    refine G2.mono ?_
    rintro e w3 ⟨g, rfl, hg, hb3⟩
    simp only []
    have HB3 : Hid (Below w.heap.size w w3) := below_more HB2.out hb3
    clear G2 hb3
    cases hg with
    | yes =>
      go_wp2_with fail
      go_ret
      exact ⟨rfl, HB3.out⟩
    | no _ gn =>
      have hmI : (m : Int) ≤ 1100 := by have := HF.out; have := HN.out; omega
      have hkI : (k : Int) ≤ 1100 := by have := HN.out; omega
      have hm0 : (0 : Int) ≤ (m : Int) := by omega
      have hk0 : (0 : Int) ≤ (k : Int) := by omega
      clear gn
      by_cases hs : 1024 < m + k
      · have sI : (1024 : Int) < (m : Int) + (k : Int) := by omega
        clear hs
        go_wp2_with fail
        go_ret
        exact ⟨rfl, HB3.out⟩
      · have sI : ¬ (1024 : Int) < (m : Int) + (k : Int) := by omega
        have HS : Hid (m + k ≤ 1024) := by show _ ≤ _; omega
        clear hs
        have N0 := OwnS.nil w3 w3.heap.size
        have i2 := HH.out.2.1.below HB3.out
        have e1 : ([] ++ ns : List ByteArray).length = m := HN.out.2.1
        have e2 : (ns ++ ms).length = m + k := by rw [List.length_append, HN.out.2.1, HN.out.2.2]
        go_wp2_with (first
          | (at_builtin; refine wpList_append_strs rfl _ _ rfl w3.heap.size _ [] q2 ns m c2 rfl N0 rfl i2 HN.out.2.1 (by have := HS.out; have := HN.out; simp; omega) (Nat.le_refl _) ?_; intro q4 c4 w4 ho4 hb4; rw [e1] at ho4 ⊢; have i3 := HH.out.2.2.1.below (below_more HB3.out hb4))
          | (at_builtin; refine wpList_append_strs rfl _ _ rfl w3.heap.size _ ns q3 ms k c3 rfl ho4 rfl i3 HN.out.2.2 (by have := HS.out; have := HN.out; omega) hb4.size ?_; intro q5 c5 w5 ho5 hb5; rw [e2] at ho5 ⊢)
          | fail)
        have hb5' : Below w3.heap.size w3 w5 := hb4.trans hb5
        have HB5 : Hid (Below w.heap.size w w5 ∧ OwnS w5 w3.heap.size (.slice q5 (m + k) c5) (ns ++ ms)) := ⟨below_more HB3.out hb5', ho5⟩
        have M1 := May_any q c L q2 c2 ns d w5 (HH.out.1.below HB5.out.1) (HH.out.2.1.below HB5.out.1) HH.out.2.2.2
        rw [HN.out.1, HN.out.2.1] at M1
        have HZ : Hid (mayE L ns d = mayE L (ns ++ ms) d ∧ (ns ++ ms).length = m + k) := ⟨mayE_same d (by have := HS.out; have := HN.out; omega) (by have := HS.out; rw [e2]; exact this), e2⟩
        clear N0 i2 e1 e2 ho4 hb4 i3 ho5 hb5 hb5'
        refine M1.mono ?_
        rintro e w6 ⟨v1, rfl, ha1, hb6⟩
        simp only []
        have H6 : Hid (Below w5.heap.size w5 w6 ∧ Below w.heap.size w w6 ∧ MayA L ns d v1) := ⟨hb6, below_more HB5.out.1 hb6, ha1⟩
        obtain ⟨q6, c6, e6, i6, -⟩ := (HB5.out.2.below hb6).read
        rw [HZ.out.2] at e6
        simp only [Value.slice.injEq, true_and] at e6
        obtain ⟨rfl, rfl⟩ := e6
        have M2 := May_any q c L q5 c5 (ns ++ ms) d w6 (HH.out.1.below H6.out.2.1) i6 HH.out.2.2.2
        rw [HN.out.1, HZ.out.2, ← HZ.out.1] at M2
        clear M1 ha1 hb6 i6
        generalize hE : mayE L ns d = E at M2
        have HE : Hid (mayE L ns d = E) := hE
        clear hE
        go_wp2_with fail
        refine M2.mono ?_
        rintro e w7 ⟨v2, rfl, ha2, hb7⟩
        simp only []
        have H7 : Hid (Below w.heap.size w w7 ∧ MayA L (ns ++ ms) d v2) := ⟨below_more H6.out.2.1 hb7, ha2⟩
        have CL := Closed_any q c L q2 c2 ns w7 (HH.out.1.below H7.out.1) (HH.out.2.1.below H7.out.1)
        rw [HN.out.1, HN.out.2.1] at CL
        clear M2 ha2 hb7
        generalize hG : clE L ns = G at CL
        have HGE : Hid (clE L ns = G) := hG
        clear hG
        go_wp2_with fail
        refine CL.mono ?_
        rintro e w8 ⟨v3, out, rfl, ho, hA, hb8⟩
        obtain ⟨q8, c8, rfl⟩ := ownsRow_slice ho.row
        simp only []
        have H8 : Hid (Below w.heap.size w w8 ∧ ClA L ns out ∧ OwnS w8 w7.heap.size (.slice q8 out.length c8) out) := ⟨below_more H7.out.1 hb8, hA, ho⟩
        clear CL ho hA hb8
        by_cases h0 : E = 0
        · subst h0
          have HC : Hid (clE L ns = 0 ∧ IsCl L ns out ∧ mayE L (ns ++ ms) d = 0) := ⟨(mayE_zero HE.out).1, H8.out.2.1.ok (mayE_zero HE.out).1, HZ.out.1.symm.trans HE.out⟩
          obtain rfl : G = 0 := HGE.out.symm.trans HC.out.1
          have HV : Hid (v1 = L.any (myB out d) ∧ (v1 = true → v2 = true)) := by
            have k1 := H6.out.2.2.ok HE.out
            have k2 := H7.out.2.ok HC.out.2.2
            have k3 := myB_iff HC.out.2.1.mem d
            refine ⟨?_, fun h => k2.2 ((k1.1 h).mono fun a ha => List.mem_append_left _ ha)⟩
            have k4 := k1.trans k3.symm
            cases v1 <;> cases hb : L.any (myB out d) <;> simp_all
          obtain ⟨q9, c9, e9, i9, -⟩ := H8.out.2.2.read
          simp only [Value.slice.injEq, true_and] at e9
          obtain ⟨rfl, rfl⟩ := e9
          have HI9 : Hid (StrsIn w8 q8 out c8) := i9
          have hnI : (n : Int) ≤ 40 := by have := HF.out; have := HN.out; omega
          clear i9
          go_wp2_with fail
          go_loopw [17, 18] (fun z t wr => ∃ j : Nat, j ≤ n ∧ t = .int .i64 (j : Int) ∧ z = .bool ((L.take j).any (myB out d)) ∧ wr = w8) (fun _ t _ => n - (intOf t).toNat)
          case atStart => exact ⟨0, Nat.zero_le _, rfl, rfl, rfl⟩
          case round =>
            obtain ⟨j, hj, rfl, rfl, rfl⟩ := hrel
            by_cases hlt : j < n
            · have hjI : (j : Int) < (n : Int) := by omega
              have hj0 : (0 : Int) ≤ (j : Int) := by omega
              have HJ : Hid (j < n ∧ j < L.length) := ⟨hlt, by have := HN.out; omega⟩
              have hen := HH.out.1.below H8.out.1
              obtain ⟨fb, fo, rfl⟩ := hen.addr (by have := HJ.out; omega)
              obtain ⟨hq, hc, mq, mc, hr⟩ := hen.at (i := j) HJ.out.2
              obtain ⟨z0, z1, z2, _, hmm, _⟩ := hr
              have A1 := among_any q8 c8 out (L.getD j zR).name wr HI9.out
              have A2 := among_any mq mc (L.getD j zR).may d wr hmm
              have HX : Hid ((L.take (j + 1)).any (myB out d) = ((L.take j).any (myB out d) || (isIn out (L.getD j zR).name && isIn (L.getD j zR).may d))) := any_take HJ.out.2
              generalize (L.take j).any (myB out d) = B at HX ⊢
              generalize isIn out (L.getD j zR).name = b1 at A1 HX
              generalize isIn (L.getD j zR).may d = b2 at A2 HX
              generalize (L.getD j zR).may.length = ml at z2 A2
              generalize (L.getD j zR).name = s at z0 A1
              clear hj hlt hen z1 hmm
              cases B with
              | true =>
                clear A1 A2 z0 z2
                go_wp2_with fail
                go_roundw
                case rel => exact ⟨j + 1, HJ.out.1, by go_num, by rw [HX.out]; rfl, trivial⟩
                case measure => have := HJ.out; simp [intOf]; omega
              | false =>
                cases b1 with
                | false =>
                  clear A2 z2
                  go_wp2_with fail
                  refine A1.mono ?_
                  rintro e w9 ⟨rfl, rfl⟩
                  simp only []
                  go_wp2_with fail
                  go_roundw
                  case rel => exact ⟨j + 1, HJ.out.1, by go_num, by rw [HX.out]; rfl, trivial⟩
                  case measure => have := HJ.out; simp [intOf]; omega
                | true =>
                  go_wp2_with fail
                  refine A1.mono ?_
                  rintro e w9 ⟨rfl, rfl⟩
                  simp only []
                  clear A1
                  go_wp2_with fail
                  refine A2.mono ?_
                  rintro e w10 ⟨rfl, rfl⟩
                  simp only []
                  clear A2
                  go_wp2_with fail
                  go_roundw
                  case rel => exact ⟨j + 1, HJ.out.1, by go_num, by rw [HX.out]; rfl, trivial⟩
                  case measure => have := HJ.out; simp [intOf]; omega
            · obtain rfl : j = n := by omega
              have hv : v1 = (L.take j).any (myB out d) := by rw [HV.out.1, ← HN.out.1, List.take_length]
              rw [← hv]
              have HW : Hid (v1 = true → v2 = true) := HV.out.2
              clear hj hlt hv
              cases v1 with
              | false =>
                go_wp2_with fail
                go_ret
                exact ⟨rfl, H8.out.1⟩
              | true =>
                obtain rfl : v2 = true := HW.out rfl
                go_wp2_with fail
                go_ret
                exact ⟨rfl, H8.out.1⟩
        · have e0 : ((E : Int) == 0) = false := by simpa using fun e : (E : Int) = 0 => h0 (by omega)
          have e1 : ((E : Int) == (E : Int)) = true := by simp
          obtain rfl : v1 = false := H6.out.2.2.bad (by rw [HE.out]; exact h0)
          obtain rfl : v2 = false := H7.out.2.bad (by rw [← HZ.out.1, HE.out]; exact h0)
          clear h0
          go_wp2_with fail
          go_ret
          exact ⟨rfl, H8.out.1⟩
end Go.Proofs.Ytompcdmjbigigaa
