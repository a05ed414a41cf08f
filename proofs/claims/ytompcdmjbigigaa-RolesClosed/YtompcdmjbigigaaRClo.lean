/-
  The law RolesClosed walked: the stage's theorem.
-/
import Derived.Test.YtompcdmjbigigaaRGrow
namespace Go.Proofs.Ytompcdmjbigigaa
open Go.RowKit Go.WideShapes Go.Joins Go.Maps

theorem IsCl.again {L : List Rl} {ns a b : List ByteArray} (h : IsCl L ns a) (k : IsCl L a b) : b = a := by
  refine k.one ⟨h.rise, fun x => ⟨fun hx => .here hx ((h.mem x).1 hx).mem, fun hx => ?_⟩⟩
  exact (h.mem x).2 (hx.mono fun y hy _ => (h.mem y).1 hy)
theorem IsCl.sub {L : List Rl} {ns ms a b : List ByteArray} (h : IsCl L ns a) (k : IsCl L ms b) (hs : ∀ x ∈ ns, x ∈ ms) : ∀ x ∈ a, x ∈ b :=
  fun x hx => (k.mem x).2 (((h.mem x).1 hx).mono fun y hy hn => .here (hs y hy) hn)
theorem IsCl.named {L : List Rl} {ns a : List ByteArray} (h : IsCl L ns a) {i : Nat} (hi : i < L.length) (hn : isIn ns (nmA L i) = true) : isIn a (nmA L i) = true :=
  isIn_iff.2 ((h.mem _).2 (.here (isIn_iff.1 hn) (nmA_mem hi)))
def hldB (a : List ByteArray) (s : ByteArray) (r : Rl) : Bool := isIn a r.name && isIn r.holds s
theorem IsCl.held {L : List Rl} {ns a : List ByteArray} (h : IsCl L ns a) {s : ByteArray} (hs : isIn a s = true) : (isIn ns s || L.any (hldB a s)) = true := by
  rcases ((h.mem s).1 (isIn_iff.1 hs)).back with h1 | ⟨r, hr, hc, hb⟩
  · rw [isIn_iff.2 h1]; rfl
  · rw [Bool.or_eq_true]
    refine .inr (List.any_eq_true.2 ⟨r, hr, ?_⟩)
    unfold hldB
    rw [isIn_iff.2 ((h.mem _).2 hc), isIn_iff.2 hb]; rfl
theorem rise_at {l : List ByteArray} (h : Rise l) {i : Nat} (hi : i + 1 < l.length) : ltA (l.getD i ByteArray.empty) (l.getD (i + 1) ByteArray.empty) := by
  have := List.pairwise_iff_getElem.1 h i (i + 1) (by omega) hi (by omega)
  rw [List.getD_eq_getElem?_getD, List.getElem?_eq_getElem (by omega), List.getD_eq_getElem?_getD, List.getElem?_eq_getElem hi]
  exact this
theorem strs_drew {w : World} {q : Option Addr} {l : List ByteArray} {c : Nat} (h : StrsIn w q l c) (n : Nat) : StrsIn (w.drewN n) q l c := h.below (below_dN (Below.refl _ _) n)
theorem among_drew {q : Option Addr} {c : Nat} {l : List ByteArray} {w : World} (h : StrsIn w q l c) (s : ByteArray) (n : Nat) :
    Calls Try.prog 21 #[.slice q l.length c, .string s] (w.drewN n) fun e w'' => e = .returned (.bool (isIn l s)) ∧ ∃ m, w'' = w.drewN m :=
  Calls.quiet_of_same (among_any q c l s (w.drewN n) (strs_drew h n))
set_option maxHeartbeats 4000000 in
set_option maxRecDepth 8000 in
theorem clo_walk (q : Option Addr) (c : Nat) (L : List Rl) (q2 : Option Addr) (c2 : Nat) (ns : List ByteArray) (q3 : Option Addr) (c3 : Nat) (ms : List ByteArray) (w : World) (h : RolesIn w q L c) (hn : StrsIn w q2 ns c2) (hm : StrsIn w q3 ms c3) :
    Calls Try.prog 6 #[.slice q L.length c, .slice q2 ns.length c2, .slice q3 ms.length c3] w fun e w' => e = .returned (.bool true) ∧ Below w.heap.size w w' := by
  have AL := alive_any w
  have HH : Hid (RolesIn w q L c ∧ StrsIn w q2 ns c2 ∧ StrsIn w q3 ms c3) := ⟨h, hn, hm⟩
  have hnI : (L.length : Int) ≤ 9223372036854775807 := by have := h.le; have := h.cap; unfold maxLen at this; omega
  have hmI : (ns.length : Int) ≤ 9223372036854775807 := by have := hn.le; have := hn.cap; unfold maxLen at this; omega
  have hkI : (ms.length : Int) ≤ 9223372036854775807 := by have := hm.le; have := hm.cap; unfold maxLen at this; omega
  obtain ⟨n, hN⟩ : ∃ n, L.length = n := ⟨_, rfl⟩
  obtain ⟨m, hM⟩ : ∃ m, ns.length = m := ⟨_, rfl⟩
  obtain ⟨k, hK⟩ : ∃ k, ms.length = k := ⟨_, rfl⟩
  rw [hN] at hnI ⊢
  rw [hM] at hmI ⊢
  rw [hK] at hkI ⊢
  have HN : Hid (L.length = n ∧ ns.length = m ∧ ms.length = k) := ⟨hN, hM, hK⟩
  clear h hn hm hN hM hK
  go_enter Try.func6, Try.ntmps6
  go_wp2_with fail
  refine AL.mono ?_
  rintro e w1 ⟨rfl, hb1⟩
  simp only []
  have G1 := great_any q c L q2 c2 ns w1 (HH.out.1.below hb1) (HH.out.2.1.below hb1)
  rw [HN.out.1, HN.out.2.1] at G1
  have HB1 : Hid (Below w.heap.size w w1) := hb1
  clear AL hb1
  go_wp2_with fail
  refine G1.mono ?_
  rintro e w2 ⟨g, rfl, hg, hb2⟩
  simp only []
  have HB2 : Hid (Below w.heap.size w w2) := below_more HB1.out hb2
  have HG : Hid (GrP L ns g) := hg
  clear G1 hb2
  cases hg with
  | yes =>
    go_wp2_with fail
    go_ret
    exact ⟨rfl, HB2.out⟩
  | no gl gn =>
    have G2 := great_any q c L q3 c3 ms w2 (HH.out.1.below HB2.out) (HH.out.2.2.below HB2.out)
    rw [HN.out.1, HN.out.2.2] at G2
    have HF : Hid (L.length ≤ 40 ∧ ns.length ≤ 1100) := ⟨gl, gn⟩
    clear gl gn
    go_wp2_with fail
    refine G2.mono ?_
    rintro e w3 ⟨g, rfl, hg, hb3⟩
    simp only []
    have HB3 : Hid (Below w.heap.size w w3) := below_more HB2.out hb3
    clear G2 hb3
    cases hg with
    | yes =>
      go_wp2_with fail
      go_ret
      exact ⟨rfl, HB3.out⟩
    | no _ gn =>
      have hmI : (m : Int) ≤ 1100 := by have := HF.out; have := HN.out; omega
      have hkI : (k : Int) ≤ 1100 := by have := HN.out; omega
      have hm0 : (0 : Int) ≤ (m : Int) := by omega
      have hk0 : (0 : Int) ≤ (k : Int) := by omega
      clear gn
      by_cases hs : 1024 < m + k
      · have sI : (1024 : Int) < (m : Int) + (k : Int) := by omega
        clear hs
        go_wp2_with fail
        go_ret
        exact ⟨rfl, HB3.out⟩
      · have sI : ¬ (1024 : Int) < (m : Int) + (k : Int) := by omega
        have HS : Hid (m + k ≤ 1024) := by show _ ≤ _; omega
        clear hs
        have N0 := OwnS.nil w3 w3.heap.size
        have i2 := HH.out.2.1.below HB3.out
        have e1 : ([] ++ ns : List ByteArray).length = m := HN.out.2.1
        have e2 : (ns ++ ms).length = m + k := by rw [List.length_append, HN.out.2.1, HN.out.2.2]
        go_wp2_with (first
          | (at_builtin; refine wpList_append_strs rfl _ _ rfl w3.heap.size _ [] q2 ns m c2 rfl N0 rfl i2 HN.out.2.1 (by have := HS.out; have := HN.out; simp; omega) (Nat.le_refl _) ?_; intro q4 c4 w4 ho4 hb4; rw [e1] at ho4 ⊢; have i3 := HH.out.2.2.below (below_more HB3.out hb4))
          | (at_builtin; refine wpList_append_strs rfl _ _ rfl w3.heap.size _ ns q3 ms k c3 rfl ho4 rfl i3 HN.out.2.2 (by have := HS.out; have := HN.out; omega) hb4.size ?_; intro q5 c5 w5 ho5 hb5; rw [e2] at ho5 ⊢)
          | fail)
        have hb5' : Below w3.heap.size w3 w5 := hb4.trans hb5
        have HB5 : Hid (Below w.heap.size w w5 ∧ OwnS w5 w3.heap.size (.slice q5 (m + k) c5) (ns ++ ms)) := ⟨below_more HB3.out hb5', ho5⟩
        have HZ : Hid (clE L ns = clE L (ns ++ ms) ∧ (ns ++ ms).length = m + k) := ⟨clE_same (by have := HS.out; have := HN.out; omega) (by have := HS.out; rw [e2]; exact this), e2⟩
        have C1 := Closed_any q c L q2 c2 ns w5 (HH.out.1.below HB5.out.1) (HH.out.2.1.below HB5.out.1)
        rw [HN.out.1, HN.out.2.1] at C1
        generalize hE : clE L ns = E at C1
        have HE : Hid (clE L ns = E) := hE
        clear N0 i2 e1 e2 ho4 hb4 i3 ho5 hb5 hb5' hE
        refine C1.mono ?_
        rintro e w6 ⟨va, a, rfl, hoa, hA, hb6⟩
        obtain ⟨qa, ca, rfl, ia, -⟩ := hoa.read
        simp only []
        have H6 : Hid (Below w.heap.size w w6 ∧ ClA L ns a ∧ StrsIn w6 qa a ca) := ⟨below_more HB5.out.1 hb6, hA, ia⟩
        obtain ⟨q6, c6, e6, i6, -⟩ := (HB5.out.2.below hb6).read
        rw [HZ.out.2] at e6
        simp only [Value.slice.injEq, true_and] at e6
        obtain ⟨rfl, rfl⟩ := e6
        have C2 := Closed_any q c L q5 c5 (ns ++ ms) w6 (HH.out.1.below H6.out.1) i6
        rw [HN.out.1, HZ.out.2, ← HZ.out.1, HE.out] at C2
        obtain ⟨al, hal⟩ : ∃ al, a.length = al := ⟨_, rfl⟩
        rw [hal]
        have HAL : Hid (a.length = al) := hal
        clear C1 hoa hA hb6 ia i6 hal
        go_wp2_with fail
        refine C2.mono ?_
        rintro e w7 ⟨vb, b, rfl, hob, hB, hb7⟩
        obtain ⟨qb, cb, rfl, ib, -⟩ := hob.read
        simp only []
        have H7 : Hid (Below w.heap.size w w7 ∧ StrsIn w7 qa a ca ∧ StrsIn w7 qb b cb ∧ ClA L (ns ++ ms) b) := ⟨below_more H6.out.1 hb7, H6.out.2.2.below hb7, ib, hB⟩
        obtain ⟨bl, hbl⟩ : ∃ bl, b.length = bl := ⟨_, rfl⟩
        rw [hbl]
        have HBL : Hid (b.length = bl) := hbl
        clear C2 hob hB hb7 ib hbl
        by_cases h0 : E = 0
        · subst h0
          have z00 : ((0 : Nat) : Int) = 0 := rfl
          rw [z00]
          have HC : Hid (IsCl L ns a ∧ IsCl L (ns ++ ms) b ∧ a.length ≤ 32) := ⟨H6.out.2.1.ok HE.out, H7.out.2.2.2.ok (HZ.out.1.symm.trans HE.out), H6.out.2.1.few⟩
          have hE3 : clE L a = 0 := clE_ok (clE_zero HE.out).1 (by have := HC.out.2.2; omega)
          have C3 := Closed_any q c L qa ca a w7 (HH.out.1.below H7.out.1) H7.out.2.1
          rw [HN.out.1, HAL.out, hE3, z00] at C3
          clear z00
          have HE3 : Hid (clE L a = 0) := hE3
          clear hE3
          go_wp2_with fail
          refine C3.mono ?_
          rintro e w8 ⟨vg, g, rfl, hog, hG, hb8⟩
          obtain rfl : g = a := HC.out.1.again (hG.ok HE3.out)
          obtain ⟨qg, cg, rfl, ig, -⟩ := hog.read
          simp only []
          have H8 : Hid (Below w.heap.size w w8 ∧ StrsIn w8 qa g ca ∧ StrsIn w8 qb b cb) := ⟨below_more H7.out.1 hb8, H7.out.2.1.below hb8, H7.out.2.2.1.below hb8⟩
          have TX := texts_any qg cg g qa ca g w8 ig H8.out.2.1
          rw [decide_eq_true rfl, HAL.out] at TX
          rw [HAL.out]
          clear C3 hog hG hb8 ig
          go_wp2_with fail
          refine TX.mono ?_
          rintro e w9 ⟨rfl, hb9⟩
          simp only []
          have H9 : Hid (Below w.heap.size w w9 ∧ StrsIn w9 qa g ca ∧ StrsIn w9 qb b cb) := ⟨below_more H8.out.1 hb9, H8.out.2.1.below hb9, H8.out.2.2.below hb9⟩
          have hnI : (n : Int) ≤ 40 := by have := HF.out; have := HN.out; omega
          have haI : (al : Int) ≤ 32 := by have := HC.out.2.2; have := HAL.out; omega
          clear TX hb9
          go_wp2_with fail
          go_loopw [15] (fun t wr => ∃ i : Nat, i ≤ al ∧ t = .int .i64 (i : Int) ∧ Below w9.heap.size w9 wr) (fun t _ => al - (intOf t).toNat)
          case atStart => exact ⟨0, Nat.zero_le _, rfl, Below.refl _ _⟩
          case round =>
            obtain ⟨i, hi, rfl, hb⟩ := hrel
            have HB : Hid (Below w9.heap.size w9 wr) := hb
            by_cases hlt : i < al
            · have hiI : (i : Int) < (al : Int) := by omega
              have HI : Hid (i < al ∧ i < g.length) := ⟨hlt, by have := HAL.out; omega⟩
              have ia := H9.out.2.1.below hb
              have ib := H9.out.2.2.below hb
              obtain ⟨fb, fo, rfl⟩ := ia.addr (by have := HI.out; omega)
              have z1 := ia.at (i := i) HI.out.2
              have hin : isIn b (g.getD i ByteArray.empty) = true := isIn_iff.2 (HC.out.1.sub HC.out.2.1 (fun x hx => List.mem_append_left _ hx) _ (getB_mem HI.out.2))
              have AM := fun nq => among_any qb cb b (g.getD i ByteArray.empty) (wr.drewN nq) (strs_drew ib nq)
              rw [hin, HBL.out] at AM
              rcases i with _ | i
              · have z1 : wr.cell? ⟨fb, fo, none⟩ = some (.string (g.getD 0 ByteArray.empty)) := z1
                generalize g.getD 0 ByteArray.empty = x at z1 AM
                have HAM : Hid _ := AM
                clear hi hlt hb ia ib hin AM
                go_wp2_with fail
                go_big_quiet ((go_at_call 21; exact Calls.quiet_of_same (HAM.out _)))
                go_wp2_with fail
                go_roundw
                case rel => exact ⟨1, by have := HI.out; omega, by go_num, below_dN HB.out _⟩
                case measure => have := HI.out; simp [intOf]; omega
              · have z0 := ia.at (i := i) (by have := HI.out; omega)
                have hl : Op.bytesLess (g.getD i ByteArray.empty).toList (g.getD (i + 1) ByteArray.empty).toList = true := by
                  rw [str_less]; exact decide_eq_true (rise_at HC.out.1.rise HI.out.2)
                have hi0 : (0 : Int) ≤ (i : Int) := by omega
                have hi1 : (0 : Int) < (i : Int) + 1 := by omega
                have hi2 : (i : Int) + 1 < (al : Int) := by omega
                have hi3 : (i : Int) < (al : Int) := by omega
                generalize g.getD (i + 1) ByteArray.empty = x at z1 AM hl
                generalize g.getD i ByteArray.empty = y at z0 hl
                have HAM : Hid _ := AM
                clear hi hlt hb ia ib hin AM
                go_wp2_with fail
                go_big_quiet ((go_at_call 21; exact Calls.quiet_of_same (HAM.out _)))
                go_wp2_with fail
                go_roundw
                case rel => exact ⟨i + 1 + 1, by have := HI.out; omega, by go_num, below_dN HB.out _⟩
                case measure => have := HI.out; simp [intOf]; omega
            · obtain rfl : i = al := by omega
              have H10 : Hid (Below w.heap.size w wr ∧ StrsIn wr qa g ca) := ⟨below_more H9.out.1 hb, H9.out.2.1.below hb⟩
              clear hi hlt hb
              go_wp2_with fail
              generalize wr = w10 at H10 ⊢
              go_loopw [16] (fun t wr => ∃ i : Nat, i ≤ n ∧ t = .int .i64 (i : Int) ∧ Below w10.heap.size w10 wr) (fun t _ => n - (intOf t).toNat)
              case atStart => exact ⟨0, Nat.zero_le _, rfl, Below.refl _ _⟩
              case round =>
                obtain ⟨j, hj, rfl, hb⟩ := hrel
                generalize wr = wo at hb ⊢
                have HB : Hid (Below w10.heap.size w10 wo ∧ Below w.heap.size w wo) := ⟨hb, below_more H10.out.1 hb⟩
                by_cases hlt : j < n
                · have hjI : (j : Int) < (n : Int) := by omega
                  have hj0 : (0 : Int) ≤ (j : Int) := by omega
                  have HJ : Hid (j < n ∧ j < L.length) := ⟨hlt, by have := HN.out; omega⟩
                  have hen := HH.out.1.below HB.out.2
                  obtain ⟨fb, fo, rfl⟩ := hen.addr (by have := HJ.out; omega)
                  obtain ⟨hq, hc, mq, mc, hr⟩ := hen.at (i := j) HJ.out.2
                  obtain ⟨z0, -, -, -, -, -⟩ := hr
                  have A1 := fun w' (hb' : Below wo.heap.size wo w') => among_any q2 c2 ns (nmA L j) w' (HH.out.2.1.below (below_more HB.out.2 hb'))
                  have A2 := fun w' (hb' : Below wo.heap.size wo w') => among_any qa ca g (nmA L j) w' ((H10.out.2.below HB.out.1).below hb')
                  have e0 : (L.getD j zR).name = nmA L j := rfl
                  have HX : Hid ((isIn ns (nmA L j) = true → isIn g (nmA L j) = true) ∧ (isIn g (nmA L j) = true → (isIn ns (nmA L j) || L.any (hldB g (nmA L j))) = true)) := ⟨fun h => HC.out.1.named HJ.out.2 h, fun h => HC.out.1.held h⟩
                  rw [e0] at z0
                  rw [HN.out.2.1] at A1
                  rw [HAL.out] at A2
                  have HZ0 : Hid (wo.cell? ⟨fb, fo + j * 3, none⟩ = some (.string (nmA L j))) := z0
                  generalize hs : nmA L j = s at z0 A1 A2
                  have HSN : Hid (nmA L j = s) := hs
                  generalize hb0 : isIn ns s = b0 at A1
                  generalize hb1 : isIn g s = b1 at A2
                  have HBB : Hid ((b0 = true → b1 = true) ∧ (b1 = true → (b0 || L.any (hldB g s)) = true)) := by
                    have h1 := HX.out
                    rw [HSN.out, hb0, hb1] at h1
                    exact h1
                  have HA1 : Hid _ := A1
                  have HA2 : Hid _ := A2
                  have P1 := HA1.out wo (Below.refl _ _)
                  have P2 := HA2.out wo (Below.refl _ _)
                  clear hj hlt hen hs hb0 hb1 A1 A2 hb e0
                  cases b0 with
                  | true =>
                    have hb1 : b1 = true := HBB.out.1 rfl
                    rw [hb1] at P2
                    clear hb1
                    go_wp2_with fail
                    refine P1.mono ?_
                    rintro e wo ⟨rfl, rfl⟩
                    simp only []
                    go_wp2_with fail
                    refine P2.mono ?_
                    rintro e wo ⟨rfl, rfl⟩
                    simp only []
                    clear P2
                    go_wp2_with fail
                    refine P1.mono ?_
                    rintro e wo ⟨rfl, rfl⟩
                    simp only []
                    clear P1
                    go_wp2_with fail
                    have hn0 := HN.out.1
                    go_loopw [17, 18] (fun z t wr => ∃ k : Nat, k ≤ n ∧ t = .int .i64 (k : Int) ∧ z = .bool (true) ∧ Below wo.heap.size wo wr) (fun _ t _ => n - (intOf t).toNat)
                    case atStart => exact ⟨0, Nat.zero_le _, rfl, rfl, Below.refl _ _⟩
                    case round =>
                      obtain ⟨k, hk, rfl, rfl, hb⟩ := hrel
                      have HBK : Hid (Below wo.heap.size wo wr ∧ Below w.heap.size w wr ∧ Below w10.heap.size w10 wr) := ⟨hb, below_more HB.out.2 hb, below_more HB.out.1 hb⟩
                      clear hn0
                      by_cases hlt : k < n
                      · have hkI : (k : Int) < (n : Int) := by omega
                        have hk0 : (0 : Int) ≤ (k : Int) := by omega
                        have HK : Hid (k < n ∧ k < L.length) := ⟨hlt, by have := HN.out; omega⟩
                        have hen := HH.out.1.below HBK.out.2.1
                        obtain ⟨hq, hc, mq, mc, hr⟩ := hen.at (i := k) HK.out.2
                        obtain ⟨y0, y1, -, hh, -, -⟩ := hr
                        have z0 := below_cell HZ0.out hb
                        rw [HSN.out] at z0
                        have M1 := fun nq => among_any qa ca g (L.getD k zR).name (wr.drewN nq) (strs_drew (H10.out.2.below HBK.out.2.2) nq)
                        have M2 := fun nq => among_any hq hc (L.getD k zR).holds s (wr.drewN nq) (strs_drew hh nq)
                        have HX2 : Hid ((L.take (k + 1)).any (hldB g s) = ((L.take k).any (hldB g s) || (isIn g (L.getD k zR).name && isIn (L.getD k zR).holds s))) := any_take HK.out.2
                        rw [HAL.out] at M1
                        generalize (L.take k).any (hldB g s) = B at HX2
                        generalize isIn g (L.getD k zR).name = c1 at M1 HX2
                        generalize isIn (L.getD k zR).holds s = c2 at M2 HX2
                        generalize (L.getD k zR).holds.length = hl at y1 M2
                        generalize (L.getD k zR).name = t at y0 M1
                        have HM1 : Hid _ := M1
                        have HM2 : Hid _ := M2
                        clear hk hlt hen hh M1 M2 hb
                        go_wp2_with fail
                        go_big_quiet (fail)
                        go_wp2_with fail
                        go_roundw
                        case rel => exact ⟨k + 1, HK.out.1, by go_num, rfl, below_dN HBK.out.1 _⟩
                        case measure => have := HK.out; simp [intOf]; omega
                      · obtain rfl : k = n := by omega
                        have HT : Hid ((L.take k).any (hldB g s) = L.any (hldB g s)) := by show _ = _; rw [← HN.out.1, List.take_length]
                        have P3 := HA2.out wr hb
                        have HQ : Hid (b1 = true → (true) = true) := fun h => rfl
                        have z0 := below_cell HZ0.out hb
                        rw [HSN.out] at z0
                        clear hk hlt hb
                        cases b1 with
                        | true =>
                          skip
                          go_wp2_with fail
                          refine P3.mono ?_
                          rintro e w11 ⟨rfl, rfl⟩
                          simp only []
                          clear P3
                          go_wp2_with fail
                          go_roundw
                          case rel => exact ⟨j + 1, HJ.out.1, by go_num, HBK.out.2.2⟩
                          case measure => have := HJ.out; simp [intOf]; omega
                        | false =>
                          go_wp2_with fail
                          refine P3.mono ?_
                          rintro e w11 ⟨rfl, rfl⟩
                          simp only []
                          clear P3
                          go_wp2_with fail
                          go_roundw
                          case rel => exact ⟨j + 1, HJ.out.1, by go_num, HBK.out.2.2⟩
                          case measure => have := HJ.out; simp [intOf]; omega
                  | false =>
                    go_wp2_with fail
                    refine P1.mono ?_
                    rintro e wo ⟨rfl, rfl⟩
                    simp only []
                    clear P2
                    go_wp2_with fail
                    refine P1.mono ?_
                    rintro e wo ⟨rfl, rfl⟩
                    simp only []
                    clear P1
                    go_wp2_with fail
                    have hn0 := HN.out.1
                    go_loopw [17, 18] (fun z t wr => ∃ k : Nat, k ≤ n ∧ t = .int .i64 (k : Int) ∧ z = .bool ((L.take k).any (hldB g s)) ∧ Below wo.heap.size wo wr) (fun _ t _ => n - (intOf t).toNat)
                    case atStart => exact ⟨0, Nat.zero_le _, rfl, rfl, Below.refl _ _⟩
                    case round =>
                      obtain ⟨k, hk, rfl, rfl, hb⟩ := hrel
                      have HBK : Hid (Below wo.heap.size wo wr ∧ Below w.heap.size w wr ∧ Below w10.heap.size w10 wr) := ⟨hb, below_more HB.out.2 hb, below_more HB.out.1 hb⟩
                      clear hn0
                      by_cases hlt : k < n
                      · have hkI : (k : Int) < (n : Int) := by omega
                        have hk0 : (0 : Int) ≤ (k : Int) := by omega
                        have HK : Hid (k < n ∧ k < L.length) := ⟨hlt, by have := HN.out; omega⟩
                        have hen := HH.out.1.below HBK.out.2.1
                        obtain ⟨hq, hc, mq, mc, hr⟩ := hen.at (i := k) HK.out.2
                        obtain ⟨y0, y1, -, hh, -, -⟩ := hr
                        have z0 := below_cell HZ0.out hb
                        rw [HSN.out] at z0
                        have M1 := fun nq => among_any qa ca g (L.getD k zR).name (wr.drewN nq) (strs_drew (H10.out.2.below HBK.out.2.2) nq)
                        have M2 := fun nq => among_any hq hc (L.getD k zR).holds s (wr.drewN nq) (strs_drew hh nq)
                        have HX2 : Hid ((L.take (k + 1)).any (hldB g s) = ((L.take k).any (hldB g s) || (isIn g (L.getD k zR).name && isIn (L.getD k zR).holds s))) := any_take HK.out.2
                        rw [HAL.out] at M1
                        generalize (L.take k).any (hldB g s) = B at HX2 ⊢
                        generalize isIn g (L.getD k zR).name = c1 at M1 HX2
                        generalize isIn (L.getD k zR).holds s = c2 at M2 HX2
                        generalize (L.getD k zR).holds.length = hl at y1 M2
                        generalize (L.getD k zR).name = t at y0 M1
                        have HM1 : Hid _ := M1
                        have HM2 : Hid _ := M2
                        clear hk hlt hen hh M1 M2 hb
                        cases B with
                        | true =>
                          go_wp2_with fail
                          go_big_quiet (fail)
                          go_wp2_with fail
                          go_roundw
                          case rel => exact ⟨k + 1, HK.out.1, by go_num, by rw [HX2.out]; rfl, below_dN HBK.out.1 _⟩
                          case measure => have := HK.out; simp [intOf]; omega
                        | false =>
                          cases c1 with
                          | false =>
                            go_wp2_with fail
                            go_big_quiet (first | (go_at_call_of 21 (Value.string t); exact Calls.quiet_of_same (HM1.out _)) | (go_at_call_of 21 (Value.string s); exact Calls.quiet_of_same (HM2.out _)))
                            go_wp2_with fail
                            go_roundw
                            case rel => exact ⟨k + 1, HK.out.1, by go_num, by rw [HX2.out]; rfl, below_dN HBK.out.1 _⟩
                            case measure => have := HK.out; simp [intOf]; omega
                          | true =>
                            go_wp2_with fail
                            go_big_quiet (first | (go_at_call_of 21 (Value.string t); exact Calls.quiet_of_same (HM1.out _)) | (go_at_call_of 21 (Value.string s); exact Calls.quiet_of_same (HM2.out _)))
                            go_wp2_with fail
                            go_roundw
                            case rel => exact ⟨k + 1, HK.out.1, by go_num, by rw [HX2.out]; rfl, below_dN HBK.out.1 _⟩
                            case measure => have := HK.out; simp [intOf]; omega
                      · obtain rfl : k = n := by omega
                        have HT : Hid ((L.take k).any (hldB g s) = L.any (hldB g s)) := by show _ = _; rw [← HN.out.1, List.take_length]
                        have P3 := HA2.out wr hb
                        have HQ : Hid (b1 = true → ((L.take k).any (hldB g s)) = true) := fun h => by rw [HT.out]; exact HBB.out.2 h
                        generalize (L.take k).any (hldB g s) = H at HQ ⊢
                        have z0 := below_cell HZ0.out hb
                        rw [HSN.out] at z0
                        clear hk hlt hb
                        cases b1 with
                        | true =>
                          obtain rfl : H = true := HQ.out rfl
                          go_wp2_with fail
                          refine P3.mono ?_
                          rintro e w11 ⟨rfl, rfl⟩
                          simp only []
                          clear P3
                          go_wp2_with fail
                          go_roundw
                          case rel => exact ⟨j + 1, HJ.out.1, by go_num, HBK.out.2.2⟩
                          case measure => have := HJ.out; simp [intOf]; omega
                        | false =>
                          go_wp2_with fail
                          refine P3.mono ?_
                          rintro e w11 ⟨rfl, rfl⟩
                          simp only []
                          clear P3
                          go_wp2_with fail
                          go_roundw
                          case rel => exact ⟨j + 1, HJ.out.1, by go_num, HBK.out.2.2⟩
                          case measure => have := HJ.out; simp [intOf]; omega
                · obtain rfl : j = n := by omega
                  clear hj hlt hb
                  go_wp2_with fail
                  go_ret
                  exact ⟨rfl, HB.out.2⟩
        · have e0 : ((E : Int) == 0) = false := by simpa using fun e : (E : Int) = 0 => h0 (by omega)
          have e1 : ((E : Int) == (E : Int)) = true := by simp
          have e2 : ((E : Int) != 0) = true := by simp only [bne, e0]; rfl
          have e3 : ¬ (E : Int) = 0 := by omega
          have e4 : ¬ E = 0 := h0
          obtain rfl : a = [] := H6.out.2.1.bad (by rw [HE.out]; exact h0)
          obtain rfl : b = [] := H7.out.2.2.2.bad (by rw [← HZ.out.1, HE.out]; exact h0)
          obtain rfl : al = 0 := HAL.out.symm
          obtain rfl : bl = 0 := HBL.out.symm
          clear h0
          go_wp2_with fail
          go_ret
          exact ⟨rfl, H7.out.1⟩
end Go.Proofs.Ytompcdmjbigigaa
