import Derived.Test.YtblnoekogdpolaaDoorJDPl
import Derived.Test.YtblnoekogdpolaaDoorJCkS
namespace Go.Proofs.YtblnoekogdpolaaDoor
open Go.RowKit Go.WideShapes Go.Joins
theorem ck_bad {k : Nat} {b : Bool} {n : Int} {t : ByteArray} {ns : List ByteArray} {vs : List JB} {d : Nat} (h : ¬ HasP k b n t ns.length vs.length) : chkB (.mk k b n t ns vs) d = 8 := by
  have e : aloneB k b n t ns vs.length d = 8 := by unfold aloneB; rw [if_pos h]
  simp only [chkB, e]; rfl
theorem ck_text {k : Nat} {b : Bool} {n : Int} {t : ByteArray} {ns : List ByteArray} {vs : List JB} {d : Nat} (h : HasP k b n t ns.length vs.length) (hk : k = 4) (ht : isTx t = false) : chkB (.mk k b n t ns vs) d = 3 := by
  have e : aloneB k b n t ns vs.length d = 3 := by unfold aloneB; rw [if_neg (fun q => q h), if_pos ⟨hk, ht⟩]
  simp only [chkB, e]; rfl
theorem ck_flat {k : Nat} {b : Bool} {n : Int} {t : ByteArray} {ns : List ByteArray} {vs : List JB} {d : Nat} (h : HasP k b n t ns.length vs.length) (h5 : k ≠ 5) (h6 : k ≠ 6) (ht : k = 4 → isTx t = true) : chkB (.mk k b n t ns vs) d = 0 := by
  have hl : ns.length = 0 ∧ vs.length = 0 := by unfold HasP at h; omega
  have hn := List.eq_nil_of_length_eq_zero hl.1
  have hv := List.eq_nil_of_length_eq_zero hl.2
  have e : aloneB k b n t ns vs.length d = 0 := by
    unfold aloneB
    rw [if_neg (fun q => q h), if_neg (fun q => by have := ht q.1; rw [q.2] at this; cases this), if_neg (by omega), if_neg (by omega), hn]
    rfl
  simp only [chkB, e]
  rw [hv]
  rfl
theorem ck_deep {k : Nat} {b : Bool} {n : Int} {t : ByteArray} {ns : List ByteArray} {vs : List JB} {d : Nat} (h : HasP k b n t ns.length vs.length) (hk : k = 5 ∨ k = 6) (hd : 32 < d) : chkB (.mk k b n t ns vs) d = 161 := by
  have e : aloneB k b n t ns vs.length d = 161 := by unfold aloneB; rw [if_neg (fun q => q h), if_neg (by omega), if_pos ⟨hk, hd⟩]
  simp only [chkB, e]; rfl
theorem ck_many {k : Nat} {b : Bool} {n : Int} {t : ByteArray} {ns : List ByteArray} {vs : List JB} {d : Nat} (h : HasP k b n t ns.length vs.length) (hk : k = 5 ∨ k = 6) (hd : ¬ 32 < d) (hm : 1024 < vs.length) : chkB (.mk k b n t ns vs) d = 4 := by
  have e : aloneB k b n t ns vs.length d = 4 := by unfold aloneB; rw [if_neg (fun q => q h), if_neg (by omega), if_neg (by omega), if_pos hm]
  simp only [chkB, e]; rfl
theorem ck_names {k : Nat} {b : Bool} {n : Int} {t : ByteArray} {ns : List ByteArray} {vs : List JB} {d : Nat} (h : HasP k b n t ns.length vs.length) (hk : k = 5 ∨ k = 6) (hd : ¬ 32 < d) (hm : ¬ 1024 < vs.length) :
    chkB (.mk k b n t ns vs) d = if nmsE [] ns = 0 then chksB vs (d + 1) else nmsE [] ns := by
  have e : aloneB k b n t ns vs.length d = nmsE [] ns := by unfold aloneB; rw [if_neg (fun q => q h), if_neg (by omega), if_neg (by omega), if_neg hm]
  simp only [chkB, e]
theorem nms_head {ns : List ByteArray} {i : Nat} (hi : i < ns.length) : ns.drop i = ns.getD i ByteArray.empty :: ns.drop (i + 1) := by
  rw [List.drop_eq_getElem_cons hi, List.getD_eq_getElem?_getD, List.getElem?_eq_getElem hi]
  rfl
theorem nms_bad {ns : List ByteArray} {i : Nat} (hi : i < ns.length) (h : isTx (ns.getD i ByteArray.empty) = false) : nmsE (ns.take i) (ns.drop i) = 3 := by
  rw [nms_head hi, nmsE, if_pos h]
theorem nms_dup {ns : List ByteArray} {i : Nat} (hi : i < ns.length) (h : isTx (ns.getD i ByteArray.empty) = true) (hm : ns.getD i ByteArray.empty ∈ ns.take i) : nmsE (ns.take i) (ns.drop i) = 8 := by
  rw [nms_head hi, nmsE, if_neg (by rw [h]; decide), if_pos (mem_nums.2 hm)]
theorem nms_next {ns : List ByteArray} {i : Nat} (hi : i < ns.length) (h : isTx (ns.getD i ByteArray.empty) = true) (hm : ns.getD i ByteArray.empty ∉ ns.take i) : nmsE (ns.take i) (ns.drop i) = nmsE (ns.take (i + 1)) (ns.drop (i + 1)) := by
  have ht : ns.take (i + 1) = ns.take i ++ [ns.getD i ByteArray.empty] := by
    rw [List.take_succ_eq_append_getElem hi, List.getD_eq_getElem?_getD, List.getElem?_eq_getElem hi]
    rfl
  rw [ht, nms_head hi, nmsE, if_neg (by rw [h]; decide), if_neg (fun q => hm (mem_nums.1 q))]
theorem in_take {ns : List ByteArray} {i j : Nat} (hj : j < i) (hi : i ≤ ns.length) : ns.getD j ByteArray.empty ∈ ns.take i := by
  rw [List.getD_eq_getElem?_getD, List.getElem?_eq_getElem (by omega), Option.getD_some]
  exact List.mem_take_iff_getElem.2 ⟨j, by omega, rfl⟩
theorem not_take {ns : List ByteArray} {s : ByteArray} {j : Nat} (hj : j < ns.length) (h : s ∉ ns.take j) (hs : ns.getD j ByteArray.empty ≠ s) : s ∉ ns.take (j + 1) := by
  rw [List.take_succ_eq_append_getElem hj]
  rw [List.getD_eq_getElem?_getD, List.getElem?_eq_getElem hj, Option.getD_some] at hs
  intro q
  rcases List.mem_append.1 q with q | q
  · exact h q
  · exact hs (List.mem_singleton.1 q).symm
inductive DCnI (ns : List ByteArray) (w : World) (t : Value) (wr : World) : Prop where
  | intro (k : Nat) (hk : k ≤ ns.length) (ht : t = .int .i64 (k : Int)) (he : nmsE (ns.take k) (ns.drop k) = nmsE [] ns) (hb : Below w.heap.size w wr)
inductive DCmI (ns : List ByteArray) (s : ByteArray) (n : Nat) (w : World) (t : Value) (wr : World) : Prop where
  | intro (k : Nat) (hk : k ≤ n) (ht : t = .int .i64 (k : Int)) (he : s ∉ ns.take k) (hb : Below w.heap.size w wr)
set_option maxHeartbeats 8000000 in
set_option maxRecDepth 8000 in
theorem dcheck_walk (k : Nat) (b : Bool) (n : Int) (t : ByteArray) (ns : List ByteArray) (vs : List JB) (nq iq : Option Addr) (nc ic : Nat) (F : Nat → Array Value) (Z : Nat → Prop) (d : Nat) (hd : d ≤ 40) (w : World)
    (hN : SsIn w Z nq ns) (hnl : ns.length ≤ maxLen) (hI : VsIn w Z iq F vs.length) (hvl : vs.length ≤ maxLen) (hR : ∀ i x, vs[i]? = some x → JIn w Z (F i) x)
    (hcall : aloneB k b n t ns vs.length d = 0 → ∀ i x, vs[i]? = some x → ∀ w', Below w.heap.size w w' → Calls Tryd.prog 23 #[.agg (F i), .int .i64 ((d + 1 : Nat) : Int)] w' fun e w'' => e = .returned (.int .i64 (chkB x (d + 1) : Int)) ∧ Below w'.heap.size w' w'') :
    Calls Tryd.prog 23 #[.agg (jA k b n t nq ns.length nc iq vs.length ic), .int .i64 (d : Int)] w fun e w' => e = .returned (.int .i64 (chkB (.mk k b n t ns vs) d : Int)) ∧ Below w.heap.size w w' := by
  have b1 := below_new w (.cells (jA k b n t nq ns.length nc iq vs.length ic) 25)
  have n1 := _root_.Go.heap_alloc_new w (.cells (jA k b n t nq ns.length nc iq vs.length ic) 25)
  obtain ⟨W1, hW1⟩ : ∃ x, w.alloc (.cells (jA k b n t nq ns.length nc iq vs.length ic) 25) = x := ⟨_, rfl⟩
  have HB : Hid (∀ w', Below W1.heap.size W1 w' → w'.heap[w.heap.size]? = some (.cells (jA k b n t nq ns.length nc iq vs.length ic) 25 (0, 0)) ∧ Below w.heap.size w w') := by
    rw [← hW1]
    exact fun w' hb => ⟨box_below n1 hb, below_more b1 hb⟩
  have PL := dplain_any k b n t nq iq ns.length nc vs.length ic W1
  have HS : Hid (SsIn w Z nq ns ∧ VsIn w Z iq F vs.length ∧ (∀ i x, vs[i]? = some x → JIn w Z (F i) x)) := ⟨hN, hI, hR⟩
  obtain ⟨CN, hC⟩ : ∃ x, chkB (.mk k b n t ns vs) d = x := ⟨_, rfl⟩
  have HC : Hid (chkB (.mk k b n t ns vs) d = CN) := hC
  have HCA : Hid (aloneB k b n t ns vs.length d = 0 → ∀ i x, vs[i]? = some x → ∀ w', Below w.heap.size w w' → Calls Tryd.prog 23 #[.agg (F i), .int .i64 ((d + 1 : Nat) : Int)] w' fun e w'' => e = .returned (.int .i64 (chkB x (d + 1) : Int)) ∧ Below w'.heap.size w' w'') := hcall
  have HP : Hid (HasP k b n t ns.length vs.length ↔ PlP k b n t ns.length vs.length ∧ (k = 3 → isNm t = true) ∧ (k = 6 → ns.length = vs.length)) := has_pl
  obtain ⟨N, hNN⟩ : ∃ n, ns.length = n := ⟨_, rfl⟩
  obtain ⟨M, hMM⟩ : ∃ n, vs.length = n := ⟨_, rfl⟩
  have HNM : Hid (ns.length = N ∧ vs.length = M ∧ N ≤ maxLen ∧ M ≤ maxLen) := ⟨hNN, hMM, by rw [← hNN]; exact hnl, by rw [← hMM]; exact hvl⟩
  obtain ⟨D, hD⟩ : ∃ D : Int, (d : Int) = D := ⟨_, rfl⟩
  have HD : Hid ((d : Int) = D ∧ d ≤ 40) := ⟨hD, hd⟩
  have hD0 : 0 ≤ D := by omega
  have hD1 : D ≤ 40 := by omega
  rw [hC, hNN, hMM, hD]
  rw [hNN, hMM] at n1 hW1 HB PL
  obtain ⟨⟨c0, c1, c2, c3, c4, c5⟩, _, _, _, _, _, _⟩ := row6_cells n1
  unfold jA at HB PL hW1 c0 c1 c2 c3 c4 c5 ⊢
  have HW1 : Hid (_ = W1) := hW1
  clear b1 n1 hW1 hN hnl hI hvl hR hcall hC hNN hMM hD hd
  cases hp : decide (PlP k b n t N M) with
  | false =>
    have HA : Hid (CN = 8) := by
      show _ = _
      rw [← HC.out]
      refine ck_bad fun q => ?_
      have q := (HP.out.1 q).1
      rw [HNM.out.1, HNM.out.2.1] at q
      rw [decide_eq_true q] at hp
      cases hp
    rw [hp] at PL
    clear hp
    go_enter Tryd.func23, Tryd.ntmps23
    go_wp2_with fail
    rw [HW1.out]
    refine PL.mono ?_
    rintro e w1 ⟨rfl, hb1⟩
    obtain ⟨_, B1⟩ := HB.out w1 hb1
    clear PL c0 c1 c2 c3 c4 c5
    go_wp2_with fail
    go_ret
    rw [HA.out]
    exact ⟨rfl, B1⟩
  | true =>
    have hP := of_decide_eq_true hp
    have hk6 := hP.1.1
    have HPl : Hid (PlP k b n t ns.length vs.length) := by show PlP _ _ _ _ _ _; rw [HNM.out.1, HNM.out.2.1]; exact hP
    rw [hp] at PL
    clear hp hP
    go_enter Tryd.func23, Tryd.ntmps23
    go_wp2_with fail
    rw [HW1.out]
    refine PL.mono ?_
    rintro e w1 ⟨rfl, hb1⟩
    obtain ⟨G1, B1⟩ := HB.out w1 hb1
    clear PL c0 c1 c2 c3 c4 c5
    obtain ⟨⟨r0, r1, r2, r3, r4, r5⟩, _, _, _, _, _, _⟩ := row6_cells G1
    simp only []
    by_cases hlow : k ≤ 2
    · have k3 : ((k : Int) == 3) = false := by simpa using fun e : (k : Int) = 3 => absurd e (by omega)
      have k4 : ((k : Int) == 4) = false := by simpa using fun e : (k : Int) = 4 => absurd e (by omega)
      have k6 : ((k : Int) == 6) = false := by simpa using fun e : (k : Int) = 6 => absurd e (by omega)
      have n5 : ((k : Int) != 5) = true := by simpa using fun e : (k : Int) = 5 => absurd e (by omega)
      have n6 : ((k : Int) != 6) = true := by simpa using fun e : (k : Int) = 6 => absurd e (by omega)
      have HA : Hid (CN = 0) := by
        show _ = _
        rw [← HC.out]
        exact ck_flat (HP.out.2 ⟨HPl.out, by omega, by omega⟩) (by omega) (by omega) (by omega)
      clear hk6 hlow G1
      go_wp2_with fail
      go_ret
      rw [HA.out]
      exact ⟨rfl, B1⟩
    · rcases (by omega : k = 3 ∨ k = 4 ∨ k = 5 ∨ k = 6) with rfl | rfl | h56
      · have NU := dnumeral_any t w1
        rw [show (((3 : Nat) : Int)) = 3 from rfl] at r0
        cases ht : isNm t with
        | false =>
          have HA : Hid (CN = 8) := by
            show _ = _
            rw [← HC.out]
            refine ck_bad fun q => ?_
            have q := (HP.out.1 q).2.1 rfl
            rw [ht] at q
            cases q
          rw [ht] at NU
          clear hk6 hlow G1 ht
          go_wp2_with fail
          refine NU.mono ?_
          rintro e w2 ⟨rfl, hb2⟩
          go_wp2_with fail
          go_ret
          rw [HA.out]
          exact ⟨rfl, below_more B1 hb2⟩
        | true =>
          have HA : Hid (CN = 0) := by
            show _ = _
            rw [← HC.out]
            exact ck_flat (HP.out.2 ⟨HPl.out, fun _ => ht, by omega⟩) (by omega) (by omega) (by omega)
          rw [ht] at NU
          clear hk6 hlow G1 ht
          go_wp2_with fail
          refine NU.mono ?_
          rintro e w2 ⟨rfl, hb2⟩
          obtain ⟨G2, B2⟩ := HB.out w2 (below_more hb1 hb2)
          clear NU r0 r1 r2 r3 r4 r5
          obtain ⟨⟨r0, r1, r2, r3, r4, r5⟩, _, _, _, _, _, _⟩ := row6_cells G2
          rw [show (((3 : Nat) : Int)) = 3 from rfl] at r0
          simp only []
          go_wp2_with fail
          go_ret
          rw [HA.out]
          exact ⟨rfl, B2⟩
      · have FO := dFormed_any t w1
        rw [show (((4 : Nat) : Int)) = 4 from rfl] at r0
        have hh : HasP 4 b n t ns.length vs.length := HP.out.2 ⟨HPl.out, by omega, by omega⟩
        cases ht : isTx t with
        | false =>
          have HA : Hid (CN = 3) := by
            show _ = _
            rw [← HC.out]
            exact ck_text hh rfl ht
          rw [ht] at FO
          clear hk6 hlow G1 ht hh
          go_wp2_with fail
          refine FO.mono ?_
          rintro e w2 ⟨rfl, hb2⟩
          go_wp2_with fail
          go_ret
          rw [HA.out]
          exact ⟨rfl, below_more B1 hb2⟩
        | true =>
          have HA : Hid (CN = 0) := by
            show _ = _
            rw [← HC.out]
            exact ck_flat hh (by omega) (by omega) (fun _ => ht)
          rw [ht] at FO
          clear hk6 hlow G1 ht hh
          go_wp2_with fail
          refine FO.mono ?_
          rintro e w2 ⟨rfl, hb2⟩
          obtain ⟨G2, B2⟩ := HB.out w2 (below_more hb1 hb2)
          clear FO r0 r1 r2 r3 r4 r5
          obtain ⟨⟨r0, r1, r2, r3, r4, r5⟩, _, _, _, _, _, _⟩ := row6_cells G2
          rw [show (((4 : Nat) : Int)) = 4 from rfl] at r0
          simp only []
          go_wp2_with fail
          go_ret
          rw [HA.out]
          exact ⟨rfl, B2⟩
      · by_cases h66 : k = 6 ∧ N ≠ M
        · obtain ⟨rfl, hne⟩ := h66
          have HA : Hid (CN = 8) := by
            show _ = _
            rw [← HC.out]
            refine ck_bad fun q => ?_
            have q := (HP.out.1 q).2.2 rfl
            rw [HNM.out.1, HNM.out.2.1] at q
            exact hne q
          have hn : ((N : Int) != (M : Int)) = true := by simpa using fun e : (N : Int) = (M : Int) => hne (by omega)
          rw [show (((6 : Nat) : Int)) = 6 from rfl] at r0
          clear hk6 hlow G1 hne h56
          go_wp2_with fail
          go_ret
          rw [HA.out]
          exact ⟨rfl, B1⟩
        · have hh : HasP k b n t ns.length vs.length := HP.out.2 ⟨HPl.out, by omega, fun q => by rw [HNM.out.1, HNM.out.2.1]; omega⟩
          have HH : Hid (HasP k b n t ns.length vs.length ∧ (k = 5 ∨ k = 6)) := ⟨hh, h56⟩
          have hx : k = 6 → ((N : Int) != (M : Int)) = false := fun q => by simp; omega
          have HK : Hid (k = 5 ∨ k = 6 ∧ ((N : Int) != (M : Int)) = false) := h56.elim .inl (fun q => .inr ⟨q, hx q⟩)
          clear hk6 hlow G1 hh h56 h66 hx
          rcases HK.out with rfl | ⟨rfl, hn⟩
          all_goals
            first
              | rw [show (((5 : Nat) : Int)) = 5 from rfl] at r0
              | rw [show (((6 : Nat) : Int)) = 6 from rfl] at r0
            clear HK
            by_cases hd : 32 < d
            · have HA : Hid (CN = 161) := by
                show _ = _
                rw [← HC.out]
                exact ck_deep HH.out.1 HH.out.2 hd
              have hdI : 32 < D := by have := HD.out.1; omega
              clear hd
              go_wp2_with fail
              go_ret
              rw [HA.out]
              exact ⟨rfl, B1⟩
            have hdI : ¬ 32 < D := by have := HD.out.1; omega
            by_cases hm : 1024 < M
            · have HA : Hid (CN = 4) := by
                show _ = _
                rw [← HC.out]
                exact ck_many HH.out.1 HH.out.2 hd (by rw [HNM.out.2.1]; exact hm)
              have hmI : 1024 < (M : Int) := by omega
              clear hd hm
              go_wp2_with fail
              go_ret
              rw [HA.out]
              exact ⟨rfl, B1⟩
            have hmI : ¬ 1024 < (M : Int) := by omega
            have HA : Hid (CN = if nmsE [] ns = 0 then chksB vs (d + 1) else nmsE [] ns) := by
              show _ = _
              rw [← HC.out]
              exact ck_names HH.out.1 HH.out.2 hd (by rw [HNM.out.2.1]; exact hm)
            have HAL : Hid (nmsE [] ns = 0 → aloneB _ b n t ns vs.length d = 0) := fun q => by
              have e := ck_names (b := b) (n := n) (t := t) (ns := ns) (vs := vs) (d := d) HH.out.1 HH.out.2 hd (by rw [HNM.out.2.1]; exact hm)
              unfold aloneB
              rw [if_neg (fun q => q HH.out.1), if_neg (by omega), if_neg (by omega), if_neg (by rw [HNM.out.2.1]; exact hm)]
              exact q
            have HB1 : Hid (Below W1.heap.size W1 w1) := hb1
            clear hd hm
            go_wp2_with fail
            clear r0 r1 r2 r3 r4 r5 hb1 B1
            go_loopw [5] (fun t wr => DCnI ns W1 t wr) (fun t _ => N - (intOf t).toNat)
            case atStart => exact ⟨0, Nat.zero_le _, rfl, rfl, HB1.out⟩
            case round =>
              clear HB1
              obtain ⟨i, hi, rfl, he, hb⟩ := hrel
              obtain ⟨G2, B2⟩ := HB.out wr hb
              obtain ⟨⟨r0, r1, r2, r3, r4, r5⟩, _, _, _, _, _, _⟩ := row6_cells G2
              have hi0 : (0 : Int) ≤ (i : Int) := by omega
              by_cases hlt : i < N
              · have hiI : (i : Int) < (N : Int) := by omega
                have hil : i < ns.length := by rw [HNM.out.1]; exact hlt
                have hNm : (N : Int) ≤ 9223372036854775807 := by have := HNM.out.2.2.1; unfold maxLen at this; omega
                obtain ⟨ab, ao, rfl⟩ := HS.out.1.addr (by omega)
                have y1 := below_cell (HS.out.1.at hil) B2
                obtain ⟨s, hs⟩ : ∃ s, ns.getD i ByteArray.empty = s := ⟨_, rfl⟩
                have FO := dFormed_any s wr
                rw [hs] at y1
                have HE : Hid (ns.getD i ByteArray.empty = s ∧ i < N ∧ i < ns.length ∧ nmsE (ns.take i) (ns.drop i) = nmsE [] ns ∧ Below W1.heap.size W1 wr) := ⟨hs, hlt, hil, he, hb⟩
                cases ht : isTx s with
                | false =>
                  rw [ht] at FO
                  have HF : Hid (CN = 3) := by
                    show _ = _
                    have e := nms_bad hil (by rw [hs]; exact ht)
                    rw [HA.out, ← he, e]
                    rfl
                  clear hb he hi hlt hil hs ht G2
                  go_wp2_with fail
                  refine FO.mono ?_
                  rintro e w2 ⟨rfl, hb2⟩
                  go_wp2_with fail
                  go_ret
                  rw [HF.out]
                  exact ⟨rfl, below_more B2 hb2⟩
                | true =>
                  rw [ht] at FO
                  have HT : Hid (isTx s = true) := ht
                  clear hb he hi hlt hil hs ht G2
                  go_wp2_with fail
                  refine FO.mono ?_
                  rintro e w2 ⟨rfl, hb2⟩
                  have HB2 : Hid (Below W1.heap.size W1 w2) := below_more HE.out.2.2.2.2 hb2
                  clear FO r0 r1 r2 r3 r4 r5 y1 hb2 B2
                  go_wp2_with fail
                  go_loopw [6] (fun t wr => DCmI ns s i W1 t wr) (fun t _ => i - (intOf t).toNat)
                  case atStart => exact ⟨0, Nat.zero_le _, rfl, by simp, HB2.out⟩
                  case round =>
                    clear HB2
                    obtain ⟨j, hj, rfl, hnot, hb⟩ := hrel
                    obtain ⟨G2, B2⟩ := HB.out wr hb
                    obtain ⟨⟨r0, r1, r2, r3, r4, r5⟩, _, _, _, _, _, _⟩ := row6_cells G2
                    have hj0 : (0 : Int) ≤ (j : Int) := by omega
                    by_cases hji : j < i
                    · have hjI : (j : Int) < (i : Int) := by omega
                      have hjN : (j : Int) < (N : Int) := by omega
                      have hjl : j < ns.length := by have := HE.out.2.2.1; omega
                      have y1 := below_cell (HS.out.1.at hjl) B2
                      have y2 := below_cell (HS.out.1.at HE.out.2.2.1) B2
                      rw [HE.out.1] at y2
                      obtain ⟨u, hu⟩ : ∃ u, ns.getD j ByteArray.empty = u := ⟨_, rfl⟩
                      rw [hu] at y1
                      have HJ : Hid (ns.getD j ByteArray.empty = u ∧ j < i ∧ s ∉ ns.take j ∧ j < ns.length ∧ Below W1.heap.size W1 wr) := ⟨hu, hji, hnot, hjl, hb⟩
                      by_cases hus : u = s
                      · have e3 : (u.toList == s.toList) = true := (Lib.bytes_beq_iff _ _).2 hus
                        have HF : Hid (CN = 8) := by
                          show _ = _
                          have e := nms_dup (i := i) HE.out.2.2.1 (by rw [HE.out.1]; exact HT.out) (by rw [HE.out.1, ← hus, ← hu]; exact in_take hji (Nat.le_of_lt HE.out.2.2.1))
                          rw [HA.out, ← HE.out.2.2.2.1, e]
                          rfl
                        clear hb hnot hj hji hjl hu hus G2
                        go_wp2_with fail
                        go_quiet (fail)
                        have HB3 : Hid (Below wr.heap.size wr (wr.drewN nq)) := below_dN (Below.refl _ _) _
                        generalize wr.drewN nq = w3 at *
                        go_wp2_with fail
                        go_ret
                        rw [HF.out]
                        exact ⟨rfl, below_more B2 HB3.out⟩
                      · have e3 : (u.toList == s.toList) = false := (Lib.bytes_beq_false_iff _ _).2 hus
                        have HF : Hid (s ∉ ns.take (j + 1)) := not_take hjl hnot (by rw [hu]; exact hus)
                        clear hb hnot hj hji hjl hu hus G2
                        go_wp2_with fail
                        go_quiet (fail)
                        have HB3 : Hid (Below wr.heap.size wr (wr.drewN nq)) := below_dN (Below.refl _ _) _
                        generalize wr.drewN nq = w3 at *
                        go_wp2_with fail
                        go_roundw
                        case rel => exact ⟨j + 1, by have := HJ.out.2.1; omega, by go_num, HF.out, below_more HJ.out.2.2.2.2 HB3.out⟩
                        case measure => have := HJ.out.2.1; simp [intOf]; omega
                    · obtain rfl : j = i := by omega
                      have HF : Hid (nmsE (ns.take (j + 1)) (ns.drop (j + 1)) = nmsE [] ns ∧ Below W1.heap.size W1 wr) :=
                        ⟨by rw [← nms_next HE.out.2.2.1 (by rw [HE.out.1]; exact HT.out) (by rw [HE.out.1]; exact hnot)]; exact HE.out.2.2.2.1, hb⟩
                      clear hb hnot hj hji G2
                      go_wp2_with fail
                      go_roundw
                      case rel => exact ⟨j + 1, by have := HE.out.2.2.1; omega, by go_num, HF.out.1, HF.out.2⟩
                      case measure => have := HE.out.2.1; simp [intOf]; omega
              · obtain rfl : i = N := by have := HNM.out.1; omega
                have h0 : nmsE [] ns = 0 := by rw [← he, ← HNM.out.1, List.drop_length]; rfl
                have HA2 : Hid (CN = chksB vs (d + 1)) := by show _ = _; rw [HA.out, if_pos h0]
                have HCX := HCA.out (HAL.out h0)
                have HCH : Hid (∀ i x, vs[i]? = some x → ∀ w', Below w.heap.size w w' → Calls Tryd.prog 23 #[.agg (F i), .int .i64 (D + 1)] w' fun e w'' => e = .returned (.int .i64 (chkB x (d + 1) : Int)) ∧ Below w'.heap.size w' w'') := by
                  have e : ((d + 1 : Nat) : Int) = D + 1 := by have := HD.out.1; omega
                  rw [e] at HCX
                  exact HCX
                have HB2 : Hid (Below W1.heap.size W1 wr) := hb
                clear hb he hi hlt G2 B2 HCX h0 HA HAL HCA
                go_wp2_with fail
                clear r0 r1 r2 r3 r4 r5
                go_loopw [7] (fun t wr => RfI vs d W1 t wr) (fun t _ => M - (intOf t).toNat)
                case atStart => exact ⟨0, Nat.zero_le _, rfl, rfl, HB2.out⟩
                case round =>
                  clear HB2
                  obtain ⟨j, hj, rfl, he, hb⟩ := hrel
                  obtain ⟨G2, B2⟩ := HB.out wr hb
                  obtain ⟨⟨r0, r1, r2, r3, r4, r5⟩, _, _, _, _, _, _⟩ := row6_cells G2
                  have hj0 : (0 : Int) ≤ (j : Int) := by omega
                  by_cases hlt : j < M
                  · have hjI : (j : Int) < (M : Int) := by omega
                    have hMm : (M : Int) ≤ 9223372036854775807 := by have := HNM.out.2.2.2; unfold maxLen at this; omega
                    have hjl : j < vs.length := by have := HNM.out.2.1; omega
                    obtain ⟨x, hx⟩ : ∃ x, vs[j]? = some x := ⟨_, List.getElem?_eq_getElem hjl⟩
                    obtain ⟨ab, ao, rfl⟩ := HS.out.2.1.addr (by omega)
                    have hc1 := (HS.out.2.1.at hjl).2
                    obtain ⟨kk, bb, mm, tt, nq1, nl1, nc1, iq1, il1, ic1, hF⟩ := jin_form (HS.out.2.2 j x hx)
                    have HCx := HCH.out j x hx wr B2
                    rw [hF] at hc1 HCx
                    obtain ⟨z0, z1, z2, z3, z4, z5⟩ := (jat_of hc1).below B2
                    have hdrop : vs.drop j = x :: vs.drop (j + 1) := by
                      rw [List.drop_eq_getElem_cons hjl]
                      rw [List.getElem?_eq_getElem hjl] at hx
                      rw [Option.some.inj hx]
                    have HE : Hid ((if chkB x (d + 1) = 0 then chksB (vs.drop (j + 1)) (d + 1) else chkB x (d + 1)) = chksB vs (d + 1) ∧ j < M ∧ Below W1.heap.size W1 wr ∧ j < vs.length) := ⟨by rw [← he, hdrop]; rfl, hlt, hb, hjl⟩
                    generalize hcx : chkB x (d + 1) = c at HCx HE
                    unfold jA at HCx
                    clear hc1 hF hdrop he hb hx hjl hj hlt hcx G2
                    by_cases hc0 : c = 0
                    · subst hc0
                      rw [show (((0 : Nat) : Int)) = 0 from rfl] at HCx
                      go_wp2_with fail
                      refine HCx.mono ?_
                      rintro e w3 ⟨rfl, hb3⟩
                      go_wp2_with fail
                      go_roundw
                      case rel =>
                        have H := HE.out
                        rw [if_pos trivial] at H
                        exact ⟨j + 1, H.2.2.2, by go_num, H.1, below_more H.2.2.1 hb3⟩
                      case measure => have H := HE.out.2.1; simp [intOf]; omega
                    · have hcI : ((c : Int) != 0) = true := by simpa using fun e : (c : Int) = 0 => hc0 (by omega)
                      have HR : Hid (chksB vs (d + 1) = c) := by
                        have H := HE.out
                        rw [if_neg hc0] at H
                        exact H.1.symm
                      clear hc0
                      go_wp2_with fail
                      refine HCx.mono ?_
                      rintro e w3 ⟨rfl, hb3⟩
                      go_wp2_with fail
                      go_ret
                      rw [HA2.out, HR.out]
                      exact ⟨rfl, below_more B2 hb3⟩
                  · have hjM : j = M := by have := HNM.out.2.1; omega
                    subst hjM
                    have HR : Hid (chksB vs (d + 1) = 0) := by
                      show _ = _
                      rw [← he, ← HNM.out.2.1, List.drop_length]; rfl
                    clear he hb hj hlt G2
                    go_wp2_with fail
                    go_ret
                    rw [HA2.out, HR.out]
                    exact ⟨rfl, B2⟩
theorem dcheck_any : ∀ (f d : Nat), d + f = 33 → ∀ (A : Array Value) (v : JB) (Z : Nat → Prop) (w : World), JIn w Z A v →
    Calls Tryd.prog 23 #[.agg A, .int .i64 (d : Int)] w fun e w' => e = .returned (.int .i64 (chkB v d : Int)) ∧ Below w.heap.size w w' := by
  intro f
  induction f with
  | zero =>
    intro d hd A v Z w h
    cases h with
    | mk k b n t ns vs nq iq nc ic F hk hn hnc hic hnm him hnq hiq hN hI hR =>
      refine dcheck_walk k b n t ns vs nq iq nc ic F Z d (by omega) w hN (Nat.le_trans hnc hnm) hI (Nat.le_trans hic him) hR ?_
      intro ha i x hx
      have hp : 0 < vs.length := by
        rcases Nat.lt_or_ge i vs.length with h' | h'
        · omega
        · rw [List.getElem?_eq_none h'] at hx; cases hx
      exact absurd (has_items ha hp) (by omega)
  | succ f ih =>
    intro d hd A v Z w h
    cases h with
    | mk k b n t ns vs nq iq nc ic F hk hn hnc hic hnm him hnq hiq hN hI hR =>
      refine dcheck_walk k b n t ns vs nq iq nc ic F Z d (by omega) w hN (Nat.le_trans hnc hnm) hI (Nat.le_trans hic him) hR ?_
      intro ha i x hx w' hb
      exact ih (d + 1) (by omega) (F i) x Z w' ((hR i x hx).bel hb)
theorem dCheck_any (A : Array Value) (v : JB) (Z : Nat → Prop) (w : World) (h : JIn w Z A v) :
    Calls Tryd.prog 23 #[.agg A, .int .i64 1] w fun e w' => e = .returned (.int .i64 (chkB v 1 : Int)) ∧ Below w.heap.size w w' := dcheck_any 32 1 rfl A v Z w h
end Go.Proofs.YtblnoekogdpolaaDoor
