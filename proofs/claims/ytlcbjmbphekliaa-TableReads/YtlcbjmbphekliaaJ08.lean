/-
  What is found, and what stands between keys, told of all entries; a table with one byte turned; no program is named here.
-/
import Derived.Test.YtlcbjmbphekliaaJ07
import Derived.Test.YtlcbjmbphekliaaJ05
import Derived.Deep.RegionWith
import Derived.Test.YtlcbjmbphekliaaJ01
import Derived.Test.YtlcbjmbphekliaaJ04
namespace Go.Proofs.Ytlcbjmbphekliaa
open Go.RowKit Go.WideShapes

theorem ents_count : ∀ (l : List EntV) (a : List Nat), l.length ≤ (entsN a l).length
  | [], a => by simp
  | x :: l, a => by
    have ih := ents_count l (numsOf x.key)
    have h1 : 1 ≤ (entN a x).length := by
      unfold entN keyN
      have := smallN_pos (sharedN a (numsOf x.key))
      simp only [List.length_append]
      omega
    simp only [entsN, List.length_append, List.length_cons]
    omega
theorem ents_page (l : List EntV) : l.length ≤ (pageN l).length := by
  rw [page_len]
  unfold bodyN
  have := ents_count l []
  rw [List.length_append]
  omega
theorem flat_pages : ∀ (ps : List (List EntV)), ps.flatten.length ≤ (pagesN ps).length
  | [] => by simp
  | p :: ps => by
    have h1 := ents_page p
    have h2 := flat_pages ps
    rw [pagesN_cons, List.length_append, List.flatten_cons, List.length_append]; omega
theorem few_of {ss : List ShV} {n : Nat} (h : (pagesN (pagesOf ss)).length ≤ n) (hn : n ≤ 1000000) : FewT ss := by
  refine ⟨?_, Nat.le_trans (flat_pages _) (by omega)⟩
  have := pages_count (pagesOf ss)
  rw [pagesOf_len] at this
  omega
theorem pagesR_short {b : List Nat} {n : Nat} {ns : List Nat} (h : b.length < n) : pagesR b (n :: ns) = none := by unfold pagesR; rw [if_pos h]
theorem pagesR_bad {b : List Nat} {n : Nat} {ns : List Nat} (h : ¬ b.length < n) (hr : readE (b.take n) = none) : pagesR b (n :: ns) = none := by unfold pagesR; rw [if_neg h, hr]
theorem pagesR_end {b : List Nat} {n : Nat} {ns : List Nat} {l : List EntV} (h : ¬ b.length < n) (hr : readE (b.take n) = some l) : pagesR b (n :: ns) = if EndsP l n (ns = []) then (pagesR (b.drop n) ns).map (fun ps => l :: ps) else none := by
  conv => lhs; unfold pagesR
  rw [if_neg h, hr]
theorem drop_ns {ns : List Nat} {k : Nat} (h : k < ns.length) {n : Nat} (hn : ns.getD k 0 = n) : ns.drop k = n :: ns.drop (k + 1) := by
  rw [← hn, List.getD_eq_getElem?_getD, List.getElem?_eq_getElem h]; exact List.drop_eq_getElem_cons h
structure OnG (w : World) (R : Option (List (List EntV))) (xs ns : List Nat) (k : Nat) (ys : List Nat) (v : Value) (ss : List ShV) (wr : World) : Prop where
  own : SOwn wr w.heap.size v ss
  bel : Below w.heap.size w wr
  cut : R = (pagesR ys (ns.drop k)).map fun ps => pagesOf ss ++ ps
  ok : ∀ s ∈ ss, checkE s.ents = 0 ∧ (pageN s.ents).length ≤ 65536 ∧ 0 < s.ents.length
  few : (pagesN (pagesOf ss)).length + ys.length = xs.length
theorem OnG.next {w wr w' : World} {R : Option (List (List EntV))} {xs ns : List Nat} {k : Nat} {ys : List Nat} {v : Value} {ss : List ShV} (h : OnG w R xs ns k ys v ss wr) (hb : Below wr.heap.size wr w') : OnG w R xs ns k ys v ss w' := ⟨h.own.below hb, below_bt h.bel hb, h.cut, h.ok, h.few⟩
def PagOut (xs ns : List Nat) (base : Nat) (e : Ending) (w' : World) : Prop :=
  (∃ ss v, pagesR xs ns = some (pagesOf ss) ∧ e = .returned (.tuple #[v, .bool (decide (0 < ss.length ∧ checkE (pagesOf ss).flatten = 0))]) ∧ SOwn w' base v ss ∧ OkT ss ∧ (pagesN (pagesOf ss)).length ≤ 524288) ∨ (pagesR xs ns = none ∧ e = .returned (.tuple #[.slice none 0 0, .bool false]))
theorem sh_cells1 (w : World) (a b : Value) (t : TypeId) : ∀ j u, [a, b][j]? = some u → (w.alloc (.cells #[a, b] t)).cell? ((⟨w.heap.size, 0, none⟩ : Addr).add j) = some u := by
  intro j u hj
  have hh := heap_alloc_new w (.cells #[a, b] t)
  have e : (⟨w.heap.size, 0, none⟩ : Addr).add j = ⟨w.heap.size, j, none⟩ := by simp [Addr.add]; intro h; omega
  rw [e, Lib.cell_of_heap hh]
  simpa using hj
set_option maxRecDepth 8000 in
set_option maxHeartbeats 2000000 in
theorem readPages_any (p : Option Addr) (n c : Nat) (xs : List Nat) (qi : Option Addr) (m ci : Nat) (ns : List Nat) (w : World) (hn : n = xs.length) (hb : BIn w p xs) (hc : n ≤ c ∧ c ≤ maxLen ∧ (p = none → c = 0)) (hx : xs.length ≤ 524288) (hm : m = ns.length) (hi : IntsN w qi ns) (hmz : m ≤ 524288) (hns : ∀ x ∈ ns, x ≤ 524288) :
    Calls Try.prog 59 #[.slice p n c, .slice qi m ci] w fun e w' => PagOut xs ns w.heap.size e w' ∧ Below w.heap.size w w' := by
  obtain ⟨i0, hi0, hz0, hz1, hz2⟩ := info_parts' info_sheet
  obtain ⟨R, hR⟩ : ∃ R, pagesR xs ns = R := ⟨_, rfl⟩
  have HR : Hid (pagesR xs ns = R) := hR
  have HI : Hid (IntsN w qi ns ∧ m = ns.length ∧ ∀ x ∈ ns, x ≤ 524288) := ⟨hi, hm, hns⟩
  have HX : Hid (xs.length ≤ 524288 ∧ n = xs.length ∧ n ≤ c ∧ c ≤ maxLen ∧ (p = none → c = 0) ∧ BIn w p xs) := ⟨hx, hn, hc.1, hc.2.1, hc.2.2, hb⟩
  have hmI : (m : Int) ≤ 524288 := by omega
  clear hn hb hc hx hm hi hmz hns hR
  go_enter Try.func59, Try.ntmps59
  go_wp2
  go_loopw [0, 6, 13] (fun s0 v i wr => ∃ (k : Nat) (pb : Option Addr) (nb cb : Nat) (ys : List Nat) (ss : List ShV), k ≤ m ∧ i = .int .i64 k ∧ s0 = .slice pb nb cb ∧ BIn w pb ys ∧ nb = ys.length ∧ nb ≤ cb ∧ cb ≤ maxLen ∧ (pb = none → cb = 0) ∧ OnG w R xs ns k ys v ss wr) (fun _ _ i _ => m - (intOf i).toNat)
  case atStart => exact ⟨0, p, n, c, xs, [], by omega, rfl, rfl, HX.out.2.2.2.2.2, HX.out.2.1, HX.out.2.2.1, HX.out.2.2.2.1, HX.out.2.2.2.2.1, sown_nil _ _, Below.refl _ _, by rw [← HR.out]; simp [pagesOf], by simp, by simp [pagesOf, pagesN]⟩
  case round =>
    obtain ⟨k, pb, nb, cb, ys, ss, hk, rfl, rfl, hby, hnb, hcb1, hcb2, hcb3, hon⟩ := hrel
    obtain ⟨vq, vc, rfl, _, _, _⟩ := hon.own.form
    have HO : Hid (OnG w R xs ns k ys (.slice vq ss.length vc) ss wr) := hon
    have HB : Hid (BIn w pb ys ∧ nb = ys.length ∧ nb ≤ cb ∧ cb ≤ maxLen ∧ (pb = none → cb = 0)) := ⟨hby, hnb, hcb1, hcb2, hcb3⟩
    have hyl : nb ≤ 524288 := by have := hon.few; have := HX.out.1; omega
    have hylI : (nb : Int) ≤ 524288 := by omega
    have HSL : Hid (ss.length ≤ 524288) := by
      show _ ≤ _
      have h1 := pages_count (pagesOf ss)
      rw [pagesOf_len] at h1
      have := hon.few
      have := HX.out.1
      omega
    clear hby hnb hcb1 hcb2 hcb3 hon
    by_cases hkm : k < m
    · have hkI : (k : Int) < (m : Int) := by omega
      have hkl : k < ns.length := by have := HI.out.2.1; omega
      obtain ⟨b, o, rfl⟩ := HI.out.1.addr (by omega)
      have x0 := (HI.out.1.below HO.out.bel).at hkl
      obtain ⟨N, hN⟩ : ∃ N, ns.getD k 0 = N := ⟨_, rfl⟩
      rw [hN] at x0
      have hNb : N ≤ 524288 := by
        refine HI.out.2.2 N ?_
        rw [← hN, List.getD_eq_getElem?_getD, List.getElem?_eq_getElem hkl]
        exact List.getElem_mem _
      have hNI : (N : Int) ≤ 524288 := by omega
      have hdr := drop_ns hkl hN
      have HDR : Hid (ns.drop k = N :: ns.drop (k + 1) ∧ k < ns.length ∧ k < m) := ⟨hdr, hkl, hkm⟩
      clear hN hdr hkl hkm
      by_cases hsh : nb < N
      · have g1 : decide ((nb : Int) < (N : Int)) = true := decide_eq_true (by omega)
        have g1' : decide (nb < N) = true := decide_eq_true hsh
        have g1'' : (nb : Int) < (N : Int) := by omega
        have HNN : Hid (pagesR xs ns = none) := by
          show _ = _
          rw [HR.out, HO.out.cut, HDR.out.1, pagesR_short (by rw [← HB.out.2.1]; exact hsh)]
          rfl
        clear hsh
        go_wp2
        go_ret2
        exact ⟨.inr ⟨HNN.out, rfl⟩, HO.out.bel⟩
      · have g1 : decide ((nb : Int) < (N : Int)) = false := decide_eq_false (by omega)
        have g1' : ¬ nb < N := hsh
        have g1'' : (N : Int) ≤ (nb : Int) := by omega
        have HNS : Hid (N ≤ nb ∧ ¬ ys.length < N) := ⟨by omega, by have := HB.out.2.1; omega⟩
        have hs1 := cut_to pb nb cb N (by have := HB.out; omega)
        obtain ⟨pc, hs2, hbc, hpc, hpo⟩ := cut_from pb nb cb N ys HB.out.2.1 HB.out.2.2.1 (by omega) HB.out.2.2.2.2
        have htl : (ys.take N).length = N := by rw [List.length_take]; have := HNS.out; omega
        have HRD := Read_any pb N cb (ys.take N) wr htl.symm ((HB.out.1.below HO.out.bel).take' N) ⟨by have := HB.out; omega, HB.out.2.2.2.1, HB.out.2.2.2.2⟩
        have HBC : Hid (BIn w pc (ys.drop N) ∧ (pc = none → cb - N = 0)) := ⟨hbc w HB.out.1, hpc⟩
        have HTL : Hid ((ys.take N).length = N) := htl
        clear hbc hpc hpo htl hsh
        go_wp2_with fail
        refine HRD.mono ?_
        rintro e w2 ⟨hout, hb2⟩
        have HO2 : Hid (OnG w R xs ns k ys (.slice vq ss.length vc) ss w2) := HO.out.next hb2
        have HSZ : Hid (w.heap.size ≤ wr.heap.size) := HO.out.bel.size
        clear hb2 HRD
        rcases hout with ⟨l, vl, hre, rfl, hown⟩ | ⟨hre, rfl⟩
        · obtain ⟨ql, cl, rfl, hcl1, hcl2, _⟩ := hown.form
          obtain ⟨hck, hpg, hpl⟩ := makeE_ok (make_read (fun c hc => HB.out.1.2 c (List.mem_of_mem_take hc)) hre)
          have hNl : (pageN l).length = N := by rw [← hpg]; exact HTL.out
          obtain ⟨L1, hL1⟩ : ∃ L1, m - 1 = L1 := ⟨_, rfl⟩
          have hwl : IntKind.i64.wrap ((m : Int) - 1) = (L1 : Int) := by rw [IntKind.wrap_i64]; have := HDR.out; omega
          obtain ⟨last, hlast⟩ : ∃ last, ((k : Int) == (L1 : Int)) = last := ⟨_, rfl⟩
          obtain ⟨r, hr⟩ : ∃ r, endsB l N last = r := ⟨_, rfl⟩
          have HEW := endsWell_any ql l.length cl l N last w2 ⟨rfl, hown.ents⟩ hcl1 hck (by have := HTL.out; omega) (by omega) r hr
          have hlst : last = decide (ns.drop (k + 1) = []) := by
            rw [← hlast]
            have h1 := HDR.out; have h2 := HI.out.2.1
            by_cases hh : k = L1
            · rw [decide_eq_true (by apply List.drop_eq_nil_of_le; omega)]
              simp [hh]
            · rw [decide_eq_false (by intro h3; have := congrArg List.length h3; rw [List.length_drop] at this; simp at this; omega)]
              simp; omega
          have HCT : Hid (pagesR ys (ns.drop k) = if r = true then (pagesR (ys.drop N) (ns.drop (k + 1))).map (fun ps => l :: ps) else none) := by
            show _ = _
            rw [HDR.out.1, pagesR_end HNS.out.2 hre]
            have := endsB_is l N (ns.drop (k + 1)) last hlst
            rw [hr] at this
            by_cases hrr : r = true
            · rw [if_pos hrr, if_pos (this.1 hrr)]
            · rw [if_neg hrr, if_neg (fun h => hrr (this.2 h))]
          have HLK : Hid (checkE l = 0 ∧ (pageN l).length = N ∧ N ≤ 65536 ∧ l.length ≤ cl ∧ cl ≤ maxLen) := ⟨hck, hNl, by have := HTL.out; omega, hcl1, hcl2⟩
          have HOW : Hid (EOwn w2 wr.heap.size (.slice ql l.length cl) l) := hown
          have HBT : Hid (BIn w pb (pageN l)) := by have := HB.out.1.take' N; rw [hpg] at this; exact this
          have HRR : Hid (r = true → 0 < l.length) := by
            intro h
            rw [← hr] at h
            unfold endsB at h
            simp only [Bool.and_eq_true, decide_eq_true_eq] at h
            exact h.1.1
          clear hown hre hcl1 hcl2 hck hpg hpl hNl hL1 hr hlst
          go_wp2_with fail
          refine HEW.mono ?_
          rintro e w3 ⟨rfl, hb3⟩
          have HO3 : Hid (OnG w R xs ns k ys (.slice vq ss.length vc) ss w3) := HO2.out.next hb3
          have HW3 : Hid (EOwn w3 wr.heap.size (.slice ql l.length cl) l) := HOW.out.below hb3
          clear hb3 HEW
          cases r with
          | false =>
            have HNN : Hid (pagesR xs ns = none) := by
              show _ = _
              rw [HR.out, HO.out.cut, HCT.out]
              rfl
            go_wp2
            go_ret2
            exact ⟨.inr ⟨HNN.out, rfl⟩, HO3.out.bel⟩
          | true =>
            have hlp := HRR.out rfl
            have HSH : Hid (ShOk w3 ⟨ql, cl, pb, cb, l⟩ ∧ Safe 92 w.heap.size w3 ql ∧ Safe 92 w.heap.size w3 pb) := by
              have hbt : BIn w pb (pageN l) := HBT.out
              exact ⟨⟨HW3.out.ents, hbt.below HO3.out.bel, hlp, ⟨HLK.out.2.2.2.1, HLK.out.2.2.2.2⟩, ⟨by show (pageN l).length ≤ cb; rw [HLK.out.2.1]; have := HB.out; have := HNS.out; omega, HB.out.2.2.2.1, HB.out.2.2.2.2⟩⟩, safe_own HW3.out (by decide), safe_oldB hbt (page_pos l)⟩
            have HNX0 : Hid (R = (pagesR (ys.drop N) (ns.drop (k + 1))).map (fun ps => pagesOf (ss ++ [⟨ql, cl, pb, cb, l⟩]) ++ ps)) := by
              show _ = _
              rw [HO.out.cut, HCT.out, if_pos rfl, Option.map_map]
              congr 1
              funext ps
              simp [pagesOf]
            have HOA : Hid (OnG w R xs ns k ys (.slice vq ss.length vc) ss (w3.alloc (.cells #[.slice ql l.length cl, .slice pb N cb] 92))) := HO3.out.next (below_alloc _ _)
            have HCL : Hid (∀ j u, [Value.slice ql l.length cl, .slice pb N cb][j]? = some u → (w3.alloc (.cells #[.slice ql l.length cl, .slice pb N cb] 92)).cell? ((⟨w3.heap.size, 0, none⟩ : Addr).add j) = some u) := sh_cells1 w3 _ _ _
            clear hlp
            go_wp2_with (at_builtin; go_loud (refine wpList_append_own _ rfl _ _ 61 rfl w.heap.size 92 i0 _ 2 48 Try.underlying61 hi0 hz0 hz1 hz2 rfl (by omega) _ _ _ rfl HOA.out.own.own ⟨w3.heap.size, 0, none⟩ 1 1 [.slice ql l.length cl, .slice pb N cb] rfl rfl HCL.out (sh_one' ql pb l.length cl N cb) (by have := HSL.out; unfold maxLen; omega) (by have := HSL.out; omega) HOA.out.bel.size ?_); intro va ua hoa hga _)
            have HNX : Hid (OnG w R xs ns (k + 1) (ys.drop N) va (ss ++ [⟨ql, cl, pb, cb, l⟩]) ua) := by
              have hsh := HSH.out
              have hb4 := below_alloc w3 (.cells #[.slice ql l.length cl, .slice pb N cb] 92)
              refine ⟨HOA.out.own.app hga ?_ ⟨hsh.1.below hb4, hsh.2.1.below hb4, hsh.2.2.below hb4⟩, HOA.out.bel.grown hga HOA.out.bel.size (fun k hk => (World.ownsRow.lt HOA.out.own.own k hk).1), HNX0.out, ?_, ?_⟩
              · unfold shE shB
                simp only
                rw [HLK.out.2.1]
                exact hoa
              · intro s hs
                rcases List.mem_append.1 hs with hs | hs
                · exact HO.out.ok s hs
                · rw [List.mem_singleton.1 hs]
                  exact ⟨HLK.out.1, by show (pageN l).length ≤ 65536; rw [HLK.out.2.1]; exact HLK.out.2.2.1, hsh.1.pos⟩
              · have e : pagesOf (ss ++ [⟨ql, cl, pb, cb, l⟩]) = pagesOf ss ++ [l] := by simp [pagesOf]
                rw [e, pagesN_app, pagesN_one, List.length_append, HLK.out.2.1, List.length_drop]
                have := HO.out.few
                have := HNS.out
                have := HB.out.2.1
                omega
            clear hoa hga
            go_wp2
            go_roundw
            case rel => exact ⟨k + 1, pc, nb - N, cb - N, ys.drop N, _, by have := HDR.out; omega, by go_num, rfl, HBC.out.1, by rw [List.length_drop]; have := HB.out.2.1; omega, by have := HB.out; omega, by have := HB.out; omega, HBC.out.2, HNX.out⟩
            case measure => have := HDR.out; simp [intOf]; omega
        · have HNN : Hid (pagesR xs ns = none) := by
            show _ = _
            rw [HR.out, HO.out.cut, HDR.out.1, pagesR_bad HNS.out.2 hre]
            rfl
          clear hre
          go_wp2
          go_ret2
          exact ⟨.inr ⟨HNN.out, rfl⟩, HO2.out.bel⟩
    · have hkI : (m : Int) ≤ (k : Int) := by omega
      have hpt : (pagesN (pagesOf ss)).length ≤ 524288 := by have := HO.out.few; have := HX.out.1; omega
      have HOK : Hid (OkT ss) := ⟨few_of hpt (by omega), HO.out.ok⟩
      have HPT : Hid ((pagesN (pagesOf ss)).length ≤ 524288) := hpt
      have HRS : Hid (pagesR xs ns = some (pagesOf ss)) := by
        show _ = _
        rw [HR.out, HO.out.cut, List.drop_eq_nil_of_le (by have := HI.out.2.1; omega)]
        simp [pagesR]
      by_cases h0 : ss.length = 0
      · have g3 : (ss.length : Int) = 0 := by omega
        have HF : Hid (decide (0 < ss.length ∧ checkE (pagesOf ss).flatten = 0) = false) := by show _ = _; rw [decide_eq_false_iff_not]; omega
        rw [h0] at HO ⊢
        clear hpt
        go_wp2
        go_ret2
        refine ⟨.inl ⟨ss, _, HRS.out, by rw [HF.out]; rfl, ?_, HOK.out, HPT.out⟩, HO.out.bel⟩
        exact HO.out.own
      · have g3 : (0 : Int) < (ss.length : Int) := by omega
        have HSS := HO.out.own.sheets
        have HAL := pall_any vq ss.length vc ss wr HSS HOK.out.few.n HOK.out.few.l
        obtain ⟨L, hL⟩ : ∃ L, (pagesOf ss).flatten = L := ⟨_, rfl⟩
        rw [hL] at HAL
        obtain ⟨C, hC⟩ : ∃ C, checkE L = C := ⟨_, rfl⟩
        have HF : Hid (decide (0 < ss.length ∧ checkE (pagesOf ss).flatten = 0) = ((C : Int) == 0)) := by
          show _ = _
          rw [hL, hC]
          by_cases hh : C = 0
          · rw [decide_eq_true ⟨by omega, hh⟩, hh]; rfl
          · rw [decide_eq_false (fun h => hh h.2)]; symm; simp; omega
        have HC : Hid (checkE L = C) := hC
        clear hpt hL hC h0 HSS
        go_wp2_with fail
        refine HAL.mono ?_
        rintro e w2 ⟨v2, rfl, ho2, hb2⟩
        obtain ⟨q2, c2, rfl, _, _, _⟩ := ho2.form
        have HO2 : Hid (OnG w R xs ns k ys (.slice vq ss.length vc) ss w2) := HO.out.next hb2
        have HCK := Check_any q2 L.length c2 L w2 ⟨rfl, ho2.ents⟩ C HC.out
        clear ho2 hb2 HAL
        go_wp2_with fail
        refine HCK.mono ?_
        rintro e w3 ⟨rfl, hb3⟩
        have HO3 : Hid (OnG w R xs ns k ys (.slice vq ss.length vc) ss w3) := HO2.out.next hb3
        clear hb3 HCK
        go_wp2
        go_ret2
        exact ⟨.inl ⟨ss, _, HRS.out, by rw [HF.out]; rfl, HO3.out.own, HOK.out, HPT.out⟩, HO3.out.bel⟩
end Go.Proofs.Ytlcbjmbphekliaa
namespace Go.Proofs.Ytlcbjmbphekliaa
open Go.RowKit Go.WideShapes

theorem readT_no1 {xs : List Nat} (h : cutTab xs = none) : readT xs = none := by unfold readT; rw [h]
theorem readT_no2 {xs a b : List Nat} (h : cutTab xs = some (a, b)) (h2 : sizesT b = none) : readT xs = none := by unfold readT; rw [h]; simp only; rw [h2]
theorem readT_no3 {xs a b ns : List Nat} (h : cutTab xs = some (a, b)) (h2 : sizesT b = some ns) (h3 : pagesR a ns = none) : readT xs = none := by unfold readT; rw [h]; simp only; rw [h2]; simp only; rw [h3]
theorem readT_is {xs a b ns : List Nat} {ps : List (List EntV)} (h : cutTab xs = some (a, b)) (h2 : sizesT b = some ns) (h3 : pagesR a ns = some ps) : readT xs = if 0 < ps.length ∧ checkE ps.flatten = 0 ∧ tableN ps = xs then some ps else none := by unfold readT; rw [h]; simp only; rw [h2]; simp only; rw [h3]
theorem sizesL_few : ∀ (k : Nat) (s s' : Wk) (l : List Nat), sizesL k s = some (l, s') → l.length = k ∧ ∀ x ∈ l, x ≤ 524288
  | 0, s, s', l, h => by
    simp only [sizesL, Option.some.injEq, Prod.mk.injEq] at h
    rw [← h.1]
    simp
  | k + 1, s, s', l, h => by
    unfold sizesL at h
    split at h
    · cases h
    · obtain ⟨⟨l', s''⟩, h1, h2⟩ := Option.map_eq_some_iff.1 h
      simp only [Prod.mk.injEq] at h2
      obtain ⟨i1, i2⟩ := sizesL_few k _ _ _ h1
      rw [← h2.1]
      refine ⟨by simp [i1], fun x hx => ?_⟩
      rcases List.mem_cons.1 hx with rfl | hx
      · exact numW_le _ _
      · exact i2 x hx
theorem sizesT_few {xs ns : List Nat} (h : sizesT xs = some ns) : ns.length ≤ 524288 ∧ ∀ x ∈ ns, x ≤ 524288 := by
  unfold sizesT endS at h
  split at h
  · cases h
  · rename_i p hp
    split at h
    · cases h
    · have e := Option.some.inj h
      obtain ⟨l, s'⟩ := p
      obtain ⟨h1, h2⟩ := sizesL_few _ _ _ _ hp
      simp only at e
      rw [← e, h1]
      exact ⟨numW_le _ _, h2⟩
theorem ents_box {w w' : World} {B : Nat} {p1 p2 : Option Addr} {n1 n2 c1 c2 : Nat} {t : TypeId} {q : Option Addr} {l : List EntV} (hB : w.heap[B]? = some (.cells #[.slice p1 n1 c1, .slice p2 n2 c2] t (0, 0))) (hg : w.grownBy w' (some B)) (h : EntsIn w q l) : EntsIn w' q l := by
  intro hp
  obtain ⟨b, o, rfl, hc⟩ := h hp
  have hne : b ≠ B := by
    intro e
    subst e
    have h0 := (hc 0 hp).1
    rw [cell_of_row w b (o + 0 * 4) _ _ _ hB] at h0
    rcases ho : o + 0 * 4 with _ | _ | k
    · rw [ho] at h0; simp at h0
    · rw [ho] at h0; simp at h0
    · rw [ho] at h0; simp at h0
  refine ⟨b, o, rfl, fun i hi => ?_⟩
  obtain ⟨e0, e1, e2, e3⟩ := hc i hi
  have hn : (some B : Option Nat) ≠ some b := fun e => hne (Option.some.inj e).symm
  exact ⟨cell_grown (a := ⟨b, _, none⟩) hg hn e0, cell_grown (a := ⟨b, _, none⟩) hg hn e1, cell_grown (a := ⟨b, _, none⟩) hg hn e2, cell_grown (a := ⟨b, _, none⟩) hg hn e3⟩
theorem SOwn.box {w w' : World} {base B : Nat} {p1 p2 : Option Addr} {n1 n2 c1 c2 : Nat} {q : Option Addr} {n m : Nat} {ss : List ShV} (h : SOwn w base (.slice q n m) ss) (hB : w.heap[B]? = some (.cells #[.slice p1 n1 c1, .slice p2 n2 c2] 65 (0, 0))) (hg : w.grownBy w' (some B)) : Sheets w' q ss.length ss := by
  have hrow : w'.ownsRow base 92 2 (.slice q n m) ss.length (cellsS ss) := World.ownsRow.kept h.own hg (.inr (own_neS h.own hB (by decide)))
  refine ⟨rfl, fun hp => ?_, fun s hs => ?_⟩
  · rcases hrow.2 with ⟨_, hn⟩ | ⟨g, cap, cur, hv, hb, hg', hle, hmax, hsz, htk⟩
    · omega
    · simp only [Value.slice.injEq] at hv
      obtain ⟨rfl, rfl, rfl⟩ := hv
      refine ⟨g, 0, rfl, fun i hi => ?_⟩
      obtain ⟨c0, c1⟩ := cellsS_at ss i hi
      exact ⟨by rw [Nat.zero_add, World.ownsRow.cellAt hrow _ (by omega), c0], by rw [Nat.zero_add, World.ownsRow.cellAt hrow _ (by omega), c1]⟩
  · have hs' := (h.ok s hs).1
    exact ⟨ents_box hB hg hs'.ents, bin_grown hB (by simp) (by simp) hs'.bytes hg, hs'.pos, hs'.cape, hs'.capb⟩
structure TabOf (w' : World) (q : Option Addr) (ss : List ShV) (p : Option Addr) (m cp : Nat) : Prop where
  sheets : Sheets w' q ss.length ss
  sieve : BIn w' p (sieveN (pagesOf ss).flatten)
  len : m = (sieveN (pagesOf ss).flatten).length
  ok : OkT ss
def ReadTOut (xs : List Nat) (e : Ending) (w' : World) : Prop :=
  (∃ ss q c p m cp, readT xs = some (pagesOf ss) ∧ e = .returned (.tuple #[.agg #[.slice q ss.length c, .slice p m cp], .int .i64 0]) ∧ TabOf w' q ss p m cp) ∨ (readT xs = none ∧ e = .returned (.tuple #[.agg #[.slice none 0 0, .slice none 0 0], .int .i64 90]))
theorem grown_two (w : World) (g : Nat) (a b : Value) : w.grownBy ((w.setCell ⟨g, 0, none⟩ a).setCell ⟨g, 1, none⟩ b) (some g) := grown_trans (grown_set w g 0 a) (grown_set _ g 1 b)
set_option maxRecDepth 8000 in
set_option maxHeartbeats 2000000 in
theorem read_anyT (p : Option Addr) (n c : Nat) (xs : List Nat) (w : World) (hn : n = xs.length) (hb : BIn w p xs) (hc : n ≤ c ∧ c ≤ maxLen ∧ (p = none → c = 0)) :
    Calls Try.prog 32 #[.slice p n c] w fun e w' => ReadTOut xs e w' ∧ Below w.heap.size w w' := by
  have hb0 := below_alloc w (.cells #[.slice none 0 0, .slice none 0 0] 65)
  have HBX : Hid ((w.alloc (.cells #[.slice none 0 0, .slice none 0 0] 65)).heap[w.heap.size]? = some (.cells #[.slice none 0 0, .slice none 0 0] 65 (0, 0))) := heap_alloc_new _ _
  have HCU := cut_any p n c xs _ hn (hb.below hb0) hc
  have HX : Hid (BIn w p xs ∧ n = xs.length) := ⟨hb, hn⟩
  clear hn hb hc hb0
  go_enter Try.func32, Try.ntmps32
  go_wp2_with fail
  refine HCU.mono ?_
  rintro e w1 ⟨hout, hb1⟩
  have HB1 : Hid (Below w.heap.size w w1 ∧ w1.heap[w.heap.size]? = some (.cells #[.slice none 0 0, .slice none 0 0] 65 (0, 0))) := ⟨below_bt (below_alloc _ _) hb1, block_below HBX.out hb1⟩
  clear hb1 HCU
  rcases hout with ⟨xi, yi, p1, c1, p2, c2, hct, rfl, h1, h2, hl1, hl2⟩ | ⟨hct, rfl⟩
  · have HCT : Hid (cutTab xs = some (xi, yi)) := hct
    have H1 : Hid ((BIn w1 p1 xi ∧ xi.length ≤ c1 ∧ c1 ≤ maxLen ∧ (p1 = none → c1 = 0)) ∧ xi.length ≤ 524288) := ⟨h1, hl1⟩
    have HSI := readSizes_any p2 yi.length c2 yi w1 rfl h2.1 h2.2 (by omega)
    clear h1 h2 hl1 hl2 hct
    go_wp2_with fail
    refine HSI.mono ?_
    rintro e w2 ⟨hout, hb2⟩
    have HB2 : Hid (Below w.heap.size w w2 ∧ w2.heap[w.heap.size]? = some (.cells #[.slice none 0 0, .slice none 0 0] 65 (0, 0))) := ⟨below_bt HB1.out.1 hb2, block_below HB1.out.2 hb2⟩
    have H2 : Hid (BIn w2 p1 xi) := H1.out.1.1.below hb2
    clear hb2 HSI
    rcases hout with ⟨ns, v2, hst, rfl, ho2⟩ | ⟨q2, n2, c2', hst, rfl⟩
    · obtain ⟨q2, c2', rfl, _, _, _⟩ := ho2.form
      obtain ⟨hf1, hf2⟩ := sizesT_few hst
      have HST : Hid (sizesT yi = some ns) := hst
      have HPG := readPages_any p1 xi.length c1 xi q2 ns.length c2' ns w2 rfl H2.out H1.out.1.2 H1.out.2 rfl ho2.ints hf1 hf2
      clear hst ho2 hf1 hf2
      go_wp2_with fail
      refine HPG.mono ?_
      rintro e w3 ⟨hout, hb3⟩
      have HB3 : Hid (Below w.heap.size w w3 ∧ w3.heap[w.heap.size]? = some (.cells #[.slice none 0 0, .slice none 0 0] 65 (0, 0))) := ⟨below_bt HB2.out.1 hb3, block_below HB2.out.2 hb3⟩
      clear hb3 HPG
      rcases hout with ⟨ss, v3, hpr, rfl, ho3, hok, hfew⟩ | ⟨hpr, rfl⟩
      · obtain ⟨q3, c3, rfl, _, _, _⟩ := ho3.form
        have HRI := readT_is HCT.out HST.out hpr
        rw [pagesOf_len] at HRI
        have HRI' : Hid (readT xs = if 0 < ss.length ∧ checkE (pagesOf ss).flatten = 0 ∧ tableN (pagesOf ss) = xs then some (pagesOf ss) else none) := HRI
        have HS3 : Hid (SOwn w3 w2.heap.size (.slice q3 ss.length c3) ss ∧ OkT ss ∧ (pagesN (pagesOf ss)).length ≤ 524288) := ⟨ho3, hok, hfew⟩
        obtain ⟨L, hL⟩ : ∃ L, (pagesOf ss).flatten = L := ⟨_, rfl⟩
        have HL : Hid ((pagesOf ss).flatten = L) := hL
        rw [hL]
        clear hpr ho3 hok hfew HRI hL
        by_cases hgood : 0 < ss.length ∧ checkE L = 0
        · have hL0 : 0 < L.length := by
            rw [← HL.out]
            have h1 := len_flat (pagesOf ss) (fun p hp => by
              obtain ⟨s, hs, rfl⟩ := List.mem_map.1 hp
              exact (HS3.out.2.1.ok s hs).2.2)
            rw [pagesOf_len] at h1
            omega
          have HTO := tableOf_any q3 c3 ss w3 HS3.out.1.sheets HS3.out.2.1.few L HL.out hgood.2 hL0
          have HG : Hid (0 < ss.length ∧ checkE L = 0) := hgood
          rw [decide_eq_true hgood]
          clear hgood hL0
          go_wp2_with fail
          refine HTO.mono ?_
          rintro e w4 ⟨vs, rfl, hr4, hb4⟩
          obtain ⟨p4, c4, rfl, hbs, hcs1, hcs2, hcs3⟩ := hr4.lies
          have bx := below_alloc w4 (.cells #[.slice q3 ss.length c3, .slice p4 (sieveN L).length c4] 65)
          have HB5 : Hid (Below w.heap.size w (w4.alloc (.cells #[.slice q3 ss.length c3, .slice p4 (sieveN L).length c4] 65)) ∧ (w4.alloc (.cells #[.slice q3 ss.length c3, .slice p4 (sieveN L).length c4] 65)).heap[w.heap.size]? = some (.cells #[.slice none 0 0, .slice none 0 0] 65 (0, 0))) := ⟨below_bt (below_bt HB3.out.1 hb4) bx, block_below (block_below HB3.out.2 hb4) bx⟩
          have HS5 : Hid (SOwn (w4.alloc (.cells #[.slice q3 ss.length c3, .slice p4 (sieveN L).length c4] 65)) w2.heap.size (.slice q3 ss.length c3) ss) := (HS3.out.1.below hb4).below bx
          have HV5 : Hid (BIn (w4.alloc (.cells #[.slice q3 ss.length c3, .slice p4 (sieveN L).length c4] 65)) p4 (sieveN L)) := hbs.below bx
          have HX5 : Hid ((w4.alloc (.cells #[.slice q3 ss.length c3, .slice p4 (sieveN L).length c4] 65)).heap[w4.heap.size]? = some (.cells #[.slice q3 ss.length c3, .slice p4 (sieveN L).length c4] 65 (0, 0))) := heap_alloc_new _ _
          have HBY := bytes_any q3 ss.length c3 p4 (sieveN L).length c4 ss _ HS5.out.sheets HS3.out.2.1 L HL.out HV5.out rfl hcs3 (by have := HS3.out.2.2; omega)
          clear hr4 hb4 hbs hcs1 hcs2 hcs3 bx HTO
          go_wp2_with fail
          refine HBY.mono ?_
          rintro e w6 ⟨v6, rfl, ho6, hb6⟩
          obtain ⟨p6, c6, rfl, _, _, _⟩ := own_form ho6
          have HB6 : Hid (Below w.heap.size w w6 ∧ w6.heap[w.heap.size]? = some (.cells #[.slice none 0 0, .slice none 0 0] 65 (0, 0))) := ⟨below_bt HB5.out.1 hb6, block_below HB5.out.2 hb6⟩
          have HS6 : Hid (SOwn w6 w2.heap.size (.slice q3 ss.length c3) ss ∧ BIn w6 p4 (sieveN L)) := ⟨HS5.out.below hb6, HV5.out.below hb6⟩
          obtain ⟨⟨y0, y1⟩, _, _⟩ := two2 (block_below HX5.out hb6)
          obtain ⟨⟨z0, z1⟩, f0, f1⟩ := two2 HB6.out.2
          obtain ⟨r, hr⟩ : ∃ r, decide (tableN (pagesOf ss) = xs) = r := ⟨_, rfl⟩
          have HFT : Hid (Fits (pagesOf ss)) := by
            have h1 := HS3.out.2.2
            have h2 := idxK_len HS3.out.2.1 ss.length
            rw [idxK_all (Nat.le_refl _)] at h2
            have h3 := HS3.out.2.1.few.l
            exact ⟨by omega, by omega, by rw [sieveN_len]; omega⟩
          have HEQ := equal_any p6 p (tableN (pagesOf ss)).length n c6 c _ xs w6 (own_in ho6 (tableN_lt HFT.out)) (HX.out.1.below HB6.out.1) rfl HX.out.2 r hr
          have HRR : Hid (decide (tableN (pagesOf ss) = xs) = r) := hr
          have hneb : ¬ w4.heap.size = w.heap.size := by
            have := HB3.out.1.size
            have h1 : w.heap.size < w3.heap.size := lt_heap HB3.out.2
            have h2 : w.heap.size < (w4.alloc (.cells #[.slice q3 ss.length c3, .slice p4 (sieveN L).length c4] 65)).heap.size := lt_heap HB5.out.2
            intro e
            have h3 := HX5.out
            rw [e, HB5.out.2] at h3
            simp only [Option.some.injEq, Obj.cells.injEq] at h3
            have h4 := congrArg (fun a : Array Value => a.getD 0 undef) h3.1
            simp at h4
            have := HG.out.1
            omega
          clear ho6 hb6 HBY hr
          go_wp2_with fail
          refine HEQ.mono ?_
          rintro e w7 ⟨rfl, rfl⟩
          clear HEQ
          cases r with
          | false =>
            have HNN : Hid (readT xs = none) := by show _ = _; rw [HRI'.out, if_neg (fun h => of_decide_eq_false HRR.out h.2.2)]
            go_wp2
            (try simp only [Exit.inBlock, Exit.then])
            refine bodyPost_ret (v := .tuple #[.agg #[.slice none 0 0, .slice none 0 0], .int .i64 90]) ?_ rfl ⟨.inr ⟨HNN.out, rfl⟩, set2_at HB6.out.1 (Nat.le_refl _)⟩
            rw [results_cell_tmp rfl]
            go_simp
          | true =>
            have HYY : Hid (readT xs = some (pagesOf ss)) := by show _ = _; rw [HRI'.out, if_pos ⟨HG.out.1, by rw [HL.out]; exact HG.out.2, of_decide_eq_true HRR.out⟩]
            go_wp2
            (try simp only [Exit.inBlock, Exit.then])
            refine bodyPost_ret (v := .tuple #[.agg #[.slice q3 ss.length c3, .slice p4 (sieveN L).length c4], .int .i64 0]) ?_ rfl ⟨.inl ⟨ss, q3, c3, p4, _, c4, HYY.out, rfl, ⟨HS6.out.1.box HB6.out.2 (grown_two _ _ _ _), ?_, by rw [HL.out], HS3.out.2.1⟩⟩, set2_at HB6.out.1 (Nat.le_refl _)⟩
            · rw [results_cell_tmp rfl]
              go_simp
            · rw [HL.out]
              exact bin_grown HB6.out.2 (by simp) (by simp) HS6.out.2 (grown_two _ _ _ _)
        · have HNN : Hid (readT xs = none) := by show _ = _; rw [HRI'.out, if_neg (fun h => hgood ⟨h.1, by rw [← HL.out]; exact h.2.1⟩)]
          rw [decide_eq_false hgood]
          obtain ⟨⟨z0, z1⟩, f0, f1⟩ := two2 HB3.out.2
          clear hgood
          go_wp2
          (try simp only [Exit.inBlock, Exit.then])
          refine bodyPost_ret (v := .tuple #[.agg #[.slice none 0 0, .slice none 0 0], .int .i64 90]) ?_ rfl ⟨.inr ⟨HNN.out, rfl⟩, set2_at HB3.out.1 (Nat.le_refl _)⟩
          rw [results_cell_tmp rfl]
          go_simp
      · have HNN : Hid (readT xs = none) := readT_no3 HCT.out HST.out hpr
        obtain ⟨⟨z0, z1⟩, f0, f1⟩ := two2 HB3.out.2
        clear hpr
        go_wp2
        (try simp only [Exit.inBlock, Exit.then])
        refine bodyPost_ret (v := .tuple #[.agg #[.slice none 0 0, .slice none 0 0], .int .i64 90]) ?_ rfl ⟨.inr ⟨HNN.out, rfl⟩, set2_at HB3.out.1 (Nat.le_refl _)⟩
        rw [results_cell_tmp rfl]
        go_simp
    · have HNN : Hid (readT xs = none) := readT_no2 HCT.out hst
      obtain ⟨⟨z0, z1⟩, f0, f1⟩ := two2 HB2.out.2
      clear hst
      go_wp2
      (try simp only [Exit.inBlock, Exit.then])
      refine bodyPost_ret (v := .tuple #[.agg #[.slice none 0 0, .slice none 0 0], .int .i64 90]) ?_ rfl ⟨.inr ⟨HNN.out, rfl⟩, set2_at HB2.out.1 (Nat.le_refl _)⟩
      rw [results_cell_tmp rfl]
      go_simp
  · have HNN : Hid (readT xs = none) := readT_no1 hct
    obtain ⟨⟨z0, z1⟩, f0, f1⟩ := two2 HB1.out.2
    clear hct
    go_wp2
    (try simp only [Exit.inBlock, Exit.then])
    refine bodyPost_ret (v := .tuple #[.agg #[.slice none 0 0, .slice none 0 0], .int .i64 90]) ?_ rfl ⟨.inr ⟨HNN.out, rfl⟩, set2_at HB1.out.1 (Nat.le_refl _)⟩
    rw [results_cell_tmp rfl]
    go_simp
end Go.Proofs.Ytlcbjmbphekliaa
namespace Go.Proofs.Ytlcbjmbphekliaa
open Go.RowKit Go.WideShapes

def atE (k : ByteArray) (s : Int) : EntV := ⟨k, ByteArray.empty, s, false⟩
/-- The first entry that does not stand ahead, as the program looks for it. -/
def newP : List EntV → ByteArray → Int → Option (EntV × Bool)
  | [], _, _ => none
  | x :: l, k, s => if lessE x (atE k s) = true then newP l k s else some (ofKeyE x k)
def newS : List (List EntV) → ByteArray → Int → EntV × Bool
  | [], _, _ => (zeroE, false)
  | p :: ps, k, s => if ltB (lastKy p) k = true then newS ps k s else (newP p k s).getD (newS ps k s)
theorem newP_at {l : List EntV} {i : Nat} (h : i < l.length) {y : EntV} (hy : l.getD i zeroE = y) (k : ByteArray) (s : Int) : newP (l.drop i) k s = if lessE y (atE k s) = true then newP (l.drop (i + 1)) k s else some (ofKeyE y k) := by
  rw [dropE h, hy]; rfl
theorem newS_at {ss : List ShV} {i : Nat} (h : i < ss.length) {p : List EntV} (hp : (ss.getD i zeroS).ents = p) (k : ByteArray) (s : Int) : newS (pagesOf (ss.drop i)) k s = if ltB (lastKy p) k = true then newS (pagesOf (ss.drop (i + 1))) k s else (newP p k s).getD (newS (pagesOf (ss.drop (i + 1))) k s) := by
  rw [dropS h, ← hp]; rfl
theorem newP_end {l : List EntV} {i : Nat} (h : l.length ≤ i) (k : ByteArray) (s : Int) : newP (l.drop i) k s = none := by
  rw [List.drop_eq_nil_of_le h]; rfl
structure OnN (w : World) (k : ByteArray) (s : Int) (wr : World) : Prop where
  bel : Below w.heap.size w wr
  res : wr.heap[w.heap.size]? = some (.cells zE 29 (0, 0))
  at_ : wr.heap[w.heap.size + 1]? = some (.cells #[.string k, .string ⟨#[]⟩, .int .i64 s, .bool false] 29 (0, 0))
theorem OnN.next {w wr w' : World} {k : ByteArray} {s : Int} (h : OnN w k s wr) (hb : Below wr.heap.size wr w') : OnN w k s w' := ⟨below_bt h.bel hb, block_below h.res hb, block_below h.at_ hb⟩
theorem onN_new (w : World) (k : ByteArray) (s : Int) : OnN w k s ((w.alloc (.cells zE 29)).alloc (.cells #[.string k, .string ⟨#[]⟩, .int .i64 s, .bool false] 29)) := by
  refine ⟨below_bt (below_alloc _ _) (below_alloc _ _), block_below (heap_alloc_new _ _) (below_alloc _ _), ?_⟩
  have h := heap_alloc_new (w.alloc (.cells zE 29)) (.cells #[.string k, .string ⟨#[]⟩, .int .i64 s, .bool false] 29)
  rw [show (w.alloc (.cells zE 29)).heap.size = w.heap.size + 1 by simp] at h
  exact h
set_option maxRecDepth 8000 in
set_option maxHeartbeats 2000000 in
theorem newest_any (q : Option Addr) (n c : Nat) (ss : List ShV) (key : ByteArray) (seq : Int) (w : World) (h : Sheets w q n ss) (hz : n ≤ 1000000) (hl : (pagesOf ss).flatten.length ≤ 1000000) (y : EntV) (is : Bool) (hR : newS (pagesOf ss) key seq = (y, is)) :
    Calls Try.prog 34 #[.slice q n c, .string key, .int .i64 seq] w fun e w' => e = .returned (.tuple #[entV y, .bool is]) ∧ Below w.heap.size w w' := by
  have HS : Hid (Sheets w q n ss) := h
  have HN : Hid (n = ss.length) := h.n
  have HL : Hid ((pagesOf ss).flatten.length ≤ 1000000) := hl
  have hzI : (n : Int) ≤ 1000000 := by omega
  have HR : Hid (newS (pagesOf (ss.drop 0)) key seq = (y, is)) := hR
  have HNW : Hid (OnN w key seq ((w.alloc (.cells zE 29)).alloc (.cells #[.string key, .string ⟨#[]⟩, .int .i64 seq, .bool false] 29))) := onN_new w key seq
  clear h hl hR
  go_enter Try.func34, Try.ntmps34
  go_wp2
  go_loopw [18] (fun i wr => ∃ k : Nat, k ≤ n ∧ i = .int .i64 k ∧ newS (pagesOf (ss.drop k)) key seq = (y, is) ∧ OnN w key seq wr) (fun i _ => n - (intOf i).toNat)
  case atStart => exact ⟨0, by omega, rfl, HR.out, HNW.out⟩
  case round =>
    obtain ⟨k, hk, rfl, hnew, hon⟩ := hrel
    have HO : Hid (OnN w key seq wr) := hon
    have HW : Hid (newS (pagesOf (ss.drop k)) key seq = (y, is)) := hnew
    clear hon hnew HNW HR
    by_cases hkn : k < n
    · have hkI : (k : Int) < (n : Int) := by omega
      obtain ⟨b, o, rfl, qe, ce, qb, cb, p, hs, _, _, hok0⟩ := HS.out.get hkn
      have HEN : Hid (EntsIn w qe p) := hok0.ents
      obtain ⟨b', o', hbo, qe', ce', qb', cb', p', hs', e0, e1, hok⟩ := (HS.out.below HO.out.bel).get hkn
      rw [hs] at hs'
      simp only [ShV.mk.injEq] at hs'
      obtain ⟨rfl, rfl, rfl, rfl, rfl⟩ := hs'
      simp only [Option.some.injEq, Addr.mk.injEq, and_true] at hbo
      obtain ⟨rfl, rfl⟩ := hbo
      have hpl : p.length ≤ 1000000 := Nat.le_trans (len_mem (pages_mem (k := k) (by have := HN.out; omega) (by rw [hs]))) HL.out
      have hplI : (p.length : Int) ≤ 1000000 := by omega
      have HNA := newS_at (ss := ss) (i := k) (by have := HN.out; omega) (p := p) (by rw [hs]) key seq
      rw [HW.out] at HNA
      have HNA' : Hid ((y, is) = if ltB (lastKy p) key = true then newS (pagesOf (ss.drop (k + 1))) key seq else (newP p key seq).getD (newS (pagesOf (ss.drop (k + 1))) key seq)) := HNA
      have bx := below_alloc wr (.cells #[.slice qe p.length ce, .slice qb (pageN p).length cb] 92)
      have HBX : Hid ((wr.alloc (.cells #[.slice qe p.length ce, .slice qb (pageN p).length cb] 92)).heap[wr.heap.size]? = some (.cells #[.slice qe p.length ce, .slice qb (pageN p).length cb] 92 (0, 0))) := heap_alloc_new _ _
      have HO1 : Hid (OnN w key seq (wr.alloc (.cells #[.slice qe p.length ce, .slice qb (pageN p).length cb] 92))) := HO.out.next bx
      obtain ⟨kl, hkl⟩ : ∃ kl, lastKy p = kl := ⟨_, rfl⟩
      have HLA := slast_any qe p.length ce qb (pageN p).length cb p _ ⟨rfl, hok.ents.below bx⟩ hok.pos hpl kl hkl
      have HKL : Hid (lastKy p = kl) := hkl
      have HKN : Hid (k < n) := hkn
      clear hok hok0 hs bx hpl hkl hkn HNA
      cases hA : Op.bytesLess kl.toList key.toList with
      | true =>
        have HSK : Hid (newS (pagesOf (ss.drop (k + 1))) key seq = (y, is)) := by
          show _ = _
          rw [HNA'.out, if_pos (by simp [HKL.out, ltB, hA])]
        go_wp2_with fail
        refine HLA.mono ?_
        rintro e w2 ⟨rfl, hb2⟩
        have HO2 : Hid (OnN w key seq w2) := HO1.out.next hb2
        clear hb2 HLA
        go_wp2
        go_roundw
        case rel => exact ⟨k + 1, by have := HKN.out; omega, by go_num, HSK.out, HO2.out⟩
        case measure => have := HKN.out; simp [intOf]; omega
      | false =>
        have HSK : Hid ((newP (p.drop 0) key seq).getD (newS (pagesOf (ss.drop (k + 1))) key seq) = (y, is)) := by
          show _ = _
          rw [HNA'.out, if_neg (by simp [HKL.out, ltB, hA]), List.drop_zero]
        go_wp2_with fail
        refine HLA.mono ?_
        rintro e w2 ⟨rfl, hb2⟩
        obtain ⟨⟨c0, c1⟩, _, _⟩ := two2 (block_below HBX.out hb2)
        have HO2 : Hid (OnN w key seq w2) := HO1.out.next hb2
        clear hb2 HLA
        go_wp2
        go_loopw [29] (fun i wr => ∃ j : Nat, j ≤ p.length ∧ i = .int .i64 j ∧ (newP (p.drop j) key seq).getD (newS (pagesOf (ss.drop (k + 1))) key seq) = (y, is) ∧ OnN w key seq wr) (fun i _ => p.length - (intOf i).toNat)
        case atStart => exact ⟨0, by omega, rfl, HSK.out, HO2.out⟩
        case round =>
          obtain ⟨j, hj, rfl, hnj, hon⟩ := hrel
          have HOJ : Hid (OnN w key seq wr) := hon
          have HWJ : Hid ((newP (p.drop j) key seq).getD (newS (pagesOf (ss.drop (k + 1))) key seq) = (y, is)) := hnj
          clear hon hnj HSK
          by_cases hjn : j < p.length
          · have hjI : (j : Int) < (p.length : Int) := by omega
            have hen := HEN.out.below HOJ.out.bel
            obtain ⟨be, oe, rfl⟩ := hen.addr (by omega)
            obtain ⟨x0, x1, x2, x3⟩ := hen.at hjn
            obtain ⟨x, hx⟩ : ∃ x, p.getD j zeroE = x := ⟨_, rfl⟩
            rw [hx] at x0 x1 x2 x3
            have HPA := newP_at hjn hx key seq
            obtain ⟨ke, ve, se, ge⟩ := x
            simp only at x0 x1 x2 x3
            obtain ⟨r, hr⟩ : ∃ r, lessE ⟨ke, ve, se, ge⟩ (atE key seq) = r := ⟨_, rfl⟩
            rw [hr] at HPA
            have HPA' : Hid (newP (p.drop j) key seq = if r = true then newP (p.drop (j + 1)) key seq else some (ofKeyE ⟨ke, ve, se, ge⟩ key)) := HPA
            have HJN : Hid (j < p.length) := hjn
            have bx := below_alloc wr (.cells #[.string ke, .string ve, .int .i64 se, .bool ge] 29)
            have HOX : Hid (OnN w key seq (wr.alloc (.cells #[.string ke, .string ve, .int .i64 se, .bool ge] 29))) := HOJ.out.next bx
            have HBE : Hid ((wr.alloc (.cells #[.string ke, .string ve, .int .i64 se, .bool ge] 29)).heap[wr.heap.size]? = some (.cells #[.string ke, .string ve, .int .i64 se, .bool ge] 29 (0, 0))) := heap_alloc_new _ _
            obtain ⟨⟨a0, a1, a2, a3⟩, _⟩ := four HOX.out.at_
            have HLE := fun w' => less_any ⟨ke, ve, se, ge⟩ (atE key seq) w'
            rw [hr, entV_def] at HLE
            unfold atE at HLE
            rw [entV_def] at HLE
            clear hen hx HPA hjn bx hr
            cases r with
            | true =>
              have H2 : Hid ((newP (p.drop (j + 1)) key seq).getD (newS (pagesOf (ss.drop (k + 1))) key seq) = (y, is)) := by
                have := HWJ.out
                rw [HPA'.out, if_pos rfl] at this
                exact this
              go_wp2_with fail
              refine (HLE _).mono ?_
              rintro e w3 ⟨rfl, hb3⟩
              have HO3 : Hid (OnN w key seq w3) := HOX.out.next hb3
              clear hb3 HLE
              go_wp2
              go_roundw
              case rel => exact ⟨j + 1, by have := HJN.out; omega, by go_num, H2.out, HO3.out⟩
              case measure => have := HJN.out; simp [intOf]; omega
            | false =>
              have H2 : Hid (ofKeyE ⟨ke, ve, se, ge⟩ key = (y, is)) := by
                have := HWJ.out
                rw [HPA'.out, if_neg (by simp)] at this
                exact this
              go_wp2_with fail
              refine (HLE _).mono ?_
              rintro e w3 ⟨rfl, hb3⟩
              have HO3 : Hid (OnN w key seq w3) := HOX.out.next hb3
              obtain ⟨⟨d0, d1, d2, d3⟩, _⟩ := four (block_below HBE.out hb3)
              have HOF := ofKey_any ⟨ke, ve, se, ge⟩ key w3 y is H2.out
              rw [entV_def] at HOF
              clear hb3 HLE a0 a1 a2 a3
              go_wp2_with fail
              refine HOF.mono ?_
              rintro e w4 ⟨rfl, hb4⟩
              have HO4 : Hid (OnN w key seq w4) := HO3.out.next hb4
              obtain ⟨⟨z0, z1, z2, z3⟩, f0, f1, f2, f3⟩ := four HO4.out.res
              obtain ⟨ky, vy, sy, gy⟩ := y
              rw [entV_def]
              clear hb4 HOF d0 d1 d2 d3
              go_wp2
              (try simp only [Exit.inBlock, Exit.then])
              refine bodyPost_ret (v := .tuple #[entV ⟨ky, vy, sy, gy⟩, .bool is]) ?_ rfl ⟨rfl, ?_⟩
              · rw [results_cell_tmp rfl]
                go_simp
                rfl
              · exact set4_at HO4.out.bel (Nat.le_refl _)
          · have hjI : (p.length : Int) ≤ (j : Int) := by omega
            have H2 : Hid (newS (pagesOf (ss.drop (k + 1))) key seq = (y, is)) := by
              have := HWJ.out
              rw [newP_end (by omega)] at this
              exact this
            go_wp2
            go_roundw
            case rel => exact ⟨k + 1, by have := HKN.out; omega, by go_num, H2.out, HOJ.out⟩
            case measure => have := HKN.out; simp [intOf]; omega
    · have hkI : (n : Int) ≤ (k : Int) := by omega
      have HY : Hid (y = zeroE ∧ is = false) := by
        have := HW.out
        rw [List.drop_eq_nil_of_le (by have := HN.out; omega)] at this
        simp only [pagesOf, List.map_nil, newS, Prod.mk.injEq] at this
        exact ⟨this.1.symm, this.2.symm⟩
      obtain ⟨⟨z0, z1, z2, z3⟩, f0, f1, f2, f3⟩ := four HO.out.res
      go_wp2
      (try simp only [Exit.inBlock, Exit.then])
      refine bodyPost_ret (v := .tuple #[entV zeroE, .bool false]) ?_ rfl ⟨by rw [HY.out.1, HY.out.2], ?_⟩
      · rw [results_cell_tmp rfl]
        go_simp
        rfl
      · exact set4_at HO.out.bel (Nat.le_refl _)
end Go.Proofs.Ytlcbjmbphekliaa
namespace Go.Proofs.Ytlcbjmbphekliaa
open Go.RowKit Go.WideShapes

theorem table_long {ps : List (List EntV)} (h : 524288 < (pagesN ps).length) : 524288 < (tableN ps).length := by rw [tableN_len]; omega
theorem okt_of {l : List EntV} {ss : List ShV} (hs : pagesOf ss = partE l) (hc : checkE l = 0) (hf : (pagesN (pagesOf ss)).length ≤ 524288) : OkT ss := by
  refine ⟨few_of hf (by omega), fun s hm => ?_⟩
  have hp : s.ents ∈ partE l := by rw [← hs]; exact List.mem_map.2 ⟨s, hm, rfl⟩
  obtain ⟨h1, h2⟩ := (parts_is l).small hc _ hp
  exact ⟨h1, by omega, (parts_is l).pos _ hp⟩
set_option maxRecDepth 8000 in
set_option maxHeartbeats 1000000 in
theorem Make_t (q : Option Addr) (n c : Nat) (l : List EntV) (w : World) (h : EntsL w q n l) (hcap : n ≤ c ∧ c ≤ maxLen) (ys : List Nat) (E : Nat) (hR : makeT l = (ys, E)) :
    Calls Try.prog 9 #[.slice q n c] w fun e w' => ∃ v, e = .returned (.tuple #[v, .int .i64 (E : Int)]) ∧ w'.ownsRow w.heap.size 5 1 v ys.length (Bs ys) ∧ Below w.heap.size w w' := by
  obtain ⟨C, hC⟩ : ∃ C, checkE l = C := ⟨_, rfl⟩
  have HCK := Check_any q n c l w h C hC
  have HR : Hid (makeT l = (ys, E)) := hR
  have HE : Hid (EntsL w q n l ∧ n ≤ c ∧ c ≤ maxLen) := ⟨h, hcap⟩
  have HC : Hid (checkE l = C) := hC
  clear h hR hC hcap
  go_enter Try.func9, Try.ntmps9
  go_wp2_with fail
  refine HCK.mono ?_
  rintro e w1 ⟨rfl, hb1⟩
  have HB1 : Hid (Below w.heap.size w w1) := hb1
  clear hb1 HCK
  rcases Nat.eq_zero_or_pos C with h0 | h0
  · subst h0
    by_cases hn0 : n = 0
    · have HY : Hid (ys = [] ∧ E = 90) := by
        have := makeT_none HC.out (by have := HE.out.1.n; omega)
        rw [HR.out] at this
        show _ ∧ _
        simpa using this
      subst hn0
      go_wp2
      go_ret2
      exact ⟨.slice none 0 0, by rw [HY.out.2]; rfl, by rw [HY.out.1]; exact World.ownsRow_nil _ _ _ _, HB1.out⟩
    · have gn : ((n : Int) == 0) = false := by simp; omega
      have gn' : ¬ (n : Int) = 0 := by omega
      have HPA := part_any q n c l w1 (HE.out.1.below HB1.out) HC.out HE.out.2
      have HN0 : Hid (0 < l.length) := by have := HE.out.1.n; show 0 < l.length; omega
      clear hn0
      go_wp2_with fail
      refine HPA.mono ?_
      rintro e w2 ⟨hout, hb2⟩
      have HB2 : Hid (Below w.heap.size w w2) := below_bt HB1.out hb2
      clear hb2 HPA
      rcases hout with ⟨v2, ss, rfl, ho2, hps, hfew⟩ | ⟨rfl, hbig⟩
      · obtain ⟨q2, c2, rfl, _, _, _⟩ := ho2.form
        have hfl : (pagesOf ss).flatten = l := by rw [hps]; exact (parts_is l).flat
        have hok : OkT ss := okt_of hps HC.out (by rw [hps]; exact hfew)
        have HTO := tableOf_any q2 c2 ss w2 ho2.sheets hok.few l hfl HC.out HN0.out
        have HS : Hid (SOwn w2 w1.heap.size (.slice q2 ss.length c2) ss ∧ pagesOf ss = partE l ∧ (pagesN (pagesOf ss)).length ≤ 524288 ∧ OkT ss ∧ (pagesOf ss).flatten = l) := ⟨ho2, hps, by rw [hps]; exact hfew, hok, hfl⟩
        clear ho2 hps hfew hfl hok
        go_wp2_with fail
        refine HTO.mono ?_
        rintro e w3 ⟨vs, rfl, hr3, hb3⟩
        obtain ⟨p3, c3, rfl, hbs, _, _, hp3⟩ := hr3.lies
        have HB3 : Hid (Below w.heap.size w w3) := below_bt HB2.out hb3
        have HBY := bytes_any q2 ss.length c2 p3 (sieveN l).length c3 ss w3 (HS.out.1.sheets.below hb3) HS.out.2.2.2.1 l HS.out.2.2.2.2 hbs rfl hp3 (by have := HS.out.2.2.1; omega)
        clear hr3 hb3 hbs hp3 HTO
        go_wp2_with fail
        refine HBY.mono ?_
        rintro e w4 ⟨v4, rfl, ho4, hb4⟩
        have HB4 : Hid (Below w.heap.size w w4) := below_bt HB3.out hb4
        have HO4 : Hid (w4.ownsRow w.heap.size 5 1 v4 (tableN (partE l)).length (Bs (tableN (partE l)))) := by rw [← HS.out.2.1]; exact own_mono ho4 HB3.out.size
        obtain ⟨T, hT⟩ : ∃ T, tableN (partE l) = T := ⟨_, rfl⟩
        rw [hT] at HO4
        have HT : Hid (tableN (partE l) = T) := hT
        obtain ⟨p4, c4, rfl, _, _, _⟩ := own_form HO4.out
        clear ho4 hb4 HBY hT
        by_cases hbig : 524288 < T.length
        · have gb : decide ((524288 : Int) < (T.length : Int)) = true := decide_eq_true (by omega)
          have gb' : (524288 : Int) < (T.length : Int) := by omega
          have HY : Hid (ys = [] ∧ E = 7) := by
            have := makeT_cap HC.out HN0.out (by rw [HT.out]; exact hbig)
            rw [HR.out] at this
            show _ ∧ _
            simpa using this
          clear hbig
          go_wp2
          go_ret2
          exact ⟨.slice none 0 0, by rw [HY.out.2]; rfl, by rw [HY.out.1]; exact World.ownsRow_nil _ _ _ _, HB4.out⟩
        · have gb : decide ((524288 : Int) < (T.length : Int)) = false := decide_eq_false (by omega)
          have gb' : (T.length : Int) ≤ 524288 := by omega
          have HY : Hid (ys = T ∧ E = 0) := by
            have := makeT_is HC.out HN0.out (by rw [HT.out]; omega)
            rw [HR.out, HT.out] at this
            show _ ∧ _
            simpa using this
          clear hbig
          go_wp2
          go_ret2
          exact ⟨_, by rw [HY.out.2]; rfl, by rw [HY.out.1]; exact HO4.out, HB4.out⟩
      · have HY : Hid (ys = [] ∧ E = 7) := by
          have := makeT_cap HC.out HN0.out (table_long hbig)
          rw [HR.out] at this
          show _ ∧ _
          simpa using this
        clear hbig
        go_wp2
        go_ret2
        exact ⟨.slice none 0 0, by rw [HY.out.2]; rfl, by rw [HY.out.1]; exact World.ownsRow_nil _ _ _ _, HB2.out⟩
  · have hne : ((C : Int) != 0) = true := by simp; omega
    have HY : Hid (ys = [] ∧ E = C) := by
      have := makeT_bad (l := l) (by rw [HC.out]; omega)
      rw [HR.out, HC.out] at this
      show _ ∧ _
      simpa using this
    clear h0
    go_wp2
    go_ret2
    exact ⟨.slice none 0 0, by rw [HY.out.2]; rfl, by rw [HY.out.1]; exact World.ownsRow_nil _ _ _ _, HB1.out⟩
noncomputable def okT (xs : List Nat) : Nat := match readT xs with
  | none => 90
  | some _ => 0
theorem okT_none {xs : List Nat} (h : readT xs = none) : okT xs = 90 := by unfold okT; rw [h]
theorem okT_some {xs : List Nat} {ps : List (List EntV)} (h : readT xs = some ps) : okT xs = 0 := by unfold okT; rw [h]
/-- Bytes as they are handed in. -/
structure BHand (w : World) (p : Option Addr) (n c : Nat) (xs : List Nat) : Prop where
  len : n = xs.length
  bin : BIn w p xs
  cap : n ≤ c ∧ c ≤ maxLen ∧ (p = none → c = 0)
theorem BHand.below {w w' : World} {p : Option Addr} {n c : Nat} {xs : List Nat} (h : BHand w p n c xs) (hb : Below w.heap.size w w') : BHand w' p n c xs := ⟨h.len, h.bin.below hb, h.cap⟩
theorem Check_t (p : Option Addr) (n c : Nat) (xs : List Nat) (w : World) (h : BHand w p n c xs) (E : Nat) (hE : okT xs = E) :
    Calls Try.prog 16 #[.slice p n c] w fun e w' => e = .returned (.int .i64 (E : Int)) ∧ Below w.heap.size w w' := by
  have HRD := read_anyT p n c xs w h.len h.bin h.cap
  have HE : Hid (okT xs = E) := hE
  clear h hE
  go_enter Try.func16, Try.ntmps16
  go_wp2_with fail
  refine HRD.mono ?_
  rintro e w1 ⟨hout, hb1⟩
  have HB1 : Hid (Below w.heap.size w w1) := hb1
  clear hb1 HRD
  rcases hout with ⟨ss, q, c', ps, m, cp, hr, rfl, _⟩ | ⟨hr, rfl⟩
  · have HZ : Hid (E = 0) := by show _ = _; rw [← HE.out, okT_some hr]
    clear hr
    go_wp2
    go_ret
    exact ⟨by rw [HZ.out]; rfl, below_bt HB1.out (below_alloc _ _)⟩
  · have HZ : Hid (E = 90) := by show _ = _; rw [← HE.out, okT_none hr]
    clear hr
    go_wp2
    go_ret
    exact ⟨by rw [HZ.out]; rfl, below_bt HB1.out (below_alloc _ _)⟩
noncomputable def allT (xs : List Nat) : List EntV := match readT xs with
  | none => []
  | some ps => ps.flatten
noncomputable def countT (xs : List Nat) : Nat := match readT xs with
  | none => 0
  | some ps => ps.length
theorem sheets_none (w : World) : Sheets w none 0 [] := ⟨rfl, fun h => absurd h (by simp), by simp⟩
theorem All_t (p : Option Addr) (n c : Nat) (xs : List Nat) (w : World) (h : BHand w p n c xs) (E : Nat) (hE : okT xs = E) (l : List EntV) (hl : allT xs = l) :
    Calls Try.prog 22 #[.slice p n c] w fun e w' => ∃ v, e = .returned (.tuple #[v, .int .i64 (E : Int)]) ∧ EOwn w' w.heap.size v l ∧ Below w.heap.size w w' := by
  have HRD := read_anyT p n c xs w h.len h.bin h.cap
  have HE : Hid (okT xs = E ∧ allT xs = l) := ⟨hE, hl⟩
  clear h hE hl
  go_enter Try.func22, Try.ntmps22
  go_wp2_with fail
  refine HRD.mono ?_
  rintro e w1 ⟨hout, hb1⟩
  have HB1 : Hid (Below w.heap.size w w1) := hb1
  clear hb1 HRD
  rcases hout with ⟨ss, q, c', ps, m, cp, hr, rfl, ht⟩ | ⟨hr, rfl⟩
  · have HZ : Hid (E = 0 ∧ (pagesOf ss).flatten = l) := ⟨by rw [← HE.out.1, okT_some hr], by rw [← HE.out.2]; unfold allT; rw [hr]⟩
    have HAL := pall_any q ss.length c' ss _ (ht.sheets.below (below_alloc w1 (.cells #[.slice q ss.length c', .slice ps m cp] 65))) ht.ok.few.n ht.ok.few.l
    rw [HZ.out.2] at HAL
    clear hr ht
    go_wp2_with fail
    refine HAL.mono ?_
    rintro e w2 ⟨v2, rfl, ho2, hb2⟩
    have HB2 : Hid (Below w.heap.size w w2) := below_bt (below_bt HB1.out (below_alloc _ _)) hb2
    have HO2 : Hid (EOwn w2 w.heap.size v2 l) := own_mono ho2 (below_bt HB1.out (below_alloc _ _)).size
    clear ho2 hb2 HAL
    go_wp2
    go_ret2
    exact ⟨v2, by rw [HZ.out.1]; rfl, HO2.out, HB2.out⟩
  · have HZ : Hid (E = 90 ∧ l = []) := ⟨by rw [← HE.out.1, okT_none hr], by rw [← HE.out.2]; unfold allT; rw [hr]⟩
    have HAL := pall_any none 0 0 [] (w1.alloc (.cells #[.slice none 0 0, .slice none 0 0] 65)) (sheets_none _) (by omega) (by simp [pagesOf])
    clear hr
    go_wp2_with fail
    refine HAL.mono ?_
    rintro e w2 ⟨v2, rfl, ho2, hb2⟩
    have HB2 : Hid (Below w.heap.size w w2) := below_bt (below_bt HB1.out (below_alloc _ _)) hb2
    have HO2 : Hid (EOwn w2 w.heap.size v2 l) := by rw [HZ.out.2]; exact own_mono ho2 (below_bt HB1.out (below_alloc _ _)).size
    clear ho2 hb2 HAL
    go_wp2
    go_ret2
    exact ⟨v2, by rw [HZ.out.1]; rfl, HO2.out, HB2.out⟩
theorem Pages_t (p : Option Addr) (n c : Nat) (xs : List Nat) (w : World) (h : BHand w p n c xs) (E : Nat) (hE : okT xs = E) (N : Nat) (hN : countT xs = N) :
    Calls Try.prog 14 #[.slice p n c] w fun e w' => e = .returned (.tuple #[.int .i64 (N : Int), .int .i64 (E : Int)]) ∧ Below w.heap.size w w' := by
  have HRD := read_anyT p n c xs w h.len h.bin h.cap
  have HE : Hid (okT xs = E ∧ countT xs = N) := ⟨hE, hN⟩
  clear h hE hN
  go_enter Try.func14, Try.ntmps14
  go_wp2_with fail
  refine HRD.mono ?_
  rintro e w1 ⟨hout, hb1⟩
  have HB1 : Hid (Below w.heap.size w w1) := hb1
  clear hb1 HRD
  rcases hout with ⟨ss, q, c', ps, m, cp, hr, rfl, ht⟩ | ⟨hr, rfl⟩
  · have HZ : Hid (E = 0 ∧ N = ss.length) := ⟨by rw [← HE.out.1, okT_some hr], by rw [← HE.out.2]; unfold countT; rw [hr]; exact pagesOf_len ss⟩
    clear hr ht
    go_wp2_with fail
    refine (pcount_any q ss.length c' _).mono ?_
    rintro e w2 ⟨rfl, rfl⟩
    go_wp2
    go_ret2
    exact ⟨by rw [HZ.out.1, HZ.out.2]; rfl, below_bt HB1.out (below_alloc _ _)⟩
  · have HZ : Hid (E = 90 ∧ N = 0) := ⟨by rw [← HE.out.1, okT_none hr], by rw [← HE.out.2]; unfold countT; rw [hr]⟩
    clear hr
    go_wp2_with fail
    refine (pcount_any none 0 0 _).mono ?_
    rintro e w2 ⟨rfl, rfl⟩
    go_wp2
    go_ret2
    exact ⟨by rw [HZ.out.1, HZ.out.2]; rfl, below_bt HB1.out (below_alloc _ _)⟩
noncomputable def rangeG (ps : List (List EntV)) (f t : ByteArray) : List EntV := if t = ByteArray.empty then betG (skipA f) (keepA f) ps else betG (skipT f t) (keepT f t) ps
theorem between_u (q : Option Addr) (n c : Nat) (ss : List ShV) (f t : ByteArray) (w : World) (h : Sheets w q n ss) (hz : n ≤ 1000000) (hl : (pagesOf ss).flatten.length ≤ 1000000) (L : List EntV) (hL : rangeG (pagesOf ss) f t = L) :
    Calls Try.prog 35 #[.slice q n c, .string f, .string t] w fun e w' => ∃ v, e = .returned v ∧ EOwn w' w.heap.size v L ∧ Below w.heap.size w w' := by
  subst hL
  unfold rangeG
  by_cases ht : t = ByteArray.empty
  · subst ht
    rw [if_pos rfl]
    exact betweenA q n c ss f w h hz hl
  · rw [if_neg ht]
    exact betweenT q n c ss f t ht w h hz hl
noncomputable def rangeT (xs : List Nat) (f t : ByteArray) : List EntV × Nat := match readT xs with
  | none => ([], 90)
  | some ps => if 256 < f.size ∨ 256 < t.size then ([], 3) else (rangeG ps f t, 0)
theorem rangeT_none {xs : List Nat} (h : readT xs = none) (f t : ByteArray) : rangeT xs f t = ([], 90) := by unfold rangeT; rw [h]
theorem rangeT_some {xs : List Nat} {ps : List (List EntV)} (h : readT xs = some ps) (f t : ByteArray) : rangeT xs f t = if 256 < f.size ∨ 256 < t.size then ([], 3) else (rangeG ps f t, 0) := by unfold rangeT; rw [h]
set_option maxHeartbeats 1000000 in
theorem Range_t (p : Option Addr) (n c : Nat) (xs : List Nat) (f t : ByteArray) (w : World) (h : BHand w p n c xs) (L : List EntV) (E : Nat) (hR : rangeT xs f t = (L, E)) (hf : (f.size : Int) ≤ 9223372036854775807) (ht : (t.size : Int) ≤ 9223372036854775807) :
    Calls Try.prog 12 #[.slice p n c, .string f, .string t] w fun e w' => ∃ v, e = .returned (.tuple #[v, .int .i64 (E : Int)]) ∧ EOwn w' w.heap.size v L ∧ Below w.heap.size w w' := by
  have HRD := read_anyT p n c xs w h.len h.bin h.cap
  have HR : Hid (rangeT xs f t = (L, E)) := hR
  clear h hR
  go_enter Try.func12, Try.ntmps12
  go_wp2_with fail
  refine HRD.mono ?_
  rintro e w1 ⟨hout, hb1⟩
  have HB1 : Hid (Below w.heap.size w w1) := hb1
  clear hb1 HRD
  rcases hout with ⟨ss, q, c', ps, m, cp, hr, rfl, htab⟩ | ⟨hr, rfl⟩
  · have HZ := rangeT_some hr f t
    rw [HR.out] at HZ
    have HZ' : Hid ((L, E) = if 256 < f.size ∨ 256 < t.size then ([], 3) else (rangeG (pagesOf ss) f t, 0)) := HZ
    have HT : Hid (TabOf w1 q ss ps m cp) := htab
    clear hr HZ htab
    by_cases h1 : 256 < f.size
    · have g1 : decide ((256 : Int) < (f.size : Int)) = true := decide_eq_true (by omega)
      have g1' : (256 : Int) < (f.size : Int) := by omega
      have HY : Hid (L = [] ∧ E = 3) := by have := HZ'.out; rw [if_pos (.inl h1)] at this; exact ⟨(Prod.mk.inj this).1, (Prod.mk.inj this).2⟩
      clear h1 hf ht
      go_wp2
      go_ret2
      exact ⟨.slice none 0 0, by rw [HY.out.2]; rfl, by rw [HY.out.1]; exact eown_nil _ _, below_bt HB1.out (below_alloc _ _)⟩
    · have g1 : decide ((256 : Int) < (f.size : Int)) = false := decide_eq_false (by omega)
      have g1' : (f.size : Int) ≤ 256 := by omega
      by_cases h2 : 256 < t.size
      · have g2 : decide ((256 : Int) < (t.size : Int)) = true := decide_eq_true (by omega)
        have g2' : (256 : Int) < (t.size : Int) := by omega
        have HY : Hid (L = [] ∧ E = 3) := by have := HZ'.out; rw [if_pos (.inr h2)] at this; exact ⟨(Prod.mk.inj this).1, (Prod.mk.inj this).2⟩
        clear h1 h2 hf ht
        go_wp2
        go_ret2
        exact ⟨.slice none 0 0, by rw [HY.out.2]; rfl, by rw [HY.out.1]; exact eown_nil _ _, below_bt HB1.out (below_alloc _ _)⟩
      · have g2 : decide ((256 : Int) < (t.size : Int)) = false := decide_eq_false (by omega)
        have g2' : (t.size : Int) ≤ 256 := by omega
        have HY : Hid (rangeG (pagesOf ss) f t = L ∧ E = 0) := by have := HZ'.out; rw [if_neg (by omega)] at this; exact ⟨(Prod.mk.inj this).1.symm, (Prod.mk.inj this).2⟩
        have HBT := between_u q ss.length c' ss f t _ (HT.out.sheets.below (below_alloc w1 (.cells #[.slice q ss.length c', .slice ps m cp] 65))) HT.out.ok.few.n HT.out.ok.few.l L HY.out.1
        clear h1 h2 hf ht
        go_wp2_with fail
        refine HBT.mono ?_
        rintro e w2 ⟨v2, rfl, ho2, hb2⟩
        have HB2 : Hid (Below w.heap.size w w2) := below_bt (below_bt HB1.out (below_alloc _ _)) hb2
        have HO2 : Hid (EOwn w2 w.heap.size v2 L) := own_mono ho2 (below_bt HB1.out (below_alloc _ _)).size
        clear ho2 hb2 HBT
        go_wp2
        go_ret2
        exact ⟨v2, by rw [HY.out.2]; rfl, HO2.out, HB2.out⟩
  · have HY : Hid (L = [] ∧ E = 90) := by have := rangeT_none hr f t; rw [HR.out] at this; exact ⟨(Prod.mk.inj this).1, (Prod.mk.inj this).2⟩
    clear hr
    go_wp2
    go_ret2
    exact ⟨.slice none 0 0, by rw [HY.out.2]; rfl, by rw [HY.out.1]; exact eown_nil _ _, below_bt HB1.out (below_alloc _ _)⟩
end Go.Proofs.Ytlcbjmbphekliaa
namespace Go.Proofs.Ytlcbjmbphekliaa
open Go.RowKit Go.WideShapes

noncomputable def lookP (ps : List (List EntV)) (key : ByteArray) (seq : Int) : EntV × Bool := if Sv.hasR (sieveN ps.flatten) key = true then newS ps key seq else (zeroE, false)
noncomputable def findT (xs : List Nat) (key : ByteArray) (seq : Int) : EntV × Bool × Nat := match readT xs with
  | none => (zeroE, false, 90)
  | some ps => if key.size < 1 ∨ 256 < key.size then (zeroE, false, 60) else if seq < 0 ∨ 2147483647 < seq then (zeroE, false, 2) else ((lookP ps key seq).1, (lookP ps key seq).2, 0)
theorem findT_none {xs : List Nat} (h : readT xs = none) (key : ByteArray) (seq : Int) : findT xs key seq = (zeroE, false, 90) := by unfold findT; rw [h]
theorem findT_some {xs : List Nat} {ps : List (List EntV)} (h : readT xs = some ps) (key : ByteArray) (seq : Int) : findT xs key seq = if key.size < 1 ∨ 256 < key.size then (zeroE, false, 60) else if seq < 0 ∨ 2147483647 < seq then (zeroE, false, 2) else ((lookP ps key seq).1, (lookP ps key seq).2, 0) := by unfold findT; rw [h]
set_option maxRecDepth 8000 in
set_option maxHeartbeats 2000000 in
theorem Find_t (p : Option Addr) (n c : Nat) (xs : List Nat) (key : ByteArray) (seq : Int) (w : World) (h : BHand w p n c xs) (y : EntV) (is : Bool) (E : Nat) (hR : findT xs key seq = (y, is, E)) (hk : (key.size : Int) ≤ 9223372036854775807) :
    Calls Try.prog 11 #[.slice p n c, .string key, .int .i64 seq] w fun e w' => e = .returned (.tuple #[entV y, .bool is, .int .i64 (E : Int)]) ∧ Below w.heap.size w w' := by
  have h1 := h.below (below_alloc w (.cells zE 29))
  have HRD := read_anyT p n c xs _ h1.len h1.bin h1.cap
  have HR : Hid (findT xs key seq = (y, is, E)) := hR
  have HBA : Hid (Below w.heap.size w (w.alloc (.cells zE 29)) ∧ (w.alloc (.cells zE 29)).heap[w.heap.size]? = some (.cells zE 29 (0, 0))) := ⟨below_alloc _ _, heap_alloc_new _ _⟩
  clear h h1 hR
  unfold zE at HRD
  go_enter Try.func11, Try.ntmps11
  go_wp2_with fail
  refine HRD.mono ?_
  rintro e w1 ⟨hout, hb1⟩
  have HB1 : Hid (Below w.heap.size w w1 ∧ w1.heap[w.heap.size]? = some (.cells zE 29 (0, 0))) := ⟨below_bt HBA.out.1 hb1, block_below HBA.out.2 hb1⟩
  clear hb1 HRD
  rcases hout with ⟨ss, q, c', ps, m, cp, hr, rfl, htab⟩ | ⟨hr, rfl⟩
  · have HZ := findT_some hr key seq
    rw [HR.out] at HZ
    have HZ' : Hid ((y, is, E) = if key.size < 1 ∨ 256 < key.size then (zeroE, false, 60) else if seq < 0 ∨ 2147483647 < seq then (zeroE, false, 2) else ((lookP (pagesOf ss) key seq).1, (lookP (pagesOf ss) key seq).2, 0)) := HZ
    have HT : Hid (TabOf w1 q ss ps m cp) := htab
    have bx := below_alloc w1 (.cells #[.slice q ss.length c', .slice ps m cp] 65)
    have HB2 : Hid (Below w.heap.size w (w1.alloc (.cells #[.slice q ss.length c', .slice ps m cp] 65)) ∧ (w1.alloc (.cells #[.slice q ss.length c', .slice ps m cp] 65)).heap[w.heap.size]? = some (.cells zE 29 (0, 0))) := ⟨below_bt HB1.out.1 bx, block_below HB1.out.2 bx⟩
    have HX2 : Hid ((w1.alloc (.cells #[.slice q ss.length c', .slice ps m cp] 65)).heap[w1.heap.size]? = some (.cells #[.slice q ss.length c', .slice ps m cp] 65 (0, 0))) := heap_alloc_new _ _
    obtain ⟨⟨z0, z1, z2, z3⟩, f0, f1, f2, f3⟩ := four HB2.out.2
    clear hr HZ htab bx
    by_cases hk1 : key.size < 1
    · have g1 : (key.size : Int) < 1 := by omega
      have HY : Hid (y = zeroE ∧ is = false ∧ E = 60) := by have := HZ'.out; rw [if_pos (.inl hk1)] at this; show _ ∧ _; simpa using this
      clear hk1
      go_wp2
      (try simp only [Exit.inBlock, Exit.then])
      refine bodyPost_ret (v := .tuple #[entV zeroE, .bool false, .int .i64 60]) ?_ rfl ⟨by rw [HY.out.1, HY.out.2.1, HY.out.2.2]; rfl, set4_at HB2.out.1 (Nat.le_refl _)⟩
      rw [results_cell_tmp2 rfl]
      go_simp
      rfl
    · have g1 : (1 : Int) ≤ (key.size : Int) := by omega
      by_cases hk2 : 256 < key.size
      · have g2 : (256 : Int) < (key.size : Int) := by omega
        have HY : Hid (y = zeroE ∧ is = false ∧ E = 60) := by have := HZ'.out; rw [if_pos (.inr hk2)] at this; show _ ∧ _; simpa using this
        clear hk1 hk2
        go_wp2
        (try simp only [Exit.inBlock, Exit.then])
        refine bodyPost_ret (v := .tuple #[entV zeroE, .bool false, .int .i64 60]) ?_ rfl ⟨by rw [HY.out.1, HY.out.2.1, HY.out.2.2]; rfl, set4_at HB2.out.1 (Nat.le_refl _)⟩
        rw [results_cell_tmp2 rfl]
        go_simp
        rfl
      · have g2 : (key.size : Int) ≤ 256 := by omega
        have HZ2 : Hid ((y, is, E) = if seq < 0 ∨ 2147483647 < seq then (zeroE, false, 2) else ((lookP (pagesOf ss) key seq).1, (lookP (pagesOf ss) key seq).2, 0)) := by have := HZ'.out; rw [if_neg (by omega)] at this; exact this
        clear hk1 hk2
        by_cases hs1 : seq < 0
        · have HY : Hid (y = zeroE ∧ is = false ∧ E = 2) := by have := HZ2.out; rw [if_pos (.inl hs1)] at this; show _ ∧ _; simpa using this
          go_wp2
          (try simp only [Exit.inBlock, Exit.then])
          refine bodyPost_ret (v := .tuple #[entV zeroE, .bool false, .int .i64 2]) ?_ rfl ⟨by rw [HY.out.1, HY.out.2.1, HY.out.2.2]; rfl, set4_at HB2.out.1 (Nat.le_refl _)⟩
          rw [results_cell_tmp2 rfl]
          go_simp
          rfl
        · have hs1' : 0 ≤ seq := by omega
          by_cases hs2 : 2147483647 < seq
          · have HY : Hid (y = zeroE ∧ is = false ∧ E = 2) := by have := HZ2.out; rw [if_pos (.inr hs2)] at this; show _ ∧ _; simpa using this
            clear hs1
            go_wp2
            (try simp only [Exit.inBlock, Exit.then])
            refine bodyPost_ret (v := .tuple #[entV zeroE, .bool false, .int .i64 2]) ?_ rfl ⟨by rw [HY.out.1, HY.out.2.1, HY.out.2.2]; rfl, set4_at HB2.out.1 (Nat.le_refl _)⟩
            rw [results_cell_tmp2 rfl]
            go_simp
            rfl
          · have hs2' : seq ≤ 2147483647 := by omega
            have HZ3 : Hid ((y, is, E) = ((lookP (pagesOf ss) key seq).1, (lookP (pagesOf ss) key seq).2, 0)) := by have := HZ2.out; rw [if_neg (by omega)] at this; exact this
            obtain ⟨r, hr⟩ : ∃ r, Sv.hasR (sieveN (pagesOf ss).flatten) key = r := ⟨_, rfl⟩
            have HMH := mayHave_any q ss.length c' ps m cp _ key (w1.alloc (.cells #[.slice q ss.length c', .slice ps m cp] 65)) (HT.out.sieve.alloc _) HT.out.len r hr
            have HRR : Hid (Sv.hasR (sieveN (pagesOf ss).flatten) key = r) := hr
            clear hs1 hs2 hr z0 z1 z2 z3 f0 f1 f2 f3
            go_wp2_with fail
            refine HMH.mono ?_
            rintro e w3 ⟨rfl, hb3⟩
            have HB3 : Hid (Below w.heap.size w w3 ∧ w3.heap[w.heap.size]? = some (.cells zE 29 (0, 0))) := ⟨below_bt HB2.out.1 hb3, block_below HB2.out.2 hb3⟩
            have HS3 : Hid (Sheets w3 q ss.length ss) := (HT.out.sheets.below (below_alloc _ _)).below hb3
            obtain ⟨⟨y0, y1⟩, _, _⟩ := two2 (block_below HX2.out hb3)
            clear hb3 HMH
            cases r with
            | false =>
              have HY : Hid (y = zeroE ∧ is = false ∧ E = 0) := by
                have := HZ3.out
                unfold lookP at this
                rw [if_neg (by rw [HRR.out]; simp)] at this
                show _ ∧ _
                simpa using this
              obtain ⟨⟨z0, z1, z2, z3⟩, f0, f1, f2, f3⟩ := four HB3.out.2
              go_wp2
              (try simp only [Exit.inBlock, Exit.then])
              refine bodyPost_ret (v := .tuple #[entV zeroE, .bool false, .int .i64 0]) ?_ rfl ⟨by rw [HY.out.1, HY.out.2.1, HY.out.2.2]; rfl, set4_at HB3.out.1 (Nat.le_refl _)⟩
              rw [results_cell_tmp2 rfl]
              go_simp
              rfl
            | true =>
              obtain ⟨yy, ii, hni⟩ : ∃ yy ii, newS (pagesOf ss) key seq = (yy, ii) := ⟨_, _, rfl⟩
              have HY : Hid (y = yy ∧ is = ii ∧ E = 0) := by
                have := HZ3.out
                unfold lookP at this
                rw [if_pos HRR.out, hni] at this
                show _ ∧ _
                simpa using this
              have HNE := newest_any q ss.length c' ss key seq w3 HS3.out HT.out.ok.few.n HT.out.ok.few.l yy ii hni
              obtain ⟨ky, vy, sy, gy⟩ := yy
              rw [entV_def] at HNE
              clear hni
              go_wp2_with fail
              refine HNE.mono ?_
              rintro e w4 ⟨rfl, hb4⟩
              have HB4 : Hid (Below w.heap.size w w4 ∧ w4.heap[w.heap.size]? = some (.cells zE 29 (0, 0))) := ⟨below_bt HB3.out.1 hb4, block_below HB3.out.2 hb4⟩
              have HB5 : Hid (Below w.heap.size w (w4.alloc (.cells #[.string ky, .string vy, .int .i64 sy, .bool gy] 29)) ∧ (w4.alloc (.cells #[.string ky, .string vy, .int .i64 sy, .bool gy] 29)).heap[w.heap.size]? = some (.cells zE 29 (0, 0))) := ⟨below_bt HB4.out.1 (below_alloc _ _), block_below HB4.out.2 (below_alloc _ _)⟩
              obtain ⟨⟨z0, z1, z2, z3⟩, f0, f1, f2, f3⟩ := four HB5.out.2
              clear hb4 HNE y0 y1
              go_wp2
              (try simp only [Exit.inBlock, Exit.then])
              refine bodyPost_ret (v := .tuple #[entV ⟨ky, vy, sy, gy⟩, .bool ii, .int .i64 0]) ?_ rfl ⟨by rw [HY.out.1, HY.out.2.1, HY.out.2.2]; rfl, ?_⟩
              · rw [results_cell_tmp2 rfl]
                go_simp
                rfl
              · first
                | exact set4_at HB5.out.1 (Nat.le_refl _)
                | exact below_bt (set4_at HB4.out.1 (Nat.le_refl _)) (below_alloc _ _)
  · have HY : Hid (y = zeroE ∧ is = false ∧ E = 90) := by have := findT_none hr key seq; rw [HR.out] at this; show _ ∧ _; simpa using this
    have bx := below_alloc w1 (.cells #[.slice none 0 0, .slice none 0 0] 65)
    have HB2 : Hid (Below w.heap.size w (w1.alloc (.cells #[.slice none 0 0, .slice none 0 0] 65)) ∧ (w1.alloc (.cells #[.slice none 0 0, .slice none 0 0] 65)).heap[w.heap.size]? = some (.cells zE 29 (0, 0))) := ⟨below_bt HB1.out.1 bx, block_below HB1.out.2 bx⟩
    obtain ⟨⟨z0, z1, z2, z3⟩, f0, f1, f2, f3⟩ := four HB2.out.2
    clear hr bx
    go_wp2
    (try simp only [Exit.inBlock, Exit.then])
    refine bodyPost_ret (v := .tuple #[entV zeroE, .bool false, .int .i64 90]) ?_ rfl ⟨by rw [HY.out.1, HY.out.2.1, HY.out.2.2]; rfl, set4_at HB2.out.1 (Nat.le_refl _)⟩
    rw [results_cell_tmp2 rfl]
    go_simp
    rfl
noncomputable def endsT (xs : List Nat) : ByteArray × ByteArray × Nat := match readT xs with
  | none => (ByteArray.empty, ByteArray.empty, 90)
  | some ps => (firstK (ps.getD 0 []), lastKy (ps.getD (ps.length - 1) []), 0)
theorem endsT_none {xs : List Nat} (h : readT xs = none) : endsT xs = (ByteArray.empty, ByteArray.empty, 90) := by unfold endsT; rw [h]
theorem endsT_some {xs : List Nat} {ps : List (List EntV)} (h : readT xs = some ps) : endsT xs = (firstK (ps.getD 0 []), lastKy (ps.getD (ps.length - 1) []), 0) := by unfold endsT; rw [h]
theorem pages_getD (ss : List ShV) (k : Nat) : (pagesOf ss).getD k [] = (ss.getD k zeroS).ents := by
  unfold pagesOf
  rw [List.getD_eq_getElem?_getD, List.getD_eq_getElem?_getD, List.getElem?_map]
  cases ss[k]? <;> rfl
theorem readT_pos {xs : List Nat} {ps : List (List EntV)} (h : readT xs = some ps) : 0 < ps.length := by
  unfold readT at h
  split at h
  · cases h
  · split at h
    · cases h
    · split at h
      · cases h
      · split at h
        · rename_i hh
          rw [← Option.some.inj h]
          exact hh.1
        · cases h
set_option maxRecDepth 8000 in
set_option maxHeartbeats 2000000 in
theorem Ends_t (p : Option Addr) (n c : Nat) (xs : List Nat) (w : World) (h : BHand w p n c xs) (a b : ByteArray) (E : Nat) (hR : endsT xs = (a, b, E)) :
    Calls Try.prog 13 #[.slice p n c] w fun e w' => e = .returned (.tuple #[.string a, .string b, .int .i64 (E : Int)]) ∧ Below w.heap.size w w' := by
  have HRD := read_anyT p n c xs w h.len h.bin h.cap
  have HR : Hid (endsT xs = (a, b, E)) := hR
  clear h hR
  go_enter Try.func13, Try.ntmps13
  go_wp2_with fail
  refine HRD.mono ?_
  rintro e w1 ⟨hout, hb1⟩
  have HB1 : Hid (Below w.heap.size w w1) := hb1
  clear hb1 HRD
  rcases hout with ⟨ss, q, c', ps, m, cp, hr, rfl, htab⟩ | ⟨hr, rfl⟩
  · have HZ := endsT_some hr
    have hpos := readT_pos hr
    rw [pagesOf_len] at hpos
    rw [HR.out, pages_getD, pages_getD, pagesOf_len] at HZ
    simp only [Prod.mk.injEq] at HZ
    have HZ' : Hid (firstK (ss.getD 0 zeroS).ents = a ∧ lastKy (ss.getD (ss.length - 1) zeroS).ents = b ∧ E = 0) := ⟨HZ.1.symm, HZ.2.1.symm, HZ.2.2⟩
    have bx := below_alloc w1 (.cells #[.slice q ss.length c', .slice ps m cp] 65)
    have HB2 : Hid (Below w.heap.size w (w1.alloc (.cells #[.slice q ss.length c', .slice ps m cp] 65))) := below_bt HB1.out bx
    have HX2 : Hid ((w1.alloc (.cells #[.slice q ss.length c', .slice ps m cp] 65)).heap[w1.heap.size]? = some (.cells #[.slice q ss.length c', .slice ps m cp] 65 (0, 0))) := heap_alloc_new _ _
    have hsl : ∀ s ∈ ss, s.ents.length ≤ 1000000 := fun s hs => Nat.le_trans (len_mem (List.mem_map.2 ⟨s, hs, rfl⟩)) htab.ok.few.l
    have HF1 : Hid (∀ w', Below w1.heap.size w1 w' → Calls Try.prog 36 #[.slice q ss.length c'] w' fun e w'' => e = .returned (.string a) ∧ Below w'.heap.size w' w'') := fun w' hb' => pfirst_any q ss.length c' ss w' (htab.sheets.below hb') hpos a HZ'.out.1
    have HF2 : Hid (∀ w', Below w1.heap.size w1 w' → Calls Try.prog 37 #[.slice q ss.length c'] w' fun e w'' => e = .returned (.string b) ∧ Below w'.heap.size w' w'') := fun w' hb' => plast_any q ss.length c' ss w' (htab.sheets.below hb') hpos htab.ok.few.n hsl b HZ'.out.2.1
    clear hr HZ htab hpos hsl
    obtain ⟨W, hW⟩ : ∃ W, w1.alloc (.cells #[.slice q ss.length c', .slice ps m cp] 65) = W := ⟨_, rfl⟩
    have HBW : Hid (Below w1.heap.size w1 W) := by rw [← hW]; exact bx
    have HXW : Hid (W.heap[w1.heap.size]? = some (.cells #[.slice q ss.length c', .slice ps m cp] 65 (0, 0))) := by rw [← hW]; exact HX2.out
    have HB2W : Hid (Below w.heap.size w W) := by rw [← hW]; exact HB2.out
    have HCW : Hid (∀ w', Below W.heap.size W w' → w'.cell? ⟨w1.heap.size, 0, none⟩ = some (.slice q ss.length c')) := fun w' hb' => (two2 (block_below HXW.out hb')).1.1
    clear bx HX2 HB2
    go_upto_region 4 with fail
    have c0 := HCW.out W (Below.refl _ _)
    clear hW
    go_region_with (first
      | (go_at_call 36; refine (HF1.out _ ?_).mono ?_; (first | exact below_bt HBW.out (by assumption) | exact below_bt HBW.out (Below.refl _ _).drew | exact below_bt HBW.out (below_dw (by assumption))); rintro e w2 ⟨rfl, hb2⟩; (first | (have hb2' := below_bt hb3' hb2) | (have hb2' := below_dw hb2) | (have hb2' := hb2)); have c1 := HCW.out _ hb2')
      | (go_at_call 37; refine (HF2.out _ ?_).mono ?_; (first | exact below_bt HBW.out (by assumption) | exact below_bt HBW.out (Below.refl _ _).drew | exact below_bt HBW.out (below_dw (by assumption))); rintro e w3 ⟨rfl, hb3⟩; (first | (have hb3' := below_bt hb2' hb3) | (have hb3' := below_dw hb3) | (have hb3' := hb3)); have c2 := HCW.out _ hb3'))
    all_goals go_wp2
    all_goals go_ret3
    all_goals exact ⟨by rw [HZ'.out.2.2]; rfl, below_bt HB2W.out (by assumption)⟩
  · have HY : Hid (a = ByteArray.empty ∧ b = ByteArray.empty ∧ E = 90) := by have := endsT_none hr; rw [HR.out] at this; show _ ∧ _; simpa using this
    clear hr
    go_wp2
    go_ret3
    exact ⟨by rw [HY.out.1, HY.out.2.1, HY.out.2.2]; rfl, below_bt HB1.out (below_alloc _ _)⟩
end Go.Proofs.Ytlcbjmbphekliaa
namespace Go.Proofs.Ytlcbjmbphekliaa
open Go.RowKit Go.WideShapes

theorem xor_half (a b : Nat) : (a ^^^ b) / 2 = a / 2 ^^^ b / 2 := by
  have := Nat.xor_div_two_pow (a := a) (b := b) (n := 1)
  simpa using this
theorem xor_low (a b : Nat) : (a ^^^ b) % 2 = (a % 2 + b % 2) % 2 := by
  have h := Nat.xor_mod_two_pow (a := a) (b := b) (n := 1)
  simp only [Nat.pow_one] at h
  rw [h]
  rcases Nat.mod_two_eq_zero_or_one a with h1 | h1 <;> rcases Nat.mod_two_eq_zero_or_one b with h2 | h2 <;> rw [h1, h2] <;> rfl
theorem crcBit_xor (a b : Nat) : crcBit (a ^^^ b) = crcBit a ^^^ crcBit b := by
  unfold crcBit
  rw [xor_low, xor_half]
  generalize (3988292384 : Nat) = P
  rcases Nat.mod_two_eq_zero_or_one a with h1 | h1 <;> rcases Nat.mod_two_eq_zero_or_one b with h2 | h2 <;> rw [h1, h2]
  · simp
  · simp only [Nat.zero_add, Nat.mod_succ, if_true, Nat.zero_ne_one, if_false, Nat.xor_assoc]
  · simp only [Nat.add_zero, Nat.mod_succ, if_true, Nat.zero_ne_one, if_false]
    rw [Nat.xor_assoc, Nat.xor_comm (b / 2) P, ← Nat.xor_assoc]
  · simp only [Nat.reduceAdd, Nat.mod_self, Nat.zero_ne_one, if_false, if_true]
    rw [Nat.xor_assoc (a / 2) P, ← Nat.xor_assoc P, Nat.xor_comm P (b / 2), Nat.xor_assoc (b / 2), Nat.xor_self, Nat.xor_zero]
theorem crcBits_xor (k a b : Nat) : crcBits k (a ^^^ b) = crcBits k a ^^^ crcBits k b := by
  induction k with
  | zero => rfl
  | succ k ih => rw [crcBits, ih, crcBit_xor]; rfl
theorem crcBits_add (j k r : Nat) : crcBits (j + k) r = crcBits j (crcBits k r) := by
  induction j with
  | zero => simp [crcBits]
  | succ j ih => rw [show j + 1 + k = (j + k) + 1 from by omega, crcBits, ih]; rfl
theorem crcBit_zero {r : Nat} (hr : r < 4294967296) (h : crcBit r = 0) : r = 0 := by
  unfold crcBit at h
  split at h
  · have : r / 2 = 3988292384 := by
      have h2 := congrArg (· ^^^ 3988292384) h
      simp only [Nat.xor_assoc, Nat.xor_self, Nat.xor_zero, Nat.zero_xor] at h2
      exact h2
    omega
  · omega
theorem crcBits_zero (k : Nat) {r : Nat} (hr : r < 4294967296) (h : crcBits k r = 0) : r = 0 := by
  induction k with
  | zero => exact h
  | succ k ih => exact ih (crcBit_zero (crcBits_lt k r hr) h)
theorem crcBits_of_zero (k : Nat) : crcBits k 0 = 0 := by
  induction k with
  | zero => rfl
  | succ k ih => rw [crcBits, ih]; rfl
theorem xor_eq_zero {a b : Nat} (h : a ^^^ b = 0) : a = b := by
  have h2 := congrArg (· ^^^ b) h
  simp only [Nat.xor_assoc, Nat.xor_self, Nat.xor_zero, Nat.zero_xor] at h2
  exact h2
theorem xor_left {a b c : Nat} (h : a ^^^ b = a ^^^ c) : b = c := by
  have h2 := congrArg (a ^^^ ·) h
  simp only [← Nat.xor_assoc, Nat.xor_self, Nat.zero_xor] at h2
  exact h2
theorem xor_move {a b c : Nat} (h : a ^^^ b = c) : a = b ^^^ c := by
  rw [← h, Nat.xor_comm a b, ← Nat.xor_assoc, Nat.xor_self, Nat.zero_xor]
theorem crcBits_inj (k : Nat) {a b : Nat} (ha : a < 4294967296) (hb : b < 4294967296) (h : crcBits k a = crcBits k b) : a = b := by
  apply xor_eq_zero
  apply crcBits_zero k (Nat.xor_lt_two_pow (n := 32) ha hb)
  rw [crcBits_xor, h, Nat.xor_self]
theorem crcBits_shift (k y : Nat) : crcBits k (2 ^ k * y) = y := by
  induction k generalizing y with
  | zero => simp [crcBits]
  | succ k ih =>
    rw [crcBits, Nat.pow_succ, Nat.mul_assoc, ih]
    unfold crcBit
    rw [if_neg (by omega)]; omega
theorem crc_add (l : List Nat) : ∀ r d, crc (r ^^^ d) l = crc r l ^^^ crcBits (8 * l.length) d := by
  induction l with
  | nil => intro r d; rfl
  | cons c l ih =>
    intro r d
    show crc (crcBits 8 (r ^^^ d ^^^ c)) l = crc (crcBits 8 (r ^^^ c)) l ^^^ _
    rw [show r ^^^ d ^^^ c = (r ^^^ c) ^^^ d from by rw [Nat.xor_assoc, Nat.xor_comm d c, ← Nat.xor_assoc], crcBits_xor, ih]
    congr 1
    rw [List.length_cons, Nat.mul_add, Nat.mul_one, crcBits_add]
/-- One byte that is another one. -/
theorem crc_set (x : Nat) (l : List Nat) : ∀ (p r : Nat), p < l.length → crc r (l.set p (l.getD p 0 ^^^ x)) = crc r l ^^^ crcBits (8 * (l.length - p)) x := by
  induction l with
  | nil => intro p r h; simp at h
  | cons c l ih =>
    intro p r h
    cases p with
    | zero =>
      show crc (crcBits 8 (r ^^^ (c ^^^ x))) l = crc (crcBits 8 (r ^^^ c)) l ^^^ _
      rw [← Nat.xor_assoc, crcBits_xor, crc_add]
      congr 1
      rw [List.length_cons, Nat.sub_zero, Nat.mul_add, Nat.mul_one, crcBits_add]
    | succ p =>
      have hp : p < l.length := by simpa using h
      show crc (crcBits 8 (r ^^^ c)) (l.set p (l.getD p 0 ^^^ x)) = crc (crcBits 8 (r ^^^ c)) l ^^^ _
      rw [ih p _ hp]
      congr 2
      simp
/-- The sum of the bytes by which fourX were changed. -/
def turnT (x : Nat → Nat) : Nat → Nat
  | 0 => 0
  | k + 1 => crcBits 8 (turnT x k ^^^ x k)
/-- The bytes, of which those from 'at' on are changed. -/
def turnL (xs : List Nat) (p : Nat) (x : Nat → Nat) : Nat → List Nat
  | 0 => xs
  | k + 1 => (turnL xs p x k).set (p + k) ((turnL xs p x k).getD (p + k) 0 ^^^ x k)
def turnB (x : Nat → Nat) : Nat → Bool
  | 0 => false
  | k + 1 => turnB x k || decide (x k ≠ 0)
theorem turnL_len (xs : List Nat) (p : Nat) (x : Nat → Nat) (k : Nat) : (turnL xs p x k).length = xs.length := by
  induction k with
  | zero => rfl
  | succ k ih => rw [turnL, List.length_set, ih]
theorem turnL_bytes {xs : List Nat} (p : Nat) {x : Nat → Nat} (hx : ∀ c ∈ xs, c < 256) (hb : ∀ k, x k < 256) (k : Nat) : ∀ c ∈ turnL xs p x k, c < 256 := by
  induction k with
  | zero => exact hx
  | succ k ih =>
    intro c hc
    rcases List.mem_or_eq_of_mem_set hc with h | h
    · exact ih c h
    · rw [h]; exact Nat.xor_lt_two_pow (n := 8) (getD_lt ih _) (hb k)
theorem crc_turn (xs : List Nat) (p : Nat) (x : Nat → Nat) (r k : Nat) (h : p + k ≤ xs.length) : crc r (turnL xs p x k) = crc r xs ^^^ crcBits (8 * (xs.length - p - k)) (turnT x k) := by
  induction k with
  | zero => simp [turnL, turnT, crcBits_of_zero]
  | succ k ih =>
    rw [turnL, crc_set _ _ _ _ (by rw [turnL_len]; omega), turnL_len, ih (by omega), Nat.xor_assoc]
    congr 1
    rw [show xs.length - (p + k) = xs.length - p - k from by omega, ← crcBits_xor, turnT, ← crcBits_add]
    congr 1
    omega
theorem turnT_lt {x : Nat → Nat} (hb : ∀ k, x k < 256) (k : Nat) : turnT x k < 4294967296 := by
  cases k with
  | zero => show (0 : Nat) < 4294967296; decide
  | succ k =>
    rw [turnT]
    induction k with
    | zero => exact crcBits_lt 8 _ (Nat.xor_lt_two_pow (n := 32) (show (0 : Nat) < 4294967296 by decide) (by have := hb 0; omega))
    | succ k ih => exact crcBits_lt 8 _ (Nat.xor_lt_two_pow (n := 32) ih (by have := hb (k + 1); omega))
/-- Four bytes, not all of them 0, have a sum that is not 0. -/
theorem fourX {x0 x1 x2 x3 : Nat} (h0 : x0 < 256) (h1 : x1 < 256) (h2 : x2 < 256) (h3 : x3 < 256)
    (h : crcBits 8 (crcBits 8 (crcBits 8 (crcBits 8 x0 ^^^ x1) ^^^ x2) ^^^ x3) = 0) : x0 = 0 ∧ x1 = 0 ∧ x2 = 0 ∧ x3 = 0 := by
  have b0 := crcBits_lt 8 x0 (by omega)
  have b1 : crcBits 8 x0 ^^^ x1 < 4294967296 := Nat.xor_lt_two_pow (n := 32) b0 (by omega)
  have b2 : crcBits 8 (crcBits 8 x0 ^^^ x1) ^^^ x2 < 4294967296 := Nat.xor_lt_two_pow (n := 32) (crcBits_lt 8 _ b1) (by omega)
  have b3 : crcBits 8 (crcBits 8 (crcBits 8 x0 ^^^ x1) ^^^ x2) ^^^ x3 < 4294967296 := Nat.xor_lt_two_pow (n := 32) (crcBits_lt 8 _ b2) (by omega)
  have e3 := xor_eq_zero (crcBits_zero 8 b3 h)
  have y2 : x2 ^^^ 256 * x3 < 65536 := Nat.xor_lt_two_pow (n := 16) (by omega) (by omega)
  have y1 : x1 ^^^ 256 * (x2 ^^^ 256 * x3) < 16777216 := Nat.xor_lt_two_pow (n := 24) (by omega) (by omega)
  have s3 : crcBits 8 (crcBits 8 x0 ^^^ x1) ^^^ x2 = 256 * x3 := crcBits_inj 8 b2 (by omega) (by rw [e3]; exact (crcBits_shift 8 x3).symm)
  have f2 : crcBits 8 (crcBits 8 x0 ^^^ x1) = x2 ^^^ 256 * x3 := xor_move s3
  have s2 : crcBits 8 x0 ^^^ x1 = 256 * (x2 ^^^ 256 * x3) := crcBits_inj 8 b1 (by omega) (by rw [f2]; exact (crcBits_shift 8 _).symm)
  have f1 : crcBits 8 x0 = x1 ^^^ 256 * (x2 ^^^ 256 * x3) := xor_move s2
  have s1 : x0 = 256 * (x1 ^^^ 256 * (x2 ^^^ 256 * x3)) := crcBits_inj 8 (by omega) (by omega) (by rw [f1]; exact (crcBits_shift 8 _).symm)
  have z1 : x1 ^^^ 256 * (x2 ^^^ 256 * x3) = 0 := by omega
  have w1 := xor_eq_zero z1
  have z2 : x2 ^^^ 256 * x3 = 0 := by omega
  have w2 := xor_eq_zero z2
  omega
theorem turn_none {x : Nat → Nat} (hb : ∀ k, x k < 256) {m : Nat} (hm : m ≤ 4) (h : turnT x m = 0) : turnB x m = false := by
  have z := crcBits_of_zero 8
  match m, hm with
  | 0, _ => rfl
  | 1, _ =>
    have := fourX (x0 := 0) (x1 := 0) (x2 := 0) (by decide) (by decide) (by decide) (hb 0) (by rw [z, Nat.xor_self, z, Nat.xor_self, z]; exact h)
    simp [turnB, this.2.2.2]
  | 2, _ =>
    have := fourX (x0 := 0) (x1 := 0) (by decide) (by decide) (hb 0) (hb 1) (by rw [z, Nat.xor_self, z]; exact h)
    simp [turnB, this.2.2.2, this.2.2.1]
  | 3, _ =>
    have := fourX (x0 := 0) (by decide) (hb 0) (hb 1) (hb 2) (by rw [z]; exact h)
    simp [turnB, this.2.2.2, this.2.2.1, this.2.1]
  | 4, _ =>
    have := fourX (hb 0) (hb 1) (hb 2) (hb 3) (by have h2 := h; simp only [turnT, Nat.zero_xor] at h2; exact h2)
    simp [turnB, this.2.2.2, this.2.2.1, this.2.1, this.1]
theorem turnT_of_none {x : Nat → Nat} {m : Nat} (h : turnB x m = false) : turnT x m = 0 := by
  induction m with
  | zero => rfl
  | succ m ih =>
    simp only [turnB, Bool.or_eq_false_iff, decide_eq_false_iff_not, Decidable.not_not] at h
    rw [turnT, ih h.1, h.2]
    exact crcBits_of_zero 8
theorem sum_turn {xs : List Nat} {p : Nat} {x : Nat → Nat} (hb : ∀ k, x k < 256) {m : Nat} (hm : m ≤ 4) (hp : p + m ≤ xs.length) : ((sumN xs : Int) == (sumN (turnL xs p x m) : Int)) = !(turnB x m) := by
  have hlt := turnT_lt hb m
  rw [Bool.eq_iff_iff]
  simp only [beq_iff_eq, Bool.not_eq_true', Int.ofNat_inj]
  unfold sumN
  rw [crc_turn xs p x _ m hp]
  constructor
  · intro h
    apply turn_none hb hm
    apply crcBits_zero (8 * (xs.length - p - m)) hlt
    have h2 := xor_left h
    rw [show crc 4294967295 xs = crc 4294967295 xs ^^^ 0 from (Nat.xor_zero _).symm, Nat.xor_assoc, Nat.zero_xor] at h2
    exact (xor_left h2).symm
  · intro h
    rw [turnT_of_none h, crcBits_of_zero, Nat.xor_zero]
end Go.Proofs.Ytlcbjmbphekliaa
namespace Go.Proofs.Ytlcbjmbphekliaa
open Go.RowKit Go.WideShapes

theorem sum4_inj {a b : List Nat} (ha : ∀ c ∈ a, c < 256) (hb : ∀ c ∈ b, c < 256) (h : sum4 a = sum4 b) : sumN a = sumN b := by
  have h1 := sumN_lt ha
  have h2 := sumN_lt hb
  unfold sum4 putN at h
  simp only [List.take_succ_cons, List.take_zero, List.cons.injEq, and_true] at h
  omega
theorem xor_ne {x y : Nat} (h : y ≠ 0) : x ^^^ y ≠ x := by
  intro e
  have : x ^^^ y = x ^^^ 0 := by rw [e]; simp
  exact h (xor_left this)
theorem xor_byte {x y : Nat} (hx : x < 256) (hy : y < 256) : x ^^^ y < 256 := Nat.xor_lt_two_pow (n := 8) hx hy
theorem sum_one {xs : List Nat} {p y : Nat} (hp : p < xs.length) (hy : y ≠ 0) (hy2 : y < 256) : sumN (xs.set p (xs.getD p 0 ^^^ y)) ≠ sumN xs := by
  intro e
  unfold sumN at e
  have e1 := xor_left e
  rw [crc_set y xs p 4294967295 hp] at e1
  have e2 : crcBits (8 * (xs.length - p)) y ≠ 0 := fun h0 => hy (crcBits_zero _ (by omega) h0)
  exact xor_ne e2 e1
theorem set_byte {xs : List Nat} {p y : Nat} (h : ∀ c ∈ xs, c < 256) (hy : y < 256) : ∀ c ∈ xs.set p (xs.getD p 0 ^^^ y), c < 256 := by
  intro c hc
  rcases List.mem_or_eq_of_mem_set hc with h1 | h1
  · exact h c h1
  · rw [h1]; exact xor_byte (getD_lt h p) hy
theorem turned_none {l : List EntV} {ys : List Nat} (h : makeE l = (ys, 0)) {p y : Nat} (hp : p < ys.length) (hy : y ≠ 0) (hy2 : y < 256) : readE (ys.set p (ys.getD p 0 ^^^ y)) = none := by
  obtain ⟨_, rfl, hl⟩ := makeE_ok h
  obtain ⟨p1, p2, p3, p4⟩ := page_cut l
  refine readE_sum (by rw [List.length_set]; omega) ?_
  rw [List.length_set, p1]
  rcases Nat.lt_or_ge p (bodyN l).length with hb | hb
  · have hg : (pageN l).getD p 0 = (bodyN l).getD p 0 := by
      unfold pageN
      rw [List.getD_eq_getElem?_getD, List.getD_eq_getElem?_getD, List.getElem?_append_left hb]
    rw [List.drop_set, if_pos hb, List.take_set, p2, p3, hg]
    intro e
    exact sum_one hb hy hy2 (sum4_inj (set_byte (bodyN_lt l) hy2) (bodyN_lt l) e.symm)
  · have hset : ∀ v, (bodyN l).set p v = bodyN l := fun v => List.set_eq_of_length_le hb
    rw [List.drop_set, if_neg (by omega), List.take_set, p2, p3, hset]
    intro e
    have hlen := page_len l
    have hlt : p - (bodyN l).length < (sum4 (bodyN l)).length := by rw [sum4_len]; omega
    have hg : (pageN l).getD p 0 = (sum4 (bodyN l)).getD (p - (bodyN l).length) 0 := by
      unfold pageN
      rw [List.getD_eq_getElem?_getD, List.getD_eq_getElem?_getD, List.getElem?_append_right hb]
    have e2 := congrArg (fun z => z.getD (p - (bodyN l).length) 0) e

    rw [List.getD_eq_getElem?_getD, List.getElem?_set, if_pos rfl, if_pos hlt, hg] at e2
    exact xor_ne hy e2
/-- A row of one's own that is not empty, and a byte of it written over. -/
theorem own_some {w : World} {base n : Nat} {q : Option Addr} {m : Nat} {xs : List Value} (h : w.ownsRow base 5 1 (.slice q n m) n xs) (hn : 0 < n) : ∃ g cur, q = some ⟨g, 0, none⟩ ∧ base ≤ g ∧ w.heap[g]? = some (.cells cur 5 (0, 0)) := by
  rcases h.2 with ⟨hv, h0⟩ | ⟨g, cap, cur, hv, hb, hg, _⟩
  · omega
  · simp only [Value.slice.injEq] at hv
    exact ⟨g, cur, hv.1, hb, hg⟩
theorem bin_set {w : World} {g : Nat} {cur : Array Value} {xs : List Nat} (hg : w.heap[g]? = some (.cells cur 5 (0, 0))) (h : BIn w (some ⟨g, 0, none⟩) xs) {p x : Nat} (hx : x < 256) : BIn (w.setCell ⟨g, p, none⟩ (.int .u8 (x : Int))) (some ⟨g, 0, none⟩) (xs.set p x) := by
  refine ⟨fun hp => ⟨g, 0, rfl, fun i hi => ?_⟩, ?_⟩
  · rw [List.length_set] at hi
    have h1 := h.cell i hi
    rw [cell_of_row w g (0 + i) _ _ _ hg] at h1
    rw [cell_of_row _ g (0 + i) _ _ _ (block_set hg _), Nat.zero_add]
    rw [Nat.zero_add] at h1
    have hs : i < cur.size := (Array.getElem?_eq_some_iff.1 h1).1
    rw [List.getD_eq_getElem?_getD, List.getElem?_set]
    by_cases hpi : p = i
    · subst hpi
      rw [if_pos rfl, if_pos hi, Array.getElem?_setIfInBounds_self_of_lt hs]
      rfl
    · rw [if_neg hpi, Array.getElem?_setIfInBounds_ne hpi, h1, List.getD_eq_getElem?_getD]
  · intro c hc
    rcases List.mem_or_eq_of_mem_set hc with h1 | h1
    · exact h.2 c h1
    · rw [h1]; exact hx
end Go.Proofs.Ytlcbjmbphekliaa
namespace Go.Proofs.Ytlcbjmbphekliaa
open Go.RowKit Go.WideShapes

/-- The first entry of a key that is not above a number. -/
def newL : List EntV → ByteArray → Int → EntV × Bool
  | [], _, _ => (zeroE, false)
  | x :: l, k, s => if x.key = k ∧ x.seq ≤ s then (x, true) else newL l k s
theorem newP_app : ∀ (a b : List EntV) (k : ByteArray) (s : Int), newP (a ++ b) k s = (newP a k s).or (newP b k s)
  | [], b, k, s => by simp [newP]
  | x :: a, b, k, s => by
    have ih := newP_app a b k s
    simp only [List.cons_append, newP]
    split
    · exact ih
    · rfl
theorem last_max {p : List EntV} (hr : RiseE p) {x : EntV} (hx : x ∈ p) : ltB (lastKy p) x.key = false := by
  obtain ⟨i, hi, rfl⟩ := List.getElem_of_mem hx
  unfold lastKy
  rw [List.getD_eq_getElem?_getD, List.getElem?_eq_getElem (by omega)]
  simp only [Option.getD_some]
  rcases Nat.lt_or_ge i (p.length - 1) with h | h
  · exact lessE_key (List.pairwise_iff_getElem.1 hr i (p.length - 1) hi (by omega) h)
  · have : i = p.length - 1 := by omega
    subst this
    exact ltB_irrefl _
theorem first_min {p : List EntV} (hr : RiseE p) {x : EntV} (hx : x ∈ p) : ltB x.key (firstK p) = false := by
  obtain ⟨i, hi, rfl⟩ := List.getElem_of_mem hx
  unfold firstK
  rw [List.getD_eq_getElem?_getD, List.getElem?_eq_getElem (by omega)]
  simp only [Option.getD_some]
  rcases Nat.eq_zero_or_pos i with h | h
  · subst h; exact ltB_irrefl _
  · exact lessE_key (List.pairwise_iff_getElem.1 hr 0 i (by omega) hi h)
theorem newP_skip {p : List EntV} (hr : RiseE p) {k : ByteArray} (h : ltB (lastKy p) k = true) (s : Int) : newP p k s = none := by
  have hall : ∀ x ∈ p, ltB x.key k = true := fun x hx => ltB_le_lt (last_max hr hx) h
  clear hr h
  induction p with
  | nil => rfl
  | cons x p ih =>
    have h1 : lessE x (atE k s) = true := (lessE_def x (atE k s)).2 (.inl (hall x (by simp)))
    simp only [newP, if_pos h1]
    exact ih (fun y hy => hall y (by simp [hy]))
theorem newS_flat : ∀ (ps : List (List EntV)) (k : ByteArray) (s : Int), RiseE ps.flatten → newS ps k s = (newP ps.flatten k s).getD (zeroE, false)
  | [], k, s, _ => rfl
  | p :: ps, k, s, h => by
    rw [List.flatten_cons] at h
    obtain ⟨h1, h2, _⟩ := List.pairwise_append.1 h
    have ih := newS_flat ps k s h2
    rw [List.flatten_cons, newP_app]
    simp only [newS]
    split
    · rename_i hl
      rw [newP_skip h1 hl, Option.none_or, ih]
    · rw [ih]
      cases newP p k s <;> rfl
theorem newL_past {l : List EntV} {k : ByteArray} (h : ∀ x ∈ l, ltB k x.key = true) (s : Int) : newL l k s = (zeroE, false) := by
  induction l with
  | nil => rfl
  | cons x l ih =>
    have h1 := h x (by simp)
    simp only [newL]
    rw [if_neg (fun hh => by rw [hh.1, ltB_irrefl] at h1; cases h1)]
    exact ih (fun y hy => h y (by simp [hy]))
theorem newP_newL : ∀ (l : List EntV) (k : ByteArray) (s : Int), RiseE l → (newP l k s).getD (zeroE, false) = newL l k s
  | [], _, _, _ => rfl
  | x :: l, k, s, h => by
    obtain ⟨h1, h2⟩ := List.pairwise_cons.1 h
    have ih := newP_newL l k s h2
    simp only [newP, newL]
    split
    · rename_i hl
      rw [if_neg, ih]
      rintro ⟨hk, hs⟩
      rcases (lessE_def x (atE k s)).1 hl with hh | hh
      · rw [show (atE k s).key = k from rfl, hk, ltB_irrefl] at hh; cases hh
      · have : (atE k s).seq = s := rfl
        omega
    · rename_i hl
      have hn := fun hh => hl ((lessE_def x (atE k s)).2 hh)
      simp only [Option.getD_some]
      unfold ofKeyE
      by_cases hk : x.key = k
      · have hs : x.seq ≤ s := by
          rcases Int.lt_or_le s x.seq with hh | hh
          · exact absurd (.inr ⟨hk, hh⟩) hn
          · exact hh
        rw [if_pos hk, if_pos ⟨hk, hs⟩]
      · rw [if_neg hk, if_neg (fun hh => hk hh.1)]
        have hlt : ltB x.key k = false := by
          cases hb : ltB x.key k with
          | false => rfl
          | true => exact absurd (.inl hb) hn
        have hkx : ltB k x.key = true := by
          cases hb : ltB k x.key with
          | true => rfl
          | false => exact absurd (ltB_tri hlt hb) hk
        exact (newL_past (fun y hy => ltB_lt_le hkx (lessE_key (h1 y hy))) s).symm
theorem newL_mem : ∀ (l : List EntV) (k : ByteArray) (s : Int), k ∉ keysE l → newL l k s = (zeroE, false)
  | [], _, _, _ => rfl
  | x :: l, k, s, h => by
    simp only [newL]
    simp only [keysE, List.map_cons, List.mem_cons, not_or] at h
    rw [if_neg (fun hh => h.1 hh.1.symm)]
    exact newL_mem l k s h.2
theorem sieve_has {l : List EntV} (hc : checkE l = 0) (h0 : 0 < l.length) {k : ByteArray} (hk : k.size ≤ 256) (hm : k ∈ keysE l) : Sv.hasR (sieveN l) k = true := by
  have hl := ((checkE_rise l).1 hc).1
  unfold Sv.hasR
  have hE : Sv.hasE (sieveN l).length k = 0 := by
    unfold Sv.hasE
    rw [sieveN_len, if_neg (by omega), if_neg (by omega)]
  rw [if_pos hE]
  exact Sv.makeN_has _ _ (by omega) (by omega) k hm
/-- What Find answers at a table of entries. -/
theorem look_is {l : List EntV} {xs : List Nat} (h : makeT l = (xs, 0)) {k : ByteArray} (hk : k.size ≤ 256) (s : Int) : lookP (partE l) k s = newL l k s := by
  obtain ⟨h1, h2, _, _⟩ := makeT_ok h
  have hf := (parts_is l).flat
  have hr := ((checkE_rise l).1 h1).2.2
  unfold lookP
  rw [hf]
  split
  · rw [newS_flat _ k s (by rw [hf]; exact hr), hf, newP_newL l k s hr]
  · rename_i hh
    exact (newL_mem l k s (fun hm => hh (sieve_has h1 h2 hk hm))).symm
theorem find_made {l : List EntV} {xs : List Nat} (h : makeT l = (xs, 0)) {k : ByteArray} (hk1 : 1 ≤ k.size) (hk2 : k.size ≤ 256) {s : Int} (hs1 : 0 ≤ s) (hs2 : s ≤ 2147483647) : findT xs k s = ((newL l k s).1, (newL l k s).2, 0) := by
  rw [findT_some (read_makeT h), if_neg (by omega), if_neg (by omega), look_is h hk2]
def keepU (f t : ByteArray) (x : EntV) : Bool := !ltB x.key f && (decide (t = ByteArray.empty) || ltB x.key t)
theorem filter_none {p : List EntV} {keep : EntV → Bool} (h : ∀ x ∈ p, keep x = false) : p.filter keep = [] := by
  rw [List.filter_eq_nil_iff]
  intro x hx
  simp [h x hx]
theorem betG_flat (skip : List EntV → Bool) (keep : EntV → Bool) : ∀ (ps : List (List EntV)), (∀ p ∈ ps, skip p = true → ∀ x ∈ p, keep x = false) → betG skip keep ps = ps.flatten.filter keep
  | [], _ => rfl
  | p :: ps, h => by
    have ih := betG_flat skip keep ps (fun q hq => h q (by simp [hq]))
    have e : betG skip keep (p :: ps) = (if skip p = true then [] else p.filter keep) ++ betG skip keep ps := by simp [betG]
    rw [e, ih, List.flatten_cons, List.filter_append]
    congr 1
    split
    · rename_i hs
      exact (filter_none (h p (by simp) hs)).symm
    · rfl
theorem rise_part {ps : List (List EntV)} (h : RiseE ps.flatten) : ∀ p ∈ ps, RiseE p := fun _ hp => h.sublist (List.sublist_flatten_of_mem hp)
theorem range_flat (ps : List (List EntV)) (f t : ByteArray) (h : RiseE ps.flatten) : rangeG ps f t = ps.flatten.filter (keepU f t) := by
  have hk : ∀ x, keepU f t x = if t = ByteArray.empty then keepA f x else keepT f t x := by
    intro x
    unfold keepU keepA keepT
    by_cases ht : t = ByteArray.empty
    · simp [ht]
    · simp [ht]
  unfold rangeG
  by_cases ht : t = ByteArray.empty
  · rw [if_pos ht, betG_flat]
    · congr 1; funext x; rw [hk x, if_pos ht]
    · intro p hp hs x hx
      unfold keepA
      rw [ltB_le_lt (last_max (rise_part h p hp) hx) hs]
      rfl
  · rw [if_neg ht, betG_flat]
    · congr 1; funext x; rw [hk x, if_neg ht]
    · intro p hp hs x hx
      unfold skipT at hs
      unfold keepT
      rcases Bool.or_eq_true _ _ ▸ hs with hs | hs
      · rw [ltB_le_lt (last_max (rise_part h p hp) hx) hs]; rfl
      · have h1 : ltB x.key t = false := by
          cases hb : ltB x.key t with
          | false => rfl
          | true =>
            have := ltB_le_lt (first_min (rise_part h p hp) hx) hb
            rw [this] at hs
            cases hs
        rw [h1, Bool.and_false]
theorem range_made {l : List EntV} {xs : List Nat} (h : makeT l = (xs, 0)) {f t : ByteArray} (hf : f.size ≤ 256) (ht : t.size ≤ 256) : rangeT xs f t = (l.filter (keepU f t), 0) := by
  have hfl := (parts_is l).flat
  have hr := ((checkE_rise l).1 (makeT_ok h).1).2.2
  rw [rangeT_some (read_makeT h), if_neg (by omega), range_flat _ _ _ (by rw [hfl]; exact hr), hfl]
/-- Entries that rise, parted at a key. -/
theorem rise_split : ∀ (l : List EntV) (b : ByteArray), RiseE l → l.filter (fun x => ltB x.key b) ++ l.filter (fun x => !ltB x.key b) = l
  | [], _, _ => rfl
  | x :: l, b, h => by
    obtain ⟨h1, h2⟩ := List.pairwise_cons.1 h
    have ih := rise_split l b h2
    cases hx : ltB x.key b with
    | true =>
      rw [List.filter_cons_of_pos (by simp [hx]), List.filter_cons_of_neg (by simp [hx]), List.cons_append, ih]
    | false =>
      have hn : l.filter (fun x => ltB x.key b) = [] := filter_none (fun y hy => by
        cases hb : ltB y.key b with
        | false => rfl
        | true => rw [ltB_le_lt (lessE_key (h1 y hy)) hb] at hx; cases hx)
      rw [List.filter_cons_of_neg (by simp [hx]), List.filter_cons_of_pos (by simp [hx]), hn, List.nil_append]
      rw [hn, List.nil_append] at ih
      rw [ih]
theorem filter_split {l : List EntV} (h : RiseE l) (b : ByteArray) (P : EntV → Bool) : l.filter (fun x => P x && ltB x.key b) ++ l.filter (fun x => P x && !ltB x.key b) = l.filter P := by
  conv => rhs; rw [← rise_split l b h, List.filter_append, List.filter_filter, List.filter_filter]
/-! ### The ends -/
theorem endsT_made {l : List EntV} {xs : List Nat} (h : makeT l = (xs, 0)) : endsT xs = (firstK l, lastKy l, 0) := by
  obtain ⟨_, h2, _, _⟩ := makeT_ok h
  have hp := parts_is l
  rw [endsT_some (read_makeT h)]
  have hf := hp.flat
  have hpos := hp.pos
  have hone := hp.one h2
  generalize partE l = ps at *
  clear hp h
  subst hf
  have e1 : firstK (ps.getD 0 []) = firstK ps.flatten := by
    match ps, hone with
    | p :: ps, _ =>
      have := hpos p (by simp)
      match p, this with
      | x :: p, _ => rfl
  have e2 : ∀ (ps : List (List EntV)), 0 < ps.length → (∀ p ∈ ps, 0 < p.length) → lastKy (ps.getD (ps.length - 1) []) = lastKy ps.flatten := by
    intro ps
    induction ps with
    | nil => intro h; simp at h
    | cons p ps ih =>
      intro _ hp
      cases ps with
      | nil => simp [List.getD]
      | cons q ps =>
        have := ih (by simp) (fun r hr => hp r (by simp [hr]))
        have hlen : 0 < (q :: ps).flatten.length := by
          have := hp q (by simp)
          rw [List.flatten_cons, List.length_append]; omega
        have h1 : (p :: q :: ps).getD ((p :: q :: ps).length - 1) [] = (q :: ps).getD ((q :: ps).length - 1) [] := by simp [List.getD]
        rw [h1, this, show (p :: q :: ps).flatten = p ++ (q :: ps).flatten from List.flatten_cons]
        generalize (q :: ps).flatten = m at hlen
        unfold lastKy
        rw [List.length_append, List.getD_eq_getElem?_getD, List.getD_eq_getElem?_getD, List.getElem?_append_right (by omega), show p.length + m.length - 1 - p.length = m.length - 1 by omega]
  rw [e1, e2 ps hone hpos]
/-! ### One byte turned -/
theorem turnedT {l : List EntV} {ys : List Nat} (h : makeT l = (ys, 0)) {p y : Nat} (hp : p < ys.length) (hy : y ≠ 0) (hy2 : y < 256) : readT (ys.set p (ys.getD p 0 ^^^ y)) = none := by
  have hlt := makeT_lt h
  obtain ⟨_, _, rfl, hlen⟩ := makeT_ok h
  obtain ⟨a1, a2, a3⟩ := core_cut (partE l)
  cases hr : readT ((tableN (partE l)).set p ((tableN (partE l)).getD p 0 ^^^ y)) with
  | none => rfl
  | some qs =>
    exfalso
    obtain ⟨hm, hpe⟩ := make_readT (set_byte hlt hy2) hr
    obtain ⟨_, _, hz, _⟩ := makeT_ok hm
    rw [hpe] at hz
    obtain ⟨b1, b2, b3⟩ := core_cut qs
    have hll := congrArg List.length hz
    rw [List.length_set] at hll
    have hcl : (coreN qs).length = (coreN (partE l)).length := by omega
    have hsum : ((tableN (partE l)).set p ((tableN (partE l)).getD p 0 ^^^ y)).drop (coreN (partE l)).length = sum4 (((tableN (partE l)).set p ((tableN (partE l)).getD p 0 ^^^ y)).take (coreN (partE l)).length) := by
      rw [hz, ← hcl, b2, b3]
    have hcb : ∀ c ∈ coreN (partE l), c < 256 := coreN_lt (fits_of hlen)
    rcases Nat.lt_or_ge p (coreN (partE l)).length with hb | hb
    · have hg : (tableN (partE l)).getD p 0 = (coreN (partE l)).getD p 0 := by
        unfold tableN
        rw [List.getD_eq_getElem?_getD, List.getD_eq_getElem?_getD, List.getElem?_append_left hb]
      rw [List.drop_set, if_pos hb, List.take_set, a2, a3, hg] at hsum
      exact sum_one hb hy hy2 (sum4_inj (set_byte hcb hy2) hcb hsum.symm)
    · have hset : ∀ v, (coreN (partE l)).set p v = coreN (partE l) := fun v => List.set_eq_of_length_le hb
      rw [List.drop_set, if_neg (by omega), List.take_set, a2, a3, hset] at hsum
      have hlt2 : p - (coreN (partE l)).length < (sum4 (coreN (partE l))).length := by rw [sum4_len]; omega
      have hg : (tableN (partE l)).getD p 0 = (sum4 (coreN (partE l))).getD (p - (coreN (partE l)).length) 0 := by
        unfold tableN
        rw [List.getD_eq_getElem?_getD, List.getD_eq_getElem?_getD, List.getElem?_append_right hb]
      have e2 := congrArg (fun z => z.getD (p - (coreN (partE l)).length) 0) hsum
      rw [List.getD_eq_getElem?_getD, List.getElem?_set, if_pos rfl, if_pos hlt2, hg] at e2
      exact xor_ne hy e2
end Go.Proofs.Ytlcbjmbphekliaa
