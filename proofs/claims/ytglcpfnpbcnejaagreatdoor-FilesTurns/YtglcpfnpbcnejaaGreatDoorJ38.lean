/-
  Memory of the document's Turn: acts whose data lie in rows of bytes; what stays as it was.
-/
import Derived.Test.YtglcpfnpbcnejaaGreatDoorJ37
import Derived.Test.YtglcpfnpbcnejaaGreatDoorJ30
import Derived.Test.YtglcpfnpbcnejaaGreatDoorJ32
import Derived.Test.YtglcpfnpbcnejaaGreatDoorJ35
import Derived.Deep.QuietTactic
import Derived.BigQuiet
namespace Go.Proofs.YtglcpfnpbcnejaaGreatDoor
open Go.RowKit Go.WideShapes Rm

/-- A file put among others, ahead of the first whose name is greater. -/
def inF (x : FileV × Value) : FPs → FPs
  | [] => [x]
  | a :: l => if Op.bytesLess x.1.name.toList a.1.name.toList = true then x :: a :: l else a :: inF x l
def leftF (x : FileV × Value) (b : Bool) (l : FPs) : FPs := if b = true then l else inF x l
theorem drop_fp {ls : FPs} {k : Nat} (h : k < ls.length) : ls.drop k = ls.getD k zeroFP :: ls.drop (k + 1) := by
  rw [List.drop_eq_getElem_cons h, List.getD_eq_getElem?_getD, List.getElem?_eq_getElem h]
  rfl
theorem grt_yes {a b : ByteArray} (h : Op.bytesLess b.toList a.toList = true) : Op.bytesLess a.toList b.toList = false ∧ (a.toList == b.toList) = false := by
  constructor
  · cases h1 : Op.bytesLess a.toList b.toList with
    | false => rfl
    | true => have := bl_trans _ _ _ h1 h; rw [bl_irrefl] at this; cases this
  · have h3 : a.toList ≠ b.toList := fun e => by rw [e, bl_irrefl] at h; cases h
    simpa using h3
theorem grt_no {a b : ByteArray} (h : Op.bytesLess b.toList a.toList = false) : Op.bytesLess a.toList b.toList = true ∨ (Op.bytesLess a.toList b.toList = false ∧ (a.toList == b.toList) = true) := by
  cases h1 : Op.bytesLess a.toList b.toList with
  | true => exact .inl rfl
  | false => exact .inr ⟨rfl, by rw [bl_tri _ _ h1 h]; simp⟩
theorem OnF.lift {w0 w1 wr : World} {base0 : Nat} {v : Value} {l : FPs} (h : OnF w1 base0 v l wr) (hb : Below w0.heap.size w0 w1) : OnF w0 base0 v l wr := ⟨h.own.mono0 hb.size (Nat.le_refl _), below_bt hb h.bel⟩
set_option maxRecDepth 8000 in
set_option maxHeartbeats 4000000 in
theorem rin_any (fv : Value) (ls : FPs) (B base0 : Nat) (nm0 : ByteArray) (sz0 : Int) (pc0 : Pcs) (pv0 : Value) (w : World) (hf : FMix w B base0 fv ls) (hfl : ls.length ≤ 1000) (hp0 : POwn w base0 pv0 pc0) :
    Calls Tryz.prog 54 #[fv, .agg #[.string nm0, .int .i64 sz0, pv0]] w fun e w' => ∃ v, e = .returned v ∧ OnF w base0 v (inF (⟨nm0, sz0, pc0⟩, pv0) ls) w' := by
  obtain ⟨fq, fm, rfl, _, _, _⟩ := hf.form
  obtain ⟨q0, m0, rfl, _, _, _⟩ := hp0.form
  have HF : Hid (FMix w B base0 (.slice fq ls.length fm) ls) := hf
  obtain ⟨l0, hl0⟩ : ∃ k, pc0.length = k := ⟨_, rfl⟩
  have HP0 : Hid (POwn w base0 (.slice q0 pc0.length m0) pc0) := hp0
  rw [hl0] at HP0 ⊢
  obtain ⟨L, hL⟩ : ∃ L, ls.length = L := ⟨_, rfl⟩
  have HL : Hid (ls.length = L) := hL
  rw [hL] at HF hfl ⊢
  have hnI : (L : Int) ≤ 1000 := by omega
  obtain ⟨x, hx⟩ : ∃ x : FileV × Value, (⟨nm0, sz0, pc0⟩, .slice q0 l0 m0) = x := ⟨_, rfl⟩
  have HX : Hid ((⟨nm0, sz0, pc0⟩, .slice q0 l0 m0) = x) := hx
  rw [hx]
  obtain ⟨w0, hw0⟩ : ∃ w0, w.alloc (.cells #[.string nm0, .int .i64 sz0, .slice q0 l0 m0] 51) = w0 := ⟨_, rfl⟩
  have HB0 : Hid (Below w.heap.size w w0) := by show Below _ _ _; rw [← hw0]; exact below_alloc _ _
  have HX0 : Hid (w0.heap[w.heap.size]? = some (.cells #[.string nm0, .int .i64 sz0, .slice q0 l0 m0] 51 (0, 0))) := by show _ = _; rw [← hw0]; exact heap_alloc_new _ _
  clear hf hL hp0 hl0 hx
  go_enter Tryz.func54, Tryz.ntmps54
  go_upto_region 1 with fail
  (try rw [hw0])
  clear hw0
  go_wp2
  go_loopw [5, 6, 7] (fun v b i wr => ∃ (k : Nat) (bb : Bool) (P : FPs), k ≤ L ∧ i = .int .i64 (k : Int) ∧ b = .bool bb ∧ P.length ≤ k + 1 ∧ (bb = false → P.length ≤ k) ∧ P ++ leftF x bb (ls.drop k) = inF x ls ∧ OnF w0 base0 v P wr) (fun _ _ i _ => L - (intOf i).toNat)
  case atStart => exact ⟨0, false, [], by omega, rfl, rfl, by simp, fun _ => by simp, rfl, fmix_nil _ _ _, Below.refl _ _⟩
  case round =>
    obtain ⟨k, bb, P, hk, rfl, rfl, hPl, hPn, hPE, hz⟩ := hrel
    obtain ⟨vq, vm, rfl, _, _, _⟩ := hz.own.form
    have HPL : Hid (P.length ≤ 2000) := by show _ ≤ _; omega
    have HPK : Hid (P.length ≤ k + 1) := hPl
    have HNP : Hid (bb = false → P.length ≤ k) := hPn
    have HPE : Hid (P ++ leftF x bb (ls.drop k) = inF x ls) := hPE
    have HZ : Hid (OnF w0 base0 (.slice vq P.length vm) P wr) := hz
    obtain ⟨lp, hlp⟩ : ∃ lp, P.length = lp := ⟨_, rfl⟩
    rw [hlp] at HZ ⊢
    have HBr : Hid (Below w.heap.size w wr) := below_bt HB0.out hz.bel
    have HXr : Hid (∀ w', Below wr.heap.size wr w' → w'.cell? ⟨w.heap.size, 0, none⟩ = some (.string nm0) ∧ w'.cell? ⟨w.heap.size, 1, none⟩ = some (.int .i64 sz0) ∧ w'.cell? ⟨w.heap.size, 2, none⟩ = some (.slice q0 l0 m0)) := fun w' hb => three_cells (((below_bt hz.bel hb).block _ (lt_heap HX0.out)).trans HX0.out)
    clear hPl hPn hPE hlp hz
    by_cases hkl : k < L
    · have hkI : (k : Int) < (L : Int) := by omega
      have k0 : (0 : Int) ≤ (k : Int) := by omega
      have hkl2 : k < ls.length := by have := HL.out; omega
      obtain ⟨g, rfl, z0, z1, z2, hpo⟩ := HF.out.at hkl2
      have HKL : Hid (k < L) := hkl
      obtain ⟨y, hy⟩ : ∃ f, ls.getD k zeroFP = f := ⟨_, rfl⟩
      have HDR : Hid (ls.drop k = y :: ls.drop (k + 1)) := by show _ = _; rw [← hy]; exact drop_fp hkl2
      rw [hy] at z0 z1 z2 hpo
      obtain ⟨⟨nm, sz, pc⟩, pv⟩ := y
      simp only [Nat.zero_add] at z0 z1 z2 hpo
      obtain ⟨pq, pm, rfl, _, _, _⟩ := hpo.form
      have HPO : Hid (∀ w', Below w.heap.size w w' → POwn w' base0 (.slice pq pc.length pm) pc) := fun w' hb => hpo.below hb
      obtain ⟨lc, hlc⟩ : ∃ lc, pc.length = lc := ⟨_, rfl⟩
      rw [hlc] at z2 HPO HDR
      have HZ3 : Hid (∀ w', Below w.heap.size w w' → w'.cell? ⟨g, k * 3, none⟩ = some (.string nm) ∧ w'.cell? ⟨g, k * 3 + 1, none⟩ = some (.int .i64 sz) ∧ w'.cell? ⟨g, k * 3 + 2, none⟩ = some (.slice pq lc pm)) := fun w' hb => ⟨cellB z0 hb, cellB z1 hb, cellB z2 hb⟩
      clear z0 z1 z2
      obtain ⟨z0, z1, z2⟩ := HZ3.out wr HBr.out
      obtain ⟨x0, x1, x2⟩ := HXr.out wr (Below.refl _ _)
      clear hkl hkl2 hk hy hpo hlc
      cases bb with
      | true =>
        have HNX : Hid ((P ++ [(⟨nm, sz, pc⟩, .slice pq lc pm)]) ++ leftF x true (ls.drop (k + 1)) = inF x ls) := by
          show _ = _
          rw [← HPE.out, HDR.out, List.append_assoc]
          rfl
        go_upto_region 6 with fail
        go_quiet (fail)
        obtain ⟨wd, hwd⟩ : ∃ wd, wr.drewN nq = wd := ⟨_, rfl⟩
        have HD : Hid (Below wr.heap.size wr wd) := by show Below _ _ _; rw [← hwd]; exact below_drewN (Below.refl _ _) _
        (try rw [hwd])
        clear hwd
        have H1 : Hid (OnF w0 base0 (.slice vq lp vm) P (wd.alloc (.cells #[.string nm, .int .i64 sz, .slice pq lc pm] 51))) := (HZ.out.next HD.out).next (below_alloc _ _)
        have HPO1 : Hid (POwn (wd.alloc (.cells #[.string nm, .int .i64 sz, .slice pq lc pm] 51)) base0 (.slice pq lc pm) pc) := HPO.out _ (below_bt HBr.out (below_bt HD.out (below_alloc _ _)))
        have HC1 : Hid _ := new3 wd (.string nm) (.int .i64 sz) (.slice pq lc pm) 51 wd.heap.size rfl
        obtain ⟨t0, t1, t2⟩ := HZ3.out wd (below_bt HBr.out HD.out)
        clear z0 z1 z2 x0 x1 x2
        go_wp2_with (at_builtin; go_loud ((refine wpList_append_mix _ rfl _ _ rfl w0.heap.size base0 (.slice vq lp vm) P (⟨nm, sz, pc⟩, .slice pq lc pm) ⟨wd.heap.size, 0, none⟩ 1 rfl rfl H1.out.own rfl HPO1.out HC1.out.1 HC1.out.2.1 HC1.out.2.2 (by have := HPL.out; omega) H1.out.bel.size ?_); intro v5 w5 ho5 hg5; have H5 : Hid (OnF w0 base0 v5 (P ++ [(⟨nm, sz, pc⟩, .slice pq lc pm)]) w5) := H1.out.app hg5 ho5; clear ho5 hg5))
        go_roundw
        case rel => exact ⟨k + 1, true, _, HKL.out, by go_num, rfl, by have := HPK.out; simp; omega, fun h => (by cases h), HNX.out, H5.out⟩
        case measure => have := HKL.out; simp [intOf]; omega
      | false =>
        cases hlt : Op.bytesLess nm0.toList nm.toList with
        | true =>
          obtain ⟨g1, g2⟩ := grt_yes hlt
          have HNX : Hid ((P ++ [x] ++ [(⟨nm, sz, pc⟩, .slice pq lc pm)]) ++ leftF x true (ls.drop (k + 1)) = inF x ls) := by
            show _ = _
            have h1 : leftF x false (ls.drop k) = x :: (⟨nm, sz, pc⟩, .slice pq lc pm) :: ls.drop (k + 1) := by
              rw [HDR.out]
              show inF x (_ :: _) = _
              rw [inF, if_pos (by rw [← HX.out]; exact hlt)]
            rw [← HPE.out, h1, List.append_assoc, List.append_assoc]
            rfl
          clear hlt
          go_upto_region 6 with fail
          go_quiet (fail)
          obtain ⟨wd, hwd⟩ : ∃ wd, wr.drewN nq = wd := ⟨_, rfl⟩
          have HD : Hid (Below wr.heap.size wr wd) := by show Below _ _ _; rw [← hwd]; exact below_drewN (Below.refl _ _) _
          (try rw [hwd])
          clear hwd
          have hbd : Below w.heap.size w (wd.alloc (.cells #[.string nm0, .int .i64 sz0, .slice q0 l0 m0] 51)) := below_bt HBr.out (below_bt HD.out (below_alloc _ _))
          have H1 : Hid (OnF w0 base0 (.slice vq lp vm) P (wd.alloc (.cells #[.string nm0, .int .i64 sz0, .slice q0 l0 m0] 51))) := (HZ.out.next HD.out).next (below_alloc _ _)
          have HPO1 : Hid (POwn (wd.alloc (.cells #[.string nm0, .int .i64 sz0, .slice q0 l0 m0] 51)) base0 x.2 x.1.pcs) := by show POwn _ _ _ _; rw [← HX.out]; exact HP0.out.below hbd
          have HC1 : Hid _ := new3 wd (.string nm0) (.int .i64 sz0) (.slice q0 l0 m0) 51 wd.heap.size rfl
          have HX1 : Hid (x.2.oneCell' = true ∧ x.1.name = nm0 ∧ x.1.size = sz0 ∧ x.2 = .slice q0 l0 m0) := by show _ ∧ _; rw [← HX.out]; exact ⟨rfl, rfl, rfl, rfl⟩
          obtain ⟨x0, x1, x2⟩ := HXr.out wd HD.out
          clear z0 z1 z2
          go_wp2_with (at_builtin; first
            | (refine wpList_append_mix _ rfl _ _ rfl w0.heap.size base0 (.slice vq lp vm) P x ⟨wd.heap.size, 0, none⟩ 1 rfl rfl H1.out.own HX1.out.1 HPO1.out (by rw [HX1.out.2.1]; exact HC1.out.1) (by rw [HX1.out.2.2.1]; exact HC1.out.2.1) (by rw [HX1.out.2.2.2]; exact HC1.out.2.2) (by have := HPL.out; omega) H1.out.bel.size ?_; intro v5 w5 ho5 hg5; obtain ⟨q5, m5, rfl, _, _, _⟩ := ho5.form; obtain ⟨n5, hn5⟩ : ∃ n5, (P ++ [x]).length = n5 := ⟨_, rfl⟩; rw [hn5] at ho5 ⊢; have H5 : Hid (OnF w0 base0 (.slice q5 n5 m5) (P ++ [x]) w5) := H1.out.app hg5 ho5; have HN5 : Hid (n5 = P.length + 1) := (by rw [← hn5]; simp : n5 = P.length + 1); obtain ⟨t0, t1, t2⟩ := HZ3.out w5 (below_bt HB0.out H5.out.bel); have H6 : Hid (OnF w0 base0 (.slice q5 n5 m5) (P ++ [x]) (w5.alloc (.cells #[.string nm, .int .i64 sz, .slice pq lc pm] 51))) := H5.out.next (below_alloc _ _); have HPO6 : Hid (POwn (w5.alloc (.cells #[.string nm, .int .i64 sz, .slice pq lc pm] 51)) base0 (.slice pq lc pm) pc) := HPO.out _ (below_bt (below_bt HB0.out H5.out.bel) (below_alloc _ _)); have HC6 : Hid _ := new3 w5 (.string nm) (.int .i64 sz) (.slice pq lc pm) 51 w5.heap.size rfl; clear ho5 hg5 hn5)
            | (refine wpList_append_mix _ rfl _ _ rfl w0.heap.size base0 (.slice q5 n5 m5) (P ++ [x]) (⟨nm, sz, pc⟩, .slice pq lc pm) ⟨w5.heap.size, 0, none⟩ 1 rfl rfl H6.out.own rfl HPO6.out HC6.out.1 HC6.out.2.1 HC6.out.2.2 (by have := HPL.out; simp; omega) H6.out.bel.size ?_; intro v7 w7 ho7 hg7; have H7 : Hid (OnF w0 base0 v7 (P ++ [x] ++ [(⟨nm, sz, pc⟩, .slice pq lc pm)]) w7) := H6.out.app hg7 ho7; clear ho7 hg7)
            | fail)
          go_roundw
          case rel => exact ⟨k + 1, true, _, HKL.out, by go_num, rfl, by have := HNP.out rfl; simp; omega, fun h => (by cases h), HNX.out, H7.out⟩
          case measure => have := HKL.out; simp [intOf]; omega
        | false =>
          have HNX : Hid ((P ++ [(⟨nm, sz, pc⟩, .slice pq lc pm)]) ++ leftF x false (ls.drop (k + 1)) = inF x ls) := by
            show _ = _
            have h1 : leftF x false (ls.drop k) = (⟨nm, sz, pc⟩, .slice pq lc pm) :: inF x (ls.drop (k + 1)) := by
              rw [HDR.out]
              show inF x (_ :: _) = _
              rw [inF, if_neg (by rw [← HX.out]; simp only [hlt]; decide)]
            rw [← HPE.out, h1, List.append_assoc]
            rfl
          rcases grt_no hlt with g1 | ⟨g1, g2⟩
          all_goals
            clear hlt
            go_upto_region 6 with fail
            go_quiet (fail)
            obtain ⟨wd, hwd⟩ : ∃ wd, wr.drewN nq = wd := ⟨_, rfl⟩
            have HD : Hid (Below wr.heap.size wr wd) := by show Below _ _ _; rw [← hwd]; exact below_drewN (Below.refl _ _) _
            (try rw [hwd])
            clear hwd
            have H1 : Hid (OnF w0 base0 (.slice vq lp vm) P (wd.alloc (.cells #[.string nm, .int .i64 sz, .slice pq lc pm] 51))) := (HZ.out.next HD.out).next (below_alloc _ _)
            have HPO1 : Hid (POwn (wd.alloc (.cells #[.string nm, .int .i64 sz, .slice pq lc pm] 51)) base0 (.slice pq lc pm) pc) := HPO.out _ (below_bt HBr.out (below_bt HD.out (below_alloc _ _)))
            have HC1 : Hid _ := new3 wd (.string nm) (.int .i64 sz) (.slice pq lc pm) 51 wd.heap.size rfl
            obtain ⟨t0, t1, t2⟩ := HZ3.out wd (below_bt HBr.out HD.out)
            clear z0 z1 z2 x0 x1 x2
            go_wp2_with (at_builtin; go_loud ((refine wpList_append_mix _ rfl _ _ rfl w0.heap.size base0 (.slice vq lp vm) P (⟨nm, sz, pc⟩, .slice pq lc pm) ⟨wd.heap.size, 0, none⟩ 1 rfl rfl H1.out.own rfl HPO1.out HC1.out.1 HC1.out.2.1 HC1.out.2.2 (by have := HPL.out; omega) H1.out.bel.size ?_); intro v5 w5 ho5 hg5; have H5 : Hid (OnF w0 base0 v5 (P ++ [(⟨nm, sz, pc⟩, .slice pq lc pm)]) w5) := H1.out.app hg5 ho5; clear ho5 hg5))
            go_roundw
            case rel => exact ⟨k + 1, false, _, HKL.out, by go_num, rfl, by have := HPK.out; simp; omega, fun _ => by have := HNP.out rfl; simp; omega, HNX.out, H5.out⟩
            case measure => have := HKL.out; simp [intOf]; omega
    · have hkI : (L : Int) ≤ (k : Int) := by omega
      have hde : ls.drop k = [] := List.drop_eq_nil_of_le (by have := HL.out; omega)
      cases bb with
      | true =>
        have HE : Hid (P = inF x ls) := by
          show _ = _
          rw [← HPE.out, hde]
          exact (List.append_nil P).symm
        clear hde hkl
        go_wp2
        go_ret
        exact ⟨_, rfl, by rw [← HE.out]; exact HZ.out.lift HB0.out⟩
      | false =>
        have HE : Hid (P ++ [x] = inF x ls) := by
          show _ = _
          rw [← HPE.out, hde]
          rfl
        have hbd : Below w.heap.size w (wr.alloc (.cells #[.string nm0, .int .i64 sz0, .slice q0 l0 m0] 51)) := below_bt HBr.out (below_alloc _ _)
        have H1 : Hid (OnF w0 base0 (.slice vq lp vm) P (wr.alloc (.cells #[.string nm0, .int .i64 sz0, .slice q0 l0 m0] 51))) := HZ.out.next (below_alloc _ _)
        have HPO1 : Hid (POwn (wr.alloc (.cells #[.string nm0, .int .i64 sz0, .slice q0 l0 m0] 51)) base0 x.2 x.1.pcs) := by show POwn _ _ _ _; rw [← HX.out]; exact HP0.out.below hbd
        have HC1 : Hid _ := new3 wr (.string nm0) (.int .i64 sz0) (.slice q0 l0 m0) 51 wr.heap.size rfl
        have HX1 : Hid (x.2.oneCell' = true ∧ x.1.name = nm0 ∧ x.1.size = sz0 ∧ x.2 = .slice q0 l0 m0) := by show _ ∧ _; rw [← HX.out]; exact ⟨rfl, rfl, rfl, rfl⟩
        obtain ⟨x0, x1, x2⟩ := HXr.out wr (Below.refl _ _)
        clear hde hkl hbd
        go_wp2_with (at_builtin; go_loud ((refine wpList_append_mix _ rfl _ _ rfl w0.heap.size base0 (.slice vq lp vm) P x ⟨wr.heap.size, 0, none⟩ 1 rfl rfl H1.out.own HX1.out.1 HPO1.out (by rw [HX1.out.2.1]; exact HC1.out.1) (by rw [HX1.out.2.2.1]; exact HC1.out.2.1) (by rw [HX1.out.2.2.2]; exact HC1.out.2.2) (by have := HPL.out; omega) H1.out.bel.size ?_); intro v5 w5 ho5 hg5; have H5 : Hid (OnF w0 base0 v5 (P ++ [x]) w5) := H1.out.app hg5 ho5; clear ho5 hg5))
        go_ret
        exact ⟨_, rfl, by rw [← HE.out]; exact H5.out.lift HB0.out⟩
end Go.Proofs.YtglcpfnpbcnejaaGreatDoor
namespace Go.Proofs.YtglcpfnpbcnejaaGreatDoor
open Go.RowKit Go.WideShapes Rm

/-- A file put among others, ahead of the first whose name is greater. -/
def inV (f : FileV) : List FileV → List FileV
  | [] => [f]
  | a :: l => if Op.bytesLess f.name.toList a.name.toList = true then f :: a :: l else a :: inV f l
theorem inF_fst (x : FileV × Value) : ∀ ls : FPs, (inF x ls).map Prod.fst = inV x.1 (ls.map Prod.fst)
  | [] => rfl
  | a :: l => by
    rw [inF, List.map_cons, inV]
    split
    · rfl
    · rw [List.map_cons, inF_fst x l]
def insAll (l P : List FileV) : List FileV := P.foldl (fun acc f => inV f acc) l
theorem insAll_snoc (l P : List FileV) (f : FileV) : insAll l (P ++ [f]) = inV f (insAll l P) := by
  unfold insAll
  rw [List.foldl_append]
  rfl
theorem inV_perm (f : FileV) : ∀ l : List FileV, (inV f l).Perm (f :: l)
  | [] => List.Perm.refl _
  | a :: l => by
    rw [inV]
    split
    · exact List.Perm.refl _
    · exact ((inV_perm f l).cons a).trans (List.Perm.swap f a l)
theorem insAll_perm : ∀ (P l : List FileV), (insAll l P).Perm (l ++ P)
  | [], l => by rw [List.append_nil]; exact List.Perm.refl _
  | f :: P, l => by
    have h1 : insAll l (f :: P) = insAll (inV f l) P := rfl
    rw [h1]
    refine (insAll_perm P (inV f l)).trans ?_
    refine ((inV_perm f l).append_right P).trans ?_
    exact List.perm_middle.symm
def Srt (l : List FileV) : Prop := l.Pairwise fun x y => Op.bytesLess y.name.toList x.name.toList = false
theorem inV_srt {f : FileV} : ∀ {l : List FileV}, Srt l → Srt (inV f l)
  | [], _ => List.pairwise_singleton _ _
  | a :: l, h => by
    have h' := List.pairwise_cons.1 h
    rw [inV]
    split
    · rename_i hlt
      refine List.pairwise_cons.2 ⟨fun y hy => ?_, h⟩
      rcases List.mem_cons.1 hy with rfl | hy
      · exact (grt_yes hlt).1
      · cases e : Op.bytesLess y.name.toList f.name.toList with
        | false => rfl
        | true =>
          have h1 := h'.1 y hy
          rw [bl_trans _ _ _ e hlt] at h1
          cases h1
    · rename_i hlt
      refine List.pairwise_cons.2 ⟨fun y hy => ?_, inV_srt h'.2⟩
      rcases List.mem_cons.1 ((inV_perm f l).mem_iff.1 hy) with rfl | hy
      · simpa using hlt
      · exact h'.1 y hy
theorem insAll_srt : ∀ {P l : List FileV}, Srt l → Srt (insAll l P)
  | [], _, h => h
  | f :: P, l, h => insAll_srt (P := P) (l := inV f l) (inV_srt h)
def Dist (l : List FileV) : Prop := l.Pairwise fun x y => x.name ≠ y.name
theorem Dist.perm {l m : List FileV} (h : Dist l) (hp : l.Perm m) : Dist m := (hp.pairwise_iff (fun h => fun e => h e.symm)).1 h
theorem srt_strict {l : List FileV} (h : Srt l) (hd : Dist l) : l.Pairwise fun x y => ltB x.name y.name = true := by
  refine (h.and hd).imp fun {a b} hab => ?_
  rcases ltB_tot a.name b.name hab.2 with h1 | h1
  · exact h1
  · have h2 : Op.bytesLess b.name.toList a.name.toList = true := h1
    rw [hab.1] at h2
    cases h2
theorem srt_only {l m : List FileV} (hl : Srt l) (hm : Srt m) (hd : Dist l) (hp : l.Perm m) : l = m :=
  rise_ext (R := fun x y : FileV => ltB x.name y.name = true) (fun a h => by rw [ltB_irr] at h; cases h) (fun a b c => ltB_tr _ _ _) (srt_strict hl hd) (srt_strict hm (hd.perm hp)) (fun n => hp.mem_iff)
theorem strict_srt {l : List FileV} (h : l.Pairwise fun x y => ltB x.name y.name = true) : Srt l := h.imp fun {a b} hab => (grt_yes (a := b.name) (b := a.name) hab).1
/-- The names of what stays and of what is put differ. -/
theorem new_dist {count : Int} {x : DirV} {l : List CV} {P : List FileV} (hz : 80 ≤ count ∧ count ≤ 4096) (hm : May ltS x) (hk : errK count (allPcs x.files) = 0) (hE : chgE x.files l = 0) (hp : placeN count (allPcs x.files) (csOf (putsC l)) = .ok P) : Dist ((x.files.filter fun f => !namedC l f.name) ++ P) := by
  have hgx := (errK_zero hk).2.2
  obtain ⟨_, h2, _⟩ := place_facts hz hgx hp
  have hnm : P.map FileV.name = (putsC l).map CV.key := by
    have := congrArg (List.map Prod.fst) h2
    simpa [List.map_map, Function.comp_def, csOf] using this
  refine List.pairwise_append.2 ⟨?_, ?_, fun a ha b hb => ?_⟩
  · exact ((rises_pair ltB_tr (l := x.files) hm.rise).filter _).imp fun {a b} h e => by rw [e, ltB_irr] at h; cases h
  · have h3 : (l.map toV).Pairwise fun c d => c.key ≠ d.key := chg_pair hE
    rw [List.pairwise_map] at h3
    have h4 : (putsC l).Pairwise fun c d => c.key ≠ d.key := h3.filter _
    have h5 : (P.map FileV.name).Pairwise fun a b => a ≠ b := by
      rw [hnm, List.pairwise_map]
      exact h4
    rw [List.pairwise_map] at h5
    exact h5
  · intro e
    have h1 := (List.mem_filter.1 ha).2
    have h3 : b.name ∈ (putsC l).map CV.key := by rw [← hnm]; exact List.mem_map_of_mem hb
    obtain ⟨c, hc, hce⟩ := List.mem_map.1 h3
    have h4 : namedC l a.name = true := by
      unfold namedC
      rw [List.any_eq_true]
      exact ⟨c, (List.mem_filter.1 hc).1, by rw [hce, e]; simp⟩
    rw [h4] at h1
    cases h1
theorem chg_names {old : List FileV} {l : List CV} (h : chgE old l = 0) : ∀ c ∈ l, isNameN c.key = true := by
  intro c hc
  obtain ⟨k, hk, rfl⟩ := List.getElem_of_mem hc
  have h1 := (chg_each h hk).1
  rwa [getD_eq hk] at h1
theorem allPcs_prm {l m : List FileV} (h : l.Perm m) : (allPcs l).Perm (allPcs m) := h.flatMap_right _
theorem allPcs_app (l m : List FileV) : allPcs (l ++ m) = allPcs l ++ allPcs m := by unfold allPcs; rw [List.flatMap_append]
theorem good_filter {count : Int} (q : FileV → Bool) : ∀ {l m : List FileV}, Rm.Good count (allPcs (l ++ m)) → Rm.Good count (allPcs (l.filter q ++ m))
  | [], m, h => h
  | a :: l, m, h => by
    rw [List.filter_cons]
    split
    · have h1 : Rm.Good count (allPcs (l ++ (a :: m))) := h.perm (allPcs_prm List.perm_middle.symm)
      have h2 := good_filter q (l := l) (m := a :: m) h1
      exact h2.perm (allPcs_prm List.perm_middle)
    · have h1 : allPcs (a :: l ++ m) = a.pcs ++ allPcs (l ++ m) := by simp [allPcs]
      rw [h1] at h
      exact good_filter q h.right
/-- The new directory may be. -/
theorem new_may {count : Int} {x : DirV} {l : List CV} {P ss : List FileV} {G : Int} (hz : 80 ≤ count ∧ count ≤ 4096) (hm : May ltS x) (hk : errK count (allPcs x.files) = 0) (hE : chgE x.files l = 0) (hfew : (x.files.filter fun f => !namedC l f.name).length + (putsC l).length ≤ 32) (hp : placeN count (allPcs x.files) (csOf (putsC l)) = .ok P)
    (hG1 : 1 ≤ G) (hG2 : G < 4611686018427387904) (hpm : ((x.files.filter fun f => !namedC l f.name) ++ P).Perm ss) (hs : Srt ss) : May ltS ⟨G, ss⟩ := by
  have hgx := (errK_zero hk).2.2
  obtain ⟨p1, h2, p3⟩ := place_facts hz hgx hp
  obtain ⟨w1, w2, _⟩ := placed_wf hz hgx hp
  have hd := (new_dist hz hm hk hE hp).perm hpm
  have hg : Rm.Good count (allPcs ss) := by
    rw [← allPcs_app] at p1
    exact (good_filter _ p1).perm (allPcs_prm hpm)
  have hg4 := Rm.good_more hg hz.2
  refine ⟨hG1, hG2, ?_, ?_, errK_ok (by omega) (good_len (count := 4096) hg4) hg4, fun f hf => ?_⟩
  · have := hpm.length_eq
    rw [List.length_append, w1] at this
    show ss.length ≤ 32
    omega
  · intro i hi
    have h := List.pairwise_iff_getElem.1 (srt_strict hs hd) i (i + 1) (by simp only at hi; omega) hi (by omega)
    show ltS (ss.getD i zeroF).name (ss.getD (i + 1) zeroF).name
    have hi2 : i + 1 < ss.length := hi
    rw [getD_eq (show i < ss.length by omega), getD_eq hi2]
    exact h
  · rcases List.mem_append.1 (hpm.mem_iff.2 hf) with h | h
    · exact hm.each f (List.mem_filter.1 h).1
    · obtain ⟨c, hc, hn⟩ := (w2 f h).2.2
      obtain ⟨q1, q2, q3, q4⟩ := p3 f h
      exact ⟨by rw [hn]; exact chg_names hE c (List.mem_filter.1 hc).1, q3, q4, q1, q2⟩
/-- What Turn answers. -/
def turnV (count : Int) (data : List Nat) (ws : Puts) (r : Option (DirV × Int)) (n : Int) (l : List CV) : Int × Acts :=
  match r with
  | none => (n, [])
  | some (x, at_) =>
    if chgE x.files l ≠ 0 then (chgE x.files l, [])
    else if 32 < (x.files.filter fun f => !namedC l f.name).length + (putsC l).length then (42, [])
    else match placeN count (allPcs x.files) (csOf (putsC l)) with
      | .error E => (E, [])
      | .ok P =>
        if genK data ws (8 - at_).toNat x.gen 8 + 1 = 4611686018427387904 then (42, [])
        else if (insideN (insAll (x.files.filter fun f => !namedC l f.name) P)).length ≤ 952 then
          (0, (if filesA P (valsOf (putsC l)) = [] then [] else filesA P (valsOf (putsC l)) ++ [flA]) ++ (secsA (8 - at_).toNat (bytesN ⟨genK data ws (8 - at_).toNat x.gen 8 + 1, insAll (x.files.filter fun f => !namedC l f.name) P⟩) 8 ++ [flA]))
        else (42, [])
theorem stay_srt {x : DirV} (hm : May ltS x) (l : List CV) : Srt (x.files.filter fun f => !namedC l f.name) := strict_srt ((rises_pair ltB_tr (l := x.files) hm.rise).filter _)
theorem turnIs_V {count : Int} {data : List Nat} {ws : Puts} {r : Option (DirV × Int)} {n m : Int} {l : List CV} {A : Acts} (hm : MountIs count data ws r n) (h : TurnIs count data ws r n l m A) : turnV count data ws r n l = (m, A) := by
  cases h with
  | none h => subst h; rfl
  | chg x at_ E h hE h0 => subst h; simp only [turnV, hE]; rw [if_pos h0]
  | many x at_ h hE hm' => subst h; simp only [turnV, hE]; rw [if_neg (by simp), if_pos hm']
  | place x at_ E h hE hm' hp => subst h; simp only [turnV, hE]; rw [if_neg (by simp), if_neg (by omega), hp]
  | last x o P h ho hE hm' hp hG =>
    subst h
    simp only [turnV, hE]
    rw [if_neg (by simp), if_neg (by omega), hp]
    simp only
    rw [show (8 - (8 - (o : Int))).toNat = o by omega, if_pos hG]
  | bad x o P ss G m b h ho hE hm' hp hG hG2 hpm hup hw hm0 =>
    subst h
    have hsm := mountIs_some hm
    have hz : 80 ≤ count ∧ count ≤ 4096 := ⟨by have := hsm.2.2.2.1; omega, hsm.2.2.2.2.hi⟩
    have hss : insAll (x.files.filter fun f => !namedC l f.name) P = ss := srt_only (insAll_srt (stay_srt hsm.1 l)) hup ((new_dist hz hsm.1 hsm.2.1 hE hp).perm (insAll_perm P _).symm) ((insAll_perm P _).trans hpm)
    have hgw := gen_wf hsm.1.lo hsm.1.hi hG
    have hmay : May ltS ⟨G, ss⟩ := new_may hz hsm.1 hsm.2.1 hE hm' hp (by omega) (by omega) hpm hup
    simp only [turnV, hE]
    rw [if_neg (by simp), if_neg (by omega), hp]
    simp only
    rw [show (8 - (8 - (o : Int))).toNat = o by omega, hG, if_neg hG2, hss]
    cases hw with
    | many h1 => exact absurd hmay.many (by omega)
    | bad h1 h2 => exact absurd hmay h2
    | long h1 h2 =>
      have h3 : 952 < (insideN ss).length := h2
      rw [if_neg (by omega)]
    | ok h1 h2 => exact absurd rfl hm0
  | ok x o P ss G b F h ho hE hm' hp hG hG2 hpm hup hw hF =>
    subst h
    have hsm := mountIs_some hm
    have hz : 80 ≤ count ∧ count ≤ 4096 := ⟨by have := hsm.2.2.2.1; omega, hsm.2.2.2.2.hi⟩
    have hss : insAll (x.files.filter fun f => !namedC l f.name) P = ss := srt_only (insAll_srt (stay_srt hsm.1 l)) hup ((new_dist hz hsm.1 hsm.2.1 hE hp).perm (insAll_perm P _).symm) ((insAll_perm P _).trans hpm)
    simp only [turnV, hE]
    rw [if_neg (by simp), if_neg (by omega), hp]
    simp only
    rw [show (8 - (8 - (o : Int))).toNat = o by omega, hG, if_neg hG2, hss]
    cases hw with
    | ok h1 h2 =>
      have h3 : (insideN ss).length ≤ 952 := h2
      rw [if_pos h3, hF]
theorem place_step {count : Int} {U : Pcs} {key : ByteArray} {v : List Nat} {cs : List (ByteArray × List Nat)} {P : List FileV} (h1 : ¬ 4096 < needsN (v.length : Nat)) (h2 : errT 80 count U (needsN (v.length : Nat)) = 0) :
    joinR P (placeN count U ((key, v) :: cs)) = joinR (P ++ [⟨key, (v.length : Nat), resT 80 count U (needsN (v.length : Nat))⟩]) (placeN count (U ++ resT 80 count U (needsN (v.length : Nat))) cs) := by
  rw [placeN, if_neg h1, if_neg (by simp [h2])]
  cases placeN count (U ++ resT 80 count U (needsN (v.length : Nat))) cs with
  | error e => rfl
  | ok Q => simp [joinR]
end Go.Proofs.YtglcpfnpbcnejaaGreatDoor
namespace Go.Proofs.YtglcpfnpbcnejaaGreatDoor
set_option maxRecDepth 8000
open Go.RowKit Go.WideShapes

set_option maxHeartbeats 4000000 in
theorem rsame_any (v1 v2 : Value) (c1 c2 : Int) (d1 d2 : List Nat) (w1 w2 : Puts) (w : World) (h1 : DiskIn w v1 c1 d1 w1) (h2 : DiskIn w v2 c2 d2 w2) (b : Bool) (hb : b = true ↔ SameD c1 c2 d1 d2 w1 w2) :
    Calls Tryz.prog 24 #[v1, v2] w fun e w' => e = .returned (.bool b) ∧ Below w.heap.size w w' := by
  obtain ⟨p1, k1, q1, m1, rfl, hb1, _, _, _, hq1, hm1, hmm1, _⟩ := h1.parts
  obtain ⟨p2, k2, q2, m2, rfl, hb2, _, _, _, hq2, hm2, hmm2, _⟩ := h2.parts
  unfold maxLen at hmm1 hmm2
  have HBB : Hid _ := hb
  have HB1 : Hid (BIn w p1 d1) := hb1
  have HB2 : Hid (BIn w p2 d2) := hb2
  have HQ1 : Hid (PutsIn w q1 w1) := hq1
  have HQ2 : Hid (PutsIn w q2 w2) := hq2
  clear hb hb1 hb2 hq1 hq2 h1 h2
  by_cases g1 : c1 = c2
  · subst g1
    have cv1 := conv_bytes (HB1.out.below ((below_alloc w (.cells #[.int .i64 c1, .slice p1 d1.length k1, .slice q1 w1.length m1] 25)).alloc (by simp) (.cells #[.int .i64 c1, .slice p2 d2.length k2, .slice q2 w2.length m2] 25))) k1
    have cv2 := conv_bytes (HB2.out.below ((below_alloc w (.cells #[.int .i64 c1, .slice p1 d1.length k1, .slice q1 w1.length m1] 25)).alloc (by simp) (.cells #[.int .i64 c1, .slice p2 d2.length k2, .slice q2 w2.length m2] 25))) k2
    by_cases g2 : d1 = d2
    · subst g2
      by_cases g3 : w1.length = w2.length
      · have G3 : Hid (w1.length = w2.length) := g3
        have g3a : w1.length ≤ w2.length := by omega
        have g3b : w2.length ≤ w1.length := by omega
        have hneb : ((w1.length : Int) != (w2.length : Int)) = false := by simp; omega
        clear g3
        go_enter Tryz.func24, Tryz.ntmps24
        go_wp2
        clear cv1 cv2
        go_loopw [5] (fun i wr => ∃ k : Nat, k ≤ w1.length ∧ i = .int .i64 k ∧ Hid (w1.take k = w2.take k) ∧ Below (w.heap.size + 2) ((w.alloc (.cells #[.int .i64 c1, .slice p1 d1.length k1, .slice q1 w1.length m1] 25)).alloc (.cells #[.int .i64 c1, .slice p2 d1.length k2, .slice q2 w2.length m2] 25)) wr) (fun i _ => w1.length - (intOf i).toNat)
        case atStart => exact ⟨0, by omega, rfl, rfl, Below.refl _ _⟩
        case round =>
          obtain ⟨k, hk, rfl, HT, hbk⟩ := hrel
          obtain ⟨hx1, hx2⟩ := box2_cells hbk
          obtain ⟨r0, r1, r2⟩ := cells3 hx2
          obtain ⟨u0, u1, u2⟩ := cells3 hx1
          have hz := box2_size hbk
          have hbw := box2_below hbk
          clear hx1 hx2
          by_cases hkl : k < w1.length
          · have hq1 := HQ1.out.below hbw
            have hq2 := HQ2.out.below hbw
            obtain ⟨bq1, oq1, rfl⟩ := hq1.addr (by omega)
            obtain ⟨bq2, oq2, rfl⟩ := hq2.addr (by omega)
            obtain ⟨e1, pk1, ck1, e2, hbi1⟩ := hq1.at2 hkl
            obtain ⟨f1, pk2, ck2, f2, hbi2⟩ := hq2.at2 (show k < w2.length by omega)
            have HST := same_step (w1 := w1) (w2 := w2) hkl (show k < w2.length by omega) HT.out
            have HNO := same_not (w1 := w1) (w2 := w2) (k := k)
            generalize w1.getD k (0, []) = y1 at *
            generalize w2.getD k (0, []) = y2 at *
            obtain ⟨s1, xs1⟩ := y1
            obtain ⟨s2, xs2⟩ := y2
            simp only at e1 e2 f1 f2 hbi1 hbi2
            have HST' : Hid _ := HST
            have HNO' : Hid _ := HNO
            have cx1 := fun n => conv_atD (w := wr.drewN n) (c := ck1) (show BIn (wr.drewN n) pk1 xs1 from hbi1) rfl
            have cx2 := fun n => conv_atD (w := wr.drewN n) (c := ck2) (show BIn (wr.drewN n) pk2 xs2 from hbi2) rfl
            have HSE : Hid (((strOf xs1).toList == (strOf xs2).toList) = decide (xs1 = xs2)) := str_eq hbi1.2 hbi2.2
            clear HST HNO hbi1 hbi2 hq1 hq2
            have hk0 : (0 : Int) ≤ (k : Int) := by omega
            have hk1 : (k : Int) < (w1.length : Int) := by omega
            have hk2 : (k : Int) < (w2.length : Int) := by omega
            by_cases gs : s1 = s2
            · have hsb : (s1 != s2) = false := by simpa using gs
              by_cases gx : xs1 = xs2
              · have HT2 : Hid (w1.take (k + 1) = w2.take (k + 1)) := HST'.out (by rw [gs, gx])
                subst gx
                clear gs HST' HNO'
                go_wp2
                go_quiet (fail)
                go_wp2
                go_roundw
                case rel => exact ⟨k + 1, by omega, by go_num, HT2, below_drewND hbk nq⟩
                case measure => simp [intOf]; omega
              · have hf : b = false := by
                  cases b with
                  | false => rfl
                  | true => exact absurd (HBB.out.1 rfl).2.2 (HNO'.out (fun h => gx (by simpa using congrArg Prod.snd h)))
                subst hf
                have hne1 : ((strOf xs1).toList == (strOf xs2).toList) = false := by rw [HSE.out]; exact decide_eq_false gx
                have hne2 : ((strOf xs1).toList != (strOf xs2).toList) = true := by simpa [bne] using hne1
                clear gs gx
                go_wp2
                go_quiet (fail)
                go_wp2
                go_ret
                exact ⟨rfl, box2_below (below_drewND hbk nq)⟩
            · have hf : b = false := by
                cases b with
                | false => rfl
                | true => exact absurd (HBB.out.1 rfl).2.2 (HNO'.out (fun h => gs (by simpa using congrArg Prod.fst h)))
              have hsb : (s1 != s2) = true := by simpa using gs
              subst hf
              clear gs cx1 cx2
              go_wp2
              go_quiet (fail)
              go_wp2
              go_ret
              exact ⟨rfl, box2_below (below_drewND hbk nq)⟩
          · obtain rfl : k = w1.length := by omega
            have ht : b = true := HBB.out.2 ⟨rfl, rfl, same_all G3.out HT.out⟩
            subst ht
            go_wp2
            go_ret
            exact ⟨rfl, hbw⟩
      · have hf : b = false := by
          cases b with
          | false => rfl
          | true => exact absurd (HBB.out.1 rfl).2.2 (fun h => g3 (by rw [h]))
        have hne : ((w1.length : Int) != (w2.length : Int)) = true := by simp; omega
        subst hf
        go_enter Tryz.func24, Tryz.ntmps24
        go_wp2
        go_ret
        exact ⟨rfl, (below_alloc _ _).alloc (by simp) _⟩
    · have hf : b = false := by
        cases b with
        | false => rfl
        | true => exact absurd (HBB.out.1 rfl).2.1 g2
      have hne1 : ((strOf d1).toList == (strOf d2).toList) = false := by rw [str_eq HB1.out.2 HB2.out.2]; exact decide_eq_false g2
      have hne2 : ((strOf d1).toList != (strOf d2).toList) = true := by simpa [bne] using hne1
      subst hf
      clear g2
      go_enter Tryz.func24, Tryz.ntmps24
      go_wp2
      go_ret
      exact ⟨rfl, (below_alloc _ _).alloc (by simp) _⟩
  · have hf : b = false := by
      cases b with
      | false => rfl
      | true => exact absurd (HBB.out.1 rfl).1 g1
    have hne : (c1 != c2) = true := by simpa using g1
    subst hf
    clear g1
    go_enter Tryz.func24, Tryz.ntmps24
    go_wp2
    go_ret
    exact ⟨rfl, (below_alloc _ _).alloc (by simp) _⟩
end Go.Proofs.YtglcpfnpbcnejaaGreatDoor
namespace Go.Proofs.YtglcpfnpbcnejaaGreatDoor
open Go.RowKit Go.WideShapes Rm

/-- Rows of these types are as they were. -/
structure KeepT (T : TypeId → Prop) (w w' : World) : Prop where
  same : ∀ (k : Nat) (cs : Array Value) (t : TypeId), T t → w.heap[k]? = some (.cells cs t (0, 0)) → w'.heap[k]? = some (.cells cs t (0, 0))
theorem KeepT.of_below {T : TypeId → Prop} {w w' : World} (hb : Below w.heap.size w w') : KeepT T w w' := ⟨fun k _ _ _ h => (hb.block k (lt_heap h)).trans h⟩
theorem KeepT.of_grown {w w' : World} {base n s : Nat} {e : TypeId} {v : Value} {xs : List Value} (h : w.ownsRow base e s v n xs) (hg : w.grownBy w' v.ownBlock) : KeepT (fun t => t ≠ e) w w' := ⟨fun _ _ _ ht hB => box_grow h hg hB (fun e => ht e.symm)⟩
theorem KeepT.trans {T : TypeId → Prop} {a b c : World} (h : KeepT T a b) (k : KeepT T b c) : KeepT T a c := ⟨fun i cs t ht hh => k.same i cs t ht (h.same i cs t ht hh)⟩
theorem KeepT.refl (T : TypeId → Prop) (a : World) : KeepT T a a := ⟨fun _ _ _ _ h => h⟩
theorem own_keepT {T : TypeId → Prop} {w w' : World} {base n s : Nat} {e : TypeId} {v : Value} {xs : List Value} (h : w.ownsRow base e s v n xs) (ht : T e) (k : KeepT T w w') : w'.ownsRow base e s v n xs := by
  obtain ⟨h1, h2⟩ := h
  refine ⟨h1, ?_⟩
  rcases h2 with h0 | ⟨g, cap, cur, hv, a, b, c, d, f, t⟩
  · exact .inl h0
  · exact .inr ⟨g, cap, cur, hv, a, k.same g _ _ ht b, c, d, f, t⟩
theorem FMix.keepT {T : TypeId → Prop} {w w' : World} {base base0 : Nat} {v : Value} {ls : FPs} (h : FMix w base base0 v ls) (h1 : T 51) (h2 : T 53) (k : KeepT T w w') : FMix w' base base0 v ls := ⟨own_keepT h.row h1 k, fun x hx => own_keepT (h.pcs x hx) h2 k⟩
/-- Data of an act, lying in a row of bytes. -/
structure DataI (w : World) (dv : Value) (xs : List Nat) : Prop where
  ex : (xs = [] ∧ dv = .slice none 0 0) ∨ ∃ g o c cs, dv = .slice (some ⟨g, o, none⟩) xs.length c ∧ xs.length ≤ c ∧ c ≤ maxLen ∧ w.heap[g]? = some (.cells cs 5 (0, 0)) ∧ ∀ i, i < xs.length → cs[o + i]? = some (.int .u8 ((xs.getD i 0 : Nat) : Int))
  byt : ∀ c ∈ xs, c < 256
theorem DataI.row {w : World} {dv : Value} {xs : List Nat} (h : DataI w dv xs) : Row w dv xs := by
  rcases h.ex with ⟨rfl, rfl⟩ | ⟨g, o, c, cs, rfl, h1, h2, h3, h4⟩
  · exact ⟨⟨none, 0, rfl, ⟨fun h => absurd h (by simp), by simp⟩, by simp, by unfold maxLen; omega, fun _ => rfl⟩⟩
  · exact ⟨⟨_, c, rfl, ⟨fun _ => ⟨g, o, rfl, fun i hi => by rw [cell_of_row w g (o + i) cs _ _ h3]; exact h4 i hi⟩, h.byt⟩, h1, h2, fun e => by cases e⟩⟩
theorem DataI.keepT {T : TypeId → Prop} {w w' : World} {dv : Value} {xs : List Nat} (h : DataI w dv xs) (h5 : T 5) (k : KeepT T w w') : DataI w' dv xs := by
  refine ⟨?_, h.byt⟩
  rcases h.ex with h | ⟨g, o, c, cs, e, h1, h2, h3, h4⟩
  · exact .inl h
  · exact .inr ⟨g, o, c, cs, e, h1, h2, k.same g _ _ h5 h3, h4⟩
theorem DataI.one {w : World} {dv : Value} {xs : List Nat} (h : DataI w dv xs) : dv.oneCell' = true := by
  rcases h.ex with ⟨_, rfl⟩ | ⟨g, o, c, cs, rfl, _⟩ <;> rfl
/-- A row of acts of one's own, the data anywhere. -/
structure AMix (w : World) (base : Nat) (v : Value) (l : List ActF) : Prop where
  row : w.ownsRow base 47 3 v l.length (cellsT l)
  data : ∀ y ∈ l, DataI w y.2 y.1.2.2
theorem amix_nil (w : World) (base : Nat) : AMix w base (.slice none 0 0) [] := ⟨World.ownsRow_nil _ _ _ _, fun y hy => by cases hy⟩
theorem AMix.below {w w' : World} {base : Nat} {v : Value} {l : List ActF} (h : AMix w base v l) (hb : Below w.heap.size w w') : AMix w' base v l := ⟨own_below h.row hb, fun y hy => (h.data y hy).keepT (T := fun _ => True) trivial (.of_below hb)⟩
theorem AMix.keepT {T : TypeId → Prop} {w w' : World} {base : Nat} {v : Value} {l : List ActF} (h : AMix w base v l) (h1 : T 47) (h5 : T 5) (k : KeepT T w w') : AMix w' base v l := ⟨own_keepT h.row h1 k, fun y hy => (h.data y hy).keepT h5 k⟩
theorem AMix.form {w : World} {base : Nat} {v : Value} {l : List ActF} (h : AMix w base v l) : ∃ q m, v = .slice q l.length m ∧ l.length ≤ m ∧ m ≤ maxLen ∧ (q = none → m = 0) := own_form h.row
theorem AMix.lies {w : World} {base : Nat} {q : Option Addr} {n m : Nat} {l : List ActF} (h : AMix w base (.slice q n m) l) : n = l.length ∧ ActsIn w q (l.map Prod.fst) ∧ l.length ≤ m ∧ m ≤ maxLen := by
  rcases h.row.2 with ⟨hv, hn⟩ | ⟨g, cap, cur, hv, hb, hg, hle, hmax, hsz, htk⟩
  · simp only [Value.slice.injEq] at hv
    obtain ⟨rfl, rfl, rfl⟩ := hv
    exact ⟨by omega, fun h => by rw [List.length_map] at h; omega, by omega, by unfold maxLen; omega⟩
  · simp only [Value.slice.injEq] at hv
    obtain ⟨rfl, rfl, rfl⟩ := hv
    refine ⟨rfl, fun _ => ⟨g, 0, rfl, fun i hi => ?_⟩, hle, hmax⟩
    rw [List.length_map] at hi
    obtain ⟨c0, c1, y, hy, c2, c3⟩ := cellsT_at l i hi
    have hc : ∀ j u, (cellsT l)[j]? = some u → w.cell? ⟨g, 0 + j, none⟩ = some u := fun j u hu => by
      have hj : j < l.length * 3 := by rw [← cellsT_len]; exact (List.getElem?_eq_some_iff.1 hu).1
      rw [cell_of_row w g (0 + j) cur _ _ hg, Nat.zero_add, ← hu, ← htk, List.getElem?_take_of_lt hj]
      simp
    refine ⟨hc _ _ c0, hc _ _ c1, y.2, hc _ _ c3, ?_⟩
    rw [← c2]
    exact (h.data y hy).row
theorem run_append_amix (w : World) (ty : TypeId) (base : Nat) (v : Value) (l : List ActF) (f : Bool) (s : Int) (dv : Value) (xs : List Nat) (ad : Addr) (c : Nat) (hown : AMix w base v l) (hd : DataI w dv xs)
    (h0 : w.cell? (ad.add 0) = some (.bool f)) (h1 : w.cell? (ad.add 1) = some (.int .i64 s)) (h2 : w.cell? (ad.add 2) = some dv) (hlen : l.length ≤ 100000) (hbase : base ≤ w.heap.size) :
    ∃ v' w', (Builtin.append_ #[36, 36] ty #[v, .slice (some ad) 1 c]).run Tryz.prog w = .ok v' w' ∧ AMix w' base v' (l ++ [((f, s, xs), dv)]) ∧ w.grownBy w' v.ownBlock := by
  obtain ⟨i0, hi, hz0, hz1, hz2⟩ := info_parts' info_act
  have hcs : ∀ j u, (cellsT [((f, s, xs), dv)])[j]? = some u → w.cell? (ad.add j) = some u := by
    intro j u hu
    rcases j with _ | _ | _ | j
    · simp [cellsT] at hu; rw [h0, hu]
    · simp [cellsT] at hu; rw [h1, hu]
    · simp [cellsT] at hu; rw [h2, hu]
    · simp [cellsT] at hu
  have hone : ∀ u ∈ cellsT [((f, s, xs), dv)], u.oneCell' = true := by
    intro u hu
    simp [cellsT] at hu
    rcases hu with rfl | rfl | rfl
    · rfl
    · rfl
    · exact hd.one
  obtain ⟨v', w', g1, g2, g3, _⟩ := run_append_own (P := Tryz.prog) w base 36 ty 47 i0 _ 3 40 Tryz.underlying36 hi hz0 hz1 hz2 rfl (by decide) v l.length (cellsT l) hown.row ad 1 c (cellsT [((f, s, xs), dv)]) rfl hcs hone (by unfold maxLen; omega) (by omega) hbase
  have k := KeepT.of_grown hown.row g3
  refine ⟨v', w', g1, ⟨?_, fun y hy => ?_⟩, g3⟩
  · rw [cellsT_app, List.length_append]
    exact g2
  · have hy' : DataI w y.2 y.1.2.2 := by
      rcases List.mem_append.1 hy with h | h
      · exact hown.data y h
      · rw [List.mem_singleton.1 h]; exact hd
    exact hy'.keepT (by decide) k
theorem wpList_append_amix (w : World) {ops : Array Oper} {rest : List Oper} {o : Oper} {a : Act} {Q : Exit → Act → World → Prop} (hgd : o.guard = none) (s x : Operand)
    (ho : o.op = .call { callee := .builtin .append, args := #[s, x], argTypes := #[36, 36] }) (base : Nat) (v : Value) (l : List ActF) (f : Bool) (sc : Int) (dv : Value) (xs : List Nat) (ad : Addr) (c : Nat) (hs : a.eval s = v) (hx : a.eval x = .slice (some ad) 1 c)
    (hown : AMix w base v l) (hd : DataI w dv xs) (h0 : w.cell? (ad.add 0) = some (.bool f)) (h1 : w.cell? (ad.add 1) = some (.int .i64 sc)) (h2 : w.cell? (ad.add 2) = some dv) (hlen : l.length ≤ 100000) (hbase : base ≤ w.heap.size)
    (h : ∀ v' w', AMix w' base v' (l ++ [((f, sc, xs), dv)]) → w.grownBy w' v.ownBlock → wpList Tryz.prog ops Q rest (a.put o.dst v') w') : wpList Tryz.prog ops Q (o :: rest) a w := by
  refine wpList_plain hgd fun K hK => ?_
  obtain ⟨v', w', hr, g2, g3⟩ := run_append_amix w o.type base v l f sc dv xs ad c hown hd h0 h1 h2 hlen hbase
  unfold Oper.wp execOp
  simp only [ho, resolve, invoke, builtin, Sem.run_bind, Sem.run_pure, Result.andThen_ok, List.map_toArray, List.map_cons, List.map_nil, hs, hx, hr]
  exact hK _ _ (h v' w' g2 g3)
/-- Acts that grow, all else as it was. -/
structure OnX (w0 : World) (base : Nat) (v : Value) (l : List ActF) (wr : World) : Prop where
  own : AMix wr base v l
  keep : KeepT (fun t => t ≠ 47) w0 wr
  bel : Below base w0 wr
  ins : base ≤ w0.heap.size
theorem OnX.next {w0 wr w' : World} {base : Nat} {v : Value} {l : List ActF} (h : OnX w0 base v l wr) (hb : Below wr.heap.size wr w') : OnX w0 base v l w' := ⟨h.own.below hb, h.keep.trans (.of_below hb), h.bel.trans (hb.mono (Nat.le_trans h.ins h.bel.size)), h.ins⟩
theorem OnX.app {w0 wr w' : World} {base : Nat} {v v' : Value} {l m : List ActF} (h : OnX w0 base v l wr) (hg : wr.grownBy w' v.ownBlock) (ho : AMix w' base v' m) : OnX w0 base v' m w' :=
  ⟨ho, h.keep.trans (KeepT.of_grown h.own.row hg), ⟨hg.os.trans h.bel.os, hg.tape.trans h.bel.tape, hg.output.trans h.bel.output, Nat.le_trans h.bel.size hg.size, fun k hk => (hg.block k (by have := h.bel.size; have := h.ins; omega) (fun e => by have := (World.ownsRow.lt h.own.row k e.symm).1; omega)).trans (h.bel.block k hk)⟩, h.ins⟩
/-- The state of the document's Turn while files are put. -/
structure RS (w0 : World) (Bo : Nat) (C : Array Value) (fv : Value) (ls : FPs) (uv : Value) (U : Pcs) (av : Value) (L : List ActF) (wr : World) : Prop where
  files : FMix wr w0.heap.size w0.heap.size fv ls
  used : POwn wr w0.heap.size uv U
  apart : ∀ x ∈ ls, x.2.ownBlock = none ∨ x.2.ownBlock ≠ uv.ownBlock
  acts : AMix wr w0.heap.size av L
  bel : Below w0.heap.size w0 wr
  old : wr.heap[Bo]? = some (.cells C 31 (0, 0))
section
variable {w0 wr w' : World} {Bo : Nat} {C : Array Value} {fv uv av : Value} {ls : FPs} {U : Pcs} {L : List ActF}
theorem RS.next (h : RS w0 Bo C fv ls uv U av L wr) (hb : Below wr.heap.size wr w') : RS w0 Bo C fv ls uv U av L w' :=
  ⟨h.files.below hb, h.used.below hb, h.apart, h.acts.below hb, below_bt h.bel hb, (hb.block _ (lt_heap h.old)).trans h.old⟩
theorem RS.use {uv3 : Value} {V : Pcs} (h : RS w0 Bo C fv ls uv U av L wr) (ho : POwn w' w0.heap.size uv3 V) (hg : wr.grownBy w' uv.ownBlock) (hw : uv3.ownBlock = uv.ownBlock ∨ uv3.ownBlock = some wr.heap.size) : RS w0 Bo C fv ls uv3 V av L w' := by
  have k := KeepT.of_grown h.used hg
  refine ⟨⟨own_keepT h.files.row (by decide) k, fun x hx => (h.files.pcs x hx).kept hg (h.apart x hx)⟩, ho, fun x hx => ?_, h.acts.keepT (by decide) (by decide) k, h.bel.grown hg h.bel.size (fun k hk => (World.ownsRow.lt h.used k hk).1), k.same _ _ _ (by decide) h.old⟩
  rcases hw with e | e
  · rw [e]; exact h.apart x hx
  · cases hk : x.2.ownBlock with
    | none => exact .inl rfl
    | some k =>
      refine .inr fun e2 => ?_
      have := ((h.files.pcs x hx).lt k hk).2
      rw [e] at e2
      have := Option.some.inj e2
      omega
theorem inF_mem (x : FileV × Value) (ls : FPs) : ∀ y ∈ inF x ls, y = x ∨ y ∈ ls := by
  induction ls with
  | nil => intro y hy; exact .inl (List.mem_singleton.1 hy)
  | cons a l ih =>
    intro y hy
    rw [inF] at hy
    split at hy
    · rcases List.mem_cons.1 hy with h | h
      · exact .inl h
      · exact .inr h
    · rcases List.mem_cons.1 hy with h | h
      · exact .inr (by rw [h]; exact List.mem_cons_self ..)
      · rcases ih y h with h | h
        · exact .inl h
        · exact .inr (List.mem_cons_of_mem _ h)
theorem RS.put {fv' : Value} {x : FileV × Value} (h : RS w0 Bo C fv ls uv U av L wr) (ho : OnF wr w0.heap.size fv' (inF x ls) w') (hx : x.2.ownBlock = none ∨ x.2.ownBlock ≠ uv.ownBlock) : RS w0 Bo C fv' (inF x ls) uv U av L w' :=
  ⟨ho.own.mono0 h.bel.size (Nat.le_refl _), h.used.below ho.bel, fun y hy => by
    rcases inF_mem x ls y hy with rfl | hy
    · exact hx
    · exact h.apart y hy, h.acts.below ho.bel, below_bt h.bel ho.bel, (ho.bel.block _ (lt_heap h.old)).trans h.old⟩
theorem RS.act {av' : Value} {L' : List ActF} (h : RS w0 Bo C fv ls uv U av L wr) (ho : OnX wr w0.heap.size av' L' w') : RS w0 Bo C fv ls uv U av' L' w' :=
  ⟨h.files.keepT (by decide) (by decide) ho.keep, own_keepT h.used (by decide) ho.keep, h.apart, ho.own, h.bel.trans ho.bel, ho.keep.same _ _ _ (by decide) h.old⟩
end
end Go.Proofs.YtglcpfnpbcnejaaGreatDoor
