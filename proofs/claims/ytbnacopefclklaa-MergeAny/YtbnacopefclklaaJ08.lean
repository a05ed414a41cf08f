/-
  The law MergeAny holds: whatever rows are handed in, all their entries are in All's answer, rising, none twice, whatever the order of the rows.
-/
import Derived.Test.YtbnacopefclklaaJ07
import Derived.SizedLaws
import Derived.Deep.Slices
import Derived.Test.YtbnacopefclklaaRows
import Derived.WalkKit
import Derived.ProofKit
import Derived.OpenShut
import Derived.ShutString
import Derived.ChangeOld
import Derived.Below
namespace Go.Proofs.Ytbnacopefclklaa
open Go.RowKit Go.WideShapes

set_option maxRecDepth 8000 in
set_option maxHeartbeats 4000000 in
theorem Thin_any (q : Option Addr) (n c : Nat) (A : List EntV) (s : Int) (last : Bool) (w : World) (h : EntsL w q n A) (hnc : n ≤ c) (hnb : (n : Int) ≤ 9223372036854775807) (L : List EntV) (E : Nat) (hE : thinF A s last = (L, E)) :
    Calls Try.prog 11 #[.slice q n c, .int .i64 s, .bool last] w fun e w' => ∃ v, e = .returned (.tuple #[v, .int .i64 (E : Int)]) ∧ OnB w v L w' := by
  obtain ⟨F, hF⟩ : ∃ F, thinErr A = F := ⟨_, rfl⟩
  have HAL := checkRising_any q n c A w h hnc hnb F hF
  have HE : Hid ((if F ≠ 0 then ([], F) else if 0 ≤ s ∧ s ≤ 2147483647 then (thinE A s last, 0) else ([], 2)) = (L, E)) := by
    show _ = _
    rw [← hE]
    unfold thinF
    rw [hF]
  have HF : Hid (thinErr A = F) := hF
  obtain ⟨bs, hbs⟩ : ∃ bs, decide (0 ≤ s ∧ s ≤ 2147483647) = bs := ⟨_, rfl⟩
  have HIS := fun w' => isSeq_any s w' bs hbs
  have HBS : Hid (decide (0 ≤ s ∧ s ≤ 2147483647) = bs) := hbs
  have HQ : Hid (EntsIn w q A ∧ n = A.length) := ⟨h.lies, h.n⟩
  clear h hnb hE hF hbs hnc
  go_enter Try.func11, Try.ntmps11
  go_wp2_with fail
  refine HAL.mono ?_
  rintro e w1 ⟨rfl, hb1⟩
  have H1 : Hid (EntsIn w1 q A ∧ Below w.heap.size w w1) := ⟨HQ.out.1.below hb1, hb1⟩
  clear HAL hb1
  by_cases hF : F = 0
  · subst hF
    obtain ⟨r1, r2, r3⟩ := thinErr_zero.1 HF.out
    have HR : Hid (RiseE A ∧ A.length ≤ 16384) := ⟨r3, r1⟩
    have HM : Hid (A.length = n) := HQ.out.2.symm
    have mI : (n : Int) ≤ 16384 := by have := HR.out; have := HM.out; omega
    clear r1 r2 r3
    cases bs with
    | false =>
      have hv := HE.out
      rw [if_neg (by simp), if_neg (of_decide_eq_false HBS.out), Prod.mk.injEq] at hv
      obtain ⟨rfl, rfl⟩ := hv
      go_wp2_with fail
      refine (HIS _).mono ?_
      rintro e w2 ⟨rfl, hw2⟩
      have hw2 := hw2.symm
      subst hw2
      go_wp2
      go_ret2
      exact ⟨_, rfl, eown_nil _ _, H1.out.2⟩
    | true =>
      have hv := HE.out
      rw [if_neg (by simp), if_pos (of_decide_eq_true HBS.out), Prod.mk.injEq] at hv
      obtain ⟨hv, rfl⟩ := hv
      have HV : Hid (thinE A s last = L) := hv
      clear hv
      go_wp2_with fail
      refine (HIS _).mono ?_
      rintro e w2 ⟨rfl, hw2⟩
      have hw2 := hw2.symm
      subst hw2
      clear HIS
      go_wp2
      go_loopw [9, 22] (fun s9 s22 wr => ∃ k : Nat, s22 = .int .i64 (k : Int) ∧ k ≤ n ∧ EOwn wr w1.heap.size s9 (pickE (fun i => thinAt A i s last) A k) ∧ Below w1.heap.size w1 wr) (fun _ s22 _ => n - (intOf s22).toNat)
      case atStart => exact ⟨0, rfl, by omega, eown_nil _ _, Below.refl _ _⟩
      case round =>
        obtain ⟨k, rfl, hk, ho, hbel⟩ := hrel
        obtain ⟨qo, co, rfl, _, _, _⟩ := ho.form
        have HO : Hid (EOwn wr w1.heap.size (.slice qo (pickE (fun i => thinAt A i s last) A k).length co) (pickE (fun i => thinAt A i s last) A k) ∧ Below w1.heap.size w1 wr) := ⟨ho, hbel⟩
        obtain ⟨P, hP⟩ : ∃ P, pickE (fun i => thinAt A i s last) A k = P := ⟨_, rfl⟩
        have HP : Hid (pickE (fun i => thinAt A i s last) A k = P ∧ P.length ≤ 16384) := ⟨hP, by rw [← hP]; have := pickE_len (fun i => thinAt A i s last) A k; have := HR.out; have := HM.out; omega⟩
        rw [hP] at HO ⊢
        obtain ⟨lp, hlp⟩ : ∃ lp, P.length = lp := ⟨_, rfl⟩
        have HLP : Hid (P.length = lp) := hlp
        rw [hlp] at HO ⊢
        clear hP hlp ho hbel
        by_cases hkm : k < n
        · have hkI : (k : Int) < (n : Int) := by omega
          have k0 : (0 : Int) ≤ (k : Int) := by omega
          have HKM : Hid (k < n) := hkm
          have hen := H1.out.1.below HO.out.2
          obtain ⟨b, o, rfl⟩ := hen.addr (by have := HM.out; omega)
          obtain ⟨x0, x1, x2, x3⟩ := hen.at (k := k) (by have := HM.out; omega)
          obtain ⟨⟨ke, ve, se, de⟩, hx⟩ : ∃ x, A.getD k zeroE = x := ⟨_, rfl⟩
          rw [hx] at x0 x1 x2 x3
          simp only at x0 x1 x2 x3
          have HX : Hid (A.getD k zeroE = ⟨ke, ve, se, de⟩) := hx
          obtain ⟨r, hr⟩ : ∃ r, newAt A k s = r := ⟨_, rfl⟩
          have HNW := isNewest_any (some ⟨b, o, none⟩) n c A (wr.alloc (.cells #[.string ke, .string ve, .int .i64 se, .bool de] 23)) ⟨HM.out.symm, hen.below (below_alloc _ _)⟩ k (by have := HM.out; omega) (by omega) s r hr
          have HCA : Hid (thinAt A k s last = (decide (s < se) || (r && !(de && last)))) := by show _ = _; unfold thinAt; rw [hr, hx]
          clear hen hx hkm hk hr
          by_cases hse : s < se
          · have g1 : decide (s < se) = true := decide_eq_true hse
            have HT : Hid (thinAt A k s last = true) := by show _ = _; rw [HCA.out, g1]; rfl
            have HB3 : Hid (Below wr.heap.size wr (wr.alloc (.cells #[.string ke, .string ve, .int .i64 se, .bool de] 23))) := below_alloc _ _
            have HA3 : Hid (EOwn ((wr.alloc (.cells #[.string ke, .string ve, .int .i64 se, .bool de] 23)).alloc (.cells #[.string ke, .string ve, .int .i64 se, .bool de] 23)) w1.heap.size (.slice qo lp co) P ∧ w1.heap.size ≤ ((wr.alloc (.cells #[.string ke, .string ve, .int .i64 se, .bool de] 23)).alloc (.cells #[.string ke, .string ve, .int .i64 se, .bool de] 23)).heap.size ∧ Below w1.heap.size w1 ((wr.alloc (.cells #[.string ke, .string ve, .int .i64 se, .bool de] 23)).alloc (.cells #[.string ke, .string ve, .int .i64 se, .bool de] 23))) := ⟨(HO.out.1.below HB3.out).below (below_alloc _ _), (below_bt (below_bt HO.out.2 HB3.out) (below_alloc _ _)).size, below_bt (below_bt HO.out.2 HB3.out) (below_alloc _ _)⟩
            have HE1 : Hid (EntsIn ((wr.alloc (.cells #[.string ke, .string ve, .int .i64 se, .bool de] 23)).alloc (.cells #[.string ke, .string ve, .int .i64 se, .bool de] 23)) (some ⟨wr.heap.size + 1, 0, none⟩) [⟨ke, ve, se, de⟩]) := by
              have h := ents_new (wr.alloc (.cells #[.string ke, .string ve, .int .i64 se, .bool de] 23)) ke ve se de
              (try rw [show (wr.alloc (.cells #[.string ke, .string ve, .int .i64 se, .bool de] 23)).heap.size = wr.heap.size + 1 by simp] at h)
              exact h
            have HPK : Hid (pickE (fun i => thinAt A i s last) A (k + 1) = P ++ [⟨ke, ve, se, de⟩]) := by
              show _ = _
              rw [pickE_yes (p := fun i => thinAt A i s last) HT.out, HX.out, HP.out.1]
            go_wp2_with (at_builtin; go_loud ((refine wpList_append_two _ rfl _ _ rfl w1.heap.size (.slice qo lp co) P [⟨ke, ve, se, de⟩] (some ⟨wr.heap.size + 1, 0, none⟩) 1 1 rfl rfl rfl HA3.out.1 HE1.out (fun h => by cases h) (by have := HP.out.2; simp only [List.length_cons, List.length_nil]; omega) HA3.out.2.1 ?_); intro v5 w5 ho5 hg5; have H5 : Hid _ := And.intro ho5 (ents_grownE HA3.out.1 hg5 HA3.out.2.2 (Nat.le_refl _)); clear ho5 hg5))
            go_roundw
            case rel => exact ⟨k + 1, by go_num, by have := HKM.out; omega, by rw [HPK.out]; exact H5.out.1, H5.out.2⟩
            case measure => have := HKM.out; simp [intOf]; omega
          · have g1 : decide (s < se) = false := decide_eq_false hse
            have g2 : se ≤ s := by omega
            go_wp2_with fail
            refine HNW.mono ?_
            rintro e w3 ⟨rfl, hb3⟩
            have hbk : w3.heap[wr.heap.size]? = some (.cells #[.string ke, .string ve, .int .i64 se, .bool de] 23 (0, 0)) := block_belowR (heap_alloc_new _ _) hb3
            have HB3 : Hid (Below wr.heap.size wr w3) := below_bt (below_alloc _ _) hb3
            obtain ⟨z0, z1, z2, z3⟩ := four_cells hbk
            clear hb3 HNW hbk
            have HCB : Hid (thinAt A k s last = (r && !(de && last))) := by show _ = _; rw [HCA.out, g1, Bool.false_or]
            have HNO : Hid (thinAt A k s last = false → EOwn w3 w1.heap.size (.slice qo lp co) (pickE (fun i => thinAt A i s last) A (k + 1)) ∧ Below w1.heap.size w1 w3) := by
              intro hno
              rw [pickE_no (p := fun i => thinAt A i s last) hno, HP.out.1]
              exact ⟨HO.out.1.below HB3.out, below_bt HO.out.2 HB3.out⟩
            cases r with
            | false =>
              have H2 := HNO.out (by rw [HCB.out]; rfl)
              have H2' : Hid _ := H2
              clear H2
              go_wp2
              go_roundw
              case rel => exact ⟨k + 1, by go_num, by have := HKM.out; omega, H2'.out⟩
              case measure => have := HKM.out; simp [intOf]; omega
            | true =>
              cases de with
              | false =>
                have HT : Hid (thinAt A k s last = true) := by show _ = _; rw [HCB.out]; rfl
                have HA3 : Hid (EOwn ((w3).alloc (.cells #[.string ke, .string ve, .int .i64 se, .bool false] 23)) w1.heap.size (.slice qo lp co) P ∧ w1.heap.size ≤ ((w3).alloc (.cells #[.string ke, .string ve, .int .i64 se, .bool false] 23)).heap.size ∧ Below w1.heap.size w1 ((w3).alloc (.cells #[.string ke, .string ve, .int .i64 se, .bool false] 23))) := ⟨(HO.out.1.below HB3.out).below (below_alloc _ _), (below_bt (below_bt HO.out.2 HB3.out) (below_alloc _ _)).size, below_bt (below_bt HO.out.2 HB3.out) (below_alloc _ _)⟩
                have HE1 : Hid (EntsIn ((w3).alloc (.cells #[.string ke, .string ve, .int .i64 se, .bool false] 23)) (some ⟨w3.heap.size, 0, none⟩) [⟨ke, ve, se, false⟩]) := by
                  have h := ents_new (w3) ke ve se false
                  (try rw [show (w3).heap.size = wr.heap.size + 1 by simp] at h)
                  exact h
                have HPK : Hid (pickE (fun i => thinAt A i s last) A (k + 1) = P ++ [⟨ke, ve, se, false⟩]) := by
                  show _ = _
                  rw [pickE_yes (p := fun i => thinAt A i s last) HT.out, HX.out, HP.out.1]
                go_wp2_with (at_builtin; go_loud ((refine wpList_append_two _ rfl _ _ rfl w1.heap.size (.slice qo lp co) P [⟨ke, ve, se, false⟩] (some ⟨w3.heap.size, 0, none⟩) 1 1 rfl rfl rfl HA3.out.1 HE1.out (fun h => by cases h) (by have := HP.out.2; simp only [List.length_cons, List.length_nil]; omega) HA3.out.2.1 ?_); intro v5 w5 ho5 hg5; have H5 : Hid _ := And.intro ho5 (ents_grownE HA3.out.1 hg5 HA3.out.2.2 (Nat.le_refl _)); clear ho5 hg5))
                go_roundw
                case rel => exact ⟨k + 1, by go_num, by have := HKM.out; omega, by rw [HPK.out]; exact H5.out.1, H5.out.2⟩
                case measure => have := HKM.out; simp [intOf]; omega
              | true =>
                cases last with
                | true =>
                  have H2 := HNO.out (by rw [HCB.out]; rfl)
                  have H2' : Hid _ := H2
                  clear H2
                  go_wp2
                  go_roundw
                  case rel => exact ⟨k + 1, by go_num, by have := HKM.out; omega, H2'.out⟩
                  case measure => have := HKM.out; simp [intOf]; omega
                | false =>
                  have HT : Hid (thinAt A k s false = true) := by show _ = _; rw [HCB.out]; rfl
                  have HA3 : Hid (EOwn ((w3).alloc (.cells #[.string ke, .string ve, .int .i64 se, .bool true] 23)) w1.heap.size (.slice qo lp co) P ∧ w1.heap.size ≤ ((w3).alloc (.cells #[.string ke, .string ve, .int .i64 se, .bool true] 23)).heap.size ∧ Below w1.heap.size w1 ((w3).alloc (.cells #[.string ke, .string ve, .int .i64 se, .bool true] 23))) := ⟨(HO.out.1.below HB3.out).below (below_alloc _ _), (below_bt (below_bt HO.out.2 HB3.out) (below_alloc _ _)).size, below_bt (below_bt HO.out.2 HB3.out) (below_alloc _ _)⟩
                  have HE1 : Hid (EntsIn ((w3).alloc (.cells #[.string ke, .string ve, .int .i64 se, .bool true] 23)) (some ⟨w3.heap.size, 0, none⟩) [⟨ke, ve, se, true⟩]) := by
                    have h := ents_new (w3) ke ve se true
                    (try rw [show (w3).heap.size = wr.heap.size + 1 by simp] at h)
                    exact h
                  have HPK : Hid (pickE (fun i => thinAt A i s false) A (k + 1) = P ++ [⟨ke, ve, se, true⟩]) := by
                    show _ = _
                    rw [pickE_yes (p := fun i => thinAt A i s false) HT.out, HX.out, HP.out.1]
                  go_wp2_with (at_builtin; go_loud ((refine wpList_append_two _ rfl _ _ rfl w1.heap.size (.slice qo lp co) P [⟨ke, ve, se, true⟩] (some ⟨w3.heap.size, 0, none⟩) 1 1 rfl rfl rfl HA3.out.1 HE1.out (fun h => by cases h) (by have := HP.out.2; simp only [List.length_cons, List.length_nil]; omega) HA3.out.2.1 ?_); intro v5 w5 ho5 hg5; have H5 : Hid _ := And.intro ho5 (ents_grownE HA3.out.1 hg5 HA3.out.2.2 (Nat.le_refl _)); clear ho5 hg5))
                  go_roundw
                  case rel => exact ⟨k + 1, by go_num, by have := HKM.out; omega, by rw [HPK.out]; exact H5.out.1, H5.out.2⟩
                  case measure => have := HKM.out; simp [intOf]; omega
        · have hkI : (n : Int) ≤ (k : Int) := by omega
          have HZ : Hid (P = L ∧ EOwn wr w.heap.size (.slice qo lp co) P ∧ Below w.heap.size w wr) := by
            refine ⟨?_, own_base HO.out.1 H1.out.2.size, below_bt H1.out.2 HO.out.2⟩
            rw [← HV.out, ← pick_thin HR.out.1 s last, ← HP.out.1, HM.out]
            have : k = n := by omega
            rw [this]
          clear hkm hk
          go_wp2
          go_ret2
          exact ⟨_, rfl, by rw [← HZ.out.1]; exact HZ.out.2.1, HZ.out.2.2⟩
  · have e1 : ((F : Int) != 0) = true := by simp; omega
    have e1' : ((F : Int) == 0) = false := by simp; omega
    have hv := HE.out
    rw [if_pos hF, Prod.mk.injEq] at hv
    obtain ⟨rfl, rfl⟩ := hv
    clear hF
    go_wp2
    go_ret2
    exact ⟨_, rfl, eown_nil _ _, H1.out.2⟩
end Go.Proofs.Ytbnacopefclklaa
namespace Go.Proofs.Ytbnacopefclklaa
open Go.RowKit Go.WideShapes Go.ChangeShapes Go.Deep Go.Joins

/-- Rows that are handed in. -/
structure RowsA (w : World) (v : Value) (R : List RV) : Prop where
  lies : ∃ q c, v = .slice q R.length c ∧ RowsL w q R.length R ∧ R.length ≤ c ∧ c ≤ maxLen ∧ (q = none → c = 0)
  small : ∀ r ∈ R, r.n ≤ 3000000000000
section
variable {P : Program} {w : World} {H : Type} {enc : TypeId × Value → H}
theorem weightsAll_memR {e : TypeId} {l : List (DataW H)} {d : DataW H} (hd : d ∈ l) {k : Nat} (hk : k ∈ d.weights P e) : k ∈ DataW.weightsAll P e l := by
  induction l with
  | nil => cases hd
  | cons a l ih =>
    simp only [DataW.weightsAll, List.mem_append]
    rcases List.mem_cons.1 hd with rfl | h
    · exact .inl hk
    · exact .inr (ih h)
theorem ents_sized {t e : TypeId} {n : Nat} {q : Option Addr} {nn cc : Nat} {x : DataW H × List MemPlace} (ht : P.underlying t = some (.slice e)) (hby : P.bytesOf e = 48)
    (h : DataW.trod enc P w 0 (fun _ => true) true n t [.slice q nn cc] = some x) (hw : ∀ k ∈ x.1.weights P t, k ≤ reachBytes) : nn ≤ 3000000000000 := by
  rcases open_slice ht h with ⟨hcs, _⟩ | ⟨a, len, cap, m, k, D, Pl, hcs, _, hl, hm, hmm, rfl, hel⟩
  · simp only [List.cons.injEq, Value.slice.injEq, and_true] at hcs
    omega
  · simp only [List.cons.injEq, Value.slice.injEq, and_true] at hcs
    have hmc : m = cap := by simpa using hmm
    have := hw _ (by simp only [DataW.weights, ht]; exact List.mem_cons_self)
    simp only [List.length_map, List.length_range, hby] at this
    have hr : reachBytes = 140737488351232 := rfl
    omega
theorem open_rows {t e ee : TypeId} {f0 f1 f2 f3 : Field} {n : Nat} {v : Value} {x : DataW H × List MemPlace} (ht : P.underlying t = some (.slice e)) (ce1 : P.cellsOf e = 1) (hte : P.underlying e = some (.slice ee)) (he : P.underlying ee = some (.struct #[f0, f1, f2, f3])) (ce : P.cellsOf ee = 4)
    (o0 : f0.offset = 0) (o1 : f1.offset = 1) (o2 : f2.offset = 2) (o3 : f3.offset = 3) (c0 : P.cellsOf f0.type = 1) (c1 : P.cellsOf f1.type = 1) (c2 : P.cellsOf f2.type = 1) (c3 : P.cellsOf f3.type = 1) (k0 : P.underlying f0.type = some .string) (k1 : P.underlying f1.type = some .string) (k2 : P.underlying f2.type = some (.int .i64)) (k3 : P.underlying f3.type = some .bool) (hby : P.bytesOf ee = 48)
    (h : DataW.trod enc P w 0 (fun _ => true) true n t [v] = some x) (hw : ∀ k ∈ x.1.weights P t, k ≤ reachBytes) : ∃ R, RowsA w v R := by
  rcases open_slice ht h with ⟨hcs, _⟩ | ⟨a, len, cap, m, k, D, Pl, hcs, _, hl, hm, hmm, rfl, hel⟩
  · simp only [List.cons.injEq, and_true] at hcs
    exact ⟨[], ⟨none, 0, hcs, ⟨rfl, fun h => absurd h (by simp), by simp⟩, by simp, by unfold maxLen; omega, fun _ => rfl⟩, by simp⟩
  · simp only [List.cons.injEq, and_true] at hcs
    have hmc : m = cap := by simpa using hmm
    have each : ∀ i, i < len → ∃ r : RV, w.cell? (a.add i) = some (rvV r) ∧ RowOk w r ∧ r.n ≤ 3000000000000 := by
      intro i hi
      obtain ⟨cs', g1, g2⟩ := hel i (by omega)
      rw [ce1, Nat.mul_one] at g1
      obtain ⟨_, hlen, hcell⟩ := World.cells?_some g1
      match cs', hlen with
      | [v0], _ =>
        obtain ⟨l, hl0⟩ := open_entries hte he ce o0 o1 o2 o3 c0 c1 c2 c3 k0 k1 k2 k3 g2
        obtain ⟨q, c, rfl, hin, hlc, hcm, hq⟩ := hl0.lies
        have e0 := hcell 0 (by omega)
        rw [add_add] at e0
        have hs := ents_sized hte hby g2 (fun k' hk' => hw k' (by
          simp only [DataW.weights, ht, List.mem_cons, List.mem_append]
          exact .inr (.inl (weightsAll_memR (d := D i) (List.mem_map.2 ⟨i, List.mem_range.2 hi, rfl⟩) hk'))))
        exact ⟨⟨q, l.length, c, l⟩, by show _ = some (Value.slice q l.length c); simpa using e0, ⟨rfl, hin, hlc, hcm, hq⟩, hs⟩
    haveI : Inhabited RV := ⟨zR⟩
    obtain ⟨f, hf⟩ := choose_lt each
    have hlen : ((List.range len).map f).length = len := by simp
    have hget : ∀ i, i < len → ((List.range len).map f).getD i zR = f i := by intro i hi; simp [List.getD, hi]
    refine ⟨(List.range len).map f, ⟨some a, cap, by rw [hlen]; exact hcs, ⟨rfl, fun hp => ?_, ?_⟩, by rw [hlen]; exact hl, hm, by simp⟩, ?_⟩
    · rw [hlen] at hp
      obtain ⟨b, o, s⟩ := a
      obtain rfl : s = none := by
        have := World.cell?_spot (hf 0 (by omega)).1
        simpa [Addr.add] using this
      refine ⟨b, o, rfl, fun i hi => ?_⟩
      rw [hlen] at hi
      have e0 := (hf i hi).1
      rw [hget i hi]
      rw [add_plain] at e0
      exact e0
    · intro r hr
      simp only [List.mem_map, List.mem_range] at hr
      obtain ⟨i, hi, rfl⟩ := hr
      exact (hf i hi).2.1
    · intro r hr
      simp only [List.mem_map, List.mem_range] at hr
      obtain ⟨i, hi, rfl⟩ := hr
      exact (hf i hi).2.2
end
end Go.Proofs.Ytbnacopefclklaa
namespace Go.Proofs.Ytbnacopefclklaa
open Go.RowKit Go.WideShapes

theorem of_any (k : ByteArray) (s : Int) (w : World) : Calls Try.prog 9 #[.string k, .int .i64 s] w fun e w' => e = .returned (.agg #[.string k, .string ⟨#[]⟩, .int .i64 s, .bool false]) ∧ Below w.heap.size w w' := by
  go_enter Try.func9, Try.ntmps9
  go_wp2
  (try simp only [Exit.inBlock, Exit.then])
  refine bodyPost_ret (v := .agg #[.string k, .string ⟨#[]⟩, .int .i64 s, .bool false]) ?_ rfl ⟨rfl, ?_⟩
  · rw [results_cell1 rfl]
    go_simp
    try rfl
  · exact below_alloc _ _
set_option maxRecDepth 8000 in
set_option maxHeartbeats 1000000 in
theorem same_yes (qa qb : Option Addr) (n ca cb : Nat) (l : List EntV) (w : World) (hn : n = l.length) (hnb : (n : Int) ≤ 1000000) (ha : EntsIn w qa l) (hb : EntsIn w qb l) :
    Calls Try.prog 15 #[.slice qa n ca, .slice qb n cb] w fun e w' => e = .returned (.bool true) ∧ Below w.heap.size w w' := by
  have HA : Hid (EntsIn w qa l) := ha
  have HB : Hid (EntsIn w qb l) := hb
  have HN : Hid (n = l.length) := hn
  clear ha hb hn
  go_enter Try.func15, Try.ntmps15
  go_wp2
  go_loopw [5] (fun i wr => ∃ k : Nat, k ≤ n ∧ i = .int .i64 k ∧ Below w.heap.size w wr) (fun i _ => n - (intOf i).toNat)
  case atStart => exact ⟨0, by omega, rfl, Below.refl _ _⟩
  case round =>
    obtain ⟨k, hk, rfl, hbel⟩ := hrel
    have HBE : Hid (Below w.heap.size w wr) := hbel
    clear hbel
    by_cases hkn : k < n
    · have g1 : decide (k < n) = true := decide_eq_true hkn
      have hkI : (k : Int) < (n : Int) := by omega
      obtain ⟨ba, oa, rfl⟩ := HA.out.addr (by have := HN.out; omega)
      obtain ⟨bb, ob, rfl⟩ := HB.out.addr (by have := HN.out; omega)
      obtain ⟨x, hx⟩ : ∃ x, l.getD k zeroE = x := ⟨_, rfl⟩
      obtain ⟨x0, x1, x2, x3⟩ := (HA.out.below HBE.out).at (k := k) (by have := HN.out; omega)
      obtain ⟨y0, y1, y2, y3⟩ := (HB.out.below HBE.out).at (k := k) (by have := HN.out; omega)
      rw [hx] at x0 x1 x2 x3 y0 y1 y2 y3
      obtain ⟨kx, vx, sx, gx⟩ := x
      simp only at x0 x1 x2 x3 y0 y1 y2 y3
      clear hx
      go_wp2
      go_quiet (fail)
      go_wp2
      go_roundw
      case rel => exact ⟨k + 1, by omega, by go_num, below_drewN HBE.out _⟩
      case measure => simp [intOf]; omega
    · have g1 : decide (k < n) = false := decide_eq_false hkn
      have hkI : (n : Int) ≤ (k : Int) := by omega
      go_wp2
      go_ret
      exact ⟨rfl, HBE.out⟩
def eK (k : ByteArray) (s : Int) : EntV := ⟨k, ByteArray.empty, s, false⟩
/-- Entries in a block of their own. -/
theorem ents_blk {w : World} {g : Nat} {l : List EntV} {t : TypeId} {fr : Nat × Nat} (h : w.heap[g]? = some (.cells (cellsE l).toArray t fr)) : EntsIn w (some ⟨g, 0, none⟩) l := by
  intro _
  refine ⟨g, 0, rfl, fun i hi => ?_⟩
  obtain ⟨c0, c1, c2, c3⟩ := cellsE_at l i hi
  have hc : ∀ j, w.cell? ⟨g, 0 + j, none⟩ = (cellsE l)[j]? := fun j => by rw [cell_of_row w g (0 + j) _ t fr h]; simp
  exact ⟨by rw [hc, c0], by rw [hc, c1], by rw [hc, c2], by rw [hc, c3]⟩
theorem rows_two {w : World} {g : Nat} {r s : RV} {t : TypeId} {fr : Nat × Nat} (h : w.heap[g]? = some (.cells #[rvV r, rvV s] t fr)) (hr : RowOk w r) (hs : RowOk w s) : RowsL w (some ⟨g, 0, none⟩) 2 [r, s] := by
  refine ⟨rfl, fun _ => ⟨g, 0, rfl, fun i hi => ?_⟩, fun x hx => ?_⟩
  · rw [cell_of_row w g (0 + i) _ t fr h]
    simp only [List.length_cons, List.length_nil] at hi
    rcases (by omega : i = 0 ∨ i = 1) with rfl | rfl <;> rfl
  · simp only [List.mem_cons, List.not_mem_nil, or_false] at hx
    rcases hx with rfl | rfl
    · exact hr
    · exact hs
theorem rows_one {w : World} {g : Nat} {r : RV} {t : TypeId} {fr : Nat × Nat} (h : w.heap[g]? = some (.cells #[rvV r] t fr)) (hr : RowOk w r) : RowsL w (some ⟨g, 0, none⟩) 1 [r] := by
  refine ⟨rfl, fun _ => ⟨g, 0, rfl, fun i hi => ?_⟩, fun x hx => ?_⟩
  · rw [cell_of_row w g (0 + i) _ t fr h]
    simp only [List.length_cons, List.length_nil] at hi
    obtain rfl : i = 0 := by omega
    rfl
  · simp only [List.mem_cons, List.not_mem_nil, or_false] at hx
    rw [hx]; exact hr
def aA : ByteArray := ⟨#[97]⟩
def bB : ByteArray := ⟨#[98]⟩
theorem row_alive : allE [[eK aA 1, eK bB 2], [eK aA 3]] = ([eK aA 3, eK aA 1, eK bB 2], 0) := by
  refine (allE_of (L := [eK aA 3, eK aA 1, eK bB 2]) (by decide +kernel) ?_ ?_).1 (by decide +kernel)
  · exact List.perm_append_comm (l₁ := [eK aA 3]) (l₂ := [eK aA 1, eK bB 2])
  · decide +kernel
set_option maxRecDepth 8000 in
set_option maxHeartbeats 2000000 in
theorem alive_any (w : World) : Calls Try.prog 14 #[] w fun e w' => e = .returned (.bool true) ∧ Below w.heap.size w w' := by
  have HO := fun k s w' => of_any k s w'
  go_enter Try.func14, Try.ntmps14
  go_wp2_with fail
  refine (HO _ _ _).mono ?_
  rintro e w1 ⟨rfl, hb1⟩
  go_wp2_with fail
  refine (HO _ _ _).mono ?_
  rintro e w2 ⟨rfl, hb2⟩
  go_wp2_with fail
  refine (HO _ _ _).mono ?_
  rintro e w3 ⟨rfl, hb3⟩
  have g1 := block_belowR (heap_alloc_new w2 (.cells (cellsE [eK aA 1, eK bB 2]).toArray 23)) hb3
  have g1' := block_belowR (block_belowR g1 (below_alloc w3 (.cells (cellsE [eK aA 3]).toArray 23))) (below_alloc (w3.alloc (.cells (cellsE [eK aA 3]).toArray 23)) (.cells #[.slice (some ⟨w2.heap.size, 0, none⟩) 2 2, .slice (some ⟨w3.heap.size, 0, none⟩) 1 1] 25))
  have g2 := block_belowR (heap_alloc_new w3 (.cells (cellsE [eK aA 3]).toArray 23)) (below_alloc (w3.alloc (.cells (cellsE [eK aA 3]).toArray 23)) (.cells #[.slice (some ⟨w2.heap.size, 0, none⟩) 2 2, .slice (some ⟨w3.heap.size, 0, none⟩) 1 1] 25))
  have g3 := heap_alloc_new (w3.alloc (.cells (cellsE [eK aA 3]).toArray 23)) (.cells #[.slice (some ⟨w2.heap.size, 0, none⟩) 2 2, .slice (some ⟨w3.heap.size, 0, none⟩) 1 1] 25)
  rw [show (w3.alloc (.cells (cellsE [eK aA 3]).toArray 23)).heap.size = w3.heap.size + 1 by simp] at g3
  have hR := rows_two (r := ⟨some ⟨w2.heap.size, 0, none⟩, 2, 2, [eK aA 1, eK bB 2]⟩) (s := ⟨some ⟨w3.heap.size, 0, none⟩, 1, 1, [eK aA 3]⟩) g3 ⟨rfl, ents_blk g1', Nat.le_refl _, by show 2 ≤ maxLen; unfold maxLen; omega, fun h => by cases h⟩ ⟨rfl, ents_blk g2, Nat.le_refl _, by show 1 ≤ maxLen; unfold maxLen; omega, fun h => by cases h⟩
  have HAL := All_any (some ⟨w3.heap.size + 1, 0, none⟩) 2 2 _ _ hR (by omega) _ _ row_alive
  have HB4 : Hid (Below w.heap.size w ((w3.alloc (.cells (cellsE [eK aA 3]).toArray 23)).alloc (.cells #[.slice (some ⟨w2.heap.size, 0, none⟩) 2 2, .slice (some ⟨w3.heap.size, 0, none⟩) 1 1] 25))) := below_bt (below_bt (below_bt (below_bt (below_bt hb1 hb2) (below_alloc _ _)) hb3) (below_alloc _ _)) (below_alloc _ _)
  clear g1 g1' g2 g3 hR hb1 hb2 hb3
  go_wp2_with fail
  refine HAL.mono ?_
  rintro e w5 ⟨v5, rfl, h5⟩
  obtain ⟨q5, m5, rfl, _, _, _⟩ := h5.own.form
  have H5 : Hid (EntsIn w5 q5 [eK aA 3, eK aA 1, eK bB 2] ∧ Below w.heap.size w w5) := ⟨h5.own.ents, below_bt HB4.out h5.bel⟩
  rw [show [eK aA 3, eK aA 1, eK bB 2].length = 3 from rfl]
  clear HAL h5 HB4
  go_wp2_with fail
  refine (HO _ _ _).mono ?_
  rintro e w6 ⟨rfl, hb6⟩
  go_wp2_with fail
  refine (HO _ _ _).mono ?_
  rintro e w7 ⟨rfl, hb7⟩
  go_wp2_with fail
  refine (HO _ _ _).mono ?_
  rintro e w8 ⟨rfl, hb8⟩
  have hb58 := below_bt (below_bt (below_bt hb6 hb7) hb8) (below_alloc w8 (.cells (cellsE [eK aA 3, eK aA 1, eK bB 2]).toArray 23))
  have HS := same_yes q5 (some ⟨w8.heap.size, 0, none⟩) 3 m5 3 [eK aA 3, eK aA 1, eK bB 2] (w8.alloc (.cells (cellsE [eK aA 3, eK aA 1, eK bB 2]).toArray 23)) rfl (by omega) (H5.out.1.below hb58) (ents_blk (heap_alloc_new _ _))
  have HB8 : Hid (Below w.heap.size w (w8.alloc (.cells (cellsE [eK aA 3, eK aA 1, eK bB 2]).toArray 23))) := below_bt H5.out.2 hb58
  clear hb6 hb7 hb8 hb58 HO
  go_wp2_with fail
  refine HS.mono ?_
  rintro e w9 ⟨rfl, hb9⟩
  have HB9 : Hid (Below w.heap.size w w9) := below_bt HB8.out hb9
  clear hb9 HS
  go_wp2
  go_ret
  exact ⟨rfl, HB9.out⟩
def hsum (R : List RV) : Nat → Int
  | 0 => 0
  | k + 1 => IntKind.i64.wrap (hsum R k + ((R.getD k zR).n : Int))
theorem hsum_eq {R : List RV} (hs : ∀ r ∈ R, r.n = r.l.length ∧ r.n ≤ 3000000000000) : ∀ k, k ≤ 100 → k ≤ R.length → hsum R k = ((entsR (R.take k)).length : Int) ∧ (entsR (R.take k)).length ≤ k * 3000000000000
  | 0, _, _ => by simp [hsum, entsR]
  | k + 1, h1, h2 => by
    obtain ⟨i1, i2⟩ := hsum_eq hs k (by omega) (by omega)
    obtain ⟨e1, e2⟩ := hs _ (getR_mem (show k < R.length by omega))
    have hsu := sumR_succ (show k < R.length by omega)
    simp only [hsum]
    rw [i1, hsu, ← e1, IntKind.wrap_i64]
    refine ⟨by omega, by omega⟩
structure HeavyV (R : List RV) (v : Value) : Prop where
  out : ∃ b, v = .bool b ∧ (b = false → R.length ≤ 100 ∧ (entsR R).length ≤ 6000 ∧ ∀ r ∈ R, r.n ≤ 200 ∨ 4096 < r.n)
set_option maxRecDepth 8000 in
set_option maxHeartbeats 2000000 in
theorem heavy_any (q : Option Addr) (n c : Nat) (R : List RV) (w : World) (h : RowsL w q n R) (hsm : ∀ r ∈ R, r.n ≤ 3000000000000) (hnb : (n : Int) ≤ 9223372036854775807) :
    Calls Try.prog 16 #[.slice q n c] w fun e w' => ∃ v, e = .returned v ∧ HeavyV R v ∧ Below w.heap.size w w' := by
  have HL : Hid (RowsL w q n R ∧ ∀ r ∈ R, r.n ≤ 3000000000000) := ⟨h, hsm⟩
  clear h hsm
  go_enter Try.func16, Try.ntmps16
  go_wp2
  go_loopw [3, 4] (fun s3 s4 wr => ∃ k : Nat, s4 = .int .i64 (k : Int) ∧ s3 = .int .i64 (hsum R k) ∧ k ≤ n ∧ (∀ i, i < k → (R.getD i zR).n ≤ 200 ∨ 4096 < (R.getD i zR).n) ∧ wr = w) (fun _ s4 _ => n - (intOf s4).toNat)
  case atStart => exact ⟨0, rfl, rfl, by omega, fun i hi => by omega, rfl⟩
  case round =>
    obtain ⟨k, rfl, rfl, hk, hall, hw⟩ := hrel
    have hw := hw.symm
    subst hw
    have HK : Hid (k ≤ n ∧ ∀ i, i < k → (R.getD i zR).n ≤ 200 ∨ 4096 < (R.getD i zR).n) := ⟨hk, hall⟩
    clear hall
    by_cases hkn : k < n
    · have hkI : (k : Int) < (n : Int) := by omega
      have k0 : (0 : Int) ≤ (k : Int) := by omega
      have kw : IntKind.i64.wrap ((k : Int) + 1) = (k : Int) + 1 := by rw [IntKind.wrap_i64]; omega
      have hkR : k < R.length := by have := HL.out.1.n; omega
      obtain ⟨b, o, rfl, hc⟩ := HL.out.1.at hkR
      obtain ⟨⟨qr, nr, cr, lr⟩, hr⟩ : ∃ r, R.getD k zR = r := ⟨_, rfl⟩
      rw [hr] at hc
      rw [show rvV ⟨qr, nr, cr, lr⟩ = .slice qr nr cr from rfl] at hc
      have HR : Hid (R.getD k zR = ⟨qr, nr, cr, lr⟩ ∧ k < n) := ⟨hr, hkn⟩
      obtain ⟨S, hS⟩ : ∃ S, hsum R k = S := ⟨_, rfl⟩
      obtain ⟨S', hS'⟩ : ∃ S', IntKind.i64.wrap (S + (nr : Int)) = S' := ⟨_, rfl⟩
      have HS : Hid (hsum R (k + 1) = S') := by show _ = _; simp only [hsum]; rw [hS, hr]; exact hS'
      rw [hS]
      clear hr hkR hkn hk hS
      have HN : Hid (nr ≤ 200 ∨ 4096 < nr → ∀ i, i < k + 1 → (R.getD i zR).n ≤ 200 ∨ 4096 < (R.getD i zR).n) := by
        intro hn i hi
        by_cases e : i = k
        · rw [e, HR.out.1]; exact hn
        · exact HK.out.2 i (by omega)
      by_cases h1 : 200 < nr
      · have h1I : (200 : Int) < (nr : Int) := by omega
        by_cases h2 : nr ≤ 4096
        · have h2I : (nr : Int) ≤ 4096 := by omega
          go_wp2
          go_ret
          exact ⟨_, rfl, ⟨true, rfl, fun h => by cases h⟩, Below.refl _ _⟩
        · have h2I : (4096 : Int) < (nr : Int) := by omega
          have h2D : decide ((nr : Int) ≤ 4096) = false := decide_eq_false (by omega)
          have h2D' : decide (nr ≤ 4096) = false := decide_eq_false h2
          have HN2 : Hid (∀ i, i < k + 1 → (R.getD i zR).n ≤ 200 ∨ 4096 < (R.getD i zR).n) := HN.out (by omega)
          clear h2
          go_wp2
          go_roundw
          case rel => exact ⟨k + 1, by go_num, by rw [HS.out], by have := HR.out; omega, HN2.out, trivial⟩
          case measure => have := HR.out; simp [intOf]; omega
      · have h1I : (nr : Int) ≤ (200 : Int) := by omega
        have h1D : decide ((200 : Int) < (nr : Int)) = false := decide_eq_false (by omega)
        have h1D' : decide (200 < nr) = false := decide_eq_false h1
        have HN2 : Hid (∀ i, i < k + 1 → (R.getD i zR).n ≤ 200 ∨ 4096 < (R.getD i zR).n) := HN.out (by omega)
        clear h1
        go_wp2
        go_roundw
        case rel => exact ⟨k + 1, by go_num, by rw [HS.out], by have := HR.out; omega, HN2.out, trivial⟩
        case measure => have := HR.out; simp [intOf]; omega
    · have hkI : (n : Int) ≤ (k : Int) := by omega
      obtain ⟨S, hS⟩ : ∃ S, hsum R k = S := ⟨_, rfl⟩
      have HS : Hid (hsum R k = S ∧ k = n) := ⟨hS, by omega⟩
      rw [hS]
      clear hS hk
      by_cases h1 : 100 < n
      · have h1I : (100 : Int) < (n : Int) := by omega
        go_wp2
        go_ret
        exact ⟨_, rfl, ⟨true, rfl, fun h => by cases h⟩, Below.refl _ _⟩
      · have h1I : (n : Int) ≤ 100 := by omega
        have h1D : decide ((100 : Int) < (n : Int)) = false := decide_eq_false (by omega)
        have h1D' : decide (100 < n) = false := decide_eq_false h1
        have HF : Hid (decide (6000 < S) = false → R.length ≤ 100 ∧ (entsR R).length ≤ 6000 ∧ ∀ r ∈ R, r.n ≤ 200 ∨ 4096 < r.n) := by
          intro hd
          have hn := HL.out.1.n
          have he := (hsum_eq (R := R) (fun r hr => ⟨(HL.out.1.each r hr).n, HL.out.2 r hr⟩) k (by have := HS.out; omega) (by have := HS.out; omega)).1
          rw [List.take_of_length_le (by have := HS.out; omega)] at he
          have h6 : ¬ 6000 < S := of_decide_eq_false hd
          rw [HS.out.1] at he
          refine ⟨by omega, by omega, fun r hr => ?_⟩
          obtain ⟨i, hi, rfl⟩ := List.mem_iff_getElem.1 hr
          have := HK.out.2 i (by have := HS.out; omega)
          rwa [List.getD_eq_getElem?_getD, List.getElem?_eq_getElem hi] at this
        clear h1
        go_wp2
        go_ret
        exact ⟨_, rfl, ⟨_, rfl, HF.out⟩, Below.refl _ _⟩
end Go.Proofs.Ytbnacopefclklaa
namespace Go.Proofs.Ytbnacopefclklaa
open Go.RowKit Go.WideShapes

theorem thinF_ok {l L : List EntV} {s : Int} {last : Bool} {E : Nat} (h : thinF l s last = (L, E)) : (E ≠ 0 ∧ L = []) ∨ (E = 0 ∧ L = thinE l s last ∧ thinErr l = 0 ∧ 0 ≤ s ∧ s ≤ 2147483647) := by
  unfold thinF at h
  by_cases h1 : thinErr l = 0
  · rw [if_neg (fun h => h h1)] at h
    by_cases h2 : 0 ≤ s ∧ s ≤ 2147483647
    · rw [if_pos h2, Prod.mk.injEq] at h
      exact .inr ⟨h.2.symm, h.1.symm, h1, h2⟩
    · rw [if_neg h2, Prod.mk.injEq] at h
      exact .inl ⟨by rw [← h.2]; decide, h.1.symm⟩
  · rw [if_pos h1, Prod.mk.injEq] at h
    exact .inl ⟨by rw [← h.2]; exact h1, h.1.symm⟩
theorem thinErr_thin {l : List EntV} (h : thinErr l = 0) (s : Int) (last : Bool) : thinErr (thinE l s last) = 0 := by
  obtain ⟨h1, h2, h3⟩ := thinErr_zero.1 h
  refine thinErr_zero.2 ⟨Nat.le_trans (List.length_filter_le _ _) h1, fun x hx => h2 x (mem_thinE.1 hx).1, thinE_rise h3 _ _⟩
theorem thinF_twice {l A : List EntV} {s : Int} {last : Bool} (h : thinF l s last = (A, 0)) : thinF A s last = (A, 0) := by
  rcases thinF_ok h with h | ⟨_, h2, h3, h4⟩
  · exact absurd rfl h.1
  · unfold thinF
    rw [h2, if_neg (fun h => h (thinErr_thin h3 s last)), if_pos h4, thin_twice]
theorem thin_step {l : List EntV} {s : Int} {last : Bool} (h : thinErr l = 0) {i : Nat} (hi : i + 1 < (thinE l s last).length) (hk : ((thinE l s last).getD i zeroE).key = ((thinE l s last).getD (i + 1) zeroE).key) : s < ((thinE l s last).getD i zeroE).seq := by
  obtain ⟨_, _, hr⟩ := thinErr_zero.1 h
  have hl := rise_at (thinE_rise hr s last) (show i < i + 1 by omega) hi
  rcases Int.lt_or_le s ((thinE l s last).getD i zeroE).seq with c | c
  · exact c
  · exfalso
    have hs : ((thinE l s last).getD (i + 1) zeroE).seq < ((thinE l s last).getD i zeroE).seq := by
      rcases (lessE_def _ _).1 hl with a | a
      · rw [hk, ltB_irrefl] at a
        cases a
      · exact a.2
    have := thin_one hr (getD_mem' (show i < _ by omega)) (getD_mem' hi) hk c (by omega)
    rw [this] at hs
    omega
/-! ### Two rows, the one of older entries -/
theorem allE_two {a b A : List EntV} {E : Nat} (h : allE [a, b] = (A, E)) (h0 : E = 0) : RiseE A ∧ ∀ x, x ∈ A ↔ x ∈ a ∨ x ∈ b := by
  obtain ⟨h1, h2, _⟩ := allE_ok h h0
  refine ⟨h1, fun x => ?_⟩
  rw [h2.mem_iff]
  simp
theorem allE_one {a A : List EntV} {E : Nat} (h : allE [a] = (A, E)) (h0 : E = 0) : A = a := by
  obtain ⟨h1, h2, h3⟩ := allE_ok h h0
  have hr : RiseE a := ((checkE_rise a).1 ((chkR_zero.1 h3).2.1 a (by simp))).2.2
  exact riseE_ext h1 hr (fun x => by rw [h2.mem_iff]; simp)
theorem chk_one {a : List EntV} (h : checkE a = 0) : chkR [a] = 0 := by
  obtain ⟨h1, _⟩ := (checkE_rise a).1 h
  exact chkR_zero.2 ⟨by simp, by simpa using h, by simp; omega⟩
theorem chk_two {a b : List EntV} (h : checkE a = 0) (h' : checkE b = 0) : chkR [a, b] = 0 := by
  obtain ⟨h1, _⟩ := (checkE_rise a).1 h
  obtain ⟨h2, _⟩ := (checkE_rise b).1 h'
  exact chkR_zero.2 ⟨by simp, by simpa using ⟨h, h'⟩, by simp; omega⟩
theorem all_single {a : List EntV} (h : checkE a = 0) : allE [a] = (a, 0) := by
  have hr := ((checkE_rise a).1 h).2.2
  exact (allE_of (chk_one h) (by simp) (rise_weak hr)).1 hr
/-- Two rows may be one just if no entry of the one has key and number of one of the other. -/
theorem all_pair {a b : List EntV} (h : checkE a = 0) (h' : checkE b = 0) : (allE [a, b]).2 = 0 ↔ ∀ x ∈ a, ∀ y ∈ b, ¬ (x.key = y.key ∧ x.seq = y.seq) := by
  have hra := ((checkE_rise a).1 h).2.2
  have hrb := ((checkE_rise b).1 h').2.2
  have hc := chk_two h h'
  have hw := chk_weak (chkR_zero.1 hc).2.1
  have key : RiseE (allM [a, b]) ↔ ∀ x ∈ a, ∀ y ∈ b, ¬ (x.key = y.key ∧ x.seq = y.seq) := by
    rw [allM_rise hw]
    have e : [a, b].flatten = a ++ b := by simp
    rw [e]
    constructor
    · intro hs x hx y hy
      exact (List.pairwise_append.1 hs).2.2 x hx y hy
    · intro hs
      exact List.pairwise_append.2 ⟨(weak_rise (rise_weak hra)).1 hra, (weak_rise (rise_weak hrb)).1 hrb, hs⟩
  rw [← key]
  by_cases hr : RiseE (allM [a, b])
  · rw [allE_rise hc hr]; simp [hr]
  · rw [allE_not hc hr]; simp [hr]
theorem checkE_thin {l : List EntV} (h : thinErr l = 0) (hl : l.length ≤ 200) : checkE l = 0 := by
  obtain ⟨_, h2, h3⟩ := thinErr_zero.1 h
  exact (checkE_rise l).2 ⟨by omega, h2, h3⟩
theorem thinE_len (l : List EntV) (s : Int) (last : Bool) : (thinE l s last).length ≤ l.length := List.length_filter_le _ _
theorem thinE_last (l : List EntV) (s : Int) : (thinE l s true).length ≤ (thinE l s false).length := by
  classical
  unfold thinE
  rw [← List.countP_eq_length_filter, ← List.countP_eq_length_filter]
  refine List.countP_mono_left (fun x _ hx => ?_)
  simp only [decide_eq_true_eq] at hx ⊢
  rcases hx with hx | hx
  · exact .inl hx
  · exact .inr ⟨hx.1, by simp⟩
theorem liveE_at {ls : List (List EntV)} {A : List EntV} (h : allE ls = (A, 0)) (s : Int) : liveE ls s = if 0 ≤ s ∧ s ≤ 2147483647 then (countE A s, 0) else ([], 2) := by
  unfold liveE
  rw [h]
  exact if_neg (by simp)
theorem liveE_len (ls : List (List EntV)) (s : Int) : (liveE ls s).1.length ≤ 16384 := by
  unfold liveE
  split
  · simp
  · split
    · exact Nat.le_trans (List.length_filter_le _ _) allE_len
    · simp
/-- What MergeThin asks. -/
theorem thin_law {l older a b U V : List EntV} {s at_ : Int} {E F : Nat} (hl : l.length ≤ 200) (hat : s ≤ at_) (ha : thinF l s false = (a, 0)) (hb : thinF l s true = (b, 0))
    (hold : ∀ x ∈ older, ∀ y ∈ l, ¬ (x.key = y.key ∧ y.seq ≤ x.seq)) (hU : liveE [l, older] at_ = (U, E)) (hV : liveE [a, older] at_ = (V, F)) :
    (E = 0 ↔ F = 0) ∧ (E = 0 → U = V) ∧ liveE [l] at_ = liveE [b] at_ := by
  rcases thinF_ok ha with h | ⟨_, a2, a3, a4⟩
  · exact absurd rfl h.1
  rcases thinF_ok hb with h | ⟨_, b2, b3, b4⟩
  · exact absurd rfl h.1
  have hcl := checkE_thin a3 hl
  have hca : checkE a = 0 := by rw [a2]; exact checkE_thin (thinErr_thin a3 s false) (Nat.le_trans (thinE_len _ _ _) hl)
  have hcb : checkE b = 0 := by rw [b2]; exact checkE_thin (thinErr_thin a3 s true) (Nat.le_trans (thinE_len _ _ _) hl)
  have hrl := ((checkE_rise l).1 hcl).2.2
  have hsub : ∀ x ∈ a, x ∈ l := fun x hx => by rw [a2] at hx; exact (mem_thinE.1 hx).1
  have hone : liveE [l] at_ = liveE [b] at_ := by
    rw [liveE_at (all_single hcl), liveE_at (all_single hcb), b2, thin_last hrl hat]
  refine ⟨?_, ?_, hone⟩
  · by_cases hco : checkE older = 0
    · have e1 : (allE [l, older]).2 = 0 := (all_pair hcl hco).2 (fun x hx y hy hh => hold y hy x hx ⟨hh.1.symm, by omega⟩)
      have e2 : (allE [a, older]).2 = 0 := (all_pair hca hco).2 (fun x hx y hy hh => hold y hy x (hsub x hx) ⟨hh.1.symm, by omega⟩)
      unfold liveE at hU hV
      rw [if_neg (fun h => h e1)] at hU
      rw [if_neg (fun h => h e2)] at hV
      by_cases hs : 0 ≤ at_ ∧ at_ ≤ 2147483647
      · rw [if_pos hs, Prod.mk.injEq] at hU hV
        rw [← hU.2, ← hV.2]
      · rw [if_neg hs, Prod.mk.injEq] at hU hV
        rw [← hU.2, ← hV.2]
    · have c1 : chkR [l, older] ≠ 0 := fun h => hco ((chkR_zero.1 h).2.1 older (by simp))
      have c2 : chkR [a, older] ≠ 0 := fun h => hco ((chkR_zero.1 h).2.1 older (by simp))
      unfold liveE at hU hV
      rw [allE_bad c1] at hU
      rw [allE_bad c2] at hV
      rw [if_pos c1, Prod.mk.injEq] at hU
      rw [if_pos c2, Prod.mk.injEq] at hV
      rw [← hU.2, ← hV.2]
      exact ⟨fun h => absurd h c1, fun h => absurd h c2⟩
  · intro hE
    subst hE
    unfold liveE at hU hV
    obtain ⟨A, e, hA⟩ : ∃ A e, allE [l, older] = (A, e) := ⟨_, _, rfl⟩
    obtain ⟨B, f, hB⟩ : ∃ B f, allE [a, older] = (B, f) := ⟨_, _, rfl⟩
    rw [hA] at hU
    rw [hB] at hV
    simp only at hU hV
    by_cases he : e = 0
    · obtain ⟨r1, m1⟩ := allE_two hA he
      have hco : checkE older = 0 := (chkR_zero.1 (allE_ok hA he).2.2).2.1 older (by simp)
      have hf : f = 0 := by
        have : (allE [a, older]).2 = 0 := (all_pair hca hco).2 (fun x hx y hy hh => hold y hy x (hsub x hx) ⟨hh.1.symm, by omega⟩)
        rw [hB] at this
        exact this
      obtain ⟨r2, m2⟩ := allE_two hB hf
      rw [if_neg (fun h => h he)] at hU
      rw [if_neg (fun h => h hf)] at hV
      by_cases hs : 0 ≤ at_ ∧ at_ ≤ 2147483647
      · rw [if_pos hs, Prod.mk.injEq] at hU hV
        rw [← hU.1, ← hV.1]
        exact thin_older hrl r1 r2 hat m1 (fun x => by rw [m2, a2])
      · rw [if_neg hs, Prod.mk.injEq] at hU
        exact absurd hU.2 (by decide)
    · rw [if_pos he, Prod.mk.injEq] at hU
      exact absurd hU.2 he
end Go.Proofs.Ytbnacopefclklaa
namespace Go.Proofs.Ytbnacopefclklaa
open Go.RowKit Go.WideShapes

theorem run_pushR (w : World) (base : Nat) (ty : TypeId) (hv : Value) (R : List RV) (r : RV) (g : Nat) (hown : w.ownsRow base 25 1 hv R.length (R.map rvV)) (hg : w.cell? ⟨g, 0, none⟩ = some (rvV r)) (hlen : R.length ≤ 1000) (hbase : base ≤ w.heap.size) :
    ∃ v' w', (Builtin.append_ #[26, 26] ty #[hv, .slice (some ⟨g, 0, none⟩) 1 1]).run Try.prog w = .ok v' w' ∧ w'.ownsRow base 25 1 v' (R ++ [r]).length ((R ++ [r]).map rvV) ∧ w.grownBy w' hv.ownBlock := by
  obtain ⟨i0, hi, hz0, hz1, hz2⟩ := info_parts' info_ents
  have hmax : R.length + 1 ≤ maxLen := by unfold maxLen; omega
  have hc : ∀ j u, [rvV r][j]? = some u → w.cell? ((⟨g, 0, none⟩ : Addr).add j) = some u := by
    intro j u hu
    cases j with
    | zero => simp at hu; subst hu; exact hg
    | succ j => simp at hu
  obtain ⟨v', w', h1, h2, h3, _⟩ := run_append_own (P := Try.prog) w base 26 ty 25 i0 (.slice none 0 0) 1 24 Try.underlying26 hi hz0 hz1 hz2 rfl (by decide) hv R.length (R.map rvV) hown ⟨g, 0, none⟩ 1 1 [rvV r] rfl hc (by intro u hu; simp at hu; subst hu; rfl) hmax (by omega) hbase
  refine ⟨v', w', h1, ?_, h3⟩
  rw [List.length_append, List.map_append]
  exact h2
theorem wpList_pushR (w : World) {ops : Array Oper} {rest : List Oper} {o : Oper} {a : Act} {Q : Exit → Act → World → Prop} (hw : Region.wanted o (yielded ops a.tmps) = true) (s x : Operand)
    (ho : o.op = .call { callee := .builtin .append, args := #[s, x], argTypes := #[26, 26] }) (base : Nat) (v : Value) (R : List RV) (r : RV) (g : Nat) (hs : a.eval s = v) (hx : a.eval x = .slice (some ⟨g, 0, none⟩) 1 1)
    (hown : w.ownsRow base 25 1 v R.length (R.map rvV)) (hg : w.cell? ⟨g, 0, none⟩ = some (rvV r)) (hlen : R.length ≤ 1000) (hbase : base ≤ w.heap.size)
    (h : ∀ v' w', w'.ownsRow base 25 1 v' (R ++ [r]).length ((R ++ [r]).map rvV) → w.grownBy w' v.ownBlock → wpList Try.prog ops Q rest (a.put o.dst v') w') : wpList Try.prog ops Q (o :: rest) a w := by
  refine wpList_step fun K hK => ?_
  rw [if_pos hw]
  obtain ⟨v', w', hr, h2, h3⟩ := run_pushR w base o.type v R r g hown hg hlen hbase
  unfold Oper.wp execOp
  simp only [ho, resolve, invoke, builtin, Sem.run_bind, Sem.run_pure, Result.andThen_ok, List.map_toArray, List.map_cons, List.map_nil, hs, hx, hr]
  exact hK _ _ (h v' w' h2 h3)
theorem rows_own {w : World} {base : Nat} {q : Option Addr} {n c : Nat} {R : List RV} (h : w.ownsRow base 25 1 (.slice q n c) R.length (R.map rvV)) : RowsIn w q R := by
  intro hp
  rcases h.2 with ⟨_, hn⟩ | ⟨g, cap, cur, hv, hb, hg, hle, hmax, hsz, htk⟩
  · omega
  · simp only [Value.slice.injEq] at hv
    obtain ⟨rfl, rfl, rfl⟩ := hv
    refine ⟨g, 0, rfl, fun i hi => ?_⟩
    rw [Nat.zero_add, World.ownsRow.cellAt h i (by omega)]
    exact mapR_at hi
/-! ### Rows in another order -/
theorem chk_rev (ls : List (List EntV)) : chkR ls.reverse = 0 ↔ chkR ls = 0 := by
  rw [chkR_zero, chkR_zero]
  have hp : ls.reverse.flatten.Perm ls.flatten := (List.reverse_perm ls).flatten
  rw [List.length_reverse, hp.length_eq]
  simp only [List.mem_reverse]
theorem all_rev {ls : List (List EntV)} {A B : List EntV} {E F : Nat} (h : allE ls = (A, E)) (h' : allE ls.reverse = (B, F)) : (E = 0 ↔ F = 0) ∧ (E = 0 → A = B) := by
  have hp : ls.reverse.flatten.Perm ls.flatten := (List.reverse_perm ls).flatten
  by_cases hc : chkR ls = 0
  · have hc' := (chk_rev ls).2 hc
    have hw := chk_weak (chkR_zero.1 hc).2.1
    have hw' := chk_weak (chkR_zero.1 hc').2.1
    by_cases hr : RiseE (allM ls)
    · have hr' : RiseE (allM ls.reverse) := (allM_rise hw').2 ((sole_perm hp).2 ((allM_rise hw).1 hr))
      rw [allE_rise hc hr, Prod.mk.injEq] at h
      rw [allE_rise hc' hr', Prod.mk.injEq] at h'
      rw [← h.1, ← h.2, ← h'.1, ← h'.2]
      exact ⟨Iff.rfl, fun _ => (allM_rev hw hr).symm⟩
    · have hr' : ¬ RiseE (allM ls.reverse) := fun hh => hr ((allM_rise hw).2 ((sole_perm hp).1 ((allM_rise hw').1 hh)))
      rw [allE_not hc hr, Prod.mk.injEq] at h
      rw [allE_not hc' hr', Prod.mk.injEq] at h'
      rw [← h.2, ← h'.2]
      exact ⟨Iff.rfl, fun hh => absurd hh (by decide)⟩
  · have hc' : chkR ls.reverse ≠ 0 := fun hh => hc ((chk_rev ls).1 hh)
    rw [allE_bad hc, Prod.mk.injEq] at h
    rw [allE_bad hc', Prod.mk.injEq] at h'
    rw [← h.2, ← h'.2]
    exact ⟨⟨fun hh => absurd hh hc, fun hh => absurd hh hc'⟩, fun hh => absurd hh hc⟩
/-- A row's entries from a place on stand in a list from a place on. -/
def SubAt (A r : List EntV) (k at_ : Nat) : Prop := ∀ i, at_ ≤ i → i < r.length → r.getD i zeroE ∈ A.drop k
theorem sub_start {A r : List EntV} (h : ∀ x ∈ r, x ∈ A) : SubAt A r 0 0 := fun i _ hi => by rw [List.drop_zero]; exact h _ (getD_mem' hi)
theorem sub_hit {A r : List EntV} (hr : RiseE r) {k at_ : Nat} (hk : k < A.length) (h : SubAt A r k at_) (he : A.getD k zeroE = r.getD at_ zeroE) : SubAt A r (k + 1) (at_ + 1) := by
  intro i h1 h2
  have := h i (by omega) h2
  rw [dropE hk] at this
  rcases List.mem_cons.1 this with e | e
  · exfalso
    have hl := rise_at hr (show at_ < i by omega) h2
    rw [e, he, lessE_irr] at hl
    cases hl
  · exact e
theorem sub_miss {A r : List EntV} (hA : RiseE A) (hr : RiseE r) {k at_ : Nat} (hk : k < A.length) (h : SubAt A r k at_) (ha : at_ < r.length) (he : A.getD k zeroE ≠ r.getD at_ zeroE) : SubAt A r (k + 1) at_ := by
  have h0 := h at_ (Nat.le_refl _) ha
  rw [dropE hk] at h0
  have h0' : r.getD at_ zeroE ∈ A.drop (k + 1) := by
    rcases List.mem_cons.1 h0 with e | e
    · exact absurd e.symm he
    · exact e
  have hAd : RiseE (A.drop k) := hA.sublist (List.drop_sublist _ _)
  rw [dropE hk] at hAd
  have hlt := (List.pairwise_cons.1 hAd).1 _ h0'
  intro i h1 h2
  have := h i h1 h2
  rw [dropE hk] at this
  rcases List.mem_cons.1 this with e | e
  · exfalso
    by_cases ei : i = at_
    · rw [ei] at e
      exact he e.symm
    · have hl := rise_at hr (show at_ < i by omega) h2
      rw [e] at hl
      have := lessE_asymm hl
      rw [hlt] at this
      cases this
  · exact e
theorem sub_end {A r : List EntV} {k at_ : Nat} (hk : A.length ≤ k) (h : SubAt A r k at_) : r.length ≤ at_ := by
  rcases Nat.lt_or_ge at_ r.length with c | c
  · have := h at_ (Nat.le_refl _) c
    rw [List.drop_eq_nil_of_le hk] at this
    cases this
  · exact c
theorem ent_ne {x y : EntV} (h : x ≠ y) : x.key ≠ y.key ∨ (x.key = y.key ∧ x.val ≠ y.val) ∨ (x.key = y.key ∧ x.val = y.val ∧ x.seq ≠ y.seq) ∨ (x.key = y.key ∧ x.val = y.val ∧ x.seq = y.seq ∧ x.gone ≠ y.gone) := by
  by_cases h1 : x.key = y.key
  · by_cases h2 : x.val = y.val
    · by_cases h3 : x.seq = y.seq
      · by_cases h4 : x.gone = y.gone
        · refine absurd ?_ h
          cases x; cases y
          simp only at h1 h2 h3 h4
          subst h1 h2 h3 h4
          rfl
        · exact .inr (.inr (.inr ⟨h1, h2, h3, h4⟩))
      · exact .inr (.inr (.inl ⟨h1, h2, h3⟩))
    · exact .inr (.inl ⟨h1, h2⟩)
  · exact .inl h1
end Go.Proofs.Ytbnacopefclklaa
namespace Go.Proofs.Ytbnacopefclklaa.mergeAny
open Go.ChangeShapes Go.WideShapes Go.ChangeAt Go.RowKit
open Go.ChangeMaps (open_string shut_string)
set_option linter.unusedVariables false

theorem own : ownKnob Try.prog.godebug = none := by kernel_rfl
theorem laidOut : laidOutB Try.prog = true := by kernel_rfl

open Go.Joins
set_option maxRecDepth 8000 in
set_option maxHeartbeats 8000000 in
theorem walk (v : Value) (R : List RV) (W : World) (hv : RowsA W v R) :
    Calls Try.prog 6 #[v] W fun e W' => e = .returned (.bool true) ∧ Below W.heap.size W W' := by
  obtain ⟨q, c, rfl, hR, hlc, hcm, hqn⟩ := hv.lies
  obtain ⟨n, hn⟩ : ∃ n, R.length = n := ⟨_, rfl⟩
  rw [hn] at hR hlc ⊢
  have HN : Hid (R.length = n) := hn
  have HR : Hid (RowsL W q n R ∧ ∀ r ∈ R, r.n ≤ 3000000000000) := ⟨hR, hv.small⟩
  have nM : (n : Int) ≤ 9223372036854775807 := by unfold maxLen at hcm; omega
  have HNM : Hid ((n : Int) ≤ 9223372036854775807) := nM
  have HAL := alive_any W
  clear hv hR hlc hcm hqn hn nM
  go_enter Try.func6, Try.ntmps6
  go_wp2_with fail
  refine HAL.mono ?_
  rintro e w1 ⟨rfl, hb1⟩
  have HB1 : Hid (Below W.heap.size W w1) := hb1
  have HHV := heavy_any q n c R w1 (HR.out.1.below hb1) HR.out.2 HNM.out
  clear HAL hb1
  go_wp2_with fail
  refine HHV.mono ?_
  rintro e w2 ⟨vh, rfl, hh, hb2⟩
  have HB2 : Hid (Below W.heap.size W w2) := below_bt HB1.out hb2
  obtain ⟨b, rfl, hhb⟩ := hh.out
  clear HHV hb2 hh
  cases b with
  | true =>
    clear hhb
    go_wp2
    go_ret
    exact ⟨rfl, HB2.out⟩
  | false =>
  have HV : Hid (R.length ≤ 100 ∧ (entsR R).length ≤ 6000) := ⟨(hhb rfl).1, (hhb rfl).2.1⟩
  have nI : (n : Int) ≤ 100 := by have := HV.out; have := HN.out; omega
  have nw : IntKind.i64.wrap ((n : Int) - 1) = (n : Int) - 1 := by rw [IntKind.wrap_i64]; omega
  clear hhb
  go_wp2
  go_loopw [4, 5, 6] (fun s4 s5 s6 wr => ∃ k m : Nat, s6 = .int .i64 ((k : Int) - 1) ∧ k ≤ n ∧ s5 = .int .i64 (m : Int) ∧ m = (entsR (R.drop k)).length ∧ wr.ownsRow w2.heap.size 25 1 s4 (R.drop k).reverse.length ((R.drop k).reverse.map rvV) ∧ Below w2.heap.size w2 wr) (fun _ _ s6 _ => (intOf s6 + 1).toNat)
  case atStart =>
    refine ⟨n, 0, rfl, Nat.le_refl _, rfl, ?_, ?_, Below.refl _ _⟩
    · rw [List.drop_eq_nil_of_le (by have := HN.out; omega)]; rfl
    · rw [List.drop_eq_nil_of_le (by have := HN.out; omega)]; exact World.ownsRow_nil _ _ _ _
  case round =>
    obtain ⟨k, m, rfl, hk, rfl, hm, hown, hbel⟩ := hrel
    have HK : Hid (k ≤ n ∧ m = (entsR (R.drop k)).length ∧ Below w2.heap.size w2 wr) := ⟨hk, hm, hbel⟩
    obtain ⟨qb, cb, rfl, hlcb, hcmb, hqnb⟩ := own_form hown
    have HOW : Hid (wr.ownsRow w2.heap.size 25 1 (.slice qb (R.drop k).reverse.length cb) (R.drop k).reverse.length ((R.drop k).reverse.map rvV)) := hown
    obtain ⟨lb, hlb⟩ : ∃ lb, (R.drop k).reverse.length = lb := ⟨_, rfl⟩
    have HLB : Hid ((R.drop k).reverse.length = lb ∧ lb ≤ cb ∧ cb ≤ maxLen ∧ (qb = none → cb = 0)) := ⟨hlb, by rw [← hlb]; exact hlcb, hcmb, hqnb⟩
    rw [hlb]
    clear hm hbel hown hlcb hcmb hqnb
    by_cases hk0 : 0 < k
    · obtain ⟨j, hj⟩ : ∃ j, k - 1 = j := ⟨_, rfl⟩
      have HJ : Hid (k = j + 1) := by show _ = _; omega
      rw [show (k : Int) - 1 = (j : Int) by omega]
      have j0 : (0 : Int) ≤ (j : Int) := by omega
      have jn : (j : Int) < (n : Int) := by omega
      have jw : IntKind.i64.wrap ((j : Int) - 1) = (j : Int) - 1 := by rw [IntKind.wrap_i64]; omega
      have hjR : j < R.length := by have := HN.out; omega
      have hbw := below_bt HB2.out HK.out.2.2
      obtain ⟨bb, oo, rfl, hc⟩ := (HR.out.1.below hbw).at hjR
      obtain ⟨⟨qr, nr, cr, lr⟩, hr⟩ : ∃ r, R.getD j zR = r := ⟨_, rfl⟩
      rw [hr] at hc
      rw [show rvV ⟨qr, nr, cr, lr⟩ = .slice qr nr cr from rfl] at hc
      have hdr : R.drop j = ⟨qr, nr, cr, lr⟩ :: R.drop k := by
        rw [List.drop_eq_getElem_cons hjR, HJ.out, ← hr, List.getD_eq_getElem?_getD, List.getElem?_eq_getElem hjR]
        rfl
      have hnr : nr = lr.length := by have := (HR.out.1.each _ (getR_mem hjR)).n; rw [hr] at this; exact this
      obtain ⟨m', hm'⟩ : ∃ m', m + nr = m' := ⟨_, rfl⟩
      have HM : Hid (m' = (entsR (R.drop j)).length ∧ m' ≤ 6000) := by
        have e : (entsR (R.drop j)).length = nr + (entsR (R.drop k)).length := by rw [hdr, entsR_cons, List.length_append, hnr]
        have e2 : (entsR (R.drop j)).length ≤ (entsR R).length := by
          conv => rhs; rw [← List.take_append_drop j R, entsR_app, List.length_append]
          omega
        have := HK.out.2.1
        have := HV.out.2
        exact ⟨by omega, by omega⟩
      have mw : IntKind.i64.wrap ((m : Int) + (nr : Int)) = (m' : Int) := by have := HM.out; rw [IntKind.wrap_i64]; omega
      have HRV : Hid ((R.drop j).reverse = (R.drop k).reverse ++ [⟨qr, nr, cr, lr⟩]) := by show _ = _; rw [hdr, List.reverse_cons]
      have hca : (wr.alloc (.cells #[.slice qr nr cr] 25)).cell? ⟨bb, oo + j, none⟩ = some (.slice qr nr cr) := cell_below hc (below_alloc _ _)
      have HA : Hid ((wr.alloc (.cells #[.slice qr nr cr] 25)).ownsRow w2.heap.size 25 1 (.slice qb lb cb) (R.drop k).reverse.length ((R.drop k).reverse.map rvV) ∧ w2.heap.size ≤ (wr.alloc (.cells #[.slice qr nr cr] 25)).heap.size ∧ Below w2.heap.size w2 (wr.alloc (.cells #[.slice qr nr cr] 25)) ∧ (wr.alloc (.cells #[.slice qr nr cr] 25)).cell? ⟨wr.heap.size, 0, none⟩ = some (rvV ⟨qr, nr, cr, lr⟩)) := by
        have h1 := own_below HOW.out (below_alloc wr (.cells #[.slice qr nr cr] 25))
        rw [hlb] at h1
        refine ⟨by rw [hlb]; exact h1, (below_bt HK.out.2.2 (below_alloc _ _)).size, below_bt HK.out.2.2 (below_alloc _ _), Lib.cell_of_heap (heap_alloc_new wr _) 0⟩
      have HBW : Hid (∀ w', Below w2.heap.size w2 w' → w'.cell? ⟨bb, oo + j, none⟩ = some (.slice qr nr cr)) := by
        intro w' hw'
        obtain ⟨b', o', e, hc'⟩ := (HR.out.1.below (below_bt HB2.out hw')).at hjR
        simp only [Option.some.injEq, Addr.mk.injEq, and_true] at e
        obtain ⟨rfl, rfl⟩ := e
        rw [hr] at hc'
        exact hc'
      have HLR : Hid ((R.drop k).reverse.length ≤ 1000) := by show _ ≤ _; rw [List.length_reverse, List.length_drop]; have := HV.out.1; omega
      clear hk0 hj hjR hbw hr hdr hnr hm' hlb hk
      go_wp2_with (at_builtin; go_loud ((refine wpList_pushR _ rfl _ _ rfl w2.heap.size (.slice qb lb cb) (R.drop k).reverse ⟨qr, nr, cr, lr⟩ wr.heap.size rfl rfl HA.out.1 HA.out.2.2.2 HLR.out HA.out.2.1 ?_); intro v3 w3 ho3 hg3; have hb3 := HA.out.2.2.1.grown hg3 HA.out.2.2.1.size (fun k hk => (World.ownsRow.lt HA.out.1 k hk).1); have hcc := HBW.out w3 hb3; have H3 : Hid _ := And.intro ho3 hb3; clear ho3 hg3 hb3))
      go_roundw
      case rel =>
        refine ⟨j, m', rfl, by have := HJ.out; have := HK.out.1; omega, rfl, HM.out.1, ?_, H3.out.2⟩
        rw [HRV.out]
        exact H3.out.1
      case measure => have := HJ.out; simp [intOf]
    · obtain rfl : k = 0 := by omega
      rw [show ((0 : Nat) : Int) - 1 = -1 from rfl]
      rw [List.drop_zero] at HLB HOW HK
      have hbw := below_bt HB2.out HK.out.2.2
      obtain ⟨A, E, hA⟩ : ∃ A E, allE (lsR R) = (A, E) := ⟨_, _, rfl⟩
      obtain ⟨B, F, hB⟩ : ∃ B F, allE (lsR R.reverse) = (B, F) := ⟨_, _, rfl⟩
      have hrv : lsR R.reverse = (lsR R).reverse := by unfold lsR; rw [List.map_reverse]
      have HAB : Hid (allE (lsR R) = (A, E) ∧ ((E = 0 ↔ F = 0) ∧ (E = 0 → A = B))) := ⟨hA, all_rev hA (by rw [← hrv]; exact hB)⟩
      have HA1 := All_any q n c R wr (HR.out.1.below hbw) (by omega) A E hA
      have HBW : Hid (Below W.heap.size W wr) := hbw
      have HM : Hid (m = (entsR R).length ∧ m ≤ 6000) := ⟨HK.out.2.1, by rw [HK.out.2.1]; exact HV.out.2⟩
      have mI : (m : Int) ≤ 6000 := by have := HM.out; omega
      have HRB : Hid (RowsL wr qb lb R.reverse) := by
        refine ⟨HLB.out.1.symm, ?_, fun r hr => (HR.out.1.each r (List.mem_reverse.1 hr)).below hbw⟩
        have h1 := HOW.out
        exact rows_own h1
      have lbI : (lb : Int) ≤ 100 := by have h1 := HLB.out.1; rw [List.length_reverse] at h1; have := HV.out; omega
      have HLBI : Hid ((lb : Int) ≤ 100) := lbI
      clear hk0 hA hbw hrv HOW hlb hk
      go_wp2_with fail
      refine HA1.mono ?_
      rintro e w4 ⟨v4, rfl, h4⟩
      obtain ⟨q4, c4, rfl, _, _, _⟩ := h4.own.form
      have H4 : Hid (EntsIn w4 q4 A ∧ Below W.heap.size W w4) := ⟨h4.own.ents, below_bt HBW.out h4.bel⟩
      have HA2 := All_any qb lb cb R.reverse w4 (HRB.out.below h4.bel) (by have := HLBI.out; omega) B F hB
      obtain ⟨ma, hma⟩ : ∃ ma, A.length = ma := ⟨_, rfl⟩
      have HMA : Hid (A.length = ma) := hma
      rw [hma]
      clear HA1 h4 hma hB lbI
      go_wp2_with fail
      refine HA2.mono ?_
      rintro e w5 ⟨v5, rfl, h5⟩
      obtain ⟨q5, c5, rfl, _, _, _⟩ := h5.own.form
      have H5 : Hid (EntsIn w5 q4 A ∧ EntsIn w5 q5 B ∧ Below W.heap.size W w5) := ⟨H4.out.1.below h5.bel, h5.own.ents, below_bt H4.out.2 h5.bel⟩
      obtain ⟨mb, hmb⟩ : ∃ mb, B.length = mb := ⟨_, rfl⟩
      have HMB : Hid (B.length = mb) := hmb
      rw [hmb]
      clear HA2 h5 hmb H4
      by_cases hE : E = 0
      · have hF := HAB.out.2.1.1 hE
        subst hE
        subst hF
        have hABe := HAB.out.2.2 rfl
        subst hABe
        obtain rfl : ma = mb := by rw [← HMA.out, ← HMB.out]
        obtain ⟨r1, r2, r3⟩ := allE_ok HAB.out.1 rfl
        have hmm : ma = m := by rw [← HMA.out, r2.length_eq, HM.out.1]; rfl
        subst hmm
        have HRS : Hid (RiseE A ∧ (∀ r ∈ R, RiseE r.l) ∧ ∀ r ∈ R, ∀ x ∈ r.l, x ∈ A) := by
          refine ⟨r1, fun r hr => ((checkE_rise r.l).1 ((chkR_zero.1 r3).2.1 _ (lsR_mem hr))).2.2, fun r hr x hx => ?_⟩
          rw [r2.mem_iff]
          exact List.mem_flatten.2 ⟨r.l, lsR_mem hr, hx⟩
        have HSM := same_yes q4 q5 ma c4 c5 A w5 HMA.out.symm (by omega) H5.out.1 H5.out.2.1
        clear r1 r2 r3
        go_wp2_with fail
        refine HSM.mono ?_
        rintro e w6 ⟨rfl, hb6⟩
        have H6 : Hid (EntsIn w6 q4 A ∧ Below W.heap.size W w6) := ⟨H5.out.1.below hb6, below_bt H5.out.2.2 hb6⟩
        clear HSM hb6 H5
        go_wp2
        go_loopw [11] (fun s11 wr => ∃ k : Nat, s11 = .int .i64 ((k : Int) + 1) ∧ k ≤ ma ∧ Below w6.heap.size w6 wr) (fun s11 _ => ma + 1 - (intOf s11).toNat)
        case atStart => exact ⟨0, rfl, by omega, Below.refl _ _⟩
        case round =>
          obtain ⟨k, rfl, hk, hbel⟩ := hrel
          have HKK : Hid (k ≤ ma ∧ Below w6.heap.size w6 wr) := ⟨hk, hbel⟩
          obtain ⟨k1, hk1⟩ : ∃ k1 : Nat, k1 = k + 1 := ⟨_, rfl⟩
          rw [show (k : Int) + 1 = (k1 : Int) by omega]
          have HK1 : Hid (k1 = k + 1) := hk1
          have k0 : (0 : Int) ≤ (k1 : Int) := by omega
          have kk0 : (0 : Int) ≤ (k : Int) := by omega
          have kw1 : IntKind.i64.wrap ((k1 : Int) - 1) = (k : Int) := by rw [IntKind.wrap_i64]; omega
          have kw2 : IntKind.i64.wrap ((k1 : Int) + 1) = (k1 : Int) + 1 := by rw [IntKind.wrap_i64]; omega
          clear hbel
          by_cases hkm : k1 < ma
          · have hkI : (k1 : Int) < (ma : Int) := by omega
            have hkI2 : (k : Int) < (ma : Int) := by omega
            have HKM : Hid (k1 < ma) := hkm
            have hen := H6.out.1.below HKK.out.2
            obtain ⟨be, oe, rfl⟩ := hen.addr (by have := HMA.out; omega)
            have x4 := hen.at (k := k) (by have := HMA.out; omega)
            have y4 := hen.at (k := k1) (by have := HMA.out; omega)
            obtain ⟨⟨ka, va, sa, da⟩, hxa⟩ : ∃ x, A.getD k zeroE = x := ⟨_, rfl⟩
            obtain ⟨⟨kb, vb, sb, db⟩, hxb⟩ : ∃ x, A.getD k1 zeroE = x := ⟨_, rfl⟩
            rw [hxa] at x4
            rw [hxb] at y4
            have hr : lessE ⟨ka, va, sa, da⟩ ⟨kb, vb, sb, db⟩ = true := by rw [← hxa, ← hxb]; exact rise_at HRS.out.1 (by omega) (by have := HMA.out; omega)
            have HLE := fun w' => less_any ⟨ka, va, sa, da⟩ ⟨kb, vb, sb, db⟩ w'
            rw [hr, entV_def, entV_def] at HLE
            have HP : Hid (C4 wr be (oe + k * 4) (.string ka) (.string va) (.int .i64 sa) (.bool da)) := x4
            have HD : Hid (C4 wr be (oe + k1 * 4) (.string kb) (.string vb) (.int .i64 sb) (.bool db)) := y4
            clear x4 y4 hr hxa hxb hen hkm hk1 hk
            go_wp2
            go_region_held3 (fun w' => (w'.cell? ⟨be, oe + k1 * 4, none⟩ = some (.string kb) ∧ w'.cell? ⟨be, oe + k1 * 4 + 1, none⟩ = some (.string vb) ∧ w'.cell? ⟨be, oe + k1 * 4 + 2, none⟩ = some (.int .i64 sb) ∧ w'.cell? ⟨be, oe + k1 * 4 + 3, none⟩ = some (.bool db)) ∧ (w'.cell? ⟨be, oe + k * 4, none⟩ = some (.string ka) ∧ w'.cell? ⟨be, oe + k * 4 + 1, none⟩ = some (.string va) ∧ w'.cell? ⟨be, oe + k * 4 + 2, none⟩ = some (.int .i64 sa) ∧ w'.cell? ⟨be, oe + k * 4 + 3, none⟩ = some (.bool da)) ∧ Below wr.heap.size wr w')
              (with_reducible first | exact ⟨HD.out, HP.out, Below.refl _ _⟩ | exact ⟨c4_below HD.out (Below.refl _ _).drew, c4_below HP.out (Below.refl _ _).drew, (Below.refl _ _).drew⟩ | exact ⟨c4_below HD.out (below_dw (by assumption)), c4_below HP.out (below_dw (by assumption)), below_dw (by assumption)⟩ | assumption)
              (first
                | (go_at_call 25; refine (HLE _).mono ?_; rintro e w7 ⟨rfl, hb7⟩)
                | fail)
            rename_i hh
            have HB7 : Hid (Below w6.heap.size w6 w7) := below_bt HKK.out.2 hh.2.2
            clear hh HLE
            go_wp2
            go_roundw
            case rel => exact ⟨k1, rfl, by have := HKM.out; omega, HB7.out⟩
            case measure => have := HKM.out; simp [intOf]; omega
          · have hkI : (ma : Int) ≤ (k1 : Int) := by omega
            clear hkm hk1 hk kw1 kw2
            go_wp2
            go_loopw [12] (fun s12 wx => ∃ i : Nat, s12 = .int .i64 (i : Int) ∧ i ≤ n ∧ Below w6.heap.size w6 wx) (fun s12 _ => n - (intOf s12).toNat)
            case atStart => exact ⟨0, rfl, by omega, HKK.out.2⟩
            case round =>
              obtain ⟨i, rfl, hi, hbel⟩ := hrel
              have HI : Hid (i ≤ n ∧ Below w6.heap.size w6 wr) := ⟨hi, hbel⟩
              clear hi hbel
              by_cases hin : i < n
              · have hiI : (i : Int) < (n : Int) := by omega
                have i0 : (0 : Int) ≤ (i : Int) := by omega
                have iw : IntKind.i64.wrap ((i : Int) + 1) = (i : Int) + 1 := by rw [IntKind.wrap_i64]; omega
                have hiR : i < R.length := by have := HN.out; omega
                obtain ⟨⟨qr, nr, cr, lr⟩, hr⟩ : ∃ r, R.getD i zR = r := ⟨_, rfl⟩
                obtain ⟨bb, oo, rfl, _⟩ := HR.out.1.at hiR
                have HCL : Hid (∀ w', Below w6.heap.size w6 w' → w'.cell? ⟨bb, oo + i, none⟩ = some (.slice qr nr cr)) := by
                  intro w' hw'
                  obtain ⟨b', o', e, hc'⟩ := (HR.out.1.below (below_bt H6.out.2 hw')).at hiR
                  simp only [Option.some.injEq, Addr.mk.injEq, and_true] at e
                  obtain ⟨rfl, rfl⟩ := e
                  rw [hr] at hc'
                  exact hc'
                have hrm := getR_mem hiR
                rw [hr] at hrm
                have hro := HR.out.1.each _ hrm
                have HRL : Hid (nr = lr.length ∧ EntsIn W qr lr ∧ RiseE lr ∧ (∀ x ∈ lr, x ∈ A) ∧ nr ≤ 6000) := by
                  refine ⟨hro.n, hro.lies, HRS.out.2.1 _ hrm, HRS.out.2.2 _ hrm, ?_⟩
                  have h1 := sumR_succ hiR
                  rw [hr] at h1
                  have h2 : (entsR (R.take (i + 1))).length ≤ (entsR R).length := by
                    conv => rhs; rw [← List.take_append_drop (i + 1) R, entsR_app, List.length_append]
                    omega
                  have := hro.n
                  have := HV.out.2
                  simp only at *
                  omega
                have HIN : Hid (i < n) := hin
                have nrI : (nr : Int) ≤ 6000 := by have := HRL.out.2.2.2.2; omega
                clear hiR hr hrm hro hin
                go_wp2
                go_loopw [13, 14] (fun s13 s14 wy => ∃ at_ k : Nat, s13 = .int .i64 (at_ : Int) ∧ s14 = .int .i64 (k : Int) ∧ at_ ≤ nr ∧ k ≤ ma ∧ SubAt A lr k at_ ∧ Below w6.heap.size w6 wy) (fun _ s14 _ => ma - (intOf s14).toNat)
                case atStart => exact ⟨0, 0, rfl, rfl, by omega, by omega, sub_start HRL.out.2.2.2.1, HI.out.2⟩
                case round =>
                  obtain ⟨at_, k, rfl, rfl, hat, hk, hsub, hbel⟩ := hrel
                  have HS : Hid (at_ ≤ nr ∧ k ≤ ma ∧ SubAt A lr k at_ ∧ Below w6.heap.size w6 wr) := ⟨hat, hk, hsub, hbel⟩
                  have hcl := HCL.out wr hbel
                  clear hat hk hsub hbel
                  by_cases hka : k < ma
                  · have hkI : (k : Int) < (ma : Int) := by omega
                    have k0 : (0 : Int) ≤ (k : Int) := by omega
                    have kw : IntKind.i64.wrap ((k : Int) + 1) = (k : Int) + 1 := by rw [IntKind.wrap_i64]; omega
                    have HKA : Hid (k < ma) := hka
                    by_cases hat : at_ < nr
                    · have hatI : (at_ : Int) < (nr : Int) := by omega
                      have at0 : (0 : Int) ≤ (at_ : Int) := by omega
                      have atw : IntKind.i64.wrap ((at_ : Int) + 1) = (at_ : Int) + 1 := by rw [IntKind.wrap_i64]; omega
                      have HAT : Hid (at_ < nr) := hat
                      have hen := H6.out.1.below HS.out.2.2.2
                      have her := HRL.out.2.1.below (below_bt H6.out.2 HS.out.2.2.2)
                      obtain ⟨ba, oa, rfl⟩ := hen.addr (by have := HMA.out; omega)
                      obtain ⟨br, orr, rfl⟩ := her.addr (by have := HRL.out.1; omega)
                      obtain ⟨x0, x1, x2, x3⟩ := hen.at (k := k) (by have := HMA.out; omega)
                      obtain ⟨y0, y1, y2, y3⟩ := her.at (k := at_) (by have := HRL.out.1; omega)
                      by_cases heq : A.getD k zeroE = lr.getD at_ zeroE
                      · have H2 : Hid (SubAt A lr (k + 1) (at_ + 1)) := sub_hit HRL.out.2.2.1 (by have := HMA.out; omega) HS.out.2.2.1 heq
                        rw [heq] at x0 x1 x2 x3
                        obtain ⟨⟨ka, va, sa, da⟩, hxa⟩ : ∃ x, lr.getD at_ zeroE = x := ⟨_, rfl⟩
                        rw [hxa] at x0 x1 x2 x3 y0 y1 y2 y3
                        simp only at x0 x1 x2 x3 y0 y1 y2 y3
                        clear hen her heq hxa hka hat
                        go_wp2
                        go_quiet (fail)
                        go_wp2
                        go_roundw
                        case rel => exact ⟨at_ + 1, k + 1, by go_num, by go_num, by have := HAT.out; omega, by have := HKA.out; omega, H2.out, below_drewN HS.out.2.2.2 _⟩
                        case measure => have := HKA.out; simp [intOf]; omega
                      · have H2 : Hid (SubAt A lr (k + 1) at_) := sub_miss HRS.out.1 HRL.out.2.2.1 (by have := HMA.out; omega) HS.out.2.2.1 (by have := HRL.out.1; omega) heq
                        obtain ⟨⟨ka, va, sa, da⟩, hxa⟩ : ∃ x, A.getD k zeroE = x := ⟨_, rfl⟩
                        obtain ⟨⟨kb, vb, sb, db⟩, hxb⟩ : ∃ x, lr.getD at_ zeroE = x := ⟨_, rfl⟩
                        rw [hxa] at x0 x1 x2 x3 heq
                        rw [hxb] at y0 y1 y2 y3 heq
                        have hne := ent_ne heq
                        simp only at x0 x1 x2 x3 y0 y1 y2 y3 hne
                        clear hen her heq hxa hxb hka hat
                        rcases hne with h1 | ⟨h1, h2⟩ | ⟨h1, h2, h3⟩ | ⟨h1, h2, h3, h4⟩
                        · have f1 : (ka.toList == kb.toList) = false := by rw [eq_str]; simp [h1]
                          clear h1
                          go_wp2
                          go_quiet (fail)
                          go_wp2
                          go_roundw
                          case rel => exact ⟨at_, k + 1, rfl, by go_num, by have := HAT.out; omega, by have := HKA.out; omega, H2.out, below_drewN HS.out.2.2.2 _⟩
                          case measure => have := HKA.out; simp [intOf]; omega
                        · have f1 : (ka.toList == kb.toList) = true := by rw [eq_str]; simp [h1]
                          have f2 : (va.toList == vb.toList) = false := by rw [eq_str]; simp [h2]
                          clear h1 h2
                          go_wp2
                          go_quiet (fail)
                          go_wp2
                          go_roundw
                          case rel => exact ⟨at_, k + 1, rfl, by go_num, by have := HAT.out; omega, by have := HKA.out; omega, H2.out, below_drewN HS.out.2.2.2 _⟩
                          case measure => have := HKA.out; simp [intOf]; omega
                        · have f1 : (ka.toList == kb.toList) = true := by rw [eq_str]; simp [h1]
                          have f2 : (va.toList == vb.toList) = true := by rw [eq_str]; simp [h2]
                          have f3 : (sa == sb) = false := by simp [h3]
                          clear h1 h2 h3
                          go_wp2
                          go_quiet (fail)
                          go_wp2
                          go_roundw
                          case rel => exact ⟨at_, k + 1, rfl, by go_num, by have := HAT.out; omega, by have := HKA.out; omega, H2.out, below_drewN HS.out.2.2.2 _⟩
                          case measure => have := HKA.out; simp [intOf]; omega
                        · have f1 : (ka.toList == kb.toList) = true := by rw [eq_str]; simp [h1]
                          have f2 : (va.toList == vb.toList) = true := by rw [eq_str]; simp [h2]
                          have f3 : (sa == sb) = true := by simp [h3]
                          have f4 : (da == db) = false := by simp [h4]
                          clear h1 h2 h3 h4
                          go_wp2
                          go_quiet (fail)
                          go_wp2
                          go_roundw
                          case rel => exact ⟨at_, k + 1, rfl, by go_num, by have := HAT.out; omega, by have := HKA.out; omega, H2.out, below_drewN HS.out.2.2.2 _⟩
                          case measure => have := HKA.out; simp [intOf]; omega
                    · have hatI : (nr : Int) ≤ (at_ : Int) := by omega
                      obtain rfl : at_ = nr := by have := HS.out.1; omega
                      have hatD : decide ((at_ : Int) < (at_ : Int)) = false := decide_eq_false (by omega)
                      have hatE : ((at_ : Int) != (at_ : Int)) = false := by simp
                      clear hat hka
                      go_wp2
                      go_roundw
                      case rel => exact ⟨i + 1, by go_num, by have := HIN.out; omega, HS.out.2.2.2⟩
                      case measure => have := HIN.out; simp [intOf]; omega
                  · have hkI : (ma : Int) ≤ (k : Int) := by omega
                    obtain rfl : at_ = nr := by
                      have h1 := sub_end (by have := HMA.out; omega) HS.out.2.2.1
                      have h2 := HS.out.1
                      have h3 := HRL.out.1
                      omega
                    have hatE : ((at_ : Int) != (at_ : Int)) = false := by simp
                    have hkD : decide ((k : Int) < (ma : Int)) = false := decide_eq_false (by omega)
                    have hkD' : decide (k < ma) = false := decide_eq_false hka
                    clear hka
                    go_wp2
                    go_roundw
                    case rel => exact ⟨i + 1, by go_num, by have := HIN.out; omega, HS.out.2.2.2⟩
                    case measure => have := HIN.out; simp [intOf]; omega
              · have hiI : (n : Int) ≤ (i : Int) := by omega
                go_wp2
                go_ret
                exact ⟨rfl, below_bt H6.out.2 HI.out.2⟩
      · have hF : F ≠ 0 := fun h => hE (HAB.out.2.1.2 h)
        have e1 : ((E : Int) != 0) = true := by simp; omega
        have e1' : ((E : Int) == 0) = false := by simp; omega
        have e2 : ((F : Int) != 0) = true := by simp; omega
        have e2' : ((F : Int) == 0) = false := by simp; omega
        clear hE hF
        go_wp2
        go_ret
        exact ⟨rfl, H5.out.2.2⟩

/-! ### THE ROW's STEP -/
set_option maxRecDepth 100000 in
theorem lifted (os : Os) (started : os.Started) (H : Type) (enc : TypeId × Value → H) :
    ReturnsInHanded {} Try.checked os 6 .any (Rows.mergeAnySpec.pre6 enc Try.prog Try.f6 Rows.mergeAnyRow.domain false) (Rows.mergeAnySpec.post enc Try.prog Try.f6 false true false false) := by
  refine returnsInHanded_of_change_sized (C := Try.checked) own started (by kernel_rfl) Try.func6
    (ChangeSpec.witness6 (enc := enc) (C := Try.checked) false ⟨#[], #[.slice none 0 0], []⟩ 8 (by kernel_rfl) (by kernel_rfl) (by kernel_rfl) (by kernel_rfl)) ?_
  intro W base args ds gs before hval0 hW hcnd hsz0 _
  have hval : ∀ (j : Nat) t v, Try.f6.params[j]? = some t → args[j]? = some v → Value.okWide Try.prog W .any base t v := hval0
  have hW' := hW
  obtain ⟨p, q, hA0, hV, rfl, hfz, hnd⟩ := hW
  have hA : DataW.TrodAll enc Try.prog W 0 (fun _ => true) true Try.f6.params.toList args.toList ds p := hA0
  have hsz : (DataW.weightsEach Try.prog (Try.f6.params.toList ++ Rows.mergeAnySpec.plain.varTypes Try.prog) (ds ++ gs)).all (· ≤ reachBytes) = true := hsz0
  rw [Try.params6] at hA hval hsz
  obtain ⟨v0, vs0, d0, ds0, p0, q0, hargs, rfl, rfl, h0, r0⟩ := trodAll_cons hA
  obtain ⟨rfl, rfl, rfl⟩ := trodAll_nil r0
  obtain rfl : args = #[v0] := by cases args; simp_all
  obtain ⟨rfl, rfl⟩ := trodVars_none hV
  have k0 := h0
  have lt0 : ∀ x ∈ p0, x.block < W.heap.size := by obtain ⟨m, hm⟩ := k0; exact DataW.trod_lt m _ _ _ hm
  obtain ⟨qa0, la0, ca0, rfl⟩ := okWide_slice Try.underlying26 (hval 0 26 v0 rfl rfl)
  obtain ⟨fu0, hf0⟩ := h0
  obtain ⟨R0, w0⟩ := open_rows Try.underlying26 (by kernel_rfl) Try.underlying25 Try.underlying23 (by kernel_rfl) rfl rfl rfl rfl (by kernel_rfl) (by kernel_rfl) (by kernel_rfl) (by kernel_rfl) Try.underlying9 Try.underlying9 Try.underlying3 Try.underlying4 (by kernel_rfl) hf0 (fun k hk => by simpa using List.all_eq_true.1 hsz k (DataW.weights_mem_each (j := 0) (t := 26) rfl rfl k hk))
  clear hA0 hval0
  refine (walk (.slice qa0 la0 ca0) R0 W w0).mono fun e W' ⟨he, bel⟩ => ?_
  subst he
  exact ⟨_, rfl, _, _, _, [], _, [], hW', trodAll_mk1 (shut_bool Try.underlying4 _), (trodAll_cons_mk (Below.trod laidOut (by kernel_rfl) (of_decide_eq_true (by kernel_rfl)) k0 bel lt0) trodAll_mk0), rfl, bel.frame _, fun h => by cases h⟩

theorem over : Rows.mergeAnyRow.holds Try.pinned (OpenSpec.ofChange Rows.mergeAnySpec) :=
  OpenClaim.holds_of_wide 6 Try.f6 rfl rfl rfl rfl rfl rfl rfl ⟨rfl, rfl, rfl, rfl, rfl⟩ rfl rfl rfl rfl rfl (by kernel_rfl) Try.func6 (by kernel_rfl)
    (of_decide_eq_true (by kernel_rfl)) (by unfold Func.isWrapper; first | (rw [if_pos (by decide +kernel)]; kernel_rfl) | (rw [if_neg (by decide +kernel)]; exact ⟨rfl, rfl⟩))
    (fun os started H enc _ => lifted os started H enc)

theorem proved : Rows.MergeAnySaid := over
end Go.Proofs.Ytbnacopefclklaa.mergeAny
namespace Go.Proofs.Ytbnacopefclklaa
theorem mergeAny_holds : Rows.MergeAnySaid := mergeAny.proved
#print axioms mergeAny_holds
end Go.Proofs.Ytbnacopefclklaa
