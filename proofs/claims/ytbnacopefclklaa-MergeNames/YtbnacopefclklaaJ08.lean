/-
  The law MergeNames answers true: the errors have their numbers, and the chapter's examples are so.
-/
import Derived.Test.YtbnacopefclklaaJ07
import Derived.SizedLaws
import Derived.Deep.Slices
import Derived.Test.YtbnacopefclklaaRows
import Derived.WalkKit
import Derived.ProofKit
import Derived.OpenShut
import Derived.ShutString
import Derived.ChangeOld
import Derived.Below
namespace Go.Proofs.Ytbnacopefclklaa
open Go.RowKit Go.WideShapes

set_option maxRecDepth 8000 in
set_option maxHeartbeats 4000000 in
theorem Thin_any (q : Option Addr) (n c : Nat) (A : List EntV) (s : Int) (last : Bool) (w : World) (h : EntsL w q n A) (hnc : n ≤ c) (hnb : (n : Int) ≤ 9223372036854775807) (L : List EntV) (E : Nat) (hE : thinF A s last = (L, E)) :
    Calls Try.prog 11 #[.slice q n c, .int .i64 s, .bool last] w fun e w' => ∃ v, e = .returned (.tuple #[v, .int .i64 (E : Int)]) ∧ OnB w v L w' := by
  obtain ⟨F, hF⟩ : ∃ F, thinErr A = F := ⟨_, rfl⟩
  have HAL := checkRising_any q n c A w h hnc hnb F hF
  have HE : Hid ((if F ≠ 0 then ([], F) else if 0 ≤ s ∧ s ≤ 2147483647 then (thinE A s last, 0) else ([], 2)) = (L, E)) := by
    show _ = _
    rw [← hE]
    unfold thinF
    rw [hF]
  have HF : Hid (thinErr A = F) := hF
  obtain ⟨bs, hbs⟩ : ∃ bs, decide (0 ≤ s ∧ s ≤ 2147483647) = bs := ⟨_, rfl⟩
  have HIS := fun w' => isSeq_any s w' bs hbs
  have HBS : Hid (decide (0 ≤ s ∧ s ≤ 2147483647) = bs) := hbs
  have HQ : Hid (EntsIn w q A ∧ n = A.length) := ⟨h.lies, h.n⟩
  clear h hnb hE hF hbs hnc
  go_enter Try.func11, Try.ntmps11
  go_wp2_with fail
  refine HAL.mono ?_
  rintro e w1 ⟨rfl, hb1⟩
  have H1 : Hid (EntsIn w1 q A ∧ Below w.heap.size w w1) := ⟨HQ.out.1.below hb1, hb1⟩
  clear HAL hb1
  by_cases hF : F = 0
  · subst hF
    obtain ⟨r1, r2, r3⟩ := thinErr_zero.1 HF.out
    have HR : Hid (RiseE A ∧ A.length ≤ 16384) := ⟨r3, r1⟩
    have HM : Hid (A.length = n) := HQ.out.2.symm
    have mI : (n : Int) ≤ 16384 := by have := HR.out; have := HM.out; omega
    clear r1 r2 r3
    cases bs with
    | false =>
      have hv := HE.out
      rw [if_neg (by simp), if_neg (of_decide_eq_false HBS.out), Prod.mk.injEq] at hv
      obtain ⟨rfl, rfl⟩ := hv
      go_wp2_with fail
      refine (HIS _).mono ?_
      rintro e w2 ⟨rfl, hw2⟩
      have hw2 := hw2.symm
      subst hw2
      go_wp2
      go_ret2
      exact ⟨_, rfl, eown_nil _ _, H1.out.2⟩
    | true =>
      have hv := HE.out
      rw [if_neg (by simp), if_pos (of_decide_eq_true HBS.out), Prod.mk.injEq] at hv
      obtain ⟨hv, rfl⟩ := hv
      have HV : Hid (thinE A s last = L) := hv
      clear hv
      go_wp2_with fail
      refine (HIS _).mono ?_
      rintro e w2 ⟨rfl, hw2⟩
      have hw2 := hw2.symm
      subst hw2
      clear HIS
      go_wp2
      go_loopw [9, 22] (fun s9 s22 wr => ∃ k : Nat, s22 = .int .i64 (k : Int) ∧ k ≤ n ∧ EOwn wr w1.heap.size s9 (pickE (fun i => thinAt A i s last) A k) ∧ Below w1.heap.size w1 wr) (fun _ s22 _ => n - (intOf s22).toNat)
      case atStart => exact ⟨0, rfl, by omega, eown_nil _ _, Below.refl _ _⟩
      case round =>
        obtain ⟨k, rfl, hk, ho, hbel⟩ := hrel
        obtain ⟨qo, co, rfl, _, _, _⟩ := ho.form
        have HO : Hid (EOwn wr w1.heap.size (.slice qo (pickE (fun i => thinAt A i s last) A k).length co) (pickE (fun i => thinAt A i s last) A k) ∧ Below w1.heap.size w1 wr) := ⟨ho, hbel⟩
        obtain ⟨P, hP⟩ : ∃ P, pickE (fun i => thinAt A i s last) A k = P := ⟨_, rfl⟩
        have HP : Hid (pickE (fun i => thinAt A i s last) A k = P ∧ P.length ≤ 16384) := ⟨hP, by rw [← hP]; have := pickE_len (fun i => thinAt A i s last) A k; have := HR.out; have := HM.out; omega⟩
        rw [hP] at HO ⊢
        obtain ⟨lp, hlp⟩ : ∃ lp, P.length = lp := ⟨_, rfl⟩
        have HLP : Hid (P.length = lp) := hlp
        rw [hlp] at HO ⊢
        clear hP hlp ho hbel
        by_cases hkm : k < n
        · have hkI : (k : Int) < (n : Int) := by omega
          have k0 : (0 : Int) ≤ (k : Int) := by omega
          have HKM : Hid (k < n) := hkm
          have hen := H1.out.1.below HO.out.2
          obtain ⟨b, o, rfl⟩ := hen.addr (by have := HM.out; omega)
          obtain ⟨x0, x1, x2, x3⟩ := hen.at (k := k) (by have := HM.out; omega)
          obtain ⟨⟨ke, ve, se, de⟩, hx⟩ : ∃ x, A.getD k zeroE = x := ⟨_, rfl⟩
          rw [hx] at x0 x1 x2 x3
          simp only at x0 x1 x2 x3
          have HX : Hid (A.getD k zeroE = ⟨ke, ve, se, de⟩) := hx
          obtain ⟨r, hr⟩ : ∃ r, newAt A k s = r := ⟨_, rfl⟩
          have HNW := isNewest_any (some ⟨b, o, none⟩) n c A (wr.alloc (.cells #[.string ke, .string ve, .int .i64 se, .bool de] 23)) ⟨HM.out.symm, hen.below (below_alloc _ _)⟩ k (by have := HM.out; omega) (by omega) s r hr
          have HCA : Hid (thinAt A k s last = (decide (s < se) || (r && !(de && last)))) := by show _ = _; unfold thinAt; rw [hr, hx]
          clear hen hx hkm hk hr
          by_cases hse : s < se
          · have g1 : decide (s < se) = true := decide_eq_true hse
            have HT : Hid (thinAt A k s last = true) := by show _ = _; rw [HCA.out, g1]; rfl
            have HB3 : Hid (Below wr.heap.size wr (wr.alloc (.cells #[.string ke, .string ve, .int .i64 se, .bool de] 23))) := below_alloc _ _
            have HA3 : Hid (EOwn ((wr.alloc (.cells #[.string ke, .string ve, .int .i64 se, .bool de] 23)).alloc (.cells #[.string ke, .string ve, .int .i64 se, .bool de] 23)) w1.heap.size (.slice qo lp co) P ∧ w1.heap.size ≤ ((wr.alloc (.cells #[.string ke, .string ve, .int .i64 se, .bool de] 23)).alloc (.cells #[.string ke, .string ve, .int .i64 se, .bool de] 23)).heap.size ∧ Below w1.heap.size w1 ((wr.alloc (.cells #[.string ke, .string ve, .int .i64 se, .bool de] 23)).alloc (.cells #[.string ke, .string ve, .int .i64 se, .bool de] 23))) := ⟨(HO.out.1.below HB3.out).below (below_alloc _ _), (below_bt (below_bt HO.out.2 HB3.out) (below_alloc _ _)).size, below_bt (below_bt HO.out.2 HB3.out) (below_alloc _ _)⟩
            have HE1 : Hid (EntsIn ((wr.alloc (.cells #[.string ke, .string ve, .int .i64 se, .bool de] 23)).alloc (.cells #[.string ke, .string ve, .int .i64 se, .bool de] 23)) (some ⟨wr.heap.size + 1, 0, none⟩) [⟨ke, ve, se, de⟩]) := by
              have h := ents_new (wr.alloc (.cells #[.string ke, .string ve, .int .i64 se, .bool de] 23)) ke ve se de
              (try rw [show (wr.alloc (.cells #[.string ke, .string ve, .int .i64 se, .bool de] 23)).heap.size = wr.heap.size + 1 by simp] at h)
              exact h
            have HPK : Hid (pickE (fun i => thinAt A i s last) A (k + 1) = P ++ [⟨ke, ve, se, de⟩]) := by
              show _ = _
              rw [pickE_yes (p := fun i => thinAt A i s last) HT.out, HX.out, HP.out.1]
            go_wp2_with (at_builtin; go_loud ((refine wpList_append_two _ rfl _ _ rfl w1.heap.size (.slice qo lp co) P [⟨ke, ve, se, de⟩] (some ⟨wr.heap.size + 1, 0, none⟩) 1 1 rfl rfl rfl HA3.out.1 HE1.out (fun h => by cases h) (by have := HP.out.2; simp only [List.length_cons, List.length_nil]; omega) HA3.out.2.1 ?_); intro v5 w5 ho5 hg5; have H5 : Hid _ := And.intro ho5 (ents_grownE HA3.out.1 hg5 HA3.out.2.2 (Nat.le_refl _)); clear ho5 hg5))
            go_roundw
            case rel => exact ⟨k + 1, by go_num, by have := HKM.out; omega, by rw [HPK.out]; exact H5.out.1, H5.out.2⟩
            case measure => have := HKM.out; simp [intOf]; omega
          · have g1 : decide (s < se) = false := decide_eq_false hse
            have g2 : se ≤ s := by omega
            go_wp2_with fail
            refine HNW.mono ?_
            rintro e w3 ⟨rfl, hb3⟩
            have hbk : w3.heap[wr.heap.size]? = some (.cells #[.string ke, .string ve, .int .i64 se, .bool de] 23 (0, 0)) := block_belowR (heap_alloc_new _ _) hb3
            have HB3 : Hid (Below wr.heap.size wr w3) := below_bt (below_alloc _ _) hb3
            obtain ⟨z0, z1, z2, z3⟩ := four_cells hbk
            clear hb3 HNW hbk
            have HCB : Hid (thinAt A k s last = (r && !(de && last))) := by show _ = _; rw [HCA.out, g1, Bool.false_or]
            have HNO : Hid (thinAt A k s last = false → EOwn w3 w1.heap.size (.slice qo lp co) (pickE (fun i => thinAt A i s last) A (k + 1)) ∧ Below w1.heap.size w1 w3) := by
              intro hno
              rw [pickE_no (p := fun i => thinAt A i s last) hno, HP.out.1]
              exact ⟨HO.out.1.below HB3.out, below_bt HO.out.2 HB3.out⟩
            cases r with
            | false =>
              have H2 := HNO.out (by rw [HCB.out]; rfl)
              have H2' : Hid _ := H2
              clear H2
              go_wp2
              go_roundw
              case rel => exact ⟨k + 1, by go_num, by have := HKM.out; omega, H2'.out⟩
              case measure => have := HKM.out; simp [intOf]; omega
            | true =>
              cases de with
              | false =>
                have HT : Hid (thinAt A k s last = true) := by show _ = _; rw [HCB.out]; rfl
                have HA3 : Hid (EOwn ((w3).alloc (.cells #[.string ke, .string ve, .int .i64 se, .bool false] 23)) w1.heap.size (.slice qo lp co) P ∧ w1.heap.size ≤ ((w3).alloc (.cells #[.string ke, .string ve, .int .i64 se, .bool false] 23)).heap.size ∧ Below w1.heap.size w1 ((w3).alloc (.cells #[.string ke, .string ve, .int .i64 se, .bool false] 23))) := ⟨(HO.out.1.below HB3.out).below (below_alloc _ _), (below_bt (below_bt HO.out.2 HB3.out) (below_alloc _ _)).size, below_bt (below_bt HO.out.2 HB3.out) (below_alloc _ _)⟩
                have HE1 : Hid (EntsIn ((w3).alloc (.cells #[.string ke, .string ve, .int .i64 se, .bool false] 23)) (some ⟨w3.heap.size, 0, none⟩) [⟨ke, ve, se, false⟩]) := by
                  have h := ents_new (w3) ke ve se false
                  (try rw [show (w3).heap.size = wr.heap.size + 1 by simp] at h)
                  exact h
                have HPK : Hid (pickE (fun i => thinAt A i s last) A (k + 1) = P ++ [⟨ke, ve, se, false⟩]) := by
                  show _ = _
                  rw [pickE_yes (p := fun i => thinAt A i s last) HT.out, HX.out, HP.out.1]
                go_wp2_with (at_builtin; go_loud ((refine wpList_append_two _ rfl _ _ rfl w1.heap.size (.slice qo lp co) P [⟨ke, ve, se, false⟩] (some ⟨w3.heap.size, 0, none⟩) 1 1 rfl rfl rfl HA3.out.1 HE1.out (fun h => by cases h) (by have := HP.out.2; simp only [List.length_cons, List.length_nil]; omega) HA3.out.2.1 ?_); intro v5 w5 ho5 hg5; have H5 : Hid _ := And.intro ho5 (ents_grownE HA3.out.1 hg5 HA3.out.2.2 (Nat.le_refl _)); clear ho5 hg5))
                go_roundw
                case rel => exact ⟨k + 1, by go_num, by have := HKM.out; omega, by rw [HPK.out]; exact H5.out.1, H5.out.2⟩
                case measure => have := HKM.out; simp [intOf]; omega
              | true =>
                cases last with
                | true =>
                  have H2 := HNO.out (by rw [HCB.out]; rfl)
                  have H2' : Hid _ := H2
                  clear H2
                  go_wp2
                  go_roundw
                  case rel => exact ⟨k + 1, by go_num, by have := HKM.out; omega, H2'.out⟩
                  case measure => have := HKM.out; simp [intOf]; omega
                | false =>
                  have HT : Hid (thinAt A k s false = true) := by show _ = _; rw [HCB.out]; rfl
                  have HA3 : Hid (EOwn ((w3).alloc (.cells #[.string ke, .string ve, .int .i64 se, .bool true] 23)) w1.heap.size (.slice qo lp co) P ∧ w1.heap.size ≤ ((w3).alloc (.cells #[.string ke, .string ve, .int .i64 se, .bool true] 23)).heap.size ∧ Below w1.heap.size w1 ((w3).alloc (.cells #[.string ke, .string ve, .int .i64 se, .bool true] 23))) := ⟨(HO.out.1.below HB3.out).below (below_alloc _ _), (below_bt (below_bt HO.out.2 HB3.out) (below_alloc _ _)).size, below_bt (below_bt HO.out.2 HB3.out) (below_alloc _ _)⟩
                  have HE1 : Hid (EntsIn ((w3).alloc (.cells #[.string ke, .string ve, .int .i64 se, .bool true] 23)) (some ⟨w3.heap.size, 0, none⟩) [⟨ke, ve, se, true⟩]) := by
                    have h := ents_new (w3) ke ve se true
                    (try rw [show (w3).heap.size = wr.heap.size + 1 by simp] at h)
                    exact h
                  have HPK : Hid (pickE (fun i => thinAt A i s false) A (k + 1) = P ++ [⟨ke, ve, se, true⟩]) := by
                    show _ = _
                    rw [pickE_yes (p := fun i => thinAt A i s false) HT.out, HX.out, HP.out.1]
                  go_wp2_with (at_builtin; go_loud ((refine wpList_append_two _ rfl _ _ rfl w1.heap.size (.slice qo lp co) P [⟨ke, ve, se, true⟩] (some ⟨w3.heap.size, 0, none⟩) 1 1 rfl rfl rfl HA3.out.1 HE1.out (fun h => by cases h) (by have := HP.out.2; simp only [List.length_cons, List.length_nil]; omega) HA3.out.2.1 ?_); intro v5 w5 ho5 hg5; have H5 : Hid _ := And.intro ho5 (ents_grownE HA3.out.1 hg5 HA3.out.2.2 (Nat.le_refl _)); clear ho5 hg5))
                  go_roundw
                  case rel => exact ⟨k + 1, by go_num, by have := HKM.out; omega, by rw [HPK.out]; exact H5.out.1, H5.out.2⟩
                  case measure => have := HKM.out; simp [intOf]; omega
        · have hkI : (n : Int) ≤ (k : Int) := by omega
          have HZ : Hid (P = L ∧ EOwn wr w.heap.size (.slice qo lp co) P ∧ Below w.heap.size w wr) := by
            refine ⟨?_, own_base HO.out.1 H1.out.2.size, below_bt H1.out.2 HO.out.2⟩
            rw [← HV.out, ← pick_thin HR.out.1 s last, ← HP.out.1, HM.out]
            have : k = n := by omega
            rw [this]
          clear hkm hk
          go_wp2
          go_ret2
          exact ⟨_, rfl, by rw [← HZ.out.1]; exact HZ.out.2.1, HZ.out.2.2⟩
  · have e1 : ((F : Int) != 0) = true := by simp; omega
    have e1' : ((F : Int) == 0) = false := by simp; omega
    have hv := HE.out
    rw [if_pos hF, Prod.mk.injEq] at hv
    obtain ⟨rfl, rfl⟩ := hv
    clear hF
    go_wp2
    go_ret2
    exact ⟨_, rfl, eown_nil _ _, H1.out.2⟩
end Go.Proofs.Ytbnacopefclklaa
namespace Go.Proofs.Ytbnacopefclklaa
open Go.RowKit Go.WideShapes Go.ChangeShapes Go.Deep Go.Joins

/-- Rows that are handed in. -/
structure RowsA (w : World) (v : Value) (R : List RV) : Prop where
  lies : ∃ q c, v = .slice q R.length c ∧ RowsL w q R.length R ∧ R.length ≤ c ∧ c ≤ maxLen ∧ (q = none → c = 0)
  small : ∀ r ∈ R, r.n ≤ 3000000000000
section
variable {P : Program} {w : World} {H : Type} {enc : TypeId × Value → H}
theorem weightsAll_memR {e : TypeId} {l : List (DataW H)} {d : DataW H} (hd : d ∈ l) {k : Nat} (hk : k ∈ d.weights P e) : k ∈ DataW.weightsAll P e l := by
  induction l with
  | nil => cases hd
  | cons a l ih =>
    simp only [DataW.weightsAll, List.mem_append]
    rcases List.mem_cons.1 hd with rfl | h
    · exact .inl hk
    · exact .inr (ih h)
theorem ents_sized {t e : TypeId} {n : Nat} {q : Option Addr} {nn cc : Nat} {x : DataW H × List MemPlace} (ht : P.underlying t = some (.slice e)) (hby : P.bytesOf e = 48)
    (h : DataW.trod enc P w 0 (fun _ => true) true n t [.slice q nn cc] = some x) (hw : ∀ k ∈ x.1.weights P t, k ≤ reachBytes) : nn ≤ 3000000000000 := by
  rcases open_slice ht h with ⟨hcs, _⟩ | ⟨a, len, cap, m, k, D, Pl, hcs, _, hl, hm, hmm, rfl, hel⟩
  · simp only [List.cons.injEq, Value.slice.injEq, and_true] at hcs
    omega
  · simp only [List.cons.injEq, Value.slice.injEq, and_true] at hcs
    have hmc : m = cap := by simpa using hmm
    have := hw _ (by simp only [DataW.weights, ht]; exact List.mem_cons_self)
    simp only [List.length_map, List.length_range, hby] at this
    have hr : reachBytes = 140737488351232 := rfl
    omega
theorem open_rows {t e ee : TypeId} {f0 f1 f2 f3 : Field} {n : Nat} {v : Value} {x : DataW H × List MemPlace} (ht : P.underlying t = some (.slice e)) (ce1 : P.cellsOf e = 1) (hte : P.underlying e = some (.slice ee)) (he : P.underlying ee = some (.struct #[f0, f1, f2, f3])) (ce : P.cellsOf ee = 4)
    (o0 : f0.offset = 0) (o1 : f1.offset = 1) (o2 : f2.offset = 2) (o3 : f3.offset = 3) (c0 : P.cellsOf f0.type = 1) (c1 : P.cellsOf f1.type = 1) (c2 : P.cellsOf f2.type = 1) (c3 : P.cellsOf f3.type = 1) (k0 : P.underlying f0.type = some .string) (k1 : P.underlying f1.type = some .string) (k2 : P.underlying f2.type = some (.int .i64)) (k3 : P.underlying f3.type = some .bool) (hby : P.bytesOf ee = 48)
    (h : DataW.trod enc P w 0 (fun _ => true) true n t [v] = some x) (hw : ∀ k ∈ x.1.weights P t, k ≤ reachBytes) : ∃ R, RowsA w v R := by
  rcases open_slice ht h with ⟨hcs, _⟩ | ⟨a, len, cap, m, k, D, Pl, hcs, _, hl, hm, hmm, rfl, hel⟩
  · simp only [List.cons.injEq, and_true] at hcs
    exact ⟨[], ⟨none, 0, hcs, ⟨rfl, fun h => absurd h (by simp), by simp⟩, by simp, by unfold maxLen; omega, fun _ => rfl⟩, by simp⟩
  · simp only [List.cons.injEq, and_true] at hcs
    have hmc : m = cap := by simpa using hmm
    have each : ∀ i, i < len → ∃ r : RV, w.cell? (a.add i) = some (rvV r) ∧ RowOk w r ∧ r.n ≤ 3000000000000 := by
      intro i hi
      obtain ⟨cs', g1, g2⟩ := hel i (by omega)
      rw [ce1, Nat.mul_one] at g1
      obtain ⟨_, hlen, hcell⟩ := World.cells?_some g1
      match cs', hlen with
      | [v0], _ =>
        obtain ⟨l, hl0⟩ := open_entries hte he ce o0 o1 o2 o3 c0 c1 c2 c3 k0 k1 k2 k3 g2
        obtain ⟨q, c, rfl, hin, hlc, hcm, hq⟩ := hl0.lies
        have e0 := hcell 0 (by omega)
        rw [add_add] at e0
        have hs := ents_sized hte hby g2 (fun k' hk' => hw k' (by
          simp only [DataW.weights, ht, List.mem_cons, List.mem_append]
          exact .inr (.inl (weightsAll_memR (d := D i) (List.mem_map.2 ⟨i, List.mem_range.2 hi, rfl⟩) hk'))))
        exact ⟨⟨q, l.length, c, l⟩, by show _ = some (Value.slice q l.length c); simpa using e0, ⟨rfl, hin, hlc, hcm, hq⟩, hs⟩
    haveI : Inhabited RV := ⟨zR⟩
    obtain ⟨f, hf⟩ := choose_lt each
    have hlen : ((List.range len).map f).length = len := by simp
    have hget : ∀ i, i < len → ((List.range len).map f).getD i zR = f i := by intro i hi; simp [List.getD, hi]
    refine ⟨(List.range len).map f, ⟨some a, cap, by rw [hlen]; exact hcs, ⟨rfl, fun hp => ?_, ?_⟩, by rw [hlen]; exact hl, hm, by simp⟩, ?_⟩
    · rw [hlen] at hp
      obtain ⟨b, o, s⟩ := a
      obtain rfl : s = none := by
        have := World.cell?_spot (hf 0 (by omega)).1
        simpa [Addr.add] using this
      refine ⟨b, o, rfl, fun i hi => ?_⟩
      rw [hlen] at hi
      have e0 := (hf i hi).1
      rw [hget i hi]
      rw [add_plain] at e0
      exact e0
    · intro r hr
      simp only [List.mem_map, List.mem_range] at hr
      obtain ⟨i, hi, rfl⟩ := hr
      exact (hf i hi).2.1
    · intro r hr
      simp only [List.mem_map, List.mem_range] at hr
      obtain ⟨i, hi, rfl⟩ := hr
      exact (hf i hi).2.2
end
end Go.Proofs.Ytbnacopefclklaa
namespace Go.Proofs.Ytbnacopefclklaa
open Go.RowKit Go.WideShapes

theorem of_any (k : ByteArray) (s : Int) (w : World) : Calls Try.prog 9 #[.string k, .int .i64 s] w fun e w' => e = .returned (.agg #[.string k, .string ⟨#[]⟩, .int .i64 s, .bool false]) ∧ Below w.heap.size w w' := by
  go_enter Try.func9, Try.ntmps9
  go_wp2
  (try simp only [Exit.inBlock, Exit.then])
  refine bodyPost_ret (v := .agg #[.string k, .string ⟨#[]⟩, .int .i64 s, .bool false]) ?_ rfl ⟨rfl, ?_⟩
  · rw [results_cell1 rfl]
    go_simp
    try rfl
  · exact below_alloc _ _
set_option maxRecDepth 8000 in
set_option maxHeartbeats 1000000 in
theorem same_yes (qa qb : Option Addr) (n ca cb : Nat) (l : List EntV) (w : World) (hn : n = l.length) (hnb : (n : Int) ≤ 1000000) (ha : EntsIn w qa l) (hb : EntsIn w qb l) :
    Calls Try.prog 15 #[.slice qa n ca, .slice qb n cb] w fun e w' => e = .returned (.bool true) ∧ Below w.heap.size w w' := by
  have HA : Hid (EntsIn w qa l) := ha
  have HB : Hid (EntsIn w qb l) := hb
  have HN : Hid (n = l.length) := hn
  clear ha hb hn
  go_enter Try.func15, Try.ntmps15
  go_wp2
  go_loopw [5] (fun i wr => ∃ k : Nat, k ≤ n ∧ i = .int .i64 k ∧ Below w.heap.size w wr) (fun i _ => n - (intOf i).toNat)
  case atStart => exact ⟨0, by omega, rfl, Below.refl _ _⟩
  case round =>
    obtain ⟨k, hk, rfl, hbel⟩ := hrel
    have HBE : Hid (Below w.heap.size w wr) := hbel
    clear hbel
    by_cases hkn : k < n
    · have g1 : decide (k < n) = true := decide_eq_true hkn
      have hkI : (k : Int) < (n : Int) := by omega
      obtain ⟨ba, oa, rfl⟩ := HA.out.addr (by have := HN.out; omega)
      obtain ⟨bb, ob, rfl⟩ := HB.out.addr (by have := HN.out; omega)
      obtain ⟨x, hx⟩ : ∃ x, l.getD k zeroE = x := ⟨_, rfl⟩
      obtain ⟨x0, x1, x2, x3⟩ := (HA.out.below HBE.out).at (k := k) (by have := HN.out; omega)
      obtain ⟨y0, y1, y2, y3⟩ := (HB.out.below HBE.out).at (k := k) (by have := HN.out; omega)
      rw [hx] at x0 x1 x2 x3 y0 y1 y2 y3
      obtain ⟨kx, vx, sx, gx⟩ := x
      simp only at x0 x1 x2 x3 y0 y1 y2 y3
      clear hx
      go_wp2
      go_quiet (fail)
      go_wp2
      go_roundw
      case rel => exact ⟨k + 1, by omega, by go_num, below_drewN HBE.out _⟩
      case measure => simp [intOf]; omega
    · have g1 : decide (k < n) = false := decide_eq_false hkn
      have hkI : (n : Int) ≤ (k : Int) := by omega
      go_wp2
      go_ret
      exact ⟨rfl, HBE.out⟩
def eK (k : ByteArray) (s : Int) : EntV := ⟨k, ByteArray.empty, s, false⟩
/-- Entries in a block of their own. -/
theorem ents_blk {w : World} {g : Nat} {l : List EntV} {t : TypeId} {fr : Nat × Nat} (h : w.heap[g]? = some (.cells (cellsE l).toArray t fr)) : EntsIn w (some ⟨g, 0, none⟩) l := by
  intro _
  refine ⟨g, 0, rfl, fun i hi => ?_⟩
  obtain ⟨c0, c1, c2, c3⟩ := cellsE_at l i hi
  have hc : ∀ j, w.cell? ⟨g, 0 + j, none⟩ = (cellsE l)[j]? := fun j => by rw [cell_of_row w g (0 + j) _ t fr h]; simp
  exact ⟨by rw [hc, c0], by rw [hc, c1], by rw [hc, c2], by rw [hc, c3]⟩
theorem rows_two {w : World} {g : Nat} {r s : RV} {t : TypeId} {fr : Nat × Nat} (h : w.heap[g]? = some (.cells #[rvV r, rvV s] t fr)) (hr : RowOk w r) (hs : RowOk w s) : RowsL w (some ⟨g, 0, none⟩) 2 [r, s] := by
  refine ⟨rfl, fun _ => ⟨g, 0, rfl, fun i hi => ?_⟩, fun x hx => ?_⟩
  · rw [cell_of_row w g (0 + i) _ t fr h]
    simp only [List.length_cons, List.length_nil] at hi
    rcases (by omega : i = 0 ∨ i = 1) with rfl | rfl <;> rfl
  · simp only [List.mem_cons, List.not_mem_nil, or_false] at hx
    rcases hx with rfl | rfl
    · exact hr
    · exact hs
theorem rows_one {w : World} {g : Nat} {r : RV} {t : TypeId} {fr : Nat × Nat} (h : w.heap[g]? = some (.cells #[rvV r] t fr)) (hr : RowOk w r) : RowsL w (some ⟨g, 0, none⟩) 1 [r] := by
  refine ⟨rfl, fun _ => ⟨g, 0, rfl, fun i hi => ?_⟩, fun x hx => ?_⟩
  · rw [cell_of_row w g (0 + i) _ t fr h]
    simp only [List.length_cons, List.length_nil] at hi
    obtain rfl : i = 0 := by omega
    rfl
  · simp only [List.mem_cons, List.not_mem_nil, or_false] at hx
    rw [hx]; exact hr
def aA : ByteArray := ⟨#[97]⟩
def bB : ByteArray := ⟨#[98]⟩
theorem row_alive : allE [[eK aA 1, eK bB 2], [eK aA 3]] = ([eK aA 3, eK aA 1, eK bB 2], 0) := by
  refine (allE_of (L := [eK aA 3, eK aA 1, eK bB 2]) (by decide +kernel) ?_ ?_).1 (by decide +kernel)
  · exact List.perm_append_comm (l₁ := [eK aA 3]) (l₂ := [eK aA 1, eK bB 2])
  · decide +kernel
set_option maxRecDepth 8000 in
set_option maxHeartbeats 2000000 in
theorem alive_any (w : World) : Calls Try.prog 14 #[] w fun e w' => e = .returned (.bool true) ∧ Below w.heap.size w w' := by
  have HO := fun k s w' => of_any k s w'
  go_enter Try.func14, Try.ntmps14
  go_wp2_with fail
  refine (HO _ _ _).mono ?_
  rintro e w1 ⟨rfl, hb1⟩
  go_wp2_with fail
  refine (HO _ _ _).mono ?_
  rintro e w2 ⟨rfl, hb2⟩
  go_wp2_with fail
  refine (HO _ _ _).mono ?_
  rintro e w3 ⟨rfl, hb3⟩
  have g1 := block_belowR (heap_alloc_new w2 (.cells (cellsE [eK aA 1, eK bB 2]).toArray 23)) hb3
  have g1' := block_belowR (block_belowR g1 (below_alloc w3 (.cells (cellsE [eK aA 3]).toArray 23))) (below_alloc (w3.alloc (.cells (cellsE [eK aA 3]).toArray 23)) (.cells #[.slice (some ⟨w2.heap.size, 0, none⟩) 2 2, .slice (some ⟨w3.heap.size, 0, none⟩) 1 1] 25))
  have g2 := block_belowR (heap_alloc_new w3 (.cells (cellsE [eK aA 3]).toArray 23)) (below_alloc (w3.alloc (.cells (cellsE [eK aA 3]).toArray 23)) (.cells #[.slice (some ⟨w2.heap.size, 0, none⟩) 2 2, .slice (some ⟨w3.heap.size, 0, none⟩) 1 1] 25))
  have g3 := heap_alloc_new (w3.alloc (.cells (cellsE [eK aA 3]).toArray 23)) (.cells #[.slice (some ⟨w2.heap.size, 0, none⟩) 2 2, .slice (some ⟨w3.heap.size, 0, none⟩) 1 1] 25)
  rw [show (w3.alloc (.cells (cellsE [eK aA 3]).toArray 23)).heap.size = w3.heap.size + 1 by simp] at g3
  have hR := rows_two (r := ⟨some ⟨w2.heap.size, 0, none⟩, 2, 2, [eK aA 1, eK bB 2]⟩) (s := ⟨some ⟨w3.heap.size, 0, none⟩, 1, 1, [eK aA 3]⟩) g3 ⟨rfl, ents_blk g1', Nat.le_refl _, by show 2 ≤ maxLen; unfold maxLen; omega, fun h => by cases h⟩ ⟨rfl, ents_blk g2, Nat.le_refl _, by show 1 ≤ maxLen; unfold maxLen; omega, fun h => by cases h⟩
  have HAL := All_any (some ⟨w3.heap.size + 1, 0, none⟩) 2 2 _ _ hR (by omega) _ _ row_alive
  have HB4 : Hid (Below w.heap.size w ((w3.alloc (.cells (cellsE [eK aA 3]).toArray 23)).alloc (.cells #[.slice (some ⟨w2.heap.size, 0, none⟩) 2 2, .slice (some ⟨w3.heap.size, 0, none⟩) 1 1] 25))) := below_bt (below_bt (below_bt (below_bt (below_bt hb1 hb2) (below_alloc _ _)) hb3) (below_alloc _ _)) (below_alloc _ _)
  clear g1 g1' g2 g3 hR hb1 hb2 hb3
  go_wp2_with fail
  refine HAL.mono ?_
  rintro e w5 ⟨v5, rfl, h5⟩
  obtain ⟨q5, m5, rfl, _, _, _⟩ := h5.own.form
  have H5 : Hid (EntsIn w5 q5 [eK aA 3, eK aA 1, eK bB 2] ∧ Below w.heap.size w w5) := ⟨h5.own.ents, below_bt HB4.out h5.bel⟩
  rw [show [eK aA 3, eK aA 1, eK bB 2].length = 3 from rfl]
  clear HAL h5 HB4
  go_wp2_with fail
  refine (HO _ _ _).mono ?_
  rintro e w6 ⟨rfl, hb6⟩
  go_wp2_with fail
  refine (HO _ _ _).mono ?_
  rintro e w7 ⟨rfl, hb7⟩
  go_wp2_with fail
  refine (HO _ _ _).mono ?_
  rintro e w8 ⟨rfl, hb8⟩
  have hb58 := below_bt (below_bt (below_bt hb6 hb7) hb8) (below_alloc w8 (.cells (cellsE [eK aA 3, eK aA 1, eK bB 2]).toArray 23))
  have HS := same_yes q5 (some ⟨w8.heap.size, 0, none⟩) 3 m5 3 [eK aA 3, eK aA 1, eK bB 2] (w8.alloc (.cells (cellsE [eK aA 3, eK aA 1, eK bB 2]).toArray 23)) rfl (by omega) (H5.out.1.below hb58) (ents_blk (heap_alloc_new _ _))
  have HB8 : Hid (Below w.heap.size w (w8.alloc (.cells (cellsE [eK aA 3, eK aA 1, eK bB 2]).toArray 23))) := below_bt H5.out.2 hb58
  clear hb6 hb7 hb8 hb58 HO
  go_wp2_with fail
  refine HS.mono ?_
  rintro e w9 ⟨rfl, hb9⟩
  have HB9 : Hid (Below w.heap.size w w9) := below_bt HB8.out hb9
  clear hb9 HS
  go_wp2
  go_ret
  exact ⟨rfl, HB9.out⟩
def hsum (R : List RV) : Nat → Int
  | 0 => 0
  | k + 1 => IntKind.i64.wrap (hsum R k + ((R.getD k zR).n : Int))
theorem hsum_eq {R : List RV} (hs : ∀ r ∈ R, r.n = r.l.length ∧ r.n ≤ 3000000000000) : ∀ k, k ≤ 100 → k ≤ R.length → hsum R k = ((entsR (R.take k)).length : Int) ∧ (entsR (R.take k)).length ≤ k * 3000000000000
  | 0, _, _ => by simp [hsum, entsR]
  | k + 1, h1, h2 => by
    obtain ⟨i1, i2⟩ := hsum_eq hs k (by omega) (by omega)
    obtain ⟨e1, e2⟩ := hs _ (getR_mem (show k < R.length by omega))
    have hsu := sumR_succ (show k < R.length by omega)
    simp only [hsum]
    rw [i1, hsu, ← e1, IntKind.wrap_i64]
    refine ⟨by omega, by omega⟩
structure HeavyV (R : List RV) (v : Value) : Prop where
  out : ∃ b, v = .bool b ∧ (b = false → R.length ≤ 100 ∧ (entsR R).length ≤ 6000 ∧ ∀ r ∈ R, r.n ≤ 200 ∨ 4096 < r.n)
set_option maxRecDepth 8000 in
set_option maxHeartbeats 2000000 in
theorem heavy_any (q : Option Addr) (n c : Nat) (R : List RV) (w : World) (h : RowsL w q n R) (hsm : ∀ r ∈ R, r.n ≤ 3000000000000) (hnb : (n : Int) ≤ 9223372036854775807) :
    Calls Try.prog 16 #[.slice q n c] w fun e w' => ∃ v, e = .returned v ∧ HeavyV R v ∧ Below w.heap.size w w' := by
  have HL : Hid (RowsL w q n R ∧ ∀ r ∈ R, r.n ≤ 3000000000000) := ⟨h, hsm⟩
  clear h hsm
  go_enter Try.func16, Try.ntmps16
  go_wp2
  go_loopw [3, 4] (fun s3 s4 wr => ∃ k : Nat, s4 = .int .i64 (k : Int) ∧ s3 = .int .i64 (hsum R k) ∧ k ≤ n ∧ (∀ i, i < k → (R.getD i zR).n ≤ 200 ∨ 4096 < (R.getD i zR).n) ∧ wr = w) (fun _ s4 _ => n - (intOf s4).toNat)
  case atStart => exact ⟨0, rfl, rfl, by omega, fun i hi => by omega, rfl⟩
  case round =>
    obtain ⟨k, rfl, rfl, hk, hall, hw⟩ := hrel
    have hw := hw.symm
    subst hw
    have HK : Hid (k ≤ n ∧ ∀ i, i < k → (R.getD i zR).n ≤ 200 ∨ 4096 < (R.getD i zR).n) := ⟨hk, hall⟩
    clear hall
    by_cases hkn : k < n
    · have hkI : (k : Int) < (n : Int) := by omega
      have k0 : (0 : Int) ≤ (k : Int) := by omega
      have kw : IntKind.i64.wrap ((k : Int) + 1) = (k : Int) + 1 := by rw [IntKind.wrap_i64]; omega
      have hkR : k < R.length := by have := HL.out.1.n; omega
      obtain ⟨b, o, rfl, hc⟩ := HL.out.1.at hkR
      obtain ⟨⟨qr, nr, cr, lr⟩, hr⟩ : ∃ r, R.getD k zR = r := ⟨_, rfl⟩
      rw [hr] at hc
      rw [show rvV ⟨qr, nr, cr, lr⟩ = .slice qr nr cr from rfl] at hc
      have HR : Hid (R.getD k zR = ⟨qr, nr, cr, lr⟩ ∧ k < n) := ⟨hr, hkn⟩
      obtain ⟨S, hS⟩ : ∃ S, hsum R k = S := ⟨_, rfl⟩
      obtain ⟨S', hS'⟩ : ∃ S', IntKind.i64.wrap (S + (nr : Int)) = S' := ⟨_, rfl⟩
      have HS : Hid (hsum R (k + 1) = S') := by show _ = _; simp only [hsum]; rw [hS, hr]; exact hS'
      rw [hS]
      clear hr hkR hkn hk hS
      have HN : Hid (nr ≤ 200 ∨ 4096 < nr → ∀ i, i < k + 1 → (R.getD i zR).n ≤ 200 ∨ 4096 < (R.getD i zR).n) := by
        intro hn i hi
        by_cases e : i = k
        · rw [e, HR.out.1]; exact hn
        · exact HK.out.2 i (by omega)
      by_cases h1 : 200 < nr
      · have h1I : (200 : Int) < (nr : Int) := by omega
        by_cases h2 : nr ≤ 4096
        · have h2I : (nr : Int) ≤ 4096 := by omega
          go_wp2
          go_ret
          exact ⟨_, rfl, ⟨true, rfl, fun h => by cases h⟩, Below.refl _ _⟩
        · have h2I : (4096 : Int) < (nr : Int) := by omega
          have h2D : decide ((nr : Int) ≤ 4096) = false := decide_eq_false (by omega)
          have h2D' : decide (nr ≤ 4096) = false := decide_eq_false h2
          have HN2 : Hid (∀ i, i < k + 1 → (R.getD i zR).n ≤ 200 ∨ 4096 < (R.getD i zR).n) := HN.out (by omega)
          clear h2
          go_wp2
          go_roundw
          case rel => exact ⟨k + 1, by go_num, by rw [HS.out], by have := HR.out; omega, HN2.out, trivial⟩
          case measure => have := HR.out; simp [intOf]; omega
      · have h1I : (nr : Int) ≤ (200 : Int) := by omega
        have h1D : decide ((200 : Int) < (nr : Int)) = false := decide_eq_false (by omega)
        have h1D' : decide (200 < nr) = false := decide_eq_false h1
        have HN2 : Hid (∀ i, i < k + 1 → (R.getD i zR).n ≤ 200 ∨ 4096 < (R.getD i zR).n) := HN.out (by omega)
        clear h1
        go_wp2
        go_roundw
        case rel => exact ⟨k + 1, by go_num, by rw [HS.out], by have := HR.out; omega, HN2.out, trivial⟩
        case measure => have := HR.out; simp [intOf]; omega
    · have hkI : (n : Int) ≤ (k : Int) := by omega
      obtain ⟨S, hS⟩ : ∃ S, hsum R k = S := ⟨_, rfl⟩
      have HS : Hid (hsum R k = S ∧ k = n) := ⟨hS, by omega⟩
      rw [hS]
      clear hS hk
      by_cases h1 : 100 < n
      · have h1I : (100 : Int) < (n : Int) := by omega
        go_wp2
        go_ret
        exact ⟨_, rfl, ⟨true, rfl, fun h => by cases h⟩, Below.refl _ _⟩
      · have h1I : (n : Int) ≤ 100 := by omega
        have h1D : decide ((100 : Int) < (n : Int)) = false := decide_eq_false (by omega)
        have h1D' : decide (100 < n) = false := decide_eq_false h1
        have HF : Hid (decide (6000 < S) = false → R.length ≤ 100 ∧ (entsR R).length ≤ 6000 ∧ ∀ r ∈ R, r.n ≤ 200 ∨ 4096 < r.n) := by
          intro hd
          have hn := HL.out.1.n
          have he := (hsum_eq (R := R) (fun r hr => ⟨(HL.out.1.each r hr).n, HL.out.2 r hr⟩) k (by have := HS.out; omega) (by have := HS.out; omega)).1
          rw [List.take_of_length_le (by have := HS.out; omega)] at he
          have h6 : ¬ 6000 < S := of_decide_eq_false hd
          rw [HS.out.1] at he
          refine ⟨by omega, by omega, fun r hr => ?_⟩
          obtain ⟨i, hi, rfl⟩ := List.mem_iff_getElem.1 hr
          have := HK.out.2 i (by have := HS.out; omega)
          rwa [List.getD_eq_getElem?_getD, List.getElem?_eq_getElem hi] at this
        clear h1
        go_wp2
        go_ret
        exact ⟨_, rfl, ⟨_, rfl, HF.out⟩, Below.refl _ _⟩
end Go.Proofs.Ytbnacopefclklaa
namespace Go.Proofs.Ytbnacopefclklaa
open Go.RowKit Go.WideShapes

theorem thinF_ok {l L : List EntV} {s : Int} {last : Bool} {E : Nat} (h : thinF l s last = (L, E)) : (E ≠ 0 ∧ L = []) ∨ (E = 0 ∧ L = thinE l s last ∧ thinErr l = 0 ∧ 0 ≤ s ∧ s ≤ 2147483647) := by
  unfold thinF at h
  by_cases h1 : thinErr l = 0
  · rw [if_neg (fun h => h h1)] at h
    by_cases h2 : 0 ≤ s ∧ s ≤ 2147483647
    · rw [if_pos h2, Prod.mk.injEq] at h
      exact .inr ⟨h.2.symm, h.1.symm, h1, h2⟩
    · rw [if_neg h2, Prod.mk.injEq] at h
      exact .inl ⟨by rw [← h.2]; decide, h.1.symm⟩
  · rw [if_pos h1, Prod.mk.injEq] at h
    exact .inl ⟨by rw [← h.2]; exact h1, h.1.symm⟩
theorem thinErr_thin {l : List EntV} (h : thinErr l = 0) (s : Int) (last : Bool) : thinErr (thinE l s last) = 0 := by
  obtain ⟨h1, h2, h3⟩ := thinErr_zero.1 h
  refine thinErr_zero.2 ⟨Nat.le_trans (List.length_filter_le _ _) h1, fun x hx => h2 x (mem_thinE.1 hx).1, thinE_rise h3 _ _⟩
theorem thinF_twice {l A : List EntV} {s : Int} {last : Bool} (h : thinF l s last = (A, 0)) : thinF A s last = (A, 0) := by
  rcases thinF_ok h with h | ⟨_, h2, h3, h4⟩
  · exact absurd rfl h.1
  · unfold thinF
    rw [h2, if_neg (fun h => h (thinErr_thin h3 s last)), if_pos h4, thin_twice]
theorem thin_step {l : List EntV} {s : Int} {last : Bool} (h : thinErr l = 0) {i : Nat} (hi : i + 1 < (thinE l s last).length) (hk : ((thinE l s last).getD i zeroE).key = ((thinE l s last).getD (i + 1) zeroE).key) : s < ((thinE l s last).getD i zeroE).seq := by
  obtain ⟨_, _, hr⟩ := thinErr_zero.1 h
  have hl := rise_at (thinE_rise hr s last) (show i < i + 1 by omega) hi
  rcases Int.lt_or_le s ((thinE l s last).getD i zeroE).seq with c | c
  · exact c
  · exfalso
    have hs : ((thinE l s last).getD (i + 1) zeroE).seq < ((thinE l s last).getD i zeroE).seq := by
      rcases (lessE_def _ _).1 hl with a | a
      · rw [hk, ltB_irrefl] at a
        cases a
      · exact a.2
    have := thin_one hr (getD_mem' (show i < _ by omega)) (getD_mem' hi) hk c (by omega)
    rw [this] at hs
    omega
/-! ### Two rows, the one of older entries -/
theorem allE_two {a b A : List EntV} {E : Nat} (h : allE [a, b] = (A, E)) (h0 : E = 0) : RiseE A ∧ ∀ x, x ∈ A ↔ x ∈ a ∨ x ∈ b := by
  obtain ⟨h1, h2, _⟩ := allE_ok h h0
  refine ⟨h1, fun x => ?_⟩
  rw [h2.mem_iff]
  simp
theorem allE_one {a A : List EntV} {E : Nat} (h : allE [a] = (A, E)) (h0 : E = 0) : A = a := by
  obtain ⟨h1, h2, h3⟩ := allE_ok h h0
  have hr : RiseE a := ((checkE_rise a).1 ((chkR_zero.1 h3).2.1 a (by simp))).2.2
  exact riseE_ext h1 hr (fun x => by rw [h2.mem_iff]; simp)
theorem chk_one {a : List EntV} (h : checkE a = 0) : chkR [a] = 0 := by
  obtain ⟨h1, _⟩ := (checkE_rise a).1 h
  exact chkR_zero.2 ⟨by simp, by simpa using h, by simp; omega⟩
theorem chk_two {a b : List EntV} (h : checkE a = 0) (h' : checkE b = 0) : chkR [a, b] = 0 := by
  obtain ⟨h1, _⟩ := (checkE_rise a).1 h
  obtain ⟨h2, _⟩ := (checkE_rise b).1 h'
  exact chkR_zero.2 ⟨by simp, by simpa using ⟨h, h'⟩, by simp; omega⟩
theorem all_single {a : List EntV} (h : checkE a = 0) : allE [a] = (a, 0) := by
  have hr := ((checkE_rise a).1 h).2.2
  exact (allE_of (chk_one h) (by simp) (rise_weak hr)).1 hr
/-- Two rows may be one just if no entry of the one has key and number of one of the other. -/
theorem all_pair {a b : List EntV} (h : checkE a = 0) (h' : checkE b = 0) : (allE [a, b]).2 = 0 ↔ ∀ x ∈ a, ∀ y ∈ b, ¬ (x.key = y.key ∧ x.seq = y.seq) := by
  have hra := ((checkE_rise a).1 h).2.2
  have hrb := ((checkE_rise b).1 h').2.2
  have hc := chk_two h h'
  have hw := chk_weak (chkR_zero.1 hc).2.1
  have key : RiseE (allM [a, b]) ↔ ∀ x ∈ a, ∀ y ∈ b, ¬ (x.key = y.key ∧ x.seq = y.seq) := by
    rw [allM_rise hw]
    have e : [a, b].flatten = a ++ b := by simp
    rw [e]
    constructor
    · intro hs x hx y hy
      exact (List.pairwise_append.1 hs).2.2 x hx y hy
    · intro hs
      exact List.pairwise_append.2 ⟨(weak_rise (rise_weak hra)).1 hra, (weak_rise (rise_weak hrb)).1 hrb, hs⟩
  rw [← key]
  by_cases hr : RiseE (allM [a, b])
  · rw [allE_rise hc hr]; simp [hr]
  · rw [allE_not hc hr]; simp [hr]
theorem checkE_thin {l : List EntV} (h : thinErr l = 0) (hl : l.length ≤ 200) : checkE l = 0 := by
  obtain ⟨_, h2, h3⟩ := thinErr_zero.1 h
  exact (checkE_rise l).2 ⟨by omega, h2, h3⟩
theorem thinE_len (l : List EntV) (s : Int) (last : Bool) : (thinE l s last).length ≤ l.length := List.length_filter_le _ _
theorem thinE_last (l : List EntV) (s : Int) : (thinE l s true).length ≤ (thinE l s false).length := by
  classical
  unfold thinE
  rw [← List.countP_eq_length_filter, ← List.countP_eq_length_filter]
  refine List.countP_mono_left (fun x _ hx => ?_)
  simp only [decide_eq_true_eq] at hx ⊢
  rcases hx with hx | hx
  · exact .inl hx
  · exact .inr ⟨hx.1, by simp⟩
theorem liveE_at {ls : List (List EntV)} {A : List EntV} (h : allE ls = (A, 0)) (s : Int) : liveE ls s = if 0 ≤ s ∧ s ≤ 2147483647 then (countE A s, 0) else ([], 2) := by
  unfold liveE
  rw [h]
  exact if_neg (by simp)
theorem liveE_len (ls : List (List EntV)) (s : Int) : (liveE ls s).1.length ≤ 16384 := by
  unfold liveE
  split
  · simp
  · split
    · exact Nat.le_trans (List.length_filter_le _ _) allE_len
    · simp
/-- What MergeThin asks. -/
theorem thin_law {l older a b U V : List EntV} {s at_ : Int} {E F : Nat} (hl : l.length ≤ 200) (hat : s ≤ at_) (ha : thinF l s false = (a, 0)) (hb : thinF l s true = (b, 0))
    (hold : ∀ x ∈ older, ∀ y ∈ l, ¬ (x.key = y.key ∧ y.seq ≤ x.seq)) (hU : liveE [l, older] at_ = (U, E)) (hV : liveE [a, older] at_ = (V, F)) :
    (E = 0 ↔ F = 0) ∧ (E = 0 → U = V) ∧ liveE [l] at_ = liveE [b] at_ := by
  rcases thinF_ok ha with h | ⟨_, a2, a3, a4⟩
  · exact absurd rfl h.1
  rcases thinF_ok hb with h | ⟨_, b2, b3, b4⟩
  · exact absurd rfl h.1
  have hcl := checkE_thin a3 hl
  have hca : checkE a = 0 := by rw [a2]; exact checkE_thin (thinErr_thin a3 s false) (Nat.le_trans (thinE_len _ _ _) hl)
  have hcb : checkE b = 0 := by rw [b2]; exact checkE_thin (thinErr_thin a3 s true) (Nat.le_trans (thinE_len _ _ _) hl)
  have hrl := ((checkE_rise l).1 hcl).2.2
  have hsub : ∀ x ∈ a, x ∈ l := fun x hx => by rw [a2] at hx; exact (mem_thinE.1 hx).1
  have hone : liveE [l] at_ = liveE [b] at_ := by
    rw [liveE_at (all_single hcl), liveE_at (all_single hcb), b2, thin_last hrl hat]
  refine ⟨?_, ?_, hone⟩
  · by_cases hco : checkE older = 0
    · have e1 : (allE [l, older]).2 = 0 := (all_pair hcl hco).2 (fun x hx y hy hh => hold y hy x hx ⟨hh.1.symm, by omega⟩)
      have e2 : (allE [a, older]).2 = 0 := (all_pair hca hco).2 (fun x hx y hy hh => hold y hy x (hsub x hx) ⟨hh.1.symm, by omega⟩)
      unfold liveE at hU hV
      rw [if_neg (fun h => h e1)] at hU
      rw [if_neg (fun h => h e2)] at hV
      by_cases hs : 0 ≤ at_ ∧ at_ ≤ 2147483647
      · rw [if_pos hs, Prod.mk.injEq] at hU hV
        rw [← hU.2, ← hV.2]
      · rw [if_neg hs, Prod.mk.injEq] at hU hV
        rw [← hU.2, ← hV.2]
    · have c1 : chkR [l, older] ≠ 0 := fun h => hco ((chkR_zero.1 h).2.1 older (by simp))
      have c2 : chkR [a, older] ≠ 0 := fun h => hco ((chkR_zero.1 h).2.1 older (by simp))
      unfold liveE at hU hV
      rw [allE_bad c1] at hU
      rw [allE_bad c2] at hV
      rw [if_pos c1, Prod.mk.injEq] at hU
      rw [if_pos c2, Prod.mk.injEq] at hV
      rw [← hU.2, ← hV.2]
      exact ⟨fun h => absurd h c1, fun h => absurd h c2⟩
  · intro hE
    subst hE
    unfold liveE at hU hV
    obtain ⟨A, e, hA⟩ : ∃ A e, allE [l, older] = (A, e) := ⟨_, _, rfl⟩
    obtain ⟨B, f, hB⟩ : ∃ B f, allE [a, older] = (B, f) := ⟨_, _, rfl⟩
    rw [hA] at hU
    rw [hB] at hV
    simp only at hU hV
    by_cases he : e = 0
    · obtain ⟨r1, m1⟩ := allE_two hA he
      have hco : checkE older = 0 := (chkR_zero.1 (allE_ok hA he).2.2).2.1 older (by simp)
      have hf : f = 0 := by
        have : (allE [a, older]).2 = 0 := (all_pair hca hco).2 (fun x hx y hy hh => hold y hy x (hsub x hx) ⟨hh.1.symm, by omega⟩)
        rw [hB] at this
        exact this
      obtain ⟨r2, m2⟩ := allE_two hB hf
      rw [if_neg (fun h => h he)] at hU
      rw [if_neg (fun h => h hf)] at hV
      by_cases hs : 0 ≤ at_ ∧ at_ ≤ 2147483647
      · rw [if_pos hs, Prod.mk.injEq] at hU hV
        rw [← hU.1, ← hV.1]
        exact thin_older hrl r1 r2 hat m1 (fun x => by rw [m2, a2])
      · rw [if_neg hs, Prod.mk.injEq] at hU
        exact absurd hU.2 (by decide)
    · rw [if_pos he, Prod.mk.injEq] at hU
      exact absurd hU.2 he
end Go.Proofs.Ytbnacopefclklaa
namespace Go.Proofs.Ytbnacopefclklaa
open Go.RowKit Go.WideShapes

/-! ### From a key on -/
def keyF (l : List EntV) (k : ByteArray) : Nat := (l.takeWhile fun x => ltB x.key k).length
theorem keyF_le (l : List EntV) (k : ByteArray) : keyF l k ≤ l.length := (List.takeWhile_sublist _).length_le
theorem keyF_lo : ∀ {l : List EntV} {k : ByteArray} {t : Nat}, t < keyF l k → ltB (l.getD t zeroE).key k = true
  | [], _, _, h => by simp [keyF] at h
  | x :: l, k, t, h => by
    unfold keyF at h
    rw [List.takeWhile_cons] at h
    split at h
    · rename_i hx
      cases t with
      | zero => simpa using hx
      | succ t =>
        simp only [List.length_cons] at h
        rw [List.getD_cons_succ]
        exact keyF_lo (by unfold keyF; omega)
    · simp at h
theorem keyF_hi : ∀ {l : List EntV} {k : ByteArray} {t : Nat}, RiseE l → keyF l k ≤ t → t < l.length → ltB (l.getD t zeroE).key k = false
  | [], _, _, _, _, h => by simp at h
  | x :: l, k, t, hr, h, ht => by
    obtain ⟨h1, h2⟩ := List.pairwise_cons.1 hr
    unfold keyF at h
    rw [List.takeWhile_cons] at h
    split at h
    · cases t with
      | zero => simp at h
      | succ t =>
        simp only [List.length_cons] at h ht
        rw [List.getD_cons_succ]
        exact keyF_hi h2 (by unfold keyF; omega) (by omega)
    · rename_i hx
      have hx' : ltB x.key k = false := by simpa using hx
      cases t with
      | zero => simpa using hx'
      | succ t =>
        simp only [List.length_cons] at ht
        rw [List.getD_cons_succ]
        have hl := lessE_key (h1 _ (getD_mem' (show t < l.length by omega)))
        cases hc : ltB (l.getD t zeroE).key k with
        | false => rfl
        | true =>
          have := ltB_le_lt hl hc
          rw [hx'] at this
          cases this
theorem keyF_drop {l : List EntV} (hr : RiseE l) (k : ByteArray) : l.filter (fun x => !ltB x.key k) = l.drop (keyF l k) := by
  conv => lhs; rw [← List.take_append_drop (keyF l k) l]
  rw [List.filter_append]
  have h1 : (l.take (keyF l k)).filter (fun x => !ltB x.key k) = [] := by
    rw [List.filter_eq_nil_iff]
    intro x hx
    obtain ⟨i, hi, rfl⟩ := List.mem_iff_getElem.1 hx
    rw [List.length_take] at hi
    have := keyF_lo (l := l) (k := k) (t := i) (by omega)
    rw [List.getD_eq_getElem?_getD, List.getElem?_eq_getElem (by omega : i < l.length)] at this
    simp only [Option.getD_some] at this
    rw [List.getElem_take]
    simp [this]
  have h2 : (l.drop (keyF l k)).filter (fun x => !ltB x.key k) = l.drop (keyF l k) := by
    rw [List.filter_eq_self]
    intro x hx
    obtain ⟨i, hi, rfl⟩ := List.mem_iff_getElem.1 hx
    rw [List.length_drop] at hi
    have := keyF_hi (l := l) (k := k) (t := keyF l k + i) hr (by omega) (by omega)
    rw [List.getD_eq_getElem?_getD, List.getElem?_eq_getElem (by omega : keyF l k + i < l.length)] at this
    simp only [Option.getD_some] at this
    rw [List.getElem_drop]
    simp [this]
  rw [h1, h2, List.nil_append]
/-! ### How a cursor lies in memory -/
/-- A cursor at a block, with what is left; all its memory from a number on. -/
structure CurIn (w : World) (B g : Nat) (l : List EntV) : Prop where
  out : ∃ q n c, w.heap[g]? = some (.cells #[.bool true, .slice q n c] 34 (0, 0)) ∧ B ≤ g ∧ n = l.length ∧ EntsIn w q l ∧ n ≤ c ∧ c ≤ maxLen ∧ (q = none → c = 0) ∧ ∀ a, q = some a → B ≤ a.block ∧ ∃ cs fr, w.heap[a.block]? = some (.cells cs 23 fr)
/-- What Next leaves as it was. -/
structure KeptC (B : Nat) (w w' : World) : Prop where
  bel : Below B w w'
  typ : ∀ (b : Nat) (cs : Array Value) (t : TypeId) (fr : Nat × Nat), w.heap[b]? = some (.cells cs t fr) → t ≠ 34 → w'.heap[b]? = some (.cells cs t fr)
theorem KeptC.trans {B : Nat} {a b c : World} (h : KeptC B a b) (k : KeptC B b c) : KeptC B a c := ⟨h.bel.trans k.bel, fun _ _ _ _ e h1 => k.typ _ _ _ _ (h.typ _ _ _ _ e h1) h1⟩
theorem keptC_below {B : Nat} {w w' : World} (h : Below w.heap.size w w') (hB : B ≤ w.heap.size) : KeptC B w w' := ⟨h.mono hB, fun _ _ _ _ e _ => block_belowR e h⟩
theorem EOwn.keptC {B : Nat} {w w' : World} {base : Nat} {v : Value} {L : List EntV} (h : EOwn w base v L) (k : KeptC B w w') : EOwn w' base v L := by
  refine own_heap h (fun g hg => ?_)
  rcases h.2 with ⟨hv, _⟩ | ⟨g', cap, cur, hv, _, hgg, _⟩
  · rw [hv] at hg; cases hg
  · rw [hv] at hg
    simp only [Value.ownBlock, Option.some.injEq] at hg
    subst hg
    rw [hgg]
    exact k.typ _ _ _ _ hgg (by decide)
/-- Entries stay where all blocks that they are in stay. -/
theorem EntsIn.blk {w w' : World} {q : Option Addr} {l : List EntV} (h : EntsIn w q l) (hk : ∀ a, q = some a → w'.heap[a.block]? = w.heap[a.block]?) : EntsIn w' q l := by
  intro hp
  obtain ⟨b, o, rfl, hc⟩ := h hp
  have e := hk _ rfl
  refine ⟨b, o, rfl, fun i hi => ?_⟩
  obtain ⟨e0, e1, e2, e3⟩ := hc i hi
  exact ⟨(World.cell?_of_block (a := ⟨b, o + i * 4, none⟩) e).trans e0, (World.cell?_of_block (a := ⟨b, o + (i * 4 + 1), none⟩) e).trans e1, (World.cell?_of_block (a := ⟨b, o + (i * 4 + 2), none⟩) e).trans e2, (World.cell?_of_block (a := ⟨b, o + (i * 4 + 3), none⟩) e).trans e3⟩
theorem CurIn.keep {w w' : World} {B g : Nat} {l : List EntV} (h : CurIn w B g l) (hk : ∀ b o, B ≤ b → w.heap[b]? = some o → w'.heap[b]? = some o) : CurIn w' B g l := by
  obtain ⟨q, n, c, h1, h2, h3, h4, h5, h6, h7, h8⟩ := h.out
  refine ⟨q, n, c, hk _ _ h2 h1, h2, h3, h4.blk (fun a ha => ?_), h5, h6, h7, fun a ha => ?_⟩
  · obtain ⟨x1, cs, fr, x2⟩ := h8 a ha
    rw [x2]
    exact hk _ _ x1 x2
  · obtain ⟨x1, cs, fr, x2⟩ := h8 a ha
    exact ⟨x1, cs, fr, hk _ _ x1 x2⟩
theorem CurIn.below {w w' : World} {B g : Nat} {l : List EntV} (h : CurIn w B g l) (hb : Below w.heap.size w w') : CurIn w' B g l := h.keep (fun _ _ _ e => block_belowR e hb)
set_option maxHeartbeats 2000000 in
theorem searchK_any (n k : Nat) (p : Nat → Bool) (a b : Value) (w : World) (hn : n ≤ 20000) (hk : k ≤ n) (hlo : ∀ t, t < k → p t = false) (hhi : ∀ t, k ≤ t → t < n → p t = true)
    (hf : ∀ (i : Nat) (w' : World), i < n → Below w.heap.size w w' → Calls Try.prog 38 #[.int .i64 (i : Int), a, b] w' fun e w'' => e = .returned (.bool (p i)) ∧ Below w'.heap.size w' w'') :
    Calls Try.prog 37 #[.int .i64 (n : Int), .func (.func 38) #[] #[a, b]] w fun e w' => e = .returned (.int .i64 (k : Int)) ∧ Below w.heap.size w w' := by
  have HF : Hid (∀ (i : Nat) (w' : World), i < n → Below w.heap.size w w' → Calls Try.prog 38 #[.int .i64 (i : Int), a, b] w' fun e w'' => e = .returned (.bool (p i)) ∧ Below w'.heap.size w' w'') := hf
  have HP : Hid ((∀ t, t < k → p t = false) ∧ ∀ t, k ≤ t → t < n → p t = true) := ⟨hlo, hhi⟩
  have HKN : Hid (k ≤ n) := hk
  have hnI : (n : Int) ≤ 20000 := by omega
  clear hf hlo hhi hk hn
  go_enter Try.func37, Try.ntmps37
  go_wp2
  go_loopw [5, 6] (fun s5 s6 wr => ∃ lo hi : Nat, s5 = .int .i64 (lo : Int) ∧ s6 = .int .i64 (hi : Int) ∧ lo ≤ k ∧ k ≤ hi ∧ hi ≤ n ∧ Below w.heap.size w wr) (fun s5 s6 _ => (intOf s6 - intOf s5).toNat)
  case atStart => exact ⟨0, n, rfl, rfl, by omega, HKN.out, Nat.le_refl _, Below.refl _ _⟩
  case round =>
    obtain ⟨lo, hi, rfl, rfl, h1, h2, h3, hb⟩ := hrel
    have HH : Hid (lo ≤ k ∧ k ≤ hi ∧ hi ≤ n) := ⟨h1, h2, h3⟩
    have HB : Hid (Below w.heap.size w wr) := hb
    have hhI : (hi : Int) ≤ (n : Int) := by omega
    clear h1 h2 h3 hb
    by_cases hlt : lo < hi
    · have hltI : (lo : Int) < (hi : Int) := by omega
      have HLT : Hid (lo < hi) := hlt
      obtain ⟨md, hmd⟩ : ∃ md : Nat, (lo + hi) / 2 = md := ⟨_, rfl⟩
      have HMD : Hid (lo ≤ md ∧ md < hi) := by show _ ∧ _; omega
      have hmI : ((lo : Int) + (hi : Int)) / 2 = (md : Int) := by omega
      have hc := HF.out md wr (by have := HMD.out; have := HH.out; omega) HB.out
      have hmdI : (md : Int) < (hi : Int) := by have := HMD.out; omega
      have hmdI0 : (0 : Int) ≤ (md : Int) := by omega
      clear hlt hmd
      rcases Nat.lt_or_ge md k with hmk | hmk
      · rw [HP.out.1 md hmk] at hc
        have HMK : Hid (md < k) := hmk
        clear hmk
        rw [← hmI] at hc
        have HMI : Hid (((lo : Int) + (hi : Int)) / 2 = (md : Int)) := hmI
        clear hmI hmdI hmdI0
        go_wp2_with fail
        refine hc.mono ?_
        rintro e w2 ⟨rfl, hb2⟩
        have HB2 : Hid (Below w.heap.size w w2) := below_bt HB.out hb2
        clear hb2 hc
        go_wp2
        go_roundw
        case rel => exact ⟨md + 1, hi, by rw [HMI.out]; go_num, rfl, HMK.out, HH.out.2.1, HH.out.2.2, HB2.out⟩
        case measure => have := HMD.out; have := HMI.out; simp [intOf]; omega
      · rw [HP.out.2 md hmk (by have := HMD.out; have := HH.out; omega)] at hc
        have HMK : Hid (k ≤ md) := hmk
        clear hmk
        rw [← hmI] at hc
        have HMI : Hid (((lo : Int) + (hi : Int)) / 2 = (md : Int)) := hmI
        clear hmI hmdI hmdI0
        go_wp2_with fail
        refine hc.mono ?_
        rintro e w2 ⟨rfl, hb2⟩
        have HB2 : Hid (Below w.heap.size w w2) := below_bt HB.out hb2
        clear hb2 hc
        go_wp2
        go_roundw
        case rel => exact ⟨lo, md, rfl, by rw [HMI.out], HH.out.1, HMK.out, by have := HMD.out; have := HH.out; omega, HB2.out⟩
        case measure => have := HMD.out; have := HMI.out; simp [intOf]; omega
    · have hltI : (hi : Int) ≤ (lo : Int) := by omega
      have HE : Hid (lo = k) := by have := HH.out; show _ = _; omega
      clear hlt
      go_wp2
      go_ret
      exact ⟨by rw [HE.out]; rfl, HB.out⟩
theorem ge_text (a b : ByteArray) (r : Bool) (h : (!ltB a b) = r) : (!Op.bytesLess a.toList b.toList) = r := h
set_option maxHeartbeats 1000000 in
theorem newFn_any (g8 g5 : Nat) (q : Option Addr) (n c : Nat) (l : List EntV) (k : ByteArray) (i : Nat) (w : World) (h8 : w.heap[g8]? = some (.cells #[.slice q n c] 25 (0, 0))) (h5 : w.heap[g5]? = some (.cells #[.string k] 9 (0, 0))) (h : EntsL w q n l) (hi : i < l.length) (r : Bool) (hr : (!ltB (l.getD i zeroE).key k) = r) :
    Calls Try.prog 38 #[.int .i64 (i : Int), .pointer (some ⟨g8, 0, none⟩), .pointer (some ⟨g5, 0, none⟩)] w fun e w' => e = .returned (.bool r) ∧ Below w.heap.size w w' := by
  have c8 : w.cell? ⟨g8, 0, none⟩ = some (.slice q n c) := Lib.cell_of_heap h8 0
  have c5 : w.cell? ⟨g5, 0, none⟩ = some (.string k) := Lib.cell_of_heap h5 0
  obtain ⟨b, o, rfl⟩ := h.lies.addr (by omega)
  obtain ⟨x0, x1, x2, x3⟩ := h.lies.at (k := i) hi
  obtain ⟨⟨kx, vx, sx, dx⟩, hx⟩ : ∃ x, l.getD i zeroE = x := ⟨_, rfl⟩
  rw [hx] at x0 x1 x2 x3 hr
  simp only at x0 x1 x2 x3 hr
  have i0 : (0 : Int) ≤ (i : Int) := by omega
  have i1 : (i : Int) < (n : Int) := by have := h.n; omega
  have hbl := ge_text kx k r hr
  cases hb : Op.bytesLess kx.toList k.toList with
  | true =>
    obtain rfl : r = false := by rw [← hbl, hb]; rfl
    clear h8 h5 h hi hx hr hbl
    go_enter Try.func38, Try.ntmps38
    go_wp2
    go_quiet (fail)
    go_wp2
    go_ret
    exact ⟨by simp, below_drewN (Below.refl _ _) _⟩
  | false =>
    obtain rfl : r = true := by rw [← hbl, hb]; rfl
    clear h8 h5 h hi hx hr hbl
    go_enter Try.func38, Try.ntmps38
    go_wp2
    go_quiet (fail)
    go_wp2
    go_ret
    exact ⟨by simp, below_drewN (Below.refl _ _) _⟩
end Go.Proofs.Ytbnacopefclklaa
namespace Go.Proofs.Ytbnacopefclklaa
open Go.RowKit Go.WideShapes

/-- What New answers. -/
structure NewOut (w : World) (p : Value) (L : List EntV) (E : Nat) (w' : World) : Prop where
  bel : Below w.heap.size w w'
  bad : E ≠ 0 → p = .pointer none
  good : E = 0 → ∃ g, p = .pointer (some ⟨g, 0, none⟩) ∧ CurIn w' w.heap.size g L
theorem live_rise {ls : List (List EntV)} {s : Int} {L : List EntV} {E : Nat} (h : liveE ls s = (L, E)) : RiseE L := by
  unfold liveE at h
  split at h
  · rw [Prod.mk.injEq] at h; rw [← h.1]; exact List.Pairwise.nil
  · rename_i h0
    split at h
    · rw [Prod.mk.injEq] at h
      rw [← h.1]
      obtain ⟨A, F, hA⟩ : ∃ A F, allE ls = (A, F) := ⟨_, _, rfl⟩
      rw [hA] at h0 ⊢
      exact countE_rise (allE_ok hA (by simpa using h0)).1 s
    · rw [Prod.mk.injEq] at h; rw [← h.1]; exact List.Pairwise.nil
set_option maxRecDepth 8000 in
set_option maxHeartbeats 4000000 in
theorem curNew_any (q : Option Addr) (n c : Nat) (R : List RV) (s : Int) (k : ByteArray) (w : World) (h : RowsL w q n R) (hnb : (n : Int) ≤ 9223372036854775807) (hkb : (k.size : Int) ≤ 9223372036854775807) (L : List EntV) (E : Nat) (hE : fromE (lsR R) s k = (L, E)) :
    Calls Try.prog 23 #[.slice q n c, .int .i64 s, .string k] w fun e w' => ∃ p, e = .returned (.tuple #[p, .int .i64 (E : Int)]) ∧ NewOut w p L E w' := by
  obtain ⟨A, F, hA⟩ : ∃ A F, liveE (lsR R) s = (A, F) := ⟨_, _, rfl⟩
  have HE : Hid ((if F ≠ 0 then ([], F) else if 256 < k.size then ([], 3) else (A.filter (fun x => !ltB x.key k), 0)) = (L, E)) := by
    show _ = _
    rw [← hE]
    unfold fromE
    rw [hA]
  have HRS : Hid (RiseE A ∧ A.length ≤ 16384) := ⟨live_rise hA, by have := liveE_len (lsR R) s; rw [hA] at this; exact this⟩
  have HAL := Live_any q n c R s (w.alloc (.cells #[.string k] 9)) (h.below (below_alloc _ _)) hnb A F hA
  have HK : Hid ((k.size : Int) ≤ 9223372036854775807) := hkb
  clear h hnb hE hA hkb
  go_enter Try.func23, Try.ntmps23
  go_wp2_with fail
  refine HAL.mono ?_
  rintro e w1 ⟨v1, rfl, h1⟩
  obtain ⟨q1, m1, rfl, hl1, hm1, hq1⟩ := h1.own.form
  have hbw : Below w.heap.size w w1 := below_bt (below_alloc _ _) h1.bel
  have h5 : w1.heap[w.heap.size]? = some (.cells #[.string k] 9 (0, 0)) := block_belowR (heap_alloc_new _ _) h1.bel
  obtain ⟨m, hm⟩ : ∃ m, A.length = m := ⟨_, rfl⟩
  have HN : Hid (A.length = m ∧ m ≤ m1 ∧ m1 ≤ maxLen ∧ (q1 = none → m1 = 0)) := ⟨hm, by omega, hm1, hq1⟩
  rw [hm]
  have hba : Below w1.heap.size w1 (w1.alloc (.cells #[.slice q1 m m1] 25)) := below_alloc _ _
  have h1' := h1.own
  rw [hm] at h1'
  have H1 : Hid (EOwn (w1.alloc (.cells #[.slice q1 m m1] 25)) w.heap.size (.slice q1 m m1) A ∧ Below w.heap.size w (w1.alloc (.cells #[.slice q1 m m1] 25)) ∧ (w1.alloc (.cells #[.slice q1 m m1] 25)).heap[w.heap.size]? = some (.cells #[.string k] 9 (0, 0)) ∧ (w1.alloc (.cells #[.slice q1 m m1] 25)).heap[w1.heap.size]? = some (.cells #[.slice q1 m m1] 25 (0, 0))) := ⟨own_base (own_below h1' hba) (by simp), below_bt hbw hba, block_belowR h5 hba, heap_alloc_new _ _⟩
  clear HAL h1 h1' hl1 hm1 hq1 hbw h5 hba
  by_cases hF : F = 0
  · subst hF
    by_cases hk : 256 < k.size
    · have hv := HE.out
      rw [if_neg (by simp), if_pos hk, Prod.mk.injEq] at hv
      obtain ⟨rfl, rfl⟩ := hv
      have c5 : (w1.alloc (.cells #[.slice q1 m m1] 25)).cell? ⟨w.heap.size, 0, none⟩ = some (.string k) := Lib.cell_of_heap H1.out.2.2.1 0
      have hkI : (256 : Int) < (k.size : Int) := by omega
      clear hk hm
      go_wp2
      go_ret2
      exact ⟨_, rfl, H1.out.2.1, fun _ => rfl, fun (h : 3 = 0) => absurd h (by decide)⟩
    · have hv := HE.out
      rw [if_neg (by simp), if_neg hk, Prod.mk.injEq, keyF_drop HRS.out.1] at hv
      obtain ⟨hv, rfl⟩ := hv
      have c5 : (w1.alloc (.cells #[.slice q1 m m1] 25)).cell? ⟨w.heap.size, 0, none⟩ = some (.string k) := Lib.cell_of_heap H1.out.2.2.1 0
      have c8 : (w1.alloc (.cells #[.slice q1 m m1] 25)).cell? ⟨w1.heap.size, 0, none⟩ = some (.slice q1 m m1) := Lib.cell_of_heap H1.out.2.2.2 0
      have hkI : (k.size : Int) ≤ 256 := by omega
      obtain ⟨f, hf⟩ : ∃ f, keyF A k = f := ⟨_, rfl⟩
      have HS := searchK_any m f (fun i => !ltB (A.getD i zeroE).key k) (.pointer (some ⟨w1.heap.size, 0, none⟩)) (.pointer (some ⟨w.heap.size, 0, none⟩)) (w1.alloc (.cells #[.slice q1 m m1] 25)) (by have := HRS.out; omega) (by rw [← hf, ← hm]; exact keyF_le A k) (fun t ht => by rw [keyF_lo (by omega)]; rfl) (fun t h1 h2 => by rw [keyF_hi HRS.out.1 (by omega) (by omega)]; rfl) (fun i w' hi hb => newFn_any w1.heap.size w.heap.size q1 m m1 A k i w' (block_belowR H1.out.2.2.2 hb) (block_belowR H1.out.2.2.1 hb) ⟨hm.symm, H1.out.1.ents.below hb⟩ (by omega) _ rfl)
      obtain ⟨p', hcut, hdrop, hp'⟩ := cutE_from q1 m m1 f A hm.symm HN.out.2.1 (by rw [← hf, ← hm]; exact keyF_le A k) HN.out.2.2.2
      have HV : Hid (A.drop f = L ∧ f ≤ m) := ⟨by rw [← hf]; exact hv, by rw [← hf, ← hm]; exact keyF_le A k⟩
      obtain ⟨n2, hn2⟩ : ∃ n2, m - f = n2 := ⟨_, rfl⟩
      obtain ⟨c2, hc2⟩ : ∃ c2, m1 - f = c2 := ⟨_, rfl⟩
      rw [hn2, hc2] at hcut
      have HQ : Hid ((∀ w, EntsIn w q1 A → EntsIn w p' (A.drop f)) ∧ (p' = none → c2 = 0) ∧ n2 = (A.drop f).length ∧ n2 ≤ c2 ∧ c2 ≤ maxLen) := ⟨hdrop, fun h => by have := hp' h; omega, by rw [List.length_drop]; omega, by have := HN.out; omega, by have := HN.out; omega⟩
      have HBK : Hid (∀ a, p' = some a → ∃ o s, q1 = some ⟨a.block, o, s⟩) := by
        intro a ha
        have h0 := hcut w
        rw [run_slice_l w 25 q1 m m1 (by kernel_rfl) .i64 f (by omega) (by have := HV.out; omega)] at h0
        have hs : (sizeOf (Try.prog.elem 25)).run Try.prog w = .ok 4 w := by kernel_rfl
        rw [hs] at h0
        simp only [Result.andThen, Result.ok.injEq, and_true] at h0
        have h1 : (Value.slice (if m1 = f then q1 else q1.map (·.add (f * 4))) (m - f) (m1 - f)) = Value.slice p' n2 c2 := h0
        simp only [Value.slice.injEq] at h1
        have h2 := h1.1
        rw [ha] at h2
        cases q1 with
        | none => split at h2 <;> simp at h2
        | some b =>
          split at h2
          · simp only [Option.some.injEq] at h2
            subst h2
            exact ⟨_, _, rfl⟩
          · simp only [Option.map_some, Option.some.injEq] at h2
            subst h2
            refine ⟨b.off, b.spot, ?_⟩
            unfold Addr.add
            split <;> rfl
      clear hv hk hf hm hdrop hp' hn2 hc2
      go_wp2_with fail
      refine HS.mono ?_
      rintro e w3 ⟨rfl, hb3⟩
      have c8' : w3.cell? ⟨w1.heap.size, 0, none⟩ = some (.slice q1 m m1) := Lib.cell_of_heap (block_belowR H1.out.2.2.2 hb3) 0
      have H3 : Hid (EOwn w3 w.heap.size (.slice q1 m m1) A ∧ Below w.heap.size w w3) := ⟨own_below H1.out.1 hb3, below_bt H1.out.2.1 hb3⟩
      clear c8 c5 hb3 HS
      go_wp2
      go_ret2
      refine ⟨_, rfl, below_bt H3.out.2 (below_alloc _ _), (fun h => absurd rfl h), ?_⟩
      refine fun _ => ⟨w3.heap.size, rfl, p', n2, c2, heap_alloc_new _ _, H3.out.2.size, by rw [← HV.out.1]; exact HQ.out.2.2.1, by rw [← HV.out.1]; exact HQ.out.1 _ (EntsIn.below H3.out.1.ents (below_alloc _ _)), HQ.out.2.2.2.1, HQ.out.2.2.2.2, HQ.out.2.1, fun a ha => ?_⟩
      obtain ⟨o, sp, hq⟩ := HBK.out a ha
      rcases H3.out.1.2 with ⟨hv, _⟩ | ⟨g', cap, cur, hv, hb, hgg, _⟩
      · rw [hq] at hv; cases hv
      · rw [hq] at hv
        simp only [Value.slice.injEq, Option.some.injEq, Addr.mk.injEq] at hv
        rw [hv.1.1]
        exact ⟨hb, cur, _, block_belowR hgg (below_alloc _ _)⟩
  · have e1 : ((F : Int) != 0) = true := by simp; omega
    have e1' : ((F : Int) == 0) = false := by simp; omega
    have hv := HE.out
    rw [if_pos hF, Prod.mk.injEq] at hv
    obtain ⟨rfl, rfl⟩ := hv
    have HF : Hid (F ≠ 0) := hF
    clear hF hm
    go_wp2
    go_ret2
    exact ⟨_, rfl, H1.out.2.1, fun _ => rfl, fun h => absurd h HF.out⟩
/-! ### Next -/
set_option maxHeartbeats 1000000 in
theorem next_nil (w : World) : Calls Try.prog 13 #[.pointer none] w fun e w' => e = .returned (.tuple #[entV zeroE, .bool false, .int .i64 1]) ∧ Below w.heap.size w w' := by
  go_enter Try.func13, Try.ntmps13
  go_wp2
  (try simp only [Exit.inBlock, Exit.then])
  refine bodyPost_ret (v := .tuple #[entV zeroE, .bool false, .int .i64 1]) ?_ rfl ⟨rfl, ?_⟩
  · rw [results_cell_tmp2 rfl]
    go_simp
    rfl
  · exact below_alloc _ _
set_option maxHeartbeats 1000000 in
theorem next_plain (g : Nat) (v : Value) (w : World) (h : w.heap[g]? = some (.cells #[.bool false, v] 34 (0, 0))) : Calls Try.prog 13 #[.pointer (some ⟨g, 0, none⟩)] w fun e w' => e = .returned (.tuple #[entV zeroE, .bool false, .int .i64 1]) ∧ Below w.heap.size w w' := by
  have c0 : (w.alloc (.cells zE 23)).cell? ⟨g, 0, none⟩ = some (.bool false) := Lib.cell_of_heap (block_belowR h (below_alloc _ _)) 0
  clear h
  go_enter Try.func13, Try.ntmps13
  go_wp2
  (try simp only [Exit.inBlock, Exit.then])
  refine bodyPost_ret (v := .tuple #[entV zeroE, .bool false, .int .i64 1]) ?_ rfl ⟨rfl, ?_⟩
  · rw [results_cell_tmp2 rfl]
    go_simp
    rfl
  · exact below_alloc _ _
end Go.Proofs.Ytbnacopefclklaa
namespace Go.Proofs.Ytbnacopefclklaa
open Go.RowKit Go.WideShapes

set_option maxHeartbeats 1000000 in
theorem next_end (B g : Nat) (w : World) (h : CurIn w B g []) (hB : B ≤ w.heap.size) : Calls Try.prog 13 #[.pointer (some ⟨g, 0, none⟩)] w fun e w' => e = .returned (.tuple #[entV zeroE, .bool false, .int .i64 0]) ∧ CurIn w' B g [] ∧ KeptC B w w' := by
  have HC : Hid (CurIn w B g [] ∧ B ≤ w.heap.size) := ⟨h, hB⟩
  obtain ⟨q, n, c, h1, h2, h3, h4, h5, h6, h7, h8⟩ := h.out
  obtain rfl : n = 0 := h3
  have c0 : (w.alloc (.cells zE 23)).cell? ⟨g, 0, none⟩ = some (.bool true) := Lib.cell_of_heap (block_belowR h1 (below_alloc _ _)) 0
  have c1 : (w.alloc (.cells zE 23)).cell? ⟨g, 1, none⟩ = some (.slice q 0 c) := Lib.cell_of_heap (block_belowR h1 (below_alloc _ _)) 1
  clear h h1 h2 h4 h5 h6 h7 h8 hB
  go_enter Try.func13, Try.ntmps13
  go_wp2
  (try simp only [Exit.inBlock, Exit.then])
  refine bodyPost_ret (v := .tuple #[entV zeroE, .bool false, .int .i64 0]) ?_ rfl ⟨rfl, ?_⟩
  · rw [results_cell_tmp2 rfl]
    go_simp
    rfl
  · exact ⟨HC.out.1.below (below_alloc _ _), keptC_below (below_alloc _ _) HC.out.2⟩
theorem ents_tail {w : World} {b o : Nat} {x : EntV} {t : List EntV} (h : EntsIn w (some ⟨b, o, none⟩) (x :: t)) : EntsIn w (some ⟨b, o + 4, none⟩) t := by
  have := h.drop' 1
  simpa using this
theorem set4_far {w : World} {N : Nat} {a b c d : Value} (k : Nat) (hk : k ≠ N) : ((((w.setCell ⟨N, 0, none⟩ a).setCell ⟨N, 1, none⟩ b).setCell ⟨N, 2, none⟩ c).setCell ⟨N, 3, none⟩ d).heap[k]? = w.heap[k]? := by
  rw [heap_setCell_other _ ⟨N, 3, none⟩ k _ hk, heap_setCell_other _ ⟨N, 2, none⟩ k _ hk, heap_setCell_other _ ⟨N, 1, none⟩ k _ hk, heap_setCell_other _ ⟨N, 0, none⟩ k _ hk]
set_option maxRecDepth 8000 in
set_option maxHeartbeats 2000000 in
theorem next_some (B g : Nat) (x : EntV) (t : List EntV) (w : World) (h : CurIn w B g (x :: t)) (hB : B ≤ w.heap.size) : Calls Try.prog 13 #[.pointer (some ⟨g, 0, none⟩)] w fun e w' => e = .returned (.tuple #[entV x, .bool true, .int .i64 0]) ∧ CurIn w' B g t ∧ KeptC B w w' := by
  have HC : Hid (CurIn w B g (x :: t) ∧ B ≤ w.heap.size) := ⟨h, hB⟩
  obtain ⟨q, n, c, h1, h2, h3, h4, h5, h6, h7, h8⟩ := h.out
  obtain ⟨b, o, rfl⟩ := h4.addr (by simp)
  obtain ⟨kx, vx, sx, dx⟩ := x
  have hgl := lt_heap h1
  obtain ⟨hbb, cs, fr, hbk⟩ := h8 _ rfl
  simp only at hbb hbk
  have hbl := lt_heap hbk
  obtain ⟨x0, x1, x2, x3⟩ := (h4.below (below_alloc w (.cells zE 23))).at (k := 0) (by simp)
  simp only [List.getD_cons_zero, Nat.zero_mul, Nat.add_zero] at x0 x1 x2 x3
  have hg1 := block_belowR h1 (below_alloc w (.cells zE 23))
  have hg2 := block_belowR hg1 (below_alloc (w.alloc (.cells zE 23)) (.cells #[.string kx, .string vx, .int .i64 sx, .bool dx] 23))
  have c0 : (w.alloc (.cells zE 23)).cell? ⟨g, 0, none⟩ = some (.bool true) := Lib.cell_of_heap hg1 0
  have c1 : (w.alloc (.cells zE 23)).cell? ⟨g, 1, none⟩ = some (.slice (some ⟨b, o, none⟩) n c) := Lib.cell_of_heap hg1 1
  have d1 : ((w.alloc (.cells zE 23)).alloc (.cells #[.string kx, .string vx, .int .i64 sx, .bool dx] 23)).cell? ⟨g, 1, none⟩ = some (.slice (some ⟨b, o, none⟩) n c) := Lib.cell_of_heap hg2 1
  have df : ((w.alloc (.cells zE 23)).alloc (.cells #[.string kx, .string vx, .int .i64 sx, .bool dx] 23)).frozen? ⟨g, 1, none⟩ = false := frozen_row hg2 1
  obtain ⟨p', hcut, hdrop, hp'⟩ := cutE_from (some ⟨b, o, none⟩) n c 1 (⟨kx, vx, sx, dx⟩ :: t) h3 h5 (by rw [h3]; simp) h7
  rw [show ((1 : Nat) : Int) = 1 from rfl] at hcut
  have hnp : 0 < n := by rw [h3]; simp
  have hnI : (0 : Int) < (n : Int) := by omega
  have hn0 : ((n : Int) == 0) = false := by simp; omega
  have hn0' : (n == 0) = false := by simp; omega
  have hp2 : p' = some ⟨b, if c = 1 then o else o + 4, none⟩ := by
    have h0 := hcut w
    rw [run_slice_l w 25 (some ⟨b, o, none⟩) n c (by kernel_rfl) .i64 1 (by omega) (by omega)] at h0
    have hs : (sizeOf (Try.prog.elem 25)).run Try.prog w = .ok 4 w := by kernel_rfl
    rw [hs] at h0
    simp only [Result.andThen, Result.ok.injEq, and_true] at h0
    have h1 : (Value.slice (if c = 1 then some ⟨b, o, none⟩ else (some (⟨b, o, none⟩ : Addr)).map (·.add (1 * 4))) (n - 1) (c - 1)) = Value.slice p' (n - 1) (c - 1) := h0
    simp only [Value.slice.injEq, and_true] at h1
    rw [← h1]
    split
    · rfl
    · rw [Option.map_some, add_plain]
  obtain ⟨n2, hn2⟩ : ∃ n2, n - 1 = n2 := ⟨_, rfl⟩
  obtain ⟨c2, hc2⟩ : ∃ c2, c - 1 = c2 := ⟨_, rfl⟩
  rw [hn2, hc2] at hcut
  -- the world behind the store
  obtain ⟨W3, hW3⟩ : ∃ W3, ((w.alloc (.cells zE 23)).alloc (.cells #[.string kx, .string vx, .int .i64 sx, .bool dx] 23)).setCell ⟨g, 1, none⟩ (.slice p' n2 c2) = W3 := ⟨_, rfl⟩
  have hoth : ∀ k, k ≠ g → W3.heap[k]? = ((w.alloc (.cells zE 23)).alloc (.cells #[.string kx, .string vx, .int .i64 sx, .bool dx] 23)).heap[k]? := fun k hk => by rw [← hW3]; exact heap_setCell_other _ ⟨g, 1, none⟩ k _ hk
  have hr3 : W3.heap[w.heap.size]? = some (.cells zE 23 (0, 0)) := by
    rw [hoth _ (by omega)]
    exact block_belowR (heap_alloc_new _ _) (below_alloc _ _)
  have hx3 : W3.heap[w.heap.size + 1]? = some (.cells #[.string kx, .string vx, .int .i64 sx, .bool dx] 23 (0, 0)) := by
    rw [hoth _ (by omega)]
    have := heap_alloc_new (w.alloc (.cells zE 23)) (.cells #[.string kx, .string vx, .int .i64 sx, .bool dx] 23)
    rwa [show (w.alloc (.cells zE 23)).heap.size = w.heap.size + 1 by simp] at this
  have hg3 : W3.heap[g]? = some (.cells #[.bool true, .slice p' n2 c2] 34 (0, 0)) := by
    rw [← hW3]
    have := heap_setCell_same _ g 1 _ _ (.slice p' n2 c2) hg2
    simpa using this
  have HO3 : Hid (∀ (k : Nat) (oo : Obj), k < w.heap.size → k ≠ g → w.heap[k]? = some oo → W3.heap[k]? = some oo) := by
    intro k oo hk hne he
    rw [hoth _ hne]
    exact block_belowR (block_belowR he (below_alloc _ _)) (below_alloc _ _)
  have HB3 : Hid (Below B w W3) := by
    show Below B w W3
    rw [← hW3]
    exact ((below_bt (below_alloc _ _) (below_alloc _ _)).mono hB).setCell (p := ⟨g, 1, none⟩) h2 _
  have HF : Hid (W3.heap[g]? = some (.cells #[.bool true, .slice p' n2 c2] 34 (0, 0)) ∧ B ≤ g ∧ g < w.heap.size ∧ n2 = t.length ∧ n2 ≤ c2 ∧ c2 ≤ maxLen ∧ B ≤ b ∧ b < w.heap.size ∧ w.heap[b]? = some (.cells cs 23 fr) ∧ b ≠ g) := by
    refine ⟨hg3, h2, hgl, ?_, by omega, by omega, hbb, hbl, hbk, ?_⟩
    · have : n = t.length + 1 := by rw [h3]; simp
      omega
    · intro e
      subst e
      rw [h1] at hbk
      simp at hbk
  have HE : Hid (∀ w', EntsIn w' (some ⟨b, o, none⟩) (⟨kx, vx, sx, dx⟩ :: t) → EntsIn w' p' t) := by
    intro w' hw'
    have := hdrop w' hw'
    simpa using this
  have HQ : Hid (EntsIn w (some ⟨b, o, none⟩) (⟨kx, vx, sx, dx⟩ :: t) ∧ p' = some ⟨b, if c = 1 then o else o + 4, none⟩) := ⟨h4, hp2⟩
  obtain ⟨⟨z0, z1, z2, z3⟩, f0, f1, f2, f3⟩ := four hr3
  obtain ⟨y0, y1, y2, y3⟩ := four_cells hx3
  have HR3 : Hid (W3.heap[w.heap.size]? = some (.cells zE 23 (0, 0))) := hr3
  clear h h1 h2 h3 h4 h5 h6 h7 h8 hgl hbb hbk hbl hg1 hg2 hdrop hp' hp2 hn2 hc2 hoth hr3 hx3 hg3
  go_enter Try.func13, Try.ntmps13
  go_wp2
  (try simp only [Exit.inBlock, Exit.then])
  refine bodyPost_ret (v := .tuple #[entV ⟨kx, vx, sx, dx⟩, .bool true, .int .i64 0]) ?_ rfl ⟨rfl, ?_⟩
  · rw [results_cell_tmp2 rfl]
    go_simp
    rfl
  · obtain ⟨a1, a2, a3, a4, a5, a6, a7, a8, a9, a10⟩ := HF.out
    have hbq : ∀ a b' c' d', ((((W3.setCell ⟨w.heap.size, 0, none⟩ a).setCell ⟨w.heap.size, 1, none⟩ b').setCell ⟨w.heap.size, 2, none⟩ c').setCell ⟨w.heap.size, 3, none⟩ d').heap[b]? = w.heap[b]? := fun a b' c' d' => by
      rw [set4_far b (by omega), a9]
      exact HO3.out _ _ a8 a10 a9
    refine ⟨⟨p', n2, c2, ?_, a2, a4, ?_, a5, a6, fun h => ?_, fun a ha => ?_⟩, ⟨set4_at HB3.out HC.out.2, fun b' cs' t' fr' e he => ?_⟩⟩
    · rw [set4_far g (by omega)]; exact a1
    · refine HE.out _ (EntsIn.blk HQ.out.1 (fun a ha => ?_))
      simp only [Option.some.injEq] at ha
      subst ha
      exact hbq _ _ _ _
    · rw [HQ.out.2] at h; cases h
    · rw [HQ.out.2] at ha
      simp only [Option.some.injEq] at ha
      subst ha
      exact ⟨a7, cs, fr, (hbq _ _ _ _).trans a9⟩
    · have hlt := lt_heap e
      have hne : b' ≠ g := by
        intro eg
        subst eg
        obtain ⟨q0, n0, c0, z, _⟩ := HC.out.1.out
        rw [z] at e
        simp only [Option.some.injEq, Obj.cells.injEq] at e
        exact he e.2.1.symm
      rw [set4_far b' (by omega)]
      exact HO3.out _ _ hlt hne e
end Go.Proofs.Ytbnacopefclklaa
namespace Go.Proofs.Ytbnacopefclklaa.mergeNames
open Go.ChangeShapes Go.WideShapes Go.ChangeAt Go.RowKit
open Go.ChangeMaps (open_string shut_string)
set_option linter.unusedVariables false

theorem own : ownKnob Try.prog.godebug = none := by kernel_rfl
theorem laidOut : laidOutB Try.prog = true := by kernel_rfl

def gK (k : ByteArray) (s : Int) : EntV := ⟨k, ByteArray.empty, s, true⟩
def nmR : List (List EntV) := [[eK aA 1, eK bB 2], [gK aA 3]]
def nmA : List EntV := [gK aA 3, eK aA 1, eK bB 2]
def nmL : List EntV := [eK aA 3, eK aA 2, eK aA 1, gK bB 1]
theorem nm_rise : RiseE nmA := by decide +kernel
theorem nm_all : allE nmR = (nmA, 0) := by
  refine (allE_of (L := nmA) (by decide +kernel) ?_ ?_).1 nm_rise
  · exact List.perm_append_comm (l₁ := [gK aA 3]) (l₂ := [eK aA 1, eK bB 2])
  · decide +kernel
theorem nm_live2 : liveE nmR 2 = ([eK aA 1, eK bB 2], 0) := by
  rw [liveE_at nm_all, if_pos (by decide), ← pick_count nm_rise 2]
  kernel_rfl
theorem nm_live3 : liveE nmR 3 = ([eK bB 2], 0) := by
  rw [liveE_at nm_all, if_pos (by decide), ← pick_count nm_rise 3]
  kernel_rfl
theorem nm_err : thinErr nmL = 0 := by decide +kernel
theorem nm_thin1 : thinF nmL 2 false = ([eK aA 3, eK aA 2, gK bB 1], 0) := by
  unfold thinF
  rw [if_neg (fun h => h nm_err), if_pos (by decide), ← pick_thin (thinErr_zero.1 nm_err).2.2 2 false]
  kernel_rfl
theorem nm_thin2 : thinF nmL 2 true = ([eK aA 3, eK aA 2], 0) := by
  unfold thinF
  rw [if_neg (fun h => h nm_err), if_pos (by decide), ← pick_thin (thinErr_zero.1 nm_err).2.2 2 true]
  kernel_rfl
theorem nm_all2 : allE [[eK aA 1], [eK aA 1]] = ([], 100) := by
  refine (allE_of (L := [eK aA 1, eK aA 1]) (by decide +kernel) ?_ ?_).2 (by decide +kernel)
  · exact List.Perm.refl _
  · decide +kernel
theorem nm_thin3 : thinF [eK bB 1, eK aA 1] 1 true = ([], 100) := by
  have h : thinErr [eK bB 1, eK aA 1] = 100 := by decide +kernel
  unfold thinF
  rw [h]
  exact if_pos (by decide)
theorem ents_bel {w w' : World} {g : Nat} {l : List EntV} {t : TypeId} {fr : Nat × Nat} (h : w.heap[g]? = some (.cells (cellsE l).toArray t fr)) (hb : Below w.heap.size w w') : EntsIn w' (some ⟨g, 0, none⟩) l := ents_blk (block_belowR h hb)
theorem row_bel {w w' : World} {g : Nat} {l : List EntV} {t : TypeId} {fr : Nat × Nat} (n : Nat) (h : w.heap[g]? = some (.cells (cellsE l).toArray t fr)) (hb : Below w.heap.size w w') (hn : n = l.length) (hm : n ≤ 100) : RowOk w' ⟨some ⟨g, 0, none⟩, n, n, l⟩ := ⟨hn, ents_bel h hb, Nat.le_refl _, by show n ≤ maxLen; unfold maxLen; omega, fun h => by cases h⟩
set_option maxRecDepth 8000 in
set_option maxHeartbeats 16000000 in
theorem walk (W : World) :
    Calls Try.prog 3 #[] W fun e W' => e = .returned (.bool true) ∧ Below W.heap.size W W' := by
  have HO := fun k s w' => of_any k s w'
  go_enter Try.func3, Try.ntmps3
  go_wp2_with fail
  refine (HO _ _ _).mono ?_
  rintro e w1 ⟨rfl, hb1⟩
  go_wp2_with fail
  refine (HO _ _ _).mono ?_
  rintro e w2 ⟨rfl, hb2⟩
  -- the rows
  obtain ⟨w3, hw3⟩ : ∃ w3, w3 = w2.alloc (.cells (cellsE [eK aA 1, eK bB 2]).toArray 23) := ⟨_, rfl⟩
  obtain ⟨w4, hw4⟩ : ∃ w4, w4 = w3.alloc (.cells (cellsE [gK aA 3]).toArray 23) := ⟨_, rfl⟩
  obtain ⟨w5, hw5⟩ : ∃ w5, w5 = w4.alloc (.cells #[.slice (some ⟨w2.heap.size, 0, none⟩) 2 2, .slice (some ⟨w2.heap.size + 1, 0, none⟩) 1 1] 25) := ⟨_, rfl⟩
  have b23 : Below w2.heap.size w2 w3 := by rw [hw3]; exact below_alloc _ _
  have b34 : Below w3.heap.size w3 w4 := by rw [hw4]; exact below_alloc _ _
  have b45 : Below w4.heap.size w4 w5 := by rw [hw5]; exact below_alloc _ _
  have s3 : w3.heap.size = w2.heap.size + 1 := by rw [hw3]; simp
  have s4 : w4.heap.size = w2.heap.size + 2 := by rw [hw4]; simp [s3]
  have g1 : w3.heap[w2.heap.size]? = some (.cells (cellsE [eK aA 1, eK bB 2]).toArray 23 (0, 0)) := by rw [hw3]; exact heap_alloc_new _ _
  have g2 : w4.heap[w2.heap.size + 1]? = some (.cells (cellsE [gK aA 3]).toArray 23 (0, 0)) := by have := heap_alloc_new w3 (.cells (cellsE [gK aA 3]).toArray 23); rw [s3, ← hw4] at this; exact this
  have g3 : w5.heap[w2.heap.size + 2]? = some (.cells #[.slice (some ⟨w2.heap.size, 0, none⟩) 2 2, .slice (some ⟨w2.heap.size + 1, 0, none⟩) 1 1] 25 (0, 0)) := by have := heap_alloc_new w4 (.cells #[.slice (some ⟨w2.heap.size, 0, none⟩) 2 2, .slice (some ⟨w2.heap.size + 1, 0, none⟩) 1 1] 25); rw [s4, ← hw5] at this; exact this
  have hR := rows_two (w := w5) (r := ⟨some ⟨w2.heap.size, 0, none⟩, 2, 2, [eK aA 1, eK bB 2]⟩) (s := ⟨some ⟨w2.heap.size + 1, 0, none⟩, 1, 1, [gK aA 3]⟩) g3 (row_bel 2 g1 (below_bt b34 b45) rfl (by omega)) (row_bel 1 g2 b45 rfl (by omega))
  have HB5 : Hid (Below W.heap.size W w5 ∧ RowsL w5 (some ⟨w2.heap.size + 2, 0, none⟩) 2 [⟨some ⟨w2.heap.size, 0, none⟩, 2, 2, [eK aA 1, eK bB 2]⟩, ⟨some ⟨w2.heap.size + 1, 0, none⟩, 1, 1, [gK aA 3]⟩]) := ⟨below_bt (below_bt (below_bt (below_bt (below_bt hb1 hb2) b23) b34) b45) (Below.refl _ _), hR⟩
  have HV1 := Live_any (some ⟨w2.heap.size + 2, 0, none⟩) 2 2 _ 2 w5 hR (by omega) _ _ nm_live2
  rw [hw5, hw4, hw3] at HV1
  clear b23 b34 b45 s3 s4 g1 g2 g3 hR hb1 hb2
  go_wp2_with fail
  refine HV1.mono ?_
  rintro e w6 ⟨v6, rfl, h6⟩
  rw [← hw3, ← hw4, ← hw5] at h6
  obtain ⟨q6, c6, rfl, _, _, _⟩ := h6.own.form
  rw [show [eK aA 1, eK bB 2].length = 2 from rfl]
  have H6 : Hid (Below W.heap.size W w6 ∧ EntsIn w6 q6 [eK aA 1, eK bB 2]) := ⟨below_bt HB5.out.1 h6.bel, h6.own.ents⟩
  have HV2 := Live_any (some ⟨w2.heap.size + 2, 0, none⟩) 2 2 _ 3 w6 (HB5.out.2.below h6.bel) (by omega) _ _ nm_live3
  clear HV1 h6 hw3 hw4 hw5
  go_wp2_with fail
  refine HV2.mono ?_
  rintro e w7 ⟨v7, rfl, h7⟩
  obtain ⟨q7, c7, rfl, _, _, _⟩ := h7.own.form
  rw [show [eK bB 2].length = 1 from rfl]
  have H7 : Hid (Below W.heap.size W w7 ∧ EntsIn w7 q6 [eK aA 1, eK bB 2] ∧ EntsIn w7 q7 [eK bB 2]) := ⟨below_bt H6.out.1 h7.bel, H6.out.2.below h7.bel, h7.own.ents⟩
  clear HV2 h7 H6 HB5
  go_wp2_with fail
  refine (HO _ _ _).mono ?_
  rintro e w8 ⟨rfl, hb8⟩
  go_wp2_with fail
  refine (HO _ _ _).mono ?_
  rintro e w9 ⟨rfl, hb9⟩
  go_wp2_with fail
  refine (HO _ _ _).mono ?_
  rintro e w10 ⟨rfl, hb10⟩
  obtain ⟨w11, hw11⟩ : ∃ w11, w11 = w10.alloc (.cells (cellsE nmL).toArray 23) := ⟨_, rfl⟩
  have b711 : Below w7.heap.size w7 w11 := by rw [hw11]; exact below_bt (below_bt (below_bt hb8 hb9) hb10) (below_alloc _ _)
  have H11 : Hid (Below W.heap.size W w11 ∧ EntsIn w11 q6 [eK aA 1, eK bB 2] ∧ EntsIn w11 q7 [eK bB 2] ∧ w11.heap[w10.heap.size]? = some (.cells (cellsE nmL).toArray 23 (0, 0))) := ⟨below_bt H7.out.1 b711, H7.out.2.1.below b711, H7.out.2.2.below b711, by rw [hw11]; exact heap_alloc_new _ _⟩
  have HT1 := Thin_any (some ⟨w10.heap.size, 0, none⟩) 4 4 nmL 2 false w11 ⟨rfl, ents_blk H11.out.2.2.2⟩ (Nat.le_refl _) (by omega) _ _ nm_thin1
  rw [hw11] at HT1
  clear hb8 hb9 hb10 b711 H7
  go_wp2_with fail
  refine HT1.mono ?_
  rintro e w12 ⟨v12, rfl, h12⟩
  rw [← hw11] at h12
  obtain ⟨q12, c12, rfl, _, _, _⟩ := h12.own.form
  rw [show [eK aA 3, eK aA 2, gK bB 1].length = 3 from rfl]
  have H12 : Hid (Below W.heap.size W w12 ∧ EntsIn w12 q6 [eK aA 1, eK bB 2] ∧ EntsIn w12 q7 [eK bB 2] ∧ w12.heap[w10.heap.size]? = some (.cells (cellsE nmL).toArray 23 (0, 0)) ∧ EntsIn w12 q12 [eK aA 3, eK aA 2, gK bB 1]) := ⟨below_bt H11.out.1 h12.bel, H11.out.2.1.below h12.bel, H11.out.2.2.1.below h12.bel, block_belowR H11.out.2.2.2 h12.bel, h12.own.ents⟩
  have HT2 := Thin_any (some ⟨w10.heap.size, 0, none⟩) 4 4 nmL 2 true w12 ⟨rfl, ents_blk H12.out.2.2.2.1⟩ (Nat.le_refl _) (by omega) _ _ nm_thin2
  clear HT1 h12 hw11 H11
  go_wp2_with fail
  refine HT2.mono ?_
  rintro e w13 ⟨v13, rfl, h13⟩
  obtain ⟨q13, c13, rfl, _, _, _⟩ := h13.own.form
  rw [show [eK aA 3, eK aA 2].length = 2 from rfl]
  have H13 : Hid (Below W.heap.size W w13 ∧ EntsIn w13 q6 [eK aA 1, eK bB 2] ∧ EntsIn w13 q7 [eK bB 2] ∧ w13.heap[w10.heap.size]? = some (.cells (cellsE nmL).toArray 23 (0, 0)) ∧ EntsIn w13 q12 [eK aA 3, eK aA 2, gK bB 1] ∧ EntsIn w13 q13 [eK aA 3, eK aA 2]) := ⟨below_bt H12.out.1 h13.bel, H12.out.2.1.below h13.bel, H12.out.2.2.1.below h13.bel, block_belowR H12.out.2.2.2.1 h13.bel, H12.out.2.2.2.2.below h13.bel, h13.own.ents⟩
  clear HT2 h13 H12
  go_wp2_with fail
  refine (HO _ _ _).mono ?_
  rintro e w14 ⟨rfl, hb14⟩
  go_wp2_with fail
  refine (HO _ _ _).mono ?_
  rintro e w16 ⟨rfl, hb16⟩
  obtain ⟨w15, hw15⟩ : ∃ w15, w15 = w14.alloc (.cells (cellsE [eK aA 1]).toArray 23) := ⟨_, rfl⟩
  have hb16' : Below w15.heap.size w15 w16 := by rw [hw15]; exact hb16
  have g15 : w15.heap[w14.heap.size]? = some (.cells (cellsE [eK aA 1]).toArray 23 (0, 0)) := by rw [hw15]; exact heap_alloc_new _ _
  have b1415 : Below w14.heap.size w14 w15 := by rw [hw15]; exact below_alloc _ _
  obtain ⟨w17, hw17⟩ : ∃ w17, w17 = w16.alloc (.cells (cellsE [eK aA 1]).toArray 23) := ⟨_, rfl⟩
  obtain ⟨w18, hw18⟩ : ∃ w18, w18 = w17.alloc (.cells #[.slice (some ⟨w14.heap.size, 0, none⟩) 1 1, .slice (some ⟨w16.heap.size, 0, none⟩) 1 1] 25) := ⟨_, rfl⟩
  have b1617 : Below w16.heap.size w16 w17 := by rw [hw17]; exact below_alloc _ _
  have b1718 : Below w17.heap.size w17 w18 := by rw [hw18]; exact below_alloc _ _
  have s17 : w17.heap.size = w16.heap.size + 1 := by rw [hw17]; simp
  have g17 : w17.heap[w16.heap.size]? = some (.cells (cellsE [eK aA 1]).toArray 23 (0, 0)) := by rw [hw17]; exact heap_alloc_new _ _
  have g18 : w18.heap[w16.heap.size + 1]? = some (.cells #[.slice (some ⟨w14.heap.size, 0, none⟩) 1 1, .slice (some ⟨w16.heap.size, 0, none⟩) 1 1] 25 (0, 0)) := by have := heap_alloc_new w17 (.cells #[.slice (some ⟨w14.heap.size, 0, none⟩) 1 1, .slice (some ⟨w16.heap.size, 0, none⟩) 1 1] 25); rw [s17, ← hw18] at this; exact this
  have hR2 := rows_two (w := w18) (r := ⟨some ⟨w14.heap.size, 0, none⟩, 1, 1, [eK aA 1]⟩) (s := ⟨some ⟨w16.heap.size, 0, none⟩, 1, 1, [eK aA 1]⟩) g18 (row_bel 1 g15 (below_bt (below_bt hb16' b1617) b1718) rfl (by omega)) (row_bel 1 g17 b1718 rfl (by omega))
  have HA3 := All_any (some ⟨w16.heap.size + 1, 0, none⟩) 2 2 _ w18 hR2 (by omega) _ _ nm_all2
  have b1318 : Below w13.heap.size w13 w18 := below_bt (below_bt (below_bt (below_bt hb14 b1415) hb16') b1617) b1718
  have HB18 : Hid (Below w13.heap.size w13 w18) := b1318
  rw [hw18, hw17] at HA3
  clear hb14 hb16 hb16' g15 b1415 b1617 b1718 s17 g17 g18 hR2 b1318 hw15
  go_wp2_with fail
  refine HA3.mono ?_
  rintro e w19 ⟨v19, rfl, h19⟩
  rw [← hw17, ← hw18] at h19
  have HB19 : Hid (Below w13.heap.size w13 w19) := below_bt HB18.out h19.bel
  clear HA3 h19 hw17 hw18
  go_wp2_with fail
  refine (HO _ _ _).mono ?_
  rintro e w20 ⟨rfl, hb20⟩
  go_wp2_with fail
  refine (HO _ _ _).mono ?_
  rintro e w21 ⟨rfl, hb21⟩
  have HT3 := Thin_any (some ⟨w21.heap.size, 0, none⟩) 2 2 [eK bB 1, eK aA 1] 1 true (w21.alloc (.cells (cellsE [eK bB 1, eK aA 1]).toArray 23)) ⟨rfl, ents_blk (heap_alloc_new _ _)⟩ (Nat.le_refl _) (by omega) _ _ nm_thin3
  have HB22 : Hid (Below w13.heap.size w13 (w21.alloc (.cells (cellsE [eK bB 1, eK aA 1]).toArray 23))) := below_bt (below_bt (below_bt HB19.out hb20) hb21) (below_alloc _ _)
  clear hb20 hb21
  go_wp2_with fail
  refine HT3.mono ?_
  rintro e w23 ⟨v23, rfl, h23⟩
  have HB24 : Hid (Below w13.heap.size w13 (w23.alloc (.cells #[.bool false, .slice none 0 0] 34))) := below_bt (below_bt HB22.out h23.bel) (below_alloc _ _)
  clear HT3 h23
  have HN1 := next_nil (w23.alloc (.cells #[.bool false, .slice none 0 0] 34))
  rw [show entV zeroE = .agg #[.string ⟨#[]⟩, .string ⟨#[]⟩, .int .i64 0, .bool false] from rfl] at HN1
  go_wp2_with fail
  refine HN1.mono ?_
  rintro e w25 ⟨rfl, hb25⟩
  have hcu := block_belowR (block_belowR (heap_alloc_new w23 (.cells #[.bool false, .slice none 0 0] 34)) hb25) (below_alloc w25 (.cells zE 23))
  have HN2 := next_plain w23.heap.size (.slice none 0 0) (w25.alloc (.cells zE 23)) hcu
  rw [show entV zeroE = .agg #[.string ⟨#[]⟩, .string ⟨#[]⟩, .int .i64 0, .bool false] from rfl] at HN2
  have HB26 : Hid (Below w13.heap.size w13 (w25.alloc (.cells zE 23))) := below_bt (below_bt HB24.out hb25) (below_alloc _ _)
  clear HN1 hb25 hcu
  go_wp2_with fail
  refine HN2.mono ?_
  rintro e w27 ⟨rfl, hb27⟩
  have HB28 : Hid (Below w13.heap.size w13 (w27.alloc (.cells zE 23))) := below_bt (below_bt HB26.out hb27) (below_alloc _ _)
  clear HN2 hb27
  have HB28d : Hid (Below w13.heap.size w13 (w27.alloc (.cells zE 23)).drew) := HB28.out.drew
  have KS : Hid (∀ w', Below w13.heap.size w13 w' → (w'.cell? ⟨w10.heap.size, 0, none⟩ = some (.string ⟨#[97]⟩) ∧ w'.cell? ⟨w10.heap.size, 1, none⟩ = some (.string ⟨#[]⟩) ∧ w'.cell? ⟨w10.heap.size, 2, none⟩ = some (.int .i64 3) ∧ w'.cell? ⟨w10.heap.size, 3, none⟩ = some (.bool false) ∧ w'.cell? ⟨w10.heap.size, 4, none⟩ = some (.string ⟨#[97]⟩) ∧ w'.cell? ⟨w10.heap.size, 5, none⟩ = some (.string ⟨#[]⟩) ∧ w'.cell? ⟨w10.heap.size, 6, none⟩ = some (.int .i64 2) ∧ w'.cell? ⟨w10.heap.size, 7, none⟩ = some (.bool false) ∧ w'.cell? ⟨w10.heap.size, 12, none⟩ = some (.string ⟨#[98]⟩) ∧ w'.cell? ⟨w10.heap.size, 13, none⟩ = some (.string ⟨#[]⟩) ∧ w'.cell? ⟨w10.heap.size, 14, none⟩ = some (.int .i64 1) ∧ w'.cell? ⟨w10.heap.size, 15, none⟩ = some (.bool true)) ∧ Below w13.heap.size w13 w') := by
    intro w' hb
    have h := block_belowR H13.out.2.2.2.1 hb
    exact ⟨⟨Lib.cell_of_heap h 0, Lib.cell_of_heap h 1, Lib.cell_of_heap h 2, Lib.cell_of_heap h 3, Lib.cell_of_heap h 4, Lib.cell_of_heap h 5, Lib.cell_of_heap h 6, Lib.cell_of_heap h 7, Lib.cell_of_heap h 12, Lib.cell_of_heap h 13, Lib.cell_of_heap h 14, Lib.cell_of_heap h 15⟩, hb⟩
  have HF1 : Hid (∀ w' g, Below w13.heap.size w13 w' → w'.heap[g]? = some (.cells (cellsE [eK aA 1, eK bB 2]).toArray 23 (0, 0)) → Calls Try.prog 15 #[.slice q6 2 c6, .slice (some ⟨g, 0, none⟩) 2 2] w' fun e w'' => e = .returned (.bool true) ∧ Below w'.heap.size w' w'') := fun w' g hb hg => same_yes q6 (some ⟨g, 0, none⟩) 2 c6 2 [eK aA 1, eK bB 2] w' rfl (by omega) (H13.out.2.1.below hb) (ents_blk hg)
  have HF2 : Hid (∀ w' g, Below w13.heap.size w13 w' → w'.heap[g]? = some (.cells (cellsE [eK bB 2]).toArray 23 (0, 0)) → Calls Try.prog 15 #[.slice q7 1 c7, .slice (some ⟨g, 0, none⟩) 1 1] w' fun e w'' => e = .returned (.bool true) ∧ Below w'.heap.size w' w'') := fun w' g hb hg => same_yes q7 (some ⟨g, 0, none⟩) 1 c7 1 [eK bB 2] w' rfl (by omega) (H13.out.2.2.1.below hb) (ents_blk hg)
  have HF3 : Hid (∀ w' g, Below w13.heap.size w13 w' → w'.heap[g]? = some (.cells (cellsE [eK aA 3, eK aA 2, gK bB 1]).toArray 23 (0, 0)) → Calls Try.prog 15 #[.slice q12 3 c12, .slice (some ⟨g, 0, none⟩) 3 3] w' fun e w'' => e = .returned (.bool true) ∧ Below w'.heap.size w' w'') := fun w' g hb hg => same_yes q12 (some ⟨g, 0, none⟩) 3 c12 3 [eK aA 3, eK aA 2, gK bB 1] w' rfl (by omega) (H13.out.2.2.2.2.1.below hb) (ents_blk hg)
  have HF4 : Hid (∀ w', Below w13.heap.size w13 w' → Calls Try.prog 15 #[.slice q13 2 c13, .slice (some ⟨w10.heap.size, 0, none⟩) 2 4] w' fun e w'' => e = .returned (.bool true) ∧ Below w'.heap.size w' w'') := fun w' hb => same_yes q13 (some ⟨w10.heap.size, 0, none⟩) 2 c13 4 [eK aA 3, eK aA 2] w' rfl (by omega) (H13.out.2.2.2.2.2.below hb) ((ents_blk (block_belowR H13.out.2.2.2.1 hb)).take' 2)
  have HB13 : Hid (Below W.heap.size W w13) := H13.out.1
  clear HB18 HB19 HB22 HB24 HB26 H13
  go_wp2_with fail
  (try simp only [List.append_eq, List.cons_append, List.nil_append])
  go_region_held3 (fun w' => (w'.cell? ⟨w10.heap.size, 0, none⟩ = some (.string ⟨#[97]⟩) ∧ w'.cell? ⟨w10.heap.size, 1, none⟩ = some (.string ⟨#[]⟩) ∧ w'.cell? ⟨w10.heap.size, 2, none⟩ = some (.int .i64 3) ∧ w'.cell? ⟨w10.heap.size, 3, none⟩ = some (.bool false) ∧ w'.cell? ⟨w10.heap.size, 4, none⟩ = some (.string ⟨#[97]⟩) ∧ w'.cell? ⟨w10.heap.size, 5, none⟩ = some (.string ⟨#[]⟩) ∧ w'.cell? ⟨w10.heap.size, 6, none⟩ = some (.int .i64 2) ∧ w'.cell? ⟨w10.heap.size, 7, none⟩ = some (.bool false) ∧ w'.cell? ⟨w10.heap.size, 12, none⟩ = some (.string ⟨#[98]⟩) ∧ w'.cell? ⟨w10.heap.size, 13, none⟩ = some (.string ⟨#[]⟩) ∧ w'.cell? ⟨w10.heap.size, 14, none⟩ = some (.int .i64 1) ∧ w'.cell? ⟨w10.heap.size, 15, none⟩ = some (.bool true)) ∧ Below w13.heap.size w13 w')
    (with_reducible first
      | exact KS.out _ HBs4.out
      | exact KS.out _ HBs3.out
      | exact KS.out _ (below_bt HBs2.out (below_alloc _ _))
      | exact KS.out _ HBs2.out
      | exact KS.out _ (below_bt HBo3.out (below_alloc _ _))
      | exact KS.out _ HBo3.out
      | exact KS.out _ HBs1.out
      | exact KS.out _ (below_bt HBo2.out (below_alloc _ _))
      | exact KS.out _ HBo2.out
      | exact KS.out _ HBo1.out
      | exact KS.out _ HBal.out
      | exact KS.out _ HB28d.out
      | assumption)
    (first
      | (go_at_call 15; have q := HBs3.out; clear q; refine (HF4.out _ HBs3.out).mono ?_; rintro e ws4 ⟨rfl, hb4⟩; have HBs4 : Hid (Below w13.heap.size w13 ws4) := below_bt HBs3.out hb4; clear hb4)
      | (go_at_call 15; have q := HBs2.out; clear q; refine (HF3.out _ _ (below_bt HBs2.out (below_alloc _ _)) (heap_alloc_new _ _)).mono ?_; rintro e ws3 ⟨rfl, hb3⟩; have HBs3 : Hid (Below w13.heap.size w13 ws3) := below_bt (below_bt HBs2.out (below_alloc _ _)) hb3; clear hb3)
      | (go_at_call 15; have q := HBo3.out; clear q; refine (HF2.out _ _ (below_bt HBo3.out (below_alloc _ _)) (heap_alloc_new _ _)).mono ?_; rintro e ws2 ⟨rfl, hb2⟩; have HBs2 : Hid (Below w13.heap.size w13 ws2) := below_bt (below_bt HBo3.out (below_alloc _ _)) hb2; clear hb2)
      | (go_at_call 9; have q := HBs1.out; clear q; refine (HO _ _ _).mono ?_; rintro e wo3 ⟨rfl, hb3⟩; have HBo3 : Hid (Below w13.heap.size w13 wo3) := below_bt HBs1.out hb3; clear hb3)
      | (go_at_call 15; have q := HBo2.out; clear q; refine (HF1.out _ _ (below_bt HBo2.out (below_alloc _ _)) (heap_alloc_new _ _)).mono ?_; rintro e ws1 ⟨rfl, hb1⟩; have HBs1 : Hid (Below w13.heap.size w13 ws1) := below_bt (below_bt HBo2.out (below_alloc _ _)) hb1; clear hb1)
      | (go_at_call 9; have q := HBo1.out; clear q; refine (HO _ _ _).mono ?_; rintro e wo2 ⟨rfl, hb2⟩; have HBo2 : Hid (Below w13.heap.size w13 wo2) := below_bt HBo1.out hb2; clear hb2)
      | (go_at_call 9; have q := HBal.out; clear q; refine (HO _ _ _).mono ?_; rintro e wo1 ⟨rfl, hb1⟩; have HBo1 : Hid (Below w13.heap.size w13 wo1) := below_bt HBal.out hb1; clear hb1)
      | (go_at_call 14; refine (alive_any _).mono ?_; rintro e wal ⟨rfl, hba⟩; have HBal : Hid (Below w13.heap.size w13 wal) := below_bt HB28d.out hba; clear hba)
      | fail)
  go_wp2
  go_ret
  exact ⟨rfl, below_bt HB13.out HBs4.out⟩

/-! ### THE ROW's STEP -/
set_option maxRecDepth 100000 in
theorem lifted (os : Os) (started : os.Started) (H : Type) (enc : TypeId × Value → H) :
    ReturnsInHanded {} Try.checked os 3 .any (Rows.mergeNamesSpec.pre6 enc Try.prog Try.f3 Rows.mergeNamesRow.domain false) (Rows.mergeNamesSpec.post enc Try.prog Try.f3 false true false false) := by
  refine returnsInHanded_of_change (C := Try.checked) own started (by kernel_rfl) Try.func3
    (ChangeSpec.witness6 (enc := enc) (C := Try.checked) false ⟨#[], #[], []⟩ 8 (by kernel_rfl) (by kernel_rfl) (by kernel_rfl) (by kernel_rfl)) ?_
  intro W base args ds gs before hval0 hW hcnd _
  have hval : ∀ (j : Nat) t v, Try.f3.params[j]? = some t → args[j]? = some v → Value.okWide Try.prog W .any base t v := hval0
  have hW' := hW
  obtain ⟨p, q, hA0, hV, rfl, hfz, hnd⟩ := hW
  have hA : DataW.TrodAll enc Try.prog W 0 (fun _ => true) true Try.f3.params.toList args.toList ds p := hA0
  rw [Try.params3] at hA hval
  obtain ⟨hargs, rfl, rfl⟩ := trodAll_nil hA
  obtain rfl : args = #[] := by cases args; simp_all
  obtain ⟨rfl, rfl⟩ := trodVars_none hV
  clear hA0 hval0
  refine (walk  W ).mono fun e W' ⟨he, bel⟩ => ?_
  subst he
  exact ⟨_, rfl, _, _, _, [], _, [], hW', trodAll_mk1 (shut_bool Try.underlying4 _), trodAll_mk0, rfl, bel.frame _, fun h => by cases h⟩

theorem over : Rows.mergeNamesRow.holds Try.pinned (OpenSpec.ofChange Rows.mergeNamesSpec) :=
  OpenClaim.holds_of_wide 3 Try.f3 rfl rfl rfl rfl rfl rfl rfl ⟨rfl, rfl, rfl, rfl, rfl⟩ rfl rfl rfl rfl rfl (by kernel_rfl) Try.func3 (by kernel_rfl)
    (of_decide_eq_true (by kernel_rfl)) (by unfold Func.isWrapper; first | (rw [if_pos (by decide +kernel)]; kernel_rfl) | (rw [if_neg (by decide +kernel)]; exact ⟨rfl, rfl⟩))
    (fun os started H enc _ => lifted os started H enc)

theorem proved : Rows.MergeNamesSaid := over
end Go.Proofs.Ytbnacopefclklaa.mergeNames
namespace Go.Proofs.Ytbnacopefclklaa
theorem mergeNames_holds : Rows.MergeNamesSaid := mergeNames.proved
#print axioms mergeNames_holds
end Go.Proofs.Ytbnacopefclklaa
