/-
  A cursor: New and Next.
-/
import Derived.Test.YtbnacopefclklaaJ07
import Derived.SizedLaws
import Derived.Deep.Slices
import Derived.Test.YtbnacopefclklaaJ06
namespace Go.Proofs.Ytbnacopefclklaa
open Go.RowKit Go.WideShapes

set_option maxRecDepth 8000 in
set_option maxHeartbeats 4000000 in
theorem Thin_any (q : Option Addr) (n c : Nat) (A : List EntV) (s : Int) (last : Bool) (w : World) (h : EntsL w q n A) (hnc : n ≤ c) (hnb : (n : Int) ≤ 9223372036854775807) (L : List EntV) (E : Nat) (hE : thinF A s last = (L, E)) :
    Calls Try.prog 11 #[.slice q n c, .int .i64 s, .bool last] w fun e w' => ∃ v, e = .returned (.tuple #[v, .int .i64 (E : Int)]) ∧ OnB w v L w' := by
  obtain ⟨F, hF⟩ : ∃ F, thinErr A = F := ⟨_, rfl⟩
  have HAL := checkRising_any q n c A w h hnc hnb F hF
  have HE : Hid ((if F ≠ 0 then ([], F) else if 0 ≤ s ∧ s ≤ 2147483647 then (thinE A s last, 0) else ([], 2)) = (L, E)) := by
    show _ = _
    rw [← hE]
    unfold thinF
    rw [hF]
  have HF : Hid (thinErr A = F) := hF
  obtain ⟨bs, hbs⟩ : ∃ bs, decide (0 ≤ s ∧ s ≤ 2147483647) = bs := ⟨_, rfl⟩
  have HIS := fun w' => isSeq_any s w' bs hbs
  have HBS : Hid (decide (0 ≤ s ∧ s ≤ 2147483647) = bs) := hbs
  have HQ : Hid (EntsIn w q A ∧ n = A.length) := ⟨h.lies, h.n⟩
  clear h hnb hE hF hbs hnc
  go_enter Try.func11, Try.ntmps11
  go_wp2_with fail
  refine HAL.mono ?_
  rintro e w1 ⟨rfl, hb1⟩
  have H1 : Hid (EntsIn w1 q A ∧ Below w.heap.size w w1) := ⟨HQ.out.1.below hb1, hb1⟩
  clear HAL hb1
  by_cases hF : F = 0
  · subst hF
    obtain ⟨r1, r2, r3⟩ := thinErr_zero.1 HF.out
    have HR : Hid (RiseE A ∧ A.length ≤ 16384) := ⟨r3, r1⟩
    have HM : Hid (A.length = n) := HQ.out.2.symm
    have mI : (n : Int) ≤ 16384 := by have := HR.out; have := HM.out; omega
    clear r1 r2 r3
    cases bs with
    | false =>
      have hv := HE.out
      rw [if_neg (by simp), if_neg (of_decide_eq_false HBS.out), Prod.mk.injEq] at hv
      obtain ⟨rfl, rfl⟩ := hv
      go_wp2_with fail
      refine (HIS _).mono ?_
      rintro e w2 ⟨rfl, hw2⟩
      have hw2 := hw2.symm
      subst hw2
      go_wp2
      go_ret2
      exact ⟨_, rfl, eown_nil _ _, H1.out.2⟩
    | true =>
      have hv := HE.out
      rw [if_neg (by simp), if_pos (of_decide_eq_true HBS.out), Prod.mk.injEq] at hv
      obtain ⟨hv, rfl⟩ := hv
      have HV : Hid (thinE A s last = L) := hv
      clear hv
      go_wp2_with fail
      refine (HIS _).mono ?_
      rintro e w2 ⟨rfl, hw2⟩
      have hw2 := hw2.symm
      subst hw2
      clear HIS
      go_wp2
      go_loopw [9, 22] (fun s9 s22 wr => ∃ k : Nat, s22 = .int .i64 (k : Int) ∧ k ≤ n ∧ EOwn wr w1.heap.size s9 (pickE (fun i => thinAt A i s last) A k) ∧ Below w1.heap.size w1 wr) (fun _ s22 _ => n - (intOf s22).toNat)
      case atStart => exact ⟨0, rfl, by omega, eown_nil _ _, Below.refl _ _⟩
      case round =>
        obtain ⟨k, rfl, hk, ho, hbel⟩ := hrel
        obtain ⟨qo, co, rfl, _, _, _⟩ := ho.form
        have HO : Hid (EOwn wr w1.heap.size (.slice qo (pickE (fun i => thinAt A i s last) A k).length co) (pickE (fun i => thinAt A i s last) A k) ∧ Below w1.heap.size w1 wr) := ⟨ho, hbel⟩
        obtain ⟨P, hP⟩ : ∃ P, pickE (fun i => thinAt A i s last) A k = P := ⟨_, rfl⟩
        have HP : Hid (pickE (fun i => thinAt A i s last) A k = P ∧ P.length ≤ 16384) := ⟨hP, by rw [← hP]; have := pickE_len (fun i => thinAt A i s last) A k; have := HR.out; have := HM.out; omega⟩
        rw [hP] at HO ⊢
        obtain ⟨lp, hlp⟩ : ∃ lp, P.length = lp := ⟨_, rfl⟩
        have HLP : Hid (P.length = lp) := hlp
        rw [hlp] at HO ⊢
        clear hP hlp ho hbel
        by_cases hkm : k < n
        · have hkI : (k : Int) < (n : Int) := by omega
          have k0 : (0 : Int) ≤ (k : Int) := by omega
          have HKM : Hid (k < n) := hkm
          have hen := H1.out.1.below HO.out.2
          obtain ⟨b, o, rfl⟩ := hen.addr (by have := HM.out; omega)
          obtain ⟨x0, x1, x2, x3⟩ := hen.at (k := k) (by have := HM.out; omega)
          obtain ⟨⟨ke, ve, se, de⟩, hx⟩ : ∃ x, A.getD k zeroE = x := ⟨_, rfl⟩
          rw [hx] at x0 x1 x2 x3
          simp only at x0 x1 x2 x3
          have HX : Hid (A.getD k zeroE = ⟨ke, ve, se, de⟩) := hx
          obtain ⟨r, hr⟩ : ∃ r, newAt A k s = r := ⟨_, rfl⟩
          have HNW := isNewest_any (some ⟨b, o, none⟩) n c A (wr.alloc (.cells #[.string ke, .string ve, .int .i64 se, .bool de] 23)) ⟨HM.out.symm, hen.below (below_alloc _ _)⟩ k (by have := HM.out; omega) (by omega) s r hr
          have HCA : Hid (thinAt A k s last = (decide (s < se) || (r && !(de && last)))) := by show _ = _; unfold thinAt; rw [hr, hx]
          clear hen hx hkm hk hr
          by_cases hse : s < se
          · have g1 : decide (s < se) = true := decide_eq_true hse
            have HT : Hid (thinAt A k s last = true) := by show _ = _; rw [HCA.out, g1]; rfl
            have HB3 : Hid (Below wr.heap.size wr (wr.alloc (.cells #[.string ke, .string ve, .int .i64 se, .bool de] 23))) := below_alloc _ _
            have HA3 : Hid (EOwn ((wr.alloc (.cells #[.string ke, .string ve, .int .i64 se, .bool de] 23)).alloc (.cells #[.string ke, .string ve, .int .i64 se, .bool de] 23)) w1.heap.size (.slice qo lp co) P ∧ w1.heap.size ≤ ((wr.alloc (.cells #[.string ke, .string ve, .int .i64 se, .bool de] 23)).alloc (.cells #[.string ke, .string ve, .int .i64 se, .bool de] 23)).heap.size ∧ Below w1.heap.size w1 ((wr.alloc (.cells #[.string ke, .string ve, .int .i64 se, .bool de] 23)).alloc (.cells #[.string ke, .string ve, .int .i64 se, .bool de] 23))) := ⟨(HO.out.1.below HB3.out).below (below_alloc _ _), (below_bt (below_bt HO.out.2 HB3.out) (below_alloc _ _)).size, below_bt (below_bt HO.out.2 HB3.out) (below_alloc _ _)⟩
            have HE1 : Hid (EntsIn ((wr.alloc (.cells #[.string ke, .string ve, .int .i64 se, .bool de] 23)).alloc (.cells #[.string ke, .string ve, .int .i64 se, .bool de] 23)) (some ⟨wr.heap.size + 1, 0, none⟩) [⟨ke, ve, se, de⟩]) := by
              have h := ents_new (wr.alloc (.cells #[.string ke, .string ve, .int .i64 se, .bool de] 23)) ke ve se de
              (try rw [show (wr.alloc (.cells #[.string ke, .string ve, .int .i64 se, .bool de] 23)).heap.size = wr.heap.size + 1 by simp] at h)
              exact h
            have HPK : Hid (pickE (fun i => thinAt A i s last) A (k + 1) = P ++ [⟨ke, ve, se, de⟩]) := by
              show _ = _
              rw [pickE_yes (p := fun i => thinAt A i s last) HT.out, HX.out, HP.out.1]
            go_wp2_with (at_builtin; go_loud ((refine wpList_append_two _ rfl _ _ rfl w1.heap.size (.slice qo lp co) P [⟨ke, ve, se, de⟩] (some ⟨wr.heap.size + 1, 0, none⟩) 1 1 rfl rfl rfl HA3.out.1 HE1.out (fun h => by cases h) (by have := HP.out.2; simp only [List.length_cons, List.length_nil]; omega) HA3.out.2.1 ?_); intro v5 w5 ho5 hg5; have H5 : Hid _ := And.intro ho5 (ents_grownE HA3.out.1 hg5 HA3.out.2.2 (Nat.le_refl _)); clear ho5 hg5))
            go_roundw
            case rel => exact ⟨k + 1, by go_num, by have := HKM.out; omega, by rw [HPK.out]; exact H5.out.1, H5.out.2⟩
            case measure => have := HKM.out; simp [intOf]; omega
          · have g1 : decide (s < se) = false := decide_eq_false hse
            have g2 : se ≤ s := by omega
            go_wp2_with fail
            refine HNW.mono ?_
            rintro e w3 ⟨rfl, hb3⟩
            have hbk : w3.heap[wr.heap.size]? = some (.cells #[.string ke, .string ve, .int .i64 se, .bool de] 23 (0, 0)) := block_belowR (heap_alloc_new _ _) hb3
            have HB3 : Hid (Below wr.heap.size wr w3) := below_bt (below_alloc _ _) hb3
            obtain ⟨z0, z1, z2, z3⟩ := four_cells hbk
            clear hb3 HNW hbk
            have HCB : Hid (thinAt A k s last = (r && !(de && last))) := by show _ = _; rw [HCA.out, g1, Bool.false_or]
            have HNO : Hid (thinAt A k s last = false → EOwn w3 w1.heap.size (.slice qo lp co) (pickE (fun i => thinAt A i s last) A (k + 1)) ∧ Below w1.heap.size w1 w3) := by
              intro hno
              rw [pickE_no (p := fun i => thinAt A i s last) hno, HP.out.1]
              exact ⟨HO.out.1.below HB3.out, below_bt HO.out.2 HB3.out⟩
            cases r with
            | false =>
              have H2 := HNO.out (by rw [HCB.out]; rfl)
              have H2' : Hid _ := H2
              clear H2
              go_wp2
              go_roundw
              case rel => exact ⟨k + 1, by go_num, by have := HKM.out; omega, H2'.out⟩
              case measure => have := HKM.out; simp [intOf]; omega
            | true =>
              cases de with
              | false =>
                have HT : Hid (thinAt A k s last = true) := by show _ = _; rw [HCB.out]; rfl
                have HA3 : Hid (EOwn ((w3).alloc (.cells #[.string ke, .string ve, .int .i64 se, .bool false] 23)) w1.heap.size (.slice qo lp co) P ∧ w1.heap.size ≤ ((w3).alloc (.cells #[.string ke, .string ve, .int .i64 se, .bool false] 23)).heap.size ∧ Below w1.heap.size w1 ((w3).alloc (.cells #[.string ke, .string ve, .int .i64 se, .bool false] 23))) := ⟨(HO.out.1.below HB3.out).below (below_alloc _ _), (below_bt (below_bt HO.out.2 HB3.out) (below_alloc _ _)).size, below_bt (below_bt HO.out.2 HB3.out) (below_alloc _ _)⟩
                have HE1 : Hid (EntsIn ((w3).alloc (.cells #[.string ke, .string ve, .int .i64 se, .bool false] 23)) (some ⟨w3.heap.size, 0, none⟩) [⟨ke, ve, se, false⟩]) := by
                  have h := ents_new (w3) ke ve se false
                  (try rw [show (w3).heap.size = wr.heap.size + 1 by simp] at h)
                  exact h
                have HPK : Hid (pickE (fun i => thinAt A i s last) A (k + 1) = P ++ [⟨ke, ve, se, false⟩]) := by
                  show _ = _
                  rw [pickE_yes (p := fun i => thinAt A i s last) HT.out, HX.out, HP.out.1]
                go_wp2_with (at_builtin; go_loud ((refine wpList_append_two _ rfl _ _ rfl w1.heap.size (.slice qo lp co) P [⟨ke, ve, se, false⟩] (some ⟨w3.heap.size, 0, none⟩) 1 1 rfl rfl rfl HA3.out.1 HE1.out (fun h => by cases h) (by have := HP.out.2; simp only [List.length_cons, List.length_nil]; omega) HA3.out.2.1 ?_); intro v5 w5 ho5 hg5; have H5 : Hid _ := And.intro ho5 (ents_grownE HA3.out.1 hg5 HA3.out.2.2 (Nat.le_refl _)); clear ho5 hg5))
                go_roundw
                case rel => exact ⟨k + 1, by go_num, by have := HKM.out; omega, by rw [HPK.out]; exact H5.out.1, H5.out.2⟩
                case measure => have := HKM.out; simp [intOf]; omega
              | true =>
                cases last with
                | true =>
                  have H2 := HNO.out (by rw [HCB.out]; rfl)
                  have H2' : Hid _ := H2
                  clear H2
                  go_wp2
                  go_roundw
                  case rel => exact ⟨k + 1, by go_num, by have := HKM.out; omega, H2'.out⟩
                  case measure => have := HKM.out; simp [intOf]; omega
                | false =>
                  have HT : Hid (thinAt A k s false = true) := by show _ = _; rw [HCB.out]; rfl
                  have HA3 : Hid (EOwn ((w3).alloc (.cells #[.string ke, .string ve, .int .i64 se, .bool true] 23)) w1.heap.size (.slice qo lp co) P ∧ w1.heap.size ≤ ((w3).alloc (.cells #[.string ke, .string ve, .int .i64 se, .bool true] 23)).heap.size ∧ Below w1.heap.size w1 ((w3).alloc (.cells #[.string ke, .string ve, .int .i64 se, .bool true] 23))) := ⟨(HO.out.1.below HB3.out).below (below_alloc _ _), (below_bt (below_bt HO.out.2 HB3.out) (below_alloc _ _)).size, below_bt (below_bt HO.out.2 HB3.out) (below_alloc _ _)⟩
                  have HE1 : Hid (EntsIn ((w3).alloc (.cells #[.string ke, .string ve, .int .i64 se, .bool true] 23)) (some ⟨w3.heap.size, 0, none⟩) [⟨ke, ve, se, true⟩]) := by
                    have h := ents_new (w3) ke ve se true
                    (try rw [show (w3).heap.size = wr.heap.size + 1 by simp] at h)
                    exact h
                  have HPK : Hid (pickE (fun i => thinAt A i s false) A (k + 1) = P ++ [⟨ke, ve, se, true⟩]) := by
                    show _ = _
                    rw [pickE_yes (p := fun i => thinAt A i s false) HT.out, HX.out, HP.out.1]
                  go_wp2_with (at_builtin; go_loud ((refine wpList_append_two _ rfl _ _ rfl w1.heap.size (.slice qo lp co) P [⟨ke, ve, se, true⟩] (some ⟨w3.heap.size, 0, none⟩) 1 1 rfl rfl rfl HA3.out.1 HE1.out (fun h => by cases h) (by have := HP.out.2; simp only [List.length_cons, List.length_nil]; omega) HA3.out.2.1 ?_); intro v5 w5 ho5 hg5; have H5 : Hid _ := And.intro ho5 (ents_grownE HA3.out.1 hg5 HA3.out.2.2 (Nat.le_refl _)); clear ho5 hg5))
                  go_roundw
                  case rel => exact ⟨k + 1, by go_num, by have := HKM.out; omega, by rw [HPK.out]; exact H5.out.1, H5.out.2⟩
                  case measure => have := HKM.out; simp [intOf]; omega
        · have hkI : (n : Int) ≤ (k : Int) := by omega
          have HZ : Hid (P = L ∧ EOwn wr w.heap.size (.slice qo lp co) P ∧ Below w.heap.size w wr) := by
            refine ⟨?_, own_base HO.out.1 H1.out.2.size, below_bt H1.out.2 HO.out.2⟩
            rw [← HV.out, ← pick_thin HR.out.1 s last, ← HP.out.1, HM.out]
            have : k = n := by omega
            rw [this]
          clear hkm hk
          go_wp2
          go_ret2
          exact ⟨_, rfl, by rw [← HZ.out.1]; exact HZ.out.2.1, HZ.out.2.2⟩
  · have e1 : ((F : Int) != 0) = true := by simp; omega
    have e1' : ((F : Int) == 0) = false := by simp; omega
    have hv := HE.out
    rw [if_pos hF, Prod.mk.injEq] at hv
    obtain ⟨rfl, rfl⟩ := hv
    clear hF
    go_wp2
    go_ret2
    exact ⟨_, rfl, eown_nil _ _, H1.out.2⟩
end Go.Proofs.Ytbnacopefclklaa
namespace Go.Proofs.Ytbnacopefclklaa
open Go.RowKit Go.WideShapes Go.ChangeShapes Go.Deep Go.Joins

/-- Rows that are handed in. -/
structure RowsA (w : World) (v : Value) (R : List RV) : Prop where
  lies : ∃ q c, v = .slice q R.length c ∧ RowsL w q R.length R ∧ R.length ≤ c ∧ c ≤ maxLen ∧ (q = none → c = 0)
  small : ∀ r ∈ R, r.n ≤ 3000000000000
section
variable {P : Program} {w : World} {H : Type} {enc : TypeId × Value → H}
theorem weightsAll_memR {e : TypeId} {l : List (DataW H)} {d : DataW H} (hd : d ∈ l) {k : Nat} (hk : k ∈ d.weights P e) : k ∈ DataW.weightsAll P e l := by
  induction l with
  | nil => cases hd
  | cons a l ih =>
    simp only [DataW.weightsAll, List.mem_append]
    rcases List.mem_cons.1 hd with rfl | h
    · exact .inl hk
    · exact .inr (ih h)
theorem ents_sized {t e : TypeId} {n : Nat} {q : Option Addr} {nn cc : Nat} {x : DataW H × List MemPlace} (ht : P.underlying t = some (.slice e)) (hby : P.bytesOf e = 48)
    (h : DataW.trod enc P w 0 (fun _ => true) true n t [.slice q nn cc] = some x) (hw : ∀ k ∈ x.1.weights P t, k ≤ reachBytes) : nn ≤ 3000000000000 := by
  rcases open_slice ht h with ⟨hcs, _⟩ | ⟨a, len, cap, m, k, D, Pl, hcs, _, hl, hm, hmm, rfl, hel⟩
  · simp only [List.cons.injEq, Value.slice.injEq, and_true] at hcs
    omega
  · simp only [List.cons.injEq, Value.slice.injEq, and_true] at hcs
    have hmc : m = cap := by simpa using hmm
    have := hw _ (by simp only [DataW.weights, ht]; exact List.mem_cons_self)
    simp only [List.length_map, List.length_range, hby] at this
    have hr : reachBytes = 140737488351232 := rfl
    omega
theorem open_rows {t e ee : TypeId} {f0 f1 f2 f3 : Field} {n : Nat} {v : Value} {x : DataW H × List MemPlace} (ht : P.underlying t = some (.slice e)) (ce1 : P.cellsOf e = 1) (hte : P.underlying e = some (.slice ee)) (he : P.underlying ee = some (.struct #[f0, f1, f2, f3])) (ce : P.cellsOf ee = 4)
    (o0 : f0.offset = 0) (o1 : f1.offset = 1) (o2 : f2.offset = 2) (o3 : f3.offset = 3) (c0 : P.cellsOf f0.type = 1) (c1 : P.cellsOf f1.type = 1) (c2 : P.cellsOf f2.type = 1) (c3 : P.cellsOf f3.type = 1) (k0 : P.underlying f0.type = some .string) (k1 : P.underlying f1.type = some .string) (k2 : P.underlying f2.type = some (.int .i64)) (k3 : P.underlying f3.type = some .bool) (hby : P.bytesOf ee = 48)
    (h : DataW.trod enc P w 0 (fun _ => true) true n t [v] = some x) (hw : ∀ k ∈ x.1.weights P t, k ≤ reachBytes) : ∃ R, RowsA w v R := by
  rcases open_slice ht h with ⟨hcs, _⟩ | ⟨a, len, cap, m, k, D, Pl, hcs, _, hl, hm, hmm, rfl, hel⟩
  · simp only [List.cons.injEq, and_true] at hcs
    exact ⟨[], ⟨none, 0, hcs, ⟨rfl, fun h => absurd h (by simp), by simp⟩, by simp, by unfold maxLen; omega, fun _ => rfl⟩, by simp⟩
  · simp only [List.cons.injEq, and_true] at hcs
    have hmc : m = cap := by simpa using hmm
    have each : ∀ i, i < len → ∃ r : RV, w.cell? (a.add i) = some (rvV r) ∧ RowOk w r ∧ r.n ≤ 3000000000000 := by
      intro i hi
      obtain ⟨cs', g1, g2⟩ := hel i (by omega)
      rw [ce1, Nat.mul_one] at g1
      obtain ⟨_, hlen, hcell⟩ := World.cells?_some g1
      match cs', hlen with
      | [v0], _ =>
        obtain ⟨l, hl0⟩ := open_entries hte he ce o0 o1 o2 o3 c0 c1 c2 c3 k0 k1 k2 k3 g2
        obtain ⟨q, c, rfl, hin, hlc, hcm, hq⟩ := hl0.lies
        have e0 := hcell 0 (by omega)
        rw [add_add] at e0
        have hs := ents_sized hte hby g2 (fun k' hk' => hw k' (by
          simp only [DataW.weights, ht, List.mem_cons, List.mem_append]
          exact .inr (.inl (weightsAll_memR (d := D i) (List.mem_map.2 ⟨i, List.mem_range.2 hi, rfl⟩) hk'))))
        exact ⟨⟨q, l.length, c, l⟩, by show _ = some (Value.slice q l.length c); simpa using e0, ⟨rfl, hin, hlc, hcm, hq⟩, hs⟩
    haveI : Inhabited RV := ⟨zR⟩
    obtain ⟨f, hf⟩ := choose_lt each
    have hlen : ((List.range len).map f).length = len := by simp
    have hget : ∀ i, i < len → ((List.range len).map f).getD i zR = f i := by intro i hi; simp [List.getD, hi]
    refine ⟨(List.range len).map f, ⟨some a, cap, by rw [hlen]; exact hcs, ⟨rfl, fun hp => ?_, ?_⟩, by rw [hlen]; exact hl, hm, by simp⟩, ?_⟩
    · rw [hlen] at hp
      obtain ⟨b, o, s⟩ := a
      obtain rfl : s = none := by
        have := World.cell?_spot (hf 0 (by omega)).1
        simpa [Addr.add] using this
      refine ⟨b, o, rfl, fun i hi => ?_⟩
      rw [hlen] at hi
      have e0 := (hf i hi).1
      rw [hget i hi]
      rw [add_plain] at e0
      exact e0
    · intro r hr
      simp only [List.mem_map, List.mem_range] at hr
      obtain ⟨i, hi, rfl⟩ := hr
      exact (hf i hi).2.1
    · intro r hr
      simp only [List.mem_map, List.mem_range] at hr
      obtain ⟨i, hi, rfl⟩ := hr
      exact (hf i hi).2.2
end
end Go.Proofs.Ytbnacopefclklaa
namespace Go.Proofs.Ytbnacopefclklaa
open Go.RowKit Go.WideShapes

theorem of_any (k : ByteArray) (s : Int) (w : World) : Calls Try.prog 9 #[.string k, .int .i64 s] w fun e w' => e = .returned (.agg #[.string k, .string ⟨#[]⟩, .int .i64 s, .bool false]) ∧ Below w.heap.size w w' := by
  go_enter Try.func9, Try.ntmps9
  go_wp2
  (try simp only [Exit.inBlock, Exit.then])
  refine bodyPost_ret (v := .agg #[.string k, .string ⟨#[]⟩, .int .i64 s, .bool false]) ?_ rfl ⟨rfl, ?_⟩
  · rw [results_cell1 rfl]
    go_simp
    try rfl
  · exact below_alloc _ _
set_option maxRecDepth 8000 in
set_option maxHeartbeats 1000000 in
theorem same_yes (qa qb : Option Addr) (n ca cb : Nat) (l : List EntV) (w : World) (hn : n = l.length) (hnb : (n : Int) ≤ 1000000) (ha : EntsIn w qa l) (hb : EntsIn w qb l) :
    Calls Try.prog 15 #[.slice qa n ca, .slice qb n cb] w fun e w' => e = .returned (.bool true) ∧ Below w.heap.size w w' := by
  have HA : Hid (EntsIn w qa l) := ha
  have HB : Hid (EntsIn w qb l) := hb
  have HN : Hid (n = l.length) := hn
  clear ha hb hn
  go_enter Try.func15, Try.ntmps15
  go_wp2
  go_loopw [5] (fun i wr => ∃ k : Nat, k ≤ n ∧ i = .int .i64 k ∧ Below w.heap.size w wr) (fun i _ => n - (intOf i).toNat)
  case atStart => exact ⟨0, by omega, rfl, Below.refl _ _⟩
  case round =>
    obtain ⟨k, hk, rfl, hbel⟩ := hrel
    have HBE : Hid (Below w.heap.size w wr) := hbel
    clear hbel
    by_cases hkn : k < n
    · have g1 : decide (k < n) = true := decide_eq_true hkn
      have hkI : (k : Int) < (n : Int) := by omega
      obtain ⟨ba, oa, rfl⟩ := HA.out.addr (by have := HN.out; omega)
      obtain ⟨bb, ob, rfl⟩ := HB.out.addr (by have := HN.out; omega)
      obtain ⟨x, hx⟩ : ∃ x, l.getD k zeroE = x := ⟨_, rfl⟩
      obtain ⟨x0, x1, x2, x3⟩ := (HA.out.below HBE.out).at (k := k) (by have := HN.out; omega)
      obtain ⟨y0, y1, y2, y3⟩ := (HB.out.below HBE.out).at (k := k) (by have := HN.out; omega)
      rw [hx] at x0 x1 x2 x3 y0 y1 y2 y3
      obtain ⟨kx, vx, sx, gx⟩ := x
      simp only at x0 x1 x2 x3 y0 y1 y2 y3
      clear hx
      go_wp2
      go_quiet (fail)
      go_wp2
      go_roundw
      case rel => exact ⟨k + 1, by omega, by go_num, below_drewN HBE.out _⟩
      case measure => simp [intOf]; omega
    · have g1 : decide (k < n) = false := decide_eq_false hkn
      have hkI : (n : Int) ≤ (k : Int) := by omega
      go_wp2
      go_ret
      exact ⟨rfl, HBE.out⟩
def eK (k : ByteArray) (s : Int) : EntV := ⟨k, ByteArray.empty, s, false⟩
/-- Entries in a block of their own. -/
theorem ents_blk {w : World} {g : Nat} {l : List EntV} {t : TypeId} {fr : Nat × Nat} (h : w.heap[g]? = some (.cells (cellsE l).toArray t fr)) : EntsIn w (some ⟨g, 0, none⟩) l := by
  intro _
  refine ⟨g, 0, rfl, fun i hi => ?_⟩
  obtain ⟨c0, c1, c2, c3⟩ := cellsE_at l i hi
  have hc : ∀ j, w.cell? ⟨g, 0 + j, none⟩ = (cellsE l)[j]? := fun j => by rw [cell_of_row w g (0 + j) _ t fr h]; simp
  exact ⟨by rw [hc, c0], by rw [hc, c1], by rw [hc, c2], by rw [hc, c3]⟩
theorem rows_two {w : World} {g : Nat} {r s : RV} {t : TypeId} {fr : Nat × Nat} (h : w.heap[g]? = some (.cells #[rvV r, rvV s] t fr)) (hr : RowOk w r) (hs : RowOk w s) : RowsL w (some ⟨g, 0, none⟩) 2 [r, s] := by
  refine ⟨rfl, fun _ => ⟨g, 0, rfl, fun i hi => ?_⟩, fun x hx => ?_⟩
  · rw [cell_of_row w g (0 + i) _ t fr h]
    simp only [List.length_cons, List.length_nil] at hi
    rcases (by omega : i = 0 ∨ i = 1) with rfl | rfl <;> rfl
  · simp only [List.mem_cons, List.not_mem_nil, or_false] at hx
    rcases hx with rfl | rfl
    · exact hr
    · exact hs
theorem rows_one {w : World} {g : Nat} {r : RV} {t : TypeId} {fr : Nat × Nat} (h : w.heap[g]? = some (.cells #[rvV r] t fr)) (hr : RowOk w r) : RowsL w (some ⟨g, 0, none⟩) 1 [r] := by
  refine ⟨rfl, fun _ => ⟨g, 0, rfl, fun i hi => ?_⟩, fun x hx => ?_⟩
  · rw [cell_of_row w g (0 + i) _ t fr h]
    simp only [List.length_cons, List.length_nil] at hi
    obtain rfl : i = 0 := by omega
    rfl
  · simp only [List.mem_cons, List.not_mem_nil, or_false] at hx
    rw [hx]; exact hr
def aA : ByteArray := ⟨#[97]⟩
def bB : ByteArray := ⟨#[98]⟩
theorem row_alive : allE [[eK aA 1, eK bB 2], [eK aA 3]] = ([eK aA 3, eK aA 1, eK bB 2], 0) := by
  refine (allE_of (L := [eK aA 3, eK aA 1, eK bB 2]) (by decide +kernel) ?_ ?_).1 (by decide +kernel)
  · exact List.perm_append_comm (l₁ := [eK aA 3]) (l₂ := [eK aA 1, eK bB 2])
  · decide +kernel
set_option maxRecDepth 8000 in
set_option maxHeartbeats 2000000 in
theorem alive_any (w : World) : Calls Try.prog 14 #[] w fun e w' => e = .returned (.bool true) ∧ Below w.heap.size w w' := by
  have HO := fun k s w' => of_any k s w'
  go_enter Try.func14, Try.ntmps14
  go_wp2_with fail
  refine (HO _ _ _).mono ?_
  rintro e w1 ⟨rfl, hb1⟩
  go_wp2_with fail
  refine (HO _ _ _).mono ?_
  rintro e w2 ⟨rfl, hb2⟩
  go_wp2_with fail
  refine (HO _ _ _).mono ?_
  rintro e w3 ⟨rfl, hb3⟩
  have g1 := block_belowR (heap_alloc_new w2 (.cells (cellsE [eK aA 1, eK bB 2]).toArray 23)) hb3
  have g1' := block_belowR (block_belowR g1 (below_alloc w3 (.cells (cellsE [eK aA 3]).toArray 23))) (below_alloc (w3.alloc (.cells (cellsE [eK aA 3]).toArray 23)) (.cells #[.slice (some ⟨w2.heap.size, 0, none⟩) 2 2, .slice (some ⟨w3.heap.size, 0, none⟩) 1 1] 25))
  have g2 := block_belowR (heap_alloc_new w3 (.cells (cellsE [eK aA 3]).toArray 23)) (below_alloc (w3.alloc (.cells (cellsE [eK aA 3]).toArray 23)) (.cells #[.slice (some ⟨w2.heap.size, 0, none⟩) 2 2, .slice (some ⟨w3.heap.size, 0, none⟩) 1 1] 25))
  have g3 := heap_alloc_new (w3.alloc (.cells (cellsE [eK aA 3]).toArray 23)) (.cells #[.slice (some ⟨w2.heap.size, 0, none⟩) 2 2, .slice (some ⟨w3.heap.size, 0, none⟩) 1 1] 25)
  rw [show (w3.alloc (.cells (cellsE [eK aA 3]).toArray 23)).heap.size = w3.heap.size + 1 by simp] at g3
  have hR := rows_two (r := ⟨some ⟨w2.heap.size, 0, none⟩, 2, 2, [eK aA 1, eK bB 2]⟩) (s := ⟨some ⟨w3.heap.size, 0, none⟩, 1, 1, [eK aA 3]⟩) g3 ⟨rfl, ents_blk g1', Nat.le_refl _, by show 2 ≤ maxLen; unfold maxLen; omega, fun h => by cases h⟩ ⟨rfl, ents_blk g2, Nat.le_refl _, by show 1 ≤ maxLen; unfold maxLen; omega, fun h => by cases h⟩
  have HAL := All_any (some ⟨w3.heap.size + 1, 0, none⟩) 2 2 _ _ hR (by omega) _ _ row_alive
  have HB4 : Hid (Below w.heap.size w ((w3.alloc (.cells (cellsE [eK aA 3]).toArray 23)).alloc (.cells #[.slice (some ⟨w2.heap.size, 0, none⟩) 2 2, .slice (some ⟨w3.heap.size, 0, none⟩) 1 1] 25))) := below_bt (below_bt (below_bt (below_bt (below_bt hb1 hb2) (below_alloc _ _)) hb3) (below_alloc _ _)) (below_alloc _ _)
  clear g1 g1' g2 g3 hR hb1 hb2 hb3
  go_wp2_with fail
  refine HAL.mono ?_
  rintro e w5 ⟨v5, rfl, h5⟩
  obtain ⟨q5, m5, rfl, _, _, _⟩ := h5.own.form
  have H5 : Hid (EntsIn w5 q5 [eK aA 3, eK aA 1, eK bB 2] ∧ Below w.heap.size w w5) := ⟨h5.own.ents, below_bt HB4.out h5.bel⟩
  rw [show [eK aA 3, eK aA 1, eK bB 2].length = 3 from rfl]
  clear HAL h5 HB4
  go_wp2_with fail
  refine (HO _ _ _).mono ?_
  rintro e w6 ⟨rfl, hb6⟩
  go_wp2_with fail
  refine (HO _ _ _).mono ?_
  rintro e w7 ⟨rfl, hb7⟩
  go_wp2_with fail
  refine (HO _ _ _).mono ?_
  rintro e w8 ⟨rfl, hb8⟩
  have hb58 := below_bt (below_bt (below_bt hb6 hb7) hb8) (below_alloc w8 (.cells (cellsE [eK aA 3, eK aA 1, eK bB 2]).toArray 23))
  have HS := same_yes q5 (some ⟨w8.heap.size, 0, none⟩) 3 m5 3 [eK aA 3, eK aA 1, eK bB 2] (w8.alloc (.cells (cellsE [eK aA 3, eK aA 1, eK bB 2]).toArray 23)) rfl (by omega) (H5.out.1.below hb58) (ents_blk (heap_alloc_new _ _))
  have HB8 : Hid (Below w.heap.size w (w8.alloc (.cells (cellsE [eK aA 3, eK aA 1, eK bB 2]).toArray 23))) := below_bt H5.out.2 hb58
  clear hb6 hb7 hb8 hb58 HO
  go_wp2_with fail
  refine HS.mono ?_
  rintro e w9 ⟨rfl, hb9⟩
  have HB9 : Hid (Below w.heap.size w w9) := below_bt HB8.out hb9
  clear hb9 HS
  go_wp2
  go_ret
  exact ⟨rfl, HB9.out⟩
def hsum (R : List RV) : Nat → Int
  | 0 => 0
  | k + 1 => IntKind.i64.wrap (hsum R k + ((R.getD k zR).n : Int))
theorem hsum_eq {R : List RV} (hs : ∀ r ∈ R, r.n = r.l.length ∧ r.n ≤ 3000000000000) : ∀ k, k ≤ 100 → k ≤ R.length → hsum R k = ((entsR (R.take k)).length : Int) ∧ (entsR (R.take k)).length ≤ k * 3000000000000
  | 0, _, _ => by simp [hsum, entsR]
  | k + 1, h1, h2 => by
    obtain ⟨i1, i2⟩ := hsum_eq hs k (by omega) (by omega)
    obtain ⟨e1, e2⟩ := hs _ (getR_mem (show k < R.length by omega))
    have hsu := sumR_succ (show k < R.length by omega)
    simp only [hsum]
    rw [i1, hsu, ← e1, IntKind.wrap_i64]
    refine ⟨by omega, by omega⟩
structure HeavyV (R : List RV) (v : Value) : Prop where
  out : ∃ b, v = .bool b ∧ (b = false → R.length ≤ 100 ∧ (entsR R).length ≤ 6000 ∧ ∀ r ∈ R, r.n ≤ 200 ∨ 4096 < r.n)
set_option maxRecDepth 8000 in
set_option maxHeartbeats 2000000 in
theorem heavy_any (q : Option Addr) (n c : Nat) (R : List RV) (w : World) (h : RowsL w q n R) (hsm : ∀ r ∈ R, r.n ≤ 3000000000000) (hnb : (n : Int) ≤ 9223372036854775807) :
    Calls Try.prog 16 #[.slice q n c] w fun e w' => ∃ v, e = .returned v ∧ HeavyV R v ∧ Below w.heap.size w w' := by
  have HL : Hid (RowsL w q n R ∧ ∀ r ∈ R, r.n ≤ 3000000000000) := ⟨h, hsm⟩
  clear h hsm
  go_enter Try.func16, Try.ntmps16
  go_wp2
  go_loopw [3, 4] (fun s3 s4 wr => ∃ k : Nat, s4 = .int .i64 (k : Int) ∧ s3 = .int .i64 (hsum R k) ∧ k ≤ n ∧ (∀ i, i < k → (R.getD i zR).n ≤ 200 ∨ 4096 < (R.getD i zR).n) ∧ wr = w) (fun _ s4 _ => n - (intOf s4).toNat)
  case atStart => exact ⟨0, rfl, rfl, by omega, fun i hi => by omega, rfl⟩
  case round =>
    obtain ⟨k, rfl, rfl, hk, hall, hw⟩ := hrel
    have hw := hw.symm
    subst hw
    have HK : Hid (k ≤ n ∧ ∀ i, i < k → (R.getD i zR).n ≤ 200 ∨ 4096 < (R.getD i zR).n) := ⟨hk, hall⟩
    clear hall
    by_cases hkn : k < n
    · have hkI : (k : Int) < (n : Int) := by omega
      have k0 : (0 : Int) ≤ (k : Int) := by omega
      have kw : IntKind.i64.wrap ((k : Int) + 1) = (k : Int) + 1 := by rw [IntKind.wrap_i64]; omega
      have hkR : k < R.length := by have := HL.out.1.n; omega
      obtain ⟨b, o, rfl, hc⟩ := HL.out.1.at hkR
      obtain ⟨⟨qr, nr, cr, lr⟩, hr⟩ : ∃ r, R.getD k zR = r := ⟨_, rfl⟩
      rw [hr] at hc
      rw [show rvV ⟨qr, nr, cr, lr⟩ = .slice qr nr cr from rfl] at hc
      have HR : Hid (R.getD k zR = ⟨qr, nr, cr, lr⟩ ∧ k < n) := ⟨hr, hkn⟩
      obtain ⟨S, hS⟩ : ∃ S, hsum R k = S := ⟨_, rfl⟩
      obtain ⟨S', hS'⟩ : ∃ S', IntKind.i64.wrap (S + (nr : Int)) = S' := ⟨_, rfl⟩
      have HS : Hid (hsum R (k + 1) = S') := by show _ = _; simp only [hsum]; rw [hS, hr]; exact hS'
      rw [hS]
      clear hr hkR hkn hk hS
      have HN : Hid (nr ≤ 200 ∨ 4096 < nr → ∀ i, i < k + 1 → (R.getD i zR).n ≤ 200 ∨ 4096 < (R.getD i zR).n) := by
        intro hn i hi
        by_cases e : i = k
        · rw [e, HR.out.1]; exact hn
        · exact HK.out.2 i (by omega)
      by_cases h1 : 200 < nr
      · have h1I : (200 : Int) < (nr : Int) := by omega
        by_cases h2 : nr ≤ 4096
        · have h2I : (nr : Int) ≤ 4096 := by omega
          go_wp2
          go_ret
          exact ⟨_, rfl, ⟨true, rfl, fun h => by cases h⟩, Below.refl _ _⟩
        · have h2I : (4096 : Int) < (nr : Int) := by omega
          have h2D : decide ((nr : Int) ≤ 4096) = false := decide_eq_false (by omega)
          have h2D' : decide (nr ≤ 4096) = false := decide_eq_false h2
          have HN2 : Hid (∀ i, i < k + 1 → (R.getD i zR).n ≤ 200 ∨ 4096 < (R.getD i zR).n) := HN.out (by omega)
          clear h2
          go_wp2
          go_roundw
          case rel => exact ⟨k + 1, by go_num, by rw [HS.out], by have := HR.out; omega, HN2.out, trivial⟩
          case measure => have := HR.out; simp [intOf]; omega
      · have h1I : (nr : Int) ≤ (200 : Int) := by omega
        have h1D : decide ((200 : Int) < (nr : Int)) = false := decide_eq_false (by omega)
        have h1D' : decide (200 < nr) = false := decide_eq_false h1
        have HN2 : Hid (∀ i, i < k + 1 → (R.getD i zR).n ≤ 200 ∨ 4096 < (R.getD i zR).n) := HN.out (by omega)
        clear h1
        go_wp2
        go_roundw
        case rel => exact ⟨k + 1, by go_num, by rw [HS.out], by have := HR.out; omega, HN2.out, trivial⟩
        case measure => have := HR.out; simp [intOf]; omega
    · have hkI : (n : Int) ≤ (k : Int) := by omega
      obtain ⟨S, hS⟩ : ∃ S, hsum R k = S := ⟨_, rfl⟩
      have HS : Hid (hsum R k = S ∧ k = n) := ⟨hS, by omega⟩
      rw [hS]
      clear hS hk
      by_cases h1 : 100 < n
      · have h1I : (100 : Int) < (n : Int) := by omega
        go_wp2
        go_ret
        exact ⟨_, rfl, ⟨true, rfl, fun h => by cases h⟩, Below.refl _ _⟩
      · have h1I : (n : Int) ≤ 100 := by omega
        have h1D : decide ((100 : Int) < (n : Int)) = false := decide_eq_false (by omega)
        have h1D' : decide (100 < n) = false := decide_eq_false h1
        have HF : Hid (decide (6000 < S) = false → R.length ≤ 100 ∧ (entsR R).length ≤ 6000 ∧ ∀ r ∈ R, r.n ≤ 200 ∨ 4096 < r.n) := by
          intro hd
          have hn := HL.out.1.n
          have he := (hsum_eq (R := R) (fun r hr => ⟨(HL.out.1.each r hr).n, HL.out.2 r hr⟩) k (by have := HS.out; omega) (by have := HS.out; omega)).1
          rw [List.take_of_length_le (by have := HS.out; omega)] at he
          have h6 : ¬ 6000 < S := of_decide_eq_false hd
          rw [HS.out.1] at he
          refine ⟨by omega, by omega, fun r hr => ?_⟩
          obtain ⟨i, hi, rfl⟩ := List.mem_iff_getElem.1 hr
          have := HK.out.2 i (by have := HS.out; omega)
          rwa [List.getD_eq_getElem?_getD, List.getElem?_eq_getElem hi] at this
        clear h1
        go_wp2
        go_ret
        exact ⟨_, rfl, ⟨_, rfl, HF.out⟩, Below.refl _ _⟩
end Go.Proofs.Ytbnacopefclklaa
namespace Go.Proofs.Ytbnacopefclklaa
open Go.RowKit Go.WideShapes

theorem thinF_ok {l L : List EntV} {s : Int} {last : Bool} {E : Nat} (h : thinF l s last = (L, E)) : (E ≠ 0 ∧ L = []) ∨ (E = 0 ∧ L = thinE l s last ∧ thinErr l = 0 ∧ 0 ≤ s ∧ s ≤ 2147483647) := by
  unfold thinF at h
  by_cases h1 : thinErr l = 0
  · rw [if_neg (fun h => h h1)] at h
    by_cases h2 : 0 ≤ s ∧ s ≤ 2147483647
    · rw [if_pos h2, Prod.mk.injEq] at h
      exact .inr ⟨h.2.symm, h.1.symm, h1, h2⟩
    · rw [if_neg h2, Prod.mk.injEq] at h
      exact .inl ⟨by rw [← h.2]; decide, h.1.symm⟩
  · rw [if_pos h1, Prod.mk.injEq] at h
    exact .inl ⟨by rw [← h.2]; exact h1, h.1.symm⟩
theorem thinErr_thin {l : List EntV} (h : thinErr l = 0) (s : Int) (last : Bool) : thinErr (thinE l s last) = 0 := by
  obtain ⟨h1, h2, h3⟩ := thinErr_zero.1 h
  refine thinErr_zero.2 ⟨Nat.le_trans (List.length_filter_le _ _) h1, fun x hx => h2 x (mem_thinE.1 hx).1, thinE_rise h3 _ _⟩
theorem thinF_twice {l A : List EntV} {s : Int} {last : Bool} (h : thinF l s last = (A, 0)) : thinF A s last = (A, 0) := by
  rcases thinF_ok h with h | ⟨_, h2, h3, h4⟩
  · exact absurd rfl h.1
  · unfold thinF
    rw [h2, if_neg (fun h => h (thinErr_thin h3 s last)), if_pos h4, thin_twice]
theorem thin_step {l : List EntV} {s : Int} {last : Bool} (h : thinErr l = 0) {i : Nat} (hi : i + 1 < (thinE l s last).length) (hk : ((thinE l s last).getD i zeroE).key = ((thinE l s last).getD (i + 1) zeroE).key) : s < ((thinE l s last).getD i zeroE).seq := by
  obtain ⟨_, _, hr⟩ := thinErr_zero.1 h
  have hl := rise_at (thinE_rise hr s last) (show i < i + 1 by omega) hi
  rcases Int.lt_or_le s ((thinE l s last).getD i zeroE).seq with c | c
  · exact c
  · exfalso
    have hs : ((thinE l s last).getD (i + 1) zeroE).seq < ((thinE l s last).getD i zeroE).seq := by
      rcases (lessE_def _ _).1 hl with a | a
      · rw [hk, ltB_irrefl] at a
        cases a
      · exact a.2
    have := thin_one hr (getD_mem' (show i < _ by omega)) (getD_mem' hi) hk c (by omega)
    rw [this] at hs
    omega
/-! ### Two rows, the one of older entries -/
theorem allE_two {a b A : List EntV} {E : Nat} (h : allE [a, b] = (A, E)) (h0 : E = 0) : RiseE A ∧ ∀ x, x ∈ A ↔ x ∈ a ∨ x ∈ b := by
  obtain ⟨h1, h2, _⟩ := allE_ok h h0
  refine ⟨h1, fun x => ?_⟩
  rw [h2.mem_iff]
  simp
theorem allE_one {a A : List EntV} {E : Nat} (h : allE [a] = (A, E)) (h0 : E = 0) : A = a := by
  obtain ⟨h1, h2, h3⟩ := allE_ok h h0
  have hr : RiseE a := ((checkE_rise a).1 ((chkR_zero.1 h3).2.1 a (by simp))).2.2
  exact riseE_ext h1 hr (fun x => by rw [h2.mem_iff]; simp)
theorem chk_one {a : List EntV} (h : checkE a = 0) : chkR [a] = 0 := by
  obtain ⟨h1, _⟩ := (checkE_rise a).1 h
  exact chkR_zero.2 ⟨by simp, by simpa using h, by simp; omega⟩
theorem chk_two {a b : List EntV} (h : checkE a = 0) (h' : checkE b = 0) : chkR [a, b] = 0 := by
  obtain ⟨h1, _⟩ := (checkE_rise a).1 h
  obtain ⟨h2, _⟩ := (checkE_rise b).1 h'
  exact chkR_zero.2 ⟨by simp, by simpa using ⟨h, h'⟩, by simp; omega⟩
theorem all_single {a : List EntV} (h : checkE a = 0) : allE [a] = (a, 0) := by
  have hr := ((checkE_rise a).1 h).2.2
  exact (allE_of (chk_one h) (by simp) (rise_weak hr)).1 hr
/-- Two rows may be one just if no entry of the one has key and number of one of the other. -/
theorem all_pair {a b : List EntV} (h : checkE a = 0) (h' : checkE b = 0) : (allE [a, b]).2 = 0 ↔ ∀ x ∈ a, ∀ y ∈ b, ¬ (x.key = y.key ∧ x.seq = y.seq) := by
  have hra := ((checkE_rise a).1 h).2.2
  have hrb := ((checkE_rise b).1 h').2.2
  have hc := chk_two h h'
  have hw := chk_weak (chkR_zero.1 hc).2.1
  have key : RiseE (allM [a, b]) ↔ ∀ x ∈ a, ∀ y ∈ b, ¬ (x.key = y.key ∧ x.seq = y.seq) := by
    rw [allM_rise hw]
    have e : [a, b].flatten = a ++ b := by simp
    rw [e]
    constructor
    · intro hs x hx y hy
      exact (List.pairwise_append.1 hs).2.2 x hx y hy
    · intro hs
      exact List.pairwise_append.2 ⟨(weak_rise (rise_weak hra)).1 hra, (weak_rise (rise_weak hrb)).1 hrb, hs⟩
  rw [← key]
  by_cases hr : RiseE (allM [a, b])
  · rw [allE_rise hc hr]; simp [hr]
  · rw [allE_not hc hr]; simp [hr]
theorem checkE_thin {l : List EntV} (h : thinErr l = 0) (hl : l.length ≤ 200) : checkE l = 0 := by
  obtain ⟨_, h2, h3⟩ := thinErr_zero.1 h
  exact (checkE_rise l).2 ⟨by omega, h2, h3⟩
theorem thinE_len (l : List EntV) (s : Int) (last : Bool) : (thinE l s last).length ≤ l.length := List.length_filter_le _ _
theorem thinE_last (l : List EntV) (s : Int) : (thinE l s true).length ≤ (thinE l s false).length := by
  classical
  unfold thinE
  rw [← List.countP_eq_length_filter, ← List.countP_eq_length_filter]
  refine List.countP_mono_left (fun x _ hx => ?_)
  simp only [decide_eq_true_eq] at hx ⊢
  rcases hx with hx | hx
  · exact .inl hx
  · exact .inr ⟨hx.1, by simp⟩
theorem liveE_at {ls : List (List EntV)} {A : List EntV} (h : allE ls = (A, 0)) (s : Int) : liveE ls s = if 0 ≤ s ∧ s ≤ 2147483647 then (countE A s, 0) else ([], 2) := by
  unfold liveE
  rw [h]
  exact if_neg (by simp)
theorem liveE_len (ls : List (List EntV)) (s : Int) : (liveE ls s).1.length ≤ 16384 := by
  unfold liveE
  split
  · simp
  · split
    · exact Nat.le_trans (List.length_filter_le _ _) allE_len
    · simp
/-- What MergeThin asks. -/
theorem thin_law {l older a b U V : List EntV} {s at_ : Int} {E F : Nat} (hl : l.length ≤ 200) (hat : s ≤ at_) (ha : thinF l s false = (a, 0)) (hb : thinF l s true = (b, 0))
    (hold : ∀ x ∈ older, ∀ y ∈ l, ¬ (x.key = y.key ∧ y.seq ≤ x.seq)) (hU : liveE [l, older] at_ = (U, E)) (hV : liveE [a, older] at_ = (V, F)) :
    (E = 0 ↔ F = 0) ∧ (E = 0 → U = V) ∧ liveE [l] at_ = liveE [b] at_ := by
  rcases thinF_ok ha with h | ⟨_, a2, a3, a4⟩
  · exact absurd rfl h.1
  rcases thinF_ok hb with h | ⟨_, b2, b3, b4⟩
  · exact absurd rfl h.1
  have hcl := checkE_thin a3 hl
  have hca : checkE a = 0 := by rw [a2]; exact checkE_thin (thinErr_thin a3 s false) (Nat.le_trans (thinE_len _ _ _) hl)
  have hcb : checkE b = 0 := by rw [b2]; exact checkE_thin (thinErr_thin a3 s true) (Nat.le_trans (thinE_len _ _ _) hl)
  have hrl := ((checkE_rise l).1 hcl).2.2
  have hsub : ∀ x ∈ a, x ∈ l := fun x hx => by rw [a2] at hx; exact (mem_thinE.1 hx).1
  have hone : liveE [l] at_ = liveE [b] at_ := by
    rw [liveE_at (all_single hcl), liveE_at (all_single hcb), b2, thin_last hrl hat]
  refine ⟨?_, ?_, hone⟩
  · by_cases hco : checkE older = 0
    · have e1 : (allE [l, older]).2 = 0 := (all_pair hcl hco).2 (fun x hx y hy hh => hold y hy x hx ⟨hh.1.symm, by omega⟩)
      have e2 : (allE [a, older]).2 = 0 := (all_pair hca hco).2 (fun x hx y hy hh => hold y hy x (hsub x hx) ⟨hh.1.symm, by omega⟩)
      unfold liveE at hU hV
      rw [if_neg (fun h => h e1)] at hU
      rw [if_neg (fun h => h e2)] at hV
      by_cases hs : 0 ≤ at_ ∧ at_ ≤ 2147483647
      · rw [if_pos hs, Prod.mk.injEq] at hU hV
        rw [← hU.2, ← hV.2]
      · rw [if_neg hs, Prod.mk.injEq] at hU hV
        rw [← hU.2, ← hV.2]
    · have c1 : chkR [l, older] ≠ 0 := fun h => hco ((chkR_zero.1 h).2.1 older (by simp))
      have c2 : chkR [a, older] ≠ 0 := fun h => hco ((chkR_zero.1 h).2.1 older (by simp))
      unfold liveE at hU hV
      rw [allE_bad c1] at hU
      rw [allE_bad c2] at hV
      rw [if_pos c1, Prod.mk.injEq] at hU
      rw [if_pos c2, Prod.mk.injEq] at hV
      rw [← hU.2, ← hV.2]
      exact ⟨fun h => absurd h c1, fun h => absurd h c2⟩
  · intro hE
    subst hE
    unfold liveE at hU hV
    obtain ⟨A, e, hA⟩ : ∃ A e, allE [l, older] = (A, e) := ⟨_, _, rfl⟩
    obtain ⟨B, f, hB⟩ : ∃ B f, allE [a, older] = (B, f) := ⟨_, _, rfl⟩
    rw [hA] at hU
    rw [hB] at hV
    simp only at hU hV
    by_cases he : e = 0
    · obtain ⟨r1, m1⟩ := allE_two hA he
      have hco : checkE older = 0 := (chkR_zero.1 (allE_ok hA he).2.2).2.1 older (by simp)
      have hf : f = 0 := by
        have : (allE [a, older]).2 = 0 := (all_pair hca hco).2 (fun x hx y hy hh => hold y hy x (hsub x hx) ⟨hh.1.symm, by omega⟩)
        rw [hB] at this
        exact this
      obtain ⟨r2, m2⟩ := allE_two hB hf
      rw [if_neg (fun h => h he)] at hU
      rw [if_neg (fun h => h hf)] at hV
      by_cases hs : 0 ≤ at_ ∧ at_ ≤ 2147483647
      · rw [if_pos hs, Prod.mk.injEq] at hU hV
        rw [← hU.1, ← hV.1]
        exact thin_older hrl r1 r2 hat m1 (fun x => by rw [m2, a2])
      · rw [if_neg hs, Prod.mk.injEq] at hU
        exact absurd hU.2 (by decide)
    · rw [if_pos he, Prod.mk.injEq] at hU
      exact absurd hU.2 he
end Go.Proofs.Ytbnacopefclklaa
namespace Go.Proofs.Ytbnacopefclklaa
open Go.RowKit Go.WideShapes

theorem run_pushR (w : World) (base : Nat) (ty : TypeId) (hv : Value) (R : List RV) (r : RV) (g : Nat) (hown : w.ownsRow base 25 1 hv R.length (R.map rvV)) (hg : w.cell? ⟨g, 0, none⟩ = some (rvV r)) (hlen : R.length ≤ 1000) (hbase : base ≤ w.heap.size) :
    ∃ v' w', (Builtin.append_ #[26, 26] ty #[hv, .slice (some ⟨g, 0, none⟩) 1 1]).run Try.prog w = .ok v' w' ∧ w'.ownsRow base 25 1 v' (R ++ [r]).length ((R ++ [r]).map rvV) ∧ w.grownBy w' hv.ownBlock := by
  obtain ⟨i0, hi, hz0, hz1, hz2⟩ := info_parts' info_ents
  have hmax : R.length + 1 ≤ maxLen := by unfold maxLen; omega
  have hc : ∀ j u, [rvV r][j]? = some u → w.cell? ((⟨g, 0, none⟩ : Addr).add j) = some u := by
    intro j u hu
    cases j with
    | zero => simp at hu; subst hu; exact hg
    | succ j => simp at hu
  obtain ⟨v', w', h1, h2, h3, _⟩ := run_append_own (P := Try.prog) w base 26 ty 25 i0 (.slice none 0 0) 1 24 Try.underlying26 hi hz0 hz1 hz2 rfl (by decide) hv R.length (R.map rvV) hown ⟨g, 0, none⟩ 1 1 [rvV r] rfl hc (by intro u hu; simp at hu; subst hu; rfl) hmax (by omega) hbase
  refine ⟨v', w', h1, ?_, h3⟩
  rw [List.length_append, List.map_append]
  exact h2
theorem wpList_pushR (w : World) {ops : Array Oper} {rest : List Oper} {o : Oper} {a : Act} {Q : Exit → Act → World → Prop} (hw : Region.wanted o (yielded ops a.tmps) = true) (s x : Operand)
    (ho : o.op = .call { callee := .builtin .append, args := #[s, x], argTypes := #[26, 26] }) (base : Nat) (v : Value) (R : List RV) (r : RV) (g : Nat) (hs : a.eval s = v) (hx : a.eval x = .slice (some ⟨g, 0, none⟩) 1 1)
    (hown : w.ownsRow base 25 1 v R.length (R.map rvV)) (hg : w.cell? ⟨g, 0, none⟩ = some (rvV r)) (hlen : R.length ≤ 1000) (hbase : base ≤ w.heap.size)
    (h : ∀ v' w', w'.ownsRow base 25 1 v' (R ++ [r]).length ((R ++ [r]).map rvV) → w.grownBy w' v.ownBlock → wpList Try.prog ops Q rest (a.put o.dst v') w') : wpList Try.prog ops Q (o :: rest) a w := by
  refine wpList_step fun K hK => ?_
  rw [if_pos hw]
  obtain ⟨v', w', hr, h2, h3⟩ := run_pushR w base o.type v R r g hown hg hlen hbase
  unfold Oper.wp execOp
  simp only [ho, resolve, invoke, builtin, Sem.run_bind, Sem.run_pure, Result.andThen_ok, List.map_toArray, List.map_cons, List.map_nil, hs, hx, hr]
  exact hK _ _ (h v' w' h2 h3)
theorem rows_own {w : World} {base : Nat} {q : Option Addr} {n c : Nat} {R : List RV} (h : w.ownsRow base 25 1 (.slice q n c) R.length (R.map rvV)) : RowsIn w q R := by
  intro hp
  rcases h.2 with ⟨_, hn⟩ | ⟨g, cap, cur, hv, hb, hg, hle, hmax, hsz, htk⟩
  · omega
  · simp only [Value.slice.injEq] at hv
    obtain ⟨rfl, rfl, rfl⟩ := hv
    refine ⟨g, 0, rfl, fun i hi => ?_⟩
    rw [Nat.zero_add, World.ownsRow.cellAt h i (by omega)]
    exact mapR_at hi
/-! ### Rows in another order -/
theorem chk_rev (ls : List (List EntV)) : chkR ls.reverse = 0 ↔ chkR ls = 0 := by
  rw [chkR_zero, chkR_zero]
  have hp : ls.reverse.flatten.Perm ls.flatten := (List.reverse_perm ls).flatten
  rw [List.length_reverse, hp.length_eq]
  simp only [List.mem_reverse]
theorem all_rev {ls : List (List EntV)} {A B : List EntV} {E F : Nat} (h : allE ls = (A, E)) (h' : allE ls.reverse = (B, F)) : (E = 0 ↔ F = 0) ∧ (E = 0 → A = B) := by
  have hp : ls.reverse.flatten.Perm ls.flatten := (List.reverse_perm ls).flatten
  by_cases hc : chkR ls = 0
  · have hc' := (chk_rev ls).2 hc
    have hw := chk_weak (chkR_zero.1 hc).2.1
    have hw' := chk_weak (chkR_zero.1 hc').2.1
    by_cases hr : RiseE (allM ls)
    · have hr' : RiseE (allM ls.reverse) := (allM_rise hw').2 ((sole_perm hp).2 ((allM_rise hw).1 hr))
      rw [allE_rise hc hr, Prod.mk.injEq] at h
      rw [allE_rise hc' hr', Prod.mk.injEq] at h'
      rw [← h.1, ← h.2, ← h'.1, ← h'.2]
      exact ⟨Iff.rfl, fun _ => (allM_rev hw hr).symm⟩
    · have hr' : ¬ RiseE (allM ls.reverse) := fun hh => hr ((allM_rise hw).2 ((sole_perm hp).1 ((allM_rise hw').1 hh)))
      rw [allE_not hc hr, Prod.mk.injEq] at h
      rw [allE_not hc' hr', Prod.mk.injEq] at h'
      rw [← h.2, ← h'.2]
      exact ⟨Iff.rfl, fun hh => absurd hh (by decide)⟩
  · have hc' : chkR ls.reverse ≠ 0 := fun hh => hc ((chk_rev ls).1 hh)
    rw [allE_bad hc, Prod.mk.injEq] at h
    rw [allE_bad hc', Prod.mk.injEq] at h'
    rw [← h.2, ← h'.2]
    exact ⟨⟨fun hh => absurd hh hc, fun hh => absurd hh hc'⟩, fun hh => absurd hh hc⟩
/-- A row's entries from a place on stand in a list from a place on. -/
def SubAt (A r : List EntV) (k at_ : Nat) : Prop := ∀ i, at_ ≤ i → i < r.length → r.getD i zeroE ∈ A.drop k
theorem sub_start {A r : List EntV} (h : ∀ x ∈ r, x ∈ A) : SubAt A r 0 0 := fun i _ hi => by rw [List.drop_zero]; exact h _ (getD_mem' hi)
theorem sub_hit {A r : List EntV} (hr : RiseE r) {k at_ : Nat} (hk : k < A.length) (h : SubAt A r k at_) (he : A.getD k zeroE = r.getD at_ zeroE) : SubAt A r (k + 1) (at_ + 1) := by
  intro i h1 h2
  have := h i (by omega) h2
  rw [dropE hk] at this
  rcases List.mem_cons.1 this with e | e
  · exfalso
    have hl := rise_at hr (show at_ < i by omega) h2
    rw [e, he, lessE_irr] at hl
    cases hl
  · exact e
theorem sub_miss {A r : List EntV} (hA : RiseE A) (hr : RiseE r) {k at_ : Nat} (hk : k < A.length) (h : SubAt A r k at_) (ha : at_ < r.length) (he : A.getD k zeroE ≠ r.getD at_ zeroE) : SubAt A r (k + 1) at_ := by
  have h0 := h at_ (Nat.le_refl _) ha
  rw [dropE hk] at h0
  have h0' : r.getD at_ zeroE ∈ A.drop (k + 1) := by
    rcases List.mem_cons.1 h0 with e | e
    · exact absurd e.symm he
    · exact e
  have hAd : RiseE (A.drop k) := hA.sublist (List.drop_sublist _ _)
  rw [dropE hk] at hAd
  have hlt := (List.pairwise_cons.1 hAd).1 _ h0'
  intro i h1 h2
  have := h i h1 h2
  rw [dropE hk] at this
  rcases List.mem_cons.1 this with e | e
  · exfalso
    by_cases ei : i = at_
    · rw [ei] at e
      exact he e.symm
    · have hl := rise_at hr (show at_ < i by omega) h2
      rw [e] at hl
      have := lessE_asymm hl
      rw [hlt] at this
      cases this
  · exact e
theorem sub_end {A r : List EntV} {k at_ : Nat} (hk : A.length ≤ k) (h : SubAt A r k at_) : r.length ≤ at_ := by
  rcases Nat.lt_or_ge at_ r.length with c | c
  · have := h at_ (Nat.le_refl _) c
    rw [List.drop_eq_nil_of_le hk] at this
    cases this
  · exact c
theorem ent_ne {x y : EntV} (h : x ≠ y) : x.key ≠ y.key ∨ (x.key = y.key ∧ x.val ≠ y.val) ∨ (x.key = y.key ∧ x.val = y.val ∧ x.seq ≠ y.seq) ∨ (x.key = y.key ∧ x.val = y.val ∧ x.seq = y.seq ∧ x.gone ≠ y.gone) := by
  by_cases h1 : x.key = y.key
  · by_cases h2 : x.val = y.val
    · by_cases h3 : x.seq = y.seq
      · by_cases h4 : x.gone = y.gone
        · refine absurd ?_ h
          cases x; cases y
          simp only at h1 h2 h3 h4
          subst h1 h2 h3 h4
          rfl
        · exact .inr (.inr (.inr ⟨h1, h2, h3, h4⟩))
      · exact .inr (.inr (.inl ⟨h1, h2, h3⟩))
    · exact .inr (.inl ⟨h1, h2⟩)
  · exact .inl h1
end Go.Proofs.Ytbnacopefclklaa
namespace Go.Proofs.Ytbnacopefclklaa
open Go.RowKit Go.WideShapes

theorem twoE_left {x y : EntV} {a b : List EntV} (h : lessE x y = true) : twoE (x :: a) (y :: b) = x :: twoE a (y :: b) := by rw [twoE_cons, if_pos h]
theorem twoE_right {x y : EntV} {a b : List EntV} (h : lessE x y = false) : twoE (x :: a) (y :: b) = y :: twoE (x :: a) b := by rw [twoE_cons, if_neg (by simp [h])]
/-- A list that is gone through. -/
structure EnA (w0 : World) (q : Option Addr) (n c : Nat) (l : List EntV) : Prop where
  len : n = l.length
  lies : EntsIn w0 q l
  cap : n ≤ c
  non : q = none → c = 0
theorem EnA.tail {w0 : World} {q : Option Addr} {n c : Nat} {x : EntV} {t : List EntV} (h : EnA w0 q n c (x :: t)) : ∃ p' n2 c2, (∀ w, (Instr.slice 25 (.slice q n c) (some (.int .i64 1)) none none).run Try.prog w = .ok (.slice p' n2 c2) w) ∧ EnA w0 p' n2 c2 t := by
  have hn := h.len
  simp only [List.length_cons] at hn
  obtain ⟨p', hcut, hdrop, hp'⟩ := cutE_from q n c 1 (x :: t) h.len h.cap (by omega) h.non
  rw [show ((1 : Nat) : Int) = 1 from rfl] at hcut
  refine ⟨p', n - 1, c - 1, hcut, by omega, ?_, by have := h.cap; omega, hp'⟩
  have := hdrop w0 h.lies
  simpa using this
set_option maxRecDepth 8000 in
set_option maxHeartbeats 4000000 in
theorem rtwo_any (qa qb : Option Addr) (na nb ca cb : Nat) (a b : List EntV) (w : World) (ha : EnA w qa na ca a) (hb : EnA w qb nb cb b) (hlen : a.length + b.length ≤ 100000) :
    Calls Try.prog 32 #[.slice qa na ca, .slice qb nb cb] w fun e w' => ∃ v, e = .returned v ∧ OnB w v (twoE a b) w' := by
  have H0 : Hid (EnA w qa na ca a ∧ EnA w qb nb cb b ∧ a.length + b.length ≤ 100000) := ⟨ha, hb, hlen⟩
  clear ha hb hlen
  go_enter Try.func32, Try.ntmps32
  go_wp2
  go_loopw [0, 1, 5] (fun s0 s1 s5 wr => ∃ (pa pb : Option Addr) (ma mb da db : Nat) (x y L : List EntV), s0 = .slice pa ma da ∧ s1 = .slice pb mb db ∧ EnA w pa ma da x ∧ EnA w pb mb db y ∧ EOwn wr w.heap.size s5 L ∧ Below w.heap.size w wr ∧ L ++ twoE x y = twoE a b ∧ L.length + x.length + y.length = a.length + b.length) (fun s0 s1 _ _ => lenV s0 + lenV s1)
  case atStart => exact ⟨qa, qb, na, nb, ca, cb, a, b, [], rfl, rfl, H0.out.1, H0.out.2.1, eown_nil _ _, Below.refl _ _, rfl, by simp⟩
  case round =>
    obtain ⟨pa, pb, ma, mb, da, db, x, y, L, rfl, rfl, hx, hy, ho, hbel, hL, hsz⟩ := hrel
    obtain ⟨qo, co, rfl, _, _, _⟩ := ho.form
    have HS : Hid (EnA w pa ma da x ∧ EnA w pb mb db y ∧ Below w.heap.size w wr ∧ L ++ twoE x y = twoE a b ∧ L.length + x.length + y.length = a.length + b.length ∧ L.length ≤ 100000) := ⟨hx, hy, hbel, hL, hsz, by have := H0.out.2.2; omega⟩
    have HO : Hid (EOwn wr w.heap.size (.slice qo L.length co) L) := ho
    obtain ⟨lo, hlo⟩ : ∃ lo, L.length = lo := ⟨_, rfl⟩
    have HLO : Hid (L.length = lo) := hlo
    rw [hlo] at HO ⊢
    clear hL hsz ho hlo
    cases x with
    | nil =>
      obtain rfl : ma = 0 := hx.len
      cases y with
      | nil =>
        obtain rfl : mb = 0 := hy.len
        have HL2 : Hid (L = twoE a b) := by have := HS.out.2.2.2.1; rw [twoE_nil, List.append_nil] at this; exact this
        clear hx hy hbel
        go_wp2
        go_ret
        exact ⟨_, rfl, by rw [← HL2.out]; exact HO.out, HS.out.2.2.1⟩
      | cons y0 yt =>
        have HNX : Hid (twoE [] (y0 :: yt) = y0 :: twoE [] yt) := by show _ = _; rw [twoE_nil, twoE_nil]
        have hmb : mb = yt.length + 1 := by have := hy.len; simpa using this
        have mbI : (0 : Int) < (mb : Int) := by omega
        have mbN : 0 < mb := by omega
        have mbE : ((mb : Int) == 0) = false := by simp; omega
        have mbE' : (mb == 0) = false := by simp; omega
        obtain ⟨bb, ob, rfl⟩ := hy.lies.addr (by simp)
        obtain ⟨kb, vb, sb, db'⟩ := y0
        obtain ⟨z0, z1, z2, z3⟩ := (hy.lies.below hbel).at (k := 0) (by simp)
        simp only [List.getD_cons_zero, Nat.zero_mul, Nat.add_zero] at z0 z1 z2 z3
        have HO2 : Hid (EOwn wr w.heap.size (.slice qo lo co) L ∧ Below w.heap.size w wr) := ⟨HO.out, hbel⟩
        clear hx hy hbel hmb
        obtain ⟨p', n2, c2, hcut, hen⟩ := HS.out.2.1.tail
        have HEN : Hid (EnA w p' n2 c2 yt) := hen
        clear hen
        have HA : Hid (∀ j, EOwn ((wr.drewN j).alloc (.cells #[.string kb, .string vb, .int .i64 sb, .bool db'] 23)) w.heap.size (.slice qo lo co) L ∧ w.heap.size ≤ ((wr.drewN j).alloc (.cells #[.string kb, .string vb, .int .i64 sb, .bool db'] 23)).heap.size ∧ Below w.heap.size w ((wr.drewN j).alloc (.cells #[.string kb, .string vb, .int .i64 sb, .bool db'] 23))) := fun j => ⟨(HO2.out.1.below (below_drewN (Below.refl _ _) j)).below (below_alloc _ _), (below_bt (below_drewN HO2.out.2 j) (below_alloc _ _)).size, below_bt (below_drewN HO2.out.2 j) (below_alloc _ _)⟩
        have HE1 : Hid (∀ j, EntsIn ((wr.drewN j).alloc (.cells #[.string kb, .string vb, .int .i64 sb, .bool db'] 23)) (some ⟨wr.heap.size, 0, none⟩) [⟨kb, vb, sb, db'⟩]) := fun j => ents_new (wr.drewN j) kb vb sb db'
        go_wp2
        go_quiet (fail)
        go_wp2_with (at_builtin; go_loud ((refine wpList_append_two _ rfl _ _ rfl w.heap.size (.slice qo lo co) L [⟨kb, vb, sb, db'⟩] (some ⟨wr.heap.size, 0, none⟩) 1 1 rfl rfl rfl (HA.out _).1 (HE1.out _) (fun h => by cases h) (by have := HS.out.2.2.2.2.2; simp only [List.length_cons, List.length_nil]; omega) (HA.out _).2.1 ?_); intro v5 w5 ho5 hg5; have H5 : Hid _ := And.intro ho5 (ents_grownE (HA.out _).1 hg5 (HA.out _).2.2 (Nat.le_refl _)); clear ho5 hg5))
        go_roundw
        case rel =>
          refine ⟨pa, p', _, n2, da, c2, _, yt, L ++ [⟨kb, vb, sb, db'⟩], rfl, rfl, HS.out.1, HEN.out, H5.out.1, H5.out.2, ?_, ?_⟩
          · have h := HS.out.2.2.2.1; rw [HNX.out] at h; rw [← h, List.append_assoc]; rfl
          · have h := HS.out.2.2.2.2.1; simp only [List.length_append, List.length_cons, List.length_nil] at h ⊢; omega
        case measure => have h1 := HEN.out.len; have h2 := HS.out.2.1.len; simp only [List.length_cons] at h2; simp [lenV]; omega
    | cons x0 xt =>
      have hma : ma = xt.length + 1 := by have := hx.len; simpa using this
      have maI : (0 : Int) < (ma : Int) := by omega
      have maN : 0 < ma := by omega
      cases y with
      | nil =>
        obtain rfl : mb = 0 := hy.len
        have HNX : Hid (twoE (x0 :: xt) [] = x0 :: twoE xt []) := by show _ = _; rw [twoE_nil', twoE_nil']
        obtain ⟨ba, oa, rfl⟩ := hx.lies.addr (by simp)
        obtain ⟨ka, va, sa, da'⟩ := x0
        obtain ⟨z0, z1, z2, z3⟩ := (hx.lies.below hbel).at (k := 0) (by simp)
        simp only [List.getD_cons_zero, Nat.zero_mul, Nat.add_zero] at z0 z1 z2 z3
        have HO2 : Hid (EOwn wr w.heap.size (.slice qo lo co) L ∧ Below w.heap.size w wr) := ⟨HO.out, hbel⟩
        clear hx hy hbel hma
        obtain ⟨p', n2, c2, hcut, hen⟩ := HS.out.1.tail
        have HEN : Hid (EnA w p' n2 c2 xt) := hen
        clear hen
        have HA : Hid (∀ j, EOwn ((wr.drewN j).alloc (.cells #[.string ka, .string va, .int .i64 sa, .bool da'] 23)) w.heap.size (.slice qo lo co) L ∧ w.heap.size ≤ ((wr.drewN j).alloc (.cells #[.string ka, .string va, .int .i64 sa, .bool da'] 23)).heap.size ∧ Below w.heap.size w ((wr.drewN j).alloc (.cells #[.string ka, .string va, .int .i64 sa, .bool da'] 23))) := fun j => ⟨(HO2.out.1.below (below_drewN (Below.refl _ _) j)).below (below_alloc _ _), (below_bt (below_drewN HO2.out.2 j) (below_alloc _ _)).size, below_bt (below_drewN HO2.out.2 j) (below_alloc _ _)⟩
        have HE1 : Hid (∀ j, EntsIn ((wr.drewN j).alloc (.cells #[.string ka, .string va, .int .i64 sa, .bool da'] 23)) (some ⟨wr.heap.size, 0, none⟩) [⟨ka, va, sa, da'⟩]) := fun j => ents_new (wr.drewN j) ka va sa da'
        go_wp2
        go_quiet (fail)
        go_wp2_with (at_builtin; go_loud ((refine wpList_append_two _ rfl _ _ rfl w.heap.size (.slice qo lo co) L [⟨ka, va, sa, da'⟩] (some ⟨wr.heap.size, 0, none⟩) 1 1 rfl rfl rfl (HA.out _).1 (HE1.out _) (fun h => by cases h) (by have := HS.out.2.2.2.2.2; simp only [List.length_cons, List.length_nil]; omega) (HA.out _).2.1 ?_); intro v5 w5 ho5 hg5; have H5 : Hid _ := And.intro ho5 (ents_grownE (HA.out _).1 hg5 (HA.out _).2.2 (Nat.le_refl _)); clear ho5 hg5))
        go_roundw
        case rel =>
          refine ⟨p', pb, n2, _, c2, db, xt, _, L ++ [⟨ka, va, sa, da'⟩], rfl, rfl, HEN.out, HS.out.2.1, H5.out.1, H5.out.2, ?_, ?_⟩
          · have h := HS.out.2.2.2.1; rw [HNX.out] at h; rw [← h, List.append_assoc]; rfl
          · have h := HS.out.2.2.2.2.1; simp only [List.length_append, List.length_cons, List.length_nil] at h ⊢; omega
        case measure => have h1 := HEN.out.len; have h2 := HS.out.1.len; simp only [List.length_cons] at h2; simp [lenV]; omega
      | cons y0 yt =>
        have hmb : mb = yt.length + 1 := by have := hy.len; simpa using this
        have mbI : (0 : Int) < (mb : Int) := by omega
        have mbN : 0 < mb := by omega
        have mbE : ((mb : Int) == 0) = false := by simp; omega
        have mbE' : (mb == 0) = false := by simp; omega
        obtain ⟨ba, oa, rfl⟩ := hx.lies.addr (by simp)
        obtain ⟨bb, ob, rfl⟩ := hy.lies.addr (by simp)
        obtain ⟨ka, va, sa, da'⟩ := x0
        obtain ⟨kb, vb, sb, db'⟩ := y0
        have x4 := (hx.lies.below hbel).at (k := 0) (by simp)
        have y4 := (hy.lies.below hbel).at (k := 0) (by simp)
        simp only [List.getD_cons_zero, Nat.zero_mul, Nat.add_zero] at x4 y4
        have HP : Hid (C4 wr ba oa (.string ka) (.string va) (.int .i64 sa) (.bool da')) := x4
        have HD : Hid (C4 wr bb ob (.string kb) (.string vb) (.int .i64 sb) (.bool db')) := y4
        obtain ⟨r, hr⟩ : ∃ r, lessE ⟨ka, va, sa, da'⟩ ⟨kb, vb, sb, db'⟩ = r := ⟨_, rfl⟩
        have HLE := fun w' => rless_any ⟨ka, va, sa, da'⟩ ⟨kb, vb, sb, db'⟩ w'
        rw [hr, entV_def, entV_def] at HLE
        have HR : Hid (lessE ⟨ka, va, sa, da'⟩ ⟨kb, vb, sb, db'⟩ = r) := hr
        clear x4 y4 hr hma hmb hx hy hbel
        go_wp2
        go_region_held3 (fun w' => (w'.cell? ⟨bb, ob, none⟩ = some (.string kb) ∧ w'.cell? ⟨bb, ob + 1, none⟩ = some (.string vb) ∧ w'.cell? ⟨bb, ob + 2, none⟩ = some (.int .i64 sb) ∧ w'.cell? ⟨bb, ob + 3, none⟩ = some (.bool db')) ∧ (w'.cell? ⟨ba, oa, none⟩ = some (.string ka) ∧ w'.cell? ⟨ba, oa + 1, none⟩ = some (.string va) ∧ w'.cell? ⟨ba, oa + 2, none⟩ = some (.int .i64 sa) ∧ w'.cell? ⟨ba, oa + 3, none⟩ = some (.bool da')) ∧ Below wr.heap.size wr w')
          (with_reducible first | exact ⟨HD.out, HP.out, Below.refl _ _⟩ | exact ⟨c4_below HD.out (Below.refl _ _).drew, c4_below HP.out (Below.refl _ _).drew, (Below.refl _ _).drew⟩ | exact ⟨c4_below HD.out (below_dw (by assumption)), c4_below HP.out (below_dw (by assumption)), below_dw (by assumption)⟩ | assumption)
          (first
            | (go_at_call 33; refine (HLE _).mono ?_; rintro e w4 ⟨rfl, hb4⟩)
            | fail)
        rename_i hh
        have HB4 : Hid (Below wr.heap.size wr w4) := hh.2.2
        clear hh HLE
        cases r with
        | true =>
          have HNX : Hid (twoE (⟨ka, va, sa, da'⟩ :: xt) (⟨kb, vb, sb, db'⟩ :: yt) = ⟨ka, va, sa, da'⟩ :: twoE xt (⟨kb, vb, sb, db'⟩ :: yt)) := twoE_left HR.out
          obtain ⟨z0, z1, z2, z3⟩ := c4_below HP.out HB4.out
          have HO2 : Hid (EOwn w4 w.heap.size (.slice qo lo co) L ∧ Below w.heap.size w w4) := ⟨HO.out.below HB4.out, below_bt HS.out.2.2.1 HB4.out⟩
          obtain ⟨p', n2, c2, hcut, hen⟩ := HS.out.1.tail
          have HEN : Hid (EnA w p' n2 c2 xt) := hen
          clear hen
          have HA : Hid (EOwn (w4.alloc (.cells #[.string ka, .string va, .int .i64 sa, .bool da'] 23)) w.heap.size (.slice qo lo co) L ∧ w.heap.size ≤ (w4.alloc (.cells #[.string ka, .string va, .int .i64 sa, .bool da'] 23)).heap.size ∧ Below w.heap.size w (w4.alloc (.cells #[.string ka, .string va, .int .i64 sa, .bool da'] 23))) := ⟨(HO2.out.1).below (below_alloc _ _), (below_bt HO2.out.2 (below_alloc _ _)).size, below_bt HO2.out.2 (below_alloc _ _)⟩
          have HE1 : Hid (EntsIn (w4.alloc (.cells #[.string ka, .string va, .int .i64 sa, .bool da'] 23)) (some ⟨w4.heap.size, 0, none⟩) [⟨ka, va, sa, da'⟩]) := ents_new w4 ka va sa da'
          go_wp2_with (at_builtin; go_loud ((refine wpList_append_two _ rfl _ _ rfl w.heap.size (.slice qo lo co) L [⟨ka, va, sa, da'⟩] (some ⟨w4.heap.size, 0, none⟩) 1 1 rfl rfl rfl HA.out.1 HE1.out (fun h => by cases h) (by have := HS.out.2.2.2.2.2; simp only [List.length_cons, List.length_nil]; omega) HA.out.2.1 ?_); intro v5 w5 ho5 hg5; have H5 : Hid _ := And.intro ho5 (ents_grownE HA.out.1 hg5 HA.out.2.2 (Nat.le_refl _)); clear ho5 hg5))
          go_roundw
          case rel =>
            refine ⟨p', _, n2, _, c2, db, xt, _, L ++ [⟨ka, va, sa, da'⟩], rfl, rfl, HEN.out, HS.out.2.1, H5.out.1, H5.out.2, ?_, ?_⟩
            · have h := HS.out.2.2.2.1; rw [HNX.out] at h; rw [← h, List.append_assoc]; rfl
            · have h := HS.out.2.2.2.2.1; simp only [List.length_append, List.length_cons, List.length_nil] at h ⊢; omega
          case measure => have h1 := HEN.out.len; have h2 := HS.out.1.len; simp only [List.length_cons] at h2; simp [lenV]; omega
        | false =>
          have HNX : Hid (twoE (⟨ka, va, sa, da'⟩ :: xt) (⟨kb, vb, sb, db'⟩ :: yt) = ⟨kb, vb, sb, db'⟩ :: twoE (⟨ka, va, sa, da'⟩ :: xt) yt) := twoE_right HR.out
          obtain ⟨z0, z1, z2, z3⟩ := c4_below HD.out HB4.out
          have HO2 : Hid (EOwn w4 w.heap.size (.slice qo lo co) L ∧ Below w.heap.size w w4) := ⟨HO.out.below HB4.out, below_bt HS.out.2.2.1 HB4.out⟩
          obtain ⟨p', n2, c2, hcut, hen⟩ := HS.out.2.1.tail
          have HEN : Hid (EnA w p' n2 c2 yt) := hen
          clear hen
          have HA : Hid (EOwn (w4.alloc (.cells #[.string kb, .string vb, .int .i64 sb, .bool db'] 23)) w.heap.size (.slice qo lo co) L ∧ w.heap.size ≤ (w4.alloc (.cells #[.string kb, .string vb, .int .i64 sb, .bool db'] 23)).heap.size ∧ Below w.heap.size w (w4.alloc (.cells #[.string kb, .string vb, .int .i64 sb, .bool db'] 23))) := ⟨(HO2.out.1).below (below_alloc _ _), (below_bt HO2.out.2 (below_alloc _ _)).size, below_bt HO2.out.2 (below_alloc _ _)⟩
          have HE1 : Hid (EntsIn (w4.alloc (.cells #[.string kb, .string vb, .int .i64 sb, .bool db'] 23)) (some ⟨w4.heap.size, 0, none⟩) [⟨kb, vb, sb, db'⟩]) := ents_new w4 kb vb sb db'
          go_wp2_with (at_builtin; go_loud ((refine wpList_append_two _ rfl _ _ rfl w.heap.size (.slice qo lo co) L [⟨kb, vb, sb, db'⟩] (some ⟨w4.heap.size, 0, none⟩) 1 1 rfl rfl rfl HA.out.1 HE1.out (fun h => by cases h) (by have := HS.out.2.2.2.2.2; simp only [List.length_cons, List.length_nil]; omega) HA.out.2.1 ?_); intro v5 w5 ho5 hg5; have H5 : Hid _ := And.intro ho5 (ents_grownE HA.out.1 hg5 HA.out.2.2 (Nat.le_refl _)); clear ho5 hg5))
          go_roundw
          case rel =>
            refine ⟨_, p', _, n2, da, c2, _, yt, L ++ [⟨kb, vb, sb, db'⟩], rfl, rfl, HS.out.1, HEN.out, H5.out.1, H5.out.2, ?_, ?_⟩
            · have h := HS.out.2.2.2.1; rw [HNX.out] at h; rw [← h, List.append_assoc]; rfl
            · have h := HS.out.2.2.2.2.1; simp only [List.length_append, List.length_cons, List.length_nil] at h ⊢; omega
          case measure => have h1 := HEN.out.len; have h2 := HS.out.2.1.len; simp only [List.length_cons] at h2; simp [lenV]; omega
end Go.Proofs.Ytbnacopefclklaa
namespace Go.Proofs.Ytbnacopefclklaa
open Go.RowKit Go.WideShapes

theorem fold_len {ls : List (List EntV)} (h : ∀ l ∈ ls, WeakE l) (k : Nat) : ((ls.take k).foldl twoE []).length = (ls.take k).flatten.length := by
  have := (foldl_two (ls.take k) [] List.Pairwise.nil (fun l hl => h l (List.mem_of_mem_take hl))).1.length_eq
  simpa using this
theorem flat_take (ls : List (List EntV)) (k : Nat) : (ls.take k).flatten.length ≤ ls.flatten.length := by
  conv => rhs; rw [← List.take_append_drop k ls, List.flatten_append, List.length_append]
  omega
theorem fold_succ {ls : List (List EntV)} {k : Nat} (h : k < ls.length) : (ls.take (k + 1)).foldl twoE [] = twoE ((ls.take k).foldl twoE []) (ls.getD k []) := by
  rw [List.take_add_one, List.getElem?_eq_getElem h, List.getD_eq_getElem?_getD, List.getElem?_eq_getElem h, List.foldl_append]
  rfl
set_option maxRecDepth 8000 in
set_option maxHeartbeats 4000000 in
theorem rAll_any (q : Option Addr) (n c : Nat) (R : List RV) (w : World) (h : RowsL w q n R) (hnb : (n : Int) ≤ 9223372036854775807) (L : List EntV) (E : Nat) (hE : allE (lsR R) = (L, E)) :
    Calls Try.prog 18 #[.slice q n c] w fun e w' => ∃ v, e = .returned (.tuple #[v, .int .i64 (E : Int)]) ∧ OnB w v L w' := by
  have HL : Hid (RowsL w q n R) := h
  have HAE : Hid (allE (lsR R) = (L, E)) := hE
  obtain ⟨C0, hC0⟩ : ∃ C, chkR (lsR R) = C := ⟨_, rfl⟩
  have HCK : Hid (chkR (lsR R) = C0) := hC0
  have HBAD : Hid (C0 ≠ 0 → L = [] ∧ E = C0) := by
    intro hne
    have h1 := allE_bad (ls := lsR R) (by rw [hC0]; exact hne)
    rw [hE, Prod.mk.injEq, hC0] at h1
    exact h1
  unfold chkR at hC0
  rw [lsR_len] at hC0
  by_cases h64 : 64 < R.length
  · rw [if_pos h64] at hC0
    subst hC0
    have g1 : (64 : Int) < (n : Int) := by have := h.n; omega
    obtain ⟨rfl, rfl⟩ := HBAD.out (by decide)
    clear h h64 hE
    go_enter Try.func18, Try.ntmps18
    go_wp2
    go_ret2
    exact ⟨_, rfl, eown_nil _ _, Below.refl _ _⟩
  · rw [if_neg h64] at hC0
    have HE : Hid ((if firstE (lsR R) ≠ 0 then firstE (lsR R) else if 16384 < (lsR R).flatten.length then 4 else 0) = C0) := hC0
    have g1 : (n : Int) ≤ 64 := by have := h.n; omega
    have g1' : n ≤ 64 := by omega
    clear h h64 hC0 hnb hE
    go_enter Try.func18, Try.ntmps18
    go_wp2
    go_loopw [4, 5] (fun s4 s5 wr => ∃ (k m : Nat), s5 = .int .i64 (k : Int) ∧ s4 = .int .i64 (m : Int) ∧ k ≤ n ∧ m = (entsR (R.take k)).length ∧ m ≤ k * 4096 ∧ firstE ((lsR R).drop k) = firstE (lsR R) ∧ Below w.heap.size w wr) (fun _ s5 _ => n - (intOf s5).toNat)
    case atStart => exact ⟨0, 0, rfl, rfl, by omega, by simp [entsR], by omega, by rw [List.drop_zero], Below.refl _ _⟩
    case round =>
      obtain ⟨k, m, rfl, rfl, hk, hm, hmk, hf, hbel⟩ := hrel
      have HK : Hid (m = (entsR (R.take k)).length ∧ m ≤ k * 4096 ∧ firstE ((lsR R).drop k) = firstE (lsR R) ∧ Below w.heap.size w wr) := ⟨hm, hmk, hf, hbel⟩
      clear hm hmk hf hbel
      by_cases hkn : k < n
      · have hkI : (k : Int) < (n : Int) := by omega
        have k0 : (0 : Int) ≤ (k : Int) := by omega
        have hkR : k < R.length := by have := HL.out.n; omega
        obtain ⟨b, o, rfl, hc⟩ := (HL.out.below HK.out.2.2.2).at hkR
        have hro := (HL.out.each _ (getR_mem hkR)).below HK.out.2.2.2
        have hfa := firstE_at (ls := lsR R) (k := k) (by rw [lsR_len]; exact hkR)
        have hsu := sumR_succ hkR
        rw [lsR_at hkR] at hfa
        obtain ⟨⟨qr, nr, cr, lr⟩, hr⟩ : ∃ r, R.getD k zR = r := ⟨_, rfl⟩
        rw [hr] at hc hro hfa hsu
        simp only at hfa hsu
        rw [show rvV ⟨qr, nr, cr, lr⟩ = .slice qr nr cr from rfl] at hc
        obtain ⟨C, hC⟩ : ∃ C, checkE lr = C := ⟨_, rfl⟩
        have HCK2 := rCheck_any qr nr cr lr wr ⟨hro.n, hro.lies⟩ C hC
        rw [hC] at hfa
        have HF : Hid (firstE ((lsR R).drop k) = (if C ≠ 0 then C else firstE ((lsR R).drop (k + 1))) ∧ (entsR (R.take (k + 1))).length = (entsR (R.take k)).length + nr ∧ (C = 0 → nr ≤ 4096) ∧ k < n) := ⟨hfa, by rw [hsu]; have := hro.n; simp only at this; omega, fun h0 => by have := ((checkE_rise lr).1 (hC.trans h0)).1; have := hro.n; simp only at this; omega, hkn⟩
        clear hfa hsu hro hr hkR hkn hC
        by_cases hCz : C = 0
        · subst hCz
          obtain ⟨m', hm'⟩ : ∃ m', m + nr = m' := ⟨_, rfl⟩
          have hmw : IntKind.i64.wrap ((m : Int) + (nr : Int)) = (m' : Int) := by have := HF.out.2.2.1 rfl; have := HK.out.2.1; rw [IntKind.wrap_i64]; omega
          have HM : Hid (m + nr = m' ∧ nr ≤ 4096) := ⟨hm', HF.out.2.2.1 rfl⟩
          have HCL : Hid (wr.cell? ⟨b, o + k, none⟩ = some (.slice qr nr cr)) := hc
          clear hm'
          go_wp2_with fail
          refine HCK2.mono ?_
          rintro e w2 ⟨rfl, hb2⟩
          have HB2 : Hid (Below w.heap.size w w2) := below_bt HK.out.2.2.2 hb2
          have hc2 : w2.cell? ⟨b, o + k, none⟩ = some (.slice qr nr cr) := cell_below HCL.out hb2
          clear hb2 HCK2 hc
          go_wp2
          go_roundw
          case rel => exact ⟨k + 1, m', by go_num, rfl, by have := HF.out; omega, by have := HF.out; have := HK.out; have := HM.out; omega, by have := HK.out; have := HM.out; omega, by have := HF.out.1; rw [if_neg (by simp)] at this; rw [← this]; exact HK.out.2.2.1, HB2.out⟩
          case measure => have := HF.out; simp [intOf]; omega
        · have e1 : ((C : Int) != 0) = true := by simp; omega
          have e1' : ((C : Int) == 0) = false := by simp; omega
          have HC0 : Hid (C ≠ 0) := hCz
          have hEC : C0 = C := by
            have h1 := HF.out.1
            rw [if_pos hCz, HK.out.2.2.1] at h1
            have h2 := HE.out
            rw [h1, if_pos hCz] at h2
            exact h2.symm
          obtain ⟨rfl, rfl⟩ := HBAD.out (by rw [hEC]; exact hCz)
          subst hEC
          clear hCz
          go_wp2_with fail
          refine HCK2.mono ?_
          rintro e w2 ⟨rfl, hb2⟩
          have HB2 : Hid (Below w.heap.size w w2) := below_bt HK.out.2.2.2 hb2
          clear hb2 HCK2
          go_wp2
          go_ret2
          exact ⟨_, rfl, eown_nil _ _, HB2.out⟩
      · have hkI : (n : Int) ≤ (k : Int) := by omega
        have hkD : decide ((k : Int) < (n : Int)) = false := decide_eq_false (by omega)
        have hkD' : decide (k < n) = false := decide_eq_false hkn
        have hkR : R.take k = R := List.take_of_length_le (by have := HL.out.n; omega)
        have hF0 : firstE (lsR R) = 0 := by rw [← HK.out.2.2.1, List.drop_eq_nil_of_le (by rw [lsR_len]; have := HL.out.n; omega)]; rfl
        have HMM : Hid (m = (entsR R).length ∧ (if 16384 < m then 4 else 0) = C0) := by
          have h1 := HK.out.1
          rw [hkR] at h1
          refine ⟨h1, ?_⟩
          have h2 := HE.out
          rw [hF0, if_neg (by simp)] at h2
          rw [h1]
          exact h2
        have hmI : (m : Int) ≤ 1000000 := by have := HK.out; omega
        clear hkR hF0
        by_cases hbig : 16384 < m
        · have hbI : (16384 : Int) < (m : Int) := by omega
          obtain rfl : 4 = C0 := by have := HMM.out.2; rw [if_pos hbig] at this; exact this
          obtain ⟨rfl, rfl⟩ := HBAD.out (by decide)
          go_wp2
          go_ret2
          exact ⟨_, rfl, eown_nil _ _, HK.out.2.2.2⟩
        · have hbI : (m : Int) ≤ (16384 : Int) := by omega
          obtain rfl : 0 = C0 := by have := HMM.out.2; rw [if_neg hbig] at this; exact this
          obtain ⟨z1, z2, z3⟩ := chkR_zero.1 HCK.out
          have hwk := chk_weak z2
          have HZ : Hid ((∀ l ∈ lsR R, WeakE l) ∧ (lsR R).flatten.length ≤ 16384) := ⟨hwk, z3⟩
          obtain ⟨a1, a2⟩ := allE_of HCK.out (allM_perm hwk).1 (allM_perm hwk).2
          have HA : Hid ((RiseE (allM (lsR R)) → allE (lsR R) = (allM (lsR R), 0)) ∧ (¬ RiseE (allM (lsR R)) → allE (lsR R) = ([], 100)) ∧ (allM (lsR R)).length ≤ 16384) := ⟨a1, a2, by rw [(allM_perm hwk).1.length_eq]; exact z3⟩
          have HB0 : Hid (Below w.heap.size w wr) := HK.out.2.2.2
          clear z1 z2 z3 hwk a1 a2 hbig hkn
          go_wp2
          go_loopw [7, 8] (fun s7 s8 wx => ∃ j : Nat, s8 = .int .i64 (j : Int) ∧ j ≤ n ∧ EOwn wx w.heap.size s7 (((lsR R).take j).foldl twoE []) ∧ Below w.heap.size w wx) (fun _ s8 _ => n - (intOf s8).toNat)
          case atStart => exact ⟨0, rfl, by omega, eown_nil _ _, HB0.out⟩
          case round =>
            obtain ⟨j, rfl, hj, ho, hbel⟩ := hrel
            obtain ⟨qo, co, rfl, hlc, hcm, hqn⟩ := ho.form
            obtain ⟨P, hP⟩ : ∃ P, ((lsR R).take j).foldl twoE [] = P := ⟨_, rfl⟩
            rw [hP] at ho hlc ⊢
            have HO : Hid (EOwn wr w.heap.size (.slice qo P.length co) P ∧ Below w.heap.size w wr) := ⟨ho, hbel⟩
            obtain ⟨lp, hlp⟩ : ∃ lp, P.length = lp := ⟨_, rfl⟩
            have HP : Hid (((lsR R).take j).foldl twoE [] = P ∧ P.length = lp ∧ P.length ≤ 16384) := ⟨hP, hlp, by rw [← hP, fold_len HZ.out.1 j]; exact Nat.le_trans (flat_take _ _) HZ.out.2⟩
            rw [hlp] at HO hlc ⊢
            by_cases hjn : j < n
            · have hjI : (j : Int) < (n : Int) := by omega
              have j0 : (0 : Int) ≤ (j : Int) := by omega
              have hjR : j < R.length := by have := HL.out.n; omega
              obtain ⟨b, o, rfl, hc⟩ := (HL.out.below hbel).at hjR
              have hrm := getR_mem hjR
              have hro := (HL.out.each _ hrm).below hbel
              have hfs := fold_succ (ls := lsR R) (k := j) (by rw [lsR_len]; exact hjR)
              have hle : (R.getD j zR).l.length ≤ 16384 := by
                have h1 := sumR_succ hjR
                have h2 := flat_take (lsR R) (j + 1)
                have h3 : (entsR (R.take (j + 1))).length = ((lsR R).take (j + 1)).flatten.length := by unfold entsR lsR; rw [List.map_take]
                have := HZ.out.2
                omega
              rw [lsR_at hjR, hP] at hfs
              obtain ⟨⟨qr, nr, cr, lr⟩, hr⟩ : ∃ r, R.getD j zR = r := ⟨_, rfl⟩
              rw [hr] at hc hro hfs hle
              simp only at hfs hle
              rw [show rvV ⟨qr, nr, cr, lr⟩ = .slice qr nr cr from rfl] at hc
              have HT := rtwo_any qo qr lp nr co cr P lr wr ⟨hlp.symm, HO.out.1.ents, hlc, hqn⟩ ⟨hro.n, hro.lies, hro.nc, hro.q⟩ (by have := HP.out.2.2; omega)
              have HFS : Hid (((lsR R).take (j + 1)).foldl twoE [] = twoE P lr ∧ j < n) := ⟨hfs, hjn⟩
              clear ho hlc hcm hqn hP hlp hbel hjR hrm hro hfs hle hr hjn hj
              go_wp2_with fail
              refine HT.mono ?_
              rintro e w2 ⟨v2, rfl, h2⟩
              have H2 : Hid (EOwn w2 w.heap.size v2 (((lsR R).take (j + 1)).foldl twoE []) ∧ Below w.heap.size w w2) := ⟨by rw [HFS.out.1]; exact own_base h2.own HO.out.2.size, below_bt HO.out.2 h2.bel⟩
              clear h2 HT
              go_wp2
              go_roundw
              case rel => exact ⟨j + 1, by go_num, by have := HFS.out.2; omega, H2.out⟩
              case measure => have := HFS.out.2; simp [intOf]; omega
            · have hjI : (n : Int) ≤ (j : Int) := by omega
              have hjD : decide ((j : Int) < (n : Int)) = false := decide_eq_false (by omega)
              have hjD' : decide (j < n) = false := decide_eq_false hjn
              have hPM : P = allM (lsR R) := by
                rw [← hP, List.take_of_length_le (by rw [lsR_len]; have := HL.out.n; omega)]
                rfl
              subst hPM
              have HN : Hid ((allM (lsR R)).length = lp ∧ lp ≤ 16384) := ⟨hlp, by rw [← hlp]; exact HA.out.2.2⟩
              have lpI : (lp : Int) ≤ 16384 := by have := HN.out; omega
              have HO3 : Hid (EOwn wr w.heap.size (.slice qo lp co) (allM (lsR R)) ∧ Below w.heap.size w wr) := HO.out
              obtain ⟨L3, hL3⟩ : ∃ L3, allM (lsR R) = L3 := ⟨_, rfl⟩
              rw [hL3] at HN HO3 HA
              clear ho hlc hcm hqn hP hlp hbel hjn hj HP HO HL
              rename World => w3
              go_wp2
              go_loopw [9] (fun s9 wy => ∃ (k : Nat), s9 = .int .i64 ((k : Int) + 1) ∧ k ≤ lp ∧ (∀ i, i + 1 < L3.length → i < k → lessE (L3.getD i zeroE) (L3.getD (i + 1) zeroE) = true) ∧ Below w3.heap.size w3 wy) (fun s9 _ => lp + 1 - (intOf s9).toNat)
              case atStart => exact ⟨0, rfl, by omega, fun i _ hi => by omega, Below.refl _ _⟩
              case round =>
                obtain ⟨i0, rfl, hk, hadj, hbel⟩ := hrel
                have HKx : Hid (i0 ≤ lp ∧ (∀ i, i + 1 < L3.length → i < i0 → lessE (L3.getD i zeroE) (L3.getD (i + 1) zeroE) = true) ∧ Below w3.heap.size w3 wr) := ⟨hk, hadj, hbel⟩
                clear hadj hbel
                obtain ⟨j1, hj1⟩ : ∃ j1 : Nat, j1 = i0 + 1 := ⟨_, rfl⟩
                rw [show (i0 : Int) + 1 = (j1 : Int) by omega]
                have HJ1 : Hid (j1 = i0 + 1) := hj1
                have iI : (j1 : Int) ≤ 20000 := by omega
                have ij0 : (0 : Int) ≤ (j1 : Int) := by omega
                have kij0 : (0 : Int) ≤ (i0 : Int) := by omega
                have iw1 : IntKind.i64.wrap ((j1 : Int) - 1) = (i0 : Int) := by rw [IntKind.wrap_i64]; omega
                have iw2 : IntKind.i64.wrap ((j1 : Int) + 1) = (j1 : Int) + 1 := by rw [IntKind.wrap_i64]; omega
                by_cases him : j1 < lp
                · have hiI : (j1 : Int) < (lp : Int) := by omega
                  have hiI2 : (i0 : Int) < (lp : Int) := by omega
                  have HIM : Hid (j1 < lp) := him
                  have hen := (HO3.out.1.below HKx.out.2.2).ents
                  obtain ⟨be, oe, rfl⟩ := hen.addr (by have := HN.out; omega)
                  have x4 := hen.at (k := i0) (by have := HN.out; omega)
                  have y4 := hen.at (k := j1) (by have := HN.out; omega)
                  obtain ⟨⟨ka, va, sa, da⟩, hxa⟩ : ∃ x, L3.getD i0 zeroE = x := ⟨_, rfl⟩
                  obtain ⟨⟨kb, vb, sb, db⟩, hxb⟩ : ∃ x, L3.getD j1 zeroE = x := ⟨_, rfl⟩
                  rw [hxa] at x4
                  rw [hxb] at y4
                  obtain ⟨r, hr⟩ : ∃ r, lessE ⟨ka, va, sa, da⟩ ⟨kb, vb, sb, db⟩ = r := ⟨_, rfl⟩
                  have HLE := fun w' => rless_any ⟨ka, va, sa, da⟩ ⟨kb, vb, sb, db⟩ w'
                  rw [hr, entV_def, entV_def] at HLE
                  have HR : Hid (lessE (L3.getD i0 zeroE) (L3.getD (i0 + 1) zeroE) = r) := by show _ = _; rw [← HJ1.out, hxa, hxb]; exact hr
                  have HP : Hid (C4 wr be (oe + i0 * 4) (.string ka) (.string va) (.int .i64 sa) (.bool da)) := x4
                  have HD : Hid (C4 wr be (oe + j1 * 4) (.string kb) (.string vb) (.int .i64 sb) (.bool db)) := y4
                  clear x4 y4 hr hxa hxb hen him hj1 hk
                  go_wp2
                  go_region_held3 (fun w' => (w'.cell? ⟨be, oe + j1 * 4, none⟩ = some (.string kb) ∧ w'.cell? ⟨be, oe + j1 * 4 + 1, none⟩ = some (.string vb) ∧ w'.cell? ⟨be, oe + j1 * 4 + 2, none⟩ = some (.int .i64 sb) ∧ w'.cell? ⟨be, oe + j1 * 4 + 3, none⟩ = some (.bool db)) ∧ (w'.cell? ⟨be, oe + i0 * 4, none⟩ = some (.string ka) ∧ w'.cell? ⟨be, oe + i0 * 4 + 1, none⟩ = some (.string va) ∧ w'.cell? ⟨be, oe + i0 * 4 + 2, none⟩ = some (.int .i64 sa) ∧ w'.cell? ⟨be, oe + i0 * 4 + 3, none⟩ = some (.bool da)) ∧ Below wr.heap.size wr w')
                    (with_reducible first | exact ⟨HD.out, HP.out, Below.refl _ _⟩ | exact ⟨c4_below HD.out (Below.refl _ _).drew, c4_below HP.out (Below.refl _ _).drew, (Below.refl _ _).drew⟩ | exact ⟨c4_below HD.out (below_dw (by assumption)), c4_below HP.out (below_dw (by assumption)), below_dw (by assumption)⟩ | assumption)
                    (first
                      | (go_at_call 33; refine (HLE _).mono ?_; rintro e w4 ⟨rfl, hb4⟩)
                      | fail)
                  rename_i hh
                  have HB4 : Hid (Below w3.heap.size w3 w4) := below_bt HKx.out.2.2 hh.2.2
                  clear hh HLE
                  cases r with
                  | true =>
                    go_wp2
                    go_roundw
                    case rel =>
                      refine ⟨j1, ?_, by have := HIM.out; omega, fun i hi hik => ?_, HB4.out⟩
                      · rfl
                      · by_cases e : i = i0
                        · subst e; exact HR.out
                        · exact HKx.out.2.1 i hi (by have := HJ1.out; omega)
                    case measure => have := HIM.out; simp [intOf]; omega
                  | false =>
                    have hnr : ¬ RiseE L3 := fun hh => by
                      have := rise_adj.1 hh i0 (by have := HN.out; have := HIM.out; have := HJ1.out; omega)
                      rw [HR.out] at this
                      cases this
                    have hLE := HA.out.2.1 hnr
                    rw [HAE.out, Prod.mk.injEq] at hLE
                    obtain ⟨rfl, rfl⟩ := hLE
                    go_wp2
                    go_ret2
                    exact ⟨_, rfl, eown_nil _ _, below_bt HO3.out.2 HB4.out⟩
                · have hiI : (lp : Int) ≤ (j1 : Int) := by omega
                  have hr : RiseE L3 := rise_adj.2 (fun i hi => HKx.out.2.1 i hi (by have := HN.out; omega))
                  have hLE := HA.out.1 hr
                  rw [HAE.out, Prod.mk.injEq] at hLE
                  obtain ⟨rfl, rfl⟩ := hLE
                  have HEO : Hid (EOwn wr w.heap.size (.slice qo lp co) L) := by
                    have h1 := HO3.out.1.below HKx.out.2.2
                    exact h1
                  clear hr
                  go_wp2
                  go_ret2
                  exact ⟨_, rfl, HEO.out, below_bt HO3.out.2 HKx.out.2.2⟩
end Go.Proofs.Ytbnacopefclklaa
namespace Go.Proofs.Ytbnacopefclklaa
open Go.RowKit Go.WideShapes

/-! ### From a key on -/
def keyF (l : List EntV) (k : ByteArray) : Nat := (l.takeWhile fun x => ltB x.key k).length
theorem keyF_le (l : List EntV) (k : ByteArray) : keyF l k ≤ l.length := (List.takeWhile_sublist _).length_le
theorem keyF_lo : ∀ {l : List EntV} {k : ByteArray} {t : Nat}, t < keyF l k → ltB (l.getD t zeroE).key k = true
  | [], _, _, h => by simp [keyF] at h
  | x :: l, k, t, h => by
    unfold keyF at h
    rw [List.takeWhile_cons] at h
    split at h
    · rename_i hx
      cases t with
      | zero => simpa using hx
      | succ t =>
        simp only [List.length_cons] at h
        rw [List.getD_cons_succ]
        exact keyF_lo (by unfold keyF; omega)
    · simp at h
theorem keyF_hi : ∀ {l : List EntV} {k : ByteArray} {t : Nat}, RiseE l → keyF l k ≤ t → t < l.length → ltB (l.getD t zeroE).key k = false
  | [], _, _, _, _, h => by simp at h
  | x :: l, k, t, hr, h, ht => by
    obtain ⟨h1, h2⟩ := List.pairwise_cons.1 hr
    unfold keyF at h
    rw [List.takeWhile_cons] at h
    split at h
    · cases t with
      | zero => simp at h
      | succ t =>
        simp only [List.length_cons] at h ht
        rw [List.getD_cons_succ]
        exact keyF_hi h2 (by unfold keyF; omega) (by omega)
    · rename_i hx
      have hx' : ltB x.key k = false := by simpa using hx
      cases t with
      | zero => simpa using hx'
      | succ t =>
        simp only [List.length_cons] at ht
        rw [List.getD_cons_succ]
        have hl := lessE_key (h1 _ (getD_mem' (show t < l.length by omega)))
        cases hc : ltB (l.getD t zeroE).key k with
        | false => rfl
        | true =>
          have := ltB_le_lt hl hc
          rw [hx'] at this
          cases this
theorem keyF_drop {l : List EntV} (hr : RiseE l) (k : ByteArray) : l.filter (fun x => !ltB x.key k) = l.drop (keyF l k) := by
  conv => lhs; rw [← List.take_append_drop (keyF l k) l]
  rw [List.filter_append]
  have h1 : (l.take (keyF l k)).filter (fun x => !ltB x.key k) = [] := by
    rw [List.filter_eq_nil_iff]
    intro x hx
    obtain ⟨i, hi, rfl⟩ := List.mem_iff_getElem.1 hx
    rw [List.length_take] at hi
    have := keyF_lo (l := l) (k := k) (t := i) (by omega)
    rw [List.getD_eq_getElem?_getD, List.getElem?_eq_getElem (by omega : i < l.length)] at this
    simp only [Option.getD_some] at this
    rw [List.getElem_take]
    simp [this]
  have h2 : (l.drop (keyF l k)).filter (fun x => !ltB x.key k) = l.drop (keyF l k) := by
    rw [List.filter_eq_self]
    intro x hx
    obtain ⟨i, hi, rfl⟩ := List.mem_iff_getElem.1 hx
    rw [List.length_drop] at hi
    have := keyF_hi (l := l) (k := k) (t := keyF l k + i) hr (by omega) (by omega)
    rw [List.getD_eq_getElem?_getD, List.getElem?_eq_getElem (by omega : keyF l k + i < l.length)] at this
    simp only [Option.getD_some] at this
    rw [List.getElem_drop]
    simp [this]
  rw [h1, h2, List.nil_append]
/-! ### How a cursor lies in memory -/
/-- A cursor at a block, with what is left; all its memory from a number on. -/
structure CurIn (w : World) (B g : Nat) (l : List EntV) : Prop where
  out : ∃ q n c, w.heap[g]? = some (.cells #[.bool true, .slice q n c] 34 (0, 0)) ∧ B ≤ g ∧ n = l.length ∧ EntsIn w q l ∧ n ≤ c ∧ c ≤ maxLen ∧ (q = none → c = 0) ∧ ∀ a, q = some a → B ≤ a.block ∧ ∃ cs fr, w.heap[a.block]? = some (.cells cs 23 fr)
/-- What Next leaves as it was. -/
structure KeptC (B : Nat) (w w' : World) : Prop where
  bel : Below B w w'
  typ : ∀ (b : Nat) (cs : Array Value) (t : TypeId) (fr : Nat × Nat), w.heap[b]? = some (.cells cs t fr) → t ≠ 34 → w'.heap[b]? = some (.cells cs t fr)
theorem KeptC.trans {B : Nat} {a b c : World} (h : KeptC B a b) (k : KeptC B b c) : KeptC B a c := ⟨h.bel.trans k.bel, fun _ _ _ _ e h1 => k.typ _ _ _ _ (h.typ _ _ _ _ e h1) h1⟩
theorem keptC_below {B : Nat} {w w' : World} (h : Below w.heap.size w w') (hB : B ≤ w.heap.size) : KeptC B w w' := ⟨h.mono hB, fun _ _ _ _ e _ => block_belowR e h⟩
theorem EOwn.keptC {B : Nat} {w w' : World} {base : Nat} {v : Value} {L : List EntV} (h : EOwn w base v L) (k : KeptC B w w') : EOwn w' base v L := by
  refine own_heap h (fun g hg => ?_)
  rcases h.2 with ⟨hv, _⟩ | ⟨g', cap, cur, hv, _, hgg, _⟩
  · rw [hv] at hg; cases hg
  · rw [hv] at hg
    simp only [Value.ownBlock, Option.some.injEq] at hg
    subst hg
    rw [hgg]
    exact k.typ _ _ _ _ hgg (by decide)
/-- Entries stay where all blocks that they are in stay. -/
theorem EntsIn.blk {w w' : World} {q : Option Addr} {l : List EntV} (h : EntsIn w q l) (hk : ∀ a, q = some a → w'.heap[a.block]? = w.heap[a.block]?) : EntsIn w' q l := by
  intro hp
  obtain ⟨b, o, rfl, hc⟩ := h hp
  have e := hk _ rfl
  refine ⟨b, o, rfl, fun i hi => ?_⟩
  obtain ⟨e0, e1, e2, e3⟩ := hc i hi
  exact ⟨(World.cell?_of_block (a := ⟨b, o + i * 4, none⟩) e).trans e0, (World.cell?_of_block (a := ⟨b, o + (i * 4 + 1), none⟩) e).trans e1, (World.cell?_of_block (a := ⟨b, o + (i * 4 + 2), none⟩) e).trans e2, (World.cell?_of_block (a := ⟨b, o + (i * 4 + 3), none⟩) e).trans e3⟩
theorem CurIn.keep {w w' : World} {B g : Nat} {l : List EntV} (h : CurIn w B g l) (hk : ∀ b o, B ≤ b → w.heap[b]? = some o → w'.heap[b]? = some o) : CurIn w' B g l := by
  obtain ⟨q, n, c, h1, h2, h3, h4, h5, h6, h7, h8⟩ := h.out
  refine ⟨q, n, c, hk _ _ h2 h1, h2, h3, h4.blk (fun a ha => ?_), h5, h6, h7, fun a ha => ?_⟩
  · obtain ⟨x1, cs, fr, x2⟩ := h8 a ha
    rw [x2]
    exact hk _ _ x1 x2
  · obtain ⟨x1, cs, fr, x2⟩ := h8 a ha
    exact ⟨x1, cs, fr, hk _ _ x1 x2⟩
theorem CurIn.below {w w' : World} {B g : Nat} {l : List EntV} (h : CurIn w B g l) (hb : Below w.heap.size w w') : CurIn w' B g l := h.keep (fun _ _ _ e => block_belowR e hb)
set_option maxHeartbeats 2000000 in
theorem searchK_any (n k : Nat) (p : Nat → Bool) (a b : Value) (w : World) (hn : n ≤ 20000) (hk : k ≤ n) (hlo : ∀ t, t < k → p t = false) (hhi : ∀ t, k ≤ t → t < n → p t = true)
    (hf : ∀ (i : Nat) (w' : World), i < n → Below w.heap.size w w' → Calls Try.prog 38 #[.int .i64 (i : Int), a, b] w' fun e w'' => e = .returned (.bool (p i)) ∧ Below w'.heap.size w' w'') :
    Calls Try.prog 37 #[.int .i64 (n : Int), .func (.func 38) #[] #[a, b]] w fun e w' => e = .returned (.int .i64 (k : Int)) ∧ Below w.heap.size w w' := by
  have HF : Hid (∀ (i : Nat) (w' : World), i < n → Below w.heap.size w w' → Calls Try.prog 38 #[.int .i64 (i : Int), a, b] w' fun e w'' => e = .returned (.bool (p i)) ∧ Below w'.heap.size w' w'') := hf
  have HP : Hid ((∀ t, t < k → p t = false) ∧ ∀ t, k ≤ t → t < n → p t = true) := ⟨hlo, hhi⟩
  have HKN : Hid (k ≤ n) := hk
  have hnI : (n : Int) ≤ 20000 := by omega
  clear hf hlo hhi hk hn
  go_enter Try.func37, Try.ntmps37
  go_wp2
  go_loopw [5, 6] (fun s5 s6 wr => ∃ lo hi : Nat, s5 = .int .i64 (lo : Int) ∧ s6 = .int .i64 (hi : Int) ∧ lo ≤ k ∧ k ≤ hi ∧ hi ≤ n ∧ Below w.heap.size w wr) (fun s5 s6 _ => (intOf s6 - intOf s5).toNat)
  case atStart => exact ⟨0, n, rfl, rfl, by omega, HKN.out, Nat.le_refl _, Below.refl _ _⟩
  case round =>
    obtain ⟨lo, hi, rfl, rfl, h1, h2, h3, hb⟩ := hrel
    have HH : Hid (lo ≤ k ∧ k ≤ hi ∧ hi ≤ n) := ⟨h1, h2, h3⟩
    have HB : Hid (Below w.heap.size w wr) := hb
    have hhI : (hi : Int) ≤ (n : Int) := by omega
    clear h1 h2 h3 hb
    by_cases hlt : lo < hi
    · have hltI : (lo : Int) < (hi : Int) := by omega
      have HLT : Hid (lo < hi) := hlt
      obtain ⟨md, hmd⟩ : ∃ md : Nat, (lo + hi) / 2 = md := ⟨_, rfl⟩
      have HMD : Hid (lo ≤ md ∧ md < hi) := by show _ ∧ _; omega
      have hmI : ((lo : Int) + (hi : Int)) / 2 = (md : Int) := by omega
      have hc := HF.out md wr (by have := HMD.out; have := HH.out; omega) HB.out
      have hmdI : (md : Int) < (hi : Int) := by have := HMD.out; omega
      have hmdI0 : (0 : Int) ≤ (md : Int) := by omega
      clear hlt hmd
      rcases Nat.lt_or_ge md k with hmk | hmk
      · rw [HP.out.1 md hmk] at hc
        have HMK : Hid (md < k) := hmk
        clear hmk
        rw [← hmI] at hc
        have HMI : Hid (((lo : Int) + (hi : Int)) / 2 = (md : Int)) := hmI
        clear hmI hmdI hmdI0
        go_wp2_with fail
        refine hc.mono ?_
        rintro e w2 ⟨rfl, hb2⟩
        have HB2 : Hid (Below w.heap.size w w2) := below_bt HB.out hb2
        clear hb2 hc
        go_wp2
        go_roundw
        case rel => exact ⟨md + 1, hi, by rw [HMI.out]; go_num, rfl, HMK.out, HH.out.2.1, HH.out.2.2, HB2.out⟩
        case measure => have := HMD.out; have := HMI.out; simp [intOf]; omega
      · rw [HP.out.2 md hmk (by have := HMD.out; have := HH.out; omega)] at hc
        have HMK : Hid (k ≤ md) := hmk
        clear hmk
        rw [← hmI] at hc
        have HMI : Hid (((lo : Int) + (hi : Int)) / 2 = (md : Int)) := hmI
        clear hmI hmdI hmdI0
        go_wp2_with fail
        refine hc.mono ?_
        rintro e w2 ⟨rfl, hb2⟩
        have HB2 : Hid (Below w.heap.size w w2) := below_bt HB.out hb2
        clear hb2 hc
        go_wp2
        go_roundw
        case rel => exact ⟨lo, md, rfl, by rw [HMI.out], HH.out.1, HMK.out, by have := HMD.out; have := HH.out; omega, HB2.out⟩
        case measure => have := HMD.out; have := HMI.out; simp [intOf]; omega
    · have hltI : (hi : Int) ≤ (lo : Int) := by omega
      have HE : Hid (lo = k) := by have := HH.out; show _ = _; omega
      clear hlt
      go_wp2
      go_ret
      exact ⟨by rw [HE.out]; rfl, HB.out⟩
theorem ge_text (a b : ByteArray) (r : Bool) (h : (!ltB a b) = r) : (!Op.bytesLess a.toList b.toList) = r := h
set_option maxHeartbeats 1000000 in
theorem newFn_any (g8 g5 : Nat) (q : Option Addr) (n c : Nat) (l : List EntV) (k : ByteArray) (i : Nat) (w : World) (h8 : w.heap[g8]? = some (.cells #[.slice q n c] 25 (0, 0))) (h5 : w.heap[g5]? = some (.cells #[.string k] 9 (0, 0))) (h : EntsL w q n l) (hi : i < l.length) (r : Bool) (hr : (!ltB (l.getD i zeroE).key k) = r) :
    Calls Try.prog 38 #[.int .i64 (i : Int), .pointer (some ⟨g8, 0, none⟩), .pointer (some ⟨g5, 0, none⟩)] w fun e w' => e = .returned (.bool r) ∧ Below w.heap.size w w' := by
  have c8 : w.cell? ⟨g8, 0, none⟩ = some (.slice q n c) := Lib.cell_of_heap h8 0
  have c5 : w.cell? ⟨g5, 0, none⟩ = some (.string k) := Lib.cell_of_heap h5 0
  obtain ⟨b, o, rfl⟩ := h.lies.addr (by omega)
  obtain ⟨x0, x1, x2, x3⟩ := h.lies.at (k := i) hi
  obtain ⟨⟨kx, vx, sx, dx⟩, hx⟩ : ∃ x, l.getD i zeroE = x := ⟨_, rfl⟩
  rw [hx] at x0 x1 x2 x3 hr
  simp only at x0 x1 x2 x3 hr
  have i0 : (0 : Int) ≤ (i : Int) := by omega
  have i1 : (i : Int) < (n : Int) := by have := h.n; omega
  have hbl := ge_text kx k r hr
  cases hb : Op.bytesLess kx.toList k.toList with
  | true =>
    obtain rfl : r = false := by rw [← hbl, hb]; rfl
    clear h8 h5 h hi hx hr hbl
    go_enter Try.func38, Try.ntmps38
    go_wp2
    go_quiet (fail)
    go_wp2
    go_ret
    exact ⟨by simp, below_drewN (Below.refl _ _) _⟩
  | false =>
    obtain rfl : r = true := by rw [← hbl, hb]; rfl
    clear h8 h5 h hi hx hr hbl
    go_enter Try.func38, Try.ntmps38
    go_wp2
    go_quiet (fail)
    go_wp2
    go_ret
    exact ⟨by simp, below_drewN (Below.refl _ _) _⟩
end Go.Proofs.Ytbnacopefclklaa
