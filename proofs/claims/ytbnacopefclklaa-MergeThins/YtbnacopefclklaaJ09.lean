/-
  The law MergeThins holds: whatever entries, rows, numbers and key are handed in, what no look can tell any more is left out, and rows are gone through, as the document says; they stay.
-/
import Derived.Test.YtbnacopefclklaaJ08
import Derived.Test.YtbnacopefclklaaRows
import Derived.WalkKit
import Derived.ProofKit
import Derived.OpenShut
import Derived.ShutString
import Derived.ChangeOld
import Derived.Below
import Derived.SizedLaws
namespace Go.Proofs.Ytbnacopefclklaa
open Go.RowKit Go.WideShapes

/-- What New answers. -/
structure NewOut (w : World) (p : Value) (L : List EntV) (E : Nat) (w' : World) : Prop where
  bel : Below w.heap.size w w'
  bad : E ≠ 0 → p = .pointer none
  good : E = 0 → ∃ g, p = .pointer (some ⟨g, 0, none⟩) ∧ CurIn w' w.heap.size g L
theorem live_rise {ls : List (List EntV)} {s : Int} {L : List EntV} {E : Nat} (h : liveE ls s = (L, E)) : RiseE L := by
  unfold liveE at h
  split at h
  · rw [Prod.mk.injEq] at h; rw [← h.1]; exact List.Pairwise.nil
  · rename_i h0
    split at h
    · rw [Prod.mk.injEq] at h
      rw [← h.1]
      obtain ⟨A, F, hA⟩ : ∃ A F, allE ls = (A, F) := ⟨_, _, rfl⟩
      rw [hA] at h0 ⊢
      exact countE_rise (allE_ok hA (by simpa using h0)).1 s
    · rw [Prod.mk.injEq] at h; rw [← h.1]; exact List.Pairwise.nil
set_option maxRecDepth 8000 in
set_option maxHeartbeats 4000000 in
theorem curNew_any (q : Option Addr) (n c : Nat) (R : List RV) (s : Int) (k : ByteArray) (w : World) (h : RowsL w q n R) (hnb : (n : Int) ≤ 9223372036854775807) (hkb : (k.size : Int) ≤ 9223372036854775807) (L : List EntV) (E : Nat) (hE : fromE (lsR R) s k = (L, E)) :
    Calls Try.prog 23 #[.slice q n c, .int .i64 s, .string k] w fun e w' => ∃ p, e = .returned (.tuple #[p, .int .i64 (E : Int)]) ∧ NewOut w p L E w' := by
  obtain ⟨A, F, hA⟩ : ∃ A F, liveE (lsR R) s = (A, F) := ⟨_, _, rfl⟩
  have HE : Hid ((if F ≠ 0 then ([], F) else if 256 < k.size then ([], 3) else (A.filter (fun x => !ltB x.key k), 0)) = (L, E)) := by
    show _ = _
    rw [← hE]
    unfold fromE
    rw [hA]
  have HRS : Hid (RiseE A ∧ A.length ≤ 16384) := ⟨live_rise hA, by have := liveE_len (lsR R) s; rw [hA] at this; exact this⟩
  have HAL := Live_any q n c R s (w.alloc (.cells #[.string k] 9)) (h.below (below_alloc _ _)) hnb A F hA
  have HK : Hid ((k.size : Int) ≤ 9223372036854775807) := hkb
  clear h hnb hE hA hkb
  go_enter Try.func23, Try.ntmps23
  go_wp2_with fail
  refine HAL.mono ?_
  rintro e w1 ⟨v1, rfl, h1⟩
  obtain ⟨q1, m1, rfl, hl1, hm1, hq1⟩ := h1.own.form
  have hbw : Below w.heap.size w w1 := below_bt (below_alloc _ _) h1.bel
  have h5 : w1.heap[w.heap.size]? = some (.cells #[.string k] 9 (0, 0)) := block_belowR (heap_alloc_new _ _) h1.bel
  obtain ⟨m, hm⟩ : ∃ m, A.length = m := ⟨_, rfl⟩
  have HN : Hid (A.length = m ∧ m ≤ m1 ∧ m1 ≤ maxLen ∧ (q1 = none → m1 = 0)) := ⟨hm, by omega, hm1, hq1⟩
  rw [hm]
  have hba : Below w1.heap.size w1 (w1.alloc (.cells #[.slice q1 m m1] 25)) := below_alloc _ _
  have h1' := h1.own
  rw [hm] at h1'
  have H1 : Hid (EOwn (w1.alloc (.cells #[.slice q1 m m1] 25)) w.heap.size (.slice q1 m m1) A ∧ Below w.heap.size w (w1.alloc (.cells #[.slice q1 m m1] 25)) ∧ (w1.alloc (.cells #[.slice q1 m m1] 25)).heap[w.heap.size]? = some (.cells #[.string k] 9 (0, 0)) ∧ (w1.alloc (.cells #[.slice q1 m m1] 25)).heap[w1.heap.size]? = some (.cells #[.slice q1 m m1] 25 (0, 0))) := ⟨own_base (own_below h1' hba) (by simp), below_bt hbw hba, block_belowR h5 hba, heap_alloc_new _ _⟩
  clear HAL h1 h1' hl1 hm1 hq1 hbw h5 hba
  by_cases hF : F = 0
  · subst hF
    by_cases hk : 256 < k.size
    · have hv := HE.out
      rw [if_neg (by simp), if_pos hk, Prod.mk.injEq] at hv
      obtain ⟨rfl, rfl⟩ := hv
      have c5 : (w1.alloc (.cells #[.slice q1 m m1] 25)).cell? ⟨w.heap.size, 0, none⟩ = some (.string k) := Lib.cell_of_heap H1.out.2.2.1 0
      have hkI : (256 : Int) < (k.size : Int) := by omega
      clear hk hm
      go_wp2
      go_ret2
      exact ⟨_, rfl, H1.out.2.1, fun _ => rfl, fun (h : 3 = 0) => absurd h (by decide)⟩
    · have hv := HE.out
      rw [if_neg (by simp), if_neg hk, Prod.mk.injEq, keyF_drop HRS.out.1] at hv
      obtain ⟨hv, rfl⟩ := hv
      have c5 : (w1.alloc (.cells #[.slice q1 m m1] 25)).cell? ⟨w.heap.size, 0, none⟩ = some (.string k) := Lib.cell_of_heap H1.out.2.2.1 0
      have c8 : (w1.alloc (.cells #[.slice q1 m m1] 25)).cell? ⟨w1.heap.size, 0, none⟩ = some (.slice q1 m m1) := Lib.cell_of_heap H1.out.2.2.2 0
      have hkI : (k.size : Int) ≤ 256 := by omega
      obtain ⟨f, hf⟩ : ∃ f, keyF A k = f := ⟨_, rfl⟩
      have HS := searchK_any m f (fun i => !ltB (A.getD i zeroE).key k) (.pointer (some ⟨w1.heap.size, 0, none⟩)) (.pointer (some ⟨w.heap.size, 0, none⟩)) (w1.alloc (.cells #[.slice q1 m m1] 25)) (by have := HRS.out; omega) (by rw [← hf, ← hm]; exact keyF_le A k) (fun t ht => by rw [keyF_lo (by omega)]; rfl) (fun t h1 h2 => by rw [keyF_hi HRS.out.1 (by omega) (by omega)]; rfl) (fun i w' hi hb => newFn_any w1.heap.size w.heap.size q1 m m1 A k i w' (block_belowR H1.out.2.2.2 hb) (block_belowR H1.out.2.2.1 hb) ⟨hm.symm, H1.out.1.ents.below hb⟩ (by omega) _ rfl)
      obtain ⟨p', hcut, hdrop, hp'⟩ := cutE_from q1 m m1 f A hm.symm HN.out.2.1 (by rw [← hf, ← hm]; exact keyF_le A k) HN.out.2.2.2
      have HV : Hid (A.drop f = L ∧ f ≤ m) := ⟨by rw [← hf]; exact hv, by rw [← hf, ← hm]; exact keyF_le A k⟩
      obtain ⟨n2, hn2⟩ : ∃ n2, m - f = n2 := ⟨_, rfl⟩
      obtain ⟨c2, hc2⟩ : ∃ c2, m1 - f = c2 := ⟨_, rfl⟩
      rw [hn2, hc2] at hcut
      have HQ : Hid ((∀ w, EntsIn w q1 A → EntsIn w p' (A.drop f)) ∧ (p' = none → c2 = 0) ∧ n2 = (A.drop f).length ∧ n2 ≤ c2 ∧ c2 ≤ maxLen) := ⟨hdrop, fun h => by have := hp' h; omega, by rw [List.length_drop]; omega, by have := HN.out; omega, by have := HN.out; omega⟩
      have HBK : Hid (∀ a, p' = some a → ∃ o s, q1 = some ⟨a.block, o, s⟩) := by
        intro a ha
        have h0 := hcut w
        rw [run_slice_l w 25 q1 m m1 (by kernel_rfl) .i64 f (by omega) (by have := HV.out; omega)] at h0
        have hs : (sizeOf (Try.prog.elem 25)).run Try.prog w = .ok 4 w := by kernel_rfl
        rw [hs] at h0
        simp only [Result.andThen, Result.ok.injEq, and_true] at h0
        have h1 : (Value.slice (if m1 = f then q1 else q1.map (·.add (f * 4))) (m - f) (m1 - f)) = Value.slice p' n2 c2 := h0
        simp only [Value.slice.injEq] at h1
        have h2 := h1.1
        rw [ha] at h2
        cases q1 with
        | none => split at h2 <;> simp at h2
        | some b =>
          split at h2
          · simp only [Option.some.injEq] at h2
            subst h2
            exact ⟨_, _, rfl⟩
          · simp only [Option.map_some, Option.some.injEq] at h2
            subst h2
            refine ⟨b.off, b.spot, ?_⟩
            unfold Addr.add
            split <;> rfl
      clear hv hk hf hm hdrop hp' hn2 hc2
      go_wp2_with fail
      refine HS.mono ?_
      rintro e w3 ⟨rfl, hb3⟩
      have c8' : w3.cell? ⟨w1.heap.size, 0, none⟩ = some (.slice q1 m m1) := Lib.cell_of_heap (block_belowR H1.out.2.2.2 hb3) 0
      have H3 : Hid (EOwn w3 w.heap.size (.slice q1 m m1) A ∧ Below w.heap.size w w3) := ⟨own_below H1.out.1 hb3, below_bt H1.out.2.1 hb3⟩
      clear c8 c5 hb3 HS
      go_wp2
      go_ret2
      refine ⟨_, rfl, below_bt H3.out.2 (below_alloc _ _), (fun h => absurd rfl h), ?_⟩
      refine fun _ => ⟨w3.heap.size, rfl, p', n2, c2, heap_alloc_new _ _, H3.out.2.size, by rw [← HV.out.1]; exact HQ.out.2.2.1, by rw [← HV.out.1]; exact HQ.out.1 _ (EntsIn.below H3.out.1.ents (below_alloc _ _)), HQ.out.2.2.2.1, HQ.out.2.2.2.2, HQ.out.2.1, fun a ha => ?_⟩
      obtain ⟨o, sp, hq⟩ := HBK.out a ha
      rcases H3.out.1.2 with ⟨hv, _⟩ | ⟨g', cap, cur, hv, hb, hgg, _⟩
      · rw [hq] at hv; cases hv
      · rw [hq] at hv
        simp only [Value.slice.injEq, Option.some.injEq, Addr.mk.injEq] at hv
        rw [hv.1.1]
        exact ⟨hb, cur, _, block_belowR hgg (below_alloc _ _)⟩
  · have e1 : ((F : Int) != 0) = true := by simp; omega
    have e1' : ((F : Int) == 0) = false := by simp; omega
    have hv := HE.out
    rw [if_pos hF, Prod.mk.injEq] at hv
    obtain ⟨rfl, rfl⟩ := hv
    have HF : Hid (F ≠ 0) := hF
    clear hF hm
    go_wp2
    go_ret2
    exact ⟨_, rfl, H1.out.2.1, fun _ => rfl, fun h => absurd h HF.out⟩
/-! ### Next -/
set_option maxHeartbeats 1000000 in
theorem next_nil (w : World) : Calls Try.prog 13 #[.pointer none] w fun e w' => e = .returned (.tuple #[entV zeroE, .bool false, .int .i64 1]) ∧ Below w.heap.size w w' := by
  go_enter Try.func13, Try.ntmps13
  go_wp2
  (try simp only [Exit.inBlock, Exit.then])
  refine bodyPost_ret (v := .tuple #[entV zeroE, .bool false, .int .i64 1]) ?_ rfl ⟨rfl, ?_⟩
  · rw [results_cell_tmp2 rfl]
    go_simp
    rfl
  · exact below_alloc _ _
set_option maxHeartbeats 1000000 in
theorem next_plain (g : Nat) (v : Value) (w : World) (h : w.heap[g]? = some (.cells #[.bool false, v] 34 (0, 0))) : Calls Try.prog 13 #[.pointer (some ⟨g, 0, none⟩)] w fun e w' => e = .returned (.tuple #[entV zeroE, .bool false, .int .i64 1]) ∧ Below w.heap.size w w' := by
  have c0 : (w.alloc (.cells zE 23)).cell? ⟨g, 0, none⟩ = some (.bool false) := Lib.cell_of_heap (block_belowR h (below_alloc _ _)) 0
  clear h
  go_enter Try.func13, Try.ntmps13
  go_wp2
  (try simp only [Exit.inBlock, Exit.then])
  refine bodyPost_ret (v := .tuple #[entV zeroE, .bool false, .int .i64 1]) ?_ rfl ⟨rfl, ?_⟩
  · rw [results_cell_tmp2 rfl]
    go_simp
    rfl
  · exact below_alloc _ _
end Go.Proofs.Ytbnacopefclklaa
namespace Go.Proofs.Ytbnacopefclklaa
open Go.RowKit Go.WideShapes

/-- What Newest answers of an entry's own key, where its number is not above. -/
theorem newest_own {l : List EntV} (hr : RiseE l) {k : Nat} (hk : k < l.length) {s : Int} (hs : (l.getD k zeroE).seq ≤ s) : ∃ y, newL l (l.getD k zeroE).key s = (y, true) ∧ (newAt l k s = true ↔ y = l.getD k zeroE) := by
  obtain ⟨y, b, h⟩ : ∃ y b, newL l (l.getD k zeroE).key s = (y, b) := ⟨_, _, rfl⟩
  cases b with
  | false => exact absurd ⟨rfl, hs⟩ ((newL_no h).2 _ (getD_mem' hk))
  | true =>
    refine ⟨y, h, ?_⟩
    rw [newAt_iff hr hk, newB_iff hr (getD_mem' hk), h]
    simp
set_option maxRecDepth 8000 in
set_option maxHeartbeats 4000000 in
theorem rCount_any (q : Option Addr) (n c : Nat) (A : List EntV) (s : Int) (w : World) (h : EntsL w q n A) (hr : RiseE A) (hlen : n ≤ 16384) :
    Calls Try.prog 34 #[.slice q n c, .int .i64 s] w fun e w' => ∃ v, e = .returned v ∧ OnB w v (countE A s) w' := by
  have H1 : Hid (EntsIn w q A) := h.lies
  have HM : Hid (A.length = n) := h.n.symm
  have HR : Hid (RiseE A) := hr
  have mI : (n : Int) ≤ 16384 := by omega
  clear h hr
  go_enter Try.func34, Try.ntmps34
  go_wp2
  go_loopw [5, 6] (fun s5 s6 wr => ∃ k : Nat, s6 = .int .i64 (k : Int) ∧ k ≤ n ∧ EOwn wr w.heap.size s5 (pickE (fun i => countAt A i s) A k) ∧ Below w.heap.size w wr) (fun _ s6 _ => n - (intOf s6).toNat)
  case atStart => exact ⟨0, rfl, by omega, eown_nil _ _, Below.refl _ _⟩
  case round =>
    obtain ⟨k, rfl, hk, ho, hbel⟩ := hrel
    obtain ⟨qo, co, rfl, _, _, _⟩ := ho.form
    have HO : Hid (EOwn wr w.heap.size (.slice qo (pickE (fun i => countAt A i s) A k).length co) (pickE (fun i => countAt A i s) A k) ∧ Below w.heap.size w wr) := ⟨ho, hbel⟩
    obtain ⟨P, hP⟩ : ∃ P, pickE (fun i => countAt A i s) A k = P := ⟨_, rfl⟩
    have HP : Hid (pickE (fun i => countAt A i s) A k = P ∧ P.length ≤ 16384) := ⟨hP, by rw [← hP]; have := pickE_len (fun i => countAt A i s) A k; omega⟩
    rw [hP] at HO ⊢
    obtain ⟨lp, hlp⟩ : ∃ lp, P.length = lp := ⟨_, rfl⟩
    have HLP : Hid (P.length = lp) := hlp
    rw [hlp] at HO ⊢
    clear hP hlp ho hbel
    by_cases hkm : k < n
    · have hkI : (k : Int) < (n : Int) := by omega
      have k0 : (0 : Int) ≤ (k : Int) := by omega
      have HKM : Hid (k < n) := hkm
      have hen := H1.out.below HO.out.2
      obtain ⟨b, o, rfl⟩ := hen.addr (by have := HM.out; omega)
      obtain ⟨x0, x1, x2, x3⟩ := hen.at (k := k) (by have := HM.out; omega)
      have hnw := fun hs => newest_own (s := s) HR.out (k := k) (by have := HM.out; omega) hs
      have hca : countAt A k s = (newAt A k s && !(A.getD k zeroE).gone) := rfl
      have hna : newAt A k s = true → (A.getD k zeroE).seq ≤ s := fun h => ((newAt_iff HR.out (by have := HM.out; omega) s).1 h).1
      obtain ⟨⟨kb, vb, sb, db⟩, hx⟩ : ∃ x, A.getD k zeroE = x := ⟨_, rfl⟩
      rw [hx] at x0 x1 x2 x3 hnw hca hna
      simp only at x0 x1 x2 x3 hnw hca hna
      have HX : Hid (A.getD k zeroE = ⟨kb, vb, sb, db⟩) := hx
      have HNO : Hid (countAt A k s = false → ∀ w2, Below wr.heap.size wr w2 → EOwn w2 w.heap.size (.slice qo lp co) (pickE (fun i => countAt A i s) A (k + 1)) ∧ Below w.heap.size w w2) := by
        intro hno w2 hb2
        rw [pickE_no (p := fun i => countAt A i s) hno, HP.out.1]
        exact ⟨HO.out.1.below hb2, below_bt HO.out.2 hb2⟩
      by_cases hse : sb ≤ s
      · have g1 : decide (s < sb) = false := decide_eq_false (by omega)
        have g2 : ¬ (s < sb) := by omega
        cases db with
        | true =>
          have H2 : Hid (EOwn wr w.heap.size (.slice qo lp co) (pickE (fun i => countAt A i s) A (k + 1)) ∧ Below w.heap.size w wr) := HNO.out (by rw [hca]; simp) wr (Below.refl _ _)
          clear hen hx hkm hk hnw hca hna hse
          go_wp2
          go_roundw
          case rel => exact ⟨k + 1, by go_num, by have := HKM.out; omega, H2.out⟩
          case measure => have := HKM.out; simp [intOf]; omega
        | false =>
          obtain ⟨y, hy, hiff⟩ := hnw hse
          have HNW := rNewest_any (some ⟨b, o, none⟩) n c A kb s wr ⟨HM.out.symm, hen⟩ (by omega) y true hy
          by_cases hye : y = ⟨kb, vb, sb, false⟩
          · have HT : Hid (countAt A k s = true) := by show _ = _; rw [hca, hiff.2 hye]; rfl
            subst hye
            have HEN : Hid (EntsIn wr (some ⟨b, o, none⟩) A) := hen
            rw [entV_def] at HNW
            clear hen hx hkm hk hnw hca hna hse hy hiff x0 x1 x2 x3
            obtain ⟨x0, x1, x2, x3⟩ := HEN.out.at (k := k) (by have := HM.out; have := HKM.out; omega)
            rw [HX.out] at x0 x1 x2 x3
            simp only at x0 x1 x2 x3
            go_wp2_with fail
            refine HNW.mono ?_
            rintro e w3 ⟨rfl, hb3⟩
            clear x0 x1 x2 x3
            have hb4 := below_bt hb3 (below_alloc w3 (.cells #[.string kb, .string vb, .int .i64 sb, .bool false] 23))
            obtain ⟨x0, x1, x2, x3⟩ := (HEN.out.below hb4).at (k := k) (by have := HM.out; have := HKM.out; omega)
            rw [HX.out] at x0 x1 x2 x3
            simp only at x0 x1 x2 x3
            obtain ⟨z0, z1, z2, z3⟩ := four_cells (heap_alloc_new w3 (.cells #[.string kb, .string vb, .int .i64 sb, .bool false] 23))
            have HB3 : Hid (Below wr.heap.size wr (w3.alloc (.cells #[.string kb, .string vb, .int .i64 sb, .bool false] 23))) := hb4
            clear hb3 hb4 HNW
            go_wp2
            go_quiet (fail)
            have HA3 : Hid (∀ j, EOwn (((w3.alloc (.cells #[.string kb, .string vb, .int .i64 sb, .bool false] 23)).drewN j).alloc (.cells #[.string kb, .string vb, .int .i64 sb, .bool false] 23)) w.heap.size (.slice qo lp co) P ∧ w.heap.size ≤ (((w3.alloc (.cells #[.string kb, .string vb, .int .i64 sb, .bool false] 23)).drewN j).alloc (.cells #[.string kb, .string vb, .int .i64 sb, .bool false] 23)).heap.size ∧ Below w.heap.size w (((w3.alloc (.cells #[.string kb, .string vb, .int .i64 sb, .bool false] 23)).drewN j).alloc (.cells #[.string kb, .string vb, .int .i64 sb, .bool false] 23))) := fun j => ⟨((HO.out.1.below HB3.out).below (below_drewN (Below.refl _ _) j)).below (below_alloc _ _), (below_bt (below_drewN (below_bt HO.out.2 HB3.out) j) (below_alloc _ _)).size, below_bt (below_drewN (below_bt HO.out.2 HB3.out) j) (below_alloc _ _)⟩
            have HE1 : Hid (∀ j, EntsIn (((w3.alloc (.cells #[.string kb, .string vb, .int .i64 sb, .bool false] 23)).drewN j).alloc (.cells #[.string kb, .string vb, .int .i64 sb, .bool false] 23)) (some ⟨w3.heap.size + 1, 0, none⟩) [⟨kb, vb, sb, false⟩]) := fun j => by
              have h := ents_new ((w3.alloc (.cells #[.string kb, .string vb, .int .i64 sb, .bool false] 23)).drewN j) kb vb sb false
              rw [show ((w3.alloc (.cells #[.string kb, .string vb, .int .i64 sb, .bool false] 23)).drewN j).heap.size = w3.heap.size + 1 by simp] at h
              exact h
            have HPK : Hid (pickE (fun i => countAt A i s) A (k + 1) = P ++ [⟨kb, vb, sb, false⟩]) := by
              show _ = _
              rw [pickE_yes (p := fun i => countAt A i s) HT.out, HX.out, HP.out.1]
            go_wp2_with (at_builtin; go_loud ((refine wpList_append_two _ rfl _ _ rfl w.heap.size (.slice qo lp co) P [⟨kb, vb, sb, false⟩] (some ⟨w3.heap.size + 1, 0, none⟩) 1 1 rfl rfl rfl (HA3.out _).1 (HE1.out _) (fun h => by cases h) (by have := HP.out.2; simp only [List.length_cons, List.length_nil]; omega) (HA3.out _).2.1 ?_); intro v5 w5 ho5 hg5; have H5 : Hid _ := And.intro ho5 (ents_grownE (HA3.out _).1 hg5 (HA3.out _).2.2 (Nat.le_refl _)); clear ho5 hg5))
            go_roundw
            case rel => exact ⟨k + 1, by go_num, by have := HKM.out; omega, by rw [HPK.out]; exact H5.out.1, H5.out.2⟩
            case measure => have := HKM.out; simp [intOf]; omega
          · have hno : countAt A k s = false := by
              rw [hca]
              cases hn : newAt A k s with
              | false => rfl
              | true => exact absurd (hiff.1 hn) hye
            obtain ⟨ka, va, sa, da⟩ := y
            have hne := ent_ne hye
            simp only at hne
            have HEN : Hid (EntsIn wr (some ⟨b, o, none⟩) A) := hen
            have HNO2 : Hid (∀ w2, Below wr.heap.size wr w2 → EOwn w2 w.heap.size (.slice qo lp co) (pickE (fun i => countAt A i s) A (k + 1)) ∧ Below w.heap.size w w2) := HNO.out hno
            rw [entV_def] at HNW
            clear hen hx hkm hk hnw hca hna hse hy hiff hye hno
            go_wp2_with fail
            refine HNW.mono ?_
            rintro e w3 ⟨rfl, hb3⟩
            clear x0 x1 x2 x3
            have hb4 := below_bt hb3 (below_alloc w3 (.cells #[.string ka, .string va, .int .i64 sa, .bool da] 23))
            obtain ⟨x0, x1, x2, x3⟩ := (HEN.out.below hb4).at (k := k) (by have := HM.out; have := HKM.out; omega)
            rw [HX.out] at x0 x1 x2 x3
            simp only at x0 x1 x2 x3
            obtain ⟨z0, z1, z2, z3⟩ := four_cells (heap_alloc_new w3 (.cells #[.string ka, .string va, .int .i64 sa, .bool da] 23))
            have HB3 : Hid (Below wr.heap.size wr (w3.alloc (.cells #[.string ka, .string va, .int .i64 sa, .bool da] 23))) := hb4
            obtain ⟨db, hdb⟩ : ∃ db, db = false := ⟨_, rfl⟩
            rw [← hdb] at hne
            have hne' := hne
            clear hb3 hb4 HNW hne
            subst hdb
            rcases hne' with h1 | ⟨h1, h2⟩ | ⟨h1, h2, h3⟩ | ⟨h1, h2, h3, h4⟩
            · have f1 : (ka.toList == kb.toList) = false := by rw [eq_str]; simp [h1]
              clear h1
              go_wp2
              go_quiet (fail)
              go_wp2
              go_roundw
              case rel => exact ⟨k + 1, by go_num, by have := HKM.out; omega, HNO2.out _ (below_drewN HB3.out _)⟩
              case measure => have := HKM.out; simp [intOf]; omega
            · have f1 : (ka.toList == kb.toList) = true := by rw [eq_str]; simp [h1]
              have f2 : (va.toList == vb.toList) = false := by rw [eq_str]; simp [h2]
              clear h1 h2
              go_wp2
              go_quiet (fail)
              go_wp2
              go_roundw
              case rel => exact ⟨k + 1, by go_num, by have := HKM.out; omega, HNO2.out _ (below_drewN HB3.out _)⟩
              case measure => have := HKM.out; simp [intOf]; omega
            · have f1 : (ka.toList == kb.toList) = true := by rw [eq_str]; simp [h1]
              have f2 : (va.toList == vb.toList) = true := by rw [eq_str]; simp [h2]
              have f3 : (sa == sb) = false := by simp [h3]
              clear h1 h2 h3
              go_wp2
              go_quiet (fail)
              go_wp2
              go_roundw
              case rel => exact ⟨k + 1, by go_num, by have := HKM.out; omega, HNO2.out _ (below_drewN HB3.out _)⟩
              case measure => have := HKM.out; simp [intOf]; omega
            · have f1 : (ka.toList == kb.toList) = true := by rw [eq_str]; simp [h1]
              have f2 : (va.toList == vb.toList) = true := by rw [eq_str]; simp [h2]
              have f3 : (sa == sb) = true := by simp [h3]
              have f4 : (da == false) = false := by simpa using h4
              clear h1 h2 h3 h4
              go_wp2
              go_quiet (fail)
              go_wp2
              go_roundw
              case rel => exact ⟨k + 1, by go_num, by have := HKM.out; omega, HNO2.out _ (below_drewN HB3.out _)⟩
              case measure => have := HKM.out; simp [intOf]; omega
      · have g1 : decide (s < sb) = true := decide_eq_true (by omega)
        have g2 : s < sb := by omega
        have hno : countAt A k s = false := by
          rw [hca]
          cases hn : newAt A k s with
          | false => rfl
          | true => exact absurd (hna hn) hse
        have H2 : Hid (EOwn wr w.heap.size (.slice qo lp co) (pickE (fun i => countAt A i s) A (k + 1)) ∧ Below w.heap.size w wr) := HNO.out hno wr (Below.refl _ _)
        clear hen hx hkm hk hnw hca hna hse hno
        go_wp2
        go_roundw
        case rel => exact ⟨k + 1, by go_num, by have := HKM.out; omega, H2.out⟩
        case measure => have := HKM.out; simp [intOf]; omega
    · have hkI : (n : Int) ≤ (k : Int) := by omega
      have HZ : Hid (P = countE A s) := by
        show _ = _
        rw [← pick_count HR.out s, ← HP.out.1, HM.out]
        have : k = n := by omega
        rw [this]
      clear hkm hk
      go_wp2
      go_ret
      exact ⟨_, rfl, by rw [← HZ.out]; exact HO.out.1, HO.out.2⟩
set_option maxRecDepth 8000 in
set_option maxHeartbeats 2000000 in
theorem rLive_any (q : Option Addr) (n c : Nat) (R : List RV) (s : Int) (w : World) (h : RowsL w q n R) (hnb : (n : Int) ≤ 9223372036854775807) (L : List EntV) (E : Nat) (hE : liveE (lsR R) s = (L, E)) :
    Calls Try.prog 19 #[.slice q n c, .int .i64 s] w fun e w' => ∃ v, e = .returned (.tuple #[v, .int .i64 (E : Int)]) ∧ OnB w v L w' := by
  obtain ⟨A, F, hA⟩ : ∃ A F, allE (lsR R) = (A, F) := ⟨_, _, rfl⟩
  have HAL := rAll_any q n c R w h hnb A F hA
  have HE : Hid ((if F ≠ 0 then ([], F) else if 0 ≤ s ∧ s ≤ 2147483647 then (countE A s, 0) else ([], 2)) = (L, E)) := by
    show _ = _
    rw [← hE]
    unfold liveE
    rw [hA]
  have HA : Hid (allE (lsR R) = (A, F)) := hA
  clear h hnb hE hA
  go_enter Try.func19, Try.ntmps19
  go_wp2_with fail
  refine HAL.mono ?_
  rintro e w1 ⟨v1, rfl, h1⟩
  obtain ⟨q1, m1, rfl, hlm, _, hq1⟩ := h1.own.form
  have H1 : Hid (EOwn w1 w.heap.size (.slice q1 A.length m1) A ∧ Below w.heap.size w w1) := ⟨h1.own, h1.bel⟩
  clear HAL h1
  by_cases hF : F = 0
  · subst hF
    obtain ⟨r1, r2, r3⟩ := allE_ok HA.out rfl
    have hl : A.length ≤ 16384 := by rw [r2.length_eq]; exact (chkR_zero.1 r3).2.2
    obtain ⟨m, hm⟩ : ∃ m, A.length = m := ⟨_, rfl⟩
    rw [hm] at H1 ⊢
    have HC := rCount_any q1 m m1 A s w1 ⟨hm.symm, H1.out.1.ents⟩ r1 (by omega)
    clear r1 r2 r3 hlm hq1
    by_cases h0 : 0 ≤ s
    · have g0 : decide (s < 0) = false := decide_eq_false (by omega)
      by_cases h2 : s ≤ 2147483647
      · have g2 : decide (2147483647 < s) = false := decide_eq_false (by omega)
        have hv := HE.out
        rw [if_neg (by simp), if_pos ⟨h0, h2⟩, Prod.mk.injEq] at hv
        obtain ⟨rfl, rfl⟩ := hv
        clear hl hm
        go_wp2_with fail
        refine HC.mono ?_
        rintro e w2 ⟨v2, rfl, h2⟩
        have H2 : Hid (EOwn w2 w.heap.size v2 (countE A s) ∧ Below w.heap.size w w2) := ⟨own_base h2.own H1.out.2.size, below_bt H1.out.2 h2.bel⟩
        clear h2 HC
        go_wp2
        go_ret2
        exact ⟨_, rfl, H2.out.1, H2.out.2⟩
      · have g2 : decide (2147483647 < s) = true := decide_eq_true (by omega)
        have g2' : 2147483647 < s := by omega
        have hv := HE.out
        rw [if_neg (by simp), if_neg (fun hh => h2 hh.2), Prod.mk.injEq] at hv
        obtain ⟨rfl, rfl⟩ := hv
        clear hl hm HC h2
        go_wp2
        go_ret2
        exact ⟨_, rfl, eown_nil _ _, H1.out.2⟩
    · have g0 : decide (s < 0) = true := decide_eq_true (by omega)
      have g0' : s < 0 := by omega
      have hv := HE.out
      rw [if_neg (by simp), if_neg (fun hh => h0 hh.1), Prod.mk.injEq] at hv
      obtain ⟨rfl, rfl⟩ := hv
      clear hl hm HC h0
      go_wp2
      go_ret2
      exact ⟨_, rfl, eown_nil _ _, H1.out.2⟩
  · have e1 : ((F : Int) != 0) = true := by simp; omega
    have e1' : ((F : Int) == 0) = false := by simp; omega
    have hv := HE.out
    rw [if_pos hF, Prod.mk.injEq] at hv
    obtain ⟨rfl, rfl⟩ := hv
    clear hF hlm hq1
    go_wp2
    go_ret2
    exact ⟨_, rfl, eown_nil _ _, H1.out.2⟩
end Go.Proofs.Ytbnacopefclklaa
namespace Go.Proofs.Ytbnacopefclklaa
open Go.RowKit Go.WideShapes

/-- Rows of one's own: each row's entries in a block of their own from a number on. -/
structure TwIn (w : World) (base : Nat) (T : List RV) : Prop where
  out : ∀ t ∈ T, EOwn w base (rvV t) t.l ∧ t.n = t.l.length
theorem EOwn.rowOk {w : World} {base : Nat} {t : RV} (h : EOwn w base (rvV t) t.l) : RowOk w t := by
  obtain ⟨q, m, e, h1, h2, h3⟩ := h.form
  obtain ⟨tq, tn, tc, tl⟩ := t
  simp only [rvV, Value.slice.injEq] at e h h1
  obtain ⟨rfl, rfl, rfl⟩ := e
  exact ⟨rfl, h.ents, h1, h2, h3⟩
/-- Twins: the same entries. -/
structure Tw (w0 w : World) (R T : List RV) : Prop where
  ls : T.map RV.l = R.map RV.l
  own : ∀ t ∈ T, EOwn w w0.heap.size (rvV t) t.l
theorem Tw.len {w0 w : World} {R T : List RV} (h : Tw w0 w R T) : T.length = R.length := by have := congrArg List.length h.ls; simpa using this
theorem Tw.below {w0 w w' : World} {R T : List RV} (h : Tw w0 w R T) (hb : Below w.heap.size w w') : Tw w0 w' R T := ⟨h.ls, fun t ht => (h.own t ht).below hb⟩
/-- Entries in a block of type entry stay where a row of rows grows. -/
theorem EOwn.grownR {w w' : World} {b1 b2 n : Nat} {v v2 : Value} {L : List EntV} {xs : List Value} (h : EOwn w b1 v L) (ho : w.ownsRow b2 25 1 v2 n xs) (hg : w.grownBy w' v2.ownBlock) : EOwn w' b1 v L := by
  refine World.ownsRow.kept h hg ?_
  cases h3 : v.ownBlock with
  | none => exact .inl rfl
  | some k =>
    right
    rcases h.2 with ⟨hv, _⟩ | ⟨g, cap, cur, hv, _, hgg, _⟩
    · rw [hv] at h3; cases h3
    · rw [hv] at h3
      simp only [Value.ownBlock, Option.some.injEq] at h3
      subst h3
      exact fun e => own_neS ho hgg (by decide) e.symm
set_option maxRecDepth 8000 in
set_option maxHeartbeats 4000000 in
theorem rTwinO_any (q : Option Addr) (n c : Nat) (R : List RV) (w : World) (h : RowsL w q n R) (hn : R.length ≤ 100) (hsz : (entsR R).length ≤ 6000) :
    Calls Try.prog 17 #[.slice q n c] w fun e w' => ∃ p m cc T, e = .returned (.slice p m cc) ∧ RowsL w' p m T ∧ T.length ≤ cc ∧ Tw w w' R T ∧ Below w.heap.size w w' ∧ w'.ownsRow w.heap.size 25 1 (.slice p m cc) T.length (T.map rvV) := by
  have HL : Hid (RowsL w q n R ∧ R.length ≤ 100 ∧ (entsR R).length ≤ 6000) := ⟨h, hn, hsz⟩
  have nI : (n : Int) ≤ 100 := by have := h.n; omega
  clear h hn hsz
  go_enter Try.func17, Try.ntmps17
  go_wp2
  go_loopw [3, 4] (fun s3 s4 wr => ∃ (k : Nat) (T : List RV), s4 = .int .i64 (k : Int) ∧ k ≤ n ∧ wr.ownsRow w.heap.size 25 1 s3 T.length (T.map rvV) ∧ Tw w wr (R.take k) T ∧ Below w.heap.size w wr) (fun _ s4 _ => n - (intOf s4).toNat)
  case atStart => exact ⟨0, [], rfl, by omega, World.ownsRow_nil _ _ _ _, ⟨by simp, by simp⟩, Below.refl _ _⟩
  case round =>
    obtain ⟨k, T, rfl, hk, ho, htw, hbel⟩ := hrel
    obtain ⟨qt, ct, rfl, hlt, hct, hqt⟩ := own_form ho
    have HO : Hid (wr.ownsRow w.heap.size 25 1 (.slice qt T.length ct) T.length (T.map rvV) ∧ Tw w wr (R.take k) T ∧ Below w.heap.size w wr ∧ T.length ≤ ct) := ⟨ho, htw, hbel, hlt⟩
    obtain ⟨lt, hlt'⟩ : ∃ lt, T.length = lt := ⟨_, rfl⟩
    have HLT : Hid (T.length = lt) := hlt'
    rw [hlt'] at ho ⊢
    by_cases hkn : k < n
    · have hkI : (k : Int) < (n : Int) := by omega
      have k0 : (0 : Int) ≤ (k : Int) := by omega
      have hkR : k < R.length := by have := HL.out.1.n; omega
      obtain ⟨b, o, rfl, hc⟩ := (HL.out.1.below hbel).at hkR
      have hro := (HL.out.1.each _ (getR_mem hkR)).below hbel
      have hle : (R.getD k zR).l.length ≤ 6000 := by
        have h1 := sumR_succ hkR
        have h2 : (entsR (R.take (k + 1))).length ≤ (entsR R).length := by
          conv => rhs; rw [← List.take_append_drop (k + 1) R, entsR_app, List.length_append]
          omega
        have := HL.out.2.2
        omega
      have hts := takeR_succ hkR
      obtain ⟨⟨qr, nr, cr, lr⟩, hr⟩ : ∃ r, R.getD k zR = r := ⟨_, rfl⟩
      rw [hr] at hc hro hle hts
      simp only at hle
      rw [show rvV ⟨qr, nr, cr, lr⟩ = .slice qr nr cr from rfl] at hc
      have HR : Hid (EntsIn wr qr lr ∧ nr = lr.length ∧ (qr = none → cr = 0) ∧ lr.length ≤ 6000 ∧ R.take (k + 1) = R.take k ++ [⟨qr, nr, cr, lr⟩] ∧ k < n) := ⟨hro.lies, hro.n, hro.q, hle, hts, hkn⟩
      have HT100 : Hid (T.length ≤ 1000) := by show _ ≤ _; have h1 := HO.out.2.1.len; rw [List.length_take] at h1; have := HL.out.2.1; omega
      clear ho htw hbel hlt hct hqt hlt' hkn hkR hro hle hts hr hk
      go_wp2_with (first
        | (at_builtin; go_loud ((refine wpList_append_ents _ rfl _ _ rfl wr.heap.size lr qr nr cr rfl rfl HR.out.2.1 HR.out.1 HR.out.2.2.1 (by have := HR.out.2.2.2.1; omega) (Nat.le_refl _) ?_); intro v5 w5 ho5 hg5; obtain ⟨q5, c5, hv5, hl5, hm5, hn5⟩ := ho5.form; subst hv5; have hb5 := grown_below hg5; have hb6 := below_bt hb5 (below_alloc w5 (.cells #[.slice q5 lr.length c5] 25)); have H6 : Hid ((w5.alloc (.cells #[.slice q5 lr.length c5] 25)).ownsRow w.heap.size 25 1 (.slice qt lt ct) T.length (T.map rvV) ∧ EOwn (w5.alloc (.cells #[.slice q5 lr.length c5] 25)) wr.heap.size (.slice q5 lr.length c5) lr ∧ Tw w (w5.alloc (.cells #[.slice q5 lr.length c5] 25)) (R.take k) T ∧ Below w.heap.size w (w5.alloc (.cells #[.slice q5 lr.length c5] 25)) ∧ w.heap.size ≤ (w5.alloc (.cells #[.slice q5 lr.length c5] 25)).heap.size ∧ (w5.alloc (.cells #[.slice q5 lr.length c5] 25)).cell? ⟨w5.heap.size, 0, none⟩ = some (rvV ⟨q5, lr.length, c5, lr⟩)) := ⟨HLT.out ▸ own_below HO.out.1 hb6, ho5.below (below_alloc _ _), HO.out.2.1.below hb6, below_bt HO.out.2.2.1 hb6, (below_bt HO.out.2.2.1 hb6).size, Lib.cell_of_heap (heap_alloc_new w5 _) 0⟩; clear ho5 hg5 hb5 hb6 hl5 hm5 hn5))
        | (at_builtin; go_loud ((refine wpList_pushR _ rfl _ _ rfl w.heap.size (.slice qt lt ct) T ⟨q5, lr.length, c5, lr⟩ w5.heap.size rfl rfl H6.out.1 H6.out.2.2.2.2.2 HT100.out H6.out.2.2.2.2.1 ?_); intro v7 w7 ho7 hg7; have H7 : Hid (w7.ownsRow w.heap.size 25 1 v7 (T ++ [(⟨q5, lr.length, c5, lr⟩ : RV)]).length ((T ++ [(⟨q5, lr.length, c5, lr⟩ : RV)]).map rvV) ∧ Tw w w7 (R.take (k + 1)) (T ++ [(⟨q5, lr.length, c5, lr⟩ : RV)]) ∧ Below w.heap.size w w7) := ⟨ho7, ⟨by rw [HR.out.2.2.2.2.1, List.map_append, List.map_append, H6.out.2.2.1.ls]; rfl, fun t ht => by
              rcases List.mem_append.1 ht with ht | ht
              · exact (H6.out.2.2.1.own t ht).grownR H6.out.1 hg7
              · rw [List.mem_singleton.1 ht]
                exact own_base (EOwn.grownR H6.out.2.1 H6.out.1 hg7) HO.out.2.2.1.size⟩, H6.out.2.2.2.1.grown hg7 H6.out.2.2.2.1.size (fun k hk => (World.ownsRow.lt H6.out.1 k hk).1)⟩; clear ho7 hg7)))
      go_roundw
      case rel => exact ⟨k + 1, _, by go_num, by have := HR.out.2.2.2.2.2; omega, H7.out⟩
      case measure => have := HR.out.2.2.2.2.2; simp [intOf]; omega
    · have hkI : (n : Int) ≤ (k : Int) := by omega
      have HZ : Hid (RowsL wr qt lt T ∧ T.length ≤ ct ∧ Tw w wr R T ∧ Below w.heap.size w wr ∧ wr.ownsRow w.heap.size 25 1 (.slice qt lt ct) T.length (T.map rvV)) := by
        have e : R.take k = R := List.take_of_length_le (by have := HL.out.1.n; omega)
        have h1 := HO.out
        rw [e] at h1
        refine ⟨⟨hlt'.symm, ?_, fun t ht => (h1.2.1.own t ht).rowOk⟩, h1.2.2.2, h1.2.1, h1.2.2.1, by have h5 := h1.1; rw [hlt'] at h5; rw [hlt']; exact h5⟩
        have h2 := h1.1
        rw [hlt'] at h2
        have h3 := rows_own (w := wr) (base := w.heap.size) (q := qt) (n := lt) (c := ct) (R := T) (by rw [hlt']; exact h2)
        exact h3
      clear ho htw hbel hlt hct hqt hlt' hkn hk
      go_wp2
      go_ret
      exact ⟨_, _, _, T, rfl, HZ.out⟩
theorem rTwin_any (q : Option Addr) (n c : Nat) (R : List RV) (w : World) (h : RowsL w q n R) (hn : R.length ≤ 100) (hsz : (entsR R).length ≤ 6000) :
    Calls Try.prog 17 #[.slice q n c] w fun e w' => ∃ p m cc T, e = .returned (.slice p m cc) ∧ RowsL w' p m T ∧ T.length ≤ cc ∧ Tw w w' R T ∧ Below w.heap.size w w' :=
  (rTwinO_any q n c R w h hn hsz).mono fun _ _ ⟨p, m, cc, T, h1, h2, h3, h4, h5, _⟩ => ⟨p, m, cc, T, h1, h2, h3, h4, h5⟩
set_option maxRecDepth 8000 in
set_option maxHeartbeats 2000000 in
theorem rSameR_yes (qa qb : Option Addr) (n ca cb : Nat) (R T : List RV) (w : World) (ha : RowsL w qa n R) (hb : RowsL w qb n T) (he : T.map RV.l = R.map RV.l) (hnb : n ≤ 1000) (hsz : ∀ r ∈ R, r.l.length ≤ 1000000) :
    Calls Try.prog 21 #[.slice qa n ca, .slice qb n cb] w fun e w' => e = .returned (.bool true) ∧ Below w.heap.size w w' := by
  have HA : Hid (RowsL w qa n R ∧ RowsL w qb n T ∧ T.map RV.l = R.map RV.l ∧ ∀ r ∈ R, r.l.length ≤ 1000000) := ⟨ha, hb, he, hsz⟩
  have nI : (n : Int) ≤ 1000 := by omega
  clear ha hb he hsz
  go_enter Try.func21, Try.ntmps21
  go_wp2
  go_loopw [5] (fun i wr => ∃ k : Nat, k ≤ n ∧ i = .int .i64 k ∧ Below w.heap.size w wr) (fun i _ => n - (intOf i).toNat)
  case atStart => exact ⟨0, by omega, rfl, Below.refl _ _⟩
  case round =>
    obtain ⟨k, hk, rfl, hbel⟩ := hrel
    have HBE : Hid (Below w.heap.size w wr) := hbel
    clear hbel
    by_cases hkn : k < n
    · have hkI : (k : Int) < (n : Int) := by omega
      have k0 : (0 : Int) ≤ (k : Int) := by omega
      have hkR : k < R.length := by have := HA.out.1.n; omega
      have hkT : k < T.length := by have := HA.out.2.1.n; omega
      obtain ⟨ba, oa, rfl, hca⟩ := (HA.out.1.below HBE.out).at hkR
      obtain ⟨bb, ob, rfl, hcb⟩ := (HA.out.2.1.below HBE.out).at hkT
      have hra := (HA.out.1.each _ (getR_mem hkR)).below HBE.out
      have hrb := (HA.out.2.1.each _ (getR_mem hkT)).below HBE.out
      have hll : (T.getD k zR).l = (R.getD k zR).l := by
        have h1 := congrArg (fun l => l.getD k []) HA.out.2.2.1
        simpa [List.getD_eq_getElem?_getD, List.getElem?_eq_getElem hkR, List.getElem?_eq_getElem hkT] using h1
      have hlen := HA.out.2.2.2 _ (getR_mem hkR)
      obtain ⟨⟨qr, nr, cr, lr⟩, hr⟩ : ∃ r, R.getD k zR = r := ⟨_, rfl⟩
      obtain ⟨⟨qt, nt, ct, lt⟩, ht⟩ : ∃ r, T.getD k zR = r := ⟨_, rfl⟩
      rw [hr] at hca hra hll hlen
      rw [ht] at hcb hrb hll
      simp only at hll hlen
      subst hll
      rw [show rvV ⟨qr, nr, cr, lt⟩ = .slice qr nr cr from rfl] at hca
      rw [show rvV ⟨qt, nt, ct, lt⟩ = .slice qt nt ct from rfl] at hcb
      have hnn : nt = nr := by have h1 := hra.n; have h2 := hrb.n; simp only at h1 h2; omega
      subst hnn
      have HCA : Hid (wr.cell? ⟨ba, oa + k, none⟩ = some (.slice qr nt cr)) := hca
      have HCB : Hid (wr.cell? ⟨bb, ob + k, none⟩ = some (.slice qt nt ct)) := hcb
      have HEA : Hid (EntsIn wr qr lt ∧ EntsIn wr qt lt ∧ nt = lt.length ∧ lt.length ≤ 1000000) := ⟨hra.lies, hrb.lies, hra.n, hlen⟩
      have HSM := fun w' (hb : Below wr.heap.size wr w') => rsame_yes qr qt nt cr ct lt w' HEA.out.2.2.1 (by have := HEA.out; omega) (HEA.out.1.below hb) (HEA.out.2.1.below hb)
      have HKN : Hid (k < n) := hkn
      clear hca hcb hra hrb hlen hr ht hkR hkT hk hkn
      go_wp2
      go_region_held3 (fun w' => w'.cell? ⟨ba, oa + k, none⟩ = some (.slice qr nt cr) ∧ w'.cell? ⟨bb, ob + k, none⟩ = some (.slice qt nt ct) ∧ Below wr.heap.size wr w')
        (with_reducible first | exact ⟨HCA.out, HCB.out, Below.refl _ _⟩ | exact ⟨cell_below HCA.out (Below.refl _ _).drew, cell_below HCB.out (Below.refl _ _).drew, (Below.refl _ _).drew⟩ | exact ⟨cell_below HCA.out (below_dw (by assumption)), cell_below HCB.out (below_dw (by assumption)), below_dw (by assumption)⟩ | assumption)
        (first
          | (go_at_call 20; refine (HSM _ (Below.refl _ _).drew).mono ?_; rintro e w3 ⟨rfl, hb3⟩)
          | fail)
      rename_i hh
      have HB3 : Hid (Below w.heap.size w w3) := below_bt HBE.out hh.2.2
      clear hh HSM
      go_wp2
      go_roundw
      case rel => exact ⟨k + 1, by have := HKN.out; omega, by go_num, HB3.out⟩
      case measure => have := HKN.out; simp [intOf]; omega
    · have hkI : (n : Int) ≤ (k : Int) := by omega
      go_wp2
      go_ret
      exact ⟨rfl, HBE.out⟩
end Go.Proofs.Ytbnacopefclklaa
namespace Go.Proofs.Ytbnacopefclklaa
open Go.RowKit Go.WideShapes

set_option maxRecDepth 8000 in
set_option maxHeartbeats 8000000 in
theorem rThin_any (q : Option Addr) (n c : Nat) (A : List EntV) (s : Int) (last : Bool) (w : World) (h : EntsL w q n A) (hnb : (n : Int) ≤ 9223372036854775807) (L : List EntV) (E : Nat) (hE : thinF A s last = (L, E)) :
    Calls Try.prog 22 #[.slice q n c, .int .i64 s, .bool last] w fun e w' => ∃ v, e = .returned (.tuple #[v, .int .i64 (E : Int)]) ∧ OnB w v L w' := by
  obtain ⟨F, hF⟩ : ∃ F, thinErr A = F := ⟨_, rfl⟩
  have HE : Hid ((if F ≠ 0 then ([], F) else if 0 ≤ s ∧ s ≤ 2147483647 then (thinE A s last, 0) else ([], 2)) = (L, E)) := by
    show _ = _
    rw [← hE]
    unfold thinF
    rw [hF]
  have HF : Hid (thinErr A = F) := hF
  have HQ : Hid (EntsIn w q A ∧ n = A.length) := ⟨h.lies, h.n⟩
  unfold thinErr at hF
  by_cases hbig : 16384 < A.length
  · rw [if_pos hbig] at hF
    subst hF
    have hv := HE.out
    rw [if_pos (by decide), Prod.mk.injEq] at hv
    obtain ⟨rfl, rfl⟩ := hv
    have g1 : (16384 : Int) < (n : Int) := by have := h.n; omega
    clear h hbig hE
    go_enter Try.func22, Try.ntmps22
    go_wp2
    go_ret2
    exact ⟨_, rfl, eown_nil _ _, Below.refl _ _⟩
  rw [if_neg hbig] at hF
  have HC : Hid (checkF (prevE A 0) (A.drop 0) = F) := hF
  have mI : (n : Int) ≤ 16384 := by have := h.n; omega
  have g1 : (n : Int) ≤ 16384 := mI
  clear h hbig hF hE hnb
  go_enter Try.func22, Try.ntmps22
  go_wp2
  go_loopw [8] (fun s8 wr => ∃ k : Nat, s8 = .int .i64 (k : Int) ∧ k ≤ n ∧ checkF (prevE A k) (A.drop k) = F ∧ Below w.heap.size w wr) (fun s8 _ => n - (intOf s8).toNat)
  case atStart => exact ⟨0, rfl, by omega, HC.out, Below.refl _ _⟩
  case round =>
    obtain ⟨k, rfl, hk, hf, hbel⟩ := hrel
    have HK : Hid (checkF (prevE A k) (A.drop k) = F ∧ Below w.heap.size w wr) := ⟨hf, hbel⟩
    clear hf HC
    by_cases hkn : k < n
    · have hkI : (k : Int) < (n : Int) := by omega
      have k0 : (0 : Int) ≤ (k : Int) := by omega
      have HKN : Hid (k < n) := hkn
      have hkA : k < A.length := by have := HQ.out.2; omega
      have hen := HQ.out.1.below hbel
      obtain ⟨b, o, rfl⟩ := hen.addr (by omega)
      have y4 := hen.at (k := k) hkA
      obtain ⟨⟨ke, ve, se, ge⟩, hy⟩ : ∃ y, A.getD k zeroE = y := ⟨_, rfl⟩
      rw [hy] at y4
      have HY : Hid (A.getD k zeroE = ⟨ke, ve, se, ge⟩ ∧ k < A.length) := ⟨hy, hkA⟩
      obtain ⟨O, hO⟩ : ∃ O, oneE ⟨ke, ve, se, ge⟩ = O := ⟨_, rfl⟩
      have HO1 := rone_any ⟨ke, ve, se, ge⟩ wr O hO
      rw [entV_def] at HO1
      have HEN : Hid (EntsIn wr (some ⟨b, o, none⟩) A) := hen
      obtain ⟨y0, y1, y2, y3⟩ := y4
      simp only at y0 y1 y2 y3
      by_cases hO0 : O = 0
      · subst hO0
        have HONE : Hid (oneE (A.getD k zeroE) = 0) := by show _ = _; rw [hy]; exact hO
        by_cases hk0 : k = 0
        · subst hk0
          have HNX : Hid (checkF (prevE A 1) (A.drop 1) = F) := by show _ = _; rw [← HK.out.1]; exact (checkF_zero HY.out.2 rfl HONE.out).symm
          rw [show ((0 : Nat) : Int) = 0 from rfl] at *
          simp only [Nat.zero_mul, Nat.add_zero] at y0 y1 y2 y3
          clear hen hy hkA hbel hkn hk hO
          go_wp2_with fail
          refine HO1.mono ?_
          rintro e w2 ⟨rfl, hb2⟩
          have HB2 : Hid (Below w.heap.size w w2) := below_bt HK.out.2 hb2
          clear hb2 HO1
          go_wp2
          go_quiet (fail)
          go_wp2
          go_roundw
          case rel => exact ⟨1, rfl, by have := HKN.out; omega, HNX.out, below_drewN HB2.out _⟩
          case measure => have := HKN.out; simp [intOf]; omega
        · obtain ⟨j, hj⟩ : ∃ j, k = j + 1 := ⟨k - 1, by omega⟩
          have HJ : Hid (k = j + 1) := hj
          have jw : IntKind.i64.wrap ((k : Int) - 1) = (j : Int) := by rw [IntKind.wrap_i64]; omega
          have j0 : (0 : Int) ≤ (j : Int) := by omega
          have j1 : (j : Int) < (n : Int) := by omega
          have kp : (0 : Int) < (k : Int) := by omega
          have kp' : 0 < k := by omega
          obtain ⟨⟨kx, vx, sx, gx⟩, hx⟩ : ∃ x, A.getD j zeroE = x := ⟨_, rfl⟩
          obtain ⟨r, hr⟩ : ∃ r, lessE ⟨kx, vx, sx, gx⟩ ⟨ke, ve, se, ge⟩ = r := ⟨_, rfl⟩
          have HNX : Hid (F = if r = true then checkF (prevE A (k + 1)) (A.drop (k + 1)) else 100) := by
            have h1 := checkF_next (l := A) (k := j) (by rw [← hj]; exact hkA) hx (by rw [← hj]; exact hy) hO
            rw [hr, ← hj, HK.out.1] at h1
            show _ = _
            rw [h1, hj]
          have HLE := fun w' => rless_any ⟨kx, vx, sx, gx⟩ ⟨ke, ve, se, ge⟩ w'
          rw [hr, entV_def, entV_def] at HLE
          have HXJ : Hid (A.getD j zeroE = ⟨kx, vx, sx, gx⟩ ∧ j < A.length) := ⟨hx, by omega⟩
          clear hen hy hkA hbel hkn hk hO hx hr hk0 hj
          go_wp2_with fail
          refine HO1.mono ?_
          rintro e w2 ⟨rfl, hb2⟩
          have HB2 : Hid (Below w.heap.size w w2) := below_bt HK.out.2 hb2
          have hxx := (HEN.out.below hb2).at (k := j) HXJ.out.2
          rw [HXJ.out.1] at hxx
          have hyy := (HEN.out.below hb2).at (k := k) HY.out.2
          rw [HY.out.1] at hyy
          have HP2 : Hid (C4 w2 b (o + j * 4) (.string kx) (.string vx) (.int .i64 sx) (.bool gx)) := hxx
          have HD : Hid (C4 w2 b (o + k * 4) (.string ke) (.string ve) (.int .i64 se) (.bool ge)) := hyy
          clear hb2 HO1 hxx hyy y0 y1 y2 y3
          go_wp2
          go_region_held3 (fun w' => (w'.cell? ⟨b, o + k * 4, none⟩ = some (.string ke) ∧ w'.cell? ⟨b, o + k * 4 + 1, none⟩ = some (.string ve) ∧ w'.cell? ⟨b, o + k * 4 + 2, none⟩ = some (.int .i64 se) ∧ w'.cell? ⟨b, o + k * 4 + 3, none⟩ = some (.bool ge)) ∧ (w'.cell? ⟨b, o + j * 4, none⟩ = some (.string kx) ∧ w'.cell? ⟨b, o + j * 4 + 1, none⟩ = some (.string vx) ∧ w'.cell? ⟨b, o + j * 4 + 2, none⟩ = some (.int .i64 sx) ∧ w'.cell? ⟨b, o + j * 4 + 3, none⟩ = some (.bool gx)) ∧ Below w2.heap.size w2 w')
            (with_reducible first | exact ⟨HD.out, HP2.out, Below.refl _ _⟩ | exact ⟨c4_below HD.out (Below.refl _ _).drew, c4_below HP2.out (Below.refl _ _).drew, (Below.refl _ _).drew⟩ | exact ⟨c4_below HD.out (below_dw (by assumption)), c4_below HP2.out (below_dw (by assumption)), below_dw (by assumption)⟩ | assumption)
            (first
              | (go_at_call 33; refine (HLE _).mono ?_; rintro e w3 ⟨rfl, hb3⟩)
              | fail)
          rename_i hh
          have HB3 : Hid (Below w.heap.size w w3) := below_bt HB2.out hh.2.2
          clear hh HLE
          cases r with
          | true =>
            have H2 : Hid (checkF (prevE A (k + 1)) (A.drop (k + 1)) = F) := by have := HNX.out; rw [if_pos rfl] at this; exact this.symm
            go_wp2
            go_roundw
            case rel => exact ⟨k + 1, by go_num, by have := HKN.out; omega, H2.out, HB3.out⟩
            case measure => have := HKN.out; simp [intOf]; omega
          | false =>
            have hF100 : F = 100 := by have := HNX.out; rw [if_neg (by simp)] at this; exact this
            subst hF100
            have hv := HE.out
            rw [if_pos (by decide), Prod.mk.injEq] at hv
            obtain ⟨rfl, rfl⟩ := hv
            go_wp2
            go_ret2
            exact ⟨_, rfl, eown_nil _ _, HB3.out⟩
      · have e1 : ((O : Int) != 0) = true := by simp; omega
        have e1' : ((O : Int) == 0) = false := by simp; omega
        have hFO : O = F := by rw [← HK.out.1, checkF_one hkA hy (by rw [hO]; exact hO0), hO]
        subst hFO
        have hv := HE.out
        rw [if_pos hO0, Prod.mk.injEq] at hv
        obtain ⟨rfl, rfl⟩ := hv
        clear hen hy hkA hbel hkn hk hO0
        go_wp2_with fail
        refine HO1.mono ?_
        rintro e w2 ⟨rfl, hb2⟩
        have HB2 : Hid (Below w.heap.size w w2) := below_bt HK.out.2 hb2
        clear hb2 HO1
        go_wp2
        go_ret2
        exact ⟨_, rfl, eown_nil _ _, HB2.out⟩
    · have hkI : (n : Int) ≤ (k : Int) := by omega
      have hkD : decide ((k : Int) < (n : Int)) = false := decide_eq_false (by omega)
      have hkD' : decide (k < n) = false := decide_eq_false hkn
      have hF0 : F = 0 := by rw [← HK.out.1]; exact checkF_end A k (by have := HQ.out.2; omega)
      subst hF0
      obtain ⟨_, _, r3⟩ := thinErr_zero.1 HF.out
      have HR : Hid (RiseE A) := r3
      have HB1 : Hid (Below w.heap.size w wr) := HK.out.2
      rename World => w1
      have H1 : Hid (EntsIn w1 q A) := HQ.out.1.below HB1.out
      have HM : Hid (A.length = n) := HQ.out.2.symm
      clear r3 hbel hkn hk HK
      by_cases h0 : s < 0
      · have g0 : decide (s < 0) = true := decide_eq_true (by omega)
        have hv := HE.out
        rw [if_neg (by simp), if_neg (fun hh => by omega), Prod.mk.injEq] at hv
        obtain ⟨rfl, rfl⟩ := hv
        go_wp2
        go_ret2
        exact ⟨_, rfl, eown_nil _ _, HB1.out⟩
      have g0 : decide (s < 0) = false := decide_eq_false (by omega)
      by_cases h2 : 2147483647 < s
      · have g2 : decide (2147483647 < s) = true := decide_eq_true (by omega)
        have hv := HE.out
        rw [if_neg (by simp), if_neg (fun hh => by omega), Prod.mk.injEq] at hv
        obtain ⟨rfl, rfl⟩ := hv
        go_wp2
        go_ret2
        exact ⟨_, rfl, eown_nil _ _, HB1.out⟩
      have g2 : decide (2147483647 < s) = false := decide_eq_false (by omega)
      have hv := HE.out
      rw [if_neg (by simp), if_pos ⟨by omega, by omega⟩, Prod.mk.injEq] at hv
      obtain ⟨hv, rfl⟩ := hv
      have HV : Hid (thinE A s last = L) := hv
      clear hv h0 h2
      go_wp2
      go_loopw [10, 11] (fun s10 s11 wr => ∃ k : Nat, s11 = .int .i64 (k : Int) ∧ k ≤ n ∧ EOwn wr w1.heap.size s10 (pickE (fun i => thinAt A i s last) A k) ∧ Below w1.heap.size w1 wr) (fun _ s11 _ => n - (intOf s11).toNat)
      case atStart => exact ⟨0, rfl, by omega, eown_nil _ _, Below.refl _ _⟩
      case round =>
        obtain ⟨k, rfl, hk, ho, hbel⟩ := hrel
        obtain ⟨qo, co, rfl, _, _, _⟩ := ho.form
        have HO : Hid (EOwn wr w1.heap.size (.slice qo (pickE (fun i => thinAt A i s last) A k).length co) (pickE (fun i => thinAt A i s last) A k) ∧ Below w1.heap.size w1 wr) := ⟨ho, hbel⟩
        obtain ⟨P, hP⟩ : ∃ P, pickE (fun i => thinAt A i s last) A k = P := ⟨_, rfl⟩
        have HP : Hid (pickE (fun i => thinAt A i s last) A k = P ∧ P.length ≤ 16384) := ⟨hP, by rw [← hP]; have := pickE_len (fun i => thinAt A i s last) A k; omega⟩
        rw [hP] at HO ⊢
        obtain ⟨lp, hlp⟩ : ∃ lp, P.length = lp := ⟨_, rfl⟩
        have HLP : Hid (P.length = lp) := hlp
        rw [hlp] at HO ⊢
        clear hP hlp ho hbel
        by_cases hkm : k < n
        · have hkI2 : (k : Int) < (n : Int) := by omega
          have k0 : (0 : Int) ≤ (k : Int) := by omega
          have HKM : Hid (k < n) := hkm
          have hen := H1.out.below HO.out.2
          obtain ⟨b, o, rfl⟩ := hen.addr (by have := HM.out; omega)
          obtain ⟨x0, x1, x2, x3⟩ := hen.at (k := k) (by have := HM.out; omega)
          have hnw := fun hs => newest_own (s := s) HR.out (k := k) (by have := HM.out; omega) hs
          have hta : thinAt A k s last = (decide (s < (A.getD k zeroE).seq) || (newAt A k s && !((A.getD k zeroE).gone && last))) := rfl
          obtain ⟨⟨kb, vb, sb, db⟩, hx⟩ : ∃ x, A.getD k zeroE = x := ⟨_, rfl⟩
          rw [hx] at x0 x1 x2 x3 hnw hta
          simp only at x0 x1 x2 x3 hnw hta
          have HX : Hid (A.getD k zeroE = ⟨kb, vb, sb, db⟩) := hx
          have HEN : Hid (EntsIn wr (some ⟨b, o, none⟩) A) := hen
          have HCL : Hid (∀ w', Below wr.heap.size wr w' → C4 w' b (o + k * 4) (.string kb) (.string vb) (.int .i64 sb) (.bool db)) := by
            intro w' hb
            have h4 := (HEN.out.below hb).at (k := k) (by have := HM.out; omega)
            rw [HX.out] at h4
            exact h4
          obtain ⟨y, is, hy⟩ : ∃ y is, newL A kb s = (y, is) := ⟨_, _, rfl⟩
          have HNW := rNewest_any (some ⟨b, o, none⟩) n c A kb s wr ⟨HM.out.symm, hen⟩ (by omega) y is hy
          have HNO : Hid (thinAt A k s last = false → ∀ w2, Below wr.heap.size wr w2 → EOwn w2 w1.heap.size (.slice qo lp co) (pickE (fun i => thinAt A i s last) A (k + 1)) ∧ Below w1.heap.size w1 w2) := by
            intro hno w2 hb2
            rw [pickE_no (p := fun i => thinAt A i s last) hno, HP.out.1]
            exact ⟨HO.out.1.below hb2, below_bt HO.out.2 hb2⟩
          obtain ⟨ka, va, sa, da⟩ := y
          rw [entV_def] at HNW
          by_cases hse : s < sb
          · have g3 : decide (s < sb) = true := decide_eq_true hse
            have HT : Hid (thinAt A k s last = true) := by show _ = _; rw [hta, g3]; rfl
            clear hen hx hkm hk hnw hta hy
            go_wp2_with fail
            refine HNW.mono ?_
            rintro e w3 ⟨rfl, hb3⟩
            have hb4 := below_bt hb3 (below_alloc w3 (.cells #[.string ka, .string va, .int .i64 sa, .bool da] 23))
            have HB3 : Hid (Below wr.heap.size wr (w3.alloc (.cells #[.string ka, .string va, .int .i64 sa, .bool da] 23))) := hb4
            clear x0 x1 x2 x3
            obtain ⟨x0, x1, x2, x3⟩ := HCL.out _ hb4
            clear hb3 hb4 HNW
            have HA3 : Hid (∀ j, EOwn (((w3.alloc (.cells #[.string ka, .string va, .int .i64 sa, .bool da] 23)).drewN j).alloc (.cells #[.string kb, .string vb, .int .i64 sb, .bool db] 23)) w1.heap.size (.slice qo lp co) P ∧ w1.heap.size ≤ (((w3.alloc (.cells #[.string ka, .string va, .int .i64 sa, .bool da] 23)).drewN j).alloc (.cells #[.string kb, .string vb, .int .i64 sb, .bool db] 23)).heap.size ∧ Below w1.heap.size w1 (((w3.alloc (.cells #[.string ka, .string va, .int .i64 sa, .bool da] 23)).drewN j).alloc (.cells #[.string kb, .string vb, .int .i64 sb, .bool db] 23))) := fun j => ⟨((HO.out.1.below HB3.out).below (below_drewN (Below.refl _ _) j)).below (below_alloc _ _), (below_bt (below_drewN (below_bt HO.out.2 HB3.out) j) (below_alloc _ _)).size, below_bt (below_drewN (below_bt HO.out.2 HB3.out) j) (below_alloc _ _)⟩
            have HE1 : Hid (∀ j, EntsIn (((w3.alloc (.cells #[.string ka, .string va, .int .i64 sa, .bool da] 23)).drewN j).alloc (.cells #[.string kb, .string vb, .int .i64 sb, .bool db] 23)) (some ⟨w3.heap.size + 1, 0, none⟩) [⟨kb, vb, sb, db⟩]) := fun j => by
              have h := ents_new ((w3.alloc (.cells #[.string ka, .string va, .int .i64 sa, .bool da] 23)).drewN j) kb vb sb db
              rw [show ((w3.alloc (.cells #[.string ka, .string va, .int .i64 sa, .bool da] 23)).drewN j).heap.size = w3.heap.size + 1 by simp] at h
              exact h
            have HPK : Hid (pickE (fun i => thinAt A i s last) A (k + 1) = P ++ [⟨kb, vb, sb, db⟩]) := by
              show _ = _
              rw [pickE_yes (p := fun i => thinAt A i s last) HT.out, HX.out, HP.out.1]
            go_wp2
            go_quiet (fail)
            go_wp2_with (at_builtin; go_loud ((refine wpList_append_two _ rfl _ _ rfl w1.heap.size (.slice qo lp co) P [⟨kb, vb, sb, db⟩] (some ⟨w3.heap.size + 1, 0, none⟩) 1 1 rfl rfl rfl (HA3.out _).1 (HE1.out _) (fun h => by cases h) (by have := HP.out.2; simp only [List.length_cons, List.length_nil]; omega) (HA3.out _).2.1 ?_); intro v5 w5 ho5 hg5; have H5 : Hid _ := And.intro ho5 (ents_grownE (HA3.out _).1 hg5 (HA3.out _).2.2 (Nat.le_refl _)); clear ho5 hg5))
            go_roundw
            case rel => exact ⟨k + 1, by go_num, by have := HKM.out; omega, by rw [HPK.out]; exact H5.out.1, H5.out.2⟩
            case measure => have := HKM.out; simp [intOf]; omega
          · have g3 : decide (s < sb) = false := decide_eq_false hse
            have g3' : sb ≤ s := by omega
            obtain ⟨y', hy', hiff⟩ := hnw (by omega)
            rw [hy, Prod.mk.injEq] at hy'
            obtain ⟨rfl, rfl⟩ := hy'
            have hta' : thinAt A k s last = (newAt A k s && !(db && last)) := by rw [hta, g3, Bool.false_or]
            by_cases hye : (⟨ka, va, sa, da⟩ : EntV) = ⟨kb, vb, sb, db⟩
            · have hn1 : newAt A k s = true := hiff.2 hye
              rw [hn1, Bool.true_and] at hta'
              simp only [EntV.mk.injEq] at hye
              obtain ⟨rfl, rfl, rfl, rfl⟩ := hye
              have HTA : Hid (thinAt A k s last = !(da && last)) := hta'
              clear hen hx hkm hk hnw hta hta' hy hiff hn1 hse
              go_wp2_with fail
              refine HNW.mono ?_
              rintro e w3 ⟨rfl, hb3⟩
              have hb4 := below_bt hb3 (below_alloc w3 (.cells #[.string ka, .string va, .int .i64 sa, .bool da] 23))
              have HB3 : Hid (Below wr.heap.size wr (w3.alloc (.cells #[.string ka, .string va, .int .i64 sa, .bool da] 23))) := hb4
              clear x0 x1 x2 x3
              obtain ⟨x0, x1, x2, x3⟩ := HCL.out _ hb4
              obtain ⟨z0, z1, z2, z3⟩ := four_cells (heap_alloc_new w3 (.cells #[.string ka, .string va, .int .i64 sa, .bool da] 23))
              clear hb3 hb4 HNW
              cases da with
              | false =>
                have HT : Hid (thinAt A k s last = true) := by show _ = _; rw [HTA.out]; rfl
                have HA3 : Hid (∀ j, EOwn (((w3.alloc (.cells #[.string ka, .string va, .int .i64 sa, .bool false] 23)).drewN j).alloc (.cells #[.string ka, .string va, .int .i64 sa, .bool false] 23)) w1.heap.size (.slice qo lp co) P ∧ w1.heap.size ≤ (((w3.alloc (.cells #[.string ka, .string va, .int .i64 sa, .bool false] 23)).drewN j).alloc (.cells #[.string ka, .string va, .int .i64 sa, .bool false] 23)).heap.size ∧ Below w1.heap.size w1 (((w3.alloc (.cells #[.string ka, .string va, .int .i64 sa, .bool false] 23)).drewN j).alloc (.cells #[.string ka, .string va, .int .i64 sa, .bool false] 23))) := fun j => ⟨((HO.out.1.below HB3.out).below (below_drewN (Below.refl _ _) j)).below (below_alloc _ _), (below_bt (below_drewN (below_bt HO.out.2 HB3.out) j) (below_alloc _ _)).size, below_bt (below_drewN (below_bt HO.out.2 HB3.out) j) (below_alloc _ _)⟩
                have HE1 : Hid (∀ j, EntsIn (((w3.alloc (.cells #[.string ka, .string va, .int .i64 sa, .bool false] 23)).drewN j).alloc (.cells #[.string ka, .string va, .int .i64 sa, .bool false] 23)) (some ⟨w3.heap.size + 1, 0, none⟩) [⟨ka, va, sa, false⟩]) := fun j => by
                  have h := ents_new ((w3.alloc (.cells #[.string ka, .string va, .int .i64 sa, .bool false] 23)).drewN j) ka va sa false
                  rw [show ((w3.alloc (.cells #[.string ka, .string va, .int .i64 sa, .bool false] 23)).drewN j).heap.size = w3.heap.size + 1 by simp] at h
                  exact h
                have HPK : Hid (pickE (fun i => thinAt A i s last) A (k + 1) = P ++ [⟨ka, va, sa, false⟩]) := by
                  show _ = _
                  rw [pickE_yes (p := fun i => thinAt A i s last) HT.out, HX.out, HP.out.1]
                go_wp2
                go_quiet (fail)
                go_wp2_with (at_builtin; go_loud ((refine wpList_append_two _ rfl _ _ rfl w1.heap.size (.slice qo lp co) P [⟨ka, va, sa, false⟩] (some ⟨w3.heap.size + 1, 0, none⟩) 1 1 rfl rfl rfl (HA3.out _).1 (HE1.out _) (fun h => by cases h) (by have := HP.out.2; simp only [List.length_cons, List.length_nil]; omega) (HA3.out _).2.1 ?_); intro v5 w5 ho5 hg5; have H5 : Hid _ := And.intro ho5 (ents_grownE (HA3.out _).1 hg5 (HA3.out _).2.2 (Nat.le_refl _)); clear ho5 hg5))
                go_roundw
                case rel => exact ⟨k + 1, by go_num, by have := HKM.out; omega, by rw [HPK.out]; exact H5.out.1, H5.out.2⟩
                case measure => have := HKM.out; simp [intOf]; omega
              | true =>
                cases last with
                | true =>
                  have HNO2 : Hid (∀ w2, Below wr.heap.size wr w2 → EOwn w2 w1.heap.size (.slice qo lp co) (pickE (fun i => thinAt A i s true) A (k + 1)) ∧ Below w1.heap.size w1 w2) := HNO.out (by rw [HTA.out]; rfl)
                  go_wp2
                  go_quiet (fail)
                  go_wp2
                  go_roundw
                  case rel => exact ⟨k + 1, by go_num, by have := HKM.out; omega, HNO2.out _ (below_drewN HB3.out _)⟩
                  case measure => have := HKM.out; simp [intOf]; omega
                | false =>
                  have HT : Hid (thinAt A k s false = true) := by show _ = _; rw [HTA.out]; rfl
                  have HA3 : Hid (∀ j, EOwn (((w3.alloc (.cells #[.string ka, .string va, .int .i64 sa, .bool true] 23)).drewN j).alloc (.cells #[.string ka, .string va, .int .i64 sa, .bool true] 23)) w1.heap.size (.slice qo lp co) P ∧ w1.heap.size ≤ (((w3.alloc (.cells #[.string ka, .string va, .int .i64 sa, .bool true] 23)).drewN j).alloc (.cells #[.string ka, .string va, .int .i64 sa, .bool true] 23)).heap.size ∧ Below w1.heap.size w1 (((w3.alloc (.cells #[.string ka, .string va, .int .i64 sa, .bool true] 23)).drewN j).alloc (.cells #[.string ka, .string va, .int .i64 sa, .bool true] 23))) := fun j => ⟨((HO.out.1.below HB3.out).below (below_drewN (Below.refl _ _) j)).below (below_alloc _ _), (below_bt (below_drewN (below_bt HO.out.2 HB3.out) j) (below_alloc _ _)).size, below_bt (below_drewN (below_bt HO.out.2 HB3.out) j) (below_alloc _ _)⟩
                  have HE1 : Hid (∀ j, EntsIn (((w3.alloc (.cells #[.string ka, .string va, .int .i64 sa, .bool true] 23)).drewN j).alloc (.cells #[.string ka, .string va, .int .i64 sa, .bool true] 23)) (some ⟨w3.heap.size + 1, 0, none⟩) [⟨ka, va, sa, true⟩]) := fun j => by
                    have h := ents_new ((w3.alloc (.cells #[.string ka, .string va, .int .i64 sa, .bool true] 23)).drewN j) ka va sa true
                    rw [show ((w3.alloc (.cells #[.string ka, .string va, .int .i64 sa, .bool true] 23)).drewN j).heap.size = w3.heap.size + 1 by simp] at h
                    exact h
                  have HPK : Hid (pickE (fun i => thinAt A i s false) A (k + 1) = P ++ [⟨ka, va, sa, true⟩]) := by
                    show _ = _
                    rw [pickE_yes (p := fun i => thinAt A i s false) HT.out, HX.out, HP.out.1]
                  go_wp2
                  go_quiet (fail)
                  go_wp2_with (at_builtin; go_loud ((refine wpList_append_two _ rfl _ _ rfl w1.heap.size (.slice qo lp co) P [⟨ka, va, sa, true⟩] (some ⟨w3.heap.size + 1, 0, none⟩) 1 1 rfl rfl rfl (HA3.out _).1 (HE1.out _) (fun h => by cases h) (by have := HP.out.2; simp only [List.length_cons, List.length_nil]; omega) (HA3.out _).2.1 ?_); intro v5 w5 ho5 hg5; have H5 : Hid _ := And.intro ho5 (ents_grownE (HA3.out _).1 hg5 (HA3.out _).2.2 (Nat.le_refl _)); clear ho5 hg5))
                  go_roundw
                  case rel => exact ⟨k + 1, by go_num, by have := HKM.out; omega, by rw [HPK.out]; exact H5.out.1, H5.out.2⟩
                  case measure => have := HKM.out; simp [intOf]; omega
            · have hno : thinAt A k s last = false := by
                rw [hta']
                cases hn : newAt A k s with
                | false => rfl
                | true => exact absurd (hiff.1 hn) hye
              have hne := ent_ne hye
              simp only at hne
              have HNO2 : Hid (∀ w2, Below wr.heap.size wr w2 → EOwn w2 w1.heap.size (.slice qo lp co) (pickE (fun i => thinAt A i s last) A (k + 1)) ∧ Below w1.heap.size w1 w2) := HNO.out hno
              clear hen hx hkm hk hnw hta hta' hse hy hiff hye hno
              go_wp2_with fail
              refine HNW.mono ?_
              rintro e w3 ⟨rfl, hb3⟩
              have hb4 := below_bt hb3 (below_alloc w3 (.cells #[.string ka, .string va, .int .i64 sa, .bool da] 23))
              have HB3 : Hid (Below wr.heap.size wr (w3.alloc (.cells #[.string ka, .string va, .int .i64 sa, .bool da] 23))) := hb4
              clear x0 x1 x2 x3
              obtain ⟨x0, x1, x2, x3⟩ := HCL.out _ hb4
              obtain ⟨z0, z1, z2, z3⟩ := four_cells (heap_alloc_new w3 (.cells #[.string ka, .string va, .int .i64 sa, .bool da] 23))
              clear hb3 hb4 HNW
              rcases hne with h1 | ⟨h1, h2⟩ | ⟨h1, h2, h3⟩ | ⟨h1, h2, h3, h4⟩
              · have f1 : (ka.toList == kb.toList) = false := by rw [eq_str]; simp [h1]
                clear h1
                go_wp2
                go_quiet (fail)
                go_wp2
                go_roundw
                case rel => exact ⟨k + 1, by go_num, by have := HKM.out; omega, HNO2.out _ (below_drewN HB3.out _)⟩
                case measure => have := HKM.out; simp [intOf]; omega
              · have f1 : (ka.toList == kb.toList) = true := by rw [eq_str]; simp [h1]
                have f2 : (va.toList == vb.toList) = false := by rw [eq_str]; simp [h2]
                clear h1 h2
                go_wp2
                go_quiet (fail)
                go_wp2
                go_roundw
                case rel => exact ⟨k + 1, by go_num, by have := HKM.out; omega, HNO2.out _ (below_drewN HB3.out _)⟩
                case measure => have := HKM.out; simp [intOf]; omega
              · have f1 : (ka.toList == kb.toList) = true := by rw [eq_str]; simp [h1]
                have f2 : (va.toList == vb.toList) = true := by rw [eq_str]; simp [h2]
                have f3 : (sa == sb) = false := by simp [h3]
                clear h1 h2 h3
                go_wp2
                go_quiet (fail)
                go_wp2
                go_roundw
                case rel => exact ⟨k + 1, by go_num, by have := HKM.out; omega, HNO2.out _ (below_drewN HB3.out _)⟩
                case measure => have := HKM.out; simp [intOf]; omega
              · have f1 : (ka.toList == kb.toList) = true := by rw [eq_str]; simp [h1]
                have f2 : (va.toList == vb.toList) = true := by rw [eq_str]; simp [h2]
                have f3 : (sa == sb) = true := by simp [h3]
                have f4 : (da == db) = false := by simp [h4]
                clear h1 h2 h3 h4
                go_wp2
                go_quiet (fail)
                go_wp2
                go_roundw
                case rel => exact ⟨k + 1, by go_num, by have := HKM.out; omega, HNO2.out _ (below_drewN HB3.out _)⟩
                case measure => have := HKM.out; simp [intOf]; omega
        · have hkI2 : (n : Int) ≤ (k : Int) := by omega
          have HZ : Hid (P = L ∧ EOwn wr w.heap.size (.slice qo lp co) P ∧ Below w.heap.size w wr) := by
            refine ⟨?_, own_base HO.out.1 HB1.out.size, below_bt HB1.out HO.out.2⟩
            rw [← HV.out, ← pick_thin HR.out s last, ← HP.out.1, HM.out]
            have : k = n := by omega
            rw [this]
          clear hkm hk
          go_wp2
          go_ret2
          exact ⟨_, rfl, by rw [← HZ.out.1]; exact HZ.out.2.1, HZ.out.2.2⟩
set_option maxRecDepth 8000 in
set_option maxHeartbeats 4000000 in
theorem rFrom_any (q : Option Addr) (n c : Nat) (R : List RV) (s : Int) (kf : ByteArray) (w : World) (h : RowsL w q n R) (hnb : (n : Int) ≤ 9223372036854775807) (hkb : (kf.size : Int) ≤ 9223372036854775807) (L : List EntV) (E : Nat) (hE : fromE (lsR R) s kf = (L, E)) :
    Calls Try.prog 24 #[.slice q n c, .int .i64 s, .string kf] w fun e w' => ∃ v, e = .returned (.tuple #[v, .int .i64 (E : Int)]) ∧ OnB w v L w' := by
  obtain ⟨A, F, hA⟩ : ∃ A F, liveE (lsR R) s = (A, F) := ⟨_, _, rfl⟩
  have HE : Hid ((if F ≠ 0 then ([], F) else if 256 < kf.size then ([], 3) else (A.filter (fun x => !ltB x.key kf), 0)) = (L, E)) := by
    show _ = _
    rw [← hE]
    unfold fromE
    rw [hA]
  have HRS : Hid (A.length ≤ 16384) := by have := liveE_len (lsR R) s; rw [hA] at this; exact this
  have HAL := rLive_any q n c R s w h hnb A F hA
  clear h hnb hE hA
  go_enter Try.func24, Try.ntmps24
  go_wp2_with fail
  refine HAL.mono ?_
  rintro e w1 ⟨v1, rfl, h1⟩
  obtain ⟨q1, m1, rfl, _, _, _⟩ := h1.own.form
  have H1 : Hid (EOwn w1 w.heap.size (.slice q1 A.length m1) A ∧ Below w.heap.size w w1) := ⟨h1.own, h1.bel⟩
  obtain ⟨m, hm⟩ : ∃ m, A.length = m := ⟨_, rfl⟩
  have HM : Hid (A.length = m ∧ m ≤ 16384) := ⟨hm, by rw [← hm]; exact HRS.out⟩
  have mI : (m : Int) ≤ 16384 := by have := HM.out; omega
  rw [hm] at H1 ⊢
  clear HAL h1 hm
  by_cases hF : F = 0
  · subst hF
    by_cases hk : 256 < kf.size
    · have hv := HE.out
      rw [if_neg (by simp), if_pos hk, Prod.mk.injEq] at hv
      obtain ⟨rfl, rfl⟩ := hv
      have hkI : (256 : Int) < (kf.size : Int) := by omega
      clear hk
      go_wp2
      go_ret2
      exact ⟨_, rfl, eown_nil _ _, H1.out.2⟩
    · have hv := HE.out
      rw [if_neg (by simp), if_neg hk, Prod.mk.injEq] at hv
      obtain ⟨hv, rfl⟩ := hv
      have HV : Hid (A.filter (fun x => !ltB x.key kf) = L) := hv
      have hkI : (kf.size : Int) ≤ 256 := by omega
      clear hv hk
      go_wp2
      go_loopw [10, 11] (fun s10 s11 wr => ∃ k : Nat, s11 = .int .i64 (k : Int) ∧ k ≤ m ∧ EOwn wr w1.heap.size s10 ((A.take k).filter (fun x => !ltB x.key kf)) ∧ Below w1.heap.size w1 wr) (fun _ s11 _ => m - (intOf s11).toNat)
      case atStart => exact ⟨0, rfl, by omega, eown_nil _ _, Below.refl _ _⟩
      case round =>
        obtain ⟨k, rfl, hk, ho, hbel⟩ := hrel
        obtain ⟨qo, co, rfl, _, _, _⟩ := ho.form
        have HO : Hid (EOwn wr w1.heap.size (.slice qo ((A.take k).filter (fun x => !ltB x.key kf)).length co) ((A.take k).filter (fun x => !ltB x.key kf)) ∧ Below w1.heap.size w1 wr) := ⟨ho, hbel⟩
        obtain ⟨P, hP⟩ : ∃ P, (A.take k).filter (fun x => !ltB x.key kf) = P := ⟨_, rfl⟩
        have HP : Hid ((A.take k).filter (fun x => !ltB x.key kf) = P ∧ P.length ≤ 16384) := ⟨hP, by rw [← hP]; refine Nat.le_trans (List.length_filter_le _ _) ?_; rw [List.length_take]; have := HM.out; omega⟩
        rw [hP] at HO ⊢
        obtain ⟨lp, hlp⟩ : ∃ lp, P.length = lp := ⟨_, rfl⟩
        rw [hlp] at HO ⊢
        clear hP hlp ho hbel
        by_cases hkm : k < m
        · have hkI2 : (k : Int) < (m : Int) := by omega
          have k0 : (0 : Int) ≤ (k : Int) := by omega
          have HKM : Hid (k < m) := hkm
          have hkA : k < A.length := by have := HM.out; omega
          have hen := H1.out.1.ents.below HO.out.2
          obtain ⟨b, o, rfl⟩ := hen.addr (by omega)
          obtain ⟨x0, x1, x2, x3⟩ := hen.at (k := k) hkA
          have hts := takeE_succ hkA
          obtain ⟨⟨kb, vb, sb, db⟩, hx⟩ : ∃ x, A.getD k zeroE = x := ⟨_, rfl⟩
          rw [hx] at x0 x1 x2 x3 hts
          simp only at x0 x1 x2 x3
          cases hlt : ltB kb kf with
          | true =>
            have hbl : Op.bytesLess kb.toList kf.toList = true := hlt
            have H2 : Hid ((A.take (k + 1)).filter (fun x => !ltB x.key kf) = P) := by show _ = _; rw [hts, List.filter_append, HP.out.1, List.filter_cons, if_neg (by simp [hlt]), List.filter_nil, List.append_nil]
            clear hen hts hx hkA hkm hk hlt
            go_wp2
            go_roundw
            case rel => exact ⟨k + 1, by go_num, by have := HKM.out; omega, by rw [H2.out]; exact HO.out.1, HO.out.2⟩
            case measure => have := HKM.out; simp [intOf]; omega
          | false =>
            have hbl : Op.bytesLess kb.toList kf.toList = false := hlt
            have H2 : Hid ((A.take (k + 1)).filter (fun x => !ltB x.key kf) = P ++ [⟨kb, vb, sb, db⟩]) := by show _ = _; rw [hts, List.filter_append, HP.out.1, List.filter_cons, if_pos (by simp [hlt]), List.filter_nil]
            have HA3 : Hid (EOwn (wr.alloc (.cells #[.string kb, .string vb, .int .i64 sb, .bool db] 23)) w1.heap.size (.slice qo lp co) P ∧ w1.heap.size ≤ (wr.alloc (.cells #[.string kb, .string vb, .int .i64 sb, .bool db] 23)).heap.size ∧ Below w1.heap.size w1 (wr.alloc (.cells #[.string kb, .string vb, .int .i64 sb, .bool db] 23))) := ⟨HO.out.1.below (below_alloc _ _), (below_bt HO.out.2 (below_alloc _ _)).size, below_bt HO.out.2 (below_alloc _ _)⟩
            have HE1 : Hid (EntsIn (wr.alloc (.cells #[.string kb, .string vb, .int .i64 sb, .bool db] 23)) (some ⟨wr.heap.size, 0, none⟩) [⟨kb, vb, sb, db⟩]) := ents_new wr kb vb sb db
            clear hen hts hx hkA hkm hk hlt
            go_wp2_with (at_builtin; go_loud ((refine wpList_append_two _ rfl _ _ rfl w1.heap.size (.slice qo lp co) P [⟨kb, vb, sb, db⟩] (some ⟨wr.heap.size, 0, none⟩) 1 1 rfl rfl rfl HA3.out.1 HE1.out (fun h => by cases h) (by have := HP.out.2; simp only [List.length_cons, List.length_nil]; omega) HA3.out.2.1 ?_); intro v5 w5 ho5 hg5; have H5 : Hid _ := And.intro ho5 (ents_grownE HA3.out.1 hg5 HA3.out.2.2 (Nat.le_refl _)); clear ho5 hg5))
            go_roundw
            case rel => exact ⟨k + 1, by go_num, by have := HKM.out; omega, by rw [H2.out]; exact H5.out.1, H5.out.2⟩
            case measure => have := HKM.out; simp [intOf]; omega
        · have hkI2 : (m : Int) ≤ (k : Int) := by omega
          have HZ : Hid (P = L ∧ EOwn wr w.heap.size (.slice qo lp co) P ∧ Below w.heap.size w wr) := by
            refine ⟨?_, own_base HO.out.1 H1.out.2.size, below_bt H1.out.2 HO.out.2⟩
            rw [← HV.out, ← HP.out.1, List.take_of_length_le (by have := HM.out; omega)]
          clear hkm hk
          go_wp2
          go_ret2
          exact ⟨_, rfl, by rw [← HZ.out.1]; exact HZ.out.2.1, HZ.out.2.2⟩
  · have e1 : ((F : Int) != 0) = true := by simp; omega
    have e1' : ((F : Int) == 0) = false := by simp; omega
    have hv := HE.out
    rw [if_pos hF, Prod.mk.injEq] at hv
    obtain ⟨rfl, rfl⟩ := hv
    clear hF
    go_wp2
    go_ret2
    exact ⟨_, rfl, eown_nil _ _, H1.out.2⟩
end Go.Proofs.Ytbnacopefclklaa
namespace Go.Proofs.Ytbnacopefclklaa
open Go.RowKit Go.WideShapes

set_option maxHeartbeats 1000000 in
theorem next_end (B g : Nat) (w : World) (h : CurIn w B g []) (hB : B ≤ w.heap.size) : Calls Try.prog 13 #[.pointer (some ⟨g, 0, none⟩)] w fun e w' => e = .returned (.tuple #[entV zeroE, .bool false, .int .i64 0]) ∧ CurIn w' B g [] ∧ KeptC B w w' := by
  have HC : Hid (CurIn w B g [] ∧ B ≤ w.heap.size) := ⟨h, hB⟩
  obtain ⟨q, n, c, h1, h2, h3, h4, h5, h6, h7, h8⟩ := h.out
  obtain rfl : n = 0 := h3
  have c0 : (w.alloc (.cells zE 23)).cell? ⟨g, 0, none⟩ = some (.bool true) := Lib.cell_of_heap (block_belowR h1 (below_alloc _ _)) 0
  have c1 : (w.alloc (.cells zE 23)).cell? ⟨g, 1, none⟩ = some (.slice q 0 c) := Lib.cell_of_heap (block_belowR h1 (below_alloc _ _)) 1
  clear h h1 h2 h4 h5 h6 h7 h8 hB
  go_enter Try.func13, Try.ntmps13
  go_wp2
  (try simp only [Exit.inBlock, Exit.then])
  refine bodyPost_ret (v := .tuple #[entV zeroE, .bool false, .int .i64 0]) ?_ rfl ⟨rfl, ?_⟩
  · rw [results_cell_tmp2 rfl]
    go_simp
    rfl
  · exact ⟨HC.out.1.below (below_alloc _ _), keptC_below (below_alloc _ _) HC.out.2⟩
theorem ents_tail {w : World} {b o : Nat} {x : EntV} {t : List EntV} (h : EntsIn w (some ⟨b, o, none⟩) (x :: t)) : EntsIn w (some ⟨b, o + 4, none⟩) t := by
  have := h.drop' 1
  simpa using this
theorem set4_far {w : World} {N : Nat} {a b c d : Value} (k : Nat) (hk : k ≠ N) : ((((w.setCell ⟨N, 0, none⟩ a).setCell ⟨N, 1, none⟩ b).setCell ⟨N, 2, none⟩ c).setCell ⟨N, 3, none⟩ d).heap[k]? = w.heap[k]? := by
  rw [heap_setCell_other _ ⟨N, 3, none⟩ k _ hk, heap_setCell_other _ ⟨N, 2, none⟩ k _ hk, heap_setCell_other _ ⟨N, 1, none⟩ k _ hk, heap_setCell_other _ ⟨N, 0, none⟩ k _ hk]
set_option maxRecDepth 8000 in
set_option maxHeartbeats 2000000 in
theorem next_some (B g : Nat) (x : EntV) (t : List EntV) (w : World) (h : CurIn w B g (x :: t)) (hB : B ≤ w.heap.size) : Calls Try.prog 13 #[.pointer (some ⟨g, 0, none⟩)] w fun e w' => e = .returned (.tuple #[entV x, .bool true, .int .i64 0]) ∧ CurIn w' B g t ∧ KeptC B w w' := by
  have HC : Hid (CurIn w B g (x :: t) ∧ B ≤ w.heap.size) := ⟨h, hB⟩
  obtain ⟨q, n, c, h1, h2, h3, h4, h5, h6, h7, h8⟩ := h.out
  obtain ⟨b, o, rfl⟩ := h4.addr (by simp)
  obtain ⟨kx, vx, sx, dx⟩ := x
  have hgl := lt_heap h1
  obtain ⟨hbb, cs, fr, hbk⟩ := h8 _ rfl
  simp only at hbb hbk
  have hbl := lt_heap hbk
  obtain ⟨x0, x1, x2, x3⟩ := (h4.below (below_alloc w (.cells zE 23))).at (k := 0) (by simp)
  simp only [List.getD_cons_zero, Nat.zero_mul, Nat.add_zero] at x0 x1 x2 x3
  have hg1 := block_belowR h1 (below_alloc w (.cells zE 23))
  have hg2 := block_belowR hg1 (below_alloc (w.alloc (.cells zE 23)) (.cells #[.string kx, .string vx, .int .i64 sx, .bool dx] 23))
  have c0 : (w.alloc (.cells zE 23)).cell? ⟨g, 0, none⟩ = some (.bool true) := Lib.cell_of_heap hg1 0
  have c1 : (w.alloc (.cells zE 23)).cell? ⟨g, 1, none⟩ = some (.slice (some ⟨b, o, none⟩) n c) := Lib.cell_of_heap hg1 1
  have d1 : ((w.alloc (.cells zE 23)).alloc (.cells #[.string kx, .string vx, .int .i64 sx, .bool dx] 23)).cell? ⟨g, 1, none⟩ = some (.slice (some ⟨b, o, none⟩) n c) := Lib.cell_of_heap hg2 1
  have df : ((w.alloc (.cells zE 23)).alloc (.cells #[.string kx, .string vx, .int .i64 sx, .bool dx] 23)).frozen? ⟨g, 1, none⟩ = false := frozen_row hg2 1
  obtain ⟨p', hcut, hdrop, hp'⟩ := cutE_from (some ⟨b, o, none⟩) n c 1 (⟨kx, vx, sx, dx⟩ :: t) h3 h5 (by rw [h3]; simp) h7
  rw [show ((1 : Nat) : Int) = 1 from rfl] at hcut
  have hnp : 0 < n := by rw [h3]; simp
  have hnI : (0 : Int) < (n : Int) := by omega
  have hn0 : ((n : Int) == 0) = false := by simp; omega
  have hn0' : (n == 0) = false := by simp; omega
  have hp2 : p' = some ⟨b, if c = 1 then o else o + 4, none⟩ := by
    have h0 := hcut w
    rw [run_slice_l w 25 (some ⟨b, o, none⟩) n c (by kernel_rfl) .i64 1 (by omega) (by omega)] at h0
    have hs : (sizeOf (Try.prog.elem 25)).run Try.prog w = .ok 4 w := by kernel_rfl
    rw [hs] at h0
    simp only [Result.andThen, Result.ok.injEq, and_true] at h0
    have h1 : (Value.slice (if c = 1 then some ⟨b, o, none⟩ else (some (⟨b, o, none⟩ : Addr)).map (·.add (1 * 4))) (n - 1) (c - 1)) = Value.slice p' (n - 1) (c - 1) := h0
    simp only [Value.slice.injEq, and_true] at h1
    rw [← h1]
    split
    · rfl
    · rw [Option.map_some, add_plain]
  obtain ⟨n2, hn2⟩ : ∃ n2, n - 1 = n2 := ⟨_, rfl⟩
  obtain ⟨c2, hc2⟩ : ∃ c2, c - 1 = c2 := ⟨_, rfl⟩
  rw [hn2, hc2] at hcut
  -- the world behind the store
  obtain ⟨W3, hW3⟩ : ∃ W3, ((w.alloc (.cells zE 23)).alloc (.cells #[.string kx, .string vx, .int .i64 sx, .bool dx] 23)).setCell ⟨g, 1, none⟩ (.slice p' n2 c2) = W3 := ⟨_, rfl⟩
  have hoth : ∀ k, k ≠ g → W3.heap[k]? = ((w.alloc (.cells zE 23)).alloc (.cells #[.string kx, .string vx, .int .i64 sx, .bool dx] 23)).heap[k]? := fun k hk => by rw [← hW3]; exact heap_setCell_other _ ⟨g, 1, none⟩ k _ hk
  have hr3 : W3.heap[w.heap.size]? = some (.cells zE 23 (0, 0)) := by
    rw [hoth _ (by omega)]
    exact block_belowR (heap_alloc_new _ _) (below_alloc _ _)
  have hx3 : W3.heap[w.heap.size + 1]? = some (.cells #[.string kx, .string vx, .int .i64 sx, .bool dx] 23 (0, 0)) := by
    rw [hoth _ (by omega)]
    have := heap_alloc_new (w.alloc (.cells zE 23)) (.cells #[.string kx, .string vx, .int .i64 sx, .bool dx] 23)
    rwa [show (w.alloc (.cells zE 23)).heap.size = w.heap.size + 1 by simp] at this
  have hg3 : W3.heap[g]? = some (.cells #[.bool true, .slice p' n2 c2] 34 (0, 0)) := by
    rw [← hW3]
    have := heap_setCell_same _ g 1 _ _ (.slice p' n2 c2) hg2
    simpa using this
  have HO3 : Hid (∀ (k : Nat) (oo : Obj), k < w.heap.size → k ≠ g → w.heap[k]? = some oo → W3.heap[k]? = some oo) := by
    intro k oo hk hne he
    rw [hoth _ hne]
    exact block_belowR (block_belowR he (below_alloc _ _)) (below_alloc _ _)
  have HB3 : Hid (Below B w W3) := by
    show Below B w W3
    rw [← hW3]
    exact ((below_bt (below_alloc _ _) (below_alloc _ _)).mono hB).setCell (p := ⟨g, 1, none⟩) h2 _
  have HF : Hid (W3.heap[g]? = some (.cells #[.bool true, .slice p' n2 c2] 34 (0, 0)) ∧ B ≤ g ∧ g < w.heap.size ∧ n2 = t.length ∧ n2 ≤ c2 ∧ c2 ≤ maxLen ∧ B ≤ b ∧ b < w.heap.size ∧ w.heap[b]? = some (.cells cs 23 fr) ∧ b ≠ g) := by
    refine ⟨hg3, h2, hgl, ?_, by omega, by omega, hbb, hbl, hbk, ?_⟩
    · have : n = t.length + 1 := by rw [h3]; simp
      omega
    · intro e
      subst e
      rw [h1] at hbk
      simp at hbk
  have HE : Hid (∀ w', EntsIn w' (some ⟨b, o, none⟩) (⟨kx, vx, sx, dx⟩ :: t) → EntsIn w' p' t) := by
    intro w' hw'
    have := hdrop w' hw'
    simpa using this
  have HQ : Hid (EntsIn w (some ⟨b, o, none⟩) (⟨kx, vx, sx, dx⟩ :: t) ∧ p' = some ⟨b, if c = 1 then o else o + 4, none⟩) := ⟨h4, hp2⟩
  obtain ⟨⟨z0, z1, z2, z3⟩, f0, f1, f2, f3⟩ := four hr3
  obtain ⟨y0, y1, y2, y3⟩ := four_cells hx3
  have HR3 : Hid (W3.heap[w.heap.size]? = some (.cells zE 23 (0, 0))) := hr3
  clear h h1 h2 h3 h4 h5 h6 h7 h8 hgl hbb hbk hbl hg1 hg2 hdrop hp' hp2 hn2 hc2 hoth hr3 hx3 hg3
  go_enter Try.func13, Try.ntmps13
  go_wp2
  (try simp only [Exit.inBlock, Exit.then])
  refine bodyPost_ret (v := .tuple #[entV ⟨kx, vx, sx, dx⟩, .bool true, .int .i64 0]) ?_ rfl ⟨rfl, ?_⟩
  · rw [results_cell_tmp2 rfl]
    go_simp
    rfl
  · obtain ⟨a1, a2, a3, a4, a5, a6, a7, a8, a9, a10⟩ := HF.out
    have hbq : ∀ a b' c' d', ((((W3.setCell ⟨w.heap.size, 0, none⟩ a).setCell ⟨w.heap.size, 1, none⟩ b').setCell ⟨w.heap.size, 2, none⟩ c').setCell ⟨w.heap.size, 3, none⟩ d').heap[b]? = w.heap[b]? := fun a b' c' d' => by
      rw [set4_far b (by omega), a9]
      exact HO3.out _ _ a8 a10 a9
    refine ⟨⟨p', n2, c2, ?_, a2, a4, ?_, a5, a6, fun h => ?_, fun a ha => ?_⟩, ⟨set4_at HB3.out HC.out.2, fun b' cs' t' fr' e he => ?_⟩⟩
    · rw [set4_far g (by omega)]; exact a1
    · refine HE.out _ (EntsIn.blk HQ.out.1 (fun a ha => ?_))
      simp only [Option.some.injEq] at ha
      subst ha
      exact hbq _ _ _ _
    · rw [HQ.out.2] at h; cases h
    · rw [HQ.out.2] at ha
      simp only [Option.some.injEq] at ha
      subst ha
      exact ⟨a7, cs, fr, (hbq _ _ _ _).trans a9⟩
    · have hlt := lt_heap e
      have hne : b' ≠ g := by
        intro eg
        subst eg
        obtain ⟨q0, n0, c0, z, _⟩ := HC.out.1.out
        rw [z] at e
        simp only [Option.some.injEq, Obj.cells.injEq] at e
        exact he e.2.1.symm
      rw [set4_far b' (by omega)]
      exact HO3.out _ _ hlt hne e
end Go.Proofs.Ytbnacopefclklaa
namespace Go.Proofs.Ytbnacopefclklaa.mergeThins
open Go.ChangeShapes Go.WideShapes Go.ChangeAt Go.RowKit
open Go.ChangeMaps (open_string shut_string)
set_option linter.unusedVariables false

theorem own : ownKnob Try.prog.godebug = none := by kernel_rfl
theorem laidOut : laidOutB Try.prog = true := by kernel_rfl

open Go.Joins
/-- Rows of one's own are written over: all memory from a number on stays, and all that is no entry. -/
structure OnS (W w9 : World) (lo B : Nat) (T : List RV) (wr : World) : Prop where
  bel : Below W.heap.size W wr
  hi : ∀ k o, B ≤ k → w9.heap[k]? = some o → wr.heap[k]? = some o
  size : w9.heap.size ≤ wr.heap.size
  typ : ∀ (b : Nat) (cs : Array Value) (t : TypeId) (fr : Nat × Nat), w9.heap[b]? = some (.cells cs t fr) → t ≠ 23 → wr.heap[b]? = some (.cells cs t fr)
  rows : ∀ t ∈ T, 0 < t.n → ∃ g cur, t.q = some ⟨g, 0, none⟩ ∧ lo ≤ g ∧ g < B ∧ wr.heap[g]? = some (.cells cur 23 (0, 0)) ∧ t.n * 4 ≤ cur.size
theorem OnS.set {W w9 wr : World} {lo B g i : Nat} {T : List RV} {cur : Array Value} (h : OnS W w9 lo B T wr) (hW : W.heap.size ≤ lo) (hg : wr.heap[g]? = some (.cells cur 23 (0, 0))) (h1 : lo ≤ g) (h2 : g < B) (v : Value) : OnS W w9 lo B T (wr.setCell ⟨g, i, none⟩ v) := by
  have hoth : ∀ k, k ≠ g → (wr.setCell ⟨g, i, none⟩ v).heap[k]? = wr.heap[k]? := fun k hk => heap_setCell_other wr ⟨g, i, none⟩ k v hk
  have hb : Below g wr (wr.setCell ⟨g, i, none⟩ v) := (Below.refl g wr).setCell (p := ⟨g, i, none⟩) (Nat.le_refl g) v
  refine ⟨h.bel.setCell (p := ⟨g, i, none⟩) (Nat.le_trans hW h1) v, fun k o hk e => ?_, Nat.le_trans h.size hb.size, fun b cs t fr e ht => ?_, fun t ht hn => ?_⟩
  · rw [hoth k (by omega)]
    exact h.hi k o hk e
  · have e2 := h.typ b cs t fr e ht
    rw [hoth b ?_]
    · exact e2
    · intro hh
      subst hh
      rw [hg] at e2
      simp only [Option.some.injEq, Obj.cells.injEq] at e2
      exact ht e2.2.1.symm
  · obtain ⟨g', cur', x1, x2, x3, x4, x5⟩ := h.rows t ht hn
    by_cases e : g' = g
    · subst e
      rw [hg] at x4
      simp only [Option.some.injEq, Obj.cells.injEq] at x4
      obtain ⟨rfl, _⟩ := x4
      exact ⟨g', _, x1, x2, x3, heap_setCell_same wr g' i _ _ v hg, by simpa using x5⟩
    · exact ⟨g', cur', x1, x2, x3, by rw [hoth g' e]; exact x4, x5⟩
theorem OnS.at {W w9 wr : World} {lo B : Nat} {T : List RV} (h : OnS W w9 lo B T wr) {t : RV} (ht : t ∈ T) {j : Nat} (hj : j < t.n) : ∃ g cur, t.q = some ⟨g, 0, none⟩ ∧ lo ≤ g ∧ g < B ∧ wr.heap[g]? = some (.cells cur 23 (0, 0)) ∧ (∀ i, i < t.n * 4 → ∃ v, wr.cell? ⟨g, i, none⟩ = some v) ∧ ∀ i, wr.frozen? ⟨g, i, none⟩ = false := by
  obtain ⟨g, cur, x1, x2, x3, x4, x5⟩ := h.rows t ht (by omega)
  exact ⟨g, cur, x1, x2, x3, x4, fun i hi => ⟨cur[i]'(by omega), (cell_of_row wr g i cur _ _ x4).trans (Array.getElem?_eq_getElem _)⟩, fun i => frozen_row x4 i⟩
theorem OnS.start {W w9 w3 w2 : World} {B : Nat} {R T : List RV} (htw : Tw w2 w3 R T) (hb39 : Below w3.heap.size w3 w9) (hB : w3.heap.size ≤ B) (hbel : Below W.heap.size W w9) : OnS W w9 w2.heap.size B T w9 := by
  refine ⟨hbel, fun _ _ _ e => e, Nat.le_refl _, fun _ _ _ _ e _ => e, fun t ht hn => ?_⟩
  have ho := htw.own t ht
  have hrk := ho.rowOk
  rcases ho.2 with ⟨hv, h0⟩ | ⟨g, cap, cur, hv, hb, hg, hle, _, hsz, _⟩
  · have := hrk.n; omega
  · simp only [rvV, Value.slice.injEq] at hv
    refine ⟨g, cur, hv.1, hb, Nat.lt_of_lt_of_le (lt_heap hg) hB, block_belowR hg hb39, ?_⟩
    rw [hsz, hv.2.1]
    exact Nat.mul_le_mul_right 4 hle
set_option maxRecDepth 8000 in
set_option maxHeartbeats 16000000 in
theorem walk (vl : Value) (l : List EntV) (s : Int) (last : Bool) (v : Value) (R : List RV) (k : ByteArray) (W : World) (hvl : Ents W vl l) (hs : (Lit.int .i64 s).wf = true) (hv : RowsA W v R) (hk : k.size ≤ maxLen) :
    Calls Try.prog 5 #[vl, .int .i64 s, .bool last, v, .string k] W fun e W' => e = .returned (.bool true) ∧ Below W.heap.size W W' := by
  obtain ⟨q, c, rfl, hR, hlc, hcm, hqn⟩ := hv.lies
  obtain ⟨ql, cl, rfl, hinl, hlcl, hcml, hqnl⟩ := hvl.lies
  obtain ⟨n, hn⟩ : ∃ n, R.length = n := ⟨_, rfl⟩
  obtain ⟨nl, hnl⟩ : ∃ nl, l.length = nl := ⟨_, rfl⟩
  rw [hn] at hR hlc ⊢
  rw [hnl] at hlcl ⊢
  have HR : Hid (RowsL W q n R ∧ ∀ r ∈ R, r.n ≤ 3000000000000) := ⟨hR, hv.small⟩
  have HRL : Hid (EntsIn W ql l ∧ nl = l.length ∧ (ql = none → cl = 0)) := ⟨hinl, hnl.symm, hqnl⟩
  have HNM : Hid ((n : Int) ≤ 9223372036854775807 ∧ (k.size : Int) ≤ 9223372036854775807) := by unfold maxLen at hcm hk; exact ⟨by omega, by omega⟩
  have kM : (k.size : Int) ≤ 9223372036854775807 := HNM.out.2
  have nlM : (nl : Int) ≤ 9223372036854775807 := by unfold maxLen at hcml; omega
  have HHV := heavy_any q n c R W hR hv.small HNM.out.1
  have HN : Hid (R.length = n) := hn
  clear hv hvl hR hinl hlc hlcl hcm hcml hqn hqnl hn hnl hs hk
  go_enter Try.func5, Try.ntmps5
  go_wp2_with fail
  refine HHV.mono ?_
  rintro e w1 ⟨vh, rfl, hh, hb1⟩
  have HB1 : Hid (Below W.heap.size W w1) := hb1
  obtain ⟨b, rfl, hhb⟩ := hh.out
  clear HHV hb1 hh
  cases b with
  | true =>
    clear hhb
    go_wp2
    go_ret
    exact ⟨rfl, HB1.out⟩
  | false =>
  obtain ⟨k1, k2, _⟩ := hhb rfl
  have HSZ : Hid (R.length ≤ 100 ∧ (entsR R).length ≤ 6000) := ⟨k1, k2⟩
  clear hhb k1 k2
  by_cases c1 : 400 < nl ∧ nl ≤ 16384
  · have c1a : (400 : Int) < (nl : Int) := by omega
    have c1b : (nl : Int) ≤ 16384 := by omega
    clear c1
    go_wp2
    go_ret
    exact ⟨rfl, HB1.out⟩
  by_cases c2 : 17000 < nl
  · have c2a : (17000 : Int) < (nl : Int) := by omega
    have c2b : (400 : Int) < (nl : Int) := by omega
    have c2c : decide ((nl : Int) ≤ 16384) = false := decide_eq_false (by omega)
    have c2d : decide (nl ≤ 16384) = false := decide_eq_false (by omega)
    clear c1 c2
    go_wp2
    go_ret
    exact ⟨rfl, HB1.out⟩
  have HNL : Hid (nl ≤ 17000) := by show _ ≤ _; omega
  have d2 : (nl : Int) ≤ 17000 := by omega
  have d2' : decide ((17000 : Int) < (nl : Int)) = false := decide_eq_false (by omega)
  have d2'' : decide (17000 < nl) = false := decide_eq_false c2
  have hcond : ∃ x y : Bool, decide ((400 : Int) < (nl : Int)) = x ∧ decide ((nl : Int) ≤ 16384) = y ∧ decide (400 < nl) = x ∧ decide (nl ≤ 16384) = y ∧ ¬ (x = true ∧ y = true) := ⟨decide (400 < nl), decide (nl ≤ 16384), decide_eq_decide.2 (by omega), decide_eq_decide.2 (by omega), rfl, rfl, fun hh => c1 ⟨of_decide_eq_true hh.1, of_decide_eq_true hh.2⟩⟩
  obtain ⟨cx, cy, e1, e2, e3, e4, e5⟩ := hcond
  have hcut : cx = false ∨ (cx = true ∧ cy = false) := by
    cases cx with
    | false => exact .inl rfl
    | true =>
      cases cy with
      | false => exact .inr ⟨rfl, rfl⟩
      | true => exact absurd ⟨rfl, rfl⟩ e5
  have HLI : Hid (EntsIn w1 ql l) := HRL.out.1.below HB1.out
  clear c1 c2 e5 nlM
  rcases hcut with rfl | ⟨rfl, rfl⟩
  all_goals
    by_cases c3 : 10000 < k.size
    · have c3a : (10000 : Int) < (k.size : Int) := by omega
      clear c3
      go_wp2
      go_ret
      exact ⟨rfl, HB1.out⟩
    have d3 : (k.size : Int) ≤ 10000 := by omega
    clear c3 kM
    go_wp2_with (at_builtin; go_loud ((refine wpList_append_ents _ rfl _ _ rfl w1.heap.size l ql nl cl rfl rfl HRL.out.2.1 HLI.out HRL.out.2.2 (by have := HRL.out.2.1; have := HNL.out; omega) (Nat.le_refl _) ?_); intro vi w2 hoi hgi; obtain ⟨qi, ci, hvi, hli, hmi, hni⟩ := hoi.form; subst hvi; have hbi := grown_below hgi; have H2 : Hid (EntsIn w2 qi l ∧ l.length ≤ ci ∧ ci ≤ maxLen ∧ Below W.heap.size W w2) := ⟨hoi.ents, hli, hmi, below_bt HB1.out hbi⟩; have HTW := rTwinO_any q n c R w2 (HR.out.1.below H2.out.2.2.2) HSZ.out.1 HSZ.out.2; clear hoi hgi hli hmi hni hbi))
    refine HTW.mono ?_
    rintro e w3 ⟨pt, mt, ct, T, rfl, hrt, htc, htw, hb3, hown3⟩
    have hmt : mt = n := by rw [hrt.n, htw.len]; exact HN.out
    subst hmt
    have hls : lsR T = lsR R := htw.ls
    have HT : Hid (RowsL w3 pt mt T ∧ Tw w2 w3 R T ∧ Below W.heap.size W w3 ∧ w3.ownsRow w2.heap.size 25 1 (.slice pt mt ct) T.length (T.map rvV) ∧ EntsIn w3 qi l) := ⟨hrt, htw, below_bt H2.out.2.2.2 hb3, hown3, H2.out.1.below hb3⟩
    obtain ⟨A, E, hA⟩ : ∃ A E, thinF l s last = (A, E) := ⟨_, _, rfl⟩
    obtain ⟨L, F, hL⟩ : ∃ L F, fromE (lsR R) s k = (L, F) := ⟨_, _, rfl⟩
    have HE : Hid (thinF l s last = (A, E) ∧ fromE (lsR R) s k = (L, F) ∧ fromE (lsR T) s k = (L, F)) := ⟨hA, hL, by rw [hls]; exact hL⟩
    have HLN : Hid (A.length ≤ 17000 ∧ L.length ≤ 16384) := by
      constructor
      · rcases thinF_ok hA with ⟨_, h⟩ | ⟨_, h, _⟩
        · rw [h]; simp
        · rw [h]
          have := thinE_len l s last
          have := HRL.out.2.1
          have := HNL.out
          omega
      · unfold fromE at hL
        split at hL
        · rw [Prod.mk.injEq] at hL; rw [← hL.1]; simp
        · split at hL
          · rw [Prod.mk.injEq] at hL; rw [← hL.1]; simp
          · rw [Prod.mk.injEq] at hL
            rw [← hL.1]
            exact Nat.le_trans (List.length_filter_le _ _) (liveE_len _ _)
    obtain ⟨ni, hni⟩ : ∃ ni, l.length = ni := ⟨_, rfl⟩
    have hnn : nl = ni := by rw [← hni]; exact HRL.out.2.1
    have HT1 := Thin_any qi ni ci l s last w3 ⟨hni.symm, HT.out.2.2.2.2⟩ (by have := H2.out.2.1; omega) (by have := HNL.out; omega) A E hA
    rw [hni]
    subst hnn
    clear HTW hrt htc htw hb3 hown3 hls hA hL hni
    go_wp2_with fail
    refine HT1.mono ?_
    rintro e w4 ⟨v4, rfl, h4⟩
    obtain ⟨q4, c4, rfl, _, _, _⟩ := h4.own.form
    have H4 : Hid (EntsIn w4 q4 A ∧ Below w3.heap.size w3 w4) := ⟨h4.own.ents, h4.bel⟩
    have HT2 := rThin_any ql nl cl l s last w4 ⟨HRL.out.2.1, HRL.out.1.below (below_bt HT.out.2.2.1 h4.bel)⟩ (by have := HNL.out; omega) A E HE.out.1
    obtain ⟨ma, hma⟩ : ∃ ma, A.length = ma := ⟨_, rfl⟩
    have HMA : Hid (A.length = ma ∧ ma ≤ 17000) := ⟨hma, by rw [← hma]; exact HLN.out.1⟩
    rw [hma]
    clear HT1 h4
    go_wp2_with fail
    refine HT2.mono ?_
    rintro e w5 ⟨v5, rfl, h5⟩
    obtain ⟨q5, c5, rfl, _, _, _⟩ := h5.own.form
    have H5 : Hid (EntsIn w5 q4 A ∧ EntsIn w5 q5 A ∧ Below w3.heap.size w3 w5) := ⟨H4.out.1.below h5.bel, h5.own.ents, below_bt H4.out.2 h5.bel⟩
    have HNW := curNew_any pt mt ct T s k w5 (HT.out.1.below H5.out.2.2) HNM.out.1 HNM.out.2 L F HE.out.2.2
    rw [hma]
    clear HT2 h5 H4 hma
    go_wp2_with fail
    refine HNW.mono ?_
    rintro e w6 ⟨p, rfl, h6⟩
    have H6 : Hid (NewOut w5 p L F w6 ∧ EntsIn w6 q4 A ∧ EntsIn w6 q5 A ∧ Below w3.heap.size w3 w6) := ⟨h6, H5.out.1.below h6.bel, H5.out.2.1.below h6.bel, below_bt H5.out.2.2 h6.bel⟩
    have HFR := rFrom_any q mt c R s k w6 (HR.out.1.below (below_bt HT.out.2.2.1 H6.out.2.2.2)) HNM.out.1 HNM.out.2 L F HE.out.2.1
    clear HNW h6
    go_wp2_with fail
    refine HFR.mono ?_
    rintro e w7 ⟨v7, rfl, h7⟩
    obtain ⟨q7, c7, rfl, _, _, _⟩ := h7.own.form
    obtain ⟨mw, hmw⟩ : ∃ mw, L.length = mw := ⟨_, rfl⟩
    have h7o := h7.own
    rw [hmw] at h7o
    have HMW : Hid (L.length = mw ∧ mw ≤ 16384) := ⟨hmw, by rw [← hmw]; exact HLN.out.2⟩
    have mwI : (mw : Int) ≤ 16384 := by have := HMW.out; omega
    have mww : IntKind.i64.wrap ((mw : Int) + 1) = (mw : Int) + 1 := by rw [IntKind.wrap_i64]; omega
    have H7 : Hid (EntsIn w7 q4 A ∧ EntsIn w7 q5 A ∧ Below w3.heap.size w3 w7 ∧ EOwn w7 w6.heap.size (.slice q7 mw c7) L ∧ Below w6.heap.size w6 w7) := ⟨H6.out.2.1.below h7.bel, H6.out.2.2.1.below h7.bel, below_bt H6.out.2.2.2 h7.bel, h7o, h7.bel⟩
    have HS1 := rsame_yes q4 q5 ma c4 c5 A w7 HMA.out.1.symm (by have := HMA.out; omega) H7.out.1 H7.out.2.1
    rw [hmw]
    clear HFR h7 h7o hmw
    -- which way New went
    have HPW : Hid ((F ≠ 0 ∧ p = .pointer none) ∨ (F = 0 ∧ ∃ g, p = .pointer (some ⟨g, 0, none⟩) ∧ CurIn w6 w5.heap.size g L)) := by
      by_cases hF : F = 0
      · exact .inr ⟨hF, H6.out.1.good hF⟩
      · exact .inl ⟨hF, H6.out.1.bad hF⟩
    have HB56 : Hid (w5.heap.size ≤ w6.heap.size) := H6.out.1.bel.size
    go_wp2_with fail
    refine HS1.mono ?_
    rintro e w8 ⟨rfl, hb8⟩
    have HS2 := rsame_yes qi ql nl ci cl l w8 HRL.out.2.1 (by have := HNL.out; omega) (HT.out.2.2.2.2.below (below_bt H7.out.2.2.1 hb8)) (HRL.out.1.below (below_bt HT.out.2.2.1 (below_bt H7.out.2.2.1 hb8)))
    have H8 : Hid (Below w3.heap.size w3 w8 ∧ Below w7.heap.size w7 w8) := ⟨below_bt H7.out.2.2.1 hb8, hb8⟩
    clear HS1 hb8 H6
    rcases HPW.out with ⟨hF, rfl⟩ | ⟨rfl, g, rfl, hcur⟩
    · have f1 : ((F : Int) != 0) = true := by simp; omega
      have f1' : ((F : Int) == 0) = false := by simp; omega
      clear hF HPW
      go_wp2_with fail
      refine HS2.mono ?_
      rintro e w9 ⟨rfl, hb9⟩
      have hb39 := below_bt H8.out.1 hb9
      have HONS : Hid (OnS W w9 w2.heap.size w5.heap.size T w9) := OnS.start HT.out.2.1 hb39 H5.out.2.2.size (below_bt HT.out.2.2.1 hb39)
      have HW2 : Hid (W.heap.size ≤ w2.heap.size) := H2.out.2.2.2.size
      have HROW : Hid (∀ wr, OnS W w9 w2.heap.size w5.heap.size T wr → RowsIn wr pt T) := by
        intro wr hs
        have ho9 := own_below HT.out.2.2.2.1 hb39
        refine rows_own (base := w2.heap.size) (n := mt) (c := ct) (own_heap ho9 (fun g' hg' => ?_))
        rcases ho9.2 with ⟨hv, _⟩ | ⟨g2, cap, cur, hv, _, hgg, _⟩
        · rw [hv] at hg'; cases hg'
        · rw [hv] at hg'
          simp only [Value.ownBlock, Option.some.injEq] at hg'
          subst hg'
          rw [hgg]
          exact hs.typ _ _ _ _ hgg (by decide)
      have HTN : Hid (T.length = mt) := by have := HT.out.1.n; exact this.symm
      have mtI : (mt : Int) ≤ 100 := by have h1 := HN.out; have h2 := HSZ.out.1; omega
      have HTS : Hid (∀ t ∈ T, t.n ≤ 6000 ∧ t.n = t.l.length) := by
        intro t ht
        have hk := (HT.out.2.1.own t ht).rowOk
        have hm : t.l ∈ R.map RV.l := by rw [← HT.out.2.1.ls]; exact List.mem_map.2 ⟨t, ht, rfl⟩
        obtain ⟨r, hr, er⟩ := List.mem_map.1 hm
        have hle : r.l.length ≤ (entsR R).length := by
          obtain ⟨i, hi, rfl⟩ := List.mem_iff_getElem.1 hr
          have h1 := sumR_succ hi
          have h2 : (entsR (R.take (i + 1))).length ≤ (entsR R).length := by
            conv => rhs; rw [← List.take_append_drop (i + 1) R, entsR_app, List.length_append]
            omega
          rw [List.getD_eq_getElem?_getD, List.getElem?_eq_getElem hi] at h1
          simp only [Option.getD_some] at h1
          omega
        rw [er] at hle
        have h6 := HSZ.out.2
        exact ⟨by have := hk.n; omega, hk.n⟩
      have HHI : Hid (Below w7.heap.size w7 w9) := below_bt H8.out.2 hb9
      clear HS2 hb9 hb39
      go_wp2
      go_loopw [21] (fun s21 wx => ∃ i : Nat, s21 = .int .i64 (i : Int) ∧ i ≤ mt ∧ OnS W w9 w2.heap.size w5.heap.size T wx) (fun s21 _ => mt - (intOf s21).toNat)
      case atStart => exact ⟨0, rfl, by omega, HONS.out⟩
      case round =>
        obtain ⟨i, rfl, hi, hons⟩ := hrel
        have HI : Hid (i ≤ mt ∧ OnS W w9 w2.heap.size w5.heap.size T wr) := ⟨hi, hons⟩
        clear hi hons
        by_cases him : i < mt
        · have hiI : (i : Int) < (mt : Int) := by omega
          have i0 : (0 : Int) ≤ (i : Int) := by omega
          have iw : IntKind.i64.wrap ((i : Int) + 1) = (i : Int) + 1 := by rw [IntKind.wrap_i64]; omega
          have hiT : i < T.length := by have := HTN.out; omega
          obtain ⟨⟨qr, nr, cr, lr⟩, hr⟩ : ∃ r, T.getD i zR = r := ⟨_, rfl⟩
          have htm := getR_mem hiT
          rw [hr] at htm
          obtain ⟨bo, oo, hpt, _⟩ := HROW.out wr HI.out.2 (by omega)
          subst hpt
          have HCL : Hid (∀ wy, OnS W w9 w2.heap.size w5.heap.size T wy → wy.cell? ⟨bo, oo + i, none⟩ = some (.slice qr nr cr)) := by
            intro wy hy
            obtain ⟨b', o', e, hc'⟩ := HROW.out wy hy (by omega)
            simp only [Option.some.injEq, Addr.mk.injEq, and_true] at e
            obtain ⟨rfl, rfl⟩ := e
            have := hc' i hiT
            rw [hr] at this
            exact this
          have HTM : Hid ((⟨qr, nr, cr, lr⟩ : RV) ∈ T ∧ nr ≤ 6000 ∧ i < mt) := ⟨htm, (HTS.out _ htm).1, him⟩
          have nrI : (nr : Int) ≤ 6000 := by have := HTM.out.2.1; omega
          clear him hiT hr htm
          go_wp2
          go_loopw [22] (fun s22 wy => ∃ j : Nat, s22 = .int .i64 (j : Int) ∧ j ≤ nr ∧ OnS W w9 w2.heap.size w5.heap.size T wy) (fun s22 _ => nr - (intOf s22).toNat)
          case atStart => exact ⟨0, rfl, by omega, HI.out.2⟩
          case round =>
            obtain ⟨j, rfl, hj, hons⟩ := hrel
            have HJ : Hid (j ≤ nr ∧ OnS W w9 w2.heap.size w5.heap.size T wr) := ⟨hj, hons⟩
            have hcl := HCL.out wr hons
            clear hj hons
            by_cases hjn : j < nr
            · have hjI : (j : Int) < (nr : Int) := by omega
              have j0 : (0 : Int) ≤ (j : Int) := by omega
              have jw : IntKind.i64.wrap ((j : Int) + 1) = (j : Int) + 1 := by rw [IntKind.wrap_i64]; omega
              have HJN : Hid (j < nr) := hjn
              obtain ⟨gg, cur, x1, x2, x3, x4, x5, x6⟩ := HJ.out.2.at HTM.out.1 (j := j) hjn
              simp only at x1 x5
              subst x1
              obtain ⟨u0, c0⟩ := x5 (j * 4) (by omega)
              obtain ⟨u1, c1'⟩ := x5 (j * 4 + 1) (by omega)
              obtain ⟨u2, c2'⟩ := x5 (j * 4 + 2) (by omega)
              obtain ⟨u3, c3'⟩ := x5 (j * 4 + 3) (by omega)
              have f0 := x6 (j * 4)
              have f1 := x6 (j * 4 + 1)
              have f2 := x6 (j * 4 + 2)
              have f3 := x6 (j * 4 + 3)
              have HSET : Hid (∀ a b c d, OnS W w9 w2.heap.size w5.heap.size T ((((wr.setCell ⟨gg, j * 4, none⟩ a).setCell ⟨gg, j * 4 + 1, none⟩ b).setCell ⟨gg, j * 4 + 2, none⟩ c).setCell ⟨gg, j * 4 + 3, none⟩ d)) := by
                intro a b c d
                have s1 := HJ.out.2.set (i := j * 4) HW2.out x4 x2 x3 a
                have k1 := heap_setCell_same wr gg (j * 4) _ _ a x4
                have s2 := s1.set (i := j * 4 + 1) HW2.out k1 x2 x3 b
                have k2 := heap_setCell_same _ gg (j * 4 + 1) _ _ b k1
                have s3 := s2.set (i := j * 4 + 2) HW2.out k2 x2 x3 c
                have k3 := heap_setCell_same _ gg (j * 4 + 2) _ _ c k2
                exact s3.set (i := j * 4 + 3) HW2.out k3 x2 x3 d
              clear hjn x2 x3 x4 x5 x6
              go_wp2
              go_roundw
              case rel => exact ⟨j + 1, by go_num, by have := HJN.out; omega, HSET.out _ _ _ _⟩
              case measure => have := HJN.out; simp [intOf]; omega
            · have hjI : (nr : Int) ≤ (j : Int) := by omega
              clear hjn
              go_wp2
              go_roundw
              case rel => exact ⟨i + 1, by go_num, by have := HTM.out.2.2; omega, HJ.out.2⟩
              case measure => have := HTM.out.2.2; simp [intOf]; omega
        · have hiI : (mt : Int) ≤ (i : Int) := by omega
          have hiD : decide ((i : Int) < (mt : Int)) = false := decide_eq_false (by omega)
          have hiD' : decide (i < mt) = false := decide_eq_false him
          clear him
          go_wp2
          go_ret
          exact ⟨rfl, HI.out.2.bel⟩
    · have HCUR : Hid (CurIn w6 w5.heap.size g L) := hcur
      clear hcur HPW
      go_wp2_with fail
      refine HS2.mono ?_
      rintro e w9 ⟨rfl, hb9⟩
      have hb39 := below_bt H8.out.1 hb9
      have HONS : Hid (OnS W w9 w2.heap.size w5.heap.size T w9) := OnS.start HT.out.2.1 hb39 H5.out.2.2.size (below_bt HT.out.2.2.1 hb39)
      have HW2 : Hid (W.heap.size ≤ w2.heap.size) := H2.out.2.2.2.size
      have HROW : Hid (∀ wr, OnS W w9 w2.heap.size w5.heap.size T wr → RowsIn wr pt T) := by
        intro wr hs
        have ho9 := own_below HT.out.2.2.2.1 hb39
        refine rows_own (base := w2.heap.size) (n := mt) (c := ct) (own_heap ho9 (fun g' hg' => ?_))
        rcases ho9.2 with ⟨hv, _⟩ | ⟨g2, cap, cur, hv, _, hgg, _⟩
        · rw [hv] at hg'; cases hg'
        · rw [hv] at hg'
          simp only [Value.ownBlock, Option.some.injEq] at hg'
          subst hg'
          rw [hgg]
          exact hs.typ _ _ _ _ hgg (by decide)
      have HTN : Hid (T.length = mt) := by have := HT.out.1.n; exact this.symm
      have mtI : (mt : Int) ≤ 100 := by have h1 := HN.out; have h2 := HSZ.out.1; omega
      have HTS : Hid (∀ t ∈ T, t.n ≤ 6000 ∧ t.n = t.l.length) := by
        intro t ht
        have hk := (HT.out.2.1.own t ht).rowOk
        have hm : t.l ∈ R.map RV.l := by rw [← HT.out.2.1.ls]; exact List.mem_map.2 ⟨t, ht, rfl⟩
        obtain ⟨r, hr, er⟩ := List.mem_map.1 hm
        have hle : r.l.length ≤ (entsR R).length := by
          obtain ⟨i, hi, rfl⟩ := List.mem_iff_getElem.1 hr
          have h1 := sumR_succ hi
          have h2 : (entsR (R.take (i + 1))).length ≤ (entsR R).length := by
            conv => rhs; rw [← List.take_append_drop (i + 1) R, entsR_app, List.length_append]
            omega
          rw [List.getD_eq_getElem?_getD, List.getElem?_eq_getElem hi] at h1
          simp only [Option.getD_some] at h1
          omega
        rw [er] at hle
        have h6 := HSZ.out.2
        exact ⟨by have := hk.n; omega, hk.n⟩
      have HHI : Hid (Below w7.heap.size w7 w9) := below_bt H8.out.2 hb9
      clear HS2 hb9 hb39
      go_wp2
      go_loopw [21] (fun s21 wx => ∃ i : Nat, s21 = .int .i64 (i : Int) ∧ i ≤ mt ∧ OnS W w9 w2.heap.size w5.heap.size T wx) (fun s21 _ => mt - (intOf s21).toNat)
      case atStart => exact ⟨0, rfl, by omega, HONS.out⟩
      case round =>
        obtain ⟨i, rfl, hi, hons⟩ := hrel
        have HI : Hid (i ≤ mt ∧ OnS W w9 w2.heap.size w5.heap.size T wr) := ⟨hi, hons⟩
        clear hi hons
        by_cases him : i < mt
        · have hiI : (i : Int) < (mt : Int) := by omega
          have i0 : (0 : Int) ≤ (i : Int) := by omega
          have iw : IntKind.i64.wrap ((i : Int) + 1) = (i : Int) + 1 := by rw [IntKind.wrap_i64]; omega
          have hiT : i < T.length := by have := HTN.out; omega
          obtain ⟨⟨qr, nr, cr, lr⟩, hr⟩ : ∃ r, T.getD i zR = r := ⟨_, rfl⟩
          have htm := getR_mem hiT
          rw [hr] at htm
          obtain ⟨bo, oo, hpt, _⟩ := HROW.out wr HI.out.2 (by omega)
          subst hpt
          have HCL : Hid (∀ wy, OnS W w9 w2.heap.size w5.heap.size T wy → wy.cell? ⟨bo, oo + i, none⟩ = some (.slice qr nr cr)) := by
            intro wy hy
            obtain ⟨b', o', e, hc'⟩ := HROW.out wy hy (by omega)
            simp only [Option.some.injEq, Addr.mk.injEq, and_true] at e
            obtain ⟨rfl, rfl⟩ := e
            have := hc' i hiT
            rw [hr] at this
            exact this
          have HTM : Hid ((⟨qr, nr, cr, lr⟩ : RV) ∈ T ∧ nr ≤ 6000 ∧ i < mt) := ⟨htm, (HTS.out _ htm).1, him⟩
          have nrI : (nr : Int) ≤ 6000 := by have := HTM.out.2.1; omega
          clear him hiT hr htm
          go_wp2
          go_loopw [22] (fun s22 wy => ∃ j : Nat, s22 = .int .i64 (j : Int) ∧ j ≤ nr ∧ OnS W w9 w2.heap.size w5.heap.size T wy) (fun s22 _ => nr - (intOf s22).toNat)
          case atStart => exact ⟨0, rfl, by omega, HI.out.2⟩
          case round =>
            obtain ⟨j, rfl, hj, hons⟩ := hrel
            have HJ : Hid (j ≤ nr ∧ OnS W w9 w2.heap.size w5.heap.size T wr) := ⟨hj, hons⟩
            have hcl := HCL.out wr hons
            clear hj hons
            by_cases hjn : j < nr
            · have hjI : (j : Int) < (nr : Int) := by omega
              have j0 : (0 : Int) ≤ (j : Int) := by omega
              have jw : IntKind.i64.wrap ((j : Int) + 1) = (j : Int) + 1 := by rw [IntKind.wrap_i64]; omega
              have HJN : Hid (j < nr) := hjn
              obtain ⟨gg, cur, x1, x2, x3, x4, x5, x6⟩ := HJ.out.2.at HTM.out.1 (j := j) hjn
              simp only at x1 x5
              subst x1
              obtain ⟨u0, c0⟩ := x5 (j * 4) (by omega)
              obtain ⟨u1, c1'⟩ := x5 (j * 4 + 1) (by omega)
              obtain ⟨u2, c2'⟩ := x5 (j * 4 + 2) (by omega)
              obtain ⟨u3, c3'⟩ := x5 (j * 4 + 3) (by omega)
              have f0 := x6 (j * 4)
              have f1 := x6 (j * 4 + 1)
              have f2 := x6 (j * 4 + 2)
              have f3 := x6 (j * 4 + 3)
              have HSET : Hid (∀ a b c d, OnS W w9 w2.heap.size w5.heap.size T ((((wr.setCell ⟨gg, j * 4, none⟩ a).setCell ⟨gg, j * 4 + 1, none⟩ b).setCell ⟨gg, j * 4 + 2, none⟩ c).setCell ⟨gg, j * 4 + 3, none⟩ d)) := by
                intro a b c d
                have s1 := HJ.out.2.set (i := j * 4) HW2.out x4 x2 x3 a
                have k1 := heap_setCell_same wr gg (j * 4) _ _ a x4
                have s2 := s1.set (i := j * 4 + 1) HW2.out k1 x2 x3 b
                have k2 := heap_setCell_same _ gg (j * 4 + 1) _ _ b k1
                have s3 := s2.set (i := j * 4 + 2) HW2.out k2 x2 x3 c
                have k3 := heap_setCell_same _ gg (j * 4 + 2) _ _ c k2
                exact s3.set (i := j * 4 + 3) HW2.out k3 x2 x3 d
              clear hjn x2 x3 x4 x5 x6
              go_wp2
              go_roundw
              case rel => exact ⟨j + 1, by go_num, by have := HJN.out; omega, HSET.out _ _ _ _⟩
              case measure => have := HJN.out; simp [intOf]; omega
            · have hjI : (nr : Int) ≤ (j : Int) := by omega
              clear hjn
              go_wp2
              go_roundw
              case rel => exact ⟨i + 1, by go_num, by have := HTM.out.2.2; omega, HJ.out.2⟩
              case measure => have := HTM.out.2.2; simp [intOf]; omega
        · have hiI : (mt : Int) ≤ (i : Int) := by omega
          have hiD : decide ((i : Int) < (mt : Int)) = false := decide_eq_false (by omega)
          have hiD' : decide (i < mt) = false := decide_eq_false him
          clear him
          have HCU : Hid (CurIn wr w5.heap.size g (L.drop 0) ∧ EOwn wr w6.heap.size (.slice q7 mw c7) L ∧ Below W.heap.size W wr ∧ w5.heap.size ≤ wr.heap.size) := by
            have h9 := HI.out.2
            refine ⟨?_, ?_, h9.bel, ?_⟩
            · rw [List.drop_zero]
              have hc9 := (HCUR.out.below H7.out.2.2.2.2).below HHI.out
              exact hc9.keep h9.hi
            · have ho9 := H7.out.2.2.2.1.below HHI.out
              refine own_heap ho9 (fun g' hg' => ?_)
              have hlt := World.ownsRow.lt ho9 g' hg'
              obtain ⟨o9, ho⟩ : ∃ o9, w9.heap[g']? = some o9 := ⟨_, Array.getElem?_eq_getElem hlt.2⟩
              rw [ho]
              exact h9.hi g' o9 (Nat.le_trans HB56.out hlt.1) ho
            · have e1 := H7.out.2.2.2.2.size
              have e2 := HHI.out.size
              have e3 := h9.size
              have e4 := HB56.out
              omega
          have HWB : Hid (W.heap.size ≤ w5.heap.size) := by have h1 := HT.out.2.2.1.size; have h2 := H5.out.2.2.size; show W.heap.size ≤ _; omega
          go_wp2
          go_loopw [23] (fun s23 wx => ∃ j : Nat, s23 = .int .i64 (j : Int) ∧ j ≤ mw + 2 ∧ CurIn wx w5.heap.size g (L.drop j) ∧ EOwn wx w6.heap.size (.slice q7 mw c7) L ∧ Below W.heap.size W wx ∧ w5.heap.size ≤ wx.heap.size) (fun s23 _ => mw + 2 - (intOf s23).toNat)
          case atStart => exact ⟨0, rfl, by omega, HCU.out⟩
          case round =>
            obtain ⟨j, rfl, hj, hcu, hol, hbl, hsz⟩ := hrel
            have HJ : Hid (CurIn wr w5.heap.size g (L.drop j) ∧ EOwn wr w6.heap.size (.slice q7 mw c7) L ∧ Below W.heap.size W wr ∧ w5.heap.size ≤ wr.heap.size) := ⟨hcu, hol, hbl, hsz⟩
            have j0 : (0 : Int) ≤ (j : Int) := by omega
            have jw : IntKind.i64.wrap ((j : Int) + 1) = (j : Int) + 1 := by rw [IntKind.wrap_i64]; omega
            clear hcu hbl hsz
            by_cases hjm : j < mw
            · have hjI : (j : Int) < (mw : Int) := by omega
              have hjI2 : (j : Int) ≤ (mw : Int) + 1 := by omega
              have hjL : j < L.length := by have := HMW.out; omega
              have hen := hol.ents
              obtain ⟨bw, ow, rfl⟩ := hen.addr (by omega)
              have hdr := dropE hjL
              obtain ⟨⟨kx, vx, sx, dx⟩, hx⟩ : ∃ x, L.getD j zeroE = x := ⟨_, rfl⟩
              rw [hx] at hdr
              have HX : Hid (L.getD j zeroE = ⟨kx, vx, sx, dx⟩ ∧ j < L.length ∧ j < mw) := ⟨hx, hjL, hjm⟩
              have HNX := next_some w5.heap.size g ⟨kx, vx, sx, dx⟩ (L.drop (j + 1)) wr (by rw [← hdr]; exact HJ.out.1) HJ.out.2.2.2
              rw [entV_def] at HNX
              clear hen hdr hx hjL hjm hj hol
              go_wp2_with fail
              refine HNX.mono ?_
              rintro e wa ⟨rfl, hc5, hk5⟩
              have hb6 := below_alloc wa (.cells #[.string kx, .string vx, .int .i64 sx, .bool dx] 23)
              have H6 : Hid (CurIn (wa.alloc (.cells #[.string kx, .string vx, .int .i64 sx, .bool dx] 23)) w5.heap.size g (L.drop (j + 1)) ∧ EOwn (wa.alloc (.cells #[.string kx, .string vx, .int .i64 sx, .bool dx] 23)) w6.heap.size (.slice (some ⟨bw, ow, none⟩) mw c7) L ∧ Below W.heap.size W (wa.alloc (.cells #[.string kx, .string vx, .int .i64 sx, .bool dx] 23)) ∧ w5.heap.size ≤ (wa.alloc (.cells #[.string kx, .string vx, .int .i64 sx, .bool dx] 23)).heap.size) := by
                have hbw : Below W.heap.size W wa := HJ.out.2.2.1.trans (hk5.bel.mono HWB.out)
                refine ⟨hc5.below hb6, (HJ.out.2.1.keptC hk5).below hb6, below_bt hbw hb6, ?_⟩
                have := hk5.bel.size
                have := HJ.out.2.2.2
                simp
                omega
              obtain ⟨x0, x1, x2, x3⟩ := H6.out.2.1.ents.at (k := j) HX.out.2.1
              rw [HX.out.1] at x0 x1 x2 x3
              simp only at x0 x1 x2 x3
              obtain ⟨z0, z1, z2, z3⟩ := four_cells (heap_alloc_new wa (.cells #[.string kx, .string vx, .int .i64 sx, .bool dx] 23))
              clear HNX hc5 hk5 hb6
              go_wp2
              go_quiet (fail)
              go_wp2
              go_roundw
              case rel => exact ⟨j + 1, by go_num, by have := HX.out.2.2; omega, H6.out.1.below (below_drewN (Below.refl _ _) _), H6.out.2.1.below (below_drewN (Below.refl _ _) _), below_drewN H6.out.2.2.1 _, H6.out.2.2.2⟩
              case measure => have := HX.out.2.2; simp [intOf]; omega
            · have hjD : decide ((j : Int) < (mw : Int)) = false := decide_eq_false (by omega)
              have hjD' : decide (j < mw) = false := decide_eq_false hjm
              have hnil : L.drop j = [] := List.drop_eq_nil_of_le (by have := HMW.out; omega)
              have HNI : Hid (∀ j', mw ≤ j' → L.drop j' = []) := fun j' h' => List.drop_eq_nil_of_le (by have := HMW.out; omega)
              have HJM : Hid (mw ≤ j) := by show _ ≤ _; omega
              by_cases hje : j < mw + 2
              · have hjI2 : (j : Int) ≤ (mw : Int) + 1 := by omega
                have HJE : Hid (j < mw + 2) := hje
                have HNX := next_end w5.heap.size g wr (by rw [← hnil]; exact HJ.out.1) HJ.out.2.2.2
                rw [show entV zeroE = .agg #[.string ⟨#[]⟩, .string ⟨#[]⟩, .int .i64 0, .bool false] from rfl] at HNX
                clear hjm hje hnil hj hol
                go_wp2_with fail
                refine HNX.mono ?_
                rintro e wa ⟨rfl, hc5, hk5⟩
                have hb6 := below_alloc wa (.cells zE 23)
                have H6 : Hid (CurIn (wa.alloc (.cells zE 23)) w5.heap.size g (L.drop (j + 1)) ∧ EOwn (wa.alloc (.cells zE 23)) w6.heap.size (.slice q7 mw c7) L ∧ Below W.heap.size W (wa.alloc (.cells zE 23)) ∧ w5.heap.size ≤ (wa.alloc (.cells zE 23)).heap.size) := by
                  have hbw : Below W.heap.size W wa := HJ.out.2.2.1.trans (hk5.bel.mono HWB.out)
                  refine ⟨?_, (HJ.out.2.1.keptC hk5).below hb6, below_bt hbw hb6, ?_⟩
                  · rw [HNI.out (j + 1) (by have := HJM.out; omega)]
                    exact hc5.below hb6
                  · have := hk5.bel.size
                    have := HJ.out.2.2.2
                    simp
                    omega
                obtain ⟨z0, z1, z2, z3⟩ := four_cells (heap_alloc_new wa (.cells zE 23))
                clear HNX hc5 hk5 hb6
                go_wp2
                go_quiet (fail)
                go_wp2
                go_roundw
                case rel => exact ⟨j + 1, by go_num, by have := HJE.out; omega, H6.out.1.below (below_drewN (Below.refl _ _) _), H6.out.2.1.below (below_drewN (Below.refl _ _) _), below_drewN H6.out.2.2.1 _, H6.out.2.2.2⟩
                case measure => have := HJE.out; simp [intOf]; omega
              · have hjI2 : (mw : Int) + 1 < (j : Int) := by omega
                go_wp2
                go_ret
                exact ⟨rfl, HJ.out.2.2.1⟩

/-! ### THE ROW's STEP -/
set_option maxRecDepth 100000 in
theorem lifted (os : Os) (started : os.Started) (H : Type) (enc : TypeId × Value → H) :
    ReturnsInHanded {} Try.checked os 5 .any (Rows.mergeThinsSpec.pre6 enc Try.prog Try.f5 Rows.mergeThinsRow.domain false) (Rows.mergeThinsSpec.post enc Try.prog Try.f5 false true false false) := by
  refine returnsInHanded_of_change_sized (C := Try.checked) own started (by kernel_rfl) Try.func5
    (ChangeSpec.witness6 (enc := enc) (C := Try.checked) false ⟨#[], #[.slice none 0 0, .int .i64 0, .bool false, .slice none 0 0, .string ByteArray.empty], []⟩ 8 (by kernel_rfl) (by kernel_rfl) (by kernel_rfl) (by kernel_rfl)) ?_
  intro W base args ds gs before hval0 hW hcnd hsz0 _
  have hval : ∀ (j : Nat) t v, Try.f5.params[j]? = some t → args[j]? = some v → Value.okWide Try.prog W .any base t v := hval0
  have hW' := hW
  obtain ⟨p, q, hA0, hV, rfl, hfz, hnd⟩ := hW
  have hA : DataW.TrodAll enc Try.prog W 0 (fun _ => true) true Try.f5.params.toList args.toList ds p := hA0
  have hsz : (DataW.weightsEach Try.prog (Try.f5.params.toList ++ Rows.mergeThinsSpec.plain.varTypes Try.prog) (ds ++ gs)).all (· ≤ reachBytes) = true := hsz0
  rw [Try.params5] at hA hval hsz
  obtain ⟨v0, vs0, d0, ds0, p0, q0, hargs, rfl, rfl, h0, r0⟩ := trodAll_cons hA
  obtain ⟨v1, vs1, d1, ds1, p1, q1, rfl, rfl, rfl, h1, r1⟩ := trodAll_cons r0
  obtain ⟨v2, vs2, d2, ds2, p2, q2, rfl, rfl, rfl, h2, r2⟩ := trodAll_cons r1
  obtain ⟨v3, vs3, d3, ds3, p3, q3, rfl, rfl, rfl, h3, r3⟩ := trodAll_cons r2
  obtain ⟨v4, vs4, d4, ds4, p4, q4, rfl, rfl, rfl, h4, r4⟩ := trodAll_cons r3
  obtain ⟨rfl, rfl, rfl⟩ := trodAll_nil r4
  obtain rfl : args = #[v0, v1, v2, v3, v4] := by cases args; simp_all
  obtain ⟨rfl, rfl⟩ := trodVars_none hV
  have k0 := h0
  have lt0 : ∀ x ∈ p0, x.block < W.heap.size := by obtain ⟨m, hm⟩ := k0; exact DataW.trod_lt m _ _ _ hm
  obtain ⟨qa0, la0, ca0, rfl⟩ := okWide_slice Try.underlying25 (hval 0 25 v0 rfl rfl)
  obtain ⟨fu0, hf0⟩ := h0
  obtain ⟨l0, w0⟩ := open_entries Try.underlying25 Try.underlying23 (by kernel_rfl) rfl rfl rfl rfl (by kernel_rfl) (by kernel_rfl) (by kernel_rfl) (by kernel_rfl) Try.underlying9 Try.underlying9 Try.underlying3 Try.underlying4 hf0
  obtain ⟨a1, rfl, rfl, rfl, w1⟩ := open_int Try.underlying3 (hval 1 3 v1 rfl rfl) h1
  obtain ⟨a2, rfl, rfl, rfl⟩ := open_bool Try.underlying4 (hval 2 4 v2 rfl rfl) h2
  have k3 := h3
  have lt3 : ∀ x ∈ p3, x.block < W.heap.size := by obtain ⟨m, hm⟩ := k3; exact DataW.trod_lt m _ _ _ hm
  obtain ⟨qa3, la3, ca3, rfl⟩ := okWide_slice Try.underlying26 (hval 3 26 v3 rfl rfl)
  obtain ⟨fu3, hf3⟩ := h3
  obtain ⟨R3, w3⟩ := open_rows Try.underlying26 (by kernel_rfl) Try.underlying25 Try.underlying23 (by kernel_rfl) rfl rfl rfl rfl (by kernel_rfl) (by kernel_rfl) (by kernel_rfl) (by kernel_rfl) Try.underlying9 Try.underlying9 Try.underlying3 Try.underlying4 (by kernel_rfl) hf3 (fun k hk => by simpa using List.all_eq_true.1 hsz k (DataW.weights_mem_each (j := 3) (t := 26) rfl rfl k hk))
  obtain ⟨a4, rfl, rfl, rfl, w4⟩ := open_string Try.underlying9 (hval 4 9 v4 rfl rfl) h4
  clear hA0 hval0
  refine (walk (.slice qa0 la0 ca0) l0 a1 a2 (.slice qa3 la3 ca3) R3 a4 W w0 w1 w3 w4).mono fun e W' ⟨he, bel⟩ => ?_
  subst he
  exact ⟨_, rfl, _, _, _, [], _, [], hW', trodAll_mk1 (shut_bool Try.underlying4 _), (trodAll_cons_mk (Below.trod laidOut (by kernel_rfl) (of_decide_eq_true (by kernel_rfl)) k0 bel lt0) (trodAll_cons_mk (shut_int Try.underlying3 w1) (trodAll_cons_mk (shut_bool Try.underlying4 _) (trodAll_cons_mk (Below.trod laidOut (by kernel_rfl) (of_decide_eq_true (by kernel_rfl)) k3 bel lt3) (trodAll_cons_mk (shut_string Try.underlying9 w4) trodAll_mk0))))), rfl, bel.frame _, fun h => by cases h⟩

theorem over : Rows.mergeThinsRow.holds Try.pinned (OpenSpec.ofChange Rows.mergeThinsSpec) :=
  OpenClaim.holds_of_wide 5 Try.f5 rfl rfl rfl rfl rfl rfl rfl ⟨rfl, rfl, rfl, rfl, rfl⟩ rfl rfl rfl rfl rfl (by kernel_rfl) Try.func5 (by kernel_rfl)
    (of_decide_eq_true (by kernel_rfl)) (by unfold Func.isWrapper; first | (rw [if_pos (by decide +kernel)]; kernel_rfl) | (rw [if_neg (by decide +kernel)]; exact ⟨rfl, rfl⟩))
    (fun os started H enc _ => lifted os started H enc)

theorem proved : Rows.MergeThinsSaid := over
end Go.Proofs.Ytbnacopefclklaa.mergeThins
namespace Go.Proofs.Ytbnacopefclklaa
theorem mergeThins_holds : Rows.MergeThinsSaid := mergeThins.proved
#print axioms mergeThins_holds
end Go.Proofs.Ytbnacopefclklaa
