/-
  The law MergeRows holds: whatever rows and number are handed in, many rows become one, and those that count are told, as the document says; they stay, and what is answered is new memory.
-/
import Derived.Test.YtbnacopefclklaaJ08
import Derived.Test.YtbnacopefclklaaRows
import Derived.WalkKit
import Derived.ProofKit
import Derived.OpenShut
import Derived.ShutString
import Derived.ChangeOld
import Derived.Below
import Derived.SizedLaws
namespace Go.Proofs.Ytbnacopefclklaa
open Go.RowKit Go.WideShapes

/-- What New answers. -/
structure NewOut (w : World) (p : Value) (L : List EntV) (E : Nat) (w' : World) : Prop where
  bel : Below w.heap.size w w'
  bad : E ≠ 0 → p = .pointer none
  good : E = 0 → ∃ g, p = .pointer (some ⟨g, 0, none⟩) ∧ CurIn w' w.heap.size g L
theorem live_rise {ls : List (List EntV)} {s : Int} {L : List EntV} {E : Nat} (h : liveE ls s = (L, E)) : RiseE L := by
  unfold liveE at h
  split at h
  · rw [Prod.mk.injEq] at h; rw [← h.1]; exact List.Pairwise.nil
  · rename_i h0
    split at h
    · rw [Prod.mk.injEq] at h
      rw [← h.1]
      obtain ⟨A, F, hA⟩ : ∃ A F, allE ls = (A, F) := ⟨_, _, rfl⟩
      rw [hA] at h0 ⊢
      exact countE_rise (allE_ok hA (by simpa using h0)).1 s
    · rw [Prod.mk.injEq] at h; rw [← h.1]; exact List.Pairwise.nil
set_option maxRecDepth 8000 in
set_option maxHeartbeats 4000000 in
theorem curNew_any (q : Option Addr) (n c : Nat) (R : List RV) (s : Int) (k : ByteArray) (w : World) (h : RowsL w q n R) (hnb : (n : Int) ≤ 9223372036854775807) (hkb : (k.size : Int) ≤ 9223372036854775807) (L : List EntV) (E : Nat) (hE : fromE (lsR R) s k = (L, E)) :
    Calls Try.prog 23 #[.slice q n c, .int .i64 s, .string k] w fun e w' => ∃ p, e = .returned (.tuple #[p, .int .i64 (E : Int)]) ∧ NewOut w p L E w' := by
  obtain ⟨A, F, hA⟩ : ∃ A F, liveE (lsR R) s = (A, F) := ⟨_, _, rfl⟩
  have HE : Hid ((if F ≠ 0 then ([], F) else if 256 < k.size then ([], 3) else (A.filter (fun x => !ltB x.key k), 0)) = (L, E)) := by
    show _ = _
    rw [← hE]
    unfold fromE
    rw [hA]
  have HRS : Hid (RiseE A ∧ A.length ≤ 16384) := ⟨live_rise hA, by have := liveE_len (lsR R) s; rw [hA] at this; exact this⟩
  have HAL := Live_any q n c R s (w.alloc (.cells #[.string k] 9)) (h.below (below_alloc _ _)) hnb A F hA
  have HK : Hid ((k.size : Int) ≤ 9223372036854775807) := hkb
  clear h hnb hE hA hkb
  go_enter Try.func23, Try.ntmps23
  go_wp2_with fail
  refine HAL.mono ?_
  rintro e w1 ⟨v1, rfl, h1⟩
  obtain ⟨q1, m1, rfl, hl1, hm1, hq1⟩ := h1.own.form
  have hbw : Below w.heap.size w w1 := below_bt (below_alloc _ _) h1.bel
  have h5 : w1.heap[w.heap.size]? = some (.cells #[.string k] 9 (0, 0)) := block_belowR (heap_alloc_new _ _) h1.bel
  obtain ⟨m, hm⟩ : ∃ m, A.length = m := ⟨_, rfl⟩
  have HN : Hid (A.length = m ∧ m ≤ m1 ∧ m1 ≤ maxLen ∧ (q1 = none → m1 = 0)) := ⟨hm, by omega, hm1, hq1⟩
  rw [hm]
  have hba : Below w1.heap.size w1 (w1.alloc (.cells #[.slice q1 m m1] 25)) := below_alloc _ _
  have h1' := h1.own
  rw [hm] at h1'
  have H1 : Hid (EOwn (w1.alloc (.cells #[.slice q1 m m1] 25)) w.heap.size (.slice q1 m m1) A ∧ Below w.heap.size w (w1.alloc (.cells #[.slice q1 m m1] 25)) ∧ (w1.alloc (.cells #[.slice q1 m m1] 25)).heap[w.heap.size]? = some (.cells #[.string k] 9 (0, 0)) ∧ (w1.alloc (.cells #[.slice q1 m m1] 25)).heap[w1.heap.size]? = some (.cells #[.slice q1 m m1] 25 (0, 0))) := ⟨own_base (own_below h1' hba) (by simp), below_bt hbw hba, block_belowR h5 hba, heap_alloc_new _ _⟩
  clear HAL h1 h1' hl1 hm1 hq1 hbw h5 hba
  by_cases hF : F = 0
  · subst hF
    by_cases hk : 256 < k.size
    · have hv := HE.out
      rw [if_neg (by simp), if_pos hk, Prod.mk.injEq] at hv
      obtain ⟨rfl, rfl⟩ := hv
      have c5 : (w1.alloc (.cells #[.slice q1 m m1] 25)).cell? ⟨w.heap.size, 0, none⟩ = some (.string k) := Lib.cell_of_heap H1.out.2.2.1 0
      have hkI : (256 : Int) < (k.size : Int) := by omega
      clear hk hm
      go_wp2
      go_ret2
      exact ⟨_, rfl, H1.out.2.1, fun _ => rfl, fun (h : 3 = 0) => absurd h (by decide)⟩
    · have hv := HE.out
      rw [if_neg (by simp), if_neg hk, Prod.mk.injEq, keyF_drop HRS.out.1] at hv
      obtain ⟨hv, rfl⟩ := hv
      have c5 : (w1.alloc (.cells #[.slice q1 m m1] 25)).cell? ⟨w.heap.size, 0, none⟩ = some (.string k) := Lib.cell_of_heap H1.out.2.2.1 0
      have c8 : (w1.alloc (.cells #[.slice q1 m m1] 25)).cell? ⟨w1.heap.size, 0, none⟩ = some (.slice q1 m m1) := Lib.cell_of_heap H1.out.2.2.2 0
      have hkI : (k.size : Int) ≤ 256 := by omega
      obtain ⟨f, hf⟩ : ∃ f, keyF A k = f := ⟨_, rfl⟩
      have HS := searchK_any m f (fun i => !ltB (A.getD i zeroE).key k) (.pointer (some ⟨w1.heap.size, 0, none⟩)) (.pointer (some ⟨w.heap.size, 0, none⟩)) (w1.alloc (.cells #[.slice q1 m m1] 25)) (by have := HRS.out; omega) (by rw [← hf, ← hm]; exact keyF_le A k) (fun t ht => by rw [keyF_lo (by omega)]; rfl) (fun t h1 h2 => by rw [keyF_hi HRS.out.1 (by omega) (by omega)]; rfl) (fun i w' hi hb => newFn_any w1.heap.size w.heap.size q1 m m1 A k i w' (block_belowR H1.out.2.2.2 hb) (block_belowR H1.out.2.2.1 hb) ⟨hm.symm, H1.out.1.ents.below hb⟩ (by omega) _ rfl)
      obtain ⟨p', hcut, hdrop, hp'⟩ := cutE_from q1 m m1 f A hm.symm HN.out.2.1 (by rw [← hf, ← hm]; exact keyF_le A k) HN.out.2.2.2
      have HV : Hid (A.drop f = L ∧ f ≤ m) := ⟨by rw [← hf]; exact hv, by rw [← hf, ← hm]; exact keyF_le A k⟩
      obtain ⟨n2, hn2⟩ : ∃ n2, m - f = n2 := ⟨_, rfl⟩
      obtain ⟨c2, hc2⟩ : ∃ c2, m1 - f = c2 := ⟨_, rfl⟩
      rw [hn2, hc2] at hcut
      have HQ : Hid ((∀ w, EntsIn w q1 A → EntsIn w p' (A.drop f)) ∧ (p' = none → c2 = 0) ∧ n2 = (A.drop f).length ∧ n2 ≤ c2 ∧ c2 ≤ maxLen) := ⟨hdrop, fun h => by have := hp' h; omega, by rw [List.length_drop]; omega, by have := HN.out; omega, by have := HN.out; omega⟩
      have HBK : Hid (∀ a, p' = some a → ∃ o s, q1 = some ⟨a.block, o, s⟩) := by
        intro a ha
        have h0 := hcut w
        rw [run_slice_l w 25 q1 m m1 (by kernel_rfl) .i64 f (by omega) (by have := HV.out; omega)] at h0
        have hs : (sizeOf (Try.prog.elem 25)).run Try.prog w = .ok 4 w := by kernel_rfl
        rw [hs] at h0
        simp only [Result.andThen, Result.ok.injEq, and_true] at h0
        have h1 : (Value.slice (if m1 = f then q1 else q1.map (·.add (f * 4))) (m - f) (m1 - f)) = Value.slice p' n2 c2 := h0
        simp only [Value.slice.injEq] at h1
        have h2 := h1.1
        rw [ha] at h2
        cases q1 with
        | none => split at h2 <;> simp at h2
        | some b =>
          split at h2
          · simp only [Option.some.injEq] at h2
            subst h2
            exact ⟨_, _, rfl⟩
          · simp only [Option.map_some, Option.some.injEq] at h2
            subst h2
            refine ⟨b.off, b.spot, ?_⟩
            unfold Addr.add
            split <;> rfl
      clear hv hk hf hm hdrop hp' hn2 hc2
      go_wp2_with fail
      refine HS.mono ?_
      rintro e w3 ⟨rfl, hb3⟩
      have c8' : w3.cell? ⟨w1.heap.size, 0, none⟩ = some (.slice q1 m m1) := Lib.cell_of_heap (block_belowR H1.out.2.2.2 hb3) 0
      have H3 : Hid (EOwn w3 w.heap.size (.slice q1 m m1) A ∧ Below w.heap.size w w3) := ⟨own_below H1.out.1 hb3, below_bt H1.out.2.1 hb3⟩
      clear c8 c5 hb3 HS
      go_wp2
      go_ret2
      refine ⟨_, rfl, below_bt H3.out.2 (below_alloc _ _), (fun h => absurd rfl h), ?_⟩
      refine fun _ => ⟨w3.heap.size, rfl, p', n2, c2, heap_alloc_new _ _, H3.out.2.size, by rw [← HV.out.1]; exact HQ.out.2.2.1, by rw [← HV.out.1]; exact HQ.out.1 _ (EntsIn.below H3.out.1.ents (below_alloc _ _)), HQ.out.2.2.2.1, HQ.out.2.2.2.2, HQ.out.2.1, fun a ha => ?_⟩
      obtain ⟨o, sp, hq⟩ := HBK.out a ha
      rcases H3.out.1.2 with ⟨hv, _⟩ | ⟨g', cap, cur, hv, hb, hgg, _⟩
      · rw [hq] at hv; cases hv
      · rw [hq] at hv
        simp only [Value.slice.injEq, Option.some.injEq, Addr.mk.injEq] at hv
        rw [hv.1.1]
        exact ⟨hb, cur, _, block_belowR hgg (below_alloc _ _)⟩
  · have e1 : ((F : Int) != 0) = true := by simp; omega
    have e1' : ((F : Int) == 0) = false := by simp; omega
    have hv := HE.out
    rw [if_pos hF, Prod.mk.injEq] at hv
    obtain ⟨rfl, rfl⟩ := hv
    have HF : Hid (F ≠ 0) := hF
    clear hF hm
    go_wp2
    go_ret2
    exact ⟨_, rfl, H1.out.2.1, fun _ => rfl, fun h => absurd h HF.out⟩
/-! ### Next -/
set_option maxHeartbeats 1000000 in
theorem next_nil (w : World) : Calls Try.prog 13 #[.pointer none] w fun e w' => e = .returned (.tuple #[entV zeroE, .bool false, .int .i64 1]) ∧ Below w.heap.size w w' := by
  go_enter Try.func13, Try.ntmps13
  go_wp2
  (try simp only [Exit.inBlock, Exit.then])
  refine bodyPost_ret (v := .tuple #[entV zeroE, .bool false, .int .i64 1]) ?_ rfl ⟨rfl, ?_⟩
  · rw [results_cell_tmp2 rfl]
    go_simp
    rfl
  · exact below_alloc _ _
set_option maxHeartbeats 1000000 in
theorem next_plain (g : Nat) (v : Value) (w : World) (h : w.heap[g]? = some (.cells #[.bool false, v] 34 (0, 0))) : Calls Try.prog 13 #[.pointer (some ⟨g, 0, none⟩)] w fun e w' => e = .returned (.tuple #[entV zeroE, .bool false, .int .i64 1]) ∧ Below w.heap.size w w' := by
  have c0 : (w.alloc (.cells zE 23)).cell? ⟨g, 0, none⟩ = some (.bool false) := Lib.cell_of_heap (block_belowR h (below_alloc _ _)) 0
  clear h
  go_enter Try.func13, Try.ntmps13
  go_wp2
  (try simp only [Exit.inBlock, Exit.then])
  refine bodyPost_ret (v := .tuple #[entV zeroE, .bool false, .int .i64 1]) ?_ rfl ⟨rfl, ?_⟩
  · rw [results_cell_tmp2 rfl]
    go_simp
    rfl
  · exact below_alloc _ _
end Go.Proofs.Ytbnacopefclklaa
namespace Go.Proofs.Ytbnacopefclklaa
open Go.RowKit Go.WideShapes

/-- What Newest answers of an entry's own key, where its number is not above. -/
theorem newest_own {l : List EntV} (hr : RiseE l) {k : Nat} (hk : k < l.length) {s : Int} (hs : (l.getD k zeroE).seq ≤ s) : ∃ y, newL l (l.getD k zeroE).key s = (y, true) ∧ (newAt l k s = true ↔ y = l.getD k zeroE) := by
  obtain ⟨y, b, h⟩ : ∃ y b, newL l (l.getD k zeroE).key s = (y, b) := ⟨_, _, rfl⟩
  cases b with
  | false => exact absurd ⟨rfl, hs⟩ ((newL_no h).2 _ (getD_mem' hk))
  | true =>
    refine ⟨y, h, ?_⟩
    rw [newAt_iff hr hk, newB_iff hr (getD_mem' hk), h]
    simp
set_option maxRecDepth 8000 in
set_option maxHeartbeats 4000000 in
theorem rCount_any (q : Option Addr) (n c : Nat) (A : List EntV) (s : Int) (w : World) (h : EntsL w q n A) (hr : RiseE A) (hlen : n ≤ 16384) :
    Calls Try.prog 34 #[.slice q n c, .int .i64 s] w fun e w' => ∃ v, e = .returned v ∧ OnB w v (countE A s) w' := by
  have H1 : Hid (EntsIn w q A) := h.lies
  have HM : Hid (A.length = n) := h.n.symm
  have HR : Hid (RiseE A) := hr
  have mI : (n : Int) ≤ 16384 := by omega
  clear h hr
  go_enter Try.func34, Try.ntmps34
  go_wp2
  go_loopw [5, 6] (fun s5 s6 wr => ∃ k : Nat, s6 = .int .i64 (k : Int) ∧ k ≤ n ∧ EOwn wr w.heap.size s5 (pickE (fun i => countAt A i s) A k) ∧ Below w.heap.size w wr) (fun _ s6 _ => n - (intOf s6).toNat)
  case atStart => exact ⟨0, rfl, by omega, eown_nil _ _, Below.refl _ _⟩
  case round =>
    obtain ⟨k, rfl, hk, ho, hbel⟩ := hrel
    obtain ⟨qo, co, rfl, _, _, _⟩ := ho.form
    have HO : Hid (EOwn wr w.heap.size (.slice qo (pickE (fun i => countAt A i s) A k).length co) (pickE (fun i => countAt A i s) A k) ∧ Below w.heap.size w wr) := ⟨ho, hbel⟩
    obtain ⟨P, hP⟩ : ∃ P, pickE (fun i => countAt A i s) A k = P := ⟨_, rfl⟩
    have HP : Hid (pickE (fun i => countAt A i s) A k = P ∧ P.length ≤ 16384) := ⟨hP, by rw [← hP]; have := pickE_len (fun i => countAt A i s) A k; omega⟩
    rw [hP] at HO ⊢
    obtain ⟨lp, hlp⟩ : ∃ lp, P.length = lp := ⟨_, rfl⟩
    have HLP : Hid (P.length = lp) := hlp
    rw [hlp] at HO ⊢
    clear hP hlp ho hbel
    by_cases hkm : k < n
    · have hkI : (k : Int) < (n : Int) := by omega
      have k0 : (0 : Int) ≤ (k : Int) := by omega
      have HKM : Hid (k < n) := hkm
      have hen := H1.out.below HO.out.2
      obtain ⟨b, o, rfl⟩ := hen.addr (by have := HM.out; omega)
      obtain ⟨x0, x1, x2, x3⟩ := hen.at (k := k) (by have := HM.out; omega)
      have hnw := fun hs => newest_own (s := s) HR.out (k := k) (by have := HM.out; omega) hs
      have hca : countAt A k s = (newAt A k s && !(A.getD k zeroE).gone) := rfl
      have hna : newAt A k s = true → (A.getD k zeroE).seq ≤ s := fun h => ((newAt_iff HR.out (by have := HM.out; omega) s).1 h).1
      obtain ⟨⟨kb, vb, sb, db⟩, hx⟩ : ∃ x, A.getD k zeroE = x := ⟨_, rfl⟩
      rw [hx] at x0 x1 x2 x3 hnw hca hna
      simp only at x0 x1 x2 x3 hnw hca hna
      have HX : Hid (A.getD k zeroE = ⟨kb, vb, sb, db⟩) := hx
      have HNO : Hid (countAt A k s = false → ∀ w2, Below wr.heap.size wr w2 → EOwn w2 w.heap.size (.slice qo lp co) (pickE (fun i => countAt A i s) A (k + 1)) ∧ Below w.heap.size w w2) := by
        intro hno w2 hb2
        rw [pickE_no (p := fun i => countAt A i s) hno, HP.out.1]
        exact ⟨HO.out.1.below hb2, below_bt HO.out.2 hb2⟩
      by_cases hse : sb ≤ s
      · have g1 : decide (s < sb) = false := decide_eq_false (by omega)
        have g2 : ¬ (s < sb) := by omega
        cases db with
        | true =>
          have H2 : Hid (EOwn wr w.heap.size (.slice qo lp co) (pickE (fun i => countAt A i s) A (k + 1)) ∧ Below w.heap.size w wr) := HNO.out (by rw [hca]; simp) wr (Below.refl _ _)
          clear hen hx hkm hk hnw hca hna hse
          go_wp2
          go_roundw
          case rel => exact ⟨k + 1, by go_num, by have := HKM.out; omega, H2.out⟩
          case measure => have := HKM.out; simp [intOf]; omega
        | false =>
          obtain ⟨y, hy, hiff⟩ := hnw hse
          have HNW := rNewest_any (some ⟨b, o, none⟩) n c A kb s wr ⟨HM.out.symm, hen⟩ (by omega) y true hy
          by_cases hye : y = ⟨kb, vb, sb, false⟩
          · have HT : Hid (countAt A k s = true) := by show _ = _; rw [hca, hiff.2 hye]; rfl
            subst hye
            have HEN : Hid (EntsIn wr (some ⟨b, o, none⟩) A) := hen
            rw [entV_def] at HNW
            clear hen hx hkm hk hnw hca hna hse hy hiff x0 x1 x2 x3
            obtain ⟨x0, x1, x2, x3⟩ := HEN.out.at (k := k) (by have := HM.out; have := HKM.out; omega)
            rw [HX.out] at x0 x1 x2 x3
            simp only at x0 x1 x2 x3
            go_wp2_with fail
            refine HNW.mono ?_
            rintro e w3 ⟨rfl, hb3⟩
            clear x0 x1 x2 x3
            have hb4 := below_bt hb3 (below_alloc w3 (.cells #[.string kb, .string vb, .int .i64 sb, .bool false] 23))
            obtain ⟨x0, x1, x2, x3⟩ := (HEN.out.below hb4).at (k := k) (by have := HM.out; have := HKM.out; omega)
            rw [HX.out] at x0 x1 x2 x3
            simp only at x0 x1 x2 x3
            obtain ⟨z0, z1, z2, z3⟩ := four_cells (heap_alloc_new w3 (.cells #[.string kb, .string vb, .int .i64 sb, .bool false] 23))
            have HB3 : Hid (Below wr.heap.size wr (w3.alloc (.cells #[.string kb, .string vb, .int .i64 sb, .bool false] 23))) := hb4
            clear hb3 hb4 HNW
            go_wp2
            go_quiet (fail)
            have HA3 : Hid (∀ j, EOwn (((w3.alloc (.cells #[.string kb, .string vb, .int .i64 sb, .bool false] 23)).drewN j).alloc (.cells #[.string kb, .string vb, .int .i64 sb, .bool false] 23)) w.heap.size (.slice qo lp co) P ∧ w.heap.size ≤ (((w3.alloc (.cells #[.string kb, .string vb, .int .i64 sb, .bool false] 23)).drewN j).alloc (.cells #[.string kb, .string vb, .int .i64 sb, .bool false] 23)).heap.size ∧ Below w.heap.size w (((w3.alloc (.cells #[.string kb, .string vb, .int .i64 sb, .bool false] 23)).drewN j).alloc (.cells #[.string kb, .string vb, .int .i64 sb, .bool false] 23))) := fun j => ⟨((HO.out.1.below HB3.out).below (below_drewN (Below.refl _ _) j)).below (below_alloc _ _), (below_bt (below_drewN (below_bt HO.out.2 HB3.out) j) (below_alloc _ _)).size, below_bt (below_drewN (below_bt HO.out.2 HB3.out) j) (below_alloc _ _)⟩
            have HE1 : Hid (∀ j, EntsIn (((w3.alloc (.cells #[.string kb, .string vb, .int .i64 sb, .bool false] 23)).drewN j).alloc (.cells #[.string kb, .string vb, .int .i64 sb, .bool false] 23)) (some ⟨w3.heap.size + 1, 0, none⟩) [⟨kb, vb, sb, false⟩]) := fun j => by
              have h := ents_new ((w3.alloc (.cells #[.string kb, .string vb, .int .i64 sb, .bool false] 23)).drewN j) kb vb sb false
              rw [show ((w3.alloc (.cells #[.string kb, .string vb, .int .i64 sb, .bool false] 23)).drewN j).heap.size = w3.heap.size + 1 by simp] at h
              exact h
            have HPK : Hid (pickE (fun i => countAt A i s) A (k + 1) = P ++ [⟨kb, vb, sb, false⟩]) := by
              show _ = _
              rw [pickE_yes (p := fun i => countAt A i s) HT.out, HX.out, HP.out.1]
            go_wp2_with (at_builtin; go_loud ((refine wpList_append_two _ rfl _ _ rfl w.heap.size (.slice qo lp co) P [⟨kb, vb, sb, false⟩] (some ⟨w3.heap.size + 1, 0, none⟩) 1 1 rfl rfl rfl (HA3.out _).1 (HE1.out _) (fun h => by cases h) (by have := HP.out.2; simp only [List.length_cons, List.length_nil]; omega) (HA3.out _).2.1 ?_); intro v5 w5 ho5 hg5; have H5 : Hid _ := And.intro ho5 (ents_grownE (HA3.out _).1 hg5 (HA3.out _).2.2 (Nat.le_refl _)); clear ho5 hg5))
            go_roundw
            case rel => exact ⟨k + 1, by go_num, by have := HKM.out; omega, by rw [HPK.out]; exact H5.out.1, H5.out.2⟩
            case measure => have := HKM.out; simp [intOf]; omega
          · have hno : countAt A k s = false := by
              rw [hca]
              cases hn : newAt A k s with
              | false => rfl
              | true => exact absurd (hiff.1 hn) hye
            obtain ⟨ka, va, sa, da⟩ := y
            have hne := ent_ne hye
            simp only at hne
            have HEN : Hid (EntsIn wr (some ⟨b, o, none⟩) A) := hen
            have HNO2 : Hid (∀ w2, Below wr.heap.size wr w2 → EOwn w2 w.heap.size (.slice qo lp co) (pickE (fun i => countAt A i s) A (k + 1)) ∧ Below w.heap.size w w2) := HNO.out hno
            rw [entV_def] at HNW
            clear hen hx hkm hk hnw hca hna hse hy hiff hye hno
            go_wp2_with fail
            refine HNW.mono ?_
            rintro e w3 ⟨rfl, hb3⟩
            clear x0 x1 x2 x3
            have hb4 := below_bt hb3 (below_alloc w3 (.cells #[.string ka, .string va, .int .i64 sa, .bool da] 23))
            obtain ⟨x0, x1, x2, x3⟩ := (HEN.out.below hb4).at (k := k) (by have := HM.out; have := HKM.out; omega)
            rw [HX.out] at x0 x1 x2 x3
            simp only at x0 x1 x2 x3
            obtain ⟨z0, z1, z2, z3⟩ := four_cells (heap_alloc_new w3 (.cells #[.string ka, .string va, .int .i64 sa, .bool da] 23))
            have HB3 : Hid (Below wr.heap.size wr (w3.alloc (.cells #[.string ka, .string va, .int .i64 sa, .bool da] 23))) := hb4
            obtain ⟨db, hdb⟩ : ∃ db, db = false := ⟨_, rfl⟩
            rw [← hdb] at hne
            have hne' := hne
            clear hb3 hb4 HNW hne
            subst hdb
            rcases hne' with h1 | ⟨h1, h2⟩ | ⟨h1, h2, h3⟩ | ⟨h1, h2, h3, h4⟩
            · have f1 : (ka.toList == kb.toList) = false := by rw [eq_str]; simp [h1]
              clear h1
              go_wp2
              go_quiet (fail)
              go_wp2
              go_roundw
              case rel => exact ⟨k + 1, by go_num, by have := HKM.out; omega, HNO2.out _ (below_drewN HB3.out _)⟩
              case measure => have := HKM.out; simp [intOf]; omega
            · have f1 : (ka.toList == kb.toList) = true := by rw [eq_str]; simp [h1]
              have f2 : (va.toList == vb.toList) = false := by rw [eq_str]; simp [h2]
              clear h1 h2
              go_wp2
              go_quiet (fail)
              go_wp2
              go_roundw
              case rel => exact ⟨k + 1, by go_num, by have := HKM.out; omega, HNO2.out _ (below_drewN HB3.out _)⟩
              case measure => have := HKM.out; simp [intOf]; omega
            · have f1 : (ka.toList == kb.toList) = true := by rw [eq_str]; simp [h1]
              have f2 : (va.toList == vb.toList) = true := by rw [eq_str]; simp [h2]
              have f3 : (sa == sb) = false := by simp [h3]
              clear h1 h2 h3
              go_wp2
              go_quiet (fail)
              go_wp2
              go_roundw
              case rel => exact ⟨k + 1, by go_num, by have := HKM.out; omega, HNO2.out _ (below_drewN HB3.out _)⟩
              case measure => have := HKM.out; simp [intOf]; omega
            · have f1 : (ka.toList == kb.toList) = true := by rw [eq_str]; simp [h1]
              have f2 : (va.toList == vb.toList) = true := by rw [eq_str]; simp [h2]
              have f3 : (sa == sb) = true := by simp [h3]
              have f4 : (da == false) = false := by simpa using h4
              clear h1 h2 h3 h4
              go_wp2
              go_quiet (fail)
              go_wp2
              go_roundw
              case rel => exact ⟨k + 1, by go_num, by have := HKM.out; omega, HNO2.out _ (below_drewN HB3.out _)⟩
              case measure => have := HKM.out; simp [intOf]; omega
      · have g1 : decide (s < sb) = true := decide_eq_true (by omega)
        have g2 : s < sb := by omega
        have hno : countAt A k s = false := by
          rw [hca]
          cases hn : newAt A k s with
          | false => rfl
          | true => exact absurd (hna hn) hse
        have H2 : Hid (EOwn wr w.heap.size (.slice qo lp co) (pickE (fun i => countAt A i s) A (k + 1)) ∧ Below w.heap.size w wr) := HNO.out hno wr (Below.refl _ _)
        clear hen hx hkm hk hnw hca hna hse hno
        go_wp2
        go_roundw
        case rel => exact ⟨k + 1, by go_num, by have := HKM.out; omega, H2.out⟩
        case measure => have := HKM.out; simp [intOf]; omega
    · have hkI : (n : Int) ≤ (k : Int) := by omega
      have HZ : Hid (P = countE A s) := by
        show _ = _
        rw [← pick_count HR.out s, ← HP.out.1, HM.out]
        have : k = n := by omega
        rw [this]
      clear hkm hk
      go_wp2
      go_ret
      exact ⟨_, rfl, by rw [← HZ.out]; exact HO.out.1, HO.out.2⟩
set_option maxRecDepth 8000 in
set_option maxHeartbeats 2000000 in
theorem rLive_any (q : Option Addr) (n c : Nat) (R : List RV) (s : Int) (w : World) (h : RowsL w q n R) (hnb : (n : Int) ≤ 9223372036854775807) (L : List EntV) (E : Nat) (hE : liveE (lsR R) s = (L, E)) :
    Calls Try.prog 19 #[.slice q n c, .int .i64 s] w fun e w' => ∃ v, e = .returned (.tuple #[v, .int .i64 (E : Int)]) ∧ OnB w v L w' := by
  obtain ⟨A, F, hA⟩ : ∃ A F, allE (lsR R) = (A, F) := ⟨_, _, rfl⟩
  have HAL := rAll_any q n c R w h hnb A F hA
  have HE : Hid ((if F ≠ 0 then ([], F) else if 0 ≤ s ∧ s ≤ 2147483647 then (countE A s, 0) else ([], 2)) = (L, E)) := by
    show _ = _
    rw [← hE]
    unfold liveE
    rw [hA]
  have HA : Hid (allE (lsR R) = (A, F)) := hA
  clear h hnb hE hA
  go_enter Try.func19, Try.ntmps19
  go_wp2_with fail
  refine HAL.mono ?_
  rintro e w1 ⟨v1, rfl, h1⟩
  obtain ⟨q1, m1, rfl, hlm, _, hq1⟩ := h1.own.form
  have H1 : Hid (EOwn w1 w.heap.size (.slice q1 A.length m1) A ∧ Below w.heap.size w w1) := ⟨h1.own, h1.bel⟩
  clear HAL h1
  by_cases hF : F = 0
  · subst hF
    obtain ⟨r1, r2, r3⟩ := allE_ok HA.out rfl
    have hl : A.length ≤ 16384 := by rw [r2.length_eq]; exact (chkR_zero.1 r3).2.2
    obtain ⟨m, hm⟩ : ∃ m, A.length = m := ⟨_, rfl⟩
    rw [hm] at H1 ⊢
    have HC := rCount_any q1 m m1 A s w1 ⟨hm.symm, H1.out.1.ents⟩ r1 (by omega)
    clear r1 r2 r3 hlm hq1
    by_cases h0 : 0 ≤ s
    · have g0 : decide (s < 0) = false := decide_eq_false (by omega)
      by_cases h2 : s ≤ 2147483647
      · have g2 : decide (2147483647 < s) = false := decide_eq_false (by omega)
        have hv := HE.out
        rw [if_neg (by simp), if_pos ⟨h0, h2⟩, Prod.mk.injEq] at hv
        obtain ⟨rfl, rfl⟩ := hv
        clear hl hm
        go_wp2_with fail
        refine HC.mono ?_
        rintro e w2 ⟨v2, rfl, h2⟩
        have H2 : Hid (EOwn w2 w.heap.size v2 (countE A s) ∧ Below w.heap.size w w2) := ⟨own_base h2.own H1.out.2.size, below_bt H1.out.2 h2.bel⟩
        clear h2 HC
        go_wp2
        go_ret2
        exact ⟨_, rfl, H2.out.1, H2.out.2⟩
      · have g2 : decide (2147483647 < s) = true := decide_eq_true (by omega)
        have g2' : 2147483647 < s := by omega
        have hv := HE.out
        rw [if_neg (by simp), if_neg (fun hh => h2 hh.2), Prod.mk.injEq] at hv
        obtain ⟨rfl, rfl⟩ := hv
        clear hl hm HC h2
        go_wp2
        go_ret2
        exact ⟨_, rfl, eown_nil _ _, H1.out.2⟩
    · have g0 : decide (s < 0) = true := decide_eq_true (by omega)
      have g0' : s < 0 := by omega
      have hv := HE.out
      rw [if_neg (by simp), if_neg (fun hh => h0 hh.1), Prod.mk.injEq] at hv
      obtain ⟨rfl, rfl⟩ := hv
      clear hl hm HC h0
      go_wp2
      go_ret2
      exact ⟨_, rfl, eown_nil _ _, H1.out.2⟩
  · have e1 : ((F : Int) != 0) = true := by simp; omega
    have e1' : ((F : Int) == 0) = false := by simp; omega
    have hv := HE.out
    rw [if_pos hF, Prod.mk.injEq] at hv
    obtain ⟨rfl, rfl⟩ := hv
    clear hF hlm hq1
    go_wp2
    go_ret2
    exact ⟨_, rfl, eown_nil _ _, H1.out.2⟩
end Go.Proofs.Ytbnacopefclklaa
namespace Go.Proofs.Ytbnacopefclklaa
open Go.RowKit Go.WideShapes

/-- Rows of one's own: each row's entries in a block of their own from a number on. -/
structure TwIn (w : World) (base : Nat) (T : List RV) : Prop where
  out : ∀ t ∈ T, EOwn w base (rvV t) t.l ∧ t.n = t.l.length
theorem EOwn.rowOk {w : World} {base : Nat} {t : RV} (h : EOwn w base (rvV t) t.l) : RowOk w t := by
  obtain ⟨q, m, e, h1, h2, h3⟩ := h.form
  obtain ⟨tq, tn, tc, tl⟩ := t
  simp only [rvV, Value.slice.injEq] at e h h1
  obtain ⟨rfl, rfl, rfl⟩ := e
  exact ⟨rfl, h.ents, h1, h2, h3⟩
/-- Twins: the same entries. -/
structure Tw (w0 w : World) (R T : List RV) : Prop where
  ls : T.map RV.l = R.map RV.l
  own : ∀ t ∈ T, EOwn w w0.heap.size (rvV t) t.l
theorem Tw.len {w0 w : World} {R T : List RV} (h : Tw w0 w R T) : T.length = R.length := by have := congrArg List.length h.ls; simpa using this
theorem Tw.below {w0 w w' : World} {R T : List RV} (h : Tw w0 w R T) (hb : Below w.heap.size w w') : Tw w0 w' R T := ⟨h.ls, fun t ht => (h.own t ht).below hb⟩
/-- Entries in a block of type entry stay where a row of rows grows. -/
theorem EOwn.grownR {w w' : World} {b1 b2 n : Nat} {v v2 : Value} {L : List EntV} {xs : List Value} (h : EOwn w b1 v L) (ho : w.ownsRow b2 25 1 v2 n xs) (hg : w.grownBy w' v2.ownBlock) : EOwn w' b1 v L := by
  refine World.ownsRow.kept h hg ?_
  cases h3 : v.ownBlock with
  | none => exact .inl rfl
  | some k =>
    right
    rcases h.2 with ⟨hv, _⟩ | ⟨g, cap, cur, hv, _, hgg, _⟩
    · rw [hv] at h3; cases h3
    · rw [hv] at h3
      simp only [Value.ownBlock, Option.some.injEq] at h3
      subst h3
      exact fun e => own_neS ho hgg (by decide) e.symm
set_option maxRecDepth 8000 in
set_option maxHeartbeats 4000000 in
theorem rTwin_any (q : Option Addr) (n c : Nat) (R : List RV) (w : World) (h : RowsL w q n R) (hn : R.length ≤ 100) (hsz : (entsR R).length ≤ 6000) :
    Calls Try.prog 17 #[.slice q n c] w fun e w' => ∃ p m cc T, e = .returned (.slice p m cc) ∧ RowsL w' p m T ∧ T.length ≤ cc ∧ Tw w w' R T ∧ Below w.heap.size w w' := by
  have HL : Hid (RowsL w q n R ∧ R.length ≤ 100 ∧ (entsR R).length ≤ 6000) := ⟨h, hn, hsz⟩
  have nI : (n : Int) ≤ 100 := by have := h.n; omega
  clear h hn hsz
  go_enter Try.func17, Try.ntmps17
  go_wp2
  go_loopw [3, 4] (fun s3 s4 wr => ∃ (k : Nat) (T : List RV), s4 = .int .i64 (k : Int) ∧ k ≤ n ∧ wr.ownsRow w.heap.size 25 1 s3 T.length (T.map rvV) ∧ Tw w wr (R.take k) T ∧ Below w.heap.size w wr) (fun _ s4 _ => n - (intOf s4).toNat)
  case atStart => exact ⟨0, [], rfl, by omega, World.ownsRow_nil _ _ _ _, ⟨by simp, by simp⟩, Below.refl _ _⟩
  case round =>
    obtain ⟨k, T, rfl, hk, ho, htw, hbel⟩ := hrel
    obtain ⟨qt, ct, rfl, hlt, hct, hqt⟩ := own_form ho
    have HO : Hid (wr.ownsRow w.heap.size 25 1 (.slice qt T.length ct) T.length (T.map rvV) ∧ Tw w wr (R.take k) T ∧ Below w.heap.size w wr ∧ T.length ≤ ct) := ⟨ho, htw, hbel, hlt⟩
    obtain ⟨lt, hlt'⟩ : ∃ lt, T.length = lt := ⟨_, rfl⟩
    have HLT : Hid (T.length = lt) := hlt'
    rw [hlt'] at ho ⊢
    by_cases hkn : k < n
    · have hkI : (k : Int) < (n : Int) := by omega
      have k0 : (0 : Int) ≤ (k : Int) := by omega
      have hkR : k < R.length := by have := HL.out.1.n; omega
      obtain ⟨b, o, rfl, hc⟩ := (HL.out.1.below hbel).at hkR
      have hro := (HL.out.1.each _ (getR_mem hkR)).below hbel
      have hle : (R.getD k zR).l.length ≤ 6000 := by
        have h1 := sumR_succ hkR
        have h2 : (entsR (R.take (k + 1))).length ≤ (entsR R).length := by
          conv => rhs; rw [← List.take_append_drop (k + 1) R, entsR_app, List.length_append]
          omega
        have := HL.out.2.2
        omega
      have hts := takeR_succ hkR
      obtain ⟨⟨qr, nr, cr, lr⟩, hr⟩ : ∃ r, R.getD k zR = r := ⟨_, rfl⟩
      rw [hr] at hc hro hle hts
      simp only at hle
      rw [show rvV ⟨qr, nr, cr, lr⟩ = .slice qr nr cr from rfl] at hc
      have HR : Hid (EntsIn wr qr lr ∧ nr = lr.length ∧ (qr = none → cr = 0) ∧ lr.length ≤ 6000 ∧ R.take (k + 1) = R.take k ++ [⟨qr, nr, cr, lr⟩] ∧ k < n) := ⟨hro.lies, hro.n, hro.q, hle, hts, hkn⟩
      have HT100 : Hid (T.length ≤ 1000) := by show _ ≤ _; have h1 := HO.out.2.1.len; rw [List.length_take] at h1; have := HL.out.2.1; omega
      clear ho htw hbel hlt hct hqt hlt' hkn hkR hro hle hts hr hk
      go_wp2_with (first
        | (at_builtin; go_loud ((refine wpList_append_ents _ rfl _ _ rfl wr.heap.size lr qr nr cr rfl rfl HR.out.2.1 HR.out.1 HR.out.2.2.1 (by have := HR.out.2.2.2.1; omega) (Nat.le_refl _) ?_); intro v5 w5 ho5 hg5; obtain ⟨q5, c5, hv5, hl5, hm5, hn5⟩ := ho5.form; subst hv5; have hb5 := grown_below hg5; have hb6 := below_bt hb5 (below_alloc w5 (.cells #[.slice q5 lr.length c5] 25)); have H6 : Hid ((w5.alloc (.cells #[.slice q5 lr.length c5] 25)).ownsRow w.heap.size 25 1 (.slice qt lt ct) T.length (T.map rvV) ∧ EOwn (w5.alloc (.cells #[.slice q5 lr.length c5] 25)) wr.heap.size (.slice q5 lr.length c5) lr ∧ Tw w (w5.alloc (.cells #[.slice q5 lr.length c5] 25)) (R.take k) T ∧ Below w.heap.size w (w5.alloc (.cells #[.slice q5 lr.length c5] 25)) ∧ w.heap.size ≤ (w5.alloc (.cells #[.slice q5 lr.length c5] 25)).heap.size ∧ (w5.alloc (.cells #[.slice q5 lr.length c5] 25)).cell? ⟨w5.heap.size, 0, none⟩ = some (rvV ⟨q5, lr.length, c5, lr⟩)) := ⟨HLT.out ▸ own_below HO.out.1 hb6, ho5.below (below_alloc _ _), HO.out.2.1.below hb6, below_bt HO.out.2.2.1 hb6, (below_bt HO.out.2.2.1 hb6).size, Lib.cell_of_heap (heap_alloc_new w5 _) 0⟩; clear ho5 hg5 hb5 hb6 hl5 hm5 hn5))
        | (at_builtin; go_loud ((refine wpList_pushR _ rfl _ _ rfl w.heap.size (.slice qt lt ct) T ⟨q5, lr.length, c5, lr⟩ w5.heap.size rfl rfl H6.out.1 H6.out.2.2.2.2.2 HT100.out H6.out.2.2.2.2.1 ?_); intro v7 w7 ho7 hg7; have H7 : Hid (w7.ownsRow w.heap.size 25 1 v7 (T ++ [(⟨q5, lr.length, c5, lr⟩ : RV)]).length ((T ++ [(⟨q5, lr.length, c5, lr⟩ : RV)]).map rvV) ∧ Tw w w7 (R.take (k + 1)) (T ++ [(⟨q5, lr.length, c5, lr⟩ : RV)]) ∧ Below w.heap.size w w7) := ⟨ho7, ⟨by rw [HR.out.2.2.2.2.1, List.map_append, List.map_append, H6.out.2.2.1.ls]; rfl, fun t ht => by
              rcases List.mem_append.1 ht with ht | ht
              · exact (H6.out.2.2.1.own t ht).grownR H6.out.1 hg7
              · rw [List.mem_singleton.1 ht]
                exact own_base (EOwn.grownR H6.out.2.1 H6.out.1 hg7) HO.out.2.2.1.size⟩, H6.out.2.2.2.1.grown hg7 H6.out.2.2.2.1.size (fun k hk => (World.ownsRow.lt H6.out.1 k hk).1)⟩; clear ho7 hg7)))
      go_roundw
      case rel => exact ⟨k + 1, _, by go_num, by have := HR.out.2.2.2.2.2; omega, H7.out⟩
      case measure => have := HR.out.2.2.2.2.2; simp [intOf]; omega
    · have hkI : (n : Int) ≤ (k : Int) := by omega
      have HZ : Hid (RowsL wr qt lt T ∧ T.length ≤ ct ∧ Tw w wr R T ∧ Below w.heap.size w wr) := by
        have e : R.take k = R := List.take_of_length_le (by have := HL.out.1.n; omega)
        have h1 := HO.out
        rw [e] at h1
        refine ⟨⟨hlt'.symm, ?_, fun t ht => (h1.2.1.own t ht).rowOk⟩, h1.2.2.2, h1.2.1, h1.2.2.1⟩
        have h2 := h1.1
        rw [hlt'] at h2
        have h3 := rows_own (w := wr) (base := w.heap.size) (q := qt) (n := lt) (c := ct) (R := T) (by rw [hlt']; exact h2)
        exact h3
      clear ho htw hbel hlt hct hqt hlt' hkn hk
      go_wp2
      go_ret
      exact ⟨_, _, _, T, rfl, HZ.out⟩
set_option maxRecDepth 8000 in
set_option maxHeartbeats 2000000 in
theorem rSameR_yes (qa qb : Option Addr) (n ca cb : Nat) (R T : List RV) (w : World) (ha : RowsL w qa n R) (hb : RowsL w qb n T) (he : T.map RV.l = R.map RV.l) (hnb : n ≤ 1000) (hsz : ∀ r ∈ R, r.l.length ≤ 1000000) :
    Calls Try.prog 21 #[.slice qa n ca, .slice qb n cb] w fun e w' => e = .returned (.bool true) ∧ Below w.heap.size w w' := by
  have HA : Hid (RowsL w qa n R ∧ RowsL w qb n T ∧ T.map RV.l = R.map RV.l ∧ ∀ r ∈ R, r.l.length ≤ 1000000) := ⟨ha, hb, he, hsz⟩
  have nI : (n : Int) ≤ 1000 := by omega
  clear ha hb he hsz
  go_enter Try.func21, Try.ntmps21
  go_wp2
  go_loopw [5] (fun i wr => ∃ k : Nat, k ≤ n ∧ i = .int .i64 k ∧ Below w.heap.size w wr) (fun i _ => n - (intOf i).toNat)
  case atStart => exact ⟨0, by omega, rfl, Below.refl _ _⟩
  case round =>
    obtain ⟨k, hk, rfl, hbel⟩ := hrel
    have HBE : Hid (Below w.heap.size w wr) := hbel
    clear hbel
    by_cases hkn : k < n
    · have hkI : (k : Int) < (n : Int) := by omega
      have k0 : (0 : Int) ≤ (k : Int) := by omega
      have hkR : k < R.length := by have := HA.out.1.n; omega
      have hkT : k < T.length := by have := HA.out.2.1.n; omega
      obtain ⟨ba, oa, rfl, hca⟩ := (HA.out.1.below HBE.out).at hkR
      obtain ⟨bb, ob, rfl, hcb⟩ := (HA.out.2.1.below HBE.out).at hkT
      have hra := (HA.out.1.each _ (getR_mem hkR)).below HBE.out
      have hrb := (HA.out.2.1.each _ (getR_mem hkT)).below HBE.out
      have hll : (T.getD k zR).l = (R.getD k zR).l := by
        have h1 := congrArg (fun l => l.getD k []) HA.out.2.2.1
        simpa [List.getD_eq_getElem?_getD, List.getElem?_eq_getElem hkR, List.getElem?_eq_getElem hkT] using h1
      have hlen := HA.out.2.2.2 _ (getR_mem hkR)
      obtain ⟨⟨qr, nr, cr, lr⟩, hr⟩ : ∃ r, R.getD k zR = r := ⟨_, rfl⟩
      obtain ⟨⟨qt, nt, ct, lt⟩, ht⟩ : ∃ r, T.getD k zR = r := ⟨_, rfl⟩
      rw [hr] at hca hra hll hlen
      rw [ht] at hcb hrb hll
      simp only at hll hlen
      subst hll
      rw [show rvV ⟨qr, nr, cr, lt⟩ = .slice qr nr cr from rfl] at hca
      rw [show rvV ⟨qt, nt, ct, lt⟩ = .slice qt nt ct from rfl] at hcb
      have hnn : nt = nr := by have h1 := hra.n; have h2 := hrb.n; simp only at h1 h2; omega
      subst hnn
      have HCA : Hid (wr.cell? ⟨ba, oa + k, none⟩ = some (.slice qr nt cr)) := hca
      have HCB : Hid (wr.cell? ⟨bb, ob + k, none⟩ = some (.slice qt nt ct)) := hcb
      have HEA : Hid (EntsIn wr qr lt ∧ EntsIn wr qt lt ∧ nt = lt.length ∧ lt.length ≤ 1000000) := ⟨hra.lies, hrb.lies, hra.n, hlen⟩
      have HSM := fun w' (hb : Below wr.heap.size wr w') => rsame_yes qr qt nt cr ct lt w' HEA.out.2.2.1 (by have := HEA.out; omega) (HEA.out.1.below hb) (HEA.out.2.1.below hb)
      have HKN : Hid (k < n) := hkn
      clear hca hcb hra hrb hlen hr ht hkR hkT hk hkn
      go_wp2
      go_region_held3 (fun w' => w'.cell? ⟨ba, oa + k, none⟩ = some (.slice qr nt cr) ∧ w'.cell? ⟨bb, ob + k, none⟩ = some (.slice qt nt ct) ∧ Below wr.heap.size wr w')
        (with_reducible first | exact ⟨HCA.out, HCB.out, Below.refl _ _⟩ | exact ⟨cell_below HCA.out (Below.refl _ _).drew, cell_below HCB.out (Below.refl _ _).drew, (Below.refl _ _).drew⟩ | exact ⟨cell_below HCA.out (below_dw (by assumption)), cell_below HCB.out (below_dw (by assumption)), below_dw (by assumption)⟩ | assumption)
        (first
          | (go_at_call 20; refine (HSM _ (Below.refl _ _).drew).mono ?_; rintro e w3 ⟨rfl, hb3⟩)
          | fail)
      rename_i hh
      have HB3 : Hid (Below w.heap.size w w3) := below_bt HBE.out hh.2.2
      clear hh HSM
      go_wp2
      go_roundw
      case rel => exact ⟨k + 1, by have := HKN.out; omega, by go_num, HB3.out⟩
      case measure => have := HKN.out; simp [intOf]; omega
    · have hkI : (n : Int) ≤ (k : Int) := by omega
      go_wp2
      go_ret
      exact ⟨rfl, HBE.out⟩
end Go.Proofs.Ytbnacopefclklaa
namespace Go.Proofs.Ytbnacopefclklaa.mergeRows
open Go.ChangeShapes Go.WideShapes Go.ChangeAt Go.RowKit
open Go.ChangeMaps (open_string shut_string)
set_option linter.unusedVariables false

theorem own : ownKnob Try.prog.godebug = none := by kernel_rfl
theorem laidOut : laidOutB Try.prog = true := by kernel_rfl

open Go.Joins
/-- What was answered is written over: all else stays. -/
structure OnZ (w0 : World) (g m : Nat) (wr : World) : Prop where
  bel : Below w0.heap.size w0 wr
  blk : ∃ cur, wr.heap[g]? = some (.cells cur 23 (0, 0)) ∧ m * 4 ≤ cur.size
theorem OnZ.cells {w0 wr : World} {g m i : Nat} (h : OnZ w0 g m wr) (hi : i < m * 4) : (∃ v, wr.cell? ⟨g, i, none⟩ = some v) ∧ wr.frozen? ⟨g, i, none⟩ = false := by
  obtain ⟨cur, h1, h2⟩ := h.blk
  exact ⟨⟨cur[i]'(by omega), (cell_of_row wr g i cur _ _ h1).trans (Array.getElem?_eq_getElem _)⟩, frozen_row h1 i⟩
theorem OnZ.set {w0 wr : World} {g m i : Nat} (h : OnZ w0 g m wr) (hg : w0.heap.size ≤ g) (v : Value) : OnZ w0 g m (wr.setCell ⟨g, i, none⟩ v) := by
  obtain ⟨cur, h1, h2⟩ := h.blk
  exact ⟨h.bel.setCell (p := ⟨g, i, none⟩) hg v, _, heap_setCell_same wr g i _ _ v h1, by simpa using h2⟩
set_option maxRecDepth 8000 in
set_option maxHeartbeats 8000000 in
theorem walk (v : Value) (R : List RV) (s : Int) (W : World) (hv : RowsA W v R) (hs : (Lit.int .i64 s).wf = true) :
    Calls Try.prog 4 #[v, .int .i64 s] W fun e W' => e = .returned (.bool true) ∧ Below W.heap.size W W' := by
  obtain ⟨q, c, rfl, hR, hlc, hcm, hqn⟩ := hv.lies
  obtain ⟨n, hn⟩ : ∃ n, R.length = n := ⟨_, rfl⟩
  rw [hn] at hR hlc ⊢
  have HR : Hid (RowsL W q n R ∧ ∀ r ∈ R, r.n ≤ 3000000000000) := ⟨hR, hv.small⟩
  have HNM : Hid ((n : Int) ≤ 9223372036854775807) := by unfold maxLen at hcm; show (n : Int) ≤ _; omega
  have HHV := heavy_any q n c R W hR hv.small HNM.out
  have HN : Hid (R.length = n) := hn
  clear hv hR hlc hcm hqn hn hs
  go_enter Try.func4, Try.ntmps4
  go_wp2_with fail
  refine HHV.mono ?_
  rintro e w2 ⟨vh, rfl, hh, hb2⟩
  have HB2 : Hid (Below W.heap.size W w2) := hb2
  obtain ⟨b, rfl, hhb⟩ := hh.out
  clear HHV hb2 hh
  cases b with
  | true =>
    clear hhb
    go_wp2
    go_ret
    exact ⟨rfl, HB2.out⟩
  | false =>
  obtain ⟨k1, k2, _⟩ := hhb rfl
  have HSZ : Hid (R.length ≤ 100 ∧ (entsR R).length ≤ 6000) := ⟨k1, k2⟩
  have HTW := rTwin_any q n c R w2 (HR.out.1.below HB2.out) k1 k2
  have HLE : Hid (∀ r ∈ R, r.l.length ≤ 1000000) := by
    intro r hr
    have : r.l.length ≤ (entsR R).length := by
      unfold entsR
      obtain ⟨i, hi, rfl⟩ := List.mem_iff_getElem.1 hr
      have h1 := sumR_succ hi
      have h2 : (entsR (R.take (i + 1))).length ≤ (entsR R).length := by
        conv => rhs; rw [← List.take_append_drop (i + 1) R, entsR_app, List.length_append]
        omega
      rw [List.getD_eq_getElem?_getD, List.getElem?_eq_getElem hi] at h1
      simp only [Option.getD_some] at h1
      unfold entsR at h1 h2
      omega
    omega
  clear hhb k1 k2
  go_wp2_with fail
  refine HTW.mono ?_
  rintro e w3 ⟨pt, mt, ct, T, rfl, hrt, htc, htw, hb3⟩
  have hmt : mt = n := by rw [hrt.n, htw.len]; exact HN.out
  subst hmt
  have hls : lsR T = lsR R := htw.ls
  have HT : Hid (RowsL w3 pt mt T ∧ T.map RV.l = R.map RV.l ∧ Below W.heap.size W w3) := ⟨hrt, htw.ls, below_bt HB2.out hb3⟩
  obtain ⟨A, E, hA⟩ : ∃ A E, allE (lsR R) = (A, E) := ⟨_, _, rfl⟩
  obtain ⟨L, F, hL⟩ : ∃ L F, liveE (lsR R) s = (L, F) := ⟨_, _, rfl⟩
  have HE : Hid (allE (lsR R) = (A, E) ∧ liveE (lsR R) s = (L, F) ∧ allE (lsR T) = (A, E) ∧ liveE (lsR T) s = (L, F)) := ⟨hA, hL, by rw [hls]; exact hA, by rw [hls]; exact hL⟩
  have HA16 : Hid (A.length ≤ 16384 ∧ L.length ≤ 16384) := ⟨by have := allE_len (ls := lsR R); rw [hA] at this; exact this, by have := liveE_len (lsR R) s; rw [hL] at this; exact this⟩
  have HA1 := All_any pt mt ct T w3 hrt HNM.out A E HE.out.2.2.1
  clear HTW hrt htc htw hb3 hls hA hL
  go_wp2_with fail
  refine HA1.mono ?_
  rintro e w4 ⟨v4, rfl, h4⟩
  obtain ⟨q4, c4, rfl, _, _, _⟩ := h4.own.form
  have H4 : Hid (EOwn w4 w3.heap.size (.slice q4 A.length c4) A ∧ Below w3.heap.size w3 w4) := ⟨h4.own, h4.bel⟩
  have HA2 := rAll_any q mt c R w4 (HR.out.1.below (below_bt HT.out.2.2 h4.bel)) HNM.out A E HE.out.1
  obtain ⟨ma, hma⟩ : ∃ ma, A.length = ma := ⟨_, rfl⟩
  have HMA : Hid (A.length = ma ∧ ma ≤ 16384) := ⟨hma, by rw [← hma]; exact HA16.out.1⟩
  have maI : (ma : Int) ≤ 16384 := by have := HMA.out; omega
  rw [hma] at H4 ⊢
  clear HA1 h4
  go_wp2_with fail
  refine HA2.mono ?_
  rintro e w5 ⟨v5, rfl, h5⟩
  obtain ⟨q5, c5, rfl, _, _, _⟩ := h5.own.form
  have H5 : Hid (EOwn w5 w3.heap.size (.slice q4 ma c4) A ∧ EntsIn w5 q5 A ∧ Below w3.heap.size w3 w5) := ⟨H4.out.1.below h5.bel, h5.own.ents, below_bt H4.out.2 h5.bel⟩
  have HL1 := Live_any pt mt ct T s w5 (HT.out.1.below H5.out.2.2) HNM.out L F HE.out.2.2.2
  rw [hma]
  clear HA2 h5 H4 hma
  go_wp2_with fail
  refine HL1.mono ?_
  rintro e w6 ⟨v6, rfl, h6⟩
  obtain ⟨q6, c6, rfl, _, _, _⟩ := h6.own.form
  have H6 : Hid (EOwn w6 w3.heap.size (.slice q4 ma c4) A ∧ EntsIn w6 q5 A ∧ Below w3.heap.size w3 w6 ∧ EntsIn w6 q6 L) := ⟨H5.out.1.below h6.bel, H5.out.2.1.below h6.bel, below_bt H5.out.2.2 h6.bel, h6.own.ents⟩
  have HL2 := rLive_any q mt c R s w6 (HR.out.1.below (below_bt HT.out.2.2 H6.out.2.2.1)) HNM.out L F HE.out.2.1
  obtain ⟨ml, hml⟩ : ∃ ml, L.length = ml := ⟨_, rfl⟩
  have HML : Hid (L.length = ml ∧ ml ≤ 16384) := ⟨hml, by rw [← hml]; exact HA16.out.2⟩
  rw [hml]
  clear HL1 h6 H5
  go_wp2_with fail
  refine HL2.mono ?_
  rintro e w7 ⟨v7, rfl, h7⟩
  obtain ⟨q7, c7, rfl, _, _, _⟩ := h7.own.form
  have H7 : Hid (EOwn w7 w3.heap.size (.slice q4 ma c4) A ∧ EntsIn w7 q5 A ∧ Below w3.heap.size w3 w7 ∧ EntsIn w7 q6 L ∧ EntsIn w7 q7 L) := ⟨H6.out.1.below h7.bel, H6.out.2.1.below h7.bel, below_bt H6.out.2.2.1 h7.bel, H6.out.2.2.2.below h7.bel, h7.own.ents⟩
  have HS1 := rsame_yes q4 q5 ma c4 c5 A w7 HMA.out.1.symm (by have := HMA.out; omega) H7.out.1.ents H7.out.2.1
  rw [hml]
  clear HL2 h7 H6 hml
  go_wp2_with fail
  refine HS1.mono ?_
  rintro e w8 ⟨rfl, hb8⟩
  have H8 : Hid (EOwn w8 w3.heap.size (.slice q4 ma c4) A ∧ Below w3.heap.size w3 w8) := ⟨H7.out.1.below hb8, below_bt H7.out.2.2.1 hb8⟩
  have HS2 := rsame_yes q6 q7 ml c6 c7 L w8 HML.out.1.symm (by have := HML.out; omega) (H7.out.2.2.2.1.below hb8) (H7.out.2.2.2.2.below hb8)
  clear HS1 hb8 H7
  go_wp2_with fail
  refine HS2.mono ?_
  rintro e w9 ⟨rfl, hb9⟩
  have H9 : Hid (EOwn w9 w3.heap.size (.slice q4 ma c4) A ∧ Below w3.heap.size w3 w9) := ⟨H8.out.1.below hb9, below_bt H8.out.2 hb9⟩
  clear HS2 hb9 H8
  have HOZ : Hid (0 < ma → ∃ g, q4 = some ⟨g, 0, none⟩ ∧ w3.heap.size ≤ g ∧ OnZ w3 g ma w9) := fun h0 => by
    rcases H9.out.1.2 with ⟨_, h2⟩ | ⟨g, cap, cur, h1, h2, h3, h4, h5, h6, _⟩
    · have := HMA.out; omega
    · obtain ⟨e1, _, e3⟩ := Value.slice.inj h1
      exact ⟨g, e1, h2, H9.out.2, cur, h3, by rw [h6]; have := HMA.out; omega⟩
  have HSR : Hid (∀ w', Below w3.heap.size w3 w' → Calls Try.prog 21 #[.slice pt mt ct, .slice q mt c] w' fun e w'' => e = .returned (.bool true) ∧ Below w'.heap.size w' w'') := by
    intro w' hb
    refine rSameR_yes pt q mt ct c T R w' (HT.out.1.below hb) (HR.out.1.below (below_bt HT.out.2.2 hb)) HT.out.2.1.symm (by have := HSZ.out; have := HN.out; omega) (fun t ht => ?_)
    have : t.l ∈ R.map RV.l := by rw [← HT.out.2.1]; exact List.mem_map.2 ⟨t, ht, rfl⟩
    obtain ⟨r, hr, e⟩ := List.mem_map.1 this
    rw [← e]
    exact HLE.out r hr
  go_wp2
  rcases Nat.eq_zero_or_pos ma with hm0 | hm0
  · subst hm0
    go_loopw [14] (fun i wx => i = .int .i64 0 ∧ wx = w9) (fun _ _ => 0)
    case atStart => exact ⟨rfl, rfl⟩
    case round =>
      obtain ⟨rfl, rfl⟩ := hrel
      have hsr := HSR.out wr H9.out.2
      go_wp2_with fail
      refine hsr.mono ?_
      rintro e w10 ⟨rfl, hb10⟩
      have HB10 : Hid (Below W.heap.size W w10) := below_bt HT.out.2.2 (below_bt H9.out.2 hb10)
      clear hb10 hsr
      go_wp2
      go_ret
      exact ⟨rfl, HB10.out⟩
  · obtain ⟨g, rfl, hg, hoz⟩ := HOZ.out hm0
    have HG : Hid (w3.heap.size ≤ g) := hg
    have HOZ0 : Hid (OnZ w3 g ma w9) := hoz
    clear hg hoz hm0 HOZ
    go_loopw [14] (fun i wx => ∃ j : Nat, j ≤ ma ∧ i = .int .i64 (j : Int) ∧ OnZ w3 g ma wx) (fun i _ => ma - (intOf i).toNat)
    case atStart => exact ⟨0, by omega, rfl, HOZ0.out⟩
    case round =>
      obtain ⟨j, hj, rfl, hoz⟩ := hrel
      have HO : Hid (OnZ w3 g ma wr) := hoz
      clear hoz
      by_cases hjm : j < ma
      · have hjI : (j : Int) < (ma : Int) := by omega
        have hjI0 : (0 : Int) ≤ (j : Int) := by omega
        have HJ : Hid (j < ma) := hjm
        obtain ⟨⟨u0, c0⟩, f0⟩ := HO.out.cells (i := j * 4) (by omega)
        obtain ⟨⟨u1, c1'⟩, f1⟩ := HO.out.cells (i := j * 4 + 1) (by omega)
        obtain ⟨⟨u2, c2⟩, f2⟩ := HO.out.cells (i := j * 4 + 2) (by omega)
        obtain ⟨⟨u3, c3⟩, f3⟩ := HO.out.cells (i := j * 4 + 3) (by omega)
        clear hjm hj
        go_wp2
        go_roundw
        case rel => exact ⟨j + 1, HJ.out, by go_num, (((HO.out.set HG.out _).set HG.out _).set HG.out _).set HG.out _⟩
        case measure => have := HJ.out; simp [intOf]; omega
      · have hjI : (ma : Int) ≤ (j : Int) := by omega
        have hsr := HSR.out wr HO.out.bel
        clear hjm hj
        go_wp2_with fail
        refine hsr.mono ?_
        rintro e w10 ⟨rfl, hb10⟩
        have HB10 : Hid (Below W.heap.size W w10) := below_bt HT.out.2.2 (below_bt HO.out.bel hb10)
        clear hb10 hsr
        go_wp2
        go_ret
        exact ⟨rfl, HB10.out⟩

/-! ### THE ROW's STEP -/
set_option maxRecDepth 100000 in
theorem lifted (os : Os) (started : os.Started) (H : Type) (enc : TypeId × Value → H) :
    ReturnsInHanded {} Try.checked os 4 .any (Rows.mergeRowsSpec.pre6 enc Try.prog Try.f4 Rows.mergeRowsRow.domain false) (Rows.mergeRowsSpec.post enc Try.prog Try.f4 false true false false) := by
  refine returnsInHanded_of_change_sized (C := Try.checked) own started (by kernel_rfl) Try.func4
    (ChangeSpec.witness6 (enc := enc) (C := Try.checked) false ⟨#[], #[.slice none 0 0, .int .i64 0], []⟩ 8 (by kernel_rfl) (by kernel_rfl) (by kernel_rfl) (by kernel_rfl)) ?_
  intro W base args ds gs before hval0 hW hcnd hsz0 _
  have hval : ∀ (j : Nat) t v, Try.f4.params[j]? = some t → args[j]? = some v → Value.okWide Try.prog W .any base t v := hval0
  have hW' := hW
  obtain ⟨p, q, hA0, hV, rfl, hfz, hnd⟩ := hW
  have hA : DataW.TrodAll enc Try.prog W 0 (fun _ => true) true Try.f4.params.toList args.toList ds p := hA0
  have hsz : (DataW.weightsEach Try.prog (Try.f4.params.toList ++ Rows.mergeRowsSpec.plain.varTypes Try.prog) (ds ++ gs)).all (· ≤ reachBytes) = true := hsz0
  rw [Try.params4] at hA hval hsz
  obtain ⟨v0, vs0, d0, ds0, p0, q0, hargs, rfl, rfl, h0, r0⟩ := trodAll_cons hA
  obtain ⟨v1, vs1, d1, ds1, p1, q1, rfl, rfl, rfl, h1, r1⟩ := trodAll_cons r0
  obtain ⟨rfl, rfl, rfl⟩ := trodAll_nil r1
  obtain rfl : args = #[v0, v1] := by cases args; simp_all
  obtain ⟨rfl, rfl⟩ := trodVars_none hV
  have k0 := h0
  have lt0 : ∀ x ∈ p0, x.block < W.heap.size := by obtain ⟨m, hm⟩ := k0; exact DataW.trod_lt m _ _ _ hm
  obtain ⟨qa0, la0, ca0, rfl⟩ := okWide_slice Try.underlying26 (hval 0 26 v0 rfl rfl)
  obtain ⟨fu0, hf0⟩ := h0
  obtain ⟨R0, w0⟩ := open_rows Try.underlying26 (by kernel_rfl) Try.underlying25 Try.underlying23 (by kernel_rfl) rfl rfl rfl rfl (by kernel_rfl) (by kernel_rfl) (by kernel_rfl) (by kernel_rfl) Try.underlying9 Try.underlying9 Try.underlying3 Try.underlying4 (by kernel_rfl) hf0 (fun k hk => by simpa using List.all_eq_true.1 hsz k (DataW.weights_mem_each (j := 0) (t := 26) rfl rfl k hk))
  obtain ⟨a1, rfl, rfl, rfl, w1⟩ := open_int Try.underlying3 (hval 1 3 v1 rfl rfl) h1
  clear hA0 hval0
  refine (walk (.slice qa0 la0 ca0) R0 a1 W w0 w1).mono fun e W' ⟨he, bel⟩ => ?_
  subst he
  exact ⟨_, rfl, _, _, _, [], _, [], hW', trodAll_mk1 (shut_bool Try.underlying4 _), (trodAll_cons_mk (Below.trod laidOut (by kernel_rfl) (of_decide_eq_true (by kernel_rfl)) k0 bel lt0) (trodAll_cons_mk (shut_int Try.underlying3 w1) trodAll_mk0)), rfl, bel.frame _, fun h => by cases h⟩

theorem over : Rows.mergeRowsRow.holds Try.pinned (OpenSpec.ofChange Rows.mergeRowsSpec) :=
  OpenClaim.holds_of_wide 4 Try.f4 rfl rfl rfl rfl rfl rfl rfl ⟨rfl, rfl, rfl, rfl, rfl⟩ rfl rfl rfl rfl rfl (by kernel_rfl) Try.func4 (by kernel_rfl)
    (of_decide_eq_true (by kernel_rfl)) (by unfold Func.isWrapper; first | (rw [if_pos (by decide +kernel)]; kernel_rfl) | (rw [if_neg (by decide +kernel)]; exact ⟨rfl, rfl⟩))
    (fun os started H enc _ => lifted os started H enc)

theorem proved : Rows.MergeRowsSaid := over
end Go.Proofs.Ytbnacopefclklaa.mergeRows
namespace Go.Proofs.Ytbnacopefclklaa
theorem mergeRows_holds : Rows.MergeRowsSaid := mergeRows.proved
#print axioms mergeRows_holds
end Go.Proofs.Ytbnacopefclklaa
