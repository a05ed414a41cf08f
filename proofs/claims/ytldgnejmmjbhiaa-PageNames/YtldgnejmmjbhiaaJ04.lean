/-
  The law PageNames answers true: the limits and errors have their numbers, and the chapter's examples are so.
-/
import Derived.Test.YtldgnejmmjbhiaaJ03
import Derived.Test.YtldgnejmmjbhiaaRows
import Derived.WalkKit
import Derived.ProofKit
import Derived.OpenShut
import Derived.ShutString
import Derived.ChangeOld
import Derived.Below
namespace Go.Proofs.Ytldgnejmmjbhiaa
open Go.RowKit Go.WideShapes

theorem cut_to (p : Option Addr) (n c k : Nat) (hk : k ≤ c) : ∀ w, (Instr.slice 22 (.slice p n c) none (some (.int .i64 (k : Int))) none).run Try.prog w = .ok (.slice p k c) w := by
  intro w
  rw [run_slice_h w 22 p n c (by kernel_rfl) .i64 k (by omega) (by omega)]
  have hs : (sizeOf (Try.prog.elem 22)).run Try.prog w = .ok 1 w := by kernel_rfl
  rw [hs]
  have e2 : (if c = 0 then p else p.map (·.add (0 * 1))) = p := by
    split
    · rfl
    · cases p with
      | none => rfl
      | some a => rw [Option.map_some, Nat.zero_mul]; rcases a with ⟨b, o, s⟩; cases s <;> simp [Addr.add]
  show Result.ok (Value.slice (if c = 0 then p else p.map (·.add (0 * 1))) (k - 0) (c - 0)) w = _
  rw [e2]
  rfl
/-- What Read answers. -/
def ReadOut (xs : List Nat) (base : Nat) (e : Ending) (w' : World) : Prop :=
  (∃ l v, readE xs = some l ∧ e = .returned (.tuple #[v, .int .i64 0]) ∧ EOwn w' base v l) ∨ (readE xs = none ∧ e = .returned (.tuple #[.slice none 0 0, .int .i64 8]))
theorem readE_len {xs : List Nat} (h : xs.length < 4 ∨ 65536 < xs.length) : readE xs = none := by unfold readE; rw [if_pos h]
theorem readE_sum {xs : List Nat} (h : ¬ (xs.length < 4 ∨ 65536 < xs.length)) (hs : ¬ xs.drop (xs.length - 4) = sum4 (xs.take (xs.length - 4))) : readE xs = none := by unfold readE; rw [if_neg h, if_neg hs]
theorem readE_cut {xs : List Nat} (h : ¬ (xs.length < 4 ∨ 65536 < xs.length)) (hs : xs.drop (xs.length - 4) = sum4 (xs.take (xs.length - 4))) (hc : cutE (xs.take (xs.length - 4)) = none) : readE xs = none := by unfold readE; rw [if_neg h, if_pos hs, hc]
theorem readE_chk {xs : List Nat} (h : ¬ (xs.length < 4 ∨ 65536 < xs.length)) (hs : xs.drop (xs.length - 4) = sum4 (xs.take (xs.length - 4))) {l : List EntV} (hc : cutE (xs.take (xs.length - 4)) = some l) : readE xs = if checkE l = 0 then some l else none := by unfold readE; rw [if_neg h, if_pos hs, hc]
set_option maxRecDepth 8000 in
set_option maxHeartbeats 1000000 in
theorem Read_any (p : Option Addr) (n c : Nat) (xs : List Nat) (w : World) (hn : n = xs.length) (hb : BIn w p xs) (hc : n ≤ c ∧ c ≤ maxLen ∧ (p = none → c = 0)) :
    Calls Try.prog 19 #[.slice p n c] w fun e w' => ReadOut xs w.heap.size e w' ∧ Below w.heap.size w w' := by
  by_cases h1 : n < 4
  · have g1 : (n : Int) < 4 := by omega
    have HN : Hid (readE xs = none) := readE_len (by omega)
    clear h1 hb hc hn
    go_enter Try.func19, Try.ntmps19
    go_wp2
    go_ret2
    exact ⟨.inr ⟨HN.out, rfl⟩, Below.refl _ _⟩
  by_cases h2 : 65536 < n
  · have g1 : (4 : Int) ≤ (n : Int) := by omega
    have g2 : (65536 : Int) < (n : Int) := by omega
    have HN : Hid (readE xs = none) := readE_len (by omega)
    clear h1 h2 hb hc hn
    go_enter Try.func19, Try.ntmps19
    go_wp2
    go_ret2
    exact ⟨.inr ⟨HN.out, rfl⟩, Below.refl _ _⟩
  have hlen : ¬ (xs.length < 4 ∨ 65536 < xs.length) := by omega
  obtain ⟨z, hz⟩ : ∃ z, n - 4 = z := ⟨_, rfl⟩
  have hxz : xs.length - 4 = z := by omega
  have hw : IntKind.i64.wrap ((n : Int) - 4) = (z : Int) := by rw [IntKind.wrap_i64]; omega
  obtain ⟨p', hs1, hbn, hpn, _⟩ := cut_from p n c z xs hn hc.1 (by omega) hc.2.2
  have hs2 := cut_to p n c z (by omega)
  have ht : (xs.take z).length = z := by rw [List.length_take]; omega
  have HSM : Hid (∀ w', Below w.heap.size w w' → Calls Try.prog 25 #[.slice p z c] w' fun e w2 => ∃ g, e = .returned (.slice (some ⟨g, 0, none⟩) 4 8) ∧ BIn w2 (some ⟨g, 0, none⟩) (sum4 (xs.take z)) ∧ Below w'.heap.size w' w2) := fun w' h => sum_page p z c (xs.take z) w' ht.symm ((hb.below h).take' z) (by omega)
  have HBD : Hid (∀ w', Below w.heap.size w w' → BIn w' p' (xs.drop z) ∧ n - z = (xs.drop z).length) := fun w' h => ⟨hbn w' (hb.below h), by rw [List.length_drop, hn]⟩
  have HCU : Hid (∀ w', Below w.heap.size w w' → Calls Try.prog 32 #[.slice p z c] w' fun e w2 => CutOut (xs.take z) w'.heap.size e w2 ∧ Below w'.heap.size w' w2) := fun w' h => cutEntries_any p z c (xs.take z) w' ht.symm ((hb.below h).take' z) ⟨by omega, hc.2⟩ (by omega)
  have g1 : (4 : Int) ≤ (n : Int) := by omega
  have g2 : (n : Int) ≤ 65536 := by omega
  have HL : Hid (¬ (xs.length < 4 ∨ 65536 < xs.length) ∧ xs.length - 4 = z) := ⟨hlen, hxz⟩
  obtain ⟨r, hr⟩ : ∃ r, decide (xs.drop z = sum4 (xs.take z)) = r := ⟨_, rfl⟩
  have HRR : Hid (decide (xs.drop z = sum4 (xs.take z)) = r) := hr
  clear h1 h2 hb hc hn hz hxz hbn hpn ht hlen hr
  go_enter Try.func19, Try.ntmps19
  go_upto_region 4 with fail
  go_cut [26] from 18 (fun j wx => j = .bool (!r) ∧ Below w.heap.size w wx)
  case first =>
    go_region_with (first | (go_at_call 25; refine (HSM.out _ (Below.refl _ _).drew).mono ?_; rintro e w2 ⟨g4, rfl, hi4, hb4⟩; have hb5 := below_dw hb4; have HEQ := equal_any p' (some ⟨g4, 0, none⟩) (n - z) 4 (c - z) 8 _ _ w2 (HBD.out _ hb5).1 hi4 (HBD.out _ hb5).2 rfl r HRR.out; have HB5 : Hid (Below w.heap.size w w2) := hb5; clear hb4 hb5 hi4) | (go_at_call 31; refine HEQ.mono ?_; rintro e w6 ⟨rfl, rfl⟩))
    all_goals go_wp2
    all_goals go_meet
    all_goals exact ⟨rfl, HB5.out⟩
  case rest =>
    obtain ⟨rfl, hb3⟩ := hcut
    have HB3 : Hid (Below w.heap.size w wc) := hb3
    clear hb3 HSM HBD
    cases r with
    | false =>
      have HN : Hid (readE xs = none) := readE_sum HL.out.1 (by rw [HL.out.2]; exact of_decide_eq_false HRR.out)
      go_wp2
      go_ret2
      exact ⟨.inr ⟨HN.out, rfl⟩, HB3.out⟩
    | true =>
      go_wp2_with fail
      refine (HCU.out _ HB3.out).mono ?_
      rintro e w4 ⟨hcut, hb4⟩
      have HB4 : Hid (Below w.heap.size w w4) := below_bt HB3.out hb4
      rcases hcut with ⟨l, v, hce, rfl, hown⟩ | ⟨q, m, cq, hce, rfl⟩
      · obtain ⟨q, cq, rfl, _, _, _⟩ := hown.form
        obtain ⟨C, hC⟩ : ∃ C, checkE l = C := ⟨_, rfl⟩
        have HCH := Check_any q l.length cq l w4 ⟨rfl, hown.ents⟩ C hC
        have HRE : Hid (readE xs = if C = 0 then some l else none) := by
          show _ = _
          rw [readE_chk HL.out.1 (by rw [HL.out.2]; exact of_decide_eq_true HRR.out) (l := l) (by rw [HL.out.2]; exact hce), hC]
        have HOW : Hid (EOwn w4 w.heap.size (.slice q l.length cq) l) := own_mono hown HB3.out.size
        clear hown hce hC hb4
        go_wp2_with fail
        refine HCH.mono ?_
        rintro e w5 ⟨rfl, hb5⟩
        have HB5 : Hid (Below w.heap.size w w5) := below_bt HB4.out hb5
        have HO5 : Hid (EOwn w5 w.heap.size (.slice q l.length cq) l) := HOW.out.below hb5
        clear hb5 HCH HOW
        rcases Nat.eq_zero_or_pos C with h0 | h0
        · subst h0
          have HN : Hid (readE xs = some l) := by show _ = _; rw [HRE.out, if_pos rfl]
          go_wp2
          go_ret2
          exact ⟨.inl ⟨l, _, HN.out, rfl, HO5.out⟩, HB5.out⟩
        · have hne : ((C : Int) != 0) = true := by simp; omega
          have HN : Hid (readE xs = none) := by show _ = _; rw [HRE.out, if_neg (by omega)]
          clear h0
          go_wp2
          go_ret2
          exact ⟨.inr ⟨HN.out, rfl⟩, HB5.out⟩
      · have HN : Hid (readE xs = none) := readE_cut HL.out.1 (by rw [HL.out.2]; exact of_decide_eq_true HRR.out) (by rw [HL.out.2]; exact hce)
        clear hce hb4
        go_wp2
        go_ret2
        exact ⟨.inr ⟨HN.out, rfl⟩, HB4.out⟩
end Go.Proofs.Ytldgnejmmjbhiaa
namespace Go.Proofs.Ytldgnejmmjbhiaa
open Go.RowKit Go.WideShapes

theorem results_cell_tmp2 {fn : Func} {p t u : Tmp} {ty : TypeId} (h : fn.results = #[.cell p ty, .tmp t, .tmp u]) (tmps : Array Value) (P : Program) (w : World) :
    (results fn tmps).run P w = ((asAddr (tmps.getD p undef)).run P w).andThen fun a w₁ => ((loadVar ty a).run P w₁).andThen fun v w₂ => .ok (.tuple #[v, tmps.getD t undef, tmps.getD u undef]) w₂ := by
  simp only [results, h]
  simp [Sem.run_bind, Result.andThen]
theorem set4_below {w w' : World} {a b c d : Value} (h : Below w.heap.size w w') : Below w.heap.size w ((((w'.setCell ⟨w.heap.size, 0, none⟩ a).setCell ⟨w.heap.size, 1, none⟩ b).setCell ⟨w.heap.size, 2, none⟩ c).setCell ⟨w.heap.size, 3, none⟩ d) := (((h.setCell (Nat.le_refl _) _).setCell (Nat.le_refl _) _).setCell (Nat.le_refl _) _).setCell (Nat.le_refl _) _
/-- The first entry with a key. -/
def findE : List EntV → ByteArray → Option EntV
  | [], _ => none
  | x :: l, k => if x.key = k then some x else findE l k
def findR (xs : List Nat) (k : ByteArray) : EntV × Bool × Nat :=
  match readE xs with
  | none => (zeroE, false, 8)
  | some l => if isKeyB k = false then (zeroE, false, 60) else match findE l k with | some x => (x, true, 0) | none => (zeroE, false, 0)
theorem findR_bad {xs : List Nat} (k : ByteArray) (h : readE xs = none) : findR xs k = (zeroE, false, 8) := by unfold findR; rw [h]
theorem findR_key {xs : List Nat} {l : List EntV} {k : ByteArray} (h : readE xs = some l) (hk : isKeyB k = false) : findR xs k = (zeroE, false, 60) := by unfold findR; rw [h]; simp only; rw [if_pos hk]
def pickR : Option EntV → EntV × Bool × Nat
  | some x => (x, true, 0)
  | none => (zeroE, false, 0)
theorem findR_ok {xs : List Nat} {l : List EntV} {k : ByteArray} (h : readE xs = some l) (hk : isKeyB k = true) : findR xs k = pickR (findE l k) := by
  unfold findR
  rw [h]
  simp only
  rw [if_neg (by simp [hk])]
  cases findE l k <;> rfl
theorem findE_at {l : List EntV} {i : Nat} (h : i < l.length) {y : EntV} (hy : l.getD i zeroE = y) (k : ByteArray) : findE (l.drop i) k = if y.key = k then some y else findE (l.drop (i + 1)) k := by
  rw [dropE h, hy]; rfl
set_option maxRecDepth 8000 in
set_option maxHeartbeats 1000000 in
theorem Find_any (p : Option Addr) (n c : Nat) (xs : List Nat) (key : ByteArray) (w : World) (hn : n = xs.length) (hb : BIn w p xs) (hc : n ≤ c ∧ c ≤ maxLen ∧ (p = none → c = 0)) (y : EntV) (is : Bool) (E : Nat) (hR : findR xs key = (y, is, E)) :
    Calls Try.prog 10 #[.slice p n c, .string key] w fun e w' => e = .returned (.tuple #[entV y, .bool is, .int .i64 (E : Int)]) ∧ Below w.heap.size w w' := by
  have HRD := Read_any p n c xs (w.alloc (.cells zE 27)) hn (hb.alloc _) hc
  have HR : Hid (findR xs key = (y, is, E)) := hR
  obtain ⟨r, hr⟩ : ∃ r, isKeyB key = r := ⟨_, rfl⟩
  have HIK := fun w' => isKey_any key w' r hr
  have HRK : Hid (isKeyB key = r) := hr
  have HBA : Hid (Below w.heap.size w (w.alloc (.cells zE 27)) ∧ (w.alloc (.cells zE 27)).heap[w.heap.size]? = some (.cells zE 27 (0, 0))) := ⟨below_alloc _ _, heap_alloc_new _ _⟩
  clear hn hb hc hR hr
  unfold zE at HRD
  go_enter Try.func10, Try.ntmps10
  go_wp2_with fail
  refine HRD.mono ?_
  rintro e w1 ⟨hout, hb1⟩
  have HB1 : Hid (Below w.heap.size w w1) := below_bt HBA.out.1 hb1
  have HX1 : Hid (w1.heap[w.heap.size]? = some (.cells zE 27 (0, 0))) := block_below HBA.out.2 hb1
  obtain ⟨⟨z0, z1, z2, z3⟩, f0, f1, f2, f3⟩ := four HX1.out
  clear hb1 HRD
  rcases hout with ⟨l, v, hre, rfl, hown⟩ | ⟨hre, rfl⟩
  · obtain ⟨q, cq, rfl, _, hq2, _⟩ := hown.form
    have HE : Hid (EntsIn w1 q l) := hown.ents
    have hll : (l.length : Int) ≤ 9223372036854775807 := by unfold maxLen at hq2; have := hown.form; omega
    cases r with
    | false =>
      have HY : Hid (y = zeroE ∧ is = false ∧ E = 60) := by
        have := findR_key hre HRK.out
        rw [HR.out] at this
        show _ ∧ _
        simpa using this
      clear hown hre
      go_wp2_with fail
      refine (HIK _).mono ?_
      rintro e w2 ⟨rfl, rfl⟩
      go_wp2
      (try simp only [Exit.inBlock, Exit.then])
      refine bodyPost_ret (v := .tuple #[entV zeroE, .bool false, .int .i64 60]) ?_ rfl ⟨by rw [HY.out.1, HY.out.2.1, HY.out.2.2]; rfl, set4_below HB1.out⟩
      rw [results_cell_tmp2 rfl]
      go_simp
      rfl
    | true =>
      have HF : Hid (pickR (findE (l.drop 0) key) = (y, is, E)) := by
        have := findR_ok hre HRK.out
        rw [HR.out] at this
        exact this.symm
      clear hown hre
      go_wp2_with fail
      refine (HIK _).mono ?_
      rintro e w2 ⟨rfl, rfl⟩
      clear HIK z0 z1 z2 z3 f0 f1 f2 f3
      go_wp2
      go_loopw [26] (fun i wr => ∃ k : Nat, k ≤ l.length ∧ i = .int .i64 k ∧ pickR (findE (l.drop k) key) = (y, is, E) ∧ Below w2.heap.size w2 wr) (fun i _ => l.length - (intOf i).toNat)
      case atStart => exact ⟨0, by omega, rfl, HF.out, Below.refl _ _⟩
      case round =>
        obtain ⟨k, hk, rfl, hf, hbel⟩ := hrel
        have HK : Hid (pickR (findE (l.drop k) key) = (y, is, E)) := hf
        have HB : Hid (Below w2.heap.size w2 wr) := hbel
        obtain ⟨⟨z0, z1, z2, z3⟩, f0, f1, f2, f3⟩ := four (block_below HX1.out hbel)
        clear hf hbel
        by_cases hkl : k < l.length
        · obtain ⟨b, o, rfl⟩ := HE.out.addr (by omega)
          obtain ⟨e0, e1, e2, e3⟩ := (HE.out.below HB.out).at hkl
          obtain ⟨x, hx⟩ : ∃ x, l.getD k zeroE = x := ⟨_, rfl⟩
          rw [hx] at e0 e1 e2 e3
          have HFA := findE_at hkl hx key
          obtain ⟨ke, ve, se, ge⟩ := x
          simp only at e0 e1 e2 e3 HFA
          have hkn : (k : Int) < (l.length : Int) := by omega
          by_cases hke : ke = key
          · subst hke
            rw [if_pos rfl] at HFA
            have HY : Hid (y = ⟨ke, ve, se, ge⟩ ∧ is = true ∧ E = 0) := by
              have := HK.out
              rw [HFA] at this
              show _ ∧ _
              simp only [pickR, Prod.mk.injEq] at this
              exact ⟨this.1.symm, this.2.1.symm, this.2.2.symm⟩
            have hlt : w.heap.size < wr.heap.size := lt_heap (block_below HX1.out HB.out)
            have hne1 : ¬ w.heap.size = wr.heap.size := by omega
            have hne2 : ¬ wr.heap.size = w.heap.size := by omega
            obtain ⟨⟨y0, y1, y2, y3⟩, g0, g1, g2, g3⟩ := four (block_below (block_below HX1.out HB.out) (below_alloc wr (.cells #[.string ke, .string ve, .int .i64 se, .bool ge] 27)))
            clear HFA hx
            go_wp2
            (try simp only [Exit.inBlock, Exit.then])
            refine bodyPost_ret (v := .tuple #[entV ⟨ke, ve, se, ge⟩, .bool true, .int .i64 0]) ?_ rfl ⟨by rw [HY.out.1, HY.out.2.1, HY.out.2.2]; rfl, ?_⟩
            · rw [results_cell_tmp2 rfl]
              go_simp
              rfl
            · exact below_bt (set4_below (below_bt HB1.out HB.out)) (below_alloc _ _)
          · have g3 : (ke.toList == key.toList) = false := by rw [eq_str]; simp [hke]
            rw [if_neg hke] at HFA
            have H2 : Hid (pickR (findE (l.drop (k + 1)) key) = (y, is, E)) := by rw [← HFA]; exact HK.out
            clear HFA hx hke
            go_wp2
            go_roundw
            case rel => exact ⟨k + 1, by omega, by go_num, H2.out, below_bt HB.out (below_alloc _ _)⟩
            case measure => simp [intOf]; omega
        · have g2 : (l.length : Int) ≤ (k : Int) := by omega
          have HY : Hid (y = zeroE ∧ is = false ∧ E = 0) := by
            have := HK.out
            rw [List.drop_eq_nil_of_le (by omega)] at this
            show _ ∧ _
            simp only [findE, pickR, Prod.mk.injEq] at this
            exact ⟨this.1.symm, this.2.1.symm, this.2.2.symm⟩
          go_wp2
          (try simp only [Exit.inBlock, Exit.then])
          refine bodyPost_ret (v := .tuple #[entV zeroE, .bool false, .int .i64 0]) ?_ rfl ⟨by rw [HY.out.1, HY.out.2.1, HY.out.2.2]; rfl, set4_below (below_bt HB1.out HB.out)⟩
          rw [results_cell_tmp2 rfl]
          go_simp
          rfl
  · have HY : Hid (y = zeroE ∧ is = false ∧ E = 8) := by
      have := findR_bad key hre
      rw [HR.out] at this
      show _ ∧ _
      simpa using this
    clear hre
    go_wp2
    (try simp only [Exit.inBlock, Exit.then])
    refine bodyPost_ret (v := .tuple #[entV zeroE, .bool false, .int .i64 8]) ?_ rfl ⟨by rw [HY.out.1, HY.out.2.1, HY.out.2.2]; rfl, set4_below HB1.out⟩
    rw [results_cell_tmp2 rfl]
    go_simp
    rfl
end Go.Proofs.Ytldgnejmmjbhiaa
namespace Go.Proofs.Ytldgnejmmjbhiaa
open Go.RowKit Go.WideShapes

def twoL : List EntV := [⟨⟨#[97, 98]⟩, ⟨#[120]⟩, 1, false⟩, ⟨⟨#[97, 98, 99]⟩, ByteArray.empty, 0, true⟩]
theorem two_any (w : World) : Calls Try.prog 27 #[] w fun e w' => e = .returned (.slice (some ⟨w.heap.size, 0, none⟩) 2 2) ∧ EntsL w' (some ⟨w.heap.size, 0, none⟩) 2 twoL ∧ Below w.heap.size w w' := by
  go_enter Try.func27, Try.ntmps27
  go_wp2
  go_ret
  refine ⟨rfl, ⟨rfl, fun _ => ⟨w.heap.size, 0, rfl, fun i hi => ?_⟩⟩, below_alloc _ _⟩
  have hh := heap_alloc_new w (.cells #[.string ⟨#[97, 98]⟩, .string ⟨#[120]⟩, .int .i64 1, .bool false, .string ⟨#[97, 98, 99]⟩, .string ⟨#[]⟩, .int .i64 0, .bool true] 27)
  have hi2 : i = 0 ∨ i = 1 := by simp only [twoL, List.length_cons, List.length_nil] at hi; omega
  rcases hi2 with rfl | rfl
  · exact ⟨Lib.cell_of_heap hh 0, Lib.cell_of_heap hh 1, Lib.cell_of_heap hh 2, Lib.cell_of_heap hh 3⟩
  · exact ⟨Lib.cell_of_heap hh 4, Lib.cell_of_heap hh 5, Lib.cell_of_heap hh 6, Lib.cell_of_heap hh 7⟩
theorem check_two : checkE twoL = 0 := by decide +kernel
theorem body_two : bodyN twoL = [2, 0, 2, 97, 98, 1, 0, 1, 120, 2, 1, 99, 0, 1] := by
  have n1 : numsOf ⟨#[97, 98]⟩ = [97, 98] := rfl
  have n2 : numsOf ⟨#[120]⟩ = [120] := rfl
  have n3 : numsOf ⟨#[97, 98, 99]⟩ = [97, 98, 99] := rfl
  have z2 : (⟨#[120]⟩ : ByteArray).size = 1 := rfl
  simp [bodyN, twoL, entsN, entN, keyN, tailN, n1, n2, n3, sharedN, smallN_lo, z2]
theorem make_two : ∃ ys, makeE twoL = (ys, 0) ∧ ys.length = 18 ∧ ys.take 12 = [2, 0, 2, 97, 98, 1, 0, 1, 120, 2, 1, 99] ∧ ∀ c ∈ ys, c < 256 := by
  have hl : (pageN twoL).length = 18 := by rw [page_len, body_two]; rfl
  refine ⟨pageN twoL, makeE_all check_two (by rw [body_two]; decide), hl, ?_, pageN_lt _⟩
  unfold pageN
  rw [body_two]
  rfl
set_option maxHeartbeats 1000000 in
theorem alive_any (w : World) : Calls Try.prog 11 #[] w fun e w' => e = .returned (.bool true) ∧ Below w.heap.size w w' := by
  obtain ⟨ys, hm, hl, ht, hy⟩ := make_two
  have HM : Hid (makeE twoL = (ys, 0) ∧ ys.length = 18 ∧ ys.take 12 = [2, 0, 2, 97, 98, 1, 0, 1, 120, 2, 1, 99] ∧ ∀ c ∈ ys, c < 256) := ⟨hm, hl, ht, hy⟩
  clear hm hl ht hy
  go_enter Try.func11, Try.ntmps11
  go_wp2_with fail
  refine (two_any _).mono ?_
  rintro e w1 ⟨rfl, he1, hb1⟩
  have HB1 : Hid (Below w.heap.size w w1) := hb1
  have HMK := Make_any _ 2 2 twoL w1 he1 ys 0 HM.out.1
  clear he1 hb1
  go_wp2_with fail
  refine HMK.mono ?_
  rintro e w2 ⟨v, rfl, ho2, hb2⟩
  obtain ⟨p, c, rfl, hc1, hc2, hc3⟩ := own_form ho2
  have HB2 : Hid (Below w.heap.size w w2) := below_bt HB1.out hb2
  have hcv := conv_bytes (own_in ho2 HM.out.2.2.2 |>.take' 12) (n := 12) (by rw [HM.out.2.2.1]; rfl) c
  have hc9 : (12 : Int) ≤ (c : Int) := by have := HM.out.2.1; omega
  have hq : ((strOf (ys.take 12)).toList == [2, 0, 2, 97, 98, 1, 0, 1, 120, 2, 1, 99]) = true := by rw [HM.out.2.2.1]; decide +kernel
  rw [HM.out.2.1]
  clear ho2 hb2 HMK hc1 hc2 hc3
  go_wp2
  go_ret
  exact ⟨rfl, HB2.out⟩
set_option maxRecDepth 8000 in
set_option maxHeartbeats 1000000 in
theorem same_yes (qa qb : Option Addr) (n ca cb : Nat) (l : List EntV) (w : World) (hn : n = l.length) (hnb : (n : Int) ≤ 1000000) (ha : EntsIn w qa l) (hb : EntsIn w qb l) :
    Calls Try.prog 22 #[.slice qa n ca, .slice qb n cb] w fun e w' => e = .returned (.bool true) ∧ Below w.heap.size w w' := by
  have HA : Hid (EntsIn w qa l) := ha
  have HB : Hid (EntsIn w qb l) := hb
  have HN : Hid (n = l.length) := hn
  clear ha hb hn
  go_enter Try.func22, Try.ntmps22
  go_wp2
  go_loopw [5] (fun i wr => ∃ k : Nat, k ≤ n ∧ i = .int .i64 k ∧ Below w.heap.size w wr) (fun i _ => n - (intOf i).toNat)
  case atStart => exact ⟨0, by omega, rfl, Below.refl _ _⟩
  case round =>
    obtain ⟨k, hk, rfl, hbel⟩ := hrel
    have HBE : Hid (Below w.heap.size w wr) := hbel
    clear hbel
    by_cases hkn : k < n
    · have g1 : decide (k < n) = true := decide_eq_true hkn
      have hkI : (k : Int) < (n : Int) := by omega
      obtain ⟨ba, oa, rfl⟩ := HA.out.addr (by have := HN.out; omega)
      obtain ⟨bb, ob, rfl⟩ := HB.out.addr (by have := HN.out; omega)
      obtain ⟨x, hx⟩ : ∃ x, l.getD k zeroE = x := ⟨_, rfl⟩
      obtain ⟨x0, x1, x2, x3⟩ := (HA.out.below HBE.out).at (k := k) (by have := HN.out; omega)
      obtain ⟨y0, y1, y2, y3⟩ := (HB.out.below HBE.out).at (k := k) (by have := HN.out; omega)
      rw [hx] at x0 x1 x2 x3 y0 y1 y2 y3
      obtain ⟨kx, vx, sx, gx⟩ := x
      simp only at x0 x1 x2 x3 y0 y1 y2 y3
      clear hx
      go_wp2
      go_quiet (fail)
      go_wp2
      go_roundw
      case rel => exact ⟨k + 1, by omega, by go_num, below_drewN HBE.out _⟩
      case measure => simp [intOf]; omega
    · have g1 : decide (k < n) = false := decide_eq_false hkn
      have hkI : (n : Int) ≤ (k : Int) := by omega
      go_wp2
      go_ret
      exact ⟨rfl, HBE.out⟩
end Go.Proofs.Ytldgnejmmjbhiaa
namespace Go.Proofs.Ytldgnejmmjbhiaa.pageNames
open Go.ChangeShapes Go.WideShapes Go.ChangeAt Go.RowKit
open Go.ChangeMaps (open_string shut_string)
set_option linter.unusedVariables false

theorem own : ownKnob Try.prog.godebug = none := by kernel_rfl
theorem laidOut : laidOutB Try.prog = true := by kernel_rfl

def na : ByteArray := ⟨#[97]⟩
def nmL : List EntV := [⟨⟨#[97]⟩, ByteArray.empty, 2, false⟩, ⟨⟨#[97]⟩, ByteArray.empty, 1, false⟩]
def nmR : List EntV := [⟨⟨#[97]⟩, ByteArray.empty, 1, false⟩, ⟨⟨#[97]⟩, ByteArray.empty, 2, false⟩]
theorem ck1 : checkE nmL = 0 := by decide +kernel
theorem ck2 : checkE nmR = 100 := by decide +kernel
theorem ck3 : checkE [zeroE] = 60 := by decide +kernel
theorem ck4 : checkE [⟨⟨#[97]⟩, ⟨#[120]⟩, 0, true⟩] = 8 := by decide +kernel
theorem body_nil : bodyN [] = [0] := by simp [bodyN, entsN, smallN_lo]
theorem make_nil : makeE [] = (pageN [], 0) ∧ (pageN []).length = 5 ∧ (pageN []).getD 0 0 = 0 := by
  have hl : (pageN []).length = 5 := by rw [page_len, body_nil]; rfl
  refine ⟨makeE_all (by decide +kernel) (by rw [body_nil]; decide), hl, ?_⟩
  unfold pageN
  rw [body_nil]
  rfl
theorem body_nm : (bodyN nmL).length ≤ 65532 := by
  have n1 : numsOf ⟨#[97]⟩ = [97] := rfl
  have n2 : numsOf ByteArray.empty = [] := rfl
  have z2 : ByteArray.empty.size = 0 := rfl
  simp [bodyN, nmL, entsN, entN, keyN, tailN, n1, n2, sharedN, smallN_lo, z2]
theorem make_nm : makeE nmL = (pageN nmL, 0) := makeE_all ck1 body_nm
theorem find_a : findR (pageN nmL) ⟨#[97]⟩ = (⟨⟨#[97]⟩, ByteArray.empty, 2, false⟩, true, 0) := by
  rw [findR_ok (read_make make_nm) (by decide +kernel)]
  simp [nmL, findE, pickR]
theorem find_b : findR (pageN nmL) ⟨#[98]⟩ = (zeroE, false, 0) := by
  rw [findR_ok (read_make make_nm) (by decide +kernel)]
  have : ¬ ((⟨#[97]⟩ : ByteArray) = ⟨#[98]⟩) := by decide
  simp [nmL, findE, pickR, this]
theorem none_in (w : World) : EntsL w none 0 [] := ⟨rfl, fun h => absurd h (by simp)⟩
theorem two_in {w : World} {g : Nat} {a b : EntV} (h : w.heap[g]? = some (.cells #[.string a.key, .string a.val, .int .i64 a.seq, .bool a.gone, .string b.key, .string b.val, .int .i64 b.seq, .bool b.gone] 27 (0, 0))) : EntsL w (some ⟨g, 0, none⟩) 2 [a, b] := by
  refine ⟨rfl, fun _ => ⟨g, 0, rfl, fun i hi => ?_⟩⟩
  have hi2 : i = 0 ∨ i = 1 := by simp only [List.length_cons, List.length_nil] at hi; omega
  rcases hi2 with rfl | rfl
  · exact ⟨Lib.cell_of_heap h 0, Lib.cell_of_heap h 1, Lib.cell_of_heap h 2, Lib.cell_of_heap h 3⟩
  · exact ⟨Lib.cell_of_heap h 4, Lib.cell_of_heap h 5, Lib.cell_of_heap h 6, Lib.cell_of_heap h 7⟩
theorem one_in {w : World} {g : Nat} {a : EntV} (h : w.heap[g]? = some (.cells #[.string a.key, .string a.val, .int .i64 a.seq, .bool a.gone] 27 (0, 0))) : EntsL w (some ⟨g, 0, none⟩) 1 [a] := by
  refine ⟨rfl, fun _ => ⟨g, 0, rfl, fun i hi => ?_⟩⟩
  have hi2 : i = 0 := by simp only [List.length_cons, List.length_nil] at hi; omega
  subst hi2
  exact ⟨Lib.cell_of_heap h 0, Lib.cell_of_heap h 1, Lib.cell_of_heap h 2, Lib.cell_of_heap h 3⟩
def lC : Array Value := #[.string ⟨#[97]⟩, .string ⟨#[]⟩, .int .i64 2, .bool false, .string ⟨#[97]⟩, .string ⟨#[]⟩, .int .i64 1, .bool false]
theorem eight {w : World} {g : Nat} (h : w.heap[g]? = some (.cells lC 27 (0, 0))) : (w.cell? ⟨g, 0, none⟩ = some (.string ⟨#[97]⟩) ∧ w.cell? ⟨g, 1, none⟩ = some (.string ⟨#[]⟩) ∧ w.cell? ⟨g, 2, none⟩ = some (.int .i64 2) ∧ w.cell? ⟨g, 3, none⟩ = some (.bool false)) ∧ w.cell? ⟨g, 4, none⟩ = some (.string ⟨#[97]⟩) ∧ w.cell? ⟨g, 5, none⟩ = some (.string ⟨#[]⟩) ∧ w.cell? ⟨g, 6, none⟩ = some (.int .i64 1) ∧ w.cell? ⟨g, 7, none⟩ = some (.bool false) :=
  ⟨⟨Lib.cell_of_heap h 0, Lib.cell_of_heap h 1, Lib.cell_of_heap h 2, Lib.cell_of_heap h 3⟩, Lib.cell_of_heap h 4, Lib.cell_of_heap h 5, Lib.cell_of_heap h 6, Lib.cell_of_heap h 7⟩
set_option maxRecDepth 20000 in
set_option maxHeartbeats 4000000 in
theorem walk (w : World) :
    Calls Try.prog 3 #[] w fun e w' => e = .returned (.bool true) ∧ Below w.heap.size w w' := by
  have HNM : Hid (makeE nmL = (pageN nmL, 0) ∧ findR (pageN nmL) ⟨#[97]⟩ = (⟨⟨#[97]⟩, ByteArray.empty, 2, false⟩, true, 0) ∧ findR (pageN nmL) ⟨#[98]⟩ = (zeroE, false, 0) ∧ ∀ c ∈ pageN nmL, c < 256) := ⟨make_nm, find_a, find_b, pageN_lt _⟩
  have HNL : Hid (makeE [] = (pageN [], 0) ∧ (pageN []).length = 5 ∧ (pageN []).getD 0 0 = 0 ∧ ∀ c ∈ pageN [], c < 256) := ⟨make_nil.1, make_nil.2.1, make_nil.2.2, pageN_lt _⟩
  generalize pageN nmL = ys at *
  generalize pageN [] = y0 at *
  go_enter Try.func3, Try.ntmps3
  go_wp2_with fail
  refine (Make_any none 0 0 [] _ (none_in _) y0 0 HNL.out.1).mono ?_
  rintro e w1 ⟨v1, rfl, ho1, hb1⟩
  obtain ⟨p1, c1, rfl, _, _, _⟩ := own_form ho1
  have hbin1 := own_in ho1 HNL.out.2.2.2
  obtain ⟨b1, o1, rfl⟩ := hbin1.addr (by rw [HNL.out.2.1]; omega)
  have HC1 : Hid (w1.cell? ⟨b1, o1, none⟩ = some (.int .u8 0)) := by have := hbin1.cell 0 (by rw [HNL.out.2.1]; omega); rw [HNL.out.2.2.1] at this; exact this
  rw [HNL.out.2.1]
  have HB1 : Hid (Below w.heap.size w w1) := hb1
  have HL1 : Hid ((w1.alloc (.cells lC 27)).heap[w1.heap.size]? = some (.cells lC 27 (0, 0)) ∧ Below w1.heap.size w1 (w1.alloc (.cells lC 27))) := ⟨heap_alloc_new _ _, below_alloc _ _⟩
  have HMK := Make_any (some ⟨w1.heap.size, 0, none⟩) 2 2 nmL (w1.alloc (.cells lC 27)) (two_in (a := ⟨⟨#[97]⟩, ByteArray.empty, 2, false⟩) (b := ⟨⟨#[97]⟩, ByteArray.empty, 1, false⟩) HL1.out.1) ys 0 HNM.out.1
  clear ho1 hb1 hbin1
  unfold lC at HMK
  go_wp2_with fail
  refine HMK.mono ?_
  rintro e w3 ⟨v3, rfl, ho3, hb3⟩
  obtain ⟨p3, c3, rfl, hx1, hx2, hx3⟩ := own_form ho3
  have HB3 : Hid (Below w1.heap.size w1 w3) := below_bt HL1.out.2 hb3
  have HL3 : Hid (w3.heap[w1.heap.size]? = some (.cells lC 27 (0, 0))) := block_below HL1.out.1 hb3
  have HY3 : Hid (BIn w3 p3 ys ∧ ys.length ≤ c3 ∧ c3 ≤ maxLen ∧ (p3 = none → c3 = 0)) := ⟨own_in ho3 HNM.out.2.2.2, hx1, hx2, hx3⟩
  have HFA := Find_any p3 ys.length c3 ys ⟨#[97]⟩ w3 rfl HY3.out.1 HY3.out.2 _ _ _ HNM.out.2.1
  rw [entV_def] at HFA
  clear ho3 hb3 hx1 hx2 hx3 HMK
  go_wp2_with fail
  refine HFA.mono ?_
  rintro e w4 ⟨rfl, hb4⟩
  have HX4 : Hid ((w4.alloc (.cells #[.string ⟨#[97]⟩, .string ⟨#[]⟩, .int .i64 2, .bool false] 27)).heap[w4.heap.size]? = some (.cells #[.string ⟨#[97]⟩, .string ⟨#[]⟩, .int .i64 2, .bool false] 27 (0, 0)) ∧ Below w3.heap.size w3 (w4.alloc (.cells #[.string ⟨#[97]⟩, .string ⟨#[]⟩, .int .i64 2, .bool false] 27))) := ⟨heap_alloc_new _ _, below_bt hb4 (below_alloc _ _)⟩
  have HFB := Find_any p3 ys.length c3 ys ⟨#[98]⟩ _ rfl (HY3.out.1.below HX4.out.2) HY3.out.2 _ _ _ HNM.out.2.2.1
  rw [show entV zeroE = .agg #[.string ⟨#[]⟩, .string ⟨#[]⟩, .int .i64 0, .bool false] from rfl] at HFB
  clear hb4 HFA
  go_wp2_with fail
  refine HFB.mono ?_
  rintro e w5 ⟨rfl, hb5⟩
  have hb6 := below_bt hb5 (below_alloc w5 (.cells #[.string ⟨#[]⟩, .string ⟨#[]⟩, .int .i64 0, .bool false] 27))
  have HB6 : Hid (Below w3.heap.size w3 (w5.alloc (.cells #[.string ⟨#[]⟩, .string ⟨#[]⟩, .int .i64 0, .bool false] 27))) := below_bt HX4.out.2 hb6
  have HX6 : Hid ((w5.alloc (.cells #[.string ⟨#[]⟩, .string ⟨#[]⟩, .int .i64 0, .bool false] 27)).heap[w4.heap.size]? = some (.cells #[.string ⟨#[97]⟩, .string ⟨#[]⟩, .int .i64 2, .bool false] 27 (0, 0))) := block_below HX4.out.1 hb6
  clear hb5 hb6 HFB
  have HS6 : Hid (∀ w', Below w3.heap.size w3 w' → w'.cell? ⟨b1, o1, none⟩ = some (.int .u8 0) ∧ w'.heap[w1.heap.size]? = some (.cells lC 27 (0, 0))) := by
    intro w' hb
    have hC7 := HC1.out
    rw [← (below_bt HB3.out hb).cell (World.block_lt_of_cell? _ _ hC7)] at hC7
    exact ⟨hC7, block_below HL3.out hb⟩
  have HCK1 : Hid (∀ w', Below w3.heap.size w3 w' → Calls Try.prog 12 #[.slice (some ⟨w1.heap.size, 0, none⟩) 2 2] w' fun e w2 => e = .returned (.int .i64 ((0 : Nat) : Int)) ∧ Below w'.heap.size w' w2) := fun w' hb => Check_any (some ⟨w1.heap.size, 0, none⟩) 2 2 nmL _ (two_in (a := ⟨⟨#[97]⟩, ByteArray.empty, 2, false⟩) (b := ⟨⟨#[97]⟩, ByteArray.empty, 1, false⟩) (HS6.out w' hb).2) 0 ck1
  have HCK2 : Hid (∀ (w' : World) (g : Nat), w'.heap[g]? = some (.cells #[.string ⟨#[97]⟩, .string ⟨#[]⟩, .int .i64 1, .bool false, .string ⟨#[97]⟩, .string ⟨#[]⟩, .int .i64 2, .bool false] 27 (0, 0)) → Calls Try.prog 12 #[.slice (some ⟨g, 0, none⟩) 2 2] w' fun e w2 => e = .returned (.int .i64 ((100 : Nat) : Int)) ∧ Below w'.heap.size w' w2) := fun w' g h => Check_any (some ⟨g, 0, none⟩) 2 2 nmR _ (two_in (a := ⟨⟨#[97]⟩, ByteArray.empty, 1, false⟩) (b := ⟨⟨#[97]⟩, ByteArray.empty, 2, false⟩) h) 100 ck2
  have HCK3 : Hid (∀ (w' : World) (g : Nat), w'.heap[g]? = some (.cells #[.string ⟨#[]⟩, .string ⟨#[]⟩, .int .i64 0, .bool false] 27 (0, 0)) → Calls Try.prog 12 #[.slice (some ⟨g, 0, none⟩) 1 1] w' fun e w2 => e = .returned (.int .i64 ((60 : Nat) : Int)) ∧ Below w'.heap.size w' w2) := fun w' g h => Check_any (some ⟨g, 0, none⟩) 1 1 [zeroE] _ (one_in (a := zeroE) h) 60 ck3
  have HCK4 : Hid (∀ (w' : World) (g : Nat), w'.heap[g]? = some (.cells #[.string ⟨#[97]⟩, .string ⟨#[120]⟩, .int .i64 0, .bool true] 27 (0, 0)) → Calls Try.prog 12 #[.slice (some ⟨g, 0, none⟩) 1 1] w' fun e w2 => e = .returned (.int .i64 ((8 : Nat) : Int)) ∧ Below w'.heap.size w' w2) := fun w' g h => Check_any (some ⟨g, 0, none⟩) 1 1 [⟨⟨#[97]⟩, ⟨#[120]⟩, 0, true⟩] _ (one_in (a := ⟨⟨#[97]⟩, ⟨#[120]⟩, 0, true⟩) h) 8 ck4
  go_wp2_with fail
  generalize hw6 : w5.alloc (.cells #[.string ⟨#[]⟩, .string ⟨#[]⟩, .int .i64 0, .bool false] 27) = w6 at *
  simp only [List.append_eq, List.cons_append, List.nil_append]
  have KS : Hid (∀ w', Below w6.heap.size w6 w' → (w'.cell? ⟨b1, o1, none⟩ = some (.int .u8 0) ∧ w'.cell? ⟨w4.heap.size, 2, none⟩ = some (.int .i64 2) ∧ w'.cell? ⟨w1.heap.size, 0, none⟩ = some (.string ⟨#[97]⟩) ∧ w'.cell? ⟨w1.heap.size, 1, none⟩ = some (.string ⟨#[]⟩) ∧ w'.cell? ⟨w1.heap.size, 2, none⟩ = some (.int .i64 2) ∧ w'.cell? ⟨w1.heap.size, 3, none⟩ = some (.bool false) ∧ w'.cell? ⟨w1.heap.size, 4, none⟩ = some (.string ⟨#[97]⟩) ∧ w'.cell? ⟨w1.heap.size, 5, none⟩ = some (.string ⟨#[]⟩) ∧ w'.cell? ⟨w1.heap.size, 6, none⟩ = some (.int .i64 1) ∧ w'.cell? ⟨w1.heap.size, 7, none⟩ = some (.bool false)) ∧ Below w6.heap.size w6 w') := by
    intro w' hb
    obtain ⟨h1, h2⟩ := HS6.out w' (below_bt HB6.out hb)
    obtain ⟨⟨l0, l1, l2, l3⟩, l4, l5, l6, l7⟩ := eight h2
    obtain ⟨⟨_, _, x2, _⟩, _⟩ := four (block_below HX6.out hb)
    exact ⟨⟨h1, x2, l0, l1, l2, l3, l4, l5, l6, l7⟩, hb⟩
  clear hw6 HX6 HL3 HL1 HY3 HX4 HNM HNL HC1
  go_region_held3 (fun w' => (w'.cell? ⟨b1, o1, none⟩ = some (.int .u8 0) ∧ w'.cell? ⟨w4.heap.size, 2, none⟩ = some (.int .i64 2) ∧ w'.cell? ⟨w1.heap.size, 0, none⟩ = some (.string ⟨#[97]⟩) ∧ w'.cell? ⟨w1.heap.size, 1, none⟩ = some (.string ⟨#[]⟩) ∧ w'.cell? ⟨w1.heap.size, 2, none⟩ = some (.int .i64 2) ∧ w'.cell? ⟨w1.heap.size, 3, none⟩ = some (.bool false) ∧ w'.cell? ⟨w1.heap.size, 4, none⟩ = some (.string ⟨#[97]⟩) ∧ w'.cell? ⟨w1.heap.size, 5, none⟩ = some (.string ⟨#[]⟩) ∧ w'.cell? ⟨w1.heap.size, 6, none⟩ = some (.int .i64 1) ∧ w'.cell? ⟨w1.heap.size, 7, none⟩ = some (.bool false)) ∧ Below w6.heap.size w6 w')
    (with_reducible first
      | exact KS.out _ HB11.out
      | exact KS.out _ (below_bt HB10.out (below_alloc _ _))
      | exact KS.out _ HB10.out
      | exact KS.out _ (below_bt HB9.out (below_alloc _ _))
      | exact KS.out _ HB9.out
      | exact KS.out _ (below_bt HB8.out (below_alloc _ _))
      | exact KS.out _ HB8.out
      | exact KS.out _ HB7.out
      | exact KS.out _ (Below.refl _ _).drew
      | assumption)
    (first
      | (go_at_call 11; refine (alive_any _).mono ?_; rintro e w7 ⟨rfl, hb7⟩; have HB7 : Hid (Below w6.heap.size w6 w7) := below_dw hb7; clear hb7)
      | (go_at_call 12; have q10 := HB10.out; clear q10; refine (HCK4.out _ _ (heap_alloc_new _ _)).mono ?_; rintro e w11 ⟨rfl, hb11⟩; have HB11 : Hid (Below w6.heap.size w6 w11) := below_bt (below_bt HB10.out (below_alloc _ _)) hb11; clear hb11)
      | (go_at_call 12; have q9 := HB9.out; clear q9; refine (HCK3.out _ _ (heap_alloc_new _ _)).mono ?_; rintro e w10 ⟨rfl, hb10⟩; have HB10 : Hid (Below w6.heap.size w6 w10) := below_bt (below_bt HB9.out (below_alloc _ _)) hb10; clear hb10)
      | (go_at_call 12; have q8 := HB8.out; clear q8; refine (HCK2.out _ _ (heap_alloc_new _ _)).mono ?_; rintro e w9 ⟨rfl, hb9⟩; have HB9 : Hid (Below w6.heap.size w6 w9) := below_bt (below_bt HB8.out (below_alloc _ _)) hb9; clear hb9)
      | (go_at_call 12; refine (HCK1.out _ (below_bt HB6.out HB7.out)).mono ?_; rintro e w8 ⟨rfl, hb8⟩; have HB8 : Hid (Below w6.heap.size w6 w8) := below_bt HB7.out hb8; clear hb8)
      | fail)
  rename_i hh
  have HBE : Hid (Below w6.heap.size w6 _) := hh.2
  clear hh
  go_wp2
  go_ret
  exact ⟨rfl, below_bt HB1.out (below_bt HB3.out (below_bt HB6.out HBE.out))⟩

/-! ### THE ROW's STEP -/
set_option maxRecDepth 100000 in
theorem lifted (os : Os) (started : os.Started) (H : Type) (enc : TypeId × Value → H) :
    ReturnsInHanded {} Try.checked os 3 .any (Rows.pageNamesSpec.pre6 enc Try.prog Try.f3 Rows.pageNamesRow.domain false) (Rows.pageNamesSpec.post enc Try.prog Try.f3 false true false false) := by
  refine returnsInHanded_of_change (C := Try.checked) own started (by kernel_rfl) Try.func3
    (ChangeSpec.witness6 (enc := enc) (C := Try.checked) false ⟨#[], #[], []⟩ 8 (by kernel_rfl) (by kernel_rfl) (by kernel_rfl) (by kernel_rfl)) ?_
  intro W base args ds gs before hval0 hW hcnd _
  have hval : ∀ (j : Nat) t v, Try.f3.params[j]? = some t → args[j]? = some v → Value.okWide Try.prog W .any base t v := hval0
  have hW' := hW
  obtain ⟨p, q, hA0, hV, rfl, hfz, hnd⟩ := hW
  have hA : DataW.TrodAll enc Try.prog W 0 (fun _ => true) true Try.f3.params.toList args.toList ds p := hA0
  rw [Try.params3] at hA hval
  obtain ⟨hargs, rfl, rfl⟩ := trodAll_nil hA
  obtain rfl : args = #[] := by cases args; simp_all
  obtain ⟨rfl, rfl⟩ := trodVars_none hV
  clear hA0 hval0
  refine (walk  W ).mono fun e W' ⟨he, bel⟩ => ?_
  subst he
  exact ⟨_, rfl, _, _, _, [], _, [], hW', trodAll_mk1 (shut_bool Try.underlying4 _), trodAll_mk0, rfl, bel.frame _, fun h => by cases h⟩

theorem over : Rows.pageNamesRow.holds Try.pinned (OpenSpec.ofChange Rows.pageNamesSpec) :=
  OpenClaim.holds_of_wide 3 Try.f3 rfl rfl rfl rfl rfl rfl rfl ⟨rfl, rfl, rfl, rfl, rfl⟩ rfl rfl rfl rfl rfl (by kernel_rfl) Try.func3 (by kernel_rfl)
    (of_decide_eq_true (by kernel_rfl)) (by unfold Func.isWrapper; first | (rw [if_pos (by decide +kernel)]; kernel_rfl) | (rw [if_neg (by decide +kernel)]; exact ⟨rfl, rfl⟩))
    (fun os started H enc _ => lifted os started H enc)

theorem proved : Rows.PageNamesSaid := over
end Go.Proofs.Ytldgnejmmjbhiaa.pageNames
namespace Go.Proofs.Ytldgnejmmjbhiaa
theorem pageNames_holds : Rows.PageNamesSaid := pageNames.proved
#print axioms pageNames_holds
end Go.Proofs.Ytldgnejmmjbhiaa
