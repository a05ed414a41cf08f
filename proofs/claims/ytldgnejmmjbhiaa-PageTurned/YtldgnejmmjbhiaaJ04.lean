/-
  For any entries, any place and any byte the law PageTurned answers true: a page in which one byte is another one is no page.
-/
import Derived.Test.YtldgnejmmjbhiaaJ03
import Derived.Test.YtldgnejmmjbhiaaJ01
import Derived.Test.YtldgnejmmjbhiaaRows
import Derived.WalkKit
import Derived.ProofKit
import Derived.OpenShut
import Derived.ShutString
import Derived.ChangeOld
import Derived.Below
namespace Go.Proofs.Ytldgnejmmjbhiaa
open Go.RowKit Go.WideShapes

theorem cut_to (p : Option Addr) (n c k : Nat) (hk : k ≤ c) : ∀ w, (Instr.slice 22 (.slice p n c) none (some (.int .i64 (k : Int))) none).run Try.prog w = .ok (.slice p k c) w := by
  intro w
  rw [run_slice_h w 22 p n c (by kernel_rfl) .i64 k (by omega) (by omega)]
  have hs : (sizeOf (Try.prog.elem 22)).run Try.prog w = .ok 1 w := by kernel_rfl
  rw [hs]
  have e2 : (if c = 0 then p else p.map (·.add (0 * 1))) = p := by
    split
    · rfl
    · cases p with
      | none => rfl
      | some a => rw [Option.map_some, Nat.zero_mul]; rcases a with ⟨b, o, s⟩; cases s <;> simp [Addr.add]
  show Result.ok (Value.slice (if c = 0 then p else p.map (·.add (0 * 1))) (k - 0) (c - 0)) w = _
  rw [e2]
  rfl
/-- What Read answers. -/
def ReadOut (xs : List Nat) (base : Nat) (e : Ending) (w' : World) : Prop :=
  (∃ l v, readE xs = some l ∧ e = .returned (.tuple #[v, .int .i64 0]) ∧ EOwn w' base v l) ∨ (readE xs = none ∧ e = .returned (.tuple #[.slice none 0 0, .int .i64 8]))
theorem readE_len {xs : List Nat} (h : xs.length < 4 ∨ 65536 < xs.length) : readE xs = none := by unfold readE; rw [if_pos h]
theorem readE_sum {xs : List Nat} (h : ¬ (xs.length < 4 ∨ 65536 < xs.length)) (hs : ¬ xs.drop (xs.length - 4) = sum4 (xs.take (xs.length - 4))) : readE xs = none := by unfold readE; rw [if_neg h, if_neg hs]
theorem readE_cut {xs : List Nat} (h : ¬ (xs.length < 4 ∨ 65536 < xs.length)) (hs : xs.drop (xs.length - 4) = sum4 (xs.take (xs.length - 4))) (hc : cutE (xs.take (xs.length - 4)) = none) : readE xs = none := by unfold readE; rw [if_neg h, if_pos hs, hc]
theorem readE_chk {xs : List Nat} (h : ¬ (xs.length < 4 ∨ 65536 < xs.length)) (hs : xs.drop (xs.length - 4) = sum4 (xs.take (xs.length - 4))) {l : List EntV} (hc : cutE (xs.take (xs.length - 4)) = some l) : readE xs = if checkE l = 0 then some l else none := by unfold readE; rw [if_neg h, if_pos hs, hc]
set_option maxRecDepth 8000 in
set_option maxHeartbeats 1000000 in
theorem Read_any (p : Option Addr) (n c : Nat) (xs : List Nat) (w : World) (hn : n = xs.length) (hb : BIn w p xs) (hc : n ≤ c ∧ c ≤ maxLen ∧ (p = none → c = 0)) :
    Calls Try.prog 19 #[.slice p n c] w fun e w' => ReadOut xs w.heap.size e w' ∧ Below w.heap.size w w' := by
  by_cases h1 : n < 4
  · have g1 : (n : Int) < 4 := by omega
    have HN : Hid (readE xs = none) := readE_len (by omega)
    clear h1 hb hc hn
    go_enter Try.func19, Try.ntmps19
    go_wp2
    go_ret2
    exact ⟨.inr ⟨HN.out, rfl⟩, Below.refl _ _⟩
  by_cases h2 : 65536 < n
  · have g1 : (4 : Int) ≤ (n : Int) := by omega
    have g2 : (65536 : Int) < (n : Int) := by omega
    have HN : Hid (readE xs = none) := readE_len (by omega)
    clear h1 h2 hb hc hn
    go_enter Try.func19, Try.ntmps19
    go_wp2
    go_ret2
    exact ⟨.inr ⟨HN.out, rfl⟩, Below.refl _ _⟩
  have hlen : ¬ (xs.length < 4 ∨ 65536 < xs.length) := by omega
  obtain ⟨z, hz⟩ : ∃ z, n - 4 = z := ⟨_, rfl⟩
  have hxz : xs.length - 4 = z := by omega
  have hw : IntKind.i64.wrap ((n : Int) - 4) = (z : Int) := by rw [IntKind.wrap_i64]; omega
  obtain ⟨p', hs1, hbn, hpn, _⟩ := cut_from p n c z xs hn hc.1 (by omega) hc.2.2
  have hs2 := cut_to p n c z (by omega)
  have ht : (xs.take z).length = z := by rw [List.length_take]; omega
  have HSM : Hid (∀ w', Below w.heap.size w w' → Calls Try.prog 25 #[.slice p z c] w' fun e w2 => ∃ g, e = .returned (.slice (some ⟨g, 0, none⟩) 4 8) ∧ BIn w2 (some ⟨g, 0, none⟩) (sum4 (xs.take z)) ∧ Below w'.heap.size w' w2) := fun w' h => sum_page p z c (xs.take z) w' ht.symm ((hb.below h).take' z) (by omega)
  have HBD : Hid (∀ w', Below w.heap.size w w' → BIn w' p' (xs.drop z) ∧ n - z = (xs.drop z).length) := fun w' h => ⟨hbn w' (hb.below h), by rw [List.length_drop, hn]⟩
  have HCU : Hid (∀ w', Below w.heap.size w w' → Calls Try.prog 32 #[.slice p z c] w' fun e w2 => CutOut (xs.take z) w'.heap.size e w2 ∧ Below w'.heap.size w' w2) := fun w' h => cutEntries_any p z c (xs.take z) w' ht.symm ((hb.below h).take' z) ⟨by omega, hc.2⟩ (by omega)
  have g1 : (4 : Int) ≤ (n : Int) := by omega
  have g2 : (n : Int) ≤ 65536 := by omega
  have HL : Hid (¬ (xs.length < 4 ∨ 65536 < xs.length) ∧ xs.length - 4 = z) := ⟨hlen, hxz⟩
  obtain ⟨r, hr⟩ : ∃ r, decide (xs.drop z = sum4 (xs.take z)) = r := ⟨_, rfl⟩
  have HRR : Hid (decide (xs.drop z = sum4 (xs.take z)) = r) := hr
  clear h1 h2 hb hc hn hz hxz hbn hpn ht hlen hr
  go_enter Try.func19, Try.ntmps19
  go_upto_region 4 with fail
  go_cut [26] from 18 (fun j wx => j = .bool (!r) ∧ Below w.heap.size w wx)
  case first =>
    go_region_with (first | (go_at_call 25; refine (HSM.out _ (Below.refl _ _).drew).mono ?_; rintro e w2 ⟨g4, rfl, hi4, hb4⟩; have hb5 := below_dw hb4; have HEQ := equal_any p' (some ⟨g4, 0, none⟩) (n - z) 4 (c - z) 8 _ _ w2 (HBD.out _ hb5).1 hi4 (HBD.out _ hb5).2 rfl r HRR.out; have HB5 : Hid (Below w.heap.size w w2) := hb5; clear hb4 hb5 hi4) | (go_at_call 31; refine HEQ.mono ?_; rintro e w6 ⟨rfl, rfl⟩))
    all_goals go_wp2
    all_goals go_meet
    all_goals exact ⟨rfl, HB5.out⟩
  case rest =>
    obtain ⟨rfl, hb3⟩ := hcut
    have HB3 : Hid (Below w.heap.size w wc) := hb3
    clear hb3 HSM HBD
    cases r with
    | false =>
      have HN : Hid (readE xs = none) := readE_sum HL.out.1 (by rw [HL.out.2]; exact of_decide_eq_false HRR.out)
      go_wp2
      go_ret2
      exact ⟨.inr ⟨HN.out, rfl⟩, HB3.out⟩
    | true =>
      go_wp2_with fail
      refine (HCU.out _ HB3.out).mono ?_
      rintro e w4 ⟨hcut, hb4⟩
      have HB4 : Hid (Below w.heap.size w w4) := below_bt HB3.out hb4
      rcases hcut with ⟨l, v, hce, rfl, hown⟩ | ⟨q, m, cq, hce, rfl⟩
      · obtain ⟨q, cq, rfl, _, _, _⟩ := hown.form
        obtain ⟨C, hC⟩ : ∃ C, checkE l = C := ⟨_, rfl⟩
        have HCH := Check_any q l.length cq l w4 ⟨rfl, hown.ents⟩ C hC
        have HRE : Hid (readE xs = if C = 0 then some l else none) := by
          show _ = _
          rw [readE_chk HL.out.1 (by rw [HL.out.2]; exact of_decide_eq_true HRR.out) (l := l) (by rw [HL.out.2]; exact hce), hC]
        have HOW : Hid (EOwn w4 w.heap.size (.slice q l.length cq) l) := own_mono hown HB3.out.size
        clear hown hce hC hb4
        go_wp2_with fail
        refine HCH.mono ?_
        rintro e w5 ⟨rfl, hb5⟩
        have HB5 : Hid (Below w.heap.size w w5) := below_bt HB4.out hb5
        have HO5 : Hid (EOwn w5 w.heap.size (.slice q l.length cq) l) := HOW.out.below hb5
        clear hb5 HCH HOW
        rcases Nat.eq_zero_or_pos C with h0 | h0
        · subst h0
          have HN : Hid (readE xs = some l) := by show _ = _; rw [HRE.out, if_pos rfl]
          go_wp2
          go_ret2
          exact ⟨.inl ⟨l, _, HN.out, rfl, HO5.out⟩, HB5.out⟩
        · have hne : ((C : Int) != 0) = true := by simp; omega
          have HN : Hid (readE xs = none) := by show _ = _; rw [HRE.out, if_neg (by omega)]
          clear h0
          go_wp2
          go_ret2
          exact ⟨.inr ⟨HN.out, rfl⟩, HB5.out⟩
      · have HN : Hid (readE xs = none) := readE_cut HL.out.1 (by rw [HL.out.2]; exact of_decide_eq_true HRR.out) (by rw [HL.out.2]; exact hce)
        clear hce hb4
        go_wp2
        go_ret2
        exact ⟨.inr ⟨HN.out, rfl⟩, HB4.out⟩
end Go.Proofs.Ytldgnejmmjbhiaa
namespace Go.Proofs.Ytldgnejmmjbhiaa
open Go.RowKit Go.WideShapes

theorem results_cell_tmp2 {fn : Func} {p t u : Tmp} {ty : TypeId} (h : fn.results = #[.cell p ty, .tmp t, .tmp u]) (tmps : Array Value) (P : Program) (w : World) :
    (results fn tmps).run P w = ((asAddr (tmps.getD p undef)).run P w).andThen fun a w₁ => ((loadVar ty a).run P w₁).andThen fun v w₂ => .ok (.tuple #[v, tmps.getD t undef, tmps.getD u undef]) w₂ := by
  simp only [results, h]
  simp [Sem.run_bind, Result.andThen]
theorem set4_below {w w' : World} {a b c d : Value} (h : Below w.heap.size w w') : Below w.heap.size w ((((w'.setCell ⟨w.heap.size, 0, none⟩ a).setCell ⟨w.heap.size, 1, none⟩ b).setCell ⟨w.heap.size, 2, none⟩ c).setCell ⟨w.heap.size, 3, none⟩ d) := (((h.setCell (Nat.le_refl _) _).setCell (Nat.le_refl _) _).setCell (Nat.le_refl _) _).setCell (Nat.le_refl _) _
/-- The first entry with a key. -/
def findE : List EntV → ByteArray → Option EntV
  | [], _ => none
  | x :: l, k => if x.key = k then some x else findE l k
def findR (xs : List Nat) (k : ByteArray) : EntV × Bool × Nat :=
  match readE xs with
  | none => (zeroE, false, 8)
  | some l => if isKeyB k = false then (zeroE, false, 60) else match findE l k with | some x => (x, true, 0) | none => (zeroE, false, 0)
theorem findR_bad {xs : List Nat} (k : ByteArray) (h : readE xs = none) : findR xs k = (zeroE, false, 8) := by unfold findR; rw [h]
theorem findR_key {xs : List Nat} {l : List EntV} {k : ByteArray} (h : readE xs = some l) (hk : isKeyB k = false) : findR xs k = (zeroE, false, 60) := by unfold findR; rw [h]; simp only; rw [if_pos hk]
def pickR : Option EntV → EntV × Bool × Nat
  | some x => (x, true, 0)
  | none => (zeroE, false, 0)
theorem findR_ok {xs : List Nat} {l : List EntV} {k : ByteArray} (h : readE xs = some l) (hk : isKeyB k = true) : findR xs k = pickR (findE l k) := by
  unfold findR
  rw [h]
  simp only
  rw [if_neg (by simp [hk])]
  cases findE l k <;> rfl
theorem findE_at {l : List EntV} {i : Nat} (h : i < l.length) {y : EntV} (hy : l.getD i zeroE = y) (k : ByteArray) : findE (l.drop i) k = if y.key = k then some y else findE (l.drop (i + 1)) k := by
  rw [dropE h, hy]; rfl
set_option maxRecDepth 8000 in
set_option maxHeartbeats 1000000 in
theorem Find_any (p : Option Addr) (n c : Nat) (xs : List Nat) (key : ByteArray) (w : World) (hn : n = xs.length) (hb : BIn w p xs) (hc : n ≤ c ∧ c ≤ maxLen ∧ (p = none → c = 0)) (y : EntV) (is : Bool) (E : Nat) (hR : findR xs key = (y, is, E)) :
    Calls Try.prog 10 #[.slice p n c, .string key] w fun e w' => e = .returned (.tuple #[entV y, .bool is, .int .i64 (E : Int)]) ∧ Below w.heap.size w w' := by
  have HRD := Read_any p n c xs (w.alloc (.cells zE 27)) hn (hb.alloc _) hc
  have HR : Hid (findR xs key = (y, is, E)) := hR
  obtain ⟨r, hr⟩ : ∃ r, isKeyB key = r := ⟨_, rfl⟩
  have HIK := fun w' => isKey_any key w' r hr
  have HRK : Hid (isKeyB key = r) := hr
  have HBA : Hid (Below w.heap.size w (w.alloc (.cells zE 27)) ∧ (w.alloc (.cells zE 27)).heap[w.heap.size]? = some (.cells zE 27 (0, 0))) := ⟨below_alloc _ _, heap_alloc_new _ _⟩
  clear hn hb hc hR hr
  unfold zE at HRD
  go_enter Try.func10, Try.ntmps10
  go_wp2_with fail
  refine HRD.mono ?_
  rintro e w1 ⟨hout, hb1⟩
  have HB1 : Hid (Below w.heap.size w w1) := below_bt HBA.out.1 hb1
  have HX1 : Hid (w1.heap[w.heap.size]? = some (.cells zE 27 (0, 0))) := block_below HBA.out.2 hb1
  obtain ⟨⟨z0, z1, z2, z3⟩, f0, f1, f2, f3⟩ := four HX1.out
  clear hb1 HRD
  rcases hout with ⟨l, v, hre, rfl, hown⟩ | ⟨hre, rfl⟩
  · obtain ⟨q, cq, rfl, _, hq2, _⟩ := hown.form
    have HE : Hid (EntsIn w1 q l) := hown.ents
    have hll : (l.length : Int) ≤ 9223372036854775807 := by unfold maxLen at hq2; have := hown.form; omega
    cases r with
    | false =>
      have HY : Hid (y = zeroE ∧ is = false ∧ E = 60) := by
        have := findR_key hre HRK.out
        rw [HR.out] at this
        show _ ∧ _
        simpa using this
      clear hown hre
      go_wp2_with fail
      refine (HIK _).mono ?_
      rintro e w2 ⟨rfl, rfl⟩
      go_wp2
      (try simp only [Exit.inBlock, Exit.then])
      refine bodyPost_ret (v := .tuple #[entV zeroE, .bool false, .int .i64 60]) ?_ rfl ⟨by rw [HY.out.1, HY.out.2.1, HY.out.2.2]; rfl, set4_below HB1.out⟩
      rw [results_cell_tmp2 rfl]
      go_simp
      rfl
    | true =>
      have HF : Hid (pickR (findE (l.drop 0) key) = (y, is, E)) := by
        have := findR_ok hre HRK.out
        rw [HR.out] at this
        exact this.symm
      clear hown hre
      go_wp2_with fail
      refine (HIK _).mono ?_
      rintro e w2 ⟨rfl, rfl⟩
      clear HIK z0 z1 z2 z3 f0 f1 f2 f3
      go_wp2
      go_loopw [26] (fun i wr => ∃ k : Nat, k ≤ l.length ∧ i = .int .i64 k ∧ pickR (findE (l.drop k) key) = (y, is, E) ∧ Below w2.heap.size w2 wr) (fun i _ => l.length - (intOf i).toNat)
      case atStart => exact ⟨0, by omega, rfl, HF.out, Below.refl _ _⟩
      case round =>
        obtain ⟨k, hk, rfl, hf, hbel⟩ := hrel
        have HK : Hid (pickR (findE (l.drop k) key) = (y, is, E)) := hf
        have HB : Hid (Below w2.heap.size w2 wr) := hbel
        obtain ⟨⟨z0, z1, z2, z3⟩, f0, f1, f2, f3⟩ := four (block_below HX1.out hbel)
        clear hf hbel
        by_cases hkl : k < l.length
        · obtain ⟨b, o, rfl⟩ := HE.out.addr (by omega)
          obtain ⟨e0, e1, e2, e3⟩ := (HE.out.below HB.out).at hkl
          obtain ⟨x, hx⟩ : ∃ x, l.getD k zeroE = x := ⟨_, rfl⟩
          rw [hx] at e0 e1 e2 e3
          have HFA := findE_at hkl hx key
          obtain ⟨ke, ve, se, ge⟩ := x
          simp only at e0 e1 e2 e3 HFA
          have hkn : (k : Int) < (l.length : Int) := by omega
          by_cases hke : ke = key
          · subst hke
            rw [if_pos rfl] at HFA
            have HY : Hid (y = ⟨ke, ve, se, ge⟩ ∧ is = true ∧ E = 0) := by
              have := HK.out
              rw [HFA] at this
              show _ ∧ _
              simp only [pickR, Prod.mk.injEq] at this
              exact ⟨this.1.symm, this.2.1.symm, this.2.2.symm⟩
            have hlt : w.heap.size < wr.heap.size := lt_heap (block_below HX1.out HB.out)
            have hne1 : ¬ w.heap.size = wr.heap.size := by omega
            have hne2 : ¬ wr.heap.size = w.heap.size := by omega
            obtain ⟨⟨y0, y1, y2, y3⟩, g0, g1, g2, g3⟩ := four (block_below (block_below HX1.out HB.out) (below_alloc wr (.cells #[.string ke, .string ve, .int .i64 se, .bool ge] 27)))
            clear HFA hx
            go_wp2
            (try simp only [Exit.inBlock, Exit.then])
            refine bodyPost_ret (v := .tuple #[entV ⟨ke, ve, se, ge⟩, .bool true, .int .i64 0]) ?_ rfl ⟨by rw [HY.out.1, HY.out.2.1, HY.out.2.2]; rfl, ?_⟩
            · rw [results_cell_tmp2 rfl]
              go_simp
              rfl
            · exact below_bt (set4_below (below_bt HB1.out HB.out)) (below_alloc _ _)
          · have g3 : (ke.toList == key.toList) = false := by rw [eq_str]; simp [hke]
            rw [if_neg hke] at HFA
            have H2 : Hid (pickR (findE (l.drop (k + 1)) key) = (y, is, E)) := by rw [← HFA]; exact HK.out
            clear HFA hx hke
            go_wp2
            go_roundw
            case rel => exact ⟨k + 1, by omega, by go_num, H2.out, below_bt HB.out (below_alloc _ _)⟩
            case measure => simp [intOf]; omega
        · have g2 : (l.length : Int) ≤ (k : Int) := by omega
          have HY : Hid (y = zeroE ∧ is = false ∧ E = 0) := by
            have := HK.out
            rw [List.drop_eq_nil_of_le (by omega)] at this
            show _ ∧ _
            simp only [findE, pickR, Prod.mk.injEq] at this
            exact ⟨this.1.symm, this.2.1.symm, this.2.2.symm⟩
          go_wp2
          (try simp only [Exit.inBlock, Exit.then])
          refine bodyPost_ret (v := .tuple #[entV zeroE, .bool false, .int .i64 0]) ?_ rfl ⟨by rw [HY.out.1, HY.out.2.1, HY.out.2.2]; rfl, set4_below (below_bt HB1.out HB.out)⟩
          rw [results_cell_tmp2 rfl]
          go_simp
          rfl
  · have HY : Hid (y = zeroE ∧ is = false ∧ E = 8) := by
      have := findR_bad key hre
      rw [HR.out] at this
      show _ ∧ _
      simpa using this
    clear hre
    go_wp2
    (try simp only [Exit.inBlock, Exit.then])
    refine bodyPost_ret (v := .tuple #[entV zeroE, .bool false, .int .i64 8]) ?_ rfl ⟨by rw [HY.out.1, HY.out.2.1, HY.out.2.2]; rfl, set4_below HB1.out⟩
    rw [results_cell_tmp2 rfl]
    go_simp
    rfl
end Go.Proofs.Ytldgnejmmjbhiaa
namespace Go.Proofs.Ytldgnejmmjbhiaa
open Go.RowKit Go.WideShapes

def twoL : List EntV := [⟨⟨#[97, 98]⟩, ⟨#[120]⟩, 1, false⟩, ⟨⟨#[97, 98, 99]⟩, ByteArray.empty, 0, true⟩]
theorem two_any (w : World) : Calls Try.prog 27 #[] w fun e w' => e = .returned (.slice (some ⟨w.heap.size, 0, none⟩) 2 2) ∧ EntsL w' (some ⟨w.heap.size, 0, none⟩) 2 twoL ∧ Below w.heap.size w w' := by
  go_enter Try.func27, Try.ntmps27
  go_wp2
  go_ret
  refine ⟨rfl, ⟨rfl, fun _ => ⟨w.heap.size, 0, rfl, fun i hi => ?_⟩⟩, below_alloc _ _⟩
  have hh := heap_alloc_new w (.cells #[.string ⟨#[97, 98]⟩, .string ⟨#[120]⟩, .int .i64 1, .bool false, .string ⟨#[97, 98, 99]⟩, .string ⟨#[]⟩, .int .i64 0, .bool true] 27)
  have hi2 : i = 0 ∨ i = 1 := by simp only [twoL, List.length_cons, List.length_nil] at hi; omega
  rcases hi2 with rfl | rfl
  · exact ⟨Lib.cell_of_heap hh 0, Lib.cell_of_heap hh 1, Lib.cell_of_heap hh 2, Lib.cell_of_heap hh 3⟩
  · exact ⟨Lib.cell_of_heap hh 4, Lib.cell_of_heap hh 5, Lib.cell_of_heap hh 6, Lib.cell_of_heap hh 7⟩
theorem check_two : checkE twoL = 0 := by decide +kernel
theorem body_two : bodyN twoL = [2, 0, 2, 97, 98, 1, 0, 1, 120, 2, 1, 99, 0, 1] := by
  have n1 : numsOf ⟨#[97, 98]⟩ = [97, 98] := rfl
  have n2 : numsOf ⟨#[120]⟩ = [120] := rfl
  have n3 : numsOf ⟨#[97, 98, 99]⟩ = [97, 98, 99] := rfl
  have z2 : (⟨#[120]⟩ : ByteArray).size = 1 := rfl
  simp [bodyN, twoL, entsN, entN, keyN, tailN, n1, n2, n3, sharedN, smallN_lo, z2]
theorem make_two : ∃ ys, makeE twoL = (ys, 0) ∧ ys.length = 18 ∧ ys.take 12 = [2, 0, 2, 97, 98, 1, 0, 1, 120, 2, 1, 99] ∧ ∀ c ∈ ys, c < 256 := by
  have hl : (pageN twoL).length = 18 := by rw [page_len, body_two]; rfl
  refine ⟨pageN twoL, makeE_all check_two (by rw [body_two]; decide), hl, ?_, pageN_lt _⟩
  unfold pageN
  rw [body_two]
  rfl
set_option maxHeartbeats 1000000 in
theorem alive_any (w : World) : Calls Try.prog 11 #[] w fun e w' => e = .returned (.bool true) ∧ Below w.heap.size w w' := by
  obtain ⟨ys, hm, hl, ht, hy⟩ := make_two
  have HM : Hid (makeE twoL = (ys, 0) ∧ ys.length = 18 ∧ ys.take 12 = [2, 0, 2, 97, 98, 1, 0, 1, 120, 2, 1, 99] ∧ ∀ c ∈ ys, c < 256) := ⟨hm, hl, ht, hy⟩
  clear hm hl ht hy
  go_enter Try.func11, Try.ntmps11
  go_wp2_with fail
  refine (two_any _).mono ?_
  rintro e w1 ⟨rfl, he1, hb1⟩
  have HB1 : Hid (Below w.heap.size w w1) := hb1
  have HMK := Make_any _ 2 2 twoL w1 he1 ys 0 HM.out.1
  clear he1 hb1
  go_wp2_with fail
  refine HMK.mono ?_
  rintro e w2 ⟨v, rfl, ho2, hb2⟩
  obtain ⟨p, c, rfl, hc1, hc2, hc3⟩ := own_form ho2
  have HB2 : Hid (Below w.heap.size w w2) := below_bt HB1.out hb2
  have hcv := conv_bytes (own_in ho2 HM.out.2.2.2 |>.take' 12) (n := 12) (by rw [HM.out.2.2.1]; rfl) c
  have hc9 : (12 : Int) ≤ (c : Int) := by have := HM.out.2.1; omega
  have hq : ((strOf (ys.take 12)).toList == [2, 0, 2, 97, 98, 1, 0, 1, 120, 2, 1, 99]) = true := by rw [HM.out.2.2.1]; decide +kernel
  rw [HM.out.2.1]
  clear ho2 hb2 HMK hc1 hc2 hc3
  go_wp2
  go_ret
  exact ⟨rfl, HB2.out⟩
set_option maxRecDepth 8000 in
set_option maxHeartbeats 1000000 in
theorem same_yes (qa qb : Option Addr) (n ca cb : Nat) (l : List EntV) (w : World) (hn : n = l.length) (hnb : (n : Int) ≤ 1000000) (ha : EntsIn w qa l) (hb : EntsIn w qb l) :
    Calls Try.prog 22 #[.slice qa n ca, .slice qb n cb] w fun e w' => e = .returned (.bool true) ∧ Below w.heap.size w w' := by
  have HA : Hid (EntsIn w qa l) := ha
  have HB : Hid (EntsIn w qb l) := hb
  have HN : Hid (n = l.length) := hn
  clear ha hb hn
  go_enter Try.func22, Try.ntmps22
  go_wp2
  go_loopw [5] (fun i wr => ∃ k : Nat, k ≤ n ∧ i = .int .i64 k ∧ Below w.heap.size w wr) (fun i _ => n - (intOf i).toNat)
  case atStart => exact ⟨0, by omega, rfl, Below.refl _ _⟩
  case round =>
    obtain ⟨k, hk, rfl, hbel⟩ := hrel
    have HBE : Hid (Below w.heap.size w wr) := hbel
    clear hbel
    by_cases hkn : k < n
    · have g1 : decide (k < n) = true := decide_eq_true hkn
      have hkI : (k : Int) < (n : Int) := by omega
      obtain ⟨ba, oa, rfl⟩ := HA.out.addr (by have := HN.out; omega)
      obtain ⟨bb, ob, rfl⟩ := HB.out.addr (by have := HN.out; omega)
      obtain ⟨x, hx⟩ : ∃ x, l.getD k zeroE = x := ⟨_, rfl⟩
      obtain ⟨x0, x1, x2, x3⟩ := (HA.out.below HBE.out).at (k := k) (by have := HN.out; omega)
      obtain ⟨y0, y1, y2, y3⟩ := (HB.out.below HBE.out).at (k := k) (by have := HN.out; omega)
      rw [hx] at x0 x1 x2 x3 y0 y1 y2 y3
      obtain ⟨kx, vx, sx, gx⟩ := x
      simp only at x0 x1 x2 x3 y0 y1 y2 y3
      clear hx
      go_wp2
      go_quiet (fail)
      go_wp2
      go_roundw
      case rel => exact ⟨k + 1, by omega, by go_num, below_drewN HBE.out _⟩
      case measure => simp [intOf]; omega
    · have g1 : decide (k < n) = false := decide_eq_false hkn
      have hkI : (n : Int) ≤ (k : Int) := by omega
      go_wp2
      go_ret
      exact ⟨rfl, HBE.out⟩
end Go.Proofs.Ytldgnejmmjbhiaa
namespace Go.Proofs.Ytldgnejmmjbhiaa
open Go.RowKit Go.WideShapes

set_option maxRecDepth 8000 in
set_option maxHeartbeats 1000000 in
theorem heavy_any (q : Option Addr) (n c : Nat) (l : List EntV) (w : World) (h : EntsL w q n l) (hn : (n : Int) ≤ 9223372036854775807) :
    Calls Try.prog 13 #[.slice q n c] w fun e w' => (∃ r : Bool, e = .returned (.bool r) ∧ (r = false → n ≤ 5000)) ∧ Below w.heap.size w w' := by
  have HN : Hid (n = l.length) := h.n
  have HQ : Hid (EntsIn w q l) := h.lies
  clear h
  go_enter Try.func13, Try.ntmps13
  go_wp2
  go_loopw [3, 4] (fun t i wr => ∃ k : Nat, ∃ z : Int, k ≤ n ∧ i = .int .i64 k ∧ t = .int .i64 z ∧ Below w.heap.size w wr) (fun _ i _ => n - (intOf i).toNat)
  case atStart => exact ⟨0, 0, by omega, rfl, rfl, Below.refl _ _⟩
  case round =>
    obtain ⟨k, z, hk, rfl, rfl, hbel⟩ := hrel
    have HBE : Hid (Below w.heap.size w wr) := hbel
    clear hbel
    by_cases hkn : k < n
    · have g1 : decide (k < n) = true := decide_eq_true hkn
      have hkI : (k : Int) < (n : Int) := by omega
      have hk0 : (0 : Int) ≤ (k : Int) := by omega
      obtain ⟨ba, oa, rfl⟩ := HQ.out.addr (by have := HN.out; omega)
      obtain ⟨x0, x1, _, _⟩ := (HQ.out.below HBE.out).at (k := k) (by have := HN.out; omega)
      generalize (l.getD k zeroE).key = ke at *
      generalize (l.getD k zeroE).val = ve at *
      go_wp2
      go_region
      go_wp2
      go_roundw
      case rel => exact ⟨k + 1, _, by omega, by go_num, rfl, HBE.out.drew⟩
      case measure => simp [intOf]; omega
    · have g1 : decide (k < n) = false := decide_eq_false hkn
      have hkI : (n : Int) ≤ (k : Int) := by omega
      by_cases h5 : n ≤ 5000
      · have HR : Hid (n ≤ 5000) := h5
        clear h5
        by_cases h4 : n ≤ 400
        · have q1 : decide ((400 : Int) < (n : Int)) = false := decide_eq_false (by omega)
          have q2 : decide ((5000 : Int) < (n : Int)) = false := decide_eq_false (by omega)
          clear h4
          go_wp2
          go_ret
          exact ⟨⟨_, rfl, fun _ => HR.out⟩, HBE.out⟩
        · have q1 : decide ((400 : Int) < (n : Int)) = true := decide_eq_true (by omega)
          by_cases h6 : n ≤ 4096
          · have q2 : decide ((n : Int) ≤ 4096) = true := decide_eq_true (by omega)
            clear h4 h6
            go_wp2
            go_ret
            exact ⟨⟨_, rfl, fun _ => HR.out⟩, HBE.out⟩
          · have q2 : decide ((n : Int) ≤ 4096) = false := decide_eq_false (by omega)
            have q3 : decide ((5000 : Int) < (n : Int)) = false := decide_eq_false (by have := HR.out; omega)
            clear h4 h6
            go_wp2
            go_ret
            exact ⟨⟨_, rfl, fun _ => HR.out⟩, HBE.out⟩
      · have q1 : decide ((400 : Int) < (n : Int)) = true := decide_eq_true (by omega)
        have q2 : decide ((n : Int) ≤ 4096) = false := decide_eq_false (by omega)
        have q3 : decide ((5000 : Int) < (n : Int)) = true := decide_eq_true (by omega)
        clear h5
        go_wp2
        go_ret
        exact ⟨⟨_, rfl, fun h => by cases h⟩, HBE.out⟩
end Go.Proofs.Ytldgnejmmjbhiaa
namespace Go.Proofs.Ytldgnejmmjbhiaa
open Go.RowKit Go.WideShapes

theorem xor_half (a b : Nat) : (a ^^^ b) / 2 = a / 2 ^^^ b / 2 := by
  have := Nat.xor_div_two_pow (a := a) (b := b) (n := 1)
  simpa using this
theorem xor_low (a b : Nat) : (a ^^^ b) % 2 = (a % 2 + b % 2) % 2 := by
  have h := Nat.xor_mod_two_pow (a := a) (b := b) (n := 1)
  simp only [Nat.pow_one] at h
  rw [h]
  rcases Nat.mod_two_eq_zero_or_one a with h1 | h1 <;> rcases Nat.mod_two_eq_zero_or_one b with h2 | h2 <;> rw [h1, h2] <;> rfl
theorem crcBit_xor (a b : Nat) : crcBit (a ^^^ b) = crcBit a ^^^ crcBit b := by
  unfold crcBit
  rw [xor_low, xor_half]
  generalize (3988292384 : Nat) = P
  rcases Nat.mod_two_eq_zero_or_one a with h1 | h1 <;> rcases Nat.mod_two_eq_zero_or_one b with h2 | h2 <;> rw [h1, h2]
  · simp
  · simp only [Nat.zero_add, Nat.mod_succ, if_true, Nat.zero_ne_one, if_false, Nat.xor_assoc]
  · simp only [Nat.add_zero, Nat.mod_succ, if_true, Nat.zero_ne_one, if_false]
    rw [Nat.xor_assoc, Nat.xor_comm (b / 2) P, ← Nat.xor_assoc]
  · simp only [Nat.reduceAdd, Nat.mod_self, Nat.zero_ne_one, if_false, if_true]
    rw [Nat.xor_assoc (a / 2) P, ← Nat.xor_assoc P, Nat.xor_comm P (b / 2), Nat.xor_assoc (b / 2), Nat.xor_self, Nat.xor_zero]
theorem crcBits_xor (k a b : Nat) : crcBits k (a ^^^ b) = crcBits k a ^^^ crcBits k b := by
  induction k with
  | zero => rfl
  | succ k ih => rw [crcBits, ih, crcBit_xor]; rfl
theorem crcBits_add (j k r : Nat) : crcBits (j + k) r = crcBits j (crcBits k r) := by
  induction j with
  | zero => simp [crcBits]
  | succ j ih => rw [show j + 1 + k = (j + k) + 1 from by omega, crcBits, ih]; rfl
theorem crcBit_zero {r : Nat} (hr : r < 4294967296) (h : crcBit r = 0) : r = 0 := by
  unfold crcBit at h
  split at h
  · have : r / 2 = 3988292384 := by
      have h2 := congrArg (· ^^^ 3988292384) h
      simp only [Nat.xor_assoc, Nat.xor_self, Nat.xor_zero, Nat.zero_xor] at h2
      exact h2
    omega
  · omega
theorem crcBits_zero (k : Nat) {r : Nat} (hr : r < 4294967296) (h : crcBits k r = 0) : r = 0 := by
  induction k with
  | zero => exact h
  | succ k ih => exact ih (crcBit_zero (crcBits_lt k r hr) h)
theorem crcBits_of_zero (k : Nat) : crcBits k 0 = 0 := by
  induction k with
  | zero => rfl
  | succ k ih => rw [crcBits, ih]; rfl
theorem xor_eq_zero {a b : Nat} (h : a ^^^ b = 0) : a = b := by
  have h2 := congrArg (· ^^^ b) h
  simp only [Nat.xor_assoc, Nat.xor_self, Nat.xor_zero, Nat.zero_xor] at h2
  exact h2
theorem xor_left {a b c : Nat} (h : a ^^^ b = a ^^^ c) : b = c := by
  have h2 := congrArg (a ^^^ ·) h
  simp only [← Nat.xor_assoc, Nat.xor_self, Nat.zero_xor] at h2
  exact h2
theorem xor_move {a b c : Nat} (h : a ^^^ b = c) : a = b ^^^ c := by
  rw [← h, Nat.xor_comm a b, ← Nat.xor_assoc, Nat.xor_self, Nat.zero_xor]
theorem crcBits_inj (k : Nat) {a b : Nat} (ha : a < 4294967296) (hb : b < 4294967296) (h : crcBits k a = crcBits k b) : a = b := by
  apply xor_eq_zero
  apply crcBits_zero k (Nat.xor_lt_two_pow (n := 32) ha hb)
  rw [crcBits_xor, h, Nat.xor_self]
theorem crcBits_shift (k y : Nat) : crcBits k (2 ^ k * y) = y := by
  induction k generalizing y with
  | zero => simp [crcBits]
  | succ k ih =>
    rw [crcBits, Nat.pow_succ, Nat.mul_assoc, ih]
    unfold crcBit
    rw [if_neg (by omega)]; omega
theorem crc_add (l : List Nat) : ∀ r d, crc (r ^^^ d) l = crc r l ^^^ crcBits (8 * l.length) d := by
  induction l with
  | nil => intro r d; rfl
  | cons c l ih =>
    intro r d
    show crc (crcBits 8 (r ^^^ d ^^^ c)) l = crc (crcBits 8 (r ^^^ c)) l ^^^ _
    rw [show r ^^^ d ^^^ c = (r ^^^ c) ^^^ d from by rw [Nat.xor_assoc, Nat.xor_comm d c, ← Nat.xor_assoc], crcBits_xor, ih]
    congr 1
    rw [List.length_cons, Nat.mul_add, Nat.mul_one, crcBits_add]
/-- One byte that is another one. -/
theorem crc_set (x : Nat) (l : List Nat) : ∀ (p r : Nat), p < l.length → crc r (l.set p (l.getD p 0 ^^^ x)) = crc r l ^^^ crcBits (8 * (l.length - p)) x := by
  induction l with
  | nil => intro p r h; simp at h
  | cons c l ih =>
    intro p r h
    cases p with
    | zero =>
      show crc (crcBits 8 (r ^^^ (c ^^^ x))) l = crc (crcBits 8 (r ^^^ c)) l ^^^ _
      rw [← Nat.xor_assoc, crcBits_xor, crc_add]
      congr 1
      rw [List.length_cons, Nat.sub_zero, Nat.mul_add, Nat.mul_one, crcBits_add]
    | succ p =>
      have hp : p < l.length := by simpa using h
      show crc (crcBits 8 (r ^^^ c)) (l.set p (l.getD p 0 ^^^ x)) = crc (crcBits 8 (r ^^^ c)) l ^^^ _
      rw [ih p _ hp]
      congr 2
      simp
/-- The sum of the bytes by which fourX were changed. -/
def turnT (x : Nat → Nat) : Nat → Nat
  | 0 => 0
  | k + 1 => crcBits 8 (turnT x k ^^^ x k)
/-- The bytes, of which those from 'at' on are changed. -/
def turnL (xs : List Nat) (p : Nat) (x : Nat → Nat) : Nat → List Nat
  | 0 => xs
  | k + 1 => (turnL xs p x k).set (p + k) ((turnL xs p x k).getD (p + k) 0 ^^^ x k)
def turnB (x : Nat → Nat) : Nat → Bool
  | 0 => false
  | k + 1 => turnB x k || decide (x k ≠ 0)
theorem turnL_len (xs : List Nat) (p : Nat) (x : Nat → Nat) (k : Nat) : (turnL xs p x k).length = xs.length := by
  induction k with
  | zero => rfl
  | succ k ih => rw [turnL, List.length_set, ih]
theorem turnL_bytes {xs : List Nat} (p : Nat) {x : Nat → Nat} (hx : ∀ c ∈ xs, c < 256) (hb : ∀ k, x k < 256) (k : Nat) : ∀ c ∈ turnL xs p x k, c < 256 := by
  induction k with
  | zero => exact hx
  | succ k ih =>
    intro c hc
    rcases List.mem_or_eq_of_mem_set hc with h | h
    · exact ih c h
    · rw [h]; exact Nat.xor_lt_two_pow (n := 8) (getD_lt ih _) (hb k)
theorem crc_turn (xs : List Nat) (p : Nat) (x : Nat → Nat) (r k : Nat) (h : p + k ≤ xs.length) : crc r (turnL xs p x k) = crc r xs ^^^ crcBits (8 * (xs.length - p - k)) (turnT x k) := by
  induction k with
  | zero => simp [turnL, turnT, crcBits_of_zero]
  | succ k ih =>
    rw [turnL, crc_set _ _ _ _ (by rw [turnL_len]; omega), turnL_len, ih (by omega), Nat.xor_assoc]
    congr 1
    rw [show xs.length - (p + k) = xs.length - p - k from by omega, ← crcBits_xor, turnT, ← crcBits_add]
    congr 1
    omega
theorem turnT_lt {x : Nat → Nat} (hb : ∀ k, x k < 256) (k : Nat) : turnT x k < 4294967296 := by
  cases k with
  | zero => show (0 : Nat) < 4294967296; decide
  | succ k =>
    rw [turnT]
    induction k with
    | zero => exact crcBits_lt 8 _ (Nat.xor_lt_two_pow (n := 32) (show (0 : Nat) < 4294967296 by decide) (by have := hb 0; omega))
    | succ k ih => exact crcBits_lt 8 _ (Nat.xor_lt_two_pow (n := 32) ih (by have := hb (k + 1); omega))
/-- Four bytes, not all of them 0, have a sum that is not 0. -/
theorem fourX {x0 x1 x2 x3 : Nat} (h0 : x0 < 256) (h1 : x1 < 256) (h2 : x2 < 256) (h3 : x3 < 256)
    (h : crcBits 8 (crcBits 8 (crcBits 8 (crcBits 8 x0 ^^^ x1) ^^^ x2) ^^^ x3) = 0) : x0 = 0 ∧ x1 = 0 ∧ x2 = 0 ∧ x3 = 0 := by
  have b0 := crcBits_lt 8 x0 (by omega)
  have b1 : crcBits 8 x0 ^^^ x1 < 4294967296 := Nat.xor_lt_two_pow (n := 32) b0 (by omega)
  have b2 : crcBits 8 (crcBits 8 x0 ^^^ x1) ^^^ x2 < 4294967296 := Nat.xor_lt_two_pow (n := 32) (crcBits_lt 8 _ b1) (by omega)
  have b3 : crcBits 8 (crcBits 8 (crcBits 8 x0 ^^^ x1) ^^^ x2) ^^^ x3 < 4294967296 := Nat.xor_lt_two_pow (n := 32) (crcBits_lt 8 _ b2) (by omega)
  have e3 := xor_eq_zero (crcBits_zero 8 b3 h)
  have y2 : x2 ^^^ 256 * x3 < 65536 := Nat.xor_lt_two_pow (n := 16) (by omega) (by omega)
  have y1 : x1 ^^^ 256 * (x2 ^^^ 256 * x3) < 16777216 := Nat.xor_lt_two_pow (n := 24) (by omega) (by omega)
  have s3 : crcBits 8 (crcBits 8 x0 ^^^ x1) ^^^ x2 = 256 * x3 := crcBits_inj 8 b2 (by omega) (by rw [e3]; exact (crcBits_shift 8 x3).symm)
  have f2 : crcBits 8 (crcBits 8 x0 ^^^ x1) = x2 ^^^ 256 * x3 := xor_move s3
  have s2 : crcBits 8 x0 ^^^ x1 = 256 * (x2 ^^^ 256 * x3) := crcBits_inj 8 b1 (by omega) (by rw [f2]; exact (crcBits_shift 8 _).symm)
  have f1 : crcBits 8 x0 = x1 ^^^ 256 * (x2 ^^^ 256 * x3) := xor_move s2
  have s1 : x0 = 256 * (x1 ^^^ 256 * (x2 ^^^ 256 * x3)) := crcBits_inj 8 (by omega) (by omega) (by rw [f1]; exact (crcBits_shift 8 _).symm)
  have z1 : x1 ^^^ 256 * (x2 ^^^ 256 * x3) = 0 := by omega
  have w1 := xor_eq_zero z1
  have z2 : x2 ^^^ 256 * x3 = 0 := by omega
  have w2 := xor_eq_zero z2
  omega
theorem turn_none {x : Nat → Nat} (hb : ∀ k, x k < 256) {m : Nat} (hm : m ≤ 4) (h : turnT x m = 0) : turnB x m = false := by
  have z := crcBits_of_zero 8
  match m, hm with
  | 0, _ => rfl
  | 1, _ =>
    have := fourX (x0 := 0) (x1 := 0) (x2 := 0) (by decide) (by decide) (by decide) (hb 0) (by rw [z, Nat.xor_self, z, Nat.xor_self, z]; exact h)
    simp [turnB, this.2.2.2]
  | 2, _ =>
    have := fourX (x0 := 0) (x1 := 0) (by decide) (by decide) (hb 0) (hb 1) (by rw [z, Nat.xor_self, z]; exact h)
    simp [turnB, this.2.2.2, this.2.2.1]
  | 3, _ =>
    have := fourX (x0 := 0) (by decide) (hb 0) (hb 1) (hb 2) (by rw [z]; exact h)
    simp [turnB, this.2.2.2, this.2.2.1, this.2.1]
  | 4, _ =>
    have := fourX (hb 0) (hb 1) (hb 2) (hb 3) (by have h2 := h; simp only [turnT, Nat.zero_xor] at h2; exact h2)
    simp [turnB, this.2.2.2, this.2.2.1, this.2.1, this.1]
theorem turnT_of_none {x : Nat → Nat} {m : Nat} (h : turnB x m = false) : turnT x m = 0 := by
  induction m with
  | zero => rfl
  | succ m ih =>
    simp only [turnB, Bool.or_eq_false_iff, decide_eq_false_iff_not, Decidable.not_not] at h
    rw [turnT, ih h.1, h.2]
    exact crcBits_of_zero 8
theorem sum_turn {xs : List Nat} {p : Nat} {x : Nat → Nat} (hb : ∀ k, x k < 256) {m : Nat} (hm : m ≤ 4) (hp : p + m ≤ xs.length) : ((sumN xs : Int) == (sumN (turnL xs p x m) : Int)) = !(turnB x m) := by
  have hlt := turnT_lt hb m
  rw [Bool.eq_iff_iff]
  simp only [beq_iff_eq, Bool.not_eq_true', Int.ofNat_inj]
  unfold sumN
  rw [crc_turn xs p x _ m hp]
  constructor
  · intro h
    apply turn_none hb hm
    apply crcBits_zero (8 * (xs.length - p - m)) hlt
    have h2 := xor_left h
    rw [show crc 4294967295 xs = crc 4294967295 xs ^^^ 0 from (Nat.xor_zero _).symm, Nat.xor_assoc, Nat.zero_xor] at h2
    exact (xor_left h2).symm
  · intro h
    rw [turnT_of_none h, crcBits_of_zero, Nat.xor_zero]
end Go.Proofs.Ytldgnejmmjbhiaa
namespace Go.Proofs.Ytldgnejmmjbhiaa
open Go.RowKit Go.WideShapes

theorem sum4_inj {a b : List Nat} (ha : ∀ c ∈ a, c < 256) (hb : ∀ c ∈ b, c < 256) (h : sum4 a = sum4 b) : sumN a = sumN b := by
  have h1 := sumN_lt ha
  have h2 := sumN_lt hb
  unfold sum4 putN at h
  simp only [List.take_succ_cons, List.take_zero, List.cons.injEq, and_true] at h
  omega
theorem xor_ne {x y : Nat} (h : y ≠ 0) : x ^^^ y ≠ x := by
  intro e
  have : x ^^^ y = x ^^^ 0 := by rw [e]; simp
  exact h (xor_left this)
theorem xor_byte {x y : Nat} (hx : x < 256) (hy : y < 256) : x ^^^ y < 256 := Nat.xor_lt_two_pow (n := 8) hx hy
theorem sum_one {xs : List Nat} {p y : Nat} (hp : p < xs.length) (hy : y ≠ 0) (hy2 : y < 256) : sumN (xs.set p (xs.getD p 0 ^^^ y)) ≠ sumN xs := by
  intro e
  unfold sumN at e
  have e1 := xor_left e
  rw [crc_set y xs p 4294967295 hp] at e1
  have e2 : crcBits (8 * (xs.length - p)) y ≠ 0 := fun h0 => hy (crcBits_zero _ (by omega) h0)
  exact xor_ne e2 e1
theorem set_byte {xs : List Nat} {p y : Nat} (h : ∀ c ∈ xs, c < 256) (hy : y < 256) : ∀ c ∈ xs.set p (xs.getD p 0 ^^^ y), c < 256 := by
  intro c hc
  rcases List.mem_or_eq_of_mem_set hc with h1 | h1
  · exact h c h1
  · rw [h1]; exact xor_byte (getD_lt h p) hy
theorem turned_none {l : List EntV} {ys : List Nat} (h : makeE l = (ys, 0)) {p y : Nat} (hp : p < ys.length) (hy : y ≠ 0) (hy2 : y < 256) : readE (ys.set p (ys.getD p 0 ^^^ y)) = none := by
  obtain ⟨_, rfl, hl⟩ := makeE_ok h
  obtain ⟨p1, p2, p3, p4⟩ := page_cut l
  refine readE_sum (by rw [List.length_set]; omega) ?_
  rw [List.length_set, p1]
  rcases Nat.lt_or_ge p (bodyN l).length with hb | hb
  · have hg : (pageN l).getD p 0 = (bodyN l).getD p 0 := by
      unfold pageN
      rw [List.getD_eq_getElem?_getD, List.getD_eq_getElem?_getD, List.getElem?_append_left hb]
    rw [List.drop_set, if_pos hb, List.take_set, p2, p3, hg]
    intro e
    exact sum_one hb hy hy2 (sum4_inj (set_byte (bodyN_lt l) hy2) (bodyN_lt l) e.symm)
  · have hset : ∀ v, (bodyN l).set p v = bodyN l := fun v => List.set_eq_of_length_le hb
    rw [List.drop_set, if_neg (by omega), List.take_set, p2, p3, hset]
    intro e
    have hlen := page_len l
    have hlt : p - (bodyN l).length < (sum4 (bodyN l)).length := by rw [sum4_len]; omega
    have hg : (pageN l).getD p 0 = (sum4 (bodyN l)).getD (p - (bodyN l).length) 0 := by
      unfold pageN
      rw [List.getD_eq_getElem?_getD, List.getD_eq_getElem?_getD, List.getElem?_append_right hb]
    have e2 := congrArg (fun z => z.getD (p - (bodyN l).length) 0) e

    rw [List.getD_eq_getElem?_getD, List.getElem?_set, if_pos rfl, if_pos hlt, hg] at e2
    exact xor_ne hy e2
/-- A row of one's own that is not empty, and a byte of it written over. -/
theorem own_some {w : World} {base n : Nat} {q : Option Addr} {m : Nat} {xs : List Value} (h : w.ownsRow base 5 1 (.slice q n m) n xs) (hn : 0 < n) : ∃ g cur, q = some ⟨g, 0, none⟩ ∧ base ≤ g ∧ w.heap[g]? = some (.cells cur 5 (0, 0)) := by
  rcases h.2 with ⟨hv, h0⟩ | ⟨g, cap, cur, hv, hb, hg, _⟩
  · omega
  · simp only [Value.slice.injEq] at hv
    exact ⟨g, cur, hv.1, hb, hg⟩
theorem bin_set {w : World} {g : Nat} {cur : Array Value} {xs : List Nat} (hg : w.heap[g]? = some (.cells cur 5 (0, 0))) (h : BIn w (some ⟨g, 0, none⟩) xs) {p x : Nat} (hx : x < 256) : BIn (w.setCell ⟨g, p, none⟩ (.int .u8 (x : Int))) (some ⟨g, 0, none⟩) (xs.set p x) := by
  refine ⟨fun hp => ⟨g, 0, rfl, fun i hi => ?_⟩, ?_⟩
  · rw [List.length_set] at hi
    have h1 := h.cell i hi
    rw [cell_of_row w g (0 + i) _ _ _ hg] at h1
    rw [cell_of_row _ g (0 + i) _ _ _ (block_set hg _), Nat.zero_add]
    rw [Nat.zero_add] at h1
    have hs : i < cur.size := (Array.getElem?_eq_some_iff.1 h1).1
    rw [List.getD_eq_getElem?_getD, List.getElem?_set]
    by_cases hpi : p = i
    · subst hpi
      rw [if_pos rfl, if_pos hi, Array.getElem?_setIfInBounds_self_of_lt hs]
      rfl
    · rw [if_neg hpi, Array.getElem?_setIfInBounds_ne hpi, h1, List.getD_eq_getElem?_getD]
  · intro c hc
    rcases List.mem_or_eq_of_mem_set hc with h1 | h1
    · exact h.2 c h1
    · rw [h1]; exact hx
end Go.Proofs.Ytldgnejmmjbhiaa
namespace Go.Proofs.Ytldgnejmmjbhiaa.pageTurned
open Go.ChangeShapes Go.WideShapes Go.ChangeAt Go.RowKit
open Go.ChangeMaps (open_string shut_string)
set_option linter.unusedVariables false

theorem own : ownKnob Try.prog.godebug = none := by kernel_rfl
theorem laidOut : laidOutB Try.prog = true := by kernel_rfl

theorem xor8 (a b : Nat) (ha : a < 256) (hb : b < 256) : bits BinOp.xor IntKind.u8 (a : Int) (b : Int) = ((a ^^^ b : Nat) : Int) := u8_xor_nat a b ha hb
set_option maxRecDepth 8000 in
set_option maxHeartbeats 2000000 in
theorem walk (va : Value) (l : List EntV) (at_ : Int) (by_ : Int) (w : World) (ha : Ents w va l) (hat : (Lit.int .i64 at_).wf = true) (hby : (Lit.int .u8 by_).wf = true) :
    Calls Try.prog 7 #[va, .int .i64 at_, .int .u8 by_] w fun e w' => e = .returned (.bool true) ∧ Below w.heap.size w w' := by
  obtain ⟨q, c, rfl, hq, hc1, hc2, hc3⟩ := ha.lies
  have HQ : Hid (EntsIn w q l ∧ (l.length : Int) ≤ 9223372036854775807) := ⟨hq, by unfold maxLen at hc2; omega⟩
  obtain ⟨ys, E, hR⟩ : ∃ ys E, makeE l = (ys, E) := ⟨_, _, rfl⟩
  have HR : Hid (makeE l = (ys, E)) := hR
  have hbb := bounds_u8 hby
  obtain ⟨y, rfl⟩ := Int.eq_ofNat_of_zero_le hbb.1
  have HY : Hid (y < 256) := by show _ < _; omega
  clear ha hq hc1 hc2 hc3 hR hat hby hbb
  go_enter Try.func7, Try.ntmps7
  go_wp2_with fail
  refine (alive_any _).mono ?_
  rintro e w1 ⟨rfl, hb1⟩
  have HB1 : Hid (Below w.heap.size w w1) := hb1
  clear hb1
  go_wp2_with fail
  refine (heavy_any q l.length c l _ ⟨rfl, HQ.out.1.below HB1.out⟩ HQ.out.2).mono ?_
  rintro e w2 ⟨⟨r, rfl, hr⟩, hb2⟩
  have HB2 : Hid (Below w.heap.size w w2) := below_bt HB1.out hb2
  clear hb2 hr
  cases r with
  | true =>
    go_wp2
    go_ret
    exact ⟨rfl, HB2.out⟩
  | false =>
    go_wp2_with fail
    refine (Make_any q l.length c l _ ⟨rfl, HQ.out.1.below HB2.out⟩ ys E HR.out).mono ?_
    rintro e w3 ⟨v3, rfl, ho3, hb3⟩
    obtain ⟨p3, c3, rfl, hx1, hx2, hx3⟩ := own_form ho3
    have HB3 : Hid (Below w.heap.size w w3) := below_bt HB2.out hb3
    rcases Nat.eq_zero_or_pos E with h0 | h0
    · subst h0
      by_cases h1 : at_ < 0
      · clear ho3 hb3 hx1 hx2 hx3
        go_wp2
        go_ret
        exact ⟨rfl, HB3.out⟩
      · obtain ⟨k, rfl⟩ := Int.eq_ofNat_of_zero_le (show 0 ≤ at_ by omega)
        have h1' : decide ((k : Int) < 0) = false := decide_eq_false h1
        clear h1
        by_cases h2 : ys.length ≤ k
        · have g2 : decide ((ys.length : Int) ≤ (k : Int)) = true := decide_eq_true (by omega)
          have g2' : decide (ys.length ≤ k) = true := decide_eq_true h2
          clear ho3 hb3 hx1 hx2 hx3
          go_wp2
          go_ret
          exact ⟨rfl, HB3.out⟩
        · have g2 : decide ((ys.length : Int) ≤ (k : Int)) = false := decide_eq_false (by omega)
          have g2' : decide (ys.length ≤ k) = false := decide_eq_false h2
          have hkI : (k : Int) < (ys.length : Int) := by omega
          have hk0 : (0 : Int) ≤ (k : Int) := by omega
          have HKL : Hid (k < ys.length) := by show _ < _; omega
          by_cases h3 : y = 0
          · have g3 : ((y : Int) == 0) = true := by simp [h3]
            clear ho3 hb3 hx1 hx2 hx3 h2 h3
            go_wp2
            go_ret
            exact ⟨rfl, HB3.out⟩
          · have g3 : ((y : Int) == 0) = false := by simp; omega
            have HRN : Hid (readE (ys.set k (ys.getD k 0 ^^^ y)) = none) := turned_none HR.out HKL.out h3 HY.out
            obtain ⟨_, hyp, hyl⟩ := makeE_ok HR.out
            have hyb : ∀ c ∈ ys, c < 256 := by rw [hyp]; exact pageN_lt l
            obtain ⟨g, cur, rfl, hgb, hgh⟩ := own_some ho3 (by have := HKL.out; omega)
            have hbin := own_in ho3 hyb
            have e0 := hbin.cell k HKL.out
            rw [Nat.zero_add] at e0
            have hfz : w3.frozen? ⟨g, k, none⟩ = false := by simp [World.frozen?, hgh]
            obtain ⟨x, hx⟩ : ∃ x, ys.getD k 0 = x := ⟨_, rfl⟩
            have hx256 : x < 256 := by rw [← hx]; exact getD_lt hyb k
            rw [hx] at e0
            have hxor := xor8 x y hx256 HY.out
            have HW4 : Hid (BIn (w3.setCell ⟨g, k, none⟩ (.int .u8 ((x ^^^ y : Nat) : Int))) (some ⟨g, 0, none⟩) (ys.set k (x ^^^ y)) ∧ Below w.heap.size w (w3.setCell ⟨g, k, none⟩ (.int .u8 ((x ^^^ y : Nat) : Int)))) := ⟨bin_set hgh hbin (xor_byte hx256 HY.out), HB3.out.setCell (by have := HB2.out.size; show w.heap.size ≤ g; omega) _⟩
            have HN2 : Hid (readE (ys.set k (x ^^^ y)) = none) := by rw [← hx]; exact HRN.out
            have HC : Hid (ys.length = (ys.set k (x ^^^ y)).length ∧ ys.length ≤ c3 ∧ c3 ≤ maxLen ∧ (some (⟨g, 0, none⟩ : Addr) = none → c3 = 0)) := ⟨by rw [List.length_set], hx1, hx2, fun h => by cases h⟩
            generalize x ^^^ y = xy at *
            clear ho3 hb3 hx1 hx2 hx3 h2 h3 hyp hyl hyb hgb hgh hbin hx HRN hx256
            go_wp2_with fail
            refine (Read_any (some ⟨g, 0, none⟩) ys.length c3 (ys.set k xy) _ HC.out.1 HW4.out.1 HC.out.2).mono ?_
            rintro e w5 ⟨hout, hb5⟩
            have HB5 : Hid (Below w.heap.size w w5) := below_bt HW4.out.2 hb5
            clear hb5
            rcases hout with ⟨m, vm, hre, rfl, hown⟩ | ⟨hre, rfl⟩
            · exact absurd hre (by rw [HN2.out]; simp)
            · clear hre
              go_wp2
              go_ret
              exact ⟨rfl, HB5.out⟩
    · have hne : ((E : Int) != 0) = true := by simp; omega
      clear h0 ho3 hb3 hx1 hx2 hx3
      go_wp2
      go_ret
      exact ⟨rfl, HB3.out⟩

/-! ### THE ROW's STEP -/
set_option maxRecDepth 100000 in
theorem lifted (os : Os) (started : os.Started) (H : Type) (enc : TypeId × Value → H) :
    ReturnsInHanded {} Try.checked os 7 .any (Rows.pageTurnedSpec.pre6 enc Try.prog Try.f7 Rows.pageTurnedRow.domain false) (Rows.pageTurnedSpec.post enc Try.prog Try.f7 false true false false) := by
  refine returnsInHanded_of_change (C := Try.checked) own started (by kernel_rfl) Try.func7
    (ChangeSpec.witness6 (enc := enc) (C := Try.checked) false ⟨#[], #[.slice none 0 0, .int .i64 0, .int .u8 0], []⟩ 8 (by kernel_rfl) (by kernel_rfl) (by kernel_rfl) (by kernel_rfl)) ?_
  intro W base args ds gs before hval0 hW hcnd _
  have hval : ∀ (j : Nat) t v, Try.f7.params[j]? = some t → args[j]? = some v → Value.okWide Try.prog W .any base t v := hval0
  have hW' := hW
  obtain ⟨p, q, hA0, hV, rfl, hfz, hnd⟩ := hW
  have hA : DataW.TrodAll enc Try.prog W 0 (fun _ => true) true Try.f7.params.toList args.toList ds p := hA0
  rw [Try.params7] at hA hval
  obtain ⟨v0, vs0, d0, ds0, p0, q0, hargs, rfl, rfl, h0, r0⟩ := trodAll_cons hA
  obtain ⟨v1, vs1, d1, ds1, p1, q1, rfl, rfl, rfl, h1, r1⟩ := trodAll_cons r0
  obtain ⟨v2, vs2, d2, ds2, p2, q2, rfl, rfl, rfl, h2, r2⟩ := trodAll_cons r1
  obtain ⟨rfl, rfl, rfl⟩ := trodAll_nil r2
  obtain rfl : args = #[v0, v1, v2] := by cases args; simp_all
  obtain ⟨rfl, rfl⟩ := trodVars_none hV
  have k0 := h0
  have lt0 : ∀ x ∈ p0, x.block < W.heap.size := by obtain ⟨m, hm⟩ := k0; exact DataW.trod_lt m _ _ _ hm
  obtain ⟨qa0, la0, ca0, rfl⟩ := okWide_slice Try.underlying28 (hval 0 28 v0 rfl rfl)
  obtain ⟨fu0, hf0⟩ := h0
  obtain ⟨l0, w0⟩ := open_entries Try.underlying28 Try.underlying27 (by kernel_rfl) rfl rfl rfl rfl (by kernel_rfl) (by kernel_rfl) (by kernel_rfl) (by kernel_rfl) Try.underlying9 Try.underlying9 Try.underlying3 Try.underlying4 hf0
  obtain ⟨a1, rfl, rfl, rfl, w1⟩ := open_int Try.underlying3 (hval 1 3 v1 rfl rfl) h1
  obtain ⟨a2, rfl, rfl, rfl, w2⟩ := open_int Try.underlying5 (hval 2 5 v2 rfl rfl) h2
  clear hA0 hval0
  refine (walk (.slice qa0 la0 ca0) l0 a1 a2 W w0 w1 w2).mono fun e W' ⟨he, bel⟩ => ?_
  subst he
  exact ⟨_, rfl, _, _, _, [], _, [], hW', trodAll_mk1 (shut_bool Try.underlying4 _), (trodAll_cons_mk (Below.trod laidOut (by kernel_rfl) (of_decide_eq_true (by kernel_rfl)) k0 bel lt0) (trodAll_cons_mk (shut_int Try.underlying3 w1) (trodAll_cons_mk (shut_int Try.underlying5 w2) trodAll_mk0))), rfl, bel.frame _, fun h => by cases h⟩

theorem over : Rows.pageTurnedRow.holds Try.pinned (OpenSpec.ofChange Rows.pageTurnedSpec) :=
  OpenClaim.holds_of_wide 7 Try.f7 rfl rfl rfl rfl rfl rfl rfl ⟨rfl, rfl, rfl, rfl, rfl⟩ rfl rfl rfl rfl rfl (by kernel_rfl) Try.func7 (by kernel_rfl)
    (of_decide_eq_true (by kernel_rfl)) (by unfold Func.isWrapper; first | (rw [if_pos (by decide +kernel)]; kernel_rfl) | (rw [if_neg (by decide +kernel)]; exact ⟨rfl, rfl⟩))
    (fun os started H enc _ => lifted os started H enc)

theorem proved : Rows.PageTurnedSaid := over
end Go.Proofs.Ytldgnejmmjbhiaa.pageTurned
namespace Go.Proofs.Ytldgnejmmjbhiaa
theorem pageTurned_holds : Rows.PageTurnedSaid := pageTurned.proved
#print axioms pageTurned_holds
end Go.Proofs.Ytldgnejmmjbhiaa
