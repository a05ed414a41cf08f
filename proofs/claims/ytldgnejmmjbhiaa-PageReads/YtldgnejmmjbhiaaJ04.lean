/-
  The document's Sum.
-/
import Derived.Test.YtldgnejmmjbhiaaJ03
import Derived.Test.YtldgnejmmjbhiaaJ02
namespace Go.Proofs.Ytldgnejmmjbhiaa
open Go.RowKit Go.WideShapes

theorem cut_to (p : Option Addr) (n c k : Nat) (hk : k ≤ c) : ∀ w, (Instr.slice 22 (.slice p n c) none (some (.int .i64 (k : Int))) none).run Try.prog w = .ok (.slice p k c) w := by
  intro w
  rw [run_slice_h w 22 p n c (by kernel_rfl) .i64 k (by omega) (by omega)]
  have hs : (sizeOf (Try.prog.elem 22)).run Try.prog w = .ok 1 w := by kernel_rfl
  rw [hs]
  have e2 : (if c = 0 then p else p.map (·.add (0 * 1))) = p := by
    split
    · rfl
    · cases p with
      | none => rfl
      | some a => rw [Option.map_some, Nat.zero_mul]; rcases a with ⟨b, o, s⟩; cases s <;> simp [Addr.add]
  show Result.ok (Value.slice (if c = 0 then p else p.map (·.add (0 * 1))) (k - 0) (c - 0)) w = _
  rw [e2]
  rfl
/-- What Read answers. -/
def ReadOut (xs : List Nat) (base : Nat) (e : Ending) (w' : World) : Prop :=
  (∃ l v, readE xs = some l ∧ e = .returned (.tuple #[v, .int .i64 0]) ∧ EOwn w' base v l) ∨ (readE xs = none ∧ e = .returned (.tuple #[.slice none 0 0, .int .i64 8]))
theorem readE_len {xs : List Nat} (h : xs.length < 4 ∨ 65536 < xs.length) : readE xs = none := by unfold readE; rw [if_pos h]
theorem readE_sum {xs : List Nat} (h : ¬ (xs.length < 4 ∨ 65536 < xs.length)) (hs : ¬ xs.drop (xs.length - 4) = sum4 (xs.take (xs.length - 4))) : readE xs = none := by unfold readE; rw [if_neg h, if_neg hs]
theorem readE_cut {xs : List Nat} (h : ¬ (xs.length < 4 ∨ 65536 < xs.length)) (hs : xs.drop (xs.length - 4) = sum4 (xs.take (xs.length - 4))) (hc : cutE (xs.take (xs.length - 4)) = none) : readE xs = none := by unfold readE; rw [if_neg h, if_pos hs, hc]
theorem readE_chk {xs : List Nat} (h : ¬ (xs.length < 4 ∨ 65536 < xs.length)) (hs : xs.drop (xs.length - 4) = sum4 (xs.take (xs.length - 4))) {l : List EntV} (hc : cutE (xs.take (xs.length - 4)) = some l) : readE xs = if checkE l = 0 then some l else none := by unfold readE; rw [if_neg h, if_pos hs, hc]
set_option maxRecDepth 8000 in
set_option maxHeartbeats 1000000 in
theorem Read_any (p : Option Addr) (n c : Nat) (xs : List Nat) (w : World) (hn : n = xs.length) (hb : BIn w p xs) (hc : n ≤ c ∧ c ≤ maxLen ∧ (p = none → c = 0)) :
    Calls Try.prog 19 #[.slice p n c] w fun e w' => ReadOut xs w.heap.size e w' ∧ Below w.heap.size w w' := by
  by_cases h1 : n < 4
  · have g1 : (n : Int) < 4 := by omega
    have HN : Hid (readE xs = none) := readE_len (by omega)
    clear h1 hb hc hn
    go_enter Try.func19, Try.ntmps19
    go_wp2
    go_ret2
    exact ⟨.inr ⟨HN.out, rfl⟩, Below.refl _ _⟩
  by_cases h2 : 65536 < n
  · have g1 : (4 : Int) ≤ (n : Int) := by omega
    have g2 : (65536 : Int) < (n : Int) := by omega
    have HN : Hid (readE xs = none) := readE_len (by omega)
    clear h1 h2 hb hc hn
    go_enter Try.func19, Try.ntmps19
    go_wp2
    go_ret2
    exact ⟨.inr ⟨HN.out, rfl⟩, Below.refl _ _⟩
  have hlen : ¬ (xs.length < 4 ∨ 65536 < xs.length) := by omega
  obtain ⟨z, hz⟩ : ∃ z, n - 4 = z := ⟨_, rfl⟩
  have hxz : xs.length - 4 = z := by omega
  have hw : IntKind.i64.wrap ((n : Int) - 4) = (z : Int) := by rw [IntKind.wrap_i64]; omega
  obtain ⟨p', hs1, hbn, hpn, _⟩ := cut_from p n c z xs hn hc.1 (by omega) hc.2.2
  have hs2 := cut_to p n c z (by omega)
  have ht : (xs.take z).length = z := by rw [List.length_take]; omega
  have HSM : Hid (∀ w', Below w.heap.size w w' → Calls Try.prog 25 #[.slice p z c] w' fun e w2 => ∃ g, e = .returned (.slice (some ⟨g, 0, none⟩) 4 8) ∧ BIn w2 (some ⟨g, 0, none⟩) (sum4 (xs.take z)) ∧ Below w'.heap.size w' w2) := fun w' h => sum_page p z c (xs.take z) w' ht.symm ((hb.below h).take' z) (by omega)
  have HBD : Hid (∀ w', Below w.heap.size w w' → BIn w' p' (xs.drop z) ∧ n - z = (xs.drop z).length) := fun w' h => ⟨hbn w' (hb.below h), by rw [List.length_drop, hn]⟩
  have HCU : Hid (∀ w', Below w.heap.size w w' → Calls Try.prog 32 #[.slice p z c] w' fun e w2 => CutOut (xs.take z) w'.heap.size e w2 ∧ Below w'.heap.size w' w2) := fun w' h => cutEntries_any p z c (xs.take z) w' ht.symm ((hb.below h).take' z) ⟨by omega, hc.2⟩ (by omega)
  have g1 : (4 : Int) ≤ (n : Int) := by omega
  have g2 : (n : Int) ≤ 65536 := by omega
  have HL : Hid (¬ (xs.length < 4 ∨ 65536 < xs.length) ∧ xs.length - 4 = z) := ⟨hlen, hxz⟩
  obtain ⟨r, hr⟩ : ∃ r, decide (xs.drop z = sum4 (xs.take z)) = r := ⟨_, rfl⟩
  have HRR : Hid (decide (xs.drop z = sum4 (xs.take z)) = r) := hr
  clear h1 h2 hb hc hn hz hxz hbn hpn ht hlen hr
  go_enter Try.func19, Try.ntmps19
  go_upto_region 4 with fail
  go_cut [26] from 18 (fun j wx => j = .bool (!r) ∧ Below w.heap.size w wx)
  case first =>
    go_region_with (first | (go_at_call 25; refine (HSM.out _ (Below.refl _ _).drew).mono ?_; rintro e w2 ⟨g4, rfl, hi4, hb4⟩; have hb5 := below_dw hb4; have HEQ := equal_any p' (some ⟨g4, 0, none⟩) (n - z) 4 (c - z) 8 _ _ w2 (HBD.out _ hb5).1 hi4 (HBD.out _ hb5).2 rfl r HRR.out; have HB5 : Hid (Below w.heap.size w w2) := hb5; clear hb4 hb5 hi4) | (go_at_call 31; refine HEQ.mono ?_; rintro e w6 ⟨rfl, rfl⟩))
    all_goals go_wp2
    all_goals go_meet
    all_goals exact ⟨rfl, HB5.out⟩
  case rest =>
    obtain ⟨rfl, hb3⟩ := hcut
    have HB3 : Hid (Below w.heap.size w wc) := hb3
    clear hb3 HSM HBD
    cases r with
    | false =>
      have HN : Hid (readE xs = none) := readE_sum HL.out.1 (by rw [HL.out.2]; exact of_decide_eq_false HRR.out)
      go_wp2
      go_ret2
      exact ⟨.inr ⟨HN.out, rfl⟩, HB3.out⟩
    | true =>
      go_wp2_with fail
      refine (HCU.out _ HB3.out).mono ?_
      rintro e w4 ⟨hcut, hb4⟩
      have HB4 : Hid (Below w.heap.size w w4) := below_bt HB3.out hb4
      rcases hcut with ⟨l, v, hce, rfl, hown⟩ | ⟨q, m, cq, hce, rfl⟩
      · obtain ⟨q, cq, rfl, _, _, _⟩ := hown.form
        obtain ⟨C, hC⟩ : ∃ C, checkE l = C := ⟨_, rfl⟩
        have HCH := Check_any q l.length cq l w4 ⟨rfl, hown.ents⟩ C hC
        have HRE : Hid (readE xs = if C = 0 then some l else none) := by
          show _ = _
          rw [readE_chk HL.out.1 (by rw [HL.out.2]; exact of_decide_eq_true HRR.out) (l := l) (by rw [HL.out.2]; exact hce), hC]
        have HOW : Hid (EOwn w4 w.heap.size (.slice q l.length cq) l) := own_mono hown HB3.out.size
        clear hown hce hC hb4
        go_wp2_with fail
        refine HCH.mono ?_
        rintro e w5 ⟨rfl, hb5⟩
        have HB5 : Hid (Below w.heap.size w w5) := below_bt HB4.out hb5
        have HO5 : Hid (EOwn w5 w.heap.size (.slice q l.length cq) l) := HOW.out.below hb5
        clear hb5 HCH HOW
        rcases Nat.eq_zero_or_pos C with h0 | h0
        · subst h0
          have HN : Hid (readE xs = some l) := by show _ = _; rw [HRE.out, if_pos rfl]
          go_wp2
          go_ret2
          exact ⟨.inl ⟨l, _, HN.out, rfl, HO5.out⟩, HB5.out⟩
        · have hne : ((C : Int) != 0) = true := by simp; omega
          have HN : Hid (readE xs = none) := by show _ = _; rw [HRE.out, if_neg (by omega)]
          clear h0
          go_wp2
          go_ret2
          exact ⟨.inr ⟨HN.out, rfl⟩, HB5.out⟩
      · have HN : Hid (readE xs = none) := readE_cut HL.out.1 (by rw [HL.out.2]; exact of_decide_eq_true HRR.out) (by rw [HL.out.2]; exact hce)
        clear hce hb4
        go_wp2
        go_ret2
        exact ⟨.inr ⟨HN.out, rfl⟩, HB4.out⟩
end Go.Proofs.Ytldgnejmmjbhiaa
namespace Go.Proofs.Ytldgnejmmjbhiaa
open Go.RowKit Go.WideShapes

theorem results_cell_tmp2 {fn : Func} {p t u : Tmp} {ty : TypeId} (h : fn.results = #[.cell p ty, .tmp t, .tmp u]) (tmps : Array Value) (P : Program) (w : World) :
    (results fn tmps).run P w = ((asAddr (tmps.getD p undef)).run P w).andThen fun a w₁ => ((loadVar ty a).run P w₁).andThen fun v w₂ => .ok (.tuple #[v, tmps.getD t undef, tmps.getD u undef]) w₂ := by
  simp only [results, h]
  simp [Sem.run_bind, Result.andThen]
theorem set4_below {w w' : World} {a b c d : Value} (h : Below w.heap.size w w') : Below w.heap.size w ((((w'.setCell ⟨w.heap.size, 0, none⟩ a).setCell ⟨w.heap.size, 1, none⟩ b).setCell ⟨w.heap.size, 2, none⟩ c).setCell ⟨w.heap.size, 3, none⟩ d) := (((h.setCell (Nat.le_refl _) _).setCell (Nat.le_refl _) _).setCell (Nat.le_refl _) _).setCell (Nat.le_refl _) _
/-- The first entry with a key. -/
def findE : List EntV → ByteArray → Option EntV
  | [], _ => none
  | x :: l, k => if x.key = k then some x else findE l k
def findR (xs : List Nat) (k : ByteArray) : EntV × Bool × Nat :=
  match readE xs with
  | none => (zeroE, false, 8)
  | some l => if isKeyB k = false then (zeroE, false, 60) else match findE l k with | some x => (x, true, 0) | none => (zeroE, false, 0)
theorem findR_bad {xs : List Nat} (k : ByteArray) (h : readE xs = none) : findR xs k = (zeroE, false, 8) := by unfold findR; rw [h]
theorem findR_key {xs : List Nat} {l : List EntV} {k : ByteArray} (h : readE xs = some l) (hk : isKeyB k = false) : findR xs k = (zeroE, false, 60) := by unfold findR; rw [h]; simp only; rw [if_pos hk]
def pickR : Option EntV → EntV × Bool × Nat
  | some x => (x, true, 0)
  | none => (zeroE, false, 0)
theorem findR_ok {xs : List Nat} {l : List EntV} {k : ByteArray} (h : readE xs = some l) (hk : isKeyB k = true) : findR xs k = pickR (findE l k) := by
  unfold findR
  rw [h]
  simp only
  rw [if_neg (by simp [hk])]
  cases findE l k <;> rfl
theorem findE_at {l : List EntV} {i : Nat} (h : i < l.length) {y : EntV} (hy : l.getD i zeroE = y) (k : ByteArray) : findE (l.drop i) k = if y.key = k then some y else findE (l.drop (i + 1)) k := by
  rw [dropE h, hy]; rfl
set_option maxRecDepth 8000 in
set_option maxHeartbeats 1000000 in
theorem Find_any (p : Option Addr) (n c : Nat) (xs : List Nat) (key : ByteArray) (w : World) (hn : n = xs.length) (hb : BIn w p xs) (hc : n ≤ c ∧ c ≤ maxLen ∧ (p = none → c = 0)) (y : EntV) (is : Bool) (E : Nat) (hR : findR xs key = (y, is, E)) :
    Calls Try.prog 10 #[.slice p n c, .string key] w fun e w' => e = .returned (.tuple #[entV y, .bool is, .int .i64 (E : Int)]) ∧ Below w.heap.size w w' := by
  have HRD := Read_any p n c xs (w.alloc (.cells zE 27)) hn (hb.alloc _) hc
  have HR : Hid (findR xs key = (y, is, E)) := hR
  obtain ⟨r, hr⟩ : ∃ r, isKeyB key = r := ⟨_, rfl⟩
  have HIK := fun w' => isKey_any key w' r hr
  have HRK : Hid (isKeyB key = r) := hr
  have HBA : Hid (Below w.heap.size w (w.alloc (.cells zE 27)) ∧ (w.alloc (.cells zE 27)).heap[w.heap.size]? = some (.cells zE 27 (0, 0))) := ⟨below_alloc _ _, heap_alloc_new _ _⟩
  clear hn hb hc hR hr
  unfold zE at HRD
  go_enter Try.func10, Try.ntmps10
  go_wp2_with fail
  refine HRD.mono ?_
  rintro e w1 ⟨hout, hb1⟩
  have HB1 : Hid (Below w.heap.size w w1) := below_bt HBA.out.1 hb1
  have HX1 : Hid (w1.heap[w.heap.size]? = some (.cells zE 27 (0, 0))) := block_below HBA.out.2 hb1
  obtain ⟨⟨z0, z1, z2, z3⟩, f0, f1, f2, f3⟩ := four HX1.out
  clear hb1 HRD
  rcases hout with ⟨l, v, hre, rfl, hown⟩ | ⟨hre, rfl⟩
  · obtain ⟨q, cq, rfl, _, hq2, _⟩ := hown.form
    have HE : Hid (EntsIn w1 q l) := hown.ents
    have hll : (l.length : Int) ≤ 9223372036854775807 := by unfold maxLen at hq2; have := hown.form; omega
    cases r with
    | false =>
      have HY : Hid (y = zeroE ∧ is = false ∧ E = 60) := by
        have := findR_key hre HRK.out
        rw [HR.out] at this
        show _ ∧ _
        simpa using this
      clear hown hre
      go_wp2_with fail
      refine (HIK _).mono ?_
      rintro e w2 ⟨rfl, rfl⟩
      go_wp2
      (try simp only [Exit.inBlock, Exit.then])
      refine bodyPost_ret (v := .tuple #[entV zeroE, .bool false, .int .i64 60]) ?_ rfl ⟨by rw [HY.out.1, HY.out.2.1, HY.out.2.2]; rfl, set4_below HB1.out⟩
      rw [results_cell_tmp2 rfl]
      go_simp
      rfl
    | true =>
      have HF : Hid (pickR (findE (l.drop 0) key) = (y, is, E)) := by
        have := findR_ok hre HRK.out
        rw [HR.out] at this
        exact this.symm
      clear hown hre
      go_wp2_with fail
      refine (HIK _).mono ?_
      rintro e w2 ⟨rfl, rfl⟩
      clear HIK z0 z1 z2 z3 f0 f1 f2 f3
      go_wp2
      go_loopw [26] (fun i wr => ∃ k : Nat, k ≤ l.length ∧ i = .int .i64 k ∧ pickR (findE (l.drop k) key) = (y, is, E) ∧ Below w2.heap.size w2 wr) (fun i _ => l.length - (intOf i).toNat)
      case atStart => exact ⟨0, by omega, rfl, HF.out, Below.refl _ _⟩
      case round =>
        obtain ⟨k, hk, rfl, hf, hbel⟩ := hrel
        have HK : Hid (pickR (findE (l.drop k) key) = (y, is, E)) := hf
        have HB : Hid (Below w2.heap.size w2 wr) := hbel
        obtain ⟨⟨z0, z1, z2, z3⟩, f0, f1, f2, f3⟩ := four (block_below HX1.out hbel)
        clear hf hbel
        by_cases hkl : k < l.length
        · obtain ⟨b, o, rfl⟩ := HE.out.addr (by omega)
          obtain ⟨e0, e1, e2, e3⟩ := (HE.out.below HB.out).at hkl
          obtain ⟨x, hx⟩ : ∃ x, l.getD k zeroE = x := ⟨_, rfl⟩
          rw [hx] at e0 e1 e2 e3
          have HFA := findE_at hkl hx key
          obtain ⟨ke, ve, se, ge⟩ := x
          simp only at e0 e1 e2 e3 HFA
          have hkn : (k : Int) < (l.length : Int) := by omega
          by_cases hke : ke = key
          · subst hke
            rw [if_pos rfl] at HFA
            have HY : Hid (y = ⟨ke, ve, se, ge⟩ ∧ is = true ∧ E = 0) := by
              have := HK.out
              rw [HFA] at this
              show _ ∧ _
              simp only [pickR, Prod.mk.injEq] at this
              exact ⟨this.1.symm, this.2.1.symm, this.2.2.symm⟩
            have hlt : w.heap.size < wr.heap.size := lt_heap (block_below HX1.out HB.out)
            have hne1 : ¬ w.heap.size = wr.heap.size := by omega
            have hne2 : ¬ wr.heap.size = w.heap.size := by omega
            obtain ⟨⟨y0, y1, y2, y3⟩, g0, g1, g2, g3⟩ := four (block_below (block_below HX1.out HB.out) (below_alloc wr (.cells #[.string ke, .string ve, .int .i64 se, .bool ge] 27)))
            clear HFA hx
            go_wp2
            (try simp only [Exit.inBlock, Exit.then])
            refine bodyPost_ret (v := .tuple #[entV ⟨ke, ve, se, ge⟩, .bool true, .int .i64 0]) ?_ rfl ⟨by rw [HY.out.1, HY.out.2.1, HY.out.2.2]; rfl, ?_⟩
            · rw [results_cell_tmp2 rfl]
              go_simp
              rfl
            · exact below_bt (set4_below (below_bt HB1.out HB.out)) (below_alloc _ _)
          · have g3 : (ke.toList == key.toList) = false := by rw [eq_str]; simp [hke]
            rw [if_neg hke] at HFA
            have H2 : Hid (pickR (findE (l.drop (k + 1)) key) = (y, is, E)) := by rw [← HFA]; exact HK.out
            clear HFA hx hke
            go_wp2
            go_roundw
            case rel => exact ⟨k + 1, by omega, by go_num, H2.out, below_bt HB.out (below_alloc _ _)⟩
            case measure => simp [intOf]; omega
        · have g2 : (l.length : Int) ≤ (k : Int) := by omega
          have HY : Hid (y = zeroE ∧ is = false ∧ E = 0) := by
            have := HK.out
            rw [List.drop_eq_nil_of_le (by omega)] at this
            show _ ∧ _
            simp only [findE, pickR, Prod.mk.injEq] at this
            exact ⟨this.1.symm, this.2.1.symm, this.2.2.symm⟩
          go_wp2
          (try simp only [Exit.inBlock, Exit.then])
          refine bodyPost_ret (v := .tuple #[entV zeroE, .bool false, .int .i64 0]) ?_ rfl ⟨by rw [HY.out.1, HY.out.2.1, HY.out.2.2]; rfl, set4_below (below_bt HB1.out HB.out)⟩
          rw [results_cell_tmp2 rfl]
          go_simp
          rfl
  · have HY : Hid (y = zeroE ∧ is = false ∧ E = 8) := by
      have := findR_bad key hre
      rw [HR.out] at this
      show _ ∧ _
      simpa using this
    clear hre
    go_wp2
    (try simp only [Exit.inBlock, Exit.then])
    refine bodyPost_ret (v := .tuple #[entV zeroE, .bool false, .int .i64 8]) ?_ rfl ⟨by rw [HY.out.1, HY.out.2.1, HY.out.2.2]; rfl, set4_below HB1.out⟩
    rw [results_cell_tmp2 rfl]
    go_simp
    rfl
end Go.Proofs.Ytldgnejmmjbhiaa
namespace Go.Proofs.Ytldgnejmmjbhiaa
open Go.RowKit Go.WideShapes

def twoL : List EntV := [⟨⟨#[97, 98]⟩, ⟨#[120]⟩, 1, false⟩, ⟨⟨#[97, 98, 99]⟩, ByteArray.empty, 0, true⟩]
theorem two_any (w : World) : Calls Try.prog 27 #[] w fun e w' => e = .returned (.slice (some ⟨w.heap.size, 0, none⟩) 2 2) ∧ EntsL w' (some ⟨w.heap.size, 0, none⟩) 2 twoL ∧ Below w.heap.size w w' := by
  go_enter Try.func27, Try.ntmps27
  go_wp2
  go_ret
  refine ⟨rfl, ⟨rfl, fun _ => ⟨w.heap.size, 0, rfl, fun i hi => ?_⟩⟩, below_alloc _ _⟩
  have hh := heap_alloc_new w (.cells #[.string ⟨#[97, 98]⟩, .string ⟨#[120]⟩, .int .i64 1, .bool false, .string ⟨#[97, 98, 99]⟩, .string ⟨#[]⟩, .int .i64 0, .bool true] 27)
  have hi2 : i = 0 ∨ i = 1 := by simp only [twoL, List.length_cons, List.length_nil] at hi; omega
  rcases hi2 with rfl | rfl
  · exact ⟨Lib.cell_of_heap hh 0, Lib.cell_of_heap hh 1, Lib.cell_of_heap hh 2, Lib.cell_of_heap hh 3⟩
  · exact ⟨Lib.cell_of_heap hh 4, Lib.cell_of_heap hh 5, Lib.cell_of_heap hh 6, Lib.cell_of_heap hh 7⟩
theorem check_two : checkE twoL = 0 := by decide +kernel
theorem body_two : bodyN twoL = [2, 0, 2, 97, 98, 1, 0, 1, 120, 2, 1, 99, 0, 1] := by
  have n1 : numsOf ⟨#[97, 98]⟩ = [97, 98] := rfl
  have n2 : numsOf ⟨#[120]⟩ = [120] := rfl
  have n3 : numsOf ⟨#[97, 98, 99]⟩ = [97, 98, 99] := rfl
  have z2 : (⟨#[120]⟩ : ByteArray).size = 1 := rfl
  simp [bodyN, twoL, entsN, entN, keyN, tailN, n1, n2, n3, sharedN, smallN_lo, z2]
theorem make_two : ∃ ys, makeE twoL = (ys, 0) ∧ ys.length = 18 ∧ ys.take 12 = [2, 0, 2, 97, 98, 1, 0, 1, 120, 2, 1, 99] ∧ ∀ c ∈ ys, c < 256 := by
  have hl : (pageN twoL).length = 18 := by rw [page_len, body_two]; rfl
  refine ⟨pageN twoL, makeE_all check_two (by rw [body_two]; decide), hl, ?_, pageN_lt _⟩
  unfold pageN
  rw [body_two]
  rfl
set_option maxHeartbeats 1000000 in
theorem alive_any (w : World) : Calls Try.prog 11 #[] w fun e w' => e = .returned (.bool true) ∧ Below w.heap.size w w' := by
  obtain ⟨ys, hm, hl, ht, hy⟩ := make_two
  have HM : Hid (makeE twoL = (ys, 0) ∧ ys.length = 18 ∧ ys.take 12 = [2, 0, 2, 97, 98, 1, 0, 1, 120, 2, 1, 99] ∧ ∀ c ∈ ys, c < 256) := ⟨hm, hl, ht, hy⟩
  clear hm hl ht hy
  go_enter Try.func11, Try.ntmps11
  go_wp2_with fail
  refine (two_any _).mono ?_
  rintro e w1 ⟨rfl, he1, hb1⟩
  have HB1 : Hid (Below w.heap.size w w1) := hb1
  have HMK := Make_any _ 2 2 twoL w1 he1 ys 0 HM.out.1
  clear he1 hb1
  go_wp2_with fail
  refine HMK.mono ?_
  rintro e w2 ⟨v, rfl, ho2, hb2⟩
  obtain ⟨p, c, rfl, hc1, hc2, hc3⟩ := own_form ho2
  have HB2 : Hid (Below w.heap.size w w2) := below_bt HB1.out hb2
  have hcv := conv_bytes (own_in ho2 HM.out.2.2.2 |>.take' 12) (n := 12) (by rw [HM.out.2.2.1]; rfl) c
  have hc9 : (12 : Int) ≤ (c : Int) := by have := HM.out.2.1; omega
  have hq : ((strOf (ys.take 12)).toList == [2, 0, 2, 97, 98, 1, 0, 1, 120, 2, 1, 99]) = true := by rw [HM.out.2.2.1]; decide +kernel
  rw [HM.out.2.1]
  clear ho2 hb2 HMK hc1 hc2 hc3
  go_wp2
  go_ret
  exact ⟨rfl, HB2.out⟩
set_option maxRecDepth 8000 in
set_option maxHeartbeats 1000000 in
theorem same_yes (qa qb : Option Addr) (n ca cb : Nat) (l : List EntV) (w : World) (hn : n = l.length) (hnb : (n : Int) ≤ 1000000) (ha : EntsIn w qa l) (hb : EntsIn w qb l) :
    Calls Try.prog 22 #[.slice qa n ca, .slice qb n cb] w fun e w' => e = .returned (.bool true) ∧ Below w.heap.size w w' := by
  have HA : Hid (EntsIn w qa l) := ha
  have HB : Hid (EntsIn w qb l) := hb
  have HN : Hid (n = l.length) := hn
  clear ha hb hn
  go_enter Try.func22, Try.ntmps22
  go_wp2
  go_loopw [5] (fun i wr => ∃ k : Nat, k ≤ n ∧ i = .int .i64 k ∧ Below w.heap.size w wr) (fun i _ => n - (intOf i).toNat)
  case atStart => exact ⟨0, by omega, rfl, Below.refl _ _⟩
  case round =>
    obtain ⟨k, hk, rfl, hbel⟩ := hrel
    have HBE : Hid (Below w.heap.size w wr) := hbel
    clear hbel
    by_cases hkn : k < n
    · have g1 : decide (k < n) = true := decide_eq_true hkn
      have hkI : (k : Int) < (n : Int) := by omega
      obtain ⟨ba, oa, rfl⟩ := HA.out.addr (by have := HN.out; omega)
      obtain ⟨bb, ob, rfl⟩ := HB.out.addr (by have := HN.out; omega)
      obtain ⟨x, hx⟩ : ∃ x, l.getD k zeroE = x := ⟨_, rfl⟩
      obtain ⟨x0, x1, x2, x3⟩ := (HA.out.below HBE.out).at (k := k) (by have := HN.out; omega)
      obtain ⟨y0, y1, y2, y3⟩ := (HB.out.below HBE.out).at (k := k) (by have := HN.out; omega)
      rw [hx] at x0 x1 x2 x3 y0 y1 y2 y3
      obtain ⟨kx, vx, sx, gx⟩ := x
      simp only at x0 x1 x2 x3 y0 y1 y2 y3
      clear hx
      go_wp2
      go_quiet (fail)
      go_wp2
      go_roundw
      case rel => exact ⟨k + 1, by omega, by go_num, below_drewN HBE.out _⟩
      case measure => simp [intOf]; omega
    · have g1 : decide (k < n) = false := decide_eq_false hkn
      have hkI : (n : Int) ≤ (k : Int) := by omega
      go_wp2
      go_ret
      exact ⟨rfl, HBE.out⟩
end Go.Proofs.Ytldgnejmmjbhiaa
namespace Go.Proofs.Ytldgnejmmjbhiaa
open Go.RowKit Go.WideShapes

set_option maxRecDepth 8000 in
set_option maxHeartbeats 1000000 in
theorem heavy_any (q : Option Addr) (n c : Nat) (l : List EntV) (w : World) (h : EntsL w q n l) (hn : (n : Int) ≤ 9223372036854775807) :
    Calls Try.prog 13 #[.slice q n c] w fun e w' => (∃ r : Bool, e = .returned (.bool r) ∧ (r = false → n ≤ 5000)) ∧ Below w.heap.size w w' := by
  have HN : Hid (n = l.length) := h.n
  have HQ : Hid (EntsIn w q l) := h.lies
  clear h
  go_enter Try.func13, Try.ntmps13
  go_wp2
  go_loopw [3, 4] (fun t i wr => ∃ k : Nat, ∃ z : Int, k ≤ n ∧ i = .int .i64 k ∧ t = .int .i64 z ∧ Below w.heap.size w wr) (fun _ i _ => n - (intOf i).toNat)
  case atStart => exact ⟨0, 0, by omega, rfl, rfl, Below.refl _ _⟩
  case round =>
    obtain ⟨k, z, hk, rfl, rfl, hbel⟩ := hrel
    have HBE : Hid (Below w.heap.size w wr) := hbel
    clear hbel
    by_cases hkn : k < n
    · have g1 : decide (k < n) = true := decide_eq_true hkn
      have hkI : (k : Int) < (n : Int) := by omega
      have hk0 : (0 : Int) ≤ (k : Int) := by omega
      obtain ⟨ba, oa, rfl⟩ := HQ.out.addr (by have := HN.out; omega)
      obtain ⟨x0, x1, _, _⟩ := (HQ.out.below HBE.out).at (k := k) (by have := HN.out; omega)
      generalize (l.getD k zeroE).key = ke at *
      generalize (l.getD k zeroE).val = ve at *
      go_wp2
      go_region
      go_wp2
      go_roundw
      case rel => exact ⟨k + 1, _, by omega, by go_num, rfl, HBE.out.drew⟩
      case measure => simp [intOf]; omega
    · have g1 : decide (k < n) = false := decide_eq_false hkn
      have hkI : (n : Int) ≤ (k : Int) := by omega
      by_cases h5 : n ≤ 5000
      · have HR : Hid (n ≤ 5000) := h5
        clear h5
        by_cases h4 : n ≤ 400
        · have q1 : decide ((400 : Int) < (n : Int)) = false := decide_eq_false (by omega)
          have q2 : decide ((5000 : Int) < (n : Int)) = false := decide_eq_false (by omega)
          clear h4
          go_wp2
          go_ret
          exact ⟨⟨_, rfl, fun _ => HR.out⟩, HBE.out⟩
        · have q1 : decide ((400 : Int) < (n : Int)) = true := decide_eq_true (by omega)
          by_cases h6 : n ≤ 4096
          · have q2 : decide ((n : Int) ≤ 4096) = true := decide_eq_true (by omega)
            clear h4 h6
            go_wp2
            go_ret
            exact ⟨⟨_, rfl, fun _ => HR.out⟩, HBE.out⟩
          · have q2 : decide ((n : Int) ≤ 4096) = false := decide_eq_false (by omega)
            have q3 : decide ((5000 : Int) < (n : Int)) = false := decide_eq_false (by have := HR.out; omega)
            clear h4 h6
            go_wp2
            go_ret
            exact ⟨⟨_, rfl, fun _ => HR.out⟩, HBE.out⟩
      · have q1 : decide ((400 : Int) < (n : Int)) = true := decide_eq_true (by omega)
        have q2 : decide ((n : Int) ≤ 4096) = false := decide_eq_false (by omega)
        have q3 : decide ((5000 : Int) < (n : Int)) = true := decide_eq_true (by omega)
        clear h5
        go_wp2
        go_ret
        exact ⟨⟨_, rfl, fun h => by cases h⟩, HBE.out⟩
end Go.Proofs.Ytldgnejmmjbhiaa
namespace Go.Proofs.Ytldgnejmmjbhiaa
open Go.RowKit Go.WideShapes


set_option maxHeartbeats 400000 in
set_option maxRecDepth 100000 in
theorem refSmall_any (n : Nat) (w : World) (hn : n < 18446744073709551616) :
    Calls Try.prog 48 #[.int .u64 n] w fun e w' => ∃ v, e = .returned v ∧ w'.ownsRow w.heap.size 5 1 v (smallN n).length (Bs (smallN n)) ∧ Below w.heap.size w w' := by
  obtain ⟨i0, hi, hz0, hz1, hz2⟩ := info_parts info5
  have hten := smallN_ten n hn
  go_enter Try.func48, Try.ntmps48
  go_wp2
  go_loopw [0, 3] (fun t v wr => ∃ m : Nat, ∃ xs : List Nat, m < 18446744073709551616 ∧ t = .int .u64 m ∧ smallN n = xs ++ smallN m ∧ wr.ownsRow w.heap.size 5 1 v xs.length (Bs xs) ∧ Below w.heap.size w wr)
    (fun t _ _ => (intOf t).toNat)
  case atStart => exact ⟨n, [], hn, rfl, rfl, World.ownsRow_nil _ _ _ _, Below.refl _ _⟩
  case round =>
    obtain ⟨m, xs, hm, rfl, hsm, hown, hnx⟩ := hrel
    have HS : Hid _ := hsm
    clear hsm
    have hpos := smallN_pos m
    have hxl : xs.length + (smallN m).length ≤ 10 := by rw [HS.out] at hten; simpa using hten
    have hsz := hnx.size
    by_cases hlt : m < 128
    · go_wp2_with (at_builtin; refine wpList_append_own _ rfl _ _ 22 rfl w.heap.size 5 i0 (.int .u8 0) 1 1 Try.underlying22 hi hz0 hz1 hz2 rfl (by decide) _ _ _ rfl (hown.alloc _) ⟨wr.heap.size, 0, none⟩ 1 1 [.int .u8 (m : Int)] rfl rfl (cell_one_new _ _ _) ?c2 ?c3 ?c4 ?c5 ?_)
      case c2 => intro u hu; simp at hu; subst hu; rfl
      case c3 => unfold maxLen; omega
      case c4 => omega
      case c5 => simp; omega
      intro v' w1 hown' hgrow _
      have R := rel_push rfl hown hnx hsz hown' hgrow
      have e : smallN n = xs ++ [m] := by rw [HS.out, smallN_lo hlt]
      rw [← e] at R
      clear hown' hgrow hown e
      go_wp2
      go_ret
      exact ⟨v', rfl, R.1, R.2⟩
    · go_wp2_with (at_builtin; refine wpList_append_own _ rfl _ _ 22 rfl w.heap.size 5 i0 (.int .u8 0) 1 1 Try.underlying22 hi hz0 hz1 hz2 rfl (by decide) _ _ _ rfl (hown.alloc _) ⟨wr.heap.size, 0, none⟩ 1 1 [.int .u8 ((m : Int) % 128 + 128)] rfl rfl (cell_one_new _ _ _) ?d2 ?d3 ?d4 ?d5 ?_)
      case d2 => intro u hu; simp at hu; subst hu; rfl
      case d3 => unfold maxLen; omega
      case d4 => omega
      case d5 => simp; omega
      intro v' w1 hown' hgrow _
      have R := rel_push (c := m % 128 + 128) (by omega) hown hnx hsz hown' hgrow
      have e : Hid (smallN n = (xs ++ [m % 128 + 128]) ++ smallN (m / 128)) := by show _ = _; rw [HS.out, smallN_hi hlt]; simp
      clear hown' hgrow hown
      go_wp2
      go_roundw
      case rel => exact ⟨m / 128, xs ++ [m % 128 + 128], by omega, by go_num, e.out, R.1, R.2⟩
      case measure => simp [intOf]; omega

set_option maxHeartbeats 400000 in
theorem refText_any (s : ByteArray) (w : World) (hs : s.size ≤ 100000) :
    Calls Try.prog 42 #[.string s] w fun e w' => ∃ v, e = .returned v ∧ w'.ownsRow w.heap.size 5 1 v (textN s).length (Bs (textN s)) ∧ Below w.heap.size w w' := by
  obtain ⟨i0, hi, hz0, hz1, hz2⟩ := info_parts info5
  have hten := smallN_ten s.size (by omega)
  go_enter Try.func42, Try.ntmps42
  go_wp2_with fail
  refine (refSmall_any s.size w (by omega)).mono ?_
  rintro e w1 ⟨v, rfl, hown, hb⟩
  have hsz := hb.size
  go_wp2_with (at_builtin; refine Lib.wpList_append_own_string _ rfl _ _ 22 9 rfl w.heap.size 5 i0 Try.underlying22 Try.underlying9 hi hz0 hz1 hz2 _ _ _ rfl hown s rfl ?c3 ?c4 hsz ?_)
  case c3 => unfold maxLen; omega
  case c4 => omega
  intro v' w2 hown' hgrow _
  have R : w2.ownsRow w.heap.size 5 1 v' (textN s).length (Bs (textN s)) := by simpa [textN, numsOf_len, Bs_app, strCells_Bs] using hown'
  have hb2 := hb.grown hgrow hsz (fun k hk => (hown.lt k hk).1)
  clear hown' hgrow hown
  go_wp2
  go_ret
  exact ⟨v', rfl, R, hb2⟩

/-- The lowest k bytes of a number. -/
def putK : Nat → Nat → List Nat
  | 0, _ => []
  | k + 1, m => (m % 256) :: putK k (m / 256)
theorem putK_8 (n : Nat) (h : n < 18446744073709551616) : putK 8 n = putN n := by
  simp only [putK, putN, Nat.div_div_eq_div_mul, Nat.reduceMul]
  have : n / 72057594037927936 % 256 = n / 72057594037927936 := by omega
  rw [this]
theorem putK_step (k m : Nat) (h : k < 8) : putK (8 - k) m = (m % 256) :: putK (8 - (k + 1)) (m / 256) := by
  rw [show 8 - k = (8 - (k + 1)) + 1 from by omega]; rfl

set_option maxHeartbeats 400000 in
set_option maxRecDepth 100000 in
theorem refPut_any (n : Nat) (w : World) (hn : n < 18446744073709551616) :
    Calls Try.prog 49 #[.int .u64 n] w fun e w' => ∃ v, e = .returned v ∧ w'.ownsRow w.heap.size 5 1 v 8 (Bs (putN n)) ∧ Below w.heap.size w w' := by
  obtain ⟨i0, hi, hz0, hz1, hz2⟩ := info_parts info5
  have HP : Hid (putK 8 n = putN n) := putK_8 n hn
  go_enter Try.func49, Try.ntmps49
  go_wp2
  go_loopw [0, 3, 4] (fun t v i wr => ∃ k m : Nat, ∃ xs : List Nat, k ≤ 8 ∧ m < 18446744073709551616 ∧ t = .int .u64 m ∧ i = .int .i64 k ∧ xs.length = k ∧ putN n = xs ++ putK (8 - k) m ∧ wr.ownsRow w.heap.size 5 1 v xs.length (Bs xs) ∧ Below w.heap.size w wr)
    (fun _ _ i _ => 8 - (intOf i).toNat)
  case atStart => exact ⟨0, n, [], by omega, hn, rfl, rfl, rfl, HP.out.symm, World.ownsRow_nil _ _ _ _, Below.refl _ _⟩
  case round =>
    obtain ⟨k, m, xs, hk, hm, rfl, rfl, hxk, hsm, hown, hnx⟩ := hrel
    have HS : Hid _ := hsm
    have HX : Hid (xs.length = k) := hxk
    have hxl : xs.length ≤ 8 := by omega
    clear hsm hxk
    have hsz := hnx.size
    by_cases hlt : k < 8
    · have HK : Hid _ := putK_step k m hlt
      go_wp2_with (at_builtin; refine wpList_append_own _ rfl _ _ 22 rfl w.heap.size 5 i0 (.int .u8 0) 1 1 Try.underlying22 hi hz0 hz1 hz2 rfl (by decide) _ _ _ rfl (hown.alloc _) ⟨wr.heap.size, 0, none⟩ 1 1 [.int .u8 ((m : Int) % 256)] rfl rfl (cell_one_new _ _ _) ?d2 ?d3 ?d4 ?d5 ?_)
      case d2 => intro u hu; simp at hu; subst hu; rfl
      case d3 => unfold maxLen; omega
      case d4 => omega
      case d5 => simp; omega
      intro v' w1 hown' hgrow _
      have R := rel_push (c := m % 256) (by omega) hown hnx hsz hown' hgrow
      have e : Hid (putN n = (xs ++ [m % 256]) ++ putK (8 - (k + 1)) (m / 256)) := by show _ = _; rw [HS.out, HK.out]; simp
      clear hown' hgrow hown
      go_wp2
      go_roundw
      case rel => exact ⟨k + 1, m / 256, xs ++ [m % 256], by omega, by omega, by go_num, by go_num, by simp [HX.out], e.out, R.1, R.2⟩
      case measure => simp [intOf]; omega
    · have e : putN n = xs ∧ xs.length = 8 := by
        have h8 : k = 8 := by omega
        refine ⟨?_, by rw [HX.out, h8]⟩
        rw [HS.out, h8]; simp [putK]
      rw [e.2, ← e.1] at hown
      clear e
      have HO : Hid _ := hown
      clear hown
      go_wp2
      go_ret
      exact ⟨_, rfl, HO.out, hnx⟩

theorem ret_two {a b : Int} {k1 k2 : IntKind} {c : Int} (h : a = b) : Ending.returned (.tuple #[.int k1 a, .int k2 c]) = .returned (.tuple #[.int k1 b, .int k2 c]) := by rw [h]
end Go.Proofs.Ytldgnejmmjbhiaa
namespace Go.Proofs.Ytldgnejmmjbhiaa
open Go.RowKit Go.WideShapes

theorem bl_irrefl : ∀ (a : List UInt8), Op.bytesLess a a = false
  | [] => rfl
  | x :: a => by
    unfold Op.bytesLess
    simp [UInt8.lt_irrefl x, bl_irrefl a]
set_option maxHeartbeats 1000000 in
theorem rless_any (a b : EntV) (w : World) : Calls Try.prog 16 #[entV a, entV b] w fun e w' => e = .returned (.bool (lessE a b)) ∧ Below w.heap.size w w' := by
  obtain ⟨ak, av, az, ag⟩ := a
  obtain ⟨bk, bv, bz, bg⟩ := b
  rw [entV_def, entV_def]
  obtain ⟨r, hr⟩ : ∃ r, lessE ⟨ak, av, az, ag⟩ ⟨bk, bv, bz, bg⟩ = r := ⟨_, rfl⟩
  rw [hr]
  unfold lessE at hr
  simp only at hr
  by_cases h2 : ak = bk
  · subst h2
    have HR : Hid (r = decide (bz < az)) := by show _ = _; rw [← hr, bl_irrefl]; simp
    clear hr
    go_enter Try.func16, Try.ntmps16
    go_wp2
    go_ret
    exact ⟨by rw [HR.out]; rfl, (below_alloc w _).alloc (by simp) _⟩
  · have h2' : (ak.toList == bk.toList) = false := by rw [eq_str]; simp [h2]
    have HR : Hid (r = Op.bytesLess ak.toList bk.toList) := by show _ = _; rw [← hr, h2']; simp
    clear hr h2
    go_enter Try.func16, Try.ntmps16
    go_wp2
    go_ret
    exact ⟨by rw [HR.out]; rfl, (below_alloc w _).alloc (by simp) _⟩
set_option maxHeartbeats 2000000 in
theorem rone_any (x : EntV) (w : World) (E : Nat) (hE : oneE x = E) : Calls Try.prog 30 #[entV x] w fun e w' => e = .returned (.int .i64 (E : Int)) ∧ Below w.heap.size w w' := by
  obtain ⟨k, v, s, g⟩ := x
  rw [entV_def]
  unfold oneE at hE
  simp only at hE
  by_cases h1 : k.size < 1
  · rw [if_pos (.inl h1)] at hE
    subst hE
    have q1 : (k.size : Int) < 1 := by omega
    clear h1
    go_enter Try.func30, Try.ntmps30
    go_wp2
    go_ret
    exact ⟨rfl, below_alloc _ _⟩
  · have q1 : (1 : Int) ≤ (k.size : Int) := by omega
    by_cases h2 : 256 < k.size
    · rw [if_pos (.inr h2)] at hE
      subst hE
      have q2 : (256 : Int) < (k.size : Int) := by omega
      clear h1 h2
      go_enter Try.func30, Try.ntmps30
      go_wp2
      go_ret
      exact ⟨rfl, below_alloc _ _⟩
    · rw [if_neg (by omega)] at hE
      have q2 : (k.size : Int) ≤ 256 := by omega
      clear h1 h2
      by_cases h3 : 4096 < v.size
      · rw [if_pos h3] at hE
        subst hE
        have q3 : (4096 : Int) < (v.size : Int) := by omega
        clear h3
        go_enter Try.func30, Try.ntmps30
        go_wp2
        go_ret
        exact ⟨rfl, below_alloc _ _⟩
      · rw [if_neg h3] at hE
        have q3 : (v.size : Int) ≤ 4096 := by omega
        clear h3
        by_cases h4 : s < 0
        · rw [if_pos (.inl h4)] at hE
          subst hE
          go_enter Try.func30, Try.ntmps30
          go_wp2
          go_ret
          exact ⟨rfl, below_alloc _ _⟩
        · by_cases h5 : 2147483647 < s
          · rw [if_pos (.inr h5)] at hE
            subst hE
            have q4 : 0 ≤ s := by omega
            clear h4
            go_enter Try.func30, Try.ntmps30
            go_wp2
            go_ret
            exact ⟨rfl, below_alloc _ _⟩
          · rw [if_neg (by omega)] at hE
            have q4 : 0 ≤ s := by omega
            have q5 : s ≤ 2147483647 := by omega
            clear h4 h5
            cases g with
            | false =>
              rw [if_neg (by simp)] at hE
              subst hE
              go_enter Try.func30, Try.ntmps30
              go_wp2
              go_ret
              exact ⟨rfl, below_alloc _ _⟩
            | true =>
              by_cases h6 : v = ByteArray.empty
              · rw [if_neg (by simp [h6])] at hE
                subst hE h6
                go_enter Try.func30, Try.ntmps30
                go_wp2
                go_ret
                exact ⟨rfl, below_alloc _ _⟩
              · rw [if_pos ⟨rfl, h6⟩] at hE
                subst hE
                have g5' : v.toList.isEmpty = false := nonempty_of h6
                clear h6
                go_enter Try.func30, Try.ntmps30
                go_wp2
                go_ret
                exact ⟨rfl, below_alloc _ _⟩
set_option maxHeartbeats 1000000 in
theorem together_any (a b : ByteArray) (w : World) (ha : (a.size : Int) ≤ 9223372036854775807) (S : Nat) (hS : sharedN (numsOf a) (numsOf b) = S) : Calls Try.prog 41 #[.string a, .string b] w fun e w' => e = .returned (.int .i64 (S : Int)) ∧ Below w.heap.size w w' := by
  have HS : Hid (sharedN (numsOf a) (numsOf b) = S) := hS
  clear hS
  go_enter Try.func41, Try.ntmps41
  go_wp2
  go_loopw [5] (fun i wr => ∃ k : Nat, k ≤ a.size ∧ i = .int .i64 k ∧ sharedN ((numsOf a).drop k) ((numsOf b).drop k) + k = S ∧ Below w.heap.size w wr) (fun i _ => a.size - (intOf i).toNat)
  case atStart => exact ⟨0, by omega, rfl, HS.out, Below.refl _ _⟩
  case round =>
    obtain ⟨k, hk, rfl, hs, hbel⟩ := hrel
    have HK : Hid (sharedN ((numsOf a).drop k) ((numsOf b).drop k) + k = S) := hs
    have HB : Hid (Below w.heap.size w wr) := hbel
    clear hs hbel
    by_cases h1 : k < a.size
    · by_cases h2 : k < b.size
      · have x1 := str_at a k h1
        have x2 := str_at b k h2
        have g1 : decide ((k : Int) < (a.size : Int)) = true := decide_eq_true (by omega)
        have g2 : decide ((k : Int) < (b.size : Int)) = true := decide_eq_true (by omega)
        have HA := sh_at (a := numsOf a) (b := numsOf b) (k := k) (by rw [numsOf_len]; exact h1) (by rw [numsOf_len]; exact h2)
        have q0 : (0 : Int) ≤ k := by omega
        by_cases h3 : (numsOf a).getD k 0 = (numsOf b).getD k 0
        · rw [if_pos h3] at HA
          have H2 : Hid (sharedN ((numsOf a).drop (k + 1)) ((numsOf b).drop (k + 1)) + (k + 1) = S) := by have := HK.out; show _ = _; omega
          have g3 : (((numsOf a).getD k 0 : Int) == ((numsOf b).getD k 0 : Int)) = true := beq_iff_eq.2 (by rw [h3])
          clear HA h3
          generalize (numsOf a).getD k 0 = xa at *
          generalize (numsOf b).getD k 0 = xb at *
          go_wp2
          go_quiet (fail)
          go_wp2
          go_roundw
          case rel => exact ⟨k + 1, by omega, by go_num, H2.out, below_drewN HB.out _⟩
          case measure => simp [intOf]; omega
        · rw [if_neg h3] at HA
          have H2 : Hid (S = k) := by have := HK.out; show _ = _; omega
          have g3 : (((numsOf a).getD k 0 : Int) == ((numsOf b).getD k 0 : Int)) = false := beq_eq_false_iff_ne.2 (by omega)
          clear HA h3
          generalize (numsOf a).getD k 0 = xa at *
          generalize (numsOf b).getD k 0 = xb at *
          go_wp2
          go_quiet (fail)
          go_wp2
          go_ret
          exact ⟨by rw [H2.out]; rfl, below_drewN HB.out _⟩
      · have g1 : decide ((k : Int) < (a.size : Int)) = true := decide_eq_true (by omega)
        have g2 : decide ((k : Int) < (b.size : Int)) = false := decide_eq_false (by omega)
        have H2 : Hid (S = k) := by have := HK.out; rw [sh_end2 (by rw [numsOf_len]; omega)] at this; show _ = _; omega
        go_wp2
        go_quiet (fail)
        go_wp2
        go_ret
        exact ⟨by rw [H2.out]; rfl, below_drewN HB.out _⟩
    · have g1 : decide ((k : Int) < (a.size : Int)) = false := decide_eq_false (by omega)
      have H2 : Hid (S = k) := by have := HK.out; rw [sh_end1 (by rw [numsOf_len]; omega)] at this; show _ = _; omega
      go_wp2
      go_quiet (fail)
      go_wp2
      go_ret
      exact ⟨by rw [H2.out]; rfl, below_drewN HB.out _⟩
theorem rsmall_i (n : Int) (w : World) (h : 0 ≤ n ∧ n ≤ 9223372036854775807) : Calls Try.prog 40 #[.int .i64 n] w fun e w' => ∃ v, e = .returned v ∧ w'.ownsRow w.heap.size 5 1 v (smallN n.toNat).length (Bs (smallN n.toNat)) ∧ Below w.heap.size w w' := by
  obtain ⟨m, rfl⟩ := Int.eq_ofNat_of_zero_le h.1
  have hm : IntKind.u64.wrap (m : Int) = (m : Int) := by rw [IntKind.wrap_u64]; omega
  go_enter Try.func40, Try.ntmps40
  go_wp2_with (go_at_call 48; refine (refSmall_any m _ (by omega)).mono ?_; rintro e w1 ⟨v, rfl, ho, hb⟩)
  go_ret
  exact ⟨v, rfl, ho, hb⟩
set_option maxRecDepth 8000 in
set_option maxHeartbeats 1000000 in
theorem rsame_yes (qa qb : Option Addr) (n ca cb : Nat) (l : List EntV) (w : World) (hn : n = l.length) (hnb : (n : Int) ≤ 1000000) (ha : EntsIn w qa l) (hb : EntsIn w qb l) :
    Calls Try.prog 18 #[.slice qa n ca, .slice qb n cb] w fun e w' => e = .returned (.bool true) ∧ Below w.heap.size w w' := by
  have HA : Hid (EntsIn w qa l) := ha
  have HB : Hid (EntsIn w qb l) := hb
  have HN : Hid (n = l.length) := hn
  clear ha hb hn
  go_enter Try.func18, Try.ntmps18
  go_wp2
  go_loopw [5] (fun i wr => ∃ k : Nat, k ≤ n ∧ i = .int .i64 k ∧ Below w.heap.size w wr) (fun i _ => n - (intOf i).toNat)
  case atStart => exact ⟨0, by omega, rfl, Below.refl _ _⟩
  case round =>
    obtain ⟨k, hk, rfl, hbel⟩ := hrel
    have HBE : Hid (Below w.heap.size w wr) := hbel
    clear hbel
    by_cases hkn : k < n
    · have g1 : decide (k < n) = true := decide_eq_true hkn
      have hkI : (k : Int) < (n : Int) := by omega
      obtain ⟨ba, oa, rfl⟩ := HA.out.addr (by have := HN.out; omega)
      obtain ⟨bb, ob, rfl⟩ := HB.out.addr (by have := HN.out; omega)
      obtain ⟨x, hx⟩ : ∃ x, l.getD k zeroE = x := ⟨_, rfl⟩
      obtain ⟨x0, x1, x2, x3⟩ := (HA.out.below HBE.out).at (k := k) (by have := HN.out; omega)
      obtain ⟨y0, y1, y2, y3⟩ := (HB.out.below HBE.out).at (k := k) (by have := HN.out; omega)
      rw [hx] at x0 x1 x2 x3 y0 y1 y2 y3
      obtain ⟨kx, vx, sx, gx⟩ := x
      simp only at x0 x1 x2 x3 y0 y1 y2 y3
      clear hx
      go_wp2
      go_quiet (fail)
      go_wp2
      go_roundw
      case rel => exact ⟨k + 1, by omega, by go_num, below_drewN HBE.out _⟩
      case measure => simp [intOf]; omega
    · have g1 : decide (k < n) = false := decide_eq_false hkn
      have hkI : (n : Int) ≤ (k : Int) := by omega
      go_wp2
      go_ret
      exact ⟨rfl, HBE.out⟩
end Go.Proofs.Ytldgnejmmjbhiaa
namespace Go.Proofs.Ytldgnejmmjbhiaa
open Go.RowKit Go.WideShapes

set_option maxRecDepth 8000 in
set_option maxHeartbeats 4000000 in
theorem rCheck_any (q : Option Addr) (n c : Nat) (l : List EntV) (w : World) (h : EntsL w q n l) (C : Nat) (hC : checkE l = C) :
    Calls Try.prog 17 #[.slice q n c] w fun e w' => e = .returned (.int .i64 (C : Int)) ∧ Below w.heap.size w w' := by
  unfold checkE at hC
  have HN : Hid (n = l.length) := h.n
  by_cases hl : 4096 < l.length
  · rw [if_pos hl] at hC
    subst hC
    have g1 : (4096 : Int) < (n : Int) := by have := h.n; omega
    clear hl h
    go_enter Try.func17, Try.ntmps17
    go_wp2
    go_ret
    exact ⟨rfl, Below.refl _ _⟩
  rw [if_neg hl] at hC
  have g1 : (n : Int) ≤ 4096 := by have := h.n; omega
  have HQ : Hid (EntsIn w q l) := h.lies
  have HC : Hid (checkF (prevE l 0) (l.drop 0) = C) := hC
  clear hC h hl
  go_enter Try.func17, Try.ntmps17
  go_wp2
  go_loopw [3] (fun i wr => ∃ k : Nat, k ≤ n ∧ i = .int .i64 k ∧ checkF (prevE l k) (l.drop k) = C ∧ Below w.heap.size w wr) (fun i _ => n - (intOf i).toNat)
  case atStart => exact ⟨0, by omega, rfl, HC.out, Below.refl _ _⟩
  case round =>
    obtain ⟨k, hk, rfl, hs, hbel⟩ := hrel
    have HK : Hid (checkF (prevE l k) (l.drop k) = C) := hs
    have HB : Hid (Below w.heap.size w wr) := hbel
    clear hs hbel
    by_cases hkl : k < n
    · have g9 : decide (k < n) = true := decide_eq_true hkl
      have hkl' : k < l.length := by have := HN.out; omega
      obtain ⟨b, o, rfl⟩ := HQ.out.addr (by omega)
      have HQ2 := (HQ.out.below HB.out)
      obtain ⟨e0, e1, e2, e3⟩ := HQ2.at hkl'
      obtain ⟨y, hy⟩ : ∃ y, l.getD k zeroE = y := ⟨_, rfl⟩
      rw [hy] at e0 e1 e2 e3
      have HY : Hid (l.getD k zeroE = y) := hy
      obtain ⟨ke, ve, se, ge⟩ := y
      simp only at e0 e1 e2 e3
      obtain ⟨E, hE⟩ : ∃ E, oneE ⟨ke, ve, se, ge⟩ = E := ⟨_, rfl⟩
      have HE : Hid (oneE ⟨ke, ve, se, ge⟩ = E) := hE
      have HCE := fun w' => rone_any ⟨ke, ve, se, ge⟩ w' E hE
      rw [entV_def] at HCE
      have HBX : Hid (C4 wr b (o + k * 4) (.string ke) (.string ve) (.int .i64 se) (.bool ge)) := ⟨e0, e1, e2, e3⟩
      have hkn : (k : Int) < (n : Int) := by omega
      have HKL : Hid (k < l.length) := hkl'
      clear hE hy hkl'
      rcases Nat.eq_zero_or_pos E with hE0 | hE0
      · subst hE0
        rcases k with _ | k
        · have H2 : Hid (checkF (prevE l 1) (l.drop 1) = C) := by show _ = _; rw [← checkF_zero HKL.out HY.out HE.out]; exact HK.out
          clear HQ2
          simp only [Nat.zero_mul, Nat.add_zero] at e0 e1 e2 e3
          go_wp2_with fail
          refine (HCE _).mono ?_
          rintro e w2 ⟨rfl, hb2⟩
          have HB2 : Hid (Below w.heap.size w w2) := below_bt HB.out hb2
          clear hb2 HCE HBX
          go_wp2
          go_quiet (fail)
          go_wp2
          go_roundw
          case rel => exact ⟨1, by omega, by go_num, H2.out, below_drewN HB2.out _⟩
          case measure => simp [intOf]; omega
        · obtain ⟨x, hx⟩ : ∃ x, l.getD k zeroE = x := ⟨_, rfl⟩
          obtain ⟨kx, vx, sx, gx⟩ := x
          have h4 := HQ2.at (k := k) (by have := HKL.out; omega)
          rw [hx] at h4
          have HP : Hid (C4 wr b (o + k * 4) (.string kx) (.string vx) (.int .i64 sx) (.bool gx)) := h4
          have HNX := checkF_next HKL.out hx HY.out HE.out
          obtain ⟨r, hr⟩ : ∃ r, lessE ⟨kx, vx, sx, gx⟩ ⟨ke, ve, se, ge⟩ = r := ⟨_, rfl⟩
          have HLE := fun w' => rless_any ⟨kx, vx, sx, gx⟩ ⟨ke, ve, se, ge⟩ w'
          rw [hr, entV_def, entV_def] at HLE
          rw [hr, HK.out] at HNX
          have HNX' : Hid (C = if r = true then checkF (prevE l (k + 2)) (l.drop (k + 2)) else 100) := HNX
          clear hx hr HQ2 h4 HNX
          go_wp2_with fail
          refine (HCE _).mono ?_
          rintro e w2 ⟨rfl, hb2⟩
          have HD : Hid (C4 w2 b (o + (k + 1) * 4) (.string ke) (.string ve) (.int .i64 se) (.bool ge)) := c4_below HBX.out hb2
          have HP2 : Hid (C4 w2 b (o + k * 4) (.string kx) (.string vx) (.int .i64 sx) (.bool gx)) := c4_below HP.out hb2
          have HB2 : Hid (Below w.heap.size w w2) := below_bt HB.out hb2
          clear hb2 HCE HBX HP
          have kw0 : IntKind.i64.wrap (k : Int) = (k : Int) := by rw [IntKind.wrap_i64]; omega
          have kw1 : IntKind.i64.wrap ((k : Int) + 1 - 1) = (k : Int) := by rw [IntKind.wrap_i64]; omega
          have kw2 : IntKind.i64.wrap (((k + 1 : Nat) : Int) - 1) = (k : Int) := by rw [IntKind.wrap_i64]; omega
          have kb0 : (0 : Int) ≤ (k : Int) := by omega
          have kb2 : (0 : Int) ≤ (k : Int) + 1 := by omega
          have kb3 : (k : Int) + 1 < (n : Int) := by omega
          have kb4 : ((k : Int) + 1).toNat = k + 1 := by omega
          have kb1 : (k : Int) < (n : Int) := by omega
          go_wp2
          go_region_held3 (fun w' => (w'.cell? ⟨b, o + (k + 1) * 4, none⟩ = some (.string ke) ∧ w'.cell? ⟨b, o + (k + 1) * 4 + 1, none⟩ = some (.string ve) ∧ w'.cell? ⟨b, o + (k + 1) * 4 + 2, none⟩ = some (.int .i64 se) ∧ w'.cell? ⟨b, o + (k + 1) * 4 + 3, none⟩ = some (.bool ge)) ∧ (w'.cell? ⟨b, o + k * 4, none⟩ = some (.string kx) ∧ w'.cell? ⟨b, o + k * 4 + 1, none⟩ = some (.string vx) ∧ w'.cell? ⟨b, o + k * 4 + 2, none⟩ = some (.int .i64 sx) ∧ w'.cell? ⟨b, o + k * 4 + 3, none⟩ = some (.bool gx)) ∧ Below w2.heap.size w2 w')
            (with_reducible first | exact ⟨HD.out, HP2.out, Below.refl _ _⟩ | exact ⟨c4_below HD.out (Below.refl _ _).drew, c4_below HP2.out (Below.refl _ _).drew, (Below.refl _ _).drew⟩ | exact ⟨c4_below HD.out (below_dw (by assumption)), c4_below HP2.out (below_dw (by assumption)), below_dw (by assumption)⟩ | assumption)
            (first
              | (go_at_call 16; refine (HLE _).mono ?_; rintro e w3 ⟨rfl, hb3⟩)
              | fail)
          rename_i hh
          have HB3 : Hid (Below w.heap.size w w3) := below_bt HB2.out hh.2.2
          clear hh
          cases r with
          | true =>
            have H2 : Hid (checkF (prevE l (k + 2)) (l.drop (k + 2)) = C) := by have := HNX'.out; rw [if_pos rfl] at this; exact this.symm
            go_wp2
            go_roundw
            case rel => exact ⟨k + 2, by omega, by go_num, H2.out, HB3.out⟩
            case measure => simp [intOf]; omega
          | false =>
            have H2 : Hid (C = 100) := by have := HNX'.out; rw [if_neg (by simp)] at this; exact this
            go_wp2
            go_ret
            exact ⟨by rw [H2.out]; rfl, HB3.out⟩
      · have hne : ((E : Int) != 0) = true := by simp; omega
        have H2 : Hid (E = C) := by show _ = _; rw [← HK.out, checkF_one HKL.out HY.out (by rw [HE.out]; omega), HE.out]
        clear HQ2 hE0
        go_wp2_with fail
        refine (HCE _).mono ?_
        rintro e w2 ⟨rfl, hb2⟩
        have HB2 : Hid (Below w.heap.size w w2) := below_bt HB.out hb2
        clear hb2 HCE HBX
        go_wp2
        go_ret
        exact ⟨by rw [← H2.out]; rfl, HB2.out⟩
    · have g2 : (n : Int) ≤ (k : Int) := by omega
      have g9 : decide (k < n) = false := decide_eq_false hkl
      have H2 : Hid (C = 0) := by show _ = _; rw [← HK.out]; exact checkF_end l k (by have := HN.out; omega)
      go_wp2
      go_ret
      exact ⟨by rw [H2.out]; rfl, HB.out⟩
end Go.Proofs.Ytldgnejmmjbhiaa
namespace Go.Proofs.Ytldgnejmmjbhiaa
open Go.RowKit Go.WideShapes

theorem rem_odd (z : Nat) : ((z : Int) % 2 == 1) = decide (z % 2 = 1) := by
  rw [Bool.eq_iff_iff]; simp; omega
set_option maxHeartbeats 400000 in
theorem refSum_any (p : Option Addr) (cap : Nat) (xs : List Nat) (w : World) (hb : BIn w p xs) (hm : xs.length ≤ maxLen) :
    Calls Try.prog 50 #[.slice p xs.length cap] w fun e w' => e = .returned (.int .u32 (sumN xs : Nat)) ∧ w' = w := by
  unfold maxLen at hm
  have hlt := hb.2
  go_enter Try.func50, Try.ntmps50
  go_wp2
  go_loop [3, 4] (fun t i => ∃ k : Nat, k ≤ xs.length ∧ i = .int .i64 k ∧ t = .int .u32 (crc 4294967295 (xs.take k) : Nat)) (fun _ i => xs.length - (intOf i).toNat)
  case atStart => exact ⟨0, by omega, rfl, rfl⟩
  case round =>
    obtain ⟨k, hk, rfl, rfl⟩ := hrel
    have hr := crc_lt (xs.take k) 4294967295 (by decide) (fun c hc => hlt c (List.mem_of_mem_take hc))
    by_cases hkl : k < xs.length
    · obtain ⟨b, o, rfl, hc⟩ := hb.1 (by omega)
      have hck := hc k hkl
      have H : Hid _ := crc_take 4294967295 xs k hkl
      have hb8 := getD_lt hlt k
      have hx := byte_xor (crc 4294967295 (xs.take k)) (xs.getD k 0) hr hb8
      have hq : crc 4294967295 (xs.take k) ^^^ xs.getD k 0 < 4294967296 := Nat.xor_lt_two_pow (n := 32) (by omega) (by omega)
      generalize crc 4294967295 (xs.take k) = q at *
      generalize xs.getD k 0 = c at *
      clear hc hlt
      generalize q ^^^ c = y at *
      go_wp2
      go_loop [3, 5] (fun t i => ∃ j : Nat, j ≤ 8 ∧ i = .int .i64 j ∧ t = .int .u32 (crcBits j y : Nat)) (fun _ i => 8 - (intOf i).toNat)
      case atStart => exact ⟨0, by omega, rfl, rfl⟩
      case round =>
        obtain ⟨j, hj, rfl, rfl⟩ := hrel
        have hr2 := crcBits_lt j y hq
        have HB : Hid (crcBits (j + 1) y = crcBit (crcBits j y)) := rfl
        by_cases hjl : j < 8
        · generalize crcBits j y = z at *
          have ho := rem_odd z
          have hx2 := bit_xor (z / 2) (by omega)
          rw [show ((z / 2 : Nat) : Int) = (z : Int) / 2 from by omega] at hx2
          by_cases hodd : z % 2 = 1
          · have ho' : ((z : Int) % 2 == 1) = true := by rw [ho]; simp [hodd]
            have HO : Hid (z % 2 = 1) := hodd
            clear ho hodd
            go_wp2
            go_round
            case rel => exact ⟨j + 1, by omega, by go_num, by rw [HB.out]; simp [crcBit, HO.out]⟩
            case measure => simp [intOf]; omega
          · have ho' : ((z : Int) % 2 == 1) = false := by rw [ho]; simp [hodd]
            have HO : Hid (¬ z % 2 = 1) := hodd
            clear ho hodd
            go_wp2
            go_round
            case rel => exact ⟨j + 1, by omega, by go_num, by rw [HB.out]; simp [crcBit, HO.out]⟩
            case measure => simp [intOf]; omega
        · have e : j = 8 := by omega
          subst e
          clear HB
          go_wp2
          go_round
          case rel => exact ⟨k + 1, by omega, by go_num, by rw [H.out]⟩
          case measure => simp [intOf]; omega
    · have e : k = xs.length := by omega
      subst e
      rw [List.take_length] at hr ⊢
      have hn := sum_not xs hr
      go_wp2
      go_ret
      exact ⟨rfl, rfl⟩
end Go.Proofs.Ytldgnejmmjbhiaa
