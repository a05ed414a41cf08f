/-
  What no look can tell is left out: checkRising and Thin.
-/
import Derived.Test.YtbnacopefclklaaJ06
import Derived.Test.YtbnacopefclklaaJ03
namespace Go.Proofs.Ytbnacopefclklaa
open Go.RowKit Go.WideShapes

theorem swp_far {R : List RV} {i j k : Nat} (hi : i < R.length) (hj : j < R.length) (h1 : k ≠ i) (h2 : k ≠ j) : (swp zR R i j).getD k zR = R.getD k zR := by rw [swp_at zR hi hj, if_neg h2, if_neg h1]
set_option maxHeartbeats 2000000 in
theorem down_any (w0 : World) (bh : Nat) (hv : Value) (R : List RV) (w : World) (h : Hp w0 bh hv R w) (n : Nat) (hn : n ≤ R.length) (hd : DownOk zR ltR R n 0) (hlen : R.length ≤ 1000) :
    Calls Try.prog 46 #[.iface 67 (.pointer (some ⟨bh, 0, none⟩)), .int .i64 0, .int .i64 (n : Int)] w fun e w' => ∃ b R', e = .returned (.bool b) ∧ R'.Perm R ∧ HeapTo zR ltR R' n ∧ (∀ k, n ≤ k → R'.getD k zR = R.getD k zR) ∧ Hp w0 bh hv R' w' ∧ KeptR w w' := by
  obtain ⟨q, c, rfl, _, _⟩ := h.val
  obtain ⟨m, hm⟩ : ∃ m, R.length = m := ⟨_, rfl⟩
  rw [hm] at h ⊢
  obtain ⟨hv, hhv⟩ : ∃ hv, Value.slice q m c = hv := ⟨_, rfl⟩
  rw [hhv] at h ⊢
  have H0 : Hid (Hp w0 bh hv R w ∧ DownOk zR ltR R n 0 ∧ n ≤ R.length ∧ R.length ≤ 1000) := ⟨h, hd, hn, hlen⟩
  have nI : (n : Int) ≤ 1000 := by omega
  clear h hd hn hlen hm
  go_enter Try.func46, Try.ntmps46
  go_wp2
  go_loopw [7] (fun s7 wr => ∃ (k : Nat) (Rk : List RV), s7 = .int .i64 (k : Int) ∧ k ≤ n ∧ Rk.Perm R ∧ DownOk zR ltR Rk n k ∧ (∀ j, n ≤ j → Rk.getD j zR = R.getD j zR) ∧ Hp w0 bh hv Rk wr ∧ KeptR w wr) (fun s7 _ => n - (intOf s7).toNat)
  case atStart => exact ⟨0, R, rfl, by omega, List.Perm.refl _, H0.out.2.1, fun _ _ => rfl, H0.out.1, KeptR.refl _⟩
  case round =>
    obtain ⟨k, Rk, rfl, hk, hp, hd, hfar, hon, hkp⟩ := hrel
    have HK : Hid (k ≤ n ∧ Rk.Perm R ∧ DownOk zR ltR Rk n k ∧ (∀ j, n ≤ j → Rk.getD j zR = R.getD j zR) ∧ n ≤ Rk.length ∧ Rk.length ≤ 1000) := ⟨hk, hp, hd, hfar, by rw [hp.length_eq]; exact H0.out.2.2.1, by rw [hp.length_eq]; exact H0.out.2.2.2⟩
    have HO : Hid (Hp w0 bh hv Rk wr ∧ KeptR w wr) := ⟨hon, hkp⟩
    have kI : (k : Int) ≤ 1000 := by omega
    clear hk hp hd hkp hon hfar
    obtain ⟨a, ha⟩ : ∃ a : Nat, a = 2 * k + 1 := ⟨_, rfl⟩
    obtain ⟨b, hb⟩ : ∃ b : Nat, b = 2 * k + 2 := ⟨_, rfl⟩
    have HA : Hid (a = 2 * k + 1 ∧ b = 2 * k + 2) := ⟨ha, hb⟩
    have kw1 : IntKind.i64.wrap (2 * (k : Int)) = 2 * (k : Int) := by rw [IntKind.wrap_i64]; omega
    have kw2 : IntKind.i64.wrap (2 * (k : Int) + 1) = (a : Int) := by rw [IntKind.wrap_i64]; omega
    have kw3 : IntKind.i64.wrap ((a : Int) + 1) = (b : Int) := by rw [IntKind.wrap_i64]; omega
    have a0 : (0 : Int) ≤ (a : Int) := by omega
    clear ha hb
    by_cases han : n ≤ a
    · have hanI : (n : Int) ≤ (a : Int) := by omega
      have HAN : Hid (n ≤ a) := han
      clear han
      go_wp2
      go_ret
      exact ⟨_, Rk, rfl, HK.out.2.1, down_end ltR_asym ltR_trans ltR_irr HK.out.2.2.1 (.inl (by have := HA.out; have := HAN.out; omega)), HK.out.2.2.2.1, HO.out⟩
    · have hanI : (a : Int) < (n : Int) := by omega
      have HAN : Hid (a < n) := by show _ < _; omega
      clear han
      by_cases hbn : b < n
      · have hbnI : (b : Int) < (n : Int) := by omega
        have HBN : Hid (b < n) := hbn
        have hme := meth_less q m c bh wr (by rw [hhv]; exact Lib.cell_of_heap HO.out.1.ptr 0)
        rw [hhv] at hme
        obtain ⟨r, hr⟩ : ∃ r, ltR (Rk.getD b zR) (Rk.getD a zR) = r := ⟨_, rfl⟩
        have HLE := hLess_any w0 bh hv Rk wr HO.out.1 b a (by have := HK.out; have := HBN.out; omega) (by have := HK.out; have := HAN.out; omega) r hr
        have HR : Hid (ltR (Rk.getD b zR) (Rk.getD a zR) = r) := hr
        clear hr hbn
        go_wp2_with fail
        refine HLE.mono ?_
        rintro e w2 ⟨rfl, hb2⟩
        have H2 : Hid (Hp w0 bh hv Rk w2 ∧ KeptR w w2) := ⟨HO.out.1.next hb2, HO.out.2.trans (keptR_below hb2)⟩
        clear hb2 HLE hme
        cases r with
        | true =>
          have HL : Hid (lowC zR ltR Rk n k = b) := by show _ = _; unfold lowC; rw [← HA.out.1, ← HA.out.2, if_pos ⟨HBN.out, HR.out⟩]
          obtain ⟨r2, hr2⟩ : ∃ r, ltR (Rk.getD b zR) (Rk.getD k zR) = r := ⟨_, rfl⟩
          have hc := lowC_is (z := zR) (lt := ltR) (H := Rk) (show 2 * k + 1 < n by have := HA.out; have := HAN.out; omega)
          rw [HL.out] at hc
          have HC : Hid (b < n ∧ (b - 1) / 2 = k ∧ k < b) := hc
          have HLE2 := hLess_any w0 bh hv Rk w2 H2.out.1 b k (by have := HK.out; have := HC.out; omega) (by have := HK.out; have := HC.out; omega) r2 hr2
          have HR2 : Hid (ltR (Rk.getD (lowC zR ltR Rk n k) zR) (Rk.getD k zR) = r2) := by show _ = _; rw [HL.out]; exact hr2
          have hme := meth_less q m c bh w2 (by rw [hhv]; exact Lib.cell_of_heap H2.out.1.ptr 0)
          rw [hhv] at hme
          clear hr2 hc
          go_wp2_with fail
          refine HLE2.mono ?_
          rintro e w3 ⟨rfl, hb3⟩
          have H3 : Hid (Hp w0 bh hv Rk w3 ∧ KeptR w w3) := ⟨H2.out.1.next hb3, H2.out.2.trans (keptR_below hb3)⟩
          clear hb3 HLE2 hme
          cases r2 with
          | false =>
            go_wp2
            go_ret
            exact ⟨_, Rk, rfl, HK.out.2.1, down_end ltR_asym ltR_trans ltR_irr HK.out.2.2.1 (.inr HR2.out), HK.out.2.2.2.1, H3.out⟩
          | true =>
            have hme := meth_swap q m c bh w3 (by rw [hhv]; exact Lib.cell_of_heap H3.out.1.ptr 0)
            rw [hhv] at hme
            have HSW := hSwap_any w0 bh hv Rk w3 H3.out.1 k b (by have := HK.out; have := HC.out; omega) (by have := HK.out; have := HC.out; omega)
            go_wp2_with fail
            refine HSW.mono ?_
            rintro e w4 ⟨rfl, h4, k4⟩
            have H4 : Hid (Hp w0 bh hv (swp zR Rk k b) w4 ∧ KeptR w w4) := ⟨h4, H3.out.2.trans k4⟩
            clear h4 k4 HSW hme
            go_wp2
            go_roundw
            case rel =>
              have hk1 : k < Rk.length := by have := HK.out; have := HC.out; omega
              have hj1 : b < Rk.length := by have := HK.out; have := HC.out; omega
              refine ⟨b, swp zR Rk k b, rfl, by have := HC.out; omega, (swp_perm zR hk1 hj1).trans HK.out.2.1, ?_, fun i hi => by rw [swp_far hk1 hj1 (by have := HC.out; omega) (by have := HC.out; omega)]; exact HK.out.2.2.2.1 i hi, H4.out⟩
              have := down_step ltR_asym ltR_irr HK.out.2.2.2.2.1 (by have := HA.out; have := HAN.out; omega) HK.out.2.2.1 HR2.out
              rwa [HL.out] at this
            case measure => have := HC.out; simp [intOf]; omega
        | false =>
          have HL : Hid (lowC zR ltR Rk n k = a) := by show _ = _; unfold lowC; rw [← HA.out.1, ← HA.out.2, if_neg (by rw [HR.out]; simp)]
          obtain ⟨r2, hr2⟩ : ∃ r, ltR (Rk.getD a zR) (Rk.getD k zR) = r := ⟨_, rfl⟩
          have hc := lowC_is (z := zR) (lt := ltR) (H := Rk) (show 2 * k + 1 < n by have := HA.out; have := HAN.out; omega)
          rw [HL.out] at hc
          have HC : Hid (a < n ∧ (a - 1) / 2 = k ∧ k < a) := hc
          have HLE2 := hLess_any w0 bh hv Rk w2 H2.out.1 a k (by have := HK.out; have := HC.out; omega) (by have := HK.out; have := HC.out; omega) r2 hr2
          have HR2 : Hid (ltR (Rk.getD (lowC zR ltR Rk n k) zR) (Rk.getD k zR) = r2) := by show _ = _; rw [HL.out]; exact hr2
          have hme := meth_less q m c bh w2 (by rw [hhv]; exact Lib.cell_of_heap H2.out.1.ptr 0)
          rw [hhv] at hme
          clear hr2 hc
          go_wp2_with fail
          refine HLE2.mono ?_
          rintro e w3 ⟨rfl, hb3⟩
          have H3 : Hid (Hp w0 bh hv Rk w3 ∧ KeptR w w3) := ⟨H2.out.1.next hb3, H2.out.2.trans (keptR_below hb3)⟩
          clear hb3 HLE2 hme
          cases r2 with
          | false =>
            go_wp2
            go_ret
            exact ⟨_, Rk, rfl, HK.out.2.1, down_end ltR_asym ltR_trans ltR_irr HK.out.2.2.1 (.inr HR2.out), HK.out.2.2.2.1, H3.out⟩
          | true =>
            have hme := meth_swap q m c bh w3 (by rw [hhv]; exact Lib.cell_of_heap H3.out.1.ptr 0)
            rw [hhv] at hme
            have HSW := hSwap_any w0 bh hv Rk w3 H3.out.1 k a (by have := HK.out; have := HC.out; omega) (by have := HK.out; have := HC.out; omega)
            go_wp2_with fail
            refine HSW.mono ?_
            rintro e w4 ⟨rfl, h4, k4⟩
            have H4 : Hid (Hp w0 bh hv (swp zR Rk k a) w4 ∧ KeptR w w4) := ⟨h4, H3.out.2.trans k4⟩
            clear h4 k4 HSW hme
            go_wp2
            go_roundw
            case rel =>
              have hk1 : k < Rk.length := by have := HK.out; have := HC.out; omega
              have hj1 : a < Rk.length := by have := HK.out; have := HC.out; omega
              refine ⟨a, swp zR Rk k a, rfl, by have := HC.out; omega, (swp_perm zR hk1 hj1).trans HK.out.2.1, ?_, fun i hi => by rw [swp_far hk1 hj1 (by have := HC.out; omega) (by have := HC.out; omega)]; exact HK.out.2.2.2.1 i hi, H4.out⟩
              have := down_step ltR_asym ltR_irr HK.out.2.2.2.2.1 (by have := HA.out; have := HAN.out; omega) HK.out.2.2.1 HR2.out
              rwa [HL.out] at this
            case measure => have := HC.out; simp [intOf]; omega
      · have hbnI : (n : Int) ≤ (b : Int) := by omega
        have HBN : Hid (n ≤ b) := by show _ ≤ _; omega
        have H2 : Hid (Hp w0 bh hv Rk wr ∧ KeptR w wr) := HO.out
        have HL : Hid (lowC zR ltR Rk n k = a) := by show _ = _; unfold lowC; rw [← HA.out.1, ← HA.out.2, if_neg (fun hh => by have := HBN.out; omega)]
        clear hbn
        obtain ⟨r2, hr2⟩ : ∃ r, ltR (Rk.getD a zR) (Rk.getD k zR) = r := ⟨_, rfl⟩
        have hc := lowC_is (z := zR) (lt := ltR) (H := Rk) (show 2 * k + 1 < n by have := HA.out; have := HAN.out; omega)
        rw [HL.out] at hc
        have HC : Hid (a < n ∧ (a - 1) / 2 = k ∧ k < a) := hc
        have HLE2 := hLess_any w0 bh hv Rk wr H2.out.1 a k (by have := HK.out; have := HC.out; omega) (by have := HK.out; have := HC.out; omega) r2 hr2
        have HR2 : Hid (ltR (Rk.getD (lowC zR ltR Rk n k) zR) (Rk.getD k zR) = r2) := by show _ = _; rw [HL.out]; exact hr2
        have hme := meth_less q m c bh wr (by rw [hhv]; exact Lib.cell_of_heap H2.out.1.ptr 0)
        rw [hhv] at hme
        clear hr2 hc
        go_wp2_with fail
        refine HLE2.mono ?_
        rintro e w3 ⟨rfl, hb3⟩
        have H3 : Hid (Hp w0 bh hv Rk w3 ∧ KeptR w w3) := ⟨H2.out.1.next hb3, H2.out.2.trans (keptR_below hb3)⟩
        clear hb3 HLE2 hme
        cases r2 with
        | false =>
          go_wp2
          go_ret
          exact ⟨_, Rk, rfl, HK.out.2.1, down_end ltR_asym ltR_trans ltR_irr HK.out.2.2.1 (.inr HR2.out), HK.out.2.2.2.1, H3.out⟩
        | true =>
          have hme := meth_swap q m c bh w3 (by rw [hhv]; exact Lib.cell_of_heap H3.out.1.ptr 0)
          rw [hhv] at hme
          have HSW := hSwap_any w0 bh hv Rk w3 H3.out.1 k a (by have := HK.out; have := HC.out; omega) (by have := HK.out; have := HC.out; omega)
          go_wp2_with fail
          refine HSW.mono ?_
          rintro e w4 ⟨rfl, h4, k4⟩
          have H4 : Hid (Hp w0 bh hv (swp zR Rk k a) w4 ∧ KeptR w w4) := ⟨h4, H3.out.2.trans k4⟩
          clear h4 k4 HSW hme
          go_wp2
          go_roundw
          case rel =>
            have hk1 : k < Rk.length := by have := HK.out; have := HC.out; omega
            have hj1 : a < Rk.length := by have := HK.out; have := HC.out; omega
            refine ⟨a, swp zR Rk k a, rfl, by have := HC.out; omega, (swp_perm zR hk1 hj1).trans HK.out.2.1, ?_, fun i hi => by rw [swp_far hk1 hj1 (by have := HC.out; omega) (by have := HC.out; omega)]; exact HK.out.2.2.2.1 i hi, H4.out⟩
            have := down_step ltR_asym ltR_irr HK.out.2.2.2.2.1 (by have := HA.out; have := HAN.out; omega) HK.out.2.2.1 HR2.out
            rwa [HL.out] at this
          case measure => have := HC.out; simp [intOf]; omega
end Go.Proofs.Ytbnacopefclklaa
namespace Go.Proofs.Ytbnacopefclklaa
open Go.RowKit Go.WideShapes

theorem info_ents : (Try.prog.info? 25).map (fun i => (i.zero, i.size, i.bytes)) = some (some (.slice none 0 0), 1, 24) := by kernel_rfl
theorem own_heap {w w' : World} {base n s : Nat} {e : TypeId} {v : Value} {xs : List Value} (h : w.ownsRow base e s v n xs) (hb : ∀ g, v.ownBlock = some g → w'.heap[g]? = w.heap[g]?) : w'.ownsRow base e s v n xs := by
  obtain ⟨h1, h2⟩ := h
  refine ⟨h1, ?_⟩
  rcases h2 with h2 | ⟨g, cap, cur, hv, hbs, hg, h3⟩
  · exact .inl h2
  · refine .inr ⟨g, cap, cur, hv, hbs, ?_, h3⟩
    rw [hb g (by rw [hv]; rfl)]
    exact hg
theorem run_push (w : World) (base : Nat) (ty : TypeId) (hv : Value) (R : List RV) (r : RV) (g : Nat) (hown : w.ownsRow base 25 1 hv R.length (R.map rvV)) (hg : w.cell? ⟨g, 0, none⟩ = some (rvV r)) (hlen : R.length ≤ 1000) (hbase : base ≤ w.heap.size) :
    ∃ v' w', (Builtin.append_ #[68, 68] ty #[hv, .slice (some ⟨g, 0, none⟩) 1 1]).run Try.prog w = .ok v' w' ∧ w'.ownsRow base 25 1 v' (R ++ [r]).length ((R ++ [r]).map rvV) ∧ w.grownBy w' hv.ownBlock := by
  obtain ⟨i0, hi, hz0, hz1, hz2⟩ := info_parts' info_ents
  have hmax : R.length + 1 ≤ maxLen := by unfold maxLen; omega
  have hc : ∀ j u, [rvV r][j]? = some u → w.cell? ((⟨g, 0, none⟩ : Addr).add j) = some u := by
    intro j u hu
    cases j with
    | zero => simp at hu; subst hu; exact hg
    | succ j => simp at hu
  obtain ⟨v', w', h1, h2, h3, _⟩ := run_append_own (P := Try.prog) w base 68 ty 25 i0 (.slice none 0 0) 1 24 Try.underlying68 hi hz0 hz1 hz2 rfl (by decide) hv R.length (R.map rvV) hown ⟨g, 0, none⟩ 1 1 [rvV r] rfl hc (by intro u hu; simp at hu; subst hu; rfl) hmax (by omega) hbase
  refine ⟨v', w', h1, ?_, h3⟩
  rw [List.length_append, List.map_append]
  exact h2
theorem Hp.push {w0 w w' : World} {bh : Nat} {hv v' : Value} {R : List RV} {r : RV} (h : Hp w0 bh hv R w) (hr : RowOk w0 r ∧ 0 < r.l.length) (ho : w'.ownsRow w0.heap.size 25 1 v' (R ++ [r]).length ((R ++ [r]).map rvV)) (hg : w.grownBy w' hv.ownBlock) :
    Hp w0 bh v' (R ++ [r]) (w'.setCell ⟨bh, 0, none⟩ v') ∧ KeptR w (w'.setCell ⟨bh, 0, none⟩ v') ∧ w'.heap[bh]? = some (.cells #[hv] 68 (0, 0)) := by
  have hne : hv.ownBlock ≠ some bh := own_neS h.own h.ptr (by decide)
  have hp : w'.heap[bh]? = some (.cells #[hv] 68 (0, 0)) := by
    rw [hg.block bh (lt_heap h.ptr) (fun e => hne e.symm)]
    exact h.ptr
  have hne2 : v'.ownBlock ≠ some bh := own_neS ho hp (by decide)
  refine ⟨⟨(h.bel.grown hg h.bel.size (fun k hk => (World.ownsRow.lt h.own k hk).1)).setCell (p := ⟨bh, 0, none⟩) h.bhb v', h.bhb, ?_, ?_, ?_⟩, ?_, hp⟩
  · have := heap_setCell_same w' bh 0 _ _ v' hp
    simpa using this
  · refine own_heap ho (fun g hgg => heap_setCell_other w' ⟨bh, 0, none⟩ g v' (fun e => hne2 (by rw [hgg]; exact congrArg some e)))
  · intro x hx
    rcases List.mem_append.1 hx with hx | hx
    · exact h.rows x hx
    · simp at hx; subst hx; exact hr
  · refine KeptR.trans ⟨hg.size, fun b cs t fr hb h1 h2 => ?_⟩ (keptR_set hp (.inr rfl) v')
    rw [hg.block b (lt_heap hb) (fun e => own_neS h.own hb h1 e.symm)]
    exact hb
theorem step_push {ops : Array Oper} {o : Oper} {a : Act} {w : World} {K : Act → World → Prop} {Q : Exit → Act → World → Prop} {E : Prop} (hgd : o.guard = none) (s x : Operand)
    (ho : o.op = .call { callee := .builtin .append, args := #[s, x], argTypes := #[68, 68] }) (base : Nat) (hv : Value) (R : List RV) (r : RV) (g : Nat) (hs : a.eval s = hv) (hx : a.eval x = .slice (some ⟨g, 0, none⟩) 1 1)
    (hown : w.ownsRow base 25 1 hv R.length (R.map rvV)) (hg : w.cell? ⟨g, 0, none⟩ = some (rvV r)) (hlen : R.length ≤ 1000) (hbase : base ≤ w.heap.size)
    (h : ∀ v' w', w'.ownsRow base 25 1 v' (R ++ [r]).length ((R ++ [r]).map rvV) → w.grownBy w' hv.ownBlock → K (a.put o.dst v') w') : if Region.wanted o (yielded ops a.tmps) = true then Oper.wp Try.prog o a w K Q else E := by
  have hw : Region.wanted o (yielded ops a.tmps) = true := by simp [Region.wanted, hgd]
  rw [if_pos hw]
  obtain ⟨v', w', hr, h2, h3⟩ := run_push w base o.type hv R r g hown hg hlen hbase
  unfold Oper.wp execOp
  simp only [ho, resolve, invoke, builtin, Sem.run_bind, Sem.run_pure, Result.andThen_ok, List.map_toArray, List.map_cons, List.map_nil, hs, hx, hr]
  exact h v' w' h2 h3
theorem assert_row (v : Value) (w : World) : (Instr.typeAssert (.iface 25 v) 20 25 false).run Try.prog w = .ok v w := by kernel_rfl
set_option maxHeartbeats 1000000 in
theorem hPush_any (w0 : World) (bh : Nat) (hv : Value) (R : List RV) (r : RV) (w : World) (h : Hp w0 bh hv R w) (hr : RowOk w0 r ∧ 0 < r.l.length) (hlen : R.length ≤ 1000) :
    Calls Try.prog 67 #[.pointer (some ⟨bh, 0, none⟩), .iface 25 (rvV r)] w fun e w' => ∃ v', e = .returned (.tuple #[]) ∧ Hp w0 bh v' (R ++ [r]) w' ∧ KeptR w w' := by
  obtain ⟨q, c, rfl, _, _⟩ := h.val
  obtain ⟨qr, nr, cr, lr⟩ := r
  rw [show rvV ⟨qr, nr, cr, lr⟩ = .slice qr nr cr from rfl]
  have h1 : Hp w0 bh (.slice q R.length c) R (w.alloc (.cells #[.slice qr nr cr] 25)).drew := (h.next (below_alloc _ _)).drew
  obtain ⟨m, hm⟩ : ∃ m, R.length = m := ⟨_, rfl⟩
  have c0 : w.cell? ⟨bh, 0, none⟩ = some (.slice q R.length c) := Lib.cell_of_heap h.ptr 0
  rw [hm] at h1 c0
  have HW : Hid (∀ v' w2, w2.ownsRow w0.heap.size 25 1 v' (R ++ [(⟨qr, nr, cr, lr⟩ : RV)]).length ((R ++ [(⟨qr, nr, cr, lr⟩ : RV)]).map rvV) → (w.alloc (.cells #[.slice qr nr cr] 25)).drew.grownBy w2 (Value.slice q m c).ownBlock → ∃ qv nv mv, v' = .slice qv nv mv ∧ w2.cell? ⟨bh, 0, none⟩ = some (.slice q m c) ∧ w2.frozen? ⟨bh, 0, none⟩ = false ∧ Hp w0 bh v' (R ++ [⟨qr, nr, cr, lr⟩]) (w2.setCell ⟨bh, 0, none⟩ v') ∧ KeptR w (w2.setCell ⟨bh, 0, none⟩ v')) := by
    intro v' w2 ho hg
    obtain ⟨h2, hk2, hp2⟩ := h1.push hr ho hg
    obtain ⟨qv, mv, hvv, _, _⟩ := own_form ho
    exact ⟨qv, _, mv, hvv, Lib.cell_of_heap hp2 0, frozen_row hp2 0, h2, (keptR_below (below_alloc w (.cells #[.slice qr nr cr] 25)).drew).trans hk2⟩
  have HOWN : Hid ((w.alloc (.cells #[.slice qr nr cr] 25)).drew.ownsRow w0.heap.size 25 1 (.slice q m c) R.length (R.map rvV)) := h1.own
  have HCE : Hid ((w.alloc (.cells #[.slice qr nr cr] 25)).drew.cell? ⟨w.heap.size, 0, none⟩ = some (rvV ⟨qr, nr, cr, lr⟩)) := Lib.cell_of_heap (heap_alloc_new w _) 0
  have HLEN : Hid (R.length ≤ 1000 ∧ w0.heap.size ≤ (w.alloc (.cells #[.slice qr nr cr] 25)).drew.heap.size) := ⟨hlen, h1.bel.size⟩
  have c1 : (w.alloc (.cells #[.slice qr nr cr] 25)).cell? ⟨bh, 0, none⟩ = some (.slice q m c) := Lib.cell_of_heap h1.ptr 0
  clear h h1 hm hlen hr
  have hta := assert_row (.slice qr nr cr)
  go_enter Try.func67, Try.ntmps67
  go_wp2
  go_region_law (refine step_push rfl (.tmp 7) (.tmp 10) rfl w0.heap.size (.slice q m c) R ⟨qr, nr, cr, lr⟩ w.heap.size (by simp [Act.eval]) (by simp [Act.eval]) HOWN.out HCE.out HLEN.out.1 HLEN.out.2 ?_; intro v' w2 ho2 hg2; obtain ⟨qv, nv, mv, rfl, c2, f2, hx2, hk2⟩ := HW.out v' w2 ho2 hg2; have HX : Hid _ := And.intro hx2 hk2; clear hx2 hk2 ho2 hg2)
  all_goals go_wp2
  all_goals go_end0
  all_goals exact ⟨_, rfl, HX.out⟩
end Go.Proofs.Ytbnacopefclklaa
namespace Go.Proofs.Ytbnacopefclklaa
open Go.RowKit Go.WideShapes

theorem hLen_any (q : Option Addr) (n c : Nat) (w : World) : Calls Try.prog 41 #[.slice q n c] w fun e w' => e = .returned (.int .i64 (n : Int)) ∧ w' = w := by
  go_enter Try.func41, Try.ntmps41
  go_wp2
  go_ret
  exact ⟨rfl, rfl⟩
theorem own_take {w : World} {base n s g cap : Nat} {e : TypeId} {xs : List Value} (h : w.ownsRow base e s (.slice (some ⟨g, 0, none⟩) n cap) n xs) {k : Nat} (hk : k ≤ n) : w.ownsRow base e s (.slice (some ⟨g, 0, none⟩) k cap) k (xs.take (k * s)) := by
  obtain ⟨h1, h2⟩ := h
  have hks : k * s ≤ n * s := Nat.mul_le_mul_right _ hk
  refine ⟨by rw [List.length_take, h1]; omega, ?_⟩
  rcases h2 with ⟨hv, _⟩ | ⟨g', cap', cur, hv, hbs, hg, h3, h4, h5, h6⟩
  · cases hv
  · simp only [Value.slice.injEq, Option.some.injEq, Addr.mk.injEq] at hv
    obtain ⟨⟨rfl, _⟩, _, rfl⟩ := hv
    refine .inr ⟨g, cap, cur, rfl, hbs, hg, by omega, h4, h5, ?_⟩
    rw [← h6, List.take_take, Nat.min_eq_left hks]
theorem Hp.pop {w0 w : World} {bh g cap : Nat} {R : List RV} (h : Hp w0 bh (.slice (some ⟨g, 0, none⟩) R.length cap) R w) {k : Nat} (hk : k ≤ R.length) :
    Hp w0 bh (.slice (some ⟨g, 0, none⟩) k cap) (R.take k) (w.setCell ⟨bh, 0, none⟩ (.slice (some ⟨g, 0, none⟩) k cap)) ∧ KeptR w (w.setCell ⟨bh, 0, none⟩ (.slice (some ⟨g, 0, none⟩) k cap)) := by
  have ho := own_take h.own hk
  rw [Nat.mul_one, ← List.map_take] at ho
  have hne2 := own_neS ho h.ptr (by decide)
  refine ⟨⟨h.bel.setCell (p := ⟨bh, 0, none⟩) h.bhb _, h.bhb, ?_, ?_, fun x hx => h.rows x (List.mem_of_mem_take hx)⟩, keptR_set h.ptr (.inr rfl) _⟩
  · have := heap_setCell_same w bh 0 _ _ (.slice (some ⟨g, 0, none⟩) k cap) h.ptr
    simpa using this
  · rw [List.length_take, Nat.min_eq_left hk]
    exact own_heap ho (fun g' hgg => heap_setCell_other w ⟨bh, 0, none⟩ g' _ (fun e => hne2 (by rw [hgg]; exact congrArg some e)))
set_option maxHeartbeats 1000000 in
theorem hPop_any (w0 : World) (bh : Nat) (hv : Value) (R : List RV) (w : World) (h : Hp w0 bh hv R w) (hp : 0 < R.length) (hlen : R.length ≤ 1000) :
    Calls Try.prog 66 #[.pointer (some ⟨bh, 0, none⟩)] w fun e w' => ∃ v', e = .returned (.iface 25 (rvV (R.getD (R.length - 1) zR))) ∧ Hp w0 bh v' (R.take (R.length - 1)) w' ∧ KeptR w w' := by
  obtain ⟨g, cap, cur, rfl, hgb, hg, hle, hmax, hc, hf⟩ := h.form hp
  have c0 : w.cell? ⟨bh, 0, none⟩ = some (.slice (some ⟨g, 0, none⟩) R.length cap) := Lib.cell_of_heap h.ptr 0
  have f0 : w.frozen? ⟨bh, 0, none⟩ = false := frozen_row h.ptr 0
  have hl := hc (R.length - 1) (by omega)
  obtain ⟨h2, k2⟩ := h.pop (k := R.length - 1) (by omega)
  obtain ⟨⟨q1, n1, c1, l1⟩, hV1⟩ : ∃ V, R.getD (R.length - 1) zR = V := ⟨_, rfl⟩
  rw [hV1] at hl ⊢
  rw [show rvV ⟨q1, n1, c1, l1⟩ = .slice q1 n1 c1 from rfl] at hl ⊢
  obtain ⟨k, hk⟩ : ∃ k, R.length - 1 = k := ⟨_, rfl⟩
  have kI : IntKind.i64.wrap ((R.length : Int) - 1) = (k : Int) := by rw [IntKind.wrap_i64]; omega
  rw [hk] at hl h2 k2 ⊢
  have HX : Hid (Hp w0 bh (.slice (some ⟨g, 0, none⟩) k cap) (R.take k) (w.setCell ⟨bh, 0, none⟩ (.slice (some ⟨g, 0, none⟩) k cap)) ∧ KeptR w (w.setCell ⟨bh, 0, none⟩ (.slice (some ⟨g, 0, none⟩) k cap))) := ⟨h2, k2⟩
  obtain ⟨m, hm⟩ : ∃ m, R.length = m := ⟨_, rfl⟩
  rw [hm] at c0 kI
  have k0 : (0 : Int) ≤ (k : Int) := by omega
  have k1 : (k : Int) < (m : Int) := by omega
  have k2' : (k : Int) ≤ (cap : Int) := by omega
  have k3 : k ≤ cap := by omega
  clear h h2 k2 hc hf hg hgb hle hmax hk hm hV1 hp hlen
  go_enter Try.func66, Try.ntmps66
  go_wp2
  go_ret
  exact ⟨_, rfl, HX.out⟩
set_option maxHeartbeats 1000000 in
theorem heapPush_any (w0 : World) (bh : Nat) (hv : Value) (R : List RV) (r : RV) (w : World) (h : Hp w0 bh hv R w) (hh : Heap zR ltR R) (hr : RowOk w0 r ∧ 0 < r.l.length) (hlen : R.length ≤ 900) :
    Calls Try.prog 40 #[.iface 67 (.pointer (some ⟨bh, 0, none⟩)), .iface 25 (rvV r)] w fun e w' => ∃ v' R', e = .returned (.tuple #[]) ∧ R'.Perm (R ++ [r]) ∧ Heap zR ltR R' ∧ Hp w0 bh v' R' w' ∧ KeptR w w' := by
  have HP := hPush_any w0 bh hv R r w h hr (by omega)
  have hme := meth_push ⟨bh, 0, none⟩ w
  have HH : Hid (Heap zR ltR R ∧ R.length ≤ 900) := ⟨hh, hlen⟩
  have kI : IntKind.i64.wrap (((R.length : Nat) : Int) + 1 - 1) = (R.length : Int) := by rw [IntKind.wrap_i64]; omega
  clear h hh hr hlen
  go_enter Try.func40, Try.ntmps40
  go_wp2_with fail
  refine HP.mono ?_
  rintro e w2 ⟨v', rfl, h2, k2⟩
  obtain ⟨q, c, rfl, _, _⟩ := h2.val
  have hl : (R ++ [r]).length = R.length + 1 := by simp
  rw [hl] at h2
  have HU := up_any w0 bh _ (R ++ [r]) w2 h2 R.length (by omega) (heap_put HH.out.1 r) (by have := HH.out.2; omega)
  have hm2 := meth_len q (R.length + 1) c bh w2 (Lib.cell_of_heap h2.ptr 0)
  have HK : Hid (KeptR w w2) := k2
  obtain ⟨m, hm⟩ : ∃ m, R.length + 1 = m := ⟨_, rfl⟩
  have kI' : IntKind.i64.wrap ((m : Int) - 1) = (R.length : Int) := by rw [← hm, ← kI]; rfl
  rw [hm] at hm2 HU
  obtain ⟨k, hk⟩ : ∃ k, R.length = k := ⟨_, rfl⟩
  rw [hk] at HU kI'
  have HLN := hLen_any q m c w2
  clear HP h2 k2 hme kI hl hm hk
  go_wp2_with fail
  refine HLN.mono ?_
  rintro e w3 ⟨rfl, rfl⟩
  clear HLN
  go_wp2_with fail
  refine HU.mono ?_
  rintro e w4 ⟨rfl, R', p4, hh4, h4, k4⟩
  have H4 : Hid (R'.Perm (R ++ [r]) ∧ Heap zR ltR R' ∧ Hp w0 bh (.slice q m c) R' w4 ∧ KeptR w w4) := ⟨p4, hh4, h4, HK.out.trans k4⟩
  clear p4 hh4 h4 k4 HU
  go_wp2
  go_end0
  exact ⟨_, R', rfl, H4.out⟩
set_option maxHeartbeats 1000000 in
theorem heapFix_any (w0 : World) (bh : Nat) (hv : Value) (R : List RV) (w : World) (h : Hp w0 bh hv R w) (hd : DownOk zR ltR R R.length 0) (hp : 0 < R.length) (hlen : R.length ≤ 1000) :
    Calls Try.prog 43 #[.iface 67 (.pointer (some ⟨bh, 0, none⟩)), .int .i64 0] w fun e w' => ∃ R', e = .returned (.tuple #[]) ∧ R'.Perm R ∧ Heap zR ltR R' ∧ Hp w0 bh hv R' w' ∧ KeptR w w' := by
  have HD := down_any w0 bh hv R w h R.length (Nat.le_refl _) hd hlen
  obtain ⟨q, c, rfl, _, _⟩ := h.val
  have hme := meth_len q R.length c bh w (Lib.cell_of_heap h.ptr 0)
  have HLN := hLen_any q R.length c w
  obtain ⟨m, hm⟩ : ∃ m, R.length = m := ⟨_, rfl⟩
  rw [hm] at HD hme HLN
  have HH : Hid (R.length = m ∧ 0 < R.length ∧ R.length ≤ 1000) := ⟨hm, hp, hlen⟩
  clear h hd hp hlen hm
  go_enter Try.func43, Try.ntmps43
  go_wp2_with fail
  refine HLN.mono ?_
  rintro e w1 ⟨rfl, hw⟩
  have hw := hw.symm
  subst hw
  clear HLN
  go_wp2_with fail
  refine HD.mono ?_
  rintro e w2 ⟨b, R2, rfl, p2, hh2, _, h2, k2⟩
  have HU := up_any w0 bh _ R2 w2 h2 0 (by rw [p2.length_eq]; exact HH.out.2.1) ⟨fun k k0 kn _ => hh2 k k0 (by rw [p2.length_eq, HH.out.1] at kn; exact kn), fun k k0 kn kp j0 => by omega⟩ (by rw [p2.length_eq]; exact HH.out.2.2)
  have H2 : Hid (R2.Perm R ∧ Heap zR ltR R2 ∧ Hp w0 bh (.slice q m c) R2 w2 ∧ KeptR w w2) := ⟨p2, fun k k0 kn => hh2 k k0 (by rw [p2.length_eq, HH.out.1] at kn; exact kn), h2, k2⟩
  rw [show ((0 : Nat) : Int) = 0 from rfl] at HU
  clear p2 hh2 h2 k2 HD hme
  cases b with
  | true =>
    go_wp2
    go_end0
    exact ⟨R2, rfl, by have h := H2.out; rw [← HH.out.1] at h; exact h⟩
  | false =>
    go_wp2_with fail
    refine HU.mono ?_
    rintro e w4 ⟨rfl, R', p4, hh4, h4, k4⟩
    have H4 : Hid (R'.Perm R ∧ Heap zR ltR R' ∧ Hp w0 bh (.slice q m c) R' w4 ∧ KeptR w w4) := ⟨p4.trans H2.out.1, hh4, h4, H2.out.2.2.2.trans k4⟩
    clear p4 hh4 h4 k4 HU
    go_wp2
    go_end0
    exact ⟨R', rfl, by have h := H4.out; rw [← HH.out.1] at h; exact h⟩
set_option maxHeartbeats 1000000 in
theorem heapPop_any (w0 : World) (bh : Nat) (hv : Value) (R : List RV) (w : World) (h : Hp w0 bh hv R w) (hh : Heap zR ltR R) (hp : 0 < R.length) (hlen : R.length ≤ 1000) :
    Calls Try.prog 42 #[.iface 67 (.pointer (some ⟨bh, 0, none⟩))] w fun e w' => ∃ v v' R', e = .returned v ∧ (R' ++ [R.getD 0 zR]).Perm R ∧ Heap zR ltR R' ∧ Hp w0 bh v' R' w' ∧ KeptR w w' := by
  obtain ⟨q, c, rfl, _, _⟩ := h.val
  have hme := meth_len q R.length c bh w (Lib.cell_of_heap h.ptr 0)
  have hms := meth_swap q R.length c bh w (Lib.cell_of_heap h.ptr 0)
  have HLN := hLen_any q R.length c w
  have HSW := hSwap_any w0 bh _ R w h 0 (R.length - 1) hp (by omega)
  have HDN := heap_swap hh hp
  obtain ⟨m, hm⟩ : ∃ m, R.length = m := ⟨_, rfl⟩
  obtain ⟨k, hk⟩ : ∃ k, R.length - 1 = k := ⟨_, rfl⟩
  have kI : IntKind.i64.wrap ((m : Int) - 1) = (k : Int) := by rw [IntKind.wrap_i64]; omega
  rw [hk] at HSW HDN
  rw [hm] at HSW hme hms HLN
  rw [show ((0 : Nat) : Int) = 0 from rfl] at HSW
  have HH : Hid (R.length = m ∧ R.length - 1 = k ∧ 0 < R.length ∧ R.length ≤ 1000 ∧ DownOk zR ltR (swp zR R 0 k) k 0) := ⟨hm, hk, hp, hlen, HDN⟩
  clear h hh hp hlen hm hk HDN
  go_enter Try.func42, Try.ntmps42
  go_wp2_with fail
  refine HLN.mono ?_
  rintro e w1 ⟨rfl, hw⟩
  have hw := hw.symm
  subst hw
  clear HLN
  go_wp2_with fail
  refine HSW.mono ?_
  rintro e w2 ⟨rfl, h2, k2⟩
  have hl2 : (swp zR R 0 k).length = R.length := swp_length zR R 0 k
  have HD := down_any w0 bh _ _ w2 h2 k (by rw [hl2]; have := HH.out; omega) HH.out.2.2.2.2 (by rw [hl2]; exact HH.out.2.2.2.1)
  have H2 : Hid (KeptR w w2) := k2
  clear HSW h2 k2 hme hms
  go_wp2_with fail
  refine HD.mono ?_
  rintro e w3 ⟨b, R3, rfl, p3, hh3, hf3, h3, k3⟩
  have hl3 : R3.length = R.length := by rw [p3.length_eq, hl2]
  have HPP := hPop_any w0 bh _ R3 w3 h3 (by rw [hl3]; exact HH.out.2.2.1) (by rw [hl3]; exact HH.out.2.2.2.1)
  have hmp := meth_pop ⟨bh, 0, none⟩ w3
  have e3 : R3.length - 1 = k := by rw [hl3]; exact HH.out.2.1
  rw [e3] at HPP
  have H3 : Hid (KeptR w w3 ∧ Heap zR ltR (R3.take k) ∧ (R3.take k ++ [R.getD 0 zR]).Perm R) := by
    have hkl : k < R3.length := by rw [hl3]; have := HH.out; omega
    have e0 : R3.getD k zR = R.getD 0 zR := by
      rw [hf3 k (Nat.le_refl _), swp_at zR HH.out.2.2.1 (by have := HH.out; omega), if_pos rfl]
    have et : R3.take k ++ [R.getD 0 zR] = R3 := by
      rw [← e0, List.getD_eq_getElem?_getD, List.getElem?_eq_getElem hkl]
      have := List.take_append_getElem hkl
      simp only [Option.getD_some] at this ⊢
      rw [this, List.take_of_length_le (by omega)]
    refine ⟨H2.out.trans k3, ?_, ?_⟩
    · intro i i0 hi
      rw [List.length_take] at hi
      have hik : i < k := by omega
      have g : ∀ j, j < k → (R3.take k).getD j zR = R3.getD j zR := fun j hj => by rw [List.getD_eq_getElem?_getD, List.getElem?_take_of_lt hj, List.getD_eq_getElem?_getD]
      rw [g i hik, g _ (by omega)]
      exact hh3 i i0 hik
    · rw [et]
      exact p3.trans (swp_perm zR HH.out.2.2.1 (by have := HH.out; omega))
  clear HD p3 hh3 hf3 h3 k3 hl2 hl3 e3
  go_wp2_with fail
  refine HPP.mono ?_
  rintro e w4 ⟨v4, rfl, h4, k4⟩
  have H4 : Hid (Hp w0 bh v4 (R3.take k) w4 ∧ KeptR w w4) := ⟨h4, H3.out.1.trans k4⟩
  clear HPP h4 k4 hmp
  go_wp2
  go_ret
  exact ⟨_, v4, R3.take k, rfl, H3.out.2.2, H3.out.2.1, H4.out⟩
end Go.Proofs.Ytbnacopefclklaa
namespace Go.Proofs.Ytbnacopefclklaa
open Go.RowKit Go.WideShapes

def RowsIn (w : World) (q : Option Addr) (R : List RV) : Prop := 0 < R.length → ∃ b o, q = some ⟨b, o, none⟩ ∧ ∀ i, i < R.length → w.cell? ⟨b, o + i, none⟩ = some (rvV (R.getD i zR))
structure RowsL (w : World) (q : Option Addr) (n : Nat) (R : List RV) : Prop where
  n : n = R.length
  lies : RowsIn w q R
  each : ∀ r ∈ R, RowOk w r
theorem RowsIn.below {w w' : World} {q : Option Addr} {R : List RV} (h : RowsIn w q R) (hb : Below w.heap.size w w') : RowsIn w' q R := by
  intro hp
  obtain ⟨b, o, rfl, hc⟩ := h hp
  exact ⟨b, o, rfl, fun i hi => cell_below (hc i hi) hb⟩
theorem RowsL.below {w w' : World} {q : Option Addr} {n : Nat} {R : List RV} (h : RowsL w q n R) (hb : Below w.heap.size w w') : RowsL w' q n R := ⟨h.n, h.lies.below hb, fun r hr => (h.each r hr).below hb⟩
theorem RowsL.at {w : World} {q : Option Addr} {n : Nat} {R : List RV} (h : RowsL w q n R) {i : Nat} (hi : i < R.length) : ∃ b o, q = some ⟨b, o, none⟩ ∧ w.cell? ⟨b, o + i, none⟩ = some (rvV (R.getD i zR)) := by
  obtain ⟨b, o, e, hc⟩ := h.lies (by omega)
  exact ⟨b, o, e, hc i hi⟩
/-- All entries of rows. -/
def entsR (R : List RV) : List EntV := (R.map RV.l).flatten
theorem entsR_cons (r : RV) (R : List RV) : entsR (r :: R) = r.l ++ entsR R := by simp [entsR]
theorem entsR_app (R S : List RV) : entsR (R ++ S) = entsR R ++ entsR S := by simp [entsR]
theorem entsR_perm {R S : List RV} (h : R.Perm S) : (entsR R).Perm (entsR S) := (h.map _).flatten
/-- What was taken, and what is left in the heap. -/
structure Jo (T L : List EntV) (R : List RV) : Prop where
  perm : (L ++ entsR R).Perm T
  weak : WeakE L
  low : ∀ x ∈ L, ∀ r ∈ R, ∀ y ∈ r.l, lessE y x = false
  rows : ∀ r ∈ R, WeakE r.l
theorem Jo.of {T L : List EntV} {R R' : List RV} (h : Jo T L R) (hp : R'.Perm R) : Jo T L R' :=
  ⟨((entsR_perm hp).append_left L).trans h.perm, h.weak, fun x hx r hr => h.low x hx r (hp.mem_iff.1 hr), fun r hr => h.rows r (hp.mem_iff.1 hr)⟩
theorem Jo.least {T L : List EntV} {R : List RV} (h : Jo T L R) (hh : Heap zR ltR R) {x : EntV} {t : List EntV} (hx : (R.getD 0 zR).l = x :: t) {r : RV} (hr : r ∈ R) {y : EntV} (hy : y ∈ r.l) : lessE y x = false := by
  have h1 := heap_least ltR_trans ltR_irr hh hr
  unfold ltR headR at h1
  rw [hx] at h1
  simp only [List.getD_cons_zero] at h1
  obtain ⟨a, s, hl⟩ : ∃ a s, r.l = a :: s := by
    cases hl : r.l with
    | nil => rw [hl] at hy; cases hy
    | cons a s => exact ⟨a, s, rfl⟩
  rw [hl] at h1 hy
  simp only [List.getD_cons_zero] at h1
  rcases List.mem_cons.1 hy with rfl | hy
  · exact h1
  · have := h.rows r hr
    rw [hl] at this
    exact weak_trans h1 ((List.pairwise_cons.1 this).1 y hy)
theorem Jo.weak' {T L : List EntV} {R : List RV} (h : Jo T L R) {x : EntV} {t : List EntV} (hx : (R.getD 0 zR).l = x :: t) (hp : 0 < R.length) : WeakE (L ++ [x]) := by
  refine List.pairwise_append.2 ⟨h.weak, by simp, fun a ha b hb => ?_⟩
  simp at hb
  subst hb
  exact h.low a ha _ (getR_mem hp) b (by rw [hx]; simp)
theorem Jo.low' {T L : List EntV} {R : List RV} (h : Jo T L R) (hh : Heap zR ltR R) {x : EntV} {t : List EntV} (hx : (R.getD 0 zR).l = x :: t) : ∀ z ∈ L ++ [x], ∀ r ∈ R, ∀ y ∈ r.l, lessE y z = false := by
  intro z hz r hr y hy
  rcases List.mem_append.1 hz with hz | hz
  · exact h.low z hz r hr y hy
  · simp at hz
    subst hz
    exact h.least hh hx hr hy
theorem Jo.pop {T L : List EntV} {R R' : List RV} (h : Jo T L R) (hh : Heap zR ltR R) (hp : 0 < R.length) {x : EntV} (hx : (R.getD 0 zR).l = [x]) (hq : (R' ++ [R.getD 0 zR]).Perm R) : Jo T (L ++ [x]) R' := by
  have hsub : ∀ r ∈ R', r ∈ R := fun r hr => hq.mem_iff.1 (List.mem_append_left _ hr)
  refine ⟨?_, h.weak' hx hp, fun z hz r hr => h.low' hh hx z hz r (hsub r hr), fun r hr => h.rows r (hsub r hr)⟩
  have h1 := entsR_perm hq
  rw [entsR_app, entsR_cons, hx, show entsR ([] : List RV) = [] from rfl, List.append_nil] at h1
  refine List.Perm.trans ?_ h.perm
  rw [List.append_assoc]
  exact (List.perm_append_comm.trans h1).append_left L
theorem Jo.cut {T L : List EntV} {R : List RV} (h : Jo T L R) (hh : Heap zR ltR R) (hp : 0 < R.length) {x : EntV} {t : List EntV} (hx : (R.getD 0 zR).l = x :: t) (r' : RV) (hr' : r'.l = t) : Jo T (L ++ [x]) (R.set 0 r') := by
  cases R with
  | nil => simp at hp
  | cons r0 S =>
    simp only [List.getD_cons_zero] at hx
    have hsub : ∀ r ∈ r' :: S, ∀ y ∈ r.l, ∃ s ∈ r0 :: S, y ∈ s.l := by
      intro r hr y hy
      rcases List.mem_cons.1 hr with rfl | hr
      · exact ⟨r0, by simp, by rw [hx, ← hr']; simp [hy]⟩
      · exact ⟨r, by simp [hr], hy⟩
    refine ⟨?_, h.weak' (by simpa using hx) hp, fun z hz r hr y hy => ?_, fun r hr => ?_⟩
    · refine List.Perm.trans ?_ h.perm
      rw [List.set_cons_zero, entsR_cons, entsR_cons, hr', hx]
      simp
    · rw [List.set_cons_zero] at hr
      obtain ⟨s, hs, hys⟩ := hsub r hr y hy
      exact h.low' hh (by simpa using hx) z hz s hs y hys
    · rw [List.set_cons_zero] at hr
      rcases List.mem_cons.1 hr with rfl | hr
      · have := h.rows r0 (by simp)
        rw [hx] at this
        rw [hr']
        exact (List.pairwise_cons.1 this).2
      · exact h.rows r (by simp [hr])
theorem Hp.grownE {w0 w w' : World} {bh base : Nat} {hv v : Value} {R : List RV} {L : List EntV} (h : Hp w0 bh hv R w) (ho : EOwn w base v L) (hb : w0.heap.size ≤ base) (hg : w.grownBy w' v.ownBlock) : Hp w0 bh hv R w' := by
  refine ⟨ents_grownE ho hg h.bel hb, h.bhb, ?_, ?_, h.rows⟩
  · rw [hg.block bh (lt_heap h.ptr) (fun e => own_neS ho h.ptr (by decide) e.symm)]
    exact h.ptr
  · refine World.ownsRow.kept h.own hg ?_
    cases h3 : hv.ownBlock with
    | none => exact .inl rfl
    | some k =>
      right
      rcases h.own.2 with ⟨hv', _⟩ | ⟨g, cap, cur, hv', _, hgg, _⟩
      · rw [hv'] at h3; cases h3
      · rw [hv'] at h3
        simp only [Value.ownBlock, Option.some.injEq] at h3
        subst h3
        exact fun e => own_neS ho hgg (by decide) e.symm
theorem EOwn.kept {w w' : World} {base : Nat} {v : Value} {L : List EntV} (h : EOwn w base v L) (k : KeptR w w') : EOwn w' base v L := by
  refine own_heap h (fun g hg => ?_)
  rcases h.2 with ⟨hv, _⟩ | ⟨g', cap, cur, hv, _, hgg, _⟩
  · rw [hv] at hg; cases hg
  · rw [hv] at hg
    simp only [Value.ownBlock, Option.some.injEq] at hg
    subst hg
    rw [hgg]
    exact k.typ _ _ _ _ hgg (by decide) (by decide)
theorem ents_new (w : World) (k v : ByteArray) (s : Int) (d : Bool) : EntsIn (w.alloc (.cells #[.string k, .string v, .int .i64 s, .bool d] 23)) (some ⟨w.heap.size, 0, none⟩) [⟨k, v, s, d⟩] := by
  intro _
  refine ⟨w.heap.size, 0, rfl, fun i hi => ?_⟩
  obtain rfl : i = 0 := by simpa using hi
  have hh := heap_alloc_new w (.cells #[.string k, .string v, .int .i64 s, .bool d] 23)
  exact ⟨Lib.cell_of_heap hh 0, Lib.cell_of_heap hh 1, Lib.cell_of_heap hh 2, Lib.cell_of_heap hh 3⟩
def lenV : Value → Nat
  | .slice _ n _ => n
  | _ => 0
theorem make_out (w : World) (many : Nat) (h : many ≤ 100000) (base : Nat) (hb : base ≤ w.heap.size) : ∃ w', (Instr.makeSlice 25 (.int .i64 0) (.int .i64 (many : Int))).run Try.prog w = .ok (.slice (some ⟨w.heap.size, 0, none⟩) 0 many) w' ∧ EOwn w' base (.slice (some ⟨w.heap.size, 0, none⟩) 0 many) [] ∧ w.grownBy w' none := by
  obtain ⟨i0, hi, hz0, hz1, hz2⟩ := info_parts' info_entry
  exact run_make_own (P := Try.prog) w base 25 23 i0 _ 4 Try.underlying25 hi hz0 hz1 .i64 .i64 many (by rw [hz2]; omega) (by unfold maxLen; omega) hb
theorem grown_below {w w' : World} (hg : w.grownBy w' none) : Below w.heap.size w w' := (Below.refl _ _).grown hg (Nat.le_refl _) (fun k hk => by cases hk)
theorem entsR_filter (R : List RV) : entsR (R.filter fun r => decide (0 < r.l.length)) = entsR R := by
  induction R with
  | nil => rfl
  | cons r R ih =>
    rw [List.filter_cons]
    split
    · rw [entsR_cons, entsR_cons, ih]
    · rename_i h
      have : r.l = [] := by simpa using h
      rw [ih, entsR_cons, this, List.nil_append]
theorem takeR_succ {R : List RV} {k : Nat} (hk : k < R.length) : R.take (k + 1) = R.take k ++ [R.getD k zR] := by
  rw [List.take_add_one, List.getElem?_eq_getElem hk, List.getD_eq_getElem?_getD, List.getElem?_eq_getElem hk]
  rfl
set_option maxRecDepth 8000 in
set_option maxHeartbeats 4000000 in
theorem joined_any (q : Option Addr) (n c : Nat) (R : List RV) (w : World) (h : RowsL w q n R) (hn : R.length ≤ 64) (hw : ∀ r ∈ R, WeakE r.l) (many : Nat) (hm : (entsR R).length = many) (hmm : many ≤ 16384) :
    Calls Try.prog 30 #[.slice q n c, .int .i64 (many : Int)] w fun e w' => ∃ v L, e = .returned v ∧ OnB w v L w' ∧ L.Perm (entsR R) ∧ WeakE L := by
  have HL : Hid (RowsL w q n R ∧ R.length ≤ 64 ∧ (∀ r ∈ R, WeakE r.l) ∧ (entsR R).length = many ∧ many ≤ 16384) := ⟨h, hn, hw, hm, hmm⟩
  have nI : (n : Int) ≤ 64 := by have := h.n; omega
  clear h hn hw hm hmm
  have HB0 : Hid (Hp w (w.heap.size + 1) (.slice (some ⟨w.heap.size, 0, none⟩) 0 0) [] ((w.alloc (.cells #[] 25)).alloc (.cells #[.slice (some ⟨w.heap.size, 0, none⟩) 0 0] 68))) := by
    refine ⟨below_bt (below_alloc _ _) (below_alloc _ _), by omega, ?_, ⟨by simp, .inr ⟨w.heap.size, 0, #[], rfl, Nat.le_refl _, ?_, Nat.le_refl _, by unfold maxLen; omega, by simp, by simp⟩⟩, by simp⟩
    · have := heap_alloc_new (w.alloc (.cells #[] 25)) (.cells #[.slice (some ⟨w.heap.size, 0, none⟩) 0 0] 68)
      rwa [show (w.alloc (.cells #[] 25)).heap.size = w.heap.size + 1 by simp] at this
    · exact block_belowR (heap_alloc_new w _) (below_alloc _ _)
  go_enter Try.func30, Try.ntmps30
  go_wp2
  go_loopw [14] (fun s14 wr => ∃ (k : Nat) (Rk : List RV) (hv : Value), s14 = .int .i64 (k : Int) ∧ k ≤ n ∧ Rk.Perm ((R.take k).filter fun r => decide (0 < r.l.length)) ∧ Heap zR ltR Rk ∧ Hp w (w.heap.size + 1) hv Rk wr) (fun s14 _ => n - (intOf s14).toNat)
  case atStart => exact ⟨0, [], _, rfl, by omega, by simp, heap_nil, HB0.out⟩
  case round =>
    obtain ⟨k, Rk, hv, rfl, hk, hp, hh, hon⟩ := hrel
    have HK : Hid (k ≤ n ∧ Rk.Perm ((R.take k).filter fun r => decide (0 < r.l.length)) ∧ Heap zR ltR Rk ∧ Hp w (w.heap.size + 1) hv Rk wr) := ⟨hk, hp, hh, hon⟩
    clear hk hp hh hon HB0
    by_cases hkn : k < n
    · have hkI : (k : Int) < (n : Int) := by omega
      have k0 : (0 : Int) ≤ (k : Int) := by omega
      have hkR : k < R.length := by have := HL.out.1.n; omega
      obtain ⟨b, o, rfl, hc⟩ := (HL.out.1.below HK.out.2.2.2.bel).at hkR
      obtain ⟨r, hr⟩ : ∃ r, R.getD k zR = r := ⟨_, rfl⟩
      have hro := HL.out.1.each _ (getR_mem hkR)
      rw [hr] at hc hro
      have HR : Hid (R.getD k zR = r ∧ k < R.length ∧ RowOk w r) := ⟨hr, hkR, hro⟩
      have hlr : Rk.length ≤ 64 := by
        rw [HK.out.2.1.length_eq]
        refine Nat.le_trans (List.length_filter_le _ _) ?_
        rw [List.length_take]
        have := HL.out.2.1
        omega
      by_cases hrn : 0 < r.n
      · have hrl : 0 < r.l.length := by have := hro.n; omega
        have HP := heapPush_any w (w.heap.size + 1) hv Rk r wr HK.out.2.2.2 HK.out.2.2.1 ⟨hro, hrl⟩ (by omega)
        have HRL : Hid (0 < r.l.length) := hrl
        obtain ⟨qr, nr, cr, lr⟩ := r
        simp only at hrn
        rw [show rvV ⟨qr, nr, cr, lr⟩ = .slice qr nr cr from rfl] at hc HP
        have hrnI : (0 : Int) < (nr : Int) := by omega
        clear hr hkR hro hlr hrl hkn
        go_wp2_with fail
        refine HP.mono ?_
        rintro e w2 ⟨v2, R2, rfl, p2, hh2, h2, _⟩
        have H2 : Hid (R2.Perm ((R.take (k + 1)).filter fun r => decide (0 < r.l.length)) ∧ Heap zR ltR R2 ∧ Hp w (w.heap.size + 1) v2 R2 w2) := by
          refine ⟨?_, hh2, h2⟩
          rw [takeR_succ HR.out.2.1, List.filter_append, HR.out.1, List.filter_cons, if_pos (by simpa using HRL.out), List.filter_nil]
          exact p2.trans (HK.out.2.1.append_right _)
        clear p2 hh2 h2 HP hc
        go_wp2
        go_roundw
        case rel => exact ⟨k + 1, R2, v2, by go_num, by have := HR.out.2.1; have := HL.out.1.n; omega, H2.out⟩
        case measure => have := HR.out.2.1; have := HL.out.1.n; simp [intOf]; omega
      · have hr0 : r.l = [] := by have := hro.n; exact List.length_eq_zero_iff.1 (by omega)
        obtain ⟨qr, nr, cr, lr⟩ := r
        simp only at hrn hr0
        subst hr0
        obtain rfl : nr = 0 := by omega
        rw [show rvV ⟨qr, 0, cr, []⟩ = .slice qr 0 cr from rfl] at hc
        have H2 : Hid (Rk.Perm ((R.take (k + 1)).filter fun r => decide (0 < r.l.length)) ∧ Heap zR ltR Rk ∧ Hp w (w.heap.size + 1) hv Rk wr) := by
          refine ⟨?_, HK.out.2.2⟩
          rw [takeR_succ HR.out.2.1, List.filter_append, HR.out.1, List.filter_cons, if_neg (by simp), List.filter_nil, List.append_nil]
          exact HK.out.2.1
        clear hr hkR hro hlr hkn
        go_wp2
        go_roundw
        case rel => exact ⟨k + 1, Rk, hv, by go_num, by have := HR.out.2.1; have := HL.out.1.n; omega, H2.out⟩
        case measure => have := HR.out.2.1; have := HL.out.1.n; simp [intOf]; omega
    · have hkI : (n : Int) ≤ (k : Int) := by omega
      have hJ : Jo (entsR R) [] Rk := by
        have e : R.take k = R := List.take_of_length_le (by have := HL.out.1.n; omega)
        have hp := HK.out.2.1
        rw [e] at hp
        refine ⟨?_, List.Pairwise.nil, by simp, fun r hr => HL.out.2.2.1 r (List.mem_filter.1 (hp.mem_iff.1 hr)).1⟩
        have := entsR_perm hp
        rw [entsR_filter] at this
        simpa using this
      obtain ⟨wm, hmk, hmo, hmg⟩ := make_out wr many (by have := HL.out; omega) w.heap.size HK.out.2.2.2.bel.size
      have hlr : Rk.length ≤ 64 := by
        rw [HK.out.2.1.length_eq]
        refine Nat.le_trans (List.length_filter_le _ _) ?_
        rw [List.length_take]
        have := HL.out.2.1
        omega
      have H2 : Hid (Jo (entsR R) [] Rk ∧ Heap zR ltR Rk ∧ Hp w (w.heap.size + 1) hv Rk wm ∧ EOwn wm w.heap.size (.slice (some ⟨wr.heap.size, 0, none⟩) 0 many) [] ∧ Rk.length ≤ 64) := ⟨hJ, HK.out.2.2.1, HK.out.2.2.2.next (grown_below hmg), hmo, hlr⟩
      clear hJ hmo hmg hlr HK
      go_wp2
      go_loopw [8] (fun s8 wx => ∃ (Rk : List RV) (hv : Value) (L : List EntV), Jo (entsR R) L Rk ∧ Heap zR ltR Rk ∧ Hp w (w.heap.size + 1) hv Rk wx ∧ EOwn wx w.heap.size s8 L ∧ Rk.length ≤ 64) (fun s8 _ => many - lenV s8)
      case atStart => exact ⟨Rk, hv, [], H2.out⟩
      case round =>
        obtain ⟨Rx, hx, L, hJ, hH, hon, ho, hl64⟩ := hrel
        have HS : Hid (Jo (entsR R) L Rx ∧ Heap zR ltR Rx ∧ Rx.length ≤ 64) := ⟨hJ, hH, hl64⟩
        obtain ⟨qo, co, rfl, hoc, hocm, hoq⟩ := ho.form
        have HO : Hid (Hp w (w.heap.size + 1) hx Rx wr ∧ EOwn wr w.heap.size (.slice qo L.length co) L) := ⟨hon, ho⟩
        have HLM : Hid (L.length + (entsR Rx).length = many) := by
          have := hJ.perm.length_eq
          rw [List.length_append] at this
          show _ = _
          rw [this]
          exact HL.out.2.2.2.1
        obtain ⟨qh, ch, rfl, hlc, _⟩ := hon.val
        have pt : wr.cell? ⟨w.heap.size + 1, 0, none⟩ = some (.slice qh Rx.length ch) := Lib.cell_of_heap hon.ptr 0
        have HLN := hLen_any qh Rx.length ch wr
        clear hJ hH hoc hocm hoq ho hlc H2
        by_cases hr0 : 0 < Rx.length
        · have HR0 : Hid (0 < Rx.length) := hr0
          obtain ⟨g, cap, cur, hgv, hgb, hg, hle, hmax, hc, hf⟩ := hon.form hr0
          simp only [Value.slice.injEq] at hgv
          obtain ⟨rfl, _, rfl⟩ := hgv
          have hc0 := hc 0 hr0
          have hrow := hon.rows _ (getR_mem hr0)
          obtain ⟨⟨qr, nr, cr, lr⟩, hR⟩ : ∃ r, Rx.getD 0 zR = r := ⟨_, rfl⟩
          rw [hR] at hc0 hrow
          rw [show rvV ⟨qr, nr, cr, lr⟩ = .slice qr nr cr from rfl] at hc0
          obtain ⟨hro, hrp⟩ := hrow
          simp only at hrp
          obtain ⟨b, o, rfl⟩ := hro.lies.addr hrp
          have h4 := (hro.lies.below hon.bel).at (k := 0) hrp
          simp only [Nat.zero_mul, Nat.add_zero] at h4
          obtain ⟨⟨ke, ve, se, de⟩, t, hlr⟩ : ∃ x t, lr = x :: t := by
            cases lr with
            | nil => simp at hrp
            | cons x t => exact ⟨x, t, rfl⟩
          subst hlr
          simp only [List.getD_cons_zero] at h4
          obtain ⟨x0, x1, x2, x3⟩ := h4
          have hnr : nr = t.length + 1 := by have := hro.n; simpa using this
          have HRO : Hid (RowOk w ⟨some ⟨b, o, none⟩, nr, cr, ⟨ke, ve, se, de⟩ :: t⟩ ∧ Rx.getD 0 zR = ⟨some ⟨b, o, none⟩, nr, cr, ⟨ke, ve, se, de⟩ :: t⟩ ∧ nr = t.length + 1) := ⟨hro, hR, hnr⟩
          obtain ⟨m, hm⟩ : ∃ m, Rx.length = m := ⟨_, rfl⟩
          have hmI : (0 : Int) < (m : Int) := by omega
          have hmN : 0 < m := by omega
          have nrI : (0 : Int) < (nr : Int) := by omega
          have nrN : 0 < nr := by omega
          have HM : Hid (Rx.length = m ∧ Rx.length ≤ ch ∧ ch ≤ maxLen) := ⟨hm, hle, hmax⟩
          have hA : EOwn (wr.alloc (.cells #[.string ke, .string ve, .int .i64 se, .bool de] 23)) w.heap.size (.slice qo L.length co) L := HO.out.2.below (below_alloc _ _)
          have HA : Hid (EOwn (wr.alloc (.cells #[.string ke, .string ve, .int .i64 se, .bool de] 23)) w.heap.size (.slice qo L.length co) L ∧ Hp w (w.heap.size + 1) (.slice (some ⟨g, 0, none⟩) Rx.length ch) Rx (wr.alloc (.cells #[.string ke, .string ve, .int .i64 se, .bool de] 23)) ∧ L.length ≤ 16384 ∧ w.heap.size ≤ (wr.alloc (.cells #[.string ke, .string ve, .int .i64 se, .bool de] 23)).heap.size) := ⟨hA, HO.out.1.next (below_alloc _ _), by have := HLM.out; have := HL.out; omega, (below_bt HO.out.1.bel (below_alloc _ _)).size⟩
          have HE1 : Hid (EntsIn (wr.alloc (.cells #[.string ke, .string ve, .int .i64 se, .bool de] 23)) (some ⟨wr.heap.size, 0, none⟩) [⟨ke, ve, se, de⟩]) := ents_new wr ke ve se de
          rw [hm] at pt HLN
          obtain ⟨lo, hlo⟩ : ∃ lo, L.length = lo := ⟨_, rfl⟩
          have HLO : Hid (L.length = lo) := hlo
          rw [hlo] at HA ⊢
          clear hA hon hgb hg hle hmax hc hf hR hro hrp hnr hr0 hm hlo
          obtain ⟨lo1, hlo1⟩ : ∃ lo1, lo + 1 = lo1 := ⟨_, rfl⟩
          have HL1 : Hid (lo + 1 = lo1) := hlo1
          have HLV : Hid (∀ (v3 : Value) (w3 : World), EOwn w3 w.heap.size v3 (L ++ [⟨ke, ve, se, de⟩]) → ∃ q3 c3, v3 = .slice q3 lo1 c3) := by
            intro v3 w3 ho3
            obtain ⟨q3, c3, e, _⟩ := ho3.form
            refine ⟨q3, c3, ?_⟩
            rw [e, List.length_append, HLO.out, List.length_singleton, hlo1]
          clear hlo1
          go_wp2_with fail
          refine HLN.mono ?_
          rintro e w1 ⟨rfl, hw1⟩
          have hw1 := hw1.symm
          subst hw1
          clear HLN
          by_cases hn1 : nr = 1
          · have e1 : ((nr : Int) == 1) = true := by simp; omega
            have e1' : (nr == 1) = true := by simp; omega
            have HT : Hid (t = []) := by have := HRO.out.2.2; exact List.length_eq_zero_iff.1 (by omega)
            clear hn1
            go_wp2_with (at_builtin; go_loud ((refine wpList_append_two _ rfl _ _ rfl w.heap.size (.slice qo lo co) L [⟨ke, ve, se, de⟩] (some ⟨wr.heap.size, 0, none⟩) 1 1 rfl rfl rfl HA.out.1 HE1.out (fun h => by cases h) (by have := HA.out.2.2.1; have := HLO.out; simp only [List.length_cons, List.length_nil]; omega) HA.out.2.2.2 ?_); intro v3 w3 ho3 hg3; have h3 := HA.out.2.1.grownE HA.out.1 (Nat.le_refl _) hg3; obtain ⟨q3, c3, hv3⟩ := HLV.out v3 w3 ho3; subst hv3; have H3 : Hid _ := And.intro h3 ho3; have p3 : w3.cell? ⟨w.heap.size + 1, 0, none⟩ = some (.slice (some ⟨g, 0, none⟩) m ch) := (Lib.cell_of_heap h3.ptr 0).trans (congrArg (fun k => some (Value.slice (some ⟨g, 0, none⟩) k ch)) HM.out.1); have HPO := heapPop_any w (w.heap.size + 1) _ Rx w3 h3 HS.out.2.1 HR0.out (by have := HS.out; omega); clear h3 ho3 hg3))
            refine HPO.mono ?_
            rintro e w4 ⟨v, v4, R4, rfl, q4, hh4, h4, k4⟩
            have H4 : Hid (Jo (entsR R) (L ++ [⟨ke, ve, se, de⟩]) R4 ∧ Heap zR ltR R4 ∧ Hp w (w.heap.size + 1) v4 R4 w4 ∧ EOwn w4 w.heap.size (.slice q3 lo1 c3) (L ++ [⟨ke, ve, se, de⟩]) ∧ R4.length ≤ 64) := by
              refine ⟨HS.out.1.pop HS.out.2.1 HR0.out (by rw [HRO.out.2.1, HT.out]) q4, hh4, h4, H3.out.2.kept k4, ?_⟩
              have := q4.length_eq
              rw [List.length_append, List.length_singleton] at this
              have := HS.out.2.2
              omega
            clear q4 hh4 h4 k4 HPO
            go_wp2
            go_roundw
            case rel => exact ⟨R4, v4, _, H4.out⟩
            case measure => have := HLM.out; have := HLO.out; have := HL1.out; have := H4.out.1.perm.length_eq; have := HL.out.2.2.2.1; rw [List.length_append, List.length_append, List.length_singleton] at *; simp [lenV]; omega
          · have e1 : ((nr : Int) == 1) = false := by simp; omega
            have e1' : (nr == 1) = false := by simp; omega
            have hnc := HRO.out.1.nc
            simp only at hnc
            have HN2 : Hid (2 ≤ nr) := by show _ ≤ _; omega
            obtain ⟨p', hcut, hdrop, hp'⟩ := cutE_from (some ⟨b, o, none⟩) nr cr 1 (⟨ke, ve, se, de⟩ :: t) HRO.out.1.n hnc (by omega) (fun h => by cases h)
            rw [show ((1 : Nat) : Int) = 1 from rfl] at hcut
            obtain ⟨n2, hn2⟩ : ∃ n2, nr - 1 = n2 := ⟨_, rfl⟩
            obtain ⟨c2, hc2⟩ : ∃ c2, cr - 1 = c2 := ⟨_, rfl⟩
            rw [hn2, hc2] at hcut
            have HR2 : Hid (RowOk w ⟨p', n2, c2, t⟩ ∧ 0 < t.length) := by
              refine ⟨⟨?_, hdrop w HRO.out.1.lies, ?_, ?_, fun h => ?_⟩, ?_⟩
              · have := HRO.out.2.2; show n2 = t.length; omega
              · show n2 ≤ c2; omega
              · have := HRO.out.1.c; simp only at this; show c2 ≤ _; omega
              · have := hp' h; show c2 = 0; omega
              · have := HRO.out.2.2; have := HN2.out; omega
            clear hn1 hnc hdrop hp' hn2 hc2
            go_wp2_with (at_builtin; go_loud ((refine wpList_append_two _ rfl _ _ rfl w.heap.size (.slice qo lo co) L [⟨ke, ve, se, de⟩] (some ⟨wr.heap.size, 0, none⟩) 1 1 rfl rfl rfl HA.out.1 HE1.out (fun h => by cases h) (by have := HA.out.2.2.1; have := HLO.out; simp only [List.length_cons, List.length_nil]; omega) HA.out.2.2.2 ?_); intro v3 w3 ho3 hg3; have h3 := HA.out.2.1.grownE HA.out.1 (Nat.le_refl _) hg3; obtain ⟨q3, c3, hv3⟩ := HLV.out v3 w3 ho3; subst hv3; have H3 : Hid _ := And.intro h3 ho3; have p3 : w3.cell? ⟨w.heap.size + 1, 0, none⟩ = some (.slice (some ⟨g, 0, none⟩) m ch) := (Lib.cell_of_heap h3.ptr 0).trans (congrArg (fun k => some (Value.slice (some ⟨g, 0, none⟩) k ch)) HM.out.1); obtain ⟨g5, cap5, cur5, hgv5, hgb5, hg5, _, _, hc5, hf5⟩ := h3.form HR0.out; simp only [Value.slice.injEq, Option.some.injEq, Addr.mk.injEq] at hgv5; obtain ⟨⟨rfl, _⟩, _, _⟩ := hgv5; have y5 := hc5 0 HR0.out; rw [HRO.out.2.1] at y5; rw [show rvV ⟨some ⟨b, o, none⟩, nr, cr, ⟨ke, ve, se, de⟩ :: t⟩ = .slice (some ⟨b, o, none⟩) nr cr from rfl] at y5; have z5 := hf5 0; have HG5 : Hid _ := hg5; clear h3 ho3 hg3 hgb5 hg5 hc5 hf5))
            have hset := H3.out.1.set (i := 0) HR0.out ⟨p', n2, c2, t⟩ HR2.out
            have HF := heapFix_any w (w.heap.size + 1) _ (Rx.set 0 ⟨p', n2, c2, t⟩) _ hset.drew (by rw [List.length_set]; exact heap_root HS.out.2.1 _ HR0.out) (by rw [List.length_set]; exact HR0.out) (by rw [List.length_set]; have := HS.out; omega)
            rw [show rvV ⟨p', n2, c2, t⟩ = .slice p' n2 c2 from rfl] at HF
            have HK4 : Hid (KeptR w3 (w3.setCell ⟨g, 0, none⟩ (.slice p' n2 c2)).drew) := (H3.out.1.keptS HR0.out 0 _).trans (keptR_below (Below.refl _ _).drew)
            clear hset
            go_region
            all_goals
              go_wp2_with fail
              refine HF.mono ?_
              rintro e w5 ⟨R5, rfl, q5, hh5, h5, k5⟩
              have H5 : Hid (Jo (entsR R) (L ++ [⟨ke, ve, se, de⟩]) R5 ∧ Heap zR ltR R5 ∧ Hp w (w.heap.size + 1) (.slice (some ⟨g, 0, none⟩) Rx.length ch) R5 w5 ∧ EOwn w5 w.heap.size (.slice q3 lo1 c3) (L ++ [⟨ke, ve, se, de⟩]) ∧ R5.length ≤ 64) := by
                refine ⟨(HS.out.1.cut HS.out.2.1 HR0.out (by rw [HRO.out.2.1]) ⟨p', n2, c2, t⟩ rfl).of q5, hh5, h5, (H3.out.2.kept HK4.out).kept k5, ?_⟩
                rw [q5.length_eq, List.length_set]
                exact HS.out.2.2
              clear q5 hh5 h5 k5 HF
              go_wp2
              go_roundw
              case rel => exact ⟨R5, _, _, H5.out⟩
              case measure => have := HLM.out; have := HLO.out; have := HL1.out; have := H5.out.1.perm.length_eq; have := HL.out.2.2.2.1; rw [List.length_append, List.length_append, List.length_singleton] at *; simp [lenV]; omega
        · obtain rfl : Rx = [] := List.length_eq_zero_iff.1 (by omega)
          rw [show ([] : List RV).length = 0 from rfl] at pt HLN
          clear hon hr0
          go_wp2_with fail
          refine HLN.mono ?_
          rintro e w1 ⟨rfl, hw1⟩
          have hw1 := hw1.symm
          subst hw1
          clear HLN
          go_wp2
          go_ret
          exact ⟨_, L, rfl, ⟨HO.out.2, HO.out.1.bel⟩, by have := HS.out.1.perm; simpa [entsR] using this, HS.out.1.weak⟩
end Go.Proofs.Ytbnacopefclklaa
namespace Go.Proofs.Ytbnacopefclklaa
open Go.RowKit Go.WideShapes

def firstE : List (List EntV) → Nat
  | [] => 0
  | l :: t => if checkE l ≠ 0 then checkE l else firstE t
def chkR (ls : List (List EntV)) : Nat := if 64 < ls.length then 4 else if firstE ls ≠ 0 then firstE ls else if 16384 < ls.flatten.length then 4 else 0
open Classical in
noncomputable def allE (ls : List (List EntV)) : List EntV × Nat := if chkR ls ≠ 0 then ([], chkR ls) else if RiseE (allM ls) then (allM ls, 0) else ([], 100)
noncomputable def liveE (ls : List (List EntV)) (s : Int) : List EntV × Nat := if (allE ls).2 ≠ 0 then ([], (allE ls).2) else if 0 ≤ s ∧ s ≤ 2147483647 then (countE (allE ls).1 s, 0) else ([], 2)
def thinErr (l : List EntV) : Nat := if 16384 < l.length then 4 else checkF none l
noncomputable def thinF (l : List EntV) (s : Int) (last : Bool) : List EntV × Nat := if thinErr l ≠ 0 then ([], thinErr l) else if 0 ≤ s ∧ s ≤ 2147483647 then (thinE l s last, 0) else ([], 2)
noncomputable def fromE (ls : List (List EntV)) (s : Int) (k : ByteArray) : List EntV × Nat := if (liveE ls s).2 ≠ 0 then ([], (liveE ls s).2) else if 256 < k.size then ([], 3) else ((liveE ls s).1.filter (fun x => !ltB x.key k), 0)
theorem firstE_at {ls : List (List EntV)} {k : Nat} (h : k < ls.length) : firstE (ls.drop k) = if checkE (ls.getD k []) ≠ 0 then checkE (ls.getD k []) else firstE (ls.drop (k + 1)) := by
  rw [List.drop_eq_getElem_cons h, List.getD_eq_getElem?_getD, List.getElem?_eq_getElem h]
  rfl
theorem firstE_zero : ∀ {ls : List (List EntV)}, firstE ls = 0 ↔ ∀ l ∈ ls, checkE l = 0
  | [] => by simp [firstE]
  | l :: t => by
    simp only [firstE]
    by_cases h : checkE l = 0
    · rw [if_neg (by simp [h]), firstE_zero]
      simp [h]
    · rw [if_pos h]
      simp [h]
theorem chkR_zero {ls : List (List EntV)} : chkR ls = 0 ↔ ls.length ≤ 64 ∧ (∀ l ∈ ls, checkE l = 0) ∧ ls.flatten.length ≤ 16384 := by
  unfold chkR
  rw [← firstE_zero]
  obtain ⟨F, hF⟩ : ∃ F, ls.flatten.length = F := ⟨_, rfl⟩
  rw [hF]
  by_cases h1 : 64 < ls.length
  · rw [if_pos h1]
    exact ⟨fun h => by omega, fun h => by omega⟩
  · rw [if_neg h1]
    by_cases h2 : firstE ls = 0
    · rw [if_neg (by simp [h2])]
      by_cases h3 : 16384 < F
      · rw [if_pos h3]
        exact ⟨fun h => by omega, fun h => by omega⟩
      · rw [if_neg h3]
        exact ⟨fun _ => ⟨by omega, h2, by omega⟩, fun _ => rfl⟩
    · rw [if_pos h2]
      exact ⟨fun h => absurd h h2, fun h => absurd h.2.1 h2⟩
theorem allE_bad {ls : List (List EntV)} (h : chkR ls ≠ 0) : allE ls = ([], chkR ls) := by unfold allE; rw [if_pos h]
theorem allE_rise {ls : List (List EntV)} (h : chkR ls = 0) (hr : RiseE (allM ls)) : allE ls = (allM ls, 0) := by unfold allE; rw [if_neg (by simp [h]), if_pos hr]
theorem allE_not {ls : List (List EntV)} (h : chkR ls = 0) (hr : ¬ RiseE (allM ls)) : allE ls = ([], 100) := by unfold allE; rw [if_neg (by simp [h]), if_neg hr]
theorem chk_weak {ls : List (List EntV)} (h : ∀ l ∈ ls, checkE l = 0) : ∀ l ∈ ls, WeakE l := fun l hl => rise_weak ((checkE_rise l).1 (h l hl)).2.2
/-- Whatever list has the rows' entries, none ahead of one before it, tells what All answers. -/
theorem allE_of {ls : List (List EntV)} {L : List EntV} (h : chkR ls = 0) (hp : L.Perm ls.flatten) (hw : WeakE L) : (RiseE L → allE ls = (L, 0)) ∧ (¬ RiseE L → allE ls = ([], 100)) := by
  have hw' := chk_weak (chkR_zero.1 h).2.1
  obtain ⟨p2, w2⟩ := allM_perm hw'
  have hiff : RiseE L ↔ RiseE (allM ls) := by rw [weak_rise hw, weak_rise w2, sole_perm hp, sole_perm p2]
  refine ⟨fun hr => ?_, fun hr => allE_not h (fun hh => hr (hiff.2 hh))⟩
  have hr2 := hiff.1 hr
  rw [allE_rise h hr2, riseE_ext hr2 hr (fun x => by rw [p2.mem_iff, hp.mem_iff])]
theorem allE_ok {ls : List (List EntV)} {L : List EntV} {E : Nat} (h : allE ls = (L, E)) (h0 : E = 0) : RiseE L ∧ L.Perm ls.flatten ∧ chkR ls = 0 := by
  subst h0
  by_cases hc : chkR ls = 0
  · by_cases hr : RiseE (allM ls)
    · rw [allE_rise hc hr, Prod.mk.injEq] at h
      obtain ⟨rfl, _⟩ := h
      exact ⟨hr, (allM_perm (chk_weak (chkR_zero.1 hc).2.1)).1, hc⟩
    · rw [allE_not hc hr] at h
      simp at h
  · rw [allE_bad hc] at h
    simp [hc] at h
theorem allE_len {ls : List (List EntV)} : (allE ls).1.length ≤ 16384 := by
  obtain ⟨L, E, h⟩ : ∃ L E, allE ls = (L, E) := ⟨_, _, rfl⟩
  rw [h]
  by_cases h0 : E = 0
  · obtain ⟨_, h2, h3⟩ := allE_ok h h0
    rw [h2.length_eq]
    exact (chkR_zero.1 h3).2.2
  · by_cases hc : chkR ls = 0
    · by_cases hr : RiseE (allM ls)
      · rw [allE_rise hc hr, Prod.mk.injEq] at h
        exact absurd h.2.symm h0
      · rw [allE_not hc hr, Prod.mk.injEq] at h
        rw [← h.1]; simp
    · rw [allE_bad hc, Prod.mk.injEq] at h
      rw [← h.1]; simp
/-! ### Rising, told by neighbours -/
theorem rise_adj {l : List EntV} : RiseE l ↔ ∀ i, i + 1 < l.length → lessE (l.getD i zeroE) (l.getD (i + 1) zeroE) = true := by
  constructor
  · intro h i hi
    have := List.pairwise_iff_getElem.1 h i (i + 1) (by omega) hi (by omega)
    rwa [List.getD_eq_getElem?_getD, List.getD_eq_getElem?_getD, List.getElem?_eq_getElem (by omega : i < l.length), List.getElem?_eq_getElem hi]
  · intro h
    refine List.pairwise_iff_getElem.2 (fun i j hi hj hij => ?_)
    have aux : ∀ d, i + d + 1 < l.length → lessE (l.getD i zeroE) (l.getD (i + d + 1) zeroE) = true := by
      intro d
      induction d with
      | zero => intro hd; exact h i hd
      | succ d ih => intro hd; exact lessE_trans (ih (by omega)) (h (i + d + 1) (by omega))
    have := aux (j - i - 1) (by omega)
    rw [show i + (j - i - 1) + 1 = j by omega] at this
    rwa [List.getD_eq_getElem?_getD, List.getD_eq_getElem?_getD, List.getElem?_eq_getElem hi, List.getElem?_eq_getElem hj] at this
theorem rise_at {l : List EntV} (h : RiseE l) {i j : Nat} (hij : i < j) (hj : j < l.length) : lessE (l.getD i zeroE) (l.getD j zeroE) = true := by
  have := List.pairwise_iff_getElem.1 h i j (by omega) hj hij
  rwa [List.getD_eq_getElem?_getD, List.getD_eq_getElem?_getD, List.getElem?_eq_getElem (by omega : i < l.length), List.getElem?_eq_getElem hj]
/-- The program's test: is an entry the newest of its key, told by the one ahead of it? -/
def newAt (l : List EntV) (i : Nat) (s : Int) : Bool := decide ((l.getD i zeroE).seq ≤ s) && (decide (i = 0) || (!decide ((l.getD (i - 1) zeroE).key = (l.getD i zeroE).key)) || decide (s < (l.getD (i - 1) zeroE).seq))
theorem newAt_iff {l : List EntV} (h : RiseE l) {i : Nat} (hi : i < l.length) (s : Int) : newAt l i s = true ↔ NewB l s (l.getD i zeroE) := by
  unfold newAt
  simp only [Bool.and_eq_true, Bool.or_eq_true, decide_eq_true_eq, Bool.not_eq_true', decide_eq_false_iff_not]
  constructor
  · rintro ⟨h1, h2⟩
    refine ⟨h1, fun z hz hk hzs => ?_⟩
    obtain ⟨j, hj, rfl⟩ := List.mem_iff_getElem.1 hz
    have ez : l[j] = l.getD j zeroE := by rw [List.getD_eq_getElem?_getD, List.getElem?_eq_getElem hj]; rfl
    rw [ez] at hk hzs ⊢
    rcases Nat.lt_trichotomy j i with hji | hji | hji
    · exfalso
      have hl : lessE (l.getD j zeroE) (l.getD (i - 1) zeroE) = true ∨ j = i - 1 := by
        by_cases e : j = i - 1
        · exact .inr e
        · exact .inl (rise_at h (by omega) (by omega))
      have hpi := rise_at h (show i - 1 < i by omega) hi
      have key : (l.getD (i - 1) zeroE).key = (l.getD i zeroE).key ∧ (l.getD (i - 1) zeroE).seq ≤ s := by
        rcases hl with hl | hl
        · rcases (lessE_def _ _).1 hl with a | a
          · rcases (lessE_def _ _).1 hpi with b | b
            · have := ltB_trans a b
              rw [hk, ltB_irrefl] at this
              cases this
            · rw [b.1, ← hk, ltB_irrefl] at a
              cases a
          · exact ⟨by rw [← a.1, hk], by omega⟩
        · rw [← hl]
          exact ⟨hk, hzs⟩
      rcases h2 with (h2 | h2) | h2
      · omega
      · exact h2 key.1
      · omega
    · rw [hji]; exact Int.le_refl _
    · have hpi := rise_at h hji hj
      rcases (lessE_def _ _).1 hpi with a | a
      · rw [hk, ltB_irrefl] at a
        cases a
      · omega
  · rintro ⟨h1, h2⟩
    refine ⟨h1, ?_⟩
    by_cases i0 : i = 0
    · exact .inl (.inl i0)
    · by_cases hk : (l.getD (i - 1) zeroE).key = (l.getD i zeroE).key
      · right
        have hpi := rise_at h (show i - 1 < i by omega) hi
        have hs : (l.getD i zeroE).seq < (l.getD (i - 1) zeroE).seq := by
          rcases (lessE_def _ _).1 hpi with a | a
          · rw [hk, ltB_irrefl] at a
            cases a
          · exact a.2
        rcases Int.lt_or_le s (l.getD (i - 1) zeroE).seq with c | c
        · exact c
        · have := h2 _ (getD_mem' (show i - 1 < l.length by omega)) hk c
          omega
      · exact .inl (.inr hk)
theorem takeE_succ {l : List EntV} {k : Nat} (hk : k < l.length) : l.take (k + 1) = l.take k ++ [l.getD k zeroE] := by
  rw [List.take_add_one, List.getElem?_eq_getElem hk, List.getD_eq_getElem?_getD, List.getElem?_eq_getElem hk]
  rfl
/-- One more entry of those that count. -/
def countAt (l : List EntV) (i : Nat) (s : Int) : Bool := newAt l i s && !(l.getD i zeroE).gone
def thinAt (l : List EntV) (i : Nat) (s : Int) (last : Bool) : Bool := decide (s < (l.getD i zeroE).seq) || (newAt l i s && !((l.getD i zeroE).gone && last))
def pickE (p : Nat → Bool) (l : List EntV) : Nat → List EntV
  | 0 => []
  | k + 1 => if p k = true then pickE p l k ++ [l.getD k zeroE] else pickE p l k
theorem pickE_len (p : Nat → Bool) (l : List EntV) : ∀ k, (pickE p l k).length ≤ k
  | 0 => by simp [pickE]
  | k + 1 => by
    simp only [pickE]
    have := pickE_len p l k
    split
    · simp; omega
    · omega
theorem pickE_filter (p : Nat → Bool) (f : EntV → Bool) (l : List EntV) (h : ∀ i, i < l.length → p i = f (l.getD i zeroE)) : ∀ k, k ≤ l.length → pickE p l k = (l.take k).filter f
  | 0, _ => by simp [pickE]
  | k + 1, hk => by
    rw [takeE_succ (by omega), List.filter_append, ← pickE_filter p f l h k (by omega)]
    simp only [pickE]
    rw [h k (by omega), List.filter_cons]
    split <;> simp
theorem pick_count {l : List EntV} (h : RiseE l) (s : Int) : pickE (fun i => countAt l i s) l l.length = countE l s := by
  classical
  rw [pickE_filter _ (fun x => decide (x.gone = false ∧ NewB l s x)) l ?_ l.length (Nat.le_refl _), List.take_length]
  · unfold countE
    congr
  · intro i hi
    unfold countAt
    rw [Bool.eq_iff_iff, Bool.and_eq_true, newAt_iff h hi]
    simp only [Bool.not_eq_true', decide_eq_true_eq]
    exact And.comm
theorem pick_thin {l : List EntV} (h : RiseE l) (s : Int) (last : Bool) : pickE (fun i => thinAt l i s last) l l.length = thinE l s last := by
  classical
  rw [pickE_filter _ (fun x => decide (s < x.seq ∨ (NewB l s x ∧ ¬ (x.gone = true ∧ last = true)))) l ?_ l.length (Nat.le_refl _), List.take_length]
  · unfold thinE
    congr
  · intro i hi
    unfold thinAt
    rw [Bool.eq_iff_iff, Bool.or_eq_true, Bool.and_eq_true, newAt_iff h hi]
    simp only [Bool.not_eq_true', decide_eq_true_eq, Bool.and_eq_false_imp]
    refine or_congr Iff.rfl (and_congr Iff.rfl ?_)
    cases (l.getD i zeroE).gone <;> cases last <;> simp
theorem thinErr_zero {l : List EntV} : thinErr l = 0 ↔ l.length ≤ 16384 ∧ (∀ x ∈ l, OkE x) ∧ RiseE l := by
  unfold thinErr
  split
  · simp; omega
  · rw [checkF_none]
    constructor
    · intro h; exact ⟨by omega, h⟩
    · intro h; exact h.2
end Go.Proofs.Ytbnacopefclklaa
namespace Go.Proofs.Ytbnacopefclklaa
open Go.RowKit Go.WideShapes

def lsR (R : List RV) : List (List EntV) := R.map RV.l
theorem lsR_len (R : List RV) : (lsR R).length = R.length := by simp [lsR]
theorem lsR_at {R : List RV} {k : Nat} (hk : k < R.length) : (lsR R).getD k [] = (R.getD k zR).l := by
  unfold lsR
  rw [List.getD_eq_getElem?_getD, List.getElem?_map, List.getD_eq_getElem?_getD, List.getElem?_eq_getElem hk]
  rfl
theorem lsR_mem {R : List RV} {r : RV} (h : r ∈ R) : r.l ∈ lsR R := List.mem_map.2 ⟨r, h, rfl⟩
theorem isSeq_any (s : Int) (w : World) (b : Bool) (hb : decide (0 ≤ s ∧ s ≤ 2147483647) = b) : Calls Try.prog 26 #[.int .i64 s] w fun e w' => e = .returned (.bool b) ∧ w' = w := by
  by_cases h0 : 0 ≤ s
  · by_cases h1 : s ≤ 2147483647
    · have : b = true := by rw [← hb]; simp [h0, h1]
      subst this
      clear hb
      go_enter Try.func26, Try.ntmps26
      go_wp2
      go_ret
      exact ⟨rfl, rfl⟩
    · have : b = false := by rw [← hb]; simp [h1]
      subst this
      have h2 : 2147483647 < s := by omega
      have h3 : decide (s ≤ 2147483647) = false := decide_eq_false h1
      clear hb h1
      go_enter Try.func26, Try.ntmps26
      go_wp2
      go_ret
      exact ⟨rfl, rfl⟩
  · have : b = false := by rw [← hb]; simp [h0]
    subst this
    have h2 : s < 0 := by omega
    have h3 : decide (0 ≤ s) = false := decide_eq_false h0
    clear hb h0
    go_enter Try.func26, Try.ntmps26
    go_wp2
    go_ret
    exact ⟨rfl, rfl⟩
theorem sumR_succ {R : List RV} {k : Nat} (hk : k < R.length) : (entsR (R.take (k + 1))).length = (entsR (R.take k)).length + (R.getD k zR).l.length := by
  rw [takeR_succ hk, entsR_app, List.length_append]
  simp [entsR]
set_option maxRecDepth 8000 in
set_option maxHeartbeats 2000000 in
theorem checkRows_any (q : Option Addr) (n c : Nat) (R : List RV) (w : World) (h : RowsL w q n R) (hnb : (n : Int) ≤ 9223372036854775807) (E : Nat) (hE : chkR (lsR R) = E) :
    Calls Try.prog 29 #[.slice q n c] w fun e w' => ∃ many : Nat, e = .returned (.tuple #[.int .i64 (many : Int), .int .i64 (E : Int)]) ∧ (E = 0 → many = (entsR R).length) ∧ Below w.heap.size w w' := by
  have HL : Hid (RowsL w q n R) := h
  unfold chkR at hE
  rw [lsR_len] at hE
  by_cases h64 : 64 < R.length
  · rw [if_pos h64] at hE
    subst hE
    have g1 : (64 : Int) < (n : Int) := by have := h.n; omega
    clear h h64
    go_enter Try.func29, Try.ntmps29
    go_wp2
    go_ret2
    exact ⟨0, rfl, fun (h : 4 = 0) => absurd h (by decide), Below.refl _ _⟩
  · rw [if_neg h64] at hE
    have HE : Hid ((if firstE (lsR R) ≠ 0 then firstE (lsR R) else if 16384 < (lsR R).flatten.length then 4 else 0) = E) := hE
    have g1 : (n : Int) ≤ 64 := by have := h.n; omega
    have g1' : n ≤ 64 := by omega
    clear h h64 hE hnb
    go_enter Try.func29, Try.ntmps29
    go_wp2
    go_loopw [4, 13] (fun s4 s13 wr => ∃ (k m : Nat), s13 = .int .i64 (k : Int) ∧ s4 = .int .i64 (m : Int) ∧ k ≤ n ∧ m = (entsR (R.take k)).length ∧ m ≤ k * 4096 ∧ firstE ((lsR R).drop k) = firstE (lsR R) ∧ Below w.heap.size w wr) (fun _ s13 _ => n - (intOf s13).toNat)
    case atStart => exact ⟨0, 0, rfl, rfl, by omega, by simp [entsR], by omega, by rw [List.drop_zero], Below.refl _ _⟩
    case round =>
      obtain ⟨k, m, rfl, rfl, hk, hm, hmk, hf, hbel⟩ := hrel
      have HK : Hid (m = (entsR (R.take k)).length ∧ m ≤ k * 4096 ∧ firstE ((lsR R).drop k) = firstE (lsR R) ∧ Below w.heap.size w wr) := ⟨hm, hmk, hf, hbel⟩
      clear hm hmk hf hbel
      by_cases hkn : k < n
      · have hkI : (k : Int) < (n : Int) := by omega
        have k0 : (0 : Int) ≤ (k : Int) := by omega
        have hkR : k < R.length := by have := HL.out.n; omega
        obtain ⟨b, o, rfl, hc⟩ := (HL.out.below HK.out.2.2.2).at hkR
        have hro := (HL.out.each _ (getR_mem hkR)).below HK.out.2.2.2
        have hfa := firstE_at (ls := lsR R) (k := k) (by rw [lsR_len]; exact hkR)
        have hsu := sumR_succ hkR
        rw [lsR_at hkR] at hfa
        obtain ⟨⟨qr, nr, cr, lr⟩, hr⟩ : ∃ r, R.getD k zR = r := ⟨_, rfl⟩
        rw [hr] at hc hro hfa hsu
        simp only at hfa hsu
        rw [show rvV ⟨qr, nr, cr, lr⟩ = .slice qr nr cr from rfl] at hc
        obtain ⟨C, hC⟩ : ∃ C, checkE lr = C := ⟨_, rfl⟩
        have HCK := Check_any qr nr cr lr wr ⟨hro.n, hro.lies⟩ C hC
        rw [hC] at hfa
        have HF : Hid (firstE ((lsR R).drop k) = (if C ≠ 0 then C else firstE ((lsR R).drop (k + 1))) ∧ (entsR (R.take (k + 1))).length = (entsR (R.take k)).length + nr ∧ (C = 0 → nr ≤ 4096) ∧ k < n) := ⟨hfa, by rw [hsu]; have := hro.n; simp only at this; omega, fun h0 => by have := ((checkE_rise lr).1 (hC.trans h0)).1; have := hro.n; simp only at this; omega, hkn⟩
        clear hfa hsu hro hr hkR hkn hC
        by_cases hC0 : C = 0
        · subst hC0
          obtain ⟨m', hm'⟩ : ∃ m', m + nr = m' := ⟨_, rfl⟩
          have hmw : IntKind.i64.wrap ((m : Int) + (nr : Int)) = (m' : Int) := by have := HF.out.2.2.1 rfl; have := HK.out.2.1; rw [IntKind.wrap_i64]; omega
          have HM : Hid (m + nr = m' ∧ nr ≤ 4096) := ⟨hm', HF.out.2.2.1 rfl⟩
          clear hm'
          go_wp2_with fail
          refine HCK.mono ?_
          rintro e w2 ⟨rfl, hb2⟩
          have HB2 : Hid (Below w.heap.size w w2) := below_bt HK.out.2.2.2 hb2
          clear hb2 HCK
          go_wp2
          go_roundw
          case rel => exact ⟨k + 1, m', by go_num, rfl, by have := HF.out; omega, by have := HF.out; have := HK.out; have := HM.out; omega, by have := HK.out; have := HM.out; omega, by have := HF.out.1; rw [if_neg (by simp)] at this; rw [← this]; exact HK.out.2.2.1, HB2.out⟩
          case measure => have := HF.out; simp [intOf]; omega
        · have e1 : ((C : Int) != 0) = true := by simp; omega
          have e1' : ((C : Int) == 0) = false := by simp; omega
          have HC0 : Hid (C ≠ 0) := hC0
          clear hC0
          go_wp2_with fail
          refine HCK.mono ?_
          rintro e w2 ⟨rfl, hb2⟩
          have HB2 : Hid (Below w.heap.size w w2) := below_bt HK.out.2.2.2 hb2
          clear hb2 HCK
          go_wp2
          go_ret2
          refine ⟨0, ?_, fun h0 => ?_, HB2.out⟩
          · have h1 := HF.out.1
            rw [if_pos HC0.out, HK.out.2.2.1] at h1
            have h2 := HE.out
            rw [h1, if_pos HC0.out] at h2
            rw [h2]
            rfl
          · have h1 := HF.out.1
            rw [if_pos HC0.out, HK.out.2.2.1] at h1
            have h2 := HE.out
            rw [h1, if_pos HC0.out] at h2
            exact absurd (h2.trans h0) HC0.out
      · have hkI : (n : Int) ≤ (k : Int) := by omega
        have hkR : R.take k = R := List.take_of_length_le (by have := HL.out.n; omega)
        have hF0 : firstE (lsR R) = 0 := by rw [← HK.out.2.2.1, List.drop_eq_nil_of_le (by rw [lsR_len]; have := HL.out.n; omega)]; rfl
        have HMM : Hid (m = (entsR R).length ∧ (if 16384 < m then 4 else 0) = E) := by
          have h1 := HK.out.1
          rw [hkR] at h1
          refine ⟨h1, ?_⟩
          have h2 := HE.out
          rw [hF0, if_neg (by simp)] at h2
          rw [h1]
          exact h2
        have hmI : (m : Int) ≤ 1000000 := by have := HK.out; omega
        clear hkR hF0
        by_cases hbig : 16384 < m
        · have hbI : (16384 : Int) < (m : Int) := by omega
          obtain rfl : 4 = E := by have := HMM.out.2; rw [if_pos hbig] at this; exact this
          go_wp2
          go_ret2
          exact ⟨0, rfl, fun (h : 4 = 0) => absurd h (by decide), HK.out.2.2.2⟩
        · have hbI : (m : Int) ≤ (16384 : Int) := by omega
          obtain rfl : 0 = E := by have := HMM.out.2; rw [if_neg hbig] at this; exact this
          go_wp2
          go_ret2
          exact ⟨m, rfl, HMM.out.1, HK.out.2.2.2⟩
theorem own_base {w : World} {base base' n s : Nat} {e : TypeId} {v : Value} {xs : List Value} (h : w.ownsRow base e s v n xs) (hb : base' ≤ base) : w.ownsRow base' e s v n xs := by
  obtain ⟨h1, h2⟩ := h
  refine ⟨h1, ?_⟩
  rcases h2 with h2 | ⟨g, cap, cur, hv, hbs, h3⟩
  · exact .inl h2
  · exact .inr ⟨g, cap, cur, hv, Nat.le_trans hb hbs, h3⟩
set_option maxRecDepth 8000 in
set_option maxHeartbeats 2000000 in
theorem All_any (q : Option Addr) (n c : Nat) (R : List RV) (w : World) (h : RowsL w q n R) (hnb : (n : Int) ≤ 9223372036854775807) (L : List EntV) (E : Nat) (hE : allE (lsR R) = (L, E)) :
    Calls Try.prog 12 #[.slice q n c] w fun e w' => ∃ v, e = .returned (.tuple #[v, .int .i64 (E : Int)]) ∧ OnB w v L w' := by
  obtain ⟨C, hC⟩ : ∃ C, chkR (lsR R) = C := ⟨_, rfl⟩
  have HCK := checkRows_any q n c R w h hnb C hC
  have HL : Hid (RowsL w q n R) := h
  have HE : Hid (allE (lsR R) = (L, E)) := hE
  have HC : Hid (chkR (lsR R) = C) := hC
  clear h hE hC hnb
  go_enter Try.func12, Try.ntmps12
  go_wp2_with fail
  refine HCK.mono ?_
  rintro e w2 ⟨many, rfl, hmany, hb2⟩
  have HB2 : Hid (Below w.heap.size w w2) := hb2
  clear HCK
  by_cases hC0 : C = 0
  · subst hC0
    obtain ⟨c1, c2, c3⟩ := chkR_zero.1 HC.out
    have hm := hmany rfl
    have HJ := joined_any q n c R w2 (HL.out.below HB2.out) (by rw [lsR_len] at c1; exact c1) (fun r hr => chk_weak c2 _ (lsR_mem hr)) many hm.symm (by rw [hm]; exact c3)
    have HMN : Hid ((entsR R).length ≤ 16384) := c3
    clear c1 c2 c3 hm hmany hb2
    go_wp2_with fail
    refine HJ.mono ?_
    rintro e w3 ⟨v3, L3, rfl, h3, p3, wk3⟩
    obtain ⟨q3, m3, rfl, _, _, hq3⟩ := h3.own.form
    have HO : Hid (EOwn w3 w2.heap.size (.slice q3 L3.length m3) L3 ∧ Below w.heap.size w w3) := ⟨h3.own, below_bt HB2.out h3.bel⟩
    obtain ⟨a1, a2⟩ := allE_of HC.out p3 wk3
    have HA : Hid ((RiseE L3 → allE (lsR R) = (L3, 0)) ∧ (¬ RiseE L3 → allE (lsR R) = ([], 100))) := ⟨a1, a2⟩
    obtain ⟨m, hm⟩ : ∃ m, L3.length = m := ⟨_, rfl⟩
    have HN : Hid (L3.length = m ∧ m ≤ 16384) := ⟨hm, by rw [← hm, p3.length_eq]; exact HMN.out⟩
    have hmI : (m : Int) ≤ 16384 := by have := HN.out; omega
    rw [hm] at HO ⊢
    clear a1 a2 p3 wk3 h3 HJ hm
    go_wp2
    go_loopw [7] (fun s7 wr => ∃ (k : Nat), s7 = .int .i64 ((k : Int) + 1) ∧ k ≤ m ∧ (∀ i, i + 1 < L3.length → i < k → lessE (L3.getD i zeroE) (L3.getD (i + 1) zeroE) = true) ∧ Below w3.heap.size w3 wr) (fun s7 _ => m + 1 - (intOf s7).toNat)
    case atStart => exact ⟨0, rfl, by omega, fun i _ hi => by omega, Below.refl _ _⟩
    case round =>
      obtain ⟨k, rfl, hk, hadj, hbel⟩ := hrel
      have HK : Hid (k ≤ m ∧ (∀ i, i + 1 < L3.length → i < k → lessE (L3.getD i zeroE) (L3.getD (i + 1) zeroE) = true) ∧ Below w3.heap.size w3 wr) := ⟨hk, hadj, hbel⟩
      clear hadj hbel
      obtain ⟨k1, hk1⟩ : ∃ k1 : Nat, k1 = k + 1 := ⟨_, rfl⟩
      rw [show (k : Int) + 1 = (k1 : Int) by omega]
      have HK1 : Hid (k1 = k + 1) := hk1
      have kI : (k1 : Int) ≤ 20000 := by omega
      have k0 : (0 : Int) ≤ (k1 : Int) := by omega
      have kk0 : (0 : Int) ≤ (k : Int) := by omega
      have kw1 : IntKind.i64.wrap ((k1 : Int) - 1) = (k : Int) := by rw [IntKind.wrap_i64]; omega
      have kw2 : IntKind.i64.wrap ((k1 : Int) + 1) = (k1 : Int) + 1 := by rw [IntKind.wrap_i64]; omega
      by_cases hkm : k1 < m
      · have hkI : (k1 : Int) < (m : Int) := by omega
        have hkI2 : (k : Int) < (m : Int) := by omega
        have HKM : Hid (k1 < m) := hkm
        have hen := (HO.out.1.below HK.out.2.2).ents
        obtain ⟨be, oe, rfl⟩ := hen.addr (by have := HN.out; omega)
        have x4 := hen.at (k := k) (by have := HN.out; omega)
        have y4 := hen.at (k := k1) (by have := HN.out; omega)
        obtain ⟨⟨ka, va, sa, da⟩, hxa⟩ : ∃ x, L3.getD k zeroE = x := ⟨_, rfl⟩
        obtain ⟨⟨kb, vb, sb, db⟩, hxb⟩ : ∃ x, L3.getD k1 zeroE = x := ⟨_, rfl⟩
        rw [hxa] at x4
        rw [hxb] at y4
        obtain ⟨r, hr⟩ : ∃ r, lessE ⟨ka, va, sa, da⟩ ⟨kb, vb, sb, db⟩ = r := ⟨_, rfl⟩
        have HLE := fun w' => less_any ⟨ka, va, sa, da⟩ ⟨kb, vb, sb, db⟩ w'
        rw [hr, entV_def, entV_def] at HLE
        have HR : Hid (lessE (L3.getD k zeroE) (L3.getD (k + 1) zeroE) = r) := by show _ = _; rw [← HK1.out, hxa, hxb]; exact hr
        have HP : Hid (C4 wr be (oe + k * 4) (.string ka) (.string va) (.int .i64 sa) (.bool da)) := x4
        have HD : Hid (C4 wr be (oe + k1 * 4) (.string kb) (.string vb) (.int .i64 sb) (.bool db)) := y4
        clear x4 y4 hr hxa hxb hen hkm hk1 hk
        go_wp2
        go_region_held3 (fun w' => (w'.cell? ⟨be, oe + k1 * 4, none⟩ = some (.string kb) ∧ w'.cell? ⟨be, oe + k1 * 4 + 1, none⟩ = some (.string vb) ∧ w'.cell? ⟨be, oe + k1 * 4 + 2, none⟩ = some (.int .i64 sb) ∧ w'.cell? ⟨be, oe + k1 * 4 + 3, none⟩ = some (.bool db)) ∧ (w'.cell? ⟨be, oe + k * 4, none⟩ = some (.string ka) ∧ w'.cell? ⟨be, oe + k * 4 + 1, none⟩ = some (.string va) ∧ w'.cell? ⟨be, oe + k * 4 + 2, none⟩ = some (.int .i64 sa) ∧ w'.cell? ⟨be, oe + k * 4 + 3, none⟩ = some (.bool da)) ∧ Below wr.heap.size wr w')
          (with_reducible first | exact ⟨HD.out, HP.out, Below.refl _ _⟩ | exact ⟨c4_below HD.out (Below.refl _ _).drew, c4_below HP.out (Below.refl _ _).drew, (Below.refl _ _).drew⟩ | exact ⟨c4_below HD.out (below_dw (by assumption)), c4_below HP.out (below_dw (by assumption)), below_dw (by assumption)⟩ | assumption)
          (first
            | (go_at_call 25; refine (HLE _).mono ?_; rintro e w4 ⟨rfl, hb4⟩)
            | fail)
        rename_i hh
        have HB4 : Hid (Below w3.heap.size w3 w4) := below_bt HK.out.2.2 hh.2.2
        clear hh HLE
        cases r with
        | true =>
          go_wp2
          go_roundw
          case rel =>
            refine ⟨k1, ?_, by have := HKM.out; omega, fun i hi hik => ?_, HB4.out⟩
            · rfl
            · by_cases e : i = k
              · subst e; exact HR.out
              · exact HK.out.2.1 i hi (by have := HK1.out; omega)
          case measure => have := HKM.out; simp [intOf]; omega
        | false =>
          have hnr : ¬ RiseE L3 := fun hh => by
            have := rise_adj.1 hh k (by have := HN.out; have := HKM.out; have := HK1.out; omega)
            rw [HR.out] at this
            cases this
          have hLE := HA.out.2 hnr
          rw [HE.out, Prod.mk.injEq] at hLE
          obtain ⟨rfl, rfl⟩ := hLE
          go_wp2
          go_ret2
          exact ⟨_, rfl, eown_nil _ _, below_bt HO.out.2 HB4.out⟩
      · have hkI : (m : Int) ≤ (k1 : Int) := by omega
        have hr : RiseE L3 := rise_adj.2 (fun i hi => HK.out.2.1 i hi (by have := HN.out; omega))
        have hLE := HA.out.1 hr
        rw [HE.out, Prod.mk.injEq] at hLE
        obtain ⟨rfl, rfl⟩ := hLE
        have HEO : Hid (EOwn wr w.heap.size (.slice q3 m m3) L) := by
          have h1 := HO.out.1.below HK.out.2.2
          exact own_base h1 HB2.out.size
        clear hr
        go_wp2
        go_ret2
        exact ⟨_, rfl, HEO.out, below_bt HO.out.2 HK.out.2.2⟩
  · have e1 : ((C : Int) != 0) = true := by simp; omega
    have e1' : ((C : Int) == 0) = false := by simp; omega
    have hLE := allE_bad (ls := lsR R) (by rw [HC.out]; exact hC0)
    rw [HE.out, HC.out, Prod.mk.injEq] at hLE
    obtain ⟨rfl, rfl⟩ := hLE
    clear hC0 hmany hb2
    go_wp2
    go_ret2
    exact ⟨_, rfl, eown_nil _ _, HB2.out⟩
end Go.Proofs.Ytbnacopefclklaa
namespace Go.Proofs.Ytbnacopefclklaa
open Go.RowKit Go.WideShapes

theorem pickE_yes {p : Nat → Bool} {l : List EntV} {k : Nat} (h : p k = true) : pickE p l (k + 1) = pickE p l k ++ [l.getD k zeroE] := by
  simp only [pickE]
  exact if_pos h
theorem pickE_no {p : Nat → Bool} {l : List EntV} {k : Nat} (h : p k = false) : pickE p l (k + 1) = pickE p l k := by
  simp only [pickE]
  exact if_neg (by rw [h]; simp)
set_option maxRecDepth 8000 in
set_option maxHeartbeats 2000000 in
theorem isNewest_any (q : Option Addr) (n c : Nat) (l : List EntV) (w : World) (h : EntsL w q n l) (i : Nat) (hi : i < l.length) (hlen : n ≤ 100000) (s : Int) (r : Bool) (hr : newAt l i s = r) :
    Calls Try.prog 27 #[.slice q n c, .int .i64 (i : Int), .int .i64 s] w fun e w' => e = .returned (.bool r) ∧ Below w.heap.size w w' := by
  obtain ⟨b, o, rfl⟩ := h.lies.addr (by omega)
  obtain ⟨y0, y1, y2, y3⟩ := h.lies.at (k := i) hi
  obtain ⟨⟨kb, vb, sb, db⟩, hyb⟩ : ∃ y, l.getD i zeroE = y := ⟨_, rfl⟩
  rw [hyb] at y0 y1 y2 y3
  unfold newAt at hr
  rw [hyb] at hr
  simp only at y0 y1 y2 y3 hr
  have i0 : (0 : Int) ≤ (i : Int) := by omega
  have i1 : (i : Int) < (n : Int) := by have := h.n; omega
  by_cases hs : sb ≤ s
  · have g1 : decide (s < sb) = false := decide_eq_false (by omega)
    rw [decide_eq_true hs, Bool.true_and] at hr
    by_cases hi0 : i = 0
    · subst hi0
      have : r = true := by rw [← hr]; simp
      subst this
      rw [show ((0 : Nat) : Int) = 0 from rfl] at *
      simp only [Nat.zero_mul, Nat.add_zero] at y0 y1 y2 y3
      clear hr h hi hyb hlen
      go_enter Try.func27, Try.ntmps27
      go_wp2
      go_quiet (fail)
      go_wp2
      go_ret
      exact ⟨rfl, below_drewN (Below.refl _ _) _⟩
    · obtain ⟨j, hj⟩ : ∃ j, i - 1 = j := ⟨_, rfl⟩
      obtain ⟨x0, x1, x2, x3⟩ := h.lies.at (k := j) (by omega)
      rw [hj] at hr
      obtain ⟨⟨ka, va, sa, da⟩, hya⟩ : ∃ y, l.getD j zeroE = y := ⟨_, rfl⟩
      rw [hya] at x0 x1 x2 x3 hr
      simp only at x0 x1 x2 x3 hr
      have jw : IntKind.i64.wrap ((i : Int) - 1) = (j : Int) := by rw [IntKind.wrap_i64]; omega
      have j0 : (0 : Int) ≤ (j : Int) := by omega
      have j1 : (j : Int) < (n : Int) := by have := h.n; omega
      have iz : ((i : Int) == 0) = false := by simp; omega
      have iz' : (i == 0) = false := by simp; omega
      rw [decide_eq_false hi0, Bool.false_or] at hr
      by_cases hk : ka = kb
      · have hkq : (ka.toList == kb.toList) = true := by rw [eq_str]; simp [hk]
        rw [decide_eq_true hk] at hr
        simp only [Bool.not_true, Bool.false_or] at hr
        subst hr
        clear h hi hyb hya hk hi0 hj hlen hs
        go_enter Try.func27, Try.ntmps27
        go_wp2
        go_quiet (fail)
        go_wp2
        go_ret
        exact ⟨rfl, below_drewN (Below.refl _ _) _⟩
      · have hkq : (ka.toList == kb.toList) = false := by rw [eq_str]; simp [hk]
        rw [decide_eq_false hk] at hr
        simp only [Bool.not_false, Bool.true_or] at hr
        subst hr
        clear h hi hyb hya hk hi0 hj hlen hs
        go_enter Try.func27, Try.ntmps27
        go_wp2
        go_quiet (fail)
        go_wp2
        go_ret
        exact ⟨rfl, below_drewN (Below.refl _ _) _⟩
  · have g1 : decide (s < sb) = true := decide_eq_true (by omega)
    have g2 : s < sb := by omega
    rw [decide_eq_false hs, Bool.false_and] at hr
    subst hr
    clear h hi hyb hlen hs
    go_enter Try.func27, Try.ntmps27
    go_wp2
    go_ret
    exact ⟨rfl, Below.refl _ _⟩
set_option maxRecDepth 8000 in
set_option maxHeartbeats 2000000 in
theorem Live_any (q : Option Addr) (n c : Nat) (R : List RV) (s : Int) (w : World) (h : RowsL w q n R) (hnb : (n : Int) ≤ 9223372036854775807) (L : List EntV) (E : Nat) (hE : liveE (lsR R) s = (L, E)) :
    Calls Try.prog 10 #[.slice q n c, .int .i64 s] w fun e w' => ∃ v, e = .returned (.tuple #[v, .int .i64 (E : Int)]) ∧ OnB w v L w' := by
  obtain ⟨A, F, hA⟩ : ∃ A F, allE (lsR R) = (A, F) := ⟨_, _, rfl⟩
  have HAL := All_any q n c R w h hnb A F hA
  have HE : Hid ((if F ≠ 0 then ([], F) else if 0 ≤ s ∧ s ≤ 2147483647 then (countE A s, 0) else ([], 2)) = (L, E)) := by
    show _ = _
    rw [← hE]
    unfold liveE
    rw [hA]
  have HA : Hid (allE (lsR R) = (A, F)) := hA
  obtain ⟨bs, hbs⟩ : ∃ bs, decide (0 ≤ s ∧ s ≤ 2147483647) = bs := ⟨_, rfl⟩
  have HIS := fun w' => isSeq_any s w' bs hbs
  have HBS : Hid (decide (0 ≤ s ∧ s ≤ 2147483647) = bs) := hbs
  clear h hnb hE hA hbs
  go_enter Try.func10, Try.ntmps10
  go_wp2_with fail
  refine HAL.mono ?_
  rintro e w1 ⟨v1, rfl, h1⟩
  obtain ⟨q1, m1, rfl, hlm, _, hq1⟩ := h1.own.form
  have H1 : Hid (EOwn w1 w.heap.size (.slice q1 A.length m1) A ∧ Below w.heap.size w w1) := ⟨h1.own, h1.bel⟩
  clear HAL h1
  by_cases hF : F = 0
  · subst hF
    obtain ⟨r1, r2, r3⟩ := allE_ok HA.out rfl
    have HR : Hid (RiseE A ∧ A.length ≤ 16384) := ⟨r1, by rw [r2.length_eq]; exact (chkR_zero.1 r3).2.2⟩
    obtain ⟨m, hm⟩ : ∃ m, A.length = m := ⟨_, rfl⟩
    have HM : Hid (A.length = m) := hm
    rw [hm] at H1 ⊢
    have mI : (m : Int) ≤ 16384 := by have := HR.out; omega
    clear r1 r2 r3 hm hlm hq1
    cases bs with
    | false =>
      have hv := HE.out
      rw [if_neg (by simp), if_neg (of_decide_eq_false HBS.out), Prod.mk.injEq] at hv
      obtain ⟨rfl, rfl⟩ := hv
      go_wp2_with fail
      refine (HIS _).mono ?_
      rintro e w2 ⟨rfl, hw2⟩
      have hw2 := hw2.symm
      subst hw2
      go_wp2
      go_ret2
      exact ⟨_, rfl, eown_nil _ _, H1.out.2⟩
    | true =>
      have hv := HE.out
      rw [if_neg (by simp), if_pos (of_decide_eq_true HBS.out), Prod.mk.injEq] at hv
      obtain ⟨hv, rfl⟩ := hv
      have HV : Hid (countE A s = L) := hv
      clear hv
      go_wp2_with fail
      refine (HIS _).mono ?_
      rintro e w2 ⟨rfl, hw2⟩
      have hw2 := hw2.symm
      subst hw2
      clear HIS
      go_wp2
      go_loopw [8, 24] (fun s8 s24 wr => ∃ k : Nat, s24 = .int .i64 (k : Int) ∧ k ≤ m ∧ EOwn wr w1.heap.size s8 (pickE (fun i => countAt A i s) A k) ∧ Below w1.heap.size w1 wr) (fun _ s24 _ => m - (intOf s24).toNat)
      case atStart => exact ⟨0, rfl, by omega, eown_nil _ _, Below.refl _ _⟩
      case round =>
        obtain ⟨k, rfl, hk, ho, hbel⟩ := hrel
        obtain ⟨qo, co, rfl, _, _, _⟩ := ho.form
        have HO : Hid (EOwn wr w1.heap.size (.slice qo (pickE (fun i => countAt A i s) A k).length co) (pickE (fun i => countAt A i s) A k) ∧ Below w1.heap.size w1 wr) := ⟨ho, hbel⟩
        obtain ⟨P, hP⟩ : ∃ P, pickE (fun i => countAt A i s) A k = P := ⟨_, rfl⟩
        have HP : Hid (pickE (fun i => countAt A i s) A k = P ∧ P.length ≤ 16384) := ⟨hP, by rw [← hP]; have := pickE_len (fun i => countAt A i s) A k; have := HR.out; have := HM.out; omega⟩
        rw [hP] at HO ⊢
        obtain ⟨lp, hlp⟩ : ∃ lp, P.length = lp := ⟨_, rfl⟩
        have HLP : Hid (P.length = lp) := hlp
        rw [hlp] at HO ⊢
        clear hP hlp ho hbel
        by_cases hkm : k < m
        · have hkI : (k : Int) < (m : Int) := by omega
          have k0 : (0 : Int) ≤ (k : Int) := by omega
          have HKM : Hid (k < m) := hkm
          have hen := H1.out.1.ents.below HO.out.2
          obtain ⟨b, o, rfl⟩ := hen.addr (by have := HM.out; omega)
          obtain ⟨x0, x1, x2, x3⟩ := hen.at (k := k) (by have := HM.out; omega)
          obtain ⟨⟨ke, ve, se, de⟩, hx⟩ : ∃ x, A.getD k zeroE = x := ⟨_, rfl⟩
          rw [hx] at x0 x1 x2 x3
          simp only at x0 x1 x2 x3
          have HX : Hid (A.getD k zeroE = ⟨ke, ve, se, de⟩ ∧ EntsIn w1 (some ⟨b, o, none⟩) A) := ⟨hx, H1.out.1.ents⟩
          obtain ⟨r, hr⟩ : ∃ r, newAt A k s = r := ⟨_, rfl⟩
          have HNW := isNewest_any (some ⟨b, o, none⟩) m m1 A (wr.alloc (.cells #[.string ke, .string ve, .int .i64 se, .bool de] 23)) ⟨HM.out.symm, hen.below (below_alloc _ _)⟩ k (by have := HM.out; omega) (by omega) s r hr
          have HCA : Hid (countAt A k s = (r && !de)) := by show _ = _; unfold countAt; rw [hr, hx]
          clear hen hx hkm hk hr
          go_wp2_with fail
          refine HNW.mono ?_
          rintro e w3 ⟨rfl, hb3⟩
          have hbk : w3.heap[wr.heap.size]? = some (.cells #[.string ke, .string ve, .int .i64 se, .bool de] 23 (0, 0)) := block_belowR (heap_alloc_new _ _) hb3
          have HB3 : Hid (Below wr.heap.size wr w3) := below_bt (below_alloc _ _) hb3
          obtain ⟨z0, z1, z2, z3⟩ := four_cells hbk
          clear hb3 HNW hbk
          obtain ⟨t, ht⟩ : ∃ t, (r && !de) = t := ⟨_, rfl⟩
          have HT : Hid (countAt A k s = t) := by show _ = _; rw [HCA.out]; exact ht
          cases t with
          | false =>
            have H2 : Hid (∀ j, EOwn (w3.drewN j) w1.heap.size (.slice qo lp co) (pickE (fun i => countAt A i s) A (k + 1)) ∧ Below w1.heap.size w1 (w3.drewN j)) := by
              intro j
              have e : pickE (fun i => countAt A i s) A (k + 1) = P := by
                rw [pickE_no (p := fun i => countAt A i s) HT.out]
                exact HP.out.1
              rw [e]
              exact ⟨(HO.out.1.below HB3.out).below (below_drewN (Below.refl _ _) j), below_drewN (below_bt HO.out.2 HB3.out) j⟩
            cases r with
            | false =>
              clear ht
              go_wp2
              go_roundw
              case rel => exact ⟨k + 1, by go_num, by have := HKM.out; omega, H2.out 0⟩
              case measure => have := HKM.out; simp [intOf]; omega
            | true =>
              obtain rfl : de = true := by simpa using ht
              clear ht
              go_wp2
              go_roundw
              case rel => exact ⟨k + 1, by go_num, by have := HKM.out; omega, H2.out 0⟩
              case measure => have := HKM.out; simp [intOf]; omega
          | true =>
            obtain ⟨rfl, hde⟩ : r = true ∧ de = false := by simpa using ht
            subst hde
            clear ht
            have HA3 : Hid (EOwn (w3.alloc (.cells #[.string ke, .string ve, .int .i64 se, .bool false] 23)) w1.heap.size (.slice qo lp co) P ∧ w1.heap.size ≤ (w3.alloc (.cells #[.string ke, .string ve, .int .i64 se, .bool false] 23)).heap.size ∧ Below w1.heap.size w1 (w3.alloc (.cells #[.string ke, .string ve, .int .i64 se, .bool false] 23))) := ⟨(HO.out.1.below HB3.out).below (below_alloc _ _), (below_bt (below_bt HO.out.2 HB3.out) (below_alloc _ _)).size, below_bt (below_bt HO.out.2 HB3.out) (below_alloc _ _)⟩
            have HE1 : Hid (EntsIn (w3.alloc (.cells #[.string ke, .string ve, .int .i64 se, .bool false] 23)) (some ⟨w3.heap.size, 0, none⟩) [⟨ke, ve, se, false⟩]) := ents_new w3 ke ve se false
            have HPK : Hid (pickE (fun i => countAt A i s) A (k + 1) = P ++ [⟨ke, ve, se, false⟩]) := by
              show _ = _
              rw [pickE_yes (p := fun i => countAt A i s) HT.out, HX.out.1, HP.out.1]
            go_wp2_with (at_builtin; go_loud ((refine wpList_append_two _ rfl _ _ rfl w1.heap.size (.slice qo lp co) P [⟨ke, ve, se, false⟩] (some ⟨w3.heap.size, 0, none⟩) 1 1 rfl rfl rfl HA3.out.1 HE1.out (fun h => by cases h) (by have := HP.out.2; simp only [List.length_cons, List.length_nil]; omega) HA3.out.2.1 ?_); intro v5 w5 ho5 hg5; have H5 : Hid _ := And.intro ho5 (ents_grownE HA3.out.1 hg5 HA3.out.2.2 (Nat.le_refl _)); clear ho5 hg5))
            go_roundw
            case rel => exact ⟨k + 1, by go_num, by have := HKM.out; omega, by rw [HPK.out]; exact H5.out.1, H5.out.2⟩
            case measure => have := HKM.out; simp [intOf]; omega
        · have hkI : (m : Int) ≤ (k : Int) := by omega
          have HZ : Hid (P = L ∧ EOwn wr w.heap.size (.slice qo lp co) P ∧ Below w.heap.size w wr) := by
            refine ⟨?_, own_base HO.out.1 H1.out.2.size, below_bt H1.out.2 HO.out.2⟩
            rw [← HV.out, ← pick_count HR.out.1 s, ← HP.out.1, HM.out]
            have : k = m := by omega
            rw [this]
          clear hkm hk
          go_wp2
          go_ret2
          exact ⟨_, rfl, by rw [← HZ.out.1]; exact HZ.out.2.1, HZ.out.2.2⟩
  · have e1 : ((F : Int) != 0) = true := by simp; omega
    have e1' : ((F : Int) == 0) = false := by simp; omega
    have hv := HE.out
    rw [if_pos hF, Prod.mk.injEq] at hv
    obtain ⟨rfl, rfl⟩ := hv
    clear hF hlm hq1
    go_wp2
    go_ret2
    exact ⟨_, rfl, eown_nil _ _, H1.out.2⟩
end Go.Proofs.Ytbnacopefclklaa
namespace Go.Proofs.Ytbnacopefclklaa
open Go.RowKit Go.WideShapes

theorem cutE_lh (q : Option Addr) (n c j h : Nat) (l : List EntV) (hn : n = l.length) (hc : n ≤ c) (hj : j < h) (hh : h ≤ n) :
    ∃ p', (∀ w, (Instr.slice 25 (.slice q n c) (some (.int .i64 (j : Int))) (some (.int .i64 (h : Int))) none).run Try.prog w = .ok (.slice p' (h - j) (c - j)) w) ∧ (∀ w, EntsIn w q l → EntsIn w p' ((l.take h).drop j)) := by
  have hr : ∀ w, (Instr.slice 25 (.slice q n c) (some (.int .i64 j)) (some (.int .i64 h)) none).run Try.prog w = .ok (.slice (if c = j then q else q.map (·.add (j * 4))) (h - j) (c - j)) w := by
    intro w
    rw [run_slice_lh w 25 q n c (by kernel_rfl) .i64 .i64 j h (by omega) (by omega) (by omega)]
    have hs : (sizeOf (Try.prog.elem 25)).run Try.prog w = .ok 4 w := by kernel_rfl
    rw [hs]
    rfl
  refine ⟨_, hr, fun w hin => ?_⟩
  obtain ⟨b, o, rfl⟩ := hin.addr (by omega)
  rw [if_neg (by omega), Option.map_some, add_plain]
  exact (hin.take' h).drop' j
theorem pair_at {l : List EntV} {k : Nat} (h : k + 1 < l.length) : (l.take (k + 2)).drop k = [l.getD k zeroE, l.getD (k + 1) zeroE] := by
  rw [List.drop_take, show k + 2 - k = 2 by omega, dropE (show k < l.length by omega), dropE h]
  rfl
theorem one_at {l : List EntV} (h : 0 < l.length) : (l.take 1).drop 0 = [l.getD 0 zeroE] := by
  rw [List.drop_zero]
  cases l with
  | nil => simp at h
  | cons x l => rfl
theorem check_one (x : EntV) : checkE [x] = oneE x := by
  unfold checkE checkF
  rw [if_neg (by simp)]
  by_cases h : oneE x = 0
  · rw [if_neg (by simp [h]), h]; rfl
  · rw [if_pos h]
theorem check_two {x y : EntV} (h : oneE x = 0) : checkE [x, y] = if oneE y ≠ 0 then oneE y else if lessE x y = true then 0 else 100 := by
  unfold checkE checkF
  rw [if_neg (by simp), if_neg (by simp [h])]
  unfold checkF
  rfl
set_option maxRecDepth 8000 in
set_option maxHeartbeats 2000000 in
theorem checkRising_any (q : Option Addr) (n c : Nat) (l : List EntV) (w : World) (h : EntsL w q n l) (hnc : n ≤ c) (hnb : (n : Int) ≤ 9223372036854775807) (E : Nat) (hE : thinErr l = E) :
    Calls Try.prog 28 #[.slice q n c] w fun e w' => e = .returned (.int .i64 (E : Int)) ∧ Below w.heap.size w w' := by
  have HL : Hid (EntsL w q n l ∧ n ≤ c) := ⟨h, hnc⟩
  unfold thinErr at hE
  by_cases hbig : 16384 < l.length
  · rw [if_pos hbig] at hE
    subst hE
    have g1 : (16384 : Int) < (n : Int) := by have := h.n; omega
    clear h hbig hnc
    go_enter Try.func28, Try.ntmps28
    go_wp2
    go_ret
    exact ⟨rfl, Below.refl _ _⟩
  · rw [if_neg hbig] at hE
    have g1 : (n : Int) ≤ 16384 := by have := h.n; omega
    have g1' : n ≤ 16384 := by omega
    have HE : Hid (checkF (prevE l 0) (l.drop 0) = E) := hE
    clear h hbig hE hnb hnc
    go_enter Try.func28, Try.ntmps28
    go_wp2
    go_loopw [10] (fun s10 wr => ∃ k : Nat, s10 = .int .i64 (k : Int) ∧ k ≤ n ∧ checkF (prevE l k) (l.drop k) = E ∧ (0 < k → oneE (l.getD (k - 1) zeroE) = 0) ∧ Below w.heap.size w wr) (fun s10 _ => n - (intOf s10).toNat)
    case atStart => exact ⟨0, rfl, by omega, HE.out, fun h => by omega, Below.refl _ _⟩
    case round =>
      obtain ⟨k, rfl, hk, hf, ho, hbel⟩ := hrel
      have HK : Hid (checkF (prevE l k) (l.drop k) = E ∧ (0 < k → oneE (l.getD (k - 1) zeroE) = 0) ∧ Below w.heap.size w wr) := ⟨hf, ho, hbel⟩
      clear hf ho hbel HE
      by_cases hkn : k < n
      · have hkI : (k : Int) < (n : Int) := by omega
        have HKN : Hid (k < n) := hkn
        have hln := HL.out.1.n
        obtain ⟨j, hj⟩ : ∃ j, k - 1 = j := ⟨_, rfl⟩
        obtain ⟨k1, hk1⟩ : ∃ k1, k + 1 = k1 := ⟨_, rfl⟩
        obtain ⟨p', hcut, hin⟩ := cutE_lh q n c j k1 l hln HL.out.2 (by omega) (by omega)
        obtain ⟨n2, hn2⟩ : ∃ n2, k1 - j = n2 := ⟨_, rfl⟩
        obtain ⟨c2, hc2⟩ : ∃ c2, c - j = c2 := ⟨_, rfl⟩
        rw [hn2, hc2] at hcut
        have kw1 : IntKind.i64.wrap ((k : Int) + 1) = (k1 : Int) := by rw [IntKind.wrap_i64]; omega
        obtain ⟨C, hC⟩ : ∃ C, checkE ((l.take k1).drop j) = C := ⟨_, rfl⟩
        have HCK := Check_any p' n2 c2 ((l.take k1).drop j) wr ⟨by rw [List.length_drop, List.length_take]; omega, hin wr (HL.out.1.lies.below HK.out.2.2)⟩ C hC
        have HCC : Hid ((C = 0 → checkF (prevE l (k + 1)) (l.drop (k + 1)) = E ∧ oneE (l.getD k zeroE) = 0) ∧ (C ≠ 0 → C = E)) := by
          rw [← HK.out.1]
          by_cases hk0 : k = 0
          · subst hk0
            obtain rfl : j = 0 := by omega
            obtain rfl : k1 = 1 := by omega
            rw [one_at (by omega), check_one] at hC
            rw [← hC]
            refine ⟨fun h0 => ⟨(checkF_zero (by omega) rfl h0).symm, h0⟩, fun h0 => (checkF_one (by omega) rfl h0).symm⟩
          · obtain rfl : k = j + 1 := by omega
            obtain rfl : k1 = j + 2 := by omega
            have hone := HK.out.2.1 (by omega)
            rw [show j + 1 - 1 = j by omega] at hone
            rw [pair_at (by omega), check_two hone] at hC
            by_cases h1 : oneE (l.getD (j + 1) zeroE) = 0
            · rw [if_neg (fun h => h h1)] at hC
              have hnx := checkF_next (l := l) (k := j) (by omega) rfl rfl h1
              by_cases h2 : lessE (l.getD j zeroE) (l.getD (j + 1) zeroE) = true
              · rw [if_pos h2] at hC hnx
                exact ⟨fun _ => ⟨hnx.symm, h1⟩, fun h0 => absurd hC.symm h0⟩
              · rw [if_neg h2] at hC hnx
                exact ⟨fun h0 => by omega, fun _ => by rw [hnx, hC]⟩
            · rw [if_pos h1] at hC
              exact ⟨fun h0 => absurd (hC.trans h0) h1, fun _ => by rw [checkF_one (by omega) rfl h1]; exact hC.symm⟩
        by_cases hk0 : k = 0
        · subst hk0
          obtain rfl : j = 0 := by omega
          obtain rfl : k1 = 1 := by omega
          obtain rfl : n2 = 1 := by omega
          rw [show ((0 : Nat) : Int) = 0 from rfl, show ((1 : Nat) : Int) = 1 from rfl] at hcut
          rw [show ((0 : Nat) : Int) = 0 from rfl] at hkI ⊢
          clear hj hk1 hn2 hc2 hC hin hln hkn hk kw1
          by_cases hC0 : C = 0
          · subst hC0
            have HC1 : Hid (checkF (prevE l (0 + 1)) (l.drop (0 + 1)) = E ∧ oneE (l.getD 0 zeroE) = 0) := HCC.out.1 rfl
            go_wp2_with fail
            refine HCK.mono ?_
            rintro e w2 ⟨rfl, hb2⟩
            have HB2 : Hid (Below w.heap.size w w2) := below_bt HK.out.2.2 hb2
            clear hb2 HCK
            go_wp2
            go_roundw
            case rel => exact ⟨0 + 1, by go_num, by have := HKN.out; omega, HC1.out.1, fun _ => HC1.out.2, HB2.out⟩
            case measure => have := HKN.out; simp [intOf]; omega
          · have e1 : ((C : Int) != 0) = true := by simp; omega
            have e1' : ((C : Int) == 0) = false := by simp; omega
            have HC0 : Hid (C ≠ 0) := hC0
            clear hC0
            go_wp2_with fail
            refine HCK.mono ?_
            rintro e w2 ⟨rfl, hb2⟩
            have HB2 : Hid (Below w.heap.size w w2) := below_bt HK.out.2.2 hb2
            clear hb2 HCK
            go_wp2
            go_ret
            exact ⟨by rw [← HCC.out.2 HC0.out]; rfl, HB2.out⟩
        · obtain ⟨b, o, rfl⟩ := HL.out.1.lies.addr (by omega)
          have hin2 := ((HL.out.1.lies.below HK.out.2.2).take' k1).drop' j
          have HCK := Check_any (some ⟨b, o + j * 4, none⟩) (k1 - j) (c - j) ((l.take k1).drop j) wr ⟨by rw [List.length_drop, List.length_take]; omega, hin2⟩ C hC
          have hlc := HL.out.2
          by_cases hk1' : k = 1
          · subst hk1'
            obtain rfl : j = 0 := by omega
            obtain rfl : k1 = 2 := by omega
            simp only [Nat.zero_mul, Nat.add_zero, Nat.sub_zero] at HCK
            have b2 : (2 : Int) ≤ (c : Int) := by omega
            rw [show ((1 : Nat) : Int) = 1 from rfl] at hkI ⊢
            clear hj hk1 hn2 hc2 hC hin hln hkn hk hk0 hcut hin2 kw1 hlc
            by_cases hC0 : C = 0
            · subst hC0
              have HC1 : Hid (checkF (prevE l (1 + 1)) (l.drop (1 + 1)) = E ∧ oneE (l.getD 1 zeroE) = 0) := HCC.out.1 rfl
              go_wp2_with fail
              refine HCK.mono ?_
              rintro e w2 ⟨rfl, hb2⟩
              have HB2 : Hid (Below w.heap.size w w2) := below_bt HK.out.2.2 hb2
              clear hb2 HCK
              go_wp2
              go_roundw
              case rel => exact ⟨1 + 1, by go_num, by have := HKN.out; omega, HC1.out.1, fun _ => HC1.out.2, HB2.out⟩
              case measure => have := HKN.out; simp [intOf]; omega
            · have e1 : ((C : Int) != 0) = true := by simp; omega
              have e1' : ((C : Int) == 0) = false := by simp; omega
              have HC0 : Hid (C ≠ 0) := hC0
              clear hC0
              go_wp2_with fail
              refine HCK.mono ?_
              rintro e w2 ⟨rfl, hb2⟩
              have HB2 : Hid (Below w.heap.size w w2) := below_bt HK.out.2.2 hb2
              clear hb2 HCK
              go_wp2
              go_ret
              exact ⟨by rw [← HCC.out.2 HC0.out]; rfl, HB2.out⟩
          · have jI : IntKind.i64.wrap ((k : Int) - 1) = (j : Int) := by rw [IntKind.wrap_i64]; omega
            have j0 : (0 : Int) ≤ (j : Int) := by omega
            have jp : 0 < j := by omega
            have HKK : Hid (k + 1 = k1) := hk1
            have jpI : (0 : Int) < (j : Int) := by omega
            have b1 : (j : Int) ≤ (k1 : Int) := by omega
            have b2 : (k1 : Int) ≤ (c : Int) := by omega
            have b3 : (c = j) = False := by simp; omega
            have b4 : (j = 0) = False := by simp; omega
            have b5 : (c ≤ j) = False := by simp; omega
            have b6 : (c - j = 0) = False := by simp; omega
            clear hj hk1 hn2 hc2 hC hin hln hkn hk hk0 hcut hin2 hlc hk1'
            by_cases hC0 : C = 0
            · subst hC0
              have HC1 : Hid (checkF (prevE l (k + 1)) (l.drop (k + 1)) = E ∧ oneE (l.getD k zeroE) = 0) := HCC.out.1 rfl
              go_wp2_with fail
              refine HCK.mono ?_
              rintro e w2 ⟨rfl, hb2⟩
              have HB2 : Hid (Below w.heap.size w w2) := below_bt HK.out.2.2 hb2
              clear hb2 HCK
              go_wp2
              go_roundw
              case rel => exact ⟨k1, rfl, by have := HKN.out; have := HKK.out; omega, by rw [← HKK.out]; exact HC1.out.1, fun _ => by rw [← HKK.out]; exact HC1.out.2, HB2.out⟩
              case measure => have := HKN.out; have := HKK.out; simp [intOf]; omega
            · have e1 : ((C : Int) != 0) = true := by simp; omega
              have e1' : ((C : Int) == 0) = false := by simp; omega
              have HC0 : Hid (C ≠ 0) := hC0
              clear hC0
              go_wp2_with fail
              refine HCK.mono ?_
              rintro e w2 ⟨rfl, hb2⟩
              have HB2 : Hid (Below w.heap.size w w2) := below_bt HK.out.2.2 hb2
              clear hb2 HCK
              go_wp2
              go_ret
              exact ⟨by rw [← HCC.out.2 HC0.out]; rfl, HB2.out⟩
      · have hkI : (n : Int) ≤ (k : Int) := by omega
        have H2 : Hid (E = 0) := by show _ = _; rw [← HK.out.1]; exact checkF_end l k (by have := HL.out.1.n; omega)
        go_wp2
        go_ret
        exact ⟨by rw [H2.out]; rfl, HK.out.2.2⟩
end Go.Proofs.Ytbnacopefclklaa
