import Derived.Test.YtghcmllmbpoidaaGreatDoorJ36
namespace Go.Proofs.YtghcmllmbpoidaaGreatDoor.Mg
open Go.RowKit Go.WideShapes
theorem meth_less0 (a : Addr) (w : World) : (Go.method 583 277 (.pointer (some a)) "Less").run Tryz.prog w = ((receiverAt 277 (.val (.pointer (some a))) false (some "Less")) >>= fun r => pure (381, r)).run Tryz.prog w := by kernel_rfl
theorem meth_swap0 (a : Addr) (w : World) : (Go.method 583 277 (.pointer (some a)) "Swap").run Tryz.prog w = ((receiverAt 277 (.val (.pointer (some a))) false (some "Swap")) >>= fun r => pure (384, r)).run Tryz.prog w := by kernel_rfl
theorem meth_len0 (a : Addr) (w : World) : (Go.method 583 277 (.pointer (some a)) "Len").run Tryz.prog w = ((receiverAt 277 (.val (.pointer (some a))) false (some "Len")) >>= fun r => pure (154, r)).run Tryz.prog w := by kernel_rfl
theorem meth_push (a : Addr) (w : World) : (Go.method 583 277 (.pointer (some a)) "Push").run Tryz.prog w = .ok (383, .pointer (some a)) w := by kernel_rfl
theorem meth_pop (a : Addr) (w : World) : (Go.method 583 277 (.pointer (some a)) "Pop").run Tryz.prog w = .ok (382, .pointer (some a)) w := by kernel_rfl
theorem recv_heads (q : Option Addr) (n c b : Nat) (w : World) (nm : String) (h : w.cell? ⟨b, 0, none⟩ = some (.slice q n c)) : (receiverAt 277 (.val (.pointer (some ⟨b, 0, none⟩))) false (some nm)).run Tryz.prog w = .ok (.slice q n c) w := by
  unfold receiverAt
  go_simp
  rw [show (Sem.run Tryz.prog (Place.get 277 (Place.val (Value.pointer (some ⟨b, 0, none⟩)))) w) = .ok (Value.pointer (some ⟨b, 0, none⟩)) w from rfl]
  simp only [Result.andThen_ok]
  rw [show (Sem.run Tryz.prog (Builtin.ssaWrapNilChk_ #[277] 277 #[Value.pointer (some ⟨b, 0, none⟩), strVal "", strVal nm]) w) = .ok (Value.pointer (some ⟨b, 0, none⟩)) w from rfl]
  simp only [Result.andThen_ok, Sem.run_pure, h]
theorem meth_less (q : Option Addr) (n c b : Nat) (w : World) (h : w.cell? ⟨b, 0, none⟩ = some (.slice q n c)) : (Go.method 583 277 (.pointer (some ⟨b, 0, none⟩)) "Less").run Tryz.prog w = .ok (381, .slice q n c) w := by rw [meth_less0, Sem.run_bind, recv_heads q n c b w _ h]; rfl
theorem meth_swap (q : Option Addr) (n c b : Nat) (w : World) (h : w.cell? ⟨b, 0, none⟩ = some (.slice q n c)) : (Go.method 583 277 (.pointer (some ⟨b, 0, none⟩)) "Swap").run Tryz.prog w = .ok (384, .slice q n c) w := by rw [meth_swap0, Sem.run_bind, recv_heads q n c b w _ h]; rfl
theorem meth_len (q : Option Addr) (n c b : Nat) (w : World) (h : w.cell? ⟨b, 0, none⟩ = some (.slice q n c)) : (Go.method 583 277 (.pointer (some ⟨b, 0, none⟩)) "Len").run Tryz.prog w = .ok (154, .slice q n c) w := by rw [meth_len0, Sem.run_bind, recv_heads q n c b w _ h]; rfl
theorem Hp.val {w0 w : World} {bh : Nat} {hv : Value} {R : List RV} (h : Hp w0 bh hv R w) : ∃ q c, hv = .slice q R.length c ∧ R.length ≤ c ∧ c ≤ maxLen := by
  obtain ⟨q, m, h1, h2, h3, _⟩ := own_form h.own
  exact ⟨q, m, h1, h2, h3⟩
end Go.Proofs.YtghcmllmbpoidaaGreatDoor.Mg
namespace Go.Proofs.YtghcmllmbpoidaaGreatDoor.Mg
set_option maxRecDepth 8000
open Go.RowKit Go.WideShapes
set_option maxHeartbeats 1000000 in
theorem up_any (w0 : World) (bh : Nat) (hv : Value) (R : List RV) (w : World) (h : Hp w0 bh hv R w) (j : Nat) (hj : j < R.length) (hu : UpOk zR ltR R j) (hlen : R.length ≤ 1000) :
    Calls Tryz.prog 211 #[.iface 277 (.pointer (some ⟨bh, 0, none⟩)), .int .i64 (j : Int)] w fun e w' => e = .returned (.tuple #[]) ∧ ∃ R', R'.Perm R ∧ Heap zR ltR R' ∧ Hp w0 bh hv R' w' ∧ KeptR w w' := by
  obtain ⟨q, c, rfl, _, _⟩ := h.val
  obtain ⟨m, hm⟩ : ∃ m, R.length = m := ⟨_, rfl⟩
  rw [hm] at h ⊢
  obtain ⟨hv, hhv⟩ : ∃ hv, Value.slice q m c = hv := ⟨_, rfl⟩
  rw [hhv] at h ⊢
  have H0 : Hid (Hp w0 bh hv R w ∧ UpOk zR ltR R j ∧ j < R.length ∧ R.length ≤ 1000) := ⟨h, hu, hj, hlen⟩
  clear h hu hj hlen hm
  go_enter Tryz.func211, Tryz.ntmps211
  go_wp2
  go_loopw [1] (fun s1 wr => ∃ (k : Nat) (Rk : List RV), s1 = .int .i64 (k : Int) ∧ k < Rk.length ∧ Rk.Perm R ∧ UpOk zR ltR Rk k ∧ Hp w0 bh hv Rk wr ∧ KeptR w wr) (fun s1 _ => (intOf s1).toNat)
  case atStart => exact ⟨j, R, rfl, H0.out.2.2.1, List.Perm.refl _, H0.out.2.1, H0.out.1, KeptR.refl _⟩
  case round =>
    obtain ⟨k, Rk, rfl, hk, hp, hu, hon, hkp⟩ := hrel
    have HK : Hid (k < Rk.length ∧ Rk.Perm R ∧ UpOk zR ltR Rk k ∧ Rk.length ≤ 1000) := ⟨hk, hp, hu, by rw [hp.length_eq]; exact H0.out.2.2.2⟩
    have HO : Hid (Hp w0 bh hv Rk wr ∧ KeptR w wr) := ⟨hon, hkp⟩
    have kI : (k : Int) ≤ 1000 := by have := HK.out; omega
    clear hk hp hu hkp
    by_cases hk0 : k = 0
    · subst hk0
      clear hon
      rw [show ((0 : Nat) : Int) = 0 from rfl]
      go_wp2
      go_end0
      exact ⟨rfl, Rk, HK.out.2.1, up_end HK.out.2.2.1 (.inl rfl), HO.out⟩
    · have HK0 : Hid (0 < k) := by show _ < _; omega
      obtain ⟨i, hi⟩ : ∃ i, (k - 1) / 2 = i := ⟨_, rfl⟩
      have HI : Hid ((k - 1) / 2 = i) := hi
      have qd : ((k : Int) - 1).tdiv 2 = (i : Int) := by rw [show ((k : Int) - 1) = ((k - 1 : Nat) : Int) by omega, ← hi]; rfl
      have kw1 : IntKind.i64.wrap ((k : Int) - 1) = (k : Int) - 1 := by rw [IntKind.wrap_i64]; omega
      have kw2 : IntKind.i64.wrap (i : Int) = (i : Int) := by rw [IntKind.wrap_i64]; omega
      have kne : ((i : Int) == (k : Int)) = false := by simp; omega
      have kne' : (i == k) = false := by simp; omega
      have hme := meth_less q m c bh wr (by rw [hhv]; exact Lib.cell_of_heap hon.ptr 0)
      rw [hhv] at hme
      obtain ⟨r, hr⟩ : ∃ r, ltR (Rk.getD k zR) (Rk.getD i zR) = r := ⟨_, rfl⟩
      have HLE := hLess_any w0 bh hv Rk wr hon k i HK.out.1 (by have := HK.out; omega) r hr
      have HR : Hid (ltR (Rk.getD k zR) (Rk.getD i zR) = r) := hr
      clear hon hk0 hi hr
      go_wp2_with fail
      refine HLE.mono ?_
      rintro e w2 ⟨rfl, hb2⟩
      have H2 : Hid (Hp w0 bh hv Rk w2 ∧ KeptR w w2) := ⟨HO.out.1.next hb2, HO.out.2.trans (keptR_below hb2)⟩
      clear hb2 HLE hme
      cases r with
      | false =>
        go_wp2
        go_end0
        exact ⟨rfl, Rk, HK.out.2.1, up_end HK.out.2.2.1 (.inr (by rw [HI.out]; exact HR.out)), H2.out⟩
      | true =>
        have hme := meth_swap q m c bh w2 (by rw [hhv]; exact Lib.cell_of_heap H2.out.1.ptr 0)
        rw [hhv] at hme
        have HSW := hSwap_any w0 bh hv Rk w2 H2.out.1 i k (by have := HK.out; have := HI.out; omega) HK.out.1
        go_wp2_with fail
        refine HSW.mono ?_
        rintro e w3 ⟨rfl, h3, k3⟩
        have H3 : Hid (Hp w0 bh hv (swp zR Rk i k) w3 ∧ KeptR w w3) := ⟨h3, H2.out.2.trans k3⟩
        clear h3 k3 HSW hme
        go_wp2
        go_roundw
        case rel =>
          have hik : i < Rk.length := by have := HK.out.1; have := HI.out; omega
          refine ⟨i, swp zR Rk i k, rfl, by rw [swp_length]; exact hik, (swp_perm zR hik HK.out.1).trans HK.out.2.1, ?_, H3.out⟩
          have := up_step ltR_asym ltR_trans HK.out.1 HK0.out HK.out.2.2.1 (by rw [HI.out]; exact HR.out)
          rwa [HI.out] at this
        case measure => have := HI.out; have := HK0.out; simp [intOf]; omega
end Go.Proofs.YtghcmllmbpoidaaGreatDoor.Mg
namespace Go.Proofs.YtghcmllmbpoidaaGreatDoor.Mg
set_option maxRecDepth 8000
open Go.RowKit Go.WideShapes
theorem swp_far {R : List RV} {i j k : Nat} (hi : i < R.length) (hj : j < R.length) (h1 : k ≠ i) (h2 : k ≠ j) : (swp zR R i j).getD k zR = R.getD k zR := by rw [swp_at zR hi hj, if_neg h2, if_neg h1]
set_option maxHeartbeats 2000000 in
theorem down_any (w0 : World) (bh : Nat) (hv : Value) (R : List RV) (w : World) (h : Hp w0 bh hv R w) (n : Nat) (hn : n ≤ R.length) (hd : DownOk zR ltR R n 0) (hlen : R.length ≤ 1000) :
    Calls Tryz.prog 212 #[.iface 277 (.pointer (some ⟨bh, 0, none⟩)), .int .i64 0, .int .i64 (n : Int)] w fun e w' => ∃ b R', e = .returned (.bool b) ∧ R'.Perm R ∧ HeapTo zR ltR R' n ∧ (∀ k, n ≤ k → R'.getD k zR = R.getD k zR) ∧ Hp w0 bh hv R' w' ∧ KeptR w w' := by
  obtain ⟨q, c, rfl, _, _⟩ := h.val
  obtain ⟨m, hm⟩ : ∃ m, R.length = m := ⟨_, rfl⟩
  rw [hm] at h ⊢
  obtain ⟨hv, hhv⟩ : ∃ hv, Value.slice q m c = hv := ⟨_, rfl⟩
  rw [hhv] at h ⊢
  have H0 : Hid (Hp w0 bh hv R w ∧ DownOk zR ltR R n 0 ∧ n ≤ R.length ∧ R.length ≤ 1000) := ⟨h, hd, hn, hlen⟩
  have nI : (n : Int) ≤ 1000 := by omega
  clear h hd hn hlen hm
  go_enter Tryz.func212, Tryz.ntmps212
  go_wp2
  go_loopw [7] (fun s7 wr => ∃ (k : Nat) (Rk : List RV), s7 = .int .i64 (k : Int) ∧ k ≤ n ∧ Rk.Perm R ∧ DownOk zR ltR Rk n k ∧ (∀ j, n ≤ j → Rk.getD j zR = R.getD j zR) ∧ Hp w0 bh hv Rk wr ∧ KeptR w wr) (fun s7 _ => n - (intOf s7).toNat)
  case atStart => exact ⟨0, R, rfl, by omega, List.Perm.refl _, H0.out.2.1, fun _ _ => rfl, H0.out.1, KeptR.refl _⟩
  case round =>
    obtain ⟨k, Rk, rfl, hk, hp, hd, hfar, hon, hkp⟩ := hrel
    have HK : Hid (k ≤ n ∧ Rk.Perm R ∧ DownOk zR ltR Rk n k ∧ (∀ j, n ≤ j → Rk.getD j zR = R.getD j zR) ∧ n ≤ Rk.length ∧ Rk.length ≤ 1000) := ⟨hk, hp, hd, hfar, by rw [hp.length_eq]; exact H0.out.2.2.1, by rw [hp.length_eq]; exact H0.out.2.2.2⟩
    have HO : Hid (Hp w0 bh hv Rk wr ∧ KeptR w wr) := ⟨hon, hkp⟩
    have kI : (k : Int) ≤ 1000 := by omega
    clear hk hp hd hkp hon hfar
    obtain ⟨a, ha⟩ : ∃ a : Nat, a = 2 * k + 1 := ⟨_, rfl⟩
    obtain ⟨b, hb⟩ : ∃ b : Nat, b = 2 * k + 2 := ⟨_, rfl⟩
    have HA : Hid (a = 2 * k + 1 ∧ b = 2 * k + 2) := ⟨ha, hb⟩
    have kw1 : IntKind.i64.wrap (2 * (k : Int)) = 2 * (k : Int) := by rw [IntKind.wrap_i64]; omega
    have kw2 : IntKind.i64.wrap (2 * (k : Int) + 1) = (a : Int) := by rw [IntKind.wrap_i64]; omega
    have kw3 : IntKind.i64.wrap ((a : Int) + 1) = (b : Int) := by rw [IntKind.wrap_i64]; omega
    have a0 : (0 : Int) ≤ (a : Int) := by omega
    clear ha hb
    by_cases han : n ≤ a
    · have hanI : (n : Int) ≤ (a : Int) := by omega
      have HAN : Hid (n ≤ a) := han
      clear han
      go_wp2
      go_ret
      exact ⟨_, Rk, rfl, HK.out.2.1, down_end ltR_asym ltR_trans ltR_irr HK.out.2.2.1 (.inl (by have := HA.out; have := HAN.out; omega)), HK.out.2.2.2.1, HO.out⟩
    · have hanI : (a : Int) < (n : Int) := by omega
      have HAN : Hid (a < n) := by show _ < _; omega
      clear han
      by_cases hbn : b < n
      · have hbnI : (b : Int) < (n : Int) := by omega
        have HBN : Hid (b < n) := hbn
        have hme := meth_less q m c bh wr (by rw [hhv]; exact Lib.cell_of_heap HO.out.1.ptr 0)
        rw [hhv] at hme
        obtain ⟨r, hr⟩ : ∃ r, ltR (Rk.getD b zR) (Rk.getD a zR) = r := ⟨_, rfl⟩
        have HLE := hLess_any w0 bh hv Rk wr HO.out.1 b a (by have := HK.out; have := HBN.out; omega) (by have := HK.out; have := HAN.out; omega) r hr
        have HR : Hid (ltR (Rk.getD b zR) (Rk.getD a zR) = r) := hr
        clear hr hbn
        go_wp2_with fail
        refine HLE.mono ?_
        rintro e w2 ⟨rfl, hb2⟩
        have H2 : Hid (Hp w0 bh hv Rk w2 ∧ KeptR w w2) := ⟨HO.out.1.next hb2, HO.out.2.trans (keptR_below hb2)⟩
        clear hb2 HLE hme
        cases r with
        | true =>
          have HL : Hid (lowC zR ltR Rk n k = b) := by show _ = _; unfold lowC; rw [← HA.out.1, ← HA.out.2, if_pos ⟨HBN.out, HR.out⟩]
          obtain ⟨r2, hr2⟩ : ∃ r, ltR (Rk.getD b zR) (Rk.getD k zR) = r := ⟨_, rfl⟩
          have hc := lowC_is (z := zR) (lt := ltR) (H := Rk) (show 2 * k + 1 < n by have := HA.out; have := HAN.out; omega)
          rw [HL.out] at hc
          have HC : Hid (b < n ∧ (b - 1) / 2 = k ∧ k < b) := hc
          have HLE2 := hLess_any w0 bh hv Rk w2 H2.out.1 b k (by have := HK.out; have := HC.out; omega) (by have := HK.out; have := HC.out; omega) r2 hr2
          have HR2 : Hid (ltR (Rk.getD (lowC zR ltR Rk n k) zR) (Rk.getD k zR) = r2) := by show _ = _; rw [HL.out]; exact hr2
          have hme := meth_less q m c bh w2 (by rw [hhv]; exact Lib.cell_of_heap H2.out.1.ptr 0)
          rw [hhv] at hme
          clear hr2 hc
          go_wp2_with fail
          refine HLE2.mono ?_
          rintro e w3 ⟨rfl, hb3⟩
          have H3 : Hid (Hp w0 bh hv Rk w3 ∧ KeptR w w3) := ⟨H2.out.1.next hb3, H2.out.2.trans (keptR_below hb3)⟩
          clear hb3 HLE2 hme
          cases r2 with
          | false =>
            go_wp2
            go_ret
            exact ⟨_, Rk, rfl, HK.out.2.1, down_end ltR_asym ltR_trans ltR_irr HK.out.2.2.1 (.inr HR2.out), HK.out.2.2.2.1, H3.out⟩
          | true =>
            have hme := meth_swap q m c bh w3 (by rw [hhv]; exact Lib.cell_of_heap H3.out.1.ptr 0)
            rw [hhv] at hme
            have HSW := hSwap_any w0 bh hv Rk w3 H3.out.1 k b (by have := HK.out; have := HC.out; omega) (by have := HK.out; have := HC.out; omega)
            go_wp2_with fail
            refine HSW.mono ?_
            rintro e w4 ⟨rfl, h4, k4⟩
            have H4 : Hid (Hp w0 bh hv (swp zR Rk k b) w4 ∧ KeptR w w4) := ⟨h4, H3.out.2.trans k4⟩
            clear h4 k4 HSW hme
            go_wp2
            go_roundw
            case rel =>
              have hk1 : k < Rk.length := by have := HK.out; have := HC.out; omega
              have hj1 : b < Rk.length := by have := HK.out; have := HC.out; omega
              refine ⟨b, swp zR Rk k b, rfl, by have := HC.out; omega, (swp_perm zR hk1 hj1).trans HK.out.2.1, ?_, fun i hi => by rw [swp_far hk1 hj1 (by have := HC.out; omega) (by have := HC.out; omega)]; exact HK.out.2.2.2.1 i hi, H4.out⟩
              have := down_step ltR_asym ltR_irr HK.out.2.2.2.2.1 (by have := HA.out; have := HAN.out; omega) HK.out.2.2.1 HR2.out
              rwa [HL.out] at this
            case measure => have := HC.out; simp [intOf]; omega
        | false =>
          have HL : Hid (lowC zR ltR Rk n k = a) := by show _ = _; unfold lowC; rw [← HA.out.1, ← HA.out.2, if_neg (by rw [HR.out]; simp)]
          obtain ⟨r2, hr2⟩ : ∃ r, ltR (Rk.getD a zR) (Rk.getD k zR) = r := ⟨_, rfl⟩
          have hc := lowC_is (z := zR) (lt := ltR) (H := Rk) (show 2 * k + 1 < n by have := HA.out; have := HAN.out; omega)
          rw [HL.out] at hc
          have HC : Hid (a < n ∧ (a - 1) / 2 = k ∧ k < a) := hc
          have HLE2 := hLess_any w0 bh hv Rk w2 H2.out.1 a k (by have := HK.out; have := HC.out; omega) (by have := HK.out; have := HC.out; omega) r2 hr2
          have HR2 : Hid (ltR (Rk.getD (lowC zR ltR Rk n k) zR) (Rk.getD k zR) = r2) := by show _ = _; rw [HL.out]; exact hr2
          have hme := meth_less q m c bh w2 (by rw [hhv]; exact Lib.cell_of_heap H2.out.1.ptr 0)
          rw [hhv] at hme
          clear hr2 hc
          go_wp2_with fail
          refine HLE2.mono ?_
          rintro e w3 ⟨rfl, hb3⟩
          have H3 : Hid (Hp w0 bh hv Rk w3 ∧ KeptR w w3) := ⟨H2.out.1.next hb3, H2.out.2.trans (keptR_below hb3)⟩
          clear hb3 HLE2 hme
          cases r2 with
          | false =>
            go_wp2
            go_ret
            exact ⟨_, Rk, rfl, HK.out.2.1, down_end ltR_asym ltR_trans ltR_irr HK.out.2.2.1 (.inr HR2.out), HK.out.2.2.2.1, H3.out⟩
          | true =>
            have hme := meth_swap q m c bh w3 (by rw [hhv]; exact Lib.cell_of_heap H3.out.1.ptr 0)
            rw [hhv] at hme
            have HSW := hSwap_any w0 bh hv Rk w3 H3.out.1 k a (by have := HK.out; have := HC.out; omega) (by have := HK.out; have := HC.out; omega)
            go_wp2_with fail
            refine HSW.mono ?_
            rintro e w4 ⟨rfl, h4, k4⟩
            have H4 : Hid (Hp w0 bh hv (swp zR Rk k a) w4 ∧ KeptR w w4) := ⟨h4, H3.out.2.trans k4⟩
            clear h4 k4 HSW hme
            go_wp2
            go_roundw
            case rel =>
              have hk1 : k < Rk.length := by have := HK.out; have := HC.out; omega
              have hj1 : a < Rk.length := by have := HK.out; have := HC.out; omega
              refine ⟨a, swp zR Rk k a, rfl, by have := HC.out; omega, (swp_perm zR hk1 hj1).trans HK.out.2.1, ?_, fun i hi => by rw [swp_far hk1 hj1 (by have := HC.out; omega) (by have := HC.out; omega)]; exact HK.out.2.2.2.1 i hi, H4.out⟩
              have := down_step ltR_asym ltR_irr HK.out.2.2.2.2.1 (by have := HA.out; have := HAN.out; omega) HK.out.2.2.1 HR2.out
              rwa [HL.out] at this
            case measure => have := HC.out; simp [intOf]; omega
      · have hbnI : (n : Int) ≤ (b : Int) := by omega
        have HBN : Hid (n ≤ b) := by show _ ≤ _; omega
        have H2 : Hid (Hp w0 bh hv Rk wr ∧ KeptR w wr) := HO.out
        have HL : Hid (lowC zR ltR Rk n k = a) := by show _ = _; unfold lowC; rw [← HA.out.1, ← HA.out.2, if_neg (fun hh => by have := HBN.out; omega)]
        clear hbn
        obtain ⟨r2, hr2⟩ : ∃ r, ltR (Rk.getD a zR) (Rk.getD k zR) = r := ⟨_, rfl⟩
        have hc := lowC_is (z := zR) (lt := ltR) (H := Rk) (show 2 * k + 1 < n by have := HA.out; have := HAN.out; omega)
        rw [HL.out] at hc
        have HC : Hid (a < n ∧ (a - 1) / 2 = k ∧ k < a) := hc
        have HLE2 := hLess_any w0 bh hv Rk wr H2.out.1 a k (by have := HK.out; have := HC.out; omega) (by have := HK.out; have := HC.out; omega) r2 hr2
        have HR2 : Hid (ltR (Rk.getD (lowC zR ltR Rk n k) zR) (Rk.getD k zR) = r2) := by show _ = _; rw [HL.out]; exact hr2
        have hme := meth_less q m c bh wr (by rw [hhv]; exact Lib.cell_of_heap H2.out.1.ptr 0)
        rw [hhv] at hme
        clear hr2 hc
        go_wp2_with fail
        refine HLE2.mono ?_
        rintro e w3 ⟨rfl, hb3⟩
        have H3 : Hid (Hp w0 bh hv Rk w3 ∧ KeptR w w3) := ⟨H2.out.1.next hb3, H2.out.2.trans (keptR_below hb3)⟩
        clear hb3 HLE2 hme
        cases r2 with
        | false =>
          go_wp2
          go_ret
          exact ⟨_, Rk, rfl, HK.out.2.1, down_end ltR_asym ltR_trans ltR_irr HK.out.2.2.1 (.inr HR2.out), HK.out.2.2.2.1, H3.out⟩
        | true =>
          have hme := meth_swap q m c bh w3 (by rw [hhv]; exact Lib.cell_of_heap H3.out.1.ptr 0)
          rw [hhv] at hme
          have HSW := hSwap_any w0 bh hv Rk w3 H3.out.1 k a (by have := HK.out; have := HC.out; omega) (by have := HK.out; have := HC.out; omega)
          go_wp2_with fail
          refine HSW.mono ?_
          rintro e w4 ⟨rfl, h4, k4⟩
          have H4 : Hid (Hp w0 bh hv (swp zR Rk k a) w4 ∧ KeptR w w4) := ⟨h4, H3.out.2.trans k4⟩
          clear h4 k4 HSW hme
          go_wp2
          go_roundw
          case rel =>
            have hk1 : k < Rk.length := by have := HK.out; have := HC.out; omega
            have hj1 : a < Rk.length := by have := HK.out; have := HC.out; omega
            refine ⟨a, swp zR Rk k a, rfl, by have := HC.out; omega, (swp_perm zR hk1 hj1).trans HK.out.2.1, ?_, fun i hi => by rw [swp_far hk1 hj1 (by have := HC.out; omega) (by have := HC.out; omega)]; exact HK.out.2.2.2.1 i hi, H4.out⟩
            have := down_step ltR_asym ltR_irr HK.out.2.2.2.2.1 (by have := HA.out; have := HAN.out; omega) HK.out.2.2.1 HR2.out
            rwa [HL.out] at this
          case measure => have := HC.out; simp [intOf]; omega
end Go.Proofs.YtghcmllmbpoidaaGreatDoor.Mg
namespace Go.Proofs.YtghcmllmbpoidaaGreatDoor.Mg
set_option maxRecDepth 8000
open Go.RowKit Go.WideShapes
theorem info_ents : (Tryz.prog.info? 58).map (fun i => (i.zero, i.size, i.bytes)) = some (some (.slice none 0 0), 1, 24) := by kernel_rfl
theorem own_heap {w w' : World} {base n s : Nat} {e : TypeId} {v : Value} {xs : List Value} (h : w.ownsRow base e s v n xs) (hb : ∀ g, v.ownBlock = some g → w'.heap[g]? = w.heap[g]?) : w'.ownsRow base e s v n xs := by
  obtain ⟨h1, h2⟩ := h
  refine ⟨h1, ?_⟩
  rcases h2 with h2 | ⟨g, cap, cur, hv, hbs, hg, h3⟩
  · exact .inl h2
  · refine .inr ⟨g, cap, cur, hv, hbs, ?_, h3⟩
    rw [hb g (by rw [hv]; rfl)]
    exact hg
theorem run_push (w : World) (base : Nat) (ty : TypeId) (hv : Value) (R : List RV) (r : RV) (g : Nat) (hown : w.ownsRow base 58 1 hv R.length (R.map rvV)) (hg : w.cell? ⟨g, 0, none⟩ = some (rvV r)) (hlen : R.length ≤ 1000) (hbase : base ≤ w.heap.size) :
    ∃ v' w', (Builtin.append_ #[278, 278] ty #[hv, .slice (some ⟨g, 0, none⟩) 1 1]).run Tryz.prog w = .ok v' w' ∧ w'.ownsRow base 58 1 v' (R ++ [r]).length ((R ++ [r]).map rvV) ∧ w.grownBy w' hv.ownBlock := by
  obtain ⟨i0, hi, hz0, hz1, hz2⟩ := info_parts' info_ents
  have hmax : R.length + 1 ≤ maxLen := by unfold maxLen; omega
  have hc : ∀ j u, [rvV r][j]? = some u → w.cell? ((⟨g, 0, none⟩ : Addr).add j) = some u := by
    intro j u hu
    cases j with
    | zero => simp at hu; subst hu; exact hg
    | succ j => simp at hu
  obtain ⟨v', w', h1, h2, h3, _⟩ := run_append_own (P := Tryz.prog) w base 278 ty 58 i0 (.slice none 0 0) 1 24 Tryz.underlying278 hi hz0 hz1 hz2 rfl (by decide) hv R.length (R.map rvV) hown ⟨g, 0, none⟩ 1 1 [rvV r] rfl hc (by intro u hu; simp at hu; subst hu; rfl) hmax (by omega) hbase
  refine ⟨v', w', h1, ?_, h3⟩
  rw [List.length_append, List.map_append]
  exact h2
theorem Hp.push {w0 w w' : World} {bh : Nat} {hv v' : Value} {R : List RV} {r : RV} (h : Hp w0 bh hv R w) (hr : RowOk w0 r ∧ 0 < r.l.length) (ho : w'.ownsRow w0.heap.size 58 1 v' (R ++ [r]).length ((R ++ [r]).map rvV)) (hg : w.grownBy w' hv.ownBlock) :
    Hp w0 bh v' (R ++ [r]) (w'.setCell ⟨bh, 0, none⟩ v') ∧ KeptR w (w'.setCell ⟨bh, 0, none⟩ v') ∧ w'.heap[bh]? = some (.cells #[hv] 278 (0, 0)) := by
  have hne : hv.ownBlock ≠ some bh := own_neS h.own h.ptr (by decide)
  have hp : w'.heap[bh]? = some (.cells #[hv] 278 (0, 0)) := by
    rw [hg.block bh (lt_heap h.ptr) (fun e => hne e.symm)]
    exact h.ptr
  have hne2 : v'.ownBlock ≠ some bh := own_neS ho hp (by decide)
  refine ⟨⟨(h.bel.grown hg h.bel.size (fun k hk => (World.ownsRow.lt h.own k hk).1)).setCell (p := ⟨bh, 0, none⟩) h.bhb v', h.bhb, ?_, ?_, ?_⟩, ?_, hp⟩
  · have := heap_setCell_same w' bh 0 _ _ v' hp
    simpa using this
  · refine own_heap ho (fun g hgg => heap_setCell_other w' ⟨bh, 0, none⟩ g v' (fun e => hne2 (by rw [hgg]; exact congrArg some e)))
  · intro x hx
    rcases List.mem_append.1 hx with hx | hx
    · exact h.rows x hx
    · simp at hx; subst hx; exact hr
  · refine KeptR.trans ⟨hg.size, fun b cs t fr hb h1 h2 => ?_⟩ (keptR_set hp (.inr rfl) v')
    rw [hg.block b (lt_heap hb) (fun e => own_neS h.own hb h1 e.symm)]
    exact hb
theorem step_push {ops : Array Oper} {o : Oper} {a : Act} {w : World} {K : Act → World → Prop} {Q : Exit → Act → World → Prop} {E : Prop} (hgd : o.guard = none) (s x : Operand)
    (ho : o.op = .call { callee := .builtin .append, args := #[s, x], argTypes := #[278, 278] }) (base : Nat) (hv : Value) (R : List RV) (r : RV) (g : Nat) (hs : a.eval s = hv) (hx : a.eval x = .slice (some ⟨g, 0, none⟩) 1 1)
    (hown : w.ownsRow base 58 1 hv R.length (R.map rvV)) (hg : w.cell? ⟨g, 0, none⟩ = some (rvV r)) (hlen : R.length ≤ 1000) (hbase : base ≤ w.heap.size)
    (h : ∀ v' w', w'.ownsRow base 58 1 v' (R ++ [r]).length ((R ++ [r]).map rvV) → w.grownBy w' hv.ownBlock → K (a.put o.dst v') w') : if Region.wanted o (yielded ops a.tmps) = true then Oper.wp Tryz.prog o a w K Q else E := by
  have hw : Region.wanted o (yielded ops a.tmps) = true := by simp [Region.wanted, hgd]
  rw [if_pos hw]
  obtain ⟨v', w', hr, h2, h3⟩ := run_push w base o.type hv R r g hown hg hlen hbase
  unfold Oper.wp execOp
  simp only [ho, resolve, invoke, builtin, Sem.run_bind, Sem.run_pure, Result.andThen_ok, List.map_toArray, List.map_cons, List.map_nil, hs, hx, hr]
  exact h v' w' h2 h3
theorem assert_row (v : Value) (w : World) : (Instr.typeAssert (.iface 58 v) 20 58 false).run Tryz.prog w = .ok v w := by kernel_rfl
set_option maxHeartbeats 1000000 in
theorem hPush_any (w0 : World) (bh : Nat) (hv : Value) (R : List RV) (r : RV) (w : World) (h : Hp w0 bh hv R w) (hr : RowOk w0 r ∧ 0 < r.l.length) (hlen : R.length ≤ 1000) :
    Calls Tryz.prog 383 #[.pointer (some ⟨bh, 0, none⟩), .iface 58 (rvV r)] w fun e w' => ∃ v', e = .returned (.tuple #[]) ∧ Hp w0 bh v' (R ++ [r]) w' ∧ KeptR w w' := by
  obtain ⟨q, c, rfl, _, _⟩ := h.val
  obtain ⟨qr, nr, cr, lr⟩ := r
  rw [show rvV ⟨qr, nr, cr, lr⟩ = .slice qr nr cr from rfl]
  have h1 : Hp w0 bh (.slice q R.length c) R (w.alloc (.cells #[.slice qr nr cr] 58)).drew := (h.next (below_alloc _ _)).drew
  obtain ⟨m, hm⟩ : ∃ m, R.length = m := ⟨_, rfl⟩
  have c0 : w.cell? ⟨bh, 0, none⟩ = some (.slice q R.length c) := Lib.cell_of_heap h.ptr 0
  rw [hm] at h1 c0
  have HW : Hid (∀ v' w2, w2.ownsRow w0.heap.size 58 1 v' (R ++ [(⟨qr, nr, cr, lr⟩ : RV)]).length ((R ++ [(⟨qr, nr, cr, lr⟩ : RV)]).map rvV) → (w.alloc (.cells #[.slice qr nr cr] 58)).drew.grownBy w2 (Value.slice q m c).ownBlock → ∃ qv nv mv, v' = .slice qv nv mv ∧ w2.cell? ⟨bh, 0, none⟩ = some (.slice q m c) ∧ w2.frozen? ⟨bh, 0, none⟩ = false ∧ Hp w0 bh v' (R ++ [⟨qr, nr, cr, lr⟩]) (w2.setCell ⟨bh, 0, none⟩ v') ∧ KeptR w (w2.setCell ⟨bh, 0, none⟩ v')) := by
    intro v' w2 ho hg
    obtain ⟨h2, hk2, hp2⟩ := h1.push hr ho hg
    obtain ⟨qv, mv, hvv, _, _⟩ := own_form ho
    exact ⟨qv, _, mv, hvv, Lib.cell_of_heap hp2 0, frozen_row hp2 0, h2, (keptR_below (below_alloc w (.cells #[.slice qr nr cr] 58)).drew).trans hk2⟩
  have HOWN : Hid ((w.alloc (.cells #[.slice qr nr cr] 58)).drew.ownsRow w0.heap.size 58 1 (.slice q m c) R.length (R.map rvV)) := h1.own
  have HCE : Hid ((w.alloc (.cells #[.slice qr nr cr] 58)).drew.cell? ⟨w.heap.size, 0, none⟩ = some (rvV ⟨qr, nr, cr, lr⟩)) := Lib.cell_of_heap (heap_alloc_new w _) 0
  have HLEN : Hid (R.length ≤ 1000 ∧ w0.heap.size ≤ (w.alloc (.cells #[.slice qr nr cr] 58)).drew.heap.size) := ⟨hlen, h1.bel.size⟩
  have c1 : (w.alloc (.cells #[.slice qr nr cr] 58)).cell? ⟨bh, 0, none⟩ = some (.slice q m c) := Lib.cell_of_heap h1.ptr 0
  clear h h1 hm hlen hr
  have hta := assert_row (.slice qr nr cr)
  go_enter Tryz.func383, Tryz.ntmps383
  go_wp2
  go_region_law (refine step_push rfl (.tmp 7) (.tmp 10) rfl w0.heap.size (.slice q m c) R ⟨qr, nr, cr, lr⟩ w.heap.size (by simp [Act.eval]) (by simp [Act.eval]) HOWN.out HCE.out HLEN.out.1 HLEN.out.2 ?_; intro v' w2 ho2 hg2; obtain ⟨qv, nv, mv, rfl, c2, f2, hx2, hk2⟩ := HW.out v' w2 ho2 hg2; have HX : Hid _ := And.intro hx2 hk2; clear hx2 hk2 ho2 hg2)
  all_goals go_wp2
  all_goals go_end0
  all_goals exact ⟨_, rfl, HX.out⟩
end Go.Proofs.YtghcmllmbpoidaaGreatDoor.Mg
namespace Go.Proofs.YtghcmllmbpoidaaGreatDoor.Mg
set_option maxRecDepth 8000
open Go.RowKit Go.WideShapes
theorem hLen_any (q : Option Addr) (n c : Nat) (w : World) : Calls Tryz.prog 154 #[.slice q n c] w fun e w' => e = .returned (.int .i64 (n : Int)) ∧ w' = w := by
  go_enter Tryz.func154, Tryz.ntmps154
  go_wp2
  go_ret
  exact ⟨rfl, rfl⟩
theorem own_take {w : World} {base n s g cap : Nat} {e : TypeId} {xs : List Value} (h : w.ownsRow base e s (.slice (some ⟨g, 0, none⟩) n cap) n xs) {k : Nat} (hk : k ≤ n) : w.ownsRow base e s (.slice (some ⟨g, 0, none⟩) k cap) k (xs.take (k * s)) := by
  obtain ⟨h1, h2⟩ := h
  have hks : k * s ≤ n * s := Nat.mul_le_mul_right _ hk
  refine ⟨by rw [List.length_take, h1]; omega, ?_⟩
  rcases h2 with ⟨hv, _⟩ | ⟨g', cap', cur, hv, hbs, hg, h3, h4, h5, h6⟩
  · cases hv
  · simp only [Value.slice.injEq, Option.some.injEq, Addr.mk.injEq] at hv
    obtain ⟨⟨rfl, _⟩, _, rfl⟩ := hv
    refine .inr ⟨g, cap, cur, rfl, hbs, hg, by omega, h4, h5, ?_⟩
    rw [← h6, List.take_take, Nat.min_eq_left hks]
theorem Hp.pop {w0 w : World} {bh g cap : Nat} {R : List RV} (h : Hp w0 bh (.slice (some ⟨g, 0, none⟩) R.length cap) R w) {k : Nat} (hk : k ≤ R.length) :
    Hp w0 bh (.slice (some ⟨g, 0, none⟩) k cap) (R.take k) (w.setCell ⟨bh, 0, none⟩ (.slice (some ⟨g, 0, none⟩) k cap)) ∧ KeptR w (w.setCell ⟨bh, 0, none⟩ (.slice (some ⟨g, 0, none⟩) k cap)) := by
  have ho := own_take h.own hk
  rw [Nat.mul_one, ← List.map_take] at ho
  have hne2 := own_neS ho h.ptr (by decide)
  refine ⟨⟨h.bel.setCell (p := ⟨bh, 0, none⟩) h.bhb _, h.bhb, ?_, ?_, fun x hx => h.rows x (List.mem_of_mem_take hx)⟩, keptR_set h.ptr (.inr rfl) _⟩
  · have := heap_setCell_same w bh 0 _ _ (.slice (some ⟨g, 0, none⟩) k cap) h.ptr
    simpa using this
  · rw [List.length_take, Nat.min_eq_left hk]
    exact own_heap ho (fun g' hgg => heap_setCell_other w ⟨bh, 0, none⟩ g' _ (fun e => hne2 (by rw [hgg]; exact congrArg some e)))
set_option maxHeartbeats 1000000 in
theorem hPop_any (w0 : World) (bh : Nat) (hv : Value) (R : List RV) (w : World) (h : Hp w0 bh hv R w) (hp : 0 < R.length) (hlen : R.length ≤ 1000) :
    Calls Tryz.prog 382 #[.pointer (some ⟨bh, 0, none⟩)] w fun e w' => ∃ v', e = .returned (.iface 58 (rvV (R.getD (R.length - 1) zR))) ∧ Hp w0 bh v' (R.take (R.length - 1)) w' ∧ KeptR w w' := by
  obtain ⟨g, cap, cur, rfl, hgb, hg, hle, hmax, hc, hf⟩ := h.form hp
  have c0 : w.cell? ⟨bh, 0, none⟩ = some (.slice (some ⟨g, 0, none⟩) R.length cap) := Lib.cell_of_heap h.ptr 0
  have f0 : w.frozen? ⟨bh, 0, none⟩ = false := frozen_row h.ptr 0
  have hl := hc (R.length - 1) (by omega)
  obtain ⟨h2, k2⟩ := h.pop (k := R.length - 1) (by omega)
  obtain ⟨⟨q1, n1, c1, l1⟩, hV1⟩ : ∃ V, R.getD (R.length - 1) zR = V := ⟨_, rfl⟩
  rw [hV1] at hl ⊢
  rw [show rvV ⟨q1, n1, c1, l1⟩ = .slice q1 n1 c1 from rfl] at hl ⊢
  obtain ⟨k, hk⟩ : ∃ k, R.length - 1 = k := ⟨_, rfl⟩
  have kI : IntKind.i64.wrap ((R.length : Int) - 1) = (k : Int) := by rw [IntKind.wrap_i64]; omega
  rw [hk] at hl h2 k2 ⊢
  have HX : Hid (Hp w0 bh (.slice (some ⟨g, 0, none⟩) k cap) (R.take k) (w.setCell ⟨bh, 0, none⟩ (.slice (some ⟨g, 0, none⟩) k cap)) ∧ KeptR w (w.setCell ⟨bh, 0, none⟩ (.slice (some ⟨g, 0, none⟩) k cap))) := ⟨h2, k2⟩
  obtain ⟨m, hm⟩ : ∃ m, R.length = m := ⟨_, rfl⟩
  rw [hm] at c0 kI
  have k0 : (0 : Int) ≤ (k : Int) := by omega
  have k1 : (k : Int) < (m : Int) := by omega
  have k2' : (k : Int) ≤ (cap : Int) := by omega
  have k3 : k ≤ cap := by omega
  clear h h2 k2 hc hf hg hgb hle hmax hk hm hV1 hp hlen
  go_enter Tryz.func382, Tryz.ntmps382
  go_wp2
  go_ret
  exact ⟨_, rfl, HX.out⟩
set_option maxHeartbeats 1000000 in
theorem heapPush_any (w0 : World) (bh : Nat) (hv : Value) (R : List RV) (r : RV) (w : World) (h : Hp w0 bh hv R w) (hh : Heap zR ltR R) (hr : RowOk w0 r ∧ 0 < r.l.length) (hlen : R.length ≤ 900) :
    Calls Tryz.prog 153 #[.iface 277 (.pointer (some ⟨bh, 0, none⟩)), .iface 58 (rvV r)] w fun e w' => ∃ v' R', e = .returned (.tuple #[]) ∧ R'.Perm (R ++ [r]) ∧ Heap zR ltR R' ∧ Hp w0 bh v' R' w' ∧ KeptR w w' := by
  have HP := hPush_any w0 bh hv R r w h hr (by omega)
  have hme := meth_push ⟨bh, 0, none⟩ w
  have HH : Hid (Heap zR ltR R ∧ R.length ≤ 900) := ⟨hh, hlen⟩
  have kI : IntKind.i64.wrap (((R.length : Nat) : Int) + 1 - 1) = (R.length : Int) := by rw [IntKind.wrap_i64]; omega
  clear h hh hr hlen
  go_enter Tryz.func153, Tryz.ntmps153
  go_wp2_with fail
  refine HP.mono ?_
  rintro e w2 ⟨v', rfl, h2, k2⟩
  obtain ⟨q, c, rfl, _, _⟩ := h2.val
  have hl : (R ++ [r]).length = R.length + 1 := by simp
  rw [hl] at h2
  have HU := up_any w0 bh _ (R ++ [r]) w2 h2 R.length (by omega) (heap_put HH.out.1 r) (by have := HH.out.2; omega)
  have hm2 := meth_len q (R.length + 1) c bh w2 (Lib.cell_of_heap h2.ptr 0)
  have HK : Hid (KeptR w w2) := k2
  obtain ⟨m, hm⟩ : ∃ m, R.length + 1 = m := ⟨_, rfl⟩
  have kI' : IntKind.i64.wrap ((m : Int) - 1) = (R.length : Int) := by rw [← hm, ← kI]; rfl
  rw [hm] at hm2 HU
  obtain ⟨k, hk⟩ : ∃ k, R.length = k := ⟨_, rfl⟩
  rw [hk] at HU kI'
  have HLN := hLen_any q m c w2
  clear HP h2 k2 hme kI hl hm hk
  go_wp2_with fail
  refine HLN.mono ?_
  rintro e w3 ⟨rfl, rfl⟩
  clear HLN
  go_wp2_with fail
  refine HU.mono ?_
  rintro e w4 ⟨rfl, R', p4, hh4, h4, k4⟩
  have H4 : Hid (R'.Perm (R ++ [r]) ∧ Heap zR ltR R' ∧ Hp w0 bh (.slice q m c) R' w4 ∧ KeptR w w4) := ⟨p4, hh4, h4, HK.out.trans k4⟩
  clear p4 hh4 h4 k4 HU
  go_wp2
  go_end0
  exact ⟨_, R', rfl, H4.out⟩
set_option maxHeartbeats 1000000 in
theorem heapFix_any (w0 : World) (bh : Nat) (hv : Value) (R : List RV) (w : World) (h : Hp w0 bh hv R w) (hd : DownOk zR ltR R R.length 0) (hp : 0 < R.length) (hlen : R.length ≤ 1000) :
    Calls Tryz.prog 156 #[.iface 277 (.pointer (some ⟨bh, 0, none⟩)), .int .i64 0] w fun e w' => ∃ R', e = .returned (.tuple #[]) ∧ R'.Perm R ∧ Heap zR ltR R' ∧ Hp w0 bh hv R' w' ∧ KeptR w w' := by
  have HD := down_any w0 bh hv R w h R.length (Nat.le_refl _) hd hlen
  obtain ⟨q, c, rfl, _, _⟩ := h.val
  have hme := meth_len q R.length c bh w (Lib.cell_of_heap h.ptr 0)
  have HLN := hLen_any q R.length c w
  obtain ⟨m, hm⟩ : ∃ m, R.length = m := ⟨_, rfl⟩
  rw [hm] at HD hme HLN
  have HH : Hid (R.length = m ∧ 0 < R.length ∧ R.length ≤ 1000) := ⟨hm, hp, hlen⟩
  clear h hd hp hlen hm
  go_enter Tryz.func156, Tryz.ntmps156
  go_wp2_with fail
  refine HLN.mono ?_
  rintro e w1 ⟨rfl, hw⟩
  have hw := hw.symm
  subst hw
  clear HLN
  go_wp2_with fail
  refine HD.mono ?_
  rintro e w2 ⟨b, R2, rfl, p2, hh2, _, h2, k2⟩
  have HU := up_any w0 bh _ R2 w2 h2 0 (by rw [p2.length_eq]; exact HH.out.2.1) ⟨fun k k0 kn _ => hh2 k k0 (by rw [p2.length_eq, HH.out.1] at kn; exact kn), fun k k0 kn kp j0 => by omega⟩ (by rw [p2.length_eq]; exact HH.out.2.2)
  have H2 : Hid (R2.Perm R ∧ Heap zR ltR R2 ∧ Hp w0 bh (.slice q m c) R2 w2 ∧ KeptR w w2) := ⟨p2, fun k k0 kn => hh2 k k0 (by rw [p2.length_eq, HH.out.1] at kn; exact kn), h2, k2⟩
  rw [show ((0 : Nat) : Int) = 0 from rfl] at HU
  clear p2 hh2 h2 k2 HD hme
  cases b with
  | true =>
    go_wp2
    go_end0
    exact ⟨R2, rfl, by have h := H2.out; rw [← HH.out.1] at h; exact h⟩
  | false =>
    go_wp2_with fail
    refine HU.mono ?_
    rintro e w4 ⟨rfl, R', p4, hh4, h4, k4⟩
    have H4 : Hid (R'.Perm R ∧ Heap zR ltR R' ∧ Hp w0 bh (.slice q m c) R' w4 ∧ KeptR w w4) := ⟨p4.trans H2.out.1, hh4, h4, H2.out.2.2.2.trans k4⟩
    clear p4 hh4 h4 k4 HU
    go_wp2
    go_end0
    exact ⟨R', rfl, by have h := H4.out; rw [← HH.out.1] at h; exact h⟩
set_option maxHeartbeats 1000000 in
theorem heapPop_any (w0 : World) (bh : Nat) (hv : Value) (R : List RV) (w : World) (h : Hp w0 bh hv R w) (hh : Heap zR ltR R) (hp : 0 < R.length) (hlen : R.length ≤ 1000) :
    Calls Tryz.prog 155 #[.iface 277 (.pointer (some ⟨bh, 0, none⟩))] w fun e w' => ∃ v v' R', e = .returned v ∧ (R' ++ [R.getD 0 zR]).Perm R ∧ Heap zR ltR R' ∧ Hp w0 bh v' R' w' ∧ KeptR w w' := by
  obtain ⟨q, c, rfl, _, _⟩ := h.val
  have hme := meth_len q R.length c bh w (Lib.cell_of_heap h.ptr 0)
  have hms := meth_swap q R.length c bh w (Lib.cell_of_heap h.ptr 0)
  have HLN := hLen_any q R.length c w
  have HSW := hSwap_any w0 bh _ R w h 0 (R.length - 1) hp (by omega)
  have HDN := heap_swap hh hp
  obtain ⟨m, hm⟩ : ∃ m, R.length = m := ⟨_, rfl⟩
  obtain ⟨k, hk⟩ : ∃ k, R.length - 1 = k := ⟨_, rfl⟩
  have kI : IntKind.i64.wrap ((m : Int) - 1) = (k : Int) := by rw [IntKind.wrap_i64]; omega
  rw [hk] at HSW HDN
  rw [hm] at HSW hme hms HLN
  rw [show ((0 : Nat) : Int) = 0 from rfl] at HSW
  have HH : Hid (R.length = m ∧ R.length - 1 = k ∧ 0 < R.length ∧ R.length ≤ 1000 ∧ DownOk zR ltR (swp zR R 0 k) k 0) := ⟨hm, hk, hp, hlen, HDN⟩
  clear h hh hp hlen hm hk HDN
  go_enter Tryz.func155, Tryz.ntmps155
  go_wp2_with fail
  refine HLN.mono ?_
  rintro e w1 ⟨rfl, hw⟩
  have hw := hw.symm
  subst hw
  clear HLN
  go_wp2_with fail
  refine HSW.mono ?_
  rintro e w2 ⟨rfl, h2, k2⟩
  have hl2 : (swp zR R 0 k).length = R.length := swp_length zR R 0 k
  have HD := down_any w0 bh _ _ w2 h2 k (by rw [hl2]; have := HH.out; omega) HH.out.2.2.2.2 (by rw [hl2]; exact HH.out.2.2.2.1)
  have H2 : Hid (KeptR w w2) := k2
  clear HSW h2 k2 hme hms
  go_wp2_with fail
  refine HD.mono ?_
  rintro e w3 ⟨b, R3, rfl, p3, hh3, hf3, h3, k3⟩
  have hl3 : R3.length = R.length := by rw [p3.length_eq, hl2]
  have HPP := hPop_any w0 bh _ R3 w3 h3 (by rw [hl3]; exact HH.out.2.2.1) (by rw [hl3]; exact HH.out.2.2.2.1)
  have hmp := meth_pop ⟨bh, 0, none⟩ w3
  have e3 : R3.length - 1 = k := by rw [hl3]; exact HH.out.2.1
  rw [e3] at HPP
  have H3 : Hid (KeptR w w3 ∧ Heap zR ltR (R3.take k) ∧ (R3.take k ++ [R.getD 0 zR]).Perm R) := by
    have hkl : k < R3.length := by rw [hl3]; have := HH.out; omega
    have e0 : R3.getD k zR = R.getD 0 zR := by
      rw [hf3 k (Nat.le_refl _), swp_at zR HH.out.2.2.1 (by have := HH.out; omega), if_pos rfl]
    have et : R3.take k ++ [R.getD 0 zR] = R3 := by
      rw [← e0, List.getD_eq_getElem?_getD, List.getElem?_eq_getElem hkl]
      have := List.take_append_getElem hkl
      simp only [Option.getD_some] at this ⊢
      rw [this, List.take_of_length_le (by omega)]
    refine ⟨H2.out.trans k3, ?_, ?_⟩
    · intro i i0 hi
      rw [List.length_take] at hi
      have hik : i < k := by omega
      have g : ∀ j, j < k → (R3.take k).getD j zR = R3.getD j zR := fun j hj => by rw [List.getD_eq_getElem?_getD, List.getElem?_take_of_lt hj, List.getD_eq_getElem?_getD]
      rw [g i hik, g _ (by omega)]
      exact hh3 i i0 hik
    · rw [et]
      exact p3.trans (swp_perm zR HH.out.2.2.1 (by have := HH.out; omega))
  clear HD p3 hh3 hf3 h3 k3 hl2 hl3 e3
  go_wp2_with fail
  refine HPP.mono ?_
  rintro e w4 ⟨v4, rfl, h4, k4⟩
  have H4 : Hid (Hp w0 bh v4 (R3.take k) w4 ∧ KeptR w w4) := ⟨h4, H3.out.1.trans k4⟩
  clear HPP h4 k4 hmp
  go_wp2
  go_ret
  exact ⟨_, v4, R3.take k, rfl, H3.out.2.2, H3.out.2.1, H4.out⟩
end Go.Proofs.YtghcmllmbpoidaaGreatDoor.Mg
