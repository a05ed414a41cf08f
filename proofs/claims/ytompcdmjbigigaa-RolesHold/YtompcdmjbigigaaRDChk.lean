/-
  The document's Check.
-/
import Derived.Test.YtompcdmjbigigaaRPl
namespace Go.Proofs.Ytompcdmjbigigaa
open Go.RowKit Go.WideShapes Go.Joins Go.Maps

set_option maxHeartbeats 4000000 in
set_option maxRecDepth 8000 in
theorem dCheck_any (q : Option Addr) (c : Nat) (L : List Rl) (w : World) (h : RolesIn w q L c) :
    Calls Try.prog 18 #[.slice q L.length c] w fun e w' => e = .returned (.int .i64 (chkE L : Nat)) ∧ w' = w := by
  have HH : Hid (RolesIn w q L c) := h
  have hnI : (L.length : Int) ≤ 9223372036854775807 := by have := h.le; have := h.cap; unfold maxLen at this; omega
  obtain ⟨n, hN⟩ : ∃ n, L.length = n := ⟨_, rfl⟩
  rw [hN] at hnI ⊢
  have HN : Hid (L.length = n) := hN
  clear h hN
  go_enter Try.func18, Try.ntmps18
  by_cases h1 : 32 < n
  · have i1 : (32 : Int) < (n : Int) := by omega
    have HE : Hid (chkE L = 4) := chk_many (by have := HN.out; omega)
    clear h1
    go_wp2_with fail
    go_ret
    exact ⟨by rw [HE.out]; rfl, rfl⟩
  have i1 : ¬ (32 : Int) < (n : Int) := by omega
  have hnI : (n : Int) ≤ 32 := by omega
  have HF : Hid (¬ 32 < L.length) := by have := HN.out; show ¬ _; omega
  clear h1
  go_wp2_with fail
  go_loopw [3] (fun t wr => ∃ i : Nat, i ≤ n ∧ t = .int .i64 (i : Int) ∧ (∀ j, j < i → RowOk L j) ∧ wr = w) (fun t _ => n - (intOf t).toNat)
  case atStart => exact ⟨0, Nat.zero_le _, rfl, fun j hj => absurd hj (Nat.not_lt_zero _), rfl⟩
  case round =>
    obtain ⟨i, hi, rfl, hz, hw⟩ := hrel
    subst hw
    have HZ : Hid (∀ j, j < i → RowOk L j) := hz
    clear hz
    by_cases hlt : i < n
    · have hiI : (i : Int) < (n : Int) := by omega
      have hi0 : (0 : Int) ≤ (i : Int) := by omega
      have HK : Hid (i < n ∧ i < L.length) := ⟨hlt, by have := HN.out; omega⟩
      obtain ⟨fb, fo, rfl⟩ := HH.out.addr (by have := HK.out; omega)
      obtain ⟨hq, hc, mq, mc, hr⟩ := HH.out.at (i := i) HK.out.2
      obtain ⟨z0, z1, z2, hh, hm, hsz⟩ := hr
      have e0 : (L.getD i zR).name = nmA L i := rfl
      rw [e0] at z0 hsz
      have HHS : Hid (StrsIn wr hq (L.getD i zR).holds hc ∧ StrsIn wr mq (L.getD i zR).may mc) := ⟨hh, hm⟩
      have ND := Named_any (nmA L i) hsz wr
      have PL := place_any (some ⟨fb, fo, none⟩) c L (nmA L i) wr HH.out
      rw [HN.out] at PL
      have HB : Hid (¬ RowOk L i → chkE L = 200) := fun h => chk_role HF.out HK.out.2 h
      have hlI : ((L.getD i zR).holds.length : Int) ≤ 9223372036854775807 := by have := hh.le; have := hh.cap; unfold maxLen at this; omega
      have hmI : ((L.getD i zR).may.length : Int) ≤ 9223372036854775807 := by have := hm.le; have := hm.cap; unfold maxLen at this; omega
      obtain ⟨hl, hhl⟩ : ∃ hl, (L.getD i zR).holds.length = hl := ⟨_, rfl⟩
      obtain ⟨ml, hml⟩ : ∃ ml, (L.getD i zR).may.length = ml := ⟨_, rfl⟩
      rw [hhl] at z1 hlI
      rw [hml] at z2 hmI
      have HLN : Hid ((L.getD i zR).holds.length = hl ∧ (L.getD i zR).may.length = ml) := ⟨hhl, hml⟩
      have HPP : Hid (∀ z, PlP L (nmA L i) z → (z = (i : Int) ↔ ∀ j, j < i → nmA L j ≠ nmA L i)) := fun z h => h.self HK.out.2
      generalize hs : nmA L i = s at z0 ND PL
      have HSN : Hid (nmA L i = s) := hs
      clear hi hlt e0 hh hm hsz hhl hml hs
      cases hb0 : nmOk s with
      | false =>
        have HE : Hid (chkE L = 200) := HB.out fun h => by have := h.nm; rw [HSN.out, hb0] at this; cases this
        rw [hb0] at ND
        clear hb0 PL
        go_wp2_with fail
        refine ND.mono ?_
        rintro e w1 ⟨rfl, rfl⟩
        simp only []
        go_wp2_with fail
        go_ret
        exact ⟨by rw [HE.out]; rfl, rfl⟩
      | true =>
        rw [hb0] at ND
        have HNM : Hid (nmOk s = true) := hb0
        clear hb0
        go_wp2_with fail
        refine ND.mono ?_
        rintro e w1 ⟨rfl, hw⟩
        subst hw
        simp only []
        clear ND
        go_wp2_with fail
        refine PL.mono ?_
        rintro e w2 ⟨z, rfl, hp, hw⟩
        subst hw
        simp only []
        have HP := HPP.out z (HSN.out ▸ hp)
        clear PL hp
        by_cases hzi : z = (i : Int)
        · have HFI : Hid (∀ j, j < i → nmA L j ≠ nmA L i) := HP.1 hzi
          subst hzi
          have ei : ((i : Int) != (i : Int)) = false := by simp
          clear HP
          by_cases hl32 : 32 < hl
          · have lI : (32 : Int) < (hl : Int) := by omega
            have HE : Hid (chkE L = 200) := HB.out fun h => by have := h.hl; have := HLN.out; omega
            clear hl32
            go_wp2_with fail
            go_ret
            exact ⟨by rw [HE.out]; rfl, rfl⟩
          have lI : ¬ (32 : Int) < (hl : Int) := by omega
          by_cases hm1 : 1024 < ml
          · have mI : (1024 : Int) < (ml : Int) := by omega
            have HE : Hid (chkE L = 200) := HB.out fun h => by have := h.ml; have := HLN.out; omega
            clear hl32 hm1
            go_wp2_with fail
            go_ret
            exact ⟨by rw [HE.out]; rfl, rfl⟩
          have mI : ¬ (1024 : Int) < (ml : Int) := by omega
          have HLM : Hid (hl ≤ 32 ∧ ml ≤ 1024) := ⟨by omega, by omega⟩
          clear hl32 hm1
          go_wp2_with fail
          have HZ1 : Hid (w2.cell? ⟨fb, fo + i * 3 + 1, none⟩ = some (.slice hq hl hc) ∧ w2.cell? ⟨fb, fo + i * 3 + 2, none⟩ = some (.slice mq ml mc)) := ⟨z1, z2⟩
          clear z0 z2
          go_loopw [4] (fun t wr => ∃ k : Nat, k ≤ hl ∧ t = .int .i64 (k : Int) ∧ (∀ j, j < k → (L.getD i zR).holds.getD j ByteArray.empty ∈ nmL L) ∧ wr = w2) (fun t _ => hl - (intOf t).toNat)
          case atStart => exact ⟨0, Nat.zero_le _, rfl, fun j hj => absurd hj (Nat.not_lt_zero _), rfl⟩
          case round =>
            obtain ⟨k, hk, rfl, hz, rfl⟩ := hrel
            have HZK : Hid (∀ j, j < k → (L.getD i zR).holds.getD j ByteArray.empty ∈ nmL L) := hz
            clear hz
            by_cases hlt : k < hl
            · have hkI : (k : Int) < (hl : Int) := by omega
              have hk0 : (0 : Int) ≤ (k : Int) := by omega
              have HKK : Hid (k < hl ∧ k < (L.getD i zR).holds.length) := ⟨hlt, by have := HLN.out; omega⟩
              obtain ⟨gb, go, rfl⟩ := HHS.out.1.addr (by have := HKK.out; omega)
              have y0 := HHS.out.1.at (i := k) HKK.out.2
              have PL := place_any (some ⟨fb, fo, none⟩) c L ((L.getD i zR).holds.getD k ByteArray.empty) wr HH.out
              rw [HN.out] at PL
              generalize hx : (L.getD i zR).holds.getD k ByteArray.empty = x at y0 PL
              have HX : Hid ((L.getD i zR).holds.getD k ByteArray.empty = x) := hx
              clear hk hlt hx
              go_wp2_with fail
              refine PL.mono ?_
              rintro e w3 ⟨z, rfl, hp, hw⟩
              subst hw
              simp only []
              have HP : Hid (0 ≤ z ↔ x ∈ nmL L) := hp.pos
              clear PL hp
              by_cases hz0 : z < 0
              · have HE : Hid (chkE L = 200) := HB.out fun h => by
                  have h2 := h.held _ (getB_mem HKK.out.2)
                  rw [HX.out] at h2
                  have := HP.out.2 h2
                  omega
                go_wp2_with fail
                go_ret
                exact ⟨by rw [HE.out]; rfl, rfl⟩
              · have HI : Hid (x ∈ nmL L) := HP.out.1 (by omega)
                go_wp2_with fail
                go_roundw
                case rel =>
                  refine ⟨k + 1, HKK.out.1, by go_num, fun j hj => ?_, trivial⟩
                  rcases Nat.lt_or_ge j k with h1 | h1
                  · exact HZK.out j h1
                  · obtain rfl : j = k := by omega
                    rw [HX.out]; exact HI.out
                case measure => have := HKK.out; simp [intOf]; omega
            · obtain rfl : k = hl := by omega
              have HHD : Hid (∀ h ∈ (L.getD i zR).holds, h ∈ nmL L) := fun h hm => by
                obtain ⟨j, hj, rfl⟩ := List.getElem_of_mem hm
                have := HZK.out j (by have := HLN.out; omega)
                rwa [List.getD_eq_getElem?_getD, List.getElem?_eq_getElem hj] at this
              have z2 := HZ1.out.2
              clear hk hlt
              go_wp2_with fail
              go_loopw [5] (fun t wr' => ∃ k : Nat, k ≤ ml ∧ t = .int .i64 (k : Int) ∧ (∀ j, j < k → nmOk ((L.getD i zR).may.getD j ByteArray.empty) = true) ∧ wr' = wr) (fun t _ => ml - (intOf t).toNat)
              case atStart => exact ⟨0, Nat.zero_le _, rfl, fun j hj => absurd hj (Nat.not_lt_zero _), rfl⟩
              case round =>
                obtain ⟨k2, hk, rfl, hz, rfl⟩ := hrel
                have HZM : Hid (∀ j, j < k2 → nmOk ((L.getD i zR).may.getD j ByteArray.empty) = true) := hz
                clear hz
                by_cases hlt : k2 < ml
                · have hkI : (k2 : Int) < (ml : Int) := by omega
                  have hk0 : (0 : Int) ≤ (k2 : Int) := by omega
                  have HKK : Hid (k2 < ml ∧ k2 < (L.getD i zR).may.length) := ⟨hlt, by have := HLN.out; omega⟩
                  obtain ⟨gb, go, rfl⟩ := HHS.out.2.addr (by have := HKK.out; omega)
                  have y0 := HHS.out.2.at (i := k2) HKK.out.2
                  have ND := Named_any ((L.getD i zR).may.getD k2 ByteArray.empty) (HHS.out.2.fits _ (getB_mem HKK.out.2)) wr
                  generalize hx : (L.getD i zR).may.getD k2 ByteArray.empty = x at y0 ND
                  have HX : Hid ((L.getD i zR).may.getD k2 ByteArray.empty = x) := hx
                  clear hk hlt hx
                  cases hb : nmOk x with
                  | false =>
                    have HE : Hid (chkE L = 200) := HB.out fun h => by
                      have h2 := h.mays _ (getB_mem HKK.out.2)
                      rw [HX.out, hb] at h2
                      cases h2
                    rw [hb] at ND
                    clear hb
                    go_wp2_with fail
                    refine ND.mono ?_
                    rintro e w3 ⟨rfl, hw⟩
                    subst hw
                    simp only []
                    go_wp2_with fail
                    go_ret
                    exact ⟨by rw [HE.out]; rfl, rfl⟩
                  | true =>
                    have HNX : Hid (nmOk x = true) := hb
                    rw [hb] at ND
                    clear hb
                    go_wp2_with fail
                    refine ND.mono ?_
                    rintro e w3 ⟨rfl, hw⟩
                    subst hw
                    simp only []
                    go_wp2_with fail
                    go_roundw
                    case rel =>
                      refine ⟨k2 + 1, HKK.out.1, by go_num, fun j hj => ?_, trivial⟩
                      rcases Nat.lt_or_ge j k2 with h1 | h1
                      · exact HZM.out j h1
                      · obtain rfl : j = k2 := by omega
                        rw [HX.out]; exact HNX.out
                    case measure => have := HKK.out; simp [intOf]; omega
                · obtain rfl : k2 = ml := by omega
                  have HMD : Hid (∀ m ∈ (L.getD i zR).may, nmOk m = true) := fun h hm => by
                    obtain ⟨j, hj, rfl⟩ := List.getElem_of_mem hm
                    have := HZM.out j (by have := HLN.out; omega)
                    rwa [List.getD_eq_getElem?_getD, List.getElem?_eq_getElem hj] at this
                  have HRO : Hid (RowOk L i) := ⟨by rw [HSN.out]; exact HNM.out, HFI.out, by have := HLM.out; have := HLN.out; omega, by have := HLM.out; have := HLN.out; omega, HHD.out, HMD.out⟩
                  clear hk hlt
                  go_wp2_with fail
                  go_roundw
                  case rel =>
                    refine ⟨i + 1, HK.out.1, by go_num, fun j hj => ?_, trivial⟩
                    rcases Nat.lt_or_ge j i with h1 | h1
                    · exact HZ.out j h1
                    · obtain rfl : j = i := by omega
                      exact HRO.out
                  case measure => have := HK.out; simp [intOf]; omega
        · have HE : Hid (chkE L = 200) := HB.out fun h => hzi (HP.2 h.first)
          have ei : (z != (i : Int)) = true := by simp only [bne]; rw [show (z == (i : Int)) = false by simpa using hzi]; rfl
          clear HP
          go_wp2_with fail
          go_ret
          exact ⟨by rw [HE.out]; rfl, rfl⟩
    · obtain rfl : i = n := by omega
      have HE : Hid (chkE L = 0) := chk_ok HF.out fun j hj => HZ.out j (by have := HN.out; omega)
      clear hi hlt
      go_wp2_with fail
      go_ret
      exact ⟨by rw [HE.out]; rfl, rfl⟩
end Go.Proofs.Ytompcdmjbigigaa
