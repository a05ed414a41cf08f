/-
  The document's Closed.
-/
import Derived.Test.YtompcdmjbigigaaRDMay
namespace Go.Proofs.Ytompcdmjbigigaa
open Go.RowKit Go.WideShapes Go.Joins Go.Maps

theorem nm_ne {L : List Rl} (hf : Fit L) {i : Nat} (hi : i < L.length) : nmA L i ≠ ByteArray.empty := by
  intro e
  have := hf.nms _ (rl_mem hi)
  rw [show (L.getD i zR).name = nmA L i from rfl, e] at this
  revert this
  decide
theorem Least.take {L : List Rl} {ns out : List ByteArray} {i : Nat} {s : ByteArray} (h : Least L ns out i s) (hi : i < L.length) (hc : Comes L ns (nmA L i)) (hp : isPast out (nmA L i)) (hs : s = ByteArray.empty ∨ ltA (nmA L i) s) (hf : Fit L) : Least L ns out (i + 1) (nmA L i) := by
  refine .one i (by omega) hi hc hp fun j hj hjl hcj hpj hlt => ?_
  rcases Nat.lt_or_ge j i with h1 | h1
  · cases h with
    | none h2 => exact h2 j h1 hjl hcj hpj
    | one m hm hml hcm hpm h2 =>
      rcases hs with hs | hs
      · exact nm_ne hf hml hs
      · exact h2 j h1 hjl hcj hpj (ltA_trans hlt hs)
  · obtain rfl : j = i := by omega
    exact ltA_irrefl _ hlt
theorem Least.pass {L : List Rl} {ns out : List ByteArray} {i : Nat} {s : ByteArray} (h : Least L ns out i s) (hn : ¬ (Comes L ns (nmA L i) ∧ isPast out (nmA L i) ∧ (s = ByteArray.empty ∨ ltA (nmA L i) s))) : Least L ns out (i + 1) s := by
  cases h with
  | none h2 =>
    refine .none fun j hj hjl hcj hpj => ?_
    rcases Nat.lt_or_ge j i with h1 | h1
    · exact h2 j h1 hjl hcj hpj
    · obtain rfl : j = i := by omega
      exact hn ⟨hcj, hpj, .inl rfl⟩
  | one m hm hml hcm hpm h2 =>
    refine .one m (by omega) hml hcm hpm fun j hj hjl hcj hpj hlt => ?_
    rcases Nat.lt_or_ge j i with h1 | h1
    · exact h2 j h1 hjl hcj hpj hlt
    · obtain rfl : j = i := by omega
      exact hn ⟨hcj, hpj, .inr hlt⟩
theorem Least.stop {L : List Rl} {ns out : List ByteArray} (hf : Fit L) (ho : Outs L ns out) (h : Least L ns out L.length ByteArray.empty) : IsCl L ns out := by
  refine ho.stop ?_
  generalize hs : ByteArray.empty = s at h
  cases h with
  | none h2 => exact fun j hj => h2 j hj hj
  | one m _ hml => exact absurd hs.symm (nm_ne hf hml)
theorem Least.more {L : List Rl} {ns out : List ByteArray} {s : ByteArray} (ho : Outs L ns out) (h : Least L ns out L.length s) (hs : s ≠ ByteArray.empty) : Outs L ns (out ++ [s]) := by
  cases h with
  | none _ => exact absurd rfl hs
  | one m _ hml hcm hpm h2 => exact ho.more hcm hpm fun j hj => h2 j hj hj
theorem Outs.less {L : List Rl} {ns out : List ByteArray} {s : ByteArray} (h : Outs L ns (out ++ [s])) : out.length < L.length := by
  have := h.few
  simp at this
  omega
theorem emp_eq (s : ByteArray) : s.toList.isEmpty = decide (s = ByteArray.empty) := by
  have h := str_eq s ByteArray.empty
  rw [show ByteArray.empty.toList = [] by rw [ByteArray.toList_eq]; rfl] at h
  rw [← h]
  cases s.toList <;> rfl
set_option maxHeartbeats 4000000 in
set_option maxRecDepth 8000 in
theorem dClosed_any (q : Option Addr) (c : Nat) (L : List Rl) (q2 : Option Addr) (c2 : Nat) (ns : List ByteArray) (w : World) (h : RolesIn w q L c) (hn : StrsIn w q2 ns c2) :
    Calls Try.prog 16 #[.slice q L.length c, .slice q2 ns.length c2] w fun e w' => ∃ v out, e = .returned (.tuple #[v, .int .i64 (clE L ns : Nat)]) ∧ OwnS w' w.heap.size v out ∧ ClA L ns out ∧ Below w.heap.size w w' := by
  have AK := asked_any q c L q2 c2 ns w h hn
  have HH : Hid (RolesIn w q L c) := h
  have hnI : (L.length : Int) ≤ 9223372036854775807 := by have := h.le; have := h.cap; unfold maxLen at this; omega
  clear h hn
  obtain ⟨n, hN⟩ : ∃ n, L.length = n := ⟨_, rfl⟩
  have HN : Hid (L.length = n) := hN
  rw [hN] at AK hnI ⊢
  generalize ns.length = m at AK ⊢
  clear hN
  generalize hE : clE L ns = E at AK
  have HEE : Hid (clE L ns = E) := hE
  go_enter Try.func16, Try.ntmps16
  go_wp2_with fail
  refine AK.mono ?_
  rintro e w1 ⟨v, rfl, hP, hb1⟩
  simp only []
  have HB1 : Hid (Below w.heap.size w w1) := hb1
  clear AK hb1
  cases hP with
  | bad h0 =>
    have hEI : ((E : Int) == 0) = false := by
      rw [hE] at h0; simpa using fun e : (E : Int) = 0 => h0 (by omega)
    have H0 : Hid (clE L ns ≠ 0) := h0
    clear hE h0
    go_wp2_with fail
    go_ret2
    exact ⟨_, [], rfl, OwnS.nil _ _, ⟨fun _ => rfl, fun e => absurd e H0.out⟩, HB1.out⟩
  | ok mb M h0 hl hM hC =>
    obtain rfl : E = 0 := hE.symm.trans h0
    have z00 : ((0 : Nat) : Int) = 0 := rfl
    rw [z00]
    have H0 : Hid (clE L ns = 0 ∧ M.length = n ∧ MarkAt w1 mb M ∧ (∀ j, j < L.length → (mkd M j = true ↔ Comes L ns (nmA L j))) ∧ Fit L) := ⟨h0, hl, hM, hC, fit_of (clE_zero h0).1⟩
    have nI2 : (n : Int) ≤ 32 := by have := H0.out.2.2.2.2.few; have := HN.out; omega
    clear hE h0 hl hM hC z00
    go_wp2_with fail
    obtain ⟨i0, hi, hz0, hz1, hz2⟩ := info_parts info_str
    have HI0 : Hid (Try.prog.info? 9 = some i0 ∧ i0.zero = some (.string ⟨#[]⟩) ∧ i0.size = 1 ∧ i0.bytes = 16) := ⟨hi, hz0, hz1, hz2⟩
    clear hi hz0 hz1 hz2
    go_loopg [8] (n + 1) (fun gk t wr => ∃ (q3 : Option Addr) (k c3 : Nat) (out : List ByteArray), t = .slice q3 k c3 ∧ out.length = k ∧ OwnS wr w1.heap.size (.slice q3 k c3) out ∧ Outs L ns out ∧ Below w1.heap.size w1 wr ∧ k + gk = n + 1)
    case atStart => exact ⟨none, 0, 0, [], rfl, rfl, OwnS.nil _ _, Outs.nil _ _, Below.refl _ _, by omega⟩
    case round =>
      obtain ⟨q3, k, c3, out, rfl, hk, ho, hO, hb, hg⟩ := hrel
      generalize wr = wo at ho hb ⊢
      have HR : Hid (OwnS wo w1.heap.size (.slice q3 k c3) out ∧ Outs L ns out ∧ Below w1.heap.size w1 wo ∧ k + gk = n + 1 ∧ out.length = k ∧ k ≤ n) := ⟨ho, hO, hb, hg, hk, by have := hO.few; have := HN.out; omega⟩
      have kI : (k : Int) ≤ 32 := by have := HR.out.2.2.2.2.2; omega
      obtain ⟨q4, c4, e4, hst, hsh⟩ := ho.read
      rw [hk] at e4
      simp only [Value.slice.injEq, true_and] at e4
      obtain ⟨rfl, rfl⟩ := e4
      have HST : Hid (StrsIn wo q3 out c3 ∧ (q3 = none ∨ ∃ g, q3 = some ⟨g, 0, none⟩)) := ⟨hst, by rcases hsh with h1 | ⟨g, h1, _⟩; exact .inl h1; exact .inr ⟨g, h1⟩⟩
      clear hk ho hO hb hg hst hsh
      go_wp2_with fail
      go_loopw [9, 10] (fun nx t wr => ∃ (i : Nat) (s : ByteArray), i ≤ n ∧ t = .int .i64 (i : Int) ∧ nx = .string s ∧ Least L ns out i s ∧ s.size ≤ maxLen ∧ Below wo.heap.size wo wr) (fun _ t _ => n - (intOf t).toNat)
      case atStart => exact ⟨0, ByteArray.empty, Nat.zero_le _, rfl, rfl, .none fun j hj => absurd hj (Nat.not_lt_zero _), by decide, Below.refl _ _⟩
      case round =>
        obtain ⟨i, s, hi, rfl, rfl, hL, hss, hb⟩ := hrel
        have HI : Hid (Least L ns out i s ∧ s.size ≤ maxLen ∧ Below wo.heap.size wo wr ∧ Below w1.heap.size w1 wr) := ⟨hL, hss, hb, HR.out.2.2.1.trans (hb.mono HR.out.2.2.1.size)⟩
        clear hL hss hb
        by_cases hlt : i < n
        · have iI : (i : Int) < (n : Int) := by omega
          have i0 : (0 : Int) ≤ (i : Int) := by omega
          have HK : Hid (i < n ∧ i < L.length ∧ i < M.length) := ⟨hlt, by have := HN.out; omega, by have := H0.out.2.1; omega⟩
          have hen := HH.out.below (below_more HB1.out HI.out.2.2.2)
          obtain ⟨fb, fo, rfl⟩ := hen.addr (by have := HK.out; omega)
          obtain ⟨hq, hc, mq, mc, hr⟩ := hen.at (i := i) HK.out.2.1
          have z0 := hr.c0
          have hzs := hr.nm
          rw [show (L.getD i zR).name = nmA L i from rfl] at z0 hzs
          have c0 := (H0.out.2.2.1.below HI.out.2.2.2).cell HK.out.2.2
          have HCM : Hid (mkd M i = true ↔ Comes L ns (nmA L i)) := H0.out.2.2.2.1 i HK.out.2.1
          have HSZ : Hid ((nmA L i).size ≤ maxLen) := hzs
          have HT : Hid (Comes L ns (nmA L i) → isPast out (nmA L i) → s = ByteArray.empty ∨ ltA (nmA L i) s → Least L ns out (i + 1) (nmA L i)) := fun h1 h2 h3 => HI.out.1.take HK.out.2.1 h1 h2 h3 H0.out.2.2.2.2
          have HPS : Hid (¬ (Comes L ns (nmA L i) ∧ isPast out (nmA L i) ∧ (s = ByteArray.empty ∨ ltA (nmA L i) s)) → Least L ns out (i + 1) s) := fun h => HI.out.1.pass h
          generalize nmA L i = x at z0 HCM HT HPS HSZ
          clear hi hlt hen hr hzs
          cases hmi : mkd M i with
          | false =>
            have HMI : Hid (¬ Comes L ns x) := fun h => by rw [HCM.out.2 h] at hmi; cases hmi
            rw [hmi] at c0
            clear hmi
            go_wp2_with fail
            go_big_quiet (fail)
            go_wp2_with fail
            go_roundw
            case rel => exact ⟨i + 1, s, HK.out.1, by go_num, rfl, HPS.out (fun h => HMI.out h.1), HI.out.2.1, below_dN HI.out.2.2.1 _⟩
            case measure => have := HK.out; simp [intOf]; omega
          | true =>
            have HMI : Hid (Comes L ns x) := HCM.out.1 hmi
            rw [hmi] at c0
            clear hmi
            by_cases hs : s = ByteArray.empty
            · have HS1 : Hid (s = ByteArray.empty) := hs
              have q1 : s.toList.isEmpty = true := by rw [emp_eq]; exact decide_eq_true hs
              clear hs
              by_cases hk0 : k = 0
              · have HO : Hid (out = []) := List.length_eq_zero_iff.1 (by have := HR.out.2.2.2.2.1; omega)
                have kz : (k : Int) = 0 := by omega
                have kz2 : ((k : Int) == 0) = true := by rw [kz]; rfl
                subst hk0
                clear kz kz2
                go_wp2_with fail
                go_big_quiet (fail)
                go_wp2_with fail
                go_roundw
                case rel => exact ⟨i + 1, x, HK.out.1, by go_num, rfl, HT.out HMI.out (by rw [HO.out]; exact past_nil _) (.inl HS1.out), HSZ.out, below_dN HI.out.2.2.1 _⟩
                case measure => have := HK.out; simp [intOf]; omega
              · have HO : Hid (0 < out.length ∧ k - 1 < out.length) := by have := HR.out.2.2.2.2.1; show _ ∧ _; omega
                have kz : ¬ (k : Int) = 0 := by omega
                have kz2 : ((k : Int) == 0) = false := by simpa using kz
                obtain ⟨g, rfl⟩ : ∃ g, q3 = some ⟨g, 0, none⟩ := by
                  rcases HST.out.2 with h1 | h1
                  · have := HST.out.1
                    rw [h1] at this
                    have h2 := HO.out.1
                    rw [(strs_none this).2] at h2
                    exact absurd h2 (by simp)
                  · exact h1
                obtain ⟨k1, rfl⟩ : ∃ k1, k = k1 + 1 := ⟨k - 1, by omega⟩
                have y0 := (HST.out.1.below HI.out.2.2.1).at (i := k1) (by have := HO.out.2; omega)
                rw [Nat.zero_add] at y0
                have hpl := past_last HR.out.2.1.rise HO.out.1 x
                rw [HR.out.2.2.2.2.1, Nat.add_sub_cancel] at hpl
                have g1 := str_gtr x (out.getD k1 ByteArray.empty)
                have k1I : (k1 : Int) ≤ 31 := by omega
                have k10 : (0 : Int) ≤ (k1 : Int) := by omega
                have k11 : (k1 : Int) < (k1 : Int) + 1 := by omega
                have k12 : ¬ (k1 : Int) + 1 = 0 := by omega
                have k13 : ((k1 : Int) + 1 == 0) = false := by simpa using k12
                by_cases hgt : ltA (out.getD k1 ByteArray.empty) x
                · have HG : Hid (isPast out x) := hpl.2 hgt
                  rw [decide_eq_true hgt] at g1
                  generalize out.getD k1 ByteArray.empty = y at y0 g1
                  clear hgt hpl hk0 kz kz2
                  go_wp2_with fail
                  go_big_quiet (fail)
                  go_wp2_with fail
                  go_roundw
                  case rel => exact ⟨i + 1, x, HK.out.1, by go_num, rfl, HT.out HMI.out HG.out (.inl HS1.out), HSZ.out, below_dN HI.out.2.2.1 _⟩
                  case measure => have := HK.out; simp [intOf]; omega
                · have HG : Hid (¬ isPast out x) := fun h => hgt (hpl.1 h)
                  rw [decide_eq_false hgt] at g1
                  generalize out.getD k1 ByteArray.empty = y at y0 g1
                  clear hgt hpl hk0 kz kz2
                  go_wp2_with fail
                  go_big_quiet (fail)
                  go_wp2_with fail
                  go_roundw
                  case rel => exact ⟨i + 1, s, HK.out.1, by go_num, rfl, HPS.out (fun h => HG.out h.2.1), HI.out.2.1, below_dN HI.out.2.2.1 _⟩
                  case measure => have := HK.out; simp [intOf]; omega
            · have HSE : Hid (s ≠ ByteArray.empty) := hs
              have q1 : s.toList.isEmpty = false := by rw [emp_eq]; exact decide_eq_false hs
              have q2 := str_less x s
              clear hs
              by_cases hl : ltA x s
              · have HS1 : Hid (ltA x s) := hl
                rw [decide_eq_true hl] at q2
                clear hl
                by_cases hk0 : k = 0
                · have HO : Hid (out = []) := List.length_eq_zero_iff.1 (by have := HR.out.2.2.2.2.1; omega)
                  have kz : (k : Int) = 0 := by omega
                  have kz2 : ((k : Int) == 0) = true := by rw [kz]; rfl
                  subst hk0
                  clear kz kz2
                  go_wp2_with fail
                  go_big_quiet (fail)
                  go_wp2_with fail
                  go_roundw
                  case rel => exact ⟨i + 1, x, HK.out.1, by go_num, rfl, HT.out HMI.out (by rw [HO.out]; exact past_nil _) (.inr HS1.out), HSZ.out, below_dN HI.out.2.2.1 _⟩
                  case measure => have := HK.out; simp [intOf]; omega
                · have HO : Hid (0 < out.length ∧ k - 1 < out.length) := by have := HR.out.2.2.2.2.1; show _ ∧ _; omega
                  have kz : ¬ (k : Int) = 0 := by omega
                  have kz2 : ((k : Int) == 0) = false := by simpa using kz
                  obtain ⟨g, rfl⟩ : ∃ g, q3 = some ⟨g, 0, none⟩ := by
                    rcases HST.out.2 with h1 | h1
                    · have := HST.out.1
                      rw [h1] at this
                      have h2 := HO.out.1
                      rw [(strs_none this).2] at h2
                      exact absurd h2 (by simp)
                    · exact h1
                  obtain ⟨k1, rfl⟩ : ∃ k1, k = k1 + 1 := ⟨k - 1, by omega⟩
                  have y0 := (HST.out.1.below HI.out.2.2.1).at (i := k1) (by have := HO.out.2; omega)
                  rw [Nat.zero_add] at y0
                  have hpl := past_last HR.out.2.1.rise HO.out.1 x
                  rw [HR.out.2.2.2.2.1, Nat.add_sub_cancel] at hpl
                  have g1 := str_gtr x (out.getD k1 ByteArray.empty)
                  have k1I : (k1 : Int) ≤ 31 := by omega
                  have k10 : (0 : Int) ≤ (k1 : Int) := by omega
                  have k11 : (k1 : Int) < (k1 : Int) + 1 := by omega
                  have k12 : ¬ (k1 : Int) + 1 = 0 := by omega
                  have k13 : ((k1 : Int) + 1 == 0) = false := by simpa using k12
                  by_cases hgt : ltA (out.getD k1 ByteArray.empty) x
                  · have HG : Hid (isPast out x) := hpl.2 hgt
                    rw [decide_eq_true hgt] at g1
                    generalize out.getD k1 ByteArray.empty = y at y0 g1
                    clear hgt hpl hk0 kz kz2
                    go_wp2_with fail
                    go_big_quiet (fail)
                    go_wp2_with fail
                    go_roundw
                    case rel => exact ⟨i + 1, x, HK.out.1, by go_num, rfl, HT.out HMI.out HG.out (.inr HS1.out), HSZ.out, below_dN HI.out.2.2.1 _⟩
                    case measure => have := HK.out; simp [intOf]; omega
                  · have HG : Hid (¬ isPast out x) := fun h => hgt (hpl.1 h)
                    rw [decide_eq_false hgt] at g1
                    generalize out.getD k1 ByteArray.empty = y at y0 g1
                    clear hgt hpl hk0 kz kz2
                    go_wp2_with fail
                    go_big_quiet (fail)
                    go_wp2_with fail
                    go_roundw
                    case rel => exact ⟨i + 1, s, HK.out.1, by go_num, rfl, HPS.out (fun h => HG.out h.2.1), HI.out.2.1, below_dN HI.out.2.2.1 _⟩
                    case measure => have := HK.out; simp [intOf]; omega
              · have HS1 : Hid (¬ ltA x s) := hl
                rw [decide_eq_false hl] at q2
                clear hl
                go_wp2_with fail
                go_big_quiet (fail)
                go_wp2_with fail
                go_roundw
                case rel => exact ⟨i + 1, s, HK.out.1, by go_num, rfl, HPS.out (fun h => h.2.2.elim HSE.out HS1.out), HI.out.2.1, below_dN HI.out.2.2.1 _⟩
                case measure => have := HK.out; simp [intOf]; omega
        · obtain rfl : i = n := by omega
          clear hi hlt
          by_cases hs : s = ByteArray.empty
          · have HC : Hid (IsCl L ns out) := by
              have h1 := HI.out.1
              rw [hs, ← HN.out] at h1
              exact h1.stop H0.out.2.2.2.2 HR.out.2.1
            have q1 : s.toList.isEmpty = true := by rw [emp_eq]; exact decide_eq_true hs
            clear hs
            go_wp2_with fail
            go_ret2
            exact ⟨_, out, rfl, (HR.out.1.below HI.out.2.2.1).more HB1.out.size, ⟨fun e => absurd H0.out.1 e, fun _ => HC.out⟩, below_more HB1.out HI.out.2.2.2⟩
          · have HC : Hid (Outs L ns (out ++ [s])) := by
              have h1 := HI.out.1
              rw [← HN.out] at h1
              exact h1.more HR.out.2.1 hs
            have q1 : s.toList.isEmpty = false := by rw [emp_eq]; exact decide_eq_false hs
            have HO9 : Hid (wr.ownsRow w1.heap.size 9 1 (.slice q3 k c3) k (out.map Value.string)) := by
              have := (HR.out.1.below HI.out.2.2.1).row
              rw [HR.out.2.2.2.2.1] at this
              exact this
            clear hs
            go_wp2_with (first
              | (at_builtin; refine wpList_append_own _ rfl _ _ 27 rfl w1.heap.size 9 i0 (.string ⟨#[]⟩) 1 16 Try.underlying27 HI0.out.1 HI0.out.2.1 HI0.out.2.2.1 HI0.out.2.2.2 rfl (by decide) _ k _ rfl (HO9.out.alloc _) ⟨wr.heap.size, 0, none⟩ 1 1 [.string s] rfl rfl (cell_one_new _ _ _) (by simp [Value.oneCell']) (by have := HR.out.2.2.2.2.2; unfold maxLen; omega) (by have := HR.out.2.2.2.2.2; omega) (by have := HI.out.2.2.2.size; simp; omega) ?_; intro v' w5 hown' hgrow _; obtain ⟨q5, c5, rfl⟩ := ownsRow_slice hown')
              | fail)
            have HN5 : Hid (OwnS w5 w1.heap.size (.slice q5 (k + 1) c5) (out ++ [s]) ∧ Below w1.heap.size w1 w5) := ⟨⟨by rw [List.length_append, HR.out.2.2.2.2.1, List.map_append]; exact hown', fun y hy => by
                rcases List.mem_append.1 hy with h1 | h1
                · exact HR.out.1.fits y h1
                · rw [List.mem_singleton.1 h1]; exact HI.out.2.1⟩, (HI.out.2.2.2.trans ((below_new wr _).mono HI.out.2.2.2.size)).grown hgrow (by have := HI.out.2.2.2.size; simp; omega) (fun j ej => (HO9.out.lt j ej).1)⟩
            have HGK : Hid (0 < gk ∧ k < i) := by have h1 := HC.out.less; have h2 := HR.out.2.2.2; have := HN.out; show _ ∧ _; omega
            clear hown' hgrow
            go_wp2_with fail
            go_roundg (gk - 1)
            case measure => have := HGK.out; omega
            case rel => exact ⟨q5, k + 1, c5, out ++ [s], rfl, by rw [List.length_append, HR.out.2.2.2.2.1]; rfl, HN5.out.1, HC.out, HN5.out.2, by have := HGK.out; have := HR.out.2.2.2.1; omega⟩
end Go.Proofs.Ytompcdmjbigigaa
