/-
  slices.Contains of texts; May (the program's).
-/
import Derived.Test.YtompcdmjbigigaaRClosed
namespace Go.Proofs.Ytompcdmjbigigaa
open Go.RowKit Go.WideShapes Go.Joins Go.Maps

theorem isIn_yes {l : List ByteArray} {s : ByteArray} {i : Nat} (hi : i < l.length) (h : l.getD i ByteArray.empty = s) : isIn l s = true := isIn_iff.2 (h ▸ getB_mem hi)
theorem isIn_no {l : List ByteArray} {s : ByteArray} (h : ∀ i, i < l.length → l.getD i ByteArray.empty ≠ s) : isIn l s = false := by
  refine isIn_not.2 fun hm => ?_
  obtain ⟨i, hi, rfl⟩ := List.getElem_of_mem hm
  exact h i hi (by rw [List.getD_eq_getElem?_getD, List.getElem?_eq_getElem hi]; rfl)
set_option maxHeartbeats 2000000 in
set_option maxRecDepth 8000 in
theorem indexS_any (q : Option Addr) (c : Nat) (l : List ByteArray) (s : ByteArray) (w : World) (h : StrsIn w q l c) :
    Calls Try.prog 36 #[.slice q l.length c, .string s] w fun e w' => ∃ z : Int, e = .returned (.int .i64 z) ∧ (decide (0 ≤ z) = isIn l s) ∧ w' = w := by
  have HH : Hid (StrsIn w q l c) := h
  have hnI : (l.length : Int) ≤ 9223372036854775807 := by have := h.le; have := h.cap; unfold maxLen at this; omega
  obtain ⟨n, hN⟩ : ∃ n, l.length = n := ⟨_, rfl⟩
  rw [hN] at hnI ⊢
  have HN : Hid (l.length = n) := hN
  clear h hN
  go_enter Try.func36, Try.ntmps36
  go_wp2_with fail
  go_loopw [8] (fun t wr => ∃ k : Nat, k ≤ n ∧ t = .int .i64 (k : Int) ∧ (∀ j, j < k → l.getD j ByteArray.empty ≠ s) ∧ wr = w) (fun t _ => n - (intOf t).toNat)
  case atStart => exact ⟨0, Nat.zero_le _, rfl, fun j hj => absurd hj (Nat.not_lt_zero _), rfl⟩
  case round =>
    obtain ⟨k, hk, rfl, hz, rfl⟩ := hrel
    have HZ : Hid (∀ j, j < k → l.getD j ByteArray.empty ≠ s) := hz
    clear hz
    by_cases hlt : k < n
    · have hkI : (k : Int) < (n : Int) := by omega
      have hk0 : (0 : Int) ≤ (k : Int) := by omega
      have HK : Hid (k < n ∧ k < l.length) := ⟨hlt, by have := HN.out; omega⟩
      obtain ⟨fb, fo, rfl⟩ := HH.out.addr (by have := HK.out; omega)
      have z0 := HH.out.at (i := k) HK.out.2
      have q1 := str_eq s (l.getD k ByteArray.empty)
      by_cases hx : s = l.getD k ByteArray.empty
      · have HX : Hid (l.getD k ByteArray.empty = s) := hx.symm
        rw [decide_eq_true hx] at q1
        generalize hxe : l.getD k ByteArray.empty = x at z0 q1
        clear hk hlt hx hxe
        go_wp2_with fail
        go_ret
        exact ⟨_, rfl, by rw [decide_eq_true hk0, isIn_yes HK.out.2 HX.out], rfl⟩
      · have HX : Hid (l.getD k ByteArray.empty ≠ s) := Ne.symm hx
        rw [decide_eq_false hx] at q1
        generalize hxe : l.getD k ByteArray.empty = x at z0 q1
        clear hk hlt hx hxe
        go_wp2_with fail
        go_roundw
        case rel =>
          refine ⟨k + 1, HK.out.1, by go_num, fun j hj => ?_, trivial⟩
          rcases Nat.lt_or_ge j k with h1 | h1
          · exact HZ.out j h1
          · obtain rfl : j = k := by omega
            exact HX.out
        case measure => have := HK.out; simp [intOf]; omega
    · obtain rfl : k = n := by omega
      have HE : Hid (isIn l s = false) := isIn_no fun i hi => HZ.out i (by have := HN.out; omega)
      clear hk hlt
      go_wp2_with fail
      go_ret
      exact ⟨_, rfl, by rw [HE.out]; rfl, rfl⟩
set_option maxHeartbeats 2000000 in
set_option maxRecDepth 8000 in
theorem containsS_any (q : Option Addr) (c : Nat) (l : List ByteArray) (s : ByteArray) (w : World) (h : StrsIn w q l c) :
    Calls Try.prog 25 #[.slice q l.length c, .string s] w fun e w' => e = .returned (.bool (isIn l s)) ∧ w' = w := by
  have IA := indexS_any q c l s w h
  clear h
  generalize l.length = n at IA ⊢
  generalize isIn l s = B at IA ⊢
  go_enter Try.func25, Try.ntmps25
  go_wp2_with fail
  refine IA.mono ?_
  rintro e w2 ⟨z, rfl, hz, rfl⟩
  simp only []
  go_wp2_with fail
  go_ret
  exact ⟨by rw [← hz]; rfl, rfl⟩
theorem anyR_yes {f : Rl → Bool} {L : List Rl} {i : Nat} (hi : i < L.length) (h : f (L.getD i zR) = true) : L.any f = true := List.any_eq_true.2 ⟨_, rl_mem hi, h⟩
theorem anyR_no {f : Rl → Bool} {L : List Rl} (h : ∀ i, i < L.length → f (L.getD i zR) = false) : L.any f = false := by
  rw [List.any_eq_false]
  intro r hr
  obtain ⟨i, hi, rfl⟩ := rl_of hr
  rw [h i hi]; simp
/-- May's error. -/
def mayE (L : List Rl) (ns : List ByteArray) (d : ByteArray) : Nat := if clE L ns ≠ 0 then clE L ns else if nmOk d then 0 else 5
theorem mayE_bad {L : List Rl} {ns : List ByteArray} {d : ByteArray} (h : clE L ns ≠ 0) : mayE L ns d = clE L ns := by unfold mayE; rw [if_pos h]
theorem mayE_name {L : List Rl} {ns : List ByteArray} {d : ByteArray} (h : clE L ns = 0) (k : nmOk d = false) : mayE L ns d = 5 := by unfold mayE; rw [if_neg (by omega), k]; rfl
theorem mayE_ok {L : List Rl} {ns : List ByteArray} {d : ByteArray} (h : clE L ns = 0) (k : nmOk d = true) : mayE L ns d = 0 := by unfold mayE; rw [if_neg (by omega), k]; rfl
theorem mayE_zero {L : List Rl} {ns : List ByteArray} {d : ByteArray} (h : mayE L ns d = 0) : clE L ns = 0 ∧ nmOk d = true := by
  unfold mayE at h
  split at h
  · contradiction
  · split at h
    · exact ⟨by omega, by assumption⟩
    · cases h
/-- What May tells. -/
structure MayA (L : List Rl) (ns : List ByteArray) (d : ByteArray) (v : Bool) : Prop where
  bad : mayE L ns d ≠ 0 → v = false
  ok : mayE L ns d = 0 → (v = true ↔ Mays L ns d)
theorem MayA.one {L : List Rl} {ns : List ByteArray} {d : ByteArray} {v1 v2 : Bool} (h : MayA L ns d v1) (k : MayA L ns d v2) : v1 = v2 := by
  by_cases e : mayE L ns d = 0
  · have := (h.ok e).trans (k.ok e).symm
    cases v1 <;> cases v2 <;> simp_all
  · rw [h.bad e, k.bad e]
def myB (F : List ByteArray) (d : ByteArray) (r : Rl) : Bool := isIn F r.name && isIn r.may d
theorem myB_iff {L : List Rl} {ns F : List ByteArray} (h : ∀ a, a ∈ F ↔ Comes L ns a) (d : ByteArray) : L.any (myB F d) = true ↔ Mays L ns d := by
  rw [List.any_eq_true]
  unfold Mays myB
  simp only [Bool.and_eq_true, isIn_iff, h]
set_option maxHeartbeats 4000000 in
set_option maxRecDepth 8000 in
theorem May_any (q : Option Addr) (c : Nat) (L : List Rl) (q2 : Option Addr) (c2 : Nat) (ns : List ByteArray) (d : ByteArray) (w : World) (h : RolesIn w q L c) (hn : StrsIn w q2 ns c2) (hd : d.size ≤ maxLen) :
    Calls Try.prog 9 #[.slice q L.length c, .slice q2 ns.length c2, .string d] w fun e w' => ∃ v, e = .returned (.tuple #[.bool v, .int .i64 (mayE L ns d : Nat)]) ∧ MayA L ns d v ∧ Below w.heap.size w w' := by
  have CL := closed_any q c L q2 c2 ns w h hn
  have HH : Hid (RolesIn w q L c) := h
  have hnI : (L.length : Int) ≤ 9223372036854775807 := by have := h.le; have := h.cap; unfold maxLen at this; omega
  have HD : Hid (∀ w', Calls Try.prog 23 #[.string d] w' fun e w'' => e = .returned (.bool (nmOk d)) ∧ w'' = w') := fun w' => isName_any d hd w'
  clear h hn hd
  obtain ⟨n, hN⟩ : ∃ n, L.length = n := ⟨_, rfl⟩
  have HN : Hid (L.length = n) := hN
  rw [hN] at CL hnI ⊢
  generalize ns.length = m at CL ⊢
  generalize hE : clE L ns = E at CL
  have HEE : Hid (clE L ns = E) := hE
  clear hN
  go_enter Try.func9, Try.ntmps9
  go_wp2_with fail
  refine CL.mono ?_
  rintro e w1 ⟨v, rfl, hP, hb1⟩
  simp only []
  have HB1 : Hid (Below w.heap.size w w1) := hb1
  clear CL hb1
  cases hP with
  | bad h0 =>
    have hEI : ((E : Int) == 0) = false := by
      rw [hE] at h0; simpa using fun e : (E : Int) = 0 => h0 (by omega)
    have H0 : Hid (clE L ns ≠ 0) := h0
    clear hE h0
    go_wp2_with fail
    go_ret2
    exact ⟨false, by rw [mayE_bad H0.out, HEE.out]; rfl, ⟨fun _ => rfl, fun e => absurd (mayE_zero e).1 H0.out⟩, HB1.out⟩
  | ok b F h0 hs hl hnd hm =>
    obtain rfl : E = 0 := hE.symm.trans h0
    have H0 : Hid (clE L ns = 0 ∧ SetAt w1 b F.length F ∧ F.length ≤ 32 ∧ F.Nodup ∧ (∀ a, a ∈ F ↔ Comes L ns a)) := ⟨h0, hs, hl, hnd, hm⟩
    have ND := HD.out w1
    clear hE h0 hs hl hnd hm
    cases hk : nmOk d with
    | false =>
      rw [hk] at ND
      have HK : Hid (nmOk d = false) := hk
      clear hk
      go_wp2_with fail
      refine ND.mono ?_
      rintro e w2 ⟨rfl, rfl⟩
      simp only []
      go_wp2_with fail
      go_ret2
      exact ⟨false, by rw [mayE_name H0.out.1 HK.out]; rfl, ⟨fun _ => rfl, fun e => by rw [mayE_name H0.out.1 HK.out] at e; cases e⟩, HB1.out⟩
    | true =>
      rw [hk] at ND
      have HK : Hid (nmOk d = true ∧ mayE L ns d = 0) := ⟨hk, mayE_ok H0.out.1 hk⟩
      clear hk
      go_wp2_with fail
      refine ND.mono ?_
      rintro e w2 ⟨rfl, rfl⟩
      simp only []
      clear ND
      go_wp2_with fail
      go_loopw [26] (fun t wr => ∃ i : Nat, t = .int .i64 (i : Int) ∧ i ≤ n ∧ (∀ j, j < i → myB F d (L.getD j zR) = false) ∧ Below w2.heap.size w2 wr) (fun t _ => n - (intOf t).toNat)
      case atStart => exact ⟨0, rfl, Nat.zero_le _, fun j hj => absurd hj (Nat.not_lt_zero _), Below.refl _ _⟩
      case round =>
        obtain ⟨i, rfl, hi, hz, hb⟩ := hrel
        have HZ : Hid (∀ j, j < i → myB F d (L.getD j zR) = false) := hz
        have HB : Hid (Below w.heap.size w wr ∧ Below w2.heap.size w2 wr) := ⟨below_more HB1.out hb, hb⟩
        clear hz
        by_cases hlt : i < n
        · have hkI : (i : Int) < (n : Int) := by omega
          have hk0 : (0 : Int) ≤ (i : Int) := by omega
          have HI : Hid (i < n ∧ i < L.length) := ⟨hlt, by have := HN.out; omega⟩
          have hen := HH.out.below HB.out.1
          obtain ⟨fb, fo, rfl⟩ := hen.addr (by have := HI.out; omega)
          obtain ⟨hq, hc, mq, mc, hr⟩ := hen.at (i := i) HI.out.2
          obtain ⟨z0, z1, z2, _, hm, hsz⟩ := hr
          have HX : Hid (myB F d (L.getD i zR) = (isIn F (L.getD i zR).name && isIn (L.getD i zR).may d)) := rfl
          have HY : Hid (myB F d (L.getD i zR) = true → MayA L ns d true) := fun h => ⟨fun e => absurd HK.out.2 e, fun _ => ⟨fun _ => (myB_iff H0.out.2.2.2.2 d).1 (anyR_yes HI.out.2 h), fun _ => rfl⟩⟩
          have HR : Hid (myB F d (L.getD i zR) = false → ∀ j, j < i + 1 → myB F d (L.getD j zR) = false) := fun h j hj => by
            rcases Nat.lt_or_ge j i with h1 | h1
            · exact HZ.out j h1
            · obtain rfl : j = i := by omega
              exact h
          have bn := below_new wr (.cells #[.string (L.getD i zR).name, .slice hq (L.getD i zR).holds.length hc, .slice mq (L.getD i zR).may.length mc] 37)
          have n1 := _root_.Go.heap_alloc_new wr (.cells #[.string (L.getD i zR).name, .slice hq (L.getD i zR).holds.length hc, .slice mq (L.getD i zR).may.length mc] 37)
          have HA := has_any b F.length F (L.getD i zR).name _ hsz ((H0.out.2.1.below hb).below bn) _ rfl
          have CC : Hid (∀ w', Below (wr.alloc (.cells #[.string (L.getD i zR).name, .slice hq (L.getD i zR).holds.length hc, .slice mq (L.getD i zR).may.length mc] 37)).heap.size (wr.alloc (.cells #[.string (L.getD i zR).name, .slice hq (L.getD i zR).holds.length hc, .slice mq (L.getD i zR).may.length mc] 37)) w' → Calls Try.prog 25 #[.slice mq (L.getD i zR).may.length mc, .string d] w' fun e w'' => e = .returned (.bool (isIn (L.getD i zR).may d)) ∧ w'' = w') :=
            fun w' hb' => containsS_any mq mc (L.getD i zR).may d w' ((hm.below bn).below hb')
          have HB2 : Hid (Below w.heap.size w (wr.alloc (.cells #[.string (L.getD i zR).name, .slice hq (L.getD i zR).holds.length hc, .slice mq (L.getD i zR).may.length mc] 37)) ∧ Below w2.heap.size w2 (wr.alloc (.cells #[.string (L.getD i zR).name, .slice hq (L.getD i zR).holds.length hc, .slice mq (L.getD i zR).may.length mc] 37))) := ⟨below_more HB.out.1 bn, below_more HB.out.2 bn⟩
          generalize myB F d (L.getD i zR) = RB at HX HY HR
          generalize isIn F (L.getD i zR).name = b1 at HA HX
          generalize isIn (L.getD i zR).may d = b2 at CC HX
          generalize (L.getD i zR).holds.length = hl at z1 n1 HA CC HB2
          generalize (L.getD i zR).may.length = ml at z2 n1 HA CC HB2
          generalize (L.getD i zR).name = s at z0 n1 HA CC HB2
          have x0 := Lib.cell_of_heap n1 0
          have x2 := Lib.cell_of_heap n1 2
          simp only [List.getElem?_toArray] at x0 x2
          clear n1 hb hen hi hlt bn hm hsz
          go_wp2_with fail
          refine HA.mono ?_
          rintro e w3 ⟨rfl, hb3⟩
          simp only []
          clear HA
          cases b1 with
          | false =>
            go_wp2_with fail
            go_roundw
            case rel => exact ⟨i + 1, by go_num, HI.out.1, HR.out HX.out, below_more HB2.out.2 hb3⟩
            case measure => have := HI.out.1; simp [intOf]; omega
          | true =>
            have y2 := below_cell x2 hb3
            have C1 := CC.out w3 hb3
            have HB3 : Hid (Below w.heap.size w w3 ∧ Below w2.heap.size w2 w3) := ⟨below_more HB2.out.1 hb3, below_more HB2.out.2 hb3⟩
            clear CC x0 x2 hb3
            cases b2 with
            | true =>
              go_wp2_with fail
              refine C1.mono ?_
              rintro e w4 ⟨rfl, hw⟩
              subst hw
              simp only []
              go_wp2_with fail
              go_ret2
              exact ⟨true, by rw [HK.out.2]; rfl, HY.out HX.out, HB3.out.1⟩
            | false =>
              go_wp2_with fail
              refine C1.mono ?_
              rintro e w4 ⟨rfl, hw⟩
              subst hw
              simp only []
              go_wp2_with fail
              go_roundw
              case rel => exact ⟨i + 1, by go_num, HI.out.1, HR.out HX.out, HB3.out.2⟩
              case measure => have := HI.out.1; simp [intOf]; omega
        · obtain rfl : i = n := by omega
          have HG : Hid (MayA L ns d false) := ⟨fun _ => rfl, fun _ => ⟨(by intro h; cases h), fun h => by
            have h1 := (myB_iff H0.out.2.2.2.2 d).2 h
            rw [anyR_no fun j hj => HZ.out j (by have := HN.out; omega)] at h1
            exact h1⟩⟩
          clear hi hlt hb
          go_wp2_with fail
          go_ret2
          exact ⟨false, by rw [HK.out.2]; rfl, HG.out, HB.out.1⟩
end Go.Proofs.Ytompcdmjbigigaa
