/-
  The library's strconv.Itoa at this program: the tables of numbers, and that the bodies are those.
-/
import Derived.Test.YtglcpfnpbcnejaaGreatDoorJ03
import Derived.Deep.RegionLaw
import Derived.Test.YtglcpfnpbcnejaaGreatDoorJ07
import Derived.Shelf.Strconv.Itoa3
import Derived.Ground.NamesProg
import Derived.Test.YtglcpfnpbcnejaaGreatDoorProg
namespace Go.Proofs.YtglcpfnpbcnejaaGreatDoor
open Go.RowKit Go.WideShapes

theorem readAux_some (ys : List Nat) : ∀ {i acc n k : Nat}, i ≤ 9 → acc < 2 ^ (7 * i) → readAux i acc ys = some (n, k) → i < k ∧ k ≤ i + ys.length ∧ k ≤ 10 ∧ n < 18446744073709551616 := by
  induction ys with
  | nil => intro i acc n k _ _ h; simp [readAux] at h
  | cons c ys ih =>
    intro i acc n k hi hacc h
    by_cases h9 : i = 9 ∧ 1 < c
    · rw [aux_big h9] at h; cases h
    · by_cases hc : 128 ≤ c
      · rw [aux_hi h9 hc] at h
        have := ih (by omega) (acc_lt i acc c hacc) h
        simp; omega
      · by_cases h0 : c = 0 ∧ 0 < i
        · rw [aux_zero h9 hc h0] at h; cases h
        · rw [aux_end h9 hc h0] at h
          simp only [Option.some.injEq, Prod.mk.injEq] at h
          have := read_fits i acc c hi hacc (by omega)
          simp; omega
theorem readN_some {xs : List Nat} {n k : Nat} (h : readN xs = some (n, k)) : 1 ≤ k ∧ k ≤ xs.length ∧ k ≤ 10 ∧ n < 18446744073709551616 := by
  have := readAux_some xs (by omega) (by decide) h
  omega

theorem read_some (p : Option Addr) (len cap : Nat) (xs : List Nat) (w : World) (n k : Nat) (hlen : len = xs.length) (hb : BIn w p xs) (hm : xs.length ≤ maxLen) (hr : readN xs = some (n, k)) :
    Calls Tryz.prog 173 #[.slice p len cap] w fun e w' => e = .returned (.tuple #[.int .u64 n, .int .i64 k, .int .i64 0]) ∧ w' = w := by
  subst hlen
  refine (read_any p cap xs w hb hm).mono fun e w' h => ⟨?_, h.2⟩
  rw [h.1, hr]; rfl
theorem read_none (p : Option Addr) (len cap : Nat) (xs : List Nat) (w : World) (hlen : len = xs.length) (hb : BIn w p xs) (hm : xs.length ≤ maxLen) (hr : readN xs = none) :
    Calls Tryz.prog 173 #[.slice p len cap] w fun e w' => e = .returned (.tuple #[.int .u64 0, .int .i64 0, .int .i64 8]) ∧ w' = w := by
  subst hlen
  refine (read_any p cap xs w hb hm).mono fun e w' h => ⟨?_, h.2⟩
  rw [h.1, hr]; rfl
set_option maxHeartbeats 400000 in
theorem cut_none (p : Option Addr) (cap : Nat) (xs : List Nat) (w : World) (hb : BIn w p xs) (hm : xs.length ≤ maxLen) (hr : readN xs = none) :
    Calls Tryz.prog 150 #[.slice p xs.length cap] w fun e w' => e = .returned (.tuple #[.string ByteArray.empty, .slice none 0 0, .int .i64 8]) ∧ w' = w := by
  have HR : Hid _ := hr
  clear hr
  go_enter Tryz.func150, Tryz.ntmps150
  go_wp2_with fail
  refine (read_none p xs.length cap xs w rfl hb hm HR.out).mono ?_
  rintro e w1 ⟨rfl, rfl⟩
  go_wp2
  go_ret3
  exact ⟨rfl, rfl⟩
set_option maxHeartbeats 400000 in
theorem cut_long (p : Option Addr) (cap : Nat) (xs : List Nat) (w : World) (hb : BIn w p xs) (hm : xs.length ≤ maxLen) (n k : Nat) (hr : readN xs = some (n, k)) (hl : xs.length < k + n) :
    Calls Tryz.prog 150 #[.slice p xs.length cap] w fun e w' => e = .returned (.tuple #[.string ByteArray.empty, .slice none 0 0, .int .i64 8]) ∧ w' = w := by
  obtain ⟨k1, k2, k3, k4⟩ := readN_some hr
  have hm' := hm
  unfold maxLen at hm'
  have HR : Hid _ := hr
  clear hr
  go_enter Tryz.func150, Tryz.ntmps150
  go_wp2_with fail
  refine (read_some p xs.length cap xs w n k rfl hb hm HR.out).mono ?_
  rintro e w1 ⟨rfl, rfl⟩
  clear HR hb
  go_wp2
  go_ret3
  exact ⟨rfl, rfl⟩
/-- Where a part of a row of bytes lies. -/
theorem bin_part {w : World} {b o : Nat} {xs : List Nat} (h : BIn w (some ⟨b, o, none⟩) xs) (cap k : Nat) (hcap : xs.length ≤ cap) (n : Nat) : BIn w (if cap = k then some ⟨b, o, none⟩ else some ⟨b, o + k, none⟩) ((xs.drop k).take n) := by
  refine ⟨fun hp => ?_, fun c hc => h.2 c (List.mem_of_mem_drop (List.mem_of_mem_take hc))⟩
  simp at hp
  rw [if_neg (by omega)]
  refine ⟨b, o + k, rfl, fun i hi => ?_⟩
  simp at hi
  have := h.cell (k + i) (by omega)
  rw [Nat.add_assoc, this]
  simp [List.getD, show i < n from by omega]
theorem conv_at {w : World} {p : Option Addr} {xs : List Nat} {n c : Nat} (h : BIn w p xs) (hn : n = xs.length) : (convert 22 9 (.slice p n c)).run Tryz.prog w = .ok (.string (strOf xs)) w := by
  subst hn; exact h.conv c
set_option maxHeartbeats 400000 in
theorem cut_ok (p : Option Addr) (cap : Nat) (xs : List Nat) (w : World) (hb : BIn w p xs) (hm : xs.length ≤ 100000) (hcap : xs.length ≤ cap) (n k : Nat) (hr : readN xs = some (n, k)) (hl : k + n ≤ xs.length) :
    Calls Tryz.prog 150 #[.slice p xs.length cap] w fun e w' => ∃ v, e = .returned (.tuple #[.string (strOf ((xs.drop k).take n)), v, .int .i64 0]) ∧ w'.ownsRow w.heap.size 5 1 v (xs.drop (k + n)).length (Bs (xs.drop (k + n))) ∧ Below w.heap.size w w' := by
  obtain ⟨k1, k2, k3, k4⟩ := readN_some hr
  obtain ⟨b, o, rfl, hc⟩ := hb.1 (by omega)
  have HR : Hid _ := hr
  clear hr
  have hm' : xs.length ≤ maxLen := by unfold maxLen; omega
  go_enter Tryz.func150, Tryz.ntmps150
  go_wp2_with fail
  refine (read_some _ xs.length cap xs w n k rfl hb hm' HR.out).mono ?_
  rintro e w1 ⟨rfl, rfl⟩
  clear HR hm'
  go_wp2_with fail
  have q1 : (0 : Int) ≤ (k : Int) + n ∧ (k : Int) + n ≤ cap := by omega
  have q2 : ((k : Int) + n).toNat = k + n := by omega
  have q3 : k ≤ k + n := by omega
  have q4 : (k : Int) + n ≤ xs.length := by omega
  have B1 := bin_part hb cap k hcap n
  have B2 := bin_part hb cap (k + n) hcap xs.length
  have l1 : n = ((xs.drop k).take n).length := by simp; omega
  have l2 : xs.length - (k + n) = ((xs.drop (k + n)).take xs.length).length := by simp
  have e2 : Hid ((xs.drop (k + n)).take xs.length = xs.drop (k + n)) := List.take_of_length_le (by simp)
  obtain ⟨A1, hA1⟩ : ∃ A, (if cap = k then some (⟨b, o, none⟩ : Addr) else some ⟨b, o + k, none⟩) = A := ⟨_, rfl⟩
  obtain ⟨A2, hA2⟩ : ∃ A, (if cap = k + n then some (⟨b, o, none⟩ : Addr) else some ⟨b, o + (k + n), none⟩) = A := ⟨_, rfl⟩
  rw [hA1] at B1
  rw [hA2] at B2
  clear hb hc
  have HB1 : Hid _ := B1
  have HB2 : Hid _ := B2
  have cv0 := conv_at (c := cap - k) (show BIn w1.drew A1 _ from B1) l1
  clear B1 B2 
  have L1 : Hid _ := l1
  have L2 : Hid _ := l2
  clear l1 l2
  have P2 : Hid (A2 = none → cap - (k + n) = 0) := by show _ → _; intro h; rw [h] at hA2; split at hA2 <;> cases hA2
  have Z2 : Hid (([] : List Nat).length + ((xs.drop (k + n)).take xs.length).length ≤ 140737488355328) := by show _ ≤ _; simp; omega
  have HW : Hid (∀ w2, w1.drew.grownBy w2 (Value.slice none 0 0).ownBlock → Below w1.heap.size w1 w2 ∧ (convert 22 9 (.slice A1 n (cap - k))).run Tryz.prog w2 = .ok (.string (strOf ((xs.drop k).take n))) w2) := by
    intro w2 hgrow
    have hbl : Below w1.heap.size w1 w2 := ((Below.refl w1.heap.size w1).drew).grown hgrow (Nat.le_refl _) (fun k hk => by simp [Value.ownBlock] at hk)
    exact ⟨hbl, conv_at (BIn.below HB1.out hbl) L1.out⟩
  clear HB1 L1
  go_region_law (refine step_append_bytes rfl (.const (.slice none 0 0)) (.tmp 36) rfl w1.heap.size (.slice none 0 0) [] _ A2 (xs.length - (k + n)) (cap - (k + n)) rfl (by simp [Act.eval, Act.put]) L2.out (World.ownsRow_nil _ _ _ _) HB2.out P2.out Z2.out (Nat.le_refl _) ?_; intro v' w2 hown hgrow; obtain ⟨hbl, cv1⟩ := HW.out w2 hgrow; clear hgrow)
  all_goals
    rw [List.nil_append, e2.out] at hown
    have HO : Hid _ := hown
    clear hown cv0 cv1 hA1 hA2 HW q1 q2 q3 q4
    go_wp2
    go_ret3
    exact ⟨v', rfl, HO.out, hbl⟩
end Go.Proofs.YtglcpfnpbcnejaaGreatDoor
namespace Go.Proofs.YtglcpfnpbcnejaaGreatDoor
open Go.RowKit Go.WideShapes Rm

theorem nameByte_r (c : Nat) (r : Bool) (hr : nameByte c = r) (w : World) (hc : c < 256) : Calls Tryz.prog 131 #[.int .u8 c] w fun e w' => e = .returned (.bool r) ∧ w' = w := by
  have HR : Hid (nameByte c = r) := hr
  clear hr
  have e1 : ((c : Int) == 45) = decide (c = 45) := by rw [Bool.eq_iff_iff]; simp; omega
  have e2 : ((c : Int) == 95) = decide (c = 95) := by rw [Bool.eq_iff_iff]; simp; omega
  have e3 : ((c : Int) == 46) = decide (c = 46) := by rw [Bool.eq_iff_iff]; simp; omega
  go_enter Tryz.func131, Tryz.ntmps131
  go_wp2
  all_goals
    go_ret
    refine ⟨?_, rfl⟩
    rw [← HR.out]
    show Ending.returned (Value.bool _) = _
    refine congrArg Ending.returned (congrArg Value.bool ?_)
    unfold nameByte
    rw [Bool.eq_iff_iff]
    simp
    try omega
theorem needs_any (n : Int) (w : World) (h : 0 ≤ n ∧ n ≤ 9223372036854775000) : Calls Tryz.prog 66 #[.int .i64 n] w fun e w' => e = .returned (.int .i64 (needsN n)) ∧ w' = w := by
  have HN : Hid (needsN n = (n + 128 - 1) / 128) := by show _ = _; unfold needsN; omega
  go_enter Tryz.func66, Tryz.ntmps66
  go_wp2
  go_ret
  exact ⟨by rw [HN.out]; rfl, rfl⟩
theorem small4_any (n : Int) (w : World) (h : 0 ≤ n ∧ n ≤ 9223372036854775807) : Calls Tryz.prog 100 #[.int .i64 n] w fun e w' => ∃ v, e = .returned v ∧ w'.ownsRow w.heap.size 5 1 v (smallN n.toNat).length (Bs (smallN n.toNat)) ∧ Below w.heap.size w w' := by
  obtain ⟨m, rfl⟩ := Int.eq_ofNat_of_zero_le h.1
  have hm : IntKind.u64.wrap (m : Int) = (m : Int) := by rw [IntKind.wrap_u64]; omega
  go_enter Tryz.func100, Tryz.ntmps100
  go_wp2_with (go_at_call 123; refine (small_any m _ (by omega)).mono ?_; rintro e w1 ⟨v, rfl, ho, hb⟩)
  go_ret
  exact ⟨v, rfl, ho, hb⟩
theorem str_at (s : ByteArray) (k : Nat) (h : k < s.size) (w : World) : (Instr.index 9 (.string s) (.int .i64 k)).run Tryz.prog w = .ok (.int .u8 ((numsOf s).getD k 0 : Nat)) w := by
  rw [run_index_string w 9 s .i64 k Tryz.underlying9, dif_pos ⟨by omega, by omega⟩]
  have h2 : k < (numsOf s).length := by rw [numsOf_len]; exact h
  rw [getD_eq h2]
  simp [numsOf, ByteArray.getElem_eq_getElem_data]
set_option maxHeartbeats 1000000 in
theorem isName_r (s : ByteArray) (r : Bool) (hr : isNameN s = r) (w : World) (hs : (s.size : Int) ≤ 9223372036854775807) : Calls Tryz.prog 104 #[.string s] w fun e w' => e = .returned (.bool r) ∧ w' = w := by
  have HR : Hid (isNameN s = r) := hr
  clear hr
  by_cases h1 : 1 ≤ s.size ∧ s.size ≤ 32
  · go_enter Tryz.func104, Tryz.ntmps104
    go_wp2
    go_loop [14] (fun i => ∃ k : Nat, k ≤ s.size ∧ i = .int .i64 k ∧ ∀ j, j < k → nameByte ((numsOf s).getD j 0) = true) (fun i => s.size - (intOf i).toNat)
    case atStart => exact ⟨0, by omega, rfl, fun j hj => absurd hj (by omega)⟩
    case round =>
      obtain ⟨k, hk, rfl, hall⟩ := hrel
      have HA : Hid (∀ j, j < k → nameByte ((numsOf s).getD j 0) = true) := hall
      clear hall
      by_cases hkl : k < s.size
      · have hx := str_at s k hkl
        have hlt := getD_lt (numsOf_lt s) k
        have HS : Hid (nameByte ((numsOf s).getD k 0) = false → isNameN s = false) := fun h => by
          unfold isNameN
          rw [List.all_eq_false.2 ⟨_, getD_mem' (d := 0) (by rw [numsOf_len]; exact hkl), by rw [h]; simp⟩, Bool.and_false]
        have HT : Hid (nameByte ((numsOf s).getD k 0) = true → ∀ j, j < k + 1 → nameByte ((numsOf s).getD j 0) = true) := fun h j hj => by
          rcases Nat.lt_or_ge j k with h' | h'
          · exact HA.out j h'
          · obtain rfl : j = k := by omega
            exact h
        clear HA
        generalize hcd : (numsOf s).getD k 0 = cc at *
        cases hb : nameByte cc with
        | true =>
          have HT2 := HT.out hb
          have HT3 : Hid _ := HT2
          clear HT2 HT HS
          go_wp2_with (go_at_call 131; refine (nameByte_r cc true hb _ hlt).mono ?_; rintro e w1 ⟨rfl, rfl⟩)
          go_round
          case rel => exact ⟨k + 1, by omega, by go_num, HT3.out⟩
          case measure => simp [intOf]; omega
        | false =>
          have HF : Hid (isNameN s = false) := HS.out hb
          clear HT HS
          go_wp2_with (go_at_call 131; refine (nameByte_r cc false hb _ hlt).mono ?_; rintro e w1 ⟨rfl, rfl⟩)
          go_ret
          exact ⟨by rw [← HR.out, HF.out]; rfl, rfl⟩
      · obtain rfl : k = s.size := by omega
        have HT : Hid (isNameN s = true) := by
          show _ = _
          unfold isNameN
          rw [decide_eq_true h1, Bool.true_and, List.all_eq_true]
          intro c hc
          obtain ⟨i, hi, rfl⟩ := List.getElem_of_mem hc
          have := HA.out i (by rw [← numsOf_len]; exact hi)
          rwa [getD_eq hi] at this
        clear HA
        go_wp2
        go_ret
        exact ⟨by rw [← HR.out, HT.out]; rfl, rfl⟩
  · have HF : Hid (isNameN s = false) := by show _ = _; unfold isNameN; rw [decide_eq_false h1]; rfl
    go_enter Tryz.func104, Tryz.ntmps104
    go_wp2
    all_goals
      go_ret
      refine ⟨?_, rfl⟩
      rw [← HR.out, HF.out]
      rfl

/-- What a check answers: nil, or an error that wraps ErrBad. -/
def NilOr8 (ok : Prop) (v : Value) : Prop := (ok ∧ v = .nilIface) ∨ (¬ ok ∧ Faults v 8)
theorem eqlK_step {l : Pcs} {k : Nat} (h : ∀ j, j < k → 80 ≤ (l.getD j (0, 0)).1) (h1 : 80 ≤ (l.getD k (0, 0)).1) : ∀ j, j < k + 1 → 80 ≤ (l.getD j (0, 0)).1 := by
  intro j hj
  rcases Nat.lt_or_ge j k with h' | h'
  · exact h j h'
  · obtain rfl : j = k := by omega
    exact h1
theorem sumC_bound {l : Pcs} (h : ∀ p ∈ l, 0 ≤ p.2 ∧ p.2 ≤ 4096) : ∀ k, 0 ≤ sumC (l.take k) ∧ sumC (l.take k) ≤ 4096 * k := by
  intro k
  induction k with
  | zero => simp [sumC]
  | succ k ih =>
    rcases Nat.lt_or_ge k l.length with hk | hk
    · rw [sumC_snoc hk]
      have := h _ (getD_mem' (d := (0, 0)) hk)
      omega
    · rw [List.take_of_length_le (by omega)]
      rw [List.take_of_length_le hk] at ih
      omega
set_option maxHeartbeats 1000000 in
theorem checkFile_any (v : Value) (f : FileV) (w : World) (hf : FileIn w v f) (hs : (f.name.size : Int) ≤ 9223372036854775807) (hw : ∀ p ∈ f.pcs, 0 ≤ p.2 ∧ p.2 ≤ 4096) (hl : f.pcs.length ≤ 1000000) :
    Calls Tryz.prog 154 #[v] w fun e w' => ∃ r, e = .returned r ∧ NilOr8 (FileOk f) r ∧ Below w.heap.size w w' := by
  obtain ⟨pv, rfl, hp⟩ := hf.lies
  obtain ⟨hz1, hz2⟩ := hf.wf
  have hbd := sumC_bound hw
  obtain ⟨name, size, l⟩ := f
  obtain ⟨q, c, rfl, hq, hlc, hcm, hqn⟩ := hp.lies
  simp only at hs hw hl hz1 hz2 hq hlc hbd
  have hwf := hp.wf
  unfold maxLen at hcm
  clear hf hp hqn
  have HQ : Hid (PcsIn w q l) := hq
  clear hq
  generalize hnm : isNameN name = nm
  cases nm with
  | false =>
    go_enter Tryz.func154, Tryz.ntmps154
    go_wp2_with (go_at_call 104; refine (isName_r name false hnm _ hs).mono ?_; rintro e w1 ⟨rfl, rfl⟩)
    go_ret
    refine ⟨_, rfl, .inr ⟨fun h => by rw [FileOk, hnm] at h; simp at h, Faults.one _ _⟩, ?_⟩
    exact below_alloc _ _
  | true =>
    by_cases h1 : 0 ≤ size ∧ size ≤ 524288
    · go_enter Tryz.func154, Tryz.ntmps154
      go_wp2_with (go_at_call 104; refine (isName_r name true hnm _ hs).mono ?_; rintro e w1 ⟨rfl, rfl⟩)
      go_loopw [3, 27] (fun m i wr => ∃ k : Nat, k ≤ l.length ∧ i = .int .i64 k ∧ m = .int .i64 (sumC (l.take k)) ∧ (∀ j, j < k → 80 ≤ (l.getD j (0, 0)).1) ∧ Below (w.heap.size + 1) (w.alloc (.cells #[.string name, .int .i64 size, .slice q l.length c] 51)) wr) (fun _ i _ => l.length - (intOf i).toNat)
      case atStart => exact ⟨0, by omega, rfl, rfl, fun j hj => absurd hj (by omega), Below.refl _ _⟩
      case round =>
        obtain ⟨k, hk, rfl, rfl, hlo, hbel⟩ := hrel
        have HLO : Hid (∀ j, j < k → 80 ≤ (l.getD j (0, 0)).1) := hlo
        clear hlo
        have hsz := hbel.size
        simp at hsz
        have hbw : Below w.heap.size w wr := box_below hbel
        have HBW : Hid (Below w.heap.size w wr) := hbw
        by_cases hkl : k < l.length
        · obtain ⟨b, o, rfl⟩ := HQ.out.addr (by omega)
          obtain ⟨e1, e2⟩ := (HQ.out.below hbw).at hkl
          have hwk := hw _ (getD_mem' (d := (0, 0)) hkl)
          have HS : Hid _ := sumC_snoc hkl
          obtain ⟨s1, s2⟩ := hbd k
          have HST : Hid (80 ≤ (l.getD k (0, 0)).1 → ∀ j, j < k + 1 → 80 ≤ (l.getD j (0, 0)).1) := eqlK_step HLO.out
          have HNO : Hid (¬ 80 ≤ (l.getD k (0, 0)).1 → ¬ FileOk ⟨name, size, l⟩) := fun h hf => h (hf.2.2.2.1 _ (getD_mem' (d := (0, 0)) hkl))
          clear HLO hbd hbw hw hwf
          generalize l.getD k (0, 0) = y at *
          obtain ⟨a, n⟩ := y
          generalize sumC (l.take k) = S at *
          simp only at e1 e2 hwk
          by_cases g : 80 ≤ a
          · have H3 : Hid (∀ j, j < k + 1 → 80 ≤ (l.getD j (0, 0)).1) := HST.out g
            clear HST HNO
            go_wp2
            go_roundw
            case rel => exact ⟨k + 1, by omega, by go_num, by rw [HS.out], H3.out, hbel.alloc (by omega) _⟩
            case measure => simp [intOf]; omega
          · have H3 : Hid (¬ FileOk ⟨name, size, l⟩) := HNO.out g
            clear HST HNO
            go_wp2
            go_ret
            exact ⟨_, rfl, .inr ⟨H3.out, Faults.one _ _⟩, HBW.out.alloc HBW.out.size _⟩
        · obtain rfl : k = l.length := by omega
          have HLO2 : Hid (∀ p ∈ l, 80 ≤ p.1) := by
            intro p hp
            obtain ⟨i, hi, rfl⟩ := List.getElem_of_mem hp
            have := HLO.out i hi
            rwa [getD_eq hi] at this
          have hfull : Below (w.heap.size + 1) (w.alloc (.cells #[.string name, .int .i64 size, .slice q l.length c] 51)) wr := hbel
          have c1 : wr.cell? ⟨w.heap.size, 1, none⟩ = some (.int .i64 size) := by rw [hbel.cell (by simp)]; simp
          rw [List.take_length]
          clear HLO hbd
          generalize hS : sumC l = S at *
          by_cases g : S = needsN size
          · have hne : (S != needsN size) = false := by simp [g]
            have HOK : Hid (FileOk ⟨name, size, l⟩) := ⟨hnm, h1.1, h1.2, HLO2.out, hS.trans g⟩
            clear hS g
            generalize hnn : needsN size = nn at *
            go_wp2_with (go_at_call 66; refine (needs_any size _ (by omega)).mono ?_; rintro e w1 ⟨rfl, rfl⟩; rw [hnn])
            go_ret
            exact ⟨_, rfl, .inl ⟨HOK.out, rfl⟩, HBW.out⟩
          · have hne : (S != needsN size) = true := by simpa using g
            have HNO : Hid (¬ FileOk ⟨name, size, l⟩) := fun h => g (hS.symm.trans h.2.2.2.2)
            clear hS g
            generalize hnn : needsN size = nn at *
            go_wp2_with (go_at_call 66; refine (needs_any size _ (by omega)).mono ?_; rintro e w1 ⟨rfl, rfl⟩; rw [hnn])
            go_ret
            exact ⟨_, rfl, .inr ⟨HNO.out, Faults.one _ _⟩, HBW.out⟩
    · go_enter Tryz.func154, Tryz.ntmps154
      go_wp2_with (go_at_call 104; refine (isName_r name true hnm _ hs).mono ?_; rintro e w1 ⟨rfl, rfl⟩)
      all_goals
        go_ret
        refine ⟨_, rfl, .inr ⟨fun h => h1 ⟨h.2.1, h.2.2.1⟩, Faults.one _ _⟩, ?_⟩
        exact below_alloc _ _

theorem box3 {w wr : World} {a b c : Value} {t : TypeId} (h : Below (w.heap.size + 1) (w.alloc (.cells #[a, b, c] t)) wr) :
    wr.cell? ⟨w.heap.size, 0, none⟩ = some a ∧ wr.cell? ⟨w.heap.size, 1, none⟩ = some b ∧ wr.cell? ⟨w.heap.size, 2, none⟩ = some c := by
  have hh : wr.heap[w.heap.size]? = some (.cells #[a, b, c] t (0, 0)) := (h.block _ (by omega)).trans (heap_alloc_new w _)
  exact ⟨cell_of_row _ _ _ _ _ _ hh, cell_of_row _ _ _ _ _ _ hh, cell_of_row _ _ _ _ _ _ hh⟩
set_option maxHeartbeats 1000000 in
theorem pieces_any (v : Value) (l : List FileV) (w : World) (hf : FIn w v l) (hsum : (allPcs l).length ≤ 1000000) :
    Calls Tryz.prog 71 #[v] w fun e w' => ∃ r, e = .returned r ∧ POwn w' w.heap.size r (allPcs l) ∧ Below w.heap.size w w' := by
  obtain ⟨q, c, rfl, hq, hlc, hcm, hqn⟩ := hf.lies
  have HQ : Hid (FilesIn w q l) := hq
  unfold maxLen at hcm
  clear hf hq hqn
  go_enter Tryz.func71, Tryz.ntmps71
  go_wp2
  go_loopw [3, 8] (fun m i wr => ∃ k : Nat, k ≤ l.length ∧ i = .int .i64 k ∧ POwn wr w.heap.size m (allPcs (l.take k)) ∧ Below w.heap.size w wr) (fun _ i _ => l.length - (intOf i).toNat)
  case atStart => exact ⟨0, by omega, rfl, pown_nil _ _, Below.refl _ _⟩
  case round =>
    obtain ⟨k, hk, rfl, hown, hbel⟩ := hrel
    have hsz := hbel.size
    have HB : Hid (Below w.heap.size w wr) := hbel
    by_cases hkl : k < l.length
    · obtain ⟨b, o, rfl⟩ := HQ.out.addr (by omega)
      obtain ⟨e0, e1, pv, e2, hp⟩ := (HQ.out.below hbel).at hkl
      have HA : Hid _ := allPcs_snoc hkl
      have hle : (allPcs (l.take (k + 1))).length ≤ (allPcs l).length := by
        conv => rhs; rw [← List.take_append_drop (k + 1) l]
        unfold allPcs
        rw [List.flatMap_append, List.length_append]
        omega
      rw [allPcs_snoc hkl, List.length_append] at hle
      clear hbel
      generalize l.getD k zeroF = y at *
      obtain ⟨nm, sz, pl⟩ := y
      obtain ⟨qp, cp, rfl, hqp, _, _, hqn⟩ := hp.lies
      simp only at e0 e1 e2 hqp hle
      have HP : Hid (PcsIn wr qp pl) := hqp
      clear hqp hp
      have hb3 := box3 (Below.refl (wr.heap.size + 1) (wr.alloc (.cells #[.string nm, .int .i64 sz, .slice qp pl.length cp] 51)))
      have hown2 := hown.below (below_alloc wr (.cells #[.string nm, .int .i64 sz, .slice qp pl.length cp] 51))
      have hp2 := HP.out.below (below_alloc wr (.cells #[.string nm, .int .i64 sz, .slice qp pl.length cp] 51))
      have HP2 : Hid _ := hp2
      have HO2 : Hid _ := hown2
      have HO : Hid _ := hown
      clear hp2 hown2 hown
      go_wp2_with (at_builtin; refine wpList_append_pcs _ rfl _ _ rfl w.heap.size _ (allPcs (l.take k)) pl qp pl.length cp rfl rfl rfl HO2.out HP2.out hqn (by omega) (by simp; omega) ?_; intro v' w2 hown3 hgrow)
      go_roundw
      case rel => exact ⟨k + 1, by omega, by go_num, by rw [HA.out]; exact hown3, (HB.out.alloc HB.out.size _).grown hgrow (by simp; omega) (fun x hx => (HO.out.lt x hx).1)⟩
      case measure => simp [intOf]; omega
    · obtain rfl : k = l.length := by omega
      rw [List.take_length] at hown
      clear hbel
      have HO : Hid _ := hown
      clear hown
      go_wp2
      go_ret
      exact ⟨_, rfl, HO.out, HB.out⟩
end Go.Proofs.YtglcpfnpbcnejaaGreatDoor
namespace Go.Proofs.YtglcpfnpbcnejaaGreatDoor
open Go.RowKit Go.WideShapes Rm

abbrev Box := Nat × Array Value × TypeId
structure St (w : World) (bx : List Box) (wc : World) (v : Value) (xs : List Nat) : Prop where
  own : wc.ownsRow w.heap.size 5 1 v xs.length (Bs xs)
  bel : Below w.heap.size w wc
  box : ∀ p ∈ bx, wc.heap[p.1]? = some (.cells p.2.1 p.2.2 (0, 0)) ∧ p.2.2 ≠ 5
theorem own_form {w : World} {base n : Nat} {e : TypeId} {s : Nat} {v : Value} {xs : List Value} (h : w.ownsRow base e s v n xs) : ∃ q m, v = .slice q n m ∧ n ≤ m ∧ m ≤ maxLen ∧ (q = none → m = 0) := by
  rcases h.2 with ⟨hv, hn⟩ | ⟨g, cap, cur, hv, _, _, h1, h2, _⟩
  · exact ⟨none, 0, by rw [hv, hn], by omega, by unfold maxLen; omega, fun _ => rfl⟩
  · exact ⟨_, cap, hv, h1, h2, fun h => by cases h⟩
theorem blk_grown {w w' : World} {base n : Nat} {v : Value} {xs : List Value} (h : w.ownsRow base 5 1 v n xs) (hg : w.grownBy w' v.ownBlock) {B : Nat} {C : Array Value} {t : TypeId} {fr : Nat × Nat} (hB : w.heap[B]? = some (.cells C t fr)) (ht : t ≠ 5) : w'.heap[B]? = some (.cells C t fr) := by
  rw [hg.block B (lt_heap hB) ?_]
  · exact hB
  · intro e
    rcases h.2 with ⟨hv, _⟩ | ⟨g, cap, cur, hv, _, hgg, _⟩
    · rw [hv] at e; cases e
    · rw [hv] at e
      simp only [Value.ownBlock, Option.some.injEq] at e
      subst e
      rw [hB] at hgg
      simp only [Option.some.injEq, Obj.cells.injEq] at hgg
      exact ht hgg.2.1
theorem St.start {w : World} {bx : List Box} (hb : ∀ p ∈ bx, w.heap[p.1]? = some (.cells p.2.1 p.2.2 (0, 0)) ∧ p.2.2 ≠ 5) : St w bx w (.slice none 0 0) [] := ⟨World.ownsRow_nil _ _ _ _, Below.refl _ _, hb⟩
theorem St.call {w : World} {bx : List Box} {wc w1 : World} {v : Value} {xs : List Nat} (h : St w bx wc v xs) (hb : Below wc.heap.size wc w1) : St w bx w1 v xs :=
  ⟨own_below h.own hb, h.bel.trans (hb.mono h.bel.size), fun p hp => ⟨(hb.block _ (lt_heap (h.box p hp).1)).trans (h.box p hp).1, (h.box p hp).2⟩⟩
theorem St.app {w : World} {bx : List Box} {wc w2 : World} {v v2 : Value} {xs ys : List Nat} (h : St w bx wc v xs) (ho : w2.ownsRow w.heap.size 5 1 v2 (xs ++ ys).length (Bs (xs ++ ys))) (hg : wc.grownBy w2 v.ownBlock) : St w bx w2 v2 (xs ++ ys) :=
  ⟨ho, h.bel.grown hg h.bel.size (fun k hk => (h.own.lt k hk).1), fun p hp => ⟨blk_grown h.own hg (h.box p hp).1 (h.box p hp).2, (h.box p hp).2⟩⟩
theorem St.alloc {w : World} {bx : List Box} {wc : World} {v : Value} {xs : List Nat} (h : St w bx wc v xs) (C : Array Value) (t : TypeId) (ht : t ≠ 5) : St w ((wc.heap.size, C, t) :: bx) (wc.alloc (.cells C t)) v xs := by
  have h1 := h.call (below_alloc wc (.cells C t))
  refine ⟨h1.own, h1.bel, fun p hp => ?_⟩
  rcases List.mem_cons.1 hp with rfl | hp
  · exact ⟨heap_alloc_new wc _, ht⟩
  · exact h1.box p hp
theorem St.drop {w : World} {b : Box} {bx : List Box} {wc : World} {v : Value} {xs : List Nat} (h : St w (b :: bx) wc v xs) : St w bx wc v xs := ⟨h.own, h.bel, fun p hp => h.box p (by simp [hp])⟩
theorem St.eq {w : World} {bx : List Box} {wc : World} {v : Value} {xs ys : List Nat} (h : St w bx wc v xs) (e : xs = ys) : St w bx wc v ys := e ▸ h
theorem St.cell {w : World} {bx : List Box} {wc : World} {v : Value} {xs : List Nat} (h : St w bx wc v xs) {B : Nat} {C : Array Value} {t : TypeId} (hm : (B, C, t) ∈ bx) (i : Nat) : wc.cell? ⟨B, i, none⟩ = C[i]? := cell_of_row wc B i C t (0, 0) (h.box _ hm).1
theorem St.size {w : World} {bx : List Box} {wc : World} {v : Value} {xs : List Nat} (h : St w bx wc v xs) : w.heap.size ≤ wc.heap.size := h.bel.size
theorem own_in {w : World} {base : Nat} {p : Option Addr} {m c : Nat} {xs : List Nat} (h : w.ownsRow base 5 1 (.slice p m c) xs.length (Bs xs)) (hx : ∀ c ∈ xs, c < 256) : BIn w p xs := (own_bin h hx).1
theorem flat_le {α : Type} {l : List α} {f : α → List Nat} {c : Nat} (h : ∀ x ∈ l, (f x).length ≤ c) : (l.flatMap f).length ≤ l.length * c := by
  induction l with
  | nil => simp
  | cons x l ih =>
    have h1 := h x (by simp)
    have h2 := ih (fun y hy => h y (by simp [hy]))
    rw [List.flatMap_cons, List.length_append, List.length_cons, Nat.succ_mul]
    omega
theorem textN_bytes (s : ByteArray) : ∀ c ∈ textN s, c < 256 := by
  intro c hc
  unfold textN at hc
  rcases List.mem_append.1 hc with h | h
  · exact smallN_bytes _ c h
  · exact numsOf_lt s c h
theorem textN_len (s : ByteArray) (h : s.size ≤ 100000) : (textN s).length ≤ 100010 := by
  have := smallN_ten s.size (by omega)
  unfold textN; rw [List.length_append, numsOf_len]; omega
theorem piece_len (p : Int × Int) (h : wf64 p.1 ∧ wf64 p.2) : (pieceN p).length ≤ 20 := by
  have h1 := smallN_ten p.1.toNat (by have := h.1; unfold wf64 at this; omega)
  have h2 := smallN_ten p.2.toNat (by have := h.2; unfold wf64 at this; omega)
  unfold pieceN; rw [List.length_append]; omega
/-- Files whose bytes can be told. -/
structure Told (l : List FileV) : Prop where
  many : l.length ≤ 32
  name : ∀ f ∈ l, f.name.size ≤ 32
  size : ∀ f ∈ l, 0 ≤ f.size ∧ f.size ≤ 524288
  pcs : ∀ f ∈ l, f.pcs.length ≤ 4096
  piece : ∀ f ∈ l, ∀ p ∈ f.pcs, (0 ≤ p.1 ∧ p.1 ≤ 4096) ∧ (0 ≤ p.2 ∧ p.2 ≤ 4096)
theorem May.told {lt : ByteArray → ByteArray → Prop} {x : DirV} (h : May lt x) : Told x.files := by
  obtain ⟨_, hl, hg⟩ := errK_zero h.pcs
  refine ⟨h.many, fun f hf => ?_, fun f hf => ⟨(h.each f hf).2.1, (h.each f hf).2.2.1⟩, fun f hf => by have := len_allPcs hf; omega, fun f hf p hp => ?_⟩
  · have := (h.each f hf).1
    unfold isNameN at this
    simp only [Bool.and_eq_true, decide_eq_true_eq] at this
    omega
  · have := hg.wn p (mem_allPcs hf hp)
    unfold Wn at this
    omega
theorem file_len {l : List FileV} (h : Told l) {f : FileV} (hf : f ∈ l) : (fileN f).length ≤ 200000 := by
  have h1 := textN_len f.name (by have := h.name f hf; omega)
  have h2 := smallN_ten f.size.toNat (by have := h.size f hf; omega)
  have h3 := smallN_ten f.pcs.length (by have := h.pcs f hf; omega)
  have h4 := flat_le (l := f.pcs) (f := pieceN) (c := 20) (fun p hp => piece_len p (by have := h.piece f hf p hp; unfold wf64; omega))
  have h5 := h.pcs f hf
  unfold fileN
  simp only [List.length_append]
  omega
theorem pcs_take_len {l : List FileV} (h : Told l) {f : FileV} (hf : f ∈ l) (j : Nat) : ((f.pcs.take j).flatMap pieceN).length ≤ 81920 := by
  have h4 := flat_le (l := f.pcs.take j) (f := pieceN) (c := 20) (fun p hp => piece_len p (by have := h.piece f hf p (List.mem_of_mem_take hp); unfold wf64; omega))
  have h5 := h.pcs f hf
  have : (f.pcs.take j).length ≤ f.pcs.length := by simp; omega
  omega
theorem files_take_len {l : List FileV} (h : Told l) (k : Nat) : ((l.take k).flatMap fileN).length ≤ 6400000 := by
  have h4 := flat_le (l := l.take k) (f := fileN) (c := 200000) (fun f hf => file_len h (List.mem_of_mem_take hf))
  have h5 := h.many
  have : (l.take k).length ≤ l.length := by simp; omega
  omega
theorem files_flat {l : List FileV} {k : Nat} (h : k < l.length) : (l.take (k + 1)).flatMap fileN = (l.take k).flatMap fileN ++ fileN (l.getD k zeroF) := by
  rw [files_snoc h, List.flatMap_append]; simp
theorem pcs_flat {l : Pcs} {k : Nat} (h : k < l.length) : (l.take (k + 1)).flatMap pieceN = (l.take k).flatMap pieceN ++ pieceN (l.getD k (0, 0)) := by
  rw [take_snoc (d := (0, 0)) h, List.flatMap_append]; simp
end Go.Proofs.YtglcpfnpbcnejaaGreatDoor
namespace Go.Proofs.YtglcpfnpbcnejaaGreatDoor
open Go.Shelf
def laysItoa_ren : Go.Shelf.Ren := ⟨fun | 171 => 148 | 243 => 172 | 246 => 183 | 283 => 187 | 284 => 188 | 285 => 189 | 286 => 190 | 129 => 168 | 317 => 199 | 318 => 200 | 319 => 201 | 320 => 202 | 337 => 206 | 338 => 207 | n => n, fun | 3 => 3 | 9 => 9 | 2 => 2 | 4 => 4 | 171 => 266 | 0 => 0 | 53 => 141 | 37 => 22 | 5 => 5 | 173 => 268 | 212 => 276 | 51 => 246 | 20 => 20 | 213 => 277 | 46 => 213 | 232 => 281 | 233 => 282 | n => n, fun | 17 => 2 | 18 => 3 | 19 => 4 | n => n⟩
theorem laysItoa : Go.Proofs.LaysM.n171 Tryz.prog laysItoa_ren := {
  mixed := by kernel_rfl
  f129 := Tryz.func168.trans (congrArg some (by kernel_rfl))
  f171 := Tryz.func148.trans (congrArg some (by kernel_rfl))
  f243 := Tryz.func172.trans (congrArg some (by kernel_rfl))
  f246 := Tryz.func183.trans (congrArg some (by kernel_rfl))
  f283 := Tryz.func187.trans (congrArg some (by kernel_rfl))
  f284 := Tryz.func188.trans (congrArg some (by kernel_rfl))
  f285 := Tryz.func189.trans (congrArg some (by kernel_rfl))
  f286 := Tryz.func190.trans (congrArg some (by kernel_rfl))
  f317 := Tryz.func199.trans (congrArg some (by kernel_rfl))
  f318 := Tryz.func200.trans (congrArg some (by kernel_rfl))
  f319 := Tryz.func201.trans (congrArg some (by kernel_rfl))
  f320 := Tryz.func202.trans (congrArg some (by kernel_rfl))
  f337 := Tryz.func206.trans (congrArg some (by kernel_rfl))
  f338 := Tryz.func207.trans (congrArg some (by kernel_rfl))
  t0 := Tryz.underlying0
  a0 := Tryz.isAgg0
  z0 := Tryz.sizeOf0
  v0 := Tryz.zeroValue0
  t2 := Tryz.underlying2
  a2 := Tryz.isAgg2
  z2 := Tryz.sizeOf2
  v2 := Tryz.zeroValue2
  t3 := Tryz.underlying3
  a3 := Tryz.isAgg3
  z3 := Tryz.sizeOf3
  v3 := Tryz.zeroValue3
  t4 := Tryz.underlying4
  a4 := Tryz.isAgg4
  z4 := Tryz.sizeOf4
  v4 := Tryz.zeroValue4
  t5 := Tryz.underlying5
  a5 := Tryz.isAgg5
  z5 := Tryz.sizeOf5
  v5 := Tryz.zeroValue5
  t9 := Tryz.underlying9
  a9 := Tryz.isAgg9
  z9 := Tryz.sizeOf9
  v9 := Tryz.zeroValue9
  t20 := Tryz.underlying20
  a20 := Tryz.isAgg20
  z20 := Tryz.sizeOf20
  v20 := Tryz.zeroValue20
  t37 := Tryz.underlying22
  a37 := Tryz.isAgg22
  z37 := Tryz.sizeOf22
  v37 := Tryz.zeroValue22
  t46 := Tryz.underlying213
  a46 := Tryz.isAgg213
  z46 := Tryz.sizeOf213
  v46 := Tryz.zeroValue213
  t51 := Tryz.underlying246
  a51 := Tryz.isAgg246
  z51 := Tryz.sizeOf246
  v51 := Tryz.zeroValue246
  t53 := Tryz.underlying141
  a53 := Tryz.isAgg141
  z53 := Tryz.sizeOf141
  v53 := Tryz.zeroValue141
  t171 := Tryz.underlying266
  a171 := Tryz.isAgg266
  z171 := Tryz.sizeOf266
  v171 := Tryz.zeroValue266
  t173 := Tryz.underlying268
  a173 := Tryz.isAgg268
  z173 := Tryz.sizeOf268
  v173 := Tryz.zeroValue268
  t212 := Tryz.underlying276
  a212 := Tryz.isAgg276
  z212 := Tryz.sizeOf276
  v212 := Tryz.zeroValue276
  t213 := Tryz.underlying277
  a213 := Tryz.isAgg277
  z213 := Tryz.sizeOf277
  t232 := Tryz.underlying281
  a232 := Tryz.isAgg281
  z232 := Tryz.sizeOf281
  v232 := Tryz.zeroValue281
  t233 := Tryz.underlying282
  a233 := Tryz.isAgg282
  z233 := Tryz.sizeOf282
  v233 := Tryz.zeroValue282
  g17 := by kernel_rfl
  g18 := by kernel_rfl
  g19 := by kernel_rfl
  i0 := by kernel_rfl
  i2 := by kernel_rfl
  i3 := by kernel_rfl
  i4 := by kernel_rfl
  i5 := by kernel_rfl
  i9 := by kernel_rfl
  i20 := by kernel_rfl
  i37 := by kernel_rfl
  i46 := by kernel_rfl
  i51 := by kernel_rfl
  i53 := by kernel_rfl
  i171 := by kernel_rfl
  i173 := by kernel_rfl
  i212 := by kernel_rfl
  i232 := by kernel_rfl
  i233 := by kernel_rfl
  m17 := by kernel_rfl
  m18 := by kernel_rfl
  m19 := by kernel_rfl }
end Go.Proofs.YtglcpfnpbcnejaaGreatDoor
