/-
  strconv.Itoa at this program; what is laid in the program's variables.
-/
import Derived.Test.YtiakfdhbbkpfhaaGreatDoorJ04
import Derived.Test.YtiakfdhbbkpfhaaGreatDoorJ05
import Derived.Test.YtiakfdhbbkpfhaaGreatDoorJ07
import Derived.Test.YtiakfdhbbkpfhaaGreatDoorJ03
import Derived.Deep.RegionLaw
import Derived.Test.YtiakfdhbbkpfhaaGreatDoorJ01
namespace Go.Proofs.YtiakfdhbbkpfhaaGreatDoor
open Go.RowKit Go.WideShapes Go.ChangeShapes Go.Deep Go.Joins Rm

def wf64 (n : Int) : Prop := -9223372036854775808 ≤ n ∧ n ≤ 9223372036854775807
/-- A []File: three cells each. -/
def FilesIn (w : World) (q : Option Addr) (l : List FileV) : Prop :=
  0 < l.length → ∃ b o, q = some ⟨b, o, none⟩ ∧ ∀ i, i < l.length → w.cell? ⟨b, o + i * 3, none⟩ = some (.string (l.getD i zeroF).name) ∧ w.cell? ⟨b, o + (i * 3 + 1), none⟩ = some (.int .i64 (l.getD i zeroF).size) ∧ ∃ v, w.cell? ⟨b, o + (i * 3 + 2), none⟩ = some v ∧ PIn w v (l.getD i zeroF).pcs
structure FIn (w : World) (v : Value) (l : List FileV) : Prop where
  lies : ∃ q c, v = .slice q l.length c ∧ FilesIn w q l ∧ l.length ≤ c ∧ c ≤ maxLen ∧ (q = none → c = 0)
  wf : ∀ f ∈ l, wf64 f.size
structure DirIn (w : World) (v : Value) (x : DirV) : Prop where
  lies : ∃ fv, v = .agg #[.int .i64 x.gen, fv] ∧ FIn w fv x.files
  wf : wf64 x.gen
/-- A file by value. -/
structure FileIn (w : World) (v : Value) (f : FileV) : Prop where
  lies : ∃ pv, v = .agg #[.string f.name, .int .i64 f.size, pv] ∧ PIn w pv f.pcs
  wf : wf64 f.size
theorem FilesIn.below {w w' : World} {q : Option Addr} {l : List FileV} (h : FilesIn w q l) (hb : Below w.heap.size w w') : FilesIn w' q l := by
  intro hp
  obtain ⟨b, o, rfl, hc⟩ := h hp
  refine ⟨b, o, rfl, fun i hi => ?_⟩
  obtain ⟨e0, e1, v, e2, hv⟩ := hc i hi
  exact ⟨(hb.cell (World.block_lt_of_cell? _ _ e0)).trans e0, (hb.cell (World.block_lt_of_cell? _ _ e1)).trans e1, v, (hb.cell (World.block_lt_of_cell? _ _ e2)).trans e2, hv.below hb⟩
theorem FIn.below {w w' : World} {v : Value} {l : List FileV} (h : FIn w v l) (hb : Below w.heap.size w w') : FIn w' v l := by
  obtain ⟨q, c, h1, h2, h3⟩ := h.lies
  exact ⟨⟨q, c, h1, h2.below hb, h3⟩, h.wf⟩
theorem DirIn.below {w w' : World} {v : Value} {x : DirV} (h : DirIn w v x) (hb : Below w.heap.size w w') : DirIn w' v x := by
  obtain ⟨fv, h1, h2⟩ := h.lies
  exact ⟨⟨fv, h1, h2.below hb⟩, h.wf⟩
theorem FileIn.below {w w' : World} {v : Value} {f : FileV} (h : FileIn w v f) (hb : Below w.heap.size w w') : FileIn w' v f := by
  obtain ⟨pv, h1, h2⟩ := h.lies
  exact ⟨⟨pv, h1, h2.below hb⟩, h.wf⟩
theorem FilesIn.addr {w : World} {q : Option Addr} {l : List FileV} (h : FilesIn w q l) (hw : 0 < l.length) : ∃ b o, q = some ⟨b, o, none⟩ := by
  obtain ⟨b, o, e, _⟩ := h hw
  exact ⟨b, o, e⟩
theorem FilesIn.at {w : World} {b o : Nat} {l : List FileV} (h : FilesIn w (some ⟨b, o, none⟩) l) {k : Nat} (hk : k < l.length) :
    w.cell? ⟨b, o + k * 3, none⟩ = some (.string (l.getD k zeroF).name) ∧ w.cell? ⟨b, o + k * 3 + 1, none⟩ = some (.int .i64 (l.getD k zeroF).size) ∧ ∃ v, w.cell? ⟨b, o + k * 3 + 2, none⟩ = some v ∧ PIn w v (l.getD k zeroF).pcs := by
  obtain ⟨b', o', e, hc⟩ := h (by omega)
  simp only [Option.some.injEq, Addr.mk.injEq, and_true] at e
  obtain ⟨rfl, rfl⟩ := e
  obtain ⟨h1, h2, v, h3, h4⟩ := hc k hk
  exact ⟨h1, by rw [Nat.add_assoc]; exact h2, v, by rw [Nat.add_assoc]; exact h3, h4⟩
theorem files_snoc {l : List FileV} {k : Nat} (h : k < l.length) : l.take (k + 1) = l.take k ++ [l.getD k zeroF] := take_snoc h
theorem allPcs_snoc {l : List FileV} {k : Nat} (h : k < l.length) : allPcs (l.take (k + 1)) = allPcs (l.take k) ++ (l.getD k zeroF).pcs := by
  rw [files_snoc h]; unfold allPcs; rw [List.flatMap_append]; simp
theorem sumC_snoc {l : Pcs} {k : Nat} (h : k < l.length) : sumC (l.take (k + 1)) = sumC (l.take k) + (l.getD k (0, 0)).2 := by
  rw [take_snoc (d := (0, 0)) h]; unfold sumC; simp
end Go.Proofs.YtiakfdhbbkpfhaaGreatDoor
namespace Go.Proofs.YtiakfdhbbkpfhaaGreatDoor
open Go.RowKit Go.WideShapes

theorem readAux_some (ys : List Nat) : ∀ {i acc n k : Nat}, i ≤ 9 → acc < 2 ^ (7 * i) → readAux i acc ys = some (n, k) → i < k ∧ k ≤ i + ys.length ∧ k ≤ 10 ∧ n < 18446744073709551616 := by
  induction ys with
  | nil => intro i acc n k _ _ h; simp [readAux] at h
  | cons c ys ih =>
    intro i acc n k hi hacc h
    by_cases h9 : i = 9 ∧ 1 < c
    · rw [aux_big h9] at h; cases h
    · by_cases hc : 128 ≤ c
      · rw [aux_hi h9 hc] at h
        have := ih (by omega) (acc_lt i acc c hacc) h
        simp; omega
      · by_cases h0 : c = 0 ∧ 0 < i
        · rw [aux_zero h9 hc h0] at h; cases h
        · rw [aux_end h9 hc h0] at h
          simp only [Option.some.injEq, Prod.mk.injEq] at h
          have := read_fits i acc c hi hacc (by omega)
          simp; omega
theorem readN_some {xs : List Nat} {n k : Nat} (h : readN xs = some (n, k)) : 1 ≤ k ∧ k ≤ xs.length ∧ k ≤ 10 ∧ n < 18446744073709551616 := by
  have := readAux_some xs (by omega) (by decide) h
  omega

theorem read_some (p : Option Addr) (len cap : Nat) (xs : List Nat) (w : World) (n k : Nat) (hlen : len = xs.length) (hb : BIn w p xs) (hm : xs.length ≤ maxLen) (hr : readN xs = some (n, k)) :
    Calls Tryz.prog 173 #[.slice p len cap] w fun e w' => e = .returned (.tuple #[.int .u64 n, .int .i64 k, .int .i64 0]) ∧ w' = w := by
  subst hlen
  refine (read_any p cap xs w hb hm).mono fun e w' h => ⟨?_, h.2⟩
  rw [h.1, hr]; rfl
theorem read_none (p : Option Addr) (len cap : Nat) (xs : List Nat) (w : World) (hlen : len = xs.length) (hb : BIn w p xs) (hm : xs.length ≤ maxLen) (hr : readN xs = none) :
    Calls Tryz.prog 173 #[.slice p len cap] w fun e w' => e = .returned (.tuple #[.int .u64 0, .int .i64 0, .int .i64 8]) ∧ w' = w := by
  subst hlen
  refine (read_any p cap xs w hb hm).mono fun e w' h => ⟨?_, h.2⟩
  rw [h.1, hr]; rfl
set_option maxHeartbeats 400000 in
theorem cut_none (p : Option Addr) (cap : Nat) (xs : List Nat) (w : World) (hb : BIn w p xs) (hm : xs.length ≤ maxLen) (hr : readN xs = none) :
    Calls Tryz.prog 150 #[.slice p xs.length cap] w fun e w' => e = .returned (.tuple #[.string ByteArray.empty, .slice none 0 0, .int .i64 8]) ∧ w' = w := by
  have HR : Hid _ := hr
  clear hr
  go_enter Tryz.func150, Tryz.ntmps150
  go_wp2_with fail
  refine (read_none p xs.length cap xs w rfl hb hm HR.out).mono ?_
  rintro e w1 ⟨rfl, rfl⟩
  go_wp2
  go_ret3
  exact ⟨rfl, rfl⟩
set_option maxHeartbeats 400000 in
theorem cut_long (p : Option Addr) (cap : Nat) (xs : List Nat) (w : World) (hb : BIn w p xs) (hm : xs.length ≤ maxLen) (n k : Nat) (hr : readN xs = some (n, k)) (hl : xs.length < k + n) :
    Calls Tryz.prog 150 #[.slice p xs.length cap] w fun e w' => e = .returned (.tuple #[.string ByteArray.empty, .slice none 0 0, .int .i64 8]) ∧ w' = w := by
  obtain ⟨k1, k2, k3, k4⟩ := readN_some hr
  have hm' := hm
  unfold maxLen at hm'
  have HR : Hid _ := hr
  clear hr
  go_enter Tryz.func150, Tryz.ntmps150
  go_wp2_with fail
  refine (read_some p xs.length cap xs w n k rfl hb hm HR.out).mono ?_
  rintro e w1 ⟨rfl, rfl⟩
  clear HR hb
  go_wp2
  go_ret3
  exact ⟨rfl, rfl⟩
/-- Where a part of a row of bytes lies. -/
theorem bin_part {w : World} {b o : Nat} {xs : List Nat} (h : BIn w (some ⟨b, o, none⟩) xs) (cap k : Nat) (hcap : xs.length ≤ cap) (n : Nat) : BIn w (if cap = k then some ⟨b, o, none⟩ else some ⟨b, o + k, none⟩) ((xs.drop k).take n) := by
  refine ⟨fun hp => ?_, fun c hc => h.2 c (List.mem_of_mem_drop (List.mem_of_mem_take hc))⟩
  simp at hp
  rw [if_neg (by omega)]
  refine ⟨b, o + k, rfl, fun i hi => ?_⟩
  simp at hi
  have := h.cell (k + i) (by omega)
  rw [Nat.add_assoc, this]
  simp [List.getD, show i < n from by omega]
theorem conv_at {w : World} {p : Option Addr} {xs : List Nat} {n c : Nat} (h : BIn w p xs) (hn : n = xs.length) : (convert 22 9 (.slice p n c)).run Tryz.prog w = .ok (.string (strOf xs)) w := by
  subst hn; exact h.conv c
set_option maxHeartbeats 400000 in
theorem cut_ok (p : Option Addr) (cap : Nat) (xs : List Nat) (w : World) (hb : BIn w p xs) (hm : xs.length ≤ 100000) (hcap : xs.length ≤ cap) (n k : Nat) (hr : readN xs = some (n, k)) (hl : k + n ≤ xs.length) :
    Calls Tryz.prog 150 #[.slice p xs.length cap] w fun e w' => ∃ v, e = .returned (.tuple #[.string (strOf ((xs.drop k).take n)), v, .int .i64 0]) ∧ w'.ownsRow w.heap.size 5 1 v (xs.drop (k + n)).length (Bs (xs.drop (k + n))) ∧ Below w.heap.size w w' := by
  obtain ⟨k1, k2, k3, k4⟩ := readN_some hr
  obtain ⟨b, o, rfl, hc⟩ := hb.1 (by omega)
  have HR : Hid _ := hr
  clear hr
  have hm' : xs.length ≤ maxLen := by unfold maxLen; omega
  go_enter Tryz.func150, Tryz.ntmps150
  go_wp2_with fail
  refine (read_some _ xs.length cap xs w n k rfl hb hm' HR.out).mono ?_
  rintro e w1 ⟨rfl, rfl⟩
  clear HR hm'
  go_wp2_with fail
  have q1 : (0 : Int) ≤ (k : Int) + n ∧ (k : Int) + n ≤ cap := by omega
  have q2 : ((k : Int) + n).toNat = k + n := by omega
  have q3 : k ≤ k + n := by omega
  have q4 : (k : Int) + n ≤ xs.length := by omega
  have B1 := bin_part hb cap k hcap n
  have B2 := bin_part hb cap (k + n) hcap xs.length
  have l1 : n = ((xs.drop k).take n).length := by simp; omega
  have l2 : xs.length - (k + n) = ((xs.drop (k + n)).take xs.length).length := by simp
  have e2 : Hid ((xs.drop (k + n)).take xs.length = xs.drop (k + n)) := List.take_of_length_le (by simp)
  obtain ⟨A1, hA1⟩ : ∃ A, (if cap = k then some (⟨b, o, none⟩ : Addr) else some ⟨b, o + k, none⟩) = A := ⟨_, rfl⟩
  obtain ⟨A2, hA2⟩ : ∃ A, (if cap = k + n then some (⟨b, o, none⟩ : Addr) else some ⟨b, o + (k + n), none⟩) = A := ⟨_, rfl⟩
  rw [hA1] at B1
  rw [hA2] at B2
  clear hb hc
  have HB1 : Hid _ := B1
  have HB2 : Hid _ := B2
  have cv0 := conv_at (c := cap - k) (show BIn w1.drew A1 _ from B1) l1
  clear B1 B2 
  have L1 : Hid _ := l1
  have L2 : Hid _ := l2
  clear l1 l2
  have P2 : Hid (A2 = none → cap - (k + n) = 0) := by show _ → _; intro h; rw [h] at hA2; split at hA2 <;> cases hA2
  have Z2 : Hid (([] : List Nat).length + ((xs.drop (k + n)).take xs.length).length ≤ 140737488355328) := by show _ ≤ _; simp; omega
  have HW : Hid (∀ w2, w1.drew.grownBy w2 (Value.slice none 0 0).ownBlock → Below w1.heap.size w1 w2 ∧ (convert 22 9 (.slice A1 n (cap - k))).run Tryz.prog w2 = .ok (.string (strOf ((xs.drop k).take n))) w2) := by
    intro w2 hgrow
    have hbl : Below w1.heap.size w1 w2 := ((Below.refl w1.heap.size w1).drew).grown hgrow (Nat.le_refl _) (fun k hk => by simp [Value.ownBlock] at hk)
    exact ⟨hbl, conv_at (BIn.below HB1.out hbl) L1.out⟩
  clear HB1 L1
  go_region_law (refine step_append_bytes rfl (.const (.slice none 0 0)) (.tmp 36) rfl w1.heap.size (.slice none 0 0) [] _ A2 (xs.length - (k + n)) (cap - (k + n)) rfl (by simp [Act.eval, Act.put]) L2.out (World.ownsRow_nil _ _ _ _) HB2.out P2.out Z2.out (Nat.le_refl _) ?_; intro v' w2 hown hgrow; obtain ⟨hbl, cv1⟩ := HW.out w2 hgrow; clear hgrow)
  all_goals
    rw [List.nil_append, e2.out] at hown
    have HO : Hid _ := hown
    clear hown cv0 cv1 hA1 hA2 HW q1 q2 q3 q4
    go_wp2
    go_ret3
    exact ⟨v', rfl, HO.out, hbl⟩
end Go.Proofs.YtiakfdhbbkpfhaaGreatDoor
namespace Go.Proofs.YtiakfdhbbkpfhaaGreatDoor
open Go.RowKit Go.WideShapes Rm

theorem nameByte_r (c : Nat) (r : Bool) (hr : nameByte c = r) (w : World) (hc : c < 256) : Calls Tryz.prog 131 #[.int .u8 c] w fun e w' => e = .returned (.bool r) ∧ w' = w := by
  have HR : Hid (nameByte c = r) := hr
  clear hr
  have e1 : ((c : Int) == 45) = decide (c = 45) := by rw [Bool.eq_iff_iff]; simp; omega
  have e2 : ((c : Int) == 95) = decide (c = 95) := by rw [Bool.eq_iff_iff]; simp; omega
  have e3 : ((c : Int) == 46) = decide (c = 46) := by rw [Bool.eq_iff_iff]; simp; omega
  go_enter Tryz.func131, Tryz.ntmps131
  go_wp2
  all_goals
    go_ret
    refine ⟨?_, rfl⟩
    rw [← HR.out]
    show Ending.returned (Value.bool _) = _
    refine congrArg Ending.returned (congrArg Value.bool ?_)
    unfold nameByte
    rw [Bool.eq_iff_iff]
    simp
    try omega
theorem nameByte_any (c : Nat) (w : World) (hc : c < 256) : Calls Tryz.prog 131 #[.int .u8 c] w fun e w' => e = .returned (.bool (nameByte c)) ∧ w' = w := nameByte_r c _ rfl w hc
theorem needs_any (n : Int) (w : World) (h : 0 ≤ n ∧ n ≤ 9223372036854775000) : Calls Tryz.prog 66 #[.int .i64 n] w fun e w' => e = .returned (.int .i64 (needsN n)) ∧ w' = w := by
  have HN : Hid (needsN n = (n + 128 - 1) / 128) := by show _ = _; unfold needsN; omega
  go_enter Tryz.func66, Tryz.ntmps66
  go_wp2
  go_ret
  exact ⟨by rw [HN.out]; rfl, rfl⟩
theorem small4_any (n : Int) (w : World) (h : 0 ≤ n ∧ n ≤ 9223372036854775807) : Calls Tryz.prog 100 #[.int .i64 n] w fun e w' => ∃ v, e = .returned v ∧ w'.ownsRow w.heap.size 5 1 v (smallN n.toNat).length (Bs (smallN n.toNat)) ∧ Below w.heap.size w w' := by
  obtain ⟨m, rfl⟩ := Int.eq_ofNat_of_zero_le h.1
  have hm : IntKind.u64.wrap (m : Int) = (m : Int) := by rw [IntKind.wrap_u64]; omega
  go_enter Tryz.func100, Tryz.ntmps100
  go_wp2_with (go_at_call 123; refine (small_any m _ (by omega)).mono ?_; rintro e w1 ⟨v, rfl, ho, hb⟩)
  go_ret
  exact ⟨v, rfl, ho, hb⟩
theorem str_at (s : ByteArray) (k : Nat) (h : k < s.size) (w : World) : (Instr.index 9 (.string s) (.int .i64 k)).run Tryz.prog w = .ok (.int .u8 ((numsOf s).getD k 0 : Nat)) w := by
  rw [run_index_string w 9 s .i64 k Tryz.underlying9, dif_pos ⟨by omega, by omega⟩]
  have h2 : k < (numsOf s).length := by rw [numsOf_len]; exact h
  rw [getD_eq h2]
  simp [numsOf, ByteArray.getElem_eq_getElem_data]
set_option maxHeartbeats 1000000 in
theorem isName_r (s : ByteArray) (r : Bool) (hr : isNameN s = r) (w : World) (hs : (s.size : Int) ≤ 9223372036854775807) : Calls Tryz.prog 104 #[.string s] w fun e w' => e = .returned (.bool r) ∧ w' = w := by
  have HR : Hid (isNameN s = r) := hr
  clear hr
  by_cases h1 : 1 ≤ s.size ∧ s.size ≤ 32
  · go_enter Tryz.func104, Tryz.ntmps104
    go_wp2
    go_loop [14] (fun i => ∃ k : Nat, k ≤ s.size ∧ i = .int .i64 k ∧ ∀ j, j < k → nameByte ((numsOf s).getD j 0) = true) (fun i => s.size - (intOf i).toNat)
    case atStart => exact ⟨0, by omega, rfl, fun j hj => absurd hj (by omega)⟩
    case round =>
      obtain ⟨k, hk, rfl, hall⟩ := hrel
      have HA : Hid (∀ j, j < k → nameByte ((numsOf s).getD j 0) = true) := hall
      clear hall
      by_cases hkl : k < s.size
      · have hx := str_at s k hkl
        have hlt := getD_lt (numsOf_lt s) k
        have HS : Hid (nameByte ((numsOf s).getD k 0) = false → isNameN s = false) := fun h => by
          unfold isNameN
          rw [List.all_eq_false.2 ⟨_, getD_mem' (d := 0) (by rw [numsOf_len]; exact hkl), by rw [h]; simp⟩, Bool.and_false]
        have HT : Hid (nameByte ((numsOf s).getD k 0) = true → ∀ j, j < k + 1 → nameByte ((numsOf s).getD j 0) = true) := fun h j hj => by
          rcases Nat.lt_or_ge j k with h' | h'
          · exact HA.out j h'
          · obtain rfl : j = k := by omega
            exact h
        clear HA
        generalize hcd : (numsOf s).getD k 0 = cc at *
        cases hb : nameByte cc with
        | true =>
          have HT2 := HT.out hb
          have HT3 : Hid _ := HT2
          clear HT2 HT HS
          go_wp2_with (go_at_call 131; refine (nameByte_r cc true hb _ hlt).mono ?_; rintro e w1 ⟨rfl, rfl⟩)
          go_round
          case rel => exact ⟨k + 1, by omega, by go_num, HT3.out⟩
          case measure => simp [intOf]; omega
        | false =>
          have HF : Hid (isNameN s = false) := HS.out hb
          clear HT HS
          go_wp2_with (go_at_call 131; refine (nameByte_r cc false hb _ hlt).mono ?_; rintro e w1 ⟨rfl, rfl⟩)
          go_ret
          exact ⟨by rw [← HR.out, HF.out]; rfl, rfl⟩
      · obtain rfl : k = s.size := by omega
        have HT : Hid (isNameN s = true) := by
          show _ = _
          unfold isNameN
          rw [decide_eq_true h1, Bool.true_and, List.all_eq_true]
          intro c hc
          obtain ⟨i, hi, rfl⟩ := List.getElem_of_mem hc
          have := HA.out i (by rw [← numsOf_len]; exact hi)
          rwa [getD_eq hi] at this
        clear HA
        go_wp2
        go_ret
        exact ⟨by rw [← HR.out, HT.out]; rfl, rfl⟩
  · have HF : Hid (isNameN s = false) := by show _ = _; unfold isNameN; rw [decide_eq_false h1]; rfl
    go_enter Tryz.func104, Tryz.ntmps104
    go_wp2
    all_goals
      go_ret
      refine ⟨?_, rfl⟩
      rw [← HR.out, HF.out]
      rfl

/-- What a check answers: nil, or an error that wraps ErrBad. -/
def NilOr8 (ok : Prop) (v : Value) : Prop := (ok ∧ v = .nilIface) ∨ (¬ ok ∧ Faults v 8)
theorem eqlK_step {l : Pcs} {k : Nat} (h : ∀ j, j < k → 80 ≤ (l.getD j (0, 0)).1) (h1 : 80 ≤ (l.getD k (0, 0)).1) : ∀ j, j < k + 1 → 80 ≤ (l.getD j (0, 0)).1 := by
  intro j hj
  rcases Nat.lt_or_ge j k with h' | h'
  · exact h j h'
  · obtain rfl : j = k := by omega
    exact h1
theorem sumC_bound {l : Pcs} (h : ∀ p ∈ l, 0 ≤ p.2 ∧ p.2 ≤ 4096) : ∀ k, 0 ≤ sumC (l.take k) ∧ sumC (l.take k) ≤ 4096 * k := by
  intro k
  induction k with
  | zero => simp [sumC]
  | succ k ih =>
    rcases Nat.lt_or_ge k l.length with hk | hk
    · rw [sumC_snoc hk]
      have := h _ (getD_mem' (d := (0, 0)) hk)
      omega
    · rw [List.take_of_length_le (by omega)]
      rw [List.take_of_length_le hk] at ih
      omega
set_option maxHeartbeats 1000000 in
theorem checkFile_any (v : Value) (f : FileV) (w : World) (hf : FileIn w v f) (hs : (f.name.size : Int) ≤ 9223372036854775807) (hw : ∀ p ∈ f.pcs, 0 ≤ p.2 ∧ p.2 ≤ 4096) (hl : f.pcs.length ≤ 1000000) :
    Calls Tryz.prog 154 #[v] w fun e w' => ∃ r, e = .returned r ∧ NilOr8 (FileOk f) r ∧ Below w.heap.size w w' := by
  obtain ⟨pv, rfl, hp⟩ := hf.lies
  obtain ⟨hz1, hz2⟩ := hf.wf
  have hbd := sumC_bound hw
  obtain ⟨name, size, l⟩ := f
  obtain ⟨q, c, rfl, hq, hlc, hcm, hqn⟩ := hp.lies
  simp only at hs hw hl hz1 hz2 hq hlc hbd
  have hwf := hp.wf
  unfold maxLen at hcm
  clear hf hp hqn
  have HQ : Hid (PcsIn w q l) := hq
  clear hq
  generalize hnm : isNameN name = nm
  cases nm with
  | false =>
    go_enter Tryz.func154, Tryz.ntmps154
    go_wp2_with (go_at_call 104; refine (isName_r name false hnm _ hs).mono ?_; rintro e w1 ⟨rfl, rfl⟩)
    go_ret
    refine ⟨_, rfl, .inr ⟨fun h => by rw [FileOk, hnm] at h; simp at h, Faults.one _ _⟩, ?_⟩
    exact below_alloc _ _
  | true =>
    by_cases h1 : 0 ≤ size ∧ size ≤ 524288
    · go_enter Tryz.func154, Tryz.ntmps154
      go_wp2_with (go_at_call 104; refine (isName_r name true hnm _ hs).mono ?_; rintro e w1 ⟨rfl, rfl⟩)
      go_loopw [3, 27] (fun m i wr => ∃ k : Nat, k ≤ l.length ∧ i = .int .i64 k ∧ m = .int .i64 (sumC (l.take k)) ∧ (∀ j, j < k → 80 ≤ (l.getD j (0, 0)).1) ∧ Below (w.heap.size + 1) (w.alloc (.cells #[.string name, .int .i64 size, .slice q l.length c] 51)) wr) (fun _ i _ => l.length - (intOf i).toNat)
      case atStart => exact ⟨0, by omega, rfl, rfl, fun j hj => absurd hj (by omega), Below.refl _ _⟩
      case round =>
        obtain ⟨k, hk, rfl, rfl, hlo, hbel⟩ := hrel
        have HLO : Hid (∀ j, j < k → 80 ≤ (l.getD j (0, 0)).1) := hlo
        clear hlo
        have hsz := hbel.size
        simp at hsz
        have hbw : Below w.heap.size w wr := box_below hbel
        have HBW : Hid (Below w.heap.size w wr) := hbw
        by_cases hkl : k < l.length
        · obtain ⟨b, o, rfl⟩ := HQ.out.addr (by omega)
          obtain ⟨e1, e2⟩ := (HQ.out.below hbw).at hkl
          have hwk := hw _ (getD_mem' (d := (0, 0)) hkl)
          have HS : Hid _ := sumC_snoc hkl
          obtain ⟨s1, s2⟩ := hbd k
          have HST : Hid (80 ≤ (l.getD k (0, 0)).1 → ∀ j, j < k + 1 → 80 ≤ (l.getD j (0, 0)).1) := eqlK_step HLO.out
          have HNO : Hid (¬ 80 ≤ (l.getD k (0, 0)).1 → ¬ FileOk ⟨name, size, l⟩) := fun h hf => h (hf.2.2.2.1 _ (getD_mem' (d := (0, 0)) hkl))
          clear HLO hbd hbw hw hwf
          generalize l.getD k (0, 0) = y at *
          obtain ⟨a, n⟩ := y
          generalize sumC (l.take k) = S at *
          simp only at e1 e2 hwk
          by_cases g : 80 ≤ a
          · have H3 : Hid (∀ j, j < k + 1 → 80 ≤ (l.getD j (0, 0)).1) := HST.out g
            clear HST HNO
            go_wp2
            go_roundw
            case rel => exact ⟨k + 1, by omega, by go_num, by rw [HS.out], H3.out, hbel.alloc (by omega) _⟩
            case measure => simp [intOf]; omega
          · have H3 : Hid (¬ FileOk ⟨name, size, l⟩) := HNO.out g
            clear HST HNO
            go_wp2
            go_ret
            exact ⟨_, rfl, .inr ⟨H3.out, Faults.one _ _⟩, HBW.out.alloc HBW.out.size _⟩
        · obtain rfl : k = l.length := by omega
          have HLO2 : Hid (∀ p ∈ l, 80 ≤ p.1) := by
            intro p hp
            obtain ⟨i, hi, rfl⟩ := List.getElem_of_mem hp
            have := HLO.out i hi
            rwa [getD_eq hi] at this
          have hfull : Below (w.heap.size + 1) (w.alloc (.cells #[.string name, .int .i64 size, .slice q l.length c] 51)) wr := hbel
          have c1 : wr.cell? ⟨w.heap.size, 1, none⟩ = some (.int .i64 size) := by rw [hbel.cell (by simp)]; simp
          rw [List.take_length]
          clear HLO hbd
          generalize hS : sumC l = S at *
          by_cases g : S = needsN size
          · have hne : (S != needsN size) = false := by simp [g]
            have HOK : Hid (FileOk ⟨name, size, l⟩) := ⟨hnm, h1.1, h1.2, HLO2.out, hS.trans g⟩
            clear hS g
            generalize hnn : needsN size = nn at *
            go_wp2_with (go_at_call 66; refine (needs_any size _ (by omega)).mono ?_; rintro e w1 ⟨rfl, rfl⟩; rw [hnn])
            go_ret
            exact ⟨_, rfl, .inl ⟨HOK.out, rfl⟩, HBW.out⟩
          · have hne : (S != needsN size) = true := by simpa using g
            have HNO : Hid (¬ FileOk ⟨name, size, l⟩) := fun h => g (hS.symm.trans h.2.2.2.2)
            clear hS g
            generalize hnn : needsN size = nn at *
            go_wp2_with (go_at_call 66; refine (needs_any size _ (by omega)).mono ?_; rintro e w1 ⟨rfl, rfl⟩; rw [hnn])
            go_ret
            exact ⟨_, rfl, .inr ⟨HNO.out, Faults.one _ _⟩, HBW.out⟩
    · go_enter Tryz.func154, Tryz.ntmps154
      go_wp2_with (go_at_call 104; refine (isName_r name true hnm _ hs).mono ?_; rintro e w1 ⟨rfl, rfl⟩)
      all_goals
        go_ret
        refine ⟨_, rfl, .inr ⟨fun h => h1 ⟨h.2.1, h.2.2.1⟩, Faults.one _ _⟩, ?_⟩
        exact below_alloc _ _

theorem box3 {w wr : World} {a b c : Value} {t : TypeId} (h : Below (w.heap.size + 1) (w.alloc (.cells #[a, b, c] t)) wr) :
    wr.cell? ⟨w.heap.size, 0, none⟩ = some a ∧ wr.cell? ⟨w.heap.size, 1, none⟩ = some b ∧ wr.cell? ⟨w.heap.size, 2, none⟩ = some c := by
  have hh : wr.heap[w.heap.size]? = some (.cells #[a, b, c] t (0, 0)) := (h.block _ (by omega)).trans (heap_alloc_new w _)
  exact ⟨cell_of_row _ _ _ _ _ _ hh, cell_of_row _ _ _ _ _ _ hh, cell_of_row _ _ _ _ _ _ hh⟩
set_option maxHeartbeats 1000000 in
theorem pieces_any (v : Value) (l : List FileV) (w : World) (hf : FIn w v l) (hsum : (allPcs l).length ≤ 1000000) :
    Calls Tryz.prog 71 #[v] w fun e w' => ∃ r, e = .returned r ∧ POwn w' w.heap.size r (allPcs l) ∧ Below w.heap.size w w' := by
  obtain ⟨q, c, rfl, hq, hlc, hcm, hqn⟩ := hf.lies
  have HQ : Hid (FilesIn w q l) := hq
  unfold maxLen at hcm
  clear hf hq hqn
  go_enter Tryz.func71, Tryz.ntmps71
  go_wp2
  go_loopw [3, 8] (fun m i wr => ∃ k : Nat, k ≤ l.length ∧ i = .int .i64 k ∧ POwn wr w.heap.size m (allPcs (l.take k)) ∧ Below w.heap.size w wr) (fun _ i _ => l.length - (intOf i).toNat)
  case atStart => exact ⟨0, by omega, rfl, pown_nil _ _, Below.refl _ _⟩
  case round =>
    obtain ⟨k, hk, rfl, hown, hbel⟩ := hrel
    have hsz := hbel.size
    have HB : Hid (Below w.heap.size w wr) := hbel
    by_cases hkl : k < l.length
    · obtain ⟨b, o, rfl⟩ := HQ.out.addr (by omega)
      obtain ⟨e0, e1, pv, e2, hp⟩ := (HQ.out.below hbel).at hkl
      have HA : Hid _ := allPcs_snoc hkl
      have hle : (allPcs (l.take (k + 1))).length ≤ (allPcs l).length := by
        conv => rhs; rw [← List.take_append_drop (k + 1) l]
        unfold allPcs
        rw [List.flatMap_append, List.length_append]
        omega
      rw [allPcs_snoc hkl, List.length_append] at hle
      clear hbel
      generalize l.getD k zeroF = y at *
      obtain ⟨nm, sz, pl⟩ := y
      obtain ⟨qp, cp, rfl, hqp, _, _, hqn⟩ := hp.lies
      simp only at e0 e1 e2 hqp hle
      have HP : Hid (PcsIn wr qp pl) := hqp
      clear hqp hp
      have hb3 := box3 (Below.refl (wr.heap.size + 1) (wr.alloc (.cells #[.string nm, .int .i64 sz, .slice qp pl.length cp] 51)))
      have hown2 := hown.below (below_alloc wr (.cells #[.string nm, .int .i64 sz, .slice qp pl.length cp] 51))
      have hp2 := HP.out.below (below_alloc wr (.cells #[.string nm, .int .i64 sz, .slice qp pl.length cp] 51))
      have HP2 : Hid _ := hp2
      have HO2 : Hid _ := hown2
      have HO : Hid _ := hown
      clear hp2 hown2 hown
      go_wp2_with (at_builtin; refine wpList_append_pcs _ rfl _ _ rfl w.heap.size _ (allPcs (l.take k)) pl qp pl.length cp rfl rfl rfl HO2.out HP2.out hqn (by omega) (by simp; omega) ?_; intro v' w2 hown3 hgrow)
      go_roundw
      case rel => exact ⟨k + 1, by omega, by go_num, by rw [HA.out]; exact hown3, (HB.out.alloc HB.out.size _).grown hgrow (by simp; omega) (fun x hx => (HO.out.lt x hx).1)⟩
      case measure => simp [intOf]; omega
    · obtain rfl : k = l.length := by omega
      rw [List.take_length] at hown
      clear hbel
      have HO : Hid _ := hown
      clear hown
      go_wp2
      go_ret
      exact ⟨_, rfl, HO.out, HB.out⟩
end Go.Proofs.YtiakfdhbbkpfhaaGreatDoor
namespace Go.Proofs.YtiakfdhbbkpfhaaGreatDoor
open Go.RowKit Go.WideShapes Go.Shelf Rm

/-- The program's variables that are read hold what the text lays. -/
structure Laid (w : World) : Prop where
  err : ErrT w
  tab : Lib.TabIs Tryz.prog w "internal/strconv.uint64pow10" .u64 Lib.pow10Tab
theorem g_pow : Tryz.prog.globalNamed "internal/strconv.uint64pow10" = some 2 := by kernel_rfl
theorem Laid.below {w w' : World} (h : Laid w) (hb : Below w.heap.size w w') : Laid w' := by
  refine ⟨h.err.below hb, ?_⟩
  have ht := h.tab
  unfold Lib.TabIs World.var? at ht ⊢
  rw [g_pow] at ht ⊢
  simp only [Option.bind_some] at ht ⊢
  have h2 : 2 < w.heap.size := by
    rcases Nat.lt_or_ge 2 w.heap.size with h | h
    · exact h
    · rw [Array.getElem?_eq_none h] at ht; cases ht
  rw [hb.block 2 h2]
  exact ht
theorem grow_below (w : World) (k : Nat) (os : Array Obj) : Below w.heap.size w (Sort.grow (w.drewN k) os) := by
  refine ⟨rfl, rfl, rfl, ?_, fun i hi => ?_⟩
  · show w.heap.size ≤ (w.heap ++ os).size
    simp
  · show (w.heap ++ os)[i]? = _
    rw [Array.getElem?_append_left hi]
theorem itoa_any (n : Nat) (hn : n < 9223372036854775808) (w : World) (hL : Laid w) :
    Calls Tryz.prog 148 #[.int .i64 n] w fun e w' => ∃ s, e = .returned (.string s) ∧ Below w.heap.size w w' := by
  refine (Any.strconv_Itoa laysItoa n (by omega) (by omega) w hL.tab).mono ?_
  rintro e w' ⟨rfl, k, os, rfl⟩
  exact ⟨_, rfl, grow_below _ _ _⟩
theorem digits_small : ∀ i, i < 100 → (Lib.decDigits i).length ≤ 2 := by decide +kernel
theorem itoa_small (n : Nat) (hn : n < 100) (w : World) :
    Calls Tryz.prog 148 #[.int .i64 n] w fun e w' => ∃ s : ByteArray, e = .returned (.string s) ∧ s.size ≤ 2 ∧ w' = w := by
  refine (Any.strconv_Itoa_small { laysItoa with } n hn w).mono ?_
  rintro e w' ⟨rfl, rfl⟩
  exact ⟨_, rfl, by have := digits_small n hn; show (Lib.decDigits n).toArray.size ≤ 2; simpa using this, rfl⟩
end Go.Proofs.YtiakfdhbbkpfhaaGreatDoor
