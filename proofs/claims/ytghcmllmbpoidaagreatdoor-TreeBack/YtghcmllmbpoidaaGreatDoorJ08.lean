import Derived.Test.YtghcmllmbpoidaaGreatDoorJ07
import Derived.Deep.LoopGhost
import Derived.WalkMore
import Derived.Laws.OwnMore
import Derived.Test.YtghcmllmbpoidaaGreatDoorJ06
import Derived.Test.YtghcmllmbpoidaaGreatDoorJ02
import Derived.Test.YtghcmllmbpoidaaGreatDoorJ04
namespace Go.Proofs.YtghcmllmbpoidaaGreatDoor.Rm
open Go.RowKit Go.WideShapes
theorem run_append_pcs (w : World) (ty : TypeId) (base : Nat) (v : Value) (xs l : Pcs) (q : Option Addr) (c : Nat) (hown : POwn w base v xs) (hin : PcsIn w q l) (hp : q = none → c = 0) (hlen : xs.length + l.length ≤ 1000000) (hbase : base ≤ w.heap.size) :
    ∃ v' w', (Builtin.append_ #[145, 145] ty #[v, .slice q l.length c]).run Tryz.prog w = .ok v' w' ∧ POwn w' base v' (xs ++ l) ∧ w.grownBy w' v.ownBlock := by
  obtain ⟨i0, hi, hz0, hz1, hz2⟩ := info_parts' info_piece
  cases q with
  | none =>
    have h0 : l = [] := by
      cases l with
      | nil => rfl
      | cons y ys => obtain ⟨b, o, e, _⟩ := hin (by simp); cases e
    subst h0
    obtain rfl := hp rfl
    exact ⟨v, w, run_append_owned_none (P := Tryz.prog) w base 145 ty 194 i0 2 Tryz.underlying145 hi v xs.length (cellsQ xs) hown, by simpa using hown, ⟨rfl, rfl, rfl, Nat.le_refl _, fun _ _ _ => rfl⟩⟩
  | some ad =>
    obtain ⟨v', w', h1, h2, h3, _⟩ := run_append_own (P := Tryz.prog) w base 145 ty 194 i0 _ 2 16 Tryz.underlying145 hi hz0 hz1 hz2 rfl (by decide) v xs.length (cellsQ xs) hown ad l.length c (cellsQ l) (cellsQ_len l) (pcs_news hin rfl) (cellsQ_oneCell l) (by unfold maxLen; omega) (by omega) hbase
    refine ⟨v', w', h1, ?_, h3⟩
    unfold POwn
    rw [cellsQ_app, List.length_append]
    exact h2
theorem wpList_append_pcs (w : World) {ops : Array Oper} {rest : List Oper} {o : Oper} {a : Act} {Q : Exit → Act → World → Prop} (hgd : o.guard = none) (s x : Operand)
    (ho : o.op = .call { callee := .builtin .append, args := #[s, x], argTypes := #[145, 145] }) (base : Nat) (v : Value) (xs l : Pcs) (q : Option Addr) (m c : Nat) (hs : a.eval s = v) (hx : a.eval x = .slice q m c) (hm : m = l.length)
    (hown : POwn w base v xs) (hin : PcsIn w q l) (hp : q = none → c = 0) (hlen : xs.length + l.length ≤ 1000000) (hbase : base ≤ w.heap.size)
    (h : ∀ v' w', POwn w' base v' (xs ++ l) → w.grownBy w' v.ownBlock → wpList Tryz.prog ops Q rest (a.put o.dst v') w') : wpList Tryz.prog ops Q (o :: rest) a w := by
  subst hm
  refine wpList_plain hgd fun K hK => ?_
  obtain ⟨v', w', hr, h2, h3⟩ := run_append_pcs w o.type base v xs l q c hown hin hp hlen hbase
  unfold Oper.wp execOp
  simp only [ho, resolve, invoke, builtin, Sem.run_bind, Sem.run_pure, Result.andThen_ok, List.map_toArray, List.map_cons, List.map_nil, hs, hx, hr]
  exact hK _ _ (h v' w' h2 h3)
end Go.Proofs.YtghcmllmbpoidaaGreatDoor.Rm
namespace Go.Proofs.YtghcmllmbpoidaaGreatDoor
open Go.RowKit Go.WideShapes Go.ChangeShapes Go.Deep Go.Joins Rm
def wf64 (n : Int) : Prop := -9223372036854775808 ≤ n ∧ n ≤ 9223372036854775807
def FilesIn (w : World) (q : Option Addr) (l : List FileV) : Prop :=
  0 < l.length → ∃ b o, q = some ⟨b, o, none⟩ ∧ ∀ i, i < l.length → w.cell? ⟨b, o + i * 3, none⟩ = some (.string (l.getD i zeroF).name) ∧ w.cell? ⟨b, o + (i * 3 + 1), none⟩ = some (.int .i64 (l.getD i zeroF).size) ∧ ∃ v, w.cell? ⟨b, o + (i * 3 + 2), none⟩ = some v ∧ PIn w v (l.getD i zeroF).pcs
structure FIn (w : World) (v : Value) (l : List FileV) : Prop where
  lies : ∃ q c, v = .slice q l.length c ∧ FilesIn w q l ∧ l.length ≤ c ∧ c ≤ maxLen ∧ (q = none → c = 0)
  wf : ∀ f ∈ l, wf64 f.size
structure DirIn (w : World) (v : Value) (x : DirV) : Prop where
  lies : ∃ fv, v = .agg #[.int .i64 x.gen, fv] ∧ FIn w fv x.files
  wf : wf64 x.gen
structure FileIn (w : World) (v : Value) (f : FileV) : Prop where
  lies : ∃ pv, v = .agg #[.string f.name, .int .i64 f.size, pv] ∧ PIn w pv f.pcs
  wf : wf64 f.size
theorem FilesIn.below {w w' : World} {q : Option Addr} {l : List FileV} (h : FilesIn w q l) (hb : Below w.heap.size w w') : FilesIn w' q l := by
  intro hp
  obtain ⟨b, o, rfl, hc⟩ := h hp
  refine ⟨b, o, rfl, fun i hi => ?_⟩
  obtain ⟨e0, e1, v, e2, hv⟩ := hc i hi
  exact ⟨(hb.cell (World.block_lt_of_cell? _ _ e0)).trans e0, (hb.cell (World.block_lt_of_cell? _ _ e1)).trans e1, v, (hb.cell (World.block_lt_of_cell? _ _ e2)).trans e2, hv.below hb⟩
theorem FIn.below {w w' : World} {v : Value} {l : List FileV} (h : FIn w v l) (hb : Below w.heap.size w w') : FIn w' v l := by
  obtain ⟨q, c, h1, h2, h3⟩ := h.lies
  exact ⟨⟨q, c, h1, h2.below hb, h3⟩, h.wf⟩
theorem DirIn.below {w w' : World} {v : Value} {x : DirV} (h : DirIn w v x) (hb : Below w.heap.size w w') : DirIn w' v x := by
  obtain ⟨fv, h1, h2⟩ := h.lies
  exact ⟨⟨fv, h1, h2.below hb⟩, h.wf⟩
theorem FileIn.below {w w' : World} {v : Value} {f : FileV} (h : FileIn w v f) (hb : Below w.heap.size w w') : FileIn w' v f := by
  obtain ⟨pv, h1, h2⟩ := h.lies
  exact ⟨⟨pv, h1, h2.below hb⟩, h.wf⟩
theorem FilesIn.addr {w : World} {q : Option Addr} {l : List FileV} (h : FilesIn w q l) (hw : 0 < l.length) : ∃ b o, q = some ⟨b, o, none⟩ := by
  obtain ⟨b, o, e, _⟩ := h hw
  exact ⟨b, o, e⟩
theorem FilesIn.at {w : World} {b o : Nat} {l : List FileV} (h : FilesIn w (some ⟨b, o, none⟩) l) {k : Nat} (hk : k < l.length) :
    w.cell? ⟨b, o + k * 3, none⟩ = some (.string (l.getD k zeroF).name) ∧ w.cell? ⟨b, o + k * 3 + 1, none⟩ = some (.int .i64 (l.getD k zeroF).size) ∧ ∃ v, w.cell? ⟨b, o + k * 3 + 2, none⟩ = some v ∧ PIn w v (l.getD k zeroF).pcs := by
  obtain ⟨b', o', e, hc⟩ := h (by omega)
  simp only [Option.some.injEq, Addr.mk.injEq, and_true] at e
  obtain ⟨rfl, rfl⟩ := e
  obtain ⟨h1, h2, v, h3, h4⟩ := hc k hk
  exact ⟨h1, by rw [Nat.add_assoc]; exact h2, v, by rw [Nat.add_assoc]; exact h3, h4⟩
theorem files_snoc {l : List FileV} {k : Nat} (h : k < l.length) : l.take (k + 1) = l.take k ++ [l.getD k zeroF] := take_snoc h
theorem allPcs_snoc {l : List FileV} {k : Nat} (h : k < l.length) : allPcs (l.take (k + 1)) = allPcs (l.take k) ++ (l.getD k zeroF).pcs := by
  rw [files_snoc h]; unfold allPcs; rw [List.flatMap_append]; simp
theorem sumC_snoc {l : Pcs} {k : Nat} (h : k < l.length) : sumC (l.take (k + 1)) = sumC (l.take k) + (l.getD k (0, 0)).2 := by
  rw [take_snoc (d := (0, 0)) h]; unfold sumC; simp
end Go.Proofs.YtghcmllmbpoidaaGreatDoor
namespace Go.Proofs.YtghcmllmbpoidaaGreatDoor
open Go.RowKit Go.WideShapes Rm
theorem nameByte_r (c : Nat) (r : Bool) (hr : nameByte c = r) (w : World) (hc : c < 256) : Calls Tryz.prog 233 #[.int .u8 c] w fun e w' => e = .returned (.bool r) ∧ w' = w := by
  have HR : Hid (nameByte c = r) := hr
  clear hr
  have e1 : ((c : Int) == 45) = decide (c = 45) := by rw [Bool.eq_iff_iff]; simp; omega
  have e2 : ((c : Int) == 95) = decide (c = 95) := by rw [Bool.eq_iff_iff]; simp; omega
  have e3 : ((c : Int) == 46) = decide (c = 46) := by rw [Bool.eq_iff_iff]; simp; omega
  go_enter Tryz.func233, Tryz.ntmps233
  go_wp2
  all_goals
    go_ret
    refine ⟨?_, rfl⟩
    rw [← HR.out]
    show Ending.returned (Value.bool _) = _
    refine congrArg Ending.returned (congrArg Value.bool ?_)
    unfold nameByte
    rw [Bool.eq_iff_iff]
    simp
    try omega
theorem needs_any (n : Int) (w : World) (h : 0 ≤ n ∧ n ≤ 9223372036854775000) : Calls Tryz.prog 268 #[.int .i64 n] w fun e w' => e = .returned (.int .i64 (needsN n)) ∧ w' = w := by
  have HN : Hid (needsN n = (n + 128 - 1) / 128) := by show _ = _; unfold needsN; omega
  go_enter Tryz.func268, Tryz.ntmps268
  go_wp2
  go_ret
  exact ⟨by rw [HN.out]; rfl, rfl⟩
theorem small4_any (n : Int) (w : World) (h : 0 ≤ n ∧ n ≤ 9223372036854775807) : Calls Tryz.prog 95 #[.int .i64 n] w fun e w' => ∃ v, e = .returned v ∧ w'.ownsRow w.heap.size 5 1 v (smallN n.toNat).length (Bs (smallN n.toNat)) ∧ Below w.heap.size w w' := by
  obtain ⟨m, rfl⟩ := Int.eq_ofNat_of_zero_le h.1
  have hm : IntKind.u64.wrap (m : Int) = (m : Int) := by rw [IntKind.wrap_u64]; omega
  go_enter Tryz.func95, Tryz.ntmps95
  go_wp2_with (go_at_call 52; refine (small_any m _ (by omega)).mono ?_; rintro e w1 ⟨v, rfl, ho, hb⟩)
  go_ret
  exact ⟨v, rfl, ho, hb⟩
theorem str_at (s : ByteArray) (k : Nat) (h : k < s.size) (w : World) : (Instr.index 9 (.string s) (.int .i64 k)).run Tryz.prog w = .ok (.int .u8 ((numsOf s).getD k 0 : Nat)) w := by
  rw [run_index_string w 9 s .i64 k Tryz.underlying9, dif_pos ⟨by omega, by omega⟩]
  have h2 : k < (numsOf s).length := by rw [numsOf_len]; exact h
  rw [getD_eq h2]
  simp [numsOf, ByteArray.getElem_eq_getElem_data]
set_option maxHeartbeats 1000000 in
theorem isName_r (s : ByteArray) (r : Bool) (hr : isNameN s = r) (w : World) (hs : (s.size : Int) ≤ 9223372036854775807) : Calls Tryz.prog 177 #[.string s] w fun e w' => e = .returned (.bool r) ∧ w' = w := by
  have HR : Hid (isNameN s = r) := hr
  clear hr
  by_cases h1 : 1 ≤ s.size ∧ s.size ≤ 32
  · go_enter Tryz.func177, Tryz.ntmps177
    go_wp2
    go_loop [14] (fun i => ∃ k : Nat, k ≤ s.size ∧ i = .int .i64 k ∧ ∀ j, j < k → nameByte ((numsOf s).getD j 0) = true) (fun i => s.size - (intOf i).toNat)
    case atStart => exact ⟨0, by omega, rfl, fun j hj => absurd hj (by omega)⟩
    case round =>
      obtain ⟨k, hk, rfl, hall⟩ := hrel
      have HA : Hid (∀ j, j < k → nameByte ((numsOf s).getD j 0) = true) := hall
      clear hall
      by_cases hkl : k < s.size
      · have hx := str_at s k hkl
        have hlt := getD_lt (numsOf_lt s) k
        have HS : Hid (nameByte ((numsOf s).getD k 0) = false → isNameN s = false) := fun h => by
          unfold isNameN
          rw [List.all_eq_false.2 ⟨_, getD_mem' (d := 0) (by rw [numsOf_len]; exact hkl), by rw [h]; simp⟩, Bool.and_false]
        have HT : Hid (nameByte ((numsOf s).getD k 0) = true → ∀ j, j < k + 1 → nameByte ((numsOf s).getD j 0) = true) := fun h j hj => by
          rcases Nat.lt_or_ge j k with h' | h'
          · exact HA.out j h'
          · obtain rfl : j = k := by omega
            exact h
        clear HA
        generalize hcd : (numsOf s).getD k 0 = cc at *
        cases hb : nameByte cc with
        | true =>
          have HT2 := HT.out hb
          have HT3 : Hid _ := HT2
          clear HT2 HT HS
          go_wp2_with (go_at_call 233; refine (nameByte_r cc true hb _ hlt).mono ?_; rintro e w1 ⟨rfl, rfl⟩)
          go_round
          case rel => exact ⟨k + 1, by omega, by go_num, HT3.out⟩
          case measure => simp [intOf]; omega
        | false =>
          have HF : Hid (isNameN s = false) := HS.out hb
          clear HT HS
          go_wp2_with (go_at_call 233; refine (nameByte_r cc false hb _ hlt).mono ?_; rintro e w1 ⟨rfl, rfl⟩)
          go_ret
          exact ⟨by rw [← HR.out, HF.out]; rfl, rfl⟩
      · obtain rfl : k = s.size := by omega
        have HT : Hid (isNameN s = true) := by
          show _ = _
          unfold isNameN
          rw [decide_eq_true h1, Bool.true_and, List.all_eq_true]
          intro c hc
          obtain ⟨i, hi, rfl⟩ := List.getElem_of_mem hc
          have := HA.out i (by rw [← numsOf_len]; exact hi)
          rwa [getD_eq hi] at this
        clear HA
        go_wp2
        go_ret
        exact ⟨by rw [← HR.out, HT.out]; rfl, rfl⟩
  · have HF : Hid (isNameN s = false) := by show _ = _; unfold isNameN; rw [decide_eq_false h1]; rfl
    go_enter Tryz.func177, Tryz.ntmps177
    go_wp2
    all_goals
      go_ret
      refine ⟨?_, rfl⟩
      rw [← HR.out, HF.out]
      rfl
def NilOr8 (ok : Prop) (v : Value) : Prop := (ok ∧ v = .nilIface) ∨ (¬ ok ∧ Faults v 8)
theorem eqlK_step {l : Pcs} {k : Nat} (h : ∀ j, j < k → 80 ≤ (l.getD j (0, 0)).1) (h1 : 80 ≤ (l.getD k (0, 0)).1) : ∀ j, j < k + 1 → 80 ≤ (l.getD j (0, 0)).1 := by
  intro j hj
  rcases Nat.lt_or_ge j k with h' | h'
  · exact h j h'
  · obtain rfl : j = k := by omega
    exact h1
theorem sumC_bound {l : Pcs} (h : ∀ p ∈ l, 0 ≤ p.2 ∧ p.2 ≤ 4096) : ∀ k, 0 ≤ sumC (l.take k) ∧ sumC (l.take k) ≤ 4096 * k := by
  intro k
  induction k with
  | zero => simp [sumC]
  | succ k ih =>
    rcases Nat.lt_or_ge k l.length with hk | hk
    · rw [sumC_snoc hk]
      have := h _ (getD_mem' (d := (0, 0)) hk)
      omega
    · rw [List.take_of_length_le (by omega)]
      rw [List.take_of_length_le hk] at ih
      omega
set_option maxHeartbeats 1000000 in
theorem checkFile_any (v : Value) (f : FileV) (w : World) (hf : FileIn w v f) (hs : (f.name.size : Int) ≤ 9223372036854775807) (hw : ∀ p ∈ f.pcs, 0 ≤ p.2 ∧ p.2 ≤ 4096) (hl : f.pcs.length ≤ 1000000) :
    Calls Tryz.prog 227 #[v] w fun e w' => ∃ r, e = .returned r ∧ NilOr8 (FileOk f) r ∧ Below w.heap.size w w' := by
  obtain ⟨pv, rfl, hp⟩ := hf.lies
  obtain ⟨hz1, hz2⟩ := hf.wf
  have hbd := sumC_bound hw
  obtain ⟨name, size, l⟩ := f
  obtain ⟨q, c, rfl, hq, hlc, hcm, hqn⟩ := hp.lies
  simp only at hs hw hl hz1 hz2 hq hlc hbd
  have hwf := hp.wf
  unfold maxLen at hcm
  clear hf hp hqn
  have HQ : Hid (PcsIn w q l) := hq
  clear hq
  generalize hnm : isNameN name = nm
  cases nm with
  | false =>
    go_enter Tryz.func227, Tryz.ntmps227
    go_wp2_with (go_at_call 177; refine (isName_r name false hnm _ hs).mono ?_; rintro e w1 ⟨rfl, rfl⟩)
    go_ret
    refine ⟨_, rfl, .inr ⟨fun h => by rw [FileOk, hnm] at h; simp at h, Faults.one _ _⟩, ?_⟩
    exact below_alloc _ _
  | true =>
    by_cases h1 : 0 ≤ size ∧ size ≤ 524288
    · go_enter Tryz.func227, Tryz.ntmps227
      go_wp2_with (go_at_call 177; refine (isName_r name true hnm _ hs).mono ?_; rintro e w1 ⟨rfl, rfl⟩)
      go_loopw [3, 27] (fun m i wr => ∃ k : Nat, k ≤ l.length ∧ i = .int .i64 k ∧ m = .int .i64 (sumC (l.take k)) ∧ (∀ j, j < k → 80 ≤ (l.getD j (0, 0)).1) ∧ Below (w.heap.size + 1) (w.alloc (.cells #[.string name, .int .i64 size, .slice q l.length c] 147)) wr) (fun _ i _ => l.length - (intOf i).toNat)
      case atStart => exact ⟨0, by omega, rfl, rfl, fun j hj => absurd hj (by omega), Below.refl _ _⟩
      case round =>
        obtain ⟨k, hk, rfl, rfl, hlo, hbel⟩ := hrel
        have HLO : Hid (∀ j, j < k → 80 ≤ (l.getD j (0, 0)).1) := hlo
        clear hlo
        have hsz := hbel.size
        simp at hsz
        have hbw : Below w.heap.size w wr := box_below hbel
        have HBW : Hid (Below w.heap.size w wr) := hbw
        by_cases hkl : k < l.length
        · obtain ⟨b, o, rfl⟩ := HQ.out.addr (by omega)
          obtain ⟨e1, e2⟩ := (HQ.out.below hbw).at hkl
          have hwk := hw _ (getD_mem' (d := (0, 0)) hkl)
          have HS : Hid _ := sumC_snoc hkl
          obtain ⟨s1, s2⟩ := hbd k
          have HST : Hid (80 ≤ (l.getD k (0, 0)).1 → ∀ j, j < k + 1 → 80 ≤ (l.getD j (0, 0)).1) := eqlK_step HLO.out
          have HNO : Hid (¬ 80 ≤ (l.getD k (0, 0)).1 → ¬ FileOk ⟨name, size, l⟩) := fun h hf => h (hf.2.2.2.1 _ (getD_mem' (d := (0, 0)) hkl))
          clear HLO hbd hbw hw hwf
          generalize l.getD k (0, 0) = y at *
          obtain ⟨a, n⟩ := y
          generalize sumC (l.take k) = S at *
          simp only at e1 e2 hwk
          by_cases g : 80 ≤ a
          · have H3 : Hid (∀ j, j < k + 1 → 80 ≤ (l.getD j (0, 0)).1) := HST.out g
            clear HST HNO
            go_wp2
            go_roundw
            case rel => exact ⟨k + 1, by omega, by go_num, by rw [HS.out], H3.out, hbel.alloc (by omega) _⟩
            case measure => simp [intOf]; omega
          · have H3 : Hid (¬ FileOk ⟨name, size, l⟩) := HNO.out g
            clear HST HNO
            go_wp2
            go_ret
            exact ⟨_, rfl, .inr ⟨H3.out, Faults.one _ _⟩, HBW.out.alloc HBW.out.size _⟩
        · obtain rfl : k = l.length := by omega
          have HLO2 : Hid (∀ p ∈ l, 80 ≤ p.1) := by
            intro p hp
            obtain ⟨i, hi, rfl⟩ := List.getElem_of_mem hp
            have := HLO.out i hi
            rwa [getD_eq hi] at this
          have hfull : Below (w.heap.size + 1) (w.alloc (.cells #[.string name, .int .i64 size, .slice q l.length c] 147)) wr := hbel
          have c1 : wr.cell? ⟨w.heap.size, 1, none⟩ = some (.int .i64 size) := by rw [hbel.cell (by simp)]; simp
          rw [List.take_length]
          clear HLO hbd
          generalize hS : sumC l = S at *
          by_cases g : S = needsN size
          · have hne : (S != needsN size) = false := by simp [g]
            have HOK : Hid (FileOk ⟨name, size, l⟩) := ⟨hnm, h1.1, h1.2, HLO2.out, hS.trans g⟩
            clear hS g
            generalize hnn : needsN size = nn at *
            go_wp2_with (go_at_call 268; refine (needs_any size _ (by omega)).mono ?_; rintro e w1 ⟨rfl, rfl⟩; rw [hnn])
            go_ret
            exact ⟨_, rfl, .inl ⟨HOK.out, rfl⟩, HBW.out⟩
          · have hne : (S != needsN size) = true := by simpa using g
            have HNO : Hid (¬ FileOk ⟨name, size, l⟩) := fun h => g (hS.symm.trans h.2.2.2.2)
            clear hS g
            generalize hnn : needsN size = nn at *
            go_wp2_with (go_at_call 268; refine (needs_any size _ (by omega)).mono ?_; rintro e w1 ⟨rfl, rfl⟩; rw [hnn])
            go_ret
            exact ⟨_, rfl, .inr ⟨HNO.out, Faults.one _ _⟩, HBW.out⟩
    · go_enter Tryz.func227, Tryz.ntmps227
      go_wp2_with (go_at_call 177; refine (isName_r name true hnm _ hs).mono ?_; rintro e w1 ⟨rfl, rfl⟩)
      all_goals
        go_ret
        refine ⟨_, rfl, .inr ⟨fun h => h1 ⟨h.2.1, h.2.2.1⟩, Faults.one _ _⟩, ?_⟩
        exact below_alloc _ _
theorem box3 {w wr : World} {a b c : Value} {t : TypeId} (h : Below (w.heap.size + 1) (w.alloc (.cells #[a, b, c] t)) wr) :
    wr.cell? ⟨w.heap.size, 0, none⟩ = some a ∧ wr.cell? ⟨w.heap.size, 1, none⟩ = some b ∧ wr.cell? ⟨w.heap.size, 2, none⟩ = some c := by
  have hh : wr.heap[w.heap.size]? = some (.cells #[a, b, c] t (0, 0)) := (h.block _ (by omega)).trans (heap_alloc_new w _)
  exact ⟨cell_of_row _ _ _ _ _ _ hh, cell_of_row _ _ _ _ _ _ hh, cell_of_row _ _ _ _ _ _ hh⟩
set_option maxHeartbeats 1000000 in
theorem pieces_any (v : Value) (l : List FileV) (w : World) (hf : FIn w v l) (hsum : (allPcs l).length ≤ 1000000) :
    Calls Tryz.prog 134 #[v] w fun e w' => ∃ r, e = .returned r ∧ POwn w' w.heap.size r (allPcs l) ∧ Below w.heap.size w w' := by
  obtain ⟨q, c, rfl, hq, hlc, hcm, hqn⟩ := hf.lies
  have HQ : Hid (FilesIn w q l) := hq
  unfold maxLen at hcm
  clear hf hq hqn
  go_enter Tryz.func134, Tryz.ntmps134
  go_wp2
  go_loopw [3, 8] (fun m i wr => ∃ k : Nat, k ≤ l.length ∧ i = .int .i64 k ∧ POwn wr w.heap.size m (allPcs (l.take k)) ∧ Below w.heap.size w wr) (fun _ i _ => l.length - (intOf i).toNat)
  case atStart => exact ⟨0, by omega, rfl, pown_nil _ _, Below.refl _ _⟩
  case round =>
    obtain ⟨k, hk, rfl, hown, hbel⟩ := hrel
    have hsz := hbel.size
    have HB : Hid (Below w.heap.size w wr) := hbel
    by_cases hkl : k < l.length
    · obtain ⟨b, o, rfl⟩ := HQ.out.addr (by omega)
      obtain ⟨e0, e1, pv, e2, hp⟩ := (HQ.out.below hbel).at hkl
      have HA : Hid _ := allPcs_snoc hkl
      have hle : (allPcs (l.take (k + 1))).length ≤ (allPcs l).length := by
        conv => rhs; rw [← List.take_append_drop (k + 1) l]
        unfold allPcs
        rw [List.flatMap_append, List.length_append]
        omega
      rw [allPcs_snoc hkl, List.length_append] at hle
      clear hbel
      generalize l.getD k zeroF = y at *
      obtain ⟨nm, sz, pl⟩ := y
      obtain ⟨qp, cp, rfl, hqp, _, _, hqn⟩ := hp.lies
      simp only at e0 e1 e2 hqp hle
      have HP : Hid (PcsIn wr qp pl) := hqp
      clear hqp hp
      have hb3 := box3 (Below.refl (wr.heap.size + 1) (wr.alloc (.cells #[.string nm, .int .i64 sz, .slice qp pl.length cp] 147)))
      have hown2 := hown.below (below_alloc wr (.cells #[.string nm, .int .i64 sz, .slice qp pl.length cp] 147))
      have hp2 := HP.out.below (below_alloc wr (.cells #[.string nm, .int .i64 sz, .slice qp pl.length cp] 147))
      have HP2 : Hid _ := hp2
      have HO2 : Hid _ := hown2
      have HO : Hid _ := hown
      clear hp2 hown2 hown
      go_wp2_with (at_builtin; refine wpList_append_pcs _ rfl _ _ rfl w.heap.size _ (allPcs (l.take k)) pl qp pl.length cp rfl rfl rfl HO2.out HP2.out hqn (by omega) (by simp; omega) ?_; intro v' w2 hown3 hgrow)
      go_roundw
      case rel => exact ⟨k + 1, by omega, by go_num, by rw [HA.out]; exact hown3, (HB.out.alloc HB.out.size _).grown hgrow (by simp; omega) (fun x hx => (HO.out.lt x hx).1)⟩
      case measure => simp [intOf]; omega
    · obtain rfl : k = l.length := by omega
      rw [List.take_length] at hown
      clear hbel
      have HO : Hid _ := hown
      clear hown
      go_wp2
      go_ret
      exact ⟨_, rfl, HO.out, HB.out⟩
end Go.Proofs.YtghcmllmbpoidaaGreatDoor
namespace Go.Proofs.YtghcmllmbpoidaaGreatDoor
open Go.RowKit Go.WideShapes Go.Shelf Rm
structure Laid (w : World) : Prop where
  err : ErrT w
  tab : Lib.TabIs Tryz.prog w "internal/strconv.uint64pow10" .u64 Lib.pow10Tab
theorem g_pow : Tryz.prog.globalNamed "internal/strconv.uint64pow10" = some 1 := by kernel_rfl
theorem Laid.below {w w' : World} (h : Laid w) (hb : Below w.heap.size w w') : Laid w' := by
  refine ⟨h.err.below hb, ?_⟩
  have ht := h.tab
  unfold Lib.TabIs World.var? at ht ⊢
  rw [g_pow] at ht ⊢
  simp only [Option.bind_some] at ht ⊢
  have h2 : 1 < w.heap.size := by
    rcases Nat.lt_or_ge 1 w.heap.size with h | h
    · exact h
    · rw [Array.getElem?_eq_none h] at ht; cases ht
  rw [hb.block 1 h2]
  exact ht
theorem grow_below (w : World) (k : Nat) (os : Array Obj) : Below w.heap.size w (Sort.grow (w.drewN k) os) := by
  refine ⟨rfl, rfl, rfl, ?_, fun i hi => ?_⟩
  · show w.heap.size ≤ (w.heap ++ os).size
    simp
  · show (w.heap ++ os)[i]? = _
    rw [Array.getElem?_append_left hi]
theorem itoa_any (n : Nat) (hn : n < 9223372036854775808) (w : World) (hL : Laid w) :
    Calls Tryz.prog 27 #[.int .i64 n] w fun e w' => ∃ s, e = .returned (.string s) ∧ Below w.heap.size w w' := by
  refine (Any.strconv_Itoa laysItoa n (by omega) (by omega) w hL.tab).mono ?_
  rintro e w' ⟨rfl, k, os, rfl⟩
  exact ⟨_, rfl, grow_below _ _ _⟩
theorem digits_small : ∀ i, i < 100 → (Lib.decDigits i).length ≤ 2 := by decide +kernel
theorem itoa_small (n : Nat) (hn : n < 100) (w : World) :
    Calls Tryz.prog 27 #[.int .i64 n] w fun e w' => ∃ s : ByteArray, e = .returned (.string s) ∧ s.size ≤ 2 ∧ w' = w := by
  refine (Any.strconv_Itoa_small { laysItoa with } n hn w).mono ?_
  rintro e w' ⟨rfl, rfl⟩
  exact ⟨_, rfl, by have := digits_small n hn; show (Lib.decDigits n).toArray.size ≤ 2; simpa using this, rfl⟩
end Go.Proofs.YtghcmllmbpoidaaGreatDoor
namespace Go.Proofs.YtghcmllmbpoidaaGreatDoor
open Go.RowKit Go.WideShapes Rm
def ltS (a b : ByteArray) : Prop := Op.bytesLess a.toList b.toList = true
theorem str_geq (a b : ByteArray) (w : World) : (binOp .geq 9 (.string a) (.string b)).run Tryz.prog w = .ok (.bool (!Op.bytesLess a.toList b.toList)) w := by simp [binOp, Op.stringOp]
theorem below_drewN {B : Nat} {a w : World} (h : Below B a w) (n : Nat) : Below B a (w.drewN n) := ⟨h.os, h.tape, h.output, h.size, h.block⟩
theorem FIn.wfp {w : World} {v : Value} {l : List FileV} (h : FIn w v l) : Wf (allPcs l) := by
  obtain ⟨q, c, _, hq, _⟩ := h.lies
  intro y hy
  obtain ⟨f, hf, hp⟩ := List.mem_flatMap.1 hy
  obtain ⟨i, hi, rfl⟩ := List.getElem_of_mem hf
  obtain ⟨b, o, _, hc⟩ := hq (by omega)
  obtain ⟨_, _, pv, _, hv⟩ := hc i hi
  rw [getD_eq hi] at hv
  exact hv.wf y hp
theorem each_of {l : List FileV} (h : ∀ j, j < l.length → FileOk (l.getD j zeroF)) : ∀ f ∈ l, FileOk f := by
  intro f hf
  obtain ⟨i, hi, rfl⟩ := List.getElem_of_mem hf
  have := h i hi
  rwa [getD_eq hi] at this
theorem ok_step {l : List FileV} {k : Nat} (h : ∀ j, j < k → FileOk (l.getD j zeroF)) (h1 : FileOk (l.getD k zeroF)) : ∀ j, j < k + 1 → FileOk (l.getD j zeroF) := by
  intro j hj
  rcases Nat.lt_or_ge j k with h' | h'
  · exact h j h'
  · obtain rfl : j = k := by omega
    exact h1
theorem rise_step {l : List FileV} {k : Nat} (h : ∀ j, j + 1 < k + 1 → ltS (l.getD j zeroF).name (l.getD (j + 1) zeroF).name) (h1 : ltS (l.getD k zeroF).name (l.getD (k + 1) zeroF).name) : ∀ j, j + 1 < k + 1 + 1 → ltS (l.getD j zeroF).name (l.getD (j + 1) zeroF).name := by
  intro j hj
  rcases Nat.lt_or_ge j k with h' | h'
  · exact h j (by omega)
  · obtain rfl : j = k := by omega
    exact h1
set_option maxRecDepth 4000 in
set_option maxHeartbeats 2000000 in
theorem check4_any (v : Value) (x : DirV) (w : World) (hx : DirIn w v x) (hs : ∀ f ∈ x.files, (f.name.size : Int) ≤ 9223372036854775807) (hsum : (allPcs x.files).length ≤ 1000000) :
    Calls Tryz.prog 173 #[v] w fun e w' => ∃ r, e = .returned r ∧ NilOr8 (May ltS x) r ∧ Below w.heap.size w w' := by
  obtain ⟨fv, rfl, hf⟩ := hx.lies
  obtain ⟨gen, l⟩ := x
  have hgw := hx.wf
  unfold wf64 at hgw
  have HF : Hid (FIn w fv l) := hf
  obtain ⟨q, c, rfl, hq, hlc, hcm, hqn⟩ := hf.lies
  have hwf := hf.wf
  unfold maxLen at hcm
  simp only at hs hsum hlc hgw ⊢
  have HQ : Hid (FilesIn w q l) := hq
  have HWF : Hid (∀ f ∈ l, wf64 f.size) := hwf
  have HSZ : Hid (∀ f ∈ l, (f.name.size : Int) ≤ 9223372036854775807) := hs
  clear hq hqn hf hx hwf hs
  by_cases h1 : 1 ≤ gen ∧ gen < 4611686018427387904
  · by_cases h2 : l.length ≤ 32
    · go_enter Tryz.func173, Tryz.ntmps173
      go_wp2
      go_loopw [29] (fun i wr => ∃ k : Nat, k ≤ l.length ∧ i = .int .i64 k ∧ (∀ j, j + 1 < k → ltS (l.getD j zeroF).name (l.getD (j + 1) zeroF).name) ∧ Below (w.heap.size + 1) (w.alloc (.cells #[.int .i64 gen, .slice q l.length c] 142)) wr) (fun i _ => l.length - (intOf i).toNat)
      case atStart => exact ⟨0, by omega, rfl, fun j hj => absurd hj (by omega), Below.refl _ _⟩
      case round =>
        obtain ⟨k, hk, rfl, hrise, hbel⟩ := hrel
        have HR : Hid (∀ j, j + 1 < k → ltS (l.getD j zeroF).name (l.getD (j + 1) zeroF).name) := hrise
        clear hrise
        have hsz := hbel.size
        simp at hsz
        have hbw : Below w.heap.size w wr := box_below hbel
        have HBW : Hid (Below w.heap.size w wr) := hbw
        obtain ⟨d0, d1⟩ := box2 hbel
        by_cases hkl : k < l.length
        · obtain ⟨b, o, rfl⟩ := HQ.out.addr (by omega)
          obtain ⟨e0, e1, pv, e2, hp⟩ := (HQ.out.below hbw).at hkl
          obtain ⟨qp, cp, rfl, _⟩ := hp.lies
          rcases k with _ | k
          · clear HR
            clear hp
            generalize l.getD 0 zeroF = y at *
            obtain ⟨nm, sz, pl⟩ := y
            simp only [Nat.zero_mul, Nat.add_zero] at e0 e1 e2
            go_wp2
            go_quiet (fail)
            go_wp2
            go_roundw
            case rel => exact ⟨1, by omega, by go_num, fun j hj => absurd hj (by omega), below_drewN (hbel.alloc (by omega) _) _⟩
            case measure => simp [intOf]; omega
          · obtain ⟨p0, _⟩ := (HQ.out.below hbw).at (k := k) (by omega)
            have HST : Hid (ltS (l.getD k zeroF).name (l.getD (k + 1) zeroF).name → ∀ j, j + 1 < k + 1 + 1 → ltS (l.getD j zeroF).name (l.getD (j + 1) zeroF).name) := rise_step HR.out
            have HNO : Hid (¬ ltS (l.getD k zeroF).name (l.getD (k + 1) zeroF).name → ¬ May ltS ⟨gen, l⟩) := fun h hm => h (hm.rise k hkl)
            clear HR
            clear hp
            generalize l.getD (k + 1) zeroF = y at *
            generalize l.getD k zeroF = z at *
            obtain ⟨nm, sz, pl⟩ := y
            obtain ⟨nm0, sz0, pl0⟩ := z
            simp only at e0 e1 e2 p0
            have d1' : (wr.alloc (.cells #[.string nm, .int .i64 sz, .slice qp pl.length cp] 147)).cell? ⟨w.heap.size, 1, none⟩ = some (.slice (some ⟨b, o, none⟩) l.length c) := by rw [World.cell?_alloc_lt _ _ _ (by simp; omega)]; exact d1
            have p0' : (wr.alloc (.cells #[.string nm, .int .i64 sz, .slice qp pl.length cp] 147)).cell? ⟨b, o + k * 3, none⟩ = some (.string nm0) := by rw [World.cell?_alloc_lt _ _ _ (World.block_lt_of_cell? _ _ p0)]; exact p0
            have hgeq := str_geq
            by_cases g : ltS nm0 nm
            · have H2 : Hid _ := HST.out g
              unfold ltS at g
              clear HST HNO
              go_wp2
              go_quiet (fail)
              go_wp2
              go_roundw
              case rel => exact ⟨k + 1 + 1, by omega, by go_num, H2.out, below_drewN (hbel.alloc (by omega) _) _⟩
              case measure => simp [intOf]; omega
            · have H2 : Hid (¬ May ltS ⟨gen, l⟩) := HNO.out g
              unfold ltS at g
              simp only [Bool.not_eq_true] at g
              clear HST HNO
              go_wp2
              go_quiet (fail)
              go_wp2
              go_ret
              exact ⟨_, rfl, .inr ⟨H2.out, Faults.one _ _⟩, below_drewN (HBW.out.alloc HBW.out.size _) _⟩
        · obtain rfl : k = l.length := by omega
          have HRI : Hid (Rises ltS l) := HR.out
          have hpc := pieces_any _ l wr (HF.out.below hbw) hsum
          have HWP : Hid (Wf (allPcs l)) := HF.out.wfp
          have HBE : Hid _ := hbel
          clear HR hbel hbw
          go_wp2_with fail
          refine hpc.mono ?_
          rintro e w1 ⟨r1, rfl, ho1, hb1⟩
          have hck := Rm.check_any 4096 r1 (allPcs l) w1 (ho1.pin HWP.out)
          clear ho1
          have hsz1 := hb1.size
          go_wp2_with fail
          refine hck.mono ?_
          rintro e w2 ⟨rfl, hb2⟩
          have hsz2 := hb2.size
          have hbel2 : Below (w.heap.size + 1) (w.alloc (.cells #[.int .i64 gen, .slice q l.length c] 142)) w2 := (HBE.out.trans (hb1.mono hsz)).trans (hb2.mono (by omega))
          obtain ⟨d0, d1⟩ := box2 hbel2
          have HB2 : Hid (Below w.heap.size w w2) := box_below hbel2
          clear hpc hck hb1 hb2 HBE HBW
          by_cases h3 : errK 4096 (allPcs l) = 0
          · have HK : Hid (errK 4096 (allPcs l) = 0) := h3
            rw [h3]
            clear h3
            go_wp2
            go_loopw [63] (fun i wr => ∃ k : Nat, k ≤ l.length ∧ i = .int .i64 k ∧ (∀ j, j < k → FileOk (l.getD j zeroF)) ∧ Below (w.heap.size + 1) (w.alloc (.cells #[.int .i64 gen, .slice q l.length c] 142)) wr) (fun i _ => l.length - (intOf i).toNat)
            case atStart => exact ⟨0, by omega, rfl, fun j hj => absurd hj (by omega), hbel2⟩
            case round =>
              clear hbel2 d0 d1 HB2 hsz hsz1 hsz2
              obtain ⟨k, hk, rfl, hok, hbel⟩ := hrel
              have HOK : Hid (∀ j, j < k → FileOk (l.getD j zeroF)) := hok
              clear hok
              have hsz := hbel.size
              simp at hsz
              have hbw : Below w.heap.size w wr := box_below hbel
              have HBW : Hid (Below w.heap.size w wr) := hbw
              by_cases hkl : k < l.length
              · obtain ⟨b, o, rfl⟩ := HQ.out.addr (by omega)
                obtain ⟨e0, e1, pv, e2, hp⟩ := (HQ.out.below hbw).at hkl
                have hfin : FileIn wr (.agg #[.string (l.getD k zeroF).name, .int .i64 (l.getD k zeroF).size, pv]) (l.getD k zeroF) := ⟨⟨pv, rfl, hp⟩, HWF.out _ (getD_mem' hkl)⟩
                have hgood := (errK_zero HK.out).2.2
                have hcf := checkFile_any _ (l.getD k zeroF) _ (hfin.below (below_alloc wr (.cells #[.string (l.getD k zeroF).name, .int .i64 (l.getD k zeroF).size, pv] 147))) (HSZ.out _ (getD_mem' hkl))
                  (fun p hp => by have := hgood.wn p (mem_allPcs (getD_mem' hkl) hp); unfold Wn at this; omega) (by have := len_allPcs (getD_mem' (d := zeroF) hkl); omega)
                have HST : Hid (FileOk (l.getD k zeroF) → ∀ j, j < k + 1 → FileOk (l.getD j zeroF)) := ok_step HOK.out
                have HNO : Hid (¬ FileOk (l.getD k zeroF) → ¬ May ltS ⟨gen, l⟩) := fun h hm => h (hm.each _ (getD_mem' hkl))
                obtain ⟨qp, cp, rfl, _⟩ := hp.lies
                clear HOK hbw hgood hfin hp
                generalize l.getD k zeroF = y at *
                obtain ⟨nm, sz, pl⟩ := y
                simp only at e0 e1 e2 hcf
                go_wp2_with fail
                refine hcf.mono ?_
                rintro e w3 ⟨r, rfl, hr, hb3⟩
                have hsz3 := hb3.size
                simp at hsz3
                have HB3 : Hid (Below wr.heap.size wr w3) := (below_alloc wr _).trans (hb3.mono (by simp))
                clear hcf hb3
                rcases hr with ⟨hok, rfl⟩ | ⟨hno, hfl⟩
                · have H3 : Hid _ := HST.out hok
                  clear HST HNO
                  go_wp2
                  go_roundw
                  case rel => exact ⟨k + 1, by omega, by go_num, H3.out, hbel.trans (HB3.out.mono hsz)⟩
                  case measure => simp [intOf]; omega
                · have H3 : Hid (¬ May ltS ⟨gen, l⟩) := HNO.out hno
                  have HFL : Hid (Faults r 8) := hfl
                  obtain ⟨tx, vx, rfl⟩ := hfl.iface
                  clear HST HNO hfl hno
                  go_wp2_with (go_at_call 27; refine (itoa_small k (by omega) _).mono ?_; rintro e w4 ⟨st, rfl, hst, rfl⟩)
                  go_ret
                  exact ⟨_, rfl, .inr ⟨H3.out, .more _ HFL.out⟩, HBW.out.trans (HB3.out.mono HBW.out.size)⟩
              · obtain rfl : k = l.length := by omega
                have HM : Hid (May ltS ⟨gen, l⟩) := ⟨h1.1, h1.2, h2, HRI.out, HK.out, each_of HOK.out⟩
                clear HOK
                go_wp2
                go_ret
                exact ⟨_, rfl, .inl ⟨HM.out, rfl⟩, HBW.out⟩
          · have hne : (errK 4096 (allPcs l) != 0) = true := by simpa using h3
            have H3 : Hid (¬ May ltS ⟨gen, l⟩) := fun h => h3 h.pcs
            generalize errK 4096 (allPcs l) = E at *
            clear h3
            go_wp2
            go_ret
            exact ⟨_, rfl, .inr ⟨H3.out, Faults.one _ _⟩, HB2.out⟩
    · go_enter Tryz.func173, Tryz.ntmps173
      go_wp2
      go_ret
      exact ⟨_, rfl, .inr ⟨fun h => h2 h.many, Faults.one _ _⟩, below_alloc _ _⟩
  · go_enter Tryz.func173, Tryz.ntmps173
    go_wp2
    all_goals
      go_ret
      exact ⟨_, rfl, .inr ⟨fun h => h1 ⟨h.lo, h.hi⟩, Faults.one _ _⟩, below_alloc _ _⟩
end Go.Proofs.YtghcmllmbpoidaaGreatDoor
