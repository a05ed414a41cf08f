/-
  A change's bytes behind others (appendChange); two rows of bytes as one (slices.Concat).
-/
import Derived.Test.YtkecajgdmompcaaDoorJ01
import Derived.Laws.AppendOwnNone
import Derived.Lib.AppendStr
import Derived.Deep.RegionLaw
import Derived.LaidEql
import Derived.Stop.Asserts
import Derived.RowKitTokens
import Derived.Lib.AppendZeros
namespace Go.Proofs.YtkecajgdmompcaaDoor
open Go.RowKit Go.WideShapes

theorem bin_cells {w : World} {b o : Nat} {ys : List Nat} (h : BIn w (some ⟨b, o, none⟩) ys) : ∀ j u, (Bs ys)[j]? = some u → w.cell? ((⟨b, o, none⟩ : Addr).add j) = some u := by
  intro j u hu
  have hj : j < ys.length := by
    rcases Nat.lt_or_ge j ys.length with h | h
    · exact h
    · simp [Bs, List.getElem?_eq_none h] at hu
  rw [add_plain, h.cell j hj]
  simp [Bs, List.getElem?_eq_getElem hj] at hu
  simp [List.getD, List.getElem?_eq_getElem hj, ← hu]
theorem Bs_one (ys : List Nat) : ∀ u ∈ Bs ys, u.oneCell' = true := by
  intro u hu
  simp only [Bs, List.mem_map] at hu
  obtain ⟨b, _, rfl⟩ := hu
  rfl

/-- Appending bytes, wherever they lie, to a row of one's own. -/
theorem run_append_bytes (w : World) (base : Nat) (ty : TypeId) (v : Value) (xs ys : List Nat) (p : Option Addr) (c : Nat) (hown : w.ownsRow base 5 1 v xs.length (Bs xs)) (hin : BIn w p ys) (hp : p = none → c = 0)
    (hlen : xs.length + ys.length ≤ 140737488355328) (hbase : base ≤ w.heap.size) :
    ∃ v' w', (Builtin.append_ #[43, 43] ty #[v, .slice p ys.length c]).run Tryd.prog w = .ok v' w' ∧ w'.ownsRow base 5 1 v' (xs ++ ys).length (Bs (xs ++ ys)) ∧ w.grownBy w' v.ownBlock := by
  obtain ⟨i0, hi, hz0, hz1, hz2⟩ := info_parts info5
  have hmax : xs.length + ys.length ≤ maxLen := by unfold maxLen; omega
  cases p with
  | none =>
    obtain rfl : ys = [] := by
      cases ys with
      | nil => rfl
      | cons y ys => obtain ⟨b, o, e, _⟩ := hin.1 (by simp); cases e
    obtain rfl := hp rfl
    exact ⟨v, w, run_append_owned_none (P := Tryd.prog) w base 43 ty 5 i0 1 Tryd.underlying43 hi v xs.length (Bs xs) hown, by simpa using hown, ⟨rfl, rfl, rfl, Nat.le_refl _, fun _ _ _ => rfl⟩⟩
  | some ad =>
    have hc : ∀ j u, (Bs ys)[j]? = some u → w.cell? (ad.add j) = some u := by
      intro j u hu
      have hpos : 0 < ys.length := by
        cases ys with
        | nil => simp [Bs] at hu
        | cons y ys => simp
      obtain ⟨b, o, e, _⟩ := hin.1 hpos
      simp at e
      subst e
      exact bin_cells hin j u hu
    obtain ⟨v', w', h1, h2, h3, _⟩ := run_append_own (P := Tryd.prog) w base 43 ty 5 i0 (.int .u8 0) 1 1 Tryd.underlying43 hi hz0 hz1 hz2 rfl (by decide) v xs.length (Bs xs) hown ad ys.length c (Bs ys) (by simp [Bs]) hc (Bs_one ys) hmax (by omega) hbase
    exact ⟨v', w', h1, by simpa [Bs_app] using h2, h3⟩
theorem wpList_append_bytes (w : World) {ops : Array Oper} {rest : List Oper} {o : Oper} {a : Act} {Q : Exit → Act → World → Prop} (hgd : o.guard = none) (s x : Operand)
    (ho : o.op = .call { callee := .builtin .append, args := #[s, x], argTypes := #[43, 43] }) (base : Nat) (v : Value) (xs ys : List Nat) (p : Option Addr) (m c : Nat) (hs : a.eval s = v) (hx : a.eval x = .slice p m c) (hm : m = ys.length)
    (hown : w.ownsRow base 5 1 v xs.length (Bs xs)) (hin : BIn w p ys) (hp : p = none → c = 0) (hlen : xs.length + ys.length ≤ 140737488355328) (hbase : base ≤ w.heap.size)
    (h : ∀ v' w', w'.ownsRow base 5 1 v' (xs ++ ys).length (Bs (xs ++ ys)) → w.grownBy w' v.ownBlock → wpList Tryd.prog ops Q rest (a.put o.dst v') w') : wpList Tryd.prog ops Q (o :: rest) a w := by
  subst hm
  refine wpList_plain hgd fun K hK => ?_
  obtain ⟨v', w', hr, h2, h3⟩ := run_append_bytes w base o.type v xs ys p c hown hin hp hlen hbase
  unfold Oper.wp execOp
  simp only [ho, resolve, invoke, builtin, Sem.run_bind, Sem.run_pure, Result.andThen_ok, List.map_toArray, List.map_cons, List.map_nil, hs, hx, hr]
  exact hK _ _ (h v' w' h2 h3)
/-- The same, of an operation whose guard says yes. -/
theorem wpList_append_bytes_on (w : World) {ops : Array Oper} {rest : List Oper} {o : Oper} {a : Act} {Q : Exit → Act → World → Prop} (hw : Region.wanted o (yielded ops a.tmps) = true) (s x : Operand)
    (ho : o.op = .call { callee := .builtin .append, args := #[s, x], argTypes := #[43, 43] }) (base : Nat) (v : Value) (xs ys : List Nat) (p : Option Addr) (m c : Nat) (hs : a.eval s = v) (hx : a.eval x = .slice p m c) (hm : m = ys.length)
    (hown : w.ownsRow base 5 1 v xs.length (Bs xs)) (hin : BIn w p ys) (hp : p = none → c = 0) (hlen : xs.length + ys.length ≤ 140737488355328) (hbase : base ≤ w.heap.size)
    (h : ∀ v' w', w'.ownsRow base 5 1 v' (xs ++ ys).length (Bs (xs ++ ys)) → w.grownBy w' v.ownBlock → wpList Tryd.prog ops Q rest (a.put o.dst v') w') : wpList Tryd.prog ops Q (o :: rest) a w := by
  subst hm
  refine wpList_step fun K hK => ?_
  rw [if_pos hw]
  obtain ⟨v', w', hr, h2, h3⟩ := run_append_bytes w base o.type v xs ys p c hown hin hp hlen hbase
  unfold Oper.wp execOp
  simp only [ho, resolve, invoke, builtin, Sem.run_bind, Sem.run_pure, Result.andThen_ok, List.map_toArray, List.map_cons, List.map_nil, hs, hx, hr]
  exact hK _ _ (h v' w' h2 h3)
theorem step_append_bytes {ops : Array Oper} {o : Oper} {a : Act} {w : World} {K : Act → World → Prop} {Q : Exit → Act → World → Prop} {E : Prop} (hgd : o.guard = none) (s x : Operand)
    (ho : o.op = .call { callee := .builtin .append, args := #[s, x], argTypes := #[43, 43] }) (base : Nat) (v : Value) (xs ys : List Nat) (p : Option Addr) (m c : Nat) (hs : a.eval s = v) (hx : a.eval x = .slice p m c) (hm : m = ys.length)
    (hown : w.ownsRow base 5 1 v xs.length (Bs xs)) (hin : BIn w p ys) (hp : p = none → c = 0) (hlen : xs.length + ys.length ≤ 140737488355328) (hbase : base ≤ w.heap.size)
    (h : ∀ v' w', w'.ownsRow base 5 1 v' (xs ++ ys).length (Bs (xs ++ ys)) → w.grownBy w' v.ownBlock → K (a.put o.dst v') w') : if Region.wanted o (yielded ops a.tmps) = true then Oper.wp Tryd.prog o a w K Q else E := by
  subst hm
  have hw : Region.wanted o (yielded ops a.tmps) = true := by simp [Region.wanted, hgd]
  rw [if_pos hw]
  obtain ⟨v', w', hr, h2, h3⟩ := run_append_bytes w base o.type v xs ys p c hown hin hp hlen hbase
  unfold Oper.wp execOp
  simp only [ho, resolve, invoke, builtin, Sem.run_bind, Sem.run_pure, Result.andThen_ok, List.map_toArray, List.map_cons, List.map_nil, hs, hx, hr]
  exact h v' w' h2 h3

/-- A string's bytes as numbers. -/
def numsOf (s : ByteArray) : List Nat := s.data.toList.map UInt8.toNat
theorem numsOf_len (s : ByteArray) : (numsOf s).length = s.size := by rw [numsOf, List.length_map, Array.length_toList]; rfl
theorem numsOf_lt (s : ByteArray) : ∀ c ∈ numsOf s, c < 256 := by
  intro c hc
  simp only [numsOf, List.mem_map] at hc
  obtain ⟨b, _, rfl⟩ := hc
  exact b.toNat_lt
theorem strCells_Bs (s : ByteArray) : Lib.strCells s = Bs (numsOf s) := by unfold Lib.strCells Bs numsOf; rw [List.map_map]; rfl
theorem strOf_nums (s : ByteArray) : strOf (numsOf s) = s := by
  apply bytes_inj
  rw [strOf_list, numsOf, List.map_map]
  conv => rhs; rw [← List.map_id s.data.toList]
  congr 1
  funext b
  simp
def textN (s : ByteArray) : List Nat := smallN s.size ++ numsOf s

set_option maxHeartbeats 400000 in
theorem text_any (s : ByteArray) (w : World) (hs : s.size ≤ 100000) :
    Calls Tryd.prog 31 #[.string s] w fun e w' => ∃ v, e = .returned v ∧ w'.ownsRow w.heap.size 5 1 v (textN s).length (Bs (textN s)) ∧ Below w.heap.size w w' := by
  obtain ⟨i0, hi, hz0, hz1, hz2⟩ := info_parts info5
  have hten := smallN_ten s.size (by omega)
  go_enter Tryd.func31, Tryd.ntmps31
  go_wp2_with fail
  refine (small_any s.size w (by omega)).mono ?_
  rintro e w1 ⟨v, rfl, hown, hb⟩
  have hsz := hb.size
  go_wp2_with (at_builtin; refine Lib.wpList_append_own_string _ rfl _ _ 43 9 rfl w.heap.size 5 i0 Tryd.underlying43 Tryd.underlying9 hi hz0 hz1 hz2 _ _ _ rfl hown s rfl ?c3 ?c4 hsz ?_)
  case c3 => unfold maxLen; omega
  case c4 => omega
  intro v' w2 hown' hgrow _
  have R : w2.ownsRow w.heap.size 5 1 v' (textN s).length (Bs (textN s)) := by simpa [textN, numsOf_len, Bs_app, strCells_Bs] using hown'
  have hb2 := hb.grown hgrow hsz (fun k hk => (hown.lt k hk).1)
  clear hown' hgrow hown
  go_wp2
  go_ret
  exact ⟨v', rfl, R, hb2⟩
end Go.Proofs.YtkecajgdmompcaaDoor
namespace Go.Proofs.YtkecajgdmompcaaDoor
open Go.RowKit Go.WideShapes

theorem readAux_some (ys : List Nat) : ∀ {i acc n k : Nat}, i ≤ 9 → acc < 2 ^ (7 * i) → readAux i acc ys = some (n, k) → i < k ∧ k ≤ i + ys.length ∧ k ≤ 10 ∧ n < 18446744073709551616 := by
  induction ys with
  | nil => intro i acc n k _ _ h; simp [readAux] at h
  | cons c ys ih =>
    intro i acc n k hi hacc h
    by_cases h9 : i = 9 ∧ 1 < c
    · rw [aux_big h9] at h; cases h
    · by_cases hc : 128 ≤ c
      · rw [aux_hi h9 hc] at h
        have := ih (by omega) (acc_lt i acc c hacc) h
        simp; omega
      · by_cases h0 : c = 0 ∧ 0 < i
        · rw [aux_zero h9 hc h0] at h; cases h
        · rw [aux_end h9 hc h0] at h
          simp only [Option.some.injEq, Prod.mk.injEq] at h
          have := read_fits i acc c hi hacc (by omega)
          simp; omega
theorem readN_some {xs : List Nat} {n k : Nat} (h : readN xs = some (n, k)) : 1 ≤ k ∧ k ≤ xs.length ∧ k ≤ 10 ∧ n < 18446744073709551616 := by
  have := readAux_some xs (by omega) (by decide) h
  omega

theorem read_some (p : Option Addr) (len cap : Nat) (xs : List Nat) (w : World) (n k : Nat) (hlen : len = xs.length) (hb : BIn w p xs) (hm : xs.length ≤ maxLen) (hr : readN xs = some (n, k)) :
    Calls Tryd.prog 38 #[.slice p len cap] w fun e w' => e = .returned (.tuple #[.int .u64 n, .int .i64 k, .int .i64 0]) ∧ w' = w := by
  subst hlen
  refine (read_any p cap xs w hb hm).mono fun e w' h => ⟨?_, h.2⟩
  rw [h.1, hr]; rfl
theorem read_none (p : Option Addr) (len cap : Nat) (xs : List Nat) (w : World) (hlen : len = xs.length) (hb : BIn w p xs) (hm : xs.length ≤ maxLen) (hr : readN xs = none) :
    Calls Tryd.prog 38 #[.slice p len cap] w fun e w' => e = .returned (.tuple #[.int .u64 0, .int .i64 0, .int .i64 8]) ∧ w' = w := by
  subst hlen
  refine (read_any p cap xs w hb hm).mono fun e w' h => ⟨?_, h.2⟩
  rw [h.1, hr]; rfl
set_option maxHeartbeats 400000 in
theorem cut_none (p : Option Addr) (cap : Nat) (xs : List Nat) (w : World) (hb : BIn w p xs) (hm : xs.length ≤ maxLen) (hr : readN xs = none) :
    Calls Tryd.prog 39 #[.slice p xs.length cap] w fun e w' => e = .returned (.tuple #[.string ByteArray.empty, .slice none 0 0, .int .i64 8]) ∧ w' = w := by
  have HR : Hid _ := hr
  clear hr
  go_enter Tryd.func39, Tryd.ntmps39
  go_wp2_with fail
  refine (read_none p xs.length cap xs w rfl hb hm HR.out).mono ?_
  rintro e w1 ⟨rfl, rfl⟩
  go_wp2
  go_ret3
  exact ⟨rfl, rfl⟩
set_option maxHeartbeats 400000 in
theorem cut_long (p : Option Addr) (cap : Nat) (xs : List Nat) (w : World) (hb : BIn w p xs) (hm : xs.length ≤ maxLen) (n k : Nat) (hr : readN xs = some (n, k)) (hl : xs.length < k + n) :
    Calls Tryd.prog 39 #[.slice p xs.length cap] w fun e w' => e = .returned (.tuple #[.string ByteArray.empty, .slice none 0 0, .int .i64 8]) ∧ w' = w := by
  obtain ⟨k1, k2, k3, k4⟩ := readN_some hr
  have hm' := hm
  unfold maxLen at hm'
  have HR : Hid _ := hr
  clear hr
  go_enter Tryd.func39, Tryd.ntmps39
  go_wp2_with fail
  refine (read_some p xs.length cap xs w n k rfl hb hm HR.out).mono ?_
  rintro e w1 ⟨rfl, rfl⟩
  clear HR hb
  go_wp2
  go_ret3
  exact ⟨rfl, rfl⟩
/-- Where a part of a row of bytes lies. -/
theorem bin_part {w : World} {b o : Nat} {xs : List Nat} (h : BIn w (some ⟨b, o, none⟩) xs) (cap k : Nat) (hcap : xs.length ≤ cap) (n : Nat) : BIn w (if cap = k then some ⟨b, o, none⟩ else some ⟨b, o + k, none⟩) ((xs.drop k).take n) := by
  refine ⟨fun hp => ?_, fun c hc => h.2 c (List.mem_of_mem_drop (List.mem_of_mem_take hc))⟩
  simp at hp
  rw [if_neg (by omega)]
  refine ⟨b, o + k, rfl, fun i hi => ?_⟩
  simp at hi
  have := h.cell (k + i) (by omega)
  rw [Nat.add_assoc, this]
  simp [List.getD, show i < n from by omega]
theorem conv_at {w : World} {p : Option Addr} {xs : List Nat} {n c : Nat} (h : BIn w p xs) (hn : n = xs.length) : (convert 43 9 (.slice p n c)).run Tryd.prog w = .ok (.string (strOf xs)) w := by
  subst hn; exact h.conv c
set_option maxHeartbeats 400000 in
theorem cut_ok (p : Option Addr) (cap : Nat) (xs : List Nat) (w : World) (hb : BIn w p xs) (hm : xs.length ≤ 100000) (hcap : xs.length ≤ cap) (n k : Nat) (hr : readN xs = some (n, k)) (hl : k + n ≤ xs.length) :
    Calls Tryd.prog 39 #[.slice p xs.length cap] w fun e w' => ∃ v, e = .returned (.tuple #[.string (strOf ((xs.drop k).take n)), v, .int .i64 0]) ∧ w'.ownsRow w.heap.size 5 1 v (xs.drop (k + n)).length (Bs (xs.drop (k + n))) ∧ Below w.heap.size w w' := by
  obtain ⟨k1, k2, k3, k4⟩ := readN_some hr
  obtain ⟨b, o, rfl, hc⟩ := hb.1 (by omega)
  have HR : Hid _ := hr
  clear hr
  have hm' : xs.length ≤ maxLen := by unfold maxLen; omega
  go_enter Tryd.func39, Tryd.ntmps39
  go_wp2_with fail
  refine (read_some _ xs.length cap xs w n k rfl hb hm' HR.out).mono ?_
  rintro e w1 ⟨rfl, rfl⟩
  clear HR hm'
  go_wp2_with fail
  have q1 : (0 : Int) ≤ (k : Int) + n ∧ (k : Int) + n ≤ cap := by omega
  have q2 : ((k : Int) + n).toNat = k + n := by omega
  have q3 : k ≤ k + n := by omega
  have q4 : (k : Int) + n ≤ xs.length := by omega
  have B1 := bin_part hb cap k hcap n
  have B2 := bin_part hb cap (k + n) hcap xs.length
  have l1 : n = ((xs.drop k).take n).length := by simp; omega
  have l2 : xs.length - (k + n) = ((xs.drop (k + n)).take xs.length).length := by simp
  have e2 : Hid ((xs.drop (k + n)).take xs.length = xs.drop (k + n)) := List.take_of_length_le (by simp)
  obtain ⟨A1, hA1⟩ : ∃ A, (if cap = k then some (⟨b, o, none⟩ : Addr) else some ⟨b, o + k, none⟩) = A := ⟨_, rfl⟩
  obtain ⟨A2, hA2⟩ : ∃ A, (if cap = k + n then some (⟨b, o, none⟩ : Addr) else some ⟨b, o + (k + n), none⟩) = A := ⟨_, rfl⟩
  rw [hA1] at B1
  rw [hA2] at B2
  clear hb hc
  have HB1 : Hid _ := B1
  have HB2 : Hid _ := B2
  have cv0 := conv_at (c := cap - k) (show BIn w1.drew A1 _ from B1) l1
  clear B1 B2 
  have L1 : Hid _ := l1
  have L2 : Hid _ := l2
  clear l1 l2
  have P2 : Hid (A2 = none → cap - (k + n) = 0) := by show _ → _; intro h; rw [h] at hA2; split at hA2 <;> cases hA2
  have Z2 : Hid (([] : List Nat).length + ((xs.drop (k + n)).take xs.length).length ≤ 140737488355328) := by show _ ≤ _; simp; omega
  have HW : Hid (∀ w2, w1.drew.grownBy w2 (Value.slice none 0 0).ownBlock → Below w1.heap.size w1 w2 ∧ (convert 43 9 (.slice A1 n (cap - k))).run Tryd.prog w2 = .ok (.string (strOf ((xs.drop k).take n))) w2) := by
    intro w2 hgrow
    have hbl : Below w1.heap.size w1 w2 := ((Below.refl w1.heap.size w1).drew).grown hgrow (Nat.le_refl _) (fun k hk => by simp [Value.ownBlock] at hk)
    exact ⟨hbl, conv_at (BIn.below HB1.out hbl) L1.out⟩
  clear HB1 L1
  go_region_law (refine step_append_bytes rfl (.const (.slice none 0 0)) (.tmp 36) rfl w1.heap.size (.slice none 0 0) [] _ A2 (xs.length - (k + n)) (cap - (k + n)) rfl (by simp [Act.eval, Act.put]) L2.out (World.ownsRow_nil _ _ _ _) HB2.out P2.out Z2.out (Nat.le_refl _) ?_; intro v' w2 hown hgrow; obtain ⟨hbl, cv1⟩ := HW.out w2 hgrow; clear hgrow)
  all_goals
    rw [List.nil_append, e2.out] at hown
    have HO : Hid _ := hown
    clear hown cv0 cv1 hA1 hA2 HW q1 q2 q3 q4
    go_wp2
    go_ret3
    exact ⟨v', rfl, HO.out, hbl⟩
end Go.Proofs.YtkecajgdmompcaaDoor
namespace Go.Proofs.YtkecajgdmompcaaDoor
open Go.RowKit Go.WideShapes Go.Extern.Stop Go.Stop Go.Extern

theorem below_alloc (w : World) (o : Obj) : Below w.heap.size w (w.alloc o) := (Below.refl _ _).alloc (Nat.le_refl _) o
theorem below_bt {a b c : World} (h : Below a.heap.size a b) (k : Below b.heap.size b c) : Below a.heap.size a c := h.trans (k.mono h.size)
/-- An error that wraps, in the end, the error's number e. -/
inductive Faults : Value → Int → Prop
  | num (e : Int) : Faults (.iface 24 (.int .i64 e)) e
  | more (s : ByteArray) {v : Value} {e : Int} (h : Faults v e) : Faults (.iface 54 (.agg #[.string s, v])) e
theorem Faults.one (s : ByteArray) (e : Int) : Faults (.iface 54 (.agg #[.string s, .iface 24 (.int .i64 e)])) e := .more s (.num e)
theorem Faults.iface {v : Value} {e : Int} (h : Faults v e) : ∃ t x, v = .iface t x := by cases h <;> exact ⟨_, _, rfl⟩
def ErrV (v : Value) (e : Int) : Prop := (e = 0 ∧ v = .nilIface) ∨ (e ≠ 0 ∧ Faults v e)

theorem ef.equalIn (d : Nat) (a b : Int) {i : TypeInfo} (hinfo : Tryd.prog.info? 24 = some i) (hcomp : i.comparable = true) (w : World) :
    (Op.equalIn (d + 2) 38 (.iface 24 (.int .i64 a)) (.iface 24 (.int .i64 b))).run Tryd.prog w = .ok (a == b) w := by
  simp [Op.equalIn, run_underlying Tryd.underlying38, run_underlying Tryd.underlying24, typeInfo, hinfo, hcomp]
theorem ef.comp : (Tryd.prog.info? 24).map (·.comparable) = some true := by kernel_rfl
theorem ef.eql (a b : Int) (w : World) : (binOp .eql 38 (.iface 24 (.int .i64 a)) (.iface 24 (.int .i64 b))).run Tryd.prog w = .ok (.bool (a == b)) w := by
  obtain ⟨i, hi, hcmp⟩ := Option.map_eq_some_iff.1 ef.comp
  simp only [binOp]
  simp [Op.equal, Op.maxDepth, ef.equalIn 9998 a b hi hcmp w]
theorem ef.typeOf (v : Value) (w : World) : (ReflectliteType.typeOf #[.iface 24 v]).run Tryd.prog w = .ok (.iface 81 (.agg #[.pointer (some ⟨3, 24, none⟩)])) w := by kernel_rfl
theorem ef.comparable (w : World) : ((ReflectliteType.method fun t => do Rtype.noPackHeld "Comparable" t; pure (.bool (← typeInfo t).comparable)) #[.agg #[.pointer (some ⟨3, 24, none⟩)]]).run Tryd.prog w = .ok (.bool true) w := by kernel_rfl
theorem ef.methodComparable (v : Value) (w : World) : (Go.method 243 81 v "Comparable").run Tryd.prog w = .ok (72, v) w := by kernel_rfl
theorem ef.noIsN (v : Value) (xT : TypeId) (w : World) : (Instr.typeAssert (.iface 24 v) xT 83 true).run Tryd.prog w = .ok (.tuple #[.nilIface, .bool false]) w := run_typeAssert_lacksB Tryd.underlying83 (by kernel_rfl) (by kernel_rfl) v xT w
theorem ef.noUnN (v : Value) (xT : TypeId) (w : World) : (Instr.typeAssert (.iface 24 v) xT 86 true).run Tryd.prog w = .ok (.tuple #[.nilIface, .bool false]) w := run_typeAssert_lacksB Tryd.underlying86 (by kernel_rfl) (by kernel_rfl) v xT w
theorem ef.noUsN (v : Value) (xT : TypeId) (w : World) : (Instr.typeAssert (.iface 24 v) xT 88 true).run Tryd.prog w = .ok (.tuple #[.nilIface, .bool false]) w := run_typeAssert_lacksB Tryd.underlying88 (by kernel_rfl) (by kernel_rfl) v xT w
theorem ef.noIsF (v : Value) (xT : TypeId) (w : World) : (Instr.typeAssert (.iface 54 v) xT 83 true).run Tryd.prog w = .ok (.tuple #[.nilIface, .bool false]) w := run_typeAssert_lacksB Tryd.underlying83 (by kernel_rfl) (by kernel_rfl) v xT w
theorem ef.hasUnF (v : Value) (xT : TypeId) (w : World) : (Instr.typeAssert (.iface 54 v) xT 86 true).run Tryd.prog w = .ok (.tuple #[.iface 54 v, .bool true]) w := run_typeAssert_hasB Tryd.underlying86 (by kernel_rfl) v xT w
theorem ef.methodUnw (s : ByteArray) (v : Value) (w : World) : (Go.method 243 54 (.agg #[.string s, v]) "Unwrap").run Tryd.prog w = .ok (68, .agg #[.string s, v]) w := by kernel_rfl
theorem fault_unwrap (s : ByteArray) (v : Value) (w : World) : Calls Tryd.prog 68 #[.agg #[.string s, v]] w fun e w' => e = .returned v ∧ Below w.heap.size w w' := by
  go_enter Tryd.func68, Tryd.ntmps68
  go_wp2
  go_ret
  exact ⟨rfl, by first | exact Below.refl _ _ | exact below_alloc _ _⟩
/-- errors.is of a chain of faults and a number. -/
theorem is_low (v : Value) (e : Int) (hv : Faults v e) (k : Int) (w : World) :
    Calls Tryd.prog 33 #[v, .iface 24 (.int .i64 k), .bool true] w fun ev w' => ev = .returned (.bool (e == k)) ∧ Below w.heap.size w w' := by
  have nN := ef.noIsN
  have uN := ef.noUnN
  have sN := ef.noUsN
  have nF := ef.noIsF
  have uF := ef.hasUnF
  have mU := ef.methodUnw
  have hq := ef.eql
  go_enter Tryd.func33, Tryd.ntmps33
  go_wp2
  go_loopw [0] (fun x wr => Faults x e ∧ Below w.heap.size w wr) (fun x _ => SizeOf.sizeOf x)
  case atStart => exact ⟨hv, Below.refl _ _⟩
  case round =>
    obtain ⟨hx, hbel⟩ := hrel
    cases hx with
    | num =>
      by_cases hk : e = k
      · subst hk
        have hb : (e == e) = true := by simp
        go_wp2
        go_ret
        exact ⟨by simp, hbel⟩
      · have hb : (e == k) = false := by simpa using hk
        go_wp2
        go_ret
        exact ⟨by rw [hb]; rfl, hbel⟩
    | @more s v1 _ hx =>
      obtain ⟨tx, vx, rfl⟩ := hx.iface
      have HX : Hid (Faults (.iface tx vx) e) := hx
      have hty : ∀ wr, (binOp .eql 38 (.iface 54 (.agg #[.string s, .iface tx vx])) (.iface 24 (.int .i64 k))).run Tryd.prog wr = .ok (.bool false) wr := fun wr => run_eql_iface_types (P := Tryd.prog) 54 24 _ _ Tryd.underlying38 (by decide) wr
      clear hx
      go_wp2_with (go_at_call 68; refine (fault_unwrap _ _ _).mono ?_; rintro e1 w1 ⟨rfl, hb1⟩)
      go_roundw
      case rel => exact ⟨HX.out, hbel.trans (hb1.mono hbel.size)⟩
      case measure => simp; omega
set_option maxRecDepth 8000 in
/-- errors.Is of a chain of faults and a number. -/
theorem Is_any (v : Value) (e : Int) (hv : Faults v e) (k : Int) (w : World) :
    Calls Tryd.prog 23 #[v, .iface 24 (.int .i64 k)] w fun ev w' => ev = .returned (.bool (e == k)) ∧ Below w.heap.size w w' := by
  have h8 := @run_callFunc_extern Tryd.prog 32 _ ReflectliteType.typeOf Tryd.func32 (by kernel_rfl) (by kernel_rfl) (by kernel_rfl) (by kernel_rfl)
  have h32 := @run_callFunc_extern Tryd.prog 72 _ (ReflectliteType.method fun t => do Rtype.noPackHeld "Comparable" t; pure (.bool (← typeInfo t).comparable)) Tryd.func72 (by kernel_rfl) (by kernel_rfl) (by kernel_rfl) (by kernel_rfl)
  have tT := ef.typeOf
  have cT := ef.comparable
  have mR := ef.methodComparable
  have hC := fun w => h32 #[.agg #[.pointer (some ⟨3, 24, none⟩)]] w
  simp only [cT, Result.andThen_ok] at hC
  clear h32 cT
  have hl := is_low v e hv k
  obtain ⟨tx, vx, rfl⟩ := hv.iface
  clear hv
  go_enter Tryd.func23, Tryd.ntmps23
  go_wp2_with (go_at_call 33; refine (hl _).mono ?_; rintro e1 w1 ⟨rfl, hb1⟩)
  go_ret
  exact ⟨rfl, hb1⟩
theorem Is_nil (k : Int) (w : World) : Calls Tryd.prog 23 #[.nilIface, .iface 24 (.int .i64 k)] w fun ev w' => ev = .returned (.bool false) ∧ Below w.heap.size w w' := by
  have hn := run_eql_iface_nil_left (P := Tryd.prog) w 24 (.int .i64 k) Tryd.underlying38
  go_enter Tryd.func23, Tryd.ntmps23
  go_wp2
  go_ret
  exact ⟨rfl, Below.refl _ _⟩
/-- The number of an error, or 0 of none. -/
theorem numberOf_any (v : Value) (e : Int) (hv : ErrV v e) (he : 0 ≤ e ∧ e ≤ 120) (w : World) :
    Calls Tryd.prog 11 #[v] w fun ev w' => ev = .returned (.int .i64 e) ∧ Below w.heap.size w w' := by
  have HV : Hid (ErrV v e) := hv
  have HI : Hid (∀ (k : Int) (w : World), 0 < k → Calls Tryd.prog 23 #[v, .iface 24 (.int .i64 k)] w fun ev w' => ev = .returned (.bool (e == k)) ∧ Below w.heap.size w w') := by
    intro k w hk
    rcases hv with ⟨rfl, rfl⟩ | ⟨_, hf⟩
    · refine (Is_nil k w).mono ?_
      rintro e1 w1 ⟨rfl, hb⟩
      have : ((0 : Int) == k) = false := by simp; omega
      exact ⟨by rw [this], hb⟩
    · exact Is_any v e hf k w
  clear hv
  go_enter Tryd.func11, Tryd.ntmps11
  go_wp2
  go_loopw [3] (fun x wr => ∃ k : Nat, x = .int .i64 (k : Int) ∧ e ≤ k ∧ k ≤ 120 ∧ Below w.heap.size w wr) (fun x _ => (intOf x).toNat)
  case atStart => exact ⟨120, rfl, by omega, by omega, Below.refl _ _⟩
  case round =>
    obtain ⟨k, rfl, hk, hk2, hb⟩ := hrel
    have HB : Hid (Below w.heap.size w wr) := hb
    have HK : Hid (e ≤ k ∧ k ≤ 120) := ⟨hk, hk2⟩
    by_cases h0 : k = 0
    · subst h0
      obtain rfl : e = 0 := by omega
      go_wp2
      go_ret
      exact ⟨rfl, HB.out⟩
    · have hk0 : (0 : Int) < (k : Int) := by omega
      have hk1 : (k : Int) ≤ 120 := by omega
      have hc := HI.out (k : Int) wr hk0
      clear hk hk2 hb
      by_cases hek : e = (k : Int)
      · have hbb : (e == (k : Int)) = true := by simpa using hek
        rw [hbb] at hc
        have HE : Hid (e = (k : Int)) := hek
        clear hek hbb
        go_wp2_with (go_at_call 23; refine hc.mono ?_; rintro e1 w1 ⟨rfl, hb1⟩)
        go_ret
        exact ⟨by rw [HE.out]; rfl, below_bt HB.out hb1⟩
      · have hbb : (e == (k : Int)) = false := by simpa using hek
        rw [hbb] at hc
        have HE : Hid (e ≠ (k : Int)) := hek
        clear hek hbb
        go_wp2_with (go_at_call 23; refine hc.mono ?_; rintro e1 w1 ⟨rfl, hb1⟩)
        go_roundw
        case rel => exact ⟨k - 1, by simp; omega, by have := HK.out; have := HE.out; omega, by have := HK.out; omega, below_bt HB.out hb1⟩
        case measure => simp [intOf]; omega
end Go.Proofs.YtkecajgdmompcaaDoor
namespace Go.Proofs.YtkecajgdmompcaaDoor
open Go.RowKit Go.WideShapes

theorem pow_step (i : Nat) : 2 ^ (7 * (i + 1)) = 128 * 2 ^ (7 * i) := by
  rw [show 7 * (i + 1) = 7 * i + 7 from by omega, Nat.pow_add, Nat.mul_comm]
theorem aux_back (rest : List Nat) (m : Nat) : ∀ i acc, i ≤ 9 → m * 2 ^ (7 * i) < 18446744073709551616 → (0 < i → 0 < m) → readAux i acc (smallN m ++ rest) = some (m * 2 ^ (7 * i) + acc, i + (smallN m).length) := by
  induction m using Nat.strongRecOn with
  | _ m ih =>
    intro i acc hi hm h0
    by_cases hlt : m < 128
    · rw [smallN_lo hlt]
      have h9 : ¬ (i = 9 ∧ 1 < m) := by
        rintro ⟨rfl, h1⟩
        simp only [Nat.reduceMul, Nat.reducePow] at hm
        omega
      have := aux_end (acc := acc) (ys := rest) h9 (by omega) (show ¬ (m = 0 ∧ 0 < i) from by omega)
      simp only [List.cons_append, List.nil_append, List.length_cons, List.length_nil]
      rw [this, Nat.mod_eq_of_lt hlt]
    · rw [smallN_hi hlt]
      have h9 : ¬ (i = 9 ∧ 1 < m % 128 + 128) := by
        rintro ⟨rfl, _⟩
        simp only [Nat.reduceMul, Nat.reducePow] at hm
        omega
      have hd : m = 128 * (m / 128) + m % 128 := by omega
      have e : m / 128 * 2 ^ (7 * (i + 1)) + ((m % 128 + 128) % 128 * 2 ^ (7 * i) + acc) = m * 2 ^ (7 * i) + acc := by
        rw [pow_step, show (m % 128 + 128) % 128 = m % 128 from by omega, ← Nat.mul_assoc, ← Nat.add_assoc, ← Nat.add_mul, Nat.mul_comm (m / 128) 128, ← hd]
      have hm' : m / 128 * 2 ^ (7 * (i + 1)) < 18446744073709551616 := by
        have : m / 128 * 2 ^ (7 * (i + 1)) ≤ m * 2 ^ (7 * i) := by
          rw [pow_step, ← Nat.mul_assoc]
          exact Nat.mul_le_mul_right _ (by omega)
        omega
      have hi8 : i + 1 ≤ 9 := by
        rcases Nat.lt_or_ge i 9 with h | h
        · omega
        · obtain rfl : i = 9 := by omega
          exact absurd ⟨rfl, by omega⟩ h9
      have := aux_hi (acc := acc) (ys := smallN (m / 128) ++ rest) h9 (by omega)
      rw [List.cons_append, this, ih (m / 128) (by omega) (i + 1) _ hi8 hm' (by omega), e]
      simp; omega
theorem read_back (n : Nat) (rest : List Nat) (hn : n < 18446744073709551616) : readN (smallN n ++ rest) = some (n, (smallN n).length) := by
  have := aux_back rest n 0 0 (by omega) (by simpa using hn) (by omega)
  simpa [readN] using this
theorem aux_only (ys : List Nat) : ∀ {i acc n k : Nat}, (∀ c ∈ ys, c < 256) → readAux i acc ys = some (n, k) → ∃ m, n = m * 2 ^ (7 * i) + acc ∧ i < k ∧ ys.take (k - i) = smallN m ∧ (0 < i → 0 < m) := by
  induction ys with
  | nil => intro i acc n k _ h; simp [readAux] at h
  | cons c ys ih =>
    intro i acc n k hy h
    have hc256 := hy c (by simp)
    by_cases h9 : i = 9 ∧ 1 < c
    · rw [aux_big h9] at h; cases h
    · by_cases hc : 128 ≤ c
      · rw [aux_hi h9 hc] at h
        obtain ⟨m, hn, hk, ht, h0⟩ := ih (fun c hc => hy c (by simp [hc])) h
        have hm0 := h0 (by omega)
        refine ⟨128 * m + c % 128, ?_, by omega, ?_, by omega⟩
        · rw [hn, pow_step, ← Nat.mul_assoc, ← Nat.add_assoc, ← Nat.add_mul, Nat.mul_comm m 128]
        · rw [smallN_hi (by omega), show (128 * m + c % 128) / 128 = m from by omega, show (128 * m + c % 128) % 128 + 128 = c from by omega, ← ht, show k - i = (k - (i + 1)) + 1 from by omega, List.take_succ_cons]
      · by_cases h0 : c = 0 ∧ 0 < i
        · rw [aux_zero h9 hc h0] at h; cases h
        · rw [aux_end h9 hc h0] at h
          simp only [Option.some.injEq, Prod.mk.injEq] at h
          refine ⟨c, ?_, by omega, ?_, by omega⟩
          · rw [← h.1, Nat.mod_eq_of_lt (by omega)]
          · rw [← h.2, show i + 1 - i = 1 from by omega, smallN_lo (by omega)]; simp
theorem read_only {xs : List Nat} {n k : Nat} (hx : ∀ c ∈ xs, c < 256) (h : readN xs = some (n, k)) : xs.take k = smallN n := by
  obtain ⟨m, hn, _, ht, _⟩ := aux_only xs hx h
  obtain rfl : n = m := by simpa using hn
  simpa using ht
end Go.Proofs.YtkecajgdmompcaaDoor
namespace Go.Proofs.YtkecajgdmompcaaDoor
open Go.RowKit Go.WideShapes

structure CV where
  key : ByteArray
  val : ByteArray
  gone : Bool
def zeroCV : CV := ⟨ByteArray.empty, ByteArray.empty, false⟩
def namedC (l : List CV) (name : ByteArray) : Bool := l.any fun c => decide (c.key = name)
/-- A change's bytes; a record's. -/
def recB (c : CV) : List Nat := textN c.key ++ if c.gone = true then [1] else 0 :: textN c.val
def recBs (l : List CV) : List Nat := l.flatMap recB
def recN (l : List CV) (seq : Nat) : List Nat := smallN seq ++ (smallN l.length ++ recBs l)
/-- What is wrong with one change behind others. -/
def oneW (ahead : List CV) (c : CV) : Int :=
  if c.key.size < 1 ∨ 256 < c.key.size then 60 else if 4096 < c.val.size then 3 else if c.gone = true ∧ c.val.size ≠ 0 then 8 else if namedC ahead c.key = true then 8 else 0
def chgK (l : List CV) : Nat → Int
  | 0 => 0
  | k + 1 => if chgK l k ≠ 0 then chgK l k else oneW (l.take k) (l.getD k zeroCV)
/-- What Write answers: the error's number and the record's bytes. -/
def writeE (l : List CV) (seq : Int) : Int × List Nat :=
  if seq < 1 ∨ 2147483647 < seq then (2, []) else if 64 < l.length then (4, []) else if l.length = 0 then (6, []) else
  if chgK l l.length ≠ 0 then (chgK l l.length, []) else if 4096 < (recN l seq.toNat).length then (3, []) else (0, recN l seq.toNat)
theorem chgK_step (l : List CV) (k : Nat) (h : chgK l k = 0) : chgK l (k + 1) = oneW (l.take k) (l.getD k zeroCV) := by
  rw [chgK, if_neg (by omega)]
theorem chgK_stays (l : List CV) (k : Nat) (h : chgK l k ≠ 0) : ∀ m, k ≤ m → chgK l m = chgK l k := by
  intro m hm
  induction m with
  | zero => rw [show k = 0 by omega]
  | succ m ih =>
    rcases Nat.lt_or_ge k (m + 1) with h1 | h1
    · have e := ih (by omega)
      rw [chgK, if_pos (by rw [e]; exact h), e]
    · rw [show k = m + 1 by omega]
theorem chgK_all {l : List CV} (h : chgK l l.length = 0) : ∀ k, k ≤ l.length → chgK l k = 0 := by
  intro k hk
  rcases Classical.em (chgK l k = 0) with h1 | h1
  · exact h1
  · rw [chgK_stays l k h1 l.length hk] at h
    exact absurd h h1
theorem oneW_zero {a : List CV} {c : CV} (h : oneW a c = 0) : 1 ≤ c.key.size ∧ c.key.size ≤ 256 ∧ c.val.size ≤ 4096 ∧ (c.gone = true → c.val.size = 0) ∧ namedC a c.key = false := by
  unfold oneW at h
  split at h
  · cases h
  · split at h
    · cases h
    · split at h
      · cases h
      · split at h
        · cases h
        · rename_i h1 h2 h3 h4
          refine ⟨by omega, by omega, by omega, fun hg => ?_, by simpa using h4⟩
          exact Classical.byContradiction fun hn => h3 ⟨hg, hn⟩
theorem oneW_range (a : List CV) (c : CV) : 0 ≤ oneW a c ∧ oneW a c ≤ 120 := by
  unfold oneW
  repeat' split
  all_goals omega
theorem chgK_range (l : List CV) : ∀ k, 0 ≤ chgK l k ∧ chgK l k ≤ 120
  | 0 => by simp [chgK]
  | k + 1 => by
    rw [chgK]
    split
    · exact chgK_range l k
    · exact oneW_range _ _
theorem writeE_range (l : List CV) (seq : Int) : 0 ≤ (writeE l seq).1 ∧ (writeE l seq).1 ≤ 120 := by
  unfold writeE
  have := chgK_range l l.length
  repeat' split
  all_goals simp
  all_goals omega
theorem writeE_ok {l : List CV} {seq : Int} {b : List Nat} (h : writeE l seq = (0, b)) : 1 ≤ seq ∧ seq ≤ 2147483647 ∧ 1 ≤ l.length ∧ l.length ≤ 64 ∧ chgK l l.length = 0 ∧ b = recN l seq.toNat ∧ b.length ≤ 4096 := by
  unfold writeE at h
  split at h
  · simp at h
  · split at h
    · simp at h
    · split at h
      · simp at h
      · split at h
        · simp only [Prod.mk.injEq] at h
          exact absurd h.1 (by assumption)
        · split at h
          · simp at h
          · simp only [Prod.mk.injEq, true_and] at h
            subst h
            exact ⟨by omega, by omega, by omega, by omega, by omega, rfl, by omega⟩
theorem textN_bytes (s : ByteArray) : ∀ c ∈ textN s, c < 256 := by
  intro c hc
  rcases List.mem_append.1 hc with h | h
  · exact smallN_bytes _ c h
  · exact numsOf_lt s c h
theorem recB_bytes (x : CV) : ∀ c ∈ recB x, c < 256 := by
  intro c hc
  rcases List.mem_append.1 hc with h | h
  · exact textN_bytes _ c h
  · split at h
    · simp at h; omega
    · rcases List.mem_cons.1 h with h | h
      · omega
      · exact textN_bytes _ c h
theorem recBs_bytes (l : List CV) : ∀ c ∈ recBs l, c < 256 := by
  intro c hc
  obtain ⟨x, _, h⟩ := List.mem_flatMap.1 hc
  exact recB_bytes x c h
theorem recN_bytes (l : List CV) (seq : Nat) : ∀ c ∈ recN l seq, c < 256 := by
  intro c hc
  rcases List.mem_append.1 hc with h | h
  · exact smallN_bytes _ c h
  · rcases List.mem_append.1 h with h | h
    · exact smallN_bytes _ c h
    · exact recBs_bytes l c h
theorem textN_len (s : ByteArray) (h : s.size ≤ 4096) : (textN s).length ≤ 4106 := by
  unfold textN
  rw [List.length_append, numsOf_len]
  have := smallN_ten s.size (by omega)
  omega
theorem recB_len {a : List CV} {c : CV} (h : oneW a c = 0) : (recB c).length ≤ 8213 := by
  obtain ⟨_, h2, h3, _⟩ := oneW_zero h
  unfold recB
  rw [List.length_append]
  have e1 := textN_len c.key (by omega)
  have e2 := textN_len c.val h3
  split <;> simp <;> omega
theorem recBs_take (l : List CV) {k : Nat} (h : k < l.length) : recBs (l.take (k + 1)) = recBs (l.take k) ++ recB (l.getD k zeroCV) := by
  rw [List.take_add_one, List.getD_eq_getElem?_getD, List.getElem?_eq_getElem h]
  simp only [recBs, List.flatMap_append, Option.toList_some, Option.getD_some, List.flatMap_cons, List.flatMap_nil, List.append_nil]
theorem recBs_len {l : List CV} : ∀ k, k ≤ l.length → chgK l k = 0 → (recBs (l.take k)).length ≤ k * 8213
  | 0, _, _ => by simp [recBs]
  | k + 1, hk, h => by
    have h0 : chgK l k = 0 := by
      rcases Classical.em (chgK l k = 0) with h1 | h1
      · exact h1
      · rw [chgK_stays l k h1 (k + 1) (by omega)] at h; exact absurd h h1
    rw [chgK_step l k h0] at h
    have ih := recBs_len k (by omega) h0
    rw [recBs_take l (by omega), List.length_append]
    have := recB_len h
    omega
/-! ### Cutting -/
def cutT (xs : List Nat) : Option (ByteArray × List Nat) :=
  match readN xs with
  | some (n, k) => if k + n ≤ xs.length then some (strOf ((xs.drop k).take n), xs.drop (k + n)) else none
  | none => none
def cutNum (xs : List Nat) (lim : Nat) : Option (Nat × List Nat) :=
  match readN xs with
  | some (n, k) => if n ≤ lim then some (n, xs.drop k) else none
  | none => none
/-- A change is cut off; g tells of its byte whether it is gone. -/
def cutCh (g : Nat → Bool) (xs : List Nat) : Option (CV × List Nat) :=
  match cutT xs with
  | none => none
  | some (_, []) => none
  | some (key, c :: rest) => if g c = true then some (⟨key, ByteArray.empty, true⟩, rest) else match cutT rest with
    | none => none
    | some (val, rest2) => some (⟨key, val, false⟩, rest2)
def cutChs (g : Nat → Bool) : Nat → List Nat → Option (List CV × List Nat)
  | 0, xs => some ([], xs)
  | k + 1, xs => match cutChs g k xs with
    | none => none
    | some (l, ys) => match cutCh g ys with
      | none => none
      | some (c, zs) => some (l ++ [c], zs)
def cutRec (g : Nat → Bool) (xs : List Nat) : Option (List CV × Nat) :=
  match cutNum xs 2147483647 with
  | none => none
  | some (seq, ys) => match cutNum ys 64 with
    | none => none
    | some (n, zs) => match cutChs g n zs with
      | none => none
      | some (l, _) => some (l, seq)
theorem cutT_back (s : ByteArray) (rest : List Nat) (h : s.size ≤ 100000) : cutT (textN s ++ rest) = some (s, rest) := by
  unfold cutT textN
  rw [List.append_assoc, read_back s.size _ (by omega)]
  have hl : (numsOf s).length = s.size := numsOf_len s
  simp only [List.length_append, hl]
  rw [if_pos (by omega)]
  have e1 : (smallN s.size ++ (numsOf s ++ rest)).drop (smallN s.size).length = numsOf s ++ rest := by simp
  have e2 : (smallN s.size ++ (numsOf s ++ rest)).drop ((smallN s.size).length + s.size) = rest := by
    rw [← List.drop_drop, e1, List.drop_append_of_le_length (by omega), ← hl]
    simp
  rw [e1, e2, List.take_append_of_le_length (by omega), ← hl, List.take_length, strOf_nums]
theorem cutNum_back (n lim : Nat) (rest : List Nat) (h : n ≤ lim) (hl : lim < 18446744073709551616) : cutNum (smallN n ++ rest) lim = some (n, rest) := by
  unfold cutNum
  rw [read_back n _ (by omega)]
  simp only
  rw [if_pos h]
  simp
theorem cutCh_back {g : Nat → Bool} (g0 : g 0 = false) (g1 : g 1 = true) {a : List CV} {c : CV} (h : oneW a c = 0) (rest : List Nat) : cutCh g (recB c ++ rest) = some (c, rest) := by
  obtain ⟨_, h2, h3, h4, _⟩ := oneW_zero h
  obtain ⟨key, val, gone⟩ := c
  unfold cutCh recB
  rw [List.append_assoc, cutT_back key _ (by simp only at h2; omega)]
  cases gone with
  | true =>
    have hv : val = ByteArray.empty := by
      have := h4 rfl
      simp only at this
      exact ByteArray.size_eq_zero_iff.1 this
    simp [g1, hv]
  | false =>
    simp only [Bool.false_eq_true, if_false, List.cons_append, g0]
    rw [cutT_back val _ (by simp only at h3; omega)]
theorem cutChs_back {g : Nat → Bool} (g0 : g 0 = false) (g1 : g 1 = true) {l : List CV} (hc : chgK l l.length = 0) (rest : List Nat) : ∀ k, k ≤ l.length → cutChs g k (recBs l ++ rest) = some (l.take k, recBs (l.drop k) ++ rest)
  | 0, _ => by simp [cutChs]
  | k + 1, hk => by
    have ih := cutChs_back g0 g1 hc rest k (by omega)
    rw [cutChs, ih]
    simp only
    have e : l.drop k = l.getD k zeroCV :: l.drop (k + 1) := by
      rw [List.getD_eq_getElem?_getD, List.getElem?_eq_getElem (by omega)]
      exact List.drop_eq_getElem_cons (by omega)
    have e2 : recBs (l.drop k) = recB (l.getD k zeroCV) ++ recBs (l.drop (k + 1)) := by rw [e]; rfl
    have h0 := chgK_all hc (k + 1) hk
    rw [chgK_step l k (chgK_all hc k (by omega))] at h0
    rw [e2, List.append_assoc, cutCh_back g0 g1 h0]
    simp only
    rw [List.take_add_one, List.getD_eq_getElem?_getD, List.getElem?_eq_getElem (by omega)]
    rfl
theorem cutRec_back {g : Nat → Bool} (g0 : g 0 = false) (g1 : g 1 = true) {l : List CV} {seq : Int} {b : List Nat} (h : writeE l seq = (0, b)) : cutRec g b = some (l, seq.toNat) := by
  obtain ⟨h1, h2, h3, h4, h5, rfl, _⟩ := writeE_ok h
  unfold cutRec recN
  rw [cutNum_back seq.toNat 2147483647 _ (by omega) (by omega)]
  simp only
  rw [cutNum_back l.length 64 _ h4 (by omega)]
  simp only
  have := cutChs_back g0 g1 h5 [] l.length (Nat.le_refl _)
  rw [List.append_nil, List.take_length] at this
  rw [this]
/-- What Read answers: the changes and their number, of bytes that are a record. -/
def readE (g : Nat → Bool) (xs : List Nat) : Option (List CV × Nat) :=
  match cutRec g xs with
  | none => none
  | some (l, seq) => if writeE l (seq : Int) = (0, xs) then some (l, seq) else none
theorem readE_some {g : Nat → Bool} {xs : List Nat} {l : List CV} {seq : Nat} (h : readE g xs = some (l, seq)) : writeE l (seq : Int) = (0, xs) := by
  unfold readE at h
  split at h
  · cases h
  · split at h
    · simp only [Option.some.injEq, Prod.mk.injEq] at h
      obtain ⟨rfl, rfl⟩ := h
      assumption
    · cases h
theorem readE_of {g : Nat → Bool} (g0 : g 0 = false) (g1 : g 1 = true) {xs : List Nat} {l : List CV} {seq : Nat} (h : writeE l (seq : Int) = (0, xs)) : readE g xs = some (l, seq) := by
  unfold readE
  rw [cutRec_back g0 g1 h]
  simp only [Int.toNat_natCast]
  rw [if_pos h]
theorem readE_same {g g' : Nat → Bool} (g0 : g 0 = false) (g1 : g 1 = true) (g0' : g' 0 = false) (g1' : g' 1 = true) (xs : List Nat) : readE g xs = readE g' xs := by
  cases h : readE g xs with
  | some r => exact (readE_of g0' g1' (readE_some (l := r.1) (seq := r.2) h)).symm
  | none =>
    cases h' : readE g' xs with
    | none => rfl
    | some r => rw [readE_of g0 g1 (readE_some (l := r.1) (seq := r.2) h')] at h; cases h
theorem readE_long {g : Nat → Bool} {xs : List Nat} (h : 4096 < xs.length) : readE g xs = none := by
  cases h' : readE g xs with
  | none => rfl
  | some r =>
    obtain ⟨_, _, _, _, _, _, h7⟩ := writeE_ok (readE_some (l := r.1) (seq := r.2) h')
    omega
def gP (c : Nat) : Bool := !(c == 0)
def gD (c : Nat) : Bool := c == 1
theorem cutT_len {xs rest : List Nat} {s : ByteArray} (h : cutT xs = some (s, rest)) : rest.length ≤ xs.length := by
  unfold cutT at h
  split at h
  · split at h
    · simp only [Option.some.injEq, Prod.mk.injEq] at h
      rw [← h.2, List.length_drop]
      omega
    · cases h
  · cases h
theorem cutCh_len {g : Nat → Bool} {xs rest : List Nat} {c : CV} (h : cutCh g xs = some (c, rest)) : rest.length ≤ xs.length := by
  unfold cutCh at h
  split at h
  · cases h
  · cases h
  · rename_i key b r hc
    have h1 := cutT_len hc
    simp only [List.length_cons] at h1
    split at h
    · simp only [Option.some.injEq, Prod.mk.injEq] at h
      rw [← h.2]; omega
    · split at h
      · cases h
      · rename_i v r2 hv
        have h2 := cutT_len hv
        simp only [Option.some.injEq, Prod.mk.injEq] at h
        rw [← h.2]; omega
theorem cutChs_len {g : Nat → Bool} : ∀ {k : Nat} {xs rest : List Nat} {l : List CV}, cutChs g k xs = some (l, rest) → l.length = k ∧ rest.length ≤ xs.length
  | 0, xs, rest, l, h => by
    simp only [cutChs, Option.some.injEq, Prod.mk.injEq] at h
    obtain ⟨rfl, rfl⟩ := h
    exact ⟨rfl, Nat.le_refl _⟩
  | k + 1, xs, rest, l, h => by
    rw [cutChs] at h
    split at h
    · cases h
    · rename_i l1 ys h1
      have ih := cutChs_len h1
      split at h
      · cases h
      · rename_i c zs h2
        have := cutCh_len h2
        simp only [Option.some.injEq, Prod.mk.injEq] at h
        obtain ⟨rfl, rfl⟩ := h
        exact ⟨by simp [ih.1], by omega⟩
theorem cutChs_none {g : Nat → Bool} {xs : List Nat} {k : Nat} (h : cutChs g k xs = none) : ∀ m, k ≤ m → cutChs g m xs = none := by
  intro m hm
  induction m with
  | zero => rw [show 0 = k by omega]; exact h
  | succ m ih =>
    rcases Nat.lt_or_ge k (m + 1) with h1 | h1
    · rw [cutChs, ih (by omega)]
    · rw [show m + 1 = k by omega]; exact h
end Go.Proofs.YtkecajgdmompcaaDoor
namespace Go.Proofs.YtkecajgdmompcaaDoor
open Go.RowKit Go.WideShapes

theorem info_parts' {P : Program} {t : TypeId} {z : Option Value} {s b : Nat} (h : (P.info? t).map (fun i => (i.zero, i.size, i.bytes)) = some (z, s, b)) : ∃ i, P.info? t = some i ∧ i.zero = z ∧ i.size = s ∧ i.bytes = b := by
  cases hi : P.info? t with
  | none => rw [hi] at h; cases h
  | some i => rw [hi] at h; simp at h; exact ⟨i, rfl, h.1, h.2.1, h.2.2⟩
theorem lt_heap {w : World} {b : Nat} {o : Obj} (h : w.heap[b]? = some o) : b < w.heap.size := (Array.getElem?_eq_some_iff.1 h).1
theorem own_form {w : World} {base n : Nat} {e : TypeId} {s : Nat} {v : Value} {xs : List Value} (h : w.ownsRow base e s v n xs) : ∃ q m, v = .slice q n m ∧ n ≤ m ∧ m ≤ maxLen ∧ (q = none → m = 0) := by
  rcases h.2 with ⟨hv, hn⟩ | ⟨g, cap, cur, hv, _, _, h1, h2, _⟩
  · exact ⟨none, 0, by rw [hv, hn], by omega, by unfold maxLen; omega, fun _ => rfl⟩
  · exact ⟨_, cap, hv, h1, h2, fun h => by cases h⟩
theorem own_in {w : World} {base : Nat} {p : Option Addr} {m c : Nat} {xs : List Nat} (h : w.ownsRow base 5 1 (.slice p m c) xs.length (Bs xs)) (hx : ∀ c ∈ xs, c < 256) : BIn w p xs := (own_bin h hx).1
theorem own_mono {w : World} {base base' n s : Nat} {e : TypeId} {v : Value} {xs : List Value} (h : w.ownsRow base e s v n xs) (hb : base' ≤ base) : w.ownsRow base' e s v n xs := by
  refine ⟨h.1, ?_⟩
  rcases h.2 with h' | ⟨g, cap, cur, h1, h2, h3⟩
  · exact .inl h'
  · exact .inr ⟨g, cap, cur, h1, Nat.le_trans hb h2, h3⟩
theorem three_cells {w : World} {g : Nat} {a b c : Value} {t : TypeId} {fr : Nat × Nat} (h : w.heap[g]? = some (.cells #[a, b, c] t fr)) : w.cell? ⟨g, 0, none⟩ = some a ∧ w.cell? ⟨g, 1, none⟩ = some b ∧ w.cell? ⟨g, 2, none⟩ = some c := ⟨Lib.cell_of_heap h 0, Lib.cell_of_heap h 1, Lib.cell_of_heap h 2⟩
theorem new3 (w : World) (a b c : Value) (t : TypeId) (g : Nat) (hg : g = w.heap.size) : (w.alloc (.cells #[a, b, c] t)).cell? ((⟨g, 0, none⟩ : Addr).add 0) = some a ∧ (w.alloc (.cells #[a, b, c] t)).cell? ((⟨g, 0, none⟩ : Addr).add 1) = some b ∧ (w.alloc (.cells #[a, b, c] t)).cell? ((⟨g, 0, none⟩ : Addr).add 2) = some c := by
  subst hg
  have hh := heap_alloc_new w (.cells #[a, b, c] t)
  simp only [add_plain]
  exact ⟨cell_of_row _ _ _ _ _ _ hh, cell_of_row _ _ _ _ _ _ hh, cell_of_row _ _ _ _ _ _ hh⟩
theorem eq_strF (x y : ByteArray) : (x.toList == y.toList) = decide (x = y) := by
  by_cases h : x = y
  · simp [h]
  · have : x.toList ≠ y.toList := fun e => h (by
      rw [ByteArray.toList_eq, ByteArray.toList_eq] at e
      rcases x with ⟨x⟩; rcases y with ⟨y⟩
      rcases x with ⟨x⟩; rcases y with ⟨y⟩
      simp at e; rw [e])
    simp [h, this]
def CsIn (w : World) (q : Option Addr) (l : List CV) : Prop :=
  0 < l.length → ∃ b o, q = some ⟨b, o, none⟩ ∧ ∀ i, i < l.length → w.cell? ⟨b, o + i * 3, none⟩ = some (.string (l.getD i zeroCV).key) ∧ w.cell? ⟨b, o + (i * 3 + 1), none⟩ = some (.string (l.getD i zeroCV).val) ∧ w.cell? ⟨b, o + (i * 3 + 2), none⟩ = some (.bool (l.getD i zeroCV).gone)
theorem cellB {w w' : World} {a : Addr} {v : Value} (h : w.cell? a = some v) (hb : Below w.heap.size w w') : w'.cell? a = some v := (hb.cell (World.block_lt_of_cell? _ _ h)).trans h
theorem CsIn.below {w w' : World} {q : Option Addr} {l : List CV} (h : CsIn w q l) (hb : Below w.heap.size w w') : CsIn w' q l := by
  intro hp
  obtain ⟨b, o, rfl, hc⟩ := h hp
  refine ⟨b, o, rfl, fun i hi => ?_⟩
  obtain ⟨e0, e1, e2⟩ := hc i hi
  exact ⟨cellB e0 hb, cellB e1 hb, cellB e2 hb⟩
theorem CsIn.addr {w : World} {q : Option Addr} {l : List CV} (h : CsIn w q l) (hw : 0 < l.length) : ∃ b o, q = some ⟨b, o, none⟩ := by
  obtain ⟨b, o, e, _⟩ := h hw
  exact ⟨b, o, e⟩
theorem CsIn.at {w : World} {b o : Nat} {l : List CV} (h : CsIn w (some ⟨b, o, none⟩) l) {k : Nat} (hk : k < l.length) :
    w.cell? ⟨b, o + k * 3, none⟩ = some (.string (l.getD k zeroCV).key) ∧ w.cell? ⟨b, o + k * 3 + 1, none⟩ = some (.string (l.getD k zeroCV).val) ∧ w.cell? ⟨b, o + k * 3 + 2, none⟩ = some (.bool (l.getD k zeroCV).gone) := by
  obtain ⟨b', o', e, hc⟩ := h (by omega)
  simp only [Option.some.injEq, Addr.mk.injEq, and_true] at e
  obtain ⟨rfl, rfl⟩ := e
  obtain ⟨h1, h2, h3⟩ := hc k hk
  exact ⟨h1, by rw [Nat.add_assoc]; exact h2, by rw [Nat.add_assoc]; exact h3⟩
theorem CsIn.take {w : World} {q : Option Addr} {l : List CV} (h : CsIn w q l) (k : Nat) : CsIn w q (l.take k) := by
  intro hp
  rw [List.length_take] at hp
  obtain ⟨b, o, e, hc⟩ := h (by omega)
  refine ⟨b, o, e, fun i hi => ?_⟩
  rw [List.length_take] at hi
  have hg : (l.take k).getD i zeroCV = l.getD i zeroCV := by rw [List.getD_eq_getElem?_getD, List.getElem?_take_of_lt (by omega), List.getD_eq_getElem?_getD]
  rw [hg]
  exact hc i (by omega)
theorem named_hit {l : List CV} {name : ByteArray} {k : Nat} (hk : k < l.length) (h : (l.getD k zeroCV).key = name) : namedC l name = true := by
  unfold namedC
  rw [List.any_eq_true]
  refine ⟨l.getD k zeroCV, ?_, decide_eq_true h⟩
  rw [List.getD_eq_getElem?_getD, List.getElem?_eq_getElem hk]
  exact List.getElem_mem _
theorem named_miss {l : List CV} {name : ByteArray} (h : ∀ j, j < l.length → (l.getD j zeroCV).key ≠ name) : namedC l name = false := by
  unfold namedC
  rw [List.any_eq_false]
  intro x hx
  obtain ⟨j, hj, rfl⟩ := List.getElem_of_mem hx
  have := h j hj
  rw [List.getD_eq_getElem?_getD, List.getElem?_eq_getElem hj] at this
  simpa using this
set_option maxRecDepth 8000 in
set_option maxHeartbeats 2000000 in
theorem index_named (q : Option Addr) (n c nb : Nat) (l : List CV) (name : ByteArray) (w : World) (hq : CsIn w q l) (hn0 : n = l.length) (hnb : (n : Int) ≤ 9223372036854775807) (hn : w.cell? ⟨nb, 0, none⟩ = some (.string name)) (r : Bool) (hr : namedC l name = r) :
    Calls Tryd.prog 36 #[.slice q n c, .func (.func 29) #[] #[.pointer (some ⟨nb, 0, none⟩)]] w fun e w' => ∃ i : Int, e = .returned (.int .i64 i) ∧ (0 ≤ i ↔ r = true) ∧ Below w.heap.size w w' := by
  have HL : Hid (n = l.length) := hn0
  have HQ : Hid (CsIn w q l) := hq
  have HN : Hid (w.cell? ⟨nb, 0, none⟩ = some (.string name)) := hn
  have HR : Hid (namedC l name = r) := hr
  clear hq hn hn0 hr
  go_enter Tryd.func36, Tryd.ntmps36
  go_wp2
  go_loopw [8] (fun i wr => ∃ k : Nat, k ≤ n ∧ i = .int .i64 (k : Int) ∧ (∀ j, j < k → (l.getD j zeroCV).key ≠ name) ∧ Below w.heap.size w wr) (fun i _ => n - (intOf i).toNat)
  case atStart => exact ⟨0, by omega, rfl, fun j hj => absurd hj (by omega), Below.refl _ _⟩
  case round =>
    obtain ⟨k, hk, rfl, hz, hbw⟩ := hrel
    have HZ : Hid (∀ j, j < k → (l.getD j zeroCV).key ≠ name) := hz
    have HB : Hid (Below w.heap.size w wr) := hbw
    clear hz
    by_cases hkl : k < n
    · have hkI : (k : Int) < (n : Int) := by omega
      have k0 : (0 : Int) ≤ (k : Int) := by omega
      have hkl2 : k < l.length := by have := HL.out; omega
      have hen := HQ.out.below hbw
      obtain ⟨fb, fo, rfl⟩ := hen.addr (by omega)
      obtain ⟨z0, z1, z2⟩ := hen.at hkl2
      have zn := cellB HN.out hbw
      have hnlt : nb < wr.heap.size := World.block_lt_of_cell? _ _ zn
      have hne : nb ≠ wr.heap.size := by omega
      have znA : ∀ a : ByteArray, ∀ b : ByteArray, ∀ g : Bool, (wr.alloc (.cells #[.string a, .string b, .bool g] 36)).cell? ⟨nb, 0, none⟩ = some (.string name) := fun a b g => cellB zn (below_alloc wr _)
      have HKL : Hid (k < n) := hkl
      have HHIT : Hid ((l.getD k zeroCV).key = name → r = true) := fun h => by rw [← HR.out]; exact named_hit hkl2 h
      have HNEXT : Hid ((l.getD k zeroCV).key ≠ name → ∀ j, j < k + 1 → (l.getD j zeroCV).key ≠ name) := fun h j hj => by
        rcases Nat.lt_or_ge j k with h' | h'
        · exact HZ.out j h'
        · obtain rfl : j = k := by omega
          exact h
      obtain ⟨⟨ck, cv, cg⟩, hc⟩ : ∃ f, l.getD k zeroCV = f := ⟨_, rfl⟩
      rw [hc] at z0 z1 z2 HHIT HNEXT
      simp only at z0 z1 z2 HHIT HNEXT
      have znB := znA ck cv cg
      clear znA hen hkl hkl2 hk hbw hc HZ hnlt
      by_cases g : ck = name
      · have HH : Hid (r = true) := HHIT.out g
        subst g
        clear HHIT HNEXT
        go_wp2
        go_ret
        exact ⟨(k : Int), rfl, ⟨fun _ => HH.out, fun _ => by omega⟩, HB.out.alloc HB.out.size _⟩
      · have HNX : Hid _ := HNEXT.out g
        have hne2 : (ck.toList == name.toList) = false := by rw [eq_strF]; simpa using g
        clear HHIT HNEXT
        go_wp2
        go_roundw
        case rel => exact ⟨k + 1, HKL.out, by go_num, HNX.out, HB.out.alloc HB.out.size _⟩
        case measure => have := HKL.out; simp [intOf]; omega
    · have hkI : (n : Int) ≤ (k : Int) := by omega
      have HM : Hid (r = false) := by
        show r = false
        rw [← HR.out]
        exact named_miss (fun j hj => HZ.out j (by have := HL.out; omega))
      clear HZ hkl
      go_wp2
      go_ret
      refine ⟨-1, rfl, ⟨fun h => by omega, fun h => ?_⟩, HB.out⟩
      rw [HM.out] at h
      cases h
set_option maxRecDepth 8000 in
set_option maxHeartbeats 2000000 in
theorem contains_any (q : Option Addr) (n c nb : Nat) (l : List CV) (name : ByteArray) (w : World) (hq : CsIn w q l) (hn0 : n = l.length) (hnb : (n : Int) ≤ 9223372036854775807) (hn : w.cell? ⟨nb, 0, none⟩ = some (.string name)) (r : Bool) (hr : namedC l name = r) :
    Calls Tryd.prog 28 #[.slice q n c, .func (.func 29) #[] #[.pointer (some ⟨nb, 0, none⟩)]] w fun e w' => e = .returned (.bool r) ∧ Below w.heap.size w w' := by
  have hix := index_named q n c nb l name w hq hn0 hnb hn r hr
  clear hq hn0 hnb hr hn
  go_enter Tryd.func28, Tryd.ntmps28
  go_wp2_with fail
  refine hix.mono ?_
  rintro e w2 ⟨i, rfl, hi, hb2⟩
  have HB : Hid (Below w.heap.size w w2) := hb2
  cases r with
  | true =>
    have h0 : 0 ≤ i := hi.2 rfl
    clear hb2 hix hi
    go_wp2
    go_ret
    exact ⟨by simp, HB.out⟩
  | false =>
    have h0 : i < 0 := by
      rcases Int.lt_or_le i 0 with h | h
      · exact h
      · exact absurd (hi.1 h) (by simp)
    clear hb2 hix hi
    go_wp2
    go_ret
    exact ⟨by simp; omega, HB.out⟩
/-! ### A row of changes of one's own -/
def cellsC (l : List CV) : List Value := l.flatMap fun x => [.string x.key, .string x.val, .bool x.gone]
theorem cellsC_len (l : List CV) : (cellsC l).length = l.length * 3 := by
  induction l with
  | nil => rfl
  | cons x l ih => simp only [cellsC, List.flatMap_cons, List.length_append, List.length_cons, List.length_nil] at *; omega
theorem cellsC_app (l m : List CV) : cellsC (l ++ m) = cellsC l ++ cellsC m := by simp [cellsC]
theorem cellsC_at : ∀ (l : List CV) (i : Nat), i < l.length → (cellsC l)[i * 3]? = some (.string (l.getD i zeroCV).key) ∧ (cellsC l)[i * 3 + 1]? = some (.string (l.getD i zeroCV).val) ∧ (cellsC l)[i * 3 + 2]? = some (.bool (l.getD i zeroCV).gone)
  | [], i, h => by simp at h
  | x :: l, 0, _ => ⟨rfl, rfl, rfl⟩
  | x :: l, i + 1, h => by
    obtain ⟨h0, h1, h2⟩ := cellsC_at l i (by simpa using h)
    have e : cellsC (x :: l) = [.string x.key, .string x.val, .bool x.gone] ++ cellsC l := rfl
    rw [e, List.getD_cons_succ]
    refine ⟨?_, ?_, ?_⟩
    · rw [List.getElem?_append_right (by simp; omega)]; simpa [show (i + 1) * 3 - 3 = i * 3 by omega] using h0
    · rw [List.getElem?_append_right (by simp; omega)]; simpa [show (i + 1) * 3 + 1 - 3 = i * 3 + 1 by omega] using h1
    · rw [List.getElem?_append_right (by simp; omega)]; simpa [show (i + 1) * 3 + 2 - 3 = i * 3 + 2 by omega] using h2
def COwn (w : World) (base : Nat) (v : Value) (l : List CV) : Prop := w.ownsRow base 36 3 v l.length (cellsC l)
theorem cown_nil (w : World) (base : Nat) : COwn w base (.slice none 0 0) [] := World.ownsRow_nil _ _ _ _
theorem COwn.cs {w : World} {base : Nat} {q : Option Addr} {n m : Nat} {l : List CV} (h : COwn w base (.slice q n m) l) : CsIn w q l := by
  intro hp
  rcases h.2 with ⟨_, hn⟩ | ⟨g, cap, cur, hv, hb, hg, hle, hmax, hsz, htk⟩
  · omega
  · simp only [Value.slice.injEq] at hv
    obtain ⟨rfl, rfl, rfl⟩ := hv
    refine ⟨g, 0, rfl, fun i hi => ?_⟩
    obtain ⟨c0, c1, c2⟩ := cellsC_at l i hi
    have hc : ∀ j, j < l.length * 3 → w.cell? ⟨g, 0 + j, none⟩ = (cellsC l)[j]? := fun j hj => by
      rw [cell_of_row w g (0 + j) cur _ _ hg, Nat.zero_add, ← htk, List.getElem?_take_of_lt hj]
      simp
    exact ⟨by rw [hc _ (by omega), c0], by rw [hc _ (by omega), c1], by rw [hc _ (by omega), c2]⟩
theorem COwn.below {w w' : World} {base : Nat} {v : Value} {l : List CV} (h : COwn w base v l) (hb : Below w.heap.size w w') : COwn w' base v l := own_below h hb
theorem info_change : (Tryd.prog.info? 36).map (fun i => (i.zero, i.size, i.bytes)) = some (some (.agg #[.string ⟨#[]⟩, .string ⟨#[]⟩, .bool false]), 3, 40) := by kernel_rfl
theorem run_append_change (w : World) (ty : TypeId) (base : Nat) (v : Value) (ls : List CV) (x : CV) (ad : Addr) (c : Nat) (hown : COwn w base v ls)
    (h0 : w.cell? (ad.add 0) = some (.string x.key)) (h1 : w.cell? (ad.add 1) = some (.string x.val)) (h2 : w.cell? (ad.add 2) = some (.bool x.gone)) (hlen : ls.length ≤ 1000000) (hbase : base ≤ w.heap.size) :
    ∃ v' w', (Builtin.append_ #[22, 22] ty #[v, .slice (some ad) 1 c]).run Tryd.prog w = .ok v' w' ∧ COwn w' base v' (ls ++ [x]) ∧ w.grownBy w' v.ownBlock := by
  obtain ⟨i0, hi, hz0, hz1, hz2⟩ := info_parts' info_change
  have hcs : ∀ j u, (cellsC [x])[j]? = some u → w.cell? (ad.add j) = some u := by
    intro j u hu
    rcases j with _ | _ | _ | j
    · simp [cellsC] at hu; rw [h0, hu]
    · simp [cellsC] at hu; rw [h1, hu]
    · simp [cellsC] at hu; rw [h2, hu]
    · simp [cellsC] at hu
  have hone : ∀ u ∈ cellsC [x], u.oneCell' = true := by
    intro u hu
    simp [cellsC] at hu
    rcases hu with rfl | rfl | rfl
    · rfl
    · rfl
    · rfl
  obtain ⟨v', w', g1, g2, g3, _⟩ := run_append_own (P := Tryd.prog) w base 22 ty 36 i0 _ 3 40 Tryd.underlying22 hi hz0 hz1 hz2 rfl (by decide) v ls.length (cellsC ls) hown ad 1 c (cellsC [x]) rfl hcs hone (by unfold maxLen; omega) (by omega) hbase
  refine ⟨v', w', g1, ?_, g3⟩
  unfold COwn
  rw [cellsC_app, List.length_append]
  exact g2
theorem wpList_append_change (w : World) {ops : Array Oper} {rest : List Oper} {o : Oper} {a : Act} {Q : Exit → Act → World → Prop} (hgd : o.guard = none) (s x : Operand)
    (ho : o.op = .call { callee := .builtin .append, args := #[s, x], argTypes := #[22, 22] }) (base : Nat) (v : Value) (ls : List CV) (y : CV) (ad : Addr) (c : Nat) (hs : a.eval s = v) (hx : a.eval x = .slice (some ad) 1 c)
    (hown : COwn w base v ls) (h0 : w.cell? (ad.add 0) = some (.string y.key)) (h1 : w.cell? (ad.add 1) = some (.string y.val)) (h2 : w.cell? (ad.add 2) = some (.bool y.gone)) (hlen : ls.length ≤ 1000000) (hbase : base ≤ w.heap.size)
    (h : ∀ v' w', COwn w' base v' (ls ++ [y]) → w.grownBy w' v.ownBlock → wpList Tryd.prog ops Q rest (a.put o.dst v') w') : wpList Tryd.prog ops Q (o :: rest) a w := by
  refine wpList_plain hgd fun K hK => ?_
  obtain ⟨v', w', hr, g2, g3⟩ := run_append_change w o.type base v ls y ad c hown h0 h1 h2 hlen hbase
  unfold Oper.wp execOp
  simp only [ho, resolve, invoke, builtin, Sem.run_bind, Sem.run_pure, Result.andThen_ok, List.map_toArray, List.map_cons, List.map_nil, hs, hx, hr]
  exact hK _ _ (h v' w' g2 g3)
structure OnC (w0 : World) (v : Value) (l : List CV) (wr : World) : Prop where
  own : COwn wr w0.heap.size v l
  bel : Below w0.heap.size w0 wr
theorem OnC.app {w0 wr w' : World} {v v' : Value} {l m : List CV} (h : OnC w0 v l wr) (hg : wr.grownBy w' v.ownBlock) (ho : COwn w' w0.heap.size v' m) : OnC w0 v' m w' :=
  ⟨ho, h.bel.grown hg h.bel.size (fun k hk => (World.ownsRow.lt h.own k hk).1)⟩
theorem OnC.next {w0 wr w' : World} {v : Value} {l : List CV} (h : OnC w0 v l wr) (hb : Below wr.heap.size wr w') : OnC w0 v l w' := ⟨own_below h.own hb, below_bt h.bel hb⟩
end Go.Proofs.YtkecajgdmompcaaDoor
namespace Go.Proofs.YtkecajgdmompcaaDoor
open Go.RowKit Go.WideShapes

theorem isKey_any (s : ByteArray) (hs : (s.size : Int) ≤ 9223372036854775807) (w : World) : Calls Tryd.prog 27 #[.string s] w fun e w' => e = .returned (.bool (decide (1 ≤ s.size ∧ s.size ≤ 256))) ∧ w' = w := by
  by_cases h1 : 1 ≤ s.size
  · have h1I : (1 : Int) ≤ (s.size : Int) := by omega
    by_cases h2 : s.size ≤ 256
    · have h2I : (s.size : Int) ≤ 256 := by omega
      have e : decide (1 ≤ s.size ∧ s.size ≤ 256) = true := decide_eq_true ⟨h1, h2⟩
      rw [e]
      clear h1 h2 e
      go_enter Tryd.func27, Tryd.ntmps27
      go_wp2
      go_ret
      exact ⟨by simp <;> omega, rfl⟩
    · have h2I : (256 : Int) < (s.size : Int) := by omega
      have e : decide (1 ≤ s.size ∧ s.size ≤ 256) = false := decide_eq_false (fun h => h2 h.2)
      rw [e]
      clear h1 h2 e
      go_enter Tryd.func27, Tryd.ntmps27
      go_wp2
      go_ret
      exact ⟨by simp <;> omega, rfl⟩
  · have h1I : (s.size : Int) < 1 := by omega
    have e : decide (1 ≤ s.size ∧ s.size ≤ 256) = false := decide_eq_false (fun h => h1 h.1)
    rw [e]
    clear h1 e
    go_enter Tryd.func27, Tryd.ntmps27
    go_wp2
    go_ret
    exact ⟨by simp <;> omega, rfl⟩
set_option maxRecDepth 8000 in
set_option maxHeartbeats 2000000 in
theorem checkChange_any (q : Option Addr) (n c : Nat) (l : List CV) (x : CV) (w : World) (hq : CsIn w q l) (hn0 : n = l.length) (hnb : (n : Int) ≤ 9223372036854775807) (hk : (x.key.size : Int) ≤ 9223372036854775807) (hv : (x.val.size : Int) ≤ 9223372036854775807) (E : Int) (hE : oneW l x = E) :
    Calls Tryd.prog 20 #[.slice q n c, .agg #[.string x.key, .string x.val, .bool x.gone]] w fun e w' => ∃ ev, e = .returned ev ∧ ErrV ev E ∧ Below w.heap.size w w' := by
  have hmf : ∀ (fn : Fn) (first cap : Array Value) (w : World), (Instr.makeFunc fn first cap).run Tryd.prog w = .ok (.func fn first cap) w := fun _ _ _ _ => rfl
  obtain ⟨key, val, gone⟩ := x
  simp only at hk hv
  have HIK := isKey_any key hk
  have hbox := heap_alloc_new w (.cells #[.string key, .string val, .bool gone] 36)
  have HB : Hid (Below w.heap.size w (w.alloc (.cells #[.string key, .string val, .bool gone] 36))) := below_alloc _ _
  have HCT : ∀ r, namedC l key = r → Calls Tryd.prog 28 #[.slice q n c, .func (.func 29) #[] #[.pointer (some ⟨w.heap.size, 0, none⟩)]] (w.alloc (.cells #[.string key, .string val, .bool gone] 36)) fun e w' => e = .returned (.bool r) ∧ Below (w.alloc (.cells #[.string key, .string val, .bool gone] 36)).heap.size (w.alloc (.cells #[.string key, .string val, .bool gone] 36)) w' := fun r hr => contains_any q n c w.heap.size l key _ (hq.below (below_alloc _ _)) hn0 hnb (three_cells hbox).1 r hr
  have HE : Hid (oneW l ⟨key, val, gone⟩ = E) := hE
  clear hq hn0 hE
  by_cases h1 : 1 ≤ key.size ∧ key.size ≤ 256
  · rw [show decide (1 ≤ key.size ∧ key.size ≤ 256) = true from decide_eq_true h1] at HIK
    by_cases h2 : 4096 < val.size
    · have h2I : (4096 : Int) < (val.size : Int) := by omega
      have HE3 : Hid (E = 3) := by
        show E = 3
        rw [← HE.out]; unfold oneW; rw [if_neg (by simp only; omega), if_pos h2]
      clear h1 h2 HE hbox HCT
      go_enter Tryd.func20, Tryd.ntmps20
      go_wp2_with (go_at_call 27; refine (HIK _).mono ?_; rintro e w1 ⟨rfl, rfl⟩)
      go_ret
      exact ⟨_, rfl, .inr ⟨by rw [HE3.out]; decide, by rw [HE3.out]; exact Faults.one _ _⟩, HB.out⟩
    · have h2I : (val.size : Int) ≤ 4096 := by omega
      cases gone with
      | true =>
        by_cases h3 : val.size = 0
        · have hz : val = ByteArray.empty := ByteArray.size_eq_zero_iff.1 h3
          subst hz
          cases hr : namedC l key with
          | true =>
            have HE3 : Hid (E = 8) := by
              show E = 8
              rw [← HE.out]; unfold oneW; rw [if_neg (by simp only; omega), if_neg h2, if_neg (by simp), if_pos hr]
            have hct := HCT true hr
            clear h1 h2 h3 HE hbox HCT hr
            go_enter Tryd.func20, Tryd.ntmps20
            go_wp2_with (first
              | (go_at_call 27; refine (HIK _).mono ?_; rintro e w1 ⟨rfl, rfl⟩)
              | (go_at_call 28; refine hct.mono ?_; rintro e w1 ⟨rfl, hb1⟩))
            go_ret
            exact ⟨_, rfl, .inr ⟨by rw [HE3.out]; decide, by rw [HE3.out]; exact Faults.one _ _⟩, below_bt HB.out hb1⟩
          | false =>
            have HE3 : Hid (E = 0) := by
              show E = 0
              rw [← HE.out]; unfold oneW; rw [if_neg (by simp only; omega), if_neg h2, if_neg (by simp), if_neg (by simp [hr])]
            have hct := HCT false hr
            clear h1 h2 h3 HE hbox HCT hr
            go_enter Tryd.func20, Tryd.ntmps20
            go_wp2_with (first
              | (go_at_call 27; refine (HIK _).mono ?_; rintro e w1 ⟨rfl, rfl⟩)
              | (go_at_call 28; refine hct.mono ?_; rintro e w1 ⟨rfl, hb1⟩))
            go_ret
            exact ⟨_, rfl, .inl ⟨HE3.out, rfl⟩, below_bt HB.out hb1⟩
        · have HE3 : Hid (E = 8) := by
            show E = 8
            rw [← HE.out]; unfold oneW; rw [if_neg (by simp only; omega), if_neg h2, if_pos ⟨rfl, h3⟩]
          have hne : (val.toList == []) = false := by
            rw [ByteArray.toList_eq]
            cases hl : val.data.toList with
            | nil => exact absurd (show val.size = 0 by have := congrArg List.length hl; simpa using this) h3
            | cons _ _ => rfl
          clear h1 h2 h3 HE hbox HCT
          go_enter Tryd.func20, Tryd.ntmps20
          go_wp2_with (go_at_call 27; refine (HIK _).mono ?_; rintro e w1 ⟨rfl, rfl⟩)
          go_ret
          exact ⟨_, rfl, .inr ⟨by rw [HE3.out]; decide, by rw [HE3.out]; exact Faults.one _ _⟩, HB.out⟩
      | false =>
        cases hr : namedC l key with
        | true =>
          have HE3 : Hid (E = 8) := by
            show E = 8
            rw [← HE.out]; unfold oneW; rw [if_neg (by simp only; omega), if_neg h2, if_neg (by simp), if_pos hr]
          have hct := HCT true hr
          clear h1 h2 HE hbox HCT hr
          go_enter Tryd.func20, Tryd.ntmps20
          go_wp2_with (first
            | (go_at_call 27; refine (HIK _).mono ?_; rintro e w1 ⟨rfl, rfl⟩)
            | (go_at_call 28; refine hct.mono ?_; rintro e w1 ⟨rfl, hb1⟩))
          go_ret
          exact ⟨_, rfl, .inr ⟨by rw [HE3.out]; decide, by rw [HE3.out]; exact Faults.one _ _⟩, below_bt HB.out hb1⟩
        | false =>
          have HE3 : Hid (E = 0) := by
            show E = 0
            rw [← HE.out]; unfold oneW; rw [if_neg (by simp only; omega), if_neg h2, if_neg (by simp), if_neg (by simp [hr])]
          have hct := HCT false hr
          clear h1 h2 HE hbox HCT hr
          go_enter Tryd.func20, Tryd.ntmps20
          go_wp2_with (first
            | (go_at_call 27; refine (HIK _).mono ?_; rintro e w1 ⟨rfl, rfl⟩)
            | (go_at_call 28; refine hct.mono ?_; rintro e w1 ⟨rfl, hb1⟩))
          go_ret
          exact ⟨_, rfl, .inl ⟨HE3.out, rfl⟩, below_bt HB.out hb1⟩
  · rw [show decide (1 ≤ key.size ∧ key.size ≤ 256) = false from decide_eq_false h1] at HIK
    have HE3 : Hid (E = 60) := by
      show E = 60
      rw [← HE.out]; unfold oneW; rw [if_pos (by simp only; omega)]
    clear h1 HE hbox HCT
    go_enter Tryd.func20, Tryd.ntmps20
    go_wp2_with (go_at_call 27; refine (HIK _).mono ?_; rintro e w1 ⟨rfl, rfl⟩)
    go_ret
    exact ⟨_, rfl, .inr ⟨by rw [HE3.out]; decide, by rw [HE3.out]; exact Faults.one _ _⟩, HB.out⟩
end Go.Proofs.YtkecajgdmompcaaDoor
namespace Go.Proofs.YtkecajgdmompcaaDoor
open Go.RowKit Go.WideShapes

/-- A row of bytes of one's own, while all older memory stays. -/
structure OnB (w0 : World) (v : Value) (xs : List Nat) (wr : World) : Prop where
  own : wr.ownsRow w0.heap.size 5 1 v xs.length (Bs xs)
  bel : Below w0.heap.size w0 wr
theorem OnB.next {w0 wr w' : World} {v : Value} {xs : List Nat} (h : OnB w0 v xs wr) (hb : Below wr.heap.size wr w') : OnB w0 v xs w' := ⟨own_below h.own hb, below_bt h.bel hb⟩
theorem OnB.app {w0 wr w' : World} {v v' : Value} {xs ys : List Nat} (h : OnB w0 v xs wr) (ho : w'.ownsRow w0.heap.size 5 1 v' (xs ++ ys).length (Bs (xs ++ ys))) (hg : wr.grownBy w' v.ownBlock) : OnB w0 v' (xs ++ ys) w' :=
  ⟨ho, h.bel.grown hg h.bel.size (fun k hk => (World.ownsRow.lt h.own k hk).1)⟩
theorem small_t (n : Nat) (w : World) (hn : (n : Int) ≤ 2147483647) : Calls Tryd.prog 19 #[.int .i64 (n : Int)] w fun e w' => ∃ v, e = .returned v ∧ w'.ownsRow w.heap.size 5 1 v (smallN n).length (Bs (smallN n)) ∧ Below w.heap.size w w' := by
  have hc := small_any n w (by omega)
  go_enter Tryd.func19, Tryd.ntmps19
  go_wp2_with (go_at_call 26; refine hc.mono ?_; rintro e w1 ⟨v, rfl, ho, hb⟩)
  go_ret
  exact ⟨v, rfl, ho, hb⟩
theorem one_byte (w : World) (c : Nat) (hc : c < 256) (g : Nat) (hg : g = w.heap.size) : BIn (w.alloc (.cells #[.int .u8 (c : Int)] 5)) (some ⟨g, 0, none⟩) [c] := bin_lit w g _ _ _ [c] hg rfl (by simpa using hc)
set_option maxRecDepth 8000 in
set_option maxHeartbeats 2000000 in
theorem appendChange_any (w0 : World) (v : Value) (xs : List Nat) (x : CV) (w : World) (hv : OnB w0 v xs w) (hk : x.key.size ≤ 256) (hl : x.val.size ≤ 4096) (hx : xs.length ≤ 1000000) (R : List Nat) (hR : recB x = R) :
    Calls Tryd.prog 22 #[v, .agg #[.string x.key, .string x.val, .bool x.gone]] w fun e w' => ∃ v', e = .returned v' ∧ OnB w0 v' (xs ++ R) w' := by
  obtain ⟨key, val, gone⟩ := x
  simp only at hk hl
  have HBX : Hid ((w.alloc (.cells #[.string key, .string val, .bool gone] 36)).heap[w.heap.size]? = some (.cells #[.string key, .string val, .bool gone] 36 (0, 0))) := heap_alloc_new _ _
  have HV : Hid (OnB w0 v xs (w.alloc (.cells #[.string key, .string val, .bool gone] 36))) := hv.next (below_alloc _ _)
  have HT := text_any key (w.alloc (.cells #[.string key, .string val, .bool gone] 36)) (by omega)
  obtain ⟨T, hT⟩ : ∃ T, textN key = T := ⟨_, rfl⟩
  have HTL : Hid (T.length ≤ 5000 ∧ ∀ c ∈ T, c < 256) := ⟨by rw [← hT]; have := textN_len key (by omega); omega, by rw [← hT]; exact textN_bytes key⟩
  have HR : Hid (textN key ++ (if gone = true then [1] else 0 :: textN val) = R) := hR
  rw [hT] at HT HR
  have HS : Hid (xs.length ≤ 1000000 ∧ val.size ≤ 4096) := ⟨hx, hl⟩
  obtain ⟨xq, xm, rfl, _⟩ := own_form hv.own
  obtain ⟨xl, hxl⟩ : ∃ n, xs.length = n := ⟨_, rfl⟩
  have HXL : Hid (xs.length = xl) := hxl
  rw [hxl] at HV ⊢
  obtain ⟨b0, b1, b2⟩ := three_cells HBX.out
  clear hv hk hl hx hR hT hxl
  go_enter Tryd.func22, Tryd.ntmps22
  go_wp2_with fail
  refine HT.mono ?_
  rintro e w1 ⟨tv, rfl, hto, hb1⟩
  obtain ⟨tq, tm, rfl, _, _, htn⟩ := own_form hto
  obtain ⟨tl, htl⟩ : ∃ n, T.length = n := ⟨_, rfl⟩
  have H1 : Hid (OnB w0 (.slice xq xl xm) xs w1 ∧ BIn w1 tq T ∧ (tq = none → tm = 0) ∧ tl = T.length) := ⟨HV.out.next hb1, own_in hto HTL.out.2, htn, htl.symm⟩
  have HB1 : Hid (w1.heap[w.heap.size]? = some (.cells #[.string key, .string val, .bool gone] 36 (0, 0))) := (hb1.block _ (lt_heap HBX.out)).trans HBX.out
  rw [htl]
  clear HT hto hb1 htn htl b0 b1 b2
  have HF : Hid (∀ w2, w1.grownBy w2 (Value.slice xq xl xm).ownBlock → w2.heap[w.heap.size]? = some (.cells #[.string key, .string val, .bool gone] 36 (0, 0))) := by
    intro w2 hg
    rw [hg.block _ (lt_heap HB1.out) ?_]
    · exact HB1.out
    · intro e
      have h2 := H1.out.1.own
      obtain ⟨h2a, h2b⟩ := h2
      rcases h2b with ⟨hv, _⟩ | ⟨g, cap, cur, hv, _, hg2, _⟩
      · rw [hv] at e; cases e
      · rw [hv] at e
        simp only [Value.ownBlock, Option.some.injEq] at e
        subst e
        rw [HB1.out] at hg2
        simp at hg2
  cases gone with
  | true =>
    go_wp2_with (first
      | (at_builtin; have q := H2.out; clear q; (refine wpList_append_bytes _ rfl _ _ rfl w0.heap.size v2 (xs ++ T) [1] (some ⟨w2.heap.size, 0, none⟩) 1 1 rfl rfl rfl (H2.out.next (below_alloc _ _)).own (one_byte w2 1 (by decide) _ rfl) (by simp) (by have := HS.out; have := HTL.out; simp only [List.length_append, List.length_cons, List.length_nil]; omega) (H2.out.next (below_alloc _ _)).bel.size ?_); intro v3 w3 ho3 hg3; have H3 : Hid (OnB w0 v3 (xs ++ T ++ [1]) w3) := (H2.out.next (below_alloc _ _)).app ho3 hg3; clear ho3 hg3)
      | (at_builtin; (refine wpList_append_bytes _ rfl _ _ rfl w0.heap.size (.slice xq xl xm) xs T tq tl tm rfl rfl H1.out.2.2.2 H1.out.1.own H1.out.2.1 H1.out.2.2.1 (by have := HS.out; have := HTL.out; omega) H1.out.1.bel.size ?_); intro v2 w2 ho2 hg2; have H2 : Hid (OnB w0 v2 (xs ++ T) w2) := H1.out.1.app ho2 hg2; have HB2 : Hid _ := HF.out w2 hg2; obtain ⟨b0, b1, b2⟩ := three_cells HB2.out; clear ho2 hg2))
    go_ret
    refine ⟨v3, rfl, ?_⟩
    have e := HR.out
    simp only [if_true] at e
    rw [← e, ← List.append_assoc]
    exact H3.out
  | false =>
    have HTV : Hid (∀ w', Calls Tryd.prog 31 #[.string val] w' fun e w'' => ∃ v, e = .returned v ∧ w''.ownsRow w'.heap.size 5 1 v (textN val).length (Bs (textN val)) ∧ Below w'.heap.size w' w'') := fun w' => text_any val w' (by have := HS.out; omega)
    have HVL : Hid ((textN val).length ≤ 5000) := by have := textN_len val HS.out.2; show _ ≤ _; omega
    have HF2 : Hid (∀ w2 w3 v2, OnB w0 v2 (xs ++ T) w2 → w2.heap[w.heap.size]? = some (.cells #[.string key, .string val, .bool false] 36 (0, 0)) → w2.grownBy w3 v2.ownBlock → w3.heap[w.heap.size]? = some (.cells #[.string key, .string val, .bool false] 36 (0, 0))) := by
      intro w2 w3 v2 hon hb hg
      rw [hg.block _ (lt_heap hb) ?_]
      · exact hb
      · intro e
        obtain ⟨h2a, h2b⟩ := hon.own
        rcases h2b with ⟨hv, _⟩ | ⟨g, cap, cur, hv, _, hg2, _⟩
        · rw [hv] at e; cases e
        · rw [hv] at e
          simp only [Value.ownBlock, Option.some.injEq] at e
          subst e
          rw [hb] at hg2
          simp at hg2
    go_wp2_with (first
      | (at_builtin; have q := H2.out; clear q; (refine wpList_append_bytes _ rfl _ _ rfl w0.heap.size v2 (xs ++ T) [0] (some ⟨w2.heap.size, 0, none⟩) 1 1 rfl rfl rfl H2.out.own (one_byte w2 0 (by decide) _ rfl) (by simp) (by have := HS.out; have := HTL.out; simp only [List.length_append, List.length_cons, List.length_nil]; omega) H2.out.bel.size ?_); intro v3 w3 ho3 hg3; have H3 : Hid (OnB w0 v3 (xs ++ T ++ [0]) w3) := H2.out.app ho3 hg3; have HB3 : Hid _ := HF2.out _ w3 _ H2.out HB2.out hg3; obtain ⟨c0, c1, c2⟩ := three_cells HB3.out; clear ho3 hg3)
      | (at_builtin; (refine wpList_append_bytes _ rfl _ _ rfl w0.heap.size (.slice xq xl xm) xs T tq tl tm rfl rfl H1.out.2.2.2 H1.out.1.own H1.out.2.1 H1.out.2.2.1 (by have := HS.out; have := HTL.out; omega) H1.out.1.bel.size ?_); intro v2 w2 ho2 hg2; have H2 : Hid (OnB w0 v2 (xs ++ T) (w2.alloc (.cells #[.int .u8 0] 5))) := (H1.out.1.app ho2 hg2).next (below_alloc _ _); have HB2 : Hid ((w2.alloc (.cells #[.int .u8 0] 5)).heap[w.heap.size]? = some (.cells #[.string key, .string val, .bool false] 36 (0, 0))) := ((below_alloc w2 _).block _ (lt_heap (HF.out w2 hg2))).trans (HF.out w2 hg2); obtain ⟨b0, b1, b2⟩ := three_cells (HF.out w2 hg2); clear ho2 hg2))
    refine (HTV.out _).mono ?_
    rintro e w4 ⟨uv, rfl, huo, hb4⟩
    obtain ⟨uq, um, rfl, _, _, hun⟩ := own_form huo
    obtain ⟨ul, hul⟩ : ∃ n, (textN val).length = n := ⟨_, rfl⟩
    have H4 : Hid (OnB w0 v3 (xs ++ T ++ [0]) w4 ∧ BIn w4 uq (textN val) ∧ (uq = none → um = 0) ∧ ul = (textN val).length) := ⟨H3.out.next hb4, own_in huo (textN_bytes val), hun, hul.symm⟩
    rw [hul]
    clear huo hb4 hun hul
    go_wp2_with (at_builtin; (refine wpList_append_bytes _ rfl _ _ rfl w0.heap.size v3 (xs ++ T ++ [0]) (textN val) uq ul um rfl rfl H4.out.2.2.2 H4.out.1.own H4.out.2.1 H4.out.2.2.1 (by have := HS.out; have := HTL.out; have := HVL.out; simp only [List.length_append, List.length_cons, List.length_nil]; omega) H4.out.1.bel.size ?_); intro v5 w5 ho5 hg5; have H5 : Hid (OnB w0 v5 (xs ++ T ++ [0] ++ textN val) w5) := H4.out.1.app ho5 hg5; clear ho5 hg5)
    go_ret
    refine ⟨v5, rfl, ?_⟩
    have e := HR.out
    simp only [Bool.false_eq_true, if_false] at e
    have e2 : xs ++ R = xs ++ T ++ [0] ++ textN val := by rw [← e]; simp
    rw [e2]
    exact H5.out
end Go.Proofs.YtkecajgdmompcaaDoor
