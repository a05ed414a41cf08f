import Derived.Test.YtghcmllmbpoidaaGreatDoorJ02
import Derived.LaidEql
import Derived.Stop.Asserts
import Derived.RowKitTokens
namespace Go.Proofs.YtghcmllmbpoidaaGreatDoor.Tr
open Go.RowKit Go.WideShapes Go.Extern.Stop Go.Stop Go.Extern
theorem below_alloc (w : World) (o : Obj) : Below w.heap.size w (w.alloc o) := (Below.refl _ _).alloc (Nat.le_refl _) o
theorem below_bt {a b c : World} (h : Below a.heap.size a b) (k : Below b.heap.size b c) : Below a.heap.size a c := h.trans (k.mono h.size)
inductive Faults : Value → Int → Prop
  | num (e : Int) : Faults (.iface 25 (.int .i64 e)) e
  | more (s : ByteArray) {v : Value} {e : Int} (h : Faults v e) : Faults (.iface 70 (.agg #[.string s, v])) e
theorem Faults.one (s : ByteArray) (e : Int) : Faults (.iface 70 (.agg #[.string s, .iface 25 (.int .i64 e)])) e := .more s (.num e)
theorem Faults.iface {v : Value} {e : Int} (h : Faults v e) : ∃ t x, v = .iface t x := by cases h <;> exact ⟨_, _, rfl⟩
def ErrV (v : Value) (e : Int) : Prop := (e = 0 ∧ v = .nilIface) ∨ (e ≠ 0 ∧ Faults v e)
theorem ef.equalIn (d : Nat) (a b : Int) {i : TypeInfo} (hinfo : Tryz.prog.info? 25 = some i) (hcomp : i.comparable = true) (w : World) :
    (Op.equalIn (d + 2) 45 (.iface 25 (.int .i64 a)) (.iface 25 (.int .i64 b))).run Tryz.prog w = .ok (a == b) w := by
  simp [Op.equalIn, run_underlying Tryz.underlying45, run_underlying Tryz.underlying25, typeInfo, hinfo, hcomp]
theorem ef.comp : (Tryz.prog.info? 25).map (·.comparable) = some true := by kernel_rfl
theorem ef.eql (a b : Int) (w : World) : (binOp .eql 45 (.iface 25 (.int .i64 a)) (.iface 25 (.int .i64 b))).run Tryz.prog w = .ok (.bool (a == b)) w := by
  obtain ⟨i, hi, hcmp⟩ := Option.map_eq_some_iff.1 ef.comp
  simp only [binOp]
  simp [Op.equal, Op.maxDepth, ef.equalIn 9998 a b hi hcmp w]
theorem ef.typeOf (v : Value) (w : World) : (ReflectliteType.typeOf #[.iface 25 v]).run Tryz.prog w = .ok (.iface 169 (.agg #[.pointer (some ⟨14, 25, none⟩)])) w := by kernel_rfl
theorem ef.comparable (w : World) : ((ReflectliteType.method fun t => do Rtype.noPackHeld "Comparable" t; pure (.bool (← typeInfo t).comparable)) #[.agg #[.pointer (some ⟨14, 25, none⟩)]]).run Tryz.prog w = .ok (.bool true) w := by kernel_rfl
theorem ef.methodComparable (v : Value) (w : World) : (Go.method 583 169 v "Comparable").run Tryz.prog w = .ok (368, v) w := by kernel_rfl
theorem ef.noIsN (v : Value) (xT : TypeId) (w : World) : (Instr.typeAssert (.iface 25 v) xT 171 true).run Tryz.prog w = .ok (.tuple #[.nilIface, .bool false]) w := run_typeAssert_lacksB Tryz.underlying171 (by kernel_rfl) (by kernel_rfl) v xT w
theorem ef.noUnN (v : Value) (xT : TypeId) (w : World) : (Instr.typeAssert (.iface 25 v) xT 174 true).run Tryz.prog w = .ok (.tuple #[.nilIface, .bool false]) w := run_typeAssert_lacksB Tryz.underlying174 (by kernel_rfl) (by kernel_rfl) v xT w
theorem ef.noUsN (v : Value) (xT : TypeId) (w : World) : (Instr.typeAssert (.iface 25 v) xT 176 true).run Tryz.prog w = .ok (.tuple #[.nilIface, .bool false]) w := run_typeAssert_lacksB Tryz.underlying176 (by kernel_rfl) (by kernel_rfl) v xT w
theorem ef.noIsF (v : Value) (xT : TypeId) (w : World) : (Instr.typeAssert (.iface 70 v) xT 171 true).run Tryz.prog w = .ok (.tuple #[.nilIface, .bool false]) w := run_typeAssert_lacksB Tryz.underlying171 (by kernel_rfl) (by kernel_rfl) v xT w
theorem ef.hasUnF (v : Value) (xT : TypeId) (w : World) : (Instr.typeAssert (.iface 70 v) xT 174 true).run Tryz.prog w = .ok (.tuple #[.iface 70 v, .bool true]) w := run_typeAssert_hasB Tryz.underlying174 (by kernel_rfl) v xT w
theorem ef.methodUnw (s : ByteArray) (v : Value) (w : World) : (Go.method 583 70 (.agg #[.string s, v]) "Unwrap").run Tryz.prog w = .ok (361, .agg #[.string s, v]) w := by kernel_rfl
theorem fault_unwrap (s : ByteArray) (v : Value) (w : World) : Calls Tryz.prog 361 #[.agg #[.string s, v]] w fun e w' => e = .returned v ∧ Below w.heap.size w w' := by
  go_enter Tryz.func361, Tryz.ntmps361
  go_wp2
  go_ret
  exact ⟨rfl, by first | exact Below.refl _ _ | exact below_alloc _ _⟩
theorem is_low (v : Value) (e : Int) (hv : Faults v e) (k : Int) (w : World) :
    Calls Tryz.prog 58 #[v, .iface 25 (.int .i64 k), .bool true] w fun ev w' => ev = .returned (.bool (e == k)) ∧ Below w.heap.size w w' := by
  have nN := ef.noIsN
  have uN := ef.noUnN
  have sN := ef.noUsN
  have nF := ef.noIsF
  have uF := ef.hasUnF
  have mU := ef.methodUnw
  have hq := ef.eql
  go_enter Tryz.func58, Tryz.ntmps58
  go_wp2
  go_loopw [0] (fun x wr => Faults x e ∧ Below w.heap.size w wr) (fun x _ => SizeOf.sizeOf x)
  case atStart => exact ⟨hv, Below.refl _ _⟩
  case round =>
    obtain ⟨hx, hbel⟩ := hrel
    cases hx with
    | num =>
      by_cases hk : e = k
      · subst hk
        have hb : (e == e) = true := by simp
        go_wp2
        go_ret
        exact ⟨by simp, hbel⟩
      · have hb : (e == k) = false := by simpa using hk
        go_wp2
        go_ret
        exact ⟨by rw [hb]; rfl, hbel⟩
    | @more s v1 _ hx =>
      obtain ⟨tx, vx, rfl⟩ := hx.iface
      have HX : Hid (Faults (.iface tx vx) e) := hx
      have hty : ∀ wr, (binOp .eql 45 (.iface 70 (.agg #[.string s, .iface tx vx])) (.iface 25 (.int .i64 k))).run Tryz.prog wr = .ok (.bool false) wr := fun wr => run_eql_iface_types (P := Tryz.prog) 70 25 _ _ Tryz.underlying45 (by decide) wr
      clear hx
      go_wp2_with (go_at_call 361; refine (fault_unwrap _ _ _).mono ?_; rintro e1 w1 ⟨rfl, hb1⟩)
      go_roundw
      case rel => exact ⟨HX.out, hbel.trans (hb1.mono hbel.size)⟩
      case measure => simp; omega
set_option maxRecDepth 8000 in
theorem Is_any (v : Value) (e : Int) (hv : Faults v e) (k : Int) (w : World) :
    Calls Tryz.prog 29 #[v, .iface 25 (.int .i64 k)] w fun ev w' => ev = .returned (.bool (e == k)) ∧ Below w.heap.size w w' := by
  have h8 := @run_callFunc_extern Tryz.prog 57 _ ReflectliteType.typeOf Tryz.func57 (by kernel_rfl) (by kernel_rfl) (by kernel_rfl) (by kernel_rfl)
  have h32 := @run_callFunc_extern Tryz.prog 368 _ (ReflectliteType.method fun t => do Rtype.noPackHeld "Comparable" t; pure (.bool (← typeInfo t).comparable)) Tryz.func368 (by kernel_rfl) (by kernel_rfl) (by kernel_rfl) (by kernel_rfl)
  have tT := ef.typeOf
  have cT := ef.comparable
  have mR := ef.methodComparable
  have hC := fun w => h32 #[.agg #[.pointer (some ⟨14, 25, none⟩)]] w
  simp only [cT, Result.andThen_ok] at hC
  clear h32 cT
  have hl := is_low v e hv k
  obtain ⟨tx, vx, rfl⟩ := hv.iface
  clear hv
  go_enter Tryz.func29, Tryz.ntmps29
  go_wp2_with (go_at_call 58; refine (hl _).mono ?_; rintro e1 w1 ⟨rfl, hb1⟩)
  go_ret
  exact ⟨rfl, hb1⟩
theorem Is_nil (k : Int) (w : World) : Calls Tryz.prog 29 #[.nilIface, .iface 25 (.int .i64 k)] w fun ev w' => ev = .returned (.bool false) ∧ Below w.heap.size w w' := by
  have hn := run_eql_iface_nil_left (P := Tryz.prog) w 25 (.int .i64 k) Tryz.underlying45
  go_enter Tryz.func29, Tryz.ntmps29
  go_wp2
  go_ret
  exact ⟨rfl, Below.refl _ _⟩
theorem numberOf_any (v : Value) (e : Int) (hv : ErrV v e) (he : 0 ≤ e ∧ e ≤ 120) (w : World) :
    Calls Tryz.prog 14 #[v] w fun ev w' => ev = .returned (.int .i64 e) ∧ Below w.heap.size w w' := by
  have HV : Hid (ErrV v e) := hv
  have HI : Hid (∀ (k : Int) (w : World), 0 < k → Calls Tryz.prog 29 #[v, .iface 25 (.int .i64 k)] w fun ev w' => ev = .returned (.bool (e == k)) ∧ Below w.heap.size w w') := by
    intro k w hk
    rcases hv with ⟨rfl, rfl⟩ | ⟨_, hf⟩
    · refine (Is_nil k w).mono ?_
      rintro e1 w1 ⟨rfl, hb⟩
      have : ((0 : Int) == k) = false := by simp; omega
      exact ⟨by rw [this], hb⟩
    · exact Is_any v e hf k w
  clear hv
  go_enter Tryz.func14, Tryz.ntmps14
  go_wp2
  go_loopw [3] (fun x wr => ∃ k : Nat, x = .int .i64 (k : Int) ∧ e ≤ k ∧ k ≤ 120 ∧ Below w.heap.size w wr) (fun x _ => (intOf x).toNat)
  case atStart => exact ⟨120, rfl, by omega, by omega, Below.refl _ _⟩
  case round =>
    obtain ⟨k, rfl, hk, hk2, hb⟩ := hrel
    have HB : Hid (Below w.heap.size w wr) := hb
    have HK : Hid (e ≤ k ∧ k ≤ 120) := ⟨hk, hk2⟩
    by_cases h0 : k = 0
    · subst h0
      obtain rfl : e = 0 := by omega
      go_wp2
      go_ret
      exact ⟨rfl, HB.out⟩
    · have hk0 : (0 : Int) < (k : Int) := by omega
      have hk1 : (k : Int) ≤ 120 := by omega
      have hc := HI.out (k : Int) wr hk0
      clear hk hk2 hb
      by_cases hek : e = (k : Int)
      · have hbb : (e == (k : Int)) = true := by simpa using hek
        rw [hbb] at hc
        have HE : Hid (e = (k : Int)) := hek
        clear hek hbb
        go_wp2_with (go_at_call 29; refine hc.mono ?_; rintro e1 w1 ⟨rfl, hb1⟩)
        go_ret
        exact ⟨by rw [HE.out]; rfl, below_bt HB.out hb1⟩
      · have hbb : (e == (k : Int)) = false := by simpa using hek
        rw [hbb] at hc
        have HE : Hid (e ≠ (k : Int)) := hek
        clear hek hbb
        go_wp2_with (go_at_call 29; refine hc.mono ?_; rintro e1 w1 ⟨rfl, hb1⟩)
        go_roundw
        case rel => exact ⟨k - 1, by simp; omega, by have := HK.out; have := HE.out; omega, by have := HK.out; omega, below_bt HB.out hb1⟩
        case measure => simp [intOf]; omega
end Go.Proofs.YtghcmllmbpoidaaGreatDoor.Tr
namespace Go.Proofs.YtghcmllmbpoidaaGreatDoor
open Go.RowKit Go.WideShapes
theorem pow_step (i : Nat) : 2 ^ (7 * (i + 1)) = 128 * 2 ^ (7 * i) := by
  rw [show 7 * (i + 1) = 7 * i + 7 from by omega, Nat.pow_add, Nat.mul_comm]
theorem aux_back (rest : List Nat) (m : Nat) : ∀ i acc, i ≤ 9 → m * 2 ^ (7 * i) < 18446744073709551616 → (0 < i → 0 < m) → readAux i acc (smallN m ++ rest) = some (m * 2 ^ (7 * i) + acc, i + (smallN m).length) := by
  induction m using Nat.strongRecOn with
  | _ m ih =>
    intro i acc hi hm h0
    by_cases hlt : m < 128
    · rw [smallN_lo hlt]
      have h9 : ¬ (i = 9 ∧ 1 < m) := by
        rintro ⟨rfl, h1⟩
        simp only [Nat.reduceMul, Nat.reducePow] at hm
        omega
      have := aux_end (acc := acc) (ys := rest) h9 (by omega) (show ¬ (m = 0 ∧ 0 < i) from by omega)
      simp only [List.cons_append, List.nil_append, List.length_cons, List.length_nil]
      rw [this, Nat.mod_eq_of_lt hlt]
    · rw [smallN_hi hlt]
      have h9 : ¬ (i = 9 ∧ 1 < m % 128 + 128) := by
        rintro ⟨rfl, _⟩
        simp only [Nat.reduceMul, Nat.reducePow] at hm
        omega
      have hd : m = 128 * (m / 128) + m % 128 := by omega
      have e : m / 128 * 2 ^ (7 * (i + 1)) + ((m % 128 + 128) % 128 * 2 ^ (7 * i) + acc) = m * 2 ^ (7 * i) + acc := by
        rw [pow_step, show (m % 128 + 128) % 128 = m % 128 from by omega, ← Nat.mul_assoc, ← Nat.add_assoc, ← Nat.add_mul, Nat.mul_comm (m / 128) 128, ← hd]
      have hm' : m / 128 * 2 ^ (7 * (i + 1)) < 18446744073709551616 := by
        have : m / 128 * 2 ^ (7 * (i + 1)) ≤ m * 2 ^ (7 * i) := by
          rw [pow_step, ← Nat.mul_assoc]
          exact Nat.mul_le_mul_right _ (by omega)
        omega
      have hi8 : i + 1 ≤ 9 := by
        rcases Nat.lt_or_ge i 9 with h | h
        · omega
        · obtain rfl : i = 9 := by omega
          exact absurd ⟨rfl, by omega⟩ h9
      have := aux_hi (acc := acc) (ys := smallN (m / 128) ++ rest) h9 (by omega)
      rw [List.cons_append, this, ih (m / 128) (by omega) (i + 1) _ hi8 hm' (by omega), e]
      simp; omega
theorem read_back (n : Nat) (rest : List Nat) (hn : n < 18446744073709551616) : readN (smallN n ++ rest) = some (n, (smallN n).length) := by
  have := aux_back rest n 0 0 (by omega) (by simpa using hn) (by omega)
  simpa [readN] using this
theorem aux_only (ys : List Nat) : ∀ {i acc n k : Nat}, (∀ c ∈ ys, c < 256) → readAux i acc ys = some (n, k) → ∃ m, n = m * 2 ^ (7 * i) + acc ∧ i < k ∧ ys.take (k - i) = smallN m ∧ (0 < i → 0 < m) := by
  induction ys with
  | nil => intro i acc n k _ h; simp [readAux] at h
  | cons c ys ih =>
    intro i acc n k hy h
    have hc256 := hy c (by simp)
    by_cases h9 : i = 9 ∧ 1 < c
    · rw [aux_big h9] at h; cases h
    · by_cases hc : 128 ≤ c
      · rw [aux_hi h9 hc] at h
        obtain ⟨m, hn, hk, ht, h0⟩ := ih (fun c hc => hy c (by simp [hc])) h
        have hm0 := h0 (by omega)
        refine ⟨128 * m + c % 128, ?_, by omega, ?_, by omega⟩
        · rw [hn, pow_step, ← Nat.mul_assoc, ← Nat.add_assoc, ← Nat.add_mul, Nat.mul_comm m 128]
        · rw [smallN_hi (by omega), show (128 * m + c % 128) / 128 = m from by omega, show (128 * m + c % 128) % 128 + 128 = c from by omega, ← ht, show k - i = (k - (i + 1)) + 1 from by omega, List.take_succ_cons]
      · by_cases h0 : c = 0 ∧ 0 < i
        · rw [aux_zero h9 hc h0] at h; cases h
        · rw [aux_end h9 hc h0] at h
          simp only [Option.some.injEq, Prod.mk.injEq] at h
          refine ⟨c, ?_, by omega, ?_, by omega⟩
          · rw [← h.1, Nat.mod_eq_of_lt (by omega)]
          · rw [← h.2, show i + 1 - i = 1 from by omega, smallN_lo (by omega)]; simp
theorem read_only {xs : List Nat} {n k : Nat} (hx : ∀ c ∈ xs, c < 256) (h : readN xs = some (n, k)) : xs.take k = smallN n := by
  obtain ⟨m, hn, _, ht, _⟩ := aux_only xs hx h
  obtain rfl : n = m := by simpa using hn
  simpa using ht
end Go.Proofs.YtghcmllmbpoidaaGreatDoor
namespace Go.Proofs.YtghcmllmbpoidaaGreatDoor.Tr
open Go.RowKit Go.WideShapes
structure CV where
  key : ByteArray
  val : ByteArray
  gone : Bool
def zeroCV : CV := ⟨ByteArray.empty, ByteArray.empty, false⟩
def namedC (l : List CV) (name : ByteArray) : Bool := l.any fun c => decide (c.key = name)
def recB (c : CV) : List Nat := textN c.key ++ if c.gone = true then [1] else 0 :: textN c.val
def recBs (l : List CV) : List Nat := l.flatMap recB
def recN (l : List CV) (seq : Nat) : List Nat := smallN seq ++ (smallN l.length ++ recBs l)
def oneW (ahead : List CV) (c : CV) : Int :=
  if c.key.size < 1 ∨ 256 < c.key.size then 60 else if 4096 < c.val.size then 3 else if c.gone = true ∧ c.val.size ≠ 0 then 8 else if namedC ahead c.key = true then 8 else 0
def chgK (l : List CV) : Nat → Int
  | 0 => 0
  | k + 1 => if chgK l k ≠ 0 then chgK l k else oneW (l.take k) (l.getD k zeroCV)
def writeE (l : List CV) (seq : Int) : Int × List Nat :=
  if seq < 1 ∨ 2147483647 < seq then (2, []) else if 64 < l.length then (4, []) else if l.length = 0 then (6, []) else
  if chgK l l.length ≠ 0 then (chgK l l.length, []) else if 4096 < (recN l seq.toNat).length then (3, []) else (0, recN l seq.toNat)
theorem chgK_step (l : List CV) (k : Nat) (h : chgK l k = 0) : chgK l (k + 1) = oneW (l.take k) (l.getD k zeroCV) := by
  rw [chgK, if_neg (by omega)]
theorem chgK_stays (l : List CV) (k : Nat) (h : chgK l k ≠ 0) : ∀ m, k ≤ m → chgK l m = chgK l k := by
  intro m hm
  induction m with
  | zero => rw [show k = 0 by omega]
  | succ m ih =>
    rcases Nat.lt_or_ge k (m + 1) with h1 | h1
    · have e := ih (by omega)
      rw [chgK, if_pos (by rw [e]; exact h), e]
    · rw [show k = m + 1 by omega]
theorem chgK_all {l : List CV} (h : chgK l l.length = 0) : ∀ k, k ≤ l.length → chgK l k = 0 := by
  intro k hk
  rcases Classical.em (chgK l k = 0) with h1 | h1
  · exact h1
  · rw [chgK_stays l k h1 l.length hk] at h
    exact absurd h h1
theorem oneW_zero {a : List CV} {c : CV} (h : oneW a c = 0) : 1 ≤ c.key.size ∧ c.key.size ≤ 256 ∧ c.val.size ≤ 4096 ∧ (c.gone = true → c.val.size = 0) ∧ namedC a c.key = false := by
  unfold oneW at h
  split at h
  · cases h
  · split at h
    · cases h
    · split at h
      · cases h
      · split at h
        · cases h
        · rename_i h1 h2 h3 h4
          refine ⟨by omega, by omega, by omega, fun hg => ?_, by simpa using h4⟩
          exact Classical.byContradiction fun hn => h3 ⟨hg, hn⟩
theorem oneW_range (a : List CV) (c : CV) : 0 ≤ oneW a c ∧ oneW a c ≤ 120 := by
  unfold oneW
  repeat' split
  all_goals omega
theorem chgK_range (l : List CV) : ∀ k, 0 ≤ chgK l k ∧ chgK l k ≤ 120
  | 0 => by simp [chgK]
  | k + 1 => by
    rw [chgK]
    split
    · exact chgK_range l k
    · exact oneW_range _ _
theorem writeE_range (l : List CV) (seq : Int) : 0 ≤ (writeE l seq).1 ∧ (writeE l seq).1 ≤ 120 := by
  unfold writeE
  have := chgK_range l l.length
  repeat' split
  all_goals simp
  all_goals omega
theorem writeE_ok {l : List CV} {seq : Int} {b : List Nat} (h : writeE l seq = (0, b)) : 1 ≤ seq ∧ seq ≤ 2147483647 ∧ 1 ≤ l.length ∧ l.length ≤ 64 ∧ chgK l l.length = 0 ∧ b = recN l seq.toNat ∧ b.length ≤ 4096 := by
  unfold writeE at h
  split at h
  · simp at h
  · split at h
    · simp at h
    · split at h
      · simp at h
      · split at h
        · simp only [Prod.mk.injEq] at h
          exact absurd h.1 (by assumption)
        · split at h
          · simp at h
          · simp only [Prod.mk.injEq, true_and] at h
            subst h
            exact ⟨by omega, by omega, by omega, by omega, by omega, rfl, by omega⟩
theorem textN_bytes (s : ByteArray) : ∀ c ∈ textN s, c < 256 := by
  intro c hc
  rcases List.mem_append.1 hc with h | h
  · exact smallN_bytes _ c h
  · exact numsOf_lt s c h
theorem recB_bytes (x : CV) : ∀ c ∈ recB x, c < 256 := by
  intro c hc
  rcases List.mem_append.1 hc with h | h
  · exact textN_bytes _ c h
  · split at h
    · simp at h; omega
    · rcases List.mem_cons.1 h with h | h
      · omega
      · exact textN_bytes _ c h
theorem recBs_bytes (l : List CV) : ∀ c ∈ recBs l, c < 256 := by
  intro c hc
  obtain ⟨x, _, h⟩ := List.mem_flatMap.1 hc
  exact recB_bytes x c h
theorem recN_bytes (l : List CV) (seq : Nat) : ∀ c ∈ recN l seq, c < 256 := by
  intro c hc
  rcases List.mem_append.1 hc with h | h
  · exact smallN_bytes _ c h
  · rcases List.mem_append.1 h with h | h
    · exact smallN_bytes _ c h
    · exact recBs_bytes l c h
theorem textN_len (s : ByteArray) (h : s.size ≤ 4096) : (textN s).length ≤ 4106 := by
  unfold textN
  rw [List.length_append, numsOf_len]
  have := smallN_ten s.size (by omega)
  omega
theorem recB_len {a : List CV} {c : CV} (h : oneW a c = 0) : (recB c).length ≤ 8213 := by
  obtain ⟨_, h2, h3, _⟩ := oneW_zero h
  unfold recB
  rw [List.length_append]
  have e1 := textN_len c.key (by omega)
  have e2 := textN_len c.val h3
  split <;> simp <;> omega
theorem recBs_take (l : List CV) {k : Nat} (h : k < l.length) : recBs (l.take (k + 1)) = recBs (l.take k) ++ recB (l.getD k zeroCV) := by
  rw [List.take_add_one, List.getD_eq_getElem?_getD, List.getElem?_eq_getElem h]
  simp only [recBs, List.flatMap_append, Option.toList_some, Option.getD_some, List.flatMap_cons, List.flatMap_nil, List.append_nil]
theorem recBs_len {l : List CV} : ∀ k, k ≤ l.length → chgK l k = 0 → (recBs (l.take k)).length ≤ k * 8213
  | 0, _, _ => by simp [recBs]
  | k + 1, hk, h => by
    have h0 : chgK l k = 0 := by
      rcases Classical.em (chgK l k = 0) with h1 | h1
      · exact h1
      · rw [chgK_stays l k h1 (k + 1) (by omega)] at h; exact absurd h h1
    rw [chgK_step l k h0] at h
    have ih := recBs_len k (by omega) h0
    rw [recBs_take l (by omega), List.length_append]
    have := recB_len h
    omega
def cutT (xs : List Nat) : Option (ByteArray × List Nat) :=
  match readN xs with
  | some (n, k) => if k + n ≤ xs.length then some (strOf ((xs.drop k).take n), xs.drop (k + n)) else none
  | none => none
def cutNum (xs : List Nat) (lim : Nat) : Option (Nat × List Nat) :=
  match readN xs with
  | some (n, k) => if n ≤ lim then some (n, xs.drop k) else none
  | none => none
def cutCh (g : Nat → Bool) (xs : List Nat) : Option (CV × List Nat) :=
  match cutT xs with
  | none => none
  | some (_, []) => none
  | some (key, c :: rest) => if g c = true then some (⟨key, ByteArray.empty, true⟩, rest) else match cutT rest with
    | none => none
    | some (val, rest2) => some (⟨key, val, false⟩, rest2)
def cutChs (g : Nat → Bool) : Nat → List Nat → Option (List CV × List Nat)
  | 0, xs => some ([], xs)
  | k + 1, xs => match cutChs g k xs with
    | none => none
    | some (l, ys) => match cutCh g ys with
      | none => none
      | some (c, zs) => some (l ++ [c], zs)
def cutRec (g : Nat → Bool) (xs : List Nat) : Option (List CV × Nat) :=
  match cutNum xs 2147483647 with
  | none => none
  | some (seq, ys) => match cutNum ys 64 with
    | none => none
    | some (n, zs) => match cutChs g n zs with
      | none => none
      | some (l, _) => some (l, seq)
theorem cutT_back (s : ByteArray) (rest : List Nat) (h : s.size ≤ 100000) : cutT (textN s ++ rest) = some (s, rest) := by
  unfold cutT textN
  rw [List.append_assoc, read_back s.size _ (by omega)]
  have hl : (numsOf s).length = s.size := numsOf_len s
  simp only [List.length_append, hl]
  rw [if_pos (by omega)]
  have e1 : (smallN s.size ++ (numsOf s ++ rest)).drop (smallN s.size).length = numsOf s ++ rest := by simp
  have e2 : (smallN s.size ++ (numsOf s ++ rest)).drop ((smallN s.size).length + s.size) = rest := by
    rw [← List.drop_drop, e1, List.drop_append_of_le_length (by omega), ← hl]
    simp
  rw [e1, e2, List.take_append_of_le_length (by omega), ← hl, List.take_length, strOf_nums]
theorem cutNum_back (n lim : Nat) (rest : List Nat) (h : n ≤ lim) (hl : lim < 18446744073709551616) : cutNum (smallN n ++ rest) lim = some (n, rest) := by
  unfold cutNum
  rw [read_back n _ (by omega)]
  simp only
  rw [if_pos h]
  simp
theorem cutCh_back {g : Nat → Bool} (g0 : g 0 = false) (g1 : g 1 = true) {a : List CV} {c : CV} (h : oneW a c = 0) (rest : List Nat) : cutCh g (recB c ++ rest) = some (c, rest) := by
  obtain ⟨_, h2, h3, h4, _⟩ := oneW_zero h
  obtain ⟨key, val, gone⟩ := c
  unfold cutCh recB
  rw [List.append_assoc, cutT_back key _ (by simp only at h2; omega)]
  cases gone with
  | true =>
    have hv : val = ByteArray.empty := by
      have := h4 rfl
      simp only at this
      exact ByteArray.size_eq_zero_iff.1 this
    simp [g1, hv]
  | false =>
    simp only [Bool.false_eq_true, if_false, List.cons_append, g0]
    rw [cutT_back val _ (by simp only at h3; omega)]
theorem cutChs_back {g : Nat → Bool} (g0 : g 0 = false) (g1 : g 1 = true) {l : List CV} (hc : chgK l l.length = 0) (rest : List Nat) : ∀ k, k ≤ l.length → cutChs g k (recBs l ++ rest) = some (l.take k, recBs (l.drop k) ++ rest)
  | 0, _ => by simp [cutChs]
  | k + 1, hk => by
    have ih := cutChs_back g0 g1 hc rest k (by omega)
    rw [cutChs, ih]
    simp only
    have e : l.drop k = l.getD k zeroCV :: l.drop (k + 1) := by
      rw [List.getD_eq_getElem?_getD, List.getElem?_eq_getElem (by omega)]
      exact List.drop_eq_getElem_cons (by omega)
    have e2 : recBs (l.drop k) = recB (l.getD k zeroCV) ++ recBs (l.drop (k + 1)) := by rw [e]; rfl
    have h0 := chgK_all hc (k + 1) hk
    rw [chgK_step l k (chgK_all hc k (by omega))] at h0
    rw [e2, List.append_assoc, cutCh_back g0 g1 h0]
    simp only
    rw [List.take_add_one, List.getD_eq_getElem?_getD, List.getElem?_eq_getElem (by omega)]
    rfl
theorem cutRec_back {g : Nat → Bool} (g0 : g 0 = false) (g1 : g 1 = true) {l : List CV} {seq : Int} {b : List Nat} (h : writeE l seq = (0, b)) : cutRec g b = some (l, seq.toNat) := by
  obtain ⟨h1, h2, h3, h4, h5, rfl, _⟩ := writeE_ok h
  unfold cutRec recN
  rw [cutNum_back seq.toNat 2147483647 _ (by omega) (by omega)]
  simp only
  rw [cutNum_back l.length 64 _ h4 (by omega)]
  simp only
  have := cutChs_back g0 g1 h5 [] l.length (Nat.le_refl _)
  rw [List.append_nil, List.take_length] at this
  rw [this]
def readE (g : Nat → Bool) (xs : List Nat) : Option (List CV × Nat) :=
  match cutRec g xs with
  | none => none
  | some (l, seq) => if writeE l (seq : Int) = (0, xs) then some (l, seq) else none
theorem readE_some {g : Nat → Bool} {xs : List Nat} {l : List CV} {seq : Nat} (h : readE g xs = some (l, seq)) : writeE l (seq : Int) = (0, xs) := by
  unfold readE at h
  split at h
  · cases h
  · split at h
    · simp only [Option.some.injEq, Prod.mk.injEq] at h
      obtain ⟨rfl, rfl⟩ := h
      assumption
    · cases h
theorem readE_of {g : Nat → Bool} (g0 : g 0 = false) (g1 : g 1 = true) {xs : List Nat} {l : List CV} {seq : Nat} (h : writeE l (seq : Int) = (0, xs)) : readE g xs = some (l, seq) := by
  unfold readE
  rw [cutRec_back g0 g1 h]
  simp only [Int.toNat_natCast]
  rw [if_pos h]
theorem readE_long {g : Nat → Bool} {xs : List Nat} (h : 4096 < xs.length) : readE g xs = none := by
  cases h' : readE g xs with
  | none => rfl
  | some r =>
    obtain ⟨_, _, _, _, _, _, h7⟩ := writeE_ok (readE_some (l := r.1) (seq := r.2) h')
    omega
def gP (c : Nat) : Bool := !(c == 0)
theorem cutT_len {xs rest : List Nat} {s : ByteArray} (h : cutT xs = some (s, rest)) : rest.length ≤ xs.length := by
  unfold cutT at h
  split at h
  · split at h
    · simp only [Option.some.injEq, Prod.mk.injEq] at h
      rw [← h.2, List.length_drop]
      omega
    · cases h
  · cases h
theorem cutCh_len {g : Nat → Bool} {xs rest : List Nat} {c : CV} (h : cutCh g xs = some (c, rest)) : rest.length ≤ xs.length := by
  unfold cutCh at h
  split at h
  · cases h
  · cases h
  · rename_i key b r hc
    have h1 := cutT_len hc
    simp only [List.length_cons] at h1
    split at h
    · simp only [Option.some.injEq, Prod.mk.injEq] at h
      rw [← h.2]; omega
    · split at h
      · cases h
      · rename_i v r2 hv
        have h2 := cutT_len hv
        simp only [Option.some.injEq, Prod.mk.injEq] at h
        rw [← h.2]; omega
theorem cutChs_len {g : Nat → Bool} : ∀ {k : Nat} {xs rest : List Nat} {l : List CV}, cutChs g k xs = some (l, rest) → l.length = k ∧ rest.length ≤ xs.length
  | 0, xs, rest, l, h => by
    simp only [cutChs, Option.some.injEq, Prod.mk.injEq] at h
    obtain ⟨rfl, rfl⟩ := h
    exact ⟨rfl, Nat.le_refl _⟩
  | k + 1, xs, rest, l, h => by
    rw [cutChs] at h
    split at h
    · cases h
    · rename_i l1 ys h1
      have ih := cutChs_len h1
      split at h
      · cases h
      · rename_i c zs h2
        have := cutCh_len h2
        simp only [Option.some.injEq, Prod.mk.injEq] at h
        obtain ⟨rfl, rfl⟩ := h
        exact ⟨by simp [ih.1], by omega⟩
theorem cutChs_none {g : Nat → Bool} {xs : List Nat} {k : Nat} (h : cutChs g k xs = none) : ∀ m, k ≤ m → cutChs g m xs = none := by
  intro m hm
  induction m with
  | zero => rw [show 0 = k by omega]; exact h
  | succ m ih =>
    rcases Nat.lt_or_ge k (m + 1) with h1 | h1
    · rw [cutChs, ih (by omega)]
    · rw [show m + 1 = k by omega]; exact h
theorem info_parts' {P : Program} {t : TypeId} {z : Option Value} {s b : Nat} (h : (P.info? t).map (fun i => (i.zero, i.size, i.bytes)) = some (z, s, b)) : ∃ i, P.info? t = some i ∧ i.zero = z ∧ i.size = s ∧ i.bytes = b := by
  cases hi : P.info? t with
  | none => rw [hi] at h; cases h
  | some i => rw [hi] at h; simp at h; exact ⟨i, rfl, h.1, h.2.1, h.2.2⟩
theorem lt_heap {w : World} {b : Nat} {o : Obj} (h : w.heap[b]? = some o) : b < w.heap.size := (Array.getElem?_eq_some_iff.1 h).1
theorem own_form {w : World} {base n : Nat} {e : TypeId} {s : Nat} {v : Value} {xs : List Value} (h : w.ownsRow base e s v n xs) : ∃ q m, v = .slice q n m ∧ n ≤ m ∧ m ≤ maxLen ∧ (q = none → m = 0) := by
  rcases h.2 with ⟨hv, hn⟩ | ⟨g, cap, cur, hv, _, _, h1, h2, _⟩
  · exact ⟨none, 0, by rw [hv, hn], by omega, by unfold maxLen; omega, fun _ => rfl⟩
  · exact ⟨_, cap, hv, h1, h2, fun h => by cases h⟩
theorem own_in {w : World} {base : Nat} {p : Option Addr} {m c : Nat} {xs : List Nat} (h : w.ownsRow base 5 1 (.slice p m c) xs.length (Bs xs)) (hx : ∀ c ∈ xs, c < 256) : BIn w p xs := (own_bin h hx).1
theorem own_mono {w : World} {base base' n s : Nat} {e : TypeId} {v : Value} {xs : List Value} (h : w.ownsRow base e s v n xs) (hb : base' ≤ base) : w.ownsRow base' e s v n xs := by
  refine ⟨h.1, ?_⟩
  rcases h.2 with h' | ⟨g, cap, cur, h1, h2, h3⟩
  · exact .inl h'
  · exact .inr ⟨g, cap, cur, h1, Nat.le_trans hb h2, h3⟩
theorem three_cells {w : World} {g : Nat} {a b c : Value} {t : TypeId} {fr : Nat × Nat} (h : w.heap[g]? = some (.cells #[a, b, c] t fr)) : w.cell? ⟨g, 0, none⟩ = some a ∧ w.cell? ⟨g, 1, none⟩ = some b ∧ w.cell? ⟨g, 2, none⟩ = some c := ⟨Lib.cell_of_heap h 0, Lib.cell_of_heap h 1, Lib.cell_of_heap h 2⟩
theorem new3 (w : World) (a b c : Value) (t : TypeId) (g : Nat) (hg : g = w.heap.size) : (w.alloc (.cells #[a, b, c] t)).cell? ((⟨g, 0, none⟩ : Addr).add 0) = some a ∧ (w.alloc (.cells #[a, b, c] t)).cell? ((⟨g, 0, none⟩ : Addr).add 1) = some b ∧ (w.alloc (.cells #[a, b, c] t)).cell? ((⟨g, 0, none⟩ : Addr).add 2) = some c := by
  subst hg
  have hh := heap_alloc_new w (.cells #[a, b, c] t)
  simp only [add_plain]
  exact ⟨cell_of_row _ _ _ _ _ _ hh, cell_of_row _ _ _ _ _ _ hh, cell_of_row _ _ _ _ _ _ hh⟩
theorem eq_strF (x y : ByteArray) : (x.toList == y.toList) = decide (x = y) := by
  by_cases h : x = y
  · simp [h]
  · have : x.toList ≠ y.toList := fun e => h (by
      rw [ByteArray.toList_eq, ByteArray.toList_eq] at e
      rcases x with ⟨x⟩; rcases y with ⟨y⟩
      rcases x with ⟨x⟩; rcases y with ⟨y⟩
      simp at e; rw [e])
    simp [h, this]
def CsIn (w : World) (q : Option Addr) (l : List CV) : Prop :=
  0 < l.length → ∃ b o, q = some ⟨b, o, none⟩ ∧ ∀ i, i < l.length → w.cell? ⟨b, o + i * 3, none⟩ = some (.string (l.getD i zeroCV).key) ∧ w.cell? ⟨b, o + (i * 3 + 1), none⟩ = some (.string (l.getD i zeroCV).val) ∧ w.cell? ⟨b, o + (i * 3 + 2), none⟩ = some (.bool (l.getD i zeroCV).gone)
theorem cellB {w w' : World} {a : Addr} {v : Value} (h : w.cell? a = some v) (hb : Below w.heap.size w w') : w'.cell? a = some v := (hb.cell (World.block_lt_of_cell? _ _ h)).trans h
theorem CsIn.below {w w' : World} {q : Option Addr} {l : List CV} (h : CsIn w q l) (hb : Below w.heap.size w w') : CsIn w' q l := by
  intro hp
  obtain ⟨b, o, rfl, hc⟩ := h hp
  refine ⟨b, o, rfl, fun i hi => ?_⟩
  obtain ⟨e0, e1, e2⟩ := hc i hi
  exact ⟨cellB e0 hb, cellB e1 hb, cellB e2 hb⟩
theorem CsIn.addr {w : World} {q : Option Addr} {l : List CV} (h : CsIn w q l) (hw : 0 < l.length) : ∃ b o, q = some ⟨b, o, none⟩ := by
  obtain ⟨b, o, e, _⟩ := h hw
  exact ⟨b, o, e⟩
theorem CsIn.at {w : World} {b o : Nat} {l : List CV} (h : CsIn w (some ⟨b, o, none⟩) l) {k : Nat} (hk : k < l.length) :
    w.cell? ⟨b, o + k * 3, none⟩ = some (.string (l.getD k zeroCV).key) ∧ w.cell? ⟨b, o + k * 3 + 1, none⟩ = some (.string (l.getD k zeroCV).val) ∧ w.cell? ⟨b, o + k * 3 + 2, none⟩ = some (.bool (l.getD k zeroCV).gone) := by
  obtain ⟨b', o', e, hc⟩ := h (by omega)
  simp only [Option.some.injEq, Addr.mk.injEq, and_true] at e
  obtain ⟨rfl, rfl⟩ := e
  obtain ⟨h1, h2, h3⟩ := hc k hk
  exact ⟨h1, by rw [Nat.add_assoc]; exact h2, by rw [Nat.add_assoc]; exact h3⟩
theorem CsIn.take {w : World} {q : Option Addr} {l : List CV} (h : CsIn w q l) (k : Nat) : CsIn w q (l.take k) := by
  intro hp
  rw [List.length_take] at hp
  obtain ⟨b, o, e, hc⟩ := h (by omega)
  refine ⟨b, o, e, fun i hi => ?_⟩
  rw [List.length_take] at hi
  have hg : (l.take k).getD i zeroCV = l.getD i zeroCV := by rw [List.getD_eq_getElem?_getD, List.getElem?_take_of_lt (by omega), List.getD_eq_getElem?_getD]
  rw [hg]
  exact hc i (by omega)
theorem named_hit {l : List CV} {name : ByteArray} {k : Nat} (hk : k < l.length) (h : (l.getD k zeroCV).key = name) : namedC l name = true := by
  unfold namedC
  rw [List.any_eq_true]
  refine ⟨l.getD k zeroCV, ?_, decide_eq_true h⟩
  rw [List.getD_eq_getElem?_getD, List.getElem?_eq_getElem hk]
  exact List.getElem_mem _
theorem named_miss {l : List CV} {name : ByteArray} (h : ∀ j, j < l.length → (l.getD j zeroCV).key ≠ name) : namedC l name = false := by
  unfold namedC
  rw [List.any_eq_false]
  intro x hx
  obtain ⟨j, hj, rfl⟩ := List.getElem_of_mem hx
  have := h j hj
  rw [List.getD_eq_getElem?_getD, List.getElem?_eq_getElem hj] at this
  simpa using this
set_option maxRecDepth 8000 in
set_option maxHeartbeats 2000000 in
theorem index_named (q : Option Addr) (n c nb : Nat) (l : List CV) (name : ByteArray) (w : World) (hq : CsIn w q l) (hn0 : n = l.length) (hnb : (n : Int) ≤ 9223372036854775807) (hn : w.cell? ⟨nb, 0, none⟩ = some (.string name)) (r : Bool) (hr : namedC l name = r) :
    Calls Tryz.prog 86 #[.slice q n c, .func (.func 54) #[] #[.pointer (some ⟨nb, 0, none⟩)]] w fun e w' => ∃ i : Int, e = .returned (.int .i64 i) ∧ (0 ≤ i ↔ r = true) ∧ Below w.heap.size w w' := by
  have HL : Hid (n = l.length) := hn0
  have HQ : Hid (CsIn w q l) := hq
  have HN : Hid (w.cell? ⟨nb, 0, none⟩ = some (.string name)) := hn
  have HR : Hid (namedC l name = r) := hr
  clear hq hn hn0 hr
  go_enter Tryz.func86, Tryz.ntmps86
  go_wp2
  go_loopw [8] (fun i wr => ∃ k : Nat, k ≤ n ∧ i = .int .i64 (k : Int) ∧ (∀ j, j < k → (l.getD j zeroCV).key ≠ name) ∧ Below w.heap.size w wr) (fun i _ => n - (intOf i).toNat)
  case atStart => exact ⟨0, by omega, rfl, fun j hj => absurd hj (by omega), Below.refl _ _⟩
  case round =>
    obtain ⟨k, hk, rfl, hz, hbw⟩ := hrel
    have HZ : Hid (∀ j, j < k → (l.getD j zeroCV).key ≠ name) := hz
    have HB : Hid (Below w.heap.size w wr) := hbw
    clear hz
    by_cases hkl : k < n
    · have hkI : (k : Int) < (n : Int) := by omega
      have k0 : (0 : Int) ≤ (k : Int) := by omega
      have hkl2 : k < l.length := by have := HL.out; omega
      have hen := HQ.out.below hbw
      obtain ⟨fb, fo, rfl⟩ := hen.addr (by omega)
      obtain ⟨z0, z1, z2⟩ := hen.at hkl2
      have zn := cellB HN.out hbw
      have hnlt : nb < wr.heap.size := World.block_lt_of_cell? _ _ zn
      have hne : nb ≠ wr.heap.size := by omega
      have znA : ∀ a : ByteArray, ∀ b : ByteArray, ∀ g : Bool, (wr.alloc (.cells #[.string a, .string b, .bool g] 40)).cell? ⟨nb, 0, none⟩ = some (.string name) := fun a b g => cellB zn (below_alloc wr _)
      have HKL : Hid (k < n) := hkl
      have HHIT : Hid ((l.getD k zeroCV).key = name → r = true) := fun h => by rw [← HR.out]; exact named_hit hkl2 h
      have HNEXT : Hid ((l.getD k zeroCV).key ≠ name → ∀ j, j < k + 1 → (l.getD j zeroCV).key ≠ name) := fun h j hj => by
        rcases Nat.lt_or_ge j k with h' | h'
        · exact HZ.out j h'
        · obtain rfl : j = k := by omega
          exact h
      obtain ⟨⟨ck, cv, cg⟩, hc⟩ : ∃ f, l.getD k zeroCV = f := ⟨_, rfl⟩
      rw [hc] at z0 z1 z2 HHIT HNEXT
      simp only at z0 z1 z2 HHIT HNEXT
      have znB := znA ck cv cg
      clear znA hen hkl hkl2 hk hbw hc HZ hnlt
      by_cases g : ck = name
      · have HH : Hid (r = true) := HHIT.out g
        subst g
        clear HHIT HNEXT
        go_wp2
        go_ret
        exact ⟨(k : Int), rfl, ⟨fun _ => HH.out, fun _ => by omega⟩, HB.out.alloc HB.out.size _⟩
      · have HNX : Hid _ := HNEXT.out g
        have hne2 : (ck.toList == name.toList) = false := by rw [eq_strF]; simpa using g
        clear HHIT HNEXT
        go_wp2
        go_roundw
        case rel => exact ⟨k + 1, HKL.out, by go_num, HNX.out, HB.out.alloc HB.out.size _⟩
        case measure => have := HKL.out; simp [intOf]; omega
    · have hkI : (n : Int) ≤ (k : Int) := by omega
      have HM : Hid (r = false) := by
        show r = false
        rw [← HR.out]
        exact named_miss (fun j hj => HZ.out j (by have := HL.out; omega))
      clear HZ hkl
      go_wp2
      go_ret
      refine ⟨-1, rfl, ⟨fun h => by omega, fun h => ?_⟩, HB.out⟩
      rw [HM.out] at h
      cases h
set_option maxRecDepth 8000 in
set_option maxHeartbeats 2000000 in
theorem contains_any (q : Option Addr) (n c nb : Nat) (l : List CV) (name : ByteArray) (w : World) (hq : CsIn w q l) (hn0 : n = l.length) (hnb : (n : Int) ≤ 9223372036854775807) (hn : w.cell? ⟨nb, 0, none⟩ = some (.string name)) (r : Bool) (hr : namedC l name = r) :
    Calls Tryz.prog 53 #[.slice q n c, .func (.func 54) #[] #[.pointer (some ⟨nb, 0, none⟩)]] w fun e w' => e = .returned (.bool r) ∧ Below w.heap.size w w' := by
  have hix := index_named q n c nb l name w hq hn0 hnb hn r hr
  clear hq hn0 hnb hr hn
  go_enter Tryz.func53, Tryz.ntmps53
  go_wp2_with fail
  refine hix.mono ?_
  rintro e w2 ⟨i, rfl, hi, hb2⟩
  have HB : Hid (Below w.heap.size w w2) := hb2
  cases r with
  | true =>
    have h0 : 0 ≤ i := hi.2 rfl
    clear hb2 hix hi
    go_wp2
    go_ret
    exact ⟨by simp, HB.out⟩
  | false =>
    have h0 : i < 0 := by
      rcases Int.lt_or_le i 0 with h | h
      · exact h
      · exact absurd (hi.1 h) (by simp)
    clear hb2 hix hi
    go_wp2
    go_ret
    exact ⟨by simp; omega, HB.out⟩
def cellsC (l : List CV) : List Value := l.flatMap fun x => [.string x.key, .string x.val, .bool x.gone]
theorem cellsC_app (l m : List CV) : cellsC (l ++ m) = cellsC l ++ cellsC m := by simp [cellsC]
theorem cellsC_at : ∀ (l : List CV) (i : Nat), i < l.length → (cellsC l)[i * 3]? = some (.string (l.getD i zeroCV).key) ∧ (cellsC l)[i * 3 + 1]? = some (.string (l.getD i zeroCV).val) ∧ (cellsC l)[i * 3 + 2]? = some (.bool (l.getD i zeroCV).gone)
  | [], i, h => by simp at h
  | x :: l, 0, _ => ⟨rfl, rfl, rfl⟩
  | x :: l, i + 1, h => by
    obtain ⟨h0, h1, h2⟩ := cellsC_at l i (by simpa using h)
    have e : cellsC (x :: l) = [.string x.key, .string x.val, .bool x.gone] ++ cellsC l := rfl
    rw [e, List.getD_cons_succ]
    refine ⟨?_, ?_, ?_⟩
    · rw [List.getElem?_append_right (by simp; omega)]; simpa [show (i + 1) * 3 - 3 = i * 3 by omega] using h0
    · rw [List.getElem?_append_right (by simp; omega)]; simpa [show (i + 1) * 3 + 1 - 3 = i * 3 + 1 by omega] using h1
    · rw [List.getElem?_append_right (by simp; omega)]; simpa [show (i + 1) * 3 + 2 - 3 = i * 3 + 2 by omega] using h2
def COwn (w : World) (base : Nat) (v : Value) (l : List CV) : Prop := w.ownsRow base 40 3 v l.length (cellsC l)
theorem cown_nil (w : World) (base : Nat) : COwn w base (.slice none 0 0) [] := World.ownsRow_nil _ _ _ _
theorem COwn.cs {w : World} {base : Nat} {q : Option Addr} {n m : Nat} {l : List CV} (h : COwn w base (.slice q n m) l) : CsIn w q l := by
  intro hp
  rcases h.2 with ⟨_, hn⟩ | ⟨g, cap, cur, hv, hb, hg, hle, hmax, hsz, htk⟩
  · omega
  · simp only [Value.slice.injEq] at hv
    obtain ⟨rfl, rfl, rfl⟩ := hv
    refine ⟨g, 0, rfl, fun i hi => ?_⟩
    obtain ⟨c0, c1, c2⟩ := cellsC_at l i hi
    have hc : ∀ j, j < l.length * 3 → w.cell? ⟨g, 0 + j, none⟩ = (cellsC l)[j]? := fun j hj => by
      rw [cell_of_row w g (0 + j) cur _ _ hg, Nat.zero_add, ← htk, List.getElem?_take_of_lt hj]
      simp
    exact ⟨by rw [hc _ (by omega), c0], by rw [hc _ (by omega), c1], by rw [hc _ (by omega), c2]⟩
theorem COwn.below {w w' : World} {base : Nat} {v : Value} {l : List CV} (h : COwn w base v l) (hb : Below w.heap.size w w') : COwn w' base v l := own_below h hb
theorem info_change : (Tryz.prog.info? 40).map (fun i => (i.zero, i.size, i.bytes)) = some (some (.agg #[.string ⟨#[]⟩, .string ⟨#[]⟩, .bool false]), 3, 40) := by kernel_rfl
theorem run_append_change (w : World) (ty : TypeId) (base : Nat) (v : Value) (ls : List CV) (x : CV) (ad : Addr) (c : Nat) (hown : COwn w base v ls)
    (h0 : w.cell? (ad.add 0) = some (.string x.key)) (h1 : w.cell? (ad.add 1) = some (.string x.val)) (h2 : w.cell? (ad.add 2) = some (.bool x.gone)) (hlen : ls.length ≤ 1000000) (hbase : base ≤ w.heap.size) :
    ∃ v' w', (Builtin.append_ #[22, 22] ty #[v, .slice (some ad) 1 c]).run Tryz.prog w = .ok v' w' ∧ COwn w' base v' (ls ++ [x]) ∧ w.grownBy w' v.ownBlock := by
  obtain ⟨i0, hi, hz0, hz1, hz2⟩ := info_parts' info_change
  have hcs : ∀ j u, (cellsC [x])[j]? = some u → w.cell? (ad.add j) = some u := by
    intro j u hu
    rcases j with _ | _ | _ | j
    · simp [cellsC] at hu; rw [h0, hu]
    · simp [cellsC] at hu; rw [h1, hu]
    · simp [cellsC] at hu; rw [h2, hu]
    · simp [cellsC] at hu
  have hone : ∀ u ∈ cellsC [x], u.oneCell' = true := by
    intro u hu
    simp [cellsC] at hu
    rcases hu with rfl | rfl | rfl
    · rfl
    · rfl
    · rfl
  obtain ⟨v', w', g1, g2, g3, _⟩ := run_append_own (P := Tryz.prog) w base 22 ty 40 i0 _ 3 40 Tryz.underlying22 hi hz0 hz1 hz2 rfl (by decide) v ls.length (cellsC ls) hown ad 1 c (cellsC [x]) rfl hcs hone (by unfold maxLen; omega) (by omega) hbase
  refine ⟨v', w', g1, ?_, g3⟩
  unfold COwn
  rw [cellsC_app, List.length_append]
  exact g2
theorem wpList_append_change (w : World) {ops : Array Oper} {rest : List Oper} {o : Oper} {a : Act} {Q : Exit → Act → World → Prop} (hgd : o.guard = none) (s x : Operand)
    (ho : o.op = .call { callee := .builtin .append, args := #[s, x], argTypes := #[22, 22] }) (base : Nat) (v : Value) (ls : List CV) (y : CV) (ad : Addr) (c : Nat) (hs : a.eval s = v) (hx : a.eval x = .slice (some ad) 1 c)
    (hown : COwn w base v ls) (h0 : w.cell? (ad.add 0) = some (.string y.key)) (h1 : w.cell? (ad.add 1) = some (.string y.val)) (h2 : w.cell? (ad.add 2) = some (.bool y.gone)) (hlen : ls.length ≤ 1000000) (hbase : base ≤ w.heap.size)
    (h : ∀ v' w', COwn w' base v' (ls ++ [y]) → w.grownBy w' v.ownBlock → wpList Tryz.prog ops Q rest (a.put o.dst v') w') : wpList Tryz.prog ops Q (o :: rest) a w := by
  refine wpList_plain hgd fun K hK => ?_
  obtain ⟨v', w', hr, g2, g3⟩ := run_append_change w o.type base v ls y ad c hown h0 h1 h2 hlen hbase
  unfold Oper.wp execOp
  simp only [ho, resolve, invoke, builtin, Sem.run_bind, Sem.run_pure, Result.andThen_ok, List.map_toArray, List.map_cons, List.map_nil, hs, hx, hr]
  exact hK _ _ (h v' w' g2 g3)
structure OnC (w0 : World) (v : Value) (l : List CV) (wr : World) : Prop where
  own : COwn wr w0.heap.size v l
  bel : Below w0.heap.size w0 wr
theorem OnC.app {w0 wr w' : World} {v v' : Value} {l m : List CV} (h : OnC w0 v l wr) (hg : wr.grownBy w' v.ownBlock) (ho : COwn w' w0.heap.size v' m) : OnC w0 v' m w' :=
  ⟨ho, h.bel.grown hg h.bel.size (fun k hk => (World.ownsRow.lt h.own k hk).1)⟩
theorem OnC.next {w0 wr w' : World} {v : Value} {l : List CV} (h : OnC w0 v l wr) (hb : Below wr.heap.size wr w') : OnC w0 v l w' := ⟨own_below h.own hb, below_bt h.bel hb⟩
theorem isKey_any (s : ByteArray) (hs : (s.size : Int) ≤ 9223372036854775807) (w : World) : Calls Tryz.prog 21 #[.string s] w fun e w' => e = .returned (.bool (decide (1 ≤ s.size ∧ s.size ≤ 256))) ∧ w' = w := by
  by_cases h1 : 1 ≤ s.size
  · have h1I : (1 : Int) ≤ (s.size : Int) := by omega
    by_cases h2 : s.size ≤ 256
    · have h2I : (s.size : Int) ≤ 256 := by omega
      have e : decide (1 ≤ s.size ∧ s.size ≤ 256) = true := decide_eq_true ⟨h1, h2⟩
      rw [e]
      clear h1 h2 e
      go_enter Tryz.func21, Tryz.ntmps21
      go_wp2
      go_ret
      exact ⟨by simp <;> omega, rfl⟩
    · have h2I : (256 : Int) < (s.size : Int) := by omega
      have e : decide (1 ≤ s.size ∧ s.size ≤ 256) = false := decide_eq_false (fun h => h2 h.2)
      rw [e]
      clear h1 h2 e
      go_enter Tryz.func21, Tryz.ntmps21
      go_wp2
      go_ret
      exact ⟨by simp <;> omega, rfl⟩
  · have h1I : (s.size : Int) < 1 := by omega
    have e : decide (1 ≤ s.size ∧ s.size ≤ 256) = false := decide_eq_false (fun h => h1 h.1)
    rw [e]
    clear h1 e
    go_enter Tryz.func21, Tryz.ntmps21
    go_wp2
    go_ret
    exact ⟨by simp <;> omega, rfl⟩
set_option maxRecDepth 8000 in
set_option maxHeartbeats 2000000 in
theorem checkChange_any (q : Option Addr) (n c : Nat) (l : List CV) (x : CV) (w : World) (hq : CsIn w q l) (hn0 : n = l.length) (hnb : (n : Int) ≤ 9223372036854775807) (hk : (x.key.size : Int) ≤ 9223372036854775807) (hv : (x.val.size : Int) ≤ 9223372036854775807) (E : Int) (hE : oneW l x = E) :
    Calls Tryz.prog 26 #[.slice q n c, .agg #[.string x.key, .string x.val, .bool x.gone]] w fun e w' => ∃ ev, e = .returned ev ∧ ErrV ev E ∧ Below w.heap.size w w' := by
  have hmf : ∀ (fn : Fn) (first cap : Array Value) (w : World), (Instr.makeFunc fn first cap).run Tryz.prog w = .ok (.func fn first cap) w := fun _ _ _ _ => rfl
  obtain ⟨key, val, gone⟩ := x
  simp only at hk hv
  have HIK := isKey_any key hk
  have hbox := heap_alloc_new w (.cells #[.string key, .string val, .bool gone] 40)
  have HB : Hid (Below w.heap.size w (w.alloc (.cells #[.string key, .string val, .bool gone] 40))) := below_alloc _ _
  have HCT : ∀ r, namedC l key = r → Calls Tryz.prog 53 #[.slice q n c, .func (.func 54) #[] #[.pointer (some ⟨w.heap.size, 0, none⟩)]] (w.alloc (.cells #[.string key, .string val, .bool gone] 40)) fun e w' => e = .returned (.bool r) ∧ Below (w.alloc (.cells #[.string key, .string val, .bool gone] 40)).heap.size (w.alloc (.cells #[.string key, .string val, .bool gone] 40)) w' := fun r hr => contains_any q n c w.heap.size l key _ (hq.below (below_alloc _ _)) hn0 hnb (three_cells hbox).1 r hr
  have HE : Hid (oneW l ⟨key, val, gone⟩ = E) := hE
  clear hq hn0 hE
  by_cases h1 : 1 ≤ key.size ∧ key.size ≤ 256
  · rw [show decide (1 ≤ key.size ∧ key.size ≤ 256) = true from decide_eq_true h1] at HIK
    by_cases h2 : 4096 < val.size
    · have h2I : (4096 : Int) < (val.size : Int) := by omega
      have HE3 : Hid (E = 3) := by
        show E = 3
        rw [← HE.out]; unfold oneW; rw [if_neg (by simp only; omega), if_pos h2]
      clear h1 h2 HE hbox HCT
      go_enter Tryz.func26, Tryz.ntmps26
      go_wp2_with (go_at_call 21; refine (HIK _).mono ?_; rintro e w1 ⟨rfl, rfl⟩)
      go_ret
      exact ⟨_, rfl, .inr ⟨by rw [HE3.out]; decide, by rw [HE3.out]; exact Faults.one _ _⟩, HB.out⟩
    · have h2I : (val.size : Int) ≤ 4096 := by omega
      cases gone with
      | true =>
        by_cases h3 : val.size = 0
        · have hz : val = ByteArray.empty := ByteArray.size_eq_zero_iff.1 h3
          subst hz
          cases hr : namedC l key with
          | true =>
            have HE3 : Hid (E = 8) := by
              show E = 8
              rw [← HE.out]; unfold oneW; rw [if_neg (by simp only; omega), if_neg h2, if_neg (by simp), if_pos hr]
            have hct := HCT true hr
            clear h1 h2 h3 HE hbox HCT hr
            go_enter Tryz.func26, Tryz.ntmps26
            go_wp2_with (first
              | (go_at_call 21; refine (HIK _).mono ?_; rintro e w1 ⟨rfl, rfl⟩)
              | (go_at_call 53; refine hct.mono ?_; rintro e w1 ⟨rfl, hb1⟩))
            go_ret
            exact ⟨_, rfl, .inr ⟨by rw [HE3.out]; decide, by rw [HE3.out]; exact Faults.one _ _⟩, below_bt HB.out hb1⟩
          | false =>
            have HE3 : Hid (E = 0) := by
              show E = 0
              rw [← HE.out]; unfold oneW; rw [if_neg (by simp only; omega), if_neg h2, if_neg (by simp), if_neg (by simp [hr])]
            have hct := HCT false hr
            clear h1 h2 h3 HE hbox HCT hr
            go_enter Tryz.func26, Tryz.ntmps26
            go_wp2_with (first
              | (go_at_call 21; refine (HIK _).mono ?_; rintro e w1 ⟨rfl, rfl⟩)
              | (go_at_call 53; refine hct.mono ?_; rintro e w1 ⟨rfl, hb1⟩))
            go_ret
            exact ⟨_, rfl, .inl ⟨HE3.out, rfl⟩, below_bt HB.out hb1⟩
        · have HE3 : Hid (E = 8) := by
            show E = 8
            rw [← HE.out]; unfold oneW; rw [if_neg (by simp only; omega), if_neg h2, if_pos ⟨rfl, h3⟩]
          have hne : (val.toList == []) = false := by
            rw [ByteArray.toList_eq]
            cases hl : val.data.toList with
            | nil => exact absurd (show val.size = 0 by have := congrArg List.length hl; simpa using this) h3
            | cons _ _ => rfl
          clear h1 h2 h3 HE hbox HCT
          go_enter Tryz.func26, Tryz.ntmps26
          go_wp2_with (go_at_call 21; refine (HIK _).mono ?_; rintro e w1 ⟨rfl, rfl⟩)
          go_ret
          exact ⟨_, rfl, .inr ⟨by rw [HE3.out]; decide, by rw [HE3.out]; exact Faults.one _ _⟩, HB.out⟩
      | false =>
        cases hr : namedC l key with
        | true =>
          have HE3 : Hid (E = 8) := by
            show E = 8
            rw [← HE.out]; unfold oneW; rw [if_neg (by simp only; omega), if_neg h2, if_neg (by simp), if_pos hr]
          have hct := HCT true hr
          clear h1 h2 HE hbox HCT hr
          go_enter Tryz.func26, Tryz.ntmps26
          go_wp2_with (first
            | (go_at_call 21; refine (HIK _).mono ?_; rintro e w1 ⟨rfl, rfl⟩)
            | (go_at_call 53; refine hct.mono ?_; rintro e w1 ⟨rfl, hb1⟩))
          go_ret
          exact ⟨_, rfl, .inr ⟨by rw [HE3.out]; decide, by rw [HE3.out]; exact Faults.one _ _⟩, below_bt HB.out hb1⟩
        | false =>
          have HE3 : Hid (E = 0) := by
            show E = 0
            rw [← HE.out]; unfold oneW; rw [if_neg (by simp only; omega), if_neg h2, if_neg (by simp), if_neg (by simp [hr])]
          have hct := HCT false hr
          clear h1 h2 HE hbox HCT hr
          go_enter Tryz.func26, Tryz.ntmps26
          go_wp2_with (first
            | (go_at_call 21; refine (HIK _).mono ?_; rintro e w1 ⟨rfl, rfl⟩)
            | (go_at_call 53; refine hct.mono ?_; rintro e w1 ⟨rfl, hb1⟩))
          go_ret
          exact ⟨_, rfl, .inl ⟨HE3.out, rfl⟩, below_bt HB.out hb1⟩
  · rw [show decide (1 ≤ key.size ∧ key.size ≤ 256) = false from decide_eq_false h1] at HIK
    have HE3 : Hid (E = 60) := by
      show E = 60
      rw [← HE.out]; unfold oneW; rw [if_pos (by simp only; omega)]
    clear h1 HE hbox HCT
    go_enter Tryz.func26, Tryz.ntmps26
    go_wp2_with (go_at_call 21; refine (HIK _).mono ?_; rintro e w1 ⟨rfl, rfl⟩)
    go_ret
    exact ⟨_, rfl, .inr ⟨by rw [HE3.out]; decide, by rw [HE3.out]; exact Faults.one _ _⟩, HB.out⟩
end Go.Proofs.YtghcmllmbpoidaaGreatDoor.Tr
