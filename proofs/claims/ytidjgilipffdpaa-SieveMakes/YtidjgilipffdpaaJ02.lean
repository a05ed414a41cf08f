/-
  Marks and filters as lists of numbers; no program is named here.
-/
import Derived.Test.YtidjgilipffdpaaJ01
import Derived.Lib.SmallJoins
import Derived.OpenShut
import Derived.Laws.AppendOwnNone
import Derived.Lib.AppendStr
namespace Go.Proofs.Ytidjgilipffdpaa
open Go.RowKit Go.WideShapes

end Go.Proofs.Ytidjgilipffdpaa
namespace Go.Proofs.Ytidjgilipffdpaa
open Go.RowKit Go.WideShapes

theorem pow7 (k : Nat) (hk : k ≤ 9) : 2 ^ (7 * k) ≤ 9223372036854775808 := by
  have : (2 : Nat) ^ (7 * k) ≤ 2 ^ 63 := Nat.pow_le_pow_right (by decide) (by omega)
  exact this
theorem read_fits (k acc c : Nat) (hk : k ≤ 9) (hacc : acc < 2 ^ (7 * k)) (hc : k = 9 → c ≤ 1) : c % 128 * 2 ^ (7 * k) + acc < 18446744073709551616 := by
  by_cases h : k = 9
  · have := hc h; subst h; simp only [Nat.reduceMul, Nat.reducePow] at *; omega
  · have h1 : (2 : Nat) ^ (7 * k) ≤ 2 ^ 56 := Nat.pow_le_pow_right (by decide) (by omega)
    have h2 : c % 128 * 2 ^ (7 * k) ≤ 127 * 2 ^ 56 := Nat.mul_le_mul (by omega) h1
    have h3 : (127 : Nat) * 2 ^ 56 = 9151314442816847872 := by decide
    have h4 : (2 : Nat) ^ 56 = 72057594037927936 := by decide
    omega
theorem or_read (k acc c : Nat) (hk : k ≤ 9) (hacc : acc < 2 ^ (7 * k)) (hc : k = 9 → c ≤ 1) :
    bits BinOp.or IntKind.u64 (acc : Int) (IntKind.u64.wrap ((c : Int) % 128 * 2 ^ (7 * k))) = ((c % 128 * 2 ^ (7 * k) + acc : Nat) : Int) := by
  have hf := read_fits k acc c hk hacc hc
  refine or_join (7 * k) acc (c % 128) _ hacc hf _ ?_ rfl
  rw [IntKind.wrap_u64]
  have e : ((c % 128 * 2 ^ (7 * k) : Nat) : Int) = (c : Int) % 128 * 2 ^ (7 * k) := by simp
  rw [← e]
  omega
theorem acc_lt (k acc c : Nat) (hacc : acc < 2 ^ (7 * k)) : c % 128 * 2 ^ (7 * k) + acc < 2 ^ (7 * (k + 1)) := by
  rw [show 7 * (k + 1) = 7 * k + 7 from by omega, Nat.pow_add]
  have : c % 128 * 2 ^ (7 * k) ≤ 127 * 2 ^ (7 * k) := Nat.mul_le_mul_right _ (by omega)
  omega
theorem aux_hi {k acc c : Nat} {ys : List Nat} (h9 : ¬ (k = 9 ∧ 1 < c)) (h : 128 ≤ c) : readAux k acc (c :: ys) = readAux (k + 1) (c % 128 * 2 ^ (7 * k) + acc) ys := by rw [readAux, if_neg h9, if_pos h]
theorem aux_big {k acc c : Nat} {ys : List Nat} (h9 : k = 9 ∧ 1 < c) : readAux k acc (c :: ys) = none := by rw [readAux, if_pos h9]
theorem aux_zero {k acc c : Nat} {ys : List Nat} (h9 : ¬ (k = 9 ∧ 1 < c)) (h : ¬ 128 ≤ c) (h0 : c = 0 ∧ 0 < k) : readAux k acc (c :: ys) = none := by rw [readAux, if_neg h9, if_neg h, if_pos h0]
theorem aux_end {k acc c : Nat} {ys : List Nat} (h9 : ¬ (k = 9 ∧ 1 < c)) (h : ¬ 128 ≤ c) (h0 : ¬ (c = 0 ∧ 0 < k)) : readAux k acc (c :: ys) = some (c % 128 * 2 ^ (7 * k) + acc, k + 1) := by
  rw [readAux, if_neg h9, if_neg h, if_neg h0, Nat.mod_eq_of_lt (by omega)]
theorem drop_at (xs : List Nat) (k : Nat) (h : k < xs.length) : xs.drop k = xs.getD k 0 :: xs.drop (k + 1) := by
  rw [List.drop_eq_getElem_cons h]; simp [List.getD, List.getElem?_eq_getElem h]

/-- What Read answers. -/
def readV : Option (Nat × Nat) → Value
  | some (n, k) => .tuple #[.int .u64 n, .int .i64 k, .int .i64 0]
  | none => .tuple #[.int .u64 0, .int .i64 0, .int .i64 8]

end Go.Proofs.Ytidjgilipffdpaa
namespace Go.Proofs.Ytidjgilipffdpaa
open Go.RowKit Go.WideShapes

theorem bin_lit (w : World) (g : Nat) (C : Array Value) (e : TypeId) (fr : Nat × Nat) (xs : List Nat) (hg : g = w.heap.size) (hC : C = (Bs xs).toArray) (hx : ∀ c ∈ xs, c < 256) : BIn (w.alloc (.cells C e fr)) (some ⟨g, 0, none⟩) xs := by
  subst hg hC
  refine ⟨fun _ => ⟨w.heap.size, 0, rfl, fun i hi => ?_⟩, hx⟩
  rw [cell_of_row (w.alloc (.cells (Bs xs).toArray e fr)) w.heap.size (0 + i) (Bs xs).toArray e fr (heap_alloc_new w _)]
  simp [Bs, List.getD, List.getElem?_eq_getElem hi]
theorem sum_at (p : Option Addr) (n cap : Nat) (xs : List Nat) (w : World) (z : Int) (hn : n = xs.length) (hz : (sumN xs : Int) = z) (hb : BIn w p xs) (hm : xs.length ≤ maxLen) :
    Calls Try.prog 23 #[.slice p n cap] w fun e w' => e = .returned (.int .u32 z) ∧ w' = w := by
  subst hn hz
  exact sum_any p cap xs w hb hm
theorem ret_true {p : Prop} [Decidable p] (h : p) : Ending.returned (.bool (decide p)) = .returned (.bool true) := by rw [decide_eq_true h]
theorem own_bin {w : World} {base : Nat} {p : Option Addr} {m c : Nat} {xs : List Nat} (h : w.ownsRow base 5 1 (.slice p m c) xs.length (Bs xs)) (hx : ∀ c ∈ xs, c < 256) : BIn w p xs ∧ m = xs.length := by
  rcases h.2 with ⟨hv, hn⟩ | ⟨g, cap, cur, hv, hb, hg, hle, hmax, hsz, htk⟩
  · simp at hv
    exact ⟨⟨fun h => by omega, hx⟩, by omega⟩
  · simp at hv
    obtain ⟨rfl, rfl, rfl⟩ := hv
    refine ⟨⟨fun _ => ⟨g, 0, rfl, fun i hi => ?_⟩, hx⟩, rfl⟩
    have := h.cells rfl i (.int .u8 (xs.getD i 0 : Nat)) (by simp [Bs, List.getD, List.getElem?_eq_getElem hi])
    rw [Go.WideShapes.add_plain] at this
    exact this

theorem own_at {w : World} {base : Nat} {p : Option Addr} {m c n : Nat} {xs : List Nat} (h : w.ownsRow base 5 1 (.slice p m c) n (Bs xs)) (hn : n = xs.length) (hx : ∀ c ∈ xs, c < 256) : BIn w p xs := by
  subst hn; exact (own_bin h hx).1

/-- What the walk is told of a slice of integers that came in: it is nil; or it leads to a row of 'cap' cells, the numbers 'zs' (the first 'len' are its elements, the rest its spare room), each fitting its kind. -/
def IsRow (k : IntKind) (w : World) (a : Option Addr) (len cap : Nat) (zs : List Int) : Prop :=
  (a = none ∧ len = 0 ∧ cap = 0 ∧ zs = []) ∨
  ∃ x, a = some x ∧ len ≤ cap ∧ cap ≤ maxLen ∧ zs.length = cap ∧ (∀ i, i < zs.length → w.cell? (x.add i) = some (.int k (zs.getD i 0))) ∧ ∀ n ∈ zs, (Lit.int k n).wf = true
theorem row_bin {w : World} {a : Option Addr} {len cap : Nat} {zs : List Int} (h : IsRow .u8 w a len cap zs) : ∃ xs : List Nat, len = xs.length ∧ BIn w a xs ∧ xs.length ≤ cap ∧ cap ≤ maxLen ∧ (a = none → cap = 0) := by
  rcases h with ⟨rfl, rfl, rfl, rfl⟩ | ⟨x, rfl, hl, hm, hz, hc, hw⟩
  · exact ⟨[], rfl, ⟨fun h => absurd h (by simp), by simp⟩, by simp, by unfold maxLen; omega, fun _ => rfl⟩
  · have hb : ∀ n ∈ zs, 0 ≤ n ∧ n ≤ 255 := fun n hn => bounds_u8 (hw n hn)
    refine ⟨(zs.take len).map Int.toNat, by simp; omega, ⟨fun hp => ?_, ?_⟩, by simp; omega, hm, by simp⟩
    · simp at hp
      obtain ⟨b, o, s⟩ := x
      obtain rfl : s = none := by simpa [Addr.add] using World.cell?_spot (hc 0 (by omega))
      refine ⟨b, o, rfl, fun i hi => ?_⟩
      simp at hi
      rw [← add_plain, hc i (by omega)]
      have hi' : i < zs.length := by omega
      have := hb _ (List.getElem_mem hi')
      simp [List.getD, List.getElem?_map, show i < len from by omega, List.getElem?_eq_getElem hi', Int.toNat_of_nonneg this.1]
    · intro c hc
      simp only [List.mem_map] at hc
      obtain ⟨n, hn, rfl⟩ := hc
      have := hb n (List.mem_of_mem_take hn)
      omega
/-- What is owned stays owned behind a call that writes nothing old. -/
theorem own_below {w w' : World} {base size n : Nat} {e : TypeId} {v : Value} {xs : List Value} (h : w.ownsRow base e size v n xs) (hb : Below w.heap.size w w') : w'.ownsRow base e size v n xs :=
  h.kept (row := none) ⟨hb.os, hb.tape, hb.output, hb.size, fun k hk _ => hb.block k hk⟩ (by cases v.ownBlock <;> simp)
theorem block_below {w w' : World} {g : Nat} {o : Obj} (h : w.heap[g]? = some o) (hb : Below w.heap.size w w') : w'.heap[g]? = some o := by
  have hg : g < w.heap.size := (Array.getElem?_eq_some_iff.1 h).1
  rw [hb.block g hg]; exact h
end Go.Proofs.Ytidjgilipffdpaa
namespace Go.Proofs.Ytidjgilipffdpaa
open Go.RowKit Go.WideShapes

theorem bin_cells {w : World} {b o : Nat} {ys : List Nat} (h : BIn w (some ⟨b, o, none⟩) ys) : ∀ j u, (Bs ys)[j]? = some u → w.cell? ((⟨b, o, none⟩ : Addr).add j) = some u := by
  intro j u hu
  have hj : j < ys.length := by
    rcases Nat.lt_or_ge j ys.length with h | h
    · exact h
    · simp [Bs, List.getElem?_eq_none h] at hu
  rw [add_plain, h.cell j hj]
  simp [Bs, List.getElem?_eq_getElem hj] at hu
  simp [List.getD, List.getElem?_eq_getElem hj, ← hu]
theorem Bs_one (ys : List Nat) : ∀ u ∈ Bs ys, u.oneCell' = true := by
  intro u hu
  simp only [Bs, List.mem_map] at hu
  obtain ⟨b, _, rfl⟩ := hu
  rfl

/-- Appending bytes, wherever they lie, to a row of one's own. -/
theorem run_append_bytes (w : World) (base : Nat) (ty : TypeId) (v : Value) (xs ys : List Nat) (p : Option Addr) (c : Nat) (hown : w.ownsRow base 5 1 v xs.length (Bs xs)) (hin : BIn w p ys) (hp : p = none → c = 0)
    (hlen : xs.length + ys.length ≤ 140737488355328) (hbase : base ≤ w.heap.size) :
    ∃ v' w', (Builtin.append_ #[26, 26] ty #[v, .slice p ys.length c]).run Try.prog w = .ok v' w' ∧ w'.ownsRow base 5 1 v' (xs ++ ys).length (Bs (xs ++ ys)) ∧ w.grownBy w' v.ownBlock := by
  obtain ⟨i0, hi, hz0, hz1, hz2⟩ := info_parts info5
  have hmax : xs.length + ys.length ≤ maxLen := by unfold maxLen; omega
  cases p with
  | none =>
    obtain rfl : ys = [] := by
      cases ys with
      | nil => rfl
      | cons y ys => obtain ⟨b, o, e, _⟩ := hin.1 (by simp); cases e
    obtain rfl := hp rfl
    exact ⟨v, w, run_append_owned_none (P := Try.prog) w base 26 ty 5 i0 1 Try.underlying26 hi v xs.length (Bs xs) hown, by simpa using hown, ⟨rfl, rfl, rfl, Nat.le_refl _, fun _ _ _ => rfl⟩⟩
  | some ad =>
    have hc : ∀ j u, (Bs ys)[j]? = some u → w.cell? (ad.add j) = some u := by
      intro j u hu
      have hpos : 0 < ys.length := by
        cases ys with
        | nil => simp [Bs] at hu
        | cons y ys => simp
      obtain ⟨b, o, e, _⟩ := hin.1 hpos
      simp at e
      subst e
      exact bin_cells hin j u hu
    obtain ⟨v', w', h1, h2, h3, _⟩ := run_append_own (P := Try.prog) w base 26 ty 5 i0 (.int .u8 0) 1 1 Try.underlying26 hi hz0 hz1 hz2 rfl (by decide) v xs.length (Bs xs) hown ad ys.length c (Bs ys) (by simp [Bs]) hc (Bs_one ys) hmax (by omega) hbase
    exact ⟨v', w', h1, by simpa [Bs_app] using h2, h3⟩
theorem wpList_append_bytes (w : World) {ops : Array Oper} {rest : List Oper} {o : Oper} {a : Act} {Q : Exit → Act → World → Prop} (hgd : o.guard = none) (s x : Operand)
    (ho : o.op = .call { callee := .builtin .append, args := #[s, x], argTypes := #[26, 26] }) (base : Nat) (v : Value) (xs ys : List Nat) (p : Option Addr) (m c : Nat) (hs : a.eval s = v) (hx : a.eval x = .slice p m c) (hm : m = ys.length)
    (hown : w.ownsRow base 5 1 v xs.length (Bs xs)) (hin : BIn w p ys) (hp : p = none → c = 0) (hlen : xs.length + ys.length ≤ 140737488355328) (hbase : base ≤ w.heap.size)
    (h : ∀ v' w', w'.ownsRow base 5 1 v' (xs ++ ys).length (Bs (xs ++ ys)) → w.grownBy w' v.ownBlock → wpList Try.prog ops Q rest (a.put o.dst v') w') : wpList Try.prog ops Q (o :: rest) a w := by
  subst hm
  refine wpList_plain hgd fun K hK => ?_
  obtain ⟨v', w', hr, h2, h3⟩ := run_append_bytes w base o.type v xs ys p c hown hin hp hlen hbase
  unfold Oper.wp execOp
  simp only [ho, resolve, invoke, builtin, Sem.run_bind, Sem.run_pure, Result.andThen_ok, List.map_toArray, List.map_cons, List.map_nil, hs, hx, hr]
  exact hK _ _ (h v' w' h2 h3)
/-- The same, of an operation whose guard says yes. -/
theorem wpList_append_bytes_on (w : World) {ops : Array Oper} {rest : List Oper} {o : Oper} {a : Act} {Q : Exit → Act → World → Prop} (hw : Region.wanted o (yielded ops a.tmps) = true) (s x : Operand)
    (ho : o.op = .call { callee := .builtin .append, args := #[s, x], argTypes := #[26, 26] }) (base : Nat) (v : Value) (xs ys : List Nat) (p : Option Addr) (m c : Nat) (hs : a.eval s = v) (hx : a.eval x = .slice p m c) (hm : m = ys.length)
    (hown : w.ownsRow base 5 1 v xs.length (Bs xs)) (hin : BIn w p ys) (hp : p = none → c = 0) (hlen : xs.length + ys.length ≤ 140737488355328) (hbase : base ≤ w.heap.size)
    (h : ∀ v' w', w'.ownsRow base 5 1 v' (xs ++ ys).length (Bs (xs ++ ys)) → w.grownBy w' v.ownBlock → wpList Try.prog ops Q rest (a.put o.dst v') w') : wpList Try.prog ops Q (o :: rest) a w := by
  subst hm
  refine wpList_step fun K hK => ?_
  rw [if_pos hw]
  obtain ⟨v', w', hr, h2, h3⟩ := run_append_bytes w base o.type v xs ys p c hown hin hp hlen hbase
  unfold Oper.wp execOp
  simp only [ho, resolve, invoke, builtin, Sem.run_bind, Sem.run_pure, Result.andThen_ok, List.map_toArray, List.map_cons, List.map_nil, hs, hx, hr]
  exact hK _ _ (h v' w' h2 h3)
theorem step_append_bytes {ops : Array Oper} {o : Oper} {a : Act} {w : World} {K : Act → World → Prop} {Q : Exit → Act → World → Prop} {E : Prop} (hgd : o.guard = none) (s x : Operand)
    (ho : o.op = .call { callee := .builtin .append, args := #[s, x], argTypes := #[26, 26] }) (base : Nat) (v : Value) (xs ys : List Nat) (p : Option Addr) (m c : Nat) (hs : a.eval s = v) (hx : a.eval x = .slice p m c) (hm : m = ys.length)
    (hown : w.ownsRow base 5 1 v xs.length (Bs xs)) (hin : BIn w p ys) (hp : p = none → c = 0) (hlen : xs.length + ys.length ≤ 140737488355328) (hbase : base ≤ w.heap.size)
    (h : ∀ v' w', w'.ownsRow base 5 1 v' (xs ++ ys).length (Bs (xs ++ ys)) → w.grownBy w' v.ownBlock → K (a.put o.dst v') w') : if Region.wanted o (yielded ops a.tmps) = true then Oper.wp Try.prog o a w K Q else E := by
  subst hm
  have hw : Region.wanted o (yielded ops a.tmps) = true := by simp [Region.wanted, hgd]
  rw [if_pos hw]
  obtain ⟨v', w', hr, h2, h3⟩ := run_append_bytes w base o.type v xs ys p c hown hin hp hlen hbase
  unfold Oper.wp execOp
  simp only [ho, resolve, invoke, builtin, Sem.run_bind, Sem.run_pure, Result.andThen_ok, List.map_toArray, List.map_cons, List.map_nil, hs, hx, hr]
  exact h v' w' h2 h3

/-- A string's bytes as numbers. -/
def numsOf (s : ByteArray) : List Nat := s.data.toList.map UInt8.toNat
theorem numsOf_len (s : ByteArray) : (numsOf s).length = s.size := by rw [numsOf, List.length_map, Array.length_toList]; rfl
theorem numsOf_lt (s : ByteArray) : ∀ c ∈ numsOf s, c < 256 := by
  intro c hc
  simp only [numsOf, List.mem_map] at hc
  obtain ⟨b, _, rfl⟩ := hc
  exact b.toNat_lt
theorem strCells_Bs (s : ByteArray) : Lib.strCells s = Bs (numsOf s) := by unfold Lib.strCells Bs numsOf; rw [List.map_map]; rfl
theorem strOf_nums (s : ByteArray) : strOf (numsOf s) = s := by
  apply bytes_inj
  rw [strOf_list, numsOf, List.map_map]
  conv => rhs; rw [← List.map_id s.data.toList]
  congr 1
  funext b
  simp
def textN (s : ByteArray) : List Nat := smallN s.size ++ numsOf s

end Go.Proofs.Ytidjgilipffdpaa
namespace Go.Proofs.Ytidjgilipffdpaa
open Go.RowKit Go.WideShapes

def sieveH (s : ByteArray) : Nat := sumN (numsOf s)
def sieveG (s : ByteArray) : Nat := sumN (numsOf s ++ [1]) ||| 1
def markAt (s : ByteArray) (i : Nat) : Nat := (sieveH s + i * sieveG s) % 4294967296
def marksN (s : ByteArray) (m : Nat) : List Nat := [markAt s 0 % m, markAt s 1 % m, markAt s 2 % m, markAt s 3 % m]
def setN (b : List Nat) (n : Nat) : List Nat := b.set (n / 8) (b.getD (n / 8) 0 ||| 2 ^ (n % 8))
def setsN (b : List Nat) (l : List Nat) : List Nat := l.foldl setN b
def makeN (keys : List ByteArray) (m : Nat) : List Nat := keys.foldl (fun b k => setsN b (marksN k m)) (List.replicate (m / 8) 0)
def hasB (b : List Nat) (k : ByteArray) : Bool := (marksN k (8 * b.length)).all fun n => (b.getD (n / 8) 0).testBit (n % 8)

theorem sumN_lt (xs : List Nat) (h : ∀ c ∈ xs, c < 256) : sumN xs < 4294967296 := Nat.xor_lt_two_pow (n := 32) (by omega) (crc_lt xs 4294967295 (by decide) h)
theorem sieveH_lt (s : ByteArray) : sieveH s < 4294967296 := sumN_lt _ (numsOf_lt s)
theorem one_lt (s : ByteArray) : ∀ c ∈ numsOf s ++ [1], c < 256 := by
  intro c hc
  rcases List.mem_append.1 hc with h | h
  · exact numsOf_lt s c h
  · simp at h; omega
theorem sieveG_lt (s : ByteArray) : sieveG s < 4294967296 := Nat.or_lt_two_pow (n := 32) (sumN_lt _ (one_lt s)) (by omega)
theorem or_one (x : Nat) : x ||| 1 = if x % 2 = 0 then x + 1 else x := by
  apply Nat.eq_of_testBit_eq
  intro i
  rw [Nat.testBit_or]
  cases i with
  | zero =>
    rcases Nat.mod_two_eq_zero_or_one x with h | h
    · rw [if_pos h]; simp [Nat.testBit_zero]; omega
    · rw [if_neg (by omega)]; simp [Nat.testBit_zero]; omega
  | succ i =>
    rcases Nat.mod_two_eq_zero_or_one x with h | h
    · rw [if_pos h, Nat.testBit_succ, Nat.testBit_succ, Nat.testBit_succ, show (x + 1) / 2 = x / 2 from by omega]; simp
    · rw [if_neg (by omega), Nat.testBit_succ, Nat.testBit_succ]; simp
theorem markAt_lt (s : ByteArray) (i : Nat) : markAt s i < 4294967296 := Nat.mod_lt _ (by decide)
theorem markAt_zero (s : ByteArray) : markAt s 0 = sieveH s := by unfold markAt; rw [Nat.zero_mul, Nat.add_zero, Nat.mod_eq_of_lt (sieveH_lt s)]
theorem markAt_succ (s : ByteArray) (i : Nat) : markAt s (i + 1) = (markAt s i + sieveG s) % 4294967296 := by
  unfold markAt; rw [Nat.add_mul, Nat.one_mul, Nat.mod_add_mod, Nat.add_assoc]
theorem marksN_len (s : ByteArray) (m : Nat) : (marksN s m).length = 4 := rfl
theorem marksN_at (s : ByteArray) (m i : Nat) (h : i < 4) : (marksN s m).getD i 0 = markAt s i % m := by
  match i, h with
  | 0, _ => rfl
  | 1, _ => rfl
  | 2, _ => rfl
  | 3, _ => rfl
theorem marksN_lt (s : ByteArray) (m : Nat) (h : 0 < m) : ∀ n ∈ marksN s m, n < m := by
  intro n hn
  simp only [marksN, List.mem_cons, List.not_mem_nil, or_false] at hn
  rcases hn with rfl | rfl | rfl | rfl <;> exact Nat.mod_lt _ h

theorem setN_len (b : List Nat) (n : Nat) : (setN b n).length = b.length := by simp [setN]
theorem setsN_len (l : List Nat) : ∀ b, (setsN b l).length = b.length := by
  induction l with
  | nil => intro b; rfl
  | cons n l ih => intro b; exact (ih (setN b n)).trans (setN_len b n)
theorem setN_lt {b : List Nat} (h : ∀ c ∈ b, c < 256) (n : Nat) : ∀ c ∈ setN b n, c < 256 := by
  intro c hc
  rcases List.mem_or_eq_of_mem_set hc with h1 | rfl
  · exact h c h1
  · have h8 : 2 ^ (n % 8) < 2 ^ 8 := Nat.pow_lt_pow_right (by decide) (Nat.mod_lt _ (by decide))
    exact Nat.or_lt_two_pow (n := 8) (getD_lt h _) h8
theorem setsN_lt (l : List Nat) : ∀ b, (∀ c ∈ b, c < 256) → ∀ c ∈ setsN b l, c < 256 := by
  induction l with
  | nil => intro b h; exact h
  | cons n l ih => intro b h; exact ih (setN b n) (setN_lt h n)
theorem setN_bit (b : List Nat) (n i j : Nat) (h : n / 8 < b.length) : ((setN b n).getD i 0).testBit j = ((b.getD i 0).testBit j || decide (i = n / 8 ∧ j = n % 8)) := by
  unfold setN
  by_cases e : i = n / 8
  · subst e
    rw [List.getD_eq_getElem?_getD, List.getElem?_set_self h, Option.getD_some, Nat.testBit_or, Nat.testBit_two_pow]
    congr 1
    simp [eq_comm]
  · rw [List.getD_eq_getElem?_getD, List.getElem?_set_ne (fun h => e h.symm), ← List.getD_eq_getElem?_getD]
    simp [e]
theorem setsN_bit (l : List Nat) : ∀ (b : List Nat) (i j : Nat), (∀ n ∈ l, n / 8 < b.length) → ((setsN b l).getD i 0).testBit j = ((b.getD i 0).testBit j || l.any fun n => decide (i = n / 8 ∧ j = n % 8)) := by
  induction l with
  | nil => intro b i j _; simp [setsN]
  | cons n l ih =>
    intro b i j h
    have := ih (setN b n) i j (fun m hm => by rw [setN_len]; exact h m (by simp [hm]))
    rw [show setsN b (n :: l) = setsN (setN b n) l from rfl, this, setN_bit b n i j (h n (by simp)), List.any_cons, Bool.or_assoc]
/-- All marks of keys, set into a filter. -/
def fillN (b : List Nat) (keys : List ByteArray) (m : Nat) : List Nat := keys.foldl (fun b k => setsN b (marksN k m)) b
theorem fillN_len (keys : List ByteArray) (m : Nat) : ∀ b, (fillN b keys m).length = b.length := by
  induction keys with
  | nil => intro b; rfl
  | cons k l ih => intro b; exact (ih _).trans (setsN_len _ _)
theorem fillN_lt (keys : List ByteArray) (m : Nat) : ∀ b, (∀ c ∈ b, c < 256) → ∀ c ∈ fillN b keys m, c < 256 := by
  induction keys with
  | nil => intro b h; exact h
  | cons k l ih => intro b h; exact ih _ (setsN_lt _ _ h)
theorem mark_in {m n : Nat} (h8 : m % 8 = 0) (h : n < m) : n / 8 < m / 8 := by omega
theorem fillN_bit (keys : List ByteArray) (m : Nat) (h0 : 0 < m) (h8 : m % 8 = 0) : ∀ (b : List Nat) (i j : Nat), b.length = m / 8 → ((fillN b keys m).getD i 0).testBit j = ((b.getD i 0).testBit j || keys.any fun k => (marksN k m).any fun n => decide (i = n / 8 ∧ j = n % 8)) := by
  induction keys with
  | nil => intro b i j _; simp [fillN]
  | cons k l ih =>
    intro b i j hb
    have := ih (setsN b (marksN k m)) i j (by rw [setsN_len]; exact hb)
    rw [show fillN b (k :: l) m = fillN (setsN b (marksN k m)) l m from rfl, this, setsN_bit _ _ _ _ (fun n hn => by rw [hb]; exact mark_in h8 (marksN_lt k m h0 n hn)), List.any_cons, Bool.or_assoc]
theorem makeN_len (keys : List ByteArray) (m : Nat) : (makeN keys m).length = m / 8 := (fillN_len keys m _).trans (by simp)
theorem makeN_lt (keys : List ByteArray) (m : Nat) : ∀ c ∈ makeN keys m, c < 256 := fillN_lt keys m _ (by intro c hc; have := List.eq_of_mem_replicate hc; omega)
theorem zero_bit (k i j : Nat) : ((List.replicate k 0).getD i 0).testBit j = false := by
  have : (List.replicate k 0).getD i 0 = 0 := by
    rw [List.getD_eq_getElem?_getD, List.getElem?_replicate]
    split <;> rfl
  rw [this, Nat.zero_testBit]
theorem makeN_bit (keys : List ByteArray) (m : Nat) (h0 : 0 < m) (h8 : m % 8 = 0) (i j : Nat) : ((makeN keys m).getD i 0).testBit j = keys.any fun k => (marksN k m).any fun n => decide (i = n / 8 ∧ j = n % 8) := by
  have := fillN_bit keys m h0 h8 (List.replicate (m / 8) 0) i j (by simp)
  rw [show makeN keys m = fillN (List.replicate (m / 8) 0) keys m from rfl, this, zero_bit, Bool.false_or]
theorem makeN_app (a b : List ByteArray) (m : Nat) (h0 : 0 < m) (h8 : m % 8 = 0) (i : Nat) : (makeN (a ++ b) m).getD i 0 = (makeN a m).getD i 0 ||| (makeN b m).getD i 0 := by
  apply Nat.eq_of_testBit_eq
  intro j
  rw [Nat.testBit_or, makeN_bit _ m h0 h8, makeN_bit _ m h0 h8, makeN_bit _ m h0 h8, List.any_append]
theorem nums_ext {a b : List Nat} (hn : a.length = b.length) (h : ∀ i, i < a.length → a.getD i 0 = b.getD i 0) : a = b := by
  refine List.ext_getElem hn (fun i h1 h2 => ?_)
  have := h i h1
  simpa [List.getD, h1, h2] using this
theorem makeN_swap (a b : List ByteArray) (m : Nat) (h0 : 0 < m) (h8 : m % 8 = 0) : makeN (a ++ b) m = makeN (b ++ a) m :=
  nums_ext (by rw [makeN_len, makeN_len]) (fun i _ => by rw [makeN_app a b m h0 h8, makeN_app b a m h0 h8, Nat.or_comm])
theorem makeN_has (keys : List ByteArray) (m : Nat) (h0 : 0 < m) (h8 : m % 8 = 0) (k : ByteArray) (hk : k ∈ keys) : hasB (makeN keys m) k = true := by
  unfold hasB
  rw [List.all_eq_true, makeN_len, show 8 * (m / 8) = m from by omega]
  intro n hn
  rw [makeN_bit _ m h0 h8, List.any_eq_true]
  refine ⟨k, hk, ?_⟩
  rw [List.any_eq_true]
  exact ⟨n, hn, by simp⟩
theorem has_zero (n : Nat) (k : ByteArray) : hasB (List.replicate n 0) k = false := by
  unfold hasB marksN
  rw [List.all_cons, zero_bit, Bool.false_and]
theorem full_bit (j : Nat) (h : j < 8) : Nat.testBit 255 j = true := by
  have : ∀ j, j < 8 → Nat.testBit 255 j = true := by decide
  exact this j h
theorem has_full (n : Nat) (h : 0 < n) (k : ByteArray) : hasB (List.replicate n 255) k = true := by
  unfold hasB
  rw [List.all_eq_true]
  intro x hx
  have hl := marksN_lt k (8 * (List.replicate n 255).length) (by rw [List.length_replicate]; omega) x hx
  rw [List.length_replicate] at hl
  rw [List.getD_eq_getElem?_getD, List.getElem?_replicate, if_pos (by omega), Option.getD_some]
  exact full_bit _ (Nat.mod_lt _ (by decide))
theorem has_more {b c : List Nat} (hn : b.length = c.length) (h : ∀ i, i < b.length → ∃ y, c.getD i 0 = b.getD i 0 ||| y) (k : ByteArray) (hb : hasB b k = true) : hasB c k = true := by
  unfold hasB at *
  rw [List.all_eq_true] at *
  intro x hx
  rw [← hn] at hx
  have h0 : 0 < b.length := by
    rcases Nat.eq_zero_or_pos b.length with e | e
    · exfalso
      have := hb x hx
      rw [List.eq_nil_of_length_eq_zero e] at this
      simp at this
    · exact e
  have hl := marksN_lt k (8 * b.length) (by omega) x hx
  obtain ⟨y, hy⟩ := h (x / 8) (by omega)
  rw [hy, Nat.testBit_or, hb x hx, Bool.true_or]
theorem makeN_take (keys : List ByteArray) (m k : Nat) (h : k < keys.length) : makeN (keys.take (k + 1)) m = setsN (makeN (keys.take k) m) (marksN (keys.getD k ByteArray.empty) m) := by
  rw [List.take_succ_eq_append_getElem h, makeN, List.foldl_append]
  simp [makeN, List.getD, List.getElem?_eq_getElem h]
theorem setsN_take (b l : List Nat) (k : Nat) (h : k < l.length) : setsN b (l.take (k + 1)) = setN (setsN b (l.take k)) (l.getD k 0) := by
  rw [List.take_succ_eq_append_getElem h, setsN, List.foldl_append]
  simp [setsN, List.getD, List.getElem?_eq_getElem h]
end Go.Proofs.Ytidjgilipffdpaa
