/-
  Contracts of Put and of the laws' own call alive; what a row of bytes of the call's own reads as; appending bytes.
-/
import Derived.Test.YtdbgbaclgdkkjabSum
import Derived.Lib.SmallJoins
import Derived.OpenShut
namespace Go.Proofs.Ytdbgbaclgdkkjab
open Go.RowKit Go.WideShapes

theorem info5 : (Try.prog.info? 5).map (fun i => (i.zero, i.size, i.bytes)) = some (some (.int .u8 0), 1, 1) := by kernel_rfl

set_option maxHeartbeats 1000000 in
theorem split_any (n : Nat) (w : World) (hn : n < 18446744073709551616) :
    Calls Try.prog 10 #[.int .u64 n] w fun e w' => e = .returned (.agg #[.int .u8 (n % 256), .int .u8 (n / 256 % 256), .int .u8 (n / 65536 % 256), .int .u8 (n / 16777216 % 256), .int .u8 (n / 4294967296 % 256), .int .u8 (n / 1099511627776 % 256), .int .u8 (n / 281474976710656 % 256), .int .u8 (n / 72057594037927936)]) ∧ Below w.heap.size w w' := by
  go_enter Try.func10, Try.ntmps10
  go_wp2
  refine wp_loop_rounds 9 ?_
  iterate 9 (rw [rounds_succ]; go_wp2)
  refine bodyPost_ret (v := .agg #[.int .u8 (n % 256), .int .u8 (n / 256 % 256), .int .u8 (n / 65536 % 256), .int .u8 (n / 16777216 % 256), .int .u8 (n / 4294967296 % 256), .int .u8 (n / 1099511627776 % 256), .int .u8 (n / 281474976710656 % 256), .int .u8 (n / 72057594037927936)]) (by simp [results, Try.results10, go_sem]) rfl ⟨rfl, ?_⟩
  exact ((Below.refl _ _).alloc (Nat.le_refl _) _).alloc (by simp) _

theorem bin_alloc (w : World) (xs : List Nat) (e : TypeId) (hx : ∀ c ∈ xs, c < 256) : BIn (w.alloc (.cells (Bs xs).toArray e)) (some ⟨w.heap.size, 0, none⟩) xs := by
  refine ⟨fun _ => ⟨w.heap.size, 0, rfl, fun i hi => ?_⟩, hx⟩
  rw [cell_of_row (w.alloc (.cells (Bs xs).toArray e)) w.heap.size (0 + i) (Bs xs).toArray e (0, 0) (heap_alloc_new w _)]
  simp [Bs, List.getD, List.getElem?_eq_getElem hi]

theorem putN_cells (n : Nat) : (Bs (putN n)).toArray = #[.int .u8 (n % 256), .int .u8 (n / 256 % 256), .int .u8 (n / 65536 % 256), .int .u8 (n / 16777216 % 256), .int .u8 (n / 4294967296 % 256), .int .u8 (n / 1099511627776 % 256), .int .u8 (n / 281474976710656 % 256), .int .u8 (n / 72057594037927936)] := by
  simp [Bs, putN]

set_option maxHeartbeats 1000000 in
theorem put_any (n : Nat) (w : World) (hn : n < 18446744073709551616) :
    Calls Try.prog 8 #[.int .u64 n] w fun e w' => ∃ w1, e = .returned (.slice (some ⟨w1.heap.size, 0, none⟩) 8 8) ∧ w' = w1.alloc (.cells (Bs (putN n)).toArray 32) ∧ Below w.heap.size w w1 := by
  go_enter Try.func8, Try.ntmps8
  go_wp2_with (go_at_call 10; refine (split_any n _ hn).mono ?_; rintro e w1 ⟨rfl, hb⟩)
  go_ret
  exact ⟨w1, rfl, by rw [putN_cells], hb⟩

theorem BIn.alloc {w : World} {p : Option Addr} {xs : List Nat} (h : BIn w p xs) (o : Obj) : BIn (w.alloc o) p xs := by
  refine ⟨fun hx => ?_, h.2⟩
  obtain ⟨b, o', rfl, hc⟩ := h.1 hx
  exact ⟨b, o', rfl, fun i hi => (World.cell?_alloc_past o b _ (World.block_lt_of_cell? _ _ (hc i hi))).trans (hc i hi)⟩
theorem BIn.below {w w' : World} {p : Option Addr} {xs : List Nat} (h : BIn w p xs) (hb : Below w.heap.size w w') : BIn w' p xs := by
  refine ⟨fun hx => ?_, h.2⟩
  obtain ⟨b, o', rfl, hc⟩ := h.1 hx
  exact ⟨b, o', rfl, fun i hi => cell_later hb (hc i hi)⟩

theorem bin_lit (w : World) (g : Nat) (C : Array Value) (e : TypeId) (fr : Nat × Nat) (xs : List Nat) (hg : g = w.heap.size) (hC : C = (Bs xs).toArray) (hx : ∀ c ∈ xs, c < 256) : BIn (w.alloc (.cells C e fr)) (some ⟨g, 0, none⟩) xs := by
  subst hg hC
  refine ⟨fun _ => ⟨w.heap.size, 0, rfl, fun i hi => ?_⟩, hx⟩
  rw [cell_of_row (w.alloc (.cells (Bs xs).toArray e fr)) w.heap.size (0 + i) (Bs xs).toArray e fr (heap_alloc_new w _)]
  simp [Bs, List.getD, List.getElem?_eq_getElem hi]
/-- Two lists of the same bytes. -/
theorem same_eq (p q : Option Addr) (n m c d : Nat) (xs ys : List Nat) (w : World) (hn : n = xs.length) (hm : m = ys.length) (e : xs = ys) (hx : BIn w p xs) (hy : BIn w q ys) :
    Calls Try.prog 7 #[.slice p n c, .slice q m d] w fun e w' => e = .returned (.bool true) ∧ w' = w := by
  subst hn hm
  refine (same_any p q c d xs ys w hx hy).mono fun e' w' h => ⟨?_, h.2⟩
  rw [h.1, decide_eq_true e]
theorem sum_at (p : Option Addr) (n cap : Nat) (xs : List Nat) (w : World) (z : Int) (hn : n = xs.length) (hz : (sumN xs : Int) = z) (hb : BIn w p xs) (hm : xs.length ≤ maxLen) :
    Calls Try.prog 6 #[.slice p n cap] w fun e w' => e = .returned (.int .u32 z) ∧ w' = w := by
  subst hn hz
  exact sum_any p cap xs w hb hm
theorem sum_nine : sumN [49, 50, 51, 52, 53, 54, 55, 56, 57] = 3421780262 := by decide +kernel

set_option maxHeartbeats 400000 in
theorem alive_any (w : World) : Calls Try.prog 5 #[] w fun e w' => e = .returned (.bool true) ∧ Below w.heap.size w w' := by
  have kc := fun (w : World) (o1 o2 : Obj) (C : Array Value) (n c : Nat) => Go.Joins.run_convert_bytes_const_at (P := Try.prog) ((w.alloc o1).alloc o2) 22 5 C n c (w.heap.size + 1 + 1) (by simp) Try.underlying22 Try.underlying5
  go_enter Try.func5, Try.ntmps5
  go_wp2_with fail
  refine (put_any 258 w (by decide)).mono ?_
  rintro e w' ⟨w1, rfl, rfl, hb⟩
  have hs := hb.size
  go_wp2_with fail
  refine (same_eq _ _ 8 8 8 8 (putN 258) [2, 1, 0, 0, 0, 0, 0, 0] _ rfl rfl (by decide) ?_ ?_).mono ?_
  · exact (bin_lit w1 _ _ _ _ (putN 258) rfl rfl (putN_bytes 258 (by decide))).alloc _
  · exact bin_lit _ _ _ _ _ _ (by simp) (by simp [Bs]) (by decide)
  rintro e w' ⟨rfl, rfl⟩
  go_wp2_with fail
  refine (sum_at _ 9 9 [49, 50, 51, 52, 53, 54, 55, 56, 57] _ 3421780262 rfl (by rw [sum_nine]; rfl) ?_ (by decide)).mono ?_
  · exact bin_lit _ _ _ _ _ _ (by simp) (by simp [Bs]) (by decide)
  rintro e w' ⟨rfl, rfl⟩
  go_wp2
  go_ret
  exact ⟨rfl, ((hb.alloc hs _).alloc (by simp; omega) _).alloc (by simp; omega) _⟩
theorem ret_true {p : Prop} [Decidable p] (h : p) : Ending.returned (.bool (decide p)) = .returned (.bool true) := by rw [decide_eq_true h]
theorem own_bin {w : World} {base : Nat} {p : Option Addr} {m c : Nat} {xs : List Nat} (h : w.ownsRow base 5 1 (.slice p m c) xs.length (Bs xs)) (hx : ∀ c ∈ xs, c < 256) : BIn w p xs ∧ m = xs.length := by
  rcases h.2 with ⟨hv, hn⟩ | ⟨g, cap, cur, hv, hb, hg, hle, hmax, hsz, htk⟩
  · simp at hv
    exact ⟨⟨fun h => by omega, hx⟩, by omega⟩
  · simp at hv
    obtain ⟨rfl, rfl, rfl⟩ := hv
    refine ⟨⟨fun _ => ⟨g, 0, rfl, fun i hi => ?_⟩, hx⟩, rfl⟩
    have := h.cells rfl i (.int .u8 (xs.getD i 0 : Nat)) (by simp [Bs, List.getD, List.getElem?_eq_getElem hi])
    rw [Go.WideShapes.add_plain] at this
    exact this

theorem own_at {w : World} {base : Nat} {p : Option Addr} {m c n : Nat} {xs : List Nat} (h : w.ownsRow base 5 1 (.slice p m c) n (Bs xs)) (hn : n = xs.length) (hx : ∀ c ∈ xs, c < 256) : BIn w p xs := by
  subst hn; exact (own_bin h hx).1

/-- What the walk is told of a slice of integers that came in: it is nil; or it leads to a row of 'cap' cells, the numbers 'zs' (the first 'len' are its elements, the rest its spare room), each fitting its kind. -/
def IsRow (k : IntKind) (w : World) (a : Option Addr) (len cap : Nat) (zs : List Int) : Prop :=
  (a = none ∧ len = 0 ∧ cap = 0 ∧ zs = []) ∨
  ∃ x, a = some x ∧ len ≤ cap ∧ cap ≤ maxLen ∧ zs.length = cap ∧ (∀ i, i < zs.length → w.cell? (x.add i) = some (.int k (zs.getD i 0))) ∧ ∀ n ∈ zs, (Lit.int k n).wf = true
theorem row_bin {w : World} {a : Option Addr} {len cap : Nat} {zs : List Int} (h : IsRow .u8 w a len cap zs) : ∃ xs : List Nat, len = xs.length ∧ BIn w a xs ∧ xs.length ≤ cap ∧ cap ≤ maxLen ∧ (a = none → cap = 0) := by
  rcases h with ⟨rfl, rfl, rfl, rfl⟩ | ⟨x, rfl, hl, hm, hz, hc, hw⟩
  · exact ⟨[], rfl, ⟨fun h => absurd h (by simp), by simp⟩, by simp, by unfold maxLen; omega, fun _ => rfl⟩
  · have hb : ∀ n ∈ zs, 0 ≤ n ∧ n ≤ 255 := fun n hn => bounds_u8 (hw n hn)
    refine ⟨(zs.take len).map Int.toNat, by simp; omega, ⟨fun hp => ?_, ?_⟩, by simp; omega, hm, by simp⟩
    · simp at hp
      obtain ⟨b, o, s⟩ := x
      obtain rfl : s = none := by simpa [Addr.add] using World.cell?_spot (hc 0 (by omega))
      refine ⟨b, o, rfl, fun i hi => ?_⟩
      simp at hi
      rw [← add_plain, hc i (by omega)]
      have hi' : i < zs.length := by omega
      have := hb _ (List.getElem_mem hi')
      simp [List.getD, List.getElem?_map, show i < len from by omega, List.getElem?_eq_getElem hi', Int.toNat_of_nonneg this.1]
    · intro c hc
      simp only [List.mem_map] at hc
      obtain ⟨n, hn, rfl⟩ := hc
      have := hb n (List.mem_of_mem_take hn)
      omega
theorem bin_cells {w : World} {b o : Nat} {ys : List Nat} (h : BIn w (some ⟨b, o, none⟩) ys) : ∀ j u, (Bs ys)[j]? = some u → w.cell? ((⟨b, o, none⟩ : Addr).add j) = some u := by
  intro j u hu
  have hj : j < ys.length := by
    rcases Nat.lt_or_ge j ys.length with h | h
    · exact h
    · simp [Bs, List.getElem?_eq_none h] at hu
  rw [add_plain, h.cell j hj]
  simp [Bs, List.getElem?_eq_getElem hj] at hu
  simp [List.getD, List.getElem?_eq_getElem hj, ← hu]
theorem Bs_one (ys : List Nat) : ∀ u ∈ Bs ys, u.oneCell' = true := by
  intro u hu
  simp only [Bs, List.mem_map] at hu
  obtain ⟨b, _, rfl⟩ := hu
  rfl

/-- Appending bytes, wherever they lie, to a row of one's own. -/
theorem run_append_bytes (w : World) (base : Nat) (ty : TypeId) (v : Value) (xs ys : List Nat) (p : Option Addr) (c : Nat) (hown : w.ownsRow base 5 1 v xs.length (Bs xs)) (hin : BIn w p ys) (hp : p = none → c = 0)
    (hlen : xs.length + ys.length ≤ 140737488355328) (hbase : base ≤ w.heap.size) :
    ∃ v' w', (Builtin.append_ #[22, 22] ty #[v, .slice p ys.length c]).run Try.prog w = .ok v' w' ∧ w'.ownsRow base 5 1 v' (xs ++ ys).length (Bs (xs ++ ys)) ∧ w.grownBy w' v.ownBlock := by
  obtain ⟨i0, hi, hz0, hz1, hz2⟩ := info_parts info5
  have hmax : xs.length + ys.length ≤ maxLen := by unfold maxLen; omega
  cases p with
  | none =>
    obtain rfl : ys = [] := by
      cases ys with
      | nil => rfl
      | cons y ys => obtain ⟨b, o, e, _⟩ := hin.1 (by simp); cases e
    obtain rfl := hp rfl
    exact ⟨v, w, run_append_owned_none (P := Try.prog) w base 22 ty 5 i0 1 Try.underlying22 hi v xs.length (Bs xs) hown, by simpa using hown, ⟨rfl, rfl, rfl, Nat.le_refl _, fun _ _ _ => rfl⟩⟩
  | some ad =>
    have hc : ∀ j u, (Bs ys)[j]? = some u → w.cell? (ad.add j) = some u := by
      intro j u hu
      have hpos : 0 < ys.length := by
        cases ys with
        | nil => simp [Bs] at hu
        | cons y ys => simp
      obtain ⟨b, o, e, _⟩ := hin.1 hpos
      simp at e
      subst e
      exact bin_cells hin j u hu
    obtain ⟨v', w', h1, h2, h3, _⟩ := run_append_own (P := Try.prog) w base 22 ty 5 i0 (.int .u8 0) 1 1 Try.underlying22 hi hz0 hz1 hz2 rfl (by decide) v xs.length (Bs xs) hown ad ys.length c (Bs ys) (by simp [Bs]) hc (Bs_one ys) hmax (by omega) hbase
    exact ⟨v', w', h1, by simpa [Bs_app] using h2, h3⟩
theorem wpList_append_bytes (w : World) {ops : Array Oper} {rest : List Oper} {o : Oper} {a : Act} {Q : Exit → Act → World → Prop} (hgd : o.guard = none) (s x : Operand)
    (ho : o.op = .call { callee := .builtin .append, args := #[s, x], argTypes := #[22, 22] }) (base : Nat) (v : Value) (xs ys : List Nat) (p : Option Addr) (m c : Nat) (hs : a.eval s = v) (hx : a.eval x = .slice p m c) (hm : m = ys.length)
    (hown : w.ownsRow base 5 1 v xs.length (Bs xs)) (hin : BIn w p ys) (hp : p = none → c = 0) (hlen : xs.length + ys.length ≤ 140737488355328) (hbase : base ≤ w.heap.size)
    (h : ∀ v' w', w'.ownsRow base 5 1 v' (xs ++ ys).length (Bs (xs ++ ys)) → w.grownBy w' v.ownBlock → wpList Try.prog ops Q rest (a.put o.dst v') w') : wpList Try.prog ops Q (o :: rest) a w := by
  subst hm
  refine wpList_plain hgd fun K hK => ?_
  obtain ⟨v', w', hr, h2, h3⟩ := run_append_bytes w base o.type v xs ys p c hown hin hp hlen hbase
  unfold Oper.wp execOp
  simp only [ho, resolve, invoke, builtin, Sem.run_bind, Sem.run_pure, Result.andThen_ok, List.map_toArray, List.map_cons, List.map_nil, hs, hx, hr]
  exact hK _ _ (h v' w' h2 h3)
/-- What is owned stays owned behind a call that writes nothing old. -/
theorem own_below {w w' : World} {base size n : Nat} {e : TypeId} {v : Value} {xs : List Value} (h : w.ownsRow base e size v n xs) (hb : Below w.heap.size w w') : w'.ownsRow base e size v n xs :=
  h.kept (row := none) ⟨hb.os, hb.tape, hb.output, hb.size, fun k hk _ => hb.block k hk⟩ (by cases v.ownBlock <;> simp)
theorem block_below {w w' : World} {g : Nat} {o : Obj} (h : w.heap[g]? = some o) (hb : Below w.heap.size w w') : w'.heap[g]? = some o := by
  have hg : g < w.heap.size := (Array.getElem?_eq_some_iff.1 h).1
  rw [hb.block g hg]; exact h
end Go.Proofs.Ytdbgbaclgdkkjab
