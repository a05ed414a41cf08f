/-
  Contracts of the document's own answers for layer 1: Same, Small, Text, Put, Get.
-/
import Derived.Test.YtefmkkfankpgmaaGreatDoorJ06
import Derived.Shelf.Strconv.Itoa3
import Derived.Ground.NamesProg
import Derived.Test.YtefmkkfankpgmaaGreatDoorProg
import Derived.Test.YtefmkkfankpgmaaGreatDoorJ02
namespace Go.Proofs.YtefmkkfankpgmaaGreatDoor
open Go.RowKit Go.WideShapes Rm

abbrev Box := Nat × Array Value × TypeId
structure St (w : World) (bx : List Box) (wc : World) (v : Value) (xs : List Nat) : Prop where
  own : wc.ownsRow w.heap.size 5 1 v xs.length (Bs xs)
  bel : Below w.heap.size w wc
  box : ∀ p ∈ bx, wc.heap[p.1]? = some (.cells p.2.1 p.2.2 (0, 0)) ∧ p.2.2 ≠ 5
theorem own_form {w : World} {base n : Nat} {e : TypeId} {s : Nat} {v : Value} {xs : List Value} (h : w.ownsRow base e s v n xs) : ∃ q m, v = .slice q n m ∧ n ≤ m ∧ m ≤ maxLen ∧ (q = none → m = 0) := by
  rcases h.2 with ⟨hv, hn⟩ | ⟨g, cap, cur, hv, _, _, h1, h2, _⟩
  · exact ⟨none, 0, by rw [hv, hn], by omega, by unfold maxLen; omega, fun _ => rfl⟩
  · exact ⟨_, cap, hv, h1, h2, fun h => by cases h⟩
theorem blk_grown {w w' : World} {base n : Nat} {v : Value} {xs : List Value} (h : w.ownsRow base 5 1 v n xs) (hg : w.grownBy w' v.ownBlock) {B : Nat} {C : Array Value} {t : TypeId} {fr : Nat × Nat} (hB : w.heap[B]? = some (.cells C t fr)) (ht : t ≠ 5) : w'.heap[B]? = some (.cells C t fr) := by
  rw [hg.block B (lt_heap hB) ?_]
  · exact hB
  · intro e
    rcases h.2 with ⟨hv, _⟩ | ⟨g, cap, cur, hv, _, hgg, _⟩
    · rw [hv] at e; cases e
    · rw [hv] at e
      simp only [Value.ownBlock, Option.some.injEq] at e
      subst e
      rw [hB] at hgg
      simp only [Option.some.injEq, Obj.cells.injEq] at hgg
      exact ht hgg.2.1
theorem St.start {w : World} {bx : List Box} (hb : ∀ p ∈ bx, w.heap[p.1]? = some (.cells p.2.1 p.2.2 (0, 0)) ∧ p.2.2 ≠ 5) : St w bx w (.slice none 0 0) [] := ⟨World.ownsRow_nil _ _ _ _, Below.refl _ _, hb⟩
theorem St.call {w : World} {bx : List Box} {wc w1 : World} {v : Value} {xs : List Nat} (h : St w bx wc v xs) (hb : Below wc.heap.size wc w1) : St w bx w1 v xs :=
  ⟨own_below h.own hb, h.bel.trans (hb.mono h.bel.size), fun p hp => ⟨(hb.block _ (lt_heap (h.box p hp).1)).trans (h.box p hp).1, (h.box p hp).2⟩⟩
theorem St.app {w : World} {bx : List Box} {wc w2 : World} {v v2 : Value} {xs ys : List Nat} (h : St w bx wc v xs) (ho : w2.ownsRow w.heap.size 5 1 v2 (xs ++ ys).length (Bs (xs ++ ys))) (hg : wc.grownBy w2 v.ownBlock) : St w bx w2 v2 (xs ++ ys) :=
  ⟨ho, h.bel.grown hg h.bel.size (fun k hk => (h.own.lt k hk).1), fun p hp => ⟨blk_grown h.own hg (h.box p hp).1 (h.box p hp).2, (h.box p hp).2⟩⟩
theorem St.alloc {w : World} {bx : List Box} {wc : World} {v : Value} {xs : List Nat} (h : St w bx wc v xs) (C : Array Value) (t : TypeId) (ht : t ≠ 5) : St w ((wc.heap.size, C, t) :: bx) (wc.alloc (.cells C t)) v xs := by
  have h1 := h.call (below_alloc wc (.cells C t))
  refine ⟨h1.own, h1.bel, fun p hp => ?_⟩
  rcases List.mem_cons.1 hp with rfl | hp
  · exact ⟨heap_alloc_new wc _, ht⟩
  · exact h1.box p hp
theorem St.drop {w : World} {b : Box} {bx : List Box} {wc : World} {v : Value} {xs : List Nat} (h : St w (b :: bx) wc v xs) : St w bx wc v xs := ⟨h.own, h.bel, fun p hp => h.box p (by simp [hp])⟩
theorem St.eq {w : World} {bx : List Box} {wc : World} {v : Value} {xs ys : List Nat} (h : St w bx wc v xs) (e : xs = ys) : St w bx wc v ys := e ▸ h
theorem St.cell {w : World} {bx : List Box} {wc : World} {v : Value} {xs : List Nat} (h : St w bx wc v xs) {B : Nat} {C : Array Value} {t : TypeId} (hm : (B, C, t) ∈ bx) (i : Nat) : wc.cell? ⟨B, i, none⟩ = C[i]? := cell_of_row wc B i C t (0, 0) (h.box _ hm).1
theorem St.size {w : World} {bx : List Box} {wc : World} {v : Value} {xs : List Nat} (h : St w bx wc v xs) : w.heap.size ≤ wc.heap.size := h.bel.size
theorem own_in {w : World} {base : Nat} {p : Option Addr} {m c : Nat} {xs : List Nat} (h : w.ownsRow base 5 1 (.slice p m c) xs.length (Bs xs)) (hx : ∀ c ∈ xs, c < 256) : BIn w p xs := (own_bin h hx).1
theorem flat_le {α : Type} {l : List α} {f : α → List Nat} {c : Nat} (h : ∀ x ∈ l, (f x).length ≤ c) : (l.flatMap f).length ≤ l.length * c := by
  induction l with
  | nil => simp
  | cons x l ih =>
    have h1 := h x (by simp)
    have h2 := ih (fun y hy => h y (by simp [hy]))
    rw [List.flatMap_cons, List.length_append, List.length_cons, Nat.succ_mul]
    omega
theorem textN_bytes (s : ByteArray) : ∀ c ∈ textN s, c < 256 := by
  intro c hc
  unfold textN at hc
  rcases List.mem_append.1 hc with h | h
  · exact smallN_bytes _ c h
  · exact numsOf_lt s c h
theorem textN_len (s : ByteArray) (h : s.size ≤ 100000) : (textN s).length ≤ 100010 := by
  have := smallN_ten s.size (by omega)
  unfold textN; rw [List.length_append, numsOf_len]; omega
theorem piece_len (p : Int × Int) (h : wf64 p.1 ∧ wf64 p.2) : (pieceN p).length ≤ 20 := by
  have h1 := smallN_ten p.1.toNat (by have := h.1; unfold wf64 at this; omega)
  have h2 := smallN_ten p.2.toNat (by have := h.2; unfold wf64 at this; omega)
  unfold pieceN; rw [List.length_append]; omega
/-- Files whose bytes can be told. -/
structure Told (l : List FileV) : Prop where
  many : l.length ≤ 32
  name : ∀ f ∈ l, f.name.size ≤ 32
  size : ∀ f ∈ l, 0 ≤ f.size ∧ f.size ≤ 524288
  pcs : ∀ f ∈ l, f.pcs.length ≤ 4096
  piece : ∀ f ∈ l, ∀ p ∈ f.pcs, (0 ≤ p.1 ∧ p.1 ≤ 4096) ∧ (0 ≤ p.2 ∧ p.2 ≤ 4096)
theorem May.told {lt : ByteArray → ByteArray → Prop} {x : DirV} (h : May lt x) : Told x.files := by
  obtain ⟨_, hl, hg⟩ := errK_zero h.pcs
  refine ⟨h.many, fun f hf => ?_, fun f hf => ⟨(h.each f hf).2.1, (h.each f hf).2.2.1⟩, fun f hf => by have := len_allPcs hf; omega, fun f hf p hp => ?_⟩
  · have := (h.each f hf).1
    unfold isNameN at this
    simp only [Bool.and_eq_true, decide_eq_true_eq] at this
    omega
  · have := hg.wn p (mem_allPcs hf hp)
    unfold Wn at this
    omega
theorem file_len {l : List FileV} (h : Told l) {f : FileV} (hf : f ∈ l) : (fileN f).length ≤ 200000 := by
  have h1 := textN_len f.name (by have := h.name f hf; omega)
  have h2 := smallN_ten f.size.toNat (by have := h.size f hf; omega)
  have h3 := smallN_ten f.pcs.length (by have := h.pcs f hf; omega)
  have h4 := flat_le (l := f.pcs) (f := pieceN) (c := 20) (fun p hp => piece_len p (by have := h.piece f hf p hp; unfold wf64; omega))
  have h5 := h.pcs f hf
  unfold fileN
  simp only [List.length_append]
  omega
theorem pcs_take_len {l : List FileV} (h : Told l) {f : FileV} (hf : f ∈ l) (j : Nat) : ((f.pcs.take j).flatMap pieceN).length ≤ 81920 := by
  have h4 := flat_le (l := f.pcs.take j) (f := pieceN) (c := 20) (fun p hp => piece_len p (by have := h.piece f hf p (List.mem_of_mem_take hp); unfold wf64; omega))
  have h5 := h.pcs f hf
  have : (f.pcs.take j).length ≤ f.pcs.length := by simp; omega
  omega
theorem files_take_len {l : List FileV} (h : Told l) (k : Nat) : ((l.take k).flatMap fileN).length ≤ 6400000 := by
  have h4 := flat_le (l := l.take k) (f := fileN) (c := 200000) (fun f hf => file_len h (List.mem_of_mem_take hf))
  have h5 := h.many
  have : (l.take k).length ≤ l.length := by simp; omega
  omega
theorem files_flat {l : List FileV} {k : Nat} (h : k < l.length) : (l.take (k + 1)).flatMap fileN = (l.take k).flatMap fileN ++ fileN (l.getD k zeroF) := by
  rw [files_snoc h, List.flatMap_append]; simp
theorem pcs_flat {l : Pcs} {k : Nat} (h : k < l.length) : (l.take (k + 1)).flatMap pieceN = (l.take k).flatMap pieceN ++ pieceN (l.getD k (0, 0)) := by
  rw [take_snoc (d := (0, 0)) h, List.flatMap_append]; simp
end Go.Proofs.YtefmkkfankpgmaaGreatDoor
namespace Go.Proofs.YtefmkkfankpgmaaGreatDoor
open Go.Shelf
def laysItoa_ren : Go.Shelf.Ren := ⟨fun | 171 => 139 | 243 => 168 | 246 => 189 | 283 => 197 | 284 => 198 | 285 => 199 | 286 => 200 | 129 => 182 | 317 => 210 | 318 => 211 | 319 => 212 | 320 => 213 | 337 => 217 | 338 => 218 | n => n, fun | 3 => 3 | 9 => 9 | 2 => 2 | 4 => 4 | 171 => 274 | 0 => 0 | 53 => 116 | 37 => 22 | 5 => 5 | 173 => 276 | 212 => 286 | 51 => 261 | 20 => 20 | 213 => 287 | 46 => 241 | 232 => 291 | 233 => 292 | n => n, fun | 17 => 2 | 18 => 3 | 19 => 4 | n => n⟩
theorem laysItoa : Go.Proofs.LaysM.n171 Tryz.prog laysItoa_ren := {
  mixed := by kernel_rfl
  f129 := Tryz.func182.trans (congrArg some (by kernel_rfl))
  f171 := Tryz.func139.trans (congrArg some (by kernel_rfl))
  f243 := Tryz.func168.trans (congrArg some (by kernel_rfl))
  f246 := Tryz.func189.trans (congrArg some (by kernel_rfl))
  f283 := Tryz.func197.trans (congrArg some (by kernel_rfl))
  f284 := Tryz.func198.trans (congrArg some (by kernel_rfl))
  f285 := Tryz.func199.trans (congrArg some (by kernel_rfl))
  f286 := Tryz.func200.trans (congrArg some (by kernel_rfl))
  f317 := Tryz.func210.trans (congrArg some (by kernel_rfl))
  f318 := Tryz.func211.trans (congrArg some (by kernel_rfl))
  f319 := Tryz.func212.trans (congrArg some (by kernel_rfl))
  f320 := Tryz.func213.trans (congrArg some (by kernel_rfl))
  f337 := Tryz.func217.trans (congrArg some (by kernel_rfl))
  f338 := Tryz.func218.trans (congrArg some (by kernel_rfl))
  t0 := Tryz.underlying0
  a0 := Tryz.isAgg0
  z0 := Tryz.sizeOf0
  v0 := Tryz.zeroValue0
  t2 := Tryz.underlying2
  a2 := Tryz.isAgg2
  z2 := Tryz.sizeOf2
  v2 := Tryz.zeroValue2
  t3 := Tryz.underlying3
  a3 := Tryz.isAgg3
  z3 := Tryz.sizeOf3
  v3 := Tryz.zeroValue3
  t4 := Tryz.underlying4
  a4 := Tryz.isAgg4
  z4 := Tryz.sizeOf4
  v4 := Tryz.zeroValue4
  t5 := Tryz.underlying5
  a5 := Tryz.isAgg5
  z5 := Tryz.sizeOf5
  v5 := Tryz.zeroValue5
  t9 := Tryz.underlying9
  a9 := Tryz.isAgg9
  z9 := Tryz.sizeOf9
  v9 := Tryz.zeroValue9
  t20 := Tryz.underlying20
  a20 := Tryz.isAgg20
  z20 := Tryz.sizeOf20
  v20 := Tryz.zeroValue20
  t37 := Tryz.underlying22
  a37 := Tryz.isAgg22
  z37 := Tryz.sizeOf22
  v37 := Tryz.zeroValue22
  t46 := Tryz.underlying241
  a46 := Tryz.isAgg241
  z46 := Tryz.sizeOf241
  v46 := Tryz.zeroValue241
  t51 := Tryz.underlying261
  a51 := Tryz.isAgg261
  z51 := Tryz.sizeOf261
  v51 := Tryz.zeroValue261
  t53 := Tryz.underlying116
  a53 := Tryz.isAgg116
  z53 := Tryz.sizeOf116
  v53 := Tryz.zeroValue116
  t171 := Tryz.underlying274
  a171 := Tryz.isAgg274
  z171 := Tryz.sizeOf274
  v171 := Tryz.zeroValue274
  t173 := Tryz.underlying276
  a173 := Tryz.isAgg276
  z173 := Tryz.sizeOf276
  v173 := Tryz.zeroValue276
  t212 := Tryz.underlying286
  a212 := Tryz.isAgg286
  z212 := Tryz.sizeOf286
  v212 := Tryz.zeroValue286
  t213 := Tryz.underlying287
  a213 := Tryz.isAgg287
  z213 := Tryz.sizeOf287
  t232 := Tryz.underlying291
  a232 := Tryz.isAgg291
  z232 := Tryz.sizeOf291
  v232 := Tryz.zeroValue291
  t233 := Tryz.underlying292
  a233 := Tryz.isAgg292
  z233 := Tryz.sizeOf292
  v233 := Tryz.zeroValue292
  g17 := by kernel_rfl
  g18 := by kernel_rfl
  g19 := by kernel_rfl
  i0 := by kernel_rfl
  i2 := by kernel_rfl
  i3 := by kernel_rfl
  i4 := by kernel_rfl
  i5 := by kernel_rfl
  i9 := by kernel_rfl
  i20 := by kernel_rfl
  i37 := by kernel_rfl
  i46 := by kernel_rfl
  i51 := by kernel_rfl
  i53 := by kernel_rfl
  i171 := by kernel_rfl
  i173 := by kernel_rfl
  i212 := by kernel_rfl
  i232 := by kernel_rfl
  i233 := by kernel_rfl
  m17 := by kernel_rfl
  m18 := by kernel_rfl
  m19 := by kernel_rfl }
end Go.Proofs.YtefmkkfankpgmaaGreatDoor
namespace Go.Proofs.YtefmkkfankpgmaaGreatDoor
open Go.RowKit Go.WideShapes Go.Shelf Rm

/-- The program's variables that are read hold what the text lays. -/
structure Laid (w : World) : Prop where
  err : ErrT w
  tab : Lib.TabIs Tryz.prog w "internal/strconv.uint64pow10" .u64 Lib.pow10Tab
theorem g_pow : Tryz.prog.globalNamed "internal/strconv.uint64pow10" = some 2 := by kernel_rfl
theorem Laid.below {w w' : World} (h : Laid w) (hb : Below w.heap.size w w') : Laid w' := by
  refine ⟨h.err.below hb, ?_⟩
  have ht := h.tab
  unfold Lib.TabIs World.var? at ht ⊢
  rw [g_pow] at ht ⊢
  simp only [Option.bind_some] at ht ⊢
  have h2 : 2 < w.heap.size := by
    rcases Nat.lt_or_ge 2 w.heap.size with h | h
    · exact h
    · rw [Array.getElem?_eq_none h] at ht; cases ht
  rw [hb.block 2 h2]
  exact ht
theorem grow_below (w : World) (k : Nat) (os : Array Obj) : Below w.heap.size w (Sort.grow (w.drewN k) os) := by
  refine ⟨rfl, rfl, rfl, ?_, fun i hi => ?_⟩
  · show w.heap.size ≤ (w.heap ++ os).size
    simp
  · show (w.heap ++ os)[i]? = _
    rw [Array.getElem?_append_left hi]
theorem itoa_any (n : Nat) (hn : n < 9223372036854775808) (w : World) (hL : Laid w) :
    Calls Tryz.prog 139 #[.int .i64 n] w fun e w' => ∃ s, e = .returned (.string s) ∧ Below w.heap.size w w' := by
  refine (Any.strconv_Itoa laysItoa n (by omega) (by omega) w hL.tab).mono ?_
  rintro e w' ⟨rfl, k, os, rfl⟩
  exact ⟨_, rfl, grow_below _ _ _⟩
theorem digits_small : ∀ i, i < 100 → (Lib.decDigits i).length ≤ 2 := by decide +kernel
theorem itoa_small (n : Nat) (hn : n < 100) (w : World) :
    Calls Tryz.prog 139 #[.int .i64 n] w fun e w' => ∃ s : ByteArray, e = .returned (.string s) ∧ s.size ≤ 2 ∧ w' = w := by
  refine (Any.strconv_Itoa_small { laysItoa with } n hn w).mono ?_
  rintro e w' ⟨rfl, rfl⟩
  exact ⟨_, rfl, by have := digits_small n hn; show (Lib.decDigits n).toArray.size ≤ 2; simpa using this, rfl⟩
end Go.Proofs.YtefmkkfankpgmaaGreatDoor
namespace Go.Proofs.YtefmkkfankpgmaaGreatDoor
open Go.RowKit Go.WideShapes Rm

/-- The order of texts, byte by byte. -/
def ltS (a b : ByteArray) : Prop := Op.bytesLess a.toList b.toList = true
theorem FileIn.of {w : World} {b o k : Nat} {l : List FileV} {q : Option Addr} (h : FilesIn w q l) (hwf : ∀ f ∈ l, wf64 f.size) (hq : q = some ⟨b, o, none⟩) (hk : k < l.length) : ∃ pv, w.cell? ⟨b, o + k * 3, none⟩ = some (.string (l.getD k zeroF).name) ∧ w.cell? ⟨b, o + k * 3 + 1, none⟩ = some (.int .i64 (l.getD k zeroF).size) ∧ w.cell? ⟨b, o + k * 3 + 2, none⟩ = some pv ∧ FileIn w (.agg #[.string (l.getD k zeroF).name, .int .i64 (l.getD k zeroF).size, pv]) (l.getD k zeroF) := by
  subst hq
  obtain ⟨e0, e1, v, e2, hv⟩ := h.at hk
  exact ⟨v, e0, e1, e2, ⟨v, rfl, hv⟩, hwf _ (getD_mem' hk)⟩
theorem str_geq (a b : ByteArray) (w : World) : (binOp .geq 9 (.string a) (.string b)).run Tryz.prog w = .ok (.bool (!Op.bytesLess a.toList b.toList)) w := by simp [binOp, Op.stringOp]
theorem below_drewN {B : Nat} {a w : World} (h : Below B a w) (n : Nat) : Below B a (w.drewN n) := ⟨h.os, h.tape, h.output, h.size, h.block⟩
theorem FIn.wfp {w : World} {v : Value} {l : List FileV} (h : FIn w v l) : Wf (allPcs l) := by
  obtain ⟨q, c, _, hq, _⟩ := h.lies
  intro y hy
  obtain ⟨f, hf, hp⟩ := List.mem_flatMap.1 hy
  obtain ⟨i, hi, rfl⟩ := List.getElem_of_mem hf
  obtain ⟨b, o, _, hc⟩ := hq (by omega)
  obtain ⟨_, _, pv, _, hv⟩ := hc i hi
  rw [getD_eq hi] at hv
  exact hv.wf y hp
theorem each_of {l : List FileV} (h : ∀ j, j < l.length → FileOk (l.getD j zeroF)) : ∀ f ∈ l, FileOk f := by
  intro f hf
  obtain ⟨i, hi, rfl⟩ := List.getElem_of_mem hf
  have := h i hi
  rwa [getD_eq hi] at this
theorem ok_step {l : List FileV} {k : Nat} (h : ∀ j, j < k → FileOk (l.getD j zeroF)) (h1 : FileOk (l.getD k zeroF)) : ∀ j, j < k + 1 → FileOk (l.getD j zeroF) := by
  intro j hj
  rcases Nat.lt_or_ge j k with h' | h'
  · exact h j h'
  · obtain rfl : j = k := by omega
    exact h1
theorem Rises.of {l : List FileV} (h : ∀ j, j + 1 < l.length → ltS (l.getD j zeroF).name (l.getD (j + 1) zeroF).name) : Rises ltS l := h
theorem rise_step {l : List FileV} {k : Nat} (h : ∀ j, j + 1 < k + 1 → ltS (l.getD j zeroF).name (l.getD (j + 1) zeroF).name) (h1 : ltS (l.getD k zeroF).name (l.getD (k + 1) zeroF).name) : ∀ j, j + 1 < k + 1 + 1 → ltS (l.getD j zeroF).name (l.getD (j + 1) zeroF).name := by
  intro j hj
  rcases Nat.lt_or_ge j k with h' | h'
  · exact h j (by omega)
  · obtain rfl : j = k := by omega
    exact h1

set_option maxRecDepth 4000 in
set_option maxHeartbeats 2000000 in
theorem check4_any (v : Value) (x : DirV) (w : World) (hx : DirIn w v x) (hs : ∀ f ∈ x.files, (f.name.size : Int) ≤ 9223372036854775807) (hsum : (allPcs x.files).length ≤ 1000000) :
    Calls Tryz.prog 104 #[v] w fun e w' => ∃ r, e = .returned r ∧ NilOr8 (May ltS x) r ∧ Below w.heap.size w w' := by
  obtain ⟨fv, rfl, hf⟩ := hx.lies
  obtain ⟨gen, l⟩ := x
  have hgw := hx.wf
  unfold wf64 at hgw
  have HF : Hid (FIn w fv l) := hf
  obtain ⟨q, c, rfl, hq, hlc, hcm, hqn⟩ := hf.lies
  have hwf := hf.wf
  unfold maxLen at hcm
  simp only at hs hsum hlc hgw ⊢
  have HQ : Hid (FilesIn w q l) := hq
  have HWF : Hid (∀ f ∈ l, wf64 f.size) := hwf
  have HSZ : Hid (∀ f ∈ l, (f.name.size : Int) ≤ 9223372036854775807) := hs
  clear hq hqn hf hx hwf hs
  by_cases h1 : 1 ≤ gen ∧ gen < 4611686018427387904
  · by_cases h2 : l.length ≤ 32
    · go_enter Tryz.func104, Tryz.ntmps104
      go_wp2
      go_loopw [29] (fun i wr => ∃ k : Nat, k ≤ l.length ∧ i = .int .i64 k ∧ (∀ j, j + 1 < k → ltS (l.getD j zeroF).name (l.getD (j + 1) zeroF).name) ∧ Below (w.heap.size + 1) (w.alloc (.cells #[.int .i64 gen, .slice q l.length c] 31)) wr) (fun i _ => l.length - (intOf i).toNat)
      case atStart => exact ⟨0, by omega, rfl, fun j hj => absurd hj (by omega), Below.refl _ _⟩
      case round =>
        obtain ⟨k, hk, rfl, hrise, hbel⟩ := hrel
        have HR : Hid (∀ j, j + 1 < k → ltS (l.getD j zeroF).name (l.getD (j + 1) zeroF).name) := hrise
        clear hrise
        have hsz := hbel.size
        simp at hsz
        have hbw : Below w.heap.size w wr := box_below hbel
        have HBW : Hid (Below w.heap.size w wr) := hbw
        obtain ⟨d0, d1⟩ := box2 hbel
        by_cases hkl : k < l.length
        · obtain ⟨b, o, rfl⟩ := HQ.out.addr (by omega)
          obtain ⟨e0, e1, pv, e2, hp⟩ := (HQ.out.below hbw).at hkl
          obtain ⟨qp, cp, rfl, _⟩ := hp.lies
          rcases k with _ | k
          · clear HR
            clear hp
            generalize l.getD 0 zeroF = y at *
            obtain ⟨nm, sz, pl⟩ := y
            simp only [Nat.zero_mul, Nat.add_zero] at e0 e1 e2
            go_wp2
            go_quiet (fail)
            go_wp2
            go_roundw
            case rel => exact ⟨1, by omega, by go_num, fun j hj => absurd hj (by omega), below_drewN (hbel.alloc (by omega) _) _⟩
            case measure => simp [intOf]; omega
          · obtain ⟨p0, _⟩ := (HQ.out.below hbw).at (k := k) (by omega)
            have HST : Hid (ltS (l.getD k zeroF).name (l.getD (k + 1) zeroF).name → ∀ j, j + 1 < k + 1 + 1 → ltS (l.getD j zeroF).name (l.getD (j + 1) zeroF).name) := rise_step HR.out
            have HNO : Hid (¬ ltS (l.getD k zeroF).name (l.getD (k + 1) zeroF).name → ¬ May ltS ⟨gen, l⟩) := fun h hm => h (hm.rise k hkl)
            clear HR
            clear hp
            generalize l.getD (k + 1) zeroF = y at *
            generalize l.getD k zeroF = z at *
            obtain ⟨nm, sz, pl⟩ := y
            obtain ⟨nm0, sz0, pl0⟩ := z
            simp only at e0 e1 e2 p0
            have d1' : (wr.alloc (.cells #[.string nm, .int .i64 sz, .slice qp pl.length cp] 51)).cell? ⟨w.heap.size, 1, none⟩ = some (.slice (some ⟨b, o, none⟩) l.length c) := by rw [World.cell?_alloc_lt _ _ _ (by simp; omega)]; exact d1
            have p0' : (wr.alloc (.cells #[.string nm, .int .i64 sz, .slice qp pl.length cp] 51)).cell? ⟨b, o + k * 3, none⟩ = some (.string nm0) := by rw [World.cell?_alloc_lt _ _ _ (World.block_lt_of_cell? _ _ p0)]; exact p0
            have hgeq := str_geq
            by_cases g : ltS nm0 nm
            · have H2 : Hid _ := HST.out g
              unfold ltS at g
              clear HST HNO
              go_wp2
              go_quiet (fail)
              go_wp2
              go_roundw
              case rel => exact ⟨k + 1 + 1, by omega, by go_num, H2.out, below_drewN (hbel.alloc (by omega) _) _⟩
              case measure => simp [intOf]; omega
            · have H2 : Hid (¬ May ltS ⟨gen, l⟩) := HNO.out g
              unfold ltS at g
              simp only [Bool.not_eq_true] at g
              clear HST HNO
              go_wp2
              go_quiet (fail)
              go_wp2
              go_ret
              exact ⟨_, rfl, .inr ⟨H2.out, Faults.one _ _⟩, below_drewN (HBW.out.alloc HBW.out.size _) _⟩
        · obtain rfl : k = l.length := by omega
          have HRI : Hid (Rises ltS l) := HR.out
          have hpc := pieces_any _ l wr (HF.out.below hbw) hsum
          have HWP : Hid (Wf (allPcs l)) := HF.out.wfp
          have HBE : Hid _ := hbel
          clear HR hbel hbw
          go_wp2_with fail
          refine hpc.mono ?_
          rintro e w1 ⟨r1, rfl, ho1, hb1⟩
          have hck := Rm.check_any 4096 r1 (allPcs l) w1 (ho1.pin HWP.out)
          clear ho1
          have hsz1 := hb1.size
          go_wp2_with fail
          refine hck.mono ?_
          rintro e w2 ⟨rfl, hb2⟩
          have hsz2 := hb2.size
          have hbel2 : Below (w.heap.size + 1) (w.alloc (.cells #[.int .i64 gen, .slice q l.length c] 31)) w2 := (HBE.out.trans (hb1.mono hsz)).trans (hb2.mono (by omega))
          obtain ⟨d0, d1⟩ := box2 hbel2
          have HB2 : Hid (Below w.heap.size w w2) := box_below hbel2
          clear hpc hck hb1 hb2 HBE HBW
          by_cases h3 : errK 4096 (allPcs l) = 0
          · have HK : Hid (errK 4096 (allPcs l) = 0) := h3
            rw [h3]
            clear h3
            go_wp2
            go_loopw [63] (fun i wr => ∃ k : Nat, k ≤ l.length ∧ i = .int .i64 k ∧ (∀ j, j < k → FileOk (l.getD j zeroF)) ∧ Below (w.heap.size + 1) (w.alloc (.cells #[.int .i64 gen, .slice q l.length c] 31)) wr) (fun i _ => l.length - (intOf i).toNat)
            case atStart => exact ⟨0, by omega, rfl, fun j hj => absurd hj (by omega), hbel2⟩
            case round =>
              clear hbel2 d0 d1 HB2 hsz hsz1 hsz2
              obtain ⟨k, hk, rfl, hok, hbel⟩ := hrel
              have HOK : Hid (∀ j, j < k → FileOk (l.getD j zeroF)) := hok
              clear hok
              have hsz := hbel.size
              simp at hsz
              have hbw : Below w.heap.size w wr := box_below hbel
              have HBW : Hid (Below w.heap.size w wr) := hbw
              by_cases hkl : k < l.length
              · obtain ⟨b, o, rfl⟩ := HQ.out.addr (by omega)
                obtain ⟨e0, e1, pv, e2, hp⟩ := (HQ.out.below hbw).at hkl
                have hfin : FileIn wr (.agg #[.string (l.getD k zeroF).name, .int .i64 (l.getD k zeroF).size, pv]) (l.getD k zeroF) := ⟨⟨pv, rfl, hp⟩, HWF.out _ (getD_mem' hkl)⟩
                have hgood := (errK_zero HK.out).2.2
                have hcf := checkFile_any _ (l.getD k zeroF) _ (hfin.below (below_alloc wr (.cells #[.string (l.getD k zeroF).name, .int .i64 (l.getD k zeroF).size, pv] 51))) (HSZ.out _ (getD_mem' hkl))
                  (fun p hp => by have := hgood.wn p (mem_allPcs (getD_mem' hkl) hp); unfold Wn at this; omega) (by have := len_allPcs (getD_mem' (d := zeroF) hkl); omega)
                have HST : Hid (FileOk (l.getD k zeroF) → ∀ j, j < k + 1 → FileOk (l.getD j zeroF)) := ok_step HOK.out
                have HNO : Hid (¬ FileOk (l.getD k zeroF) → ¬ May ltS ⟨gen, l⟩) := fun h hm => h (hm.each _ (getD_mem' hkl))
                obtain ⟨qp, cp, rfl, _⟩ := hp.lies
                clear HOK hbw hgood hfin hp
                generalize l.getD k zeroF = y at *
                obtain ⟨nm, sz, pl⟩ := y
                simp only at e0 e1 e2 hcf
                go_wp2_with fail
                refine hcf.mono ?_
                rintro e w3 ⟨r, rfl, hr, hb3⟩
                have hsz3 := hb3.size
                simp at hsz3
                have HB3 : Hid (Below wr.heap.size wr w3) := (below_alloc wr _).trans (hb3.mono (by simp))
                clear hcf hb3
                rcases hr with ⟨hok, rfl⟩ | ⟨hno, hfl⟩
                · have H3 : Hid _ := HST.out hok
                  clear HST HNO
                  go_wp2
                  go_roundw
                  case rel => exact ⟨k + 1, by omega, by go_num, H3.out, hbel.trans (HB3.out.mono hsz)⟩
                  case measure => simp [intOf]; omega
                · have H3 : Hid (¬ May ltS ⟨gen, l⟩) := HNO.out hno
                  have HFL : Hid (Faults r 8) := hfl
                  obtain ⟨tx, vx, rfl⟩ := hfl.iface
                  clear HST HNO hfl hno
                  go_wp2_with (go_at_call 139; refine (itoa_small k (by omega) _).mono ?_; rintro e w4 ⟨st, rfl, hst, rfl⟩)
                  go_ret
                  exact ⟨_, rfl, .inr ⟨H3.out, .more _ HFL.out⟩, HBW.out.trans (HB3.out.mono HBW.out.size)⟩
              · obtain rfl : k = l.length := by omega
                have HM : Hid (May ltS ⟨gen, l⟩) := ⟨h1.1, h1.2, h2, HRI.out, HK.out, each_of HOK.out⟩
                clear HOK
                go_wp2
                go_ret
                exact ⟨_, rfl, .inl ⟨HM.out, rfl⟩, HBW.out⟩
          · have hne : (errK 4096 (allPcs l) != 0) = true := by simpa using h3
            have H3 : Hid (¬ May ltS ⟨gen, l⟩) := fun h => h3 h.pcs
            generalize errK 4096 (allPcs l) = E at *
            clear h3
            go_wp2
            go_ret
            exact ⟨_, rfl, .inr ⟨H3.out, Faults.one _ _⟩, HB2.out⟩
    · go_enter Tryz.func104, Tryz.ntmps104
      go_wp2
      go_ret
      exact ⟨_, rfl, .inr ⟨fun h => h2 h.many, Faults.one _ _⟩, below_alloc _ _⟩
  · go_enter Tryz.func104, Tryz.ntmps104
    go_wp2
    all_goals
      go_ret
      exact ⟨_, rfl, .inr ⟨fun h => h1 ⟨h.lo, h.hi⟩, Faults.one _ _⟩, below_alloc _ _⟩
end Go.Proofs.YtefmkkfankpgmaaGreatDoor
namespace Go.Proofs.YtefmkkfankpgmaaGreatDoor
open Go.RowKit Go.WideShapes


set_option maxHeartbeats 400000 in
set_option maxRecDepth 100000 in
theorem refSmall_any (n : Nat) (w : World) (hn : n < 18446744073709551616) :
    Calls Tryz.prog 106 #[.int .u64 n] w fun e w' => ∃ v, e = .returned v ∧ w'.ownsRow w.heap.size 5 1 v (smallN n).length (Bs (smallN n)) ∧ Below w.heap.size w w' := by
  obtain ⟨i0, hi, hz0, hz1, hz2⟩ := info_parts info5
  have hten := smallN_ten n hn
  go_enter Tryz.func106, Tryz.ntmps106
  go_wp2
  go_loopw [0, 3] (fun t v wr => ∃ m : Nat, ∃ xs : List Nat, m < 18446744073709551616 ∧ t = .int .u64 m ∧ smallN n = xs ++ smallN m ∧ wr.ownsRow w.heap.size 5 1 v xs.length (Bs xs) ∧ Below w.heap.size w wr)
    (fun t _ _ => (intOf t).toNat)
  case atStart => exact ⟨n, [], hn, rfl, rfl, World.ownsRow_nil _ _ _ _, Below.refl _ _⟩
  case round =>
    obtain ⟨m, xs, hm, rfl, hsm, hown, hnx⟩ := hrel
    have HS : Hid _ := hsm
    clear hsm
    have hpos := smallN_pos m
    have hxl : xs.length + (smallN m).length ≤ 10 := by rw [HS.out] at hten; simpa using hten
    have hsz := hnx.size
    by_cases hlt : m < 128
    · go_wp2_with (at_builtin; refine wpList_append_own _ rfl _ _ 22 rfl w.heap.size 5 i0 (.int .u8 0) 1 1 Tryz.underlying22 hi hz0 hz1 hz2 rfl (by decide) _ _ _ rfl (hown.alloc _) ⟨wr.heap.size, 0, none⟩ 1 1 [.int .u8 (m : Int)] rfl rfl (cell_one_new _ _ _) ?c2 ?c3 ?c4 ?c5 ?_)
      case c2 => intro u hu; simp at hu; subst hu; rfl
      case c3 => unfold maxLen; omega
      case c4 => omega
      case c5 => simp; omega
      intro v' w1 hown' hgrow _
      have R := rel_push rfl hown hnx hsz hown' hgrow
      have e : smallN n = xs ++ [m] := by rw [HS.out, smallN_lo hlt]
      rw [← e] at R
      clear hown' hgrow hown e
      go_wp2
      go_ret
      exact ⟨v', rfl, R.1, R.2⟩
    · go_wp2_with (at_builtin; refine wpList_append_own _ rfl _ _ 22 rfl w.heap.size 5 i0 (.int .u8 0) 1 1 Tryz.underlying22 hi hz0 hz1 hz2 rfl (by decide) _ _ _ rfl (hown.alloc _) ⟨wr.heap.size, 0, none⟩ 1 1 [.int .u8 ((m : Int) % 128 + 128)] rfl rfl (cell_one_new _ _ _) ?d2 ?d3 ?d4 ?d5 ?_)
      case d2 => intro u hu; simp at hu; subst hu; rfl
      case d3 => unfold maxLen; omega
      case d4 => omega
      case d5 => simp; omega
      intro v' w1 hown' hgrow _
      have R := rel_push (c := m % 128 + 128) (by omega) hown hnx hsz hown' hgrow
      have e : Hid (smallN n = (xs ++ [m % 128 + 128]) ++ smallN (m / 128)) := by show _ = _; rw [HS.out, smallN_hi hlt]; simp
      clear hown' hgrow hown
      go_wp2
      go_roundw
      case rel => exact ⟨m / 128, xs ++ [m % 128 + 128], by omega, by go_num, e.out, R.1, R.2⟩
      case measure => simp [intOf]; omega

set_option maxHeartbeats 400000 in
theorem refText_any (s : ByteArray) (w : World) (hs : s.size ≤ 100000) :
    Calls Tryz.prog 59 #[.string s] w fun e w' => ∃ v, e = .returned v ∧ w'.ownsRow w.heap.size 5 1 v (textN s).length (Bs (textN s)) ∧ Below w.heap.size w w' := by
  obtain ⟨i0, hi, hz0, hz1, hz2⟩ := info_parts info5
  have hten := smallN_ten s.size (by omega)
  go_enter Tryz.func59, Tryz.ntmps59
  go_wp2_with fail
  refine (refSmall_any s.size w (by omega)).mono ?_
  rintro e w1 ⟨v, rfl, hown, hb⟩
  have hsz := hb.size
  go_wp2_with (at_builtin; refine Lib.wpList_append_own_string _ rfl _ _ 22 9 rfl w.heap.size 5 i0 Tryz.underlying22 Tryz.underlying9 hi hz0 hz1 hz2 _ _ _ rfl hown s rfl ?c3 ?c4 hsz ?_)
  case c3 => unfold maxLen; omega
  case c4 => omega
  intro v' w2 hown' hgrow _
  have R : w2.ownsRow w.heap.size 5 1 v' (textN s).length (Bs (textN s)) := by simpa [textN, numsOf_len, Bs_app, strCells_Bs] using hown'
  have hb2 := hb.grown hgrow hsz (fun k hk => (hown.lt k hk).1)
  clear hown' hgrow hown
  go_wp2
  go_ret
  exact ⟨v', rfl, R, hb2⟩

/-- The lowest k bytes of a number. -/
def putK : Nat → Nat → List Nat
  | 0, _ => []
  | k + 1, m => (m % 256) :: putK k (m / 256)
theorem putK_8 (n : Nat) (h : n < 18446744073709551616) : putK 8 n = putN n := by
  simp only [putK, putN, Nat.div_div_eq_div_mul, Nat.reduceMul]
  have : n / 72057594037927936 % 256 = n / 72057594037927936 := by omega
  rw [this]
theorem putK_step (k m : Nat) (h : k < 8) : putK (8 - k) m = (m % 256) :: putK (8 - (k + 1)) (m / 256) := by
  rw [show 8 - k = (8 - (k + 1)) + 1 from by omega]; rfl

set_option maxHeartbeats 400000 in
set_option maxRecDepth 100000 in
theorem refPut_any (n : Nat) (w : World) (hn : n < 18446744073709551616) :
    Calls Tryz.prog 60 #[.int .u64 n] w fun e w' => ∃ v, e = .returned v ∧ w'.ownsRow w.heap.size 5 1 v 8 (Bs (putN n)) ∧ Below w.heap.size w w' := by
  obtain ⟨i0, hi, hz0, hz1, hz2⟩ := info_parts info5
  have HP : Hid (putK 8 n = putN n) := putK_8 n hn
  go_enter Tryz.func60, Tryz.ntmps60
  go_wp2
  go_loopw [0, 3, 4] (fun t v i wr => ∃ k m : Nat, ∃ xs : List Nat, k ≤ 8 ∧ m < 18446744073709551616 ∧ t = .int .u64 m ∧ i = .int .i64 k ∧ xs.length = k ∧ putN n = xs ++ putK (8 - k) m ∧ wr.ownsRow w.heap.size 5 1 v xs.length (Bs xs) ∧ Below w.heap.size w wr)
    (fun _ _ i _ => 8 - (intOf i).toNat)
  case atStart => exact ⟨0, n, [], by omega, hn, rfl, rfl, rfl, HP.out.symm, World.ownsRow_nil _ _ _ _, Below.refl _ _⟩
  case round =>
    obtain ⟨k, m, xs, hk, hm, rfl, rfl, hxk, hsm, hown, hnx⟩ := hrel
    have HS : Hid _ := hsm
    have HX : Hid (xs.length = k) := hxk
    have hxl : xs.length ≤ 8 := by omega
    clear hsm hxk
    have hsz := hnx.size
    by_cases hlt : k < 8
    · have HK : Hid _ := putK_step k m hlt
      go_wp2_with (at_builtin; refine wpList_append_own _ rfl _ _ 22 rfl w.heap.size 5 i0 (.int .u8 0) 1 1 Tryz.underlying22 hi hz0 hz1 hz2 rfl (by decide) _ _ _ rfl (hown.alloc _) ⟨wr.heap.size, 0, none⟩ 1 1 [.int .u8 ((m : Int) % 256)] rfl rfl (cell_one_new _ _ _) ?d2 ?d3 ?d4 ?d5 ?_)
      case d2 => intro u hu; simp at hu; subst hu; rfl
      case d3 => unfold maxLen; omega
      case d4 => omega
      case d5 => simp; omega
      intro v' w1 hown' hgrow _
      have R := rel_push (c := m % 256) (by omega) hown hnx hsz hown' hgrow
      have e : Hid (putN n = (xs ++ [m % 256]) ++ putK (8 - (k + 1)) (m / 256)) := by show _ = _; rw [HS.out, HK.out]; simp
      clear hown' hgrow hown
      go_wp2
      go_roundw
      case rel => exact ⟨k + 1, m / 256, xs ++ [m % 256], by omega, by omega, by go_num, by go_num, by simp [HX.out], e.out, R.1, R.2⟩
      case measure => simp [intOf]; omega
    · have e : putN n = xs ∧ xs.length = 8 := by
        have h8 : k = 8 := by omega
        refine ⟨?_, by rw [HX.out, h8]⟩
        rw [HS.out, h8]; simp [putK]
      rw [e.2, ← e.1] at hown
      clear e
      have HO : Hid _ := hown
      clear hown
      go_wp2
      go_ret
      exact ⟨_, rfl, HO.out, hnx⟩

set_option maxHeartbeats 400000 in
theorem refGet_bad (p : Option Addr) (n c : Nat) (w : World) (hn : n ≠ 8) :
    Calls Tryz.prog 63 #[.slice p n c] w fun e w' => e = .returned (.tuple #[.int .u64 0, .int .i64 8]) ∧ w' = w := by
  go_enter Tryz.func63, Tryz.ntmps63
  go_wp2
  go_ret2
  exact ⟨rfl, rfl⟩
theorem ret_two {a b : Int} {k1 k2 : IntKind} {c : Int} (h : a = b) : Ending.returned (.tuple #[.int k1 a, .int k2 c]) = .returned (.tuple #[.int k1 b, .int k2 c]) := by rw [h]
set_option maxHeartbeats 1000000 in
theorem refGet_ok (p : Option Addr) (c : Nat) (a0 a1 a2 a3 a4 a5 a6 a7 : Nat) (w : World) (hb : BIn w p [a0, a1, a2, a3, a4, a5, a6, a7]) :
    Calls Tryz.prog 63 #[.slice p 8 c] w fun e w' => e = .returned (.tuple #[.int .u64 (joinN a0 a1 a2 a3 a4 a5 a6 a7 : Nat), .int .i64 0]) ∧ w' = w := by
  obtain ⟨b, o, rfl, hc⟩ := hb.1 (by simp)
  have c0 : w.cell? ⟨b, o, none⟩ = some (.int .u8 a0) := hc 0 (by simp)
  have c1 : w.cell? ⟨b, o + 1, none⟩ = some (.int .u8 a1) := hc 1 (by simp)
  have c2 : w.cell? ⟨b, o + 2, none⟩ = some (.int .u8 a2) := hc 2 (by simp)
  have c3 : w.cell? ⟨b, o + 3, none⟩ = some (.int .u8 a3) := hc 3 (by simp)
  have c4 : w.cell? ⟨b, o + 4, none⟩ = some (.int .u8 a4) := hc 4 (by simp)
  have c5 : w.cell? ⟨b, o + 5, none⟩ = some (.int .u8 a5) := hc 5 (by simp)
  have c6 : w.cell? ⟨b, o + 6, none⟩ = some (.int .u8 a6) := hc 6 (by simp)
  have c7 : w.cell? ⟨b, o + 7, none⟩ = some (.int .u8 a7) := hc 7 (by simp)
  have hl := hb.2
  simp only [List.mem_cons, List.not_mem_nil, or_false, forall_eq_or_imp, forall_eq] at hl
  obtain ⟨l0, l1, l2, l3, l4, l5, l6, l7⟩ := hl
  clear hb hc
  go_enter Tryz.func63, Tryz.ntmps63
  go_wp2
  refine wp_loop_rounds 9 ?_
  iterate 9 (rw [rounds_succ]; go_wp2)
  go_ret2
  refine ⟨ret_two ?_, rfl⟩
  unfold joinN; omega
end Go.Proofs.YtefmkkfankpgmaaGreatDoor
