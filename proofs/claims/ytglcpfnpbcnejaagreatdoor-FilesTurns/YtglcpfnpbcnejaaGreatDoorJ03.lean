/-
  More on pieces, with no program: what the calls answer; runs are told by their sectors.
-/
import Derived.Test.YtglcpfnpbcnejaaGreatDoorJ02
import Derived.Lib.SmallJoins
import Derived.OpenShut
import Derived.Laws.AppendOwnNone
import Derived.Lib.AppendStr
namespace Go.Proofs.YtglcpfnpbcnejaaGreatDoor
open Go.RowKit Go.WideShapes

theorem bin_lit (w : World) (g : Nat) (C : Array Value) (e : TypeId) (fr : Nat × Nat) (xs : List Nat) (hg : g = w.heap.size) (hC : C = (Bs xs).toArray) (hx : ∀ c ∈ xs, c < 256) : BIn (w.alloc (.cells C e fr)) (some ⟨g, 0, none⟩) xs := by
  subst hg hC
  refine ⟨fun _ => ⟨w.heap.size, 0, rfl, fun i hi => ?_⟩, hx⟩
  rw [cell_of_row (w.alloc (.cells (Bs xs).toArray e fr)) w.heap.size (0 + i) (Bs xs).toArray e fr (heap_alloc_new w _)]
  simp [Bs, List.getD, List.getElem?_eq_getElem hi]
theorem own_bin {w : World} {base : Nat} {p : Option Addr} {m c : Nat} {xs : List Nat} (h : w.ownsRow base 5 1 (.slice p m c) xs.length (Bs xs)) (hx : ∀ c ∈ xs, c < 256) : BIn w p xs ∧ m = xs.length := by
  rcases h.2 with ⟨hv, hn⟩ | ⟨g, cap, cur, hv, hb, hg, hle, hmax, hsz, htk⟩
  · simp at hv
    exact ⟨⟨fun h => by omega, hx⟩, by omega⟩
  · simp at hv
    obtain ⟨rfl, rfl, rfl⟩ := hv
    refine ⟨⟨fun _ => ⟨g, 0, rfl, fun i hi => ?_⟩, hx⟩, rfl⟩
    have := h.cells rfl i (.int .u8 (xs.getD i 0 : Nat)) (by simp [Bs, List.getD, List.getElem?_eq_getElem hi])
    rw [Go.WideShapes.add_plain] at this
    exact this

theorem own_at {w : World} {base : Nat} {p : Option Addr} {m c n : Nat} {xs : List Nat} (h : w.ownsRow base 5 1 (.slice p m c) n (Bs xs)) (hn : n = xs.length) (hx : ∀ c ∈ xs, c < 256) : BIn w p xs := by
  subst hn; exact (own_bin h hx).1

/-- What is owned stays owned behind a call that writes nothing old. -/
theorem own_below {w w' : World} {base size n : Nat} {e : TypeId} {v : Value} {xs : List Value} (h : w.ownsRow base e size v n xs) (hb : Below w.heap.size w w') : w'.ownsRow base e size v n xs :=
  h.kept (row := none) ⟨hb.os, hb.tape, hb.output, hb.size, fun k hk _ => hb.block k hk⟩ (by cases v.ownBlock <;> simp)
end Go.Proofs.YtglcpfnpbcnejaaGreatDoor
namespace Go.Proofs.YtglcpfnpbcnejaaGreatDoor
open Go.RowKit Go.WideShapes

theorem bin_cells {w : World} {b o : Nat} {ys : List Nat} (h : BIn w (some ⟨b, o, none⟩) ys) : ∀ j u, (Bs ys)[j]? = some u → w.cell? ((⟨b, o, none⟩ : Addr).add j) = some u := by
  intro j u hu
  have hj : j < ys.length := by
    rcases Nat.lt_or_ge j ys.length with h | h
    · exact h
    · simp [Bs, List.getElem?_eq_none h] at hu
  rw [add_plain, h.cell j hj]
  simp [Bs, List.getElem?_eq_getElem hj] at hu
  simp [List.getD, List.getElem?_eq_getElem hj, ← hu]
theorem Bs_one (ys : List Nat) : ∀ u ∈ Bs ys, u.oneCell' = true := by
  intro u hu
  simp only [Bs, List.mem_map] at hu
  obtain ⟨b, _, rfl⟩ := hu
  rfl

/-- Appending bytes, wherever they lie, to a row of one's own. -/
theorem run_append_bytes (w : World) (base : Nat) (ty : TypeId) (v : Value) (xs ys : List Nat) (p : Option Addr) (c : Nat) (hown : w.ownsRow base 5 1 v xs.length (Bs xs)) (hin : BIn w p ys) (hp : p = none → c = 0)
    (hlen : xs.length + ys.length ≤ 140737488355328) (hbase : base ≤ w.heap.size) :
    ∃ v' w', (Builtin.append_ #[22, 22] ty #[v, .slice p ys.length c]).run Tryz.prog w = .ok v' w' ∧ w'.ownsRow base 5 1 v' (xs ++ ys).length (Bs (xs ++ ys)) ∧ w.grownBy w' v.ownBlock := by
  obtain ⟨i0, hi, hz0, hz1, hz2⟩ := info_parts info5
  have hmax : xs.length + ys.length ≤ maxLen := by unfold maxLen; omega
  cases p with
  | none =>
    obtain rfl : ys = [] := by
      cases ys with
      | nil => rfl
      | cons y ys => obtain ⟨b, o, e, _⟩ := hin.1 (by simp); cases e
    obtain rfl := hp rfl
    exact ⟨v, w, run_append_owned_none (P := Tryz.prog) w base 22 ty 5 i0 1 Tryz.underlying22 hi v xs.length (Bs xs) hown, by simpa using hown, ⟨rfl, rfl, rfl, Nat.le_refl _, fun _ _ _ => rfl⟩⟩
  | some ad =>
    have hc : ∀ j u, (Bs ys)[j]? = some u → w.cell? (ad.add j) = some u := by
      intro j u hu
      have hpos : 0 < ys.length := by
        cases ys with
        | nil => simp [Bs] at hu
        | cons y ys => simp
      obtain ⟨b, o, e, _⟩ := hin.1 hpos
      simp at e
      subst e
      exact bin_cells hin j u hu
    obtain ⟨v', w', h1, h2, h3, _⟩ := run_append_own (P := Tryz.prog) w base 22 ty 5 i0 (.int .u8 0) 1 1 Tryz.underlying22 hi hz0 hz1 hz2 rfl (by decide) v xs.length (Bs xs) hown ad ys.length c (Bs ys) (by simp [Bs]) hc (Bs_one ys) hmax (by omega) hbase
    exact ⟨v', w', h1, by simpa [Bs_app] using h2, h3⟩
theorem wpList_append_bytes (w : World) {ops : Array Oper} {rest : List Oper} {o : Oper} {a : Act} {Q : Exit → Act → World → Prop} (hgd : o.guard = none) (s x : Operand)
    (ho : o.op = .call { callee := .builtin .append, args := #[s, x], argTypes := #[22, 22] }) (base : Nat) (v : Value) (xs ys : List Nat) (p : Option Addr) (m c : Nat) (hs : a.eval s = v) (hx : a.eval x = .slice p m c) (hm : m = ys.length)
    (hown : w.ownsRow base 5 1 v xs.length (Bs xs)) (hin : BIn w p ys) (hp : p = none → c = 0) (hlen : xs.length + ys.length ≤ 140737488355328) (hbase : base ≤ w.heap.size)
    (h : ∀ v' w', w'.ownsRow base 5 1 v' (xs ++ ys).length (Bs (xs ++ ys)) → w.grownBy w' v.ownBlock → wpList Tryz.prog ops Q rest (a.put o.dst v') w') : wpList Tryz.prog ops Q (o :: rest) a w := by
  subst hm
  refine wpList_plain hgd fun K hK => ?_
  obtain ⟨v', w', hr, h2, h3⟩ := run_append_bytes w base o.type v xs ys p c hown hin hp hlen hbase
  unfold Oper.wp execOp
  simp only [ho, resolve, invoke, builtin, Sem.run_bind, Sem.run_pure, Result.andThen_ok, List.map_toArray, List.map_cons, List.map_nil, hs, hx, hr]
  exact hK _ _ (h v' w' h2 h3)
theorem step_append_bytes {ops : Array Oper} {o : Oper} {a : Act} {w : World} {K : Act → World → Prop} {Q : Exit → Act → World → Prop} {E : Prop} (hgd : o.guard = none) (s x : Operand)
    (ho : o.op = .call { callee := .builtin .append, args := #[s, x], argTypes := #[22, 22] }) (base : Nat) (v : Value) (xs ys : List Nat) (p : Option Addr) (m c : Nat) (hs : a.eval s = v) (hx : a.eval x = .slice p m c) (hm : m = ys.length)
    (hown : w.ownsRow base 5 1 v xs.length (Bs xs)) (hin : BIn w p ys) (hp : p = none → c = 0) (hlen : xs.length + ys.length ≤ 140737488355328) (hbase : base ≤ w.heap.size)
    (h : ∀ v' w', w'.ownsRow base 5 1 v' (xs ++ ys).length (Bs (xs ++ ys)) → w.grownBy w' v.ownBlock → K (a.put o.dst v') w') : if Region.wanted o (yielded ops a.tmps) = true then Oper.wp Tryz.prog o a w K Q else E := by
  subst hm
  have hw : Region.wanted o (yielded ops a.tmps) = true := by simp [Region.wanted, hgd]
  rw [if_pos hw]
  obtain ⟨v', w', hr, h2, h3⟩ := run_append_bytes w base o.type v xs ys p c hown hin hp hlen hbase
  unfold Oper.wp execOp
  simp only [ho, resolve, invoke, builtin, Sem.run_bind, Sem.run_pure, Result.andThen_ok, List.map_toArray, List.map_cons, List.map_nil, hs, hx, hr]
  exact h v' w' h2 h3

/-- A string's bytes as numbers. -/
def numsOf (s : ByteArray) : List Nat := s.data.toList.map UInt8.toNat
theorem numsOf_len (s : ByteArray) : (numsOf s).length = s.size := by rw [numsOf, List.length_map, Array.length_toList]; rfl
theorem numsOf_lt (s : ByteArray) : ∀ c ∈ numsOf s, c < 256 := by
  intro c hc
  simp only [numsOf, List.mem_map] at hc
  obtain ⟨b, _, rfl⟩ := hc
  exact b.toNat_lt
theorem strCells_Bs (s : ByteArray) : Lib.strCells s = Bs (numsOf s) := by unfold Lib.strCells Bs numsOf; rw [List.map_map]; rfl
theorem strOf_nums (s : ByteArray) : strOf (numsOf s) = s := by
  apply bytes_inj
  rw [strOf_list, numsOf, List.map_map]
  conv => rhs; rw [← List.map_id s.data.toList]
  congr 1
  funext b
  simp
def textN (s : ByteArray) : List Nat := smallN s.size ++ numsOf s

set_option maxHeartbeats 400000 in
theorem text_any (s : ByteArray) (w : World) (hs : s.size ≤ 100000) :
    Calls Tryz.prog 101 #[.string s] w fun e w' => ∃ v, e = .returned v ∧ w'.ownsRow w.heap.size 5 1 v (textN s).length (Bs (textN s)) ∧ Below w.heap.size w w' := by
  obtain ⟨i0, hi, hz0, hz1, hz2⟩ := info_parts info5
  have hten := smallN_ten s.size (by omega)
  go_enter Tryz.func101, Tryz.ntmps101
  go_wp2_with fail
  refine (small_any s.size w (by omega)).mono ?_
  rintro e w1 ⟨v, rfl, hown, hb⟩
  have hsz := hb.size
  go_wp2_with (at_builtin; refine Lib.wpList_append_own_string _ rfl _ _ 22 9 rfl w.heap.size 5 i0 Tryz.underlying22 Tryz.underlying9 hi hz0 hz1 hz2 _ _ _ rfl hown s rfl ?c3 ?c4 hsz ?_)
  case c3 => unfold maxLen; omega
  case c4 => omega
  intro v' w2 hown' hgrow _
  have R : w2.ownsRow w.heap.size 5 1 v' (textN s).length (Bs (textN s)) := by simpa [textN, numsOf_len, Bs_app, strCells_Bs] using hown'
  have hb2 := hb.grown hgrow hsz (fun k hk => (hown.lt k hk).1)
  clear hown' hgrow hown
  go_wp2
  go_ret
  exact ⟨v', rfl, R, hb2⟩
end Go.Proofs.YtglcpfnpbcnejaaGreatDoor
namespace Go.Proofs.YtglcpfnpbcnejaaGreatDoor.Rm

abbrev Pcs := List (Int × Int)
def Apart (p q : Int × Int) : Prop := p.1 + p.2 ≤ q.1 ∨ q.1 + q.2 ≤ p.1
def Wn (count : Int) (p : Int × Int) : Prop := 0 ≤ p.1 ∧ 1 ≤ p.2 ∧ p.2 ≤ count - p.1
def wnB (count : Int) (p : Int × Int) : Bool := decide (0 ≤ p.1 ∧ 1 ≤ p.2 ∧ p.2 ≤ count - p.1)
theorem wnB_yes {count : Int} {p : Int × Int} (h : Wn count p) : wnB count p = true := decide_eq_true h
theorem wnB_no {count : Int} {p : Int × Int} (h : ¬ Wn count p) : wnB count p = false := decide_eq_false h
structure Good (count : Int) (l : Pcs) : Prop where
  wn : ∀ p ∈ l, Wn count p
  apart : l.Pairwise Apart
def hasN (p : Int × Int) (n : Int) : Bool := decide (p.1 ≤ n ∧ n < p.1 + p.2)
def cov (l : Pcs) (n : Int) : Bool := l.any (hasN · n)
def goodB (count : Int) : Pcs → Bool
  | [] => true
  | p :: l => decide (0 ≤ p.1 ∧ 1 ≤ p.2 ∧ p.2 ≤ count - p.1) && l.all (fun q => decide (p.1 + p.2 ≤ q.1 ∨ q.1 + q.2 ≤ p.1)) && goodB count l
theorem goodB_iff {count : Int} : ∀ {l : Pcs}, goodB count l = true ↔ Good count l
  | [] => ⟨fun _ => ⟨by simp, List.Pairwise.nil⟩, fun _ => rfl⟩
  | p :: l => by
    have ih := goodB_iff (count := count) (l := l)
    simp only [goodB, Bool.and_eq_true, decide_eq_true_eq, List.all_eq_true]
    constructor
    · rintro ⟨⟨h1, h2⟩, h3⟩
      have g := ih.1 h3
      refine ⟨fun q hq => ?_, List.Pairwise.cons h2 g.apart⟩
      rcases List.mem_cons.1 hq with rfl | hq
      · exact h1
      · exact g.wn q hq
    · intro h
      have h2 := List.pairwise_cons.1 h.apart
      exact ⟨⟨h.wn p (by simp), h2.1⟩, ih.2 ⟨fun q hq => h.wn q (by simp [hq]), h2.2⟩⟩
def errK (count : Int) (l : Pcs) : Int := if 0 ≤ count ∧ count ≤ 4096 then if l.length ≤ 4096 then if goodB count l = true then 0 else 8 else 4 else 2
theorem errK_ok {count : Int} {l : Pcs} (h : 0 ≤ count ∧ count ≤ 4096) (h2 : l.length ≤ 4096) (h3 : Good count l) : errK count l = 0 := by
  unfold errK; rw [if_pos h, if_pos h2, if_pos (goodB_iff.2 h3)]
theorem errK_bad {count : Int} {l : Pcs} (h : 0 ≤ count ∧ count ≤ 4096) (h2 : l.length ≤ 4096) (h3 : ¬ Good count l) : errK count l = 8 := by
  unfold errK; rw [if_pos h, if_pos h2, if_neg (fun e => h3 (goodB_iff.1 e))]
theorem errK_many {count : Int} {l : Pcs} (h : 0 ≤ count ∧ count ≤ 4096) (h2 : ¬ l.length ≤ 4096) : errK count l = 4 := by
  unfold errK; rw [if_pos h, if_neg h2]
theorem errK_arg {count : Int} {l : Pcs} (h : ¬ (0 ≤ count ∧ count ≤ 4096)) : errK count l = 2 := by
  unfold errK; rw [if_neg h]
theorem errK_zero {count : Int} {l : Pcs} (h : errK count l = 0) : (0 ≤ count ∧ count ≤ 4096) ∧ l.length ≤ 4096 ∧ Good count l := by
  by_cases h1 : 0 ≤ count ∧ count ≤ 4096
  · by_cases h2 : l.length ≤ 4096
    · by_cases h3 : Good count l
      · exact ⟨h1, h2, h3⟩
      · rw [errK_bad h1 h2 h3] at h; omega
    · rw [errK_many h1 h2] at h; omega
  · rw [errK_arg h1] at h; omega

theorem nil_or_snoc {α : Type} (l : List α) : l = [] ∨ ∃ t q, l = t ++ [q] := by
  rcases List.eq_nil_or_concat l with h | ⟨t, q, h⟩
  · exact .inl h
  · exact .inr ⟨t, q, by rw [h, List.concat_eq_append]⟩
theorem Apart.symm {p q : Int × Int} (h : Apart p q) : Apart q p := Or.symm h
theorem Good.perm {count : Int} {l s : Pcs} (h : Good count l) (hp : l.Perm s) : Good count s :=
  ⟨fun p hm => h.wn p (hp.mem_iff.2 hm), (hp.pairwise_iff (fun h => Apart.symm h)).1 h.apart⟩
theorem cov_perm {l s : Pcs} (hp : l.Perm s) (n : Int) : cov l n = cov s n := by
  rw [Bool.eq_iff_iff]
  simp only [cov, List.any_eq_true]
  exact ⟨fun ⟨x, h, e⟩ => ⟨x, hp.mem_iff.1 h, e⟩, fun ⟨x, h, e⟩ => ⟨x, hp.mem_iff.2 h, e⟩⟩
theorem cov_iff {l : Pcs} {n : Int} : cov l n = true ↔ ∃ p ∈ l, p.1 ≤ n ∧ n < p.1 + p.2 := by
  simp [cov, hasN]
theorem cov_false {l : Pcs} {n : Int} : cov l n = false ↔ ∀ p ∈ l, ¬ (p.1 ≤ n ∧ n < p.1 + p.2) := by
  rw [← Bool.not_eq_true, cov_iff]
  exact ⟨fun h p hp hn => h ⟨p, hp, hn⟩, fun h ⟨p, hp, hn⟩ => h p hp hn⟩
theorem cov_append (l m : Pcs) (n : Int) : cov (l ++ m) n = (cov l n || cov m n) := by simp [cov]
theorem getD_mem' {α : Type} {l : List α} {d : α} {i : Nat} (h : i < l.length) : l.getD i d ∈ l := by
  simp [List.getD, List.getElem?_eq_getElem h]
theorem take_snoc {α : Type} {l : List α} {d : α} {i : Nat} (h : i < l.length) : l.take (i + 1) = l.take i ++ [l.getD i d] := by
  rw [List.take_add_one]; simp [List.getD, List.getElem?_eq_getElem h]
theorem getD_eq {α : Type} {l : List α} {d : α} {i : Nat} (h : i < l.length) : l.getD i d = l[i] := by
  simp [List.getD, List.getElem?_eq_getElem h]

/-! ### The check piece by piece, as the document does it -/
theorem good_nil (count : Int) : Good count [] := ⟨by simp, List.Pairwise.nil⟩
theorem Good.snoc {count : Int} {l : Pcs} {p : Int × Int} (h : Good count l) (hw : Wn count p) (hf : ∀ n, p.1 ≤ n → n < p.1 + p.2 → cov l n = false) : Good count (l ++ [p]) := by
  refine ⟨?_, ?_⟩
  · intro q hq
    simp only [List.mem_append, List.mem_singleton] at hq
    rcases hq with hq | rfl
    · exact h.wn q hq
    · exact hw
  · rw [List.pairwise_append]
    refine ⟨h.apart, by simp, ?_⟩
    intro q hq r hr
    simp only [List.mem_singleton] at hr
    subst hr
    have hwq := h.wn q hq
    unfold Wn at hw hwq
    unfold Apart
    by_cases h1 : q.1 + q.2 ≤ r.1
    · exact .inl h1
    by_cases h2 : r.1 + r.2 ≤ q.1
    · exact .inr h2
    exfalso
    by_cases h3 : q.1 ≤ r.1
    · exact cov_false.1 (hf r.1 (by omega) (by omega)) q hq ⟨h3, by omega⟩
    · exact cov_false.1 (hf q.1 (by omega) (by omega)) q hq ⟨by omega, by omega⟩
theorem Good.left {count : Int} {l m : Pcs} (h : Good count (l ++ m)) : Good count l :=
  ⟨fun p hp => h.wn p (List.mem_append.2 (.inl hp)), (List.pairwise_append.1 h.apart).1⟩
theorem Good.right {count : Int} {l m : Pcs} (h : Good count (l ++ m)) : Good count m :=
  ⟨fun p hp => h.wn p (List.mem_append.2 (.inr hp)), (List.pairwise_append.1 h.apart).2.1⟩
theorem Good.take {count : Int} {l : Pcs} (h : Good count l) (k : Nat) : Good count (l.take k) := by
  rw [← List.take_append_drop k l] at h; exact h.left
theorem Good.far {count : Int} {l : Pcs} {p : Int × Int} (h : Good count (l ++ [p])) : ∀ n, p.1 ≤ n → n < p.1 + p.2 → cov l n = false := by
  intro n h1 h2
  refine cov_false.2 fun q hq hn => ?_
  have := (List.pairwise_append.1 h.apart).2.2 q hq p (by simp)
  unfold Apart at this
  omega

/-! ### The check of pieces that rise -/
def Up (s : Pcs) : Prop := s.Pairwise fun p q => p.1 ≤ q.1
def Chain (s : Pcs) : Prop := s.Pairwise fun p q => p.1 + p.2 ≤ q.1
def endOf (s : Pcs) : Int := match s.getLast? with | some p => p.1 + p.2 | none => 0
theorem endOf_snoc (s : Pcs) (p : Int × Int) : endOf (s ++ [p]) = p.1 + p.2 := by simp [endOf]
theorem Chain.good {count : Int} {s : Pcs} (h : Chain s) (hw : ∀ p ∈ s, Wn count p) : Good count s := ⟨hw, List.Pairwise.imp (fun h => Or.inl h) h⟩
theorem Good.chain {count : Int} {s : Pcs} (h : Good count s) (hu : Up s) : Chain s := by
  have h1 := h.wn
  have h2 := h.apart
  clear h
  induction s with
  | nil => exact List.Pairwise.nil
  | cons p s ih =>
    unfold Up at hu
    rw [List.pairwise_cons] at hu h2
    refine List.Pairwise.cons ?_ (ih hu.2 (fun q hq => h1 q (List.mem_cons_of_mem _ hq)) h2.2)
    intro q hq
    have a := hu.1 q hq
    have b := h2.1 q hq
    have c := h1 q (List.mem_cons_of_mem _ hq)
    unfold Apart at b
    unfold Wn at c
    omega
theorem mem_le_end {s : Pcs} (h : Chain s) (hw : ∀ p ∈ s, 1 ≤ p.2) : ∀ p ∈ s, p.1 + p.2 ≤ endOf s := by
  intro p hp
  rcases nil_or_snoc s with rfl | ⟨t, q, rfl⟩
  · simp at hp
  · rw [endOf_snoc]
    simp only [List.mem_append, List.mem_singleton] at hp
    rcases hp with hp | rfl
    · have := (List.pairwise_append.1 h).2.2 p hp q (by simp)
      have := hw q (by simp)
      omega
    · omega
theorem Chain.snoc {s : Pcs} {p : Int × Int} (h : Chain s) (hw : ∀ p ∈ s, 1 ≤ p.2) (he : endOf s ≤ p.1) : Chain (s ++ [p]) := by
  unfold Chain
  rw [List.pairwise_append]
  refine ⟨h, by simp, fun q hq r hr => ?_⟩
  simp only [List.mem_singleton] at hr
  subst hr
  have := mem_le_end h hw q hq
  omega
theorem not_good_end {count : Int} {s : Pcs} {p : Int × Int} {m : Pcs} (hp : 0 ≤ p.1) (hu : Up (s ++ p :: m)) (hw : ∀ q ∈ s ++ p :: m, Wn count q) (he : p.1 < endOf s) : ¬ Good count (s ++ p :: m) := by
  intro hg
  have hc := hg.chain hu
  rcases nil_or_snoc s with rfl | ⟨t, q, rfl⟩
  · simp [endOf] at he; omega
  · rw [endOf_snoc] at he
    have := (List.pairwise_append.1 hc).2.2 q (by simp) p (by simp)
    omega

/-! ### Runs -/
def withN (out : Pcs) (p : Int × Int) : Pcs :=
  match out.getLast? with
  | some q => if q.1 + q.2 = p.1 then out.dropLast ++ [(q.1, q.2 + p.2)] else out ++ [p]
  | none => [p]
theorem withN_nil (p : Int × Int) : withN [] p = [p] := rfl
theorem withN_touch (t : Pcs) (q p : Int × Int) (h : q.1 + q.2 = p.1) : withN (t ++ [q]) p = t ++ [(q.1, q.2 + p.2)] := by simp [withN, h]
theorem withN_apart (t : Pcs) (q p : Int × Int) (h : q.1 + q.2 ≠ p.1) : withN (t ++ [q]) p = t ++ [q] ++ [p] := by simp [withN, h]
/-- The sectors of pieces one by one. -/
def secs (l : Pcs) : List Int := l.flatMap fun p => (List.range p.2.toNat).map fun i => p.1 + (i : Nat)
theorem secs_append (l m : Pcs) : secs (l ++ m) = secs l ++ secs m := by simp [secs]
theorem secs_one (p : Int × Int) : secs [p] = (List.range p.2.toNat).map fun i => p.1 + (i : Nat) := by simp [secs]
theorem secs_sum (a : Int) (b c : Int) (hb : 0 ≤ b) (hc : 0 ≤ c) : secs [(a, b + c)] = secs [(a, b)] ++ secs [(a + b, c)] := by
  rw [secs_one, secs_one, secs_one]
  show (List.range (b + c).toNat).map _ = _
  rw [show (b + c).toNat = b.toNat + c.toNat from by omega, List.range_add, List.map_append]
  congr 1
  simp only [List.map_map]
  refine List.map_congr_left fun i _ => ?_
  simp only [Function.comp]
  omega
theorem secs_withN {out : Pcs} {p : Int × Int} (ho : ∀ q ∈ out, 0 ≤ q.2) (hp : 0 ≤ p.2) : secs (withN out p) = secs out ++ secs [p] := by
  rcases nil_or_snoc out with rfl | ⟨t, q, rfl⟩
  · rfl
  · by_cases h : q.1 + q.2 = p.1
    · rw [withN_touch _ _ _ h, secs_append, secs_append, List.append_assoc, secs_sum _ _ _ (ho q (by simp)) hp, h]
    · rw [withN_apart _ _ _ h, secs_append]
theorem mem_secs {l : Pcs} {n : Int} : n ∈ secs l ↔ cov l n = true := by
  rw [cov_iff]
  simp only [secs, List.mem_flatMap, List.mem_map, List.mem_range]
  constructor
  · rintro ⟨p, hp, i, hi, rfl⟩
    exact ⟨p, hp, by omega, by omega⟩
  · rintro ⟨p, hp, h1, h2⟩
    exact ⟨p, hp, (n - p.1).toNat, by omega, by omega⟩
/-- Pieces that rise and do not touch. -/
def Runs (l : Pcs) : Prop := (l.Pairwise fun p q => p.1 + p.2 < q.1) ∧ ∀ p ∈ l, 1 ≤ p.2
theorem runs_nil : Runs [] := ⟨List.Pairwise.nil, by simp⟩
theorem Runs.chain {l : Pcs} (h : Runs l) : Chain l := List.Pairwise.imp (fun h => by omega) h.1
theorem Runs.withN {out : Pcs} {p : Int × Int} (h : Runs out) (hp : 1 ≤ p.2) (he : ∀ q ∈ out, q.1 + q.2 ≤ p.1) : Runs (withN out p) := by
  rcases nil_or_snoc out with rfl | ⟨t, q, rfl⟩
  · exact ⟨by simp [withN_nil], by simpa [withN_nil] using hp⟩
  · have hq := he q (by simp)
    obtain ⟨h1, h2⟩ := h
    rw [List.pairwise_append] at h1
    have hq2 := h2 q (by simp)
    by_cases e : q.1 + q.2 = p.1
    · rw [withN_touch _ _ _ e]
      refine ⟨List.pairwise_append.2 ⟨h1.1, by simp, fun a ha b hb => ?_⟩, fun a ha => ?_⟩
      · simp only [List.mem_singleton] at hb
        subst hb
        have := h1.2.2 a ha q (by simp)
        exact this
      · simp only [List.mem_append, List.mem_singleton] at ha
        rcases ha with ha | rfl
        · exact h2 a (by simp [ha])
        · show 1 ≤ q.2 + p.2
          omega
    · rw [withN_apart _ _ _ e]
      refine ⟨List.pairwise_append.2 ⟨List.pairwise_append.2 h1, by simp, fun a ha b hb => ?_⟩, fun a ha => ?_⟩
      · simp only [List.mem_singleton] at hb
        subst hb
        simp only [List.mem_append, List.mem_singleton] at ha
        rcases ha with ha | rfl
        · have := h1.2.2 a ha q (by simp)
          omega
        · omega
      · simp only [List.mem_append, List.mem_singleton] at ha
        rcases ha with ha | rfl
        · exact h2 a (by simpa using ha)
        · exact hp
/-- The runs of the first so many sectors that are meant, of k of them from first on; and how many. -/
def runsK (P : Int → Bool) (many first : Nat) : Nat → Pcs × Nat
  | 0 => ([], 0)
  | k + 1 => if (runsK P many first k).2 < many ∧ P ((first + k : Nat) : Int) = true then (withN (runsK P many first k).1 (((first + k : Nat) : Int), 1), (runsK P many first k).2 + 1) else runsK P many first k
theorem runsK_yes {P : Int → Bool} {many first k : Nat} (h : (runsK P many first k).2 < many) (hp : P ((first + k : Nat) : Int) = true) : runsK P many first (k + 1) = (withN (runsK P many first k).1 (((first + k : Nat) : Int), 1), (runsK P many first k).2 + 1) := by
  rw [runsK, if_pos ⟨h, hp⟩]
theorem runsK_no {P : Int → Bool} {many first k : Nat} (hp : P ((first + k : Nat) : Int) = false) : runsK P many first (k + 1) = runsK P many first k := by
  rw [runsK, if_neg (by rw [hp]; simp)]
theorem runsK_full {P : Int → Bool} {many first k : Nat} (h : ¬ (runsK P many first k).2 < many) : runsK P many first (k + 1) = runsK P many first k := by
  rw [runsK, if_neg (fun h' => h h'.1)]
theorem runsK_stay {P : Int → Bool} {many first k : Nat} (h : ¬ (runsK P many first k).2 < many) (j : Nat) : runsK P many first (k + j) = runsK P many first k := by
  induction j with
  | zero => rfl
  | succ j ih => rw [← Nat.add_assoc, runsK_full (by rw [ih]; exact h), ih]
theorem runsK_le (P : Int → Bool) (many first k : Nat) : (runsK P many first k).2 ≤ many := by
  induction k with
  | zero => exact Nat.zero_le _
  | succ k ih =>
    rw [runsK]
    split
    · next h => show _ + 1 ≤ _; omega
    · exact ih
theorem runsK_congr {P Q : Int → Bool} {many first : Nat} : ∀ k : Nat, (∀ n : Nat, first ≤ n → n < first + k → P n = Q n) → runsK P many first k = runsK Q many first k
  | 0, _ => rfl
  | k + 1, h => by
    rw [runsK, runsK, runsK_congr k (fun n h1 h2 => h n h1 (by omega)), h (first + k) (by omega) (by omega)]
/-- The sectors that are meant, in order. -/
def meant (P : Int → Bool) (first k : Nat) : List Int := ((List.range k).map fun i => ((first + i : Nat) : Int)).filter P
theorem meant_succ (P : Int → Bool) (first k : Nat) : meant P first (k + 1) = meant P first k ++ (if P ((first + k : Nat) : Int) then [((first + k : Nat) : Int)] else []) := by
  unfold meant
  rw [List.range_succ, List.map_append, List.filter_append]
  congr 1
  simp only [List.map_cons, List.map_nil, List.filter_cons, List.filter_nil]
theorem mem_meant {P : Int → Bool} {first k : Nat} {n : Int} : n ∈ meant P first k ↔ P n = true ∧ (first : Int) ≤ n ∧ n < first + k := by
  unfold meant
  simp only [List.mem_filter, List.mem_map, List.mem_range]
  constructor
  · rintro ⟨⟨i, hi, rfl⟩, h⟩
    exact ⟨h, by omega, by omega⟩
  · rintro ⟨h, h1, h2⟩
    exact ⟨⟨(n - first).toNat, by omega, by omega⟩, h⟩
theorem meant_up (P : Int → Bool) (first k : Nat) : (meant P first k).Pairwise (· < ·) := by
  unfold meant
  refine List.Pairwise.filter _ ?_
  rw [List.pairwise_map]
  exact List.Pairwise.imp (fun h => by omega) List.pairwise_lt_range
structure RunsOf (P : Int → Bool) (many first k : Nat) (r : Pcs × Nat) : Prop where
  secs : secs r.1 = (meant P first k).take many
  got : r.2 = ((meant P first k).take many).length
  runs : Runs r.1
  ends : ∀ q ∈ r.1, (first : Int) ≤ q.1 ∧ q.1 + q.2 ≤ ((first + k : Nat) : Int)
theorem runsK_of (P : Int → Bool) (many first : Nat) : ∀ k, RunsOf P many first k (runsK P many first k)
  | 0 => ⟨by simp [runsK, secs, meant], by simp [runsK, meant], runs_nil, by simp [runsK]⟩
  | k + 1 => by
    have ih := runsK_of P many first k
    have hg := ih.got
    rw [List.length_take] at hg
    by_cases h : (runsK P many first k).2 < many
    · by_cases hp : P ((first + k : Nat) : Int) = true
      · rw [runsK_yes h hp]
        have ht : ((meant P first k).take many) = meant P first k := List.take_of_length_le (by omega)
        have ht2 : ((meant P first (k + 1)).take many) = meant P first k ++ [((first + k : Nat) : Int)] := by
          rw [meant_succ, if_pos hp, List.take_of_length_le (by simp; omega)]
        refine ⟨?_, ?_, ?_, ?_⟩
        · rw [secs_withN (fun q hq => by have := ih.runs.2 q hq; omega) (by show (0 : Int) ≤ 1; decide), ih.secs, ht, ht2]
          simp [secs]
        · rw [ht2]; show _ + 1 = _; rw [ih.got, ht]; simp
        · exact ih.runs.withN (by show (1 : Int) ≤ 1; decide) (fun q hq => (ih.ends q hq).2)
        · intro q hq
          show _ ∧ _
          have ihe := ih.ends
          generalize (runsK P many first k).1 = out at ihe hq
          have key : ∀ q ∈ withN out (((first + k : Nat) : Int), 1), (∃ q' ∈ out, q.1 = q'.1 ∧ q.2 = q'.2) ∨ (∃ q' ∈ out, q.1 = q'.1 ∧ q.1 + q.2 = ((first + k : Nat) : Int) + 1) ∨ (q.1 = ((first + k : Nat) : Int) ∧ q.2 = 1) := by
            intro q hq
            rcases nil_or_snoc out with rfl | ⟨t, r, rfl⟩
            · simp only [withN_nil, List.mem_singleton] at hq; subst hq; exact .inr (.inr ⟨rfl, rfl⟩)
            · by_cases e : r.1 + r.2 = ((first + k : Nat) : Int)
              · rw [withN_touch _ _ _ e] at hq
                simp only [List.mem_append, List.mem_singleton] at hq
                rcases hq with hq | rfl
                · exact .inl ⟨q, by simp [hq], rfl, rfl⟩
                · exact .inr (.inl ⟨r, by simp, rfl, by show r.1 + (r.2 + 1) = _; omega⟩)
              · rw [withN_apart _ _ _ e] at hq
                simp only [List.mem_append, List.mem_singleton] at hq
                rcases hq with (hq | rfl) | rfl
                · exact .inl ⟨q, by simp [hq], rfl, rfl⟩
                · exact .inl ⟨q, by simp, rfl, rfl⟩
                · exact .inr (.inr ⟨rfl, rfl⟩)
          rcases key q hq with ⟨q', h1, h2, h3⟩ | ⟨q', h1, h2, h3⟩ | ⟨h2, h3⟩
          · have := ihe q' h1
            rw [h2, h3]; exact ⟨this.1, by omega⟩
          · have := ihe q' h1
            exact ⟨by omega, by omega⟩
          · exact ⟨by omega, by omega⟩
      · have hp' : P ((first + k : Nat) : Int) = false := by simpa using hp
        rw [runsK_no hp']
        have hm : meant P first (k + 1) = meant P first k := by rw [meant_succ, hp']; simp
        exact ⟨by rw [hm]; exact ih.secs, by rw [hm]; exact ih.got, ih.runs, fun q hq => ⟨(ih.ends q hq).1, by have := (ih.ends q hq).2; omega⟩⟩
    · rw [runsK_full h]
      have hm : (meant P first (k + 1)).take many = (meant P first k).take many := by
        rw [meant_succ, List.take_append_of_le_length (by omega)]
      exact ⟨by rw [hm]; exact ih.secs, by rw [hm]; exact ih.got, ih.runs, fun q hq => ⟨(ih.ends q hq).1, by have := (ih.ends q hq).2; omega⟩⟩
theorem withN_len (out : Pcs) (p : Int × Int) : (withN out p).length ≤ out.length + 1 := by
  rcases nil_or_snoc out with rfl | ⟨t, q, rfl⟩
  · simp [withN_nil]
  · by_cases e : q.1 + q.2 = p.1
    · rw [withN_touch _ _ _ e]; simp
    · rw [withN_apart _ _ _ e]; simp
theorem runsK_len (P : Int → Bool) (many first : Nat) : ∀ k, (runsK P many first k).1.length ≤ (runsK P many first k).2
  | 0 => Nat.le_refl _
  | k + 1 => by
    have ih := runsK_len P many first k
    rw [runsK]
    split
    · have := withN_len (runsK P many first k).1 (((first + k : Nat) : Int), 1)
      show (withN (runsK P many first k).1 (((first + k : Nat) : Int), 1)).length ≤ (runsK P many first k).2 + 1
      omega
    · exact ih
theorem runsK_bounds (P : Int → Bool) (many first k c : Nat) (hc : first + k ≤ c) : ∀ q ∈ (runsK P many first k).1, 0 ≤ q.1 ∧ 0 ≤ q.2 ∧ q.1 + q.2 ≤ (c : Int) := by
  intro q hq
  have h := runsK_of P many first k
  have h1 := h.runs.2 q hq
  have h2 := h.ends q hq
  omega
/-! ### Sectors held against pieces that rise -/
def Past (s : Pcs) (j : Nat) (n : Int) : Prop := ∀ p ∈ s.take j, p.1 + p.2 ≤ n
theorem past_zero (s : Pcs) (n : Int) : Past s 0 n := by intro p hp; simp at hp
theorem Past.step {s : Pcs} {j : Nat} {n : Int} (h : Past s j n) (hj : j < s.length) (he : (s.getD j (0, 0)).1 + (s.getD j (0, 0)).2 ≤ n) : Past s (j + 1) n := by
  intro p hp
  rw [take_snoc (d := (0, 0)) hj] at hp
  simp only [List.mem_append, List.mem_singleton] at hp
  rcases hp with hp | rfl
  · exact h p hp
  · exact he
theorem Past.mono {s : Pcs} {j : Nat} {n m : Int} (h : Past s j n) (hm : n ≤ m) : Past s j m := fun p hp => Int.le_trans (h p hp) hm
theorem Past.free {s : Pcs} {j : Nat} {n : Int} (h : Past s j n) (hu : Up s) (hj : j < s.length → n < (s.getD j (0, 0)).1) : cov s n = false := by
  refine cov_false.2 fun p hp hn => ?_
  rw [← List.take_append_drop j s, List.mem_append] at hp
  rcases hp with hp | hp
  · have := h p hp; omega
  · rcases Nat.lt_or_ge j s.length with hl | hl
    · have h1 := hj hl
      rw [List.drop_eq_getElem_cons hl, List.mem_cons] at hp
      rw [getD_eq hl] at h1
      rcases hp with rfl | hp
      · omega
      · have hu' := hu
        unfold Up at hu'
        rw [← List.take_append_drop j s, List.drop_eq_getElem_cons hl, List.pairwise_append] at hu'
        have := (List.pairwise_cons.1 hu'.2.1).1 p hp
        omega
    · rw [List.drop_eq_nil_of_le hl] at hp; simp at hp
theorem cov_at {s : Pcs} {j : Nat} {n : Int} (hj : j < s.length) (h1 : (s.getD j (0, 0)).1 ≤ n) (h2 : n < (s.getD j (0, 0)).1 + (s.getD j (0, 0)).2) : cov s n = true := cov_iff.2 ⟨_, getD_mem' hj, h1, h2⟩
end Go.Proofs.YtglcpfnpbcnejaaGreatDoor.Rm
namespace Go.Proofs.YtglcpfnpbcnejaaGreatDoor.Rm

def freeB (l : Pcs) (n : Int) : Bool := !cov l n
/-! ### What is answered -/
def errF (first count : Int) (l : Pcs) : Int := if (0 ≤ count ∧ count ≤ 4096) ∧ 0 ≤ first ∧ first ≤ count then errK count l else 2
def gotF (first count : Int) (l : Pcs) (many : Nat) : Pcs × Nat := runsK (freeB l) many first.toNat (count - first).toNat
def errT (first count : Int) (l : Pcs) (many : Int) : Int :=
  if 0 ≤ many ∧ many ≤ 4096 then if errF first count l = 0 then if ((gotF first count l many.toNat).2 : Int) < many then 30 else 0 else errF first count l else 2
def resT (first count : Int) (l : Pcs) (many : Int) : Pcs := if errT first count l many = 0 then (gotF first count l many.toNat).1 else []
theorem errF_arg {first count : Int} {l : Pcs} (h : ¬ ((0 ≤ count ∧ count ≤ 4096) ∧ 0 ≤ first ∧ first ≤ count)) : errF first count l = 2 := by unfold errF; rw [if_neg h]
theorem errF_ok {first count : Int} {l : Pcs} (h : (0 ≤ count ∧ count ≤ 4096) ∧ 0 ≤ first ∧ first ≤ count) : errF first count l = errK count l := by unfold errF; rw [if_pos h]
theorem resT_bad {first count : Int} {l : Pcs} {many : Int} (h : errT first count l many ≠ 0) : resT first count l many = [] := by unfold resT; rw [if_neg h]
theorem resT_ok {first count : Int} {l : Pcs} {many : Int} (h : errT first count l many = 0) : resT first count l many = (gotF first count l many.toNat).1 := by unfold resT; rw [if_pos h]
theorem errF_zero {first count : Int} {l : Pcs} (h : errF first count l = 0) : ((0 ≤ count ∧ count ≤ 4096) ∧ 0 ≤ first ∧ first ≤ count) ∧ l.length ≤ 4096 ∧ Good count l := by
  by_cases h1 : (0 ≤ count ∧ count ≤ 4096) ∧ 0 ≤ first ∧ first ≤ count
  · rw [errF_ok h1] at h
    exact ⟨h1, (errK_zero h).2⟩
  · rw [errF_arg h1] at h; omega
theorem errT_arg {first count : Int} {l : Pcs} {many : Int} (h : ¬ (0 ≤ many ∧ many ≤ 4096)) : errT first count l many = 2 := by unfold errT; rw [if_neg h]
theorem errT_bad {first count : Int} {l : Pcs} {many : Int} (h : 0 ≤ many ∧ many ≤ 4096) (h1 : errF first count l ≠ 0) : errT first count l many = errF first count l := by unfold errT; rw [if_pos h, if_neg h1]
theorem errT_few {first count : Int} {l : Pcs} {many : Int} (h : 0 ≤ many ∧ many ≤ 4096) (h1 : errF first count l = 0) (h2 : ((gotF first count l many.toNat).2 : Int) < many) : errT first count l many = 30 := by unfold errT; rw [if_pos h, if_pos h1, if_pos h2]
theorem errT_ok {first count : Int} {l : Pcs} {many : Int} (h : 0 ≤ many ∧ many ≤ 4096) (h1 : errF first count l = 0) (h2 : ¬ ((gotF first count l many.toNat).2 : Int) < many) : errT first count l many = 0 := by unfold errT; rw [if_pos h, if_pos h1, if_neg h2]
theorem gotF_of (first count : Int) (l : Pcs) (many : Nat) : RunsOf (freeB l) many first.toNat (count - first).toNat (gotF first count l many) := runsK_of _ _ _ _
theorem gotF_bounds {first count : Int} {l : Pcs} {many : Nat} (h : (0 ≤ count ∧ count ≤ 4096) ∧ 0 ≤ first ∧ first ≤ count) : ∀ q ∈ (gotF first count l many).1, 0 ≤ q.1 ∧ 1 ≤ q.2 ∧ q.1 + q.2 ≤ count := by
  intro q hq
  have h1 := (gotF_of first count l many).runs.2 q hq
  have h2 := (gotF_of first count l many).ends q hq
  omega
theorem gotF_len (first count : Int) (l : Pcs) (many : Nat) : (gotF first count l many).1.length ≤ many := by
  have := runsK_len (freeB l) many first.toNat (count - first).toNat
  have := runsK_le (freeB l) many first.toNat (count - first).toNat
  unfold gotF
  omega
/-- How many sectors pieces have. -/
def sumP (l : Pcs) : Int := (l.map (·.2)).sum
theorem sumP_snoc (l : Pcs) (p : Int × Int) : sumP (l ++ [p]) = sumP l + p.2 := by simp [sumP]
theorem sumP_bound {l : Pcs} (h : ∀ p ∈ l, 0 ≤ p.2 ∧ p.2 ≤ 4096) : 0 ≤ sumP l ∧ sumP l ≤ l.length * 4096 := by
  induction l with
  | nil => simp [sumP]
  | cons p l ih =>
    have := ih (fun q hq => h q (List.mem_cons_of_mem _ hq))
    have := h p (by simp)
    have e : sumP (p :: l) = p.2 + sumP l := by simp [sumP]
    rw [e]
    simp only [List.length_cons]
    omega
def manyN (l : Pcs) : Int := if errK 4096 l = 0 then sumP l else 0
def secsN (l : Pcs) : List Int := if errK 4096 l = 0 then secs l else []
theorem secs_len_sum {l : Pcs} (h : ∀ p ∈ l, 0 ≤ p.2) : ((secs l).length : Int) = sumP l := by
  induction l with
  | nil => rfl
  | cons p l ih =>
    have := ih (fun q hq => h q (List.mem_cons_of_mem _ hq))
    have := h p (by simp)
    have e : sumP (p :: l) = p.2 + sumP l := by simp [sumP]
    have e2 : secs (p :: l) = secs [p] ++ secs l := by simp [secs]
    rw [e, e2, secs_one]
    simp only [List.length_append, List.length_map, List.length_range]
    omega
/-! ### Strictly rising lists with the same members are the same -/
theorem up_ext : ∀ {a b : List Int}, a.Pairwise (· < ·) → b.Pairwise (· < ·) → (∀ n, n ∈ a ↔ n ∈ b) → a = b
  | [], [], _, _, _ => rfl
  | [], y :: b, _, _, h => by have := (h y).2 (by simp); simp at this
  | x :: a, [], _, _, h => by have := (h x).1 (by simp); simp at this
  | x :: a, y :: b, ha, hb, h => by
    rw [List.pairwise_cons] at ha hb
    have hxy : x = y := by
      have h1 := (h x).1 (by simp)
      have h2 := (h y).2 (by simp)
      rcases List.mem_cons.1 h1 with h1 | h1
      · exact h1
      · rcases List.mem_cons.1 h2 with h2 | h2
        · exact h2.symm
        · have := hb.1 x h1; have := ha.1 y h2; omega
    subst hxy
    congr 1
    refine up_ext ha.2 hb.2 fun n => ?_
    constructor
    · intro hn
      rcases List.mem_cons.1 ((h n).1 (by simp [hn])) with e | hm
      · have := ha.1 n hn; omega
      · exact hm
    · intro hn
      rcases List.mem_cons.1 ((h n).2 (by simp [hn])) with e | hm
      · have := hb.1 n hn; omega
      · exact hm
theorem run_up (p : Int × Int) : (secs [p]).Pairwise (· < ·) := by
  rw [secs_one, List.pairwise_map]
  exact List.Pairwise.imp (fun h => by omega) List.pairwise_lt_range
theorem mem_run {p : Int × Int} {n : Int} : n ∈ secs [p] ↔ p.1 ≤ n ∧ n < p.1 + p.2 := by
  rw [mem_secs, cov_iff]
  simp
theorem secs_up : ∀ {s : Pcs}, Chain s → (∀ p ∈ s, 1 ≤ p.2) → (secs s).Pairwise (· < ·)
  | [], _, _ => List.Pairwise.nil
  | p :: s, hc, hw => by
    have hc' := List.pairwise_cons.1 hc
    have e : secs (p :: s) = secs [p] ++ secs s := by simp [secs]
    rw [e, List.pairwise_append]
    refine ⟨run_up p, secs_up hc'.2 (fun q hq => hw q (by simp [hq])), fun a ha b hb => ?_⟩
    have h1 := mem_run.1 ha
    obtain ⟨q, hq, h2⟩ := cov_iff.1 (mem_secs.1 hb)
    have := hc'.1 q hq
    omega
/-! ### Runs are told by their sectors -/
theorem secs_cons (p : Int × Int) (l : Pcs) : secs (p :: l) = secs [p] ++ secs l := by simp [secs]
/-! ### Pieces that rise put together -/
def joinK (n : Nat) (l : Pcs) : Pcs := (runsK (cov l) n 0 n).1
def joinN (l : Pcs) : Pcs := joinK 4096 l
theorem meant_all_len (P : Int → Bool) (first k : Nat) : (meant P first k).length ≤ k := by
  unfold meant
  have := List.length_filter_le P ((List.range k).map fun i => ((first + i : Nat) : Int))
  simpa using this
theorem secs_meant {s : Pcs} {count : Nat} (hc : Chain s) (hw : ∀ p ∈ s, Wn count p) : secs s = meant (cov s) 0 count := by
  refine up_ext (secs_up hc (fun p hp => (hw p hp).2.1)) (meant_up _ _ _) fun n => ?_
  rw [mem_secs, mem_meant]
  constructor
  · intro h
    obtain ⟨p, hp, h1⟩ := cov_iff.1 h
    have := hw p hp
    unfold Wn at this
    exact ⟨h, by omega, by omega⟩
  · exact fun h => h.1
end Go.Proofs.YtglcpfnpbcnejaaGreatDoor.Rm
