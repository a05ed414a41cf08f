/-
  The program's shared and sum; bytes.Equal.
-/
import Derived.Test.YtbnacopefclklaaJ01
import Derived.Lib.SmallJoins
import Derived.OpenShut
import Derived.Laws.AppendOwnNone
import Derived.Lib.AppendStr
import Derived.Laws.CopyOwn
import Derived.BigQuiet
import Derived.Deep.QuietTactic
namespace Go.Proofs.Ytbnacopefclklaa
open Go.RowKit Go.WideShapes

theorem bin_lit (w : World) (g : Nat) (C : Array Value) (e : TypeId) (fr : Nat × Nat) (xs : List Nat) (hg : g = w.heap.size) (hC : C = (Bs xs).toArray) (hx : ∀ c ∈ xs, c < 256) : BIn (w.alloc (.cells C e fr)) (some ⟨g, 0, none⟩) xs := by
  subst hg hC
  refine ⟨fun _ => ⟨w.heap.size, 0, rfl, fun i hi => ?_⟩, hx⟩
  rw [cell_of_row (w.alloc (.cells (Bs xs).toArray e fr)) w.heap.size (0 + i) (Bs xs).toArray e fr (heap_alloc_new w _)]
  simp [Bs, List.getD, List.getElem?_eq_getElem hi]
theorem ret_true {p : Prop} [Decidable p] (h : p) : Ending.returned (.bool (decide p)) = .returned (.bool true) := by rw [decide_eq_true h]
theorem own_bin {w : World} {base : Nat} {p : Option Addr} {m c : Nat} {xs : List Nat} (h : w.ownsRow base 5 1 (.slice p m c) xs.length (Bs xs)) (hx : ∀ c ∈ xs, c < 256) : BIn w p xs ∧ m = xs.length := by
  rcases h.2 with ⟨hv, hn⟩ | ⟨g, cap, cur, hv, hb, hg, hle, hmax, hsz, htk⟩
  · simp at hv
    exact ⟨⟨fun h => by omega, hx⟩, by omega⟩
  · simp at hv
    obtain ⟨rfl, rfl, rfl⟩ := hv
    refine ⟨⟨fun _ => ⟨g, 0, rfl, fun i hi => ?_⟩, hx⟩, rfl⟩
    have := h.cells rfl i (.int .u8 (xs.getD i 0 : Nat)) (by simp [Bs, List.getD, List.getElem?_eq_getElem hi])
    rw [Go.WideShapes.add_plain] at this
    exact this

theorem own_at {w : World} {base : Nat} {p : Option Addr} {m c n : Nat} {xs : List Nat} (h : w.ownsRow base 5 1 (.slice p m c) n (Bs xs)) (hn : n = xs.length) (hx : ∀ c ∈ xs, c < 256) : BIn w p xs := by
  subst hn; exact (own_bin h hx).1

/-- What the walk is told of a slice of integers that came in: it is nil; or it leads to a row of 'cap' cells, the numbers 'zs' (the first 'len' are its elements, the rest its spare room), each fitting its kind. -/
def IsRow (k : IntKind) (w : World) (a : Option Addr) (len cap : Nat) (zs : List Int) : Prop :=
  (a = none ∧ len = 0 ∧ cap = 0 ∧ zs = []) ∨
  ∃ x, a = some x ∧ len ≤ cap ∧ cap ≤ maxLen ∧ zs.length = cap ∧ (∀ i, i < zs.length → w.cell? (x.add i) = some (.int k (zs.getD i 0))) ∧ ∀ n ∈ zs, (Lit.int k n).wf = true
theorem row_bin {w : World} {a : Option Addr} {len cap : Nat} {zs : List Int} (h : IsRow .u8 w a len cap zs) : ∃ xs : List Nat, len = xs.length ∧ BIn w a xs ∧ xs.length ≤ cap ∧ cap ≤ maxLen ∧ (a = none → cap = 0) := by
  rcases h with ⟨rfl, rfl, rfl, rfl⟩ | ⟨x, rfl, hl, hm, hz, hc, hw⟩
  · exact ⟨[], rfl, ⟨fun h => absurd h (by simp), by simp⟩, by simp, by unfold maxLen; omega, fun _ => rfl⟩
  · have hb : ∀ n ∈ zs, 0 ≤ n ∧ n ≤ 255 := fun n hn => bounds_u8 (hw n hn)
    refine ⟨(zs.take len).map Int.toNat, by simp; omega, ⟨fun hp => ?_, ?_⟩, by simp; omega, hm, by simp⟩
    · simp at hp
      obtain ⟨b, o, s⟩ := x
      obtain rfl : s = none := by simpa [Addr.add] using World.cell?_spot (hc 0 (by omega))
      refine ⟨b, o, rfl, fun i hi => ?_⟩
      simp at hi
      rw [← add_plain, hc i (by omega)]
      have hi' : i < zs.length := by omega
      have := hb _ (List.getElem_mem hi')
      simp [List.getD, List.getElem?_map, show i < len from by omega, List.getElem?_eq_getElem hi', Int.toNat_of_nonneg this.1]
    · intro c hc
      simp only [List.mem_map] at hc
      obtain ⟨n, hn, rfl⟩ := hc
      have := hb n (List.mem_of_mem_take hn)
      omega
/-- What is owned stays owned behind a call that writes nothing old. -/
theorem own_below {w w' : World} {base size n : Nat} {e : TypeId} {v : Value} {xs : List Value} (h : w.ownsRow base e size v n xs) (hb : Below w.heap.size w w') : w'.ownsRow base e size v n xs :=
  h.kept (row := none) ⟨hb.os, hb.tape, hb.output, hb.size, fun k hk _ => hb.block k hk⟩ (by cases v.ownBlock <;> simp)
theorem block_below {w w' : World} {g : Nat} {o : Obj} (h : w.heap[g]? = some o) (hb : Below w.heap.size w w') : w'.heap[g]? = some o := by
  have hg : g < w.heap.size := (Array.getElem?_eq_some_iff.1 h).1
  rw [hb.block g hg]; exact h
end Go.Proofs.Ytbnacopefclklaa
namespace Go.Proofs.Ytbnacopefclklaa
open Go.RowKit Go.WideShapes

theorem bin_cells {w : World} {b o : Nat} {ys : List Nat} (h : BIn w (some ⟨b, o, none⟩) ys) : ∀ j u, (Bs ys)[j]? = some u → w.cell? ((⟨b, o, none⟩ : Addr).add j) = some u := by
  intro j u hu
  have hj : j < ys.length := by
    rcases Nat.lt_or_ge j ys.length with h | h
    · exact h
    · simp [Bs, List.getElem?_eq_none h] at hu
  rw [add_plain, h.cell j hj]
  simp [Bs, List.getElem?_eq_getElem hj] at hu
  simp [List.getD, List.getElem?_eq_getElem hj, ← hu]
theorem Bs_one (ys : List Nat) : ∀ u ∈ Bs ys, u.oneCell' = true := by
  intro u hu
  simp only [Bs, List.mem_map] at hu
  obtain ⟨b, _, rfl⟩ := hu
  rfl

/-- A string's bytes as numbers. -/
def numsOf (s : ByteArray) : List Nat := s.data.toList.map UInt8.toNat
theorem numsOf_len (s : ByteArray) : (numsOf s).length = s.size := by rw [numsOf, List.length_map, Array.length_toList]; rfl
theorem numsOf_lt (s : ByteArray) : ∀ c ∈ numsOf s, c < 256 := by
  intro c hc
  simp only [numsOf, List.mem_map] at hc
  obtain ⟨b, _, rfl⟩ := hc
  exact b.toNat_lt
theorem strCells_Bs (s : ByteArray) : Lib.strCells s = Bs (numsOf s) := by unfold Lib.strCells Bs numsOf; rw [List.map_map]; rfl
theorem strOf_nums (s : ByteArray) : strOf (numsOf s) = s := by
  apply bytes_inj
  rw [strOf_list, numsOf, List.map_map]
  conv => rhs; rw [← List.map_id s.data.toList]
  congr 1
  funext b
  simp
def textN (s : ByteArray) : List Nat := smallN s.size ++ numsOf s

end Go.Proofs.Ytbnacopefclklaa
namespace Go.Proofs.Ytbnacopefclklaa
open Go.RowKit Go.WideShapes

structure EntV where
  key : ByteArray
  val : ByteArray
  seq : Int
  gone : Bool
def zeroE : EntV := ⟨ByteArray.empty, ByteArray.empty, 0, false⟩
theorem nums_strOf {xs : List Nat} (h : ∀ c ∈ xs, c < 256) : numsOf (strOf xs) = xs := by
  unfold numsOf
  rw [strOf_list, List.map_map]
  conv => rhs; rw [← List.map_id xs]
  apply List.map_congr_left
  intro c hc
  simp [Nat.mod_eq_of_lt (h c hc)]
theorem nums_inj {x y : ByteArray} (h : numsOf x = numsOf y) : x = y := by rw [← strOf_nums x, h, strOf_nums]
theorem eta2 {α β : Type} (p : α × β) : p = (p.1, p.2) := rfl
theorem nums_empty : numsOf ByteArray.empty = [] := rfl
theorem strOf_nil : strOf [] = ByteArray.empty := by rw [← nums_empty, strOf_nums]
/-- How many bytes two texts begin with together. -/
def sharedN : List Nat → List Nat → Nat
  | x :: a, y :: b => if x = y then sharedN a b + 1 else 0
  | _, _ => 0
theorem sharedN_le : ∀ (a b : List Nat), sharedN a b ≤ a.length ∧ sharedN a b ≤ b.length
  | [], b => by simp [sharedN]
  | x :: a, [] => by simp [sharedN]
  | x :: a, y :: b => by
    have := sharedN_le a b
    unfold sharedN
    split <;> simp <;> omega
theorem sharedN_take : ∀ (a b : List Nat), a.take (sharedN a b) = b.take (sharedN a b)
  | [], b => by simp [sharedN]
  | x :: a, [] => by simp [sharedN]
  | x :: a, y :: b => by
    unfold sharedN
    split
    · rename_i h; subst h; simp [sharedN_take a b]
    · simp
def keyN (a k : List Nat) : List Nat := smallN (sharedN a k) ++ (smallN (k.length - sharedN a k) ++ k.drop (sharedN a k))
def tailN (x : EntV) : List Nat := if x.gone then smallN 1 else smallN 0 ++ (smallN x.val.size ++ numsOf x.val)
def entN (a : List Nat) (x : EntV) : List Nat := keyN a (numsOf x.key) ++ (smallN x.seq.toNat ++ tailN x)
def entsN : List Nat → List EntV → List Nat
  | _, [] => []
  | a, x :: l => entN a x ++ entsN (numsOf x.key) l
def bodyN (l : List EntV) : List Nat := smallN l.length ++ entsN [] l
def sum4 (xs : List Nat) : List Nat := (putN (sumN xs)).take 4
def pageN (l : List EntV) : List Nat := bodyN l ++ sum4 (bodyN l)
theorem sum4_len (xs : List Nat) : (sum4 xs).length = 4 := rfl
theorem small0 : smallN 0 = [0] := smallN_lo (by decide)
theorem small1 : smallN 1 = [1] := smallN_lo (by decide)
theorem keyN_lt {a k : List Nat} (hk : ∀ c ∈ k, c < 256) : ∀ c ∈ keyN a k, c < 256 := by
  intro c hc
  simp only [keyN, List.mem_append] at hc
  rcases hc with h | h | h
  · exact smallN_bytes _ c h
  · exact smallN_bytes _ c h
  · exact hk c (List.mem_of_mem_drop h)
theorem tailN_lt (x : EntV) : ∀ c ∈ tailN x, c < 256 := by
  intro c hc
  unfold tailN at hc
  split at hc
  · exact smallN_bytes _ c hc
  · simp only [List.mem_append] at hc
    rcases hc with h | h | h
    · exact smallN_bytes _ c h
    · exact smallN_bytes _ c h
    · exact numsOf_lt _ c h
theorem entN_lt (a : List Nat) (x : EntV) : ∀ c ∈ entN a x, c < 256 := by
  intro c hc
  simp only [entN, List.mem_append] at hc
  rcases hc with h | h | h
  · exact keyN_lt (numsOf_lt _) c h
  · exact smallN_bytes _ c h
  · exact tailN_lt x c h
theorem entsN_lt : ∀ (l : List EntV) (a : List Nat), ∀ c ∈ entsN a l, c < 256
  | [], a, c, hc => by simp [entsN] at hc
  | x :: l, a, c, hc => by
    rcases List.mem_append.1 hc with h | h
    · exact entN_lt a x c h
    · exact entsN_lt l _ c h
theorem bodyN_lt (l : List EntV) : ∀ c ∈ bodyN l, c < 256 := by
  intro c hc
  rcases List.mem_append.1 hc with h | h
  · exact smallN_bytes _ c h
  · exact entsN_lt l _ c h
theorem sumN_lt {xs : List Nat} (h : ∀ c ∈ xs, c < 256) : sumN xs < 4294967296 := by
  have h1 := crc_lt xs 4294967295 (by decide) h
  unfold sumN
  exact Nat.xor_lt_two_pow (n := 32) (by decide) h1
theorem sum4_lt {xs : List Nat} (h : ∀ c ∈ xs, c < 256) : ∀ c ∈ sum4 xs, c < 256 :=
  fun c hc => putN_bytes _ (by have := sumN_lt h; omega) c (List.mem_of_mem_take hc)
theorem pageN_lt (l : List EntV) : ∀ c ∈ pageN l, c < 256 := by
  intro c hc
  rcases List.mem_append.1 hc with h | h
  · exact bodyN_lt l c h
  · exact sum4_lt (bodyN_lt l) c h

/-! ### Reading -/
structure Wk where
  rest : List Nat
  lost : Bool
def numW (lim : Nat) (s : Wk) : Nat × Wk :=
  match readN s.rest with
  | some (n, k) => if n ≤ lim then (n, ⟨s.rest.drop k, s.lost⟩) else (0, ⟨s.rest, true⟩)
  | none => (0, ⟨s.rest, true⟩)
def textW (lim : Nat) (s : Wk) : List Nat × Wk :=
  if (numW lim s).1 ≤ (numW lim s).2.rest.length then ((numW lim s).2.rest.take (numW lim s).1, ⟨(numW lim s).2.rest.drop (numW lim s).1, (numW lim s).2.lost⟩) else ([], ⟨(numW lim s).2.rest, true⟩)
theorem numW_le (lim : Nat) (s : Wk) : (numW lim s).1 ≤ lim := by
  unfold numW
  split
  · split
    · assumption
    · simp
  · simp
theorem numW_back (lim n : Nat) (r : List Nat) (b : Bool) (h : n ≤ lim) (hn : n < 18446744073709551616) : numW lim ⟨smallN n ++ r, b⟩ = (n, ⟨r, b⟩) := by
  unfold numW
  simp only [read_back n r hn, if_pos h, List.drop_left]
theorem numW_only {lim : Nat} {s s' : Wk} {n : Nat} (hx : ∀ c ∈ s.rest, c < 256) (h : numW lim s = (n, s')) (hl : s'.lost = false) : s.lost = false ∧ s.rest = smallN n ++ s'.rest ∧ n ≤ lim := by
  unfold numW at h
  split at h
  · rename_i m k hr
    split at h
    · rename_i hle
      obtain ⟨rfl, rfl⟩ := Prod.mk.inj h
      refine ⟨hl, ?_, hle⟩
      rw [← read_only hx hr]
      exact (List.take_append_drop _ _).symm
    · obtain ⟨rfl, rfl⟩ := Prod.mk.inj h
      cases hl
  · obtain ⟨rfl, rfl⟩ := Prod.mk.inj h
    cases hl
theorem numW_sub (lim : Nat) (s : Wk) : ∀ c ∈ (numW lim s).2.rest, c ∈ s.rest := by
  intro c hc
  unfold numW at hc
  split at hc
  · split at hc
    · exact List.mem_of_mem_drop hc
    · exact hc
  · exact hc
theorem numW_short (lim : Nat) (s : Wk) : (numW lim s).2.rest.length ≤ s.rest.length := by
  unfold numW
  split
  · split
    · simp
    · simp
  · simp
theorem textW_sub (lim : Nat) (s : Wk) : (∀ c ∈ (textW lim s).2.rest, c ∈ s.rest) ∧ (∀ c ∈ (textW lim s).1, c ∈ s.rest) := by
  unfold textW
  split
  · exact ⟨fun c hc => numW_sub lim s c (List.mem_of_mem_drop hc), fun c hc => numW_sub lim s c (List.mem_of_mem_take hc)⟩
  · exact ⟨fun c hc => numW_sub lim s c hc, fun c hc => by simp at hc⟩
theorem textW_le (lim : Nat) (s : Wk) : (textW lim s).1.length ≤ lim := by
  have := numW_le lim s
  unfold textW
  split
  · simp; omega
  · simp
theorem textW_back (lim : Nat) (xs r : List Nat) (b : Bool) (h : xs.length ≤ lim) (hn : xs.length < 18446744073709551616) : textW lim ⟨smallN xs.length ++ (xs ++ r), b⟩ = (xs, ⟨r, b⟩) := by
  unfold textW
  rw [numW_back lim xs.length (xs ++ r) b h hn]
  simp
theorem textW_only {lim : Nat} {s s' : Wk} {xs : List Nat} (hx : ∀ c ∈ s.rest, c < 256) (h : textW lim s = (xs, s')) (hl : s'.lost = false) : s.lost = false ∧ s.rest = smallN xs.length ++ (xs ++ s'.rest) ∧ xs.length ≤ lim := by
  unfold textW at h
  split at h
  · rename_i hle
    obtain ⟨rfl, rfl⟩ := Prod.mk.inj h
    obtain ⟨h1, h2, h3⟩ := numW_only hx (eta2 (numW lim s)) hl
    have hlen : ((numW lim s).2.rest.take (numW lim s).1).length = (numW lim s).1 := by rw [List.length_take]; omega
    refine ⟨h1, ?_, by rw [hlen]; exact h3⟩
    rw [hlen, List.take_append_drop]
    exact h2
  · obtain ⟨rfl, rfl⟩ := Prod.mk.inj h
    cases hl
def keyW (a : ByteArray) (s : Wk) : ByteArray × Wk :=
  let r0 := numW a.size s
  let r1 := textW (256 - r0.1) r0.2
  let key := strOf ((numsOf a).take r0.1 ++ r1.1)
  (key, ⟨r1.2.rest, r1.2.lost || decide (r0.1 ≠ sharedN (numsOf a) (numsOf key))⟩)
def tailW (s : Wk) : (Bool × ByteArray) × Wk :=
  let r4 := numW 1 s
  if r4.1 = 1 then ((true, ByteArray.empty), r4.2) else ((false, strOf (textW 4096 r4.2).1), (textW 4096 r4.2).2)
def entW (a : ByteArray) (s : Wk) : EntV × Wk :=
  let k := keyW a s
  let r3 := numW 2147483647 k.2
  let t := tailW r3.2
  (⟨k.1, t.1.2, r3.1, t.1.1⟩, t.2)
theorem keyW_back (a k : ByteArray) (r : List Nat) (hk : k.size ≤ 256) (ha : a.size ≤ 256) : keyW a ⟨keyN (numsOf a) (numsOf k) ++ r, false⟩ = (k, ⟨r, false⟩) := by
  have hs := sharedN_le (numsOf a) (numsOf k)
  rw [numsOf_len, numsOf_len] at hs
  have e0 : numW a.size ⟨keyN (numsOf a) (numsOf k) ++ r, false⟩ = (sharedN (numsOf a) (numsOf k), ⟨smallN (((numsOf k).drop (sharedN (numsOf a) (numsOf k))).length) ++ ((numsOf k).drop (sharedN (numsOf a) (numsOf k)) ++ r), false⟩) := by
    rw [List.length_drop]
    unfold keyN
    rw [List.append_assoc, List.append_assoc]
    exact numW_back _ _ _ _ hs.1 (by omega)
  have e1 := textW_back (256 - sharedN (numsOf a) (numsOf k)) ((numsOf k).drop (sharedN (numsOf a) (numsOf k))) r false (by rw [List.length_drop, numsOf_len]; omega) (by rw [List.length_drop, numsOf_len]; omega)
  have e2 : strOf ((numsOf a).take (sharedN (numsOf a) (numsOf k)) ++ (numsOf k).drop (sharedN (numsOf a) (numsOf k))) = k := by
    rw [sharedN_take, List.take_append_drop, strOf_nums]
  unfold keyW
  simp only [e0, e1, e2]
  simp
theorem keyW_only {a k : ByteArray} {s s' : Wk} (hx : ∀ c ∈ s.rest, c < 256) (h : keyW a s = (k, s')) (hl : s'.lost = false) : s.lost = false ∧ s.rest = keyN (numsOf a) (numsOf k) ++ s'.rest := by
  obtain ⟨n0, s0, e0⟩ : ∃ n s', numW a.size s = (n, s') := ⟨_, _, rfl⟩
  obtain ⟨t1, s1, e1⟩ : ∃ t s', textW (256 - n0) s0 = (t, s') := ⟨_, _, rfl⟩
  simp only [keyW, e0, e1, Prod.mk.injEq] at h
  obtain ⟨hk, rfl⟩ := h
  simp only [Bool.or_eq_false_iff, decide_eq_false_iff_not, ne_eq, Classical.not_not] at hl
  obtain ⟨h1, h2⟩ := hl
  rw [hk] at h2
  have hs0 : ∀ c ∈ s0.rest, c ∈ s.rest := fun c hc => numW_sub a.size s c (by rw [e0]; exact hc)
  have ht1 : ∀ c ∈ t1, c ∈ s0.rest := fun c hc => (textW_sub (256 - n0) s0).2 c (by rw [e1]; exact hc)
  obtain ⟨a1, a2, a3⟩ := textW_only (fun c hc => hx c (hs0 c hc)) e1 h1
  obtain ⟨b1, b2, b3⟩ := numW_only hx e0 a1
  refine ⟨b1, ?_⟩
  have hb : ∀ c ∈ (numsOf a).take n0 ++ t1, c < 256 := by
    intro c hc
    rcases List.mem_append.1 hc with h | h
    · exact numsOf_lt a c (List.mem_of_mem_take h)
    · exact hx c (hs0 c (ht1 c h))
  have hkn : numsOf k = (numsOf a).take n0 ++ t1 := by rw [← hk, nums_strOf hb]
  have htl : ((numsOf a).take n0).length = n0 := by rw [List.length_take, numsOf_len]; omega
  have hd : (numsOf k).drop n0 = t1 := by rw [hkn]; exact List.drop_left' htl
  have hn : (numsOf k).length - n0 = t1.length := by rw [← List.length_drop, hd]
  rw [b2, a2]
  unfold keyN
  rw [← h2, hd, hn]
  simp
end Go.Proofs.Ytbnacopefclklaa
namespace Go.Proofs.Ytbnacopefclklaa
open Go.RowKit Go.WideShapes

theorem tailW_back (x : EntV) (r : List Nat) (hv : x.val.size ≤ 4096) (hg : x.gone = true → x.val = ByteArray.empty) : tailW ⟨tailN x ++ r, false⟩ = ((x.gone, x.val), ⟨r, false⟩) := by
  unfold tailW tailN
  cases h : x.gone with
  | true =>
    simp only [if_true, numW_back 1 1 r false (by omega) (by omega)]
    rw [hg h]
  | false =>
    simp only [Bool.false_eq_true, if_false, List.append_assoc, numW_back 1 0 _ false (by omega) (by omega)]
    have e1 := textW_back 4096 (numsOf x.val) r false (by rw [numsOf_len]; exact hv) (by rw [numsOf_len]; omega)
    rw [numsOf_len] at e1
    simp only [e1, strOf_nums, if_neg (show ¬ ((0 : Nat) = 1) by omega)]
theorem tailW_only {s s' : Wk} {g : Bool} {v : ByteArray} (hx : ∀ c ∈ s.rest, c < 256) (h : tailW s = ((g, v), s')) (hl : s'.lost = false) (x : EntV) (hxg : x.gone = g) (hxv : x.val = v) : s.lost = false ∧ s.rest = tailN x ++ s'.rest := by
  unfold tailW at h
  simp only at h
  have hle := numW_le 1 s
  split at h
  · rename_i h1
    simp only [Prod.mk.injEq] at h
    obtain ⟨⟨rfl, rfl⟩, rfl⟩ := h
    obtain ⟨b1, b2, b3⟩ := numW_only hx (eta2 (numW 1 s)) hl
    refine ⟨b1, ?_⟩
    rw [b2, h1]
    unfold tailN
    rw [hxg, if_pos rfl]
  · rename_i h1
    simp only [Prod.mk.injEq] at h
    obtain ⟨⟨rfl, hv⟩, rfl⟩ := h
    obtain ⟨a1, a2, a3⟩ := textW_only (fun c hc => hx c (numW_sub _ _ c hc)) (eta2 (textW 4096 (numW 1 s).2)) hl
    obtain ⟨b1, b2, b3⟩ := numW_only hx (eta2 (numW 1 s)) a1
    refine ⟨b1, ?_⟩
    have hb : ∀ c ∈ (textW 4096 (numW 1 s).2).1, c < 256 := fun c hc => hx c (numW_sub _ _ c ((textW_sub _ _).2 c hc))
    have hn : numsOf x.val = (textW 4096 (numW 1 s).2).1 := by rw [hxv, ← hv, nums_strOf hb]
    have hz : x.val.size = (textW 4096 (numW 1 s).2).1.length := by rw [← numsOf_len, hn]
    rw [b2, a2, show (numW 1 s).1 = 0 by omega]
    unfold tailN
    rw [hxg, if_neg (by simp), hn, hz]
    simp
theorem tailW_sub (s : Wk) : ∀ c ∈ (tailW s).2.rest, c ∈ s.rest := by
  intro c hc
  unfold tailW at hc
  simp only at hc
  split at hc
  · exact numW_sub _ _ c hc
  · exact numW_sub _ _ c ((textW_sub _ _).1 c hc)
theorem keyW_sub (a : ByteArray) (s : Wk) : ∀ c ∈ (keyW a s).2.rest, c ∈ s.rest := by
  intro c hc
  unfold keyW at hc
  exact numW_sub _ _ c ((textW_sub _ _).1 c hc)
theorem entW_sub (a : ByteArray) (s : Wk) : ∀ c ∈ (entW a s).2.rest, c ∈ s.rest := by
  intro c hc
  unfold entW at hc
  exact keyW_sub _ _ c (numW_sub _ _ c (tailW_sub _ c hc))
theorem keyW_le (a : ByteArray) (s : Wk) (ha : a.size ≤ 256) : (keyW a s).1.size ≤ 256 := by
  unfold keyW
  have h1 := textW_le (256 - (numW a.size s).1) (numW a.size s).2
  have h2 := numW_le a.size s
  simp only [strOf_size, List.length_append, List.length_take]
  omega
/-- What an entry may be. -/
def oneE (x : EntV) : Nat :=
  if x.key.size < 1 ∨ 256 < x.key.size then 60 else if 4096 < x.val.size then 3 else if x.seq < 0 ∨ 2147483647 < x.seq then 2 else if x.gone = true ∧ x.val ≠ ByteArray.empty then 8 else 0
structure OkE (x : EntV) : Prop where
  key1 : 1 ≤ x.key.size
  key2 : x.key.size ≤ 256
  val : x.val.size ≤ 4096
  seq1 : 0 ≤ x.seq
  seq2 : x.seq ≤ 2147483647
  gone : x.gone = true → x.val = ByteArray.empty
theorem oneE_ok {x : EntV} : oneE x = 0 ↔ OkE x := by
  unfold oneE
  constructor
  · intro h
    split at h
    · cases h
    · split at h
      · cases h
      · split at h
        · cases h
        · split at h
          · cases h
          · rename_i h1 h2 h3 h4
            exact ⟨by omega, by omega, by omega, by omega, by omega, fun hg => Classical.byContradiction fun hv => h4 ⟨hg, hv⟩⟩
  · intro h
    have := h.key1; have := h.key2; have := h.val; have := h.seq1; have := h.seq2
    rw [if_neg (by omega), if_neg (by omega), if_neg (by omega), if_neg (fun hh => hh.2 (h.gone hh.1))]
theorem entW_back (a : ByteArray) (x : EntV) (r : List Nat) (ha : a.size ≤ 256) (h : OkE x) : entW a ⟨entN (numsOf a) x ++ r, false⟩ = (x, ⟨r, false⟩) := by
  unfold entW entN
  have e1 := keyW_back a x.key (smallN x.seq.toNat ++ (tailN x ++ r)) h.key2 ha
  have e2 := numW_back 2147483647 x.seq.toNat (tailN x ++ r) false (by have := h.seq1; have := h.seq2; omega) (by have := h.seq1; have := h.seq2; omega)
  have e3 := tailW_back x r h.val h.gone
  simp only [List.append_assoc, e1, e2, e3]
  rw [Int.toNat_of_nonneg h.seq1]
theorem entW_only {a : ByteArray} {s s' : Wk} {x : EntV} (hx : ∀ c ∈ s.rest, c < 256) (h : entW a s = (x, s')) (hl : s'.lost = false) : s.lost = false ∧ s.rest = entN (numsOf a) x ++ s'.rest := by
  unfold entW at h
  simp only [Prod.mk.injEq] at h
  obtain ⟨rfl, rfl⟩ := h
  have hk : ∀ c ∈ (keyW a s).2.rest, c < 256 := fun c hc => hx c (keyW_sub _ _ c hc)
  have hn : ∀ c ∈ (numW 2147483647 (keyW a s).2).2.rest, c < 256 := fun c hc => hk c (numW_sub _ _ c hc)
  obtain ⟨t1, t2⟩ := tailW_only hn (rfl : tailW (numW 2147483647 (keyW a s).2).2 = (((tailW (numW 2147483647 (keyW a s).2).2).1.1, (tailW (numW 2147483647 (keyW a s).2).2).1.2), (tailW (numW 2147483647 (keyW a s).2).2).2)) hl ⟨(keyW a s).1, (tailW (numW 2147483647 (keyW a s).2).2).1.2, ((numW 2147483647 (keyW a s).2).1 : Nat), (tailW (numW 2147483647 (keyW a s).2).2).1.1⟩ rfl rfl
  obtain ⟨n1, n2, n3⟩ := numW_only hk (eta2 (numW 2147483647 (keyW a s).2)) t1
  obtain ⟨k1, k2⟩ := keyW_only hx (eta2 (keyW a s)) n1
  refine ⟨k1, ?_⟩
  conv => lhs; rw [k2, n2, t2]
  unfold entN
  simp [List.append_assoc]
  rfl
def cutL : Nat → ByteArray → Wk → Option (List EntV × Wk)
  | 0, _, s => some ([], s)
  | k + 1, a, s => if (entW a s).2.lost = true then none else (cutL k (entW a s).1.key (entW a s).2).map fun p => ((entW a s).1 :: p.1, p.2)
def cutE (xs : List Nat) : Option (List EntV) :=
  match cutL (numW 4096 ⟨xs, false⟩).1 ByteArray.empty (numW 4096 ⟨xs, false⟩).2 with
  | none => none
  | some (l, s) => if s.lost = false ∧ s.rest = [] then some l else none
theorem cutL_back : ∀ (l : List EntV) (a : ByteArray) (r : List Nat), a.size ≤ 256 → (∀ x ∈ l, OkE x) → cutL l.length a ⟨entsN (numsOf a) l ++ r, false⟩ = some (l, ⟨r, false⟩)
  | [], a, r, _, _ => rfl
  | x :: l, a, r, ha, h => by
    have hx := h x (by simp)
    have e := entW_back a x (entsN (numsOf x.key) l ++ r) ha hx
    have ih := cutL_back l x.key r hx.key2 (fun y hy => h y (by simp [hy]))
    simp only [List.length_cons, entsN, List.append_assoc, cutL, e, ih]
    simp
theorem cutE_back {l : List EntV} (hn : l.length ≤ 4096) (h : ∀ x ∈ l, OkE x) : cutE (bodyN l) = some l := by
  unfold cutE bodyN
  have e := cutL_back l ByteArray.empty [] (by decide) h
  rw [List.append_nil, nums_empty] at e
  simp only [numW_back 4096 l.length (entsN [] l) false hn (by omega), e]
  simp
theorem cutL_only : ∀ (k : Nat) (a : ByteArray) (s s' : Wk) (l : List EntV), (∀ c ∈ s.rest, c < 256) → cutL k a s = some (l, s') → s'.lost = false → s.lost = false ∧ s.rest = entsN (numsOf a) l ++ s'.rest ∧ l.length = k
  | 0, a, s, s', l, hx, h, hl => by
    simp only [cutL, Option.some.injEq, Prod.mk.injEq] at h
    obtain ⟨rfl, rfl⟩ := h
    exact ⟨hl, by simp [entsN], rfl⟩
  | k + 1, a, s, s', l, hx, h, hl => by
    unfold cutL at h
    split at h
    · cases h
    · rename_i hlo
      obtain ⟨p, hp, he⟩ := Option.map_eq_some_iff.1 h
      obtain ⟨l', s''⟩ := p
      simp only [Prod.mk.injEq] at he
      obtain ⟨rfl, rfl⟩ := he
      obtain ⟨i1, i2, i3⟩ := cutL_only k _ _ _ _ (fun c hc => hx c (entW_sub _ _ c hc)) hp hl
      obtain ⟨e1, e2⟩ := entW_only hx (eta2 (entW a s)) i1
      refine ⟨e1, ?_, by simp [i3]⟩
      simp only [entsN, List.append_assoc]
      rw [e2, i2]
theorem cutE_only {xs : List Nat} {l : List EntV} (hx : ∀ c ∈ xs, c < 256) (h : cutE xs = some l) : xs = bodyN l ∧ l.length ≤ 4096 := by
  unfold cutE at h
  split at h
  · cases h
  · rename_i l' s hc
    split at h
    · rename_i hs
      simp only [Option.some.injEq] at h
      subst h
      obtain ⟨c1, c2, c3⟩ := cutL_only _ _ _ _ _ (fun c hc => hx c (numW_sub _ _ c hc)) hc hs.1
      obtain ⟨n1, n2, n3⟩ := numW_only (s := ⟨xs, false⟩) hx (eta2 (numW 4096 ⟨xs, false⟩)) c1
      refine ⟨?_, by omega⟩
      have n2' : xs = smallN (numW 4096 ⟨xs, false⟩).1 ++ (numW 4096 ⟨xs, false⟩).2.rest := n2
      refine n2'.trans ?_
      rw [c2, hs.2, nums_empty, List.append_nil]
      unfold bodyN
      rw [c3]
    · cases h
/-! ### The order, and what a list may be -/
def lessE (a b : EntV) : Bool := Op.bytesLess a.key.toList b.key.toList || ((a.key.toList == b.key.toList) && decide (b.seq < a.seq))
def checkF : Option EntV → List EntV → Nat
  | _, [] => 0
  | none, x :: l => if oneE x ≠ 0 then oneE x else checkF (some x) l
  | some y, x :: l => if oneE x ≠ 0 then oneE x else if lessE y x = true then checkF (some x) l else 100
def checkE (l : List EntV) : Nat := if 4096 < l.length then 4 else checkF none l
theorem checkF_ok : ∀ (l : List EntV) (p : Option EntV), checkF p l = 0 → ∀ x ∈ l, OkE x
  | [], _, _, x, hx => by simp at hx
  | y :: l, p, h, x, hx => by
    by_cases h1 : oneE y = 0
    · have h2 : checkF (some y) l = 0 := by
        cases p with
        | none => unfold checkF at h; rw [if_neg (by simp [h1])] at h; exact h
        | some z =>
          unfold checkF at h; rw [if_neg (by simp [h1])] at h
          split at h
          · exact h
          · cases h
      rcases List.mem_cons.1 hx with rfl | hx
      · exact oneE_ok.1 h1
      · exact checkF_ok l _ h2 x hx
    · exfalso
      cases p with
      | none => unfold checkF at h; rw [if_pos h1] at h; exact h1 h
      | some z => unfold checkF at h; rw [if_pos h1] at h; exact h1 h
theorem checkE_ok {l : List EntV} (h : checkE l = 0) : l.length ≤ 4096 ∧ ∀ x ∈ l, OkE x := by
  unfold checkE at h
  split at h
  · cases h
  · exact ⟨by omega, checkF_ok l none h⟩
/-- The page of entries, or what is wrong with them. -/
def makeE (l : List EntV) : List Nat × Nat := if checkE l = 0 then (if 65536 < (pageN l).length then ([], 7) else (pageN l, 0)) else ([], checkE l)
def readE (xs : List Nat) : Option (List EntV) :=
  if xs.length < 4 ∨ 65536 < xs.length then none else
  if xs.drop (xs.length - 4) = sum4 (xs.take (xs.length - 4)) then
    match cutE (xs.take (xs.length - 4)) with
    | none => none
    | some l => if checkE l = 0 then some l else none
  else none
theorem makeE_ok {l : List EntV} {xs : List Nat} (h : makeE l = (xs, 0)) : checkE l = 0 ∧ xs = pageN l ∧ xs.length ≤ 65536 := by
  unfold makeE at h
  split at h
  · split at h
    · simp at h
    · rename_i h1 h2
      simp only [Prod.mk.injEq, and_true] at h
      subst h
      exact ⟨h1, rfl, by omega⟩
  · rename_i h1
    simp only [Prod.mk.injEq] at h
    exact absurd h.2 h1
theorem page_cut (l : List EntV) : (pageN l).length - 4 = (bodyN l).length ∧ (pageN l).take (bodyN l).length = bodyN l ∧ (pageN l).drop (bodyN l).length = sum4 (bodyN l) ∧ 4 ≤ (pageN l).length := by
  unfold pageN
  simp [sum4_len]
theorem read_make {l : List EntV} {xs : List Nat} (h : makeE l = (xs, 0)) : readE xs = some l := by
  obtain ⟨h1, rfl, h3⟩ := makeE_ok h
  obtain ⟨p1, p2, p3, p4⟩ := page_cut l
  obtain ⟨c1, c2⟩ := checkE_ok h1
  unfold readE
  rw [if_neg (by omega), p1, p2, p3, if_pos rfl, cutE_back c1 c2]
  simp only [if_pos h1]
theorem make_read {l : List EntV} {xs : List Nat} (hx : ∀ c ∈ xs, c < 256) (h : readE xs = some l) : makeE l = (xs, 0) := by
  unfold readE at h
  split at h
  · cases h
  · rename_i hlen
    split at h
    · rename_i hs
      split at h
      · cases h
      · rename_i l' hc
        split at h
        · rename_i hk
          simp only [Option.some.injEq] at h
          subst h
          obtain ⟨e, _⟩ := cutE_only (fun c hc => hx c (List.mem_of_mem_take hc)) hc
          have hp : xs = pageN l' := by
            unfold pageN
            rw [← e, ← hs, List.take_append_drop]
          unfold makeE
          rw [if_pos hk, ← hp, if_neg (by omega)]
        · cases h
    · cases h
end Go.Proofs.Ytbnacopefclklaa
namespace Go.Proofs.Ytbnacopefclklaa
open Go.RowKit Go.WideShapes

theorem below_alloc (w : World) (o : Obj) : Below w.heap.size w (w.alloc o) := (Below.refl _ _).alloc (Nat.le_refl _) o
theorem lt_heap {w : World} {b : Nat} {o : Obj} (h : w.heap[b]? = some o) : b < w.heap.size := (Array.getElem?_eq_some_iff.1 h).1
theorem below_bt {a b c : World} (h1 : Below a.heap.size a b) (h2 : Below b.heap.size b c) : Below a.heap.size a c := h1.trans (h2.mono h1.size)
abbrev Box := Nat × Array Value × TypeId
structure St (w : World) (bx : List Box) (wc : World) (v : Value) (xs : List Nat) : Prop where
  own : wc.ownsRow w.heap.size 5 1 v xs.length (Bs xs)
  bel : Below w.heap.size w wc
  box : ∀ p ∈ bx, wc.heap[p.1]? = some (.cells p.2.1 p.2.2 (0, 0)) ∧ p.2.2 ≠ 5
theorem own_form {w : World} {base n : Nat} {e : TypeId} {s : Nat} {v : Value} {xs : List Value} (h : w.ownsRow base e s v n xs) : ∃ q m, v = .slice q n m ∧ n ≤ m ∧ m ≤ maxLen ∧ (q = none → m = 0) := by
  rcases h.2 with ⟨hv, hn⟩ | ⟨g, cap, cur, hv, _, _, h1, h2, _⟩
  · exact ⟨none, 0, by rw [hv, hn], by omega, by unfold maxLen; omega, fun _ => rfl⟩
  · exact ⟨_, cap, hv, h1, h2, fun h => by cases h⟩
theorem blk_grown {w w' : World} {base n : Nat} {v : Value} {xs : List Value} (h : w.ownsRow base 5 1 v n xs) (hg : w.grownBy w' v.ownBlock) {B : Nat} {C : Array Value} {t : TypeId} {fr : Nat × Nat} (hB : w.heap[B]? = some (.cells C t fr)) (ht : t ≠ 5) : w'.heap[B]? = some (.cells C t fr) := by
  rw [hg.block B (lt_heap hB) ?_]
  · exact hB
  · intro e
    rcases h.2 with ⟨hv, _⟩ | ⟨g, cap, cur, hv, _, hgg, _⟩
    · rw [hv] at e; cases e
    · rw [hv] at e
      simp only [Value.ownBlock, Option.some.injEq] at e
      subst e
      rw [hB] at hgg
      simp only [Option.some.injEq, Obj.cells.injEq] at hgg
      exact ht hgg.2.1
theorem St.start {w : World} {bx : List Box} (hb : ∀ p ∈ bx, w.heap[p.1]? = some (.cells p.2.1 p.2.2 (0, 0)) ∧ p.2.2 ≠ 5) : St w bx w (.slice none 0 0) [] := ⟨World.ownsRow_nil _ _ _ _, Below.refl _ _, hb⟩
theorem St.call {w : World} {bx : List Box} {wc w1 : World} {v : Value} {xs : List Nat} (h : St w bx wc v xs) (hb : Below wc.heap.size wc w1) : St w bx w1 v xs :=
  ⟨own_below h.own hb, h.bel.trans (hb.mono h.bel.size), fun p hp => ⟨(hb.block _ (lt_heap (h.box p hp).1)).trans (h.box p hp).1, (h.box p hp).2⟩⟩
theorem St.app {w : World} {bx : List Box} {wc w2 : World} {v v2 : Value} {xs ys : List Nat} (h : St w bx wc v xs) (ho : w2.ownsRow w.heap.size 5 1 v2 (xs ++ ys).length (Bs (xs ++ ys))) (hg : wc.grownBy w2 v.ownBlock) : St w bx w2 v2 (xs ++ ys) :=
  ⟨ho, h.bel.grown hg h.bel.size (fun k hk => (h.own.lt k hk).1), fun p hp => ⟨blk_grown h.own hg (h.box p hp).1 (h.box p hp).2, (h.box p hp).2⟩⟩
theorem St.alloc {w : World} {bx : List Box} {wc : World} {v : Value} {xs : List Nat} (h : St w bx wc v xs) (C : Array Value) (t : TypeId) (ht : t ≠ 5) : St w ((wc.heap.size, C, t) :: bx) (wc.alloc (.cells C t)) v xs := by
  have h1 := h.call (below_alloc wc (.cells C t))
  refine ⟨h1.own, h1.bel, fun p hp => ?_⟩
  rcases List.mem_cons.1 hp with rfl | hp
  · exact ⟨heap_alloc_new wc _, ht⟩
  · exact h1.box p hp
theorem St.drop {w : World} {b : Box} {bx : List Box} {wc : World} {v : Value} {xs : List Nat} (h : St w (b :: bx) wc v xs) : St w bx wc v xs := ⟨h.own, h.bel, fun p hp => h.box p (by simp [hp])⟩
theorem St.eq {w : World} {bx : List Box} {wc : World} {v : Value} {xs ys : List Nat} (h : St w bx wc v xs) (e : xs = ys) : St w bx wc v ys := e ▸ h
theorem St.cell {w : World} {bx : List Box} {wc : World} {v : Value} {xs : List Nat} (h : St w bx wc v xs) {B : Nat} {C : Array Value} {t : TypeId} (hm : (B, C, t) ∈ bx) (i : Nat) : wc.cell? ⟨B, i, none⟩ = C[i]? := cell_of_row wc B i C t (0, 0) (h.box _ hm).1
theorem St.size {w : World} {bx : List Box} {wc : World} {v : Value} {xs : List Nat} (h : St w bx wc v xs) : w.heap.size ≤ wc.heap.size := h.bel.size
theorem own_in {w : World} {base : Nat} {p : Option Addr} {m c : Nat} {xs : List Nat} (h : w.ownsRow base 5 1 (.slice p m c) xs.length (Bs xs)) (hx : ∀ c ∈ xs, c < 256) : BIn w p xs := (own_bin h hx).1
theorem BIn.take' {w : World} {p : Option Addr} {xs : List Nat} (h : BIn w p xs) (k : Nat) : BIn w p (xs.take k) := by
  refine ⟨fun h0 => ?_, fun c hc => h.2 c (List.mem_of_mem_take hc)⟩
  have hl : 0 < xs.length := by rw [List.length_take] at h0; omega
  obtain ⟨b, o, hp, hcell⟩ := h.1 hl
  refine ⟨b, o, hp, fun i hi => ?_⟩
  rw [List.length_take] at hi
  rw [hcell i (by omega)]
  simp [List.getD, show i < k by omega]
theorem BIn.drop' {w : World} {b o : Nat} {xs : List Nat} (h : BIn w (some ⟨b, o, none⟩) xs) (k : Nat) : BIn w (some ⟨b, o + k, none⟩) (xs.drop k) := by
  refine ⟨fun h0 => ?_, fun c hc => h.2 c (List.mem_of_mem_drop hc)⟩
  rw [List.length_drop] at h0
  refine ⟨b, o + k, rfl, fun i hi => ?_⟩
  rw [List.length_drop] at hi
  have := h.cell (i := k + i) (by omega)
  rw [show o + k + i = o + (k + i) by omega, this]
  simp [List.getD, List.getElem?_drop]
theorem BIn.addr {w : World} {p : Option Addr} {xs : List Nat} (h : BIn w p xs) (h0 : 0 < xs.length) : ∃ b o, p = some ⟨b, o, none⟩ := by
  obtain ⟨b, o, hp, _⟩ := h.1 h0
  exact ⟨b, o, hp⟩
theorem results_cell1 {fn : Func} {p : Tmp} {ty : TypeId} (h : fn.results = #[.cell p ty]) (tmps : Array Value) (P : Program) (w : World) :
    (results fn tmps).run P w = ((asAddr (tmps.getD p undef)).run P w).andThen fun a w₁ => (loadVar ty a).run P w₁ := by
  simp only [results, h]
  simp [Sem.run_bind, Result.andThen]
theorem size5 : (Try.prog.info? 5).map (·.size) = some 1 := by kernel_rfl
theorem bin_row {w : World} {g : Nat} {t : TypeId} {fr : Nat × Nat} {ys : List Nat} (h : w.heap[g]? = some (.cells (Bs ys).toArray t fr)) (hy : ∀ c ∈ ys, c < 256) : BIn w (some ⟨g, 0, none⟩) ys := by
  refine ⟨fun _ => ⟨g, 0, rfl, fun i hi => ?_⟩, hy⟩
  rw [cell_of_row w g (0 + i) _ t fr h]
  simp [Bs, List.getD, hi]
theorem Bs_splice (L : List Nat) (k : Nat) (xs : List Nat) : splice (Bs L) k (Bs xs) = Bs (L.take k ++ (xs ++ L.drop (k + xs.length))) := by simp [splice, Bs]
end Go.Proofs.Ytbnacopefclklaa
namespace Go.Proofs.Ytbnacopefclklaa
open Go.RowKit Go.WideShapes Go.ChangeShapes Go.Deep Go.Joins

theorem below_drewN {B : Nat} {a w : World} (h : Below B a w) (n : Nat) : Below B a (w.drewN n) := ⟨h.os, h.tape, h.output, h.size, h.block⟩
theorem ba_ext {a b : ByteArray} : a.data.toList = b.data.toList ↔ a = b := by
  constructor
  · intro h
    cases a; cases b
    simp only [ByteArray.mk.injEq] at *
    exact Array.toList_inj.1 h
  · rintro rfl; rfl
theorem eq_str (x y : ByteArray) : (x.toList == y.toList) = decide (x = y) := by
  rw [ByteArray.toList_eq, ByteArray.toList_eq]
  by_cases h : x = y
  · subst h; simp
  · simp only [h, decide_false]
    exact beq_eq_false_iff_ne.2 (fun e => h (ba_ext.1 e))
def wf64 (n : Int) : Prop := -9223372036854775808 ≤ n ∧ n ≤ 9223372036854775807
structure WfE (y : EntV) : Prop where
  key : y.key.size ≤ maxLen
  val : y.val.size ≤ maxLen
  seq : wf64 y.seq
def EntsIn (w : World) (q : Option Addr) (l : List EntV) : Prop :=
  0 < l.length → ∃ b o, q = some ⟨b, o, none⟩ ∧ ∀ i, i < l.length → w.cell? ⟨b, o + i * 4, none⟩ = some (.string (l.getD i zeroE).key) ∧ w.cell? ⟨b, o + (i * 4 + 1), none⟩ = some (.string (l.getD i zeroE).val) ∧ w.cell? ⟨b, o + (i * 4 + 2), none⟩ = some (.int .i64 (l.getD i zeroE).seq) ∧ w.cell? ⟨b, o + (i * 4 + 3), none⟩ = some (.bool (l.getD i zeroE).gone)
structure Ents (w : World) (v : Value) (l : List EntV) : Prop where
  lies : ∃ q c, v = .slice q l.length c ∧ EntsIn w q l ∧ l.length ≤ c ∧ c ≤ maxLen ∧ (q = none → c = 0)
  wf : ∀ y ∈ l, WfE y
theorem EntsIn.below {w w' : World} {q : Option Addr} {l : List EntV} (h : EntsIn w q l) (hb : Below w.heap.size w w') : EntsIn w' q l := by
  intro hp
  obtain ⟨b, o, rfl, hc⟩ := h hp
  refine ⟨b, o, rfl, fun i hi => ?_⟩
  obtain ⟨e0, e1, e2, e3⟩ := hc i hi
  exact ⟨(hb.cell (World.block_lt_of_cell? _ _ e0)).trans e0, (hb.cell (World.block_lt_of_cell? _ _ e1)).trans e1, (hb.cell (World.block_lt_of_cell? _ _ e2)).trans e2, (hb.cell (World.block_lt_of_cell? _ _ e3)).trans e3⟩
theorem Ents.below {w w' : World} {v : Value} {l : List EntV} (h : Ents w v l) (hb : Below w.heap.size w w') : Ents w' v l := by
  obtain ⟨q, c, h1, h2, h3⟩ := h.lies
  exact ⟨⟨q, c, h1, h2.below hb, h3⟩, h.wf⟩
theorem EntsIn.addr {w : World} {q : Option Addr} {l : List EntV} (h : EntsIn w q l) (hw : 0 < l.length) : ∃ b o, q = some ⟨b, o, none⟩ := by
  obtain ⟨b, o, e, _⟩ := h hw
  exact ⟨b, o, e⟩
theorem EntsIn.at {w : World} {b o : Nat} {l : List EntV} (h : EntsIn w (some ⟨b, o, none⟩) l) {k : Nat} (hk : k < l.length) :
    w.cell? ⟨b, o + k * 4, none⟩ = some (.string (l.getD k zeroE).key) ∧ w.cell? ⟨b, o + k * 4 + 1, none⟩ = some (.string (l.getD k zeroE).val) ∧ w.cell? ⟨b, o + k * 4 + 2, none⟩ = some (.int .i64 (l.getD k zeroE).seq) ∧ w.cell? ⟨b, o + k * 4 + 3, none⟩ = some (.bool (l.getD k zeroE).gone) := by
  obtain ⟨b', o', e, hc⟩ := h (by omega)
  simp only [Option.some.injEq, Addr.mk.injEq, and_true] at e
  obtain ⟨rfl, rfl⟩ := e
  obtain ⟨h1, h2, h3, h4⟩ := hc k hk
  exact ⟨h1, by rw [Nat.add_assoc]; exact h2, by rw [Nat.add_assoc]; exact h3, by rw [Nat.add_assoc]; exact h4⟩
theorem getD_mem' {l : List EntV} {k : Nat} (hk : k < l.length) : l.getD k zeroE ∈ l := by
  rw [List.getD_eq_getElem?_getD, List.getElem?_eq_getElem hk]; exact List.getElem_mem _
def entV (y : EntV) : Value := .agg #[.string y.key, .string y.val, .int .i64 y.seq, .bool y.gone]
theorem entV_def (k v : ByteArray) (s : Int) (g : Bool) : entV ⟨k, v, s, g⟩ = .agg #[.string k, .string v, .int .i64 s, .bool g] := rfl
/-- A slice of entries, told by its parts. -/
structure EntsL (w : World) (q : Option Addr) (n : Nat) (l : List EntV) : Prop where
  n : n = l.length
  lies : EntsIn w q l
theorem EntsL.below {w w' : World} {q : Option Addr} {n : Nat} {l : List EntV} (h : EntsL w q n l) (hb : Below w.heap.size w w') : EntsL w' q n l := ⟨h.n, h.lies.below hb⟩
theorem ents_of {w : World} {q : Option Addr} {n c : Nat} {l : List EntV} (h : Ents w (.slice q n c) l) : EntsL w q n l ∧ n ≤ c ∧ c ≤ maxLen ∧ (q = none → c = 0) := by
  obtain ⟨q', c', e, hp, h2⟩ := h.lies
  simp only [Value.slice.injEq] at e
  obtain ⟨rfl, rfl, rfl⟩ := e
  exact ⟨⟨rfl, hp⟩, h2⟩
section
variable {P : Program} {w : World} {H : Type} {enc : TypeId × Value → H}
theorem open_entry {e : TypeId} {f0 f1 f2 f3 : Field} {n : Nat} {cs : List Value} {x : DataW H × List MemPlace} (he : P.underlying e = some (.struct #[f0, f1, f2, f3])) (hl : cs.length = 4)
    (o0 : f0.offset = 0) (o1 : f1.offset = 1) (o2 : f2.offset = 2) (o3 : f3.offset = 3) (c0 : P.cellsOf f0.type = 1) (c1 : P.cellsOf f1.type = 1) (c2 : P.cellsOf f2.type = 1) (c3 : P.cellsOf f3.type = 1) (k0 : P.underlying f0.type = some .string) (k1 : P.underlying f1.type = some .string) (k2 : P.underlying f2.type = some (.int .i64)) (k3 : P.underlying f3.type = some .bool)
    (h : DataW.trod enc P w 0 (fun _ => true) true n e cs = some x) : ∃ y : EntV, cs = [.string y.key, .string y.val, .int .i64 y.seq, .bool y.gone] ∧ WfE y := by
  obtain ⟨xs, k', hk, hxy, _, hxl, hf⟩ := DataW.trod_struct he h
  match xs, hxl, cs, hl with
  | [y0, y1, y2, y3], _, [v0, v1, v2, v3], _ =>
    have r0 := hf 0 f0 rfl
    have r1 := hf 1 f1 rfl
    have r2 := hf 2 f2 rfl
    have r3 := hf 3 f3 rfl
    simp [o0, o1, o2, o3, c0, c1, c2, c3] at r0 r1 r2 r3
    obtain ⟨s, hs, _, hsz⟩ := DataW.trod_string k0 r0
    obtain ⟨s1, hs1, _, hsz1⟩ := DataW.trod_string k1 r1
    obtain ⟨z, hz, _, wz⟩ := DataW.trod_int k2 r2
    obtain ⟨g, hg, _⟩ := DataW.trod_bool k3 r3
    simp only [List.cons.injEq, and_true] at hs hs1 hz hg
    subst hs hs1 hz hg
    exact ⟨⟨s, s1, z, g⟩, rfl, ⟨hsz, hsz1, bounds_i64 wz⟩⟩
theorem open_entries {t e : TypeId} {f0 f1 f2 f3 : Field} {n : Nat} {v : Value} {x : DataW H × List MemPlace} (ht : P.underlying t = some (.slice e)) (he : P.underlying e = some (.struct #[f0, f1, f2, f3])) (ce : P.cellsOf e = 4)
    (o0 : f0.offset = 0) (o1 : f1.offset = 1) (o2 : f2.offset = 2) (o3 : f3.offset = 3) (c0 : P.cellsOf f0.type = 1) (c1 : P.cellsOf f1.type = 1) (c2 : P.cellsOf f2.type = 1) (c3 : P.cellsOf f3.type = 1) (k0 : P.underlying f0.type = some .string) (k1 : P.underlying f1.type = some .string) (k2 : P.underlying f2.type = some (.int .i64)) (k3 : P.underlying f3.type = some .bool)
    (h : DataW.trod enc P w 0 (fun _ => true) true n t [v] = some x) : ∃ l, Ents w v l := by
  rcases open_slice ht h with ⟨hcs, _⟩ | ⟨a, len, cap, m, k, D, Pl, hcs, _, hl, hm, hmm, _, hel⟩
  · simp only [List.cons.injEq, and_true] at hcs
    exact ⟨[], ⟨none, 0, hcs, fun h => absurd h (by simp), by simp, by unfold maxLen; omega, fun _ => rfl⟩, by simp⟩
  · simp only [List.cons.injEq, and_true] at hcs
    have hmc : m = cap := by simpa using hmm
    have each : ∀ i, i < len → ∃ y : EntV, w.cell? (a.add (i * 4)) = some (.string y.key) ∧ w.cell? (a.add (i * 4 + 1)) = some (.string y.val) ∧ w.cell? (a.add (i * 4 + 2)) = some (.int .i64 y.seq) ∧ w.cell? (a.add (i * 4 + 3)) = some (.bool y.gone) ∧ WfE y := by
      intro i hi
      obtain ⟨cs', g1, g2⟩ := hel i (by omega)
      rw [ce] at g1
      obtain ⟨_, hlen, hcell⟩ := World.cells?_some g1
      obtain ⟨y, rfl, wy⟩ := open_entry he hlen o0 o1 o2 o3 c0 c1 c2 c3 k0 k1 k2 k3 g2
      have e0 := hcell 0 (by omega)
      have e1 := hcell 1 (by omega)
      have e2 := hcell 2 (by omega)
      have e3 := hcell 3 (by omega)
      rw [add_add] at e0 e1 e2 e3
      exact ⟨y, by simpa using e0, by simpa using e1, by simpa using e2, by simpa using e3, wy⟩
    haveI : Inhabited EntV := ⟨zeroE⟩
    obtain ⟨f, hf⟩ := choose_lt each
    have hlen : ((List.range len).map f).length = len := by simp
    have hget : ∀ i, i < len → ((List.range len).map f).getD i zeroE = f i := by intro i hi; simp [List.getD, hi]
    refine ⟨(List.range len).map f, ⟨⟨some a, cap, by rw [hlen]; exact hcs, fun hp => ?_, by rw [hlen]; exact hl, hm, by simp⟩, ?_⟩⟩
    · rw [hlen] at hp
      obtain ⟨b, o, s⟩ := a
      obtain rfl : s = none := by
        have := World.cell?_spot (hf 0 (by omega)).1
        simpa [Addr.add] using this
      refine ⟨b, o, rfl, fun i hi => ?_⟩
      rw [hlen] at hi
      obtain ⟨e0, e1, e2, e3, _⟩ := hf i hi
      rw [hget i hi]
      rw [add_plain] at e0 e1 e2 e3
      exact ⟨e0, e1, e2, e3⟩
    · intro y hy
      simp only [List.mem_map, List.mem_range] at hy
      obtain ⟨i, hi, rfl⟩ := hy
      exact (hf i hi).2.2.2.2
end
end Go.Proofs.Ytbnacopefclklaa
namespace Go.Proofs.Ytbnacopefclklaa
open Go.RowKit Go.WideShapes

def intOf : Value → Int
  | .int _ n => n
  | _ => 0
theorem str_at (s : ByteArray) (k : Nat) (h : k < s.size) (w : World) : (Instr.index 9 (.string s) (.int .i64 k)).run Try.prog w = .ok (.int .u8 ((numsOf s).getD k 0 : Nat)) w := by
  rw [run_index_string w 9 s .i64 k Try.underlying9, dif_pos ⟨by omega, by omega⟩]
  have h2 : k < (numsOf s).length := by rw [numsOf_len]; exact h
  rw [List.getD_eq_getElem?_getD, List.getElem?_eq_getElem h2]
  simp [numsOf, ByteArray.getElem_eq_getElem_data]
set_option maxHeartbeats 1000000 in
theorem less_any (a b : EntV) (w : World) : Calls Try.prog 25 #[entV a, entV b] w fun e w' => e = .returned (.bool (lessE a b)) ∧ Below w.heap.size w w' := by
  obtain ⟨ak, av, az, ag⟩ := a
  obtain ⟨bk, bv, bz, bg⟩ := b
  rw [entV_def, entV_def]
  obtain ⟨r, hr⟩ : ∃ r, lessE ⟨ak, av, az, ag⟩ ⟨bk, bv, bz, bg⟩ = r := ⟨_, rfl⟩
  rw [hr]
  unfold lessE at hr
  simp only at hr
  by_cases h1 : Op.bytesLess ak.toList bk.toList = true
  · have HR : Hid (r = true) := by show _ = _; rw [← hr, h1]; rfl
    clear hr
    go_enter Try.func25, Try.ntmps25
    go_wp2
    go_ret
    exact ⟨by rw [HR.out]; rfl, (below_alloc w _).alloc (by simp) _⟩
  · have h1' : Op.bytesLess ak.toList bk.toList = false := by simpa using h1
    clear h1
    by_cases h2 : (ak.toList == bk.toList) = true
    · have HR : Hid (r = decide (bz < az)) := by show _ = _; rw [← hr, h1', h2]; simp
      clear hr
      go_enter Try.func25, Try.ntmps25
      go_wp2
      go_ret
      exact ⟨by rw [HR.out]; rfl, (below_alloc w _).alloc (by simp) _⟩
    · have h2' : (ak.toList == bk.toList) = false := by simpa using h2
      have HR : Hid (r = false) := by show _ = _; rw [← hr, h1', h2']; rfl
      clear hr h2
      go_enter Try.func25, Try.ntmps25
      go_wp2
      go_ret
      exact ⟨by rw [HR.out]; rfl, (below_alloc w _).alloc (by simp) _⟩
theorem nonempty_of {v : ByteArray} (h : v ≠ ByteArray.empty) : v.toList.isEmpty = false := by
  rw [ByteArray.toList_eq]
  cases hv : v.data.toList with
  | nil => exact absurd (ba_ext.1 (hv.trans (show [] = ByteArray.empty.data.toList from rfl))) h
  | cons a l => rfl
def isKeyB (s : ByteArray) : Bool := decide (1 ≤ s.size) && decide (s.size ≤ 256)
theorem isKey_any (s : ByteArray) (w : World) (r : Bool) (hr : isKeyB s = r) : Calls Try.prog 47 #[.string s] w fun e w' => e = .returned (.bool r) ∧ w' = w := by
  unfold isKeyB at hr
  by_cases h1 : 1 ≤ s.size
  · by_cases h2 : s.size ≤ 256
    · have HR : Hid (r = true) := by show _ = _; rw [← hr]; simp [h1, h2]
      have g1 : (1 : Int) ≤ (s.size : Int) := by omega
      have g2 : (s.size : Int) ≤ 256 := by omega
      clear hr h1 h2
      go_enter Try.func47, Try.ntmps47
      go_wp2
      go_ret
      exact ⟨by rw [HR.out]; rfl, rfl⟩
    · have HR : Hid (r = false) := by show _ = _; rw [← hr]; simp [h1, h2]
      have g1 : (1 : Int) ≤ (s.size : Int) := by omega
      have g2 : decide ((s.size : Int) ≤ 256) = false := decide_eq_false (by omega)
      clear hr h1 h2
      go_enter Try.func47, Try.ntmps47
      go_wp2
      go_ret
      exact ⟨by rw [HR.out]; rfl, rfl⟩
  · have HR : Hid (r = false) := by show _ = _; rw [← hr]; simp [h1]
    have g1 : (s.size : Int) < 1 := by omega
    clear hr h1
    go_enter Try.func47, Try.ntmps47
    go_wp2
    go_ret
    exact ⟨by rw [HR.out]; rfl, rfl⟩
theorem box4 {B : Nat} {w w' : World} {a b c d : Value} {t : TypeId} {g : Nat} (hg : g = w.heap.size) (hb : Below B (w.alloc (.cells #[a, b, c, d] t)) w') (hB : w.heap.size < B) : w'.cell? ⟨g, 0, none⟩ = some a ∧ w'.cell? ⟨g, 1, none⟩ = some b ∧ w'.cell? ⟨g, 2, none⟩ = some c ∧ w'.cell? ⟨g, 3, none⟩ = some d := by
  subst hg
  have h : w'.heap[w.heap.size]? = some (.cells #[a, b, c, d] t (0, 0)) := (hb.block _ hB).trans (heap_alloc_new w _)
  exact ⟨Lib.cell_of_heap h 0, Lib.cell_of_heap h 1, Lib.cell_of_heap h 2, Lib.cell_of_heap h 3⟩
set_option maxHeartbeats 2000000 in
theorem checkEntry_any (x : EntV) (w : World) (E : Nat) (hE : oneE x = E) : Calls Try.prog 44 #[entV x] w fun e w' => e = .returned (.int .i64 (E : Int)) ∧ Below w.heap.size w w' := by
  obtain ⟨k, v, s, g⟩ := x
  rw [entV_def]
  unfold oneE at hE
  simp only at hE
  by_cases h1 : k.size < 1 ∨ 256 < k.size
  · have hk : isKeyB k = false := by unfold isKeyB; simp; omega
    rw [if_pos h1] at hE
    subst hE
    clear h1
    go_enter Try.func44, Try.ntmps44
    go_wp2_with (go_at_call 47; refine (isKey_any k _ false hk).mono ?_; rintro e wx ⟨rfl, rfl⟩)
    go_ret
    exact ⟨rfl, below_alloc _ _⟩
  · have hk : isKeyB k = true := by unfold isKeyB; simp; omega
    rw [if_neg h1] at hE
    clear h1
    by_cases h2 : 4096 < v.size
    · rw [if_pos h2] at hE
      subst hE
      have g2 : (4096 : Int) < (v.size : Int) := by omega
      clear h2
      go_enter Try.func44, Try.ntmps44
      go_wp2_with (go_at_call 47; refine (isKey_any k _ true hk).mono ?_; rintro e wx ⟨rfl, rfl⟩)
      go_ret
      exact ⟨rfl, below_alloc _ _⟩
    · rw [if_neg h2] at hE
      have g2 : (v.size : Int) ≤ 4096 := by omega
      clear h2
      by_cases h3 : s < 0
      · rw [if_pos (.inl h3)] at hE
        subst hE
        go_enter Try.func44, Try.ntmps44
        go_wp2_with (go_at_call 47; refine (isKey_any k _ true hk).mono ?_; rintro e wx ⟨rfl, rfl⟩)
        go_ret
        exact ⟨rfl, below_alloc _ _⟩
      · have g3 : 0 ≤ s := by omega
        by_cases h4 : 2147483647 < s
        · rw [if_pos (.inr h4)] at hE
          subst hE
          clear h3
          go_enter Try.func44, Try.ntmps44
          go_wp2_with (go_at_call 47; refine (isKey_any k _ true hk).mono ?_; rintro e wx ⟨rfl, rfl⟩)
          go_ret
          exact ⟨rfl, below_alloc _ _⟩
        · rw [if_neg (by omega)] at hE
          have g4 : s ≤ 2147483647 := by omega
          clear h3 h4
          cases g with
          | false =>
            rw [if_neg (by simp)] at hE
            subst hE
            go_enter Try.func44, Try.ntmps44
            go_wp2_with (go_at_call 47; refine (isKey_any k _ true hk).mono ?_; rintro e wx ⟨rfl, rfl⟩)
            go_ret
            exact ⟨rfl, below_alloc _ _⟩
          | true =>
            by_cases h5 : v = ByteArray.empty
            · rw [if_neg (by simp [h5])] at hE
              subst hE h5
              go_enter Try.func44, Try.ntmps44
              go_wp2_with (go_at_call 47; refine (isKey_any k _ true hk).mono ?_; rintro e wx ⟨rfl, rfl⟩)
              go_ret
              exact ⟨rfl, below_alloc _ _⟩
            · rw [if_pos ⟨rfl, h5⟩] at hE
              subst hE
              have g5' : v.toList.isEmpty = false := nonempty_of h5
              clear h5
              go_enter Try.func44, Try.ntmps44
              go_wp2_with (go_at_call 47; refine (isKey_any k _ true hk).mono ?_; rintro e wx ⟨rfl, rfl⟩)
              go_ret
              exact ⟨rfl, below_alloc _ _⟩
end Go.Proofs.Ytbnacopefclklaa
namespace Go.Proofs.Ytbnacopefclklaa
open Go.RowKit Go.WideShapes

theorem sh_end1 {a b : List Nat} {k : Nat} (h : a.length ≤ k) : sharedN (a.drop k) (b.drop k) = 0 := by rw [List.drop_eq_nil_of_le h]; simp [sharedN]
theorem sh_end2 {a b : List Nat} {k : Nat} (h : b.length ≤ k) : sharedN (a.drop k) (b.drop k) = 0 := by rw [List.drop_eq_nil_of_le h]; cases a.drop k <;> simp [sharedN]
theorem sh_at {a b : List Nat} {k : Nat} (ha : k < a.length) (hb : k < b.length) : sharedN (a.drop k) (b.drop k) = if a.getD k 0 = b.getD k 0 then sharedN (a.drop (k + 1)) (b.drop (k + 1)) + 1 else 0 := by
  rw [drop_at a k ha, drop_at b k hb]; rfl
theorem str_eq {xs ys : List Nat} (hx : ∀ c ∈ xs, c < 256) (hy : ∀ c ∈ ys, c < 256) : ((strOf xs).toList == (strOf ys).toList) = decide (xs = ys) := by
  rw [ByteArray.toList_eq, ByteArray.toList_eq, Bool.eq_iff_iff]
  simp only [decide_eq_true_eq, beq_iff_eq]
  exact strOf_eq hx hy
end Go.Proofs.Ytbnacopefclklaa
